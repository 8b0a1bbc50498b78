/- The calls of the laws, with strings as variables and what they hold beside. -/
import Derived.Test.YtbmnoneeialfpaaDoorSmall
namespace Go.Proofs.YtbmnoneeialfpaaDoor
open Go.ChangeShapes Go.WideShapes Go.ChangeAt Go.RowKit

theorem St.drewN {w0 w : World} (h : St w0 w) (n : Nat) : St w0 (w.drewN n) :=
  ⟨⟨h.1.tabs, h.1.win⟩, ⟨h.2.os, h.2.tape, h.2.output, h.2.size, h.2.block⟩⟩
theorem RowAt.drewN {w : World} {g : Nat} {xs : List Nat} (h : RowAt w g xs) (n : Nat) : RowAt (w.drewN n) g xs := h
theorem few_any (s : ByteArray) (_hs : s.size ≤ 9223372036854775807) (b : Bool) (hb : decide (s.size ≤ 500) = b) (w : World) :
    Calls Tryd.prog 9 #[.string s] w fun e w' => e = .returned (.bool b) ∧ w = w' := by
  by_cases h : s.size ≤ 500
  · rw [decide_eq_true h] at hb
    subst hb
    have h' : (s.size : Int) ≤ 500 := by omega
    go_enter Tryd.func9, Tryd.ntmps9
    go_wp2
    go_ret
    exact ⟨rfl, rfl⟩
  · rw [decide_eq_false h] at hb
    subst hb
    have h' : ¬ (s.size : Int) ≤ 500 := by omega
    go_enter Tryd.func9, Tryd.ntmps9
    go_wp2
    go_ret
    exact ⟨rfl, rfl⟩
theorem small_is {w0 w : World} (h : St w0 w) : Calls Tryd.prog 8 #[] w fun e w' => e = .returned (.bool true) ∧ St w0 w' :=
  (small_any w h.1).mono fun _ _ h1 => ⟨h1.1, h.next h1.2⟩
theorem bytes_is {a b : ByteArray} (h : a.data.toList = b.data.toList) : a = b := by
  cases a; cases b
  simp only [ByteArray.mk.injEq] at h ⊢
  exact Array.toList_inj.1 h
theorem eq_lists (a b : ByteArray) : (a.toList == b.toList) = (a == b) := by
  rw [bytes_eqb, Bool.eq_iff_iff, beq_iff_eq, ByteArray.toList_eq, ByteArray.toList_eq, decide_eq_true_eq]
  exact ⟨bytes_is, fun h => by rw [h]⟩
theorem repair_is (s t : ByteArray) (ht : t.data.toList = repairL s.data.toList) (hs : s.size ≤ 1000000) {w0 w : World} (h : St w0 w) :
    Calls Tryd.prog 18 #[.string s] w fun e w' => e = .returned (.string t) ∧ St w0 w' := by
  have e : (⟨(repairL s.data.toList).toArray⟩ : ByteArray) = t := bytes_is (by rw [ht])
  have := repair_any s hs w
  rw [e] at this
  exact this.mono fun _ _ h1 => ⟨h1.1, h.next h1.2⟩
theorem valid_is (s : ByteArray) (b : Bool) (hb : validL s.data.toList = b) (hs : s.size ≤ 1000000) {w0 w : World} (h : St w0 w) :
    Calls Tryd.prog 14 #[.string s] w fun e w' => e = .returned (.bool b) ∧ St w0 w' := valid_known s b hs hb h
/-- Also of rows made before: they stand. -/
theorem runes_is (s : ByteArray) (xs : List Nat) (hx : runesL s.data.toList = xs) (n : Nat) (hn : xs.length = n) (hs : s.size ≤ 1000000) {w0 w : World} (h : St w0 w) :
    Calls Tryd.prog 12 #[.string s] w fun e w' => ∃ g, e = .returned (.slice (some ⟨g, 0, none⟩) n n) ∧ RowAt w' g xs ∧ Below w.heap.size w w' ∧ St w0 w' := by
  subst hx hn
  exact (runes_any s hs w).mono fun e w' ⟨g, h1, _, h2, h3⟩ => ⟨g, h1, h2, h3, h.next h3⟩
theorem rune_is (n : Nat) (hn : cpB n = true) (r : ByteArray) (hr : r.data.toList = encL n) (w : World) :
    Calls Tryd.prog 16 #[.int .i64 n] w fun e w' => e = .returned (.string r) ∧ w = w' := by
  have e : (⟨(runeL n).toArray⟩ : ByteArray) = r := bytes_is (by unfold runeL; rw [if_pos ⟨Int.natCast_nonneg n, by rw [Int.toNat_natCast]; exact hn⟩, Int.toNat_natCast, hr])
  have := rune_any n w
  rw [e] at this
  exact this
theorem decode_is (n s t : ByteArray) (b : Bool) (ht : t.data.toList = decL (kindL n.data.toList) s.data.toList) (hb : decide (kindL n.data.toList ≠ 0) = b) (hn : n.size ≤ 1000000) (hs : s.size ≤ 1000000) {w0 w : World} (h : St w0 w) :
    Calls Tryd.prog 10 #[.string n, .string s] w fun e w' => e = .returned (.tuple #[.string t, .bool b]) ∧ St w0 w' :=
  dec_known n s t b hn hs (bytes_is (by rw [ht])) hb h
theorem list_of (l : List UInt8) : ∃ t : ByteArray, t.data.toList = l := ⟨⟨l.toArray⟩, rfl⟩
theorem size_list (t : ByteArray) : t.size = t.data.toList.length := rfl
theorem list_append (a b : ByteArray) : (a ++ b).data.toList = a.data.toList ++ b.data.toList := by
  rw [ByteArray.data_append, Array.toList_append]
end Go.Proofs.YtbmnoneeialfpaaDoor
