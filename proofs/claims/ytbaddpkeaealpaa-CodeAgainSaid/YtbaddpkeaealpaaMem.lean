/- A Reader in memory, and the methods that only look at it or cut a piece off. -/
import Derived.Test.YtbaddpkeaealpaaPure
import Derived.Test.YtbaddpkeaealpaaProg
import Derived.WalkKit
import Derived.ProofKit
import Derived.Below
import Derived.Lib.Hide
import Derived.OneCell
import Derived.OwnWalk
namespace Go.Proofs.Ytbaddpkeaealpaa
open Go.ChangeShapes Go.WideShapes Go.ChangeAt Go.RowKit

/-- The Reader at block b: its unread bytes and its flag. -/
def Rd (T : TypeId) (w : World) (b : Nat) (s : RS) : Prop := w.heap[b]? = some (.cells #[.string ⟨s.1.toArray⟩, .bool s.2] T (0, 0))
theorem Rd.lt {T : TypeId} {w : World} {b : Nat} {s : RS} (h : Rd T w b s) : b < w.heap.size := (Array.getElem?_eq_some_iff.1 h).1
theorem Rd.cell0 {T : TypeId} {w : World} {b : Nat} {s : RS} (h : Rd T w b s) : w.cell? ⟨b, 0, none⟩ = some (.string ⟨s.1.toArray⟩) := by
  rw [cell_of_row w b 0 _ T (0, 0) h]; rfl
theorem Rd.cell1 {T : TypeId} {w : World} {b : Nat} {s : RS} (h : Rd T w b s) : w.cell? ⟨b, 1, none⟩ = some (.bool s.2) := by
  rw [cell_of_row w b 1 _ T (0, 0) h]; rfl
theorem Rd.frozen {T : TypeId} {w : World} {b : Nat} {s : RS} (h : Rd T w b s) (j : Nat) : w.frozen? ⟨b, j, none⟩ = false := frozen_of_row w b j _ T h
theorem Rd.set0 {T : TypeId} {w : World} {b : Nat} {s : RS} (h : Rd T w b s) (l : List UInt8) : Rd T (w.setCell ⟨b, 0, none⟩ (.string ⟨l.toArray⟩)) b (l, s.2) := by
  unfold Rd
  rw [heap_setCell_same w b 0 _ T _ h]; rfl
theorem Rd.set1 {T : TypeId} {w : World} {b : Nat} {s : RS} (h : Rd T w b s) (f : Bool) : Rd T (w.setCell ⟨b, 1, none⟩ (.bool f)) b (s.1, f) := by
  unfold Rd
  rw [heap_setCell_same w b 1 _ T _ h]; rfl
theorem Rd.kept {T : TypeId} {w w' : World} {b : Nat} {s : RS} {row : Option Nat} (h : Rd T w b s) (hg : w.grownBy w' row) (hne : some b ≠ row) : Rd T w' b s := by
  unfold Rd
  rw [hg.block b h.lt hne]; exact h
theorem grown_set (w : World) (b j : Nat) (v : Value) : w.grownBy (w.setCell ⟨b, j, none⟩ v) (some b) :=
  ⟨rfl, rfl, rfl, by simp [World.setCell], fun k _ hk => Below.heap_setCell _ _ _ _ (fun e => hk (by simp [e]))⟩
theorem grown_trans {w w1 w2 : World} {row : Option Nat} (h : w.grownBy w1 row) (k : w1.grownBy w2 row) : w.grownBy w2 row :=
  ⟨k.os.trans h.os, k.tape.trans h.tape, k.output.trans h.output, Nat.le_trans h.size k.size, fun i hi hne => (k.block i (Nat.lt_of_lt_of_le hi h.size) hne).trans (h.block i hi hne)⟩

theorem ext (D : ByteArray) (a b : Nat) : D.extract a b = ⟨((D.data.toList.drop a).take (b - a)).toArray⟩ := by
  have h : (D.extract a b).data.toList = (D.data.toList.drop a).take (b - a) := by
    rw [ByteArray.data_extract, Array.toList_extract, List.extract_eq_take_drop]
  rw [← h]
theorem bytes_back (l : List UInt8) : (⟨l.toArray⟩ : ByteArray).data.toList = l := rfl
theorem bytes_size (l : List UInt8) : (⟨l.toArray⟩ : ByteArray).size = l.length := by simp [ByteArray.size]
theorem Rd.cellD {T : TypeId} {w : World} {b : Nat} {D : ByteArray} {f : Bool} (h : Rd T w b (D.data.toList, f)) : w.cell? ⟨b, 0, none⟩ = some (.string D) := h.cell0
theorem state_of (s : RS) : ∃ (D : ByteArray) (f : Bool), s = (D.data.toList, f) := ⟨⟨s.1.toArray⟩, s.2, rfl⟩
theorem takeP_low {n : Int} {s : RS} (h : n < 0) : takeP n s = ([], bad) := by rw [takeP, if_pos (Or.inl h)]
theorem takeP_high {n : Int} {s : RS} (h : (s.1.length : Int) < n) : takeP n s = ([], bad) := by rw [takeP, if_pos (Or.inr h)]
theorem takeP_mid {n : Nat} {s : RS} (h : n ≤ s.1.length) : takeP n s = (s.1.take n, (s.1.drop n, s.2)) := by
  rw [takeP, if_neg (by omega)]; rfl

theorem fail_any {b : Nat} {s : RS} {w : World} (h : Rd 57 w b s) :
    Calls Try.prog 44 #[.pointer (some ⟨b, 0, none⟩)] w fun e w' => e = .returned (.tuple #[]) ∧ Rd 57 w' b bad ∧ w.grownBy w' (some b) := by
  have c0 := h.cell0
  have c1 := h.cell1
  have f0 := h.frozen 0
  have f1 := h.frozen 1
  have HH := Lib.hid h
  clear h
  go_enter Try.func44, Try.ntmps44
  go_wp2
  go_end0
  exact ⟨rfl, (HH.out.set0 []).set1 true, grown_trans (grown_set _ _ _ _) (grown_set _ _ _ _)⟩
theorem failR_any {b : Nat} {s : RS} {w : World} (h : Rd 59 w b s) :
    Calls Try.prog 45 #[.pointer (some ⟨b, 0, none⟩)] w fun e w' => e = .returned (.tuple #[]) ∧ Rd 59 w' b bad ∧ w.grownBy w' (some b) := by
  have c0 := h.cell0
  have c1 := h.cell1
  have f0 := h.frozen 0
  have f1 := h.frozen 1
  have HH := Lib.hid h
  clear h
  go_enter Try.func45, Try.ntmps45
  go_wp2
  go_end0
  exact ⟨rfl, (HH.out.set0 []).set1 true, grown_trans (grown_set _ _ _ _) (grown_set _ _ _ _)⟩
theorem left_any {b : Nat} {s : RS} {w : World} (h : Rd 57 w b s) :
    Calls Try.prog 33 #[.pointer (some ⟨b, 0, none⟩)] w fun e w' => e = .returned (.int .i64 s.1.length) ∧ w = w' := by
  have c0 := h.cell0
  have HH := Lib.hid h
  clear h
  go_enter Try.func33, Try.ntmps33
  go_wp2
  go_ret
  exact ⟨rfl, rfl⟩
theorem leftR_any {b : Nat} {s : RS} {w : World} (h : Rd 59 w b s) :
    Calls Try.prog 34 #[.pointer (some ⟨b, 0, none⟩)] w fun e w' => e = .returned (.int .i64 s.1.length) ∧ w = w' := by
  have c0 := h.cell0
  have HH := Lib.hid h
  clear h
  go_enter Try.func34, Try.ntmps34
  go_wp2
  go_ret
  exact ⟨rfl, rfl⟩
theorem done_any {b : Nat} {s : RS} {w : World} (h : Rd 57 w b s) :
    Calls Try.prog 35 #[.pointer (some ⟨b, 0, none⟩)] w fun e w' => e = .returned (.bool (doneP s)) ∧ w = w' := by
  have c0 := h.cell0
  have c1 := h.cell1
  obtain ⟨l, f⟩ := s
  have HH := Lib.hid h
  clear h
  go_enter Try.func35, Try.ntmps35
  cases f
  all_goals
    go_wp2
    go_ret
    exact ⟨rfl, rfl⟩
theorem doneR_any {b : Nat} {s : RS} {w : World} (h : Rd 59 w b s) :
    Calls Try.prog 36 #[.pointer (some ⟨b, 0, none⟩)] w fun e w' => e = .returned (.bool (doneP s)) ∧ w = w' := by
  have c0 := h.cell0
  have c1 := h.cell1
  obtain ⟨l, f⟩ := s
  have HH := Lib.hid h
  clear h
  have he : ((l.length : Int) == 0) = l.isEmpty := by
    cases l with
    | nil => rfl
    | cons a l => simp; omega
  have HE := Lib.hid he
  clear he
  go_enter Try.func36, Try.ntmps36
  cases f
  all_goals
    go_wp2
    go_ret
    exact ⟨by simp [doneP, ← HE.out], rfl⟩

theorem take_any {b : Nat} {s : RS} {w : World} (n : Int) (h : Rd 57 w b s) :
    Calls Try.prog 31 #[.pointer (some ⟨b, 0, none⟩), .int .i64 n] w fun e w' => e = .returned (.string ⟨(takeP n s).1.toArray⟩) ∧ Rd 57 w' b (takeP n s).2 ∧ w.grownBy w' (some b) := by
  obtain ⟨D, f, rfl⟩ := state_of s
  have c0 := h.cellD
  have f0 := h.frozen 0
  have HH := Lib.hid h
  clear h
  have hlen : D.data.toList.length = D.size := by rw [Array.length_toList]; rfl
  rcases (show n < 0 ∨ (0 ≤ n ∧ (D.size : Int) < n) ∨ (0 ≤ n ∧ n ≤ (D.size : Int)) by omega) with h | ⟨h0, h⟩ | ⟨h0, h⟩
  · rw [takeP_low h]
    clear hlen
    go_enter Try.func31, Try.ntmps31
    go_wp2_with (go_at_call 44; refine (fail_any HH.out).mono ?_; rintro e w1 ⟨rfl, h1, h2⟩)
    go_ret
    exact ⟨rfl, h1, h2⟩
  · rw [takeP_high (by rw [hlen]; exact h)]
    clear hlen
    go_enter Try.func31, Try.ntmps31
    go_wp2_with (go_at_call 44; refine (fail_any HH.out).mono ?_; rintro e w1 ⟨rfl, h1, h2⟩)
    go_ret
    exact ⟨rfl, h1, h2⟩
  · obtain ⟨k, rfl⟩ : ∃ k : Nat, n = k := ⟨n.toNat, by omega⟩
    have hk : k ≤ D.size := by omega
    rw [takeP_mid (by rw [hlen]; exact hk)]
    have HL := Lib.hid hlen
    clear hlen
    go_enter Try.func31, Try.ntmps31
    go_wp2
    go_ret
    have hl := HL.out
    refine ⟨by simp [ext], ?_, grown_set _ _ _ _⟩
    have := HH.out.set0 (D.data.toList.drop k)
    rw [ext, List.take_of_length_le (by rw [List.length_drop, hl]; exact Nat.le_refl _)]
    exact this
theorem takeR_any {b : Nat} {s : RS} {w : World} (n : Int) (h : Rd 59 w b s) (hg : Good s) :
    Calls Try.prog 32 #[.pointer (some ⟨b, 0, none⟩), .int .i64 n] w fun e w' => e = .returned (.string ⟨(takeP n s).1.toArray⟩) ∧ Rd 59 w' b (takeP n s).2 ∧ w.grownBy w' (some b) := by
  obtain ⟨D, f, rfl⟩ := state_of s
  have c0 := h.cellD
  have c1 := h.cell1
  have f0 := h.frozen 0
  have HH := Lib.hid h
  clear h
  have hlen : D.data.toList.length = D.size := by rw [Array.length_toList]; rfl
  cases f with
  | true =>
    rw [takeP_bad hg rfl]
    clear hlen hg
    go_enter Try.func32, Try.ntmps32
    go_wp2_with (go_at_call 45; refine (failR_any HH.out).mono ?_; rintro e w1 ⟨rfl, h1, h2⟩)
    go_ret
    exact ⟨rfl, h1, h2⟩
  | false =>
    clear hg
    rcases (show n < 0 ∨ (0 ≤ n ∧ (D.size : Int) < n) ∨ (0 ≤ n ∧ n ≤ (D.size : Int)) by omega) with h | ⟨h0, h⟩ | ⟨h0, h⟩
    · rw [takeP_low h]
      clear hlen
      go_enter Try.func32, Try.ntmps32
      go_wp2_with (go_at_call 45; refine (failR_any HH.out).mono ?_; rintro e w1 ⟨rfl, h1, h2⟩)
      go_ret
      exact ⟨rfl, h1, h2⟩
    · rw [takeP_high (by rw [hlen]; exact h)]
      clear hlen
      go_enter Try.func32, Try.ntmps32
      go_wp2_with (go_at_call 45; refine (failR_any HH.out).mono ?_; rintro e w1 ⟨rfl, h1, h2⟩)
      go_ret
      exact ⟨rfl, h1, h2⟩
    · obtain ⟨k, rfl⟩ : ∃ k : Nat, n = k := ⟨n.toNat, by omega⟩
      have hk : k ≤ D.size := by omega
      rw [takeP_mid (by rw [hlen]; exact hk)]
      have HL := Lib.hid hlen
      clear hlen
      go_enter Try.func32, Try.ntmps32
      go_wp2
      go_ret
      have hl := HL.out
      refine ⟨by simp [ext], ?_, grown_set _ _ _ _⟩
      have := HH.out.set0 (D.data.toList.drop k)
      rw [ext, List.take_of_length_le (by rw [List.length_drop, hl]; exact Nat.le_refl _)]
      exact this
end Go.Proofs.Ytbaddpkeaealpaa
