/- Package charset: the variables that it reads; validity, the encoding of a code point, the code points of single bytes. -/
import Derived.Test.YtbmnoneeialfpaaDoorShelf
import Derived.Test.YtbmnoneeialfpaaDoorBridge
import Derived.WalkKit
import Derived.ProofKit
import Derived.Lib.Hide
namespace Go.Proofs.YtbmnoneeialfpaaDoor
open Go.ChangeShapes Go.WideShapes Go.ChangeAt Go.RowKit

/-- The code points of the bytes 128 to 159 in windows-1252. -/
def winL : List Nat := [8364, 129, 8218, 402, 8222, 8230, 8224, 8225, 710, 8240, 352, 8249, 338, 141, 381, 143, 144, 8216, 8217, 8220, 8221, 8226, 8211, 8212, 732, 8482, 353, 8250, 339, 157, 382, 376]
/-- What the package and the library read of their variables. -/
structure Vars (w : World) : Prop where
  tabs : Lib.Utf8Tabs 0 1 w
  win : ∀ i, i < 32 → w.cell? ⟨2, i, none⟩ = some (.int .u16 (winL.getD i 0 : Nat))
theorem Vars.lt {w : World} (h : Vars w) : 2 < w.heap.size := by
  rcases Nat.lt_or_ge 2 w.heap.size with h' | h'
  · exact h'
  · have := h.win 0 (by omega)
    simp [World.cell?, Array.getElem?_eq_none h'] at this
theorem Vars.below {w w' : World} (h : Vars w) (hb : Below w.heap.size w w') : Vars w' :=
  ⟨Utf8Tabs_below h.tabs hb, fun i hi => by rw [hb.cell (p := ⟨2, i, none⟩) h.lt]; exact h.win i hi⟩

theorem valid_any (s : ByteArray) (hs : s.size ≤ 1000000) (w : World) (hv : Vars w) :
    Calls Tryd.prog 14 #[.string s] w fun e w' => e = .returned (.bool (validL s.data.toList)) ∧ Below w.heap.size w w' := by
  have cV := Tryd.utf8_ValidString s w (by omega) hv.tabs
  rw [valid_eq] at cV
  generalize validL s.data.toList = V at cV ⊢
  go_enter Tryd.func14, Tryd.ntmps14
  go_wp2_with (go_at_call 28; refine cV.mono ?_; rintro e w' ⟨rfl, hb⟩)
  go_ret
  exact ⟨rfl, hb⟩

/-- What Rune makes of an integer. -/
def runeL (n : Int) : List UInt8 := if 0 ≤ n ∧ cpB n.toNat = true then encL n.toNat else encL 65533
theorem encode_cp {n : Nat} (h : cpB n = true) : Utf8.encode (n : Int) = ⟨(encL n).toArray⟩ := by
  have hc := (cp_iff n).1 h
  have hv : Utf8.valid (n : Int) = true := by
    unfold Utf8.valid
    simp only [Bool.or_eq_true, Bool.and_eq_true, decide_eq_true_eq]
    omega
  unfold Utf8.encode encL
  simp only [hv, if_true, Int.toNat_natCast]
  by_cases c1 : n < 128
  · rw [if_pos c1, if_pos c1]
  · rw [if_neg c1, if_neg c1]
    by_cases c2 : n < 2048
    · rw [if_pos c2, if_pos c2]
    · rw [if_neg c2, if_neg c2]
      by_cases c3 : n < 65536
      · rw [if_pos c3, if_pos c3]
      · rw [if_neg c3, if_neg c3]
theorem encode_bad {n : Int} (h : ¬ (0 ≤ n ∧ cpB n.toNat = true)) : Utf8.encode n = ⟨(encL 65533).toArray⟩ := by
  have hv : Utf8.valid n = false := by
    rw [Bool.eq_false_iff]
    intro hv
    unfold Utf8.valid at hv
    simp only [Bool.or_eq_true, Bool.and_eq_true, decide_eq_true_eq] at hv
    exact h ⟨by omega, (cp_iff _).2 (by omega)⟩
  unfold Utf8.encode
  simp only [hv, Bool.false_eq_true, if_false]
  decide
theorem encode_any (n : Int) : Utf8.encode n = ⟨(runeL n).toArray⟩ := by
  unfold runeL
  split
  · rename_i h
    rw [← encode_cp h.2, Int.toNat_of_nonneg h.1]
  · rename_i h
    exact encode_bad h
theorem rune_any (n : Int) (w : World) :
    Calls Tryd.prog 16 #[.int .i64 n] w fun e w' => e = .returned (.string ⟨(runeL n).toArray⟩) ∧ w = w' := by
  by_cases h1 : n < 0
  · have e : runeL n = encL 65533 := by unfold runeL; rw [if_neg (by omega)]
    rw [e, ← encode_cp cp_bad]
    go_enter Tryd.func16, Tryd.ntmps16
    go_wp2
    go_ret
    exact ⟨rfl, rfl⟩
  · by_cases h2 : n > 1114111
    · have e : runeL n = encL 65533 := by
        unfold runeL
        rw [if_neg]
        rintro ⟨_, h⟩
        have := (cp_iff _).1 h
        omega
      rw [e, ← encode_cp cp_bad]
      go_enter Tryd.func16, Tryd.ntmps16
      go_wp2
      go_ret
      exact ⟨rfl, rfl⟩
    · rw [← encode_any]
      go_enter Tryd.func16, Tryd.ntmps16
      go_wp2
      go_ret
      exact ⟨rfl, rfl⟩

/-- The code points of a single byte. -/
def asciiP (b : Nat) : Nat := if b ≥ 128 then 65533 else b
def winP (b : Nat) : Nat := if b < 128 ∨ b ≥ 160 then b else winL.getD (b - 128) 0
theorem ascii_any (b : Nat) (hb : b < 256) (w : World) :
    Calls Tryd.prog 34 #[.int .u8 b] w fun e w' => e = .returned (.int .i32 (asciiP b : Nat)) ∧ w = w' := by
  unfold asciiP
  by_cases h : b ≥ 128
  · rw [if_pos h]
    have h' : (128 : Int) ≤ (b : Int) := by omega
    go_enter Tryd.func34, Tryd.ntmps34
    go_wp2
    go_ret
    exact ⟨rfl, rfl⟩
  · rw [if_neg h]
    have h' : ¬ (128 : Int) ≤ (b : Int) := by omega
    go_enter Tryd.func34, Tryd.ntmps34
    go_wp2
    go_ret
    exact ⟨rfl, rfl⟩
theorem latin_any (b : Nat) (hb : b < 256) (w : World) :
    Calls Tryd.prog 35 #[.int .u8 b] w fun e w' => e = .returned (.int .i32 b) ∧ w = w' := by
  go_enter Tryd.func35, Tryd.ntmps35
  go_wp2
  go_ret
  exact ⟨rfl, rfl⟩
theorem win_any (b : Nat) (hb : b < 256) (w : World) (hv : Vars w) :
    Calls Tryd.prog 36 #[.int .u8 b] w fun e w' => e = .returned (.int .i32 (winP b : Nat)) ∧ w = w' := by
  unfold winP
  by_cases h1 : b < 128
  · rw [if_pos (Or.inl h1)]
    go_enter Tryd.func36, Tryd.ntmps36
    go_wp2
    go_ret
    exact ⟨rfl, rfl⟩
  · by_cases h2 : b ≥ 160
    · rw [if_pos (Or.inr h2)]
      go_enter Tryd.func36, Tryd.ntmps36
      go_wp2
      go_ret
      exact ⟨rfl, rfl⟩
    · rw [if_neg (by omega)]
      obtain ⟨i, rfl⟩ : ∃ i, b = 128 + i := ⟨b - 128, by omega⟩
      have hi : i < 32 := by omega
      have hc := hv.win i hi
      rw [show 128 + i - 128 = i by omega]
      have hx : winL.getD i 0 < 65536 := by
        have : ∀ j : Fin 32, winL.getD j.val 0 < 65536 := by decide
        exact this ⟨i, hi⟩
      generalize winL.getD i 0 = x at hc hx ⊢
      go_enter Tryd.func36, Tryd.ntmps36
      go_wp2
      go_ret
      exact ⟨rfl, rfl⟩
theorem asciiP_cp (b : Nat) (_hb : b < 256) : cpB (asciiP b) = true := by
  unfold asciiP
  split
  · decide
  · exact (cp_iff _).2 (by omega)
theorem winP_cp (b : Nat) (hb : b < 256) : cpB (winP b) = true := by
  have : ∀ j : Fin 256, cpB (winP j.val) = true := by decide +kernel
  exact this ⟨b, hb⟩
end Go.Proofs.YtbmnoneeialfpaaDoor
