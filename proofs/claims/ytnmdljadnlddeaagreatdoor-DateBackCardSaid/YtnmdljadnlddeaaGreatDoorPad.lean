/- Padding. -/
import Derived.Test.YtnmdljadnlddeaaGreatDoorParse
import Derived.Lib.MinMax
import Derived.Lib.ItoaLen
namespace Go.Proofs.YtnmdljadnlddeaaGreatDoor
open Go.ChangeShapes Go.WideShapes Go.ChangeAt Go.RowKit

/-- Zeros, then the numeral. -/
def padL (n : Int) (width : Nat) : List UInt8 := List.replicate (width - (Lib.itoa n).length) 48 ++ Lib.itoa n
/-- What Pad answers. -/
def padS (n width : Int) : List UInt8 := if n < 0 ∨ width < 0 ∨ width > 100 then [] else padL n width.toNat

theorem pad_no (n k : Int) (h : n < 0 ∨ k < 0 ∨ k > 100) (w : World) :
    Calls Tryz.prog 16 #[.int .i64 n, .int .i64 k] w fun e w' => e = .returned (.string ⟨(padS n k).toArray⟩) ∧ Below w.heap.size w w' := by
  have hp : padS n k = [] := by rw [padS, if_pos h]
  rw [hp]
  rcases (show n < 0 ∨ (0 ≤ n ∧ k < 0) ∨ (0 ≤ n ∧ 100 < k) by omega) with h | h | h
  all_goals
    go_enter Tryz.func16, Tryz.ntmps16
    go_wp2_with fail
    go_ret
    exact ⟨rfl, Below.refl _ _⟩
theorem pad_yes (n : Int) (k : Nat) (h0 : 0 ≤ n) (h1 : n ≤ 9223372036854775807) (hk : k ≤ 100) (w : World) (hv : Vars w) :
    Calls Tryz.prog 16 #[.int .i64 n, .int .i64 k] w fun e w' => e = .returned (.string ⟨(padL n k).toArray⟩) ∧ Below w.heap.size w w' := by
  have hlen : (Lib.itoa n).length ≤ 21 := Lib.itoa_length_le n (by omega) (by omega)
  obtain ⟨t, ht⟩ : ∃ t : ByteArray, t = ⟨(Lib.itoa n).toArray⟩ := ⟨_, rfl⟩
  have htl : t.size = (Lib.itoa n).length := by rw [ht]; simp [ByteArray.size]
  have hT := text_any n (by omega) h1 w hv
  rw [← ht] at hT
  have HT := Lib.hid hT
  clear hv hT
  obtain ⟨c, hc⟩ : ∃ c : Nat, c = k - (Lib.itoa n).length := ⟨_, rfl⟩
  have hm : max (0 : Int) ((k : Int) - (t.size : Int)) = (c : Int) := by
    rw [htl]; omega
  have hR := fun W => Tryz.strings_Repeat ⟨#[48]⟩ c W (by omega) (by show 1 * c ≤ _; omega)
  rw [show ((⟨#[48]⟩ : ByteArray).data.toList) = List.replicate 1 48 from rfl, Lib.repeatL_replicate, Nat.mul_one] at hR
  have hfin : (⟨Array.replicate c 48⟩ ++ t : ByteArray) = ⟨(padL n k).toArray⟩ := by
    rw [ht, padL, hc, ← List.toArray_replicate, ByteArray.mk_append_mk]
  have HF := Lib.hid hfin
  clear hfin
  have HR := Lib.hid hR
  have ht21 : t.size ≤ 21 := by omega
  clear hR hc hlen ht htl
  go_enter Tryz.func16, Tryz.ntmps16
  go_wp2_with (go_at_call 27; refine HT.out.mono ?_; rintro e w1 ⟨rfl, hb1⟩)
  refine (HR.out _).mono ?_
  rintro e w2 ⟨rfl, hb2⟩
  go_wp2_with fail
  go_ret
  exact ⟨by rw [← HF.out]; rfl, hb1.trans (hb2.mono hb1.size)⟩

theorem pad_any (n k : Int) (h0 : -9223372036854775808 ≤ n) (h1 : n ≤ 9223372036854775807) (w : World) (hv : Vars w) :
    Calls Tryz.prog 16 #[.int .i64 n, .int .i64 k] w fun e w' => e = .returned (.string ⟨(padS n k).toArray⟩) ∧ Below w.heap.size w w' := by
  by_cases h : n < 0 ∨ k < 0 ∨ k > 100
  · exact pad_no n k h w
  · obtain ⟨m, rfl⟩ : ∃ m : Nat, k = m := ⟨k.toNat, by omega⟩
    rw [padS, if_neg h]
    exact pad_yes n m (by omega) h1 (by omega) w hv
end Go.Proofs.YtnmdljadnlddeaaGreatDoor
