/- The digit functions: the closure of num.Unhex and the reference's Digit; num.Pad and the reference's Pad. -/
import Derived.Test.YtblbajhjmdcdiaaDoorHex
import Derived.OneCell
namespace Go.Proofs.YtblbajhjmdcdiaaDoor
open Go.ChangeShapes Go.WideShapes Go.ChangeAt Go.RowKit

/-- The value of a hexadecimal digit, 16 if c is none. -/
def dig (c : Nat) : Nat := if 48 ≤ c ∧ c ≤ 57 then c - 48 else if 97 ≤ c ∧ c ≤ 102 then c - 97 + 10 else if 65 ≤ c ∧ c ≤ 70 then c - 65 + 10 else 16


/-- The value of a hexadecimal digit, 0 if c is none. -/
def digv (c : Nat) : Nat := if dig c < 16 then dig c else 0
theorem grown_set (w : World) (b : Nat) (v : Value) : w.grownBy (w.setCell ⟨b, 0, none⟩ v) (some b) :=
  ⟨rfl, rfl, rfl, by simp [World.setCell], fun k _ hk => Below.heap_setCell _ _ _ _ (fun e => hk (by simp [e]))⟩

theorem closure_any (c : Nat) (hc : c < 256) (b : Nat) (v : Bool) (w : World) (hb : w.heap[b]? = some (.cells #[.bool v] 4 (0, 0))) :
    Calls Tryd.prog 78 #[.int .u8 c, .pointer (some ⟨b, 0, none⟩)] w fun e w' => e = .returned (.int .u8 (digv c)) ∧ w'.heap[b]? = some (.cells #[.bool (v && decide (dig c < 16))] 4 (0, 0)) ∧ w.grownBy w' (some b) := by
  have h1 := cell_of_one hb
  have h2 := free_of_one hb
  rcases (show c < 48 ∨ (48 ≤ c ∧ c ≤ 57) ∨ (57 < c ∧ c < 65) ∨ (65 ≤ c ∧ c ≤ 70) ∨ (70 < c ∧ c < 97) ∨ (97 ≤ c ∧ c ≤ 102) ∨ 102 < c by omega) with h | h | h | h | h | h | h
  all_goals
    have hd : dig c = dig c := rfl
    conv at hd => rhs; unfold dig
    have HD := Lib.hid hd
    have HB := Lib.hid hb
    clear hd hb
    go_enter Tryd.func78, Tryd.ntmps78
    go_wp2
    go_ret
    have hd := HD.out
    have hb := HB.out
    first
      | (have hx : dig c < 16 := by
           rw [hd]; (repeat' split) <;> omega
         refine ⟨congrArg (fun n => Ending.returned (.int .u8 n)) ?_, by simpa [hx] using hb, World.grownBy.refl _ _⟩
         unfold digv
         rw [if_pos hx, hd]
         (repeat' split) <;> omega)
      | (have hx : ¬ dig c < 16 := by
           rw [hd]; (repeat' split) <;> omega
         refine ⟨congrArg (fun n => Ending.returned (.int .u8 n)) ?_, by simpa [hx] using one_setCell hb, grown_set _ _ _⟩
         unfold digv
         rw [if_neg hx]; rfl)
end Go.Proofs.YtblbajhjmdcdiaaDoor
