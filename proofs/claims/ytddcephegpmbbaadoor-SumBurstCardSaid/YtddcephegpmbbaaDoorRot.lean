/- The rotation of a word, of the library, of package sum and of its reference. -/
import Derived.Test.YtddcephegpmbbaaDoorBase
import Derived.Outline
import Derived.Deep.QuietTactic
import Derived.BigQuiet
namespace Go.Proofs.YtddcephegpmbbaaDoor
open Go.ChangeShapes Go.WideShapes Go.ChangeAt Go.RowKit

/-- A word turned to the right by n bits. -/
def rotr (x : UInt32) (n : Nat) : UInt32 := (x >>> UInt32.ofNat n) ||| (x <<< UInt32.ofNat (32 - n))

theorem ret_u32 {a b : Int} (h : a = b) : Ending.returned (.int .u32 a) = .returned (.int .u32 b) := by rw [h]
theorem left_any (x : UInt32) (n : Nat) (h0 : 0 < n) (h1 : n < 32) (w : World) :
    Calls Tryd.prog 34 #[.int .u32 (V x), .int .i64 (-(n : Int))] w fun e w' => e = .returned (.int .u32 (V (rotr x n))) ∧ w = w' := by
  have a0 : IntKind.u64.wrap (-(n : Int)) = 18446744073709551616 - (n : Int) := by
    simp only [IntKind.wrap, IntKind.bits, IntKind.signed]; simp; omega
  have a1 : bits .and .u64 (18446744073709551616 - (n : Int)) 31 = ((32 - n : Nat) : Int) := by
    have := bits_mask .u64 64 (by decide) (fun m g0 g1 => by simp only [IntKind.wrap, IntKind.bits, IntKind.signed]; simp; omega) 5 (by decide) (18446744073709551616 - (n : Int)) (by omega) (by omega)
    have e : ((2 : Int) ^ 5 - 1) = 31 := by decide
    rw [e] at this
    rw [this]; omega
  go_enter Tryd.func34, Tryd.ntmps34
  go_wp2
  go_ret
  refine ⟨ret_u32 ?_, rfl⟩
  have e : 32 - (32 - n) = n := by omega
  have e1 := shl_V x (32 - n) (by omega)
  have e2 := shr_V x n h1
  rw [IntKind.wrap_u32] at e1
  rw [e, e1, e2, or_V, rotr, UInt32.or_comm]

theorem right_any (x : UInt32) (n : Nat) (h0 : 0 < n) (h1 : n < 32) (w : World) :
    Calls Tryd.prog 29 #[.int .u32 (V x), .int .i64 n] w fun e w' => e = .returned (.int .u32 (V (rotr x n))) ∧ w = w' := by
  go_enter Tryd.func29, Tryd.ntmps29
  go_wp2_with (go_at_call 34; refine (left_any x n h0 h1 _).mono ?_; rintro e w' ⟨rfl, rfl⟩)
  go_ret
  exact ⟨rfl, rfl⟩

theorem turnR_any (x : UInt32) (n : Nat) (h0 : 0 < n) (h1 : n < 32) (w : World) :
    Calls Tryd.prog 32 #[.int .u32 (V x), .int .i64 n] w fun e w' => e = .returned (.int .u32 (V (rotr x n))) ∧ ∃ k, w' = w.drewN k := by
  have e0 : IntKind.i64.wrap (32 - (n : Int)) = ((32 - n : Nat) : Int) := by rw [IntWalk.i64_in _ (by omega)]; omega
  have e1 := shl_V x (32 - n) (by omega)
  have e2 := shr_V x n h1
  have e3 := or_V (x >>> UInt32.ofNat n) (x <<< UInt32.ofNat (32 - n))
  go_enter Tryd.func32, Tryd.ntmps32
  go_wp2
  go_quiet (fail)
  go_wp2
  go_ret
  exact ⟨rfl, _, rfl⟩
end Go.Proofs.YtddcephegpmbbaaDoor
