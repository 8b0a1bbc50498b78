/- The next letter of the same kind: unicode.SimpleFold on letters and on the long s. -/
import Derived.Test.YtnmdljadnlddeaaGreatDoorBase
namespace Go.Proofs.YtnmdljadnlddeaaGreatDoor
open Go.ChangeShapes Go.WideShapes Go.ChangeAt Go.RowKit

theorem foldA_le (c : Nat) (h : c < 128) : foldA c ≤ 8490 := by
  unfold foldA
  (repeat' split) <;> omega
set_option maxRecDepth 1000000 in
theorem fold_ascii (c : Nat) (hc : c < 128) (w : World) (hv : Vars w) :
    Calls Tryz.prog 70 #[.int .i32 c] w fun e w' => e = .returned (.int .i32 (foldA c : Nat)) ∧ w = w' := by
  have hf := hv.fold c hc
  have hle := foldA_le c hc
  obtain ⟨f, hF⟩ : ∃ f, foldA c = f := ⟨_, rfl⟩
  rw [hF] at hf hle ⊢
  clear hv hF
  go_enter Tryz.func70, Tryz.ntmps70
  go_wp2
  go_ret
  exact ⟨rfl, rfl⟩
theorem orb_lt : ∀ m : Fin 94, m.val < 10 → orbF.getD m.val 0 < 383 := by decide
theorem orb_ge : ∀ m : Fin 94, 10 ≤ m.val → 383 ≤ orbF.getD m.val 0 := by decide
theorem orb_le : ∀ m : Fin 94, orbF.getD m.val 0 ≤ 65535 := by decide
set_option maxHeartbeats 1000000 in
set_option maxRecDepth 1000000 in
theorem fold_long (w : World) (hv : Vars w) :
    Calls Tryz.prog 70 #[.int .i32 383] w fun e w' => e = .returned (.int .i32 83) ∧ w = w' := by
  obtain ⟨b, o, k, e0, e1, e2⟩ := hv.orbit
  have H1 := Lib.hid e1
  have c10 := e1 10 (by omega)
  have h383 : (orbF.getD 10 0 : Nat) = 383 := rfl
  rw [h383] at c10
  clear e1 hv h383
  go_enter Tryz.func70, Tryz.ntmps70
  go_wp2_with fail
  go_loop [3, 4] (fun x y => ∃ lo hi : Nat, lo ≤ 10 ∧ 10 ≤ hi ∧ hi ≤ 94 ∧ x = .int .i64 lo ∧ y = .int .i64 hi) (fun x y => (match x, y with | .int _ a, .int _ b => (b - a).toNat | _, _ => 0))
  case atStart => exact ⟨0, 94, by omega, by omega, by omega, rfl, rfl⟩
  case round =>
    obtain ⟨lo, hi, l1, l2, l3, rfl, rfl⟩ := hrel
    by_cases hlt : lo < hi
    · obtain ⟨m, hm⟩ : ∃ m, (lo + hi) / 2 = m := ⟨_, rfl⟩
      have hcell := H1.out m (by omega)
      have hle := orb_le ⟨m, by omega⟩
      simp only at hle
      obtain ⟨F, hF⟩ : ∃ F, orbF.getD m 0 = F := ⟨_, rfl⟩
      by_cases hm10 : m < 10
      · have hlt2 := orb_lt ⟨m, by omega⟩ hm10
        simp only at hlt2
        rw [hF] at hcell hle hlt2
        go_wp2_with fail
        refine ⟨⟨m + 1, hi, by omega, by omega, by omega, congrArg (Value.int .i64) (by omega), rfl⟩, ?_⟩
        show ((hi : Int) - (((lo : Int) + (hi : Int)) / 2 + 1)).toNat < ((hi : Int) - (lo : Int)).toNat
        omega
      · have hge2 := orb_ge ⟨m, by omega⟩ (Nat.le_of_not_lt hm10)
        simp only at hge2
        rw [hF] at hcell hle hge2
        go_wp2_with fail
        refine ⟨⟨lo, m, by omega, by omega, by omega, rfl, congrArg (Value.int .i64) (by omega)⟩, ?_⟩
        show ((((lo : Int) + (hi : Int)) / 2) - (lo : Int)).toNat < ((hi : Int) - (lo : Int)).toNat
        omega
    · obtain rfl : lo = 10 := by omega
      obtain rfl : hi = 10 := by omega
      go_wp2_with fail
      go_ret
      exact ⟨rfl, rfl⟩
end Go.Proofs.YtnmdljadnlddeaaGreatDoor
