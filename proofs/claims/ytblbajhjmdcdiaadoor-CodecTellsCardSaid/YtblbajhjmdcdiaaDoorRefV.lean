/- The reference's characters and their values. -/
import Derived.Test.YtblbajhjmdcdiaaDoorBack
namespace Go.Proofs.YtblbajhjmdcdiaaDoor
open Go.ChangeShapes Go.WideShapes Go.ChangeAt Go.RowKit

def dig64 (n : Nat) : Nat := if n < 26 then 65 + n else if n < 52 then 97 + n - 26 else if n < 62 then 48 + n - 52 else if n = 62 then 43 else 47
theorem d64_dig : ∀ n : Fin 64, (d64 n.val).toNat = dig64 n.val := by decide
theorem val_back : ∀ c : Fin 256, val64 c.val < 64 → (d64 (val64 c.val)).toNat = c.val := by decide +kernel
theorem digitR_any (n : Nat) (h : n < 64) (w : World) :
    Calls Tryd.prog 28 #[.int .i64 n] w fun e w' => e = .returned (.int .u8 ((d64 n).toNat : Int)) ∧ w = w' := by
  have hd := d64_dig ⟨n, h⟩
  simp only [] at hd
  rw [hd]
  clear hd
  unfold dig64
  by_cases h1 : n < 26
  · have e1 : IntKind.u8.wrap (65 + (n : Int)) = 65 + (n : Int) := IntWalk.u8_in _ (by omega)
    rw [if_pos h1]
    go_enter Tryd.func28, Tryd.ntmps28
    go_wp2
    go_ret
    exact ⟨by simp, rfl⟩
  · by_cases h2 : n < 52
    · have e1 : IntKind.u8.wrap (97 + (n : Int) - 26) = 97 + (n : Int) - 26 := IntWalk.u8_in _ (by omega)
      rw [if_neg h1, if_pos h2]
      go_enter Tryd.func28, Tryd.ntmps28
      go_wp2
      go_ret
      exact ⟨by rw [show ((97 + n - 26 : Nat) : Int) = 97 + (n : Int) - 26 by omega]; rfl, rfl⟩
    · by_cases h3 : n < 62
      · have e1 : IntKind.u8.wrap (48 + (n : Int) - 52) = 48 + (n : Int) - 52 := IntWalk.u8_in _ (by omega)
        rw [if_neg h1, if_neg h2, if_pos h3]
        go_enter Tryd.func28, Tryd.ntmps28
        go_wp2
        go_ret
        exact ⟨by rw [show ((48 + n - 52 : Nat) : Int) = 48 + (n : Int) - 52 by omega]; rfl, rfl⟩
      · rcases (show n = 62 ∨ n = 63 by omega) with rfl | rfl
        · go_enter Tryd.func28, Tryd.ntmps28
          go_wp2
          go_ret
          exact ⟨rfl, rfl⟩
        · go_enter Tryd.func28, Tryd.ntmps28
          go_wp2
          go_ret
          exact ⟨rfl, rfl⟩
/-- The value of a character, -1 if it is none. -/
def valI (c : Nat) : Int := if val64 c < 64 then (val64 c : Int) else -1
set_option maxHeartbeats 1600000 in
theorem valueR_any (c : UInt8) (w : World) :
    Calls Tryd.prog 23 #[.int .u8 c.toNat] w fun e w' => e = .returned (.int .i64 (valI c.toNat)) ∧ w = w' := by
  have hc := c.toNat_lt
  have hvb := val_back ⟨c.toNat, hc⟩
  simp only [] at hvb
  have HV := Lib.hid hvb
  clear hvb
  go_enter Tryd.func23, Tryd.ntmps23
  go_wp2
  go_loopw [3] (fun i wr => ∃ k : Nat, k ≤ 64 ∧ i = .int .i64 k ∧ Hid (∀ j, j < k → (d64 j).toNat ≠ c.toNat) ∧ w = wr) (fun i _ => 64 - (intOf i).toNat)
  case atStart => exact ⟨0, Nat.zero_le _, rfl, Lib.hid fun j h => absurd h (Nat.not_lt_zero _), rfl⟩
  case round =>
    obtain ⟨k, hk, rfl, hno, rfl⟩ := hrel
    by_cases hlt : k < 64
    · have hdk := fun W => digitR_any k hlt W
      have hv6 := val64_d64 ⟨k, hlt⟩
      simp only [] at hv6
      by_cases he : (d64 k).toNat = c.toNat
      · rw [he] at hv6
        have hvi : valI c.toNat = (k : Int) := by unfold valI; rw [hv6, if_pos hlt]
        have HI := Lib.hid hvi
        have HD := Lib.hid hdk
        clear hv6 hdk hvi
        have e1 : (((d64 k).toNat : Int) == (c.toNat : Int)) = true := by rw [beq_iff_eq]; omega
        clear he
        go_wp2_with (go_at_call 28; refine (HD.out _).mono ?_; rintro e w' ⟨rfl, rfl⟩)
        go_ret
        exact ⟨by first | (rw [HI.out]; done) | (rw [HI.out]; rfl), by first | rfl | trivial⟩
      · have e1 : (((d64 k).toNat : Int) == (c.toNat : Int)) = false := by rw [beq_eq_false_iff_ne]; omega
        have HD := Lib.hid hdk
        have HE := Lib.hid he
        clear hv6 hdk he
        go_wp2_with (go_at_call 28; refine (HD.out _).mono ?_; rintro e w' ⟨rfl, rfl⟩)
        go_roundw
        case rel =>
          refine ⟨k + 1, by omega, by go_num, Lib.hid fun j hj => ?_, by first | rfl | trivial⟩
          by_cases h : j = k
          · rw [h]; exact HE.out
          · exact hno.out j (by omega)
        case measure => simp [intOf]; omega
    · have hk2 : k = 64 := by omega
      subst hk2
      have hvi : valI c.toNat = -1 := by
        unfold valI
        rw [if_neg]
        intro h
        exact hno.out _ h (HV.out h)
      have HI := Lib.hid hvi
      clear hvi
      go_wp2_with fail
      go_ret
      exact ⟨by first | (rw [HI.out]; done) | (rw [HI.out]; rfl), by first | rfl | trivial⟩
end Go.Proofs.YtblbajhjmdcdiaaDoor
