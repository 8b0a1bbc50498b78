/- Single bytes, the reference's: white space, specials, atom bytes. -/
import Derived.Test.YtdinachiiimngaaGreatDoorK1
namespace Go.Proofs.YtdinachiiimngaaGreatDoor
open Go.ChangeShapes Go.WideShapes Go.ChangeAt Go.RowKit

theorem blank_or (c : UInt8) : TokP.blank c = (decide (c = UInt8.ofNat 9) || (decide (c = UInt8.ofNat 10) || (decide (c = UInt8.ofNat 13) || decide (c = UInt8.ofNat 32)))) := by
  unfold TokP.blank
  rw [Bool.eq_iff_iff]
  simp only [Bool.or_eq_true, beq_iff_eq, decide_eq_true_iff, or_assoc]
  exact Iff.rfl
theorem rblank_any (c : UInt8) (x : Nat) (hx : c.toNat = x) (w : World) :
    Calls Tryz.prog 154 #[.int .u8 x] w fun e w' => e = .returned (.bool (TokP.blank c)) ∧ w = w' := by
  have e1 := byte_is c x hx 9 (by decide)
  have e2 := byte_is c x hx 10 (by decide)
  have e3 := byte_is c x hx 13 (by decide)
  have e4 := byte_is c x hx 32 (by decide)
  rw [blank_or]
  generalize decide (c = UInt8.ofNat 9) = d1 at e1 ⊢
  generalize decide (c = UInt8.ofNat 10) = d2 at e2 ⊢
  generalize decide (c = UInt8.ofNat 13) = d3 at e3 ⊢
  generalize decide (c = UInt8.ofNat 32) = d4 at e4 ⊢
  clear hx
  rw [show ((9 : Nat) : Int) = 9 from rfl] at e1
  rw [show ((10 : Nat) : Int) = 10 from rfl] at e2
  rw [show ((13 : Nat) : Int) = 13 from rfl] at e3
  rw [show ((32 : Nat) : Int) = 32 from rfl] at e4
  have fin : ∀ r, (d1 || (d2 || (d3 || d4))) = r → Calls Tryz.prog 154 #[.int .u8 x] w fun e w' => e = .returned (.bool r) ∧ w = w' := by
    intro r hr
    cases d1
    · cases d2
      · cases d3
        · have : d4 = r := hr
          subst this
          go_enter Tryz.func154, Tryz.ntmps154
          go_wp2_with fail
          go_ret
          exact ⟨by simp, rfl⟩
        · have : true = r := hr
          subst this
          go_enter Tryz.func154, Tryz.ntmps154
          go_wp2_with fail
          go_ret
          exact ⟨rfl, rfl⟩
      · have : true = r := hr
        subst this
        go_enter Tryz.func154, Tryz.ntmps154
        go_wp2_with fail
        go_ret
        exact ⟨rfl, rfl⟩
    · have : true = r := hr
      subst this
      go_enter Tryz.func154, Tryz.ntmps154
      go_wp2_with fail
      go_ret
      exact ⟨rfl, rfl⟩
  exact fin _ rfl
theorem at_step (l : List UInt8) (k : Nat) (b c : UInt8) (h : l[k]? = some b) : (l.drop k).contains c = (decide (b = c) || (l.drop (k + 1)).contains c) := by
  obtain ⟨h1, h2⟩ := List.getElem?_eq_some_iff.1 h
  rw [List.drop_eq_getElem_cons h1, h2, List.contains_cons]
  congr 1
  rw [Bool.eq_iff_iff, beq_iff_eq, decide_eq_true_iff]
  exact eq_comm
set_option maxHeartbeats 1000000 in
theorem rspecial_any (c : UInt8) (x : Nat) (hx : c.toNat = x) (w : World) :
    Calls Tryz.prog 156 #[.int .u8 x] w fun e w' => e = .returned (.bool (TokP.special c)) ∧ w = w' := by
  have HX := Lib.hid hx
  clear hx
  go_enter Tryz.func156, Tryz.ntmps156
  go_wp2_with fail
  go_loopw [3] (fun i wr => ∃ k : Nat, k ≤ 13 ∧ i = .int .i64 k ∧ wr = w ∧ Hid (TokP.special c = (([40, 41, 60, 62, 91, 93, 58, 59, 64, 92, 44, 46, 34] : List UInt8).drop k).contains c)) (fun i _ => 13 - (intOf i).toNat)
  case atStart => exact ⟨0, by omega, rfl, rfl, rfl⟩
  case round =>
    obtain ⟨k, hk, rfl, rfl, HS⟩ := hrel
    have F1 : IntKind.i64.wrap ((k : Int) + 1) = (k : Int) + 1 := by rw [IntKind.wrap_i64]; omega
    by_cases hlt : k < 13
    · have hlt' : (k : Int) < 13 := by omega
      obtain ⟨b, hb⟩ : ∃ b, ([40, 41, 60, 62, 91, 93, 58, 59, 64, 92, 44, 46, 34] : List UInt8)[k]? = some b := ⟨_, List.getElem?_eq_getElem hlt⟩
      obtain ⟨y, hy⟩ : ∃ y, b.toNat = y := ⟨_, rfl⟩
      have S1 : ∀ W : World, (Instr.index 9 (.string ⟨#[40, 41, 60, 62, 91, 93, 58, 59, 64, 92, 44, 46, 34]⟩) (.int .i64 k)).run Tryz.prog W = .ok (.int .u8 (y : Int)) W := by
        intro W
        rw [run_index_str ⟨#[40, 41, 60, 62, 91, 93, 58, 59, 64, 92, 44, 46, 34]⟩ k k rfl hlt W, ← hy]
        congr 3
        exact congrArg _ (List.getElem?_eq_some_iff.1 hb).2
      have e1 := eq_byte b c y x hy HX.out
      have hs := at_step _ k b c hb
      rw [← HS.out] at hs
      by_cases hbc : b = c
      · rw [decide_eq_true hbc] at e1
        rw [decide_eq_true hbc, Bool.true_or] at hs
        have HS2 := Lib.hid hs
        clear hs hbc hy hb HX HS
        go_wp2_with fail
        go_ret
        exact ⟨by rw [HS2.out]; rfl, rfl⟩
      · rw [decide_eq_false hbc] at e1
        rw [decide_eq_false hbc, Bool.false_or] at hs
        have HS2 := Lib.hid hs
        clear hs hbc hy hb HX HS
        go_wp2_with fail
        go_roundw
        case rel => exact ⟨k + 1, by omega, by go_num, trivial, HS2⟩
        case measure => simp [intOf]; omega
    · obtain rfl : k = 13 := by omega
      have HS2 : Hid (TokP.special c = false) := HS.out
      go_wp2_with fail
      go_ret
      exact ⟨by rw [HS2.out]; rfl, rfl⟩
theorem ratom_any (c : UInt8) (x : Nat) (hx : c.toNat = x) (w : World) :
    Calls Tryz.prog 157 #[.int .u8 x] w fun e w' => e = .returned (.bool (TokP.atomB c)) ∧ w = w' := by
  have cS := rspecial_any c x hx
  have e1 := ne127 c x hx
  unfold TokP.atomB
  rw [hx]
  by_cases h1 : 32 < x
  · have h1' : (32 : Int) < x := by omega
    by_cases h2 : c = 127
    · have hx2 : x = 127 := by rw [← hx, h2]; rfl
      rw [decide_eq_true h1, show (c != 127) = false by rw [h2]; rfl]
      clear hx cS h2 e1
      subst hx2
      go_enter Tryz.func157, Tryz.ntmps157
      go_wp2_with fail
      go_ret
      exact ⟨rfl, rfl⟩
    · have hx2 : ¬ (x : Int) = 127 := by
        rw [decide_eq_false h2] at e1
        exact beq_eq_false_iff_ne.1 e1
      rw [decide_eq_true h1, show (c != 127) = true by simpa using h2]
      clear hx h2 e1
      go_enter Tryz.func157, Tryz.ntmps157
      go_wp2_with (go_at_call 156; refine (cS _).mono ?_; rintro e w' ⟨rfl, rfl⟩)
      go_ret
      exact ⟨by simp; exact fun _ => hx2, rfl⟩
  · have h1' : ¬ (32 : Int) < x := by omega
    rw [decide_eq_false h1]
    clear hx cS e1
    go_enter Tryz.func157, Tryz.ntmps157
    go_wp2_with fail
    go_ret
    exact ⟨rfl, rfl⟩
end Go.Proofs.YtdinachiiimngaaGreatDoor
