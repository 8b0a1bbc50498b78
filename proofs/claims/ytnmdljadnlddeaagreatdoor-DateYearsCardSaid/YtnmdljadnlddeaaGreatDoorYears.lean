/- DateYears: the law about a year, its months and its weekdays. -/
import Derived.Test.YtnmdljadnlddeaaGreatDoorSmall
namespace Go.Proofs.YtnmdljadnlddeaaGreatDoor
open Go.ChangeShapes Go.WideShapes Go.ChangeAt Go.RowKit
open DateP (mlen num ms ys ylen leap)

set_option maxHeartbeats 4000000 in
set_option maxRecDepth 1000000 in
theorem years_out (y : Int) (h : y < 1 ∨ 9998 < y) (w : World) (hv : Vars w) :
    Calls Tryz.prog 6 #[.int .i64 y] w fun e w' => e = .returned (.bool true) ∧ Below w.heap.size w w' := by
  have HS := Lib.hid (small_any w hv)
  rcases (show y < 1 ∨ (¬ y < 1 ∧ 9998 < y) by omega) with h | ⟨h, h2⟩
  all_goals
    go_enter Tryz.func6, Tryz.ntmps6
    go_wp2_with (go_at_call 7; refine HS.out.mono ?_; rintro e w1 ⟨rfl, hb⟩)
    go_ret
    exact ⟨rfl, hb⟩

theorem num_step (y m d : Nat) (h1 : 1 ≤ d) : num y m (d + 1) = num y m d + 1 := by
  unfold num; omega
theorem num_minus {y m d : Nat} (h : DateP.Is y m d) (hd : d < 31) (hd2 : d = mlen y m) : num y m d ≠ -1 := fun e => by
  obtain ⟨e1, e2, e3⟩ := DateP.one h (show DateP.Is 1969 12 31 by decide) (by rw [e]; decide +kernel)
  omega
theorem num_year (y : Nat) (h : 1 ≤ y) : num (y + 1) 1 1 = num y 1 1 + (ylen y : Nat) := by
  have := DateP.ys_next y h
  unfold num
  rw [this, show ms (y + 1) 1 = 0 from rfl, show ms y 1 = 0 from rfl]
  omega
theorem wk_400 (y m : Nat) (h : 1 ≤ y) : wkV (num (y + 400) m 1) = wkV (num y m 1) := by
  rw [DateP.num_400 y m 1 h]; unfold wkV; omega

/-- What the walk of one month needs. -/
structure Mon (y k : Nat) (L S P V Z K : Int) : Prop where
  len : (mlen y k : Int) = L
  l28 : 28 ≤ L
  l31 : L ≤ 31
  sum : ((ms y k : Nat) : Int) = S
  sum2 : ((ms y (k + 1) : Nat) : Int) = S + L
  s366 : S ≤ 366
  s0 : 0 ≤ S
  days : ∀ j : Int, 1 ≤ j → j ≤ L → ∀ w : World, Calls Tryz.prog 13 #[.int .i64 y, .int .i64 k, .int .i64 j] w fun e w' => e = .returned (.int .i64 (P + j)) ∧ w = w'
  none : ∀ w : World, Calls Tryz.prog 13 #[.int .i64 y, .int .i64 k, .int .i64 (L + 1)] w fun e w' => e = .returned (.int .i64 0) ∧ w = w'
  plo : -719163 ≤ P
  phi : P ≤ 2932895
  ne : L < 31 → P + L + 1 ≠ 0
  far : y ≤ 9599 → ∀ w : World, Calls Tryz.prog 13 #[.int .i64 ((y : Int) + 400), .int .i64 k, .int .i64 1] w fun e w' => e = .returned (.int .i64 V) ∧ w = w'
  near : ∀ w : World, Calls Tryz.prog 13 #[.int .i64 y, .int .i64 k, .int .i64 1] w fun e w' => e = .returned (.int .i64 Z) ∧ w = w'
  wfar : ∀ w : World, Calls Tryz.prog 14 #[.int .i64 V] w fun e w' => e = .returned (.int .i64 K) ∧ w = w'
  wnear : ∀ w : World, Calls Tryz.prog 14 #[.int .i64 Z] w fun e w' => e = .returned (.int .i64 K) ∧ w = w'
theorem mon_is (y k : Nat) (y1 : 1 ≤ y) (y2 : y ≤ 9998) (k1 : 1 ≤ k) (k2 : k ≤ 12) : ∃ L S P V Z K, Mon y k L S P V Z K := by
  have l := DateP.mlen_pos y k
  have hI : ∀ d : Nat, 1 ≤ d → d ≤ mlen y k → DateP.Is y k d := fun d h1 h2 => ⟨y1, by omega, k1, k2, h1, h2⟩
  have hs := DateP.ms_le y k k1 k2
  have hy := DateP.ylen_is y
  have hP : ∀ d : Nat, 1 ≤ d → num y k d = num y k 1 - 1 + (d : Int) := fun d h1 => by unfold num; omega
  have hr := DateP.num_range (hI 1 (by omega) (by omega))
  refine ⟨_, _, num y k 1 - 1, num (y + 400) k 1, num y k 1, wkV (num y k 1), rfl, by omega, by omega, rfl, ?_, by omega, by omega, ?_, ?_, by omega, by omega, ?_, ?_, ?_, ?_, ?_⟩
  · rw [DateP.ms_next y k k1]; omega
  · intro j h1 h2 w
    obtain ⟨d, rfl⟩ : ∃ d : Nat, j = d := ⟨j.toNat, by omega⟩
    rw [← hP d (by omega)]
    exact days_yes y k d (hI d (by omega) (by omega)) w
  · intro w
    have hO := days_any y k ((mlen y k : Int) + 1) w
    rwa [show daysV y k ((mlen y k : Int) + 1) = 0 from if_neg (fun h => by have := h.2.2.2.2.2; simp only [Int.toNat_natCast] at this; omega)] at hO
  · intro h
    have := num_minus (hI (mlen y k) (by omega) (by omega)) (by omega) rfl
    rw [hP _ (by omega)] at this
    omega
  · intro h w
    have hJ : DateP.Is (y + 400) k 1 := ⟨by omega, by omega, k1, k2, by omega, by have := DateP.mlen_pos (y + 400) k; omega⟩
    exact days_yes (y + 400) k 1 hJ w
  · exact days_yes y k 1 (hI 1 (by omega) (by omega))
  · intro w
    have := week_any (num (y + 400) k 1) w
    rwa [wk_400 y k y1] at this
  · exact week_any _

set_option maxHeartbeats 8000000 in
set_option maxRecDepth 1000000 in
theorem years_in (y : Nat) (y1 : 1 ≤ y) (y2 : y ≤ 9998) (E : Int) (hE : (ylen y : Int) = E)
    (hl : (((y : Int) % 4 == 0) = true ∧ ((y : Int) % 100 != 0) = true ∧ E = 366) ∨ (((y : Int) % 4 == 0) = true ∧ ((y : Int) % 100 != 0) = false ∧ ((y : Int) % 400 == 0) = true ∧ E = 366) ∨ (((y : Int) % 4 == 0) = true ∧ ((y : Int) % 100 != 0) = false ∧ ((y : Int) % 400 == 0) = false ∧ E = 365) ∨ (((y : Int) % 4 == 0) = false ∧ ((y : Int) % 400 == 0) = false ∧ E = 365)) (w : World) (hv : Vars w) :
    Calls Tryz.prog 6 #[.int .i64 y] w fun e w' => e = .returned (.bool true) ∧ Below w.heap.size w w' := by
  have HS := Lib.hid (small_any w hv)
  have hI1 : DateP.Is y 1 1 := ⟨y1, by omega, by omega, by omega, by omega, by have := DateP.mlen_pos y 1; omega⟩
  have hI2 : DateP.Is (y + 1) 1 1 := ⟨by omega, by omega, by omega, by omega, by omega, by have := DateP.mlen_pos (y + 1) 1; omega⟩
  have nr := DateP.num_range hI1
  have nr2 := DateP.num_range hI2
  have hD1 := days_yes y 1 1 hI1
  have hD2 := days_yes (y + 1) 1 1 hI2
  have ny := num_year y y1
  rw [hE] at ny
  have h13 : Hid (((ms y 13 : Nat) : Int) = E) := by
    show _ = _
    rw [DateP.ms_all, hE]
  obtain ⟨N1, hN1⟩ : ∃ N1, num y 1 1 = N1 := ⟨_, rfl⟩
  obtain ⟨N2, hN2⟩ : ∃ N2, num (y + 1) 1 1 = N2 := ⟨_, rfl⟩
  rw [hN1] at hD1 nr ny
  rw [hN2] at hD2 nr2 ny
  have HD1 := Lib.hid (show ∀ w : World, Calls Tryz.prog 13 #[.int .i64 y, .int .i64 1, .int .i64 1] w fun e w' => e = .returned (.int .i64 N1) ∧ w = w' from hD1)
  have HD2 := Lib.hid (show ∀ w : World, Calls Tryz.prog 13 #[.int .i64 ((y : Int) + 1), .int .i64 1, .int .i64 1] w fun e w' => e = .returned (.int .i64 N2) ∧ w = w' from hD2)
  have eY : (N2 - N1 == E) = true := beq_iff_eq.2 (by omega)
  have HMon := Lib.hid (fun k h1 h2 => mon_is y k y1 y2 h1 h2)
  clear hD1 hD2 ny hN1 hN2 hI1 hI2 hE
  rcases hl with ⟨e4, e1, rfl⟩ | ⟨e4, e1, e0, rfl⟩ | ⟨e4, e1, e0, rfl⟩ | ⟨e4, e0, rfl⟩
  all_goals
    go_enter Tryz.func6, Tryz.ntmps6
    go_wp2_with (go_at_call 7; refine HS.out.mono ?_; rintro e w1 ⟨rfl, hb⟩)
    go_loop [5, 6] (fun a b => ∃ k : Nat, 1 ≤ k ∧ k ≤ 13 ∧ a = .int .i64 (ms y k : Nat) ∧ b = .int .i64 k) (fun _ b => 13 - (intOf b).toNat)
    case atStart => exact ⟨1, Nat.le_refl _, by omega, rfl, rfl⟩
    case round =>
      obtain ⟨k, k1, k2, rfl, rfl⟩ := hrel
      by_cases hk : k ≤ 12
      · obtain ⟨L, S, P, V, Z, K, hM⟩ := HMon.out k k1 hk
        have HM := Lib.hid hM
        have l28 := hM.l28
        have l31 := hM.l31
        have s0 := hM.s0
        have s366 := hM.s366
        have plo := hM.plo
        have phi := hM.phi
        rw [hM.sum]
        clear hM
        go_wp2_with fail
        go_loop [7] (fun a => ∃ j : Int, 28 ≤ j ∧ j ≤ L ∧ a = .int .i64 j) (fun a => 31 - (intOf a).toNat)
        case atStart => exact ⟨28, Int.le_refl _, l28, rfl⟩
        case round =>
          obtain ⟨j, j1, j2, rfl⟩ := hrel
          by_cases hj : j < L
          · have D1 := Lib.hid (HM.out.days j (by omega) (by omega))
            have D2 := Lib.hid (HM.out.days (j + 1) (by omega) (by omega))
            have eD : (P + (j + 1) == P + j + 1) = true := beq_iff_eq.2 (by omega)
            go_wp2_with (first
              | (go_at_call 13; with_reducible refine (D2.out _).mono ?_; rintro e w2 ⟨rfl, rfl⟩)
              | (go_at_call 13; with_reducible refine (D1.out _).mono ?_; rintro e w2 ⟨rfl, rfl⟩))
            go_roundw
            case rel => exact ⟨j + 1, by omega, by omega, by go_num⟩
            case measure => simp [intOf]; omega
          · obtain rfl : j = L := by omega
            have D1 := Lib.hid (HM.out.days j (by omega) (by omega))
            have D2 := Lib.hid HM.out.none
            have F1 := Lib.hid HM.out.near
            have F2 := Lib.hid HM.out.wfar
            have F3 := Lib.hid HM.out.wnear
            have hne := Lib.hid HM.out.ne
            by_cases hq : j < 31
            · have eD : ((0 : Int) == P + j + 1) = false := beq_eq_false_iff_ne.2 (by have := hne.out hq; omega)
              by_cases h96 : y ≤ 9599
              · have F0 := Lib.hid (HM.out.far h96)
                go_wp2_with (first
                  | (go_at_call 13; with_reducible refine (D2.out _).mono ?_; rintro e w2 ⟨rfl, rfl⟩)
                  | (go_at_call 13; with_reducible refine (D1.out _).mono ?_; rintro e w2 ⟨rfl, rfl⟩)
                  | (go_at_call 13; with_reducible refine (F0.out _).mono ?_; rintro e w2 ⟨rfl, rfl⟩)
                  | (go_at_call 13; with_reducible refine (F1.out _).mono ?_; rintro e w2 ⟨rfl, rfl⟩)
                  | (go_at_call 14; with_reducible refine (F2.out _).mono ?_; rintro e w2 ⟨rfl, rfl⟩)
                  | (go_at_call 14; with_reducible refine (F3.out _).mono ?_; rintro e w2 ⟨rfl, rfl⟩))
                go_roundw
                case rel => exact ⟨k + 1, by omega, by omega, by rw [HM.out.sum2], by go_num⟩
                case measure => simp [intOf]; omega
              · go_wp2_with (first
                  | (go_at_call 13; with_reducible refine (D2.out _).mono ?_; rintro e w2 ⟨rfl, rfl⟩)
                  | (go_at_call 13; with_reducible refine (D1.out _).mono ?_; rintro e w2 ⟨rfl, rfl⟩))
                go_roundw
                case rel => exact ⟨k + 1, by omega, by omega, by rw [HM.out.sum2], by go_num⟩
                case measure => simp [intOf]; omega
            · by_cases h96 : y ≤ 9599
              · have F0 := Lib.hid (HM.out.far h96)
                go_wp2_with (first
                  | (go_at_call 13; with_reducible refine (F0.out _).mono ?_; rintro e w2 ⟨rfl, rfl⟩)
                  | (go_at_call 13; with_reducible refine (F1.out _).mono ?_; rintro e w2 ⟨rfl, rfl⟩)
                  | (go_at_call 14; with_reducible refine (F2.out _).mono ?_; rintro e w2 ⟨rfl, rfl⟩)
                  | (go_at_call 14; with_reducible refine (F3.out _).mono ?_; rintro e w2 ⟨rfl, rfl⟩))
                go_roundw
                case rel => exact ⟨k + 1, by omega, by omega, by rw [HM.out.sum2], by go_num⟩
                case measure => simp [intOf]; omega
              · go_wp2_with fail
                go_roundw
                case rel => exact ⟨k + 1, by omega, by omega, by rw [HM.out.sum2], by go_num⟩
                case measure => simp [intOf]; omega
      · obtain rfl : k = 13 := by omega
        rw [h13.out]
        go_wp2_with (first
          | (go_at_call 13; with_reducible refine (HD2.out _).mono ?_; rintro e w2 ⟨rfl, rfl⟩)
          | (go_at_call 13; with_reducible refine (HD1.out _).mono ?_; rintro e w2 ⟨rfl, rfl⟩))
        go_ret
        exact ⟨rfl, hb⟩
theorem years_law (y : Int) (w : World) (hv : Vars w) :
    Calls Tryz.prog 6 #[.int .i64 y] w fun e w' => e = .returned (.bool true) ∧ Below w.heap.size w w' := by
  by_cases h : y < 1 ∨ 9998 < y
  · exact years_out y h w hv
  · obtain ⟨a, rfl⟩ : ∃ a : Nat, y = a := ⟨y.toNat, by omega⟩
    refine years_in a (by omega) (by omega) _ rfl ?_ w hv
    by_cases h4 : a % 4 = 0
    · have e4 : ((a : Int) % 4 == 0) = true := beq_iff_eq.2 (by omega)
      by_cases h1 : a % 100 = 0
      · have e1 : ((a : Int) % 100 != 0) = false := by rw [bne_eq_false_iff_eq]; omega
        by_cases h0 : a % 400 = 0
        · exact .inr (.inl ⟨e4, e1, beq_iff_eq.2 (by omega), by unfold ylen; rw [if_pos (.inr h0)]; rfl⟩)
        · exact .inr (.inr (.inl ⟨e4, e1, beq_eq_false_iff_ne.2 (by omega), by unfold ylen; rw [if_neg (fun h => h.elim (fun h => h.2 h1) h0)]; rfl⟩))
      · exact .inl ⟨e4, by rw [bne_iff_ne]; omega, by unfold ylen; rw [if_pos (.inl ⟨h4, h1⟩)]; rfl⟩
    · exact .inr (.inr (.inr ⟨beq_eq_false_iff_ne.2 (by omega), beq_eq_false_iff_ne.2 (by omega), by unfold ylen; rw [if_neg (fun h => h.elim (fun h => h4 h.1) (by omega))]; rfl⟩))
end Go.Proofs.YtnmdljadnlddeaaGreatDoor
