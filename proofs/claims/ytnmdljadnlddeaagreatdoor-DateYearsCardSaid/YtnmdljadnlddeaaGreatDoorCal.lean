/- The calendar: isLeap, monthDays, daysBefore, exists, Days, Civil, Weekday. -/
import Derived.Test.YtnmdljadnlddeaaGreatDoorDatePure
import Derived.Test.YtnmdljadnlddeaaGreatDoorChecked
import Derived.WalkKit
import Derived.ProofKit
import Derived.Lib.Hide
namespace Go.Proofs.YtnmdljadnlddeaaGreatDoor
open Go.ChangeShapes Go.WideShapes Go.ChangeAt Go.RowKit
open DateP (ys ms mlen ylen leap)

theorem leap_any (y : Nat) (hy : y ≤ 10000) (w : World) :
    Calls Tryz.prog 41 #[.int .i64 y] w fun e w' => e = .returned (.bool (decide (leap y))) ∧ w = w' := by
  by_cases h4 : y % 4 = 0
  · have e4 : ((y : Int) % 4 == 0) = true := beq_iff_eq.2 (by omega)
    by_cases h1 : y % 100 = 0
    · have e1 : ((y : Int) % 100 != 0) = false := by rw [bne_eq_false_iff_eq]; omega
      by_cases h0 : y % 400 = 0
      · have e0 : ((y : Int) % 400 == 0) = true := beq_iff_eq.2 (by omega)
        have hd : decide (leap y) = true := decide_eq_true (.inr h0)
        rw [hd]
        clear hd h4 h1 h0
        go_enter Tryz.func41, Tryz.ntmps41
        go_wp2
        go_ret
        exact ⟨rfl, rfl⟩
      · have e0 : ((y : Int) % 400 == 0) = false := beq_eq_false_iff_ne.2 (by omega)
        have hd : decide (leap y) = false := decide_eq_false (fun h => h.elim (fun h => h.2 h1) h0)
        rw [hd]
        clear hd h4 h1 h0
        go_enter Tryz.func41, Tryz.ntmps41
        go_wp2
        go_ret
        exact ⟨rfl, rfl⟩
    · have e1 : ((y : Int) % 100 != 0) = true := by rw [bne_iff_ne]; omega
      have hd : decide (leap y) = true := decide_eq_true (.inl ⟨h4, h1⟩)
      rw [hd]
      clear hd h4 h1
      go_enter Tryz.func41, Tryz.ntmps41
      go_wp2
      go_ret
      exact ⟨rfl, rfl⟩
  · have e4 : ((y : Int) % 4 == 0) = false := beq_eq_false_iff_ne.2 (by omega)
    have e0 : ((y : Int) % 400 == 0) = false := beq_eq_false_iff_ne.2 (by omega)
    have hd : decide (leap y) = false := decide_eq_false (fun h => h.elim (fun h => h4 h.1) (by omega))
    rw [hd]
    clear hd h4
    go_enter Tryz.func41, Tryz.ntmps41
    go_wp2
    go_ret
    exact ⟨rfl, rfl⟩

theorem month_any (y m : Nat) (hy : y ≤ 10000) (hm : m ≤ 100) (w : World) :
    Calls Tryz.prog 25 #[.int .i64 y, .int .i64 m] w fun e w' => e = .returned (.int .i64 (mlen y m : Nat)) ∧ w = w' := by
  have HL := Lib.hid (leap_any y hy)
  by_cases h2 : m = 2
  · subst h2
    by_cases hl : leap y
    · have e : mlen y 2 = 29 := by unfold mlen; rw [if_pos rfl, if_pos hl]
      have hd : decide (leap y) = true := decide_eq_true hl
      have HL := HL.out
      rw [hd] at HL
      replace HL := Lib.hid HL
      rw [e]
      clear e hd hl
      go_enter Tryz.func25, Tryz.ntmps25
      go_wp2_with (go_at_call 41; refine (HL.out _).mono ?_; rintro e w1 ⟨rfl, rfl⟩)
      go_ret
      exact ⟨rfl, rfl⟩
    · have e : mlen y 2 = 28 := by unfold mlen; rw [if_pos rfl, if_neg hl]
      have hd : decide (leap y) = false := decide_eq_false hl
      have HL := HL.out
      rw [hd] at HL
      replace HL := Lib.hid HL
      rw [e]
      clear e hd hl
      go_enter Tryz.func25, Tryz.ntmps25
      go_wp2_with (go_at_call 41; refine (HL.out _).mono ?_; rintro e w1 ⟨rfl, rfl⟩)
      go_ret
      exact ⟨rfl, rfl⟩
  · by_cases h3 : m = 4 ∨ m = 6 ∨ m = 9 ∨ m = 11
    · have e : mlen y m = 30 := by unfold mlen; rw [if_neg h2, if_pos h3]
      rw [e]
      rcases h3 with rfl | rfl | rfl | rfl
      all_goals
        go_enter Tryz.func25, Tryz.ntmps25
        go_wp2
        go_ret
        exact ⟨rfl, rfl⟩
    · have e : mlen y m = 31 := by unfold mlen; rw [if_neg h2, if_neg h3]
      rw [e]
      have n2 : ((m : Int) == 2) = false := beq_eq_false_iff_ne.2 (by omega)
      have n4 : ((m : Int) == 4) = false := beq_eq_false_iff_ne.2 (by omega)
      have n6 : ((m : Int) == 6) = false := beq_eq_false_iff_ne.2 (by omega)
      have n9 : ((m : Int) == 9) = false := beq_eq_false_iff_ne.2 (by omega)
      have n11 : ((m : Int) == 11) = false := beq_eq_false_iff_ne.2 (by omega)
      clear h2 h3 e
      go_enter Tryz.func25, Tryz.ntmps25
      go_wp2
      go_ret
      exact ⟨rfl, rfl⟩

theorem before_any (y : Nat) (h1 : 1 ≤ y) (hy : y ≤ 10000) (w : World) :
    Calls Tryz.prog 24 #[.int .i64 y] w fun e w' => e = .returned (.int .i64 (ys y : Nat)) ∧ w = w' := by
  have e0 : IntKind.i64.wrap ((y : Int) - 1) = ((y - 1 : Nat) : Int) := by
    rw [IntWalk.i64_in _ (by omega)]; omega
  obtain ⟨k, hk⟩ : ∃ k, y - 1 = k := ⟨_, rfl⟩
  have hys : ys y = 365 * k + k / 4 - k / 100 + k / 400 := by unfold ys; rw [hk]
  rw [hys]
  go_enter Tryz.func24, Tryz.ntmps24
  go_wp2
  go_ret
  refine ⟨?_, rfl⟩
  refine congrArg (fun n => Ending.returned (.int .i64 n)) ?_
  show (365 * (k : Int) + (k : Int) / 4 - (k : Int) / 100 + (k : Int) / 400) = _
  omega

/-- The date exists. -/
def IsI (y m d : Int) : Prop := 1 ≤ y ∧ y ≤ 9999 ∧ 1 ≤ m ∧ m ≤ 12 ∧ 1 ≤ d ∧ d ≤ (mlen y.toNat m.toNat : Nat)
instance (y m d : Int) : Decidable (IsI y m d) := by unfold IsI; infer_instance
theorem IsI.nat {y m d : Int} (h : IsI y m d) : ∃ a b c : Nat, y = a ∧ m = b ∧ d = c ∧ DateP.Is a b c := by
  obtain ⟨h1, h2, h3, h4, h5, h6⟩ := h
  refine ⟨y.toNat, m.toNat, d.toNat, by omega, by omega, by omega, by omega, by omega, by omega, by omega, by omega, by omega⟩
theorem isI_nat (a b c : Nat) : IsI a b c ↔ DateP.Is a b c := by
  unfold IsI DateP.Is
  simp only [Int.toNat_natCast]
  omega
theorem exists_any (y m d : Int) (w : World) :
    Calls Tryz.prog 26 #[.int .i64 y, .int .i64 m, .int .i64 d] w fun e w' => e = .returned (.bool (decide (IsI y m d))) ∧ w = w' := by
  by_cases h1 : 1 ≤ y
  · by_cases h2 : y ≤ 9999
    · by_cases h3 : 1 ≤ m
      · by_cases h4 : m ≤ 12
        · by_cases h5 : 1 ≤ d
          · obtain ⟨a, rfl⟩ : ∃ a : Nat, y = a := ⟨y.toNat, by omega⟩
            obtain ⟨b, rfl⟩ : ∃ b : Nat, m = b := ⟨m.toNat, by omega⟩
            have HM := Lib.hid (month_any a b (by omega) (by omega))
            obtain ⟨M, hM⟩ : ∃ M, mlen a b = M := ⟨_, rfl⟩
            have hd : IsI a b d ↔ d ≤ (M : Int) := by
              unfold IsI
              simp only [Int.toNat_natCast, hM]
              omega
            rw [hM] at HM
            replace HM := HM
            by_cases h6 : d ≤ (M : Int)
            · have hdd : decide (IsI a b d) = true := decide_eq_true (hd.2 h6)
              rw [hdd]
              clear hdd hd hM
              go_enter Tryz.func26, Tryz.ntmps26
              go_wp2_with (go_at_call 25; refine (HM.out _).mono ?_; rintro e w1 ⟨rfl, rfl⟩)
              go_ret
              exact ⟨rfl, rfl⟩
            · have hdd : decide (IsI a b d) = false := decide_eq_false (fun h => h6 (hd.1 h))
              rw [hdd]
              clear hdd hd hM
              go_enter Tryz.func26, Tryz.ntmps26
              go_wp2_with (go_at_call 25; refine (HM.out _).mono ?_; rintro e w1 ⟨rfl, rfl⟩)
              go_ret
              exact ⟨by show Ending.returned (.bool (decide (d ≤ (M : Int)))) = _; rw [decide_eq_false (by omega)], rfl⟩
          · have hdd : decide (IsI y m d) = false := decide_eq_false (fun h => h5 h.2.2.2.2.1)
            rw [hdd]
            clear hdd
            go_enter Tryz.func26, Tryz.ntmps26
            go_wp2
            go_ret
            exact ⟨rfl, rfl⟩
        · have hdd : decide (IsI y m d) = false := decide_eq_false (fun h => h4 h.2.2.2.1)
          rw [hdd]
          clear hdd
          go_enter Tryz.func26, Tryz.ntmps26
          go_wp2
          go_ret
          exact ⟨rfl, rfl⟩
      · have hdd : decide (IsI y m d) = false := decide_eq_false (fun h => h3 h.2.2.1)
        rw [hdd]
        clear hdd
        go_enter Tryz.func26, Tryz.ntmps26
        go_wp2
        go_ret
        exact ⟨rfl, rfl⟩
    · have hdd : decide (IsI y m d) = false := decide_eq_false (fun h => h2 h.2.1)
      rw [hdd]
      clear hdd
      go_enter Tryz.func26, Tryz.ntmps26
      go_wp2
      go_ret
      exact ⟨rfl, rfl⟩
  · have hdd : decide (IsI y m d) = false := decide_eq_false (fun h => h1 h.1)
    rw [hdd]
    clear hdd
    go_enter Tryz.func26, Tryz.ntmps26
    go_wp2
    go_ret
    exact ⟨rfl, rfl⟩

def intOf : Value → Int | .int _ n => n | _ => 0
theorem ys_le {y : Nat} (h1 : 1 ≤ y) (h2 : y ≤ 10000) : ys y ≤ 3652059 := by
  unfold ys; omega
/-- What Days answers. -/
def daysV (y m d : Int) : Int := if IsI y m d then DateP.num y.toNat m.toNat d.toNat else 0
theorem days_no (y m d : Int) (h : ¬ IsI y m d) (w : World) :
    Calls Tryz.prog 13 #[.int .i64 y, .int .i64 m, .int .i64 d] w fun e w' => e = .returned (.int .i64 0) ∧ w = w' := by
  have hE := exists_any y m d
  rw [decide_eq_false h] at hE
  have HE := Lib.hid hE
  clear hE h
  go_enter Tryz.func13, Tryz.ntmps13
  go_wp2_with (go_at_call 26; refine (HE.out _).mono ?_; rintro e w1 ⟨rfl, rfl⟩)
  go_ret
  exact ⟨rfl, rfl⟩
theorem days_yes (y m d : Nat) (h : DateP.Is y m d) (w : World) :
    Calls Tryz.prog 13 #[.int .i64 y, .int .i64 m, .int .i64 d] w fun e w' => e = .returned (.int .i64 (DateP.num y m d)) ∧ w = w' := by
  have hE := exists_any y m d
  rw [decide_eq_true ((isI_nat y m d).2 h)] at hE
  have HE := Lib.hid hE
  obtain ⟨a1, a2, a3, a4, a5, a6⟩ := h
  have HB := Lib.hid (before_any y a1 (by omega))
  have HM := Lib.hid (fun k (hk : k < m) W => month_any y k (by omega) (by omega) W)
  have hY := ys_le a1 (show y ≤ 10000 by omega)
  have hms : Hid (∀ k, 1 ≤ k → k < m → ms y (k + 1) = ms y k + mlen y k ∧ ms y k ≤ 366 ∧ mlen y k ≤ 31) := fun k k1 k2 => by
    have l := DateP.ms_le y k k1 (by omega)
    have l2 := DateP.ylen_is y
    have l3 := DateP.mlen_pos y k
    exact ⟨DateP.ms_next y k k1, by omega, l3.2⟩
  have hn : Hid (DateP.num y m d = -719162 + (ys y : Int) + d - 1 + (ms y m : Nat)) := by
    show _ = _
    unfold DateP.num
    omega
  have hd31 : d ≤ 31 := by have := (DateP.mlen_pos y m).2; omega
  obtain ⟨Y, hYe⟩ : ∃ Y, ys y = Y := ⟨_, rfl⟩
  rw [hYe] at HB hY hn
  clear hE a6 hYe
  go_enter Tryz.func13, Tryz.ntmps13
  go_wp2_with (first
    | (go_at_call 26; refine (HE.out _).mono ?_; rintro e w1 ⟨rfl, rfl⟩)
    | (go_at_call 24; refine (HB.out _).mono ?_; rintro e w1 ⟨rfl, rfl⟩))
  go_loop [7, 8] (fun a b => ∃ k : Nat, 1 ≤ k ∧ k ≤ m ∧ a = .int .i64 (-719162 + (Y : Int) + d - 1 + (ms y k : Nat)) ∧ b = .int .i64 k)
    (fun _ b => m - (intOf b).toNat)
  case atStart => exact ⟨1, Nat.le_refl _, a3, by simp [ms], rfl⟩
  case round =>
    obtain ⟨k, k1, k2, rfl, rfl⟩ := hrel
    by_cases hlt : k < m
    · obtain ⟨e1, e2, e3⟩ := hms.out k k1 hlt
      have HMk := Lib.hid (HM.out k hlt)
      obtain ⟨A, hA⟩ : ∃ A, ms y k = A := ⟨_, rfl⟩
      obtain ⟨L, hL⟩ : ∃ L, mlen y k = L := ⟨_, rfl⟩
      rw [hL] at HMk e1 e3
      rw [hA] at e1 e2 ⊢
      have HE1 := Lib.hid e1
      clear e1 hA hL
      go_wp2_with (go_at_call 25; refine (HMk.out _).mono ?_; rintro e w1 ⟨rfl, rfl⟩)
      go_roundw
      case rel => exact ⟨k + 1, by omega, by omega, by rw [HE1.out]; go_num, by go_num⟩
      case measure => simp [intOf]; omega
    · obtain rfl : k = m := by omega
      go_wp2_with fail
      go_ret
      exact ⟨by rw [hn.out]; rfl, rfl⟩
theorem days_any (y m d : Int) (w : World) :
    Calls Tryz.prog 13 #[.int .i64 y, .int .i64 m, .int .i64 d] w fun e w' => e = .returned (.int .i64 (daysV y m d)) ∧ w = w' := by
  unfold daysV
  by_cases h : IsI y m d
  · rw [if_pos h]
    obtain ⟨a, b, c, rfl, rfl, rfl, hI⟩ := h.nat
    exact days_yes a b c hI w
  · rw [if_neg h]
    exact days_no y m d h w

/-- The weekday of a number. -/
def wkV (n : Int) : Int := (n + 4) % 7
theorem week_any (n : Int) (w : World) :
    Calls Tryz.prog 14 #[.int .i64 n] w fun e w' => e = .returned (.int .i64 (wkV n)) ∧ w = w' := by
  obtain ⟨r, hr⟩ : ∃ r, n.tmod 7 = r := ⟨_, rfl⟩
  have hb : -7 < r ∧ r < 7 ∧ (r + 11) % 7 = (n + 4) % 7 := by
    have h := Int.tmod_def n 7
    have h2 := Int.tmod_lt_of_pos n (show (0 : Int) < 7 by decide)
    have h3 := Int.lt_tmod_of_pos n (show (0 : Int) < 7 by decide)
    rw [hr] at h h2 h3
    refine ⟨h3, h2, ?_⟩
    omega
  go_enter Tryz.func14, Tryz.ntmps14
  go_wp2
  go_ret
  refine ⟨?_, rfl⟩
  refine congrArg (fun n => Ending.returned (.int .i64 n)) ?_
  show (r + 7 + 4) % 7 = wkV n
  unfold wkV
  omega
theorem wkV_range (n : Int) : 0 ≤ wkV n ∧ wkV n ≤ 6 := by unfold wkV; omega

theorem civ_no (n : Int) (h : n < -719162 ∨ 2932896 < n) (w : World) :
    Calls Tryz.prog 12 #[.int .i64 n] w fun e w' => e = .returned (.tuple #[.int .i64 0, .int .i64 0, .int .i64 0]) ∧ w = w' := by
  rcases (show n < -719162 ∨ (¬ n < -719162 ∧ 2932896 < n) by omega) with h | ⟨h, h2⟩
  all_goals
    go_enter Tryz.func12, Tryz.ntmps12
    go_wp2
    go_ret3
    exact ⟨rfl, rfl⟩

/-- By the mean length of the years: the year, or the year before. -/
theorem year_near (L y : Nat) (h1 : 1 ≤ y) (h2 : ys y ≤ L) (h3 : L < ys (y + 1)) : L * 400 / 146097 + 1 = y ∨ L * 400 / 146097 + 2 = y := by
  obtain ⟨k, rfl⟩ : ∃ k, y = k + 1 := ⟨y - 1, by omega⟩
  unfold ys at h2 h3
  simp only [Nat.add_sub_cancel] at h2 h3
  omega
theorem civ_yes (y m d : Nat) (h : DateP.Is y m d) (n : Int) (hn : n = DateP.num y m d) (w : World) :
    Calls Tryz.prog 12 #[.int .i64 n] w fun e w' => e = .returned (.tuple #[.int .i64 y, .int .i64 m, .int .i64 d]) ∧ w = w' := by
  have hr := DateP.num_range h
  obtain ⟨a1, a2, a3, a4, a5, a6⟩ := h
  obtain ⟨D, hD⟩ : ∃ D : Nat, d - 1 = D := ⟨_, rfl⟩
  obtain ⟨R, hR⟩ : ∃ R, ms y m + D = R := ⟨_, rfl⟩
  obtain ⟨Y, hY⟩ : ∃ Y, ys y = Y := ⟨_, rfl⟩
  obtain ⟨L, hL⟩ : ∃ L, Y + R = L := ⟨_, rfl⟩
  have hnL : n = (L : Int) - 719162 := by
    rw [hn]; unfold DateP.num
    omega
  have hLb : L ≤ 3652058 := by omega
  have hle := DateP.ms_le y m a3 a4
  have hlen := DateP.ylen_is y
  have hnext := DateP.ys_next y a1
  have hnear := year_near L y a1 (by omega) (by omega)
  have HB := Lib.hid (fun k (h1 : 1 ≤ k) (h2 : k ≤ 10000) W => before_any k h1 h2 W)
  have HM := Lib.hid (fun k (hk : k ≤ 12) W => month_any y k (by omega) (by omega) W)
  have hR366 : R < 366 := by omega
  have hms : Hid (∀ k, 1 ≤ k → k ≤ m → ms y k ≤ R ∧ (k < m → ms y (k + 1) = ms y k + mlen y k ∧ ms y (k + 1) ≤ R) ∧ (k = m → R - ms y k < mlen y k)) := fun k k1 k2 => by
    refine ⟨?_, fun hk => ?_, fun hk => ?_⟩
    · rcases Nat.lt_or_ge k m with hk | hk
      · have := DateP.ms_mono y k1 hk; omega
      · obtain rfl : k = m := by omega
        omega
    · have e := DateP.ms_next y k k1
      refine ⟨e, ?_⟩
      rw [e]
      have := DateP.ms_mono y k1 hk; omega
    · subst hk; omega
  have hfin : Hid ((R - ms y m : Nat) + 1 = d) := by show _ = _; omega
  have HY := Lib.hid hY
  have hYL : Y ≤ L ∧ L - Y = R := by omega
  obtain ⟨q, hq⟩ : ∃ q, L * 400 / 146097 = q := ⟨_, rfl⟩
  have eq : ((L : Int) * 400).tdiv 146097 = (q : Int) := by
    rw [show ((L : Int) * 400) = ((L * 400 : Nat) : Int) by omega, Int.tdiv_eq_ediv_of_nonneg (by omega)]
    omega
  rw [hq] at hnear
  have hq1 : q ≤ 9999 := by omega
  subst hnL
  obtain ⟨Z, hZ⟩ : ∃ Z, ys (q + 2) = Z := ⟨_, rfl⟩
  have B1 := before_any (q + 2) (by omega) (by omega)
  rw [show ((q + 2 : Nat) : Int) = 1 + (q : Int) + 1 by omega, hZ] at B1
  have HB1 := Lib.hid B1
  have B2 := before_any y a1 (by omega)
  rw [hY] at B2
  have HB2 := Lib.hid B2
  have hc : (q + 2 = y → Z ≤ L ∧ Z = Y) ∧ (q + 1 = y → L < Z) := ⟨fun h => by rw [← hZ, h]; omega, fun h => by rw [← hZ, show q + 2 = y + 1 by omega]; omega⟩
  clear hn hr hnext hlen hle hD hR hL hq B1 B2 hZ hY HB
  have hsub : (L : Int) - (Y : Int) = (R : Int) := by omega
  rcases hnear with hy | hy
  · have hcmp : ¬ (Z : Int) ≤ (L : Int) := by have := hc.2 hy; omega
    have ey : 1 + (q : Int) = (y : Int) := by omega
    rw [← ey] at HB2
    have HMy := Lib.hid (fun k hk W => HM.out k hk W)
    rw [← ey] at HMy
    replace hfin := Lib.hid (And.intro ey hfin.out)
    clear hc hy ey HM
    go_enter Tryz.func12, Tryz.ntmps12
    go_wp2_with (first
      | (go_at_call 24; with_reducible refine (HB1.out _).mono ?_; rintro e w1 ⟨rfl, rfl⟩)
      | (go_at_call 24; with_reducible refine (HB2.out _).mono ?_; rintro e w1 ⟨rfl, rfl⟩))
    go_loop [5, 7] (fun a b => ∃ k : Nat, 1 ≤ k ∧ k ≤ m ∧ a = .int .i64 ((R - ms y k : Nat) : Int) ∧ b = .int .i64 k)
      (fun _ b => m - (intOf b).toNat)
    case atStart => exact ⟨1, Nat.le_refl _, a3, by simp [ms], rfl⟩
    case round =>
      obtain ⟨k, k1, k2, rfl, rfl⟩ := hrel
      obtain ⟨e1, e2, e3⟩ := hms.out k k1 k2
      have HMk := Lib.hid (HMy.out k (by omega))
      obtain ⟨A, hA⟩ : ∃ A, ms y k = A := ⟨_, rfl⟩
      obtain ⟨M, hM⟩ : ∃ M, mlen y k = M := ⟨_, rfl⟩
      rw [hM] at HMk e2 e3
      rw [hA] at e1 e2 e3 ⊢
      obtain ⟨S, hS⟩ : ∃ S, R - A = S := ⟨_, rfl⟩
      rw [hS] at e3 ⊢
      have hSb : S ≤ 400 := by omega
      by_cases hlt : k < m
      · obtain ⟨f1, f2⟩ := e2 hlt
        have g1 : (M : Int) ≤ (S : Int) := by omega
        have HS := Lib.hid (show R - ms y (k + 1) = S - M by omega)
        clear e1 e2 e3 f1 f2 hA hM hS
        go_wp2_with (go_at_call 25; refine (HMk.out _).mono ?_; rintro e w1 ⟨rfl, rfl⟩)
        go_roundw
        case rel => exact ⟨k + 1, by omega, by omega, by rw [HS.out]; go_num, by go_num⟩
        case measure => simp [intOf]; omega
      · obtain rfl : k = m := by omega
        have g1 : ¬ (M : Int) ≤ (S : Int) := by have := e3 rfl; omega
        have HS := Lib.hid (show (S : Int) + 1 = d by have := hfin.out.2; rw [hA] at this; omega)
        clear e1 e2 e3 hA hM hS
        go_wp2_with (go_at_call 25; refine (HMk.out _).mono ?_; rintro e w1 ⟨rfl, rfl⟩)
        go_ret3
        refine ⟨?_, rfl⟩
        rw [← HS.out, ← hfin.out.1]
        rfl
  · obtain rfl := (hc.1 hy).2
    have hcmp : (Z : Int) ≤ (L : Int) := by have := hc.1 hy; omega
    have ey : 1 + (q : Int) + 1 = (y : Int) := by omega
    rw [← ey] at HB2
    have HMy := Lib.hid (fun k hk W => HM.out k hk W)
    rw [← ey] at HMy
    replace hfin := Lib.hid (And.intro ey hfin.out)
    clear hc hy ey HM
    go_enter Tryz.func12, Tryz.ntmps12
    go_wp2_with (first
      | (go_at_call 24; with_reducible refine (HB1.out _).mono ?_; rintro e w1 ⟨rfl, rfl⟩)
      | (go_at_call 24; with_reducible refine (HB2.out _).mono ?_; rintro e w1 ⟨rfl, rfl⟩))
    go_loop [5, 7] (fun a b => ∃ k : Nat, 1 ≤ k ∧ k ≤ m ∧ a = .int .i64 ((R - ms y k : Nat) : Int) ∧ b = .int .i64 k)
      (fun _ b => m - (intOf b).toNat)
    case atStart => exact ⟨1, Nat.le_refl _, a3, by simp [ms], rfl⟩
    case round =>
      obtain ⟨k, k1, k2, rfl, rfl⟩ := hrel
      obtain ⟨e1, e2, e3⟩ := hms.out k k1 k2
      have HMk := Lib.hid (HMy.out k (by omega))
      obtain ⟨A, hA⟩ : ∃ A, ms y k = A := ⟨_, rfl⟩
      obtain ⟨M, hM⟩ : ∃ M, mlen y k = M := ⟨_, rfl⟩
      rw [hM] at HMk e2 e3
      rw [hA] at e1 e2 e3 ⊢
      obtain ⟨S, hS⟩ : ∃ S, R - A = S := ⟨_, rfl⟩
      rw [hS] at e3 ⊢
      have hSb : S ≤ 400 := by omega
      by_cases hlt : k < m
      · obtain ⟨f1, f2⟩ := e2 hlt
        have g1 : (M : Int) ≤ (S : Int) := by omega
        have HS := Lib.hid (show R - ms y (k + 1) = S - M by omega)
        clear e1 e2 e3 f1 f2 hA hM hS
        go_wp2_with (go_at_call 25; refine (HMk.out _).mono ?_; rintro e w1 ⟨rfl, rfl⟩)
        go_roundw
        case rel => exact ⟨k + 1, by omega, by omega, by rw [HS.out]; go_num, by go_num⟩
        case measure => simp [intOf]; omega
      · obtain rfl : k = m := by omega
        have g1 : ¬ (M : Int) ≤ (S : Int) := by have := e3 rfl; omega
        have HS := Lib.hid (show (S : Int) + 1 = d by have := hfin.out.2; rw [hA] at this; omega)
        clear e1 e2 e3 hA hM hS
        go_wp2_with (go_at_call 25; refine (HMk.out _).mono ?_; rintro e w1 ⟨rfl, rfl⟩)
        go_ret3
        refine ⟨?_, rfl⟩
        rw [← HS.out, ← hfin.out.1]
        rfl
end Go.Proofs.YtnmdljadnlddeaaGreatDoor
