/- Words of digits: yearNumber, readClock, readOffset. -/
import Derived.Test.YtnmdljadnlddeaaGreatDoorNumF
namespace Go.Proofs.YtnmdljadnlddeaaGreatDoor
open Go.ChangeShapes Go.WideShapes Go.ChangeAt Go.RowKit
open DateP (dg dg2 yearP timeP clockP)

theorem number_is (s : ByteArray) (hi : Int) (high : Nat) (hhi : hi = high) (hh : high ≤ 9999) (hs : s.size ≤ 500) (o : Option Int) (ho : numberV s.data.toList high = o) (w : World) (hv : Vars w) :
    Calls Tryz.prog 33 #[.string s, .int .i64 hi] w fun e w' => e = .returned (.tuple #[.int .i64 (o.getD 0), .bool o.isSome]) ∧ Below w.heap.size w w' := by
  subst ho hhi
  exact number_any s high hh hs w hv

theorem year_any (s : ByteArray) (hs : s.size ≤ 500) (w : World) (hv : Vars w) :
    Calls Tryz.prog 35 #[.string s] w fun e w' => e = .returned (.int .i64 (yearV s.data.toList)) ∧ Below w.heap.size w w' := by
  rw [year_is, ← size_list]
  obtain ⟨o, ho⟩ : ∃ o, numberV s.data.toList 9999 = o := ⟨_, rfl⟩
  have HN := Lib.hid (number_is s 9999 9999 rfl (Nat.le_refl _) hs o ho w hv)
  have hb := numberV_short s.data.toList 9999
  rw [ho] at hb ⊢
  cases o with
  | none =>
    go_enter Tryz.func35, Tryz.ntmps35
    go_wp2_with (go_at_call 33; refine HN.out.mono ?_; rintro e w1 ⟨rfl, hb1⟩)
    go_ret
    exact ⟨rfl, hb1⟩
  | some v =>
    obtain ⟨b0, b1⟩ := hb v rfl
    clear hb ho
    unfold yearC
    simp only []
    rcases (show s.size = 2 ∨ s.size = 3 ∨ s.size = 4 ∨ (s.size ≠ 2 ∧ s.size ≠ 3 ∧ s.size ≠ 4) by omega) with h | h | h | ⟨h2, h3, h4⟩
    · have e2 : ((s.size : Int) == 2) = true := beq_iff_eq.2 (by omega)
      by_cases h50 : v < 50
      · simp only [h, if_true, if_pos h50]
        go_enter Tryz.func35, Tryz.ntmps35
        go_wp2_with (go_at_call 33; refine HN.out.mono ?_; rintro e w1 ⟨rfl, hb1⟩)
        go_ret
        exact ⟨rfl, hb1⟩
      · simp only [h, if_true, if_neg h50]
        go_enter Tryz.func35, Tryz.ntmps35
        go_wp2_with (go_at_call 33; refine HN.out.mono ?_; rintro e w1 ⟨rfl, hb1⟩)
        go_ret
        exact ⟨rfl, hb1⟩
    · have e2 : ((s.size : Int) == 2) = false := beq_eq_false_iff_ne.2 (by omega)
      have e3 : ((s.size : Int) == 3) = true := beq_iff_eq.2 (by omega)
      rw [if_neg (by omega), if_pos h]
      go_enter Tryz.func35, Tryz.ntmps35
      go_wp2_with (go_at_call 33; refine HN.out.mono ?_; rintro e w1 ⟨rfl, hb1⟩)
      go_ret
      exact ⟨rfl, hb1⟩
    · have e2 : ((s.size : Int) == 2) = false := beq_eq_false_iff_ne.2 (by omega)
      have e3 : ((s.size : Int) == 3) = false := beq_eq_false_iff_ne.2 (by omega)
      have e4 : ((s.size : Int) == 4) = true := beq_iff_eq.2 (by omega)
      rw [if_neg (by omega), if_neg (by omega), if_pos h]
      go_enter Tryz.func35, Tryz.ntmps35
      go_wp2_with (go_at_call 33; refine HN.out.mono ?_; rintro e w1 ⟨rfl, hb1⟩)
      go_ret
      exact ⟨rfl, hb1⟩
    · have e2 : ((s.size : Int) == 2) = false := beq_eq_false_iff_ne.2 (by omega)
      have e3 : ((s.size : Int) == 3) = false := beq_eq_false_iff_ne.2 (by omega)
      have e4 : ((s.size : Int) == 4) = false := beq_eq_false_iff_ne.2 (by omega)
      rw [if_neg h2, if_neg h3, if_neg h4]
      go_enter Tryz.func35, Tryz.ntmps35
      go_wp2_with (go_at_call 33; refine HN.out.mono ?_; rintro e w1 ⟨rfl, hb1⟩)
      go_ret
      exact ⟨rfl, hb1⟩

/-- What readOffset answers. -/
def offV (l : List UInt8) : Option Int :=
  if l.length = 5 then (numberV ((l.drop 1).take 2) 23).bind fun h => (numberV (l.drop 3) 59).bind fun m => some (if l.head? = some 45 then -(60 * h + m) else 60 * h + m) else none
set_option maxHeartbeats 1000000 in
theorem offset_any (s : ByteArray) (_hs : s.size ≤ 500) (w : World) (hv : Vars w) :
    Calls Tryz.prog 37 #[.string s] w fun e w' => e = .returned (.tuple #[.int .i64 ((offV s.data.toList).getD 0), .bool (offV s.data.toList).isSome]) ∧ Below w.heap.size w w' := by
  unfold offV
  rw [← size_list]
  by_cases h5 : s.size = 5
  · rw [if_pos h5]
    have e5 : ((s.size : Int) != 5) = false := by rw [bne_eq_false_iff_eq]; omega
    obtain ⟨a, ha⟩ : ∃ a, s.extract 1 3 = a := ⟨_, rfl⟩
    obtain ⟨b, hb⟩ : ∃ b, s.extract 3 s.size = b := ⟨_, rfl⟩
    have hal : a.data.toList = (s.data.toList.drop 1).take 2 := by rw [← ha, part_of s 1 3 (by omega) (by omega), strL_list]
    have hbl : b.data.toList = s.data.toList.drop 3 := by rw [← hb, part_rest s 3 (by omega)]
    have haz : a.size ≤ 500 := by rw [← ha, ByteArray.size_extract]; omega
    have hbz : b.size ≤ 500 := by rw [← hb, ByteArray.size_extract]; omega
    obtain ⟨o, ho⟩ : ∃ o, numberV ((s.data.toList.drop 1).take 2) 23 = o := ⟨_, rfl⟩
    obtain ⟨p, hp⟩ : ∃ p, numberV (s.data.toList.drop 3) 59 = p := ⟨_, rfl⟩
    have HA := Lib.hid (number_is a 23 23 rfl (by omega) haz o (by rw [hal]; exact ho))
    have HB := Lib.hid (number_is b 59 59 rfl (by omega) hbz p (by rw [hbl]; exact hp))
    have b1 := numberV_short ((s.data.toList.drop 1).take 2) 23
    have b2 := numberV_short (s.data.toList.drop 3) 59
    rw [ho] at b1 ⊢
    rw [hp] at b2 ⊢
    have r1 : ∀ W, (Instr.slice 9 (.string s) (some (.int .i64 1)) (some (.int .i64 3)) none).run Tryz.prog W = .ok (.string a) W := fun W => by rw [← ha]; exact run_slice_str s 1 3 3 rfl (by omega) (by omega) W
    have r2 : ∀ W, (Instr.slice 9 (.string s) (some (.int .i64 3)) none none).run Tryz.prog W = .ok (.string b) W := fun W => by rw [← hb]; exact run_slice_from s 3 (by omega) W
    have hpos : 0 < s.size := by omega
    have hhd : s.data.toList.head? = some s[0] := by
      rw [List.head?_eq_getElem?, List.getElem?_eq_getElem (by rw [← size_list]; exact hpos)]; rfl
    rw [hhd]
    have HV := Lib.hid hv
    clear ha hb hal hbl haz hbz ho hp hhd hv
    cases o with
    | none =>
      go_enter Tryz.func37, Tryz.ntmps37
      go_wp2_with (go_at_call 33; with_reducible refine (HA.out _ HV.out).mono ?_; rintro e w1 ⟨rfl, hb1⟩)
      refine (HB.out _ (HV.out.below hb1)).mono ?_
      rintro e w2 ⟨rfl, hb2⟩
      go_wp2_with fail
      all_goals go_ret2
      all_goals exact ⟨rfl, Qtrans hb1 hb2⟩
    | some h =>
      obtain ⟨b1a, b1b⟩ := b1 h rfl
      cases p with
      | none =>
        go_enter Tryz.func37, Tryz.ntmps37
        go_wp2_with (go_at_call 33; with_reducible refine (HA.out _ HV.out).mono ?_; rintro e w1 ⟨rfl, hb1⟩)
        refine (HB.out _ (HV.out.below hb1)).mono ?_
        rintro e w2 ⟨rfl, hb2⟩
        go_wp2_with fail
        all_goals go_ret2
        all_goals exact ⟨rfl, Qtrans hb1 hb2⟩
      | some m =>
        obtain ⟨b2a, b2b⟩ := b2 m rfl
        clear b1 b2
        by_cases h45 : s[0] = 45
        · have e45 : ((s[0].toNat : Int) == 45) = true := by rw [h45]; rfl
          rw [h45]
          simp only [Option.bind_some, if_true, Option.getD_some, Option.isSome_some]
          clear h45
          go_enter Tryz.func37, Tryz.ntmps37
          go_wp2_with (go_at_call 33; with_reducible refine (HA.out _ HV.out).mono ?_; rintro e w1 ⟨rfl, hb1⟩)
          refine (HB.out _ (HV.out.below hb1)).mono ?_
          rintro e w2 ⟨rfl, hb2⟩
          go_wp2_with fail
          go_ret2
          refine ⟨?_, Qtrans hb1 hb2⟩
          rw [Int.mul_comm]
          rfl
        · have e45 : ((s[0].toNat : Int) == 45) = false := beq_eq_false_iff_ne.2 (fun e => h45 (UInt8.toNat_inj.1 (by have : (45 : UInt8).toNat = 45 := rfl; omega)))
          simp only [Option.bind_some, Option.getD_some, Option.isSome_some]
          rw [if_neg (by simpa using h45)]
          clear h45
          go_enter Tryz.func37, Tryz.ntmps37
          go_wp2_with (go_at_call 33; with_reducible refine (HA.out _ HV.out).mono ?_; rintro e w1 ⟨rfl, hb1⟩)
          refine (HB.out _ (HV.out.below hb1)).mono ?_
          rintro e w2 ⟨rfl, hb2⟩
          go_wp2_with fail
          go_ret2
          refine ⟨?_, Qtrans hb1 hb2⟩
          rw [Int.mul_comm]
          rfl
  · rw [if_neg h5]
    have e5 : ((s.size : Int) != 5) = true := by rw [bne_iff_ne]; omega
    go_enter Tryz.func37, Tryz.ntmps37
    go_wp2_with fail
    go_ret2
    exact ⟨rfl, Below.refl _ _⟩

/-- What readClock answers. -/
def clockV (l : List UInt8) : Option Int := (timeP l).map fun n : Nat => (n : Int)
theorem clockV_no {l : List UInt8} (h5 : l.length ≠ 5) (h8 : l.length ≠ 8) : clockV l = none := by
  unfold clockV timeP
  split
  · simp at h5
  · simp at h8
  · rfl
/-- A word of eight bytes. -/
def clock8 (l : List UInt8) : Option Int :=
  if l.getD 2 0 = 58 ∧ l.getD 5 0 = 58 then clockC (numberV (l.take 2) 23) (numberV ((l.drop 3).take 2) 59) (numberV (l.drop 6) 60) else none
theorem clockV_8 {l : List UInt8} (h8 : l.length = 8) : clockV l = clock8 l := by
  obtain ⟨a, b, k, c, d, k2, e, f, rfl⟩ : ∃ a b k c d k2 e f, l = [a, b, k, c, d, k2, e, f] := by
    match l, h8 with
    | [a, b, k, c, d, k2, e, f], _ => exact ⟨a, b, k, c, d, k2, e, f, rfl⟩
  exact time_is a b k c d k2 e f
theorem clockV_5 {l : List UInt8} (h5 : l.length = 5) : clockV l = clock8 (l ++ [58, 48, 48]) := by
  obtain ⟨a, b, k, c, d, rfl⟩ : ∃ a b k c d, l = [a, b, k, c, d] := by
    match l, h5 with
    | [a, b, k, c, d], _ => exact ⟨a, b, k, c, d, rfl⟩
  unfold clockV
  rw [time_five]
  exact clockV_8 (l := [a, b, k, c, d, 58, 48, 48]) rfl
theorem getD_byte (s : ByteArray) (n : Nat) (h : n < s.size) : s.data.toList.getD n 0 = s[n] := by
  rw [List.getD_eq_getElem?_getD, List.getElem?_eq_getElem (by rw [← size_list]; exact h)]; rfl
theorem eq_byte (c : UInt8) (k : Nat) (hk : k < 256) : c = UInt8.ofNat k ↔ c.toNat = k := by
  constructor
  · rintro rfl
    rw [UInt8.toNat_ofNat']; omega
  · intro h
    refine UInt8.toNat_inj.1 ?_
    rw [UInt8.toNat_ofNat', h]; omega
set_option maxHeartbeats 4000000 in
theorem clock_any (s : ByteArray) (hs : s.size ≤ 500) (w : World) (hv : Vars w) :
    Calls Tryz.prog 21 #[.string s] w fun e w' => e = .returned (.tuple #[.int .i64 ((clockV s.data.toList).getD 0), .bool (clockV s.data.toList).isSome]) ∧ Below w.heap.size w w' := by
  by_cases hno : s.size ≠ 5 ∧ s.size ≠ 8
  · rw [clockV_no (by rw [← size_list]; exact hno.1) (by rw [← size_list]; exact hno.2)]
    have e5 : ((s.size : Int) == 5) = false := beq_eq_false_iff_ne.2 (by omega)
    have e8 : ((s.size : Int) != 8) = true := by rw [bne_iff_ne]; omega
    go_enter Tryz.func21, Tryz.ntmps21
    go_wp2_with fail
    all_goals go_ret2
    all_goals exact ⟨rfl, Below.refl _ _⟩
  · obtain ⟨t, ht8, htv, hst⟩ : ∃ t : ByteArray, t.size = 8 ∧ clockV s.data.toList = clock8 t.data.toList ∧
        ((((s.size : Int) == 5) = true ∧ ∀ W, (Op.stringOp .add s ⟨#[58, 48, 48]⟩).run Tryz.prog W = .ok (.string t) W) ∨ (((s.size : Int) == 5) = false ∧ s = t)) := by
      by_cases h5 : s.size = 5
      · have hz : (s ++ ⟨#[58, 48, 48]⟩ : ByteArray).size = 8 := by rw [ByteArray.size_append, h5]; rfl
        refine ⟨s ++ ⟨#[58, 48, 48]⟩, hz, ?_, .inl ⟨beq_iff_eq.2 (by omega), fun W => run_string_add_sum W _ _ (by rw [← ByteArray.size_append, hz]; omega)⟩⟩
        rw [list_append]
        exact clockV_5 (by rw [← size_list]; exact h5)
      · refine ⟨s, by omega, clockV_8 (by rw [← size_list]; omega), .inr ⟨beq_eq_false_iff_ne.2 (by omega), rfl⟩⟩
    rw [htv]
    clear htv hno
    obtain ⟨c2, hc2⟩ : ∃ c, t[2]'(by omega) = c := ⟨_, rfl⟩
    obtain ⟨c5, hc5⟩ : ∃ c, t[5]'(by omega) = c := ⟨_, rfl⟩
    obtain ⟨a, ha⟩ : ∃ a, t.extract 0 2 = a := ⟨_, rfl⟩
    obtain ⟨b, hb⟩ : ∃ b, t.extract 3 5 = b := ⟨_, rfl⟩
    obtain ⟨c, hc⟩ : ∃ c, t.extract 6 t.size = c := ⟨_, rfl⟩
    have hal : a.data.toList = t.data.toList.take 2 := by rw [← ha, part_start t 2 (by omega)]
    have hbl : b.data.toList = (t.data.toList.drop 3).take 2 := by rw [← hb, part_of t 3 5 (by omega) (by omega), strL_list]
    have hcl : c.data.toList = t.data.toList.drop 6 := by rw [← hc, part_rest t 6 (by omega)]
    have haz : a.size ≤ 500 := by rw [← ha, ByteArray.size_extract]; omega
    have hbz : b.size ≤ 500 := by rw [← hb, ByteArray.size_extract]; omega
    have hcz : c.size ≤ 500 := by rw [← hc, ByteArray.size_extract]; omega
    have i2 : ∀ W, (Instr.index 9 (.string t) (.int .i64 2)).run Tryz.prog W = .ok (.int .u8 (c2.toNat : Int)) W := fun W => by
      rw [← hc2]
      have h2 : 2 < t.size := by omega
      go_simp
    have i5 : ∀ W, (Instr.index 9 (.string t) (.int .i64 5)).run Tryz.prog W = .ok (.int .u8 (c5.toNat : Int)) W := fun W => by
      rw [← hc5]
      have h2 : 5 < t.size := by omega
      go_simp
    have r1 : ∀ W, (Instr.slice 9 (.string t) none (some (.int .i64 2)) none).run Tryz.prog W = .ok (.string a) W := fun W => by rw [← ha]; exact run_slice_to t 2 (by omega) W
    have r2 : ∀ W, (Instr.slice 9 (.string t) (some (.int .i64 3)) (some (.int .i64 5)) none).run Tryz.prog W = .ok (.string b) W := fun W => by rw [← hb]; exact run_slice_str t 3 5 5 rfl (by omega) (by omega) W
    have r3 : ∀ W, (Instr.slice 9 (.string t) (some (.int .i64 6)) none none).run Tryz.prog W = .ok (.string c) W := fun W => by rw [← hc]; exact run_slice_from t 6 (by omega) W
    have e8 : ((t.size : Int) != 8) = false := by rw [bne_eq_false_iff_eq]; omega
    have hv8 : clock8 t.data.toList = if c2 = 58 ∧ c5 = 58 then clockC (numberV a.data.toList 23) (numberV b.data.toList 59) (numberV c.data.toList 60) else none := by
      unfold clock8
      rw [getD_byte t 2 (by omega), getD_byte t 5 (by omega), hc2, hc5, hal, hbl, hcl]
    rw [hv8]
    clear hv8 hal hbl hcl ha hb hc hc2 hc5
    obtain ⟨o1, ho1⟩ : ∃ o, numberV a.data.toList 23 = o := ⟨_, rfl⟩
    obtain ⟨o2, ho2⟩ : ∃ o, numberV b.data.toList 59 = o := ⟨_, rfl⟩
    obtain ⟨o3, ho3⟩ : ∃ o, numberV c.data.toList 60 = o := ⟨_, rfl⟩
    have b1 := numberV_short a.data.toList 23
    have b2 := numberV_short b.data.toList 59
    have b3 := numberV_short c.data.toList 60
    have HA := Lib.hid (number_is a 23 23 rfl (by omega) haz o1 ho1)
    have HB := Lib.hid (number_is b 59 59 rfl (by omega) hbz o2 ho2)
    have HC := Lib.hid (number_is c 60 60 rfl (by omega) hcz o3 ho3)
    have HV := Lib.hid hv
    rw [ho1] at b1 ⊢
    rw [ho2] at b2 ⊢
    rw [ho3] at b3 ⊢
    clear ho1 ho2 ho3 haz hbz hcz hv
    by_cases h2 : c2 = 58
    · have e2 : ((c2.toNat : Int) != 58) = false := by rw [h2]; rfl
      by_cases h5 : c5 = 58
      · have e5 : ((c5.toNat : Int) != 58) = false := by rw [h5]; rfl
        rw [if_pos ⟨h2, h5⟩]
        clear h2 h5
        have hcase : (o1 = none ∨ ∃ h, o1 = some h ∧ 0 ≤ h ∧ h ≤ 23) ∧ (o2 = none ∨ ∃ m, o2 = some m ∧ 0 ≤ m ∧ m ≤ 59) ∧ (o3 = none ∨ ∃ s, o3 = some s ∧ 0 ≤ s ∧ s ≤ 60) := by
          refine ⟨?_, ?_, ?_⟩
          · cases o1 with
            | none => exact .inl rfl
            | some v => exact .inr ⟨v, rfl, b1 v rfl⟩
          · cases o2 with
            | none => exact .inl rfl
            | some v => exact .inr ⟨v, rfl, b2 v rfl⟩
          · cases o3 with
            | none => exact .inl rfl
            | some v => exact .inr ⟨v, rfl, b3 v rfl⟩
        clear b1 b2 b3
        obtain ⟨k1, k2, k3⟩ := hcase
        rcases k1 with rfl | ⟨h, rfl, h0, h1⟩ <;> rcases k2 with rfl | ⟨m, rfl, m0, m1⟩ <;> rcases k3 with rfl | ⟨q, rfl, q0, q1⟩ <;> rcases hst with ⟨e, radd⟩ | ⟨e, rfl⟩
        all_goals
          simp only [clockC, Option.bind_some, Option.bind_none, Option.getD_some, Option.getD_none, Option.isSome_some, Option.isSome_none]
          go_enter Tryz.func21, Tryz.ntmps21
          go_wp2_with (first
            | (go_at_call 33; with_reducible refine (HA.out _ HV.out).mono ?_; rintro e w1 ⟨rfl, hb1⟩)
            | (go_at_call 33; with_reducible refine (HB.out _ (HV.out.below hb1)).mono ?_; rintro e w2 ⟨rfl, hb2⟩)
            | (go_at_call 33; with_reducible refine (HC.out _ ((HV.out.below hb1).below hb2)).mono ?_; rintro e w3 ⟨rfl, hb3⟩))
          all_goals go_ret2
          all_goals first
            | exact ⟨rfl, Qtrans hb1 (Qtrans hb2 hb3)⟩
            | (rw [Int.mul_comm 3600, Int.mul_comm 60]; exact ⟨rfl, Qtrans hb1 (Qtrans hb2 hb3)⟩)
      · have e5 : ((c5.toNat : Int) != 58) = true := by rw [bne_iff_ne]; intro e; exact h5 ((eq_byte c5 58 (by omega)).2 (by omega))
        rw [if_neg (fun k => h5 k.2)]
        clear h2 h5 b1 b2 b3
        rcases hst with ⟨e, radd⟩ | ⟨e, rfl⟩
        all_goals
          go_enter Tryz.func21, Tryz.ntmps21
          go_wp2_with fail
          all_goals go_ret2
          all_goals exact ⟨rfl, Below.refl _ _⟩
    · have e2 : ((c2.toNat : Int) != 58) = true := by rw [bne_iff_ne]; intro e; exact h2 ((eq_byte c2 58 (by omega)).2 (by omega))
      rw [if_neg (fun k => h2 k.1)]
      clear h2 b1 b2 b3
      rcases hst with ⟨e, radd⟩ | ⟨e, rfl⟩
      all_goals
        go_enter Tryz.func21, Tryz.ntmps21
        go_wp2_with fail
        all_goals go_ret2
        all_goals exact ⟨rfl, Below.refl _ _⟩
end Go.Proofs.YtnmdljadnlddeaaGreatDoor
