/- readDate: the day number of a date in words. -/
import Derived.Test.YtnmdljadnlddeaaGreatDoorNames
import Derived.Test.YtnmdljadnlddeaaGreatDoorWords
namespace Go.Proofs.YtnmdljadnlddeaaGreatDoor
open Go.ChangeShapes Go.WideShapes Go.ChangeAt Go.RowKit
open DateP (low dg dg2 dayP yearP nameP monNames mlen)

/-- What a date's words mean: its number. -/
def dateV (d m y : List UInt8) : Option Int :=
  (dayP d).bind fun dd => (nameP monNames m).bind fun mm => (yearP y).bind fun yy => if DateP.Is yy (mm + 1) dd then some (DateP.num yy (mm + 1) dd) else none
def dateC (n : Nat) (d m y : Int) : Option Int := if n ≤ 2 ∧ IsI y m d then some (DateP.num y.toNat m.toNat d.toNat) else none
theorem day_is (d : List UInt8) (n : Nat) (hn : n ≤ 31) (h1 : 1 ≤ n) : dayP d = some n ↔ d.length ≤ 2 ∧ (numberV d 31).getD 0 = n := by
  match d with
  | [] =>
    show none = some n ↔ _
    have : numberV [] 31 = none := by unfold numberV; rw [if_neg (by simp)]
    rw [this]
    simp
    omega
  | [a] =>
    show dg a = some n ↔ _
    rw [number1]
    cases h : dg a with
    | none => simp [upTo]; omega
    | some x =>
      have hx := (dg_some h).2
      rw [upTo_some (by omega)]
      simp
      omega
  | [a, b] =>
    show dg2 a b = some n ↔ _
    rw [number2]
    cases h : dg2 a b with
    | none => simp [upTo]; omega
    | some x =>
      by_cases hx : x ≤ 31
      · rw [upTo_some hx]
        simp
        omega
      · unfold upTo
        simp [hx]
        omega
  | a :: b :: c :: r =>
    show none = some n ↔ _
    simp
theorem date_is (d m y : List UInt8) : dateV d m y = dateC d.length ((numberV d 31).getD 0) (monthV m) (yearV y) := by
  unfold dateC
  by_cases h : d.length ≤ 2 ∧ IsI (yearV y) (monthV m) ((numberV d 31).getD 0)
  · rw [if_pos h]
    obtain ⟨h2, hI⟩ := h
    obtain ⟨a, b, c, ea, eb, ec, hIs⟩ := hI.nat
    have hIs2 := hIs
    obtain ⟨y1, y2, m1, m2, d1, d2⟩ := hIs
    have h31 := (DateP.mlen_pos a b).2
    have hd : dayP d = some c := (day_is d c (by omega) d1).2 ⟨h2, ec⟩
    have hm : nameP monNames m = some (b - 1) := by
      unfold monthV at eb
      cases hk : nameP monNames m with
      | none => rw [hk] at eb; simp at eb; omega
      | some i => rw [hk] at eb; simp at eb; congr 1; omega
    have hy : yearP y = some a := by
      unfold yearV at ea
      cases hk : yearP y with
      | none => rw [hk] at ea; simp at ea; omega
      | some i => rw [hk] at ea; simp at ea; congr 1; omega
    unfold dateV
    rw [hd, hm, hy, ea, eb, ec]
    simp only [Option.bind_some]
    rw [show b - 1 + 1 = b by omega, if_pos hIs2]
    rfl
  · rw [if_neg h]
    unfold dateV
    cases hd : dayP d with
    | none => rfl
    | some c =>
      cases hm : nameP monNames m with
      | none => rfl
      | some i =>
        cases hy : yearP y with
        | none => rfl
        | some a =>
          simp only [Option.bind_some]
          rw [if_neg]
          intro hIs
          refine h ?_
          have hIs2 := hIs
          obtain ⟨y1, y2, m1, m2, d1, d2⟩ := hIs
          have h31 := (DateP.mlen_pos a (i + 1)).2
          obtain ⟨k1, k2⟩ := (day_is d c (by omega) d1).1 hd
          refine ⟨k1, ?_⟩
          have e1 : yearV y = (a : Int) := by unfold yearV; rw [hy]
          have e2 : monthV m = ((i + 1 : Nat) : Int) := by unfold monthV; rw [hm]; simp
          rw [e1, e2, k2]
          exact (isI_nat a (i + 1) c).2 hIs2
set_option maxHeartbeats 1000000 in
theorem date_any (d m y : ByteArray) (hd : d.size ≤ 500) (hy : y.size ≤ 500) (w : World) (hv : Vars w) :
    Calls Tryz.prog 20 #[.string d, .string m, .string y] w fun e w' => e = .returned (.tuple #[.int .i64 ((dateV d.data.toList m.data.toList y.data.toList).getD 0), .bool (dateV d.data.toList m.data.toList y.data.toList).isSome]) ∧ Below w.heap.size w w' := by
  rw [date_is, ← size_list]
  obtain ⟨o, ho⟩ : ∃ o, numberV d.data.toList 31 = o := ⟨_, rfl⟩
  have HN := Lib.hid (number_is d 31 31 rfl (by omega) hd o ho)
  have HM := Lib.hid (monthN_any m)
  have HY := Lib.hid (year_any y hy)
  have HV := Lib.hid hv
  rw [ho]
  obtain ⟨D, hD⟩ : ∃ D, o.getD 0 = D := ⟨_, rfl⟩
  obtain ⟨M, hM⟩ : ∃ M, monthV m.data.toList = M := ⟨_, rfl⟩
  obtain ⟨Y, hY⟩ : ∃ Y, yearV y.data.toList = Y := ⟨_, rfl⟩
  rw [hD] at HN ⊢
  rw [hM] at HM ⊢
  rw [hY] at HY ⊢
  have hE := exists_any Y M D
  have hDd := days_any Y M D
  unfold dateC
  by_cases h2 : d.size ≤ 2
  · have e2 : ¬ (2 : Int) < (d.size : Int) := by omega
    by_cases hI : IsI Y M D
    · rw [if_pos ⟨h2, hI⟩]
      rw [decide_eq_true hI] at hE
      unfold daysV at hDd
      rw [if_pos hI] at hDd
      have HE := Lib.hid hE
      have HD := Lib.hid hDd
      obtain ⟨N, hN⟩ : ∃ N, DateP.num Y.toNat M.toNat D.toNat = N := ⟨_, rfl⟩
      rw [hN] at HD ⊢
      clear hE hDd ho hD hM hY hI hv hN
      go_enter Tryz.func20, Tryz.ntmps20
      go_wp2_with (first
        | (go_at_call 33; refine (HN.out _ HV.out).mono ?_; rintro e w1 ⟨rfl, hb1⟩)
        | (go_at_call 34; refine (HM.out _ (HV.out.below hb1)).mono ?_; rintro e w2 ⟨rfl, hb2⟩)
        | (go_at_call 35; refine (HY.out _ ((HV.out.below hb1).below hb2)).mono ?_; rintro e w3 ⟨rfl, hb3⟩)
        | (go_at_call 26; refine (HE.out _).mono ?_; rintro e w4 ⟨rfl, rfl⟩)
        | (go_at_call 13; refine (HD.out _).mono ?_; rintro e w5 ⟨rfl, rfl⟩))
      go_ret2
      exact ⟨rfl, Qtrans hb1 (Qtrans hb2 hb3)⟩
    · rw [if_neg (fun k => hI k.2)]
      rw [decide_eq_false hI] at hE
      have HE := Lib.hid hE
      clear hE hDd ho hD hM hY hI hv
      go_enter Tryz.func20, Tryz.ntmps20
      go_wp2_with (first
        | (go_at_call 33; refine (HN.out _ HV.out).mono ?_; rintro e w1 ⟨rfl, hb1⟩)
        | (go_at_call 34; refine (HM.out _ (HV.out.below hb1)).mono ?_; rintro e w2 ⟨rfl, hb2⟩)
        | (go_at_call 35; refine (HY.out _ ((HV.out.below hb1).below hb2)).mono ?_; rintro e w3 ⟨rfl, hb3⟩)
        | (go_at_call 26; refine (HE.out _).mono ?_; rintro e w4 ⟨rfl, rfl⟩))
      go_ret2
      exact ⟨rfl, Qtrans hb1 (Qtrans hb2 hb3)⟩
  · rw [if_neg (fun k => h2 k.1)]
    have e2 : (2 : Int) < (d.size : Int) := by omega
    clear hE hDd ho hD hM hY hv
    go_enter Tryz.func20, Tryz.ntmps20
    go_wp2_with (first
      | (go_at_call 33; refine (HN.out _ HV.out).mono ?_; rintro e w1 ⟨rfl, hb1⟩)
      | (go_at_call 34; refine (HM.out _ (HV.out.below hb1)).mono ?_; rintro e w2 ⟨rfl, hb2⟩)
      | (go_at_call 35; refine (HY.out _ ((HV.out.below hb1).below hb2)).mono ?_; rintro e w3 ⟨rfl, hb3⟩))
    go_ret2
    exact ⟨rfl, Qtrans hb1 (Qtrans hb2 hb3)⟩
end Go.Proofs.YtnmdljadnlddeaaGreatDoor
