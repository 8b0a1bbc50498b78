/- Times: Right, local, Part. -/
import Derived.Test.YtnmdljadnlddeaaGreatDoorCal
namespace Go.Proofs.YtnmdljadnlddeaaGreatDoor
open Go.ChangeShapes Go.WideShapes Go.ChangeAt Go.RowKit
open DateP (ys ms mlen ylen leap Right)

theorem Qtrans {w w1 w2 : World} (h : Below w.heap.size w w1) (k : Below w1.heap.size w1 w2) : Below w.heap.size w w2 := h.trans (k.mono h.size)
/-- A time as a value. -/
def timeV (u z : Int) : Value := .agg #[.int .i64 u, .int .i64 z]
theorem right_any (u z : Int) (w : World) :
    Calls Tryz.prog 10 #[timeV u z] w fun e w' => e = .returned (.bool (decide (Right u z))) ∧ Below w.heap.size w w' := by
  unfold timeV
  by_cases h1 : -62135596800 ≤ u
  · by_cases h2 : u < 253402300800
    · by_cases h3 : -1439 ≤ z
      · by_cases h4 : z ≤ 1439
        · have hd : decide (Right u z) = true := decide_eq_true ⟨h1, by omega, h3, h4⟩
          rw [hd]
          clear hd
          go_enter Tryz.func10, Tryz.ntmps10
          go_wp2
          go_ret
          exact ⟨rfl, (Below.refl _ _).alloc (Nat.le_refl _) _⟩
        · have hd : decide (Right u z) = false := decide_eq_false (fun h => h4 h.2.2.2)
          rw [hd]
          clear hd
          go_enter Tryz.func10, Tryz.ntmps10
          go_wp2
          go_ret
          exact ⟨rfl, (Below.refl _ _).alloc (Nat.le_refl _) _⟩
      · have hd : decide (Right u z) = false := decide_eq_false (fun h => h3 h.2.2.1)
        rw [hd]
        clear hd
        go_enter Tryz.func10, Tryz.ntmps10
        go_wp2
        go_ret
        exact ⟨rfl, (Below.refl _ _).alloc (Nat.le_refl _) _⟩
    · have hd : decide (Right u z) = false := decide_eq_false (fun h => h2 (by have := h.2.1; omega))
      rw [hd]
      clear hd
      go_enter Tryz.func10, Tryz.ntmps10
      go_wp2
      go_ret
      exact ⟨rfl, (Below.refl _ _).alloc (Nat.le_refl _) _⟩
  · have hd : decide (Right u z) = false := decide_eq_false (fun h => h1 h.1)
    rw [hd]
    clear hd
    go_enter Tryz.func10, Tryz.ntmps10
    go_wp2
    go_ret
    exact ⟨rfl, (Below.refl _ _).alloc (Nat.le_refl _) _⟩

/-- The day of a local time, and its second. -/
def dayV (u z : Int) : Int := (u + 60 * z) / 86400
def secV (u z : Int) : Int := (u + 60 * z) % 86400
theorem secV_range (u z : Int) : 0 ≤ secV u z ∧ secV u z < 86400 := by unfold secV; omega
theorem day_sec (u z : Int) : 86400 * dayV u z + secV u z = u + 60 * z := by unfold dayV secV; omega
theorem dayV_range {u z : Int} (h : Right u z) : -719163 ≤ dayV u z ∧ dayV u z ≤ 2932897 := by
  obtain ⟨h1, h2, h3, h4⟩ := h
  unfold dayV; omega
theorem local_any (u z : Int) (h : Right u z) (w : World) :
    Calls Tryz.prog 23 #[timeV u z] w fun e w' => e = .returned (.tuple #[.int .i64 (dayV u z), .int .i64 (secV u z)]) ∧ Below w.heap.size w w' := by
  have hb := dayV_range h
  have hs := secV_range u z
  have hds := day_sec u z
  obtain ⟨h1, h2, h3, h4⟩ := h
  obtain ⟨S, hS⟩ : ∃ S, u + z * 60 = S := ⟨_, rfl⟩
  obtain ⟨D, hD⟩ : ∃ D, dayV u z = D := ⟨_, rfl⟩
  obtain ⟨C, hC⟩ : ∃ C, secV u z = C := ⟨_, rfl⟩
  rw [hD, hC] at hds ⊢
  rw [hD] at hb
  rw [hC] at hs
  have hSD : S = 86400 * D + C := by omega
  obtain ⟨r, hr⟩ : ∃ r, S.tmod 86400 = r := ⟨_, rfl⟩
  have hrb : -86400 < r ∧ r < 86400 ∧ (r + 86400) % 86400 = C := by
    have e := Int.tmod_def S 86400
    have e2 := Int.tmod_lt_of_pos S (show (0 : Int) < 86400 by decide)
    have e3 := Int.lt_tmod_of_pos S (show (0 : Int) < 86400 by decide)
    rw [hr] at e e2 e3
    refine ⟨e3, e2, ?_⟩
    omega
  obtain ⟨r1, r2, r3⟩ := hrb
  have e4 : S - C = 86400 * D := by omega
  have e5 : (86400 * D).tdiv 86400 = D := Int.mul_tdiv_cancel_left _ (by decide)
  have hSb : -9000000000000000 ≤ S ∧ S ≤ 9000000000000000 := by omega
  clear hds hD hC hSD
  unfold timeV
  go_enter Tryz.func23, Tryz.ntmps23
  go_wp2
  go_ret2
  refine ⟨by rw [← r3]; rfl, (Below.refl _ _).alloc (Nat.le_refl _) _⟩

/-- What Civil answers. -/
noncomputable def civV (n : Int) : Nat × Nat × Nat :=
  if h : -719162 ≤ n ∧ n ≤ 2932896 then
    let e := DateP.some_date n h.1 h.2
    (e.choose, e.choose_spec.choose, e.choose_spec.choose_spec.choose)
  else (0, 0, 0)
theorem civV_is {n : Int} (h1 : -719162 ≤ n) (h2 : n ≤ 2932896) : DateP.Is (civV n).1 (civV n).2.1 (civV n).2.2 ∧ DateP.num (civV n).1 (civV n).2.1 (civV n).2.2 = n := by
  unfold civV
  rw [dif_pos ⟨h1, h2⟩]
  exact (DateP.some_date n h1 h2).choose_spec.choose_spec.choose_spec
theorem civV_no {n : Int} (h : n < -719162 ∨ 2932896 < n) : civV n = (0, 0, 0) := by
  unfold civV
  rw [dif_neg (by omega)]
theorem civV_num {y m d : Nat} (h : DateP.Is y m d) : civV (DateP.num y m d) = (y, m, d) := by
  obtain ⟨r1, r2⟩ := DateP.num_range h
  obtain ⟨i, e⟩ := civV_is r1 r2
  obtain ⟨e1, e2, e3⟩ := DateP.one i h e
  exact Prod.ext e1 (Prod.ext e2 e3)
theorem civ_any (n : Int) (w : World) :
    Calls Tryz.prog 12 #[.int .i64 n] w fun e w' => e = .returned (.tuple #[.int .i64 ((civV n).1 : Nat), .int .i64 ((civV n).2.1 : Nat), .int .i64 ((civV n).2.2 : Nat)]) ∧ w = w' := by
  by_cases h : n < -719162 ∨ 2932896 < n
  · rw [civV_no h]
    exact civ_no n h w
  · obtain ⟨i, e⟩ := civV_is (n := n) (by omega) (by omega)
    exact civ_yes _ _ _ i n e.symm w

/-- A time in a block of its own. -/
def Tm (w : World) (b : Nat) (u z : Int) : Prop := w.heap[b]? = some (.cells #[.int .i64 u, .int .i64 z] 23 (0, 0))
theorem Tm.lt {w : World} {b : Nat} {u z : Int} (h : Tm w b u z) : b < w.heap.size := (Array.getElem?_eq_some_iff.1 h).1
theorem Tm.c0 {w : World} {b : Nat} {u z : Int} (h : Tm w b u z) : w.cell? ⟨b, 0, none⟩ = some (.int .i64 u) := by
  unfold World.cell?; rw [h]; rfl
theorem Tm.c1 {w : World} {b : Nat} {u z : Int} (h : Tm w b u z) : w.cell? ⟨b, 1, none⟩ = some (.int .i64 z) := by
  unfold World.cell?; rw [h]; rfl
theorem Tm.below {w w' : World} {b : Nat} {u z : Int} (h : Tm w b u z) (hb : Below w.heap.size w w') : Tm w' b u z := by
  unfold Tm; rw [hb.block b h.lt]; exact h
theorem Tm.alloc {w : World} {b : Nat} {u z : Int} (h : Tm w b u z) (o : Obj) : Tm (w.alloc o) b u z := h.below ((Below.refl _ _).alloc (Nat.le_refl _) _)
theorem tm_new (w : World) (u z : Int) : Tm (w.alloc (.cells #[.int .i64 u, .int .i64 z] 23)) w.heap.size u z := heap_alloc_new _ _

/-- What Part answers. -/
def partC (Y M T : Nat) (D C z : Int) : Nat → Int
  | 1 => (Y : Int)
  | 2 => (M : Int)
  | 3 => (T : Int)
  | 4 => C / 3600
  | 5 => C % 3600 / 60
  | 6 => C % 60
  | 7 => wkV D
  | 8 => z
  | _ => 0
noncomputable def partV (u z : Int) (k : Nat) : Int :=
  if Right u z then partC (civV (dayV u z)).1 (civV (dayV u z)).2.1 (civV (dayV u z)).2.2 (dayV u z) (secV u z) z k else 0
theorem part_no (u z : Int) (k : Int) (h : ¬ Right u z) (w : World) :
    Calls Tryz.prog 11 #[timeV u z, .int .i64 k] w fun e w' => e = .returned (.int .i64 0) ∧ Below w.heap.size w w' := by
  have hR := right_any u z
  rw [decide_eq_false h] at hR
  have HR := Lib.hid hR
  clear hR h
  unfold timeV at HR ⊢
  go_enter Tryz.func11, Tryz.ntmps11
  go_wp2_with (go_at_call 10; refine (HR.out _).mono ?_; rintro e w1 ⟨rfl, hb⟩)
  go_ret
  exact ⟨rfl, Qtrans ((Below.refl _ _).alloc (Nat.le_refl _) _) hb⟩
set_option maxHeartbeats 2000000 in
theorem part_yes (u z : Int) (k : Nat) (hk : k ≤ 9) (h : Right u z) (w : World) :
    Calls Tryz.prog 11 #[timeV u z, .int .i64 k] w fun e w' => e = .returned (.int .i64 (partV u z k)) ∧ Below w.heap.size w w' := by
  have hR := right_any u z
  rw [decide_eq_true h] at hR
  have HR := Lib.hid hR
  have hL := local_any u z h
  have hs := secV_range u z
  have hV : partV u z k = partC (civV (dayV u z)).1 (civV (dayV u z)).2.1 (civV (dayV u z)).2.2 (dayV u z) (secV u z) z k := by unfold partV; rw [if_pos h]
  rw [hV]
  obtain ⟨D, hD⟩ : ∃ D, dayV u z = D := ⟨_, rfl⟩
  obtain ⟨C, hC⟩ : ∃ C, secV u z = C := ⟨_, rfl⟩
  rw [hD, hC] at hL ⊢
  rw [hC] at hs
  have hc := civ_any D
  have hw := week_any D
  obtain ⟨Y, hY⟩ : ∃ Y, (civV D).1 = Y := ⟨_, rfl⟩
  obtain ⟨M, hM⟩ : ∃ M, (civV D).2.1 = M := ⟨_, rfl⟩
  obtain ⟨T, hT⟩ : ∃ T, (civV D).2.2 = T := ⟨_, rfl⟩
  rw [hY, hM, hT] at hc ⊢
  have HL := Lib.hid hL
  have HC := Lib.hid hc
  have HW := Lib.hid hw
  obtain ⟨c, rfl⟩ : ∃ c : Nat, C = c := ⟨C.toNat, by omega⟩
  clear hR hL hc hw hV hD hC hY hM hT h
  unfold timeV at HR HL ⊢
  rcases (show k = 1 ∨ k = 2 ∨ k = 3 ∨ k = 4 ∨ k = 5 ∨ k = 6 ∨ k = 7 ∨ k = 8 ∨ (k = 0 ∨ k = 9) by omega) with rfl | rfl | rfl | rfl | rfl | rfl | rfl | rfl | rfl | rfl
  all_goals
    go_enter Tryz.func11, Tryz.ntmps11
    go_wp2_with (first
      | (go_at_call 10; refine (HR.out _).mono ?_; rintro e w1 ⟨rfl, hb1⟩; have tm := (tm_new w u z).below hb1; have c0 := tm.c0; have c1 := tm.c1; have HT := Lib.hid tm; clear tm)
      | (go_at_call 23; refine (HL.out _).mono ?_; rintro e w2 ⟨rfl, hb2⟩; have d1 := (HT.out.below hb2).c1)
      | (go_at_call 12; refine (HC.out _).mono ?_; rintro e w3 ⟨rfl, rfl⟩)
      | (go_at_call 14; refine (HW.out _).mono ?_; rintro e w4 ⟨rfl, rfl⟩))
    go_ret
    exact ⟨rfl, Qtrans (Qtrans ((Below.refl _ _).alloc (Nat.le_refl _) _) hb1) hb2⟩
end Go.Proofs.YtnmdljadnlddeaaGreatDoor
