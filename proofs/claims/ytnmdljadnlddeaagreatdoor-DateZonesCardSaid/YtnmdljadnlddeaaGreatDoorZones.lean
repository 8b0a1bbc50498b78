/- DateZones: one instant at two zones, and days later. -/
import Derived.Test.YtnmdljadnlddeaaGreatDoorSmall
import Derived.Deep.RegionHeld3
import Derived.BigQuiet
namespace Go.Proofs.YtnmdljadnlddeaaGreatDoor
open Go.ChangeShapes Go.WideShapes Go.ChangeAt Go.RowKit
open DateP (Right)

theorem zn_small {w0 w : World} {L : List (Nat × Int × Int)} (h : Sn w0 w L) : Calls Tryz.prog 7 #[] w fun e w' => e = .returned (.bool true) ∧ Sn w0 w' L :=
  (small_any w h.v).mono fun _e _w' h1 => ⟨h1.1, h.call h1.2⟩
theorem zn_right {w0 w : World} {L : List (Nat × Int × Int)} (h : Sn w0 w L) (u z : Int) (b : Bool) (hb : decide (Right u z) = b) : Calls Tryz.prog 10 #[.agg #[.int .i64 u, .int .i64 z]] w fun e w' => e = .returned (.bool b) ∧ Sn w0 w' L := by
  subst hb
  exact (right_any u z w).mono fun e w' h1 => ⟨h1.1, h.call h1.2⟩
theorem Sn.drew {w0 w : World} {L : List (Nat × Int × Int)} (h : Sn w0 w L) : Sn w0 w.drew L := h.call (Below.refl _ _).drew
theorem Sn.one {w0 w : World} {L : List (Nat × Int × Int)} {b : Nat} {u z : Int} (h : Sn w0 w ((b, u, z) :: L)) :
    w.cell? ⟨b, 0, none⟩ = some (.int .i64 u) ∧ w.cell? ⟨b, 1, none⟩ = some (.int .i64 z) :=
  ⟨(h.tms (b, u, z) (by simp)).c0, (h.tms (b, u, z) (by simp)).c1⟩
theorem Sn.held2 {w0 w : World} {b c : Nat} {u z u' z' : Int} (h : Sn w0 w [(c, u', z'), (b, u, z)]) :
    Hid (Sn w0 w [(c, u', z'), (b, u, z)]) ∧ w.cell? ⟨b, 0, none⟩ = some (.int .i64 u) ∧ w.cell? ⟨b, 1, none⟩ = some (.int .i64 z) ∧ w.cell? ⟨c, 0, none⟩ = some (.int .i64 u') ∧ w.cell? ⟨c, 1, none⟩ = some (.int .i64 z') :=
  ⟨h, (h.tms (b, u, z) (by simp)).c0, (h.tms (b, u, z) (by simp)).c1, (h.tms (c, u', z') (by simp)).c0, (h.tms (c, u', z') (by simp)).c1⟩
theorem Sn.held3 {w0 w : World} {b c a : Nat} {u z u' z' u2 z2 : Int} (h : Sn w0 w [(a, u2, z2), (c, u', z'), (b, u, z)]) :
    Hid (Sn w0 w [(a, u2, z2), (c, u', z'), (b, u, z)]) ∧ w.cell? ⟨b, 0, none⟩ = some (.int .i64 u) ∧ w.cell? ⟨b, 1, none⟩ = some (.int .i64 z) ∧ w.cell? ⟨a, 0, none⟩ = some (.int .i64 u2) ∧ w.cell? ⟨a, 1, none⟩ = some (.int .i64 z2) :=
  ⟨h, (h.tms (b, u, z) (by simp)).c0, (h.tms (b, u, z) (by simp)).c1, (h.tms (a, u2, z2) (by simp)).c0, (h.tms (a, u2, z2) (by simp)).c1⟩

set_option maxHeartbeats 8000000 in
set_option maxRecDepth 1000000 in
/-- The law's early ends. -/
theorem zones_out (u z v k : Int) (h : ¬ Right u z ∨ ¬ Right u v ∨ k < 0 ∨ 3000 < k) (w : World) (hv : Vars w) :
    Calls Tryz.prog 5 #[.agg #[.int .i64 u, .int .i64 z], .int .i64 v, .int .i64 k] w fun e w' => e = .returned (.bool true) ∧ Below w.heap.size w w' := by
  have st := (Sn.start hv).new u z
  by_cases h1 : Right u z
  · have R1 := Lib.hid (fun Q L (h : Sn w Q L) => zn_right h u z true (decide_eq_true h1))
    by_cases h2 : Right u v
    · have R2 := Lib.hid (fun Q L (h : Sn w Q L) => zn_right h u v true (decide_eq_true h2))
      have hk : k < 0 ∨ (¬ k < 0 ∧ 3000 < k) := by
        rcases h with h | h | h | h
        · exact absurd h1 h
        · exact absurd h2 h
        · exact .inl h
        · exact .inr ⟨by omega, h⟩
      clear h h1 h2
      rcases hk with hk | ⟨hk, hk2⟩
      all_goals
        go_enter Tryz.func5, Tryz.ntmps5
        go_wp2_with (first
          | (go_at_call 7; with_reducible refine (zn_small st).mono ?_; rintro e w1 ⟨rfl, st⟩; obtain ⟨c1, c2⟩ := st.one; replace st := st.new u v; obtain ⟨_, d1, d2, d3, d4⟩ := st.held2)
          | (go_at_call 10; with_reducible refine (R1.out _ _ st).mono ?_; rintro e w2 ⟨rfl, st⟩; obtain ⟨_, c1, c2, c3, c4⟩ := st.held2)
          | (go_at_call 10; with_reducible refine (R2.out _ _ st).mono ?_; rintro e w3 ⟨rfl, hst⟩; obtain ⟨_, c1, c2, c3, c4⟩ := hst.held2))
        go_ret
        exact ⟨rfl, hst.bel⟩
    · have R2 := Lib.hid (fun Q L (h : Sn w Q L) => zn_right h u v false (decide_eq_false h2))
      clear h h1 h2
      go_enter Tryz.func5, Tryz.ntmps5
      go_wp2_with (first
        | (go_at_call 7; with_reducible refine (zn_small st).mono ?_; rintro e w1 ⟨rfl, st⟩; obtain ⟨c1, c2⟩ := st.one; replace st := st.new u v; obtain ⟨_, d1, d2, d3, d4⟩ := st.held2)
        | (go_at_call 10; with_reducible refine (R1.out _ _ st).mono ?_; rintro e w2 ⟨rfl, st⟩; obtain ⟨_, c1, c2, c3, c4⟩ := st.held2)
        | (go_at_call 10; with_reducible refine (R2.out _ _ st).mono ?_; rintro e w3 ⟨rfl, hst⟩; obtain ⟨_, c1, c2, c3, c4⟩ := hst.held2))
      go_ret
      exact ⟨rfl, hst.bel⟩
  · have R1 := Lib.hid (fun Q L (h : Sn w Q L) => zn_right h u z false (decide_eq_false h1))
    clear h h1
    go_enter Tryz.func5, Tryz.ntmps5
    go_wp2_with (first
      | (go_at_call 7; with_reducible refine (zn_small st).mono ?_; rintro e w1 ⟨rfl, st⟩; obtain ⟨c1, c2⟩ := st.one; replace st := st.new u v; obtain ⟨_, d1, d2, d3, d4⟩ := st.held2)
      | (go_at_call 10; with_reducible refine (R1.out _ _ st).mono ?_; rintro e w2 ⟨rfl, hst⟩; obtain ⟨_, c1, c2, c3, c4⟩ := hst.held2))
    go_ret
    exact ⟨rfl, hst.bel⟩

/-- Hours, minutes and seconds. -/
theorem hms (u z : Int) (h : Right u z) : ∃ H M C : Int, partV u z 4 = H ∧ partV u z 5 = M ∧ partV u z 6 = C ∧ 0 ≤ H ∧ H < 24 ∧ 0 ≤ M ∧ M < 60 ∧ 0 ≤ C ∧ C < 60 ∧ 3600 * H + 60 * M + C = secV u z := by
  have hs := secV_range u z
  refine ⟨secV u z / 3600, secV u z % 3600 / 60, secV u z % 60, ?_, ?_, ?_, by omega, by omega, by omega, by omega, by omega, by omega, by omega⟩
  all_goals (unfold partV; rw [if_pos h]; rfl)
/-- Both days have a date. -/
structure Zd (u z k H A : Int) (y m d y2 m2 d2 : Nat) (D K : Int) : Prop where
  i1 : DateP.Is y m d
  n1 : DateP.num y m d = D
  i2 : DateP.Is y2 m2 d2
  n2 : DateP.num y2 m2 d2 = D + k
  p1 : partV u z 1 = y
  p2 : partV u z 2 = m
  p3 : partV u z 3 = d
  p4 : partV u z 4 = H
  p7 : partV u z 7 = K
  l1 : partV (u + 86400 * k) z 1 = y2
  l2 : partV (u + 86400 * k) z 2 = m2
  l3 : partV (u + 86400 * k) z 3 = d2
  l4 : partV (u + 86400 * k) z 4 = H
  wk : wkV D = K
  eU : 86400 * D + A - 60 * z = u
theorem zones_ways (u z k H A : Int) (hr : Right u z) (_k0 : 0 ≤ k) (_k1 : k ≤ 3000) (p4 : partV u z 4 = H) (hA : A = secV u z) :
    decide (Right (u + 86400 * k) z) = false ∨ (decide (Right (u + 86400 * k) z) = true ∧ (partV u z 1 = 0 ∨ (∃ p, partV u z 1 = p ∧ 1 ≤ p ∧ partV (u + 86400 * k) z 1 = 0) ∨ ∃ y m d y2 m2 d2 D K, Zd u z k H A y m d y2 m2 d2 D K)) := by
  by_cases hl : Right (u + 86400 * k) z
  · refine .inr ⟨decide_eq_true hl, ?_⟩
    have eD : dayV (u + 86400 * k) z = dayV u z + k := by unfold dayV; omega
    have eS : secV (u + 86400 * k) z = secV u z := by unfold secV; omega
    by_cases hd : dayV u z < -719162 ∨ 2932896 < dayV u z
    · refine .inl ?_
      unfold partV
      rw [if_pos hr, civV_no hd]; rfl
    · obtain ⟨y, m, d, hI, hn⟩ := DateP.some_date (dayV u z) (by omega) (by omega)
      have hc : civV (dayV u z) = (y, m, d) := by rw [← hn]; exact civV_num hI
      have p1 : partV u z 1 = (y : Int) := by unfold partV; rw [if_pos hr, hc]; rfl
      by_cases hd2 : dayV u z + k < -719162 ∨ 2932896 < dayV u z + k
      · refine .inr (.inl ⟨(y : Int), p1, by have := hI.1; omega, ?_⟩)
        unfold partV
        rw [if_pos hl, eD, civV_no hd2]; rfl
      · obtain ⟨y2, m2, d2, hI2, hn2⟩ := DateP.some_date (dayV u z + k) (by omega) (by omega)
        have hc2 : civV (dayV u z + k) = (y2, m2, d2) := by rw [← hn2]; exact civV_num hI2
        refine .inr (.inr ⟨y, m, d, y2, m2, d2, dayV u z, wkV (dayV u z), ⟨hI, hn, hI2, hn2, p1, ?_, ?_, p4, ?_, ?_, ?_, ?_, ?_, rfl, ?_⟩⟩)
        · unfold partV; rw [if_pos hr, hc]; rfl
        · unfold partV; rw [if_pos hr, hc]; rfl
        · unfold partV; rw [if_pos hr]; rfl
        · unfold partV; rw [if_pos hl, eD, hc2]; rfl
        · unfold partV; rw [if_pos hl, eD, hc2]; rfl
        · unfold partV; rw [if_pos hl, eD, hc2]; rfl
        · rw [← p4]; unfold partV; rw [if_pos hl, if_pos hr, eD, eS]; rfl
        · have := day_sec u z; omega
  · exact .inl (decide_eq_false hl)
set_option maxHeartbeats 8000000 in
set_option maxRecDepth 1000000 in
theorem zones_in (u z v k : Int) (hr : Right u z) (ho : Right u v) (k0 : 0 ≤ k) (k1 : k ≤ 3000) (w : World) (hv : Vars w) :
    Calls Tryz.prog 5 #[.agg #[.int .i64 u, .int .i64 z], .int .i64 v, .int .i64 k] w fun e w' => e = .returned (.bool true) ∧ Below w.heap.size w w' := by
  obtain ⟨H, M, C, p4, p5, p6, H0, H1, M0, M1, C0, C1, hA⟩ := hms u z hr
  obtain ⟨H', M', C', q4, q5, q6, H0', H1', M0', M1', C0', C1', hB⟩ := hms u v ho
  have p8 : partV u z 8 = z := by unfold partV; rw [if_pos hr]; rfl
  have R1 := Lib.hid (fun Q L (h : Sn w Q L) => zn_right h u z true (decide_eq_true hr))
  have R2 := Lib.hid (fun Q L (h : Sn w Q L) => zn_right h u v true (decide_eq_true ho))
  have P4 := Lib.hid (fun Q L (h : Sn w Q L) => part_at h u z 4 (by decide) 4 rfl H p4)
  have P5 := Lib.hid (fun Q L (h : Sn w Q L) => part_at h u z 5 (by decide) 5 rfl M p5)
  have P6 := Lib.hid (fun Q L (h : Sn w Q L) => part_at h u z 6 (by decide) 6 rfl C p6)
  have P8 := Lib.hid (fun Q L (h : Sn w Q L) => part_at h u z 8 (by decide) 8 rfl z p8)
  have Q4 := Lib.hid (fun Q L (h : Sn w Q L) => part_at h u v 4 (by decide) 4 rfl H' q4)
  have Q5 := Lib.hid (fun Q L (h : Sn w Q L) => part_at h u v 5 (by decide) 5 rfl M' q5)
  have Q6 := Lib.hid (fun Q L (h : Sn w Q L) => part_at h u v 6 (by decide) 6 rfl C' q6)
  have st := (Sn.start hv).new u z
  have hways := Lib.hid (zones_ways u z k H _ hr k0 k1 p4 rfl)
  have hA1 := secV_range u z
  have hB1 := secV_range u v
  have hdv : 86400 ∣ secV u z - 60 * z - secV u v + 60 * v := by unfold secV; omega
  obtain ⟨A, hAA⟩ : ∃ A, secV u z = A := ⟨_, rfl⟩
  obtain ⟨B, hBB⟩ : ∃ B, secV u v = B := ⟨_, rfl⟩
  rw [hAA] at hA hways hA1 hdv
  rw [hBB] at hB hB1 hdv
  obtain ⟨u1, u2, z1, z2⟩ := hr
  obtain ⟨_, _, v1, v2⟩ := ho
  obtain ⟨X1, hX1⟩ : ∃ X, 3600 * H = X := ⟨_, rfl⟩
  have wX1 : IntKind.i64.wrap (3600 * H) = X1 := by rw [IntWalk.i64_in _ (by omega)]; exact hX1
  obtain ⟨X2, hX2⟩ : ∃ X, 60 * M = X := ⟨_, rfl⟩
  have wX2 : IntKind.i64.wrap (60 * M) = X2 := by rw [IntWalk.i64_in _ (by omega)]; exact hX2
  obtain ⟨X3, hX3⟩ : ∃ X, X1 + X2 = X := ⟨_, rfl⟩
  have wX3 : IntKind.i64.wrap (X1 + X2) = X3 := by rw [IntWalk.i64_in _ (by omega)]; exact hX3
  have wA : IntKind.i64.wrap (X3 + C) = A := by rw [IntWalk.i64_in _ (by omega)]; omega
  obtain ⟨Y1, hY1⟩ : ∃ X, 3600 * H' = X := ⟨_, rfl⟩
  have wY1 : IntKind.i64.wrap (3600 * H') = Y1 := by rw [IntWalk.i64_in _ (by omega)]; exact hY1
  obtain ⟨Y2, hY2⟩ : ∃ X, 60 * M' = X := ⟨_, rfl⟩
  have wY2 : IntKind.i64.wrap (60 * M') = Y2 := by rw [IntWalk.i64_in _ (by omega)]; exact hY2
  obtain ⟨Y3, hY3⟩ : ∃ X, Y1 + Y2 = X := ⟨_, rfl⟩
  have wY3 : IntKind.i64.wrap (Y1 + Y2) = Y3 := by rw [IntWalk.i64_in _ (by omega)]; exact hY3
  have wB : IntKind.i64.wrap (Y3 + C') = B := by rw [IntWalk.i64_in _ (by omega)]; omega
  obtain ⟨Z6, hZ6⟩ : ∃ X, 60 * z = X := ⟨_, rfl⟩
  have wZ6 : IntKind.i64.wrap (60 * z) = Z6 := by rw [IntWalk.i64_in _ (by omega)]; exact hZ6
  obtain ⟨E1, hE1⟩ : ∃ X, A - Z6 = X := ⟨_, rfl⟩
  have wE1 : IntKind.i64.wrap (A - Z6) = E1 := by rw [IntWalk.i64_in _ (by omega)]; exact hE1
  obtain ⟨E2, hE2⟩ : ∃ X, E1 - B = X := ⟨_, rfl⟩
  have wE2 : IntKind.i64.wrap (E1 - B) = E2 := by rw [IntWalk.i64_in _ (by omega)]; exact hE2
  obtain ⟨V6, hV6⟩ : ∃ X, 60 * v = X := ⟨_, rfl⟩
  have wV6 : IntKind.i64.wrap (60 * v) = V6 := by rw [IntWalk.i64_in _ (by omega)]; exact hV6
  obtain ⟨E3, hE3⟩ : ∃ X, E2 + V6 = X := ⟨_, rfl⟩
  have wE3 : IntKind.i64.wrap (E2 + V6) = E3 := by rw [IntWalk.i64_in _ (by omega)]; exact hE3
  have eR : E3.tmod 86400 = 0 := Int.tmod_eq_zero_of_dvd (by rw [← hE3, ← hE2, ← hE1, ← hZ6, ← hV6]; exact hdv)
  have wR : IntKind.i64.wrap 0 = 0 := by decide
  have dA : decide (A < 0) = false := decide_eq_false (by omega)
  have dA2 : decide (86400 ≤ A) = false := decide_eq_false (by omega)
  have hA2 := hA1.1
  have hA3 := hA1.2
  have HZ6 := Lib.hid hZ6
  clear hZ6 p4 p5 p6 p8 q4 q5 q6 hA hB hAA hBB hdv hA1 hB1 hX1 hX2 hX3 hY1 hY2 hY3 hE1 hE2 hE3 hV6
  go_enter Tryz.func5, Tryz.ntmps5
  go_wp2_with (first
    | (go_at_call 7; with_reducible refine (zn_small st).mono ?_; rintro e w1 ⟨rfl, st⟩; obtain ⟨c1, c2⟩ := st.one; replace st := st.new u v; obtain ⟨_, d1, d2, d3, d4⟩ := st.held2)
    | (go_at_call 10; with_reducible refine (R1.out _ _ st).mono ?_; rintro e w2 ⟨rfl, st⟩; obtain ⟨_, c1, c2, c3, c4⟩ := st.held2)
    | (go_at_call 10; with_reducible refine (R2.out _ _ st).mono ?_; rintro e w3 ⟨rfl, hst⟩; obtain ⟨_, c1, c2, c3, c4⟩ := hst.held2))
  go_region_held3 (fun Q => Hid (Sn w Q [(w1.heap.size, u, v), (w.heap.size, u, z)]) ∧ Q.cell? ⟨w.heap.size, 0, none⟩ = some (.int .i64 u) ∧ Q.cell? ⟨w.heap.size, 1, none⟩ = some (.int .i64 z) ∧ Q.cell? ⟨w1.heap.size, 0, none⟩ = some (.int .i64 u) ∧ Q.cell? ⟨w1.heap.size, 1, none⟩ = some (.int .i64 v))
    (first | exact Sn.held2 hst | exact Sn.held2 hst.drew | exact Sn.held2 (by assumption) | exact Sn.held2 (Sn.drew (by assumption)))
    (first
      | (go_at_call 11; with_reducible refine (P4.out _ _ (by first | exact hst.drew | exact Sn.drew (by assumption) | assumption)).mono ?_; rintro e w5 ⟨rfl, hs5⟩; obtain ⟨_, c1, c2, c3, c4⟩ := hs5.held2)
      | (go_at_call 11; with_reducible refine (P5.out _ _ (by first | assumption | exact hst.drew)).mono ?_; rintro e w6 ⟨rfl, hs6⟩; obtain ⟨_, c1, c2, c3, c4⟩ := hs6.held2)
      | (go_at_call 11; with_reducible refine (P6.out _ _ (by first | assumption | exact hst.drew)).mono ?_; rintro e w7 ⟨rfl, hs7⟩; obtain ⟨_, c1, c2, c3, c4⟩ := hs7.held2))
  go_wp2_with fail
  go_region_held3 (fun Q => Hid (Sn w Q [(w1.heap.size, u, v), (w.heap.size, u, z)]) ∧ Q.cell? ⟨w.heap.size, 0, none⟩ = some (.int .i64 u) ∧ Q.cell? ⟨w.heap.size, 1, none⟩ = some (.int .i64 z) ∧ Q.cell? ⟨w1.heap.size, 0, none⟩ = some (.int .i64 u) ∧ Q.cell? ⟨w1.heap.size, 1, none⟩ = some (.int .i64 v))
    (first | exact Sn.held2 hs7 | exact Sn.held2 hs7.drew | exact Sn.held2 (by assumption) | exact Sn.held2 (Sn.drew (by assumption)))
    (first
      | (go_at_call 11; with_reducible refine (Q4.out _ _ (by first | assumption | exact hs7.drew | exact Sn.drew (by assumption))).mono ?_; rintro e w8 ⟨rfl, hs8⟩; obtain ⟨_, c1, c2, c3, c4⟩ := hs8.held2)
      | (go_at_call 11; with_reducible refine (Q5.out _ _ (by first | assumption | exact hs7.drew | exact Sn.drew (by assumption))).mono ?_; rintro e w9 ⟨rfl, hs9⟩; obtain ⟨_, c1, c2, c3, c4⟩ := hs9.held2)
      | (go_at_call 11; with_reducible refine (Q6.out _ _ (by first | assumption | exact hs7.drew | exact Sn.drew (by assumption))).mono ?_; rintro e w10 ⟨rfl, hs10⟩; obtain ⟨_, c1, c2, c3, c4⟩ := hs10.held2))
  go_wp2_with fail
  go_region_held3 (fun Q => Hid (Sn w Q [(w1.heap.size, u, v), (w.heap.size, u, z)]) ∧ Q.cell? ⟨w.heap.size, 0, none⟩ = some (.int .i64 u) ∧ Q.cell? ⟨w.heap.size, 1, none⟩ = some (.int .i64 z) ∧ Q.cell? ⟨w1.heap.size, 0, none⟩ = some (.int .i64 u) ∧ Q.cell? ⟨w1.heap.size, 1, none⟩ = some (.int .i64 v))
    (first | exact Sn.held2 hs10 | exact Sn.held2 hs10.drew | exact Sn.held2 (by assumption) | exact Sn.held2 (Sn.drew (by assumption)))
    (first
      | (go_at_call 11; with_reducible refine (P8.out _ _ (by first | assumption | exact hs10.drew | exact Sn.drew (by assumption))).mono ?_; rintro e w11 ⟨rfl, hs11⟩; obtain ⟨_, c1, c2, c3, c4⟩ := hs11.held2))
  have st := hs11.new (u + 86400 * k) z
  obtain ⟨_, d1, d2, d3, d4⟩ := st.held3
  rcases hways.out with hL | ⟨hL, hp | ⟨p, hp, p0, hq⟩ | ⟨y, m, d, y2, m2, d2, D, K, hZ⟩⟩
  · have R3 := Lib.hid (fun Q L (h : Sn w Q L) => zn_right h (u + 86400 * k) z false hL)
    clear hL
    go_wp2_with (first
      | (go_at_call 10; with_reducible refine (R3.out _ _ st).mono ?_; rintro e w12 ⟨rfl, st⟩; obtain ⟨_, c1, c2, c3, c4⟩ := st.held3))
    go_ret
    exact ⟨rfl, st.bel⟩
  · have R3 := Lib.hid (fun Q L (h : Sn w Q L) => zn_right h (u + 86400 * k) z true hL)
    have P1 := Lib.hid (fun Q L (h : Sn w Q L) => part_at h u z 1 (by decide) 1 rfl 0 hp)
    clear hL hp
    go_wp2_with (first
      | (go_at_call 10; with_reducible refine (R3.out _ _ st).mono ?_; rintro e w12 ⟨rfl, st⟩; obtain ⟨_, c1, c2, c3, c4⟩ := st.held3)
      | (go_at_call 11; with_reducible refine (P1.out _ _ st).mono ?_; rintro e w13 ⟨rfl, st⟩; obtain ⟨_, c1, c2, c3, c4⟩ := st.held3))
    go_ret
    exact ⟨rfl, st.bel⟩
  · have R3 := Lib.hid (fun Q L (h : Sn w Q L) => zn_right h (u + 86400 * k) z true hL)
    have P1 := Lib.hid (fun Q L (h : Sn w Q L) => part_at h u z 1 (by decide) 1 rfl p hp)
    have L1 := Lib.hid (fun Q L (h : Sn w Q L) => part_at h (u + 86400 * k) z 1 (by decide) 1 rfl 0 hq)
    have pn : (p == 0) = false := beq_eq_false_iff_ne.2 (by omega)
    clear hL hp hq
    go_wp2_with (first
      | (go_at_call 10; with_reducible refine (R3.out _ _ st).mono ?_; rintro e w12 ⟨rfl, st⟩; obtain ⟨_, c1, c2, c3, c4⟩ := st.held3)
      | (go_at_call 11; with_reducible refine (P1.out _ _ st).mono ?_; rintro e w13 ⟨rfl, st⟩; obtain ⟨_, c1, c2, c3, c4⟩ := st.held3)
      | (go_at_call 11; with_reducible refine (L1.out _ _ st).mono ?_; rintro e w14 ⟨rfl, hst⟩; obtain ⟨_, c1, c2, c3, c4⟩ := hst.held3))
    go_ret
    exact ⟨rfl, hst.bel⟩
  · have R3 := Lib.hid (fun Q L (h : Sn w Q L) => zn_right h (u + 86400 * k) z true hL)
    have P1 := Lib.hid (fun Q L (h : Sn w Q L) => part_at h u z 1 (by decide) 1 rfl y hZ.p1)
    have P2 := Lib.hid (fun Q L (h : Sn w Q L) => part_at h u z 2 (by decide) 2 rfl m hZ.p2)
    have P3 := Lib.hid (fun Q L (h : Sn w Q L) => part_at h u z 3 (by decide) 3 rfl d hZ.p3)
    have P7 := Lib.hid (fun Q L (h : Sn w Q L) => part_at h u z 7 (by decide) 7 rfl K hZ.p7)
    have P4 := Lib.hid (fun Q L (h : Sn w Q L) => part_at h u z 4 (by decide) 4 rfl H hZ.p4)
    have L1 := Lib.hid (fun Q L (h : Sn w Q L) => part_at h (u + 86400 * k) z 1 (by decide) 1 rfl y2 hZ.l1)
    have L2 := Lib.hid (fun Q L (h : Sn w Q L) => part_at h (u + 86400 * k) z 2 (by decide) 2 rfl m2 hZ.l2)
    have L3 := Lib.hid (fun Q L (h : Sn w Q L) => part_at h (u + 86400 * k) z 3 (by decide) 3 rfl d2 hZ.l3)
    have L4 := Lib.hid (fun Q L (h : Sn w Q L) => part_at h (u + 86400 * k) z 4 (by decide) 4 rfl H hZ.l4)
    have hD1 := days_yes y m d hZ.i1
    have hD2 := days_yes y2 m2 d2 hZ.i2
    have nr1 := DateP.num_range hZ.i1
    have nr2 := DateP.num_range hZ.i2
    rw [hZ.n1] at hD1 nr1
    rw [hZ.n2] at hD2 nr2
    obtain ⟨F, hF⟩ : ∃ F, D + k = F := ⟨_, rfl⟩
    rw [hF] at hD2
    have N1 := Lib.hid (fun Q L (h : Sn w Q L) => (hD1 Q).mono fun e Q' h1 => (⟨h1.1, h1.2 ▸ h⟩ : e = .returned (.int .i64 D) ∧ Sn w Q' L))
    have N2 := Lib.hid (fun Q L (h : Sn w Q L) => (hD2 Q).mono fun e Q' h1 => (⟨h1.1, h1.2 ▸ h⟩ : e = .returned (.int .i64 F) ∧ Sn w Q' L))
    have hWk := week_any D
    rw [hZ.wk] at hWk
    have WK := Lib.hid (fun Q L (h : Sn w Q L) => (hWk Q).mono fun e Q' h1 => (⟨h1.1, h1.2 ▸ h⟩ : e = .returned (.int .i64 K) ∧ Sn w Q' L))
    have yn : ((y : Int) == 0) = false := beq_eq_false_iff_ne.2 (by have := hZ.i1.1; omega)
    have yn2 : ((y2 : Int) == 0) = false := beq_eq_false_iff_ne.2 (by have := hZ.i2.1; omega)
    have eU := hZ.eU
    have hZ6 := HZ6.out
    have wk1 : IntKind.i64.wrap (F - D) = k := by rw [IntWalk.i64_in _ (by omega)]; omega
    obtain ⟨G1, hG1⟩ : ∃ X, 86400 * D = X := ⟨_, rfl⟩
    have wG1 : IntKind.i64.wrap (86400 * D) = G1 := by rw [IntWalk.i64_in _ (by omega)]; exact hG1
    obtain ⟨G2, hG2⟩ : ∃ X, G1 + A = X := ⟨_, rfl⟩
    have wG2 : IntKind.i64.wrap (G1 + A) = G2 := by rw [IntWalk.i64_in _ (by omega)]; exact hG2
    have wG3 : IntKind.i64.wrap (G2 - Z6) = u := by rw [IntWalk.i64_in _ (by omega)]; omega
    clear hZ6 hL hZ hD1 hD2 hWk hG1 hG2 eU hF nr1 nr2
    go_wp2_with (first
      | (go_at_call 10; with_reducible refine (R3.out _ _ st).mono ?_; rintro e w12 ⟨rfl, st⟩; obtain ⟨_, c1, c2, c3, c4⟩ := st.held3)
      | (go_at_call 11; with_reducible refine (P1.out _ _ st).mono ?_; rintro e w13 ⟨rfl, st⟩; obtain ⟨_, c1, c2, c3, c4⟩ := st.held3)
      | (go_at_call 11; with_reducible refine (L1.out _ _ st).mono ?_; rintro e w14 ⟨rfl, hst⟩; obtain ⟨_, c1, c2, c3, c4⟩ := hst.held3))
    go_region_held3 (fun Q => Hid (Sn w Q [(w11.heap.size, u + 86400 * k, z), (w1.heap.size, u, v), (w.heap.size, u, z)]) ∧ Q.cell? ⟨w.heap.size, 0, none⟩ = some (.int .i64 u) ∧ Q.cell? ⟨w.heap.size, 1, none⟩ = some (.int .i64 z) ∧ Q.cell? ⟨w11.heap.size, 0, none⟩ = some (.int .i64 (u + 86400 * k)) ∧ Q.cell? ⟨w11.heap.size, 1, none⟩ = some (.int .i64 z))
      (first | exact Sn.held3 hst | exact Sn.held3 hst.drew | exact Sn.held3 (by assumption) | exact Sn.held3 (Sn.drew (by assumption)))
      (first
        | (go_at_call 11; with_reducible refine (P1.out _ _ (by first | assumption | exact hst.drew | exact Sn.drew (by assumption))).mono ?_; rintro e w21 ⟨rfl, hs21⟩; obtain ⟨_, c1, c2, c3, c4⟩ := hs21.held3)
        | (go_at_call 11; with_reducible refine (P2.out _ _ (by first | assumption | exact hst.drew | exact Sn.drew (by assumption))).mono ?_; rintro e w22 ⟨rfl, hs22⟩; obtain ⟨_, c1, c2, c3, c4⟩ := hs22.held3)
        | (go_at_call 11; with_reducible refine (P3.out _ _ (by first | assumption | exact hst.drew | exact Sn.drew (by assumption))).mono ?_; rintro e w23 ⟨rfl, hs23⟩; obtain ⟨_, c1, c2, c3, c4⟩ := hs23.held3)
        | (go_at_call 13; with_reducible refine (N1.out _ _ (by first | assumption | exact hst.drew | exact Sn.drew (by assumption))).mono ?_; rintro e w24 ⟨rfl, hs24⟩; obtain ⟨_, c1, c2, c3, c4⟩ := hs24.held3))
    go_wp2_with fail
    go_region_held3 (fun Q => Hid (Sn w Q [(w11.heap.size, u + 86400 * k, z), (w1.heap.size, u, v), (w.heap.size, u, z)]) ∧ Q.cell? ⟨w.heap.size, 0, none⟩ = some (.int .i64 u) ∧ Q.cell? ⟨w.heap.size, 1, none⟩ = some (.int .i64 z) ∧ Q.cell? ⟨w11.heap.size, 0, none⟩ = some (.int .i64 (u + 86400 * k)) ∧ Q.cell? ⟨w11.heap.size, 1, none⟩ = some (.int .i64 z))
      (first | exact Sn.held3 hs24 | exact Sn.held3 hs24.drew | exact Sn.held3 (by assumption) | exact Sn.held3 (Sn.drew (by assumption)))
      (first
        | (go_at_call 11; with_reducible refine (L1.out _ _ (by first | assumption | exact hs24.drew | exact Sn.drew (by assumption))).mono ?_; rintro e w31 ⟨rfl, hs31⟩; obtain ⟨_, c1, c2, c3, c4⟩ := hs31.held3)
        | (go_at_call 11; with_reducible refine (L2.out _ _ (by first | assumption | exact hs24.drew | exact Sn.drew (by assumption))).mono ?_; rintro e w32 ⟨rfl, hs32⟩; obtain ⟨_, c1, c2, c3, c4⟩ := hs32.held3)
        | (go_at_call 11; with_reducible refine (L3.out _ _ (by first | assumption | exact hs24.drew | exact Sn.drew (by assumption))).mono ?_; rintro e w33 ⟨rfl, hs33⟩; obtain ⟨_, c1, c2, c3, c4⟩ := hs33.held3)
        | (go_at_call 13; with_reducible refine (N2.out _ _ (by first | assumption | exact hs24.drew | exact Sn.drew (by assumption))).mono ?_; rintro e w34 ⟨rfl, hs34⟩; obtain ⟨_, c1, c2, c3, c4⟩ := hs34.held3))
    go_wp2_with fail
    go_region_held3 (fun Q => Hid (Sn w Q [(w11.heap.size, u + 86400 * k, z), (w1.heap.size, u, v), (w.heap.size, u, z)]) ∧ Q.cell? ⟨w.heap.size, 0, none⟩ = some (.int .i64 u) ∧ Q.cell? ⟨w.heap.size, 1, none⟩ = some (.int .i64 z) ∧ Q.cell? ⟨w11.heap.size, 0, none⟩ = some (.int .i64 (u + 86400 * k)) ∧ Q.cell? ⟨w11.heap.size, 1, none⟩ = some (.int .i64 z))
      (first | exact Sn.held3 hs34 | exact Sn.held3 hs34.drew | exact Sn.held3 (by assumption) | exact Sn.held3 (Sn.drew (by assumption)))
      (first
        | (go_at_call 11; with_reducible refine (P7.out _ _ (by first | assumption | exact hs34.drew | exact Sn.drew (by assumption))).mono ?_; rintro e w41 ⟨rfl, hs41⟩; obtain ⟨_, c1, c2, c3, c4⟩ := hs41.held3)
        | (go_at_call 14; with_reducible refine (WK.out _ _ (by first | assumption | exact hs34.drew | exact Sn.drew (by assumption))).mono ?_; rintro e w42 ⟨rfl, hs42⟩; obtain ⟨_, c1, c2, c3, c4⟩ := hs42.held3)
        | (go_at_call 11; with_reducible refine (L4.out _ _ (by first | assumption | exact hs34.drew | exact Sn.drew (by assumption))).mono ?_; rintro e w43 ⟨rfl, hs43⟩; obtain ⟨_, c1, c2, c3, c4⟩ := hs43.held3)
        | (go_at_call 11; with_reducible refine (P4.out _ _ (by first | assumption | exact hs34.drew | exact Sn.drew (by assumption))).mono ?_; rintro e w44 ⟨rfl, hs44⟩; obtain ⟨_, c1, c2, c3, c4⟩ := hs44.held3))
    go_wp2_with fail
    go_ret
    exact ⟨rfl, hs44.bel⟩
theorem zones_law (u z v k : Int) (w : World) (hv : Vars w) :
    Calls Tryz.prog 5 #[.agg #[.int .i64 u, .int .i64 z], .int .i64 v, .int .i64 k] w fun e w' => e = .returned (.bool true) ∧ Below w.heap.size w w' := by
  by_cases h : ¬ Right u z ∨ ¬ Right u v ∨ k < 0 ∨ 3000 < k
  · exact zones_out u z v k h w hv
  · exact zones_in u z v k (Decidable.by_contra fun h1 => h (.inl h1)) (Decidable.by_contra fun h1 => h (.inr (.inl h1))) (by omega) (by omega) w hv
end Go.Proofs.YtnmdljadnlddeaaGreatDoor
