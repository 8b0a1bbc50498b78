/- LinesDots: Unstuff inverts Stuff, no stuffed line is a single dot, endings stay, and Stuff commutes with Crlf. -/
import Derived.Test.YtpoimbhfggkiiaaLawS
import Derived.Test.YtpoimbhfggkiiaaHeld
namespace Go.Proofs.Ytpoimbhfggkiiaa
open Go.ChangeShapes Go.WideShapes Go.ChangeAt Go.RowKit
open LinesP

theorem dots_long (s : ByteArray) (hs : 10000 < s.size) (w : World) : Calls Try.prog 7 #[.string s] w fun e w' => e = .returned (.bool true) ∧ Below w.heap.size w w' := by
  have hS := small_any w
  go_enter Try.func7, Try.ntmps7
  go_wp2_with (go_at_call 9; refine hS.mono ?_; rintro e w' ⟨rfl, hb⟩)
  go_ret
  exact ⟨rfl, hb⟩
theorem made_size (g : List UInt8 → List UInt8) (hg : ∀ l, (g l).length ≤ l.length + 1) (s : ByteArray) : (strL ((splitL s.data.toList).map g).flatten).size ≤ 2 * s.size := by
  rw [strL_size]
  have h1 := outB_lines g s.data.toList
  have h2 := outB_len g hg (linesB s.data.toList)
  have h3 := lines_len s
  rw [flatB_lines, ← size_list] at h2
  rw [← h1]
  omega
set_option maxRecDepth 100000 in
set_option maxHeartbeats 4000000 in
theorem dots_any (s : ByteArray) (w : World) : Calls Try.prog 7 #[.string s] w fun e w' => e = .returned (.bool true) ∧ Below w.heap.size w w' := by
  by_cases hs : 10000 < s.size
  · exact dots_long s hs w
  have hS := small_any w
  obtain ⟨T, hT⟩ : ∃ T, strL (stuffL s.data.toList) = T := ⟨_, rfl⟩
  obtain ⟨D0, hD0⟩ : ∃ D0, strL (crlfL s.data.toList) = D0 := ⟨_, rfl⟩
  obtain ⟨C, hC⟩ : ∃ C, strL (crlfL T.data.toList) = C := ⟨_, rfl⟩
  have hTs : T.size ≤ 20000 := by have := made_size stuff1 stuff_len s; rw [← hT]; unfold stuffL; omega
  have hDs : D0.size ≤ 20000 := by have := made_size crlf1 crlf_len s; rw [← hD0]; unfold crlfL; omega
  obtain ⟨L, hL⟩ : ∃ L, splitL s.data.toList = L := ⟨_, rfl⟩
  have hTL : splitL T.data.toList = L.map stuff1 := by rw [← hT, strL_list, split_stuff, hL]
  have hTU : strL (unstuffL T.data.toList) = s := by rw [← hT, strL_list, unstuff_stuff, strL_of]
  have hCD : strL (stuffL D0.data.toList) = C := by rw [← hC, ← hT, ← hD0, strL_list, strL_list, crlf_stuff]
  have hG : ∀ x ∈ L, Term x ∨ Tail x := by rw [← hL]; exact good_mem (split_good _)
  have hxl : ∀ x ∈ L, x.length ≤ 10000 := by
    intro x hx
    rw [← hL] at hx
    have := line_le hx
    rw [size_list] at hs
    omega
  have hC1 : ∀ w', Calls Try.prog 17 #[.string s] w' fun e w'' => e = .returned (.string T) ∧ Below w'.heap.size w' w'' := fun w' => stuff_is s T (by omega) hT w'
  have hU : ∀ w', Calls Try.prog 19 #[.string T] w' fun e w'' => e = .returned (.string s) ∧ Below w'.heap.size w' w'' := fun w' => unstuff_is T s (by omega) hTU w'
  have hCT : ∀ w', Calls Try.prog 15 #[.string T] w' fun e w'' => e = .returned (.string C) ∧ Below w'.heap.size w' w'' := fun w' => crlf_is T C (by omega) hC w'
  have hCS : ∀ w', Calls Try.prog 15 #[.string s] w' fun e w'' => e = .returned (.string D0) ∧ Below w'.heap.size w' w'' := fun w' => crlf_is s D0 (by omega) hD0 w'
  have hSD : ∀ w', Calls Try.prog 17 #[.string D0] w' fun e w'' => e = .returned (.string C) ∧ Below w'.heap.size w' w'' := fun w' => stuff_is D0 C (by omega) hCD w'
  obtain ⟨n, hn⟩ : ∃ n, L.length = n := ⟨_, rfl⟩
  have hP1 : ∀ w', Calls Try.prog 11 #[.string s] w' fun e w'' => ∃ a c, e = .returned (.slice a n c) ∧ Own w'' (.slice a n c) L ∧ Below w'.heap.size w' w'' := fun w' => (split_is s L (by omega) hL w').mono (by
    rintro e w'' ⟨a, c, rfl, ho, hb⟩
    rw [hn] at ho
    exact ⟨a, c, by rw [hn], ⟨_, by rw [hn]; exact ho⟩, hb⟩)
  have hP2 : ∀ w', Calls Try.prog 11 #[.string T] w' fun e w'' => ∃ a c, e = .returned (.slice a n c) ∧ Own w'' (.slice a n c) (L.map stuff1) ∧ Below w'.heap.size w' w'' := fun w' => (split_is T (L.map stuff1) (by omega) hTL w').mono (by
    rintro e w'' ⟨a, c, rfl, ho, hb⟩
    rw [List.length_map, hn] at ho
    exact ⟨a, c, by rw [List.length_map, hn], ⟨_, by rw [List.length_map, hn]; exact ho⟩, hb⟩)
  have hnn : n ≤ 10000 := by
    have := split_len s.data.toList
    rw [hL, hn, ← size_list] at this; omega
  have HL := Lib.hid (And.intro hG hxl)
  have HN := Lib.hid hn
  clear hG hxl hn hT hTs hTL hTU hCD hC hD0 hDs hL
  go_enter Try.func7, Try.ntmps7
  go_wp2_with (first
    | (go_at_call 9; refine hS.mono ?_; rintro e w1 ⟨rfl, hb1⟩; clear hS)
    | (go_at_call 17; with_reducible refine (hC1 _).mono ?_; rintro e w2 ⟨rfl, hb2⟩; clear hC1)
    | (go_at_call 11; with_reducible refine (hP1 _).mono ?_; rintro e w3 ⟨a1, c1, rfl, o1, hb3⟩; clear hP1)
    | (go_at_call 11; with_reducible refine (hP2 _).mono ?_; rintro e w4 ⟨a2, c2, rfl, o2, hb4⟩; clear hP2))
  have hst : St w w4 (.slice a1 n c1) L (.slice a2 n c2) (L.map stuff1) :=
    ⟨((hb1.trans (hb2.mono hb1.size)).trans (hb3.mono (Nat.le_trans hb1.size hb2.size))).trans (hb4.mono (Nat.le_trans hb1.size (Nat.le_trans hb2.size hb3.size))), o1.step hb4, o2⟩
  have HST := Lib.hid hst
  clear hb1 hb2 hb3 hb4 o1 o2 hst
  go_loopw [7] (fun i wr => ∃ j : Nat, j ≤ n ∧ i = .int .i64 j ∧ Hid (St w wr (.slice a1 n c1) L (.slice a2 n c2) (L.map stuff1))) (fun i _ => n - (intOf i).toNat)
  case atStart => exact ⟨0, Nat.zero_le _, rfl, HST.out⟩
  case round =>
    obtain ⟨j, hj, rfl, hst⟩ := hrel
    by_cases hlt : j < n
    · obtain ⟨g1, rfl⟩ := hst.out.o1.at (by omega)
      obtain ⟨g2, rfl⟩ := hst.out.o2.at (by omega)
      have hjl : j < L.length := by rw [HN.out]; exact hlt
      obtain ⟨x, hx⟩ : ∃ x, L[j]? = some x := ⟨_, List.getElem?_eq_getElem hjl⟩
      have hxm : x ∈ L := List.mem_of_getElem? hx
      have hxp := HL.out.1 x hxm
      have hxs := HL.out.2 x hxm
      have hy : (L.map stuff1)[j]? = some (stuff1 x) := by rw [List.getElem?_map, hx]; rfl
      have hbl := bare_le x
      have hbm := bare_le (stuff1 x)
      have hcl := stuff_len x
      have hend := stuff_ending x
      obtain ⟨A, hA⟩ : ∃ A, strL x = A := ⟨_, rfl⟩
      obtain ⟨D, hD⟩ : ∃ D, strL (bareL x) = D := ⟨_, rfl⟩
      obtain ⟨M, hM⟩ : ∃ M, strL (stuff1 x) = M := ⟨_, rfl⟩
      obtain ⟨BM, hBM⟩ : ∃ BM, strL (bareL (stuff1 x)) = BM := ⟨_, rfl⟩
      obtain ⟨E, hE⟩ : ∃ E, x.length - (bareL x).length = E := ⟨_, rfl⟩
      have sA : A.size = x.length := by rw [← hA, strL_size]
      have sD : D.size = (bareL x).length := by rw [← hD, strL_size]
      have sM : M.size = (stuff1 x).length := by rw [← hM, strL_size]
      have sB : BM.size = (bareL (stuff1 x)).length := by rw [← hBM, strL_size]
      have f0 : ¬ BM.toList = [46] := by
        rw [ByteArray.toList_eq, ← hBM, strL_list]
        exact stuff_no_dot x hxp
      have f1 : IntKind.i64.wrap ((M.size : Int) - (BM.size : Int)) = (E : Int) := by rw [IntKind.wrap_i64]; omega
      have f2 : IntKind.i64.wrap ((A.size : Int) - (D.size : Int)) = (E : Int) := by rw [IntKind.wrap_i64]; omega
      have KA : Hid (∀ Q, St w Q (.slice (some ⟨g1, 0, none⟩) n c1) L (.slice (some ⟨g2, 0, none⟩) n c2) (L.map stuff1) → Calls Try.prog 13 #[.string A] Q fun e w' => e = .returned (.string D) ∧ St w w' (.slice (some ⟨g1, 0, none⟩) n c1) L (.slice (some ⟨g2, 0, none⟩) n c2) (L.map stuff1)) := fun Q h => bare_st h A D (by omega) (by rw [← hA, strL_list, hD])
      have KM : Hid (∀ Q, St w Q (.slice (some ⟨g1, 0, none⟩) n c1) L (.slice (some ⟨g2, 0, none⟩) n c2) (L.map stuff1) → Calls Try.prog 13 #[.string M] Q fun e w' => e = .returned (.string BM) ∧ St w w' (.slice (some ⟨g1, 0, none⟩) n c1) L (.slice (some ⟨g2, 0, none⟩) n c2) (L.map stuff1)) := fun Q h => bare_st h M BM (by omega) (by rw [← hM, strL_list, hBM])
      have HK : Hid (∀ Q, St w Q (.slice (some ⟨g1, 0, none⟩) n c1) L (.slice (some ⟨g2, 0, none⟩) n c2) (L.map stuff1) → Hid (St w Q (.slice (some ⟨g1, 0, none⟩) n c1) L (.slice (some ⟨g2, 0, none⟩) n c2) (L.map stuff1)) ∧ Q.cell? ⟨g1, j, none⟩ = some (.string A) ∧ Q.cell? ⟨g2, j, none⟩ = some (.string M)) := fun Q h => ⟨h, by rw [h.o1.cell j x hx, hA], by rw [h.o2.cell j _ hy, hM]⟩
      have hst0 := hst.out
      clear hA hD hM hBM hE sA sD sM sB hend hxm hxs hbl hbm hcl hxp hx hy hjl hst hs
      go_wp2_with fail
      refine wp_region_noPanic ?_
      refine wp_region_held_drew (S := (fun Q => Hid (St w Q (.slice (some ⟨g1, 0, none⟩) n c1) L (.slice (some ⟨g2, 0, none⟩) n c2) (L.map stuff1)) ∧ Q.cell? ⟨g1, j, none⟩ = some (.string A) ∧ Q.cell? ⟨g2, j, none⟩ = some (.string M))) (by kernel_rfl) (HK.out _ hst0.drew) (fun hH0 => ?_)
      refine held_take (i := 0) (.slice (some ⟨g2, 0, none⟩) n c2) rfl (by kernel_rfl) (by kernel_rfl) (by kernel_rfl) (by rfl) (fun w hSw => by obtain ⟨_, k1, k2⟩ := hSw; go_simp) (by exact hH0) ?_
      simp only [Act.put, List.setIfInBounds_toArray, List.set_cons_zero, List.set_cons_succ]
      refine held_take (i := 1) (.int .i64 (j : Int)) rfl (by kernel_rfl) (by kernel_rfl) (by kernel_rfl) (by rfl) (fun w hSw => by obtain ⟨_, k1, k2⟩ := hSw; go_simp) (by exact hH0) ?_
      simp only [Act.put, List.setIfInBounds_toArray, List.set_cons_zero, List.set_cons_succ]
      refine held_take (i := 2) (.pointer (some ⟨g2, j, none⟩)) rfl (by kernel_rfl) (by kernel_rfl) (by kernel_rfl) (by rfl) (fun w hSw => by obtain ⟨_, k1, k2⟩ := hSw; go_simp) (by exact hH0) ?_
      simp only [Act.put, List.setIfInBounds_toArray, List.set_cons_zero, List.set_cons_succ]
      refine held_take (i := 3) (.string M) rfl (by kernel_rfl) (by kernel_rfl) (by kernel_rfl) (by rfl) (fun w hSw => by obtain ⟨_, k1, k2⟩ := hSw; go_simp) (by exact hH0) ?_
      simp only [Act.put, List.setIfInBounds_toArray, List.set_cons_zero, List.set_cons_succ]
      refine held_step (i := 4) (.string BM) rfl (by kernel_rfl) (by rfl) (fun K hK => ?_) (fun wH1 hH1 => ?_)
      · go_simp
        refine (KM.out _ hH0.1).mono ?_
        rintro e w2 ⟨rfl, hS2⟩
        exact hK _ (HK.out _ hS2)
      simp only [Act.put, List.setIfInBounds_toArray, List.set_cons_zero, List.set_cons_succ]
      refine held_take (i := 5) (.bool false) rfl (by kernel_rfl) (by kernel_rfl) (by kernel_rfl) (by rfl) (fun w hSw => by obtain ⟨_, k1, k2⟩ := hSw; go_simp) (by exact hH1) ?_
      simp only [Act.put, List.setIfInBounds_toArray, List.set_cons_zero, List.set_cons_succ]
      refine held_take (i := 6) (.bool false) rfl (by kernel_rfl) (by kernel_rfl) (by kernel_rfl) (by rfl) (fun w hSw => by obtain ⟨_, k1, k2⟩ := hSw; go_simp) (by exact hH1) ?_
      simp only [Act.put, List.setIfInBounds_toArray, List.set_cons_zero, List.set_cons_succ]
      refine held_take (i := 7) (.slice (some ⟨g2, 0, none⟩) n c2) rfl (by kernel_rfl) (by kernel_rfl) (by kernel_rfl) (by rfl) (fun w hSw => by obtain ⟨_, k1, k2⟩ := hSw; go_simp) (by exact hH1) ?_
      simp only [Act.put, List.setIfInBounds_toArray, List.set_cons_zero, List.set_cons_succ]
      refine held_take (i := 8) (.int .i64 (j : Int)) rfl (by kernel_rfl) (by kernel_rfl) (by kernel_rfl) (by rfl) (fun w hSw => by obtain ⟨_, k1, k2⟩ := hSw; go_simp) (by exact hH1) ?_
      simp only [Act.put, List.setIfInBounds_toArray, List.set_cons_zero, List.set_cons_succ]
      refine held_take (i := 9) (.pointer (some ⟨g2, j, none⟩)) rfl (by kernel_rfl) (by kernel_rfl) (by kernel_rfl) (by rfl) (fun w hSw => by obtain ⟨_, k1, k2⟩ := hSw; go_simp) (by exact hH1) ?_
      simp only [Act.put, List.setIfInBounds_toArray, List.set_cons_zero, List.set_cons_succ]
      refine held_take (i := 10) (.string M) rfl (by kernel_rfl) (by kernel_rfl) (by kernel_rfl) (by rfl) (fun w hSw => by obtain ⟨_, k1, k2⟩ := hSw; go_simp) (by exact hH1) ?_
      simp only [Act.put, List.setIfInBounds_toArray, List.set_cons_zero, List.set_cons_succ]
      refine held_take (i := 11) (.int .i64 (M.size : Int)) rfl (by kernel_rfl) (by kernel_rfl) (by kernel_rfl) (by rfl) (fun w hSw => by obtain ⟨_, k1, k2⟩ := hSw; go_simp) (by exact hH1) ?_
      simp only [Act.put, List.setIfInBounds_toArray, List.set_cons_zero, List.set_cons_succ]
      refine held_take (i := 12) (.slice (some ⟨g2, 0, none⟩) n c2) rfl (by kernel_rfl) (by kernel_rfl) (by kernel_rfl) (by rfl) (fun w hSw => by obtain ⟨_, k1, k2⟩ := hSw; go_simp) (by exact hH1) ?_
      simp only [Act.put, List.setIfInBounds_toArray, List.set_cons_zero, List.set_cons_succ]
      refine held_take (i := 13) (.int .i64 (j : Int)) rfl (by kernel_rfl) (by kernel_rfl) (by kernel_rfl) (by rfl) (fun w hSw => by obtain ⟨_, k1, k2⟩ := hSw; go_simp) (by exact hH1) ?_
      simp only [Act.put, List.setIfInBounds_toArray, List.set_cons_zero, List.set_cons_succ]
      refine held_take (i := 14) (.pointer (some ⟨g2, j, none⟩)) rfl (by kernel_rfl) (by kernel_rfl) (by kernel_rfl) (by rfl) (fun w hSw => by obtain ⟨_, k1, k2⟩ := hSw; go_simp) (by exact hH1) ?_
      simp only [Act.put, List.setIfInBounds_toArray, List.set_cons_zero, List.set_cons_succ]
      refine held_take (i := 15) (.string M) rfl (by kernel_rfl) (by kernel_rfl) (by kernel_rfl) (by rfl) (fun w hSw => by obtain ⟨_, k1, k2⟩ := hSw; go_simp) (by exact hH1) ?_
      simp only [Act.put, List.setIfInBounds_toArray, List.set_cons_zero, List.set_cons_succ]
      refine held_take (i := 19) (.slice (some ⟨g1, 0, none⟩) n c1) rfl (by kernel_rfl) (by kernel_rfl) (by kernel_rfl) (by rfl) (fun w hSw => by obtain ⟨_, k1, k2⟩ := hSw; go_simp) (by exact hH1) ?_
      simp only [Act.put, List.setIfInBounds_toArray, List.set_cons_zero, List.set_cons_succ]
      refine held_take (i := 20) (.int .i64 (j : Int)) rfl (by kernel_rfl) (by kernel_rfl) (by kernel_rfl) (by rfl) (fun w hSw => by obtain ⟨_, k1, k2⟩ := hSw; go_simp) (by exact hH1) ?_
      simp only [Act.put, List.setIfInBounds_toArray, List.set_cons_zero, List.set_cons_succ]
      refine held_take (i := 21) (.pointer (some ⟨g1, j, none⟩)) rfl (by kernel_rfl) (by kernel_rfl) (by kernel_rfl) (by rfl) (fun w hSw => by obtain ⟨_, k1, k2⟩ := hSw; go_simp) (by exact hH1) ?_
      simp only [Act.put, List.setIfInBounds_toArray, List.set_cons_zero, List.set_cons_succ]
      refine held_take (i := 22) (.string A) rfl (by kernel_rfl) (by kernel_rfl) (by kernel_rfl) (by rfl) (fun w hSw => by obtain ⟨_, k1, k2⟩ := hSw; go_simp) (by exact hH1) ?_
      simp only [Act.put, List.setIfInBounds_toArray, List.set_cons_zero, List.set_cons_succ]
      refine held_take (i := 23) (.int .i64 (A.size : Int)) rfl (by kernel_rfl) (by kernel_rfl) (by kernel_rfl) (by rfl) (fun w hSw => by obtain ⟨_, k1, k2⟩ := hSw; go_simp) (by exact hH1) ?_
      simp only [Act.put, List.setIfInBounds_toArray, List.set_cons_zero, List.set_cons_succ]
      refine held_take (i := 24) (.slice (some ⟨g1, 0, none⟩) n c1) rfl (by kernel_rfl) (by kernel_rfl) (by kernel_rfl) (by rfl) (fun w hSw => by obtain ⟨_, k1, k2⟩ := hSw; go_simp) (by exact hH1) ?_
      simp only [Act.put, List.setIfInBounds_toArray, List.set_cons_zero, List.set_cons_succ]
      refine held_take (i := 25) (.int .i64 (j : Int)) rfl (by kernel_rfl) (by kernel_rfl) (by kernel_rfl) (by rfl) (fun w hSw => by obtain ⟨_, k1, k2⟩ := hSw; go_simp) (by exact hH1) ?_
      simp only [Act.put, List.setIfInBounds_toArray, List.set_cons_zero, List.set_cons_succ]
      refine held_take (i := 26) (.pointer (some ⟨g1, j, none⟩)) rfl (by kernel_rfl) (by kernel_rfl) (by kernel_rfl) (by rfl) (fun w hSw => by obtain ⟨_, k1, k2⟩ := hSw; go_simp) (by exact hH1) ?_
      simp only [Act.put, List.setIfInBounds_toArray, List.set_cons_zero, List.set_cons_succ]
      refine held_take (i := 27) (.string A) rfl (by kernel_rfl) (by kernel_rfl) (by kernel_rfl) (by rfl) (fun w hSw => by obtain ⟨_, k1, k2⟩ := hSw; go_simp) (by exact hH1) ?_
      simp only [Act.put, List.setIfInBounds_toArray, List.set_cons_zero, List.set_cons_succ]
      refine held_step (i := 16) (.string BM) rfl (by kernel_rfl) (by rfl) (fun K hK => ?_) (fun wH2 hH2 => ?_)
      · go_simp
        refine (KM.out _ hH1.1).mono ?_
        rintro e w2 ⟨rfl, hS2⟩
        exact hK _ (HK.out _ hS2)
      simp only [Act.put, List.setIfInBounds_toArray, List.set_cons_zero, List.set_cons_succ]
      refine held_take (i := 17) (.int .i64 (BM.size : Int)) rfl (by kernel_rfl) (by kernel_rfl) (by kernel_rfl) (by rfl) (fun w hSw => by obtain ⟨_, k1, k2⟩ := hSw; go_simp) (by exact hH2) ?_
      simp only [Act.put, List.setIfInBounds_toArray, List.set_cons_zero, List.set_cons_succ]
      refine held_take (i := 18) (.int .i64 (E : Int)) rfl (by kernel_rfl) (by kernel_rfl) (by kernel_rfl) (by rfl) (fun w hSw => by obtain ⟨_, k1, k2⟩ := hSw; go_simp) (by exact hH2) ?_
      simp only [Act.put, List.setIfInBounds_toArray, List.set_cons_zero, List.set_cons_succ]
      refine held_step (i := 28) (.string D) rfl (by kernel_rfl) (by rfl) (fun K hK => ?_) (fun wH3 hH3 => ?_)
      · go_simp
        refine (KA.out _ hH2.1).mono ?_
        rintro e w2 ⟨rfl, hS2⟩
        exact hK _ (HK.out _ hS2)
      simp only [Act.put, List.setIfInBounds_toArray, List.set_cons_zero, List.set_cons_succ]
      refine held_take (i := 29) (.int .i64 (D.size : Int)) rfl (by kernel_rfl) (by kernel_rfl) (by kernel_rfl) (by rfl) (fun w hSw => by obtain ⟨_, k1, k2⟩ := hSw; go_simp) (by exact hH3) ?_
      simp only [Act.put, List.setIfInBounds_toArray, List.set_cons_zero, List.set_cons_succ]
      refine held_take (i := 30) (.int .i64 (E : Int)) rfl (by kernel_rfl) (by kernel_rfl) (by kernel_rfl) (by rfl) (fun w hSw => by obtain ⟨_, k1, k2⟩ := hSw; go_simp) (by exact hH3) ?_
      simp only [Act.put, List.setIfInBounds_toArray, List.set_cons_zero, List.set_cons_succ]
      refine held_take (i := 31) (.bool false) rfl (by kernel_rfl) (by kernel_rfl) (by kernel_rfl) (by rfl) (fun w hSw => by obtain ⟨_, k1, k2⟩ := hSw; go_simp) (by exact hH3) ?_
      simp only [Act.put, List.setIfInBounds_toArray, List.set_cons_zero, List.set_cons_succ]
      refine held_take (i := 32) (.bool false) rfl (by kernel_rfl) (by kernel_rfl) (by kernel_rfl) (by rfl) (fun w hSw => by obtain ⟨_, k1, k2⟩ := hSw; go_simp) (by exact hH3) ?_
      simp only [Act.put, List.setIfInBounds_toArray, List.set_cons_zero, List.set_cons_succ]
      refine wpAnyH_done (by kernel_rfl) ?_ _
      refine NoPanic.normal ?_
      have hq1 := hH3.1
      go_wp2_with fail
      go_roundw
      case rel => exact ⟨j + 1, by omega, by go_num, hq1⟩
      case measure => simp [intOf]; omega
    · obtain rfl : j = n := by omega
      have hb5 := hst.out.bel
      go_wp2_with (first
        | (go_at_call 19; with_reducible refine (hU _).mono ?_; rintro e w5 ⟨rfl, hb6⟩; replace hb5 := hb5.trans (hb6.mono hb5.size); clear hb6)
        | (go_at_call 15; with_reducible refine (hCT _).mono ?_; rintro e w6 ⟨rfl, hb6⟩; replace hb5 := hb5.trans (hb6.mono hb5.size); clear hb6)
        | (go_at_call 15; with_reducible refine (hCS _).mono ?_; rintro e w7 ⟨rfl, hb6⟩; replace hb5 := hb5.trans (hb6.mono hb5.size); clear hb6)
        | (go_at_call 17; with_reducible refine (hSD _).mono ?_; rintro e w8 ⟨rfl, hb6⟩; replace hb5 := hb5.trans (hb6.mono hb5.size); clear hb6))
      go_ret
      exact ⟨rfl, hb5⟩
end Go.Proofs.Ytpoimbhfggkiiaa
