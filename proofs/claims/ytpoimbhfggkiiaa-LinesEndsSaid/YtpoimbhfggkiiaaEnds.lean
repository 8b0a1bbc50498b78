/- LinesEnds: Crlf preserves the bare lines, ends each terminated line by CRLF, leaves the last one, and is idempotent. -/
import Derived.Test.YtpoimbhfggkiiaaLawS
import Derived.Test.YtpoimbhfggkiiaaHeld
namespace Go.Proofs.Ytpoimbhfggkiiaa
open Go.ChangeShapes Go.WideShapes Go.ChangeAt Go.RowKit
open LinesP

theorem ends_long (s : ByteArray) (hs : 10000 < s.size) (w : World) : Calls Try.prog 8 #[.string s] w fun e w' => e = .returned (.bool true) ∧ Below w.heap.size w w' := by
  have hS := small_any w
  go_enter Try.func8, Try.ntmps8
  go_wp2_with (go_at_call 9; refine hS.mono ?_; rintro e w' ⟨rfl, hb⟩)
  go_ret
  exact ⟨rfl, hb⟩
set_option maxRecDepth 100000 in
set_option maxHeartbeats 4000000 in
theorem ends_any (s : ByteArray) (w : World) : Calls Try.prog 8 #[.string s] w fun e w' => e = .returned (.bool true) ∧ Below w.heap.size w w' := by
  by_cases hs : 10000 < s.size
  · exact ends_long s hs w
  have hS := small_any w
  obtain ⟨T, hT⟩ : ∃ T, strL (crlfL s.data.toList) = T := ⟨_, rfl⟩
  have hTs : T.size ≤ 20000 := by
    rw [← hT, strL_size]
    have h1 := outB_lines crlf1 s.data.toList
    have h2 := outB_len crlf1 crlf_len (linesB s.data.toList)
    have h3 := lines_len s
    rw [flatB_lines, ← size_list] at h2
    unfold crlfL
    rw [← h1]
    omega
  obtain ⟨L, hL⟩ : ∃ L, splitL s.data.toList = L := ⟨_, rfl⟩
  have hTL : splitL T.data.toList = L.map crlf1 := by rw [← hT, strL_list, split_crlf, hL]
  have hT2 : strL (crlfL T.data.toList) = T := by rw [← hT, strL_list, crlf_crlf]
  have hG : ∀ x ∈ L, Term x ∨ Tail x := by rw [← hL]; exact good_mem (split_good _)
  have hxl : ∀ x ∈ L, x.length ≤ 10000 := by
    intro x hx
    rw [← hL] at hx
    have := line_le hx
    rw [size_list] at hs
    omega
  have hC1 : ∀ w', Calls Try.prog 15 #[.string s] w' fun e w'' => e = .returned (.string T) ∧ Below w'.heap.size w' w'' := fun w' => crlf_is s T (by omega) hT w'
  have hC2 : ∀ w', Calls Try.prog 15 #[.string T] w' fun e w'' => e = .returned (.string T) ∧ Below w'.heap.size w' w'' := fun w' => crlf_is T T (by omega) hT2 w'
  obtain ⟨n, hn⟩ : ∃ n, L.length = n := ⟨_, rfl⟩
  have hP1 : ∀ w', Calls Try.prog 11 #[.string s] w' fun e w'' => ∃ a c, e = .returned (.slice a n c) ∧ Own w'' (.slice a n c) L ∧ Below w'.heap.size w' w'' := fun w' => (split_is s L (by omega) hL w').mono (by
    rintro e w'' ⟨a, c, rfl, ho, hb⟩
    rw [hn] at ho
    exact ⟨a, c, by rw [hn], ⟨_, by rw [hn]; exact ho⟩, hb⟩)
  have hP2 : ∀ w', Calls Try.prog 11 #[.string T] w' fun e w'' => ∃ a c, e = .returned (.slice a n c) ∧ Own w'' (.slice a n c) (L.map crlf1) ∧ Below w'.heap.size w' w'' := fun w' => (split_is T (L.map crlf1) (by omega) hTL w').mono (by
    rintro e w'' ⟨a, c, rfl, ho, hb⟩
    rw [List.length_map, hn] at ho
    exact ⟨a, c, by rw [List.length_map, hn], ⟨_, by rw [List.length_map, hn]; exact ho⟩, hb⟩)
  have hnn : n ≤ 10000 := by
    have := split_len s.data.toList
    rw [hL, hn, ← size_list] at this; omega
  have HL := Lib.hid (And.intro hG hxl)
  have HN := Lib.hid hn
  clear hG hxl hn hT hTs hTL hT2 hL
  go_enter Try.func8, Try.ntmps8
  go_wp2_with (first
    | (go_at_call 9; refine hS.mono ?_; rintro e w1 ⟨rfl, hb1⟩; clear hS)
    | (go_at_call 15; with_reducible refine (hC1 _).mono ?_; rintro e w2 ⟨rfl, hb2⟩; clear hC1)
    | (go_at_call 11; with_reducible refine (hP1 _).mono ?_; rintro e w3 ⟨a1, c1, rfl, o1, hb3⟩; clear hP1)
    | (go_at_call 11; with_reducible refine (hP2 _).mono ?_; rintro e w4 ⟨a2, c2, rfl, o2, hb4⟩; clear hP2))
  have hst : St w w4 (.slice a1 n c1) L (.slice a2 n c2) (L.map crlf1) :=
    ⟨((hb1.trans (hb2.mono hb1.size)).trans (hb3.mono (Nat.le_trans hb1.size hb2.size))).trans (hb4.mono (Nat.le_trans hb1.size (Nat.le_trans hb2.size hb3.size))), o1.step hb4, o2⟩
  have HST := Lib.hid hst
  clear hb1 hb2 hb3 hb4 o1 o2 hst
  go_loopw [7] (fun i wr => ∃ j : Nat, j ≤ n ∧ i = .int .i64 j ∧ Hid (St w wr (.slice a1 n c1) L (.slice a2 n c2) (L.map crlf1))) (fun i _ => n - (intOf i).toNat)
  case atStart => exact ⟨0, Nat.zero_le _, rfl, HST.out⟩
  case round =>
    obtain ⟨j, hj, rfl, hst⟩ := hrel
    by_cases hlt : j < n
    · obtain ⟨g1, rfl⟩ := hst.out.o1.at (by omega)
      obtain ⟨g2, rfl⟩ := hst.out.o2.at (by omega)
      have hjl : j < L.length := by rw [HN.out]; exact hlt
      obtain ⟨x, hx⟩ : ∃ x, L[j]? = some x := ⟨_, List.getElem?_eq_getElem hjl⟩
      have hxm : x ∈ L := List.mem_of_getElem? hx
      have hxp := HL.out.1 x hxm
      have hxs := HL.out.2 x hxm
      have hy : (L.map crlf1)[j]? = some (crlf1 x) := by rw [List.getElem?_map, hx]; rfl
      have hbl := bare_le x
      have hcl := crlf_len x
      rcases hxp with hxp | hxp
      · obtain ⟨A, hA⟩ : ∃ A, strL x = A := ⟨_, rfl⟩
        obtain ⟨D, hD⟩ : ∃ D, strL (bareL x) = D := ⟨_, rfl⟩
        obtain ⟨M, hM⟩ : ∃ M, strL (crlf1 x) = M := ⟨_, rfl⟩
        have hms : M.size = D.size + 2 := by rw [← hM, ← hD, strL_size, strL_size, crlf_term hxp]; simp
        have hsz : M.size ≤ 10001 := by rw [← hM, strL_size]; omega
        have hAD : (A.toList == D.toList) = false := by
          rw [eq_lists, bytes_eqb, ← hA, ← hD]
          have : x ≠ bareL x := fun e => by
            obtain ⟨m, rfl, hm⟩ := hxp
            have := congrArg List.length e
            rw [bare_term] at this
            split at this
            · rw [List.length_dropLast, List.length_append] at this; simp at this; omega
            · simp at this
          simp [strL_inj, this]
        have f1 : IntKind.i64.wrap ((D.size : Int) + 2) = (D.size : Int) + 2 := by rw [IntKind.wrap_i64]; omega
        have f2 : ((M.size : Int) == (D.size : Int) + 2) = true := by rw [beq_iff_eq]; omega
        have KA : Hid (∀ Q, St w Q (.slice (some ⟨g1, 0, none⟩) n c1) L (.slice (some ⟨g2, 0, none⟩) n c2) (L.map crlf1) → Calls Try.prog 13 #[.string A] Q fun e w' => e = .returned (.string D) ∧ St w w' (.slice (some ⟨g1, 0, none⟩) n c1) L (.slice (some ⟨g2, 0, none⟩) n c2) (L.map crlf1)) := fun Q h => bare_st h A D (by rw [← hA, strL_size]; omega) (by rw [← hA, strL_list, hD])
        have KM : Hid (∀ Q, St w Q (.slice (some ⟨g1, 0, none⟩) n c1) L (.slice (some ⟨g2, 0, none⟩) n c2) (L.map crlf1) → Calls Try.prog 13 #[.string M] Q fun e w' => e = .returned (.string D) ∧ St w w' (.slice (some ⟨g1, 0, none⟩) n c1) L (.slice (some ⟨g2, 0, none⟩) n c2) (L.map crlf1)) := fun Q h => bare_st h M D (by omega) (by rw [← hM, strL_list, crlf_bare (.inl hxp), hD])
        have HK : Hid (∀ Q, St w Q (.slice (some ⟨g1, 0, none⟩) n c1) L (.slice (some ⟨g2, 0, none⟩) n c2) (L.map crlf1) → Hid (St w Q (.slice (some ⟨g1, 0, none⟩) n c1) L (.slice (some ⟨g2, 0, none⟩) n c2) (L.map crlf1)) ∧ Q.cell? ⟨g1, j, none⟩ = some (.string A) ∧ Q.cell? ⟨g2, j, none⟩ = some (.string M)) := fun Q h => ⟨h, by rw [h.o1.cell j x hx, hA], by rw [h.o2.cell j _ hy, hM]⟩
        have hst0 := hst.out
        clear hA hD hM hms hsz hxm hxs hbl hcl hxp hx hy hjl hst hs
        go_wp2_with fail
        refine wp_region_noPanic ?_
        refine wp_region_held_drew (S := (fun Q => Hid (St w Q (.slice (some ⟨g1, 0, none⟩) n c1) L (.slice (some ⟨g2, 0, none⟩) n c2) (L.map crlf1)) ∧ Q.cell? ⟨g1, j, none⟩ = some (.string A) ∧ Q.cell? ⟨g2, j, none⟩ = some (.string M))) (by kernel_rfl) (HK.out _ hst0.drew) (fun hH0 => ?_)
        refine held_take (i := 0) (.slice (some ⟨g1, 0, none⟩) n c1) rfl (by kernel_rfl) (by kernel_rfl) (by kernel_rfl) (by rfl) (fun w hSw => by obtain ⟨_, k1, k2⟩ := hSw; go_simp) (by exact hH0) ?_
        simp only [Act.put, List.setIfInBounds_toArray, List.set_cons_zero, List.set_cons_succ]
        refine held_take (i := 1) (.int .i64 (j : Int)) rfl (by kernel_rfl) (by kernel_rfl) (by kernel_rfl) (by rfl) (fun w hSw => by obtain ⟨_, k1, k2⟩ := hSw; go_simp) (by exact hH0) ?_
        simp only [Act.put, List.setIfInBounds_toArray, List.set_cons_zero, List.set_cons_succ]
        refine held_take (i := 2) (.pointer (some ⟨g1, j, none⟩)) rfl (by kernel_rfl) (by kernel_rfl) (by kernel_rfl) (by rfl) (fun w hSw => by obtain ⟨_, k1, k2⟩ := hSw; go_simp) (by exact hH0) ?_
        simp only [Act.put, List.setIfInBounds_toArray, List.set_cons_zero, List.set_cons_succ]
        refine held_take (i := 3) (.string A) rfl (by kernel_rfl) (by kernel_rfl) (by kernel_rfl) (by rfl) (fun w hSw => by obtain ⟨_, k1, k2⟩ := hSw; go_simp) (by exact hH0) ?_
        simp only [Act.put, List.setIfInBounds_toArray, List.set_cons_zero, List.set_cons_succ]
        refine held_take (i := 4) (.slice (some ⟨g1, 0, none⟩) n c1) rfl (by kernel_rfl) (by kernel_rfl) (by kernel_rfl) (by rfl) (fun w hSw => by obtain ⟨_, k1, k2⟩ := hSw; go_simp) (by exact hH0) ?_
        simp only [Act.put, List.setIfInBounds_toArray, List.set_cons_zero, List.set_cons_succ]
        refine held_take (i := 5) (.int .i64 (j : Int)) rfl (by kernel_rfl) (by kernel_rfl) (by kernel_rfl) (by rfl) (fun w hSw => by obtain ⟨_, k1, k2⟩ := hSw; go_simp) (by exact hH0) ?_
        simp only [Act.put, List.setIfInBounds_toArray, List.set_cons_zero, List.set_cons_succ]
        refine held_take (i := 6) (.pointer (some ⟨g1, j, none⟩)) rfl (by kernel_rfl) (by kernel_rfl) (by kernel_rfl) (by rfl) (fun w hSw => by obtain ⟨_, k1, k2⟩ := hSw; go_simp) (by exact hH0) ?_
        simp only [Act.put, List.setIfInBounds_toArray, List.set_cons_zero, List.set_cons_succ]
        refine held_take (i := 7) (.string A) rfl (by kernel_rfl) (by kernel_rfl) (by kernel_rfl) (by rfl) (fun w hSw => by obtain ⟨_, k1, k2⟩ := hSw; go_simp) (by exact hH0) ?_
        simp only [Act.put, List.setIfInBounds_toArray, List.set_cons_zero, List.set_cons_succ]
        refine held_step (i := 8) (.string D) rfl (by kernel_rfl) (by rfl) (fun K hK => ?_) (fun wH1 hH1 => ?_)
        · go_simp
          refine (KA.out _ hH0.1).mono ?_
          rintro e w2 ⟨rfl, hS2⟩
          exact hK _ (HK.out _ hS2)
        simp only [Act.put, List.setIfInBounds_toArray, List.set_cons_zero, List.set_cons_succ]
        refine held_take (i := 9) (.bool true) rfl (by kernel_rfl) (by kernel_rfl) (by kernel_rfl) (by rfl) (fun w hSw => by obtain ⟨_, k1, k2⟩ := hSw; go_simp) (by exact hH1) ?_
        simp only [Act.put, List.setIfInBounds_toArray, List.set_cons_zero, List.set_cons_succ]
        refine held_take (i := 10) (.bool true) rfl (by kernel_rfl) (by kernel_rfl) (by kernel_rfl) (by rfl) (fun w hSw => by obtain ⟨_, k1, k2⟩ := hSw; go_simp) (by exact hH1) ?_
        simp only [Act.put, List.setIfInBounds_toArray, List.set_cons_zero, List.set_cons_succ]
        refine wpAnyH_done (by kernel_rfl) ?_ _
        refine NoPanic.normal ?_
        have hq0 := hH1.1.out
        go_wp2_with fail
        refine wp_region_noPanic ?_
        refine wp_region_held_drew (S := (fun Q => Hid (St w Q (.slice (some ⟨g1, 0, none⟩) n c1) L (.slice (some ⟨g2, 0, none⟩) n c2) (L.map crlf1)) ∧ Q.cell? ⟨g1, j, none⟩ = some (.string A) ∧ Q.cell? ⟨g2, j, none⟩ = some (.string M))) (by kernel_rfl) (HK.out _ hq0.drew) (fun hG0 => ?_)
        refine held_take (i := 0) (.slice (some ⟨g1, 0, none⟩) n c1) rfl (by kernel_rfl) (by kernel_rfl) (by kernel_rfl) (by rfl) (fun w hSw => by obtain ⟨_, k1, k2⟩ := hSw; go_simp) (by exact hG0) ?_
        simp only [Act.put, List.setIfInBounds_toArray, List.set_cons_zero, List.set_cons_succ]
        refine held_take (i := 1) (.int .i64 (j : Int)) rfl (by kernel_rfl) (by kernel_rfl) (by kernel_rfl) (by rfl) (fun w hSw => by obtain ⟨_, k1, k2⟩ := hSw; go_simp) (by exact hG0) ?_
        simp only [Act.put, List.setIfInBounds_toArray, List.set_cons_zero, List.set_cons_succ]
        refine held_take (i := 2) (.pointer (some ⟨g1, j, none⟩)) rfl (by kernel_rfl) (by kernel_rfl) (by kernel_rfl) (by rfl) (fun w hSw => by obtain ⟨_, k1, k2⟩ := hSw; go_simp) (by exact hG0) ?_
        simp only [Act.put, List.setIfInBounds_toArray, List.set_cons_zero, List.set_cons_succ]
        refine held_take (i := 3) (.string A) rfl (by kernel_rfl) (by kernel_rfl) (by kernel_rfl) (by rfl) (fun w hSw => by obtain ⟨_, k1, k2⟩ := hSw; go_simp) (by exact hG0) ?_
        simp only [Act.put, List.setIfInBounds_toArray, List.set_cons_zero, List.set_cons_succ]
        refine held_take (i := 5) (.slice (some ⟨g2, 0, none⟩) n c2) rfl (by kernel_rfl) (by kernel_rfl) (by kernel_rfl) (by rfl) (fun w hSw => by obtain ⟨_, k1, k2⟩ := hSw; go_simp) (by exact hG0) ?_
        simp only [Act.put, List.setIfInBounds_toArray, List.set_cons_zero, List.set_cons_succ]
        refine held_take (i := 6) (.int .i64 (j : Int)) rfl (by kernel_rfl) (by kernel_rfl) (by kernel_rfl) (by rfl) (fun w hSw => by obtain ⟨_, k1, k2⟩ := hSw; go_simp) (by exact hG0) ?_
        simp only [Act.put, List.setIfInBounds_toArray, List.set_cons_zero, List.set_cons_succ]
        refine held_take (i := 7) (.pointer (some ⟨g2, j, none⟩)) rfl (by kernel_rfl) (by kernel_rfl) (by kernel_rfl) (by rfl) (fun w hSw => by obtain ⟨_, k1, k2⟩ := hSw; go_simp) (by exact hG0) ?_
        simp only [Act.put, List.setIfInBounds_toArray, List.set_cons_zero, List.set_cons_succ]
        refine held_take (i := 8) (.string M) rfl (by kernel_rfl) (by kernel_rfl) (by kernel_rfl) (by rfl) (fun w hSw => by obtain ⟨_, k1, k2⟩ := hSw; go_simp) (by exact hG0) ?_
        simp only [Act.put, List.setIfInBounds_toArray, List.set_cons_zero, List.set_cons_succ]
        refine held_step (i := 4) (.string D) rfl (by kernel_rfl) (by rfl) (fun K hK => ?_) (fun wG1 hG1 => ?_)
        · go_simp
          refine (KA.out _ hG0.1).mono ?_
          rintro e w2 ⟨rfl, hS2⟩
          exact hK _ (HK.out _ hS2)
        simp only [Act.put, List.setIfInBounds_toArray, List.set_cons_zero, List.set_cons_succ]
        refine held_step (i := 9) (.string D) rfl (by kernel_rfl) (by rfl) (fun K hK => ?_) (fun wG2 hG2 => ?_)
        · go_simp
          refine (KM.out _ hG1.1).mono ?_
          rintro e w2 ⟨rfl, hS2⟩
          exact hK _ (HK.out _ hS2)
        simp only [Act.put, List.setIfInBounds_toArray, List.set_cons_zero, List.set_cons_succ]
        refine held_take (i := 10) (.bool false) rfl (by kernel_rfl) (by kernel_rfl) (by kernel_rfl) (by rfl) (fun w hSw => by obtain ⟨_, k1, k2⟩ := hSw; go_simp) (by exact hG2) ?_
        simp only [Act.put, List.setIfInBounds_toArray, List.set_cons_zero, List.set_cons_succ]
        refine held_take (i := 11) (.bool false) rfl (by kernel_rfl) (by kernel_rfl) (by kernel_rfl) (by rfl) (fun w hSw => by obtain ⟨_, k1, k2⟩ := hSw; go_simp) (by exact hG2) ?_
        simp only [Act.put, List.setIfInBounds_toArray, List.set_cons_zero, List.set_cons_succ]
        refine held_take (i := 12) (.bool true) rfl (by kernel_rfl) (by kernel_rfl) (by kernel_rfl) (by rfl) (fun w hSw => by obtain ⟨_, k1, k2⟩ := hSw; go_simp) (by exact hG2) ?_
        simp only [Act.put, List.setIfInBounds_toArray, List.set_cons_zero, List.set_cons_succ]
        refine held_take (i := 13) (.slice (some ⟨g2, 0, none⟩) n c2) rfl (by kernel_rfl) (by kernel_rfl) (by kernel_rfl) (by rfl) (fun w hSw => by obtain ⟨_, k1, k2⟩ := hSw; go_simp) (by exact hG2) ?_
        simp only [Act.put, List.setIfInBounds_toArray, List.set_cons_zero, List.set_cons_succ]
        refine held_take (i := 14) (.int .i64 (j : Int)) rfl (by kernel_rfl) (by kernel_rfl) (by kernel_rfl) (by rfl) (fun w hSw => by obtain ⟨_, k1, k2⟩ := hSw; go_simp) (by exact hG2) ?_
        simp only [Act.put, List.setIfInBounds_toArray, List.set_cons_zero, List.set_cons_succ]
        refine held_take (i := 15) (.pointer (some ⟨g2, j, none⟩)) rfl (by kernel_rfl) (by kernel_rfl) (by kernel_rfl) (by rfl) (fun w hSw => by obtain ⟨_, k1, k2⟩ := hSw; go_simp) (by exact hG2) ?_
        simp only [Act.put, List.setIfInBounds_toArray, List.set_cons_zero, List.set_cons_succ]
        refine held_take (i := 16) (.string M) rfl (by kernel_rfl) (by kernel_rfl) (by kernel_rfl) (by rfl) (fun w hSw => by obtain ⟨_, k1, k2⟩ := hSw; go_simp) (by exact hG2) ?_
        simp only [Act.put, List.setIfInBounds_toArray, List.set_cons_zero, List.set_cons_succ]
        refine held_take (i := 17) (.int .i64 (M.size : Int)) rfl (by kernel_rfl) (by kernel_rfl) (by kernel_rfl) (by rfl) (fun w hSw => by obtain ⟨_, k1, k2⟩ := hSw; go_simp) (by exact hG2) ?_
        simp only [Act.put, List.setIfInBounds_toArray, List.set_cons_zero, List.set_cons_succ]
        refine held_take (i := 18) (.slice (some ⟨g2, 0, none⟩) n c2) rfl (by kernel_rfl) (by kernel_rfl) (by kernel_rfl) (by rfl) (fun w hSw => by obtain ⟨_, k1, k2⟩ := hSw; go_simp) (by exact hG2) ?_
        simp only [Act.put, List.setIfInBounds_toArray, List.set_cons_zero, List.set_cons_succ]
        refine held_take (i := 19) (.int .i64 (j : Int)) rfl (by kernel_rfl) (by kernel_rfl) (by kernel_rfl) (by rfl) (fun w hSw => by obtain ⟨_, k1, k2⟩ := hSw; go_simp) (by exact hG2) ?_
        simp only [Act.put, List.setIfInBounds_toArray, List.set_cons_zero, List.set_cons_succ]
        refine held_take (i := 20) (.pointer (some ⟨g2, j, none⟩)) rfl (by kernel_rfl) (by kernel_rfl) (by kernel_rfl) (by rfl) (fun w hSw => by obtain ⟨_, k1, k2⟩ := hSw; go_simp) (by exact hG2) ?_
        simp only [Act.put, List.setIfInBounds_toArray, List.set_cons_zero, List.set_cons_succ]
        refine held_take (i := 21) (.string M) rfl (by kernel_rfl) (by kernel_rfl) (by kernel_rfl) (by rfl) (fun w hSw => by obtain ⟨_, k1, k2⟩ := hSw; go_simp) (by exact hG2) ?_
        simp only [Act.put, List.setIfInBounds_toArray, List.set_cons_zero, List.set_cons_succ]
        refine held_step (i := 22) (.string D) rfl (by kernel_rfl) (by rfl) (fun K hK => ?_) (fun wG3 hG3 => ?_)
        · go_simp
          refine (KM.out _ hG2.1).mono ?_
          rintro e w2 ⟨rfl, hS2⟩
          exact hK _ (HK.out _ hS2)
        simp only [Act.put, List.setIfInBounds_toArray, List.set_cons_zero, List.set_cons_succ]
        refine held_take (i := 23) (.int .i64 (D.size : Int)) rfl (by kernel_rfl) (by kernel_rfl) (by kernel_rfl) (by rfl) (fun w hSw => by obtain ⟨_, k1, k2⟩ := hSw; go_simp) (by exact hG3) ?_
        simp only [Act.put, List.setIfInBounds_toArray, List.set_cons_zero, List.set_cons_succ]
        refine held_take (i := 24) (.int .i64 ((D.size : Int) + 2)) rfl (by kernel_rfl) (by kernel_rfl) (by kernel_rfl) (by rfl) (fun w hSw => by obtain ⟨_, k1, k2⟩ := hSw; go_simp) (by exact hG3) ?_
        simp only [Act.put, List.setIfInBounds_toArray, List.set_cons_zero, List.set_cons_succ]
        refine held_take (i := 25) (.bool true) rfl (by kernel_rfl) (by kernel_rfl) (by kernel_rfl) (by rfl) (fun w hSw => by obtain ⟨_, k1, k2⟩ := hSw; go_simp) (by exact hG3) ?_
        simp only [Act.put, List.setIfInBounds_toArray, List.set_cons_zero, List.set_cons_succ]
        refine held_take (i := 26) (.bool false) rfl (by kernel_rfl) (by kernel_rfl) (by kernel_rfl) (by rfl) (fun w hSw => by obtain ⟨_, k1, k2⟩ := hSw; go_simp) (by exact hG3) ?_
        simp only [Act.put, List.setIfInBounds_toArray, List.set_cons_zero, List.set_cons_succ]
        refine held_take (i := 27) (.bool false) rfl (by kernel_rfl) (by kernel_rfl) (by kernel_rfl) (by rfl) (fun w hSw => by obtain ⟨_, k1, k2⟩ := hSw; go_simp) (by exact hG3) ?_
        simp only [Act.put, List.setIfInBounds_toArray, List.set_cons_zero, List.set_cons_succ]
        refine held_take (i := 28) (.bool false) rfl (by kernel_rfl) (by kernel_rfl) (by kernel_rfl) (by rfl) (fun w hSw => by obtain ⟨_, k1, k2⟩ := hSw; go_simp) (by exact hG3) ?_
        simp only [Act.put, List.setIfInBounds_toArray, List.set_cons_zero, List.set_cons_succ]
        refine held_take (i := 29) (.bool true) rfl (by kernel_rfl) (by kernel_rfl) (by kernel_rfl) (by rfl) (fun w hSw => by obtain ⟨_, k1, k2⟩ := hSw; go_simp) (by exact hG3) ?_
        simp only [Act.put, List.setIfInBounds_toArray, List.set_cons_zero, List.set_cons_succ]
        refine held_take (i := 30) (.bool false) rfl (by kernel_rfl) (by kernel_rfl) (by kernel_rfl) (by rfl) (fun w hSw => by obtain ⟨_, k1, k2⟩ := hSw; go_simp) (by exact hG3) ?_
        simp only [Act.put, List.setIfInBounds_toArray, List.set_cons_zero, List.set_cons_succ]
        refine held_take (i := 31) (.bool false) rfl (by kernel_rfl) (by kernel_rfl) (by kernel_rfl) (by rfl) (fun w hSw => by obtain ⟨_, k1, k2⟩ := hSw; go_simp) (by exact hG3) ?_
        simp only [Act.put, List.setIfInBounds_toArray, List.set_cons_zero, List.set_cons_succ]
        refine held_skip (i := 32) rfl (by kernel_rfl) (by kernel_rfl) (by kernel_rfl) (by rfl) (by exact hG3) ?_
        simp only [Act.put, List.setIfInBounds_toArray, List.set_cons_zero, List.set_cons_succ]
        refine held_skip (i := 33) rfl (by kernel_rfl) (by kernel_rfl) (by kernel_rfl) (by rfl) (by exact hG3) ?_
        simp only [Act.put, List.setIfInBounds_toArray, List.set_cons_zero, List.set_cons_succ]
        refine held_skip (i := 34) rfl (by kernel_rfl) (by kernel_rfl) (by kernel_rfl) (by rfl) (by exact hG3) ?_
        simp only [Act.put, List.setIfInBounds_toArray, List.set_cons_zero, List.set_cons_succ]
        refine held_skip (i := 35) rfl (by kernel_rfl) (by kernel_rfl) (by kernel_rfl) (by rfl) (by exact hG3) ?_
        simp only [Act.put, List.setIfInBounds_toArray, List.set_cons_zero, List.set_cons_succ]
        refine held_skip (i := 36) rfl (by kernel_rfl) (by kernel_rfl) (by kernel_rfl) (by rfl) (by exact hG3) ?_
        simp only [Act.put, List.setIfInBounds_toArray, List.set_cons_zero, List.set_cons_succ]
        refine held_skip (i := 37) rfl (by kernel_rfl) (by kernel_rfl) (by kernel_rfl) (by rfl) (by exact hG3) ?_
        simp only [Act.put, List.setIfInBounds_toArray, List.set_cons_zero, List.set_cons_succ]
        refine held_skip (i := 38) rfl (by kernel_rfl) (by kernel_rfl) (by kernel_rfl) (by rfl) (by exact hG3) ?_
        simp only [Act.put, List.setIfInBounds_toArray, List.set_cons_zero, List.set_cons_succ]
        refine held_skip (i := 39) rfl (by kernel_rfl) (by kernel_rfl) (by kernel_rfl) (by rfl) (by exact hG3) ?_
        simp only [Act.put, List.setIfInBounds_toArray, List.set_cons_zero, List.set_cons_succ]
        refine held_skip (i := 40) rfl (by kernel_rfl) (by kernel_rfl) (by kernel_rfl) (by rfl) (by exact hG3) ?_
        simp only [Act.put, List.setIfInBounds_toArray, List.set_cons_zero, List.set_cons_succ]
        refine held_take (i := 41) (.bool false) rfl (by kernel_rfl) (by kernel_rfl) (by kernel_rfl) (by rfl) (fun w hSw => by obtain ⟨_, k1, k2⟩ := hSw; go_simp) (by exact hG3) ?_
        simp only [Act.put, List.setIfInBounds_toArray, List.set_cons_zero, List.set_cons_succ]
        refine held_take (i := 42) (.bool false) rfl (by kernel_rfl) (by kernel_rfl) (by kernel_rfl) (by rfl) (fun w hSw => by obtain ⟨_, k1, k2⟩ := hSw; go_simp) (by exact hG3) ?_
        simp only [Act.put, List.setIfInBounds_toArray, List.set_cons_zero, List.set_cons_succ]
        refine wpAnyH_done (by kernel_rfl) ?_ _
        refine NoPanic.normal ?_
        have hq1 := hG3.1
        go_wp2_with fail
        go_roundw
        case rel => exact ⟨j + 1, by omega, by go_num, hq1⟩
        case measure => simp [intOf]; omega
      · obtain ⟨A, hA⟩ : ∃ A, strL x = A := ⟨_, rfl⟩
        have hsz : A.size ≤ 10001 := by rw [← hA, strL_size]; omega
        have f1 : IntKind.i64.wrap ((A.size : Int) + 2) = (A.size : Int) + 2 := by rw [IntKind.wrap_i64]; omega
        have f2 : ((A.size : Int) == (A.size : Int) + 2) = false := by rw [beq_eq_false_iff_ne]; omega
        have KA : Hid (∀ Q, St w Q (.slice (some ⟨g1, 0, none⟩) n c1) L (.slice (some ⟨g2, 0, none⟩) n c2) (L.map crlf1) → Calls Try.prog 13 #[.string A] Q fun e w' => e = .returned (.string A) ∧ St w w' (.slice (some ⟨g1, 0, none⟩) n c1) L (.slice (some ⟨g2, 0, none⟩) n c2) (L.map crlf1)) := fun Q h => bare_st h A A (by omega) (by rw [← hA, strL_list, bare_tail hxp])
        have HK : Hid (∀ Q, St w Q (.slice (some ⟨g1, 0, none⟩) n c1) L (.slice (some ⟨g2, 0, none⟩) n c2) (L.map crlf1) → Hid (St w Q (.slice (some ⟨g1, 0, none⟩) n c1) L (.slice (some ⟨g2, 0, none⟩) n c2) (L.map crlf1)) ∧ Q.cell? ⟨g1, j, none⟩ = some (.string A) ∧ Q.cell? ⟨g2, j, none⟩ = some (.string A)) := fun Q h => ⟨h, by rw [h.o1.cell j x hx, hA], by rw [h.o2.cell j _ hy, crlf_tail hxp, hA]⟩
        have hst0 := hst.out
        clear hA hsz hxm hxs hbl hcl hxp hx hy hjl hst hs
        go_wp2_with fail
        refine wp_region_noPanic ?_
        refine wp_region_held_drew (S := (fun Q => Hid (St w Q (.slice (some ⟨g1, 0, none⟩) n c1) L (.slice (some ⟨g2, 0, none⟩) n c2) (L.map crlf1)) ∧ Q.cell? ⟨g1, j, none⟩ = some (.string A) ∧ Q.cell? ⟨g2, j, none⟩ = some (.string A))) (by kernel_rfl) (HK.out _ hst0.drew) (fun hH0 => ?_)
        refine held_take (i := 0) (.slice (some ⟨g1, 0, none⟩) n c1) rfl (by kernel_rfl) (by kernel_rfl) (by kernel_rfl) (by rfl) (fun w hSw => by obtain ⟨_, k1, k2⟩ := hSw; go_simp) (by exact hH0) ?_
        simp only [Act.put, List.setIfInBounds_toArray, List.set_cons_zero, List.set_cons_succ]
        refine held_take (i := 1) (.int .i64 (j : Int)) rfl (by kernel_rfl) (by kernel_rfl) (by kernel_rfl) (by rfl) (fun w hSw => by obtain ⟨_, k1, k2⟩ := hSw; go_simp) (by exact hH0) ?_
        simp only [Act.put, List.setIfInBounds_toArray, List.set_cons_zero, List.set_cons_succ]
        refine held_take (i := 2) (.pointer (some ⟨g1, j, none⟩)) rfl (by kernel_rfl) (by kernel_rfl) (by kernel_rfl) (by rfl) (fun w hSw => by obtain ⟨_, k1, k2⟩ := hSw; go_simp) (by exact hH0) ?_
        simp only [Act.put, List.setIfInBounds_toArray, List.set_cons_zero, List.set_cons_succ]
        refine held_take (i := 3) (.string A) rfl (by kernel_rfl) (by kernel_rfl) (by kernel_rfl) (by rfl) (fun w hSw => by obtain ⟨_, k1, k2⟩ := hSw; go_simp) (by exact hH0) ?_
        simp only [Act.put, List.setIfInBounds_toArray, List.set_cons_zero, List.set_cons_succ]
        refine held_take (i := 4) (.slice (some ⟨g1, 0, none⟩) n c1) rfl (by kernel_rfl) (by kernel_rfl) (by kernel_rfl) (by rfl) (fun w hSw => by obtain ⟨_, k1, k2⟩ := hSw; go_simp) (by exact hH0) ?_
        simp only [Act.put, List.setIfInBounds_toArray, List.set_cons_zero, List.set_cons_succ]
        refine held_take (i := 5) (.int .i64 (j : Int)) rfl (by kernel_rfl) (by kernel_rfl) (by kernel_rfl) (by rfl) (fun w hSw => by obtain ⟨_, k1, k2⟩ := hSw; go_simp) (by exact hH0) ?_
        simp only [Act.put, List.setIfInBounds_toArray, List.set_cons_zero, List.set_cons_succ]
        refine held_take (i := 6) (.pointer (some ⟨g1, j, none⟩)) rfl (by kernel_rfl) (by kernel_rfl) (by kernel_rfl) (by rfl) (fun w hSw => by obtain ⟨_, k1, k2⟩ := hSw; go_simp) (by exact hH0) ?_
        simp only [Act.put, List.setIfInBounds_toArray, List.set_cons_zero, List.set_cons_succ]
        refine held_take (i := 7) (.string A) rfl (by kernel_rfl) (by kernel_rfl) (by kernel_rfl) (by rfl) (fun w hSw => by obtain ⟨_, k1, k2⟩ := hSw; go_simp) (by exact hH0) ?_
        simp only [Act.put, List.setIfInBounds_toArray, List.set_cons_zero, List.set_cons_succ]
        refine held_step (i := 8) (.string A) rfl (by kernel_rfl) (by rfl) (fun K hK => ?_) (fun wH1 hH1 => ?_)
        · go_simp
          refine (KA.out _ hH0.1).mono ?_
          rintro e w2 ⟨rfl, hS2⟩
          exact hK _ (HK.out _ hS2)
        simp only [Act.put, List.setIfInBounds_toArray, List.set_cons_zero, List.set_cons_succ]
        refine held_take (i := 9) (.bool false) rfl (by kernel_rfl) (by kernel_rfl) (by kernel_rfl) (by rfl) (fun w hSw => by obtain ⟨_, k1, k2⟩ := hSw; go_simp) (by exact hH1) ?_
        simp only [Act.put, List.setIfInBounds_toArray, List.set_cons_zero, List.set_cons_succ]
        refine held_take (i := 10) (.bool false) rfl (by kernel_rfl) (by kernel_rfl) (by kernel_rfl) (by rfl) (fun w hSw => by obtain ⟨_, k1, k2⟩ := hSw; go_simp) (by exact hH1) ?_
        simp only [Act.put, List.setIfInBounds_toArray, List.set_cons_zero, List.set_cons_succ]
        refine wpAnyH_done (by kernel_rfl) ?_ _
        refine NoPanic.normal ?_
        have hq0 := hH1.1.out
        go_wp2_with fail
        refine wp_region_noPanic ?_
        refine wp_region_held_drew (S := (fun Q => Hid (St w Q (.slice (some ⟨g1, 0, none⟩) n c1) L (.slice (some ⟨g2, 0, none⟩) n c2) (L.map crlf1)) ∧ Q.cell? ⟨g1, j, none⟩ = some (.string A) ∧ Q.cell? ⟨g2, j, none⟩ = some (.string A))) (by kernel_rfl) (HK.out _ hq0.drew) (fun hG0 => ?_)
        refine held_take (i := 0) (.slice (some ⟨g1, 0, none⟩) n c1) rfl (by kernel_rfl) (by kernel_rfl) (by kernel_rfl) (by rfl) (fun w hSw => by obtain ⟨_, k1, k2⟩ := hSw; go_simp) (by exact hG0) ?_
        simp only [Act.put, List.setIfInBounds_toArray, List.set_cons_zero, List.set_cons_succ]
        refine held_take (i := 1) (.int .i64 (j : Int)) rfl (by kernel_rfl) (by kernel_rfl) (by kernel_rfl) (by rfl) (fun w hSw => by obtain ⟨_, k1, k2⟩ := hSw; go_simp) (by exact hG0) ?_
        simp only [Act.put, List.setIfInBounds_toArray, List.set_cons_zero, List.set_cons_succ]
        refine held_take (i := 2) (.pointer (some ⟨g1, j, none⟩)) rfl (by kernel_rfl) (by kernel_rfl) (by kernel_rfl) (by rfl) (fun w hSw => by obtain ⟨_, k1, k2⟩ := hSw; go_simp) (by exact hG0) ?_
        simp only [Act.put, List.setIfInBounds_toArray, List.set_cons_zero, List.set_cons_succ]
        refine held_take (i := 3) (.string A) rfl (by kernel_rfl) (by kernel_rfl) (by kernel_rfl) (by rfl) (fun w hSw => by obtain ⟨_, k1, k2⟩ := hSw; go_simp) (by exact hG0) ?_
        simp only [Act.put, List.setIfInBounds_toArray, List.set_cons_zero, List.set_cons_succ]
        refine held_take (i := 5) (.slice (some ⟨g2, 0, none⟩) n c2) rfl (by kernel_rfl) (by kernel_rfl) (by kernel_rfl) (by rfl) (fun w hSw => by obtain ⟨_, k1, k2⟩ := hSw; go_simp) (by exact hG0) ?_
        simp only [Act.put, List.setIfInBounds_toArray, List.set_cons_zero, List.set_cons_succ]
        refine held_take (i := 6) (.int .i64 (j : Int)) rfl (by kernel_rfl) (by kernel_rfl) (by kernel_rfl) (by rfl) (fun w hSw => by obtain ⟨_, k1, k2⟩ := hSw; go_simp) (by exact hG0) ?_
        simp only [Act.put, List.setIfInBounds_toArray, List.set_cons_zero, List.set_cons_succ]
        refine held_take (i := 7) (.pointer (some ⟨g2, j, none⟩)) rfl (by kernel_rfl) (by kernel_rfl) (by kernel_rfl) (by rfl) (fun w hSw => by obtain ⟨_, k1, k2⟩ := hSw; go_simp) (by exact hG0) ?_
        simp only [Act.put, List.setIfInBounds_toArray, List.set_cons_zero, List.set_cons_succ]
        refine held_take (i := 8) (.string A) rfl (by kernel_rfl) (by kernel_rfl) (by kernel_rfl) (by rfl) (fun w hSw => by obtain ⟨_, k1, k2⟩ := hSw; go_simp) (by exact hG0) ?_
        simp only [Act.put, List.setIfInBounds_toArray, List.set_cons_zero, List.set_cons_succ]
        refine held_step (i := 4) (.string A) rfl (by kernel_rfl) (by rfl) (fun K hK => ?_) (fun wG1 hG1 => ?_)
        · go_simp
          refine (KA.out _ hG0.1).mono ?_
          rintro e w2 ⟨rfl, hS2⟩
          exact hK _ (HK.out _ hS2)
        simp only [Act.put, List.setIfInBounds_toArray, List.set_cons_zero, List.set_cons_succ]
        refine held_step (i := 9) (.string A) rfl (by kernel_rfl) (by rfl) (fun K hK => ?_) (fun wG2 hG2 => ?_)
        · go_simp
          refine (KA.out _ hG1.1).mono ?_
          rintro e w2 ⟨rfl, hS2⟩
          exact hK _ (HK.out _ hS2)
        simp only [Act.put, List.setIfInBounds_toArray, List.set_cons_zero, List.set_cons_succ]
        refine held_take (i := 10) (.bool false) rfl (by kernel_rfl) (by kernel_rfl) (by kernel_rfl) (by rfl) (fun w hSw => by obtain ⟨_, k1, k2⟩ := hSw; go_simp) (by exact hG2) ?_
        simp only [Act.put, List.setIfInBounds_toArray, List.set_cons_zero, List.set_cons_succ]
        refine held_take (i := 11) (.bool false) rfl (by kernel_rfl) (by kernel_rfl) (by kernel_rfl) (by rfl) (fun w hSw => by obtain ⟨_, k1, k2⟩ := hSw; go_simp) (by exact hG2) ?_
        simp only [Act.put, List.setIfInBounds_toArray, List.set_cons_zero, List.set_cons_succ]
        refine held_take (i := 12) (.bool false) rfl (by kernel_rfl) (by kernel_rfl) (by kernel_rfl) (by rfl) (fun w hSw => by obtain ⟨_, k1, k2⟩ := hSw; go_simp) (by exact hG2) ?_
        simp only [Act.put, List.setIfInBounds_toArray, List.set_cons_zero, List.set_cons_succ]
        refine held_take (i := 13) (.slice (some ⟨g2, 0, none⟩) n c2) rfl (by kernel_rfl) (by kernel_rfl) (by kernel_rfl) (by rfl) (fun w hSw => by obtain ⟨_, k1, k2⟩ := hSw; go_simp) (by exact hG2) ?_
        simp only [Act.put, List.setIfInBounds_toArray, List.set_cons_zero, List.set_cons_succ]
        refine held_take (i := 14) (.int .i64 (j : Int)) rfl (by kernel_rfl) (by kernel_rfl) (by kernel_rfl) (by rfl) (fun w hSw => by obtain ⟨_, k1, k2⟩ := hSw; go_simp) (by exact hG2) ?_
        simp only [Act.put, List.setIfInBounds_toArray, List.set_cons_zero, List.set_cons_succ]
        refine held_take (i := 15) (.pointer (some ⟨g2, j, none⟩)) rfl (by kernel_rfl) (by kernel_rfl) (by kernel_rfl) (by rfl) (fun w hSw => by obtain ⟨_, k1, k2⟩ := hSw; go_simp) (by exact hG2) ?_
        simp only [Act.put, List.setIfInBounds_toArray, List.set_cons_zero, List.set_cons_succ]
        refine held_take (i := 16) (.string A) rfl (by kernel_rfl) (by kernel_rfl) (by kernel_rfl) (by rfl) (fun w hSw => by obtain ⟨_, k1, k2⟩ := hSw; go_simp) (by exact hG2) ?_
        simp only [Act.put, List.setIfInBounds_toArray, List.set_cons_zero, List.set_cons_succ]
        refine held_take (i := 17) (.int .i64 (A.size : Int)) rfl (by kernel_rfl) (by kernel_rfl) (by kernel_rfl) (by rfl) (fun w hSw => by obtain ⟨_, k1, k2⟩ := hSw; go_simp) (by exact hG2) ?_
        simp only [Act.put, List.setIfInBounds_toArray, List.set_cons_zero, List.set_cons_succ]
        refine held_take (i := 18) (.slice (some ⟨g2, 0, none⟩) n c2) rfl (by kernel_rfl) (by kernel_rfl) (by kernel_rfl) (by rfl) (fun w hSw => by obtain ⟨_, k1, k2⟩ := hSw; go_simp) (by exact hG2) ?_
        simp only [Act.put, List.setIfInBounds_toArray, List.set_cons_zero, List.set_cons_succ]
        refine held_take (i := 19) (.int .i64 (j : Int)) rfl (by kernel_rfl) (by kernel_rfl) (by kernel_rfl) (by rfl) (fun w hSw => by obtain ⟨_, k1, k2⟩ := hSw; go_simp) (by exact hG2) ?_
        simp only [Act.put, List.setIfInBounds_toArray, List.set_cons_zero, List.set_cons_succ]
        refine held_take (i := 20) (.pointer (some ⟨g2, j, none⟩)) rfl (by kernel_rfl) (by kernel_rfl) (by kernel_rfl) (by rfl) (fun w hSw => by obtain ⟨_, k1, k2⟩ := hSw; go_simp) (by exact hG2) ?_
        simp only [Act.put, List.setIfInBounds_toArray, List.set_cons_zero, List.set_cons_succ]
        refine held_take (i := 21) (.string A) rfl (by kernel_rfl) (by kernel_rfl) (by kernel_rfl) (by rfl) (fun w hSw => by obtain ⟨_, k1, k2⟩ := hSw; go_simp) (by exact hG2) ?_
        simp only [Act.put, List.setIfInBounds_toArray, List.set_cons_zero, List.set_cons_succ]
        refine held_step (i := 22) (.string A) rfl (by kernel_rfl) (by rfl) (fun K hK => ?_) (fun wG3 hG3 => ?_)
        · go_simp
          refine (KA.out _ hG2.1).mono ?_
          rintro e w2 ⟨rfl, hS2⟩
          exact hK _ (HK.out _ hS2)
        simp only [Act.put, List.setIfInBounds_toArray, List.set_cons_zero, List.set_cons_succ]
        refine held_take (i := 23) (.int .i64 (A.size : Int)) rfl (by kernel_rfl) (by kernel_rfl) (by kernel_rfl) (by rfl) (fun w hSw => by obtain ⟨_, k1, k2⟩ := hSw; go_simp) (by exact hG3) ?_
        simp only [Act.put, List.setIfInBounds_toArray, List.set_cons_zero, List.set_cons_succ]
        refine held_take (i := 24) (.int .i64 ((A.size : Int) + 2)) rfl (by kernel_rfl) (by kernel_rfl) (by kernel_rfl) (by rfl) (fun w hSw => by obtain ⟨_, k1, k2⟩ := hSw; go_simp) (by exact hG3) ?_
        simp only [Act.put, List.setIfInBounds_toArray, List.set_cons_zero, List.set_cons_succ]
        refine held_take (i := 25) (.bool false) rfl (by kernel_rfl) (by kernel_rfl) (by kernel_rfl) (by rfl) (fun w hSw => by obtain ⟨_, k1, k2⟩ := hSw; go_simp) (by exact hG3) ?_
        simp only [Act.put, List.setIfInBounds_toArray, List.set_cons_zero, List.set_cons_succ]
        refine held_take (i := 26) (.bool false) rfl (by kernel_rfl) (by kernel_rfl) (by kernel_rfl) (by rfl) (fun w hSw => by obtain ⟨_, k1, k2⟩ := hSw; go_simp) (by exact hG3) ?_
        simp only [Act.put, List.setIfInBounds_toArray, List.set_cons_zero, List.set_cons_succ]
        refine held_take (i := 27) (.bool false) rfl (by kernel_rfl) (by kernel_rfl) (by kernel_rfl) (by rfl) (fun w hSw => by obtain ⟨_, k1, k2⟩ := hSw; go_simp) (by exact hG3) ?_
        simp only [Act.put, List.setIfInBounds_toArray, List.set_cons_zero, List.set_cons_succ]
        refine held_take (i := 28) (.bool false) rfl (by kernel_rfl) (by kernel_rfl) (by kernel_rfl) (by rfl) (fun w hSw => by obtain ⟨_, k1, k2⟩ := hSw; go_simp) (by exact hG3) ?_
        simp only [Act.put, List.setIfInBounds_toArray, List.set_cons_zero, List.set_cons_succ]
        refine held_take (i := 29) (.bool false) rfl (by kernel_rfl) (by kernel_rfl) (by kernel_rfl) (by rfl) (fun w hSw => by obtain ⟨_, k1, k2⟩ := hSw; go_simp) (by exact hG3) ?_
        simp only [Act.put, List.setIfInBounds_toArray, List.set_cons_zero, List.set_cons_succ]
        refine held_take (i := 30) (.bool true) rfl (by kernel_rfl) (by kernel_rfl) (by kernel_rfl) (by rfl) (fun w hSw => by obtain ⟨_, k1, k2⟩ := hSw; go_simp) (by exact hG3) ?_
        simp only [Act.put, List.setIfInBounds_toArray, List.set_cons_zero, List.set_cons_succ]
        refine held_take (i := 31) (.bool true) rfl (by kernel_rfl) (by kernel_rfl) (by kernel_rfl) (by rfl) (fun w hSw => by obtain ⟨_, k1, k2⟩ := hSw; go_simp) (by exact hG3) ?_
        simp only [Act.put, List.setIfInBounds_toArray, List.set_cons_zero, List.set_cons_succ]
        refine held_take (i := 32) (.slice (some ⟨g2, 0, none⟩) n c2) rfl (by kernel_rfl) (by kernel_rfl) (by kernel_rfl) (by rfl) (fun w hSw => by obtain ⟨_, k1, k2⟩ := hSw; go_simp) (by exact hG3) ?_
        simp only [Act.put, List.setIfInBounds_toArray, List.set_cons_zero, List.set_cons_succ]
        refine held_take (i := 33) (.int .i64 (j : Int)) rfl (by kernel_rfl) (by kernel_rfl) (by kernel_rfl) (by rfl) (fun w hSw => by obtain ⟨_, k1, k2⟩ := hSw; go_simp) (by exact hG3) ?_
        simp only [Act.put, List.setIfInBounds_toArray, List.set_cons_zero, List.set_cons_succ]
        refine held_take (i := 34) (.pointer (some ⟨g2, j, none⟩)) rfl (by kernel_rfl) (by kernel_rfl) (by kernel_rfl) (by rfl) (fun w hSw => by obtain ⟨_, k1, k2⟩ := hSw; go_simp) (by exact hG3) ?_
        simp only [Act.put, List.setIfInBounds_toArray, List.set_cons_zero, List.set_cons_succ]
        refine held_take (i := 35) (.string A) rfl (by kernel_rfl) (by kernel_rfl) (by kernel_rfl) (by rfl) (fun w hSw => by obtain ⟨_, k1, k2⟩ := hSw; go_simp) (by exact hG3) ?_
        simp only [Act.put, List.setIfInBounds_toArray, List.set_cons_zero, List.set_cons_succ]
        refine held_take (i := 36) (.slice (some ⟨g1, 0, none⟩) n c1) rfl (by kernel_rfl) (by kernel_rfl) (by kernel_rfl) (by rfl) (fun w hSw => by obtain ⟨_, k1, k2⟩ := hSw; go_simp) (by exact hG3) ?_
        simp only [Act.put, List.setIfInBounds_toArray, List.set_cons_zero, List.set_cons_succ]
        refine held_take (i := 37) (.int .i64 (j : Int)) rfl (by kernel_rfl) (by kernel_rfl) (by kernel_rfl) (by rfl) (fun w hSw => by obtain ⟨_, k1, k2⟩ := hSw; go_simp) (by exact hG3) ?_
        simp only [Act.put, List.setIfInBounds_toArray, List.set_cons_zero, List.set_cons_succ]
        refine held_take (i := 38) (.pointer (some ⟨g1, j, none⟩)) rfl (by kernel_rfl) (by kernel_rfl) (by kernel_rfl) (by rfl) (fun w hSw => by obtain ⟨_, k1, k2⟩ := hSw; go_simp) (by exact hG3) ?_
        simp only [Act.put, List.setIfInBounds_toArray, List.set_cons_zero, List.set_cons_succ]
        refine held_take (i := 39) (.string A) rfl (by kernel_rfl) (by kernel_rfl) (by kernel_rfl) (by rfl) (fun w hSw => by obtain ⟨_, k1, k2⟩ := hSw; go_simp) (by exact hG3) ?_
        simp only [Act.put, List.setIfInBounds_toArray, List.set_cons_zero, List.set_cons_succ]
        refine held_take (i := 40) (.bool false) rfl (by kernel_rfl) (by kernel_rfl) (by kernel_rfl) (by rfl) (fun w hSw => by obtain ⟨_, k1, k2⟩ := hSw; go_simp) (by exact hG3) ?_
        simp only [Act.put, List.setIfInBounds_toArray, List.set_cons_zero, List.set_cons_succ]
        refine held_take (i := 41) (.bool false) rfl (by kernel_rfl) (by kernel_rfl) (by kernel_rfl) (by rfl) (fun w hSw => by obtain ⟨_, k1, k2⟩ := hSw; go_simp) (by exact hG3) ?_
        simp only [Act.put, List.setIfInBounds_toArray, List.set_cons_zero, List.set_cons_succ]
        refine held_take (i := 42) (.bool false) rfl (by kernel_rfl) (by kernel_rfl) (by kernel_rfl) (by rfl) (fun w hSw => by obtain ⟨_, k1, k2⟩ := hSw; go_simp) (by exact hG3) ?_
        simp only [Act.put, List.setIfInBounds_toArray, List.set_cons_zero, List.set_cons_succ]
        refine wpAnyH_done (by kernel_rfl) ?_ _
        refine NoPanic.normal ?_
        have hq1 := hG3.1
        go_wp2_with fail
        go_roundw
        case rel => exact ⟨j + 1, by omega, by go_num, hq1⟩
        case measure => simp [intOf]; omega
    · obtain rfl : j = n := by omega
      go_wp2_with (go_at_call 15; with_reducible refine (hC2 _).mono ?_; rintro e w9 ⟨rfl, hb9⟩)
      go_ret
      exact ⟨rfl, (hst.out.step hb9).bel⟩
end Go.Proofs.Ytpoimbhfggkiiaa
