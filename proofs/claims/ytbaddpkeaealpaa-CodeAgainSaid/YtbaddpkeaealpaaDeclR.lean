/- The reference's Reader.List and Reader.Nums. -/
import Derived.Test.YtbaddpkeaealpaaDecl
namespace Go.Proofs.Ytbaddpkeaealpaa
open Go.ChangeShapes Go.WideShapes Go.ChangeAt Go.RowKit


set_option maxRecDepth 100000 in
theorem declistR_all {b : Nat} {s : RS} {w : World} (h : Rd 59 w b s) (hs : s.1.length ≤ 1000000000000) (hg : Good s) :
    Calls Try.prog 27 #[.pointer (some ⟨b, 0, none⟩)] w fun e w' => ∃ v, e = .returned v ∧ w'.ownsRow w.heap.size 9 1 v (allP textP s).1.length ((allP textP s).1.map strV) ∧ Rd 59 w' b (allP textP s).2 ∧ w.grownBy w' (some b) := by
  obtain ⟨i0, hi, hz0, hz1, hz2⟩ := info_parts info9
  have hb := h.lt
  have HN := Lib.hid (numR_any h (by omega))
  have HL := Lib.hid (numP_len s)
  have HG := Lib.hid (numP_good hg)
  clear h hg
  obtain ⟨n, hn⟩ : ∃ n, n = (numP s).1 := ⟨_, rfl⟩
  obtain ⟨s1, hs1⟩ : ∃ s1, s1 = (numP s).2 := ⟨_, rfl⟩
  have hs1l : s1.1.length ≤ 1000000000000 := by rw [hs1]; exact Nat.le_trans HL.out.1 hs
  rw [← hn, ← hs1] at HN
  rw [← hs1] at HG
  by_cases hgt : s1.1.length < n
  · have HP := Lib.hid (all_high (f := textP) (s := s) (by rw [← hn, ← hs1]; exact hgt))
    clear hn hs1
    have hgt' : (s1.1.length : Int) < (n : Int) := by omega
    go_enter Try.func27, Try.ntmps27
    go_wp2_with fail
    refine HN.out.mono ?_
    rintro e w1 ⟨rfl, h1, g1⟩
    have c0 := h1.cell0
    go_wp2_with fail
    refine (failR_any h1).mono ?_
    rintro e w2 ⟨rfl, h2, g2⟩
    go_wp2_with fail
    go_ret
    rw [HP.out]
    exact ⟨_, rfl, World.ownsRow_nil _ _ _ _, h2, grown_trans g1 g2⟩
  · obtain ⟨R, hR⟩ : ∃ R, allP textP s = R := ⟨_, rfl⟩
    rw [hR]
    rw [all_go (by rw [← hn, ← hs1]; exact hgt), ← hn, ← hs1] at hR
    have HR := Lib.hid hR
    clear hn hs1 hR
    have hgt' : ¬ (s1.1.length : Int) < (n : Int) := by omega
    have hnl : n ≤ 1000000000000 := by omega
    clear HL hs
    go_enter Try.func27, Try.ntmps27
    go_wp2_with fail
    refine HN.out.mono ?_
    rintro e w1 ⟨rfl, h1, g1⟩
    have c0 := h1.cell0
    go_wp2_with fail
    go_loopw [4, 5] (fun u i wr => ∃ (k : Nat) (acc : List (List UInt8)) (st : RS), k ≤ n ∧ i = .int .i64 k ∧ acc.length = k ∧ Hid (wr.ownsRow w.heap.size 9 1 u acc.length (acc.map strV)) ∧ Hid (Rd 59 wr b st) ∧ Hid (manyP textP (n - k) acc st = R) ∧ Hid (w.grownBy wr (some b)) ∧ Hid (Good st) ∧ st.1.length ≤ 1000000000000)
      (fun _ i _ => n - (intOf i).toNat)
    case atStart => exact ⟨0, [], s1, Nat.zero_le _, rfl, rfl, World.ownsRow_nil _ _ _ _, h1, HR.out, g1, HG.out, hs1l⟩
    case round =>
      clear c0 h1 g1
      obtain ⟨k, acc, st, hk, rfl, hacc, hown, hst, hm, hgr, hgd, hstl⟩ := hrel
      by_cases hlt : k < n
      · go_wp2_with fail
        refine (textR_any hst.out (by omega) hgd.out).mono ?_
        rintro e w2 ⟨rfl, h2, g2⟩
        have c1 := h2.cell1
        have hown2 := hown.out.kept g2 (own_ne hown.out hb)
        have hgr2 := grown_trans hgr.out g2
        have hsz := hgr2.size
        have H2 := Lib.hid h2
        cases hf : (textP st).2.2 with
        | true =>
          have HM := Lib.hid (many_stop hlt hm.out hf)
          have HF := Lib.hid hf
          clear c1 hf h2
          go_wp2_with (at_builtin; (refine wpList_append_own _ rfl (.tmp 22) (.tmp 25) 22 rfl w.heap.size 9 i0 (.string ⟨#[]⟩) 1 16 Try.underlying22 hi hz0 hz1 hz2 rfl (by decide) _ acc.length (acc.map strV) rfl (hown2.alloc _) ⟨w2.heap.size, 0, none⟩ 1 1 ([(textP st).1].map strV) rfl rfl (cells_new strV _ _ [(textP st).1]) (strV_one _) (by unfold maxLen; omega) (by omega) (by simp; omega) ?_; intro v3 w3 hown3 hgrow3 hnil3; have h3 := Lib.hid ((H2.out.kept (World.grownBy_alloc w2 (.cells #[strV (textP st).1] 9) none) (by simp)).kept hgrow3 (fun e => by have := (hown2.lt b e.symm).1; omega)); have c1 : w3.cell? ⟨b, 1, none⟩ = some (.bool true) := (by rw [← HF.out]; exact h3.out.cell1)))
          go_ret
          rw [HM.out]
          exact ⟨_, rfl, World.ownsRow_nil _ _ _ _, h3.out, grown_far (grown_far hgr2 (World.grownBy_alloc w2 (.cells #[strV (textP st).1] 9) none) (fun j hj => by cases hj)) hgrow3 (fun j hj => (hown2.lt j hj).1)⟩
        | false =>
          have HM := Lib.hid (many_step hlt hm.out hf)
          have HF := Lib.hid hf
          clear c1 hf h2
          go_wp2_with (at_builtin; (refine wpList_append_own _ rfl (.tmp 22) (.tmp 25) 22 rfl w.heap.size 9 i0 (.string ⟨#[]⟩) 1 16 Try.underlying22 hi hz0 hz1 hz2 rfl (by decide) _ acc.length (acc.map strV) rfl (hown2.alloc _) ⟨w2.heap.size, 0, none⟩ 1 1 ([(textP st).1].map strV) rfl rfl (cells_new strV _ _ [(textP st).1]) (strV_one _) (by unfold maxLen; omega) (by omega) (by simp; omega) ?_; intro v3 w3 hown3 hgrow3 hnil3; have h3 := Lib.hid ((H2.out.kept (World.grownBy_alloc w2 (.cells #[strV (textP st).1] 9) none) (by simp)).kept hgrow3 (fun e => by have := (hown2.lt b e.symm).1; omega)); have c1 : w3.cell? ⟨b, 1, none⟩ = some (.bool false) := (by rw [← HF.out]; exact h3.out.cell1)))
          go_roundw
          case rel =>
            refine ⟨k + 1, acc ++ [(textP st).1], (textP st).2, by omega, by go_num, by simp [hacc], ?_, h3, HM.out, ?_, textP_good hgd.out, Nat.le_trans (textP_len st).1 hstl⟩
            · have e1 : (acc ++ [(textP st).1]).length = acc.length + 1 := List.length_append
              have e2 : (acc ++ [(textP st).1]).map strV = acc.map strV ++ [(textP st).1].map strV := List.map_append
              show w3.ownsRow _ _ _ _ _ _
              rw [e1, e2]; exact hown3
            · exact grown_far (grown_far hgr2 (World.grownBy_alloc w2 (.cells #[strV (textP st).1] 9) none) (fun j hj => by cases hj)) hgrow3 (fun j hj => (hown2.lt j hj).1)
          case measure => simp [intOf]; omega
      · obtain rfl : k = n := by omega
        have HM := Lib.hid (many_end hm.out)
        go_wp2_with fail
        go_ret
        rw [HM.out]
        exact ⟨_, rfl, hown.out, hst.out, hgr.out⟩
theorem declistR_any {b : Nat} {s : RS} {w : World} (h : Rd 59 w b s) (hs : s.1.length ≤ 1000000000000) (hg : Good s) :
    Calls Try.prog 27 #[.pointer (some ⟨b, 0, none⟩)] w fun e w' => ∃ v, e = .returned v ∧ Has strV w' v (allP textP s).1 ∧ (∀ k, blk v = some k → w.heap.size ≤ k) ∧ Rd 59 w' b (allP textP s).2 ∧ w.grownBy w' (some b) := by
  refine (declistR_all h hs hg).mono ?_
  rintro e w1 ⟨v, rfl, h1, h2, h3⟩
  exact ⟨v, rfl, (Has.of_own h1).1, (Has.of_own h1).2, h2, h3⟩

set_option maxRecDepth 100000 in
theorem decnumsR_all {b : Nat} {s : RS} {w : World} (h : Rd 59 w b s) (hs : s.1.length ≤ 1000000000000) (hg : Good s) :
    Calls Try.prog 30 #[.pointer (some ⟨b, 0, none⟩)] w fun e w' => ∃ v, e = .returned v ∧ w'.ownsRow w.heap.size 3 1 v (allP intP s).1.length ((allP intP s).1.map intV) ∧ Rd 59 w' b (allP intP s).2 ∧ w.grownBy w' (some b) := by
  obtain ⟨i0, hi, hz0, hz1, hz2⟩ := info_parts info3
  have hb := h.lt
  have HN := Lib.hid (numR_any h (by omega))
  have HL := Lib.hid (numP_len s)
  have HG := Lib.hid (numP_good hg)
  clear h hg
  obtain ⟨n, hn⟩ : ∃ n, n = (numP s).1 := ⟨_, rfl⟩
  obtain ⟨s1, hs1⟩ : ∃ s1, s1 = (numP s).2 := ⟨_, rfl⟩
  have hs1l : s1.1.length ≤ 1000000000000 := by rw [hs1]; exact Nat.le_trans HL.out.1 hs
  rw [← hn, ← hs1] at HN
  rw [← hs1] at HG
  by_cases hgt : s1.1.length < n
  · have HP := Lib.hid (all_high (f := intP) (s := s) (by rw [← hn, ← hs1]; exact hgt))
    clear hn hs1
    have hgt' : (s1.1.length : Int) < (n : Int) := by omega
    go_enter Try.func30, Try.ntmps30
    go_wp2_with fail
    refine HN.out.mono ?_
    rintro e w1 ⟨rfl, h1, g1⟩
    have c0 := h1.cell0
    go_wp2_with fail
    refine (failR_any h1).mono ?_
    rintro e w2 ⟨rfl, h2, g2⟩
    go_wp2_with fail
    go_ret
    rw [HP.out]
    exact ⟨_, rfl, World.ownsRow_nil _ _ _ _, h2, grown_trans g1 g2⟩
  · obtain ⟨R, hR⟩ : ∃ R, allP intP s = R := ⟨_, rfl⟩
    rw [hR]
    rw [all_go (by rw [← hn, ← hs1]; exact hgt), ← hn, ← hs1] at hR
    have HR := Lib.hid hR
    clear hn hs1 hR
    have hgt' : ¬ (s1.1.length : Int) < (n : Int) := by omega
    have hnl : n ≤ 1000000000000 := by omega
    clear HL hs
    go_enter Try.func30, Try.ntmps30
    go_wp2_with fail
    refine HN.out.mono ?_
    rintro e w1 ⟨rfl, h1, g1⟩
    have c0 := h1.cell0
    go_wp2_with fail
    go_loopw [4, 5] (fun u i wr => ∃ (k : Nat) (acc : List Int) (st : RS), k ≤ n ∧ i = .int .i64 k ∧ acc.length = k ∧ Hid (wr.ownsRow w.heap.size 3 1 u acc.length (acc.map intV)) ∧ Hid (Rd 59 wr b st) ∧ Hid (manyP intP (n - k) acc st = R) ∧ Hid (w.grownBy wr (some b)) ∧ Hid (Good st) ∧ st.1.length ≤ 1000000000000)
      (fun _ i _ => n - (intOf i).toNat)
    case atStart => exact ⟨0, [], s1, Nat.zero_le _, rfl, rfl, World.ownsRow_nil _ _ _ _, h1, HR.out, g1, HG.out, hs1l⟩
    case round =>
      clear c0 h1 g1
      obtain ⟨k, acc, st, hk, rfl, hacc, hown, hst, hm, hgr, hgd, hstl⟩ := hrel
      by_cases hlt : k < n
      · go_wp2_with fail
        refine (numR_any hst.out (by omega)).mono ?_
        rintro e w2 ⟨rfl, h2, g2⟩
        have c1 := h2.cell1
        have hown2 := hown.out.kept g2 (own_ne hown.out hb)
        have hgr2 := grown_trans hgr.out g2
        have hsz := hgr2.size
        have H2 := Lib.hid h2
        cases hf : (intP st).2.2 with
        | true =>
          have HM := Lib.hid (many_stop hlt hm.out hf)
          have HF := Lib.hid hf
          clear c1 hf h2
          go_wp2_with (at_builtin; (refine wpList_append_own _ rfl (.tmp 22) (.tmp 25) 23 rfl w.heap.size 3 i0 (.int .i64 0) 1 8 Try.underlying23 hi hz0 hz1 hz2 rfl (by decide) _ acc.length (acc.map intV) rfl (hown2.alloc _) ⟨w2.heap.size, 0, none⟩ 1 1 ([(intP st).1].map intV) rfl rfl (cells_new intV _ _ [(intP st).1]) (intV_one _) (by unfold maxLen; omega) (by omega) (by simp; omega) ?_; intro v3 w3 hown3 hgrow3 hnil3; have h3 := Lib.hid ((H2.out.kept (World.grownBy_alloc w2 (.cells #[intV (intP st).1] 3) none) (by simp)).kept hgrow3 (fun e => by have := (hown2.lt b e.symm).1; omega)); have c1 : w3.cell? ⟨b, 1, none⟩ = some (.bool true) := (by rw [← HF.out]; exact h3.out.cell1)))
          go_ret
          rw [HM.out]
          exact ⟨_, rfl, World.ownsRow_nil _ _ _ _, h3.out, grown_far (grown_far hgr2 (World.grownBy_alloc w2 (.cells #[intV (intP st).1] 3) none) (fun j hj => by cases hj)) hgrow3 (fun j hj => (hown2.lt j hj).1)⟩
        | false =>
          have HM := Lib.hid (many_step hlt hm.out hf)
          have HF := Lib.hid hf
          clear c1 hf h2
          go_wp2_with (at_builtin; (refine wpList_append_own _ rfl (.tmp 22) (.tmp 25) 23 rfl w.heap.size 3 i0 (.int .i64 0) 1 8 Try.underlying23 hi hz0 hz1 hz2 rfl (by decide) _ acc.length (acc.map intV) rfl (hown2.alloc _) ⟨w2.heap.size, 0, none⟩ 1 1 ([(intP st).1].map intV) rfl rfl (cells_new intV _ _ [(intP st).1]) (intV_one _) (by unfold maxLen; omega) (by omega) (by simp; omega) ?_; intro v3 w3 hown3 hgrow3 hnil3; have h3 := Lib.hid ((H2.out.kept (World.grownBy_alloc w2 (.cells #[intV (intP st).1] 3) none) (by simp)).kept hgrow3 (fun e => by have := (hown2.lt b e.symm).1; omega)); have c1 : w3.cell? ⟨b, 1, none⟩ = some (.bool false) := (by rw [← HF.out]; exact h3.out.cell1)))
          go_roundw
          case rel =>
            refine ⟨k + 1, acc ++ [(intP st).1], (intP st).2, by omega, by go_num, by simp [hacc], ?_, h3, HM.out, ?_, intP_good hgd.out, Nat.le_trans (intP_len st) hstl⟩
            · have e1 : (acc ++ [(intP st).1]).length = acc.length + 1 := List.length_append
              have e2 : (acc ++ [(intP st).1]).map intV = acc.map intV ++ [(intP st).1].map intV := List.map_append
              show w3.ownsRow _ _ _ _ _ _
              rw [e1, e2]; exact hown3
            · exact grown_far (grown_far hgr2 (World.grownBy_alloc w2 (.cells #[intV (intP st).1] 3) none) (fun j hj => by cases hj)) hgrow3 (fun j hj => (hown2.lt j hj).1)
          case measure => simp [intOf]; omega
      · obtain rfl : k = n := by omega
        have HM := Lib.hid (many_end hm.out)
        go_wp2_with fail
        go_ret
        rw [HM.out]
        exact ⟨_, rfl, hown.out, hst.out, hgr.out⟩
theorem decnumsR_any {b : Nat} {s : RS} {w : World} (h : Rd 59 w b s) (hs : s.1.length ≤ 1000000000000) (hg : Good s) :
    Calls Try.prog 30 #[.pointer (some ⟨b, 0, none⟩)] w fun e w' => ∃ v, e = .returned v ∧ Has intV w' v (allP intP s).1 ∧ (∀ k, blk v = some k → w.heap.size ≤ k) ∧ Rd 59 w' b (allP intP s).2 ∧ w.grownBy w' (some b) := by
  refine (decnumsR_all h hs hg).mono ?_
  rintro e w1 ⟨v, rfl, h1, h2, h3⟩
  exact ⟨v, rfl, (Has.of_own h1).1, (Has.of_own h1).2, h2, h3⟩
end Go.Proofs.Ytbaddpkeaealpaa
