/- Reader.List and Reader.Nums. -/
import Derived.Test.YtbaddpkeaealpaaText
import Derived.Test.YtbaddpkeaealpaaHas
import Derived.Deep.DeepCutAuto
namespace Go.Proofs.Ytbaddpkeaealpaa
open Go.ChangeShapes Go.WideShapes Go.ChangeAt Go.RowKit

theorem info9 : (Try.prog.info? 9).map (fun i => (i.zero, i.size, i.bytes)) = some (some (.string ⟨#[]⟩), 1, 16) := by kernel_rfl
theorem info3 : (Try.prog.info? 3).map (fun i => (i.zero, i.size, i.bytes)) = some (some (.int .i64 0), 1, 8) := by kernel_rfl
theorem grown_far {w w1 w2 : World} {row row2 : Option Nat} (h : w.grownBy w1 row) (k : w1.grownBy w2 row2) (hf : ∀ j, row2 = some j → w.heap.size ≤ j) : w.grownBy w2 row :=
  ⟨k.os.trans h.os, k.tape.trans h.tape, k.output.trans h.output, Nat.le_trans h.size k.size, fun i hi hne => (k.block i (Nat.lt_of_lt_of_le hi h.size) (fun e => by have := hf i e.symm; omega)).trans (h.block i hi hne)⟩
theorem strV_one (l : List (List UInt8)) : ∀ u ∈ l.map strV, u.oneCell' = true := by
  intro u hu
  obtain ⟨c, _, rfl⟩ := List.mem_map.1 hu
  rfl
theorem intV_one (l : List Int) : ∀ u ∈ l.map intV, u.oneCell' = true := by
  intro u hu
  obtain ⟨c, _, rfl⟩ := List.mem_map.1 hu
  rfl
theorem own_ne {w : World} {base e n : Nat} {v : Value} {xs : List Value} {b : Nat} (h : w.ownsRow base e 1 v n xs) (hb : b < base) : v.ownBlock = none ∨ v.ownBlock ≠ some b := by
  refine Or.inr fun e => ?_
  have := (h.lt b e).1
  omega
theorem intP_len (s : RS) : (intP s).2.1.length ≤ s.1.length := (numP_len s).1
theorem many_step {A : Type} {f : RS → A × RS} {n k : Nat} {acc : List A} {st : RS} {R : List A × RS} (hk : k < n) (h : manyP f (n - k) acc st = R) (hf : (f st).2.2 = false) : manyP f (n - (k + 1)) (acc ++ [(f st).1]) (f st).2 = R := by
  rw [show n - k = (n - (k + 1)) + 1 by omega, manyP, if_neg (by rw [hf]; decide)] at h
  exact h
theorem many_stop {A : Type} {f : RS → A × RS} {n k : Nat} {acc : List A} {st : RS} {R : List A × RS} (hk : k < n) (h : manyP f (n - k) acc st = R) (hf : (f st).2.2 = true) : R = ([], (f st).2) := by
  rw [show n - k = (n - (k + 1)) + 1 by omega, manyP, if_pos hf] at h
  exact h.symm
theorem many_end {A : Type} {f : RS → A × RS} {n : Nat} {acc : List A} {st : RS} {R : List A × RS} (h : manyP f (n - n) acc st = R) : R = (acc, st) := by
  rw [Nat.sub_self, manyP] at h; exact h.symm
theorem all_high {A : Type} {f : RS → A × RS} {s : RS} (h : (numP s).2.1.length < (numP s).1) : allP f s = ([], bad) := by rw [allP, if_pos h]
theorem all_go {A : Type} {f : RS → A × RS} {s : RS} (h : ¬ (numP s).2.1.length < (numP s).1) : allP f s = manyP f (numP s).1 [] (numP s).2 := by rw [allP, if_neg h]

set_option maxRecDepth 100000 in
theorem declist_all {b : Nat} {s : RS} {w : World} (h : Rd 57 w b s) (hs : s.1.length ≤ 1000000000000) :
    Calls Try.prog 46 #[.pointer (some ⟨b, 0, none⟩), .func (.func 23) #[.pointer (some ⟨b, 0, none⟩)] #[]] w fun e w' => ∃ v, e = .returned v ∧ w'.ownsRow w.heap.size 9 1 v (allP textP s).1.length ((allP textP s).1.map strV) ∧ Rd 57 w' b (allP textP s).2 ∧ w.grownBy w' (some b) := by
  obtain ⟨i0, hi, hz0, hz1, hz2⟩ := info_parts info9
  have hb := h.lt
  have HN := Lib.hid (num_any h)
  have HL := Lib.hid (numP_len s)
  clear h
  obtain ⟨n, hn⟩ : ∃ n, n = (numP s).1 := ⟨_, rfl⟩
  obtain ⟨s1, hs1⟩ : ∃ s1, s1 = (numP s).2 := ⟨_, rfl⟩
  have hs1l : s1.1.length ≤ 1000000000000 := by rw [hs1]; exact Nat.le_trans HL.out.1 hs
  rw [← hn, ← hs1] at HN
  by_cases hgt : s1.1.length < n
  · have HP := Lib.hid (all_high (f := textP) (s := s) (by rw [← hn, ← hs1]; exact hgt))
    clear hn hs1
    have hgt' : (s1.1.length : Int) < (n : Int) := by omega
    go_enter Try.func46, Try.ntmps46
    go_wp2_with fail
    refine HN.out.mono ?_
    rintro e w1 ⟨rfl, h1, g1⟩
    have c0 := h1.cell0
    go_wp2_with fail
    refine (fail_any h1).mono ?_
    rintro e w2 ⟨rfl, h2, g2⟩
    go_wp2_with fail
    go_ret
    rw [HP.out]
    exact ⟨_, rfl, World.ownsRow_nil _ _ _ _, h2, grown_trans g1 g2⟩
  · obtain ⟨R, hR⟩ : ∃ R, allP textP s = R := ⟨_, rfl⟩
    rw [hR]
    rw [all_go (by rw [← hn, ← hs1]; exact hgt), ← hn, ← hs1] at hR
    have HR := Lib.hid hR
    clear hn hs1 hR
    have hgt' : ¬ (s1.1.length : Int) < (n : Int) := by omega
    have hnl : n ≤ 1000000000000 := by omega
    clear HL hs
    go_enter Try.func46, Try.ntmps46
    go_wp2_with fail
    refine HN.out.mono ?_
    rintro e w1 ⟨rfl, h1, g1⟩
    have c0 := h1.cell0
    go_wp2_with fail
    go_loopw [6, 20] (fun u i wr => ∃ (k : Nat) (acc : List (List UInt8)) (st : RS), k ≤ n ∧ i = .int .i64 k ∧ acc.length = k ∧ Hid (wr.ownsRow w.heap.size 9 1 u acc.length (acc.map strV)) ∧ Hid (Rd 57 wr b st) ∧ Hid (manyP textP (n - k) acc st = R) ∧ Hid (w.grownBy wr (some b)))
      (fun _ i _ => n - (intOf i).toNat)
    case atStart => exact ⟨0, [], s1, Nat.zero_le _, rfl, rfl, World.ownsRow_nil _ _ _ _, h1, HR.out, g1⟩
    case round =>
      clear c0 h1 g1
      obtain ⟨k, acc, st, hk, rfl, hacc, hown, hst, hm, hgr⟩ := hrel
      by_cases hlt : k < n
      · go_wp2_with fail
        refine (text_any hst.out).mono ?_
        rintro e w2 ⟨rfl, h2, g2⟩
        have c1 := h2.cell1
        have hown2 := hown.out.kept g2 (own_ne hown.out hb)
        have hgr2 := grown_trans hgr.out g2
        cases hf : (textP st).2.2 with
        | true =>
          have c1' : w2.cell? ⟨b, 1, none⟩ = some (.bool true) := by rw [← hf]; exact c1
          have HM := Lib.hid (many_stop hlt hm.out hf)
          have H2 := Lib.hid h2
          clear c1 hf h2
          go_wp2_with fail
          go_ret
          rw [HM.out]
          exact ⟨_, rfl, World.ownsRow_nil _ _ _ _, H2.out, hgr2⟩
        | false =>
          have c1' : w2.cell? ⟨b, 1, none⟩ = some (.bool false) := by rw [← hf]; exact c1
          have HM := Lib.hid (many_step hlt hm.out hf)
          have H2 := Lib.hid h2
          have hsz := hgr2.size
          clear c1 hf h2
          go_wp2_with (at_builtin; (refine wpList_append_own _ rfl (.tmp 28) (.tmp 30) 22 rfl w.heap.size 9 i0 (.string ⟨#[]⟩) 1 16 Try.underlying22 hi hz0 hz1 hz2 rfl (by decide) _ acc.length (acc.map strV) rfl (hown2.alloc _) ⟨w2.heap.size, 0, none⟩ 1 1 ([(textP st).1].map strV) rfl rfl (cells_new strV _ _ [(textP st).1]) (strV_one _) (by unfold maxLen; omega) (by omega) (by simp; omega) ?_; intro v3 w3 hown3 hgrow3 hnil3))
          go_roundw
          case rel =>
            refine ⟨k + 1, acc ++ [(textP st).1], (textP st).2, by omega, by go_num, by simp [hacc], ?_, ?_, HM.out, ?_⟩
            · have e1 : (acc ++ [(textP st).1]).length = acc.length + 1 := List.length_append
              have e2 : (acc ++ [(textP st).1]).map strV = acc.map strV ++ [(textP st).1].map strV := List.map_append
              show w3.ownsRow _ _ _ _ _ _
              rw [e1, e2]; exact hown3
            · have g3 := World.grownBy_alloc w2 (.cells #[strV (textP st).1] 9) (some b)
              exact (H2.out.kept (World.grownBy_alloc w2 (.cells #[strV (textP st).1] 9) none) (by simp)).kept hgrow3 (fun e => by have := (hown2.lt b e.symm).1; omega)
            · exact grown_far (grown_far hgr2 (World.grownBy_alloc w2 (.cells #[strV (textP st).1] 9) none) (fun j hj => by cases hj)) hgrow3 (fun j hj => (hown2.lt j hj).1)
          case measure => simp [intOf]; omega
      · obtain rfl : k = n := by omega
        have HM := Lib.hid (many_end hm.out)
        go_wp2_with fail
        go_ret
        rw [HM.out]
        exact ⟨_, rfl, hown.out, hst.out, hgr.out⟩
theorem declist_any {b : Nat} {s : RS} {w : World} (h : Rd 57 w b s) (hs : s.1.length ≤ 1000000000000) :
    Calls Try.prog 26 #[.pointer (some ⟨b, 0, none⟩)] w fun e w' => ∃ v, e = .returned v ∧ Has strV w' v (allP textP s).1 ∧ (∀ k, blk v = some k → w.heap.size ≤ k) ∧ Rd 57 w' b (allP textP s).2 ∧ w.grownBy w' (some b) := by
  have HH := Lib.hid (declist_all h hs)
  clear h
  go_enter Try.func26, Try.ntmps26
  go_wp2_with fail
  refine HH.out.mono ?_
  rintro e w1 ⟨v, rfl, h1, h2, h3⟩
  go_wp2_with fail
  go_ret
  exact ⟨v, rfl, (Has.of_own h1).1, (Has.of_own h1).2, h2, h3⟩

set_option maxRecDepth 100000 in
theorem decnums_all {b : Nat} {s : RS} {w : World} (h : Rd 57 w b s) (hs : s.1.length ≤ 1000000000000) :
    Calls Try.prog 47 #[.pointer (some ⟨b, 0, none⟩), .func (.func 21) #[.pointer (some ⟨b, 0, none⟩)] #[]] w fun e w' => ∃ v, e = .returned v ∧ w'.ownsRow w.heap.size 3 1 v (allP intP s).1.length ((allP intP s).1.map intV) ∧ Rd 57 w' b (allP intP s).2 ∧ w.grownBy w' (some b) := by
  obtain ⟨i0, hi, hz0, hz1, hz2⟩ := info_parts info3
  have hb := h.lt
  have HN := Lib.hid (num_any h)
  have HL := Lib.hid (numP_len s)
  clear h
  obtain ⟨n, hn⟩ : ∃ n, n = (numP s).1 := ⟨_, rfl⟩
  obtain ⟨s1, hs1⟩ : ∃ s1, s1 = (numP s).2 := ⟨_, rfl⟩
  have hs1l : s1.1.length ≤ 1000000000000 := by rw [hs1]; exact Nat.le_trans HL.out.1 hs
  rw [← hn, ← hs1] at HN
  by_cases hgt : s1.1.length < n
  · have HP := Lib.hid (all_high (f := intP) (s := s) (by rw [← hn, ← hs1]; exact hgt))
    clear hn hs1
    have hgt' : (s1.1.length : Int) < (n : Int) := by omega
    go_enter Try.func47, Try.ntmps47
    go_wp2_with fail
    refine HN.out.mono ?_
    rintro e w1 ⟨rfl, h1, g1⟩
    have c0 := h1.cell0
    go_wp2_with fail
    refine (fail_any h1).mono ?_
    rintro e w2 ⟨rfl, h2, g2⟩
    go_wp2_with fail
    go_ret
    rw [HP.out]
    exact ⟨_, rfl, World.ownsRow_nil _ _ _ _, h2, grown_trans g1 g2⟩
  · obtain ⟨R, hR⟩ : ∃ R, allP intP s = R := ⟨_, rfl⟩
    rw [hR]
    rw [all_go (by rw [← hn, ← hs1]; exact hgt), ← hn, ← hs1] at hR
    have HR := Lib.hid hR
    clear hn hs1 hR
    have hgt' : ¬ (s1.1.length : Int) < (n : Int) := by omega
    have hnl : n ≤ 1000000000000 := by omega
    clear HL hs
    go_enter Try.func47, Try.ntmps47
    go_wp2_with fail
    refine HN.out.mono ?_
    rintro e w1 ⟨rfl, h1, g1⟩
    have c0 := h1.cell0
    go_wp2_with fail
    go_loopw [6, 20] (fun u i wr => ∃ (k : Nat) (acc : List Int) (st : RS), k ≤ n ∧ i = .int .i64 k ∧ acc.length = k ∧ Hid (wr.ownsRow w.heap.size 3 1 u acc.length (acc.map intV)) ∧ Hid (Rd 57 wr b st) ∧ Hid (manyP intP (n - k) acc st = R) ∧ Hid (w.grownBy wr (some b)))
      (fun _ i _ => n - (intOf i).toNat)
    case atStart => exact ⟨0, [], s1, Nat.zero_le _, rfl, rfl, World.ownsRow_nil _ _ _ _, h1, HR.out, g1⟩
    case round =>
      clear c0 h1 g1
      obtain ⟨k, acc, st, hk, rfl, hacc, hown, hst, hm, hgr⟩ := hrel
      by_cases hlt : k < n
      · go_wp2_with fail
        refine (num_any hst.out).mono ?_
        rintro e w2 ⟨rfl, h2, g2⟩
        have c1 := h2.cell1
        have hown2 := hown.out.kept g2 (own_ne hown.out hb)
        have hgr2 := grown_trans hgr.out g2
        cases hf : (intP st).2.2 with
        | true =>
          have c1' : w2.cell? ⟨b, 1, none⟩ = some (.bool true) := by rw [← hf]; exact c1
          have HM := Lib.hid (many_stop hlt hm.out hf)
          have H2 := Lib.hid h2
          clear c1 hf h2
          go_wp2_with fail
          go_ret
          rw [HM.out]
          exact ⟨_, rfl, World.ownsRow_nil _ _ _ _, H2.out, hgr2⟩
        | false =>
          have c1' : w2.cell? ⟨b, 1, none⟩ = some (.bool false) := by rw [← hf]; exact c1
          have HM := Lib.hid (many_step hlt hm.out hf)
          have H2 := Lib.hid h2
          have hsz := hgr2.size
          clear c1 hf h2
          go_wp2_with (at_builtin; (refine wpList_append_own _ rfl (.tmp 28) (.tmp 30) 23 rfl w.heap.size 3 i0 (.int .i64 0) 1 8 Try.underlying23 hi hz0 hz1 hz2 rfl (by decide) _ acc.length (acc.map intV) rfl (hown2.alloc _) ⟨w2.heap.size, 0, none⟩ 1 1 ([(intP st).1].map intV) rfl rfl (cells_new intV _ _ [(intP st).1]) (intV_one _) (by unfold maxLen; omega) (by omega) (by simp; omega) ?_; intro v3 w3 hown3 hgrow3 hnil3))
          go_roundw
          case rel =>
            refine ⟨k + 1, acc ++ [(intP st).1], (intP st).2, by omega, by go_num, by simp [hacc], ?_, ?_, HM.out, ?_⟩
            · have e1 : (acc ++ [(intP st).1]).length = acc.length + 1 := List.length_append
              have e2 : (acc ++ [(intP st).1]).map intV = acc.map intV ++ [(intP st).1].map intV := List.map_append
              show w3.ownsRow _ _ _ _ _ _
              rw [e1, e2]; exact hown3
            · have g3 := World.grownBy_alloc w2 (.cells #[intV (intP st).1] 3) (some b)
              exact (H2.out.kept (World.grownBy_alloc w2 (.cells #[intV (intP st).1] 3) none) (by simp)).kept hgrow3 (fun e => by have := (hown2.lt b e.symm).1; omega)
            · exact grown_far (grown_far hgr2 (World.grownBy_alloc w2 (.cells #[intV (intP st).1] 3) none) (fun j hj => by cases hj)) hgrow3 (fun j hj => (hown2.lt j hj).1)
          case measure => simp [intOf]; omega
      · obtain rfl : k = n := by omega
        have HM := Lib.hid (many_end hm.out)
        go_wp2_with fail
        go_ret
        rw [HM.out]
        exact ⟨_, rfl, hown.out, hst.out, hgr.out⟩
theorem decnums_any {b : Nat} {s : RS} {w : World} (h : Rd 57 w b s) (hs : s.1.length ≤ 1000000000000) :
    Calls Try.prog 29 #[.pointer (some ⟨b, 0, none⟩)] w fun e w' => ∃ v, e = .returned v ∧ Has intV w' v (allP intP s).1 ∧ (∀ k, blk v = some k → w.heap.size ≤ k) ∧ Rd 57 w' b (allP intP s).2 ∧ w.grownBy w' (some b) := by
  have HH := Lib.hid (decnums_all h hs)
  clear h
  go_enter Try.func29, Try.ntmps29
  go_wp2_with fail
  refine HH.out.mono ?_
  rintro e w1 ⟨v, rfl, h1, h2, h3⟩
  go_wp2_with fail
  go_ret
  exact ⟨v, rfl, (Has.of_own h1).1, (Has.of_own h1).2, h2, h3⟩
end Go.Proofs.Ytbaddpkeaealpaa
