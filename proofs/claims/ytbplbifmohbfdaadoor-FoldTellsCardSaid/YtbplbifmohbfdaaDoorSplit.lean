/- fold.splitPattern: the pieces of a pattern, each a slice in a block of its own. -/
import Derived.Test.YtbplbifmohbfdaaDoorFits
namespace Go.Proofs.YtbplbifmohbfdaaDoor
open Go.ChangeShapes Go.WideShapes Go.ChangeAt Go.RowKit

theorem info24 : (Tryd.prog.info? 24).map (fun i => (i.zero, i.size, i.bytes)) = some (some (.slice none 0 0), 1, 24) := by kernel_rfl
/-- The pieces made so far: d, which are closed, and c, which is open: cv. -/
structure Pcs (w : World) (base gV cap : Nat) (d : List (List (List UInt8))) (c : List (List UInt8)) (cv : Value) (dv : List Value) : Prop where
  out : w.ownsRow base 24 1 (.slice (some ⟨gV, 0, none⟩) (d.length + 1) cap) (d.length + 1) (dv ++ [cv])
  len : dv.length = d.length
  cur : w.ownsRow base 9 1 cv c.length (strsOf c)
  off : cv.ownBlock ≠ some gV
  done : ∀ (i : Nat) (p : List (List UInt8)), d[i]? = some p → ∃ a k, dv[i]? = some (Value.slice a p.length k) ∧ p.length ≤ k ∧ Strs w a p ∧ ∀ g o, a = some ⟨g, o, none⟩ → g < w.heap.size ∧ g ≠ gV ∧ cv.ownBlock ≠ some g
/-- What is read of them later. -/
def PsAt (w : World) (g : Nat) (ps : List (List (List UInt8))) : Prop := ∀ i p, ps[i]? = some p → ∃ a k, w.cell? ⟨g, i, none⟩ = some (.slice a p.length k) ∧ p.length ≤ k ∧ Strs w a p ∧ ∀ g o, a = some ⟨g, o, none⟩ → g < w.heap.size
theorem PsAt.below {w w' : World} {g : Nat} {ps : List (List (List UInt8))} (h : PsAt w g ps) (hb : Below w.heap.size w w') : PsAt w' g ps := by
  intro i p hp
  obtain ⟨a, k, h1, h2, h3, h4⟩ := h i p hp
  exact ⟨a, k, cell_below h1 hb, h2, h3.below hb, fun g o e => Nat.lt_of_lt_of_le (h4 g o e) hb.size⟩
theorem own_slice {w : World} {base : Nat} {v : Value} {c : List (List UInt8)} (h : w.ownsRow base 9 1 v c.length (strsOf c)) : ∃ a k, v = .slice a c.length k ∧ c.length ≤ k ∧ Strs w a c ∧ ∀ g o, a = some ⟨g, o, none⟩ → g < w.heap.size ∧ v.ownBlock = some g := by
  rcases h.2 with ⟨rfl, hn⟩ | ⟨g, cap, cur, rfl, hb, hg, hle, _⟩
  · refine ⟨none, 0, by rw [hn], by omega, ?_, fun g o e => by cases e⟩
    obtain rfl : c = [] := List.eq_nil_of_length_eq_zero hn
    exact strs_nil _ _
  · exact ⟨_, cap, rfl, hle, strs_own h, fun g o e => by cases e; exact ⟨(Array.getElem?_eq_some_iff.1 hg).1, rfl⟩⟩
theorem Pcs.psAt {w : World} {base gV cap : Nat} {d : List (List (List UInt8))} {c : List (List UInt8)} {cv : Value} {dv : List Value} (h : Pcs w base gV cap d c cv dv) : PsAt w gV (d ++ [c]) := by
  intro i p hp
  have hcell : ∀ v, (dv ++ [cv])[i]? = some v → w.cell? ⟨gV, i, none⟩ = some v := by
    intro v hv
    have := h.out.cells (g := gV) rfl i v hv
    rw [add_none, Nat.zero_add] at this
    exact this
  by_cases hi : i < d.length
  · rw [List.getElem?_append_left hi] at hp
    obtain ⟨a, k, h1, h2, h3, h4⟩ := h.done i p hp
    exact ⟨a, k, hcell _ (by rw [List.getElem?_append_left (by rw [h.len]; exact hi)]; exact h1), h2, h3, fun g o e => (h4 g o e).1⟩
  · rw [List.getElem?_append_right (by omega)] at hp
    have hi0 : i = d.length := by
      have := (List.getElem?_eq_some_iff.1 hp).1
      simp at this
      omega
    subst hi0
    rw [Nat.sub_self] at hp
    simp only [List.getElem?_cons_zero, Option.some.injEq] at hp
    subst hp
    obtain ⟨a, k, h1, h2, h3, h4⟩ := own_slice h.cur
    exact ⟨a, k, hcell _ (by rw [List.getElem?_append_right (by rw [h.len]; exact Nat.le_refl _), h.len, Nat.sub_self, h1]; rfl), h2, h3, fun g o e => (h4 g o e).1⟩
/-- A piece more. -/
theorem Pcs.star {w w2 : World} {base gV cap : Nat} {d : List (List (List UInt8))} {c : List (List UInt8)} {cv : Value} {dv : List Value} (h : Pcs w base gV cap d c cv dv) {v2 : Value}
    (hown : w2.ownsRow base 24 1 v2 (d.length + 1 + 1) ((dv ++ [cv]) ++ [.slice none 0 0])) (hg : w.grownBy w2 (some gV)) (hb : v2.ownBlock = some gV ∨ ∃ j, v2.ownBlock = some j ∧ w.heap.size ≤ j) :
    ∃ g' cap', v2 = .slice (some ⟨g', 0, none⟩) (d.length + 1 + 1) cap' ∧ Pcs w2 base g' cap' (d ++ [c]) [] (.slice none 0 0) (dv ++ [cv]) := by
  have hlen : (d ++ [c]).length = d.length + 1 := by simp
  rcases hown.2 with ⟨_, h0⟩ | ⟨g', cap', cur, rfl, r⟩
  · omega
  · refine ⟨g', cap', rfl, ?_, ?_, ?_, ?_, ?_⟩
    · rw [hlen]; exact hown
    · rw [hlen, List.length_append, h.len]; rfl
    · exact World.ownsRow_nil _ _ _ _
    · simp [Value.ownBlock]
    · have hne : ∀ g, g < w.heap.size → g ≠ gV → g ≠ g' := by
        intro g h1 h2 e
        rcases hb with hb | ⟨j, hb, hj⟩
        · simp [Value.ownBlock] at hb; omega
        · simp [Value.ownBlock] at hb; omega
      intro i p hp
      by_cases hi : i < d.length
      · rw [List.getElem?_append_left hi] at hp
        obtain ⟨a, k, h1, h2, h3, h4⟩ := h.done i p hp
        refine ⟨a, k, by rw [List.getElem?_append_left (by rw [h.len]; exact hi)]; exact h1, h2, h3.grown hg (fun g o e e2 => ?_), fun g o e => ?_⟩
        · have := (h4 g o e).2.1
          injection e2 with e2
          omega
        · have := h4 g o e
          exact ⟨Nat.lt_of_lt_of_le this.1 hg.size, hne g this.1 this.2.1, by simp [Value.ownBlock]⟩
      · rw [List.getElem?_append_right (by omega)] at hp
        have hi0 : i = d.length := by
          have := (List.getElem?_eq_some_iff.1 hp).1
          simp at this
          omega
        subst hi0
        rw [Nat.sub_self] at hp
        simp only [List.getElem?_cons_zero, Option.some.injEq] at hp
        subst hp
        obtain ⟨a, k, h1, h2, h3, h4⟩ := own_slice h.cur
        have ho := h.off
        refine ⟨a, k, by rw [List.getElem?_append_right (by rw [h.len]; exact Nat.le_refl _), h.len, Nat.sub_self, h1]; rfl, h2, h3.grown hg (fun g o e e2 => ?_), fun g o e => ?_⟩
        · have := (h4 g o e).2
          rw [this] at ho
          exact ho e2.symm
        · have := h4 g o e
          rw [this.2] at ho
          exact ⟨Nat.lt_of_lt_of_le this.1 hg.size, hne g this.1 (fun e => ho (by rw [e])), by simp [Value.ownBlock]⟩
/-- A unit more in the last piece. -/
theorem Pcs.push {w w2 : World} {base gV cap : Nat} {d : List (List (List UInt8))} {c : List (List UInt8)} {cv : Value} {dv : List Value} (h : Pcs w base gV cap d c cv dv) {v2 : Value} (x : List UInt8)
    (hown : w2.ownsRow base 9 1 v2 (c.length + 1) (strsOf c ++ strsOf [x])) (hg : w.grownBy w2 cv.ownBlock) (hb : v2.ownBlock = cv.ownBlock ∨ ∃ j, v2.ownBlock = some j ∧ w.heap.size ≤ j) :
    Pcs (w2.setCell ⟨gV, d.length, none⟩ v2) base gV cap d (c ++ [x]) v2 dv := by
  have hgV : gV < w.heap.size := (h.out.lt gV rfl).2
  have hoff2 : v2.ownBlock ≠ some gV := by
    rcases hb with hb | ⟨j, hb, hj⟩
    · rw [hb]; exact h.off
    · rw [hb]; intro e; injection e with e; omega
  have hout : w2.ownsRow base 24 1 (.slice (some ⟨gV, 0, none⟩) (d.length + 1) cap) (d.length + 1) (dv ++ [cv]) := h.out.kept hg (.inr (fun e => h.off e.symm))
  refine ⟨?_, h.len, ?_, hoff2, ?_⟩
  · have := (hout.stored d.length v2).1
    rw [List.set_append_right _ _ (by rw [h.len]; exact Nat.le_refl _), h.len, Nat.sub_self] at this
    exact this
  · refine ownsRow_setCell_other ?_ hoff2 _
    rw [List.length_append]
    unfold strsOf at hown ⊢
    rw [List.map_append]
    exact hown
  · intro i p hp
    obtain ⟨a, k, h1, h2, h3, h4⟩ := h.done i p hp
    refine ⟨a, k, h1, h2, ?_, fun g o e => ?_⟩
    · have h5 := h3.grown hg (fun g o e => (h4 g o e).2.2)
      intro j u hu
      obtain ⟨g, o, e, hc⟩ := h5 j u hu
      refine ⟨g, o, e, ?_⟩
      rw [World.cell?_setCell_other _ _ _ _ (by intro e2; injection e2 with e2; exact (h4 g o e).2.1 e2.symm)]
      exact hc
    · have h5 := h4 g o e
      refine ⟨by have := hg.size; simp; omega, h5.2.1, ?_⟩
      rcases hb with hb | ⟨j, hb, hj⟩
      · rw [hb]; exact h5.2.2
      · rw [hb]; intro e2; injection e2 with e2; omega
theorem unit_is (u : List UInt8) (c : UInt8) (b : Bool) (h : decide (u = [c]) = b) : ((strL u).toList == [c]) = b := by
  rw [ByteArray.toList_eq, strL_list, ← h, Bool.eq_iff_iff, beq_iff_eq, decide_eq_true_eq]
theorem own_shape {w : World} {base : Nat} {e : TypeId} {size : Nat} {v : Value} {n : Nat} {xs : List Value} (h : w.ownsRow base e size v (n + 1) xs) : ∃ g cap, v = .slice (some ⟨g, 0, none⟩) (n + 1) cap := by
  rcases h.2 with ⟨_, h⟩ | ⟨g, cap, cur, rfl, _⟩
  · omega
  · exact ⟨g, cap, rfl⟩
theorem Pcs.at_ {w w2 : World} {base gV cap : Nat} {d : List (List (List UInt8))} {c : List (List UInt8)} {cv : Value} {dv : List Value} (h : Pcs w base gV cap d c cv dv) (hg : w.grownBy w2 cv.ownBlock) :
    w2.cell? ⟨gV, d.length, none⟩ = some cv ∧ w2.frozen? ⟨gV, d.length, none⟩ = false := by
  have hout : w2.ownsRow base 24 1 (.slice (some ⟨gV, 0, none⟩) (d.length + 1) cap) (d.length + 1) (dv ++ [cv]) := h.out.kept hg (.inr (fun e => h.off e.symm))
  refine ⟨?_, hout.frozenAt _⟩
  rw [hout.cellAt d.length (by rw [Nat.mul_one]; omega), List.getElem?_append_right (by rw [h.len]; exact Nat.le_refl _), h.len, Nat.sub_self]
  rfl
set_option maxHeartbeats 4000000 in
set_option maxRecDepth 1000000 in
theorem split_any (s : ByteArray) (hs : s.size ≤ 1000000) (w : World) :
    Calls Tryd.prog 36 #[.string s] w fun e w' => ∃ g n cap, e = .returned (.slice (some ⟨g, 0, none⟩) n cap) ∧ n = (splitM (marksU (unitsL s.data.toList))).length ∧ PsAt w' g (splitM (marksU (unitsL s.data.toList))) ∧ Below w.heap.size w w' := by
  obtain ⟨i0, hi, hz0, hz1, hz2⟩ := info_parts info24
  obtain ⟨j0, hj, hy0, hy1, hy2⟩ := info_parts info9
  have hlen : (unitsL s.data.toList).length ≤ s.size := by rw [size_list]; exact units_le _
  have cU := units_any s hs w
  obtain ⟨U, hU⟩ : ∃ U, unitsL s.data.toList = U := ⟨_, rfl⟩
  rw [hU] at cU hlen ⊢
  clear hU
  obtain ⟨R, hR⟩ : ∃ R, splitM (marksU U) = R := ⟨_, rfl⟩
  rw [hR]
  have HR := Lib.hid hR
  clear hR
  obtain ⟨M, hM⟩ : ∃ M, U.length = M := ⟨_, rfl⟩
  rw [hM] at cU hlen
  go_enter Tryd.func36, Tryd.ntmps36
  go_wp2_with fail
  refine cU.mono ?_
  rintro e W1 ⟨gu, rfl, hSU, hgu, hb1⟩
  clear cU
  go_wp2_with fail
  go_loopw [4, 5] (fun V i wr => ∃ (q gV n cap : Nat) (d : List (List (List UInt8))) (c : List (List UInt8)) (cv : Value) (dv : List Value), V = .slice (some ⟨gV, 0, none⟩) (n + 1) cap ∧ i = .int .i64 q ∧ d.length = n ∧ q ≤ M ∧ n + c.length ≤ q ∧ Pcs wr W1.heap.size gV cap d c cv dv ∧ Below W1.heap.size W1 wr ∧ Hid (glue d c (splitM (marksU (U.drop q))) = R)) (fun _ i _ => M - (intOf i).toNat)
  case atStart =>
    refine ⟨0, W1.heap.size, 0, 1, [], [], .slice none 0 0, [], rfl, rfl, rfl, Nat.zero_le _, Nat.zero_le _, ?_, (Below.refl _ W1).alloc (Nat.le_refl _) _, Lib.hid ?_⟩
    · refine ⟨?_, rfl, World.ownsRow_nil _ _ _ _, by simp [Value.ownBlock], fun i p hp => by simp at hp⟩
      exact World.ownsRow_lit W1 #[.slice none 0 0] 1 (Nat.le_refl _) (by decide) rfl
    · rw [List.drop_zero]
      have := HR.out
      cases hsp : splitM (marksU U) with
      | nil => exact absurd hsp (split_ne _)
      | cons a b => rw [hsp] at this; simpa [glue] using this
  case round =>
    obtain ⟨q, gV, n, cap, d, c, cv, dv, rfl, rfl, hn, hq, hnq, hP, hbw, HK⟩ := hrel
    have hst := HK.out
    have hSr := hSU.below hbw
    by_cases hlt : q < M
    · have hqU : q < U.length := by omega
      obtain ⟨g1, o1, e1, l1⟩ := hSr.get hqU
      cases e1
      rw [Nat.zero_add] at l1
      obtain ⟨u, hu⟩ : ∃ u, U[q] = u := ⟨_, rfl⟩
      rw [hu] at l1
      have hdrop : U.drop q = u :: U.drop (q + 1) := by rw [List.drop_eq_getElem_cons hqU, hu]
      rw [hdrop] at hst
      clear hu hdrop
      by_cases k1 : u = [42]
      · have x1 := unit_is u 42 true (by rw [k1]; rfl)
        rw [k1, marks_star, glue_star] at hst
        replace hst := Lib.hid hst
        have hst2 := fun v2 w2 h1 h2 h3 => hP.star (v2 := v2) (w2 := w2) h1 h2 h3
        have hout := hP.out
        have hPl := hP.out.lt gV rfl
        rw [hn] at hst2 hout
        have hszr := hbw.size
        clear k1 hP
        go_wp2_with (at_builtin; refine wpList_append_own_at _ rfl (.tmp 24) (.tmp 25) 48 rfl W1.heap.size 24 i0 (.slice none 0 0) 1 24 Tryd.underlying48 hi hz0 hz1 hz2 rfl (by decide) (.slice (some ⟨gV, 0, none⟩) (n + 1) cap) (n + 1) (dv ++ [cv]) rfl (hout.alloc _) ⟨_, 0, none⟩ 1 1 [.slice none 0 0] rfl rfl (cell_one_new _ _ _) (by simp [Value.oneCell']) (by unfold maxLen; omega) (by omega) (by simp; omega) ?_; intro v2 w2 hown2 hgrow2 hnil2 hblk2)
        have hg2 : wr.grownBy w2 (some gV) := (World.grownBy_alloc _ _ _).trans hgrow2
        obtain ⟨g', cap', rfl, hP2⟩ := hst2 v2 w2 hown2 hg2 (by
          rcases hblk2 with h | h
          · exact .inl h
          · exact .inr ⟨_, h, by simp⟩)
        have hbw2 : Below W1.heap.size W1 w2 := (hbw.alloc hszr _).grown hgrow2 (by simp; omega) (fun j hj => by cases hj; exact hPl.1)
        clear hown2 hgrow2 hnil2 hblk2 hg2 hst2
        go_roundw
        case rel => exact ⟨q + 1, g', n + 1, cap', d ++ [c], [], .slice none 0 0, dv ++ [cv], rfl, rfl, by rw [List.length_append, hn]; rfl, by omega, by simp; omega, hP2, hbw2, hst⟩
        case measure => simp only [intOf]; omega
      · have x1 := unit_is u 42 false (by rw [decide_eq_false k1])
        by_cases k2 : u = [63]
        · have x2 := unit_is u 63 true (by rw [k2]; rfl)
          rw [k2, marks_one] at hst
          simp only [splitM] at hst
          clear k1 k2
          have hgo := fun w2 (hg : wr.grownBy w2 cv.ownBlock) => hP.at_ hg
          have hpu := fun v2 w2 h1 h2 h3 => hP.push (v2 := v2) (w2 := w2) [] h1 h2 h3
          have hcu := hP.cur
          have hPd := hP.done
          have hPl := hP.out.lt gV rfl
          rw [hn] at hgo hpu
          have l3 := (hgo wr (World.grownBy.refl _ _)).1
          have l4 := (hgo wr (World.grownBy.refl _ _)).2
          replace hst := Lib.hid hst
          have hcl : c.length ≤ 1000000 := by omega
          have hszr := hbw.size
          have hlt0 : ∀ j, cv.ownBlock = some j → W1.heap.size ≤ j := fun j hj => (hcu.lt j hj).1
          replace hlt0 := Lib.hid hlt0
          replace hgo := Lib.hid hgo
          replace hpu := Lib.hid hpu
          replace hcu := Lib.hid hcu
          clear hP hPd
          go_wp2_with (at_builtin; refine wpList_append_own_at _ rfl (.tmp 54) (.tmp 56) 24 rfl W1.heap.size 9 j0 (.string ⟨#[]⟩) 1 16 Tryd.underlying24 hj hy0 hy1 hy2 rfl (by decide) cv c.length (strsOf c) rfl (hcu.out.alloc _) ⟨_, 0, none⟩ 1 1 (strsOf [[]]) rfl rfl (strs_new _ [[]]) (strs_one _) (by unfold maxLen; omega) (by omega) (by simp; omega) ?_; intro v2 w2 hown2 hgrow2 hnil2 hblk2; obtain ⟨g2, cap2, hv2⟩ := own_shape hown2; subst hv2; have hg2 : wr.grownBy w2 cv.ownBlock := (World.grownBy_alloc _ _ _).trans hgrow2; have hc2 := (hgo.out w2 hg2).1; have hf2 := (hgo.out w2 hg2).2; replace hg2 := Lib.hid hg2; replace hgrow2 := Lib.hid hgrow2; replace hown2 := Lib.hid hown2; replace hblk2 := Lib.hid hblk2; clear hnil2 l4)
          go_roundw
          case rel =>
            have hblk3 : (Value.slice (some ⟨g2, 0, none⟩) (c.length + 1) cap2).ownBlock = cv.ownBlock ∨ ∃ j, (Value.slice (some ⟨g2, 0, none⟩) (c.length + 1) cap2).ownBlock = some j ∧ wr.heap.size ≤ j := by
              rcases hblk2.out with h | h
              · exact .inl h
              · exact .inr ⟨_, h, by simp⟩
            refine ⟨q + 1, gV, n, cap, d, c ++ [[]], .slice (some ⟨g2, 0, none⟩) (c.length + 1) cap2, dv, rfl, rfl, hn, by omega, by rw [List.length_append, List.length_singleton]; omega, hpu.out _ w2 hown2.out hg2.out hblk3, ?_, ?_⟩
            · exact ((hbw.alloc hszr _).grown hgrow2.out (by simp; omega) hlt0.out).setCell (p := ⟨gV, n, none⟩) hPl.1 _
            · have := hst.out
              rw [glue_cons] at this
              exact Lib.hid this
          case measure => simp only [intOf]; omega
        · have x2 := unit_is u 63 false (by rw [decide_eq_false k2])
          by_cases k3 : u = [92]
          · have x3 := unit_is u 92 true (by rw [k3]; rfl)
            by_cases hlt2 : q + 1 < M
            · have hqU2 : q + 1 < U.length := by omega
              obtain ⟨g2, o2, e2, l2⟩ := hSr.get hqU2
              cases e2
              rw [Nat.zero_add] at l2
              obtain ⟨v, hv⟩ : ∃ v, U[q + 1] = v := ⟨_, rfl⟩
              rw [hv] at l2
              have hdrop : U.drop (q + 1) = v :: U.drop (q + 2) := by rw [List.drop_eq_getElem_cons hqU2, hv]
              rw [hdrop, k3, marks_back] at hst
              simp only [splitM] at hst
              clear hv hdrop k1 k2 k3
              have hlt3 : (q : Int) + 1 < (M : Int) := by omega
              have hgo := fun w2 (hg : wr.grownBy w2 cv.ownBlock) => hP.at_ hg
              have hpu := fun v2 w2 h1 h2 h3 => hP.push (v2 := v2) (w2 := w2) v h1 h2 h3
              have hcu := hP.cur
              have hPd := hP.done
              have hPl := hP.out.lt gV rfl
              rw [hn] at hgo hpu
              have l3 := (hgo wr (World.grownBy.refl _ _)).1
              have l4 := (hgo wr (World.grownBy.refl _ _)).2
              replace hst := Lib.hid hst
              have hcl : c.length ≤ 1000000 := by omega
              have hszr := hbw.size
              have hlt0 : ∀ j, cv.ownBlock = some j → W1.heap.size ≤ j := fun j hj => (hcu.lt j hj).1
              replace hlt0 := Lib.hid hlt0
              replace hgo := Lib.hid hgo
              replace hpu := Lib.hid hpu
              replace hcu := Lib.hid hcu
              clear hP hPd
              go_wp2_with (at_builtin; refine wpList_append_own_at _ rfl (.tmp 54) (.tmp 56) 24 rfl W1.heap.size 9 j0 (.string ⟨#[]⟩) 1 16 Tryd.underlying24 hj hy0 hy1 hy2 rfl (by decide) cv c.length (strsOf c) rfl (hcu.out.alloc _) ⟨_, 0, none⟩ 1 1 (strsOf [v]) rfl rfl (strs_new _ [v]) (strs_one _) (by unfold maxLen; omega) (by omega) (by simp; omega) ?_; intro v2 w2 hown2 hgrow2 hnil2 hblk2; obtain ⟨g2, cap2, hv2⟩ := own_shape hown2; subst hv2; have hg2 : wr.grownBy w2 cv.ownBlock := (World.grownBy_alloc _ _ _).trans hgrow2; have hc2 := (hgo.out w2 hg2).1; have hf2 := (hgo.out w2 hg2).2; replace hg2 := Lib.hid hg2; replace hgrow2 := Lib.hid hgrow2; replace hown2 := Lib.hid hown2; replace hblk2 := Lib.hid hblk2; clear hnil2 l4)
              go_roundw
              case rel =>
                have hblk3 : (Value.slice (some ⟨g2, 0, none⟩) (c.length + 1) cap2).ownBlock = cv.ownBlock ∨ ∃ j, (Value.slice (some ⟨g2, 0, none⟩) (c.length + 1) cap2).ownBlock = some j ∧ wr.heap.size ≤ j := by
                  rcases hblk2.out with h | h
                  · exact .inl h
                  · exact .inr ⟨_, h, by simp⟩
                refine ⟨q + 2, gV, n, cap, d, c ++ [v], .slice (some ⟨g2, 0, none⟩) (c.length + 1) cap2, dv, rfl, rfl, hn, by omega, by rw [List.length_append, List.length_singleton]; omega, hpu.out _ w2 hown2.out hg2.out hblk3, ?_, ?_⟩
                · exact ((hbw.alloc hszr _).grown hgrow2.out (by simp; omega) hlt0.out).setCell (p := ⟨gV, n, none⟩) hPl.1 _
                · have := hst.out
                  rw [glue_cons] at this
                  exact Lib.hid this
              case measure => simp only [intOf]; omega
            · have hlt3 : ¬ (q : Int) + 1 < (M : Int) := by omega
              rw [List.drop_eq_nil_of_le (by omega), marks_last u k1 k2] at hst
              simp only [splitM] at hst
              clear k1 k2 k3
              have hgo := fun w2 (hg : wr.grownBy w2 cv.ownBlock) => hP.at_ hg
              have hpu := fun v2 w2 h1 h2 h3 => hP.push (v2 := v2) (w2 := w2) u h1 h2 h3
              have hcu := hP.cur
              have hPd := hP.done
              have hPl := hP.out.lt gV rfl
              rw [hn] at hgo hpu
              have l3 := (hgo wr (World.grownBy.refl _ _)).1
              have l4 := (hgo wr (World.grownBy.refl _ _)).2
              replace hst := Lib.hid hst
              have hcl : c.length ≤ 1000000 := by omega
              have hszr := hbw.size
              have hlt0 : ∀ j, cv.ownBlock = some j → W1.heap.size ≤ j := fun j hj => (hcu.lt j hj).1
              replace hlt0 := Lib.hid hlt0
              replace hgo := Lib.hid hgo
              replace hpu := Lib.hid hpu
              replace hcu := Lib.hid hcu
              clear hP hPd
              go_wp2_with (at_builtin; refine wpList_append_own_at _ rfl (.tmp 54) (.tmp 56) 24 rfl W1.heap.size 9 j0 (.string ⟨#[]⟩) 1 16 Tryd.underlying24 hj hy0 hy1 hy2 rfl (by decide) cv c.length (strsOf c) rfl (hcu.out.alloc _) ⟨_, 0, none⟩ 1 1 (strsOf [u]) rfl rfl (strs_new _ [u]) (strs_one _) (by unfold maxLen; omega) (by omega) (by simp; omega) ?_; intro v2 w2 hown2 hgrow2 hnil2 hblk2; obtain ⟨g2, cap2, hv2⟩ := own_shape hown2; subst hv2; have hg2 : wr.grownBy w2 cv.ownBlock := (World.grownBy_alloc _ _ _).trans hgrow2; have hc2 := (hgo.out w2 hg2).1; have hf2 := (hgo.out w2 hg2).2; replace hg2 := Lib.hid hg2; replace hgrow2 := Lib.hid hgrow2; replace hown2 := Lib.hid hown2; replace hblk2 := Lib.hid hblk2; clear hnil2 l4)
              go_roundw
              case rel =>
                have hblk3 : (Value.slice (some ⟨g2, 0, none⟩) (c.length + 1) cap2).ownBlock = cv.ownBlock ∨ ∃ j, (Value.slice (some ⟨g2, 0, none⟩) (c.length + 1) cap2).ownBlock = some j ∧ wr.heap.size ≤ j := by
                  rcases hblk2.out with h | h
                  · exact .inl h
                  · exact .inr ⟨_, h, by simp⟩
                refine ⟨q + 1, gV, n, cap, d, c ++ [u], .slice (some ⟨g2, 0, none⟩) (c.length + 1) cap2, dv, rfl, rfl, hn, by omega, by rw [List.length_append, List.length_singleton]; omega, hpu.out _ w2 hown2.out hg2.out hblk3, ?_, ?_⟩
                · exact ((hbw.alloc hszr _).grown hgrow2.out (by simp; omega) hlt0.out).setCell (p := ⟨gV, n, none⟩) hPl.1 _
                · have := hst.out
                  rw [glue_cons, show [[]] = splitM (marksU (U.drop (q + 1))) by rw [List.drop_eq_nil_of_le (by omega)]; rfl] at this
                  exact Lib.hid this
              case measure => simp only [intOf]; omega
          · have x3 := unit_is u 92 false (by rw [decide_eq_false k3])
            rw [marks_lit u _ k1 k2 k3] at hst
            simp only [splitM] at hst
            clear k1 k2 k3
            have hgo := fun w2 (hg : wr.grownBy w2 cv.ownBlock) => hP.at_ hg
            have hpu := fun v2 w2 h1 h2 h3 => hP.push (v2 := v2) (w2 := w2) u h1 h2 h3
            have hcu := hP.cur
            have hPd := hP.done
            have hPl := hP.out.lt gV rfl
            rw [hn] at hgo hpu
            have l3 := (hgo wr (World.grownBy.refl _ _)).1
            have l4 := (hgo wr (World.grownBy.refl _ _)).2
            replace hst := Lib.hid hst
            have hcl : c.length ≤ 1000000 := by omega
            have hszr := hbw.size
            have hlt0 : ∀ j, cv.ownBlock = some j → W1.heap.size ≤ j := fun j hj => (hcu.lt j hj).1
            replace hlt0 := Lib.hid hlt0
            replace hgo := Lib.hid hgo
            replace hpu := Lib.hid hpu
            replace hcu := Lib.hid hcu
            clear hP hPd
            go_wp2_with (at_builtin; refine wpList_append_own_at _ rfl (.tmp 54) (.tmp 56) 24 rfl W1.heap.size 9 j0 (.string ⟨#[]⟩) 1 16 Tryd.underlying24 hj hy0 hy1 hy2 rfl (by decide) cv c.length (strsOf c) rfl (hcu.out.alloc _) ⟨_, 0, none⟩ 1 1 (strsOf [u]) rfl rfl (strs_new _ [u]) (strs_one _) (by unfold maxLen; omega) (by omega) (by simp; omega) ?_; intro v2 w2 hown2 hgrow2 hnil2 hblk2; obtain ⟨g2, cap2, hv2⟩ := own_shape hown2; subst hv2; have hg2 : wr.grownBy w2 cv.ownBlock := (World.grownBy_alloc _ _ _).trans hgrow2; have hc2 := (hgo.out w2 hg2).1; have hf2 := (hgo.out w2 hg2).2; replace hg2 := Lib.hid hg2; replace hgrow2 := Lib.hid hgrow2; replace hown2 := Lib.hid hown2; replace hblk2 := Lib.hid hblk2; clear hnil2 l4)
            go_roundw
            case rel =>
              have hblk3 : (Value.slice (some ⟨g2, 0, none⟩) (c.length + 1) cap2).ownBlock = cv.ownBlock ∨ ∃ j, (Value.slice (some ⟨g2, 0, none⟩) (c.length + 1) cap2).ownBlock = some j ∧ wr.heap.size ≤ j := by
                rcases hblk2.out with h | h
                · exact .inl h
                · exact .inr ⟨_, h, by simp⟩
              refine ⟨q + 1, gV, n, cap, d, c ++ [u], .slice (some ⟨g2, 0, none⟩) (c.length + 1) cap2, dv, rfl, rfl, hn, by omega, by rw [List.length_append, List.length_singleton]; omega, hpu.out _ w2 hown2.out hg2.out hblk3, ?_, ?_⟩
              · exact ((hbw.alloc hszr _).grown hgrow2.out (by simp; omega) hlt0.out).setCell (p := ⟨gV, n, none⟩) hPl.1 _
              · have := hst.out
                rw [glue_cons] at this
                exact Lib.hid this
            case measure => simp only [intOf]; omega
    · have hqM : q = M := by omega
      subst hqM
      rw [List.drop_eq_nil_of_le (by omega)] at hst
      simp only [marksU, splitM, glue, List.append_nil] at hst
      have hps := hP.psAt
      rw [hst] at hps
      have hRn : n + 1 = R.length := by rw [← hst, List.length_append, hn]; rfl
      clear hst hP
      go_wp2_with fail
      go_ret
      exact ⟨gV, n + 1, cap, rfl, hRn, hps, hb1.trans (hbw.mono hb1.size)⟩
end Go.Proofs.YtbplbifmohbfdaaDoor
