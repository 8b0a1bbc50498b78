/- LinesFeeds: Push and Rest agree with the reference after every chunk. -/
import Derived.Test.YtpoimbhfggkiiaaRefU
import Derived.Test.YtpoimbhfggkiiaaSplit
namespace Go.Proofs.Ytpoimbhfggkiiaa
open Go.ChangeShapes Go.WideShapes Go.ChangeAt Go.RowKit
open LinesP

theorem fd_below {w w' : World} {B b lim : Nat} {l : List UInt8} (h : Fd w B b lim l) (hb : Below w.heap.size w w') : Fd w' B b lim l := by
  obtain ⟨v, h⟩ := h
  exact ⟨v, (hb.block b h.lt).trans h.blk, own_below h.own hb⟩
theorem fd_not {w : World} {B b lim k : Nat} {l : List UInt8} {cs : Array Value} {e : TypeId} {fz : Nat × Nat} (h : Fd w B b lim l) (hk : w.heap[k]? = some (.cells cs e fz)) (he : e ≠ 53) : k ≠ b := by
  obtain ⟨v, h⟩ := h
  rintro rfl
  have := h.blk.symm.trans hk
  simp at this
  exact he this.2.1.symm
theorem fr_own {w w' : World} {B b lim : Nat} {l : List UInt8} {u : Value} {xs : List (List UInt8)} (hF : Fr B b w w') (hf : Fd w B b lim l) (h : Own w u xs) : Own w' u xs := by
  obtain ⟨base, ho⟩ := h
  refine ⟨base, ho.1, ?_⟩
  rcases ho.2 with h1 | ⟨g, cap, cur, rfl, hbg, hg, rest⟩
  · exact .inl h1
  · refine .inr ⟨g, cap, cur, rfl, hbg, ?_, rest⟩
    refine (hF.same g (Array.getElem?_eq_some_iff.1 hg).1 (fd_not hf hg (by decide)) (.inr fun c fz e' => ?_)).trans hg
    have := hg.symm.trans e'
    simp at this
theorem fr_outs {w w' : World} {B b lim Bo : Nat} {l : List UInt8} {v : Value} {n : Nat} {f : Nat → List (List UInt8)} (hF : Fr B b w w') (hf : Fd w B b lim l) (h : Outs w Bo v n f) : Outs w' Bo v n f := by
  obtain ⟨vals, ho, h2⟩ := h
  refine ⟨vals, ⟨ho.1, ?_⟩, fun i hi => ?_⟩
  · rcases ho.2 with h1 | ⟨g, cap, cur, rfl, hbg, hg, rest⟩
    · exact .inl h1
    · refine .inr ⟨g, cap, cur, rfl, hbg, ?_, rest⟩
      refine (hF.same g (Array.getElem?_eq_some_iff.1 hg).1 (fd_not hf hg (by decide)) (.inr fun c fz e' => ?_)).trans hg
      have := hg.symm.trans e'
      simp at this
  · obtain ⟨a, c, e, ho1⟩ := h2 i hi
    exact ⟨a, c, e, fr_own hF hf ho1⟩
/-- Before chunk j: the older memory, the Feed, and what the reference has told. -/
structure Sf (w0 w : World) (B b lim Bo : Nat) (t : List UInt8) (u : Value) (N : Nat) (f : Nat → List (List UInt8)) : Prop where
  bel : Below w0.heap.size w0 w
  size : B ≤ w.heap.size
  fd : Fd w B b lim (t.take lim)
  outs : Outs w Bo u N f
theorem Sf.step {w0 w w' : World} {B b lim Bo : Nat} {t : List UInt8} {u : Value} {N : Nat} {f : Nat → List (List UInt8)} (h : Sf w0 w B b lim Bo t u N f) (hb : Below w.heap.size w w') : Sf w0 w' B b lim Bo t u N f :=
  ⟨h.bel.trans (hb.mono h.bel.size), Nat.le_trans h.size hb.size, fd_below h.fd hb, h.outs.step hb⟩
theorem Outs.at {w : World} {B : Nat} {a : Option Addr} {n c : Nat} {f : Nat → List (List UInt8)} (h : Outs w B (.slice a n c) n f) (hn : 0 < n) : ∃ g, a = some ⟨g, 0, none⟩ := by
  obtain ⟨vals, ho, _⟩ := h
  rcases ho.2 with ⟨e, h0⟩ | ⟨g, cap, cur, e, _⟩
  · omega
  · injection e with e1 _ _; exact ⟨g, e1⟩
theorem Outs.cell {w : World} {B g n c : Nat} {f : Nat → List (List UInt8)} (h : Outs w B (.slice (some ⟨g, 0, none⟩) n c) n f) (j : Nat) (hj : j < n) : ∃ a c, w.cell? ⟨g, j, none⟩ = some (.slice a (f j).length c) ∧ Own w (.slice a (f j).length c) (f j) := by
  obtain ⟨vals, ho, h2⟩ := h
  obtain ⟨a, c, e, ho1⟩ := h2 j hj
  have := ho.cells (g := g) rfl j _ e
  have e2 : (⟨g, 0, none⟩ : Addr).add j = ⟨g, j, none⟩ := by unfold Addr.add; split <;> simp_all
  rw [e2] at this
  exact ⟨a, c, this, ho1⟩
set_option maxRecDepth 100000 in
set_option maxHeartbeats 8000000 in
theorem feeds_any (most : Int) (_hm : -9223372036854775808 ≤ most ∧ most ≤ 9223372036854775807) (v : Value) (xs : List (List UInt8)) {w : World} (h : Has strV w v xs) (hl : xs.length ≤ 140737488355328) (hx : ∀ x ∈ xs, x.length ≤ 140737488355328) :
    Calls Try.prog 4 #[.int .i64 most, v] w fun e w' => e = .returned (.bool true) ∧ Below w.heap.size w w' := by
  have hS := small_any w
  have hW : ∀ w', Below w.heap.size w w' → Calls Try.prog 21 #[v] w' fun e w'' => e = .returned (.bool (fewP xs)) ∧ w' = w'' := fun w' hb => few_any (h.below' hb) hl hx
  have hNw := fun w' => new_any most w'
  obtain ⟨lim, hlim⟩ : ∃ lim, limN most = lim := ⟨_, rfl⟩
  by_cases hfew : fewP xs = true
  · obtain ⟨h30, hfl⟩ := few_flat xs hfew
    rw [hfew] at hW
    have hTo : ∀ w', Below w.heap.size w w' → _ := fun w' hb => rtold_any most (h.below' hb) h30 hfl
    obtain ⟨ao, c0, rfl⟩ := h.slice
    obtain ⟨N, hN⟩ : ∃ N, xs.length = N := ⟨_, rfl⟩
    have hlm := limN_le most
    simp only [hlim, hN] at hTo hNw hlm
    rw [hN] at h hW ⊢
    obtain ⟨R, hR⟩ : ∃ R, strL ((begunAt xs N).take lim) = R := ⟨_, rfl⟩
    simp only [hR] at hTo
    have hN30 : N ≤ 30 := by omega
    have H := Lib.hid h
    have HN := Lib.hid hN
    have HR := Lib.hid hR
    have HB := Lib.hid (begun_len xs)
    have HFL := Lib.hid hfl
    have HXL : Hid (∀ j (x : List UInt8), xs[j]? = some x → x.length ≤ 3000) := fun j x hx => by
      have h1 := take_flat_le xs (j + 1)
      rw [begun_next.flat_take' xs j x hx, List.length_append] at h1
      omega
    clear h hN hfl hx hl hR hfew hlim
    go_enter Try.func4, Try.ntmps4
    go_wp2_with (first
      | (go_at_call 9; refine hS.mono ?_; rintro e w1 ⟨rfl, hb⟩; clear hS)
      | (go_at_call 21; with_reducible refine (hW _ hb).mono ?_; rintro e w2 ⟨rfl, hw⟩; rw [← hw]; clear hw w2 hW)
      | (go_at_call 22; with_reducible refine (hNw _).mono ?_; rintro e w2 ⟨rfl, rfl⟩; have hF0 := fun B => fd_new w1 lim B; have hb2 := hb.alloc hb.size (.cells #[.int .i64 lim, .slice none 0 0] 53); clear hNw)
      | (go_at_call 23; with_reducible refine (hTo _ hb2).mono ?_; rintro e w3 ⟨au, cu, rfl, ho3, hb3⟩; clear hTo))
    have hbs := hb.size
    have hs2 := hb2.size
    have hs3 := hb3.size
    rw [World.size_alloc] at hs3 hs2
    obtain ⟨bf, hbf⟩ : ∃ bf, w1.heap.size = bf := ⟨_, rfl⟩
    have hst : Sf w w3 w3.heap.size bf lim (w1.heap.size + 1) (begunAt xs 0) (.slice au N cu) N (wantAt lim xs) := by
      refine ⟨hb2.trans (hb3.mono hb2.size), Nat.le_refl _, ?_, ?_⟩
      · rw [← hbf, show (begunAt xs 0).take lim = [] by unfold begunAt; simp [restL, splitL]]
        exact fd_below (hF0 _) hb3
      · rw [World.size_alloc] at ho3
        exact ho3
    obtain ⟨Bo, hBo⟩ : ∃ Bo, w1.heap.size + 1 = Bo := ⟨_, rfl⟩
    rw [hBo] at hst
    obtain ⟨B, hB⟩ : ∃ B, w3.heap.size = B := ⟨_, rfl⟩
    rw [hB] at hst
    rw [hbf]
    have HST := Lib.hid hst
    have hBB : w.heap.size ≤ B := by omega
    have hbfw : w.heap.size ≤ bf := by omega
    have hbfB : bf < B := by omega
    clear hF0 hb hb2 hb3 hst ho3 hbs hs2 hs3 hBo
    go_loopw [10] (fun i wr => ∃ j : Nat, j ≤ N ∧ i = .int .i64 j ∧ Hid (Sf w wr B bf lim Bo (begunAt xs j) (.slice au N cu) N (wantAt lim xs))) (fun i _ => N - (intOf i).toNat)
    case atStart => exact ⟨0, Nat.zero_le _, rfl, HST.out⟩
    case round =>
      obtain ⟨j, hj, rfl, hs⟩ := hrel
      have hbl := HB.out j
      have hFL := HFL.out
      by_cases hlt : j < N
      · obtain ⟨a, rfl, hc⟩ := (H.out.below' hs.out.bel).at (by rw [HN.out]; omega)
        obtain ⟨x, hxj⟩ : ∃ x, xs[j]? = some x := ⟨_, List.getElem?_eq_getElem (by rw [HN.out]; exact hlt)⟩
        obtain ⟨gu, rfl⟩ := hs.out.outs.at (by omega)
        obtain ⟨aw, cw, hcw, how⟩ := hs.out.outs.cell j hlt
        have hk := hc j x hxj
        have hxs := HXL.out j x hxj
        obtain ⟨A, hA⟩ : ∃ A, strL x = A := ⟨_, rfl⟩
        have lA : A.data.toList = x := by rw [← hA]; rfl
        have cA : wr.drew.cell? (a.add j) = some (.string A) := by
          have : wr.cell? (a.add j) = some (.string A) := by rw [hk, ← hA]; rfl
          exact this
        obtain ⟨W, hW⟩ : ∃ W, wantAt lim xs j = W := ⟨_, rfl⟩
        rw [hW] at hcw how
        obtain ⟨nw, hnw⟩ : ∃ nw, W.length = nw := ⟨_, rfl⟩
        have hnwl : nw ≤ 1000000 := by
          rw [← hnw, ← hW, want_is lim xs j x hxj]
          unfold toldL
          rw [List.length_map]
          have h1 := done_len (begunAt xs j ++ x)
          rw [List.length_append] at h1
          omega
        rw [hnw] at hcw how
        have cW : wr.drew.cell? ⟨gu, j, none⟩ = some (.slice aw nw cw) := hcw
        have HS1 : Hid (Sf w wr.drew B bf lim Bo (begunAt xs j) (.slice (some ⟨gu, 0, none⟩) N cu) N (wantAt lim xs) ∧ wr.drew.cell? ⟨gu, j, none⟩ = some (.slice aw nw cw) ∧ Own wr.drew (.slice aw nw cw) W) := ⟨hs.out.step (Below.refl _ _).drew, cW, how.step (Below.refl _ _).drew⟩
        have HP : Hid (∀ Q, Sf w Q B bf lim Bo (begunAt xs j) (.slice (some ⟨gu, 0, none⟩) N cu) N (wantAt lim xs) ∧ Q.cell? ⟨gu, j, none⟩ = some (.slice aw nw cw) ∧ Own Q (.slice aw nw cw) W → Calls Try.prog 24 #[.pointer (some ⟨bf, 0, none⟩), .string A] Q fun e w' => ∃ r, e = .returned r ∧ Own w' r W ∧ Sf w w' B bf lim Bo (begunAt xs (j + 1)) (.slice (some ⟨gu, 0, none⟩) N cu) N (wantAt lim xs) ∧ w'.cell? ⟨gu, j, none⟩ = some (.slice aw nw cw) ∧ Own w' (.slice aw nw cw) W) := fun Q hq => by
          obtain ⟨hq, hqc, hqo⟩ := hq
          refine (push_st B bf lim (begunAt xs j) A Q hq.fd (rest_no _) (by omega) hq.size (by have := hq.size; omega) hlm (by rw [size_list, lA]; omega)).mono ?_
          rintro e w' ⟨r, rfl, hr, hf', hF⟩
          rw [lA, ← want_is lim xs j x hxj, hW] at hr
          rw [lA, ← begun_next xs j x hxj] at hf'
          have ho' := fr_outs hF hq.fd hq.outs
          refine ⟨r, rfl, ⟨_, hr⟩, ⟨fr_low hq.bel hF hbfw hBB, Nat.le_trans hq.size hF.bel.size, hf', ho'⟩, ?_, fr_own hF hq.fd hqo⟩
          obtain ⟨vals, h1, h2⟩ := hq.outs
          obtain ⟨a2, c2, e2, _⟩ := h2 j hlt
          have k1 := h1.cells (g := gu) rfl j _ e2
          have e3 : (⟨gu, 0, none⟩ : Addr).add j = ⟨gu, j, none⟩ := by unfold Addr.add; split <;> simp_all
          rw [e3, hqc] at k1
          have hne : gu ≠ bf := by
            rcases h1.2 with ⟨e, _⟩ | ⟨g, cap, cur, e, _, hg, _⟩
            · cases e
            · injection e with e1 _ _
              injection e1 with e1
              injection e1 with e1
              subst e1
              exact fd_not hq.fd hg (by decide)
          have hgl := World.block_lt_of_cell? Q ⟨gu, j, none⟩ hqc
          refine (World.cell?_of_block (w := Q) (hF.same gu hgl hne (.inr fun c fz e => ?_))).trans hqc
          · rcases h1.2 with ⟨e', _⟩ | ⟨g, cap, cur, e', _, hg, _⟩
            · cases e'
            · injection e' with e1 _ _
              injection e1 with e1
              injection e1 with e1
              subst e1
              have := hg.symm.trans e
              simp at this
        have HQ : Hid (∀ (Q : World) (r : Value), Own Q r W → Own Q (.slice aw nw cw) W → Sf w Q B bf lim Bo (begunAt xs (j + 1)) (.slice (some ⟨gu, 0, none⟩) N cu) N (wantAt lim xs) → Calls Try.prog 10 #[r, .slice aw nw cw] Q fun e w' => e = .returned (.bool true) ∧ Sf w w' B bf lim Bo (begunAt xs (j + 1)) (.slice (some ⟨gu, 0, none⟩) N cu) N (wantAt lim xs)) := fun Q r o1 o2 hq => (same_yes o1 o2 rfl (by rw [hnw]; exact hnwl)).mono fun _ _ hh => ⟨hh.1, hq.step hh.2⟩
        have j1 : (0 : Int) ≤ (j : Int) := by omega
        have j2 : (j : Int) < (N : Int) := by omega
        clear hW hnw hcw hk hxs lA hA hc hxj hs hbl hFL
        go_wp2_with fail
        refine wp_region_any (by kernel_rfl) ?_
        change wpAny _ _ _ _ _ _ _ (World.drew _)
        refine wpAny_take (i := 0) (v := .pointer (some ⟨bf, 0, none⟩)) rfl (by kernel_rfl) (by kernel_rfl) (by kernel_rfl) (fun _ _ _ h => h) (Or.inl ⟨by rfl, fun w => by go_simp⟩) ?_
        simp only [Act.put, List.setIfInBounds_toArray]
        refine wpAny_take (i := 1) (v := .slice (some a) N c0) rfl (by kernel_rfl) (by kernel_rfl) (by kernel_rfl) (fun _ _ _ h => h) (Or.inl ⟨by rfl, fun w => by go_simp⟩) ?_
        simp only [Act.put]
        refine wpAny_take (i := 2) (v := .int .i64 (j : Int)) rfl (by kernel_rfl) (by kernel_rfl) (by kernel_rfl) (fun _ _ _ h => h) (Or.inl ⟨by rfl, fun w => by go_simp⟩) ?_
        simp only [Act.put]
        refine wpAny_take (i := 3) (v := .pointer (some (a.add j))) rfl (by kernel_rfl) (by kernel_rfl) (by kernel_rfl) (fun _ _ _ h => h) (Or.inl ⟨by rfl, fun w => by go_simp⟩) ?_
        simp only [Act.put]
        refine wpAny_take (i := 6) (v := .slice (some ⟨gu, 0, none⟩) N cu) rfl (by kernel_rfl) (by kernel_rfl) (by kernel_rfl) (fun _ _ _ h => h) (Or.inl ⟨by rfl, fun w => by go_simp⟩) ?_
        simp only [Act.put]
        refine wpAny_take (i := 7) (v := .int .i64 (j : Int)) rfl (by kernel_rfl) (by kernel_rfl) (by kernel_rfl) (fun _ _ _ h => h) (Or.inl ⟨by rfl, fun w => by go_simp⟩) ?_
        simp only [Act.put]
        refine wpAny_take (i := 8) (v := .pointer (some ⟨gu, j, none⟩)) rfl (by kernel_rfl) (by kernel_rfl) (by kernel_rfl) (fun _ _ _ h => h) (Or.inl ⟨by rfl, fun w => by go_simp⟩) ?_
        simp only [Act.put]
        refine wpAny_ready (rs := [4, 9]) (by kernel_rfl) (by simp) ?_; refine AllReady.cons rfl (fun K hK => ?_) (AllReady.cons rfl (fun K hK => ?_) AllReady.nil)
        · go_simp; refine hK _ _ ?_; clear hK K
          refine wpAny_ready (rs := [5, 9]) (by kernel_rfl) (by simp) ?_; refine AllReady.cons rfl (fun K hK => ?_) (AllReady.cons rfl (fun K hK => ?_) AllReady.nil)
          · go_simp; go_wp2_with (go_at_call 24; with_reducible refine (HP.out _ HS1.out).mono ?_; rintro e w5 ⟨r5, rfl, q5, s5, c5, o5⟩; have HS5 := Lib.hid s5; clear s5)
            refine wpAny_ready (rs := [9]) (by kernel_rfl) (by simp) ?_; refine AllReady.cons rfl (fun K hK => ?_) AllReady.nil; go_simp; refine hK _ _ ?_; clear hK K
            refine wpAny_ready (rs := [10]) (by kernel_rfl) (by simp) ?_; refine AllReady.cons rfl (fun K hK => ?_) AllReady.nil; go_simp; go_wp2_with (go_at_call 10; with_reducible refine (HQ.out _ _ q5 o5 HS5.out).mono ?_; rintro e w6 ⟨rfl, s6⟩; have HS6 := Lib.hid s6; clear s6)
            refine wpAny_take (i := 11) (v := .bool false) rfl (by kernel_rfl) (by kernel_rfl) (by kernel_rfl) (fun _ _ _ h => h) (Or.inl ⟨by rfl, fun w => by go_simp⟩) ?_
            simp only [Act.put, List.setIfInBounds_toArray]
            refine wpAny_done (by kernel_rfl) ?_ _
            go_wp2_with fail
            go_roundw
            case rel => exact ⟨j + 1, by omega, by go_num, HS6⟩
            case measure => simp [intOf]; omega
          · go_simp; refine hK _ _ ?_; clear hK K
            refine wpAny_ready (rs := [5]) (by kernel_rfl) (by simp) ?_; refine AllReady.cons rfl (fun K hK => ?_) AllReady.nil; go_simp; go_wp2_with (go_at_call 24; with_reducible refine (HP.out _ HS1.out).mono ?_; rintro e w5 ⟨r5, rfl, q5, s5, c5, o5⟩; have HS5 := Lib.hid s5; clear s5)
            refine wpAny_ready (rs := [10]) (by kernel_rfl) (by simp) ?_; refine AllReady.cons rfl (fun K hK => ?_) AllReady.nil; go_simp; go_wp2_with (go_at_call 10; with_reducible refine (HQ.out _ _ q5 o5 HS5.out).mono ?_; rintro e w6 ⟨rfl, s6⟩; have HS6 := Lib.hid s6; clear s6)
            refine wpAny_take (i := 11) (v := .bool false) rfl (by kernel_rfl) (by kernel_rfl) (by kernel_rfl) (fun _ _ _ h => h) (Or.inl ⟨by rfl, fun w => by go_simp⟩) ?_
            simp only [Act.put, List.setIfInBounds_toArray]
            refine wpAny_done (by kernel_rfl) ?_ _
            go_wp2_with fail
            go_roundw
            case rel => exact ⟨j + 1, by omega, by go_num, HS6⟩
            case measure => simp [intOf]; omega
        · go_simp; refine hK _ _ ?_; clear hK K
          refine wpAny_ready (rs := [4]) (by kernel_rfl) (by simp) ?_; refine AllReady.cons rfl (fun K hK => ?_) AllReady.nil; go_simp; refine hK _ _ ?_; clear hK K
          refine wpAny_ready (rs := [5]) (by kernel_rfl) (by simp) ?_; refine AllReady.cons rfl (fun K hK => ?_) AllReady.nil; go_simp; go_wp2_with (go_at_call 24; with_reducible refine (HP.out _ HS1.out).mono ?_; rintro e w5 ⟨r5, rfl, q5, s5, c5, o5⟩; have HS5 := Lib.hid s5; clear s5)
          refine wpAny_ready (rs := [10]) (by kernel_rfl) (by simp) ?_; refine AllReady.cons rfl (fun K hK => ?_) AllReady.nil; go_simp; go_wp2_with (go_at_call 10; with_reducible refine (HQ.out _ _ q5 o5 HS5.out).mono ?_; rintro e w6 ⟨rfl, s6⟩; have HS6 := Lib.hid s6; clear s6)
          refine wpAny_take (i := 11) (v := .bool false) rfl (by kernel_rfl) (by kernel_rfl) (by kernel_rfl) (fun _ _ _ h => h) (Or.inl ⟨by rfl, fun w => by go_simp⟩) ?_
          simp only [Act.put, List.setIfInBounds_toArray]
          refine wpAny_done (by kernel_rfl) ?_ _
          go_wp2_with fail
          go_roundw
          case rel => exact ⟨j + 1, by omega, by go_num, HS6⟩
          case measure => simp [intOf]; omega
      · obtain rfl : j = N := by omega
        have hR := rest_any _ _ _ _ wr hs.out.fd
        rw [HR.out] at hR
        have hbel := Lib.hid hs.out.bel
        clear hs
        go_wp2_with (go_at_call 25; with_reducible refine hR.mono ?_; rintro e w9 ⟨rfl, hw⟩; rw [← hw]; clear hw w9)
        go_ret
        exact ⟨rfl, hbel.out⟩
  · have hff : fewP xs = false := by simpa using hfew
    rw [hff] at hW
    simp only [hlim] at hNw
    go_enter Try.func4, Try.ntmps4
    go_wp2_with (first
      | (go_at_call 9; refine hS.mono ?_; rintro e w1 ⟨rfl, hb⟩; clear hS)
      | (go_at_call 21; with_reducible refine (hW _ hb).mono ?_; rintro e w2 ⟨rfl, hw⟩; rw [← hw]; clear hw w2 hW)
      | (go_at_call 22; with_reducible refine (hNw _).mono ?_; rintro e w2 ⟨rfl, rfl⟩; have hb2 := hb.alloc hb.size (.cells #[.int .i64 lim, .slice none 0 0] 53); clear hNw))
    go_ret
    exact ⟨rfl, hb2⟩
end Go.Proofs.Ytpoimbhfggkiiaa
