/- Push. -/
import Derived.Test.YtpoimbhfggkiiaaPush0
import Derived.Test.YtpoimbhfggkiiaaCut
namespace Go.Proofs.Ytpoimbhfggkiiaa
open Go.ChangeShapes Go.WideShapes Go.ChangeAt Go.RowKit
open LinesP

attribute [local go_sem] Oper.semAt_some

section
variable {bx C : Nat} {W W' : World} {row : Option Nat} {B b lim : Nat} {l : List UInt8}
theorem fd_calm (h : Fd W B b lim l) (hg : W.grownBy W' row) (hr : ∀ r, row = some r → (r = bx ∧ ∃ u, Boxed W bx 9 u) ∨ (C ≤ r ∧ ∃ o : Obj, W.heap[r]? = some o ∧ o.isCells = false)) : Fd W' B b lim l := by
  obtain ⟨v, h⟩ := h
  refine ⟨v, ?_, own_calm h.own hg hr (.inr (by decide))⟩
  refine (hg.block b h.lt fun e => ?_).trans h.blk
  rcases hr b e.symm with ⟨rfl, u, hu⟩ | ⟨_, o, ho, hc⟩
  · have := h.blk.symm.trans (show W.heap[b]? = _ from hu)
    simp at this
  · rw [h.blk] at ho; cases ho; cases hc
theorem fr_calm {w : World} (h : Fr B b w W) (hg : W.grownBy W' row) (hr : ∀ r, row = some r → (r = bx ∧ ∃ u, Boxed W bx 9 u) ∨ (C ≤ r ∧ ∃ o : Obj, W.heap[r]? = some o ∧ o.isCells = false)) (hb : w.heap.size ≤ bx) (hB : w.heap.size ≤ C) : Fr B b w W' :=
  ⟨h.bel.trans ⟨hg.os, hg.tape, hg.output, hg.size, fun k hk => absurd hk (Nat.not_lt_zero _)⟩, fun k hk hkb hu => by
    rw [hg.block k (Nat.lt_of_lt_of_le hk h.bel.size) (fun e => by
      rcases hr k e.symm with ⟨h1, _⟩ | ⟨h1, _⟩
      · omega
      · omega), h.same k hk hkb hu]⟩
end

theorem fr_boxed {w w' : World} {B b k : Nat} {ty : TypeId} {v : Value} (h : Fr B b w w') (hb : Boxed w k ty v) (hk : k ≠ b) (ht : ty ≠ 5) : Boxed w' k ty v :=
  (h.same k hb.lt hk (.inr fun c fz e => by
    have := (show w.heap[k]? = _ from hb).symm.trans e
    simp at this
    exact ht this.2.1)).trans hb
theorem fr_row {w w' : World} {B b base : Nat} {e : TypeId} {size n : Nat} {v : Value} {ys : List Value} (h : Fr B b w w') (ho : w.ownsRow base e size v n ys) (hb : b < base) (he : e ≠ 5) : w'.ownsRow base e size v n ys := by
  refine ⟨ho.1, ?_⟩
  rcases ho.2 with h1 | ⟨g, cap, cur, rfl, hbg, hg, rest⟩
  · exact .inl h1
  · refine .inr ⟨g, cap, cur, rfl, hbg, ?_, rest⟩
    refine (h.same g (Array.getElem?_eq_some_iff.1 hg).1 (by omega) (.inr fun c fz e' => ?_)).trans hg
    have := hg.symm.trans e'
    simp at this
    exact he this.2.1
theorem fr_onward {B b C bx : Nat} {T : TypeId} {u : Value} {w w' : World} (h : Fr B b w w') (hb : b < C) (hbx : Boxed w bx T u) (hT : T ≠ 5) (hne : bx ≠ b) : KeepsFrom C w w' ∧ w'.heap[bx]? = w.heap[bx]? :=
  ⟨⟨h.bel.size, fun k o hk ho hc => (h.same k (Array.getElem?_eq_some_iff.1 ho).1 (by omega) (.inr fun c fz e => by rw [ho] at e; cases e; cases hc)).trans ho⟩,
    (fr_boxed h hbx hne hT).trans (show w.heap[bx]? = _ from hbx).symm⟩
theorem no_done {t : List UInt8} (ht : 10 ∉ t) : doneL t = [] ∧ restL t = t := by
  by_cases h : t = []
  · subst h; exact ⟨rfl, rfl⟩
  · have := done_none (u := []) (by simp) ⟨h, ht⟩
    exact this

theorem row_far {w : World} {base : Nat} {e : TypeId} {size n k : Nat} {v : Value} {ys : List Value} (h : w.ownsRow base e size v n ys) (hk : k < base) : v.ownBlock ≠ some k := by
  rcases h.2 with ⟨rfl, _⟩ | ⟨g, cap, cur, rfl, hbg, _⟩
  · simp [Value.ownBlock]
  · simp [Value.ownBlock]; omega
theorem row_not {w : World} {base : Nat} {e : TypeId} {size n k : Nat} {v : Value} {ys : List Value} {o : Obj} (h : w.ownsRow base e size v n ys) (ho : w.heap[k]? = some o) (hc : o.isCells = false) : v.ownBlock ≠ some k := by
  rcases h.2 with ⟨rfl, _⟩ | ⟨g, cap, cur, rfl, _, hg, _⟩
  · simp [Value.ownBlock]
  · intro e
    obtain rfl : g = k := by simpa [Value.ownBlock] using e
    rw [hg] at ho; cases ho; cases hc
/-- One append, inside a round. -/
theorem wpIn_app {F : Fence} {n : Nat} {o : Oper} {a : Act} {w w' : World} {K : Act → World → Prop} {Q : Exit → Act → World → Prop} (s x : Operand) (hop : o.op = Op.call { callee := Callee.builtin Builtin.append, args := #[s, x], argTypes := #[24, 24] })
    (v u v' : Value) (hs : a.eval s = v) (hx : a.eval x = u) (hr : (Builtin.append_ #[24, 24] o.type #[v, u]).run Try.prog w = .ok v' w') (hK : K (a.put o.dst v') w') : Oper.wpIn F n Try.prog o a w K Q := by
  unfold Oper.wpIn
  refine ⟨?_, ?_⟩
  · simp [Oper.about, hop, resolve, Target.leads, Sem.run_pure]
  · rw [Oper.semAt_plain F _ _ (by rw [hop]; intro c hc'; cases hc')]
    simp [execOp, hop, resolve, invoke, builtin, hs, hx, hr, Result.andThen]
    exact hK
/-- What a told line leaves. -/
structure Told (n0 B b lim : Nat) (p cv v' : Value) (m : Nat) (zs : List Value) (W1 w2 w4 : World) : Prop where
  c1 : w2.cell? ⟨n0 + 1, 0, none⟩ = some cv
  f1 : w2.frozen? ⟨n0 + 1, 0, none⟩ = false
  c0 : (w2.setCell ⟨n0 + 1, 0, none⟩ v').cell? ⟨n0, 0, none⟩ = some p
  cb : ∃ a n c, (w2.setCell ⟨n0 + 1, 0, none⟩ v').cell? ⟨b, 1, none⟩ = some (.slice a n c)
  fb : (w2.setCell ⟨n0 + 1, 0, none⟩ v').frozen? ⟨b, 1, none⟩ = false
  b0 : Boxed w4 n0 29 p
  b1 : Boxed w4 (n0 + 1) 24 v'
  row : w4.ownsRow (n0 + 3) 9 1 v' m zs
  fd : Fd w4 B b lim []
  same : ∀ k, k < W1.heap.size → k ≠ b → k ≠ n0 + 1 → cv.ownBlock ≠ some k → w4.heap[k]? = W1.heap[k]?
  bel : Below 0 W1 w4
theorem told_of {n0 B b lim n m : Nat} {p cv v' : Value} {ys zs : List Value} {L : List UInt8} {W1 w2 : World} (tmp : Obj) (hv0 : Boxed W1 n0 29 p) (hv1 : Boxed W1 (n0 + 1) 24 cv) (hrow : W1.ownsRow (n0 + 3) 9 1 cv n ys) (hfd : Fd W1 B b lim L) (hbn : b < n0)
    (hg : (W1.drew.alloc tmp).grownBy w2 cv.ownBlock) (hown : w2.ownsRow (n0 + 3) 9 1 v' m zs) :
    Told n0 B b lim p cv v' m zs W1 w2 ((w2.setCell ⟨n0 + 1, 0, none⟩ v').setCell ⟨b, 1, none⟩ (.slice none 0 0)) := by
  obtain ⟨v, hf⟩ := hfd
  have hs : W1.heap.size ≤ w2.heap.size := by have := hg.size; simp at this; omega
  have k2 : ∀ k, k < W1.heap.size → cv.ownBlock ≠ some k → w2.heap[k]? = W1.heap[k]? := fun k hk hne =>
    (hg.block k (by simp; omega) (fun e => hne e.symm)).trans (Below.heap_alloc W1.drew tmp k hk)
  have r0 : cv.ownBlock ≠ some n0 := fun e => hv0.not_row (by decide) hrow e.symm
  have r1 : cv.ownBlock ≠ some (n0 + 1) := fun e => hv1.not_row (by decide) hrow e.symm
  have rb : cv.ownBlock ≠ some b := by
    rcases hrow.2 with ⟨rfl, _⟩ | ⟨g, cap, cur, rfl, hbg, _⟩
    · simp [Value.ownBlock]
    · simp [Value.ownBlock]; omega
  have rv : ∀ g, v.ownBlock = some g → cv.ownBlock ≠ some g := fun g e1 e2 => by
    rcases hrow.2 with ⟨rfl, _⟩ | ⟨g', cap, cur, rfl, _, hg1, _⟩
    · simp [Value.ownBlock] at e2
    · rcases hf.own.2 with ⟨rfl, _⟩ | ⟨g2, cap2, cur2, rfl, _, hg2, _⟩
      · simp [Value.ownBlock] at e1
      · simp [Value.ownBlock] at e1 e2
        subst e1; subst e2
        have := hg1.symm.trans hg2
        simp at this
  have x0 : Boxed w2 n0 29 p := (k2 _ hv0.lt r0).trans hv0
  have x1 : Boxed w2 (n0 + 1) 24 cv := (k2 _ hv1.lt r1).trans hv1
  have xb : w2.heap[b]? = some (.cells #[.int .i64 lim, v] 53 (0, 0)) := (k2 _ hf.lt rb).trans hf.blk
  have g3 := grownBy_setCell' w2 (n0 + 1) v'
  have y0 : Boxed (w2.setCell ⟨n0 + 1, 0, none⟩ v') n0 29 p := x0.kept g3 (by simp)
  have y1 : Boxed (w2.setCell ⟨n0 + 1, 0, none⟩ v') (n0 + 1) 24 v' := x1.set v'
  have yr : (w2.setCell ⟨n0 + 1, 0, none⟩ v').ownsRow (n0 + 3) 9 1 v' m zs := hown.kept g3 (.inr (x1.not_row (by decide) hown).symm)
  have yb : (w2.setCell ⟨n0 + 1, 0, none⟩ v').heap[b]? = some (.cells #[.int .i64 lim, v] 53 (0, 0)) := (g3.block b (Array.getElem?_eq_some_iff.1 xb).1 (by simp; omega)).trans xb
  have g4 : (w2.setCell ⟨n0 + 1, 0, none⟩ v').grownBy ((w2.setCell ⟨n0 + 1, 0, none⟩ v').setCell ⟨b, 1, none⟩ (.slice none 0 0)) (some b) := ⟨rfl, rfl, rfl, by simp [World.setCell], fun k _ hk => Below.heap_setCell _ _ _ k (fun e => hk (by rw [e]))⟩
  obtain ⟨_, hst⟩ := feed_store (B := B) (v := .slice none 0 0) (l := []) yb ⟨rfl, .inl ⟨rfl, rfl⟩⟩
  obtain ⟨a, nn, c, rfl⟩ := slice_form hf.own
  refine ⟨x1.cell, x1.frozen, y0.cell, ⟨a, nn, c, by rw [Lib.cell_of_heap yb]; rfl⟩, Lib.frozen_of_heap yb 1, y0.kept g4 (by simp; omega), y1.kept g4 (by simp; omega), yr.kept g4 ?_, ⟨_, (feed_store (B := B) (v := .slice none 0 0) (l := []) yb ⟨rfl, .inl ⟨rfl, rfl⟩⟩).1⟩, ?_, ?_⟩
  · rcases yr.2 with ⟨rfl, _⟩ | ⟨g, cap, cur, rfl, hbg, _⟩
    · exact .inl rfl
    · exact .inr (by simp [Value.ownBlock]; omega)
  · intro k hk hb h1 h2
    rw [g4.block k (by have := g3.size; omega) (by simp; omega), g3.block k (by omega) (by simp; omega), k2 k hk h2]
  · have b1 : Below 0 W1 w2 := ⟨hg.os, hg.tape, hg.output, hs, fun k hk => absurd hk (Nat.not_lt_zero _)⟩
    exact (b1.setCell (p := ⟨n0 + 1, 0, none⟩) (Nat.zero_le _) _).setCell (p := ⟨b, 1, none⟩) (Nat.zero_le _) _

set_option maxRecDepth 100000 in
set_option maxHeartbeats 4000000 in
theorem push_any (B b lim : Nat) (t : List UInt8) (s : ByteArray) (w : World) (h : Fd w B b lim (heldL lim t)) (ht : 10 ∉ t) (htl : t.length ≤ 1000000) (hB : B ≤ w.heap.size) (hb : b < w.heap.size) (hlim : lim ≤ 1048576) (hs : s.size ≤ 1000000) :
    Calls Try.prog 24 #[.pointer (some ⟨b, 0, none⟩), .string s] w fun e w' => ∃ v, e = .returned v ∧
      w'.ownsRow w.heap.size 9 1 v (toldL lim (t ++ s.data.toList)).length ((toldL lim (t ++ s.data.toList)).map strV) ∧ Fd w' B b lim (heldL lim (t ++ s.data.toList)) ∧ Fr B b w w' := by
  obtain ⟨i0, hi, hz0, hz1, hz2⟩ := info_parts info9
  have hlen := lines_len s
  have hG := iter_gives index_any 8 (by decide) (w.heap.size + 2) s (by omega)
  have hfl := flatB_lines s.data.toList
  obtain ⟨xs, hxs⟩ : ∃ xs, linesB s.data.toList = xs := ⟨_, rfl⟩
  have HX := Lib.hid hxs
  rw [hxs] at hG hlen hfl
  clear hxs
  obtain ⟨S, hS⟩ : ∃ S, s.data.toList = S := ⟨_, rfl⟩
  rw [hS] at hfl ⊢
  have HS := Lib.hid hS
  clear hS
  subst hfl
  refine (callsIn_wide (n := 9)).1 (callsIn_of_wp_marks Try.func24 rfl trivial ?_ rfl)
  simp only [Try.ntmps24, List.size_toArray, List.length_cons, List.length_nil, Nat.reduceAdd, Nat.reduceSub, Array.replicate_succ, Array.replicate_zero, List.push_toArray, List.append_toArray, List.nil_append, List.cons_append]
  gi_wp2_with (refine ⟨trivial, ?_⟩; gi_at_call 27; refine (callsIn_wide.2 (lines_any s _)).mono ?_; rintro e w2 ⟨rfl, rfl⟩)
  have b0 := (Boxed.new w 29 (.pointer (some ⟨b, 0, none⟩))).alloc (.cells #[.slice none 0 0] 24)
  have b1 := Boxed.new (w.alloc (.cells #[.pointer (some ⟨b, 0, none⟩)] 29)) 24 (.slice none 0 0)
  have b2 := Boxed.new ((w.alloc (.cells #[.pointer (some ⟨b, 0, none⟩)] 29)).alloc (.cells #[.slice none 0 0] 24)) 9 (.string s)
  rw [World.size_alloc] at b1
  rw [World.size_alloc, World.size_alloc] at b2
  have hb3 : Below w.heap.size w (((w.alloc (.cells #[.pointer (some ⟨b, 0, none⟩)] 29)).alloc (.cells #[.slice none 0 0] 24)).alloc (.cells #[.string s] 9)) :=
    ((((Below.refl _ w).alloc (Nat.le_refl _) _).alloc (by simp) _).alloc (by simp; omega) _)
  have h3 : Fd (((w.alloc (.cells #[.pointer (some ⟨b, 0, none⟩)] 29)).alloc (.cells #[.slice none 0 0] 24)).alloc (.cells #[.string s] 9)) B b lim (heldL lim t) := by
    obtain ⟨v, h⟩ := h
    exact ⟨v, (hb3.block b hb).trans h.blk, own_below h.own hb3⟩
  refine wp_lines (by decide) rfl (enters_of Try.func38 (by kernel_rfl) rfl) rfl hG b2
    (fun pre W => (Boxed W w.heap.size 29 (.pointer (some ⟨b, 0, none⟩)) ∧ ∃ cv, Boxed W (w.heap.size + 1) 24 cv ∧ W.ownsRow (w.heap.size + 3) 9 1 cv (toldL lim (t ++ flatB pre)).length ((toldL lim (t ++ flatB pre)).map strV)) ∧
      Fd W B b lim (heldL lim (t ++ flatB pre)) ∧ Fr B b w W)
    (fun pre A C row hi hg hr => ⟨⟨boxed_calm hi.1.1 hg hr (by omega), by obtain ⟨cv, h1, h2⟩ := hi.1.2; exact ⟨cv, boxed_calm h1 hg hr (by omega), own_calm h2 hg hr (.inl (by omega))⟩⟩, fd_calm hi.2.1 hg hr, fr_calm hi.2.2 hg hr (by omega) (by simp; omega)⟩)
    ?start
    (fun x => { tmps := #[.pointer (some ⟨b, 0, none⟩), .string s, .pointer (some ⟨w.heap.size, 0, none⟩), undef, .slice none 0 0, .pointer (some ⟨w.heap.size + 1, 0, none⟩), .string x, .string s, .func (.func 38) #[] #[.pointer (some ⟨w.heap.size + 2, 0, none⟩)], .string x, undef, undef, undef, undef, undef, undef, undef, undef, undef, undef, undef, undef, undef, undef], defers := [] }) ?assign ?body ?done
  case start =>
    have e : toldL lim (t ++ flatB []) = [] := by
      unfold toldL flatB
      rw [List.map_nil, List.flatten_nil, List.append_nil, (no_done ht).1]; rfl
    refine ⟨⟨b0.alloc _, _, b1.alloc _, ?_⟩, ?_, Fr.of_below hb3⟩
    · rw [e]; exact World.ownsRow_nil _ _ _ _
    · rw [show t ++ flatB [] = t by unfold flatB; simp]; exact h3
  case assign =>
    intro l x W K hK
    gi_wp2
    exact hK
  case body =>
    rintro l pre x rest W u hx ⟨⟨hv0, cv, hv1, hrow⟩, hfd, hfr⟩ hbu hsz
    simp only [World.size_alloc] at hsz ⊢
    have c0 := hv0.cell
    have hpt := lines_part (HX.out.trans hx)
    have hps := part_size (HX.out.trans hx)
    have hxs : x.size ≤ 1000000 := by rw [size_list] at hs; omega
    have hA := add_any B b lim _ x W hfd (by have := hfr.bel.size; omega) hlim (held_len _ _) hxs
    have hU := suffix_any x hxs
    have hpl : pre.length + 1 ≤ 1000000 := by rw [hx, List.length_append, List.length_cons] at hlen; omega
    have hTl : (toldL lim (t ++ flatB pre)).length ≤ 2000000 := by
      have h1 : (flatB pre).length ≤ s.size := by
        rw [size_list, HS.out, hx]
        unfold flatB
        simp
      unfold toldL doneL
      rw [List.length_map]
      have h2 := List.length_filter_le ends (splitL (t ++ flatB pre))
      have h3 := split_len (t ++ flatB pre)
      rw [List.length_append] at h3
      omega
    have hfs : t ++ flatB (pre ++ [x]) = (t ++ flatB pre) ++ x.data.toList := by rw [flatB_snoc, ← List.append_assoc]
    rcases hpt with hpt | hpt
    · obtain ⟨e1, e2, e3⟩ := step_term lim (t ++ flatB pre) _ hpt
      rw [ends_term hpt] at hU
      rw [e1] at hA
      have E2 : Hid (toldL lim (t ++ flatB (pre ++ [x])) = toldL lim (t ++ flatB pre) ++ [(restL (t ++ flatB pre) ++ x.data.toList).take lim]) := by rw [hfs]; exact e2
      have E3 : Hid (heldL lim (t ++ flatB (pre ++ [x])) = []) := by rw [hfs]; exact e3
      generalize (restL (t ++ flatB pre) ++ x.data.toList).take lim = L at E2 hA
      have HC : Hid (Boxed W (w.heap.size + 1) 24 cv ∧ W.ownsRow (w.heap.size + 3) 9 1 cv (toldL lim (t ++ flatB pre)).length ((toldL lim (t ++ flatB pre)).map strV)) := ⟨hv1, hrow⟩
      clear e1 e2 e3 hpt hps hG hs hlen hfs hv1 hrow
      gi_wp2_with (first
        | (refine ⟨trivial, ?_⟩; gi_at_call 35; refine (CallsIn.inRound l (callsIn_wide.2 hA)).mono ?_; rintro e W1 ⟨rfl, hfd1, hfr1⟩)
        | (refine ⟨trivial, ?_⟩; gi_at_call 36; refine (CallsIn.inRound l (callsIn_wide.2 (hU _))).mono ?_; rintro e W2 ⟨rfl, hw⟩; rw [hw]; clear hw W2))
      obtain ⟨hv1, hrow⟩ := HC.out
      have x0' := fr_boxed (k := w.heap.size) hfr1 hv0 (by omega) (by decide)
      have x1' := fr_boxed (k := w.heap.size + 1) hfr1 hv1 (by omega) (by decide)
      have xr' := fr_row (base := w.heap.size + 3) hfr1 hrow (by omega) (by decide)
      have x0 : Boxed W1.drew w.heap.size 29 (.pointer (some ⟨b, 0, none⟩)) := x0'
      have x1 : Boxed W1.drew (w.heap.size + 1) 24 cv := x1'
      have xr : W1.drew.ownsRow (w.heap.size + 3) 9 1 cv (toldL lim (t ++ flatB pre)).length ((toldL lim (t ++ flatB pre)).map strV) := xr'
      have d0 := x0.cell
      have d1 := x1.cell
      have a1 : (W1.drew.alloc (.cells #[.string (strL L)] 9)).cell? ⟨w.heap.size + 1, 0, none⟩ = some cv := (x1.alloc (.cells #[.string (strL L)] 9)).cell
      have a2 : (W1.alloc (.cells #[.string (strL L)] 9)).cell? ⟨w.heap.size + 1, 0, none⟩ = some cv := (x1'.alloc (.cells #[.string (strL L)] 9)).cell
      have hfd1d : Fd W1.drew B b lim L := by obtain ⟨v, hf⟩ := hfd1; exact ⟨v, hf.blk, hf.own⟩
      have hR := rest_any B b lim L W1.drew hfd1d
      have hW1 := hfr1.bel.size
      obtain ⟨v', w2, hr, hown, hgr, _⟩ := run_append_own (P := Try.prog) (W1.drew.alloc (.cells #[.string (strL L)] 9)) (w.heap.size + 3) 24 24 9 i0 (.string ⟨#[]⟩) 1 16 Try.underlying24 hi hz0 hz1 hz2 rfl (by decide) cv _ _ (xr.alloc _) ⟨W1.drew.heap.size, 0, none⟩ 1 1 [.string (strL L)] rfl (cell_one_new _ _ _) (by simp [Value.oneCell']) (by unfold maxLen; omega) (by omega) (by rw [World.size_alloc]; show w.heap.size + 3 ≤ W1.heap.size + 1; omega)
      obtain ⟨a', n', c', rfl⟩ := slice_form hown
      have T := told_of (n0 := w.heap.size) (lim := lim) (.cells #[.string (strL L)] 9) x0' x1' xr' hfd1 hb hgr hown
      have t1 := T.c1
      have t2 := T.f1
      have t3 := T.c0
      obtain ⟨ax, nx, cx, t4⟩ := T.cb
      have t5 := T.fb
      have HT := Lib.hid T
      have HXR := Lib.hid xr'
      clear T hown hgr xr x0 x1 xr' x0' x1' hfd1d HC hv1 hrow hv0 hTl hW1 hA hU HS HX hi hz0 hz1 hz2 b0 b1 b2 hb3 h3 c0 h
      refine wpIn_region_any (by kernel_rfl) ?_
      change wpAnyIn _ _ _ _ _ _ _ _ _ (World.drew _)
      refine wpAnyIn_ready (rs := [0, 1]) (by kernel_rfl) (by simp) ?_; refine AllReadyIn.cons rfl (fun K hK => ?_) (AllReadyIn.cons rfl (fun K hK => ?_) AllReadyIn.nil)
      · go_simp; refine hK _ _ ?_; clear hK K
        refine wpAnyIn_ready (rs := [1]) (by kernel_rfl) (by simp) ?_; refine AllReadyIn.cons rfl (fun K hK => ?_) AllReadyIn.nil; go_simp; refine hK _ _ ?_; clear hK K
        refine wpAnyIn_ready (rs := [2]) (by kernel_rfl) (by simp) ?_; refine AllReadyIn.cons rfl (fun K hK => ?_) AllReadyIn.nil; go_simp; gi_wp2_with (refine ⟨trivial, ?_⟩; gi_at_call 25; refine (CallsIn.inRound l (callsIn_wide.2 hR)).mono ?_; rintro e w5 ⟨rfl, hw⟩; rw [← hw]; clear hw w5)
        refine wpAnyIn_ready (rs := [3]) (by kernel_rfl) (by simp) ?_; refine AllReadyIn.cons rfl (fun K hK => ?_) AllReadyIn.nil; go_simp; refine hK _ _ ?_; clear hK K
        refine wpAnyIn_ready (rs := [4]) (by kernel_rfl) (by simp) ?_; refine AllReadyIn.cons rfl (fun K hK => ?_) AllReadyIn.nil; rw [if_pos (by rfl)]; refine wpIn_app (.tmp 15) (.tmp 18) rfl _ _ _ rfl rfl hr ?_; refine hK _ _ ?_; clear hK K; simp only [Act.put, List.setIfInBounds_toArray]
        refine wpAnyIn_ready (rs := [5]) (by kernel_rfl) (by simp) ?_; refine AllReadyIn.cons rfl (fun K hK => ?_) AllReadyIn.nil; go_simp; refine hK _ _ ?_; clear hK K
        refine wpAnyIn_done (by kernel_rfl) ?_ _
        gi_wp2
        have T := HT.out
        obtain ⟨o1, o2⟩ := fr_onward (C := w.heap.size + 1 + 1 + 1) hfr1 (by omega) hbu (by decide) (by omega)
        have hbu1 : Boxed W1 (w.heap.size + 1 + 1) 9 u := o2.trans hbu
        have hf2 := hfr.trans hfr1
        have hsw := hf2.bel.size
        refine ⟨o1.trans ⟨T.bel.size, fun k o hk ho hc => (T.same k (Array.getElem?_eq_some_iff.1 ho).1 (by omega) (by omega) (row_not HXR.out ho hc)).trans ho⟩, (T.same _ hbu1.lt (by omega) (by omega) (row_far HXR.out (by omega))).trans o2, ⟨T.b0, _, T.b1, ?_⟩, ?_, hf2.bel.trans T.bel, fun k hk hkb hu => (T.same k (by omega) hkb (by omega) (row_far HXR.out (by omega))).trans (hf2.same k hk hkb hu)⟩
        · rw [E2.out, List.length_append, List.map_append]; exact T.row
        · rw [E3.out]; exact T.fd
        
      · go_simp; refine hK _ _ ?_; clear hK K
        refine wpAnyIn_ready (rs := [0, 2]) (by kernel_rfl) (by simp) ?_; refine AllReadyIn.cons rfl (fun K hK => ?_) (AllReadyIn.cons rfl (fun K hK => ?_) AllReadyIn.nil)
        · go_simp; refine hK _ _ ?_; clear hK K
          refine wpAnyIn_ready (rs := [2]) (by kernel_rfl) (by simp) ?_; refine AllReadyIn.cons rfl (fun K hK => ?_) AllReadyIn.nil; go_simp; gi_wp2_with (refine ⟨trivial, ?_⟩; gi_at_call 25; refine (CallsIn.inRound l (callsIn_wide.2 hR)).mono ?_; rintro e w5 ⟨rfl, hw⟩; rw [← hw]; clear hw w5)
          refine wpAnyIn_ready (rs := [3]) (by kernel_rfl) (by simp) ?_; refine AllReadyIn.cons rfl (fun K hK => ?_) AllReadyIn.nil; go_simp; refine hK _ _ ?_; clear hK K
          refine wpAnyIn_ready (rs := [4]) (by kernel_rfl) (by simp) ?_; refine AllReadyIn.cons rfl (fun K hK => ?_) AllReadyIn.nil; rw [if_pos (by rfl)]; refine wpIn_app (.tmp 15) (.tmp 18) rfl _ _ _ rfl rfl hr ?_; refine hK _ _ ?_; clear hK K; simp only [Act.put, List.setIfInBounds_toArray]
          refine wpAnyIn_ready (rs := [5]) (by kernel_rfl) (by simp) ?_; refine AllReadyIn.cons rfl (fun K hK => ?_) AllReadyIn.nil; go_simp; refine hK _ _ ?_; clear hK K
          refine wpAnyIn_done (by kernel_rfl) ?_ _
          gi_wp2
          have T := HT.out
          obtain ⟨o1, o2⟩ := fr_onward (C := w.heap.size + 1 + 1 + 1) hfr1 (by omega) hbu (by decide) (by omega)
          have hbu1 : Boxed W1 (w.heap.size + 1 + 1) 9 u := o2.trans hbu
          have hf2 := hfr.trans hfr1
          have hsw := hf2.bel.size
          refine ⟨o1.trans ⟨T.bel.size, fun k o hk ho hc => (T.same k (Array.getElem?_eq_some_iff.1 ho).1 (by omega) (by omega) (row_not HXR.out ho hc)).trans ho⟩, (T.same _ hbu1.lt (by omega) (by omega) (row_far HXR.out (by omega))).trans o2, ⟨T.b0, _, T.b1, ?_⟩, ?_, hf2.bel.trans T.bel, fun k hk hkb hu => (T.same k (by omega) hkb (by omega) (row_far HXR.out (by omega))).trans (hf2.same k hk hkb hu)⟩
          · rw [E2.out, List.length_append, List.map_append]; exact T.row
          · rw [E3.out]; exact T.fd
          
        · go_simp; gi_wp2_with (refine ⟨trivial, ?_⟩; gi_at_call 25; refine (CallsIn.inRound l (callsIn_wide.2 hR)).mono ?_; rintro e w5 ⟨rfl, hw⟩; rw [← hw]; clear hw w5)
          refine wpAnyIn_ready (rs := [0, 3]) (by kernel_rfl) (by simp) ?_; refine AllReadyIn.cons rfl (fun K hK => ?_) (AllReadyIn.cons rfl (fun K hK => ?_) AllReadyIn.nil)
          · go_simp; refine hK _ _ ?_; clear hK K
            refine wpAnyIn_ready (rs := [3]) (by kernel_rfl) (by simp) ?_; refine AllReadyIn.cons rfl (fun K hK => ?_) AllReadyIn.nil; go_simp; refine hK _ _ ?_; clear hK K
            refine wpAnyIn_ready (rs := [4]) (by kernel_rfl) (by simp) ?_; refine AllReadyIn.cons rfl (fun K hK => ?_) AllReadyIn.nil; rw [if_pos (by rfl)]; refine wpIn_app (.tmp 15) (.tmp 18) rfl _ _ _ rfl rfl hr ?_; refine hK _ _ ?_; clear hK K; simp only [Act.put, List.setIfInBounds_toArray]
            refine wpAnyIn_ready (rs := [5]) (by kernel_rfl) (by simp) ?_; refine AllReadyIn.cons rfl (fun K hK => ?_) AllReadyIn.nil; go_simp; refine hK _ _ ?_; clear hK K
            refine wpAnyIn_done (by kernel_rfl) ?_ _
            gi_wp2
            have T := HT.out
            obtain ⟨o1, o2⟩ := fr_onward (C := w.heap.size + 1 + 1 + 1) hfr1 (by omega) hbu (by decide) (by omega)
            have hbu1 : Boxed W1 (w.heap.size + 1 + 1) 9 u := o2.trans hbu
            have hf2 := hfr.trans hfr1
            have hsw := hf2.bel.size
            refine ⟨o1.trans ⟨T.bel.size, fun k o hk ho hc => (T.same k (Array.getElem?_eq_some_iff.1 ho).1 (by omega) (by omega) (row_not HXR.out ho hc)).trans ho⟩, (T.same _ hbu1.lt (by omega) (by omega) (row_far HXR.out (by omega))).trans o2, ⟨T.b0, _, T.b1, ?_⟩, ?_, hf2.bel.trans T.bel, fun k hk hkb hu => (T.same k (by omega) hkb (by omega) (row_far HXR.out (by omega))).trans (hf2.same k hk hkb hu)⟩
            · rw [E2.out, List.length_append, List.map_append]; exact T.row
            · rw [E3.out]; exact T.fd
            
          · go_simp; refine hK _ _ ?_; clear hK K
            refine wpAnyIn_ready (rs := [0]) (by kernel_rfl) (by simp) ?_; refine AllReadyIn.cons rfl (fun K hK => ?_) AllReadyIn.nil; go_simp; refine hK _ _ ?_; clear hK K
            refine wpAnyIn_ready (rs := [4]) (by kernel_rfl) (by simp) ?_; refine AllReadyIn.cons rfl (fun K hK => ?_) AllReadyIn.nil; rw [if_pos (by rfl)]; refine wpIn_app (.tmp 15) (.tmp 18) rfl _ _ _ rfl rfl hr ?_; refine hK _ _ ?_; clear hK K; simp only [Act.put, List.setIfInBounds_toArray]
            refine wpAnyIn_ready (rs := [5]) (by kernel_rfl) (by simp) ?_; refine AllReadyIn.cons rfl (fun K hK => ?_) AllReadyIn.nil; go_simp; refine hK _ _ ?_; clear hK K
            refine wpAnyIn_done (by kernel_rfl) ?_ _
            gi_wp2
            have T := HT.out
            obtain ⟨o1, o2⟩ := fr_onward (C := w.heap.size + 1 + 1 + 1) hfr1 (by omega) hbu (by decide) (by omega)
            have hbu1 : Boxed W1 (w.heap.size + 1 + 1) 9 u := o2.trans hbu
            have hf2 := hfr.trans hfr1
            have hsw := hf2.bel.size
            refine ⟨o1.trans ⟨T.bel.size, fun k o hk ho hc => (T.same k (Array.getElem?_eq_some_iff.1 ho).1 (by omega) (by omega) (row_not HXR.out ho hc)).trans ho⟩, (T.same _ hbu1.lt (by omega) (by omega) (row_far HXR.out (by omega))).trans o2, ⟨T.b0, _, T.b1, ?_⟩, ?_, hf2.bel.trans T.bel, fun k hk hkb hu => (T.same k (by omega) hkb (by omega) (row_far HXR.out (by omega))).trans (hf2.same k hk hkb hu)⟩
            · rw [E2.out, List.length_append, List.map_append]; exact T.row
            · rw [E3.out]; exact T.fd
            
    · obtain ⟨e1, e2⟩ := step_tail lim (t ++ flatB pre) _ hpt
      rw [ends_tail hpt] at hU
      rw [e1, ← hfs] at hA
      have E2 : Hid (toldL lim (t ++ flatB (pre ++ [x])) = toldL lim (t ++ flatB pre)) := by rw [hfs]; exact e2
      clear e1 e2 hpt hps hG hs hlen hfs
      gi_wp2_with (first
        | (refine ⟨trivial, ?_⟩; gi_at_call 35; refine (CallsIn.inRound l (callsIn_wide.2 hA)).mono ?_; rintro e W1 ⟨rfl, hfd1, hfr1⟩)
        | (refine ⟨trivial, ?_⟩; gi_at_call 36; refine (CallsIn.inRound l (callsIn_wide.2 (hU _))).mono ?_; rintro e W2 ⟨rfl, rfl⟩))
      obtain ⟨o1, o2⟩ := fr_onward (C := w.heap.size + 1 + 1 + 1) hfr1 (by omega) hbu (by decide) (by omega)
      refine ⟨o1, o2, ⟨fr_boxed hfr1 hv0 (by omega) (by decide), cv, fr_boxed hfr1 hv1 (by omega) (by decide), ?_⟩, hfd1, hfr.trans hfr1⟩
      rw [E2.out]
      exact fr_row hfr1 hrow (by omega) (by decide)
  case done =>
    rintro D W hD ⟨⟨hv0, cv, hv1, hrow⟩, hfd, hfr⟩ hK
    have hc := hv1.cell
    gi_wp2
    refine ⟨by simp, .inl ⟨_, _, rfl, run_takeDeferred hK, ?_⟩⟩
    simp only [World.size_alloc] at hD
    have hgr := grownBy_putObj' W D (.deferred none)
    have hrr : ∀ r, some D = some r → (r = w.heap.size + 2 ∧ ∃ u, Boxed W (w.heap.size + 2) 9 u) ∨ (w.heap.size ≤ r ∧ ∃ o : Obj, W.heap[r]? = some o ∧ o.isCells = false) := fun r e => by cases e; exact .inr ⟨by omega, _, hK, rfl⟩
    refine ⟨_, results_tmp rfl _ _ _, cv, rfl, ?_, fd_calm hfd hgr hrr, fr_calm hfr hgr hrr (by omega) (Nat.le_refl _)⟩
    have h5 := ownsRow_putObj hrow (.deferred none) hK rfl
    refine ⟨h5.1, ?_⟩
    rcases h5.2 with h1 | ⟨g, cap, cur, rfl, hbg, hg, r⟩
    · exact .inl h1
    · exact .inr ⟨g, cap, cur, rfl, by omega, hg, r⟩
end Go.Proofs.Ytpoimbhfggkiiaa
