/- What the iterator's steps leave as it is; a strings.Builder. -/
import Derived.Test.YtocghngmjipjoaaDoorBits
import Derived.Maps.AppendAt
import Derived.Lib.OthersKept
namespace Go.Proofs.YtocghngmjipjoaaDoor
open Go.ChangeShapes Go.WideShapes Go.ChangeAt Go.RowKit
open LinesP HdrP

attribute [local go_sem] Oper.semAt_some

section
variable {bx B : Nat} {W W' : World}
theorem calm_row (h : LSt bx W W' ∨ Book B W W') : ∃ row, W.grownBy W' row ∧ ∀ r, row = some r → (r = bx ∧ ∃ u, Boxed W bx 9 u) ∨ (B ≤ r ∧ ∃ o : Obj, W.heap[r]? = some o ∧ o.isCells = false) := by
  rcases h with ⟨row, hg, hr⟩ | ⟨row, hg, hr⟩
  · exact ⟨row, hg, fun r e => .inl (hr r e)⟩
  · exact ⟨row, hg, fun r e => .inr (hr r e)⟩
/-- A block of cells that is not the iterator's box lies as it lay. -/
theorem cells_calm {b : Nat} {c : Array Value} {t : TypeId} {fz : Nat × Nat} (h : W.heap[b]? = some (.cells c t fz)) (hg : LSt bx W W' ∨ Book B W W') (hb : b ≠ bx) : W'.heap[b]? = some (.cells c t fz) := by
  obtain ⟨row, hg, hr⟩ := calm_row hg
  refine (hg.block b (Array.getElem?_eq_some_iff.1 h).1 fun e => ?_).trans h
  rcases hr b e.symm with ⟨h1, _⟩ | ⟨_, o, ho, hc⟩
  · exact hb h1
  · rw [h] at ho; cases ho; cases hc
theorem boxed_calm {b : Nat} {t : TypeId} {v : Value} (h : Boxed W b t v) (hg : LSt bx W W' ∨ Book B W W') (hb : b ≠ bx) : Boxed W' b t v := cells_calm h hg hb
theorem below_calm {w : World} (h : Below bx w W) (hg : LSt bx W W' ∨ Book B W W') (hb : bx ≤ w.heap.size) (hB : bx ≤ B) : Below bx w W' := by
  obtain ⟨row, hg, hr⟩ := calm_row hg
  exact h.grown hg (Nat.le_trans hb h.size) (fun k e => by
    rcases hr k e with ⟨h1, _⟩ | ⟨h1, _⟩
    · omega
    · omega)
theorem below_calm2 {w : World} {C : Nat} (h : Below C w W) (hg : LSt bx W W' ∨ Book B W W') (hC : C ≤ w.heap.size) (hb : C ≤ bx) (hB : C ≤ B) : Below C w W' := by
  obtain ⟨row, hg, hr⟩ := calm_row hg
  exact h.grown hg (Nat.le_trans hC h.size) (fun k e => by
    rcases hr k e with ⟨h1, _⟩ | ⟨h1, _⟩
    · omega
    · omega)
end
theorem book_box {bx B : Nat} (A C : World) (hb : bx < B) (h : ∃ u, Boxed A bx 9 u) (hk : Book B A C) : ∃ u, Boxed C bx 9 u := by
  obtain ⟨u, hu⟩ := h
  obtain ⟨row, hg, hr⟩ := hk
  exact ⟨u, hu.kept hg fun e => by obtain ⟨h1, _⟩ := hr bx e.symm; omega⟩
theorem split_len (l : List UInt8) : (splitL l).length ≤ l.length := by
  induction l with
  | nil => exact Nat.le_refl _
  | cons c t ih =>
    unfold splitL
    by_cases hc : c = 10
    · rw [if_pos hc, List.length_cons, List.length_cons]; omega
    · rw [if_neg hc]
      split
      · simp
      · rename_i h; rw [h] at ih; simp at ih ⊢; omega
theorem lines_len (s : ByteArray) : (linesB s.data.toList).length ≤ s.size := by
  unfold linesB
  rw [List.length_map, size_list]
  exact split_len _
/-- The lines' bytes in a row. -/
def flatB (xs : List ByteArray) : List UInt8 := (xs.map fun s => s.data.toList).flatten
theorem flatB_lines (l : List UInt8) : flatB (linesB l) = l := by
  unfold flatB linesB
  rw [List.map_map, show ((fun s : ByteArray => s.data.toList) ∘ strL) = id from funext fun x => rfl, List.map_id, split_flat]
theorem flatB_snoc (xs : List ByteArray) (x : ByteArray) : flatB (xs ++ [x]) = flatB xs ++ x.data.toList := by unfold flatB; simp
theorem flat_bound {s : ByteArray} {pre rest : List ByteArray} {x : ByteArray} (h : linesB s.data.toList = pre ++ x :: rest) : (flatB pre).length + x.size ≤ s.size := by
  have := flatB_lines s.data.toList
  rw [h] at this
  have h2 := congrArg List.length this
  rw [← size_list] at h2
  unfold flatB at h2 ⊢
  rw [List.map_append, List.flatten_append, List.map_cons, List.flatten_cons, List.length_append, List.length_append, ← size_list] at h2
  omega
theorem line_ne {s : ByteArray} {pre rest : List ByteArray} {x : ByteArray} (h : linesB s.data.toList = pre ++ x :: rest) : 0 < x.size ∧ (Term x.data.toList ∨ Tail x.data.toList) := by
  have hm : x ∈ linesB s.data.toList := by rw [h]; simp
  unfold linesB at hm
  obtain ⟨l, hl, rfl⟩ := List.mem_map.1 hm
  have hg := good_mem (split_good s.data.toList) l hl
  refine ⟨?_, hg⟩
  rw [strL_size]
  rcases hg with ⟨m, rfl, _⟩ | h
  · simp
  · exact List.length_pos_iff.2 h.1
/-! ### A builder -/
/-- The strings.Builder in block b holds l. -/
def Bd (w : World) (b : Nat) (l : List UInt8) : Prop := Lib.IsBuilderF 55 5 b b (Lib.byteCells l) w
section
variable {bx C : Nat} {W W' : World}
theorem ownF_calm {base : Nat} {v : Value} {n : Nat} {xs : List Value} (h : W.ownsRowF base 5 1 v n xs) (hg0 : LSt bx W W' ∨ Book C W W') : W'.ownsRowF base 5 1 v n xs := by
  obtain ⟨row, hg, hr⟩ := calm_row hg0
  refine h.kept hg ?_
  rcases h.2 with ⟨rfl, _⟩ | ⟨g, cap, cur, fz, rfl, _, hgb, _⟩
  · exact .inl rfl
  · refine .inr fun e' => ?_
    rcases hr g (by simpa [Value.ownBlock] using e'.symm) with ⟨h1, u, hu⟩ | ⟨_, o, ho, hc⟩
    · subst h1
      have := (show W.heap[g]? = _ from hu).symm.trans hgb
      simp at this
    · rw [hgb] at ho; cases ho; cases hc
theorem at_calm {b : Nat} {p : Value} {bs : List Value} (h : Lib.BuilderAtF 55 5 b b p bs W) (hg0 : LSt bx W W' ∨ Book C W W') : Lib.BuilderAtF 55 5 b b p bs W' := by
  obtain ⟨row, hg, hr⟩ := calm_row hg0
  obtain ⟨hB, v, hk, hown, hne⟩ := h
  refine ⟨hB, v, (hg.block b (Array.getElem?_eq_some_iff.1 hk).1 fun e => ?_).trans hk, ownF_calm hown hg0, hne⟩
  rcases hr b e.symm with ⟨h1, u, hu⟩ | ⟨_, o, ho, hc⟩
  · subst h1
    have := hk.symm.trans (show W.heap[b]? = _ from hu)
    simp at this
  · rw [hk] at ho; cases ho; cases hc
theorem bd_calm {b : Nat} {l : List UInt8} (h : Bd W b l) (hg : LSt bx W W' ∨ Book C W W') : Bd W' b l :=
  h.elim (fun x => .inl (at_calm x hg)) (fun x => .inr (at_calm x hg))
end
theorem bd_lt {w : World} {b : Nat} {l : List UInt8} (h : Bd w b l) : b < w.heap.size := h.elim (fun x => x.lt) (fun x => x.lt)
theorem bd_new (w : World) : Bd (w.alloc (.cells #[.pointer none, .slice none 0 0] 55)) w.heap.size [] :=
  Lib.IsBuilderF.of (.inl ⟨Nat.le_refl _, .slice none 0 0, World.alloc_heap_new w _, ⟨rfl, .inl ⟨rfl, rfl⟩⟩, by simp [Value.ownBlock]⟩)
theorem bd_str (s : ByteArray) (b : Nat) (l : List UInt8) (w : World) (h : Bd w b l) (hlen : l.length + s.size ≤ 140737488355328) :
    Calls Tryd.prog 39 #[.pointer (some ⟨b, 0, none⟩), .string s] w fun e w' => e = .returned (.tuple #[.int .i64 s.size, .nilIface]) ∧ Bd w' b (l ++ s.data.toList) ∧ Below b w w' ∧ Lib.OthersKept 5 (some b) w w' := by
  refine (Tryd.Builder_WriteString_k b b (Lib.byteCells l) s w h (by rw [Lib.byteCells_length]; exact hlen) (Nat.le_of_lt (bd_lt h))).mono fun e w' hh => ⟨hh.1, ?_, hh.2.2⟩
  have := hh.2.1
  rw [show Lib.strCells s = Lib.byteCells s.data.toList from rfl, ← Lib.byteCells_append] at this
  exact .inr this
theorem bd_out (b : Nat) (l : List UInt8) (w : World) (h : Bd w b l) :
    Calls Tryd.prog 40 #[.pointer (some ⟨b, 0, none⟩)] w fun e w' => e = .returned (.string (strL l)) ∧ Below b w w' ∧ Lib.OthersKept 5 (some b) w w' :=
  (Tryd.Builder_String_any_k b b l w h (Nat.le_of_lt (bd_lt h))).mono fun _ _ hh => ⟨hh.1, hh.2.2⟩
theorem kept_onward {b C bx : Nat} {u : Value} {w w' : World} (h : Lib.OthersKept 5 (some b) w w') (hs : w.heap.size ≤ w'.heap.size) (hb : b < C) (hbx : Boxed w bx 9 u) (hne : bx ≠ b) : KeepsFrom C w w' ∧ w'.heap[bx]? = w.heap[bx]? :=
  ⟨⟨hs, fun k o hk ho hc => h k o ho (by simp; omega) (fun c fz e => by rw [e] at hc; cases hc)⟩, by
    rw [show w.heap[bx]? = _ from hbx]
    exact h bx _ hbx (by simp; omega) (fun c fz e => by cases e)⟩
/-! ### Unfold -/
def outB (g : List UInt8 → List UInt8) (xs : List ByteArray) : List UInt8 := (xs.map fun s => g s.data.toList).flatten
theorem outB_snoc (g : List UInt8 → List UInt8) (xs : List ByteArray) (x : ByteArray) : outB g (xs ++ [x]) = outB g xs ++ g x.data.toList := by
  unfold outB; simp
theorem outB_len (g : List UInt8 → List UInt8) (hg : ∀ l, (g l).length ≤ l.length) (xs : List ByteArray) : (outB g xs).length ≤ (flatB xs).length := by
  induction xs with
  | nil => exact Nat.le_refl _
  | cons x r ih =>
    have := hg x.data.toList
    unfold outB flatB at ih ⊢
    simp only [List.map_cons, List.flatten_cons, List.length_append] at ih ⊢
    omega
theorem outB_lines (g : List UInt8 → List UInt8) (l : List UInt8) : outB g (linesB l) = ((splitL l).map g).flatten := by
  unfold outB linesB
  rw [List.map_map]; rfl

set_option maxRecDepth 100000 in
set_option maxHeartbeats 2000000 in
theorem unfold_any (s : ByteArray) (hs : s.size ≤ 1000000) (w : World) :
    Calls Tryd.prog 17 #[.string s] w fun e w' => e = .returned (.string (strL (unfoldL s.data.toList))) ∧ Below w.heap.size w w' := by
  have hG := iter_gives index_any 8 (by decide) (w.heap.size + 1) s (by omega)
  have hres : outB bareL (linesB s.data.toList) = unfoldL s.data.toList := (outB_lines bareL s.data.toList).trans (unfold_lines _).symm
  have hfb := @flat_bound s
  obtain ⟨xs, hxs⟩ : ∃ xs, linesB s.data.toList = xs := ⟨_, rfl⟩
  rw [hxs] at hG hres
  simp only [hxs] at hfb
  have HR := Lib.hid hres
  clear hxs hres
  refine (callsIn_wide (n := 9)).1 (callsIn_of_wp_marks Tryd.func17 rfl trivial ?_ rfl)
  simp only [Tryd.ntmps17, List.size_toArray, List.length_cons, List.length_nil, Nat.reduceAdd, Nat.reduceSub, Array.replicate_succ, Array.replicate_zero, List.push_toArray, List.append_toArray, List.nil_append, List.cons_append]
  gi_wp2_with (refine ⟨trivial, ?_⟩; gi_at_call 41; refine (callsIn_wide.2 (lines_any s _)).mono ?_; rintro e w2 ⟨rfl, rfl⟩)
  have b0 := bd_new w
  have b1 := Boxed.new (w.alloc (.cells #[.pointer none, .slice none 0 0] 55)) 9 (.string s)
  rw [World.size_alloc] at b1
  have hb2 : Below w.heap.size w ((w.alloc (.cells #[.pointer none, .slice none 0 0] 55)).alloc (.cells #[.string s] 9)) := ((Below.refl _ w).alloc (Nat.le_refl _) _).alloc (by simp) _
  refine wp_iter (by decide) rfl (enters_of Tryd.func54 (by kernel_rfl) rfl) rfl hG (fun o o' => (b1.alloc o).alloc o') (by rintro k rfl; simp) lst_kept (fun A C h k => book_box A C (by simp) h k)
    (fun pre W => Bd W w.heap.size (outB bareL pre) ∧ Below w.heap.size w W) (fun _ _ _ => False)
    (fun pre A C hi hg => ⟨bd_calm hi.1 hg, below_calm2 hi.2 hg (Nat.le_refl _) (by omega) (by simp; omega)⟩) (fun _ _ _ _ h _ => h.elim)
    ⟨b0.alloc _, hb2⟩
    (fun x => { tmps := #[.string s, undef, .string ⟨#[]⟩, .pointer (some ⟨w.heap.size, 0, none⟩), .string x, .string s, .func (.func 54) #[] #[.pointer (some ⟨w.heap.size + 1, 0, none⟩)], .string x, undef, undef, undef, undef], defers := [] }) ?assign ?body ?done (fun _ _ _ _ _ h => h.elim)
  case assign =>
    intro l x W K hK
    gi_wp2
    exact hK
  case body =>
    rintro l pre x rest W hx ⟨hbd, hB⟩ ⟨u, hbu⟩ hsz
    simp only [World.size_alloc] at hsz ⊢
    have hfx := hfb hx
    have hlen := outB_len bareL bare_le pre
    have E1 : Hid (outB bareL (pre ++ [x]) = outB bareL pre ++ bareL x.data.toList) := outB_snoc _ _ _
    have hT := bare_any x (by omega) W
    have hbl := bare_le x.data.toList
    rw [← size_list] at hbl
    have hW := bd_str (strL (bareL x.data.toList)) _ _ W hbd (by rw [strL_size]; omega)
    rw [strL_list] at hW
    generalize strL (bareL x.data.toList) = R at hT hW
    clear hfb hG b0 b1 hb2 hx hlen hbl
    gi_wp2_with (first
      | (refine ⟨trivial, ?_⟩; gi_at_call 42; refine (CallsIn.inRound l (callsIn_wide.2 hT)).mono ?_; rintro e W2 ⟨rfl, hw⟩; rw [hw]; clear hw W2)
      | (refine ⟨trivial, ?_⟩; gi_at_call 39; refine (CallsIn.inRound l (callsIn_wide.2 hW)).mono ?_; rintro e W3 ⟨rfl, hbd3, hb3, hk3⟩))
    obtain ⟨o1, o2⟩ := kept_onward (C := w.heap.size + 1 + 1) hk3 hb3.size (by omega) hbu (by omega)
    refine ⟨o1, (by rintro k rfl; exact o2), ?_, hB.trans hb3⟩
    rw [E1.out]
    exact hbd3
  case done =>
    rintro D W hD ⟨hbd, hB⟩ hK
    simp only [World.size_alloc] at hD
    have hO := bd_out _ _ W hbd
    gi_wp2_with (refine ⟨trivial, ?_⟩; gi_at_call 40; refine (callsIn_wide.2 hO).mono ?_; rintro e w3 ⟨rfl, hb3, hk3⟩)
    have hK3 := hk3 _ _ hK (by simp; omega) (fun c fz e => by cases e)
    refine ⟨by simp, .inl ⟨_, _, rfl, run_takeDeferred hK3, ?_⟩⟩
    have hb4 := hB.trans hb3
    rw [HR.out]
    exact ⟨_, results_tmp rfl _ _ _, rfl, hb4.grown (grownBy_putObj' _ _ _) hb4.size (fun k e => by cases e; omega)⟩
end Go.Proofs.YtocghngmjipjoaaDoor
