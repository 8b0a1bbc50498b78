/- Crlf, Stuff and Unstuff. -/
import Derived.Test.YtpoimbhfggkiiaaPush
namespace Go.Proofs.Ytpoimbhfggkiiaa
open Go.ChangeShapes Go.WideShapes Go.ChangeAt Go.RowKit
open LinesP

attribute [local go_sem] Oper.semAt_some

/-- The strings.Builder in block b holds l. -/
def Bd (w : World) (b : Nat) (l : List UInt8) : Prop := Lib.IsBuilderF 46 5 b b (Lib.byteCells l) w
section
variable {bx C : Nat} {W W' : World} {row : Option Nat}
theorem ownF_calm {base : Nat} {v : Value} {n : Nat} {xs : List Value} (h : W.ownsRowF base 5 1 v n xs) (hg : W.grownBy W' row) (hr : ∀ r, row = some r → (r = bx ∧ ∃ u, Boxed W bx 9 u) ∨ (C ≤ r ∧ ∃ o : Obj, W.heap[r]? = some o ∧ o.isCells = false)) : W'.ownsRowF base 5 1 v n xs := by
  refine h.kept hg ?_
  rcases h.2 with ⟨rfl, _⟩ | ⟨g, cap, cur, fz, rfl, _, hgb, _⟩
  · exact .inl rfl
  · refine .inr fun e' => ?_
    rcases hr g (by simpa [Value.ownBlock] using e'.symm) with ⟨h1, u, hu⟩ | ⟨_, o, ho, hc⟩
    · subst h1
      have := (show W.heap[g]? = _ from hu).symm.trans hgb
      simp at this
    · rw [hgb] at ho; cases ho; cases hc
theorem at_calm {b : Nat} {p : Value} {bs : List Value} (h : Lib.BuilderAtF 46 5 b b p bs W) (hg : W.grownBy W' row) (hr : ∀ r, row = some r → (r = bx ∧ ∃ u, Boxed W bx 9 u) ∨ (C ≤ r ∧ ∃ o : Obj, W.heap[r]? = some o ∧ o.isCells = false)) : Lib.BuilderAtF 46 5 b b p bs W' := by
  obtain ⟨hB, v, hk, hown, hne⟩ := h
  refine ⟨hB, v, (hg.block b (Array.getElem?_eq_some_iff.1 hk).1 fun e => ?_).trans hk, ownF_calm hown hg hr, hne⟩
  rcases hr b e.symm with ⟨h1, u, hu⟩ | ⟨_, o, ho, hc⟩
  · subst h1
    have := hk.symm.trans (show W.heap[b]? = _ from hu)
    simp at this
  · rw [hk] at ho; cases ho; cases hc
theorem bd_calm {b : Nat} {l : List UInt8} (h : Bd W b l) (hg : W.grownBy W' row) (hr : ∀ r, row = some r → (r = bx ∧ ∃ u, Boxed W bx 9 u) ∨ (C ≤ r ∧ ∃ o : Obj, W.heap[r]? = some o ∧ o.isCells = false)) : Bd W' b l :=
  h.elim (fun x => .inl (at_calm x hg hr)) (fun x => .inr (at_calm x hg hr))
end
theorem bd_lt {w : World} {b : Nat} {l : List UInt8} (h : Bd w b l) : b < w.heap.size := h.elim (fun x => x.lt) (fun x => x.lt)
theorem bd_new (w : World) : Bd (w.alloc (.cells #[.pointer none, .slice none 0 0] 46)) w.heap.size [] :=
  Lib.IsBuilderF.of (.inl ⟨Nat.le_refl _, .slice none 0 0, World.alloc_heap_new w _, ⟨rfl, .inl ⟨rfl, rfl⟩⟩, by simp [Value.ownBlock]⟩)
theorem bd_str (s : ByteArray) (b : Nat) (l : List UInt8) (w : World) (h : Bd w b l) (hlen : l.length + s.size ≤ 140737488355328) :
    Calls Try.prog 30 #[.pointer (some ⟨b, 0, none⟩), .string s] w fun e w' => e = .returned (.tuple #[.int .i64 s.size, .nilIface]) ∧ Bd w' b (l ++ s.data.toList) ∧ Below b w w' ∧ Lib.OthersKept 5 (some b) w w' := by
  refine (Try.Builder_WriteString_k b b (Lib.byteCells l) s w h (by rw [Lib.byteCells_length]; exact hlen) (Nat.le_of_lt (bd_lt h))).mono fun e w' hh => ⟨hh.1, ?_, hh.2.2⟩
  have := hh.2.1
  rw [show Lib.strCells s = Lib.byteCells s.data.toList from rfl, ← Lib.byteCells_append] at this
  exact .inr this
theorem bd_out (b : Nat) (l : List UInt8) (w : World) (h : Bd w b l) :
    Calls Try.prog 31 #[.pointer (some ⟨b, 0, none⟩)] w fun e w' => e = .returned (.string (strL l)) ∧ Below b w w' ∧ Lib.OthersKept 5 (some b) w w' :=
  (Try.Builder_String_any_k b b l w h (Nat.le_of_lt (bd_lt h))).mono fun _ _ hh => ⟨hh.1, hh.2.2⟩
theorem kept_onward {b C bx : Nat} {u : Value} {w w' : World} (h : Lib.OthersKept 5 (some b) w w') (hs : w.heap.size ≤ w'.heap.size) (hb : b < C) (hbx : Boxed w bx 9 u) (hne : bx ≠ b) : KeepsFrom C w w' ∧ w'.heap[bx]? = w.heap[bx]? :=
  ⟨⟨hs, fun k o hk ho hc => h k o ho (by simp; omega) (fun c fz e => by rw [e] at hc; cases hc)⟩, by
    rw [show w.heap[bx]? = _ from hbx]
    exact h bx _ hbx (by simp; omega) (fun c fz e => by cases e)⟩
def outB (g : List UInt8 → List UInt8) (xs : List ByteArray) : List UInt8 := (xs.map fun s => g s.data.toList).flatten
theorem outB_snoc (g : List UInt8 → List UInt8) (xs : List ByteArray) (x : ByteArray) : outB g (xs ++ [x]) = outB g xs ++ g x.data.toList := by
  unfold outB; simp
theorem outB_len (g : List UInt8 → List UInt8) (hg : ∀ l, (g l).length ≤ l.length + 1) (xs : List ByteArray) : (outB g xs).length ≤ (flatB xs).length + xs.length := by
  induction xs with
  | nil => exact Nat.le_refl _
  | cons x r ih =>
    have := hg x.data.toList
    unfold outB flatB at ih ⊢
    simp only [List.map_cons, List.flatten_cons, List.length_append, List.length_cons] at ih ⊢
    omega
theorem outB_lines (g : List UInt8 → List UInt8) (l : List UInt8) : outB g (linesB l) = ((splitL l).map g).flatten := by
  unfold outB linesB
  rw [List.map_map]; rfl
theorem out_bound {g : List UInt8 → List UInt8} (hg : ∀ l, (g l).length ≤ l.length + 1) {s : ByteArray} {pre : List ByteArray} {x : ByteArray} {rest : List ByteArray} (h : linesB s.data.toList = pre ++ x :: rest) : (outB g pre).length ≤ 2 * s.size := by
  have h1 := outB_len g hg pre
  have h2 := lines_len s
  have h3 := flatB_lines s.data.toList
  rw [h] at h2 h3
  have h4 : (flatB pre).length ≤ s.size := by
    rw [size_list, ← h3]
    unfold flatB
    simp
  rw [List.length_append] at h2
  omega
theorem crlf_len (l : List UInt8) : (crlf1 l).length ≤ l.length + 1 := by
  unfold crlf1
  split
  · rename_i h
    obtain ⟨m, rfl⟩ := List.getLast?_eq_some_iff.1 h
    rw [bare_term, List.length_append, List.length_append]
    split
    · rw [List.length_dropLast]; simp
    · simp
  · omega
theorem stuff_len (l : List UInt8) : (stuff1 l).length ≤ l.length + 1 := by
  unfold stuff1; split
  · simp
  · omega
theorem unstuff_len (l : List UInt8) : (unstuff1 l).length ≤ l.length + 1 := by
  unfold unstuff1; split
  · rw [List.length_tail]; omega
  · omega

set_option maxRecDepth 100000 in
set_option maxHeartbeats 2000000 in
theorem unstuff_any (s : ByteArray) (hs : s.size ≤ 1000000) (w : World) :
    Calls Try.prog 19 #[.string s] w fun e w' => e = .returned (.string (strL (unstuffL s.data.toList))) ∧ Below w.heap.size w w' := by
  have hG := iter_gives index_any 8 (by decide) (w.heap.size + 1) s (by omega)
  have hres := outB_lines unstuff1 s.data.toList
  have hlb := @out_bound unstuff1 unstuff_len s
  have hpz := @part_size s.data.toList
  have hpt := @lines_part s.data.toList
  obtain ⟨xs, hxs⟩ : ∃ xs, linesB s.data.toList = xs := ⟨_, rfl⟩
  rw [hxs] at hG hres hlb hpz hpt
  have HR : Hid (outB unstuff1 xs = unstuffL s.data.toList) := hres
  clear hxs hres
  refine (callsIn_wide (n := 9)).1 (callsIn_of_wp_marks Try.func19 rfl trivial ?_ rfl)
  simp only [Try.ntmps19, List.size_toArray, List.length_cons, List.length_nil, Nat.reduceAdd, Nat.reduceSub, Array.replicate_succ, Array.replicate_zero, List.push_toArray, List.append_toArray, List.nil_append, List.cons_append]
  gi_wp2_with (refine ⟨trivial, ?_⟩; gi_at_call 27; refine (callsIn_wide.2 (lines_any s _)).mono ?_; rintro e w2 ⟨rfl, rfl⟩)
  have b0 := bd_new w
  have b1 := Boxed.new (w.alloc (.cells #[.pointer none, .slice none 0 0] 46)) 9 (.string s)
  rw [World.size_alloc] at b1
  have hb2 : Below w.heap.size w ((w.alloc (.cells #[.pointer none, .slice none 0 0] 46)).alloc (.cells #[.string s] 9)) := ((Below.refl _ w).alloc (Nat.le_refl _) _).alloc (by simp) _
  refine wp_lines (by decide) rfl (enters_of Try.func38 (by kernel_rfl) rfl) rfl hG b1
    (fun pre W => Bd W w.heap.size (outB unstuff1 pre) ∧ Below w.heap.size w W)
    (fun pre A C row hi hg hr => ⟨bd_calm hi.1 hg hr, hi.2.grown hg hi.2.size (fun k e => by
      rcases hr k e with ⟨h1, _⟩ | ⟨h1, _⟩
      · omega
      · simp at h1; omega)⟩)
    ⟨b0.alloc _, hb2⟩
    (fun x => { tmps := #[.string s, undef, .string ⟨#[]⟩, .pointer (some ⟨w.heap.size, 0, none⟩), .string x, .string s, .func (.func 38) #[] #[.pointer (some ⟨w.heap.size + 1, 0, none⟩)], .string x, undef, undef, undef, undef], defers := [] }) ?assign ?body ?done
  case assign =>
    intro l x W K hK
    gi_wp2
    exact hK
  case body =>
    rintro l pre x rest W u hx ⟨hbd, hB⟩ hbu hsz
    simp only [World.size_alloc] at hsz ⊢
    have hlp := hlb hx
    have hxs := hpz hx
    rw [← size_list] at hxs
    have hpx := hpt hx
    have hBs := hB.size
    have E1 : Hid (outB unstuff1 (pre ++ [x]) = outB unstuff1 pre ++ unstuff1 x.data.toList) := outB_snoc _ _ _
    clear hlb hpz hpt hG b0 b1 hb2
    have hT := trimdot_any x W
    have hlen : (outB unstuff1 pre).length + (strL (unstuff1 x.data.toList)).size ≤ 140737488355328 := by have := unstuff_len x.data.toList; rw [strL_size]; rw [← size_list] at this; omega
    have hW := bd_str (strL (unstuff1 x.data.toList)) _ _ W hbd hlen
    gi_wp2_with (first
      | (refine ⟨trivial, ?_⟩; gi_at_call 33; refine (CallsIn.inRound l (callsIn_wide.2 hT)).mono ?_; rintro e W2 ⟨rfl, hw⟩; rw [hw]; clear hw W2)
      | (refine ⟨trivial, ?_⟩; gi_at_call 30; refine (CallsIn.inRound l (callsIn_wide.2 hW)).mono ?_; rintro e W3 ⟨rfl, hbd3, hb3, hk3⟩))
    obtain ⟨o1, o2⟩ := kept_onward (C := w.heap.size + 1 + 1) hk3 hb3.size (by omega) hbu (by omega)
    refine ⟨o1, o2, ?_, hB.trans hb3⟩
    rw [E1.out]
    exact hbd3

  case done =>
    rintro D W hD ⟨hbd, hB⟩ hK
    simp only [World.size_alloc] at hD
    have hO := bd_out _ _ W hbd
    gi_wp2_with (refine ⟨trivial, ?_⟩; gi_at_call 31; refine (callsIn_wide.2 hO).mono ?_; rintro e w3 ⟨rfl, hb3, hk3⟩)
    have hK3 := hk3 _ _ hK (by simp; omega) (fun c fz e => by cases e)
    refine ⟨by simp, .inl ⟨_, _, rfl, run_takeDeferred hK3, ?_⟩⟩
    have hb4 := hB.trans hb3
    rw [HR.out]
    exact ⟨_, results_tmp rfl _ _ _, rfl, hb4.grown (grownBy_putObj' _ _ _) hb4.size (fun k e => by cases e; omega)⟩

set_option maxRecDepth 100000 in
set_option maxHeartbeats 2000000 in
theorem stuff_any (s : ByteArray) (hs : s.size ≤ 1000000) (w : World) :
    Calls Try.prog 17 #[.string s] w fun e w' => e = .returned (.string (strL (stuffL s.data.toList))) ∧ Below w.heap.size w w' := by
  have hG := iter_gives index_any 8 (by decide) (w.heap.size + 1) s (by omega)
  have hres := outB_lines stuff1 s.data.toList
  have hlb := @out_bound stuff1 stuff_len s
  have hpz := @part_size s.data.toList
  have hpt := @lines_part s.data.toList
  obtain ⟨xs, hxs⟩ : ∃ xs, linesB s.data.toList = xs := ⟨_, rfl⟩
  rw [hxs] at hG hres hlb hpz hpt
  have HR : Hid (outB stuff1 xs = stuffL s.data.toList) := hres
  clear hxs hres
  refine (callsIn_wide (n := 9)).1 (callsIn_of_wp_marks Try.func17 rfl trivial ?_ rfl)
  simp only [Try.ntmps17, List.size_toArray, List.length_cons, List.length_nil, Nat.reduceAdd, Nat.reduceSub, Array.replicate_succ, Array.replicate_zero, List.push_toArray, List.append_toArray, List.nil_append, List.cons_append]
  gi_wp2_with (refine ⟨trivial, ?_⟩; gi_at_call 27; refine (callsIn_wide.2 (lines_any s _)).mono ?_; rintro e w2 ⟨rfl, rfl⟩)
  have b0 := bd_new w
  have b1 := Boxed.new (w.alloc (.cells #[.pointer none, .slice none 0 0] 46)) 9 (.string s)
  rw [World.size_alloc] at b1
  have hb2 : Below w.heap.size w ((w.alloc (.cells #[.pointer none, .slice none 0 0] 46)).alloc (.cells #[.string s] 9)) := ((Below.refl _ w).alloc (Nat.le_refl _) _).alloc (by simp) _
  refine wp_lines (by decide) rfl (enters_of Try.func38 (by kernel_rfl) rfl) rfl hG b1
    (fun pre W => Bd W w.heap.size (outB stuff1 pre) ∧ Below w.heap.size w W)
    (fun pre A C row hi hg hr => ⟨bd_calm hi.1 hg hr, hi.2.grown hg hi.2.size (fun k e => by
      rcases hr k e with ⟨h1, _⟩ | ⟨h1, _⟩
      · omega
      · simp at h1; omega)⟩)
    ⟨b0.alloc _, hb2⟩
    (fun x => { tmps := #[.string s, undef, .string ⟨#[]⟩, .pointer (some ⟨w.heap.size, 0, none⟩), .string x, .string s, .func (.func 38) #[] #[.pointer (some ⟨w.heap.size + 1, 0, none⟩)], .string x, undef, undef, undef, undef, undef, undef], defers := [] }) ?assign ?body ?done
  case assign =>
    intro l x W K hK
    gi_wp2
    exact hK
  case body =>
    rintro l pre x rest W u hx ⟨hbd, hB⟩ hbu hsz
    simp only [World.size_alloc] at hsz ⊢
    have hlp := hlb hx
    have hxs := hpz hx
    rw [← size_list] at hxs
    have hpx := hpt hx
    have hBs := hB.size
    have E1 : Hid (outB stuff1 (pre ++ [x]) = outB stuff1 pre ++ stuff1 x.data.toList) := outB_snoc _ _ _
    clear hlb hpz hpt hG b0 b1 hb2
    have hP := prefix_any x W
    have hlen : (outB stuff1 pre).length + (⟨#[46]⟩ : ByteArray).size ≤ 140737488355328 := by show _ + 1 ≤ _; omega
    have hW1 := bd_str ⟨#[46]⟩ _ _ W hbd hlen
    have hW2 := bd_str x _ _ W hbd (by omega)
    by_cases hd : x.data.toList.head? = some 46
    · have e0 : (x.data.toList.head? == some 46) = true := by rw [beq_iff_eq]; exact hd
      have e1 : stuff1 x.data.toList = [46] ++ x.data.toList := by unfold stuff1; rw [if_pos hd]; rfl
      rw [e0] at hP
      rw [e1] at E1
      have hlen2 : (outB stuff1 pre ++ (⟨#[46]⟩ : ByteArray).data.toList).length + x.size ≤ 140737488355328 := by rw [List.length_append]; show _ + 1 + _ ≤ _; omega
      clear hW2 e0 e1 hd
      gi_wp2_with (first
        | (refine ⟨trivial, ?_⟩; gi_at_call 32; refine (CallsIn.inRound l (callsIn_wide.2 hP)).mono ?_; rintro e W2 ⟨rfl, hw⟩; rw [hw]; clear hw W2)
        | (refine ⟨trivial, ?_⟩; gi_at_call 30; refine (CallsIn.inRound l (callsIn_wide.2 hW1)).mono ?_; rintro e W3 ⟨rfl, hbd3, hb3, hk3⟩; have hW4 := bd_str x _ _ W3 hbd3 hlen2; clear hW1)
        | (refine ⟨trivial, ?_⟩; gi_at_call 30; refine (CallsIn.inRound l (callsIn_wide.2 hW4)).mono ?_; rintro e W4 ⟨rfl, hbd4, hb4, hk4⟩))
      obtain ⟨o1, o2⟩ := kept_onward (C := w.heap.size + 1 + 1) hk3 hb3.size (by omega) hbu (by omega)
      have hbu3 : Boxed W3 _ 9 u := o2.trans hbu
      obtain ⟨o3, o4⟩ := kept_onward (C := w.heap.size + 1 + 1) hk4 hb4.size (by omega) hbu3 (by omega)
      refine ⟨o1.trans o3, o4.trans o2, ?_, (hB.trans hb3).trans hb4⟩
      rw [E1.out, ← List.append_assoc]
      exact hbd4
    · have e0 : (x.data.toList.head? == some 46) = false := by rw [beq_eq_false_iff_ne]; exact hd
      have e1 : stuff1 x.data.toList = x.data.toList := by unfold stuff1; rw [if_neg hd]
      rw [e0] at hP
      rw [e1] at E1
      clear hW1 e0 e1 hd
      gi_wp2_with (first
        | (refine ⟨trivial, ?_⟩; gi_at_call 32; refine (CallsIn.inRound l (callsIn_wide.2 hP)).mono ?_; rintro e W2 ⟨rfl, hw⟩; rw [hw]; clear hw W2)
        | (refine ⟨trivial, ?_⟩; gi_at_call 30; refine (CallsIn.inRound l (callsIn_wide.2 hW2)).mono ?_; rintro e W4 ⟨rfl, hbd4, hb4, hk4⟩))
      obtain ⟨o3, o4⟩ := kept_onward (C := w.heap.size + 1 + 1) hk4 hb4.size (by omega) hbu (by omega)
      refine ⟨o3, o4, ?_, hB.trans hb4⟩
      rw [E1.out]
      exact hbd4

  case done =>
    rintro D W hD ⟨hbd, hB⟩ hK
    simp only [World.size_alloc] at hD
    have hO := bd_out _ _ W hbd
    gi_wp2_with (refine ⟨trivial, ?_⟩; gi_at_call 31; refine (callsIn_wide.2 hO).mono ?_; rintro e w3 ⟨rfl, hb3, hk3⟩)
    have hK3 := hk3 _ _ hK (by simp; omega) (fun c fz e => by cases e)
    refine ⟨by simp, .inl ⟨_, _, rfl, run_takeDeferred hK3, ?_⟩⟩
    have hb4 := hB.trans hb3
    rw [HR.out]
    exact ⟨_, results_tmp rfl _ _ _, rfl, hb4.grown (grownBy_putObj' _ _ _) hb4.size (fun k e => by cases e; omega)⟩

set_option maxRecDepth 100000 in
set_option maxHeartbeats 2000000 in
theorem crlf_any (s : ByteArray) (hs : s.size ≤ 1000000) (w : World) :
    Calls Try.prog 15 #[.string s] w fun e w' => e = .returned (.string (strL (crlfL s.data.toList))) ∧ Below w.heap.size w w' := by
  have hG := iter_gives index_any 8 (by decide) (w.heap.size + 1) s (by omega)
  have hres := outB_lines crlf1 s.data.toList
  have hlb := @out_bound crlf1 crlf_len s
  have hpz := @part_size s.data.toList
  have hpt := @lines_part s.data.toList
  obtain ⟨xs, hxs⟩ : ∃ xs, linesB s.data.toList = xs := ⟨_, rfl⟩
  rw [hxs] at hG hres hlb hpz hpt
  have HR : Hid (outB crlf1 xs = crlfL s.data.toList) := hres
  clear hxs hres
  refine (callsIn_wide (n := 9)).1 (callsIn_of_wp_marks Try.func15 rfl trivial ?_ rfl)
  simp only [Try.ntmps15, List.size_toArray, List.length_cons, List.length_nil, Nat.reduceAdd, Nat.reduceSub, Array.replicate_succ, Array.replicate_zero, List.push_toArray, List.append_toArray, List.nil_append, List.cons_append]
  gi_wp2_with (refine ⟨trivial, ?_⟩; gi_at_call 27; refine (callsIn_wide.2 (lines_any s _)).mono ?_; rintro e w2 ⟨rfl, rfl⟩)
  have b0 := bd_new w
  have b1 := Boxed.new (w.alloc (.cells #[.pointer none, .slice none 0 0] 46)) 9 (.string s)
  rw [World.size_alloc] at b1
  have hb2 : Below w.heap.size w ((w.alloc (.cells #[.pointer none, .slice none 0 0] 46)).alloc (.cells #[.string s] 9)) := ((Below.refl _ w).alloc (Nat.le_refl _) _).alloc (by simp) _
  refine wp_lines (by decide) rfl (enters_of Try.func38 (by kernel_rfl) rfl) rfl hG b1
    (fun pre W => Bd W w.heap.size (outB crlf1 pre) ∧ Below w.heap.size w W)
    (fun pre A C row hi hg hr => ⟨bd_calm hi.1 hg hr, hi.2.grown hg hi.2.size (fun k e => by
      rcases hr k e with ⟨h1, _⟩ | ⟨h1, _⟩
      · omega
      · simp at h1; omega)⟩)
    ⟨b0.alloc _, hb2⟩
    (fun x => { tmps := #[.string s, undef, .string ⟨#[]⟩, .pointer (some ⟨w.heap.size, 0, none⟩), .string x, undef, undef, .string s, .func (.func 38) #[] #[.pointer (some ⟨w.heap.size + 1, 0, none⟩)], .string x, undef, undef, undef, undef, undef, undef, undef, undef, undef, undef], defers := [] }) ?assign ?body ?done
  case assign =>
    intro l x W K hK
    gi_wp2
    exact hK
  case body =>
    rintro l pre x rest W u hx ⟨hbd, hB⟩ hbu hsz
    simp only [World.size_alloc] at hsz ⊢
    have hlp := hlb hx
    have hxs := hpz hx
    rw [← size_list] at hxs
    have hpx := hpt hx
    have hBs := hB.size
    have E1 : Hid (outB crlf1 (pre ++ [x]) = outB crlf1 pre ++ crlf1 x.data.toList) := outB_snoc _ _ _
    clear hlb hpz hpt hG b0 b1 hb2
    have hC := cut_any x (by omega) W
    have hbl := bare_le x.data.toList
    rw [← size_list] at hbl
    have hlen : (outB crlf1 pre).length + (strL (bareL x.data.toList)).size ≤ 140737488355328 := by rw [strL_size]; omega
    have hW1 := bd_str (strL (bareL x.data.toList)) _ _ W hbd hlen
    rcases hpx with hpx | hpx
    · rw [ends_term hpx] at hC
      rw [crlf_term hpx] at E1
      have hlen2 : (outB crlf1 pre ++ (strL (bareL x.data.toList)).data.toList).length + (⟨#[13, 10]⟩ : ByteArray).size ≤ 140737488355328 := by rw [List.length_append, strL_list]; show _ + _ + 2 ≤ _; omega
      gi_wp2_with (first
        | (refine ⟨trivial, ?_⟩; gi_at_call 29; refine (CallsIn.inRound l (callsIn_wide.2 hC)).mono ?_; rintro e W2 ⟨rfl, hw⟩; rw [hw]; clear hw W2)
        | (refine ⟨trivial, ?_⟩; gi_at_call 30; refine (CallsIn.inRound l (callsIn_wide.2 hW1)).mono ?_; rintro e W3 ⟨rfl, hbd3, hb3, hk3⟩; have hW4 := bd_str ⟨#[13, 10]⟩ _ _ W3 hbd3 hlen2; clear hW1)
        | (refine ⟨trivial, ?_⟩; gi_at_call 30; refine (CallsIn.inRound l (callsIn_wide.2 hW4)).mono ?_; rintro e W4 ⟨rfl, hbd4, hb4, hk4⟩))
      obtain ⟨o1, o2⟩ := kept_onward (C := w.heap.size + 1 + 1) hk3 hb3.size (by omega) hbu (by omega)
      have hbu3 : Boxed W3 _ 9 u := o2.trans hbu
      obtain ⟨o3, o4⟩ := kept_onward (C := w.heap.size + 1 + 1) hk4 hb4.size (by omega) hbu3 (by omega)
      refine ⟨o1.trans o3, o4.trans o2, ?_, (hB.trans hb3).trans hb4⟩
      rw [E1.out, ← List.append_assoc]
      exact hbd4
    · rw [ends_tail hpx] at hC
      rw [crlf_tail hpx] at E1
      have e1 : (strL (bareL x.data.toList)).data.toList = x.data.toList := by rw [strL_list, bare_tail hpx]
      gi_wp2_with (first
        | (refine ⟨trivial, ?_⟩; gi_at_call 29; refine (CallsIn.inRound l (callsIn_wide.2 hC)).mono ?_; rintro e W2 ⟨rfl, hw⟩; rw [hw]; clear hw W2)
        | (refine ⟨trivial, ?_⟩; gi_at_call 30; refine (CallsIn.inRound l (callsIn_wide.2 hW1)).mono ?_; rintro e W4 ⟨rfl, hbd4, hb4, hk4⟩))
      obtain ⟨o3, o4⟩ := kept_onward (C := w.heap.size + 1 + 1) hk4 hb4.size (by omega) hbu (by omega)
      refine ⟨o3, o4, ?_, hB.trans hb4⟩
      rw [E1.out]
      rw [e1] at hbd4
      exact hbd4

  case done =>
    rintro D W hD ⟨hbd, hB⟩ hK
    simp only [World.size_alloc] at hD
    have hO := bd_out _ _ W hbd
    gi_wp2_with (refine ⟨trivial, ?_⟩; gi_at_call 31; refine (callsIn_wide.2 hO).mono ?_; rintro e w3 ⟨rfl, hb3, hk3⟩)
    have hK3 := hk3 _ _ hK (by simp; omega) (fun c fz e => by cases e)
    refine ⟨by simp, .inl ⟨_, _, rfl, run_takeDeferred hK3, ?_⟩⟩
    have hb4 := hB.trans hb3
    rw [HR.out]
    exact ⟨_, results_tmp rfl _ _ _, rfl, hb4.grown (grownBy_putObj' _ _ _) hb4.size (fun k e => by cases e; omega)⟩
end Go.Proofs.Ytpoimbhfggkiiaa
