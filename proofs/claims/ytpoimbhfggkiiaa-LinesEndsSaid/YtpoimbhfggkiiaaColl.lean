/- slices.Collect over strings.Lines, and Split. -/
import Derived.Test.YtpoimbhfggkiiaaIter
import Derived.Maps.AppendAt
namespace Go.Proofs.Ytpoimbhfggkiiaa
open Go.ChangeShapes Go.WideShapes Go.ChangeAt Go.RowKit
open LinesP

attribute [local go_sem] Oper.semAt_some

section
variable {bx B : Nat} {W W' : World} {row : Option Nat}
theorem own_calm {base : Nat} {e : TypeId} {size : Nat} {v : Value} {n : Nat} {xs : List Value} (h : W.ownsRow base e size v n xs) (hg : W.grownBy W' row) (hr : ∀ r, row = some r → (r = bx ∧ ∃ u, Boxed W bx 9 u) ∨ (B ≤ r ∧ ∃ o : Obj, W.heap[r]? = some o ∧ o.isCells = false)) (hb : bx < base ∨ e ≠ 9) :
    W'.ownsRow base e size v n xs := by
  refine h.kept hg ?_
  rcases h.2 with ⟨rfl, _⟩ | ⟨g, cap, cur, rfl, hbg, hgb, _⟩
  · exact .inl rfl
  · refine .inr fun e' => ?_
    rcases hr g (by simpa [Value.ownBlock] using e'.symm) with ⟨h1, u, hu⟩ | ⟨_, o, ho, hc⟩
    · rcases hb with hb | hb
      · omega
      · subst h1
        have := (show W.heap[g]? = _ from hu).symm.trans hgb
        simp at this
        exact hb this.2.symm
    · rw [hgb] at ho; cases ho; cases hc
theorem boxed_calm {b : Nat} {t : TypeId} {v : Value} (h : Boxed W b t v) (hg : W.grownBy W' row) (hr : ∀ r, row = some r → (r = bx ∧ ∃ u, Boxed W bx 9 u) ∨ (B ≤ r ∧ ∃ o : Obj, W.heap[r]? = some o ∧ o.isCells = false)) (hb : b ≠ bx) : Boxed W' b t v := by
  refine h.kept hg fun e => ?_
  rcases hr b e.symm with ⟨h1, _⟩ | ⟨_, o, ho, hc⟩
  · exact hb h1
  · rw [show W.heap[b]? = _ from h] at ho; cases ho; cases hc
theorem below_calm {w : World} (h : Below bx w W) (hg : W.grownBy W' row) (hr : ∀ r, row = some r → (r = bx ∧ ∃ u, Boxed W bx 9 u) ∨ (B ≤ r ∧ ∃ o : Obj, W.heap[r]? = some o ∧ o.isCells = false)) (hb : bx ≤ w.heap.size) (hB : bx ≤ B) : Below bx w W' :=
  h.grown hg (Nat.le_trans hb h.size) (fun k e => by
    rcases hr k e with ⟨h1, _⟩ | ⟨h1, _⟩
    · omega
    · omega)
end
theorem split_len (l : List UInt8) : (splitL l).length ≤ l.length := by
  induction l with
  | nil => exact Nat.le_refl _
  | cons c t ih =>
    unfold splitL
    by_cases hc : c = 10
    · rw [if_pos hc, List.length_cons, List.length_cons]; omega
    · rw [if_neg hc]
      split
      · simp
      · rename_i h; rw [h] at ih; simp at ih ⊢; omega
theorem lines_len (s : ByteArray) : (linesB s.data.toList).length ≤ s.size := by
  unfold linesB
  rw [List.length_map, size_list]
  exact split_len _

set_option maxRecDepth 100000 in
set_option maxHeartbeats 2000000 in
theorem appendSeq_any (cI : ∀ (t : ByteArray) (w : World), Calls Try.prog 39 #[.string t, .int .u8 10] w fun e w' => e = .returned (.int .i64 (Lib.indexByte t.data.toList 10)) ∧ w' = w)
    (bx : Nat) (s : ByteArray) (hs : s.size ≤ 1000000) (w : World) (hb : Boxed w bx 9 (.string s)) :
    Calls Try.prog 37 #[.slice none 0 0, .func (.func 38) #[] #[.pointer (some ⟨bx, 0, none⟩)]] w fun e w' => ∃ v, e = .returned v ∧ w'.ownsRow w.heap.size 9 1 v (linesB s.data.toList).length ((linesB s.data.toList).map Value.string) ∧ Below bx w w' := by
  obtain ⟨i0, hi, hz0, hz1, hz2⟩ := info_parts info9
  have hlen := lines_len s
  have hG := iter_gives cI 8 (by decide) bx s (by omega)
  obtain ⟨xs, hxs⟩ : ∃ xs, linesB s.data.toList = xs := ⟨_, rfl⟩
  rw [hxs] at hG hlen ⊢
  clear hxs cI
  have hlt := hb.lt
  refine (callsIn_wide (n := 9)).1 (callsIn_of_wp_marks Try.func37 rfl trivial ?_ rfl)
  simp only [Try.ntmps37, List.size_toArray, List.length_cons, List.length_nil, Nat.reduceAdd, Nat.reduceSub, Array.replicate_succ, Array.replicate_zero, List.push_toArray, List.append_toArray, List.nil_append, List.cons_append]
  gi_wp2
  have bO := Boxed.new w 24 (.slice none 0 0)
  refine wp_lines (by decide) rfl (enters_of Try.func38 (by kernel_rfl) rfl) rfl hG (hb.alloc _)
    (fun pre W => (∃ v, Boxed W w.heap.size 24 v ∧ W.ownsRow w.heap.size 9 1 v pre.length (pre.map Value.string)) ∧ Below bx w W)
    (fun pre A C row hi hg hr => ⟨by obtain ⟨⟨v, h1, h2⟩, _⟩ := hi; exact ⟨v, boxed_calm h1 hg hr (by omega), own_calm h2 hg hr (.inl hlt)⟩, below_calm hi.2 hg hr (by omega) (by simp; omega)⟩)
    ⟨⟨_, bO, World.ownsRow_nil _ _ _ _⟩, (Below.refl _ w).alloc (by omega) _⟩
    (fun x => { tmps := #[.slice none 0 0, .func (.func 38) #[] #[.pointer (some ⟨bx, 0, none⟩)], .pointer (some ⟨w.heap.size, 0, none⟩), undef, .slice none 0 0, .string x, .func (.func 38) #[] #[.pointer (some ⟨bx, 0, none⟩)], .string x, undef, undef, undef, undef, undef], defers := [] }) ?assign ?body ?done
  case assign =>
    intro l x W K hK
    gi_wp2
    exact hK
  case body =>
    rintro l pre x rest W u hx ⟨⟨v, hv, hrow⟩, hB⟩ hbu hsz
    have hc := hv.cell
    have hf := hv.frozen
    have hx2 : pre.length + 1 ≤ 1000000 := by
      rw [hx, List.length_append, List.length_cons] at hlen; omega
    rw [World.size_alloc] at hsz
    clear hx hlen
    have hBs := hB.size
    gi_wp2_with (gi_at_builtin; refine wpListIn_append_own _ rfl _ _ 24 rfl w.heap.size 9 i0 (.string ⟨#[]⟩) 1 16 Try.underlying24 hi hz0 hz1 hz2 rfl (by decide) _ _ _ rfl (hrow.alloc _) ⟨W.heap.size, 0, none⟩ 1 1 [.string x] rfl rfl (cell_one_new _ _ _) (by simp [Value.oneCell']) (by unfold maxLen; omega) (by omega) (by rw [World.size_alloc]; omega) ?_; intro v' w1 hown' hgrow _; obtain ⟨g', cap', rfl⟩ := ownsRow_succ hown'; obtain ⟨hv1, hv2, hr2, hk2, hb2⟩ := hv.appended (by decide) hrow hBs (Nat.le_refl _) hown' hgrow; have hc1 := hv1.cell; have hf1 := hv1.frozen)
    refine ⟨hk2.from _, hb2.block bx hlt, ⟨_, hv2, ?_⟩, hB.trans (hb2.mono (by omega))⟩
    rw [List.length_append, List.map_append]
    exact hr2
  case done =>
    rintro D W hD ⟨⟨v, hv, hrow⟩, hB⟩ hK
    have hc := hv.cell
    gi_wp2
    refine ⟨by simp, .inl ⟨_, _, rfl, run_takeDeferred hK, ?_⟩⟩
    rw [World.size_alloc] at hD
    exact ⟨_, results_tmp rfl _ _ _, v, rfl, ownsRow_putObj hrow _ hK rfl, hB.grown (grownBy_putObj' _ _ _) (by have := hB.size; omega) (fun k e => by cases e; omega)⟩
set_option maxHeartbeats 1000000 in
theorem collect_any (cI : ∀ (t : ByteArray) (w : World), Calls Try.prog 39 #[.string t, .int .u8 10] w fun e w' => e = .returned (.int .i64 (Lib.indexByte t.data.toList 10)) ∧ w' = w)
    (bx : Nat) (s : ByteArray) (hs : s.size ≤ 1000000) (w : World) (hb : Boxed w bx 9 (.string s)) :
    Calls Try.prog 26 #[.func (.func 38) #[] #[.pointer (some ⟨bx, 0, none⟩)]] w fun e w' => ∃ v, e = .returned v ∧ w'.ownsRow w.heap.size 9 1 v (linesB s.data.toList).length ((linesB s.data.toList).map Value.string) ∧ Below bx w w' := by
  have hc := appendSeq_any cI bx s hs w hb
  clear cI
  go_enter Try.func26, Try.ntmps26
  go_wp2_with (go_at_call 37; refine hc.mono ?_; rintro e w' ⟨v, rfl, h1, h2⟩)
  go_ret
  exact ⟨v, rfl, h1, h2⟩
set_option maxHeartbeats 1000000 in
/-- Split. -/
theorem split_core (cI : ∀ (t : ByteArray) (w : World), Calls Try.prog 39 #[.string t, .int .u8 10] w fun e w' => e = .returned (.int .i64 (Lib.indexByte t.data.toList 10)) ∧ w' = w)
    (cC : ∀ (t : ByteArray) (w : World), t.size ≤ 1000000 → Calls Try.prog 28 #[.string t] w fun e w' => e = .returned (.string t) ∧ Below w.heap.size w w')
    (s : ByteArray) (hs : s.size ≤ 1000000) (w : World) :
    Calls Try.prog 11 #[.string s] w fun e w' => ∃ v, e = .returned v ∧ w'.ownsRow w.heap.size 9 1 v (linesB s.data.toList).length ((linesB s.data.toList).map Value.string) ∧ Below w.heap.size w w' := by
  have h1 := cC s w hs
  clear cC
  go_enter Try.func11, Try.ntmps11
  go_wp2_with (first
    | (go_at_call 28; refine h1.mono ?_; rintro e w1 ⟨rfl, hb1⟩)
    | (go_at_call 27; refine (lines_any s _).mono ?_; rintro e w2 ⟨rfl, rfl⟩; have hbx := Boxed.new w1 9 (.string s))
    | (go_at_call 26; refine (collect_any cI w1.heap.size s hs _ hbx).mono ?_; rintro e w3 ⟨v, rfl, hr, hb3⟩))
  go_ret
  have hs1 := hb1.size
  have hb2 := (Below.refl w1.heap.size w1).alloc (Nat.le_refl _) (.cells #[.string s] 9)
  refine ⟨v, rfl, ⟨hr.1, ?_⟩, hb1.trans ((hb2.trans hb3).mono hs1)⟩
  rcases hr.2 with h | ⟨g, cap, cur, hv, hg, rest⟩
  · exact .inl h
  · rw [World.size_alloc] at hg
    exact .inr ⟨g, cap, cur, hv, by omega, rest⟩
end Go.Proofs.Ytpoimbhfggkiiaa
