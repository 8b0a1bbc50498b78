/- How long the first field of a string is: a loop over its lines, left at the first that continues nothing. -/
import Derived.Test.YtocghngmjipjoaaDoorSect
namespace Go.Proofs.YtocghngmjipjoaaDoor
open Go.ChangeShapes Go.WideShapes Go.ChangeAt Go.RowKit
open LinesP HdrP

attribute [local go_sem] Oper.semAt_some

/-! ### The first field's length -/
theorem begun_is (x : ByteArray) (h : 0 < x.size) : HdrP.begun x.data.toList = HdrP.blank (x[0]'h) := by
  have h2 : x.data.toList = x[0]'h :: x.data.toList.drop 1 := by
    have := drop_cons x 0 h
    rwa [List.drop_zero] at this
  rw [h2]; rfl
/-- The first line and its continuation lines, in bytes. -/
def fieldN (ls : List (List UInt8)) : Nat := match ls with
  | [] => 0
  | l :: r => l.length + (moreL r).length
theorem more_cut {a b : List (List UInt8)} {x : List UInt8} (ha : ∀ y ∈ a, HdrP.begun y = true) (hx : HdrP.begun x = false) : moreL (a ++ x :: b) = a.flatten := by
  induction a with
  | nil => show (if HdrP.begun x then _ else _) = _; rw [hx]; rfl
  | cons c r ih => rw [List.cons_append, moreL, if_pos (ha c (by simp)), ih fun y hy => ha y (by simp [hy]), List.flatten_cons]
theorem field_end {s : ByteArray} {p : ByteArray} {pre rest : List ByteArray} {x : ByteArray} (h : linesB s.data.toList = (p :: pre) ++ x :: rest) (hp : ∀ y ∈ pre, HdrP.begun y.data.toList = true) (hx : HdrP.begun x.data.toList = false) :
    fieldN (splitL s.data.toList) = (flatB (p :: pre)).length := by
  have e := lines_back h
  rw [List.map_append, List.map_cons, List.map_cons, List.cons_append] at e
  rw [e]
  show p.data.toList.length + (moreL _).length = _
  rw [more_cut (fun y hy => by obtain ⟨z, hz, rfl⟩ := List.mem_map.1 hy; exact hp z hz) hx]
  unfold flatB
  rw [List.map_cons, List.flatten_cons, List.length_append]
theorem field_all {s : ByteArray} (hp : ∀ y ∈ (linesB s.data.toList).tail, HdrP.begun y.data.toList = true) : fieldN (splitL s.data.toList) = (flatB (linesB s.data.toList)).length := by
  have e := lines_back (s := s) rfl
  rw [e]
  cases hl : linesB s.data.toList with
  | nil => rfl
  | cons p r =>
    rw [hl] at hp
    show p.data.toList.length + (moreL _).length = _
    rw [(all_begun (cs := r.map fun x => x.data.toList) (fun y hy => by obtain ⟨z, hz, rfl⟩ := List.mem_map.1 hy; exact hp z hz)).1]
    unfold flatB
    rw [List.map_cons, List.flatten_cons, List.length_append]


theorem flat_pos {s : ByteArray} {p : ByteArray} {pre rest : List ByteArray} {x : ByteArray} (h : linesB s.data.toList = (p :: pre) ++ x :: rest) : 0 < (flatB (p :: pre)).length := by
  have := (line_ne (s := s) (pre := []) (rest := pre ++ x :: rest) (x := p) h).1
  unfold flatB
  rw [List.map_cons, List.flatten_cons, List.length_append, ← size_list]
  omega
set_option maxRecDepth 100000 in
set_option maxHeartbeats 2000000 in
theorem length_any (s : ByteArray) (hs : s.size ≤ 1000000) (w : World) :
    Calls Tryd.prog 35 #[.string s] w fun e w' => e = .returned (.int .i64 (fieldN (splitL s.data.toList))) ∧ Below w.heap.size w w' := by
  have hG := iter_gives index_any 8 (by decide) (w.heap.size + 1) s (by omega)
  have hfb := @flat_bound s
  have hend := @field_end s
  have hall := @field_all s
  have hpos := @flat_pos s
  have hne := @line_ne s
  obtain ⟨xs, hxs⟩ : ∃ xs, linesB s.data.toList = xs := ⟨_, rfl⟩
  rw [hxs] at hG hall
  simp only [hxs] at hfb hend hpos hne
  generalize fieldN (splitL s.data.toList) = N at hend hall ⊢
  have HALL := Lib.hid hall
  clear hxs hall
  refine (callsIn_wide (n := 9)).1 (callsIn_of_wp_marks Tryd.func35 rfl trivial ?_ rfl)
  simp only [Tryd.ntmps35, List.size_toArray, List.length_cons, List.length_nil, Nat.reduceAdd, Nat.reduceSub, Array.replicate_succ, Array.replicate_zero, List.push_toArray, List.append_toArray, List.nil_append, List.cons_append]
  gi_wp2_with (refine ⟨trivial, ?_⟩; gi_at_call 41; refine (callsIn_wide.2 (lines_any s _)).mono ?_; rintro e w2 ⟨rfl, rfl⟩)
  have b0 := Boxed.new w 3 (.int .i64 0)
  have hz : (w.alloc (.cells #[.int .i64 0] 3)).heap.size = w.heap.size + 1 := by simp
  have hb1 : Below w.heap.size w (w.alloc (.cells #[.int .i64 0] 3)) := (Below.refl _ w).alloc (Nat.le_refl _) _
  generalize w.alloc (.cells #[.int .i64 0] 3) = w1 at b0 hz hb1 ⊢
  have b2 := Boxed.new w1 9 (.string s)
  rw [hz] at b2
  have hb3 : Below w.heap.size w (w1.alloc (.cells #[.string s] 9)) := hb1.alloc hb1.size _
  refine wp_iter (by decide) rfl (enters_of Tryd.func54 (by kernel_rfl) rfl) rfl hG (fun o o' => (b2.alloc o).alloc o') (by rintro k rfl; simp [hz]) lst_kept (fun A C h k => book_box A C (by simp [hz]) h k)
    (fun pre W => Boxed W w.heap.size 3 (.int .i64 ((flatB pre).length : Nat)) ∧ Below w.heap.size w W ∧ Hid (∀ y ∈ pre.tail, HdrP.begun y.data.toList = true))
    (fun c _ W => c = .exit 0 ∧ Boxed W w.heap.size 3 (.int .i64 N) ∧ Below w.heap.size w W)
    (fun pre A C hi hg => ⟨boxed_calm hi.1 hg (by omega), below_calm2 hi.2.1 hg (Nat.le_refl _) (by omega) (by simp; omega), hi.2.2⟩)
    (fun _ pre A C hi hg => ⟨hi.1, boxed_calm hi.2.1 hg (by omega), below_calm2 hi.2.2 hg (Nat.le_refl _) (by omega) (by simp; omega)⟩)
    ⟨b0.alloc _, hb3, by intro y hy; cases hy⟩
    (fun x => { tmps := #[.string s, undef, .int .i64 0, .pointer (some ⟨w.heap.size, 0, none⟩), .string x, .string s, .func (.func 54) #[] #[.pointer (some ⟨w.heap.size + 1, 0, none⟩)], .string x, undef, undef, undef, undef, undef, undef, undef, undef, undef, undef, undef, undef, undef], defers := [] }) ?assign ?body ?done ?stop
  case assign =>
    intro l x W K hK
    gi_wp2
    exact hK
  case body =>
    rintro l pre x rest W hx ⟨hb0, hB, hbeg⟩ ⟨u, hbu⟩ hsz
    simp only [World.size_alloc, hz] at hsz ⊢
    have hfx := hfb hx
    have hx0 := (hne hx).1
    have c0 := hb0.cell
    have f0 := hb0.frozen
    have F1 : IntKind.i64.wrap (((flatB pre).length : Int) + (x.size : Int)) = ((flatB pre).length : Int) + (x.size : Int) := by rw [IntKind.wrap_i64]; omega
    have HP : Hid ((flatB (pre ++ [x])).length = (flatB pre).length + x.size) := by show _ = _; rw [flatB_snoc, List.length_append, ← size_list]
    cases pre with
    | nil =>
      rw [show (flatB []).length = 0 from rfl] at hb0 c0 F1 hfx HP
      clear hfb hG b0 b2 hb3 hb1 hx hend hpos hne
      gi_wp2_with (refine ⟨trivial, ?_⟩)
      refine ⟨keeps_set (by omega) _, (by rintro k rfl; exact put_far (by omega) _), ?_, below_put hB (Nat.le_refl _) (Nat.le_refl _) _, ?_⟩
      · rw [HP.out, Nat.zero_add]; exact hb0.set _
      · intro y hy; cases hy
    | cons p pre =>
      have hq := hpos hx
      have RI := run_index_str x 0 0 rfl hx0
      have hbx := begun_is x hx0
      have hC := fun (hb : HdrP.blank (x[0]'hx0) = HdrP.begun x.data.toList) (W : World) => isBlank_any (x[0]'hx0) _ rfl W
      have hC := hC hbx.symm
      rw [← hbx] at hC
      by_cases hbg : HdrP.begun x.data.toList = true
      · rw [hbg] at hC
        have HBG := Lib.hid hbg
        generalize (flatB (p :: pre)).length = q at hb0 c0 F1 hfx HP hq
        have hq' : (0 : Int) < (q : Int) := by omega
        generalize (x[0]'hx0).toNat = xx at RI hC
        clear hfb hG b0 b2 hb3 hb1 hx hend hpos hne hbx hbg
        gi_wp2_with (refine ⟨trivial, ?_⟩; gi_at_call 46; refine (CallsIn.inRound l (callsIn_wide.2 (hC _))).mono ?_; rintro e W2 ⟨rfl, hw⟩; rw [← hw]; clear hw W2)
        refine ⟨keeps_set (by omega) _, (by rintro k rfl; exact put_far (by omega) _), ?_, below_put hB (Nat.le_refl _) (Nat.le_refl _) _, ?_⟩
        · rw [HP.out, Int.natCast_add]; exact hb0.set _
        · intro y hy
          rw [List.cons_append, List.tail_cons] at hy
          rcases List.mem_append.1 hy with hy | hy
          · exact hbeg.out y hy
          · rw [List.mem_singleton.1 hy]; exact HBG.out
      · have hbg' : HdrP.begun x.data.toList = false := by simpa using hbg
        rw [hbg'] at hC
        have hE := Lib.hid (hend hx hbeg.out hbg')
        generalize (flatB (p :: pre)).length = q at hb0 c0 F1 hfx HP hq hE
        have hq' : (0 : Int) < (q : Int) := by omega
        generalize (x[0]'hx0).toNat = xx at RI hC
        clear hfb hG b0 b2 hb3 hb1 hx hend hpos hne hbx hbg hbg'
        gi_wp2_with (refine ⟨trivial, ?_⟩; gi_at_call 46; refine (CallsIn.inRound l (callsIn_wide.2 (hC _))).mono ?_; rintro e W2 ⟨rfl, hw⟩; rw [← hw]; clear hw W2)
        exact ⟨KeepsFrom.refl _ _, rfl, by rw [hE.out]; exact hb0, hB⟩
  case done =>
    rintro D W hD ⟨hb0, hB, hbeg⟩ hK
    simp only [World.size_alloc, hz] at hD
    have c0 := hb0.cell
    have hE := Lib.hid (HALL.out hbeg.out)
    gi_wp2
    rw [hE.out]
    refine ⟨by simp, .inl ⟨_, _, rfl, run_takeDeferred hK, ?_⟩⟩
    exact ⟨_, results_tmp rfl _ _ _, rfl, below_obj hB (Nat.le_refl _) (by omega) _⟩
  case stop =>
    rintro D c pre W hD ⟨rfl, hb0, hB⟩ hK
    simp only [World.size_alloc, hz] at hD
    have c0 := hb0.cell
    gi_wp2
    refine ⟨by simp, .inl ⟨_, _, rfl, run_takeDeferred hK, ?_⟩⟩
    exact ⟨_, results_tmp rfl _ _ _, rfl, below_obj hB (Nat.le_refl _) (by omega) _⟩
end Go.Proofs.YtocghngmjipjoaaDoor
