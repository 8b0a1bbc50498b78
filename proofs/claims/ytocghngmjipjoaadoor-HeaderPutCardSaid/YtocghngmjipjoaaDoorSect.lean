/- Where the header section ends, and how long its first field is: loops over the lines, left early. -/
import Derived.Test.YtocghngmjipjoaaDoorCalm
import Derived.Test.YtocghngmjipjoaaDoorByte
namespace Go.Proofs.YtocghngmjipjoaaDoor
open Go.ChangeShapes Go.WideShapes Go.ChangeAt Go.RowKit
open LinesP HdrP

attribute [local go_sem] Oper.semAt_some

theorem lines_back {s : ByteArray} {xs : List ByteArray} (h : linesB s.data.toList = xs) : splitL s.data.toList = xs.map fun x => x.data.toList := by
  rw [← h]
  unfold linesB
  rw [List.map_map, show ((fun s : ByteArray => s.data.toList) ∘ strL) = id from funext fun x => rfl, List.map_id]
def secN (s : List UInt8) : Nat := (hdrL (splitL s)).flatten.length
theorem sec_end {s : ByteArray} {pre rest : List ByteArray} {x : ByteArray} (h : linesB s.data.toList = pre ++ x :: rest) (hp : ∀ y ∈ pre, full y.data.toList = true) (hx : full x.data.toList = false) :
    secN s.data.toList = (flatB pre).length ∧ atL s.data.toList = (flatB pre).length + x.size := by
  have e := lines_back h
  rw [List.map_append, List.map_cons] at e
  have k := hdr_all (ls := pre.map fun x => x.data.toList) (fun l hl => by obtain ⟨y, hy, rfl⟩ := List.mem_map.1 hl; exact hp y hy) (x.data.toList :: rest.map fun x => x.data.toList)
  have hn : ¬ full x.data.toList = true := by rw [hx]; exact Bool.false_ne_true
  have h1 : hdrL (splitL s.data.toList) = pre.map fun x => x.data.toList := by
    rw [e, k.1]
    unfold hdrL
    rw [List.takeWhile_cons_of_neg hn, List.append_nil]
  unfold secN atL
  rw [h1]
  refine ⟨rfl, ?_⟩
  rw [e, k.2, List.dropWhile_cons_of_neg hn, size_list x]; rfl
theorem sec_all {s : ByteArray} (hp : ∀ y ∈ linesB s.data.toList, full y.data.toList = true) :
    secN s.data.toList = (flatB (linesB s.data.toList)).length ∧ atL s.data.toList = (flatB (linesB s.data.toList)).length := by
  have e := lines_back (s := s) rfl
  have k := hdr_id (ls := splitL s.data.toList) (fun l hl => by rw [e] at hl; obtain ⟨y, hy, rfl⟩ := List.mem_map.1 hl; exact hp y hy)
  unfold secN atL
  rw [k.1, k.2, e]
  exact ⟨rfl, rfl⟩
theorem full_is (x : ByteArray) : ((strL (bareL x.data.toList)).toList == []) = !full x.data.toList := by
  rw [ByteArray.toList_eq]
  unfold full
  rw [strL_list]
  cases bareL x.data.toList <;> rfl
theorem run_loadVar_int {P : Program} {t : TypeId} {k : IntKind} (hu : P.underlying t = some (.int k)) {w : World} {b : Nat} {v : Value} (h : w.cell? ⟨b, 0, none⟩ = some v) : (loadVar t ⟨b, 0, none⟩).run P w = .ok v w := by
  unfold loadVar
  simp [go_sem, isAgg, run_underlying hu, h]
theorem results_cells2 {P : Program} {fn : Func} {p u : Tmp} {t : TypeId} {k : IntKind} (hu : P.underlying t = some (.int k)) (h : fn.results = #[.cell p t, .cell u t]) (tmps : Array Value) (w : World) {b1 b2 : Nat} {v1 v2 : Value}
    (h1 : tmps.getD p undef = .pointer (some ⟨b1, 0, none⟩)) (h2 : tmps.getD u undef = .pointer (some ⟨b2, 0, none⟩)) (c1 : w.cell? ⟨b1, 0, none⟩ = some v1) (c2 : w.cell? ⟨b2, 0, none⟩ = some v2) :
    (results fn tmps).run P w = .ok (.tuple #[v1, v2]) w := by
  have h1' : tmps[p]?.getD undef = .pointer (some ⟨b1, 0, none⟩) := by simpa using h1
  have h2' : tmps[u]?.getD undef = .pointer (some ⟨b2, 0, none⟩) := by simpa using h2
  simp [results, h, h1', h2', asAddr, run_loadVar_int hu c1, run_loadVar_int hu c2, Sem.run_bind, Result.andThen]
theorem keeps_set {W : World} {b B : Nat} (h : b < B) (v : Value) : KeepsFrom B W (W.setCell ⟨b, 0, none⟩ v) :=
  KeepsFrom.of_grownBy (grownBy_setCell' W b v) (fun j e => by cases e; exact h)
theorem box_put {W : World} {b b' : Nat} {t : TypeId} {v u : Value} (h : Boxed W b t v) (hne : b' ≠ b) : Boxed (W.setCell ⟨b', 0, none⟩ u) b t v := h.kept (grownBy_setCell' W b' u) (fun e => hne (by cases e; rfl))
theorem below_put {w W : World} {C b : Nat} (h : Below C w W) (hC : C ≤ w.heap.size) (hb : C ≤ b) (v : Value) : Below C w (W.setCell ⟨b, 0, none⟩ v) :=
  h.grown (grownBy_setCell' W b v) (Nat.le_trans hC h.size) (fun k e => by cases e; exact hb)
theorem box_obj {W : World} {b : Nat} {t : TypeId} {v : Value} (h : Boxed W b t v) (D : Nat) (o : Obj) (hne : b ≠ D) : Boxed (W.putObj D o) b t v := h.kept (grownBy_putObj' W D o) (fun e => hne (by cases e; rfl))
theorem below_obj {w W : World} {C D : Nat} (h : Below C w W) (hC : C ≤ w.heap.size) (hD : C ≤ D) (o : Obj) : Below C w (W.putObj D o) :=
  h.grown (grownBy_putObj' W D o) (Nat.le_trans hC h.size) (fun k e => by cases e; exact hD)
theorem put_far {W : World} {b k : Nat} (h : k ≠ b) (v : Value) : (W.setCell ⟨b, 0, none⟩ v).heap[k]? = W.heap[k]? := Below.heap_setCell W ⟨b, 0, none⟩ v k h
set_option maxRecDepth 100000 in
set_option maxHeartbeats 2000000 in
theorem section_any (s : ByteArray) (hs : s.size ≤ 1000000) (w : World) :
    Calls Tryd.prog 33 #[.string s] w fun e w' => e = .returned (.tuple #[.int .i64 (secN s.data.toList), .int .i64 (atL s.data.toList)]) ∧ Below w.heap.size w w' := by
  have hG := iter_gives index_any 8 (by decide) (w.heap.size + 2) s (by omega)
  have hfb := @flat_bound s
  have hend := @sec_end s
  have hall := @sec_all s
  obtain ⟨xs, hxs⟩ : ∃ xs, linesB s.data.toList = xs := ⟨_, rfl⟩
  rw [hxs] at hG
  simp only [hxs] at hfb hend hall
  generalize secN s.data.toList = N at hend hall ⊢
  generalize atL s.data.toList = M at hend hall ⊢
  have HALL := Lib.hid hall
  clear hxs hall
  refine (callsIn_wide (n := 9)).1 (callsIn_of_wp_marks Tryd.func33 rfl trivial ?_ rfl)
  simp only [Tryd.ntmps33, List.size_toArray, List.length_cons, List.length_nil, Nat.reduceAdd, Nat.reduceSub, Array.replicate_succ, Array.replicate_zero, List.push_toArray, List.append_toArray, List.nil_append, List.cons_append]
  gi_wp2_with (refine ⟨trivial, ?_⟩; gi_at_call 41; refine (callsIn_wide.2 (lines_any s _)).mono ?_; rintro e w2 ⟨rfl, rfl⟩)
  have b0 := Boxed.new w 3 (.int .i64 0)
  have b1 := Boxed.new (w.alloc (.cells #[.int .i64 0] 3)) 3 (.int .i64 0)
  have b2 := Boxed.new ((w.alloc (.cells #[.int .i64 0] 3)).alloc (.cells #[.int .i64 0] 3)) 9 (.string s)
  simp only [World.size_alloc] at b1 b2
  have hb3 : Below w.heap.size w (((w.alloc (.cells #[.int .i64 0] 3)).alloc (.cells #[.int .i64 0] 3)).alloc (.cells #[.string s] 9)) := (((Below.refl _ w).alloc (Nat.le_refl _) _).alloc (by simp) _).alloc (by simp; omega) _
  refine wp_iter (by decide) rfl (enters_of Tryd.func54 (by kernel_rfl) rfl) rfl hG (fun o o' => (b2.alloc o).alloc o') (by rintro k rfl; simp) lst_kept (fun A C h k => book_box A C (by simp) h k)
    (fun pre W => Boxed W w.heap.size 3 (.int .i64 ((flatB pre).length : Nat)) ∧ Boxed W (w.heap.size + 1) 3 (.int .i64 0) ∧ Below w.heap.size w W ∧ Hid (∀ y ∈ pre, full y.data.toList = true))
    (fun c _ W => c = .ret ∧ Boxed W w.heap.size 3 (.int .i64 N) ∧ Boxed W (w.heap.size + 1) 3 (.int .i64 M) ∧ Below w.heap.size w W)
    (fun pre A C hi hg => ⟨boxed_calm hi.1 hg (by omega), boxed_calm hi.2.1 hg (by omega), below_calm2 hi.2.2.1 hg (Nat.le_refl _) (by omega) (by simp; omega), hi.2.2.2⟩)
    (fun _ pre A C hi hg => ⟨hi.1, boxed_calm hi.2.1 hg (by omega), boxed_calm hi.2.2.1 hg (by omega), below_calm2 hi.2.2.2 hg (Nat.le_refl _) (by omega) (by simp; omega)⟩)
    ⟨(b0.alloc _).alloc _, b1.alloc _, hb3, by intro y hy; cases hy⟩
    (fun x => { tmps := #[.string s, undef, .pointer (some ⟨w.heap.size, 0, none⟩), .pointer (some ⟨w.heap.size + 1, 0, none⟩), .string x, .string s, .func (.func 54) #[] #[.pointer (some ⟨w.heap.size + 2, 0, none⟩)], .string x, undef, undef, undef, undef, undef, undef, undef, undef, undef, undef, undef, undef, undef, undef], defers := [] }) ?assign ?body ?done ?stop
  case assign =>
    intro l x W K hK
    gi_wp2
    exact hK
  case body =>
    rintro l pre x rest W hx ⟨hb0, hb1, hB, hfull⟩ ⟨u, hbu⟩ hsz
    simp only [World.size_alloc] at hsz ⊢
    have hfx := hfb hx
    have hT := bare_any x (by omega) W
    have hF := full_is x
    have c0 := hb0.cell
    have f0 := hb0.frozen
    have c1 := hb1.cell
    have f1 := hb1.frozen
    have F1 : IntKind.i64.wrap (((flatB pre).length : Int) + (x.size : Int)) = ((flatB pre).length : Int) + (x.size : Int) := by rw [IntKind.wrap_i64]; omega
    have HX := Lib.hid hx
    have HP : Hid ((flatB (pre ++ [x])).length = (flatB pre).length + x.size) := by show _ = _; rw [flatB_snoc, List.length_append, ← size_list]
    have HA : Hid (∀ y ∈ pre, full y.data.toList = true) := hfull
    by_cases hfl : full x.data.toList = true
    · rw [hfl] at hF
      have HFL := Lib.hid hfl
      generalize strL (bareL x.data.toList) = R at hT hF
      generalize (flatB pre).length = q at hb0 c0 F1 hfx HP
      clear hfb hG b0 b1 b2 hb3 hx hfl hend
      gi_wp2_with (refine ⟨trivial, ?_⟩; gi_at_call 42; refine (CallsIn.inRound l (callsIn_wide.2 hT)).mono ?_; rintro e W2 ⟨rfl, hw⟩; rw [hw]; clear hw W2)
      refine ⟨keeps_set (by omega) _, (by rintro k rfl; exact put_far (by omega) _), ?_, box_put hb1 (by omega), below_put hB (Nat.le_refl _) (Nat.le_refl _) _, ?_⟩
      · rw [HP.out, Int.natCast_add]; exact hb0.set _
      · intro y hy
        rcases List.mem_append.1 hy with hy | hy
        · exact HA.out y hy
        · rw [List.mem_singleton.1 hy]; exact HFL.out
    · have hfl' : full x.data.toList = false := by simpa using hfl
      rw [hfl'] at hF
      have hE := Lib.hid (hend hx hfull.out hfl')
      generalize strL (bareL x.data.toList) = R at hT hF
      generalize (flatB pre).length = q at hb0 c0 F1 hfx hE
      clear hfb hG b0 b1 b2 hb3 hx hfl hfl' hend
      gi_wp2_with (refine ⟨trivial, ?_⟩; gi_at_call 42; refine (CallsIn.inRound l (callsIn_wide.2 hT)).mono ?_; rintro e W2 ⟨rfl, hw⟩; rw [hw]; clear hw W2)
      obtain ⟨e1, e2⟩ := hE.out
      refine ⟨(keeps_set (by omega) _).trans (keeps_set (by omega) _), rfl, ?_, ?_, below_put (below_put hB (Nat.le_refl _) (Nat.le_refl _) _) (Nat.le_refl _) (by omega) _⟩
      · rw [e1]; exact box_put (hb0.set _) (by omega)
      · rw [e2, Int.natCast_add]; exact (box_put hb1 (by omega)).set _
  case done =>
    rintro D W hD ⟨hb0, hb1, hB, hfull⟩ hK
    simp only [World.size_alloc] at hD
    have c0 := hb0.cell
    have f0 := hb0.frozen
    have c1 := hb1.cell
    have f1 := hb1.frozen
    have hE := Lib.hid (HALL.out hfull.out)
    gi_wp2
    obtain ⟨e1, e2⟩ := hE.out
    rw [e1, e2]
    have k0 := box_put (u := .int .i64 ((flatB xs).length : Nat)) (b' := w.heap.size + 1) (hb0.set (.int .i64 ((flatB xs).length : Nat))) (by omega)
    have k1 := (box_put (u := .int .i64 ((flatB xs).length : Nat)) (b' := w.heap.size) hb1 (by omega)).set (.int .i64 ((flatB xs).length : Nat))
    have hK2 := (put_far (W := W.setCell ⟨w.heap.size, 0, none⟩ (.int .i64 ((flatB xs).length : Nat))) (b := w.heap.size + 1) (k := D) (by omega) (.int .i64 ((flatB xs).length : Nat))).trans ((put_far (W := W) (b := w.heap.size) (k := D) (by omega) (.int .i64 ((flatB xs).length : Nat))).trans hK)
    refine ⟨by simp, .inl ⟨_, _, rfl, run_takeDeferred hK2, ?_⟩⟩
    exact ⟨_, results_cells2 Tryd.underlying3 rfl _ _ rfl rfl (box_obj k0 D _ (by omega)).cell (box_obj k1 D _ (by omega)).cell, rfl, below_obj (below_put (below_put hB (Nat.le_refl _) (Nat.le_refl _) _) (Nat.le_refl _) (by omega) _) (Nat.le_refl _) (by omega) _⟩
  case stop =>
    rintro D c pre W hD ⟨rfl, hb0, hb1, hB⟩ hK
    simp only [World.size_alloc] at hD
    gi_wp2
    refine ⟨by simp, .inl ⟨_, _, rfl, run_takeDeferred hK, ?_⟩⟩
    exact ⟨_, results_cells2 Tryd.underlying3 rfl _ _ rfl rfl (box_obj hb0 D _ (by omega)).cell (box_obj hb1 D _ (by omega)).cell, rfl, below_obj hB (Nat.le_refl _) (by omega) _⟩
end Go.Proofs.YtocghngmjipjoaaDoor
