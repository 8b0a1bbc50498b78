/- isPlain: atoms separated by single spaces. -/
import Derived.Test.YtmpgclimgbjeoaaDoorIter
import Derived.Test.YtmpgclimgbjeoaaDoorPref
import Derived.Lib.Hide
namespace Go.Proofs.YtmpgclimgbjeoaaDoor
open Go.ChangeShapes Go.WideShapes Go.ChangeAt Go.RowKit
open TokP

attribute [local go_sem] Oper.semAt_some

section
variable {bx B : Nat} {W W' : World}
theorem calm_row (h : LSt bx W W' ∨ Book B W W') : ∃ row, W.grownBy W' row ∧ ∀ r, row = some r → (r = bx ∧ ∃ u, Boxed W bx 9 u) ∨ (B ≤ r ∧ ∃ o : Obj, W.heap[r]? = some o ∧ o.isCells = false) := by
  rcases h with ⟨row, hg, hr⟩ | ⟨row, hg, hr⟩
  · exact ⟨row, hg, fun r e => .inl (hr r e)⟩
  · exact ⟨row, hg, fun r e => .inr (hr r e)⟩
/-- A block of cells that is not the iterator's box lies as it lay. -/
theorem cells_calm {b : Nat} {c : Array Value} {t : TypeId} {fz : Nat × Nat} (h : W.heap[b]? = some (.cells c t fz)) (hg : LSt bx W W' ∨ Book B W W') (hb : b ≠ bx) : W'.heap[b]? = some (.cells c t fz) := by
  obtain ⟨row, hg, hr⟩ := calm_row hg
  refine (hg.block b (Array.getElem?_eq_some_iff.1 h).1 fun e => ?_).trans h
  rcases hr b e.symm with ⟨h1, _⟩ | ⟨_, o, ho, hc⟩
  · exact hb h1
  · rw [h] at ho; cases ho; cases hc
theorem boxed_calm {b : Nat} {t : TypeId} {v : Value} (h : Boxed W b t v) (hg : LSt bx W W' ∨ Book B W W') (hb : b ≠ bx) : Boxed W' b t v := cells_calm h hg hb
theorem below_calm2 {w : World} {C : Nat} (h : Below C w W) (hg : LSt bx W W' ∨ Book B W W') (hC : C ≤ w.heap.size) (hb : C ≤ bx) (hB : C ≤ B) : Below C w W' := by
  obtain ⟨row, hg, hr⟩ := calm_row hg
  exact h.grown hg (Nat.le_trans hC h.size) (fun k e => by
    rcases hr k e with ⟨h1, _⟩ | ⟨h1, _⟩
    · omega
    · omega)
end
theorem run_loadVar_bool {P : Program} {t : TypeId} (hu : P.underlying t = some .bool) {w : World} {b : Nat} {v : Value} (h : w.cell? ⟨b, 0, none⟩ = some v) : (loadVar t ⟨b, 0, none⟩).run P w = .ok v w := by
  unfold loadVar
  simp [go_sem, isAgg, run_underlying hu, h]
theorem results_bool {fn : Func} (h : fn.results = #[.cell 2 4]) (tmps : Array Value) (w : World) {b1 : Nat} {v1 : Value}
    (h1 : tmps.getD 2 undef = .pointer (some ⟨b1, 0, none⟩)) (c1 : w.cell? ⟨b1, 0, none⟩ = some v1) : (results fn tmps).run Tryd.prog w = .ok v1 w := by
  have h1' : tmps[2]?.getD undef = .pointer (some ⟨b1, 0, none⟩) := by simpa using h1
  simp [results, h, h1', asAddr, run_loadVar_bool Tryd.underlying4 c1]
theorem keeps_set {W : World} {b B : Nat} (h : b < B) (v : Value) : KeepsFrom B W (W.setCell ⟨b, 0, none⟩ v) :=
  KeepsFrom.of_grownBy (grownBy_setCell' W b v) (fun j e => by cases e; exact h)
theorem below_put {w W : World} {C b : Nat} (h : Below C w W) (hC : C ≤ w.heap.size) (hb : C ≤ b) (v : Value) : Below C w (W.setCell ⟨b, 0, none⟩ v) :=
  h.grown (grownBy_setCell' W b v) (Nat.le_trans hC h.size) (fun k e => by cases e; exact hb)
theorem box_obj {W : World} {b : Nat} {t : TypeId} {v : Value} (h : Boxed W b t v) (D : Nat) (o : Obj) (hne : b ≠ D) : Boxed (W.putObj D o) b t v := h.kept (grownBy_putObj' W D o) (fun e => hne (by cases e; rfl))
theorem below_obj {w W : World} {C D : Nat} (h : Below C w W) (hC : C ≤ w.heap.size) (hD : C ≤ D) (o : Obj) : Below C w (W.putObj D o) :=
  h.grown (grownBy_putObj' W D o) (Nat.le_trans hC h.size) (fun k e => by cases e; exact hD)
/-! ### The pieces as strings -/
theorem seq_mem {s x : ByteArray} {pre rest : List ByteArray} (h : seqB s.data.toList = pre ++ x :: rest) : x.data.toList ∈ piecesL s.data.toList := by
  have hm : x ∈ seqB s.data.toList := by rw [h]; simp
  unfold seqB at hm
  obtain ⟨l, hl, rfl⟩ := List.mem_map.1 hm
  exact hl
theorem seq_len {s x : ByteArray} {pre rest : List ByteArray} (h : seqB s.data.toList = pre ++ x :: rest) : x.size ≤ s.size := by
  rw [size_list, size_list]
  exact pieces_len _ _ (seq_mem h)
theorem seq_bad {s x : ByteArray} {pre rest : List ByteArray} (h : seqB s.data.toList = pre ++ x :: rest) (hb : goodP x.data.toList = false) : plainA false s.data.toList = false := by
  rw [(plain_pieces s.data.toList).1, List.all_eq_false]
  exact ⟨_, seq_mem h, by rw [hb]; exact Bool.false_ne_true⟩
theorem seq_all {s : ByteArray} (h : ∀ x ∈ seqB s.data.toList, goodP x.data.toList = true) : plainA false s.data.toList = true := by
  rw [(plain_pieces s.data.toList).1, List.all_eq_true]
  intro p hp
  exact h (strL p) (by unfold seqB; exact List.mem_map_of_mem hp)
set_option maxRecDepth 100000 in
set_option maxHeartbeats 2000000 in
theorem plain_any (s : ByteArray) (hs : s.size ≤ 1000000) (w : World) :
    Calls Tryd.prog 25 #[.string s] w fun e w' => e = .returned (.bool (plainA false s.data.toList)) ∧ Below w.heap.size w w' := by
  have hG := iter_gives 8 (by decide) (w.heap.size + 2) (w.heap.size + 1) (w.heap.size + 3) (by omega) (by omega) s (by omega)
  have hlen := @seq_len s
  have hbad := @seq_bad s
  have hall := @seq_all s
  obtain ⟨xs, hxs⟩ : ∃ xs, seqB s.data.toList = xs := ⟨_, rfl⟩
  rw [hxs] at hG hall
  simp only [hxs] at hlen hbad
  generalize plainA false s.data.toList = R at hbad hall ⊢
  have HALL := Lib.hid hall
  have HLEN := Lib.hid (fun (pre rest : List ByteArray) (x : ByteArray) => @hlen x pre rest)
  have HBAD := Lib.hid (fun (pre rest : List ByteArray) (x : ByteArray) => @hbad x pre rest)
  clear hxs hall hlen hbad
  refine (callsIn_wide (n := 9)).1 (callsIn_of_wp_marks Tryd.func25 rfl trivial ?_ rfl)
  simp only [Tryd.ntmps25, List.size_toArray, List.length_cons, List.length_nil, Nat.reduceAdd, Nat.reduceSub, Array.replicate_succ, Array.replicate_zero, List.push_toArray, List.append_toArray, List.nil_append, List.cons_append]
  gi_wp2_with (refine ⟨trivial, ?_⟩; gi_at_call 39; refine (callsIn_wide.2 (seq_any s _)).mono ?_; rintro e w2 ⟨rfl, rfl⟩)
  have b0 := Boxed.new w 4 (.bool false)
  have hz : (w.alloc (.cells #[.bool false] 4)).heap.size = w.heap.size + 1 := by simp
  have hb1 : Below w.heap.size w (w.alloc (.cells #[.bool false] 4)) := (Below.refl _ w).alloc (Nat.le_refl _) _
  generalize w.alloc (.cells #[.bool false] 4) = w1 at b0 hz hb1 ⊢
  have d1 := Boxed.new w1 9 (.string s)
  have d2 := Boxed.new (w1.alloc (.cells #[.string s] 9)) 9 (.string ⟨#[32]⟩)
  have d3 := Boxed.new ((w1.alloc (.cells #[.string s] 9)).alloc (.cells #[.string ⟨#[32]⟩] 9)) 3 (.int .i64 0)
  rw [hz] at d1
  rw [World.size_alloc, hz] at d2
  rw [World.size_alloc, World.size_alloc, hz] at d3
  have hb3 : Below w.heap.size w (((w1.alloc (.cells #[.string s] 9)).alloc (.cells #[.string ⟨#[32]⟩] 9)).alloc (.cells #[.int .i64 0] 3)) := ((hb1.alloc hb1.size _).alloc (by rw [World.size_alloc]; have := hb1.size; omega) _).alloc (by rw [World.size_alloc, World.size_alloc]; have := hb1.size; omega) _
  have e1 := (d1.alloc (.cells #[.string ⟨#[32]⟩] 9)).alloc (.cells #[.int .i64 0] 3)
  have e2 := d2.alloc (.cells #[.int .i64 0] 3)
  have e0 := ((b0.alloc (.cells #[.string s] 9)).alloc (.cells #[.string ⟨#[32]⟩] 9)).alloc (.cells #[.int .i64 0] 3)
  have hz3 : (((w1.alloc (.cells #[.string s] 9)).alloc (.cells #[.string ⟨#[32]⟩] 9)).alloc (.cells #[.int .i64 0] 3)).heap.size = w.heap.size + 4 := by simp [hz]
  clear d1 d2 b0 hb1
  rw [show w.heap.size + 1 + 1 = w.heap.size + 2 from rfl, show w.heap.size + 1 + 2 = w.heap.size + 3 from rfl] at *
  generalize ((w1.alloc (.cells #[.string s] 9)).alloc (.cells #[.string ⟨#[32]⟩] 9)).alloc (.cells #[.int .i64 0] 3) = w3 at d3 hb3 e1 e2 e0 hz3 ⊢
  refine wp_iter (by decide) rfl (enters_of Tryd.func44 (by kernel_rfl) rfl) rfl hG (fun o o' => ⟨(e2.alloc o).alloc o', (e1.alloc o).alloc o', (d3.alloc o).alloc o'⟩) (by rintro k (rfl | rfl | rfl) <;> omega) lst_kept (fun _ _ _ _ => trivial)
    (fun pre W => Boxed W w.heap.size 4 (.bool false) ∧ Below w.heap.size w W ∧ Hid (∀ y ∈ pre, goodP y.data.toList = true))
    (fun c _ W => c = .ret ∧ Boxed W w.heap.size 4 (.bool false) ∧ Below w.heap.size w W ∧ Hid (R = false))
    (fun pre A C hi hg => ⟨boxed_calm hi.1 hg (by omega), below_calm2 hi.2.1 hg (Nat.le_refl _) (by omega) (by omega), hi.2.2⟩)
    (fun _ pre A C hi hg => ⟨hi.1, boxed_calm hi.2.1 hg (by omega), below_calm2 hi.2.2.1 hg (Nat.le_refl _) (by omega) (by omega), hi.2.2.2⟩)
    ⟨e0, hb3, by intro y hy; cases hy⟩
    (fun x => { tmps := #[.string s, undef, .pointer (some ⟨w.heap.size, 0, none⟩), .string x, .string s, .func (.func 44) #[] #[.pointer (some ⟨w.heap.size + 2, 0, none⟩), .pointer (some ⟨w.heap.size + 1, 0, none⟩), .pointer (some ⟨w.heap.size + 3, 0, none⟩)], .string x, undef, undef, undef, undef, undef, undef, undef, undef, undef], defers := [] }) ?assign ?body ?done ?stop
  case assign =>
    intro l x W K hK
    gi_wp2
    exact hK
  case body =>
    rintro l pre x rest W hx ⟨hb0, hB, hgood⟩ _ hsz
    rw [hz3] at hsz ⊢
    have c0 := hb0.cell
    have f0 := hb0.frozen
    have hxl := HLEN.out pre rest x hx
    have hxz := size_list x
    by_cases h0 : x.data.toList = []
    · have HR := Lib.hid (HBAD.out pre rest x hx (by rw [h0]; rfl))
      obtain rfl : x = ⟨#[]⟩ := bytes_is h0
      clear hG HALL HLEN HBAD hx hxl hxz h0
      gi_wp2_with (refine ⟨trivial, ?_⟩)
      exact ⟨keeps_set (by omega) _, rfl, hb0.set _, below_put hB (Nat.le_refl _) (Nat.le_refl _) _, HR⟩
    · have hne : x.toList.isEmpty = false := by
        rw [ByteArray.toList_eq]
        cases hl : x.data.toList with
        | nil => exact absurd hl h0
        | cons _ _ => rfl
      have cP := pre_atom x (by omega)
      have hle := take_all x.data.toList
      have hgi := good_iff x.data.toList
      rw [← hxz] at hle hgi
      by_cases hg : goodP x.data.toList = true
      · have hlen := (hgi.1 hg).2
        rw [hlen] at cP
        have HG2 : Hid (∀ y ∈ pre ++ [x], goodP y.data.toList = true) := fun y hy => by
          rcases List.mem_append.1 hy with hy | hy
          · exact hgood.out y hy
          · rw [List.mem_singleton.1 hy]; exact hg
        clear hG HALL HLEN HBAD hx hxl hxz h0 hgi hg hlen hle
        gi_wp2_with (refine ⟨trivial, ?_⟩; gi_at_call 31; refine (CallsIn.inRound l (callsIn_wide.2 (cP _))).mono ?_; rintro e W2 ⟨rfl, hw⟩; rw [← hw]; clear hw W2)
        exact ⟨KeepsFrom.refl _ _, fun _ _ => rfl, hb0, hB, HG2⟩
      · have hg' : goodP x.data.toList = false := by simpa using hg
        have HR := Lib.hid (HBAD.out pre rest x hx hg')
        have hlt : (x.data.toList.takeWhile atomB).length < x.size := by
          rcases Nat.lt_or_ge (x.data.toList.takeWhile atomB).length x.size with h | h
          · exact h
          · exact absurd (hgi.2 ⟨h0, by omega⟩) hg
        generalize (x.data.toList.takeWhile atomB).length = m at cP hlt
        have hlt' : (m : Int) < (x.size : Int) := by omega
        clear hG HALL HLEN HBAD hx hxl hxz h0 hgi hg hg' hle
        gi_wp2_with (refine ⟨trivial, ?_⟩; gi_at_call 31; refine (CallsIn.inRound l (callsIn_wide.2 (cP _))).mono ?_; rintro e W2 ⟨rfl, hw⟩; rw [← hw]; clear hw W2)
        exact ⟨keeps_set (by omega) _, rfl, hb0.set _, below_put hB (Nat.le_refl _) (Nat.le_refl _) _, HR⟩
  case done =>
    rintro D W hD ⟨hb0, hB, hgood⟩ hK
    rw [hz3] at hD
    have c0 := hb0.cell
    have f0 := hb0.frozen
    have hR := HALL.out hgood.out
    subst hR
    gi_wp2
    refine ⟨by simp, .inl ⟨_, _, rfl, run_takeDeferred ((Below.heap_setCell W ⟨w.heap.size, 0, none⟩ _ D (by show D ≠ w.heap.size; omega)).trans hK), ?_⟩⟩
    exact ⟨_, results_bool rfl _ _ rfl (box_obj (hb0.set _) D _ (by omega)).cell, rfl, below_obj (below_put hB (Nat.le_refl _) (Nat.le_refl _) _) (Nat.le_refl _) (by omega) _⟩
  case stop =>
    rintro D c pre W hD ⟨rfl, hb0, hB, HR⟩ hK
    rw [hz3] at hD
    have c0 := hb0.cell
    have hR := HR.out
    subst hR
    gi_wp2
    refine ⟨by simp, .inl ⟨_, _, rfl, run_takeDeferred hK, ?_⟩⟩
    exact ⟨_, results_bool rfl _ _ rfl (box_obj hb0 D _ (by omega)).cell, rfl, below_obj hB (Nat.le_refl _) (by omega) _⟩
end Go.Proofs.YtmpgclimgbjeoaaDoor
