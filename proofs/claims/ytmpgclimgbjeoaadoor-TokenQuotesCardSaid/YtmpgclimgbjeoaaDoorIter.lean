/- strings.SplitSeq with a space: what it hands back gives the pieces of its string, one by one. -/
import Derived.Test.YtmpgclimgbjeoaaDoorByte
import Derived.Test.YtmpgclimgbjeoaaDoorSplP
import Derived.Test.YtmpgclimgbjeoaaDoorRange
import Derived.Shelf.Abstract
import Derived.Shelf.RegionOpen
import Derived.OwnWalkIn
import Derived.TacticsInMore
import Derived.LoopNIn
import Derived.LoopIn
import Derived.Lib.Bytealg
namespace Go.Proofs.YtmpgclimgbjeoaaDoor
open Go.ChangeShapes Go.WideShapes Go.ChangeAt Go.RowKit
open TokP

attribute [local go_sem] Oper.semAt_some

theorem index_no {l : List UInt8} (h : 32 ∉ l) : Lib.indexByte l 32 = -1 := by
  induction l with
  | nil => rfl
  | cons c t ih =>
    simp only [List.mem_cons, not_or] at h
    have hc : (c == 32) = false := beq_eq_false_iff_ne.2 (fun e => h.1 e.symm)
    rw [Lib.indexByte, hc, ih h.2]; rfl
theorem index_at (m r : List UInt8) (h : 32 ∉ m) : Lib.indexByte (m ++ 32 :: r) 32 = m.length := by
  induction m with
  | nil => rfl
  | cons c t ih =>
    simp only [List.mem_cons, not_or] at h
    have hc : (c == 32) = false := beq_eq_false_iff_ne.2 (fun e => h.1 e.symm)
    rw [List.cons_append, Lib.indexByte, hc, ih h.2]
    have : ((t.length : Int) == -1) = false := beq_eq_false_iff_ne.2 (by omega)
    rw [this]
    simp
/-- The pieces as strings. -/
def seqB (l : List UInt8) : List ByteArray := (piecesL l).map strL
theorem piece_cases (l : List UInt8) : 32 ∉ l ∨ ∃ m r, l = m ++ 32 :: r ∧ 32 ∉ m := by
  by_cases h : 32 ∈ l
  · obtain ⟨m, r, e, hm⟩ := List.eq_append_cons_of_mem h
    exact .inr ⟨m, r, e, hm⟩
  · exact .inl h
/-- How much is left, read off the box. -/
def leftIn (bx : Nat) (w : World) : Nat := match w.cell? ⟨bx, 0, none⟩ with
  | some (.string u) => u.size
  | _ => 0
theorem left_is {bx : Nat} {w : World} {t : ByteArray} (h : Boxed w bx 9 (.string t)) : leftIn bx w = t.size := by
  unfold leftIn; rw [h.cell]
/-- How the iterator turns the world between two rounds. -/
def LSt (bx : Nat) (A B : World) : Prop := ∃ row, A.grownBy B row ∧ ∀ r, row = some r → r = bx ∧ ∃ u, Boxed A bx 9 u
theorem lst_kept {bx : Nat} (A B : World) (h : LSt bx A B) : A.heap.size ≤ B.heap.size ∧ ∀ (k : Nat) (o : Obj), A.heap[k]? = some o → o.isCells = false → B.heap[k]? = some o := by
  obtain ⟨row, hg, hr⟩ := h
  refine ⟨hg.size, fun k o hk ho => (hg.block k (Array.getElem?_eq_some_iff.1 hk).1 fun e => ?_).trans hk⟩
  obtain ⟨rfl, u, hu⟩ := hr k e.symm
  rw [show A.heap[k]? = _ from hu] at hk
  cases hk; cases ho
theorem lst_set {bx : Nat} {W : World} {u : Value} (h : Boxed W bx 9 u) (v : Value) : LSt bx W (W.setCell ⟨bx, 0, none⟩ v) := ⟨some bx, grownBy_setCell' _ _ _, fun r e => by cases e; exact ⟨rfl, _, h⟩⟩
theorem lst_drew (bx : Nat) (W : World) : LSt bx W W.drew := ⟨none, ⟨rfl, rfl, rfl, Nat.le_refl _, fun _ _ _ => rfl⟩, fun r e => by cases e⟩
theorem box_put {W : World} {b b' : Nat} {t : TypeId} {v u : Value} (h : Boxed W b t v) (hne : b' ≠ b) : Boxed (W.setCell ⟨b', 0, none⟩ u) b t v := h.kept (grownBy_setCell' W b' u) (fun e => hne (by cases e; rfl))
set_option maxRecDepth 100000 in
set_option maxHeartbeats 2000000 in
theorem iter_gives (n : Nat) (hn : 2 ≤ n) (b1 b2 b3 : Nat) (h12 : b2 ≠ b1) (h23 : b2 ≠ b3) (s : ByteArray) (hs : s.size ≤ 140737488355328) : Gives n Tryd.prog 44 #[.pointer (some ⟨b1, 0, none⟩), .pointer (some ⟨b2, 0, none⟩), .pointer (some ⟨b3, 0, none⟩)] (LSt b2) (fun k => k = b1 ∨ k = b2 ∨ k = b3) (fun _ => True)
    (fun W => Boxed W b1 9 (.string ⟨#[32]⟩) ∧ Boxed W b2 9 (.string s) ∧ Boxed W b3 3 (.int .i64 0)) (seqB s.data.toList) := by
  intro l J Jx W hJ _ hY hb h0
  have c0 := hb.1.cell
  refine callsIn_of_wp Tryd.func44 rfl trivial ?_ rfl
  simp only [Tryd.ntmps44, List.size_toArray, List.length_cons, List.length_nil, Nat.reduceAdd, Nat.reduceSub, Array.replicate_succ, Array.replicate_zero, List.push_toArray, List.append_toArray, List.nil_append, List.cons_append]
  gi_wp2
  clear c0
  gi_loopw [] (fun wr => ∃ (pre : List ByteArray) (t : ByteArray), seqB s.data.toList = pre ++ seqB t.data.toList ∧ t.size ≤ 140737488355328 ∧ (Boxed wr b1 9 (.string ⟨#[32]⟩) ∧ Boxed wr b2 9 (.string t) ∧ Boxed wr b3 3 (.int .i64 0)) ∧ J pre wr)
    (fun wr => leftIn b2 wr)
  case atStart => exact ⟨[], s, rfl, hs, hb, h0⟩
  case round =>
    obtain ⟨pre, t, hx, ht, ⟨hb1, hb2, hb3⟩, hj⟩ := hrel
    have k1 := hb1.cell
    have k2 := hb2.cell
    have k3 := hb3.cell
    have f2 := hb2.frozen
    have hsz := size_list t
    have hi := Tryd.strings_Index_one t 32
    rcases piece_cases t.data.toList with hl | ⟨m, r, hl, hm⟩
    · rw [index_no hl] at hi
      rw [show seqB t.data.toList = [t] by unfold seqB; rw [pieces_no _ hl]; simp only [List.map_cons, List.map_nil, strL_of]] at hx
      clear hsz hl
      gi_wp2_with (refine ⟨trivial, fun _ => by omega, ?_⟩; gi_at_call 46; refine (callsIn_wide.2 (hi _)).mono ?_; rintro e w' ⟨rfl, rfl⟩)
      obtain ⟨fn, tmps, assign, body, hy, hR⟩ := hY pre t [] _ hx hj trivial
      rw [hy, Oper.uponIn_round]
      refine ⟨fun _ => by omega, hR.mono ?_⟩
      rintro e W3 (⟨rfl, hj3, hbx3⟩ | ⟨rfl, hx3⟩)
      · rw [← hx] at hj3
        gi_wp2
        go_end0
        exact ⟨⟨_, rfl⟩, .inl hj3⟩
      · gi_wp2
        go_end0
        exact ⟨⟨_, rfl⟩, .inr ⟨_, hx3⟩⟩
    · obtain ⟨k, hk⟩ : ∃ k, m.length = k := ⟨_, rfl⟩
      have hk1 : k + 1 ≤ t.size := by
        rw [hsz, hl, List.length_append, List.length_cons, hk]; omega
      rw [hl, index_at m r hm, hk] at hi
      have hX : (t.extract 0 k) = strL m := bytes_is (by
        rw [part_start t k (by omega), hl, ← hk, strL_list, List.take_left' rfl])
      have hY2 : (t.extract (k + 1) t.size) = strL r := bytes_is (by
        rw [part_rest t (k + 1) hk1, hl, ← hk, strL_list, List.drop_length_add_append]
        rfl)
      have S1 := run_slice_to t k (k : Int) rfl (by omega)
      have S2 := run_slice_from t (k + 1) ((k : Int) + 1) (by omega) hk1
      rw [hX] at S1
      rw [hY2] at S2
      have hx2 : seqB s.data.toList = pre ++ strL m :: seqB (strL r).data.toList := by
        rw [hx]; unfold seqB; rw [hl, pieces_at m r hm]; rfl
      have hr2 : (strL r).size < t.size := by rw [strL_size, hsz, hl]; simp; omega
      obtain ⟨X, hXe⟩ : ∃ X, strL m = X := ⟨_, rfl⟩
      obtain ⟨Y, hYe⟩ : ∃ Y, strL r = Y := ⟨_, rfl⟩
      rw [hXe] at S1 hx2
      rw [hYe] at S2 hx2 hr2
      have F1 : IntKind.i64.wrap ((k : Int) + 1) = (k : Int) + 1 := by
        rw [IntKind.wrap_i64]; omega
      have F0 : IntKind.i64.wrap (k : Int) = (k : Int) := by
        rw [IntKind.wrap_i64]; omega
      have hg : ¬ ((k : Int) < 0) := by omega
      clear hX hY2 hXe hYe hl hsz hm hk
      gi_wp2_with (refine ⟨trivial, fun _ => by omega, ?_⟩; gi_at_call 46; refine (callsIn_wide.2 (hi _)).mono ?_; rintro e w' ⟨rfl, rfl⟩)
      obtain ⟨fn, tmps, assign, body, hy, hR⟩ := hY pre X (seqB Y.data.toList) _ hx2 hj trivial
      rw [hy, Oper.uponIn_round]
      refine ⟨fun _ => by omega, hR.mono ?_⟩
      clear k1 k2 k3 f2 S1 hi hY hy hR
      rintro e W3 (⟨rfl, hj3, hbx3⟩ | ⟨rfl, hx3⟩)
      · have d1 : Boxed W3 b1 9 (.string ⟨#[32]⟩) := (hbx3 b1 (.inl rfl)).trans hb1
        have d2 : Boxed W3 b2 9 (.string t) := (hbx3 b2 (.inr (.inl rfl))).trans hb2
        have d3 : Boxed W3 b3 3 (.int .i64 0) := (hbx3 b3 (.inr (.inr rfl))).trans hb3
        have k1 := d1.cell
        have k2 := d2.cell
        have f2 := d2.frozen
        gi_wp2
        go_roundw
        case rel => exact ⟨pre ++ [X], Y, by rw [hx2, List.append_assoc]; rfl, by omega, ⟨box_put d1 h12, d2.set _, box_put d3 h23⟩, hJ _ _ _ hj3 (lst_set d2 _)⟩
        case measure => rw [left_is (d2.set _), left_is hb2]; exact hr2
      · gi_wp2
        refine bodyPost_ret (results_none rfl _ _ _) rfl ?_
        exact ⟨⟨_, rfl⟩, .inr ⟨_, hx3⟩⟩
theorem seq_any (s : ByteArray) (w : World) :
    Calls Tryd.prog 39 #[.string s, .string ⟨#[32]⟩] w fun e w' => e = .returned (.func (.func 44) #[] #[.pointer (some ⟨w.heap.size + 1, 0, none⟩), .pointer (some ⟨w.heap.size, 0, none⟩), .pointer (some ⟨w.heap.size + 2, 0, none⟩)]) ∧
      w' = ((w.alloc (.cells #[.string s] 9)).alloc (.cells #[.string ⟨#[32]⟩] 9)).alloc (.cells #[.int .i64 0] 3) := by
  have c42 : Calls Tryd.prog 42 #[.string s, .string ⟨#[32]⟩, .int .i64 0] w fun e w' => e = .returned (.func (.func 44) #[] #[.pointer (some ⟨w.heap.size + 1, 0, none⟩), .pointer (some ⟨w.heap.size, 0, none⟩), .pointer (some ⟨w.heap.size + 2, 0, none⟩)]) ∧
      w' = ((w.alloc (.cells #[.string s] 9)).alloc (.cells #[.string ⟨#[32]⟩] 9)).alloc (.cells #[.int .i64 0] 3) := by
    go_enter Tryd.func42, Tryd.ntmps42
    go_wp2_with fail
    go_ret
    exact ⟨rfl, rfl⟩
  go_enter Tryd.func39, Tryd.ntmps39
  go_wp2_with (go_at_call 42; refine c42.mono ?_; rintro e w' ⟨rfl, rfl⟩)
  go_ret
  exact ⟨rfl, rfl⟩
end Go.Proofs.YtmpgclimgbjeoaaDoor
