/- strings.Lines: what it hands back gives the lines of its string, one by one. -/
import Derived.Test.YtocghngmjipjoaaDoorBase
import Derived.Test.YtocghngmjipjoaaDoorRange
import Derived.Shelf.Abstract
import Derived.Shelf.RegionOpen
import Derived.OwnWalkIn
import Derived.TacticsInMore
import Derived.LoopNIn
import Derived.LoopIn
import Derived.Lib.Bytealg
namespace Go.Proofs.YtocghngmjipjoaaDoor
open Go.ChangeShapes Go.WideShapes Go.ChangeAt Go.RowKit
open LinesP

attribute [local go_sem] Oper.semAt_some

theorem index_no {l : List UInt8} (h : 10 ∉ l) : Lib.indexByte l 10 = -1 := by
  induction l with
  | nil => rfl
  | cons c t ih =>
    simp only [List.mem_cons, not_or] at h
    have hc : (c == 10) = false := beq_eq_false_iff_ne.2 (fun e => h.1 e.symm)
    rw [Lib.indexByte, hc, ih h.2]; rfl
theorem index_at (m r : List UInt8) (h : 10 ∉ m) : Lib.indexByte (m ++ 10 :: r) 10 = m.length := by
  induction m with
  | nil => rfl
  | cons c t ih =>
    simp only [List.mem_cons, not_or] at h
    have hc : (c == 10) = false := beq_eq_false_iff_ne.2 (fun e => h.1 e.symm)
    rw [List.cons_append, Lib.indexByte, hc, ih h.2]
    have : ((t.length : Int) == -1) = false := beq_eq_false_iff_ne.2 (by omega)
    rw [this]
    simp
/-- The lines as strings. -/
def linesB (l : List UInt8) : List ByteArray := (splitL l).map strL
theorem line_cases (l : List UInt8) : l = [] ∨ (Tail l) ∨ ∃ m r, l = m ++ 10 :: r ∧ 10 ∉ m := by
  by_cases h : 10 ∈ l
  · obtain ⟨m, r, e, hm⟩ := List.eq_append_cons_of_mem h
    exact .inr (.inr ⟨m, r, e, hm⟩)
  · by_cases hn : l = []
    · exact .inl hn
    · exact .inr (.inl ⟨hn, h⟩)
/-- How much is left, read off the box. -/
def leftIn (bx : Nat) (w : World) : Nat := match w.cell? ⟨bx, 0, none⟩ with
  | some (.string u) => u.size
  | _ => 0
theorem left_is {bx : Nat} {w : World} {t : ByteArray} (h : Boxed w bx 9 (.string t)) : leftIn bx w = t.size := by
  unfold leftIn; rw [h.cell]

/-- How the iterator turns the world between two rounds. -/
def LSt (bx : Nat) (A B : World) : Prop := ∃ row, A.grownBy B row ∧ ∀ r, row = some r → r = bx ∧ ∃ u, Boxed A bx 9 u
theorem lst_kept {bx : Nat} (A B : World) (h : LSt bx A B) : A.heap.size ≤ B.heap.size ∧ ∀ (k : Nat) (o : Obj), A.heap[k]? = some o → o.isCells = false → B.heap[k]? = some o := by
  obtain ⟨row, hg, hr⟩ := h
  refine ⟨hg.size, fun k o hk ho => (hg.block k (Array.getElem?_eq_some_iff.1 hk).1 fun e => ?_).trans hk⟩
  obtain ⟨rfl, u, hu⟩ := hr k e.symm
  rw [show A.heap[k]? = _ from hu] at hk
  cases hk; cases ho

set_option maxRecDepth 100000 in
set_option maxHeartbeats 2000000 in
theorem iter_gives (cI : ∀ (t : ByteArray) (w : World), Calls Tryd.prog 55 #[.string t, .int .u8 10] w fun e w' => e = .returned (.int .i64 (Lib.indexByte t.data.toList 10)) ∧ w' = w)
    (n : Nat) (hn : 2 ≤ n) (bx : Nat) (s : ByteArray) (hs : s.size ≤ 140737488355328) : Gives n Tryd.prog 54 #[.pointer (some ⟨bx, 0, none⟩)] (LSt bx) (fun k => k = bx) (fun W => ∃ u, Boxed W bx 9 u) (fun W => Boxed W bx 9 (.string s)) (linesB s.data.toList) := by
  intro l J Jx W hJ _ hY hb h0
  refine callsIn_of_wp Tryd.func54 rfl trivial ?_ rfl
  simp only [Tryd.ntmps54, List.size_toArray, List.length_cons, List.length_nil, Nat.reduceAdd, Nat.reduceSub, Array.replicate_succ, Array.replicate_zero, List.push_toArray, List.append_toArray, List.nil_append, List.cons_append]
  gi_wp2
  gi_loopw [] (fun wr => ∃ (pre : List ByteArray) (t : ByteArray), linesB s.data.toList = pre ++ linesB t.data.toList ∧ t.size ≤ 140737488355328 ∧ Boxed wr bx 9 (.string t) ∧ J pre wr)
    (fun wr => leftIn bx wr)
  case atStart => exact ⟨[], s, rfl, hs, hb, h0⟩
  case round =>
    obtain ⟨pre, t, hx, ht, hbt, hj⟩ := hrel
    have hc := hbt.cell
    have hf := hbt.frozen
    have hsz := size_list t
    rcases line_cases t.data.toList with hl | hl | ⟨m, r, hl, hm⟩
    · obtain rfl : t = ⟨#[]⟩ := bytes_is (by rw [hl])
      rw [show linesB (⟨#[]⟩ : ByteArray).data.toList = [] from rfl, List.append_nil] at hx
      rw [hx]
      gi_wp2
      go_end0
      exact ⟨⟨_, rfl⟩, .inl hj⟩
    · have hpos : 0 < t.size := by
        rw [hsz]; exact List.length_pos_iff.2 hl.1
      have hi := cI t
      rw [index_no hl.2] at hi
      rw [show linesB t.data.toList = [t] by unfold linesB; rw [split_tail hl]; simp only [List.map_cons, List.map_nil, strL_of]] at hx
      clear hsz hl
      gi_wp2_with (refine ⟨trivial, fun _ => by omega, ?_⟩; gi_at_call 55; refine (callsIn_wide.2 (hi _)).mono ?_; rintro e w' ⟨rfl, rfl⟩)
      obtain ⟨W2, hW2⟩ : ∃ W2, w'.setCell ⟨bx, 0, none⟩ (.string ⟨#[]⟩) = W2 := ⟨_, rfl⟩
      have hb2 : Boxed W2 bx 9 (.string ⟨#[]⟩) := by rw [← hW2]; exact hbt.set _
      have hj2 : J pre W2 := by rw [← hW2]; exact hJ _ _ _ hj ⟨some bx, grownBy_setCell' _ _ _, fun r e => by cases e; exact ⟨rfl, _, hbt⟩⟩
      obtain ⟨fn, tmps, assign, body, hy, hR⟩ := hY pre t [] W2 hx hj2 ⟨_, hb2⟩
      rw [hW2, hy, Oper.uponIn_round]
      refine ⟨fun _ => by omega, hR.mono ?_⟩
      rintro e W3 (⟨rfl, hj3, hbx3⟩ | ⟨rfl, hx3⟩)
      · have hb3 : Boxed W3 bx 9 (.string ⟨#[]⟩) := (hbx3 bx rfl).trans hb2
        gi_wp2
        go_roundw
        case rel => exact ⟨pre ++ [t], ⟨#[]⟩, by rw [hx]; exact (List.append_nil _).symm, Nat.zero_le _, hb3, hj3⟩
        case measure => rw [left_is hb3, left_is hbt]; exact hpos
      · gi_wp2
        refine bodyPost_ret (results_none rfl _ _ _) rfl ?_
        exact ⟨⟨_, rfl⟩, .inr ⟨_, hx3⟩⟩
    · obtain ⟨k, hk⟩ : ∃ k, m.length = k := ⟨_, rfl⟩
      have hk1 : k + 1 ≤ t.size := by
        rw [hsz, hl, List.length_append, List.length_cons, hk]; omega
      have hi := cI t
      rw [hl, index_at m r hm, hk] at hi
      have hX : (t.extract 0 (k + 1)) = strL (m ++ [10]) := bytes_is (by
        rw [part_start t (k + 1) hk1, hl, ← hk, strL_list, List.take_length_add_append]
        rfl)
      have hY2 : (t.extract (k + 1) t.size) = strL r := bytes_is (by
        rw [part_rest t (k + 1) hk1, hl, ← hk, strL_list, List.drop_length_add_append]
        rfl)
      have S1 := run_slice_to t (k + 1) ((k : Int) + 1) (by omega) hk1
      have S2 := run_slice_from t (k + 1) ((k : Int) + 1) (by omega) hk1
      rw [hX] at S1
      rw [hY2] at S2
      have hx2 : linesB s.data.toList = pre ++ strL (m ++ [10]) :: linesB (strL r).data.toList := by
        rw [hx]; unfold linesB; rw [hl, split_term m r hm]; rfl
      have hr2 : (strL r).size < t.size := by rw [strL_size, hsz, hl]; simp; omega
      obtain ⟨X, hXe⟩ : ∃ X, strL (m ++ [10]) = X := ⟨_, rfl⟩
      obtain ⟨Y, hYe⟩ : ∃ Y, strL r = Y := ⟨_, rfl⟩
      rw [hXe] at S1 hx2
      rw [hYe] at S2 hx2 hr2
      have F1 : IntKind.i64.wrap ((k : Int) + 1) = (k : Int) + 1 := by
        rw [IntKind.wrap_i64]; omega
      have hg : decide ((0 : Int) ≤ k) = true := decide_eq_true (by omega)
      clear hX hY2 hXe hYe hl hsz hm hk
      gi_wp2_with (refine ⟨trivial, fun _ => by omega, ?_⟩; gi_at_call 55; refine (callsIn_wide.2 (hi _)).mono ?_; rintro e w' ⟨rfl, rfl⟩)
      gi_region
      gi_wp2
      obtain ⟨W2, hW2⟩ : ∃ W2, (w'.setCell ⟨bx, 0, none⟩ (.string Y)).drew = W2 := ⟨_, rfl⟩
      have hb2 : Boxed W2 bx 9 (.string Y) := by rw [← hW2]; exact hbt.set _
      have hj2 : J pre W2 := by
        rw [← hW2]
        exact hJ _ _ _ (hJ _ _ _ hj ⟨some bx, grownBy_setCell' _ _ _, fun r e => by cases e; exact ⟨rfl, _, hbt⟩⟩) ⟨none, ⟨rfl, rfl, rfl, Nat.le_refl _, fun _ _ _ => rfl⟩, fun r e => by cases e⟩
      obtain ⟨fn, tmps, assign, body, hy, hR⟩ := hY pre X (linesB Y.data.toList) W2 hx2 hj2 ⟨_, hb2⟩
      rw [hW2, hy, Oper.uponIn_round]
      refine ⟨fun _ => by omega, hR.mono ?_⟩
      rintro e W3 (⟨rfl, hj3, hbx3⟩ | ⟨rfl, hx3⟩)
      · have hb3 : Boxed W3 bx 9 (.string Y) := (hbx3 bx rfl).trans hb2
        gi_wp2
        go_roundw
        case rel => exact ⟨pre ++ [X], Y, by rw [hx2, List.append_assoc]; rfl, by omega, hb3, hj3⟩
        case measure => rw [left_is hb3, left_is hbt]; exact hr2
      · gi_wp2
        refine bodyPost_ret (results_none rfl _ _ _) rfl ?_
        exact ⟨⟨_, rfl⟩, .inr ⟨_, hx3⟩⟩
set_option maxHeartbeats 1000000 in
/-- strings.Lines: the string in a box, the iterator over it. -/
theorem lines_any (s : ByteArray) (w : World) :
    Calls Tryd.prog 41 #[.string s] w fun e w' => e = .returned (.func (.func 54) #[] #[.pointer (some ⟨w.heap.size, 0, none⟩)]) ∧ w' = w.alloc (.cells #[.string s] 9) := by
  go_enter Tryd.func41, Tryd.ntmps41
  go_wp2_with fail
  go_ret
  exact ⟨rfl, rfl⟩
end Go.Proofs.YtocghngmjipjoaaDoor
