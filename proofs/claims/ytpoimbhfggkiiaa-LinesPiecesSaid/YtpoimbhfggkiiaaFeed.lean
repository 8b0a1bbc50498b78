/- A Feed in memory: New, Rest, and a piece added to the begun line. -/
import Derived.Test.YtpoimbhfggkiiaaColl
import Derived.Test.YtpoimbhfggkiiaaHeld
import Derived.Test.YtpoimbhfggkiiaaShelf
import Derived.Lib.AppendStr
import Derived.Lib.OthersKept
import Derived.Deep.RegionHeld3
import Derived.Lib.Hide
namespace Go.Proofs.Ytpoimbhfggkiiaa
open Go.ChangeShapes Go.WideShapes Go.ChangeAt Go.RowKit
open LinesP

/-- The Feed in block b: its limit, and the row v (from block B on) that holds the begun line l. -/
structure FdV (w : World) (B b lim : Nat) (v : Value) (l : List UInt8) : Prop where
  blk : w.heap[b]? = some (.cells #[.int .i64 lim, v] 53 (0, 0))
  own : w.ownsRow B 5 1 v l.length (Lib.byteCells l)
def Fd (w : World) (B b lim : Nat) (l : List UInt8) : Prop := ∃ v, FdV w B b lim v l
/-- All blocks lie as they lay, but b and rows of bytes from B on. -/
structure Fr (B b : Nat) (w w' : World) : Prop where
  bel : Below 0 w w'
  same : ∀ k, k < w.heap.size → k ≠ b → (k < B ∨ ∀ c fz, w.heap[k]? ≠ some (.cells c 5 fz)) → w'.heap[k]? = w.heap[k]?
theorem Fr.refl (B b : Nat) (w : World) : Fr B b w w := ⟨Below.refl _ _, fun _ _ _ _ => rfl⟩
theorem Fr.trans {B b : Nat} {w w1 w2 : World} (h : Fr B b w w1) (k : Fr B b w1 w2) : Fr B b w w2 := by
  refine ⟨h.bel.trans k.bel, fun i hi hb hu => ?_⟩
  have h1 := h.same i hi hb hu
  rw [k.same i (Nat.lt_of_lt_of_le hi h.bel.size) hb (hu.imp id (fun hn c fz e => hn c fz (h1 ▸ e))), h1]
theorem Fr.below {B b B' : Nat} {w w' : World} (h : Fr B b w w') (h1 : B' ≤ b) (h2 : B' ≤ B) (hs : B' ≤ w.heap.size) : Below B' w w' :=
  ⟨h.bel.os, h.bel.tape, h.bel.output, h.bel.size, fun k hk => h.same k (by omega) (by omega) (.inl (by omega))⟩
theorem Fr.of_below {B b : Nat} {w w' : World} (h : Below w.heap.size w w') : Fr B b w w' := ⟨h.mono (Nat.zero_le _), fun k hk _ _ => h.block k hk⟩
section
variable {w w' : World} {B b lim : Nat} {v : Value} {l : List UInt8}
theorem FdV.slice (h : FdV w B b lim v l) : ∃ a c, v = .slice a l.length c := by
  rcases h.own.2 with ⟨rfl, h0⟩ | ⟨g, cap, cur, rfl, _⟩
  · exact ⟨none, 0, by rw [h0]⟩
  · exact ⟨_, _, rfl⟩
theorem FdV.c0 (h : FdV w B b lim v l) : w.cell? ⟨b, 0, none⟩ = some (.int .i64 lim) := by rw [Lib.cell_of_heap h.blk]; rfl
theorem FdV.c1 (h : FdV w B b lim v l) : w.cell? ⟨b, 1, none⟩ = some v := by rw [Lib.cell_of_heap h.blk]; rfl
theorem FdV.f1 (h : FdV w B b lim v l) : w.frozen? ⟨b, 1, none⟩ = false := Lib.frozen_of_heap h.blk 1
theorem FdV.ne (h : FdV w B b lim v l) : v.ownBlock ≠ some b := by
  rcases h.own.2 with ⟨rfl, _⟩ | ⟨g, cap, cur, rfl, _, hg, _⟩
  · simp [Value.ownBlock]
  · intro e
    obtain rfl : g = b := by simpa [Value.ownBlock] using e
    have := h.blk.symm.trans hg
    simp at this
theorem FdV.lt (h : FdV w B b lim v l) : b < w.heap.size := (Array.getElem?_eq_some_iff.1 h.blk).1
theorem FdV.grow (h : FdV w B b lim v l) (hg : w.grownBy w' v.ownBlock) :
    w'.heap[b]? = some (.cells #[.int .i64 lim, v] 53 (0, 0)) ∧ w'.cell? ⟨b, 1, none⟩ = some v ∧ w'.frozen? ⟨b, 1, none⟩ = false := by
  have hb2 : w'.heap[b]? = some (.cells #[.int .i64 lim, v] 53 (0, 0)) := by
    rw [hg.block b h.lt (fun e => h.ne e.symm)]; exact h.blk
  exact ⟨hb2, by rw [Lib.cell_of_heap hb2]; rfl, Lib.frozen_of_heap hb2 1⟩
theorem FdV.fr (h : FdV w B b lim v l) (hg : w.grownBy w' v.ownBlock) : Fr B b w w' := by
  refine ⟨⟨hg.os, hg.tape, hg.output, hg.size, fun k hk => absurd hk (Nat.not_lt_zero _)⟩, fun k hk hb hu => hg.block k hk fun e => ?_⟩
  rcases h.own.2 with ⟨rfl, _⟩ | ⟨g, cap, cur, rfl, hB, hgb, _⟩
  · simp [Value.ownBlock] at e
  · obtain rfl : k = g := by simpa [Value.ownBlock] using e
    rcases hu with hu | hu
    · omega
    · exact hu _ _ hgb
theorem slice_form {e : TypeId} {size n : Nat} {xs : List Value} (h : w.ownsRow B e size v n xs) : ∃ a n c, v = .slice a n c := by
  rcases h.2 with ⟨rfl, _⟩ | ⟨g, cap, cur, rfl, _⟩
  · exact ⟨_, _, _, rfl⟩
  · exact ⟨_, _, _, rfl⟩
theorem feed_store {u : Value} (hb : w.heap[b]? = some (.cells #[.int .i64 lim, u] 53 (0, 0))) (ho : w.ownsRow B 5 1 v l.length (Lib.byteCells l)) :
    FdV (w.setCell ⟨b, 1, none⟩ v) B b lim v l ∧ Fr B b w (w.setCell ⟨b, 1, none⟩ v) := by
  have hlt := (Array.getElem?_eq_some_iff.1 hb).1
  have hne : v.ownBlock ≠ some b := by
    rcases ho.2 with ⟨rfl, _⟩ | ⟨g, cap, cur, rfl, _, hg, _⟩
    · simp [Value.ownBlock]
    · intro e
      obtain rfl : g = b := by simpa [Value.ownBlock] using e
      have := hb.symm.trans hg
      simp at this
  have hgr : w.grownBy (w.setCell ⟨b, 1, none⟩ v) (some b) := ⟨rfl, rfl, rfl, by simp [World.setCell], fun k _ hk => Below.heap_setCell _ _ _ k (fun e => hk (by rw [e]))⟩
  refine ⟨⟨?_, ho.kept hgr (.inr hne)⟩, ⟨hgr.os, hgr.tape, hgr.output, hgr.size, fun k hk => absurd hk (Nat.not_lt_zero _)⟩, fun k hk hb' _ => hgr.block k hk (fun e => hb' (by simpa using e))⟩
  simp [World.setCell, Array.getElem?_modify, hb]
end

/-- A string's bytes appended, as one operation. -/
theorem wp_app_str {o : Oper} {a : Act} {w w' : World} {K : Act → World → Prop} {Q : Exit → Act → World → Prop} (s x : Operand) (hop : o.op = Op.call { callee := Callee.builtin Builtin.append, args := #[s, x], argTypes := #[44, 9] })
    (v v' : Value) (X : ByteArray) (hs : a.eval s = v) (hx : a.eval x = .string X) (hr : (Builtin.append_ #[44, 9] o.type #[v, .string X]).run Try.prog w = .ok v' w') (hK : K (a.put o.dst v') w') : Oper.wp Try.prog o a w K Q := by
  unfold Oper.wp
  simp [execOp, hop, resolve, invoke, builtin, hs, hx, hr, Result.andThen]
  exact hK
/-- The field that holds the row. -/
structure Row (b : Nat) (v : Value) (w : World) : Prop where
  c : w.cell? ⟨b, 1, none⟩ = some v
  f : w.frozen? ⟨b, 1, none⟩ = false
set_option maxRecDepth 100000 in
set_option maxHeartbeats 2000000 in
theorem add_any (B b lim : Nat) (l : List UInt8) (x : ByteArray) (w : World) (h : Fd w B b lim l) (hB : B ≤ w.heap.size) (hlim : lim ≤ 1048576) (hl : l.length ≤ lim) (hx : x.size ≤ 1000000) :
    Calls Try.prog 35 #[.pointer (some ⟨b, 0, none⟩), .string x] w fun e w' => e = .returned (.tuple #[]) ∧ Fd w' B b lim (l ++ x.data.toList.take (lim - l.length)) ∧ Fr B b w w' := by
  obtain ⟨v, h⟩ := h
  obtain ⟨a, c, rfl⟩ := h.slice
  have c0 := h.c0
  have c1 := h.c1
  have H := Lib.hid h
  clear h
  obtain ⟨n, hn⟩ : ∃ n, l.length = n := ⟨_, rfl⟩
  rw [hn] at c1 hl H
  have F1 : IntKind.i64.wrap ((lim : Int) - n) = ((lim - n : Nat) : Int) := by rw [IntKind.wrap_i64]; omega
  go_enter Try.func35, Try.ntmps35
  go_wp2_with fail
  go_region
  obtain ⟨m, hm⟩ : ∃ m, min (lim - n) x.size = m := ⟨_, rfl⟩
  obtain ⟨X, hX⟩ : ∃ X, x.extract 0 m = X := ⟨_, rfl⟩
  have hXs : X.size = m := by rw [← hX, ByteArray.size_extract]; omega
  have hXl : X.data.toList = x.data.toList.take (lim - n) := by
    rw [← hX, part_start x m (by omega)]
    by_cases hc : lim - n ≤ x.size
    · rw [show m = lim - n by omega]
    · rw [List.take_of_length_le (by rw [← size_list]; omega), List.take_of_length_le (by rw [← size_list]; omega)]
  have HX := Lib.hid hXl
  have hIf : min ((lim - n : Nat) : Int) (x.size : Int) = (m : Int) := by omega
  have hmx : m ≤ x.size := by omega
  have H2 : FdV w.drew.drew B b lim (.slice a n c) l := ⟨H.out.blk, H.out.own⟩
  have HR : Hid (Fr B b w w.drew.drew) := Fr.of_below ((Below.refl _ _).drew.drew)
  obtain ⟨i0, hi, hz0, hz1, hz2⟩ := info_parts info5
  obtain ⟨v', w2, hr, hown, hgr, _⟩ := Lib.run_append_own_string (P := Try.prog) (w := w.drew.drew) B 44 9 44 5 i0 Try.underlying44 Try.underlying9 hi hz0 hz1 hz2 _ _ _ H2.own X (by unfold maxLen; omega) (by omega) hB
  obtain ⟨a', n', c', rfl⟩ := slice_form hown
  obtain ⟨hb2, d1, g1⟩ := H2.grow hgr
  have T1 : Row b (.slice a n c) w.drew := ⟨H2.c1, H2.f1⟩
  have T2 : Row b (.slice a n c) w2 := ⟨d1, g1⟩
  have hf := H2.fr hgr
  rw [show Lib.byteCells l ++ Lib.strCells X = Lib.byteCells (l ++ X.data.toList) from (Lib.byteCells_append _ _).symm, show l.length + X.size = (l ++ X.data.toList).length by rw [List.length_append, size_list]] at hown
  have hst := feed_store hb2 hown
  have T3 : Row b (.slice a' n' c') (w2.setCell ⟨b, 1, none⟩ (.slice a' n' c')) := ⟨hst.1.c1, hst.1.f1⟩
  have HF : Hid (Fd (w2.setCell ⟨b, 1, none⟩ (.slice a' n' c')) B b lim (l ++ X.data.toList)) := ⟨_, hst.1⟩
  have HQ : Hid (Fr B b w (w2.setCell ⟨b, 1, none⟩ (.slice a' n' c'))) := (HR.out.trans hf).trans hst.2
  clear H hXl hst hf hown hb2 hgr H2 hi hz0 hz1 hz2 HR hB hlim hl hx hXs
  go_wp2_with fail
  refine wp_region_any (by kernel_rfl) ?_
  change wpAny _ _ _ _ _ _ _ (World.drew _)
  refine wpAny_take (i := 0) (v := .pointer (some ⟨b, 0, none⟩)) rfl (by kernel_rfl) (by kernel_rfl) (by kernel_rfl) (fun _ _ _ h => h) (Or.inl ⟨by rfl, fun w => by go_simp⟩) ?_
  simp only [Act.put, List.setIfInBounds_toArray]
  refine wpAny_take (i := 1) (v := .pointer (some ⟨b, 0, none⟩)) rfl (by kernel_rfl) (by kernel_rfl) (by kernel_rfl) (fun _ _ _ h => h) (Or.inl ⟨by rfl, fun w => by go_simp⟩) ?_
  simp only [Act.put]
  refine wpAny_take (i := 2) (v := .pointer (some ⟨b, 0, none⟩)) rfl (by kernel_rfl) (by kernel_rfl) (by kernel_rfl) (fun _ _ _ h => h) (Or.inl ⟨by rfl, fun w => by go_simp⟩) ?_
  simp only [Act.put]
  refine wpAny_take (i := 3) (v := .pointer (some ⟨b, 1, none⟩)) rfl (by kernel_rfl) (by kernel_rfl) (by kernel_rfl) (fun _ _ _ h => h) (Or.inl ⟨by rfl, fun w => by go_simp⟩) ?_
  simp only [Act.put]
  refine wpAny_take (i := 5) (v := .string x) rfl (by kernel_rfl) (by kernel_rfl) (by kernel_rfl) (fun _ _ _ h => h) (Or.inl ⟨by rfl, fun w => by go_simp⟩) ?_
  simp only [Act.put]
  refine wpAny_take (i := 6) (v := .int .i64 ((lim - n : Nat) : Int)) rfl (by kernel_rfl) (by kernel_rfl) (by kernel_rfl) (fun _ _ _ h => h) (Or.inl ⟨by rfl, fun w => by go_simp⟩) ?_
  simp only [Act.put]
  refine wpAny_take (i := 7) (v := .string x) rfl (by kernel_rfl) (by kernel_rfl) (by kernel_rfl) (fun _ _ _ h => h) (Or.inl ⟨by rfl, fun w => by go_simp⟩) ?_
  simp only [Act.put]
  refine wpAny_take (i := 8) (v := .int .i64 x.size) rfl (by kernel_rfl) (by kernel_rfl) (by kernel_rfl) (fun _ _ _ h => h) (Or.inl ⟨by rfl, fun w => by go_simp⟩) ?_
  simp only [Act.put]
  refine wpAny_take (i := 9) (v := .int .i64 m) rfl (by kernel_rfl) (by kernel_rfl) (by kernel_rfl) (fun _ _ _ h => h) (Or.inl ⟨by rfl, fun w => by go_simp⟩) ?_
  simp only [Act.put]
  refine wpAny_take (i := 10) (v := .string X) rfl (by kernel_rfl) (by kernel_rfl) (by kernel_rfl) (fun _ _ _ h => h) (Or.inl ⟨by rfl, fun w => by go_simp⟩) ?_
  simp only [Act.put]
  refine wpAny_ready (rs := [4]) (by kernel_rfl) (by simp) ?_
  refine AllReady.cons rfl (fun K hK => ?_) AllReady.nil
  go_simp
  refine hK _ _ ?_
  clear hK K
  refine wpAny_ready (rs := [11]) (by kernel_rfl) (by simp) ?_
  refine AllReady.cons rfl (fun K hK => ?_) AllReady.nil
  rw [if_pos (by rfl)]
  refine wp_app_str (.tmp 19) (.tmp 25) rfl _ _ X rfl rfl hr ?_
  refine hK _ _ ?_
  simp only [Act.put, List.setIfInBounds_toArray]
  clear hK K
  refine wpAny_take (i := 12) (v := .pointer (some ⟨b, 0, none⟩)) rfl (by kernel_rfl) (by kernel_rfl) (by kernel_rfl) (fun _ _ _ h => h) (Or.inl ⟨by rfl, fun w => by go_simp⟩) ?_
  simp only [Act.put]
  refine wpAny_take (i := 13) (v := .pointer (some ⟨b, 1, none⟩)) rfl (by kernel_rfl) (by kernel_rfl) (by kernel_rfl) (fun _ _ _ h => h) (Or.inl ⟨by rfl, fun w => by go_simp⟩) ?_
  simp only [Act.put]
  refine wpAny_ready (rs := [14]) (by kernel_rfl) (by simp) ?_
  refine AllReady.cons rfl (fun K hK => ?_) AllReady.nil
  go_simp
  refine hK _ _ ?_
  clear hK K
  refine wpAny_done (by kernel_rfl) ?_ _
  go_wp2_with fail
  go_end0
  rw [hn, ← HX.out]
  exact ⟨rfl, HF.out, HQ.out⟩
end Go.Proofs.Ytpoimbhfggkiiaa
