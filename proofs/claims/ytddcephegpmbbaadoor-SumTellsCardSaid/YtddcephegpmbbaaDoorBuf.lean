/- A slice of bytes in a block of the call's own, also where the block came out of a string; one byte appended. -/
import Derived.Test.YtddcephegpmbbaaDoorComp
import Derived.Deep.AppendSrc
import Derived.Lib.ConvBytes
namespace Go.Proofs.YtddcephegpmbbaaDoor
open Go.ChangeShapes Go.WideShapes Go.ChangeAt Go.RowKit

/-- Block g holds the bytes l and has room for cap of them. -/
structure Buf (base : Nat) (w : World) (g cap : Nat) (l : List UInt8) : Prop where
  le : l.length ≤ cap
  max : cap ≤ maxLen
  new : base ≤ g
  lt : g < w.heap.size
  holds : ∀ j, (h : j < l.length) → w.cell? ⟨g, j, none⟩ = some (.int .u8 (l[j].toNat : Int))
  there : ∀ j, j < cap → (w.cell? ⟨g, j, none⟩).isSome = true ∧ w.frozen? ⟨g, j, none⟩ = false
theorem Buf.block {base g cap : Nat} {w w' : World} {l : List UInt8} (h : Buf base w g cap l) (hs : w.heap.size ≤ w'.heap.size) (hb : w'.heap[g]? = w.heap[g]?) : Buf base w' g cap l :=
  ⟨h.le, h.max, h.new, Nat.lt_of_lt_of_le h.lt hs, fun j hj => by rw [World.cell?_of_block (by exact hb)]; exact h.holds j hj,
   fun j hj => by rw [World.cell?_of_block (by exact hb), World.frozen?_of_block (by exact hb)]; exact h.there j hj⟩
theorem Buf.alloc {base g cap : Nat} {w : World} {l : List UInt8} (h : Buf base w g cap l) (o : Obj) : Buf base (w.alloc o) g cap l :=
  h.block (by simp) (Below.heap_alloc _ _ _ h.lt)

theorem below_bytes (w : World) (s : ByteArray) : Below w.heap.size w (Lib.bytesWorld w 5 s) :=
  ⟨rfl, rfl, rfl, by rw [Lib.bytesWorld_size]; omega, fun j hj => Lib.bytesWorld_at_old w 5 s j hj⟩
theorem buf_bytes (w : World) (s : ByteArray) (hs : s.size ≤ maxLen) : Buf w.heap.size (Lib.bytesWorld w 5 s) w.heap.size (grownCap w s.size 0 5) s.data.toList := by
  have hg := grownCap_ge w s.size 0 5
  have hc : (Lib.bytesCells w 5 s).size = grownCap w s.size 0 5 := by
    unfold Lib.bytesCells
    rw [Array.size_append, Array.size_map, Array.size_replicate]
    show s.size + _ = _
    omega
  have hl : s.data.toList.length = s.size := by rw [Array.length_toList]; rfl
  refine ⟨by rw [hl]; exact hg, grownCap_le_maxLen _ _ _ _ hs, Nat.le_refl _, by rw [Lib.bytesWorld_size]; omega, fun j hj => ?_, fun j hj => ?_⟩
  · rw [Lib.bytesWorld_cell w 5 s j (by omega), List.getD_eq_getElem?_getD, List.getElem?_eq_getElem hj]; rfl
  · have hn := Lib.bytesWorld_at_new w 5 s
    constructor
    · rw [cell_of_row _ _ j _ _ _ hn, Array.getElem?_eq_getElem (by omega)]; rfl
    · simp only [World.frozen?, hn, hc]
      simp; omega

theorem Buf.push {base g cap : Nat} {w : World} {l : List UInt8} (h : Buf base w g cap l) (c : UInt8) (hr : l.length < cap) : Buf base (w.setCell ⟨g, l.length, none⟩ (.int .u8 c.toNat)) g cap (l ++ [c]) := by
  have hthere := h.there l.length hr
  refine ⟨by simp; omega, h.max, h.new, by simpa using h.lt, fun j hj => ?_, fun j hj => ?_⟩
  · by_cases e : j = l.length
    · subst e
      rw [World.cell?_setCell_same' _ _ _ hthere.1]
      simp
    · have hj' : j < l.length := by simp at hj; omega
      rw [World.cell?_setCell_other _ _ _ _ (by intro e2; injection e2; omega), h.holds j hj', List.getElem_append_left hj']
  · rw [World.frozen?_setCell]
    refine ⟨?_, (h.there j hj).2⟩
    by_cases e : j = l.length
    · subst e
      rw [World.cell?_setCell_same' _ _ _ hthere.1]; rfl
    · rw [World.cell?_setCell_other _ _ _ _ (by intro e2; injection e2; omega)]
      exact (h.there j hj).1
/-- One byte more: in its place, or in a new block. -/
theorem run_append_buf {base g cap : Nat} {w : World} {l : List UInt8} (h : Buf base w g cap l) (hB : base ≤ w.heap.size) (hl : l.length < 70368744177664) (c : UInt8) (ad : Addr) (m : Nat) (hc : w.cell? ad = some (.int .u8 c.toNat)) (ty : TypeId) :
    ∃ g' cap' w', (Builtin.append_ #[36, 36] ty #[.slice (some ⟨g, 0, none⟩) l.length cap, .slice (some ad) 1 m]).run Tryd.prog w = .ok (.slice (some ⟨g', 0, none⟩) (l.length + 1) cap') w' ∧
      Buf base w' g' cap' (l ++ [c]) ∧ w.grownBy w' (some g) := by
  obtain ⟨i0, hi, hz0, hz1, hz2⟩ := info_parts info5
  have hsrc : Src Tryd.prog i0.size 36 (.slice (some ad) 1 m) 1 [.int .u8 c.toNat] w := by
    refine Src.ofSlice w Tryd.underlying36 ad 1 m _ (by rw [hz1]; rfl) (fun j u hj => ?_) (fun u hu => by simp at hu; subst hu; rfl)
    cases j with
    | zero =>
      simp at hj; subst hj
      have e : ad.add 0 = ad := by unfold Addr.add; simp
      rw [e]; exact hc
    | succ j => simp at hj
  by_cases hr : l.length < cap
  · have := run_append_room_src (P := Tryd.prog) w 36 36 ty 5 i0 Tryd.underlying36 hi g 0 l.length cap (.slice (some ad) 1 m) 1 _ hsrc (by omega)
      (fun j hj => by
        have : j = 0 := by simpa using hj
        subst this
        rw [hz1, Nat.mul_one, Nat.zero_add, Nat.add_zero]; exact (h.there _ hr).1)
      (fun j hj => by
        have : j = 0 := by simpa using hj
        subst this
        rw [hz1, Nat.mul_one, Nat.zero_add, Nat.add_zero]; exact (h.there _ hr).2)
    rw [hz1, Nat.mul_one, Nat.zero_add] at this
    refine ⟨g, cap, _, this, h.push c hr, ?_⟩
    refine ⟨rfl, rfl, rfl, by simp [World.setCells, World.setCell], fun k hk hne => ?_⟩
    show ((w.setCell ⟨g, l.length, none⟩ (.int .u8 c.toNat)).heap)[k]? = _
    exact Below.heap_setCell _ _ _ _ (fun e => hne (by simp [e]))
  · have hfull : cap = l.length := by have := h.le; omega
    have hold : (Builtin.firstCells i0.size l.length (.slice (some ⟨g, 0, none⟩) l.length cap)).run Tryd.prog w.drew = .ok (cellsOf l).toArray w.drew := by
      refine run_firstCells_some w.drew i0.size l.length ⟨g, 0, none⟩ l.length cap (cellsOf l) (by rw [hz1]; simp [cellsOf]) (fun j v hj => ?_)
      have hjl : j < l.length := by
        have := (List.getElem?_eq_some_iff.1 hj).1
        simpa [cellsOf] using this
      have e : (⟨g, 0, none⟩ : Addr).add j = ⟨g, j, none⟩ := by unfold Addr.add; split <;> simp_all
      rw [e]
      show w.cell? _ = _
      rw [h.holds j hjl, ← hj, cellsOf, List.getElem?_map, List.getElem?_eq_getElem hjl]; rfl
    have := run_append_grow_src (P := Tryd.prog) w 36 36 ty 5 i0 (.int .u8 0) Tryd.underlying36 hi hz0 (some ⟨g, 0, none⟩) l.length cap (cellsOf l) hold (.slice (some ad) 1 m) 1 _ hsrc (by omega) (by omega)
      (by rw [hz2]; exact growslice_fits (by omega) (by omega))
    refine ⟨w.heap.size, _, _, this, ?_, ?_⟩
    · have hge := grownCap_ge w (l.length + 1) cap 5
      refine ⟨by simpa using hge, grownCap_le_maxLen _ _ _ _ (by unfold maxLen; omega), hB, by simp, fun j hj => ?_, fun j hj => ?_⟩
      · have := World.cell?_alloc_mark w.drew ((cellsOf l ++ [Value.int .u8 c.toNat]).toArray ++ Builtin.zeroCells (Value.int .u8 0).cells (grownCap w (l.length + 1) cap 5 - (l.length + 1))) 5 (0, 0) j
        refine Eq.trans this ?_
        have e : cellsOf l ++ [Value.int .u8 c.toNat] = cellsOf (l ++ [c]) := by simp [cellsOf]
        rw [e, Array.getElem?_append_left (by simpa [cellsOf] using hj), List.getElem?_toArray, cellsOf, List.getElem?_map, List.getElem?_eq_getElem hj]; rfl
      · constructor
        · have := World.cell?_alloc_mark w.drew ((cellsOf l ++ [Value.int .u8 c.toNat]).toArray ++ Builtin.zeroCells (Value.int .u8 0).cells (grownCap w (l.length + 1) cap 5 - (l.length + 1))) 5 (0, 0) j
          refine Eq.trans (congrArg Option.isSome this) ?_
          have hsz : j < ((cellsOf l ++ [Value.int .u8 c.toNat]).toArray ++ Builtin.zeroCells (Value.int .u8 0).cells (grownCap w (l.length + 1) cap 5 - (l.length + 1))).size := by
            rw [Array.size_append, size_zeroCells]
            simp [cellsOf, Value.cells]; omega
          rw [Array.getElem?_eq_getElem hsz]; rfl
        · exact World.frozen?_alloc_new _ _ _ _
    · exact ⟨rfl, rfl, rfl, by simp, fun k hk _ => Below.heap_alloc w.drew _ k hk⟩
theorem wpList_append_buf {ops : Array Oper} {rest : List Oper} {o : Oper} {a : Act} {Q : Exit → Act → World → Prop} {w : World} (hgd : o.guard = none) (s x : Operand)
    (ho : o.op = .call { callee := .builtin .append, args := #[s, x], argTypes := #[36, 36] }) {base g cap n : Nat} {l : List UInt8} (hn : n = l.length) (hv : a.eval s = .slice (some ⟨g, 0, none⟩) n cap) (h : Buf base w g cap l) (hB : base ≤ w.heap.size) (hl : l.length < 70368744177664)
    (c : UInt8) (ad : Addr) (m : Nat) (hx : a.eval x = .slice (some ad) 1 m) (hc : w.cell? ad = some (.int .u8 c.toNat))
    (hK : ∀ g' cap' w', Buf base w' g' cap' (l ++ [c]) → w.grownBy w' (some g) → wpList Tryd.prog ops Q rest (a.put o.dst (.slice (some ⟨g', 0, none⟩) (n + 1) cap')) w') : wpList Tryd.prog ops Q (o :: rest) a w := by
  subst hn
  refine wpList_plain hgd fun K hK' => ?_
  obtain ⟨g', cap', w', hrun, r1, r2⟩ := run_append_buf h hB hl c ad m hc o.type
  unfold Oper.wp
  simp [execOp, ho, resolve, invoke, builtin, hv, hx, hrun, Result.andThen]
  exact hK' _ _ (hK g' cap' w' r1 r2)
theorem conv_buf {base g cap n : Nat} {w : World} {l : List UInt8} (hn : n = l.length) (h : Buf base w g cap l) : (convert 36 9 (.slice (some ⟨g, 0, none⟩) n cap)).run Tryd.prog w = .ok (.string ⟨l.toArray⟩) w := by
  subst hn
  refine run_convert_bytes_back w 36 9 5 ⟨g, 0, none⟩ cap l Tryd.underlying36 Tryd.underlying5 Tryd.underlying9 fun j hj => ?_
  have e : (⟨g, 0, none⟩ : Addr).add j = ⟨g, j, none⟩ := by unfold Addr.add; split <;> simp_all
  rw [e]; exact h.holds j hj
end Go.Proofs.YtddcephegpmbbaaDoor
