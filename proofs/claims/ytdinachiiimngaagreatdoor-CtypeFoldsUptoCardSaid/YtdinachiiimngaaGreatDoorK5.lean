/- A parameter in a box; the reference's first. The two maps of the program's params in memory: what a look-up answers, what a store leaves. strings.Cut at one byte, strings.LastIndexByte of an asterisk. The program's placed: the place that a name denotes. The program's assignment: the name and the value that a row gives. Parameters (two strings each) as values; slices of parameters: in a block of their own, or read at an address; the reference's Params. The reference's Param. -/
import Derived.Test.YtdinachiiimngaaGreatDoorK4
import Derived.Laws.ResultCell
import Derived.Test.YtdinachiiimngaaGreatDoorK3
import Derived.Maps.Own
import Derived.MapKept
import Derived.Lib.LastIndexByte
import Derived.Test.YtdinachiiimngaaGreatDoorKShelf3
import Derived.Deep.RegionHeld3
import Derived.BigQuiet
import Derived.Test.YtdinachiiimngaaGreatDoorK6
import Derived.Test.YtdinachiiimngaaGreatDoorK1
import Derived.Test.YtdinachiiimngaaGreatDoorK2
namespace Go.Proofs.YtdinachiiimngaaGreatDoor
open Go.ChangeShapes Go.WideShapes Go.ChangeAt Go.RowKit
open TokP AdrP CtP

/-- A parameter in the box g. -/
def Ox (w : World) (g : Nat) (N : ByteArray) (S : Int) (I : Bool) (V : ByteArray) : Prop := w.heap[g]? = some (.cells #[.string N, .int .i64 S, .bool I, .string V] 105 (0, 0))
theorem Ox.lt {w : World} {g : Nat} {N V : ByteArray} {S : Int} {I : Bool} (h : Ox w g N S I V) : g < w.heap.size := (Array.getElem?_eq_some_iff.1 h).1
theorem Ox.step {w w' : World} {g : Nat} {N V : ByteArray} {S : Int} {I : Bool} (h : Ox w g N S I V) (hb : Below w.heap.size w w') : Ox w' g N S I V := (hb.block _ h.lt).trans h
theorem ox_new (w : World) (N V : ByteArray) (S : Int) (I : Bool) : Ox (w.alloc (.cells #[.string N, .int .i64 S, .bool I, .string V] 105)) w.heap.size N S I V := World.alloc_heap_new w _
theorem Ox.c0 {w : World} {g : Nat} {N V : ByteArray} {S : Int} {I : Bool} (h : Ox w g N S I V) : w.cell? ⟨g, 0, none⟩ = some (.string N) := by rw [Lib.cell_of_heap h]; rfl
theorem Ox.c1 {w : World} {g : Nat} {N V : ByteArray} {S : Int} {I : Bool} (h : Ox w g N S I V) : w.cell? ⟨g, 1, none⟩ = some (.int .i64 S) := by rw [Lib.cell_of_heap h]; rfl
theorem Ox.c2 {w : World} {g : Nat} {N V : ByteArray} {S : Int} {I : Bool} (h : Ox w g N S I V) : w.cell? ⟨g, 2, none⟩ = some (.bool I) := by rw [Lib.cell_of_heap h]; rfl
theorem Ox.c3 {w : World} {g : Nat} {N V : ByteArray} {S : Int} {I : Bool} (h : Ox w g N S I V) : w.cell? ⟨g, 3, none⟩ = some (.string V) := by rw [Lib.cell_of_heap h]; rfl
theorem Ox.fr {w : World} {g : Nat} {N V : ByteArray} {S : Int} {I : Bool} (h : Ox w g N S I V) (i : Nat) : w.frozen? ⟨g, i, none⟩ = false := Lib.frozen_of_heap h i
theorem set_four {w : World} {g : Nat} {N V N' V' : ByteArray} {S S' : Int} {I I' : Bool} (h : Ox w g N S I V) :
    Ox ((((w.setCell ⟨g, 0, none⟩ (.string N')).setCell ⟨g, 1, none⟩ (.int .i64 S')).setCell ⟨g, 2, none⟩ (.bool I')).setCell ⟨g, 3, none⟩ (.string V')) g N' S' I' V' := by
  have h' : w.heap[g]? = some (.cells #[.string N, .int .i64 S, .bool I, .string V] 105 (0, 0)) := h
  obtain ⟨hlt, hk⟩ := Array.getElem?_eq_some_iff.1 h'
  show ((((w.setCell ⟨g, 0, none⟩ (.string N')).setCell ⟨g, 1, none⟩ (.int .i64 S')).setCell ⟨g, 2, none⟩ (.bool I')).setCell ⟨g, 3, none⟩ (.string V')).heap[g]? = _
  simp [World.setCell, Array.getElem?_modify, h']
theorem below_at {w W : World} {C : Nat} (h : Below C w W) (a : Addr) (hb : C ≤ a.block) (v : Value) : Below C w (W.setCell a v) :=
  ⟨h.os, h.tape, h.output, by simpa using h.size, fun k hk => by rw [Below.heap_setCell W a v k (by omega)]; exact h.block k hk⟩
theorem below_four {w W : World} {C g : Nat} (h : Below C w W) (hg : C ≤ g) (v0 v1 v2 v3 : Value) : Below C w ((((W.setCell ⟨g, 0, none⟩ v0).setCell ⟨g, 1, none⟩ v1).setCell ⟨g, 2, none⟩ v2).setCell ⟨g, 3, none⟩ v3) :=
  below_at (below_at (below_at (below_at h _ hg _) _ hg _) _ hg _) _ hg _
theorem rowsOne : (Tryz.prog.info? 105).map (·.size) = some 4 := by kernel_rfl
theorem results_one {fn : Func} {p u : Tmp} (h : fn.results = #[.cell p 105, .tmp u]) (tmps : Array Value) (w : World) (g : Nat) (N V : ByteArray) (S : Int) (I : Bool) (hp : tmps.getD p undef = .pointer (some ⟨g, 0, none⟩)) (hg : Ox w g N S I V) :
    (results fn tmps).run Tryz.prog w = .ok (.tuple #[.agg #[.string N, .int .i64 S, .bool I, .string V], tmps.getD u undef]) w := by
  rw [results_cell_tmp h, hp]
  have := run_loadVar_row (P := Tryz.prog) w g 105 105 #[.string N, .int .i64 S, .bool I, .string V] (0, 0) _ hg Tryz.underlying105 rfl rowsOne
  simp [asAddr, Result.andThen, this]
/-- A parameter as a value; none is the zero one. -/
def oneA (o : Option Par) : Value := match o with
  | some t => .agg #[.string (strL t.name), .int .i64 (secZ t.sec), .bool t.wide, .string (strL t.value)]
  | none => .agg #[.string ⟨#[]⟩, .int .i64 0, .bool false, .string ⟨#[]⟩]
theorem secZ_inj {a b : Option Nat} (h : secZ a = secZ b) : a = b := by
  unfold secZ at h
  split at h <;> split at h
  · congr 1; omega
  · omega
  · omega
  · rfl
theorem first_hit {l : List Par} {n : List UInt8} {z : Option Nat} {k : Nat} {p : Par} (hk : l[k]? = some p) (h1 : p.name = n) (h2 : p.sec = z) (h : ∀ (i : Nat) (q : Par), i < k → l[i]? = some q → ¬ (q.name = n ∧ q.sec = z)) : firstP l n z = some p := by
  unfold firstP
  induction l generalizing k with
  | nil => simp at hk
  | cons a r ih =>
    rw [List.find?_cons]
    cases k with
    | zero =>
      obtain rfl : a = p := by simpa using hk
      rw [show (a.name == n && a.sec == z) = true by simp [h1, h2]]
    | succ k =>
      rw [show (a.name == n && a.sec == z) = false by
        have := h 0 a (by omega) rfl
        rw [← Bool.not_eq_true]
        simpa using this]
      exact ih (k := k) (by simpa using hk) (fun i q hi hq => h (i + 1) q (by omega) (by simpa using hq))
theorem first_none {l : List Par} {n : List UInt8} {z : Option Nat} (h : ∀ (i : Nat) (q : Par), l[i]? = some q → ¬ (q.name = n ∧ q.sec = z)) : firstP l n z = none := by
  unfold firstP
  rw [List.find?_eq_none]
  intro q hq
  obtain ⟨i, hi, rfl⟩ := List.mem_iff_getElem.1 hq
  simpa using h i _ (List.getElem?_eq_getElem hi)
set_option maxRecDepth 100000 in
set_option maxHeartbeats 4000000 in
theorem rfirst_any (v : Value) (l : List Par) (n : List UInt8) (z : Option Nat) (hl : l.length ≤ 4000000) (R : Option Par) (hR : firstP l n z = R) (w : World) (h : Hid (HasO w v l)) :
    Calls Tryz.prog 113 #[v, .string (strL n), .int .i64 (secZ z)] w fun e w' => e = .returned (.tuple #[oneA R, .bool R.isSome]) ∧ Below w.heap.size w w' := by
  have HB0 := Lib.hid (show Below w.heap.size w (w.alloc (.cells #[.string ⟨#[]⟩, .int .i64 0, .bool false, .string ⟨#[]⟩] 105)) from (Below.refl _ w).alloc (Nat.le_refl _) _)
  have HX0 := Lib.hid (ox_new w ⟨#[]⟩ ⟨#[]⟩ 0 false)
  obtain ⟨a, c, rfl⟩ := h.out.form
  obtain ⟨m, hm⟩ : ∃ m, l.length = m := ⟨_, rfl⟩
  rw [hm] at h hl ⊢
  have HN := Lib.hid hm
  have HR := Lib.hid hR
  obtain ⟨Z, hZ⟩ : ∃ Z, secZ z = Z := ⟨_, rfl⟩
  rw [hZ]
  have HZ := Lib.hid hZ
  clear hm hR hZ
  go_enter Tryz.func113, Tryz.ntmps113
  go_wp2_with fail
  go_loopw [8] (fun i wr => ∃ k : Nat, k ≤ m ∧ i = .int .i64 k ∧ Hid (Below w.heap.size w wr) ∧ Hid (Ox wr w.heap.size ⟨#[]⟩ 0 false ⟨#[]⟩) ∧ Hid (∀ (i : Nat) (q : Par), i < k → l[i]? = some q → ¬ (q.name = n ∧ q.sec = z))) (fun i _ => m - (intOf i).toNat)
  case atStart => exact ⟨0, Nat.zero_le _, rfl, HB0, HX0, fun i _ hi => absurd hi (Nat.not_lt_zero _)⟩
  case round =>
    obtain ⟨k, hk, rfl, HB, HX, HF⟩ := hrel
    have F1 : IntKind.i64.wrap ((k : Int) + 1) = (k : Int) + 1 := by rw [IntKind.wrap_i64]; omega
    by_cases hlt : k < m
    · have hlt' : (k : Int) < (m : Int) := by omega
      obtain ⟨g, o, rfl, hfa⟩ := h.out.at (by omega)
      obtain ⟨p, hp⟩ : ∃ p, l[k]? = some p := ⟨_, List.getElem?_eq_getElem (by rw [HN.out]; exact hlt)⟩
      obtain ⟨p0, p1, p2, p3⟩ := hfa.step HB.out k p hp
      have e1 := eq_strL p.name n
      have HNX := Lib.hid (fun (h : ¬ (p.name = n ∧ p.sec = z)) => show ∀ (i : Nat) (q : Par), i < k + 1 → l[i]? = some q → ¬ (q.name = n ∧ q.sec = z) from fun i q hi hq => by
        rcases (show i < k ∨ i = k by omega) with h' | rfl
        · exact HF.out i q h' hq
        · rw [hp] at hq; rw [← Option.some.inj hq]; exact h)
      by_cases hn : p.name = n
      · rw [decide_eq_true hn] at e1
        by_cases hz : p.sec = z
        · have e2 : (secZ p.sec == Z) = true := beq_iff_eq.2 (by rw [hz, HZ.out])
          obtain rfl : some p = R := by rw [← HR.out]; exact (first_hit hp hn hz HF.out).symm
          have HV := Lib.hid (show oneA (some p) = .agg #[.string (strL p.name), .int .i64 (secZ p.sec), .bool p.wide, .string (strL p.value)] from rfl)
          generalize strL p.name = x0 at p0 e1 HV
          generalize secZ p.sec = x1 at p1 e2 HV
          generalize p.wide = x2 at p2 HV
          generalize strL p.value = x3 at p3 HV
          have b0 := HX.out.c0
          have b1 := HX.out.c1
          have b2 := HX.out.c2
          have b3 := HX.out.c3
          have bf := HX.out.fr
          clear hp hn hz HF HR hfa HNX
          go_wp2_with fail
          rw [HV.out]
          exact bodyPost_ret (results_one rfl _ _ w.heap.size _ _ _ _ rfl (set_four HX.out)) rfl ⟨rfl, below_four HB.out (Nat.le_refl _) _ _ _ _⟩
        · have e2 : (secZ p.sec == Z) = false := beq_eq_false_iff_ne.2 (fun e => hz (secZ_inj (e.trans HZ.out.symm)))
          have HF2 := Lib.hid (HNX.out (fun h => hz h.2))
          generalize strL p.name = x0 at p0 e1
          generalize secZ p.sec = x1 at p1 e2
          clear hp hn hz HF HR hfa HNX
          go_wp2_with fail
          go_roundw
          case rel => exact ⟨k + 1, by omega, by go_num, HB, HX, HF2⟩
          case measure => simp [intOf]; omega
      · rw [decide_eq_false hn] at e1
        have HF2 := Lib.hid (HNX.out (fun h => hn h.1))
        generalize strL p.name = x0 at p0 e1
        clear hp hn HF HR hfa HNX
        go_wp2_with fail
        go_roundw
        case rel => exact ⟨k + 1, by omega, by go_num, HB, HX, HF2⟩
        case measure => simp [intOf]; omega
    · obtain rfl : k = m := by omega
      have hlt' : ¬ (k : Int) < (k : Int) := by omega
      obtain rfl : none = R := by
        rw [← HR.out]
        exact (first_none (fun i q hq => HF.out i q (by have := (List.getElem?_eq_some_iff.1 hq).1; rw [HN.out] at this; exact this) hq)).symm
      have b0 := HX.out.c0
      have b1 := HX.out.c1
      have b2 := HX.out.c2
      have b3 := HX.out.c3
      have bf := HX.out.fr
      clear HF HR
      go_wp2_with fail
      exact bodyPost_ret (results_one rfl _ _ w.heap.size _ _ _ _ rfl (set_four HX.out)) rfl ⟨rfl, below_four HB.out (Nat.le_refl _) _ _ _ _⟩
end Go.Proofs.YtdinachiiimngaaGreatDoor
namespace Go.Proofs.YtdinachiiimngaaGreatDoor
open Go.ChangeShapes Go.WideShapes Go.ChangeAt Go.RowKit
open TokP AdrP CtP

def keyV (n : List UInt8) (z : Int) : Value := .agg #[.string (strL n), .int .i64 z]
def partA : Option (List UInt8 × Bool) → Value
  | some p => .agg #[.string (strL p.1), .bool p.2]
  | none => .agg #[.string ⟨#[]⟩, .bool false]
def entV (e : Ent) : Value × Value := (keyV e.1.1 e.1.2, .agg #[.string (strL e.2.1), .bool e.2.2])
/-- The map in block M holds these parts under their places. -/
def MpP (w : World) (M : Nat) (L : List Ent) : Prop := ∃ es c, w.heap[M]? = some (.map es c) ∧ es.toList.map (fun e => (e.key, e.val)) = L.map entV
/-- The map in block M holds these names. -/
def MpN (w : World) (M : Nat) (ns : List (List UInt8)) : Prop := ∃ es c, w.heap[M]? = some (.map es c) ∧ es.toList.map (fun e => (e.key, e.val)) = ns.map (fun n => (Value.string (strL n), Value.bool true))
theorem MpP.lt {w : World} {M : Nat} {L : List Ent} (h : MpP w M L) : M < w.heap.size := by
  obtain ⟨es, c, hb, _⟩ := h; exact (Array.getElem?_eq_some_iff.1 hb).1
theorem MpN.lt {w : World} {M : Nat} {L : List (List UInt8)} (h : MpN w M L) : M < w.heap.size := by
  obtain ⟨es, c, hb, _⟩ := h; exact (Array.getElem?_eq_some_iff.1 hb).1
theorem MpP.keep {w w' : World} {M : Nat} {L : List Ent} (h : MpP w M L) (hk : w'.heap[M]? = w.heap[M]?) : MpP w' M L := by
  obtain ⟨es, c, hb, hl⟩ := h; exact ⟨es, c, hk.trans hb, hl⟩
theorem MpN.keep {w w' : World} {M : Nat} {L : List (List UInt8)} (h : MpN w M L) (hk : w'.heap[M]? = w.heap[M]?) : MpN w' M L := by
  obtain ⟨es, c, hb, hl⟩ := h; exact ⟨es, c, hk.trans hb, hl⟩
theorem MpP.step {w w' : World} {M : Nat} {L : List Ent} (h : MpP w M L) (hb : Below w.heap.size w w') : MpP w' M L := h.keep (hb.block M h.lt)
theorem MpN.step {w w' : World} {M : Nat} {L : List (List UInt8)} (h : MpN w M L) (hb : Below w.heap.size w w') : MpN w' M L := h.keep (hb.block M h.lt)
theorem mpP_new (w : World) : MpP (w.alloc (.map #[] 0)) w.heap.size [] := ⟨#[], 0, Go.heap_alloc_new w _, rfl⟩
theorem mpN_new (w : World) : MpN (w.alloc (.map #[] 0)) w.heap.size [] := ⟨#[], 0, Go.heap_alloc_new w _, rfl⟩
/-! ### Names -/
theorem find_name (n : List UInt8) : ∀ (es : List MapEntry) (ns : List (List UInt8)) (i : Nat), es.map (fun e => (e.key, e.val)) = ns.map (fun n => (Value.string (strL n), Value.bool true)) →
    ∃ r, Instr.findNow .string (.string (strL n)) es i = some r ∧ ((n ∈ ns ∧ ∃ j, r = some (j, .bool true)) ∨ (n ∉ ns ∧ r = none))
  | [], ns, i, h => by
    obtain rfl : ns = [] := by
      cases ns with
      | nil => rfl
      | cons a b => simp at h
    exact ⟨none, rfl, .inr ⟨by simp, rfl⟩⟩
  | e :: es, ns, i, h => by
    cases ns with
    | nil => simp at h
    | cons m ns =>
      rw [List.map_cons, List.map_cons] at h
      obtain ⟨h1, h2⟩ := List.cons.inj h
      obtain ⟨hk, hv⟩ := Prod.mk.inj h1
      have hs : Instr.sameNow .string (.string (strL n)) e.key = some (decide (n = m)) := by
        rw [hk]
        show some (strL n == strL m) = _
        rw [bytes_eqb]
        congr 1
        rw [Bool.eq_iff_iff, decide_eq_true_iff, decide_eq_true_iff]
        exact strL_inj
      rw [Instr.findNow, hs]
      by_cases hn : n = m
      · rw [decide_eq_true hn]
        exact ⟨_, rfl, .inl ⟨by rw [hn]; simp, i, by rw [hv]⟩⟩
      · rw [decide_eq_false hn]
        obtain ⟨r, h3, h4⟩ := find_name n es ns (i + 1) h2
        refine ⟨r, h3, ?_⟩
        rcases h4 with ⟨h5, h6⟩ | ⟨h5, h6⟩
        · exact .inl ⟨by simp [h5], h6⟩
        · exact .inr ⟨by simp [h5, hn], h6⟩
theorem key_name (n : List UInt8) (e : Bool) (W : World) : (Instr.checkKey e 10000 9 (.string (strL n))).run Tryz.prog W = .ok () W := MapKept.run_checkKey (k := .string (strL n)) Tryz.underlying9 (by simp [MapKept.IsKey]) e 9999
theorem look_name {w : World} {M : Nat} {ns : List (List UInt8)} (h : MpN w M ns) (n : List UInt8) : (Instr.lookup 90 (.map (some M)) (.string (strL n)) false).run Tryz.prog w = .ok (.bool (decide (n ∈ ns))) w := by
  obtain ⟨es, c, hb, hl⟩ := h
  obtain ⟨r, hr, hc⟩ := find_name n es.toList ns 0 hl
  have hz : (zeroValue 4).run Tryz.prog w = .ok (.bool false) w := Tryz.zeroValue4 w
  rcases hc with ⟨hin, j, rfl⟩ | ⟨hno, rfl⟩
  · rw [decide_eq_true hin]
    simp [Instr.lookup, run_underlying Tryz.underlying90, MapKept.run_getObj_map hb, key_name, MapKept.run_findKey Tryz.underlying9 hr, Result.andThen]
  · rw [decide_eq_false hno]
    simp [Instr.lookup, run_underlying Tryz.underlying90, MapKept.run_getObj_map hb, key_name, MapKept.run_findKey Tryz.underlying9 hr, Result.andThen, hz]
theorem wpList_name {ops : Array Oper} {rest : List Oper} {o : Oper} {a : Act} {w : World} {Q : Exit → Act → World → Prop}
    (hg : o.guard = none) (m x v : Operand) (hop : o.op = Op.mapUpdate 90 m x v) (M : Nat) (ns : List (List UInt8)) (h : MpN w M ns) (n : List UInt8) (hn : n ∉ ns) (hm : a.eval m = .map (some M)) (hx : a.eval x = .string (strL n)) (hv : a.eval v = .bool true)
    (hK : ∀ w', MpN w' M (ns ++ [n]) → Below M w w' → (∀ k, k ≠ M → w'.heap[k]? = w.heap[k]?) → w'.heap.size = w.heap.size → wpList Tryz.prog ops Q rest (a.put o.dst undef) w') : wpList Tryz.prog ops Q (o :: rest) a w := by
  obtain ⟨es, c, hb, hl⟩ := h
  obtain ⟨r, hr, hc⟩ := find_name n es.toList ns 0 hl
  obtain rfl : r = none := by
    rcases hc with ⟨hin, _⟩ | ⟨_, h⟩
    · exact absurd hin hn
    · exact h
  refine wpList_plain hg fun K' hK' => ?_
  have hrun : (Instr.mapUpdate 90 (.map (some M)) (.string (strL n)) (.bool true)).run Tryz.prog w = .ok () { w with heap := w.heap.setIfInBounds M (.map (es.push { key := .string (strL n), val := .bool true, born := c }) (c + 1)) } := by
    simp [Instr.mapUpdate, run_underlying Tryz.underlying90, MapKept.run_getObj_map hb, key_name, MapKept.run_findKey Tryz.underlying9 hr, MapKept.run_setObj_map _ hb, Result.andThen]
  unfold Oper.wp
  simp [execOp, hop, hm, hx, hv, hrun, Result.andThen]
  have hset := MapKept.heap_set (o' := .map (es.push { key := .string (strL n), val := .bool true, born := c }) (c + 1)) hb
  refine hK' _ _ (hK _ ⟨_, _, hset.1, ?_⟩ ⟨rfl, rfl, rfl, by simp, fun i hi => hset.2 i (by omega)⟩ (fun k hk => hset.2 k hk) (by simp))
  rw [Array.toList_push, List.map_append, List.map_append, hl]
  rfl
/-! ### Places -/
theorem place_iff (a b : List UInt8) (x y : Int) (w0 : World) : (Op.equal 94 (keyV a x) (keyV b y)).run Tryz.prog w0 = .ok (decide (b = a) && decide (y = x)) w0 := by
  have h1 := eq_strL a b
  have h2 : (x == y) = decide (y = x) := by rw [Bool.eq_iff_iff, beq_iff_eq, decide_eq_true_iff]; exact eq_comm
  have h3 : decide (a = b) = decide (b = a) := by rw [Bool.eq_iff_iff, decide_eq_true_iff, decide_eq_true_iff]; exact eq_comm
  rw [h3] at h1
  rw [← h1, ← h2]
  unfold keyV
  clear h1 h2 h3
  generalize strL a = u
  generalize strL b = v
  show (Op.equalIn 10000 94 _ _).run Tryz.prog w0 = _
  go_simp
  cases g1 : (u.toList == v.toList) <;> cases g2 : (x == y) <;> simp_all
theorem key_place (n : List UInt8) (z : Int) (e : Bool) (W : World) : (Instr.checkKey e 10000 94 (keyV n z)).run Tryz.prog W = .ok () W := by
  unfold keyV
  generalize strL n = u
  kernel_rfl
theorem asking_place (n : List UInt8) (z : Int) (w : World) : ∀ (es : List MapEntry) (L : List Ent) (i : Nat), es.map (fun e => (e.key, e.val)) = L.map entV →
    ∃ r, (Instr.findAsking 94 (keyV n z) es i).run Tryz.prog w = .ok r w ∧ ((getE L n z = none ∧ r = none) ∨ ∃ p j, getE L n z = some p ∧ r = some (j, partA (some p)))
  | [], L, i, h => by
    obtain rfl : L = [] := by
      cases L with
      | nil => rfl
      | cons a b => simp at h
    exact ⟨none, rfl, .inl ⟨rfl, rfl⟩⟩
  | e :: es, L, i, h => by
    cases L with
    | nil => simp at h
    | cons m L =>
      rw [List.map_cons, List.map_cons] at h
      obtain ⟨h1, h2⟩ := List.cons.inj h
      obtain ⟨hk, hv⟩ := Prod.mk.inj h1
      have he := place_iff n m.1.1 z m.1.2 w
      have hg : getE (m :: L) n z = if (decide (m.1.1 = n) && decide (m.1.2 = z)) = true then some m.2 else getE L n z := by
        unfold getE
        rw [List.find?_cons]
        have : (m.1.1 == n && m.1.2 == z) = (decide (m.1.1 = n) && decide (m.1.2 = z)) := by
          rw [Bool.eq_iff_iff]; simp
        rw [this]
        cases (decide (m.1.1 = n) && decide (m.1.2 = z)) <;> rfl
      rw [hg]
      unfold Instr.findAsking
      rw [hk]
      simp only [Sem.run_bind, he, Result.andThen]
      cases hd : (decide (m.1.1 = n) && decide (m.1.2 = z)) with
      | true =>
        simp only [if_true]
        refine ⟨_, rfl, .inr ⟨m.2, i, rfl, ?_⟩⟩
        rw [hv]; rfl
      | false =>
        simp only [Bool.false_eq_true, if_false]
        obtain ⟨r, h3, h4⟩ := asking_place n z w es L (i + 1) h2
        exact ⟨r, h3, h4⟩
theorem find_place {es : Array MapEntry} {L : List Ent} (h : es.toList.map (fun e => (e.key, e.val)) = L.map entV) (n : List UInt8) (z : Int) (w : World) :
    ∃ r, (Instr.findKey 94 (keyV n z) es.toList).run Tryz.prog w = .ok r w ∧ ((getE L n z = none ∧ r = none) ∨ ∃ p j, getE L n z = some p ∧ r = some (j, partA (some p))) := by
  obtain ⟨r, h1, h2⟩ := asking_place n z w es.toList L 0 h
  refine ⟨r, ?_, h2⟩
  unfold Instr.findKey
  simp only [Sem.run_bind, run_underlying Tryz.underlying94, Result.andThen]
  cases hl : es.toList with
  | nil =>
    rw [hl] at h1
    exact h1
  | cons e r' =>
    rw [hl] at h1
    exact h1
theorem zero_part (w : World) : (zeroValue 98).run Tryz.prog w = .ok (.agg #[.string ⟨#[]⟩, .bool false]) w := Tryz.zeroValue98 w
theorem look_part {w : World} {M : Nat} {L : List Ent} (h : MpP w M L) (n : List UInt8) (z : Int) : (Instr.lookup 91 (.map (some M)) (keyV n z) true).run Tryz.prog w = .ok (.tuple #[partA (getE L n z), .bool (getE L n z).isSome]) w := by
  obtain ⟨es, c, hb, hl⟩ := h
  obtain ⟨r, hr, hc⟩ := find_place hl n z w
  rcases hc with ⟨hg, rfl⟩ | ⟨p, j, hg, rfl⟩
  · rw [hg]
    simp [Instr.lookup, run_underlying Tryz.underlying91, MapKept.run_getObj_map hb, key_place, hr, Result.andThen, partA]
  · rw [hg]
    simp [Instr.lookup, run_underlying Tryz.underlying91, MapKept.run_getObj_map hb, key_place, hr, Result.andThen, partA]
theorem wpList_part {ops : Array Oper} {rest : List Oper} {o : Oper} {a : Act} {w : World} {Q : Exit → Act → World → Prop}
    (hg : o.guard = none) (m x v : Operand) (hop : o.op = Op.mapUpdate 91 m x v) (M : Nat) (L : List Ent) (h : MpP w M L) (e : Ent) (hn : getE L e.1.1 e.1.2 = none) (hm : a.eval m = .map (some M)) (hx : a.eval x = (entV e).1) (hv : a.eval v = (entV e).2)
    (hK : ∀ w', MpP w' M (L ++ [e]) → (∀ k, k ≠ M → w'.heap[k]? = w.heap[k]?) → Below M w w' → w'.heap.size = w.heap.size → wpList Tryz.prog ops Q rest (a.put o.dst undef) w') : wpList Tryz.prog ops Q (o :: rest) a w := by
  obtain ⟨es, c, hb, hl⟩ := h
  obtain ⟨r, hr, hc⟩ := find_place hl e.1.1 e.1.2 w
  obtain rfl : r = none := by
    rcases hc with ⟨_, h⟩ | ⟨p, j, hg, _⟩
    · exact h
    · rw [hn] at hg; exact absurd hg (by simp)
  refine wpList_plain hg fun K' hK' => ?_
  have hrun : (Instr.mapUpdate 91 (.map (some M)) (entV e).1 (entV e).2).run Tryz.prog w = .ok () { w with heap := w.heap.setIfInBounds M (.map (es.push { key := (entV e).1, val := (entV e).2, born := c }) (c + 1)) } := by
    have hr' : (Instr.findKey 94 (entV e).1 es.toList).run Tryz.prog w = .ok none w := hr
    have hk' : (Instr.checkKey false 10000 94 (entV e).1).run Tryz.prog w = .ok () w := key_place _ _ _ _
    simp [Instr.mapUpdate, run_underlying Tryz.underlying91, MapKept.run_getObj_map hb, hk', hr', MapKept.run_setObj_map _ hb, Result.andThen]
  unfold Oper.wp
  simp [execOp, hop, hm, hx, hv, hrun, Result.andThen]
  have hset := MapKept.heap_set (o' := .map (es.push { key := (entV e).1, val := (entV e).2, born := c }) (c + 1)) hb
  refine hK' _ _ (hK _ ⟨_, _, hset.1, ?_⟩ (fun k hk => hset.2 k hk) ⟨rfl, rfl, rfl, by simp, fun i hi => hset.2 i (by omega)⟩ (by simp))
  rw [Array.toList_push, List.map_append, List.map_append, hl]
  rfl
theorem ptx_new0 (w : World) (V : ByteArray) (E : Bool) : (w.alloc (.cells #[.string V, .bool E] 98)).cell? ⟨w.heap.size, 0, none⟩ = some (.string V) ∧ (w.alloc (.cells #[.string V, .bool E] 98)).cell? ⟨w.heap.size, 1, none⟩ = some (.bool E) := by
  have h := World.alloc_heap_new w (.cells #[.string V, .bool E] 98)
  exact ⟨by rw [Lib.cell_of_heap h]; rfl, by rw [Lib.cell_of_heap h]; rfl⟩
end Go.Proofs.YtdinachiiimngaaGreatDoor
namespace Go.Proofs.YtdinachiiimngaaGreatDoor
open Go.ChangeShapes Go.WideShapes Go.ChangeAt Go.RowKit
open TokP AdrP CtP

theorem index_first : ∀ (b r : List UInt8) (c : UInt8), c ∉ b → Lib.indexByte (b ++ c :: r) c = b.length
  | [], r, c, _ => by rw [List.nil_append, Lib.indexByte, if_pos (beq_self_eq_true c)]; rfl
  | d :: b, r, c, h => by
    simp only [List.mem_cons, not_or] at h
    rw [List.cons_append, Lib.indexByte, if_neg (by rw [beq_iff_eq]; exact fun e => h.1 e.symm), index_first b r c h.2]
    rw [if_neg (by rw [beq_iff_eq]; omega), List.length_cons]
    omega
theorem index_not : ∀ (b : List UInt8) (c : UInt8), c ∉ b → Lib.indexByte b c = -1
  | [], c, _ => rfl
  | d :: b, c, h => by
    simp only [List.mem_cons, not_or] at h
    rw [Lib.indexByte, if_neg (by rw [beq_iff_eq]; exact fun e => h.1 e.symm), index_not b c h.2]
    rfl
theorem split_first (l : List UInt8) (c : UInt8) (h : c ∈ l) : ∃ b r, l = b ++ c :: r ∧ c ∉ b := by
  induction l with
  | nil => exact absurd h (by simp)
  | cons d t ih =>
    by_cases e : d = c
    · exact ⟨[], t, by rw [e]; rfl, by simp⟩
    · obtain ⟨b, r, h1, h2⟩ := ih (by rcases List.mem_cons.1 h with h | h; exact absurd h.symm e; exact h)
      exact ⟨d :: b, r, by rw [h1]; rfl, by simp only [List.mem_cons, not_or]; exact ⟨fun x => e x.symm, h2⟩⟩
theorem drew_below (w : World) (n : Nat) : Below w.heap.size w (w.drewN n) := ⟨rfl, rfl, rfl, Nat.le_refl _, fun _ _ => rfl⟩
theorem cutlite_no (ch : UInt8) (s : ByteArray) (h : ch ∉ s.data.toList) (w : World) :
    Calls Tryz.prog 65 #[.string s, .string ⟨#[ch]⟩] w fun e w' => e = .returned (.tuple #[.string s, .string ⟨#[]⟩, .bool false]) ∧ Below w.heap.size w w' := by
  have cI := fun W => Tryz.stringslite_Index_one s ch W
  rw [index_not _ _ h] at cI
  clear h
  go_enter Tryz.func65, Tryz.ntmps65
  go_wp2_with (go_at_call 97; (refine (cI _).mono ?_); rintro e w1 ⟨rfl, rfl⟩)
  go_ret3
  exact ⟨rfl, Below.refl _ _⟩
theorem cutlite_yes (ch : UInt8) (s : ByteArray) (b r : List UInt8) (hs : s.data.toList = b ++ ch :: r) (h : ch ∉ b) (hz : s.size ≤ 4000000) (w : World) :
    Calls Tryz.prog 65 #[.string s, .string ⟨#[ch]⟩] w fun e w' => e = .returned (.tuple #[.string (strL b), .string (strL r), .bool true]) ∧ Below w.heap.size w w' := by
  have cI := fun W => Tryz.stringslite_Index_one s ch W
  rw [hs, index_first b r ch h] at cI
  have hsz := size_list s
  rw [hs, List.length_append, List.length_cons] at hsz
  obtain ⟨n, hn⟩ : ∃ n, b.length = n := ⟨_, rfl⟩
  rw [hn] at cI hsz
  have R1 := run_slice_to s n n rfl (by omega)
  have R2 := run_slice_from s (n + 1) ((n : Int) + 1) (by omega) (by omega)
  have e1 : s.extract 0 n = strL b := bytes_is (by rw [part_start s n (by omega), hs, strL_list, List.take_left' hn])
  have e2 : s.extract (n + 1) s.size = strL r := bytes_is (by rw [part_rest s (n + 1) (by omega), hs, strL_list, ← List.drop_drop, List.drop_left' hn]; rfl)
  rw [e1] at R1
  rw [e2] at R2
  have F1 : IntKind.i64.wrap ((n : Int) + 1) = (n : Int) + 1 := by rw [IntKind.wrap_i64]; omega
  have g0 : (0 : Int) ≤ (n : Int) := by omega
  generalize strL b = B at R1 ⊢
  generalize strL r = R at R2 ⊢
  clear h hs hn e1 e2 hsz hz
  go_enter Tryz.func65, Tryz.ntmps65
  go_wp2_with (go_at_call 97; (refine (cI _).mono ?_); rintro e w1 ⟨rfl, rfl⟩)
  go_quiet (fail)
  go_wp2_with fail
  go_ret3
  exact ⟨rfl, drew_below _ _⟩
theorem cut_no (ch : UInt8) (s : ByteArray) (h : ch ∉ s.data.toList) (w : World) :
    Calls Tryz.prog 30 #[.string s, .string ⟨#[ch]⟩] w fun e w' => e = .returned (.tuple #[.string s, .string ⟨#[]⟩, .bool false]) ∧ Below w.heap.size w w' := by
  have cI := fun W => cutlite_no ch s h W
  clear h
  go_enter Tryz.func30, Tryz.ntmps30
  go_wp2_with (go_at_call 65; (with_reducible refine (cI _).mono ?_); rintro e w1 ⟨rfl, hb1⟩)
  go_ret3
  exact ⟨rfl, hb1⟩
theorem cut_yes (ch : UInt8) (s : ByteArray) (b r : List UInt8) (hs : s.data.toList = b ++ ch :: r) (h : ch ∉ b) (hz : s.size ≤ 4000000) (w : World) :
    Calls Tryz.prog 30 #[.string s, .string ⟨#[ch]⟩] w fun e w' => e = .returned (.tuple #[.string (strL b), .string (strL r), .bool true]) ∧ Below w.heap.size w w' := by
  have cI := fun W => cutlite_yes ch s b r hs h hz W
  clear h hs
  go_enter Tryz.func30, Tryz.ntmps30
  go_wp2_with (go_at_call 65; (with_reducible refine (cI _).mono ?_); rintro e w1 ⟨rfl, hb1⟩)
  go_ret3
  exact ⟨rfl, hb1⟩
/-- strings.Cut in the words of the lists. -/
theorem cut_all (ch : UInt8) (s : ByteArray) (hz : s.size ≤ 4000000) (w : World) :
    Calls Tryz.prog 30 #[.string s, .string ⟨#[ch]⟩] w fun e w' => e = .returned (.tuple #[.string (strL (upC ch s.data.toList)), .string (strL (behind ch s.data.toList)), .bool (s.data.toList.contains ch)]) ∧ Below w.heap.size w w' := by
  by_cases h : ch ∈ s.data.toList
  · obtain ⟨b, r, hs, hb⟩ := split_first _ _ h
    obtain ⟨h1, h2⟩ := upC_at hb r
    rw [List.contains_iff_mem.2 h, hs, h1, h2]
    exact cut_yes ch s b r hs hb hz w
  · have h1 : upC ch s.data.toList = s.data.toList := by
      unfold upC
      have := List.takeWhile_append_of_pos (p := fun c => c != ch) (l₁ := s.data.toList) (l₂ := []) (fun c hc => by
        rw [bne_iff_ne]
        rintro rfl
        exact h hc)
      rw [List.append_nil, List.takeWhile_nil, List.append_nil] at this
      exact this
    have h2 : behind ch s.data.toList = [] := by
      unfold behind
      rw [h1, List.drop_eq_nil_of_le (by omega)]
    have h3 : s.data.toList.contains ch = false := by rw [← Bool.not_eq_true, List.contains_iff_mem]; exact h
    rw [h1, h2, h3, strL_of]
    exact cut_no ch s h w
/-! ### LastIndexByte -/
theorem at_bang (s : ByteArray) (j : Nat) (h : j < s.size) : s.data.toList[j]? = some (s.data[j]!) := by
  have hj : j < s.data.size := h
  rw [List.getElem?_eq_getElem (by rw [Array.length_toList]; exact hj), Array.getElem_toList, getElem!_pos s.data j hj]
theorem last_no (l : List UInt8) (h : 42 ∉ l) : Lib.lastIndexByte (strL l) 42 = -1 := by
  rcases Lib.lastIndexByte_spec (strL l) 42 with ⟨e, _⟩ | ⟨i, hi, _, hc, _⟩
  · exact e
  · have := at_bang (strL l) i hi
    rw [strL_list] at this
    have hm := List.mem_of_getElem? this
    rw [show ((strL l).data[i]!) = 42 from UInt8.toNat_inj.1 (by rw [show (42 : UInt8).toNat = 42 from rfl]; omega)] at hm
    exact absurd hm h
theorem last_yes (l : List UInt8) (h : 42 ∈ l) : ∃ x y, l = x ++ 42 :: y ∧ 42 ∉ y ∧ Lib.lastIndexByte (strL l) 42 = x.length := by
  rcases Lib.lastIndexByte_spec (strL l) 42 with ⟨_, hn⟩ | ⟨i, hi, e, hc, hn⟩
  · obtain ⟨i, hi, he⟩ := List.getElem_of_mem h
    have hiz : i < (strL l).size := by rw [strL_size]; exact hi
    have h1 := at_bang (strL l) i hiz
    rw [strL_list, List.getElem?_eq_getElem hi, he] at h1
    have := hn i hiz
    rw [← Option.some.inj h1] at this
    exact absurd rfl this
  · have h1 := at_bang (strL l) i hi
    rw [strL_list] at h1
    have h60 : (strL l).data[i]! = 42 := UInt8.toNat_inj.1 (by rw [show (42 : UInt8).toNat = 42 from rfl]; omega)
    rw [h60] at h1
    have hil : i < l.length := by rw [← strL_size l]; exact hi
    refine ⟨l.take i, l.drop (i + 1), ?_, ?_, ?_⟩
    · rw [← cons_at l i 42 h1, List.take_append_drop]
    · intro hm
      obtain ⟨j, hj, he⟩ := List.getElem_of_mem hm
      rw [List.getElem_drop] at he
      rw [List.length_drop] at hj
      have hjz : i + 1 + j < (strL l).size := by rw [strL_size]; omega
      have h2 := at_bang (strL l) (i + 1 + j) hjz
      rw [strL_list, List.getElem?_eq_getElem (by omega), he] at h2
      have := hn (i + 1 + j) (by omega) hjz
      rw [← Option.some.inj h2] at this
      exact this rfl
    · rw [e, List.length_take]; omega
end Go.Proofs.YtdinachiiimngaaGreatDoor
namespace Go.Proofs.YtdinachiiimngaaGreatDoor
open Go.ChangeShapes Go.WideShapes Go.ChangeAt Go.RowKit
open TokP AdrP CtP

/-- A place in the box g. -/
def Plx (w : World) (g : Nat) (N : ByteArray) (S : Int) : Prop := w.heap[g]? = some (.cells #[.string N, .int .i64 S] 94 (0, 0))
theorem Plx.lt {w : World} {g : Nat} {N : ByteArray} {S : Int} (h : Plx w g N S) : g < w.heap.size := (Array.getElem?_eq_some_iff.1 h).1
theorem Plx.step {w w' : World} {g : Nat} {N : ByteArray} {S : Int} (h : Plx w g N S) (hb : Below w.heap.size w w') : Plx w' g N S := (hb.block _ h.lt).trans h
theorem plx_new (w : World) (N : ByteArray) (S : Int) : Plx (w.alloc (.cells #[.string N, .int .i64 S] 94)) w.heap.size N S := World.alloc_heap_new w _
theorem Plx.c0 {w : World} {g : Nat} {N : ByteArray} {S : Int} (h : Plx w g N S) : w.cell? ⟨g, 0, none⟩ = some (.string N) := by rw [Lib.cell_of_heap h]; rfl
theorem Plx.c1 {w : World} {g : Nat} {N : ByteArray} {S : Int} (h : Plx w g N S) : w.cell? ⟨g, 1, none⟩ = some (.int .i64 S) := by rw [Lib.cell_of_heap h]; rfl
theorem Plx.fr {w : World} {g : Nat} {N : ByteArray} {S : Int} (h : Plx w g N S) (i : Nat) : w.frozen? ⟨g, i, none⟩ = false := Lib.frozen_of_heap h i
theorem set_two {w : World} {g : Nat} {N N' : ByteArray} {S S' : Int} (h : Plx w g N S) : Plx ((w.setCell ⟨g, 0, none⟩ (.string N')).setCell ⟨g, 1, none⟩ (.int .i64 S')) g N' S' := by
  have h' : w.heap[g]? = some (.cells #[.string N, .int .i64 S] 94 (0, 0)) := h
  show ((w.setCell ⟨g, 0, none⟩ (.string N')).setCell ⟨g, 1, none⟩ (.int .i64 S')).heap[g]? = _
  simp [World.setCell, Array.getElem?_modify, h']
theorem below_two {w W : World} {C g : Nat} (h : Below C w W) (hg : C ≤ g) (v0 v1 : Value) : Below C w ((W.setCell ⟨g, 0, none⟩ v0).setCell ⟨g, 1, none⟩ v1) :=
  below_at (below_at h _ hg _) _ hg _
theorem rowsPlc : (Tryz.prog.info? 94).map (·.size) = some 2 := by kernel_rfl
theorem results_plc {fn : Func} {p u : Tmp} (h : fn.results = #[.cell p 94, .tmp u]) (tmps : Array Value) (w : World) (g : Nat) (N : ByteArray) (S : Int) (hp : tmps.getD p undef = .pointer (some ⟨g, 0, none⟩)) (hg : Plx w g N S) :
    (results fn tmps).run Tryz.prog w = .ok (.tuple #[.agg #[.string N, .int .i64 S], tmps.getD u undef]) w := by
  rw [results_cell_tmp h, hp]
  have := run_loadVar_row (P := Tryz.prog) w g 94 94 #[.string N, .int .i64 S] (0, 0) _ hg Tryz.underlying94 rfl rowsPlc
  simp [asAddr, Result.andThen, this]
/-- The number of a section. -/
def numF (l : List UInt8) : Option Nat := (Nu.parseIn l 0 63).map Int.toNat
theorem parseIn_range {l : List UInt8} {z : Int} (h : Nu.parseIn l 0 63 = some z) : 0 ≤ z ∧ z ≤ 63 := by
  unfold Nu.parseIn at h
  split at h
  · split at h
    · obtain rfl := Option.some.inj h; assumption
    · exact absurd h (by simp)
  · exact absurd h (by simp)
theorem suffix_ast (l : List UInt8) : Lib.hasSuffix l [42] = (l.getLast? == some 42) := by
  unfold Lib.hasSuffix List.isSuffixOf
  rcases List.eq_nil_or_concat l with rfl | ⟨m, d, rfl⟩
  · rfl
  · rw [List.concat_eq_append, List.reverse_append, List.getLast?_append]
    show (42 == d && List.isPrefixOf [] m.reverse) = _
    simp only [List.isPrefixOf, Bool.and_true, List.getLast?_singleton, Option.some_or]
    rw [Bool.eq_iff_iff]
    simp only [beq_iff_eq, Option.some.injEq]
    exact ⟨fun h => h.symm, fun h => h.symm⟩
theorem told_star (num : List UInt8 → Option Nat) (name value x y : List UInt8) (n : List UInt8) (hn : (if wideB name = true then name.dropLast else name) = n) (hxy : n = x ++ 42 :: y) (hy : 42 ∉ y) :
    toldP num name value = match num y with
      | some k => ⟨x, some k, wideB name, value⟩
      | none => ⟨n, none, wideB name, value⟩ := by
  unfold toldP
  rw [hn]
  have hm : 42 ∈ n := by rw [hxy]; simp
  rw [if_pos hm]
  have hr : upC 42 n.reverse = y.reverse := by
    rw [hxy, List.reverse_append, List.reverse_cons, List.append_assoc]
    exact (upC_at (by rw [List.mem_reverse]; exact hy) x.reverse).1
  simp only [hr, List.reverse_reverse]
  have ht : n.take (n.length - y.length - 1) = x := by
    rw [hxy]
    refine List.take_left' ?_
    rw [List.length_append, List.length_cons]; omega
  rw [ht]
  cases num y <;> rfl
theorem told_no (num : List UInt8 → Option Nat) (name value : List UInt8) (n : List UInt8) (hn : (if wideB name = true then name.dropLast else name) = n) (h : 42 ∉ n) : toldP num name value = ⟨n, none, wideB name, value⟩ := by
  unfold toldP
  rw [hn, if_neg h]
/-- What placed answers: the place, and whether the value is encoded. -/
def plcV (p : Par) : Value := .tuple #[.agg #[.string (strL p.name), .int .i64 (plcZ p)], .bool p.wide]
set_option maxRecDepth 100000 in
set_option maxHeartbeats 8000000 in
theorem placed_true (s : ByteArray) (hs : s.size ≤ 4000000) (hw : wideB s.data.toList = true) (w : World) (hv : Nu.Vars w) :
    Calls Tryz.prog 69 #[.string s] w fun e w' => e = .returned (plcV (toldP numF s.data.toList [])) ∧ Below w.heap.size w w' := by
  have hz := size_list s
  have hbox := plx_new w ⟨#[]⟩ 0
  have HB0 := Lib.hid (show Below w.heap.size w (w.alloc (.cells #[.string ⟨#[]⟩, .int .i64 0] 94)) from (Below.refl _ w).alloc (Nat.le_refl _) _)
  have HV0 := Lib.hid (hv.below HB0.out)
  have HX0 := Lib.hid hbox
  have x0 := hbox.c0
  have x1 := hbox.c1
  have xf := hbox.fr
  have HBOX := Lib.hid (fun (W : World) (hb : Hid (Below (w.alloc (.cells #[.string ⟨#[]⟩, .int .i64 0] 94)).heap.size (w.alloc (.cells #[.string ⟨#[]⟩, .int .i64 0] 94)) W)) => show W.cell? ⟨w.heap.size, 0, none⟩ = some (.string ⟨#[]⟩) ∧ W.cell? ⟨w.heap.size, 1, none⟩ = some (.int .i64 0) ∧ ∀ i, W.frozen? ⟨w.heap.size, i, none⟩ = false from ⟨(hbox.step hb.out).c0, (hbox.step hb.out).c1, (hbox.step hb.out).fr⟩)
  have cH := fun W => Tryz.strings_HasSuffix s ⟨#[42]⟩ W (by omega)
  rw [show (⟨#[42]⟩ : ByteArray).data.toList = [42] from rfl, suffix_ast] at cH
  obtain ⟨n, hn⟩ : ∃ n, (if wideB s.data.toList = true then s.data.toList.dropLast else s.data.toList) = n := ⟨_, rfl⟩
  have hw2 : 2 ≤ s.data.toList.length ∧ s.data.toList.getLast? = some 42 := by
    unfold wideB at hw
    rw [Bool.and_eq_true, decide_eq_true_eq, beq_iff_eq] at hw
    exact hw
  have hl1 : (1 : Int) < (s.size : Int) := by omega
  rw [show (s.data.toList.getLast? == some 42) = true from beq_iff_eq.2 hw2.2] at cH
  have hn2 : s.data.toList.dropLast = n := by rw [← hn, if_pos hw]
  have FS : IntKind.i64.wrap ((s.size : Int) - 1) = (s.size : Int) - 1 := by rw [IntKind.wrap_i64]; omega
  have RS := run_slice_to s (s.size - 1) ((s.size : Int) - 1) (by omega) (by omega)
  have eS : s.extract 0 (s.size - 1) = strL n := bytes_is (by rw [part_start s (s.size - 1) (by omega), strL_list, ← hn2, List.dropLast_eq_take, ← hz])
  rw [eS] at RS
  have hnz : n.length ≤ 4000000 := by rw [← hn2, List.length_dropLast]; omega
  have cI := fun W => Tryz.strings_LastIndexByte (strL n) 42 (by rw [strL_size]; omega) W
  by_cases hst : 42 ∈ n
  · obtain ⟨x, y, hxy, hy, hli⟩ := last_yes n hst
    rw [hli] at cI
    have hlen : n.length = x.length + 1 + y.length := by rw [hxy, List.length_append, List.length_cons]; omega
    have hts := told_star numF s.data.toList [] x y n hn hxy hy
    have F1 : IntKind.i64.wrap ((x.length : Int) + 1) = (x.length : Int) + 1 := by rw [IntKind.wrap_i64]; omega
    have R1 := run_slice_from (strL n) (x.length + 1) ((x.length : Int) + 1) (by omega) (by rw [strL_size]; omega)
    have R2 := run_slice_to (strL n) x.length (x.length : Int) rfl (by rw [strL_size]; omega)
    have e1 : (strL n).extract (x.length + 1) (strL n).size = strL y := bytes_is (by rw [part_rest (strL n) (x.length + 1) (by rw [strL_size]; omega), strL_list, strL_list, hxy, ← List.drop_drop, List.drop_left' rfl]; rfl)
    have e2 : (strL n).extract 0 x.length = strL x := bytes_is (by rw [part_start (strL n) x.length (by rw [strL_size]; omega), strL_list, strL_list, hxy, List.take_left' rfl])
    rw [e1] at R1
    rw [e2] at R2
    have cP := fun W (hv : Hid (Nu.Vars W)) => Nu.parse_any (strL y) 0 63 (by rw [strL_size]; omega) W hv.out
    rw [strL_list] at cP
    unfold Nu.Ans at cP
    have hx0 : (0 : Int) ≤ (x.length : Int) := by omega
    cases hp : Nu.parseIn y 0 63 with
    | some z =>
      have hrz := parseIn_range hp
      rw [hp] at cP
      have hq : toldP numF s.data.toList [] = ⟨x, some z.toNat, true, []⟩ := by rw [hts]; unfold numF; rw [hp, hw]; rfl
      have HA := Lib.hid (show plcV (toldP numF s.data.toList []) = .tuple #[.agg #[.string (strL x), .int .i64 z], .bool true] by rw [hq]; unfold plcV plcZ; simp only []; rw [show ((z.toNat : Nat) : Int) = z by omega])
      simp only [Option.getD_some, Option.isSome_some] at cP
      have HN := Lib.hid hlen
      generalize strL n = ns at RS R1 R2 cI
      generalize strL y = ys at R1 cP
      generalize strL x = xs at R2 HA
      generalize (x.length : Int) = p at R1 R2 cI F1 hx0
      clear hv hbox hn hn2 hw hst hnz hz eS hw2 hxy hy hli hts e1 e2 hp hq hrz hlen
      go_enter Tryz.func69, Tryz.ntmps69
      go_wp2_with (first
        | (go_at_call 103; refine (cH _).mono ?_; rintro e w1 ⟨rfl, rfl⟩)
        | (go_at_call 104; refine (cI _).mono ?_; rintro e w2 ⟨rfl, rfl⟩)
        | (go_at_call 105; (with_reducible refine (cP _ HV0).mono ?_); rintro e w3 ⟨rfl, hb3⟩; have HB3 := Lib.hid (HB0.out.trans (hb3.mono HB0.out.size)); obtain ⟨y0, y1, yf⟩ := HBOX.out w3 (Lib.hid hb3); have HX3 := Lib.hid (HX0.out.step hb3); clear hb3 cP))
      rw [HA.out]
      exact bodyPost_ret (results_plc rfl _ _ w.heap.size _ _ rfl (set_two HX3.out)) rfl ⟨rfl, below_two HB3.out (Nat.le_refl _) _ _⟩
    | none =>
      rw [hp] at cP
      have hq : toldP numF s.data.toList [] = ⟨n, none, true, []⟩ := by rw [hts]; unfold numF; rw [hp, hw]; rfl
      have HA := Lib.hid (show plcV (toldP numF s.data.toList []) = .tuple #[.agg #[.string (strL n), .int .i64 (-1)], .bool true] by rw [hq]; rfl)
      simp only [Option.getD_none, Option.isSome_none] at cP
      generalize strL n = ns at RS R1 R2 cI HA
      generalize strL y = ys at R1 cP
      generalize (x.length : Int) = p at R1 R2 cI F1 hx0
      clear hv hbox hn hn2 hw hst hnz hz eS hw2 hxy hy hli hts e1 e2 hp hq hlen R2
      go_enter Tryz.func69, Tryz.ntmps69
      go_wp2_with (first
        | (go_at_call 103; refine (cH _).mono ?_; rintro e w1 ⟨rfl, rfl⟩)
        | (go_at_call 104; refine (cI _).mono ?_; rintro e w2 ⟨rfl, rfl⟩)
        | (go_at_call 105; (with_reducible refine (cP _ HV0).mono ?_); rintro e w3 ⟨rfl, hb3⟩; have HB3 := Lib.hid (HB0.out.trans (hb3.mono HB0.out.size)); obtain ⟨y0, y1, yf⟩ := HBOX.out w3 (Lib.hid hb3); have HX3 := Lib.hid (HX0.out.step hb3); clear hb3 cP))
      rw [HA.out]
      exact bodyPost_ret (results_plc rfl _ _ w.heap.size _ _ rfl (set_two HX3.out)) rfl ⟨rfl, below_two HB3.out (Nat.le_refl _) _ _⟩
  · rw [last_no n hst] at cI
    have hq : toldP numF s.data.toList [] = ⟨n, none, true, []⟩ := by rw [told_no numF s.data.toList [] n hn hst, hw]
    have HA := Lib.hid (show plcV (toldP numF s.data.toList []) = .tuple #[.agg #[.string (strL n), .int .i64 (-1)], .bool true] by rw [hq]; rfl)
    generalize strL n = ns at RS cI HA
    clear hv hbox hn hn2 hw hst hnz hz eS hw2 hq
    go_enter Tryz.func69, Tryz.ntmps69
    go_wp2_with (first
        | (go_at_call 103; refine (cH _).mono ?_; rintro e w1 ⟨rfl, rfl⟩)
        | (go_at_call 104; refine (cI _).mono ?_; rintro e w2 ⟨rfl, rfl⟩))
    rw [HA.out]
    exact bodyPost_ret (results_plc rfl _ _ w.heap.size _ _ rfl (plx_new w _ _)) rfl ⟨rfl, (Below.refl _ w).alloc (Nat.le_refl _) _⟩
set_option maxRecDepth 100000 in
set_option maxHeartbeats 8000000 in
theorem placed_false (s : ByteArray) (hs : s.size ≤ 4000000) (hw : wideB s.data.toList = false) (w : World) (hv : Nu.Vars w) :
    Calls Tryz.prog 69 #[.string s] w fun e w' => e = .returned (plcV (toldP numF s.data.toList [])) ∧ Below w.heap.size w w' := by
  have hz := size_list s
  have hbox := plx_new w ⟨#[]⟩ 0
  have HB0 := Lib.hid (show Below w.heap.size w (w.alloc (.cells #[.string ⟨#[]⟩, .int .i64 0] 94)) from (Below.refl _ w).alloc (Nat.le_refl _) _)
  have HV0 := Lib.hid (hv.below HB0.out)
  have HX0 := Lib.hid hbox
  have x0 := hbox.c0
  have x1 := hbox.c1
  have xf := hbox.fr
  have HBOX := Lib.hid (fun (W : World) (hb : Hid (Below (w.alloc (.cells #[.string ⟨#[]⟩, .int .i64 0] 94)).heap.size (w.alloc (.cells #[.string ⟨#[]⟩, .int .i64 0] 94)) W)) => show W.cell? ⟨w.heap.size, 0, none⟩ = some (.string ⟨#[]⟩) ∧ W.cell? ⟨w.heap.size, 1, none⟩ = some (.int .i64 0) ∧ ∀ i, W.frozen? ⟨w.heap.size, i, none⟩ = false from ⟨(hbox.step hb.out).c0, (hbox.step hb.out).c1, (hbox.step hb.out).fr⟩)
  have cH := fun W => Tryz.strings_HasSuffix s ⟨#[42]⟩ W (by omega)
  rw [show (⟨#[42]⟩ : ByteArray).data.toList = [42] from rfl, suffix_ast] at cH
  obtain ⟨n, hn⟩ : ∃ n, (if wideB s.data.toList = true then s.data.toList.dropLast else s.data.toList) = n := ⟨_, rfl⟩
  have hn2 : s.data.toList = n := by rw [← hn, if_neg (by rw [hw]; decide)]
  have hnz : n.length ≤ 4000000 := by rw [← hn2]; omega
  have eS : s = strL n := by rw [← hn2, strL_of]
  have hw2 : (s.data.toList.length < 2) ∨ (s.data.toList.getLast? == some 42) = false := by
    unfold wideB at hw
    rw [Bool.and_eq_false_iff, decide_eq_false_iff_not] at hw
    exact hw.imp (fun h => by omega) id
  by_cases hl1 : (1 : Int) < (s.size : Int)
  · rw [hw2.resolve_left (by omega)] at cH
    clear hw2
    obtain ⟨D, hD⟩ : ∃ D, plcV (toldP numF s.data.toList []) = D := ⟨_, rfl⟩
    rw [hD]
    have HD := Lib.hid hD
    clear hD
    subst eS
    have cI := fun W => Tryz.strings_LastIndexByte (strL n) 42 (by rw [strL_size]; omega) W
    by_cases hst : 42 ∈ n
    · obtain ⟨x, y, hxy, hy, hli⟩ := last_yes n hst
      rw [hli] at cI
      have hlen : n.length = x.length + 1 + y.length := by rw [hxy, List.length_append, List.length_cons]; omega
      have hts := told_star numF (strL n).data.toList [] x y n hn hxy hy
      have F1 : IntKind.i64.wrap ((x.length : Int) + 1) = (x.length : Int) + 1 := by rw [IntKind.wrap_i64]; omega
      have R1 := run_slice_from (strL n) (x.length + 1) ((x.length : Int) + 1) (by omega) (by rw [strL_size]; omega)
      have R2 := run_slice_to (strL n) x.length (x.length : Int) rfl (by rw [strL_size]; omega)
      have e1 : (strL n).extract (x.length + 1) (strL n).size = strL y := bytes_is (by rw [part_rest (strL n) (x.length + 1) (by rw [strL_size]; omega), strL_list, strL_list, hxy, ← List.drop_drop, List.drop_left' rfl]; rfl)
      have e2 : (strL n).extract 0 x.length = strL x := bytes_is (by rw [part_start (strL n) x.length (by rw [strL_size]; omega), strL_list, strL_list, hxy, List.take_left' rfl])
      rw [e1] at R1
      rw [e2] at R2
      have cP := fun W (hv : Hid (Nu.Vars W)) => Nu.parse_any (strL y) 0 63 (by rw [strL_size]; omega) W hv.out
      rw [strL_list] at cP
      unfold Nu.Ans at cP
      have hx0 : (0 : Int) ≤ (x.length : Int) := by omega
      cases hp : Nu.parseIn y 0 63 with
      | some z =>
        have hrz := parseIn_range hp
        rw [hp] at cP
        have hq : toldP numF (strL n).data.toList [] = ⟨x, some z.toNat, false, []⟩ := by rw [hts]; unfold numF; rw [hp, hw]; rfl
        have HA := Lib.hid (show plcV (toldP numF (strL n).data.toList []) = .tuple #[.agg #[.string (strL x), .int .i64 z], .bool false] by rw [hq]; unfold plcV plcZ; simp only []; rw [show ((z.toNat : Nat) : Int) = z by omega])
        simp only [Option.getD_some, Option.isSome_some] at cP
        have HN := Lib.hid hlen
        generalize strL n = ns at R1 R2 cI HA hl1 cH HD
        generalize strL y = ys at R1 cP
        generalize strL x = xs at R2 HA
        generalize (x.length : Int) = p at R1 R2 cI F1 hx0
        clear hv hbox hn hn2 hw hst hnz hz hs hxy hy hli hts e1 e2 hp hq hrz hlen
        go_enter Tryz.func69, Tryz.ntmps69
        go_wp2_with (first
          | (go_at_call 103; refine (cH _).mono ?_; rintro e w1 ⟨rfl, rfl⟩)
          | (go_at_call 104; refine (cI _).mono ?_; rintro e w2 ⟨rfl, rfl⟩)
          | (go_at_call 105; (with_reducible refine (cP _ HV0).mono ?_); rintro e w3 ⟨rfl, hb3⟩; have HB3 := Lib.hid (HB0.out.trans (hb3.mono HB0.out.size)); obtain ⟨y0, y1, yf⟩ := HBOX.out w3 (Lib.hid hb3); have HX3 := Lib.hid (HX0.out.step hb3); clear hb3 cP))
        rw [← HD.out, HA.out]
        exact bodyPost_ret (results_plc rfl _ _ w.heap.size _ _ rfl (set_two HX3.out)) rfl ⟨rfl, below_two HB3.out (Nat.le_refl _) _ _⟩
      | none =>
        rw [hp] at cP
        have hq : toldP numF (strL n).data.toList [] = ⟨n, none, false, []⟩ := by rw [hts]; unfold numF; rw [hp, hw]; rfl
        have HA := Lib.hid (show plcV (toldP numF (strL n).data.toList []) = .tuple #[.agg #[.string (strL n), .int .i64 (-2)], .bool false] by rw [hq]; rfl)
        simp only [Option.getD_none, Option.isSome_none] at cP
        generalize strL n = ns at R1 R2 cI HA hl1 cH HD
        generalize strL y = ys at R1 cP
        generalize (x.length : Int) = p at R1 R2 cI F1 hx0
        clear hv hbox hn hn2 hw hst hnz hz hs hxy hy hli hts e1 e2 hp hq hlen R2
        go_enter Tryz.func69, Tryz.ntmps69
        go_wp2_with (first
          | (go_at_call 103; refine (cH _).mono ?_; rintro e w1 ⟨rfl, rfl⟩)
          | (go_at_call 104; refine (cI _).mono ?_; rintro e w2 ⟨rfl, rfl⟩)
          | (go_at_call 105; (with_reducible refine (cP _ HV0).mono ?_); rintro e w3 ⟨rfl, hb3⟩; have HB3 := Lib.hid (HB0.out.trans (hb3.mono HB0.out.size)); obtain ⟨y0, y1, yf⟩ := HBOX.out w3 (Lib.hid hb3); have HX3 := Lib.hid (HX0.out.step hb3); clear hb3 cP))
        rw [← HD.out, HA.out]
        exact bodyPost_ret (results_plc rfl _ _ w.heap.size _ _ rfl (set_two HX3.out)) rfl ⟨rfl, below_two HB3.out (Nat.le_refl _) _ _⟩
    · rw [last_no n hst] at cI
      have hq : toldP numF (strL n).data.toList [] = ⟨n, none, false, []⟩ := by rw [told_no numF (strL n).data.toList [] n hn hst, hw]
      have HA := Lib.hid (show plcV (toldP numF (strL n).data.toList []) = .tuple #[.agg #[.string (strL n), .int .i64 (-2)], .bool false] by rw [hq]; rfl)
      generalize strL n = ns at cI HA hl1 cH HD
      clear hv hbox hn hn2 hw hst hnz hz hs hq
      go_enter Tryz.func69, Tryz.ntmps69
      go_wp2_with (first
          | (go_at_call 103; refine (cH _).mono ?_; rintro e w1 ⟨rfl, rfl⟩)
          | (go_at_call 104; refine (cI _).mono ?_; rintro e w2 ⟨rfl, rfl⟩))
      rw [← HD.out, HA.out]
      exact bodyPost_ret (results_plc rfl _ _ w.heap.size _ _ rfl (plx_new w _ _)) rfl ⟨rfl, (Below.refl _ w).alloc (Nat.le_refl _) _⟩
  · clear hw2 cH
    obtain ⟨D, hD⟩ : ∃ D, plcV (toldP numF s.data.toList []) = D := ⟨_, rfl⟩
    rw [hD]
    have HD := Lib.hid hD
    clear hD
    subst eS
    have cI := fun W => Tryz.strings_LastIndexByte (strL n) 42 (by rw [strL_size]; omega) W
    by_cases hst : 42 ∈ n
    · obtain ⟨x, y, hxy, hy, hli⟩ := last_yes n hst
      rw [hli] at cI
      have hlen : n.length = x.length + 1 + y.length := by rw [hxy, List.length_append, List.length_cons]; omega
      have hts := told_star numF (strL n).data.toList [] x y n hn hxy hy
      have F1 : IntKind.i64.wrap ((x.length : Int) + 1) = (x.length : Int) + 1 := by rw [IntKind.wrap_i64]; omega
      have R1 := run_slice_from (strL n) (x.length + 1) ((x.length : Int) + 1) (by omega) (by rw [strL_size]; omega)
      have R2 := run_slice_to (strL n) x.length (x.length : Int) rfl (by rw [strL_size]; omega)
      have e1 : (strL n).extract (x.length + 1) (strL n).size = strL y := bytes_is (by rw [part_rest (strL n) (x.length + 1) (by rw [strL_size]; omega), strL_list, strL_list, hxy, ← List.drop_drop, List.drop_left' rfl]; rfl)
      have e2 : (strL n).extract 0 x.length = strL x := bytes_is (by rw [part_start (strL n) x.length (by rw [strL_size]; omega), strL_list, strL_list, hxy, List.take_left' rfl])
      rw [e1] at R1
      rw [e2] at R2
      have cP := fun W (hv : Hid (Nu.Vars W)) => Nu.parse_any (strL y) 0 63 (by rw [strL_size]; omega) W hv.out
      rw [strL_list] at cP
      unfold Nu.Ans at cP
      have hx0 : (0 : Int) ≤ (x.length : Int) := by omega
      cases hp : Nu.parseIn y 0 63 with
      | some z =>
        have hrz := parseIn_range hp
        rw [hp] at cP
        have hq : toldP numF (strL n).data.toList [] = ⟨x, some z.toNat, false, []⟩ := by rw [hts]; unfold numF; rw [hp, hw]; rfl
        have HA := Lib.hid (show plcV (toldP numF (strL n).data.toList []) = .tuple #[.agg #[.string (strL x), .int .i64 z], .bool false] by rw [hq]; unfold plcV plcZ; simp only []; rw [show ((z.toNat : Nat) : Int) = z by omega])
        simp only [Option.getD_some, Option.isSome_some] at cP
        have HN := Lib.hid hlen
        generalize strL n = ns at R1 R2 cI HA hl1 HD
        generalize strL y = ys at R1 cP
        generalize strL x = xs at R2 HA
        generalize (x.length : Int) = p at R1 R2 cI F1 hx0
        clear hv hbox hn hn2 hw hst hnz hz hs hxy hy hli hts e1 e2 hp hq hrz hlen
        go_enter Tryz.func69, Tryz.ntmps69
        go_wp2_with (first
          | (go_at_call 103; refine (cH _).mono ?_; rintro e w1 ⟨rfl, rfl⟩)
          | (go_at_call 104; refine (cI _).mono ?_; rintro e w2 ⟨rfl, rfl⟩)
          | (go_at_call 105; (with_reducible refine (cP _ HV0).mono ?_); rintro e w3 ⟨rfl, hb3⟩; have HB3 := Lib.hid (HB0.out.trans (hb3.mono HB0.out.size)); obtain ⟨y0, y1, yf⟩ := HBOX.out w3 (Lib.hid hb3); have HX3 := Lib.hid (HX0.out.step hb3); clear hb3 cP))
        rw [← HD.out, HA.out]
        exact bodyPost_ret (results_plc rfl _ _ w.heap.size _ _ rfl (set_two HX3.out)) rfl ⟨rfl, below_two HB3.out (Nat.le_refl _) _ _⟩
      | none =>
        rw [hp] at cP
        have hq : toldP numF (strL n).data.toList [] = ⟨n, none, false, []⟩ := by rw [hts]; unfold numF; rw [hp, hw]; rfl
        have HA := Lib.hid (show plcV (toldP numF (strL n).data.toList []) = .tuple #[.agg #[.string (strL n), .int .i64 (-2)], .bool false] by rw [hq]; rfl)
        simp only [Option.getD_none, Option.isSome_none] at cP
        generalize strL n = ns at R1 R2 cI HA hl1 HD
        generalize strL y = ys at R1 cP
        generalize (x.length : Int) = p at R1 R2 cI F1 hx0
        clear hv hbox hn hn2 hw hst hnz hz hs hxy hy hli hts e1 e2 hp hq hlen R2
        go_enter Tryz.func69, Tryz.ntmps69
        go_wp2_with (first
          | (go_at_call 103; refine (cH _).mono ?_; rintro e w1 ⟨rfl, rfl⟩)
          | (go_at_call 104; refine (cI _).mono ?_; rintro e w2 ⟨rfl, rfl⟩)
          | (go_at_call 105; (with_reducible refine (cP _ HV0).mono ?_); rintro e w3 ⟨rfl, hb3⟩; have HB3 := Lib.hid (HB0.out.trans (hb3.mono HB0.out.size)); obtain ⟨y0, y1, yf⟩ := HBOX.out w3 (Lib.hid hb3); have HX3 := Lib.hid (HX0.out.step hb3); clear hb3 cP))
        rw [← HD.out, HA.out]
        exact bodyPost_ret (results_plc rfl _ _ w.heap.size _ _ rfl (set_two HX3.out)) rfl ⟨rfl, below_two HB3.out (Nat.le_refl _) _ _⟩
    · rw [last_no n hst] at cI
      have hq : toldP numF (strL n).data.toList [] = ⟨n, none, false, []⟩ := by rw [told_no numF (strL n).data.toList [] n hn hst, hw]
      have HA := Lib.hid (show plcV (toldP numF (strL n).data.toList []) = .tuple #[.agg #[.string (strL n), .int .i64 (-2)], .bool false] by rw [hq]; rfl)
      generalize strL n = ns at cI HA hl1 HD
      clear hv hbox hn hn2 hw hst hnz hz hs hq
      go_enter Tryz.func69, Tryz.ntmps69
      go_wp2_with (first
          | (go_at_call 103; refine (cH _).mono ?_; rintro e w1 ⟨rfl, rfl⟩)
          | (go_at_call 104; refine (cI _).mono ?_; rintro e w2 ⟨rfl, rfl⟩))
      rw [← HD.out, HA.out]
      exact bodyPost_ret (results_plc rfl _ _ w.heap.size _ _ rfl (plx_new w _ _)) rfl ⟨rfl, (Below.refl _ w).alloc (Nat.le_refl _) _⟩
theorem placed_any (s : ByteArray) (hs : s.size ≤ 4000000) (w : World) (hv : Nu.Vars w) :
    Calls Tryz.prog 69 #[.string s] w fun e w' => e = .returned (plcV (toldP numF s.data.toList [])) ∧ Below w.heap.size w w' := by
  cases hw : wideB s.data.toList with
  | true => exact placed_true s hs hw w hv
  | false => exact placed_false s hs hw w hv
end Go.Proofs.YtdinachiiimngaaGreatDoor
namespace Go.Proofs.YtdinachiiimngaaGreatDoor
open Go.ChangeShapes Go.WideShapes Go.ChangeAt Go.RowKit
open TokP AdrP CtP

/-- The name, in lower case, and the value that a row gives. -/
def asgP : List UInt8 → List TokP.Tok → Option (List UInt8 × List UInt8)
  | _, [] => none
  | pre, t :: r => if t.kind = 1 ∧ 61 ∈ t.text then (if (pre ++ upC 61 t.text) = [] then none else some ((pre ++ upC 61 t.text).map lowA, pairV (behind 61 t.text) r)) else asgP (pre ++ t.text) r
theorem pair_asg (num : List UInt8 → Option Nat) : ∀ (l : List TokP.Tok) (pre : List UInt8), pairP num pre l = (asgP pre l).map (fun x => toldP num x.1 x.2)
  | [], _ => rfl
  | t :: r, pre => by
    rw [pairP, asgP]
    split
    · split <;> rfl
    · exact pair_asg num r _
theorem asg_none : ∀ (l : List TokP.Tok) (pre : List UInt8), (∀ u ∈ l, hasEq u = false) → asgP pre l = none
  | [], _, _ => rfl
  | t :: r, pre, h => by
    rw [asgP, if_neg (fun hc => ?_)]
    · exact asg_none r _ (fun u hu => h u (by simp [hu]))
    · have := h t (by simp)
      rw [(hasEq_iff t).2 hc] at this
      exact absurd this (by decide)
theorem asg_at {l : List TokP.Tok} {k : Nat} {t : TokP.Tok} (hk : l[k]? = some t) (ht : hasEq t = true) (h : ∀ i u, i < k → l[i]? = some u → hasEq u = false) :
    asgP [] l = if (joinL (l.take k) ++ upC 61 t.text) = [] then none else some ((joinL (l.take k) ++ upC 61 t.text).map lowA, pairV (behind 61 t.text) (l.drop (k + 1))) := by
  obtain ⟨h1, h2⟩ := List.getElem?_eq_some_iff.1 hk
  have e : l = l.take k ++ t :: l.drop (k + 1) := by rw [← h2, ← List.drop_eq_getElem_cons h1, List.take_append_drop]
  have ha : ∀ u ∈ l.take k, hasEq u = false := fun u hu => by
    obtain ⟨i, hi, rfl⟩ := List.mem_iff_getElem.1 hu
    have hi2 : i < k := by rw [List.length_take] at hi; omega
    refine h i _ hi2 ?_
    rw [List.getElem_take]
    exact List.getElem?_eq_getElem (by omega)
  have hgo : ∀ (A B : List TokP.Tok) (pre : List UInt8), (∀ u ∈ A, hasEq u = false) → asgP pre (A ++ t :: B) = if ((pre ++ joinL A) ++ upC 61 t.text) = [] then none else some (((pre ++ joinL A) ++ upC 61 t.text).map lowA, pairV (behind 61 t.text) B) := by
    intro A
    induction A with
    | nil =>
      intro B pre _
      have hj : joinL ([] : List TokP.Tok) = [] := rfl
      rw [List.nil_append, asgP, if_pos ((hasEq_iff t).1 ht), hj, List.append_nil]
    | cons u A ih =>
      intro B pre hA
      have hj : joinL (u :: A) = u.text ++ joinL A := by unfold joinL; simp
      rw [List.cons_append, asgP, if_neg (fun hc => ?_), ih B _ (fun v hv => hA v (by simp [hv])), hj, List.append_assoc pre]
      have := hA u (by simp)
      rw [(hasEq_iff u).2 hc] at this
      exact absurd this (by decide)
  conv => lhs; rw [e]
  rw [hgo _ _ [] ha, List.nil_append]
theorem str_cmp (l : List UInt8) : (strL l).toList.isEmpty = l.isEmpty ∧ ((strL l).toList == []) = l.isEmpty := by
  rw [ByteArray.toList_eq, strL_list]
  refine ⟨rfl, ?_⟩
  cases l <;> rfl
theorem join_split (l : List TokP.Tok) (k : Nat) (t : TokP.Tok) (h : l[k]? = some t) : (joinL (l.take k)).length + t.text.length + (joinL (l.drop (k + 1))).length = (joinL l).length := by
  obtain ⟨h1, h2⟩ := List.getElem?_eq_some_iff.1 h
  have e : l = l.take k ++ t :: l.drop (k + 1) := by rw [← h2, ← List.drop_eq_getElem_cons h1, List.take_append_drop]
  have hj : joinL l = joinL (l.take k) ++ (t.text ++ joinL (l.drop (k + 1))) := by
    conv => lhs; rw [e]
    unfold joinL; simp
  rw [hj, List.length_append, List.length_append]
  omega
theorem HasT.hasF {w : World} {v : Value} {l : List TokP.Tok} (h : HasT w v l) : HasF w v l := by
  obtain ⟨_, _, _, _, h⟩ := h; exact h
set_option maxRecDepth 100000 in
set_option maxHeartbeats 8000000 in
theorem asg_any {a : Option Addr} {n c : Nat} {l : List TokP.Tok} (hn : n ≤ 4000000) (hj : (joinL l).length ≤ 4000000) (R : Option (List UInt8 × List UInt8)) (hR : asgP [] l = R) (w : World) (h : HasT w (.slice a n c) l) :
    Calls Tryz.prog 68 #[.slice a n c] w fun e w' => e = .returned (.tuple #[.string (strL (R.getD ([], [])).1), .string (strL (R.getD ([], [])).2), .bool R.isSome]) ∧ Below w.heap.size w w' := by
  obtain ⟨hl, hc, hf⟩ := h.cap
  have hw0 := h
  have HH0 := Lib.hid h
  rcases first_ex hasEq l with hno | ⟨k, t, hk, ht, hno⟩
  · obtain rfl : none = R := by rw [← hR, asg_none l [] hno]
    have cX := fun W (h : Hid (HasT W (.slice a n c) l)) => indexE_is h.out (by omega) (-1) (.inl ⟨rfl, hno⟩)
    clear h hl hf hno hj hw0
    go_enter Tryz.func68, Tryz.ntmps68
    go_wp2_with (go_at_call 99; (with_reducible refine (cX _ HH0).mono ?_); rintro e w1 ⟨rfl, hb1⟩; have HB1 := Lib.hid hb1; clear hb1 cX)
    go_ret3
    exact ⟨rfl, HB1.out⟩
  · have hkn : k < n := by rw [hl]; exact (List.getElem?_eq_some_iff.1 hk).1
    have cX := fun W (h : Hid (HasT W (.slice a n c) l)) => indexE_is h.out (by omega) k (.inr ⟨k, t, rfl, hk, ht, hno⟩)
    have hat := asg_at hk ht hno
    rw [hR] at hat
    have hsp := join_split l k t hk
    have hk0 : ¬ (k : Int) < 0 := by omega
    have F1 : IntKind.i64.wrap ((k : Int) + 1) = (k : Int) + 1 := by rw [IntKind.wrap_i64]; omega
    have hknI : (k : Int) < (n : Int) := by omega
    obtain ⟨A1, C1, R1, hT1⟩ := run_sub_to h k (k : Int) rfl (by omega)
    obtain ⟨A2, C2, R2, hT2⟩ := run_sub_from h (k + 1) ((k : Int) + 1) (by omega) (by omega)
    obtain ⟨g, o, rfl, hfa⟩ := hf.at (by omega)
    have HQ := Lib.hid (fun (W : World) (hb : Hid (Below w.heap.size w W)) => hfa.step hb.out k t hk)
    have hz1 : (upC 61 t.text).length ≤ t.text.length := (List.takeWhile_prefix _).length_le
    have hz2 : (behind 61 t.text).length ≤ t.text.length := by unfold behind; rw [List.length_drop]; omega
    have cC := fun W => cut_all 61 (strL t.text) (by rw [strL_size]; omega) W
    rw [strL_list] at cC
    have hln1 : (l.take k).length ≤ 4000000 := by rw [List.length_take]; omega
    have cJ := fun W (hb : Hid (Below w.heap.size w W)) => join_any _ (l.take k) W (hT1.step hb.out).hasF (by omega) hln1
    have hNL : (strL (joinL (l.take k)) ++ strL (upC 61 t.text)).data.toList = joinL (l.take k) ++ upC 61 t.text := by rw [list_append, strL_list, strL_list]
    have hNz : (strL (joinL (l.take k)) ++ strL (upC 61 t.text)).size ≤ 4000000 := by rw [ByteArray.size_append, strL_size, strL_size]; omega
    have hNy : (strL (joinL (l.take k))).size + (strL (upC 61 t.text)).size ≤ 4000000 := by rw [strL_size, strL_size]; omega
    have cL := fun W => lower_any (strL (joinL (l.take k)) ++ strL (upC 61 t.text)) hNz W
    rw [hNL] at cL
    generalize strL (joinL (l.take k)) = J at cJ cL hNL hNz hNy
    generalize strL (upC 61 t.text) = U at cC cL hNL hNz hNy
    generalize joinL (l.take k) ++ upC 61 t.text = NM at hat cL hNL
    have hNz2 : NM.length ≤ 4000000 := by rw [← hNL, ← size_list]; exact hNz
    obtain ⟨hs1, hs2⟩ := str_cmp (NM.map lowA)
    have hne : (NM.map lowA).isEmpty = NM.isEmpty := by cases NM <;> rfl
    rw [hne] at hs1 hs2
    clear hNL hne
    generalize (t.kind : Int) = x0 at HQ
    generalize strL t.text = x1 at HQ cC
    have hcon : t.text.contains 61 = true := by rw [List.contains_iff_mem]; exact ((hasEq_iff t).1 ht).2
    rw [hcon] at cC
    by_cases he : NM = []
    · rw [if_pos he] at hat
      subst hat
      rw [he, List.map_nil] at cL hs1 hs2
      generalize strL (behind 61 t.text) = V at cC
      rw [show strL [] = (⟨#[]⟩ : ByteArray) from rfl] at cL
      clear h hl hw0 hno hk ht hT1 hT2 hfa hR he hsp hz1 hz2 hln1 hNz2 hj hs1 hs2 R2 hcon
      go_enter Tryz.func68, Tryz.ntmps68
      go_wp2_with (first
        | (go_at_call 99; (with_reducible refine (cX _ HH0).mono ?_); rintro e w1 ⟨rfl, hb1⟩; have HB1 := Lib.hid hb1; clear hb1 cX; obtain ⟨q0, q1⟩ := HQ.out w1 HB1)
        | (go_at_call 30; (with_reducible refine (cC _).mono ?_); rintro e w2 ⟨rfl, hb2⟩; have HB2 := Lib.hid (HB1.out.trans (hb2.mono HB1.out.size)); clear hb2 cC)
        | (go_at_call 31; (with_reducible refine (cJ _ HB2).mono ?_); rintro e w3 ⟨rfl, hb3⟩; have HB3 := Lib.hid (HB2.out.trans (hb3.mono HB2.out.size)); clear hb3 cJ)
        | (go_at_call 33; (with_reducible refine (cL _).mono ?_); rintro e w4 ⟨rfl, hb4⟩; have HB4 := Lib.hid (HB3.out.trans (hb4.mono HB3.out.size)); clear hb4 cL))
      go_ret3
      exact ⟨rfl, HB4.out⟩
    · rw [if_neg he] at hat
      have hne : NM.isEmpty = false := by cases NM with
        | nil => exact absurd rfl he
        | cons _ _ => rfl
      rw [hne] at hs1 hs2
      generalize hNMq : strL (NM.map lowA) = NMs at cL hs1 hs2
      obtain ⟨hv1, hv2⟩ := str_cmp (behind 61 t.text)
      have hDl : (l.drop (k + 1)).length = n - (k + 1) := by rw [List.length_drop, hl]
      have hpD : (joinL (l.drop (k + 1))).length ≤ 4000000 := by omega
      have HT2 := Lib.hid hT2
      have HJ1 := Lib.hid hT1
      have cK := fun W (hb : Hid (Below w.heap.size w W)) => join_any _ (l.drop (k + 1)) W (HT2.out.step hb.out).hasF (by omega) (by omega)
      obtain ⟨m, hm⟩ : ∃ m, n - (k + 1) = m := ⟨_, rfl⟩
      rw [hm] at R2 hDl HT2 cK
      clear h hl hT1 hT2 hm HH0
      have HH0 := Lib.hid hw0
      by_cases hV : behind 61 t.text = []
      · rw [show (behind 61 t.text).isEmpty = true by rw [hV]; rfl] at hv1 hv2
        by_cases hmp : 0 < m
        · have hmI : (0 : Int) < (m : Int) := by omega
          obtain ⟨u, hu⟩ : ∃ u, (l.drop (k + 1))[0]? = some u := ⟨_, List.getElem?_eq_getElem (by rw [hDl]; exact hmp)⟩
          obtain ⟨g2, o2, rfl, hfb⟩ := HT2.out.hasF.at hmp
          have HQ2 := Lib.hid (fun (W : World) (hb : Hid (Below w.heap.size w W)) => hfb.step hb.out 0 u hu)
          rw [Nat.zero_mul, Nat.add_zero] at HQ2
          have hcons : l.drop (k + 1) = u :: (l.drop (k + 1)).drop 1 := by
            obtain ⟨h1, h2⟩ := List.getElem?_eq_some_iff.1 hu
            have := List.drop_eq_getElem_cons (l := l.drop (k + 1)) (i := 0) h1
            rw [h2] at this
            exact this
          by_cases hu2 : u.kind = 2
          · have hpv : pairV (behind 61 t.text) (l.drop (k + 1)) = valueL u := by rw [hcons, pairV, if_pos ⟨hV, hu2⟩]
            rw [hpv] at hat
            subst hat
            have hul : u.text.length ≤ 4000000 := by
              have := text_mem (l.drop (k + 1)) u (List.mem_of_getElem? hu)
              omega
            have cV := fun W => value_any (u.kind : Nat) (strL u.text) (by rw [strL_size]; exact hul) W
            rw [strL_list, value_tok] at cV
            have ek : ((u.kind : Nat) : Int) = 2 := by omega
            simp only [ek] at cV HQ2
            show Calls _ _ _ _ fun e w' => e = .returned (.tuple #[.string (strL (NM.map lowA)), .string (strL (valueL u)), .bool true]) ∧ _
            rw [hNMq]
            generalize strL (valueL u) = ANS at cV ⊢
            generalize strL u.text = x2 at cV HQ2
            generalize strL (behind 61 t.text) = V at cC hv1 hv2
            clear hno hk ht hfa hR he hsp hz1 hz2 hln1 hNz2 hj hcon hne hNMq hV hpv hu hu2 hul hfb hcons ek cK
            go_enter Tryz.func68, Tryz.ntmps68
            go_wp2_with (first
              | (go_at_call 99; (with_reducible refine (cX _ HH0).mono ?_); rintro e w1 ⟨rfl, hb1⟩; have HB1 := Lib.hid hb1; clear hb1 cX; obtain ⟨q0, q1⟩ := HQ.out w1 HB1)
              | (go_at_call 30; (with_reducible refine (cC _).mono ?_); rintro e w2 ⟨rfl, hb2⟩; have HB2 := Lib.hid (HB1.out.trans (hb2.mono HB1.out.size)); clear hb2 cC)
              | (go_at_call 31; (with_reducible refine (cJ _ HB2).mono ?_); rintro e w3 ⟨rfl, hb3⟩; have HB3 := Lib.hid (HB2.out.trans (hb3.mono HB2.out.size)); clear hb3 cJ)
              | (go_at_call 33; (with_reducible refine (cL _).mono ?_); rintro e w4 ⟨rfl, hb4⟩; have HB4 := Lib.hid (HB3.out.trans (hb4.mono HB3.out.size)); clear hb4 cL; obtain ⟨r0, r1⟩ := HQ2.out w4 HB4)
              | (go_at_call 102; (with_reducible refine (cV _).mono ?_); rintro e w5 ⟨rfl, hb5⟩; have HB5 := Lib.hid (HB4.out.trans (hb5.mono HB4.out.size)); clear hb5 cV))
            go_ret3
            exact ⟨rfl, HB5.out⟩
          · have hpv : pairV (behind 61 t.text) (l.drop (k + 1)) = behind 61 t.text ++ joinL (l.drop (k + 1)) := by
              conv => lhs; rw [hcons, pairV, if_neg (fun e => hu2 e.2), ← hcons]
            rw [hpv] at hat
            subst hat
            have ek : (((u.kind : Nat) : Int) == 2) = false := beq_eq_false_iff_ne.2 (by omega)
            generalize ((u.kind : Nat) : Int) = x3 at ek HQ2
            show Calls _ _ _ _ fun e w' => e = .returned (.tuple #[.string (strL (NM.map lowA)), .string (strL (behind 61 t.text ++ joinL (l.drop (k + 1)))), .bool true]) ∧ _
            rw [hNMq]
            clear hpv hu hu2 hfb hcons
            have hKz : (strL (behind 61 t.text)).size + (strL (joinL (l.drop (k + 1)))).size ≤ 8000000 := by rw [strL_size, strL_size]; omega
            have HV := Lib.hid (show strL (behind 61 t.text) ++ strL (joinL (l.drop (k + 1))) = strL (behind 61 t.text ++ joinL (l.drop (k + 1))) from strL_append _ _)
            generalize strL (behind 61 t.text ++ joinL (l.drop (k + 1))) = ANS at HV ⊢
            generalize strL (joinL (l.drop (k + 1))) = K at cK HV hKz
            generalize strL (behind 61 t.text) = V at cC HV hKz hv1 hv2
            clear hno hk ht hfa hR he hsp hz1 hz2 hln1 hNz2 hj hcon hne hNMq hV
            go_enter Tryz.func68, Tryz.ntmps68
            go_wp2_with (first
              | (go_at_call 99; (with_reducible refine (cX _ HH0).mono ?_); rintro e w1 ⟨rfl, hb1⟩; have HB1 := Lib.hid hb1; clear hb1 cX; obtain ⟨q0, q1⟩ := HQ.out w1 HB1)
              | (go_at_call 30; (with_reducible refine (cC _).mono ?_); rintro e w2 ⟨rfl, hb2⟩; have HB2 := Lib.hid (HB1.out.trans (hb2.mono HB1.out.size)); clear hb2 cC)
              | (go_at_call 31; (with_reducible refine (cJ _ HB2).mono ?_); rintro e w3 ⟨rfl, hb3⟩; have HB3 := Lib.hid (HB2.out.trans (hb3.mono HB2.out.size)); clear hb3 cJ)
              | (go_at_call 33; (with_reducible refine (cL _).mono ?_); rintro e w4 ⟨rfl, hb4⟩; have HB4 := Lib.hid (HB3.out.trans (hb4.mono HB3.out.size)); clear hb4 cL; obtain ⟨r0, r1⟩ := HQ2.out w4 HB4)
              | (go_at_call 31; (with_reducible refine (cK _ HB4).mono ?_); rintro e w5 ⟨rfl, hb5⟩; have HB5 := Lib.hid (HB4.out.trans (hb5.mono HB4.out.size)); clear hb5 cK))
            go_ret3
            rw [← HV.out]
            exact ⟨rfl, HB5.out⟩
        · have hmI : ¬ (0 : Int) < (m : Int) := by omega
          have hD0 : l.drop (k + 1) = [] := List.eq_nil_of_length_eq_zero (by omega)
          have hpv : pairV (behind 61 t.text) (l.drop (k + 1)) = behind 61 t.text ++ joinL (l.drop (k + 1)) := by rw [hD0, pairV]; unfold joinL; simp
          rw [hpv] at hat
          subst hat
          show Calls _ _ _ _ fun e w' => e = .returned (.tuple #[.string (strL (NM.map lowA)), .string (strL (behind 61 t.text ++ joinL (l.drop (k + 1)))), .bool true]) ∧ _
          rw [hNMq]
          clear hpv hD0
          have hKz : (strL (behind 61 t.text)).size + (strL (joinL (l.drop (k + 1)))).size ≤ 8000000 := by rw [strL_size, strL_size]; omega
          have HV := Lib.hid (show strL (behind 61 t.text) ++ strL (joinL (l.drop (k + 1))) = strL (behind 61 t.text ++ joinL (l.drop (k + 1))) from strL_append _ _)
          generalize strL (behind 61 t.text ++ joinL (l.drop (k + 1))) = ANS at HV ⊢
          generalize strL (joinL (l.drop (k + 1))) = K at cK HV hKz
          generalize strL (behind 61 t.text) = V at cC HV hKz hv1 hv2
          clear hno hk ht hfa hR he hsp hz1 hz2 hln1 hNz2 hj hcon hne hNMq hV
          go_enter Tryz.func68, Tryz.ntmps68
          go_wp2_with (first
            | (go_at_call 99; (with_reducible refine (cX _ HH0).mono ?_); rintro e w1 ⟨rfl, hb1⟩; have HB1 := Lib.hid hb1; clear hb1 cX; obtain ⟨q0, q1⟩ := HQ.out w1 HB1)
            | (go_at_call 30; (with_reducible refine (cC _).mono ?_); rintro e w2 ⟨rfl, hb2⟩; have HB2 := Lib.hid (HB1.out.trans (hb2.mono HB1.out.size)); clear hb2 cC)
            | (go_at_call 31; (with_reducible refine (cJ _ HB2).mono ?_); rintro e w3 ⟨rfl, hb3⟩; have HB3 := Lib.hid (HB2.out.trans (hb3.mono HB2.out.size)); clear hb3 cJ)
            | (go_at_call 33; (with_reducible refine (cL _).mono ?_); rintro e w4 ⟨rfl, hb4⟩; have HB4 := Lib.hid (HB3.out.trans (hb4.mono HB3.out.size)); clear hb4 cL)
            | (go_at_call 31; (with_reducible refine (cK _ HB4).mono ?_); rintro e w5 ⟨rfl, hb5⟩; have HB5 := Lib.hid (HB4.out.trans (hb5.mono HB4.out.size)); clear hb5 cK))
          go_ret3
          rw [← HV.out]
          exact ⟨rfl, HB5.out⟩
      · have hve : (behind 61 t.text).isEmpty = false := by cases hb : behind 61 t.text with
          | nil => exact absurd hb hV
          | cons _ _ => rfl
        rw [hve] at hv1 hv2
        have hpv : pairV (behind 61 t.text) (l.drop (k + 1)) = behind 61 t.text ++ joinL (l.drop (k + 1)) := by
          cases hD : l.drop (k + 1) with
          | nil => rw [pairV]; unfold joinL; simp
          | cons u r => rw [pairV, if_neg (fun e => hV e.1)]
        rw [hpv] at hat
        subst hat
        show Calls _ _ _ _ fun e w' => e = .returned (.tuple #[.string (strL (NM.map lowA)), .string (strL (behind 61 t.text ++ joinL (l.drop (k + 1)))), .bool true]) ∧ _
        rw [hNMq]
        clear hpv hve
        have hKz : (strL (behind 61 t.text)).size + (strL (joinL (l.drop (k + 1)))).size ≤ 8000000 := by rw [strL_size, strL_size]; omega
        have HV := Lib.hid (show strL (behind 61 t.text) ++ strL (joinL (l.drop (k + 1))) = strL (behind 61 t.text ++ joinL (l.drop (k + 1))) from strL_append _ _)
        generalize strL (behind 61 t.text ++ joinL (l.drop (k + 1))) = ANS at HV ⊢
        generalize strL (joinL (l.drop (k + 1))) = K at cK HV hKz
        generalize strL (behind 61 t.text) = V at cC HV hKz hv1 hv2
        clear hno hk ht hfa hR he hsp hz1 hz2 hln1 hNz2 hj hcon hne hNMq hV
        go_enter Tryz.func68, Tryz.ntmps68
        go_wp2_with (first
          | (go_at_call 99; (with_reducible refine (cX _ HH0).mono ?_); rintro e w1 ⟨rfl, hb1⟩; have HB1 := Lib.hid hb1; clear hb1 cX; obtain ⟨q0, q1⟩ := HQ.out w1 HB1)
          | (go_at_call 30; (with_reducible refine (cC _).mono ?_); rintro e w2 ⟨rfl, hb2⟩; have HB2 := Lib.hid (HB1.out.trans (hb2.mono HB1.out.size)); clear hb2 cC)
          | (go_at_call 31; (with_reducible refine (cJ _ HB2).mono ?_); rintro e w3 ⟨rfl, hb3⟩; have HB3 := Lib.hid (HB2.out.trans (hb3.mono HB2.out.size)); clear hb3 cJ)
          | (go_at_call 33; (with_reducible refine (cL _).mono ?_); rintro e w4 ⟨rfl, hb4⟩; have HB4 := Lib.hid (HB3.out.trans (hb4.mono HB3.out.size)); clear hb4 cL)
          | (go_at_call 31; (with_reducible refine (cK _ HB4).mono ?_); rintro e w5 ⟨rfl, hb5⟩; have HB5 := Lib.hid (HB4.out.trans (hb5.mono HB4.out.size)); clear hb5 cK))
        go_ret3
        rw [← HV.out]
        exact ⟨rfl, HB5.out⟩
end Go.Proofs.YtdinachiiimngaaGreatDoor
namespace Go.Proofs.YtdinachiiimngaaGreatDoor
open Go.ChangeShapes Go.WideShapes Go.ChangeAt Go.RowKit
open TokP AdrP CtP

def pmV (t : (List UInt8 × List UInt8)) : List Value := [.string (strL t.1), .string (strL t.2)]
def pmsV (l : List (List UInt8 × List UInt8)) : List Value := l.flatMap pmV
theorem pmsV_len (l : List (List UInt8 × List UInt8)) : (pmsV l).length = l.length * 2 := by
  unfold pmsV
  induction l with
  | nil => rfl
  | cons m l ih => rw [List.flatMap_cons, List.length_append, ih, List.length_cons]; simp [pmV]; omega
theorem pmsV_app (a b : List (List UInt8 × List UInt8)) : pmsV a ++ pmsV b = pmsV (a ++ b) := by unfold pmsV; rw [List.flatMap_append]
theorem pmsV_one (f : (List UInt8 × List UInt8)) : pmsV [f] = pmV f := by unfold pmsV; simp
theorem pmsV_at : ∀ (l : List (List UInt8 × List UInt8)) (i : Nat) (f : (List UInt8 × List UInt8)), l[i]? = some f → ∀ j, j < 2 → (pmsV l)[i * 2 + j]? = (pmV f)[j]?
  | [], i, m, h => by simp at h
  | x :: l, 0, m, h => by
    simp at h
    subst h
    intro j hj
    rw [show pmsV (x :: l) = pmV x ++ pmsV l by unfold pmsV; rw [List.flatMap_cons], Nat.zero_mul, Nat.zero_add, List.getElem?_append_left (by simp [pmV]; exact hj)]
  | x :: l, i + 1, m, h => by
    intro j hj
    have ih := pmsV_at l i m (by simpa using h) j hj
    rw [show pmsV (x :: l) = pmV x ++ pmsV l by unfold pmsV; rw [List.flatMap_cons], List.getElem?_append_right (by simp [pmV]; omega)]
    have e1 : (i + 1) * 2 + j - (pmV x).length = i * 2 + j := by simp [pmV]; omega
    rw [e1]
    exact ih
theorem pmV_one (f : (List UInt8 × List UInt8)) : ∀ u ∈ pmV f, u.oneCell' = true := by
  intro u hu
  simp [pmV] at hu
  rcases hu with rfl | rfl <;> rfl
theorem pmsV_ones (l : List (List UInt8 × List UInt8)) : ∀ u ∈ pmsV l, u.oneCell' = true := by
  intro u hu
  obtain ⟨f, _, hf⟩ := List.mem_flatMap.1 hu
  exact pmV_one f u hf
/-- The addresses l lie at g, from cell o on. -/
def PAt (w : World) (g o : Nat) (l : List (List UInt8 × List UInt8)) : Prop := ∀ i f, l[i]? = some f → w.cell? ⟨g, o + i * 2, none⟩ = some (.string (strL f.1)) ∧ w.cell? ⟨g, o + i * 2 + 1, none⟩ = some (.string (strL f.2))
def OwnP (w : World) (v : Value) (l : List (List UInt8 × List UInt8)) : Prop := ∃ base, w.ownsRow base 37 2 v l.length (pmsV l)
/-- The slice v reads as l. -/
def HasP (w : World) (v : Value) (l : List (List UInt8 × List UInt8)) : Prop := ((∃ a c, v = .slice a 0 c) ∧ l = []) ∨ ∃ g o c, v = .slice (some ⟨g, o, none⟩) l.length c ∧ PAt w g o l
theorem OwnP.step {w w' : World} {v : Value} {xs : List (List UInt8 × List UInt8)} (h : OwnP w v xs) (hb : Below w.heap.size w w') : OwnP w' v xs := by
  obtain ⟨b, ho⟩ := h; exact ⟨b, own_below ho hb⟩
theorem OwnP.shape {w : World} {v : Value} {xs : List (List UInt8 × List UInt8)} (h : OwnP w v xs) : ∃ a c, v = .slice a xs.length c := by
  obtain ⟨b, ho⟩ := h
  rcases ho.2 with ⟨rfl, h0⟩ | ⟨g, cap, cur, rfl, _⟩
  · exact ⟨none, 0, by rw [h0]⟩
  · exact ⟨_, _, rfl⟩
theorem OwnP.at {w : World} {a : Option Addr} {n c : Nat} {xs : List (List UInt8 × List UInt8)} (h : OwnP w (.slice a n c) xs) (hn : 0 < n) : ∃ g, a = some ⟨g, 0, none⟩ ∧ PAt w g 0 xs := by
  obtain ⟨b, ho⟩ := h
  rcases ho.2 with ⟨e, h0⟩ | ⟨g, cap, cur, e, _⟩
  · injection e with _ e2 _; omega
  · have e' := e
    injection e with e1 _ _
    subst e1
    refine ⟨g, rfl, fun i f hf => ?_⟩
    have key : ∀ j u, j < 2 → (pmV f)[j]? = some u → w.cell? ⟨g, 0 + i * 2 + j, none⟩ = some u := fun j u hj hu => by
      have := ho.cells (g := g) rfl (i * 2 + j) u (by rw [pmsV_at xs i f hf j hj]; exact hu)
      rwa [add_none, ← Nat.add_assoc] at this
    exact ⟨key 0 _ (by decide) rfl, key 1 _ (by decide) rfl⟩
theorem OwnP.has {w : World} {v : Value} {xs : List (List UInt8 × List UInt8)} (h : OwnP w v xs) : HasP w v xs := by
  obtain ⟨a, c, rfl⟩ := h.shape
  by_cases hn : 0 < xs.length
  · obtain ⟨g, rfl, hf⟩ := h.at hn
    exact .inr ⟨g, 0, c, rfl, hf⟩
  · obtain rfl : xs = [] := List.eq_nil_of_length_eq_zero (by omega)
    obtain ⟨b, ho⟩ := h
    rcases ho.2 with ⟨e, _⟩ | ⟨g, cap, cur, e, _⟩
    · exact .inl ⟨⟨_, _, e⟩, rfl⟩
    · exact .inr ⟨g, 0, _, e, fun i f hf => by simp at hf⟩
theorem PAt.lt {w : World} {g o : Nat} {l : List (List UInt8 × List UInt8)} (h : PAt w g o l) (hl : l ≠ []) : g < w.heap.size := by
  cases l with
  | nil => exact absurd rfl hl
  | cons f r => exact World.block_lt_of_cell? w _ (h 0 f rfl).1
theorem PAt.keep {w w' : World} {g o : Nat} {l : List (List UInt8 × List UInt8)} (h : PAt w g o l) (hk : w'.heap[g]? = w.heap[g]?) : PAt w' g o l := by
  intro i f hf
  obtain ⟨h1, h2⟩ := h i f hf
  exact ⟨by rw [World.cell?_of_block (by exact hk)]; exact h1, by rw [World.cell?_of_block (by exact hk)]; exact h2⟩
theorem PAt.step {w w' : World} {g o : Nat} {l : List (List UInt8 × List UInt8)} (h : PAt w g o l) (hb : Below w.heap.size w w') : PAt w' g o l := by
  by_cases hl : l = []
  · subst hl; intro i f hf; simp at hf
  · exact h.keep (hb.block g (h.lt hl))
theorem HasP.step {w w' : World} {v : Value} {l : List (List UInt8 × List UInt8)} (h : HasP w v l) (hb : Below w.heap.size w w') : HasP w' v l := by
  rcases h with h | ⟨g, o, c, rfl, h⟩
  · exact .inl h
  · exact .inr ⟨g, o, c, rfl, h.step hb⟩
theorem HasP.form {w : World} {v : Value} {l : List (List UInt8 × List UInt8)} (h : HasP w v l) : ∃ a c, v = .slice a l.length c := by
  rcases h with ⟨⟨a, c, rfl⟩, rfl⟩ | ⟨g, o, c, rfl, _⟩
  · exact ⟨a, c, rfl⟩
  · exact ⟨_, _, rfl⟩
theorem HasP.at {w : World} {a : Option Addr} {n c : Nat} {l : List (List UInt8 × List UInt8)} (h : HasP w (.slice a n c) l) (hn : 0 < n) : ∃ g o, a = some ⟨g, o, none⟩ ∧ PAt w g o l := by
  rcases h with ⟨⟨a', c', e⟩, _⟩ | ⟨g, o, c', e, h⟩
  · injection e with _ e _; omega
  · injection e with e _ _; exact ⟨g, o, e, h⟩
theorem news_pm (w : World) (f : (List UInt8 × List UInt8)) : ∀ j u, (pmV f)[j]? = some u → (w.alloc (.cells (pmV f).toArray 37)).cell? ((⟨w.heap.size, 0, none⟩ : Addr).add j) = some u := by
  intro j u h
  have := World.cell?_alloc_mark w (pmV f).toArray 37 (0, 0) j
  rw [add_none, Nat.zero_add, this, List.getElem?_toArray]; exact h
theorem infoPm : (Tryz.prog.info? 37).map (fun i => (i.zero, i.size, i.bytes)) = some (some (.agg #[.string ⟨#[]⟩, .string ⟨#[]⟩]), 2, 32) := by kernel_rfl
/-- An address is appended. -/
theorem run_appP {w : World} (base : Nat) {v : Value} {xs : List (List UInt8 × List UInt8)} (f : (List UInt8 × List UInt8)) (hown : w.ownsRow base 37 2 v xs.length (pmsV xs)) (hb : base ≤ w.heap.size) (hl : xs.length ≤ 4000000) :
    ∃ a c w', (Builtin.append_ #[24, 24] 24 #[v, .slice (some ⟨w.heap.size, 0, none⟩) 1 1]).run Tryz.prog (w.alloc (.cells #[.string (strL f.1), .string (strL f.2)] 37)) = .ok (.slice a (xs.length + 1) c) w' ∧
      w'.ownsRow base 37 2 (.slice a (xs.length + 1) c) (xs ++ [f]).length (pmsV (xs ++ [f])) ∧ (w.alloc (.cells #[.string (strL f.1), .string (strL f.2)] 37)).grownBy w' v.ownBlock := by
  obtain ⟨i0, hi, hz0, hz1, hz2⟩ := info_parts infoPm
  obtain ⟨v', w', hr, h1, h2, _⟩ := run_append_own (P := Tryz.prog) (w.alloc (.cells (pmV f).toArray 37)) base 24 24 37 i0 _ 2 32 Tryz.underlying24 hi hz0 hz1 hz2 rfl (by decide) v xs.length _ (World.ownsRow.alloc hown _) ⟨w.heap.size, 0, none⟩ 1 1 (pmV f) rfl (news_pm w f) (pmV_one f) (by unfold maxLen; omega) (by omega) (by rw [World.size_alloc]; omega)
  rw [← pmsV_one, pmsV_app, ← List.length_singleton (a := f), ← List.length_append] at h1
  obtain ⟨a, c, rfl⟩ : ∃ a c, v' = .slice a (xs.length + 1) c := by
    rcases h1.2 with ⟨rfl, h0⟩ | ⟨g, cap, cur, rfl, _⟩
    · simp at h0
    · exact ⟨_, _, by rw [List.length_append]; rfl⟩
  exact ⟨a, c, w', hr, h1, h2⟩
theorem wpList_appP {ops : Array Oper} {rest : List Oper} {o : Oper} {a : Act} {w : World} {Q : Exit → Act → World → Prop} (hw : Region.wanted o (yielded ops a.tmps) = true) (s x : Operand)
    (ho : o.op = .call { callee := .builtin .append, args := #[s, x], argTypes := #[24, 24] }) (hty : o.type = 24) (base : Nat) {v : Value} {xs : List (List UInt8 × List UInt8)} {n : Nat} (f : (List UInt8 × List UInt8)) (hs : a.eval s = v) (hx : a.eval x = .slice (some ⟨w.heap.size, 0, none⟩) 1 1)
    (hown : w.ownsRow base 37 2 v xs.length (pmsV xs)) (hn : xs.length = n) (hb : base ≤ w.heap.size) (hl : n ≤ 4000000)
    (h : ∀ a' c' w', w'.ownsRow base 37 2 (.slice a' (n + 1) c') (xs ++ [f]).length (pmsV (xs ++ [f])) → (w.alloc (.cells #[.string (strL f.1), .string (strL f.2)] 37)).grownBy w' v.ownBlock → wpList Tryz.prog ops Q rest (a.put o.dst (.slice a' (n + 1) c')) w') :
    wpList Tryz.prog ops Q (o :: rest) a (w.alloc (.cells #[.string (strL f.1), .string (strL f.2)] 37)) := by
  subst hn
  obtain ⟨a', c', w', hr, h1, h2⟩ := run_appP base f hown hb hl
  unfold wpList
  rw [if_pos hw]
  left
  unfold Oper.wp
  simp [execOp, ho, hty, resolve, invoke, builtin, hs, hx, hr, Result.andThen]
  exact h a' c' w' h1 h2
/-- Addresses are compared part by part. -/
theorem pm_iff (f g : (List UInt8 × List UInt8)) : (decide (f = g)) = ((strL f.1).toList == (strL g.1).toList && (strL f.2).toList == (strL g.2).toList) := by
  rw [eq_strL, eq_strL, Bool.eq_iff_iff]
  simp only [Bool.and_eq_true, decide_eq_true_iff]
  constructor
  · intro h; rw [h]; exact ⟨rfl, rfl⟩
  · intro h; cases f; cases g; simp_all
theorem run_equal_pm (f g : (List UInt8 × List UInt8)) (W : World) : (Op.equalIn 10000 37 (.agg #[.string (strL f.1), .string (strL f.2)]) (.agg #[.string (strL g.1), .string (strL g.2)])).run Tryz.prog W = .ok (decide (f = g)) W := by
  rw [pm_iff]
  generalize strL f.1 = a1
  generalize strL g.1 = b1
  generalize strL f.2 = a2
  generalize strL g.2 = b2
  go_simp
  cases h1 : (a1.toList == b1.toList) <;> cases h2 : (a2.toList == b2.toList) <;> simp_all
theorem drew_belowP (w : World) (n : Nat) : Below w.heap.size w (w.drewN n) := ⟨rfl, rfl, rfl, Nat.le_refl _, fun _ _ => rfl⟩
set_option maxRecDepth 100000 in
set_option maxHeartbeats 2000000 in
theorem rparams_any {v u : Value} {xs ys : List (List UInt8 × List UInt8)} {w : World} (h : HasP w v xs) (k : HasP w u ys) (hx : xs.length ≤ 4000000) :
    Calls Tryz.prog 17 #[v, u] w fun e w' => e = .returned (.bool (decide (xs = ys))) ∧ Below w.heap.size w w' := by
  obtain ⟨a1, c1, rfl⟩ := h.form
  obtain ⟨a2, c2, rfl⟩ := k.form
  obtain ⟨n, hn⟩ : ∃ n, xs.length = n := ⟨_, rfl⟩
  obtain ⟨m, hm⟩ : ∃ m, ys.length = m := ⟨_, rfl⟩
  rw [hn] at h hx
  rw [hm] at k
  rw [hn, hm]
  have HN := Lib.hid hn
  have HM := Lib.hid hm
  have H := Lib.hid h
  have K := Lib.hid k
  clear hn hm h k
  by_cases hl : n = m
  · subst hl
    have hne : ((n : Int) != (n : Int)) = false := by simp
    go_enter Tryz.func17, Tryz.ntmps17
    go_wp2_with fail
    go_loopw [5] (fun i wr => ∃ j : Nat, j ≤ n ∧ i = .int .i64 j ∧ Hid (Below w.heap.size w wr) ∧ Hid (∀ i (_ : i < j) (f g : (List UInt8 × List UInt8)), xs[i]? = some f → ys[i]? = some g → f = g)) (fun i _ => n - (intOf i).toNat)
    case atStart => exact ⟨0, Nat.zero_le _, rfl, Below.refl _ _, by intro i h; omega⟩
    case round =>
      obtain ⟨j, hj, rfl, hgr, heq⟩ := hrel
      have F1 : IntKind.i64.wrap ((j : Int) + 1) = (j : Int) + 1 := by rw [IntKind.wrap_i64]; omega
      by_cases hlt : j < n
      · have hlt' : (j : Int) < (n : Int) := by omega
        obtain ⟨g1, o1, rfl, f1⟩ := H.out.at (by omega)
        obtain ⟨g2, o2, rfl, f2⟩ := K.out.at (by omega)
        obtain ⟨f, hf⟩ : ∃ f, xs[j]? = some f := ⟨_, List.getElem?_eq_getElem (by rw [HN.out]; exact hlt)⟩
        obtain ⟨g, hg⟩ : ∃ g, ys[j]? = some g := ⟨_, List.getElem?_eq_getElem (by rw [HM.out]; exact hlt)⟩
        obtain ⟨p0, p1⟩ := f1.step hgr.out j f hf
        obtain ⟨q0, q1⟩ := f2.step hgr.out j g hg
        have hEq := run_equal_pm f g
        by_cases he : f = g
        · rw [decide_eq_true he] at hEq
          have HE : Hid (∀ i (_ : i < j + 1) (f g : (List UInt8 × List UInt8)), xs[i]? = some f → ys[i]? = some g → f = g) := by
            intro i h f' g' h1 h2
            rcases (show i < j ∨ i = j by omega) with h' | rfl
            · exact heq.out i h' f' g' h1 h2
            · rw [hf] at h1; rw [hg] at h2
              cases h1; cases h2; exact he
          generalize strL f.1 = x1 at p0 hEq
          generalize strL f.2 = x2 at p1 hEq
          generalize strL g.1 = y1 at q0 hEq
          generalize strL g.2 = y2 at q1 hEq
          clear hf hg he f1 f2
          go_wp2_with fail
          go_quiet (fail)
          go_wp2_with fail
          go_roundw
          case rel => exact ⟨j + 1, by omega, by go_num, hgr.out.trans (drew_belowP _ _ |>.mono hgr.out.size), HE⟩
          case measure => simp [intOf]; omega
        · rw [decide_eq_false he] at hEq
          have HE : Hid (decide (xs = ys) = false) := by
            show _ = _
            rw [decide_eq_false_iff_not]
            rintro rfl
            rw [hf] at hg; cases hg; exact he rfl
          generalize strL f.1 = x1 at p0 hEq
          generalize strL f.2 = x2 at p1 hEq
          generalize strL g.1 = y1 at q0 hEq
          generalize strL g.2 = y2 at q1 hEq
          clear hf hg he f1 f2
          go_wp2_with fail
          go_quiet (fail)
          go_wp2_with fail
          go_ret
          rw [HE.out]
          exact ⟨rfl, hgr.out.trans (drew_belowP _ _ |>.mono hgr.out.size)⟩
      · obtain rfl : j = n := by omega
        have hlt' : ¬ (j : Int) < (j : Int) := by omega
        have HE : Hid (decide (xs = ys) = true) := by
          show _ = _
          rw [decide_eq_true_iff]
          have h1 := HN.out
          have h2 := HM.out
          exact List.ext_getElem (by omega) fun i hi1 hi2 => heq.out i (by omega) _ _ (List.getElem?_eq_getElem hi1) (List.getElem?_eq_getElem hi2)
        go_wp2_with fail
        go_ret
        rw [HE.out]
        exact ⟨rfl, hgr.out⟩
  · have HE : Hid (decide (xs = ys) = false) := by
      show _ = _
      rw [decide_eq_false_iff_not]
      rintro rfl
      exact hl (HN.out.symm.trans HM.out)
    have hne : ((n : Int) == (m : Int)) = false := beq_eq_false_iff_ne.2 (by omega)
    have hne' : ((n : Int) != (m : Int)) = true := by rw [bne, hne]; rfl
    clear hl
    go_enter Tryz.func17, Tryz.ntmps17
    go_wp2_with fail
    go_ret
    rw [HE.out]
    exact ⟨rfl, Below.refl _ _⟩
end Go.Proofs.YtdinachiiimngaaGreatDoor
namespace Go.Proofs.YtdinachiiimngaaGreatDoor
open Go.ChangeShapes Go.WideShapes Go.ChangeAt Go.RowKit
open TokP AdrP CtP

def paramV (l : List (List UInt8 × List UInt8)) (n : List UInt8) : Option (List UInt8) := (l.find? (fun p => decide (p.1.map lowA = n.map lowA))).map Prod.snd
theorem param_hit {l : List (List UInt8 × List UInt8)} {n : List UInt8} {k : Nat} {p : List UInt8 × List UInt8} (hk : l[k]? = some p) (hp : p.1.map lowA = n.map lowA) (h : ∀ (i : Nat) (q : List UInt8 × List UInt8), i < k → l[i]? = some q → ¬ q.1.map lowA = n.map lowA) : paramV l n = some p.2 := by
  unfold paramV
  induction l generalizing k with
  | nil => simp at hk
  | cons a r ih =>
    rw [List.find?_cons]
    cases k with
    | zero =>
      obtain rfl : a = p := by simpa using hk
      rw [decide_eq_true hp]; rfl
    | succ k =>
      rw [decide_eq_false (h 0 a (by omega) rfl)]
      exact ih (k := k) (by simpa using hk) (fun i q hi hq => h (i + 1) q (by omega) (by simpa using hq))
theorem param_none {l : List (List UInt8 × List UInt8)} {n : List UInt8} (h : ∀ (i : Nat) (q : List UInt8 × List UInt8), l[i]? = some q → ¬ q.1.map lowA = n.map lowA) : paramV l n = none := by
  unfold paramV
  rw [Option.map_eq_none_iff, List.find?_eq_none]
  intro q hq
  obtain ⟨i, hi, rfl⟩ := List.mem_iff_getElem.1 hq
  simpa using h i _ (List.getElem?_eq_getElem hi)
set_option maxRecDepth 100000 in
set_option maxHeartbeats 2000000 in
theorem rparam_any (v : Value) (l : List (List UInt8 × List UInt8)) (nm : ByteArray) (hn : nm.size ≤ 4000000) (hT : ∀ p ∈ l, p.1.length ≤ 4000000) (hl : l.length ≤ 4000000) (R : Option (List UInt8)) (hR : paramV l nm.data.toList = R) (w : World) (h : Hid (HasP w v l)) :
    Calls Tryz.prog 15 #[v, .string nm] w fun e w' => e = .returned (.tuple #[.string (strL (R.getD [])), .bool R.isSome]) ∧ Below w.heap.size w w' := by
  obtain ⟨a, c, rfl⟩ := h.out.form
  obtain ⟨n, hnn⟩ : ∃ n, l.length = n := ⟨_, rfl⟩
  rw [hnn] at h hl ⊢
  have HN := Lib.hid hnn
  have HT := Lib.hid (fun (k : Nat) (f : List UInt8 × List UInt8) (h : l[k]? = some f) => hT f (List.mem_of_getElem? h))
  have HR := Lib.hid hR
  have c2 := fun W => rsmall_any nm hn W
  obtain ⟨M, hM⟩ : ∃ M, nm.data.toList.map lowA = M := ⟨_, rfl⟩
  rw [hM] at c2
  have HM := Lib.hid hM
  clear hnn hT hR hn hM
  go_enter Tryz.func15, Tryz.ntmps15
  go_wp2_with fail
  go_loopw [6] (fun i wr => ∃ k : Nat, k ≤ n ∧ i = .int .i64 k ∧ Hid (Below w.heap.size w wr) ∧ Hid (∀ (i : Nat) (q : List UInt8 × List UInt8), i < k → l[i]? = some q → ¬ q.1.map lowA = M)) (fun i _ => n - (intOf i).toNat)
  case atStart => exact ⟨0, Nat.zero_le _, rfl, Below.refl _ _, fun i _ hi => absurd hi (Nat.not_lt_zero _)⟩
  case round =>
    obtain ⟨k, hk, rfl, HB, HF⟩ := hrel
    have F1 : IntKind.i64.wrap ((k : Int) + 1) = (k : Int) + 1 := by rw [IntKind.wrap_i64]; omega
    by_cases hlt : k < n
    · have hlt' : (k : Int) < (n : Int) := by omega
      obtain ⟨g, o, rfl, hfa⟩ := h.out.at (by omega)
      obtain ⟨p, hp⟩ : ∃ p, l[k]? = some p := ⟨_, List.getElem?_eq_getElem (by rw [HN.out]; exact hlt)⟩
      obtain ⟨p0, p1⟩ := hfa.step HB.out k p hp
      have c1 := fun W => rsmall_any (strL p.1) (by rw [strL_size]; exact HT.out k p hp) W
      rw [strL_list] at c1
      have heq := eq_strL (p.1.map lowA) M
      by_cases hm : p.1.map lowA = M
      · rw [decide_eq_true hm] at heq
        obtain rfl : some p.2 = R := by rw [← HR.out]; exact (param_hit hp (hm.trans HM.out.symm) (fun i q hi hq => HM.out ▸ HF.out i q hi hq)).symm
        have HV := Lib.hid (show strL ((some p.2).getD []) = strL p.2 from rfl)
        generalize strL (p.1.map lowA) = X1 at c1 heq
        generalize strL M = X2 at c2 heq
        generalize strL p.1 = X3 at p0 c1
        generalize strL p.2 = X4 at p1 HV
        clear hp hm HF HR hfa
        go_wp2_with (first
          | (go_at_call 39; (with_reducible refine (c1 _).mono ?_); rintro e w2 ⟨rfl, hb2⟩; have HB2 := Lib.hid (HB.out.trans (hb2.mono HB.out.size)); have p1b := cell_below p1 hb2; clear hb2 c1)
          | (go_at_call 39; (with_reducible refine (c2 _).mono ?_); rintro e w3 ⟨rfl, hb3⟩; have HB3 := Lib.hid (HB2.out.trans (hb3.mono HB2.out.size)); have p1c := cell_below p1b hb3; clear hb3 c2))
        go_ret2
        exact ⟨congrArg (fun z => Ending.returned (Value.tuple #[Value.string z, Value.bool true])) HV.out.symm, HB3.out⟩
      · rw [decide_eq_false hm] at heq
        have HF2 := Lib.hid (fun (i : Nat) (q : List UInt8 × List UInt8) (hi : i < k + 1) (hq : l[i]? = some q) => show ¬ q.1.map lowA = M by
          rcases (show i < k ∨ i = k by omega) with h | rfl
          · exact HF.out i q h hq
          · rw [hp] at hq; rw [← Option.some.inj hq]; exact hm)
        generalize strL (p.1.map lowA) = X1 at c1 heq
        generalize strL M = X2 at c2 heq
        generalize strL p.1 = X3 at p0 c1
        clear hp hm HF HR hfa
        go_wp2_with (first
          | (go_at_call 39; (with_reducible refine (c1 _).mono ?_); rintro e w2 ⟨rfl, hb2⟩; have HB2 := Lib.hid (HB.out.trans (hb2.mono HB.out.size)); clear hb2 c1)
          | (go_at_call 39; (with_reducible refine (c2 _).mono ?_); rintro e w3 ⟨rfl, hb3⟩; have HB3 := Lib.hid (HB2.out.trans (hb3.mono HB2.out.size)); clear hb3))
        go_roundw
        case rel => exact ⟨k + 1, by omega, by go_num, HB3, HF2⟩
        case measure => simp [intOf]; omega
    · obtain rfl : k = n := by omega
      have hlt' : ¬ (k : Int) < (k : Int) := by omega
      obtain rfl : none = R := by
        rw [← HR.out]
        exact (param_none (fun i q hq => HM.out ▸ HF.out i q (by have := (List.getElem?_eq_some_iff.1 hq).1; rw [HN.out] at this; exact this) hq)).symm
      clear HF HR
      go_wp2_with fail
      go_ret2
      exact ⟨rfl, HB.out⟩
end Go.Proofs.YtdinachiiimngaaGreatDoor
