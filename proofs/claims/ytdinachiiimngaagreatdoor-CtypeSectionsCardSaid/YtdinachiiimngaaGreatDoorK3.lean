/- Parts of a value (a string and whether it is encoded) as values; slices of parts. A parameter in a box; the reference's first. The two maps of the program's params in memory: what a look-up answers, what a store leaves. Further contracts of the library, in this translation's numbers. Further contracts of the library, in this translation's numbers. strings.Cut at one byte, strings.LastIndexByte of an asterisk. What the contracts of package num and of its reference share: the package-level variables that the library reads, kept by every call that only makes new memory. The canonical decimal form: num.canonical, by a range over a string. Parsing a decimal integer: num.Parse. Hexadecimal encoding. The digit functions: the closure of num.Unhex and the reference's Digit; num.Pad and the reference's Pad. The reference's hexadecimal encoding. -/
import Derived.Test.YtdinachiiimngaaGreatDoorKCtSub
import Derived.Test.YtdinachiiimngaaGreatDoorK2
import Derived.Laws.ResultCell
import Derived.Maps.Own
import Derived.MapKept
import Derived.Test.YtdinachiiimngaaGreatDoorK1
import Derived.Shelf.Strings.SlTrimAscii
import Derived.Shelf.Strings.Trim
import Derived.Shelf.Utf8.RuneCount
import Derived.Shelf.LaysM
import Derived.Shelf.Strings.Search1
import Derived.Shelf.Strings.Search2
import Derived.Shelf.Strings.Search3
import Derived.Shelf.Strings.Count
import Derived.Shelf.Strings.Split
import Derived.Shelf.Strings.Replace
import Derived.Shelf.Strings.MapAny
import Derived.Test.YtdinachiiimngaaGreatDoorProg
import Derived.Shelf.Unicode.ValidAny
import Derived.Shelf.Strings.Builder1
import Derived.Shelf.Strings.Builder2
import Derived.Shelf.Strings.OnBuilder
import Derived.Shelf.Small.Utf8
import Derived.Shelf.Small.Strs
import Derived.Shelf.Small.Wraps
import Derived.Shelf.Strings.BuilderF
import Derived.Shelf.Strings.BuilderK
import Derived.Shelf.Strings.BuilderRune
import Derived.Shelf.Strings.Builder2Cap
import Derived.Shelf.Strconv.Atoi
import Derived.Shelf.Strconv.Itoa0
import Derived.Shelf.Strconv.Itoa1
import Derived.Shelf.Strconv.Itoa2
import Derived.Shelf.Strconv.Itoa3
import Derived.Shelf.Strconv.AtoiErrFast
import Derived.Shelf.Strconv.ParseIntEmpty
import Derived.Shelf.Strconv.AtoiFail
import Derived.Shelf.Strconv.Clone
import Derived.Shelf.Strconv.SyntaxError
import Derived.Shelf.LaysC
import Derived.Shelf.Strconv.ToError
import Derived.Shelf.Strconv.Lower
import Derived.Shelf.Strconv.ParseUint10
import Derived.Shelf.Strconv.ParseUint10Empty
import Derived.Shelf.Strconv.ParseUint10Any
import Derived.Shelf.Strconv.ParseInt10
import Derived.Shelf.Strconv.AtoiLong
import Derived.Shelf.Strconv.AtoiInnerAll
import Derived.Shelf.Strconv.RangeError
import Derived.Shelf.Strconv.ToErrorRange
import Derived.Shelf.Strconv.AtoiAll
import Derived.Shelf.Strconv.ErrVarAll
import Derived.Shelf.Strings.Cut
import Derived.Shelf.Strings.Shaped
import Derived.Shelf.Strings.LastIndex
import Derived.Shelf.Strings.Prefix
import Derived.Shelf.Unicode.Latin
import Derived.Shelf.Strings.Runes
import Derived.Shelf.Strings.IndexAny
import Derived.Shelf.Strings.AsciiSet
import Derived.Shelf.Strings.IndexAnyAll
import Derived.Shelf.Unicode.DecodeSlow
import Derived.Shelf.Unicode.DecodeAny
import Derived.Shelf.Unicode.CaseLookup
import Derived.Shelf.Unicode.CaseConvert
import Derived.Shelf.Unicode.CaseTo
import Derived.Shelf.Unicode.CaseLaid
import Derived.Shelf.Strings.BuilderCap
import Derived.Lib.LastIndexByte
import Derived.Deep.RegionHeld3
import Derived.BigQuiet
import Derived.WalkKit
import Derived.ProofKit
import Derived.Lib.Hide
import Derived.Lib.AtoiErrMem
import Derived.Laws.RangeString
import Derived.Lib.AtoiBound
import Derived.Deep.RegionWith
import Derived.Deep.RegionLaw
import Derived.OneCell
namespace Go.Proofs.YtdinachiiimngaaGreatDoor
open Go.ChangeShapes Go.WideShapes Go.ChangeAt Go.RowKit
open TokP AdrP CtP

def ptV (t : (List UInt8 × Bool)) : List Value := [.string (strL t.1), .bool t.2]
def ptsV (l : List (List UInt8 × Bool)) : List Value := l.flatMap ptV
theorem ptsV_len (l : List (List UInt8 × Bool)) : (ptsV l).length = l.length * 2 := by
  unfold ptsV
  induction l with
  | nil => rfl
  | cons m l ih => rw [List.flatMap_cons, List.length_append, ih, List.length_cons]; simp [ptV]; omega
theorem ptsV_app (a b : List (List UInt8 × Bool)) : ptsV a ++ ptsV b = ptsV (a ++ b) := by unfold ptsV; rw [List.flatMap_append]
theorem ptsV_one (f : (List UInt8 × Bool)) : ptsV [f] = ptV f := by unfold ptsV; simp
theorem ptsV_at : ∀ (l : List (List UInt8 × Bool)) (i : Nat) (f : (List UInt8 × Bool)), l[i]? = some f → ∀ j, j < 2 → (ptsV l)[i * 2 + j]? = (ptV f)[j]?
  | [], i, m, h => by simp at h
  | x :: l, 0, m, h => by
    simp at h
    subst h
    intro j hj
    rw [show ptsV (x :: l) = ptV x ++ ptsV l by unfold ptsV; rw [List.flatMap_cons], Nat.zero_mul, Nat.zero_add, List.getElem?_append_left (by simp [ptV]; exact hj)]
  | x :: l, i + 1, m, h => by
    intro j hj
    have ih := ptsV_at l i m (by simpa using h) j hj
    rw [show ptsV (x :: l) = ptV x ++ ptsV l by unfold ptsV; rw [List.flatMap_cons], List.getElem?_append_right (by simp [ptV]; omega)]
    have e1 : (i + 1) * 2 + j - (ptV x).length = i * 2 + j := by simp [ptV]; omega
    rw [e1]
    exact ih
theorem ptV_one (f : (List UInt8 × Bool)) : ∀ u ∈ ptV f, u.oneCell' = true := by
  intro u hu
  simp [ptV] at hu
  rcases hu with rfl | rfl <;> rfl
theorem ptsV_ones (l : List (List UInt8 × Bool)) : ∀ u ∈ ptsV l, u.oneCell' = true := by
  intro u hu
  obtain ⟨f, _, hf⟩ := List.mem_flatMap.1 hu
  exact ptV_one f u hf
/-- The addresses l lie at g, from cell o on. -/
def TAt (w : World) (g o : Nat) (l : List (List UInt8 × Bool)) : Prop := ∀ i f, l[i]? = some f → w.cell? ⟨g, o + i * 2, none⟩ = some (.string (strL f.1)) ∧ w.cell? ⟨g, o + i * 2 + 1, none⟩ = some (.bool f.2)
def OwnQ (w : World) (v : Value) (l : List (List UInt8 × Bool)) : Prop := ∃ base, w.ownsRow base 98 2 v l.length (ptsV l)
/-- The slice v reads as l. -/
def HasQ (w : World) (v : Value) (l : List (List UInt8 × Bool)) : Prop := ((∃ a c, v = .slice a 0 c) ∧ l = []) ∨ ∃ g o c, v = .slice (some ⟨g, o, none⟩) l.length c ∧ TAt w g o l
theorem OwnQ.step {w w' : World} {v : Value} {xs : List (List UInt8 × Bool)} (h : OwnQ w v xs) (hb : Below w.heap.size w w') : OwnQ w' v xs := by
  obtain ⟨b, ho⟩ := h; exact ⟨b, own_below ho hb⟩
theorem OwnQ.shape {w : World} {v : Value} {xs : List (List UInt8 × Bool)} (h : OwnQ w v xs) : ∃ a c, v = .slice a xs.length c := by
  obtain ⟨b, ho⟩ := h
  rcases ho.2 with ⟨rfl, h0⟩ | ⟨g, cap, cur, rfl, _⟩
  · exact ⟨none, 0, by rw [h0]⟩
  · exact ⟨_, _, rfl⟩
theorem OwnQ.at {w : World} {a : Option Addr} {n c : Nat} {xs : List (List UInt8 × Bool)} (h : OwnQ w (.slice a n c) xs) (hn : 0 < n) : ∃ g, a = some ⟨g, 0, none⟩ ∧ TAt w g 0 xs := by
  obtain ⟨b, ho⟩ := h
  rcases ho.2 with ⟨e, h0⟩ | ⟨g, cap, cur, e, _⟩
  · injection e with _ e2 _; omega
  · have e' := e
    injection e with e1 _ _
    subst e1
    refine ⟨g, rfl, fun i f hf => ?_⟩
    have key : ∀ j u, j < 2 → (ptV f)[j]? = some u → w.cell? ⟨g, 0 + i * 2 + j, none⟩ = some u := fun j u hj hu => by
      have := ho.cells (g := g) rfl (i * 2 + j) u (by rw [ptsV_at xs i f hf j hj]; exact hu)
      rwa [add_none, ← Nat.add_assoc] at this
    exact ⟨key 0 _ (by decide) rfl, key 1 _ (by decide) rfl⟩
theorem OwnQ.has {w : World} {v : Value} {xs : List (List UInt8 × Bool)} (h : OwnQ w v xs) : HasQ w v xs := by
  obtain ⟨a, c, rfl⟩ := h.shape
  by_cases hn : 0 < xs.length
  · obtain ⟨g, rfl, hf⟩ := h.at hn
    exact .inr ⟨g, 0, c, rfl, hf⟩
  · obtain rfl : xs = [] := List.eq_nil_of_length_eq_zero (by omega)
    obtain ⟨b, ho⟩ := h
    rcases ho.2 with ⟨e, _⟩ | ⟨g, cap, cur, e, _⟩
    · exact .inl ⟨⟨_, _, e⟩, rfl⟩
    · exact .inr ⟨g, 0, _, e, fun i f hf => by simp at hf⟩
theorem TAt.lt {w : World} {g o : Nat} {l : List (List UInt8 × Bool)} (h : TAt w g o l) (hl : l ≠ []) : g < w.heap.size := by
  cases l with
  | nil => exact absurd rfl hl
  | cons f r => exact World.block_lt_of_cell? w _ (h 0 f rfl).1
theorem TAt.keep {w w' : World} {g o : Nat} {l : List (List UInt8 × Bool)} (h : TAt w g o l) (hk : w'.heap[g]? = w.heap[g]?) : TAt w' g o l := by
  intro i f hf
  obtain ⟨h1, h2⟩ := h i f hf
  exact ⟨by rw [World.cell?_of_block (by exact hk)]; exact h1, by rw [World.cell?_of_block (by exact hk)]; exact h2⟩
theorem TAt.step {w w' : World} {g o : Nat} {l : List (List UInt8 × Bool)} (h : TAt w g o l) (hb : Below w.heap.size w w') : TAt w' g o l := by
  by_cases hl : l = []
  · subst hl; intro i f hf; simp at hf
  · exact h.keep (hb.block g (h.lt hl))
theorem HasQ.step {w w' : World} {v : Value} {l : List (List UInt8 × Bool)} (h : HasQ w v l) (hb : Below w.heap.size w w') : HasQ w' v l := by
  rcases h with h | ⟨g, o, c, rfl, h⟩
  · exact .inl h
  · exact .inr ⟨g, o, c, rfl, h.step hb⟩
theorem HasQ.form {w : World} {v : Value} {l : List (List UInt8 × Bool)} (h : HasQ w v l) : ∃ a c, v = .slice a l.length c := by
  rcases h with ⟨⟨a, c, rfl⟩, rfl⟩ | ⟨g, o, c, rfl, _⟩
  · exact ⟨a, c, rfl⟩
  · exact ⟨_, _, rfl⟩
theorem HasQ.at {w : World} {a : Option Addr} {n c : Nat} {l : List (List UInt8 × Bool)} (h : HasQ w (.slice a n c) l) (hn : 0 < n) : ∃ g o, a = some ⟨g, o, none⟩ ∧ TAt w g o l := by
  rcases h with ⟨⟨a', c', e⟩, _⟩ | ⟨g, o, c', e, h⟩
  · injection e with _ e _; omega
  · injection e with e _ _; exact ⟨g, o, e, h⟩
theorem news_pt (w : World) (f : (List UInt8 × Bool)) : ∀ j u, (ptV f)[j]? = some u → (w.alloc (.cells (ptV f).toArray 98)).cell? ((⟨w.heap.size, 0, none⟩ : Addr).add j) = some u := by
  intro j u h
  have := World.cell?_alloc_mark w (ptV f).toArray 98 (0, 0) j
  rw [add_none, Nat.zero_add, this, List.getElem?_toArray]; exact h
theorem infoPt : (Tryz.prog.info? 98).map (fun i => (i.zero, i.size, i.bytes)) = some (some (.agg #[.string ⟨#[]⟩, .bool false]), 2, 24) := by kernel_rfl
/-- An address is appended. -/
theorem run_appQ {w : World} (base : Nat) {v : Value} {xs : List (List UInt8 × Bool)} (f : (List UInt8 × Bool)) (hown : w.ownsRow base 98 2 v xs.length (ptsV xs)) (hb : base ≤ w.heap.size) (hl : xs.length ≤ 4000000) :
    ∃ a c w', (Builtin.append_ #[100, 100] 100 #[v, .slice (some ⟨w.heap.size, 0, none⟩) 1 1]).run Tryz.prog (w.alloc (.cells #[.string (strL f.1), .bool f.2] 98)) = .ok (.slice a (xs.length + 1) c) w' ∧
      w'.ownsRow base 98 2 (.slice a (xs.length + 1) c) (xs ++ [f]).length (ptsV (xs ++ [f])) ∧ (w.alloc (.cells #[.string (strL f.1), .bool f.2] 98)).grownBy w' v.ownBlock := by
  obtain ⟨i0, hi, hz0, hz1, hz2⟩ := info_parts infoPt
  obtain ⟨v', w', hr, h1, h2, _⟩ := run_append_own (P := Tryz.prog) (w.alloc (.cells (ptV f).toArray 98)) base 100 100 98 i0 _ 2 24 Tryz.underlying100 hi hz0 hz1 hz2 rfl (by decide) v xs.length _ (World.ownsRow.alloc hown _) ⟨w.heap.size, 0, none⟩ 1 1 (ptV f) rfl (news_pt w f) (ptV_one f) (by unfold maxLen; omega) (by omega) (by rw [World.size_alloc]; omega)
  rw [← ptsV_one, ptsV_app, ← List.length_singleton (a := f), ← List.length_append] at h1
  obtain ⟨a, c, rfl⟩ : ∃ a c, v' = .slice a (xs.length + 1) c := by
    rcases h1.2 with ⟨rfl, h0⟩ | ⟨g, cap, cur, rfl, _⟩
    · simp at h0
    · exact ⟨_, _, by rw [List.length_append]; rfl⟩
  exact ⟨a, c, w', hr, h1, h2⟩
theorem wpList_appQ {ops : Array Oper} {rest : List Oper} {o : Oper} {a : Act} {w : World} {Q : Exit → Act → World → Prop} (hw : Region.wanted o (yielded ops a.tmps) = true) (s x : Operand)
    (ho : o.op = .call { callee := .builtin .append, args := #[s, x], argTypes := #[100, 100] }) (hty : o.type = 100) (base : Nat) {v : Value} {xs : List (List UInt8 × Bool)} {n : Nat} (f : (List UInt8 × Bool)) (hs : a.eval s = v) (hx : a.eval x = .slice (some ⟨w.heap.size, 0, none⟩) 1 1)
    (hown : w.ownsRow base 98 2 v xs.length (ptsV xs)) (hn : xs.length = n) (hb : base ≤ w.heap.size) (hl : n ≤ 4000000)
    (h : ∀ a' c' w', w'.ownsRow base 98 2 (.slice a' (n + 1) c') (xs ++ [f]).length (ptsV (xs ++ [f])) → (w.alloc (.cells #[.string (strL f.1), .bool f.2] 98)).grownBy w' v.ownBlock → wpList Tryz.prog ops Q rest (a.put o.dst (.slice a' (n + 1) c')) w') :
    wpList Tryz.prog ops Q (o :: rest) a (w.alloc (.cells #[.string (strL f.1), .bool f.2] 98)) := by
  subst hn
  obtain ⟨a', c', w', hr, h1, h2⟩ := run_appQ base f hown hb hl
  unfold wpList
  rw [if_pos hw]
  left
  unfold Oper.wp
  simp [execOp, ho, hty, resolve, invoke, builtin, hs, hx, hr, Result.andThen]
  exact h a' c' w' h1 h2
/-- A slice of parts with room for them. -/
def HasR (w : World) (v : Value) (l : List (List UInt8 × Bool)) : Prop := ∃ a c, v = .slice a l.length c ∧ l.length ≤ c ∧ HasQ w v l
theorem HasR.step {w w' : World} {v : Value} {l : List (List UInt8 × Bool)} (h : HasR w v l) (hb : Below w.heap.size w w') : HasR w' v l := by
  obtain ⟨a, c, e, h1, h2⟩ := h
  exact ⟨a, c, e, h1, h2.step hb⟩
theorem HasR.has {w : World} {v : Value} {l : List (List UInt8 × Bool)} (h : HasR w v l) : HasQ w v l := by
  obtain ⟨_, _, _, _, h⟩ := h; exact h
theorem HasR.cap {w : World} {a : Option Addr} {n c : Nat} {l : List (List UInt8 × Bool)} (h : HasR w (.slice a n c) l) : n = l.length ∧ n ≤ c ∧ HasQ w (.slice a n c) l := by
  obtain ⟨a', c', e, h1, h2⟩ := h
  injection e with _ e1 e2
  subst e2
  exact ⟨e1, by omega, h2⟩
theorem OwnQ.hasR {w : World} {v : Value} {l : List (List UInt8 × Bool)} (h : OwnQ w v l) : HasR w v l := by
  have h2 := h.has
  obtain ⟨b, ho⟩ := h
  rcases ho.2 with ⟨rfl, h0⟩ | ⟨g, cap, cur, rfl, _, _, hc, _⟩
  · exact ⟨none, 0, by rw [h0], by omega, h2⟩
  · exact ⟨_, _, rfl, hc, h2⟩
theorem elemQ : Tryz.prog.elem 100 = 98 := by
  unfold Program.elem
  rw [Tryz.underlying100]
theorem underQ : Tryz.prog.underlying 100 = some (.slice (Tryz.prog.elem 100)) := by
  rw [elemQ]
  exact Tryz.underlying100
theorem sizeQ (W : World) : (sizeOf (Tryz.prog.elem 100)).run Tryz.prog W = .ok 2 W := by
  rw [elemQ]
  exact Tryz.sizeOf98 W
theorem run_restQ {w : World} {a : Option Addr} {n c : Nat} {l : List (List UInt8 × Bool)} (h : HasR w (.slice a n c) l) (hn : 0 < n) :
    ∃ A C, (∀ W : World, (Instr.slice 100 (.slice a n c) (some (.int .i64 1)) none none).run Tryz.prog W = .ok (.slice A (n - 1) C) W) ∧ HasR w (.slice A (n - 1) C) (l.drop 1) := by
  obtain ⟨rfl, hc, hf⟩ := h.cap
  obtain ⟨g, o, rfl, hfa⟩ := hf.at hn
  have hr := fun W : World => run_slice_l W 100 (some ⟨g, o, none⟩) l.length c underQ .i64 1 (by omega) (by omega)
  simp only [sizeQ, Result.andThen] at hr
  have hl : (l.drop 1).length = l.length - 1 := List.length_drop
  by_cases hc1 : c = 1
  · refine ⟨_, _, hr, _, _, by first | (rw [hl]; done) | (rw [hl]; rfl), by rw [hl]; simp only [Int.toNat_one]; omega, ?_⟩
    subst hc1
    have : l.drop 1 = [] := List.eq_nil_of_length_eq_zero (by rw [hl]; omega)
    rw [this]
    refine .inl ⟨⟨_, _, by rw [show l.length - 1 = 0 by omega]⟩, rfl⟩
  · refine ⟨some ⟨g, o + 2, none⟩, c - 1, fun W => ?_, _, _, by rw [hl], by rw [hl]; omega, .inr ⟨g, o + 2, _, by rw [hl], fun i f hf => ?_⟩⟩
    · rw [hr W]
      unfold sliced
      simp only [Int.toNat_one]
      rw [if_neg hc1, Option.map_some, add_none]
    · rw [List.getElem?_drop, Nat.add_comm] at hf
      have := hfa (i + 1) f hf
      rw [show o + (i + 1) * 2 = o + 2 + i * 2 by omega] at this
      exact this
end Go.Proofs.YtdinachiiimngaaGreatDoor
namespace Go.Proofs.YtdinachiiimngaaGreatDoor
open Go.ChangeShapes Go.WideShapes Go.ChangeAt Go.RowKit
open TokP AdrP CtP

/-- A parameter in the box g. -/
def Ox (w : World) (g : Nat) (N : ByteArray) (S : Int) (I : Bool) (V : ByteArray) : Prop := w.heap[g]? = some (.cells #[.string N, .int .i64 S, .bool I, .string V] 105 (0, 0))
theorem Ox.lt {w : World} {g : Nat} {N V : ByteArray} {S : Int} {I : Bool} (h : Ox w g N S I V) : g < w.heap.size := (Array.getElem?_eq_some_iff.1 h).1
theorem Ox.step {w w' : World} {g : Nat} {N V : ByteArray} {S : Int} {I : Bool} (h : Ox w g N S I V) (hb : Below w.heap.size w w') : Ox w' g N S I V := (hb.block _ h.lt).trans h
theorem ox_new (w : World) (N V : ByteArray) (S : Int) (I : Bool) : Ox (w.alloc (.cells #[.string N, .int .i64 S, .bool I, .string V] 105)) w.heap.size N S I V := World.alloc_heap_new w _
theorem Ox.c0 {w : World} {g : Nat} {N V : ByteArray} {S : Int} {I : Bool} (h : Ox w g N S I V) : w.cell? ⟨g, 0, none⟩ = some (.string N) := by rw [Lib.cell_of_heap h]; rfl
theorem Ox.c1 {w : World} {g : Nat} {N V : ByteArray} {S : Int} {I : Bool} (h : Ox w g N S I V) : w.cell? ⟨g, 1, none⟩ = some (.int .i64 S) := by rw [Lib.cell_of_heap h]; rfl
theorem Ox.c2 {w : World} {g : Nat} {N V : ByteArray} {S : Int} {I : Bool} (h : Ox w g N S I V) : w.cell? ⟨g, 2, none⟩ = some (.bool I) := by rw [Lib.cell_of_heap h]; rfl
theorem Ox.c3 {w : World} {g : Nat} {N V : ByteArray} {S : Int} {I : Bool} (h : Ox w g N S I V) : w.cell? ⟨g, 3, none⟩ = some (.string V) := by rw [Lib.cell_of_heap h]; rfl
theorem Ox.fr {w : World} {g : Nat} {N V : ByteArray} {S : Int} {I : Bool} (h : Ox w g N S I V) (i : Nat) : w.frozen? ⟨g, i, none⟩ = false := Lib.frozen_of_heap h i
theorem set_four {w : World} {g : Nat} {N V N' V' : ByteArray} {S S' : Int} {I I' : Bool} (h : Ox w g N S I V) :
    Ox ((((w.setCell ⟨g, 0, none⟩ (.string N')).setCell ⟨g, 1, none⟩ (.int .i64 S')).setCell ⟨g, 2, none⟩ (.bool I')).setCell ⟨g, 3, none⟩ (.string V')) g N' S' I' V' := by
  have h' : w.heap[g]? = some (.cells #[.string N, .int .i64 S, .bool I, .string V] 105 (0, 0)) := h
  obtain ⟨hlt, hk⟩ := Array.getElem?_eq_some_iff.1 h'
  show ((((w.setCell ⟨g, 0, none⟩ (.string N')).setCell ⟨g, 1, none⟩ (.int .i64 S')).setCell ⟨g, 2, none⟩ (.bool I')).setCell ⟨g, 3, none⟩ (.string V')).heap[g]? = _
  simp [World.setCell, Array.getElem?_modify, h']
theorem below_at {w W : World} {C : Nat} (h : Below C w W) (a : Addr) (hb : C ≤ a.block) (v : Value) : Below C w (W.setCell a v) :=
  ⟨h.os, h.tape, h.output, by simpa using h.size, fun k hk => by rw [Below.heap_setCell W a v k (by omega)]; exact h.block k hk⟩
theorem below_four {w W : World} {C g : Nat} (h : Below C w W) (hg : C ≤ g) (v0 v1 v2 v3 : Value) : Below C w ((((W.setCell ⟨g, 0, none⟩ v0).setCell ⟨g, 1, none⟩ v1).setCell ⟨g, 2, none⟩ v2).setCell ⟨g, 3, none⟩ v3) :=
  below_at (below_at (below_at (below_at h _ hg _) _ hg _) _ hg _) _ hg _
theorem rowsOne : (Tryz.prog.info? 105).map (·.size) = some 4 := by kernel_rfl
theorem results_one {fn : Func} {p u : Tmp} (h : fn.results = #[.cell p 105, .tmp u]) (tmps : Array Value) (w : World) (g : Nat) (N V : ByteArray) (S : Int) (I : Bool) (hp : tmps.getD p undef = .pointer (some ⟨g, 0, none⟩)) (hg : Ox w g N S I V) :
    (results fn tmps).run Tryz.prog w = .ok (.tuple #[.agg #[.string N, .int .i64 S, .bool I, .string V], tmps.getD u undef]) w := by
  rw [results_cell_tmp h, hp]
  have := run_loadVar_row (P := Tryz.prog) w g 105 105 #[.string N, .int .i64 S, .bool I, .string V] (0, 0) _ hg Tryz.underlying105 rfl rowsOne
  simp [asAddr, Result.andThen, this]
/-- A parameter as a value; none is the zero one. -/
def oneA (o : Option Par) : Value := match o with
  | some t => .agg #[.string (strL t.name), .int .i64 (secZ t.sec), .bool t.wide, .string (strL t.value)]
  | none => .agg #[.string ⟨#[]⟩, .int .i64 0, .bool false, .string ⟨#[]⟩]
theorem secZ_inj {a b : Option Nat} (h : secZ a = secZ b) : a = b := by
  unfold secZ at h
  split at h <;> split at h
  · congr 1; omega
  · omega
  · omega
  · rfl
theorem first_hit {l : List Par} {n : List UInt8} {z : Option Nat} {k : Nat} {p : Par} (hk : l[k]? = some p) (h1 : p.name = n) (h2 : p.sec = z) (h : ∀ (i : Nat) (q : Par), i < k → l[i]? = some q → ¬ (q.name = n ∧ q.sec = z)) : firstP l n z = some p := by
  unfold firstP
  induction l generalizing k with
  | nil => simp at hk
  | cons a r ih =>
    rw [List.find?_cons]
    cases k with
    | zero =>
      obtain rfl : a = p := by simpa using hk
      rw [show (a.name == n && a.sec == z) = true by simp [h1, h2]]
    | succ k =>
      rw [show (a.name == n && a.sec == z) = false by
        have := h 0 a (by omega) rfl
        rw [← Bool.not_eq_true]
        simpa using this]
      exact ih (k := k) (by simpa using hk) (fun i q hi hq => h (i + 1) q (by omega) (by simpa using hq))
theorem first_none {l : List Par} {n : List UInt8} {z : Option Nat} (h : ∀ (i : Nat) (q : Par), l[i]? = some q → ¬ (q.name = n ∧ q.sec = z)) : firstP l n z = none := by
  unfold firstP
  rw [List.find?_eq_none]
  intro q hq
  obtain ⟨i, hi, rfl⟩ := List.mem_iff_getElem.1 hq
  simpa using h i _ (List.getElem?_eq_getElem hi)
set_option maxRecDepth 100000 in
set_option maxHeartbeats 4000000 in
theorem rfirst_any (v : Value) (l : List Par) (n : List UInt8) (z : Option Nat) (hl : l.length ≤ 4000000) (R : Option Par) (hR : firstP l n z = R) (w : World) (h : Hid (HasO w v l)) :
    Calls Tryz.prog 113 #[v, .string (strL n), .int .i64 (secZ z)] w fun e w' => e = .returned (.tuple #[oneA R, .bool R.isSome]) ∧ Below w.heap.size w w' := by
  have HB0 := Lib.hid (show Below w.heap.size w (w.alloc (.cells #[.string ⟨#[]⟩, .int .i64 0, .bool false, .string ⟨#[]⟩] 105)) from (Below.refl _ w).alloc (Nat.le_refl _) _)
  have HX0 := Lib.hid (ox_new w ⟨#[]⟩ ⟨#[]⟩ 0 false)
  obtain ⟨a, c, rfl⟩ := h.out.form
  obtain ⟨m, hm⟩ : ∃ m, l.length = m := ⟨_, rfl⟩
  rw [hm] at h hl ⊢
  have HN := Lib.hid hm
  have HR := Lib.hid hR
  obtain ⟨Z, hZ⟩ : ∃ Z, secZ z = Z := ⟨_, rfl⟩
  rw [hZ]
  have HZ := Lib.hid hZ
  clear hm hR hZ
  go_enter Tryz.func113, Tryz.ntmps113
  go_wp2_with fail
  go_loopw [8] (fun i wr => ∃ k : Nat, k ≤ m ∧ i = .int .i64 k ∧ Hid (Below w.heap.size w wr) ∧ Hid (Ox wr w.heap.size ⟨#[]⟩ 0 false ⟨#[]⟩) ∧ Hid (∀ (i : Nat) (q : Par), i < k → l[i]? = some q → ¬ (q.name = n ∧ q.sec = z))) (fun i _ => m - (intOf i).toNat)
  case atStart => exact ⟨0, Nat.zero_le _, rfl, HB0, HX0, fun i _ hi => absurd hi (Nat.not_lt_zero _)⟩
  case round =>
    obtain ⟨k, hk, rfl, HB, HX, HF⟩ := hrel
    have F1 : IntKind.i64.wrap ((k : Int) + 1) = (k : Int) + 1 := by rw [IntKind.wrap_i64]; omega
    by_cases hlt : k < m
    · have hlt' : (k : Int) < (m : Int) := by omega
      obtain ⟨g, o, rfl, hfa⟩ := h.out.at (by omega)
      obtain ⟨p, hp⟩ : ∃ p, l[k]? = some p := ⟨_, List.getElem?_eq_getElem (by rw [HN.out]; exact hlt)⟩
      obtain ⟨p0, p1, p2, p3⟩ := hfa.step HB.out k p hp
      have e1 := eq_strL p.name n
      have HNX := Lib.hid (fun (h : ¬ (p.name = n ∧ p.sec = z)) => show ∀ (i : Nat) (q : Par), i < k + 1 → l[i]? = some q → ¬ (q.name = n ∧ q.sec = z) from fun i q hi hq => by
        rcases (show i < k ∨ i = k by omega) with h' | rfl
        · exact HF.out i q h' hq
        · rw [hp] at hq; rw [← Option.some.inj hq]; exact h)
      by_cases hn : p.name = n
      · rw [decide_eq_true hn] at e1
        by_cases hz : p.sec = z
        · have e2 : (secZ p.sec == Z) = true := beq_iff_eq.2 (by rw [hz, HZ.out])
          obtain rfl : some p = R := by rw [← HR.out]; exact (first_hit hp hn hz HF.out).symm
          have HV := Lib.hid (show oneA (some p) = .agg #[.string (strL p.name), .int .i64 (secZ p.sec), .bool p.wide, .string (strL p.value)] from rfl)
          generalize strL p.name = x0 at p0 e1 HV
          generalize secZ p.sec = x1 at p1 e2 HV
          generalize p.wide = x2 at p2 HV
          generalize strL p.value = x3 at p3 HV
          have b0 := HX.out.c0
          have b1 := HX.out.c1
          have b2 := HX.out.c2
          have b3 := HX.out.c3
          have bf := HX.out.fr
          clear hp hn hz HF HR hfa HNX
          go_wp2_with fail
          rw [HV.out]
          exact bodyPost_ret (results_one rfl _ _ w.heap.size _ _ _ _ rfl (set_four HX.out)) rfl ⟨rfl, below_four HB.out (Nat.le_refl _) _ _ _ _⟩
        · have e2 : (secZ p.sec == Z) = false := beq_eq_false_iff_ne.2 (fun e => hz (secZ_inj (e.trans HZ.out.symm)))
          have HF2 := Lib.hid (HNX.out (fun h => hz h.2))
          generalize strL p.name = x0 at p0 e1
          generalize secZ p.sec = x1 at p1 e2
          clear hp hn hz HF HR hfa HNX
          go_wp2_with fail
          go_roundw
          case rel => exact ⟨k + 1, by omega, by go_num, HB, HX, HF2⟩
          case measure => simp [intOf]; omega
      · rw [decide_eq_false hn] at e1
        have HF2 := Lib.hid (HNX.out (fun h => hn h.1))
        generalize strL p.name = x0 at p0 e1
        clear hp hn HF HR hfa HNX
        go_wp2_with fail
        go_roundw
        case rel => exact ⟨k + 1, by omega, by go_num, HB, HX, HF2⟩
        case measure => simp [intOf]; omega
    · obtain rfl : k = m := by omega
      have hlt' : ¬ (k : Int) < (k : Int) := by omega
      obtain rfl : none = R := by
        rw [← HR.out]
        exact (first_none (fun i q hq => HF.out i q (by have := (List.getElem?_eq_some_iff.1 hq).1; rw [HN.out] at this; exact this) hq)).symm
      have b0 := HX.out.c0
      have b1 := HX.out.c1
      have b2 := HX.out.c2
      have b3 := HX.out.c3
      have bf := HX.out.fr
      clear HF HR
      go_wp2_with fail
      exact bodyPost_ret (results_one rfl _ _ w.heap.size _ _ _ _ rfl (set_four HX.out)) rfl ⟨rfl, below_four HB.out (Nat.le_refl _) _ _ _ _⟩
end Go.Proofs.YtdinachiiimngaaGreatDoor
namespace Go.Proofs.YtdinachiiimngaaGreatDoor
open Go.ChangeShapes Go.WideShapes Go.ChangeAt Go.RowKit
open TokP AdrP CtP

def keyV (n : List UInt8) (z : Int) : Value := .agg #[.string (strL n), .int .i64 z]
def partA : Option (List UInt8 × Bool) → Value
  | some p => .agg #[.string (strL p.1), .bool p.2]
  | none => .agg #[.string ⟨#[]⟩, .bool false]
def entV (e : Ent) : Value × Value := (keyV e.1.1 e.1.2, .agg #[.string (strL e.2.1), .bool e.2.2])
/-- The map in block M holds these parts under their places. -/
def MpP (w : World) (M : Nat) (L : List Ent) : Prop := ∃ es c, w.heap[M]? = some (.map es c) ∧ es.toList.map (fun e => (e.key, e.val)) = L.map entV
/-- The map in block M holds these names. -/
def MpN (w : World) (M : Nat) (ns : List (List UInt8)) : Prop := ∃ es c, w.heap[M]? = some (.map es c) ∧ es.toList.map (fun e => (e.key, e.val)) = ns.map (fun n => (Value.string (strL n), Value.bool true))
theorem MpP.lt {w : World} {M : Nat} {L : List Ent} (h : MpP w M L) : M < w.heap.size := by
  obtain ⟨es, c, hb, _⟩ := h; exact (Array.getElem?_eq_some_iff.1 hb).1
theorem MpN.lt {w : World} {M : Nat} {L : List (List UInt8)} (h : MpN w M L) : M < w.heap.size := by
  obtain ⟨es, c, hb, _⟩ := h; exact (Array.getElem?_eq_some_iff.1 hb).1
theorem MpP.keep {w w' : World} {M : Nat} {L : List Ent} (h : MpP w M L) (hk : w'.heap[M]? = w.heap[M]?) : MpP w' M L := by
  obtain ⟨es, c, hb, hl⟩ := h; exact ⟨es, c, hk.trans hb, hl⟩
theorem MpN.keep {w w' : World} {M : Nat} {L : List (List UInt8)} (h : MpN w M L) (hk : w'.heap[M]? = w.heap[M]?) : MpN w' M L := by
  obtain ⟨es, c, hb, hl⟩ := h; exact ⟨es, c, hk.trans hb, hl⟩
theorem MpP.step {w w' : World} {M : Nat} {L : List Ent} (h : MpP w M L) (hb : Below w.heap.size w w') : MpP w' M L := h.keep (hb.block M h.lt)
theorem MpN.step {w w' : World} {M : Nat} {L : List (List UInt8)} (h : MpN w M L) (hb : Below w.heap.size w w') : MpN w' M L := h.keep (hb.block M h.lt)
theorem mpP_new (w : World) : MpP (w.alloc (.map #[] 0)) w.heap.size [] := ⟨#[], 0, Go.heap_alloc_new w _, rfl⟩
theorem mpN_new (w : World) : MpN (w.alloc (.map #[] 0)) w.heap.size [] := ⟨#[], 0, Go.heap_alloc_new w _, rfl⟩
/-! ### Names -/
theorem find_name (n : List UInt8) : ∀ (es : List MapEntry) (ns : List (List UInt8)) (i : Nat), es.map (fun e => (e.key, e.val)) = ns.map (fun n => (Value.string (strL n), Value.bool true)) →
    ∃ r, Instr.findNow .string (.string (strL n)) es i = some r ∧ ((n ∈ ns ∧ ∃ j, r = some (j, .bool true)) ∨ (n ∉ ns ∧ r = none))
  | [], ns, i, h => by
    obtain rfl : ns = [] := by
      cases ns with
      | nil => rfl
      | cons a b => simp at h
    exact ⟨none, rfl, .inr ⟨by simp, rfl⟩⟩
  | e :: es, ns, i, h => by
    cases ns with
    | nil => simp at h
    | cons m ns =>
      rw [List.map_cons, List.map_cons] at h
      obtain ⟨h1, h2⟩ := List.cons.inj h
      obtain ⟨hk, hv⟩ := Prod.mk.inj h1
      have hs : Instr.sameNow .string (.string (strL n)) e.key = some (decide (n = m)) := by
        rw [hk]
        show some (strL n == strL m) = _
        rw [bytes_eqb]
        congr 1
        rw [Bool.eq_iff_iff, decide_eq_true_iff, decide_eq_true_iff]
        exact strL_inj
      rw [Instr.findNow, hs]
      by_cases hn : n = m
      · rw [decide_eq_true hn]
        exact ⟨_, rfl, .inl ⟨by rw [hn]; simp, i, by rw [hv]⟩⟩
      · rw [decide_eq_false hn]
        obtain ⟨r, h3, h4⟩ := find_name n es ns (i + 1) h2
        refine ⟨r, h3, ?_⟩
        rcases h4 with ⟨h5, h6⟩ | ⟨h5, h6⟩
        · exact .inl ⟨by simp [h5], h6⟩
        · exact .inr ⟨by simp [h5, hn], h6⟩
theorem key_name (n : List UInt8) (e : Bool) (W : World) : (Instr.checkKey e 10000 9 (.string (strL n))).run Tryz.prog W = .ok () W := MapKept.run_checkKey (k := .string (strL n)) Tryz.underlying9 (by simp [MapKept.IsKey]) e 9999
theorem look_name {w : World} {M : Nat} {ns : List (List UInt8)} (h : MpN w M ns) (n : List UInt8) : (Instr.lookup 90 (.map (some M)) (.string (strL n)) false).run Tryz.prog w = .ok (.bool (decide (n ∈ ns))) w := by
  obtain ⟨es, c, hb, hl⟩ := h
  obtain ⟨r, hr, hc⟩ := find_name n es.toList ns 0 hl
  have hz : (zeroValue 4).run Tryz.prog w = .ok (.bool false) w := Tryz.zeroValue4 w
  rcases hc with ⟨hin, j, rfl⟩ | ⟨hno, rfl⟩
  · rw [decide_eq_true hin]
    simp [Instr.lookup, run_underlying Tryz.underlying90, MapKept.run_getObj_map hb, key_name, MapKept.run_findKey Tryz.underlying9 hr, Result.andThen]
  · rw [decide_eq_false hno]
    simp [Instr.lookup, run_underlying Tryz.underlying90, MapKept.run_getObj_map hb, key_name, MapKept.run_findKey Tryz.underlying9 hr, Result.andThen, hz]
theorem wpList_name {ops : Array Oper} {rest : List Oper} {o : Oper} {a : Act} {w : World} {Q : Exit → Act → World → Prop}
    (hg : o.guard = none) (m x v : Operand) (hop : o.op = Op.mapUpdate 90 m x v) (M : Nat) (ns : List (List UInt8)) (h : MpN w M ns) (n : List UInt8) (hn : n ∉ ns) (hm : a.eval m = .map (some M)) (hx : a.eval x = .string (strL n)) (hv : a.eval v = .bool true)
    (hK : ∀ w', MpN w' M (ns ++ [n]) → Below M w w' → (∀ k, k ≠ M → w'.heap[k]? = w.heap[k]?) → w'.heap.size = w.heap.size → wpList Tryz.prog ops Q rest (a.put o.dst undef) w') : wpList Tryz.prog ops Q (o :: rest) a w := by
  obtain ⟨es, c, hb, hl⟩ := h
  obtain ⟨r, hr, hc⟩ := find_name n es.toList ns 0 hl
  obtain rfl : r = none := by
    rcases hc with ⟨hin, _⟩ | ⟨_, h⟩
    · exact absurd hin hn
    · exact h
  refine wpList_plain hg fun K' hK' => ?_
  have hrun : (Instr.mapUpdate 90 (.map (some M)) (.string (strL n)) (.bool true)).run Tryz.prog w = .ok () { w with heap := w.heap.setIfInBounds M (.map (es.push { key := .string (strL n), val := .bool true, born := c }) (c + 1)) } := by
    simp [Instr.mapUpdate, run_underlying Tryz.underlying90, MapKept.run_getObj_map hb, key_name, MapKept.run_findKey Tryz.underlying9 hr, MapKept.run_setObj_map _ hb, Result.andThen]
  unfold Oper.wp
  simp [execOp, hop, hm, hx, hv, hrun, Result.andThen]
  have hset := MapKept.heap_set (o' := .map (es.push { key := .string (strL n), val := .bool true, born := c }) (c + 1)) hb
  refine hK' _ _ (hK _ ⟨_, _, hset.1, ?_⟩ ⟨rfl, rfl, rfl, by simp, fun i hi => hset.2 i (by omega)⟩ (fun k hk => hset.2 k hk) (by simp))
  rw [Array.toList_push, List.map_append, List.map_append, hl]
  rfl
/-! ### Places -/
theorem place_iff (a b : List UInt8) (x y : Int) (w0 : World) : (Op.equal 94 (keyV a x) (keyV b y)).run Tryz.prog w0 = .ok (decide (b = a) && decide (y = x)) w0 := by
  have h1 := eq_strL a b
  have h2 : (x == y) = decide (y = x) := by rw [Bool.eq_iff_iff, beq_iff_eq, decide_eq_true_iff]; exact eq_comm
  have h3 : decide (a = b) = decide (b = a) := by rw [Bool.eq_iff_iff, decide_eq_true_iff, decide_eq_true_iff]; exact eq_comm
  rw [h3] at h1
  rw [← h1, ← h2]
  unfold keyV
  clear h1 h2 h3
  generalize strL a = u
  generalize strL b = v
  show (Op.equalIn 10000 94 _ _).run Tryz.prog w0 = _
  go_simp
  cases g1 : (u.toList == v.toList) <;> cases g2 : (x == y) <;> simp_all
theorem key_place (n : List UInt8) (z : Int) (e : Bool) (W : World) : (Instr.checkKey e 10000 94 (keyV n z)).run Tryz.prog W = .ok () W := by
  unfold keyV
  generalize strL n = u
  kernel_rfl
theorem asking_place (n : List UInt8) (z : Int) (w : World) : ∀ (es : List MapEntry) (L : List Ent) (i : Nat), es.map (fun e => (e.key, e.val)) = L.map entV →
    ∃ r, (Instr.findAsking 94 (keyV n z) es i).run Tryz.prog w = .ok r w ∧ ((getE L n z = none ∧ r = none) ∨ ∃ p j, getE L n z = some p ∧ r = some (j, partA (some p)))
  | [], L, i, h => by
    obtain rfl : L = [] := by
      cases L with
      | nil => rfl
      | cons a b => simp at h
    exact ⟨none, rfl, .inl ⟨rfl, rfl⟩⟩
  | e :: es, L, i, h => by
    cases L with
    | nil => simp at h
    | cons m L =>
      rw [List.map_cons, List.map_cons] at h
      obtain ⟨h1, h2⟩ := List.cons.inj h
      obtain ⟨hk, hv⟩ := Prod.mk.inj h1
      have he := place_iff n m.1.1 z m.1.2 w
      have hg : getE (m :: L) n z = if (decide (m.1.1 = n) && decide (m.1.2 = z)) = true then some m.2 else getE L n z := by
        unfold getE
        rw [List.find?_cons]
        have : (m.1.1 == n && m.1.2 == z) = (decide (m.1.1 = n) && decide (m.1.2 = z)) := by
          rw [Bool.eq_iff_iff]; simp
        rw [this]
        cases (decide (m.1.1 = n) && decide (m.1.2 = z)) <;> rfl
      rw [hg]
      unfold Instr.findAsking
      rw [hk]
      simp only [Sem.run_bind, he, Result.andThen]
      cases hd : (decide (m.1.1 = n) && decide (m.1.2 = z)) with
      | true =>
        simp only [if_true]
        refine ⟨_, rfl, .inr ⟨m.2, i, rfl, ?_⟩⟩
        rw [hv]; rfl
      | false =>
        simp only [Bool.false_eq_true, if_false]
        obtain ⟨r, h3, h4⟩ := asking_place n z w es L (i + 1) h2
        exact ⟨r, h3, h4⟩
theorem find_place {es : Array MapEntry} {L : List Ent} (h : es.toList.map (fun e => (e.key, e.val)) = L.map entV) (n : List UInt8) (z : Int) (w : World) :
    ∃ r, (Instr.findKey 94 (keyV n z) es.toList).run Tryz.prog w = .ok r w ∧ ((getE L n z = none ∧ r = none) ∨ ∃ p j, getE L n z = some p ∧ r = some (j, partA (some p))) := by
  obtain ⟨r, h1, h2⟩ := asking_place n z w es.toList L 0 h
  refine ⟨r, ?_, h2⟩
  unfold Instr.findKey
  simp only [Sem.run_bind, run_underlying Tryz.underlying94, Result.andThen]
  cases hl : es.toList with
  | nil =>
    rw [hl] at h1
    exact h1
  | cons e r' =>
    rw [hl] at h1
    exact h1
theorem zero_part (w : World) : (zeroValue 98).run Tryz.prog w = .ok (.agg #[.string ⟨#[]⟩, .bool false]) w := Tryz.zeroValue98 w
theorem look_part {w : World} {M : Nat} {L : List Ent} (h : MpP w M L) (n : List UInt8) (z : Int) : (Instr.lookup 91 (.map (some M)) (keyV n z) true).run Tryz.prog w = .ok (.tuple #[partA (getE L n z), .bool (getE L n z).isSome]) w := by
  obtain ⟨es, c, hb, hl⟩ := h
  obtain ⟨r, hr, hc⟩ := find_place hl n z w
  rcases hc with ⟨hg, rfl⟩ | ⟨p, j, hg, rfl⟩
  · rw [hg]
    simp [Instr.lookup, run_underlying Tryz.underlying91, MapKept.run_getObj_map hb, key_place, hr, Result.andThen, zero_part, partA]
  · rw [hg]
    simp [Instr.lookup, run_underlying Tryz.underlying91, MapKept.run_getObj_map hb, key_place, hr, Result.andThen, partA]
theorem wpList_part {ops : Array Oper} {rest : List Oper} {o : Oper} {a : Act} {w : World} {Q : Exit → Act → World → Prop}
    (hg : o.guard = none) (m x v : Operand) (hop : o.op = Op.mapUpdate 91 m x v) (M : Nat) (L : List Ent) (h : MpP w M L) (e : Ent) (hn : getE L e.1.1 e.1.2 = none) (hm : a.eval m = .map (some M)) (hx : a.eval x = (entV e).1) (hv : a.eval v = (entV e).2)
    (hK : ∀ w', MpP w' M (L ++ [e]) → (∀ k, k ≠ M → w'.heap[k]? = w.heap[k]?) → Below M w w' → w'.heap.size = w.heap.size → wpList Tryz.prog ops Q rest (a.put o.dst undef) w') : wpList Tryz.prog ops Q (o :: rest) a w := by
  obtain ⟨es, c, hb, hl⟩ := h
  obtain ⟨r, hr, hc⟩ := find_place hl e.1.1 e.1.2 w
  obtain rfl : r = none := by
    rcases hc with ⟨_, h⟩ | ⟨p, j, hg, _⟩
    · exact h
    · rw [hn] at hg; exact absurd hg (by simp)
  refine wpList_plain hg fun K' hK' => ?_
  have hrun : (Instr.mapUpdate 91 (.map (some M)) (entV e).1 (entV e).2).run Tryz.prog w = .ok () { w with heap := w.heap.setIfInBounds M (.map (es.push { key := (entV e).1, val := (entV e).2, born := c }) (c + 1)) } := by
    have hr' : (Instr.findKey 94 (entV e).1 es.toList).run Tryz.prog w = .ok none w := hr
    have hk' : (Instr.checkKey false 10000 94 (entV e).1).run Tryz.prog w = .ok () w := key_place _ _ _ _
    simp [Instr.mapUpdate, run_underlying Tryz.underlying91, MapKept.run_getObj_map hb, hk', hr', MapKept.run_setObj_map _ hb, Result.andThen]
  unfold Oper.wp
  simp [execOp, hop, hm, hx, hv, hrun, Result.andThen]
  have hset := MapKept.heap_set (o' := .map (es.push { key := (entV e).1, val := (entV e).2, born := c }) (c + 1)) hb
  refine hK' _ _ (hK _ ⟨_, _, hset.1, ?_⟩ (fun k hk => hset.2 k hk) ⟨rfl, rfl, rfl, by simp, fun i hi => hset.2 i (by omega)⟩ (by simp))
  rw [Array.toList_push, List.map_append, List.map_append, hl]
  rfl
theorem ptx_new0 (w : World) (V : ByteArray) (E : Bool) : (w.alloc (.cells #[.string V, .bool E] 98)).cell? ⟨w.heap.size, 0, none⟩ = some (.string V) ∧ (w.alloc (.cells #[.string V, .bool E] 98)).cell? ⟨w.heap.size, 1, none⟩ = some (.bool E) := by
  have h := World.alloc_heap_new w (.cells #[.string V, .bool E] 98)
  exact ⟨by rw [Lib.cell_of_heap h]; rfl, by rw [Lib.cell_of_heap h]; rfl⟩
end Go.Proofs.YtdinachiiimngaaGreatDoor
namespace Go.Proofs
open Go.Shelf
def Tryz.lays162_ren : Go.Shelf.Ren := ⟨fun | 162 => 90 | 232 => 127 | 227 => 128 | 234 => 129 | 236 => 130 | 228 => 164 | 271 => 173 | 151 => 174 | 120 => 201 | 197 => 176 | 152 => 162 | 260 => 204 | 137 => 67 | 119 => 192 | 224 => 142 | 225 => 141 | 217 => 98 | 266 => 144 | n => n, fun | 9 => 9 | 20 => 20 | 4 => 4 | 3 => 3 | 5 => 5 | 117 => 140 | 116 => 139 | 0 => 0 | 124 => 143 | 21 => 21 | 105 => 162 | 46 => 111 | 119 => 130 | 139 => 133 | 138 => 132 | n => n, fun | 3 => 0 | 4 => 1 | n => n⟩
theorem Tryz.lays162 : Go.Proofs.Lays.n162 Tryz.prog Tryz.lays162_ren := {
  mixed := by kernel_rfl
  f119 := Tryz.func192.trans (congrArg some (by kernel_rfl))
  f120 := Tryz.func201.trans (congrArg some (by kernel_rfl))
  f137 := Tryz.func67.trans (congrArg some (by kernel_rfl))
  f151 := Tryz.func174.trans (congrArg some (by kernel_rfl))
  f152 := Tryz.func162.trans (congrArg some (by kernel_rfl))
  f162 := Tryz.func90.trans (congrArg some (by kernel_rfl))
  f197 := Tryz.func176.trans (congrArg some (by kernel_rfl))
  f217 := Tryz.func98.trans (congrArg some (by kernel_rfl))
  f224 := Tryz.func142.trans (congrArg some (by kernel_rfl))
  f225 := Tryz.func141.trans (congrArg some (by kernel_rfl))
  f227 := Tryz.func128.trans (congrArg some (by kernel_rfl))
  f228 := Tryz.func164.trans (congrArg some (by kernel_rfl))
  f232 := Tryz.func127.trans (congrArg some (by kernel_rfl))
  f234 := Tryz.func129.trans (congrArg some (by kernel_rfl))
  f236 := Tryz.func130.trans (congrArg some (by kernel_rfl))
  f260 := Tryz.func204.trans (congrArg some (by kernel_rfl))
  f266 := Tryz.func144.trans (congrArg some (by kernel_rfl))
  f271 := Tryz.func173.trans (congrArg some (by kernel_rfl))
  t0 := Tryz.underlying0
  a0 := Tryz.isAgg0
  z0 := Tryz.sizeOf0
  v0 := Tryz.zeroValue0
  t3 := Tryz.underlying3
  a3 := Tryz.isAgg3
  z3 := Tryz.sizeOf3
  v3 := Tryz.zeroValue3
  t4 := Tryz.underlying4
  a4 := Tryz.isAgg4
  z4 := Tryz.sizeOf4
  v4 := Tryz.zeroValue4
  t5 := Tryz.underlying5
  a5 := Tryz.isAgg5
  z5 := Tryz.sizeOf5
  v5 := Tryz.zeroValue5
  t9 := Tryz.underlying9
  a9 := Tryz.isAgg9
  z9 := Tryz.sizeOf9
  v9 := Tryz.zeroValue9
  t21 := Tryz.underlying21
  a21 := Tryz.isAgg21
  z21 := Tryz.sizeOf21
  v21 := Tryz.zeroValue21
  t46 := Tryz.underlying111
  a46 := Tryz.isAgg111
  z46 := Tryz.sizeOf111
  v46 := Tryz.zeroValue111
  t105 := Tryz.underlying162
  a105 := Tryz.isAgg162
  z105 := Tryz.sizeOf162
  v105 := Tryz.zeroValue162
  t116 := Tryz.underlying139
  a116 := Tryz.isAgg139
  z116 := Tryz.sizeOf139
  t117 := Tryz.underlying140
  a117 := Tryz.isAgg140
  z117 := Tryz.sizeOf140
  v117 := Tryz.zeroValue140
  t119 := Tryz.underlying130
  a119 := Tryz.isAgg130
  z119 := Tryz.sizeOf130
  t124 := Tryz.underlying143
  a124 := Tryz.isAgg143
  z124 := Tryz.sizeOf143
  v124 := Tryz.zeroValue143
  t138 := Tryz.underlying132
  a138 := Tryz.isAgg132
  z138 := Tryz.sizeOf132
  v138 := Tryz.zeroValue132
  t139 := Tryz.underlying133
  a139 := Tryz.isAgg133
  z139 := Tryz.sizeOf133
  v139 := Tryz.zeroValue133
  g3 := by kernel_rfl
  g4 := by kernel_rfl }
open Go.RowKit in
theorem Tryz.strings_TrimRight_one (s : ByteArray) (c : UInt8) (hc : c.toNat < 128) (w : World) (hs : s.size ≤ 9223372036854775807) :
    Calls Tryz.prog 90 #[.string s, .string ⟨#[c]⟩] w fun e w' => e = .returned (.string ⟨(Lib.trimRightB s.data.toList c).toArray⟩) ∧ w' = w := Any.strings_TrimRight_one Tryz.lays162 s c hc w hs
def Tryz.lays160_ren : Go.Shelf.Ren := ⟨fun | 160 => 92 | 232 => 127 | 231 => 132 | 227 => 128 | 234 => 129 | 233 => 133 | 236 => 130 | 235 => 134 | 228 => 164 | 271 => 173 | 151 => 174 | 197 => 176 | 120 => 201 | 152 => 162 | 260 => 204 | 137 => 67 | 119 => 192 | 224 => 142 | 225 => 141 | 217 => 98 | 266 => 144 | n => n, fun | 9 => 9 | 20 => 20 | 4 => 4 | 3 => 3 | 5 => 5 | 117 => 140 | 116 => 139 | 0 => 0 | 124 => 143 | 21 => 21 | 105 => 162 | 46 => 111 | 119 => 130 | 139 => 133 | 138 => 132 | n => n, fun | 3 => 0 | 4 => 1 | n => n⟩
theorem Tryz.lays160 : Go.Proofs.Lays.n160 Tryz.prog Tryz.lays160_ren := {
  mixed := by kernel_rfl
  f119 := Tryz.func192.trans (congrArg some (by kernel_rfl))
  f120 := Tryz.func201.trans (congrArg some (by kernel_rfl))
  f137 := Tryz.func67.trans (congrArg some (by kernel_rfl))
  f151 := Tryz.func174.trans (congrArg some (by kernel_rfl))
  f152 := Tryz.func162.trans (congrArg some (by kernel_rfl))
  f160 := Tryz.func92.trans (congrArg some (by kernel_rfl))
  f197 := Tryz.func176.trans (congrArg some (by kernel_rfl))
  f217 := Tryz.func98.trans (congrArg some (by kernel_rfl))
  f224 := Tryz.func142.trans (congrArg some (by kernel_rfl))
  f225 := Tryz.func141.trans (congrArg some (by kernel_rfl))
  f227 := Tryz.func128.trans (congrArg some (by kernel_rfl))
  f228 := Tryz.func164.trans (congrArg some (by kernel_rfl))
  f231 := Tryz.func132.trans (congrArg some (by kernel_rfl))
  f232 := Tryz.func127.trans (congrArg some (by kernel_rfl))
  f233 := Tryz.func133.trans (congrArg some (by kernel_rfl))
  f234 := Tryz.func129.trans (congrArg some (by kernel_rfl))
  f235 := Tryz.func134.trans (congrArg some (by kernel_rfl))
  f236 := Tryz.func130.trans (congrArg some (by kernel_rfl))
  f260 := Tryz.func204.trans (congrArg some (by kernel_rfl))
  f266 := Tryz.func144.trans (congrArg some (by kernel_rfl))
  f271 := Tryz.func173.trans (congrArg some (by kernel_rfl))
  t0 := Tryz.underlying0
  a0 := Tryz.isAgg0
  z0 := Tryz.sizeOf0
  v0 := Tryz.zeroValue0
  t3 := Tryz.underlying3
  a3 := Tryz.isAgg3
  z3 := Tryz.sizeOf3
  v3 := Tryz.zeroValue3
  t4 := Tryz.underlying4
  a4 := Tryz.isAgg4
  z4 := Tryz.sizeOf4
  v4 := Tryz.zeroValue4
  t5 := Tryz.underlying5
  a5 := Tryz.isAgg5
  z5 := Tryz.sizeOf5
  v5 := Tryz.zeroValue5
  t9 := Tryz.underlying9
  a9 := Tryz.isAgg9
  z9 := Tryz.sizeOf9
  v9 := Tryz.zeroValue9
  t21 := Tryz.underlying21
  a21 := Tryz.isAgg21
  z21 := Tryz.sizeOf21
  v21 := Tryz.zeroValue21
  t46 := Tryz.underlying111
  a46 := Tryz.isAgg111
  z46 := Tryz.sizeOf111
  v46 := Tryz.zeroValue111
  t105 := Tryz.underlying162
  a105 := Tryz.isAgg162
  z105 := Tryz.sizeOf162
  v105 := Tryz.zeroValue162
  t116 := Tryz.underlying139
  a116 := Tryz.isAgg139
  z116 := Tryz.sizeOf139
  t117 := Tryz.underlying140
  a117 := Tryz.isAgg140
  z117 := Tryz.sizeOf140
  v117 := Tryz.zeroValue140
  t119 := Tryz.underlying130
  a119 := Tryz.isAgg130
  z119 := Tryz.sizeOf130
  t124 := Tryz.underlying143
  a124 := Tryz.isAgg143
  z124 := Tryz.sizeOf143
  v124 := Tryz.zeroValue143
  t138 := Tryz.underlying132
  a138 := Tryz.isAgg132
  z138 := Tryz.sizeOf132
  v138 := Tryz.zeroValue132
  t139 := Tryz.underlying133
  a139 := Tryz.isAgg133
  z139 := Tryz.sizeOf133
  v139 := Tryz.zeroValue133
  g3 := by kernel_rfl
  g4 := by kernel_rfl }
open Go.RowKit in
theorem Tryz.strings_Trim_one (s : ByteArray) (c : UInt8) (hc : c.toNat < 128) (w : World) (hs : s.size ≤ 9223372036854775807) :
    Calls Tryz.prog 92 #[.string s, .string ⟨#[c]⟩] w fun e w' => e = .returned (.string ⟨(Lib.trimB s.data.toList c).toArray⟩) ∧ (w' = w ∨ w' = w.drew) := Any.strings_Trim_one Tryz.lays160 s c hc w hs
def Tryz.lays195_ren : Go.Shelf.Ren := ⟨fun | 195 => 202 | n => n, fun | 9 => 9 | 20 => 20 | 3 => 3 | 0 => 0 | 4 => 4 | n => n, fun | n => n⟩
theorem Tryz.lays195 : Go.Proofs.Lays.n195 Tryz.prog Tryz.lays195_ren := {
  mixed := by kernel_rfl
  f195 := Tryz.func202.trans (congrArg some (by kernel_rfl))
  t0 := Tryz.underlying0
  a0 := Tryz.isAgg0
  z0 := Tryz.sizeOf0
  v0 := Tryz.zeroValue0
  t3 := Tryz.underlying3
  a3 := Tryz.isAgg3
  z3 := Tryz.sizeOf3
  v3 := Tryz.zeroValue3
  t4 := Tryz.underlying4
  a4 := Tryz.isAgg4
  z4 := Tryz.sizeOf4
  v4 := Tryz.zeroValue4
  t9 := Tryz.underlying9
  a9 := Tryz.isAgg9
  z9 := Tryz.sizeOf9
  v9 := Tryz.zeroValue9 }
open Go.RowKit in
theorem Tryz.utf8_RuneCountInString (s : ByteArray) (w : World) (hs : s.size < 9223372036854775807) :
    Calls Tryz.prog 202 #[.string s] w fun e w' => e = .returned (.int .i64 (Lib.runeCount s)) ∧ ∃ pos, w' = w.iter s pos := Any.utf8_RuneCountInString Tryz.lays195 s w hs
def Tryz.lays155_ren : Go.Shelf.Ren := ⟨fun | 155 => 91 | 154 => 131 | 138 => 175 | 165 => 53 | 143 => 145 | 166 => 42 | 197 => 176 | 169 => 44 | 195 => 202 | 218 => 203 | 240 => 77 | 241 => 85 | 219 => 97 | 260 => 204 | 276 => 117 | 277 => 122 | 217 => 98 | 225 => 141 | 224 => 142 | 267 => 143 | 266 => 144 | 314 => 177 | n => n, fun | 9 => 9 | 20 => 20 | 3 => 3 | 4 => 4 | 72 => 61 | 0 => 0 | 76 => 64 | 105 => 162 | 21 => 21 | 5 => 5 | 70 => 58 | 37 => 59 | 75 => 63 | 127 => 110 | 164 => 127 | 46 => 111 | 119 => 130 | 139 => 133 | 138 => 132 | 146 => 165 | 51 => 136 | 80 => 67 | n => n, fun | 1 => 2 | 3 => 0 | 4 => 1 | n => n⟩
theorem Tryz.lays155 : Go.Proofs.Lays.n155 Tryz.prog Tryz.lays155_ren := {
  mixed := by kernel_rfl
  f138 := Tryz.func175.trans (congrArg some (by kernel_rfl))
  f143 := Tryz.func145.trans (congrArg some (by kernel_rfl))
  f154 := Tryz.func131.trans (congrArg some (by kernel_rfl))
  f155 := Tryz.func91.trans (congrArg some (by kernel_rfl))
  f165 := Tryz.func53.trans (congrArg some (by kernel_rfl))
  f166 := Tryz.func42.trans (congrArg some (by kernel_rfl))
  f169 := Tryz.func44.trans (congrArg some (by kernel_rfl))
  f195 := Tryz.func202.trans (congrArg some (by kernel_rfl))
  f197 := Tryz.func176.trans (congrArg some (by kernel_rfl))
  f217 := Tryz.func98.trans (congrArg some (by kernel_rfl))
  f218 := Tryz.func203.trans (congrArg some (by kernel_rfl))
  f219 := Tryz.func97.trans (congrArg some (by kernel_rfl))
  f224 := Tryz.func142.trans (congrArg some (by kernel_rfl))
  f225 := Tryz.func141.trans (congrArg some (by kernel_rfl))
  f240 := Tryz.func77.trans (congrArg some (by kernel_rfl))
  f241 := Tryz.func85.trans (congrArg some (by kernel_rfl))
  f260 := Tryz.func204.trans (congrArg some (by kernel_rfl))
  f266 := Tryz.func144.trans (congrArg some (by kernel_rfl))
  f267 := Tryz.func143.trans (congrArg some (by kernel_rfl))
  f276 := Tryz.func117.trans (congrArg some (by kernel_rfl))
  f277 := Tryz.func122.trans (congrArg some (by kernel_rfl))
  f314 := Tryz.func177.trans (congrArg some (by kernel_rfl))
  t0 := Tryz.underlying0
  a0 := Tryz.isAgg0
  z0 := Tryz.sizeOf0
  v0 := Tryz.zeroValue0
  t3 := Tryz.underlying3
  a3 := Tryz.isAgg3
  z3 := Tryz.sizeOf3
  v3 := Tryz.zeroValue3
  t4 := Tryz.underlying4
  a4 := Tryz.isAgg4
  z4 := Tryz.sizeOf4
  v4 := Tryz.zeroValue4
  t5 := Tryz.underlying5
  a5 := Tryz.isAgg5
  z5 := Tryz.sizeOf5
  v5 := Tryz.zeroValue5
  t9 := Tryz.underlying9
  a9 := Tryz.isAgg9
  z9 := Tryz.sizeOf9
  v9 := Tryz.zeroValue9
  t20 := Tryz.underlying20
  a20 := Tryz.isAgg20
  z20 := Tryz.sizeOf20
  v20 := Tryz.zeroValue20
  t21 := Tryz.underlying21
  a21 := Tryz.isAgg21
  z21 := Tryz.sizeOf21
  v21 := Tryz.zeroValue21
  t37 := Tryz.underlying59
  a37 := Tryz.isAgg59
  z37 := Tryz.sizeOf59
  v37 := Tryz.zeroValue59
  t46 := Tryz.underlying111
  a46 := Tryz.isAgg111
  z46 := Tryz.sizeOf111
  v46 := Tryz.zeroValue111
  t51 := Tryz.underlying136
  a51 := Tryz.isAgg136
  z51 := Tryz.sizeOf136
  v51 := Tryz.zeroValue136
  t70 := Tryz.underlying58
  a70 := Tryz.isAgg58
  z70 := Tryz.sizeOf58
  v70 := Tryz.zeroValue58
  t72 := Tryz.underlying61
  a72 := Tryz.isAgg61
  z72 := Tryz.sizeOf61
  v72 := Tryz.zeroValue61
  t75 := Tryz.underlying63
  a75 := Tryz.isAgg63
  z75 := Tryz.sizeOf63
  v75 := Tryz.zeroValue63
  t76 := Tryz.underlying64
  a76 := Tryz.isAgg64
  z76 := Tryz.sizeOf64
  v76 := Tryz.zeroValue64
  t105 := Tryz.underlying162
  a105 := Tryz.isAgg162
  z105 := Tryz.sizeOf162
  v105 := Tryz.zeroValue162
  t119 := Tryz.underlying130
  a119 := Tryz.isAgg130
  z119 := Tryz.sizeOf130
  t127 := Tryz.underlying110
  a127 := Tryz.isAgg110
  z127 := Tryz.sizeOf110
  v127 := Tryz.zeroValue110
  t138 := Tryz.underlying132
  a138 := Tryz.isAgg132
  z138 := Tryz.sizeOf132
  v138 := Tryz.zeroValue132
  t139 := Tryz.underlying133
  a139 := Tryz.isAgg133
  z139 := Tryz.sizeOf133
  v139 := Tryz.zeroValue133
  t146 := Tryz.underlying165
  a146 := Tryz.isAgg165
  z146 := Tryz.sizeOf165
  v146 := Tryz.zeroValue165
  t164 := Tryz.underlying127
  a164 := Tryz.isAgg127
  z164 := Tryz.sizeOf127
  v164 := Tryz.zeroValue127
  g1 := by kernel_rfl
  g3 := by kernel_rfl
  g4 := by kernel_rfl }
theorem Tryz.Builder_Extra_155 : Builder.Extra Tryz.prog Tryz.lays155_ren := {
  sizeBuilder := by kernel_rfl
  liesBuilder := by kernel_rfl
  t5 := Tryz.underlying5
  a5 := Tryz.isAgg5
  z5 := Tryz.sizeOf5
  v5 := Tryz.zeroValue5
  infoByte := by kernel_rfl
  cellsByte := by kernel_rfl
  sizeByte := by kernel_rfl
  neB5 := by decide }
open Go.RowKit Go.Lib in
theorem Tryz.strings_ReplaceAll (s old new : ByteArray) (m : Int) (w : World) (hs : s.size < 4294967281) (hm : w.cell? ⟨2, 0, none⟩ = some (.int .i64 m)) (h1 : 1 ≤ old.size) (hlen : s.size + Lib.countB s old * new.size ≤ 140737488355328) :
    Calls Tryz.prog 91 #[.string s, .string old, .string new] w fun e w' =>
      e = .returned (.string ⟨(Lib.replaceAll s.data.toList old.data.toList new.data.toList).toArray⟩) ∧ Below w.heap.size w w' := Any.strings_ReplaceAll Tryz.lays155 Tryz.Builder_Extra_155 s old new m w hs hm h1 hlen
def Tryz.lays230_ren : Go.Shelf.Ren := ⟨fun | 230 => 165 | 197 => 176 | 118 => 193 | 165 => 53 | 166 => 42 | 168 => 54 | 270 => 194 | 167 => 80 | 169 => 44 | 260 => 204 | 240 => 77 | 241 => 85 | 242 => 86 | 276 => 117 | 277 => 122 | 278 => 123 | n => n, fun | 9 => 9 | 20 => 20 | 107 => 155 | 72 => 61 | 0 => 0 | 4 => 4 | 3 => 3 | 21 => 21 | 105 => 162 | 76 => 64 | 5 => 5 | 75 => 63 | 70 => 58 | 37 => 59 | 127 => 110 | 119 => 130 | 46 => 111 | 139 => 133 | 138 => 132 | 164 => 127 | 51 => 136 | 80 => 67 | n => n, fun | 3 => 0 | 4 => 1 | n => n⟩
theorem Tryz.lays230 : Go.Proofs.Lays.n230 Tryz.prog Tryz.lays230_ren := {
  mixed := by kernel_rfl
  f118 := Tryz.func193.trans (congrArg some (by kernel_rfl))
  f165 := Tryz.func53.trans (congrArg some (by kernel_rfl))
  f166 := Tryz.func42.trans (congrArg some (by kernel_rfl))
  f167 := Tryz.func80.trans (congrArg some (by kernel_rfl))
  f168 := Tryz.func54.trans (congrArg some (by kernel_rfl))
  f169 := Tryz.func44.trans (congrArg some (by kernel_rfl))
  f197 := Tryz.func176.trans (congrArg some (by kernel_rfl))
  f230 := Tryz.func165.trans (congrArg some (by kernel_rfl))
  f240 := Tryz.func77.trans (congrArg some (by kernel_rfl))
  f241 := Tryz.func85.trans (congrArg some (by kernel_rfl))
  f242 := Tryz.func86.trans (congrArg some (by kernel_rfl))
  f260 := Tryz.func204.trans (congrArg some (by kernel_rfl))
  f270 := Tryz.func194.trans (congrArg some (by kernel_rfl))
  f276 := Tryz.func117.trans (congrArg some (by kernel_rfl))
  f277 := Tryz.func122.trans (congrArg some (by kernel_rfl))
  f278 := Tryz.func123.trans (congrArg some (by kernel_rfl))
  t0 := Tryz.underlying0
  a0 := Tryz.isAgg0
  z0 := Tryz.sizeOf0
  v0 := Tryz.zeroValue0
  t3 := Tryz.underlying3
  a3 := Tryz.isAgg3
  z3 := Tryz.sizeOf3
  v3 := Tryz.zeroValue3
  t4 := Tryz.underlying4
  a4 := Tryz.isAgg4
  z4 := Tryz.sizeOf4
  v4 := Tryz.zeroValue4
  t5 := Tryz.underlying5
  a5 := Tryz.isAgg5
  z5 := Tryz.sizeOf5
  v5 := Tryz.zeroValue5
  t9 := Tryz.underlying9
  a9 := Tryz.isAgg9
  z9 := Tryz.sizeOf9
  v9 := Tryz.zeroValue9
  t20 := Tryz.underlying20
  a20 := Tryz.isAgg20
  z20 := Tryz.sizeOf20
  v20 := Tryz.zeroValue20
  t21 := Tryz.underlying21
  a21 := Tryz.isAgg21
  z21 := Tryz.sizeOf21
  v21 := Tryz.zeroValue21
  t37 := Tryz.underlying59
  a37 := Tryz.isAgg59
  z37 := Tryz.sizeOf59
  v37 := Tryz.zeroValue59
  t46 := Tryz.underlying111
  a46 := Tryz.isAgg111
  z46 := Tryz.sizeOf111
  v46 := Tryz.zeroValue111
  t51 := Tryz.underlying136
  a51 := Tryz.isAgg136
  z51 := Tryz.sizeOf136
  v51 := Tryz.zeroValue136
  t70 := Tryz.underlying58
  a70 := Tryz.isAgg58
  z70 := Tryz.sizeOf58
  v70 := Tryz.zeroValue58
  t72 := Tryz.underlying61
  a72 := Tryz.isAgg61
  z72 := Tryz.sizeOf61
  v72 := Tryz.zeroValue61
  t75 := Tryz.underlying63
  a75 := Tryz.isAgg63
  z75 := Tryz.sizeOf63
  v75 := Tryz.zeroValue63
  t76 := Tryz.underlying64
  a76 := Tryz.isAgg64
  z76 := Tryz.sizeOf64
  v76 := Tryz.zeroValue64
  t105 := Tryz.underlying162
  a105 := Tryz.isAgg162
  z105 := Tryz.sizeOf162
  v105 := Tryz.zeroValue162
  t107 := Tryz.underlying155
  a107 := Tryz.isAgg155
  z107 := Tryz.sizeOf155
  v107 := Tryz.zeroValue155
  t119 := Tryz.underlying130
  a119 := Tryz.isAgg130
  z119 := Tryz.sizeOf130
  t127 := Tryz.underlying110
  a127 := Tryz.isAgg110
  z127 := Tryz.sizeOf110
  v127 := Tryz.zeroValue110
  t138 := Tryz.underlying132
  a138 := Tryz.isAgg132
  z138 := Tryz.sizeOf132
  v138 := Tryz.zeroValue132
  t139 := Tryz.underlying133
  a139 := Tryz.isAgg133
  z139 := Tryz.sizeOf133
  v139 := Tryz.zeroValue133
  t164 := Tryz.underlying127
  a164 := Tryz.isAgg127
  z164 := Tryz.sizeOf127
  v164 := Tryz.zeroValue127
  g3 := by kernel_rfl
  g4 := by kernel_rfl }
theorem Tryz.Builder_Extra_230 : Builder.Extra Tryz.prog Tryz.lays230_ren := {
  sizeBuilder := by kernel_rfl
  liesBuilder := by kernel_rfl
  t5 := Tryz.underlying5
  a5 := Tryz.isAgg5
  z5 := Tryz.sizeOf5
  v5 := Tryz.zeroValue5
  infoByte := by kernel_rfl
  cellsByte := by kernel_rfl
  sizeByte := by kernel_rfl
  neB5 := by decide }
open Go.RowKit Go.Lib in
theorem Tryz.strings_Map_runes (g : Nat) (lb : Array Value) (eg : ∀ args w, (callFunc g args).run Tryz.prog w = .ok (.enter g args) w) (f : Int → Int) (s : ByteArray) (w : World) (hs : s.size < 35184372088832) (hf : MapAtRunes Tryz.prog g lb f w) (hnn : ∀ x : Nat, x ≤ 1114111 → 0 ≤ f x ∧ f x ≤ 2147483647) (hT : Lib.Utf8Tabs 0 1 w) :
    Calls Tryz.prog 165 #[.func (.func g) #[] lb, .string s] w fun e w' => e = .returned (.string ⟨(Lib.mapD f s.data.toList).toArray⟩) ∧ Below w.heap.size w w' := Any.strings_Map_runes Tryz.lays230 Tryz.Builder_Extra_230 g lb eg f s w hs hf hnn hT
open Go.RowKit in
theorem Tryz.strings_TrimRight_laid (s cutset : ByteArray) (w : World) (hs : s.size ≤ 9223372036854775807) (hcs : cutset.size < 4294967281) (hascii : ∀ (j : Nat) b, cutset.data.toList[j]? = some b → b.toNat < 128) :
    Calls Tryz.prog 90 #[.string s, .string cutset] w fun e w' => e = .returned (.string ⟨(Lib.trimRightS s.data.toList cutset.data.toList).toArray⟩) ∧ Below w.heap.size w w' := Any.strings_TrimRight_laid Tryz.lays162 (by kernel_rfl) s cutset w hs hcs hascii
open Go.RowKit in
theorem Tryz.strings_Trim_laid (s cutset : ByteArray) (w : World) (hs : s.size ≤ 9223372036854775807) (hcs : cutset.size < 4294967281) (hascii : ∀ (j : Nat) b, cutset.data.toList[j]? = some b → b.toNat < 128) :
    Calls Tryz.prog 92 #[.string s, .string cutset] w fun e w' => e = .returned (.string ⟨(Lib.trimS s.data.toList cutset.data.toList).toArray⟩) ∧ Below w.heap.size w w' := Any.strings_Trim_laid Tryz.lays160 (by kernel_rfl) s cutset w hs hcs hascii
end Go.Proofs
namespace Go.Proofs
open Go.Shelf
def Tryz.lays219_ren : Go.Shelf.Ren := ⟨fun | 219 => 97 | 217 => 98 | 225 => 141 | 224 => 142 | 267 => 143 | 266 => 144 | 314 => 177 | n => n, fun | 9 => 9 | 20 => 20 | 3 => 3 | 4 => 4 | 5 => 5 | 46 => 111 | 146 => 165 | 51 => 136 | n => n, fun | 1 => 2 | n => n⟩
theorem Tryz.lays219 : Go.Proofs.Lays.n219 Tryz.prog Tryz.lays219_ren := {
  mixed := by kernel_rfl
  f217 := Tryz.func98.trans (congrArg some (by kernel_rfl))
  f219 := Tryz.func97.trans (congrArg some (by kernel_rfl))
  f224 := Tryz.func142.trans (congrArg some (by kernel_rfl))
  f225 := Tryz.func141.trans (congrArg some (by kernel_rfl))
  f266 := Tryz.func144.trans (congrArg some (by kernel_rfl))
  f267 := Tryz.func143.trans (congrArg some (by kernel_rfl))
  f314 := Tryz.func177.trans (congrArg some (by kernel_rfl))
  t3 := Tryz.underlying3
  a3 := Tryz.isAgg3
  z3 := Tryz.sizeOf3
  v3 := Tryz.zeroValue3
  t4 := Tryz.underlying4
  a4 := Tryz.isAgg4
  z4 := Tryz.sizeOf4
  v4 := Tryz.zeroValue4
  t5 := Tryz.underlying5
  a5 := Tryz.isAgg5
  z5 := Tryz.sizeOf5
  v5 := Tryz.zeroValue5
  t9 := Tryz.underlying9
  a9 := Tryz.isAgg9
  z9 := Tryz.sizeOf9
  v9 := Tryz.zeroValue9
  t46 := Tryz.underlying111
  a46 := Tryz.isAgg111
  z46 := Tryz.sizeOf111
  v46 := Tryz.zeroValue111
  t51 := Tryz.underlying136
  a51 := Tryz.isAgg136
  z51 := Tryz.sizeOf136
  v51 := Tryz.zeroValue136
  t146 := Tryz.underlying165
  a146 := Tryz.isAgg165
  z146 := Tryz.sizeOf165
  v146 := Tryz.zeroValue165
  g1 := by kernel_rfl }
open Go.RowKit Go.Lib in
theorem Tryz.stringslite_Index_one (s : ByteArray) (c : UInt8) (w : World) :
    Calls Tryz.prog 97 #[.string s, .string ⟨#[c]⟩] w fun e w' => e = .returned (.int .i64 (Lib.indexByte s.data.toList c)) ∧ w' = w := Any.stringslite_Index_one Tryz.lays219 s c w
def Tryz.lays150_ren : Go.Shelf.Ren := ⟨fun | 150 => 79 | 153 => 118 | 152 => 162 | 226 => 163 | 227 => 128 | 228 => 164 | 137 => 67 | 119 => 192 | 224 => 142 | 225 => 141 | 217 => 98 | 266 => 144 | n => n, fun | 9 => 9 | 20 => 20 | 4 => 4 | 3 => 3 | 5 => 5 | 21 => 21 | 117 => 140 | 116 => 139 | 0 => 0 | 46 => 111 | 124 => 143 | n => n, fun | n => n⟩
theorem Tryz.lays150 : Go.Proofs.Lays.n150 Tryz.prog Tryz.lays150_ren := {
  mixed := by kernel_rfl
  f119 := Tryz.func192.trans (congrArg some (by kernel_rfl))
  f137 := Tryz.func67.trans (congrArg some (by kernel_rfl))
  f150 := Tryz.func79.trans (congrArg some (by kernel_rfl))
  f152 := Tryz.func162.trans (congrArg some (by kernel_rfl))
  f153 := Tryz.func118.trans (congrArg some (by kernel_rfl))
  f217 := Tryz.func98.trans (congrArg some (by kernel_rfl))
  f224 := Tryz.func142.trans (congrArg some (by kernel_rfl))
  f225 := Tryz.func141.trans (congrArg some (by kernel_rfl))
  f226 := Tryz.func163.trans (congrArg some (by kernel_rfl))
  f227 := Tryz.func128.trans (congrArg some (by kernel_rfl))
  f228 := Tryz.func164.trans (congrArg some (by kernel_rfl))
  f266 := Tryz.func144.trans (congrArg some (by kernel_rfl))
  t0 := Tryz.underlying0
  a0 := Tryz.isAgg0
  z0 := Tryz.sizeOf0
  v0 := Tryz.zeroValue0
  t3 := Tryz.underlying3
  a3 := Tryz.isAgg3
  z3 := Tryz.sizeOf3
  v3 := Tryz.zeroValue3
  t4 := Tryz.underlying4
  a4 := Tryz.isAgg4
  z4 := Tryz.sizeOf4
  v4 := Tryz.zeroValue4
  t5 := Tryz.underlying5
  a5 := Tryz.isAgg5
  z5 := Tryz.sizeOf5
  v5 := Tryz.zeroValue5
  t9 := Tryz.underlying9
  a9 := Tryz.isAgg9
  z9 := Tryz.sizeOf9
  v9 := Tryz.zeroValue9
  t21 := Tryz.underlying21
  a21 := Tryz.isAgg21
  z21 := Tryz.sizeOf21
  v21 := Tryz.zeroValue21
  t46 := Tryz.underlying111
  a46 := Tryz.isAgg111
  z46 := Tryz.sizeOf111
  v46 := Tryz.zeroValue111
  t116 := Tryz.underlying139
  a116 := Tryz.isAgg139
  z116 := Tryz.sizeOf139
  t117 := Tryz.underlying140
  a117 := Tryz.isAgg140
  z117 := Tryz.sizeOf140
  v117 := Tryz.zeroValue140
  t124 := Tryz.underlying143
  a124 := Tryz.isAgg143
  z124 := Tryz.sizeOf143
  v124 := Tryz.zeroValue143 }
open Go.RowKit Go.Lib in
theorem Tryz.strings_ContainsAny_laid (s chars : ByteArray) (w : World) (hs : s.size < 4294967281) (hcs : chars.size < 4294967281) (has : ∀ (j : Nat) b, s.data.toList[j]? = some b → b.toNat < 128) (hac : ∀ (j : Nat) b, chars.data.toList[j]? = some b → b.toNat < 128) :
    Calls Tryz.prog 79 #[.string s, .string chars] w fun e w' => e = .returned (.bool (Lib.containsAny s.data.toList chars.data.toList)) ∧ Below w.heap.size w w' := Any.strings_ContainsAny_laid Tryz.lays150 (by kernel_rfl) s chars w hs hcs has hac
def Tryz.lays196_ren : Go.Shelf.Ren := ⟨fun | 196 => 83 | 259 => 120 | n => n, fun | 9 => 9 | 20 => 20 | 4 => 4 | 3 => 3 | 5 => 5 | 12 => 12 | 119 => 130 | 0 => 0 | 46 => 111 | 139 => 133 | 138 => 132 | 53 => 156 | n => n, fun | 3 => 0 | 4 => 1 | n => n⟩
theorem Tryz.lays196 : Go.Proofs.Lays.n196 Tryz.prog Tryz.lays196_ren := {
  mixed := by kernel_rfl
  f196 := Tryz.func83.trans (congrArg some (by kernel_rfl))
  f259 := Tryz.func120.trans (congrArg some (by kernel_rfl))
  t0 := Tryz.underlying0
  a0 := Tryz.isAgg0
  z0 := Tryz.sizeOf0
  v0 := Tryz.zeroValue0
  t3 := Tryz.underlying3
  a3 := Tryz.isAgg3
  z3 := Tryz.sizeOf3
  v3 := Tryz.zeroValue3
  t4 := Tryz.underlying4
  a4 := Tryz.isAgg4
  z4 := Tryz.sizeOf4
  v4 := Tryz.zeroValue4
  t5 := Tryz.underlying5
  a5 := Tryz.isAgg5
  z5 := Tryz.sizeOf5
  v5 := Tryz.zeroValue5
  t9 := Tryz.underlying9
  a9 := Tryz.isAgg9
  z9 := Tryz.sizeOf9
  v9 := Tryz.zeroValue9
  t12 := Tryz.underlying12
  a12 := Tryz.isAgg12
  z12 := Tryz.sizeOf12
  v12 := Tryz.zeroValue12
  t46 := Tryz.underlying111
  a46 := Tryz.isAgg111
  z46 := Tryz.sizeOf111
  v46 := Tryz.zeroValue111
  t53 := Tryz.underlying156
  a53 := Tryz.isAgg156
  z53 := Tryz.sizeOf156
  v53 := Tryz.zeroValue156
  t119 := Tryz.underlying130
  a119 := Tryz.isAgg130
  z119 := Tryz.sizeOf130
  t138 := Tryz.underlying132
  a138 := Tryz.isAgg132
  z138 := Tryz.sizeOf132
  v138 := Tryz.zeroValue132
  t139 := Tryz.underlying133
  a139 := Tryz.isAgg133
  z139 := Tryz.sizeOf133
  v139 := Tryz.zeroValue133
  g3 := by kernel_rfl
  g4 := by kernel_rfl }
open Go.RowKit in
theorem Tryz.utf8_ValidString (s : ByteArray) (w : World) (hs : s.size ≤ 9223372036854775807) (hT : Lib.Utf8Tabs 0 1 w) :
    Calls Tryz.prog 83 #[.string s] w fun e w' => e = .returned (.bool (Lib.validD s.data.toList)) ∧ Below w.heap.size w w' := Any.utf8_ValidString Tryz.lays196 s w hs hT
end Go.Proofs
namespace Go.Proofs.YtdinachiiimngaaGreatDoor
open Go.ChangeShapes Go.WideShapes Go.ChangeAt Go.RowKit
open TokP AdrP CtP

theorem index_first : ∀ (b r : List UInt8) (c : UInt8), c ∉ b → Lib.indexByte (b ++ c :: r) c = b.length
  | [], r, c, _ => by rw [List.nil_append, Lib.indexByte, if_pos (beq_self_eq_true c)]; rfl
  | d :: b, r, c, h => by
    simp only [List.mem_cons, not_or] at h
    rw [List.cons_append, Lib.indexByte, if_neg (by rw [beq_iff_eq]; exact fun e => h.1 e.symm), index_first b r c h.2]
    rw [if_neg (by rw [beq_iff_eq]; omega), List.length_cons]
    omega
theorem index_not : ∀ (b : List UInt8) (c : UInt8), c ∉ b → Lib.indexByte b c = -1
  | [], c, _ => rfl
  | d :: b, c, h => by
    simp only [List.mem_cons, not_or] at h
    rw [Lib.indexByte, if_neg (by rw [beq_iff_eq]; exact fun e => h.1 e.symm), index_not b c h.2]
    rfl
theorem split_first (l : List UInt8) (c : UInt8) (h : c ∈ l) : ∃ b r, l = b ++ c :: r ∧ c ∉ b := by
  induction l with
  | nil => exact absurd h (by simp)
  | cons d t ih =>
    by_cases e : d = c
    · exact ⟨[], t, by rw [e]; rfl, by simp⟩
    · obtain ⟨b, r, h1, h2⟩ := ih (by rcases List.mem_cons.1 h with h | h; exact absurd h.symm e; exact h)
      exact ⟨d :: b, r, by rw [h1]; rfl, by simp only [List.mem_cons, not_or]; exact ⟨fun x => e x.symm, h2⟩⟩
theorem drew_below (w : World) (n : Nat) : Below w.heap.size w (w.drewN n) := ⟨rfl, rfl, rfl, Nat.le_refl _, fun _ _ => rfl⟩
theorem cutlite_no (ch : UInt8) (s : ByteArray) (h : ch ∉ s.data.toList) (w : World) :
    Calls Tryz.prog 65 #[.string s, .string ⟨#[ch]⟩] w fun e w' => e = .returned (.tuple #[.string s, .string ⟨#[]⟩, .bool false]) ∧ Below w.heap.size w w' := by
  have cI := fun W => Tryz.stringslite_Index_one s ch W
  rw [index_not _ _ h] at cI
  clear h
  go_enter Tryz.func65, Tryz.ntmps65
  go_wp2_with (go_at_call 97; (refine (cI _).mono ?_); rintro e w1 ⟨rfl, rfl⟩)
  go_ret3
  exact ⟨rfl, Below.refl _ _⟩
theorem cutlite_yes (ch : UInt8) (s : ByteArray) (b r : List UInt8) (hs : s.data.toList = b ++ ch :: r) (h : ch ∉ b) (hz : s.size ≤ 4000000) (w : World) :
    Calls Tryz.prog 65 #[.string s, .string ⟨#[ch]⟩] w fun e w' => e = .returned (.tuple #[.string (strL b), .string (strL r), .bool true]) ∧ Below w.heap.size w w' := by
  have cI := fun W => Tryz.stringslite_Index_one s ch W
  rw [hs, index_first b r ch h] at cI
  have hsz := size_list s
  rw [hs, List.length_append, List.length_cons] at hsz
  obtain ⟨n, hn⟩ : ∃ n, b.length = n := ⟨_, rfl⟩
  rw [hn] at cI hsz
  have R1 := run_slice_to s n n rfl (by omega)
  have R2 := run_slice_from s (n + 1) ((n : Int) + 1) (by omega) (by omega)
  have e1 : s.extract 0 n = strL b := bytes_is (by rw [part_start s n (by omega), hs, strL_list, List.take_left' hn])
  have e2 : s.extract (n + 1) s.size = strL r := bytes_is (by rw [part_rest s (n + 1) (by omega), hs, strL_list, ← List.drop_drop, List.drop_left' hn]; rfl)
  rw [e1] at R1
  rw [e2] at R2
  have F1 : IntKind.i64.wrap ((n : Int) + 1) = (n : Int) + 1 := by rw [IntKind.wrap_i64]; omega
  have g0 : (0 : Int) ≤ (n : Int) := by omega
  generalize strL b = B at R1 ⊢
  generalize strL r = R at R2 ⊢
  clear h hs hn e1 e2 hsz hz
  go_enter Tryz.func65, Tryz.ntmps65
  go_wp2_with (go_at_call 97; (refine (cI _).mono ?_); rintro e w1 ⟨rfl, rfl⟩)
  go_quiet (fail)
  go_wp2_with fail
  go_ret3
  exact ⟨rfl, drew_below _ _⟩
theorem cut_no (ch : UInt8) (s : ByteArray) (h : ch ∉ s.data.toList) (w : World) :
    Calls Tryz.prog 30 #[.string s, .string ⟨#[ch]⟩] w fun e w' => e = .returned (.tuple #[.string s, .string ⟨#[]⟩, .bool false]) ∧ Below w.heap.size w w' := by
  have cI := fun W => cutlite_no ch s h W
  clear h
  go_enter Tryz.func30, Tryz.ntmps30
  go_wp2_with (go_at_call 65; (with_reducible refine (cI _).mono ?_); rintro e w1 ⟨rfl, hb1⟩)
  go_ret3
  exact ⟨rfl, hb1⟩
theorem cut_yes (ch : UInt8) (s : ByteArray) (b r : List UInt8) (hs : s.data.toList = b ++ ch :: r) (h : ch ∉ b) (hz : s.size ≤ 4000000) (w : World) :
    Calls Tryz.prog 30 #[.string s, .string ⟨#[ch]⟩] w fun e w' => e = .returned (.tuple #[.string (strL b), .string (strL r), .bool true]) ∧ Below w.heap.size w w' := by
  have cI := fun W => cutlite_yes ch s b r hs h hz W
  clear h hs
  go_enter Tryz.func30, Tryz.ntmps30
  go_wp2_with (go_at_call 65; (with_reducible refine (cI _).mono ?_); rintro e w1 ⟨rfl, hb1⟩)
  go_ret3
  exact ⟨rfl, hb1⟩
/-- strings.Cut in the words of the lists. -/
theorem cut_all (ch : UInt8) (s : ByteArray) (hz : s.size ≤ 4000000) (w : World) :
    Calls Tryz.prog 30 #[.string s, .string ⟨#[ch]⟩] w fun e w' => e = .returned (.tuple #[.string (strL (upC ch s.data.toList)), .string (strL (behind ch s.data.toList)), .bool (s.data.toList.contains ch)]) ∧ Below w.heap.size w w' := by
  by_cases h : ch ∈ s.data.toList
  · obtain ⟨b, r, hs, hb⟩ := split_first _ _ h
    obtain ⟨h1, h2⟩ := upC_at hb r
    rw [List.contains_iff_mem.2 h, hs, h1, h2]
    exact cut_yes ch s b r hs hb hz w
  · have h1 : upC ch s.data.toList = s.data.toList := by
      unfold upC
      have := List.takeWhile_append_of_pos (p := fun c => c != ch) (l₁ := s.data.toList) (l₂ := []) (fun c hc => by
        rw [bne_iff_ne]
        rintro rfl
        exact h hc)
      rw [List.append_nil, List.takeWhile_nil, List.append_nil] at this
      exact this
    have h2 : behind ch s.data.toList = [] := by
      unfold behind
      rw [h1, List.drop_eq_nil_of_le (by omega)]
    have h3 : s.data.toList.contains ch = false := by rw [← Bool.not_eq_true, List.contains_iff_mem]; exact h
    rw [h1, h2, h3, strL_of]
    exact cut_no ch s h w
/-! ### LastIndexByte -/
theorem at_bang (s : ByteArray) (j : Nat) (h : j < s.size) : s.data.toList[j]? = some (s.data[j]!) := by
  have hj : j < s.data.size := h
  rw [List.getElem?_eq_getElem (by rw [Array.length_toList]; exact hj), Array.getElem_toList, getElem!_pos s.data j hj]
theorem last_no (l : List UInt8) (h : 42 ∉ l) : Lib.lastIndexByte (strL l) 42 = -1 := by
  rcases Lib.lastIndexByte_spec (strL l) 42 with ⟨e, _⟩ | ⟨i, hi, _, hc, _⟩
  · exact e
  · have := at_bang (strL l) i hi
    rw [strL_list] at this
    have hm := List.mem_of_getElem? this
    rw [show ((strL l).data[i]!) = 42 from UInt8.toNat_inj.1 (by rw [show (42 : UInt8).toNat = 42 from rfl]; omega)] at hm
    exact absurd hm h
theorem last_yes (l : List UInt8) (h : 42 ∈ l) : ∃ x y, l = x ++ 42 :: y ∧ 42 ∉ y ∧ Lib.lastIndexByte (strL l) 42 = x.length := by
  rcases Lib.lastIndexByte_spec (strL l) 42 with ⟨_, hn⟩ | ⟨i, hi, e, hc, hn⟩
  · obtain ⟨i, hi, he⟩ := List.getElem_of_mem h
    have hiz : i < (strL l).size := by rw [strL_size]; exact hi
    have h1 := at_bang (strL l) i hiz
    rw [strL_list, List.getElem?_eq_getElem hi, he] at h1
    have := hn i hiz
    rw [← Option.some.inj h1] at this
    exact absurd rfl this
  · have h1 := at_bang (strL l) i hi
    rw [strL_list] at h1
    have h60 : (strL l).data[i]! = 42 := UInt8.toNat_inj.1 (by rw [show (42 : UInt8).toNat = 42 from rfl]; omega)
    rw [h60] at h1
    have hil : i < l.length := by rw [← strL_size l]; exact hi
    refine ⟨l.take i, l.drop (i + 1), ?_, ?_, ?_⟩
    · rw [← cons_at l i 42 h1, List.take_append_drop]
    · intro hm
      obtain ⟨j, hj, he⟩ := List.getElem_of_mem hm
      rw [List.getElem_drop] at he
      rw [List.length_drop] at hj
      have hjz : i + 1 + j < (strL l).size := by rw [strL_size]; omega
      have h2 := at_bang (strL l) (i + 1 + j) hjz
      rw [strL_list, List.getElem?_eq_getElem (by omega), he] at h2
      have := hn (i + 1 + j) (by omega) hjz
      rw [← Option.some.inj h2] at this
      exact this rfl
    · rw [e, List.length_take]; omega
end Go.Proofs.YtdinachiiimngaaGreatDoor
namespace Go.Proofs.YtdinachiiimngaaGreatDoor.Nu
open Go.ChangeShapes Go.WideShapes Go.ChangeAt Go.RowKit

theorem var_below {w w' : World} (hb : Below w.heap.size w w') {name : String} {v : Array Value} (h : w.var? Tryz.prog name = some v) : w'.var? Tryz.prog name = some v := by
  unfold World.var? at *
  cases hg : Tryz.prog.globalNamed name with
  | none => simp [hg] at h
  | some g =>
    simp only [hg, Option.bind_some] at h ⊢
    have hlt : g < w.heap.size := by
      rcases Nat.lt_or_ge g w.heap.size with h' | h'
      · exact h'
      · rw [Array.getElem?_eq_none h'] at h; simp at h
    rw [hb.block g hlt]
    exact h

theorem below_grow (B : Nat) (w : World) (hB : B ≤ w.heap.size) (k : Nat) (os : Array Obj) : Below B w (Sort.grow (w.drewN k) os) :=
  ⟨rfl, rfl, rfl, by simp, fun j hj => (Sort.heap_grow_old (w.drewN k) os (by simpa using Nat.lt_of_lt_of_le hj hB))⟩

/-- What the library reads of its package-level variables. -/
structure Vars (w : World) : Prop where
  tab : Lib.TabIs Tryz.prog w "internal/strconv.uint64pow10" .u64 Lib.pow10Tab
  syn : ∃ tp p, w.var? Tryz.prog "strconv.ErrSyntax" = some #[.iface tp p]
  rng : ∃ tp p, w.var? Tryz.prog "strconv.ErrRange" = some #[.iface tp p]

theorem Vars.below {w w' : World} (h : Vars w) (hb : Below w.heap.size w w') : Vars w' := by
  obtain ⟨t, ⟨a, b, s⟩, ⟨c, d, r⟩⟩ := h
  exact ⟨var_below hb t, ⟨a, b, var_below hb s⟩, ⟨c, d, var_below hb r⟩⟩


theorem text_any (n : Int) (h0 : -9223372036854775808 ≤ n) (h1 : n ≤ 9223372036854775807) (w : World) (hv : Vars w) :
    Calls Tryz.prog 23 #[.int .i64 n] w fun e w' => e = .returned (.string ⟨(Lib.itoa n).toArray⟩) ∧ Below w.heap.size w w' := by
  have ht := hv.tab
  go_enter Tryz.func23, Tryz.ntmps23
  go_wp2_with (go_at_call 51; refine (Tryz.strconv_Itoa n h0 h1 _ ht).mono ?_; rintro e w' ⟨rfl, k, os, rfl⟩)
  go_ret
  exact ⟨rfl, below_grow _ _ (Nat.le_refl _) _ _⟩
end Go.Proofs.YtdinachiiimngaaGreatDoor.Nu
namespace Go.Proofs.YtdinachiiimngaaGreatDoor.Nu
open Go.ChangeShapes Go.WideShapes Go.ChangeAt Go.RowKit

def isDig (c : UInt8) : Bool := decide (48 ≤ c.toNat ∧ c.toNat ≤ 57)
/-- Is l the canonical decimal form of an integer of any size? -/
def canL (l : List UInt8) : Bool :=
  let d := Lib.trimPrefix l [45]
  if d = [] then false else if d.head? = some 48 then decide (l = [48]) else d.all isDig

theorem run_next_any {P : Program} (w : World) (s : ByteArray) (pos : Nat) (ty : TypeId) (h : pos < s.size) :
    (Instr.next (.pointer (some ⟨w.heap.size, 0, none⟩)) true ty).run P (w.iter s pos) =
      .ok (.tuple #[.bool true, .int .i64 pos, .int .i32 ((Utf8.decode s pos).1 : Int)]) (w.iter s (pos + (Utf8.decode s pos).2)) := by
  simp only [Instr.next, getObj, setObj, Sem.run_bind, Sem.run, World.iter_heap, Result.andThen, h, if_true, World.iter_set]
  simp [goInt]

theorem decode_big (s : ByteArray) (pos : Nat) (h : pos < s.size) (ha : ¬ (s[pos]'h).toNat < 128) : 128 ≤ (Utf8.decode s pos).1 := by
  have e : s.get! (pos + 0) = s[pos]'h := by
    show s.get! pos = _
    simp [ByteArray.get!, getElem!_pos, h]
    rfl
  simp only [Utf8.decode, e, ha, if_false]
  (repeat' split) <;> first | (simp only [Utf8.runeError]; omega) | (dsimp only; omega) | (rename_i h1; simp only [Bool.and_eq_true, decide_eq_true_eq] at h1; dsimp only; omega)

/-- Where an iterator stands. -/
def iterPos (w : World) (b : Nat) : Nat := match w.heap[b]? with | some (.stringIter _ p) => p | _ => 0
theorem iterPos_iter (w : World) (s : ByteArray) (p : Nat) : iterPos (w.iter s p) w.heap.size = p := by
  unfold iterPos; rw [World.iter_heap]
theorem below_iter (w : World) (s : ByteArray) (p : Nat) : Below w.heap.size w (w.iter s p) := (Below.refl _ _).alloc (Nat.le_refl _) _
theorem mem_byte (s : ByteArray) (k : Nat) (h : k < s.size) : s[k] ∈ s.data.toList := by
  have := List.getElem_mem (l := s.data.toList) (n := k) (by simpa using h)
  exact this

theorem NH {d : ByteArray} (hpos : 0 < d.size) (hh : d.data.toList.head? = some d[0]) (h : ¬ d[0].toNat = 48) : ¬ d.data.toList.head? = some 48 := by
  rw [hh]; intro e; injection e with e; rw [e] at h; exact h rfl
theorem all_false {d : ByteArray} {p : Nat} (h : p < d.size) (hb : isDig d[p] = false) : d.data.toList.all isDig = false := by
  rw [Bool.eq_false_iff]
  intro hh
  have := List.all_eq_true.1 hh _ (mem_byte d p h)
  rw [hb] at this; cases this
theorem all_true {d : ByteArray} (hb : ∀ k (_ : k < d.size) (h : k < d.size), isDig d[k] = true) : d.data.toList.all isDig = true := by
  rw [List.all_eq_true]
  intro x hx
  obtain ⟨k, hk, rfl⟩ := List.getElem_of_mem hx
  have hk' : k < d.size := by rw [Array.length_toList] at hk; exact hk
  exact hb k hk' hk'

theorem canonical_any (s : ByteArray) (_hs : s.size ≤ 4000000) (w : World) :
    Calls Tryz.prog 149 #[.string s] w fun e w' => e = .returned (.bool (canL s.data.toList)) ∧ Below w.heap.size w w' := by
  obtain ⟨d, hd⟩ : ∃ d : ByteArray, d = ⟨(Lib.trimPrefix s.data.toList [45]).toArray⟩ := ⟨_, rfl⟩
  have hT := Tryz.strings_TrimPrefix s ⟨#[45]⟩ w
  rw [show ((⟨#[45]⟩ : ByteArray).data.toList) = [45] from rfl, ← hd] at hT
  have HT := Lib.hid hT
  have HD := Lib.hid hd
  clear hT hd
  have hcan : canL s.data.toList = if d.data.toList = [] then false else if d.data.toList.head? = some 48 then decide (s.data.toList = [48]) else d.data.toList.all isDig := by
    rw [HD.out]; rfl
  have HC := Lib.hid hcan
  clear hcan
  by_cases h0 : d.size = 0
  · have e0 : d.data.toList = [] := List.eq_nil_of_length_eq_zero (by rw [Array.length_toList]; exact h0)
    have e1 : d.toList.isEmpty = true := by rw [ByteArray.toList_eq, e0]; rfl
    have HE := Lib.hid e0
    clear e0 h0
    go_enter Tryz.func149, Tryz.ntmps149
    go_wp2_with (go_at_call 178; refine HT.out.mono ?_; rintro e w1 ⟨rfl, rfl⟩)
    go_ret
    exact ⟨by rw [HC.out, if_pos HE.out]; rfl, Below.refl _ _⟩
  · have hpos : 0 < d.size := by omega
    have hne : d.data.toList ≠ [] := List.ne_nil_of_length_pos (by rw [Array.length_toList]; exact hpos)
    have e1 : d.toList.isEmpty = false := by rw [ByteArray.toList_eq, List.isEmpty_eq_false_iff]; exact hne
    have hhd : d.data.toList.head? = some d[0] := by
      rw [List.head?_eq_getElem?, List.getElem?_eq_getElem (by rw [Array.length_toList]; exact hpos)]; rfl
    have HN := Lib.hid hne
    have HH := Lib.hid hhd
    clear hne hhd
    by_cases h48 : d[0].toNat = 48
    · have e2 : ((d[0].toNat : Int) == 48) = true := beq_iff_eq.2 (by omega)
      have H48 := Lib.hid h48
      clear h48
      go_enter Tryz.func149, Tryz.ntmps149
      go_wp2_with (go_at_call 178; refine HT.out.mono ?_; rintro e w1 ⟨rfl, rfl⟩)
      go_ret
      refine ⟨?_, Below.refl _ _⟩
      rw [HC.out, if_neg HN.out, if_pos (by rw [HH.out]; congr 1; exact UInt8.toNat_inj.1 H48.out)]
      refine congrArg (fun b => Ending.returned (.bool b)) ?_
      show (s.toList == [48]) = _
      rw [ByteArray.toList_eq, Bool.eq_iff_iff]; simp
    · have e2 : ((d[0].toNat : Int) == 48) = false := beq_eq_false_iff_ne.2 (by omega)
      have H48 := Lib.hid h48
      clear h48
      go_enter Tryz.func149, Tryz.ntmps149
      go_wp2_with (go_at_call 178; refine HT.out.mono ?_; rintro e w1 ⟨rfl, rfl⟩)
      go_loopw [5] (fun c wr => ∃ p : Nat, p ≤ d.size ∧ wr = w1.iter d p ∧ Hid (∀ k (hk : k < p) (h : k < d.size), isDig d[k] = true)) (fun c wr => d.size - iterPos wr w1.heap.size)
      case atStart => exact ⟨0, Nat.zero_le _, rfl, fun k hk => by omega⟩
      case round =>
        obtain ⟨p, hp, rfl, hall⟩ := hrel
        by_cases hlt : p < d.size
        · by_cases h128 : d[p].toNat < 128
          · have hnx := fun ty => run_next_ascii (P := Tryz.prog) w1 d p ty hlt h128
            by_cases hdig : 48 ≤ (d[p].toNat : Int) ∧ (d[p].toNat : Int) ≤ 57
            · obtain ⟨ha, hb⟩ := hdig
              go_wp2_with fail
              refine ⟨⟨p + 1, by omega, rfl, ?_⟩, by rw [iterPos_iter, iterPos_iter]; omega⟩
              intro k hk h
              by_cases he : k = p
              · subst he; simp only [isDig, decide_eq_true_eq]; omega
              · exact hall.out k (by omega) h
            · have hbad : isDig d[p] = false := by simp only [isDig, decide_eq_false_iff_not]; omega
              have HB := Lib.hid (all_false hlt hbad)
              clear hbad
              rcases (show (d[p].toNat : Int) < 48 ∨ (48 ≤ (d[p].toNat : Int) ∧ 57 < (d[p].toNat : Int)) by omega) with hx | ⟨hx, hy⟩
              all_goals
                go_wp2_with fail
                go_ret
                exact ⟨by rw [HC.out, if_neg HN.out, if_neg (NH hpos HH.out H48.out), HB.out]; rfl, below_iter _ _ _⟩
          · have hnx := fun ty => run_next_any (P := Tryz.prog) w1 d p ty hlt
            have h57 : 57 < ((Utf8.decode d p).1 : Int) := by have := decode_big d p hlt h128; omega
            have HB := Lib.hid (all_false hlt (by simp only [isDig, decide_eq_false_iff_not]; omega))
            go_wp2_with fail
            go_ret
            exact ⟨by rw [HC.out, if_neg HN.out, if_neg (NH hpos HH.out H48.out), HB.out]; rfl, below_iter _ _ _⟩
        · have hnx := fun ty => run_next_end (P := Tryz.prog) w1 d p ty hlt
          have HB := Lib.hid (all_true (d := d) (fun k _ h => hall.out k (by omega) h))
          go_wp2_with fail
          go_ret
          exact ⟨by rw [HC.out, if_neg HN.out, if_neg (NH hpos HH.out H48.out), HB.out]; rfl, below_iter _ _ _⟩
end Go.Proofs.YtdinachiiimngaaGreatDoor.Nu
namespace Go.Proofs.YtdinachiiimngaaGreatDoor.Nu
open Go.ChangeShapes Go.WideShapes Go.ChangeAt Go.RowKit

/-- The integer that l spells in canonical form. -/
def parseV (l : List UInt8) : Option Int := if canL l = true then (match Lib.atoiAll l with | .ok v => some v | _ => none) else none
/-- The same, within bounds. -/
def parseIn (l : List UInt8) (lo hi : Int) : Option Int := match parseV l with | some v => if lo ≤ v ∧ v ≤ hi then some v else none | none => none
theorem parseIn_none {l : List UInt8} {lo hi : Int} (h : parseV l = none) : parseIn l lo hi = none := by rw [parseIn, h]
theorem parseIn_some {l : List UInt8} {lo hi v : Int} (h : parseV l = some v) (h1 : lo ≤ v) (h2 : v ≤ hi) : parseIn l lo hi = some v := by
  simp only [parseIn, h]; rw [if_pos ⟨h1, h2⟩]
theorem parseIn_out {l : List UInt8} {lo hi v : Int} (h : parseV l = some v) (h1 : v < lo ∨ hi < v) : parseIn l lo hi = none := by
  simp only [parseIn, h]; rw [if_neg (by omega)]

/-- What a parse answers. -/
def Ans (o : Option Int) (e : Ending) : Prop := e = .returned (.tuple #[.int .i64 (o.getD 0), .bool o.isSome])

theorem parse_no (s : ByteArray) (lo hi : Int) (hs : s.size ≤ 4000000) (w : World) (hc : canL s.data.toList = false) :
    Calls Tryz.prog 105 #[.string s, .int .i64 lo, .int .i64 hi] w fun e w' => Ans (parseIn s.data.toList lo hi) e ∧ Below w.heap.size w w' := by
  have hp : parseIn s.data.toList lo hi = none := parseIn_none (by rw [parseV, hc]; rfl)
  rw [hp]
  have hT := canonical_any s hs w
  rw [hc] at hT
  have HT := Lib.hid hT
  clear hT hp hc
  go_enter Tryz.func105, Tryz.ntmps105
  go_wp2_with (go_at_call 149; refine HT.out.mono ?_; rintro e w1 ⟨rfl, hb⟩)
  go_ret2
  exact ⟨rfl, hb⟩
theorem bytes_below (w w' : World) (e : TypeId) (h : w' = w ∨ ∃ t, w' = Lib.bytesWorld w e t) : Below w.heap.size w w' := by
  rcases h with rfl | ⟨t, rfl⟩
  · exact Below.refl _ _
  · exact Lib.bytesWorld_below _ _ _
theorem parse_ok (s : ByteArray) (lo hi v : Int) (hs : s.size ≤ 4000000) (w : World) (hc : canL s.data.toList = true) (ha : Lib.atoiAll s.data.toList = .ok v) :
    Calls Tryz.prog 105 #[.string s, .int .i64 lo, .int .i64 hi] w fun e w' => Ans (parseIn s.data.toList lo hi) e ∧ Below w.heap.size w w' := by
  have hV : parseV s.data.toList = some v := by simp only [parseV, hc, ha, if_true]
  have hT := canonical_any s hs w
  rw [hc] at hT
  have HT := Lib.hid hT
  have HA := Lib.hid (fun W => Tryz.strconv_Atoi_ok s (by omega) v ha W)
  have HV := Lib.hid hV
  clear hT hc ha hV
  by_cases h1 : v < lo
  · have HP := Lib.hid (parseIn_out (hi := hi) HV.out (.inl h1))
    go_enter Tryz.func105, Tryz.ntmps105
    go_wp2_with (first
      | (go_at_call 149; refine HT.out.mono ?_; rintro e w1 ⟨rfl, hb⟩)
      | (go_at_call 150; refine (HA.out _).mono ?_; rintro e w2 ⟨rfl, hb2⟩))
    go_ret2
    rw [HP.out]
    exact ⟨rfl, hb.trans ((bytes_below _ _ _ hb2).mono hb.size)⟩
  · by_cases h2 : hi < v
    · have HP := Lib.hid (parseIn_out (lo := lo) HV.out (.inr h2))
      go_enter Tryz.func105, Tryz.ntmps105
      go_wp2_with (first
        | (go_at_call 149; refine HT.out.mono ?_; rintro e w1 ⟨rfl, hb⟩)
        | (go_at_call 150; refine (HA.out _).mono ?_; rintro e w2 ⟨rfl, hb2⟩))
      go_ret2
      rw [HP.out]
      exact ⟨rfl, hb.trans ((bytes_below _ _ _ hb2).mono hb.size)⟩
    · have h1' : lo ≤ v := by omega
      have h2' : v ≤ hi := by omega
      have HP := Lib.hid (parseIn_some HV.out h1' h2')
      go_enter Tryz.func105, Tryz.ntmps105
      go_wp2_with (first
        | (go_at_call 149; refine HT.out.mono ?_; rintro e w1 ⟨rfl, hb⟩)
        | (go_at_call 150; refine (HA.out _).mono ?_; rintro e w2 ⟨rfl, hb2⟩))
      go_ret2
      rw [HP.out]
      exact ⟨rfl, hb.trans ((bytes_below _ _ _ hb2).mono hb.size)⟩
theorem parse_wrong (s : ByteArray) (lo hi : Int) (hs : s.size ≤ 4000000) (w : World) (hv : Vars w) (hc : canL s.data.toList = true) (ha : Lib.atoiAll s.data.toList = Lib.atoiAll []) :
    Calls Tryz.prog 105 #[.string s, .int .i64 lo, .int .i64 hi] w fun e w' => Ans (parseIn s.data.toList lo hi) e ∧ Below w.heap.size w w' := by
  have hV : parseV s.data.toList = none := by simp only [parseV, hc, ha, if_true]; rfl
  have HP := Lib.hid (parseIn_none (lo := lo) (hi := hi) hV)
  have hT := canonical_any s hs w
  rw [hc] at hT
  have HT := Lib.hid hT
  obtain ⟨tp, p, hs2⟩ := hv.syn
  have HA := Lib.hid (fun W hW => Tryz.strconv_Atoi_syntax_var s (by omega) ha tp p W hW)
  have HS := Lib.hid hs2
  clear hT hc ha hV hs2 hv
  go_enter Tryz.func105, Tryz.ntmps105
  go_wp2_with (first
    | (go_at_call 149; refine HT.out.mono ?_; rintro e w1 ⟨rfl, hb⟩)
    | (go_at_call 150; refine (HA.out _ (var_below hb HS.out)).mono ?_; rintro e w2 ⟨N, rfl, _, _, hb2⟩))
  go_ret2
  rw [HP.out]
  exact ⟨rfl, hb.trans (hb2.mono hb.size)⟩
theorem parse_range (s : ByteArray) (lo hi : Int) (hs : s.size ≤ 4000000) (w : World) (hv : Vars w) (hc : canL s.data.toList = true) (ha : Lib.atoiAll s.data.toList = .range) :
    Calls Tryz.prog 105 #[.string s, .int .i64 lo, .int .i64 hi] w fun e w' => Ans (parseIn s.data.toList lo hi) e ∧ Below w.heap.size w w' := by
  have hV : parseV s.data.toList = none := by simp only [parseV, hc, ha, if_true]
  have HP := Lib.hid (parseIn_none (lo := lo) (hi := hi) hV)
  have hT := canonical_any s hs w
  rw [hc] at hT
  have HT := Lib.hid hT
  obtain ⟨tp, p, hs2⟩ := hv.rng
  have HA := Lib.hid (fun W hW => Tryz.strconv_Atoi_range_var s (by omega) ha tp p W hW)
  have HS := Lib.hid hs2
  clear hT hc ha hV hs2 hv
  go_enter Tryz.func105, Tryz.ntmps105
  go_wp2_with (first
    | (go_at_call 149; refine HT.out.mono ?_; rintro e w1 ⟨rfl, hb⟩)
    | (go_at_call 150; refine (HA.out _ (var_below hb HS.out)).mono ?_; rintro e w2 ⟨N, rfl, _, _, hb2⟩))
  go_ret2
  rw [HP.out]
  exact ⟨rfl, hb.trans (hb2.mono hb.size)⟩
theorem parse_any (s : ByteArray) (lo hi : Int) (hs : s.size ≤ 4000000) (w : World) (hv : Vars w) :
    Calls Tryz.prog 105 #[.string s, .int .i64 lo, .int .i64 hi] w fun e w' => Ans (parseIn s.data.toList lo hi) e ∧ Below w.heap.size w w' := by
  cases hc : canL s.data.toList with
  | false => exact parse_no s lo hi hs w hc
  | true =>
    cases ha : Lib.atoiAll s.data.toList with
    | ok v => exact parse_ok s lo hi v hs w hc ha
    | range => exact parse_range s lo hi hs w hv hc ha
    | _ => exact parse_wrong s lo hi hs w hv hc ha
end Go.Proofs.YtdinachiiimngaaGreatDoor.Nu
namespace Go.Proofs.YtdinachiiimngaaGreatDoor.Nu
open Go.ChangeShapes Go.WideShapes Go.ChangeAt Go.RowKit

theorem step_append_fits {P : Program} {ops : Array Oper} {o : Oper} {a : Act} {w : World} {K : Act → World → Prop} {Q : Exit → Act → World → Prop} {E : Prop}
    (hg : o.guard = none) (s x : Operand) (t : TypeId) (hop : o.op = Op.call { callee := Callee.builtin Builtin.append, args := #[s, x], argTypes := #[t, t] })
    (base : Nat) (e : TypeId) (i : TypeInfo) (size : Nat) (h1 : P.underlying t = some (.slice e)) (h2 : P.info? e = some i) (h4 : i.size = size)
    (g k cap : Nat) (xs : List Value) (hs : a.eval s = .slice (some ⟨g, 0, none⟩) k cap) (hown : w.ownsRow base e size (.slice (some ⟨g, 0, none⟩) k cap) k xs) (ad : Addr) (m c : Nat) (news : List Value) (hx : a.eval x = .slice (some ad) m c) (hn : news.length = m * size)
    (hc : ∀ j u, news[j]? = some u → w.cell? (ad.add j) = some u) (h1c : ∀ u ∈ news, u.oneCell' = true) (b1 : k + m ≤ cap)
    (hK : ∀ w', w'.ownsRow base e size (.slice (some ⟨g, 0, none⟩) (k + m) cap) (k + m) (xs ++ news) → w.grownBy w' (some g) → K (a.put o.dst (.slice (some ⟨g, 0, none⟩) (k + m) cap)) w') :
    if Region.wanted o (yielded ops a.tmps) = true then Oper.wp P o a w K Q else E := by
  have hw : Region.wanted o (yielded ops a.tmps) = true := by simp [Region.wanted, hg]
  rw [if_pos hw]
  obtain ⟨w', hrun, r1, r2⟩ := run_append_fits (P := P) w base t o.type e i size h1 h2 h4 g k cap xs hown ad m c news hn hc h1c b1
  unfold Oper.wp
  simp [execOp, hop, resolve, invoke, builtin, hs, hx, hrun, Result.andThen]
  exact hK w' r1 r2
theorem step_append_own {P : Program} {ops : Array Oper} {o : Oper} {a : Act} {w : World} {K : Act → World → Prop} {Q : Exit → Act → World → Prop} {E : Prop}
    (hg : o.guard = none) (s x : Operand) (t : TypeId) (hop : o.op = Op.call { callee := Callee.builtin Builtin.append, args := #[s, x], argTypes := #[t, t] })
    (base : Nat) (e : TypeId) (i : TypeInfo) (z : Value) (size bytes : Nat) (h1 : P.underlying t = some (.slice e)) (h2 : P.info? e = some i) (h3 : i.zero = some z) (h4 : i.size = size) (h5 : i.bytes = bytes) (h6 : z.cells.size = size) (h7 : 0 < size)
    (v : Value) (n : Nat) (xs : List Value) (hs : a.eval s = v) (hown : w.ownsRow base e size v n xs) (ad : Addr) (m c : Nat) (news : List Value) (hx : a.eval x = .slice (some ad) m c) (hn : news.length = m * size)
    (hc : ∀ j u, news[j]? = some u → w.cell? (ad.add j) = some u) (h1c : ∀ u ∈ news, u.oneCell' = true) (b1 : n + m ≤ maxLen) (b2 : (n + m) * bytes ≤ 140737488355328) (hb : base ≤ w.heap.size)
    (hK : ∀ v' w', w'.ownsRow base e size v' (n + m) (xs ++ news) → w.grownBy w' v.ownBlock → K (a.put o.dst v') w') :
    if Region.wanted o (yielded ops a.tmps) = true then Oper.wp P o a w K Q else E := by
  have hw : Region.wanted o (yielded ops a.tmps) = true := by simp [Region.wanted, hg]
  rw [if_pos hw]
  obtain ⟨v', w', hrun, r1, r2, _⟩ := run_append_own (P := P) w base t o.type e i z size bytes h1 h2 h3 h4 h5 h6 h7 v n xs hown ad m c news hn hc h1c b1 b2 hb
  unfold Oper.wp
  simp [execOp, hop, resolve, invoke, builtin, hs, hx, hrun, Result.andThen]
  exact hK v' w' r1 r2

theorem info5 : (Tryz.prog.info? 5).map (fun i => (i.zero, i.size, i.bytes)) = some (some (.int .u8 0), 1, 1) := by kernel_rfl

/-- The hexadecimal digit of n. -/
def hexD (n : Nat) : UInt8 := [48, 49, 50, 51, 52, 53, 54, 55, 56, 57, 97, 98, 99, 100, 101, 102].getD n 0
/-- Two digits a byte. -/
def hexL (l : List UInt8) : List UInt8 := l.flatMap fun c => [hexD (c.toNat / 16), hexD (c.toNat % 16)]
theorem hexL_length (l : List UInt8) : (hexL l).length = 2 * l.length := by
  unfold hexL
  induction l with
  | nil => rfl
  | cons c l ih => rw [List.flatMap_cons, List.length_append, ih]; simp; omega

theorem hexD_get : ∀ n : Fin 16, (#[48, 49, 50, 51, 52, 53, 54, 55, 56, 57, 97, 98, 99, 100, 101, 102] : Array UInt8)[n.val]? = some (hexD n.val) := by decide
theorem run_digit (x : Int) (n : Nat) (hx : x = n) (h1 : n < 16) (W : World) :
    (Instr.index 9 (.string ⟨#[48, 49, 50, 51, 52, 53, 54, 55, 56, 57, 97, 98, 99, 100, 101, 102]⟩) (.int .u8 x)).run Tryz.prog W = .ok (.int .u8 ((hexD n).toNat : Int)) W := by
  subst hx
  have h : n = 0 ∨ n = 1 ∨ n = 2 ∨ n = 3 ∨ n = 4 ∨ n = 5 ∨ n = 6 ∨ n = 7 ∨ n = 8 ∨ n = 9 ∨ n = 10 ∨ n = 11 ∨ n = 12 ∨ n = 13 ∨ n = 14 ∨ n = 15 := by omega
  rcases h with rfl | rfl | rfl | rfl | rfl | rfl | rfl | rfl | rfl | rfl | rfl | rfl | rfl | rfl | rfl | rfl <;> (show _ = _; kernel_rfl)

def cellsOf (l : List UInt8) : List Value := l.map fun c => Value.int .u8 c.toNat
theorem cellsOf_one (l : List UInt8) : ∀ u ∈ cellsOf l, u.oneCell' = true := by
  intro u hu
  obtain ⟨c, _, rfl⟩ := List.mem_map.1 hu
  rfl
theorem bytes_new (w : World) (l : List UInt8) : ∀ j u, (cellsOf l)[j]? = some u → (w.alloc (.cells (cellsOf l).toArray 5)).cell? ((⟨w.heap.size, 0, none⟩ : Addr).add j) = some u := by
  intro j u h
  have := World.cell?_alloc_mark w (cellsOf l).toArray 5 (0, 0) j
  have e : (⟨w.heap.size, 0, none⟩ : Addr).add j = ⟨w.heap.size, j, none⟩ := by
    simp only [Addr.add, Nat.zero_add]
    split
    · rename_i hj; rw [hj]
    · rfl
  rw [e, this, List.getElem?_toArray]; exact h
theorem bytes_new2 (w : World) (x y : UInt8) : ∀ j u, (cellsOf [x, y])[j]? = some u → (w.alloc (.cells #[.int .u8 x.toNat, .int .u8 y.toNat] 5)).drew.cell? ((⟨w.heap.size, 0, none⟩ : Addr).add j) = some u := bytes_new w [x, y]
theorem conv_own {w : World} {base b n cap : Nat} {l : List UInt8} (hl : l.length = n) (hown : w.ownsRow base 5 1 (.slice (some ⟨b, 0, none⟩) n cap) n (cellsOf l)) :
    (convert 59 9 (.slice (some ⟨b, 0, none⟩) n cap)).run Tryz.prog w = .ok (.string ⟨l.toArray⟩) w := by
  subst hl
  refine run_convert_bytes_back w 59 9 5 ⟨b, 0, none⟩ cap l Tryz.underlying59 Tryz.underlying5 Tryz.underlying9 fun j hj => ?_
  refine hown.cells (g := b) rfl j _ ?_
  unfold cellsOf
  rw [List.getElem?_map, List.getElem?_eq_getElem hj]; rfl
theorem hexL_snoc (s : ByteArray) (k : Nat) (h : k < s.size) : hexL (s.data.toList.take (k + 1)) = hexL (s.data.toList.take k) ++ [hexD (s[k].toNat / 16), hexD (s[k].toNat % 16)] := by
  have : s.data.toList.take (k + 1) = s.data.toList.take k ++ [s[k]] := by
    rw [List.take_succ_eq_append_getElem (by simpa using h)]; rfl
  rw [this]; unfold hexL
  rw [List.flatMap_append]; rfl

theorem hex_any (s : ByteArray) (hs : s.size ≤ 1000) (w : World) :
    Calls Tryz.prog 52 #[.string s] w fun e w' => e = .returned (.string ⟨(hexL s.data.toList).toArray⟩) ∧ Below w.heap.size w w' := by
  obtain ⟨i0, hi, hz0, hz1, hz2⟩ := info_parts info5
  go_enter Tryz.func52, Tryz.ntmps52
  go_wp2_with (at_make; refine wpList_make_own _ rfl _ _ 59 rfl w.heap.size 5 i0 (.int .u8 0) 1 Tryz.underlying59 hi hz0 hz1 _ _ _ (2 * s.size) rfl rfl (by omega) ?b1 ?b2 ?b3 ?_)
  case b1 => rw [hz2]; omega
  case b2 => unfold maxLen; omega
  case b3 => exact Nat.le_refl _
  intro w1 hown hgrow
  go_wp2_with fail
  go_loopw [3, 11] (fun v i wr => ∃ k : Nat, k ≤ s.size ∧ i = .int .i64 k ∧ v = .slice (some ⟨w.heap.size, 0, none⟩) (2 * k) (2 * s.size) ∧
      wr.ownsRow w.heap.size 5 1 (.slice (some ⟨w.heap.size, 0, none⟩) (2 * k) (2 * s.size)) (2 * k) (cellsOf (hexL (s.data.toList.take k))) ∧ Below w.heap.size w wr)
    (fun _ i _ => s.size - (intOf i).toNat)
  case atStart => exact ⟨0, Nat.zero_le _, rfl, rfl, hown, (Below.refl _ _).grown hgrow (Nat.le_refl _) (fun k h => by cases h)⟩
  case round =>
    clear hown hgrow
    obtain ⟨k, hk, rfl, rfl, hown, hbel⟩ := hrel
    by_cases hlt : k < s.size
    · go_wp2_with fail
      have r0 := run_digit ((s[k].toNat : Int) / 16) (s[k].toNat / 16) (by omega) (by have := s[k].toNat_lt; omega)
      have r1 := run_digit (bits .and .u8 (s[k].toNat : Int) 15) (s[k].toNat % 16) (by rw [u8_and15 (x := (s[k].toNat : Int)) (by omega) (by have := s[k].toNat_lt; omega)]; omega) (by omega)
      go_region_law (refine step_append_fits rfl (.tmp 14) (.tmp 25) 59 rfl w.heap.size 5 i0 1 Tryz.underlying59 hi hz1 w.heap.size (2 * k) (2 * s.size) (cellsOf (hexL (s.data.toList.take k))) rfl ((hown.alloc _).drew) ⟨wr.heap.size, 0, none⟩ 2 2 (cellsOf [hexD (s[k].toNat / 16), hexD (s[k].toNat % 16)]) rfl rfl (bytes_new2 _ _ _) (cellsOf_one _) (by omega) ?_; intro w2 hown2 hgrow2)
      all_goals go_wp2_with fail
      all_goals go_roundw
      all_goals first
        | exact ⟨k + 1, by omega, by go_num, by rw [show 2 * (k + 1) = 2 * k + 2 by omega], by rw [show 2 * (k + 1) = 2 * k + 2 by omega, hexL_snoc s k hlt]; unfold cellsOf at hown2 ⊢; rw [List.map_append]; exact hown2, ((hbel.alloc (hbel.size) _).drew).grown hgrow2 (by have := hbel.size; simp; omega) (fun k h => by cases h; exact Nat.le_refl _)⟩
        | (simp [intOf]; omega)
    · obtain rfl : k = s.size := by omega
      have hcv := conv_own (l := hexL (s.data.toList.take s.size)) (by rw [hexL_length, List.take_of_length_le (by simp)]; simp) hown
      rw [List.take_of_length_le (by simp)] at hcv
      go_wp2_with fail
      go_ret
      exact ⟨rfl, hbel⟩
end Go.Proofs.YtdinachiiimngaaGreatDoor.Nu
namespace Go.Proofs.YtdinachiiimngaaGreatDoor.Nu
open Go.ChangeShapes Go.WideShapes Go.ChangeAt Go.RowKit

/-- The value of a hexadecimal digit, 16 if c is none. -/
def dig (c : Nat) : Nat := if 48 ≤ c ∧ c ≤ 57 then c - 48 else if 97 ≤ c ∧ c ≤ 102 then c - 97 + 10 else if 65 ≤ c ∧ c ≤ 70 then c - 65 + 10 else 16

theorem digitR_any (c : Nat) (hc : c < 256) (w : World) :
    Calls Tryz.prog 191 #[.int .u8 c] w fun e w' => e = .returned (.int .i64 (dig c)) ∧ w = w' := by
  rcases (show c < 48 ∨ (48 ≤ c ∧ c ≤ 57) ∨ (57 < c ∧ c < 65) ∨ (65 ≤ c ∧ c ≤ 70) ∨ (70 < c ∧ c < 97) ∨ (97 ≤ c ∧ c ≤ 102) ∨ 102 < c by omega) with h | h | h | h | h | h | h
  all_goals
    go_enter Tryz.func191, Tryz.ntmps191
    go_wp2
    go_ret
    refine ⟨?_, rfl⟩
    refine congrArg (fun n => Ending.returned (.int .i64 n)) ?_
    unfold dig
    (repeat' split) <;> omega

/-- The value of a hexadecimal digit, 0 if c is none. -/
def digv (c : Nat) : Nat := if dig c < 16 then dig c else 0
theorem grown_set (w : World) (b : Nat) (v : Value) : w.grownBy (w.setCell ⟨b, 0, none⟩ v) (some b) :=
  ⟨rfl, rfl, rfl, by simp [World.setCell], fun k _ hk => Below.heap_setCell _ _ _ _ (fun e => hk (by simp [e]))⟩

theorem closure_any (c : Nat) (hc : c < 256) (b : Nat) (v : Bool) (w : World) (hb : w.heap[b]? = some (.cells #[.bool v] 4 (0, 0))) :
    Calls Tryz.prog 181 #[.int .u8 c, .pointer (some ⟨b, 0, none⟩)] w fun e w' => e = .returned (.int .u8 (digv c)) ∧ w'.heap[b]? = some (.cells #[.bool (v && decide (dig c < 16))] 4 (0, 0)) ∧ w.grownBy w' (some b) := by
  have h1 := cell_of_one hb
  have h2 := free_of_one hb
  rcases (show c < 48 ∨ (48 ≤ c ∧ c ≤ 57) ∨ (57 < c ∧ c < 65) ∨ (65 ≤ c ∧ c ≤ 70) ∨ (70 < c ∧ c < 97) ∨ (97 ≤ c ∧ c ≤ 102) ∨ 102 < c by omega) with h | h | h | h | h | h | h
  all_goals
    have hd : dig c = dig c := rfl
    conv at hd => rhs; unfold dig
    have HD := Lib.hid hd
    have HB := Lib.hid hb
    clear hd hb
    go_enter Tryz.func181, Tryz.ntmps181
    go_wp2
    go_ret
    have hd := HD.out
    have hb := HB.out
    first
      | (have hx : dig c < 16 := by
           rw [hd]; (repeat' split) <;> omega
         refine ⟨congrArg (fun n => Ending.returned (.int .u8 n)) ?_, by simpa [hx] using hb, World.grownBy.refl _ _⟩
         unfold digv
         rw [if_pos hx, hd]
         (repeat' split) <;> omega)
      | (have hx : ¬ dig c < 16 := by
           rw [hd]; (repeat' split) <;> omega
         refine ⟨congrArg (fun n => Ending.returned (.int .u8 n)) ?_, by simpa [hx] using one_setCell hb, grown_set _ _ _⟩
         unfold digv
         rw [if_neg hx]; rfl)
end Go.Proofs.YtdinachiiimngaaGreatDoor.Nu
namespace Go.Proofs.YtdinachiiimngaaGreatDoor.Nu
open Go.ChangeShapes Go.WideShapes Go.ChangeAt Go.RowKit

/-- The conversion to a string of a slice that the call made itself, nil or not. -/
theorem conv_any {w : World} {base n : Nat} {v : Value} {l : List UInt8} (hl : l.length = n) (hown : w.ownsRow base 5 1 v n (cellsOf l)) :
    (convert 59 9 v).run Tryz.prog w = .ok (.string ⟨l.toArray⟩) w := by
  rcases hown.2 with ⟨rfl, h⟩ | ⟨g, cap, cur, rfl, _⟩
  · obtain rfl : l = [] := List.eq_nil_of_length_eq_zero (by rw [hl, h])
    kernel_rfl
  · exact conv_own hl hown

end Go.Proofs.YtdinachiiimngaaGreatDoor.Nu
