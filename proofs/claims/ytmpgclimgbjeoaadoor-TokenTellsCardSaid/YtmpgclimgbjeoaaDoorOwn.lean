/- Slices of tokens: in a block of their own, or read at an address; tokens as values. -/
import Derived.Test.YtmpgclimgbjeoaaDoorByte
import Derived.Laws.OwnMore
import Derived.Laws.AppendOwn
import Derived.Laws.StructEq
import Derived.Lib.Hide
import Derived.Deep.RegionHeld3
namespace Go.Proofs.YtmpgclimgbjeoaaDoor
open Go.ChangeShapes Go.WideShapes Go.ChangeAt Go.RowKit
open TokP

theorem add_none (g o j : Nat) : (⟨g, o, none⟩ : Addr).add j = ⟨g, o + j, none⟩ := by unfold Addr.add; split <;> simp_all
def tokV (t : Tok) : List Value := [.int .i64 (t.kind : Nat), .string (strL t.text)]
def toksV (l : List Tok) : List Value := l.flatMap tokV
theorem toksV_len (l : List Tok) : (toksV l).length = l.length * 2 := by
  unfold toksV
  induction l with
  | nil => rfl
  | cons m l ih => rw [List.flatMap_cons, List.length_append, ih, List.length_cons]; simp [tokV]; omega
theorem toksV_app (a b : List Tok) : toksV a ++ toksV b = toksV (a ++ b) := by unfold toksV; rw [List.flatMap_append]
theorem toksV_one (f : Tok) : toksV [f] = tokV f := by unfold toksV; simp
theorem toksV_at : ∀ (l : List Tok) (i : Nat) (f : Tok), l[i]? = some f → ∀ j, j < 2 → (toksV l)[i * 2 + j]? = (tokV f)[j]?
  | [], i, m, h => by simp at h
  | x :: l, 0, m, h => by
    simp at h
    subst h
    intro j hj
    rw [show toksV (x :: l) = tokV x ++ toksV l by unfold toksV; rw [List.flatMap_cons], Nat.zero_mul, Nat.zero_add, List.getElem?_append_left (by simp [tokV]; exact hj)]
  | x :: l, i + 1, m, h => by
    intro j hj
    have ih := toksV_at l i m (by simpa using h) j hj
    rw [show toksV (x :: l) = tokV x ++ toksV l by unfold toksV; rw [List.flatMap_cons], List.getElem?_append_right (by simp [tokV]; omega)]
    have e1 : (i + 1) * 2 + j - (tokV x).length = i * 2 + j := by simp [tokV]; omega
    rw [e1]
    exact ih
theorem tokV_one (f : Tok) : ∀ u ∈ tokV f, u.oneCell' = true := by
  intro u hu
  simp [tokV] at hu
  rcases hu with rfl | rfl <;> rfl
theorem toksV_ones (l : List Tok) : ∀ u ∈ toksV l, u.oneCell' = true := by
  intro u hu
  obtain ⟨f, _, hf⟩ := List.mem_flatMap.1 hu
  exact tokV_one f u hf
/-- The tokens l lie at g, from cell o on. -/
def FAt (w : World) (g o : Nat) (l : List Tok) : Prop := ∀ i f, l[i]? = some f → w.cell? ⟨g, o + i * 2, none⟩ = some (.int .i64 (f.kind : Nat)) ∧ w.cell? ⟨g, o + i * 2 + 1, none⟩ = some (.string (strL f.text))
def OwnF (w : World) (v : Value) (l : List Tok) : Prop := ∃ base, w.ownsRow base 23 2 v l.length (toksV l)
/-- The slice v reads as l. -/
def HasF (w : World) (v : Value) (l : List Tok) : Prop := (v = .slice none 0 0 ∧ l = []) ∨ ∃ g o c, v = .slice (some ⟨g, o, none⟩) l.length c ∧ FAt w g o l
theorem OwnF.step {w w' : World} {v : Value} {xs : List Tok} (h : OwnF w v xs) (hb : Below w.heap.size w w') : OwnF w' v xs := by
  obtain ⟨b, ho⟩ := h; exact ⟨b, own_below ho hb⟩
theorem OwnF.shape {w : World} {v : Value} {xs : List Tok} (h : OwnF w v xs) : ∃ a c, v = .slice a xs.length c := by
  obtain ⟨b, ho⟩ := h
  rcases ho.2 with ⟨rfl, h0⟩ | ⟨g, cap, cur, rfl, _⟩
  · exact ⟨none, 0, by rw [h0]⟩
  · exact ⟨_, _, rfl⟩
theorem OwnF.at {w : World} {a : Option Addr} {n c : Nat} {xs : List Tok} (h : OwnF w (.slice a n c) xs) (hn : 0 < n) : ∃ g, a = some ⟨g, 0, none⟩ ∧ FAt w g 0 xs := by
  obtain ⟨b, ho⟩ := h
  rcases ho.2 with ⟨e, h0⟩ | ⟨g, cap, cur, e, _⟩
  · injection e with _ e2 _; omega
  · have e' := e
    injection e with e1 _ _
    subst e1
    refine ⟨g, rfl, fun i f hf => ?_⟩
    have key : ∀ j u, j < 2 → (tokV f)[j]? = some u → w.cell? ⟨g, 0 + i * 2 + j, none⟩ = some u := fun j u hj hu => by
      have := ho.cells (g := g) rfl (i * 2 + j) u (by rw [toksV_at xs i f hf j hj]; exact hu)
      rwa [add_none, ← Nat.add_assoc] at this
    exact ⟨key 0 _ (by decide) rfl, key 1 _ (by decide) rfl⟩
theorem OwnF.has {w : World} {v : Value} {xs : List Tok} (h : OwnF w v xs) : HasF w v xs := by
  obtain ⟨a, c, rfl⟩ := h.shape
  by_cases hn : 0 < xs.length
  · obtain ⟨g, rfl, hf⟩ := h.at hn
    exact .inr ⟨g, 0, c, rfl, hf⟩
  · obtain rfl : xs = [] := List.eq_nil_of_length_eq_zero (by omega)
    obtain ⟨b, ho⟩ := h
    rcases ho.2 with ⟨e, _⟩ | ⟨g, cap, cur, e, _⟩
    · exact .inl ⟨e, rfl⟩
    · exact .inr ⟨g, 0, _, e, fun i f hf => by simp at hf⟩
theorem FAt.drop {w : World} {g o : Nat} {f : Tok} {l : List Tok} (h : FAt w g o (f :: l)) : FAt w g (o + 2) l := by
  intro i x hx
  have := h (i + 1) x (by simpa using hx)
  rwa [show o + (i + 1) * 2 = o + 2 + i * 2 by omega] at this
theorem FAt.lt {w : World} {g o : Nat} {l : List Tok} (h : FAt w g o l) (hl : l ≠ []) : g < w.heap.size := by
  cases l with
  | nil => exact absurd rfl hl
  | cons f r => exact World.block_lt_of_cell? w _ (h 0 f rfl).1
theorem FAt.keep {w w' : World} {g o : Nat} {l : List Tok} (h : FAt w g o l) (hk : w'.heap[g]? = w.heap[g]?) : FAt w' g o l := by
  intro i f hf
  obtain ⟨h1, h2⟩ := h i f hf
  exact ⟨by rw [World.cell?_of_block (by exact hk)]; exact h1, by rw [World.cell?_of_block (by exact hk)]; exact h2⟩
theorem FAt.step {w w' : World} {g o : Nat} {l : List Tok} (h : FAt w g o l) (hb : Below w.heap.size w w') : FAt w' g o l := by
  by_cases hl : l = []
  · subst hl; intro i f hf; simp at hf
  · exact h.keep (hb.block g (h.lt hl))
theorem HasF.step {w w' : World} {v : Value} {l : List Tok} (h : HasF w v l) (hb : Below w.heap.size w w') : HasF w' v l := by
  rcases h with h | ⟨g, o, c, rfl, h⟩
  · exact .inl h
  · exact .inr ⟨g, o, c, rfl, h.step hb⟩
theorem news_tok (w : World) (f : Tok) : ∀ j u, (tokV f)[j]? = some u → (w.alloc (.cells (tokV f).toArray 23)).cell? ((⟨w.heap.size, 0, none⟩ : Addr).add j) = some u := by
  intro j u h
  have := World.cell?_alloc_mark w (tokV f).toArray 23 (0, 0) j
  rw [add_none, Nat.zero_add, this, List.getElem?_toArray]; exact h
theorem info23 : (Tryd.prog.info? 23).map (fun i => (i.zero, i.size, i.bytes)) = some (some (.agg #[.int .i64 0, .string ⟨#[]⟩]), 2, 24) := by kernel_rfl
/-- A token is appended. -/
theorem run_appF {w : World} (base : Nat) {v : Value} {xs : List Tok} (f : Tok) (hown : w.ownsRow base 23 2 v xs.length (toksV xs)) (hb : base ≤ w.heap.size) (hl : xs.length ≤ 1000000) :
    ∃ a c w', (Builtin.append_ #[26, 26] 26 #[v, .slice (some ⟨w.heap.size, 0, none⟩) 1 1]).run Tryd.prog (w.alloc (.cells #[.int .i64 (f.kind : Nat), .string (strL f.text)] 23)) = .ok (.slice a (xs.length + 1) c) w' ∧
      w'.ownsRow base 23 2 (.slice a (xs.length + 1) c) (xs ++ [f]).length (toksV (xs ++ [f])) ∧ (w.alloc (.cells #[.int .i64 (f.kind : Nat), .string (strL f.text)] 23)).grownBy w' v.ownBlock := by
  obtain ⟨i0, hi, hz0, hz1, hz2⟩ := info_parts info23
  obtain ⟨v', w', hr, h1, h2, _⟩ := run_append_own (P := Tryd.prog) (w.alloc (.cells (tokV f).toArray 23)) base 26 26 23 i0 _ 2 24 Tryd.underlying26 hi hz0 hz1 hz2 rfl (by decide) v xs.length _ (World.ownsRow.alloc hown _) ⟨w.heap.size, 0, none⟩ 1 1 (tokV f) rfl (news_tok w f) (tokV_one f) (by unfold maxLen; omega) (by omega) (by rw [World.size_alloc]; omega)
  rw [← toksV_one, toksV_app, ← List.length_singleton (a := f), ← List.length_append] at h1
  obtain ⟨a, c, rfl⟩ : ∃ a c, v' = .slice a (xs.length + 1) c := by
    rcases h1.2 with ⟨rfl, h0⟩ | ⟨g, cap, cur, rfl, _⟩
    · simp at h0
    · exact ⟨_, _, by rw [List.length_append]; rfl⟩
  exact ⟨a, c, w', hr, h1, h2⟩
theorem wpList_appF {ops : Array Oper} {rest : List Oper} {o : Oper} {a : Act} {w : World} {Q : Exit → Act → World → Prop} (hw : Region.wanted o (yielded ops a.tmps) = true) (s x : Operand)
    (ho : o.op = .call { callee := .builtin .append, args := #[s, x], argTypes := #[26, 26] }) (hty : o.type = 26) (base : Nat) {v : Value} {xs : List Tok} {n : Nat} (f : Tok) (hs : a.eval s = v) (hx : a.eval x = .slice (some ⟨w.heap.size, 0, none⟩) 1 1)
    (hown : w.ownsRow base 23 2 v xs.length (toksV xs)) (hn : xs.length = n) (hb : base ≤ w.heap.size) (hl : n ≤ 1000000)
    (h : ∀ a' c' w', w'.ownsRow base 23 2 (.slice a' (n + 1) c') (xs ++ [f]).length (toksV (xs ++ [f])) → (w.alloc (.cells #[.int .i64 (f.kind : Nat), .string (strL f.text)] 23)).grownBy w' v.ownBlock → wpList Tryd.prog ops Q rest (a.put o.dst (.slice a' (n + 1) c')) w') :
    wpList Tryd.prog ops Q (o :: rest) a (w.alloc (.cells #[.int .i64 (f.kind : Nat), .string (strL f.text)] 23)) := by
  subst hn
  obtain ⟨a', c', w', hr, h1, h2⟩ := run_appF base f hown hb hl
  unfold wpList
  rw [if_pos hw]
  left
  unfold Oper.wp
  simp [execOp, ho, hty, resolve, invoke, builtin, hs, hx, hr, Result.andThen]
  exact h a' c' w' h1 h2
/-- Tokens are compared part by part. -/
theorem tok_ext {f g : Tok} (h1 : f.kind = g.kind) (h2 : f.text = g.text) : f = g := by
  cases f; cases g; simp_all
theorem tok_iff (f g : Tok) : (decide (f = g)) = (((f.kind : Nat) : Int) == (g.kind : Nat) && (strL f.text).toList == (strL g.text).toList) := by
  rw [eq_strL, Bool.eq_iff_iff]
  simp only [Bool.and_eq_true, decide_eq_true_iff, beq_iff_eq]
  exact ⟨fun h => by rw [h]; exact ⟨rfl, rfl⟩, fun h => tok_ext (by omega) h.2⟩
theorem run_equal_tok (f g : Tok) (W : World) : (Op.equalIn 10000 23 (.agg #[.int .i64 (f.kind : Nat), .string (strL f.text)]) (.agg #[.int .i64 (g.kind : Nat), .string (strL g.text)])).run Tryd.prog W = .ok (decide (f = g)) W := by
  rw [tok_iff]
  generalize strL f.text = a1
  generalize strL g.text = b1
  generalize ((f.kind : Nat) : Int) = a2
  generalize ((g.kind : Nat) : Int) = b2
  go_simp
  cases h1 : (a1.toList == b1.toList) <;> cases h2 : (a2 == b2) <;> simp_all
theorem run_neq_tok (f g : Tok) (W : World) : (binOp .neq 23 (.agg #[.int .i64 (f.kind : Nat), .string (strL f.text)]) (.agg #[.int .i64 (g.kind : Nat), .string (strL g.text)])).run Tryd.prog W = .ok (.bool (!decide (f = g))) W := by
  rw [run_neq_struct, run_equal_tok]; rfl
end Go.Proofs.YtmpgclimgbjeoaaDoor
