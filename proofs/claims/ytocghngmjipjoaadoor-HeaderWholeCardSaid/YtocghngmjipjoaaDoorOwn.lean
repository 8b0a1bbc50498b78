/- Slices of strings and of fields that a call has made; fields as values. -/
import Derived.Test.YtocghngmjipjoaaDoorBase
import Derived.Test.YtocghngmjipjoaaDoorPartPure
import Derived.Laws.OwnMore
import Derived.Laws.AppendOwn
import Derived.Laws.StructEq
import Derived.Lib.Hide
import Derived.Deep.RegionHeld3
namespace Go.Proofs.YtocghngmjipjoaaDoor
open Go.ChangeShapes Go.WideShapes Go.ChangeAt Go.RowKit
open LinesP HdrP

/-! ### Slices of strings -/
/-- The slice v holds xs, in a block of its own. -/
def Own (w : World) (v : Value) (xs : List (List UInt8)) : Prop := ∃ base, w.ownsRow base 9 1 v xs.length (xs.map strV)
theorem Own.step {w w' : World} {v : Value} {xs : List (List UInt8)} (h : Own w v xs) (hb : Below w.heap.size w w') : Own w' v xs := by
  obtain ⟨b, ho⟩ := h; exact ⟨b, own_below ho hb⟩
theorem Own.has {w : World} {v : Value} {xs : List (List UInt8)} (h : Own w v xs) : Has strV w v xs := by
  obtain ⟨b, ho⟩ := h; exact (Has.of_own ho).1
theorem add_none (g o j : Nat) : (⟨g, o, none⟩ : Addr).add j = ⟨g, o + j, none⟩ := by unfold Addr.add; split <;> simp_all
theorem Own.at {w : World} {a : Option Addr} {n c : Nat} {xs : List (List UInt8)} (h : Own w (.slice a n c) xs) (hn : 0 < n) : ∃ g, a = some ⟨g, 0, none⟩ := by
  obtain ⟨b, ho⟩ := h
  rcases ho.2 with ⟨e, h0⟩ | ⟨g, cap, cur, e, _⟩
  · injection e with _ e2 _; omega
  · injection e with e1 _ _; exact ⟨g, e1⟩
theorem Own.cell {w : World} {g n c : Nat} {xs : List (List UInt8)} (h : Own w (.slice (some ⟨g, 0, none⟩) n c) xs) (j : Nat) (x : List UInt8) (hx : xs[j]? = some x) : w.cell? ⟨g, j, none⟩ = some (.string (strL x)) := by
  obtain ⟨b, ho⟩ := h
  have := ho.cells (g := g) rfl j (strV x) (by rw [List.getElem?_map, hx]; rfl)
  rw [add_none, Nat.zero_add] at this
  exact this
theorem Own.shape {w : World} {v : Value} {xs : List (List UInt8)} (h : Own w v xs) : ∃ a c, v = .slice a xs.length c := by
  obtain ⟨b, ho⟩ := h
  rcases ho.2 with ⟨rfl, h0⟩ | ⟨g, cap, cur, rfl, _⟩
  · exact ⟨none, 0, by rw [h0]⟩
  · exact ⟨_, _, rfl⟩
theorem Own.lt {w : World} {u : Value} {xs : List (List UInt8)} (h : Own w u xs) : ∀ k, u.ownBlock = some k → k < w.heap.size := by
  obtain ⟨b, ho⟩ := h
  intro k hk
  rcases ho.2 with ⟨rfl, _⟩ | ⟨g, cap, cur, rfl, _, hg, _⟩
  · simp [Value.ownBlock] at hk
  · simp [Value.ownBlock] at hk
    subst hk
    exact (Array.getElem?_eq_some_iff.1 hg).1
theorem own_one (w : World) (x : List UInt8) : Own (w.alloc (.cells #[.string (strL x)] 9)) (.slice (some ⟨w.heap.size, 0, none⟩) 1 1) [x] :=
  ⟨w.heap.size, rfl, .inr ⟨w.heap.size, 1, #[.string (strL x)], rfl, Nat.le_refl _, World.alloc_heap_new w _, Nat.le_refl _, by unfold maxLen; omega, rfl, rfl⟩⟩
theorem strs_one (l : List (List UInt8)) : ∀ u ∈ l.map strV, u.oneCell' = true := by
  intro u hu
  obtain ⟨c, _, rfl⟩ := List.mem_map.1 hu
  rfl
theorem run_app {w : World} (base : Nat) {v u : Value} {xs ys : List (List UInt8)} (hown : w.ownsRow base 9 1 v xs.length (xs.map strV)) (hu : Own w u ys) (hb : base ≤ w.heap.size) (hl : xs.length + ys.length ≤ 1000000) :
    ∃ a c w', (Builtin.append_ #[33, 33] 33 #[v, u]).run Tryd.prog w = .ok (.slice a (xs ++ ys).length c) w' ∧ w'.ownsRow base 9 1 (.slice a (xs ++ ys).length c) (xs ++ ys).length ((xs ++ ys).map strV) ∧ w.grownBy w' v.ownBlock := by
  obtain ⟨i0, hi, hz0, hz1, hz2⟩ := info_parts info9
  obtain ⟨b2, ho2⟩ := hu
  have e1 : (xs ++ ys).length = xs.length + ys.length := List.length_append
  have fin : ∀ (v' : Value) (w' : World), w'.ownsRow base 9 1 v' (xs.length + ys.length) ((xs ++ ys).map strV) → ∃ a c, v' = .slice a (xs ++ ys).length c := fun v' w' h => by
    rcases h.2 with ⟨rfl, h0⟩ | ⟨g, cap, cur, rfl, _⟩
    · exact ⟨none, 0, by rw [e1, h0]⟩
    · exact ⟨_, _, by rw [e1]⟩
  rcases ho2.2 with ⟨rfl, h0⟩ | ⟨g, cap, cur, rfl, _, hg, hrest⟩
  · obtain rfl : ys = [] := List.eq_nil_of_length_eq_zero h0
    have hr := run_append_owned_none (P := Tryd.prog) (w := w) base 33 33 9 i0 1 Tryd.underlying33 hi v _ _ hown
    rw [List.append_nil]
    obtain ⟨a, c, rfl⟩ : ∃ a c, v = .slice a xs.length c := by
      rcases hown.2 with ⟨rfl, h1⟩ | ⟨g, cap, cur, rfl, _⟩
      · exact ⟨none, 0, by rw [h1]⟩
      · exact ⟨_, _, rfl⟩
    exact ⟨a, c, w, hr, hown, World.grownBy.refl _ _⟩
  · obtain ⟨v', w', hr, h1, h2, _⟩ := run_append_own (P := Tryd.prog) w base 33 33 9 i0 (.string ⟨#[]⟩) 1 16 Tryd.underlying33 hi hz0 hz1 hz2 rfl (by decide) v xs.length _ hown ⟨g, 0, none⟩ ys.length cap (ys.map strV) (by rw [List.length_map, Nat.mul_one]) (fun j x hj => ho2.cells (g := g) rfl j x hj) (strs_one _) (by unfold maxLen; omega) (by omega) hb
    rw [← List.map_append] at h1
    obtain ⟨a, c, rfl⟩ := fin v' w' h1
    rw [e1] at hr h1 ⊢
    exact ⟨a, c, w', hr, h1, h2⟩
theorem wpList_app {ops : Array Oper} {rest : List Oper} {o : Oper} {a : Act} {w : World} {Q : Exit → Act → World → Prop} (hw : Region.wanted o (yielded ops a.tmps) = true) (s x : Operand)
    (ho : o.op = .call { callee := .builtin .append, args := #[s, x], argTypes := #[33, 33] }) (hty : o.type = 33) (base : Nat) {v u : Value} {xs ys : List (List UInt8)} (hs : a.eval s = v) (hx : a.eval x = u)
    (hown : w.ownsRow base 9 1 v xs.length (xs.map strV)) (hu : Own w u ys) (hb : base ≤ w.heap.size) (hl : xs.length + ys.length ≤ 1000000)
    (h : ∀ a' c' w', w'.ownsRow base 9 1 (.slice a' (xs ++ ys).length c') (xs ++ ys).length ((xs ++ ys).map strV) → w.grownBy w' v.ownBlock → wpList Tryd.prog ops Q rest (a.put o.dst (.slice a' (xs ++ ys).length c')) w') :
    wpList Tryd.prog ops Q (o :: rest) a w := by
  obtain ⟨a', c', w', hr, h1, h2⟩ := run_app base hown hu hb hl
  unfold wpList
  rw [if_pos hw]
  left
  unfold Oper.wp
  simp [execOp, ho, hty, resolve, invoke, builtin, hs, hx, hr, Result.andThen]
  have h3 := h a' c' w' h1 h2
  rw [List.length_append] at h3
  exact h3
/-- A new string is appended. -/
theorem wpList_app1 {ops : Array Oper} {rest : List Oper} {o : Oper} {a : Act} {w : World} {Q : Exit → Act → World → Prop} (hw : Region.wanted o (yielded ops a.tmps) = true) (s x : Operand)
    (ho : o.op = .call { callee := .builtin .append, args := #[s, x], argTypes := #[33, 33] }) (hty : o.type = 33) (base : Nat) {v : Value} {xs : List (List UInt8)} {n : Nat} (y : List UInt8) (hs : a.eval s = v) (hx : a.eval x = .slice (some ⟨w.heap.size, 0, none⟩) 1 1)
    (hown : w.ownsRow base 9 1 v xs.length (xs.map strV)) (hn : xs.length = n) (hb : base ≤ w.heap.size) (hl : n + 1 ≤ 1000000)
    (h : ∀ a' c' w', w'.ownsRow base 9 1 (.slice a' (n + 1) c') (xs ++ [y]).length ((xs ++ [y]).map strV) → (w.alloc (.cells #[.string (strL y)] 9)).grownBy w' v.ownBlock → wpList Tryd.prog ops Q rest (a.put o.dst (.slice a' (n + 1) c')) w') :
    wpList Tryd.prog ops Q (o :: rest) a (w.alloc (.cells #[.string (strL y)] 9)) := by
  subst hn
  refine wpList_app hw s x ho hty base hs hx (World.ownsRow.alloc hown _) (own_one w y) (by rw [World.size_alloc]; omega) (by simp; omega) ?_
  intro a' c' w' h1 h2
  rw [List.length_append] at h1 ⊢
  exact h a' c' w' (by rw [List.length_append]; exact h1) h2
/-! ### Fields -/
def fldV (f : Fld) : List Value := [.string (strL f.name), .string (strL f.value), .string (strL f.raw), .bool f.bad]
/-- A field as a value. -/
def fldA (f : Fld) : Value := .agg #[.string (strL f.name), .string (strL f.value), .string (strL f.raw), .bool f.bad]
def fldsV (l : List Fld) : List Value := l.flatMap fldV
theorem fldsV_len (l : List Fld) : (fldsV l).length = l.length * 4 := by
  unfold fldsV
  induction l with
  | nil => rfl
  | cons m l ih => rw [List.flatMap_cons, List.length_append, ih, List.length_cons]; simp [fldV]; omega
theorem fldsV_app (a b : List Fld) : fldsV a ++ fldsV b = fldsV (a ++ b) := by unfold fldsV; rw [List.flatMap_append]
theorem fldsV_one (f : Fld) : fldsV [f] = fldV f := by unfold fldsV; simp
theorem fldsV_at : ∀ (l : List Fld) (i : Nat) (f : Fld), l[i]? = some f → ∀ j, j < 4 → (fldsV l)[i * 4 + j]? = (fldV f)[j]?
  | [], i, m, h => by simp at h
  | x :: l, 0, m, h => by
    simp at h
    subst h
    intro j hj
    rw [show fldsV (x :: l) = fldV x ++ fldsV l by unfold fldsV; rw [List.flatMap_cons], Nat.zero_mul, Nat.zero_add, List.getElem?_append_left (by simp [fldV]; exact hj)]
  | x :: l, i + 1, m, h => by
    intro j hj
    have ih := fldsV_at l i m (by simpa using h) j hj
    rw [show fldsV (x :: l) = fldV x ++ fldsV l by unfold fldsV; rw [List.flatMap_cons], List.getElem?_append_right (by simp [fldV]; omega)]
    have e1 : (i + 1) * 4 + j - (fldV x).length = i * 4 + j := by simp [fldV]; omega
    rw [e1]
    exact ih
theorem fldV_one (f : Fld) : ∀ u ∈ fldV f, u.oneCell' = true := by
  intro u hu
  simp [fldV] at hu
  rcases hu with rfl | rfl | rfl | rfl <;> rfl
/-- The slice v reads as the fields l: at g, from cell o on. -/
def FAt (w : World) (g o : Nat) (l : List Fld) : Prop := ∀ i f, l[i]? = some f → w.cell? ⟨g, o + i * 4, none⟩ = some (.string (strL f.name)) ∧ w.cell? ⟨g, o + i * 4 + 1, none⟩ = some (.string (strL f.value)) ∧ w.cell? ⟨g, o + i * 4 + 2, none⟩ = some (.string (strL f.raw)) ∧ w.cell? ⟨g, o + i * 4 + 3, none⟩ = some (.bool f.bad)
def OwnF (w : World) (v : Value) (l : List Fld) : Prop := ∃ base, w.ownsRow base 38 4 v l.length (fldsV l)
theorem OwnF.step {w w' : World} {v : Value} {xs : List Fld} (h : OwnF w v xs) (hb : Below w.heap.size w w') : OwnF w' v xs := by
  obtain ⟨b, ho⟩ := h; exact ⟨b, own_below ho hb⟩
theorem OwnF.shape {w : World} {v : Value} {xs : List Fld} (h : OwnF w v xs) : ∃ a c, v = .slice a xs.length c := by
  obtain ⟨b, ho⟩ := h
  rcases ho.2 with ⟨rfl, h0⟩ | ⟨g, cap, cur, rfl, _⟩
  · exact ⟨none, 0, by rw [h0]⟩
  · exact ⟨_, _, rfl⟩
theorem OwnF.at {w : World} {a : Option Addr} {n c : Nat} {xs : List Fld} (h : OwnF w (.slice a n c) xs) (hn : 0 < n) : ∃ g, a = some ⟨g, 0, none⟩ ∧ FAt w g 0 xs := by
  obtain ⟨b, ho⟩ := h
  rcases ho.2 with ⟨e, h0⟩ | ⟨g, cap, cur, e, _⟩
  · injection e with _ e2 _; omega
  · have e' := e
    injection e with e1 _ _
    subst e1
    refine ⟨g, rfl, fun i f hf => ?_⟩
    have key : ∀ j u, j < 4 → (fldV f)[j]? = some u → w.cell? ⟨g, 0 + i * 4 + j, none⟩ = some u := fun j u hj hu => by
      have := ho.cells (g := g) rfl (i * 4 + j) u (by rw [fldsV_at xs i f hf j hj]; exact hu)
      rwa [add_none, ← Nat.add_assoc] at this
    exact ⟨key 0 _ (by decide) rfl, key 1 _ (by decide) rfl, key 2 _ (by decide) rfl, key 3 _ (by decide) rfl⟩
theorem FAt.drop {w : World} {g o : Nat} {f : Fld} {l : List Fld} (h : FAt w g o (f :: l)) : FAt w g (o + 4) l := by
  intro i x hx
  have := h (i + 1) x (by simpa using hx)
  rwa [show o + (i + 1) * 4 = o + 4 + i * 4 by omega] at this
theorem FAt.lt {w : World} {g o : Nat} {l : List Fld} (h : FAt w g o l) (hl : l ≠ []) : g < w.heap.size := by
  cases l with
  | nil => exact absurd rfl hl
  | cons f r => exact World.block_lt_of_cell? w _ (h 0 f rfl).1
theorem FAt.keep {w w' : World} {g o : Nat} {l : List Fld} (h : FAt w g o l) (hk : w'.heap[g]? = w.heap[g]?) : FAt w' g o l := by
  intro i f hf
  obtain ⟨h1, h2, h3, h4⟩ := h i f hf
  exact ⟨by rw [World.cell?_of_block (by exact hk)]; exact h1, by rw [World.cell?_of_block (by exact hk)]; exact h2, by rw [World.cell?_of_block (by exact hk)]; exact h3, by rw [World.cell?_of_block (by exact hk)]; exact h4⟩
theorem FAt.step {w w' : World} {g o : Nat} {l : List Fld} (h : FAt w g o l) (hb : Below w.heap.size w w') : FAt w' g o l := by
  by_cases hl : l = []
  · subst hl; intro i f hf; simp at hf
  · exact h.keep (hb.block g (h.lt hl))
theorem news_fld (w : World) (f : Fld) : ∀ j u, (fldV f)[j]? = some u → (w.alloc (.cells (fldV f).toArray 38)).cell? ((⟨w.heap.size, 0, none⟩ : Addr).add j) = some u := by
  intro j u h
  have := World.cell?_alloc_mark w (fldV f).toArray 38 (0, 0) j
  rw [add_none, Nat.zero_add, this, List.getElem?_toArray]; exact h
theorem info38 : (Tryd.prog.info? 38).map (fun i => (i.zero, i.size, i.bytes)) = some (some (.agg #[.string ⟨#[]⟩, .string ⟨#[]⟩, .string ⟨#[]⟩, .bool false]), 4, 56) := by kernel_rfl
/-- A field is appended. -/
theorem run_appF {w : World} (base : Nat) {v : Value} {xs : List Fld} (f : Fld) (hown : w.ownsRow base 38 4 v xs.length (fldsV xs)) (hb : base ≤ w.heap.size) (hl : xs.length ≤ 1000000) :
    ∃ a c w', (Builtin.append_ #[24, 24] 24 #[v, .slice (some ⟨w.heap.size, 0, none⟩) 1 1]).run Tryd.prog (w.alloc (.cells #[.string (strL f.name), .string (strL f.value), .string (strL f.raw), .bool f.bad] 38)) = .ok (.slice a (xs.length + 1) c) w' ∧
      w'.ownsRow base 38 4 (.slice a (xs.length + 1) c) (xs ++ [f]).length (fldsV (xs ++ [f])) ∧ (w.alloc (.cells #[.string (strL f.name), .string (strL f.value), .string (strL f.raw), .bool f.bad] 38)).grownBy w' v.ownBlock := by
  obtain ⟨i0, hi, hz0, hz1, hz2⟩ := info_parts info38
  obtain ⟨v', w', hr, h1, h2, _⟩ := run_append_own (P := Tryd.prog) (w.alloc (.cells (fldV f).toArray 38)) base 24 24 38 i0 _ 4 56 Tryd.underlying24 hi hz0 hz1 hz2 rfl (by decide) v xs.length _ (World.ownsRow.alloc hown _) ⟨w.heap.size, 0, none⟩ 1 1 (fldV f) rfl (news_fld w f) (fldV_one f) (by unfold maxLen; omega) (by omega) (by rw [World.size_alloc]; omega)
  rw [← fldsV_one, fldsV_app, ← List.length_singleton (a := f), ← List.length_append] at h1
  obtain ⟨a, c, rfl⟩ : ∃ a c, v' = .slice a (xs.length + 1) c := by
    rcases h1.2 with ⟨rfl, h0⟩ | ⟨g, cap, cur, rfl, _⟩
    · simp at h0
    · exact ⟨_, _, by rw [List.length_append]; rfl⟩
  exact ⟨a, c, w', hr, h1, h2⟩
theorem wpList_appF {ops : Array Oper} {rest : List Oper} {o : Oper} {a : Act} {w : World} {Q : Exit → Act → World → Prop} (hw : Region.wanted o (yielded ops a.tmps) = true) (s x : Operand)
    (ho : o.op = .call { callee := .builtin .append, args := #[s, x], argTypes := #[24, 24] }) (hty : o.type = 24) (base : Nat) {v : Value} {xs : List Fld} {n : Nat} (f : Fld) (hs : a.eval s = v) (hx : a.eval x = .slice (some ⟨w.heap.size, 0, none⟩) 1 1)
    (hown : w.ownsRow base 38 4 v xs.length (fldsV xs)) (hn : xs.length = n) (hb : base ≤ w.heap.size) (hl : n ≤ 1000000)
    (h : ∀ a' c' w', w'.ownsRow base 38 4 (.slice a' (n + 1) c') (xs ++ [f]).length (fldsV (xs ++ [f])) → (w.alloc (.cells #[.string (strL f.name), .string (strL f.value), .string (strL f.raw), .bool f.bad] 38)).grownBy w' v.ownBlock → wpList Tryd.prog ops Q rest (a.put o.dst (.slice a' (n + 1) c')) w') :
    wpList Tryd.prog ops Q (o :: rest) a (w.alloc (.cells #[.string (strL f.name), .string (strL f.value), .string (strL f.raw), .bool f.bad] 38)) := by
  subst hn
  obtain ⟨a', c', w', hr, h1, h2⟩ := run_appF base f hown hb hl
  unfold wpList
  rw [if_pos hw]
  left
  unfold Oper.wp
  simp [execOp, ho, hty, resolve, invoke, builtin, hs, hx, hr, Result.andThen]
  exact h a' c' w' h1 h2
/-- Fields are compared part by part. -/
theorem fld_ext {f g : Fld} (h1 : f.name = g.name) (h2 : f.value = g.value) (h3 : f.raw = g.raw) (h4 : f.bad = g.bad) : f = g := by
  cases f; cases g; simp_all
theorem fld_iff (f g : Fld) : (decide (f = g)) = ((strL f.name).toList == (strL g.name).toList && ((strL f.value).toList == (strL g.value).toList && ((strL f.raw).toList == (strL g.raw).toList && f.bad == g.bad))) := by
  rw [eq_strL, eq_strL, eq_strL, Bool.eq_iff_iff]
  simp only [Bool.and_eq_true, decide_eq_true_iff, beq_iff_eq]
  exact ⟨fun h => by rw [h]; exact ⟨rfl, rfl, rfl, rfl⟩, fun h => fld_ext h.1 h.2.1 h.2.2.1 h.2.2.2⟩
theorem run_equal_fld (f g : Fld) (W : World) : (Op.equalIn 10000 38 (.agg #[.string (strL f.name), .string (strL f.value), .string (strL f.raw), .bool f.bad]) (.agg #[.string (strL g.name), .string (strL g.value), .string (strL g.raw), .bool g.bad])).run Tryd.prog W = .ok (decide (f = g)) W := by
  rw [fld_iff]
  generalize strL f.name = a1
  generalize strL g.name = b1
  generalize strL f.value = a2
  generalize strL g.value = b2
  generalize strL f.raw = a3
  generalize strL g.raw = b3
  generalize f.bad = a4
  generalize g.bad = b4
  go_simp
  cases h1 : (a1.toList == b1.toList) <;> cases h2 : (a2.toList == b2.toList) <;> cases h3 : (a3.toList == b3.toList) <;> cases a4 <;> cases b4 <;> simp_all
theorem run_neq_fld (f g : Fld) (W : World) : (binOp .neq 38 (.agg #[.string (strL f.name), .string (strL f.value), .string (strL f.raw), .bool f.bad]) (.agg #[.string (strL g.name), .string (strL g.value), .string (strL g.raw), .bool g.bad])).run Tryd.prog W = .ok (.bool (!decide (f = g))) W := by
  rw [run_neq_struct, run_equal_fld]; rfl
end Go.Proofs.YtocghngmjipjoaaDoor
