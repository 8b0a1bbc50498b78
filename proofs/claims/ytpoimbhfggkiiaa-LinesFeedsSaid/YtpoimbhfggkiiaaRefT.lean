/- The reference's Told: what each chunk completes, and the rest. -/
import Derived.Test.YtpoimbhfggkiiaaRefB
import Derived.Test.YtpoimbhfggkiiaaFew
import Derived.Laws.Concat
namespace Go.Proofs.Ytpoimbhfggkiiaa
open Go.ChangeShapes Go.WideShapes Go.ChangeAt Go.RowKit
open LinesP

/-- What is begun before chunk j. -/
def begunAt (xs : List (List UInt8)) (j : Nat) : List UInt8 := restL (xs.take j).flatten
/-- What chunk j completes. -/
def wantAt (lim : Nat) (xs : List (List UInt8)) (j : Nat) : List (List UInt8) := toldL lim (begunAt xs j ++ (xs[j]?.getD []))
theorem begun_next (xs : List (List UInt8)) (j : Nat) (x : List UInt8) (h : xs[j]? = some x) : begunAt xs (j + 1) = restL (begunAt xs j ++ x) := by
  unfold begunAt
  rw [flat_take' xs j x h, rest_more]
where
  flat_take' (L : List (List UInt8)) (j : Nat) (x : List UInt8) (h : L[j]? = some x) : (L.take (j + 1)).flatten = (L.take j).flatten ++ x := by
    rw [List.take_add_one, h]; simp
theorem want_is (lim : Nat) (xs : List (List UInt8)) (j : Nat) (x : List UInt8) (h : xs[j]? = some x) : wantAt lim xs j = toldL lim (begunAt xs j ++ x) := by
  unfold wantAt; rw [h]; rfl
theorem rest_len (s : List UInt8) : (restL s).length ≤ s.length := by have := from_le s; omega
theorem take_flat_le (xs : List (List UInt8)) (j : Nat) : (xs.take j).flatten.length ≤ xs.flatten.length := by
  have h3 : (xs.take j).flatten ++ (xs.drop j).flatten = xs.flatten := by rw [← List.flatten_append, List.take_append_drop]
  have := congrArg List.length h3
  rw [List.length_append] at this
  omega
theorem begun_len (xs : List (List UInt8)) (j : Nat) : (begunAt xs j).length ≤ xs.flatten.length :=
  Nat.le_trans (rest_len _) (take_flat_le xs j)
theorem good_before {ls : List (List UInt8)} (h : LinesP.Good ls) : ∀ (k : Nat) (x : List UInt8), ls[k]? = some x → ∀ y ∈ ls.take k, Term y := by
  induction h with
  | nil => intro k x h; simp at h
  | @last l hl =>
    intro k x h y hy
    rcases k with _ | k
    · simp at hy
    · simp at h
  | @cons l r hl hr ih =>
    intro k x h y hy
    rcases k with _ | k
    · simp at hy
    · rw [List.take_succ_cons] at hy
      rcases List.mem_cons.1 hy with rfl | hy
      · exact hl
      · exact ih k x (by simpa using h) y hy
theorem filter_term {ls : List (List UInt8)} (h : ∀ y ∈ ls, Term y) : (ls.filter fun l => !ends l) = [] := by
  rw [List.filter_eq_nil_iff]
  intro a ha
  simp [ends_term (h a ha)]
theorem filter_snoc (p : List UInt8 → Bool) (ls : List (List UInt8)) (k : Nat) (x : List UInt8) (h : ls[k]? = some x) : (ls.take (k + 1)).filter p = (ls.take k).filter p ++ if p x then [x] else [] := by
  rw [List.take_add_one, h, List.filter_append]
  congr 1
  by_cases hp : p x
  · simp [hp]
  · simp [hp]
/-- A slice of slices, in a block of its own from B on; its slices read as f says. -/
def Outs (w : World) (B : Nat) (v : Value) (n : Nat) (f : Nat → List (List UInt8)) : Prop :=
  ∃ vals, w.ownsRow B 24 1 v n vals ∧ ∀ i, i < n → ∃ a c, vals[i]? = some (.slice a (f i).length c) ∧ Own w (.slice a (f i).length c) (f i)
theorem Outs.step {w w' : World} {B : Nat} {v : Value} {n : Nat} {f : Nat → List (List UInt8)} (h : Outs w B v n f) (hb : Below w.heap.size w w') : Outs w' B v n f := by
  obtain ⟨vals, h1, h2⟩ := h
  refine ⟨vals, own_below h1 hb, fun i hi => ?_⟩
  obtain ⟨a, c, e, ho⟩ := h2 i hi
  exact ⟨a, c, e, ho.step hb⟩
theorem Outs.slice {w : World} {B : Nat} {v : Value} {n : Nat} {f : Nat → List (List UInt8)} (h : Outs w B v n f) : ∃ a c, v = .slice a n c := by
  obtain ⟨vals, h1, _⟩ := h
  rcases h1.2 with ⟨rfl, h0⟩ | ⟨g, cap, cur, rfl, _⟩
  · exact ⟨none, 0, by rw [h0]⟩
  · exact ⟨_, _, rfl⟩
/-- One slice more. -/
theorem wpList_more {ops : Array Oper} {rest : List Oper} {o : Oper} {a : Act} {w : World} {Q : Exit → Act → World → Prop} (hgd : o.guard = none) (s x : Operand) (ho : o.op = .call { callee := .builtin .append, args := #[s, x], argTypes := #[31, 31] })
    (B : Nat) {v : Value} {n : Nat} {f : Nat → List (List UInt8)} {an : Option Addr} {cn : Nat} {nn : Nat} (hs : a.eval s = v) (hx : a.eval x = .slice (some ⟨w.heap.size, 0, none⟩) 1 1) (hown : Outs w B v n f) (hnow : Own w (.slice an nn cn) (f n)) (hnn : nn = (f n).length) (hb : B ≤ w.heap.size) (hl : n + 1 ≤ 1000000)
    (h : ∀ a' c' w', Outs w' B (.slice a' (n + 1) c') (n + 1) f → Below B w w' → wpList Try.prog ops Q rest (a.put o.dst (.slice a' (n + 1) c')) w') : wpList Try.prog ops Q (o :: rest) a (w.alloc (.cells #[.slice an nn cn] 24)) := by
  obtain ⟨i0, hi, hz0, hz1, hz2⟩ := info_parts info24
  obtain ⟨vals, h1, h2⟩ := hown
  have hcell : ∀ j u, ([Value.slice an nn cn] : List Value)[j]? = some u → (w.alloc (.cells #[.slice an nn cn] 24)).cell? ((⟨w.heap.size, 0, none⟩ : Addr).add j) = some u := fun j u hj => by
    have := World.cell?_alloc_mark w #[.slice an nn cn] 24 (0, 0) j
    have e : (⟨w.heap.size, 0, none⟩ : Addr).add j = ⟨w.heap.size, j, none⟩ := by unfold Addr.add; split <;> simp_all
    rw [e, this]
    simpa using hj
  refine wpList_append_own _ hgd s x 31 ho B 24 i0 (.slice none 0 0) 1 24 Try.underlying31 hi hz0 hz1 hz2 rfl (by decide) v _ _ hs (World.ownsRow.alloc h1 _) ⟨w.heap.size, 0, none⟩ 1 1 [.slice an nn cn] hx rfl hcell (fun u hu => by simp at hu; subst hu; rfl) (by unfold maxLen; omega) (by omega) (by rw [World.size_alloc]; omega) ?_
  intro v' w' h3 hg _
  have hvl : vals.length = n := by have := h1.1; rwa [Nat.mul_one] at this
  obtain ⟨a', c', rfl⟩ : ∃ a' c', v' = .slice a' (n + 1) c' := by
    rcases h3.2 with ⟨rfl, h0⟩ | ⟨g, cap, cur, rfl, _⟩
    · omega
    · exact ⟨_, _, rfl⟩
  have hkeep : ∀ u ys, Own w u ys → Own w' u ys := fun u ys hu => by
    obtain ⟨b, h9⟩ := hu.step ((Below.refl _ w).alloc (Nat.le_refl _) (.cells #[.slice an nn cn] 24))
    refine ⟨b, h9.kept hg ?_⟩
    rcases h9.2 with ⟨rfl, _⟩ | ⟨g, cap, cur, rfl, _, hg9, _⟩
    · exact .inl rfl
    · right
      intro e
      rcases (World.ownsRow.alloc h1 (.cells #[.slice an nn cn] 24)).2 with ⟨rfl, _⟩ | ⟨g2, _, _, rfl, _, hg5, _⟩
      · simp [Value.ownBlock] at e
      · simp [Value.ownBlock] at e
        subst e
        have := hg9.symm.trans hg5
        simp at this
  refine h a' c' w' ⟨vals ++ [.slice an nn cn], h3, fun i hi => ?_⟩ (((Below.refl B w).alloc hb _).grown hg (by rw [World.size_alloc]; omega) (fun k e => (h1.lt k e).1))
  by_cases hin : i < n
  · obtain ⟨a1, c1, e, ho1⟩ := h2 i hin
    exact ⟨a1, c1, by rw [List.getElem?_append_left (by omega)]; exact e, hkeep _ _ ho1⟩
  · obtain rfl : i = n := by omega
    subst hnn
    exact ⟨an, cn, by rw [List.getElem?_append_right (by omega), hvl]; simp, hkeep _ _ hnow⟩
end Go.Proofs.Ytpoimbhfggkiiaa
