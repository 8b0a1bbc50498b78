/- Written fields one after another, of no program but for strings: their list, and how many bear a name. -/
import Derived.Test.YtocghngmjipjoaaDoorPutLaw
namespace Go.Proofs.YtocghngmjipjoaaDoor
open Go.ChangeShapes Go.WideShapes Go.ChangeAt Go.RowKit
open LinesP HdrP

/-- The one field of a written field. -/
def fOf (n v : List UInt8) : Fld := (parseL (putL n v)).headD ⟨[], [], [], true⟩
theorem fOf_is {n : List UInt8} (hn : rightL n = true) (v : List UInt8) : parseL (putL n v) = [fOf n v] ∧ (fOf n v).name = n ∧ (fOf n v).bad = false ∧ atL (putL n v) = (putL n v).length := by
  obtain ⟨f, p1, p2, p3, _, _, p6⟩ := put_parse hn v
  have : fOf n v = f := by unfold fOf; rw [p1]; rfl
  rw [this]
  exact ⟨p1, p2, p3, p6⟩
/-- The bytes of the first k written fields. -/
def putsL (l : List (List UInt8 × List UInt8)) : List UInt8 := (l.map fun p : List UInt8 × List UInt8 => putL p.1 p.2).flatten
theorem puts_step (l : List (List UInt8 × List UInt8)) (k : Nat) (x y : List UInt8) (h : l[k]? = some (x, y)) : putsL (l.take (k + 1)) = putsL (l.take k) ++ putL x y := by
  unfold putsL
  rw [List.take_add_one, h]; simp
theorem puts_parse (l : List (List UInt8 × List UInt8)) (h : ∀ p ∈ l, rightL p.1 = true) (body : List UInt8) :
    parseL (putsL l ++ [13, 10] ++ body) = l.map (fun p => fOf p.1 p.2) ∧ atL (putsL l ++ [13, 10] ++ body) = (putsL l).length + 2 := by
  have := puts_apart l h body
  refine ⟨?_, this.2⟩
  unfold putsL
  rw [this.1]
  clear this
  induction l with
  | nil => rfl
  | cons p r ih =>
    rw [List.map_cons, List.flatten_cons, ih fun q hq => h q (by simp [hq]), (fOf_is (h p (by simp)) p.2).1]; rfl
def sameLow (nm : List UInt8) (x : List UInt8) : Bool := x.map low == nm.map low
theorem all_count (l : List (List UInt8 × List UInt8)) (h : ∀ p ∈ l, rightL p.1 = true) (nm : List UInt8) :
    (allL (l.map fun p => fOf p.1 p.2) nm).length = ((l.map Prod.fst).filter (sameLow nm)).length := by
  unfold allL
  rw [List.length_map]
  induction l with
  | nil => rfl
  | cons p r ih =>
    have ih := ih fun q hq => h q (by simp [hq])
    obtain ⟨_, h2, h3, _⟩ := fOf_is (h p (by simp)) p.2
    rw [List.map_cons, List.map_cons, List.filter_cons, List.filter_cons, h2, h3]
    unfold sameLow at ih ⊢
    by_cases hc : (p.1.map low == nm.map low) = true
    · rw [if_pos (by rw [hc]; rfl), if_pos hc, List.length_cons, List.length_cons, ih]
    · rw [if_neg (by rw [Bool.not_false, Bool.true_and]; exact hc), if_neg hc, ih]
theorem count_step (xs : List (List UInt8)) (nm : List UInt8) (k : Nat) (x : List UInt8) (h : xs[k]? = some x) :
    ((xs.take (k + 1)).filter (sameLow nm)).length = ((xs.take k).filter (sameLow nm)).length + if sameLow nm x = true then 1 else 0 := by
  rw [List.take_add_one, h, List.filter_append, List.length_append]
  simp only [Option.toList_some, List.filter_cons, List.filter_nil]
  split <;> rfl
theorem count_le (xs : List (List UInt8)) (nm : List UInt8) (k : Nat) : ((xs.take k).filter (sameLow nm)).length ≤ k := by
  have h1 := List.length_filter_le (sameLow nm) (xs.take k)
  rw [List.length_take] at h1
  omega
theorem count_pos (xs : List (List UInt8)) (x : List UInt8) (h : x ∈ xs) : 0 < (xs.filter (sameLow x)).length := by
  refine List.length_pos_of_mem (a := x) (List.mem_filter.2 ⟨h, ?_⟩)
  unfold sameLow; simp
theorem zip_at (xs ys : List (List UInt8)) (k : Nat) (x y : List UInt8) (h1 : xs[k]? = some x) (h2 : ys[k]? = some y) : (xs.zip ys)[k]? = some (x, y) := by
  rw [List.getElem?_zip_eq_some]; exact ⟨h1, h2⟩
theorem zip_len (xs ys : List (List UInt8)) (h : xs.length ≤ ys.length) : (xs.zip ys).length = xs.length := by rw [List.length_zip]; omega
theorem zip_fst (xs ys : List (List UInt8)) (h : xs.length ≤ ys.length) : (xs.zip ys).map Prod.fst = xs := by
  rw [List.map_fst_zip h]
/-- A slice that can be read, by its form. -/
theorem Has.form {A : Type} {E : A → Value} {w : World} {v : Value} {xs : List A} (h : Has E w v xs) : ∃ ao c, v = .slice ao xs.length c ∧ ∀ k x, xs[k]? = some x → ∃ a, ao = some a ∧ w.cell? (a.add k) = some (E x) := by
  rcases h with ⟨rfl, rfl⟩ | ⟨a, c, rfl, h⟩
  · exact ⟨none, 0, rfl, fun k x hk => by simp at hk⟩
  · refine ⟨some a, c, rfl, fun k x hk => ⟨a, rfl, ?_⟩⟩
    obtain ⟨hk1, hk2⟩ := List.getElem?_eq_some_iff.1 hk
    rw [h k hk1, hk2]
end Go.Proofs.YtocghngmjipjoaaDoor
