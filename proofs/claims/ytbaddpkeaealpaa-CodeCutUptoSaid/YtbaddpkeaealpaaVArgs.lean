/- Arguments that are values, or slices of values. -/
import Derived.Test.YtbaddpkeaealpaaArgs
import Derived.Test.YtbaddpkeaealpaaValid
import Derived.Deep.Fields
import Derived.ChangeSame
namespace Go.Proofs.Ytbaddpkeaealpaa
open Go.ChangeShapes Go.WideShapes Go.ChangeAt Go.RowKit Go.Deep

theorem cells47 : Try.prog.cellsOf 47 = 5 := by kernel_rfl
theorem cells22 : Try.prog.cellsOf 22 = 1 := by kernel_rfl
theorem cells23 : Try.prog.cellsOf 23 = 1 := by kernel_rfl
theorem bytes47 : Try.prog.bytesOf 47 = 80 := by kernel_rfl
/-- What the form gives of a value that came in. -/
structure ArgV (x : V) : Prop where
  n : -9223372036854775808 ≤ x.n ∧ x.n ≤ 9223372036854775807
  text : x.text.length ≤ reachBytes
  texts : ∀ y ∈ x.texts, y.length ≤ reachBytes
  many : x.texts.length * 16 ≤ reachBytes
  nums : ∀ y ∈ x.nums, -9223372036854775808 ≤ y ∧ y ≤ 9223372036854775807
  some : x.nums.length ≤ reachBytes
theorem ArgV.size {x : V} (h : ArgV x) : SizeV x := by
  have hr := reach_is
  exact ⟨fun y hy => by have := h.texts y hy; omega, by have := h.many; omega, by have := h.some; omega⟩
theorem choose_list {A : Type} {p : Nat → A → Prop} : ∀ n, (∀ i, i < n → ∃ x, p i x) → ∃ xs : List A, xs.length = n ∧ ∀ i (h : i < xs.length), p i xs[i] := by
  intro n
  induction n with
  | zero => intro _; exact ⟨[], rfl, fun i h => by simp at h⟩
  | succ n ih =>
    intro h
    obtain ⟨xs, h1, h2⟩ := ih (fun i hi => h i (by omega))
    obtain ⟨x, hx⟩ := h n (by omega)
    refine ⟨xs ++ [x], by simp [h1], fun i hi => ?_⟩
    rw [List.length_append, List.length_singleton] at hi
    by_cases hl : i < xs.length
    · rw [List.getElem_append_left hl]; exact h2 i hl
    · obtain rfl : i = n := by omega
      rw [List.getElem_append_right (by omega)]
      simpa [h1] using hx
theorem has_len {A : Type} {E : A → Value} {w : World} {v : Value} {xs : List A} {a : Option Addr} {k c : Nat} (h : Has E w v xs) (hv : v = .slice a k c) : xs.length = k := by
  rcases h with ⟨h1, h2⟩ | ⟨a', c', h1, _⟩
  · rw [hv] at h1; injection h1 with _ h1 _; rw [h2, h1]; rfl
  · rw [hv] at h1; injection h1 with _ h1 _; exact h1.symm
section
variable {H : Type} {enc : TypeId × Value → H} {W : World}
theorem slice_len {t e : TypeId} (ht : Try.prog.underlying t = some (.slice e)) (hb : 1 ≤ Try.prog.bytesOf e) {fuel : Nat} {v : Value} {x : DataW H × List MemPlace} (h : DataW.trod enc Try.prog W 0 (fun _ => true) true fuel t [v] = some x) (hw : Fits t x.1) :
    ∃ a k c, v = .slice a k c ∧ k ≤ reachBytes := by
  rcases DataW.trod_slice ht h with ⟨hcs, _⟩ | ⟨a, len, cap, elems, rest, n, _, hcs, hx, _, _, _, hlen, _⟩
  · simp only [List.cons.injEq, and_true] at hcs
    exact ⟨_, _, _, hcs, Nat.zero_le _⟩
  · simp only [List.cons.injEq, and_true] at hcs
    refine ⟨_, _, _, hcs, ?_⟩
    have := hw (((elems.map (·.1)).length + (rest.map (·.1)).length) * Try.prog.bytesOf e) (by
      rw [hx, DataW.weights]
      simp only [ht]
      exact List.mem_cons_self)
    rw [List.length_map, List.length_map, hlen] at this
    have h2 : len * 1 ≤ (len + rest.length) * Try.prog.bytesOf e := Nat.mul_le_mul (by omega) hb
    omega
theorem value_cells {fuel : Nat} {cs : List Value} {y : DataW H × List MemPlace} (h : DataW.trod enc Try.prog W 0 (fun _ => true) true fuel 47 cs = some y) (hw : Fits 47 y.1) :
    ∃ x : V, cs = cellsV x ∧ Has strV W x.tv x.texts ∧ Has intV W x.uv x.nums ∧ ArgV x := by
  obtain ⟨ys, n, rfl, hx, hlen, hyl, hf⟩ := DataW.trod_struct Try.underlying47 h
  rw [cells47] at hlen
  match cs, hlen with
  | [c0, c1, c2, c3, c4], _ =>
    match ys, hyl with
    | [y0, y1, y2, y3, y4], _ =>
      have f0 := hf 0 { name := "Kind", type := 3, offset := 0, embedded := false, tag := "", pkgPath := "", byteOffset := 0 } rfl
      have f1 := hf 1 { name := "N", type := 3, offset := 1, embedded := false, tag := "", pkgPath := "", byteOffset := 8 } rfl
      have f2 := hf 2 { name := "Text", type := 9, offset := 2, embedded := false, tag := "", pkgPath := "", byteOffset := 16 } rfl
      have f3 := hf 3 { name := "Texts", type := 22, offset := 3, embedded := false, tag := "", pkgPath := "", byteOffset := 32 } rfl
      have f4 := hf 4 { name := "Nums", type := 23, offset := 4, embedded := false, tag := "", pkgPath := "", byteOffset := 56 } rfl
      dsimp only at f0 f1 f2 f3 f4
      rw [cells3] at f0 f1
      rw [cells9] at f2
      rw [cells22] at f3
      rw [cells23] at f4
      have g0 : DataW.trod enc Try.prog W 0 (fun _ => true) true n 3 [c0] = some y0 := f0
      have g1 : DataW.trod enc Try.prog W 0 (fun _ => true) true n 3 [c1] = some y1 := f1
      have g2 : DataW.trod enc Try.prog W 0 (fun _ => true) true n 9 [c2] = some y2 := f2
      have g3 : DataW.trod enc Try.prog W 0 (fun _ => true) true n 22 [c3] = some y3 := f3
      have g4 : DataW.trod enc Try.prog W 0 (fun _ => true) true n 23 [c4] = some y4 := f4
      have hw' : ∀ m ∈ DataW.weightsEach Try.prog [3, 3, 9, 22, 23] [y0.1, y1.1, y2.1, y3.1, y4.1], m ≤ reachBytes := by
        intro m hm
        refine hw m ?_
        rw [hx, DataW.weights]
        simp only [Try.underlying47]
        exact hm
      have w2 : Fits 9 y2.1 := fun m hm => hw' m (by simp only [DataW.weightsEach, List.mem_append]; exact Or.inr (Or.inr (Or.inl hm)))
      have w3 : Fits 22 y3.1 := fun m hm => hw' m (by simp only [DataW.weightsEach, List.mem_append]; exact Or.inr (Or.inr (Or.inr (Or.inl hm))))
      have w4 : Fits 23 y4.1 := fun m hm => hw' m (by simp only [DataW.weightsEach, List.mem_append]; exact Or.inr (Or.inr (Or.inr (Or.inr (Or.inl hm)))))
      obtain ⟨n0, h0, _, _⟩ := DataW.trod_int Try.underlying3 g0
      obtain ⟨n1, h1, _, b1⟩ := DataW.trod_int Try.underlying3 g1
      obtain ⟨s, h2, e2, _⟩ := DataW.trod_string Try.underlying9 g2
      obtain ⟨a3, k3, l3, q3, _⟩ := slice_len Try.underlying22 (by rw [bytes9]; decide) g3 w3
      obtain ⟨a4, k4, l4, q4, r4⟩ := slice_len Try.underlying23 (by rw [bytes3]; decide) g4 w4
      obtain ⟨xs, hxs, hb3, hm3⟩ := strs_fuel ⟨a3, k3, l3, q3⟩ g3 w3
      obtain ⟨zs, hzs, hb4⟩ := ints_fuel g4
      simp only [List.cons.injEq, and_true] at h0 h1 h2
      have e2' : y2.1 = .lit (.string s.data.toList) := by rw [e2]
      rw [e2'] at w2
      refine ⟨⟨n0, n1, s.data.toList, c3, xs, c4, zs⟩, ?_, hxs, hzs, ⟨i64_bounds b1, fits_string w2, hb3, hm3, hb4, ?_⟩⟩
      · rw [h0, h1, h2]; rfl
      · rw [has_len hzs q4]; exact r4
theorem at_of_cells {a : Addr} {x : V} (h : W.cells? 0 a 5 = some (cellsV x)) : At W a x := by
  obtain ⟨_, _, hat⟩ := World.cells?_some h
  exact ⟨hat 0 (by decide), hat 1 (by decide), hat 2 (by decide), hat 3 (by decide), hat 4 (by decide)⟩
theorem values_fuel {fuel : Nat} {v : Value} {y : DataW H × List MemPlace} (h : DataW.trod enc Try.prog W 0 (fun _ => true) true fuel 42 [v] = some y) (hw : Fits 42 y.1) :
    ∃ xs : List V, HasVs W v xs ∧ (∀ x ∈ xs, ArgV x) ∧ xs.length ≤ reachBytes := by
  obtain ⟨a0, k0, c0, hv0, hlen0⟩ := slice_len Try.underlying42 (by rw [bytes47]; decide) h hw
  rcases DataW.trod_slice Try.underlying42 h with ⟨hcs, _⟩ | ⟨a, len, cap, elems, rest, n, _, hcs, hx, _, _, _, hlen, hel, _⟩
  · simp only [List.cons.injEq, and_true] at hcs
    exact ⟨[], ⟨Or.inl ⟨hcs, rfl⟩, fun x hx => by cases hx⟩, (fun x hx => by cases hx), Nat.zero_le _⟩
  · simp only [List.cons.injEq, and_true] at hcs
    obtain ⟨xs, hl, hp⟩ := choose_list (p := fun i x => At W (a.add (i * 5)) x ∧ Has strV W x.tv x.texts ∧ Has intV W x.uv x.nums ∧ ArgV x) len (fun i hi => by
      have h1 := hel i hi
      rw [cells47, List.getElem?_eq_getElem (by omega), Option.bind_eq_some_iff] at h1
      obtain ⟨cs', hc, ht⟩ := h1
      obtain ⟨x, rfl, h2, h3, h4⟩ := value_cells ht (fun m hm => hw m (by
        rw [hx, DataW.weights]
        simp only [Try.underlying42]
        refine List.mem_cons_of_mem _ (List.mem_append_left _ ?_)
        exact mem_weightsAll (List.mem_map.2 ⟨_, List.getElem_mem _, rfl⟩) hm))
      exact ⟨x, at_of_cells hc, h2, h3, h4⟩)
    refine ⟨xs, ⟨Or.inr ⟨a, cap, by rw [hcs, hl], fun j hj => (hp j hj).1⟩, fun x hx => ?_⟩, fun x hx => ?_, ?_⟩
    · obtain ⟨j, hj, rfl⟩ := List.getElem_of_mem hx
      exact ⟨(hp j hj).2.1, (hp j hj).2.2.1⟩
    · obtain ⟨j, hj, rfl⟩ := List.getElem_of_mem hx
      exact (hp j hj).2.2.2
    · rw [hcs] at hv0
      injection hv0 with _ hv0 _
      omega
end
end Go.Proofs.Ytbaddpkeaealpaa
