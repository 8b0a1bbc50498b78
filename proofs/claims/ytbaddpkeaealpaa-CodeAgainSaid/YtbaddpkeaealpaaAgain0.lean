/- What the walk of the law CodeAgain needs: the values that it gathers, in memory. -/
import Derived.Test.YtbaddpkeaealpaaBack
import Derived.Deep.AppendLies
namespace Go.Proofs.Ytbaddpkeaealpaa
open Go.ChangeShapes Go.WideShapes Go.ChangeAt Go.RowKit

theorem own_bounds {w : World} {base e n : Nat} {v : Value} {xs : List Value} (h : w.ownsRow base e 1 v n xs) : ∀ k, blk v = some k → base ≤ k ∧ k < w.heap.size := by
  intro k hk
  rcases h.2 with ⟨rfl, _⟩ | ⟨g, cap, cur, rfl, hb, hg, _⟩
  · cases hk
  · cases hk; exact ⟨hb, (Array.getElem?_eq_some_iff.1 hg).1⟩
theorem declist_two {b : Nat} {s : RS} {w : World} (h : Rd 57 w b s) (hs : s.1.length ≤ 1000000000000) :
    Calls Try.prog 26 #[.pointer (some ⟨b, 0, none⟩)] w fun e w' => ∃ v, e = .returned v ∧ Has strV w' v (allP textP s).1 ∧ (∀ k, blk v = some k → w.heap.size ≤ k ∧ k < w'.heap.size) ∧ Rd 57 w' b (allP textP s).2 ∧ w.grownBy w' (some b) := by
  have HH := Lib.hid (declist_all h hs)
  clear h
  go_enter Try.func26, Try.ntmps26
  go_wp2_with fail
  refine HH.out.mono ?_
  rintro e w1 ⟨v, rfl, h1, h2, h3⟩
  go_wp2_with fail
  go_ret
  exact ⟨v, rfl, (Has.of_own h1).1, own_bounds h1, h2, h3⟩
theorem decnums_two {b : Nat} {s : RS} {w : World} (h : Rd 57 w b s) (hs : s.1.length ≤ 1000000000000) :
    Calls Try.prog 29 #[.pointer (some ⟨b, 0, none⟩)] w fun e w' => ∃ v, e = .returned v ∧ Has intV w' v (allP intP s).1 ∧ (∀ k, blk v = some k → w.heap.size ≤ k ∧ k < w'.heap.size) ∧ Rd 57 w' b (allP intP s).2 ∧ w.grownBy w' (some b) := by
  have HH := Lib.hid (decnums_all h hs)
  clear h
  go_enter Try.func29, Try.ntmps29
  go_wp2_with fail
  refine HH.out.mono ?_
  rintro e w1 ⟨v, rfl, h1, h2, h3⟩
  go_wp2_with fail
  go_ret
  exact ⟨v, rfl, (Has.of_own h1).1, own_bounds h1, h2, h3⟩

/-- A value alone in the block b. -/
def Blk (w : World) (b : Nat) (x : V) : Prop := w.heap[b]? = some (.cells (cellsV x).toArray 47 (0, 0))
theorem Blk.lt {w : World} {b : Nat} {x : V} (h : Blk w b x) : b < w.heap.size := (Array.getElem?_eq_some_iff.1 h).1
theorem Blk.c0 {w : World} {b : Nat} {x : V} (h : Blk w b x) : w.cell? ⟨b, 0, none⟩ = some (.int .i64 x.kind) := by rw [cell_of_row w b 0 _ 47 (0, 0) h]; rfl
theorem Blk.c1 {w : World} {b : Nat} {x : V} (h : Blk w b x) : w.cell? ⟨b, 1, none⟩ = some (.int .i64 x.n) := by rw [cell_of_row w b 1 _ 47 (0, 0) h]; rfl
theorem Blk.c2 {w : World} {b : Nat} {x : V} (h : Blk w b x) : w.cell? ⟨b, 2, none⟩ = some (.string ⟨x.text.toArray⟩) := by rw [cell_of_row w b 2 _ 47 (0, 0) h]; rfl
theorem Blk.c3 {w : World} {b : Nat} {x : V} (h : Blk w b x) : w.cell? ⟨b, 3, none⟩ = some x.tv := by rw [cell_of_row w b 3 _ 47 (0, 0) h]; rfl
theorem Blk.c4 {w : World} {b : Nat} {x : V} (h : Blk w b x) : w.cell? ⟨b, 4, none⟩ = some x.uv := by rw [cell_of_row w b 4 _ 47 (0, 0) h]; rfl
theorem Blk.frozen {w : World} {b : Nat} {x : V} (h : Blk w b x) (j : Nat) : w.frozen? ⟨b, j, none⟩ = false := frozen_of_row w b j _ 47 h
theorem Blk.kept {w w' : World} {b : Nat} {x : V} {row : Option Nat} (h : Blk w b x) (hg : w.grownBy w' row) (hne : some b ≠ row) : Blk w' b x := by
  unfold Blk
  rw [hg.block b h.lt hne]; exact h
theorem Blk.set1 {w : World} {b : Nat} {x : V} (h : Blk w b x) (n : Int) : Blk (w.setCell ⟨b, 1, none⟩ (.int .i64 n)) b { x with n := n } := by
  unfold Blk; rw [heap_setCell_same w b 1 _ 47 _ h]; rfl
theorem Blk.set2 {w : World} {b : Nat} {x : V} (h : Blk w b x) (t : List UInt8) : Blk (w.setCell ⟨b, 2, none⟩ (.string ⟨t.toArray⟩)) b { x with text := t } := by
  unfold Blk; rw [heap_setCell_same w b 2 _ 47 _ h]; rfl
theorem Blk.set3 {w : World} {b : Nat} {x : V} (h : Blk w b x) (v : Value) (l : List (List UInt8)) : Blk (w.setCell ⟨b, 3, none⟩ v) b { x with tv := v, texts := l } := by
  unfold Blk; rw [heap_setCell_same w b 3 _ 47 _ h]; rfl
theorem Blk.set4 {w : World} {b : Nat} {x : V} (h : Blk w b x) (v : Value) (l : List Int) : Blk (w.setCell ⟨b, 4, none⟩ v) b { x with uv := v, nums := l } := by
  unfold Blk; rw [heap_setCell_same w b 4 _ 47 _ h]; rfl

/-- The lists of the values gathered so far: none lies in the Reader's block or in the row that gathers them. -/
def Acc (w : World) (r : Nat) (ub : Option Nat) (acc : List V) : Prop := ∀ x ∈ acc, Has strV w x.tv x.texts ∧ Has intV w x.uv x.nums ∧ ∀ k, (blk x.tv = some k ∨ blk x.uv = some k) → k < w.heap.size ∧ k ≠ r ∧ some k ≠ ub
theorem Acc.nil (w : World) (r : Nat) (ub : Option Nat) : Acc w r ub [] := fun x hx => by cases hx
theorem Acc.step {w w' : World} {r : Nat} {ub ub' row : Option Nat} {acc : List V} (h : Acc w r ub acc) (hg : w.grownBy w' row) (h1 : ∀ k, k < w.heap.size → k ≠ r → some k ≠ ub → some k ≠ row) (h2 : ∀ k, k < w.heap.size → some k ≠ ub → some k ≠ ub') : Acc w' r ub' acc := by
  intro x hx
  obtain ⟨a, b, c⟩ := h x hx
  refine ⟨a.kept hg (fun k hk => ?_), b.kept hg (fun k hk => ?_), fun k hk => ?_⟩
  · obtain ⟨c1, c2, c3⟩ := c k (Or.inl hk); exact h1 k c1 c2 c3
  · obtain ⟨c1, c2, c3⟩ := c k (Or.inr hk); exact h1 k c1 c2 c3
  · obtain ⟨c1, c2, c3⟩ := c k hk
    exact ⟨Nat.lt_of_lt_of_le c1 hg.size, c2, h2 k c1 c3⟩
theorem Acc.snoc {w : World} {r : Nat} {ub : Option Nat} {acc : List V} {x : V} (h : Acc w r ub acc) (a : Has strV w x.tv x.texts) (b : Has intV w x.uv x.nums) (c : ∀ k, (blk x.tv = some k ∨ blk x.uv = some k) → k < w.heap.size ∧ k ≠ r ∧ some k ≠ ub) : Acc w r ub (acc ++ [x]) := by
  intro y hy
  rcases List.mem_append.1 hy with hy | hy
  · exact h y hy
  · rw [List.mem_singleton] at hy; subst hy; exact ⟨a, b, c⟩
theorem flat_five (acc : List V) : ∀ j (h : j < acc.length) i, i < 5 → (acc.flatMap cellsV)[j * 5 + i]? = (cellsV acc[j])[i]? := by
  induction acc with
  | nil => intro j h; simp at h
  | cons x acc ih =>
    intro j h i hi
    rw [List.flatMap_cons]
    cases j with
    | zero =>
      rw [Nat.zero_mul, Nat.zero_add, List.getElem?_append_left (by show i < 5; exact hi)]; rfl
    | succ j =>
      rw [List.getElem?_append_right (by show 5 ≤ _; omega)]
      have e : (j + 1) * 5 + i - (cellsV x).length = j * 5 + i := by show (j + 1) * 5 + i - 5 = _; omega
      rw [e, ih j (by simpa using h) i hi]; rfl
theorem own_vals {w : World} {base : Nat} {u : Value} {acc : List V} {r : Nat} {ub : Option Nat} (h : w.ownsRow base 47 5 u acc.length (acc.flatMap cellsV)) (ha : Acc w r ub acc) : HasVs w u acc := by
  refine ⟨?_, fun x hx => ⟨(ha x hx).1, (ha x hx).2.1⟩⟩
  rcases h.2 with ⟨rfl, h0⟩ | ⟨g, cap, cur, rfl, _⟩
  · exact Or.inl ⟨rfl, List.eq_nil_of_length_eq_zero h0⟩
  · refine Or.inr ⟨⟨g, 0, none⟩, cap, rfl, fun j hj => ?_⟩
    have hadd : (⟨g, 0, none⟩ : Addr).add (j * 5) = ⟨g, j * 5, none⟩ := by unfold Addr.add; split <;> simp_all
    rw [hadd]
    have hc : ∀ i, i < 5 → w.cell? ⟨g, j * 5 + i, none⟩ = (cellsV acc[j])[i]? := fun i hi => by
      rw [h.cellAt (j * 5 + i) (by omega), flat_five acc j hj i hi]
    exact ⟨hc 0 (by decide), hc 1 (by decide), hc 2 (by decide), hc 3 (by decide), hc 4 (by decide)⟩
theorem slice_one {A : Type} {E : A → Value} {w : World} {v : Value} {xs : List A} (h : Has E w v xs) : v.oneCell' = true := by
  rcases h with ⟨rfl, _⟩ | ⟨a, c, rfl, _⟩ <;> rfl
theorem cellsV_one {w : World} {x : V} (a : Has strV w x.tv x.texts) (b : Has intV w x.uv x.nums) : ∀ u ∈ cellsV x, u.oneCell' = true := by
  intro u hu
  unfold cellsV at hu
  simp only [List.mem_cons, List.not_mem_nil, or_false] at hu
  rcases hu with rfl | rfl | rfl | rfl | rfl
  · rfl
  · rfl
  · rfl
  · exact slice_one a
  · exact slice_one b
theorem cells_alloc (w : World) (b : Nat) (hb : w.heap.size = b) (l : List Value) (e : TypeId) : ∀ j u, l[j]? = some u → (w.alloc (.cells l.toArray e)).cell? ((⟨b, 0, none⟩ : Addr).add j) = some u := by
  subst hb
  intro j u h
  have := World.cell?_alloc_mark w l.toArray e (0, 0) j
  have e : (⟨w.heap.size, 0, none⟩ : Addr).add j = ⟨w.heap.size, j, none⟩ := by
    simp only [Addr.add, Nat.zero_add]
    split
    · rename_i hj; rw [hj]
    · rfl
  rw [e, this, List.getElem?_toArray]; exact h
theorem info47 : (Try.prog.info? 47).map (fun i => (i.zero, i.size, i.bytes)) = some (some (.agg #[.int .i64 0, .int .i64 0, .string ⟨#[]⟩, .slice none 0 0, .slice none 0 0]), 5, 80) := by kernel_rfl

theorem manyP_flag {A : Type} {f : RS → A × RS} (k : Nat) : ∀ (acc : List A) (s : RS), s.2 = false → (manyP f k acc s).2.2 = true → (manyP f k acc s).1 = [] := by
  induction k with
  | zero => intro acc s h h2; rw [manyP] at h2; rw [h] at h2; cases h2
  | succ k ih =>
    intro acc s h h2
    rw [manyP] at h2 ⊢
    split at h2
    · rename_i h3; rw [if_pos h3]
    · rename_i h3
      rw [if_neg h3]
      exact ih _ _ (by simpa using h3) h2
theorem allP_flag {A : Type} {f : RS → A × RS} {s : RS} (hg : Good s) (h : (allP f s).2.2 = true) : (allP f s).1 = [] := by
  unfold allP at h ⊢
  split at h
  · rename_i h1; rw [if_pos h1]
  · rename_i h1
    rw [if_neg h1]
    cases hn : nextN s.1 with
    | none => rw [numP_none hn]; rfl
    | some x =>
      obtain ⟨n, r⟩ := x
      rw [numP_some hn] at h ⊢
      cases hs : s.2 with
      | false => rw [hs] at h; exact manyP_flag n [] (r, false) rfl h
      | true =>
        rw [hg hs] at hn
        have h0 : nextN [] = none := rfl
        rw [h0] at hn; cases hn
theorem manyP_each {A : Type} {f : RS → A × RS} {p : A → Prop} (hf : ∀ s, p (f s).1) (k : Nat) : ∀ (acc : List A) (s : RS), (∀ x ∈ acc, p x) → ∀ x ∈ (manyP f k acc s).1, p x := by
  induction k with
  | zero => intro acc s h; exact h
  | succ k ih =>
    intro acc s h
    rw [manyP]
    split
    · intro x hx; cases hx
    · refine ih _ _ fun x hx => ?_
      rcases List.mem_append.1 hx with hx | hx
      · exact h x hx
      · rw [List.mem_singleton] at hx; subst hx; exact hf s
theorem nums_each (s : RS) : ∀ y ∈ (allP intP s).1, y ≤ 9223372036854775807 := by
  unfold allP
  split
  · intro y hy; cases hy
  · refine manyP_each (p := fun y => y ≤ 9223372036854775807) (fun s => ?_) _ [] _ (fun x hx => by cases hx)
    have := (numP_len s).2
    show ((numP s).1 : Int) ≤ _
    omega
end Go.Proofs.Ytbaddpkeaealpaa
