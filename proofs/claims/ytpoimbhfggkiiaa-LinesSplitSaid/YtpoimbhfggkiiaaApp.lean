/- One slice of strings appended to another that the call has made. -/
import Derived.Test.YtpoimbhfggkiiaaLawS
import Derived.Test.YtpoimbhfggkiiaaHeld
import Derived.Laws.OwnMore
import Derived.Laws.AppendOwn
namespace Go.Proofs.Ytpoimbhfggkiiaa
open Go.ChangeShapes Go.WideShapes Go.ChangeAt Go.RowKit
open LinesP

theorem strs_one (l : List (List UInt8)) : ∀ u ∈ l.map strV, u.oneCell' = true := by
  intro u hu
  obtain ⟨c, _, rfl⟩ := List.mem_map.1 hu
  rfl
theorem run_app {w : World} (base : Nat) {v u : Value} {xs ys : List (List UInt8)} (hown : w.ownsRow base 9 1 v xs.length (xs.map strV)) (hu : Own w u ys) (hb : base ≤ w.heap.size) (hl : xs.length + ys.length ≤ 1000000) :
    ∃ a c w', (Builtin.append_ #[24, 24] 24 #[v, u]).run Try.prog w = .ok (.slice a (xs ++ ys).length c) w' ∧ w'.ownsRow base 9 1 (.slice a (xs ++ ys).length c) (xs ++ ys).length ((xs ++ ys).map strV) ∧ w.grownBy w' v.ownBlock := by
  obtain ⟨i0, hi, hz0, hz1, hz2⟩ := info_parts info9
  obtain ⟨b2, ho2⟩ := hu
  have e1 : (xs ++ ys).length = xs.length + ys.length := List.length_append
  have fin : ∀ (v' : Value) (w' : World), w'.ownsRow base 9 1 v' (xs.length + ys.length) ((xs ++ ys).map strV) → ∃ a c, v' = .slice a (xs ++ ys).length c := fun v' w' h => by
    rcases h.2 with ⟨rfl, h0⟩ | ⟨g, cap, cur, rfl, _⟩
    · exact ⟨none, 0, by rw [e1, h0]⟩
    · exact ⟨_, _, by rw [e1]⟩
  rcases ho2.2 with ⟨rfl, h0⟩ | ⟨g, cap, cur, rfl, _, hg, hrest⟩
  · obtain rfl : ys = [] := List.eq_nil_of_length_eq_zero h0
    have hr := run_append_owned_none (P := Try.prog) (w := w) base 24 24 9 i0 1 Try.underlying24 hi v _ _ hown
    rw [List.append_nil]
    obtain ⟨a, c, rfl⟩ : ∃ a c, v = .slice a xs.length c := by
      rcases hown.2 with ⟨rfl, h1⟩ | ⟨g, cap, cur, rfl, _⟩
      · exact ⟨none, 0, by rw [h1]⟩
      · exact ⟨_, _, rfl⟩
    exact ⟨a, c, w, hr, hown, World.grownBy.refl _ _⟩
  · obtain ⟨v', w', hr, h1, h2, _⟩ := run_append_own (P := Try.prog) w base 24 24 9 i0 (.string ⟨#[]⟩) 1 16 Try.underlying24 hi hz0 hz1 hz2 rfl (by decide) v xs.length _ hown ⟨g, 0, none⟩ ys.length cap (ys.map strV) (by rw [List.length_map, Nat.mul_one]) (fun j x hj => ho2.cells (g := g) rfl j x hj) (strs_one _) (by unfold maxLen; omega) (by omega) hb
    rw [← List.map_append] at h1
    obtain ⟨a, c, rfl⟩ := fin v' w' h1
    rw [e1] at hr h1 ⊢
    exact ⟨a, c, w', hr, h1, h2⟩
theorem wpList_app {ops : Array Oper} {rest : List Oper} {o : Oper} {a : Act} {w : World} {Q : Exit → Act → World → Prop} (hw : Region.wanted o (yielded ops a.tmps) = true) (s x : Operand)
    (ho : o.op = .call { callee := .builtin .append, args := #[s, x], argTypes := #[24, 24] }) (hty : o.type = 24) (base : Nat) {v u : Value} {xs ys : List (List UInt8)} (hs : a.eval s = v) (hx : a.eval x = u)
    (hown : w.ownsRow base 9 1 v xs.length (xs.map strV)) (hu : Own w u ys) (hb : base ≤ w.heap.size) (hl : xs.length + ys.length ≤ 1000000)
    (h : ∀ a' c' w', w'.ownsRow base 9 1 (.slice a' (xs ++ ys).length c') (xs ++ ys).length ((xs ++ ys).map strV) → w.grownBy w' v.ownBlock → wpList Try.prog ops Q rest (a.put o.dst (.slice a' (xs ++ ys).length c')) w') :
    wpList Try.prog ops Q (o :: rest) a w := by
  obtain ⟨a', c', w', hr, h1, h2⟩ := run_app base hown hu hb hl
  unfold wpList
  rw [if_pos hw]
  left
  unfold Oper.wp
  simp [execOp, ho, hty, resolve, invoke, builtin, hs, hx, hr, Result.andThen]
  have h3 := h a' c' w' h1 h2
  rw [List.length_append] at h3
  exact h3
theorem own_new (w : World) (base : Nat) (hb : base ≤ w.heap.size) : (w.alloc (.cells #[] 9)).ownsRow base 9 1 (.slice (some ⟨w.heap.size, 0, none⟩) 0 0) (([] : List (List UInt8)).length) (([] : List (List UInt8)).map strV) :=
  ⟨rfl, .inr ⟨w.heap.size, 0, #[], rfl, hb, World.alloc_heap_new w _, Nat.le_refl _, Nat.zero_le _, rfl, rfl⟩⟩
theorem own_grown {w w' : World} {base : Nat} {v u : Value} {m : Nat} {ys : List Value} {xs : List (List UInt8)} (h : Own w u xs) (hg : w.grownBy w' v.ownBlock) (hv : w.ownsRow base 9 1 v m ys) (hu : ∀ k, u.ownBlock = some k → k < base) : Own w' u xs := by
  obtain ⟨b, ho⟩ := h
  refine ⟨b, ho.kept hg ?_⟩
  rcases ho.2 with ⟨rfl, _⟩ | ⟨g, cap, cur, rfl, _⟩
  · exact .inl rfl
  · right
    intro e
    have h1 := hu g (by simp [Value.ownBlock])
    rcases hv.2 with ⟨rfl, _⟩ | ⟨g2, _, _, rfl, hb2, _⟩
    · simp [Value.ownBlock] at e
    · simp [Value.ownBlock] at e; omega
theorem Own.lt {w : World} {u : Value} {xs : List (List UInt8)} (h : Own w u xs) : ∀ k, u.ownBlock = some k → k < w.heap.size := by
  obtain ⟨b, ho⟩ := h
  intro k hk
  rcases ho.2 with ⟨rfl, _⟩ | ⟨g, cap, cur, rfl, _, hg, _⟩
  · simp [Value.ownBlock] at hk
  · simp [Value.ownBlock] at hk
    subst hk
    exact (Array.getElem?_eq_some_iff.1 hg).1
/-- An append whose outcome is known. -/
theorem wpList_ran {ops : Array Oper} {rest : List Oper} {o : Oper} {a : Act} {w w' : World} {Q : Exit → Act → World → Prop} (hw : Region.wanted o (yielded ops a.tmps) = true) (s x : Operand)
    (ho : o.op = .call { callee := .builtin .append, args := #[s, x], argTypes := #[24, 24] }) (hty : o.type = 24) {v u v' : Value} (hs : a.eval s = v) (hx : a.eval x = u)
    (hr : (Builtin.append_ #[24, 24] 24 #[v, u]).run Try.prog w = .ok v' w') (h : wpList Try.prog ops Q rest (a.put o.dst v') w') : wpList Try.prog ops Q (o :: rest) a w := by
  unfold wpList
  rw [if_pos hw]
  left
  unfold Oper.wp
  simp [execOp, ho, hty, resolve, invoke, builtin, hs, hx, hr, Result.andThen]
  exact h
/-- Two slices, gathered in a new one. -/
theorem two_apps {w : World} {u1 u2 u3 : Value} {L M K : List (List UInt8)} {n m : Nat} (o1 : Own w u1 L) (o2 : Own w u2 M) (o3 : Own w u3 K) (hn : L.length = n) (hm : M.length = m) (hl : n + m ≤ 1000000) :
    ∃ a6 c6 w6 a7 c7 w7, (Builtin.append_ #[24, 24] 24 #[.slice (some ⟨w.heap.size, 0, none⟩) 0 0, u1]).run Try.prog (w.alloc (.cells #[] 9)) = .ok (.slice a6 n c6) w6 ∧
      (Builtin.append_ #[24, 24] 24 #[.slice a6 n c6, u2]).run Try.prog w6 = .ok (.slice a7 (n + m) c7) w7 ∧ Below w.heap.size w w7 ∧ Own w7 u3 K ∧ Own w7 (.slice a7 (n + m) c7) (L ++ M) := by
  have hb := (Below.refl w.heap.size w).alloc (Nat.le_refl _) (.cells #[] 9)
  have hN := own_new w w.heap.size (Nat.le_refl _)
  obtain ⟨a6, c6, w6, r6, h6, g6⟩ := run_app w.heap.size hN (o1.step hb) (by simp) (by rw [hn]; simp; omega)
  rw [List.nil_append] at r6 h6
  have s6 := g6.size
  rw [World.size_alloc] at s6
  obtain ⟨a7, c7, w7, r7, h7, g7⟩ := run_app w.heap.size h6 (own_grown (o2.step hb) g6 hN o2.lt) (by omega) (by rw [hn, hm]; exact hl)
  rw [List.length_append, hn, hm] at r7 h7
  rw [hn] at r6
  have b6 : Below w.heap.size w w6 := hb.grown g6 hb.size (fun k e => by simp [Value.ownBlock] at e; omega)
  have b7 : Below w.heap.size w w7 := b6.grown g7 b6.size (fun k e => (h6.lt k e).1)
  exact ⟨a6, c6, w6, a7, c7, w7, r6, r7, b7, o3.step b7, ⟨_, by rw [List.length_append, hn, hm]; exact h7⟩⟩
end Go.Proofs.Ytpoimbhfggkiiaa
