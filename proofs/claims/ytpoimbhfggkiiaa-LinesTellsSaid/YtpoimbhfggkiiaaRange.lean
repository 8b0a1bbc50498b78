/- A loop over strings.Lines: the loop's record and its rounds; the iterator keeps what is left of the string in a box of its own. -/
import Derived.RangeFuncNested
import Derived.RangeFuncCalls
import Derived.RangeFuncLeaves
import Derived.RangeFuncBox
import Derived.Test.YtpoimbhfggkiiaaLinesPure
namespace Go.Proofs.Ytpoimbhfggkiiaa
open Go.RowKit

/-- An invariant that minds neither new memory, nor the box bx, nor blocks without cells from B on. -/
def Calm {β : Type} (bx B : Nat) (T : TypeId) (I : β → World → Prop) : Prop :=
  ∀ s W W' row, I s W → W.grownBy W' row → (∀ r, row = some r → (r = bx ∧ ∃ u, Boxed W bx T u) ∨ (B ≤ r ∧ ∃ o : Obj, W.heap[r]? = some o ∧ o.isCells = false)) → I s W'

/-- What the iterator over the pieces xs does, its box bx holding the string s: it hands each piece to yield, in their order. -/
def Gives (n : Nat) (P : Program) (gf bx : Nat) (T : TypeId) (s : ByteArray) (xs : List ByteArray) : Prop :=
  ∀ (l : Nat) (J : List ByteArray → World → Prop) (W : World),
    (∀ pre A B row, J pre A → A.grownBy B row → (∀ r, row = some r → r = bx ∧ ∃ u, Boxed A bx T u) → J pre B) →
    (∀ pre x rest W1 u, xs = pre ++ x :: rest → J pre W1 → Boxed W1 bx T u → YieldAt Fence.wide (n - 1) P l #[.string x] W1 fun e W' => e = .returned (.bool true) ∧ J (pre ++ [x]) W' ∧ W'.heap[bx]? = W1.heap[bx]?) →
    Boxed W bx T (.string s) → J [] W →
    CallsIn Fence.wide n P gf #[.func (.yield l) #[] #[], .pointer (some ⟨bx, 0, none⟩)] W fun e W' => (∃ v, e = .returned v) ∧ J xs W'

/-- How a round's body ends: it goes on, the invariant stands, the iterator's box and what is no cells lie as they lay. -/
def onward (bx B : Nat) (I : List ByteArray → World → Prop) (xs : List ByteArray) (W : World) : Exit → Act → World → Prop
  | .normal, _, W' => KeepsFrom B W W' ∧ W'.heap[bx]? = W.heap[bx]? ∧ I xs W'
  | _, _, _ => False

theorem wp_lines {n : Nat} {P : Program} {g : Operand} {ps : Array Tmp} {assign body : Code} {Q : Exit → Act → World → Prop} {a : Act} {w : World} (h1 : 1 ≤ n) {gf bx : Nat} {T : TypeId} {s : ByteArray} {xs : List ByteArray}
    (hg : a.eval g = .func (.func gf) #[] #[.pointer (some ⟨bx, 0, none⟩)]) (eg : ∀ args w, (callFunc gf args).run P w = .ok (.enter gf args) w) (hps : ps.size = 1)
    (hseq : Gives (n - 1) P gf bx T s xs) (hb : Boxed w bx T (.string s))
    (I : List ByteArray → World → Prop) (hI : Calm bx w.heap.size T I) (h0 : I [] w) (a₁ : ByteArray → Act)
    (hassign : ∀ (l : Nat) (x : ByteArray) (W : World) (K : Act → World → Prop), K (a₁ x) W →
      assign.wpIn (Fence.wide.inRound l) (n - 1 - 1) P (Exit.then K (fun _ _ _ => False)) { tmps := (ps.zip #[.string x]).foldl (fun t (p, v) => t.setIfInBounds p v) a.tmps, defers := [] } W)
    (hbody : ∀ (l : Nat) (pre : List ByteArray) (x : ByteArray) (rest : List ByteArray) (W : World) (u : Value), xs = pre ++ x :: rest → I pre W → Boxed W bx T u → w.heap.size ≤ W.heap.size →
      body.wpIn (Fence.wide.inRound l) (n - 1 - 1) P (onward bx w.heap.size I (pre ++ [x]) W) (a₁ x) W)
    (hdone : ∀ (D : Nat) (W : World), w.heap.size ≤ D → I xs W → W.heap[D]? = some (.deferred (some [])) → Q .normal { a with defers := { target := .collected D, args := #[] } :: a.defers } W) :
    (Code.rangeFunc g ps assign body).wpIn Fence.wide n P Q a w := by
  have hbx := hb.lt
  refine wpIn_rangeFunc fun fn hfn => ?_
  obtain ⟨rc, hrc⟩ : ∃ rc : LoopState → Loop, rc = fun st => { state := st, pending := none, fn, tmps := a.tmps, params := ps, assign, body, defers := w.heap.size } := ⟨_, rfl⟩
  obtain ⟨W1, hW1⟩ : ∃ W1, (w.alloc (.deferred (some []))).alloc (.loop (rc .ready)) = W1 := ⟨_, rfl⟩
  have hsz1 : W1.heap.size = w.heap.size + 2 := by rw [← hW1]; simp
  have hL1 : W1.heap[w.heap.size + 1]? = some (.loop (rc .ready)) := by
    rw [← hW1]
    have := World.alloc_heap_new (w.alloc (.deferred (some []))) (.loop (rc .ready))
    rwa [World.size_alloc] at this
  have hD1 : W1.heap[w.heap.size]? = some (.deferred (some [])) := by
    rw [← hW1]; exact (Below.heap_alloc _ _ _ (by simp)).trans (World.alloc_heap_new w _)
  have hb1 : Boxed W1 bx T (.string s) := by rw [← hW1]; exact (hb.alloc _).alloc _
  have calmNew : ∀ {pre W} (o : Obj), I pre W → I pre (W.alloc o) := fun o h => hI _ _ _ none h (World.grownBy_alloc _ o none) (fun r e => by cases e)
  have calmPut : ∀ {pre W} {o : Obj} (l : Nat) (o' : Obj), I pre W → w.heap.size ≤ l → W.heap[l]? = some o → o.isCells = false → I pre (W.putObj l o') :=
    fun l o' h hl ho hc => hI _ _ _ (some l) h (grownBy_putObj' _ l o') (fun r e => by cases e; exact .inr ⟨hl, _, ho, hc⟩)
  have hI1 : I [] W1 := by rw [← hW1]; exact calmNew _ (calmNew _ h0)
  refine ⟨w.heap.size + 1, [{ target := .collected w.heap.size, args := #[] }], W1, { target := .fn (.func gf) #[.pointer (some ⟨bx, 0, none⟩)], args := #[.func (.yield (w.heap.size + 1)) #[] #[]] }, W1, gf,
    #[.func (.yield (w.heap.size + 1)) #[] #[]] ++ #[.pointer (some ⟨bx, 0, none⟩)], W1, ?_, ?_, ?_, ?_, fun _ => h1, ?_⟩
  · rw [← hW1, hrc]; exact run_enterLoop_outer _ _ _ _ _
  · simp only [resolve, hg]
    simp [go_sem]
  · intro f' _; trivial
  · simp [invoke, go_sem, eg]
  refine (hseq (w.heap.size + 1) (fun pre W => I pre W ∧ W.heap[w.heap.size + 1]? = some (.loop (rc .ready)) ∧ W.heap[w.heap.size]? = some (.deferred (some [])) ∧ w.heap.size ≤ W.heap.size) W1 ?_ ?_ hb1 ⟨hI1, hL1, hD1, by omega⟩).mono ?_
  · rintro pre A B row ⟨hi, hl, hd, hs⟩ hgr hr
    have keep : ∀ k o, A.heap[k]? = some o → k ≠ bx → B.heap[k]? = some o := fun k o hk hne =>
      (hgr.block k (Array.getElem?_eq_some_iff.1 hk).1 (fun e => hne (hr k e.symm).1)).trans hk
    exact ⟨hI _ _ _ row hi hgr (fun r e => .inl (hr r e)), keep _ _ hl (by omega), keep _ _ hd (by omega), Nat.le_trans hs hgr.size⟩
  · rintro pre x rest W u hx ⟨hi, hl, hd, hs⟩ hbu
    have hlt : w.heap.size + 1 < W.heap.size := (Array.getElem?_eq_some_iff.1 hl).1
    have hy := run_yield (P := P) (args := #[.string x]) hl (by rw [hrc]; exact hps.symm)
    rw [hrc] at hy
    refine ⟨fn, _, assign, body, hy, roundIn_of_wpIn hfn (hassign _ x W _ ⟨_, run_beginRound hl (by rw [hrc]), ?_⟩)⟩
    obtain ⟨W2, hW2⟩ : ∃ W2, W.putObj (w.heap.size + 1) (.loop { rc .ready with state := .busy }) = W2 := ⟨_, rfl⟩
    have hl2 : W2.heap[w.heap.size + 1]? = some (.loop { rc .ready with state := .busy }) := by rw [← hW2]; exact World.putObj_heap_same hlt
    have hd2 : W2.heap[w.heap.size]? = some (.deferred (some [])) := by rw [← hW2]; exact (World.putObj_heap_other (by omega)).trans hd
    have hbx2 : W2.heap[bx]? = W.heap[bx]? := by rw [← hW2]; exact World.putObj_heap_other (by omega)
    have hi2 : I pre W2 := by rw [← hW2]; exact calmPut _ _ hi (by omega) hl rfl
    have hs2 : W2.heap.size = W.heap.size := by rw [← hW2]; simp
    rw [hW2]
    refine wpIn_mono (hbody _ pre x rest W2 u hx hi2 (hbx2.trans hbu) (by omega)) ?_
    rintro e a3 W3 hp
    cases e with
    | normal =>
      obtain ⟨hk3, hbx3, hi3⟩ := hp
      have hl3 := hk3.same _ _ (by omega) hl2 rfl
      have hd3 := hk3.same _ _ (Nat.le_refl _) hd2 rfl
      have hr := run_endRound (P := P) none hl3
      rw [hrc] at hr hl3
      refine ⟨_, _, hr, rfl, ⟨calmPut _ _ hi3 (by omega) hl3 rfl, ?_, ?_, ?_⟩, ?_⟩
      · rw [hrc]; exact World.putObj_heap_same (Array.getElem?_eq_some_iff.1 hl3).1
      · exact (World.putObj_heap_other (by omega)).trans hd3
      · have := hk3.size; simp; omega
      · exact ((World.putObj_heap_other (by omega)).trans hbx3).trans hbx2
    | ret => exact hp.elim
    | exit id => exact hp.elim
    | goto t => exact hp.elim
    | panic ch => exact hp.elim
    | outgrown => exact hp.elim
  · rintro e W2 ⟨⟨v, rfl⟩, hi, hl, hd, hs⟩
    have he := run_endLoop (P := P) hl (by rw [hrc]; simp)
    rw [hrc] at he hl
    exact ⟨none, _, he, hdone _ _ (Nat.le_refl _) (calmPut _ _ hi (by omega) hl rfl) ((World.putObj_heap_other (by omega)).trans hd)⟩
end Go.Proofs.Ytpoimbhfggkiiaa
