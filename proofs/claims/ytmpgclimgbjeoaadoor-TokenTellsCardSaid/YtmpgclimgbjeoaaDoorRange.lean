/- A loop over an iterator of strings, which may be left early: the loop's record and its rounds. -/
import Derived.RangeFuncNested
import Derived.RangeFuncCalls
import Derived.RangeFuncLeaves
import Derived.RangeFuncBox
namespace Go.Proofs.YtmpgclimgbjeoaaDoor
open Go.RowKit

/-- The blocks of K lie as they lay. -/
def Same (K : Nat → Prop) (W W' : World) : Prop := ∀ k, K k → W'.heap[k]? = W.heap[k]?
theorem Same.trans {K : Nat → Prop} {A B C : World} (h : Same K A B) (k : Same K B C) : Same K A C := fun i hi => (k i hi).trans (h i hi)
/-- What is no cells, from B on, is turned at most: the loop's own book-keeping. -/
def Book (B : Nat) (W W' : World) : Prop := ∃ row, W.grownBy W' row ∧ ∀ r, row = some r → B ≤ r ∧ ∃ o : Obj, W.heap[r]? = some o ∧ o.isCells = false
/-- An invariant that minds neither the iterator's steps nor the loop's book-keeping. -/
def Calm {β : Type} (St : World → World → Prop) (B : Nat) (I : β → World → Prop) : Prop :=
  ∀ s W W', I s W → (St W W' ∨ Book B W W') → I s W'

/-- What the iterator over xs does: St: how it turns the world between two rounds; K: the blocks that a round leaves as they lie; Bx: what it tells the round. -/
def Gives (n : Nat) (P : Program) (gf : Nat) (lb : Array Value) (St : World → World → Prop) (K : Nat → Prop) (Bx S : World → Prop) (xs : List ByteArray) : Prop :=
  ∀ (l : Nat) (J Jx : List ByteArray → World → Prop) (W : World),
    (∀ pre A B, J pre A → St A B → J pre B) → (∀ pre A B, Jx pre A → St A B → Jx pre B) →
    (∀ pre x rest W1, xs = pre ++ x :: rest → J pre W1 → Bx W1 → YieldAt Fence.wide (n - 1) P l #[.string x] W1 fun e W' => (e = .returned (.bool true) ∧ J (pre ++ [x]) W' ∧ Same K W1 W') ∨ (e = .returned (.bool false) ∧ Jx pre W')) →
    S W → J [] W →
    CallsIn Fence.wide n P gf (#[.func (.yield l) #[] #[]] ++ lb) W fun e W' => (∃ v, e = .returned v) ∧ (J xs W' ∨ ∃ pre, Jx pre W')

/-- How a round's body ends. -/
def onward (K : Nat → Prop) (B : Nat) (I : List ByteArray → World → Prop) (Ix : Code → List ByteArray → World → Prop) (pre : List ByteArray) (x : ByteArray) (W : World) : Exit → Act → World → Prop
  | .normal, _, W' => KeepsFrom B W W' ∧ Same K W W' ∧ I (pre ++ [x]) W'
  | .ret, _, W' => KeepsFrom B W W' ∧ Ix .ret pre W'
  | .exit id, _, W' => KeepsFrom B W W' ∧ Ix (.exit id) pre W'
  | .goto t, _, W' => KeepsFrom B W W' ∧ Ix (.goto t) pre W'
  | _, _, _ => False

theorem wp_iter {n : Nat} {P : Program} {g : Operand} {ps : Array Tmp} {assign body : Code} {Q : Exit → Act → World → Prop} {a : Act} {w : World} (h1 : 1 ≤ n) {gf : Nat} {lb : Array Value} {St : World → World → Prop} {K : Nat → Prop} {Bx S : World → Prop} {xs : List ByteArray}
    (hg : a.eval g = .func (.func gf) #[] lb) (eg : ∀ args w, (callFunc gf args).run P w = .ok (.enter gf args) w) (hps : ps.size = 1)
    (hseq : Gives (n - 1) P gf lb St K Bx S xs) (hS : ∀ o o', S ((w.alloc o).alloc o')) (hK : ∀ k, K k → k < w.heap.size)
    (hSt : ∀ A B, St A B → A.heap.size ≤ B.heap.size ∧ ∀ (k : Nat) (o : Obj), A.heap[k]? = some o → o.isCells = false → B.heap[k]? = some o)
    (hBx : ∀ A B, Bx A → Book w.heap.size A B → Bx B)
    (I : List ByteArray → World → Prop) (Ix : Code → List ByteArray → World → Prop) (hI : Calm St w.heap.size I) (hIx : ∀ c, Calm St w.heap.size (Ix c)) (h0 : I [] w) (a₁ : ByteArray → Act)
    (hassign : ∀ (l : Nat) (x : ByteArray) (W : World) (K : Act → World → Prop), K (a₁ x) W →
      assign.wpIn (Fence.wide.inRound l) (n - 1 - 1) P (Exit.then K (fun _ _ _ => False)) { tmps := (ps.zip #[.string x]).foldl (fun t (p, v) => t.setIfInBounds p v) a.tmps, defers := [] } W)
    (hbody : ∀ (l : Nat) (pre : List ByteArray) (x : ByteArray) (rest : List ByteArray) (W : World), xs = pre ++ x :: rest → I pre W → Bx W → w.heap.size ≤ W.heap.size →
      body.wpIn (Fence.wide.inRound l) (n - 1 - 1) P (onward K w.heap.size I Ix pre x W) (a₁ x) W)
    (hdone : ∀ (D : Nat) (W : World), w.heap.size ≤ D → I xs W → W.heap[D]? = some (.deferred (some [])) → Q .normal { a with defers := { target := .collected D, args := #[] } :: a.defers } W)
    (hstop : ∀ (D : Nat) (c : Code) (pre : List ByteArray) (W : World), w.heap.size ≤ D → Ix c pre W → W.heap[D]? = some (.deferred (some [])) → c.wpIn Fence.wide n P Q { a with defers := { target := .collected D, args := #[] } :: a.defers } W) :
    (Code.rangeFunc g ps assign body).wpIn Fence.wide n P Q a w := by
  refine wpIn_rangeFunc fun fn hfn => ?_
  obtain ⟨rc, hrc⟩ : ∃ rc : LoopState → Option Code → Loop, rc = fun st pe => { state := st, pending := pe, fn, tmps := a.tmps, params := ps, assign, body, defers := w.heap.size } := ⟨_, rfl⟩
  obtain ⟨W1, hW1⟩ : ∃ W1, (w.alloc (.deferred (some []))).alloc (.loop (rc .ready none)) = W1 := ⟨_, rfl⟩
  have hsz1 : W1.heap.size = w.heap.size + 2 := by rw [← hW1]; simp
  have hL1 : W1.heap[w.heap.size + 1]? = some (.loop (rc .ready none)) := by
    rw [← hW1]
    have := World.alloc_heap_new (w.alloc (.deferred (some []))) (.loop (rc .ready none))
    rwa [World.size_alloc] at this
  have hD1 : W1.heap[w.heap.size]? = some (.deferred (some [])) := by
    rw [← hW1]; exact (Below.heap_alloc _ _ _ (by simp)).trans (World.alloc_heap_new w _)
  have bookPut : ∀ {W : World} {o : Obj} (l : Nat) (o' : Obj), w.heap.size ≤ l → W.heap[l]? = some o → o.isCells = false → Book w.heap.size W (W.putObj l o') :=
    fun l o' hl ho hc => ⟨some l, grownBy_putObj' _ l o', fun r e => by cases e; exact ⟨hl, _, ho, hc⟩⟩
  have bookNew : ∀ (W : World) (o : Obj), Book w.heap.size W (W.alloc o) := fun W o => ⟨none, World.grownBy_alloc _ o none, fun r e => by cases e⟩
  have hI1 : I [] W1 := by rw [← hW1]; exact hI _ _ _ (hI _ _ _ h0 (.inr (bookNew _ _))) (.inr (bookNew _ _))
  have samePut : ∀ {W : World} (l : Nat) (o' : Obj), w.heap.size ≤ l → Same K W (W.putObj l o') := fun l o' hl k hk => World.putObj_heap_other (by have := hK k hk; omega)
  refine ⟨w.heap.size + 1, [{ target := .collected w.heap.size, args := #[] }], W1, { target := .fn (.func gf) lb, args := #[.func (.yield (w.heap.size + 1)) #[] #[]] }, W1, gf,
    #[.func (.yield (w.heap.size + 1)) #[] #[]] ++ lb, W1, ?_, ?_, ?_, ?_, fun _ => h1, ?_⟩
  · rw [← hW1, hrc]; exact run_enterLoop_outer _ _ _ _ _
  · simp only [resolve, hg]
    simp [go_sem]
  · intro f' _; trivial
  · simp [invoke, go_sem, eg]
  refine (hseq (w.heap.size + 1) (fun pre W => I pre W ∧ W.heap[w.heap.size + 1]? = some (.loop (rc .ready none)) ∧ W.heap[w.heap.size]? = some (.deferred (some [])) ∧ w.heap.size ≤ W.heap.size)
    (fun pre W => ∃ c, Ix c pre W ∧ W.heap[w.heap.size + 1]? = some (.loop (rc .done (some c))) ∧ W.heap[w.heap.size]? = some (.deferred (some []))) W1 ?_ ?_ ?_ (by rw [← hW1]; exact hS _ _) ⟨hI1, hL1, hD1, by omega⟩).mono ?_
  · rintro pre A B ⟨hi, hl, hd, hs⟩ hst
    have hk := (hSt A B hst).2
    exact ⟨hI _ _ _ hi (.inl hst), hk _ _ hl rfl, hk _ _ hd rfl, Nat.le_trans hs (hSt A B hst).1⟩
  · rintro pre A B ⟨c, hi, hl, hd⟩ hst
    have hk := (hSt A B hst).2
    exact ⟨c, hIx c _ _ _ hi (.inl hst), hk _ _ hl rfl, hk _ _ hd rfl⟩
  · rintro pre x rest W hx ⟨hi, hl, hd, hs⟩ hbu
    have hlt : w.heap.size + 1 < W.heap.size := (Array.getElem?_eq_some_iff.1 hl).1
    have hy := run_yield (P := P) (args := #[.string x]) hl (by rw [hrc]; exact hps.symm)
    rw [hrc] at hy
    refine ⟨fn, _, assign, body, hy, roundIn_of_wpIn hfn (hassign _ x W _ ⟨_, run_beginRound hl (by rw [hrc]), ?_⟩)⟩
    have hb1 := bookPut (w.heap.size + 1) (.loop { rc .ready none with state := .busy }) (by omega) hl rfl
    have hs1 := samePut (W := W) (w.heap.size + 1) (.loop { rc .ready none with state := .busy }) (by omega)
    obtain ⟨W2, hW2⟩ : ∃ W2, W.putObj (w.heap.size + 1) (.loop { rc .ready none with state := .busy }) = W2 := ⟨_, rfl⟩
    have hl2 : W2.heap[w.heap.size + 1]? = some (.loop { rc .ready none with state := .busy }) := by rw [← hW2]; exact World.putObj_heap_same hlt
    have hd2 : W2.heap[w.heap.size]? = some (.deferred (some [])) := by rw [← hW2]; exact (World.putObj_heap_other (by omega)).trans hd
    have hz2 : W2.heap.size = W.heap.size := by rw [← hW2]; simp
    rw [hW2] at hb1 hs1
    have hi2 : I pre W2 := hI _ _ _ hi (.inr hb1)
    have hbu2 : Bx W2 := hBx _ _ hbu hb1
    rw [hW2]
    refine wpIn_mono (hbody _ pre x rest W2 hx hi2 hbu2 (by omega)) ?_
    have fin : ∀ (jump : Option Code) (W3 : World), KeepsFrom w.heap.size W2 W3 →
        (Instr.endRound (w.heap.size + 1) jump).run P W3 = .ok (.bool jump.isNone) (W3.putObj (w.heap.size + 1) (.loop (rc (if jump.isNone then .ready else .done) jump))) ∧
        W3.heap[w.heap.size + 1]? = some (.loop { rc .ready none with state := .busy }) ∧
        (W3.putObj (w.heap.size + 1) (.loop (rc (if jump.isNone then .ready else .done) jump))).heap[w.heap.size + 1]? = some (.loop (rc (if jump.isNone then .ready else .done) jump)) ∧
        (W3.putObj (w.heap.size + 1) (.loop (rc (if jump.isNone then .ready else .done) jump))).heap[w.heap.size]? = some (.deferred (some [])) ∧ w.heap.size ≤ W3.heap.size := fun jump W3 hk3 => by
      have hl3 := hk3.same _ _ (by omega) hl2 rfl
      have := run_endRound (P := P) jump hl3
      rw [hrc] at this ⊢
      exact ⟨this, by rw [hrc] at hl3; exact hl3, World.putObj_heap_same (Array.getElem?_eq_some_iff.1 hl3).1, (World.putObj_heap_other (by omega)).trans (hk3.same _ _ (Nat.le_refl _) hd2 rfl), by have := hk3.size; omega⟩
    rintro e a3 W3 hp
    cases e with
    | normal =>
      obtain ⟨hk3, hs3, hi3⟩ := hp
      obtain ⟨hr, hl3, hl4, hd4, hz3⟩ := fin none W3 hk3
      exact ⟨_, _, hr, .inl ⟨rfl, ⟨hI _ _ _ hi3 (.inr (bookPut _ _ (by omega) hl3 rfl)), hl4, hd4, by simp; exact hz3⟩, (hs1.trans hs3).trans (samePut _ _ (by omega))⟩⟩
    | ret =>
      obtain ⟨hk3, hi3⟩ := hp
      obtain ⟨hr, hl3, hl4, hd4, _⟩ := fin (some .ret) W3 hk3
      exact ⟨_, _, hr, .inr ⟨rfl, .ret, hIx _ _ _ _ hi3 (.inr (bookPut _ _ (by omega) hl3 rfl)), hl4, hd4⟩⟩
    | exit id =>
      obtain ⟨hk3, hi3⟩ := hp
      obtain ⟨hr, hl3, hl4, hd4, _⟩ := fin (some (.exit id)) W3 hk3
      exact ⟨_, _, hr, .inr ⟨rfl, .exit id, hIx _ _ _ _ hi3 (.inr (bookPut _ _ (by omega) hl3 rfl)), hl4, hd4⟩⟩
    | goto t =>
      obtain ⟨hk3, hi3⟩ := hp
      obtain ⟨hr, hl3, hl4, hd4, _⟩ := fin (some (.goto t)) W3 hk3
      exact ⟨_, _, hr, .inr ⟨rfl, .goto t, hIx _ _ _ _ hi3 (.inr (bookPut _ _ (by omega) hl3 rfl)), hl4, hd4⟩⟩
    | panic ch => exact hp.elim
    | outgrown => exact hp.elim
  · rintro e W2 ⟨⟨v, rfl⟩, (⟨hi, hl, hd, hs⟩ | ⟨pre, c, hi, hl, hd⟩)⟩
    · have he := run_endLoop (P := P) hl (by rw [hrc]; simp)
      rw [hrc] at he hl
      exact ⟨none, _, he, hdone _ _ (Nat.le_refl _) (hI _ _ _ hi (.inr (bookPut _ _ (by omega) hl rfl))) ((World.putObj_heap_other (by omega)).trans hd)⟩
    · have he := run_endLoop (P := P) hl (by rw [hrc]; simp)
      rw [hrc] at he hl
      exact ⟨some c, _, he, hstop _ c pre _ (Nat.le_refl _) (hIx c _ _ _ hi (.inr (bookPut _ _ (by omega) hl rfl))) ((World.putObj_heap_other (by omega)).trans hd)⟩
end Go.Proofs.YtmpgclimgbjeoaaDoor
