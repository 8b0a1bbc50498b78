/- A loop over an iterator of strings, which may be left early: the loop's record and its rounds. What the contracts share: strings as lists of bytes, slices that can be read. strings.Lines: what it hands back gives the lines of its string, one by one. Single bytes: blanks, lower case; the reference's valid names and colons. Slices of strings and of fields that a call has made; fields as values. Pieces of a clean value: the program's and the reference's. Valid names: Right, by runes, and the reference's, byte by byte; the reference's colon. The reference's comparisons of lists. Names without regard to case. -/
import Derived.RangeFuncNested
import Derived.RangeFuncCalls
import Derived.RangeFuncLeaves
import Derived.RangeFuncBox
import Derived.Test.YtdinachiiimngaaGreatDoorK13
import Derived.Test.YtdinachiiimngaaGreatDoorChecked
import Derived.WalkKit
import Derived.ProofKit
import Derived.MapKept
import Derived.Shelf.Abstract
import Derived.Shelf.RegionOpen
import Derived.OwnWalkIn
import Derived.TacticsInMore
import Derived.LoopNIn
import Derived.LoopIn
import Derived.Lib.Bytealg
import Derived.Test.YtdinachiiimngaaGreatDoorKHdPartPure
import Derived.Laws.OwnMore
import Derived.Laws.AppendOwn
import Derived.Laws.StructEq
import Derived.Lib.Hide
import Derived.Deep.RegionHeld3
import Derived.Laws.RangeString
import Derived.BigQuiet
namespace Go.Proofs.YtdinachiiimngaaGreatDoor.Hd
open Go.RowKit

/-- The blocks of K lie as they lay. -/
def Same (K : Nat → Prop) (W W' : World) : Prop := ∀ k, K k → W'.heap[k]? = W.heap[k]?
theorem Same.trans {K : Nat → Prop} {A B C : World} (h : Same K A B) (k : Same K B C) : Same K A C := fun i hi => (k i hi).trans (h i hi)
/-- What is no cells, from B on, is turned at most: the loop's own book-keeping. -/
def Book (B : Nat) (W W' : World) : Prop := ∃ row, W.grownBy W' row ∧ ∀ r, row = some r → B ≤ r ∧ ∃ o : Obj, W.heap[r]? = some o ∧ o.isCells = false
/-- An invariant that minds neither the iterator's steps nor the loop's book-keeping. -/
def Calm {β : Type} (St : World → World → Prop) (B : Nat) (I : β → World → Prop) : Prop :=
  ∀ s W W', I s W → (St W W' ∨ Book B W W') → I s W'

/-- What the iterator over xs does: St: how it turns the world between two rounds; K: the blocks that a round leaves as they lie; Bx: what it tells the round. -/
def Gives (n : Nat) (P : Program) (gf : Nat) (lb : Array Value) (St : World → World → Prop) (K : Nat → Prop) (Bx S : World → Prop) (xs : List ByteArray) : Prop :=
  ∀ (l : Nat) (J Jx : List ByteArray → World → Prop) (W : World),
    (∀ pre A B, J pre A → St A B → J pre B) → (∀ pre A B, Jx pre A → St A B → Jx pre B) →
    (∀ pre x rest W1, xs = pre ++ x :: rest → J pre W1 → Bx W1 → YieldAt Fence.wide (n - 1) P l #[.string x] W1 fun e W' => (e = .returned (.bool true) ∧ J (pre ++ [x]) W' ∧ Same K W1 W') ∨ (e = .returned (.bool false) ∧ Jx pre W')) →
    S W → J [] W →
    CallsIn Fence.wide n P gf (#[.func (.yield l) #[] #[]] ++ lb) W fun e W' => (∃ v, e = .returned v) ∧ (J xs W' ∨ ∃ pre, Jx pre W')

/-- How a round's body ends. -/
def onward (K : Nat → Prop) (B : Nat) (I : List ByteArray → World → Prop) (Ix : Code → List ByteArray → World → Prop) (pre : List ByteArray) (x : ByteArray) (W : World) : Exit → Act → World → Prop
  | .normal, _, W' => KeepsFrom B W W' ∧ Same K W W' ∧ I (pre ++ [x]) W'
  | .ret, _, W' => KeepsFrom B W W' ∧ Ix .ret pre W'
  | .exit id, _, W' => KeepsFrom B W W' ∧ Ix (.exit id) pre W'
  | .goto t, _, W' => KeepsFrom B W W' ∧ Ix (.goto t) pre W'
  | _, _, _ => False

theorem wp_iter {n : Nat} {P : Program} {g : Operand} {ps : Array Tmp} {assign body : Code} {Q : Exit → Act → World → Prop} {a : Act} {w : World} (h1 : 1 ≤ n) {gf : Nat} {lb : Array Value} {St : World → World → Prop} {K : Nat → Prop} {Bx S : World → Prop} {xs : List ByteArray}
    (hg : a.eval g = .func (.func gf) #[] lb) (eg : ∀ args w, (callFunc gf args).run P w = .ok (.enter gf args) w) (hps : ps.size = 1)
    (hseq : Gives (n - 1) P gf lb St K Bx S xs) (hS : ∀ o o', S ((w.alloc o).alloc o')) (hK : ∀ k, K k → k < w.heap.size)
    (hSt : ∀ A B, St A B → A.heap.size ≤ B.heap.size ∧ ∀ (k : Nat) (o : Obj), A.heap[k]? = some o → o.isCells = false → B.heap[k]? = some o)
    (hBx : ∀ A B, Bx A → Book w.heap.size A B → Bx B)
    (I : List ByteArray → World → Prop) (Ix : Code → List ByteArray → World → Prop) (hI : Calm St w.heap.size I) (hIx : ∀ c, Calm St w.heap.size (Ix c)) (h0 : I [] w) (a₁ : ByteArray → Act)
    (hassign : ∀ (l : Nat) (x : ByteArray) (W : World) (K : Act → World → Prop), K (a₁ x) W →
      assign.wpIn (Fence.wide.inRound l) (n - 1 - 1) P (Exit.then K (fun _ _ _ => False)) { tmps := (ps.zip #[.string x]).foldl (fun t (p, v) => t.setIfInBounds p v) a.tmps, defers := [] } W)
    (hbody : ∀ (l : Nat) (pre : List ByteArray) (x : ByteArray) (rest : List ByteArray) (W : World), xs = pre ++ x :: rest → I pre W → Bx W → w.heap.size ≤ W.heap.size →
      body.wpIn (Fence.wide.inRound l) (n - 1 - 1) P (onward K w.heap.size I Ix pre x W) (a₁ x) W)
    (hdone : ∀ (D : Nat) (W : World), w.heap.size ≤ D → I xs W → W.heap[D]? = some (.deferred (some [])) → Q .normal { a with defers := { target := .collected D, args := #[] } :: a.defers } W)
    (hstop : ∀ (D : Nat) (c : Code) (pre : List ByteArray) (W : World), w.heap.size ≤ D → Ix c pre W → W.heap[D]? = some (.deferred (some [])) → c.wpIn Fence.wide n P Q { a with defers := { target := .collected D, args := #[] } :: a.defers } W) :
    (Code.rangeFunc g ps assign body).wpIn Fence.wide n P Q a w := by
  refine wpIn_rangeFunc fun fn hfn => ?_
  obtain ⟨rc, hrc⟩ : ∃ rc : LoopState → Option Code → Loop, rc = fun st pe => { state := st, pending := pe, fn, tmps := a.tmps, params := ps, assign, body, defers := w.heap.size } := ⟨_, rfl⟩
  obtain ⟨W1, hW1⟩ : ∃ W1, (w.alloc (.deferred (some []))).alloc (.loop (rc .ready none)) = W1 := ⟨_, rfl⟩
  have hsz1 : W1.heap.size = w.heap.size + 2 := by rw [← hW1]; simp
  have hL1 : W1.heap[w.heap.size + 1]? = some (.loop (rc .ready none)) := by
    rw [← hW1]
    have := World.alloc_heap_new (w.alloc (.deferred (some []))) (.loop (rc .ready none))
    rwa [World.size_alloc] at this
  have hD1 : W1.heap[w.heap.size]? = some (.deferred (some [])) := by
    rw [← hW1]; exact (Below.heap_alloc _ _ _ (by simp)).trans (World.alloc_heap_new w _)
  have bookPut : ∀ {W : World} {o : Obj} (l : Nat) (o' : Obj), w.heap.size ≤ l → W.heap[l]? = some o → o.isCells = false → Book w.heap.size W (W.putObj l o') :=
    fun l o' hl ho hc => ⟨some l, grownBy_putObj' _ l o', fun r e => by cases e; exact ⟨hl, _, ho, hc⟩⟩
  have bookNew : ∀ (W : World) (o : Obj), Book w.heap.size W (W.alloc o) := fun W o => ⟨none, World.grownBy_alloc _ o none, fun r e => by cases e⟩
  have hI1 : I [] W1 := by rw [← hW1]; exact hI _ _ _ (hI _ _ _ h0 (.inr (bookNew _ _))) (.inr (bookNew _ _))
  have samePut : ∀ {W : World} (l : Nat) (o' : Obj), w.heap.size ≤ l → Same K W (W.putObj l o') := fun l o' hl k hk => World.putObj_heap_other (by have := hK k hk; omega)
  refine ⟨w.heap.size + 1, [{ target := .collected w.heap.size, args := #[] }], W1, { target := .fn (.func gf) lb, args := #[.func (.yield (w.heap.size + 1)) #[] #[]] }, W1, gf,
    #[.func (.yield (w.heap.size + 1)) #[] #[]] ++ lb, W1, ?_, ?_, ?_, ?_, fun _ => h1, ?_⟩
  · rw [← hW1, hrc]; exact run_enterLoop_outer _ _ _ _ _
  · simp only [resolve, hg]
    simp [go_sem]
  · intro f' _; trivial
  · simp [invoke, go_sem, eg]
  refine (hseq (w.heap.size + 1) (fun pre W => I pre W ∧ W.heap[w.heap.size + 1]? = some (.loop (rc .ready none)) ∧ W.heap[w.heap.size]? = some (.deferred (some [])) ∧ w.heap.size ≤ W.heap.size)
    (fun pre W => ∃ c, Ix c pre W ∧ W.heap[w.heap.size + 1]? = some (.loop (rc .done (some c))) ∧ W.heap[w.heap.size]? = some (.deferred (some []))) W1 ?_ ?_ ?_ (by rw [← hW1]; exact hS _ _) ⟨hI1, hL1, hD1, by omega⟩).mono ?_
  · rintro pre A B ⟨hi, hl, hd, hs⟩ hst
    have hk := (hSt A B hst).2
    exact ⟨hI _ _ _ hi (.inl hst), hk _ _ hl rfl, hk _ _ hd rfl, Nat.le_trans hs (hSt A B hst).1⟩
  · rintro pre A B ⟨c, hi, hl, hd⟩ hst
    have hk := (hSt A B hst).2
    exact ⟨c, hIx c _ _ _ hi (.inl hst), hk _ _ hl rfl, hk _ _ hd rfl⟩
  · rintro pre x rest W hx ⟨hi, hl, hd, hs⟩ hbu
    have hlt : w.heap.size + 1 < W.heap.size := (Array.getElem?_eq_some_iff.1 hl).1
    have hy := run_yield (P := P) (args := #[.string x]) hl (by rw [hrc]; exact hps.symm)
    rw [hrc] at hy
    refine ⟨fn, _, assign, body, hy, roundIn_of_wpIn hfn (hassign _ x W _ ⟨_, run_beginRound hl (by rw [hrc]), ?_⟩)⟩
    have hb1 := bookPut (w.heap.size + 1) (.loop { rc .ready none with state := .busy }) (by omega) hl rfl
    have hs1 := samePut (W := W) (w.heap.size + 1) (.loop { rc .ready none with state := .busy }) (by omega)
    obtain ⟨W2, hW2⟩ : ∃ W2, W.putObj (w.heap.size + 1) (.loop { rc .ready none with state := .busy }) = W2 := ⟨_, rfl⟩
    have hl2 : W2.heap[w.heap.size + 1]? = some (.loop { rc .ready none with state := .busy }) := by rw [← hW2]; exact World.putObj_heap_same hlt
    have hd2 : W2.heap[w.heap.size]? = some (.deferred (some [])) := by rw [← hW2]; exact (World.putObj_heap_other (by omega)).trans hd
    have hz2 : W2.heap.size = W.heap.size := by rw [← hW2]; simp
    rw [hW2] at hb1 hs1
    have hi2 : I pre W2 := hI _ _ _ hi (.inr hb1)
    have hbu2 : Bx W2 := hBx _ _ hbu hb1
    rw [hW2]
    refine wpIn_mono (hbody _ pre x rest W2 hx hi2 hbu2 (by omega)) ?_
    have fin : ∀ (jump : Option Code) (W3 : World), KeepsFrom w.heap.size W2 W3 →
        (Instr.endRound (w.heap.size + 1) jump).run P W3 = .ok (.bool jump.isNone) (W3.putObj (w.heap.size + 1) (.loop (rc (if jump.isNone then .ready else .done) jump))) ∧
        W3.heap[w.heap.size + 1]? = some (.loop { rc .ready none with state := .busy }) ∧
        (W3.putObj (w.heap.size + 1) (.loop (rc (if jump.isNone then .ready else .done) jump))).heap[w.heap.size + 1]? = some (.loop (rc (if jump.isNone then .ready else .done) jump)) ∧
        (W3.putObj (w.heap.size + 1) (.loop (rc (if jump.isNone then .ready else .done) jump))).heap[w.heap.size]? = some (.deferred (some [])) ∧ w.heap.size ≤ W3.heap.size := fun jump W3 hk3 => by
      have hl3 := hk3.same _ _ (by omega) hl2 rfl
      have := run_endRound (P := P) jump hl3
      rw [hrc] at this ⊢
      exact ⟨this, by rw [hrc] at hl3; exact hl3, World.putObj_heap_same (Array.getElem?_eq_some_iff.1 hl3).1, (World.putObj_heap_other (by omega)).trans (hk3.same _ _ (Nat.le_refl _) hd2 rfl), by have := hk3.size; omega⟩
    rintro e a3 W3 hp
    cases e with
    | normal =>
      obtain ⟨hk3, hs3, hi3⟩ := hp
      obtain ⟨hr, hl3, hl4, hd4, hz3⟩ := fin none W3 hk3
      exact ⟨_, _, hr, .inl ⟨rfl, ⟨hI _ _ _ hi3 (.inr (bookPut _ _ (by omega) hl3 rfl)), hl4, hd4, by simp; exact hz3⟩, (hs1.trans hs3).trans (samePut _ _ (by omega))⟩⟩
    | ret =>
      obtain ⟨hk3, hi3⟩ := hp
      obtain ⟨hr, hl3, hl4, hd4, _⟩ := fin (some .ret) W3 hk3
      exact ⟨_, _, hr, .inr ⟨rfl, .ret, hIx _ _ _ _ hi3 (.inr (bookPut _ _ (by omega) hl3 rfl)), hl4, hd4⟩⟩
    | exit id =>
      obtain ⟨hk3, hi3⟩ := hp
      obtain ⟨hr, hl3, hl4, hd4, _⟩ := fin (some (.exit id)) W3 hk3
      exact ⟨_, _, hr, .inr ⟨rfl, .exit id, hIx _ _ _ _ hi3 (.inr (bookPut _ _ (by omega) hl3 rfl)), hl4, hd4⟩⟩
    | goto t =>
      obtain ⟨hk3, hi3⟩ := hp
      obtain ⟨hr, hl3, hl4, hd4, _⟩ := fin (some (.goto t)) W3 hk3
      exact ⟨_, _, hr, .inr ⟨rfl, .goto t, hIx _ _ _ _ hi3 (.inr (bookPut _ _ (by omega) hl3 rfl)), hl4, hd4⟩⟩
    | panic ch => exact hp.elim
    | outgrown => exact hp.elim
  · rintro e W2 ⟨⟨v, rfl⟩, (⟨hi, hl, hd, hs⟩ | ⟨pre, c, hi, hl, hd⟩)⟩
    · have he := run_endLoop (P := P) hl (by rw [hrc]; simp)
      rw [hrc] at he hl
      exact ⟨none, _, he, hdone _ _ (Nat.le_refl _) (hI _ _ _ hi (.inr (bookPut _ _ (by omega) hl rfl))) ((World.putObj_heap_other (by omega)).trans hd)⟩
    · have he := run_endLoop (P := P) hl (by rw [hrc]; simp)
      rw [hrc] at he hl
      exact ⟨some c, _, he, hstop _ c pre _ (Nat.le_refl _) (hIx c _ _ _ hi (.inr (bookPut _ _ (by omega) hl rfl))) ((World.putObj_heap_other (by omega)).trans hd)⟩
end Go.Proofs.YtdinachiiimngaaGreatDoor.Hd
namespace Go.Proofs.YtdinachiiimngaaGreatDoor.Hd
open Go.ChangeShapes Go.WideShapes Go.ChangeAt Go.RowKit

theorem Qtrans {w w1 w2 : World} (h : Below w.heap.size w w1) (k : Below w1.heap.size w1 w2) : Below w.heap.size w w2 := h.trans (k.mono h.size)
/-! ### Strings as lists of bytes -/
/-- The string of a list of bytes. -/
def strL (l : List UInt8) : ByteArray := ⟨l.toArray⟩
theorem strL_list (l : List UInt8) : (strL l).data.toList = l := rfl
theorem strL_size (l : List UInt8) : (strL l).size = l.length := by
  show l.toArray.size = l.length
  simp
theorem bytes_is {a b : ByteArray} (h : a.data.toList = b.data.toList) : a = b := by
  cases a; cases b
  simp only [ByteArray.mk.injEq] at h ⊢
  exact Array.toList_inj.1 h
theorem strL_of (s : ByteArray) : strL s.data.toList = s := bytes_is rfl
theorem strL_is {s : ByteArray} {l : List UInt8} (h : s.data.toList = l) : s = strL l := bytes_is h
theorem strL_inj {a b : List UInt8} : strL a = strL b ↔ a = b := ⟨fun h => congrArg (fun s : ByteArray => s.data.toList) h, fun h => by rw [h]⟩
theorem size_list (t : ByteArray) : t.size = t.data.toList.length := by rw [Array.length_toList]; rfl
theorem bytes_eqb (a b : ByteArray) : (a == b) = decide (a = b) := by
  rw [Bool.eq_iff_iff, MapKept.bytes_beq, decide_eq_true_eq]
theorem eq_lists (a b : ByteArray) : (a.toList == b.toList) = (a == b) := by
  rw [bytes_eqb, Bool.eq_iff_iff, beq_iff_eq, ByteArray.toList_eq, ByteArray.toList_eq, decide_eq_true_eq]
  exact ⟨bytes_is, fun h => by rw [h]⟩
theorem eq_strL (a b : List UInt8) : ((strL a).toList == (strL b).toList) = decide (a = b) := by
  rw [eq_lists, bytes_eqb, Bool.eq_iff_iff, decide_eq_true_eq, decide_eq_true_eq, strL_inj]
theorem list_append (a b : ByteArray) : (a ++ b).data.toList = a.data.toList ++ b.data.toList := by
  rw [ByteArray.data_append, Array.toList_append]
theorem strL_append (a b : List UInt8) : strL a ++ strL b = strL (a ++ b) := bytes_is (by rw [list_append]; rfl)
/-- A part of a string. -/
theorem part_of (s : ByteArray) (i j : Nat) (_hij : i ≤ j) (_hj : j ≤ s.size) : s.extract i j = strL ((s.data.toList.drop i).take (j - i)) := by
  refine bytes_is ?_
  rw [ByteArray.data_extract, Array.toList_extract, strL_list, List.extract_eq_take_drop]
theorem run_slice_str (s : ByteArray) (p q : Nat) (x : Int) (hx : x = q) (h : p ≤ q) (h2 : q ≤ s.size) (W : World) :
    (Instr.slice 9 (.string s) (some (.int .i64 p)) (some (.int .i64 x)) none).run Tryz.prog W = .ok (.string (s.extract p q)) W := by
  subst hx
  go_simp
theorem run_slice_from (s : ByteArray) (p : Nat) (x : Int) (hx : x = p) (h2 : p ≤ s.size) (W : World) :
    (Instr.slice 9 (.string s) (some (.int .i64 x)) none none).run Tryz.prog W = .ok (.string (s.extract p s.size)) W := by
  subst hx
  go_simp
theorem run_slice_to (s : ByteArray) (q : Nat) (x : Int) (hx : x = q) (h2 : q ≤ s.size) (W : World) :
    (Instr.slice 9 (.string s) none (some (.int .i64 x)) none).run Tryz.prog W = .ok (.string (s.extract 0 q)) W := by
  subst hx
  go_simp
theorem run_index_str (s : ByteArray) (x : Int) (n : Nat) (hx : x = n) (h : n < s.size) (W : World) :
    (Instr.index 9 (.string s) (.int .i64 x)).run Tryz.prog W = .ok (.int .u8 (s[n].toNat : Int)) W := by
  subst hx
  go_simp
theorem at_list (s : ByteArray) (n : Nat) (_h : n < s.size) (h2 : n < s.data.toList.length) : s.data.toList[n] = s[n] := rfl
theorem drop_cons (s : ByteArray) (n : Nat) (h : n < s.size) : s.data.toList.drop n = s[n] :: s.data.toList.drop (n + 1) := List.drop_eq_getElem_cons (by rw [← size_list]; exact h)
theorem part_rest (s : ByteArray) (n : Nat) (h : n ≤ s.size) : (s.extract n s.size).data.toList = s.data.toList.drop n := by
  rw [part_of s n s.size h (by omega), strL_list, List.take_of_length_le]
  rw [List.length_drop, ← size_list]
  exact Nat.le_refl _
theorem part_start (s : ByteArray) (n : Nat) (h : n ≤ s.size) : (s.extract 0 n).data.toList = s.data.toList.take n := by
  rw [part_of s 0 n (by omega) h, strL_list]; rfl
/-! ### Slices that can be read -/
def strV (l : List UInt8) : Value := .string (strL l)
def blk : Value → Option Nat
  | .slice (some a) _ _ => some a.block
  | _ => none
/-- The slice v reads as xs. -/
def Has {A : Type} (E : A → Value) (w : World) (v : Value) (xs : List A) : Prop :=
  (v = .slice none 0 0 ∧ xs = []) ∨ ∃ a c, v = .slice (some a) xs.length c ∧ ∀ j (h : j < xs.length), w.cell? (a.add j) = some (E xs[j])
theorem Has.nil {A : Type} (E : A → Value) (w : World) : Has E w (.slice none 0 0) [] := Or.inl ⟨rfl, rfl⟩
theorem add_block (a : Addr) (j : Nat) : (a.add j).block = a.block := by unfold Addr.add; split <;> rfl
theorem block_lt {w : World} {a : Addr} {j : Nat} {u : Value} (h : w.cell? (a.add j) = some u) : a.block < w.heap.size := by
  have := World.block_lt_of_cell? w (a.add j) h
  rwa [add_block] at this
theorem Has.keep {A : Type} {E : A → Value} {w w' : World} {v : Value} {xs : List A} (h : Has E w v xs) (hk : ∀ k, blk v = some k → k < w.heap.size → w'.heap[k]? = w.heap[k]?) : Has E w' v xs := by
  rcases h with h | ⟨a, c, rfl, h2⟩
  · exact Or.inl h
  · exact Or.inr ⟨a, c, rfl, fun j hj => by rw [World.cell?_of_block (w := w) (by rw [add_block]; exact hk a.block rfl (block_lt (h2 j hj)))]; exact h2 j hj⟩
theorem Has.below {A : Type} {E : A → Value} {w w' : World} {v : Value} {xs : List A} {B : Nat} (h : Has E w v xs) (hb : Below B w w') (hB : ∀ k, blk v = some k → k < w.heap.size → k < B) : Has E w' v xs :=
  h.keep fun k hk hl => hb.block k (hB k hk hl)
theorem Has.below' {A : Type} {E : A → Value} {w w' : World} {v : Value} {xs : List A} (h : Has E w v xs) (hb : Below w.heap.size w w') : Has E w' v xs := h.below hb fun _ _ h => h
theorem Has.of_own {A : Type} {E : A → Value} {w : World} {base e : Nat} {v : Value} {xs : List A} (h : w.ownsRow base e 1 v xs.length (xs.map E)) : Has E w v xs ∧ ∀ k, blk v = some k → base ≤ k := by
  rcases h.2 with ⟨rfl, h0⟩ | ⟨g, cap, cur, rfl, hb, hg, _⟩
  · exact ⟨Or.inl ⟨rfl, List.eq_nil_of_length_eq_zero h0⟩, fun k hk => by cases hk⟩
  · refine ⟨Or.inr ⟨⟨g, 0, none⟩, cap, rfl, fun j hj => ?_⟩, fun k hk => by cases hk; exact hb⟩
    exact h.cells (g := g) rfl j _ (by rw [List.getElem?_map, List.getElem?_eq_getElem hj]; rfl)
theorem cells_new {A : Type} (E : A → Value) (w : World) (e : TypeId) (l : List A) : ∀ j u, (l.map E)[j]? = some u → (w.alloc (.cells (l.map E).toArray e)).cell? ((⟨w.heap.size, 0, none⟩ : Addr).add j) = some u := by
  intro j u h
  have := World.cell?_alloc_mark w (l.map E).toArray e (0, 0) j
  have e : (⟨w.heap.size, 0, none⟩ : Addr).add j = ⟨w.heap.size, j, none⟩ := by
    simp only [Addr.add, Nat.zero_add]
    split
    · rename_i hj; rw [hj]
    · rfl
  rw [e, this, List.getElem?_toArray]; exact h
theorem Has.lit {A : Type} (E : A → Value) (w : World) (e : TypeId) (l : List A) (n : Nat) (hn : n = l.length) : Has E (w.alloc (.cells (l.map E).toArray e)) (.slice (some ⟨w.heap.size, 0, none⟩) n n) l := by
  subst hn
  exact Or.inr ⟨_, _, rfl, fun j hj => cells_new E w e l j _ (by rw [List.getElem?_map, List.getElem?_eq_getElem hj]; rfl)⟩
theorem own_below {w w' : World} {base : Nat} {e : TypeId} {size : Nat} {v : Value} {n : Nat} {xs : List Value} (h : w.ownsRow base e size v n xs) (hb : Below w.heap.size w w') : w'.ownsRow base e size v n xs := by
  refine ⟨h.1, ?_⟩
  rcases h.2 with h1 | ⟨g, cap, cur, rfl, hbg, hg, rest⟩
  · exact .inl h1
  · refine .inr ⟨g, cap, cur, rfl, hbg, ?_, rest⟩
    rw [hb.block g (Array.getElem?_eq_some_iff.1 hg).1]
    exact hg
theorem info9 : (Tryz.prog.info? 9).map (fun i => (i.zero, i.size, i.bytes)) = some (some (.string ⟨#[]⟩), 1, 16) := by kernel_rfl
theorem info5 : (Tryz.prog.info? 5).map (fun i => (i.zero, i.size, i.bytes)) = some (some (.int .u8 0), 1, 1) := by kernel_rfl
theorem info33 : (Tryz.prog.info? 80).map (fun i => (i.zero, i.size, i.bytes)) = some (some (.slice none 0 0), 1, 24) := by kernel_rfl
end Go.Proofs.YtdinachiiimngaaGreatDoor.Hd
namespace Go.Proofs.YtdinachiiimngaaGreatDoor.Hd
open Go.ChangeShapes Go.WideShapes Go.ChangeAt Go.RowKit
open LinesP

attribute [local go_sem] Oper.semAt_some

theorem index_no {l : List UInt8} (h : 10 ∉ l) : Lib.indexByte l 10 = -1 := by
  induction l with
  | nil => rfl
  | cons c t ih =>
    simp only [List.mem_cons, not_or] at h
    have hc : (c == 10) = false := beq_eq_false_iff_ne.2 (fun e => h.1 e.symm)
    rw [Lib.indexByte, hc, ih h.2]; rfl
theorem index_at (m r : List UInt8) (h : 10 ∉ m) : Lib.indexByte (m ++ 10 :: r) 10 = m.length := by
  induction m with
  | nil => rfl
  | cons c t ih =>
    simp only [List.mem_cons, not_or] at h
    have hc : (c == 10) = false := beq_eq_false_iff_ne.2 (fun e => h.1 e.symm)
    rw [List.cons_append, Lib.indexByte, hc, ih h.2]
    have : ((t.length : Int) == -1) = false := beq_eq_false_iff_ne.2 (by omega)
    rw [this]
    simp
/-- The lines as strings. -/
def linesB (l : List UInt8) : List ByteArray := (splitL l).map strL
theorem line_cases (l : List UInt8) : l = [] ∨ (Tail l) ∨ ∃ m r, l = m ++ 10 :: r ∧ 10 ∉ m := by
  by_cases h : 10 ∈ l
  · obtain ⟨m, r, e, hm⟩ := List.eq_append_cons_of_mem h
    exact .inr (.inr ⟨m, r, e, hm⟩)
  · by_cases hn : l = []
    · exact .inl hn
    · exact .inr (.inl ⟨hn, h⟩)
/-- How much is left, read off the box. -/
def leftIn (bx : Nat) (w : World) : Nat := match w.cell? ⟨bx, 0, none⟩ with
  | some (.string u) => u.size
  | _ => 0
theorem left_is {bx : Nat} {w : World} {t : ByteArray} (h : Boxed w bx 9 (.string t)) : leftIn bx w = t.size := by
  unfold leftIn; rw [h.cell]

/-- How the iterator turns the world between two rounds. -/
def LSt (bx : Nat) (A B : World) : Prop := ∃ row, A.grownBy B row ∧ ∀ r, row = some r → r = bx ∧ ∃ u, Boxed A bx 9 u
theorem lst_kept {bx : Nat} (A B : World) (h : LSt bx A B) : A.heap.size ≤ B.heap.size ∧ ∀ (k : Nat) (o : Obj), A.heap[k]? = some o → o.isCells = false → B.heap[k]? = some o := by
  obtain ⟨row, hg, hr⟩ := h
  refine ⟨hg.size, fun k o hk ho => (hg.block k (Array.getElem?_eq_some_iff.1 hk).1 fun e => ?_).trans hk⟩
  obtain ⟨rfl, u, hu⟩ := hr k e.symm
  rw [show A.heap[k]? = _ from hu] at hk
  cases hk; cases ho

set_option maxRecDepth 100000 in
set_option maxHeartbeats 2000000 in
theorem iter_gives (cI : ∀ (t : ByteArray) (w : World), Calls Tryz.prog 67 #[.string t, .int .u8 10] w fun e w' => e = .returned (.int .i64 (Lib.indexByte t.data.toList 10)) ∧ w' = w)
    (n : Nat) (hn : 2 ≤ n) (bx : Nat) (s : ByteArray) (hs : s.size ≤ 140737488355328) : Gives n Tryz.prog 124 #[.pointer (some ⟨bx, 0, none⟩)] (LSt bx) (fun k => k = bx) (fun W => ∃ u, Boxed W bx 9 u) (fun W => Boxed W bx 9 (.string s)) (linesB s.data.toList) := by
  intro l J Jx W hJ _ hY hb h0
  refine callsIn_of_wp Tryz.func124 rfl trivial ?_ rfl
  simp only [Tryz.ntmps124, List.size_toArray, List.length_cons, List.length_nil, Nat.reduceAdd, Nat.reduceSub, Array.replicate_succ, Array.replicate_zero, List.push_toArray, List.append_toArray, List.nil_append, List.cons_append]
  gi_wp2
  gi_loopw [] (fun wr => ∃ (pre : List ByteArray) (t : ByteArray), linesB s.data.toList = pre ++ linesB t.data.toList ∧ t.size ≤ 140737488355328 ∧ Boxed wr bx 9 (.string t) ∧ J pre wr)
    (fun wr => leftIn bx wr)
  case atStart => exact ⟨[], s, rfl, hs, hb, h0⟩
  case round =>
    obtain ⟨pre, t, hx, ht, hbt, hj⟩ := hrel
    have hc := hbt.cell
    have hf := hbt.frozen
    have hsz := size_list t
    rcases line_cases t.data.toList with hl | hl | ⟨m, r, hl, hm⟩
    · obtain rfl : t = ⟨#[]⟩ := bytes_is (by rw [hl])
      rw [show linesB (⟨#[]⟩ : ByteArray).data.toList = [] from rfl, List.append_nil] at hx
      rw [hx]
      gi_wp2
      go_end0
      exact ⟨⟨_, rfl⟩, .inl hj⟩
    · have hpos : 0 < t.size := by
        rw [hsz]; exact List.length_pos_iff.2 hl.1
      have hi := cI t
      rw [index_no hl.2] at hi
      rw [show linesB t.data.toList = [t] by unfold linesB; rw [split_tail hl]; simp only [List.map_cons, List.map_nil, strL_of]] at hx
      clear hsz hl
      gi_wp2_with (refine ⟨trivial, fun _ => by omega, ?_⟩; gi_at_call 67; refine (callsIn_wide.2 (hi _)).mono ?_; rintro e w' ⟨rfl, rfl⟩)
      obtain ⟨W2, hW2⟩ : ∃ W2, w'.setCell ⟨bx, 0, none⟩ (.string ⟨#[]⟩) = W2 := ⟨_, rfl⟩
      have hb2 : Boxed W2 bx 9 (.string ⟨#[]⟩) := by rw [← hW2]; exact hbt.set _
      have hj2 : J pre W2 := by rw [← hW2]; exact hJ _ _ _ hj ⟨some bx, grownBy_setCell' _ _ _, fun r e => by cases e; exact ⟨rfl, _, hbt⟩⟩
      obtain ⟨fn, tmps, assign, body, hy, hR⟩ := hY pre t [] W2 hx hj2 ⟨_, hb2⟩
      rw [hW2, hy, Oper.uponIn_round]
      refine ⟨fun _ => by omega, hR.mono ?_⟩
      rintro e W3 (⟨rfl, hj3, hbx3⟩ | ⟨rfl, hx3⟩)
      · have hb3 : Boxed W3 bx 9 (.string ⟨#[]⟩) := (hbx3 bx rfl).trans hb2
        gi_wp2
        go_roundw
        case rel => exact ⟨pre ++ [t], ⟨#[]⟩, by rw [hx]; exact (List.append_nil _).symm, Nat.zero_le _, hb3, hj3⟩
        case measure => rw [left_is hb3, left_is hbt]; exact hpos
      · gi_wp2
        refine bodyPost_ret (results_none rfl _ _ _) rfl ?_
        exact ⟨⟨_, rfl⟩, .inr ⟨_, hx3⟩⟩
    · obtain ⟨k, hk⟩ : ∃ k, m.length = k := ⟨_, rfl⟩
      have hk1 : k + 1 ≤ t.size := by
        rw [hsz, hl, List.length_append, List.length_cons, hk]; omega
      have hi := cI t
      rw [hl, index_at m r hm, hk] at hi
      have hX : (t.extract 0 (k + 1)) = strL (m ++ [10]) := bytes_is (by
        rw [part_start t (k + 1) hk1, hl, ← hk, strL_list, List.take_length_add_append]
        rfl)
      have hY2 : (t.extract (k + 1) t.size) = strL r := bytes_is (by
        rw [part_rest t (k + 1) hk1, hl, ← hk, strL_list, List.drop_length_add_append]
        rfl)
      have S1 := run_slice_to t (k + 1) ((k : Int) + 1) (by omega) hk1
      have S2 := run_slice_from t (k + 1) ((k : Int) + 1) (by omega) hk1
      rw [hX] at S1
      rw [hY2] at S2
      have hx2 : linesB s.data.toList = pre ++ strL (m ++ [10]) :: linesB (strL r).data.toList := by
        rw [hx]; unfold linesB; rw [hl, split_term m r hm]; rfl
      have hr2 : (strL r).size < t.size := by rw [strL_size, hsz, hl]; simp; omega
      obtain ⟨X, hXe⟩ : ∃ X, strL (m ++ [10]) = X := ⟨_, rfl⟩
      obtain ⟨Y, hYe⟩ : ∃ Y, strL r = Y := ⟨_, rfl⟩
      rw [hXe] at S1 hx2
      rw [hYe] at S2 hx2 hr2
      have F1 : IntKind.i64.wrap ((k : Int) + 1) = (k : Int) + 1 := by
        rw [IntKind.wrap_i64]; omega
      have hg : decide ((0 : Int) ≤ k) = true := decide_eq_true (by omega)
      clear hX hY2 hXe hYe hl hsz hm hk
      gi_wp2_with (refine ⟨trivial, fun _ => by omega, ?_⟩; gi_at_call 67; refine (callsIn_wide.2 (hi _)).mono ?_; rintro e w' ⟨rfl, rfl⟩)
      gi_region
      gi_wp2
      obtain ⟨W2, hW2⟩ : ∃ W2, (w'.setCell ⟨bx, 0, none⟩ (.string Y)).drew = W2 := ⟨_, rfl⟩
      have hb2 : Boxed W2 bx 9 (.string Y) := by rw [← hW2]; exact hbt.set _
      have hj2 : J pre W2 := by
        rw [← hW2]
        exact hJ _ _ _ (hJ _ _ _ hj ⟨some bx, grownBy_setCell' _ _ _, fun r e => by cases e; exact ⟨rfl, _, hbt⟩⟩) ⟨none, ⟨rfl, rfl, rfl, Nat.le_refl _, fun _ _ _ => rfl⟩, fun r e => by cases e⟩
      obtain ⟨fn, tmps, assign, body, hy, hR⟩ := hY pre X (linesB Y.data.toList) W2 hx2 hj2 ⟨_, hb2⟩
      rw [hW2, hy, Oper.uponIn_round]
      refine ⟨fun _ => by omega, hR.mono ?_⟩
      rintro e W3 (⟨rfl, hj3, hbx3⟩ | ⟨rfl, hx3⟩)
      · have hb3 : Boxed W3 bx 9 (.string Y) := (hbx3 bx rfl).trans hb2
        gi_wp2
        go_roundw
        case rel => exact ⟨pre ++ [X], Y, by rw [hx2, List.append_assoc]; rfl, by omega, hb3, hj3⟩
        case measure => rw [left_is hb3, left_is hbt]; exact hr2
      · gi_wp2
        refine bodyPost_ret (results_none rfl _ _ _) rfl ?_
        exact ⟨⟨_, rfl⟩, .inr ⟨_, hx3⟩⟩
set_option maxHeartbeats 1000000 in
/-- strings.Lines: the string in a box, the iterator over it. -/
theorem lines_any (s : ByteArray) (w : World) :
    Calls Tryz.prog 87 #[.string s] w fun e w' => e = .returned (.func (.func 124) #[] #[.pointer (some ⟨w.heap.size, 0, none⟩)]) ∧ w' = w.alloc (.cells #[.string s] 9) := by
  go_enter Tryz.func87, Tryz.ntmps87
  go_wp2_with fail
  go_ret
  exact ⟨rfl, rfl⟩
end Go.Proofs.YtdinachiiimngaaGreatDoor.Hd
namespace Go.Proofs.YtdinachiiimngaaGreatDoor.Hd
open Go.ChangeShapes Go.WideShapes Go.ChangeAt Go.RowKit
open LinesP HdrP

theorem byte_is (c : UInt8) (x : Nat) (hx : c.toNat = x) (n : Nat) (hn : n < 256) : ((x : Int) == (n : Int)) = decide (c = UInt8.ofNat n) := by
  rw [Bool.eq_iff_iff, beq_iff_eq, decide_eq_true_iff]
  constructor
  · intro h
    refine UInt8.toNat_inj.1 ?_
    rw [hx, UInt8.toNat_ofNat']; omega
  · intro h
    rw [h, UInt8.toNat_ofNat'] at hx
    omega
theorem blank_or (c : UInt8) : HdrP.blank c = (decide (c = UInt8.ofNat 32) || decide (c = UInt8.ofNat 9)) := by
  unfold HdrP.blank
  rw [Bool.eq_iff_iff]
  simp only [Bool.or_eq_true, beq_iff_eq, decide_eq_true_iff]
  exact Iff.rfl
theorem isBlank_any (c : UInt8) (x : Nat) (hx : c.toNat = x) (w : World) :
    Calls Tryz.prog 89 #[.int .u8 x] w fun e w' => e = .returned (.bool (HdrP.blank c)) ∧ w = w' := by
  have e1 := byte_is c x hx 32 (by decide)
  have e2 := byte_is c x hx 9 (by decide)
  rw [blank_or]
  generalize decide (c = UInt8.ofNat 32) = d1 at e1 ⊢
  generalize decide (c = UInt8.ofNat 9) = d2 at e2 ⊢
  clear hx
  rw [show ((32 : Nat) : Int) = 32 from rfl] at e1
  rw [show ((9 : Nat) : Int) = 9 from rfl] at e2
  cases d1
  · cases d2
    · go_enter Tryz.func89, Tryz.ntmps89
      go_wp2_with fail
      go_ret
      exact ⟨rfl, rfl⟩
    · go_enter Tryz.func89, Tryz.ntmps89
      go_wp2_with fail
      go_ret
      exact ⟨rfl, rfl⟩
  · go_enter Tryz.func89, Tryz.ntmps89
    go_wp2_with fail
    go_ret
    exact ⟨rfl, rfl⟩
theorem low_nat (c : UInt8) : (low c).toNat = if 65 ≤ c.toNat ∧ c.toNat ≤ 90 then c.toNat + 32 else c.toNat := by
  unfold low
  split
  · rename_i h
    rw [UInt8.toNat_add]
    have : (32 : UInt8).toNat = 32 := rfl
    omega
  · rfl
theorem lower_any (c : UInt8) (x : Nat) (hx : c.toNat = x) (w : World) :
    Calls Tryz.prog 135 #[.int .u8 x] w fun e w' => e = .returned (.int .u8 ((low c).toNat : Int)) ∧ w = w' := by
  have hl := low_nat c
  rw [hx] at hl
  have hb : x < 256 := by rw [← hx]; exact c.toNat_lt
  generalize (low c).toNat = y at hl ⊢
  clear hx
  by_cases h1 : 65 ≤ x
  · by_cases h2 : x ≤ 90
    · rw [if_pos ⟨h1, h2⟩] at hl
      subst hl
      have F1 : IntKind.u8.wrap ((x : Int) + 97) = (x : Int) + 97 := by rw [IntKind.wrap_u8]; omega
      have F2 : IntKind.u8.wrap ((x : Int) + 97 - 65) = (x : Int) + 32 := by rw [IntKind.wrap_u8]; omega
      have h1' : (65 : Int) ≤ x := by omega
      have h2' : (x : Int) ≤ 90 := by omega
      go_enter Tryz.func135, Tryz.ntmps135
      go_wp2_with fail
      go_ret
      exact ⟨by simp, rfl⟩
    · rw [if_neg (fun h => h2 h.2)] at hl
      rw [hl]
      clear hl
      have h1' : (65 : Int) ≤ x := by omega
      have h2' : ¬ (x : Int) ≤ 90 := by omega
      go_enter Tryz.func135, Tryz.ntmps135
      go_wp2_with fail
      go_ret
      exact ⟨rfl, rfl⟩
  · rw [if_neg (fun h => h1 h.1)] at hl
    rw [hl]
    clear hl
    have h1' : ¬ (65 : Int) ≤ x := by omega
    go_enter Tryz.func135, Tryz.ntmps135
    go_wp2_with fail
    go_ret
    exact ⟨rfl, rfl⟩
/-! ### A byte of a string, as a list has it -/
theorem byte_at (s : ByteArray) (k : Nat) (h : k < s.size) : ∃ c : UInt8, s.data.toList[k]? = some c ∧ (s[k]'h) = c := by
  refine ⟨s[k]'h, ?_, rfl⟩
  rw [List.getElem?_eq_getElem (by rw [← size_list]; exact h)]; rfl
/-- The k-th byte as the walk reads it. -/
theorem run_byte (s : ByteArray) (k : Nat) (h : k < s.size) : ∃ (c : UInt8) (x : Nat), s.data.toList[k]? = some c ∧ c.toNat = x ∧ x < 256 ∧ ∀ W : World, (Instr.index 9 (.string s) (.int .i64 k)).run Tryz.prog W = .ok (.int .u8 x) W := by
  obtain ⟨c, h1, h2⟩ := byte_at s k h
  refine ⟨c, c.toNat, h1, rfl, c.toNat_lt, fun W => ?_⟩
  rw [← h2]
  exact run_index_str s k k rfl h W
end Go.Proofs.YtdinachiiimngaaGreatDoor.Hd
namespace Go.Proofs.YtdinachiiimngaaGreatDoor.Hd
open Go.ChangeShapes Go.WideShapes Go.ChangeAt Go.RowKit
open LinesP HdrP

/-! ### Slices of strings -/
/-- The slice v holds xs, in a block of its own. -/
def Own (w : World) (v : Value) (xs : List (List UInt8)) : Prop := ∃ base, w.ownsRow base 9 1 v xs.length (xs.map strV)
theorem Own.step {w w' : World} {v : Value} {xs : List (List UInt8)} (h : Own w v xs) (hb : Below w.heap.size w w') : Own w' v xs := by
  obtain ⟨b, ho⟩ := h; exact ⟨b, own_below ho hb⟩
theorem Own.has {w : World} {v : Value} {xs : List (List UInt8)} (h : Own w v xs) : Has strV w v xs := by
  obtain ⟨b, ho⟩ := h; exact (Has.of_own ho).1
theorem add_none (g o j : Nat) : (⟨g, o, none⟩ : Addr).add j = ⟨g, o + j, none⟩ := by unfold Addr.add; split <;> simp_all
theorem Own.at {w : World} {a : Option Addr} {n c : Nat} {xs : List (List UInt8)} (h : Own w (.slice a n c) xs) (hn : 0 < n) : ∃ g, a = some ⟨g, 0, none⟩ := by
  obtain ⟨b, ho⟩ := h
  rcases ho.2 with ⟨e, h0⟩ | ⟨g, cap, cur, e, _⟩
  · injection e with _ e2 _; omega
  · injection e with e1 _ _; exact ⟨g, e1⟩
theorem Own.cell {w : World} {g n c : Nat} {xs : List (List UInt8)} (h : Own w (.slice (some ⟨g, 0, none⟩) n c) xs) (j : Nat) (x : List UInt8) (hx : xs[j]? = some x) : w.cell? ⟨g, j, none⟩ = some (.string (strL x)) := by
  obtain ⟨b, ho⟩ := h
  have := ho.cells (g := g) rfl j (strV x) (by rw [List.getElem?_map, hx]; rfl)
  rw [add_none, Nat.zero_add] at this
  exact this
theorem Own.shape {w : World} {v : Value} {xs : List (List UInt8)} (h : Own w v xs) : ∃ a c, v = .slice a xs.length c := by
  obtain ⟨b, ho⟩ := h
  rcases ho.2 with ⟨rfl, h0⟩ | ⟨g, cap, cur, rfl, _⟩
  · exact ⟨none, 0, by rw [h0]⟩
  · exact ⟨_, _, rfl⟩
theorem Own.lt {w : World} {u : Value} {xs : List (List UInt8)} (h : Own w u xs) : ∀ k, u.ownBlock = some k → k < w.heap.size := by
  obtain ⟨b, ho⟩ := h
  intro k hk
  rcases ho.2 with ⟨rfl, _⟩ | ⟨g, cap, cur, rfl, _, hg, _⟩
  · simp [Value.ownBlock] at hk
  · simp [Value.ownBlock] at hk
    subst hk
    exact (Array.getElem?_eq_some_iff.1 hg).1
theorem own_one (w : World) (x : List UInt8) : Own (w.alloc (.cells #[.string (strL x)] 9)) (.slice (some ⟨w.heap.size, 0, none⟩) 1 1) [x] :=
  ⟨w.heap.size, rfl, .inr ⟨w.heap.size, 1, #[.string (strL x)], rfl, Nat.le_refl _, World.alloc_heap_new w _, Nat.le_refl _, by unfold maxLen; omega, rfl, rfl⟩⟩
theorem strs_one (l : List (List UInt8)) : ∀ u ∈ l.map strV, u.oneCell' = true := by
  intro u hu
  obtain ⟨c, _, rfl⟩ := List.mem_map.1 hu
  rfl
theorem run_app {w : World} (base : Nat) {v u : Value} {xs ys : List (List UInt8)} (hown : w.ownsRow base 9 1 v xs.length (xs.map strV)) (hu : Own w u ys) (hb : base ≤ w.heap.size) (hl : xs.length + ys.length ≤ 4000000) :
    ∃ a c w', (Builtin.append_ #[80, 80] 80 #[v, u]).run Tryz.prog w = .ok (.slice a (xs ++ ys).length c) w' ∧ w'.ownsRow base 9 1 (.slice a (xs ++ ys).length c) (xs ++ ys).length ((xs ++ ys).map strV) ∧ w.grownBy w' v.ownBlock := by
  obtain ⟨i0, hi, hz0, hz1, hz2⟩ := info_parts info9
  obtain ⟨b2, ho2⟩ := hu
  have e1 : (xs ++ ys).length = xs.length + ys.length := List.length_append
  have fin : ∀ (v' : Value) (w' : World), w'.ownsRow base 9 1 v' (xs.length + ys.length) ((xs ++ ys).map strV) → ∃ a c, v' = .slice a (xs ++ ys).length c := fun v' w' h => by
    rcases h.2 with ⟨rfl, h0⟩ | ⟨g, cap, cur, rfl, _⟩
    · exact ⟨none, 0, by rw [e1, h0]⟩
    · exact ⟨_, _, by rw [e1]⟩
  rcases ho2.2 with ⟨rfl, h0⟩ | ⟨g, cap, cur, rfl, _, hg, hrest⟩
  · obtain rfl : ys = [] := List.eq_nil_of_length_eq_zero h0
    have hr := run_append_owned_none (P := Tryz.prog) (w := w) base 80 80 9 i0 1 Tryz.underlying80 hi v _ _ hown
    rw [List.append_nil]
    obtain ⟨a, c, rfl⟩ : ∃ a c, v = .slice a xs.length c := by
      rcases hown.2 with ⟨rfl, h1⟩ | ⟨g, cap, cur, rfl, _⟩
      · exact ⟨none, 0, by rw [h1]⟩
      · exact ⟨_, _, rfl⟩
    exact ⟨a, c, w, hr, hown, World.grownBy.refl _ _⟩
  · obtain ⟨v', w', hr, h1, h2, _⟩ := run_append_own (P := Tryz.prog) w base 80 80 9 i0 (.string ⟨#[]⟩) 1 16 Tryz.underlying80 hi hz0 hz1 hz2 rfl (by decide) v xs.length _ hown ⟨g, 0, none⟩ ys.length cap (ys.map strV) (by rw [List.length_map, Nat.mul_one]) (fun j x hj => ho2.cells (g := g) rfl j x hj) (strs_one _) (by unfold maxLen; omega) (by omega) hb
    rw [← List.map_append] at h1
    obtain ⟨a, c, rfl⟩ := fin v' w' h1
    rw [e1] at hr h1 ⊢
    exact ⟨a, c, w', hr, h1, h2⟩
theorem wpList_app {ops : Array Oper} {rest : List Oper} {o : Oper} {a : Act} {w : World} {Q : Exit → Act → World → Prop} (hw : Region.wanted o (yielded ops a.tmps) = true) (s x : Operand)
    (ho : o.op = .call { callee := .builtin .append, args := #[s, x], argTypes := #[80, 80] }) (hty : o.type = 80) (base : Nat) {v u : Value} {xs ys : List (List UInt8)} (hs : a.eval s = v) (hx : a.eval x = u)
    (hown : w.ownsRow base 9 1 v xs.length (xs.map strV)) (hu : Own w u ys) (hb : base ≤ w.heap.size) (hl : xs.length + ys.length ≤ 4000000)
    (h : ∀ a' c' w', w'.ownsRow base 9 1 (.slice a' (xs ++ ys).length c') (xs ++ ys).length ((xs ++ ys).map strV) → w.grownBy w' v.ownBlock → wpList Tryz.prog ops Q rest (a.put o.dst (.slice a' (xs ++ ys).length c')) w') :
    wpList Tryz.prog ops Q (o :: rest) a w := by
  obtain ⟨a', c', w', hr, h1, h2⟩ := run_app base hown hu hb hl
  unfold wpList
  rw [if_pos hw]
  left
  unfold Oper.wp
  simp [execOp, ho, hty, resolve, invoke, builtin, hs, hx, hr, Result.andThen]
  have h3 := h a' c' w' h1 h2
  rw [List.length_append] at h3
  exact h3
/-- A new string is appended. -/
theorem wpList_app1 {ops : Array Oper} {rest : List Oper} {o : Oper} {a : Act} {w : World} {Q : Exit → Act → World → Prop} (hw : Region.wanted o (yielded ops a.tmps) = true) (s x : Operand)
    (ho : o.op = .call { callee := .builtin .append, args := #[s, x], argTypes := #[80, 80] }) (hty : o.type = 80) (base : Nat) {v : Value} {xs : List (List UInt8)} {n : Nat} (y : List UInt8) (hs : a.eval s = v) (hx : a.eval x = .slice (some ⟨w.heap.size, 0, none⟩) 1 1)
    (hown : w.ownsRow base 9 1 v xs.length (xs.map strV)) (hn : xs.length = n) (hb : base ≤ w.heap.size) (hl : n + 1 ≤ 4000000)
    (h : ∀ a' c' w', w'.ownsRow base 9 1 (.slice a' (n + 1) c') (xs ++ [y]).length ((xs ++ [y]).map strV) → (w.alloc (.cells #[.string (strL y)] 9)).grownBy w' v.ownBlock → wpList Tryz.prog ops Q rest (a.put o.dst (.slice a' (n + 1) c')) w') :
    wpList Tryz.prog ops Q (o :: rest) a (w.alloc (.cells #[.string (strL y)] 9)) := by
  subst hn
  refine wpList_app hw s x ho hty base hs hx (World.ownsRow.alloc hown _) (own_one w y) (by rw [World.size_alloc]; omega) (by simp; omega) ?_
  intro a' c' w' h1 h2
  rw [List.length_append] at h1 ⊢
  exact h a' c' w' (by rw [List.length_append]; exact h1) h2
/-! ### Fields -/
def fldV (f : Fld) : List Value := [.string (strL f.name), .string (strL f.value), .string (strL f.raw), .bool f.bad]
/-- A field as a value. -/
def fldA (f : Fld) : Value := .agg #[.string (strL f.name), .string (strL f.value), .string (strL f.raw), .bool f.bad]
def fldsV (l : List Fld) : List Value := l.flatMap fldV
theorem fldsV_len (l : List Fld) : (fldsV l).length = l.length * 4 := by
  unfold fldsV
  induction l with
  | nil => rfl
  | cons m l ih => rw [List.flatMap_cons, List.length_append, ih, List.length_cons]; simp [fldV]; omega
theorem fldsV_app (a b : List Fld) : fldsV a ++ fldsV b = fldsV (a ++ b) := by unfold fldsV; rw [List.flatMap_append]
theorem fldsV_one (f : Fld) : fldsV [f] = fldV f := by unfold fldsV; simp
theorem fldsV_at : ∀ (l : List Fld) (i : Nat) (f : Fld), l[i]? = some f → ∀ j, j < 4 → (fldsV l)[i * 4 + j]? = (fldV f)[j]?
  | [], i, m, h => by simp at h
  | x :: l, 0, m, h => by
    simp at h
    subst h
    intro j hj
    rw [show fldsV (x :: l) = fldV x ++ fldsV l by unfold fldsV; rw [List.flatMap_cons], Nat.zero_mul, Nat.zero_add, List.getElem?_append_left (by simp [fldV]; exact hj)]
  | x :: l, i + 1, m, h => by
    intro j hj
    have ih := fldsV_at l i m (by simpa using h) j hj
    rw [show fldsV (x :: l) = fldV x ++ fldsV l by unfold fldsV; rw [List.flatMap_cons], List.getElem?_append_right (by simp [fldV]; omega)]
    have e1 : (i + 1) * 4 + j - (fldV x).length = i * 4 + j := by simp [fldV]; omega
    rw [e1]
    exact ih
theorem fldV_one (f : Fld) : ∀ u ∈ fldV f, u.oneCell' = true := by
  intro u hu
  simp [fldV] at hu
  rcases hu with rfl | rfl | rfl | rfl <;> rfl
/-- The slice v reads as the fields l: at g, from cell o on. -/
def FAt (w : World) (g o : Nat) (l : List Fld) : Prop := ∀ i f, l[i]? = some f → w.cell? ⟨g, o + i * 4, none⟩ = some (.string (strL f.name)) ∧ w.cell? ⟨g, o + i * 4 + 1, none⟩ = some (.string (strL f.value)) ∧ w.cell? ⟨g, o + i * 4 + 2, none⟩ = some (.string (strL f.raw)) ∧ w.cell? ⟨g, o + i * 4 + 3, none⟩ = some (.bool f.bad)
def OwnF (w : World) (v : Value) (l : List Fld) : Prop := ∃ base, w.ownsRow base 78 4 v l.length (fldsV l)
theorem OwnF.step {w w' : World} {v : Value} {xs : List Fld} (h : OwnF w v xs) (hb : Below w.heap.size w w') : OwnF w' v xs := by
  obtain ⟨b, ho⟩ := h; exact ⟨b, own_below ho hb⟩
theorem OwnF.shape {w : World} {v : Value} {xs : List Fld} (h : OwnF w v xs) : ∃ a c, v = .slice a xs.length c := by
  obtain ⟨b, ho⟩ := h
  rcases ho.2 with ⟨rfl, h0⟩ | ⟨g, cap, cur, rfl, _⟩
  · exact ⟨none, 0, by rw [h0]⟩
  · exact ⟨_, _, rfl⟩
theorem OwnF.at {w : World} {a : Option Addr} {n c : Nat} {xs : List Fld} (h : OwnF w (.slice a n c) xs) (hn : 0 < n) : ∃ g, a = some ⟨g, 0, none⟩ ∧ FAt w g 0 xs := by
  obtain ⟨b, ho⟩ := h
  rcases ho.2 with ⟨e, h0⟩ | ⟨g, cap, cur, e, _⟩
  · injection e with _ e2 _; omega
  · have e' := e
    injection e with e1 _ _
    subst e1
    refine ⟨g, rfl, fun i f hf => ?_⟩
    have key : ∀ j u, j < 4 → (fldV f)[j]? = some u → w.cell? ⟨g, 0 + i * 4 + j, none⟩ = some u := fun j u hj hu => by
      have := ho.cells (g := g) rfl (i * 4 + j) u (by rw [fldsV_at xs i f hf j hj]; exact hu)
      rwa [add_none, ← Nat.add_assoc] at this
    exact ⟨key 0 _ (by decide) rfl, key 1 _ (by decide) rfl, key 2 _ (by decide) rfl, key 3 _ (by decide) rfl⟩
theorem FAt.drop {w : World} {g o : Nat} {f : Fld} {l : List Fld} (h : FAt w g o (f :: l)) : FAt w g (o + 4) l := by
  intro i x hx
  have := h (i + 1) x (by simpa using hx)
  rwa [show o + (i + 1) * 4 = o + 4 + i * 4 by omega] at this
theorem FAt.lt {w : World} {g o : Nat} {l : List Fld} (h : FAt w g o l) (hl : l ≠ []) : g < w.heap.size := by
  cases l with
  | nil => exact absurd rfl hl
  | cons f r => exact World.block_lt_of_cell? w _ (h 0 f rfl).1
theorem FAt.keep {w w' : World} {g o : Nat} {l : List Fld} (h : FAt w g o l) (hk : w'.heap[g]? = w.heap[g]?) : FAt w' g o l := by
  intro i f hf
  obtain ⟨h1, h2, h3, h4⟩ := h i f hf
  exact ⟨by rw [World.cell?_of_block (by exact hk)]; exact h1, by rw [World.cell?_of_block (by exact hk)]; exact h2, by rw [World.cell?_of_block (by exact hk)]; exact h3, by rw [World.cell?_of_block (by exact hk)]; exact h4⟩
theorem FAt.step {w w' : World} {g o : Nat} {l : List Fld} (h : FAt w g o l) (hb : Below w.heap.size w w') : FAt w' g o l := by
  by_cases hl : l = []
  · subst hl; intro i f hf; simp at hf
  · exact h.keep (hb.block g (h.lt hl))
theorem news_fld (w : World) (f : Fld) : ∀ j u, (fldV f)[j]? = some u → (w.alloc (.cells (fldV f).toArray 78)).cell? ((⟨w.heap.size, 0, none⟩ : Addr).add j) = some u := by
  intro j u h
  have := World.cell?_alloc_mark w (fldV f).toArray 78 (0, 0) j
  rw [add_none, Nat.zero_add, this, List.getElem?_toArray]; exact h
theorem info38 : (Tryz.prog.info? 78).map (fun i => (i.zero, i.size, i.bytes)) = some (some (.agg #[.string ⟨#[]⟩, .string ⟨#[]⟩, .string ⟨#[]⟩, .bool false]), 4, 56) := by kernel_rfl
/-- A field is appended. -/
theorem run_appF {w : World} (base : Nat) {v : Value} {xs : List Fld} (f : Fld) (hown : w.ownsRow base 78 4 v xs.length (fldsV xs)) (hb : base ≤ w.heap.size) (hl : xs.length ≤ 4000000) :
    ∃ a c w', (Builtin.append_ #[45, 45] 45 #[v, .slice (some ⟨w.heap.size, 0, none⟩) 1 1]).run Tryz.prog (w.alloc (.cells #[.string (strL f.name), .string (strL f.value), .string (strL f.raw), .bool f.bad] 78)) = .ok (.slice a (xs.length + 1) c) w' ∧
      w'.ownsRow base 78 4 (.slice a (xs.length + 1) c) (xs ++ [f]).length (fldsV (xs ++ [f])) ∧ (w.alloc (.cells #[.string (strL f.name), .string (strL f.value), .string (strL f.raw), .bool f.bad] 78)).grownBy w' v.ownBlock := by
  obtain ⟨i0, hi, hz0, hz1, hz2⟩ := info_parts info38
  obtain ⟨v', w', hr, h1, h2, _⟩ := run_append_own (P := Tryz.prog) (w.alloc (.cells (fldV f).toArray 78)) base 45 45 78 i0 _ 4 56 Tryz.underlying45 hi hz0 hz1 hz2 rfl (by decide) v xs.length _ (World.ownsRow.alloc hown _) ⟨w.heap.size, 0, none⟩ 1 1 (fldV f) rfl (news_fld w f) (fldV_one f) (by unfold maxLen; omega) (by omega) (by rw [World.size_alloc]; omega)
  rw [← fldsV_one, fldsV_app, ← List.length_singleton (a := f), ← List.length_append] at h1
  obtain ⟨a, c, rfl⟩ : ∃ a c, v' = .slice a (xs.length + 1) c := by
    rcases h1.2 with ⟨rfl, h0⟩ | ⟨g, cap, cur, rfl, _⟩
    · simp at h0
    · exact ⟨_, _, by rw [List.length_append]; rfl⟩
  exact ⟨a, c, w', hr, h1, h2⟩
theorem wpList_appF {ops : Array Oper} {rest : List Oper} {o : Oper} {a : Act} {w : World} {Q : Exit → Act → World → Prop} (hw : Region.wanted o (yielded ops a.tmps) = true) (s x : Operand)
    (ho : o.op = .call { callee := .builtin .append, args := #[s, x], argTypes := #[45, 45] }) (hty : o.type = 45) (base : Nat) {v : Value} {xs : List Fld} {n : Nat} (f : Fld) (hs : a.eval s = v) (hx : a.eval x = .slice (some ⟨w.heap.size, 0, none⟩) 1 1)
    (hown : w.ownsRow base 78 4 v xs.length (fldsV xs)) (hn : xs.length = n) (hb : base ≤ w.heap.size) (hl : n ≤ 4000000)
    (h : ∀ a' c' w', w'.ownsRow base 78 4 (.slice a' (n + 1) c') (xs ++ [f]).length (fldsV (xs ++ [f])) → (w.alloc (.cells #[.string (strL f.name), .string (strL f.value), .string (strL f.raw), .bool f.bad] 78)).grownBy w' v.ownBlock → wpList Tryz.prog ops Q rest (a.put o.dst (.slice a' (n + 1) c')) w') :
    wpList Tryz.prog ops Q (o :: rest) a (w.alloc (.cells #[.string (strL f.name), .string (strL f.value), .string (strL f.raw), .bool f.bad] 78)) := by
  subst hn
  obtain ⟨a', c', w', hr, h1, h2⟩ := run_appF base f hown hb hl
  unfold wpList
  rw [if_pos hw]
  left
  unfold Oper.wp
  simp [execOp, ho, hty, resolve, invoke, builtin, hs, hx, hr, Result.andThen]
  exact h a' c' w' h1 h2
/-- Fields are compared part by part. -/
theorem fld_ext {f g : Fld} (h1 : f.name = g.name) (h2 : f.value = g.value) (h3 : f.raw = g.raw) (h4 : f.bad = g.bad) : f = g := by
  cases f; cases g; simp_all
theorem fld_iff (f g : Fld) : (decide (f = g)) = ((strL f.name).toList == (strL g.name).toList && ((strL f.value).toList == (strL g.value).toList && ((strL f.raw).toList == (strL g.raw).toList && f.bad == g.bad))) := by
  rw [eq_strL, eq_strL, eq_strL, Bool.eq_iff_iff]
  simp only [Bool.and_eq_true, decide_eq_true_iff, beq_iff_eq]
  exact ⟨fun h => by rw [h]; exact ⟨rfl, rfl, rfl, rfl⟩, fun h => fld_ext h.1 h.2.1 h.2.2.1 h.2.2.2⟩
theorem run_equal_fld (f g : Fld) (W : World) : (Op.equalIn 10000 78 (.agg #[.string (strL f.name), .string (strL f.value), .string (strL f.raw), .bool f.bad]) (.agg #[.string (strL g.name), .string (strL g.value), .string (strL g.raw), .bool g.bad])).run Tryz.prog W = .ok (decide (f = g)) W := by
  rw [fld_iff]
  generalize strL f.name = a1
  generalize strL g.name = b1
  generalize strL f.value = a2
  generalize strL g.value = b2
  generalize strL f.raw = a3
  generalize strL g.raw = b3
  generalize f.bad = a4
  generalize g.bad = b4
  go_simp
  cases h1 : (a1.toList == b1.toList) <;> cases h2 : (a2.toList == b2.toList) <;> cases h3 : (a3.toList == b3.toList) <;> cases a4 <;> cases b4 <;> simp_all
theorem run_neq_fld (f g : Fld) (W : World) : (binOp .neq 78 (.agg #[.string (strL f.name), .string (strL f.value), .string (strL f.raw), .bool f.bad]) (.agg #[.string (strL g.name), .string (strL g.value), .string (strL g.raw), .bool g.bad])).run Tryz.prog W = .ok (.bool (!decide (f = g))) W := by
  rw [run_neq_struct, run_equal_fld]; rfl
end Go.Proofs.YtdinachiiimngaaGreatDoor.Hd
namespace Go.Proofs.YtdinachiiimngaaGreatDoor.Hd
open Go.ChangeShapes Go.WideShapes Go.ChangeAt Go.RowKit
open LinesP HdrP

/-- Before index k: the pieces done, and where the one that has begun starts. -/
def CutP (S : List UInt8) (k a : Nat) (out : List (List UInt8)) : Prop := (S = [] ∧ k = 1 ∧ a = 0 ∧ out = []) ∨ HdrP.Cut S k a out
theorem CutP.start (S : List UInt8) : CutP S 1 0 [] := by
  by_cases h : S = []
  · exact .inl ⟨h, rfl, rfl, rfl⟩
  · exact .inr (HdrP.Cut.one (List.length_pos_iff.2 h))
theorem CutP.next {S : List UInt8} {k a : Nat} {out : List (List UInt8)} (h : CutP S k a out) {c p : UInt8} (hc : S[k]? = some c) (hp : S[k - 1]? = some p) :
    if (HdrP.blank c && !HdrP.blank p) = true then CutP S (k + 1) k (out ++ [(S.drop a).take (k - a)]) else CutP S (k + 1) a out := by
  rcases h with ⟨rfl, _⟩ | h
  · simp at hc
  · have := h.next c p hc hp
    split at this <;> rename_i hb
    · rw [if_pos hb]; exact .inr this
    · rw [if_neg hb]; exact .inr this
theorem CutP.done {S : List UInt8} {k a : Nat} {out : List (List UInt8)} (h : CutP S k a out) (hk : S.length ≤ k) : piecesP S = out ++ [S.drop a] := by
  rcases h with ⟨rfl, _, rfl, rfl⟩ | h
  · rfl
  · have hk2 : k = S.length := by have := h.2.1; omega
    subst hk2
    unfold piecesP
    rw [if_neg (by intro e; have := h.1; have := h.2.1; rw [e] at *; simp at *), h.done]
theorem CutP.empty {S : List UInt8} {k a : Nat} {out : List (List UInt8)} (h : CutP S k a out) (hS : S = []) : out = [] := by
  rcases h with ⟨_, _, _, h⟩ | h
  · exact h
  · have := h.1
    have := h.2.1
    rw [hS] at *
    simp at *
    omega

set_option maxRecDepth 100000 in
set_option maxHeartbeats 4000000 in
theorem pieces_any (s : ByteArray) (hs : s.size ≤ 3900000) (w : World) :
    Calls Tryz.prog 59 #[.string s] w fun e w' => ∃ a c, e = .returned (.slice a (piecesP s.data.toList).length c) ∧ w'.ownsRow w.heap.size 9 1 (.slice a (piecesP s.data.toList).length c) (piecesP s.data.toList).length ((piecesP s.data.toList).map strV) ∧ Below w.heap.size w w' := by
  obtain ⟨S, hS⟩ : ∃ S, s.data.toList = S := ⟨_, rfl⟩
  have hsz : S.length = s.size := by rw [← hS, ← size_list]
  have HS := Lib.hid hS
  have HZ := Lib.hid hsz
  rw [hS]
  clear hS hsz
  go_enter Tryz.func59, Tryz.ntmps59
  go_wp2_with fail
  go_loopw [3, 4, 5] (fun o st i wr => ∃ (k a m : Nat) (out : List (List UInt8)), i = .int .i64 k ∧ st = .int .i64 a ∧ a < k ∧ a ≤ s.size ∧ k ≤ s.size + 1 ∧ m + 1 ≤ k ∧ out.length = m ∧ Hid (CutP S k a out) ∧ (∃ ad c, o = .slice ad m c) ∧ Hid (wr.ownsRow w.heap.size 9 1 o out.length (out.map strV)) ∧ Hid (Below w.heap.size w wr)) (fun _ _ i _ => s.size + 1 - (intOf i).toNat)
  case atStart => exact ⟨1, 0, 0, [], rfl, rfl, by omega, by omega, by omega, by omega, rfl, Lib.hid (CutP.start S), ⟨none, 0, rfl⟩, ⟨rfl, .inl ⟨rfl, rfl⟩⟩, Below.refl _ _⟩
  case round =>
    obtain ⟨k, a, m, out, rfl, rfl, hak, has, hks, hmk, hm, hcut, ⟨ad, c, rfl⟩, ho, hb⟩ := hrel
    have HM := Lib.hid hm
    clear hm
    have F1 : IntKind.i64.wrap ((k : Int) + 1) = (k : Int) + 1 := by rw [IntKind.wrap_i64]; omega
    by_cases hlt : k < s.size
    · have hlt' : (k : Int) < (s.size : Int) := by omega
      obtain ⟨ch, x, hc, hx, _, RI⟩ := run_byte s k hlt
      obtain ⟨ph, y, hp, hy, _, RJ⟩ := run_byte s (k - 1) (by omega)
      have F2 : IntKind.i64.wrap ((k : Int) - 1) = ((k - 1 : Nat) : Int) := by rw [IntKind.wrap_i64]; omega
      rw [HS.out] at hc hp
      have hn := hcut.out.next hc hp
      have cB := fun w => isBlank_any ch x hx w
      have cP := fun w => isBlank_any ph y hy w
      generalize HdrP.blank ch = b1 at hn cB
      generalize HdrP.blank ph = b2 at hn cP
      clear hx hy hc hp
      cases b1
      · rw [if_neg (by simp)] at hn
        have HN := Lib.hid hn
        clear hn cP RJ F2
        go_wp2_with (go_at_call 89; with_reducible refine (cB _).mono ?_; rintro e w9 ⟨rfl, hw⟩; rw [← hw]; clear hw w9)
        go_roundw
        case rel => exact ⟨k + 1, a, m, out, by go_num, rfl, by omega, has, by omega, by omega, HM.out, HN, ⟨ad, c, rfl⟩, ho, hb⟩
        case measure => simp [intOf]; omega
      · cases b2
        · rw [if_pos (by simp)] at hn
          have HN := Lib.hid hn
          obtain ⟨X, hX⟩ : ∃ X, (S.drop a).take (k - a) = X := ⟨_, rfl⟩
          rw [hX] at HN
          have hcx : s.extract a k = strL X := by rw [part_of s a k (by omega) (by omega), HS.out, hX]
          have R1 := run_slice_str s a k (k : Int) rfl (by omega) (by omega)
          rw [hcx] at R1
          clear hn hX hcx
          go_wp2_with (first
            | (go_at_call 89; with_reducible refine (cB _).mono ?_; rintro e w9 ⟨rfl, hw⟩; rw [← hw]; clear hw w9 cB)
            | (go_at_call 89; with_reducible refine (cP _).mono ?_; rintro e w9 ⟨rfl, hw⟩; rw [← hw]; clear hw w9 cP)
            | (at_builtin; refine wpList_app1 (by rfl) (.tmp 24) (.tmp 29) rfl rfl w.heap.size X rfl rfl ho.out HM.out (by exact hb.out.size) (by omega) ?_; intro a2 c2 w2 h2 g2; replace h2 := Lib.hid h2; replace g2 := Lib.hid g2))
          go_roundw
          case rel =>
            refine ⟨k + 1, k, m + 1, out ++ [X], by go_num, rfl, by omega, by omega, by omega, by omega, by rw [List.length_append, HM.out]; rfl, HN, ⟨a2, c2, rfl⟩, ?_, ?_⟩
            · exact h2
            · exact (hb.out.alloc hb.out.size _).grown g2.out (by have := hb.out.size; rw [World.size_alloc]; omega) (fun k e => (ho.out.lt k e).1)
          case measure => simp [intOf]; omega
        · rw [if_neg (by simp)] at hn
          have HN := Lib.hid hn
          clear hn
          go_wp2_with (first
            | (go_at_call 89; with_reducible refine (cB _).mono ?_; rintro e w9 ⟨rfl, hw⟩; rw [← hw]; clear hw w9 cB)
            | (go_at_call 89; with_reducible refine (cP _).mono ?_; rintro e w9 ⟨rfl, hw⟩; rw [← hw]; clear hw w9 cP))
          go_roundw
          case rel => exact ⟨k + 1, a, m, out, by go_num, rfl, by omega, has, by omega, by omega, HM.out, HN, ⟨ad, c, rfl⟩, ho, hb⟩
          case measure => simp [intOf]; omega
    · have hlt' : ¬ (k : Int) < (s.size : Int) := by omega
      have HD := Lib.hid (hcut.out.done (by rw [HZ.out]; omega))
      obtain ⟨X, hX⟩ : ∃ X, S.drop a = X := ⟨_, rfl⟩
      rw [hX] at HD
      have hcx : s.extract a s.size = strL X := bytes_is (by rw [part_rest s a has, HS.out, hX]; rfl)
      have R1 := run_slice_from s a (a : Int) rfl has
      rw [hcx] at R1
      clear hX hcx
      go_wp2_with (at_builtin; refine wpList_app1 (by rfl) (.tmp 32) (.tmp 36) rfl rfl w.heap.size X rfl rfl ho.out HM.out (by exact hb.out.size) (by omega) ?_; intro a2 c2 w2 h2 g2; replace h2 := Lib.hid h2; replace g2 := Lib.hid g2)
      go_ret
      rw [HD.out]
      exact ⟨a2, c2, by rw [List.length_append, HM.out]; rfl, by have h := h2.out; rw [List.length_append, HM.out] at *; exact h, (hb.out.alloc hb.out.size _).grown g2.out (by have := hb.out.size; rw [World.size_alloc]; omega) (fun k e => (ho.out.lt k e).1)⟩

end Go.Proofs.YtdinachiiimngaaGreatDoor.Hd
namespace Go.Proofs.YtdinachiiimngaaGreatDoor.Hd
open Go.ChangeShapes Go.WideShapes Go.ChangeAt Go.RowKit
open LinesP HdrP

theorem run_next_any {P : Program} (w : World) (s : ByteArray) (pos : Nat) (ty : TypeId) (h : pos < s.size) :
    (Instr.next (.pointer (some ⟨w.heap.size, 0, none⟩)) true ty).run P (w.iter s pos) =
      .ok (.tuple #[.bool true, .int .i64 pos, .int .i32 ((Utf8.decode s pos).1 : Int)]) (w.iter s (pos + (Utf8.decode s pos).2)) := by
  simp only [Instr.next, getObj, setObj, Sem.run_bind, Sem.run, World.iter_heap, Result.andThen, h, if_true, World.iter_set]
  simp [goInt]
theorem decode_big (s : ByteArray) (pos : Nat) (h : pos < s.size) (ha : ¬ (s[pos]'h).toNat < 128) : 128 ≤ (Utf8.decode s pos).1 := by
  have e : s.get! (pos + 0) = s[pos]'h := by
    show s.get! pos = _
    simp [ByteArray.get!, getElem!_pos, h]
    rfl
  simp only [Utf8.decode, e, ha, if_false]
  (repeat' split) <;> first | (simp only [Utf8.runeError]; omega) | (dsimp only; omega) | (rename_i h1; simp only [Bool.and_eq_true, decide_eq_true_eq] at h1; dsimp only; omega)
/-- Where an iterator stands. -/
def iterPos (w : World) (b : Nat) : Nat := match w.heap[b]? with | some (.stringIter _ p) => p | _ => 0
theorem iterPos_iter (w : World) (s : ByteArray) (p : Nat) : iterPos (w.iter s p) w.heap.size = p := by
  unfold iterPos; rw [World.iter_heap]
theorem below_iter (w : World) (s : ByteArray) (p : Nat) : Below w.heap.size w (w.iter s p) := (Below.refl _ _).alloc (Nat.le_refl _) _
theorem name_byte_is (c : UInt8) (x : Nat) (hx : c.toNat = x) : nameByte c = (decide (33 ≤ x) && decide (x ≤ 126) && !decide (x = 58)) := by
  unfold nameByte
  rw [hx]
  congr 1
  rw [bne, Bool.eq_iff_iff]
  simp only [Bool.not_eq_true', beq_eq_false_iff_ne, decide_eq_false_iff_not]
  constructor
  · intro h e; apply h; exact UInt8.toNat_inj.1 (by rw [hx]; exact e)
  · intro h e; apply h; rw [← hx, e]; rfl
theorem right_of {l : List UInt8} {k : Nat} (h : (l.take k).all nameByte = true) (hk : l.length ≤ k) : rightL l = !l.isEmpty := by
  rw [List.take_of_length_le hk] at h
  unfold rightL
  rw [h, Bool.and_true]
theorem right_bad {l : List UInt8} {k : Nat} {c : UInt8} (h : l[k]? = some c) (hb : nameByte c = false) : rightL l = false := by
  unfold rightL
  rw [Bool.and_eq_false_iff]
  right
  rw [List.all_eq_false]
  exact ⟨c, List.mem_of_getElem? h, by rw [hb]; exact Bool.false_ne_true⟩
theorem all_step {l : List UInt8} {k : Nat} {c : UInt8} (h : l[k]? = some c) (ha : (l.take k).all nameByte = true) (hb : nameByte c = true) : (l.take (k + 1)).all nameByte = true := by
  rw [right_prefix l k c h ha]; exact hb
set_option maxHeartbeats 2000000 in
theorem right_any (s : ByteArray) (w : World) :
    Calls Tryz.prog 58 #[.string s] w fun e w' => e = .returned (.bool (rightL s.data.toList)) ∧ Below w.heap.size w w' := by
  have hne : (s.toList != []) = !s.data.toList.isEmpty := by
    rw [ByteArray.toList_eq]; cases s.data.toList <;> rfl
  have HNE := Lib.hid hne
  clear hne
  have HL := Lib.hid (size_list s)
  go_enter Tryz.func58, Tryz.ntmps58
  go_wp2_with fail
  go_loopw [4] (fun c wr => ∃ p : Nat, p ≤ s.size ∧ wr = w.iter s p ∧ Hid ((s.data.toList.take p).all nameByte = true)) (fun c wr => s.size - iterPos wr w.heap.size)
  case atStart => exact ⟨0, Nat.zero_le _, rfl, rfl⟩
  case round =>
    obtain ⟨p, hp, rfl, hall⟩ := hrel
    by_cases hlt : p < s.size
    · obtain ⟨c, hc, hcs⟩ := byte_at s p hlt
      by_cases h128 : c.toNat < 128
      · have hnx := fun ty => run_next_ascii (P := Tryz.prog) w s p ty hlt (by rw [hcs]; exact h128)
        have hn := name_byte_is c _ rfl
        rw [hcs] at hnx
        obtain ⟨x, hx⟩ : ∃ x, c.toNat = x := ⟨_, rfl⟩
        rw [hx] at hnx hn
        have HC := Lib.hid hc
        clear hc hcs h128 hx
        by_cases h1 : 33 ≤ x
        · have h1' : ¬ (x : Int) < 33 := by omega
          by_cases h2 : x ≤ 126
          · have h2' : ¬ (126 : Int) < x := by omega
            by_cases h3 : x = 58
            · have h3' : ((x : Int) == 58) = true := by rw [beq_iff_eq]; omega
              have HB := Lib.hid (right_bad HC.out (by rw [hn, decide_eq_true h3]; simp))
              clear hn h3
              go_wp2_with fail
              go_ret
              exact ⟨by rw [HB.out]; rfl, below_iter _ _ _⟩
            · have h3' : ((x : Int) == 58) = false := by rw [beq_eq_false_iff_ne]; omega
              have HA := Lib.hid (all_step HC.out hall.out (by rw [hn, decide_eq_true h1, decide_eq_true h2, decide_eq_false h3]; rfl))
              clear hn h3
              go_wp2_with fail
              exact ⟨⟨p + 1, by omega, rfl, HA⟩, by rw [iterPos_iter, iterPos_iter]; omega⟩
          · have h2' : (126 : Int) < x := by omega
            have HB := Lib.hid (right_bad HC.out (by rw [hn, decide_eq_false h2]; simp))
            clear hn
            go_wp2_with fail
            go_ret
            exact ⟨by rw [HB.out]; rfl, below_iter _ _ _⟩
        · have h1' : (x : Int) < 33 := by omega
          have HB := Lib.hid (right_bad HC.out (by rw [hn, decide_eq_false h1]; simp))
          clear hn
          go_wp2_with fail
          go_ret
          exact ⟨by rw [HB.out]; rfl, below_iter _ _ _⟩
      · have hnx := fun ty => run_next_any (P := Tryz.prog) w s p ty hlt
        have hbig := decode_big s p hlt (by rw [hcs]; exact h128)
        have HB := Lib.hid (right_bad hc (by rw [name_byte_is c _ rfl, decide_eq_false (show ¬ c.toNat ≤ 126 by omega)]; simp))
        generalize (Utf8.decode s p).1 = y at hnx hbig
        generalize (Utf8.decode s p).2 = z at hnx
        have h1' : ¬ (y : Int) < 33 := by omega
        have h2' : (126 : Int) < y := by omega
        clear hc hcs h128 hbig
        go_wp2_with fail
        go_ret
        exact ⟨by rw [HB.out]; rfl, below_iter _ _ _⟩
    · obtain rfl : p = s.size := by omega
      have hnx := fun ty => run_next_end (P := Tryz.prog) w s ty
      have HR := Lib.hid (right_of hall.out (by rw [← HL.out]; exact Nat.le_refl _))
      have hne := HNE.out
      go_wp2_with fail
      go_ret
      exact ⟨by rw [HR.out, ← ByteArray.toList_eq]; rfl, below_iter _ _ _⟩
end Go.Proofs.YtdinachiiimngaaGreatDoor.Hd
namespace Go.Proofs.YtdinachiiimngaaGreatDoor.Hd
open Go.ChangeShapes Go.WideShapes Go.ChangeAt Go.RowKit

theorem strV_ne {a b : List UInt8} : ((⟨a.toArray⟩ : ByteArray).toList != (⟨b.toArray⟩ : ByteArray).toList) = decide (a ≠ b) := by
  rw [ByteArray.toList_eq, ByteArray.toList_eq]
  show (a != b) = _
  rw [Bool.eq_iff_iff]; simp
theorem grown_drewN {w w1 : World} {row : Option Nat} (h : w.grownBy w1 row) (n : Nat) : w.grownBy (w1.drewN n) row := ⟨h.os, h.tape, h.output, h.size, h.block⟩

end Go.Proofs.YtdinachiiimngaaGreatDoor.Hd
namespace Go.Proofs.YtdinachiiimngaaGreatDoor.Hd
open Go.ChangeShapes Go.WideShapes Go.ChangeAt Go.RowKit
open LinesP HdrP

theorem lower_w (c : UInt8) (x : Nat) (hx : c.toNat = x) (w : World) :
    Calls Tryz.prog 135 #[.int .u8 x] w fun e w' => e = .returned (.int .u8 ((low c).toNat : Int)) ∧ w' = w :=
  (lower_any c x hx w).mono fun _ _ hh => ⟨hh.1, hh.2.symm⟩
theorem low_same {a b : List UInt8} (h : a.length = b.length) (k : Nat) (hk : a.length ≤ k) (he : ∀ i (_ : i < k) (c d : UInt8), a[i]? = some c → b[i]? = some d → low c = low d) : a.map low = b.map low := by
  refine List.ext_getElem (by simpa using h) fun i h1 h2 => ?_
  rw [List.length_map] at h1 h2
  rw [List.getElem_map, List.getElem_map]
  exact he i (by omega) _ _ (List.getElem?_eq_getElem h1) (List.getElem?_eq_getElem h2)
theorem low_differ {a b : List UInt8} {k : Nat} {c d : UInt8} (h1 : a[k]? = some c) (h2 : b[k]? = some d) (hn : low c ≠ low d) : a.map low ≠ b.map low := by
  intro e
  have := congrArg (·[k]?) e
  simp only [List.getElem?_map, h1, h2, Option.map_some, Option.some.injEq] at this
  exact hn this
set_option maxRecDepth 100000 in
set_option maxHeartbeats 4000000 in
theorem sameName_any (a b : ByteArray) (ha : a.size ≤ 4000000) (w : World) :
    Calls Tryz.prog 94 #[.string a, .string b] w fun e w' => e = .returned (.bool (decide (a.data.toList.map low = b.data.toList.map low))) ∧ w.grownBy w' none := by
  have HA := Lib.hid (size_list a)
  have HB := Lib.hid (size_list b)
  by_cases hl : a.size = b.size
  · have hne : ((a.size : Int) != (b.size : Int)) = false := by rw [bne, hl]; simp
    have HL := Lib.hid hl
    clear hl
    go_enter Tryz.func94, Tryz.ntmps94
    go_wp2_with fail
    go_loopw [13] (fun i wr => ∃ k : Nat, k ≤ a.size ∧ i = .int .i64 k ∧ Hid (w.grownBy wr none) ∧ Hid (∀ i (_ : i < k) (c d : UInt8), a.data.toList[i]? = some c → b.data.toList[i]? = some d → low c = low d)) (fun i _ => a.size - (intOf i).toNat)
    case atStart => exact ⟨0, Nat.zero_le _, rfl, World.grownBy.refl _ _, by intro i h; omega⟩
    case round =>
      obtain ⟨k, hk, rfl, hgr, heq⟩ := hrel
      have F1 : IntKind.i64.wrap ((k : Int) + 1) = (k : Int) + 1 := by rw [IntKind.wrap_i64]; omega
      by_cases hlt : k < a.size
      · have hlt' : (k : Int) < (a.size : Int) := by omega
        obtain ⟨c, x, hc, hx, _, RI⟩ := run_byte a k hlt
        obtain ⟨d, y, hd, hy, _, RJ⟩ := run_byte b k (by have := HL.out; omega)
        have c1 := fun w => lower_w c x hx w
        have c2 := fun w => lower_w d y hy w
        by_cases he : low c = low d
        · have HE : Hid (∀ i (_ : i < k + 1) (c d : UInt8), a.data.toList[i]? = some c → b.data.toList[i]? = some d → low c = low d) := by
            intro i h c' d' h1 h2
            rcases (show i < k ∨ i = k by omega) with h' | rfl
            · exact heq.out i h' c' d' h1 h2
            · rw [hc] at h1
              rw [hd] at h2
              cases h1; cases h2; exact he
          rw [he] at c1
          have hpq : ((((low d).toNat : Nat) : Int) != (((low d).toNat : Nat) : Int)) = false := by simp
          generalize (low d).toNat = p at c1 c2 hpq
          clear hc hd hx hy he
          go_wp2_with fail
          go_quiet ((first | (go_at_call 135; with_reducible exact Calls.quiet_of_same (c1 _)) | (go_at_call 135; with_reducible exact Calls.quiet_of_same (c2 _))))
          go_wp2_with fail
          go_roundw
          case rel => exact ⟨k + 1, by omega, by go_num, grown_drewN hgr.out _, HE.out⟩
          case measure => simp [intOf]; omega
        · have HE : Hid (decide (a.data.toList.map low = b.data.toList.map low) = false) := by
            show _ = _
            rw [decide_eq_false_iff_not]
            exact low_differ hc hd he
          have hpq : ((((low c).toNat : Nat) : Int) != (((low d).toNat : Nat) : Int)) = true := by
            rw [bne, Bool.not_eq_true', beq_eq_false_iff_ne]
            intro e
            exact he (UInt8.toNat_inj.1 (by omega))
          have hpq' : ((((low c).toNat : Nat) : Int) == (((low d).toNat : Nat) : Int)) = false := by
            rw [beq_eq_false_iff_ne]
            intro e
            exact he (UInt8.toNat_inj.1 (by omega))
          generalize (low c).toNat = p at c1 hpq hpq'
          generalize (low d).toNat = q at c2 hpq hpq'
          clear hc hd hx hy he
          go_wp2_with fail
          go_quiet ((first | (go_at_call 135; with_reducible exact Calls.quiet_of_same (c1 _)) | (go_at_call 135; with_reducible exact Calls.quiet_of_same (c2 _))))
          go_wp2_with fail
          go_ret
          rw [HE.out]
          exact ⟨rfl, grown_drewN hgr.out _⟩
      · have hlt' : ¬ (k : Int) < (a.size : Int) := by omega
        have HE : Hid (decide (a.data.toList.map low = b.data.toList.map low) = true) := by
          show _ = _
          rw [decide_eq_true_iff]
          have h1 := HA.out
          have h2 := HB.out
          have h3 := HL.out
          exact low_same (by omega) k (by omega) heq.out
        go_wp2_with fail
        go_ret
        rw [HE.out]
        exact ⟨rfl, hgr.out⟩
  · have HE : Hid (decide (a.data.toList.map low = b.data.toList.map low) = false) := by
      show _ = _
      rw [decide_eq_false_iff_not]
      intro e
      have := low_map_len e
      rw [← size_list, ← size_list] at this
      exact hl this
    have hne : ((a.size : Int) == (b.size : Int)) = false := beq_eq_false_iff_ne.2 (by omega)
    have hne' : ((a.size : Int) != (b.size : Int)) = true := by rw [bne, hne]; rfl
    clear hl
    go_enter Tryz.func94, Tryz.ntmps94
    go_wp2_with fail
    go_ret
    rw [HE.out]
    exact ⟨rfl, World.grownBy.refl _ _⟩
end Go.Proofs.YtdinachiiimngaaGreatDoor.Hd
