/- Slices that can be read: what the encoders and the comparisons ask, what the decoders give. -/
import Derived.Test.YtbaddpkeaealpaaEnc
namespace Go.Proofs.Ytbaddpkeaealpaa
open Go.ChangeShapes Go.WideShapes Go.ChangeAt Go.RowKit

def strV (l : List UInt8) : Value := .string ⟨l.toArray⟩
def intV (n : Int) : Value := .int .i64 n
def blk : Value → Option Nat
  | .slice (some a) _ _ => some a.block
  | _ => none
/-- The slice v reads as xs. -/
def Has {A : Type} (E : A → Value) (w : World) (v : Value) (xs : List A) : Prop :=
  (v = .slice none 0 0 ∧ xs = []) ∨ ∃ a c, v = .slice (some a) xs.length c ∧ ∀ j (h : j < xs.length), w.cell? (a.add j) = some (E xs[j])
theorem Has.nil {A : Type} (E : A → Value) (w : World) : Has E w (.slice none 0 0) [] := Or.inl ⟨rfl, rfl⟩
theorem block_lt {w : World} {a : Addr} {j : Nat} {u : Value} (h : w.cell? (a.add j) = some u) : a.block < w.heap.size := by
  have := World.block_lt_of_cell? w (a.add j) h
  rwa [add_block] at this
theorem Has.keep {A : Type} {E : A → Value} {w w' : World} {v : Value} {xs : List A} (h : Has E w v xs) (hk : ∀ k, blk v = some k → k < w.heap.size → w'.heap[k]? = w.heap[k]?) : Has E w' v xs := by
  rcases h with h | ⟨a, c, rfl, h2⟩
  · exact Or.inl h
  · exact Or.inr ⟨a, c, rfl, fun j hj => by rw [World.cell?_of_block (w := w) (by rw [add_block]; exact hk a.block rfl (block_lt (h2 j hj)))]; exact h2 j hj⟩
theorem Has.below {A : Type} {E : A → Value} {w w' : World} {v : Value} {xs : List A} {B : Nat} (h : Has E w v xs) (hb : Below B w w') (hB : ∀ k, blk v = some k → k < w.heap.size → k < B) : Has E w' v xs :=
  h.keep fun k hk hl => hb.block k (hB k hk hl)
theorem Has.below' {A : Type} {E : A → Value} {w w' : World} {v : Value} {xs : List A} (h : Has E w v xs) (hb : Below w.heap.size w w') : Has E w' v xs := h.below hb fun _ _ h => h
theorem Has.kept {A : Type} {E : A → Value} {w w' : World} {v : Value} {xs : List A} {row : Option Nat} (h : Has E w v xs) (hg : w.grownBy w' row) (hne : ∀ k, blk v = some k → some k ≠ row) : Has E w' v xs :=
  h.keep fun k hk hl => hg.block k hl (hne k hk)
theorem Has.of_own {A : Type} {E : A → Value} {w : World} {base e : Nat} {v : Value} {xs : List A} (h : w.ownsRow base e 1 v xs.length (xs.map E)) : Has E w v xs ∧ ∀ k, blk v = some k → base ≤ k := by
  rcases h.2 with ⟨rfl, h0⟩ | ⟨g, cap, cur, rfl, hb, hg, _⟩
  · exact ⟨Or.inl ⟨rfl, List.eq_nil_of_length_eq_zero h0⟩, fun k hk => by cases hk⟩
  · refine ⟨Or.inr ⟨⟨g, 0, none⟩, cap, rfl, fun j hj => ?_⟩, fun k hk => by cases hk; exact hb⟩
    exact h.cells (g := g) rfl j _ (by rw [List.getElem?_map, List.getElem?_eq_getElem hj]; rfl)
theorem cells_new {A : Type} (E : A → Value) (w : World) (e : TypeId) (l : List A) : ∀ j u, (l.map E)[j]? = some u → (w.alloc (.cells (l.map E).toArray e)).cell? ((⟨w.heap.size, 0, none⟩ : Addr).add j) = some u := by
  intro j u h
  have := World.cell?_alloc_mark w (l.map E).toArray e (0, 0) j
  have e : (⟨w.heap.size, 0, none⟩ : Addr).add j = ⟨w.heap.size, j, none⟩ := by
    simp only [Addr.add, Nat.zero_add]
    split
    · rename_i hj; rw [hj]
    · rfl
  rw [e, this, List.getElem?_toArray]; exact h
theorem Has.lit {A : Type} (E : A → Value) (w : World) (e : TypeId) (l : List A) (n : Nat) (hn : n = l.length) : Has E (w.alloc (.cells (l.map E).toArray e)) (.slice (some ⟨w.heap.size, 0, none⟩) n n) l := by
  subst hn
  exact Or.inr ⟨_, _, rfl, fun j hj => cells_new E w e l j _ (by rw [List.getElem?_map, List.getElem?_eq_getElem hj]; rfl)⟩

theorem list_enc {v : Value} {xs : List (List UInt8)} {w : World} (h : Has strV w v xs) (hsz : (listL xs).length ≤ 140737488355000) :
    Calls Try.prog 15 #[v] w fun e w' => e = .returned (.string ⟨(listL xs).toArray⟩) ∧ Below w.heap.size w w' := by
  have hc : Calls Try.prog 42 #[v, .func (.func 41) #[] #[]] w fun e w' => e = .returned (.string ⟨(listL xs).toArray⟩) ∧ Below w.heap.size w w' := by
    rcases h with ⟨rfl, rfl⟩ | ⟨a, c, rfl, h2⟩
    · exact list_nil w
    · obtain ⟨ys, hy⟩ : ∃ ys : List ByteArray, xs = ys.map fun s => s.data.toList := ⟨xs.map fun l => ⟨l.toArray⟩, by rw [List.map_map]; simp [Function.comp_def]⟩
      subst hy
      rw [listL_pre] at hsz ⊢
      rw [List.length_map]
      exact list_some a c ys w (fun j hj => by
        have := h2 j (by rw [List.length_map]; exact hj)
        rw [List.getElem_map] at this
        exact this) hsz
  have HC := Lib.hid hc
  clear hc h
  go_enter Try.func15, Try.ntmps15
  go_wp2_with fail
  refine HC.out.mono ?_
  rintro e w1 ⟨rfl, hbel⟩
  go_wp2_with fail
  go_ret
  exact ⟨rfl, hbel⟩
theorem nums_enc {v : Value} {xs : List Int} {w : World} (h : Has intV w v xs) (hb : ∀ x ∈ xs, x ≤ 9223372036854775807) (hlen : xs.length ≤ 140737488355000) (hsz : (numsL xs).length ≤ 140737488355000) :
    Calls Try.prog 17 #[v] w fun e w' => e = .returned (.string ⟨(numsL xs).toArray⟩) ∧ Below w.heap.size w w' := by
  have hc : Calls Try.prog 43 #[v, .func (.func 40) #[] #[]] w fun e w' => e = .returned (.string ⟨(numsL xs).toArray⟩) ∧ Below w.heap.size w w' := by
    rcases h with ⟨rfl, rfl⟩ | ⟨a, c, rfl, h2⟩
    · exact nums_nil w
    · rw [numsL_pre] at hsz ⊢
      exact nums_some a c xs w h2 hb hlen hsz
  have HC := Lib.hid hc
  clear hc h hb
  go_enter Try.func17, Try.ntmps17
  go_wp2_with fail
  refine HC.out.mono ?_
  rintro e w1 ⟨rfl, hbel⟩
  go_wp2_with fail
  go_ret
  exact ⟨rfl, hbel⟩
end Go.Proofs.Ytbaddpkeaealpaa
