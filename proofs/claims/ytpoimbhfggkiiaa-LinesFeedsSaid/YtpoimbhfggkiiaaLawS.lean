/- What the laws on lines share: two slices of strings that a law holds. -/
import Derived.Test.YtpoimbhfggkiiaaSmall
import Derived.Deep.RegionHeld3
namespace Go.Proofs.Ytpoimbhfggkiiaa
open Go.ChangeShapes Go.WideShapes Go.ChangeAt Go.RowKit
open LinesP

/-- The slice v holds xs, in a block of its own. -/
def Own (w : World) (v : Value) (xs : List (List UInt8)) : Prop := ∃ base, w.ownsRow base 9 1 v xs.length (xs.map strV)
theorem Own.step {w w' : World} {v : Value} {xs : List (List UInt8)} (h : Own w v xs) (hb : Below w.heap.size w w') : Own w' v xs := by
  obtain ⟨b, ho⟩ := h; exact ⟨b, own_below ho hb⟩
theorem Own.has {w : World} {v : Value} {xs : List (List UInt8)} (h : Own w v xs) : Has strV w v xs := by
  obtain ⟨b, ho⟩ := h; exact (Has.of_own ho).1
theorem Own.at {w : World} {a : Option Addr} {n c : Nat} {xs : List (List UInt8)} (h : Own w (.slice a n c) xs) (hn : 0 < n) : ∃ g, a = some ⟨g, 0, none⟩ := by
  obtain ⟨b, ho⟩ := h
  rcases ho.2 with ⟨e, h0⟩ | ⟨g, cap, cur, e, _⟩
  · injection e with _ e2 _; omega
  · injection e with e1 _ _; exact ⟨g, e1⟩
theorem Own.cell {w : World} {g n c : Nat} {xs : List (List UInt8)} (h : Own w (.slice (some ⟨g, 0, none⟩) n c) xs) (j : Nat) (x : List UInt8) (hx : xs[j]? = some x) : w.cell? ⟨g, j, none⟩ = some (.string (strL x)) := by
  obtain ⟨b, ho⟩ := h
  have := ho.cells (g := g) rfl j (strV x) (by rw [List.getElem?_map, hx]; rfl)
  have e : (⟨g, 0, none⟩ : Addr).add j = ⟨g, j, none⟩ := by unfold Addr.add; split <;> simp_all
  rw [e] at this
  exact this
/-- The older memory stands, and two slices. -/
structure St (w0 w : World) (v : Value) (xs : List (List UInt8)) (u : Value) (ys : List (List UInt8)) : Prop where
  bel : Below w0.heap.size w0 w
  o1 : Own w v xs
  o2 : Own w u ys
theorem St.step {w0 w w' : World} {v u : Value} {xs ys : List (List UInt8)} (h : St w0 w v xs u ys) (hb : Below w.heap.size w w') : St w0 w' v xs u ys :=
  ⟨h.bel.trans (hb.mono h.bel.size), h.o1.step hb, h.o2.step hb⟩
theorem St.drew {w0 w : World} {v u : Value} {xs ys : List (List UInt8)} (h : St w0 w v xs u ys) : St w0 w.drew v xs u ys := h.step (Below.refl _ _).drew
theorem bare_st {w0 w : World} {v u : Value} {xs ys : List (List UInt8)} (h : St w0 w v xs u ys) (s r : ByteArray) (hs : s.size ≤ 1000000) (e : strL (bareL s.data.toList) = r) :
    Calls Try.prog 13 #[.string s] w fun e w' => e = .returned (.string r) ∧ St w0 w' v xs u ys :=
  (bare_is s r hs e w).mono fun _ _ hh => ⟨hh.1, h.step hh.2⟩
theorem ne_eq (A B : ByteArray) : (A.toList != B.toList) = !decide (A = B) := by
  rw [bne, eq_lists, bytes_eqb]
theorem line_le {l : List UInt8} {x : List UInt8} (h : x ∈ splitL l) : x.length ≤ l.length := by
  have e := split_flat l
  obtain ⟨a, b, hab⟩ := List.append_of_mem h
  rw [hab] at e
  rw [← e]
  simp
  omega
end Go.Proofs.Ytpoimbhfggkiiaa
