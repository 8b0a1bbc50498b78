/- The reference's B64. -/
import Derived.Test.YtblbajhjmdcdiaaDoorRefQp
namespace Go.Proofs.YtblbajhjmdcdiaaDoor
open Go.ChangeShapes Go.WideShapes Go.ChangeAt Go.RowKit

/-- The characters without line ends. -/
def signs : List UInt8 → List UInt8
  | [] => []
  | [a] => quad [a]
  | [a, b] => quad [a, b]
  | a :: b :: c :: t => quad [a, b, c] ++ signs t
/-- Line ends laid in, i characters of the text before. -/
def brk : Nat → List UInt8 → List UInt8
  | _, [] => []
  | i, c :: t => c :: ((if i % 76 = 75 ∨ t = [] then [13, 10] else []) ++ brk (i + 1) t)
theorem signs_step (l : List UInt8) (h : l ≠ []) : signs l = quad (l.take 3) ++ signs (l.drop 3) := by
  match l, h with
  | [a], _ => exact (List.append_nil _).symm
  | [a, b], _ => exact (List.append_nil _).symm
  | a :: b :: c :: t, _ => rfl
theorem signs_nil (l : List UInt8) : signs l = [] ↔ l = [] := by
  constructor
  · intro h
    by_cases hl : l = []
    · exact hl
    · rw [signs_step l hl] at h
      have := congrArg List.length h
      rw [List.length_append, quad_length] at this
      · simp at this
      · intro e
        have h2 := congrArg List.length e
        rw [List.length_take, List.length_nil] at h2
        have := List.length_pos_iff.2 hl
        omega
  · intro h; rw [h]; rfl
theorem brk_cons (i : Nat) (c : UInt8) (t : List UInt8) : brk i (c :: t) = c :: ((if i % 76 = 75 ∨ t = [] then [13, 10] else []) ++ brk (i + 1) t) := rfl
theorem brk_signs : ∀ (k : Nat) (l : List UInt8) (g : Nat), l.length ≤ k → brk (4 * g) (signs l) = b64G g l := by
  intro k
  induction k with
  | zero =>
    intro l g h
    obtain rfl : l = [] := List.eq_nil_of_length_eq_zero (by omega)
    rfl
  | succ k ih =>
    intro l g h
    by_cases hn : l = []
    · subst hn; rfl
    · have hlp := List.length_pos_iff.2 hn
      rw [signs_step l hn, b64G_step g l hn]
      have ht : l.take 3 ≠ [] := by
        intro e
        have := congrArg List.length e
        rw [List.length_take, List.length_nil] at this
        omega
      obtain ⟨a, b, c, d, hq⟩ : ∃ a b c d, quad (l.take 3) = [a, b, c, d] := by
        have := quad_length ht
        match hh : quad (l.take 3) with
        | [a, b, c, d] => exact ⟨a, b, c, d, rfl⟩
        | [] => rw [hh] at this; cases this
        | [_] => rw [hh] at this; cases this
        | [_, _] => rw [hh] at this; cases this
        | [_, _, _] => rw [hh] at this; cases this
        | _ :: _ :: _ :: _ :: _ :: _ => rw [hh] at this; simp at this
      rw [hq]
      have hih := ih (l.drop 3) (g + 1) (by rw [List.length_drop]; omega)
      rw [show 4 * (g + 1) = 4 * g + 1 + 1 + 1 + 1 by omega] at hih
      show brk (4 * g) (a :: b :: c :: d :: signs (l.drop 3)) = _
      rw [brk_cons, if_neg (by simp; omega), brk_cons, if_neg (by simp; omega), brk_cons, if_neg (by simp; omega), brk_cons, hih]
      have e : ((4 * g + 1 + 1 + 1) % 76 = 75 ∨ signs (l.drop 3) = []) ↔ ((g + 1) % 19 = 0 ∨ l.drop 3 = []) := by
        rw [signs_nil]
        have : (4 * g + 1 + 1 + 1) % 76 = 75 ↔ (g + 1) % 19 = 0 := by omega
        rw [this]
      by_cases hh : (g + 1) % 19 = 0 ∨ l.drop 3 = []
      · rw [if_pos hh, if_pos (e.2 hh)]; rfl
      · rw [if_neg hh, if_neg (fun k => hh (e.1 k))]; rfl
theorem signs_length : ∀ (k : Nat) (l : List UInt8), l.length ≤ k → (signs l).length ≤ 4 * l.length := by
  intro k
  induction k with
  | zero =>
    intro l h
    obtain rfl : l = [] := List.eq_nil_of_length_eq_zero (by omega)
    exact Nat.le_refl _
  | succ k ih =>
    intro l h
    by_cases hn : l = []
    · subst hn; exact Nat.le_refl _
    · have hlp := List.length_pos_iff.2 hn
      rw [signs_step l hn, List.length_append, quad_length]
      · have := ih (l.drop 3) (by rw [List.length_drop]; omega)
        rw [List.length_drop] at this
        by_cases h3 : 3 ≤ l.length
        · omega
        · rw [show l.drop 3 = [] from List.drop_eq_nil_of_le (by omega)]
          show 4 + 0 ≤ _
          omega
      · intro e
        have := congrArg List.length e
        rw [List.length_take, List.length_nil] at this
        omega
theorem Ow.shape {w : World} {B : Nat} {v : Value} {out : List UInt8} (h : Ow w B v out) :
    ∃ a c, v = .slice a out.length c ∧ ∀ j (hj : j < out.length), ∃ g, a = some ⟨g, 0, none⟩ ∧ g < w.heap.size ∧ w.cell? ⟨g, j, none⟩ = some (.int .u8 (out[j].toNat : Int)) := by
  have h0 : w.ownsRow B 5 1 v out.length (cellsOf out) := h
  rcases h.2 with ⟨hv, hn⟩ | ⟨g, cap, cur, hv, _⟩
  · exact ⟨none, 0, by rw [hv, hn], fun j hj => absurd hj (by omega)⟩
  · refine ⟨some ⟨g, 0, none⟩, cap, hv, fun j hj => ⟨g, rfl, (World.ownsRow.lt h0 g (by rw [hv]; rfl)).2, ?_⟩⟩
    have hc := World.ownsRow.cells h0 (g := g) (by rw [hv]; rfl) j (.int .u8 (out[j].toNat : Int)) (by
      unfold cellsOf
      rw [List.getElem?_map, List.getElem?_eq_getElem hj]; rfl)
    have e : (⟨g, 0, none⟩ : Addr).add j = ⟨g, j, none⟩ := by unfold Addr.add; split <;> simp_all
    rw [e] at hc
    exact hc
end Go.Proofs.YtblbajhjmdcdiaaDoor
