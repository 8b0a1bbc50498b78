/- Pieces between spaces, of no program. -/
import Derived.Test.YtmpgclimgbjeoaaDoorTokPlain
namespace Go.Proofs.YtmpgclimgbjeoaaDoor.TokP

/-- The pieces of a string between its spaces. -/
def piecesL : List UInt8 → List (List UInt8)
  | [] => [[]]
  | c :: t => if c = 32 then [] :: piecesL t else match piecesL t with
    | [] => [[c]]
    | p :: r => (c :: p) :: r
theorem pieces_ne (l : List UInt8) : piecesL l ≠ [] := by
  cases l with
  | nil => exact List.cons_ne_nil _ _
  | cons c t =>
    rw [piecesL]
    split
    · exact List.cons_ne_nil _ _
    · split <;> exact List.cons_ne_nil _ _
theorem pieces_no (l : List UInt8) (h : 32 ∉ l) : piecesL l = [l] := by
  induction l with
  | nil => rfl
  | cons c t ih =>
    simp only [List.mem_cons, not_or] at h
    rw [piecesL, if_neg (fun e => h.1 e.symm), ih h.2]
theorem pieces_at (m r : List UInt8) (h : 32 ∉ m) : piecesL (m ++ 32 :: r) = m :: piecesL r := by
  induction m with
  | nil => rw [List.nil_append, piecesL, if_pos rfl]
  | cons c t ih =>
    simp only [List.mem_cons, not_or] at h
    rw [List.cons_append, piecesL, if_neg (fun e => h.1 e.symm), ih h.2]
/-- A piece that is an atom. -/
def goodP (p : List UInt8) : Bool := !p.isEmpty && p.all atomB
theorem plain_pieces : ∀ s : List UInt8, (plainA false s = (piecesL s).all goodP) ∧ (plainA true s = match piecesL s with | [] => false | p :: r => p.all atomB && r.all goodP)
  | [] => ⟨rfl, rfl⟩
  | c :: t => by
    obtain ⟨h1, h2⟩ := plain_pieces t
    by_cases ha : atomB c = true
    · have h32 : c ≠ 32 := (atom_not c ha).2.2.2
      rw [plainA, if_pos ha, plainA, if_pos ha, piecesL, if_neg h32, h2]
      cases hp : piecesL t with
      | nil => exact absurd hp (pieces_ne t)
      | cons p r =>
        simp only [List.all_cons, goodP, List.isEmpty_cons, Bool.not_false, Bool.true_and, ha]
        simp
    · have ha' : atomB c = false := by simpa using ha
      by_cases h32 : c = 32
      · rw [plainA, if_neg ha, if_neg (by simp), plainA, if_neg ha, if_pos ⟨h32, rfl⟩, piecesL, if_pos h32, h1]
        exact ⟨rfl, rfl⟩
      · rw [plainA, if_neg ha, if_neg (fun e => h32 e.1), plainA, if_neg ha, if_neg (fun e => h32 e.1), piecesL, if_neg h32]
        cases hp : piecesL t with
        | nil => exact absurd hp (pieces_ne t)
        | cons p r =>
          simp only [List.all_cons, goodP, ha', Bool.false_and, Bool.and_false]
          exact ⟨trivial, trivial⟩
theorem good_iff (p : List UInt8) : goodP p = true ↔ p ≠ [] ∧ (p.takeWhile atomB).length = p.length := by
  unfold goodP
  rw [Bool.and_eq_true]
  have h1 : ((!p.isEmpty) = true) ↔ p ≠ [] := by cases p <;> simp
  rw [h1]
  refine and_congr_right fun _ => ?_
  induction p with
  | nil => exact ⟨fun _ => rfl, fun _ => rfl⟩
  | cons c t ih =>
    by_cases hc : atomB c = true
    · rw [List.all_cons, hc, Bool.true_and, List.takeWhile_cons_of_pos hc, List.length_cons, List.length_cons]
      by_cases ht : t = []
      · subst ht; exact ⟨fun _ => rfl, fun _ => rfl⟩
      · have := ih (by cases t with | nil => exact absurd rfl ht | cons a b => simp)
        rw [this ht]
        omega
    · rw [List.all_cons, List.takeWhile_cons_of_neg hc]
      simp [hc]
theorem take_all (p : List UInt8) : (p.takeWhile atomB).length ≤ p.length := (List.takeWhile_sublist _).length_le
theorem pieces_len : ∀ (l p : List UInt8), p ∈ piecesL l → p.length ≤ l.length
  | [], p, h => by
    rw [piecesL, List.mem_singleton] at h
    rw [h]; exact Nat.le_refl _
  | c :: t, p, h => by
    have ih := pieces_len t
    rw [piecesL] at h
    split at h
    · rcases List.mem_cons.1 h with rfl | h
      · exact Nat.zero_le _
      · have := ih p h; rw [List.length_cons]; omega
    · cases hp : piecesL t with
      | nil => exact absurd hp (pieces_ne t)
      | cons q r =>
        rw [hp] at h ih
        rcases List.mem_cons.1 h with rfl | h
        · have := ih q (by simp)
          rw [List.length_cons, List.length_cons]; omega
        · have := ih p (by simp [h])
          rw [List.length_cons]; omega
end Go.Proofs.YtmpgclimgbjeoaaDoor.TokP
