/- fold.Glob: how many units the pieces have; joined parts; a piece's own units. -/
import Derived.Test.YtbplbifmohbfdaaDoorSplit
namespace Go.Proofs.YtbplbifmohbfdaaDoor
open Go.ChangeShapes Go.WideShapes Go.ChangeAt Go.RowKit

def wtP : List (List (List UInt8)) → Nat
  | [] => 0
  | p :: ps => p.length + 1 + wtP ps
theorem wt_cons (u : List UInt8) (ps : List (List (List UInt8))) (h : ps ≠ []) : wtP (consHd u ps) = wtP ps + 1 := by
  cases ps with
  | nil => exact absurd rfl h
  | cons p ps => simp only [consHd, wtP, List.length_cons]; omega
theorem wt_split : ∀ m : List Mk, wtP (splitM m) = m.length + 1
  | [] => rfl
  | .star :: m => by simp only [splitM, wtP, List.length_nil, List.length_cons, wt_split m]; omega
  | .one :: m => by simp only [splitM]; rw [wt_cons _ _ (split_ne m), wt_split m, List.length_cons]
  | .lit u :: m => by simp only [splitM]; rw [wt_cons _ _ (split_ne m), wt_split m, List.length_cons]
theorem marks_len : ∀ us : List (List UInt8), (marksU us).length ≤ us.length
  | [] => Nat.le_refl _
  | [u] => by simp only [marksU]; split <;> (try split) <;> simp
  | u :: v :: l => by
    have h1 := marks_len (v :: l)
    have h2 := marks_len l
    simp only [marksU]
    split
    · simp only [List.length_cons] at h1 ⊢; omega
    · split
      · simp only [List.length_cons] at h1 ⊢; omega
      · split
        · simp only [List.length_cons] at h1 ⊢; omega
        · simp only [List.length_cons] at h1 ⊢; omega
theorem join_flat (xs : List (List UInt8)) : Lib.join xs [] = xs.flatten := by
  cases xs with
  | nil => rfl
  | cons x r =>
    unfold Lib.join
    simp [List.intercalate]
    induction r generalizing x with
    | nil => simp
    | cons y r ih => simp [List.intersperse, ih]
theorem anys_take : ∀ P V : List (List UInt8), anysU P (V.take P.length) = anysU P V
  | [], V => by simp [anysU]
  | u :: P, [] => by simp [anysU]
  | u :: P, v :: V => by simp only [List.length_cons, List.take_succ_cons, anysU, anys_take P V]
theorem wt_len : ∀ ps : List (List (List UInt8)), ps.length ≤ wtP ps
  | [] => Nat.le_refl _
  | p :: ps => by have := wt_len ps; simp only [wtP, List.length_cons]; omega
/-- The program's own bounds are these. -/
theorem num_is (first last : Bool) (p ks : List (List UInt8)) (fin : Nat) (hi : Int) (h : hi = if first = true then min 0 ((ks.length : Int) - p.length) else (ks.length : Int) - p.length) :
    (hi + 1 - (lowP last p ks fin : Nat)).toNat = numP first last p ks fin := by
  unfold numP
  cases first
  · simp only [Bool.false_eq_true, if_false] at h ⊢
    split <;> omega
  · simp only [if_true] at h ⊢
    split <;> omega
theorem low_is (last : Bool) (p ks : List (List UInt8)) (fin : Nat) : ((lowP last p ks fin : Nat) : Int) = if last = true then max (fin : Int) ((ks.length : Int) - p.length) else fin := by
  unfold lowP
  cases last
  · rfl
  · simp only [if_true]; omega
theorem strs_map (xs : List (List UInt8)) : (xs.map strL).map (fun s : ByteArray => s.data.toList) = xs := by
  rw [List.map_map]
  exact List.map_id' _
theorem join_any (xs : List (List UInt8)) (g o c : Nat) (w : World) (hS : Strs w (some ⟨g, o, none⟩) xs) (hg : g < w.heap.size) (n : Nat) (hn : xs.length = n) (hc : n ≤ c) (hN : n ≤ 1000000) (hl : xs.flatten.length ≤ 1000000) :
    Calls Tryd.prog 38 #[.slice (some ⟨g, o, none⟩) n c, .string ⟨#[]⟩] w fun e w' => e = .returned (.string (strL xs.flatten)) ∧ Below w.heap.size w w' := by
  have h := Tryd.strings_Join g o c (xs.map strL) ⟨#[]⟩ w (fun j x hx => by
    rw [List.getElem?_map] at hx
    obtain ⟨u, hu, rfl⟩ := Option.map_eq_some_iff.1 hx
    obtain ⟨g', o', e, hcell⟩ := hS j u hu
    cases e
    exact hcell) hg (by rw [List.length_map]; omega) (by rw [List.length_map]; omega) (by rw [strs_map, join_flat]; omega)
  rw [List.length_map, hn, strs_map, join_flat] at h
  exact h
end Go.Proofs.YtbplbifmohbfdaaDoor
