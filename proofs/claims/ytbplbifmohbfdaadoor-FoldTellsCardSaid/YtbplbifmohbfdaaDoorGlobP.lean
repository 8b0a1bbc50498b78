/- How the program matches a pattern: pieces between the stars, each at its first place; of no program. -/
import Derived.Test.YtbplbifmohbfdaaDoorFoldPure
namespace Go.Proofs.YtbplbifmohbfdaaDoor
/-! ### Pieces -/
def unitOf : Mk → List UInt8
  | .lit u => u
  | _ => []
def consHd (u : List UInt8) : List (List (List UInt8)) → List (List (List UInt8))
  | [] => [[u]]
  | p :: ps => (u :: p) :: ps
/-- The pieces between the stars; the empty unit stands for any. -/
def splitM : List Mk → List (List (List UInt8))
  | [] => [[]]
  | .star :: m => [] :: splitM m
  | .one :: m => consHd [] (splitM m)
  | .lit u :: m => consHd u (splitM m)
theorem split_ne (m : List Mk) : splitM m ≠ [] := by
  cases m with
  | nil => simp [splitM]
  | cons x m =>
    cases x <;> simp only [splitM]
    · cases splitM m <;> simp [consHd]
    · cases splitM m <;> simp [consHd]
    · simp
/-- Pieces made so far, the last of them open, and what the rest gives. -/
def glue (d : List (List (List UInt8))) (c : List (List UInt8)) : List (List (List UInt8)) → List (List (List UInt8))
  | [] => d ++ [c]
  | h :: t => d ++ (c ++ h) :: t
theorem glue_star (d : List (List (List UInt8))) (c : List (List UInt8)) (m : List Mk) : glue d c (splitM (.star :: m)) = glue (d ++ [c]) [] (splitM m) := by
  simp only [splitM, glue, List.append_nil]
  cases h : splitM m with
  | nil => exact absurd h (split_ne m)
  | cons a b => simp
theorem glue_cons (d : List (List (List UInt8))) (c : List (List UInt8)) (u : List UInt8) (ps : List (List (List UInt8))) : glue d c (consHd u ps) = glue d (c ++ [u]) ps := by
  cases ps with
  | nil => simp [consHd, glue]
  | cons a b => simp [consHd, glue]
/-! ### The elements of a pattern, one after another -/
theorem marks_star (us : List (List UInt8)) : marksU ([42] :: us) = .star :: marksU us := by
  cases us <;> simp [marksU]
theorem marks_one (us : List (List UInt8)) : marksU ([63] :: us) = .one :: marksU us := by
  cases us <;> simp [marksU]
theorem marks_back (v : List UInt8) (us : List (List UInt8)) : marksU ([92] :: v :: us) = .lit v :: marksU us := by
  simp [marksU]
theorem marks_last (u : List UInt8) (h1 : u ≠ [42]) (h2 : u ≠ [63]) : marksU [u] = [.lit u] := by
  simp [marksU, h1, h2]
theorem marks_lit (u : List UInt8) (us : List (List UInt8)) (h1 : u ≠ [42]) (h2 : u ≠ [63]) (h3 : u ≠ [92]) : marksU (u :: us) = .lit u :: marksU us := by
  cases us <;> simp [marksU, h1, h2, h3]
/-! ### Places -/
def fitB : List (List UInt8) → List (List UInt8) → Bool
  | [], _ => true
  | _ :: _, [] => false
  | u :: p, k :: ks => (u == [] || u == k) && fitB p ks
/-- The first place from 'at' on, of n places. -/
def placeN (p ks : List (List UInt8)) : Nat → Nat → Option Nat
  | _, 0 => none
  | i, n + 1 => if fitB p (ks.drop i) = true then some i else placeN p ks (i + 1) n
theorem place_some (p ks : List (List UInt8)) : ∀ (n i j : Nat), placeN p ks i n = some j ↔ i ≤ j ∧ j < i + n ∧ fitB p (ks.drop j) = true ∧ ∀ k, i ≤ k → k < j → ¬ fitB p (ks.drop k) = true
  | 0, i, j => by
    simp only [placeN]
    constructor
    · intro h; cases h
    · rintro ⟨h1, h2, _⟩; omega
  | n + 1, i, j => by
    simp only [placeN]
    by_cases h : fitB p (ks.drop i) = true
    · rw [if_pos h]
      constructor
      · intro e; injection e with e; subst e
        exact ⟨Nat.le_refl _, by omega, h, fun k h1 h2 => by omega⟩
      · rintro ⟨h1, _, _, h4⟩
        rcases Nat.lt_or_ge i j with h5 | h5
        · exact absurd h (h4 i (Nat.le_refl _) h5)
        · rw [show i = j by omega]
    · rw [if_neg h, place_some p ks n (i + 1) j]
      constructor
      · rintro ⟨h1, h2, h3, h4⟩
        refine ⟨by omega, by omega, h3, fun k h5 h6 => ?_⟩
        rcases Nat.eq_or_lt_of_le h5 with h7 | h7
        · rw [← h7]; exact h
        · exact h4 k (by omega) h6
      · rintro ⟨h1, h2, h3, h4⟩
        have : i ≠ j := fun e => h (e ▸ h3)
        exact ⟨by omega, by omega, h3, fun k h5 h6 => h4 k (by omega) h6⟩
theorem place_none (p ks : List (List UInt8)) : ∀ (n i : Nat), placeN p ks i n = none ↔ ∀ k, i ≤ k → k < i + n → ¬ fitB p (ks.drop k) = true
  | 0, i => by
    simp only [placeN]
    exact ⟨fun _ k h1 h2 => by omega, fun _ => trivial⟩
  | n + 1, i => by
    simp only [placeN]
    by_cases h : fitB p (ks.drop i) = true
    · rw [if_pos h]
      constructor
      · intro e; cases e
      · intro h1; exact absurd h (h1 i (Nat.le_refl _) (by omega))
    · rw [if_neg h, place_none p ks n (i + 1)]
      constructor
      · intro h1 k h2 h3
        rcases Nat.eq_or_lt_of_le h2 with h4 | h4
        · rw [← h4]; exact h
        · exact h1 k (by omega) (by omega)
      · intro h1 k h2 h3
        exact h1 k (by omega) (by omega)
/-- The units where a piece has any unit. -/
def anysU : List (List UInt8) → List (List UInt8) → List (List UInt8)
  | [], _ => []
  | _ :: _, [] => []
  | u :: p, v :: vs => if u = [] then v :: anysU p vs else anysU p vs
/-- The lowest place of a piece, and how many there are. -/
def lowP (last : Bool) (p ks : List (List UInt8)) (fin : Nat) : Nat := if last = true then max fin (ks.length - p.length) else fin
def numP (first last : Bool) (p ks : List (List UInt8)) (fin : Nat) : Nat :=
  if p.length ≤ ks.length then (if first = true then 1 - lowP last p ks fin else ks.length - p.length + 1 - lowP last p ks fin) else 0
/-- Each piece at its first place behind the last one. -/
def walkP (ks vs : List (List UInt8)) : Bool → List (List (List UInt8)) → Nat → List (List UInt8) → Option (List (List UInt8))
  | _, [], _, acc => some acc
  | first, p :: ps, fin, acc => match placeN p ks (lowP ps.isEmpty p ks fin) (numP first ps.isEmpty p ks fin) with
    | none => none
    | some i => walkP ks vs false ps (i + p.length) (acc ++ (if first = true then [] else [((vs.drop fin).take (i - fin)).flatten]) ++ anysU p (vs.drop i))
def keyL (comp : Int) (s : List UInt8) : List UInt8 := if comp = 1 then foldL s else s
def globP (comp : Int) (pat s : List UInt8) : Option (List (List UInt8)) :=
  if comp = 3 then none else walkP (unitsL (keyL comp s)) (unitsL s) true (splitM (marksU (unitsL (keyL comp pat)))) 0 []
/-! ### What a match is -/
inductive Fits : List Mk → List (List UInt8) → List (List UInt8) → List (List UInt8) → Prop
  | nil : Fits [] [] [] []
  | lit {u : List UInt8} {m : List Mk} {ks vs ps : List (List UInt8)} (v : List UInt8) (h : Fits m ks vs ps) : Fits (.lit u :: m) (u :: ks) (v :: vs) ps
  | one {m : List Mk} {ks vs ps : List (List UInt8)} (k v : List UInt8) (h : Fits m ks vs ps) : Fits (.one :: m) (k :: ks) (v :: vs) (v :: ps)
  | star {m : List Mk} {ks vs ps : List (List UInt8)} (n : Nat) (hk : n ≤ ks.length) (hn : n ≤ vs.length) (h : Fits m (ks.drop n) (vs.drop n) ps) : Fits (.star :: m) ks vs ((vs.take n).flatten :: ps)
/-- The pieces as elements. -/
def splitK : List Mk → List (List Mk)
  | [] => [[]]
  | .star :: m => [] :: splitK m
  | x :: m => match splitK m with
    | [] => [[x]]
    | p :: ps => (x :: p) :: ps
def joinK : List (List Mk) → List Mk
  | [] => []
  | [p] => p
  | p :: q :: r => p ++ .star :: joinK (q :: r)
theorem splitK_ne (m : List Mk) : splitK m ≠ [] := by
  cases m with
  | nil => simp [splitK]
  | cons x m =>
    cases x <;> simp only [splitK]
    · cases splitK m <;> simp
    · cases splitK m <;> simp
    · simp
theorem joinK_cons (x : Mk) (p : List Mk) (ps : List (List Mk)) : joinK ((x :: p) :: ps) = x :: joinK (p :: ps) := by
  cases ps <;> simp [joinK]
theorem joinK_split : ∀ m : List Mk, joinK (splitK m) = m
  | [] => rfl
  | .star :: m => by
    have ih := joinK_split m
    simp only [splitK]
    cases h : splitK m with
    | nil => exact absurd h (splitK_ne m)
    | cons p ps => rw [h] at ih; simp only [joinK, List.nil_append, ih]
  | .one :: m => by
    have ih := joinK_split m
    simp only [splitK]
    cases h : splitK m with
    | nil => exact absurd h (splitK_ne m)
    | cons p ps => rw [h] at ih; simp only [joinK_cons, ih]
  | .lit u :: m => by
    have ih := joinK_split m
    simp only [splitK]
    cases h : splitK m with
    | nil => exact absurd h (splitK_ne m)
    | cons p ps => rw [h] at ih; simp only [joinK_cons, ih]
theorem splitK_units : ∀ m : List Mk, (splitK m).map (fun p => p.map unitOf) = splitM m
  | [] => rfl
  | .star :: m => by simp only [splitK, splitM, List.map_cons, List.map_nil, splitK_units m]
  | .one :: m => by
    rw [splitM, ← splitK_units m]
    simp only [splitK]
    cases splitK m <;> simp [consHd, unitOf]
  | .lit u :: m => by
    rw [splitM, ← splitK_units m]
    simp only [splitK]
    cases splitK m <;> simp [consHd, unitOf]
/-- An element of a piece. -/
def MkP : Mk → Prop
  | .lit u => u ≠ []
  | .one => True
  | .star => False
def MkN : Mk → Prop
  | .lit u => u ≠ []
  | _ => True
theorem splitK_pieces : ∀ m : List Mk, (∀ x ∈ m, MkN x) → ∀ p ∈ splitK m, ∀ x ∈ p, MkP x
  | [], _, p, hp, x, hx => by simp [splitK] at hp; subst hp; cases hx
  | .star :: m, h, p, hp, x, hx => by
    simp only [splitK] at hp
    rcases List.mem_cons.1 hp with rfl | hp
    · cases hx
    · exact splitK_pieces m (fun y hy => h y (by simp [hy])) p hp x hx
  | .one :: m, h, p, hp, x, hx => by
    simp only [splitK] at hp
    have ih := splitK_pieces m (fun y hy => h y (by simp [hy]))
    cases e : splitK m with
    | nil => exact absurd e (splitK_ne m)
    | cons q ps =>
      rw [e] at hp ih
      rcases List.mem_cons.1 hp with rfl | hp
      · rcases List.mem_cons.1 hx with rfl | hx
        · trivial
        · exact ih q (by simp) x hx
      · exact ih p (by simp [hp]) x hx
  | .lit u :: m, h, p, hp, x, hx => by
    simp only [splitK] at hp
    have ih := splitK_pieces m (fun y hy => h y (by simp [hy]))
    cases e : splitK m with
    | nil => exact absurd e (splitK_ne m)
    | cons q ps =>
      rw [e] at hp ih
      rcases List.mem_cons.1 hp with rfl | hp
      · rcases List.mem_cons.1 hx with rfl | hx
        · exact h (.lit u) (by simp)
        · exact ih q (by simp) x hx
      · exact ih p (by simp [hp]) x hx
theorem fit_piece {m : List Mk} {ps : List (List UInt8)} : ∀ (p : List Mk) (ks vs : List (List UInt8)), (∀ x ∈ p, MkP x) → ks.length = vs.length → fitB (p.map unitOf) ks = true → Fits m (ks.drop p.length) (vs.drop p.length) ps → Fits (p ++ m) ks vs (anysU (p.map unitOf) vs ++ ps)
  | [], ks, vs, _, _, _, h => by simpa [anysU] using h
  | x :: p, [], vs, _, _, hf, _ => by simp [fitB] at hf
  | x :: p, k :: ks, [], _, hl, _, _ => by simp at hl
  | x :: p, k :: ks, v :: vs, hp, hl, hf, h => by
    simp only [List.map_cons, fitB, Bool.and_eq_true] at hf
    have hx := hp x (by simp)
    have ih := fit_piece (m := m) (ps := ps) p ks vs (fun y hy => hp y (by simp [hy])) (by simpa using hl) hf.2 (by simpa using h)
    cases x with
    | star => exact hx.elim
    | one =>
      simp only [List.map_cons, unitOf, anysU, List.cons_append, if_true]
      exact .one k v ih
    | lit u =>
      have hne : u ≠ [] := hx
      have e : u = k := by
        have h1 := hf.1
        simp only [unitOf, Bool.or_eq_true, beq_iff_eq] at h1
        exact h1.resolve_left hne
      subst e
      simp only [List.map_cons, unitOf, anysU, List.cons_append, if_neg hne]
      exact .lit v ih
theorem fits_len : ∀ {m : List Mk} {ks vs ps : List (List UInt8)}, Fits m ks vs ps → ks.length = vs.length
  | _, _, _, _, .nil => rfl
  | _, _, _, _, .lit _ h => by simp [fits_len h]
  | _, _, _, _, .one _ _ h => by simp [fits_len h]
  | _, ks, vs, _, .star n hk hn h => by
    have := fits_len h
    rw [List.length_drop, List.length_drop] at this
    omega
theorem walk_rest (ks vs : List (List UInt8)) (hl : ks.length = vs.length) : ∀ (PS : List (List Mk)) (fin : Nat) (acc r : List (List UInt8)), PS ≠ [] → (∀ p ∈ PS, ∀ x ∈ p, MkP x) → fin ≤ ks.length → walkP ks vs false (PS.map fun p => p.map unitOf) fin acc = some r →
    ∃ r', r = acc ++ r' ∧ Fits (.star :: joinK PS) (ks.drop fin) (vs.drop fin) r'
  | [], _, _, _, h, _, _, _ => absurd rfl h
  | p :: PS, fin, acc, r, _, hp, hf, h => by
    simp only [List.map_cons, walkP] at h
    cases e : placeN (p.map unitOf) ks (lowP (PS.map fun p => p.map unitOf).isEmpty (p.map unitOf) ks fin) (numP false (PS.map fun p => p.map unitOf).isEmpty (p.map unitOf) ks fin) with
    | none => rw [e] at h; cases h
    | some i =>
      rw [e] at h
      simp only [Bool.false_eq_true, if_false] at h
      obtain ⟨h1, h2, h3, h4⟩ := (place_some _ _ _ _ _).1 e
      have hpl : (p.map unitOf).length = p.length := List.length_map ..
      have hlen : i + p.length ≤ ks.length ∧ fin ≤ i := by
        by_cases c0 : p.length ≤ ks.length
        · by_cases c1 : (PS.map fun p => p.map unitOf).isEmpty = true
          · simp only [numP, lowP, hpl, if_pos c0, c1, if_true, Bool.false_eq_true, if_false] at h1 h2
            omega
          · simp only [numP, lowP, hpl, if_pos c0, if_neg c1, Bool.false_eq_true, if_false] at h1 h2
            omega
        · simp only [numP, hpl, if_neg c0] at h2
          omega
      obtain ⟨hi, hfi⟩ := hlen
      have hd1 : ∀ l : List (List UInt8), (l.drop fin).drop (i - fin) = l.drop i := fun l => by rw [List.drop_drop]; congr 1; omega
      cases PS with
      | nil =>
        simp only [List.map_nil, walkP, Option.some.injEq] at h
        have hie : i + p.length = ks.length := by
          unfold lowP at h1
          simp only [List.map_nil, List.isEmpty_nil, if_true, hpl] at h1
          omega
        refine ⟨((vs.drop fin).take (i - fin)).flatten :: (anysU (p.map unitOf) (vs.drop i) ++ []), by rw [← h]; simp, ?_⟩
        refine .star (i - fin) (by rw [List.length_drop]; omega) (by rw [List.length_drop]; omega) ?_
        rw [hd1, hd1]
        have hn := fit_piece (m := []) (ps := []) p (ks.drop i) (vs.drop i) (fun x hx => hp p (by simp) x hx) (by rw [List.length_drop, List.length_drop, hl]) h3 (by
          rw [List.drop_drop, List.drop_drop, List.drop_eq_nil_of_le (by omega), List.drop_eq_nil_of_le (by omega)]
          exact .nil)
        rw [List.append_nil] at hn
        exact hn
      | cons q PS =>
        obtain ⟨r', hr, hfit⟩ := walk_rest ks vs hl (q :: PS) (i + p.length) _ r (by simp) (fun x hx => hp x (by simp [List.mem_cons.1 hx])) hi (by rw [hpl] at h; exact h)
        refine ⟨((vs.drop fin).take (i - fin)).flatten :: (anysU (p.map unitOf) (vs.drop i) ++ r'), by rw [hr]; simp, ?_⟩
        refine .star (i - fin) (by rw [List.length_drop]; omega) (by rw [List.length_drop]; omega) ?_
        rw [hd1, hd1]
        refine fit_piece (m := .star :: joinK (q :: PS)) (ps := r') p (ks.drop i) (vs.drop i) (fun x hx => hp p (by simp) x hx) (by rw [List.length_drop, List.length_drop, hl]) h3 ?_
        rw [List.drop_drop, List.drop_drop]
        exact hfit
theorem walk_fits (ks vs : List (List UInt8)) (hl : ks.length = vs.length) (m : List Mk) (hm : ∀ x ∈ m, MkN x) (r : List (List UInt8)) (h : walkP ks vs true (splitM m) 0 [] = some r) : Fits m ks vs r := by
  rw [← splitK_units] at h
  have hp := splitK_pieces m hm
  have hj := joinK_split m
  cases hs : splitK m with
  | nil => exact absurd hs (splitK_ne m)
  | cons p PS =>
    rw [hs] at h hp hj
    simp only [List.map_cons, walkP] at h
    cases e : placeN (p.map unitOf) ks (lowP (PS.map fun p => p.map unitOf).isEmpty (p.map unitOf) ks 0) (numP true (PS.map fun p => p.map unitOf).isEmpty (p.map unitOf) ks 0) with
    | none => rw [e] at h; cases h
    | some i =>
      rw [e] at h
      simp only [if_true, List.nil_append] at h
      obtain ⟨h1, h2, h3, h4⟩ := (place_some _ _ _ _ _).1 e
      have hpl : (p.map unitOf).length = p.length := List.length_map ..
      have hi0 : i = 0 ∧ p.length ≤ ks.length := by
        unfold numP at h2
        rw [hpl] at h2
        split at h2
        · simp only [if_true] at h2
          omega
        · omega
      obtain ⟨rfl, hple⟩ := hi0
      cases PS with
      | nil =>
        simp only [List.map_nil, walkP, Option.some.injEq, List.drop_zero] at h
        have hie : p.length = ks.length := by
          unfold lowP at h1
          simp only [List.map_nil, List.isEmpty_nil, if_true, hpl] at h1
          omega
        have hn := fit_piece (m := []) (ps := []) p ks vs (fun x hx => hp p (by simp) x hx) hl (by simpa using h3) (by
          rw [List.drop_eq_nil_of_le (by omega), List.drop_eq_nil_of_le (by omega)]
          exact .nil)
        simp only [List.append_nil] at hn
        rw [← hj, ← h]
        exact hn
      | cons q PS =>
        obtain ⟨r', hr, hfit⟩ := walk_rest ks vs hl (q :: PS) (0 + p.length) _ r (by simp) (fun x hx => hp x (by simp [List.mem_cons.1 hx])) (by omega) (by rw [hpl] at h; exact h)
        rw [Nat.zero_add] at hfit
        have hn := fit_piece (m := .star :: joinK (q :: PS)) (ps := r') p ks vs (fun x hx => hp p (by simp) x hx) hl (by simpa using h3) hfit
        rw [← hj, hr]
        exact hn
theorem isU_ne {u : List UInt8} (h : IsU u) : u ≠ [] := by
  rcases h with ⟨n, hn, rfl⟩ | ⟨b, rfl, _⟩
  · exact enc_ne n
  · simp
theorem keys_len (comp : Int) (s : List UInt8) : (unitsL (keyL comp s)).length = (unitsL s).length := by
  unfold keyL
  split
  · rw [units_fold, List.length_map]
  · rfl
theorem glob_fits {comp : Int} {pat s : List UInt8} {r : List (List UInt8)} (h : globP comp pat s = some r) : comp ≠ 3 ∧ Fits (marksU (unitsL (keyL comp pat))) (unitsL (keyL comp s)) (unitsL s) r := by
  unfold globP at h
  split at h
  · cases h
  · rename_i hc
    refine ⟨hc, walk_fits _ _ (keys_len comp s) _ (fun x hx => ?_) r h⟩
    have := marks_units _ _ (Nat.le_refl _) (units_isU (keyL comp pat)) x hx
    cases x with
    | lit u => exact isU_ne this
    | one => trivial
    | star => trivial
/-! ### The parts in their places -/
def putB : List Mk → List (List UInt8) → List UInt8
  | [], _ => []
  | .lit u :: m, p => u ++ putB m p
  | .one :: m, p => p.headD [] ++ putB m p.tail
  | .star :: m, p => p.headD [] ++ putB m p.tail
def wildN : List Mk → Nat
  | [] => 0
  | .lit _ :: m => wildN m
  | .one :: m => wildN m + 1
  | .star :: m => wildN m + 1
def oneOk : List Mk → List (List UInt8) → Prop
  | [], _ => True
  | .lit _ :: m, p => oneOk m p
  | .one :: m, p => (unitsL (p.headD [])).length = 1 ∧ oneOk m p.tail
  | .star :: m, p => oneOk m p.tail
theorem isU_one {u : List UInt8} (h : IsU u) : (unitsL u).length = 1 := by
  rcases h with ⟨n, hn, rfl⟩ | ⟨b, rfl, hb⟩
  · have := units_enc hn []
    rw [List.append_nil] at this
    rw [this]; rfl
  · rw [units_none hb]; rfl
theorem fits_facts : ∀ (m : List Mk) {m' : List Mk} {ks vs r : List (List UInt8)}, (m' = m ∨ m' = m.map foldMk) → (∀ u ∈ vs, IsU u) → Fits m' ks vs r → r.length = wildN m ∧ oneOk m r ∧ r.flatten.length ≤ vs.flatten.length
  | [], m', ks, vs, r, hm, _, h => by
    have : m' = [] := by rcases hm with h | h <;> simpa using h
    subst this
    cases h
    exact ⟨rfl, trivial, Nat.le_refl _⟩
  | .lit u :: m, m', ks, vs, r, hm, hv, h => by
    obtain ⟨u', m2, rfl, hm2⟩ : ∃ u' m2, m' = .lit u' :: m2 ∧ (m2 = m ∨ m2 = m.map foldMk) := by
      rcases hm with rfl | rfl
      · exact ⟨u, m, rfl, .inl rfl⟩
      · exact ⟨_, _, rfl, .inr rfl⟩
    cases h with
    | lit v h =>
      have ih := fits_facts m hm2 (fun x hx => hv x (by simp [hx])) h
      refine ⟨ih.1, ih.2.1, ?_⟩
      rw [List.flatten_cons, List.length_append]
      omega
  | .one :: m, m', ks, vs, r, hm, hv, h => by
    obtain ⟨m2, rfl, hm2⟩ : ∃ m2, m' = .one :: m2 ∧ (m2 = m ∨ m2 = m.map foldMk) := by
      rcases hm with rfl | rfl
      · exact ⟨m, rfl, .inl rfl⟩
      · exact ⟨_, rfl, .inr rfl⟩
    cases h with
    | one k v h =>
      have ih := fits_facts m hm2 (fun x hx => hv x (by simp [hx])) h
      refine ⟨by simp [wildN, ih.1], ⟨isU_one (hv _ (by simp)), ih.2.1⟩, ?_⟩
      rw [List.flatten_cons, List.flatten_cons, List.length_append, List.length_append]
      omega
  | .star :: m, m', ks, vs, r, hm, hv, h => by
    obtain ⟨m2, rfl, hm2⟩ : ∃ m2, m' = .star :: m2 ∧ (m2 = m ∨ m2 = m.map foldMk) := by
      rcases hm with rfl | rfl
      · exact ⟨m, rfl, .inl rfl⟩
      · exact ⟨_, rfl, .inr rfl⟩
    cases h with
    | star n hk hn h =>
      have ih := fits_facts m hm2 (fun x hx => hv x (List.mem_of_mem_drop hx)) h
      refine ⟨by simp [wildN, ih.1], ih.2.1, ?_⟩
      have e : vs.flatten.length = (vs.take n).flatten.length + (vs.drop n).flatten.length := by
        rw [← List.length_append, ← List.flatten_append, List.take_append_drop]
      rw [List.flatten_cons, List.length_append]
      omega
theorem fits_same : ∀ {m : List Mk} {ks vs r : List (List UInt8)}, Fits m ks vs r → ks = vs → putB m r = vs.flatten
  | _, _, _, _, .nil, _ => rfl
  | _, _, _, _, .lit v h, e => by
    injection e with e1 e2
    subst e1
    simp only [putB, List.flatten_cons, fits_same h e2]
  | _, _, _, _, .one k v h, e => by
    injection e with e1 e2
    simp only [putB, List.headD_cons, List.tail_cons, List.flatten_cons, fits_same h e2]
  | _, _, _, _, .star n hk hn h, e => by
    have ih := fits_same h (by rw [e])
    simp only [putB, List.headD_cons, List.tail_cons, ih]
    rw [← List.flatten_append, List.take_append_drop]
theorem fits_fold : ∀ (m : List Mk) {vs r : List (List UInt8)}, (∀ x ∈ m, MkU x) → (∀ u ∈ vs, IsU u) → Fits (m.map foldMk) (vs.map foldU) vs r → ∃ us, Rel us vs ∧ us.flatten = putB m r
  | [], vs, r, _, _, h => by
    cases vs with
    | nil => exact ⟨[], trivial, rfl⟩
    | cons v vs => simp only [List.map_nil, List.map_cons] at h; cases h
  | .lit u :: m, [], r, _, _, h => by simp only [List.map_nil, List.map_cons, foldMk] at h; cases h
  | .lit u :: m, v :: vs, r, hm, hv, h => by
    simp only [List.map_cons, foldMk] at h
    generalize hx : foldU v = fv at h
    cases h with
    | lit v h =>
      obtain ⟨us, h1, h2⟩ := fits_fold m (fun x hx => hm x (by simp [hx])) (fun x hx => hv x (by simp [hx])) h
      exact ⟨u :: us, ⟨rel_of (hm (.lit u) (by simp)) (hv v (by simp)) hx.symm, h1⟩, by simp only [List.flatten_cons, putB, h2]⟩
  | .one :: m, [], r, _, _, h => by simp only [List.map_nil, List.map_cons, foldMk] at h; cases h
  | .one :: m, v :: vs, r, hm, hv, h => by
    simp only [List.map_cons, foldMk] at h
    generalize hx : foldU v = fv at h
    cases h with
    | one k v h =>
      obtain ⟨us, h1, h2⟩ := fits_fold m (fun x hx => hm x (by simp [hx])) (fun x hx => hv x (by simp [hx])) h
      exact ⟨v :: us, ⟨rel_self (hv v (by simp)), h1⟩, by simp only [List.flatten_cons, putB, h2, List.headD_cons, List.tail_cons]⟩
  | .star :: m, vs, r, hm, hv, h => by
    simp only [List.map_cons, foldMk] at h
    generalize hx : vs.map foldU = ks at h
    cases h with
    | star n hk hn h =>
      subst hx
      rw [← List.map_drop] at h
      obtain ⟨us, h1, h2⟩ := fits_fold m (fun x hx => hm x (by simp [hx])) (fun x hx => hv x (List.mem_of_mem_drop hx)) h
      refine ⟨vs.take n ++ us, ?_, by simp only [List.flatten_append, putB, h2, List.headD_cons, List.tail_cons]⟩
      have := rel_append (rel_refl (vs.take n) (fun u hu => hv u (List.mem_of_mem_take hu))) h1
      rw [List.take_append_drop] at this
      exact this
/-- What a match gives: one part for each wildcard, one unit for each that asks for one, and the string but for case. -/
theorem glob_told {comp : Int} {pat s : List UInt8} {r : List (List UInt8)} (h : globP comp pat s = some r) :
    comp ≠ 3 ∧ r.length = wildN (marksU (unitsL pat)) ∧ oneOk (marksU (unitsL pat)) r ∧ r.flatten.length ≤ s.length ∧ ordL comp (putB (marksU (unitsL pat)) r) s = 0 ∧ (putB (marksU (unitsL pat)) r).length = s.length := by
  obtain ⟨hc, hf⟩ := glob_fits h
  refine ⟨hc, ?_⟩
  have hu := units_isU s
  have hmu := marks_units _ _ (Nat.le_refl _) (units_isU pat)
  by_cases h1 : comp = 1
  · subst h1
    simp only [keyL, if_true] at hf
    rw [units_fold, units_fold, marks_fold _ _ (Nat.le_refl _) (units_isU pat)] at hf
    have h2 := fits_facts _ (.inr rfl) hu hf
    obtain ⟨us, h3, h4⟩ := fits_fold _ hmu hu hf
    have h5 := rel_string s us h3
    rw [units_flat] at h2
    refine ⟨h2.1, h2.2.1, h2.2.2, ?_, ?_⟩
    · rw [← h4]
      unfold ordL
      rw [if_neg (by decide), if_pos rfl, h5.1]
      exact (cmp_eq _ _).2 rfl
    · rw [← h4]; exact h5.2
  · simp only [keyL, if_neg h1] at hf
    have h2 := fits_facts _ (.inl rfl) hu hf
    have h3 := fits_same hf rfl
    rw [units_flat] at h2 h3
    refine ⟨h2.1, h2.2.1, h2.2.2, ?_, by rw [h3]⟩
    rw [h3]
    unfold ordL
    rw [if_neg hc, if_neg h1]
    exact (cmp_eq _ _).2 rfl
end Go.Proofs.YtbplbifmohbfdaaDoor
