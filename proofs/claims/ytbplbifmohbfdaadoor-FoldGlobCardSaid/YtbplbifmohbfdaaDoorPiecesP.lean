/- A key between two stars: what the program's way finds; of no program. -/
import Derived.Test.YtbplbifmohbfdaaDoorGlobP
import Derived.Lib.IndexMore
namespace Go.Proofs.YtbplbifmohbfdaaDoor

theorem occ_iff (s sub : List UInt8) (i : Nat) : Lib.occAt s sub i = true ↔ sub <+: s.drop i := by
  unfold Lib.occAt
  exact List.isPrefixOf_iff_prefix
theorem contains_iff (s sub : List UInt8) : Lib.contains s sub = true ↔ ∃ i, i ≤ s.length ∧ sub <+: s.drop i := by
  unfold Lib.contains
  rw [decide_eq_true_eq]
  rcases Lib.index_spec s sub with ⟨h1, h2⟩ | ⟨i, h1, h2, h3, _⟩
  · rw [h1]
    constructor
    · intro h; omega
    · rintro ⟨i, hi, h⟩
      have := h2 i hi
      rw [(occ_iff s sub i).2 h] at this
      cases this
  · rw [h1]
    exact ⟨fun _ => ⟨i, h2, (occ_iff s sub i).1 h3⟩, fun _ => by omega⟩
theorem contains_infix (s sub : List UInt8) : Lib.contains s sub = true ↔ sub <:+: s := by
  rw [contains_iff]
  constructor
  · rintro ⟨i, _, r, hr⟩
    exact ⟨s.take i, r, by rw [List.append_assoc, hr, List.take_append_drop]⟩
  · rintro ⟨a, b, rfl⟩
    exact ⟨a.length, by simp, b, by simp⟩
/-- No wildcard, ASCII alone. -/
def plainB (b : UInt8) : Prop := b.toNat < 128 ∧ b ≠ 42 ∧ b ≠ 63 ∧ b ≠ 92
theorem low_plain {b : UInt8} (h : plainB b) : plainB (UInt8.ofNat (lowN b.toNat)) := by
  obtain ⟨h1, h2, h3, h4⟩ := h
  have ha := low_asc ⟨b.toNat, h1⟩
  have hs := low_sign ⟨b.toNat, h1⟩
  simp only at ha hs
  have hn : (UInt8.ofNat (lowN b.toNat)).toNat = lowN b.toNat := by
    rw [UInt8.toNat_ofNat']; omega
  have key : ∀ k : UInt8, b ≠ k → (lowN b.toNat = k.toNat ↔ b.toNat = k.toNat) → UInt8.ofNat (lowN b.toNat) ≠ k := by
    intro k hk hl e
    apply hk
    have := congrArg UInt8.toNat e
    rw [hn] at this
    exact UInt8.toNat.inj (hl.1 this)
  exact ⟨by rw [hn]; exact ha, key 42 h2 hs.1, key 63 h3 hs.2.1, key 92 h4 hs.2.2⟩
theorem plain_asc {l : List UInt8} (h : ∀ b ∈ l, plainB b) : ascL l := fun b hb => (h b hb).1
theorem key_plain (comp : Int) {l : List UInt8} (h : ∀ b ∈ l, plainB b) : ∀ b ∈ keyL comp l, plainB b := by
  unfold keyL
  split
  · rw [(fold_asc l (plain_asc h)).1]
    intro b hb
    obtain ⟨c, hc, rfl⟩ := List.mem_map.1 hb
    exact low_plain (h c hc)
  · exact h
theorem asc_star : ascL [42] := fun b hb => by
  rw [List.mem_singleton] at hb
  subst hb; decide
theorem asc_app {a b : List UInt8} (ha : ascL a) (hb : ascL b) : ascL (a ++ b) := fun c hc => by
  rcases List.mem_append.1 hc with h | h
  · exact ha c h
  · exact hb c h
theorem key_append (comp : Int) (l key : List UInt8) (hk : ascL key) : keyL comp (l ++ key) = keyL comp l ++ keyL comp key := by
  unfold keyL
  split
  · exact fold_append l key hk
  · rfl
theorem key_star (comp : Int) : keyL comp [42] = [42] := by
  unfold keyL
  split
  · decide +kernel
  · rfl
theorem key_pattern (comp : Int) {key : List UInt8} (h : ∀ b ∈ key, plainB b) : keyL comp ([42] ++ key ++ [42]) = [42] ++ keyL comp key ++ [42] := by
  rw [key_append _ _ _ asc_star, key_append _ _ _ (plain_asc h), key_star]
theorem marks_plain : ∀ (K : List UInt8), (∀ b ∈ K, plainB b) → marksU (K.map sing ++ [[42]]) = (K.map sing).map .lit ++ [.star]
  | [], _ => rfl
  | b :: K, h => by
    have hb := h b (by simp)
    rw [List.map_cons, List.cons_append, marks_lit, marks_plain K (fun c hc => h c (by simp [hc]))]
    · rfl
    · intro e; injection e with e; exact hb.2.1 e
    · intro e; injection e with e; exact hb.2.2.1 e
    · intro e; injection e with e; exact hb.2.2.2 e
theorem split_lits : ∀ (us : List (List UInt8)), splitM (us.map .lit ++ [.star]) = [us, []]
  | [] => rfl
  | u :: us => by
    rw [List.map_cons, List.cons_append]
    simp only [splitM]
    rw [split_lits us]
    rfl
theorem sing_units {K : List UInt8} (h : ∀ b ∈ K, plainB b) : splitM (marksU (unitsL ([42] ++ K ++ [42]))) = [[], K.map sing, []] := by
  rw [units_asc _ (asc_app (asc_app asc_star (plain_asc h)) asc_star)]
  rw [List.map_append, List.map_append]
  show splitM (marksU ([42] :: (K.map sing ++ [[42]]))) = _
  rw [marks_star]
  simp only [splitM]
  rw [marks_plain K h, split_lits]
theorem fit_plain : ∀ (p l : List (List UInt8)), (∀ u ∈ p, u ≠ []) → (fitB p l = true ↔ p <+: l)
  | [], l, _ => by simp [fitB]
  | u :: p, [], _ => by simp [fitB]
  | u :: p, k :: l, h => by
    have hu := h u (by simp)
    rw [List.cons_prefix_cons, ← fit_plain p l (fun v hv => h v (by simp [hv]))]
    simp [fitB, hu]
theorem anys_none : ∀ (p l : List (List UInt8)), (∀ u ∈ p, u ≠ []) → anysU p l = []
  | [], l, _ => by simp [anysU]
  | u :: p, [], _ => by simp [anysU]
  | u :: p, v :: l, h => by
    simp only [anysU, if_neg (h u (by simp))]
    exact anys_none p l (fun w hw => h w (by simp [hw]))
theorem sing_ne (K : List UInt8) : ∀ u ∈ K.map sing, u ≠ [] := by
  intro u hu
  obtain ⟨b, _, rfl⟩ := List.mem_map.1 hu
  simp [sing]
def numK (p ks : List (List UInt8)) : Nat := if p.length ≤ ks.length then ks.length - p.length + 1 else 0
theorem walk_key (ks vs p : List (List UInt8)) (hp : ∀ u ∈ p, u ≠ []) : walkP ks vs true [[], p, []] 0 [] = (placeN p ks 0 (numK p ks)).map fun i => [(vs.take i).flatten, ((vs.drop (i + p.length)).take (ks.length - (i + p.length))).flatten] := by
  have h1 : placeN [] ks (lowP false [] ks 0) (numP true false [] ks 0) = some 0 := by
    simp [lowP, numP, placeN, fitB]
  simp only [walkP, List.isEmpty_cons, h1]
  have h2 : placeN p ks (lowP false p ks (0 + 0)) (numP false false p ks (0 + 0)) = placeN p ks 0 (numK p ks) := by
    simp only [lowP, numP, numK, Bool.false_eq_true, if_false, Nat.sub_zero, Nat.add_zero]
  simp only [List.length_nil, h2]
  cases hpl : placeN p ks 0 (numK p ks) with
  | none => rfl
  | some i =>
    obtain ⟨_, hi, _, _⟩ := (place_some _ _ _ _ _).1 hpl
    have hle : i + p.length ≤ ks.length := by
      unfold numK at hi
      split at hi <;> omega
    have h3 : placeN [] ks (lowP true [] ks (i + p.length)) (numP false true [] ks (i + p.length)) = some ks.length := by
      have e1 : lowP true [] ks (i + p.length) = ks.length := by
        simp only [lowP, if_true, List.length_nil]; omega
      have e2 : numP false true [] ks (i + p.length) = 1 := by
        unfold numP
        rw [e1, List.length_nil, if_pos (Nat.zero_le _), if_neg (by decide)]
        omega
      rw [e1, e2]
      simp [placeN, fitB]
    have a1 : ∀ l, anysU [] l = [] := fun l => by simp [anysU]
    simp only [Option.map_some, anys_none p _ hp, a1, List.isEmpty_nil, h3, if_true, Bool.false_eq_true, if_false, List.append_nil, List.nil_append, List.drop_zero, Nat.sub_zero, Nat.add_zero]
    rfl
theorem key_small (comp : Int) (l : List UInt8) : ∀ u ∈ unitsL l, (keyL comp u).length = u.length := by
  intro u _
  unfold keyL
  split
  · exact fold_len u
  · rfl
theorem keyU (comp : Int) (s : List UInt8) : ∃ f : List UInt8 → List UInt8, unitsL (keyL comp s) = (unitsL s).map f ∧ (∀ k, unitsL (keyL comp ((unitsL s).take k).flatten) = ((unitsL s).map f).take k) ∧ ∀ u ∈ unitsL s, (f u).length = u.length := by
  unfold keyL
  split
  · refine ⟨foldU, units_fold s, fun k => ?_, fun u hu => (fold_unit s u hu).2⟩
    rw [units_fold, units_take, List.map_take]
  · refine ⟨id, by simp, fun k => by rw [units_take]; simp, fun u _ => rfl⟩
theorem flat_len_map (f : List UInt8 → List UInt8) : ∀ l : List (List UInt8), (∀ u ∈ l, (f u).length = u.length) → (l.map f).flatten.length = l.flatten.length
  | [], _ => rfl
  | u :: l, h => by
    rw [List.map_cons, List.flatten_cons, List.flatten_cons, List.length_append, List.length_append, h u (by simp), flat_len_map f l (fun v hv => h v (by simp [hv]))]
theorem sing_flat : ∀ K : List UInt8, (K.map sing).flatten = K
  | [] => rfl
  | b :: K => by rw [List.map_cons, List.flatten_cons, sing_flat K]; rfl
theorem place_has (comp : Int) (s K : List UInt8) (h : ∀ b ∈ K, plainB b) : (placeN (K.map sing) (unitsL (keyL comp s)) 0 (numK (K.map sing) (unitsL (keyL comp s)))).isSome = Lib.contains (keyL comp s) K := by
  rw [Bool.eq_iff_iff, contains_iff, Option.isSome_iff_exists]
  constructor
  · rintro ⟨i, hi⟩
    obtain ⟨_, _, h3, _⟩ := (place_some _ _ _ _ _).1 hi
    have := units_key K (keyL comp s) i ((fit_plain _ _ (sing_ne K)).1 h3)
    rw [← contains_infix, contains_iff] at this
    exact this
  · rintro ⟨i, hi, hp⟩
    cases hpl : placeN (K.map sing) (unitsL (keyL comp s)) 0 (numK (K.map sing) (unitsL (keyL comp s))) with
    | some j => exact ⟨j, rfl⟩
    | none =>
      exfalso
      rw [place_none] at hpl
      have hk : ∃ k, K.map sing <+: (unitsL (keyL comp s)).drop k := by
        cases K with
        | nil => exact ⟨0, by simp⟩
        | cons b K =>
          obtain ⟨k, h1, _⟩ := key_units b K (plain_asc h) (keyL comp s) i hp
          exact ⟨k, h1⟩
      obtain ⟨k, hk⟩ := hk
      have hl := hk.length_le
      rw [List.length_drop] at hl
      have hk2 : K.map sing <+: (unitsL (keyL comp s)).drop (if K = [] then 0 else k) := by
        split
        · rename_i e; subst e; simp
        · exact hk
      refine hpl (if K = [] then 0 else k) (Nat.zero_le _) ?_ ((fit_plain _ _ (sing_ne K)).2 hk2)
      unfold numK
      rw [List.length_map] at hl ⊢
      split
      · rename_i e; subst e; simp
      · rename_i e
        have : 0 < K.length := List.length_pos_iff.2 e
        rw [if_pos (by omega)]
        omega
/-- All of FoldPieces. -/
theorem glob_key (comp : Int) (hc : comp ≠ 3) (s key : List UInt8) (h : ∀ b ∈ key, plainB b) :
    (globP comp ([42] ++ key ++ [42]) s).isSome = Lib.contains (keyL comp s) (keyL comp key) ∧ ∀ r, globP comp ([42] ++ key ++ [42]) s = some r → ∃ a b, r = [a, b] ∧ a.length + key.length + b.length = s.length ∧ (key ≠ [] → Lib.contains (keyL comp a) (keyL comp key) = false) := by
  have hK := key_plain comp h
  have e : globP comp ([42] ++ key ++ [42]) s = walkP (unitsL (keyL comp s)) (unitsL s) true [[], (keyL comp key).map sing, []] 0 [] := by
    unfold globP
    rw [if_neg hc, key_pattern comp h, sing_units hK]
  rw [e, walk_key _ _ _ (sing_ne _), Option.isSome_map]
  refine ⟨place_has comp s _ hK, fun r hr => ?_⟩
  have hkl : (keyL comp key).length = key.length := by
    unfold keyL
    split
    · exact fold_len key
    · rfl
  cases hpl : placeN ((keyL comp key).map sing) (unitsL (keyL comp s)) 0 (numK ((keyL comp key).map sing) (unitsL (keyL comp s))) with
  | none => rw [hpl] at hr; cases hr
  | some i =>
    rw [hpl] at hr
    simp only [Option.map_some, Option.some.injEq] at hr
    obtain ⟨_, h2, h3, h4⟩ := (place_some _ _ _ _ _).1 hpl
    obtain ⟨f, f1, f2, f3⟩ := keyU comp s
    have hpre := (fit_plain _ _ (sing_ne _)).1 h3
    have hlen := hpre.length_le
    rw [List.length_drop, List.length_map, hkl, f1, List.length_map] at hlen
    rw [List.length_map, hkl, f1, List.length_map] at hr
    have hmid : (((unitsL s).drop i).take key.length).flatten.length = key.length := by
      rw [← flat_len_map f _ (fun u hu => f3 u (List.mem_of_mem_drop (List.mem_of_mem_take hu)))]
      have h5 := List.prefix_iff_eq_take.1 hpre
      rw [List.length_map, hkl, f1, ← List.map_drop, ← List.map_take] at h5
      rw [← h5, sing_flat, hkl]
    have hs : ((unitsL s).take i).flatten.length + (((unitsL s).drop i).take key.length).flatten.length + ((unitsL s).drop (i + key.length)).flatten.length = s.length := by
      rw [← List.length_append, ← List.length_append, ← List.flatten_append, ← List.flatten_append, ← List.drop_drop, List.append_assoc, List.take_append_drop, List.take_append_drop, units_flat]
    have hend : ((unitsL s).drop (i + key.length)).take ((unitsL s).length - (i + key.length)) = (unitsL s).drop (i + key.length) := List.take_of_length_le (by rw [List.length_drop]; exact Nat.le_refl _)
    rw [hend] at hr
    refine ⟨_, _, hr.symm, by omega, fun hne => ?_⟩
    rw [Bool.eq_false_iff]
    intro hcon
    obtain ⟨j, hj, hjp⟩ := (contains_iff _ _).1 hcon
    cases hkk : keyL comp key with
    | nil => rw [hkk] at hkl; exact hne (List.eq_nil_of_length_eq_zero hkl.symm)
    | cons b K =>
      rw [hkk] at hjp h4 hK
      obtain ⟨k, h6, _⟩ := key_units b K (plain_asc hK) _ j hjp
      rw [f2, List.drop_take] at h6
      have h7 := h6.length_le
      rw [List.length_take, List.length_map, List.length_cons] at h7
      have h8 : (b :: K).map sing <+: (unitsL (keyL comp s)).drop k := by
        rw [f1]
        exact h6.trans (List.take_prefix _ _)
      exact h4 k (Nat.zero_le _) (by omega) ((fit_plain _ _ (sing_ne _)).2 h8)
/-- The key at the end is found. -/
theorem ahead_key (comp : Int) (s key : List UInt8) (h : ∀ b ∈ key, plainB b) : Lib.contains (keyL comp (s ++ key)) (keyL comp key) = true := by
  rw [contains_infix, key_append _ _ _ (plain_asc h)]
  exact ⟨_, [], by rw [List.append_nil]⟩
end Go.Proofs.YtbplbifmohbfdaaDoor
