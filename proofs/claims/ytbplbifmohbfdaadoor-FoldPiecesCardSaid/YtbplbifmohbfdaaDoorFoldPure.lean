/- Units, lower case, comparison and glob patterns on lists of bytes; of no program. -/
import Derived.Test.YtbplbifmohbfdaaDoorUtf
import GoSem.Claim
namespace Go.Proofs.YtbplbifmohbfdaaDoor
/-! ### Units -/
/-- Decoding into units, with fuel. -/
def unitsF : Nat → List UInt8 → List (List UInt8)
  | 0, _ => []
  | _ + 1, [] => []
  | f + 1, b :: t => match firstS (b :: t) with
    | some n => encL n :: unitsF f ((b :: t).drop (encL n).length)
    | none => [b] :: unitsF f t
theorem unitsF_more : ∀ (f : Nat) (l : List UInt8), l.length ≤ f → unitsF f l = unitsF l.length l := by
  intro f
  induction f using Nat.strongRecOn with
  | ind f ih =>
    intro l hl
    cases l with
    | nil => cases f <;> rfl
    | cons b t =>
      cases f with
      | zero => simp at hl
      | succ f =>
        simp only [List.length_cons, unitsF]
        have hl2 : t.length ≤ f := by simpa using hl
        cases hf : firstS (b :: t) with
        | none => simp only; rw [ih f (by omega) t hl2]
        | some n =>
          simp only
          have hd : ((b :: t).drop (encL n).length).length ≤ t.length := by
            have := (enc_len n).1
            rw [List.length_drop, List.length_cons]; omega
          rw [ih f (by omega) _ (by omega)]
          by_cases e : t.length < f + 1
          · rw [ih t.length e _ hd]
          · omega
def unitsL (l : List UInt8) : List (List UInt8) := unitsF l.length l
theorem units_nil : unitsL [] = [] := rfl
theorem units_enc {n : Nat} (h : cpB n = true) (t : List UInt8) : unitsL (encL n ++ t) = encL n :: unitsL t := by
  unfold unitsL
  have hf := first_enc h t
  cases e : encL n ++ t with
  | nil => exact absurd (List.append_eq_nil_iff.1 e).1 (enc_ne n)
  | cons b r =>
    rw [e] at hf
    simp only [List.length_cons, unitsF, hf]
    rw [← e, List.drop_left]
    congr 1
    refine unitsF_more _ _ ?_
    have := congrArg List.length e
    have h1 := (enc_len n).1
    rw [List.length_append, List.length_cons] at this
    omega
theorem units_none {b : UInt8} {t : List UInt8} (h : firstS (b :: t) = none) : unitsL (b :: t) = [b] :: unitsL t := by
  unfold unitsL
  simp only [List.length_cons, unitsF, h]
/-- The units make up the string. -/
theorem units_flat (l : List UInt8) : (unitsL l).flatten = l := by
  refine utf_all (p := fun l => (unitsL l).flatten = l) rfl ?_ ?_ l
  · intro n t hn ih
    rw [units_enc hn, List.flatten_cons, ih]
  · intro b t hf ih
    rw [units_none hf, List.flatten_cons, ih]; rfl
theorem units_len (l : List UInt8) : ∀ u ∈ unitsL l, 1 ≤ u.length ∧ u.length ≤ 4 := by
  refine utf_all (p := fun l => ∀ u ∈ unitsL l, 1 ≤ u.length ∧ u.length ≤ 4) (by intro u h; simp [units_nil] at h) ?_ ?_ l
  · intro n t hn ih u hu
    rw [units_enc hn] at hu
    rcases List.mem_cons.1 hu with rfl | hu
    · exact enc_len n
    · exact ih u hu
  · intro b t hf ih u hu
    rw [units_none hf] at hu
    rcases List.mem_cons.1 hu with rfl | hu
    · simp
    · exact ih u hu
/-! ### Lower case -/
def lowN (r : Nat) : Nat :=
  if (65 ≤ r ∧ r ≤ 90) ∨ (192 ≤ r ∧ r ≤ 222 ∧ r ≠ 215) ∨ (913 ≤ r ∧ r ≤ 939 ∧ r ≠ 930) ∨ (1040 ≤ r ∧ r ≤ 1071) then r + 32
  else if 1024 ≤ r ∧ r ≤ 1039 then r + 80
  else if (r % 2 = 0 ∧ ((256 ≤ r ∧ r ≤ 303) ∨ (306 ≤ r ∧ r ≤ 311) ∨ (330 ≤ r ∧ r ≤ 375))) ∨ (r % 2 = 1 ∧ ((313 ≤ r ∧ r ≤ 328) ∨ (377 ≤ r ∧ r ≤ 382))) then r + 1
  else if r = 376 then 255
  else if r = 902 then 940
  else if 904 ≤ r ∧ r ≤ 906 then r + 37
  else if r = 908 then r + 64
  else if r = 910 ∨ r = 911 then r + 63
  else r
theorem low_small : ∀ r : Fin 2048, lowN (lowN r.val) = lowN r.val ∧ lowN r.val < 2048 ∧ (lowN r.val < 128 ↔ r.val < 128) := by decide +kernel
theorem low_big {r : Nat} (h : 2048 ≤ r) : lowN r = r := by
  unfold lowN
  rw [if_neg (by omega), if_neg (by omega), if_neg (by omega), if_neg (by omega), if_neg (by omega), if_neg (by omega), if_neg (by omega), if_neg (by omega)]
theorem low_low (r : Nat) : lowN (lowN r) = lowN r := by
  by_cases h : r < 2048
  · exact (low_small ⟨r, h⟩).1
  · rw [low_big (r := r) (by omega), low_big (r := r) (by omega)]
theorem low_cp {r : Nat} (h : cpB r = true) : cpB (lowN r) = true := by
  by_cases h2 : r < 2048
  · have := (low_small ⟨r, h2⟩).2.1
    exact (cp_iff _).2 (by simp only at this; omega)
  · rw [low_big (by omega)]; exact h
theorem low_len (r : Nat) : (encL (lowN r)).length = (encL r).length := by
  by_cases h2 : r < 2048
  · obtain ⟨_, h3, h4⟩ := low_small ⟨r, h2⟩
    simp only at h3 h4
    unfold encL
    by_cases c : r < 128
    · rw [if_pos c, if_pos (h4.2 c)]; rfl
    · rw [if_neg c, if_neg (fun h => c (h4.1 h)), if_pos h2, if_pos h3]; rfl
  · rw [low_big (by omega)]
/-! ### Folding -/
/-- A unit in lower case. -/
def foldU (u : List UInt8) : List UInt8 := match firstS u with
  | some n => encL (lowN n)
  | none => u
theorem firstS_whole {n : Nat} (h : cpB n = true) : firstS (encL n) = some n := by
  have := first_enc h []
  rwa [List.append_nil] at this
theorem foldU_enc {n : Nat} (h : cpB n = true) : foldU (encL n) = encL (lowN n) := by
  unfold foldU
  rw [firstS_whole h]
/-- A single byte that begins no encoding begins none by itself. -/
theorem first_single {b : UInt8} {t : List UInt8} (h : firstS (b :: t) = none) : firstS [b] = none := by
  cases hf : firstS [b] with
  | none => rfl
  | some n =>
    obtain ⟨hc, r, hr⟩ := first_some' hf
    have e : encL n = [b] := by
      have h1 := enc_len n
      have h2 := congrArg List.length hr
      rw [List.length_append] at h2
      simp only [List.length_cons, List.length_nil] at h2
      have h3 : r = [] := List.eq_nil_of_length_eq_zero (by omega)
      rw [h3, List.append_nil] at hr
      exact hr.symm
    have := first_enc hc t
    rw [e, List.singleton_append, h] at this
    cases this
theorem foldU_none {b : UInt8} {t : List UInt8} (h : firstS (b :: t) = none) : foldU [b] = [b] := by
  unfold foldU
  rw [first_single h]
def foldL (l : List UInt8) : List UInt8 := ((unitsL l).map foldU).flatten
theorem fold_nil : foldL [] = [] := rfl
theorem fold_enc {n : Nat} (h : cpB n = true) (t : List UInt8) : foldL (encL n ++ t) = encL (lowN n) ++ foldL t := by
  unfold foldL
  rw [units_enc h, List.map_cons, List.flatten_cons, foldU_enc h]
theorem fold_none {b : UInt8} {t : List UInt8} (h : firstS (b :: t) = none) : foldL (b :: t) = b :: foldL t := by
  unfold foldL
  rw [units_none h, List.map_cons, List.flatten_cons, foldU_none h]; rfl
theorem fold_len (l : List UInt8) : (foldL l).length = l.length := by
  refine utf_all (p := fun l => (foldL l).length = l.length) rfl ?_ ?_ l
  · intro n t hn ih
    rw [fold_enc hn, List.length_append, List.length_append, ih, low_len]
  · intro b t hf ih
    rw [fold_none hf, List.length_cons, List.length_cons, ih]
/-! ### What begins an encoding hangs on the continuation bytes behind the first byte alone -/
theorem first_cont (b : UInt8) (t : List UInt8) : firstS (b :: t) = firstS (b :: t.takeWhile contB) := by
  unfold firstS
  simp only
  split
  · rfl
  · split
    · rfl
    · split
      · match t with
        | [] => rfl
        | b1 :: t =>
          by_cases h1 : contB b1 = true
          · simp [h1]
          · simp [h1]
      · split
        · match t with
          | [] => rfl
          | [b1] =>
            by_cases h1 : contB b1 = true
            · simp [h1]
            · simp [h1]
          | b1 :: b2 :: t =>
            by_cases h1 : contB b1 = true
            · by_cases h2 : contB b2 = true
              · simp [h1, h2]
              · simp [h1, h2]
            · simp [h1]
        · split
          · match t with
            | [] => rfl
            | [b1] =>
              by_cases h1 : contB b1 = true
              · simp [h1]
              · simp [h1]
            | [b1, b2] =>
              by_cases h1 : contB b1 = true
              · by_cases h2 : contB b2 = true
                · simp [h1, h2]
                · simp [h1, h2]
              · simp [h1]
            | b1 :: b2 :: b3 :: t =>
              by_cases h1 : contB b1 = true
              · by_cases h2 : contB b2 = true
                · by_cases h3 : contB b3 = true
                  · simp [h1, h2, h3]
                  · simp [h1, h2, h3]
                · simp [h1, h2]
              · simp [h1]
          · rfl
/-- An encoding begins with no continuation byte. -/
theorem enc_start {n : Nat} (h : cpB n = true) : ∃ b r, encL n = b :: r ∧ contB b = false := by
  have hc := (cp_iff n).1 h
  have hb : ∀ k : Nat, k < 256 → (k < 128 ∨ 192 ≤ k) → contB (UInt8.ofNat k) = false := by
    intro k hk hk2
    rw [Bool.eq_false_iff]
    intro h2
    have := (cont_iff _).1 h2
    rw [nat_byte hk] at this
    omega
  unfold encL
  by_cases c1 : n < 128
  · rw [if_pos c1]; exact ⟨_, _, rfl, hb _ (by omega) (by omega)⟩
  · rw [if_neg c1]
    by_cases c2 : n < 2048
    · rw [if_pos c2]; exact ⟨_, _, rfl, hb _ (by omega) (by omega)⟩
    · rw [if_neg c2]
      by_cases c3 : n < 65536
      · rw [if_pos c3]; exact ⟨_, _, rfl, hb _ (by omega) (by omega)⟩
      · rw [if_neg c3]; exact ⟨_, _, rfl, hb _ (by omega) (by omega)⟩
theorem run_enc {n : Nat} (h : cpB n = true) (t : List UInt8) : (encL n ++ t).takeWhile contB = [] := by
  obtain ⟨b, r, e, hb⟩ := enc_start h
  rw [e, List.cons_append, List.takeWhile_cons, hb]
  rfl
theorem run_fold (l : List UInt8) : (foldL l).takeWhile contB = l.takeWhile contB := by
  refine utf_all (p := fun l => (foldL l).takeWhile contB = l.takeWhile contB) rfl ?_ ?_ l
  · intro n t hn _
    rw [fold_enc hn, run_enc hn, run_enc (low_cp hn)]
  · intro b t hf ih
    rw [fold_none hf, List.takeWhile_cons, List.takeWhile_cons, ih]
theorem first_fold {b : UInt8} {t : List UInt8} (h : firstS (b :: t) = none) : firstS (b :: foldL t) = none := by
  rw [first_cont, run_fold, ← first_cont]
  exact h
/-- The units of what is folded are the units, folded. -/
theorem units_fold (l : List UInt8) : unitsL (foldL l) = (unitsL l).map foldU := by
  refine utf_all (p := fun l => unitsL (foldL l) = (unitsL l).map foldU) rfl ?_ ?_ l
  · intro n t hn ih
    rw [fold_enc hn, units_enc (low_cp hn), units_enc hn, List.map_cons, ih, foldU_enc hn]
  · intro b t hf ih
    rw [fold_none hf, units_none (first_fold hf), units_none hf, List.map_cons, ih, foldU_none hf]
theorem fold_fold (l : List UInt8) : foldL (foldL l) = foldL l := by
  refine utf_all (p := fun l => foldL (foldL l) = foldL l) rfl ?_ ?_ l
  · intro n t hn ih
    rw [fold_enc hn, fold_enc (low_cp hn), ih, low_low]
  · intro b t hf ih
    rw [fold_none hf, fold_none (first_fold hf), ih]
/-- A unit is its own unit, and folds as a string. -/
theorem fold_unit (l : List UInt8) : ∀ u ∈ unitsL l, foldL u = foldU u ∧ (foldU u).length = u.length := by
  refine utf_all (p := fun l => ∀ u ∈ unitsL l, foldL u = foldU u ∧ (foldU u).length = u.length) (by intro u h; simp [units_nil] at h) ?_ ?_ l
  · intro n t hn ih u hu
    rw [units_enc hn] at hu
    rcases List.mem_cons.1 hu with rfl | hu
    · have := fold_enc hn []
      rw [List.append_nil, fold_nil, List.append_nil] at this
      exact ⟨by rw [this, foldU_enc hn], by rw [foldU_enc hn, low_len]⟩
    · exact ih u hu
  · intro b t hf ih u hu
    rw [units_none hf] at hu
    rcases List.mem_cons.1 hu with rfl | hu
    · exact ⟨by rw [fold_none (first_single hf), foldU_none hf]; rfl, by rw [foldU_none hf]⟩
    · exact ih u hu
/-! ### Comparison of bytes -/
theorem less_irrefl : ∀ a : List UInt8, Op.bytesLess a a = false
  | [] => rfl
  | a :: x => by
    have := less_irrefl x
    simp only [Op.bytesLess, this, Bool.and_false, Bool.or_false, decide_eq_false_iff_not]
    exact UInt8.lt_irrefl a
theorem less_cons (a b : UInt8) (x y : List UInt8) : Op.bytesLess (a :: x) (b :: y) = true ↔ a.toNat < b.toNat ∨ (a = b ∧ Op.bytesLess x y = true) := by
  simp only [Op.bytesLess, Bool.or_eq_true, decide_eq_true_eq, Bool.and_eq_true, beq_iff_eq, UInt8.lt_iff_toNat_lt]
theorem less_trans : ∀ {a b c : List UInt8}, Op.bytesLess a b = true → Op.bytesLess b c = true → Op.bytesLess a c = true
  | _, [], _, h, _ => by cases ‹List UInt8› <;> simp [Op.bytesLess] at h
  | _, _ :: _, [], _, h => by simp [Op.bytesLess] at h
  | [], _ :: _, _ :: _, _, _ => rfl
  | a :: x, b :: y, c :: z, h, k => by
    rw [less_cons] at h k ⊢
    rcases h with h | ⟨rfl, h⟩ <;> rcases k with k | ⟨rfl, k⟩
    · exact .inl (by omega)
    · exact .inl h
    · exact .inl k
    · exact .inr ⟨rfl, less_trans h k⟩
theorem less_total : ∀ (a b : List UInt8), Op.bytesLess a b = true ∨ a = b ∨ Op.bytesLess b a = true
  | [], [] => .inr (.inl rfl)
  | [], _ :: _ => .inl rfl
  | _ :: _, [] => .inr (.inr rfl)
  | a :: x, b :: y => by
    rw [less_cons, less_cons]
    rcases Nat.lt_trichotomy a.toNat b.toNat with h | h | h
    · exact .inl (.inl h)
    · have e : a = b := UInt8.toNat_inj.1 h
      subst e
      rcases less_total x y with k | k | k
      · exact .inl (.inr ⟨rfl, k⟩)
      · exact .inr (.inl (by rw [k]))
      · exact .inr (.inr (.inr ⟨rfl, k⟩))
    · exact .inr (.inr (.inl h))
/-- -1, 0 or 1. -/
def cmpL (a b : List UInt8) : Int := if Op.bytesLess a b = true then -1 else if Op.bytesLess b a = true then 1 else 0
/-- What an order's sign must keep. -/
structure Sorted3 {α : Type} (c : α → α → Int) : Prop where
  range : ∀ x y, c x y = -1 ∨ c x y = 0 ∨ c x y = 1
  anti : ∀ x y, c y x = - c x y
  self : ∀ x, c x x = 0
  trans : ∀ x y z, c x y ≤ 0 → c y z ≤ 0 → c x z ≤ 0 ∧ (c x z = 0 → c x y = 0 ∧ c y z = 0)
theorem cmp_eq (a b : List UInt8) : cmpL a b = 0 ↔ a = b := by
  unfold cmpL
  constructor
  · intro h
    rcases less_total a b with k | k | k
    · rw [if_pos k] at h; cases h
    · exact k
    · by_cases k2 : Op.bytesLess a b = true
      · rw [if_pos k2] at h; cases h
      · rw [if_neg k2, if_pos k] at h; cases h
  · intro h
    subst h
    rw [less_irrefl]
    simp
theorem less_asymm {a b : List UInt8} (h : Op.bytesLess a b = true) : ¬ Op.bytesLess b a = true := by
  intro k
  have := less_trans h k
  rw [less_irrefl] at this
  cases this
theorem cmp_neg (a b : List UInt8) : cmpL a b = -1 ↔ Op.bytesLess a b = true := by
  unfold cmpL
  by_cases h : Op.bytesLess a b = true
  · simp [h]
  · rw [if_neg h]
    constructor
    · intro k; split at k <;> cases k
    · intro k; exact absurd k h
theorem cmp_pos (a b : List UInt8) : cmpL a b = 1 ↔ Op.bytesLess b a = true := by
  unfold cmpL
  by_cases h : Op.bytesLess a b = true
  · rw [if_pos h]
    constructor
    · intro k; cases k
    · intro k; exact absurd k (less_asymm h)
  · rw [if_neg h]
    by_cases k : Op.bytesLess b a = true
    · simp [k]
    · simp [k]
theorem cmp_range (a b : List UInt8) : cmpL a b = -1 ∨ cmpL a b = 0 ∨ cmpL a b = 1 := by
  unfold cmpL
  split
  · exact .inl rfl
  · split
    · exact .inr (.inr rfl)
    · exact .inr (.inl rfl)
theorem cmp_sorted : Sorted3 cmpL where
  range := cmp_range
  anti := fun a b => by
    rcases less_total a b with h | h | h
    · rw [(cmp_neg a b).2 h, (cmp_pos b a).2 h]; rfl
    · subst h; rw [(cmp_eq a a).2 rfl]; rfl
    · rw [(cmp_pos a b).2 h, (cmp_neg b a).2 h]
  self := fun a => (cmp_eq a a).2 rfl
  trans := fun a b c h k => by
    rcases cmp_range a b with h1 | h1 | h1
    · rcases cmp_range b c with k1 | k1 | k1
      · have := (cmp_neg a c).2 (less_trans ((cmp_neg a b).1 h1) ((cmp_neg b c).1 k1))
        exact ⟨by omega, by omega⟩
      · have e := (cmp_eq b c).1 k1
        subst e
        exact ⟨h, by omega⟩
      · omega
    · have e := (cmp_eq a b).1 h1
      subst e
      exact ⟨k, fun h2 => ⟨h1, h2⟩⟩
    · omega
/-- The same of what is compared by a key. -/
theorem Sorted3.key {α β : Type} {c : β → β → Int} (h : Sorted3 c) (f : α → β) : Sorted3 fun x y => c (f x) (f y) :=
  ⟨fun _ _ => h.range _ _, fun _ _ => h.anti _ _, fun _ => h.self _, fun _ _ _ => h.trans _ _ _⟩
/-! ### Numbers -/
def digB (b : UInt8) : Bool := decide (48 ≤ b.toNat) && decide (b.toNat ≤ 57)
/-- The leading digits without leading zeros; none, if there are no digits. -/
def numL (l : List UInt8) : Option (List UInt8) := if l.takeWhile digB = [] then none else some ((l.takeWhile digB).dropWhile fun b => b == 48)
def cmpD (x y : List UInt8) : Int := if x.length < y.length then -1 else if y.length < x.length then 1 else cmpL x y
def cmpN : Option (List UInt8) → Option (List UInt8) → Int
  | none, none => 0
  | none, some _ => 1
  | some _, none => -1
  | some x, some y => cmpD x y
theorem cmpD_sorted : Sorted3 cmpD where
  range := fun x y => by
    unfold cmpD
    split
    · exact .inl rfl
    · split
      · exact .inr (.inr rfl)
      · exact cmp_range x y
  anti := fun x y => by
    unfold cmpD
    by_cases h : x.length < y.length
    · rw [if_pos h, if_neg (by omega), if_pos h]; rfl
    · by_cases k : y.length < x.length
      · rw [if_pos k, if_neg h, if_pos k]
      · rw [if_neg k, if_neg h, if_neg h, if_neg k]
        exact cmp_sorted.anti x y
  self := fun x => by
    unfold cmpD
    rw [if_neg (by omega), if_neg (by omega)]
    exact cmp_sorted.self x
  trans := fun x y z h k => by
    unfold cmpD at h k ⊢
    by_cases h1 : x.length < y.length
    · by_cases k1 : z.length < y.length
      · rw [if_neg (by omega), if_pos k1] at k; omega
      · rw [if_pos (show x.length < z.length by omega)]
        exact ⟨by omega, by omega⟩
    · by_cases h2 : y.length < x.length
      · rw [if_neg h1, if_pos h2] at h; omega
      · rw [if_neg h1, if_neg h2] at h ⊢
        by_cases k1 : y.length < z.length
        · rw [if_pos (show x.length < z.length by omega)]
          exact ⟨by omega, by omega⟩
        · by_cases k2 : z.length < y.length
          · rw [if_neg k1, if_pos k2] at k; omega
          · rw [if_neg k1, if_neg k2] at k ⊢
            rw [if_neg (show ¬ x.length < z.length by omega), if_neg (show ¬ z.length < x.length by omega)]
            exact cmp_sorted.trans x y z h k
theorem cmpN_sorted : Sorted3 cmpN where
  range := fun x y => by
    cases x <;> cases y
    · exact .inr (.inl rfl)
    · exact .inr (.inr rfl)
    · exact .inl rfl
    · exact cmpD_sorted.range _ _
  anti := fun x y => by
    cases x <;> cases y
    · rfl
    · rfl
    · rfl
    · exact cmpD_sorted.anti _ _
  self := fun x => by
    cases x
    · rfl
    · exact cmpD_sorted.self _
  trans := fun x y z h k => by
    cases x <;> cases y <;> cases z
    all_goals first
      | exact cmpD_sorted.trans _ _ _ h k
      | exact absurd h (show ¬ ((1 : Int) ≤ 0) by decide)
      | exact absurd k (show ¬ ((1 : Int) ≤ 0) by decide)
      | exact ⟨show (0 : Int) ≤ 0 by decide, fun _ => ⟨rfl, rfl⟩⟩
      | exact ⟨show (-1 : Int) ≤ 0 by decide, fun e => absurd e (show ¬ ((-1 : Int) = 0) by decide)⟩
/-- The comparison of a collation: 1: by lower case; 3: by number; else by bytes. -/
def ordL (comp : Int) (a b : List UInt8) : Int := if comp = 3 then cmpN (numL a) (numL b) else if comp = 1 then cmpL (foldL a) (foldL b) else cmpL a b
theorem ord_sorted (comp : Int) : Sorted3 (ordL comp) := by
  unfold ordL
  by_cases h3 : comp = 3
  · simp only [if_pos h3]
    exact cmpN_sorted.key numL
  · simp only [if_neg h3]
    by_cases h1 : comp = 1
    · simp only [if_pos h1]
      exact cmp_sorted.key foldL
    · simp only [if_neg h1]
      exact cmp_sorted
/-! ### Patterns -/
/-- An element of a pattern: a unit, any unit, any sequence. -/
inductive Mk where
  | lit (u : List UInt8)
  | one
  | star
deriving DecidableEq
/-- The elements of a list of units. -/
def marksU : List (List UInt8) → List Mk
  | [] => []
  | [u] => if u = [42] then [.star] else if u = [63] then [.one] else [.lit u]
  | u :: v :: l => if u = [42] then .star :: marksU (v :: l) else if u = [63] then .one :: marksU (v :: l) else if u = [92] then .lit v :: marksU l else .lit u :: marksU (v :: l)
/-- How many units each wildcard takes, the first as few as may be, then the second .. -/
def starG (g : List (List UInt8) → Option (List Nat)) : List (List UInt8) → Option (List Nat)
  | [] => (g []).map (0 :: ·)
  | v :: t => match g (v :: t) with
    | some c => some (0 :: c)
    | none => match starG g t with
      | some (k :: c) => some ((k + 1) :: c)
      | _ => none
def globG : List Mk → List (List UInt8) → Option (List Nat)
  | [], l => if l = [] then some [] else none
  | .lit u :: m, l => match l with
    | v :: t => if u = v then globG m t else none
    | [] => none
  | .one :: m, l => match l with
    | _ :: t => (globG m t).map (1 :: ·)
    | [] => none
  | .star :: m, l => starG (globG m) l
/-- The first sequence is the shortest: k units, and the rest fits; with fewer it does not. -/
theorem starG_some (g : List (List UInt8) → Option (List Nat)) : ∀ (l : List (List UInt8)) (c : List Nat), starG g l = some c ↔ ∃ k c', c = k :: c' ∧ k ≤ l.length ∧ g (l.drop k) = some c' ∧ ∀ j, j < k → g (l.drop j) = none
  | [], c => by
    simp only [starG, Option.map_eq_some_iff, List.drop_nil]
    constructor
    · rintro ⟨c', h, rfl⟩
      exact ⟨0, c', rfl, Nat.le_refl _, h, fun j hj => by omega⟩
    · rintro ⟨k, c', rfl, hk, h, _⟩
      have : k = 0 := by simpa using hk
      subst this
      exact ⟨c', h, rfl⟩
  | v :: t, c => by
    simp only [starG]
    cases hg : g (v :: t) with
    | some d =>
      simp only [Option.some.injEq]
      constructor
      · rintro rfl
        exact ⟨0, d, rfl, Nat.zero_le _, hg, fun j hj => by omega⟩
      · rintro ⟨k, c', rfl, _, h, hmin⟩
        have : k = 0 := by
          rcases Nat.eq_zero_or_pos k with h0 | h0
          · exact h0
          · have := hmin 0 h0
            rw [List.drop_zero, hg] at this
            cases this
        subst this
        rw [List.drop_zero, hg] at h
        injection h with h
        rw [h]
    | none =>
      simp only
      constructor
      · intro h
        cases hs : starG g t with
        | none => rw [hs] at h; cases h
        | some d =>
          obtain ⟨k, c', rfl, hk, hd, hmin⟩ := (starG_some g t d).1 hs
          rw [hs] at h
          simp only [Option.some.injEq] at h
          refine ⟨k + 1, c', h.symm, by simpa using hk, hd, fun j hj => ?_⟩
          cases j with
          | zero => exact hg
          | succ j => exact hmin j (by omega)
      · rintro ⟨k, c', rfl, hk, h, hmin⟩
        cases k with
        | zero => rw [List.drop_zero, hg] at h; cases h
        | succ k =>
          have := (starG_some g t (k :: c')).2 ⟨k, c', rfl, by simpa using hk, h, fun j hj => hmin (j + 1) (by omega)⟩
          rw [this]
theorem starG_none (g : List (List UInt8) → Option (List Nat)) (l : List (List UInt8)) : starG g l = none ↔ ∀ j, j ≤ l.length → g (l.drop j) = none := by
  constructor
  · intro h
    have hall : ∀ j, j ≤ l.length → (∀ i, i < j → g (l.drop i) = none) → g (l.drop j) = none := by
      intro j hj hmin
      cases hg : g (l.drop j) with
      | none => rfl
      | some c =>
        have := (starG_some g l (j :: c)).2 ⟨j, c, rfl, hj, hg, hmin⟩
        rw [h] at this
        cases this
    intro j
    induction j using Nat.strongRecOn with
    | ind j ih => exact fun hj => hall j hj (fun i hi => ih i hi (by omega))
  · intro h
    cases hs : starG g l with
    | none => rfl
    | some c =>
      obtain ⟨k, c', _, hk, hg, _⟩ := (starG_some g l c).1 hs
      rw [h k hk] at hg
      cases hg
/-- The parts of a list of units that the wildcards take, by their counts. -/
def partsG : List Mk → List Nat → List (List UInt8) → List (List (List UInt8))
  | [], _, _ => []
  | .lit _ :: m, c, l => partsG m c (l.drop 1)
  | .one :: m, c, l => l.take 1 :: partsG m c.tail (l.drop 1)
  | .star :: m, c, l => l.take (c.headD 0) :: partsG m c.tail (l.drop (c.headD 0))
/-- A pattern with parts in the wildcards' place. -/
def putG : List Mk → List (List (List UInt8)) → List (List UInt8)
  | [], _ => []
  | .lit u :: m, p => u :: putG m p
  | .one :: m, p => p.headD [] ++ putG m p.tail
  | .star :: m, p => p.headD [] ++ putG m p.tail
/-- The parts, put in their place, give back what was matched. -/
theorem put_parts : ∀ (m : List Mk) (l : List (List UInt8)) (c : List Nat), globG m l = some c → putG m (partsG m c l) = l
  | [], l, c, h => by
    simp only [globG] at h
    split at h
    · rename_i e; rw [e]; rfl
    · cases h
  | .lit u :: m, l, c, h => by
    simp only [globG] at h
    match l, h with
    | v :: t, h =>
      simp only at h
      split at h
      · rename_i e
        subst e
        simp only [partsG, putG, List.drop_succ_cons, List.drop_zero]
        rw [put_parts m t c h]
      · cases h
    | [], h => cases h
  | .one :: m, l, c, h => by
    simp only [globG] at h
    match l, h with
    | v :: t, h =>
      simp only [Option.map_eq_some_iff] at h
      obtain ⟨c', h2, rfl⟩ := h
      simp only [partsG, putG, List.drop_succ_cons, List.drop_zero, List.tail_cons, List.headD_cons, List.take_succ_cons, List.take_zero]
      rw [put_parts m t c' h2]; rfl
    | [], h => cases h
  | .star :: m, l, c, h => by
    simp only [globG] at h
    obtain ⟨k, c', rfl, _, hg, _⟩ := (starG_some (globG m) l c).1 h
    simp only [partsG, putG, List.tail_cons, List.headD_cons]
    rw [put_parts m (l.drop k) c' hg, List.take_append_drop]
/-! ### Units of the same lower case -/
/-- Is a list of bytes a unit? -/
def IsU (u : List UInt8) : Prop := (∃ n, cpB n = true ∧ u = encL n) ∨ ∃ b, u = [b] ∧ firstS [b] = none
theorem units_isU (l : List UInt8) : ∀ u ∈ unitsL l, IsU u := by
  refine utf_all (p := fun l => ∀ u ∈ unitsL l, IsU u) (by intro u h; simp [units_nil] at h) ?_ ?_ l
  · intro n t hn ih u hu
    rw [units_enc hn] at hu
    rcases List.mem_cons.1 hu with rfl | hu
    · exact .inl ⟨n, hn, rfl⟩
    · exact ih u hu
  · intro b t hf ih u hu
    rw [units_none hf] at hu
    rcases List.mem_cons.1 hu with rfl | hu
    · exact .inr ⟨b, rfl, first_single hf⟩
    · exact ih u hu
theorem foldU_single {b : UInt8} (h : firstS [b] = none) : foldU [b] = [b] := foldU_none h
/-- Two units, one the other's but for case. -/
def Rel1 (u v : List UInt8) : Prop := (∃ n k, cpB n = true ∧ cpB k = true ∧ u = encL n ∧ v = encL k ∧ lowN n = lowN k) ∨ ∃ b, u = [b] ∧ v = [b] ∧ firstS [b] = none
theorem enc_inj {n k : Nat} (hn : cpB n = true) (hk : cpB k = true) (h : encL n = encL k) : n = k := by
  have h1 := firstS_whole hn
  rw [h, firstS_whole hk] at h1
  injection h1 with h1
  exact h1.symm
theorem rel_of {u v : List UInt8} (hu : IsU u) (hv : IsU v) (h : foldU u = foldU v) : Rel1 u v := by
  rcases hu with ⟨n, hn, rfl⟩ | ⟨b, rfl, hb⟩ <;> rcases hv with ⟨k, hk, rfl⟩ | ⟨d, rfl, hd⟩
  · rw [foldU_enc hn, foldU_enc hk] at h
    exact .inl ⟨n, k, hn, hk, rfl, rfl, enc_inj (low_cp hn) (low_cp hk) h⟩
  · rw [foldU_enc hn, foldU_single hd] at h
    have := firstS_whole (low_cp hn)
    rw [h, hd] at this
    cases this
  · rw [foldU_single hb, foldU_enc hk] at h
    have := firstS_whole (low_cp hk)
    rw [← h, hb] at this
    cases this
  · rw [foldU_single hb, foldU_single hd] at h
    injection h with h
    subst h
    exact .inr ⟨b, rfl, rfl, hb⟩
theorem rel_fold {u v : List UInt8} (h : Rel1 u v) : foldU u = foldU v ∧ u.length = v.length := by
  rcases h with ⟨n, k, hn, hk, rfl, rfl, e⟩ | ⟨b, rfl, rfl, _⟩
  · exact ⟨by rw [foldU_enc hn, foldU_enc hk, e], by rw [← low_len n, ← low_len k, e]⟩
  · exact ⟨rfl, rfl⟩
theorem rel_self {u : List UInt8} (h : IsU u) : Rel1 u u := by
  rcases h with ⟨n, hn, rfl⟩ | ⟨b, rfl, hb⟩
  · exact .inl ⟨n, n, hn, hn, rfl, rfl, rfl⟩
  · exact .inr ⟨b, rfl, rfl, hb⟩
def Rel : List (List UInt8) → List (List UInt8) → Prop
  | [], [] => True
  | u :: us, v :: vs => Rel1 u v ∧ Rel us vs
  | _, _ => False
theorem rel_run : ∀ {us vs : List (List UInt8)}, Rel us vs → us.flatten.takeWhile contB = vs.flatten.takeWhile contB
  | [], [], _ => rfl
  | [], _ :: _, h => h.elim
  | _ :: _, [], h => h.elim
  | u :: us, v :: vs, ⟨h, k⟩ => by
    have ih := rel_run k
    rw [List.flatten_cons, List.flatten_cons]
    rcases h with ⟨n, m, hn, hm, rfl, rfl, _⟩ | ⟨b, rfl, rfl, _⟩
    · rw [run_enc hn, run_enc hm]
    · rw [List.singleton_append, List.singleton_append, List.takeWhile_cons, List.takeWhile_cons, ih]
theorem rel_flat : ∀ {us vs : List (List UInt8)}, Rel us vs → us.map foldU = vs.map foldU ∧ us.flatten.length = vs.flatten.length
  | [], [], _ => ⟨rfl, rfl⟩
  | [], _ :: _, h => h.elim
  | _ :: _, [], h => h.elim
  | u :: us, v :: vs, ⟨h, k⟩ => by
    have ih := rel_flat k
    have h1 := rel_fold h
    refine ⟨by rw [List.map_cons, List.map_cons, h1.1, ih.1], ?_⟩
    rw [List.flatten_cons, List.flatten_cons, List.length_append, List.length_append, h1.2, ih.2]
/-- What is the units of a string but for case is units, joined. -/
theorem rel_units (l : List UInt8) : ∀ us, Rel us (unitsL l) → unitsL us.flatten = us := by
  refine utf_all (p := fun l => ∀ us, Rel us (unitsL l) → unitsL us.flatten = us) ?_ ?_ ?_ l
  · intro us h
    cases us with
    | nil => rfl
    | cons u us => exact h.elim
  · intro n t hn ih us h
    rw [units_enc hn] at h
    cases us with
    | nil => exact h.elim
    | cons u us =>
      obtain ⟨h1, h2⟩ := h
      rcases h1 with ⟨k, m, hk, hm, rfl, e, _⟩ | ⟨b, rfl, e, hb⟩
      · rw [List.flatten_cons, units_enc hk, ih us h2]
      · have := firstS_whole hn
        rw [e, hb] at this
        cases this
  · intro b t hf ih us h
    rw [units_none hf] at h
    cases us with
    | nil => exact h.elim
    | cons u us =>
      obtain ⟨h1, h2⟩ := h
      rcases h1 with ⟨k, m, hk, hm, rfl, e, _⟩ | ⟨d, rfl, e, hd⟩
      · have := firstS_whole hm
        rw [← e, first_single hf] at this
        cases this
      · injection e with e
        subst e
        rw [List.flatten_cons, List.singleton_append]
        have hr : us.flatten.takeWhile contB = t.takeWhile contB := by rw [rel_run h2, units_flat]
        have hn : firstS (b :: us.flatten) = none := by rw [first_cont, hr, ← first_cont]; exact hf
        rw [units_none hn, ih us h2]
theorem rel_string (l : List UInt8) (us : List (List UInt8)) (h : Rel us (unitsL l)) : foldL us.flatten = foldL l ∧ us.flatten.length = l.length := by
  have h1 := rel_flat h
  refine ⟨?_, by rw [h1.2, units_flat]⟩
  unfold foldL
  rw [rel_units l us h, h1.1]
/-! ### Patterns and lower case -/
def foldMk : Mk → Mk
  | .lit u => .lit (foldU u)
  | m => m
theorem low_sign : ∀ r : Fin 128, (lowN r.val = 42 ↔ r.val = 42) ∧ (lowN r.val = 63 ↔ r.val = 63) ∧ (lowN r.val = 92 ↔ r.val = 92) := by decide +kernel
theorem foldU_sign {u : List UInt8} (hu : IsU u) (k : Nat) (hk : k < 128) (hl : ∀ r : Nat, r < 128 → (lowN r = k ↔ r = k)) : foldU u = [UInt8.ofNat k] ↔ u = [UInt8.ofNat k] := by
  have ek : encL k = [UInt8.ofNat k] := by unfold encL; rw [if_pos hk]
  have hck : cpB k = true := (cp_iff _).2 (by omega)
  have hlk : lowN k = k := (hl k hk).2 rfl
  rcases hu with ⟨n, hn, rfl⟩ | ⟨b, rfl, hb⟩
  · rw [foldU_enc hn, ← ek]
    constructor
    · intro h
      have e := enc_inj (low_cp hn) hck h
      have hn2 : n < 128 := by
        rcases Nat.lt_or_ge n 2048 with h2 | h2
        · have := (low_small ⟨n, h2⟩).2.2
          simp only at this
          exact this.1 (by omega)
        · rw [low_big h2] at e; omega
      rw [(hl n hn2).1 e]
    · intro h
      rw [enc_inj hn hck h, hlk]
  · rw [foldU_single hb]
theorem foldU_star {u : List UInt8} (hu : IsU u) : foldU u = [42] ↔ u = [42] := foldU_sign hu 42 (by decide) fun r hr => (low_sign ⟨r, hr⟩).1
theorem foldU_one {u : List UInt8} (hu : IsU u) : foldU u = [63] ↔ u = [63] := foldU_sign hu 63 (by decide) fun r hr => (low_sign ⟨r, hr⟩).2.1
theorem foldU_back {u : List UInt8} (hu : IsU u) : foldU u = [92] ↔ u = [92] := foldU_sign hu 92 (by decide) fun r hr => (low_sign ⟨r, hr⟩).2.2
/-- The elements of a pattern in lower case are its elements, in lower case. -/
theorem marks_fold : ∀ (k : Nat) (us : List (List UInt8)), us.length ≤ k → (∀ u ∈ us, IsU u) → marksU (us.map foldU) = (marksU us).map foldMk := by
  intro k
  induction k with
  | zero =>
    intro us hk _
    obtain rfl : us = [] := List.eq_nil_of_length_eq_zero (by omega)
    rfl
  | succ k ih =>
    intro us hk hu
    match us, hk, hu with
    | [], _, _ => rfl
    | [u], _, hu =>
      have h1 := hu u (by simp)
      simp only [List.map_cons, List.map_nil, marksU, foldU_star h1, foldU_one h1]
      by_cases c1 : u = [42]
      · simp [c1, foldMk]
      · by_cases c2 : u = [63]
        · simp [c2, foldMk]
        · simp [c1, c2, foldMk]
    | u :: v :: l, hk, hu =>
      have h1 := hu u (by simp)
      have i1 := ih (v :: l) (by simpa using hk) (fun x hx => hu x (by simp [hx]))
      have i2 := ih l (by simp at hk; omega) (fun x hx => hu x (by simp [hx]))
      simp only [List.map_cons] at i1 ⊢
      simp only [marksU, foldU_star h1, foldU_one h1, foldU_back h1]
      by_cases c1 : u = [42]
      · simp only [if_pos c1, List.map_cons, i1, foldMk]
      · by_cases c2 : u = [63]
        · simp only [if_neg c1, if_pos c2, List.map_cons, i1, foldMk]
        · by_cases c3 : u = [92]
          · simp only [if_neg c1, if_neg c2, if_pos c3, List.map_cons, i2, foldMk]
          · simp only [if_neg c1, if_neg c2, if_neg c3, List.map_cons, i1, foldMk]
/-- The literal elements are units. -/
def MkU : Mk → Prop
  | .lit u => IsU u
  | _ => True
theorem marks_units : ∀ (k : Nat) (us : List (List UInt8)), us.length ≤ k → (∀ u ∈ us, IsU u) → ∀ m ∈ marksU us, MkU m := by
  intro k
  induction k with
  | zero =>
    intro us hk _ m hm
    obtain rfl : us = [] := List.eq_nil_of_length_eq_zero (by omega)
    simp [marksU] at hm
  | succ k ih =>
    intro us hk hu m hm
    match us, hk, hu, hm with
    | [], _, _, hm => simp [marksU] at hm
    | [u], _, hu, hm =>
      simp only [marksU] at hm
      split at hm
      · simp at hm; subst hm; trivial
      · split at hm
        · simp at hm; subst hm; trivial
        · simp at hm; subst hm; exact hu u (by simp)
    | u :: v :: l, hk, hu, hm =>
      have i1 := ih (v :: l) (by simpa using hk) (fun x hx => hu x (by simp [hx]))
      have i2 := ih l (by simp at hk; omega) (fun x hx => hu x (by simp [hx]))
      simp only [marksU] at hm
      split at hm
      · rcases List.mem_cons.1 hm with rfl | hm
        · trivial
        · exact i1 m hm
      · split at hm
        · rcases List.mem_cons.1 hm with rfl | hm
          · trivial
          · exact i1 m hm
        · split at hm
          · rcases List.mem_cons.1 hm with rfl | hm
            · exact hu v (by simp)
            · exact i2 m hm
          · rcases List.mem_cons.1 hm with rfl | hm
            · exact hu u (by simp)
            · exact i1 m hm
theorem rel_append : ∀ {a b : List (List UInt8)} (_ : Rel a b) {c d : List (List UInt8)} (_ : Rel c d), Rel (a ++ c) (b ++ d)
  | [], [], _, _, _, h => h
  | [], _ :: _, h, _, _, _ => h.elim
  | _ :: _, [], h, _, _, _ => h.elim
  | _ :: _, _ :: _, ⟨h1, h2⟩, _, _, h => ⟨h1, rel_append h2 h⟩
theorem rel_refl : ∀ (a : List (List UInt8)), (∀ u ∈ a, IsU u) → Rel a a
  | [], _ => trivial
  | u :: a, h => ⟨rel_self (h u (by simp)), rel_refl a fun v hv => h v (by simp [hv])⟩
/-- Where the pattern matches in lower case, its own literals with the string's own parts between are the string but for case. -/
theorem put_told : ∀ (m : List Mk) (l : List (List UInt8)) (c : List Nat), (∀ x ∈ m, MkU x) → (∀ u ∈ l, IsU u) → globG (m.map foldMk) (l.map foldU) = some c → Rel (putG m (partsG m c l)) l
  | [], l, c, _, _, h => by
    simp only [List.map_nil, globG] at h
    split at h
    · rename_i e
      have : l = [] := List.map_eq_nil_iff.1 e
      subst this
      trivial
    · cases h
  | .lit u :: m, l, c, hm, hl, h => by
    simp only [List.map_cons, foldMk, globG] at h
    match l, hl, h with
    | v :: t, hl, h =>
      simp only [List.map_cons] at h
      split at h
      · rename_i e
        simp only [partsG, putG, List.drop_succ_cons, List.drop_zero]
        exact ⟨rel_of (hm (.lit u) (by simp)) (hl v (by simp)) e, put_told m t c (fun x hx => hm x (by simp [hx])) (fun x hx => hl x (by simp [hx])) h⟩
      · cases h
    | [], _, h => cases h
  | .one :: m, l, c, hm, hl, h => by
    simp only [List.map_cons, foldMk, globG] at h
    match l, hl, h with
    | v :: t, hl, h =>
      simp only [List.map_cons, Option.map_eq_some_iff] at h
      obtain ⟨c', h2, rfl⟩ := h
      simp only [partsG, putG, List.drop_succ_cons, List.drop_zero, List.tail_cons, List.headD_cons, List.take_succ_cons, List.take_zero]
      exact ⟨rel_self (hl v (by simp)), put_told m t c' (fun x hx => hm x (by simp [hx])) (fun x hx => hl x (by simp [hx])) h2⟩
    | [], _, h => cases h
  | .star :: m, l, c, hm, hl, h => by
    simp only [List.map_cons, foldMk, globG] at h
    obtain ⟨k, c', rfl, _, hg, _⟩ := (starG_some (globG (m.map foldMk)) (l.map foldU) c).1 h
    rw [← List.map_drop] at hg
    simp only [partsG, putG, List.tail_cons, List.headD_cons]
    have h1 := rel_refl (l.take k) (fun u hu => hl u (List.mem_of_mem_take hu))
    have h2 := put_told m (l.drop k) c' (fun x hx => hm x (by simp [hx])) (fun x hx => hl x (List.mem_of_mem_drop hx)) hg
    have h3 := rel_append h1 h2
    rw [List.take_append_drop] at h3
    exact h3
/-! ### Keys of ASCII letters in a string -/
def ascL (l : List UInt8) : Prop := ∀ b ∈ l, b.toNat < 128
def sing (b : UInt8) : List UInt8 := [b]
theorem asc_cont {l : List UInt8} (h : ascL l) : l.takeWhile contB = [] := by
  cases l with
  | nil => rfl
  | cons b t =>
    have hb := h b (by simp)
    have : contB b = false := by
      rw [Bool.eq_false_iff]
      intro hc
      have := (cont_iff b).1 hc
      omega
    rw [List.takeWhile_cons, this]; rfl
theorem run_append (t key : List UInt8) (h : ascL key) : (t ++ key).takeWhile contB = t.takeWhile contB := by
  induction t with
  | nil => rw [List.nil_append, asc_cont h]; rfl
  | cons b t ih =>
    rw [List.cons_append, List.takeWhile_cons, List.takeWhile_cons, ih]
theorem first_append {b : UInt8} {t : List UInt8} (h : firstS (b :: t) = none) {key : List UInt8} (hk : ascL key) : firstS (b :: (t ++ key)) = none := by
  rw [first_cont, run_append t key hk, ← first_cont]
  exact h
theorem asc_enc {b : UInt8} (h : b.toNat < 128) : cpB b.toNat = true ∧ encL b.toNat = [b] := by
  refine ⟨(cp_iff _).2 (by omega), ?_⟩
  unfold encL
  rw [if_pos h, byte_of rfl]
theorem units_asc_cons {b : UInt8} (h : b.toNat < 128) (t : List UInt8) : unitsL (b :: t) = [b] :: unitsL t := by
  have h1 := asc_enc h
  have := units_enc h1.1 t
  rw [h1.2] at this
  exact this
theorem units_asc : ∀ (key : List UInt8), ascL key → unitsL key = key.map sing
  | [], _ => rfl
  | b :: t, h => by
    rw [units_asc_cons (h b (by simp)), units_asc t (fun c hc => h c (by simp [hc]))]; rfl
theorem units_append (l key : List UInt8) (hk : ascL key) : unitsL (l ++ key) = unitsL l ++ key.map sing := by
  refine utf_all (p := fun l => unitsL (l ++ key) = unitsL l ++ key.map sing) ?_ ?_ ?_ l
  · rw [List.nil_append, units_asc key hk]; rfl
  · intro n t hn ih
    rw [List.append_assoc, units_enc hn, units_enc hn, ih]; rfl
  · intro b t hf ih
    rw [List.cons_append, units_none (first_append hf hk), units_none hf, ih]; rfl
/-- The bytes behind an encoding's first are no ASCII. -/
theorem enc_rest {n : Nat} (h : cpB n = true) (i : Nat) (hi : 1 ≤ i) (b : UInt8) (hb : (encL n)[i]? = some b) : 128 ≤ b.toNat := by
  have hc := (cp_iff n).1 h
  unfold encL at hb
  split at hb
  · cases i with
    | zero => omega
    | succ i => simp at hb
  · split at hb
    · match i, hi, hb with
      | 1, _, hb => injection (show some _ = some b from hb) with e; rw [← e, nat_byte (by omega)]; omega
      | i + 2, _, hb => simp at hb
    · split at hb
      · match i, hi, hb with
        | 1, _, hb => injection (show some _ = some b from hb) with e; rw [← e, nat_byte (by omega)]; omega
        | 2, _, hb => injection (show some _ = some b from hb) with e; rw [← e, nat_byte (by omega)]; omega
        | i + 3, _, hb => simp at hb
      · match i, hi, hb with
        | 1, _, hb => injection (show some _ = some b from hb) with e; rw [← e, nat_byte (by omega)]; omega
        | 2, _, hb => injection (show some _ = some b from hb) with e; rw [← e, nat_byte (by omega)]; omega
        | 3, _, hb => injection (show some _ = some b from hb) with e; rw [← e, nat_byte (by omega)]; omega
        | i + 4, _, hb => simp at hb
theorem pre_units : ∀ (key l : List UInt8), ascL key → key <+: l → key.map sing <+: unitsL l
  | [], _, _, _ => List.nil_prefix
  | b :: key, l, h, hp => by
    obtain ⟨r, rfl⟩ := hp
    rw [List.cons_append, units_asc_cons (h b (by simp)), List.map_cons]
    have := pre_units key (key ++ r) (fun c hc => h c (by simp [hc])) (List.prefix_append _ _)
    exact (List.cons_prefix_cons).2 ⟨rfl, this⟩
theorem asc_single {b : UInt8} {t : List UInt8} (h : firstS (b :: t) = none) : 128 ≤ b.toNat := by
  rcases Nat.lt_or_ge b.toNat 128 with h1 | h1
  · unfold firstS at h
    simp only at h
    rw [if_pos h1] at h
    cases h
  · exact h1
/-- An ASCII key stands at the border of two units. -/
theorem key_units (b : UInt8) (key : List UInt8) (hk : ascL (b :: key)) (l : List UInt8) : ∀ i, (b :: key) <+: l.drop i → ∃ k, (b :: key).map sing <+: (unitsL l).drop k ∧ ((unitsL l).take k).flatten = l.take i := by
  have hb : b.toNat < 128 := hk b (by simp)
  refine utf_all (p := fun l => ∀ i, (b :: key) <+: l.drop i → ∃ k, (b :: key).map sing <+: (unitsL l).drop k ∧ ((unitsL l).take k).flatten = l.take i) ?_ ?_ ?_ l
  · intro i h
    rw [List.drop_nil] at h
    have := h.length_le
    simp at this
  · intro n t hn ih i h
    cases i with
    | zero => exact ⟨0, pre_units _ _ hk h, rfl⟩
    | succ i =>
      by_cases hi : i + 1 < (encL n).length
      · exfalso
        obtain ⟨r, hr⟩ := h
        have h1 : ((encL n ++ t).drop (i + 1))[0]? = some b := by rw [← hr]; rfl
        rw [List.getElem?_drop, Nat.add_zero, List.getElem?_append_left hi] at h1
        have := enc_rest hn (i + 1) (by omega) b h1
        omega
      · rw [List.drop_append, List.drop_eq_nil_of_le (by omega), List.nil_append] at h
        obtain ⟨k, h1, h2⟩ := ih (i + 1 - (encL n).length) h
        refine ⟨k + 1, by rw [units_enc hn]; exact h1, ?_⟩
        rw [units_enc hn, List.take_succ_cons, List.flatten_cons, h2, List.take_append]
        congr 1
        rw [List.take_of_length_le (by omega)]
  · intro c t hf ih i h
    cases i with
    | zero =>
      exfalso
      rw [List.drop_zero] at h
      have := (List.cons_prefix_cons.1 h).1
      have h2 := asc_single hf
      rw [← this] at h2
      omega
    | succ i =>
      rw [List.drop_succ_cons] at h
      obtain ⟨k, h1, h2⟩ := ih i h
      refine ⟨k + 1, by rw [units_none hf]; exact h1, ?_⟩
      rw [units_none hf, List.take_succ_cons, List.flatten_cons, h2]; rfl
/-- .. and what begins at a unit is part of the string. -/
theorem units_key (key l : List UInt8) (k : Nat) (h : key.map sing <+: (unitsL l).drop k) : key <:+: l := by
  obtain ⟨r, hr⟩ := h
  have e := units_flat l
  rw [← List.take_append_drop k (unitsL l), List.flatten_append, ← hr, List.flatten_append] at e
  have hs : (key.map sing).flatten = key := by
    clear hr e
    induction key with
    | nil => rfl
    | cons b t ih => rw [List.map_cons, List.flatten_cons, ih]; rfl
  rw [hs] at e
  exact ⟨_, _, by rw [List.append_assoc]; exact e⟩
/-- Units at the head of a string are the units of that head. -/
theorem units_take (l : List UInt8) : ∀ k, unitsL ((unitsL l).take k).flatten = (unitsL l).take k := by
  refine utf_all (p := fun l => ∀ k, unitsL ((unitsL l).take k).flatten = (unitsL l).take k) ?_ ?_ ?_ l
  · intro k; rw [units_nil, List.take_nil]; rfl
  · intro n t hn ih k
    cases k with
    | zero => rfl
    | succ k => rw [units_enc hn, List.take_succ_cons, List.flatten_cons, units_enc hn, ih k]
  · intro b t hf ih k
    cases k with
    | zero => rfl
    | succ k =>
      rw [units_none hf, List.take_succ_cons, List.flatten_cons, List.singleton_append]
      have hn : firstS (b :: ((unitsL t).take k).flatten) = none := by
        cases hg : firstS (b :: ((unitsL t).take k).flatten) with
        | none => rfl
        | some n =>
          obtain ⟨hc, r, hr⟩ := first_some' hg
          have h1 := units_flat t
          rw [← List.take_append_drop k (unitsL t), List.flatten_append] at h1
          have h2 : b :: t = encL n ++ (r ++ ((unitsL t).drop k).flatten) := by
            rw [← List.append_assoc, ← hr, List.cons_append, h1]
          have := first_enc hc (r ++ ((unitsL t).drop k).flatten)
          rw [← h2, hf] at this
          cases this
      rw [units_none hn, ih k]
/-- Units from a place on, as a pattern: the key, and any sequence behind it. -/
def litsM (key : List (List UInt8)) : List Mk := key.map .lit
theorem glob_end (l : List (List UInt8)) : globG [.star] l = some [l.length] := by
  simp only [globG]
  refine (starG_some (globG []) l [l.length]).2 ⟨l.length, [], rfl, Nat.le_refl _, by simp [globG], fun j hj => ?_⟩
  simp only [globG]
  rw [if_neg]
  intro e
  have := congrArg List.length e
  rw [List.length_drop, List.length_nil] at this
  omega
theorem glob_lits : ∀ (key l : List (List UInt8)), globG (litsM key ++ [.star]) l = if key.isPrefixOf l then some [l.length - key.length] else none
  | [], l => by
    have := glob_end l
    simp only [litsM, List.map_nil, List.nil_append, List.isPrefixOf_nil_left, if_true, List.length_nil, Nat.sub_zero]
    exact this
  | u :: key, [] => rfl
  | u :: key, v :: l => by
    have ih := glob_lits key l
    simp only [litsM] at ih
    simp only [litsM, List.map_cons, List.cons_append, globG, List.isPrefixOf_cons_cons, ih]
    by_cases e : u = v
    · subst e
      simp
    · rw [if_neg e]
      simp [e]
theorem glob_pieces (key l : List (List UInt8)) (c : List Nat) : globG (.star :: (litsM key ++ [.star])) l = some c ↔ ∃ k, k ≤ l.length ∧ c = [k, l.length - k - key.length] ∧ key <+: l.drop k ∧ ∀ j, j < k → ¬ key <+: l.drop j := by
  have hg : ∀ j, globG (litsM key ++ [.star]) (l.drop j) = none ↔ ¬ key <+: l.drop j := by
    intro j
    rw [glob_lits]
    by_cases h : key.isPrefixOf (l.drop j) = true
    · rw [if_pos h]
      constructor
      · intro e; cases e
      · intro e; exact absurd (List.isPrefixOf_iff_prefix.1 h) e
    · rw [if_neg h]
      exact ⟨fun _ e => h (List.isPrefixOf_iff_prefix.2 e), fun _ => rfl⟩
  simp only [globG]
  rw [starG_some]
  constructor
  · rintro ⟨k, c', rfl, hk, h, hmin⟩
    have hp : key <+: l.drop k := by
      rcases Decidable.em (key <+: l.drop k) with hp | hp
      · exact hp
      · rw [(hg k).2 hp] at h; cases h
    refine ⟨k, hk, ?_, hp, fun j hj => (hg j).1 (hmin j hj)⟩
    rw [glob_lits, if_pos (List.isPrefixOf_iff_prefix.2 hp)] at h
    injection h with h
    rw [← h, List.length_drop]
  · rintro ⟨k, hk, rfl, hp, hmin⟩
    refine ⟨k, _, rfl, hk, ?_, fun j hj => (hg j).2 (hmin j hj)⟩
    rw [glob_lits, if_pos (List.isPrefixOf_iff_prefix.2 hp), List.length_drop]
theorem low_asc : ∀ r : Fin 128, lowN r.val < 128 := by decide +kernel
theorem foldU_asc {b : UInt8} (h : b.toNat < 128) : foldU [b] = [UInt8.ofNat (lowN b.toNat)] ∧ (UInt8.ofNat (lowN b.toNat)).toNat < 128 := by
  have h1 := asc_enc h
  have h2 := low_asc ⟨b.toNat, h⟩
  simp only at h2
  have h3 : foldU (encL b.toNat) = encL (lowN b.toNat) := foldU_enc h1.1
  rw [h1.2] at h3
  refine ⟨?_, by rw [nat_byte (by omega)]; exact h2⟩
  rw [h3]
  unfold encL
  rw [if_pos h2]
/-- ASCII letters behind a string fold by themselves. -/
theorem fold_append (l key : List UInt8) (hk : ascL key) : foldL (l ++ key) = foldL l ++ foldL key := by
  unfold foldL
  rw [units_append l key hk, units_asc key hk, List.map_append, List.flatten_append]
theorem fold_asc : ∀ (key : List UInt8), ascL key → foldL key = (key.map fun b => UInt8.ofNat (lowN b.toNat)) ∧ ascL (foldL key)
  | [], _ => ⟨rfl, fun b hb => by rw [fold_nil] at hb; cases hb⟩
  | b :: t, h => by
    have hb := h b (by simp)
    have ih := fold_asc t (fun c hc => h c (by simp [hc]))
    have e : foldL (b :: t) = UInt8.ofNat (lowN b.toNat) :: foldL t := by
      unfold foldL
      rw [units_asc_cons hb, List.map_cons, List.flatten_cons, (foldU_asc hb).1]; rfl
    rw [e]
    refine ⟨by rw [ih.1]; rfl, fun c hc => ?_⟩
    rcases List.mem_cons.1 hc with rfl | hc
    · exact (foldU_asc hb).2
    · exact ih.2 c hc
/-! ### Does a pattern match? -/
def canG (m : List Mk) (l : List (List UInt8)) : Bool := (globG m l).isSome
theorem can_nil (l : List (List UInt8)) : canG [] l = decide (l = []) := by
  unfold canG
  simp only [globG]
  by_cases h : l = []
  · simp [h]
  · simp [h]
theorem can_lit_nil (u : List UInt8) (m : List Mk) : canG (.lit u :: m) [] = false := rfl
theorem can_one_nil (m : List Mk) : canG (.one :: m) [] = false := rfl
theorem can_lit (u : List UInt8) (m : List Mk) (v : List UInt8) (t : List (List UInt8)) : canG (.lit u :: m) (v :: t) = (canG m t && decide (u = v)) := by
  unfold canG
  simp only [globG]
  by_cases h : u = v
  · simp [h]
  · simp [h]
theorem can_one (m : List Mk) (v : List UInt8) (t : List (List UInt8)) : canG (.one :: m) (v :: t) = canG m t := by
  unfold canG
  simp only [globG, Option.isSome_map]
theorem can_star (m : List Mk) (l : List (List UInt8)) : canG (.star :: m) l = true ↔ ∃ j, j ≤ l.length ∧ canG m (l.drop j) = true := by
  unfold canG
  constructor
  · intro h
    obtain ⟨c, hc⟩ := Option.isSome_iff_exists.1 h
    simp only [globG] at hc
    obtain ⟨k, c', _, hk, hg, _⟩ := (starG_some (globG m) l c).1 hc
    exact ⟨k, hk, by rw [hg]; rfl⟩
  · rintro ⟨j, hj, h⟩
    cases hs : globG (.star :: m) l with
    | some c => rfl
    | none =>
      simp only [globG] at hs
      rw [(starG_none (globG m) l).1 hs j hj] at h
      cases h
theorem can_star_nil (m : List Mk) : canG (.star :: m) [] = canG m [] := by
  rw [Bool.eq_iff_iff, can_star]
  constructor
  · rintro ⟨j, hj, h⟩
    have : j = 0 := by simpa using hj
    subst this
    exact h
  · intro h; exact ⟨0, Nat.le_refl _, h⟩
theorem can_star_cons (m : List Mk) (v : List UInt8) (t : List (List UInt8)) : canG (.star :: m) (v :: t) = (canG m (v :: t) || canG (.star :: m) t) := by
  rw [Bool.eq_iff_iff, Bool.or_eq_true, can_star, can_star]
  constructor
  · rintro ⟨j, hj, h⟩
    cases j with
    | zero => exact .inl h
    | succ j => exact .inr ⟨j, by simpa using hj, h⟩
  · rintro (h | ⟨j, hj, h⟩)
    · exact ⟨0, Nat.zero_le _, h⟩
    · exact ⟨j + 1, by simpa using hj, h⟩
/-- How many units the first sequence takes: the first place from which the rest matches. -/
theorem star_count {m : List Mk} {l : List (List UInt8)} {c : List Nat} (h : globG (.star :: m) l = some c) : ∃ k c', c = k :: c' ∧ k ≤ l.length ∧ globG m (l.drop k) = some c' ∧ canG m (l.drop k) = true ∧ ∀ j, j < k → canG m (l.drop j) = false := by
  simp only [globG] at h
  obtain ⟨k, c', e, hk, hg, hmin⟩ := (starG_some (globG m) l c).1 h
  refine ⟨k, c', e, hk, hg, by unfold canG; rw [hg]; rfl, fun j hj => by unfold canG; rw [hmin j hj]; rfl⟩
end Go.Proofs.YtbplbifmohbfdaaDoor
