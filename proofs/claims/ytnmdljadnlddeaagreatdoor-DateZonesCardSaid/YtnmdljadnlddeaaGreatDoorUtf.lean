/- UTF-8 on lists of bytes: decoding from left to right, and what holds of it; of no program. -/
import GoSem.Claim
import Derived.KernelRfl
namespace Go.Proofs.YtnmdljadnlddeaaGreatDoor

/-- Is n a code point? -/
def cpB (n : Nat) : Bool := decide (n < 55296) || (decide (57344 ≤ n) && decide (n ≤ 1114111))
theorem cp_iff (n : Nat) : cpB n = true ↔ n < 55296 ∨ (57344 ≤ n ∧ n ≤ 1114111) := by simp [cpB]
/-- Its encoding. -/
def encL (n : Nat) : List UInt8 :=
  if n < 128 then [UInt8.ofNat n]
  else if n < 2048 then [UInt8.ofNat (192 + n / 64), UInt8.ofNat (128 + n % 64)]
  else if n < 65536 then [UInt8.ofNat (224 + n / 4096), UInt8.ofNat (128 + n / 64 % 64), UInt8.ofNat (128 + n % 64)]
  else [UInt8.ofNat (240 + n / 262144), UInt8.ofNat (128 + n / 4096 % 64), UInt8.ofNat (128 + n / 64 % 64), UInt8.ofNat (128 + n % 64)]
/-- Does a byte continue an encoding? -/
def contB (b : UInt8) : Bool := decide (128 ≤ b.toNat) && decide (b.toNat < 192)
/-- The code point with whose encoding the bytes begin. -/
def firstS : List UInt8 → Option Nat
  | [] => none
  | b0 :: r =>
    if b0.toNat < 128 then some b0.toNat
    else if b0.toNat < 192 then none
    else if b0.toNat < 224 then match r with
      | b1 :: _ => if contB b1 && decide (128 ≤ (b0.toNat - 192) * 64 + (b1.toNat - 128)) then some ((b0.toNat - 192) * 64 + (b1.toNat - 128)) else none
      | [] => none
    else if b0.toNat < 240 then match r with
      | b1 :: b2 :: _ => if contB b1 && contB b2 && decide (2048 ≤ (b0.toNat - 224) * 4096 + (b1.toNat - 128) * 64 + (b2.toNat - 128)) && cpB ((b0.toNat - 224) * 4096 + (b1.toNat - 128) * 64 + (b2.toNat - 128)) then some ((b0.toNat - 224) * 4096 + (b1.toNat - 128) * 64 + (b2.toNat - 128)) else none
      | _ => none
    else if b0.toNat < 248 then match r with
      | b1 :: b2 :: b3 :: _ => if contB b1 && contB b2 && contB b3 && decide (65536 ≤ (b0.toNat - 240) * 262144 + (b1.toNat - 128) * 4096 + (b2.toNat - 128) * 64 + (b3.toNat - 128)) && cpB ((b0.toNat - 240) * 262144 + (b1.toNat - 128) * 4096 + (b2.toNat - 128) * 64 + (b3.toNat - 128)) then some ((b0.toNat - 240) * 262144 + (b1.toNat - 128) * 4096 + (b2.toNat - 128) * 64 + (b3.toNat - 128)) else none
      | _ => none
    else none

theorem byte_of {b : UInt8} {n : Nat} (h : n = b.toNat) : UInt8.ofNat n = b := by rw [h]; simp
theorem cont_iff (b : UInt8) : contB b = true ↔ 128 ≤ b.toNat ∧ b.toNat < 192 := by simp [contB]
/-- What is found is a code point, and the bytes begin with its encoding. -/
theorem first_some' {l : List UInt8} {n : Nat} (h : firstS l = some n) : cpB n = true ∧ ∃ t, l = encL n ++ t := by
  cases l with
  | nil => simp [firstS] at h
  | cons b0 r =>
    have h0 := b0.toNat_lt
    unfold firstS at h
    simp only at h
    by_cases c1 : b0.toNat < 128
    · rw [if_pos c1] at h
      injection h with h
      subst h
      refine ⟨(cp_iff _).2 (by omega), r, ?_⟩
      rw [encL, if_pos c1, byte_of rfl]; rfl
    · rw [if_neg c1] at h
      by_cases c2 : b0.toNat < 192
      · rw [if_pos c2] at h; cases h
      · rw [if_neg c2] at h
        by_cases c3 : b0.toNat < 224
        · rw [if_pos c3] at h
          cases r with
          | nil => cases h
          | cons b1 r =>
            have h1 := b1.toNat_lt
            simp only at h
            split at h
            · rename_i hc
              injection h with h
              simp only [Bool.and_eq_true, cont_iff, decide_eq_true_eq] at hc
              subst h
              refine ⟨(cp_iff _).2 (by omega), r, ?_⟩
              rw [encL, if_neg (by omega), if_pos (by omega), byte_of (b := b0) (by omega), byte_of (b := b1) (by omega)]; rfl
            · cases h
        · rw [if_neg c3] at h
          by_cases c4 : b0.toNat < 240
          · rw [if_pos c4] at h
            match r, h with
            | [], h => cases h
            | [_], h => cases h
            | b1 :: b2 :: r, h =>
              have h1 := b1.toNat_lt
              have h2 := b2.toNat_lt
              simp only at h
              split at h
              · rename_i hc
                injection h with h
                simp only [Bool.and_eq_true, cont_iff, decide_eq_true_eq] at hc
                obtain ⟨⟨⟨hc1, hc2⟩, hc3⟩, hc4⟩ := hc
                subst h
                refine ⟨hc4, r, ?_⟩
                rw [encL, if_neg (by omega), if_neg (by omega), if_pos (by omega), byte_of (b := b0) (by omega), byte_of (b := b1) (by omega), byte_of (b := b2) (by omega)]; rfl
              · cases h
          · rw [if_neg c4] at h
            by_cases c5 : b0.toNat < 248
            · rw [if_pos c5] at h
              match r, h with
              | [], h => cases h
              | [_], h => cases h
              | [_, _], h => cases h
              | b1 :: b2 :: b3 :: r, h =>
                have h1 := b1.toNat_lt
                have h2 := b2.toNat_lt
                have h3 := b3.toNat_lt
                simp only at h
                split at h
                · rename_i hc
                  injection h with h
                  simp only [Bool.and_eq_true, cont_iff, decide_eq_true_eq] at hc
                  obtain ⟨⟨⟨⟨hc1, hc2⟩, hc3⟩, hc4⟩, hc5⟩ := hc
                  subst h
                  refine ⟨hc5, r, ?_⟩
                  rw [encL, if_neg (by omega), if_neg (by omega), if_neg (by omega), byte_of (b := b0) (by omega), byte_of (b := b1) (by omega), byte_of (b := b2) (by omega), byte_of (b := b3) (by omega)]; rfl
                · cases h
            · rw [if_neg c5] at h; cases h
theorem nat_byte {n : Nat} (h : n < 256) : (UInt8.ofNat n).toNat = n := by rw [UInt8.toNat_ofNat']; omega
/-- A code point's encoding is found, whatever follows. -/
theorem first_enc {n : Nat} (h : cpB n = true) (t : List UInt8) : firstS (encL n ++ t) = some n := by
  have hc := (cp_iff n).1 h
  unfold encL
  by_cases c1 : n < 128
  · rw [if_pos c1, List.singleton_append]
    unfold firstS
    simp only
    rw [nat_byte (by omega), if_pos c1]
  · rw [if_neg c1]
    by_cases c2 : n < 2048
    · rw [if_pos c2]
      simp only [List.cons_append, List.nil_append]
      unfold firstS
      simp only
      rw [nat_byte (by omega), if_neg (by omega), if_neg (by omega), if_pos (by omega)]
      have e : (192 + n / 64 - 192) * 64 + ((UInt8.ofNat (128 + n % 64)).toNat - 128) = n := by rw [nat_byte (by omega)]; omega
      rw [e, if_pos]
      simp only [Bool.and_eq_true, cont_iff, decide_eq_true_eq]
      rw [nat_byte (by omega)]; omega
    · rw [if_neg c2]
      by_cases c3 : n < 65536
      · rw [if_pos c3]
        simp only [List.cons_append, List.nil_append]
        unfold firstS
        simp only
        rw [nat_byte (show 224 + n / 4096 < 256 by omega), if_neg (by omega), if_neg (by omega), if_neg (by omega), if_pos (by omega)]
        have e : (224 + n / 4096 - 224) * 4096 + ((UInt8.ofNat (128 + n / 64 % 64)).toNat - 128) * 64 + ((UInt8.ofNat (128 + n % 64)).toNat - 128) = n := by
          rw [nat_byte (by omega), nat_byte (by omega)]; omega
        rw [e, if_pos]
        simp only [Bool.and_eq_true, cont_iff, decide_eq_true_eq, h, and_true]
        rw [nat_byte (by omega), nat_byte (by omega)]; omega
      · rw [if_neg c3]
        simp only [List.cons_append, List.nil_append]
        unfold firstS
        simp only
        rw [nat_byte (show 240 + n / 262144 < 256 by omega), if_neg (by omega), if_neg (by omega), if_neg (by omega), if_neg (by omega), if_pos (by omega)]
        have e : (240 + n / 262144 - 240) * 262144 + ((UInt8.ofNat (128 + n / 4096 % 64)).toNat - 128) * 4096 + ((UInt8.ofNat (128 + n / 64 % 64)).toNat - 128) * 64 + ((UInt8.ofNat (128 + n % 64)).toNat - 128) = n := by
          rw [nat_byte (by omega), nat_byte (by omega), nat_byte (by omega)]; omega
        rw [e, if_pos]
        simp only [Bool.and_eq_true, cont_iff, decide_eq_true_eq, h, and_true]
        rw [nat_byte (by omega), nat_byte (by omega), nat_byte (by omega)]; omega
theorem enc_len (n : Nat) : 1 ≤ (encL n).length ∧ (encL n).length ≤ 4 := by
  unfold encL
  (repeat' split) <;> simp
theorem enc_ne (n : Nat) : encL n ≠ [] := fun h => by
  have := (enc_len n).1
  rw [h] at this
  simp at this

/-- Decoding from left to right, with fuel. -/
def runesF : Nat → List UInt8 → List Nat
  | 0, _ => []
  | _ + 1, [] => []
  | f + 1, b :: t => match firstS (b :: t) with
    | some n => n :: runesF f ((b :: t).drop (encL n).length)
    | none => 65533 :: runesF f t
def validF : Nat → List UInt8 → Bool
  | 0, _ => true
  | _ + 1, [] => true
  | f + 1, b :: t => match firstS (b :: t) with
    | some n => validF f ((b :: t).drop (encL n).length)
    | none => false
theorem runesF_more : ∀ (f : Nat) (l : List UInt8), l.length ≤ f → runesF f l = runesF l.length l := by
  intro f
  induction f using Nat.strongRecOn with
  | ind f ih =>
    intro l hl
    cases l with
    | nil => cases f <;> rfl
    | cons b t =>
      cases f with
      | zero => simp at hl
      | succ f =>
        simp only [List.length_cons, runesF]
        have hl2 : t.length ≤ f := by simpa using hl
        cases hf : firstS (b :: t) with
        | none => simp only; rw [ih f (by omega) t hl2]
        | some n =>
          simp only
          have hd : ((b :: t).drop (encL n).length).length ≤ t.length := by
            have := (enc_len n).1
            rw [List.length_drop, List.length_cons]; omega
          rw [ih f (by omega) _ (by omega)]
          by_cases e : t.length < f + 1
          · rw [ih t.length e _ hd]
          · omega
theorem validF_more : ∀ (f : Nat) (l : List UInt8), l.length ≤ f → validF f l = validF l.length l := by
  intro f
  induction f using Nat.strongRecOn with
  | ind f ih =>
    intro l hl
    cases l with
    | nil => cases f <;> rfl
    | cons b t =>
      cases f with
      | zero => simp at hl
      | succ f =>
        simp only [List.length_cons, validF]
        have hl2 : t.length ≤ f := by simpa using hl
        cases hf : firstS (b :: t) with
        | none => rfl
        | some n =>
          simp only
          have hd : ((b :: t).drop (encL n).length).length ≤ t.length := by
            have := (enc_len n).1
            rw [List.length_drop, List.length_cons]; omega
          rw [ih f (by omega) _ (by omega)]
          by_cases e : t.length < f + 1
          · rw [ih t.length e _ hd]
          · omega
def runesL (l : List UInt8) : List Nat := runesF l.length l
def validL (l : List UInt8) : Bool := validF l.length l
def repairL (l : List UInt8) : List UInt8 := (runesL l).flatMap encL
theorem runes_nil : runesL [] = [] := rfl
theorem valid_nil : validL [] = true := rfl
theorem runes_enc {n : Nat} (h : cpB n = true) (t : List UInt8) : runesL (encL n ++ t) = n :: runesL t := by
  unfold runesL
  have hf := first_enc h t
  cases e : encL n ++ t with
  | nil => exact absurd (List.append_eq_nil_iff.1 e).1 (enc_ne n)
  | cons b r =>
    rw [e] at hf
    simp only [List.length_cons, runesF, hf]
    rw [← e, List.drop_left]
    congr 1
    refine runesF_more _ _ ?_
    have := congrArg List.length e
    have h1 := (enc_len n).1
    rw [List.length_append, List.length_cons] at this
    omega
theorem runes_none {b : UInt8} {t : List UInt8} (h : firstS (b :: t) = none) : runesL (b :: t) = 65533 :: runesL t := by
  unfold runesL
  simp only [List.length_cons, runesF, h]
theorem valid_enc {n : Nat} (h : cpB n = true) (t : List UInt8) : validL (encL n ++ t) = validL t := by
  unfold validL
  have hf := first_enc h t
  cases e : encL n ++ t with
  | nil => exact absurd (List.append_eq_nil_iff.1 e).1 (enc_ne n)
  | cons b r =>
    rw [e] at hf
    simp only [List.length_cons, validF, hf]
    rw [← e, List.drop_left]
    refine validF_more _ _ ?_
    have := congrArg List.length e
    have h1 := (enc_len n).1
    rw [List.length_append, List.length_cons] at this
    omega
theorem valid_none {b : UInt8} {t : List UInt8} (h : firstS (b :: t) = none) : validL (b :: t) = false := by
  unfold validL
  simp only [List.length_cons, validF, h]
/-- Induction along the decoding. -/
theorem utf_ind {p : List UInt8 → Prop} (h0 : p []) (h1 : ∀ n t, cpB n = true → p t → p (encL n ++ t)) (h2 : ∀ b t, firstS (b :: t) = none → p t → p (b :: t)) : ∀ (k : Nat) (l : List UInt8), l.length ≤ k → p l := by
  intro k
  induction k with
  | zero =>
    intro l hl
    obtain rfl : l = [] := List.eq_nil_of_length_eq_zero (by omega)
    exact h0
  | succ k ih =>
    intro l hl
    cases l with
    | nil => exact h0
    | cons b t =>
      cases hf : firstS (b :: t) with
      | none => exact h2 b t hf (ih t (by simpa using hl))
      | some n =>
        obtain ⟨hc, r, hr⟩ := first_some' hf
        rw [hr]
        refine h1 n r hc (ih r ?_)
        have h3 := congrArg List.length hr
        have h4 := (enc_len n).1
        rw [List.length_append] at h3
        omega
theorem utf_all {p : List UInt8 → Prop} (h0 : p []) (h1 : ∀ n t, cpB n = true → p t → p (encL n ++ t)) (h2 : ∀ b t, firstS (b :: t) = none → p t → p (b :: t)) (l : List UInt8) : p l := utf_ind h0 h1 h2 l.length l (Nat.le_refl _)

theorem cp_bad : cpB 65533 = true := by decide
theorem runes_cp (l : List UInt8) : ∀ n ∈ runesL l, cpB n = true := by
  refine utf_all (p := fun l => ∀ n ∈ runesL l, cpB n = true) (by intro n h; simp [runes_nil] at h) ?_ ?_ l
  · intro m t hm ih n hn
    rw [runes_enc hm] at hn
    rcases List.mem_cons.1 hn with rfl | hn
    · exact hm
    · exact ih n hn
  · intro b t hf ih n hn
    rw [runes_none hf] at hn
    rcases List.mem_cons.1 hn with rfl | hn
    · exact cp_bad
    · exact ih n hn
/-- Encodings, joined, are read as what they encode, whatever follows. -/
theorem runes_flat : ∀ (ns : List Nat), (∀ n ∈ ns, cpB n = true) → ∀ t, runesL (ns.flatMap encL ++ t) = ns ++ runesL t
  | [], _, t => by simp
  | n :: ns, h, t => by
    rw [List.flatMap_cons, List.append_assoc, runes_enc (h n (by simp)), runes_flat ns (fun m hm => h m (by simp [hm]))]; rfl
theorem valid_flat : ∀ (ns : List Nat), (∀ n ∈ ns, cpB n = true) → ∀ t, validL (ns.flatMap encL ++ t) = validL t
  | [], _, t => by simp
  | n :: ns, h, t => by
    rw [List.flatMap_cons, List.append_assoc, valid_enc (h n (by simp)), valid_flat ns (fun m hm => h m (by simp [hm]))]
/-- What is repaired is read as before, also with more behind it. -/
theorem runes_repair (l t : List UInt8) : runesL (repairL l ++ t) = runesL l ++ runesL t := runes_flat _ (runes_cp l) t
theorem valid_repair (l t : List UInt8) : validL (repairL l ++ t) = validL t := valid_flat _ (runes_cp l) t
theorem runes_repair' (l : List UInt8) : runesL (repairL l) = runesL l := by
  have := runes_repair l []
  rw [List.append_nil, runes_nil, List.append_nil] at this
  exact this
theorem valid_repair' (l : List UInt8) : validL (repairL l) = true := by
  have := valid_repair l []
  rw [List.append_nil] at this
  exact this
theorem repair_repair (l t : List UInt8) : repairL (repairL l ++ t) = repairL l ++ repairL t := by
  unfold repairL
  rw [show runesL ((runesL l).flatMap encL ++ t) = runesL l ++ runesL t from runes_repair l t, List.flatMap_append]
theorem repair_fixed (l : List UInt8) : repairL (repairL l) = repairL l := by
  unfold repairL
  rw [show runesL ((runesL l).flatMap encL) = runesL l from runes_repair' l]
theorem repair_valid (l : List UInt8) : validL l = true → repairL l = l := by
  refine utf_all (p := fun l => validL l = true → repairL l = l) (fun _ => rfl) ?_ ?_ l
  · intro n t hn ih h
    rw [valid_enc hn] at h
    unfold repairL at ih ⊢
    rw [runes_enc hn, List.flatMap_cons, ih h]
  · intro b t hf _ h
    rw [valid_none hf] at h
    cases h
/-- A string is as its repair just if it is valid. -/
theorem repair_same (l : List UInt8) : repairL l = l ↔ validL l = true :=
  ⟨fun h => by rw [← h]; exact valid_repair' l, repair_valid l⟩
theorem runes_len (l : List UInt8) : (runesL l).length ≤ l.length ∧ l.length ≤ 4 * (runesL l).length := by
  refine utf_all (p := fun l => (runesL l).length ≤ l.length ∧ l.length ≤ 4 * (runesL l).length) (by simp [runes_nil]) ?_ ?_ l
  · intro n t hn ih
    have := enc_len n
    rw [runes_enc hn, List.length_append, List.length_cons]; omega
  · intro b t hf ih
    rw [runes_none hf, List.length_cons, List.length_cons]; omega
theorem enc_bad_len : (encL 65533).length = 3 := by decide
theorem repair_len (l : List UInt8) : (repairL l).length ≤ 3 * l.length := by
  refine utf_all (p := fun l => (repairL l).length ≤ 3 * l.length) (by simp [repairL, runes_nil]) ?_ ?_ l
  · intro n t hn ih
    unfold repairL at ih ⊢
    rw [runes_enc hn, List.flatMap_cons, List.length_append, List.length_append]
    omega
  · intro b t hf ih
    unfold repairL at ih ⊢
    rw [runes_none hf, List.flatMap_cons, List.length_append, enc_bad_len, List.length_cons]
    omega
/-- Each prefix of whole code points of a valid string is the string's, and valid. -/
theorem valid_prefix (l : List UInt8) (h : validL l = true) (k : Nat) : ((runesL l).take k).flatMap encL <+: l ∧ validL (((runesL l).take k).flatMap encL) = true := by
  refine ⟨?_, ?_⟩
  · have e := repair_valid l h
    unfold repairL at e
    conv => rhs; rw [← e]
    conv => rhs; rw [← List.take_append_drop k (runesL l), List.flatMap_append]
    exact List.prefix_append _ _
  · have := valid_flat ((runesL l).take k) (fun n hn => runes_cp l n (List.mem_of_mem_take hn)) []
    rw [List.append_nil] at this
    exact this
/-- One code point a byte: nothing is joined where each piece is an encoding. -/
theorem valid_all (ns : List Nat) (h : ∀ n ∈ ns, cpB n = true) : validL (ns.flatMap encL) = true ∧ runesL (ns.flatMap encL) = ns := by
  have h1 := valid_flat ns h []
  have h2 := runes_flat ns h []
  rw [List.append_nil] at h1 h2
  rw [runes_nil, List.append_nil] at h2
  exact ⟨h1, h2⟩
end Go.Proofs.YtnmdljadnlddeaaGreatDoor
