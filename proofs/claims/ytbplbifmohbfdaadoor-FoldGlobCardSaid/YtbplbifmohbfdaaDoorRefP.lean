/- How the reference measures a unit; of no program. -/
import Derived.Test.YtbplbifmohbfdaaDoorFoldPure
namespace Go.Proofs.YtbplbifmohbfdaaDoor

def valR : Nat → List UInt8 → Nat
  | r, [] => r
  | r, b :: t => valR (r * 64 + b.toNat % 64) t
def leadR (b n : Nat) : Nat := if n = 2 then b % 32 else if n = 3 then b % 16 else b % 8
/-- The code point of a unit; of a single byte the byte. -/
def runeR : List UInt8 → Nat
  | [] => 0
  | [b] => b.toNat
  | b :: c :: t => valR (leadR b.toNat (t.length + 2)) (c :: t)
def nOf (b : Nat) : Nat := if 194 ≤ b ∧ b ≤ 223 then 2 else if 224 ≤ b ∧ b ≤ 239 then 3 else if 240 ≤ b ∧ b ≤ 244 then 4 else 1
def lowOf (n : Nat) : Nat := if n = 2 then 128 else if n = 3 then 2048 else 65536
def badR (n r : Nat) : Prop := r < lowOf n ∨ 1114111 < r ∨ (55296 ≤ r ∧ r ≤ 57343)
instance (n r : Nat) : Decidable (badR n r) := by unfold badR; infer_instance
/-- The reference's way. -/
def lenN (n : Nat) (l : List UInt8) : Nat :=
  if n = 1 ∨ l.length < n then 1
  else if ((l.take n).drop 1).all contB = false then 1
  else if badR n (runeR (l.take n)) then 1
  else n
def lenR (l : List UInt8) : Nat := lenN (nOf (l.headD 0).toNat) l
def lenS (l : List UInt8) : Nat := match firstS l with
  | some n => (encL n).length
  | none => 1
theorem enc1 {n : Nat} (h : n < 128) : (encL n).length = 1 := by unfold encL; rw [if_pos h]; rfl
theorem enc2 {n : Nat} (h : 128 ≤ n) (h2 : n < 2048) : (encL n).length = 2 := by unfold encL; rw [if_neg (by omega), if_pos h2]; rfl
theorem enc3 {n : Nat} (h : 2048 ≤ n) (h2 : n < 65536) : (encL n).length = 3 := by unfold encL; rw [if_neg (by omega), if_neg (by omega), if_pos h2]; rfl
theorem enc4 {n : Nat} (h : 65536 ≤ n) : (encL n).length = 4 := by unfold encL; rw [if_neg (by omega), if_neg (by omega), if_neg (by omega)]; rfl
theorem lenR_is (b0 : UInt8) (r : List UInt8) : lenR (b0 :: r) = lenS (b0 :: r) := by
  have h0 := b0.toNat_lt
  unfold lenS
  show lenN (nOf b0.toNat) (b0 :: r) = _
  by_cases c1 : b0.toNat < 194
  · have e : nOf b0.toNat = 1 := by unfold nOf; rw [if_neg (by omega), if_neg (by omega), if_neg (by omega)]
    rw [e]
    unfold lenN
    rw [if_pos (.inl rfl)]
    unfold firstS
    simp only
    by_cases c2 : b0.toNat < 128
    · rw [if_pos c2]
      exact (enc1 c2).symm
    · rw [if_neg c2]
      by_cases c3 : b0.toNat < 192
      · rw [if_pos c3]
      · rw [if_neg c3, if_pos (by omega)]
        cases r with
        | nil => rfl
        | cons b1 r =>
          have h1 := b1.toNat_lt
          simp only
          rw [if_neg]
          simp only [Bool.and_eq_true, cont_iff, decide_eq_true_eq]
          omega
  · by_cases c2 : b0.toNat < 224
    · have e : nOf b0.toNat = 2 := by unfold nOf; rw [if_pos (by omega)]
      rw [e]
      unfold firstS
      simp only
      rw [if_neg (by omega), if_neg (by omega), if_pos c2]
      cases r with
      | nil => rfl
      | cons b1 r =>
        have h1 := b1.toNat_lt
        unfold lenN
        rw [if_neg (by simp)]
        simp only [List.take_succ_cons, List.take_zero, List.drop_succ_cons, List.drop_zero, List.all_cons, List.all_nil, Bool.and_true, runeR, valR, leadR, List.length_nil, if_true]
        cases hc : contB b1 with
        | false => simp
        | true =>
          have hc' := (cont_iff b1).1 hc
          have hv : (b0.toNat - 192) * 64 + (b1.toNat - 128) = b0.toNat % 32 * 64 + b1.toNat % 64 := by omega
          rw [hv]
          rw [if_neg (by simp), if_neg (by unfold badR lowOf; rw [if_pos rfl]; omega), if_pos (by simp only [Bool.true_and, decide_eq_true_eq]; omega)]
          exact (enc2 (by omega) (by omega)).symm
    · by_cases c3 : b0.toNat < 240
      · have e : nOf b0.toNat = 3 := by unfold nOf; rw [if_neg (by omega), if_pos (by omega)]
        rw [e]
        unfold firstS
        simp only
        rw [if_neg (by omega), if_neg (by omega), if_neg c2, if_pos c3]
        match r with
        | [] => rfl
        | [_] => rfl
        | b1 :: b2 :: r =>
          have h1 := b1.toNat_lt
          have h2 := b2.toNat_lt
          unfold lenN
          rw [if_neg (by simp)]
          simp only [List.take_succ_cons, List.take_zero, List.drop_succ_cons, List.drop_zero, List.all_cons, List.all_nil, Bool.and_true, runeR, valR, leadR, List.length_nil, List.length_cons]
          rw [if_neg (show ¬ (0 + 1 + 2 = 2) by decide), if_pos trivial]
          cases hc : contB b1 with
          | false => simp
          | true =>
            cases hd : contB b2 with
            | false => simp
            | true =>
              have hc' := (cont_iff b1).1 hc
              have hd' := (cont_iff b2).1 hd
              have hv : (b0.toNat - 224) * 4096 + (b1.toNat - 128) * 64 + (b2.toNat - 128) = (b0.toNat % 16 * 64 + b1.toNat % 64) * 64 + b2.toNat % 64 := by omega
              rw [hv]
              generalize hx : (b0.toNat % 16 * 64 + b1.toNat % 64) * 64 + b2.toNat % 64 = x
              have hx2 : x < 65536 := by omega
              rw [if_neg (by simp)]
              by_cases hb : badR 3 x
              · rw [if_pos hb]
                have hb' : x < 2048 ∨ 1114111 < x ∨ (55296 ≤ x ∧ x ≤ 57343) := hb
                rw [if_neg]
                simp only [Bool.true_and, Bool.and_eq_true, decide_eq_true_eq, cp_iff]
                omega
              · rw [if_neg hb]
                have hb' : ¬ (x < 2048 ∨ 1114111 < x ∨ (55296 ≤ x ∧ x ≤ 57343)) := hb
                rw [if_pos (by simp only [Bool.true_and, Bool.and_eq_true, decide_eq_true_eq, cp_iff]; omega)]
                exact (enc3 (by omega) hx2).symm
      · by_cases c4 : b0.toNat < 245
        · have e : nOf b0.toNat = 4 := by unfold nOf; rw [if_neg (by omega), if_neg (by omega), if_pos (by omega)]
          rw [e]
          unfold firstS
          simp only
          rw [if_neg (by omega), if_neg (by omega), if_neg c2, if_neg c3, if_pos (by omega)]
          match r with
          | [] => rfl
          | [_] => rfl
          | [_, _] => rfl
          | b1 :: b2 :: b3 :: r =>
            have h1 := b1.toNat_lt
            have h2 := b2.toNat_lt
            have h3 := b3.toNat_lt
            unfold lenN
            rw [if_neg (by simp)]
            simp only [List.take_succ_cons, List.take_zero, List.drop_succ_cons, List.drop_zero, List.all_cons, List.all_nil, Bool.and_true, runeR, valR, leadR, List.length_nil, List.length_cons]
            rw [if_neg (show ¬ (0 + 1 + 1 + 2 = 2) by decide), if_neg (show ¬ (0 + 1 + 1 + 2 = 3) by decide)]
            cases hc : contB b1 with
            | false => simp
            | true =>
              cases hd : contB b2 with
              | false => simp
              | true =>
                cases hf : contB b3 with
                | false => simp
                | true =>
                  have hc' := (cont_iff b1).1 hc
                  have hd' := (cont_iff b2).1 hd
                  have hf' := (cont_iff b3).1 hf
                  have hv : (b0.toNat - 240) * 262144 + (b1.toNat - 128) * 4096 + (b2.toNat - 128) * 64 + (b3.toNat - 128) = ((b0.toNat % 8 * 64 + b1.toNat % 64) * 64 + b2.toNat % 64) * 64 + b3.toNat % 64 := by omega
                  rw [hv]
                  generalize ((b0.toNat % 8 * 64 + b1.toNat % 64) * 64 + b2.toNat % 64) * 64 + b3.toNat % 64 = x
                  rw [if_neg (by simp)]
                  by_cases hb : badR 4 x
                  · rw [if_pos hb]
                    have hb' : x < 65536 ∨ 1114111 < x ∨ (55296 ≤ x ∧ x ≤ 57343) := hb
                    rw [if_neg]
                    simp only [Bool.true_and, Bool.and_eq_true, decide_eq_true_eq, cp_iff]
                    omega
                  · rw [if_neg hb]
                    have hb' : ¬ (x < 65536 ∨ 1114111 < x ∨ (55296 ≤ x ∧ x ≤ 57343)) := hb
                    rw [if_pos (by simp only [Bool.true_and, Bool.and_eq_true, decide_eq_true_eq, cp_iff]; omega)]
                    exact (enc4 (by omega)).symm
        · have e : nOf b0.toNat = 1 := by unfold nOf; rw [if_neg (by omega), if_neg (by omega), if_neg (by omega)]
          rw [e]
          unfold lenN
          rw [if_pos (.inl rfl)]
          unfold firstS
          simp only
          rw [if_neg (by omega), if_neg (by omega), if_neg c2, if_neg c3]
          by_cases c5 : b0.toNat < 248
          · rw [if_pos c5]
            match r with
            | [] => rfl
            | [_] => rfl
            | [_, _] => rfl
            | b1 :: b2 :: b3 :: r =>
              simp only
              rw [if_neg]
              simp only [Bool.and_eq_true, decide_eq_true_eq, cp_iff]
              omega
          · rw [if_neg c5]
/-- What a unit's code point is, by the reference. -/
theorem rune_enc {n : Nat} (h : cpB n = true) (h2 : 128 ≤ n) : runeR (encL n) = n := by
  have hc := (cp_iff n).1 h
  unfold encL
  rw [if_neg (by omega)]
  by_cases c2 : n < 2048
  · rw [if_pos c2]
    simp only [runeR, valR, leadR, List.length_nil, if_true]
    rw [nat_byte (by omega), nat_byte (by omega)]
    omega
  · rw [if_neg c2]
    by_cases c3 : n < 65536
    · rw [if_pos c3]
      simp only [runeR, valR, leadR, List.length_nil, List.length_cons]
      rw [if_neg (by decide), if_pos trivial, nat_byte (by omega), nat_byte (by omega), nat_byte (by omega)]
      omega
    · rw [if_neg c3]
      simp only [runeR, valR, leadR, List.length_nil, List.length_cons]
      rw [if_neg (by decide), if_neg (by decide), nat_byte (by omega), nat_byte (by omega), nat_byte (by omega), nat_byte (by omega)]
      omega
end Go.Proofs.YtbplbifmohbfdaaDoor
