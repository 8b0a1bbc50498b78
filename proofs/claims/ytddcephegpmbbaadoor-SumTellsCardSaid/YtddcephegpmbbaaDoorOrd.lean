/- The order of byte strings, of their hexadecimal digits, and of digests. -/
import Derived.Test.YtddcephegpmbbaaDoorLess
namespace Go.Proofs.YtddcephegpmbbaaDoor
open Go

theorem bl_cons (x y : UInt8) (a b : List UInt8) : Op.bytesLess (x :: a) (y :: b) = (decide (x < y) || (x == y && Op.bytesLess a b)) := rfl
theorem bl_iff (x y : UInt8) (a b : List UInt8) : Op.bytesLess (x :: a) (y :: b) = true ↔ x.toNat < y.toNat ∨ (x.toNat = y.toNat ∧ Op.bytesLess a b = true) := by
  rw [bl_cons, Bool.or_eq_true, decide_eq_true_eq, Bool.and_eq_true, beq_iff_eq, UInt8.lt_iff_toNat_lt, ← UInt8.toNat_inj]
theorem bl_nil (b : List UInt8) : Op.bytesLess b [] = false := by cases b <;> rfl
theorem bl_trans : ∀ a b c : List UInt8, Op.bytesLess a b = true → Op.bytesLess b c = true → Op.bytesLess a c = true
  | _, [], _, h, _ => by rw [bl_nil] at h; cases h
  | _, _ :: _, [], _, h => by rw [bl_nil] at h; cases h
  | [], _ :: _, _ :: _, _, _ => rfl
  | x :: a, y :: b, z :: c, h1, h2 => by
    rw [bl_iff] at h1 h2 ⊢
    rcases h1 with h1 | ⟨h1, k1⟩ <;> rcases h2 with h2 | ⟨h2, k2⟩
    · exact Or.inl (by omega)
    · exact Or.inl (by omega)
    · exact Or.inl (by omega)
    · exact Or.inr ⟨by omega, bl_trans a b c k1 k2⟩
theorem bl_asymm : ∀ a b : List UInt8, Op.bytesLess a b = true → Op.bytesLess b a = false
  | _, [], h => by rw [bl_nil] at h; cases h
  | [], _ :: _, _ => rfl
  | x :: a, y :: b, h => by
    rw [Bool.eq_false_iff]
    intro h2
    rw [bl_iff] at h h2
    rcases h with h | ⟨h, k⟩ <;> rcases h2 with h2 | ⟨h2, k2⟩
    · omega
    · omega
    · omega
    · rw [bl_asymm a b k] at k2; cases k2
theorem bl_total : ∀ a b : List UInt8, a.length = b.length → Op.bytesLess a b = false → Op.bytesLess b a = false → a = b
  | [], [], _, _, _ => rfl
  | [], _ :: _, h, _, _ => by simp at h
  | _ :: _, [], h, _, _ => by simp at h
  | x :: a, y :: b, h, h1, h2 => by
    rw [Bool.eq_false_iff, ne_eq, bl_iff] at h1 h2
    have e : x.toNat = y.toNat := by omega
    have k1 : Op.bytesLess a b = false := by
      rw [Bool.eq_false_iff]; intro k; exact h1 (Or.inr ⟨e, k⟩)
    have k2 : Op.bytesLess b a = false := by
      rw [Bool.eq_false_iff]; intro k; exact h2 (Or.inr ⟨e.symm, k⟩)
    rw [UInt8.toNat_inj.1 e, bl_total a b (by simpa using h) k1 k2]

theorem hexD_toNat : ∀ i : Fin 16, (hexD i.val).toNat = if i.val < 10 then 48 + i.val else 87 + i.val := by decide
theorem hexD_lt {i j : Nat} (hi : i < 16) (hj : j < 16) : (hexD i).toNat < (hexD j).toNat ↔ i < j := by
  rw [hexD_toNat ⟨i, hi⟩, hexD_toNat ⟨j, hj⟩]
  show (if i < 10 then 48 + i else 87 + i) < (if j < 10 then 48 + j else 87 + j) ↔ _
  split <;> split <;> omega
theorem hexD_eq {i j : Nat} (hi : i < 16) (hj : j < 16) : (hexD i).toNat = (hexD j).toNat ↔ i = j := by
  rw [hexD_toNat ⟨i, hi⟩, hexD_toNat ⟨j, hj⟩]
  show (if i < 10 then 48 + i else 87 + i) = (if j < 10 then 48 + j else 87 + j) ↔ _
  split <;> split <;> omega
theorem hexL_cons' (c : UInt8) (l : List UInt8) : hexL (c :: l) = hexD (c.toNat / 16) :: hexD (c.toNat % 16) :: hexL l := rfl
theorem bl_hex : ∀ a b : List UInt8, a.length = b.length → Op.bytesLess (hexL a) (hexL b) = Op.bytesLess a b
  | [], [], _ => rfl
  | [], _ :: _, h => by simp at h
  | _ :: _, [], h => by simp at h
  | c :: a, d :: b, h => by
    have ih := bl_hex a b (by simpa using h)
    have hc := c.toNat_lt
    have hd := d.toNat_lt
    rw [Bool.eq_iff_iff, hexL_cons', hexL_cons', bl_iff, bl_iff, bl_iff, ih, hexD_lt (by omega) (by omega), hexD_eq (by omega) (by omega), hexD_lt (by omega) (by omega), hexD_eq (by omega) (by omega)]
    constructor
    · rintro (h1 | ⟨h1, h2 | ⟨h2, h3⟩⟩)
      · exact Or.inl (by omega)
      · exact Or.inl (by omega)
      · exact Or.inr ⟨by omega, h3⟩
    · rintro (h1 | ⟨h1, h2⟩)
      · by_cases e : c.toNat / 16 = d.toNat / 16
        · exact Or.inr ⟨e, Or.inl (by omega)⟩
        · exact Or.inl (by omega)
      · exact Or.inr ⟨by omega, Or.inr ⟨by omega, h2⟩⟩

/-- The first difference among the first n places. -/
def firstN (n : Nat) (a b : List UInt8) : Option Nat := (List.range n).find? fun i => a.getD i 0 != b.getD i 0
def lessN (n : Nat) (a b : List UInt8) : Bool := match firstN n a b with
  | some i => decide (a.getD i 0 < b.getD i 0)
  | none => false
theorem lessN_cons (n : Nat) (x y : UInt8) (a b : List UInt8) : lessN (n + 1) (x :: a) (y :: b) = (decide (x < y) || (x == y && lessN n a b)) := by
  have e : firstN (n + 1) (x :: a) (y :: b) = if x != y then some 0 else (firstN n a b).map (· + 1) := by
    unfold firstN
    rw [List.range_succ_eq_map, List.find?_cons]
    simp only [List.getD_cons_zero]
    cases hxy : x != y
    · simp only [List.find?_map, Bool.false_eq_true, if_false]
      rfl
    · rfl
  unfold lessN
  rw [e]
  by_cases h : x = y
  · subst h
    have : (x != x) = false := by simp
    rw [this]
    have h2 : ¬ x < x := by rw [UInt8.lt_iff_toNat_lt]; omega
    simp only [Bool.false_eq_true, if_false, h2, decide_false, Bool.false_or, beq_self_eq_true, Bool.true_and]
    cases firstN n a b <;> rfl
  · have h1 : (x != y) = true := by simp [h]
    have h2 : (x == y) = false := by simp [h]
    rw [h1, h2]
    simp
theorem lessN_bl : ∀ (n : Nat) (a b : List UInt8), a.length = n → b.length = n → lessN n a b = Op.bytesLess a b
  | 0, [], [], _, _ => rfl
  | n + 1, x :: a, y :: b, ha, hb => by
    rw [lessN_cons, bl_cons, lessN_bl n a b (by simpa using ha) (by simpa using hb)]
theorem less_bl {a b : List UInt8} (ha : a.length = 32) (hb : b.length = 32) : lessL a b = Op.bytesLess a b := lessN_bl 32 a b ha hb
theorem less_hex {a b : List UInt8} (ha : a.length = 32) (hb : b.length = 32) : Op.bytesLess (hexL a) (hexL b) = lessL a b := by
  rw [bl_hex a b (by omega), less_bl ha hb]

theorem copy_full {a : List UInt8} (ha : a.length = 32) : copyL a = a := by
  unfold copyL
  rw [List.take_of_length_le (by omega), ha]; simp
theorem readOk_hex {a : List UInt8} (ha : a.length = 32) : readOk (hexL a) = true := by
  unfold readOk
  rw [unhexOk_hexL, unhexS_hexL, copy_full ha]; simp
theorem readL_hex {a : List UInt8} (ha : a.length = 32) : readL (hexL a) = a := by
  unfold readL
  rw [if_pos (readOk_hex ha), unhexS_hexL, copy_full ha]
theorem hex_readL {l : List UInt8} (h : readOk l = true) : hexL (readL l) = l := by
  unfold readL
  rw [if_pos h]
  unfold readOk at h
  rw [Bool.and_eq_true, decide_eq_true_eq] at h
  exact h.2
theorem readL_no {l : List UInt8} (h : readOk l = false) : readL l = List.replicate 32 0 := by
  unfold readL
  rw [if_neg (by rw [h]; simp)]
end Go.Proofs.YtddcephegpmbbaaDoor
