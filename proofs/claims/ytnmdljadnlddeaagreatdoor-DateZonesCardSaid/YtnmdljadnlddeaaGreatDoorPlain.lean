/- Plain facts on numerals and hexadecimal digits, of no program. -/
import Derived.Lib.AtoiAll
import Derived.Lib.ItoaNum
import Derived.Lib.ItoaLen
import Derived.Lib.Strings
namespace Go.Proofs.YtnmdljadnlddeaaGreatDoor
open Go

def isDigP (c : UInt8) : Bool := decide (48 ≤ c.toNat ∧ c.toNat ≤ 57)

/-- The number that digits spell, from acc on. -/
def val (acc : Nat) : List UInt8 → Nat
  | [] => acc
  | c :: r => val (acc * 10 + (c.toNat - 48)) r
theorem val_append (l r : List UInt8) (acc : Nat) : val acc (l ++ r) = val (val acc l) r := by
  induction l generalizing acc with
  | nil => rfl
  | cons c l ih => exact ih _
theorem val_mono (l : List UInt8) : ∀ acc, acc ≤ val acc l := by
  induction l with
  | nil => intro acc; exact Nat.le_refl _
  | cons c l ih => intro acc; exact Nat.le_trans (by omega) (ih _)

theorem digit_toNat (d : Nat) (h : d < 10) : (UInt8.ofNat (48 + d)).toNat = 48 + d := by
  rw [UInt8.toNat_ofNat']; omega
theorem decDigits_val (u : Nat) : val 0 (Lib.decDigits u) = u := by
  induction u using Nat.strongRecOn with
  | _ u ih =>
    rw [Lib.decDigits]
    split
    · rename_i h
      show 0 * 10 + ((UInt8.ofNat (48 + u)).toNat - 48) = u
      rw [digit_toNat u h]; omega
    · rename_i h
      rw [val_append, ih (u / 10) (by omega)]
      show u / 10 * 10 + ((UInt8.ofNat (48 + u % 10)).toNat - 48) = u
      rw [digit_toNat _ (by omega)]; omega
theorem decDigits_dig (u : Nat) : ∀ c ∈ Lib.decDigits u, 48 ≤ c.toNat ∧ c.toNat ≤ 57 := by
  induction u using Nat.strongRecOn with
  | _ u ih =>
    intro c hc
    rw [Lib.decDigits] at hc
    split at hc
    · rename_i h
      obtain rfl : c = UInt8.ofNat (48 + u) := by simpa using hc
      rw [digit_toNat u h]; omega
    · rename_i h
      rcases List.mem_append.1 hc with h1 | h1
      · exact ih (u / 10) (by omega) c h1
      · obtain rfl : c = UInt8.ofNat (48 + u % 10) := by simpa using h1
        rw [digit_toNat _ (by omega)]; omega
theorem decDigits_ne (u : Nat) : Lib.decDigits u ≠ [] := by
  have := Lib.decDigits_length u
  have h1 := Lib.nDigits_pos u
  intro e; rw [e] at this; simp at this; omega
/-- No leading zero but of 0 itself. -/
theorem decDigits_head (u : Nat) (h : 0 < u) : ∃ c r, Lib.decDigits u = c :: r ∧ 49 ≤ c.toNat := by
  induction u using Nat.strongRecOn with
  | _ u ih =>
    rw [Lib.decDigits]
    split
    · rename_i h10
      exact ⟨_, [], rfl, by rw [digit_toNat u h10]; omega⟩
    · rename_i h10
      obtain ⟨c, r, e, hc⟩ := ih (u / 10) (by omega) (by omega)
      exact ⟨c, r ++ [_], by rw [e]; rfl, hc⟩
/-- The library's reading of digits that stay in range. -/
theorem parse_val (l : List UInt8) : ∀ acc, (∀ c ∈ l, 48 ≤ c.toNat ∧ c.toNat ≤ 57) → val acc l < 18446744073709551616 → Lib.parseUint10 acc l = .ok (val acc l) := by
  induction l with
  | nil => intro acc _ _; rfl
  | cons c l ih =>
    intro acc hd hv
    have hc := hd c (by simp)
    have hv' : val (acc * 10 + (c.toNat - 48)) l < 18446744073709551616 := hv
    have := val_mono l (acc * 10 + (c.toNat - 48))
    rw [Lib.parseUint10, if_pos hc, if_neg (by omega), if_neg (by omega)]
    exact ih _ (fun x hx => hd x (by simp [hx])) hv'
theorem val_parse (l : List UInt8) : ∀ acc u, Lib.parseUint10 acc l = .ok u → u = val acc l ∧ ∀ c ∈ l, 48 ≤ c.toNat ∧ c.toNat ≤ 57 := by
  induction l with
  | nil => intro acc u h; injection h with h; exact ⟨h.symm, by simp⟩
  | cons c l ih =>
    intro acc u h
    rw [Lib.parseUint10] at h
    split at h
    · rename_i hc
      split at h
      · cases h
      · split at h
        · cases h
        · obtain ⟨e, hd⟩ := ih _ _ h
          refine ⟨e, fun x hx => ?_⟩
          rcases List.mem_cons.1 hx with rfl | hx
          · exact hc
          · exact hd x hx
    · cases h
theorem decDigits_step (acc : Nat) (c : UInt8) (ha : 0 < acc) (hc : 48 ≤ c.toNat ∧ c.toNat ≤ 57) : Lib.decDigits (acc * 10 + (c.toNat - 48)) = Lib.decDigits acc ++ [c] := by
  generalize hd : c.toNat - 48 = d
  have hd9 : d < 10 := by omega
  have e2 : 48 + (acc * 10 + d) % 10 = c.toNat := by omega
  have e1 : (acc * 10 + d) / 10 = acc := by omega
  rw [Lib.decDigits, dif_neg (by omega), e1, e2, UInt8.ofNat_toNat]
/-- Digits without a leading zero are their number's numeral. -/
theorem decDigits_of (l : List UInt8) : (∀ c ∈ l, 48 ≤ c.toNat ∧ c.toNat ≤ 57) → ∀ acc, 0 < acc → Lib.decDigits (val acc l) = Lib.decDigits acc ++ l := by
  induction l with
  | nil => intro _ acc _; rw [List.append_nil]; rfl
  | cons c l ih =>
    intro hd acc ha
    have hc := hd c (by simp)
    have hstep := decDigits_step acc c ha hc
    have h2 := ih (fun x hx => hd x (by simp [hx])) (acc * 10 + (c.toNat - 48)) (by omega)
    rw [hstep, List.append_assoc, List.singleton_append] at h2
    exact h2
theorem numeral (c : UInt8) (l : List UInt8) (hc : 49 ≤ c.toNat ∧ c.toNat ≤ 57) (hd : ∀ x ∈ l, 48 ≤ x.toNat ∧ x.toNat ≤ 57) : Lib.decDigits (val 0 (c :: l)) = c :: l := by
  rw [show val 0 (c :: l) = val (0 * 10 + (c.toNat - 48)) l from rfl, decDigits_of l hd _ (by omega), Lib.decDigits, dif_pos (by omega)]
  have e : 48 + (0 * 10 + (c.toNat - 48)) = c.toNat := by omega
  rw [e, UInt8.ofNat_toNat, List.singleton_append]
end Go.Proofs.YtnmdljadnlddeaaGreatDoor
