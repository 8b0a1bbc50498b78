/- The canonical decimal form: what Text writes Parse reads, and nothing else. -/
import Derived.Test.YtnmdljadnlddeaaGreatDoorParse
import Derived.Test.YtnmdljadnlddeaaGreatDoorPlain
namespace Go.Proofs.YtnmdljadnlddeaaGreatDoor
open Go

theorem trim_minus (r : List UInt8) : Lib.trimPrefix (45 :: r) [45] = r := by simp [Lib.trimPrefix, Lib.hasPrefix]
theorem trim_other (c : UInt8) (r : List UInt8) (h : c ≠ 45) : Lib.trimPrefix (c :: r) [45] = c :: r := by
  have : ¬ (45 : UInt8) = c := fun e => h e.symm
  simp [Lib.trimPrefix, Lib.hasPrefix, this]
theorem ne_of_toNat {c : UInt8} {n : Nat} (h : c.toNat ≠ n) (hn : n < 256) : c ≠ UInt8.ofNat n := by
  intro e; rw [e, UInt8.toNat_ofNat'] at h; omega
theorem all_digs {l : List UInt8} : l.all isDig = true ↔ ∀ c ∈ l, 48 ≤ c.toNat ∧ c.toNat ≤ 57 := by
  simp [List.all_eq_true, isDig]
theorem parseMag_ne {l : List UInt8} (h : l ≠ []) : Lib.parseMag l = Lib.parseUint10 0 l := by rw [Lib.parseMag, if_neg h]

theorem atoi_of (c : UInt8) (r l : List UInt8) (u : Nat) (hl : (if c.toNat = 43 ∨ c.toNat = 45 then r else c :: r) = l) (h : Lib.parseMag l = .ok u) :
    Lib.atoiAll (c :: r) = if ¬ c.toNat = 45 ∧ 9223372036854775808 ≤ u then .range else if c.toNat = 45 ∧ 9223372036854775808 < u then .range else .ok (if c.toNat = 45 then -(u : Int) else u) := by
  simp only [Lib.atoiAll, hl, h]
theorem of_atoi (c : UInt8) (r l : List UInt8) (v : Int) (hl : (if c.toNat = 43 ∨ c.toNat = 45 then r else c :: r) = l) (h : Lib.atoiAll (c :: r) = .ok v) :
    ∃ u, Lib.parseMag l = .ok u ∧ (if ¬ c.toNat = 45 ∧ 9223372036854775808 ≤ u then Lib.NumEnd.range else if c.toNat = 45 ∧ 9223372036854775808 < u then .range else .ok (if c.toNat = 45 then -(u : Int) else u)) = .ok v := by
  cases hm : Lib.parseMag l with
  | ok u => exact ⟨u, rfl, by rw [← atoi_of c r l u hl hm]; exact h⟩
  | _ => simp only [Lib.atoiAll, hl, hm] at h; cases h

theorem parseV_neg (m : Nat) (h0 : 0 < m) (h1 : m ≤ 9223372036854775808) : parseV (45 :: Lib.decDigits m) = some (-(m : Int)) := by
  obtain ⟨c, r, e, hc⟩ := decDigits_head m h0
  have hd := decDigits_dig m
  have hcan : canL (45 :: Lib.decDigits m) = true := by
    unfold canL
    rw [trim_minus]
    simp only []
    rw [if_neg (decDigits_ne m), if_neg, all_digs]
    · exact hd
    · rw [e]; intro hh
      have : c = 48 := by simpa using hh
      rw [this] at hc; exact absurd hc (by decide)
  have hm : Lib.parseMag (Lib.decDigits m) = .ok m := by
    rw [parseMag_ne (decDigits_ne m), parse_val _ 0 hd (by rw [decDigits_val]; omega), decDigits_val]
  have ha : Lib.atoiAll (45 :: Lib.decDigits m) = .ok (-(m : Int)) := by
    rw [atoi_of 45 _ _ m (if_pos (Or.inr (by decide))) hm, if_neg (by intro h; exact h.1 (by decide)), if_neg (by intro h; omega), if_pos (by decide)]
  simp only [parseV, hcan, ha, if_true]
theorem parseV_pos (m : Nat) (h1 : m < 9223372036854775808) : parseV (Lib.decDigits m) = some (m : Int) := by
  have hd := decDigits_dig m
  have hm : Lib.parseMag (Lib.decDigits m) = .ok m := by
    rw [parseMag_ne (decDigits_ne m), parse_val _ 0 hd (by rw [decDigits_val]; omega), decDigits_val]
  obtain ⟨c, r, e⟩ : ∃ c r, Lib.decDigits m = c :: r := by
    cases h : Lib.decDigits m with
    | nil => exact absurd h (decDigits_ne m)
    | cons c r => exact ⟨c, r, rfl⟩
  have hcd := hd c (by rw [e]; simp)
  have hc45 : c ≠ 45 := ne_of_toNat (n := 45) (by omega) (by omega)
  have hcan : canL (Lib.decDigits m) = true := by
    unfold canL
    rw [e, trim_other c r hc45]
    simp only []
    rw [if_neg (by simp)]
    split
    · rename_i hh
      have h48 : c = 48 := by simpa using hh
      rw [decide_eq_true_eq]
      by_cases h0 : 0 < m
      · obtain ⟨c', r', e', hc'⟩ := decDigits_head m h0
        rw [e] at e'
        injection e' with e1 e2
        rw [← e1, h48] at hc'
        exact absurd hc' (by decide)
      · obtain rfl : m = 0 := by omega
        rw [Lib.decDigits_one (by omega)] at e
        rw [← e]; rfl
    · rw [all_digs, ← e]; exact hd
  have ha : Lib.atoiAll (Lib.decDigits m) = .ok (m : Int) := by
    rw [e] at hm ⊢
    rw [atoi_of c _ _ m (if_neg (by omega)) hm, if_neg (by intro h; omega), if_neg (by intro h; omega), if_neg (by omega)]
  simp only [parseV, hcan, ha, if_true]
/-- What Text writes Parse reads. -/
theorem parseV_itoa (n : Int) (h0 : -9223372036854775808 ≤ n) (h1 : n ≤ 9223372036854775807) : parseV (Lib.itoa n) = some n := by
  unfold Lib.itoa
  split
  · rw [parseV_neg _ (by omega) (by omega)]; congr 1; omega
  · rw [parseV_pos _ (by omega)]; congr 1; omega
/-- What Parse reads Text writes. -/
theorem itoa_parseV (l : List UInt8) (v : Int) (h : parseV l = some v) : Lib.itoa v = l ∧ -9223372036854775808 ≤ v ∧ v ≤ 9223372036854775807 := by
  unfold parseV at h
  split at h
  · rename_i hcan
    cases ha : Lib.atoiAll l with
    | ok v' =>
      rw [ha] at h
      injection h with h
      subst h
      cases l with
      | nil => exact absurd ha (by intro e; cases e)
      | cons c r =>
        by_cases h45 : c = 45
        · subst h45
          unfold canL at hcan
          rw [trim_minus] at hcan
          simp only [] at hcan
          split at hcan
          · cases hcan
          · rename_i hne
            split at hcan
            · exact absurd (of_decide_eq_true hcan) (by intro e; injection e with e1 _; exact absurd e1 (by decide))
            · rename_i hhead
              have hd := all_digs.1 hcan
              obtain ⟨u, hm, ha2⟩ := of_atoi 45 r r v' (if_pos (Or.inr (by decide))) ha
              clear ha
              have ha := ha2
              clear ha2
              · rw [if_neg (by intro h; exact h.1 (by decide))] at ha
                split at ha
                · cases ha
                · rename_i hle
                  rw [if_pos (by decide)] at ha
                  have hav : -(u : Int) = v' := by injection ha
                  rw [parseMag_ne hne] at hm
                  obtain ⟨hu, _⟩ := val_parse r 0 u hm
                  cases r with
                  | nil => exact absurd rfl hne
                  | cons x r =>
                    have hx := hd x (by simp)
                    have hx48 : x.toNat ≠ 48 := fun e => hhead (by
                      have : x = 48 := UInt8.toNat_inj.1 e
                      rw [this]; rfl)
                    have hn := numeral x r (by omega) (fun y hy => hd y (by simp [hy]))
                    have hpos : 0 < u := by
                      rcases Nat.eq_zero_or_pos u with h0 | h0
                      · rw [← hu, h0, Lib.decDigits_one (by omega)] at hn
                        injection hn with e1 _
                        rw [← e1] at hx48
                        exact absurd rfl hx48
                      · exact h0
                    have hub : u ≤ 9223372036854775808 := by
                      by_cases hh : u ≤ 9223372036854775808
                      · exact hh
                      · exact absurd ⟨by decide, by omega⟩ hle
                    refine ⟨?_, by omega, by omega⟩
                    rw [← hav]
                    unfold Lib.itoa
                    rw [if_pos (by omega), show (-(u : Int)).natAbs = u by omega, hu, hn]
        · unfold canL at hcan
          rw [trim_other c r h45] at hcan
          simp only [] at hcan
          rw [if_neg (by simp)] at hcan
          have h45n : c.toNat ≠ 45 := fun e => h45 (UInt8.toNat_inj.1 e)
          have hkey : (∀ x ∈ c :: r, 48 ≤ x.toNat ∧ x.toNat ≤ 57) ∧ Lib.decDigits (val 0 (c :: r)) = c :: r := by
            split at hcan
            · have e := of_decide_eq_true hcan
              rw [e]
              refine ⟨by decide, ?_⟩
              show Lib.decDigits 0 = [48]
              rw [Lib.decDigits_one (by omega)]; rfl
            · rename_i hhead
              have hd := all_digs.1 hcan
              have hc := hd c (by simp)
              have hc48 : c.toNat ≠ 48 := fun e => hhead (by
                have : c = 48 := UInt8.toNat_inj.1 e
                rw [this]; rfl)
              exact ⟨hd, numeral c r (by omega) (fun y hy => hd y (by simp [hy]))⟩
          have hc := hkey.1 c (by simp)
          obtain ⟨u, hm, ha⟩ := of_atoi c r (c :: r) v' (if_neg (by omega)) ha
          · split at ha
            · cases ha
            · rename_i hle
              have hav : (u : Int) = v' := by
                simp only [h45n, false_and, if_false] at ha; injection ha
              rw [parseMag_ne (by simp)] at hm
              obtain ⟨hu, _⟩ := val_parse _ 0 u hm
              have hub : u < 9223372036854775808 := by
                by_cases hh : u < 9223372036854775808
                · exact hh
                · exact absurd ⟨h45n, by omega⟩ hle
              refine ⟨?_, by omega, by omega⟩
              rw [← hav]
              unfold Lib.itoa
              rw [if_neg (by omega), show ((u : Nat) : Int).toNat = u by omega, hu, hkey.2]
    | _ => rw [ha] at h; cases h
  · cases h
end Go.Proofs.YtnmdljadnlddeaaGreatDoor
