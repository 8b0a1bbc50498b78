/- The reference's parsing of a decimal integer. -/
import Derived.Test.YtdinachiiimngaaGreatDoorK4
import Derived.Test.YtdinachiiimngaaGreatDoorKNuRefText
import Derived.Deep.DeepCutAuto
namespace Go.Proofs.YtdinachiiimngaaGreatDoor.Nu
open Go.ChangeShapes Go.WideShapes Go.ChangeAt Go.RowKit

/-- Does l begin with a minus sign? -/
def minus (l : List UInt8) : Bool := decide (l.head? = some 45)
/-- What stands behind it. -/
def mag (l : List UInt8) : List UInt8 := if minus l = true then l.tail else l

set_option maxRecDepth 100000 in
theorem mag_parse (l : List UInt8) (v : Int) (h : parseV l = some v) :
    (∀ c ∈ mag l, 48 ≤ c.toNat ∧ c.toNat ≤ 57) ∧ val 0 (mag l) ≤ 9223372036854775808 ∧ v = if minus l = true then -(val 0 (mag l) : Int) else (val 0 (mag l) : Int) := by
  obtain ⟨e, h0, h1⟩ := itoa_parseV l v h
  unfold Lib.itoa at e
  split at e
  · have hm : minus l = true := by rw [← e]; rfl
    have hg : mag l = Lib.decDigits v.natAbs := by unfold mag; rw [if_pos hm, ← e]; rfl
    rw [hg, if_pos hm, decDigits_val]
    exact ⟨decDigits_dig _, by omega, by omega⟩
  · have hm : minus l = false := by
      rw [← e]
      unfold minus
      rw [decide_eq_false_iff_not]
      intro hh
      have := decDigits_dig v.toNat 45 (List.mem_of_mem_head? hh)
      exact absurd this (by decide)
    have hg : mag l = Lib.decDigits v.toNat := by unfold mag; rw [if_neg (by rw [hm]; decide), ← e]
    rw [hg, if_neg (by rw [hm]; decide), decDigits_val]
    exact ⟨decDigits_dig _, by omega, by omega⟩

set_option maxRecDepth 100000 in
theorem mem_at (D : ByteArray) (k : Nat) (h : k < D.size) : D[k] ∈ D.data.toList := by
  have := List.getElem_mem (l := D.data.toList) (n := k) (by simpa using h)
  exact this
set_option maxRecDepth 100000 in
theorem take_at (D : ByteArray) (k : Nat) (h : k < D.size) : D.data.toList.take (k + 1) = D.data.toList.take k ++ [D[k]] := by
  rw [List.take_succ_eq_append_getElem (by simpa using h)]; rfl
set_option maxRecDepth 100000 in
theorem none_bad {l : List UInt8} {D : ByteArray} (hD : D = ⟨(mag l).toArray⟩) (k : Nat) (h : k < D.size) (hb : ¬ (48 ≤ D[k].toNat ∧ D[k].toNat ≤ 57)) : parseV l = none := by
  cases hp : parseV l with
  | none => rfl
  | some v =>
    have e : D.data.toList = mag l := by rw [hD]
    have := (mag_parse l v hp).1 D[k] (by rw [← e]; exact mem_at D k h)
    exact absurd this hb
set_option maxRecDepth 100000 in
theorem none_over {l : List UInt8} {D : ByteArray} (hD : D = ⟨(mag l).toArray⟩) (k c : Nat) (h : k < D.size) (hc : D[k].toNat = 48 + c) (hb : 9223372036854775808 < 10 * val 0 (D.data.toList.take k) + c) : parseV l = none := by
  cases hp : parseV l with
  | none => rfl
  | some v =>
    have h2 := (mag_parse l v hp).2.1
    have e : D.data.toList = mag l := by rw [hD]
    have h3 := val_mono (D.data.toList.drop (k + 1)) (val 0 (D.data.toList.take (k + 1)))
    rw [← val_append, List.take_append_drop, take_at D k h, val_append] at h3
    rw [← e] at h2
    have h4 : val (val 0 (D.data.toList.take k)) [D[k]] = val 0 (D.data.toList.take k) * 10 + (D[k].toNat - 48) := rfl
    omega
set_option maxRecDepth 100000 in
theorem extract_tail (s : ByteArray) : s.extract 1 s.size = ⟨s.data.toList.tail.toArray⟩ := by
  have h : (s.extract 1 s.size).data.toList = s.data.toList.tail := by
    rw [ByteArray.data_extract, Array.toList_extract, List.extract_eq_take_drop, List.drop_one, List.take_of_length_le]
    rw [List.length_tail, Array.length_toList]; exact Nat.le_refl _
  rw [← h]
set_option maxRecDepth 100000 in
theorem minus_pos (s : ByteArray) (h : 0 < s.size) : ((s[0].toNat : Int) == 45) = minus s.data.toList := by
  have e : s.data.toList.head? = some s[0] := by
    rw [List.head?_eq_getElem?, List.getElem?_eq_getElem (by rw [Array.length_toList]; exact h)]; rfl
  unfold minus
  rw [e, Bool.eq_iff_iff, beq_iff_eq, decide_eq_true_eq]
  constructor
  · intro hh; congr 1; exact UInt8.toNat_inj.1 (by show s[0].toNat = 45; omega)
  · intro hh; injection hh with hh; rw [hh]; rfl
set_option maxRecDepth 100000 in
theorem minus_zero (s : ByteArray) (h : ¬ 0 < s.size) : minus s.data.toList = false := by
  have e : s.data.toList = [] := List.eq_nil_of_length_eq_zero (by rw [Array.length_toList]; exact Nat.eq_zero_of_not_pos h)
  rw [e]; rfl
set_option maxRecDepth 100000 in
theorem mag_true {s D : ByteArray} (hD : D = ⟨(mag s.data.toList).toArray⟩) (h : minus s.data.toList = true) : s.extract 1 s.size = D := by
  rw [hD, extract_tail]; unfold mag; rw [if_pos h]
set_option maxRecDepth 100000 in
theorem mag_false {s D : ByteArray} (hD : D = ⟨(mag s.data.toList).toArray⟩) (h : minus s.data.toList = false) : s = D := by
  rw [hD]; unfold mag; rw [if_neg (by rw [h]; decide)]
set_option maxRecDepth 100000 in
theorem mag_le (l : List UInt8) : (mag l).length ≤ l.length := by
  unfold mag; split
  · rw [List.length_tail]; omega
  · exact Nat.le_refl _
set_option maxRecDepth 100000 in
theorem none_other {l : List UInt8} {n : Int} (hk : ∀ v, parseV l = some v → v = n) (h : Lib.itoa n ≠ l) : parseV l = none := by
  cases hp : parseV l with
  | none => rfl
  | some v => exact absurd (by rw [← hk v hp]; exact (itoa_parseV l v hp).1) h

set_option maxRecDepth 100000 in
set_option maxHeartbeats 1600000 in
theorem parseR_any (s : ByteArray) (lo hi : Int) (hs : s.size ≤ 4000000) (w : World) :
    Calls Tryz.prog 158 #[.string s, .int .i64 lo, .int .i64 hi] w fun e w' => Ans (parseIn s.data.toList lo hi) e ∧ Below w.heap.size w w' := by
  obtain ⟨neg, hneg⟩ : ∃ b, minus s.data.toList = b := ⟨_, rfl⟩
  obtain ⟨D, hD⟩ : ∃ D : ByteArray, D = ⟨(mag s.data.toList).toArray⟩ := ⟨_, rfl⟩
  have HN := Lib.hid hneg
  have HD := Lib.hid hD
  have hDs : D.size ≤ 4000000 := by
    rw [hD]
    show (mag s.data.toList).toArray.size ≤ 4000000
    rw [List.size_toArray]
    have := mag_le s.data.toList
    rw [Array.length_toList] at this
    exact Nat.le_trans this hs
  clear hneg hD
  go_enter Tryz.func158, Tryz.ntmps158
  go_upto_region 1 with fail
  go_cut [8] (fun x wx => x = .bool neg ∧ w = wx)
  case first =>
    by_cases h0 : 0 < s.size
    · have HE := Lib.hid ((minus_pos s h0).trans HN.out)
      go_wp2_with fail
      go_meet
      exact ⟨by rw [← HE.out], rfl⟩
    · have HE := Lib.hid ((minus_zero s h0).symm.trans HN.out)
      go_wp2_with fail
      go_meet
      exact ⟨by rw [← HE.out], rfl⟩
  case rest =>
    obtain ⟨rfl, rfl⟩ := hcut
    go_upto_if 22 with fail
    go_cut [9] (fun x wx => x = .string D ∧ w = wx)
    case first =>
      cases neg with
      | true =>
        have hpos : 1 ≤ s.size := by
          by_cases h0 : 0 < s.size
          · exact h0
          · have := minus_zero s h0
            rw [HN.out] at this; cases this
        have HE := Lib.hid (mag_true HD.out HN.out)
        go_wp2_with fail
        go_meet
        exact ⟨by rw [HE.out], rfl⟩
      | false =>
        have HE := Lib.hid (mag_false HD.out HN.out)
        go_wp2_with fail
        go_meet
        exact ⟨by rw [← HE.out], rfl⟩
    case rest =>
      obtain ⟨rfl, rfl⟩ := hcut
      go_wp2_with fail
      go_loop [10, 11] (fun n i => ∃ k x : Nat, k ≤ D.size ∧ i = .int .i64 k ∧ n = .int .i64 (-(x : Int)) ∧ x ≤ 9223372036854775808 ∧ Hid (x = val 0 (D.data.toList.take k) ∧ ∀ c ∈ D.data.toList.take k, 48 ≤ c.toNat ∧ c.toNat ≤ 57))
        (fun _ i => D.size - (intOf i).toNat)
      case atStart => exact ⟨0, 0, Nat.zero_le _, rfl, rfl, by omega, rfl, by simp⟩
      case round =>
        obtain ⟨k, x, hk, rfl, rfl, hx, hval⟩ := hrel
        by_cases hlt : k < D.size
        · have hb0 : (D[k].toNat : Int) < 256 := by have := D[k].toNat_lt; omega
          by_cases hdig : 48 ≤ D[k].toNat ∧ D[k].toNat ≤ 57
          · obtain ⟨c, hc⟩ : ∃ c : Nat, D[k].toNat = 48 + c := ⟨D[k].toNat - 48, by omega⟩
            have hc9 : c ≤ 9 := by omega
            have hci : (D[k].toNat : Int) = 48 + (c : Int) := by omega
            have HC := Lib.hid hc
            have HG := Lib.hid hdig
            clear hc hdig hb0
            have hsub : 48 + (c : Int) - 48 = (c : Int) := by omega
            obtain ⟨q, hq⟩ : ∃ q : Nat, (9223372036854775808 - c) / 10 = q := ⟨_, rfl⟩
            have hq1 : 10 * q + c ≤ 9223372036854775808 := by omega
            have hq2 : 9223372036854775808 < 10 * q + c + 10 := by omega
            have e5 : (-9223372036854775808 + (c : Int)).tdiv 10 = -(q : Int) := by
              rw [show (-9223372036854775808 + (c : Int)) = -((9223372036854775808 - c : Nat) : Int) by omega, Int.neg_tdiv, Int.tdiv_eq_ediv_of_nonneg (by omega)]
              omega
            have hqb : q ≤ 922337203685477580 := by omega
            clear hq
            by_cases hxq : x ≤ q
            · have hxq' : ¬ -(x : Int) < -(q : Int) := by omega
              have hbig : 10 * x + c ≤ 9223372036854775808 := by omega
              clear hq1 hq2
              go_wp2_with fail
              go_round
              case rel =>
                refine ⟨k + 1, 10 * x + c, by omega, by go_num, ?_, hbig, ?_⟩
                · go_num
                · obtain ⟨v1, v2⟩ := hval.out
                  have hc := HC.out
                  refine ⟨?_, ?_⟩
                  · rw [take_at D k hlt, val_append, ← v1]
                    show 10 * x + c = x * 10 + (D[k].toNat - 48)
                    omega
                  · intro y hy
                    rw [take_at D k hlt] at hy
                    rcases List.mem_append.1 hy with h1 | h1
                    · exact v2 y h1
                    · obtain rfl : y = D[k] := by simpa using h1
                      exact HG.out
              case measure => simp [intOf]; omega
            · have hxq' : -(x : Int) < -(q : Int) := by omega
              have HP := Lib.hid (parseIn_none (lo := lo) (hi := hi) (none_over HD.out k c hlt HC.out (by have := hval.out.1; omega)))
              clear hq1 hq2
              go_wp2_with fail
              go_ret2
              rw [HP.out]
              exact ⟨rfl, Below.refl _ _⟩
          · have HP := Lib.hid (parseIn_none (lo := lo) (hi := hi) (none_bad HD.out k hlt hdig))
            rcases (show (D[k].toNat : Int) < 48 ∨ 57 < (D[k].toNat : Int) by omega) with hh | hh
            all_goals
              clear hdig
              go_wp2_with fail
              go_ret2
              rw [HP.out]
              exact ⟨rfl, Below.refl _ _⟩
        · obtain rfl : k = D.size := by omega
          have hxv : x = val 0 (mag s.data.toList) := by
            have := hval.out.1
            rw [List.take_of_length_le (by rw [Array.length_toList]; exact Nat.le_refl _), HD.out] at this
            exact this
          have hkey := fun v hv => (mag_parse s.data.toList v hv).2.2
          have hrng := fun v hv => (itoa_parseV s.data.toList v hv).2
          rw [HN.out, ← hxv] at hkey
          clear hval hxv
          cases neg with
          | true =>
            have HK : Hid (∀ v, parseV s.data.toList = some v → v = -(x : Int)) := hkey
            clear hkey hrng
            have hT := textR_any (-(x : Int)) (by omega) (by omega) w
            obtain ⟨t, ht⟩ : ∃ t : ByteArray, t = ⟨(Lib.itoa (-(x : Int))).toArray⟩ := ⟨_, rfl⟩
            rw [← ht] at hT
            have HT := Lib.hid hT
            by_cases he : Lib.itoa (-(x : Int)) = s.data.toList
            · have hV : parseV s.data.toList = some (-(x : Int)) := by rw [← he]; exact parseV_itoa _ (by omega) (by omega)
              have hq : (t.toList == s.toList) = true := by rw [beq_iff_eq, ByteArray.toList_eq, ByteArray.toList_eq, ht]; exact he
              have HVV := Lib.hid hV
              clear hT ht he hV
              by_cases h1 : (-(x : Int)) < lo
              · have HP := Lib.hid (parseIn_out (hi := hi) HVV.out (Or.inl h1))
                go_wp2_with (go_at_call 187; refine HT.out.mono ?_; rintro e w1 ⟨rfl, hb⟩)
                go_ret2
                rw [HP.out]
                exact ⟨rfl, hb⟩
              · by_cases h2 : hi < (-(x : Int))
                · have HP := Lib.hid (parseIn_out (lo := lo) HVV.out (Or.inr h2))
                  go_wp2_with (go_at_call 187; refine HT.out.mono ?_; rintro e w1 ⟨rfl, hb⟩)
                  go_ret2
                  rw [HP.out]
                  exact ⟨rfl, hb⟩
                · have h1' : lo ≤ (-(x : Int)) := by omega
                  have h2' : (-(x : Int)) ≤ hi := by omega
                  have HP := Lib.hid (parseIn_some HVV.out h1' h2')
                  go_wp2_with (go_at_call 187; refine HT.out.mono ?_; rintro e w1 ⟨rfl, hb⟩)
                  go_ret2
                  rw [HP.out]
                  exact ⟨rfl, hb⟩
            · have hV : parseV s.data.toList = none := none_other HK.out he
              have hq : (t.toList == s.toList) = false := by rw [beq_eq_false_iff_ne, ByteArray.toList_eq, ByteArray.toList_eq, ht]; exact he
              have HP := Lib.hid (parseIn_none (lo := lo) (hi := hi) hV)
              clear hT ht he hV
              go_wp2_with (go_at_call 187; refine HT.out.mono ?_; rintro e w1 ⟨rfl, hb⟩)
              go_ret2
              rw [HP.out]
              exact ⟨rfl, hb⟩
          | false =>
            have hkey2 : ∀ v, parseV s.data.toList = some v → v = (x : Int) := hkey
            by_cases h63 : x = 9223372036854775808
            · have HP := Lib.hid (parseIn_none (lo := lo) (hi := hi) (l := s.data.toList) (by
                cases hp : parseV s.data.toList with
                | none => rfl
                | some v => have a := hkey2 v hp; have b := (hrng v hp).2; omega))
              have hq : (-(x : Int) == -9223372036854775808) = true := beq_iff_eq.2 (by omega)
              clear hkey hkey2 hrng h63
              go_wp2_with fail
              go_ret2
              rw [HP.out]
              exact ⟨rfl, Below.refl _ _⟩
            · have hx63 : x ≤ 9223372036854775807 := by omega
              have hq0 : (-(x : Int) == -9223372036854775808) = false := beq_eq_false_iff_ne.2 (by omega)
              have HK : Hid (∀ v, parseV s.data.toList = some v → v = (x : Int)) := hkey2
              clear hkey hkey2 hrng h63
              have hT := textR_any (x : Int) (by omega) (by omega) w
              obtain ⟨t, ht⟩ : ∃ t : ByteArray, t = ⟨(Lib.itoa (x : Int)).toArray⟩ := ⟨_, rfl⟩
              rw [← ht] at hT
              have HT := Lib.hid hT
              by_cases he : Lib.itoa (x : Int) = s.data.toList
              · have hV : parseV s.data.toList = some (x : Int) := by rw [← he]; exact parseV_itoa _ (by omega) (by omega)
                have hq : (t.toList == s.toList) = true := by rw [beq_iff_eq, ByteArray.toList_eq, ByteArray.toList_eq, ht]; exact he
                have HVV := Lib.hid hV
                clear hT ht he hV
                by_cases h1 : (x : Int) < lo
                · have HP := Lib.hid (parseIn_out (hi := hi) HVV.out (Or.inl h1))
                  go_wp2_with (go_at_call 187; refine HT.out.mono ?_; rintro e w1 ⟨rfl, hb⟩)
                  go_ret2
                  rw [HP.out]
                  exact ⟨rfl, hb⟩
                · by_cases h2 : hi < (x : Int)
                  · have HP := Lib.hid (parseIn_out (lo := lo) HVV.out (Or.inr h2))
                    go_wp2_with (go_at_call 187; refine HT.out.mono ?_; rintro e w1 ⟨rfl, hb⟩)
                    go_ret2
                    rw [HP.out]
                    exact ⟨rfl, hb⟩
                  · have h1' : lo ≤ (x : Int) := by omega
                    have h2' : (x : Int) ≤ hi := by omega
                    have HP := Lib.hid (parseIn_some HVV.out h1' h2')
                    go_wp2_with (go_at_call 187; refine HT.out.mono ?_; rintro e w1 ⟨rfl, hb⟩)
                    go_ret2
                    rw [HP.out]
                    exact ⟨rfl, hb⟩
              · have hV : parseV s.data.toList = none := none_other HK.out he
                have hq : (t.toList == s.toList) = false := by rw [beq_eq_false_iff_ne, ByteArray.toList_eq, ByteArray.toList_eq, ht]; exact he
                have HP := Lib.hid (parseIn_none (lo := lo) (hi := hi) hV)
                clear hT ht he hV
                go_wp2_with (go_at_call 187; refine HT.out.mono ?_; rintro e w1 ⟨rfl, hb⟩)
                go_ret2
                rw [HP.out]
                exact ⟨rfl, hb⟩
end Go.Proofs.YtdinachiiimngaaGreatDoor.Nu
