/- The law NumPads: its walk. -/
import Derived.Test.YtemgjjnkdopnnaaDoorSmall
import Derived.Deep.DeepCutAuto
namespace Go.Proofs.YtemgjjnkdopnnaaDoor
open Go.ChangeShapes Go.WideShapes Go.ChangeAt Go.RowKit

/-- What Clamp answers. -/
def clampV (n lo hi : Int) : Int := if n < lo then lo else if n > hi then hi else n
theorem clamp_is (n lo hi c : Int) (hc : clampV n lo hi = c) (w : World) :
    Calls Tryd.prog 17 #[.int .i64 n, .int .i64 lo, .int .i64 hi] w fun e w' => e = .returned (.int .i64 c) ∧ w = w' := by
  subst hc; exact clamp_any n lo hi w

set_option maxRecDepth 100000 in
set_option maxHeartbeats 800000 in
theorem pads_no (n k lo hi : Int) (hn0 : -9223372036854775808 ≤ n) (hn1 : n ≤ 9223372036854775807) (w : World) (hv : Vars w) (hno : n < 0 ∨ k < 0 ∨ k > 100) :
    Calls Tryd.prog 5 #[.int .i64 n, .int .i64 k, .int .i64 lo, .int .i64 hi] w fun e w' => e = .returned (.bool true) ∧ Below w.heap.size w w' := by
  have HS := Lib.hid (small_any w hv)
  have HP := Lib.hid (fun W hW => pad_is n k hn0 hn1 [] (by rw [padS, if_pos hno]) W hW)
  have HV := Lib.hid hv
  obtain ⟨c, hc⟩ : ∃ c, clampV n lo hi = c := ⟨_, rfl⟩
  have HC := Lib.hid hc
  have HN := Lib.hid hno
  clear hv hc hno
  go_enter Tryd.func5, Tryd.ntmps5
  go_upto_region 3 with (first
    | (go_at_call 6; refine HS.out.mono ?_; rintro e w1 ⟨rfl, hb⟩)
    | (go_at_call 17; refine (clamp_is n lo hi c HC.out _).mono ?_; rintro e w2 ⟨rfl, rfl⟩))
  go_cut [54] (fun s wx => s = .bool false ∧ wx = w1)
  case first =>
    have hc := HC.out
    clear HC HN
    rcases (show hi < lo ∨ (lo ≤ hi ∧ n < lo) ∨ (lo ≤ hi ∧ hi < n) ∨ (lo ≤ n ∧ n ≤ hi) by omega) with h | ⟨h, h2⟩ | ⟨h, h2⟩ | ⟨h, h2⟩
    · clear hc
      go_wp2_with fail
      go_meet
      exact ⟨rfl, rfl⟩
    · obtain rfl : lo = c := by rw [← hc, clampV, if_pos h2]
      have hK : clampV lo lo hi = lo := by rw [clampV, if_neg (by omega), if_neg (by omega)]
      have HK := Lib.hid hK
      clear hc hK
      go_wp2_with (go_at_call 17; refine (clamp_is lo lo hi lo HK.out _).mono ?_; rintro e w2 ⟨rfl, rfl⟩)
      go_meet
      exact ⟨congrArg Value.bool (by simp; omega), rfl⟩
    · obtain rfl : hi = c := by rw [← hc, clampV, if_neg (by omega), if_pos (by omega)]
      have hK : clampV hi lo hi = hi := by rw [clampV, if_neg (by omega), if_neg (by omega)]
      have HK := Lib.hid hK
      clear hc hK
      go_wp2_with (go_at_call 17; refine (clamp_is hi lo hi hi HK.out _).mono ?_; rintro e w2 ⟨rfl, rfl⟩)
      go_meet
      exact ⟨congrArg Value.bool (by simp; omega), rfl⟩
    · obtain rfl : n = c := by rw [← hc, clampV, if_neg (by omega), if_neg (by omega)]
      have hll : lo ≤ hi := by omega
      have HK := Lib.hid hc
      clear hc
      go_wp2_with (go_at_call 17; refine (clamp_is n lo hi n HK.out _).mono ?_; rintro e w2 ⟨rfl, rfl⟩)
      go_meet
      exact ⟨congrArg Value.bool (by simp; omega), rfl⟩
  case rest =>
    obtain ⟨rfl, rfl⟩ := hcut
    rcases (show n < 0 ∨ (0 ≤ n ∧ k < 0) ∨ (0 ≤ n ∧ 100 < k) by have := HN.out; omega) with h | h | h
    all_goals
      go_wp2_with (go_at_call 13; refine (HP.out _ (HV.out.below hb)).mono ?_; rintro e w2 ⟨rfl, hb2⟩)
      go_ret
      exact ⟨rfl, Qtrans hb hb2⟩
set_option maxRecDepth 100000 in
set_option maxHeartbeats 800000 in
theorem pads_yes (n : Int) (k : Nat) (lo hi : Int) (hn1 : n ≤ 9223372036854775807) (w : World) (hv : Vars w) (h0 : 0 ≤ n) (hk : k ≤ 100) :
    Calls Tryd.prog 5 #[.int .i64 n, .int .i64 k, .int .i64 lo, .int .i64 hi] w fun e w' => e = .returned (.bool true) ∧ Below w.heap.size w w' := by
  have HS := Lib.hid (small_any w hv)
  have hlen : (Lib.itoa n).length ≤ 21 := Lib.itoa_length_le n (by omega) hn1
  obtain ⟨t, ht⟩ : ∃ t : ByteArray, t = ⟨(Lib.itoa n).toArray⟩ := ⟨_, rfl⟩
  obtain ⟨p, hp⟩ : ∃ p : ByteArray, p = ⟨(padL n k).toArray⟩ := ⟨_, rfl⟩
  have HP := Lib.hid (fun W hW => pad_yes n k h0 hn1 hk W hW)
  have HT := Lib.hid (fun W hW => text_any n (by omega) hn1 W hW)
  rw [← hp] at HP
  rw [← ht] at HT
  have htl : t.size = (Lib.itoa n).length := by rw [ht]; simp [ByteArray.size]
  have ht21 : t.size ≤ 21 := by omega
  have hpl : p.size = (k - t.size) + t.size := by rw [hp, htl]; simp [ByteArray.size, padL]
  have HL := Lib.hid ht
  have HPD := Lib.hid hp
  have HPL := Lib.hid hpl
  have HTL := Lib.hid htl
  have hp121 : p.size ≤ 121 := by omega
  have hpt : t.size ≤ p.size := by omega
  have hm : max (k : Int) (t.size : Int) = (p.size : Int) := by omega
  have hx : ((p.extract (p.size - t.size) p.size).toList == t.toList) = true := by
    rw [beq_iff_eq, ByteArray.toList_eq, ByteArray.toList_eq, ByteArray.data_extract, Array.toList_extract, List.extract_eq_take_drop, ht, hp]
    show List.take _ (List.drop _ (padL n k)) = Lib.itoa n
    have e1 : (⟨(Lib.itoa n).toArray⟩ : ByteArray).size = (Lib.itoa n).length := by simp [ByteArray.size]
    have e2 : (⟨(padL n k).toArray⟩ : ByteArray).size = (k - (Lib.itoa n).length) + (Lib.itoa n).length := by simp [ByteArray.size, padL]
    rw [e1, e2, Nat.add_sub_cancel, padL, List.drop_left' (by simp), List.take_of_length_le (by omega)]
  have hz : ∀ (i : Nat) (h : i < p.size), i < k - t.size → p[i] = 48 := by
    intro i h hi
    have e : p.data.toList = List.replicate (k - (Lib.itoa n).length) 48 ++ Lib.itoa n := by rw [hp, padL]
    have e2 : p.data.toList[i]? = some p[i] := by
      rw [List.getElem?_eq_getElem (by rw [Array.length_toList]; exact h)]; rfl
    rw [e, List.getElem?_append_left (by rw [List.length_replicate]; omega), List.getElem?_replicate, if_pos (by omega)] at e2
    injection e2 with e2
    exact e2.symm
  have HZ := Lib.hid hz
  clear htl hpl ht hp hlen hz
  have HV := Lib.hid hv
  obtain ⟨c, hc⟩ : ∃ c, clampV n lo hi = c := ⟨_, rfl⟩
  have HC := Lib.hid hc
  clear hv hc
  go_enter Tryd.func5, Tryd.ntmps5
  go_upto_region 3 with (first
    | (go_at_call 6; refine HS.out.mono ?_; rintro e w1 ⟨rfl, hb⟩)
    | (go_at_call 17; refine (clamp_is n lo hi c HC.out _).mono ?_; rintro e w2 ⟨rfl, rfl⟩))
  go_cut [54] (fun s wx => s = .bool false ∧ wx = w1)
  case first =>
    have hc := HC.out
    clear HC
    rcases (show hi < lo ∨ (lo ≤ hi ∧ n < lo) ∨ (lo ≤ hi ∧ hi < n) ∨ (lo ≤ n ∧ n ≤ hi) by omega) with h | ⟨h, h2⟩ | ⟨h, h2⟩ | ⟨h, h2⟩
    · clear hc
      go_wp2_with fail
      go_meet
      exact ⟨rfl, rfl⟩
    · obtain rfl : lo = c := by rw [← hc, clampV, if_pos h2]
      have hK : clampV lo lo hi = lo := by rw [clampV, if_neg (by omega), if_neg (by omega)]
      have HK := Lib.hid hK
      clear hc hK
      go_wp2_with (go_at_call 17; refine (clamp_is lo lo hi lo HK.out _).mono ?_; rintro e w2 ⟨rfl, rfl⟩)
      go_meet
      exact ⟨congrArg Value.bool (by simp; omega), rfl⟩
    · obtain rfl : hi = c := by rw [← hc, clampV, if_neg (by omega), if_pos (by omega)]
      have hK : clampV hi lo hi = hi := by rw [clampV, if_neg (by omega), if_neg (by omega)]
      have HK := Lib.hid hK
      clear hc hK
      go_wp2_with (go_at_call 17; refine (clamp_is hi lo hi hi HK.out _).mono ?_; rintro e w2 ⟨rfl, rfl⟩)
      go_meet
      exact ⟨congrArg Value.bool (by simp; omega), rfl⟩
    · obtain rfl : n = c := by rw [← hc, clampV, if_neg (by omega), if_neg (by omega)]
      have hll : lo ≤ hi := by omega
      have HK := Lib.hid hc
      clear hc
      go_wp2_with (go_at_call 17; refine (clamp_is n lo hi n HK.out _).mono ?_; rintro e w2 ⟨rfl, rfl⟩)
      go_meet
      exact ⟨congrArg Value.bool (by simp; omega), rfl⟩
  case rest =>
    obtain ⟨rfl, rfl⟩ := hcut
    go_wp2_with (first
      | (go_at_call 13; refine (HP.out _ (HV.out.below hb)).mono ?_; rintro e w2 ⟨rfl, hb2⟩)
      | (go_at_call 11; refine (HT.out _ ((HV.out.below hb).below hb2)).mono ?_; rintro e w3 ⟨rfl, hb3⟩))
    go_loop [13] (fun i => ∃ j : Nat, j ≤ p.size - t.size ∧ i = .int .i64 j) (fun i => p.size - t.size - (intOf i).toNat)
    case atStart => exact ⟨0, Nat.zero_le _, rfl⟩
    case round =>
      obtain ⟨j, hj, rfl⟩ := hrel
      by_cases hlt : j < p.size - t.size
      · have hlt' : (j : Int) < (p.size : Int) - (t.size : Int) := by omega
        have hjp : j < p.size := by omega
        have h48 : p[j] = 48 := HZ.out j hjp (by have := HPL.out; omega)
        have e1 : ((p[j].toNat : Int) == 48) = true := by rw [h48]; rfl
        have e2 : ((p[j].toNat : Int) != 48) = false := by rw [h48]; rfl
        clear h48
        go_wp2_with fail
        go_round
        case rel => exact ⟨j + 1, by omega, by go_num⟩
        case measure => simp [intOf]; omega
      · have hge : ¬ (j : Int) < (p.size : Int) - (t.size : Int) := by omega
        go_wp2_with fail
        go_ret
        exact ⟨rfl, Qtrans (Qtrans hb hb2) hb3⟩
end Go.Proofs.YtemgjjnkdopnnaaDoor
