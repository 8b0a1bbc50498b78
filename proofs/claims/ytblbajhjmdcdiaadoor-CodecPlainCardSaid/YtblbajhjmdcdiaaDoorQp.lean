/- Quoted-printable, written. -/
import Derived.Test.YtblbajhjmdcdiaaDoorQ
namespace Go.Proofs.YtblbajhjmdcdiaaDoor
open Go.ChangeShapes Go.WideShapes Go.ChangeAt Go.RowKit

theorem blank_is (c : UInt8) : blank c = (decide (c.toNat = 32) || decide (c.toNat = 9)) := by
  unfold blank
  rw [Bool.eq_iff_iff]
  simp only [Bool.or_eq_true, beq_iff_eq, decide_eq_true_eq, ← UInt8.toNat_inj]
  exact Iff.rfl
theorem eq61 (c : UInt8) : decide (c ≠ 61) = decide (c.toNat ≠ 61) := by
  rw [decide_eq_decide]
  exact (not_congr (UInt8.toNat_inj (a := c) (b := 61))).symm
theorem asItself_is (c : UInt8) (last : Bool) : asItself c last = if c.toNat = 32 ∨ c.toNat = 9 then !last else decide (33 ≤ c.toNat) && decide (c.toNat ≤ 126) && decide (c.toNat ≠ 61) := by
  unfold asItself
  rw [blank_is, eq61]
  simp only [Bool.or_eq_true, decide_eq_true_eq]
theorem quoted_any (c : UInt8) (last : Bool) (w : World) :
    Calls Tryd.prog 43 #[.int .u8 c.toNat, .bool last] w fun e w' => e = .returned (.bool (asItself c last)) ∧ w = w' := by
  have HA := Lib.hid (asItself_is c last)
  rw [HA.out]
  clear HA
  have hlt := c.toNat_lt
  generalize c.toNat = x at hlt
  rcases (show x = 32 ∨ x = 9 ∨ (x < 33 ∧ x ≠ 32 ∧ x ≠ 9) ∨ x = 61 ∨ (33 ≤ x ∧ x ≤ 126 ∧ x ≠ 61) ∨ 126 < x by omega) with h | h | h | h | h | h
  · subst h
    go_enter Tryd.func43, Tryd.ntmps43
    go_wp2
    go_ret
    exact ⟨rfl, rfl⟩
  · subst h
    go_enter Tryd.func43, Tryd.ntmps43
    go_wp2
    go_ret
    exact ⟨rfl, rfl⟩
  · have e1 : ((x : Int) == 32) = false := by rw [beq_eq_false_iff_ne]; omega
    have e2 : ((x : Int) == 9) = false := by rw [beq_eq_false_iff_ne]; omega
    rw [if_neg (by omega), decide_eq_false (show ¬ 33 ≤ x by omega)]
    go_enter Tryd.func43, Tryd.ntmps43
    go_wp2
    go_ret
    exact ⟨rfl, rfl⟩
  · subst h
    go_enter Tryd.func43, Tryd.ntmps43
    go_wp2
    go_ret
    exact ⟨rfl, rfl⟩
  · have e1 : ((x : Int) == 32) = false := by rw [beq_eq_false_iff_ne]; omega
    have e2 : ((x : Int) == 9) = false := by rw [beq_eq_false_iff_ne]; omega
    have e3 : ((x : Int) != 61) = true := by rw [bne_iff_ne]; omega
    rw [if_neg (by omega), decide_eq_true (show 33 ≤ x by omega), decide_eq_true (show x ≤ 126 by omega), decide_eq_true (show x ≠ 61 by omega)]
    go_enter Tryd.func43, Tryd.ntmps43
    go_wp2
    go_ret
    exact ⟨rfl, rfl⟩
  · have e1 : ((x : Int) == 32) = false := by rw [beq_eq_false_iff_ne]; omega
    have e2 : ((x : Int) == 9) = false := by rw [beq_eq_false_iff_ne]; omega
    rw [if_neg (by omega), decide_eq_false (show ¬ x ≤ 126 by omega), Bool.and_false, Bool.false_and]
    go_enter Tryd.func43, Tryd.ntmps43
    go_wp2
    go_ret
    exact ⟨rfl, rfl⟩

theorem lineQ_cons (n : Nat) (c : UInt8) (t : List UInt8) : lineQ n (c :: t) = put n (piece c t.isEmpty) ++ lineQ (after n (piece c t.isEmpty)) t := rfl
theorem rest_empty (s : ByteArray) (k : Nat) (h : k < s.size) : (s.data.toList.drop (k + 1)).isEmpty = decide (k + 1 = s.size) := by
  rw [Bool.eq_iff_iff, List.isEmpty_iff, List.drop_eq_nil_iff, ← size_list, decide_eq_true_eq]
  omega

set_option maxHeartbeats 8000000 in
set_option maxRecDepth 1000000 in
theorem line_any (s : ByteArray) (hs : s.size ≤ 1000000) (b : Nat) (l : List UInt8) (hl : l.length ≤ 100000000) (w : World) (hB : Bd w b l) :
    Calls Tryd.prog 31 #[.pointer (some ⟨b, 0, none⟩), .string s] w fun e w' => e = .returned (.tuple #[]) ∧ Bd w' b (l ++ lineQ 0 s.data.toList) ∧ Below b w w' := by
  obtain ⟨ANS, hANS⟩ : ∃ ANS, l ++ lineQ 0 s.data.toList = ANS := ⟨_, rfl⟩
  rw [hANS]
  have HA := Lib.hid hANS
  clear hANS
  go_enter Tryd.func31, Tryd.ntmps31
  go_wp2
  go_loopw [9, 4] (fun i n wr => ∃ (k m : Nat) (acc : List UInt8), k ≤ s.size ∧ i = .int .i64 k ∧ n = .int .i64 m ∧ m ≤ 75 ∧ Bd wr b acc ∧ Below b w wr ∧ Hid (acc ++ lineQ m (s.data.toList.drop k) = ANS) ∧ acc.length ≤ l.length + 6 * k)
    (fun i _ _ => s.size - (intOf i).toNat)
  case atStart => exact ⟨0, 0, l, Nat.zero_le _, rfl, rfl, Nat.zero_le _, hB, Below.refl _ _, HA, Nat.le_refl _⟩
  case round =>
    clear hB HA
    obtain ⟨k, m, acc, hk, rfl, rfl, hm, hB, hbw, hacc, hal⟩ := hrel
    have hszr := hB.lt
    by_cases hlt : k < s.size
    · obtain ⟨T, hT⟩ : ∃ T, s.extract k (k + 1) = T := ⟨_, rfl⟩
      have hTl : T.data.toList = [s[k]] := by rw [← hT]; exact part_one s k hlt
      have hTs : T.size = 1 := by rw [size_list, hTl]; rfl
      have hT0 : T[0] = s[k] := by
        rw [← at_list T 0 (by omega) (by rw [hTl]; exact Nat.one_pos)]
        simp [hTl]
      have hsl : ∀ W, (Instr.slice 9 (.string s) (some (.int .i64 k)) (some (.int .i64 ((k : Int) + 1))) none).run Tryd.prog W = .ok (.string T) W := fun W => by rw [← hT]; exact run_slice_str s k (k + 1) _ (by omega) (by omega) (by omega) W
      have hd := lineQ_cons m s[k] (s.data.toList.drop (k + 1))
      rw [← drop_cons s k hlt, rest_empty s k hlt] at hd
      have hle : ((k : Int) == (s.size : Int) - 1) = decide (k + 1 = s.size) := by
        rw [Bool.eq_iff_iff, beq_iff_eq, decide_eq_true_eq]; omega
      obtain ⟨last, hlast⟩ : ∃ last, decide (k + 1 = s.size) = last := ⟨_, rfl⟩
      rw [hlast] at hd hle
      have hp := piece_length s[k] last
      have hesc := fun W => escaped_any T s[k] hTl W
      have hTT : T = strL [s[k]] := strL_is hTl
      have hcall := fun W => quoted_any s[k] last W
      have hap := after_le (n := m) s[k] last
      have hz : (⟨#[61, 13, 10]⟩ : ByteArray).size = 3 := rfl
      have hy1 : acc.length + (⟨#[61, 13, 10]⟩ : ByteArray).size ≤ 140737488355328 := by rw [hz]; omega
      have hy2 : (acc ++ (⟨#[61, 13, 10]⟩ : ByteArray).data.toList).length + T.size ≤ 140737488355328 := by rw [List.length_append, ← size_list, hz]; omega
      have hy3 : (acc ++ (⟨#[61, 13, 10]⟩ : ByteArray).data.toList).length + (strL (esc s[k])).size ≤ 140737488355328 := by rw [List.length_append, ← size_list, hz, strL_size, show (esc s[k]).length = 3 from rfl]; omega
      have hy4 : acc.length + T.size ≤ 140737488355328 := by omega
      have hy5 : acc.length + (strL (esc s[k])).size ≤ 140737488355328 := by rw [strL_size, show (esc s[k]).length = 3 from rfl]; omega
      have HY1 := Lib.hid hy1
      have HY2 := Lib.hid hy2
      have HY3 := Lib.hid hy3
      have HY4 := Lib.hid hy4
      have HY5 := Lib.hid hy5
      clear hz hy1 hy2 hy3 hy4 hy5
      cases hq : asItself s[k] last with
      | true =>
        have hpc : piece s[k] last = T.data.toList := by rw [hTl]; unfold piece; rw [hq]; rfl
        rw [hpc] at hd hp hap
        simp only [hq] at hcall
        have HE := Lib.hid hesc
        have HC := Lib.hid hcall
        have HD := Lib.hid hd
        have HAP := Lib.hid hap
        clear hesc hcall hd hap hq hpc hTT hT hTl hlast
        by_cases hov : m + 1 > 75
        · have hpu : put m T.data.toList = [61, 13, 10] ++ T.data.toList ∧ after m T.data.toList = 1 := by
            unfold put after
            rw [← size_list, hTs, if_pos hov, if_pos hov]
            exact ⟨rfl, rfl⟩
          rw [hpu.1, hpu.2] at HD
          have HPU := Lib.hid hpu
          clear hpu
          go_wp2_with (first
            | (go_at_call 43; refine (HC.out wr).mono ?_; rintro e w' ⟨rfl, rfl⟩)
            | (go_at_call 26; with_reducible refine (bd_str ⟨#[61, 13, 10]⟩ b acc wr hB HY1.out).mono ?_; rintro e w3 ⟨rfl, hB3, hb3⟩)
            | (go_at_call 26; with_reducible refine (bd_str T b _ _ (by assumption) HY2.out).mono ?_; rintro e w4 ⟨rfl, hB4, hb4⟩))
          go_roundw
          case rel =>
            refine ⟨k + 1, 1, _, by omega, by go_num, by go_num, by omega, hB4, (hbw.trans hb3).trans hb4, Lib.hid ?_, by simp only [List.length_append, ← size_list, hTs]; simp; omega⟩
            rw [← hacc.out, HD.out, List.append_assoc, List.append_assoc, List.append_assoc]
          case measure => simp [intOf]; omega
        · have hpu : put m T.data.toList = T.data.toList ∧ after m T.data.toList = m + 1 := by
            unfold put after
            rw [← size_list, hTs, if_neg hov, if_neg hov]
            exact ⟨rfl, rfl⟩
          rw [hpu.1, hpu.2] at HD
          have HPU := Lib.hid hpu
          clear hpu
          go_wp2_with (first
            | (go_at_call 43; refine (HC.out wr).mono ?_; rintro e w' ⟨rfl, rfl⟩)
            | (go_at_call 26; with_reducible refine (bd_str T b _ _ hB HY4.out).mono ?_; rintro e w4 ⟨rfl, hB4, hb4⟩))
          go_roundw
          case rel =>
            refine ⟨k + 1, m + 1, _, by omega, by go_num, by go_num, by omega, hB4, hbw.trans hb4, Lib.hid ?_, by simp only [List.length_append, ← size_list, hTs]; omega⟩
            rw [← hacc.out, HD.out, List.append_assoc]
          case measure => simp [intOf]; omega
      | false =>
        have hpc : piece s[k] last = esc s[k] := by unfold piece; rw [hq]; rfl
        rw [hpc] at hd hp hap
        simp only [hq] at hcall
        have hel : (strL (esc s[k])).size = 3 := by rw [strL_size]; rfl
        have HE := Lib.hid hesc
        have HC := Lib.hid hcall
        have HD := Lib.hid hd
        have HAP := Lib.hid hap
        clear hesc hcall hd hap hq hpc hTT hT hTl hlast
        by_cases hov : m + 3 > 75
        · have hpu : put m (esc s[k]) = [61, 13, 10] ++ (esc s[k]) ∧ after m (esc s[k]) = 3 := by
            unfold put after
            rw [show (esc s[k]).length = 3 from rfl, if_pos hov, if_pos hov]
            exact ⟨rfl, rfl⟩
          rw [hpu.1, hpu.2] at HD
          have HPU := Lib.hid hpu
          clear hpu
          go_wp2_with (first
            | (go_at_call 43; refine (HC.out wr).mono ?_; rintro e w' ⟨rfl, rfl⟩)
            | (go_at_call 44; refine (HE.out wr).mono ?_; rintro e w2 ⟨rfl, hb2⟩; have hB2 := hB.below hb2)
            | (go_at_call 26; with_reducible refine (bd_str ⟨#[61, 13, 10]⟩ b acc _ (by assumption) HY1.out).mono ?_; rintro e w3 ⟨rfl, hB3, hb3⟩)
            | (go_at_call 26; with_reducible refine (bd_str (strL (esc s[k])) b _ _ (by assumption) HY3.out).mono ?_; rintro e w4 ⟨rfl, hB4, hb4⟩))
          go_roundw
          case rel =>
            refine ⟨k + 1, 3, _, by omega, by go_num, by go_num, by omega, hB4, ((hbw.trans (hb2.mono (Nat.le_of_lt hszr))).trans hb3).trans hb4, Lib.hid ?_, by simp only [List.length_append, ← size_list, hel]; simp; omega⟩
            rw [← hacc.out, HD.out, List.append_assoc, List.append_assoc, List.append_assoc]
            rfl
          case measure => simp [intOf]; omega
        · have hpu : put m (esc s[k]) = esc s[k] ∧ after m (esc s[k]) = m + 3 := by
            unfold put after
            rw [show (esc s[k]).length = 3 from rfl, if_neg hov, if_neg hov]
            exact ⟨rfl, rfl⟩
          rw [hpu.1, hpu.2] at HD
          have HPU := Lib.hid hpu
          clear hpu
          go_wp2_with (first
            | (go_at_call 43; refine (HC.out wr).mono ?_; rintro e w' ⟨rfl, rfl⟩)
            | (go_at_call 44; refine (HE.out wr).mono ?_; rintro e w2 ⟨rfl, hb2⟩; have hB2 := hB.below hb2)
            | (go_at_call 26; with_reducible refine (bd_str (strL (esc s[k])) b _ _ (by assumption) HY5.out).mono ?_; rintro e w4 ⟨rfl, hB4, hb4⟩))
          go_roundw
          case rel =>
            refine ⟨k + 1, m + 3, _, by omega, by go_num, by go_num, by omega, hB4, (hbw.trans (hb2.mono (Nat.le_of_lt hszr))).trans hb4, Lib.hid ?_, by simp only [List.length_append, ← size_list, hel]; omega⟩
            rw [← hacc.out, HD.out, List.append_assoc]
            rfl
          case measure => simp [intOf]; omega
    · have hend : acc = ANS := by
        rw [← hacc.out, List.drop_eq_nil_of_le (by rw [← size_list]; omega)]
        simp [lineQ]
      subst hend
      clear hacc
      go_wp2
      go_end0
      exact ⟨rfl, hB, hbw⟩
end Go.Proofs.YtblbajhjmdcdiaaDoor
