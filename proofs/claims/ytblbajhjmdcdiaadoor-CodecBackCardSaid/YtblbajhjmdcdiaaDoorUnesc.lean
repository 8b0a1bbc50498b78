/- A text's escape sequences decoded; the Q encoding. -/
import Derived.Test.YtblbajhjmdcdiaaDoorEsc
namespace Go.Proofs.YtblbajhjmdcdiaaDoor
open Go.ChangeShapes Go.WideShapes Go.ChangeAt Go.RowKit

theorem esc_some {l : List UInt8} {b : UInt8} (h : escHead l = some b) : escG 0 l = b :: escG 0 (l.drop 3) ∧ 3 ≤ l.length := by
  match l, h with
  | [], h => cases h
  | c :: t, h =>
    obtain ⟨x, y, r, rfl, rfl, _⟩ := escHead_long h
    refine ⟨?_, by simp⟩
    rw [escG_some h]
    rfl
theorem esc_none {c : UInt8} {l : List UInt8} (h : escHead (c :: l) = none) : escG 0 (c :: l) = c :: escG 0 l := escG_none h

set_option maxHeartbeats 4000000 in
set_option maxRecDepth 1000000 in
theorem unescaped_any (s : ByteArray) (hs : s.size ≤ 1000000) (w : World) :
    Calls Tryd.prog 37 #[.string s] w fun e w' => e = .returned (.string (strL (escapes s.data.toList))) ∧ Below w.heap.size w w' := by
  obtain ⟨ANS, hANS⟩ : ∃ ANS, escapes s.data.toList = ANS := ⟨_, rfl⟩
  rw [hANS]
  have HA := Lib.hid hANS
  clear hANS
  go_enter Tryd.func37, Tryd.ntmps37
  go_wp2_with (go_at_call 50; refine (Tryd.Builder_Grow_fresh w.heap.size w.heap.size s.size _ (Nat.le_refl _) (Go.heap_alloc_new _ _) (by simp) (by omega)).mono ?_)
  rintro e W1 ⟨rfl, hI0, hb0⟩
  have hb1 : Below w.heap.size w W1 := ((Below.refl _ w).alloc (Nat.le_refl _) _).trans hb0
  have hB1 : Bd W1 w.heap.size [] := .inr hI0
  clear hI0 hb0
  go_wp2
  go_loopw [4] (fun i wr => ∃ (k : Nat) (acc : List UInt8), k ≤ s.size ∧ i = .int .i64 k ∧ Bd wr w.heap.size acc ∧ Below w.heap.size w wr ∧ Hid (acc ++ escG 0 (s.data.toList.drop k) = ANS) ∧ acc.length ≤ k)
    (fun i _ => s.size - (intOf i).toNat)
  case atStart => exact ⟨0, [], Nat.zero_le _, rfl, hB1, hb1, Lib.hid HA.out, Nat.le_refl _⟩
  case round =>
    clear hB1 hb1 HA
    obtain ⟨k, acc, hk, rfl, hB, hbw, hacc, hal⟩ := hrel
    have hszr := hB.lt
    by_cases hlt : k < s.size
    · have hst := start_any (s.extract k s.size) (by rw [ByteArray.size_extract]; omega)
      rw [part_rest s k hk] at hst
      cases hh : escHead (s.data.toList.drop k) with
      | some b =>
        have hd := esc_some hh
        have h3 : k + 3 ≤ s.size := by
          have := hd.2
          rw [List.length_drop, ← size_list] at this
          omega
        have hb' : headL (s.data.toList.drop k) = [b] := by unfold headL; rw [hh]
        rw [hb', hh] at hst
        have HD := Lib.hid hd.1
        have HS := Lib.hid hst
        clear hd hst hh hb'
        go_wp2_with (go_at_call 51; refine (HS.out _).mono ?_)
        rintro e w2 ⟨rfl, hb2⟩
        have hB2 := hB.below hb2
        go_wp2_with (go_at_call 26; refine (bd_str (strL [b]) w.heap.size acc w2 hB2 (by rw [strL_size]; simp only [List.length_cons, List.length_nil]; omega)).mono ?_)
        rintro e w3 ⟨rfl, hB3, hb3⟩
        go_wp2
        go_roundw
        case rel =>
          refine ⟨k + 3, acc ++ [b], h3, by go_num, hB3, (hbw.trans (hb2.mono (Nat.le_of_lt hszr))).trans hb3, Lib.hid ?_, by simp only [List.length_append, List.length_cons, List.length_nil]; omega⟩
          rw [← hacc.out, HD.out, List.drop_drop, List.append_assoc]
          rfl
        case measure => simp [intOf]; omega
      | none =>
        have hd := drop_cons s k hlt
        have hb' : headL (s.data.toList.drop k) = [] := by unfold headL; rw [hh]
        rw [hb', hh] at hst
        rw [hd] at hh
        have HD := Lib.hid (esc_none hh)
        have HC := Lib.hid hd
        have HS := Lib.hid hst
        clear hd hst hh hb'
        go_wp2_with (go_at_call 51; refine (HS.out _).mono ?_)
        rintro e w2 ⟨rfl, hb2⟩
        have hB2 := hB.below hb2
        go_wp2_with (go_at_call 52; refine (bd_byte s[k] w.heap.size acc w2 hB2 (by omega)).mono ?_)
        rintro e w3 ⟨rfl, hB3, hb3⟩
        go_wp2
        go_roundw
        case rel =>
          refine ⟨k + 1, acc ++ [s[k]], by omega, by go_num, hB3, (hbw.trans (hb2.mono (Nat.le_of_lt hszr))).trans hb3, Lib.hid ?_, by simp only [List.length_append, List.length_cons, List.length_nil]; omega⟩
          rw [← hacc.out, HC.out, HD.out, List.append_assoc]
          rfl
        case measure => simp [intOf]; omega
    · have hend : acc = ANS := by
        rw [← hacc.out, List.drop_eq_nil_of_le (by rw [← size_list]; omega)]
        simp [escG]
      subst hend
      clear hacc
      go_wp2_with (go_at_call 27; refine (bd_out w.heap.size acc wr hB).mono ?_)
      rintro e W2 ⟨rfl, b1⟩
      go_wp2
      go_ret
      exact ⟨rfl, hbw.trans b1⟩

/-! ### Q -/
theorem index_cons (c d : UInt8) (t : List UInt8) : Lib.index (c :: t) [d] = if ([d] : List UInt8).isPrefixOf (c :: t) = true then 0 else if (Lib.index t [d] == -1) = true then -1 else Lib.index t [d] + 1 := rfl
theorem prefix_one (c d : UInt8) (t : List UInt8) : ([d] : List UInt8).isPrefixOf (c :: t) = (d == c) := by simp [List.isPrefixOf]
theorem index_one (c d : UInt8) (t : List UInt8) (hc : Lib.index t [d] = -1 ∨ 0 ≤ Lib.index t [d]) : (0 ≤ Lib.index (c :: t) [d]) ↔ (c = d ∨ 0 ≤ Lib.index t [d]) := by
  rw [index_cons, prefix_one]
  by_cases h : c = d
  · subst h
    simp
  · rw [if_neg (by rw [beq_iff_eq]; exact fun e => h e.symm)]
    rcases hc with e | e
    · rw [e]; simp [h]
    · rw [if_neg (by rw [beq_iff_eq]; omega)]
      simp only [h, false_or]
      omega
theorem index_or (s t : List UInt8) : Lib.index s t = -1 ∨ 0 ≤ Lib.index s t := by have := Lib.index_ge s t; omega
theorem index_mem (d : UInt8) : ∀ t : List UInt8, (0 ≤ Lib.index t [d]) ↔ d ∈ t
  | [] => by simp [Lib.index]
  | c :: t => by rw [index_one c d t (index_or _ _), index_mem d t, List.mem_cons, eq_comm]
theorem contains_mem (d : UInt8) (t : List UInt8) : Lib.contains t [d] = decide (d ∈ t) := by
  unfold Lib.contains
  rw [decide_eq_decide]
  exact index_mem d t

def isMark (x : Nat) : Bool := decide (x = 33) || decide (x = 42) || decide (x = 43) || decide (x = 45) || decide (x = 47)
theorem mark_mem (c : UInt8) : decide (c ∈ ([33, 42, 43, 45, 47] : List UInt8)) = isMark c.toNat := by
  unfold isMark
  rw [Bool.eq_iff_iff]
  simp only [decide_eq_true_eq, Bool.or_eq_true, List.mem_cons, List.not_mem_nil, or_false, ← UInt8.toNat_inj, or_assoc]
  exact Iff.rfl
theorem space_is (c : UInt8) : c = 32 ↔ c.toNat = 32 := by rw [← UInt8.toNat_inj]; rfl
theorem qByte_sp {c : UInt8} (h : c.toNat = 32) : qByte c = [95] := if_pos ((space_is c).2 h)
theorem qByte_go {c : UInt8} (h : c.toNat ≠ 32) : qByte c = if qPlain c.toNat = true then [c] else esc c := if_neg (fun e => h ((space_is c).1 e))
theorem qPlain_is (x : Nat) : qPlain x = (decide (65 ≤ x ∧ x ≤ 90) || decide (97 ≤ x ∧ x ≤ 122) || decide (48 ≤ x ∧ x ≤ 57) || isMark x) := by
  unfold qPlain isMark
  simp [Bool.or_assoc]

set_option maxHeartbeats 4000000 in
set_option maxRecDepth 1000000 in
theorem word_any (s : ByteArray) (c : UInt8) (hs : s.data.toList = [c]) (w : World) (hv : Vars w) :
    Calls Tryd.prog 39 #[.string s] w fun e w' => e = .returned (.string (strL (qByte c))) ∧ Below w.heap.size w w' := by
  obtain ⟨m, hm⟩ := hv.len
  have hsz : s.size = 1 := by rw [size_list, hs]; rfl
  have h0 : s[0] = c := by
    rw [← at_list s 0 (by omega) (by rw [hs]; exact Nat.one_pos)]
    simp [hs]
  obtain ⟨b, hb⟩ : ∃ b, isMark c.toNat = b := ⟨_, rfl⟩
  have h54 : Calls Tryd.prog 54 #[.string ⟨#[33, 42, 43, 45, 47]⟩, .string s] w fun e w' => e = .returned (.bool b) ∧ w' = w := by
    have := Tryd.strings_Contains ⟨#[33, 42, 43, 45, 47]⟩ s m w (by decide) hm
    rw [hs, contains_mem] at this
    rw [← hb, ← mark_mem]
    exact this
  have h44 := escaped_any s c hs w
  have hS : strL [c] = s := (strL_is hs).symm
  have hlt := c.toNat_lt
  have H54 := Lib.hid h54
  have H44 := Lib.hid h44
  have HS := Lib.hid hS
  clear h54 h44 hm hs hS
  by_cases h32 : c.toNat = 32
  · rw [qByte_sp h32]
    go_enter Tryd.func39, Tryd.ntmps39
    go_wp2_with fail
    go_ret
    exact ⟨rfl, Below.refl _ _⟩
  · have HQ := Lib.hid (qByte_go h32)
    have HP := Lib.hid (qPlain_is c.toNat)
    have HB := Lib.hid hb
    clear hb
    rw [HQ.out]
    have he : ((c.toNat : Int) == 32) = false := by rw [beq_eq_false_iff_ne]; omega
    by_cases hp : (65 ≤ c.toNat ∧ c.toNat ≤ 90) ∨ (97 ≤ c.toNat ∧ c.toNat ≤ 122) ∨ (48 ≤ c.toNat ∧ c.toNat ≤ 57)
    · have hq : qPlain c.toNat = true := by rw [HP.out]; simp only [Bool.or_eq_true, decide_eq_true_eq]; omega
      rw [if_pos hq, HS.out]
      clear HQ HP HB hq
      rcases hp with hp | hp | hp
      all_goals
        go_enter Tryd.func39, Tryd.ntmps39
        go_wp2_with fail
        go_ret
        exact ⟨rfl, Below.refl _ _⟩
    · have hq : qPlain c.toNat = b := by rw [HP.out, HB.out]; simp only [show ¬ (65 ≤ c.toNat ∧ c.toNat ≤ 90) by omega, show ¬ (97 ≤ c.toNat ∧ c.toNat ≤ 122) by omega, show ¬ (48 ≤ c.toNat ∧ c.toNat ≤ 57) by omega, decide_false, Bool.false_or]
      rw [hq]
      clear HQ HP HB hq
      rcases (show c.toNat < 48 ∨ (57 < c.toNat ∧ c.toNat < 65) ∨ (90 < c.toNat ∧ c.toNat < 97) ∨ 122 < c.toNat by omega) with h | h | h | h
      all_goals
        cases b with
        | true =>
          rw [if_pos rfl, HS.out]
          go_enter Tryd.func39, Tryd.ntmps39
          go_wp2_with (go_at_call 54; refine H54.out.mono ?_; rintro e w' ⟨rfl, rfl⟩)
          go_ret
          exact ⟨rfl, Below.refl _ _⟩
        | false =>
          rw [if_neg (by decide)]
          go_enter Tryd.func39, Tryd.ntmps39
          go_wp2_with (first
            | (go_at_call 54; refine H54.out.mono ?_; rintro e w' ⟨rfl, rfl⟩)
            | (go_at_call 44; refine H44.out.mono ?_; rintro e w' ⟨rfl, hb2⟩))
          go_ret
          exact ⟨rfl, hb2⟩
end Go.Proofs.YtblbajhjmdcdiaaDoor
