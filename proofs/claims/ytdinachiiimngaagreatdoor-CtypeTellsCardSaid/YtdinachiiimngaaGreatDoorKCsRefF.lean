/- The reference: the first code point of a string. -/
import Derived.Test.YtdinachiiimngaaGreatDoorK11
import Derived.Deep.QuietTactic
import Derived.BigQuiet
namespace Go.Proofs.YtdinachiiimngaaGreatDoor.Cs
open Go.ChangeShapes Go.WideShapes Go.ChangeAt Go.RowKit

/-- The encoding of a code point in a block of its own: what it holds, and what it is as a string. -/
theorem laid_is (n : Nat) (hn : cpB n = true) (z : ByteArray) (hz : z.data.toList = encL n) (k : Nat) (hk : (encL n).length = k) (w : World) :
    Calls Tryz.prog 189 #[.int .i64 n] w fun e w' => ∃ g, e = .returned (.slice (some ⟨g, 0, none⟩) k k) ∧ (convert 59 9 (.slice (some ⟨g, 0, none⟩) k k)).run Tryz.prog w' = .ok (.string z) w' ∧ (∀ j u, (cellsOf (encL n))[j]? = some u → w'.cell? ((⟨g, 0, none⟩ : Addr).add j) = some u) ∧ w.grownBy w' none ∧ w.heap.size = g ∧ Below w.heap.size w w' := by
  refine (laid_any n hn w).mono fun e w' ⟨he, hw⟩ => ⟨w.heap.size, ?_, ?_, ?_, ?_, rfl, ?_⟩
  · rw [he, hk]
  · rw [hw, show z = ⟨(encL n).toArray⟩ from bytes_is (by rw [hz])]
    exact conv_new (encL n) k hk w
  · rw [hw]; exact bytes_new w (encL n)
  · rw [hw]; exact World.grownBy_alloc _ _ _
  · rw [hw]; exact (Below.refl _ _).alloc (Nat.le_refl _) _

def baseN (m : Nat) : Nat := if m = 2 then 192 else if m = 3 then 224 else if m = 4 then 240 else 0
/-- What the reference reckons of the first bytes. -/
def vpart (l : List UInt8) (m : Nat) : Nat → Int
  | 0 => ((l.getD 0 0).toNat : Int) - (baseN m : Int)
  | j + 1 => 64 * vpart l m j + ((l.getD (j + 1) 0).toNat : Int) - 128
theorem vpart_bound (l : List UInt8) (m i : Nat) (h : i ≤ 3) : -100000000 ≤ vpart l m i ∧ vpart l m i ≤ 100000000 := by
  have hb : baseN m ≤ 240 := by unfold baseN; (repeat' split) <;> omega
  have k0 := (l.getD 0 0).toNat_lt
  have k1 := (l.getD 1 0).toNat_lt
  have k2 := (l.getD 2 0).toNat_lt
  have k3 := (l.getD 3 0).toNat_lt
  have e : i = 0 ∨ i = 1 ∨ i = 2 ∨ i = 3 := by omega
  rcases e with rfl | rfl | rfl | rfl <;> simp only [vpart, Nat.zero_add, Nat.reduceAdd] <;> omega
def testM (l : List UInt8) (m : Nat) : Bool := sgn (vpart l m (m - 1)) && decide (encL (vpart l m (m - 1)).toNat = l.take m)
theorem test_true {l : List UInt8} {m : Nat} (hm : m ≤ l.length) (h : testM l m = true) : firstS l = some (vpart l m (m - 1)).toNat ∧ (encL (vpart l m (m - 1)).toNat).length = m := by
  unfold testM at h
  rw [Bool.and_eq_true, decide_eq_true_eq] at h
  have h1 := first_enc ((sgn_iff _).1 h.1).2 (l.drop m)
  rw [h.2, List.take_append_drop] at h1
  refine ⟨h1, ?_⟩
  rw [h.2, List.length_take]
  omega
theorem test_first {l : List UInt8} {n : Nat} (h : firstS l = some n) : testM l (encL n).length = true := by
  obtain ⟨hc, t, rfl⟩ := first_some' h
  have hcz := (cp_iff n).1 hc
  have hv : vpart (encL n ++ t) (encL n).length ((encL n).length - 1) = (n : Int) := by
    unfold encL
    by_cases c1 : n < 128
    · simp only [if_pos c1, List.length_cons, List.length_nil, vpart, List.cons_append, List.getD_cons_zero, Nat.zero_add, Nat.sub_self]
      rw [u8_of (by omega)]
      unfold baseN
      simp
    · simp only [if_neg c1]
      by_cases c2 : n < 2048
      · simp only [if_pos c2, List.length_cons, List.length_nil, vpart, List.cons_append, List.getD_cons_zero, List.getD_cons_succ, Nat.zero_add, Nat.reduceAdd, Nat.add_one_sub_one]
        rw [u8_of (show 192 + n / 64 < 256 by omega), u8_of (show 128 + n % 64 < 256 by omega)]
        unfold baseN
        simp only [if_pos]
        omega
      · simp only [if_neg c2]
        by_cases c3 : n < 65536
        · simp only [if_pos c3, List.length_cons, List.length_nil, vpart, List.cons_append, List.getD_cons_zero, List.getD_cons_succ, Nat.zero_add, Nat.reduceAdd, Nat.add_one_sub_one]
          rw [u8_of (show 224 + n / 4096 < 256 by omega), u8_of (show 128 + n / 64 % 64 < 256 by omega), u8_of (show 128 + n % 64 < 256 by omega)]
          unfold baseN
          simp only [if_pos, show ¬ (3 = 2) by decide, if_false]
          omega
        · simp only [if_neg c3, List.length_cons, List.length_nil, vpart, List.cons_append, List.getD_cons_zero, List.getD_cons_succ, Nat.zero_add, Nat.reduceAdd, Nat.add_one_sub_one]
          rw [u8_of (show 240 + n / 262144 < 256 by omega), u8_of (show 128 + n / 4096 % 64 < 256 by omega), u8_of (show 128 + n / 64 % 64 < 256 by omega), u8_of (show 128 + n % 64 < 256 by omega)]
          unfold baseN
          simp only [if_pos, show ¬ (4 = 2) by decide, show ¬ (4 = 3) by decide, if_false]
          omega
  unfold testM
  rw [hv, sgn_nat hc, Int.toNat_natCast, Bool.true_and, decide_eq_true_eq, List.take_left]
def firstO (l : List UInt8) : Nat × Nat × Bool := match firstS l with | some n => (n, (encL n).length, true) | none => (65533, 1, false)
theorem firstO_hit {l : List UInt8} {m : Nat} (hm : m ≤ l.length) (h : testM l m = true) : firstO l = ((vpart l m (m - 1)).toNat, m, true) := by
  obtain ⟨h1, h2⟩ := test_true hm h
  unfold firstO
  rw [h1]
  simp only [h2]
theorem firstO_miss {l : List UInt8} {m : Nat} (h : ∀ j, 1 ≤ j → j < m → j ≤ l.length → testM l j = false) (hm : 4 < m ∨ l.length < m) : firstO l = (65533, 1, false) := by
  unfold firstO
  cases hf : firstS l with
  | none => rfl
  | some n =>
    have h1 := test_first hf
    have h2 := enc_len n
    have h3 : (encL n).length ≤ l.length := by
      obtain ⟨_, t, ht⟩ := first_some' hf
      have := congrArg List.length ht
      rw [List.length_append] at this
      omega
    have h4 := h (encL n).length h2.1 (by omega) h3
    rw [h1] at h4
    cases h4
theorem byte_at (s : ByteArray) (k : Nat) (h : k < s.size) : s.data.toList.getD k 0 = s[k] := by
  have h' : k < s.data.toList.length := by rw [Array.length_toList]; exact h
  rw [List.getD_eq_getElem?_getD, List.getElem?_eq_getElem h']
  rfl
theorem list_extract (s : ByteArray) (m : Nat) : (s.extract 0 m).data.toList = s.data.toList.take m := by
  rw [ByteArray.data_extract, Array.toList_extract]
  simp

set_option maxHeartbeats 8000000 in
set_option maxRecDepth 1000000 in
theorem first_any (s : ByteArray) (h0 : 0 < s.size) (hs : s.size ≤ 4000000) (N K : Nat) (B : Bool) (hO : firstO s.data.toList = (N, K, B)) (w : World) :
    Calls Tryz.prog 212 #[.string s] w fun e w' => e = .returned (.tuple #[.int .i64 N, .int .i64 K, .bool B]) ∧ Below w.heap.size w w' := by
  have HO := Lib.hid hO
  clear hO
  have hlen : s.data.toList.length = s.size := rfl
  have HL := Lib.hid hlen
  clear hlen
  have hne : ((s.size : Int) == 0) = false := by rw [beq_eq_false_iff_ne]; omega
  go_enter Tryz.func212, Tryz.ntmps212
  go_wp2_with fail
  go_loopw [5] (fun mv wr => ∃ m : Nat, 1 ≤ m ∧ m ≤ 5 ∧ mv = .int .i64 m ∧ Hid (∀ j, 1 ≤ j → j < m → j ≤ s.data.toList.length → testM s.data.toList j = false) ∧ Below w.heap.size w wr) (fun mv _ => 5 - (intOf mv).toNat)
  case atStart => exact ⟨1, Nat.le_refl _, by omega, rfl, Lib.hid (fun j h1 h2 _ => by omega), Below.refl _ _⟩
  case round =>
    obtain ⟨m, hm1, hm5, rfl, HF, hbw⟩ := hrel
    have hszr : w.heap.size ≤ wr.heap.size := hbw.size
    by_cases h4 : m ≤ 4
    · by_cases hml : m ≤ s.size
      · have em : m = 1 ∨ m = 2 ∨ m = 3 ∨ m = 4 := by omega
        have hq0 : ∀ W, (Instr.index 9 (.string s) (.int .i64 0)).run Tryz.prog W = .ok (.int .u8 (s[0].toNat : Int)) W := fun W => run_index_str s 0 0 rfl h0 W
        have hx0 := UInt8.toNat_lt (s[0]'h0)
        have HB0 := Lib.hid (byte_at s 0 h0)
        have HV0 : Hid (∀ m, vpart s.data.toList m 0 = ((s[0]'h0).toNat : Int) - (baseN m : Int)) := Lib.hid (fun m => by rw [vpart, HB0.out])
        generalize (s[0]'h0).toNat = x0 at hq0 hx0 HV0
        clear HB0
        rcases em with rfl | rfl | rfl | rfl
        · have hm : ((1 : Nat) : Int) ≤ (s.size : Int) := by omega
          have hv0 := HV0.out 1
          rw [show ((baseN 1 : Nat) : Int) = 0 from rfl] at hv0
          have HV := Lib.hid hv0.symm
          clear hv0
          go_wp2_with fail
          go_loopw [6, 7] (fun nv iv wx => ∃ i : Nat, i + 1 ≤ 1 ∧ iv = .int .i64 ((i : Int) + 1) ∧ nv = .int .i64 (vpart s.data.toList 1 i) ∧ Below w.heap.size w wx) (fun _ iv _ => 1 - (intOf iv).toNat)
          case atStart => exact ⟨0, by omega, rfl, congrArg (Value.int .i64) (by have := HV.out; omega), by first | exact hbw | exact (hbw.alloc hszr _).drew | exact hbw.drew.alloc hszr _ | exact hbw.alloc hszr _⟩
          case round =>
            obtain ⟨i, hi, rfl, rfl, hbx⟩ := hrel
            have hvb := vpart_bound s.data.toList 1 i (by omega)
            by_cases hlt : i + 1 < 1
            · omega
            · obtain rfl : i = 0 := by omega
              have hi2 : ¬ (((0 : Nat) : Int) + 1 < ((1 : Nat) : Int)) := by omega
              have HT : Hid (testM s.data.toList 1 = (sgn (vpart s.data.toList 1 0) && decide (encL (vpart s.data.toList 1 0).toNat = s.data.toList.take 1))) := Lib.hid rfl
              have HH : Hid (testM s.data.toList 1 = true → firstO s.data.toList = ((vpart s.data.toList 1 0).toNat, 1, true)) := Lib.hid (firstO_hit (by rw [HL.out]; omega))
              generalize vpart s.data.toList 1 0 = v at HT HH hvb
              have hszx : w.heap.size ≤ wr.heap.size := hbx.size
              cases hsg : sgn v with
              | false =>
                have HF2 : Hid (∀ j, 1 ≤ j → j < 1 + 1 → j ≤ s.data.toList.length → testM s.data.toList j = false) := Lib.hid (fun j j1 j2 j3 => by
                  by_cases e : j = 1
                  · subst e; rw [HT.out, hsg]; rfl
                  · exact HF.out j j1 (by omega) j3)
                have KS := Lib.hid (fun w => (sign_any v false hsg w).mono fun e w' h => And.intro h.1 h.2.symm)
                clear hsg HT HH
                go_wp2_with fail
                go_quiet ((go_at_call 220; exact Calls.quiet_of_same (KS.out _)))
                go_wp2_with fail
                go_roundw
                all_goals first
                  | exact ⟨1 + 1, by omega, by omega, by go_num, HF2, below_drewN' hbx _⟩
                  | (simp [intOf]; done)
                  | (simp [intOf]; omega)
              | true =>
                obtain ⟨n, rfl⟩ : ∃ n : Nat, v = n := ⟨v.toNat, by have := ((sgn_iff v).1 hsg).1; omega⟩
                have hcn : cpB n = true := by have := ((sgn_iff (n : Int)).1 hsg).2; rwa [Int.toNat_natCast] at this
                obtain ⟨z, hz⟩ := list_of (encL n)
                obtain ⟨k, hk⟩ : ∃ k, (encL n).length = k := ⟨_, rfl⟩
                have htb : (z.toList == (s.extract 0 1).toList) = testM s.data.toList 1 := by
                  rw [eq_lists, bytes_eqb, HT.out, hsg, Bool.true_and, Int.toNat_natCast]
                  congr 1
                  rw [← hz]
                  refine propext ⟨fun e => by rw [e, list_extract], fun e => bytes_is (by rw [e, list_extract])⟩
                have KS := Lib.hid (fun w => sign_any (n : Int) true hsg w)
                have KL := Lib.hid (fun w => laid_is n hcn z hz k hk w)
                clear hz hk hcn hsg HT
                have hbd : Below w.heap.size w wr.drew := hbx.drew
                cases htm : testM s.data.toList 1 with
                | true =>
                  rw [htm] at htb
                  have HO2 := Lib.hid (HO.out.symm.trans (HH.out htm))
                  clear htm HH
                  go_wp2_with fail
                  go_region_with (first
                    | (go_at_call 220; refine (KS.out _).mono ?_; rintro e w5 ⟨rfl, rfl⟩)
                    | (go_at_call 189; refine (KL.out _).mono ?_; rintro e w6 ⟨g, rfl, hcv, _, _, _, hb6⟩))
                  all_goals go_wp2_with fail
                  all_goals go_ret3
                  all_goals (
                    have e1 := HO2.out
                    simp only [Prod.mk.injEq, Int.toNat_natCast] at e1
                    obtain ⟨rfl, rfl, rfl⟩ := e1
                    exact ⟨rfl, hbd.trans (hb6.mono hszx)⟩)
                | false =>
                  rw [htm] at htb
                  have HF2 : Hid (∀ j, 1 ≤ j → j < 1 + 1 → j ≤ s.data.toList.length → testM s.data.toList j = false) := Lib.hid (fun j j1 j2 j3 => by
                    by_cases e : j = 1
                    · subst e; exact htm
                    · exact HF.out j j1 (by omega) j3)
                  clear htm HH
                  go_wp2_with fail
                  go_region_with (first
                    | (go_at_call 220; refine (KS.out _).mono ?_; rintro e w5 ⟨rfl, rfl⟩)
                    | (go_at_call 189; refine (KL.out _).mono ?_; rintro e w6 ⟨g, rfl, hcv, _, _, _, hb6⟩))
                  all_goals go_wp2_with fail
                  all_goals go_roundw
                  all_goals first
                    | exact ⟨1 + 1, by omega, by omega, by go_num, HF2, hbd.trans (hb6.mono hszx)⟩
                    | (simp [intOf]; done)
                    | (simp [intOf]; omega)
        · have hm : ((2 : Nat) : Int) ≤ (s.size : Int) := by omega
          have hv0 := HV0.out 2
          rw [show ((baseN 2 : Nat) : Int) = 192 from rfl] at hv0
          have HV := Lib.hid hv0.symm
          clear hv0
          go_wp2_with fail
          go_region
          all_goals go_wp2_with fail
          go_loopw [6, 7] (fun nv iv wx => ∃ i : Nat, i + 1 ≤ 2 ∧ iv = .int .i64 ((i : Int) + 1) ∧ nv = .int .i64 (vpart s.data.toList 2 i) ∧ Below w.heap.size w wx) (fun _ iv _ => 2 - (intOf iv).toNat)
          case atStart => exact ⟨0, by omega, rfl, congrArg (Value.int .i64) (by have := HV.out; omega), by first | exact hbw | exact (hbw.alloc hszr _).drew | exact hbw.drew.alloc hszr _ | exact hbw.alloc hszr _⟩
          case round =>
            obtain ⟨i, hi, rfl, rfl, hbx⟩ := hrel
            have hvb := vpart_bound s.data.toList 2 i (by omega)
            by_cases hlt : i + 1 < 2
            · have his : i + 1 < s.size := by omega
              have hq : ∀ W, (Instr.index 9 (.string s) (.int .i64 ((i : Int) + 1))).run Tryz.prog W = .ok (.int .u8 (s[i + 1].toNat : Int)) W := fun W => run_index_str s _ (i + 1) (by omega) his W
              have hy := UInt8.toNat_lt (s[i + 1]'his)
              have HS : Hid (vpart s.data.toList 2 (i + 1) = 64 * vpart s.data.toList 2 i + ((s[i + 1]'his).toNat : Int) - 128) := Lib.hid (by rw [← byte_at s (i + 1) his]; rfl)
              generalize (s[i + 1]'his).toNat = y at hq hy HS
              generalize vpart s.data.toList 2 i = v at hvb HS
              have hi2 : (i : Int) + 1 < ((2 : Nat) : Int) := by omega
              go_wp2_with fail
              go_roundw
              case rel => exact ⟨i + 1, by omega, by go_num, by rw [HS.out], hbx⟩
              case measure => simp [intOf]; omega
            · obtain rfl : i = 1 := by omega
              have hi2 : ¬ (((1 : Nat) : Int) + 1 < ((2 : Nat) : Int)) := by omega
              have HT : Hid (testM s.data.toList 2 = (sgn (vpart s.data.toList 2 1) && decide (encL (vpart s.data.toList 2 1).toNat = s.data.toList.take 2))) := Lib.hid rfl
              have HH : Hid (testM s.data.toList 2 = true → firstO s.data.toList = ((vpart s.data.toList 2 1).toNat, 2, true)) := Lib.hid (firstO_hit (by rw [HL.out]; omega))
              generalize vpart s.data.toList 2 1 = v at HT HH hvb
              have hszx : w.heap.size ≤ wr.heap.size := hbx.size
              cases hsg : sgn v with
              | false =>
                have HF2 : Hid (∀ j, 1 ≤ j → j < 2 + 1 → j ≤ s.data.toList.length → testM s.data.toList j = false) := Lib.hid (fun j j1 j2 j3 => by
                  by_cases e : j = 2
                  · subst e; rw [HT.out, hsg]; rfl
                  · exact HF.out j j1 (by omega) j3)
                have KS := Lib.hid (fun w => (sign_any v false hsg w).mono fun e w' h => And.intro h.1 h.2.symm)
                clear hsg HT HH
                go_wp2_with fail
                go_quiet ((go_at_call 220; exact Calls.quiet_of_same (KS.out _)))
                go_wp2_with fail
                go_roundw
                all_goals first
                  | exact ⟨2 + 1, by omega, by omega, by go_num, HF2, below_drewN' hbx _⟩
                  | (simp [intOf]; done)
                  | (simp [intOf]; omega)
              | true =>
                obtain ⟨n, rfl⟩ : ∃ n : Nat, v = n := ⟨v.toNat, by have := ((sgn_iff v).1 hsg).1; omega⟩
                have hcn : cpB n = true := by have := ((sgn_iff (n : Int)).1 hsg).2; rwa [Int.toNat_natCast] at this
                obtain ⟨z, hz⟩ := list_of (encL n)
                obtain ⟨k, hk⟩ : ∃ k, (encL n).length = k := ⟨_, rfl⟩
                have htb : (z.toList == (s.extract 0 2).toList) = testM s.data.toList 2 := by
                  rw [eq_lists, bytes_eqb, HT.out, hsg, Bool.true_and, Int.toNat_natCast]
                  congr 1
                  rw [← hz]
                  refine propext ⟨fun e => by rw [e, list_extract], fun e => bytes_is (by rw [e, list_extract])⟩
                have KS := Lib.hid (fun w => sign_any (n : Int) true hsg w)
                have KL := Lib.hid (fun w => laid_is n hcn z hz k hk w)
                clear hz hk hcn hsg HT
                have hbd : Below w.heap.size w wr.drew := hbx.drew
                cases htm : testM s.data.toList 2 with
                | true =>
                  rw [htm] at htb
                  have HO2 := Lib.hid (HO.out.symm.trans (HH.out htm))
                  clear htm HH
                  go_wp2_with fail
                  go_region_with (first
                    | (go_at_call 220; refine (KS.out _).mono ?_; rintro e w5 ⟨rfl, rfl⟩)
                    | (go_at_call 189; refine (KL.out _).mono ?_; rintro e w6 ⟨g, rfl, hcv, _, _, _, hb6⟩))
                  all_goals go_wp2_with fail
                  all_goals go_ret3
                  all_goals (
                    have e1 := HO2.out
                    simp only [Prod.mk.injEq, Int.toNat_natCast] at e1
                    obtain ⟨rfl, rfl, rfl⟩ := e1
                    exact ⟨rfl, hbd.trans (hb6.mono hszx)⟩)
                | false =>
                  rw [htm] at htb
                  have HF2 : Hid (∀ j, 1 ≤ j → j < 2 + 1 → j ≤ s.data.toList.length → testM s.data.toList j = false) := Lib.hid (fun j j1 j2 j3 => by
                    by_cases e : j = 2
                    · subst e; exact htm
                    · exact HF.out j j1 (by omega) j3)
                  clear htm HH
                  go_wp2_with fail
                  go_region_with (first
                    | (go_at_call 220; refine (KS.out _).mono ?_; rintro e w5 ⟨rfl, rfl⟩)
                    | (go_at_call 189; refine (KL.out _).mono ?_; rintro e w6 ⟨g, rfl, hcv, _, _, _, hb6⟩))
                  all_goals go_wp2_with fail
                  all_goals go_roundw
                  all_goals first
                    | exact ⟨2 + 1, by omega, by omega, by go_num, HF2, hbd.trans (hb6.mono hszx)⟩
                    | (simp [intOf]; done)
                    | (simp [intOf]; omega)
        · have hm : ((3 : Nat) : Int) ≤ (s.size : Int) := by omega
          have hv0 := HV0.out 3
          rw [show ((baseN 3 : Nat) : Int) = 224 from rfl] at hv0
          have HV := Lib.hid hv0.symm
          clear hv0
          go_wp2_with fail
          go_region
          all_goals go_wp2_with fail
          go_loopw [6, 7] (fun nv iv wx => ∃ i : Nat, i + 1 ≤ 3 ∧ iv = .int .i64 ((i : Int) + 1) ∧ nv = .int .i64 (vpart s.data.toList 3 i) ∧ Below w.heap.size w wx) (fun _ iv _ => 3 - (intOf iv).toNat)
          case atStart => exact ⟨0, by omega, rfl, congrArg (Value.int .i64) (by have := HV.out; omega), by first | exact hbw | exact (hbw.alloc hszr _).drew | exact hbw.drew.alloc hszr _ | exact hbw.alloc hszr _⟩
          case round =>
            obtain ⟨i, hi, rfl, rfl, hbx⟩ := hrel
            have hvb := vpart_bound s.data.toList 3 i (by omega)
            by_cases hlt : i + 1 < 3
            · have his : i + 1 < s.size := by omega
              have hq : ∀ W, (Instr.index 9 (.string s) (.int .i64 ((i : Int) + 1))).run Tryz.prog W = .ok (.int .u8 (s[i + 1].toNat : Int)) W := fun W => run_index_str s _ (i + 1) (by omega) his W
              have hy := UInt8.toNat_lt (s[i + 1]'his)
              have HS : Hid (vpart s.data.toList 3 (i + 1) = 64 * vpart s.data.toList 3 i + ((s[i + 1]'his).toNat : Int) - 128) := Lib.hid (by rw [← byte_at s (i + 1) his]; rfl)
              generalize (s[i + 1]'his).toNat = y at hq hy HS
              generalize vpart s.data.toList 3 i = v at hvb HS
              have hi2 : (i : Int) + 1 < ((3 : Nat) : Int) := by omega
              go_wp2_with fail
              go_roundw
              case rel => exact ⟨i + 1, by omega, by go_num, by rw [HS.out], hbx⟩
              case measure => simp [intOf]; omega
            · obtain rfl : i = 2 := by omega
              have hi2 : ¬ (((2 : Nat) : Int) + 1 < ((3 : Nat) : Int)) := by omega
              have HT : Hid (testM s.data.toList 3 = (sgn (vpart s.data.toList 3 2) && decide (encL (vpart s.data.toList 3 2).toNat = s.data.toList.take 3))) := Lib.hid rfl
              have HH : Hid (testM s.data.toList 3 = true → firstO s.data.toList = ((vpart s.data.toList 3 2).toNat, 3, true)) := Lib.hid (firstO_hit (by rw [HL.out]; omega))
              generalize vpart s.data.toList 3 2 = v at HT HH hvb
              have hszx : w.heap.size ≤ wr.heap.size := hbx.size
              cases hsg : sgn v with
              | false =>
                have HF2 : Hid (∀ j, 1 ≤ j → j < 3 + 1 → j ≤ s.data.toList.length → testM s.data.toList j = false) := Lib.hid (fun j j1 j2 j3 => by
                  by_cases e : j = 3
                  · subst e; rw [HT.out, hsg]; rfl
                  · exact HF.out j j1 (by omega) j3)
                have KS := Lib.hid (fun w => (sign_any v false hsg w).mono fun e w' h => And.intro h.1 h.2.symm)
                clear hsg HT HH
                go_wp2_with fail
                go_quiet ((go_at_call 220; exact Calls.quiet_of_same (KS.out _)))
                go_wp2_with fail
                go_roundw
                all_goals first
                  | exact ⟨3 + 1, by omega, by omega, by go_num, HF2, below_drewN' hbx _⟩
                  | (simp [intOf]; done)
                  | (simp [intOf]; omega)
              | true =>
                obtain ⟨n, rfl⟩ : ∃ n : Nat, v = n := ⟨v.toNat, by have := ((sgn_iff v).1 hsg).1; omega⟩
                have hcn : cpB n = true := by have := ((sgn_iff (n : Int)).1 hsg).2; rwa [Int.toNat_natCast] at this
                obtain ⟨z, hz⟩ := list_of (encL n)
                obtain ⟨k, hk⟩ : ∃ k, (encL n).length = k := ⟨_, rfl⟩
                have htb : (z.toList == (s.extract 0 3).toList) = testM s.data.toList 3 := by
                  rw [eq_lists, bytes_eqb, HT.out, hsg, Bool.true_and, Int.toNat_natCast]
                  congr 1
                  rw [← hz]
                  refine propext ⟨fun e => by rw [e, list_extract], fun e => bytes_is (by rw [e, list_extract])⟩
                have KS := Lib.hid (fun w => sign_any (n : Int) true hsg w)
                have KL := Lib.hid (fun w => laid_is n hcn z hz k hk w)
                clear hz hk hcn hsg HT
                have hbd : Below w.heap.size w wr.drew := hbx.drew
                cases htm : testM s.data.toList 3 with
                | true =>
                  rw [htm] at htb
                  have HO2 := Lib.hid (HO.out.symm.trans (HH.out htm))
                  clear htm HH
                  go_wp2_with fail
                  go_region_with (first
                    | (go_at_call 220; refine (KS.out _).mono ?_; rintro e w5 ⟨rfl, rfl⟩)
                    | (go_at_call 189; refine (KL.out _).mono ?_; rintro e w6 ⟨g, rfl, hcv, _, _, _, hb6⟩))
                  all_goals go_wp2_with fail
                  all_goals go_ret3
                  all_goals (
                    have e1 := HO2.out
                    simp only [Prod.mk.injEq, Int.toNat_natCast] at e1
                    obtain ⟨rfl, rfl, rfl⟩ := e1
                    exact ⟨rfl, hbd.trans (hb6.mono hszx)⟩)
                | false =>
                  rw [htm] at htb
                  have HF2 : Hid (∀ j, 1 ≤ j → j < 3 + 1 → j ≤ s.data.toList.length → testM s.data.toList j = false) := Lib.hid (fun j j1 j2 j3 => by
                    by_cases e : j = 3
                    · subst e; exact htm
                    · exact HF.out j j1 (by omega) j3)
                  clear htm HH
                  go_wp2_with fail
                  go_region_with (first
                    | (go_at_call 220; refine (KS.out _).mono ?_; rintro e w5 ⟨rfl, rfl⟩)
                    | (go_at_call 189; refine (KL.out _).mono ?_; rintro e w6 ⟨g, rfl, hcv, _, _, _, hb6⟩))
                  all_goals go_wp2_with fail
                  all_goals go_roundw
                  all_goals first
                    | exact ⟨3 + 1, by omega, by omega, by go_num, HF2, hbd.trans (hb6.mono hszx)⟩
                    | (simp [intOf]; done)
                    | (simp [intOf]; omega)
        · have hm : ((4 : Nat) : Int) ≤ (s.size : Int) := by omega
          have hv0 := HV0.out 4
          rw [show ((baseN 4 : Nat) : Int) = 240 from rfl] at hv0
          have HV := Lib.hid hv0.symm
          clear hv0
          go_wp2_with fail
          go_region
          all_goals go_wp2_with fail
          go_loopw [6, 7] (fun nv iv wx => ∃ i : Nat, i + 1 ≤ 4 ∧ iv = .int .i64 ((i : Int) + 1) ∧ nv = .int .i64 (vpart s.data.toList 4 i) ∧ Below w.heap.size w wx) (fun _ iv _ => 4 - (intOf iv).toNat)
          case atStart => exact ⟨0, by omega, rfl, congrArg (Value.int .i64) (by have := HV.out; omega), by first | exact hbw | exact (hbw.alloc hszr _).drew | exact hbw.drew.alloc hszr _ | exact hbw.alloc hszr _⟩
          case round =>
            obtain ⟨i, hi, rfl, rfl, hbx⟩ := hrel
            have hvb := vpart_bound s.data.toList 4 i (by omega)
            by_cases hlt : i + 1 < 4
            · have his : i + 1 < s.size := by omega
              have hq : ∀ W, (Instr.index 9 (.string s) (.int .i64 ((i : Int) + 1))).run Tryz.prog W = .ok (.int .u8 (s[i + 1].toNat : Int)) W := fun W => run_index_str s _ (i + 1) (by omega) his W
              have hy := UInt8.toNat_lt (s[i + 1]'his)
              have HS : Hid (vpart s.data.toList 4 (i + 1) = 64 * vpart s.data.toList 4 i + ((s[i + 1]'his).toNat : Int) - 128) := Lib.hid (by rw [← byte_at s (i + 1) his]; rfl)
              generalize (s[i + 1]'his).toNat = y at hq hy HS
              generalize vpart s.data.toList 4 i = v at hvb HS
              have hi2 : (i : Int) + 1 < ((4 : Nat) : Int) := by omega
              go_wp2_with fail
              go_roundw
              case rel => exact ⟨i + 1, by omega, by go_num, by rw [HS.out], hbx⟩
              case measure => simp [intOf]; omega
            · obtain rfl : i = 3 := by omega
              have hi2 : ¬ (((3 : Nat) : Int) + 1 < ((4 : Nat) : Int)) := by omega
              have HT : Hid (testM s.data.toList 4 = (sgn (vpart s.data.toList 4 3) && decide (encL (vpart s.data.toList 4 3).toNat = s.data.toList.take 4))) := Lib.hid rfl
              have HH : Hid (testM s.data.toList 4 = true → firstO s.data.toList = ((vpart s.data.toList 4 3).toNat, 4, true)) := Lib.hid (firstO_hit (by rw [HL.out]; omega))
              generalize vpart s.data.toList 4 3 = v at HT HH hvb
              have hszx : w.heap.size ≤ wr.heap.size := hbx.size
              cases hsg : sgn v with
              | false =>
                have HF2 : Hid (∀ j, 1 ≤ j → j < 4 + 1 → j ≤ s.data.toList.length → testM s.data.toList j = false) := Lib.hid (fun j j1 j2 j3 => by
                  by_cases e : j = 4
                  · subst e; rw [HT.out, hsg]; rfl
                  · exact HF.out j j1 (by omega) j3)
                have KS := Lib.hid (fun w => (sign_any v false hsg w).mono fun e w' h => And.intro h.1 h.2.symm)
                clear hsg HT HH
                go_wp2_with fail
                go_quiet ((go_at_call 220; exact Calls.quiet_of_same (KS.out _)))
                go_wp2_with fail
                go_roundw
                all_goals first
                  | exact ⟨4 + 1, by omega, by omega, by go_num, HF2, below_drewN' hbx _⟩
                  | (simp [intOf]; done)
                  | (simp [intOf]; omega)
              | true =>
                obtain ⟨n, rfl⟩ : ∃ n : Nat, v = n := ⟨v.toNat, by have := ((sgn_iff v).1 hsg).1; omega⟩
                have hcn : cpB n = true := by have := ((sgn_iff (n : Int)).1 hsg).2; rwa [Int.toNat_natCast] at this
                obtain ⟨z, hz⟩ := list_of (encL n)
                obtain ⟨k, hk⟩ : ∃ k, (encL n).length = k := ⟨_, rfl⟩
                have htb : (z.toList == (s.extract 0 4).toList) = testM s.data.toList 4 := by
                  rw [eq_lists, bytes_eqb, HT.out, hsg, Bool.true_and, Int.toNat_natCast]
                  congr 1
                  rw [← hz]
                  refine propext ⟨fun e => by rw [e, list_extract], fun e => bytes_is (by rw [e, list_extract])⟩
                have KS := Lib.hid (fun w => sign_any (n : Int) true hsg w)
                have KL := Lib.hid (fun w => laid_is n hcn z hz k hk w)
                clear hz hk hcn hsg HT
                have hbd : Below w.heap.size w wr.drew := hbx.drew
                cases htm : testM s.data.toList 4 with
                | true =>
                  rw [htm] at htb
                  have HO2 := Lib.hid (HO.out.symm.trans (HH.out htm))
                  clear htm HH
                  go_wp2_with fail
                  go_region_with (first
                    | (go_at_call 220; refine (KS.out _).mono ?_; rintro e w5 ⟨rfl, rfl⟩)
                    | (go_at_call 189; refine (KL.out _).mono ?_; rintro e w6 ⟨g, rfl, hcv, _, _, _, hb6⟩))
                  all_goals go_wp2_with fail
                  all_goals go_ret3
                  all_goals (
                    have e1 := HO2.out
                    simp only [Prod.mk.injEq, Int.toNat_natCast] at e1
                    obtain ⟨rfl, rfl, rfl⟩ := e1
                    exact ⟨rfl, hbd.trans (hb6.mono hszx)⟩)
                | false =>
                  rw [htm] at htb
                  have HF2 : Hid (∀ j, 1 ≤ j → j < 4 + 1 → j ≤ s.data.toList.length → testM s.data.toList j = false) := Lib.hid (fun j j1 j2 j3 => by
                    by_cases e : j = 4
                    · subst e; exact htm
                    · exact HF.out j j1 (by omega) j3)
                  clear htm HH
                  go_wp2_with fail
                  go_region_with (first
                    | (go_at_call 220; refine (KS.out _).mono ?_; rintro e w5 ⟨rfl, rfl⟩)
                    | (go_at_call 189; refine (KL.out _).mono ?_; rintro e w6 ⟨g, rfl, hcv, _, _, _, hb6⟩))
                  all_goals go_wp2_with fail
                  all_goals go_roundw
                  all_goals first
                    | exact ⟨4 + 1, by omega, by omega, by go_num, HF2, hbd.trans (hb6.mono hszx)⟩
                    | (simp [intOf]; done)
                    | (simp [intOf]; omega)
      · have HE := Lib.hid (firstO_miss HF.out (.inr (by rw [HL.out]; omega)))
        have hd : ¬ ((m : Int) ≤ (s.size : Int)) := by omega
        have hd4 : (m : Int) ≤ 4 := by omega
        go_wp2_with fail
        go_ret3
        have e1 := HO.out.symm.trans HE.out
        simp only [Prod.mk.injEq] at e1
        obtain ⟨rfl, rfl, rfl⟩ := e1
        exact ⟨rfl, hbw⟩
    · have HE := Lib.hid (firstO_miss HF.out (.inl (by omega)))
      have hd4 : ¬ ((m : Int) ≤ 4) := by omega
      go_wp2_with fail
      go_ret3
      have e1 := HO.out.symm.trans HE.out
      simp only [Prod.mk.injEq] at e1
      obtain ⟨rfl, rfl, rfl⟩ := e1
      exact ⟨rfl, hbw⟩
end Go.Proofs.YtdinachiiimngaaGreatDoor.Cs
