/- CharsetDecodes: Decode gives valid UTF-8, one code point a byte in the single-byte character sets; an unknown name is read as windows-1252. -/
import Derived.Test.YtbmnoneeialfpaaDoorFew
namespace Go.Proofs.YtbmnoneeialfpaaDoor
open Go.ChangeShapes Go.WideShapes Go.ChangeAt Go.RowKit

theorem byteL_flat (p : Nat → Nat) (l : List UInt8) : byteL p l = (l.map fun c => p c.toNat).flatMap encL := by
  unfold byteL
  rw [List.flatMap_map]
theorem byteL_all (p : Nat → Nat) (hp : ∀ b, b < 256 → cpB (p b) = true) (l : List UInt8) : validL (byteL p l) = true ∧ runesL (byteL p l) = l.map fun c => p c.toNat := by
  rw [byteL_flat]
  refine valid_all _ fun n hn => ?_
  obtain ⟨c, _, rfl⟩ := List.mem_map.1 hn
  exact hp _ (UInt8.toNat_lt c)
theorem decL_valid (k : Nat) (l : List UInt8) : validL (decL k l) = true := by
  unfold decL
  split
  · exact (byteL_all _ asciiP_cp l).1
  · split
    · exact valid_repair' l
    · split
      · exact (byteL_all _ latin_cp l).1
      · exact (byteL_all _ winP_cp l).1
/-- Are all bytes below 128? -/
def plainB (l : List UInt8) : Bool := l.all fun c => decide (c.toNat < 128)
theorem byteL_plain (p : Nat → Nat) (hp : ∀ b, b < 128 → p b = b) : ∀ l : List UInt8, plainB l = true → byteL p l = l
  | [], _ => rfl
  | c :: l, h => by
    unfold plainB at h
    rw [List.all_cons, Bool.and_eq_true, decide_eq_true_eq] at h
    have ih := byteL_plain p hp l h.2
    unfold byteL at ih ⊢
    rw [List.flatMap_cons, ih, hp _ h.1, encL, if_pos h.1, byte_of rfl]
    rfl
theorem ascii_plain (b : Nat) (h : b < 128) : asciiP b = b := by unfold asciiP; rw [if_neg (by omega)]
theorem win_plain (b : Nat) (h : b < 128) : winP b = b := by unfold winP; rw [if_pos (Or.inl h)]
theorem decL_plain (k : Nat) (l : List UInt8) (h : plainB l = true) : decL k l = l := by
  unfold decL
  split
  · exact byteL_plain _ ascii_plain l h
  · split
    · refine repair_valid l ?_
      have := byteL_plain id (fun _ _ => rfl) l h
      rw [← this]
      exact (byteL_all _ latin_cp l).1
    · split
      · exact byteL_plain _ (fun _ _ => rfl) l h
      · exact byteL_plain _ win_plain l h
theorem plain_take (s : ByteArray) (k : Nat) (h : k < s.size) : plainB (s.data.toList.take (k + 1)) = (plainB (s.data.toList.take k) && decide (s[k].toNat < 128)) := by
  have h' : k < s.data.toList.length := by rw [Array.length_toList]; exact h
  unfold plainB
  rw [List.take_succ_eq_append_getElem h', List.all_append, List.all_cons, List.all_nil, Bool.and_true]
  rfl
theorem map_getD (p : Nat → Nat) (s : ByteArray) (k : Nat) (h : k < s.size) : (s.data.toList.map fun c => p c.toNat).getD k 0 = p (s[k].toNat) := by
  have h' : k < s.data.toList.length := by rw [Array.length_toList]; exact h
  rw [List.getD_eq_getElem?_getD, List.getElem?_map, List.getElem?_eq_getElem h']
  rfl

set_option maxHeartbeats 8000000 in
set_option maxRecDepth 1000000 in
theorem decodes_core (n s t u1 u2 u3 : ByteArray) (o : Bool) (mn : n.size ≤ 9223372036854775807) (ms : s.size ≤ 9223372036854775807) (hn : n.size ≤ 500) (hs : s.size ≤ 500)
    (ht : t.data.toList = decL (kindL n.data.toList) s.data.toList) (ho : decide (kindL n.data.toList ≠ 0) = o) (hto : o = false → t = u3)
    (h1 : u1.data.toList = byteL asciiP s.data.toList) (h2 : u2.data.toList = byteL id s.data.toList) (h3 : u3.data.toList = byteL winP s.data.toList) (w : World) (hst : St w w) :
    Calls Tryd.prog 5 #[.string n, .string s] w fun e w' => e = .returned (.bool true) ∧ Below w.heap.size w w' := by
  obtain ⟨A, hA⟩ : ∃ A, (s.data.toList.map fun c => asciiP c.toNat) = A := ⟨_, rfl⟩
  obtain ⟨B, hB⟩ : ∃ B, (s.data.toList.map fun c => id c.toNat) = B := ⟨_, rfl⟩
  obtain ⟨C, hC⟩ : ∃ C, (s.data.toList.map fun c => winP c.toNat) = C := ⟨_, rfl⟩
  have lA : A.length = s.size := by rw [← hA, List.length_map]; rfl
  have lB : B.length = s.size := by rw [← hB, List.length_map]; rfl
  have lC : C.length = s.size := by rw [← hC, List.length_map]; rfl
  have r1 : runesL u1.data.toList = A := by rw [h1, (byteL_all _ asciiP_cp _).2, hA]
  have r2 : runesL u2.data.toList = B := by rw [h2, (byteL_all _ latin_cp _).2, hB]
  have r3 : runesL u3.data.toList = C := by rw [h3, (byteL_all _ winP_cp _).2, hC]
  have z1 : u1.size ≤ 4 * s.size := by rw [size_list, h1]; exact byteL_len _ _
  have z2 : u2.size ≤ 4 * s.size := by rw [size_list, h2]; exact byteL_len _ _
  have z3 : u3.size ≤ 4 * s.size := by rw [size_list, h3]; exact byteL_len _ _
  have zt : t.size ≤ 4 * s.size := by
    rw [size_list, ht]
    unfold decL
    split
    · exact byteL_len _ _
    · split
      · exact Nat.le_trans (repair_len _) (Nat.mul_le_mul_right _ (by omega))
      · split <;> exact byteL_len _ _
  have vt : validL t.data.toList = true := by rw [ht]; exact decL_valid _ _
  have hpl : plainB s.data.toList = true → (t.toList == s.toList) = true := by
    intro h
    rw [eq_lists, bytes_eqb, decide_eq_true_eq]
    exact bytes_is (by rw [ht, decL_plain _ _ h])
  have KF := Lib.hid (few_any s ms true (decide_eq_true hs))
  have KF2 := Lib.hid (few_any n mn true (decide_eq_true hn))
  have KD := Lib.hid (fun (w1 : World) (h : St w w1) => decode_is n s t o ht ho (by omega) (by omega) h)
  have KV := Lib.hid (fun (w1 : World) (h : St w w1) => valid_is t true vt (by omega) h)
  have KK := Lib.hid (fun (w1 : World) (h : St w w1) => known_known n o (by omega) ho h)
  have KU1 := Lib.hid (fun (w1 : World) (h : St w w1) => decode_is ⟨#[117, 115, 45, 97, 115, 99, 105, 105]⟩ s u1 true (by rw [h1, show kindL (⟨#[117, 115, 45, 97, 115, 99, 105, 105]⟩ : ByteArray).data.toList = 1 from by decide +kernel]; rfl) (by decide +kernel) (by decide) (by omega) h)
  have KU2 := Lib.hid (fun (w1 : World) (h : St w w1) => decode_is ⟨#[105, 115, 111, 45, 56, 56, 53, 57, 45, 49]⟩ s u2 true (by rw [h2, show kindL (⟨#[105, 115, 111, 45, 56, 56, 53, 57, 45, 49]⟩ : ByteArray).data.toList = 3 from by decide +kernel]; rfl) (by decide +kernel) (by decide) (by omega) h)
  have KU3 := Lib.hid (fun (w1 : World) (h : St w w1) => decode_is ⟨#[119, 105, 110, 100, 111, 119, 115, 45, 49, 50, 53, 50]⟩ s u3 true (by rw [h3, show kindL (⟨#[119, 105, 110, 100, 111, 119, 115, 45, 49, 50, 53, 50]⟩ : ByteArray).data.toList = 4 from by decide +kernel]; rfl) (by decide +kernel) (by decide) (by omega) h)
  have KR1 := Lib.hid (fun (w1 : World) (h : St w w1) => runes_is u1 A r1 s.size lA (by omega) h)
  have KR2 := Lib.hid (fun (w1 : World) (h : St w w1) => runes_is u2 B r2 s.size lB (by omega) h)
  have KR3 := Lib.hid (fun (w1 : World) (h : St w w1) => runes_is u3 C r3 s.size lC (by omega) h)
  have HP := Lib.hid hpl
  have HL := Lib.hid (And.intro lA (And.intro lB lC))
  have HA := Lib.hid hA
  have HB := Lib.hid hB
  have HC := Lib.hid hC
  clear hA hB hC lA lB lC r1 r2 r3 z1 z2 z3 zt vt hpl ht ho h1 h2 h3
  cases o with
  | false =>
    have hte := hto rfl
    subst hte
    clear hto
    go_enter Tryd.func5, Tryd.ntmps5
    go_wp2_with (first
      | (go_at_call 8; refine (small_is hst).mono ?_; rintro e w1 ⟨rfl, hs1⟩)
      | (go_at_call 9; first | ((with_reducible refine (KF.out _).mono ?_); rintro e w1 ⟨rfl, rfl⟩) | ((with_reducible refine (KF2.out _).mono ?_); rintro e w1 ⟨rfl, rfl⟩))
      | (go_at_call 10; first | ((with_reducible refine (KU1.out _ (by assumption)).mono ?_); rintro e w1 ⟨rfl, hs1⟩) | ((with_reducible refine (KU2.out _ (by assumption)).mono ?_); rintro e w1 ⟨rfl, hs1⟩) | ((with_reducible refine (KU3.out _ (by assumption)).mono ?_); rintro e w1 ⟨rfl, hs1⟩) | ((with_reducible refine (KD.out _ (by assumption)).mono ?_); rintro e w1 ⟨rfl, hs1⟩))
      | (go_at_call 14; with_reducible refine (KV.out _ (by assumption)).mono ?_; rintro e w1 ⟨rfl, hs1⟩)
      | (go_at_call 20; with_reducible refine (KK.out _ (by assumption)).mono ?_; rintro e w1 ⟨rfl, hs1⟩)
      | (go_at_call 12; with_reducible refine (KR1.out _ (by assumption)).mono ?_; rintro e w2 ⟨g1, rfl, q1, b2, hs2⟩)
      | (go_at_call 12; with_reducible refine (KR2.out _ (by assumption)).mono ?_; rintro e w3 ⟨g2, rfl, q2, b3, hs3⟩; replace q1 := q1.below b3)
      | (go_at_call 12; with_reducible refine (KR3.out _ (by assumption)).mono ?_; rintro e w4 ⟨g3, rfl, q3, b4, hs4⟩; replace q1 := q1.below b4; replace q2 := q2.below b4))
    clear KF KF2 KD KV KK KU1 KU2 KU3 KR1 KR2 KR3 b2 b3 b4 hs2 hs3
    go_loopw [17, 18] (fun p i wr => ∃ (k : Nat) (pl : Bool), k ≤ s.size ∧ i = .int .i64 k ∧ p = .bool pl ∧ Hid (plainB (s.data.toList.take k) = pl) ∧ w4 = wr)
      (fun _ i _ => s.size - (intOf i).toNat)
    case atStart => exact ⟨0, true, Nat.zero_le _, rfl, rfl, Lib.hid rfl, rfl⟩
    case round =>
      obtain ⟨k, pl, hk, rfl, rfl, HPL, rfl⟩ := hrel
      by_cases hlt : k < s.size
      · have cA := q1.2 k (by rw [HL.out.1]; exact hlt)
        have cB := q2.2 k (by rw [HL.out.2.1]; exact hlt)
        have cC := q3.2 k (by rw [HL.out.2.2]; exact hlt)
        rw [← HA.out, map_getD _ _ _ hlt] at cA
        rw [← HB.out, map_getD _ _ _ hlt] at cB
        rw [← HC.out, map_getD _ _ _ hlt] at cC
        have HT := Lib.hid (plain_take s k hlt)
        have hq : ∀ W, (Instr.index 9 (.string s) (.int .i64 (k : Int))).run Tryd.prog W = .ok (.int .u8 (s[k].toNat : Int)) W := fun W => run_index_str s k k rfl hlt W
        have hx := UInt8.toNat_lt (s[k]'hlt)
        generalize (s[k]'hlt).toNat = x at cA cB cC HT hq hx
        simp only [id] at cB
        by_cases x1 : x < 128
        · rw [ascii_plain x x1] at cA
          rw [win_plain x x1] at cC
          have x1' : (x : Int) < 128 := by omega
          have x1d : decide ((128 : Int) ≤ (x : Int)) = false := decide_eq_false (by omega)
          have x1e : decide ((160 : Int) ≤ (x : Int)) = false := decide_eq_false (by omega)
          have HT2 : Hid (plainB (s.data.toList.take (k + 1)) = pl) := Lib.hid (by rw [HT.out, HPL.out, decide_eq_true x1, Bool.and_true])
          cases pl with
          | true =>
            go_wp2_with fail
            go_roundw
            case rel => exact ⟨k + 1, true, by omega, by go_num, rfl, HT2, by first | rfl | trivial⟩
            case measure => simp [intOf]; omega
          | false =>
            go_wp2_with fail
            go_roundw
            case rel => exact ⟨k + 1, false, by omega, by go_num, rfl, HT2, by first | rfl | trivial⟩
            case measure => simp [intOf]; omega
        · have ea : asciiP x = 65533 := by unfold asciiP; rw [if_pos (by omega)]
          rw [ea] at cA
          have x1' : ¬ ((x : Int) < 128) := by omega
          have x1d : decide ((x : Int) < 128) = false := decide_eq_false x1'
          have x1f : (128 : Int) ≤ (x : Int) := by omega
          have HT2 : Hid (plainB (s.data.toList.take (k + 1)) = false) := Lib.hid (by rw [HT.out, decide_eq_false x1, Bool.and_false])
          by_cases x2 : x < 160
          · have x2d : decide ((160 : Int) ≤ (x : Int)) = false := decide_eq_false (by omega)
            generalize winP x = y at cC
            cases pl with
            | true =>
              go_wp2_with fail
              go_roundw
              case rel => exact ⟨k + 1, false, by omega, by go_num, rfl, HT2, by first | rfl | trivial⟩
              case measure => simp [intOf]; omega
            | false =>
              go_wp2_with fail
              go_roundw
              case rel => exact ⟨k + 1, false, by omega, by go_num, rfl, HT2, by first | rfl | trivial⟩
              case measure => simp [intOf]; omega
          · have ew : winP x = x := by unfold winP; rw [if_pos (by omega)]
            rw [ew] at cC
            have x2f : (160 : Int) ≤ (x : Int) := by omega
            cases pl with
            | true =>
              go_wp2_with fail
              go_roundw
              case rel => exact ⟨k + 1, false, by omega, by go_num, rfl, HT2, by first | rfl | trivial⟩
              case measure => simp [intOf]; omega
            | false =>
              go_wp2_with fail
              go_roundw
              case rel => exact ⟨k + 1, false, by omega, by go_num, rfl, HT2, by first | rfl | trivial⟩
              case measure => simp [intOf]; omega
      · have hkM : k = s.size := by omega
        subst hkM
        cases pl with
        | true =>
          have hts := HP.out (by rw [← HPL.out, List.take_of_length_le (by rw [Array.length_toList]; exact Nat.le_refl _)])
          go_wp2_with fail
          go_ret
          exact ⟨rfl, hs4.2⟩
        | false =>
          go_wp2_with fail
          go_ret
          exact ⟨rfl, hs4.2⟩
  | true =>
    clear hto
    go_enter Tryd.func5, Tryd.ntmps5
    go_wp2_with (first
      | (go_at_call 8; refine (small_is hst).mono ?_; rintro e w1 ⟨rfl, hs1⟩)
      | (go_at_call 9; first | ((with_reducible refine (KF.out _).mono ?_); rintro e w1 ⟨rfl, rfl⟩) | ((with_reducible refine (KF2.out _).mono ?_); rintro e w1 ⟨rfl, rfl⟩))
      | (go_at_call 10; first | ((with_reducible refine (KU1.out _ (by assumption)).mono ?_); rintro e w1 ⟨rfl, hs1⟩) | ((with_reducible refine (KU2.out _ (by assumption)).mono ?_); rintro e w1 ⟨rfl, hs1⟩) | ((with_reducible refine (KU3.out _ (by assumption)).mono ?_); rintro e w1 ⟨rfl, hs1⟩) | ((with_reducible refine (KD.out _ (by assumption)).mono ?_); rintro e w1 ⟨rfl, hs1⟩))
      | (go_at_call 14; with_reducible refine (KV.out _ (by assumption)).mono ?_; rintro e w1 ⟨rfl, hs1⟩)
      | (go_at_call 20; with_reducible refine (KK.out _ (by assumption)).mono ?_; rintro e w1 ⟨rfl, hs1⟩)
      | (go_at_call 12; with_reducible refine (KR1.out _ (by assumption)).mono ?_; rintro e w2 ⟨g1, rfl, q1, b2, hs2⟩)
      | (go_at_call 12; with_reducible refine (KR2.out _ (by assumption)).mono ?_; rintro e w3 ⟨g2, rfl, q2, b3, hs3⟩; replace q1 := q1.below b3)
      | (go_at_call 12; with_reducible refine (KR3.out _ (by assumption)).mono ?_; rintro e w4 ⟨g3, rfl, q3, b4, hs4⟩; replace q1 := q1.below b4; replace q2 := q2.below b4))
    clear KF KF2 KD KV KK KU1 KU2 KU3 KR1 KR2 KR3 b2 b3 b4 hs2 hs3
    go_loopw [17, 18] (fun p i wr => ∃ (k : Nat) (pl : Bool), k ≤ s.size ∧ i = .int .i64 k ∧ p = .bool pl ∧ Hid (plainB (s.data.toList.take k) = pl) ∧ w4 = wr)
      (fun _ i _ => s.size - (intOf i).toNat)
    case atStart => exact ⟨0, true, Nat.zero_le _, rfl, rfl, Lib.hid rfl, rfl⟩
    case round =>
      obtain ⟨k, pl, hk, rfl, rfl, HPL, rfl⟩ := hrel
      by_cases hlt : k < s.size
      · have cA := q1.2 k (by rw [HL.out.1]; exact hlt)
        have cB := q2.2 k (by rw [HL.out.2.1]; exact hlt)
        have cC := q3.2 k (by rw [HL.out.2.2]; exact hlt)
        rw [← HA.out, map_getD _ _ _ hlt] at cA
        rw [← HB.out, map_getD _ _ _ hlt] at cB
        rw [← HC.out, map_getD _ _ _ hlt] at cC
        have HT := Lib.hid (plain_take s k hlt)
        have hq : ∀ W, (Instr.index 9 (.string s) (.int .i64 (k : Int))).run Tryd.prog W = .ok (.int .u8 (s[k].toNat : Int)) W := fun W => run_index_str s k k rfl hlt W
        have hx := UInt8.toNat_lt (s[k]'hlt)
        generalize (s[k]'hlt).toNat = x at cA cB cC HT hq hx
        simp only [id] at cB
        by_cases x1 : x < 128
        · rw [ascii_plain x x1] at cA
          rw [win_plain x x1] at cC
          have x1' : (x : Int) < 128 := by omega
          have x1d : decide ((128 : Int) ≤ (x : Int)) = false := decide_eq_false (by omega)
          have x1e : decide ((160 : Int) ≤ (x : Int)) = false := decide_eq_false (by omega)
          have HT2 : Hid (plainB (s.data.toList.take (k + 1)) = pl) := Lib.hid (by rw [HT.out, HPL.out, decide_eq_true x1, Bool.and_true])
          cases pl with
          | true =>
            go_wp2_with fail
            go_roundw
            case rel => exact ⟨k + 1, true, by omega, by go_num, rfl, HT2, by first | rfl | trivial⟩
            case measure => simp [intOf]; omega
          | false =>
            go_wp2_with fail
            go_roundw
            case rel => exact ⟨k + 1, false, by omega, by go_num, rfl, HT2, by first | rfl | trivial⟩
            case measure => simp [intOf]; omega
        · have ea : asciiP x = 65533 := by unfold asciiP; rw [if_pos (by omega)]
          rw [ea] at cA
          have x1' : ¬ ((x : Int) < 128) := by omega
          have x1d : decide ((x : Int) < 128) = false := decide_eq_false x1'
          have x1f : (128 : Int) ≤ (x : Int) := by omega
          have HT2 : Hid (plainB (s.data.toList.take (k + 1)) = false) := Lib.hid (by rw [HT.out, decide_eq_false x1, Bool.and_false])
          by_cases x2 : x < 160
          · have x2d : decide ((160 : Int) ≤ (x : Int)) = false := decide_eq_false (by omega)
            generalize winP x = y at cC
            cases pl with
            | true =>
              go_wp2_with fail
              go_roundw
              case rel => exact ⟨k + 1, false, by omega, by go_num, rfl, HT2, by first | rfl | trivial⟩
              case measure => simp [intOf]; omega
            | false =>
              go_wp2_with fail
              go_roundw
              case rel => exact ⟨k + 1, false, by omega, by go_num, rfl, HT2, by first | rfl | trivial⟩
              case measure => simp [intOf]; omega
          · have ew : winP x = x := by unfold winP; rw [if_pos (by omega)]
            rw [ew] at cC
            have x2f : (160 : Int) ≤ (x : Int) := by omega
            cases pl with
            | true =>
              go_wp2_with fail
              go_roundw
              case rel => exact ⟨k + 1, false, by omega, by go_num, rfl, HT2, by first | rfl | trivial⟩
              case measure => simp [intOf]; omega
            | false =>
              go_wp2_with fail
              go_roundw
              case rel => exact ⟨k + 1, false, by omega, by go_num, rfl, HT2, by first | rfl | trivial⟩
              case measure => simp [intOf]; omega
      · have hkM : k = s.size := by omega
        subst hkM
        cases pl with
        | true =>
          have hts := HP.out (by rw [← HPL.out, List.take_of_length_le (by rw [Array.length_toList]; exact Nat.le_refl _)])
          go_wp2_with fail
          go_ret
          exact ⟨rfl, hs4.2⟩
        | false =>
          go_wp2_with fail
          go_ret
          exact ⟨rfl, hs4.2⟩

set_option maxRecDepth 1000000 in
theorem decodes_any (n s : ByteArray) (mn : n.size ≤ 9223372036854775807) (ms : s.size ≤ 9223372036854775807) (w : World) (hv : Vars w) :
    Calls Tryd.prog 5 #[.string n, .string s] w fun e w' => e = .returned (.bool true) ∧ Below w.heap.size w w' := by
  have hst : St w w := ⟨hv, Below.refl _ _⟩
  by_cases hs : s.size ≤ 500
  · by_cases hn : n.size ≤ 500
    · obtain ⟨t, ht⟩ := list_of (decL (kindL n.data.toList) s.data.toList)
      obtain ⟨u1, h1⟩ := list_of (byteL asciiP s.data.toList)
      obtain ⟨u2, h2⟩ := list_of (byteL id s.data.toList)
      obtain ⟨u3, h3⟩ := list_of (byteL winP s.data.toList)
      refine decodes_core n s t u1 u2 u3 _ mn ms hn hs ht rfl ?_ h1 h2 h3 w hst
      intro e
      have e0 : kindL n.data.toList = 0 := by simpa using e
      exact bytes_is (by rw [ht, h3, e0]; rfl)
    · have KF := Lib.hid (few_any s ms true (decide_eq_true hs))
      have KF2 := Lib.hid (few_any n mn false (decide_eq_false hn))
      go_enter Tryd.func5, Tryd.ntmps5
      go_wp2_with (first
        | (go_at_call 8; refine (small_is hst).mono ?_; rintro e w1 ⟨rfl, hs1⟩)
        | (go_at_call 9; first | ((with_reducible refine (KF.out _).mono ?_); rintro e w1 ⟨rfl, rfl⟩) | ((with_reducible refine (KF2.out _).mono ?_); rintro e w1 ⟨rfl, rfl⟩)))
      go_ret
      exact ⟨rfl, (show St w _ from by assumption).2⟩
  · have KF := Lib.hid (few_any s ms false (decide_eq_false hs))
    go_enter Tryd.func5, Tryd.ntmps5
    go_wp2_with (first
      | (go_at_call 8; refine (small_is hst).mono ?_; rintro e w1 ⟨rfl, hs1⟩)
      | (go_at_call 9; with_reducible refine (KF.out _).mono ?_; rintro e w1 ⟨rfl, rfl⟩))
    go_ret
    exact ⟨rfl, (show St w _ from by assumption).2⟩
end Go.Proofs.YtbmnoneeialfpaaDoor
