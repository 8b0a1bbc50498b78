/- The reference's Order. -/
import Derived.Test.YtbplbifmohbfdaaDoorRefG
import Derived.Laws.Cover1
namespace Go.Proofs.YtbplbifmohbfdaaDoor
open Go.ChangeShapes Go.WideShapes Go.ChangeAt Go.RowKit

theorem rkey_any (comp : Int) (s : ByteArray) (hs : s.size ≤ 1000000) (w : World) :
    Calls Tryd.prog 34 #[.int .i64 comp, .string s] w fun e w' => e = .returned (.string (strL (keyL comp s.data.toList))) ∧ Below w.heap.size w w' := by
  have cF := rfold_any s hs w
  by_cases h : comp = 1
  · subst h
    have e : keyL 1 s.data.toList = foldL s.data.toList := rfl
    rw [e]
    generalize strL (foldL s.data.toList) = R at cF ⊢
    go_enter Tryd.func34, Tryd.ntmps34
    go_wp2_with (go_at_call 13; refine cF.mono ?_; rintro e w' ⟨rfl, hb⟩)
    go_ret
    exact ⟨rfl, hb⟩
  · have e : strL (keyL comp s.data.toList) = s := by unfold keyL; rw [if_neg h, strL_of]
    rw [e]
    go_enter Tryd.func34, Tryd.ntmps34
    go_wp2_with fail
    go_ret
    exact ⟨rfl, Below.refl _ _⟩
theorem compared_any (a b : List UInt8) (w : World) :
    Calls Tryd.prog 33 #[.string (strL a), .string (strL b)] w fun e w' => e = .returned (.int .i64 (cmpL a b)) ∧ w = w' := by
  unfold cmpL
  have e1 : (strL a).toList = a := by rw [ByteArray.toList_eq]; rfl
  have e2 : (strL b).toList = b := by rw [ByteArray.toList_eq]; rfl
  by_cases h1 : Op.bytesLess a b = true
  · rw [if_pos h1]
    have k1 : Op.bytesLess (strL a).toList (strL b).toList = true := by rw [e1, e2]; exact h1
    clear e1 e2 h1
    go_enter Tryd.func33, Tryd.ntmps33
    go_wp2_with fail
    go_ret
    exact ⟨rfl, rfl⟩
  · rw [if_neg h1]
    have k1 : Op.bytesLess (strL a).toList (strL b).toList = false := by rw [e1, e2]; exact Bool.eq_false_iff.2 h1
    by_cases h2 : Op.bytesLess b a = true
    · rw [if_pos h2]
      have k3 := strL_eq a b false (by rw [beq_eq_false_iff_ne]; rintro rfl; exact h1 h2)
      clear e1 e2 h1 h2
      go_enter Tryd.func33, Tryd.ntmps33
      go_wp2_with fail
      go_ret
      exact ⟨rfl, rfl⟩
    · rw [if_neg h2]
      have k3 := strL_eq a b true (by
        rw [beq_iff_eq]
        rcases less_total a b with h | h | h
        · exact absurd h h1
        · exact h
        · exact absurd h h2)
      clear e1 e2 h1 h2
      go_enter Tryd.func33, Tryd.ntmps33
      go_wp2_with fail
      go_ret
      exact ⟨rfl, rfl⟩
theorem dig_step (l : List UInt8) (k : Nat) (h : k < l.length) : (l.drop k).takeWhile digB = if digB l[k] = true then l[k] :: (l.drop (k + 1)).takeWhile digB else [] := by
  rw [List.drop_eq_getElem_cons h, List.takeWhile_cons]
theorem zero_step (l : List UInt8) (k : Nat) (h : k < l.length) : (l.drop k).dropWhile (fun b => b == 48) = if l[k] = 48 then (l.drop (k + 1)).dropWhile (fun b => b == 48) else l.drop k := by
  rw [List.drop_eq_getElem_cons h, List.dropWhile_cons]
  by_cases h2 : l[k] = 48
  · rw [if_pos h2, if_pos (by rw [h2]; rfl)]
  · rw [if_neg h2, if_neg (by rw [beq_iff_eq]; exact h2)]
theorem digB_iff (b : UInt8) : digB b = true ↔ 48 ≤ b.toNat ∧ b.toNat ≤ 57 := by unfold digB; rw [Bool.and_eq_true, decide_eq_true_eq, decide_eq_true_eq]
set_option maxHeartbeats 4000000 in
set_option maxRecDepth 1000000 in
theorem number_any (s : ByteArray) (hs : s.size ≤ 1000000) (w : World) :
    Calls Tryd.prog 35 #[.string s] w fun e w' => e = .returned (.tuple #[.string (strL ((s.data.toList.takeWhile digB).dropWhile fun b => b == 48)), .bool (!(s.data.toList.takeWhile digB).isEmpty)]) ∧ w = w' := by
  obtain ⟨D, hD⟩ : ∃ D, s.data.toList.takeWhile digB = D := ⟨_, rfl⟩
  rw [hD]
  have HD := Lib.hid hD
  clear hD
  obtain ⟨B, hB⟩ : ∃ B, (!D.isEmpty) = B := ⟨_, rfl⟩
  obtain ⟨Z, hZ⟩ : ∃ Z, D.dropWhile (fun b => b == 48) = Z := ⟨_, rfl⟩
  rw [hB, hZ]
  have HB := Lib.hid hB
  have HZ := Lib.hid hZ
  have HL := Lib.hid (size_list s)
  clear hB hZ
  go_enter Tryd.func35, Tryd.ntmps35
  go_wp2_with fail
  go_loopw [4] (fun n wr => wr = w ∧ ∃ k : Nat, n = .int .i64 k ∧ k ≤ s.size ∧ Hid (s.data.toList.take k ++ (s.data.toList.drop k).takeWhile digB = D)) (fun n _ => s.size - (intOf n).toNat)
  case atStart => exact ⟨rfl, 0, rfl, Nat.zero_le _, Lib.hid (by rw [List.take_zero, List.drop_zero, List.nil_append]; exact HD.out)⟩
  case round =>
    obtain ⟨rfl, k, rfl, hk, HK⟩ := hrel
    have hst := HK.out
    by_cases hgo : k < s.size ∧ ∃ h : k < s.data.toList.length, digB s.data.toList[k] = true
    · obtain ⟨hlt, hkl, hdg⟩ := hgo
      have hq : ∀ W, (Instr.index 9 (.string s) (.int .i64 k)).run Tryd.prog W = .ok (.int .u8 (s[k].toNat : Int)) W := fun W => run_index_str s k k rfl hlt W
      have hb := byte_at s k hlt
      rw [dig_step _ k hkl, if_pos hdg] at hst
      have hst2 : s.data.toList.take (k + 1) ++ (s.data.toList.drop (k + 1)).takeWhile digB = D := by
        rw [List.take_succ_eq_append_getElem hkl, List.append_assoc]
        exact hst
      rw [hb] at hdg
      have hd2 := (digB_iff _).1 hdg
      clear hst hdg hb HK
      generalize s[k].toNat = x at hq hd2
      replace hst2 := Lib.hid hst2
      clear hkl
      go_wp2_with (go_at_call 43; with_reducible refine (in_yes _ _ _ (by omega) (by omega) _).mono ?_; rintro e w1 ⟨rfl, rfl⟩)
      go_roundw
      case rel => exact ⟨trivial, k + 1, rfl, by omega, hst2⟩
      case measure => simp only [intOf]; omega
    · have hDk : s.data.toList.take k = D := by
        by_cases hlt : k < s.size
        · have hkl : k < s.data.toList.length := by have := HL.out; omega
          rw [dig_step _ k hkl, if_neg (fun h => hgo ⟨hlt, hkl, h⟩), List.append_nil] at hst
          exact hst
        · rw [drop_all s k (by omega), List.takeWhile_nil, List.append_nil] at hst
          exact hst
      have hDl : D.length = k := by rw [← hDk, List.length_take]; have := HL.out; omega
      have hDb : ∀ j (hj : j < D.length) (h2 : j < s.size), D[j] = s[j] := by
        intro j hj h2
        subst hDk
        rw [List.getElem_take]
        exact byte_at s j h2
      have hem : decide (0 < k) = B := by
        rw [← HB.out, Bool.eq_iff_iff, decide_eq_true_eq, Bool.not_eq_true', List.isEmpty_eq_false_iff, ← List.length_pos_iff, hDl]
      have hpart : ∀ j, j ≤ k → s.extract j k = strL (D.drop j) := by
        intro j hj
        rw [part_of s j k hj hk, ← hDk, List.drop_take]
      have HP := Lib.hid hpart
      have HDB := Lib.hid hDb
      have HE := Lib.hid hem
      have HDL := Lib.hid hDl
      clear hst HK HD hDk hem hpart hDb hDl
      have hnd : ∀ hlt : k < s.size, ¬ (48 ≤ s[k].toNat ∧ s[k].toNat ≤ 57) := fun hlt h => hgo ⟨hlt, by have := HL.out; omega, by rw [byte_at s k hlt]; exact (digB_iff _).2 h⟩
      clear hgo
      by_cases hlt : k < s.size
      · have hq : ∀ W, (Instr.index 9 (.string s) (.int .i64 k)).run Tryd.prog W = .ok (.int .u8 (s[k].toNat : Int)) W := fun W => run_index_str s k k rfl hlt W
        have hn := hnd hlt
        have hx := UInt8.toNat_lt s[k]
        clear hnd
        generalize s[k].toNat = x at hq hn hx
        go_wp2_with (go_at_call 43; with_reducible refine (in_no _ _ _ (by omega) _).mono ?_; rintro e w1 ⟨rfl, rfl⟩)
        clear hq hn hx
        go_loopw [5] (fun z wx => wx = wr ∧ ∃ q : Nat, z = .int .i64 q ∧ q ≤ k ∧ Hid ((D.drop q).dropWhile (fun b => b == 48) = Z)) (fun z _ => k - (intOf z).toNat)
        case atStart => exact ⟨rfl, 0, rfl, Nat.zero_le _, Lib.hid (by rw [List.drop_zero]; exact HZ.out)⟩
        case round =>
          obtain ⟨rfl, q, rfl, hq1, HQ⟩ := hrel
          by_cases hqk : q < k
          · have hqD : q < D.length := by have := HDL.out; omega
            have hqs : q < s.size := by omega
            have hqq : ∀ W, (Instr.index 9 (.string s) (.int .i64 q)).run Tryd.prog W = .ok (.int .u8 (s[q].toNat : Int)) W := fun W => run_index_str s q q rfl hqs W
            have hzs := zero_step D q hqD
            rw [HQ.out, HDB.out q hqD hqs] at hzs
            obtain ⟨b, hb⟩ : ∃ b, s[q] = b := ⟨_, rfl⟩
            rw [hb] at hqq hzs
            clear hb
            by_cases h0 : b = 48
            · rw [if_pos h0] at hzs
              have hx : (b.toNat : Int) = 48 := by rw [h0]; rfl
              rw [hx] at hqq
              replace hzs := Lib.hid hzs
              clear h0 hx
              go_wp2_with fail
              go_roundw
              case rel => exact ⟨trivial, q + 1, rfl, by omega, Lib.hid hzs.out.symm⟩
              case measure => simp only [intOf]; omega
            · rw [if_neg h0] at hzs
              have hx : ((b.toNat : Int) == 48) = false := by
                rw [beq_eq_false_iff_ne]
                intro h
                exact h0 (UInt8.toNat.inj (by show b.toNat = 48; omega))
              generalize (b.toNat : Int) = x at hqq hx
              have hsl : ∀ W, (Instr.slice 9 (.string s) (some (.int .i64 q)) (some (.int .i64 (k : Int))) none).run Tryd.prog W = .ok (.string (strL Z)) W := fun W => by rw [run_slice_str s q k _ rfl (by omega) hk W, HP.out q hq1, hzs]
              replace hzs := Lib.hid hzs
              clear h0
              go_wp2_with fail
              go_ret2
              exact ⟨by rw [← HE.out]; rfl, rfl⟩
          · obtain rfl : q = k := by omega
            have hzz : D.drop q = Z := by
              have h2 := HQ.out
              rw [List.drop_eq_nil_of_le (by have := HDL.out; omega)] at h2 ⊢
              exact h2
            have hsl : ∀ W, (Instr.slice 9 (.string s) (some (.int .i64 q)) (some (.int .i64 (q : Int))) none).run Tryd.prog W = .ok (.string (strL Z)) W := fun W => by rw [run_slice_str s q q _ rfl (by omega) hk W, HP.out q hq1, hzz]
            replace hzz := Lib.hid hzz
            go_wp2_with fail
            go_ret2
            exact ⟨by rw [← HE.out]; rfl, rfl⟩
      · clear hnd
        go_wp2_with fail
        go_loopw [5] (fun z wx => wx = wr ∧ ∃ q : Nat, z = .int .i64 q ∧ q ≤ k ∧ Hid ((D.drop q).dropWhile (fun b => b == 48) = Z)) (fun z _ => k - (intOf z).toNat)
        case atStart => exact ⟨rfl, 0, rfl, Nat.zero_le _, Lib.hid (by rw [List.drop_zero]; exact HZ.out)⟩
        case round =>
          obtain ⟨rfl, q, rfl, hq1, HQ⟩ := hrel
          by_cases hqk : q < k
          · have hqD : q < D.length := by have := HDL.out; omega
            have hqs : q < s.size := by omega
            have hqq : ∀ W, (Instr.index 9 (.string s) (.int .i64 q)).run Tryd.prog W = .ok (.int .u8 (s[q].toNat : Int)) W := fun W => run_index_str s q q rfl hqs W
            have hzs := zero_step D q hqD
            rw [HQ.out, HDB.out q hqD hqs] at hzs
            obtain ⟨b, hb⟩ : ∃ b, s[q] = b := ⟨_, rfl⟩
            rw [hb] at hqq hzs
            clear hb
            by_cases h0 : b = 48
            · rw [if_pos h0] at hzs
              have hx : (b.toNat : Int) = 48 := by rw [h0]; rfl
              rw [hx] at hqq
              replace hzs := Lib.hid hzs
              clear h0 hx
              go_wp2_with fail
              go_roundw
              case rel => exact ⟨trivial, q + 1, rfl, by omega, Lib.hid hzs.out.symm⟩
              case measure => simp only [intOf]; omega
            · rw [if_neg h0] at hzs
              have hx : ((b.toNat : Int) == 48) = false := by
                rw [beq_eq_false_iff_ne]
                intro h
                exact h0 (UInt8.toNat.inj (by show b.toNat = 48; omega))
              generalize (b.toNat : Int) = x at hqq hx
              have hsl : ∀ W, (Instr.slice 9 (.string s) (some (.int .i64 q)) (some (.int .i64 (k : Int))) none).run Tryd.prog W = .ok (.string (strL Z)) W := fun W => by rw [run_slice_str s q k _ rfl (by omega) hk W, HP.out q hq1, hzs]
              replace hzs := Lib.hid hzs
              clear h0
              go_wp2_with fail
              go_ret2
              exact ⟨by rw [← HE.out]; rfl, rfl⟩
          · obtain rfl : q = k := by omega
            have hzz : D.drop q = Z := by
              have h2 := HQ.out
              rw [List.drop_eq_nil_of_le (by have := HDL.out; omega)] at h2 ⊢
              exact h2
            have hsl : ∀ W, (Instr.slice 9 (.string s) (some (.int .i64 q)) (some (.int .i64 (q : Int))) none).run Tryd.prog W = .ok (.string (strL Z)) W := fun W => by rw [run_slice_str s q q _ rfl (by omega) hk W, HP.out q hq1, hzz]
            replace hzz := Lib.hid hzz
            go_wp2_with fail
            go_ret2
            exact ⟨by rw [← HE.out]; rfl, rfl⟩
theorem numL_none {l : List UInt8} (h : l.takeWhile digB = []) : numL l = none := by unfold numL; rw [if_pos h]
theorem numL_some {l : List UInt8} (h : l.takeWhile digB ≠ []) : numL l = some ((l.takeWhile digB).dropWhile fun b => b == 48) := by unfold numL; rw [if_neg h]
theorem empty_not {l : List UInt8} (h : l ≠ []) : (!l.isEmpty) = true := by cases l <;> simp_all
set_option maxHeartbeats 4000000 in
set_option maxRecDepth 1000000 in
theorem rorder_any (comp : Int) (a b : ByteArray) (ha : a.size ≤ 1000000) (hb : b.size ≤ 1000000) (w : World) :
    Calls Tryd.prog 17 #[.int .i64 comp, .string a, .string b] w fun e w' => e = .returned (.int .i64 (ordL comp a.data.toList b.data.toList)) ∧ Below w.heap.size w w' := by
  by_cases h3 : comp = 3
  · subst h3
    have e : ordL 3 a.data.toList b.data.toList = cmpN (numL a.data.toList) (numL b.data.toList) := rfl
    rw [e]
    have c1 := fun w => number_any a ha w
    have c2 := fun w => number_any b hb w
    by_cases n1 : a.data.toList.takeWhile digB = []
    · rw [numL_none n1]
      rw [n1] at c1
      simp only [List.dropWhile_nil, List.isEmpty_nil, Bool.not_true] at c1
      by_cases n2 : b.data.toList.takeWhile digB = []
      · rw [numL_none n2]
        rw [n2] at c2
        simp only [List.dropWhile_nil, List.isEmpty_nil, Bool.not_true] at c2
        simp only [cmpN]
        clear n1 n2 e
        go_enter Tryd.func17, Tryd.ntmps17
        go_wp2_with (first
          | (go_at_call 35; with_reducible refine (c1 _).mono ?_; rintro e w1 ⟨rfl, rfl⟩)
          | (go_at_call 35; with_reducible refine (c2 _).mono ?_; rintro e w1 ⟨rfl, rfl⟩))
        go_ret
        exact ⟨rfl, Below.refl _ _⟩
      · rw [numL_some n2]
        rw [empty_not n2] at c2
        simp only [cmpN]
        generalize strL ((b.data.toList.takeWhile digB).dropWhile fun b => b == 48) = Z2 at c2
        clear n1 n2 e
        go_enter Tryd.func17, Tryd.ntmps17
        go_wp2_with (first
          | (go_at_call 35; with_reducible refine (c1 _).mono ?_; rintro e w1 ⟨rfl, rfl⟩)
          | (go_at_call 35; with_reducible refine (c2 _).mono ?_; rintro e w1 ⟨rfl, rfl⟩))
        go_ret
        exact ⟨rfl, Below.refl _ _⟩
    · rw [numL_some n1]
      rw [empty_not n1] at c1
      by_cases n2 : b.data.toList.takeWhile digB = []
      · rw [numL_none n2]
        rw [n2] at c2
        simp only [List.dropWhile_nil, List.isEmpty_nil, Bool.not_true] at c2
        simp only [cmpN]
        generalize strL ((a.data.toList.takeWhile digB).dropWhile fun b => b == 48) = Z1 at c1
        clear n1 n2 e
        go_enter Tryd.func17, Tryd.ntmps17
        go_wp2_with (first
          | (go_at_call 35; with_reducible refine (c1 _).mono ?_; rintro e w1 ⟨rfl, rfl⟩)
          | (go_at_call 35; with_reducible refine (c2 _).mono ?_; rintro e w1 ⟨rfl, rfl⟩))
        go_ret
        exact ⟨rfl, Below.refl _ _⟩
      · rw [numL_some n2]
        rw [empty_not n2] at c2
        simp only [cmpN]
        generalize ((a.data.toList.takeWhile digB).dropWhile fun b => b == 48) = A at c1
        generalize ((b.data.toList.takeWhile digB).dropWhile fun b => b == 48) = B at c2
        have c3 := fun w => compared_any A B w
        unfold cmpD
        have zA := strL_size A
        have zB := strL_size B
        generalize cmpL A B = X at c3
        generalize strL A = SA at zA c1 c3
        generalize strL B = SB at zB c2 c3
        generalize A.length = la at zA
        generalize B.length = lb at zB
        clear n1 n2 e
        by_cases k1 : la < lb
        · rw [if_pos k1]
          have k2 : ¬ (la : Int) = (lb : Int) := by omega
          have k3 : (la : Int) < (lb : Int) := by omega
          go_enter Tryd.func17, Tryd.ntmps17
          go_wp2_with (first
            | (go_at_call 35; with_reducible refine (c1 _).mono ?_; rintro e w1 ⟨rfl, rfl⟩)
            | (go_at_call 35; with_reducible refine (c2 _).mono ?_; rintro e w1 ⟨rfl, rfl⟩)
            | (go_at_call 33; with_reducible refine (c3 _).mono ?_; rintro e w1 ⟨rfl, rfl⟩))
          go_ret
          exact ⟨rfl, Below.refl _ _⟩
        · rw [if_neg k1]
          by_cases k4 : lb < la
          · rw [if_pos k4]
            have k2 : ¬ (la : Int) = (lb : Int) := by omega
            have k3 : ¬ (la : Int) < (lb : Int) := by omega
            go_enter Tryd.func17, Tryd.ntmps17
            go_wp2_with (first
              | (go_at_call 35; with_reducible refine (c1 _).mono ?_; rintro e w1 ⟨rfl, rfl⟩)
              | (go_at_call 35; with_reducible refine (c2 _).mono ?_; rintro e w1 ⟨rfl, rfl⟩)
              | (go_at_call 33; with_reducible refine (c3 _).mono ?_; rintro e w1 ⟨rfl, rfl⟩))
            go_ret
            exact ⟨rfl, Below.refl _ _⟩
          · rw [if_neg k4]
            obtain rfl : la = lb := by omega
            go_enter Tryd.func17, Tryd.ntmps17
            go_wp2_with (first
              | (go_at_call 35; with_reducible refine (c1 _).mono ?_; rintro e w1 ⟨rfl, rfl⟩)
              | (go_at_call 35; with_reducible refine (c2 _).mono ?_; rintro e w1 ⟨rfl, rfl⟩)
              | (go_at_call 33; with_reducible refine (c3 _).mono ?_; rintro e w1 ⟨rfl, rfl⟩))
            go_ret
            exact ⟨rfl, Below.refl _ _⟩
  · rw [ord_key h3]
    have c1 := fun w => rkey_any comp a ha w
    have c2 := fun w => rkey_any comp b hb w
    generalize keyL comp a.data.toList = A at c1 ⊢
    generalize keyL comp b.data.toList = B at c2 ⊢
    have c3 := fun w => compared_any A B w
    generalize cmpL A B = R at c3 ⊢
    go_enter Tryd.func17, Tryd.ntmps17
    go_wp2_with fail
    refine (c1 w).mono ?_
    rintro e w1 ⟨rfl, hb1⟩
    have hs1 := hb1.size
    go_wp2_with fail
    refine (c2 w1).mono ?_
    rintro e w2 ⟨rfl, hb2⟩
    have hb12 := hb1.trans (hb2.mono hs1)
    go_wp2_with fail
    refine (c3 w2).mono ?_
    rintro e w3 ⟨rfl, rfl⟩
    go_wp2_with fail
    go_ret
    exact ⟨rfl, hb12⟩
end Go.Proofs.YtbplbifmohbfdaaDoor
