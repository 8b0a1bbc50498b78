/- fold.Order: by bytes, by lower case, by number. -/
import Derived.Test.YtbplbifmohbfdaaDoorUnits
namespace Go.Proofs.YtbplbifmohbfdaaDoor
open Go.ChangeShapes Go.WideShapes Go.ChangeAt Go.RowKit

theorem compare_eq : ∀ a b : List UInt8, Lib.compareBytes a b = cmpL a b
  | [], [] => rfl
  | [], _ :: _ => rfl
  | _ :: _, [] => rfl
  | a :: xs, b :: ys => by
    have ih := compare_eq xs ys
    unfold Lib.compareBytes cmpL
    by_cases h1 : a < b
    · have hl : Op.bytesLess (a :: xs) (b :: ys) = true := (less_cons a b xs ys).2 (.inl (UInt8.lt_iff_toNat_lt.1 h1))
      rw [if_pos h1, if_pos hl]
    · by_cases h2 : b < a
      · have h2n := UInt8.lt_iff_toNat_lt.1 h2
        have hn : ¬ Op.bytesLess (a :: xs) (b :: ys) = true := by
          rw [less_cons]
          rintro (h | ⟨rfl, _⟩)
          · omega
          · omega
        have hl : Op.bytesLess (b :: ys) (a :: xs) = true := (less_cons b a ys xs).2 (.inl h2n)
        rw [if_neg h1, if_pos h2, if_neg hn, if_pos hl]
      · have e : a = b := by
          have h1n : ¬ a.toNat < b.toNat := fun h => h1 (UInt8.lt_iff_toNat_lt.2 h)
          have h2n : ¬ b.toNat < a.toNat := fun h => h2 (UInt8.lt_iff_toNat_lt.2 h)
          exact UInt8.toNat_inj.1 (by omega)
        subst e
        rw [if_neg h1, if_neg h2, ih]
        unfold cmpL
        have e1 : ∀ x y : List UInt8, (Op.bytesLess (a :: x) (a :: y) = true) = (Op.bytesLess x y = true) := by
          intro x y
          rw [less_cons]
          exact propext ⟨fun h => h.elim (fun h => absurd h (Nat.lt_irrefl _)) (fun h => h.2), fun h => .inr ⟨rfl, h⟩⟩
        simp only [e1]
theorem compare_any (a b : List UInt8) (w : World) :
    Calls Tryd.prog 31 #[.string (strL a), .string (strL b)] w fun e w' => e = .returned (.int .i64 (cmpL a b)) ∧ w' = w := by
  have := Tryd.strings_Compare (strL a) (strL b) w
  rw [strL_list, strL_list, compare_eq] at this
  exact this
theorem trim_any (a : List UInt8) (w : World) :
    Calls Tryd.prog 44 #[.string (strL a), .string ⟨#[48]⟩] w fun e w' => e = .returned (.string (strL (a.dropWhile fun b => b == 48))) ∧ w' = w :=
  Tryd.strings_TrimLeft_one (strL a) 48 (by decide) w

/-! ### Digits -/
theorem dig_enc {n : Nat} (hc : cpB n = true) (t : List UInt8) : (48 ≤ n ∧ n ≤ 57 ∧ (encL n).length = 1 ∧ (encL n ++ t).takeWhile digB = encL n ++ t.takeWhile digB) ∨ ((n < 48 ∨ 57 < n) ∧ (encL n ++ t).takeWhile digB = []) := by
  by_cases h : 48 ≤ n ∧ n ≤ 57
  · have e : encL n = [UInt8.ofNat n] := by unfold encL; rw [if_pos (by omega)]
    have hd : digB (UInt8.ofNat n) = true := by
      unfold digB
      rw [nat_byte (by omega), decide_eq_true h.1, decide_eq_true h.2]; rfl
    refine .inl ⟨h.1, h.2, by rw [e]; rfl, ?_⟩
    rw [e, List.singleton_append, List.takeWhile_cons, hd]; rfl
  · have hn : n < 48 ∨ 57 < n := by omega
    refine .inr ⟨hn, ?_⟩
    by_cases h1 : n < 128
    · have e : encL n = [UInt8.ofNat n] := by unfold encL; rw [if_pos h1]
      have hd : digB (UInt8.ofNat n) = false := by
        rw [Bool.eq_false_iff]
        intro hd
        unfold digB at hd
        rw [nat_byte (by omega)] at hd
        simp only [Bool.and_eq_true, decide_eq_true_eq] at hd
        omega
      rw [e, List.singleton_append, List.takeWhile_cons, hd]; rfl
    · obtain ⟨b, r, e, hb⟩ := enc_high (n := n) (by omega) hc
      have hd : digB b = false := by
        rw [Bool.eq_false_iff]
        intro hd
        unfold digB at hd
        simp only [Bool.and_eq_true, decide_eq_true_eq] at hd
        omega
      rw [e, List.cons_append, List.takeWhile_cons, hd]; rfl
theorem dig_none {b : UInt8} {t : List UInt8} (h : firstS (b :: t) = none) : (b :: t).takeWhile digB = [] := by
  have := asc_single h
  have hd : digB b = false := by
    rw [Bool.eq_false_iff]
    intro hd
    unfold digB at hd
    simp only [Bool.and_eq_true, decide_eq_true_eq] at hd
    omega
  rw [List.takeWhile_cons, hd]; rfl
set_option maxHeartbeats 4000000 in
set_option maxRecDepth 1000000 in
theorem digits_any (s : ByteArray) (_hs : s.size ≤ 1000000) (w : World) :
    Calls Tryd.prog 30 #[.string s] w fun e w' => e = .returned (.string (strL (s.data.toList.takeWhile digB))) ∧ Below w.heap.size w w' := by
  obtain ⟨ANS, hA⟩ : ∃ z, s.data.toList.takeWhile digB = z := ⟨_, rfl⟩
  rw [hA]
  have HA := Lib.hid hA
  clear hA
  go_enter Tryd.func30, Tryd.ntmps30
  go_wp2_with fail
  go_loopw [] (fun wr => ∃ pos : Nat, pos ≤ s.size ∧ wr.heap[w.heap.size]? = some (.stringIter s pos) ∧ Below w.heap.size w wr ∧ Hid (s.data.toList.take pos ++ (s.data.toList.drop pos).takeWhile digB = ANS)) (fun wr => s.size - wr.iterPos w.heap.size)
  case atStart => exact ⟨0, Nat.zero_le _, World.iter_heap w s 0, (Below.refl _ w).alloc (Nat.le_refl _) _, Lib.hid (by rw [List.take_zero, List.drop_zero, List.nil_append]; exact HA.out)⟩
  case round =>
    obtain ⟨pos, hps, hit, hbw, HK⟩ := hrel
    by_cases hp : pos < s.size
    · have hnx : ∀ ty, (Instr.next (.pointer (some ⟨w.heap.size, 0, none⟩)) true ty).run Tryd.prog wr = _ := fun ty => Lib.run_next_any_at wr w.heap.size s pos ty hit hp
      have hwd := width_at s pos hp
      have hd1 := decode_le s pos
      have hcases := decode_cases s pos hp
      have hstep : ∃ N L : Nat, Utf8.decode s pos = (N, L) ∧ ((48 ≤ N ∧ N ≤ 57 ∧ L = 1 ∧ s.data.toList.take (pos + 1) ++ (s.data.toList.drop (pos + 1)).takeWhile digB = ANS) ∨ ((N < 48 ∨ 57 < N) ∧ s.data.toList.take pos = ANS)) := by
        have hK := HK.out
        rcases hcases with ⟨n, t, hc, ht, he, hr⟩ | ⟨b, t, hf, ht, he, hr⟩
        · refine ⟨_, _, he, ?_⟩
          rcases dig_enc hc t with ⟨h1, h2, h3, h4⟩ | ⟨h1, h2⟩
          · refine .inl ⟨h1, h2, h3, ?_⟩
            rw [ht, h4] at hK
            rw [h3] at hr
            rw [hr, ← hK, List.take_add, ht, ← h3, List.take_left, List.append_assoc]
          · refine .inr ⟨h1, ?_⟩
            rw [ht, h2, List.append_nil] at hK
            exact hK
        · refine ⟨_, _, he, .inr ⟨.inr (by omega), ?_⟩⟩
          rw [ht, dig_none hf, List.append_nil] at hK
          exact hK
      obtain ⟨N, L, hdec, hcase⟩ := hstep
      rw [hdec] at hnx hwd hd1
      simp only at hnx hwd hd1
      have hit2 := Lib.iterAt_heap wr w.heap.size s pos (pos + L) hit
      have hbw2 := Lib.below_iterAt hbw (k := w.heap.size) (Nat.le_refl _) s (pos + L)
      have hit0 := Lib.hid hit
      obtain ⟨wi, hwi⟩ : ∃ W, wr.iterAt w.heap.size s (pos + L) = W := ⟨_, rfl⟩
      rw [hwi] at hnx hbw2 hit2
      clear hcases hit
      rcases hcase with ⟨h1, h2, h3, h4⟩ | ⟨h1, h4⟩
      · subst h3
        have j1 : ¬ (N : Int) < 48 := by omega
        have j2 : ¬ (57 : Int) < (N : Int) := by omega
        replace h4 := Lib.hid h4
        go_wp2_with fail
        go_roundw
        case rel => exact ⟨pos + 1, hwd.2, hit2, hbw2, h4⟩
        case measure =>
          simp only [World.iterPos, hit2, hit0.out]
          omega
      · have hex := part_of s 0 pos (Nat.zero_le _) hps
        rw [List.drop_zero, Nat.sub_zero, h4] at hex
        clear h4
        by_cases hN : (N : Int) < 48
        · go_wp2_with fail
          go_ret
          exact ⟨rfl, hbw2⟩
        · have j2 : (57 : Int) < (N : Int) := by omega
          go_wp2_with fail
          go_ret
          exact ⟨rfl, hbw2⟩
    · have hnx : ∀ ty, (Instr.next (.pointer (some ⟨w.heap.size, 0, none⟩)) true ty).run Tryd.prog wr = _ := fun ty => Lib.run_next_end_at wr w.heap.size s pos ty hit hp
      have hpe : pos = s.size := by omega
      subst hpe
      have hend : strL ANS = s := by
        have hK := HK.out
        rw [drop_all s s.size (Nat.le_refl _), List.takeWhile_nil, List.append_nil, List.take_of_length_le (by rw [← size_list]; exact Nat.le_refl _)] at hK
        rw [← hK, strL_of]
      go_wp2_with fail
      go_ret
      exact ⟨by rw [hend]; rfl, hbw⟩

/-! ### Numbers -/
def orVal (x y : Int) : Int := if x = 0 then y else x
theorem or_any (x y : Int) (g : Nat) (w : World) (h0 : w.cell? ⟨g, 0, none⟩ = some (.int .i64 x)) (h1 : w.cell? ⟨g, 1, none⟩ = some (.int .i64 y)) :
    Calls Tryd.prog 45 #[.slice (some ⟨g, 0, none⟩) 2 2] w fun e w' => e = .returned (.int .i64 (orVal x y)) ∧ w = w' := by
  obtain ⟨R, hR⟩ : ∃ R, orVal x y = R := ⟨_, rfl⟩
  rw [hR]
  unfold orVal at hR
  go_enter Tryd.func45, Tryd.ntmps45
  go_wp2_with fail
  go_loopw [8] (fun v wr => wr = w ∧ (v = .int .i64 0 ∨ (v = .int .i64 1 ∧ x = 0) ∨ (v = .int .i64 2 ∧ x = 0 ∧ y = 0))) (fun v _ => 2 - (intOf v).toNat)
  case atStart => exact ⟨rfl, .inl rfl⟩
  case round =>
    obtain ⟨rfl, hv⟩ := hrel
    rcases hv with rfl | ⟨rfl, hx⟩ | ⟨rfl, hx, hy⟩
    · by_cases hx : x = 0
      · rw [hx] at h0
        replace hR := Lib.hid hR
        go_wp2_with fail
        go_roundw
        case rel => simp [hx]
        case measure => simp [intOf]
      · rw [if_neg hx] at hR
        go_wp2_with fail
        go_ret
        exact ⟨rfl, rfl⟩
    · rw [if_pos hx] at hR
      by_cases hy : y = 0
      · rw [hy] at h1
        replace hR := Lib.hid hR
        go_wp2_with fail
        go_roundw
        case rel => simp [hx, hy]
        case measure => simp [intOf]
      · go_wp2_with fail
        go_ret
        exact ⟨rfl, rfl⟩
    · rw [if_pos hx, hy] at hR
      go_wp2_with fail
      go_ret
      exact ⟨by rw [← hR]; rfl, rfl⟩
theorem two_new (w : World) (x y : Int) : (w.alloc (.cells #[.int .i64 x, .int .i64 y] 3)).cell? ⟨w.heap.size, 0, none⟩ = some (.int .i64 x) ∧ (w.alloc (.cells #[.int .i64 x, .int .i64 y] 3)).cell? ⟨w.heap.size, 1, none⟩ = some (.int .i64 y) := by
  have := Go.heap_alloc_new w (.cells #[.int .i64 x, .int .i64 y] 3)
  constructor
  · simp only [World.cell?, this]; rfl
  · simp only [World.cell?, this]; rfl
def ordD (x y : List UInt8) : Int := if x = [] then (if y = [] then 0 else 1) else if y = [] then -1 else cmpD (x.dropWhile fun b => b == 48) (y.dropWhile fun b => b == 48)
theorem ordD_num (a b : List UInt8) : ordD (a.takeWhile digB) (b.takeWhile digB) = cmpN (numL a) (numL b) := by
  unfold ordD numL
  by_cases h1 : a.takeWhile digB = []
  · by_cases h2 : b.takeWhile digB = []
    · simp only [if_pos h1, if_pos h2, cmpN]
    · simp only [if_pos h1, if_neg h2, cmpN]
  · by_cases h2 : b.takeWhile digB = []
    · simp only [if_neg h1, if_pos h2, cmpN]
    · simp only [if_neg h1, if_neg h2, cmpN]
theorem cmpD_or (x y : List UInt8) : orVal (Lib.compareInt (x.length : Int) (y.length : Int)) (cmpL x y) = cmpD x y := by
  unfold orVal Lib.compareInt cmpD
  by_cases h1 : x.length < y.length
  · rw [if_pos (show (x.length : Int) < (y.length : Int) by omega), if_pos h1]; rfl
  · rw [if_neg (show ¬ (x.length : Int) < (y.length : Int) by omega), if_neg h1]
    by_cases h2 : y.length < x.length
    · rw [if_pos (show (x.length : Int) > (y.length : Int) by omega), if_pos h2]; rfl
    · rw [if_neg (show ¬ (x.length : Int) > (y.length : Int) by omega), if_neg h2]; rfl
theorem strL_empty (l : List UInt8) (b : Bool) (h : decide (l = []) = b) : (strL l).toList.isEmpty = b := by
  rw [ByteArray.toList_eq, strL_list, ← h]
  cases l <;> simp
theorem numbers_any (a b : List UInt8) (ha : a.length ≤ 1000000) (hb : b.length ≤ 1000000) (w : World) :
    Calls Tryd.prog 29 #[.string (strL a), .string (strL b)] w fun e w' => e = .returned (.int .i64 (ordD a b)) ∧ Below w.heap.size w w' := by
  unfold ordD
  by_cases h1 : a = []
  · have e1 := strL_empty a true (by rw [h1]; rfl)
    rw [if_pos h1]
    clear h1
    by_cases h2 : b = []
    · have e2 := strL_empty b true (by rw [h2]; rfl)
      rw [if_pos h2]
      clear h2
      go_enter Tryd.func29, Tryd.ntmps29
      go_wp2_with fail
      go_ret
      exact ⟨rfl, Below.refl _ _⟩
    · have e2 := strL_empty b false (by rw [decide_eq_false h2])
      rw [if_neg h2]
      clear h2
      go_enter Tryd.func29, Tryd.ntmps29
      go_wp2_with fail
      go_ret
      exact ⟨rfl, Below.refl _ _⟩
  · have e1 := strL_empty a false (by rw [decide_eq_false h1])
    rw [if_neg h1]
    clear h1
    by_cases h2 : b = []
    · have e2 := strL_empty b true (by rw [h2]; rfl)
      rw [if_pos h2]
      clear h2
      go_enter Tryd.func29, Tryd.ntmps29
      go_wp2_with fail
      go_ret
      exact ⟨rfl, Below.refl _ _⟩
    · have e2 := strL_empty b false (by rw [decide_eq_false h2])
      rw [if_neg h2]
      clear h2
      have c1 := fun w => trim_any a w
      have c2 := fun w => trim_any b w
      obtain ⟨A, hA⟩ : ∃ A, a.dropWhile (fun b => b == 48) = A := ⟨_, rfl⟩
      obtain ⟨B, hB⟩ : ∃ B, b.dropWhile (fun b => b == 48) = B := ⟨_, rfl⟩
      rw [hA] at c1 ⊢
      rw [hB] at c2 ⊢
      have hAl : A.length ≤ 1000000 := by rw [← hA]; exact Nat.le_trans (List.dropWhile_suffix _).length_le ha
      have hBl : B.length ≤ 1000000 := by rw [← hB]; exact Nat.le_trans (List.dropWhile_suffix _).length_le hb
      rw [← cmpD_or]
      obtain ⟨X, hX⟩ : ∃ X, Lib.compareInt (A.length : Int) (B.length : Int) = X := ⟨_, rfl⟩
      obtain ⟨Y, hY⟩ : ∃ Y, cmpL A B = Y := ⟨_, rfl⟩
      have c3 := fun w => Tryd.cmp_Compare_int (A.length : Int) (B.length : Int) w
      have c4 := fun w => compare_any A B w
      rw [hX] at c3 ⊢
      rw [hY] at c4 ⊢
      have zA := strL_size A
      have zB := strL_size B
      clear hX hY hA hB ha hb
      go_enter Tryd.func29, Tryd.ntmps29
      go_wp2_with (first
        | (go_at_call 44; first | (with_reducible refine (c1 _).mono ?_; rintro e w1 ⟨rfl, rfl⟩) | (with_reducible refine (c2 _).mono ?_; rintro e w1 ⟨rfl, rfl⟩))
        | (go_at_call 46; refine (c3 _).mono ?_; rintro e w1 ⟨rfl, rfl⟩)
        | (go_at_call 31; refine (c4 _).mono ?_; rintro e w1 ⟨rfl, rfl⟩)
        | (go_at_call 45; refine (or_any X Y _ _ (two_new _ X Y).1 (two_new _ X Y).2).mono ?_; rintro e w1 ⟨rfl, rfl⟩))
      go_ret
      exact ⟨rfl, (Below.refl _ _).alloc (Nat.le_refl _) _⟩
theorem ord_key {comp : Int} (h : comp ≠ 3) (a b : List UInt8) : ordL comp a b = cmpL (keyL comp a) (keyL comp b) := by
  unfold ordL keyL
  rw [if_neg h]
  split <;> rfl
theorem order_any (comp : Int) (a b : ByteArray) (ha : a.size ≤ 1000000) (hb : b.size ≤ 1000000) (w : World) (hv : Vars w) :
    Calls Tryd.prog 16 #[.int .i64 comp, .string a, .string b] w fun e w' => e = .returned (.int .i64 (ordL comp a.data.toList b.data.toList)) ∧ Below w.heap.size w w' := by
  by_cases h3 : comp = 3
  · subst h3
    have e : ordL 3 a.data.toList b.data.toList = ordD (a.data.toList.takeWhile digB) (b.data.toList.takeWhile digB) := by rw [ordD_num]; rfl
    rw [e]
    have c1 := fun w => digits_any a ha w
    have c2 := fun w => digits_any b hb w
    have hA : (a.data.toList.takeWhile digB).length ≤ 1000000 := Nat.le_trans (List.takeWhile_prefix _).length_le (by rw [← size_list]; exact ha)
    have hB : (b.data.toList.takeWhile digB).length ≤ 1000000 := Nat.le_trans (List.takeWhile_prefix _).length_le (by rw [← size_list]; exact hb)
    generalize a.data.toList.takeWhile digB = A at c1 hA ⊢
    generalize b.data.toList.takeWhile digB = B at c2 hB ⊢
    have c3 := fun w => numbers_any A B hA hB w
    generalize ordD A B = R at c3 ⊢
    go_enter Tryd.func16, Tryd.ntmps16
    go_wp2_with fail
    refine (c1 w).mono ?_
    rintro e w1 ⟨rfl, hb1⟩
    have hs1 := hb1.size
    go_wp2_with fail
    refine (c2 w1).mono ?_
    rintro e w2 ⟨rfl, hb2⟩
    have hb12 := hb1.trans (hb2.mono hs1)
    have hs2 := hb12.size
    go_wp2_with fail
    refine (c3 w2).mono ?_
    rintro e w3 ⟨rfl, hb3⟩
    go_wp2_with fail
    go_ret
    exact ⟨rfl, hb12.trans (hb3.mono hs2)⟩
  · rw [ord_key h3]
    have c1 := fun w hv => key_any comp a ha w hv
    have c2 := fun w hv => key_any comp b hb w hv
    generalize keyL comp a.data.toList = A at c1 ⊢
    generalize keyL comp b.data.toList = B at c2 ⊢
    have c3 := fun w => compare_any A B w
    generalize cmpL A B = R at c3 ⊢
    go_enter Tryd.func16, Tryd.ntmps16
    go_wp2_with fail
    refine (c1 w hv).mono ?_
    rintro e w1 ⟨rfl, hb1⟩
    have hs1 := hb1.size
    go_wp2_with fail
    refine (c2 w1 (hv.below hb1)).mono ?_
    rintro e w2 ⟨rfl, hb2⟩
    have hb12 := hb1.trans (hb2.mono hs1)
    go_wp2_with fail
    refine (c3 w2).mono ?_
    rintro e w3 ⟨rfl, rfl⟩
    go_wp2_with fail
    go_ret
    exact ⟨rfl, hb12⟩
end Go.Proofs.YtbplbifmohbfdaaDoor
