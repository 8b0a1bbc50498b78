/- CtypeSections. -/
import Derived.Test.YtdinachiiimngaaGreatDoorK12
namespace Go.Proofs.YtdinachiiimngaaGreatDoor
open Go.ChangeShapes Go.WideShapes Go.ChangeAt Go.RowKit
open TokP AdrP CtP

def cB : ByteArray := ⟨#[97, 47, 98]⟩
theorem flatR_nil : flatR [] = [] := rfl
theorem sst_zero (V : List UInt8) : Sst V 0 0 [] [] := ⟨rfl, rfl, List.nodup_nil, fun j c => by simp⟩
theorem row_zero (X E : ByteArray) (k : Nat) (c : List UInt8) (hk : k = 0) (hX : X = strL (txtF k)) (hE : E = strL (escA c)) :
    ((((⟨#[59, 32, 110, 42]⟩ : ByteArray) ++ X) ++ ⟨#[42, 61]⟩) ++ ⟨#[85, 84, 70, 45, 56, 39, 101, 110, 39]⟩) ++ E = strL (59 :: 32 :: secW txtF k c) := by
  subst hX hE
  refine bytes_is ?_
  rw [list_append, list_append, list_append, list_append, strL_list, strL_list, strL_list]
  unfold secW secV headN setN
  rw [if_pos hk]
  simp
theorem row_next (X E : ByteArray) (k : Nat) (c : List UInt8) (hk : ¬ k = 0) (hX : X = strL (txtF k)) (hE : E = strL (escA c)) :
    (((⟨#[59, 32, 110, 42]⟩ : ByteArray) ++ X) ++ ⟨#[42, 61]⟩) ++ E = strL (59 :: 32 :: secW txtF k c) := by
  subst hX hE
  refine bytes_is ?_
  rw [list_append, list_append, list_append, strL_list, strL_list, strL_list]
  unfold secW secV
  rw [if_neg hk]
  simp
theorem kind_set : Cs.kindL setN = 2 := by decide +kernel
theorem dec_set (V : List UInt8) : decF setN V = repairL V := by unfold decF; rw [kind_set]; rfl
set_option maxRecDepth 100000 in
set_option maxHeartbeats 8000000 in
theorem secs_any (V : ByteArray) (v : Value) (xs : List Int) (r : Bool) (w : World) (h : HasI w v xs) (hv : Vr w) :
    Calls Tryz.prog 6 #[.string V, v, .bool r] w fun e w' => e = .returned (.bool true) ∧ Below w.heap.size w w' := by
  obtain ⟨a, c, rfl⟩ := h.form
  obtain ⟨m, hm⟩ : ∃ m, xs.length = m := ⟨_, rfl⟩
  obtain ⟨n, hn⟩ : ∃ n, V.size = n := ⟨_, rfl⟩
  rw [hm] at h ⊢
  have HI := Lib.hid h
  have HM := Lib.hid hm
  have HL := Lib.hid (size_list V)
  have cS := small_any w hv
  have HV := Lib.hid hv
  clear hv h hm
  by_cases h3 : 300 < n
  · have h3' : (300 : Int) < (n : Int) := by omega
    go_enter Tryz.func6, Tryz.ntmps6
    go_wp2_with (go_at_call 8; (with_reducible refine cS.mono ?_); rintro e w1 ⟨rfl, hb1⟩; have HB1 := Lib.hid hb1; clear hb1 cS)
    go_ret
    exact ⟨rfl, HB1.out⟩
  by_cases h10 : 10 < m
  · have h3' : ¬ (300 : Int) < (n : Int) := by omega
    have h10' : (10 : Int) < (m : Int) := by omega
    go_enter Tryz.func6, Tryz.ntmps6
    go_wp2_with (go_at_call 8; (with_reducible refine cS.mono ?_); rintro e w1 ⟨rfl, hb1⟩; have HB1 := Lib.hid hb1; clear hb1 cS)
    go_ret
    exact ⟨rfl, HB1.out⟩
  have h3' : ¬ (300 : Int) < (n : Int) := by omega
  have h10' : ¬ (10 : Int) < (m : Int) := by omega
  go_enter Tryz.func6, Tryz.ntmps6
  go_wp2_with (go_at_call 8; (with_reducible refine cS.mono ?_); rintro e w1 ⟨rfl, hb1⟩; have HB1 := Lib.hid hb1; clear hb1 cS)
  go_loopw [8, 9, 10, 11] (fun o t i j wr => ∃ (k p : Nat) (T : ByteArray) (cs : List (List UInt8)) (rs : List (Nat × List UInt8)), k ≤ m + 1 ∧ p ≤ n ∧ o = .int .i64 p ∧ t = .string T ∧ i = .int .i64 k ∧ j = .int .i64 k ∧ T.size ≤ 1000 * k ∧ Hid (T = strL (flatR rs)) ∧ Hid (Sst V.data.toList k p cs rs) ∧ Hid (k = m + 1 → p = n) ∧ Hid (Below w.heap.size w wr)) (fun _ _ i _ _ => m + 1 - (intOf i).toNat)
  case atStart => exact ⟨0, 0, ⟨#[]⟩, [], [], Nat.zero_le _, Nat.zero_le _, rfl, rfl, rfl, rfl, Nat.zero_le _, Lib.hid rfl, Lib.hid (sst_zero _), Lib.hid (fun e => by omega), HB1⟩
  case round =>
    obtain ⟨k, p, T, cs, rs, hk, hp, rfl, rfl, rfl, rfl, hTz, HT, HS, HE, HB⟩ := hrel
    have F1 : IntKind.i64.wrap ((k : Int) + 1) = (k : Int) + 1 := by rw [IntKind.wrap_i64]; omega
    by_cases hle : k ≤ m
    · have hle' : (k : Int) ≤ (m : Int) := by omega
      have cT := fun W (hv : Nu.Vars W) => Nu.text_any (k : Int) (by omega) (by omega) W hv
      rw [show (⟨(Lib.itoa (k : Int)).toArray⟩ : ByteArray) = strL (txtF k) from rfl] at cT
      have hXz : (strL (txtF k)).size ≤ 2 := by rw [strL_size]; exact (txt_facts ⟨k, by omega⟩).2.2
      generalize hX : strL (txtF k) = X at cT hXz
      have HX := Lib.hid hX
      clear hX
      have hc1 : (⟨#[59, 32, 110, 42]⟩ : ByteArray).size + X.size ≤ 1000 := by show 4 + X.size ≤ _; omega
      have hc2 : ((⟨#[59, 32, 110, 42]⟩ : ByteArray) ++ X).size + (⟨#[42, 61]⟩ : ByteArray).size ≤ 1000 := by rw [ByteArray.size_append]; show 4 + X.size + 2 ≤ _; omega
      by_cases hlt : k < m
      · have hlt' : (k : Int) < (m : Int) := by omega
        obtain ⟨g, o, rfl, hfa⟩ := HI.out.at (by omega)
        obtain ⟨x, hx⟩ : ∃ x, xs[k]? = some x := ⟨_, List.getElem?_eq_getElem (by rw [HM.out]; exact hlt)⟩
        have hxc := cell_below (hfa k x hx) HB.out
        obtain ⟨y, hy⟩ : ∃ y, max x (p : Int) = y := ⟨_, rfl⟩
        obtain ⟨b, hb⟩ : ∃ b : Nat, min y (n : Int) = (b : Int) := ⟨(min y (n : Int)).toNat, by omega⟩
        have hpb : p ≤ b := by omega
        have hbn : b ≤ n := by omega
        clear hfa hx
        by_cases hk0 : k = 0
        · have hz1 : ((k : Int) == 0) = true := by rw [beq_iff_eq]; omega
          have hz2 : decide ((k : Int) = 0) = true := by rw [decide_eq_true_eq]; omega
          replace hk0 := Lib.hid hk0
          cases r with
          | true =>
            have R1 := run_slice_str V p b (b : Int) rfl hpb (by rw [hn]; exact hbn)
            rw [part_of V p b hpb (by rw [hn]; exact hbn)] at R1
            have cE := fun W => escaped_any (strL ((V.data.toList.drop p).take (b - p))) (by rw [strL_size, List.length_take]; omega) W
            rw [strL_list] at cE
            have hEz : (strL (escA ((V.data.toList.drop p).take (b - p)))).size ≤ 900 := by rw [strL_size, escA_len, List.length_take]; omega
            generalize hEq : strL (escA ((V.data.toList.drop p).take (b - p))) = E at cE hEz
            generalize strL ((V.data.toList.drop p).take (b - p)) = U at R1 cE
            have HR := row_zero X E k ((V.data.toList.drop p).take (b - p)) hk0.out HX.out.symm hEq.symm
            have hc3 : ((((⟨#[59, 32, 110, 42]⟩ : ByteArray) ++ X) ++ ⟨#[42, 61]⟩ : ByteArray)).size + (⟨#[85, 84, 70, 45, 56, 39, 101, 110, 39]⟩ : ByteArray).size ≤ 1000 := by rw [ByteArray.size_append, ByteArray.size_append]; show 4 + X.size + 2 + 9 ≤ _; omega
            have hc4 : (((((⟨#[59, 32, 110, 42]⟩ : ByteArray) ++ X) ++ ⟨#[42, 61]⟩) ++ ⟨#[85, 84, 70, 45, 56, 39, 101, 110, 39]⟩ : ByteArray)).size + E.size ≤ 1000 := by rw [ByteArray.size_append, ByteArray.size_append, ByteArray.size_append]; show 4 + X.size + 2 + 9 + E.size ≤ _; omega
            have hRz : (((((⟨#[59, 32, 110, 42]⟩ : ByteArray) ++ X) ++ ⟨#[42, 61]⟩) ++ ⟨#[85, 84, 70, 45, 56, 39, 101, 110, 39]⟩) ++ E : ByteArray).size ≤ 1000 := by rw [ByteArray.size_append]; exact hc4
            have hc5 : (((((⟨#[59, 32, 110, 42]⟩ : ByteArray) ++ X) ++ ⟨#[42, 61]⟩) ++ ⟨#[85, 84, 70, 45, 56, 39, 101, 110, 39]⟩) ++ E : ByteArray).size + T.size ≤ 4000000 := by omega
            have hTz2 : ((((((⟨#[59, 32, 110, 42]⟩ : ByteArray) ++ X) ++ ⟨#[42, 61]⟩) ++ ⟨#[85, 84, 70, 45, 56, 39, 101, 110, 39]⟩) ++ E : ByteArray) ++ T).size ≤ 1000 * (k + 1) := by rw [ByteArray.size_append]; omega
            have HT2 := Lib.hid (show (((((⟨#[59, 32, 110, 42]⟩ : ByteArray) ++ X) ++ ⟨#[42, 61]⟩) ++ ⟨#[85, 84, 70, 45, 56, 39, 101, 110, 39]⟩) ++ E : ByteArray) ++ T = strL (flatR ((k, (V.data.toList.drop p).take (b - p)) :: rs)) by rw [HR, HT.out, strL_append, flatR_cons])
            have HS2 := Lib.hid (HS.out.next hpb (.inl rfl))
            have HE2 := Lib.hid (show k + 1 = m + 1 → b = n by omega)
            clear hEq HR hRz HT HS HE hXz hEz
            go_wp2_with (first
              | (go_at_call 23; (with_reducible refine (cT _ (HV.out.below HB.out).num).mono ?_); rintro e w2 ⟨rfl, hb2⟩; have HB2 := Lib.hid (HB.out.trans (hb2.mono HB.out.size)); clear hb2 cT)
              | (go_at_call 24; (with_reducible refine (cE _).mono ?_); rintro e w3 ⟨rfl, hb3⟩; have HB3 := Lib.hid (HB2.out.trans (hb3.mono HB2.out.size)); clear hb3 cE))
            go_roundw
            case rel => exact ⟨k + 1, b, _, _, _, by omega, hbn, rfl, rfl, by go_num, by go_num, hTz2, HT2, HS2, Lib.hid HE2.out, HB3⟩
            case measure => simp [intOf]; omega
          | false =>
            have R1 := run_slice_str V p b (b : Int) rfl hpb (by rw [hn]; exact hbn)
            rw [part_of V p b hpb (by rw [hn]; exact hbn)] at R1
            have cE := fun W => escaped_any (strL ((V.data.toList.drop p).take (b - p))) (by rw [strL_size, List.length_take]; omega) W
            rw [strL_list] at cE
            have hEz : (strL (escA ((V.data.toList.drop p).take (b - p)))).size ≤ 900 := by rw [strL_size, escA_len, List.length_take]; omega
            generalize hEq : strL (escA ((V.data.toList.drop p).take (b - p))) = E at cE hEz
            generalize strL ((V.data.toList.drop p).take (b - p)) = U at R1 cE
            have HR := row_zero X E k ((V.data.toList.drop p).take (b - p)) hk0.out HX.out.symm hEq.symm
            have hc3 : ((((⟨#[59, 32, 110, 42]⟩ : ByteArray) ++ X) ++ ⟨#[42, 61]⟩ : ByteArray)).size + (⟨#[85, 84, 70, 45, 56, 39, 101, 110, 39]⟩ : ByteArray).size ≤ 1000 := by rw [ByteArray.size_append, ByteArray.size_append]; show 4 + X.size + 2 + 9 ≤ _; omega
            have hc4 : (((((⟨#[59, 32, 110, 42]⟩ : ByteArray) ++ X) ++ ⟨#[42, 61]⟩) ++ ⟨#[85, 84, 70, 45, 56, 39, 101, 110, 39]⟩ : ByteArray)).size + E.size ≤ 1000 := by rw [ByteArray.size_append, ByteArray.size_append, ByteArray.size_append]; show 4 + X.size + 2 + 9 + E.size ≤ _; omega
            have hRz : (((((⟨#[59, 32, 110, 42]⟩ : ByteArray) ++ X) ++ ⟨#[42, 61]⟩) ++ ⟨#[85, 84, 70, 45, 56, 39, 101, 110, 39]⟩) ++ E : ByteArray).size ≤ 1000 := by rw [ByteArray.size_append]; exact hc4
            have hc5 : T.size + (((((⟨#[59, 32, 110, 42]⟩ : ByteArray) ++ X) ++ ⟨#[42, 61]⟩) ++ ⟨#[85, 84, 70, 45, 56, 39, 101, 110, 39]⟩) ++ E : ByteArray).size ≤ 4000000 := by omega
            have hTz2 : (T ++ (((((⟨#[59, 32, 110, 42]⟩ : ByteArray) ++ X) ++ ⟨#[42, 61]⟩) ++ ⟨#[85, 84, 70, 45, 56, 39, 101, 110, 39]⟩) ++ E : ByteArray)).size ≤ 1000 * (k + 1) := by rw [ByteArray.size_append]; omega
            have HT2 := Lib.hid (show T ++ (((((⟨#[59, 32, 110, 42]⟩ : ByteArray) ++ X) ++ ⟨#[42, 61]⟩) ++ ⟨#[85, 84, 70, 45, 56, 39, 101, 110, 39]⟩) ++ E : ByteArray) = strL (flatR (rs ++ [(k, (V.data.toList.drop p).take (b - p))])) by rw [HR, HT.out, strL_append, flatR_snoc])
            have HS2 := Lib.hid (HS.out.next hpb (.inr rfl))
            have HE2 := Lib.hid (show k + 1 = m + 1 → b = n by omega)
            clear hEq HR hRz HT HS HE hXz hEz
            go_wp2_with (first
              | (go_at_call 23; (with_reducible refine (cT _ (HV.out.below HB.out).num).mono ?_); rintro e w2 ⟨rfl, hb2⟩; have HB2 := Lib.hid (HB.out.trans (hb2.mono HB.out.size)); clear hb2 cT)
              | (go_at_call 24; (with_reducible refine (cE _).mono ?_); rintro e w3 ⟨rfl, hb3⟩; have HB3 := Lib.hid (HB2.out.trans (hb3.mono HB2.out.size)); clear hb3 cE))
            go_roundw
            case rel => exact ⟨k + 1, b, _, _, _, by omega, hbn, rfl, rfl, by go_num, by go_num, hTz2, HT2, HS2, Lib.hid HE2.out, HB3⟩
            case measure => simp [intOf]; omega
        · have hz1 : ((k : Int) == 0) = false := by rw [beq_eq_false_iff_ne]; omega
          have hz2 : decide ((k : Int) = 0) = false := by rw [decide_eq_false_iff_not]; omega
          replace hk0 := Lib.hid hk0
          cases r with
          | true =>
            have R1 := run_slice_str V p b (b : Int) rfl hpb (by rw [hn]; exact hbn)
            rw [part_of V p b hpb (by rw [hn]; exact hbn)] at R1
            have cE := fun W => escaped_any (strL ((V.data.toList.drop p).take (b - p))) (by rw [strL_size, List.length_take]; omega) W
            rw [strL_list] at cE
            have hEz : (strL (escA ((V.data.toList.drop p).take (b - p)))).size ≤ 900 := by rw [strL_size, escA_len, List.length_take]; omega
            generalize hEq : strL (escA ((V.data.toList.drop p).take (b - p))) = E at cE hEz
            generalize strL ((V.data.toList.drop p).take (b - p)) = U at R1 cE
            have HR := row_next X E k ((V.data.toList.drop p).take (b - p)) hk0.out HX.out.symm hEq.symm
            have hc4 : ((((⟨#[59, 32, 110, 42]⟩ : ByteArray) ++ X) ++ ⟨#[42, 61]⟩ : ByteArray)).size + E.size ≤ 1000 := by rw [ByteArray.size_append, ByteArray.size_append]; show 4 + X.size + 2 + E.size ≤ _; omega
            have hRz : ((((⟨#[59, 32, 110, 42]⟩ : ByteArray) ++ X) ++ ⟨#[42, 61]⟩) ++ E : ByteArray).size ≤ 1000 := by rw [ByteArray.size_append]; exact hc4
            have hc5 : ((((⟨#[59, 32, 110, 42]⟩ : ByteArray) ++ X) ++ ⟨#[42, 61]⟩) ++ E : ByteArray).size + T.size ≤ 4000000 := by omega
            have hTz2 : (((((⟨#[59, 32, 110, 42]⟩ : ByteArray) ++ X) ++ ⟨#[42, 61]⟩) ++ E : ByteArray) ++ T).size ≤ 1000 * (k + 1) := by rw [ByteArray.size_append]; omega
            have HT2 := Lib.hid (show ((((⟨#[59, 32, 110, 42]⟩ : ByteArray) ++ X) ++ ⟨#[42, 61]⟩) ++ E : ByteArray) ++ T = strL (flatR ((k, (V.data.toList.drop p).take (b - p)) :: rs)) by rw [HR, HT.out, strL_append, flatR_cons])
            have HS2 := Lib.hid (HS.out.next hpb (.inl rfl))
            have HE2 := Lib.hid (show k + 1 = m + 1 → b = n by omega)
            clear hEq HR hRz HT HS HE hXz hEz
            go_wp2_with (first
              | (go_at_call 23; (with_reducible refine (cT _ (HV.out.below HB.out).num).mono ?_); rintro e w2 ⟨rfl, hb2⟩; have HB2 := Lib.hid (HB.out.trans (hb2.mono HB.out.size)); clear hb2 cT)
              | (go_at_call 24; (with_reducible refine (cE _).mono ?_); rintro e w3 ⟨rfl, hb3⟩; have HB3 := Lib.hid (HB2.out.trans (hb3.mono HB2.out.size)); clear hb3 cE))
            go_roundw
            case rel => exact ⟨k + 1, b, _, _, _, by omega, hbn, rfl, rfl, by go_num, by go_num, hTz2, HT2, HS2, Lib.hid HE2.out, HB3⟩
            case measure => simp [intOf]; omega
          | false =>
            have R1 := run_slice_str V p b (b : Int) rfl hpb (by rw [hn]; exact hbn)
            rw [part_of V p b hpb (by rw [hn]; exact hbn)] at R1
            have cE := fun W => escaped_any (strL ((V.data.toList.drop p).take (b - p))) (by rw [strL_size, List.length_take]; omega) W
            rw [strL_list] at cE
            have hEz : (strL (escA ((V.data.toList.drop p).take (b - p)))).size ≤ 900 := by rw [strL_size, escA_len, List.length_take]; omega
            generalize hEq : strL (escA ((V.data.toList.drop p).take (b - p))) = E at cE hEz
            generalize strL ((V.data.toList.drop p).take (b - p)) = U at R1 cE
            have HR := row_next X E k ((V.data.toList.drop p).take (b - p)) hk0.out HX.out.symm hEq.symm
            have hc4 : ((((⟨#[59, 32, 110, 42]⟩ : ByteArray) ++ X) ++ ⟨#[42, 61]⟩ : ByteArray)).size + E.size ≤ 1000 := by rw [ByteArray.size_append, ByteArray.size_append]; show 4 + X.size + 2 + E.size ≤ _; omega
            have hRz : ((((⟨#[59, 32, 110, 42]⟩ : ByteArray) ++ X) ++ ⟨#[42, 61]⟩) ++ E : ByteArray).size ≤ 1000 := by rw [ByteArray.size_append]; exact hc4
            have hc5 : T.size + ((((⟨#[59, 32, 110, 42]⟩ : ByteArray) ++ X) ++ ⟨#[42, 61]⟩) ++ E : ByteArray).size ≤ 4000000 := by omega
            have hTz2 : (T ++ ((((⟨#[59, 32, 110, 42]⟩ : ByteArray) ++ X) ++ ⟨#[42, 61]⟩) ++ E : ByteArray)).size ≤ 1000 * (k + 1) := by rw [ByteArray.size_append]; omega
            have HT2 := Lib.hid (show T ++ ((((⟨#[59, 32, 110, 42]⟩ : ByteArray) ++ X) ++ ⟨#[42, 61]⟩) ++ E : ByteArray) = strL (flatR (rs ++ [(k, (V.data.toList.drop p).take (b - p))])) by rw [HR, HT.out, strL_append, flatR_snoc])
            have HS2 := Lib.hid (HS.out.next hpb (.inr rfl))
            have HE2 := Lib.hid (show k + 1 = m + 1 → b = n by omega)
            clear hEq HR hRz HT HS HE hXz hEz
            go_wp2_with (first
              | (go_at_call 23; (with_reducible refine (cT _ (HV.out.below HB.out).num).mono ?_); rintro e w2 ⟨rfl, hb2⟩; have HB2 := Lib.hid (HB.out.trans (hb2.mono HB.out.size)); clear hb2 cT)
              | (go_at_call 24; (with_reducible refine (cE _).mono ?_); rintro e w3 ⟨rfl, hb3⟩; have HB3 := Lib.hid (HB2.out.trans (hb3.mono HB2.out.size)); clear hb3 cE))
            go_roundw
            case rel => exact ⟨k + 1, b, _, _, _, by omega, hbn, rfl, rfl, by go_num, by go_num, hTz2, HT2, HS2, Lib.hid HE2.out, HB3⟩
            case measure => simp [intOf]; omega
      · have hlt' : ¬ (k : Int) < (m : Int) := by omega
        have hpb : p ≤ n := hp
        have hbn : n ≤ n := Nat.le_refl _
        by_cases hk0 : k = 0
        · have hz1 : ((k : Int) == 0) = true := by rw [beq_iff_eq]; omega
          have hz2 : decide ((k : Int) = 0) = true := by rw [decide_eq_true_eq]; omega
          replace hk0 := Lib.hid hk0
          cases r with
          | true =>
            have R1 := run_slice_str V p n (n : Int) rfl hpb (by rw [hn]; exact hbn)
            rw [part_of V p n hpb (by rw [hn]; exact hbn)] at R1
            have cE := fun W => escaped_any (strL ((V.data.toList.drop p).take (n - p))) (by rw [strL_size, List.length_take]; omega) W
            rw [strL_list] at cE
            have hEz : (strL (escA ((V.data.toList.drop p).take (n - p)))).size ≤ 900 := by rw [strL_size, escA_len, List.length_take]; omega
            generalize hEq : strL (escA ((V.data.toList.drop p).take (n - p))) = E at cE hEz
            generalize strL ((V.data.toList.drop p).take (n - p)) = U at R1 cE
            have HR := row_zero X E k ((V.data.toList.drop p).take (n - p)) hk0.out HX.out.symm hEq.symm
            have hc3 : ((((⟨#[59, 32, 110, 42]⟩ : ByteArray) ++ X) ++ ⟨#[42, 61]⟩ : ByteArray)).size + (⟨#[85, 84, 70, 45, 56, 39, 101, 110, 39]⟩ : ByteArray).size ≤ 1000 := by rw [ByteArray.size_append, ByteArray.size_append]; show 4 + X.size + 2 + 9 ≤ _; omega
            have hc4 : (((((⟨#[59, 32, 110, 42]⟩ : ByteArray) ++ X) ++ ⟨#[42, 61]⟩) ++ ⟨#[85, 84, 70, 45, 56, 39, 101, 110, 39]⟩ : ByteArray)).size + E.size ≤ 1000 := by rw [ByteArray.size_append, ByteArray.size_append, ByteArray.size_append]; show 4 + X.size + 2 + 9 + E.size ≤ _; omega
            have hRz : (((((⟨#[59, 32, 110, 42]⟩ : ByteArray) ++ X) ++ ⟨#[42, 61]⟩) ++ ⟨#[85, 84, 70, 45, 56, 39, 101, 110, 39]⟩) ++ E : ByteArray).size ≤ 1000 := by rw [ByteArray.size_append]; exact hc4
            have hc5 : (((((⟨#[59, 32, 110, 42]⟩ : ByteArray) ++ X) ++ ⟨#[42, 61]⟩) ++ ⟨#[85, 84, 70, 45, 56, 39, 101, 110, 39]⟩) ++ E : ByteArray).size + T.size ≤ 4000000 := by omega
            have hTz2 : ((((((⟨#[59, 32, 110, 42]⟩ : ByteArray) ++ X) ++ ⟨#[42, 61]⟩) ++ ⟨#[85, 84, 70, 45, 56, 39, 101, 110, 39]⟩) ++ E : ByteArray) ++ T).size ≤ 1000 * (k + 1) := by rw [ByteArray.size_append]; omega
            have HT2 := Lib.hid (show (((((⟨#[59, 32, 110, 42]⟩ : ByteArray) ++ X) ++ ⟨#[42, 61]⟩) ++ ⟨#[85, 84, 70, 45, 56, 39, 101, 110, 39]⟩) ++ E : ByteArray) ++ T = strL (flatR ((k, (V.data.toList.drop p).take (n - p)) :: rs)) by rw [HR, HT.out, strL_append, flatR_cons])
            have HS2 := Lib.hid (HS.out.next hpb (.inl rfl))
            have HE2 := Lib.hid (show k + 1 = m + 1 → n = n by omega)
            clear hEq HR hRz HT HS HE hXz hEz
            go_wp2_with (first
              | (go_at_call 23; (with_reducible refine (cT _ (HV.out.below HB.out).num).mono ?_); rintro e w2 ⟨rfl, hb2⟩; have HB2 := Lib.hid (HB.out.trans (hb2.mono HB.out.size)); clear hb2 cT)
              | (go_at_call 24; (with_reducible refine (cE _).mono ?_); rintro e w3 ⟨rfl, hb3⟩; have HB3 := Lib.hid (HB2.out.trans (hb3.mono HB2.out.size)); clear hb3 cE))
            go_roundw
            case rel => exact ⟨k + 1, n, _, _, _, by omega, hbn, rfl, rfl, by go_num, by go_num, hTz2, HT2, HS2, Lib.hid (fun _ => rfl), HB3⟩
            case measure => simp [intOf]; omega
          | false =>
            have R1 := run_slice_str V p n (n : Int) rfl hpb (by rw [hn]; exact hbn)
            rw [part_of V p n hpb (by rw [hn]; exact hbn)] at R1
            have cE := fun W => escaped_any (strL ((V.data.toList.drop p).take (n - p))) (by rw [strL_size, List.length_take]; omega) W
            rw [strL_list] at cE
            have hEz : (strL (escA ((V.data.toList.drop p).take (n - p)))).size ≤ 900 := by rw [strL_size, escA_len, List.length_take]; omega
            generalize hEq : strL (escA ((V.data.toList.drop p).take (n - p))) = E at cE hEz
            generalize strL ((V.data.toList.drop p).take (n - p)) = U at R1 cE
            have HR := row_zero X E k ((V.data.toList.drop p).take (n - p)) hk0.out HX.out.symm hEq.symm
            have hc3 : ((((⟨#[59, 32, 110, 42]⟩ : ByteArray) ++ X) ++ ⟨#[42, 61]⟩ : ByteArray)).size + (⟨#[85, 84, 70, 45, 56, 39, 101, 110, 39]⟩ : ByteArray).size ≤ 1000 := by rw [ByteArray.size_append, ByteArray.size_append]; show 4 + X.size + 2 + 9 ≤ _; omega
            have hc4 : (((((⟨#[59, 32, 110, 42]⟩ : ByteArray) ++ X) ++ ⟨#[42, 61]⟩) ++ ⟨#[85, 84, 70, 45, 56, 39, 101, 110, 39]⟩ : ByteArray)).size + E.size ≤ 1000 := by rw [ByteArray.size_append, ByteArray.size_append, ByteArray.size_append]; show 4 + X.size + 2 + 9 + E.size ≤ _; omega
            have hRz : (((((⟨#[59, 32, 110, 42]⟩ : ByteArray) ++ X) ++ ⟨#[42, 61]⟩) ++ ⟨#[85, 84, 70, 45, 56, 39, 101, 110, 39]⟩) ++ E : ByteArray).size ≤ 1000 := by rw [ByteArray.size_append]; exact hc4
            have hc5 : T.size + (((((⟨#[59, 32, 110, 42]⟩ : ByteArray) ++ X) ++ ⟨#[42, 61]⟩) ++ ⟨#[85, 84, 70, 45, 56, 39, 101, 110, 39]⟩) ++ E : ByteArray).size ≤ 4000000 := by omega
            have hTz2 : (T ++ (((((⟨#[59, 32, 110, 42]⟩ : ByteArray) ++ X) ++ ⟨#[42, 61]⟩) ++ ⟨#[85, 84, 70, 45, 56, 39, 101, 110, 39]⟩) ++ E : ByteArray)).size ≤ 1000 * (k + 1) := by rw [ByteArray.size_append]; omega
            have HT2 := Lib.hid (show T ++ (((((⟨#[59, 32, 110, 42]⟩ : ByteArray) ++ X) ++ ⟨#[42, 61]⟩) ++ ⟨#[85, 84, 70, 45, 56, 39, 101, 110, 39]⟩) ++ E : ByteArray) = strL (flatR (rs ++ [(k, (V.data.toList.drop p).take (n - p))])) by rw [HR, HT.out, strL_append, flatR_snoc])
            have HS2 := Lib.hid (HS.out.next hpb (.inr rfl))
            have HE2 := Lib.hid (show k + 1 = m + 1 → n = n by omega)
            clear hEq HR hRz HT HS HE hXz hEz
            go_wp2_with (first
              | (go_at_call 23; (with_reducible refine (cT _ (HV.out.below HB.out).num).mono ?_); rintro e w2 ⟨rfl, hb2⟩; have HB2 := Lib.hid (HB.out.trans (hb2.mono HB.out.size)); clear hb2 cT)
              | (go_at_call 24; (with_reducible refine (cE _).mono ?_); rintro e w3 ⟨rfl, hb3⟩; have HB3 := Lib.hid (HB2.out.trans (hb3.mono HB2.out.size)); clear hb3 cE))
            go_roundw
            case rel => exact ⟨k + 1, n, _, _, _, by omega, hbn, rfl, rfl, by go_num, by go_num, hTz2, HT2, HS2, Lib.hid (fun _ => rfl), HB3⟩
            case measure => simp [intOf]; omega
        · have hz1 : ((k : Int) == 0) = false := by rw [beq_eq_false_iff_ne]; omega
          have hz2 : decide ((k : Int) = 0) = false := by rw [decide_eq_false_iff_not]; omega
          replace hk0 := Lib.hid hk0
          cases r with
          | true =>
            have R1 := run_slice_str V p n (n : Int) rfl hpb (by rw [hn]; exact hbn)
            rw [part_of V p n hpb (by rw [hn]; exact hbn)] at R1
            have cE := fun W => escaped_any (strL ((V.data.toList.drop p).take (n - p))) (by rw [strL_size, List.length_take]; omega) W
            rw [strL_list] at cE
            have hEz : (strL (escA ((V.data.toList.drop p).take (n - p)))).size ≤ 900 := by rw [strL_size, escA_len, List.length_take]; omega
            generalize hEq : strL (escA ((V.data.toList.drop p).take (n - p))) = E at cE hEz
            generalize strL ((V.data.toList.drop p).take (n - p)) = U at R1 cE
            have HR := row_next X E k ((V.data.toList.drop p).take (n - p)) hk0.out HX.out.symm hEq.symm
            have hc4 : ((((⟨#[59, 32, 110, 42]⟩ : ByteArray) ++ X) ++ ⟨#[42, 61]⟩ : ByteArray)).size + E.size ≤ 1000 := by rw [ByteArray.size_append, ByteArray.size_append]; show 4 + X.size + 2 + E.size ≤ _; omega
            have hRz : ((((⟨#[59, 32, 110, 42]⟩ : ByteArray) ++ X) ++ ⟨#[42, 61]⟩) ++ E : ByteArray).size ≤ 1000 := by rw [ByteArray.size_append]; exact hc4
            have hc5 : ((((⟨#[59, 32, 110, 42]⟩ : ByteArray) ++ X) ++ ⟨#[42, 61]⟩) ++ E : ByteArray).size + T.size ≤ 4000000 := by omega
            have hTz2 : (((((⟨#[59, 32, 110, 42]⟩ : ByteArray) ++ X) ++ ⟨#[42, 61]⟩) ++ E : ByteArray) ++ T).size ≤ 1000 * (k + 1) := by rw [ByteArray.size_append]; omega
            have HT2 := Lib.hid (show ((((⟨#[59, 32, 110, 42]⟩ : ByteArray) ++ X) ++ ⟨#[42, 61]⟩) ++ E : ByteArray) ++ T = strL (flatR ((k, (V.data.toList.drop p).take (n - p)) :: rs)) by rw [HR, HT.out, strL_append, flatR_cons])
            have HS2 := Lib.hid (HS.out.next hpb (.inl rfl))
            have HE2 := Lib.hid (show k + 1 = m + 1 → n = n by omega)
            clear hEq HR hRz HT HS HE hXz hEz
            go_wp2_with (first
              | (go_at_call 23; (with_reducible refine (cT _ (HV.out.below HB.out).num).mono ?_); rintro e w2 ⟨rfl, hb2⟩; have HB2 := Lib.hid (HB.out.trans (hb2.mono HB.out.size)); clear hb2 cT)
              | (go_at_call 24; (with_reducible refine (cE _).mono ?_); rintro e w3 ⟨rfl, hb3⟩; have HB3 := Lib.hid (HB2.out.trans (hb3.mono HB2.out.size)); clear hb3 cE))
            go_roundw
            case rel => exact ⟨k + 1, n, _, _, _, by omega, hbn, rfl, rfl, by go_num, by go_num, hTz2, HT2, HS2, Lib.hid (fun _ => rfl), HB3⟩
            case measure => simp [intOf]; omega
          | false =>
            have R1 := run_slice_str V p n (n : Int) rfl hpb (by rw [hn]; exact hbn)
            rw [part_of V p n hpb (by rw [hn]; exact hbn)] at R1
            have cE := fun W => escaped_any (strL ((V.data.toList.drop p).take (n - p))) (by rw [strL_size, List.length_take]; omega) W
            rw [strL_list] at cE
            have hEz : (strL (escA ((V.data.toList.drop p).take (n - p)))).size ≤ 900 := by rw [strL_size, escA_len, List.length_take]; omega
            generalize hEq : strL (escA ((V.data.toList.drop p).take (n - p))) = E at cE hEz
            generalize strL ((V.data.toList.drop p).take (n - p)) = U at R1 cE
            have HR := row_next X E k ((V.data.toList.drop p).take (n - p)) hk0.out HX.out.symm hEq.symm
            have hc4 : ((((⟨#[59, 32, 110, 42]⟩ : ByteArray) ++ X) ++ ⟨#[42, 61]⟩ : ByteArray)).size + E.size ≤ 1000 := by rw [ByteArray.size_append, ByteArray.size_append]; show 4 + X.size + 2 + E.size ≤ _; omega
            have hRz : ((((⟨#[59, 32, 110, 42]⟩ : ByteArray) ++ X) ++ ⟨#[42, 61]⟩) ++ E : ByteArray).size ≤ 1000 := by rw [ByteArray.size_append]; exact hc4
            have hc5 : T.size + ((((⟨#[59, 32, 110, 42]⟩ : ByteArray) ++ X) ++ ⟨#[42, 61]⟩) ++ E : ByteArray).size ≤ 4000000 := by omega
            have hTz2 : (T ++ ((((⟨#[59, 32, 110, 42]⟩ : ByteArray) ++ X) ++ ⟨#[42, 61]⟩) ++ E : ByteArray)).size ≤ 1000 * (k + 1) := by rw [ByteArray.size_append]; omega
            have HT2 := Lib.hid (show T ++ ((((⟨#[59, 32, 110, 42]⟩ : ByteArray) ++ X) ++ ⟨#[42, 61]⟩) ++ E : ByteArray) = strL (flatR (rs ++ [(k, (V.data.toList.drop p).take (n - p))])) by rw [HR, HT.out, strL_append, flatR_snoc])
            have HS2 := Lib.hid (HS.out.next hpb (.inr rfl))
            have HE2 := Lib.hid (show k + 1 = m + 1 → n = n by omega)
            clear hEq HR hRz HT HS HE hXz hEz
            go_wp2_with (first
              | (go_at_call 23; (with_reducible refine (cT _ (HV.out.below HB.out).num).mono ?_); rintro e w2 ⟨rfl, hb2⟩; have HB2 := Lib.hid (HB.out.trans (hb2.mono HB.out.size)); clear hb2 cT)
              | (go_at_call 24; (with_reducible refine (cE _).mono ?_); rintro e w3 ⟨rfl, hb3⟩; have HB3 := Lib.hid (HB2.out.trans (hb3.mono HB2.out.size)); clear hb3 cE))
            go_roundw
            case rel => exact ⟨k + 1, n, _, _, _, by omega, hbn, rfl, rfl, by go_num, by go_num, hTz2, HT2, HS2, Lib.hid (fun _ => rfl), HB3⟩
            case measure => simp [intOf]; omega
    · obtain rfl : k = m + 1 := by omega
      have hle' : ¬ ((m + 1 : Nat) : Int) ≤ (m : Int) := by omega
      obtain rfl : p = n := HE.out rfl
      have hcP : (⟨#[97, 47, 98]⟩ : ByteArray).size + T.size ≤ 4000000 := by show 3 + T.size ≤ _; omega
      have cP := fun W hv => parse_c ((⟨#[97, 47, 98]⟩ : ByteArray) ++ T) (by rw [ByteArray.size_append]; show 3 + T.size ≤ _; omega) W hv
      have hfl : cs.flatten = V.data.toList := by
        rw [HS.out.flat, List.take_of_length_le]
        rw [← HL.out, hn]
        exact Nat.le_refl _
      rw [show ((⟨#[97, 47, 98]⟩ : ByteArray) ++ T).data.toList = [97, 47, 98] ++ (rs.map (fun x => secW txtF x.1 x.2)).flatMap (fun w => 59 :: 32 :: w) by
        rw [list_append, HT.out, strL_list]; rfl, ct_secs repF decF numF txtF txt_ok cs (by rw [HS.out.len]; omega) (by rw [HS.out.len]; omega) rs HS.out.nd HS.out.mem, hfl, dec_set] at cP
      have cR : ∀ W, Calls Tryz.prog 25 #[.string V] W fun e w' => e = .returned (.string (strL (repairL V.data.toList))) ∧ Below W.heap.size W w' := fun W => Cs.repair_any V (by omega) W
      have hE1 : ∀ W, (Op.equalIn 10000 37 (.agg #[.string ⟨#[110]⟩, .string (strL (repairL V.data.toList))]) (.agg #[.string ⟨#[110]⟩, .string (strL (repairL V.data.toList))])).run Tryz.prog W = .ok true W := fun W => by
        have := run_equal_pm ([110], repairL V.data.toList) ([110], repairL V.data.toList) W
        rw [decide_eq_true rfl] at this
        exact this
      have cP2 : ∀ W, Hid (Vr W) → Calls Tryz.prog 10 #[.string ((⟨#[97, 47, 98]⟩ : ByteArray) ++ T)] W fun e w' => ∃ g c, e = .returned (.tuple #[.agg #[.string ⟨#[97]⟩, .string ⟨#[98]⟩, .slice (some ⟨g, 0, none⟩) 1 c], .bool true]) ∧ (w'.cell? ⟨g, 0, none⟩ = some (.string ⟨#[110]⟩) ∧ w'.cell? ⟨g, 1, none⟩ = some (.string (strL (repairL V.data.toList)))) ∧ Below W.heap.size W w' := fun W hv => (cP W hv.out).mono fun e w' ⟨a, c, h1, h2, h3⟩ => by
        obtain ⟨g, rfl, hf⟩ := OwnP.at (xs := [([110], repairL V.data.toList)]) h2 (Nat.zero_lt_succ _)
        exact ⟨g, c, h1, hf 0 _ rfl, h3⟩
      generalize strL (repairL V.data.toList) = RS at cR cP2 hE1
      have HVB := Lib.hid (HV.out.below HB.out)
      clear cP HT HS HE hfl hTz
      go_wp2_with (go_at_call 10; (with_reducible refine (cP2 _ HVB).mono ?_); rintro e w2 ⟨g2, c2, rfl, hpp, hb2⟩; obtain ⟨W0, hW0⟩ : ∃ W0, w2.alloc (.cells #[.string ⟨#[97]⟩, .string ⟨#[98]⟩, .slice (some ⟨g2, 0, none⟩) 1 c2] 26) = W0 := ⟨_, rfl⟩; have HW0 := Lib.hid hW0; have hbb : Below w2.heap.size w2 W0 := hW0 ▸ (Below.refl _ w2).alloc (Nat.le_refl _) (.cells #[.string ⟨#[97]⟩, .string ⟨#[98]⟩, .slice (some ⟨g2, 0, none⟩) 1 c2] 26); have HB2 := Lib.hid ((HB.out.trans (hb2.mono HB.out.size)).trans (hbb.mono (Nat.le_trans HB.out.size hb2.size))); have HX := Lib.hid (hW0 ▸ tyx_new w2 ⟨#[97]⟩ ⟨#[98]⟩ (.slice (some ⟨g2, 0, none⟩) 1 c2) : Tyx W0 w2.heap.size ⟨#[97]⟩ ⟨#[98]⟩ (.slice (some ⟨g2, 0, none⟩) 1 c2)); have p0 := Lib.hid (cell_below hpp.1 hbb); have p1 := Lib.hid (cell_below hpp.2 hbb); clear hpp hb2 hbb hW0 cP2)
      rw [HW0.out]
      have hb : Hid (Below W0.heap.size W0 W0) := Lib.hid (Below.refl _ _)
      have hq1 := fun Q (hb : Hid (Below W0.heap.size W0 Q)) => (cR Q).mono (fun e w' hh => (⟨hh.1, Lib.hid (hb.out.trans (hh.2.mono hb.out.size))⟩ : e = .returned (.string RS) ∧ Hid (Below W0.heap.size W0 w')))
      have HK := Lib.hid (fun Q (h : Hid (Below W0.heap.size W0 Q)) => (⟨h, (HX.out.step h.out).c2, cell_below p0.out h.out, cell_below p1.out h.out⟩ : Hid (Below W0.heap.size W0 Q) ∧ Q.cell? ⟨w2.heap.size, 2, none⟩ = some (.slice (some ⟨g2, 0, none⟩) 1 c2) ∧ Q.cell? ⟨g2, 0, none⟩ = some (.string ⟨#[110]⟩) ∧ Q.cell? ⟨g2, 1, none⟩ = some (.string RS)))
      clear cR
      go_region_held3 (fun Q => Hid (Below W0.heap.size W0 Q) ∧ Q.cell? ⟨w2.heap.size, 2, none⟩ = some (.slice (some ⟨g2, 0, none⟩) 1 c2) ∧ Q.cell? ⟨g2, 0, none⟩ = some (.string ⟨#[110]⟩) ∧ Q.cell? ⟨g2, 1, none⟩ = some (.string RS))
        (first | exact HK.out _ hb | exact HK.out _ (Lib.hid hb.out.drew) | exact HK.out _ (by assumption) | exact HK.out _ (Lib.hid (Below.drew (Lib.Hid.out (by assumption)))))
        (first | (go_at_call 25; (with_reducible refine (hq1 _ (by first | assumption | exact Lib.hid hb.out.drew)).mono ?_); rintro e w5 ⟨rfl, hs5⟩; clear hq1))
      go_wp2_with fail
      go_ret
      exact ⟨rfl, HB2.out.trans (hs5.out.mono HB2.out.size)⟩
end Go.Proofs.YtdinachiiimngaaGreatDoor
