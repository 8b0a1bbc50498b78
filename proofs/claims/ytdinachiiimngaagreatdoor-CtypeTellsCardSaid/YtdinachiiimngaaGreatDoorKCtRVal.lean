/- The reference's Split and Value. -/
import Derived.Test.YtdinachiiimngaaGreatDoorKCtRTold
import Derived.Test.YtdinachiiimngaaGreatDoorK7
import Derived.Test.YtdinachiiimngaaGreatDoorK10
import Derived.Deep.QuietTactic
namespace Go.Proofs.YtdinachiiimngaaGreatDoor
open Go.ChangeShapes Go.WideShapes Go.ChangeAt Go.RowKit
open TokP AdrP CtP

theorem below_drewV {B : Nat} {a w : World} (h : Below B a w) (n : Nat) : Below B a (w.drewN n) := ⟨h.os, h.tape, h.output, h.size, h.block⟩
theorem upC_in {c : UInt8} {s : List UInt8} (h : c ∈ s) : (upC c s).length + 1 ≤ s.length ∧ s.take (upC c s).length = upC c s := by
  have h1 : upC c s = s.take (upC c s).length := (List.prefix_iff_eq_take.1 (List.takeWhile_prefix _))
  refine ⟨?_, h1.symm⟩
  have hle : (upC c s).length ≤ s.length := (List.takeWhile_prefix _).length_le
  rcases Nat.lt_or_ge (upC c s).length s.length with h2 | h2
  · exact h2
  · exfalso
    rw [List.take_of_length_le h2] at h1
    rw [← h1] at h
    have h3 := List.all_eq_true.1 (List.all_takeWhile (l := s) (p := fun x => x != c)) c h
    simp at h3
set_option maxRecDepth 100000 in
set_option maxHeartbeats 4000000 in
theorem rsplit_any (s : ByteArray) (hs : s.size ≤ 900000) (w : World) :
    Calls Tryz.prog 114 #[.string s] w fun e w' => e = .returned (.tuple #[.string (strL (splitQ s.data.toList).1), .string (strL (splitQ s.data.toList).2)]) ∧ Below w.heap.size w w' := by
  have hz := size_list s
  have cF := fun W => rfind_any s 39 39 rfl (by omega) W
  unfold findZ at cF
  simp only [show ((39 : Nat) : Int) = 39 from rfl] at cF
  have e0 : strL [] = (⟨#[]⟩ : ByteArray) := rfl
  unfold splitQ
  by_cases h1 : 39 ∈ s.data.toList
  · rw [if_pos h1] at cF
    obtain ⟨hu1, hu2⟩ := upC_in h1
    obtain ⟨A, hA⟩ : ∃ A, (upC 39 s.data.toList).length = A := ⟨_, rfl⟩
    rw [hA] at cF hu1 hu2
    have F1 : IntKind.i64.wrap ((A : Int) + 1) = (A : Int) + 1 := by rw [IntKind.wrap_i64]; omega
    have h0 : ¬ (A : Int) < 0 := by omega
    have h0' : (0 : Int) ≤ (A : Int) := by omega
    have R1 := run_slice_from s (A + 1) ((A : Int) + 1) (by omega) (by omega)
    have e1 : s.extract (A + 1) s.size = strL (behind 39 s.data.toList) := bytes_is (by rw [part_rest s (A + 1) (by omega), strL_list, ← hA]; rfl)
    rw [e1] at R1
    have hbl : (behind 39 s.data.toList).length + A + 1 = s.size := by unfold behind; rw [List.length_drop, hA]; omega
    have cG := fun W => rfind_any (strL (behind 39 s.data.toList)) 39 39 rfl (by rw [strL_size]; omega) W
    rw [strL_list] at cG
    unfold findZ at cG
    simp only [show ((39 : Nat) : Int) = 39 from rfl] at cG
    by_cases h2 : 39 ∈ behind 39 s.data.toList
    · rw [if_pos h2] at cG
      rw [if_pos ⟨h1, h2⟩]
      obtain ⟨hv1, hv2⟩ := upC_in h2
      obtain ⟨B, hB⟩ : ∃ B, (upC 39 (behind 39 s.data.toList)).length = B := ⟨_, rfl⟩
      rw [hB] at cG hv1 hv2
      have F2 : IntKind.i64.wrap ((A : Int) + (B : Int)) = (A : Int) + (B : Int) := by rw [IntKind.wrap_i64]; omega
      have F3 : IntKind.i64.wrap ((A : Int) + (B : Int) + 2) = (A : Int) + (B : Int) + 2 := by rw [IntKind.wrap_i64]; omega
      have g0 : ¬ (B : Int) < 0 := by omega
      have R2 := run_slice_to s A (A : Int) rfl (by omega)
      have R3 := run_slice_from s (A + B + 2) ((A : Int) + (B : Int) + 2) (by omega) (by omega)
      have e2 : s.extract 0 A = strL (upC 39 s.data.toList) := bytes_is (by rw [part_start s A (by omega), strL_list, hu2])
      have e3 : s.extract (A + B + 2) s.size = strL (behind 39 (behind 39 s.data.toList)) := bytes_is (by
        rw [part_rest s (A + B + 2) (by omega), strL_list]
        show _ = (behind 39 s.data.toList).drop ((upC 39 (behind 39 s.data.toList)).length + 1)
        rw [hB]
        show _ = (s.data.toList.drop ((upC 39 s.data.toList).length + 1)).drop (B + 1)
        rw [hA, List.drop_drop]
        congr 1
        omega)
      rw [e2] at R2
      rw [e3] at R3
      generalize strL (behind 39 s.data.toList) = X1 at R1 cG
      simp only []
      generalize strL (upC 39 s.data.toList) = X2 at R2 ⊢
      generalize strL (behind 39 (behind 39 s.data.toList)) = X3 at R3 ⊢
      clear hz h1 h2 hu1 hu2 hA hB hv1 hv2 e1 e2 e3 hbl e0
      go_enter Tryz.func114, Tryz.ntmps114
      go_wp2_with (first
        | (go_at_call 37; (with_reducible refine (cF _).mono ?_); rintro e w1 ⟨rfl, rfl⟩)
        | (go_at_call 37; (with_reducible refine (cG _).mono ?_); rintro e w1 ⟨rfl, rfl⟩))
      go_quiet (fail)
      go_wp2_with fail
      go_ret2
      exact ⟨rfl, below_drewV (Below.refl _ _) _⟩
    · rw [if_neg h2] at cG
      rw [if_neg (fun h => h2 h.2)]
      generalize strL (behind 39 s.data.toList) = X1 at R1 cG
      simp only [e0, strL_of]
      clear hz h1 h2 hu1 hu2 hA e1 hbl e0
      go_enter Tryz.func114, Tryz.ntmps114
      go_wp2_with (first
        | (go_at_call 37; (with_reducible refine (cF _).mono ?_); rintro e w1 ⟨rfl, rfl⟩)
        | (go_at_call 37; (with_reducible refine (cG _).mono ?_); rintro e w1 ⟨rfl, rfl⟩))
      go_ret2
      exact ⟨rfl, Below.refl _ _⟩
  · rw [if_neg h1] at cF
    rw [if_neg (fun h => h1 h.1)]
    simp only [e0, strL_of]
    clear hz h1 e0
    go_enter Tryz.func114, Tryz.ntmps114
    go_wp2_with (go_at_call 37; (with_reducible refine (cF _).mono ?_); rintro e w1 ⟨rfl, rfl⟩)
    go_ret2
    exact ⟨rfl, Below.refl _ _⟩
theorem rsplit_l (s : List UInt8) (hs : s.length ≤ 900000) (w : World) :
    Calls Tryz.prog 114 #[.string (strL s)] w fun e w' => e = .returned (.tuple #[.string (strL (splitQ s).1), .string (strL (splitQ s).2)]) ∧ Below w.heap.size w w' := by
  have h := rsplit_any (strL s) (by rw [strL_size]; exact hs) w
  rw [strL_list] at h; exact h
theorem ropen_l (cU : RUnhexOk) (s : List UInt8) (hs : s.length ≤ 900000) (w : World) :
    Calls Tryz.prog 116 #[.string (strL s)] w fun e w' => e = .returned (.string (strL (pctL s))) ∧ Below w.heap.size w w' := by
  have h := ropen_any cU (strL s) (by rw [strL_size]; omega) w
  rw [strL_list] at h; exact h
theorem rmeant_l {rep : List UInt8 → List UInt8} {dec : List UInt8 → List UInt8 → List UInt8} (cR : RRepairOk rep) (cD : RDecodeOk dec) (n s : List UInt8) (hn : n.length ≤ 900000) (hs : s.length ≤ 900000) (w : World) :
    Calls Tryz.prog 115 #[.string (strL n), .string (strL s)] w fun e w' => e = .returned (.string (strL (meantP rep dec n s))) ∧ Below w.heap.size w w' := by
  have h := rmeant_any cR cD (strL n) (strL s) (by rw [strL_size]; omega) (by rw [strL_size]; omega) w
  rw [strL_list, strL_list] at h; exact h
theorem rfirst_some (v : Value) (l : List Par) (n : List UInt8) (z : Option Nat) (Z : Int) (hZ : secZ z = Z) (hl : l.length ≤ 900000) (x : Par) (hR : firstP l n z = some x) (w : World) (h : Hid (HasO w v l)) :
    Calls Tryz.prog 113 #[v, .string (strL n), .int .i64 Z] w fun e w' => e = .returned (.tuple #[.agg #[.string (strL x.name), .int .i64 (secZ x.sec), .bool x.wide, .string (strL x.value)], .bool true]) ∧ Below w.heap.size w w' := by
  subst hZ
  exact rfirst_any v l n z (by omega) (some x) hR w h
theorem rfirst_no (v : Value) (l : List Par) (n : List UInt8) (z : Option Nat) (Z : Int) (hZ : secZ z = Z) (hl : l.length ≤ 900000) (hR : firstP l n z = none) (w : World) (h : Hid (HasO w v l)) :
    Calls Tryz.prog 113 #[v, .string (strL n), .int .i64 Z] w fun e w' => e = .returned (.tuple #[.agg #[.string ⟨#[]⟩, .int .i64 0, .bool false, .string ⟨#[]⟩], .bool false]) ∧ Below w.heap.size w w' := by
  subst hZ
  exact rfirst_any v l n z (by omega) none hR w h
set_option maxRecDepth 100000 in
set_option maxHeartbeats 16000000 in
theorem rvalue_none (cU : RUnhexOk) {rep : List UInt8 → List UInt8} {dec : List UInt8 → List UInt8 → List UInt8} (cR : RRepairOk rep) (cD : RDecodeOk dec) (v : Value) (l : List Par) (n : List UInt8) (hl : l.length ≤ 900000) (hz : ∀ p ∈ l, p.value.length ≤ 9999) (h0 : firstP l n (some 0) = none) (R : Option (List UInt8)) (hR : valueP rep dec l n = R) (w : World) (h : Hid (HasO w v l)) :
    Calls Tryz.prog 75 #[v, .string (strL n)] w fun e w' => e = .returned (.tuple #[.string (strL (R.getD [])), .bool R.isSome]) ∧ Below w.heap.size w w' := by
  obtain ⟨a, c, rfl⟩ := h.out.form
  obtain ⟨m, hm⟩ : ∃ m, l.length = m := ⟨_, rfl⟩
  have c0 := rfirst_no (.slice a l.length c) l n (some 0) 0 rfl hl h0 w h
  have c3 := fun W (h : Hid (HasO W (.slice a l.length c) l)) (hf : firstP l n none = none) => rfirst_no (.slice a l.length c) l n none (-1) rfl hl hf W h
  have c4 := fun W (h : Hid (HasO W (.slice a l.length c) l)) x (hf : firstP l n none = some x) => rfirst_some (.slice a l.length c) l n none (-1) rfl hl x hf W h
  rw [hm] at h hl c0 c3 c4 ⊢
  have HM := Lib.hid hm
  have H0 := Lib.hid h0
  have HZ := Lib.hid hz
  have HR := Lib.hid hR
  have HH := h
  obtain ⟨ANS, hANS⟩ : ∃ A, strL (R.getD []) = A := ⟨_, rfl⟩
  obtain ⟨OK, hOK⟩ : ∃ b, R.isSome = b := ⟨_, rfl⟩
  rw [hANS, hOK]
  have HAN := Lib.hid hANS
  have HOK := Lib.hid hOK
  have CU := Lib.hid cU
  have CR := Lib.hid cR
  have CD := Lib.hid cD
  have eS := fun p : Par => eq_strL p.name n
  generalize strL n = NS at c0 c3 c4 eS ⊢
  clear hm h0 hz hR h cU cR cD hANS hOK
  go_enter Tryz.func75, Tryz.ntmps75
  go_wp2_with (go_at_call 113; (with_reducible refine c0.mono ?_); rintro e w1 ⟨rfl, hb1⟩; have HB1 := Lib.hid (hb1.alloc hb1.size (.cells #[.string ⟨#[]⟩, .int .i64 0, .bool false, .string ⟨#[]⟩] 105)); have HH1 := Lib.hid (HH.out.step HB1.out); clear hb1 c0)
  go_loopw [8] (fun i wr => ∃ k : Nat, k ≤ m ∧ i = .int .i64 k ∧ Hid (Below w.heap.size w wr) ∧ Hid (HasO wr (.slice a m c) l) ∧ Hid (∀ (i : Nat) (q : Par), i < k → l[i]? = some q → ¬ (q.name = n ∧ q.sec = none ∧ q.wide = true))) (fun i _ => m - (intOf i).toNat)
  case atStart => exact ⟨0, Nat.zero_le _, rfl, HB1, HH1, Lib.hid (fun i _ hi => absurd hi (Nat.not_lt_zero _))⟩
  case round =>
    obtain ⟨k, hk, rfl, HB, HW, HF⟩ := hrel
    have F1 : IntKind.i64.wrap ((k : Int) + 1) = (k : Int) + 1 := by rw [IntKind.wrap_i64]; omega
    by_cases hlt : k < m
    · have hlt' : (k : Int) < (m : Int) := by omega
      obtain ⟨g, o, rfl, hfa⟩ := HW.out.at (by omega)
      obtain ⟨p, hp⟩ : ∃ p, l[k]? = some p := ⟨_, List.getElem?_eq_getElem (by rw [HM.out]; exact hlt)⟩
      obtain ⟨p0, p1, p2, p3⟩ := hfa k p hp
      have e1 := eS p
      have HNX := Lib.hid (fun (h : ¬ (p.name = n ∧ p.sec = none ∧ p.wide = true)) => show ∀ (i : Nat) (q : Par), i < k + 1 → l[i]? = some q → ¬ (q.name = n ∧ q.sec = none ∧ q.wide = true) from fun i q hi hq => by
        rcases (show i < k ∨ i = k by omega) with h' | rfl
        · exact HF.out i q h' hq
        · rw [hp] at hq; rw [← Option.some.inj hq]; exact h)
      by_cases hn : p.name = n
      · rw [decide_eq_true hn] at e1
        by_cases hz : p.sec = none
        · have e2 : (secZ p.sec == -1) = true := beq_iff_eq.2 (by rw [hz]; rfl)
          cases hwd : p.wide with
          | true =>
            have hwf : wideF l n = some p := wide_hit hp hn hz hwd HF.out
            have hv := value_wide (rep := rep) (dec := dec) H0.out hwf
            rw [HR.out] at hv
            have hpz := HZ.out p (List.mem_of_getElem? hp)
            obtain ⟨hs1, hs2⟩ := split_le p.value
            have hs3 := pct_le (splitQ p.value).2
            have cS := fun W => rsplit_l p.value (by omega) W
            have cO := fun W => ropen_l CU.out (splitQ p.value).2 (by omega) W
            have cM := fun W => rmeant_l CR.out CD.out (splitQ p.value).1 (pctL (splitQ p.value).2) (by omega) (by omega) W
            rw [hwd] at p2
            subst hv
            have hA : strL (meantP rep dec (splitQ p.value).1 (pctL (splitQ p.value).2)) = ANS := HAN.out
            obtain rfl : true = OK := HOK.out
            rw [hA] at cM
            generalize strL (pctL (splitQ p.value).2) = X4 at cM cO
            generalize strL (splitQ p.value).2 = X3 at cO cS
            generalize strL (splitQ p.value).1 = X2 at cM cS
            generalize strL p.name = x0 at p0 e1
            generalize secZ p.sec = x1 at p1 e2
            generalize strL p.value = x3 at p3 cS
            clear hp hn hz HF HR hfa HNX hwd hwf hpz hs1 hs2 hs3 hA HAN HOK c3 c4
            go_wp2_with (first
              | (go_at_call 114; (with_reducible refine (cS _).mono ?_); rintro e w2 ⟨rfl, hb2⟩; have HB2 := Lib.hid (HB.out.trans (hb2.mono HB.out.size)); clear hb2 cS)
              | (go_at_call 116; (with_reducible refine (cO _).mono ?_); rintro e w3 ⟨rfl, hb3⟩; have HB3 := Lib.hid (HB2.out.trans (hb3.mono HB2.out.size)); clear hb3 cO)
              | (go_at_call 115; (with_reducible refine (cM _).mono ?_); rintro e w4 ⟨rfl, hb4⟩; have HB4 := Lib.hid (HB3.out.trans (hb4.mono HB3.out.size)); clear hb4 cM))
            go_ret2
            exact ⟨rfl, HB4.out⟩
          | false =>
            have HF2 := Lib.hid (HNX.out (fun h => by rw [hwd] at h; exact absurd h.2.2 (by decide)))
            rw [hwd] at p2
            generalize strL p.name = x0 at p0 e1
            generalize secZ p.sec = x1 at p1 e2
            clear hp hn hz HF HR hfa HNX hwd c3 c4
            go_wp2_with fail
            go_roundw
            case rel => exact ⟨k + 1, by omega, by go_num, HB, HW, HF2⟩
            case measure => simp [intOf]; omega
        · have e2 : (secZ p.sec == -1) = false := beq_eq_false_iff_ne.2 (fun e => hz (secZ_inj (b := none) e))
          have HF2 := Lib.hid (HNX.out (fun h => hz h.2.1))
          generalize strL p.name = x0 at p0 e1
          generalize secZ p.sec = x1 at p1 e2
          clear hp hn hz HF HR hfa HNX c3 c4
          go_wp2_with fail
          go_roundw
          case rel => exact ⟨k + 1, by omega, by go_num, HB, HW, HF2⟩
          case measure => simp [intOf]; omega
      · rw [decide_eq_false hn] at e1
        have HF2 := Lib.hid (HNX.out (fun h => hn h.1))
        generalize strL p.name = x0 at p0 e1
        clear hp hn HF HR hfa HNX c3 c4
        go_wp2_with fail
        go_roundw
        case rel => exact ⟨k + 1, by omega, by go_num, HB, HW, HF2⟩
        case measure => simp [intOf]; omega
    · obtain rfl : k = m := by omega
      have hlt' : ¬ (k : Int) < (k : Int) := by omega
      have hwn : wideF l n = none := wide_none (fun i q hq => HF.out i q (by have := (List.getElem?_eq_some_iff.1 hq).1; rw [HM.out] at this; exact this) hq)
      have hv := value_none (rep := rep) (dec := dec) H0.out hwn
      rw [HR.out] at hv
      cases hf : firstP l n none with
      | none =>
        rw [hf] at hv
        obtain rfl : R = none := hv
        have c5 := c3 _ HW hf
        obtain rfl : (⟨#[]⟩ : ByteArray) = ANS := HAN.out
        obtain rfl : false = OK := HOK.out
        clear hf hwn HF HR c3 c4 HAN HOK
        go_wp2_with (go_at_call 113; (with_reducible refine c5.mono ?_); rintro e w5 ⟨rfl, hb5⟩; have HB5 := Lib.hid (HB.out.trans ((hb5.alloc hb5.size (.cells #[.string ⟨#[]⟩, .int .i64 0, .bool false, .string ⟨#[]⟩] 105)).mono HB.out.size)); clear hb5 c5)
        go_ret2
        exact ⟨rfl, HB5.out⟩
      | some y =>
        rw [hf] at hv
        obtain rfl : R = some y.value := hv
        have c5 := c4 _ HW y hf
        have hA : strL y.value = ANS := HAN.out
        obtain rfl : true = OK := HOK.out
        rw [hA] at c5
        generalize strL y.name = y0 at c5
        generalize secZ y.sec = y1 at c5
        generalize y.wide = y2 at c5
        clear hf hwn HF HR c3 c4 hA HAN HOK
        go_wp2_with (go_at_call 113; (with_reducible refine c5.mono ?_); rintro e w5 ⟨rfl, hb5⟩; have HB5 := Lib.hid (HB.out.trans ((hb5.alloc hb5.size (.cells #[.string y0, .int .i64 y1, .bool y2, .string ANS] 105)).mono HB.out.size)); clear hb5 c5)
        go_ret2
        exact ⟨rfl, HB5.out⟩
set_option maxRecDepth 100000 in
set_option maxHeartbeats 16000000 in
theorem rvalue_wide (cU : RUnhexOk) {rep : List UInt8 → List UInt8} {dec : List UInt8 → List UInt8 → List UInt8} (cR : RRepairOk rep) (cD : RDecodeOk dec) (v : Value) (l : List Par) (n : List UInt8) (hl : l.length ≤ 900000) (hz : ∀ p ∈ l, p.value.length ≤ 9999) (x : Par) (h0 : firstP l n (some 0) = some x) (hwx : x.wide = true) (R : Option (List UInt8)) (hR : valueP rep dec l n = R) (w : World) (h : Hid (HasO w v l)) :
    Calls Tryz.prog 75 #[v, .string (strL n)] w fun e w' => e = .returned (.tuple #[.string (strL (R.getD [])), .bool R.isSome]) ∧ Below w.heap.size w w' := by
  have hv := value_some (rep := rep) (dec := dec) h0
  rw [hR, hwx] at hv
  rw [if_pos rfl] at hv
  have hxz := hz x (first_in h0)
  obtain ⟨hs1, hs2⟩ := split_le x.value
  have hs3 := pct_le (splitQ x.value).2
  have cS := fun W => rsplit_l x.value (by omega) W
  have cO := fun W => ropen_l cU (splitQ x.value).2 (by omega) W
  obtain ⟨SET, hSET⟩ : ∃ S, (splitQ x.value).1 = S := ⟨_, rfl⟩
  rw [hSET] at hv cS hs1
  have hOz : (pctL (splitQ x.value).2).length ≤ 9999 := by omega
  obtain ⟨O0, hO0⟩ : ∃ O, pctL (splitQ x.value).2 = O := ⟨_, rfl⟩
  rw [hO0] at hv cO hOz
  have hSz : SET.length ≤ 9999 := by omega
  have cM := fun (M : List UInt8) (h : M.length ≤ 900000) W => rmeant_l cR cD SET M (by omega) h W
  obtain ⟨MM, hMM⟩ : ∃ M, O0 ++ moreP l n 63 1 = M := ⟨_, rfl⟩
  rw [hMM] at hv
  obtain ⟨a, c, rfl⟩ := h.out.form
  obtain ⟨m, hm⟩ : ∃ m, l.length = m := ⟨_, rfl⟩
  have c0 := rfirst_some (.slice a l.length c) l n (some 0) 0 rfl hl x h0 w h
  have c3 := fun (k : Nat) W (h : Hid (HasO W (.slice a l.length c) l)) (hf : firstP l n (some k) = none) => rfirst_no (.slice a l.length c) l n (some k) (k : Int) rfl hl hf W h
  have c4 := fun (k : Nat) W (h : Hid (HasO W (.slice a l.length c) l)) x (hf : firstP l n (some k) = some x) => rfirst_some (.slice a l.length c) l n (some k) (k : Int) rfl hl x hf W h
  rw [hm] at h hl c0 c3 c4 ⊢
  have HZ := Lib.hid hz
  have HH := h
  have CU := Lib.hid cU
  rw [hwx] at c0
  subst hv
  have HO0 := Lib.hid (show (strL O0).data.toList ++ moreP l n 63 1 = MM by rw [strL_list]; exact hMM)
  have HO1 := Lib.hid (show (strL O0).size ≤ 9999 * 1 by rw [strL_size]; omega)
  have HA := Lib.hid (show strL ((some (meantP rep dec SET MM)).getD []) = strL (meantP rep dec SET MM) from rfl)
  rw [HA.out]
  have HM2 := Lib.hid (fun (T : ByteArray) (h : T.size ≤ 9999 * 64) (hT : T.data.toList = MM) (W : World) => show Calls Tryz.prog 115 #[.string (strL SET), .string T] W fun e w' => e = .returned (.string (strL (meantP rep dec SET MM))) ∧ Below W.heap.size W w' by
    have hh := cM MM (by rw [← hT, ← size_list]; omega) W
    rw [← hT] at hh ⊢
    rw [strL_of] at hh
    exact hh)
  generalize strL (meantP rep dec SET MM) = ANS at HM2 ⊢
  generalize strL (splitQ x.value).2 = X3 at cO cS
  generalize strL SET = X2 at HM2 cS
  generalize strL O0 = T0 at cO HO0 HO1
  generalize strL x.name = x0 at c0
  generalize secZ x.sec = x1 at c0
  generalize strL x.value = x3 at cS c0
  generalize strL n = NS at c0 c3 c4 ⊢
  clear hm h0 hz hR h cU cR cD hMM hO0 hOz hSz hs1 hs2 hs3 hxz hSET hwx cM HA
  go_enter Tryz.func75, Tryz.ntmps75
  go_wp2_with (first
    | (go_at_call 113; (with_reducible refine c0.mono ?_); rintro e w1 ⟨rfl, hb1⟩; have HB1 := Lib.hid (hb1.alloc hb1.size (.cells #[.string x0, .int .i64 x1, .bool true, .string x3] 105)); have HH1 := Lib.hid (HH.out.step HB1.out); have HX1 := Lib.hid (ox_new w1 x0 x3 x1 true : Ox (w1.alloc (.cells #[.string x0, .int .i64 x1, .bool true, .string x3] 105)) w1.heap.size x0 x1 true x3); clear hb1 c0)
    | (go_at_call 114; (with_reducible refine (cS _).mono ?_); rintro e w2 ⟨rfl, hb2⟩; have HB2 := Lib.hid (HB1.out.trans (hb2.mono HB1.out.size)); have HH2 := Lib.hid (HH1.out.step hb2); have HX2 := Lib.hid (HX1.out.step hb2); clear hb2 cS)
    | (go_at_call 116; (with_reducible refine (cO _).mono ?_); rintro e w3 ⟨rfl, hb3⟩; have HB3 := Lib.hid (HB2.out.trans (hb3.mono HB2.out.size)); have HH3 := Lib.hid (HH2.out.step hb3); have HX3 := Lib.hid (HX2.out.step hb3); clear hb3 cO))
  go_loopw [14, 17] (fun o i wr => ∃ (k f : Nat) (T : ByteArray), k + f = 64 ∧ 1 ≤ k ∧ o = .string T ∧ i = .int .i64 k ∧ Hid (T.data.toList ++ moreP l n f k = MM) ∧ Hid (T.size ≤ 9999 * k) ∧ Hid (Below w.heap.size w wr) ∧ Hid (HasO wr (.slice a m c) l) ∧ Hid (Ox wr w1.heap.size x0 x1 true x3)) (fun _ i _ => 64 - (intOf i).toNat)
  case atStart => exact ⟨1, 63, T0, rfl, Nat.le_refl _, rfl, rfl, HO0, HO1, HB3, HH3, HX3⟩
  case round =>
    obtain ⟨k, f, T, hkf, hk1, rfl, rfl, HT, HS, HB, HW, HX⟩ := hrel
    have F1 : IntKind.i64.wrap ((k : Int) + 1) = (k : Int) + 1 := by rw [IntKind.wrap_i64]; omega
    obtain ⟨z0, z1, z2, z3, zf⟩ := HX.out.all
    cases f with
    | succ f =>
      have hlt' : (k : Int) < 64 := by omega
      cases hf : firstP l n (some k) with
      | none =>
        have c5 := c3 k _ HW hf
        have ht := HT.out
        rw [more_none hf, List.append_nil] at ht
        have cM := fun W => HM2.out T (by have := HS.out; omega) ht W
        clear hf ht HT HS c3 c4
        go_wp2_with (first
          | (go_at_call 113; (with_reducible refine c5.mono ?_); rintro e w5 ⟨rfl, hb5⟩; have hba := hb5.alloc hb5.size (.cells #[.string ⟨#[]⟩, .int .i64 0, .bool false, .string ⟨#[]⟩] 105); have HB5 := Lib.hid (HB.out.trans (hba.mono HB.out.size)); have HX5 := Lib.hid (HX.out.step hba); clear z0 z1 z2 z3 zf hb5 hba c5; obtain ⟨z0, z1, z2, z3, zf⟩ := HX5.out.all)
          | (go_at_call 115; (with_reducible refine (cM _).mono ?_); rintro e w6 ⟨rfl, hb6⟩; have HB6 := Lib.hid (HB5.out.trans (hb6.mono HB5.out.size)); clear hb6 cM))
        go_ret2
        exact ⟨rfl, HB6.out⟩
      | some y =>
        have c5 := c4 k _ HW y hf
        have ht := HT.out
        have hyz := HZ.out y (first_in hf)
        have hst := HS.out
        rw [more_some hf] at ht
        cases hwy : y.wide with
        | true =>
          rw [hwy, if_pos rfl] at ht
          have cP := fun W => ropen_l CU.out y.value (by omega) W
          have hpl := pct_le y.value
          rw [hwy] at c5
          have hz1 : T.size + (strL (pctL y.value)).size ≤ 100000000 := by rw [strL_size]; omega
          have HT2 := Lib.hid (show (T ++ strL (pctL y.value)).data.toList ++ moreP l n f (k + 1) = MM by rw [list_append, strL_list, List.append_assoc]; exact ht)
          have HS2 := Lib.hid (show (T ++ strL (pctL y.value)).size ≤ 9999 * (k + 1) by rw [ByteArray.size_append, strL_size]; omega)
          generalize strL (pctL y.value) = Y4 at cP hz1 HT2 HS2
          generalize strL y.name = y0 at c5
          generalize secZ y.sec = y1 at c5
          generalize strL y.value = y3 at c5 cP
          clear hf ht hyz hst hwy hpl HT HS
          go_wp2_with (first
            | (go_at_call 113; (with_reducible refine c5.mono ?_); rintro e w5 ⟨rfl, hb5⟩; have hba := hb5.alloc hb5.size (.cells #[.string y0, .int .i64 y1, .bool true, .string y3] 105); have HB5 := Lib.hid (HB.out.trans (hba.mono HB.out.size)); have HX5 := Lib.hid (HX.out.step hba); have HW5 := Lib.hid (HW.out.step hba); clear z0 z1 z2 z3 zf hb5 hba c5)
            | (go_at_call 116; (with_reducible refine (cP _).mono ?_); rintro e w6 ⟨rfl, hb6⟩; have HB6 := Lib.hid (HB5.out.trans (hb6.mono HB5.out.size)); have HX6 := Lib.hid (HX5.out.step hb6); have HW6 := Lib.hid (HW5.out.step hb6); clear hb6 cP))
          go_roundw
          case rel => exact ⟨k + 1, f, _, by omega, by omega, rfl, by go_num, HT2, HS2, HB6, HW6, HX6⟩
          case measure => simp [intOf]; omega
        | false =>
          rw [hwy, if_neg (by decide)] at ht
          rw [hwy] at c5
          have hz1 : T.size + (strL y.value).size ≤ 100000000 := by rw [strL_size]; omega
          have HT2 := Lib.hid (show (T ++ strL y.value).data.toList ++ moreP l n f (k + 1) = MM by rw [list_append, strL_list, List.append_assoc]; exact ht)
          have HS2 := Lib.hid (show (T ++ strL y.value).size ≤ 9999 * (k + 1) by rw [ByteArray.size_append, strL_size]; omega)
          generalize strL y.name = y0 at c5
          generalize secZ y.sec = y1 at c5
          generalize strL y.value = y3 at c5 hz1 HT2 HS2
          clear hf ht hyz hst hwy HT HS
          go_wp2_with (go_at_call 113; (with_reducible refine c5.mono ?_); rintro e w5 ⟨rfl, hb5⟩; have hba := hb5.alloc hb5.size (.cells #[.string y0, .int .i64 y1, .bool false, .string y3] 105); have HB5 := Lib.hid (HB.out.trans (hba.mono HB.out.size)); have HX5 := Lib.hid (HX.out.step hba); have HW5 := Lib.hid (HW.out.step hba); clear z0 z1 z2 z3 zf hb5 hba c5)
          go_roundw
          case rel => exact ⟨k + 1, f, _, by omega, by omega, rfl, by go_num, HT2, HS2, HB5, HW5, HX5⟩
          case measure => simp [intOf]; omega
    | zero =>
      have hlt' : ¬ (k : Int) < 64 := by omega
      have ht := HT.out
      rw [moreP, List.append_nil] at ht
      have cM := fun W => HM2.out T (by have := HS.out; omega) ht W
      clear ht HT HS c3 c4
      go_wp2_with (go_at_call 115; (with_reducible refine (cM _).mono ?_); rintro e w6 ⟨rfl, hb6⟩; have HB6 := Lib.hid (HB.out.trans (hb6.mono HB.out.size)); clear hb6 cM)
      go_ret2
      exact ⟨rfl, HB6.out⟩
set_option maxRecDepth 100000 in
set_option maxHeartbeats 16000000 in
theorem rvalue_plain (cU : RUnhexOk) {rep : List UInt8 → List UInt8} {dec : List UInt8 → List UInt8 → List UInt8} (_ : RRepairOk rep) (_ : RDecodeOk dec) (v : Value) (l : List Par) (n : List UInt8) (hl : l.length ≤ 900000) (hz : ∀ p ∈ l, p.value.length ≤ 9999) (x : Par) (h0 : firstP l n (some 0) = some x) (hwx : x.wide = false) (R : Option (List UInt8)) (hR : valueP rep dec l n = R) (w : World) (h : Hid (HasO w v l)) :
    Calls Tryz.prog 75 #[v, .string (strL n)] w fun e w' => e = .returned (.tuple #[.string (strL (R.getD [])), .bool R.isSome]) ∧ Below w.heap.size w w' := by
  have hv := value_some (rep := rep) (dec := dec) h0
  rw [hR, hwx] at hv
  rw [if_neg (by decide)] at hv
  obtain ⟨O0, hO0⟩ : ∃ O, x.value = O := ⟨_, rfl⟩
  have hOz : O0.length ≤ 9999 := by rw [← hO0]; exact hz x (first_in h0)
  rw [hO0] at hv
  obtain ⟨MM, hMM⟩ : ∃ M, O0 ++ moreP l n 63 1 = M := ⟨_, rfl⟩
  rw [hMM] at hv
  obtain ⟨a, c, rfl⟩ := h.out.form
  obtain ⟨m, hm⟩ : ∃ m, l.length = m := ⟨_, rfl⟩
  have c0 := rfirst_some (.slice a l.length c) l n (some 0) 0 rfl hl x h0 w h
  have c3 := fun (k : Nat) W (h : Hid (HasO W (.slice a l.length c) l)) (hf : firstP l n (some k) = none) => rfirst_no (.slice a l.length c) l n (some k) (k : Int) rfl hl hf W h
  have c4 := fun (k : Nat) W (h : Hid (HasO W (.slice a l.length c) l)) x (hf : firstP l n (some k) = some x) => rfirst_some (.slice a l.length c) l n (some k) (k : Int) rfl hl x hf W h
  rw [hm] at h hl c0 c3 c4 ⊢
  have HZ := Lib.hid hz
  have HH := h
  have CU := Lib.hid cU
  rw [hwx] at c0
  subst hv
  have HO0 := Lib.hid (show (strL O0).data.toList ++ moreP l n 63 1 = MM by rw [strL_list]; exact hMM)
  have HO1 := Lib.hid (show (strL O0).size ≤ 9999 * 1 by rw [strL_size]; omega)
  have HA := Lib.hid (show strL ((some MM).getD []) = strL MM from rfl)
  rw [HA.out]
  have HM2 := Lib.hid (fun (T : ByteArray) (hT : T.data.toList = MM) => show T = strL MM by rw [← hT, strL_of])
  generalize strL MM = ANS at HM2 ⊢
  rw [hO0] at c0
  generalize strL O0 = T0 at c0 HO0 HO1
  generalize strL x.name = x0 at c0
  generalize secZ x.sec = x1 at c0
  generalize strL n = NS at c0 c3 c4 ⊢
  clear hm h0 hz hR h cU hMM hO0 hOz hwx HA
  go_enter Tryz.func75, Tryz.ntmps75
  go_wp2_with (go_at_call 113; (with_reducible refine c0.mono ?_); rintro e w1 ⟨rfl, hb1⟩; have HB1 := Lib.hid (hb1.alloc hb1.size (.cells #[.string x0, .int .i64 x1, .bool false, .string T0] 105)); have HH1 := Lib.hid (HH.out.step HB1.out); have HX1 := Lib.hid (ox_new w1 x0 T0 x1 false : Ox (w1.alloc (.cells #[.string x0, .int .i64 x1, .bool false, .string T0] 105)) w1.heap.size x0 x1 false T0); clear hb1 c0)
  go_loopw [14, 17] (fun o i wr => ∃ (k f : Nat) (T : ByteArray), k + f = 64 ∧ 1 ≤ k ∧ o = .string T ∧ i = .int .i64 k ∧ Hid (T.data.toList ++ moreP l n f k = MM) ∧ Hid (T.size ≤ 9999 * k) ∧ Hid (Below w.heap.size w wr) ∧ Hid (HasO wr (.slice a m c) l) ∧ Hid (Ox wr w1.heap.size x0 x1 false T0)) (fun _ i _ => 64 - (intOf i).toNat)
  case atStart => exact ⟨1, 63, T0, rfl, Nat.le_refl _, rfl, rfl, HO0, HO1, HB1, HH1, HX1⟩
  case round =>
    obtain ⟨k, f, T, hkf, hk1, rfl, rfl, HT, HS, HB, HW, HX⟩ := hrel
    have F1 : IntKind.i64.wrap ((k : Int) + 1) = (k : Int) + 1 := by rw [IntKind.wrap_i64]; omega
    obtain ⟨z0, z1, z2, z3, zf⟩ := HX.out.all
    cases f with
    | succ f =>
      have hlt' : (k : Int) < 64 := by omega
      cases hf : firstP l n (some k) with
      | none =>
        have c5 := c3 k _ HW hf
        have ht := HT.out
        rw [more_none hf, List.append_nil] at ht
        have HT2 := Lib.hid (HM2.out T ht)
        clear hf ht HT HS c3 c4
        go_wp2_with (first
          | (go_at_call 113; (with_reducible refine c5.mono ?_); rintro e w5 ⟨rfl, hb5⟩; have hba := hb5.alloc hb5.size (.cells #[.string ⟨#[]⟩, .int .i64 0, .bool false, .string ⟨#[]⟩] 105); have HB5 := Lib.hid (HB.out.trans (hba.mono HB.out.size)); have HX5 := Lib.hid (HX.out.step hba); clear z0 z1 z2 z3 zf hb5 hba c5; obtain ⟨z0, z1, z2, z3, zf⟩ := HX5.out.all))
        go_ret2
        exact ⟨congrArg (fun z => Ending.returned (Value.tuple #[Value.string z, Value.bool true])) HT2.out, HB5.out⟩
      | some y =>
        have c5 := c4 k _ HW y hf
        have ht := HT.out
        have hyz := HZ.out y (first_in hf)
        have hst := HS.out
        rw [more_some hf] at ht
        cases hwy : y.wide with
        | true =>
          rw [hwy, if_pos rfl] at ht
          have cP := fun W => ropen_l CU.out y.value (by omega) W
          have hpl := pct_le y.value
          rw [hwy] at c5
          have hz1 : T.size + (strL (pctL y.value)).size ≤ 100000000 := by rw [strL_size]; omega
          have HT2 := Lib.hid (show (T ++ strL (pctL y.value)).data.toList ++ moreP l n f (k + 1) = MM by rw [list_append, strL_list, List.append_assoc]; exact ht)
          have HS2 := Lib.hid (show (T ++ strL (pctL y.value)).size ≤ 9999 * (k + 1) by rw [ByteArray.size_append, strL_size]; omega)
          generalize strL (pctL y.value) = Y4 at cP hz1 HT2 HS2
          generalize strL y.name = y0 at c5
          generalize secZ y.sec = y1 at c5
          generalize strL y.value = y3 at c5 cP
          clear hf ht hyz hst hwy hpl HT HS
          go_wp2_with (first
            | (go_at_call 113; (with_reducible refine c5.mono ?_); rintro e w5 ⟨rfl, hb5⟩; have hba := hb5.alloc hb5.size (.cells #[.string y0, .int .i64 y1, .bool true, .string y3] 105); have HB5 := Lib.hid (HB.out.trans (hba.mono HB.out.size)); have HX5 := Lib.hid (HX.out.step hba); have HW5 := Lib.hid (HW.out.step hba); clear z0 z1 z2 z3 zf hb5 hba c5)
            | (go_at_call 116; (with_reducible refine (cP _).mono ?_); rintro e w6 ⟨rfl, hb6⟩; have HB6 := Lib.hid (HB5.out.trans (hb6.mono HB5.out.size)); have HX6 := Lib.hid (HX5.out.step hb6); have HW6 := Lib.hid (HW5.out.step hb6); clear hb6 cP))
          go_roundw
          case rel => exact ⟨k + 1, f, _, by omega, by omega, rfl, by go_num, HT2, HS2, HB6, HW6, HX6⟩
          case measure => simp [intOf]; omega
        | false =>
          rw [hwy, if_neg (by decide)] at ht
          rw [hwy] at c5
          have hz1 : T.size + (strL y.value).size ≤ 100000000 := by rw [strL_size]; omega
          have HT2 := Lib.hid (show (T ++ strL y.value).data.toList ++ moreP l n f (k + 1) = MM by rw [list_append, strL_list, List.append_assoc]; exact ht)
          have HS2 := Lib.hid (show (T ++ strL y.value).size ≤ 9999 * (k + 1) by rw [ByteArray.size_append, strL_size]; omega)
          generalize strL y.name = y0 at c5
          generalize secZ y.sec = y1 at c5
          generalize strL y.value = y3 at c5 hz1 HT2 HS2
          clear hf ht hyz hst hwy HT HS
          go_wp2_with (go_at_call 113; (with_reducible refine c5.mono ?_); rintro e w5 ⟨rfl, hb5⟩; have hba := hb5.alloc hb5.size (.cells #[.string y0, .int .i64 y1, .bool false, .string y3] 105); have HB5 := Lib.hid (HB.out.trans (hba.mono HB.out.size)); have HX5 := Lib.hid (HX.out.step hba); have HW5 := Lib.hid (HW.out.step hba); clear z0 z1 z2 z3 zf hb5 hba c5)
          go_roundw
          case rel => exact ⟨k + 1, f, _, by omega, by omega, rfl, by go_num, HT2, HS2, HB5, HW5, HX5⟩
          case measure => simp [intOf]; omega
    | zero =>
      have hlt' : ¬ (k : Int) < 64 := by omega
      have ht := HT.out
      rw [moreP, List.append_nil] at ht
      have HT2 := Lib.hid (HM2.out T ht)
      clear ht HT HS c3 c4
      go_wp2_with fail
      go_ret2
      exact ⟨congrArg (fun z => Ending.returned (Value.tuple #[Value.string z, Value.bool true])) HT2.out, HB.out⟩
theorem rvaluep_any (cU : RUnhexOk) {rep : List UInt8 → List UInt8} {dec : List UInt8 → List UInt8 → List UInt8} (cR : RRepairOk rep) (cD : RDecodeOk dec) (v : Value) (l : List Par) (n : List UInt8) (hl : l.length ≤ 900000) (hz : ∀ p ∈ l, p.value.length ≤ 9999) (R : Option (List UInt8)) (hR : valueP rep dec l n = R) (w : World) (h : Hid (HasO w v l)) :
    Calls Tryz.prog 75 #[v, .string (strL n)] w fun e w' => e = .returned (.tuple #[.string (strL (R.getD [])), .bool R.isSome]) ∧ Below w.heap.size w w' := by
  cases h0 : firstP l n (some 0) with
  | none => exact rvalue_none cU cR cD v l n hl hz h0 R hR w h
  | some x =>
    cases hw : x.wide with
    | true => exact rvalue_wide cU cR cD v l n hl hz x h0 hw R hR w h
    | false => exact rvalue_plain cU cR cD v l n hl hz x h0 hw R hR w h
end Go.Proofs.YtdinachiiimngaaGreatDoor
