/- The reference's Pair. -/
import Derived.Test.YtdinachiiimngaaGreatDoorKCtRTold
import Derived.Test.YtdinachiiimngaaGreatDoorK6
import Derived.Test.YtdinachiiimngaaGreatDoorK4
import Derived.Test.YtdinachiiimngaaGreatDoorK3
import Derived.Test.YtdinachiiimngaaGreatDoorK7
import Derived.Deep.QuietTactic
namespace Go.Proofs.YtdinachiiimngaaGreatDoor
open Go.ChangeShapes Go.WideShapes Go.ChangeAt Go.RowKit
open TokP AdrP CtP

theorem below_drewQ {B : Nat} {a w : World} (h : Below B a w) (n : Nat) : Below B a (w.drewN n) := ⟨h.os, h.tape, h.output, h.size, h.block⟩
theorem join_drop {l : List TokP.Tok} {k : Nat} {t : TokP.Tok} (h : l[k]? = some t) : (joinL (l.drop k)).length = t.text.length + (joinL (l.drop (k + 1))).length := by
  obtain ⟨h1, h2⟩ := List.getElem?_eq_some_iff.1 h
  rw [List.drop_eq_getElem_cons h1, h2, join_cons, List.length_append]
theorem upC_all {c : UInt8} {s : List UInt8} (h : c ∈ s) : (upC c s).length + 1 ≤ s.length ∧ s.take (upC c s).length = upC c s := by
  have h1 : upC c s = s.take (upC c s).length := (List.prefix_iff_eq_take.1 (List.takeWhile_prefix _))
  refine ⟨?_, h1.symm⟩
  have hle : (upC c s).length ≤ s.length := (List.takeWhile_prefix _).length_le
  rcases Nat.lt_or_ge (upC c s).length s.length with h2 | h2
  · exact h2
  · exfalso
    rw [List.take_of_length_le h2] at h1
    rw [← h1] at h
    have h3 := List.all_eq_true.1 (List.all_takeWhile (l := s) (p := fun x => x != c)) c h
    simp at h3
theorem one_open (p : Par) : oneA (some p) = .agg #[.string (strL p.name), .int .i64 (secZ p.sec), .bool p.wide, .string (strL p.value)] := rfl
set_option maxRecDepth 100000 in
set_option maxHeartbeats 16000000 in
theorem rpair_any (v : Value) (l : List TokP.Tok) (hl : l.length ≤ 900000) (hz : (joinL l).length ≤ 800000) (R : Option Par) (hR : pairP numF [] l = R) (w : World) (h : Hid (HasT w v l)) :
    Calls Tryz.prog 74 #[v] w fun e w' => ∃ q : Par, e = .returned (.tuple #[.agg #[.string (strL q.name), .int .i64 (secZ q.sec), .bool q.wide, .string (strL q.value)], .bool R.isSome]) ∧ (∀ p, R = some p → p = q) ∧ Below w.heap.size w w' := by
  have HB0 := Lib.hid (show Below w.heap.size w (w.alloc (.cells #[.string ⟨#[]⟩, .int .i64 0, .bool false, .string ⟨#[]⟩] 105)) from (Below.refl _ w).alloc (Nat.le_refl _) _)
  have HX0 := Lib.hid (ox_new w ⟨#[]⟩ ⟨#[]⟩ 0 false)
  obtain ⟨a, c, rfl, _⟩ := h.out
  obtain ⟨m, hm⟩ : ∃ m, l.length = m := ⟨_, rfl⟩
  rw [hm] at h hl ⊢
  have HM := Lib.hid hm
  have HT0 := Lib.hid (h.out.step HB0.out)
  have HR0 := Lib.hid (show pairP numF (⟨#[]⟩ : ByteArray).data.toList (l.drop 0) = R from hR)
  have HZ0 := Lib.hid (show (⟨#[]⟩ : ByteArray).size + (joinL (l.drop 0)).length ≤ 800000 by rw [List.drop_zero]; exact (Nat.zero_add _).symm ▸ hz)
  clear hm hR hz h
  go_enter Tryz.func74, Tryz.ntmps74
  go_wp2_with fail
  go_loopw [4, 5] (fun o i wr => ∃ (k : Nat) (T : ByteArray), k ≤ m ∧ o = .string T ∧ i = .int .i64 k ∧ Hid (pairP numF T.data.toList (l.drop k) = R) ∧ Hid (T.size + (joinL (l.drop k)).length ≤ 800000) ∧ Hid (Below w.heap.size w wr) ∧ Hid (Ox wr w.heap.size ⟨#[]⟩ 0 false ⟨#[]⟩) ∧ Hid (HasT wr (.slice a m c) l)) (fun _ i _ => m - (intOf i).toNat)
  case atStart => exact ⟨0, ⟨#[]⟩, Nat.zero_le _, rfl, rfl, HR0, HZ0, HB0, HX0, HT0⟩
  case round =>
    obtain ⟨k, T, hk, rfl, rfl, HR, HZ, HB, HX, HT⟩ := hrel
    have F1 : IntKind.i64.wrap ((k : Int) + 1) = (k : Int) + 1 := by rw [IntKind.wrap_i64]; omega
    by_cases hlt : k < m
    · have hlt' : (k : Int) < (m : Int) := by omega
      obtain ⟨hx1, hx2, hf⟩ := HT.out.cap
      clear hx1 hx2
      obtain ⟨g, o, rfl, hfa⟩ := hf.at (by omega)
      clear hf
      obtain ⟨t, ht⟩ : ∃ t, l[k]? = some t := ⟨_, List.getElem?_eq_getElem (by rw [HM.out]; exact hlt)⟩
      obtain ⟨p0, p1⟩ := hfa k t ht
      have hjd := join_drop ht
      have hzz := HZ.out
      rw [hjd] at hzz
      have cF := fun W => rfind_any (strL t.text) 61 61 rfl (by rw [strL_size]; omega) W
      rw [strL_list] at cF
      unfold findZ at cF
      simp only [show ((61 : Nat) : Int) = 61 from rfl] at cF
      have hXz : (strL t.text).size = t.text.length := strL_size _
      by_cases hit : t.kind = 1 ∧ 61 ∈ t.text
      · have e1 : (((t.kind : Nat) : Int) != 1) = false := by rw [hit.1]; rfl
        have hph := pair_hit (num := numF) (pre := T.data.toList) ht hit.1 hit.2
        rw [HR.out] at hph
        obtain ⟨hu1, hu2⟩ := upC_all hit.2
        rw [if_pos hit.2] at cF
        obtain ⟨A, hA⟩ : ∃ A, (upC 61 t.text).length = A := ⟨_, rfl⟩
        rw [hA] at cF hu1 hu2
        have h0 : ¬ (A : Int) < 0 := by omega
        have h0' : (0 : Int) ≤ (A : Int) := by omega
        have F2 : IntKind.i64.wrap ((A : Int) + 1) = (A : Int) + 1 := by rw [IntKind.wrap_i64]; omega
        have R1 := run_slice_to (strL t.text) A (A : Int) rfl (by omega)
        have R2 := run_slice_from (strL t.text) (A + 1) ((A : Int) + 1) (by omega) (by omega)
        have e2 : (strL t.text).extract 0 A = strL (upC 61 t.text) := bytes_is (by rw [part_start (strL t.text) A (by omega), strL_list, strL_list, hu2])
        have e3 : (strL t.text).extract (A + 1) (strL t.text).size = strL (behind 61 t.text) := bytes_is (by rw [part_rest (strL t.text) (A + 1) (by omega), strL_list, strL_list, ← hA]; rfl)
        rw [e2] at R1
        rw [e3] at R2
        have hz1 : T.size + (strL (upC 61 t.text)).size ≤ 100000000 := by rw [strL_size]; omega
        have cS := fun W => rsmall_any (T ++ strL (upC 61 t.text)) (by rw [ByteArray.size_append, strL_size]; omega) W
        rw [list_append, strL_list] at cS
        obtain ⟨NL, hNL⟩ : ∃ NL, (T.data.toList ++ upC 61 t.text).map lowA = NL := ⟨_, rfl⟩
        rw [hNL] at cS hph
        have hNz : NL.length ≤ 800000 := by rw [← hNL, List.length_map, List.length_append, ← size_list]; omega
        have hbl : (behind 61 t.text).length + A + 1 = t.text.length := by unfold behind; rw [List.length_drop, hA]; omega
        obtain ⟨A1, C1, R3, hT1⟩ := run_sub_from HT.out (k + 1) ((k : Int) + 1) (by omega) (by omega)
        obtain ⟨M1, hM1⟩ : ∃ M1, m - (k + 1) = M1 := ⟨_, rfl⟩
        rw [hM1] at R3 hT1
        have HT1 := Lib.hid hT1
        have cX := fun W (h : Hid (HasT W (.slice A1 M1 C1) (l.drop (k + 1)))) => rtext_any (.slice A1 M1 C1) (l.drop (k + 1)) W h.out.hasF (by omega) (by rw [List.length_drop, HM.out]; omega)
        have hz2 : (strL (behind 61 t.text)).size + (strL (joinL (l.drop (k + 1)))).size ≤ 100000000 := by rw [strL_size, strL_size]; omega
        obtain ⟨nb, hnb⟩ : ∃ nb, ((strL NL).toList == []) = nb := ⟨_, rfl⟩
        have hnl : (nb = true) ↔ (T.data.toList ++ upC 61 t.text) = [] := by
          rw [← hnb, beq_iff_eq, ByteArray.toList_eq, strL_list, ← hNL, List.map_eq_nil_iff]
        have hRs : R.isSome = !nb ∧ ∀ p, R = some p → p = toldP numF NL (pairV (behind 61 t.text) (l.drop (k + 1))) := by
          rw [hph]
          by_cases hc : (T.data.toList ++ upC 61 t.text) = []
          · rw [if_pos hc, hnl.2 hc]; exact ⟨rfl, fun p hp => absurd hp (by simp)⟩
          · rw [if_neg hc]
            have : nb = false := by rw [← Bool.not_eq_true]; exact fun h => hc (hnl.1 h)
            rw [this]; exact ⟨rfl, fun p hp => (Option.some.inj hp).symm⟩
        have HRS := Lib.hid hRs
        have HFA := Lib.hid hfa
        clear hnl hRs hph hNL hfa HR HZ
        by_cases hr0 : behind 61 t.text = []
        · have g1 : ((A : Int) + 1 == (t.text.length : Int)) = true := beq_iff_eq.2 (by rw [hr0, List.length_nil] at hbl; omega)
          by_cases hk1 : k + 1 < m
          · have T1 : ((k : Int) + 1).toNat = k + 1 := by omega
            obtain ⟨u, hu⟩ : ∃ u, l[k + 1]? = some u := ⟨_, List.getElem?_eq_getElem (by rw [HM.out]; exact hk1)⟩
            obtain ⟨q0, q1⟩ := HFA.out (k + 1) u hu
            have hju := join_drop hu
            have hk1' : (k : Int) + 1 < (m : Int) := by omega
            by_cases hk2 : u.kind = 2
            · have g2 : (((u.kind : Nat) : Int) == 2) = true := beq_iff_eq.2 (by omega)
              obtain ⟨VL, hVL⟩ : ∃ VL, pairV (behind 61 t.text) (l.drop (k + 1)) = VL := ⟨_, rfl⟩
              have hvv : valueL u = VL := by rw [← hVL, pairV_quoted hu hr0 hk2]
              obtain ⟨q, hq⟩ : ∃ q, toldP numF NL VL = q := ⟨_, rfl⟩
              have cT := fun W => rtold_any (strL NL) (strL VL) (by rw [strL_size]; omega) W
              rw [strL_list, strL_list, hq, one_open] at cT
              have HQ := Lib.hid (show ∀ p, R = some p → p = q by rw [← hq, ← hVL]; exact HRS.out.2)
              have HI := Lib.hid HRS.out.1
              have cV := fun W => rvalue_any ((u.kind : Nat) : Int) (strL u.text) (by rw [strL_size]; omega) W
              rw [strL_list, value_tok] at cV
              have hVV : valueL u = VL := hvv
              rw [hVV, hk2, show ((2 : Nat) : Int) = 2 from rfl] at cV
              clear hVL hq HRS ht hit hzz hjd hu1 hu2 hA hNz hbl e2 e3 hT1 hM1
              generalize strL t.text = X at p1 cF R1 R2 hXz
              generalize strL (upC 61 t.text) = X1 at R1 hz1 cS
              generalize strL (behind 61 t.text) = X2 at R2 hz2 
              generalize strL (joinL (l.drop (k + 1))) = X3 at cX hz2 
              generalize strL NL = NM at cS cT hnb
              generalize strL VL = VM at cT cV
              obtain ⟨y0, hy0⟩ : ∃ y, strL q.name = y := ⟨_, rfl⟩
              obtain ⟨y1, hy1⟩ : ∃ y, secZ q.sec = y := ⟨_, rfl⟩
              obtain ⟨y2, hy2⟩ : ∃ y, q.wide = y := ⟨_, rfl⟩
              obtain ⟨y3, hy3⟩ : ∃ y, strL q.value = y := ⟨_, rfl⟩
              rw [hy0, hy1, hy2, hy3] at cT
              have HA := Lib.hid (show Value.agg #[.string y0, .int .i64 y1, .bool y2, .string y3] = .agg #[.string (strL q.name), .int .i64 (secZ q.sec), .bool q.wide, .string (strL q.value)] by rw [hy0, hy1, hy2, hy3])
              clear hy0 hy1 hy2 hy3
              clear hVV hvv hu hju
              generalize strL u.text = X4 at q1 cV
              go_wp2_with (first
                | (go_at_call 37; (with_reducible refine (cF _).mono ?_); rintro e w1 ⟨rfl, rfl⟩)
                | (go_at_call 39; (with_reducible refine (cS _).mono ?_); rintro e w2 ⟨rfl, hb2⟩; have HB2 := Lib.hid (HB.out.trans (hb2.mono HB.out.size)); have HX2 := Lib.hid (HX.out.step hb2); have HT2 := Lib.hid (HT1.out.step hb2); have HF2 := Lib.hid (HFA.out.step hb2); have p0b := cell_below p0 hb2; have p1b := cell_below p1 hb2; have q0b := cell_below q0 hb2; have q1b := cell_below q1 hb2; clear q0 q1; clear hb2 cS cF p0 p1))
              have cY := fun n => (cX (w2.drewN n) (Lib.hid (HT2.out.step (below_drewQ (Below.refl _ w2) n)))).mono (fun e w' (hh : _ ∧ _ = w') => (⟨hh.1, hh.2.symm⟩ : _ ∧ w' = w2.drewN n))
              clear cX
              go_quiet ((go_at_call 36; with_reducible exact Calls.quiet_of_same (cY _)))
              have HB3 := Lib.hid (below_drewQ HB2.out nq)
              have HX3 := Lib.hid (HX2.out.step (below_drewQ (Below.refl _ w2) nq))
              have p1c := cell_below p1b (below_drewQ (Below.refl _ w2) nq)
              have q0c := cell_below q0b (below_drewQ (Below.refl _ w2) nq)
              have q1c := cell_below q1b (below_drewQ (Below.refl _ w2) nq)
              clear cY p0b p1b HT2 HF2 HX2 HB2 q0b q1b
              generalize w2.drewN nq = w3 at HB3 HX3 p1c q0c q1c ⊢
              obtain ⟨z0, z1, z2, z3, zf⟩ := HX3.out.all
              go_wp2_with (first
                | (go_at_call 111; (with_reducible refine (cV _).mono ?_); rintro e w4 ⟨rfl, hb4⟩; have HB4 := Lib.hid (HB3.out.trans (hb4.mono HB3.out.size)); have HX4 := Lib.hid (HX3.out.step hb4); clear hb4 cV z0 z1 z2 z3 zf; obtain ⟨z0, z1, z2, z3, zf⟩ := HX4.out.all)
                | (go_at_call 112; (with_reducible refine (cT _).mono ?_); rintro e w5 ⟨rfl, hb5⟩; have HB5 := Lib.hid (HB4.out.trans (hb5.mono HB4.out.size)); have HX5 := Lib.hid (HX4.out.step hb5); clear hb5 cT z0 z1 z2 z3 zf; obtain ⟨z0, z1, z2, z3, zf⟩ := HX5.out.all))
              rw [HI.out]
              exact bodyPost_ret (results_one rfl _ _ w.heap.size _ _ _ _ rfl (set_four HX5.out)) rfl (by exact Exists.intro q (And.intro (congrArg (fun z => Ending.returned (Value.tuple #[z, .bool (!nb)])) HA.out) (And.intro HQ.out (below_four HB5.out (Nat.le_refl _) _ _ _ _))))
            · have g2 : (((u.kind : Nat) : Int) == 2) = false := beq_eq_false_iff_ne.2 (by omega)
              obtain ⟨VL, hVL⟩ : ∃ VL, pairV (behind 61 t.text) (l.drop (k + 1)) = VL := ⟨_, rfl⟩
              have hvv : behind 61 t.text ++ joinL (l.drop (k + 1)) = VL := by rw [← hVL, pairV_plain (fun x hx hc => hk2 (by rw [List.getElem?_drop, Nat.add_zero, hu] at hx; rw [Option.some.inj hx]; exact hc.2))]
              obtain ⟨q, hq⟩ : ∃ q, toldP numF NL VL = q := ⟨_, rfl⟩
              have cT := fun W => rtold_any (strL NL) (strL VL) (by rw [strL_size]; omega) W
              rw [strL_list, strL_list, hq, one_open] at cT
              have HQ := Lib.hid (show ∀ p, R = some p → p = q by rw [← hq, ← hVL]; exact HRS.out.2)
              have HI := Lib.hid HRS.out.1
              have hVV : strL (behind 61 t.text) ++ strL (joinL (l.drop (k + 1))) = strL VL := bytes_is (by rw [list_append, strL_list, strL_list, strL_list]; exact hvv)
              clear hVL hq HRS ht hit hzz hjd hu1 hu2 hA hNz hbl e2 e3 hT1 hM1
              generalize strL t.text = X at p1 cF R1 R2 hXz
              generalize strL (upC 61 t.text) = X1 at R1 hz1 cS
              generalize strL (behind 61 t.text) = X2 at R2 hz2 hVV
              generalize strL (joinL (l.drop (k + 1))) = X3 at cX hz2 hVV
              generalize strL NL = NM at cS cT hnb
              generalize strL VL = VM at cT hVV
              obtain ⟨y0, hy0⟩ : ∃ y, strL q.name = y := ⟨_, rfl⟩
              obtain ⟨y1, hy1⟩ : ∃ y, secZ q.sec = y := ⟨_, rfl⟩
              obtain ⟨y2, hy2⟩ : ∃ y, q.wide = y := ⟨_, rfl⟩
              obtain ⟨y3, hy3⟩ : ∃ y, strL q.value = y := ⟨_, rfl⟩
              rw [hy0, hy1, hy2, hy3] at cT
              have HA := Lib.hid (show Value.agg #[.string y0, .int .i64 y1, .bool y2, .string y3] = .agg #[.string (strL q.name), .int .i64 (secZ q.sec), .bool q.wide, .string (strL q.value)] by rw [hy0, hy1, hy2, hy3])
              clear hy0 hy1 hy2 hy3
              clear hvv hu hju
              subst hVV
              generalize strL u.text = X4 at q1
              go_wp2_with (first
                | (go_at_call 37; (with_reducible refine (cF _).mono ?_); rintro e w1 ⟨rfl, rfl⟩)
                | (go_at_call 39; (with_reducible refine (cS _).mono ?_); rintro e w2 ⟨rfl, hb2⟩; have HB2 := Lib.hid (HB.out.trans (hb2.mono HB.out.size)); have HX2 := Lib.hid (HX.out.step hb2); have HT2 := Lib.hid (HT1.out.step hb2); have HF2 := Lib.hid (HFA.out.step hb2); have p0b := cell_below p0 hb2; have p1b := cell_below p1 hb2; have q0b := cell_below q0 hb2; have q1b := cell_below q1 hb2; clear q0 q1; clear hb2 cS cF p0 p1))
              have cY := fun n => (cX (w2.drewN n) (Lib.hid (HT2.out.step (below_drewQ (Below.refl _ w2) n)))).mono (fun e w' (hh : _ ∧ _ = w') => (⟨hh.1, hh.2.symm⟩ : _ ∧ w' = w2.drewN n))
              clear cX
              go_quiet ((go_at_call 36; with_reducible exact Calls.quiet_of_same (cY _)))
              have HB3 := Lib.hid (below_drewQ HB2.out nq)
              have HX3 := Lib.hid (HX2.out.step (below_drewQ (Below.refl _ w2) nq))
              have p1c := cell_below p1b (below_drewQ (Below.refl _ w2) nq)
              have q0c := cell_below q0b (below_drewQ (Below.refl _ w2) nq)
              have q1c := cell_below q1b (below_drewQ (Below.refl _ w2) nq)
              clear cY p0b p1b HT2 HF2 HX2 HB2 q0b q1b
              generalize w2.drewN nq = w3 at HB3 HX3 p1c q0c q1c ⊢
              obtain ⟨z0, z1, z2, z3, zf⟩ := HX3.out.all
              go_wp2_with (first
                | (go_at_call 111; (with_reducible refine (cV _).mono ?_); rintro e w4 ⟨rfl, hb4⟩; have HB4 := Lib.hid (HB3.out.trans (hb4.mono HB3.out.size)); have HX4 := Lib.hid (HX3.out.step hb4); clear hb4 cV z0 z1 z2 z3 zf; obtain ⟨z0, z1, z2, z3, zf⟩ := HX4.out.all)
                | (go_at_call 112; (with_reducible refine (cT _).mono ?_); rintro e w5 ⟨rfl, hb5⟩; have HB5 := Lib.hid (HB3.out.trans (hb5.mono HB3.out.size)); have HX5 := Lib.hid (HX3.out.step hb5); clear hb5 cT z0 z1 z2 z3 zf; obtain ⟨z0, z1, z2, z3, zf⟩ := HX5.out.all))
              rw [HI.out]
              exact bodyPost_ret (results_one rfl _ _ w.heap.size _ _ _ _ rfl (set_four HX5.out)) rfl (by exact Exists.intro q (And.intro (congrArg (fun z => Ending.returned (Value.tuple #[z, .bool (!nb)])) HA.out) (And.intro HQ.out (below_four HB5.out (Nat.le_refl _) _ _ _ _))))
          · have hk1' : ¬ (k : Int) + 1 < (m : Int) := by omega
            obtain ⟨VL, hVL⟩ : ∃ VL, pairV (behind 61 t.text) (l.drop (k + 1)) = VL := ⟨_, rfl⟩
            have hvv : behind 61 t.text ++ joinL (l.drop (k + 1)) = VL := by rw [← hVL, pairV_plain (fun x hx hc => hk1 (by have := (List.getElem?_eq_some_iff.1 hx).1; rw [List.length_drop, HM.out] at this; omega))]
            obtain ⟨q, hq⟩ : ∃ q, toldP numF NL VL = q := ⟨_, rfl⟩
            have cT := fun W => rtold_any (strL NL) (strL VL) (by rw [strL_size]; omega) W
            rw [strL_list, strL_list, hq, one_open] at cT
            have HQ := Lib.hid (show ∀ p, R = some p → p = q by rw [← hq, ← hVL]; exact HRS.out.2)
            have HI := Lib.hid HRS.out.1
            have hVV : strL (behind 61 t.text) ++ strL (joinL (l.drop (k + 1))) = strL VL := bytes_is (by rw [list_append, strL_list, strL_list, strL_list]; exact hvv)
            clear hVL hq HRS ht hit hzz hjd hu1 hu2 hA hNz hbl e2 e3 hT1 hM1
            generalize strL t.text = X at p1 cF R1 R2 hXz
            generalize strL (upC 61 t.text) = X1 at R1 hz1 cS
            generalize strL (behind 61 t.text) = X2 at R2 hz2 hVV
            generalize strL (joinL (l.drop (k + 1))) = X3 at cX hz2 hVV
            generalize strL NL = NM at cS cT hnb
            generalize strL VL = VM at cT hVV
            obtain ⟨y0, hy0⟩ : ∃ y, strL q.name = y := ⟨_, rfl⟩
            obtain ⟨y1, hy1⟩ : ∃ y, secZ q.sec = y := ⟨_, rfl⟩
            obtain ⟨y2, hy2⟩ : ∃ y, q.wide = y := ⟨_, rfl⟩
            obtain ⟨y3, hy3⟩ : ∃ y, strL q.value = y := ⟨_, rfl⟩
            rw [hy0, hy1, hy2, hy3] at cT
            have HA := Lib.hid (show Value.agg #[.string y0, .int .i64 y1, .bool y2, .string y3] = .agg #[.string (strL q.name), .int .i64 (secZ q.sec), .bool q.wide, .string (strL q.value)] by rw [hy0, hy1, hy2, hy3])
            clear hy0 hy1 hy2 hy3
            clear hvv
            subst hVV
            go_wp2_with (first
              | (go_at_call 37; (with_reducible refine (cF _).mono ?_); rintro e w1 ⟨rfl, rfl⟩)
              | (go_at_call 39; (with_reducible refine (cS _).mono ?_); rintro e w2 ⟨rfl, hb2⟩; have HB2 := Lib.hid (HB.out.trans (hb2.mono HB.out.size)); have HX2 := Lib.hid (HX.out.step hb2); have HT2 := Lib.hid (HT1.out.step hb2); have HF2 := Lib.hid (HFA.out.step hb2); have p0b := cell_below p0 hb2; have p1b := cell_below p1 hb2; clear hb2 cS cF p0 p1))
            have cY := fun n => (cX (w2.drewN n) (Lib.hid (HT2.out.step (below_drewQ (Below.refl _ w2) n)))).mono (fun e w' (hh : _ ∧ _ = w') => (⟨hh.1, hh.2.symm⟩ : _ ∧ w' = w2.drewN n))
            clear cX
            go_quiet ((go_at_call 36; with_reducible exact Calls.quiet_of_same (cY _)))
            have HB3 := Lib.hid (below_drewQ HB2.out nq)
            have HX3 := Lib.hid (HX2.out.step (below_drewQ (Below.refl _ w2) nq))
            have p1c := cell_below p1b (below_drewQ (Below.refl _ w2) nq)
            clear cY p0b p1b HT2 HF2 HX2 HB2 
            generalize w2.drewN nq = w3 at HB3 HX3 p1c  ⊢
            obtain ⟨z0, z1, z2, z3, zf⟩ := HX3.out.all
            go_wp2_with (first
              | (go_at_call 111; (with_reducible refine (cV _).mono ?_); rintro e w4 ⟨rfl, hb4⟩; have HB4 := Lib.hid (HB3.out.trans (hb4.mono HB3.out.size)); have HX4 := Lib.hid (HX3.out.step hb4); clear hb4 cV z0 z1 z2 z3 zf; obtain ⟨z0, z1, z2, z3, zf⟩ := HX4.out.all)
              | (go_at_call 112; (with_reducible refine (cT _).mono ?_); rintro e w5 ⟨rfl, hb5⟩; have HB5 := Lib.hid (HB3.out.trans (hb5.mono HB3.out.size)); have HX5 := Lib.hid (HX3.out.step hb5); clear hb5 cT z0 z1 z2 z3 zf; obtain ⟨z0, z1, z2, z3, zf⟩ := HX5.out.all))
            rw [HI.out]
            exact bodyPost_ret (results_one rfl _ _ w.heap.size _ _ _ _ rfl (set_four HX5.out)) rfl (by exact Exists.intro q (And.intro (congrArg (fun z => Ending.returned (Value.tuple #[z, .bool (!nb)])) HA.out) (And.intro HQ.out (below_four HB5.out (Nat.le_refl _) _ _ _ _))))
        · have g1 : ((A : Int) + 1 == (t.text.length : Int)) = false := beq_eq_false_iff_ne.2 (fun e => hr0 (List.eq_nil_of_length_eq_zero (by omega)))
          obtain ⟨VL, hVL⟩ : ∃ VL, pairV (behind 61 t.text) (l.drop (k + 1)) = VL := ⟨_, rfl⟩
          have hvv : behind 61 t.text ++ joinL (l.drop (k + 1)) = VL := by rw [← hVL, pairV_plain (fun x hx hc => hr0 hc.1)]
          obtain ⟨q, hq⟩ : ∃ q, toldP numF NL VL = q := ⟨_, rfl⟩
          have cT := fun W => rtold_any (strL NL) (strL VL) (by rw [strL_size]; omega) W
          rw [strL_list, strL_list, hq, one_open] at cT
          have HQ := Lib.hid (show ∀ p, R = some p → p = q by rw [← hq, ← hVL]; exact HRS.out.2)
          have HI := Lib.hid HRS.out.1
          have hVV : strL (behind 61 t.text) ++ strL (joinL (l.drop (k + 1))) = strL VL := bytes_is (by rw [list_append, strL_list, strL_list, strL_list]; exact hvv)
          clear hVL hq HRS ht hit hzz hjd hu1 hu2 hA hNz hbl e2 e3 hT1 hM1
          generalize strL t.text = X at p1 cF R1 R2 hXz
          generalize strL (upC 61 t.text) = X1 at R1 hz1 cS
          generalize strL (behind 61 t.text) = X2 at R2 hz2 hVV
          generalize strL (joinL (l.drop (k + 1))) = X3 at cX hz2 hVV
          generalize strL NL = NM at cS cT hnb
          generalize strL VL = VM at cT hVV
          obtain ⟨y0, hy0⟩ : ∃ y, strL q.name = y := ⟨_, rfl⟩
          obtain ⟨y1, hy1⟩ : ∃ y, secZ q.sec = y := ⟨_, rfl⟩
          obtain ⟨y2, hy2⟩ : ∃ y, q.wide = y := ⟨_, rfl⟩
          obtain ⟨y3, hy3⟩ : ∃ y, strL q.value = y := ⟨_, rfl⟩
          rw [hy0, hy1, hy2, hy3] at cT
          have HA := Lib.hid (show Value.agg #[.string y0, .int .i64 y1, .bool y2, .string y3] = .agg #[.string (strL q.name), .int .i64 (secZ q.sec), .bool q.wide, .string (strL q.value)] by rw [hy0, hy1, hy2, hy3])
          clear hy0 hy1 hy2 hy3
          clear hvv
          subst hVV
          go_wp2_with (first
            | (go_at_call 37; (with_reducible refine (cF _).mono ?_); rintro e w1 ⟨rfl, rfl⟩)
            | (go_at_call 39; (with_reducible refine (cS _).mono ?_); rintro e w2 ⟨rfl, hb2⟩; have HB2 := Lib.hid (HB.out.trans (hb2.mono HB.out.size)); have HX2 := Lib.hid (HX.out.step hb2); have HT2 := Lib.hid (HT1.out.step hb2); have HF2 := Lib.hid (HFA.out.step hb2); have p0b := cell_below p0 hb2; have p1b := cell_below p1 hb2; clear hb2 cS cF p0 p1))
          have cY := fun n => (cX (w2.drewN n) (Lib.hid (HT2.out.step (below_drewQ (Below.refl _ w2) n)))).mono (fun e w' (hh : _ ∧ _ = w') => (⟨hh.1, hh.2.symm⟩ : _ ∧ w' = w2.drewN n))
          clear cX
          go_quiet ((go_at_call 36; with_reducible exact Calls.quiet_of_same (cY _)))
          have HB3 := Lib.hid (below_drewQ HB2.out nq)
          have HX3 := Lib.hid (HX2.out.step (below_drewQ (Below.refl _ w2) nq))
          have p1c := cell_below p1b (below_drewQ (Below.refl _ w2) nq)
          clear cY p0b p1b HT2 HF2 HX2 HB2 
          generalize w2.drewN nq = w3 at HB3 HX3 p1c  ⊢
          obtain ⟨z0, z1, z2, z3, zf⟩ := HX3.out.all
          go_wp2_with (first
            | (go_at_call 111; (with_reducible refine (cV _).mono ?_); rintro e w4 ⟨rfl, hb4⟩; have HB4 := Lib.hid (HB3.out.trans (hb4.mono HB3.out.size)); have HX4 := Lib.hid (HX3.out.step hb4); clear hb4 cV z0 z1 z2 z3 zf; obtain ⟨z0, z1, z2, z3, zf⟩ := HX4.out.all)
            | (go_at_call 112; (with_reducible refine (cT _).mono ?_); rintro e w5 ⟨rfl, hb5⟩; have HB5 := Lib.hid (HB3.out.trans (hb5.mono HB3.out.size)); have HX5 := Lib.hid (HX3.out.step hb5); clear hb5 cT z0 z1 z2 z3 zf; obtain ⟨z0, z1, z2, z3, zf⟩ := HX5.out.all))
          rw [HI.out]
          exact bodyPost_ret (results_one rfl _ _ w.heap.size _ _ _ _ rfl (set_four HX5.out)) rfl (by exact Exists.intro q (And.intro (congrArg (fun z => Ending.returned (Value.tuple #[z, .bool (!nb)])) HA.out) (And.intro HQ.out (below_four HB5.out (Nat.le_refl _) _ _ _ _))))
      · have hpm := pair_miss (num := numF) (pre := T.data.toList) ht hit
        rw [HR.out] at hpm
        have hz1 : T.size + (strL t.text).size ≤ 100000000 := by rw [strL_size]; omega
        have HR2 := Lib.hid (show pairP numF (T ++ strL t.text).data.toList (l.drop (k + 1)) = R by rw [list_append, strL_list]; exact hpm.symm)
        have HZ2 := Lib.hid (show (T ++ strL t.text).size + (joinL (l.drop (k + 1))).length ≤ 800000 by rw [ByteArray.size_append, strL_size]; omega)
        by_cases hk1 : t.kind = 1
        · have e1 : (((t.kind : Nat) : Int) != 1) = false := by rw [hk1]; rfl
          rw [if_neg (fun h => hit ⟨hk1, h⟩)] at cF
          generalize strL t.text = X at p1 cF hz1 HR2 HZ2
          clear ht hjd hzz hit hpm hfa hXz HR HZ
          go_wp2_with (go_at_call 37; (with_reducible refine (cF _).mono ?_); rintro e w1 ⟨rfl, rfl⟩)
          go_roundw
          case rel => exact ⟨k + 1, _, by omega, rfl, by go_num, HR2, HZ2, HB, HX, HT⟩
          case measure => simp [intOf]; omega
        · have e1 : (((t.kind : Nat) : Int) != 1) = true := by rw [bne_iff_ne]; omega
          obtain ⟨fz, hfz⟩ : ∃ fz, (if 61 ∈ t.text then ((upC 61 t.text).length : Int) else -1) = fz := ⟨_, rfl⟩
          rw [hfz] at cF
          generalize strL t.text = X at p1 cF hz1 HR2 HZ2
          clear ht hjd hzz hit hpm hfa hXz HR HZ hfz
          go_wp2_with (go_at_call 37; (with_reducible refine (cF _).mono ?_); rintro e w1 ⟨rfl, rfl⟩)
          go_roundw
          case rel => exact ⟨k + 1, _, by omega, rfl, by go_num, HR2, HZ2, HB, HX, HT⟩
          case measure => simp [intOf]; omega
    · obtain rfl : k = m := by omega
      have hlt' : ¬ (k : Int) < (k : Int) := by omega
      have hr := HR.out
      rw [List.drop_eq_nil_of_le (by rw [HM.out]; exact Nat.le_refl _), pairP] at hr
      subst hr
      obtain ⟨z0, z1, z2, z3, zf⟩ := HX.out.all
      clear HR
      go_wp2_with fail
      exact bodyPost_ret (results_one rfl _ _ w.heap.size _ _ _ _ rfl (set_four HX.out)) rfl (by exact And.intro (Exists.intro (Par.mk [] (some 0) false []) rfl) (below_four HB.out (Nat.le_refl _) _ _ _ _))
end Go.Proofs.YtdinachiiimngaaGreatDoor
