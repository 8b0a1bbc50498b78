/- The reference's Spec: an addr-spec. -/
import Derived.Test.YtgponokcigapaaaDoorKRDots
import Derived.Test.YtgponokcigapaaaDoorK3
namespace Go.Proofs.YtgponokcigapaaaDoor
open Go.ChangeShapes Go.WideShapes Go.ChangeAt Go.RowKit
open TokP AdrP

theorem rkind_word (t : Tok) : (decide (((t.kind : Nat) : Int) = 1) || decide (((t.kind : Nat) : Int) = 2)) = wordT t := by
  unfold wordT
  rw [Bool.eq_iff_iff, Bool.or_eq_true, Bool.or_eq_true, decide_eq_true_iff, decide_eq_true_iff, beq_iff_eq, beq_iff_eq]
  omega
theorem rkind_atom (t : Tok) : (decide (((t.kind : Nat) : Int) = 1) || decide (((t.kind : Nat) : Int) = 1)) = atomT t := by
  unfold atomT
  rw [Bool.eq_iff_iff, Bool.or_eq_true, decide_eq_true_iff, beq_iff_eq]
  omega
theorem rone_byte (A : ByteArray) (j : Nat) (c : UInt8) (hj : j < A.size) (hc : A.data.toList[j]? = some c) : A.extract j (j + 1) = strL [c] := by
  rw [part_of A j (j + 1) (by omega) (by omega), cons_at _ j c hc]
  congr 1
  rw [show j + 1 - j = 1 by omega]; rfl
/-- What the reference's Spec answers. -/
def RSp (R : Option Adr) (w : World) (e : Ending) (w' : World) : Prop := ∃ L D : ByteArray, e = .returned (.tuple #[.agg #[.string ⟨#[]⟩, .string L, .string D], .bool R.isSome]) ∧ (∀ q, R = some q → q = ⟨[], L.data.toList, D.data.toList⟩) ∧ Below w.heap.size w w'
theorem rsp_mk {R : Option Adr} {w w' : World} (L D : ByteArray) {b : Bool} (hb : b = R.isSome) (hq : ∀ q, R = some q → q = ⟨[], L.data.toList, D.data.toList⟩) (h : Below w.heap.size w w') : RSp R w (.returned (.tuple #[.agg #[.string ⟨#[]⟩, .string L, .string D], .bool b])) w' := ⟨L, D, by rw [hb], hq, h⟩
set_option maxRecDepth 100000 in
set_option maxHeartbeats 4000000 in
theorem rspec_p (v : Value) (l : List Tok) (hm : Mod l) (R : Option Adr) (hR : specT l = R) (w : World) (h : Hid (HasT w v l)) :
    Calls Tryd.prog 52 #[v] w fun e w' => RSp R w e w' := by
  have HB := Lib.hid (below_box w (.cells #[.string ⟨#[]⟩, .string ⟨#[]⟩, .string ⟨#[]⟩] 34))
  have HX := Lib.hid (bx_new w ⟨#[]⟩ ⟨#[]⟩ ⟨#[]⟩)
  have HV := Lib.hid h.out
  obtain ⟨a, cp, rfl, _, hf0⟩ := h.out
  obtain ⟨n, hnn⟩ : ∃ n, l.length = n := ⟨_, rfl⟩
  have hn : n ≤ 1000000 := hnn ▸ hm.1
  rw [hnn] at hf0 HV ⊢
  have HN := Lib.hid hnn
  have H := Lib.hid hf0
  have HM := Lib.hid hm
  have HR := Lib.hid hR
  clear hnn hf0 h hm hR
  go_enter Tryd.func52, Tryd.ntmps52
  go_wp2_with fail
  go_loopw [4] (fun x wr => ∃ k : Nat, k ≤ n ∧ x = .int .i64 k ∧ Hid (Below w.heap.size w wr) ∧ Hid (Bx wr w.heap.size ⟨#[]⟩ ⟨#[]⟩ ⟨#[]⟩) ∧ Hid (∀ (i : Nat) (u : Tok), i < k → l[i]? = some u → isS u 64 = false)) (fun x _ => n - (intOf x).toNat)
  case atStart => exact ⟨0, Nat.zero_le _, rfl, HB, HX, fun i _ hi => absurd hi (Nat.not_lt_zero _)⟩
  case round =>
    obtain ⟨k, hk, rfl, HB1, HX1, HF⟩ := hrel
    have F1 : IntKind.i64.wrap ((k : Int) + 1) = (k : Int) + 1 := by rw [IntKind.wrap_i64]; omega
    by_cases hlt : k < n
    · have hlt' : (k : Int) < (n : Int) := by omega
      obtain ⟨g, o, rfl, hfa⟩ := H.out.at (by omega)
      obtain ⟨t, ht⟩ : ∃ t, l[k]? = some t := ⟨_, List.getElem?_eq_getElem (by rw [HN.out]; exact hlt)⟩
      obtain ⟨k0, k1⟩ := hfa.step HB1.out k t ht
      cases h64 : isS t 64 with
      | false =>
        have cI := fun W => ris_tok t 64 false h64 W
        have HF2 := Lib.hid (fun (i : Nat) (u : Tok) (hi : i < k + 1) (hu : l[i]? = some u) => show isS u 64 = false by
          rcases (show i < k ∨ i = k by omega) with h | rfl
          · exact HF.out i u h hu
          · rw [ht] at hu; rw [← Option.some.inj hu]; exact h64)
        generalize strL t.text = X at k1 cI
        generalize ((t.kind : Nat) : Int) = K at k0 cI
        clear h64 ht hfa HF HR HV
        go_wp2_with (go_at_call 51; (with_reducible refine (cI _).mono ?_); rintro e w2 ⟨rfl, hb2⟩; have HB2 := Lib.hid (HB1.out.trans (hb2.mono HB1.out.size)); have HX2 := Lib.hid (HX1.out.step hb2); clear hb2)
        go_roundw
        case rel => exact ⟨k + 1, by omega, by go_num, HB2, HX2, HF2⟩
        case measure => simp [intOf]; omega
      | true =>
        have hkn : ((k : Int) == (n : Int)) = false := beq_eq_false_iff_ne.2 (by omega)
        have cI := fun W => ris_tok t 64 true h64 W
        have hfN : findN 64 l = k := find_hit ht h64 (fun i hi u hu => HF.out i u hi hu)
        obtain ⟨A1, C1, hr1, ht1⟩ := run_sub_to HV.out k k rfl (by omega)
        obtain ⟨j, hj⟩ : ∃ j, k + 1 = j := ⟨_, rfl⟩
        obtain ⟨A2, C2, hr2, ht2⟩ := run_sub_from HV.out j j rfl (by omega)
        have hup : upToS 64 l = l.take k := by rw [up_take, hfN]
        have hfr : fromS 64 l = t :: l.drop j := by
          rw [from_drop, hfN, ← hj]
          obtain ⟨h1, h2⟩ := List.getElem?_eq_some_iff.1 ht
          rw [← h2, ← List.drop_eq_getElem_cons h1]
        have hR := HR.out
        rw [spec_cons hfr, hup] at hR
        have hdl : (l.drop j).length = n - j := by rw [List.length_drop, HN.out]
        obtain ⟨d, hd⟩ : ∃ d, l.drop j = d := ⟨_, rfl⟩
        rw [hd] at hR ht2 hdl
        have hmd : Mod d := hd ▸ HM.out.drop j
        have hmk := HM.out.take k
        obtain ⟨m2, hm2⟩ : ∃ m, n - j = m := ⟨_, rfl⟩
        rw [hm2] at hr2 ht2 hdl
        obtain ⟨R1, hR1⟩ : ∃ R1, dotsT wordT true (l.take k) = R1 := ⟨_, rfl⟩
        obtain ⟨R2, hR2⟩ : ∃ R2, dotsT atomT true d = R2 := ⟨_, rfl⟩
        have c2 := fun W (h : Hid (HasT W (.slice A1 k C1) (l.take k))) => rdots_p _ (l.take k) 1 2 wordT rkind_word hmk.1 hmk.2 R1 hR1 W h
        have c3 := fun W (h : Hid (HasT W (.slice A2 m2 C2) d)) => rdots_p _ d 1 1 atomT rkind_atom hmd.1 hmd.2 R2 hR2 W h
        rw [hR1] at hR
        have HT1 := Lib.hid (ht1.step (HB1.out))
        have HT2 := Lib.hid (ht2.step (HB1.out))
        replace F1 : IntKind.i64.wrap ((k : Int) + 1) = (j : Int) := by rw [IntKind.wrap_i64]; omega
        have F2 : IntKind.i64.wrap ((k : Int) + 2) = (k : Int) + 2 := by rw [IntKind.wrap_i64]; omega
        by_cases hlit : ∃ u, d = [u] ∧ u.kind = 5
        · obtain ⟨u, hu, h5⟩ := hlit
          have hdu : d.length = 1 := by rw [hu]; rfl
          have e1 : ((k : Int) + 2 == (n : Int)) = true := beq_iff_eq.2 (by omega)
          have hju : l[j]? = some u := by
            have := congrArg (fun z => z[0]?) (hd.trans hu)
            simpa using this
          have hjn : j < n := by omega
          have hjn' : (j : Int) < (n : Int) := by omega
          obtain ⟨q0, q1⟩ := hfa.step HB1.out j u hju
          rw [h5] at q0
          have hXz : (strL u.text).size ≤ 1000000 := by rw [strL_size]; exact hmd.2 u (by rw [hu]; exact List.mem_singleton.2 rfl)
          rw [hu, dom_one u h5] at hR
          obtain rfl : none = R2 := by
            rw [← hR2, hu, dotsT, if_neg (by unfold atomT; rw [h5]; decide)]
          have HQ := Lib.hid (strL_list u.text)
          obtain ⟨X, hX⟩ : ∃ X, strL u.text = X := ⟨_, rfl⟩
          rw [hX] at q1 hXz HQ
          obtain ⟨m, hmX⟩ : ∃ m, X.size = m := ⟨_, rfl⟩
          have HXm := Lib.hid hmX
          rw [hmX] at hXz
          generalize strL t.text = Y at k1 cI
          generalize ((t.kind : Nat) : Int) = K at k0 cI
          clear h64 ht hfa HF HR hfN hup hfr hd hdl hmd hmk hm2 hR1 hR2 ht1 ht2 hu h5 hdu hju hX hmX hj HV HM
          cases R1 with
          | none =>
            obtain rfl : none = R := hR
            go_wp2_with (first
              | (go_at_call 51; (with_reducible refine (cI _).mono ?_); rintro e w2 ⟨rfl, hb2⟩; have HB2 := Lib.hid (HB1.out.trans (hb2.mono HB1.out.size)); have HX2 := Lib.hid (HX1.out.step hb2); have HT1b := Lib.hid (HT1.out.step hb2); have HT2b := Lib.hid (HT2.out.step hb2); have q0b := cell_below q0 hb2; have q1b := cell_below q1 hb2; clear q0 q1; clear hb2 cI)
              | (go_at_call 75; (with_reducible refine (c2 _ HT1b).mono ?_); rintro e w3 ⟨T1, rfl, _, hT1, hb3⟩; have HB3 := Lib.hid (HB2.out.trans (hb3.mono HB2.out.size)); have HX3 := Lib.hid (HX2.out.step hb3); have HT2c := Lib.hid (HT2b.out.step hb3); have q0c := cell_below q0b hb3; have q1c := cell_below q1b hb3; clear q0b q1b; replace hT1 := Lib.hid hT1; clear hb3 c2)
              | (go_at_call 75; (with_reducible refine (c3 _ HT2c).mono ?_); rintro e w4 ⟨T2, rfl, _, hT2, hb4⟩; have HB4 := Lib.hid (HB3.out.trans (hb4.mono HB3.out.size)); have HX4 := Lib.hid (HX3.out.step hb4); have q0d := cell_below q0c hb4; have q1d := cell_below q1c hb4; clear q0c q1c; replace hT2 := Lib.hid hT2; clear hb4 c3))
            go_loopw [7, 10] (fun s x wr => ∃ (i : Nat) (D : ByteArray), i ≤ m ∧ s = .string D ∧ x = .int .i64 i ∧ D.size ≤ i ∧ Hid (D.data.toList = (X.data.toList.take i).filter (fun c => !TokP.blank c)) ∧ Hid (Below w.heap.size w wr) ∧ Hid (Bx wr w.heap.size ⟨#[]⟩ ⟨#[]⟩ ⟨#[]⟩)) (fun _ x _ => m - (intOf x).toNat)
            case atStart => exact ⟨0, ⟨#[]⟩, Nat.zero_le _, rfl, rfl, Nat.le_refl _, rfl, HB4, HX4⟩
            case round =>
              obtain ⟨i, D, hi, rfl, rfl, hDz, HD, HB5, HX5⟩ := hrel
              have G1 : IntKind.i64.wrap ((i : Int) + 1) = (i : Int) + 1 := by rw [IntKind.wrap_i64]; omega
              have hmX : X.size = m := HXm.out
              by_cases hil : i < m
              · have hil' : (i : Int) < (m : Int) := by omega
                obtain ⟨c, x, hc, hx, hx2, S1⟩ := run_byte X i (by rw [hmX]; exact hil)
                have hstep := filter_step _ i c hc
                have hbb := blank_bits c x hx
                have S2 := run_slice_str X i (i + 1) ((i : Int) + 1) (by omega) (by omega) (by omega)
                rw [rone_byte X i c (by omega) hc] at S2
                have hz1 : (strL [c]).size = 1 := strL_size _
                have hz : D.size + (strL [c]).size ≤ 2000000 := by omega
                by_cases h9 : (x : Int) = 9
                · have g9 : ((x : Int) != 9) = false := by rw [bne, beq_iff_eq.2 h9]; rfl
                  have HD2 := Lib.hid (show D.data.toList = (X.data.toList.take (i + 1)).filter (fun c => !TokP.blank c) by rw [hstep, hbb, show ((x : Int) == 9) = true from beq_iff_eq.2 h9, HD.out]; simp)
                  clear hstep hbb hc hx hz1 hz S2 h9
                  go_wp2_with fail
                  go_roundw
                  case rel => exact ⟨i + 1, D, by omega, rfl, by go_num, by omega, HD2, HB5, HX5⟩
                  case measure => simp [intOf]; omega
                have g9 : ((x : Int) != 9) = true := by rw [bne, beq_eq_false_iff_ne.2 h9]; rfl
                by_cases h10 : (x : Int) = 10
                · have g10 : ((x : Int) != 10) = false := by rw [bne, beq_iff_eq.2 h10]; rfl
                  have HD2 := Lib.hid (show D.data.toList = (X.data.toList.take (i + 1)).filter (fun c => !TokP.blank c) by rw [hstep, hbb, show ((x : Int) == 10) = true from beq_iff_eq.2 h10, HD.out]; simp)
                  clear hstep hbb hc hx hz1 hz S2 h10 h9
                  go_wp2_with fail
                  go_roundw
                  case rel => exact ⟨i + 1, D, by omega, rfl, by go_num, by omega, HD2, HB5, HX5⟩
                  case measure => simp [intOf]; omega
                have g10 : ((x : Int) != 10) = true := by rw [bne, beq_eq_false_iff_ne.2 h10]; rfl
                by_cases h13 : (x : Int) = 13
                · have g13 : ((x : Int) != 13) = false := by rw [bne, beq_iff_eq.2 h13]; rfl
                  have HD2 := Lib.hid (show D.data.toList = (X.data.toList.take (i + 1)).filter (fun c => !TokP.blank c) by rw [hstep, hbb, show ((x : Int) == 13) = true from beq_iff_eq.2 h13, HD.out]; simp)
                  clear hstep hbb hc hx hz1 hz S2 h13 h9 h10
                  go_wp2_with fail
                  go_roundw
                  case rel => exact ⟨i + 1, D, by omega, rfl, by go_num, by omega, HD2, HB5, HX5⟩
                  case measure => simp [intOf]; omega
                have g13 : ((x : Int) != 13) = true := by rw [bne, beq_eq_false_iff_ne.2 h13]; rfl
                by_cases h32 : (x : Int) = 32
                · have g32 : ((x : Int) != 32) = false := by rw [bne, beq_iff_eq.2 h32]; rfl
                  have HD2 := Lib.hid (show D.data.toList = (X.data.toList.take (i + 1)).filter (fun c => !TokP.blank c) by rw [hstep, hbb, show ((x : Int) == 32) = true from beq_iff_eq.2 h32, HD.out]; simp)
                  clear hstep hbb hc hx hz1 hz S2 h32 h9 h10 h13
                  go_wp2_with fail
                  go_roundw
                  case rel => exact ⟨i + 1, D, by omega, rfl, by go_num, by omega, HD2, HB5, HX5⟩
                  case measure => simp [intOf]; omega
                have g32 : ((x : Int) != 32) = true := by rw [bne, beq_eq_false_iff_ne.2 h32]; rfl
                have HD2 := Lib.hid (show (D ++ strL [c]).data.toList = (X.data.toList.take (i + 1)).filter (fun c => !TokP.blank c) by
                  rw [hstep, hbb, beq_eq_false_iff_ne.2 h9, beq_eq_false_iff_ne.2 h10, beq_eq_false_iff_ne.2 h13, beq_eq_false_iff_ne.2 h32, list_append, strL_list, HD.out]; rfl)
                have hD2z : (D ++ strL [c]).size ≤ i + 1 := by rw [ByteArray.size_append]; omega
                generalize strL [c] = Z at S2 hz hz1 HD2 hD2z
                clear hstep hbb hc hx h9 h10 h13 h32 hz1
                go_wp2_with fail
                go_roundw
                case rel => exact ⟨i + 1, _, by omega, rfl, by go_num, hD2z, HD2, HB5, HX5⟩
                case measure => simp [intOf]; omega
              · obtain rfl : i = m := by omega
                have hil' : ¬ (i : Int) < (i : Int) := by omega
                have HDD := Lib.hid (show D.data.toList = u.text.filter (fun c => !TokP.blank c) by
                  rw [HD.out, List.take_of_length_le (by rw [← size_list, hmX]; exact Nat.le_refl _), HQ.out])
                have k0 := HX5.out.c0
                have k1 := HX5.out.c1
                have k2 := HX5.out.c2
                have kf := HX5.out.fr
                clear HD
                go_wp2_with fail
                exact bodyPost_ret (results_adr rfl _ _ w.heap.size _ _ _ rfl (set_three HX5.out)) rfl (rsp_mk _ _ rfl (fun q hq => absurd hq (by simp)) (below_three HB5.out (Nat.le_refl _) _ _ _))
          | some x1 =>
            obtain rfl : some ⟨[], x1, u.text.filter (fun c => !TokP.blank c)⟩ = R := hR
            go_wp2_with (first
              | (go_at_call 51; (with_reducible refine (cI _).mono ?_); rintro e w2 ⟨rfl, hb2⟩; have HB2 := Lib.hid (HB1.out.trans (hb2.mono HB1.out.size)); have HX2 := Lib.hid (HX1.out.step hb2); have HT1b := Lib.hid (HT1.out.step hb2); have HT2b := Lib.hid (HT2.out.step hb2); have q0b := cell_below q0 hb2; have q1b := cell_below q1 hb2; clear q0 q1; clear hb2 cI)
              | (go_at_call 75; (with_reducible refine (c2 _ HT1b).mono ?_); rintro e w3 ⟨T1, rfl, _, hT1, hb3⟩; have HB3 := Lib.hid (HB2.out.trans (hb3.mono HB2.out.size)); have HX3 := Lib.hid (HX2.out.step hb3); have HT2c := Lib.hid (HT2b.out.step hb3); have q0c := cell_below q0b hb3; have q1c := cell_below q1b hb3; clear q0b q1b; replace hT1 := Lib.hid hT1; clear hb3 c2)
              | (go_at_call 75; (with_reducible refine (c3 _ HT2c).mono ?_); rintro e w4 ⟨T2, rfl, _, hT2, hb4⟩; have HB4 := Lib.hid (HB3.out.trans (hb4.mono HB3.out.size)); have HX4 := Lib.hid (HX3.out.step hb4); have q0d := cell_below q0c hb4; have q1d := cell_below q1c hb4; clear q0c q1c; replace hT2 := Lib.hid hT2; clear hb4 c3))
            go_loopw [7, 10] (fun s x wr => ∃ (i : Nat) (D : ByteArray), i ≤ m ∧ s = .string D ∧ x = .int .i64 i ∧ D.size ≤ i ∧ Hid (D.data.toList = (X.data.toList.take i).filter (fun c => !TokP.blank c)) ∧ Hid (Below w.heap.size w wr) ∧ Hid (Bx wr w.heap.size ⟨#[]⟩ ⟨#[]⟩ ⟨#[]⟩)) (fun _ x _ => m - (intOf x).toNat)
            case atStart => exact ⟨0, ⟨#[]⟩, Nat.zero_le _, rfl, rfl, Nat.le_refl _, rfl, HB4, HX4⟩
            case round =>
              obtain ⟨i, D, hi, rfl, rfl, hDz, HD, HB5, HX5⟩ := hrel
              have G1 : IntKind.i64.wrap ((i : Int) + 1) = (i : Int) + 1 := by rw [IntKind.wrap_i64]; omega
              have hmX : X.size = m := HXm.out
              by_cases hil : i < m
              · have hil' : (i : Int) < (m : Int) := by omega
                obtain ⟨c, x, hc, hx, hx2, S1⟩ := run_byte X i (by rw [hmX]; exact hil)
                have hstep := filter_step _ i c hc
                have hbb := blank_bits c x hx
                have S2 := run_slice_str X i (i + 1) ((i : Int) + 1) (by omega) (by omega) (by omega)
                rw [rone_byte X i c (by omega) hc] at S2
                have hz1 : (strL [c]).size = 1 := strL_size _
                have hz : D.size + (strL [c]).size ≤ 2000000 := by omega
                by_cases h9 : (x : Int) = 9
                · have g9 : ((x : Int) != 9) = false := by rw [bne, beq_iff_eq.2 h9]; rfl
                  have HD2 := Lib.hid (show D.data.toList = (X.data.toList.take (i + 1)).filter (fun c => !TokP.blank c) by rw [hstep, hbb, show ((x : Int) == 9) = true from beq_iff_eq.2 h9, HD.out]; simp)
                  clear hstep hbb hc hx hz1 hz S2 h9
                  go_wp2_with fail
                  go_roundw
                  case rel => exact ⟨i + 1, D, by omega, rfl, by go_num, by omega, HD2, HB5, HX5⟩
                  case measure => simp [intOf]; omega
                have g9 : ((x : Int) != 9) = true := by rw [bne, beq_eq_false_iff_ne.2 h9]; rfl
                by_cases h10 : (x : Int) = 10
                · have g10 : ((x : Int) != 10) = false := by rw [bne, beq_iff_eq.2 h10]; rfl
                  have HD2 := Lib.hid (show D.data.toList = (X.data.toList.take (i + 1)).filter (fun c => !TokP.blank c) by rw [hstep, hbb, show ((x : Int) == 10) = true from beq_iff_eq.2 h10, HD.out]; simp)
                  clear hstep hbb hc hx hz1 hz S2 h10 h9
                  go_wp2_with fail
                  go_roundw
                  case rel => exact ⟨i + 1, D, by omega, rfl, by go_num, by omega, HD2, HB5, HX5⟩
                  case measure => simp [intOf]; omega
                have g10 : ((x : Int) != 10) = true := by rw [bne, beq_eq_false_iff_ne.2 h10]; rfl
                by_cases h13 : (x : Int) = 13
                · have g13 : ((x : Int) != 13) = false := by rw [bne, beq_iff_eq.2 h13]; rfl
                  have HD2 := Lib.hid (show D.data.toList = (X.data.toList.take (i + 1)).filter (fun c => !TokP.blank c) by rw [hstep, hbb, show ((x : Int) == 13) = true from beq_iff_eq.2 h13, HD.out]; simp)
                  clear hstep hbb hc hx hz1 hz S2 h13 h9 h10
                  go_wp2_with fail
                  go_roundw
                  case rel => exact ⟨i + 1, D, by omega, rfl, by go_num, by omega, HD2, HB5, HX5⟩
                  case measure => simp [intOf]; omega
                have g13 : ((x : Int) != 13) = true := by rw [bne, beq_eq_false_iff_ne.2 h13]; rfl
                by_cases h32 : (x : Int) = 32
                · have g32 : ((x : Int) != 32) = false := by rw [bne, beq_iff_eq.2 h32]; rfl
                  have HD2 := Lib.hid (show D.data.toList = (X.data.toList.take (i + 1)).filter (fun c => !TokP.blank c) by rw [hstep, hbb, show ((x : Int) == 32) = true from beq_iff_eq.2 h32, HD.out]; simp)
                  clear hstep hbb hc hx hz1 hz S2 h32 h9 h10 h13
                  go_wp2_with fail
                  go_roundw
                  case rel => exact ⟨i + 1, D, by omega, rfl, by go_num, by omega, HD2, HB5, HX5⟩
                  case measure => simp [intOf]; omega
                have g32 : ((x : Int) != 32) = true := by rw [bne, beq_eq_false_iff_ne.2 h32]; rfl
                have HD2 := Lib.hid (show (D ++ strL [c]).data.toList = (X.data.toList.take (i + 1)).filter (fun c => !TokP.blank c) by
                  rw [hstep, hbb, beq_eq_false_iff_ne.2 h9, beq_eq_false_iff_ne.2 h10, beq_eq_false_iff_ne.2 h13, beq_eq_false_iff_ne.2 h32, list_append, strL_list, HD.out]; rfl)
                have hD2z : (D ++ strL [c]).size ≤ i + 1 := by rw [ByteArray.size_append]; omega
                generalize strL [c] = Z at S2 hz hz1 HD2 hD2z
                clear hstep hbb hc hx h9 h10 h13 h32 hz1
                go_wp2_with fail
                go_roundw
                case rel => exact ⟨i + 1, _, by omega, rfl, by go_num, hD2z, HD2, HB5, HX5⟩
                case measure => simp [intOf]; omega
              · obtain rfl : i = m := by omega
                have hil' : ¬ (i : Int) < (i : Int) := by omega
                have HDD := Lib.hid (show D.data.toList = u.text.filter (fun c => !TokP.blank c) by
                  rw [HD.out, List.take_of_length_le (by rw [← size_list, hmX]; exact Nat.le_refl _), HQ.out])
                have k0 := HX5.out.c0
                have k1 := HX5.out.c1
                have k2 := HX5.out.c2
                have kf := HX5.out.fr
                clear HD
                go_wp2_with fail
                exact bodyPost_ret (results_adr rfl _ _ w.heap.size _ _ _ rfl (set_three HX5.out)) rfl (rsp_mk _ _ rfl (fun q hq => by rw [← Option.some.inj hq, HDD.out, hT1.out _ rfl, strL_list]) (below_three HB5.out (Nat.le_refl _) _ _ _))
        · have hdm : domT d = R2 := by rw [← hR2]; exact dom_else d (fun u hu h5 => hlit ⟨u, hu, h5⟩)
          rw [hdm] at hR
          by_cases hone : d.length = 1
          · obtain ⟨u, hu⟩ := List.length_eq_one_iff.1 hone
            have h5 : u.kind ≠ 5 := fun h => hlit ⟨u, hu, h⟩
            have e1 : ((k : Int) + 2 == (n : Int)) = true := beq_iff_eq.2 (by omega)
            have hju : l[j]? = some u := by
              have := congrArg (fun z => z[0]?) (hd.trans hu)
              simpa using this
            have hjn : j < n := by omega
            have hjn' : (j : Int) < (n : Int) := by omega
            obtain ⟨q0, q1⟩ := hfa.step HB1.out j u hju
            have e5 : (((u.kind : Nat) : Int) == 5) = false := beq_eq_false_iff_ne.2 (by omega)
            generalize strL u.text = X at q1
            generalize ((u.kind : Nat) : Int) = K2 at q0 e5
            generalize strL t.text = Y at k1 cI
            generalize ((t.kind : Nat) : Int) = K at k0 cI
            clear h64 ht hfa HF HR hfN hup hfr hd hdl hmd hmk hm2 hR1 hR2 ht1 ht2 hu h5 hju hj HV HM hlit hdm hone
            cases R1 with
            | none =>
              cases R2 with
              | none =>
                obtain rfl : none = R := hR
                go_wp2_with (first
                  | (go_at_call 51; (with_reducible refine (cI _).mono ?_); rintro e w2 ⟨rfl, hb2⟩; have HB2 := Lib.hid (HB1.out.trans (hb2.mono HB1.out.size)); have HX2 := Lib.hid (HX1.out.step hb2); have HT1b := Lib.hid (HT1.out.step hb2); have HT2b := Lib.hid (HT2.out.step hb2); have q0b := cell_below q0 hb2; have q1b := cell_below q1 hb2; clear q0 q1; clear hb2 cI)
                  | (go_at_call 75; (with_reducible refine (c2 _ HT1b).mono ?_); rintro e w3 ⟨T1, rfl, _, hT1, hb3⟩; have HB3 := Lib.hid (HB2.out.trans (hb3.mono HB2.out.size)); have HX3 := Lib.hid (HX2.out.step hb3); have HT2c := Lib.hid (HT2b.out.step hb3); have q0c := cell_below q0b hb3; have q1c := cell_below q1b hb3; clear q0b q1b; replace hT1 := Lib.hid hT1; clear hb3 c2)
                  | (go_at_call 75; (with_reducible refine (c3 _ HT2c).mono ?_); rintro e w4 ⟨T2, rfl, _, hT2, hb4⟩; have HB4 := Lib.hid (HB3.out.trans (hb4.mono HB3.out.size)); have HX4 := Lib.hid (HX3.out.step hb4); have q0d := cell_below q0c hb4; have q1d := cell_below q1c hb4; clear q0c q1c; replace hT2 := Lib.hid hT2; clear hb4 c3; have k0 := HX4.out.c0; have k1 := HX4.out.c1; have k2 := HX4.out.c2; have kf := HX4.out.fr))
                exact bodyPost_ret (results_adr rfl _ _ w.heap.size _ _ _ rfl (set_three HX4.out)) rfl (rsp_mk _ _ rfl (fun q hq => absurd hq (by simp)) (below_three HB4.out (Nat.le_refl _) _ _ _))
              | some x2 =>
                obtain rfl : none = R := hR
                go_wp2_with (first
                  | (go_at_call 51; (with_reducible refine (cI _).mono ?_); rintro e w2 ⟨rfl, hb2⟩; have HB2 := Lib.hid (HB1.out.trans (hb2.mono HB1.out.size)); have HX2 := Lib.hid (HX1.out.step hb2); have HT1b := Lib.hid (HT1.out.step hb2); have HT2b := Lib.hid (HT2.out.step hb2); have q0b := cell_below q0 hb2; have q1b := cell_below q1 hb2; clear q0 q1; clear hb2 cI)
                  | (go_at_call 75; (with_reducible refine (c2 _ HT1b).mono ?_); rintro e w3 ⟨T1, rfl, _, hT1, hb3⟩; have HB3 := Lib.hid (HB2.out.trans (hb3.mono HB2.out.size)); have HX3 := Lib.hid (HX2.out.step hb3); have HT2c := Lib.hid (HT2b.out.step hb3); have q0c := cell_below q0b hb3; have q1c := cell_below q1b hb3; clear q0b q1b; replace hT1 := Lib.hid hT1; clear hb3 c2)
                  | (go_at_call 75; (with_reducible refine (c3 _ HT2c).mono ?_); rintro e w4 ⟨T2, rfl, _, hT2, hb4⟩; have HB4 := Lib.hid (HB3.out.trans (hb4.mono HB3.out.size)); have HX4 := Lib.hid (HX3.out.step hb4); have q0d := cell_below q0c hb4; have q1d := cell_below q1c hb4; clear q0c q1c; replace hT2 := Lib.hid hT2; clear hb4 c3; have k0 := HX4.out.c0; have k1 := HX4.out.c1; have k2 := HX4.out.c2; have kf := HX4.out.fr))
                exact bodyPost_ret (results_adr rfl _ _ w.heap.size _ _ _ rfl (set_three HX4.out)) rfl (rsp_mk _ _ rfl (fun q hq => absurd hq (by simp)) (below_three HB4.out (Nat.le_refl _) _ _ _))
            | some x1 =>
              cases R2 with
              | none =>
                obtain rfl : none = R := hR
                go_wp2_with (first
                  | (go_at_call 51; (with_reducible refine (cI _).mono ?_); rintro e w2 ⟨rfl, hb2⟩; have HB2 := Lib.hid (HB1.out.trans (hb2.mono HB1.out.size)); have HX2 := Lib.hid (HX1.out.step hb2); have HT1b := Lib.hid (HT1.out.step hb2); have HT2b := Lib.hid (HT2.out.step hb2); have q0b := cell_below q0 hb2; have q1b := cell_below q1 hb2; clear q0 q1; clear hb2 cI)
                  | (go_at_call 75; (with_reducible refine (c2 _ HT1b).mono ?_); rintro e w3 ⟨T1, rfl, _, hT1, hb3⟩; have HB3 := Lib.hid (HB2.out.trans (hb3.mono HB2.out.size)); have HX3 := Lib.hid (HX2.out.step hb3); have HT2c := Lib.hid (HT2b.out.step hb3); have q0c := cell_below q0b hb3; have q1c := cell_below q1b hb3; clear q0b q1b; replace hT1 := Lib.hid hT1; clear hb3 c2)
                  | (go_at_call 75; (with_reducible refine (c3 _ HT2c).mono ?_); rintro e w4 ⟨T2, rfl, _, hT2, hb4⟩; have HB4 := Lib.hid (HB3.out.trans (hb4.mono HB3.out.size)); have HX4 := Lib.hid (HX3.out.step hb4); have q0d := cell_below q0c hb4; have q1d := cell_below q1c hb4; clear q0c q1c; replace hT2 := Lib.hid hT2; clear hb4 c3; have k0 := HX4.out.c0; have k1 := HX4.out.c1; have k2 := HX4.out.c2; have kf := HX4.out.fr))
                exact bodyPost_ret (results_adr rfl _ _ w.heap.size _ _ _ rfl (set_three HX4.out)) rfl (rsp_mk _ _ rfl (fun q hq => absurd hq (by simp)) (below_three HB4.out (Nat.le_refl _) _ _ _))
              | some x2 =>
                obtain rfl : some ⟨[], x1, x2⟩ = R := hR
                go_wp2_with (first
                  | (go_at_call 51; (with_reducible refine (cI _).mono ?_); rintro e w2 ⟨rfl, hb2⟩; have HB2 := Lib.hid (HB1.out.trans (hb2.mono HB1.out.size)); have HX2 := Lib.hid (HX1.out.step hb2); have HT1b := Lib.hid (HT1.out.step hb2); have HT2b := Lib.hid (HT2.out.step hb2); have q0b := cell_below q0 hb2; have q1b := cell_below q1 hb2; clear q0 q1; clear hb2 cI)
                  | (go_at_call 75; (with_reducible refine (c2 _ HT1b).mono ?_); rintro e w3 ⟨T1, rfl, _, hT1, hb3⟩; have HB3 := Lib.hid (HB2.out.trans (hb3.mono HB2.out.size)); have HX3 := Lib.hid (HX2.out.step hb3); have HT2c := Lib.hid (HT2b.out.step hb3); have q0c := cell_below q0b hb3; have q1c := cell_below q1b hb3; clear q0b q1b; replace hT1 := Lib.hid hT1; clear hb3 c2)
                  | (go_at_call 75; (with_reducible refine (c3 _ HT2c).mono ?_); rintro e w4 ⟨T2, rfl, _, hT2, hb4⟩; have HB4 := Lib.hid (HB3.out.trans (hb4.mono HB3.out.size)); have HX4 := Lib.hid (HX3.out.step hb4); have q0d := cell_below q0c hb4; have q1d := cell_below q1c hb4; clear q0c q1c; replace hT2 := Lib.hid hT2; clear hb4 c3; have k0 := HX4.out.c0; have k1 := HX4.out.c1; have k2 := HX4.out.c2; have kf := HX4.out.fr))
                exact bodyPost_ret (results_adr rfl _ _ w.heap.size _ _ _ rfl (set_three HX4.out)) rfl (rsp_mk _ _ rfl (fun q hq => by rw [← Option.some.inj hq, hT1.out _ rfl, hT2.out _ rfl, strL_list, strL_list]) (below_three HB4.out (Nat.le_refl _) _ _ _))
          · have e1 : ((k : Int) + 2 == (n : Int)) = false := beq_eq_false_iff_ne.2 (by omega)
            generalize strL t.text = Y at k1 cI
            generalize ((t.kind : Nat) : Int) = K at k0 cI
            clear h64 ht hfa HF HR hfN hup hfr hd hdl hmd hmk hm2 hR1 hR2 ht1 ht2 hj HV HM hlit hdm hone
            cases R1 with
            | none =>
              cases R2 with
              | none =>
                obtain rfl : none = R := hR
                go_wp2_with (first
                  | (go_at_call 51; (with_reducible refine (cI _).mono ?_); rintro e w2 ⟨rfl, hb2⟩; have HB2 := Lib.hid (HB1.out.trans (hb2.mono HB1.out.size)); have HX2 := Lib.hid (HX1.out.step hb2); have HT1b := Lib.hid (HT1.out.step hb2); have HT2b := Lib.hid (HT2.out.step hb2); clear hb2 cI)
                  | (go_at_call 75; (with_reducible refine (c2 _ HT1b).mono ?_); rintro e w3 ⟨T1, rfl, _, hT1, hb3⟩; have HB3 := Lib.hid (HB2.out.trans (hb3.mono HB2.out.size)); have HX3 := Lib.hid (HX2.out.step hb3); have HT2c := Lib.hid (HT2b.out.step hb3); replace hT1 := Lib.hid hT1; clear hb3 c2)
                  | (go_at_call 75; (with_reducible refine (c3 _ HT2c).mono ?_); rintro e w4 ⟨T2, rfl, _, hT2, hb4⟩; have HB4 := Lib.hid (HB3.out.trans (hb4.mono HB3.out.size)); have HX4 := Lib.hid (HX3.out.step hb4); replace hT2 := Lib.hid hT2; clear hb4 c3; have k0 := HX4.out.c0; have k1 := HX4.out.c1; have k2 := HX4.out.c2; have kf := HX4.out.fr))
                exact bodyPost_ret (results_adr rfl _ _ w.heap.size _ _ _ rfl (set_three HX4.out)) rfl (rsp_mk _ _ rfl (fun q hq => absurd hq (by simp)) (below_three HB4.out (Nat.le_refl _) _ _ _))
              | some x2 =>
                obtain rfl : none = R := hR
                go_wp2_with (first
                  | (go_at_call 51; (with_reducible refine (cI _).mono ?_); rintro e w2 ⟨rfl, hb2⟩; have HB2 := Lib.hid (HB1.out.trans (hb2.mono HB1.out.size)); have HX2 := Lib.hid (HX1.out.step hb2); have HT1b := Lib.hid (HT1.out.step hb2); have HT2b := Lib.hid (HT2.out.step hb2); clear hb2 cI)
                  | (go_at_call 75; (with_reducible refine (c2 _ HT1b).mono ?_); rintro e w3 ⟨T1, rfl, _, hT1, hb3⟩; have HB3 := Lib.hid (HB2.out.trans (hb3.mono HB2.out.size)); have HX3 := Lib.hid (HX2.out.step hb3); have HT2c := Lib.hid (HT2b.out.step hb3); replace hT1 := Lib.hid hT1; clear hb3 c2)
                  | (go_at_call 75; (with_reducible refine (c3 _ HT2c).mono ?_); rintro e w4 ⟨T2, rfl, _, hT2, hb4⟩; have HB4 := Lib.hid (HB3.out.trans (hb4.mono HB3.out.size)); have HX4 := Lib.hid (HX3.out.step hb4); replace hT2 := Lib.hid hT2; clear hb4 c3; have k0 := HX4.out.c0; have k1 := HX4.out.c1; have k2 := HX4.out.c2; have kf := HX4.out.fr))
                exact bodyPost_ret (results_adr rfl _ _ w.heap.size _ _ _ rfl (set_three HX4.out)) rfl (rsp_mk _ _ rfl (fun q hq => absurd hq (by simp)) (below_three HB4.out (Nat.le_refl _) _ _ _))
            | some x1 =>
              cases R2 with
              | none =>
                obtain rfl : none = R := hR
                go_wp2_with (first
                  | (go_at_call 51; (with_reducible refine (cI _).mono ?_); rintro e w2 ⟨rfl, hb2⟩; have HB2 := Lib.hid (HB1.out.trans (hb2.mono HB1.out.size)); have HX2 := Lib.hid (HX1.out.step hb2); have HT1b := Lib.hid (HT1.out.step hb2); have HT2b := Lib.hid (HT2.out.step hb2); clear hb2 cI)
                  | (go_at_call 75; (with_reducible refine (c2 _ HT1b).mono ?_); rintro e w3 ⟨T1, rfl, _, hT1, hb3⟩; have HB3 := Lib.hid (HB2.out.trans (hb3.mono HB2.out.size)); have HX3 := Lib.hid (HX2.out.step hb3); have HT2c := Lib.hid (HT2b.out.step hb3); replace hT1 := Lib.hid hT1; clear hb3 c2)
                  | (go_at_call 75; (with_reducible refine (c3 _ HT2c).mono ?_); rintro e w4 ⟨T2, rfl, _, hT2, hb4⟩; have HB4 := Lib.hid (HB3.out.trans (hb4.mono HB3.out.size)); have HX4 := Lib.hid (HX3.out.step hb4); replace hT2 := Lib.hid hT2; clear hb4 c3; have k0 := HX4.out.c0; have k1 := HX4.out.c1; have k2 := HX4.out.c2; have kf := HX4.out.fr))
                exact bodyPost_ret (results_adr rfl _ _ w.heap.size _ _ _ rfl (set_three HX4.out)) rfl (rsp_mk _ _ rfl (fun q hq => absurd hq (by simp)) (below_three HB4.out (Nat.le_refl _) _ _ _))
              | some x2 =>
                obtain rfl : some ⟨[], x1, x2⟩ = R := hR
                go_wp2_with (first
                  | (go_at_call 51; (with_reducible refine (cI _).mono ?_); rintro e w2 ⟨rfl, hb2⟩; have HB2 := Lib.hid (HB1.out.trans (hb2.mono HB1.out.size)); have HX2 := Lib.hid (HX1.out.step hb2); have HT1b := Lib.hid (HT1.out.step hb2); have HT2b := Lib.hid (HT2.out.step hb2); clear hb2 cI)
                  | (go_at_call 75; (with_reducible refine (c2 _ HT1b).mono ?_); rintro e w3 ⟨T1, rfl, _, hT1, hb3⟩; have HB3 := Lib.hid (HB2.out.trans (hb3.mono HB2.out.size)); have HX3 := Lib.hid (HX2.out.step hb3); have HT2c := Lib.hid (HT2b.out.step hb3); replace hT1 := Lib.hid hT1; clear hb3 c2)
                  | (go_at_call 75; (with_reducible refine (c3 _ HT2c).mono ?_); rintro e w4 ⟨T2, rfl, _, hT2, hb4⟩; have HB4 := Lib.hid (HB3.out.trans (hb4.mono HB3.out.size)); have HX4 := Lib.hid (HX3.out.step hb4); replace hT2 := Lib.hid hT2; clear hb4 c3; have k0 := HX4.out.c0; have k1 := HX4.out.c1; have k2 := HX4.out.c2; have kf := HX4.out.fr))
                exact bodyPost_ret (results_adr rfl _ _ w.heap.size _ _ _ rfl (set_three HX4.out)) rfl (rsp_mk _ _ rfl (fun q hq => by rw [← Option.some.inj hq, hT1.out _ rfl, hT2.out _ rfl, strL_list, strL_list]) (below_three HB4.out (Nat.le_refl _) _ _ _))
    · obtain rfl : k = n := by omega
      have hlt' : ¬ (k : Int) < (k : Int) := by omega
      have hno : fromS 64 l = [] := by
        rw [from_drop, find_no (fun i u hu => HF.out i u (by have := (List.getElem?_eq_some_iff.1 hu).1; rw [HN.out] at this; exact this) hu), List.drop_length]
      obtain rfl : none = R := (spec_nil hno).symm.trans HR.out
      have k0 := HX1.out.c0
      have k1 := HX1.out.c1
      have k2 := HX1.out.c2
      have kf := HX1.out.fr
      clear HF hno HR HV HM
      go_wp2_with fail
      exact bodyPost_ret (results_adr rfl _ _ w.heap.size ⟨#[]⟩ ⟨#[]⟩ ⟨#[]⟩ rfl (set_three HX1.out)) rfl (rsp_mk _ _ rfl (fun q hq => absurd hq (by simp)) (below_three HB1.out (Nat.le_refl _) _ _ _))
end Go.Proofs.YtgponokcigapaaaDoor
