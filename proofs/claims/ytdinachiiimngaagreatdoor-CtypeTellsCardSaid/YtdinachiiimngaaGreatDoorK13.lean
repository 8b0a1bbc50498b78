/- The reference's Parse and Disposition. CtypeTells. -/
import Derived.Test.YtdinachiiimngaaGreatDoorK4
import Derived.Test.YtdinachiiimngaaGreatDoorK11
import Derived.Test.YtdinachiiimngaaGreatDoorK12
import Derived.Test.YtdinachiiimngaaGreatDoorK9
import Derived.Test.YtdinachiiimngaaGreatDoorKCsRefE
import Derived.Test.YtdinachiiimngaaGreatDoorKCtBackL
namespace Go.Proofs.YtdinachiiimngaaGreatDoor
open Go.ChangeShapes Go.WideShapes Go.ChangeAt Go.RowKit
open TokP AdrP CtP

theorem runhex_ok : RUnhexOk := by
  intro s hs W
  have c := Nu.unhexR_any s (by omega) W
  have hz := size_list s
  rw [hs] at hz
  generalize s.data.toList = l at c hz ⊢
  obtain ⟨a, b, rfl⟩ : ∃ a b, l = [a, b] := by
    match l, hz with
    | [a, b], _ => exact ⟨a, b, rfl⟩
  obtain ⟨h1, h2⟩ := unhex_two a b
  rw [h1] at c
  refine c.mono fun e w' h => ⟨_, h.1, fun b hb => ?_, h.2⟩
  rw [h2 b hb]; rfl
theorem rrepair_ok : RRepairOk repF := fun s hs W => Cs.repairR_any s hs (strL (repF s.data.toList)) (strL_list _) W
theorem rdecode_ok : RDecodeOk decF := fun n s hn hs W => (Cs.decR_any n s (strL (decF n.data.toList s.data.toList)) _ hn hs (strL_list _) rfl W).mono fun _ _ h => ⟨_, h.1, h.2⟩
theorem parse_form (S : List UInt8) (r : List TokP.Tok) (rs : List (List TokP.Tok)) (hrow : rowsT [] (bareT (scanL S)) = r :: rs) : parseC repF decF numF S = if 47 ∈ joinL r ∧ wordW (upC 47 (joinL r)) = true ∧ wordW (behind 47 (joinL r)) = true then (((upC 47 (joinL r)).map lowA, (behind 47 (joinL r)).map lowA, listP repF decF numF rs), true) else (textPlain, false) := by
  unfold parseC
  rw [hrow]
  rfl
set_option maxRecDepth 100000 in
set_option maxHeartbeats 8000000 in
theorem rparse_c (S : ByteArray) (hS : S.size ≤ 9000) (w : World) :
    Calls Tryz.prog 11 #[.string S] w fun e w' => ∃ a c, e = .returned (.tuple #[.agg #[.string (strL (parseC repF decF numF S.data.toList).1.1), .string (strL (parseC repF decF numF S.data.toList).1.2.1), .slice a (parseC repF decF numF S.data.toList).1.2.2.length c], .bool (parseC repF decF numF S.data.toList).2]) ∧ OwnP w' (.slice a (parseC repF decF numF S.data.toList).1.2.2.length c) (parseC repF decF numF S.data.toList).1.2.2 ∧ Below w.heap.size w w' := by
  obtain ⟨r, rs, hrow, hlen, heach, hsum⟩ := rows_known S (by omega)
  have hD := parse_form _ r rs hrow
  rw [hD]
  obtain ⟨N, hN⟩ : ∃ N, (r :: rs).length = N := ⟨_, rfl⟩
  have cR := fun W => rrows_s S (by omega) (r :: rs) hrow N hN W
  have hz : (joinL r).length ≤ 9000 := by
    have := row_le (rows := r :: rs) (r := r) (by simp)
    omega
  have hz2 : szR rs ≤ 9000 := by
    have h3 : szR (r :: rs) = (joinL r).length + szR rs := by unfold szR; rw [List.map_cons, List.sum_cons]
    omega
  have hlb := rowsT_len (bareT (scanL S.data.toList)) []
  have hle := rowsT_each (bareT (scanL S.data.toList)) []
  rw [hrow] at hlb hle
  have hbl := bare_len (scanL S.data.toList) (scanL S.data.toList).length
  rw [List.take_length] at hbl
  have hbl2 : (bareT (scanL S.data.toList)).length ≤ (scanL S.data.toList).length := hbl
  have hsl := scan_len S.data.toList
  rw [← size_list] at hsl
  have hNz : N ≤ 9001 := by omega
  have heach2 : ∀ x ∈ r :: rs, x.length ≤ 9000 := fun x hx => by
    have := hle x hx
    rw [List.length_nil] at this
    omega
  have cJ := fun W u (h : Hid (HasT W u r)) => (rtext_any u r W h.out.hasF (by omega) (by have := heach2 r (by simp); omega)).mono (fun e w' hh => (⟨hh.1, hh.2 ▸ Below.refl _ _⟩ : e = .returned (.string (strL (joinL r))) ∧ Below W.heap.size W w'))
  have cF := fun W => rfind_any (strL (joinL r)) 47 47 rfl (by rw [strL_size]; omega) W
  rw [strL_list] at cF
  unfold findZ at cF
  simp only [show ((47 : Nat) : Int) = 47 from rfl] at cF
  have cP := fun v W (h : Hid (RwsAt W v rs)) => rlist_any runhex_ok rrepair_ok rdecode_ok v rs (by rw [List.length_cons] at hN; omega) (fun x hx => by have := heach2 x (by simp [hx]); omega) (by omega) (listP repF decF numF rs) rfl W h
  have hN1 : (0 : Int) < (N : Int) := by rw [← hN, List.length_cons]; omega
  have hN2 : (1 : Int) ≤ (N : Int) := by omega
  have HNN := Lib.hid hN
  obtain ⟨LP, hLP⟩ : ∃ LP, listP repF decF numF rs = LP := ⟨_, rfl⟩
  rw [hLP] at cP ⊢
  have HX0 := Lib.hid (tyx_new w ⟨#[]⟩ ⟨#[]⟩ (.slice none 0 0))
  have HB0 := Lib.hid ((Below.refl w.heap.size w).alloc (Nat.le_refl _) (.cells #[.string ⟨#[]⟩, .string ⟨#[]⟩, .slice none 0 0] 26))
  obtain ⟨W0, hW0⟩ : ∃ W0, w.alloc (.cells #[.string ⟨#[]⟩, .string ⟨#[]⟩, .slice none 0 0] 26) = W0 := ⟨_, rfl⟩
  rw [hW0] at HX0 HB0
  have HW0 := Lib.hid hW0
  have hJz : (strL (joinL r)).size = (joinL r).length := strL_size _
  clear hW0 hD hrow hlen heach hsum hN hz2 hLP hlb hle hbl hbl2 hsl heach2
  by_cases h47 : 47 ∈ joinL r
  · rw [if_pos h47] at cF
    obtain ⟨hu1, hu2⟩ := upC_all h47
    obtain ⟨A, hA⟩ : ∃ A, (upC 47 (joinL r)).length = A := ⟨_, rfl⟩
    rw [hA] at cF hu1 hu2
    have h0 : ¬ (A : Int) < 0 := by omega
    have h0' : (0 : Int) ≤ (A : Int) := by omega
    have F2 : IntKind.i64.wrap ((A : Int) + 1) = (A : Int) + 1 := by rw [IntKind.wrap_i64]; omega
    have R1 := run_slice_to (strL (joinL r)) A (A : Int) rfl (by omega)
    have R2 := run_slice_from (strL (joinL r)) (A + 1) ((A : Int) + 1) (by omega) (by omega)
    have e2 : (strL (joinL r)).extract 0 A = strL (upC 47 (joinL r)) := bytes_is (by rw [part_start (strL (joinL r)) A (by omega), strL_list, strL_list, hu2])
    have e3 : (strL (joinL r)).extract (A + 1) (strL (joinL r)).size = strL (behind 47 (joinL r)) := bytes_is (by rw [part_rest (strL (joinL r)) (A + 1) (by omega), strL_list, strL_list, ← hA]; rfl)
    rw [e2] at R1
    rw [e3] at R2
    have hv2 := behind_le 47 (joinL r)
    have cW1 := fun W => rword_any (strL (upC 47 (joinL r))) (by rw [strL_size]; omega) W
    have cW2 := fun W => rword_any (strL (behind 47 (joinL r))) (by rw [strL_size]; omega) W
    have cL1 := fun W => rsmall_any (strL (upC 47 (joinL r))) (by rw [strL_size]; omega) W
    have cL2 := fun W => rsmall_any (strL (behind 47 (joinL r))) (by rw [strL_size]; omega) W
    rw [strL_list] at cW1 cW2 cL1 cL2
    cases hw1 : wordW (upC 47 (joinL r)) with
    | false =>
      rw [if_neg (fun h => absurd h.2.1 (by decide))]
      rw [hw1] at cW1
      generalize wordW (behind 47 (joinL r)) = b2 at cW2
      clear cL1 cL2
      generalize strL (upC 47 (joinL r)) = U1 at R1 cW1
      generalize strL (behind 47 (joinL r)) = U2 at R2 cW2
      generalize strL (joinL r) = J at cJ cF R1 R2 hJz
      clear hw1 h47 hu1 hu2 hA e2 e3 hv2 hJz hz
      go_enter Tryz.func11, Tryz.ntmps11
      go_wp2_with fail
      rw [HW0.out]
      go_wp2_with (first
        | (go_at_call 35; (with_reducible refine (cR _).mono ?_); rintro e w2 ⟨g, c, rfl, hp, hb2⟩; obtain ⟨⟨u, hu, hT⟩, A1, C1, R3, hW1⟩ := run_restR hp HNN.out; have HB2 := Lib.hid hb2; have HX2 := Lib.hid (HX0.out.step hb2); have HT := Lib.hid hT; have HRW := Lib.hid hW1; clear hp hb2 cR hT hW1)
        | (go_at_call 36; (with_reducible refine (cJ _ _ HT).mono ?_); rintro e w4 ⟨rfl, hb3⟩; have HB4 := Lib.hid (HB2.out.trans (hb3.mono HB2.out.size)); have HX4 := Lib.hid (HX2.out.step hb3); have HR4 := Lib.hid (HRW.out.step hb3); have hu4 := cell_below hu hb3; obtain ⟨y0, y1, y2, yf⟩ := HX4.out.all; clear hb3 cJ)
        | (go_at_call 37; (with_reducible refine (cF _).mono ?_); rintro e w9 ⟨rfl, rfl⟩)
        | (go_at_call 38; (with_reducible refine (cW1 _).mono ?_); rintro e w5 ⟨rfl, rfl⟩)
        | (go_at_call 38; (with_reducible refine (cW2 _).mono ?_); rintro e w6 ⟨rfl, rfl⟩))
      exact bodyPost_ret (results_ty rfl _ _ w.heap.size _ _ _ rfl (set_ty HX4.out)) rfl ⟨none, 0, rfl, ⟨0, World.ownsRow_nil _ _ _ _⟩, below_three (HB0.out.trans (HB4.out.mono HB0.out.size)) (Nat.le_refl _) _ _ _⟩
    | true =>
      rw [hw1] at cW1
      cases hw2 : wordW (behind 47 (joinL r)) with
      | false =>
        rw [if_neg (fun h => absurd h.2.2 (by decide))]
        rw [hw2] at cW2
        clear cL1 cL2
        generalize strL (upC 47 (joinL r)) = U1 at R1 cW1
        generalize strL (behind 47 (joinL r)) = U2 at R2 cW2
        generalize strL (joinL r) = J at cJ cF R1 R2 hJz
        clear hw1 hw2 h47 hu1 hu2 hA e2 e3 hv2 hJz hz
        go_enter Tryz.func11, Tryz.ntmps11
        go_wp2_with fail
        rw [HW0.out]
        go_wp2_with (first
          | (go_at_call 35; (with_reducible refine (cR _).mono ?_); rintro e w2 ⟨g, c, rfl, hp, hb2⟩; obtain ⟨⟨u, hu, hT⟩, A1, C1, R3, hW1⟩ := run_restR hp HNN.out; have HB2 := Lib.hid hb2; have HX2 := Lib.hid (HX0.out.step hb2); have HT := Lib.hid hT; have HRW := Lib.hid hW1; clear hp hb2 cR hT hW1)
          | (go_at_call 36; (with_reducible refine (cJ _ _ HT).mono ?_); rintro e w4 ⟨rfl, hb3⟩; have HB4 := Lib.hid (HB2.out.trans (hb3.mono HB2.out.size)); have HX4 := Lib.hid (HX2.out.step hb3); have HR4 := Lib.hid (HRW.out.step hb3); have hu4 := cell_below hu hb3; obtain ⟨y0, y1, y2, yf⟩ := HX4.out.all; clear hb3 cJ)
          | (go_at_call 37; (with_reducible refine (cF _).mono ?_); rintro e w9 ⟨rfl, rfl⟩)
          | (go_at_call 38; (with_reducible refine (cW1 _).mono ?_); rintro e w5 ⟨rfl, rfl⟩)
          | (go_at_call 38; (with_reducible refine (cW2 _).mono ?_); rintro e w6 ⟨rfl, rfl⟩))
        exact bodyPost_ret (results_ty rfl _ _ w.heap.size _ _ _ rfl (set_ty HX4.out)) rfl ⟨none, 0, rfl, ⟨0, World.ownsRow_nil _ _ _ _⟩, below_three (HB0.out.trans (HB4.out.mono HB0.out.size)) (Nat.le_refl _) _ _ _⟩
      | true =>
        rw [if_pos ⟨h47, rfl, rfl⟩]
        rw [hw2] at cW2
        generalize strL ((upC 47 (joinL r)).map lowA) = K1 at cL1 ⊢
        generalize strL ((behind 47 (joinL r)).map lowA) = K2 at cL2 ⊢
        generalize strL (upC 47 (joinL r)) = U1 at R1 cW1 cL1
        generalize strL (behind 47 (joinL r)) = U2 at R2 cW2 cL2
        generalize strL (joinL r) = J at cJ cF R1 R2 hJz
        clear hw1 hw2 h47 hu1 hu2 hA e2 e3 hv2 hJz hz
        go_enter Tryz.func11, Tryz.ntmps11
        go_wp2_with fail
        rw [HW0.out]
        go_wp2_with (first
          | (go_at_call 35; (with_reducible refine (cR _).mono ?_); rintro e w2 ⟨g, c, rfl, hp, hb2⟩; obtain ⟨⟨u, hu, hT⟩, A1, C1, R3, hW1⟩ := run_restR hp HNN.out; have HB2 := Lib.hid hb2; have HX2 := Lib.hid (HX0.out.step hb2); have HT := Lib.hid hT; have HRW := Lib.hid hW1; clear hp hb2 cR hT hW1)
          | (go_at_call 36; (with_reducible refine (cJ _ _ HT).mono ?_); rintro e w4 ⟨rfl, hb3⟩; have HB4 := Lib.hid (HB2.out.trans (hb3.mono HB2.out.size)); have HX4 := Lib.hid (HX2.out.step hb3); have HR4 := Lib.hid (HRW.out.step hb3); have hu4 := cell_below hu hb3; obtain ⟨y0, y1, y2, yf⟩ := HX4.out.all; clear hb3 cJ)
          | (go_at_call 37; (with_reducible refine (cF _).mono ?_); rintro e w9 ⟨rfl, rfl⟩)
          | (go_at_call 38; (with_reducible refine (cW1 _).mono ?_); rintro e w5 ⟨rfl, rfl⟩)
          | (go_at_call 38; (with_reducible refine (cW2 _).mono ?_); rintro e w6 ⟨rfl, rfl⟩))
        have hb : Hid (Below w4.heap.size w4 w4) := Lib.hid (Below.refl _ _)
        have hq1 := fun Q (hb : Hid (Below w4.heap.size w4 Q)) => (cL1 Q).mono (fun e w' hh => (⟨hh.1, Lib.hid (hb.out.trans (hh.2.mono hb.out.size))⟩ : e = .returned (.string K1) ∧ Hid (Below w4.heap.size w4 w')))
        have hq2 := fun Q (hb : Hid (Below w4.heap.size w4 Q)) => (cL2 Q).mono (fun e w' hh => (⟨hh.1, Lib.hid (hb.out.trans (hh.2.mono hb.out.size))⟩ : e = .returned (.string K2) ∧ Hid (Below w4.heap.size w4 w')))
        have hq3 := fun Q (hb : Hid (Below w4.heap.size w4 Q)) => (cP (.slice A1 (N - 1) C1) Q (Lib.hid (HR4.out.step hb.out))).mono (fun e w' hh => (by
          obtain ⟨a, c, h1, h2, h3⟩ := hh
          exact ⟨a, c, h1, Lib.hid h2, Lib.hid (hb.out.trans (h3.mono hb.out.size))⟩ : ∃ a c, e = .returned (.slice a LP.length c) ∧ Hid (OwnP w' (.slice a LP.length c) LP) ∧ Hid (Below w4.heap.size w4 w')))
        have HK := Lib.hid (fun Q (h : Hid (Below w4.heap.size w4 Q)) => (tyx_limbs (HB0.out.trans ((HB4.out.trans (h.out.mono HB4.out.size)).mono HB0.out.size)) (HX4.out.step h.out) : Hid (Below w.heap.size w Q) ∧ Q.cell? ⟨w.heap.size, 0, none⟩ = some (cv Q w.heap.size 0) ∧ Q.cell? ⟨w.heap.size, 1, none⟩ = some (cv Q w.heap.size 1) ∧ Q.cell? ⟨w.heap.size, 2, none⟩ = some (cv Q w.heap.size 2) ∧ ∀ i, Q.frozen? ⟨w.heap.size, i, none⟩ = false))
        have HK2 := Lib.hid (fun Q (h : Hid (Below w4.heap.size w4 Q)) (k s : ByteArray) (v : Value) => (tyx_limbs (below_three (HB0.out.trans ((HB4.out.trans (h.out.mono HB4.out.size)).mono HB0.out.size)) (Nat.le_refl _) (.string k) (.string s) v) (set_ty (HX4.out.step h.out)) : Hid (Below w.heap.size w (((Q.setCell ⟨w.heap.size, 0, none⟩ (.string k)).setCell ⟨w.heap.size, 1, none⟩ (.string s)).setCell ⟨w.heap.size, 2, none⟩ v)) ∧ (((Q.setCell ⟨w.heap.size, 0, none⟩ (.string k)).setCell ⟨w.heap.size, 1, none⟩ (.string s)).setCell ⟨w.heap.size, 2, none⟩ v).cell? ⟨w.heap.size, 0, none⟩ = some (cv (((Q.setCell ⟨w.heap.size, 0, none⟩ (.string k)).setCell ⟨w.heap.size, 1, none⟩ (.string s)).setCell ⟨w.heap.size, 2, none⟩ v) w.heap.size 0) ∧ (((Q.setCell ⟨w.heap.size, 0, none⟩ (.string k)).setCell ⟨w.heap.size, 1, none⟩ (.string s)).setCell ⟨w.heap.size, 2, none⟩ v).cell? ⟨w.heap.size, 1, none⟩ = some (cv (((Q.setCell ⟨w.heap.size, 0, none⟩ (.string k)).setCell ⟨w.heap.size, 1, none⟩ (.string s)).setCell ⟨w.heap.size, 2, none⟩ v) w.heap.size 1) ∧ (((Q.setCell ⟨w.heap.size, 0, none⟩ (.string k)).setCell ⟨w.heap.size, 1, none⟩ (.string s)).setCell ⟨w.heap.size, 2, none⟩ v).cell? ⟨w.heap.size, 2, none⟩ = some (cv (((Q.setCell ⟨w.heap.size, 0, none⟩ (.string k)).setCell ⟨w.heap.size, 1, none⟩ (.string s)).setCell ⟨w.heap.size, 2, none⟩ v) w.heap.size 2) ∧ ∀ i, (((Q.setCell ⟨w.heap.size, 0, none⟩ (.string k)).setCell ⟨w.heap.size, 1, none⟩ (.string s)).setCell ⟨w.heap.size, 2, none⟩ v).frozen? ⟨w.heap.size, i, none⟩ = false))
        clear cL1 cL2 cP
        go_region_held3 (fun Q => Hid (Below w.heap.size w Q) ∧ Q.cell? ⟨w.heap.size, 0, none⟩ = some (cv Q w.heap.size 0) ∧ Q.cell? ⟨w.heap.size, 1, none⟩ = some (cv Q w.heap.size 1) ∧ Q.cell? ⟨w.heap.size, 2, none⟩ = some (cv Q w.heap.size 2) ∧ ∀ i, Q.frozen? ⟨w.heap.size, i, none⟩ = false)
          (first | exact HK.out _ hb | exact HK.out _ (Lib.hid hb.out.drew) | exact HK.out _ (by assumption) | exact HK.out _ (Lib.hid (Below.drew (Lib.Hid.out (by assumption)))) | exact HK2.out _ (by assumption) _ _ _)
          (first
            | (go_at_call 39; (with_reducible refine (hq1 _ (by first | assumption | exact Lib.hid hb.out.drew)).mono ?_); rintro e w5 ⟨rfl, hs5⟩; clear hq1)
            | (go_at_call 39; (with_reducible refine (hq2 _ hs5).mono ?_); rintro e w6 ⟨rfl, hs6⟩; clear hq2)
            | (go_at_call 40; (with_reducible refine (hq3 _ hs6).mono ?_); rintro e w7 ⟨a7, c7, rfl, ho7, hs7⟩; clear hq3))
        go_wp2_with fail
        exact bodyPost_ret (results_ty rfl _ _ w.heap.size _ _ _ rfl (set_ty (HX4.out.step hs7.out))) rfl ⟨a7, c7, rfl, ho7.out.three _ _ _ (HX4.out.step hs7.out), below_three (HB0.out.trans ((HB4.out.trans (hs7.out.mono HB4.out.size)).mono HB0.out.size)) (Nat.le_refl _) _ _ _⟩
  · rw [if_neg h47] at cF
    rw [if_neg (fun h => h47 h.1)]
    generalize strL (joinL r) = J at cJ cF hJz
    clear h47 hJz hz
    go_enter Tryz.func11, Tryz.ntmps11
    go_wp2_with fail
    rw [HW0.out]
    go_wp2_with (first
      | (go_at_call 35; (with_reducible refine (cR _).mono ?_); rintro e w2 ⟨g, c, rfl, hp, hb2⟩; obtain ⟨⟨u, hu, hT⟩, A1, C1, R3, hW1⟩ := run_restR hp HNN.out; have HB2 := Lib.hid hb2; have HX2 := Lib.hid (HX0.out.step hb2); have HT := Lib.hid hT; have HRW := Lib.hid hW1; clear hp hb2 cR hT hW1)
      | (go_at_call 36; (with_reducible refine (cJ _ _ HT).mono ?_); rintro e w4 ⟨rfl, hb3⟩; have HB4 := Lib.hid (HB2.out.trans (hb3.mono HB2.out.size)); have HX4 := Lib.hid (HX2.out.step hb3); have HR4 := Lib.hid (HRW.out.step hb3); have hu4 := cell_below hu hb3; obtain ⟨y0, y1, y2, yf⟩ := HX4.out.all; clear hb3 cJ)
      | (go_at_call 37; (with_reducible refine (cF _).mono ?_); rintro e w9 ⟨rfl, rfl⟩))
    exact bodyPost_ret (results_ty rfl _ _ w.heap.size _ _ _ rfl (set_ty HX4.out)) rfl ⟨none, 0, rfl, ⟨0, World.ownsRow_nil _ _ _ _⟩, below_three (HB0.out.trans (HB4.out.mono HB0.out.size)) (Nat.le_refl _) _ _ _⟩
set_option maxRecDepth 100000 in
set_option maxHeartbeats 8000000 in
theorem rdisp_c (S : ByteArray) (hS : S.size ≤ 9000) (w : World) :
    Calls Tryz.prog 13 #[.string S] w fun e w' => ∃ a c, e = .returned (.tuple #[.string (strL (dispC repF decF numF S.data.toList).1), .slice a (dispC repF decF numF S.data.toList).2.length c]) ∧ OwnP w' (.slice a (dispC repF decF numF S.data.toList).2.length c) (dispC repF decF numF S.data.toList).2 ∧ Below w.heap.size w w' := by
  obtain ⟨r, rs, hrow, hlen, heach, hsum⟩ := rows_known S (by omega)
  have hD : dispC repF decF numF S.data.toList = ((if wordW ((joinL r).map lowA) = true then (joinL r).map lowA else []), listP repF decF numF rs) := by
    unfold dispC
    rw [hrow]
    rfl
  rw [hD]
  obtain ⟨N, hN⟩ : ∃ N, (r :: rs).length = N := ⟨_, rfl⟩
  have cR := fun W => rrows_s S (by omega) (r :: rs) hrow N hN W
  have hz : (joinL r).length ≤ 9000 := by
    have := row_le (rows := r :: rs) (r := r) (by simp)
    omega
  have hz2 : szR rs ≤ 9000 := by
    have h3 : szR (r :: rs) = (joinL r).length + szR rs := by unfold szR; rw [List.map_cons, List.sum_cons]
    omega
  have hlb := rowsT_len (bareT (scanL S.data.toList)) []
  have hle := rowsT_each (bareT (scanL S.data.toList)) []
  rw [hrow] at hlb hle
  have hbl := bare_len (scanL S.data.toList) (scanL S.data.toList).length
  rw [List.take_length] at hbl
  have hbl2 : (bareT (scanL S.data.toList)).length ≤ (scanL S.data.toList).length := hbl
  have hsl := scan_len S.data.toList
  rw [← size_list] at hsl
  have hNz : N ≤ 9001 := by omega
  have heach2 : ∀ x ∈ r :: rs, x.length ≤ 9000 := fun x hx => by
    have := hle x hx
    rw [List.length_nil] at this
    omega
  have cJ := fun W u (h : Hid (HasT W u r)) => (rtext_any u r W h.out.hasF (by omega) (by have := heach2 r (by simp); omega)).mono (fun e w' hh => (⟨hh.1, hh.2 ▸ Below.refl _ _⟩ : e = .returned (.string (strL (joinL r))) ∧ Below W.heap.size W w'))
  have cL := fun W => rsmall_any (strL (joinL r)) (by rw [strL_size]; omega) W
  rw [strL_list] at cL
  have cW := fun W => rword_any (strL ((joinL r).map lowA)) (by rw [strL_size, List.length_map]; omega) W
  rw [strL_list] at cW
  have cP := fun v W (h : Hid (RwsAt W v rs)) => rlist_any runhex_ok rrepair_ok rdecode_ok v rs (by rw [List.length_cons] at hN; omega) (fun x hx => by have := heach2 x (by simp [hx]); omega) (by omega) (listP repF decF numF rs) rfl W h
  have hN1 : (0 : Int) < (N : Int) := by rw [← hN, List.length_cons]; omega
  have hN2 : (1 : Int) ≤ (N : Int) := by omega
  have HNN := Lib.hid hN
  obtain ⟨LP, hLP⟩ : ∃ LP, listP repF decF numF rs = LP := ⟨_, rfl⟩
  rw [hLP] at cP ⊢
  have e0 : strL [] = (⟨#[]⟩ : ByteArray) := rfl
  clear hD hrow hlen heach hsum hN hz hz2 hLP hlb hle hbl hbl2 hsl heach2
  cases hww : wordW ((joinL r).map lowA) with
  | true =>
    rw [hww] at cW
    simp only [if_true]
    generalize strL ((joinL r).map lowA) = ANS at cL cW ⊢
    generalize strL (joinL r) = J at cJ cL
    clear hww
    go_enter Tryz.func13, Tryz.ntmps13
    go_wp2_with (first
      | (go_at_call 35; (with_reducible refine (cR _).mono ?_); rintro e w2 ⟨g, c, rfl, hp, hb2⟩; obtain ⟨⟨u, hu, hT⟩, A1, C1, R3, hW1⟩ := run_restR hp HNN.out; have HB2 := Lib.hid hb2; have HT := Lib.hid hT; have HRW := Lib.hid hW1; clear hp hb2 cR hT hW1)
      | (go_at_call 36; (with_reducible refine (cJ _ _ HT).mono ?_); rintro e w4 ⟨rfl, hb3⟩; have HB4 := Lib.hid (HB2.out.trans (hb3.mono HB2.out.size)); have HR4 := Lib.hid (HRW.out.step hb3); clear hb3 cJ)
      | (go_at_call 39; (with_reducible refine (cL _).mono ?_); rintro e w5 ⟨rfl, hb5⟩; have HB5 := Lib.hid (HB4.out.trans (hb5.mono HB4.out.size)); have HR5 := Lib.hid (HR4.out.step hb5); clear hb5 cL)
      | (go_at_call 38; (with_reducible refine (cW _).mono ?_); rintro e w6 ⟨rfl, rfl⟩)
      | (go_at_call 40; (with_reducible refine (cP _ _ HR5).mono ?_); rintro e w7 ⟨a7, c7, rfl, ho7, hb7⟩; have HB7 := Lib.hid (HB5.out.trans (hb7.mono HB5.out.size)); have HO7 := Lib.hid ho7; clear ho7 hb7 cP))
    go_ret2
    exact ⟨a7, c7, rfl, HO7.out, HB7.out⟩
  | false =>
    rw [hww] at cW
    simp only [Bool.false_eq_true, if_false]
    rw [e0]
    generalize strL ((joinL r).map lowA) = LO at cL cW
    generalize strL (joinL r) = J at cJ cL
    clear hww e0
    go_enter Tryz.func13, Tryz.ntmps13
    go_wp2_with (first
      | (go_at_call 35; (with_reducible refine (cR _).mono ?_); rintro e w2 ⟨g, c, rfl, hp, hb2⟩; obtain ⟨⟨u, hu, hT⟩, A1, C1, R3, hW1⟩ := run_restR hp HNN.out; have HB2 := Lib.hid hb2; have HT := Lib.hid hT; have HRW := Lib.hid hW1; clear hp hb2 cR hT hW1)
      | (go_at_call 36; (with_reducible refine (cJ _ _ HT).mono ?_); rintro e w4 ⟨rfl, hb3⟩; have HB4 := Lib.hid (HB2.out.trans (hb3.mono HB2.out.size)); have HR4 := Lib.hid (HRW.out.step hb3); clear hb3 cJ)
      | (go_at_call 39; (with_reducible refine (cL _).mono ?_); rintro e w5 ⟨rfl, hb5⟩; have HB5 := Lib.hid (HB4.out.trans (hb5.mono HB4.out.size)); have HR5 := Lib.hid (HR4.out.step hb5); clear hb5 cL)
      | (go_at_call 38; (with_reducible refine (cW _).mono ?_); rintro e w6 ⟨rfl, rfl⟩)
      | (go_at_call 40; (with_reducible refine (cP _ _ HR5).mono ?_); rintro e w7 ⟨a7, c7, rfl, ho7, hb7⟩; have HB7 := Lib.hid (HB5.out.trans (hb7.mono HB5.out.size)); have HO7 := Lib.hid ho7; clear ho7 hb7 cP))
    go_ret2
    exact ⟨a7, c7, rfl, HO7.out, HB7.out⟩
end Go.Proofs.YtdinachiiimngaaGreatDoor
namespace Go.Proofs.YtdinachiiimngaaGreatDoor
open Go.ChangeShapes Go.WideShapes Go.ChangeAt Go.RowKit
open TokP AdrP CtP

set_option maxRecDepth 100000 in
set_option maxHeartbeats 8000000 in
theorem tells_any (S N : ByteArray) (w : World) (hv : Vr w) :
    Calls Tryz.prog 3 #[.string S, .string N] w fun e w' => e = .returned (.bool true) ∧ Below w.heap.size w w' := by
  have cS := small_any w hv
  have cf1 := fun W => few_any S W
  have cf2 := fun W => few_any N W
  have HV := Lib.hid hv
  have hz1 := size_list S
  have hz2 := size_list N
  by_cases h1 : S.data.toList.length ≤ 2000
  · rw [decide_eq_true h1] at cf1
    by_cases h2 : N.data.toList.length ≤ 2000
    · rw [decide_eq_true h2] at cf2
      obtain ⟨⟨hd1, hd2⟩, hp1⟩ := par_facts S (by omega)
      have cA := fun W (hv : Hid (Vr W)) => parse_c S (by omega) W hv.out
      have cB := fun W => rparse_c S (by omega) W
      have cC := fun W (hv : Hid (Vr W)) => disp_any S (by omega) W hv.out
      have cD := fun W => rdisp_c S (by omega) W
      generalize parseC repF decF numF S.data.toList = PC at cA cB hp1
      obtain ⟨⟨K1, K2, LP⟩, OK⟩ := PC
      generalize dispC repF decF numF S.data.toList = DC at cC cD hd1 hd2
      obtain ⟨D1, LD⟩ := DC
      simp only [] at cA cB hp1 cC cD hd1 hd2
      obtain ⟨R, hR⟩ : ∃ R, paramV LD N.data.toList = R := ⟨_, rfl⟩
      have cE := fun W v (h : Hid (HasP W v LD)) => param_c v LD N (by omega) (fun p hp => by have := hd2 p hp; omega) (by omega) R hR W h
      have cG := fun W v (h : Hid (HasP W v LD)) => rparam_any v LD N (by omega) (fun p hp => by have := hd2 p hp; omega) (by omega) R hR W h
      generalize strL (R.getD []) = RV at cE cG
      generalize R.isSome = RB at cE cG
      have cH := fun W v u (h : Hid (HasP W v LP)) (k : Hid (HasP W u LP)) => same_eq (strL K1) (strL K2) v u LP (by omega) W h k
      have cI := fun W v u (h : Hid (HasP W v LD)) (k : Hid (HasP W u LD)) => rparams_any h.out k.out (by omega)
      rw [decide_eq_true rfl] at cI
      have HPH := Lib.hid (fun (W : World) a c (h : OwnP W (.slice a LP.length c) LP) => own_has h)
      have HDH := Lib.hid (fun (W : World) a c (h : OwnP W (.slice a LD.length c) LD) => own_has h)
      obtain ⟨np, hnp⟩ : ∃ n, LP.length = n := ⟨_, rfl⟩
      obtain ⟨nd, hnd⟩ : ∃ n, LD.length = n := ⟨_, rfl⟩
      rw [hnp] at cA cB HPH
      rw [hnd] at cC cD HDH
      generalize strL K1 = X1 at cA cB cH
      generalize strL K2 = X2 at cA cB cH
      generalize strL D1 = X3 at cC cD
      have e1 : (X3.toList == X3.toList) = true := beq_self_eq_true _
      have e2 : (RV.toList == RV.toList) = true := beq_self_eq_true _
      clear hv h1 h2 hz1 hz2 hd1 hd2 hp1 hR hnp hnd
      go_enter Tryz.func3, Tryz.ntmps3
      go_wp2_with (first
        | (go_at_call 8; (with_reducible refine cS.mono ?_); rintro e w1 ⟨rfl, hb1⟩; have HB1 := Lib.hid hb1; have HV1 := Lib.hid (HV.out.below hb1); clear hb1 cS)
        | (go_at_call 9; (with_reducible refine (cf1 _).mono ?_); rintro e w2 ⟨rfl, rfl⟩)
        | (go_at_call 9; (with_reducible refine (cf2 _).mono ?_); rintro e w3 ⟨rfl, rfl⟩)
        | (go_at_call 10; (with_reducible refine (cA _ HV1).mono ?_); rintro e w4 ⟨a4, c4, rfl, hp4, hb4⟩; have hbb := (Below.refl w4.heap.size w4).alloc (Nat.le_refl _) (.cells #[.string X1, .string X2, .slice a4 np c4] 26); have HB4 := Lib.hid (HB1.out.trans ((hb4.trans (hbb.mono hb4.size)).mono HB1.out.size)); have HP4 := Lib.hid ((HPH.out _ _ _ hp4).step hbb); have HX4 := Lib.hid (tyx_new w4 X1 X2 (.slice a4 np c4)); clear hp4 hb4 hbb cA)
        | (go_at_call 11; (with_reducible refine (cB _).mono ?_); rintro e w5 ⟨a5, c5, rfl, hp5, hb5⟩; have hbb := (Below.refl w5.heap.size w5).alloc (Nat.le_refl _) (.cells #[.string X1, .string X2, .slice a5 np c5] 26); have hbc := hb5.trans (hbb.mono hb5.size); have HB5 := Lib.hid (HB4.out.trans (hbc.mono HB4.out.size)); have HP5 := Lib.hid (HP4.out.step hbc); have HX5 := Lib.hid (HX4.out.step hbc); have HQ5 := Lib.hid ((HPH.out _ _ _ hp5).step hbb); have HY5 := Lib.hid (tyx_new w5 X1 X2 (.slice a5 np c5)); have HV5 := Lib.hid (HV.out.below HB5.out); clear hp5 hb5 hbb hbc cB)
        | (go_at_call 12; (with_reducible refine (cC _ HV5).mono ?_); rintro e w6 ⟨a6, c6, rfl, hp6, hb6⟩; have HB6 := Lib.hid (HB5.out.trans (hb6.mono HB5.out.size)); have HP6 := Lib.hid (HP5.out.step hb6); have HX6 := Lib.hid (HX5.out.step hb6); have HQ6 := Lib.hid (HQ5.out.step hb6); have HY6 := Lib.hid (HY5.out.step hb6); have HD6 := Lib.hid (HDH.out _ _ _ hp6); clear hp6 hb6 cC)
        | (go_at_call 13; (with_reducible refine (cD _).mono ?_); rintro e w7 ⟨a7, c7, rfl, hp7, hb7⟩; have HB7 := Lib.hid (HB6.out.trans (hb7.mono HB6.out.size)); have HP7 := Lib.hid (HP6.out.step hb7); have HX7 := Lib.hid (HX6.out.step hb7); have HQ7 := Lib.hid (HQ6.out.step hb7); have HY7 := Lib.hid (HY6.out.step hb7); have HD7 := Lib.hid (HD6.out.step hb7); have HE7 := Lib.hid (HDH.out _ _ _ hp7); clear hp7 hb7 cD)
        | (go_at_call 14; (with_reducible refine (cE _ _ HD7).mono ?_); rintro e w8 ⟨rfl, hb8⟩; have HB8 := Lib.hid (HB7.out.trans (hb8.mono HB7.out.size)); have HP8 := Lib.hid (HP7.out.step hb8); have HX8 := Lib.hid (HX7.out.step hb8); have HQ8 := Lib.hid (HQ7.out.step hb8); have HY8 := Lib.hid (HY7.out.step hb8); have HD8 := Lib.hid (HD7.out.step hb8); have HE8 := Lib.hid (HE7.out.step hb8); clear hb8 cE)
        | (go_at_call 15; (with_reducible refine (cG _ _ HE8).mono ?_); rintro e w9 ⟨rfl, hb9⟩; have HB9 := Lib.hid (HB8.out.trans (hb9.mono HB8.out.size)); have HP9 := Lib.hid (HP8.out.step hb9); obtain ⟨y0, y1, y2, _⟩ := (HX8.out.step hb9).all; have HQ9 := Lib.hid (HQ8.out.step hb9); obtain ⟨z0, z1, z2, _⟩ := (HY8.out.step hb9).all; have HD9 := Lib.hid (HD8.out.step hb9); have HE9 := Lib.hid (HE8.out.step hb9); clear hb9 cG)
        | (go_at_call 16; (with_reducible refine (cH _ _ _ HP9 HQ9).mono ?_); rintro e w10 ⟨rfl, hb10⟩; have HB10 := Lib.hid (HB9.out.trans (hb10.mono HB9.out.size)); have HD10 := Lib.hid (HD9.out.step hb10); have HE10 := Lib.hid (HE9.out.step hb10); clear hb10 cH)
        | (go_at_call 17; (with_reducible refine (cI _ _ _ HD10 HE10).mono ?_); rintro e w11 ⟨rfl, hb11⟩; have HB11 := Lib.hid (HB10.out.trans (hb11.mono HB10.out.size)); clear hb11 cI))
      go_ret
      exact ⟨rfl, HB11.out⟩
    · rw [decide_eq_false h2] at cf2
      clear hv h1 h2 hz1 hz2
      go_enter Tryz.func3, Tryz.ntmps3
      go_wp2_with (first
        | (go_at_call 8; (with_reducible refine cS.mono ?_); rintro e w1 ⟨rfl, hb1⟩; have HB1 := Lib.hid hb1; clear hb1 cS)
        | (go_at_call 9; (with_reducible refine (cf1 _).mono ?_); rintro e w2 ⟨rfl, rfl⟩)
        | (go_at_call 9; (with_reducible refine (cf2 _).mono ?_); rintro e w3 ⟨rfl, rfl⟩))
      go_ret
      exact ⟨rfl, HB1.out⟩
  · rw [decide_eq_false h1] at cf1
    have h2 := True.intro
    clear hv h1 h2 hz1 hz2
    go_enter Tryz.func3, Tryz.ntmps3
    go_wp2_with (first
      | (go_at_call 8; (with_reducible refine cS.mono ?_); rintro e w1 ⟨rfl, hb1⟩; have HB1 := Lib.hid hb1; clear hb1 cS)
      | (go_at_call 9; (with_reducible refine (cf1 _).mono ?_); rintro e w2 ⟨rfl, rfl⟩)
      | (go_at_call 9; (with_reducible refine (cf2 _).mono ?_); rintro e w3 ⟨rfl, rfl⟩))
    go_ret
    exact ⟨rfl, HB1.out⟩
end Go.Proofs.YtdinachiiimngaaGreatDoor
