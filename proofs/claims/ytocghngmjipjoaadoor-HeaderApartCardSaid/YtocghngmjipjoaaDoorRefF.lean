/- The reference's Field. -/
import Derived.Test.YtocghngmjipjoaaDoorRefL
import Derived.Test.YtocghngmjipjoaaDoorRefN
import Derived.Test.YtocghngmjipjoaaDoorRead
import Derived.Laws.Concat
import Derived.StillTailTactics
namespace Go.Proofs.YtocghngmjipjoaaDoor
open Go.ChangeShapes Go.WideShapes Go.ChangeAt Go.RowKit
open LinesP HdrP

theorem bare_prefix (l : List UInt8) : ∃ e, l = bareL l ++ e := by
  obtain ⟨e, h, _⟩ := bare_ending l
  exact ⟨e, h⟩
theorem upto_take (l : List UInt8) : upto l = l.take (upto l).length := by
  have h := List.takeWhile_append_dropWhile (p := (· != 58)) (l := l)
  have h2 : l.take (upto l).length = (upto l ++ l.dropWhile (· != 58)).take (upto l).length := congrArg (fun x => x.take (upto l).length) h.symm
  rw [h2, List.take_left' rfl]
theorem upto_len_lt {l : List UInt8} (h : 58 ∈ l) : (upto l).length < l.length := by
  obtain ⟨m, r, e, hm⟩ := List.eq_append_cons_of_mem h
  subst e
  rw [upto_name (fun c hc e => hm (e ▸ hc))]
  simp
theorem upto_le (l : List UInt8) : (upto l).length ≤ l.length := (List.takeWhile_sublist _).length_le
theorem upto_bare (F : List UInt8) : F.take (upto (bareL F)).length = upto (bareL F) := by
  obtain ⟨e, h⟩ := bare_prefix F
  have h2 : F.take (upto (bareL F)).length = (bareL F ++ e).take (upto (bareL F)).length := congrArg (fun x => x.take (upto (bareL F)).length) h
  rw [h2, List.take_append_of_le_length (upto_le _), ← upto_take]
theorem take_blank (F : List UInt8) (j : Nat) (c : UInt8) (hj : 0 < j) (hc : F[j - 1]? = some c) (hb : HdrP.blank c = true) : trimR (F.take j) = trimR (F.take (j - 1)) := by
  have : F.take j = F.take (j - 1) ++ [c] := by
    rw [show j = (j - 1) + 1 by omega, List.take_add_one, Nat.add_sub_cancel, hc]; rfl
  rw [this, trimR_step _ _ hb]
theorem take_stop (F : List UInt8) (j : Nat) (hj : j ≤ F.length) (h : 0 < j → ∀ c, F[j - 1]? = some c → HdrP.blank c = false) : trimR (F.take j) = F.take j := by
  refine trimR_fixed fun c hc => ?_
  by_cases h0 : 0 < j
  · obtain ⟨d, hd⟩ : ∃ d, F[j - 1]? = some d := ⟨_, List.getElem?_eq_getElem (by omega)⟩
    have : F.take j = F.take (j - 1) ++ [d] := by
      rw [show j = (j - 1) + 1 by omega, List.take_add_one, Nat.add_sub_cancel, hd]; rfl
    rw [this] at hc
    simp at hc
    rw [← hc]; exact h h0 d hd
  · rw [show j = 0 by omega] at hc
    simp at hc
theorem cat_str (a b : ByteArray) : a ++ b = strL (a.data.toList ++ b.data.toList) := bytes_is (by rw [list_append]; rfl)
set_option maxRecDepth 100000 in
set_option maxHeartbeats 1000000 in
theorem rfield_none (first more : ByteArray) (h1 : first.size ≤ 400000) (h2 : more.size ≤ 400000) (w : World) (hc : 58 ∉ bareL first.data.toList) :
    Calls Tryd.prog 37 #[.string first, .string more] w fun e w' => e = .returned (fldA (fieldL first.data.toList more.data.toList)) ∧ Below w.heap.size w w' := by
  have c1 := fun w => rbare_any first (by omega) w
  have hbl := bare_le first.data.toList
  rw [← size_list] at hbl
  have c2 := fun w => colon_any (strL (bareL first.data.toList)) (by rw [strL_size]; omega) w
  rw [strL_list, colon_none hc] at c2
  have hR : fieldL first.data.toList more.data.toList = ⟨[], [], first.data.toList ++ more.data.toList, true⟩ := by
    unfold fieldL; rw [if_neg (fun h => hc h.1)]
  rw [hR]
  unfold fldA
  rw [show strL [] = ⟨#[]⟩ from rfl, ← cat_str]
  generalize strL (bareL first.data.toList) = B at c1 c2
  clear hR hc hbl
  go_enter Tryd.func37, Tryd.ntmps37
  go_wp2_with (first
    | (go_at_call 27; (refine (c1 _).mono ?_); rintro e w1 ⟨rfl, hw⟩; rw [← hw]; clear hw w1)
    | (go_at_call 49; (refine (c2 _).mono ?_); rintro e w1 ⟨rfl, hw⟩; rw [← hw]; clear hw w1))
  exact bodyPost_ret (results_cell_row rfl _ _ w.heap.size 38 _ _ _ rfl (World.alloc_heap_new w _) Tryd.underlying38 rfl rows38) rfl ⟨rfl, (Below.refl _ w).alloc (Nat.le_refl _) _⟩
set_option maxRecDepth 100000 in
set_option maxHeartbeats 1000000 in
theorem rfield_some (first more : ByteArray) (h1 : first.size ≤ 400000) (h2 : more.size ≤ 400000) (w : World) (hc : 58 ∈ bareL first.data.toList) :
    Calls Tryd.prog 37 #[.string first, .string more] w fun e w' => e = .returned (fldA (fieldL first.data.toList more.data.toList)) ∧ Below w.heap.size w w' := by
  have hbl := bare_le first.data.toList
  rw [← size_list] at hbl
  have c1 := fun w => rbare_any first (by omega) w
  have c2 := fun w => colon_any (strL (bareL first.data.toList)) (by rw [strL_size]; omega) w
  obtain ⟨F, hF⟩ : ∃ F, first.data.toList = F := ⟨_, rfl⟩
  have hFz : first.size = F.length := by rw [← hF, ← size_list]
  have HF := Lib.hid hF
  rw [hF] at c1 c2 hc hbl ⊢
  have hut := upto_bare F
  have hul := upto_le (bareL F)
  obtain ⟨N, hN⟩ : ∃ N, (upto (bareL F)).length = N := ⟨_, rfl⟩
  have hci : colonI (bareL F) = N := by unfold colonI; rw [if_pos hc, hN]
  rw [strL_list, hci] at c2
  rw [hN] at hut hul
  have hNf : N ≤ first.size := by omega
  have hlt : N < first.size := by
    have h1 := upto_len_lt hc
    rw [hN] at h1; omega
  have HLT := Lib.hid hlt
  clear hlt
  have hRy : rightL (trimR (upto (bareL F))) = true → fieldL F more.data.toList = ⟨trimR (upto (bareL F)), bareL ((F ++ more.data.toList).drop (N + 1)), F ++ more.data.toList, false⟩ := fun h => by
    unfold fieldL; rw [if_pos ⟨hc, h⟩, hN]
  have hRn : rightL (trimR (upto (bareL F))) = false → fieldL F more.data.toList = ⟨[], [], F ++ more.data.toList, true⟩ := fun h => by
    unfold fieldL; rw [if_neg (by rw [h]; simp)]
  have HY := Lib.hid hRy
  have HNo := Lib.hid hRn
  have HU := Lib.hid hut
  have HZ := Lib.hid hFz
  generalize strL (bareL F) = B at c1 c2
  clear hRy hRn hut hul hci hN hc hbl hF hFz
  go_enter Tryd.func37, Tryd.ntmps37
  go_wp2_with (first
    | (go_at_call 27; (refine (c1 _).mono ?_); rintro e w1 ⟨rfl, hw⟩; rw [← hw]; clear hw w1)
    | (go_at_call 49; (refine (c2 _).mono ?_); rintro e w1 ⟨rfl, hw⟩; rw [← hw]; clear hw w1))
  clear c1 c2
  go_loopw [7] (fun n wr => ∃ j : Nat, j ≤ N ∧ n = .int .i64 j ∧ wr = w.alloc (.cells #[.string ⟨#[]⟩, .string ⟨#[]⟩, .string ⟨#[]⟩, .bool false] 38) ∧ Hid (trimR (F.take j) = trimR (upto (bareL F)))) (fun n _ => (intOf n).toNat)
  case atStart => exact ⟨N, Nat.le_refl _, rfl, rfl, Lib.hid (by rw [HU.out])⟩
  case round =>
    obtain ⟨j, hj, rfl, rfl, ht⟩ := hrel
    have F2 : 0 < j → IntKind.i64.wrap ((j : Int) - 1) = ((j - 1 : Nat) : Int) := fun h => by rw [IntKind.wrap_i64]; omega
    by_cases hl2 : 0 < j
    · have hl2' : (0 : Int) < (j : Int) := by omega
      have F2 := F2 hl2
      obtain ⟨ch2, x2, hc2, hx2, _, RJ⟩ := run_byte first (j - 1) (by omega)
      rw [HF.out] at hc2
      have cB2 := fun w => rblank_any ch2 x2 hx2 w
      by_cases hb2 : HdrP.blank ch2 = true
      · rw [hb2] at cB2
        have HT : Hid (trimR (F.take (j - 1)) = trimR (upto (bareL F))) := (take_blank F j ch2 hl2 hc2 hb2).symm.trans ht.out
        clear hb2 hc2 hx2
        go_wp2_with (go_at_call 32; refine (cB2 _).mono ?_; rintro e w9 ⟨rfl, hw⟩; rw [← hw]; clear hw w9)
        go_roundw
        case rel => exact ⟨j - 1, by omega, by go_num, trivial, HT⟩
        case measure => simp [intOf]; omega
      · have hb2' : HdrP.blank ch2 = false := by simpa using hb2
        rw [hb2'] at cB2
        have hst := take_stop F j (by rw [← HZ.out]; omega) (fun _ c h => by rw [hc2] at h; cases h; exact hb2')
        rw [ht.out] at hst
        have R1 := run_slice_to first j (j : Int) rfl (by omega)
        rw [show first.extract 0 j = strL (trimR (upto (bareL F))) from bytes_is (by rw [part_start first j (by omega), HF.out, hst]; rfl)] at R1
        have cR := fun w => rright_any (strL (trimR (upto (bareL F)))) (by rw [strL_size, hst, List.length_take]; omega) w
        rw [strL_list] at cR
        obtain ⟨A, hA⟩ : ∃ A, strL (trimR (upto (bareL F))) = A := ⟨_, rfl⟩
        rw [hA] at R1 cR
        have HA := Lib.hid hA
        clear hb2 hb2' hc2 hx2 hst hA
        by_cases hr : rightL (trimR (upto (bareL F))) = true
        · rw [hr] at cR
          have HR := Lib.hid (HY.out hr)
          clear hr
          go_wp2_with (first
            | (go_at_call 32; refine (cB2 _).mono ?_; rintro e w9 ⟨rfl, hw⟩; rw [← hw]; clear hw w9)
            | (go_at_call 25; refine (cR _).mono ?_; rintro e w9 ⟨rfl, hw⟩; rw [← hw]; clear hw w9))
          have hNs : N + 1 ≤ (first ++ more).size := by rw [ByteArray.size_append]; have := HLT.out; omega
          have R2 := run_slice_from (first ++ more) (N + 1) ((N : Int) + 1) (by omega) hNs
          have F3 : IntKind.i64.wrap ((N : Int) + 1) = (N : Int) + 1 := by rw [IntKind.wrap_i64]; omega
          obtain ⟨V, hV⟩ : ∃ V, (first ++ more).extract (N + 1) (first ++ more).size = V := ⟨_, rfl⟩
          rw [hV] at R2
          have lV : V.data.toList = (F ++ more.data.toList).drop (N + 1) := by rw [← hV, part_rest _ _ hNs, list_append, HF.out]
          have zV : V.size ≤ 800000 := by rw [size_list, lV, List.length_drop, List.length_append, ← HZ.out, ← size_list]; omega
          have cV := fun w => rbare_any V (by omega) w
          rw [lV] at cV
          obtain ⟨Y, hY⟩ : ∃ Y, strL (bareL ((F ++ more.data.toList).drop (N + 1))) = Y := ⟨_, rfl⟩
          rw [hY] at cV
          have HYY := Lib.hid hY
          have cW : ∀ w, Calls Tryd.prog 27 #[.string V] w fun e w' => e = .returned (.string Y) ∧ w' = w := fun w => (cV w).mono fun _ _ hh => ⟨hh.1, hh.2.symm⟩
          clear cV
          clear hV lV zV hY hNs
          refine wp_region_still_tail 10 (by kernel_rfl) (by kernel_rfl) ?_
          simp only [List.take_succ_cons, List.take_zero, List.drop_succ_cons, List.drop_zero]
          repeat still_step
          still_call (cW _)
          repeat still_step
          refine wpStill_nil ?_
          have hf := (Fz.new w).step (Below.refl _ _).drew
          change wpList _ _ _ _ _ ((w.alloc (.cells #[.string ⟨#[]⟩, .string ⟨#[]⟩, .string ⟨#[]⟩, .bool false] 38)).drew)
          generalize (w.alloc (.cells #[.string ⟨#[]⟩, .string ⟨#[]⟩, .string ⟨#[]⟩, .bool false] 38)).drew = w2 at hf ⊢
          have k0 := hf.c0
          have k1 := hf.c1
          have k2 := hf.c2
          have k3 := hf.c3
          have f0 := hf.fr 0
          have f1 := hf.fr 1
          have f2 := hf.fr 2
          have f3 := hf.fr 3
          go_wp2_with fail
          rw [HR.out]
          unfold fldA
          rw [HA.out, HYY.out, ← HF.out, ← cat_str]
          exact bodyPost_ret (results_cell_row rfl _ _ w.heap.size 38 _ _ _ rfl (set_four hf.blk) Tryd.underlying38 rfl rows38) rfl ⟨rfl, hf.put _ _ _ _⟩
        · have hr' : rightL (trimR (upto (bareL F))) = false := by simpa using hr
          rw [hr'] at cR
          have HR := Lib.hid (HNo.out hr')
          clear hr hr'
          go_wp2_with (first
            | (go_at_call 32; refine (cB2 _).mono ?_; rintro e w9 ⟨rfl, hw⟩; rw [← hw]; clear hw w9)
            | (go_at_call 25; refine (cR _).mono ?_; rintro e w9 ⟨rfl, hw⟩; rw [← hw]; clear hw w9))
          rw [HR.out]
          unfold fldA
          rw [show strL [] = ⟨#[]⟩ from rfl, ← HF.out, ← cat_str]
          exact bodyPost_ret (results_cell_row rfl _ _ w.heap.size 38 _ _ _ rfl (World.alloc_heap_new w _) Tryd.underlying38 rfl rows38) rfl ⟨rfl, (Below.refl _ w).alloc (Nat.le_refl _) _⟩
    · have hl2' : ¬ (0 : Int) < (j : Int) := by omega
      clear F2
      have hst := take_stop F j (by rw [← HZ.out]; omega) (fun h => absurd h hl2)
      rw [ht.out] at hst
      have R1 := run_slice_to first j (j : Int) rfl (by omega)
      rw [show first.extract 0 j = strL (trimR (upto (bareL F))) from bytes_is (by rw [part_start first j (by omega), HF.out, hst]; rfl)] at R1
      have cR := fun w => rright_any (strL (trimR (upto (bareL F)))) (by rw [strL_size, hst, List.length_take]; omega) w
      rw [strL_list] at cR
      obtain ⟨A, hA⟩ : ∃ A, strL (trimR (upto (bareL F))) = A := ⟨_, rfl⟩
      rw [hA] at R1 cR
      have HA := Lib.hid hA
      clear hst hA
      by_cases hr : rightL (trimR (upto (bareL F))) = true
      · rw [hr] at cR
        have HR := Lib.hid (HY.out hr)
        clear hr
        go_wp2_with (go_at_call 25; refine (cR _).mono ?_; rintro e w9 ⟨rfl, hw⟩; rw [← hw]; clear hw w9)
        have hNs : N + 1 ≤ (first ++ more).size := by rw [ByteArray.size_append]; have := HLT.out; omega
        have R2 := run_slice_from (first ++ more) (N + 1) ((N : Int) + 1) (by omega) hNs
        have F3 : IntKind.i64.wrap ((N : Int) + 1) = (N : Int) + 1 := by rw [IntKind.wrap_i64]; omega
        obtain ⟨V, hV⟩ : ∃ V, (first ++ more).extract (N + 1) (first ++ more).size = V := ⟨_, rfl⟩
        rw [hV] at R2
        have lV : V.data.toList = (F ++ more.data.toList).drop (N + 1) := by rw [← hV, part_rest _ _ hNs, list_append, HF.out]
        have zV : V.size ≤ 800000 := by rw [size_list, lV, List.length_drop, List.length_append, ← HZ.out, ← size_list]; omega
        have cV := fun w => rbare_any V (by omega) w
        rw [lV] at cV
        obtain ⟨Y, hY⟩ : ∃ Y, strL (bareL ((F ++ more.data.toList).drop (N + 1))) = Y := ⟨_, rfl⟩
        rw [hY] at cV
        have HYY := Lib.hid hY
        have cW : ∀ w, Calls Tryd.prog 27 #[.string V] w fun e w' => e = .returned (.string Y) ∧ w' = w := fun w => (cV w).mono fun _ _ hh => ⟨hh.1, hh.2.symm⟩
        clear cV
        clear hV lV zV hY hNs
        refine wp_region_still_tail 10 (by kernel_rfl) (by kernel_rfl) ?_
        simp only [List.take_succ_cons, List.take_zero, List.drop_succ_cons, List.drop_zero]
        repeat still_step
        still_call (cW _)
        repeat still_step
        refine wpStill_nil ?_
        have hf := (Fz.new w).step (Below.refl _ _).drew
        change wpList _ _ _ _ _ ((w.alloc (.cells #[.string ⟨#[]⟩, .string ⟨#[]⟩, .string ⟨#[]⟩, .bool false] 38)).drew)
        generalize (w.alloc (.cells #[.string ⟨#[]⟩, .string ⟨#[]⟩, .string ⟨#[]⟩, .bool false] 38)).drew = w2 at hf ⊢
        have k0 := hf.c0
        have k1 := hf.c1
        have k2 := hf.c2
        have k3 := hf.c3
        have f0 := hf.fr 0
        have f1 := hf.fr 1
        have f2 := hf.fr 2
        have f3 := hf.fr 3
        go_wp2_with fail
        rw [HR.out]
        unfold fldA
        rw [HA.out, HYY.out, ← HF.out, ← cat_str]
        exact bodyPost_ret (results_cell_row rfl _ _ w.heap.size 38 _ _ _ rfl (set_four hf.blk) Tryd.underlying38 rfl rows38) rfl ⟨rfl, hf.put _ _ _ _⟩
      · have hr' : rightL (trimR (upto (bareL F))) = false := by simpa using hr
        rw [hr'] at cR
        have HR := Lib.hid (HNo.out hr')
        clear hr hr'
        go_wp2_with (go_at_call 25; refine (cR _).mono ?_; rintro e w9 ⟨rfl, hw⟩; rw [← hw]; clear hw w9)
        rw [HR.out]
        unfold fldA
        rw [show strL [] = ⟨#[]⟩ from rfl, ← HF.out, ← cat_str]
        exact bodyPost_ret (results_cell_row rfl _ _ w.heap.size 38 _ _ _ rfl (World.alloc_heap_new w _) Tryd.underlying38 rfl rows38) rfl ⟨rfl, (Below.refl _ w).alloc (Nat.le_refl _) _⟩
theorem rfield_any (first more : ByteArray) (h1 : first.size ≤ 400000) (h2 : more.size ≤ 400000) (w : World) :
    Calls Tryd.prog 37 #[.string first, .string more] w fun e w' => e = .returned (fldA (fieldL first.data.toList more.data.toList)) ∧ Below w.heap.size w w' := by
  by_cases hc : 58 ∈ bareL first.data.toList
  · exact rfield_some first more h1 h2 w hc
  · exact rfield_none first more h1 h2 w hc
end Go.Proofs.YtocghngmjipjoaaDoor
