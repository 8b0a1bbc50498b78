/- The reference's Told. -/
import Derived.Test.YtpoimbhfggkiiaaRefT
namespace Go.Proofs.Ytpoimbhfggkiiaa
open Go.ChangeShapes Go.WideShapes Go.ChangeAt Go.RowKit
open LinesP

theorem last_byte (x : List UInt8) (A : ByteArray) (hA : strL x = A) (q : Nat) (hq : q + 1 = x.length) (hql : q < A.size) : (A[q]'hql) = x[q]'(by omega) := by
  subst hA; rfl
set_option maxRecDepth 100000 in
set_option maxHeartbeats 8000000 in
theorem rtold_any (most : Int) {v : Value} {xs : List (List UInt8)} {w : World} (h : Has strV w v xs) (hl : xs.length ≤ 30) (hf : xs.flatten.length ≤ 3000) :
    Calls Try.prog 23 #[.int .i64 most, v] w fun e w' => ∃ a c, e = .returned (.tuple #[.slice a xs.length c, .string (strL ((begunAt xs xs.length).take (limN most)))]) ∧ Outs w' w.heap.size (.slice a xs.length c) xs.length (wantAt (limN most) xs) ∧ Below w.heap.size w w' := by
  obtain ⟨ao, c0, rfl⟩ := h.slice
  obtain ⟨N, hN⟩ : ∃ N, xs.length = N := ⟨_, rfl⟩
  obtain ⟨lim, hlim⟩ : ∃ lim, limN most = lim := ⟨_, rfl⟩
  have hlm := limN_le most
  have M1 : min (max most 1) 1048576 = (lim : Int) := by rw [← hlim]; unfold limN; omega
  rw [hlim] at hlm ⊢
  have H := Lib.hid h
  have HN := Lib.hid hN
  have HB := Lib.hid (begun_len xs)
  have hxl : ∀ j (x : List UInt8), xs[j]? = some x → x.length ≤ 3000 := fun j x hx => by
    have h1 := take_flat_le xs (j + 1)
    rw [begun_next.flat_take' xs j x hx, List.length_append] at h1
    omega
  have HXL := Lib.hid hxl
  have HF := Lib.hid hf
  rw [hN] at hl H ⊢
  clear h hN hlim hxl hf
  go_enter Try.func23, Try.ntmps23
  go_wp2_with fail
  go_loopw [7, 8, 9] (fun s o i wr => ∃ j : Nat, j ≤ N ∧ i = .int .i64 j ∧ s = .string (strL (begunAt xs j)) ∧ (∃ a c, o = .slice a j c ∧ Hid (Outs wr w.heap.size o j (wantAt lim xs))) ∧ Hid (Below w.heap.size w wr)) (fun _ _ i _ => N - (intOf i).toNat)
  case atStart => exact ⟨0, Nat.zero_le _, rfl, rfl, ⟨none, 0, rfl, [], ⟨rfl, .inl ⟨rfl, rfl⟩⟩, fun i hi => by omega⟩, Below.refl _ _⟩
  case round =>
    obtain ⟨j, hj, rfl, rfl, ⟨a1, c1, rfl, hout⟩, hbel⟩ := hrel
    have hbl := HB.out j
    have hF := HF.out
    have hws := hbel.out.size
    by_cases hlt : j < N
    · obtain ⟨a, rfl, hc⟩ := (H.out.below' hbel.out).at (by rw [HN.out]; omega)
      obtain ⟨x, hxj⟩ : ∃ x, xs[j]? = some x := ⟨_, List.getElem?_eq_getElem (by rw [HN.out]; exact hlt)⟩
      have hk := hc j x hxj
      have hxs := HXL.out j x hxj
      obtain ⟨A, hA⟩ : ∃ A, strL x = A := ⟨_, rfl⟩
      have hk' : wr.cell? (a.add j) = some (.string A) := by rw [hk, ← hA]; rfl
      obtain ⟨T, hT⟩ : ∃ T, strL (begunAt xs j) = T := ⟨_, rfl⟩
      rw [hT]
      have sT : T.size ≤ 3000 := by rw [← hT, strL_size]; omega
      have sA : A.size ≤ 3000 := by rw [← hA, strL_size]; omega
      obtain ⟨S, hS⟩ : ∃ S, begunAt xs j ++ x = S := ⟨_, rfl⟩
      have lS : (T ++ A).data.toList = S := by rw [list_append, ← hT, ← hA, ← hS]; rfl
      have sS : S.length ≤ 6000 := by rw [← hS, List.length_append]; omega
      obtain ⟨ls, hls⟩ : ∃ ls, splitL S = ls := ⟨_, rfl⟩
      obtain ⟨nl, hnl⟩ : ∃ nl, ls.length = nl := ⟨_, rfl⟩
      have hnl2 := split_len S
      rw [hls, hnl] at hnl2
      have hG := good_mem (split_good S)
      have hGb := good_before (split_good S)
      rw [hls] at hG hGb
      have hll : ∀ y ∈ ls, y.length ≤ S.length := fun y hy => line_le (by rw [hls]; exact hy)
      have hSp := fun w' => rsplit_any (T ++ A) (by rw [ByteArray.size_append]; omega) w'
      simp only [lS, hls, hnl] at hSp
      have HSP : Hid (∀ w', Calls Try.prog 12 #[.string (T ++ A)] w' fun e w'' => ∃ a c, e = .returned (.slice a nl c) ∧ Own w'' (.slice a nl c) ls ∧ Below w'.heap.size w' w'') := fun w' => (hSp w').mono (by
        rintro e w'' ⟨a, c, rfl, ho, hb⟩
        exact ⟨a, c, rfl, ⟨_, by rw [hnl]; exact ho⟩, hb⟩)
      have HW : Hid (wantAt lim xs j = (ls.filter ends).map (·.take lim)) := by
        show _ = _
        rw [want_is lim xs j x hxj, hS, ← hls]; rfl
      have HBN : Hid (begunAt xs (j + 1) = (ls.filter fun l => !ends l).flatten) := by
        show _ = _
        rw [begun_next xs j x hxj, hS, ← hls]; rfl
      have HG := Lib.hid (And.intro hG (And.intro hGb hll))
      have HNL := Lib.hid hnl
      clear hSp hG hGb hll hnl lS hS hls hT hA hk hc hxj hxs hbl
      go_wp2_with (go_at_call 12; with_reducible refine (HSP.out _).mono ?_; rintro e wS ⟨al, cl, rfl, oS, bS⟩)
      obtain ⟨WO, rfl⟩ : ∃ WO, WO = wr := ⟨_, rfl⟩
      have HOS := Lib.hid oS
      have HBS := Lib.hid bS
      have hsS := bS.size
      clear oS bS
      go_loopw [7, 10, 12] (fun s nw kk wq => ∃ k : Nat, k ≤ nl ∧ kk = .int .i64 k ∧ s = .string (strL (((ls.take k).filter fun l => !ends l).flatten)) ∧ (∃ a c, nw = .slice a (((ls.take k).filter ends).map (·.take lim)).length c ∧ Hid (wq.ownsRow wS.heap.size 9 1 nw (((ls.take k).filter ends).map (·.take lim)).length ((((ls.take k).filter ends).map (·.take lim)).map strV))) ∧ Hid (Below wS.heap.size wS wq)) (fun _ _ kk _ => nl - (intOf kk).toNat)
      case atStart => exact ⟨0, Nat.zero_le _, rfl, rfl, ⟨none, 0, rfl, ⟨rfl, .inl ⟨rfl, rfl⟩⟩⟩, Below.refl _ _⟩
      case round =>
        obtain ⟨k, hk, rfl, rfl, ⟨a2, c2, rfl, hnow⟩, hbq⟩ := hrel
        have hsq := hbq.out.size
        by_cases hkl : k < nl
        · have hoq := HOS.out.step hbq.out
          obtain ⟨g, rfl⟩ := hoq.at (by omega)
          obtain ⟨y, hy⟩ : ∃ y, ls[k]? = some y := ⟨_, List.getElem?_eq_getElem (by rw [HNL.out]; exact hkl)⟩
          have hym := List.mem_of_getElem? hy
          have hyp := HG.out.1 y hym
          have hyl := HG.out.2.2 y hym
          have hcell := hoq.cell k y hy
          have hyn : 0 < y.length := by
            rcases hyp with ⟨m, rfl, _⟩ | h
            · simp
            · exact List.length_pos_iff.2 h.1
          obtain ⟨q, hq⟩ : ∃ q, y.length - 1 = q := ⟨_, rfl⟩
          obtain ⟨Y, hY⟩ : ∃ Y, strL y = Y := ⟨_, rfl⟩
          have sY : Y.size = y.length := by rw [← hY, strL_size]
          have hqY : q < Y.size := by omega
          have RI := run_index_str Y q q rfl hqY
          rw [last_byte y Y hY q (by omega) hqY] at RI
          have F1 : IntKind.i64.wrap ((Y.size : Int) - 1) = (q : Int) := by rw [IntKind.wrap_i64]; omega
          rw [hY] at hcell
          have hfs := filter_snoc ends ls k y hy
          have hfn := filter_snoc (fun l => !ends l) ls k y hy
          have htl := fun w' => told_any Y lim (by omega) hlm w'
          have lY : Y.data.toList = y := by rw [← hY]; rfl
          simp only [lY] at htl
          have hdl : (((ls.take k).filter ends).map (·.take lim)).length ≤ nl := by
            rw [List.length_map]
            refine Nat.le_trans (List.length_filter_le _ _) ?_
            rw [List.length_take]; omega
          have hqy : q < y.length := by omega
          rcases hyp with hyp | hyp
          · have e10 : ((y[q]'hqy).toNat : Int) = 10 := by
              obtain ⟨m, rfl, _⟩ := hyp
              rw [List.getElem_append_right (by rw [List.length_append] at hq; simp at hq; omega)]
              simp
            rw [e10] at RI
            rw [ends_term hyp, if_pos rfl] at hfs
            simp only [ends_term hyp, Bool.not_true, Bool.false_eq_true, if_false, List.append_nil] at hfn
            have P1 : Hid (((ls.take (k + 1)).filter ends).map (·.take lim) = ((ls.take k).filter ends).map (·.take lim) ++ [y.take lim]) := by rw [hfs, List.map_append]; rfl
            have P2 : Hid (((ls.take (k + 1)).filter fun l => !ends l).flatten = ((ls.take k).filter fun l => !ends l).flatten) := by show _ = _; rw [hfn]
            generalize y.take lim = Z at htl P1
            generalize ((ls.take k).filter ends).map (·.take lim) = D at hnow P1 hdl ⊢
            generalize ((ls.take k).filter fun l => !ends l).flatten = E at P2 ⊢
            have HIDE := Lib.hid (And.intro hY (And.intro sY (And.intro lY hfs)))
            clear hY sY lY hfs hfn hyl hym hy hq hqy hyn hyp e10 hoq
            have hcD : wr.drew.cell? ⟨g, k, none⟩ = some (.string Y) := hcell
            have hnD : Hid (wr.drew.ownsRow wS.heap.size 9 1 (.slice a2 D.length c2) D.length (D.map strV)) := hnow
            have hbD : Hid (Below wS.heap.size wS wr.drew) := hbq.out.drew
            have hsD : wS.heap.size ≤ wr.drew.heap.size := hsq
            go_wp2_with fail
            go_region
            generalize wr.drew = WD at hcD hnD hbD hsD ⊢
            go_wp2_with (first
              | (go_at_call 34; with_reducible refine (htl _).mono ?_; rintro e w9 ⟨rfl, hw⟩; rw [← hw]; clear hw w9)
              | (at_builtin; refine wpList_app (by rfl) (.tmp 48) (.tmp 55) rfl rfl wS.heap.size rfl rfl (World.ownsRow.alloc hnD.out _) (own_one WD Z) (by rw [World.size_alloc]; omega) (by simp; omega) ?_; intro a3 c3 w3 h3 g3; replace h3 := Lib.hid h3; replace g3 := Lib.hid g3))
            go_roundw
            case rel =>
              refine ⟨k + 1, by omega, by go_num, by rw [P2.out], ⟨a3, c3, by rw [P1.out, List.length_append]; rfl, ?_⟩, ?_⟩
              · have h := h3.out
                rw [List.length_append, List.length_singleton] at h
                show w3.ownsRow _ _ _ _ _ _
                rw [P1.out, List.length_append, List.length_singleton]
                exact h
              · exact (hbD.out.alloc hsD _).grown g3.out (by rw [World.size_alloc]; omega) (fun k e => (hnD.out.lt k e).1)
            case measure => simp [intOf]; omega
          · have hny : y[q]'hqy ≠ 10 := fun e => hyp.2 (e ▸ List.getElem_mem hqy)
            obtain ⟨cc, hcc⟩ : ∃ cc : Nat, (y[q]'hqy).toNat = cc := ⟨_, rfl⟩
            rw [hcc] at RI
            have e10 : ((cc : Int) == 10) = false := by
              rw [beq_eq_false_iff_ne]; intro e; exact hny (UInt8.toNat_inj.1 (by rw [hcc]; show cc = 10; omega))
            have hE : ((ls.take k).filter fun l => !ends l) = [] := filter_term (HG.out.2.1 k y hy)
            simp only [ends_tail hyp, Bool.false_eq_true, if_false, List.append_nil] at hfs
            rw [hE] at hfn
            simp only [ends_tail hyp, Bool.not_false, if_true, List.nil_append] at hfn
            have P1 : Hid (((ls.take (k + 1)).filter ends).map (·.take lim) = ((ls.take k).filter ends).map (·.take lim)) := by show _ = _; rw [hfs]
            have P2 : Hid (Value.string Y = Value.string (strL (((ls.take (k + 1)).filter fun l => !ends l).flatten))) := by
              show _ = _
              rw [hfn, ← hY]; simp
            generalize ((ls.take k).filter ends).map (·.take lim) = D at hnow P1 hdl ⊢
            generalize ((ls.take k).filter fun l => !ends l).flatten = E
            clear hY sY lY hfs hfn hyl hym hy hq hqy hyn hyp hoq hE hny hcc htl
            go_wp2_with fail
            go_region
            go_wp2_with fail
            go_roundw
            case rel => exact ⟨k + 1, by omega, by go_num, P2.out, ⟨a2, c2, by rw [P1.out], by rw [P1.out]; exact hnow.out⟩, hbq.out.drew⟩
            case measure => simp [intOf]; omega
        · obtain rfl : k = nl := by omega
          have hT : ls.take k = ls := List.take_of_length_le (by rw [HNL.out]; exact Nat.le_refl _)
          rw [hT] at hnow ⊢
          have hrq : Below WO.heap.size WO wr := HBS.out.trans (hbq.out.mono hsS)
          have ho2 := hout.out.step hrq
          have hn2 : Own wr (.slice a2 ((ls.filter ends).map (·.take lim)).length c2) (wantAt lim xs j) := ⟨_, by rw [HW.out]; exact hnow.out⟩
          have hnn : ((ls.filter ends).map (·.take lim)).length = (wantAt lim xs j).length := by rw [HW.out]
          have hrw := hrq.size
          have HRQ := Lib.hid (hbel.out.trans (hrq.mono hws))
          generalize ((ls.filter ends).map (·.take lim)).length = D at hn2 hnn ⊢
          have HO := Lib.hid ho2
          have HN2 := Lib.hid hn2
          have HNN := Lib.hid hnn
          generalize hEE : (ls.filter fun l => !ends l).flatten = E at HBN ⊢
          clear ho2 hn2 hnn hT hEE hnow
          go_wp2_with (at_builtin; refine wpList_more rfl (.tmp 61) (.tmp 63) rfl w.heap.size rfl rfl HO.out HN2.out HNN.out (by omega) (by omega) ?_; intro a4 c4 w4 h4 g4; replace h4 := Lib.hid h4; replace g4 := Lib.hid g4)
          go_roundw
          case rel => exact ⟨j + 1, by omega, by go_num, by rw [HBN.out], ⟨a4, c4, rfl, h4.out⟩, HRQ.out.trans g4.out⟩
          case measure => simp [intOf]; omega
    · obtain rfl : j = N := by omega
      have htl := fun w' => told_any (strL (begunAt xs j)) lim (by rw [strL_size]; omega) hlm w'
      simp only [strL_list] at htl
      go_wp2_with (go_at_call 34; with_reducible refine (htl _).mono ?_; rintro e w9 ⟨rfl, hw⟩; rw [← hw]; clear hw w9)
      go_ret2
      exact ⟨a1, c1, rfl, hout.out, hbel.out⟩
end Go.Proofs.Ytpoimbhfggkiiaa
