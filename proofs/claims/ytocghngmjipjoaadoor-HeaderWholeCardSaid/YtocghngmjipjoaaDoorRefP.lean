/- The reference's Parse. -/
import Derived.Test.YtocghngmjipjoaaDoorRefF
import Derived.Test.YtocghngmjipjoaaDoorIdxPure
namespace Go.Proofs.YtocghngmjipjoaaDoor
open Go.ChangeShapes Go.WideShapes Go.ChangeAt Go.RowKit
open LinesP HdrP

/-- Older memory, the lines, and the fields that have been read. -/
structure Rp (w0 w : World) (u : Value) (L : List (List UInt8)) (v : Value) (d : List Fld) : Prop where
  bel : Below w0.heap.size w0 w
  lines : Own w u L
  out : w.ownsRow w0.heap.size 38 4 v d.length (fldsV d)
theorem Rp.step {w0 w w' : World} {u v : Value} {L : List (List UInt8)} {d : List Fld} (h : Rp w0 w u L v d) (hb : Below w.heap.size w w') : Rp w0 w' u L v d :=
  ⟨h.bel.trans (hb.mono h.bel.size), h.lines.step hb, own_below h.out hb⟩
theorem Rp.next {w0 w w' : World} {u v v' : Value} {L : List (List UInt8)} {d d' : List Fld} (h : Rp w0 w u L v d) (o : Obj) (hg : (w.alloc o).grownBy w' v.ownBlock) (ho : w'.ownsRow w0.heap.size 38 4 v' d'.length (fldsV d')) : Rp w0 w' u L v' d' := by
  refine ⟨(h.bel.alloc h.bel.size o).grown hg (by have := h.bel.size; rw [World.size_alloc]; omega) (fun k e => (h.out.lt k e).1), ?_, ho⟩
  obtain ⟨b, h9⟩ := h.lines
  refine ⟨b, (World.ownsRow.alloc h9 o).kept hg ?_⟩
  rcases h9.2 with ⟨rfl, _⟩ | ⟨g, cap, cur, rfl, _, hg9, _⟩
  · exact .inl rfl
  · right
    intro e
    rcases h.out.2 with ⟨rfl, _⟩ | ⟨g2, _, _, rfl, _, hg5, _⟩
    · simp [Value.ownBlock] at e
    · simp [Value.ownBlock] at e
      subst e
      have := hg9.symm.trans hg5
      simp at this
theorem flat_take_le (L : List (List UInt8)) (i : Nat) : (L.take i).flatten.length ≤ L.flatten.length := by
  have : L.flatten = (L.take i).flatten ++ (L.drop i).flatten := by rw [← List.flatten_append, List.take_append_drop]
  rw [this, List.length_append]; omega
theorem flat_take_step (L : List (List UInt8)) (i : Nat) (l : List UInt8) (h : L[i]? = some l) : (L.take (i + 1)).flatten.length = (L.take i).flatten.length + l.length := by
  rw [List.take_add_one, h]; simp
theorem groups_len (L : List (List UInt8)) : (groups L).length ≤ L.length := by
  have key : ∀ L : List (List UInt8), (nextL L).length ≤ L.length := by
    intro L
    induction L with
    | nil => exact Nat.le_refl _
    | cons l r ih =>
      unfold nextL
      split
      · rw [List.length_cons]; omega
      · rw [List.length_cons, List.length_cons]; omega
  cases L with
  | nil => exact Nat.le_refl _
  | cons l r =>
    have := key r
    show (fieldL l (moreL r) :: nextL r).length ≤ _
    rw [List.length_cons, List.length_cons]; omega
theorem begun_at {x : List UInt8} {A : ByteArray} (h : A.data.toList = x) (h0 : 0 < A.size) : HdrP.begun x = HdrP.blank (A[0]'h0) := by
  rw [← h, begun_is A h0]
theorem cont_le (L : List (List UInt8)) (j k : Nat) : (L.take (j + 1)).flatten.length + (contL L j k).flatten.length ≤ L.flatten.length := by
  unfold contL
  have e : L.flatten = (L.take (j + 1)).flatten ++ (L.drop (j + 1)).flatten := by rw [← List.flatten_append, List.take_append_drop]
  have := flat_take_le (L.drop (j + 1)) (k - (j + 1))
  rw [e, List.length_append]; omega
set_option maxRecDepth 100000 in
set_option maxHeartbeats 4000000 in
theorem rparse_any (s : ByteArray) (hs : s.size ≤ 100000) (w : World) :
    Calls Tryd.prog 11 #[.string s] w fun e w' => ∃ a c, e = .returned (.tuple #[.slice a (parseL s.data.toList).length c, .int .i64 (atL s.data.toList)]) ∧ OwnF w' (.slice a (parseL s.data.toList).length c) (parseL s.data.toList) ∧ Below w.heap.size w w' := by
  have hSp := rlines_any s (by omega) w
  have hG := split_good s.data.toList
  have hflat := congrArg List.length (split_flat s.data.toList)
  rw [← size_list] at hflat
  have hnl := split_len s.data.toList
  rw [← size_list] at hnl
  have hpa : parseL s.data.toList = groups (hdrL (splitL s.data.toList)) := rfl
  have hat : atL s.data.toList = (hdrL (splitL s.data.toList)).flatten.length + (((splitL s.data.toList).dropWhile full).head?.getD []).length := rfl
  generalize parseL s.data.toList = PP at hpa ⊢
  generalize atL s.data.toList = AA at hat ⊢
  generalize splitL s.data.toList = L at hSp hG hflat hnl hpa hat
  obtain ⟨N, hN⟩ : ∃ N, L.length = N := ⟨_, rfl⟩
  rw [hN] at hSp hnl
  have HG := Lib.hid hG
  have HF := Lib.hid hflat
  have HN := Lib.hid hN
  have HP := Lib.hid (And.intro hpa hat)
  clear hG hflat hN hpa hat
  go_enter Tryd.func11, Tryd.ntmps11
  go_wp2_with (go_at_call 26; (refine hSp.mono ?_); rintro e w1 ⟨a1, c1, rfl, o1, hb1⟩)
  clear hSp
  have hst : Rp w w1 (.slice a1 N c1) L (.slice none 0 0) [] := ⟨hb1, ⟨_, by rw [HN.out]; exact o1⟩, World.ownsRow_nil _ _ _ _⟩
  have HST := Lib.hid hst
  clear hst o1 hb1
  go_loopw [5, 6, 7] (fun o t i wr => ∃ (j m q : Nat), j ≤ N ∧ m ≤ j ∧ q ≤ 100000 ∧ i = .int .i64 j ∧ t = .int .i64 q ∧ Hid ((L.take j).flatten.length = q) ∧ Hid ((groups (L.take j)).length = m) ∧ Hid (At L j) ∧ (∃ a c, o = .slice a m c) ∧ Hid (Rp w wr (.slice a1 N c1) L o (groups (L.take j)))) (fun _ _ i _ => N - (intOf i).toNat)
  case atStart => exact ⟨0, 0, 0, Nat.zero_le _, Nat.le_refl _, by omega, rfl, rfl, rfl, rfl, At.zero L, ⟨none, 0, rfl⟩, HST⟩
  case round =>
    obtain ⟨j, m, q, hj, hmj, hq, rfl, rfl, hql, hml, hAt, ⟨a, c, rfl⟩, hst⟩ := hrel
    by_cases hlt : j < N
    · have hlt' : (j : Int) < (N : Int) := by omega
      obtain ⟨g1, rfl⟩ := hst.out.lines.at (by omega)
      obtain ⟨l, hl⟩ : ∃ l, L[j]? = some l := ⟨_, List.getElem?_eq_getElem (by rw [HN.out]; exact hlt)⟩
      have kc := hst.out.lines.cell j l hl
      have hll := flat_take_step L j l hl
      rw [hql.out] at hll
      have hll2 := flat_take_le L (j + 1)
      rw [HF.out, hll] at hll2
      have cB := fun w => rbare_any (strL l) (by rw [strL_size]; omega) w
      rw [strL_list] at cB
      have hfull : (strL (bareL l)).toList.isEmpty = !full l := by
        rw [ByteArray.toList_eq, strL_list]
        unfold full
        rw [Bool.not_not]
      have sA : (strL l).size = l.length := strL_size l
      obtain ⟨A, hA⟩ : ∃ A, strL l = A := ⟨_, rfl⟩
      rw [hA] at kc cB sA
      have F1 : IntKind.i64.wrap ((q : Int) + (A.size : Int)) = (q : Int) + (A.size : Int) := by rw [IntKind.wrap_i64]; omega
      obtain ⟨B, hB⟩ : ∃ B, strL (bareL l) = B := ⟨_, rfl⟩
      rw [hB] at cB hfull
      by_cases hfl : full l = true
      · rw [hfl] at hfull
        have HL := Lib.hid hl
        have HFL := Lib.hid hfl
        have HAA : Hid (A.data.toList = l) := by show _ = _; rw [← hA]; rfl
        have HAZ := Lib.hid sA
        have F9 : IntKind.i64.wrap ((j : Int) + 1) = ((j + 1 : Nat) : Int) := by rw [IntKind.wrap_i64]; omega
        clear hll hll2 hA hB sA hl hfl
        go_wp2_with (go_at_call 27; (refine (cB _).mono ?_); rintro e w9 ⟨rfl, hw⟩; rw [← hw]; clear hw w9)
        obtain ⟨WO, rfl⟩ : ∃ WO, WO = wr := ⟨_, rfl⟩
        go_loopw [8, 9] (fun mo kk wr2 => ∃ (k : Nat) (M : ByteArray), j + 1 ≤ k ∧ k ≤ N ∧ kk = .int .i64 k ∧ mo = .string M ∧ wr2 = WO ∧ Hid (M.data.toList = (contL L j k).flatten) ∧ Hid (∀ x ∈ contL L j k, HdrP.begun x = true) ∧ M.size ≤ 100000) (fun _ kk _ => N - (intOf kk).toNat)
        case atStart => exact ⟨j + 1, ⟨#[]⟩, Nat.le_refl _, by omega, rfl, rfl, rfl, Lib.hid (by rw [cont_start]; rfl), Lib.hid (by rw [cont_start]; intro x hx; cases hx), by decide⟩
        case round =>
          obtain ⟨k, M, hjk, hkN, rfl, rfl, rfl, HMM, hcont, hMs⟩ := hrel
          by_cases hk2 : k < N
          · have hk2' : (k : Int) < (N : Int) := by omega
            obtain ⟨x, hx⟩ : ∃ x, L[k]? = some x := ⟨_, List.getElem?_eq_getElem (by rw [HN.out]; exact hk2)⟩
            have kx := hst.out.lines.cell k x hx
            have hx0 : 0 < x.length := by
              rcases good_mem HG.out x (List.mem_of_getElem? hx) with ⟨y, rfl, _⟩ | h
              · simp
              · exact List.length_pos_iff.2 h.1
            have sD : (strL x).size = x.length := strL_size x
            have lD : (strL x).data.toList = x := rfl
            generalize strL x = D at kx sD lD
            have hD0 : 0 < D.size := by omega
            have hD0' : (0 : Int) < (D.size : Int) := by omega
            have RI := run_index_str D 0 0 rfl hD0
            have hbx := begun_at lD hD0
            have cBl := fun w => rblank_any (D[0]'hD0) _ rfl w
            rw [← hbx] at cBl
            generalize (D[0]'hD0).toNat = y at RI cBl
            have K1 : IntKind.i64.wrap ((k : Int) + 1) = (k : Int) + 1 := by rw [IntKind.wrap_i64]; omega
            by_cases hbg : HdrP.begun x = true
            · rw [hbg] at cBl
              have hcm := cont_more L j k x hjk hx
              have hcl := cont_le L j (k + 1)
              rw [HF.out, hcm, List.flatten_append, List.length_append, ← HMM.out, ← size_list] at hcl
              simp only [List.flatten_cons, List.flatten_nil, List.append_nil] at hcl
              have hMD : Hid ((M ++ D).data.toList = (contL L j (k + 1)).flatten) := by
                show _ = _
                rw [list_append, HMM.out, lD, hcm, List.flatten_append]
                simp
              have hcont2 : Hid (∀ z ∈ contL L j (k + 1), HdrP.begun z = true) := by
                rw [hcm]
                intro z hz
                rcases List.mem_append.1 hz with hz | hz
                · exact hcont.out z hz
                · rw [List.mem_singleton.1 hz]; exact hbg
              have hDs : M.size + D.size ≤ 100000 := by omega
              clear hcm hcl hbx hbg lD sD hx hx0
              go_wp2_with (go_at_call 32; (refine (cBl _).mono ?_); rintro e w9 ⟨rfl, hw⟩; rw [← hw]; clear hw w9)
              go_roundw
              case rel => exact ⟨k + 1, M ++ D, by omega, by omega, by go_num, rfl, trivial, hMD, hcont2, by rw [ByteArray.size_append]; exact hDs⟩
              case measure => simp [intOf]; omega
            · have hbg' : HdrP.begun x = false := by simpa using hbg
              rw [hbg'] at cBl
              have HX := Lib.hid hx
              have HBG := Lib.hid hbg'
              clear hbx hbg hbg' lD sD hx hx0 K1
              obtain ⟨h1, h2, h3⟩ := hAt.out.step HG.out HL.out HFL.out hjk (by rw [HN.out]; omega) hcont.out (fun z hz => by rw [HX.out] at hz; cases hz; exact HBG.out)
              have hMl : M.size = (contL L j k).flatten.length := by rw [size_list, HMM.out]
              have hql2 := hql.out
              have hAz := HAZ.out
              have hcl := cont_le L j k
              rw [HF.out] at hcl
              have hcl2 := flat_take_step L j l HL.out
              have hQ : Hid ((L.take k).flatten.length = q + A.size + M.size) := by show _ = _; omega
              have hQb : q + A.size + M.size ≤ 100000 := by omega
              have HATK := Lib.hid h1
              have HGR := Lib.hid h2
              have hgl : Hid ((groups (L.take k)).length = m + 1) := by show _ = _; rw [h2, List.length_append, hml.out]; rfl
              have cF := fun w => rfield_any A M (by omega) (by omega) w
              rw [HAA.out, HMM.out] at cF
              obtain ⟨f, hf⟩ : ∃ f, fieldL l (contL L j k).flatten = f := ⟨_, rfl⟩
              rw [hf] at cF
              have HFF := Lib.hid hf
              have cF' : ∀ w, Calls Tryd.prog 37 #[.string A, .string M] w fun e w' => e = .returned (.agg #[.string (strL f.name), .string (strL f.value), .string (strL f.raw), .bool f.bad]) ∧ Below w.heap.size w w' := cF
              have G1 : IntKind.i64.wrap ((q : Int) + (A.size : Int) + (M.size : Int)) = (q : Int) + (A.size : Int) + (M.size : Int) := by rw [IntKind.wrap_i64]; omega
              have G2 : IntKind.i64.wrap ((k : Int) - 1) = (k : Int) - 1 := by rw [IntKind.wrap_i64]; omega
              have G3 : IntKind.i64.wrap ((k : Int) - 1 + 1) = (k : Int) := by rw [IntKind.wrap_i64]; omega
              have hdm : m ≤ 1000000 := by omega
              clear h1 h2 h3 hMl hql2 hAz hcl hcl2 hf cF
              go_wp2_with (first
                | (go_at_call 32; (refine (cBl _).mono ?_); rintro e w9 ⟨rfl, hw⟩; rw [← hw]; clear hw w9 cBl)
                | (go_at_call 37; (refine (cF' _).mono ?_); rintro e w4 ⟨rfl, hb4⟩; have hst4 := Lib.hid (hst.out.step hb4); have hbz := hst4.out.bel.size; clear hb4 cF')
                | (at_builtin; refine wpList_appF (by rfl) (.tmp 67) (.tmp 74) rfl rfl w.heap.size f rfl rfl hst4.out.out hml.out hbz hdm ?_; intro a2 c2 w5 h5 g5; replace h5 := Lib.hid h5; replace g5 := Lib.hid g5))
              go_roundw
              case rel =>
                have hn := hst4.out.next (d' := groups (L.take k)) _ g5.out (by rw [HGR.out, HFF.out]; exact h5.out)
                exact ⟨k, m + 1, q + A.size + M.size, by omega, by omega, hQb, by go_num, by rw [Int.natCast_add, Int.natCast_add], hQ, hgl, HATK, ⟨a2, c2, rfl⟩, Lib.hid hn⟩
              case measure => simp [intOf]; omega
          · obtain rfl : k = N := by omega
            have hk2' : ¬ (k : Int) < (k : Int) := by omega
            obtain ⟨h1, h2, h3⟩ := hAt.out.step HG.out HL.out HFL.out hjk (by rw [HN.out]; omega) hcont.out (fun z hz => by rw [List.getElem?_eq_none (by rw [HN.out]; exact Nat.le_refl _)] at hz; cases hz)
            have hMl : M.size = (contL L j k).flatten.length := by rw [size_list, HMM.out]
            have hql2 := hql.out
            have hAz := HAZ.out
            have hcl := cont_le L j k
            rw [HF.out] at hcl
            have hcl2 := flat_take_step L j l HL.out
            have hQ : Hid ((L.take k).flatten.length = q + A.size + M.size) := by show _ = _; omega
            have hQb : q + A.size + M.size ≤ 100000 := by omega
            have HATK := Lib.hid h1
            have HGR := Lib.hid h2
            have hgl : Hid ((groups (L.take k)).length = m + 1) := by show _ = _; rw [h2, List.length_append, hml.out]; rfl
            have cF := fun w => rfield_any A M (by omega) (by omega) w
            rw [HAA.out, HMM.out] at cF
            obtain ⟨f, hf⟩ : ∃ f, fieldL l (contL L j k).flatten = f := ⟨_, rfl⟩
            rw [hf] at cF
            have HFF := Lib.hid hf
            have cF' : ∀ w, Calls Tryd.prog 37 #[.string A, .string M] w fun e w' => e = .returned (.agg #[.string (strL f.name), .string (strL f.value), .string (strL f.raw), .bool f.bad]) ∧ Below w.heap.size w w' := cF
            have G1 : IntKind.i64.wrap ((q : Int) + (A.size : Int) + (M.size : Int)) = (q : Int) + (A.size : Int) + (M.size : Int) := by rw [IntKind.wrap_i64]; omega
            have G2 : IntKind.i64.wrap ((k : Int) - 1) = (k : Int) - 1 := by rw [IntKind.wrap_i64]; omega
            have G3 : IntKind.i64.wrap ((k : Int) - 1 + 1) = (k : Int) := by rw [IntKind.wrap_i64]; omega
            have hdm : m ≤ 1000000 := by omega
            clear h1 h2 h3 hMl hql2 hAz hcl hcl2 hf cF
            go_wp2_with (first
              | (go_at_call 37; (refine (cF' _).mono ?_); rintro e w4 ⟨rfl, hb4⟩; have hst4 := Lib.hid (hst.out.step hb4); have hbz := hst4.out.bel.size; clear hb4 cF')
              | (at_builtin; refine wpList_appF (by rfl) (.tmp 67) (.tmp 74) rfl rfl w.heap.size f rfl rfl hst4.out.out hml.out hbz hdm ?_; intro a2 c2 w5 h5 g5; replace h5 := Lib.hid h5; replace g5 := Lib.hid g5))
            go_roundw
            case rel =>
              have hn := hst4.out.next (d' := groups (L.take k)) _ g5.out (by rw [HGR.out, HFF.out]; exact h5.out)
              exact ⟨k, m + 1, q + A.size + M.size, by omega, by omega, hQb, by go_num, by rw [Int.natCast_add, Int.natCast_add], hQ, hgl, HATK, ⟨a2, c2, rfl⟩, Lib.hid hn⟩
            case measure => simp [intOf]; omega
      · have hfl' : full l = false := by simpa using hfl
        rw [hfl'] at hfull
        have hE := hAt.out.empty hl hfl'
        have HE : Hid (PP = groups (L.take j) ∧ AA = q + l.length) := by
          refine ⟨?_, ?_⟩
          · rw [HP.out.1, hE.1]
          · rw [HP.out.2, hE.1, hE.2, hql.out]
        have hsz := Lib.hid sA
        clear hll hll2 hE hA hB sA hl hfl hfl'
        go_wp2_with (go_at_call 27; (refine (cB _).mono ?_); rintro e w9 ⟨rfl, hw⟩; rw [← hw]; clear hw w9)
        go_ret2
        obtain ⟨e1, e2⟩ := HE.out
        have e3 := hml.out
        have h := hst.out
        subst e1
        rw [e3, e2]
        exact ⟨a, c, by rw [Int.natCast_add, ← hsz.out]; rfl, ⟨_, by have := h.out; rw [e3] at this ⊢; exact this⟩, h.bel⟩
    · obtain rfl : j = N := by omega
      have hlt' : ¬ (j : Int) < (j : Int) := by omega
      have HE : Hid (PP = groups (L.take j) ∧ AA = q) := by
        have hd := At.done (ls := L) (by rw [HN.out]; exact hAt.out)
        have hT : L.take j = L := List.take_of_length_le (by rw [HN.out]; exact Nat.le_refl _)
        have h3 := hql.out
        rw [hT] at h3 ⊢
        refine ⟨?_, ?_⟩
        · rw [HP.out.1, hd.1]
        · rw [HP.out.2, hd.1, hd.2]; simp at h3 ⊢; exact h3
      go_wp2_with fail
      go_ret2
      obtain ⟨e1, e2⟩ := HE.out
      have e3 := hml.out
      have h := hst.out
      subst e1
      rw [e3, e2]
      exact ⟨a, c, rfl, ⟨_, by have := h.out; rw [e3] at this ⊢; exact this⟩, h.bel⟩
end Go.Proofs.YtocghngmjipjoaaDoor
