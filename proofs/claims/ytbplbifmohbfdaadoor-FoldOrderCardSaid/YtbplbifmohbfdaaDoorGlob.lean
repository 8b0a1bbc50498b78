/- fold.Glob: each piece at its first place, and the parts. -/
import Derived.Test.YtbplbifmohbfdaaDoorGlobA
namespace Go.Proofs.YtbplbifmohbfdaaDoor
open Go.ChangeShapes Go.WideShapes Go.ChangeAt Go.RowKit

theorem flat_part (vs : List (List UInt8)) (f n : Nat) : ((vs.drop f).take n).flatten.length ≤ vs.flatten.length := by
  have h : vs = vs.take f ++ ((vs.drop f).take n ++ (vs.drop f).drop n) := by rw [List.take_append_drop, List.take_append_drop]
  have := congrArg (fun l => l.flatten.length) h
  simp only [List.flatten_append, List.length_append] at this
  omega
theorem walk_none {ks vs : List (List UInt8)} {first : Bool} {p : List (List UInt8)} {ps : List (List (List UInt8))} {fin : Nat} {acc : List (List UInt8)} {R : Option (List (List UInt8))} (h : walkP ks vs first (p :: ps) fin acc = R)
    (e : placeN p ks (lowP ps.isEmpty p ks fin) (numP first ps.isEmpty p ks fin) = none) : R = none := by
  simp only [walkP] at h
  rw [e] at h
  exact h.symm
theorem walk_some {ks vs : List (List UInt8)} {first : Bool} {p : List (List UInt8)} {ps : List (List (List UInt8))} {fin i : Nat} {acc : List (List UInt8)} {R : Option (List (List UInt8))} (h : walkP ks vs first (p :: ps) fin acc = R)
    (e : placeN p ks (lowP ps.isEmpty p ks fin) (numP first ps.isEmpty p ks fin) = some i) :
    walkP ks vs false ps (i + p.length) (acc ++ (if first = true then [] else [((vs.drop fin).take (i - fin)).flatten]) ++ anysU p (vs.drop i)) = R ∧ fin ≤ i ∧ i + p.length ≤ ks.length := by
  simp only [walkP] at h
  rw [e] at h
  obtain ⟨h1, h2, _, _⟩ := (place_some _ _ _ _ _).1 e
  refine ⟨h, ?_⟩
  unfold numP at h2
  unfold lowP at h1 h2
  by_cases hp : p.length ≤ ks.length
  · rw [if_pos hp] at h2
    cases first <;> cases hE : ps.isEmpty <;> simp only [hE, if_true, Bool.false_eq_true, if_false] at h1 h2 <;> omega
  · rw [if_neg hp] at h2
    omega
theorem strs_app (a b : List (List UInt8)) : strsOf a ++ strsOf b = strsOf (a ++ b) := by unfold strsOf; rw [List.map_append]
theorem isE (R : List (List (List UInt8))) (k : Nat) (RL : Nat) (h : R.length = RL) (hk : k < RL) : (R.drop (k + 1)).isEmpty = decide (k + 1 = RL) := by
  rw [Bool.eq_iff_iff, List.isEmpty_iff, decide_eq_true_eq]
  constructor
  · intro e
    have := congrArg List.length e
    rw [List.length_drop] at this
    simp at this
    omega
  · intro e
    exact List.drop_eq_nil_of_le (by omega)
set_option maxHeartbeats 8000000 in
set_option maxRecDepth 1000000 in
theorem glob_any (comp : Int) (p s : ByteArray) (hp : p.size ≤ 100000) (hs : s.size ≤ 100000) (w : World) (hv : Vars w) (RES : Option (List (List UInt8))) (hRES : globP comp p.data.toList s.data.toList = RES) :
    Calls Tryd.prog 19 #[.int .i64 comp, .string p, .string s] w fun e w' => ∃ a n c, e = .returned (.tuple #[.slice a n c, .bool RES.isSome]) ∧ n = (RES.getD []).length ∧ Strs w' a (RES.getD []) ∧ Below w.heap.size w w' := by
  by_cases h3 : comp = 3
  · subst h3
    obtain rfl : RES = none := by rw [← hRES]; rfl
    go_enter Tryd.func19, Tryd.ntmps19
    go_wp2_with fail
    go_ret2
    exact ⟨none, 0, 0, rfl, rfl, strs_nil _ _, Below.refl _ _⟩
  · unfold globP at hRES
    rw [if_neg h3] at hRES
    obtain ⟨j0, hj, hy0, hy1, hy2⟩ := info_parts info9
    have hklen : (keyL comp s.data.toList).length = s.size := by rw [key_len, size_list]
    have hplen : (keyL comp p.data.toList).length = p.size := by rw [key_len, size_list]
    have cU := units_any s (by omega) w
    have cK := fun W hv => key_any comp s (by omega) W hv
    have cUK := fun W => units_any (strL (keyL comp s.data.toList)) (by rw [strL_size]; omega) W
    have cKP := fun W hv => key_any comp p (by omega) W hv
    have cSP := fun W => split_any (strL (keyL comp p.data.toList)) (by rw [strL_size]; omega) W
    rw [strL_list] at cUK cSP
    have hN : (unitsL (keyL comp s.data.toList)).length = (unitsL s.data.toList).length := keys_len comp _
    have hNle : (unitsL s.data.toList).length ≤ 100000 := by have := units_le s.data.toList; rw [← size_list] at this; omega
    have hfl : (unitsL s.data.toList).flatten.length ≤ 100000 := by rw [units_flat, ← size_list]; exact hs
    have hW : wtP (splitM (marksU (unitsL (keyL comp p.data.toList)))) ≤ 100001 := by
      rw [wt_split]
      have h1 := marks_len (unitsL (keyL comp p.data.toList))
      have h2 := units_le (keyL comp p.data.toList)
      omega
    have hRlen := wt_len (splitM (marksU (unitsL (keyL comp p.data.toList))))
    generalize splitM (marksU (unitsL (keyL comp p.data.toList))) = R at cSP hW hRES hRlen
    generalize strL (keyL comp p.data.toList) = P' at cKP cSP
    generalize unitsL (keyL comp s.data.toList) = ks at cUK hN hRES
    generalize strL (keyL comp s.data.toList) = S' at cK cUK
    generalize unitsL s.data.toList = vs at cU hN hNle hfl hRES
    obtain ⟨N, hvN⟩ : ∃ N, vs.length = N := ⟨_, rfl⟩
    obtain ⟨RL, hRL⟩ : ∃ RL, R.length = RL := ⟨_, rfl⟩
    rw [hvN] at hN hNle cU
    have hkN : ks.length = N := hN
    rw [hkN] at cUK
    rw [hRL] at cSP hRlen
    have HRES := Lib.hid hRES
    clear hRES hklen hplen hN
    go_enter Tryd.func19, Tryd.ntmps19
    go_wp2_with fail
    refine cU.mono ?_
    rintro e W1 ⟨gv, rfl, hSV, hgv, hb1⟩
    have hz1 := hb1.size
    go_wp2_with fail
    refine (cK W1 (hv.below hb1)).mono ?_
    rintro e W2 ⟨rfl, hb2⟩
    have hz2 := hb2.size
    go_wp2_with fail
    refine (cUK W2).mono ?_
    rintro e W3 ⟨gk, rfl, hSK, hgk, hb3⟩
    have hz3 := hb3.size
    go_wp2_with fail
    refine (cKP W3 (((hv.below hb1).below hb2).below hb3)).mono ?_
    rintro e W4 ⟨rfl, hb4⟩
    have hz4 := hb4.size
    go_wp2_with fail
    refine (cSP W4).mono ?_
    rintro e W5 ⟨gp, RL2, pcap, rfl, hRL2, hPs, hb5⟩
    have hz5 := hb5.size
    obtain rfl : RL2 = RL := hRL2
    replace hSV := (((hSV.below hb2).below hb3).below hb4).below hb5
    replace hSK := (hSK.below hb4).below hb5
    have hbA : Below w.heap.size w W5 := (((hb1.trans (hb2.mono hz1)).trans (hb3.mono (by omega))).trans (hb4.mono (by omega))).trans (hb5.mono (by omega))
    clear cU cK cUK cKP cSP hb1 hb2 hb3 hb4 hb5
    have hgv5 : gv < W5.heap.size := by omega
    have hgk5 : gk < W5.heap.size := by omega
    have hzA : w.heap.size ≤ W5.heap.size := by omega
    clear hz1 hz2 hz3 hz4 hz5 hgv hgk
    go_wp2_with fail
    go_loopw [11, 12, 34] (fun v fe iv wr => ∃ (k fin m : Nat) (acc : List (List UInt8)), fe = .int .i64 fin ∧ iv = .int .i64 k ∧ acc.length = m ∧ k ≤ RL2 ∧ fin ≤ N ∧ wr.ownsRow W5.heap.size 9 1 v m (strsOf acc) ∧ Below W5.heap.size W5 wr ∧ m + wtP (R.drop k) ≤ 100001 ∧ Hid (walkP ks vs (k == 0) (R.drop k) fin acc = RES)) (fun _ _ i _ => RL2 - (intOf i).toNat)
    case atStart => exact ⟨0, 0, 0, [], rfl, rfl, rfl, Nat.zero_le _, Nat.zero_le _, World.ownsRow_nil _ _ _ _, Below.refl _ _, by rw [List.drop_zero]; omega, by rw [List.drop_zero]; exact HRES⟩
    case round =>
      obtain ⟨k, fin, m, acc, rfl, rfl, hm, hk, hfin, hown, hbw, hwt, HK⟩ := hrel
      have hst := HK.out
      have hSVr := hSV.below hbw
      have hSKr := hSK.below hbw
      have hszr := hbw.size
      by_cases hlt : k < RL2
      · have hkR : k < R.length := by omega
        obtain ⟨p, hp⟩ : ∃ p, R[k] = p := ⟨_, rfl⟩
        have hdrop : R.drop k = p :: R.drop (k + 1) := by rw [List.drop_eq_getElem_cons hkR, hp]
        obtain ⟨pa, pc, lp, hpc, hSp, hpa⟩ := hPs k p (by rw [List.getElem?_eq_getElem hkR, hp])
        replace lp := cell_below lp hbw
        replace hSp := hSp.below hbw
        rw [hdrop] at hst hwt
        simp only [wtP] at hwt
        obtain ⟨pn, hpn⟩ : ∃ pn, p.length = pn := ⟨_, rfl⟩
        rw [hpn] at lp hwt hpc
        have hE := isE R k RL2 hRL hlt
        have cP : ∀ (F E : Bool) (PL : Option Nat), placeN p ks (lowP E p ks fin) (numP F E p ks fin) = PL → ∀ lo hi : Int, (lo = if E = true then max (fin : Int) ((N : Int) - pn) else fin) → (hi = if F = true then min 0 ((N : Int) - pn) else (N : Int) - pn) →
            Calls Tryd.prog 37 #[.slice pa pn pc, .slice (some ⟨gk, 0, none⟩) N N, .int .i64 lo, .int .i64 hi] wr fun e w' => e = .returned (.tuple #[.int .i64 (PL.getD 0 : Nat), .bool PL.isSome]) ∧ wr = w' := by
          intro F E PL hPL lo hi hlo hhi
          have e := low_is E p ks fin
          rw [hkN, hpn] at e
          obtain rfl : lo = (lowP E p ks fin : Nat) := by rw [hlo, e]
          have hl2 : lowP E p ks fin ≤ 2000000 := by
            have h9 : ((lowP E p ks fin : Nat) : Int) ≤ N := by
              rw [e]; split <;> omega
            omega
          have h := place_any p ks (by omega) pa gk 0 pn N pc N hpn hkN (Nat.le_refl _) (by omega) (lowP E p ks fin) hi (by rw [hkN, hpn, hhi]; split <;> omega) (by rw [hhi]; split <;> omega) hl2 wr hSp hSKr
          rw [num_is F E p ks fin hi (by rw [hkN, hpn]; exact hhi), hPL] at h
          exact h
        obtain ⟨F, hF⟩ : ∃ F, (k == 0) = F := ⟨_, rfl⟩
        obtain ⟨E, hEE⟩ : ∃ E, (R.drop (k + 1)).isEmpty = E := ⟨_, rfl⟩
        rw [hF] at hst
        rw [hEE] at hE
        have hown9 := hown
        have hlt0 : ∀ j, u11.ownBlock = some j → W5.heap.size ≤ j := fun j hj => (hown9.lt j hj).1
        cases hPL : placeN p ks (lowP E p ks fin) (numP F E p ks fin) with
        | none =>
          obtain rfl := walk_none hst (by rw [hEE]; exact hPL)
          replace cP := cP _ _ _ hPL
          simp only [Option.getD_none, Option.isSome_none] at cP
          clear hPL hst hp hdrop HK HRES hown hown9 hlt0
          cases F
          · have hk0 : ¬ (k : Int) = 0 := by
              have : k ≠ 0 := by simpa using hF
              omega
            cases E
            · have hkl : ¬ (k : Int) = (RL2 : Int) - 1 := by
                have := of_decide_eq_false hE.symm
                omega
              simp only [Bool.false_eq_true, if_false] at cP
              clear hF hEE hE
              go_wp2_with (go_at_call 37; with_reducible refine (cP _ _ (by omega) (by omega)).mono ?_; rintro e w1 ⟨rfl, rfl⟩)
              go_ret2
              exact ⟨none, 0, 0, rfl, rfl, strs_nil _ _, hbA.trans (hbw.mono hzA)⟩
            · have hkl : (RL2 : Int) - 1 = (k : Int) := by
                have := of_decide_eq_true hE.symm
                omega
              simp only [if_true, Bool.false_eq_true, if_false] at cP
              clear hF hEE hE
              go_wp2_with (go_at_call 37; with_reducible refine (cP _ _ (by omega) (by omega)).mono ?_; rintro e w1 ⟨rfl, rfl⟩)
              go_ret2
              exact ⟨none, 0, 0, rfl, rfl, strs_nil _ _, hbA.trans (hbw.mono hzA)⟩
          · obtain rfl : k = 0 := by simpa using hF
            cases E
            · have hkl : ¬ (0 : Int) = (RL2 : Int) - 1 := by
                have := of_decide_eq_false hE.symm
                omega
              simp only [if_true, Bool.false_eq_true, if_false] at cP
              clear hF hEE hE
              go_wp2_with (go_at_call 37; with_reducible refine (cP _ _ (by omega) (by omega)).mono ?_; rintro e w1 ⟨rfl, rfl⟩)
              go_ret2
              exact ⟨none, 0, 0, rfl, rfl, strs_nil _ _, hbA.trans (hbw.mono hzA)⟩
            · have hkl : (RL2 : Int) - 1 = (0 : Int) := by
                have := of_decide_eq_true hE.symm
                omega
              simp only [if_true] at cP
              clear hF hEE hE
              go_wp2_with (go_at_call 37; with_reducible refine (cP _ _ (by omega) (by omega)).mono ?_; rintro e w1 ⟨rfl, rfl⟩)
              go_ret2
              exact ⟨none, 0, 0, rfl, rfl, strs_nil _ _, hbA.trans (hbw.mono hzA)⟩
        | some i =>
          obtain ⟨hst2, hfi, hin⟩ := walk_some hst (by rw [hEE]; exact hPL)
          replace cP := cP _ _ _ hPL
          simp only [Option.getD_some, Option.isSome_some] at cP
          rw [hkN, hpn] at hin
          obtain ⟨J, hJ⟩ : ∃ J, ((vs.drop fin).take (i - fin)).flatten = J := ⟨_, rfl⟩
          obtain ⟨A, hA⟩ : ∃ A, anysU p (vs.drop i) = A := ⟨_, rfl⟩
          have hAn : A.length ≤ pn := by rw [← hA, ← hpn]; exact anys_le _ _
          rw [hJ, hA, hpn] at hst2
          have hJl : J.length ≤ 100000 := by rw [← hJ]; exact Nat.le_trans (flat_part _ _ _) hfl
          have cJ : ∀ (o n c : Nat), (n = 0 ∨ o = fin) → n = i - fin → n ≤ c → Calls Tryd.prog 38 #[.slice (some ⟨gv, o, none⟩) n c, .string ⟨#[]⟩] wr fun e w' => e = .returned (.string (strL J)) ∧ Below wr.heap.size wr w' := by
            intro o n c ho hn hc
            have hl : ((vs.drop fin).take (i - fin)).length = n := by rw [List.length_take, List.length_drop, hvN]; omega
            have h := join_any ((vs.drop fin).take (i - fin)) gv o c wr (by
              rcases ho with h0 | rfl
              · rw [List.eq_nil_of_length_eq_zero (hl.trans h0)]; exact strs_nil _ _
              · have := (hSVr.drop o).take (i - o)
                rw [Nat.zero_add] at this
                exact this) (by omega) n hl hc (by omega) (by rw [hJ]; omega)
            rw [hJ] at h
            exact h
          have cA : ∀ (W : World) (acc2 : List (List UInt8)) (v0 : Value) (n0 o n c : Nat), (n = 0 ∨ o = i) → n = pn → Strs W pa p → Strs W (some ⟨gv, 0, none⟩) vs → W5.heap.size ≤ W.heap.size → acc2.length = n0 → n0 ≤ 1000000 → W.ownsRow W5.heap.size 9 1 v0 n0 (strsOf acc2) →
              Calls Tryd.prog 39 #[v0, .slice pa pn pc, .slice (some ⟨gv, o, none⟩) n c] W fun e w' => ∃ v', e = .returned v' ∧ w'.ownsRow W5.heap.size 9 1 v' (n0 + A.length) (strsOf (acc2 ++ A)) ∧ W.grownBy w' v0.ownBlock := by
            intro W acc2 v0 n0 o n c ho hn hs1 hs2 hz hacc hn0 hown2
            have hfar : ∀ g, g < W5.heap.size → v0.ownBlock ≠ some g := fun g hg e => by
              have := (hown2.lt g e).1
              omega
            have hl : ((vs.drop i).take pn).length = n := by rw [List.length_take, List.length_drop, hvN]; omega
            have hAe : anysU p ((vs.drop i).take pn) = A := by rw [← hA, ← hpn]; exact anys_take _ _
            have h := anys_any W5.heap.size acc2 p ((vs.drop i).take pn) (by omega) (by omega) (by omega) v0 n0 hacc pa (some ⟨gv, o, none⟩) pn n pc c hpn hl W hz hs1 (by
              rcases ho with h0 | rfl
              · rw [List.eq_nil_of_length_eq_zero (hl.trans h0)]; exact strs_nil _ _
              · have := (hs2.drop o).take pn
                rw [Nat.zero_add] at this
                exact this) hown2 (fun g o' e => hfar g (hpa g o' e)) (fun g o' e => by injection e with e; injection e with e; exact hfar g (by omega)) (n0 + A.length) (by rw [hAe])
            rw [hAe] at h
            exact h
          have hgo : ∀ w6, Below wr.heap.size wr w6 → ∀ (ob : Obj) w2, (w6.alloc ob).grownBy w2 u11.ownBlock → Strs w2 pa p ∧ Strs w2 (some ⟨gv, 0, none⟩) vs ∧ Below W5.heap.size W5 w2 ∧ W5.heap.size ≤ w2.heap.size := by
            intro w6 hb6 ob w2 hg
            have hz6 := hb6.size
            have hb7 : Below wr.heap.size wr (w6.alloc ob) := hb6.alloc hz6 ob
            have hz7 := hb7.size
            have hz2 := hg.size
            have hfar : ∀ g, g < W5.heap.size → u11.ownBlock ≠ some g := fun g hg e => by
              have := hlt0 g e
              omega
            refine ⟨(hSp.below hb7).grown hg (fun g o e => hfar g (hpa g o e)), (hSVr.below hb7).grown hg (fun g o e => by injection e with e; injection e with e; exact hfar g (by omega)), ?_, by omega⟩
            exact (hbw.trans (hb7.mono hszr)).grown hg (by omega) hlt0
          have hend : ∀ (acc2 : List (List UInt8)) (v0 : Value) W w7, Below W5.heap.size W5 W → W5.heap.size ≤ W.heap.size → (∀ j, v0.ownBlock = some j → W5.heap.size ≤ j) → W.grownBy w7 v0.ownBlock → Below W5.heap.size W5 w7 := by
            intro acc2 v0 W w7 hb hz hl hg
            exact hb.grown hg hz hl
          replace hgo := Lib.hid hgo
          replace hend := Lib.hid hend
          replace hst2 := Lib.hid hst2
          replace hlt0 := Lib.hid hlt0
          clear hPL hst hp hdrop HK HRES hown9 hJ hA
          cases F
          · have hk0 : ¬ (k : Int) = 0 := by
              have : k ≠ 0 := by simpa using hF
              omega
            have hk1 : (0 : Int) < (k : Int) := by omega
            cases E
            · have hkl : ¬ (k : Int) = (RL2 : Int) - 1 := by
                have := of_decide_eq_false hE.symm
                omega
              simp only [Bool.false_eq_true, if_false] at cP
              clear hF hEE hE
              by_cases hz1 : N - fin = 0
              all_goals by_cases hz2 : N - i = 0
              all_goals try (exfalso; omega)
              all_goals
                go_wp2_with (first
                  | (go_at_call 37; with_reducible refine (cP _ _ (by omega) (by omega)).mono ?_; rintro e w1 ⟨rfl, rfl⟩)
                  | (go_at_call 38; with_reducible refine (cJ _ _ _ (by omega) (by omega) (by omega)).mono ?_; rintro e w6 ⟨rfl, hb6⟩)
                  | (at_builtin; refine wpList_append_own_at _ rfl (.tmp 70) (.tmp 76) 24 rfl W5.heap.size 9 j0 (.string ⟨#[]⟩) 1 16 Tryd.underlying24 hj hy0 hy1 hy2 rfl (by decide) u11 m (strsOf acc) rfl ((below_own hown hb6).alloc _) ⟨_, 0, none⟩ 1 1 (strsOf [J]) rfl rfl (strs_new _ [J]) (strs_one _) (by unfold maxLen; omega) (by omega) (by have := hb6.size; simp; omega) ?_; intro v2 w2 hown2 hgrow2 hnil2 hblk2; have hgo2 := hgo.out _ hb6 _ _ hgrow2; rw [strs_app] at hown2; replace hgrow2 := Lib.hid hgrow2; replace hblk2 := Lib.hid hblk2; clear hnil2)
                  | (go_at_call 39; with_reducible refine (cA _ (acc ++ [J]) _ _ _ _ _ (by omega) (by omega) hgo2.1 hgo2.2.1 hgo2.2.2.2 (by rw [List.length_append, hm, List.length_singleton]) (by omega) hown2).mono ?_; rintro e w7 ⟨v7, rfl, hown7, hg7⟩))
                go_roundw
                case measure => simp only [intOf]; omega
                case rel =>
                  refine ⟨k + 1, i + pn, m + 1 + A.length, acc ++ [J] ++ A, rfl, rfl, by rw [List.length_append, List.length_append, hm, List.length_singleton], by omega, by omega, hown7, hend.out acc _ _ _ hgo2.2.2.1 hgo2.2.2.2 (fun j hj => (hown2.lt j hj).1) hg7, by omega, ?_⟩
                  have := hst2.out
                  simp only [Bool.false_eq_true, if_false] at this
                  exact Lib.hid this
            · have hkl : (RL2 : Int) - 1 = (k : Int) := by
                have := of_decide_eq_true hE.symm
                omega
              simp only [if_true, Bool.false_eq_true, if_false] at cP
              clear hF hEE hE
              by_cases hz1 : N - fin = 0
              all_goals by_cases hz2 : N - i = 0
              all_goals try (exfalso; omega)
              all_goals
                go_wp2_with (first
                  | (go_at_call 37; with_reducible refine (cP _ _ (by omega) (by omega)).mono ?_; rintro e w1 ⟨rfl, rfl⟩)
                  | (go_at_call 38; with_reducible refine (cJ _ _ _ (by omega) (by omega) (by omega)).mono ?_; rintro e w6 ⟨rfl, hb6⟩)
                  | (at_builtin; refine wpList_append_own_at _ rfl (.tmp 70) (.tmp 76) 24 rfl W5.heap.size 9 j0 (.string ⟨#[]⟩) 1 16 Tryd.underlying24 hj hy0 hy1 hy2 rfl (by decide) u11 m (strsOf acc) rfl ((below_own hown hb6).alloc _) ⟨_, 0, none⟩ 1 1 (strsOf [J]) rfl rfl (strs_new _ [J]) (strs_one _) (by unfold maxLen; omega) (by omega) (by have := hb6.size; simp; omega) ?_; intro v2 w2 hown2 hgrow2 hnil2 hblk2; have hgo2 := hgo.out _ hb6 _ _ hgrow2; rw [strs_app] at hown2; replace hgrow2 := Lib.hid hgrow2; replace hblk2 := Lib.hid hblk2; clear hnil2)
                  | (go_at_call 39; with_reducible refine (cA _ (acc ++ [J]) _ _ _ _ _ (by omega) (by omega) hgo2.1 hgo2.2.1 hgo2.2.2.2 (by rw [List.length_append, hm, List.length_singleton]) (by omega) hown2).mono ?_; rintro e w7 ⟨v7, rfl, hown7, hg7⟩))
                go_roundw
                case measure => simp only [intOf]; omega
                case rel =>
                  refine ⟨k + 1, i + pn, m + 1 + A.length, acc ++ [J] ++ A, rfl, rfl, by rw [List.length_append, List.length_append, hm, List.length_singleton], by omega, by omega, hown7, hend.out acc _ _ _ hgo2.2.2.1 hgo2.2.2.2 (fun j hj => (hown2.lt j hj).1) hg7, by omega, ?_⟩
                  have := hst2.out
                  simp only [Bool.false_eq_true, if_false] at this
                  exact Lib.hid this
          · obtain rfl : k = 0 := by simpa using hF
            cases E
            · have hkl : ¬ (0 : Int) = (RL2 : Int) - 1 := by
                have := of_decide_eq_false hE.symm
                omega
              simp only [if_true, Bool.false_eq_true, if_false] at cP
              clear hF hEE hE
              by_cases hz2 : N - i = 0
              all_goals
                go_wp2_with (first
                  | (go_at_call 37; with_reducible refine (cP _ _ (by omega) (by omega)).mono ?_; rintro e w1 ⟨rfl, rfl⟩)
                  | (go_at_call 39; with_reducible refine (cA _ acc _ _ _ _ _ (by omega) (by omega) hSp hSVr hszr hm (by omega) hown).mono ?_; rintro e w7 ⟨v7, rfl, hown7, hg7⟩))
                go_roundw
                case measure => simp only [intOf]; omega
                case rel =>
                  refine ⟨0 + 1, i + pn, m + A.length, acc ++ A, rfl, rfl, by rw [List.length_append, hm], by omega, by omega, hown7, hend.out acc _ _ _ hbw hszr hlt0.out hg7, by omega, ?_⟩
                  have := hst2.out
                  simp only [if_true, List.append_nil] at this
                  exact Lib.hid this
            · have hkl : (RL2 : Int) - 1 = (0 : Int) := by
                have := of_decide_eq_true hE.symm
                omega
              simp only [if_true] at cP
              clear hF hEE hE
              by_cases hz2 : N - i = 0
              all_goals
                go_wp2_with (first
                  | (go_at_call 37; with_reducible refine (cP _ _ (by omega) (by omega)).mono ?_; rintro e w1 ⟨rfl, rfl⟩)
                  | (go_at_call 39; with_reducible refine (cA _ acc _ _ _ _ _ (by omega) (by omega) hSp hSVr hszr hm (by omega) hown).mono ?_; rintro e w7 ⟨v7, rfl, hown7, hg7⟩))
                go_roundw
                case measure => simp only [intOf]; omega
                case rel =>
                  refine ⟨0 + 1, i + pn, m + A.length, acc ++ A, rfl, rfl, by rw [List.length_append, hm], by omega, by omega, hown7, hend.out acc _ _ _ hbw hszr hlt0.out hg7, by omega, ?_⟩
                  have := hst2.out
                  simp only [if_true, List.append_nil] at this
                  exact Lib.hid this
      · obtain rfl : k = RL2 := by omega
        rw [List.drop_eq_nil_of_le (by omega)] at hst
        simp only [walkP] at hst
        subst hst
        subst hm
        obtain ⟨a, c, rfl, hc, hSA, _⟩ := own_slice hown
        go_wp2_with fail
        go_ret2
        exact ⟨a, acc.length, c, rfl, rfl, hSA, hbA.trans (hbw.mono hzA)⟩
end Go.Proofs.YtbplbifmohbfdaaDoor
