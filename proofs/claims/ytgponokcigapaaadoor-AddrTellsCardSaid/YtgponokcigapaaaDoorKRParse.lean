/- The reference's Parse. -/
import Derived.Test.YtgponokcigapaaaDoorKROne
import Derived.Test.YtgponokcigapaaaDoorKRPieces
import Derived.Test.YtgponokcigapaaaDoorK5
import Derived.Test.YtgponokcigapaaaDoorK8
namespace Go.Proofs.YtgponokcigapaaaDoor
open Go.ChangeShapes Go.WideShapes Go.ChangeAt Go.RowKit
open TokP AdrP

theorem pcs_sub : ∀ (l C : List TokP.Tok) (b : Bool) (x : List TokP.Tok), x ∈ pcs b C l → x.Sublist (C ++ l)
  | [], C, b, x, h => by
    have e : pcs b C [] = [C] := by cases b <;> rfl
    rw [e, List.mem_singleton] at h
    rw [h, List.append_nil]
    exact List.Sublist.refl _
  | t :: r, C, true, x, h => by
    rw [pcs] at h
    have := pcs_sub r (C ++ [t]) _ x h
    rw [List.append_assoc] at this
    exact this
  | t :: r, C, false, x, h => by
    rw [pcs] at h
    by_cases hc : isS t 44 = true ∨ isS t 59 = true
    · rw [if_pos hc, List.mem_cons] at h
      rcases h with rfl | h
      · exact List.sublist_append_left _ _
      · have := pcs_sub r [] false x h
        exact this.trans ((List.sublist_cons_self t r).trans (List.sublist_append_right C (t :: r)))
    · rw [if_neg hc] at h
      have := pcs_sub r _ _ x h
      by_cases h58 : isS t 58 = true
      · rw [if_pos h58] at this
        exact this.trans ((List.sublist_cons_self t r).trans (List.sublist_append_right C (t :: r)))
      · rw [if_neg h58, List.append_assoc] at this
        exact this
theorem rone_some (v : Value) (l : List TokP.Tok) (hm : Mod l) (N L D : List UInt8) (hR : oneT l = some ⟨N, L, D⟩) (w : World) (h : Hid (HasT w v l)) :
    Calls Tryd.prog 30 #[v] w fun e w' => e = .returned (.tuple #[.agg #[.string (strL N), .string (strL L), .string (strL D)], .bool true]) ∧ Below w.heap.size w w' := by
  refine (rone_p v l hm (some ⟨N, L, D⟩) hR w h).mono ?_
  rintro e w' ⟨n, a, d, rfl, hq, hb⟩
  injection hq _ rfl with h1 h2 h3
  rw [h1, h2, h3, strL_of, strL_of, strL_of]
  exact ⟨rfl, hb⟩
theorem rone_none (v : Value) (l : List TokP.Tok) (hm : Mod l) (hR : oneT l = none) (w : World) (h : Hid (HasT w v l)) :
    Calls Tryd.prog 30 #[v] w fun e w' => ∃ N L D : ByteArray, e = .returned (.tuple #[.agg #[.string N, .string L, .string D], .bool false]) ∧ Below w.heap.size w w' := by
  refine (rone_p v l hm none hR w h).mono ?_
  rintro e w' ⟨n, a, d, rfl, hq, hb⟩
  exact ⟨n, a, d, rfl, hb⟩
set_option maxRecDepth 100000 in
set_option maxHeartbeats 4000000 in
theorem rparse_p (S : ByteArray) (hS : S.size ≤ 100000) (w : World) (PL : List Adr) (PB : Bool) (hP : parseA S.data.toList = (PL, PB)) (K : Nat) (hK : PL.length = K) :
    Calls Tryd.prog 12 #[.string S] w fun e w' => ∃ a c, e = .returned (.tuple #[.slice a K c, .bool PB]) ∧ OwnA w' (.slice a K c) PL ∧ Below w.heap.size w w' := by
  obtain ⟨ALL, hALL⟩ : ∃ P, pcs false [] (bareT (scanL S.data.toList)) = P := ⟨_, rfl⟩
  obtain ⟨N, hN⟩ : ∃ N, ALL.length = N := ⟨_, rfl⟩
  have cP := fun W => rpieces_p S hS ALL hALL N hN W
  have hmod := bare_mod S.data.toList (by rw [← size_list]; omega)
  have hNz : N ≤ 1000001 := by
    have := pcs_len (bareT (scanL S.data.toList)) [] false
    rw [hALL, hN] at this
    have := hmod.1
    omega
  have HM := Lib.hid (fun (i : Nat) (x : List TokP.Tok) (hx : ALL[i]? = some x) => show Mod x from hmod.sub (pcs_sub (bareT (scanL S.data.toList)) [] false x (by rw [hALL]; exact List.mem_of_getElem? hx)))
  have hP2 : parseP (pcs false [] (bareT (scanL S.data.toList))) = (PL, PB) := hP
  rw [hALL] at hP2
  have HP := Lib.hid (show parseP (ALL.drop 0) = (PL, PB) from hP2)
  have HK := Lib.hid hK
  have HN := Lib.hid hN
  clear hP hP2 hmod hALL hN hK
  go_enter Tryd.func12, Tryd.ntmps12
  go_wp2_with (go_at_call 29; (with_reducible refine (cP _).mono ?_); rintro e w1 ⟨g, c1, rfl, hp1, hb1⟩; replace hp1 := Lib.hid hp1; have HB1 := Lib.hid hb1; clear hb1 cP)
  have HC := Lib.hid (show ∀ (i : Nat) (x : List TokP.Tok), ALL[i]? = some x → ∃ u, w1.cell? ⟨g, i, none⟩ = some u ∧ HasT w1 u x by
    obtain ⟨g', c', e, hp⟩ := hp1.out
    injection e with e1 e2 e3
    obtain rfl : g = g' := by
      have e4 := Option.some.inj e1
      injection e4
    exact hp)
  clear hp1
  go_loopw [5, 6, 7] (fun bb x i wr => ∃ (k m : Nat) (out : List Adr) (cl : Bool), k ≤ N ∧ m ≤ k ∧ bb = .bool cl ∧ (∃ a c, x = .slice a m c) ∧ i = .int .i64 k ∧ Hid (out.length = m) ∧ Hid (wr.ownsRow w1.heap.size 34 3 x out.length (adrsV out)) ∧ Hid (Below w1.heap.size w1 wr) ∧ Hid ((out ++ (parseP (ALL.drop k)).1, cl && (parseP (ALL.drop k)).2) = (PL, PB))) (fun _ _ i _ => N - (intOf i).toNat)
  case atStart => exact ⟨0, 0, [], true, Nat.zero_le _, Nat.le_refl _, rfl, ⟨none, 0, rfl⟩, rfl, rfl, ⟨rfl, .inl ⟨rfl, rfl⟩⟩, Below.refl _ _, HP⟩
  case round =>
    obtain ⟨k, m, out, cl, hk, hmk, rfl, ⟨ax, cx, rfl⟩, rfl, hm, ho, HB2, HG⟩ := hrel
    have F1 : IntKind.i64.wrap ((k : Int) + 1) = (k : Int) + 1 := by rw [IntKind.wrap_i64]; omega
    by_cases hlt : k < N
    · have hlt' : (k : Int) < (N : Int) := by omega
      obtain ⟨x, hx⟩ : ∃ x, ALL[k]? = some x := ⟨_, List.getElem?_eq_getElem (by rw [HN.out]; exact hlt)⟩
      obtain ⟨u, hu, hux⟩ := HC.out k x hx
      have k0 := cell_below hu HB2.out
      have hux2 := hux.step HB2.out
      have hmx := HM.out k x hx
      have hg := HG.out
      have hd : ALL.drop k = x :: ALL.drop (k + 1) := by
        obtain ⟨h1, h2⟩ := List.getElem?_eq_some_iff.1 hx
        rw [← h2, ← List.drop_eq_getElem_cons h1]
      rw [hd, parse_cons] at hg
      obtain ⟨ua, uc, rfl, _, _⟩ := hux2
      obtain ⟨xl, hxl⟩ : ∃ n, x.length = n := ⟨_, rfl⟩
      have HU := Lib.hid hux
      rw [hxl] at k0 HU
      clear hu hux hd HG
      by_cases hx0 : x = []
      · subst hx0
        obtain rfl : 0 = xl := hxl
        have HZ := Lib.hid (show (out ++ (parseP (ALL.drop (k + 1))).1, cl && (parseP (ALL.drop (k + 1))).2) = (PL, PB) by rw [← hg, one_nil]; rfl)
        clear hg hx hmx
        go_wp2_with fail
        go_roundw
        case rel => exact ⟨k + 1, m, out, cl, by omega, by omega, rfl, ⟨ax, cx, rfl⟩, by go_num, hm, ho, HB2, HZ⟩
        case measure => simp [intOf]; omega
      · have hxn : ((xl : Int) == 0) = false := beq_eq_false_iff_ne.2 (by have := List.length_pos_iff.2 hx0; omega)
        have hie : x.isEmpty = false := by cases x with
          | nil => exact absurd rfl hx0
          | cons => rfl
        rw [hie, Bool.false_or] at hg
        cases hR : oneT x with
        | some q =>
          obtain ⟨qn, ql, qd⟩ := q
          have c2 := fun W (h : Hid (HasT W (.slice ua xl uc) x)) => rone_some _ _ hmx qn ql qd hR W h
          rw [hR] at hg
          have HZ := Lib.hid (show ((out ++ [⟨qn, ql, qd⟩]) ++ (parseP (ALL.drop (k + 1))).1, cl && (parseP (ALL.drop (k + 1))).2) = (PL, PB) by rw [← hg]; simp)
          clear hg hx hmx hxl hx0 hie hR
          cases cl with
          | true =>
            go_wp2_with (first
              | (go_at_call 30; (with_reducible refine (c2 _ (Lib.hid (HU.out.step HB2.out))).mono ?_); rintro e w4 ⟨rfl, hb4⟩; have HB4 := Lib.hid (HB2.out.trans (hb4.mono HB2.out.size)); replace ho := Lib.hid (World.ownsRow.alloc (own_below ho.out hb4) (.cells #[.string (strL qn), .string (strL ql), .string (strL qd)] 34)); have HB5 := Lib.hid (HB4.out.alloc HB4.out.size (.cells #[.string (strL qn), .string (strL ql), .string (strL qd)] 34)); clear hb4 c2)
              | (at_builtin; refine wpList_appA (by rfl) (.tmp 33) (.tmp 35) rfl rfl w1.heap.size (⟨qn, ql, qd⟩ : Adr) rfl (by rw [World.size_alloc]; rfl) ho.out hm.out HB5.out.size (by omega) ?_; intro a6 c6 w6 h6 g6; replace h6 := Lib.hid h6; have HB6 := Lib.hid ((HB5.out.alloc HB5.out.size (.cells #[.string (strL qn), .string (strL ql), .string (strL qd)] 34)).trans (below_rowA _ _ _ (World.ownsRow.alloc ho.out _) g6 (by rw [World.size_alloc]; exact Nat.le_trans HB5.out.size (Nat.le_succ _)))); clear g6))
            go_roundw
            case rel => exact ⟨k + 1, m + 1, _, true, by omega, by omega, rfl, ⟨a6, c6, rfl⟩, by go_num, Lib.hid (by rw [List.length_append, hm.out]; rfl), h6, HB6, HZ⟩
            case measure => simp [intOf]; omega
          | false =>
            go_wp2_with (first
              | (go_at_call 30; (with_reducible refine (c2 _ (Lib.hid (HU.out.step HB2.out))).mono ?_); rintro e w4 ⟨rfl, hb4⟩; have HB4 := Lib.hid (HB2.out.trans (hb4.mono HB2.out.size)); replace ho := Lib.hid (World.ownsRow.alloc (own_below ho.out hb4) (.cells #[.string (strL qn), .string (strL ql), .string (strL qd)] 34)); have HB5 := Lib.hid (HB4.out.alloc HB4.out.size (.cells #[.string (strL qn), .string (strL ql), .string (strL qd)] 34)); clear hb4 c2)
              | (at_builtin; refine wpList_appA (by rfl) (.tmp 33) (.tmp 35) rfl rfl w1.heap.size (⟨qn, ql, qd⟩ : Adr) rfl (by rw [World.size_alloc]; rfl) ho.out hm.out HB5.out.size (by omega) ?_; intro a6 c6 w6 h6 g6; replace h6 := Lib.hid h6; have HB6 := Lib.hid ((HB5.out.alloc HB5.out.size (.cells #[.string (strL qn), .string (strL ql), .string (strL qd)] 34)).trans (below_rowA _ _ _ (World.ownsRow.alloc ho.out _) g6 (by rw [World.size_alloc]; exact Nat.le_trans HB5.out.size (Nat.le_succ _)))); clear g6))
            go_roundw
            case rel => exact ⟨k + 1, m + 1, _, false, by omega, by omega, rfl, ⟨a6, c6, rfl⟩, by go_num, Lib.hid (by rw [List.length_append, hm.out]; rfl), h6, HB6, HZ⟩
            case measure => simp [intOf]; omega
        | none =>
          have c2 := fun W (h : Hid (HasT W (.slice ua xl uc) x)) => rone_none _ _ hmx hR W h
          rw [hR] at hg
          have HZ := Lib.hid (show (out ++ (parseP (ALL.drop (k + 1))).1, false && (parseP (ALL.drop (k + 1))).2) = (PL, PB) by rw [← hg]; simp)
          clear hg hx hmx hxl hx0 hie hR
          cases cl with
          | true =>
            go_wp2_with (go_at_call 30; (with_reducible refine (c2 _ (Lib.hid (HU.out.step HB2.out))).mono ?_); rintro e w4 ⟨n4, l4, d4, rfl, hb4⟩; have HB4 := Lib.hid (HB2.out.trans (hb4.mono HB2.out.size)); replace ho := Lib.hid (World.ownsRow.alloc (own_below ho.out hb4) (.cells #[.string n4, .string l4, .string d4] 34)); have HB5 := Lib.hid (HB4.out.alloc HB4.out.size (.cells #[.string n4, .string l4, .string d4] 34)); clear hb4 c2)
            go_roundw
            case rel => exact ⟨k + 1, m, out, false, by omega, by omega, rfl, ⟨ax, cx, rfl⟩, by go_num, hm, ho, HB5, HZ⟩
            case measure => simp [intOf]; omega
          | false =>
            go_wp2_with (go_at_call 30; (with_reducible refine (c2 _ (Lib.hid (HU.out.step HB2.out))).mono ?_); rintro e w4 ⟨n4, l4, d4, rfl, hb4⟩; have HB4 := Lib.hid (HB2.out.trans (hb4.mono HB2.out.size)); replace ho := Lib.hid (World.ownsRow.alloc (own_below ho.out hb4) (.cells #[.string n4, .string l4, .string d4] 34)); have HB5 := Lib.hid (HB4.out.alloc HB4.out.size (.cells #[.string n4, .string l4, .string d4] 34)); clear hb4 c2)
            go_roundw
            case rel => exact ⟨k + 1, m, out, false, by omega, by omega, rfl, ⟨ax, cx, rfl⟩, by go_num, hm, ho, HB5, HZ⟩
            case measure => simp [intOf]; omega
    · obtain rfl : k = N := by omega
      have hlt' : ¬ (k : Int) < (k : Int) := by omega
      have hg := HG.out
      rw [List.drop_eq_nil_of_le (by rw [HN.out]; exact Nat.le_refl _)] at hg
      have HZ := Lib.hid (show (out, cl) = (PL, PB) by rw [← hg]; simp [parseP])
      clear hg HG
      go_wp2_with fail
      go_ret2
      obtain ⟨e1, e2⟩ := Prod.mk.inj HZ.out
      have hk2 := HK.out
      rw [← e1] at hk2 ⊢
      rw [hm.out] at hk2
      rw [← hk2, ← e2]
      exact ⟨_, _, rfl, ⟨_, ho.out⟩, HB1.out.trans (HB2.out.mono HB1.out.size)⟩
theorem rparse_ok : RParseOk := fun S hS W => by
  obtain ⟨a, c, h⟩ : ∃ (a : List Adr) (c : Bool), parseA S.data.toList = (a, c) := ⟨_, _, rfl⟩
  rw [h]
  exact rparse_p S hS W a c h _ rfl
end Go.Proofs.YtgponokcigapaaaDoor
