/- The program's Parse. strings.Cut at one byte, strings.LastIndexByte; the program's isSolid and isId. UTF-8 on lists of bytes: decoding from left to right, and what holds of it; of no program. The model's UTF-8 decoder and the list decoder agree; what the library says of validity, of mapping and of encoding in those words; of no program. -/
import Derived.Test.YtgponokcigapaaaDoorK4
import Derived.Lib.LastIndexByte
import Derived.Deep.RegionHeld3
import GoSem.Claim
import Derived.KernelRfl
import Derived.Lib.MapLaws
import Derived.Lib.ValidLaws
import Derived.Lib.RuneCount
namespace Go.Proofs.YtgponokcigapaaaDoor
open Go.ChangeShapes Go.WideShapes Go.ChangeAt Go.RowKit
open TokP AdrP

theorem piece_len (l : List Tok) (p q : Nat) (hq : q ≤ l.length) : ((l.take q).drop p).length = q - p := by rw [List.length_drop, List.length_take]; omega
theorem piece_empty (l : List Tok) (p q : Nat) (hpq : p ≤ q) (hq : q ≤ l.length) (h : ¬ p < q) : (l.take q).drop p = [] := List.drop_eq_nil_of_le (by rw [List.length_take]; omega)
theorem piece_full (l : List Tok) (p q : Nat) (hq : q ≤ l.length) (h : p < q) : ((l.take q).drop p).isEmpty = false := by
  rw [← Bool.not_eq_true, List.isEmpty_iff]
  intro e
  have := congrArg List.length e
  rw [piece_len l p q hq, List.length_nil] at this
  omega
theorem bare_same (l : List Tok) : bareL l = bareT l := rfl
theorem bare_mod (S : List UInt8) (h : S.length ≤ 100000) : Mod (bareT (scanL S)) := by
  have h1 : (bareT (scanL S)).length ≤ (scanL S).length := (List.filter_sublist).length_le
  have h2 := scan_len S
  refine ⟨by omega, fun t ht => ?_⟩
  have := (scan_mem S t (List.mem_filter.1 ht).1).2.2.2.2
  omega
theorem denoted_none (v : Value) (l : List Tok) (hm : Mod l) (hR : oneT l = none) (w : World) (h : Hid (HasT w v l)) :
    Calls Tryd.prog 28 #[v] w fun e w' => e = .returned (.tuple #[.agg #[.string ⟨#[]⟩, .string ⟨#[]⟩, .string ⟨#[]⟩], .bool false]) ∧ Below w.heap.size w w' := denoted_p v l hm none hR w h
theorem denoted_some (v : Value) (l : List Tok) (hm : Mod l) (N L D : List UInt8) (hR : oneT l = some ⟨N, L, D⟩) (w : World) (h : Hid (HasT w v l)) :
    Calls Tryd.prog 28 #[v] w fun e w' => e = .returned (.tuple #[.agg #[.string (strL N), .string (strL L), .string (strL D)], .bool true]) ∧ Below w.heap.size w w' := denoted_p v l hm (some ⟨N, L, D⟩) hR w h
set_option maxRecDepth 100000 in
set_option maxHeartbeats 4000000 in
theorem parse_p (S : ByteArray) (hS : S.size ≤ 100000) (w : World) (PL : List Adr) (PB : Bool) (hP : parseA S.data.toList = (PL, PB)) (K : Nat) (hK : PL.length = K) :
    Calls Tryd.prog 11 #[.string S] w fun e w' => ∃ a c, e = .returned (.tuple #[.slice a K c, .bool PB]) ∧ OwnA w' (.slice a K c) PL ∧ Below w.heap.size w w' := by
  have cS := scan_rd S (by omega) w
  have hmod := bare_mod S.data.toList (by rw [← size_list]; omega)
  have hmem := scan_mem S.data.toList
  have hsl := scan_len S.data.toList
  rw [← size_list] at hsl
  have hP2 : parseP (pcs false [] (bareT (scanL S.data.toList))) = (PL, PB) := hP
  have cB := fun (v : Value) (W : World) => bare_rd (scanL S.data.toList) _ rfl (by omega) (fun t ht => by have := (hmem t ht).2.2.2.2; rw [← size_list] at this; omega) v W
  generalize scanL S.data.toList = L0 at cS cB hmod hP2 hsl
  generalize hL : bareT L0 = L at cB hmod hP2
  obtain ⟨n, hn⟩ : ∃ n, L.length = n := ⟨_, rfl⟩
  obtain ⟨n0, hn0⟩ : ∃ n, L0.length = n := ⟨_, rfl⟩
  rw [hn] at cB
  rw [hn0] at cS
  have hnz : n ≤ 1000000 := by rw [← hn]; exact hmod.1
  have HN := Lib.hid hn
  have HM := Lib.hid hmod
  have HP := Lib.hid (show parseP (pcs false [] (L.drop 0)) = (PL, PB) from hP2)
  have HK := Lib.hid hK
  clear hmem hP hP2 hL hn hn0 hmod hsl hK
  go_enter Tryd.func11, Tryd.ntmps11
  go_wp2_with (first
    | (go_at_call 26; (with_reducible refine cS.mono ?_); rintro e w1 ⟨a1, d1, rfl, ho1, hb1⟩; clear cS; replace ho1 := Lib.hid ho1; have HB1 := Lib.hid hb1; clear hb1)
    | (go_at_call 25; (with_reducible refine (cB _ _ ho1).mono ?_); rintro e w2 ⟨a2, d2, rfl, ho2, hb2⟩; clear cB; have HO2 := Lib.hid ho2.hasT; have HB2 := Lib.hid (Qtrans HB1.out hb2); clear hb2 ho2 ho1 HB1))
  go_loopw [4, 5, 6] (fun r x b wr => ∃ (j m N1 : Nat) (A : Option Addr) (C : Nat) (out : List Adr) (cl : Bool), j ≤ n ∧ m ≤ j ∧ j + N1 = n ∧ r = .slice A N1 C ∧ (∃ a c, x = .slice a m c) ∧ b = .bool cl ∧ Hid (HasT w2 (.slice A N1 C) (L.drop j)) ∧ Hid (out.length = m) ∧ Hid (wr.ownsRow w2.heap.size 34 3 x out.length (adrsV out)) ∧
      Hid (Below w2.heap.size w2 wr) ∧ Hid ((out ++ (parseP (pcs false [] (L.drop j))).1, cl && (parseP (pcs false [] (L.drop j))).2) = (PL, PB))) (fun r _ _ _ => (match r with
        | .slice _ k _ => k
        | _ => 0))
  case atStart => exact ⟨0, 0, n, a2, d2, [], true, Nat.zero_le _, Nat.le_refl _, by omega, rfl, ⟨none, 0, rfl⟩, rfl, by rw [List.drop_zero]; exact HO2, rfl, ⟨rfl, .inl ⟨rfl, rfl⟩⟩, Below.refl _ _, HP⟩
  case round =>
    obtain ⟨j, m, N1, A, C, out, cl, hj, hmj, hN1, rfl, ⟨ax, cx, rfl⟩, rfl, HT, hm, ho, hb, HG⟩ := hrel
    obtain ⟨l, hl⟩ : ∃ l, L.drop j = l := ⟨_, rfl⟩
    have HL := Lib.hid hl
    rw [hl] at HT HG
    have hll : l.length = N1 := by rw [← hl, List.length_drop, HN.out]; omega
    have hml : Mod l := by rw [← hl]; exact HM.out.drop j
    obtain ⟨p, q, hst, hpq, hq, hpc⟩ := st_first l
    rw [hpc, parse_cons] at HG
    have c1 := fun W (h : Hid (HasT W (.slice A N1 C) l)) => first_piece _ l p q hst hml.1 W h
    obtain ⟨A1, C1, hr1, ht1⟩ := run_sub HT.out p q p q rfl rfl hpq (by omega)
    obtain ⟨R, hR⟩ : ∃ R, oneT ((l.take q).drop p) = R := ⟨_, rfl⟩
    rw [hR] at HG
    have hmp : Mod ((l.take q).drop p) := (hml.take q).drop p
    have hqn : q ≤ N1 := by omega
    have F1 : IntKind.i64.wrap ((q : Int) + 1) = (q : Int) + 1 := by rw [IntKind.wrap_i64]; omega
    have HT1 := Lib.hid ht1
    have hs := Lib.hid (fun (h : q < N1) => run_sub_from HT.out (q + 1) ((q : Int) + 1) (by omega) (by omega))
    have HD := Lib.hid (show l.drop (q + 1) = L.drop (j + (q + 1)) by rw [← HL.out, List.drop_drop])
    have HE := Lib.hid (piece_empty l p q hpq (by omega))
    have HF := Lib.hid (piece_full l p q (by omega))
    have HWS := hb.out.size
    clear hl hst ht1
    by_cases hqe : q < N1
    · cases R with
      | some x =>
        obtain ⟨qn, ql, qd⟩ := x
        have c2 := fun W (h : Hid (HasT W (.slice A1 (q - p) C1) ((l.take q).drop p))) => denoted_some _ _ hmp qn ql qd hR W h
        obtain ⟨D, hD⟩ : ∃ D, q - p = D := ⟨_, rfl⟩
        rw [hD] at c2 hr1 HT1
        have hz : ((q : Int) == (N1 : Int)) = false := by rw [beq_eq_false_iff_ne]; omega
        have HZ := Lib.hid (show ((out ++ [⟨qn, ql, qd⟩]) ++ (parseP (pcs false [] (L.drop (j + (q + 1))))).1, cl && (parseP (pcs false [] (L.drop (j + (q + 1))))).2) = (PL, PB) by
          rw [← HG.out, if_pos (by omega), HD.out]
          simp)
        obtain ⟨A3, C3, hr3, ht3⟩ := hs.out (by omega)
        rw [HD.out] at ht3
        obtain ⟨N3, hN3⟩ : ∃ N3, N1 - (q + 1) = N3 := ⟨_, rfl⟩
        rw [hN3] at hr3 ht3
        have HT3 := Lib.hid ht3
        clear ht3
        clear HG hR hpc hmp hml hll hs HD HE HF HP
        go_wp2_with (first
          | (go_at_call 27; (with_reducible refine (c1 _ (Lib.hid (HT.out.step hb.out))).mono ?_); rintro e w3 ⟨rfl, hb3⟩; have HB3 := Lib.hid (hb.out.trans (hb3.mono hb.out.size)); replace ho := Lib.hid (own_below ho.out hb3); clear hb3 c1)
          | (go_at_call 28; (with_reducible refine (c2 _ (Lib.hid (HT1.out.step HB3.out))).mono ?_); rintro e w4 ⟨rfl, hb4⟩; have HB4 := Lib.hid (HB3.out.trans (hb4.mono HB3.out.size)); replace ho := Lib.hid (World.ownsRow.alloc (own_below ho.out hb4) (.cells #[.string (strL qn), .string (strL ql), .string (strL qd)] 34)); have HB5 := Lib.hid (HB4.out.alloc HB4.out.size (.cells #[.string (strL qn), .string (strL ql), .string (strL qd)] 34)); clear hb4 c2)
          | (at_builtin; refine wpList_appA (by rfl) (.tmp 28) (.tmp 30) rfl rfl w2.heap.size (⟨qn, ql, qd⟩ : Adr) rfl (by rw [World.size_alloc]; rfl) ho.out hm.out HB5.out.size (by omega) ?_; intro a6 c6 w6 h6 g6; replace h6 := Lib.hid h6; have HB6 := Lib.hid ((HB5.out.alloc HB5.out.size (.cells #[.string (strL qn), .string (strL ql), .string (strL qd)] 34)).trans (below_rowA _ _ _ (World.ownsRow.alloc ho.out _) g6 (by rw [World.size_alloc]; exact Nat.le_trans HB5.out.size (Nat.le_succ _)))); clear g6))
        go_roundw
        case rel => exact ⟨j + (q + 1), m + 1, N3, A3, C3, _, cl, by omega, by omega, by omega, rfl, ⟨a6, c6, rfl⟩, rfl, HT3, Lib.hid (by rw [List.length_append, hm.out]; rfl), h6, HB6, HZ⟩
        case measure => simp; omega
      | none =>
        by_cases h1 : p < q
        · have c2 := fun W (h : Hid (HasT W (.slice A1 (q - p) C1) ((l.take q).drop p))) => denoted_none _ _ hmp hR W h
          obtain ⟨D, hD⟩ : ∃ D, q - p = D := ⟨_, rfl⟩
          rw [hD] at c2 hr1 HT1
          have hlt : (p : Int) < (q : Int) := by omega
          have hz : ((q : Int) == (N1 : Int)) = false := by rw [beq_eq_false_iff_ne]; omega
          have HZ := Lib.hid (show ((out) ++ (parseP (pcs false [] (L.drop (j + (q + 1))))).1, false && (parseP (pcs false [] (L.drop (j + (q + 1))))).2) = (PL, PB) by
            rw [← HG.out, if_pos (by omega), HD.out]
            rw [HF.out h1]
            simp)
          obtain ⟨A3, C3, hr3, ht3⟩ := hs.out (by omega)
          rw [HD.out] at ht3
          obtain ⟨N3, hN3⟩ : ∃ N3, N1 - (q + 1) = N3 := ⟨_, rfl⟩
          rw [hN3] at hr3 ht3
          have HT3 := Lib.hid ht3
          clear ht3
          clear HG hR hpc hmp hml hll hs HD HE HF HP
          go_wp2_with (first
            | (go_at_call 27; (with_reducible refine (c1 _ (Lib.hid (HT.out.step hb.out))).mono ?_); rintro e w3 ⟨rfl, hb3⟩; have HB3 := Lib.hid (hb.out.trans (hb3.mono hb.out.size)); replace ho := Lib.hid (own_below ho.out hb3); clear hb3 c1)
            | (go_at_call 28; (with_reducible refine (c2 _ (Lib.hid (HT1.out.step HB3.out))).mono ?_); rintro e w4 ⟨rfl, hb4⟩; have HB4 := Lib.hid (HB3.out.trans (hb4.mono HB3.out.size)); replace ho := Lib.hid (World.ownsRow.alloc (own_below ho.out hb4) (.cells #[.string ⟨#[]⟩, .string ⟨#[]⟩, .string ⟨#[]⟩] 34)); have HB5 := Lib.hid (HB4.out.alloc HB4.out.size (.cells #[.string ⟨#[]⟩, .string ⟨#[]⟩, .string ⟨#[]⟩] 34)); clear hb4 c2))
          go_roundw
          case rel => exact ⟨j + (q + 1), m, N3, A3, C3, _, false, by omega, by omega, by omega, rfl, ⟨ax, cx, rfl⟩, rfl, HT3, hm, ho, HB5, HZ⟩
          case measure => simp; omega
        · have c2 := fun W (h : Hid (HasT W (.slice A1 (q - p) C1) ((l.take q).drop p))) => denoted_none _ _ hmp hR W h
          obtain ⟨D, hD⟩ : ∃ D, q - p = D := ⟨_, rfl⟩
          rw [hD] at c2 hr1 HT1
          have hlt : ¬ (p : Int) < (q : Int) := by omega
          have hz : ((q : Int) == (N1 : Int)) = false := by rw [beq_eq_false_iff_ne]; omega
          have HZ := Lib.hid (show ((out) ++ (parseP (pcs false [] (L.drop (j + (q + 1))))).1, cl && (parseP (pcs false [] (L.drop (j + (q + 1))))).2) = (PL, PB) by
            rw [← HG.out, if_pos (by omega), HD.out]
            rw [HE.out h1]
            simp)
          obtain ⟨A3, C3, hr3, ht3⟩ := hs.out (by omega)
          rw [HD.out] at ht3
          obtain ⟨N3, hN3⟩ : ∃ N3, N1 - (q + 1) = N3 := ⟨_, rfl⟩
          rw [hN3] at hr3 ht3
          have HT3 := Lib.hid ht3
          clear ht3
          clear HG hR hpc hmp hml hll hs HD HE HF HP
          go_wp2_with (first
            | (go_at_call 27; (with_reducible refine (c1 _ (Lib.hid (HT.out.step hb.out))).mono ?_); rintro e w3 ⟨rfl, hb3⟩; have HB3 := Lib.hid (hb.out.trans (hb3.mono hb.out.size)); replace ho := Lib.hid (own_below ho.out hb3); clear hb3 c1)
            | (go_at_call 28; (with_reducible refine (c2 _ (Lib.hid (HT1.out.step HB3.out))).mono ?_); rintro e w4 ⟨rfl, hb4⟩; have HB4 := Lib.hid (HB3.out.trans (hb4.mono HB3.out.size)); replace ho := Lib.hid (World.ownsRow.alloc (own_below ho.out hb4) (.cells #[.string ⟨#[]⟩, .string ⟨#[]⟩, .string ⟨#[]⟩] 34)); have HB5 := Lib.hid (HB4.out.alloc HB4.out.size (.cells #[.string ⟨#[]⟩, .string ⟨#[]⟩, .string ⟨#[]⟩] 34)); clear hb4 c2))
          go_roundw
          case rel => exact ⟨j + (q + 1), m, N3, A3, C3, _, cl, by omega, by omega, by omega, rfl, ⟨ax, cx, rfl⟩, rfl, HT3, hm, ho, HB5, HZ⟩
          case measure => simp; omega
    · cases R with
      | some x =>
        obtain ⟨qn, ql, qd⟩ := x
        have c2 := fun W (h : Hid (HasT W (.slice A1 (q - p) C1) ((l.take q).drop p))) => denoted_some _ _ hmp qn ql qd hR W h
        obtain ⟨D, hD⟩ : ∃ D, q - p = D := ⟨_, rfl⟩
        rw [hD] at c2 hr1 HT1
        have hz : ((q : Int) == (N1 : Int)) = true := by rw [beq_iff_eq]; omega
        have HZ := Lib.hid (show (out ++ [⟨qn, ql, qd⟩], cl) = (PL, PB) by
          rw [← HG.out, if_neg (by omega)]
          simp [parseP])
        clear HG hR hpc hmp hml hll hs HD HE HF HP
        go_wp2_with (first
          | (go_at_call 27; (with_reducible refine (c1 _ (Lib.hid (HT.out.step hb.out))).mono ?_); rintro e w3 ⟨rfl, hb3⟩; have HB3 := Lib.hid (hb.out.trans (hb3.mono hb.out.size)); replace ho := Lib.hid (own_below ho.out hb3); clear hb3 c1)
          | (go_at_call 28; (with_reducible refine (c2 _ (Lib.hid (HT1.out.step HB3.out))).mono ?_); rintro e w4 ⟨rfl, hb4⟩; have HB4 := Lib.hid (HB3.out.trans (hb4.mono HB3.out.size)); replace ho := Lib.hid (World.ownsRow.alloc (own_below ho.out hb4) (.cells #[.string (strL qn), .string (strL ql), .string (strL qd)] 34)); have HB5 := Lib.hid (HB4.out.alloc HB4.out.size (.cells #[.string (strL qn), .string (strL ql), .string (strL qd)] 34)); clear hb4 c2)
          | (at_builtin; refine wpList_appA (by rfl) (.tmp 28) (.tmp 30) rfl rfl w2.heap.size (⟨qn, ql, qd⟩ : Adr) rfl (by rw [World.size_alloc]; rfl) ho.out hm.out HB5.out.size (by omega) ?_; intro a6 c6 w6 h6 g6; replace h6 := Lib.hid h6; have HB6 := Lib.hid ((HB5.out.alloc HB5.out.size (.cells #[.string (strL qn), .string (strL ql), .string (strL qd)] 34)).trans (below_rowA _ _ _ (World.ownsRow.alloc ho.out _) g6 (by rw [World.size_alloc]; exact Nat.le_trans HB5.out.size (Nat.le_succ _)))); clear g6))
        go_ret2
        obtain ⟨e1, e2⟩ := Prod.mk.inj HZ.out
        have hk2 := HK.out
        rw [← e1] at hk2 ⊢
        rw [List.length_append, hm.out, List.length_singleton] at hk2
        rw [← hk2, ← e2]
        exact ⟨_, _, rfl, ⟨_, h6.out⟩, HB2.out.trans (HB6.out.mono HB2.out.size)⟩
      | none =>
        by_cases h1 : p < q
        · have c2 := fun W (h : Hid (HasT W (.slice A1 (q - p) C1) ((l.take q).drop p))) => denoted_none _ _ hmp hR W h
          obtain ⟨D, hD⟩ : ∃ D, q - p = D := ⟨_, rfl⟩
          rw [hD] at c2 hr1 HT1
          have hlt : (p : Int) < (q : Int) := by omega
          have hz : ((q : Int) == (N1 : Int)) = true := by rw [beq_iff_eq]; omega
          have HZ := Lib.hid (show (out, false) = (PL, PB) by
            rw [← HG.out, if_neg (by omega)]
            rw [HF.out h1]
            simp [parseP])
          clear HG hR hpc hmp hml hll hs HD HE HF HP
          go_wp2_with (first
            | (go_at_call 27; (with_reducible refine (c1 _ (Lib.hid (HT.out.step hb.out))).mono ?_); rintro e w3 ⟨rfl, hb3⟩; have HB3 := Lib.hid (hb.out.trans (hb3.mono hb.out.size)); replace ho := Lib.hid (own_below ho.out hb3); clear hb3 c1)
            | (go_at_call 28; (with_reducible refine (c2 _ (Lib.hid (HT1.out.step HB3.out))).mono ?_); rintro e w4 ⟨rfl, hb4⟩; have HB4 := Lib.hid (HB3.out.trans (hb4.mono HB3.out.size)); replace ho := Lib.hid (World.ownsRow.alloc (own_below ho.out hb4) (.cells #[.string ⟨#[]⟩, .string ⟨#[]⟩, .string ⟨#[]⟩] 34)); have HB5 := Lib.hid (HB4.out.alloc HB4.out.size (.cells #[.string ⟨#[]⟩, .string ⟨#[]⟩, .string ⟨#[]⟩] 34)); clear hb4 c2))
          go_ret2
          obtain ⟨e1, e2⟩ := Prod.mk.inj HZ.out
          have hk2 := HK.out
          rw [← e1] at hk2 ⊢
          rw [hm.out] at hk2
          rw [← hk2, ← e2]
          exact ⟨_, _, rfl, ⟨_, ho.out⟩, HB2.out.trans (HB5.out.mono HB2.out.size)⟩
        · have c2 := fun W (h : Hid (HasT W (.slice A1 (q - p) C1) ((l.take q).drop p))) => denoted_none _ _ hmp hR W h
          obtain ⟨D, hD⟩ : ∃ D, q - p = D := ⟨_, rfl⟩
          rw [hD] at c2 hr1 HT1
          have hlt : ¬ (p : Int) < (q : Int) := by omega
          have hz : ((q : Int) == (N1 : Int)) = true := by rw [beq_iff_eq]; omega
          have HZ := Lib.hid (show (out, cl) = (PL, PB) by
            rw [← HG.out, if_neg (by omega)]
            rw [HE.out h1]
            simp [parseP])
          clear HG hR hpc hmp hml hll hs HD HE HF HP
          go_wp2_with (first
            | (go_at_call 27; (with_reducible refine (c1 _ (Lib.hid (HT.out.step hb.out))).mono ?_); rintro e w3 ⟨rfl, hb3⟩; have HB3 := Lib.hid (hb.out.trans (hb3.mono hb.out.size)); replace ho := Lib.hid (own_below ho.out hb3); clear hb3 c1)
            | (go_at_call 28; (with_reducible refine (c2 _ (Lib.hid (HT1.out.step HB3.out))).mono ?_); rintro e w4 ⟨rfl, hb4⟩; have HB4 := Lib.hid (HB3.out.trans (hb4.mono HB3.out.size)); replace ho := Lib.hid (World.ownsRow.alloc (own_below ho.out hb4) (.cells #[.string ⟨#[]⟩, .string ⟨#[]⟩, .string ⟨#[]⟩] 34)); have HB5 := Lib.hid (HB4.out.alloc HB4.out.size (.cells #[.string ⟨#[]⟩, .string ⟨#[]⟩, .string ⟨#[]⟩] 34)); clear hb4 c2))
          go_ret2
          obtain ⟨e1, e2⟩ := Prod.mk.inj HZ.out
          have hk2 := HK.out
          rw [← e1] at hk2 ⊢
          rw [hm.out] at hk2
          rw [← hk2, ← e2]
          exact ⟨_, _, rfl, ⟨_, ho.out⟩, HB2.out.trans (HB5.out.mono HB2.out.size)⟩
theorem parse_ok : ParseOk := fun S hS W => by
  obtain ⟨a, c, h⟩ : ∃ (a : List Adr) (c : Bool), parseA S.data.toList = (a, c) := ⟨_, _, rfl⟩
  rw [h]
  exact parse_p S hS W a c h _ rfl
end Go.Proofs.YtgponokcigapaaaDoor
namespace Go.Proofs.YtgponokcigapaaaDoor
open Go.ChangeShapes Go.WideShapes Go.ChangeAt Go.RowKit
open TokP AdrP

theorem index_first : ∀ (b r : List UInt8) (c : UInt8), c ∉ b → Lib.indexByte (b ++ c :: r) c = b.length
  | [], r, c, _ => by rw [List.nil_append, Lib.indexByte, if_pos (beq_self_eq_true c)]; rfl
  | d :: b, r, c, h => by
    simp only [List.mem_cons, not_or] at h
    rw [List.cons_append, Lib.indexByte, if_neg (by rw [beq_iff_eq]; exact fun e => h.1 e.symm), index_first b r c h.2]
    rw [if_neg (by rw [beq_iff_eq]; omega), List.length_cons]
    omega
theorem index_not : ∀ (b : List UInt8) (c : UInt8), c ∉ b → Lib.indexByte b c = -1
  | [], c, _ => rfl
  | d :: b, c, h => by
    simp only [List.mem_cons, not_or] at h
    rw [Lib.indexByte, if_neg (by rw [beq_iff_eq]; exact fun e => h.1 e.symm), index_not b c h.2]
    rfl
theorem split_first (l : List UInt8) (c : UInt8) (h : c ∈ l) : ∃ b r, l = b ++ c :: r ∧ c ∉ b := by
  induction l with
  | nil => exact absurd h (by simp)
  | cons d t ih =>
    by_cases e : d = c
    · exact ⟨[], t, by rw [e]; rfl, by simp⟩
    · obtain ⟨b, r, h1, h2⟩ := ih (by rcases List.mem_cons.1 h with h | h; exact absurd h.symm e; exact h)
      exact ⟨d :: b, r, by rw [h1]; rfl, by simp only [List.mem_cons, not_or]; exact ⟨fun x => e x.symm, h2⟩⟩
theorem cutlite_no (s : ByteArray) (h : 62 ∉ s.data.toList) (w : World) :
    Calls Tryd.prog 54 #[.string s, .string ⟨#[62]⟩] w fun e w' => e = .returned (.tuple #[.string s, .string ⟨#[]⟩, .bool false]) ∧ Below w.heap.size w w' := by
  have cI := fun W => Tryd.stringslite_Index_one s 62 W
  rw [index_not _ _ h] at cI
  clear h
  go_enter Tryd.func54, Tryd.ntmps54
  go_wp2_with (go_at_call 76; (refine (cI _).mono ?_); rintro e w1 ⟨rfl, rfl⟩)
  go_ret3
  exact ⟨rfl, Below.refl _ _⟩
theorem cutlite_yes (s : ByteArray) (b r : List UInt8) (hs : s.data.toList = b ++ 62 :: r) (h : 62 ∉ b) (hz : s.size ≤ 1000000) (w : World) :
    Calls Tryd.prog 54 #[.string s, .string ⟨#[62]⟩] w fun e w' => e = .returned (.tuple #[.string (strL b), .string (strL r), .bool true]) ∧ Below w.heap.size w w' := by
  have cI := fun W => Tryd.stringslite_Index_one s 62 W
  rw [hs, index_first b r 62 h] at cI
  have hsz := size_list s
  rw [hs, List.length_append, List.length_cons] at hsz
  obtain ⟨n, hn⟩ : ∃ n, b.length = n := ⟨_, rfl⟩
  rw [hn] at cI hsz
  have R1 := run_slice_to s n n rfl (by omega)
  have R2 := run_slice_from s (n + 1) ((n : Int) + 1) (by omega) (by omega)
  have e1 : s.extract 0 n = strL b := bytes_is (by rw [part_start s n (by omega), hs, strL_list, List.take_left' hn])
  have e2 : s.extract (n + 1) s.size = strL r := bytes_is (by rw [part_rest s (n + 1) (by omega), hs, strL_list, ← List.drop_drop, List.drop_left' hn]; rfl)
  rw [e1] at R1
  rw [e2] at R2
  have F1 : IntKind.i64.wrap ((n : Int) + 1) = (n : Int) + 1 := by rw [IntKind.wrap_i64]; omega
  have g0 : (0 : Int) ≤ (n : Int) := by omega
  generalize strL b = B at R1 ⊢
  generalize strL r = R at R2 ⊢
  clear h hs hn e1 e2 hsz hz
  go_enter Tryd.func54, Tryd.ntmps54
  go_wp2_with (go_at_call 76; (refine (cI _).mono ?_); rintro e w1 ⟨rfl, rfl⟩)
  go_quiet (fail)
  go_wp2_with fail
  go_ret3
  exact ⟨rfl, drew_below _ _⟩
theorem cut_no (s : ByteArray) (h : 62 ∉ s.data.toList) (w : World) :
    Calls Tryd.prog 31 #[.string s, .string ⟨#[62]⟩] w fun e w' => e = .returned (.tuple #[.string s, .string ⟨#[]⟩, .bool false]) ∧ Below w.heap.size w w' := by
  have cI := fun W => cutlite_no s h W
  clear h
  go_enter Tryd.func31, Tryd.ntmps31
  go_wp2_with (go_at_call 54; (with_reducible refine (cI _).mono ?_); rintro e w1 ⟨rfl, hb1⟩)
  go_ret3
  exact ⟨rfl, hb1⟩
theorem cut_yes (s : ByteArray) (b r : List UInt8) (hs : s.data.toList = b ++ 62 :: r) (h : 62 ∉ b) (hz : s.size ≤ 1000000) (w : World) :
    Calls Tryd.prog 31 #[.string s, .string ⟨#[62]⟩] w fun e w' => e = .returned (.tuple #[.string (strL b), .string (strL r), .bool true]) ∧ Below w.heap.size w w' := by
  have cI := fun W => cutlite_yes s b r hs h hz W
  clear h hs
  go_enter Tryd.func31, Tryd.ntmps31
  go_wp2_with (go_at_call 54; (with_reducible refine (cI _).mono ?_); rintro e w1 ⟨rfl, hb1⟩)
  go_ret3
  exact ⟨rfl, hb1⟩
/-! ### LastIndexByte -/
theorem at_bang (s : ByteArray) (j : Nat) (h : j < s.size) : s.data.toList[j]? = some (s.data[j]!) := by
  have hj : j < s.data.size := h
  rw [List.getElem?_eq_getElem (by rw [Array.length_toList]; exact hj), Array.getElem_toList, getElem!_pos s.data j hj]
theorem last_no (l : List UInt8) (h : 60 ∉ l) : Lib.lastIndexByte (strL l) 60 = -1 := by
  rcases Lib.lastIndexByte_spec (strL l) 60 with ⟨e, _⟩ | ⟨i, hi, _, hc, _⟩
  · exact e
  · have := at_bang (strL l) i hi
    rw [strL_list] at this
    have hm := List.mem_of_getElem? this
    rw [show ((strL l).data[i]!) = 60 from UInt8.toNat_inj.1 (by rw [show (60 : UInt8).toNat = 60 from rfl]; omega)] at hm
    exact absurd hm h
theorem last_yes (l : List UInt8) (h : 60 ∈ l) : ∃ x y, l = x ++ 60 :: y ∧ 60 ∉ y ∧ Lib.lastIndexByte (strL l) 60 = x.length := by
  rcases Lib.lastIndexByte_spec (strL l) 60 with ⟨_, hn⟩ | ⟨i, hi, e, hc, hn⟩
  · obtain ⟨i, hi, he⟩ := List.getElem_of_mem h
    have hiz : i < (strL l).size := by rw [strL_size]; exact hi
    have h1 := at_bang (strL l) i hiz
    rw [strL_list, List.getElem?_eq_getElem hi, he] at h1
    have := hn i hiz
    rw [← Option.some.inj h1] at this
    exact absurd rfl this
  · have h1 := at_bang (strL l) i hi
    rw [strL_list] at h1
    have h60 : (strL l).data[i]! = 60 := UInt8.toNat_inj.1 (by rw [show (60 : UInt8).toNat = 60 from rfl]; omega)
    rw [h60] at h1
    have hil : i < l.length := by rw [← strL_size l]; exact hi
    refine ⟨l.take i, l.drop (i + 1), ?_, ?_, ?_⟩
    · rw [← cons_at l i 60 h1, List.take_append_drop]
    · intro hm
      obtain ⟨j, hj, he⟩ := List.getElem_of_mem hm
      rw [List.getElem_drop] at he
      rw [List.length_drop] at hj
      have hjz : i + 1 + j < (strL l).size := by rw [strL_size]; omega
      have h2 := at_bang (strL l) (i + 1 + j) hjz
      rw [strL_list, List.getElem?_eq_getElem (by omega), he] at h2
      have := hn (i + 1 + j) (by omega) hjz
      rw [← Option.some.inj h2] at this
      exact this rfl
    · rw [e, List.length_take]; omega
/-! ### isSolid, isId -/
def solid1 (c : UInt8) : Bool := decide (32 < c.toNat) && c != 127
theorem solid_at {l : List UInt8} {k : Nat} {c : UInt8} (h : l[k]? = some c) : solidB (l.drop k) = (solid1 c && solidB (l.drop (k + 1))) := by
  rw [cons_at l k c h]; rfl
set_option maxHeartbeats 1000000 in
theorem solid_any (s : ByteArray) (hs : s.size ≤ 1000000) (w : World) :
    Calls Tryd.prog 56 #[.string s] w fun e w' => e = .returned (.bool (solidB s.data.toList)) ∧ w = w' := by
  obtain ⟨R, hR⟩ : ∃ R, solidB s.data.toList = R := ⟨_, rfl⟩
  rw [hR]
  obtain ⟨n, hn⟩ : ∃ n, s.size = n := ⟨_, rfl⟩
  have HL := Lib.hid (size_list s)
  have HR := Lib.hid (show solidB (s.data.toList.drop 0) = R from hR)
  rw [hn] at hs
  have HN := Lib.hid hn
  clear hR
  go_enter Tryd.func56, Tryd.ntmps56
  go_wp2_with fail
  go_loopw [6] (fun i wr => ∃ k : Nat, k ≤ n ∧ i = .int .i64 k ∧ wr = w ∧ Hid (solidB (s.data.toList.drop k) = R)) (fun i _ => n - (intOf i).toNat)
  case atStart => exact ⟨0, Nat.zero_le _, rfl, rfl, HR⟩
  case round =>
    obtain ⟨k, hk, rfl, rfl, HG⟩ := hrel
    have F1 : IntKind.i64.wrap ((k : Int) + 1) = (k : Int) + 1 := by rw [IntKind.wrap_i64]; omega
    by_cases hlt : k < n
    · have hlt' : (k : Int) < (n : Int) := by omega
      obtain ⟨c, x, hc, hx, hx2, S1⟩ := run_byte s k (by rw [hn]; exact hlt)
      have hst := solid_at hc
      rw [HG.out] at hst
      have e127 := ne127 c x hx
      by_cases h32 : x ≤ 32
      · have h32' : (x : Int) ≤ 32 := by omega
        obtain rfl : R = false := by rw [hst]; unfold solid1; rw [decide_eq_false (by omega)]; rfl
        clear hc hx hst HG HR e127 h32
        go_wp2_with fail
        go_ret
        exact ⟨rfl, rfl⟩
      · have h32' : ¬ (x : Int) ≤ 32 := by omega
        by_cases h127 : c = 127
        · rw [decide_eq_true h127] at e127
          obtain rfl : R = false := by rw [hst]; unfold solid1; rw [h127]; simp
          clear hc hx hst HG HR h32 h127
          go_wp2_with fail
          go_ret
          exact ⟨rfl, rfl⟩
        · rw [decide_eq_false h127] at e127
          have HG2 := Lib.hid (show solidB (s.data.toList.drop (k + 1)) = R by
            rw [hst]
            unfold solid1
            rw [decide_eq_true (by omega), show (c != 127) = true by simpa using h127]; rfl)
          clear hc hx hst HG HR h32 h127
          go_wp2_with fail
          go_roundw
          case rel => exact ⟨k + 1, by omega, by go_num, trivial, HG2⟩
          case measure => simp [intOf]; omega
    · obtain rfl : k = n := by omega
      have hlt' : ¬ (k : Int) < (k : Int) := by omega
      obtain rfl : true = R := by
        rw [← HG.out, List.drop_eq_nil_of_le (by rw [← HL.out, HN.out]; exact Nat.le_refl _)]; rfl
      go_wp2_with fail
      go_ret
      exact ⟨rfl, rfl⟩
def idB (y : List UInt8) : Bool := decide (0 < y.length) && decide (y.length ≤ 250) && solidB y
theorem isId_any (y : List UInt8) (hy : y.length ≤ 1000000) (w : World) :
    Calls Tryd.prog 33 #[.string (strL y)] w fun e w' => e = .returned (.bool (idB y)) ∧ w = w' := by
  have cS := solid_any (strL y) (by rw [strL_size]; exact hy)
  rw [strL_list] at cS
  have hz := strL_size y
  unfold idB
  by_cases h0 : 0 < y.length
  · have hne : (strL y).toList.isEmpty = false := by
      rw [ByteArray.toList_eq, strL_list, ← Bool.not_eq_true, List.isEmpty_iff]
      rintro rfl
      simp at h0
    have hne2 : ((strL y).toList != []) = true := by
      rw [ByteArray.toList_eq, strL_list, bne_iff_ne]
      rintro rfl
      simp at h0
    rw [decide_eq_true h0, Bool.true_and]
    by_cases h1 : y.length ≤ 250
    · have h1' : ((strL y).size : Int) ≤ 250 := by omega
      rw [decide_eq_true h1, Bool.true_and]
      generalize strL y = S at cS hne hne2 h1' ⊢
      generalize solidB y = b at cS ⊢
      clear hz h0 h1 hy
      go_enter Tryd.func33, Tryd.ntmps33
      go_wp2_with (go_at_call 56; (with_reducible refine (cS _).mono ?_); rintro e w1 ⟨rfl, rfl⟩)
      go_ret
      exact ⟨rfl, rfl⟩
    · have h1' : ¬ ((strL y).size : Int) ≤ 250 := by omega
      rw [decide_eq_false h1, Bool.false_and]
      generalize strL y = S at cS hne hne2 h1' ⊢
      clear hz h0 h1 hy cS
      go_enter Tryd.func33, Tryd.ntmps33
      go_wp2_with fail
      go_ret
      exact ⟨rfl, rfl⟩
  · obtain rfl : y = [] := List.eq_nil_of_length_eq_zero (by omega)
    clear hz h0 hy cS
    show Calls Tryd.prog 33 #[.string ⟨#[]⟩] w fun e w' => e = .returned (.bool false) ∧ w = w'
    go_enter Tryd.func33, Tryd.ntmps33
    go_wp2_with fail
    go_ret
    exact ⟨rfl, rfl⟩
end Go.Proofs.YtgponokcigapaaaDoor
namespace Go.Proofs.YtgponokcigapaaaDoor

/-- Is n a code point? -/
def cpB (n : Nat) : Bool := decide (n < 55296) || (decide (57344 ≤ n) && decide (n ≤ 1114111))
theorem cp_iff (n : Nat) : cpB n = true ↔ n < 55296 ∨ (57344 ≤ n ∧ n ≤ 1114111) := by simp [cpB]
/-- Its encoding. -/
def encL (n : Nat) : List UInt8 :=
  if n < 128 then [UInt8.ofNat n]
  else if n < 2048 then [UInt8.ofNat (192 + n / 64), UInt8.ofNat (128 + n % 64)]
  else if n < 65536 then [UInt8.ofNat (224 + n / 4096), UInt8.ofNat (128 + n / 64 % 64), UInt8.ofNat (128 + n % 64)]
  else [UInt8.ofNat (240 + n / 262144), UInt8.ofNat (128 + n / 4096 % 64), UInt8.ofNat (128 + n / 64 % 64), UInt8.ofNat (128 + n % 64)]
/-- Does a byte continue an encoding? -/
def contB (b : UInt8) : Bool := decide (128 ≤ b.toNat) && decide (b.toNat < 192)
/-- The code point with whose encoding the bytes begin. -/
def firstS : List UInt8 → Option Nat
  | [] => none
  | b0 :: r =>
    if b0.toNat < 128 then some b0.toNat
    else if b0.toNat < 192 then none
    else if b0.toNat < 224 then match r with
      | b1 :: _ => if contB b1 && decide (128 ≤ (b0.toNat - 192) * 64 + (b1.toNat - 128)) then some ((b0.toNat - 192) * 64 + (b1.toNat - 128)) else none
      | [] => none
    else if b0.toNat < 240 then match r with
      | b1 :: b2 :: _ => if contB b1 && contB b2 && decide (2048 ≤ (b0.toNat - 224) * 4096 + (b1.toNat - 128) * 64 + (b2.toNat - 128)) && cpB ((b0.toNat - 224) * 4096 + (b1.toNat - 128) * 64 + (b2.toNat - 128)) then some ((b0.toNat - 224) * 4096 + (b1.toNat - 128) * 64 + (b2.toNat - 128)) else none
      | _ => none
    else if b0.toNat < 248 then match r with
      | b1 :: b2 :: b3 :: _ => if contB b1 && contB b2 && contB b3 && decide (65536 ≤ (b0.toNat - 240) * 262144 + (b1.toNat - 128) * 4096 + (b2.toNat - 128) * 64 + (b3.toNat - 128)) && cpB ((b0.toNat - 240) * 262144 + (b1.toNat - 128) * 4096 + (b2.toNat - 128) * 64 + (b3.toNat - 128)) then some ((b0.toNat - 240) * 262144 + (b1.toNat - 128) * 4096 + (b2.toNat - 128) * 64 + (b3.toNat - 128)) else none
      | _ => none
    else none

theorem byte_of {b : UInt8} {n : Nat} (h : n = b.toNat) : UInt8.ofNat n = b := by rw [h]; simp
theorem cont_iff (b : UInt8) : contB b = true ↔ 128 ≤ b.toNat ∧ b.toNat < 192 := by simp [contB]
/-- What is found is a code point, and the bytes begin with its encoding. -/
theorem first_some' {l : List UInt8} {n : Nat} (h : firstS l = some n) : cpB n = true ∧ ∃ t, l = encL n ++ t := by
  cases l with
  | nil => simp [firstS] at h
  | cons b0 r =>
    have h0 := b0.toNat_lt
    unfold firstS at h
    simp only at h
    by_cases c1 : b0.toNat < 128
    · rw [if_pos c1] at h
      injection h with h
      subst h
      refine ⟨(cp_iff _).2 (by omega), r, ?_⟩
      rw [encL, if_pos c1, byte_of rfl]; rfl
    · rw [if_neg c1] at h
      by_cases c2 : b0.toNat < 192
      · rw [if_pos c2] at h; cases h
      · rw [if_neg c2] at h
        by_cases c3 : b0.toNat < 224
        · rw [if_pos c3] at h
          cases r with
          | nil => cases h
          | cons b1 r =>
            have h1 := b1.toNat_lt
            simp only at h
            split at h
            · rename_i hc
              injection h with h
              simp only [Bool.and_eq_true, cont_iff, decide_eq_true_eq] at hc
              subst h
              refine ⟨(cp_iff _).2 (by omega), r, ?_⟩
              rw [encL, if_neg (by omega), if_pos (by omega), byte_of (b := b0) (by omega), byte_of (b := b1) (by omega)]; rfl
            · cases h
        · rw [if_neg c3] at h
          by_cases c4 : b0.toNat < 240
          · rw [if_pos c4] at h
            match r, h with
            | [], h => cases h
            | [_], h => cases h
            | b1 :: b2 :: r, h =>
              have h1 := b1.toNat_lt
              have h2 := b2.toNat_lt
              simp only at h
              split at h
              · rename_i hc
                injection h with h
                simp only [Bool.and_eq_true, cont_iff, decide_eq_true_eq] at hc
                obtain ⟨⟨⟨hc1, hc2⟩, hc3⟩, hc4⟩ := hc
                subst h
                refine ⟨hc4, r, ?_⟩
                rw [encL, if_neg (by omega), if_neg (by omega), if_pos (by omega), byte_of (b := b0) (by omega), byte_of (b := b1) (by omega), byte_of (b := b2) (by omega)]; rfl
              · cases h
          · rw [if_neg c4] at h
            by_cases c5 : b0.toNat < 248
            · rw [if_pos c5] at h
              match r, h with
              | [], h => cases h
              | [_], h => cases h
              | [_, _], h => cases h
              | b1 :: b2 :: b3 :: r, h =>
                have h1 := b1.toNat_lt
                have h2 := b2.toNat_lt
                have h3 := b3.toNat_lt
                simp only at h
                split at h
                · rename_i hc
                  injection h with h
                  simp only [Bool.and_eq_true, cont_iff, decide_eq_true_eq] at hc
                  obtain ⟨⟨⟨⟨hc1, hc2⟩, hc3⟩, hc4⟩, hc5⟩ := hc
                  subst h
                  refine ⟨hc5, r, ?_⟩
                  rw [encL, if_neg (by omega), if_neg (by omega), if_neg (by omega), byte_of (b := b0) (by omega), byte_of (b := b1) (by omega), byte_of (b := b2) (by omega), byte_of (b := b3) (by omega)]; rfl
                · cases h
            · rw [if_neg c5] at h; cases h
theorem nat_byte {n : Nat} (h : n < 256) : (UInt8.ofNat n).toNat = n := by rw [UInt8.toNat_ofNat']; omega
/-- A code point's encoding is found, whatever follows. -/
theorem first_enc {n : Nat} (h : cpB n = true) (t : List UInt8) : firstS (encL n ++ t) = some n := by
  have hc := (cp_iff n).1 h
  unfold encL
  by_cases c1 : n < 128
  · rw [if_pos c1, List.singleton_append]
    unfold firstS
    simp only
    rw [nat_byte (by omega), if_pos c1]
  · rw [if_neg c1]
    by_cases c2 : n < 2048
    · rw [if_pos c2]
      simp only [List.cons_append, List.nil_append]
      unfold firstS
      simp only
      rw [nat_byte (by omega), if_neg (by omega), if_neg (by omega), if_pos (by omega)]
      have e : (192 + n / 64 - 192) * 64 + ((UInt8.ofNat (128 + n % 64)).toNat - 128) = n := by rw [nat_byte (by omega)]; omega
      rw [e, if_pos]
      simp only [Bool.and_eq_true, cont_iff, decide_eq_true_eq]
      rw [nat_byte (by omega)]; omega
    · rw [if_neg c2]
      by_cases c3 : n < 65536
      · rw [if_pos c3]
        simp only [List.cons_append, List.nil_append]
        unfold firstS
        simp only
        rw [nat_byte (show 224 + n / 4096 < 256 by omega), if_neg (by omega), if_neg (by omega), if_neg (by omega), if_pos (by omega)]
        have e : (224 + n / 4096 - 224) * 4096 + ((UInt8.ofNat (128 + n / 64 % 64)).toNat - 128) * 64 + ((UInt8.ofNat (128 + n % 64)).toNat - 128) = n := by
          rw [nat_byte (by omega), nat_byte (by omega)]; omega
        rw [e, if_pos]
        simp only [Bool.and_eq_true, cont_iff, decide_eq_true_eq, h, and_true]
        rw [nat_byte (by omega), nat_byte (by omega)]; omega
      · rw [if_neg c3]
        simp only [List.cons_append, List.nil_append]
        unfold firstS
        simp only
        rw [nat_byte (show 240 + n / 262144 < 256 by omega), if_neg (by omega), if_neg (by omega), if_neg (by omega), if_neg (by omega), if_pos (by omega)]
        have e : (240 + n / 262144 - 240) * 262144 + ((UInt8.ofNat (128 + n / 4096 % 64)).toNat - 128) * 4096 + ((UInt8.ofNat (128 + n / 64 % 64)).toNat - 128) * 64 + ((UInt8.ofNat (128 + n % 64)).toNat - 128) = n := by
          rw [nat_byte (by omega), nat_byte (by omega), nat_byte (by omega)]; omega
        rw [e, if_pos]
        simp only [Bool.and_eq_true, cont_iff, decide_eq_true_eq, h, and_true]
        rw [nat_byte (by omega), nat_byte (by omega), nat_byte (by omega)]; omega
theorem enc_len (n : Nat) : 1 ≤ (encL n).length ∧ (encL n).length ≤ 4 := by
  unfold encL
  (repeat' split) <;> simp
theorem enc_ne (n : Nat) : encL n ≠ [] := fun h => by
  have := (enc_len n).1
  rw [h] at this
  simp at this

/-- Decoding from left to right, with fuel. -/
def runesF : Nat → List UInt8 → List Nat
  | 0, _ => []
  | _ + 1, [] => []
  | f + 1, b :: t => match firstS (b :: t) with
    | some n => n :: runesF f ((b :: t).drop (encL n).length)
    | none => 65533 :: runesF f t
def validF : Nat → List UInt8 → Bool
  | 0, _ => true
  | _ + 1, [] => true
  | f + 1, b :: t => match firstS (b :: t) with
    | some n => validF f ((b :: t).drop (encL n).length)
    | none => false
theorem runesF_more : ∀ (f : Nat) (l : List UInt8), l.length ≤ f → runesF f l = runesF l.length l := by
  intro f
  induction f using Nat.strongRecOn with
  | ind f ih =>
    intro l hl
    cases l with
    | nil => cases f <;> rfl
    | cons b t =>
      cases f with
      | zero => simp at hl
      | succ f =>
        simp only [List.length_cons, runesF]
        have hl2 : t.length ≤ f := by simpa using hl
        cases hf : firstS (b :: t) with
        | none => simp only; rw [ih f (by omega) t hl2]
        | some n =>
          simp only
          have hd : ((b :: t).drop (encL n).length).length ≤ t.length := by
            have := (enc_len n).1
            rw [List.length_drop, List.length_cons]; omega
          rw [ih f (by omega) _ (by omega)]
          by_cases e : t.length < f + 1
          · rw [ih t.length e _ hd]
          · omega
theorem validF_more : ∀ (f : Nat) (l : List UInt8), l.length ≤ f → validF f l = validF l.length l := by
  intro f
  induction f using Nat.strongRecOn with
  | ind f ih =>
    intro l hl
    cases l with
    | nil => cases f <;> rfl
    | cons b t =>
      cases f with
      | zero => simp at hl
      | succ f =>
        simp only [List.length_cons, validF]
        have hl2 : t.length ≤ f := by simpa using hl
        cases hf : firstS (b :: t) with
        | none => rfl
        | some n =>
          simp only
          have hd : ((b :: t).drop (encL n).length).length ≤ t.length := by
            have := (enc_len n).1
            rw [List.length_drop, List.length_cons]; omega
          rw [ih f (by omega) _ (by omega)]
          by_cases e : t.length < f + 1
          · rw [ih t.length e _ hd]
          · omega
def runesL (l : List UInt8) : List Nat := runesF l.length l
def validL (l : List UInt8) : Bool := validF l.length l
def repairL (l : List UInt8) : List UInt8 := (runesL l).flatMap encL
theorem runes_nil : runesL [] = [] := rfl
theorem valid_nil : validL [] = true := rfl
theorem runes_enc {n : Nat} (h : cpB n = true) (t : List UInt8) : runesL (encL n ++ t) = n :: runesL t := by
  unfold runesL
  have hf := first_enc h t
  cases e : encL n ++ t with
  | nil => exact absurd (List.append_eq_nil_iff.1 e).1 (enc_ne n)
  | cons b r =>
    rw [e] at hf
    simp only [List.length_cons, runesF, hf]
    rw [← e, List.drop_left]
    congr 1
    refine runesF_more _ _ ?_
    have := congrArg List.length e
    have h1 := (enc_len n).1
    rw [List.length_append, List.length_cons] at this
    omega
theorem runes_none {b : UInt8} {t : List UInt8} (h : firstS (b :: t) = none) : runesL (b :: t) = 65533 :: runesL t := by
  unfold runesL
  simp only [List.length_cons, runesF, h]
theorem valid_enc {n : Nat} (h : cpB n = true) (t : List UInt8) : validL (encL n ++ t) = validL t := by
  unfold validL
  have hf := first_enc h t
  cases e : encL n ++ t with
  | nil => exact absurd (List.append_eq_nil_iff.1 e).1 (enc_ne n)
  | cons b r =>
    rw [e] at hf
    simp only [List.length_cons, validF, hf]
    rw [← e, List.drop_left]
    refine validF_more _ _ ?_
    have := congrArg List.length e
    have h1 := (enc_len n).1
    rw [List.length_append, List.length_cons] at this
    omega
theorem valid_none {b : UInt8} {t : List UInt8} (h : firstS (b :: t) = none) : validL (b :: t) = false := by
  unfold validL
  simp only [List.length_cons, validF, h]
/-- Induction along the decoding. -/
theorem utf_ind {p : List UInt8 → Prop} (h0 : p []) (h1 : ∀ n t, cpB n = true → p t → p (encL n ++ t)) (h2 : ∀ b t, firstS (b :: t) = none → p t → p (b :: t)) : ∀ (k : Nat) (l : List UInt8), l.length ≤ k → p l := by
  intro k
  induction k with
  | zero =>
    intro l hl
    obtain rfl : l = [] := List.eq_nil_of_length_eq_zero (by omega)
    exact h0
  | succ k ih =>
    intro l hl
    cases l with
    | nil => exact h0
    | cons b t =>
      cases hf : firstS (b :: t) with
      | none => exact h2 b t hf (ih t (by simpa using hl))
      | some n =>
        obtain ⟨hc, r, hr⟩ := first_some' hf
        rw [hr]
        refine h1 n r hc (ih r ?_)
        have h3 := congrArg List.length hr
        have h4 := (enc_len n).1
        rw [List.length_append] at h3
        omega
theorem utf_all {p : List UInt8 → Prop} (h0 : p []) (h1 : ∀ n t, cpB n = true → p t → p (encL n ++ t)) (h2 : ∀ b t, firstS (b :: t) = none → p t → p (b :: t)) (l : List UInt8) : p l := utf_ind h0 h1 h2 l.length l (Nat.le_refl _)

theorem cp_bad : cpB 65533 = true := by decide
theorem runes_cp (l : List UInt8) : ∀ n ∈ runesL l, cpB n = true := by
  refine utf_all (p := fun l => ∀ n ∈ runesL l, cpB n = true) (by intro n h; simp [runes_nil] at h) ?_ ?_ l
  · intro m t hm ih n hn
    rw [runes_enc hm] at hn
    rcases List.mem_cons.1 hn with rfl | hn
    · exact hm
    · exact ih n hn
  · intro b t hf ih n hn
    rw [runes_none hf] at hn
    rcases List.mem_cons.1 hn with rfl | hn
    · exact cp_bad
    · exact ih n hn
/-- Encodings, joined, are read as what they encode, whatever follows. -/
theorem runes_flat : ∀ (ns : List Nat), (∀ n ∈ ns, cpB n = true) → ∀ t, runesL (ns.flatMap encL ++ t) = ns ++ runesL t
  | [], _, t => by simp
  | n :: ns, h, t => by
    rw [List.flatMap_cons, List.append_assoc, runes_enc (h n (by simp)), runes_flat ns (fun m hm => h m (by simp [hm]))]; rfl
theorem valid_flat : ∀ (ns : List Nat), (∀ n ∈ ns, cpB n = true) → ∀ t, validL (ns.flatMap encL ++ t) = validL t
  | [], _, t => by simp
  | n :: ns, h, t => by
    rw [List.flatMap_cons, List.append_assoc, valid_enc (h n (by simp)), valid_flat ns (fun m hm => h m (by simp [hm]))]
/-- What is repaired is read as before, also with more behind it. -/
theorem runes_repair (l t : List UInt8) : runesL (repairL l ++ t) = runesL l ++ runesL t := runes_flat _ (runes_cp l) t
theorem valid_repair (l t : List UInt8) : validL (repairL l ++ t) = validL t := valid_flat _ (runes_cp l) t
theorem runes_repair' (l : List UInt8) : runesL (repairL l) = runesL l := by
  have := runes_repair l []
  rw [List.append_nil, runes_nil, List.append_nil] at this
  exact this
theorem valid_repair' (l : List UInt8) : validL (repairL l) = true := by
  have := valid_repair l []
  rw [List.append_nil] at this
  exact this
theorem repair_repair (l t : List UInt8) : repairL (repairL l ++ t) = repairL l ++ repairL t := by
  unfold repairL
  rw [show runesL ((runesL l).flatMap encL ++ t) = runesL l ++ runesL t from runes_repair l t, List.flatMap_append]
theorem repair_fixed (l : List UInt8) : repairL (repairL l) = repairL l := by
  unfold repairL
  rw [show runesL ((runesL l).flatMap encL) = runesL l from runes_repair' l]
theorem repair_valid (l : List UInt8) : validL l = true → repairL l = l := by
  refine utf_all (p := fun l => validL l = true → repairL l = l) (fun _ => rfl) ?_ ?_ l
  · intro n t hn ih h
    rw [valid_enc hn] at h
    unfold repairL at ih ⊢
    rw [runes_enc hn, List.flatMap_cons, ih h]
  · intro b t hf _ h
    rw [valid_none hf] at h
    cases h
/-- A string is as its repair just if it is valid. -/
theorem repair_same (l : List UInt8) : repairL l = l ↔ validL l = true :=
  ⟨fun h => by rw [← h]; exact valid_repair' l, repair_valid l⟩
theorem runes_len (l : List UInt8) : (runesL l).length ≤ l.length ∧ l.length ≤ 4 * (runesL l).length := by
  refine utf_all (p := fun l => (runesL l).length ≤ l.length ∧ l.length ≤ 4 * (runesL l).length) (by simp [runes_nil]) ?_ ?_ l
  · intro n t hn ih
    have := enc_len n
    rw [runes_enc hn, List.length_append, List.length_cons]; omega
  · intro b t hf ih
    rw [runes_none hf, List.length_cons, List.length_cons]; omega
theorem enc_bad_len : (encL 65533).length = 3 := by decide
theorem repair_len (l : List UInt8) : (repairL l).length ≤ 3 * l.length := by
  refine utf_all (p := fun l => (repairL l).length ≤ 3 * l.length) (by simp [repairL, runes_nil]) ?_ ?_ l
  · intro n t hn ih
    unfold repairL at ih ⊢
    rw [runes_enc hn, List.flatMap_cons, List.length_append, List.length_append]
    omega
  · intro b t hf ih
    unfold repairL at ih ⊢
    rw [runes_none hf, List.flatMap_cons, List.length_append, enc_bad_len, List.length_cons]
    omega
/-- Each prefix of whole code points of a valid string is the string's, and valid. -/
theorem valid_prefix (l : List UInt8) (h : validL l = true) (k : Nat) : ((runesL l).take k).flatMap encL <+: l ∧ validL (((runesL l).take k).flatMap encL) = true := by
  refine ⟨?_, ?_⟩
  · have e := repair_valid l h
    unfold repairL at e
    conv => rhs; rw [← e]
    conv => rhs; rw [← List.take_append_drop k (runesL l), List.flatMap_append]
    exact List.prefix_append _ _
  · have := valid_flat ((runesL l).take k) (fun n hn => runes_cp l n (List.mem_of_mem_take hn)) []
    rw [List.append_nil] at this
    exact this
/-- One code point a byte: nothing is joined where each piece is an encoding. -/
theorem valid_all (ns : List Nat) (h : ∀ n ∈ ns, cpB n = true) : validL (ns.flatMap encL) = true ∧ runesL (ns.flatMap encL) = ns := by
  have h1 := valid_flat ns h []
  have h2 := runes_flat ns h []
  rw [List.append_nil] at h1 h2
  rw [runes_nil, List.append_nil] at h2
  exact ⟨h1, h2⟩
end Go.Proofs.YtgponokcigapaaaDoor
namespace Go.Proofs.YtgponokcigapaaaDoor

/-- The library's encoding of a code point. -/
theorem encR_eq {n : Nat} (h : cpB n = true) : Lib.encodeRune (n : Int) = encL n := by
  have hc := (cp_iff n).1 h
  unfold Lib.encodeRune encL
  by_cases c1 : n < 128
  · rw [Lib.encodeRuneZ_one (by omega) (by omega), if_pos c1]
    simp only [List.map_cons, List.map_nil]
    congr 1
  · rw [if_neg c1]
    by_cases c2 : n < 2048
    · rw [Lib.encodeRuneZ_two (by omega) (by omega), if_pos c2]
      simp only [List.map_cons, List.map_nil]
      rw [show ((192 : Int) + (n : Int) / 64).toNat = 192 + n / 64 by omega, show ((128 : Int) + (n : Int) % 64).toNat = 128 + n % 64 by omega]
    · rw [if_neg c2]
      by_cases c3 : n < 65536
      · rw [Lib.encodeRuneZ_three (by omega), if_pos c3]
        simp only [List.map_cons, List.map_nil]
        rw [show ((224 : Int) + (n : Int) / 4096).toNat = 224 + n / 4096 by omega, show ((128 : Int) + (n : Int) / 64 % 64).toNat = 128 + n / 64 % 64 by omega, show ((128 : Int) + (n : Int) % 64).toNat = 128 + n % 64 by omega]
      · rw [Lib.encodeRuneZ_four (by omega) (by omega), if_neg c3]
        simp only [List.map_cons, List.map_nil]
        rw [show ((240 : Int) + (n : Int) / 262144).toNat = 240 + n / 262144 by omega, show ((128 : Int) + (n : Int) / 4096 % 64).toNat = 128 + n / 4096 % 64 by omega, show ((128 : Int) + (n : Int) / 64 % 64).toNat = 128 + n / 64 % 64 by omega, show ((128 : Int) + (n : Int) % 64).toNat = 128 + n % 64 by omega]
/-- .. and of anything else. -/
theorem encR_bad {r : Int} (h : r < 0 ∨ (55296 ≤ r ∧ r ≤ 57343) ∨ 1114111 < r) : Lib.encodeRune r = encL 65533 := by
  unfold Lib.encodeRune
  rw [Lib.encodeRuneZ_bad h]
  decide

/-- What the decoder makes of an encoding. -/
theorem decode_enc {n : Nat} (h : cpB n = true) (t : List UInt8) : Lib.decodeL (encL n ++ t) = (n, (encL n).length) := by
  have hc := (cp_iff n).1 h
  rw [Lib.decodeL_N]
  unfold encL Lib.decodeN
  by_cases c1 : n < 128
  · rw [if_pos c1]
    simp only [List.cons_append, List.nil_append, List.getD_cons_zero, List.length_cons, List.length_nil]
    rw [nat_byte (show n < 256 by omega), if_pos c1]
  · rw [if_neg c1]
    by_cases c2 : n < 2048
    · rw [if_pos c2]
      simp only [List.cons_append, List.nil_append, List.getD_cons_zero, List.getD_cons_succ, List.length_cons, List.length_nil]
      rw [nat_byte (show 192 + n / 64 < 256 by omega), nat_byte (show 128 + n % 64 < 256 by omega), if_neg (by omega), if_pos (by omega), if_pos (by omega)]
      exact Prod.ext (by simp only; omega) rfl
    · rw [if_neg c2]
      by_cases c3 : n < 65536
      · rw [if_pos c3]
        simp only [List.cons_append, List.nil_append, List.getD_cons_zero, List.getD_cons_succ, List.length_cons, List.length_nil]
        rw [nat_byte (show 224 + n / 4096 < 256 by omega), nat_byte (show 128 + n / 64 % 64 < 256 by omega), nat_byte (show 128 + n % 64 < 256 by omega), if_neg (by omega), if_neg (by omega), if_pos (by omega), if_pos (by omega)]
        exact Prod.ext (by simp only; omega) rfl
      · rw [if_neg c3]
        simp only [List.cons_append, List.nil_append, List.getD_cons_zero, List.getD_cons_succ, List.length_cons, List.length_nil]
        rw [nat_byte (show 240 + n / 262144 < 256 by omega), nat_byte (show 128 + n / 4096 % 64 < 256 by omega), nat_byte (show 128 + n / 64 % 64 < 256 by omega), nat_byte (show 128 + n % 64 < 256 by omega), if_neg (by omega), if_neg (by omega), if_neg (by omega), if_pos (by omega), if_pos (by omega)]
        exact Prod.ext (by simp only; omega) rfl
theorem decode_cp (l : List UInt8) : cpB (Lib.decodeL l).1 = true := by
  rw [Lib.decodeL_N, cp_iff]
  have k0 := (l.getD 0 0).toNat_lt
  rcases Lib.decodeN_shape l.length (l.getD 0 0).toNat (l.getD 1 0).toNat (l.getD 2 0).toNat (l.getD 3 0).toNat with ⟨c, e⟩ | ⟨c1, c2, c3, cv, e⟩ | ⟨c1, c2, c3, c4, cv, cs, e⟩ | ⟨c1, c2, c3, c4, c5, cv, cw, e⟩ | e
  all_goals (rw [e]; dsimp only; omega)
/-- The decoder in the list's words. -/
theorem decode_none {l : List UInt8} (hne : l ≠ []) (h : firstS l = none) : Lib.decodeL l = (65533, 1) := by
  by_cases hv : (Lib.decodeL l).1 = 65533 ∧ (Lib.decodeL l).2 = 1
  · exact Prod.ext hv.1 hv.2
  · have he := Lib.encode_decode l hne hv
    rw [encR_eq (decode_cp l)] at he
    have := first_enc (decode_cp l) (l.drop (Lib.decodeL l).2)
    rw [he, List.take_append_drop, h] at this
    cases this
theorem decode_some {l : List UInt8} {n : Nat} (h : firstS l = some n) : Lib.decodeL l = (n, (encL n).length) := by
  obtain ⟨hc, t, rfl⟩ := first_some' h
  exact decode_enc hc t

/-- A step of the decoder. -/
theorem runes_step (l : List UInt8) (hne : l ≠ []) : runesL l = (Lib.decodeL l).1 :: runesL (l.drop (Lib.decodeL l).2) := by
  cases hf : firstS l with
  | none =>
    rw [decode_none hne hf]
    cases l with
    | nil => exact absurd rfl hne
    | cons b t => rw [runes_none hf]; rfl
  | some n =>
    obtain ⟨hc, t, rfl⟩ := first_some' hf
    rw [decode_enc hc t, runes_enc hc, List.drop_left]
theorem runes_at (s : ByteArray) (pos : Nat) (h : pos < s.size) : runesL (s.data.toList.drop pos) = (Utf8.decode s pos).1 :: runesL (s.data.toList.drop (pos + (Utf8.decode s pos).2)) := by
  have hne : s.data.toList.drop pos ≠ [] := by
    intro e
    have := congrArg List.length e
    rw [List.length_drop, Array.length_toList] at this
    simp only [List.length_nil] at this
    have : s.size = s.data.size := rfl
    omega
  rw [runes_step _ hne, Lib.decodeL_drop, List.drop_drop]
theorem runes_over (s : ByteArray) (pos : Nat) (h : ¬ pos < s.size) : runesL (s.data.toList.drop pos) = [] := by
  rw [List.drop_eq_nil_of_le]
  · rfl
  · rw [Array.length_toList]
    have : s.size = s.data.size := rfl
    omega
theorem width_at (s : ByteArray) (pos : Nat) (h : pos < s.size) : 1 ≤ (Utf8.decode s pos).2 ∧ pos + (Utf8.decode s pos).2 ≤ s.size := by
  have hne : s.data.toList.drop pos ≠ [] := by
    intro e
    have := congrArg List.length e
    rw [List.length_drop, Array.length_toList] at this
    simp only [List.length_nil] at this
    have : s.size = s.data.size := rfl
    omega
  refine ⟨Lib.width_pos s pos, ?_⟩
  have := Lib.decodeL_le _ hne
  rw [Lib.decodeL_drop, List.length_drop, Array.length_toList] at this
  have e : s.size = s.data.size := rfl
  omega
/-- The library's count of code points. -/
theorem count_from (s : ByteArray) : ∀ (fuel pos : Nat), s.size ≤ pos + fuel → Lib.runeCountFrom s fuel pos = (runesL (s.data.toList.drop pos)).length
  | 0, pos, h => by rw [runes_over s pos (by omega)]; rfl
  | f + 1, pos, h => by
    by_cases hp : pos < s.size
    · rw [runes_at s pos hp]
      have := width_at s pos hp
      rw [Lib.runeCountFrom, if_pos hp, count_from s f _ (by omega), List.length_cons]
      omega
    · rw [runes_over s pos hp, Lib.runeCountFrom, if_neg hp]; rfl
theorem count_eq (s : ByteArray) : Lib.runeCount s = (runesL s.data.toList).length := by
  have := count_from s s.size 0 (by omega)
  rw [List.drop_zero] at this
  exact this
/-- The library's validity. -/
theorem valid_eq (l : List UInt8) : Lib.validD l = validL l := by
  refine utf_all (p := fun l => Lib.validD l = validL l) rfl ?_ ?_ l
  · intro n t hn ih
    rw [Lib.validD_step _ (fun e => enc_ne n (List.append_eq_nil_iff.1 e).1), decode_enc hn, valid_enc hn, if_neg, List.drop_left, ih]
    rintro ⟨e1, e2⟩
    simp only at e1 e2
    rw [e1, enc_bad_len] at e2
    omega
  · intro b t hf _
    rw [Lib.validD_step _ (by simp), decode_none (by simp) hf, valid_none hf]
    simp
/-- ASCII letters in lower case, by code points and by bytes. -/
def lowZ (r : Int) : Int := if 65 ≤ r ∧ r ≤ 90 then r + 32 else r
def lowB (b : UInt8) : UInt8 := if 65 ≤ b.toNat ∧ b.toNat ≤ 90 then UInt8.ofNat (b.toNat + 32) else b
theorem mapD_step (f : Int → Int) (l : List UInt8) (hne : l ≠ []) (h0 : 0 ≤ f (Lib.decodeL l).1) : Lib.mapD f l = Lib.encodeRune (f (Lib.decodeL l).1) ++ Lib.mapD f (l.drop (Lib.decodeL l).2) := by
  have hl : 0 < l.length := List.length_pos_iff.2 hne
  have hw := Lib.decodeL_width l
  obtain ⟨k, hk⟩ : ∃ k, l.length = k + 1 := ⟨l.length - 1, by omega⟩
  unfold Lib.mapD
  rw [hk, Lib.mapGoD, if_neg hne, if_pos h0]
  congr 1
  exact Lib.mapGoD_fuel f _ _ _ (by rw [List.length_drop]; omega) (Nat.le_refl _)
theorem enc_high {n : Nat} (h : 128 ≤ n) (hc : cpB n = true) : ∃ b r, encL n = b :: r ∧ 128 ≤ b.toNat := by
  have hcp := (cp_iff n).1 hc
  unfold encL
  rw [if_neg (by omega)]
  by_cases c2 : n < 2048
  · rw [if_pos c2]; exact ⟨_, _, rfl, by rw [nat_byte (by omega)]; omega⟩
  · rw [if_neg c2]
    by_cases c3 : n < 65536
    · rw [if_pos c3]; exact ⟨_, _, rfl, by rw [nat_byte (by omega)]; omega⟩
    · rw [if_neg c3]; exact ⟨_, _, rfl, by rw [nat_byte (by omega)]; omega⟩
theorem lowB_high {b : UInt8} (h : 128 ≤ b.toNat) : lowB b = b := by
  unfold lowB
  rw [if_neg (by omega)]
theorem low_two (l : List UInt8) : Lib.mapD lowZ l = l.map lowB ∨ ((∃ b ∈ Lib.mapD lowZ l, 128 ≤ b.toNat) ∧ (∃ b ∈ l.map lowB, 128 ≤ b.toNat)) := by
  refine utf_all (p := fun l => Lib.mapD lowZ l = l.map lowB ∨ ((∃ b ∈ Lib.mapD lowZ l, 128 ≤ b.toNat) ∧ (∃ b ∈ l.map lowB, 128 ≤ b.toNat))) (.inl rfl) ?_ ?_ l
  · intro n t hn ih
    have hne : encL n ++ t ≠ [] := fun e => enc_ne n (List.append_eq_nil_iff.1 e).1
    have h0 : 0 ≤ lowZ (Lib.decodeL (encL n ++ t)).1 := by unfold lowZ; split <;> omega
    rw [mapD_step lowZ _ hne h0, decode_enc hn, List.drop_left, List.map_append]
    simp only
    by_cases c : n < 128
    · have e : Lib.encodeRune (lowZ n) = (encL n).map lowB := by
        unfold encL
        rw [if_pos c, List.map_singleton]
        unfold lowZ lowB
        rw [nat_byte (by omega)]
        by_cases ca : 65 ≤ n ∧ n ≤ 90
        · rw [if_pos (by omega), if_pos ca, show (n : Int) + 32 = ((n + 32 : Nat) : Int) by omega, encR_eq ((cp_iff _).2 (by omega)), encL, if_pos (by omega)]
        · rw [if_neg (by omega), if_neg ca, encR_eq hn, encL, if_pos c]
      rw [e]
      rcases ih with ih | ⟨⟨b, hb, hb2⟩, d, hd, hd2⟩
      · exact .inl (by rw [ih])
      · exact .inr ⟨⟨b, List.mem_append_right _ hb, hb2⟩, d, List.mem_append_right _ hd, hd2⟩
    · obtain ⟨b, r, he, hb⟩ := enc_high (by omega) hn
      refine .inr ⟨⟨b, List.mem_append_left _ ?_, hb⟩, b, List.mem_append_left _ ?_, hb⟩
      · rw [show lowZ n = (n : Int) by unfold lowZ; rw [if_neg (by omega)], encR_eq hn, he]; simp
      · rw [he, List.map_cons, lowB_high hb]; simp
  · intro b t hf ih
    have h0 : 0 ≤ lowZ (Lib.decodeL (b :: t)).1 := by unfold lowZ; split <;> omega
    rw [mapD_step lowZ _ (by simp) h0, decode_none (by simp) hf]
    have hb : 128 ≤ b.toNat := by
      rcases Nat.lt_or_ge b.toNat 128 with h | h
      · unfold firstS at hf; simp only at hf; rw [if_pos h] at hf; cases hf
      · exact h
    refine .inr ⟨⟨239, List.mem_append_left _ ?_, by decide⟩, b, ?_, hb⟩
    · simp only; decide
    · rw [List.map_cons, lowB_high hb]; simp
/-- What is all ASCII comes out of either lowering at once. -/
theorem low_same (l key : List UInt8) (hk : ∀ b ∈ key, b.toNat < 128) : Lib.mapD lowZ l = key ↔ l.map lowB = key := by
  rcases low_two l with h | ⟨⟨b, hb, hb2⟩, d, hd, hd2⟩
  · rw [h]
  · constructor
    · intro e; rw [e] at hb; have := hk b hb; omega
    · intro e; rw [e] at hd; have := hk d hd; omega
end Go.Proofs.YtgponokcigapaaaDoor
