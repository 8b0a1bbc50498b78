/- TokenParts: behind a last token that ends by a byte of its own stand the tokens of what follows. -/
import Derived.Test.YtmpgclimgbjeoaaDoorKeeps
namespace Go.Proofs.YtmpgclimgbjeoaaDoor
open Go.ChangeShapes Go.WideShapes Go.ChangeAt Go.RowKit
open TokP

theorem own_zero (w : World) : (w.alloc (.cells #[] 23)).ownsRow w.heap.size 23 2 (.slice (some ⟨w.heap.size, 0, none⟩) 0 0) ([] : List Tok).length (toksV []) :=
  ⟨rfl, .inr ⟨w.heap.size, 0, #[], rfl, Nat.le_refl _, World.alloc_heap_new w _, Nat.le_refl _, by unfold maxLen; omega, rfl, rfl⟩⟩
theorem run_appL {w : World} (base : Nat) {v u : Value} {xs ys : List Tok} (hown : w.ownsRow base 23 2 v xs.length (toksV xs)) (hu : OwnF w u ys) (hb : base ≤ w.heap.size) (hl : xs.length + ys.length ≤ 1000000) :
    ∃ a c w', (Builtin.append_ #[26, 26] 26 #[v, u]).run Tryd.prog w = .ok (.slice a (xs ++ ys).length c) w' ∧ w'.ownsRow base 23 2 (.slice a (xs ++ ys).length c) (xs ++ ys).length (toksV (xs ++ ys)) ∧ w.grownBy w' v.ownBlock := by
  obtain ⟨i0, hi, hz0, hz1, hz2⟩ := info_parts info23
  obtain ⟨b2, ho2⟩ := hu
  have e1 : (xs ++ ys).length = xs.length + ys.length := List.length_append
  have fin : ∀ (v' : Value) (w' : World), w'.ownsRow base 23 2 v' (xs.length + ys.length) (toksV (xs ++ ys)) → ∃ a c, v' = .slice a (xs ++ ys).length c := fun v' w' h => by
    rcases h.2 with ⟨rfl, h0⟩ | ⟨g, cap, cur, rfl, _⟩
    · exact ⟨none, 0, by rw [e1, h0]⟩
    · exact ⟨_, _, by rw [e1]⟩
  rcases ho2.2 with ⟨rfl, h0⟩ | ⟨g, cap, cur, rfl, _, hg, hrest⟩
  · obtain rfl : ys = [] := List.eq_nil_of_length_eq_zero h0
    have hr := run_append_owned_none (P := Tryd.prog) (w := w) base 26 26 23 i0 2 Tryd.underlying26 hi v _ _ hown
    rw [List.append_nil]
    obtain ⟨a, c, rfl⟩ : ∃ a c, v = .slice a xs.length c := by
      rcases hown.2 with ⟨rfl, h1⟩ | ⟨g, cap, cur, rfl, _⟩
      · exact ⟨none, 0, by rw [h1]⟩
      · exact ⟨_, _, rfl⟩
    exact ⟨a, c, w, hr, hown, World.grownBy.refl _ _⟩
  · obtain ⟨v', w', hr, h1, h2, _⟩ := run_append_own (P := Tryd.prog) w base 26 26 23 i0 _ 2 24 Tryd.underlying26 hi hz0 hz1 hz2 rfl (by decide) v xs.length _ hown ⟨g, 0, none⟩ ys.length cap (toksV ys) (toksV_len ys) (fun j x hj => ho2.cells (g := g) rfl j x hj) (toksV_ones _) (by unfold maxLen; omega) (by omega) hb
    rw [toksV_app] at h1
    obtain ⟨a, c, rfl⟩ := fin v' w' h1
    rw [e1] at hr h1 ⊢
    exact ⟨a, c, w', hr, h1, h2⟩
theorem wpList_appL {ops : Array Oper} {rest : List Oper} {o : Oper} {a : Act} {w : World} {Q : Exit → Act → World → Prop} (hw : Region.wanted o (yielded ops a.tmps) = true) (s x : Operand)
    (ho : o.op = .call { callee := .builtin .append, args := #[s, x], argTypes := #[26, 26] }) (hty : o.type = 26) (base : Nat) {v u : Value} {xs ys : List Tok} (N : Nat) (hN : (xs ++ ys).length = N) (hs : a.eval s = v) (hx : a.eval x = u)
    (hown : w.ownsRow base 23 2 v xs.length (toksV xs)) (hu : OwnF w u ys) (hb : base ≤ w.heap.size) (hl : N ≤ 1000000)
    (h : ∀ a' c' w', w'.ownsRow base 23 2 (.slice a' N c') (xs ++ ys).length (toksV (xs ++ ys)) → w.grownBy w' v.ownBlock → wpList Tryd.prog ops Q rest (a.put o.dst (.slice a' N c')) w') :
    wpList Tryd.prog ops Q (o :: rest) a w := by
  subst hN
  obtain ⟨a', c', w', hr, h1, h2⟩ := run_appL base hown hu hb (by rw [List.length_append] at hl; exact hl)
  unfold wpList
  rw [if_pos hw]
  left
  unfold Oper.wp
  simp [execOp, ho, hty, resolve, invoke, builtin, hs, hx, hr, Result.andThen]
  have h3 := h a' c' w' h1 h2
  rw [List.length_append] at h3
  exact h3
theorem below_row (w w' : World) (base : Nat) {v : Value} {n : Nat} {xs : List Value} (hown : w.ownsRow base 23 2 v n xs) (hg : w.grownBy w' v.ownBlock) (hb : base ≤ w.heap.size) : Below base w w' :=
  (Below.refl _ _).grown hg hb (fun k e => (hown.lt k e).1)
set_option maxRecDepth 1000000 in
set_option maxHeartbeats 1000000 in
theorem parts_any (s t : ByteArray) (w : World) :
    Calls Tryd.prog 6 #[.string s, .string t] w fun e w' => e = .returned (.bool true) ∧ Below w.heap.size w w' := by
  have cS := small_any w
  have cF := few_any s
  have cG := few_any t
  by_cases hf : s.size ≤ 400
  · rw [decide_eq_true hf] at cF
    by_cases hg : t.size ≤ 400
    · rw [decide_eq_true hg] at cG
      obtain ⟨l, hl⟩ : ∃ l, scanL s.data.toList = l := ⟨_, rfl⟩
      obtain ⟨n, hn⟩ : ∃ n, l.length = n := ⟨_, rfl⟩
      have cC := fun w' => scan_is s l (by omega) hl w'
      rw [hn] at cC
      have hnl : n ≤ 400 := by rw [← hn, ← hl]; have := scan_len s.data.toList; rw [← size_list] at this; omega
      by_cases hn0 : n = 0
      · obtain rfl : s = ⟨#[]⟩ := bytes_is (by
          have h1 := join_scan s.data.toList
          rw [hl, List.eq_nil_of_length_eq_zero (hn.trans hn0)] at h1
          exact h1.symm)
        subst hn0
        clear hl hn hf hg
        go_enter Tryd.func6, Tryd.ntmps6
        go_wp2_with (first
          | (go_at_call 7; (with_reducible refine cS.mono ?_); rintro e w1 ⟨rfl, hb1⟩; clear cS)
          | (go_at_call 8; (with_reducible refine (cF _).mono ?_); rintro e w2 ⟨rfl, rfl⟩; clear cF)
          | (go_at_call 8; (with_reducible refine (cG _).mono ?_); rintro e w2 ⟨rfl, rfl⟩; clear cG)
          | (go_at_call 9; (with_reducible refine (cC _).mono ?_); rintro e w4 ⟨a, c, rfl, ho4, hb4⟩; clear cC))
        go_ret
        exact ⟨rfl, Qtrans hb1 hb4⟩
      · obtain ⟨p, hp⟩ : ∃ p, p + 1 = n := ⟨n - 1, by omega⟩
        obtain ⟨f, hfk⟩ : ∃ f, l[p]? = some f := ⟨_, List.getElem?_eq_getElem (by omega)⟩
        have hlast : l.getLast? = some f := by rw [List.getLast?_eq_getElem?, hn, ← hp]; exact hfk
        have F2 : IntKind.i64.wrap ((n : Int) - 1) = (p : Int) := by rw [IntKind.wrap_i64]; omega
        have F3 : (n : Int) - 1 = (p : Int) := by omega
        have hpn : (p : Int) < (n : Int) := by omega
        have hz : ((n : Int) == 0) = false := by rw [beq_eq_false_iff_ne]; omega
        have cC' : ∀ w', Calls Tryd.prog 9 #[.string s] w' fun e w2 => ∃ g c, e = .returned (.slice (some ⟨g, 0, none⟩) n c) ∧ w2.cell? ⟨g, p * 2, none⟩ = some (.int .i64 (f.kind : Nat)) ∧ Hid (OwnF w2 (.slice (some ⟨g, 0, none⟩) n c) l) ∧ Hid (Below w'.heap.size w' w2) := fun w' => (cC w').mono (by
          rintro e w2 ⟨a, c, rfl, ho, hb⟩
          obtain ⟨g, rfl, hfa⟩ := ho.at (by omega)
          have k0 := (hfa p f hfk).1
          rw [Nat.zero_add] at k0
          exact ⟨g, c, rfl, k0, ho, hb⟩)
        by_cases h6 : f.kind = 6
        · rw [h6] at cC'
          clear hl hn hf hg cC hfk hlast hp hn0 h6
          go_enter Tryd.func6, Tryd.ntmps6
          go_wp2_with (first
            | (go_at_call 7; (with_reducible refine cS.mono ?_); rintro e w1 ⟨rfl, hb1⟩; clear cS)
            | (go_at_call 8; (with_reducible refine (cF _).mono ?_); rintro e w2 ⟨rfl, rfl⟩; clear cF)
            | (go_at_call 8; (with_reducible refine (cG _).mono ?_); rintro e w2 ⟨rfl, rfl⟩; clear cG)
            | (go_at_call 9; (with_reducible refine (cC' _).mono ?_); rintro e w4 ⟨g, c, rfl, k0, ho4, hb4⟩; clear cC'))
          go_ret
          exact ⟨rfl, Qtrans hb1 hb4.out⟩
        · have g6 : (((f.kind : Nat) : Int) == 6) = false := by rw [beq_eq_false_iff_ne]; omega
          by_cases h1 : f.kind = 1
          · rw [h1] at cC'
            clear hl hn hf hg cC hfk hlast hp hn0 h6 h1 g6
            go_enter Tryd.func6, Tryd.ntmps6
            go_wp2_with (first
              | (go_at_call 7; (with_reducible refine cS.mono ?_); rintro e w1 ⟨rfl, hb1⟩; clear cS)
              | (go_at_call 8; (with_reducible refine (cF _).mono ?_); rintro e w2 ⟨rfl, rfl⟩; clear cF)
              | (go_at_call 8; (with_reducible refine (cG _).mono ?_); rintro e w2 ⟨rfl, rfl⟩; clear cG)
              | (go_at_call 9; (with_reducible refine (cC' _).mono ?_); rintro e w4 ⟨g, c, rfl, k0, ho4, hb4⟩; clear cC'))
            go_ret
            exact ⟨rfl, Qtrans hb1 hb4.out⟩
          · have g1 : (((f.kind : Nat) : Int) == 1) = false := by rw [beq_eq_false_iff_ne]; omega
            by_cases h7 : f.kind = 7
            · rw [h7] at cC'
              clear hl hn hf hg cC hfk hlast hp hn0 h6 h1 h7 g6 g1
              go_enter Tryd.func6, Tryd.ntmps6
              go_wp2_with (first
                | (go_at_call 7; (with_reducible refine cS.mono ?_); rintro e w1 ⟨rfl, hb1⟩; clear cS)
                | (go_at_call 8; (with_reducible refine (cF _).mono ?_); rintro e w2 ⟨rfl, rfl⟩; clear cF)
                | (go_at_call 8; (with_reducible refine (cG _).mono ?_); rintro e w2 ⟨rfl, rfl⟩; clear cG)
                | (go_at_call 9; (with_reducible refine (cC' _).mono ?_); rintro e w4 ⟨g, c, rfl, k0, ho4, hb4⟩; clear cC'))
              go_ret
              exact ⟨rfl, Qtrans hb1 hb4.out⟩
            · have g7 : (((f.kind : Nat) : Int) == 7) = false := by rw [beq_eq_false_iff_ne]; omega
              have hall := scan_parts s.data.toList t.data.toList (fun u hu => by
                rw [hl, hlast] at hu
                obtain rfl := Option.some.inj hu
                exact ⟨h6, h1, h7⟩)
              rw [hl, ← list_append] at hall
              obtain ⟨m, hm⟩ : ∃ m, scanL t.data.toList = m := ⟨_, rfl⟩
              rw [hm] at hall
              have hml : m.length ≤ 400 := by rw [← hm]; have := scan_len t.data.toList; rw [← size_list] at this; omega
              have cD := fun w' => scan_is t m (by omega) hm w'
              have hst : (s ++ t).size ≤ 1000000 := by rw [ByteArray.size_append]; omega
              have cE := fun w' => scan_is (s ++ t) (l ++ m) hst hall w'
              have cX := fun w' v u (h : Hid (OwnF w' v (l ++ m))) (k : Hid (OwnF w' u (l ++ m))) => sameF_any h.out.has k.out.has (by rw [List.length_append, hn]; omega)
              have hdd : decide (l ++ m = l ++ m) = true := decide_eq_true rfl
              rw [hdd] at cX
              obtain ⟨k, hk⟩ : ∃ k, (l ++ m).length = k := ⟨_, rfl⟩
              obtain ⟨km, hkm⟩ : ∃ km, m.length = km := ⟨_, rfl⟩
              have hkz : k ≤ 1000000 := by rw [← hk, List.length_append, hn]; omega
              have hnz : n ≤ 1000000 := by omega
              rw [hk] at cE
              rw [hkm] at cD
              have HN := Lib.hid hn
              have HK := Lib.hid hk
              have hsz : s.size + t.size ≤ 1000000 := by omega
              generalize ((f.kind : Nat) : Int) = K at cC' g6 g1 g7
              clear hl hn hf hg cC hfk hlast hp hn0 h6 h1 h7 hm hall hml hdd hst hk hkm hnl
              go_enter Tryd.func6, Tryd.ntmps6
              go_wp2_with (first
                | (go_at_call 7; (with_reducible refine cS.mono ?_); rintro e w1 ⟨rfl, hb1⟩; clear cS)
                | (go_at_call 8; (with_reducible refine (cF _).mono ?_); rintro e w2 ⟨rfl, rfl⟩; clear cF)
                | (go_at_call 8; (with_reducible refine (cG _).mono ?_); rintro e w2 ⟨rfl, rfl⟩; clear cG)
                | (go_at_call 9; (with_reducible refine (cC' _).mono ?_); rintro e w4 ⟨g, c, rfl, k0, ho4, hb4⟩; clear cC')
                | (go_at_call 9; (with_reducible refine (cD _).mono ?_); rintro e w5 ⟨a2, c2, rfl, ho5, hb5⟩; clear cD k0; have HL := Lib.hid (ho4.out.step hb5); have HM := Lib.hid ho5; have HB := Lib.hid (Qtrans hb1 (Qtrans hb4.out hb5)); clear ho4 hb1 hb4 ho5 hb5)
                | (at_builtin; refine wpList_appL (by rfl) (.tmp 50) (.tmp 51) rfl rfl w5.heap.size (xs := []) (ys := l) n HN.out rfl rfl (own_zero w5) (HL.out.step ((Below.refl _ _).alloc (Nat.le_refl _) _)) (by rw [World.size_alloc]; omega) hnz ?_; intro a6 c6 w6 h6 g6'; have HB6 := Lib.hid (((Below.refl _ w5).alloc (Nat.le_refl _) (.cells #[] 23)).trans (below_row _ _ _ (own_zero w5) g6' (by rw [World.size_alloc]; omega))); replace h6 : Hid (w6.ownsRow w5.heap.size 23 2 (.slice a6 n c6) l.length (toksV l)) := Lib.hid h6; clear g6')
                | (at_builtin; refine wpList_appL (by rfl) (.tmp 52) (.tmp 53) rfl rfl w5.heap.size (xs := l) (ys := m) k HK.out rfl rfl h6.out (HM.out.step HB6.out) HB6.out.size hkz ?_; intro a7 c7 w7 h7 g7'; have HB7 := Lib.hid (Qtrans HB.out (HB6.out.trans (below_row _ _ _ h6.out g7' HB6.out.size))); replace h7 : Hid (OwnF w7 (.slice a7 k c7) (l ++ m)) := Lib.hid ⟨_, h7⟩; clear g7' h6 HB6 HB HL HM)
                | (go_at_call 9; (with_reducible refine (cE _).mono ?_); rintro e w8 ⟨a8, c8, rfl, ho8, hb8⟩; clear cE; have HB8 := Lib.hid (Qtrans HB7.out hb8); have h9 := Lib.hid (h7.out.step hb8); have h8 := Lib.hid ho8; clear ho8 hb8 HB7 h7)
                | (go_at_call 11; (refine (cX _ _ _ h8 h9).mono ?_); rintro e w9 ⟨rfl, hb9⟩; have HB9 := Lib.hid (Qtrans HB8.out hb9); clear cX h8 h9 HB8 hb9))
              go_ret
              exact ⟨rfl, HB9.out⟩
    · rw [decide_eq_false hg] at cG
      clear hf hg
      go_enter Tryd.func6, Tryd.ntmps6
      go_wp2_with (first
        | (go_at_call 7; (with_reducible refine cS.mono ?_); rintro e w1 ⟨rfl, hb1⟩)
        | (go_at_call 8; (with_reducible refine (cF _).mono ?_); rintro e w2 ⟨rfl, rfl⟩; clear cF)
        | (go_at_call 8; (with_reducible refine (cG _).mono ?_); rintro e w2 ⟨rfl, rfl⟩))
      go_ret
      exact ⟨rfl, hb1⟩
  · rw [decide_eq_false hf] at cF
    clear hf
    go_enter Tryd.func6, Tryd.ntmps6
    go_wp2_with (first
      | (go_at_call 7; (with_reducible refine cS.mono ?_); rintro e w1 ⟨rfl, hb1⟩)
      | (go_at_call 8; (with_reducible refine (cF _).mono ?_); rintro e w2 ⟨rfl, rfl⟩))
    go_ret
    exact ⟨rfl, hb1⟩
end Go.Proofs.YtmpgclimgbjeoaaDoor
