/- The reference's dots: tokens between dots. -/
import Derived.Test.YtgponokcigapaaaDoorK3
import Derived.Test.YtgponokcigapaaaDoorK2
import Derived.Test.YtgponokcigapaaaDoorK7
namespace Go.Proofs.YtgponokcigapaaaDoor
open Go.ChangeShapes Go.WideShapes Go.ChangeAt Go.RowKit
open TokP AdrP

theorem rtok_value (t : Tok) (ht : t.text.length ≤ 1000000) (W : World) : Calls Tryd.prog 53 #[.agg #[.int .i64 (t.kind : Nat), .string (strL t.text)]] W fun e w' => e = .returned (.string (strL (valueL t))) ∧ Below W.heap.size W w' := by
  have := rvalue_any (t.kind : Nat) (strL t.text) (by rw [strL_size]; exact ht) W
  rw [strL_list] at this
  rw [← value_tok]
  exact this
theorem ris_tok (t : Tok) (c : UInt8) (b : Bool) (hb : isS t c = b) (W : World) : Calls Tryd.prog 51 #[.agg #[.int .i64 (t.kind : Nat), .string (strL t.text)], .string ⟨#[c]⟩] W fun e w' => e = .returned (.bool b) ∧ Below W.heap.size W w' :=
  ris_any (t.kind : Nat) (strL t.text) c b ((is_tok t c).trans hb) W
set_option maxRecDepth 100000 in
set_option maxHeartbeats 4000000 in
theorem rdots_p (v : Value) (l : List Tok) (z1 z2 : Int) (ok : Tok → Bool) (hok : ∀ t : Tok, (decide (((t.kind : Nat) : Int) = z1) || decide (((t.kind : Nat) : Int) = z2)) = ok t) (hn : l.length ≤ 1000000) (hT : ∀ t ∈ l, t.text.length ≤ 1000000)
    (R : Option (List UInt8)) (hR : dotsT ok true l = R) (w : World) (h : Hid (HasT w v l)) :
    Calls Tryd.prog 75 #[v, .int .i64 z1, .int .i64 z2] w fun e w' => ∃ T : ByteArray, e = .returned (.tuple #[.string T, .bool R.isSome]) ∧ T.size ≤ 1000000000000 ∧ (∀ x, R = some x → T = strL x) ∧ Below w.heap.size w w' := by
  obtain ⟨a, cp, rfl, _, hf0⟩ := h.out
  obtain ⟨n, hnn⟩ : ∃ n, l.length = n := ⟨_, rfl⟩
  rw [hnn] at hn hf0 ⊢
  have HN := Lib.hid hnn
  have H := Lib.hid hf0
  have HT := Lib.hid (fun (k : Nat) (f : Tok) (h : l[k]? = some f) => hT f (List.mem_of_getElem? h))
  have HR := Lib.hid (show (dotsT ok true (l.drop 0)).map ((⟨#[]⟩ : ByteArray).data.toList ++ ·) = R by rw [List.drop_zero, hR]; cases R <;> rfl)
  have HOK := Lib.hid hok
  clear hnn hf0 h hT hR hok
  go_enter Tryd.func75, Tryd.ntmps75
  go_wp2_with fail
  go_loopw [8, 9] (fun s x wr => ∃ (k : Nat) (b : Bool) (T : ByteArray), k ≤ n ∧ ((k : Int) % 2 == 0) = b ∧ s = .string T ∧ x = .int .i64 k ∧ Hid (T.size ≤ k * 1000000) ∧ Hid (Below w.heap.size w wr) ∧ Hid ((dotsT ok b (l.drop k)).map (T.data.toList ++ ·) = R)) (fun _ x _ => n - (intOf x).toNat)
  case atStart => exact ⟨0, true, ⟨#[]⟩, Nat.zero_le _, rfl, rfl, rfl, Nat.zero_le _, Below.refl _ _, HR⟩
  case round =>
    obtain ⟨k, b, T, hk, hpar, rfl, rfl, HL, HB, HG⟩ := hrel
    have F1 : IntKind.i64.wrap ((k : Int) + 1) = (k : Int) + 1 := by rw [IntKind.wrap_i64]; omega
    have hmod : (k : Int).tmod 2 = (k : Int) % 2 := Int.tmod_eq_emod_of_nonneg (by omega)
    have hp0 : ((k : Int) % 2 == 0) = b := hpar
    have hp1 : ((k : Int) % 2 == 1) = !b := by
      rw [← hpar, Bool.eq_iff_iff]
      simp only [beq_iff_eq, Bool.not_eq_true', beq_eq_false_iff_ne]
      omega
    have F2 : IntKind.i64.wrap ((k : Int).tmod 2) = (k : Int).tmod 2 := by rw [IntKind.wrap_i64]; omega
    by_cases hlt : k < n
    · have hlt' : (k : Int) < (n : Int) := by omega
      obtain ⟨g, o, rfl, hfa⟩ := H.out.at (by omega)
      obtain ⟨t, ht⟩ : ∃ t, l[k]? = some t := ⟨_, List.getElem?_eq_getElem (by rw [HN.out]; exact hlt)⟩
      obtain ⟨k0, k1⟩ := hfa.step HB.out k t ht
      have hpar2 : Hid ((((k + 1 : Nat) : Int) % 2 == 0) = !b) := by
        show _ = _
        rw [← hpar, Bool.eq_iff_iff]
        simp only [beq_iff_eq, Bool.not_eq_true', beq_eq_false_iff_ne]
        omega
      have hg := HG.out
      have cV := rtok_value t (HT.out k t ht)
      have hvl := value_le t
      have htl := HT.out k t ht
      have hsv : (strL (valueL t)).size ≤ 1000000 := by rw [strL_size]; omega
      have hkk : k ≤ 1000000 := by omega
      have hz : T.size + (strL (valueL t)).size ≤ 1000000000000 + 1000000 := by have := HL.out; omega
      have HL2 := Lib.hid (show (T ++ strL (valueL t)).size ≤ (k + 1) * 1000000 by rw [ByteArray.size_append]; have := HL.out; omega)
      have HS := Lib.hid (show (T ++ strL (valueL t)).data.toList = T.data.toList ++ valueL t by rw [list_append, strL_list])
      have hok := HOK.out t
      cases b with
      | true =>
        replace hp1 : ((k : Int) % 2 == 1) = false := hp1
        by_cases c1 : ((t.kind : Nat) : Int) = z1
        · have e1 : (((t.kind : Nat) : Int) == z1) = true := beq_iff_eq.2 c1
          rw [decide_eq_true c1] at hok
          have hg2 := hg
          rw [dots_word ht (hok.symm.trans (by simp)), map_map_app, ← HS.out] at hg2
          have HG2 := Lib.hid hg2
          clear hg2
          generalize strL (valueL t) = S at cV hz HL2 HS hsv HG2
          generalize strL t.text = X at k1 cV
          generalize ((t.kind : Nat) : Int) = K at k0 cV e1
          clear hg hok ht hfa HG HR hvl htl hmod hpar c1
          go_wp2_with (go_at_call 53; (with_reducible refine (cV _).mono ?_); rintro e w3 ⟨rfl, hb3⟩; have HB3 := Lib.hid (HB.out.trans (hb3.mono HB.out.size)); clear hb3)
          go_roundw
          case rel => exact ⟨k + 1, false, _, by omega, hpar2.out, rfl, by go_num, HL2, HB3, HG2⟩
          case measure => simp [intOf]; omega
        · by_cases c2 : ((t.kind : Nat) : Int) = z2
          · have e1 : (((t.kind : Nat) : Int) == z1) = false := beq_eq_false_iff_ne.2 c1
            have e2 : (((t.kind : Nat) : Int) == z2) = true := beq_iff_eq.2 c2
            rw [decide_eq_false c1, decide_eq_true c2] at hok
            have hg2 := hg
            rw [dots_word ht (hok.symm.trans (by simp)), map_map_app, ← HS.out] at hg2
            have HG2 := Lib.hid hg2
            clear hg2
            generalize strL (valueL t) = S at cV hz HL2 HS hsv HG2
            generalize strL t.text = X at k1 cV
            generalize ((t.kind : Nat) : Int) = K at k0 cV e1 e2
            clear hg hok ht hfa HG HR hvl htl hmod hpar c1 c2
            go_wp2_with (go_at_call 53; (with_reducible refine (cV _).mono ?_); rintro e w3 ⟨rfl, hb3⟩; have HB3 := Lib.hid (HB.out.trans (hb3.mono HB.out.size)); clear hb3)
            go_roundw
            case rel => exact ⟨k + 1, false, _, by omega, hpar2.out, rfl, by go_num, HL2, HB3, HG2⟩
            case measure => simp [intOf]; omega
          · have e1 : (((t.kind : Nat) : Int) == z1) = false := beq_eq_false_iff_ne.2 c1
            have e2 : (((t.kind : Nat) : Int) == z2) = false := beq_eq_false_iff_ne.2 c2
            rw [decide_eq_false c1, decide_eq_false c2] at hok
            have hg2 := hg
            rw [dots_word_no ht (hok.symm.trans (by simp))] at hg2
            obtain rfl : none = R := hg2
            generalize strL (valueL t) = S at cV hz HL2 HS hsv
            generalize strL t.text = X at k1 cV
            generalize ((t.kind : Nat) : Int) = K at k0 cV e1 e2
            clear hg hok ht hfa HG HR hvl htl hmod hpar c1 c2
            go_wp2_with fail
            go_ret2
            exact ⟨⟨#[]⟩, rfl, Nat.zero_le _, fun x hx => absurd hx (by simp), HB.out⟩
      | false =>
        replace hp1 : ((k : Int) % 2 == 1) = true := hp1
        cases h46 : isS t 46 with
        | true =>
          have cI := fun W => ris_tok t 46 true h46 W
          have hg2 := hg
          rw [dots_dot (ok := ok) ht h46, map_map_app, ← HS.out] at hg2
          have HG2 := Lib.hid hg2
          clear hg2
          by_cases c1 : ((t.kind : Nat) : Int) = z1
          · have e1 : (((t.kind : Nat) : Int) == z1) = true := beq_iff_eq.2 c1
            generalize strL (valueL t) = S at cV hz HL2 HS hsv HG2
            generalize strL t.text = X at k1 cV cI
            generalize ((t.kind : Nat) : Int) = K at k0 cV e1 cI
            clear hg hok ht hfa HG HR hvl htl hmod hpar c1 h46
            go_wp2_with (first
              | (go_at_call 51; (with_reducible refine (cI _).mono ?_); rintro e w2 ⟨rfl, hb2⟩; have HB2 := Lib.hid (HB.out.trans (hb2.mono HB.out.size)); have k0b := cell_below k0 hb2; have k1b := cell_below k1 hb2; clear hb2)
              | (go_at_call 53; (with_reducible refine (cV _).mono ?_); rintro e w3 ⟨rfl, hb3⟩; have HB3 := Lib.hid (HB2.out.trans (hb3.mono HB2.out.size)); clear hb3))
            go_roundw
            case rel => exact ⟨k + 1, true, _, by omega, hpar2.out, rfl, by go_num, HL2, HB3, HG2⟩
            case measure => simp [intOf]; omega
          · by_cases c2 : ((t.kind : Nat) : Int) = z2
            · have e1 : (((t.kind : Nat) : Int) == z1) = false := beq_eq_false_iff_ne.2 c1
              have e2 : (((t.kind : Nat) : Int) == z2) = true := beq_iff_eq.2 c2
              generalize strL (valueL t) = S at cV hz HL2 HS hsv HG2
              generalize strL t.text = X at k1 cV cI
              generalize ((t.kind : Nat) : Int) = K at k0 cV e1 e2 cI
              clear hg hok ht hfa HG HR hvl htl hmod hpar c1 c2 h46
              go_wp2_with (first
                | (go_at_call 51; (with_reducible refine (cI _).mono ?_); rintro e w2 ⟨rfl, hb2⟩; have HB2 := Lib.hid (HB.out.trans (hb2.mono HB.out.size)); have k0b := cell_below k0 hb2; have k1b := cell_below k1 hb2; clear hb2)
                | (go_at_call 53; (with_reducible refine (cV _).mono ?_); rintro e w3 ⟨rfl, hb3⟩; have HB3 := Lib.hid (HB2.out.trans (hb3.mono HB2.out.size)); clear hb3))
              go_roundw
              case rel => exact ⟨k + 1, true, _, by omega, hpar2.out, rfl, by go_num, HL2, HB3, HG2⟩
              case measure => simp [intOf]; omega
            · have e1 : (((t.kind : Nat) : Int) == z1) = false := beq_eq_false_iff_ne.2 c1
              have e2 : (((t.kind : Nat) : Int) == z2) = false := beq_eq_false_iff_ne.2 c2
              generalize strL (valueL t) = S at cV hz HL2 HS hsv HG2
              generalize strL t.text = X at k1 cV cI
              generalize ((t.kind : Nat) : Int) = K at k0 cV e1 e2 cI
              clear hg hok ht hfa HG HR hvl htl hmod hpar c1 c2 h46
              go_wp2_with (first
                | (go_at_call 51; (with_reducible refine (cI _).mono ?_); rintro e w2 ⟨rfl, hb2⟩; have HB2 := Lib.hid (HB.out.trans (hb2.mono HB.out.size)); have k0b := cell_below k0 hb2; have k1b := cell_below k1 hb2; clear hb2)
                | (go_at_call 53; (with_reducible refine (cV _).mono ?_); rintro e w3 ⟨rfl, hb3⟩; have HB3 := Lib.hid (HB2.out.trans (hb3.mono HB2.out.size)); clear hb3))
              go_roundw
              case rel => exact ⟨k + 1, true, _, by omega, hpar2.out, rfl, by go_num, HL2, HB3, HG2⟩
              case measure => simp [intOf]; omega
        | false =>
          have cI := fun W => ris_tok t 46 false h46 W
          have hg2 := hg
          rw [dots_dot_no ht h46] at hg2
          obtain rfl : none = R := hg2
          by_cases c1 : ((t.kind : Nat) : Int) = z1
          · have e1 : (((t.kind : Nat) : Int) == z1) = true := beq_iff_eq.2 c1
            generalize strL (valueL t) = S at cV hz HL2 HS hsv
            generalize strL t.text = X at k1 cV cI
            generalize ((t.kind : Nat) : Int) = K at k0 cV e1 cI
            clear hg hok ht hfa HG HR hvl htl hmod hpar c1 h46
            go_wp2_with (go_at_call 51; (with_reducible refine (cI _).mono ?_); rintro e w2 ⟨rfl, hb2⟩; have HB2 := Lib.hid (HB.out.trans (hb2.mono HB.out.size)); have k0b := cell_below k0 hb2; have k1b := cell_below k1 hb2; clear hb2)
            go_ret2
            exact ⟨⟨#[]⟩, rfl, Nat.zero_le _, fun x hx => absurd hx (by simp), HB2.out⟩
          · by_cases c2 : ((t.kind : Nat) : Int) = z2
            · have e1 : (((t.kind : Nat) : Int) == z1) = false := beq_eq_false_iff_ne.2 c1
              have e2 : (((t.kind : Nat) : Int) == z2) = true := beq_iff_eq.2 c2
              generalize strL (valueL t) = S at cV hz HL2 HS hsv
              generalize strL t.text = X at k1 cV cI
              generalize ((t.kind : Nat) : Int) = K at k0 cV e1 e2 cI
              clear hg hok ht hfa HG HR hvl htl hmod hpar c1 c2 h46
              go_wp2_with (go_at_call 51; (with_reducible refine (cI _).mono ?_); rintro e w2 ⟨rfl, hb2⟩; have HB2 := Lib.hid (HB.out.trans (hb2.mono HB.out.size)); have k0b := cell_below k0 hb2; have k1b := cell_below k1 hb2; clear hb2)
              go_ret2
              exact ⟨⟨#[]⟩, rfl, Nat.zero_le _, fun x hx => absurd hx (by simp), HB2.out⟩
            · have e1 : (((t.kind : Nat) : Int) == z1) = false := beq_eq_false_iff_ne.2 c1
              have e2 : (((t.kind : Nat) : Int) == z2) = false := beq_eq_false_iff_ne.2 c2
              generalize strL (valueL t) = S at cV hz HL2 HS hsv
              generalize strL t.text = X at k1 cV cI
              generalize ((t.kind : Nat) : Int) = K at k0 cV e1 e2 cI
              clear hg hok ht hfa HG HR hvl htl hmod hpar c1 c2 h46
              go_wp2_with (go_at_call 51; (with_reducible refine (cI _).mono ?_); rintro e w2 ⟨rfl, hb2⟩; have HB2 := Lib.hid (HB.out.trans (hb2.mono HB.out.size)); have k0b := cell_below k0 hb2; have k1b := cell_below k1 hb2; clear hb2)
              go_ret2
              exact ⟨⟨#[]⟩, rfl, Nat.zero_le _, fun x hx => absurd hx (by simp), HB2.out⟩
    · obtain rfl : k = n := by omega
      have hlt' : ¬ (k : Int) < (k : Int) := by omega
      have hnil : l.drop k = [] := List.drop_eq_nil_of_le (by rw [HN.out]; exact Nat.le_refl _)
      have hg := HG.out
      rw [hnil] at hg
      have HTz := Lib.hid (show T.size ≤ 1000000000000 by have := HL.out; omega)
      cases b with
      | true =>
        replace hp1 : ((k : Int) % 2 == 1) = false := hp1
        obtain rfl : none = R := hg
        clear HG hnil hmod
        go_wp2_with fail
        go_ret2
        exact ⟨T, rfl, HTz.out, HB.out⟩
      | false =>
        replace hp1 : ((k : Int) % 2 == 1) = true := hp1
        obtain rfl : some T.data.toList = R := by rw [← hg]; simp [dotsT]
        clear hg HG hnil hmod
        go_wp2_with fail
        go_ret2
        exact ⟨T, rfl, HTz.out, (strL_of T).symm, HB.out⟩
end Go.Proofs.YtgponokcigapaaaDoor
