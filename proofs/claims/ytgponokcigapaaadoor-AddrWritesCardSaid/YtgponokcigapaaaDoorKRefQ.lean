/- The reference's Quote. -/
import Derived.Test.YtgponokcigapaaaDoorK7
import Derived.Test.YtgponokcigapaaaDoorKRefB
namespace Go.Proofs.YtgponokcigapaaaDoor
open Go.ChangeShapes Go.WideShapes Go.ChangeAt Go.RowKit
open TokP

theorem own_byte (w : World) : Ow (w.alloc (.cells #[.int .u8 34] 5)) w.heap.size (.slice (some ⟨w.heap.size, 0, none⟩) 1 1) [34] :=
  ⟨rfl, .inr ⟨w.heap.size, 1, #[.int .u8 34], rfl, Nat.le_refl _, World.alloc_heap_new w _, Nat.le_refl _, by unfold maxLen; omega, rfl, rfl⟩⟩
theorem good_next {l : List UInt8} {k : Nat} {b : Bool} (h : b = true ↔ l ≠ [] ∧ ∀ i, i < k → goodAt l i) (hg : goodAt l k) : b = true ↔ l ≠ [] ∧ ∀ i, i < k + 1 → goodAt l i := by
  rw [h]
  refine and_congr_right fun _ => ⟨fun h i hi => ?_, fun h i hi => h i (by omega)⟩
  by_cases e : i = k
  · rw [e]; exact hg
  · exact h i (by omega)
theorem good_bad {l : List UInt8} {k : Nat} (hg : ¬ goodAt l k) : false = true ↔ l ≠ [] ∧ ∀ i, i < k + 1 → goodAt l i :=
  ⟨fun h => Bool.noConfusion h, fun h => absurd (h.2 k (by omega)) hg⟩
theorem good_atom {l : List UInt8} {k : Nat} {c : UInt8} (h : l[k]? = some c) (ha : atomB c = true) : goodAt l k := ⟨c, h, .inl ha⟩
theorem bad_other {l : List UInt8} {k : Nat} {c : UInt8} (h : l[k]? = some c) (ha : atomB c = false) (h32 : c ≠ 32) : ¬ goodAt l k := by
  rintro ⟨d, hd, h2⟩
  rw [h] at hd
  obtain rfl := Option.some.inj hd
  rcases h2 with h2 | h2
  · rw [ha] at h2; exact Bool.noConfusion h2
  · exact h32 h2.1
theorem good_space {l : List UInt8} {k : Nat} (h : l[k]? = some 32) : goodAt l k ↔ 0 < k ∧ k + 1 < l.length ∧ (∃ p, l[k - 1]? = some p ∧ p ≠ 32) ∧ ∃ q, l[k + 1]? = some q ∧ q ≠ 32 := by
  constructor
  · rintro ⟨d, hd, h2⟩
    rw [h] at hd
    obtain rfl := Option.some.inj hd
    rcases h2 with h2 | h2
    · exact absurd h2 (by decide)
    · exact h2.2
  · intro h2
    exact ⟨32, h, .inr ⟨rfl, h2⟩⟩
set_option maxRecDepth 100000 in
set_option maxHeartbeats 2000000 in
theorem rquote_any (s : ByteArray) (hs : s.size ≤ 400000) (w : World) :
    Calls Tryd.prog 42 #[.string s] w fun e w' => e = .returned (.string (strL (quoteL s.data.toList))) ∧ Below w.heap.size w w' := by
  obtain ⟨R, hR⟩ : ∃ R, strL (quoteL s.data.toList) = R := ⟨_, rfl⟩
  have HR := Lib.hid hR
  rw [hR]
  obtain ⟨n, hn⟩ : ∃ n, s.size = n := ⟨_, rfl⟩
  have HL := Lib.hid (size_list s)
  rw [hn] at hs
  have HN := Lib.hid hn
  have hne : (s.toList != []) = !s.data.toList.isEmpty := by
    rw [ByteArray.toList_eq]; cases s.data.toList <;> rfl
  obtain ⟨b0, hb0⟩ : ∃ b0, (!s.data.toList.isEmpty) = b0 := ⟨_, rfl⟩
  have HB0 := Lib.hid (show b0 = true ↔ s.data.toList ≠ [] ∧ ∀ i, i < 0 → goodAt s.data.toList i by
    rw [← hb0]
    cases s.data.toList with
    | nil => simp
    | cons c t => simp)
  have HPL := Lib.hid (plain_all s.data.toList)
  rw [hb0] at hne
  clear hR hn hb0
  have hem : s.toList.isEmpty = !b0 := by
    rw [← hne]; cases s.toList <;> rfl
  go_enter Tryd.func42, Tryd.ntmps42
  go_wp2_with fail
  clear hne hem
  go_loopw [3, 4] (fun p i wr => ∃ (k : Nat) (b : Bool), k ≤ n ∧ p = .bool b ∧ i = .int .i64 k ∧ wr = w ∧ Hid (b = true ↔ s.data.toList ≠ [] ∧ ∀ i, i < k → goodAt s.data.toList i)) (fun _ i _ => n - (intOf i).toNat)
  case atStart => exact ⟨0, b0, Nat.zero_le _, rfl, rfl, rfl, HB0⟩
  case round =>
    obtain ⟨k, b, hk, rfl, rfl, rfl, HG⟩ := hrel
    have F1 : IntKind.i64.wrap ((k : Int) + 1) = (k : Int) + 1 := by rw [IntKind.wrap_i64]; omega
    have hn : s.size = n := HN.out
    by_cases hlt : k < n
    · have hlt' : (k : Int) < (n : Int) := by omega
      obtain ⟨c, x, hc, hx, hx2, S1⟩ := run_byte s k (by rw [hn]; exact hlt)
      have cA := ratom_any c x hx
      have e32 := byte_is c x hx 32 (by decide)
      rw [show ((32 : Nat) : Int) = 32 from rfl] at e32
      by_cases h32 : c = 32
      · rw [show decide (c = UInt8.ofNat 32) = true from decide_eq_true h32] at e32
        rw [show atomB c = false by rw [h32]; decide] at cA
        rw [h32] at hc
        have hgs := good_space hc
        by_cases hk0 : 0 < k
        · have hz : decide (0 < k) = true := decide_eq_true hk0
          have hz' : (0 : Int) < (k : Int) := by omega
          obtain ⟨p, hp⟩ : ∃ p, p + 1 = k := ⟨k - 1, by omega⟩
          have F2 : IntKind.i64.wrap ((k : Int) - 1) = (p : Int) := by rw [IntKind.wrap_i64]; omega
          have F3 : (k : Int) - 1 = (p : Int) := by omega
          by_cases hk1 : k + 1 < n
          · have hk1' : (k : Int) + 1 < (n : Int) := by omega
            obtain ⟨cp, xp, hcp, hxp, _, S2⟩ := run_byte s p (by rw [hn]; omega)
            obtain ⟨cq, xq, hcq, hxq, _, S3⟩ := run_byte s (k + 1) (by rw [hn]; exact hk1)
            rw [show ((k + 1 : Nat) : Int) = (k : Int) + 1 from by omega] at S3
            have ep := byte_is cp xp hxp 32 (by decide)
            have eq := byte_is cq xq hxq 32 (by decide)
            rw [show ((32 : Nat) : Int) = 32 from rfl] at ep eq
            by_cases hp32 : cp = 32
            · rw [show decide (cp = UInt8.ofNat 32) = true from decide_eq_true hp32] at ep
              have np : ((xp : Int) != 32) = false := by rw [bne, ep]; rfl
              have HG2 := Lib.hid (good_bad (l := s.data.toList) (k := k) (fun hg => by
                obtain ⟨_, _, ⟨p', h1, h2⟩, _⟩ := hgs.1 hg
                rw [show k - 1 = p by omega, hcp] at h1
                exact h2 ((Option.some.inj h1).symm.trans hp32)))
              clear hgs hcp hxp hcq hxq S3 ep eq hp32 hc hx hx2 h32 HG hk0 hp
              go_wp2_with (go_at_call 64; refine (cA _).mono ?_; rintro e w1 ⟨rfl, hw⟩; rw [← hw]; clear hw w1)
              go_roundw
              case rel => exact ⟨k + 1, false, by omega, rfl, by go_num, trivial, HG2⟩
              case measure => simp [intOf]; omega
            · rw [show decide (cp = UInt8.ofNat 32) = false from decide_eq_false hp32] at ep
              have np : ((xp : Int) != 32) = true := by rw [bne, ep]; rfl
              by_cases hq32 : cq = 32
              · rw [show decide (cq = UInt8.ofNat 32) = true from decide_eq_true hq32] at eq
                have nq : ((xq : Int) != 32) = false := by rw [bne, eq]; rfl
                have HG2 := Lib.hid (good_bad (l := s.data.toList) (k := k) (fun hg => by
                  obtain ⟨_, _, _, q', h1, h2⟩ := hgs.1 hg
                  rw [hcq] at h1
                  exact h2 ((Option.some.inj h1).symm.trans hq32)))
                clear hgs hcp hxp hcq hxq ep eq hp32 hq32 hc hx hx2 h32 HG hk0 hp
                go_wp2_with (go_at_call 64; refine (cA _).mono ?_; rintro e w1 ⟨rfl, hw⟩; rw [← hw]; clear hw w1)
                go_roundw
                case rel => exact ⟨k + 1, false, by omega, rfl, by go_num, trivial, HG2⟩
                case measure => simp [intOf]; omega
              · rw [show decide (cq = UInt8.ofNat 32) = false from decide_eq_false hq32] at eq
                have nq : ((xq : Int) != 32) = true := by rw [bne, eq]; rfl
                have HG2 := Lib.hid (good_next HG.out (hgs.2 ⟨hk0, by rw [← HL.out, hn]; exact hk1, ⟨cp, by rw [show k - 1 = p by omega]; exact hcp, hp32⟩, cq, hcq, hq32⟩))
                clear hgs hcp hxp hcq hxq ep eq hp32 hq32 hc hx hx2 h32 HG hk0 hp
                go_wp2_with (go_at_call 64; refine (cA _).mono ?_; rintro e w1 ⟨rfl, hw⟩; rw [← hw]; clear hw w1)
                go_roundw
                case rel => exact ⟨k + 1, b, by omega, rfl, by go_num, trivial, HG2⟩
                case measure => simp [intOf]; omega
          · have hk1' : ¬ (k : Int) + 1 < (n : Int) := by omega
            have HG2 := Lib.hid (good_bad (l := s.data.toList) (k := k) (fun hg => by
              obtain ⟨_, h1, _⟩ := hgs.1 hg
              rw [← HL.out, hn] at h1
              exact hk1 h1))
            clear hgs hc hx hx2 h32 HG hk0 hp
            go_wp2_with (go_at_call 64; refine (cA _).mono ?_; rintro e w1 ⟨rfl, hw⟩; rw [← hw]; clear hw w1)
            go_roundw
            case rel => exact ⟨k + 1, false, by omega, rfl, by go_num, trivial, HG2⟩
            case measure => simp [intOf]; omega
        · have hz : decide (0 < k) = false := decide_eq_false hk0
          have hz' : ¬ (0 : Int) < (k : Int) := by omega
          have HG2 := Lib.hid (good_bad (l := s.data.toList) (k := k) (fun hg => hk0 (hgs.1 hg).1))
          clear hgs hc hx hx2 h32 HG hk0
          go_wp2_with (go_at_call 64; refine (cA _).mono ?_; rintro e w1 ⟨rfl, hw⟩; rw [← hw]; clear hw w1)
          go_roundw
          case rel => exact ⟨k + 1, false, by omega, rfl, by go_num, trivial, HG2⟩
          case measure => simp [intOf]; omega
      · rw [show decide (c = UInt8.ofNat 32) = false from decide_eq_false h32] at e32
        by_cases ha : atomB c = true
        · rw [ha] at cA
          have HG2 := Lib.hid (good_next HG.out (good_atom hc ha))
          clear hc hx hx2 h32 HG ha
          go_wp2_with (go_at_call 64; refine (cA _).mono ?_; rintro e w1 ⟨rfl, hw⟩; rw [← hw]; clear hw w1)
          go_roundw
          case rel => exact ⟨k + 1, b, by omega, rfl, by go_num, trivial, HG2⟩
          case measure => simp [intOf]; omega
        · have ha' : atomB c = false := by simpa using ha
          rw [ha'] at cA
          have HG2 := Lib.hid (good_bad (bad_other hc ha' h32))
          clear hc hx hx2 h32 HG ha ha'
          go_wp2_with (go_at_call 64; refine (cA _).mono ?_; rintro e w1 ⟨rfl, hw⟩; rw [← hw]; clear hw w1)
          go_roundw
          case rel => exact ⟨k + 1, false, by omega, rfl, by go_num, trivial, HG2⟩
          case measure => simp [intOf]; omega
    · obtain rfl : k = n := by omega
      have hlt' : ¬ (k : Int) < (k : Int) := by omega
      have hb := HG.out
      rw [HL.out.symm.trans hn |>.symm] at hb
      have hpl : plainA false s.data.toList = b := by
        have h1 := HPL.out
        cases b with
        | true => exact h1.2 (hb.1 rfl)
        | false =>
          rw [← Bool.not_eq_true]
          intro h
          exact Bool.noConfusion (hb.2 (h1.1 h))
      clear hb HG HPL HB0
      obtain ⟨W0, hW0⟩ : ∃ W0, W0 = wr := ⟨_, rfl⟩
      subst hW0
      cases b with
      | true =>
        have HQ := Lib.hid (show s = R by rw [← HR.out]; unfold quoteL; rw [if_pos hpl, strL_of])
        clear hpl
        go_wp2_with fail
        go_ret
        exact ⟨by rw [HQ.out]; rfl, Below.refl _ _⟩
      | false =>
        obtain ⟨E, hE⟩ : ∃ E, 34 :: escL s.data.toList = E := ⟨_, rfl⟩
        have HE0 := Lib.hid hE
        have HQ := Lib.hid (show strL (E ++ [34]) = R by rw [← HR.out, ← hE]; unfold quoteL; rw [if_neg (by rw [hpl]; exact Bool.false_ne_true)])
        have HO0 := Lib.hid (own_byte W0)
        have HW0 := Lib.hid (show Below W0.heap.size W0 (W0.alloc (.cells #[.int .u8 34] 5)) from (Below.refl _ W0).alloc (Nat.le_refl _) _)
        clear hpl hE
        go_wp2_with fail
        go_loopw [6, 7] (fun o i wr => ∃ (j m : Nat) (O : List UInt8), j ≤ k ∧ m ≤ 2 * j + 1 ∧ i = .int .i64 j ∧ (∃ a c, o = .slice a m c) ∧ Hid (O.length = m) ∧ Hid (O ++ escL (s.data.toList.drop j) = E) ∧ Hid (Ow wr W0.heap.size o O) ∧ Hid (Below W0.heap.size W0 wr)) (fun _ i _ => k - (intOf i).toNat)
        case atStart => exact ⟨0, 1, [34], Nat.zero_le _, Nat.le_refl _, rfl, ⟨_, _, rfl⟩, rfl, HE0, HO0, HW0⟩
        case round =>
          obtain ⟨j, m, O, hj, hmj, rfl, ⟨a, c0, rfl⟩, hm, HE, ho, hb⟩ := hrel
          have F1 : IntKind.i64.wrap ((j : Int) + 1) = (j : Int) + 1 := by rw [IntKind.wrap_i64]; omega
          have hn : s.size = k := HN.out
          by_cases hlt : j < k
          · have hlt' : (j : Int) < (k : Int) := by omega
            obtain ⟨c, x, hc, hx, hx2, S1⟩ := run_byte s j (by rw [hn]; exact hlt)
            have HY : Hid ((c.toNat : Int) = (x : Int)) := by show _ = _; rw [hx]
            have e34 := byte_is c x hx 34 (by decide)
            have e92 := byte_is c x hx 92 (by decide)
            have e10 := byte_is c x hx 10 (by decide)
            have e13 := byte_is c x hx 13 (by decide)
            rw [show ((34 : Nat) : Int) = 34 from rfl] at e34
            rw [show ((92 : Nat) : Int) = 92 from rfl] at e92
            rw [show ((10 : Nat) : Int) = 10 from rfl] at e10
            rw [show ((13 : Nat) : Int) = 13 from rfl] at e13
            by_cases h34 : c = 34
            · rw [show decide (c = UInt8.ofNat 34) = true from decide_eq_true h34] at e34
              have HE2 := Lib.hid (esc_yes hc (by rw [h34]; rfl) HE.out)
              clear h34 e92 e10 e13 hc hx hx2 HE
              go_wp2_with (first
                | (at_builtin; refine wpList_byte rfl (.tmp 85) (.tmp 86) rfl W0.heap.size 92 92 rfl rfl rfl ho.out hm.out hb.out.size (by omega) ?_; intro a2 c2 w2 h2 g2; replace h2 := Lib.hid h2; have hb2 := Lib.hid (ow_below hb.out ho.out (Nat.le_refl _) g2); have hm2 : Hid ((O ++ [92]).length = m + 1) := Lib.hid (by rw [List.length_append, hm.out]; rfl); clear g2)
                | (at_builtin; refine wpList_byte rfl (.tmp 88) (.tmp 92) rfl W0.heap.size c _ HY.out rfl rfl h2.out hm2.out hb2.out.size (by omega) ?_; intro a3 c3 w3 h3 g3; replace h3 := Lib.hid h3; have hb3 := Lib.hid (ow_below hb2.out h2.out (Nat.le_refl _) g3); clear g3))
              go_roundw
              case rel => exact ⟨j + 1, m + 1 + 1, O ++ [92] ++ [c], by omega, by omega, by go_num, ⟨a3, c3, rfl⟩, Lib.hid (by rw [List.length_append, hm2.out]; rfl), HE2, h3, hb3⟩
              case measure => simp [intOf]; omega
            · rw [show decide (c = UInt8.ofNat 34) = false from decide_eq_false h34] at e34
              by_cases h92 : c = 92
              · rw [show decide (c = UInt8.ofNat 92) = true from decide_eq_true h92] at e92
                have HE2 := Lib.hid (esc_yes hc (by rw [h92]; rfl) HE.out)
                clear h34 h92 e10 e13 hc hx hx2 HE
                go_wp2_with (first
                  | (at_builtin; refine wpList_byte rfl (.tmp 85) (.tmp 86) rfl W0.heap.size 92 92 rfl rfl rfl ho.out hm.out hb.out.size (by omega) ?_; intro a2 c2 w2 h2 g2; replace h2 := Lib.hid h2; have hb2 := Lib.hid (ow_below hb.out ho.out (Nat.le_refl _) g2); have hm2 : Hid ((O ++ [92]).length = m + 1) := Lib.hid (by rw [List.length_append, hm.out]; rfl); clear g2)
                  | (at_builtin; refine wpList_byte rfl (.tmp 88) (.tmp 92) rfl W0.heap.size c _ HY.out rfl rfl h2.out hm2.out hb2.out.size (by omega) ?_; intro a3 c3 w3 h3 g3; replace h3 := Lib.hid h3; have hb3 := Lib.hid (ow_below hb2.out h2.out (Nat.le_refl _) g3); clear g3))
                go_roundw
                case rel => exact ⟨j + 1, m + 1 + 1, O ++ [92] ++ [c], by omega, by omega, by go_num, ⟨a3, c3, rfl⟩, Lib.hid (by rw [List.length_append, hm2.out]; rfl), HE2, h3, hb3⟩
                case measure => simp [intOf]; omega
              · rw [show decide (c = UInt8.ofNat 92) = false from decide_eq_false h92] at e92
                by_cases h10 : c = 10
                · rw [show decide (c = UInt8.ofNat 10) = true from decide_eq_true h10] at e10
                  have HE2 := Lib.hid (esc_yes hc (by rw [h10]; rfl) HE.out)
                  clear h34 h92 h10 e13 hc hx hx2 HE
                  go_wp2_with (first
                    | (at_builtin; refine wpList_byte rfl (.tmp 85) (.tmp 86) rfl W0.heap.size 92 92 rfl rfl rfl ho.out hm.out hb.out.size (by omega) ?_; intro a2 c2 w2 h2 g2; replace h2 := Lib.hid h2; have hb2 := Lib.hid (ow_below hb.out ho.out (Nat.le_refl _) g2); have hm2 : Hid ((O ++ [92]).length = m + 1) := Lib.hid (by rw [List.length_append, hm.out]; rfl); clear g2)
                    | (at_builtin; refine wpList_byte rfl (.tmp 88) (.tmp 92) rfl W0.heap.size c _ HY.out rfl rfl h2.out hm2.out hb2.out.size (by omega) ?_; intro a3 c3 w3 h3 g3; replace h3 := Lib.hid h3; have hb3 := Lib.hid (ow_below hb2.out h2.out (Nat.le_refl _) g3); clear g3))
                  go_roundw
                  case rel => exact ⟨j + 1, m + 1 + 1, O ++ [92] ++ [c], by omega, by omega, by go_num, ⟨a3, c3, rfl⟩, Lib.hid (by rw [List.length_append, hm2.out]; rfl), HE2, h3, hb3⟩
                  case measure => simp [intOf]; omega
                · rw [show decide (c = UInt8.ofNat 10) = false from decide_eq_false h10] at e10
                  by_cases h13 : c = 13
                  · rw [show decide (c = UInt8.ofNat 13) = true from decide_eq_true h13] at e13
                    have HE2 := Lib.hid (esc_yes hc (by rw [h13]; rfl) HE.out)
                    clear h34 h92 h10 h13  hc hx hx2 HE
                    go_wp2_with (first
                      | (at_builtin; refine wpList_byte rfl (.tmp 85) (.tmp 86) rfl W0.heap.size 92 92 rfl rfl rfl ho.out hm.out hb.out.size (by omega) ?_; intro a2 c2 w2 h2 g2; replace h2 := Lib.hid h2; have hb2 := Lib.hid (ow_below hb.out ho.out (Nat.le_refl _) g2); have hm2 : Hid ((O ++ [92]).length = m + 1) := Lib.hid (by rw [List.length_append, hm.out]; rfl); clear g2)
                      | (at_builtin; refine wpList_byte rfl (.tmp 88) (.tmp 92) rfl W0.heap.size c _ HY.out rfl rfl h2.out hm2.out hb2.out.size (by omega) ?_; intro a3 c3 w3 h3 g3; replace h3 := Lib.hid h3; have hb3 := Lib.hid (ow_below hb2.out h2.out (Nat.le_refl _) g3); clear g3))
                    go_roundw
                    case rel => exact ⟨j + 1, m + 1 + 1, O ++ [92] ++ [c], by omega, by omega, by go_num, ⟨a3, c3, rfl⟩, Lib.hid (by rw [List.length_append, hm2.out]; rfl), HE2, h3, hb3⟩
                    case measure => simp [intOf]; omega
                  · rw [show decide (c = UInt8.ofNat 13) = false from decide_eq_false h13] at e13
                    have hh : held c = false := by unfold held; simp [h34, h92, h10, h13]
                    have HE2 := Lib.hid (esc_no hc hh HE.out)
                    clear h34 h92 h10 h13 hh hc hx hx2 HE
                    go_wp2_with (at_builtin; refine wpList_byte rfl (.tmp 88) (.tmp 92) rfl W0.heap.size c _ HY.out rfl rfl ho.out hm.out hb.out.size (by omega) ?_; intro a3 c3 w3 h3 g3; replace h3 := Lib.hid h3; have hb3 := Lib.hid (ow_below hb.out ho.out (Nat.le_refl _) g3); clear g3)
                    go_roundw
                    case rel => exact ⟨j + 1, m + 1, O ++ [c], by omega, by omega, by go_num, ⟨a3, c3, rfl⟩, Lib.hid (by rw [List.length_append, hm.out]; rfl), HE2, h3, hb3⟩
                    case measure => simp [intOf]; omega
          · obtain rfl : j = k := by omega
            have hlt' : ¬ (j : Int) < (j : Int) := by omega
            have he : O = E := by
              have h := HE.out
              rw [List.drop_eq_nil_of_le (by rw [← HL.out, hn]; exact Nat.le_refl _), escL, List.append_nil] at h
              exact h
            subst he
            clear HE
            go_wp2_with (at_builtin; refine wpList_byte rfl (.tmp 94) (.tmp 95) rfl W0.heap.size 34 34 rfl rfl rfl ho.out hm.out hb.out.size (by omega) ?_; intro a3 c3 w3 h3 g3; have hb3 := Lib.hid (ow_below hb.out ho.out (Nat.le_refl _) g3); have hm3 : (O ++ [34]).length = m + 1 := (by rw [List.length_append, hm.out, List.length_singleton]); have hcv := conv_own hm3 (by have h := h3; unfold Ow at h; rw [hm3] at h; exact h); rw [HQ.out] at hcv; clear g3 h3 hm3)
            go_ret
            exact ⟨rfl, hb3.out⟩
end Go.Proofs.YtgponokcigapaaaDoor
