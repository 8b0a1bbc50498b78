/- Quote: a string as it stands, or between quotes. -/
import Derived.Test.YtmpgclimgbjeoaaDoorUnesc
import Derived.Test.YtmpgclimgbjeoaaDoorPlain
namespace Go.Proofs.YtmpgclimgbjeoaaDoor
open Go.ChangeShapes Go.WideShapes Go.ChangeAt Go.RowKit
open TokP

theorem esc_at (l : List UInt8) (k : Nat) (c : UInt8) (h : l[k]? = some c) : escL (l.drop k) = if held c = true then 92 :: c :: escL (l.drop (k + 1)) else c :: escL (l.drop (k + 1)) := by
  rw [cons_at l k c h, escL]
theorem esc_yes {l O R : List UInt8} {k : Nat} {c : UInt8} (h : l[k]? = some c) (hc : held c = true) (he : O ++ escL (l.drop k) = R) : (O ++ [92] ++ [c]) ++ escL (l.drop (k + 1)) = R := by
  rw [← he, esc_at l k c h, if_pos hc, List.append_assoc, List.append_assoc]; rfl
theorem esc_no {l O R : List UInt8} {k : Nat} {c : UInt8} (h : l[k]? = some c) (hc : held c = false) (he : O ++ escL (l.drop k) = R) : (O ++ [c]) ++ escL (l.drop (k + 1)) = R := by
  rw [← he, esc_at l k c h, if_neg (by rw [hc]; exact Bool.false_ne_true), List.append_assoc]; rfl
theorem Ub.lit {w0 w : World} {b : Nat} {O : List UInt8} (h : Ub w0 w b O) (c : UInt8) (x : Int) (hx : (c.toNat : Int) = x) (hO : O.length ≤ 4000000) :
    Calls Tryd.prog 26 #[.pointer (some ⟨b, 0, none⟩), .int .u8 x] w fun e w' => e = .returned .nilIface ∧ Ub w0 w' b (O ++ [c]) := by
  subst hx
  exact h.byte c _ rfl hO
set_option maxRecDepth 100000 in
set_option maxHeartbeats 2000000 in
theorem quote_any (s : ByteArray) (hs : s.size ≤ 1000000) (w : World) :
    Calls Tryd.prog 16 #[.string s] w fun e w' => e = .returned (.string (strL (quoteL s.data.toList))) ∧ Below w.heap.size w w' := by
  have cP := plain_any s hs w
  by_cases hp : plainA false s.data.toList = true
  · have HQ := Lib.hid (show strL (quoteL s.data.toList) = s by unfold quoteL; rw [if_pos hp, strL_of])
    rw [hp] at cP
    have cC := fun W => clone_any s W hs
    clear hp
    go_enter Tryd.func16, Tryd.ntmps16
    go_wp2_with (first
      | (go_at_call 25; with_reducible refine cP.mono ?_; rintro e w1 ⟨rfl, hb1⟩; clear cP)
      | (go_at_call 20; with_reducible refine (cC _).mono ?_; rintro e w2 ⟨rfl, hb2⟩; clear cC))
    go_ret
    exact ⟨by rw [HQ.out]; rfl, Qtrans hb1 hb2⟩
  · have hp' : plainA false s.data.toList = false := by simpa using hp
    obtain ⟨R, hR⟩ : ∃ R, 34 :: escL s.data.toList = R := ⟨_, rfl⟩
    have HR := Lib.hid hR
    have HQ := Lib.hid (show quoteL s.data.toList = R ++ [34] by unfold quoteL; rw [if_neg hp, ← hR])
    rw [HQ.out]
    rw [hp'] at cP
    obtain ⟨n, hn⟩ : ∃ n, s.size = n := ⟨_, rfl⟩
    have HL := Lib.hid (size_list s)
    rw [hn] at hs
    have HN := Lib.hid hn
    clear hn hp hp' hR HQ
    go_enter Tryd.func16, Tryd.ntmps16
    go_wp2_with (first
      | (go_at_call 25; with_reducible refine cP.mono ?_; rintro e w1 ⟨rfl, hb1⟩; clear cP; have cQ := (ub_first w1).lit 34 34 rfl (by decide))
      | (go_at_call 26; with_reducible refine cQ.mono ?_; rintro e w2 ⟨rfl, hu2⟩; replace hu2 := Lib.hid hu2; clear cQ; have hn : s.size = n := HN.out))
    clear hn
    go_loopw [12] (fun i wr => ∃ (k : Nat) (O : List UInt8), k ≤ n ∧ i = .int .i64 k ∧ O.length ≤ 2 * k + 1 ∧ Hid (O ++ escL (s.data.toList.drop k) = R) ∧ Hid (Ub w1 wr w1.heap.size O)) (fun i _ => n - (intOf i).toNat)
    case atStart => exact ⟨0, [34], by omega, rfl, Nat.le_refl _, Lib.hid HR.out, hu2⟩
    case round =>
      obtain ⟨k, O, hk, rfl, hO, HE, HU⟩ := hrel
      have F1 : IntKind.i64.wrap ((k : Int) + 1) = (k : Int) + 1 := by rw [IntKind.wrap_i64]; omega
      by_cases hlt : k < n
      · have hlt' : (k : Int) < (n : Int) := by omega
        obtain ⟨c, x, hc, hx, hx2, S1⟩ := run_byte s k (by rw [HN.out]; exact hlt)
        have e34 := byte_is c x hx 34 (by decide)
        have e92 := byte_is c x hx 92 (by decide)
        have e10 := byte_is c x hx 10 (by decide)
        have e13 := byte_is c x hx 13 (by decide)
        rw [show ((34 : Nat) : Int) = 34 from rfl] at e34
        rw [show ((92 : Nat) : Int) = 92 from rfl] at e92
        rw [show ((10 : Nat) : Int) = 10 from rfl] at e10
        rw [show ((13 : Nat) : Int) = 13 from rfl] at e13
        by_cases h34 : c = 34
        · rw [show decide (c = UInt8.ofNat 34) = true from decide_eq_true h34] at e34
          have HE2 := Lib.hid (esc_yes hc (by rw [h34]; rfl) HE.out)
          have cB := HU.out.lit 92 92 rfl (by omega)
          clear h34 e92 e10 e13 hc hx2 HE
          go_wp2_with (first
            | (go_at_call 26; with_reducible refine cB.mono ?_; rintro e w4 ⟨rfl, hu4⟩; have cD := hu4.byte c x hx (by rw [List.length_append, List.length_singleton]; omega); clear cB)
            | (go_at_call 26; with_reducible refine cD.mono ?_; rintro e w5 ⟨rfl, hu5⟩; replace hu5 := Lib.hid hu5; clear cD))
          go_roundw
          case rel => exact ⟨k + 1, O ++ [92] ++ [c], by omega, by go_num, by simp only [List.length_append, List.length_singleton]; omega, HE2, hu5⟩
          case measure => simp [intOf]; omega
        · rw [show decide (c = UInt8.ofNat 34) = false from decide_eq_false h34] at e34
          by_cases h92 : c = 92
          · rw [show decide (c = UInt8.ofNat 92) = true from decide_eq_true h92] at e92
            have HE2 := Lib.hid (esc_yes hc (by rw [h92]; rfl) HE.out)
            have cB := HU.out.lit 92 92 rfl (by omega)
            clear h34 h92 e10 e13 hc hx2 HE
            go_wp2_with (first
              | (go_at_call 26; with_reducible refine cB.mono ?_; rintro e w4 ⟨rfl, hu4⟩; have cD := hu4.byte c x hx (by rw [List.length_append, List.length_singleton]; omega); clear cB)
              | (go_at_call 26; with_reducible refine cD.mono ?_; rintro e w5 ⟨rfl, hu5⟩; replace hu5 := Lib.hid hu5; clear cD))
            go_roundw
            case rel => exact ⟨k + 1, O ++ [92] ++ [c], by omega, by go_num, by simp only [List.length_append, List.length_singleton]; omega, HE2, hu5⟩
            case measure => simp [intOf]; omega
          · rw [show decide (c = UInt8.ofNat 92) = false from decide_eq_false h92] at e92
            by_cases h10 : c = 10
            · rw [show decide (c = UInt8.ofNat 10) = true from decide_eq_true h10] at e10
              have HE2 := Lib.hid (esc_yes hc (by rw [h10]; rfl) HE.out)
              have cB := HU.out.lit 92 92 rfl (by omega)
              clear h34 h92 h10 e13 hc hx2 HE
              go_wp2_with (first
                | (go_at_call 26; with_reducible refine cB.mono ?_; rintro e w4 ⟨rfl, hu4⟩; have cD := hu4.byte c x hx (by rw [List.length_append, List.length_singleton]; omega); clear cB)
                | (go_at_call 26; with_reducible refine cD.mono ?_; rintro e w5 ⟨rfl, hu5⟩; replace hu5 := Lib.hid hu5; clear cD))
              go_roundw
              case rel => exact ⟨k + 1, O ++ [92] ++ [c], by omega, by go_num, by simp only [List.length_append, List.length_singleton]; omega, HE2, hu5⟩
              case measure => simp [intOf]; omega
            · rw [show decide (c = UInt8.ofNat 10) = false from decide_eq_false h10] at e10
              by_cases h13 : c = 13
              · rw [show decide (c = UInt8.ofNat 13) = true from decide_eq_true h13] at e13
                have HE2 := Lib.hid (esc_yes hc (by rw [h13]; rfl) HE.out)
                have cB := HU.out.lit 92 92 rfl (by omega)
                clear h34 h92 h10 h13  hc hx2 HE
                go_wp2_with (first
                  | (go_at_call 26; with_reducible refine cB.mono ?_; rintro e w4 ⟨rfl, hu4⟩; have cD := hu4.byte c x hx (by rw [List.length_append, List.length_singleton]; omega); clear cB)
                  | (go_at_call 26; with_reducible refine cD.mono ?_; rintro e w5 ⟨rfl, hu5⟩; replace hu5 := Lib.hid hu5; clear cD))
                go_roundw
                case rel => exact ⟨k + 1, O ++ [92] ++ [c], by omega, by go_num, by simp only [List.length_append, List.length_singleton]; omega, HE2, hu5⟩
                case measure => simp [intOf]; omega
              · rw [show decide (c = UInt8.ofNat 13) = false from decide_eq_false h13] at e13
                have hh : held c = false := by unfold held; simp [h34, h92, h10, h13]
                have HE2 := Lib.hid (esc_no hc hh HE.out)
                have cB := HU.out.byte c x hx (by omega)
                clear h34 h92 h10 h13 hh hc hx hx2 HE
                go_wp2_with (go_at_call 26; with_reducible refine cB.mono ?_; rintro e w4 ⟨rfl, hu4⟩; replace hu4 := Lib.hid hu4; clear cB)
                go_roundw
                case rel => exact ⟨k + 1, O ++ [c], by omega, by go_num, by simp only [List.length_append, List.length_singleton]; omega, HE2, hu4⟩
                case measure => simp [intOf]; omega
      · obtain rfl : k = n := by omega
        have hlt' : ¬ (k : Int) < (k : Int) := by omega
        have he : O = R := by
          have h := HE.out
          rw [List.drop_eq_nil_of_le (by rw [← HL.out, HN.out]; exact Nat.le_refl _), escL, List.append_nil] at h
          exact h
        subst he
        have cB := HU.out.lit 34 34 rfl (by omega)
        clear HE
        go_wp2_with (first
          | (go_at_call 26; with_reducible refine cB.mono ?_; rintro e w4 ⟨rfl, hu4⟩; have cO := hu4.out; clear cB)
          | (go_at_call 24; with_reducible refine cO.mono ?_; rintro e w5 ⟨rfl, hb5⟩; clear cO))
        go_ret
        exact ⟨rfl, Qtrans hb1 hb5⟩
end Go.Proofs.YtmpgclimgbjeoaaDoor
