/- unescaped: a text without its escapes and line breaks. -/
import Derived.Test.YtmpgclimgbjeoaaDoorBare
import Derived.Test.YtmpgclimgbjeoaaDoorEncl
namespace Go.Proofs.YtmpgclimgbjeoaaDoor
open Go.ChangeShapes Go.WideShapes Go.ChangeAt Go.RowKit
open TokP

theorem un_esc1 (l : List UInt8) (k : Nat) (d : UInt8) (h : l[k]? = some 92) (h2 : l[k + 1]? = some d) : unescS false (l.drop k) = d :: unescS false (l.drop (k + 2)) := by
  rw [cons_at l k 92 h, cons_at l (k + 1) d h2, unescS, if_pos rfl, unescS]
theorem un_esc0 (l : List UInt8) (k : Nat) (h : l[k]? = some 92) (h2 : l.length ≤ k + 1) : unescS false (l.drop k) = unescS false (l.drop (k + 2)) := by
  rw [cons_at l k 92 h, List.drop_eq_nil_of_le h2, List.drop_eq_nil_of_le (by omega)]; rfl
theorem un_break (l : List UInt8) (k : Nat) (c : UInt8) (h : l[k]? = some c) (h2 : c = 10 ∨ c = 13) : unescS false (l.drop k) = unescS false (l.drop (k + 1)) := by
  rw [cons_at l k c h, unescS, if_neg (by rcases h2 with rfl | rfl <;> decide), if_pos h2]
theorem un_plain (l : List UInt8) (k : Nat) (c : UInt8) (h : l[k]? = some c) (h1 : c ≠ 92) (h2 : ¬ (c = 10 ∨ c = 13)) : unescS false (l.drop k) = c :: unescS false (l.drop (k + 1)) := by
  rw [cons_at l k c h, unescS, if_neg h1, if_neg h2]
/-- The builder in block b holds O, all older memory lies as it lay. -/
structure Ub (w0 w : World) (b : Nat) (O : List UInt8) : Prop where
  bd : Bd w b O
  bel : Below b w0 w
theorem Ub.put {w0 w w' : World} {b : Nat} {O O' : List UInt8} (h : Ub w0 w b O) (hb : Bd w' b O') (hk : Below b w w') : Ub w0 w' b O' := ⟨hb, h.bel.trans hk⟩
theorem ub_first (w : World) : Ub w (w.alloc (.cells #[.pointer none, .slice none 0 0] 41)) w.heap.size [] := ⟨bd_first w, (Below.refl _ w).alloc (Nat.le_refl _) _⟩
theorem Ub.byte {w0 w : World} {b : Nat} {O : List UInt8} (h : Ub w0 w b O) (c : UInt8) (x : Nat) (hx : c.toNat = x) (hO : O.length ≤ 4000000) :
    Calls Tryd.prog 26 #[.pointer (some ⟨b, 0, none⟩), .int .u8 x] w fun e w' => e = .returned .nilIface ∧ Ub w0 w' b (O ++ [c]) := by
  subst hx
  exact (bd_byte c b O w h.bd (by omega)).mono fun _ _ hh => ⟨hh.1, h.put hh.2.1 hh.2.2⟩
theorem Ub.out {w0 w : World} {b : Nat} {O : List UInt8} (h : Ub w0 w b O) :
    Calls Tryd.prog 24 #[.pointer (some ⟨b, 0, none⟩)] w fun e w' => e = .returned (.string (strL O)) ∧ Below b w0 w' :=
  (bd_out b O w h.bd).mono fun _ _ hh => ⟨hh.1, h.bel.trans hh.2⟩
set_option maxRecDepth 100000 in
set_option maxHeartbeats 2000000 in
theorem unesc_any (s : ByteArray) (hs : s.size ≤ 1000000) (w : World) :
    Calls Tryd.prog 28 #[.string s] w fun e w' => e = .returned (.string (strL (unescS false s.data.toList))) ∧ Below w.heap.size w w' := by
  obtain ⟨n, hn⟩ : ∃ n, s.size = n := ⟨_, rfl⟩
  have HL := Lib.hid (size_list s)
  rw [hn] at hs
  have HN := Lib.hid hn
  clear hn
  obtain ⟨R, hR⟩ : ∃ R, unescS false s.data.toList = R := ⟨_, rfl⟩
  have HR := Lib.hid hR
  rw [hR]
  clear hR
  have HST := Lib.hid (ub_first w)
  go_enter Tryd.func28, Tryd.ntmps28
  go_wp2_with fail
  go_loopw [4] (fun i wr => ∃ (k : Nat) (O : List UInt8), k ≤ n + 1 ∧ i = .int .i64 k ∧ O.length ≤ k ∧ Hid (O ++ unescS false (s.data.toList.drop k) = R) ∧ Hid (Ub w wr w.heap.size O)) (fun i _ => n + 1 - (intOf i).toNat)
  case atStart => exact ⟨0, [], by omega, rfl, Nat.le_refl _, Lib.hid HR.out, HST⟩
  case round =>
    obtain ⟨k, O, hk, rfl, hO, HE, HU⟩ := hrel
    have F1 : IntKind.i64.wrap ((k : Int) + 1) = (k : Int) + 1 := by rw [IntKind.wrap_i64]; omega
    have F2 : IntKind.i64.wrap ((k : Int) + 1 + 1) = (k : Int) + 1 + 1 := by rw [IntKind.wrap_i64]; omega
    have hn : s.size = n := HN.out
    by_cases hlt : k < n
    · have hlt' : (k : Int) < (n : Int) := by omega
      obtain ⟨c, x, hc, hx, hx2, S1⟩ := run_byte s k (by rw [hn]; exact hlt)
      have e10 := byte_is c x hx 10 (by decide)
      have e13 := byte_is c x hx 13 (by decide)
      have e92 := byte_is c x hx 92 (by decide)
      rw [show ((10 : Nat) : Int) = 10 from rfl] at e10
      rw [show ((13 : Nat) : Int) = 13 from rfl] at e13
      rw [show ((92 : Nat) : Int) = 92 from rfl] at e92
      by_cases h10 : c = 10
      · rw [show decide (c = UInt8.ofNat 10) = true from decide_eq_true h10] at e10
        have HE2 := Lib.hid ((congrArg (O ++ ·) (un_break _ k c hc (.inl h10))).symm.trans HE.out)
        clear h10 e13 e92 hc hx hx2 HE
        go_wp2_with fail
        go_roundw
        case rel => exact ⟨k + 1, O, by omega, by go_num, by omega, HE2, HU⟩
        case measure => simp [intOf]; omega
      · rw [show decide (c = UInt8.ofNat 10) = false from decide_eq_false h10] at e10
        by_cases h13 : c = 13
        · rw [show decide (c = UInt8.ofNat 13) = true from decide_eq_true h13] at e13
          have HE2 := Lib.hid ((congrArg (O ++ ·) (un_break _ k c hc (.inr h13))).symm.trans HE.out)
          clear h10 h13 e92 hc hx hx2 HE
          go_wp2_with fail
          go_roundw
          case rel => exact ⟨k + 1, O, by omega, by go_num, by omega, HE2, HU⟩
          case measure => simp [intOf]; omega
        · rw [show decide (c = UInt8.ofNat 13) = false from decide_eq_false h13] at e13
          by_cases h92 : c = 92
          · rw [show decide (c = UInt8.ofNat 92) = true from decide_eq_true h92] at e92
            rw [h92] at hc
            by_cases hl2 : k + 1 < n
            · have hl2' : (k : Int) + 1 < (n : Int) := by omega
              obtain ⟨d, y, hd, hy, hy2, S2⟩ := run_byte s (k + 1) (by rw [hn]; exact hl2)
              rw [show ((k + 1 : Nat) : Int) = (k : Int) + 1 from by omega] at S2
              have HE2 := Lib.hid (show (O ++ [d]) ++ unescS false (s.data.toList.drop (k + 2)) = R by rw [← HE.out, un_esc1 _ k d hc hd, List.append_assoc]; rfl)
              have cB := HU.out.byte d y hy (by omega)
              clear h10 h13 h92 hc hx hx2 HE hd hy hy2
              go_wp2_with (go_at_call 26; with_reducible refine cB.mono ?_; rintro e w2 ⟨rfl, hu2⟩; replace hu2 := Lib.hid hu2)
              go_roundw
              case rel => exact ⟨k + 2, O ++ [d], by omega, by go_num, by rw [List.length_append, List.length_singleton]; omega, HE2, hu2⟩
              case measure => simp [intOf]; omega
            · have hl2' : ¬ (k : Int) + 1 < (n : Int) := by omega
              have HE2 := Lib.hid ((congrArg (O ++ ·) (un_esc0 _ k hc (by rw [← HL.out, hn]; omega))).symm.trans HE.out)
              clear h10 h13 h92 hc hx hx2 HE
              go_wp2_with fail
              go_roundw
              case rel => exact ⟨k + 2, O, by omega, by go_num, by omega, HE2, HU⟩
              case measure => simp [intOf]; omega
          · rw [show decide (c = UInt8.ofNat 92) = false from decide_eq_false h92] at e92
            have HE2 := Lib.hid (show (O ++ [c]) ++ unescS false (s.data.toList.drop (k + 1)) = R by rw [← HE.out, un_plain _ k c hc h92 (fun e => e.elim h10 h13), List.append_assoc]; rfl)
            have cB := HU.out.byte c x hx (by omega)
            clear h10 h13 h92 hc hx hx2 HE
            go_wp2_with (go_at_call 26; with_reducible refine cB.mono ?_; rintro e w2 ⟨rfl, hu2⟩; replace hu2 := Lib.hid hu2)
            go_roundw
            case rel => exact ⟨k + 1, O ++ [c], by omega, by go_num, by rw [List.length_append, List.length_singleton]; omega, HE2, hu2⟩
            case measure => simp [intOf]; omega
    · have hlt' : ¬ (k : Int) < (n : Int) := by omega
      have he : O = R := by
        have h := HE.out
        rw [List.drop_eq_nil_of_le (by rw [← HL.out, hn]; omega), unescS, List.append_nil] at h
        exact h
      subst he
      have cO := HU.out.out
      clear HE
      go_wp2_with (go_at_call 24; with_reducible refine cO.mono ?_; rintro e w2 ⟨rfl, hb2⟩)
      go_ret
      exact ⟨rfl, hb2⟩
end Go.Proofs.YtmpgclimgbjeoaaDoor
