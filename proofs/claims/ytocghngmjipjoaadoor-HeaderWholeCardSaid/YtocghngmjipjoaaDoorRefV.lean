/- The reference's Clean and Unfold. -/
import Derived.Test.YtocghngmjipjoaaDoorRefU
namespace Go.Proofs.YtocghngmjipjoaaDoor
open Go.ChangeShapes Go.WideShapes Go.ChangeAt Go.RowKit
open LinesP HdrP

theorem flat1_nat (c : UInt8) (x : Nat) (hx : c.toNat = x) : ((flat1 c).toNat : Int) = if c = UInt8.ofNat 10 ∨ c = UInt8.ofNat 13 then 32 else (x : Int) := by
  unfold flat1
  by_cases h : c = 10 ∨ c = 13
  · rw [if_pos h, if_pos (show c = UInt8.ofNat 10 ∨ c = UInt8.ofNat 13 from h)]; rfl
  · rw [if_neg h, if_neg (show ¬ (c = UInt8.ofNat 10 ∨ c = UInt8.ofNat 13) from h), hx]
set_option maxRecDepth 100000 in
set_option maxHeartbeats 2000000 in
theorem rclean_any (s : ByteArray) (hs : s.size ≤ 900000) (w : World) :
    Calls Tryd.prog 30 #[.string s] w fun e w' => e = .returned (.string (strL (cleanL s.data.toList))) ∧ Below w.heap.size w w' := by
  obtain ⟨S, hS⟩ : ∃ S, s.data.toList = S := ⟨_, rfl⟩
  have HS := Lib.hid hS
  have HZ := Lib.hid (size_list s)
  rw [hS] at HZ ⊢
  clear hS
  go_enter Tryd.func30, Tryd.ntmps30
  go_wp2_with fail
  go_loopw [3, 4] (fun o i wr => ∃ k : Nat, k ≤ s.size ∧ i = .int .i64 k ∧ (∃ a c, o = .slice a k c) ∧ Hid (Ow wr w.heap.size o ((S.take k).map flat1)) ∧ Hid (Below w.heap.size w wr)) (fun _ i _ => s.size - (intOf i).toNat)
  case atStart => exact ⟨0, Nat.zero_le _, rfl, ⟨none, 0, rfl⟩, ow_nil _ _, Below.refl _ _⟩
  case round =>
    obtain ⟨k, hk, rfl, ⟨a, c, rfl⟩, ho, hb⟩ := hrel
    have F1 : IntKind.i64.wrap ((k : Int) + 1) = (k : Int) + 1 := by rw [IntKind.wrap_i64]; omega
    by_cases hlt : k < s.size
    · have hlt' : (k : Int) < (s.size : Int) := by omega
      obtain ⟨ch, x, hc, hx, hx2, RI⟩ := run_byte s k hlt
      rw [HS.out] at hc
      have HO := Lib.hid (map_take flat1 S k ch hc)
      have hlen : Hid (((S.take k).map flat1).length = k) := by show _ = _; rw [List.length_map, List.length_take, ← HZ.out]; omega
      have hl := flat1_nat ch x hx
      have e1 := byte_is ch x hx 10 (by decide)
      have e2 := byte_is ch x hx 13 (by decide)
      rw [show ((10 : Nat) : Int) = 10 from rfl] at e1
      rw [show ((13 : Nat) : Int) = 13 from rfl] at e2
      clear hc hx
      by_cases h1 : ch = UInt8.ofNat 10
      · rw [if_pos (Or.inl h1)] at hl
        rw [decide_eq_true h1] at e1
        have HY := Lib.hid hl
        clear hl h1 e2
        go_wp2_with (at_builtin; refine wpList_byte rfl (.tmp 21) (.tmp 23) rfl w.heap.size (flat1 ch) _ HY.out rfl rfl ho.out hlen.out hb.out.size (by omega) ?_; intro a2 c2 w2 h2 g2; replace h2 := Lib.hid h2; replace g2 := Lib.hid g2)
        go_roundw
        case rel => exact ⟨k + 1, by omega, by go_num, ⟨a2, c2, rfl⟩, by rw [HO.out]; exact h2, ow_below hb.out ho.out (Nat.le_refl _) g2.out⟩
        case measure => simp [intOf]; omega
      · rw [decide_eq_false h1] at e1
        by_cases h2 : ch = UInt8.ofNat 13
        · rw [if_pos (Or.inr h2)] at hl
          rw [decide_eq_true h2] at e2
          have HY := Lib.hid hl
          clear hl h1 h2
          go_wp2_with (at_builtin; refine wpList_byte rfl (.tmp 21) (.tmp 23) rfl w.heap.size (flat1 ch) _ HY.out rfl rfl ho.out hlen.out hb.out.size (by omega) ?_; intro a2 c2 w2 h2 g2; replace h2 := Lib.hid h2; replace g2 := Lib.hid g2)
          go_roundw
          case rel => exact ⟨k + 1, by omega, by go_num, ⟨a2, c2, rfl⟩, by rw [HO.out]; exact h2, ow_below hb.out ho.out (Nat.le_refl _) g2.out⟩
          case measure => simp [intOf]; omega
        · rw [if_neg (fun h => h.elim h1 h2)] at hl
          rw [decide_eq_false h2] at e2
          have HY := Lib.hid hl
          clear hl h1 h2
          go_wp2_with (at_builtin; refine wpList_byte rfl (.tmp 21) (.tmp 23) rfl w.heap.size (flat1 ch) _ HY.out rfl rfl ho.out hlen.out hb.out.size (by omega) ?_; intro a2 c2 w2 h2 g2; replace h2 := Lib.hid h2; replace g2 := Lib.hid g2)
          go_roundw
          case rel => exact ⟨k + 1, by omega, by go_num, ⟨a2, c2, rfl⟩, by rw [HO.out]; exact h2, ow_below hb.out ho.out (Nat.le_refl _) g2.out⟩
          case measure => simp [intOf]; omega
    · obtain rfl : k = s.size := by omega
      have hT : S.take s.size = S := List.take_of_length_le (by rw [← HZ.out]; exact Nat.le_refl _)
      rw [hT] at ho
      have hcv := conv_own (l := S.map flat1) (n := s.size) (by rw [List.length_map, ← HZ.out]) (by have h := ho.out; unfold Ow at h; rw [List.length_map, ← HZ.out] at h; exact h)
      have hTr := fun w => rtrim_any (strL (S.map flat1)) (by rw [strL_size, List.length_map, ← HZ.out]; omega) w
      rw [strL_list, show trimL (S.map flat1) = cleanL S from rfl] at hTr
      obtain ⟨R, hR⟩ : ∃ R, strL (cleanL S) = R := ⟨_, rfl⟩
      rw [hR] at hTr
      have HR := Lib.hid hR
      generalize strL (S.map flat1) = Q at hcv hTr
      clear hR hT
      go_wp2_with (go_at_call 29; refine (hTr _).mono ?_; rintro e w9 ⟨rfl, hw⟩; rw [← hw]; clear hw w9)
      go_ret
      rw [HR.out]
      exact ⟨rfl, hb.out⟩
theorem ten_is (c : UInt8) : (c = UInt8.ofNat 10) = (c = 10) := rfl
theorem thirteen_is (c : UInt8) : (c = UInt8.ofNat 13) = (c = 13) := rfl
set_option maxRecDepth 100000 in
set_option maxHeartbeats 4000000 in
theorem runfold_any (s : ByteArray) (hs : s.size ≤ 900000) (w : World) :
    Calls Tryd.prog 18 #[.string s] w fun e w' => e = .returned (.string (strL (unfoldL s.data.toList))) ∧ Below w.heap.size w w' := by
  obtain ⟨S, hS⟩ : ∃ S, s.data.toList = S := ⟨_, rfl⟩
  have HS := Lib.hid hS
  have HZ := Lib.hid (size_list s)
  rw [hS] at HZ ⊢
  clear hS
  go_enter Tryd.func18, Tryd.ntmps18
  go_wp2_with fail
  go_loopw [3, 4] (fun o i wr => ∃ (k m : Nat) (out : List UInt8), k ≤ s.size ∧ m ≤ k ∧ i = .int .i64 k ∧ (∃ a c, o = .slice a m c) ∧ Hid (out.length = m) ∧ Hid (out ++ unfoldL (S.drop k) = unfoldL S) ∧ Hid (Ow wr w.heap.size o out) ∧ Hid (Below w.heap.size w wr)) (fun _ i _ => s.size - (intOf i).toNat)
  case atStart => exact ⟨0, 0, [], Nat.zero_le _, Nat.le_refl _, rfl, ⟨none, 0, rfl⟩, rfl, by rw [List.drop_zero]; exact Lib.hid rfl, ow_nil _ _, Below.refl _ _⟩
  case round =>
    obtain ⟨k, m, out, hk, hmk, rfl, ⟨a, c, rfl⟩, hm, hst, ho, hb⟩ := hrel
    have F1 : IntKind.i64.wrap ((k : Int) + 1) = (k : Int) + 1 := by rw [IntKind.wrap_i64]; omega
    by_cases hlt : k < s.size
    · have hlt' : (k : Int) < (s.size : Int) := by omega
      obtain ⟨ch, x, hc, hx, hx2, RI⟩ := run_byte s k hlt
      rw [HS.out] at hc
      have hu := unfold_step S k ch hc
      have e1 := byte_is ch x hx 10 (by decide)
      have e2 := byte_is ch x hx 13 (by decide)
      rw [show ((10 : Nat) : Int) = 10 from rfl] at e1
      rw [show ((13 : Nat) : Int) = 13 from rfl] at e2
      have HX : Hid ((ch.toNat : Int) = (x : Int)) := by show _ = _; rw [hx]
      clear hc hx
      by_cases h1 : ch = UInt8.ofNat 10
      · rw [if_pos (show ch = 10 from h1)] at hu
        rw [decide_eq_true h1] at e1
        have HU : Hid (out ++ unfoldL (S.drop (k + 1)) = unfoldL S) := by show _ = _; rw [← hst.out, hu]
        clear hu h1 e2
        go_wp2_with fail
        go_roundw
        case rel => exact ⟨k + 1, m, out, by omega, by omega, by go_num, ⟨a, c, rfl⟩, hm, HU, ho, hb⟩
        case measure => simp [intOf]; omega
      · rw [decide_eq_false h1] at e1
        rw [if_neg (show ¬ ch = 10 from h1)] at hu
        by_cases h2 : ch = UInt8.ofNat 13
        · rw [decide_eq_true h2] at e2
          by_cases hl2 : k + 1 < s.size
          · have hl2' : (k : Int) + 1 < (s.size : Int) := by omega
            obtain ⟨dh, y, hd, hy, _, RJ⟩ := run_byte s (k + 1) hl2
            rw [HS.out] at hd
            rw [Int.natCast_add, show ((1 : Nat) : Int) = 1 from rfl] at RJ
            have e3 := byte_is dh y hy 10 (by decide)
            rw [show ((10 : Nat) : Int) = 10 from rfl] at e3
            by_cases h3 : dh = UInt8.ofNat 10
            · rw [if_pos (show ch = 13 ∧ S[k + 1]? = some 10 from ⟨h2, by rw [hd, h3]; rfl⟩)] at hu
              rw [decide_eq_true h3] at e3
              have HU : Hid (out ++ unfoldL (S.drop (k + 1)) = unfoldL S) := by show _ = _; rw [← hst.out, hu]
              clear hu h1 h2 hd hy h3
              go_wp2_with fail
              go_roundw
              case rel => exact ⟨k + 1, m, out, by omega, by omega, by go_num, ⟨a, c, rfl⟩, hm, HU, ho, hb⟩
              case measure => simp [intOf]; omega
            · rw [if_neg (show ¬ (ch = 13 ∧ S[k + 1]? = some 10) from fun e => h3 (by have := e.2; rw [hd] at this; cases this; rfl))] at hu
              rw [decide_eq_false h3] at e3
              have HU : Hid (out ++ [ch] ++ unfoldL (S.drop (k + 1)) = unfoldL S) := by show _ = _; rw [← hst.out, hu, List.append_assoc]; rfl
              clear hu h1 h2 hd hy h3
              go_wp2_with (at_builtin; refine wpList_byte rfl (.tmp 35) (.tmp 39) rfl w.heap.size ch _ HX.out rfl rfl ho.out hm.out hb.out.size (by omega) ?_; intro a2 c2 w2 h2 g2; replace h2 := Lib.hid h2; replace g2 := Lib.hid g2)
              go_roundw
              case rel => exact ⟨k + 1, m + 1, out ++ [ch], by omega, by omega, by go_num, ⟨a2, c2, rfl⟩, Lib.hid (by rw [List.length_append, hm.out]; rfl), HU, h2, ow_below hb.out ho.out (Nat.le_refl _) g2.out⟩
              case measure => simp [intOf]; omega
          · have hl2' : ¬ (k : Int) + 1 < (s.size : Int) := by omega
            rw [if_neg (show ¬ (ch = 13 ∧ S[k + 1]? = some 10) from fun e => by have := e.2; rw [List.getElem?_eq_none (by rw [← HZ.out]; omega)] at this; cases this)] at hu
            have HU : Hid (out ++ [ch] ++ unfoldL (S.drop (k + 1)) = unfoldL S) := by show _ = _; rw [← hst.out, hu, List.append_assoc]; rfl
            clear hu h1 h2
            go_wp2_with (at_builtin; refine wpList_byte rfl (.tmp 35) (.tmp 39) rfl w.heap.size ch _ HX.out rfl rfl ho.out hm.out hb.out.size (by omega) ?_; intro a2 c2 w2 h2 g2; replace h2 := Lib.hid h2; replace g2 := Lib.hid g2)
            go_roundw
            case rel => exact ⟨k + 1, m + 1, out ++ [ch], by omega, by omega, by go_num, ⟨a2, c2, rfl⟩, Lib.hid (by rw [List.length_append, hm.out]; rfl), HU, h2, ow_below hb.out ho.out (Nat.le_refl _) g2.out⟩
            case measure => simp [intOf]; omega
        · rw [decide_eq_false h2] at e2
          rw [if_neg (show ¬ (ch = 13 ∧ S[k + 1]? = some 10) from fun e => h2 e.1)] at hu
          have HU : Hid (out ++ [ch] ++ unfoldL (S.drop (k + 1)) = unfoldL S) := by show _ = _; rw [← hst.out, hu, List.append_assoc]; rfl
          clear hu h1 h2
          go_wp2_with (at_builtin; refine wpList_byte rfl (.tmp 35) (.tmp 39) rfl w.heap.size ch _ HX.out rfl rfl ho.out hm.out hb.out.size (by omega) ?_; intro a2 c2 w2 h2 g2; replace h2 := Lib.hid h2; replace g2 := Lib.hid g2)
          go_roundw
          case rel => exact ⟨k + 1, m + 1, out ++ [ch], by omega, by omega, by go_num, ⟨a2, c2, rfl⟩, Lib.hid (by rw [List.length_append, hm.out]; rfl), HU, h2, ow_below hb.out ho.out (Nat.le_refl _) g2.out⟩
          case measure => simp [intOf]; omega
    · obtain rfl : k = s.size := by omega
      have hu := hst.out
      rw [HZ.out, unfold_end, List.append_nil] at hu
      have hcv := conv_own (l := out) (n := m) hm.out (by have h := ho.out; unfold Ow at h; rw [hm.out] at h; exact h)
      rw [hu] at hcv
      obtain ⟨R, hR⟩ : ∃ R, strL (unfoldL S) = R := ⟨_, rfl⟩
      rw [hR] at hcv
      have HR := Lib.hid hR
      clear hR hu
      go_wp2_with fail
      go_ret
      rw [HR.out]
      exact ⟨rfl, hb.out⟩
end Go.Proofs.YtocghngmjipjoaaDoor
