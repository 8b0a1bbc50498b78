/- The reference's Trim, Clean and Unfold. -/
import Derived.Test.YtocghngmjipjoaaDoorRefT
namespace Go.Proofs.YtocghngmjipjoaaDoor
open Go.ChangeShapes Go.WideShapes Go.ChangeAt Go.RowKit
open LinesP HdrP

theorem trim_stop (S : List UInt8) (k : Nat) (h1 : (S.drop k).dropWhile HdrP.blank = S.dropWhile HdrP.blank) (h2 : ∀ c, S[k]? = some c → HdrP.blank c = false) : S.dropWhile HdrP.blank = S.drop k := by
  rw [← h1]; exact drop_while_stop S k h2
theorem mid_le (S : List UInt8) (k _j : Nat) : (S.drop k).take (S.length - k) = S.drop k := List.take_of_length_le (by rw [List.length_drop]; exact Nat.le_refl _)
theorem mid_step (S : List UInt8) (k j : Nat) (c : UInt8) (hkj : k < j) (hc : S[j - 1]? = some c) (hb : HdrP.blank c = true) : trimR ((S.drop k).take (j - k)) = trimR ((S.drop k).take (j - 1 - k)) := by
  have := slice_last S k (j - 1) c (by omega) hc
  rw [show j - 1 + 1 - k = j - k by omega] at this
  rw [this, trimR_step _ _ hb]
theorem mid_stop (S : List UInt8) (k j : Nat) (hj : j ≤ S.length) (h : k < j → ∀ c, S[j - 1]? = some c → HdrP.blank c = false) : trimR ((S.drop k).take (j - k)) = (S.drop k).take (j - k) := by
  refine trimR_fixed fun c hc => ?_
  by_cases hkj : k < j
  · obtain ⟨d, hd⟩ : ∃ d, S[j - 1]? = some d := ⟨_, List.getElem?_eq_getElem (by omega)⟩
    have := slice_last S k (j - 1) d (by omega) hd
    rw [show j - 1 + 1 - k = j - k by omega] at this
    rw [this] at hc
    simp at hc
    rw [← hc]; exact h hkj d hd
  · rw [show j - k = 0 by omega] at hc
    simp at hc
set_option maxRecDepth 100000 in
set_option maxHeartbeats 2000000 in
theorem rtrim_any (s : ByteArray) (hs : s.size ≤ 1000000) (w : World) :
    Calls Tryd.prog 29 #[.string s] w fun e w' => e = .returned (.string (strL (trimL s.data.toList))) ∧ w = w' := by
  obtain ⟨S, hS⟩ : ∃ S, s.data.toList = S := ⟨_, rfl⟩
  have HS := Lib.hid hS
  have HZ := Lib.hid (size_list s)
  rw [hS] at HZ ⊢
  clear hS
  go_enter Tryd.func29, Tryd.ntmps29
  go_wp2_with fail
  go_loopw [3] (fun f wr => ∃ k : Nat, k ≤ s.size ∧ f = .int .i64 k ∧ wr = w ∧ Hid ((S.drop k).dropWhile HdrP.blank = S.dropWhile HdrP.blank)) (fun f _ => s.size - (intOf f).toNat)
  case atStart => exact ⟨0, Nat.zero_le _, rfl, rfl, by rw [List.drop_zero]; exact Lib.hid rfl⟩
  case round =>
    obtain ⟨k, hk, rfl, rfl, hd⟩ := hrel
    have F1 : IntKind.i64.wrap ((k : Int) + 1) = (k : Int) + 1 := by rw [IntKind.wrap_i64]; omega
    by_cases hlt : k < s.size
    · have hlt' : (k : Int) < (s.size : Int) := by omega
      obtain ⟨ch, x, hc, hx, hx2, RI⟩ := run_byte s k hlt
      rw [HS.out] at hc
      have cB := fun w => rblank_any ch x hx w
      by_cases hb : HdrP.blank ch = true
      · rw [hb] at cB
        have HD : Hid ((S.drop (k + 1)).dropWhile HdrP.blank = S.dropWhile HdrP.blank) := (drop_while_step S k ch hc hb).symm.trans hd.out
        clear hb hc hx
        go_wp2_with (go_at_call 32; refine (cB _).mono ?_; rintro e w9 ⟨rfl, hw⟩; rw [← hw]; clear hw w9)
        go_roundw
        case rel => exact ⟨k + 1, by omega, by go_num, trivial, HD⟩
        case measure => simp [intOf]; omega
      · have hb' : HdrP.blank ch = false := by simpa using hb
        rw [hb'] at cB
        have HD := Lib.hid (trim_stop S k hd.out (fun c h => by rw [hc] at h; cases h; exact hb'))
        clear hb hb' hc hx
        go_wp2_with (go_at_call 32; refine (cB _).mono ?_; rintro e w9 ⟨rfl, hw⟩; rw [← hw]; clear hw w9)
        go_loopw [4] (fun t wr2 => ∃ j : Nat, k ≤ j ∧ j ≤ s.size ∧ t = .int .i64 j ∧ wr2 = wr ∧ Hid (trimR ((S.drop k).take (j - k)) = trimR (S.drop k))) (fun t _ => (intOf t).toNat)
        case atStart => exact ⟨s.size, hk, Nat.le_refl _, rfl, rfl, Lib.hid (by rw [HZ.out, mid_le S k 0])⟩
        case round =>
          obtain ⟨j, hkj, hj, rfl, rfl, ht⟩ := hrel
          have F2 : 0 < j → IntKind.i64.wrap ((j : Int) - 1) = ((j - 1 : Nat) : Int) := fun h => by rw [IntKind.wrap_i64]; omega
          by_cases hl2 : k < j
          · have hl2' : (k : Int) < (j : Int) := by omega
            have F2 := F2 (by omega)
            obtain ⟨ch2, x2, hc2, hx2, _, RJ⟩ := run_byte s (j - 1) (by omega)
            rw [HS.out] at hc2
            have cB2 := fun w => rblank_any ch2 x2 hx2 w
            by_cases hb2 : HdrP.blank ch2 = true
            · rw [hb2] at cB2
              have HT : Hid (trimR ((S.drop k).take (j - 1 - k)) = trimR (S.drop k)) := (mid_step S k j ch2 hl2 hc2 hb2).symm.trans ht.out
              clear hb2 hc2 hx2
              go_wp2_with (go_at_call 32; refine (cB2 _).mono ?_; rintro e w9 ⟨rfl, hw⟩; rw [← hw]; clear hw w9)
              go_roundw
              case rel => exact ⟨j - 1, by omega, by omega, by go_num, trivial, HT⟩
              case measure => simp [intOf]; omega
            · have hb2' : HdrP.blank ch2 = false := by simpa using hb2
              rw [hb2'] at cB2
              have hX : strL (trimL S) = strL ((S.drop k).take (j - k)) := by
                unfold trimL
                rw [HD.out, ← ht.out, mid_stop S k j (by rw [← HZ.out]; exact hj) (fun _ c h => by rw [hc2] at h; cases h; exact hb2')]
              obtain ⟨X, hXX⟩ : ∃ X, strL ((S.drop k).take (j - k)) = X := ⟨_, rfl⟩
              have R1 := run_slice_str s k j (j : Int) rfl hkj hj
              rw [part_of s k j hkj hj, HS.out, hXX] at R1
              rw [hXX] at hX
              have HX := Lib.hid hX
              clear hX hXX hb2 hb2' hc2 hx2
              go_wp2_with (go_at_call 32; refine (cB2 _).mono ?_; rintro e w9 ⟨rfl, hw⟩; rw [← hw]; clear hw w9)
              go_ret
              rw [HX.out]
              exact ⟨rfl, rfl⟩
          · have hl2' : ¬ (k : Int) < (j : Int) := by omega
            clear F2
            have hX : strL (trimL S) = strL ((S.drop k).take (j - k)) := by
              unfold trimL
              rw [HD.out, ← ht.out, mid_stop S k j (by rw [← HZ.out]; exact hj) (fun h => absurd h hl2)]
            obtain ⟨X, hXX⟩ : ∃ X, strL ((S.drop k).take (j - k)) = X := ⟨_, rfl⟩
            have R1 := run_slice_str s k j (j : Int) rfl hkj hj
            rw [part_of s k j hkj hj, HS.out, hXX] at R1
            rw [hXX] at hX
            have HX := Lib.hid hX
            clear hX hXX
            go_wp2_with fail
            go_ret
            rw [HX.out]
            exact ⟨rfl, rfl⟩
    · obtain rfl : k = s.size := by omega
      have hlt' : ¬ (s.size : Int) < (s.size : Int) := by omega
      have HD := Lib.hid (trim_stop S s.size hd.out (fun c h => by rw [List.getElem?_eq_none (by rw [← HZ.out]; exact Nat.le_refl _)] at h; cases h))
      go_wp2_with fail
      go_loopw [4] (fun t wr2 => ∃ j : Nat, s.size ≤ j ∧ j ≤ s.size ∧ t = .int .i64 j ∧ wr2 = wr ∧ Hid (trimR ((S.drop s.size).take (j - s.size)) = trimR (S.drop s.size))) (fun t _ => (intOf t).toNat)
      case atStart => exact ⟨s.size, Nat.le_refl _, Nat.le_refl _, rfl, rfl, Lib.hid (by rw [HZ.out, mid_le S S.length 0])⟩
      case round =>
        obtain ⟨j, hkj, hj, rfl, rfl, ht⟩ := hrel
        have F2 : 0 < j → IntKind.i64.wrap ((j : Int) - 1) = ((j - 1 : Nat) : Int) := fun h => by rw [IntKind.wrap_i64]; omega
        by_cases hl2 : s.size < j
        · have hl2' : (s.size : Int) < (j : Int) := by omega
          have F2 := F2 (by omega)
          obtain ⟨ch2, x2, hc2, hx2, _, RJ⟩ := run_byte s (j - 1) (by omega)
          rw [HS.out] at hc2
          have cB2 := fun w => rblank_any ch2 x2 hx2 w
          by_cases hb2 : HdrP.blank ch2 = true
          · rw [hb2] at cB2
            have HT : Hid (trimR ((S.drop s.size).take (j - 1 - s.size)) = trimR (S.drop s.size)) := (mid_step S s.size j ch2 hl2 hc2 hb2).symm.trans ht.out
            clear hb2 hc2 hx2
            go_wp2_with (go_at_call 32; refine (cB2 _).mono ?_; rintro e w9 ⟨rfl, hw⟩; rw [← hw]; clear hw w9)
            go_roundw
            case rel => exact ⟨j - 1, by omega, by omega, by go_num, trivial, HT⟩
            case measure => simp [intOf]; omega
          · have hb2' : HdrP.blank ch2 = false := by simpa using hb2
            rw [hb2'] at cB2
            have hX : strL (trimL S) = strL ((S.drop s.size).take (j - s.size)) := by
              unfold trimL
              rw [HD.out, ← ht.out, mid_stop S s.size j (by rw [← HZ.out]; exact hj) (fun _ c h => by rw [hc2] at h; cases h; exact hb2')]
            obtain ⟨X, hXX⟩ : ∃ X, strL ((S.drop s.size).take (j - s.size)) = X := ⟨_, rfl⟩
            have R1 := run_slice_str s s.size j (j : Int) rfl hkj hj
            rw [part_of s s.size j hkj hj, HS.out, hXX] at R1
            rw [hXX] at hX
            have HX := Lib.hid hX
            clear hX hXX hb2 hb2' hc2 hx2
            go_wp2_with (go_at_call 32; refine (cB2 _).mono ?_; rintro e w9 ⟨rfl, hw⟩; rw [← hw]; clear hw w9)
            go_ret
            rw [HX.out]
            exact ⟨rfl, rfl⟩
        · have hl2' : ¬ (s.size : Int) < (j : Int) := by omega
          clear F2
          have hX : strL (trimL S) = strL ((S.drop s.size).take (j - s.size)) := by
            unfold trimL
            rw [HD.out, ← ht.out, mid_stop S s.size j (by rw [← HZ.out]; exact hj) (fun h => absurd h hl2)]
          obtain ⟨X, hXX⟩ : ∃ X, strL ((S.drop s.size).take (j - s.size)) = X := ⟨_, rfl⟩
          have R1 := run_slice_str s s.size j (j : Int) rfl hkj hj
          rw [part_of s s.size j hkj hj, HS.out, hXX] at R1
          rw [hXX] at hX
          have HX := Lib.hid hX
          clear hX hXX
          go_wp2_with fail
          go_ret
          rw [HX.out]
          exact ⟨rfl, rfl⟩
end Go.Proofs.YtocghngmjipjoaaDoor
