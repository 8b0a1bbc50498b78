/- The reference's Reader.Num. -/
import Derived.Test.YtbaddpkeaealpaaNum
namespace Go.Proofs.Ytbaddpkeaealpaa
open Go.ChangeShapes Go.WideShapes Go.ChangeAt Go.RowKit

theorem val_drop (D : ByteArray) (k i : Nat) (h : i ≤ k) (hk : k < D.size) : val ((D.data.toList.take (k + 1)).drop i) = D[i].toNat % 128 + 128 * val ((D.data.toList.take (k + 1)).drop (i + 1)) := by
  have hl : i < (D.data.toList.take (k + 1)).length := by rw [take_len D (k + 1) (by omega)]; omega
  rw [List.drop_eq_getElem_cons hl, val]
  congr 2
  rw [List.getElem_take]; rfl
theorem val_drop_lt (D : ByteArray) (k i : Nat) (h : i ≤ k) (hk : k < D.size) : val ((D.data.toList.take (k + 1)).drop (i + 1)) < 128 ^ (k - i) := by
  have := val_lt ((D.data.toList.take (k + 1)).drop (i + 1))
  rw [List.length_drop, take_len D (k + 1) (by omega), show k + 1 - (i + 1) = k - i by omega] at this
  exact this

set_option maxRecDepth 100000 in
theorem numR_any {b : Nat} {s : RS} {w : World} (h : Rd 59 w b s) (hs : s.1.length ≤ 140737488355328) :
    Calls Try.prog 22 #[.pointer (some ⟨b, 0, none⟩)] w fun e w' => e = .returned (.int .i64 (numP s).1) ∧ Rd 59 w' b (numP s).2 ∧ w.grownBy w' (some b) := by
  obtain ⟨D, f, rfl⟩ := state_of s
  have hmax : D.size ≤ 140737488355328 := by
    have e : D.data.toList.length = D.size := by rw [Array.length_toList]; rfl
    rw [← e]; exact hs
  clear hs
  have c0 := h.cellD
  have f0 := h.frozen 0
  have HH := Lib.hid h
  clear h
  go_enter Try.func22, Try.ntmps22
  go_wp2_with fail
  go_loop [3] (fun i => ∃ k : Nat, k ≤ D.size ∧ i = .int .i64 k ∧ Hid (High D k)) (fun i => D.size - (intOf i).toNat)
  case atStart => exact ⟨0, Nat.zero_le _, rfl, by intro j hj h; omega⟩
  case round =>
    obtain ⟨k, hk, rfl, hval⟩ := hrel
    by_cases hlt : k < D.size
    · by_cases hb : 128 ≤ D[k].toNat
      · have hb' : (128 : Int) ≤ (D[k].toNat : Int) := by omega
        go_wp2_with fail
        go_round
        case rel => exact ⟨k + 1, by omega, by go_num, hval.out.succ hlt hb⟩
        case measure => simp [intOf]; omega
      · have hb' : ¬ (128 : Int) ≤ (D[k].toNat : Int) := by omega
        by_cases h9 : 8 < k
        · have h9' : (8 : Int) < (k : Int) := by omega
          have HP := Lib.hid (numP_over (f := f) hval.out (Or.inr (show 9 ≤ k by omega)))
          clear hb
          go_wp2_with (go_at_call 45; refine (failR_any HH.out).mono ?_; rintro e w1 ⟨rfl, h1, h2⟩)
          go_ret
          rw [HP.out]
          exact ⟨rfl, h1, h2⟩
        · have h9' : ¬ (8 : Int) < (k : Int) := by omega
          by_cases h0 : D[k].toNat = 0 ∧ 0 < k
          · have hq : ((D[k].toNat : Int) == 0) = true := beq_iff_eq.2 (by omega)
            have hk0 : (0 : Int) < (k : Int) := by omega
            have HP := Lib.hid (numP_zero (f := f) hlt hval.out h0.1 h0.2)
            clear h0 hb
            go_wp2_with (go_at_call 45; refine (failR_any HH.out).mono ?_; rintro e w1 ⟨rfl, h1, h2⟩)
            go_ret
            rw [HP.out]
            exact ⟨rfl, h1, h2⟩
          · have HP := Lib.hid (numP_ok (f := f) hlt (by omega) hval.out (by omega) (by omega))
            have HL : Hid (D.data.toList.length = D.size) := by show _ = _; rw [Array.length_toList]; rfl
            have hfin : Rd 59 (w.setCell ⟨b, 0, none⟩ (.string (D.extract (k + 1) D.size))) b (D.data.toList.drop (k + 1), f) := by
              have := HH.out.set0 (D.data.toList.drop (k + 1))
              rw [ext, List.take_of_length_le (by rw [List.length_drop, HL.out]; exact Nat.le_refl _)]
              exact this
            have HF := Lib.hid hfin
            clear hfin
            have hq : (0 : Int) < (k : Int) → ((D[k].toNat : Int) == 0) = false := fun hk => beq_eq_false_iff_ne.2 (by omega)
            have HQ := Lib.hid hq
            clear hq h0
            have hk9 : k < 9 := by omega
            clear hb
            rcases (show (0 : Int) < (k : Int) ∨ ¬ (0 : Int) < (k : Int) by omega) with hk0 | hk0
            all_goals
              first
                | have hq := HQ.out hk0
                | skip
              go_upto_region 9 with fail
              go_loop [4, 5] (fun n i => ∃ x : Nat, n = .int .i64 x ∧ x ≤ 9223372036854775807 ∧ ((∃ t : Nat, t ≤ k ∧ i = .int .i64 t ∧ Hid (x = val ((D.data.toList.take (k + 1)).drop (t + 1)))) ∨ (i = .int .i64 (-1) ∧ Hid (x = val (D.data.toList.take (k + 1))))))
                (fun _ i => (intOf i + 1).toNat)
              case atStart => exact ⟨0, rfl, by omega, Or.inl ⟨k, Nat.le_refl _, rfl, by show _ = _; rw [List.drop_of_length_le (by rw [take_len D (k + 1) (by omega)]; exact Nat.le_refl _)]; rfl⟩⟩
              case round =>
                obtain ⟨x, rfl, hx, ⟨t, ht, rfl, hv⟩ | ⟨rfl, hv⟩⟩ := hrel
                · have htD : t < D.size := by omega
                  have e1 := and127 D[t].toNat (UInt8.toNat_lt _)
                  obtain ⟨d, hd⟩ : ∃ d : Nat, D[t].toNat % 128 = d := ⟨_, rfl⟩
                  rw [hd] at e1
                  have hd128 : d < 128 := by omega
                  have hn := val_drop D k t ht hlt
                  rw [hd, ← hv.out] at hn
                  have hb63 : x * 128 + d ≤ 9223372036854775807 := by
                    have h1 := val_drop_lt D k t ht hlt
                    rw [← hv.out] at h1
                    have h2 : (128 : Nat) ^ (k - t) ≤ 128 ^ 8 := Nat.pow_le_pow_right (by decide) (by omega)
                    have h8 : (128 : Nat) ^ 8 = 72057594037927936 := by decide
                    omega
                  have HN := Lib.hid hn
                  clear hn hd
                  go_wp2_with fail
                  go_round
                  case rel =>
                    refine ⟨x * 128 + d, by go_num, hb63, ?_⟩
                    cases t with
                    | zero => exact Or.inr ⟨rfl, by show _ = _; have := HN.out; rw [List.drop_zero] at this; rw [this]; omega⟩
                    | succ t => exact Or.inl ⟨t, by omega, by go_num, by show _ = _; rw [HN.out]; omega⟩
                  case measure => simp [intOf]
                · have HX : Hid (x = val (D.data.toList.take (k + 1))) := hv
                  go_wp2_with fail
                  go_ret
                  rw [HP.out]
                  exact ⟨congrArg (fun n : Nat => Ending.returned (.int .i64 n)) HX.out, HF.out, grown_set _ _ _ _⟩
    · obtain rfl : k = D.size := by omega
      have HP := Lib.hid (numP_over (f := f) hval.out (Or.inl rfl))
      go_wp2_with (go_at_call 45; refine (failR_any HH.out).mono ?_; rintro e w1 ⟨rfl, h1, h2⟩)
      go_ret
      rw [HP.out]
      exact ⟨rfl, h1, h2⟩
end Go.Proofs.Ytbaddpkeaealpaa
