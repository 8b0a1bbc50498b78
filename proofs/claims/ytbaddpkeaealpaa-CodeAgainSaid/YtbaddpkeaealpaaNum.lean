/- Reader.Num. -/
import Derived.Test.YtbaddpkeaealpaaMem
import Derived.Deep.DeepCutAuto
import Derived.Laws.Bits128
namespace Go.Proofs.Ytbaddpkeaealpaa
open Go.ChangeShapes Go.WideShapes Go.ChangeAt Go.RowKit

theorem and127 : ∀ c : Nat, c < 256 → bits .and .u8 (c : Int) 127 = ((c % 128 : Nat) : Int) := by
  intro c hc
  have := bits_mask .u8 8 (by decide) wraps_u8 7 (by decide) (c : Int) (by omega) (by omega)
  have e : ((2 : Int) ^ 7 - 1) = 127 := by decide
  rw [e] at this
  rw [this]; omega
theorem or_high (k : Nat) (hk : k < 9) (x d : Nat) (hx : x < 128 ^ k) (hd : d < 128) : bits .or .i64 (x : Int) ((d * 128 ^ k : Nat) : Int) = ((x + d * 128 ^ k : Nat) : Int) ∧ x + d * 128 ^ k < 9223372036854775808 := by
  have h128 : (128 : Nat) ^ k = 2 ^ (7 * k) := by rw [Nat.pow_mul]
  have hle : (128 : Nat) ^ k ≤ 128 ^ 8 := Nat.pow_le_pow_right (by decide) (by omega)
  have h8 : (128 : Nat) ^ 8 = 72057594037927936 := by decide
  have hy : d * 128 ^ k ≤ 127 * 128 ^ 8 := Nat.mul_le_mul (by omega) hle
  have hs : x + d * 128 ^ k < 128 * 128 ^ k := by
    have : d * 128 ^ k ≤ 127 * 128 ^ k := Nat.mul_le_mul_right _ (by omega)
    omega
  refine ⟨?_, by omega⟩
  have hc : bits .or .i64 (x : Int) ((d * 128 ^ k : Nat) : Int) = bits .or .i64 ((d * 128 ^ k : Nat) : Int) (x : Int) := by simp only [bits, BitVec.or_comm]
  have e63 : (2 : Int) ^ 63 = 9223372036854775808 := by decide
  have hw : ∀ n : Int, 0 ≤ n → n < 2 ^ 63 → IntKind.i64.wrap n = n := fun n h0 h1 => IntWalk.i64_in _ (by omega)
  have hm : ((d * 128 ^ k : Nat) : Int) % 2 ^ (7 * k) = 0 := by
    have : ((2 : Int) ^ (7 * k)) = ((128 ^ k : Nat) : Int) := by rw [h128]; simp
    rw [this, ← Int.natCast_emod, Nat.mul_mod_left]; rfl
  have hx' : (x : Int) < 2 ^ (7 * k) := by
    have : ((2 : Int) ^ (7 * k)) = ((128 ^ k : Nat) : Int) := by rw [h128]; simp
    rw [this]; omega
  rw [hc, bits_join .i64 63 (by decide) hw (7 * k) _ _ (by omega) hm (by omega) (by omega) hx' (by omega)]
  omega
theorem shl_is (k : Nat) (hk : k < 9) (d : Nat) (hd : d < 128) : wrap64 ((d : Int) * 2 ^ (7 * k)) = ((d * 128 ^ k : Nat) : Int) := by
  have h128 : (128 : Nat) ^ k = 2 ^ (7 * k) := by rw [Nat.pow_mul]
  have hle : (128 : Nat) ^ k ≤ 128 ^ 8 := Nat.pow_le_pow_right (by decide) (by omega)
  have h8 : (128 : Nat) ^ 8 = 72057594037927936 := by decide
  have hy : d * 128 ^ k ≤ 127 * 128 ^ 8 := Nat.mul_le_mul (by omega) hle
  have e : (d : Int) * 2 ^ (7 * k) = ((d * 128 ^ k : Nat) : Int) := by
    rw [h128, Int.natCast_mul]; simp
  rw [e]
  generalize d * 128 ^ k = q at *
  exact IntWalk.wrap64_in _ (by omega)
theorem take_at (D : ByteArray) (k : Nat) (h : k < D.size) : D.data.toList.take (k + 1) = D.data.toList.take k ++ [D[k]] := by
  rw [List.take_succ_eq_append_getElem (by simpa using h)]; rfl
theorem take_len (D : ByteArray) (k : Nat) (h : k ≤ D.size) : (D.data.toList.take k).length = k := by
  rw [List.length_take, Array.length_toList]; exact Nat.min_eq_left h
theorem val_at (D : ByteArray) (k : Nat) (h : k < D.size) : val (D.data.toList.take (k + 1)) = val (D.data.toList.take k) + D[k].toNat % 128 * 128 ^ k := by
  rw [take_at D k h, val_snoc, take_len D k (by omega), Nat.mul_comm]
theorem val_take_lt (D : ByteArray) (k : Nat) (h : k ≤ D.size) : val (D.data.toList.take k) < 128 ^ k := by
  have := val_lt (D.data.toList.take k)
  rwa [take_len D k h] at this
/-- All bytes before place k have their high bit set. -/
def High (D : ByteArray) (k : Nat) : Prop := ∀ j (hj : j < D.size), j < k → 128 ≤ D[j].toNat
theorem High.succ {D : ByteArray} {k : Nat} (h : High D k) (hk : k < D.size) (hb : 128 ≤ D[k].toNat) : High D (k + 1) := by
  intro j hj hlt
  rcases (show j < k ∨ j = k by omega) with h1 | rfl
  · exact h j hj h1
  · exact hb
theorem numP_ok {D : ByteArray} {f : Bool} {k : Nat} (hk : k < D.size) (h9 : k < 9) (h : High D k) (hs : D[k].toNat < 128) (hz : D[k].toNat ≠ 0 ∨ k = 0) : numP (D.data.toList, f) = (val (D.data.toList.take (k + 1)), (D.data.toList.drop (k + 1), f)) :=
  numP_some (nextN_ok (l := D.data.toList) (i := k) (by simpa using hk) h9 (fun j hj => h j (by omega) hj) hs hz)
theorem numP_zero {D : ByteArray} {f : Bool} {k : Nat} (hk : k < D.size) (h : High D k) (hs : D[k].toNat = 0) (hz : 0 < k) : numP (D.data.toList, f) = (0, bad) :=
  numP_none (nextN_zero (l := D.data.toList) (i := k) (by simpa using hk) (fun j hj => h j (by omega) hj) hs hz)
theorem numP_over {D : ByteArray} {f : Bool} {k : Nat} (h : High D k) (hk : k = D.size ∨ 9 ≤ k) : numP (D.data.toList, f) = (0, bad) :=
  numP_none (nextN_over (l := D.data.toList) (fun j hj h9 => h j (by simpa using hj) (by simp at hj; omega)))

set_option maxRecDepth 100000 in
theorem num_any {b : Nat} {s : RS} {w : World} (h : Rd 57 w b s) :
    Calls Try.prog 21 #[.pointer (some ⟨b, 0, none⟩)] w fun e w' => e = .returned (.int .i64 (numP s).1) ∧ Rd 57 w' b (numP s).2 ∧ w.grownBy w' (some b) := by
  obtain ⟨D, f, rfl⟩ := state_of s
  have c0 := h.cellD
  have f0 := h.frozen 0
  have HH := Lib.hid h
  clear h
  obtain ⟨m, hm0, hm1, hm2⟩ : ∃ m : Nat, m ≤ D.size ∧ m ≤ 9 ∧ Hid (m = D.size ∨ m = 9) := by
    by_cases h9 : D.size ≤ 9
    · exact ⟨D.size, Nat.le_refl _, h9, Or.inl rfl⟩
    · exact ⟨9, by omega, Nat.le_refl _, Or.inr rfl⟩
  go_enter Try.func21, Try.ntmps21
  go_upto_region 2 with fail
  go_cut [11, 12] (fun x y wx => x = .int .i64 m ∧ y = .int .i64 0 ∧ w = wx)
  case first =>
    by_cases h9 : D.size ≤ 9
    · have h9' : (D.size : Int) ≤ 9 := by omega
      have HE : Hid (m = D.size) := by have := hm2.out; show m = D.size; omega
      go_wp2_with fail
      go_meet
      exact ⟨by rw [HE.out], rfl, rfl⟩
    · have h9' : ¬ (D.size : Int) ≤ 9 := by omega
      have HE : Hid (m = 9) := by have := hm2.out; show m = 9; omega
      go_wp2_with fail
      go_meet
      exact ⟨by rw [HE.out]; rfl, rfl, rfl⟩
  case rest =>
    obtain ⟨rfl, rfl, rfl⟩ := hcut
    go_wp2_with fail
    go_loop [3, 12] (fun n i => ∃ k x : Nat, k ≤ m ∧ i = .int .i64 k ∧ n = .int .i64 x ∧ Hid (x = val (D.data.toList.take k) ∧ High D k))
      (fun _ i => m - (intOf i).toNat)
    case atStart => exact ⟨0, 0, Nat.zero_le _, rfl, rfl, rfl, by intro j hj h; omega⟩
    case round =>
      obtain ⟨k, x, hk, rfl, rfl, hval⟩ := hrel
      by_cases hlt : k < m
      · have hkD : k < D.size := by omega
        have hk9 : k < 9 := by omega
        obtain ⟨d, hd⟩ : ∃ d : Nat, D[k].toNat % 128 = d := ⟨_, rfl⟩
        have hd128 : d < 128 := by omega
        have e1 := and127 D[k].toNat (UInt8.toNat_lt _)
        rw [hd] at e1
        have e2 := shl_is k hk9 d hd128
        obtain ⟨e3, hz⟩ := or_high k hk9 x d (by rw [hval.out.1]; exact val_take_lt D k (by omega)) hd128
        have HV : Hid (x + d * 128 ^ k = val (D.data.toList.take (k + 1))) := by
          show _ = _
          rw [val_at D k hkD, hd, ← hval.out.1]
        obtain ⟨y, hy⟩ : ∃ y : Nat, d * 128 ^ k = y := ⟨_, rfl⟩
        rw [hy] at e2 e3 HV hz
        obtain ⟨z, hz'⟩ : ∃ z : Nat, x + y = z := ⟨_, rfl⟩
        rw [hz'] at e3 HV hz
        clear hy hz' hd
        by_cases hb : 128 ≤ D[k].toNat
        · have hb' : (128 : Int) ≤ (D[k].toNat : Int) := by omega
          go_wp2_with fail
          go_round
          case rel => exact ⟨k + 1, z, by omega, by go_num, rfl, HV.out, hval.out.2.succ hkD hb⟩
          case measure => simp [intOf]; omega
        · have hb' : ¬ (128 : Int) ≤ (D[k].toNat : Int) := by omega
          by_cases h0 : D[k].toNat = 0 ∧ 0 < k
          · have hq : ((D[k].toNat : Int) == 0) = true := beq_iff_eq.2 (by omega)
            have hk0 : (0 : Int) < (k : Int) := by omega
            have HP := Lib.hid (numP_zero (f := f) hkD hval.out.2 h0.1 h0.2)
            clear h0 hb
            go_wp2_with (go_at_call 44; refine (fail_any HH.out).mono ?_; rintro e w1 ⟨rfl, h1, h2⟩)
            go_ret
            rw [HP.out]
            exact ⟨rfl, h1, h2⟩
          · have HP := Lib.hid (numP_ok (f := f) hkD hk9 hval.out.2 (by omega) (by omega))
            have HL : Hid (D.data.toList.length = D.size) := by show _ = _; rw [Array.length_toList]; rfl
            have hfin : Rd 57 (w.setCell ⟨b, 0, none⟩ (.string (D.extract (k + 1) D.size))) b (D.data.toList.drop (k + 1), f) := by
              have := HH.out.set0 (D.data.toList.drop (k + 1))
              rw [ext, List.take_of_length_le (by rw [List.length_drop, HL.out]; exact Nat.le_refl _)]
              exact this
            have HF := Lib.hid hfin
            clear hfin
            by_cases hq0 : D[k].toNat = 0
            · have hq : ((D[k].toNat : Int) == 0) = true := beq_iff_eq.2 (by omega)
              have hk0 : ¬ (0 : Int) < (k : Int) := by omega
              clear h0 hb hq0
              go_wp2_with fail
              go_ret
              rw [HP.out]
              exact ⟨congrArg (fun n : Nat => Ending.returned (.int .i64 n)) HV.out, HF.out, grown_set _ _ _ _⟩
            · have hq : ((D[k].toNat : Int) == 0) = false := beq_eq_false_iff_ne.2 (by omega)
              clear h0 hb hq0
              go_wp2_with fail
              go_ret
              rw [HP.out]
              exact ⟨congrArg (fun n : Nat => Ending.returned (.int .i64 n)) HV.out, HF.out, grown_set _ _ _ _⟩
      · obtain rfl : k = m := by omega
        have HP := Lib.hid (numP_over (f := f) hval.out.2 (by have := hm2.out; omega))
        go_wp2_with (go_at_call 44; refine (fail_any HH.out).mono ?_; rintro e w1 ⟨rfl, h1, h2⟩)
        go_ret
        rw [HP.out]
        exact ⟨rfl, h1, h2⟩
end Go.Proofs.Ytbaddpkeaealpaa
