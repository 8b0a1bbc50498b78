/- The checksum, package sum's and the reference's. -/
import Derived.Test.YtddcephegpmbbaaDoorCrcPure
import Derived.Test.YtddcephegpmbbaaDoorRot
namespace Go.Proofs.YtddcephegpmbbaaDoor
open Go.ChangeShapes Go.WideShapes Go.ChangeAt Go.RowKit

/-- The bytes as numbers. -/
def nats (l : List UInt8) : List Nat := l.map UInt8.toNat
theorem nats_lt (l : List UInt8) : ∀ b ∈ nats l, b < 256 := by
  intro b hb
  obtain ⟨c, _, rfl⟩ := List.mem_map.1 hb
  exact c.toNat_lt
theorem V_nat {c : Nat} (h : c < 4294967296) : (c : Int) = V (UInt32.ofNat c) := (V_ofNat c h).symm
theorem xor_nat {a b : Nat} (ha : a < 4294967296) (hb : b < 4294967296) : bits .xor .u32 (a : Int) (b : Int) = ((a ^^^ b : Nat) : Int) := by
  rw [V_nat ha, V_nat hb, xor_V]
  unfold V
  rw [UInt32.toNat_xor, UInt32.toNat_ofNat', UInt32.toNat_ofNat', Nat.mod_eq_of_lt ha, Nat.mod_eq_of_lt hb]
theorem and_one (c : Nat) (h : c < 4294967296) : bits .and .u32 (c : Int) 1 = ((c % 2 : Nat) : Int) := by
  have := bits_mask .u32 32 (by decide) (fun m g0 g1 => by rw [IntKind.wrap_u32]; omega) 1 (by decide) (c : Int) (by omega) (by omega)
  have e : ((2 : Int) ^ 1 - 1) = 1 := by decide
  rw [e] at this
  rw [this]; omega
theorem nats_take (s : ByteArray) (k : Nat) (h : k < s.size) : nats (s.data.toList.take (k + 1)) = nats (s.data.toList.take k) ++ [s[k].toNat] := by
  have : s.data.toList.take (k + 1) = s.data.toList.take k ++ [s[k]] := by
    rw [List.take_succ_eq_append_getElem (by simpa using h)]; rfl
  rw [this]; unfold nats
  rw [List.map_append]; rfl
theorem fold_take (s : ByteArray) (k : Nat) (h : k < s.size) (c : Nat) : crcFold c (nats (s.data.toList.take (k + 1))) = crcByte (crcFold c (nats (s.data.toList.take k))) s[k].toNat := by
  rw [nats_take s k h, fold_append]; rfl

theorem crc_any (s : ByteArray) (hs : s.size ≤ 9223372036854775807) (w : World) :
    Calls Tryd.prog 10 #[.string s] w fun e w' => e = .returned (.int .u32 (crcL (nats s.data.toList) : Nat)) ∧ w = w' := by
  go_enter Tryd.func10, Tryd.ntmps10
  go_wp2
  go_loop [3, 8] (fun r i => ∃ k c : Nat, k ≤ s.size ∧ i = .int .i64 k ∧ r = .int .u32 c ∧ c < 4294967296 ∧ Hid (c = crcFold 4294967295 (nats (s.data.toList.take k)))) (fun _ i => s.size - (intOf i).toNat)
  case atStart => exact ⟨0, 4294967295, Nat.zero_le _, rfl, rfl, by decide, rfl⟩
  case round =>
    obtain ⟨k, c, hk, rfl, rfl, hc, H⟩ := hrel
    by_cases hlt : k < s.size
    · have hb := s[k].toNat_lt
      have hx := xor_nat hc (show s[k].toNat < 4294967296 by omega)
      have hx2 : c ^^^ s[k].toNat < 4294967296 := xor_lt32 hc (by omega)
      obtain ⟨d, hd⟩ : ∃ d, c ^^^ s[k].toNat = d := ⟨_, rfl⟩
      have HD : Hid (crcSteps 8 d = crcFold 4294967295 (nats (s.data.toList.take (k + 1)))) := by
        rw [fold_take s k hlt, ← H.out, ← hd]; rfl
      rw [hd] at hx hx2
      clear hd H
      go_wp2
      go_loop [3, 17] (fun r i => ∃ j c : Nat, j ≤ 8 ∧ i = .int .i64 j ∧ r = .int .u32 c ∧ c < 4294967296 ∧ Hid (crcSteps (8 - j) c = crcSteps 8 d)) (fun _ i => 8 - (intOf i).toNat)
      case atStart => exact ⟨0, d, Nat.zero_le _, rfl, rfl, hx2, rfl⟩
      case round =>
        obtain ⟨j, e, hj, rfl, rfl, he, HE⟩ := hrel
        by_cases hj8 : j < 8
        · have HE2 : Hid (crcSteps (8 - (j + 1)) (crcStep e) = crcSteps 8 d) := by
            have := HE.out
            rw [show 8 - j = (8 - (j + 1)) + 1 by omega, crcSteps] at this
            exact this
          clear HE
          have ha := and_one e he
          obtain ⟨f, hf⟩ : ∃ f, e / 2 = f := ⟨_, rfl⟩
          have hq : (e : Int) / 2 = (f : Int) := by omega
          have hq2 : f < 4294967296 := by omega
          have hxx : bits .xor .u32 (f : Int) 2197175160 = ((f ^^^ 2197175160 : Nat) : Int) := xor_nat hq2 (show 2197175160 < 4294967296 by decide)
          have hxl : f ^^^ 2197175160 < 4294967296 := xor_lt32 hq2 (by decide)
          by_cases ho : e % 2 = 1
          · have hst : crcStep e = f ^^^ 2197175160 := by rw [crcStep, if_pos ho, hf]
            rw [ho] at ha
            have HS := Lib.hid hst
            clear hst ho hf
            go_wp2
            go_round
            case rel => exact ⟨j + 1, _, by omega, by go_num, rfl, hxl, by rw [← HS.out]; exact HE2⟩
            case measure => simp [intOf]; omega
          · have hst : crcStep e = f := by rw [crcStep, if_neg ho, hf]
            rw [show e % 2 = 0 by omega] at ha
            have HS := Lib.hid hst
            clear hst ho hf
            go_wp2
            go_round
            case rel => exact ⟨j + 1, _, by omega, by go_num, rfl, hq2, by rw [← HS.out]; exact HE2⟩
            case measure => simp [intOf]; omega
        · obtain rfl : j = 8 := by omega
          have HE2 : Hid (e = crcFold 4294967295 (nats (s.data.toList.take (k + 1)))) := by
            rw [← HD.out]; exact HE.out
          clear HE HD
          go_wp2
          go_round
          case rel => exact ⟨k + 1, _, by omega, by go_num, rfl, he, HE2⟩
          case measure => simp [intOf]; omega
    · have HE : Hid (crcL (nats s.data.toList) = c ^^^ 4294967295) := by
        rw [H.out, List.take_of_length_le (by simp; omega)]; rfl
      have hx := xor_nat hc (show 4294967295 < 4294967296 by decide)
      have hx' : bits .xor .u32 4294967295 (c : Int) = ((c ^^^ 4294967295 : Nat) : Int) := by
        rw [← hx]; simp only [bits, BitVec.xor_comm]; rfl
      clear H
      go_wp2
      go_ret
      refine ⟨ret_u32 ?_, rfl⟩
      rw [HE.out]
      first | rfl | exact hx | exact hx'

theorem crcR_any (s : ByteArray) (hs : s.size ≤ 9223372036854775807) (w : World) :
    Calls Tryd.prog 11 #[.string s] w fun e w' => e = .returned (.int .u32 (crcL (nats s.data.toList) : Nat)) ∧ w = w' := by
  go_enter Tryd.func11, Tryd.ntmps11
  go_wp2
  go_loop [3, 4] (fun r i => ∃ k c : Nat, k ≤ s.size ∧ i = .int .i64 k ∧ r = .int .u32 c ∧ c < 4294967296 ∧ Hid (c = crcFold 4294967295 (nats (s.data.toList.take k)))) (fun _ i => s.size - (intOf i).toNat)
  case atStart => exact ⟨0, 4294967295, Nat.zero_le _, rfl, rfl, by decide, rfl⟩
  case round =>
    obtain ⟨k, c, hk, rfl, rfl, hc, H⟩ := hrel
    by_cases hlt : k < s.size
    · have hb := s[k].toNat_lt
      have hx := xor_nat hc (show s[k].toNat < 4294967296 by omega)
      have hx2 : c ^^^ s[k].toNat < 4294967296 := xor_lt32 hc (by omega)
      obtain ⟨d, hd⟩ : ∃ d, c ^^^ s[k].toNat = d := ⟨_, rfl⟩
      have HD : Hid (crcSteps 8 d = crcFold 4294967295 (nats (s.data.toList.take (k + 1)))) := by
        rw [fold_take s k hlt, ← H.out, ← hd]; rfl
      rw [hd] at hx hx2
      clear hd H
      go_wp2
      go_loop [3, 5] (fun r i => ∃ j c : Nat, j ≤ 8 ∧ i = .int .i64 j ∧ r = .int .u32 c ∧ c < 4294967296 ∧ Hid (crcSteps (8 - j) c = crcSteps 8 d)) (fun _ i => 8 - (intOf i).toNat)
      case atStart => exact ⟨0, d, Nat.zero_le _, rfl, rfl, hx2, rfl⟩
      case round =>
        obtain ⟨j, e, hj, rfl, rfl, he, HE⟩ := hrel
        by_cases hj8 : j < 8
        · have HE2 : Hid (crcSteps (8 - (j + 1)) (crcStep e) = crcSteps 8 d) := by
            have := HE.out
            rw [show 8 - j = (8 - (j + 1)) + 1 by omega, crcSteps] at this
            exact this
          clear HE
          obtain ⟨f, hf⟩ : ∃ f, e / 2 = f := ⟨_, rfl⟩
          have hq : (e : Int) / 2 = (f : Int) := by omega
          have hq2 : f < 4294967296 := by omega
          have hxx : bits .xor .u32 (f : Int) 2197175160 = ((f ^^^ 2197175160 : Nat) : Int) := xor_nat hq2 (show 2197175160 < 4294967296 by decide)
          have hxl : f ^^^ 2197175160 < 4294967296 := xor_lt32 hq2 (by decide)
          by_cases ho : e % 2 = 1
          · have hst : crcStep e = f ^^^ 2197175160 := by rw [crcStep, if_pos ho, hf]
            have ha : (e : Int) % 2 = 1 := by omega
            have HS := Lib.hid hst
            clear hst ho hf
            go_wp2
            go_round
            case rel => exact ⟨j + 1, _, by omega, by go_num, rfl, hxl, by rw [← HS.out]; exact HE2⟩
            case measure => simp [intOf]; omega
          · have hst : crcStep e = f := by rw [crcStep, if_neg ho, hf]
            have ha : (e : Int) % 2 = 0 := by omega
            have HS := Lib.hid hst
            clear hst ho hf
            go_wp2
            go_round
            case rel => exact ⟨j + 1, _, by omega, by go_num, rfl, hq2, by rw [← HS.out]; exact HE2⟩
            case measure => simp [intOf]; omega
        · obtain rfl : j = 8 := by omega
          have HE2 : Hid (e = crcFold 4294967295 (nats (s.data.toList.take (k + 1)))) := by
            rw [← HD.out]; exact HE.out
          clear HE HD
          go_wp2
          go_round
          case rel => exact ⟨k + 1, _, by omega, by go_num, rfl, he, HE2⟩
          case measure => simp [intOf]; omega
    · have HE : Hid (crcL (nats s.data.toList) = c ^^^ 4294967295) := by
        rw [H.out, List.take_of_length_le (by simp; omega)]; rfl
      have hx : bits .xor .u32 (c : Int) 4294967295 = ((c ^^^ 4294967295 : Nat) : Int) := xor_nat hc (show 4294967295 < 4294967296 by decide)
      clear H
      go_wp2
      go_ret
      refine ⟨ret_u32 ?_, rfl⟩
      rw [HE.out]
end Go.Proofs.YtddcephegpmbbaaDoor
