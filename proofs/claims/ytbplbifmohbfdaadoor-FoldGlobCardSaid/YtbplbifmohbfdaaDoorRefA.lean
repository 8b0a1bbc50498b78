/- The reference's Rune and length: a unit's code point, how long the unit is. -/
import Derived.Test.YtbplbifmohbfdaaDoorPieces
import Derived.Test.YtbplbifmohbfdaaDoorRefP
namespace Go.Proofs.YtbplbifmohbfdaaDoor
open Go.ChangeShapes Go.WideShapes Go.ChangeAt Go.RowKit

theorem u8_and63 (x : Nat) (_h : x < 256) : bits .and .u8 (x : Int) 63 = ((x % 64 : Nat) : Int) := by
  have key : (BitVec.ofInt 8 (x : Int) &&& BitVec.ofInt 8 63).toNat = x % 64 := by
    have h63 : (BitVec.ofInt 8 63).toNat = 2 ^ 6 - 1 := by decide
    rw [BitVec.toNat_and, BitVec.toNat_ofInt, h63, Nat.and_two_pow_sub_one_eq_mod]
    omega
  show IntKind.u8.wrap ((BitVec.ofInt 8 (x : Int) &&& BitVec.ofInt 8 63).toNat : Nat) = _
  rw [key, IntKind.wrap_u8]
  omega
theorem i64_andM (x : Nat) (h : x < 256) (k m : Nat) (hm : (BitVec.ofInt 64 (m : Int)).toNat = 2 ^ k - 1) (_hk : k < 10) : bits .and .i64 (x : Int) (m : Int) = ((x % 2 ^ k : Nat) : Int) := by
  have hx : x % 2 ^ k ≤ x := Nat.mod_le _ _
  have key : (BitVec.ofInt 64 (x : Int) &&& BitVec.ofInt 64 (m : Int)).toNat = x % 2 ^ k := by
    rw [BitVec.toNat_and, BitVec.toNat_ofInt, hm, Nat.and_two_pow_sub_one_eq_mod]
    congr 1
    omega
  show IntKind.i64.wrap ((BitVec.ofInt 64 (x : Int) &&& BitVec.ofInt 64 (m : Int)).toNat : Nat) = _
  rw [key, IntKind.wrap_i64]
  omega
theorem i64_and31 (x : Nat) (h : x < 256) : bits .and .i64 (x : Int) 31 = ((x % 32 : Nat) : Int) := i64_andM x h 5 31 (by decide) (by decide)
theorem i64_and15 (x : Nat) (h : x < 256) : bits .and .i64 (x : Int) 15 = ((x % 16 : Nat) : Int) := i64_andM x h 4 15 (by decide) (by decide)
theorem i64_and7 (x : Nat) (h : x < 256) : bits .and .i64 (x : Int) 7 = ((x % 8 : Nat) : Int) := i64_andM x h 3 7 (by decide) (by decide)
theorem valR_step {l : List UInt8} {k r : Nat} (h : k < l.length) : valR r (l.drop k) = valR (r * 64 + l[k].toNat % 64) (l.drop (k + 1)) := by
  rw [List.drop_eq_getElem_cons h]
  rfl
theorem runeR_one {l : List UInt8} (hl : l.length = 1) (h0 : 0 < l.length) : runeR l = l[0].toNat := by
  match l, hl with
  | [b], _ => rfl
theorem runeR_many {l : List UInt8} {n : Nat} (hn : l.length = n) (h : 2 ≤ n) (h0 : 0 < l.length) : runeR l = valR (leadR l[0].toNat n) (l.drop 1) := by
  match l, hn, h0 with
  | [], _, h0 => simp at h0
  | [_], hn, _ => simp at hn; omega
  | b :: c :: t, hn, _ =>
    simp only [List.length_cons] at hn
    subst hn
    rfl
set_option maxHeartbeats 1000000 in
set_option maxRecDepth 1000000 in
theorem rune_any (s : ByteArray) (h1 : 1 ≤ s.size) (h4 : s.size ≤ 4) (w : World) :
    Calls Tryd.prog 28 #[.string s] w fun e w' => e = .returned (.int .i64 (runeR s.data.toList : Nat)) ∧ w = w' := by
  have hb0 := byte_at s 0 h1
  have hq0 : ∀ W, (Instr.index 9 (.string s) (.int .i64 0)).run Tryd.prog W = .ok (.int .u8 (s[0].toNat : Int)) W := fun W => run_index_str s 0 0 rfl h1 W
  have hx0 := UInt8.toNat_lt s[0]
  by_cases h2 : s.size = 1
  · have hl : s.data.toList.length = 1 := by rw [← size_list]; exact h2
    have e : runeR s.data.toList = s[0].toNat := by
      rw [← hb0]
      exact runeR_one hl _
    rw [e]
    clear e hl hb0
    generalize s[0].toNat = x at hq0 hx0
    go_enter Tryd.func28, Tryd.ntmps28
    go_wp2_with fail
    go_ret
    exact ⟨rfl, rfl⟩
  · have hl : s.data.toList.length = s.size := (size_list s).symm
    have hR := runeR_many hl (by omega) (by omega)
    rw [hb0] at hR
    rw [hR]
    have a1 := i64_and31 _ hx0
    have a2 := i64_and15 _ hx0
    have a3 := i64_and7 _ hx0
    have hlead : leadR s[0].toNat s.size < 32 := by
      unfold leadR
      split
      · omega
      · split <;> omega
    have hlq : ∀ k (hk : k < s.size) W, (Instr.index 9 (.string s) (.int .i64 k)).run Tryd.prog W = .ok (.int .u8 (s[k].toNat : Int)) W := fun k hk W => run_index_str s k k rfl hk W
    have hst : ∀ k r (hk : k < s.size), valR r (s.data.toList.drop k) = valR (r * 64 + s[k].toNat % 64) (s.data.toList.drop (k + 1)) := fun k r hk => by rw [valR_step (by omega), byte_at s k hk]
    have hend : ∀ r, valR r (s.data.toList.drop s.size) = r := fun r => by rw [List.drop_eq_nil_of_le (by omega)]; rfl
    obtain ⟨R, hRR⟩ : ∃ R, valR (leadR s[0].toNat s.size) (s.data.toList.drop 1) = R := ⟨_, rfl⟩
    rw [hRR]
    have HR := Lib.hid hRR
    have HST := Lib.hid hst
    have HE := Lib.hid hend
    have HLQ := Lib.hid hlq
    clear hR hRR hst hend hb0 hl hlq
    generalize s[0].toNat = x at hq0 hx0 a1 a2 a3 hlead HR
    have hn : s.size = 2 ∨ s.size = 3 ∨ s.size = 4 := by omega
    have sh1 : (255 : Int) / 2 ^ (3 : Int).toNat = 31 := by decide
    have sh2 : (255 : Int) / 2 ^ (4 : Int).toNat = 15 := by decide
    have sh3 : (255 : Int) / 2 ^ (5 : Int).toNat = 7 := by decide
    rcases hn with hz | hz | hz
    · rw [hz] at HR hlead
      have el : leadR x 2 = x % 32 := rfl
      rw [el] at HR
      clear el hlead
      go_enter Tryd.func28, Tryd.ntmps28
      go_wp2_with fail
      go_loopw [3, 4] (fun r i wr => wr = w ∧ ∃ (k rr : Nat), i = .int .i64 k ∧ r = .int .i64 rr ∧ k ≤ 2 ∧ (k = 1 ∧ rr < 32 ∨ k = 2 ∧ rr < 2048 ∨ k = 3 ∧ rr < 131072 ∨ k = 4 ∧ rr < 8388608) ∧ Hid (valR rr (s.data.toList.drop k) = R)) (fun _ i _ => 2 - (intOf i).toNat)
      case atStart => exact ⟨rfl, 1, x % 32, rfl, rfl, by omega, by omega, HR⟩
      case round =>
        obtain ⟨rfl, k, rr, rfl, rfl, hk, hb, HK⟩ := hrel
        by_cases hlt : k < 2
        · have hks : k < s.size := by omega
          have hq := HLQ.out k hks
          have hs := HST.out k rr hks
          rw [HK.out] at hs
          have hy := UInt8.toNat_lt s[k]
          have b1 := u8_and63 _ hy
          generalize s[k].toNat = y at hq hs hy b1
          have hr2 : rr * 64 + y % 64 < 8388608 := by omega
          replace hs := Lib.hid hs
          clear a1 a2 a3 hq0 hx0
          go_wp2_with fail
          go_roundw
          case rel => exact ⟨trivial, k + 1, rr * 64 + y % 64, rfl, by go_num, by omega, by omega, Lib.hid hs.out.symm⟩
          case measure => simp only [intOf]; omega
        · obtain rfl : k = 2 := by omega
          have hR : rr = R := by
            have := HK.out
            rw [← hz, HE.out] at this
            exact this
          subst hR
          go_wp2_with fail
          go_ret
          exact ⟨rfl, rfl⟩
    · rw [hz] at HR hlead
      have el : leadR x 3 = x % 16 := rfl
      rw [el] at HR
      clear el hlead
      go_enter Tryd.func28, Tryd.ntmps28
      go_wp2_with fail
      go_loopw [3, 4] (fun r i wr => wr = w ∧ ∃ (k rr : Nat), i = .int .i64 k ∧ r = .int .i64 rr ∧ k ≤ 3 ∧ (k = 1 ∧ rr < 32 ∨ k = 2 ∧ rr < 2048 ∨ k = 3 ∧ rr < 131072 ∨ k = 4 ∧ rr < 8388608) ∧ Hid (valR rr (s.data.toList.drop k) = R)) (fun _ i _ => 3 - (intOf i).toNat)
      case atStart => exact ⟨rfl, 1, x % 16, rfl, rfl, by omega, by omega, HR⟩
      case round =>
        obtain ⟨rfl, k, rr, rfl, rfl, hk, hb, HK⟩ := hrel
        by_cases hlt : k < 3
        · have hks : k < s.size := by omega
          have hq := HLQ.out k hks
          have hs := HST.out k rr hks
          rw [HK.out] at hs
          have hy := UInt8.toNat_lt s[k]
          have b1 := u8_and63 _ hy
          generalize s[k].toNat = y at hq hs hy b1
          have hr2 : rr * 64 + y % 64 < 8388608 := by omega
          replace hs := Lib.hid hs
          clear a1 a2 a3 hq0 hx0
          go_wp2_with fail
          go_roundw
          case rel => exact ⟨trivial, k + 1, rr * 64 + y % 64, rfl, by go_num, by omega, by omega, Lib.hid hs.out.symm⟩
          case measure => simp only [intOf]; omega
        · obtain rfl : k = 3 := by omega
          have hR : rr = R := by
            have := HK.out
            rw [← hz, HE.out] at this
            exact this
          subst hR
          go_wp2_with fail
          go_ret
          exact ⟨rfl, rfl⟩
    · rw [hz] at HR hlead
      have el : leadR x 4 = x % 8 := rfl
      rw [el] at HR
      clear el hlead
      go_enter Tryd.func28, Tryd.ntmps28
      go_wp2_with fail
      go_loopw [3, 4] (fun r i wr => wr = w ∧ ∃ (k rr : Nat), i = .int .i64 k ∧ r = .int .i64 rr ∧ k ≤ 4 ∧ (k = 1 ∧ rr < 32 ∨ k = 2 ∧ rr < 2048 ∨ k = 3 ∧ rr < 131072 ∨ k = 4 ∧ rr < 8388608) ∧ Hid (valR rr (s.data.toList.drop k) = R)) (fun _ i _ => 4 - (intOf i).toNat)
      case atStart => exact ⟨rfl, 1, x % 8, rfl, rfl, by omega, by omega, HR⟩
      case round =>
        obtain ⟨rfl, k, rr, rfl, rfl, hk, hb, HK⟩ := hrel
        by_cases hlt : k < 4
        · have hks : k < s.size := by omega
          have hq := HLQ.out k hks
          have hs := HST.out k rr hks
          rw [HK.out] at hs
          have hy := UInt8.toNat_lt s[k]
          have b1 := u8_and63 _ hy
          generalize s[k].toNat = y at hq hs hy b1
          have hr2 : rr * 64 + y % 64 < 8388608 := by omega
          replace hs := Lib.hid hs
          clear a1 a2 a3 hq0 hx0
          go_wp2_with fail
          go_roundw
          case rel => exact ⟨trivial, k + 1, rr * 64 + y % 64, rfl, by go_num, by omega, by omega, Lib.hid hs.out.symm⟩
          case measure => simp only [intOf]; omega
        · obtain rfl : k = 4 := by omega
          have hR : rr = R := by
            have := HK.out
            rw [← hz, HE.out] at this
            exact this
          subst hR
          go_wp2_with fail
          go_ret
          exact ⟨rfl, rfl⟩
theorem run_slice_str (s : ByteArray) (p q : Nat) (x : Int) (hx : x = q) (h : p ≤ q) (h2 : q ≤ s.size) (W : World) :
    (Instr.slice 9 (.string s) (some (.int .i64 p)) (some (.int .i64 x)) none).run Tryd.prog W = .ok (.string (s.extract p q)) W := by
  subst hx
  go_simp
theorem head_drop (s : ByteArray) (p : Nat) (hp : p < s.size) : (s.data.toList.drop p).headD 0 = s[p] := by
  rw [List.drop_eq_getElem_cons (by rw [← size_list]; exact hp), List.headD_cons]
  rfl
theorem drop_at (s : ByteArray) (p j : Nat) (h : p + j < s.size) (h2 : j < (s.data.toList.drop p).length) : (s.data.toList.drop p)[j] = s[p + j] := by
  rw [List.getElem_drop]
  rfl
theorem all_take (l : List UInt8) (n : Nat) (hn : n ≤ l.length) : ((l.take n).drop 1).all contB = true ↔ ∀ j (hj : j < l.length), 1 ≤ j → j < n → contB l[j] = true := by
  rw [List.all_eq_true]
  constructor
  · intro h j hj h1 h2
    refine h _ ?_
    rw [List.mem_iff_getElem]
    refine ⟨j - 1, by rw [List.length_drop, List.length_take]; omega, ?_⟩
    rw [List.getElem_drop, List.getElem_take]
    congr 1
    omega
  · intro h x hx
    obtain ⟨i, hi, rfl⟩ := List.mem_iff_getElem.1 hx
    rw [List.length_drop, List.length_take] at hi
    rw [List.getElem_drop, List.getElem_take]
    exact h _ (by omega) (by omega) (by omega)
theorem lenN_short {n : Nat} {l : List UInt8} (h : l.length < n) : lenN n l = 1 := by unfold lenN; rw [if_pos (.inr h)]
theorem lenN_bad {n : Nat} {l : List UInt8} (h : n ≤ l.length) (j : Nat) (hj : j < l.length) (h1 : 1 ≤ j) (h2 : j < n) (hc : contB l[j] = false) : lenN n l = 1 := by
  unfold lenN
  by_cases h3 : n = 1 ∨ l.length < n
  · rw [if_pos h3]
  · rw [if_neg h3, if_pos]
    rw [Bool.eq_false_iff]
    intro h4
    rw [(all_take l n h).1 h4 j hj h1 h2] at hc
    cases hc
theorem lenN_good {n : Nat} {l : List UInt8} (hn : n ≠ 1) (h : n ≤ l.length) (hc : ∀ j (hj : j < l.length), 1 ≤ j → j < n → contB l[j] = true) : lenN n l = if badR n (runeR (l.take n)) then 1 else n := by
  unfold lenN
  rw [if_neg (by omega), if_neg]
  rw [(all_take l n h).2 hc]
  decide
theorem cont_no {b : UInt8} (h : b.toNat < 128 ∨ 191 < b.toNat) : contB b = false := by
  rw [Bool.eq_false_iff]
  intro h2
  have := (cont_iff b).1 h2
  omega
set_option maxHeartbeats 4000000 in
set_option maxRecDepth 1000000 in
theorem length_any (s : ByteArray) (p : Nat) (hp : p < s.size) (hs : s.size ≤ 1000000) (w : World) :
    Calls Tryd.prog 24 #[.string s, .int .i64 p] w fun e w' => e = .returned (.int .i64 (lenR (s.data.toList.drop p) : Nat)) ∧ w = w' := by
  have hq0 : ∀ W, (Instr.index 9 (.string s) (.int .i64 p)).run Tryd.prog W = .ok (.int .u8 (s[p].toNat : Int)) W := fun W => run_index_str s p p rfl hp W
  have hx0 := UInt8.toNat_lt s[p]
  have hll : (s.data.toList.drop p).length = s.size - p := by rw [List.length_drop, ← size_list]
  unfold lenR
  rw [head_drop s p hp]
  have HD := Lib.hid (fun j h h2 => drop_at s p j h h2)
  obtain ⟨l, hl⟩ : ∃ l, s.data.toList.drop p = l := ⟨_, rfl⟩
  rw [hl] at hll HD ⊢
  have hT : ∀ n, p + n ≤ s.size → (s.extract p (p + n)).data.toList = l.take n := by
    intro n hn
    rw [part_of s p (p + n) (by omega) hn, strL_list, hl, show p + n - p = n by omega]
  replace hT := Lib.hid hT
  clear hl
  generalize s[p].toNat = x at hq0 hx0
  have hcl : x < 194 ∨ 245 ≤ x ∨ (194 ≤ x ∧ x < 224) ∨ (224 ≤ x ∧ x < 240) ∨ (240 ≤ x ∧ x < 245) := by omega
  rcases hcl with hc | hc | hc | hc | hc
  · have e0 : nOf x = 1 := by unfold nOf; rw [if_neg (by omega), if_neg (by omega), if_neg (by omega)]
    have e : lenN (nOf x) l = 1 := by rw [e0]; unfold lenN; rw [if_pos (.inl rfl)]
    rw [e]
    clear e e0
    have i1 : ¬ (194 : Int) ≤ (x : Int) := by omega
    have i2 : ¬ (224 : Int) ≤ (x : Int) := by omega
    have i3 : ¬ (240 : Int) ≤ (x : Int) := by omega
    go_enter Tryd.func24, Tryd.ntmps24
    go_wp2_with fail
    go_ret
    exact ⟨rfl, rfl⟩
  · have e0 : nOf x = 1 := by unfold nOf; rw [if_neg (by omega), if_neg (by omega), if_neg (by omega)]
    have e : lenN (nOf x) l = 1 := by rw [e0]; unfold lenN; rw [if_pos (.inl rfl)]
    rw [e]
    clear e e0
    have i1 : ¬ (x : Int) ≤ 223 := by omega
    have i2 : ¬ (x : Int) ≤ 239 := by omega
    have i3 : ¬ (x : Int) ≤ 244 := by omega
    go_enter Tryd.func24, Tryd.ntmps24
    go_wp2_with fail
    go_ret
    exact ⟨rfl, rfl⟩
  · have e : nOf x = 2 := by unfold nOf; rw [if_pos (by omega)]
    rw [e]
    clear e
    have i1 : (194 : Int) ≤ (x : Int) := by omega
    have i2 : (x : Int) ≤ 223 := by omega
    by_cases hf : p + 2 ≤ s.size
    · have hnl : 2 ≤ l.length := by omega
      obtain ⟨T, hTT⟩ : ∃ T, s.extract p (p + 2) = T := ⟨_, rfl⟩
      have hsl : ∀ W, (Instr.slice 9 (.string s) (some (.int .i64 p)) (some (.int .i64 ((p : Int) + 2))) none).run Tryd.prog W = .ok (.string T) W := fun W => by rw [run_slice_str s p (p + 2) _ (by omega) (by omega) hf W, hTT]
      have zT : T.data.toList = l.take 2 := by rw [← hTT]; exact hT.out 2 hf
      have zS : T.size = 2 := by rw [size_list, zT, List.length_take]; omega
      have kR := fun w => rune_any T (by omega) (by omega) w
      rw [zT] at kR
      obtain ⟨ANS, hANS⟩ : ∃ A, lenN 2 l = A := ⟨_, rfl⟩
      have HA : Hid ((∀ j (hj : j < l.length), 1 ≤ j → j < 2 → contB l[j] = false → ANS = 1) ∧ ((∀ j (hj : j < l.length), 1 ≤ j → j < 2 → contB l[j] = true) → ANS = if badR 2 (runeR (l.take 2)) then 1 else 2)) := Lib.hid ⟨fun j hj h1 h2 hc => by rw [← hANS]; exact lenN_bad hnl j hj h1 h2 hc, fun h => by rw [← hANS]; exact lenN_good (by decide) hnl h⟩
      rw [hANS]
      clear hANS zT
      generalize runeR (l.take 2) = r at kR HA
      go_enter Tryd.func24, Tryd.ntmps24
      go_wp2_with fail
      go_loopw [8] (fun i wr => wr = w ∧ ∃ k : Nat, i = .int .i64 k ∧ 1 ≤ k ∧ k ≤ 2 ∧ Hid (∀ j (hj : j < l.length), 1 ≤ j → j < k → contB l[j] = true)) (fun i _ => 2 - (intOf i).toNat)
      case atStart => exact ⟨rfl, 1, rfl, by omega, by omega, Lib.hid (fun j _ h1 h2 => by omega)⟩
      case round =>
        obtain ⟨rfl, k, rfl, hk1, hk2, HK⟩ := hrel
        by_cases hlt : k < 2
        · have hks : p + k < s.size := by omega
          have hkl : k < l.length := by omega
          have hq : ∀ W, (Instr.index 9 (.string s) (.int .i64 ((p : Int) + k))).run Tryd.prog W = .ok (.int .u8 (s[p + k].toNat : Int)) W := fun W => run_index_str s _ (p + k) (by omega) hks W
          have HB := Lib.hid (HD.out k hks hkl)
          have hy := UInt8.toNat_lt s[p + k]
          obtain ⟨b, hb⟩ : ∃ b, s[p + k] = b := ⟨_, rfl⟩
          rw [hb] at hq hy HB
          have hcn := fun h => cont_no (b := b) h
          have hcy := (cont_iff b).2
          obtain ⟨y, hyy⟩ : ∃ y, b.toNat = y := ⟨_, rfl⟩
          rw [hyy] at hq hy hcn hcy
          have HCN := Lib.hid hcn
          have HCY := Lib.hid hcy
          clear hb hyy hcn hcy hq0 kR
          by_cases c1 : y < 128
          · have hans := HA.out.1 k hkl hk1 hlt (by rw [HB.out]; exact HCN.out (.inl c1))
            subst hans
            have d1 : (y : Int) < 128 := by omega
            go_wp2_with fail
            go_ret
            exact ⟨rfl, rfl⟩
          · by_cases c2 : 191 < y
            · have hans := HA.out.1 k hkl hk1 hlt (by rw [HB.out]; exact HCN.out (.inr c2))
              subst hans
              have d1 : ¬ (y : Int) < 128 := by omega
              have d2 : (191 : Int) < y := by omega
              go_wp2_with fail
              go_ret
              exact ⟨rfl, rfl⟩
            · have d1 : ¬ (y : Int) < 128 := by omega
              have d2 : ¬ (191 : Int) < y := by omega
              go_wp2_with fail
              go_roundw
              case rel =>
                refine ⟨trivial, k + 1, rfl, by omega, by omega, Lib.hid (fun j hj h1 h2 => ?_)⟩
                rcases (show j < k ∨ j = k by omega) with h3 | rfl
                · exact HK.out j hj h1 h3
                · rw [HB.out]
                  exact HCY.out (by omega)
              case measure => simp only [intOf]; omega
        · obtain rfl : k = 2 := by omega
          have hans := HA.out.2 HK.out
          clear HA HK HD hq0
          by_cases b1 : r < 128
          · have hb : badR 2 r := .inl b1
            rw [if_pos hb] at hans
            subst hans
            clear hb
            go_wp2_with (go_at_call 28; refine (kR _).mono ?_; rintro e w1 ⟨rfl, rfl⟩)
            go_ret
            exact ⟨rfl, rfl⟩
          · by_cases b2 : 1114111 < r
            · have hb : badR 2 r := .inr (.inl b2)
              rw [if_pos hb] at hans
              subst hans
              clear hb
              go_wp2_with (go_at_call 28; refine (kR _).mono ?_; rintro e w1 ⟨rfl, rfl⟩)
              go_ret
              exact ⟨rfl, rfl⟩
            · by_cases b3 : 55296 ≤ r
              · by_cases b4 : r ≤ 57343
                · have hb : badR 2 r := .inr (.inr ⟨b3, b4⟩)
                  rw [if_pos hb] at hans
                  subst hans
                  clear hb
                  go_wp2_with (go_at_call 28; refine (kR _).mono ?_; rintro e w1 ⟨rfl, rfl⟩)
                  go_ret
                  exact ⟨rfl, rfl⟩
                · have hb : ¬ badR 2 r := by
                    rintro (h | h | ⟨_, h⟩)
                    · exact b1 h
                    · exact b2 h
                    · exact b4 h
                  rw [if_neg hb] at hans
                  subst hans
                  clear hb
                  go_wp2_with (go_at_call 28; refine (kR _).mono ?_; rintro e w1 ⟨rfl, rfl⟩)
                  go_ret
                  exact ⟨rfl, rfl⟩
              · have hb : ¬ badR 2 r := by
                  rintro (h | h | ⟨h, _⟩)
                  · exact b1 h
                  · exact b2 h
                  · exact b3 h
                rw [if_neg hb] at hans
                subst hans
                clear hb
                go_wp2_with (go_at_call 28; refine (kR _).mono ?_; rintro e w1 ⟨rfl, rfl⟩)
                go_ret
                exact ⟨rfl, rfl⟩
    · rw [lenN_short (by omega)]
      have i9 : (s.size : Int) < (p : Int) + 2 := by omega
      go_enter Tryd.func24, Tryd.ntmps24
      go_wp2_with fail
      go_ret
      exact ⟨rfl, rfl⟩
  · have e : nOf x = 3 := by unfold nOf; rw [if_neg (by omega), if_pos (by omega)]
    rw [e]
    clear e
    have i1 : ¬ (x : Int) ≤ 223 := by omega
    have i2 : (224 : Int) ≤ (x : Int) := by omega
    have i3 : (x : Int) ≤ 239 := by omega
    by_cases hf : p + 3 ≤ s.size
    · have hnl : 3 ≤ l.length := by omega
      obtain ⟨T, hTT⟩ : ∃ T, s.extract p (p + 3) = T := ⟨_, rfl⟩
      have hsl : ∀ W, (Instr.slice 9 (.string s) (some (.int .i64 p)) (some (.int .i64 ((p : Int) + 3))) none).run Tryd.prog W = .ok (.string T) W := fun W => by rw [run_slice_str s p (p + 3) _ (by omega) (by omega) hf W, hTT]
      have zT : T.data.toList = l.take 3 := by rw [← hTT]; exact hT.out 3 hf
      have zS : T.size = 3 := by rw [size_list, zT, List.length_take]; omega
      have kR := fun w => rune_any T (by omega) (by omega) w
      rw [zT] at kR
      obtain ⟨ANS, hANS⟩ : ∃ A, lenN 3 l = A := ⟨_, rfl⟩
      have HA : Hid ((∀ j (hj : j < l.length), 1 ≤ j → j < 3 → contB l[j] = false → ANS = 1) ∧ ((∀ j (hj : j < l.length), 1 ≤ j → j < 3 → contB l[j] = true) → ANS = if badR 3 (runeR (l.take 3)) then 1 else 3)) := Lib.hid ⟨fun j hj h1 h2 hc => by rw [← hANS]; exact lenN_bad hnl j hj h1 h2 hc, fun h => by rw [← hANS]; exact lenN_good (by decide) hnl h⟩
      rw [hANS]
      clear hANS zT
      generalize runeR (l.take 3) = r at kR HA
      go_enter Tryd.func24, Tryd.ntmps24
      go_wp2_with fail
      go_loopw [8] (fun i wr => wr = w ∧ ∃ k : Nat, i = .int .i64 k ∧ 1 ≤ k ∧ k ≤ 3 ∧ Hid (∀ j (hj : j < l.length), 1 ≤ j → j < k → contB l[j] = true)) (fun i _ => 3 - (intOf i).toNat)
      case atStart => exact ⟨rfl, 1, rfl, by omega, by omega, Lib.hid (fun j _ h1 h2 => by omega)⟩
      case round =>
        obtain ⟨rfl, k, rfl, hk1, hk2, HK⟩ := hrel
        by_cases hlt : k < 3
        · have hks : p + k < s.size := by omega
          have hkl : k < l.length := by omega
          have hq : ∀ W, (Instr.index 9 (.string s) (.int .i64 ((p : Int) + k))).run Tryd.prog W = .ok (.int .u8 (s[p + k].toNat : Int)) W := fun W => run_index_str s _ (p + k) (by omega) hks W
          have HB := Lib.hid (HD.out k hks hkl)
          have hy := UInt8.toNat_lt s[p + k]
          obtain ⟨b, hb⟩ : ∃ b, s[p + k] = b := ⟨_, rfl⟩
          rw [hb] at hq hy HB
          have hcn := fun h => cont_no (b := b) h
          have hcy := (cont_iff b).2
          obtain ⟨y, hyy⟩ : ∃ y, b.toNat = y := ⟨_, rfl⟩
          rw [hyy] at hq hy hcn hcy
          have HCN := Lib.hid hcn
          have HCY := Lib.hid hcy
          clear hb hyy hcn hcy hq0 kR
          by_cases c1 : y < 128
          · have hans := HA.out.1 k hkl hk1 hlt (by rw [HB.out]; exact HCN.out (.inl c1))
            subst hans
            have d1 : (y : Int) < 128 := by omega
            go_wp2_with fail
            go_ret
            exact ⟨rfl, rfl⟩
          · by_cases c2 : 191 < y
            · have hans := HA.out.1 k hkl hk1 hlt (by rw [HB.out]; exact HCN.out (.inr c2))
              subst hans
              have d1 : ¬ (y : Int) < 128 := by omega
              have d2 : (191 : Int) < y := by omega
              go_wp2_with fail
              go_ret
              exact ⟨rfl, rfl⟩
            · have d1 : ¬ (y : Int) < 128 := by omega
              have d2 : ¬ (191 : Int) < y := by omega
              go_wp2_with fail
              go_roundw
              case rel =>
                refine ⟨trivial, k + 1, rfl, by omega, by omega, Lib.hid (fun j hj h1 h2 => ?_)⟩
                rcases (show j < k ∨ j = k by omega) with h3 | rfl
                · exact HK.out j hj h1 h3
                · rw [HB.out]
                  exact HCY.out (by omega)
              case measure => simp only [intOf]; omega
        · obtain rfl : k = 3 := by omega
          have hans := HA.out.2 HK.out
          clear HA HK HD hq0
          by_cases b1 : r < 2048
          · have hb : badR 3 r := .inl b1
            rw [if_pos hb] at hans
            subst hans
            clear hb
            go_wp2_with (go_at_call 28; refine (kR _).mono ?_; rintro e w1 ⟨rfl, rfl⟩)
            go_ret
            exact ⟨rfl, rfl⟩
          · by_cases b2 : 1114111 < r
            · have hb : badR 3 r := .inr (.inl b2)
              rw [if_pos hb] at hans
              subst hans
              clear hb
              go_wp2_with (go_at_call 28; refine (kR _).mono ?_; rintro e w1 ⟨rfl, rfl⟩)
              go_ret
              exact ⟨rfl, rfl⟩
            · by_cases b3 : 55296 ≤ r
              · by_cases b4 : r ≤ 57343
                · have hb : badR 3 r := .inr (.inr ⟨b3, b4⟩)
                  rw [if_pos hb] at hans
                  subst hans
                  clear hb
                  go_wp2_with (go_at_call 28; refine (kR _).mono ?_; rintro e w1 ⟨rfl, rfl⟩)
                  go_ret
                  exact ⟨rfl, rfl⟩
                · have hb : ¬ badR 3 r := by
                    rintro (h | h | ⟨_, h⟩)
                    · exact b1 h
                    · exact b2 h
                    · exact b4 h
                  rw [if_neg hb] at hans
                  subst hans
                  clear hb
                  go_wp2_with (go_at_call 28; refine (kR _).mono ?_; rintro e w1 ⟨rfl, rfl⟩)
                  go_ret
                  exact ⟨rfl, rfl⟩
              · have hb : ¬ badR 3 r := by
                  rintro (h | h | ⟨h, _⟩)
                  · exact b1 h
                  · exact b2 h
                  · exact b3 h
                rw [if_neg hb] at hans
                subst hans
                clear hb
                go_wp2_with (go_at_call 28; refine (kR _).mono ?_; rintro e w1 ⟨rfl, rfl⟩)
                go_ret
                exact ⟨rfl, rfl⟩
    · rw [lenN_short (by omega)]
      have i9 : (s.size : Int) < (p : Int) + 3 := by omega
      go_enter Tryd.func24, Tryd.ntmps24
      go_wp2_with fail
      go_ret
      exact ⟨rfl, rfl⟩
  · have e : nOf x = 4 := by unfold nOf; rw [if_neg (by omega), if_neg (by omega), if_pos (by omega)]
    rw [e]
    clear e
    have i1 : ¬ (x : Int) ≤ 223 := by omega
    have i2 : ¬ (x : Int) ≤ 239 := by omega
    have i3 : (240 : Int) ≤ (x : Int) := by omega
    have i4 : (x : Int) ≤ 244 := by omega
    by_cases hf : p + 4 ≤ s.size
    · have hnl : 4 ≤ l.length := by omega
      obtain ⟨T, hTT⟩ : ∃ T, s.extract p (p + 4) = T := ⟨_, rfl⟩
      have hsl : ∀ W, (Instr.slice 9 (.string s) (some (.int .i64 p)) (some (.int .i64 ((p : Int) + 4))) none).run Tryd.prog W = .ok (.string T) W := fun W => by rw [run_slice_str s p (p + 4) _ (by omega) (by omega) hf W, hTT]
      have zT : T.data.toList = l.take 4 := by rw [← hTT]; exact hT.out 4 hf
      have zS : T.size = 4 := by rw [size_list, zT, List.length_take]; omega
      have kR := fun w => rune_any T (by omega) (by omega) w
      rw [zT] at kR
      obtain ⟨ANS, hANS⟩ : ∃ A, lenN 4 l = A := ⟨_, rfl⟩
      have HA : Hid ((∀ j (hj : j < l.length), 1 ≤ j → j < 4 → contB l[j] = false → ANS = 1) ∧ ((∀ j (hj : j < l.length), 1 ≤ j → j < 4 → contB l[j] = true) → ANS = if badR 4 (runeR (l.take 4)) then 1 else 4)) := Lib.hid ⟨fun j hj h1 h2 hc => by rw [← hANS]; exact lenN_bad hnl j hj h1 h2 hc, fun h => by rw [← hANS]; exact lenN_good (by decide) hnl h⟩
      rw [hANS]
      clear hANS zT
      generalize runeR (l.take 4) = r at kR HA
      go_enter Tryd.func24, Tryd.ntmps24
      go_wp2_with fail
      go_loopw [8] (fun i wr => wr = w ∧ ∃ k : Nat, i = .int .i64 k ∧ 1 ≤ k ∧ k ≤ 4 ∧ Hid (∀ j (hj : j < l.length), 1 ≤ j → j < k → contB l[j] = true)) (fun i _ => 4 - (intOf i).toNat)
      case atStart => exact ⟨rfl, 1, rfl, by omega, by omega, Lib.hid (fun j _ h1 h2 => by omega)⟩
      case round =>
        obtain ⟨rfl, k, rfl, hk1, hk2, HK⟩ := hrel
        by_cases hlt : k < 4
        · have hks : p + k < s.size := by omega
          have hkl : k < l.length := by omega
          have hq : ∀ W, (Instr.index 9 (.string s) (.int .i64 ((p : Int) + k))).run Tryd.prog W = .ok (.int .u8 (s[p + k].toNat : Int)) W := fun W => run_index_str s _ (p + k) (by omega) hks W
          have HB := Lib.hid (HD.out k hks hkl)
          have hy := UInt8.toNat_lt s[p + k]
          obtain ⟨b, hb⟩ : ∃ b, s[p + k] = b := ⟨_, rfl⟩
          rw [hb] at hq hy HB
          have hcn := fun h => cont_no (b := b) h
          have hcy := (cont_iff b).2
          obtain ⟨y, hyy⟩ : ∃ y, b.toNat = y := ⟨_, rfl⟩
          rw [hyy] at hq hy hcn hcy
          have HCN := Lib.hid hcn
          have HCY := Lib.hid hcy
          clear hb hyy hcn hcy hq0 kR
          by_cases c1 : y < 128
          · have hans := HA.out.1 k hkl hk1 hlt (by rw [HB.out]; exact HCN.out (.inl c1))
            subst hans
            have d1 : (y : Int) < 128 := by omega
            go_wp2_with fail
            go_ret
            exact ⟨rfl, rfl⟩
          · by_cases c2 : 191 < y
            · have hans := HA.out.1 k hkl hk1 hlt (by rw [HB.out]; exact HCN.out (.inr c2))
              subst hans
              have d1 : ¬ (y : Int) < 128 := by omega
              have d2 : (191 : Int) < y := by omega
              go_wp2_with fail
              go_ret
              exact ⟨rfl, rfl⟩
            · have d1 : ¬ (y : Int) < 128 := by omega
              have d2 : ¬ (191 : Int) < y := by omega
              go_wp2_with fail
              go_roundw
              case rel =>
                refine ⟨trivial, k + 1, rfl, by omega, by omega, Lib.hid (fun j hj h1 h2 => ?_)⟩
                rcases (show j < k ∨ j = k by omega) with h3 | rfl
                · exact HK.out j hj h1 h3
                · rw [HB.out]
                  exact HCY.out (by omega)
              case measure => simp only [intOf]; omega
        · obtain rfl : k = 4 := by omega
          have hans := HA.out.2 HK.out
          clear HA HK HD hq0
          by_cases b1 : r < 65536
          · have hb : badR 4 r := .inl b1
            rw [if_pos hb] at hans
            subst hans
            clear hb
            go_wp2_with (go_at_call 28; refine (kR _).mono ?_; rintro e w1 ⟨rfl, rfl⟩)
            go_ret
            exact ⟨rfl, rfl⟩
          · by_cases b2 : 1114111 < r
            · have hb : badR 4 r := .inr (.inl b2)
              rw [if_pos hb] at hans
              subst hans
              clear hb
              go_wp2_with (go_at_call 28; refine (kR _).mono ?_; rintro e w1 ⟨rfl, rfl⟩)
              go_ret
              exact ⟨rfl, rfl⟩
            · by_cases b3 : 55296 ≤ r
              · by_cases b4 : r ≤ 57343
                · exfalso; omega
                · have hb : ¬ badR 4 r := by
                    rintro (h | h | ⟨_, h⟩)
                    · exact b1 h
                    · exact b2 h
                    · exact b4 h
                  rw [if_neg hb] at hans
                  subst hans
                  clear hb
                  go_wp2_with (go_at_call 28; refine (kR _).mono ?_; rintro e w1 ⟨rfl, rfl⟩)
                  go_ret
                  exact ⟨rfl, rfl⟩
              · exfalso; omega
    · rw [lenN_short (by omega)]
      have i9 : (s.size : Int) < (p : Int) + 4 := by omega
      go_enter Tryd.func24, Tryd.ntmps24
      go_wp2_with fail
      go_ret
      exact ⟨rfl, rfl⟩
end Go.Proofs.YtbplbifmohbfdaaDoor
