/- The reference: Decode. -/
import Derived.Test.YtdinachiiimngaaGreatDoorKCsRefC
import Derived.Test.YtdinachiiimngaaGreatDoorK11
namespace Go.Proofs.YtdinachiiimngaaGreatDoor.Cs
open Go.ChangeShapes Go.WideShapes Go.ChangeAt Go.RowKit

theorem byteL_take2 (p : Nat → Nat) (s : ByteArray) (k : Nat) (h : k < s.size) (x : Nat) (hx : (s[k]'h).toNat = x) : byteL p (s.data.toList.take (k + 1)) = byteL p (s.data.toList.take k) ++ encL (p x) := by
  rw [byteL_take p s k h, hx]
theorem win_low {x : Nat} (h : x < 128) : winP x = x := by unfold winP; rw [if_pos (Or.inl h)]
theorem win_high {x : Nat} (h : 160 ≤ x) : winP x = x := by unfold winP; rw [if_pos (Or.inr h)]
theorem win_mid {x : Nat} (h1 : ¬ x < 128) (h2 : x < 160) : winP x = winL.getD (x - 128) 0 := by unfold winP; rw [if_neg (by omega)]
theorem table_new (w : World) : RowAt (w.alloc (.cells (intsOf winL).toArray 3)) w.heap.size winL := by
  refine ⟨by simp, fun i hi => ?_⟩
  have := ints_new w winL i (.int .i64 (winL.getD i 0 : Nat)) (by
    unfold intsOf
    rw [List.getElem?_map, List.getElem?_eq_getElem hi, List.getD_eq_getElem?_getD, List.getElem?_eq_getElem hi]
    rfl)
  rw [add_none, Nat.zero_add] at this
  exact this

set_option maxHeartbeats 8000000 in
set_option maxRecDepth 1000000 in
theorem decR_1 (n s t : ByteArray) (hn : n.size ≤ 4000000) (hs : s.size ≤ 4000000) (hk : kindL n.data.toList = 1) (ht : t.data.toList = byteL asciiP s.data.toList) (w : World) :
    Calls Tryz.prog 160 #[.string n, .string s] w fun e w' => e = .returned (.tuple #[.string t, .bool true]) ∧ Below w.heap.size w w' := by
  obtain ⟨i0, hi, hz0, hz1, hz2⟩ := info_parts info5
  have HT := Lib.hid (show (⟨(byteL asciiP s.data.toList).toArray⟩ : ByteArray) = t from bytes_is (by rw [ht]))
  have KK := Lib.hid (fun w => kindR_any n hn 1 hk w)
  clear ht hk
  have htab := table_new w
  have hba : Below w.heap.size w (w.alloc (.cells (intsOf winL).toArray 3)) := (Below.refl _ _).alloc (Nat.le_refl _) _
  have HTAB := Lib.hid htab
  have HBA := Lib.hid hba
  clear htab hba
  go_enter Tryz.func160, Tryz.ntmps160
  go_wp2_with (go_at_call 190; refine (KK.out _).mono ?_; rintro e W1 ⟨rfl, hb0⟩; have r1 := HTAB.out.below hb0; have hb1 := HBA.out.trans (hb0.mono HBA.out.size))
  clear hb0
  go_loopw [8, 9] (fun o i wr => ∃ k m : Nat, k ≤ s.size ∧ i = .int .i64 k ∧ Hid ((byteL asciiP (s.data.toList.take k)).length = m) ∧ m ≤ 4 * k ∧ wr.ownsRow W1.heap.size 5 1 o m (cellsOf (byteL asciiP (s.data.toList.take k))) ∧ Below W1.heap.size W1 wr) (fun _ i _ => s.size - (intOf i).toNat)
  case atStart => exact ⟨0, 0, Nat.zero_le _, rfl, Lib.hid rfl, Nat.zero_le _, World.ownsRow_nil _ _ _ _, Below.refl _ _⟩
  case round =>
    obtain ⟨k, m, hk, rfl, HN, hm, hown, hbw⟩ := hrel
    have hszr : W1.heap.size ≤ wr.heap.size := hbw.size
    by_cases hlt : k < s.size
    · have hq : ∀ W, (Instr.index 9 (.string s) (.int .i64 (k : Int))).run Tryz.prog W = .ok (.int .u8 (s[k].toNat : Int)) W := fun W => run_index_str s k k rfl hlt W
      have hx := UInt8.toNat_lt (s[k]'hlt)
      have hFT0 := byteL_take2 asciiP s k hlt
      obtain ⟨x, hxx⟩ : ∃ x, (s[k]'hlt).toNat = x := ⟨_, rfl⟩
      rw [hxx] at hx
      have HFT := Lib.hid (hFT0 x hxx)
      simp only [hxx] at hq
      clear hFT0 hxx
      have hcx := asciiP_cp x hx
      by_cases x1 : x < 128
      · have hpx : asciiP x = x := by unfold asciiP; rw [if_neg (by omega)]
        have HFT2 : Hid (byteL asciiP (s.data.toList.take (k + 1)) = byteL asciiP (s.data.toList.take k) ++ encL x) := Lib.hid (by rw [HFT.out, hpx])
        rw [hpx] at hcx
        obtain ⟨z, hz⟩ := list_of (encL x)
        obtain ⟨kk, hkk⟩ : ∃ kk, (encL x).length = kk := ⟨_, rfl⟩
        have hkk4 : 1 ≤ kk ∧ kk ≤ 4 := by rw [← hkk]; exact enc_len _
        have KL := Lib.hid (fun w => laid_is x hcx z hz kk hkk w)
        have HKK := Lib.hid hkk
        clear hz hkk hcx hpx
        have x1d : decide ((128 : Int) ≤ (x : Int)) = false := decide_eq_false (by omega)
        go_wp2_with (first
          | (go_at_call 189; refine (KL.out _).mono ?_; rintro e w2 ⟨g2, rfl, _, hcells, _, _, hb2⟩; have hown2 := below_own hown hb2; have hsz2 := hb2.size)
          | (at_builtin; refine wpList_append_own _ rfl (.tmp 53) (.tmp 55) 59 rfl W1.heap.size 5 i0 (.int .u8 0) 1 1 Tryz.underlying59 hi hz0 hz1 hz2 rfl (by decide) _ m (cellsOf (byteL asciiP (s.data.toList.take k))) rfl hown2 ⟨g2, 0, none⟩ kk kk (cellsOf (encL x)) rfl (cells_len _ _ HKK.out) hcells (cellsOf_one _) (by unfold maxLen; omega) (by omega) (by omega) ?_; intro v4 w4 hown4 hgrow4 hnil4))
        go_roundw
        case rel => exact ⟨k + 1, m + kk, by omega, by go_num, Lib.hid (by rw [HFT2.out, List.length_append, HN.out, HKK.out]), by omega, by rw [HFT2.out]; unfold cellsOf at hown4 ⊢; rw [List.map_append]; exact hown4, (hbw.trans (hb2.mono hszr)).grown hgrow4 (by omega) (fun j hj => own_base hown j hj)⟩
        case measure => simp [intOf]; omega
      · have hpx : asciiP x = 65533 := by unfold asciiP; rw [if_pos (by omega)]
        have HFT2 : Hid (byteL asciiP (s.data.toList.take (k + 1)) = byteL asciiP (s.data.toList.take k) ++ encL 65533) := Lib.hid (by rw [HFT.out, hpx])
        rw [hpx] at hcx
        obtain ⟨z, hz⟩ := list_of (encL 65533)
        obtain ⟨kk, hkk⟩ : ∃ kk, (encL 65533).length = kk := ⟨_, rfl⟩
        have hkk4 : 1 ≤ kk ∧ kk ≤ 4 := by rw [← hkk]; exact enc_len _
        have KL := Lib.hid (fun w => laid_is 65533 hcx z hz kk hkk w)
        have HKK := Lib.hid hkk
        clear hz hkk hcx hpx
        have x1d : (128 : Int) ≤ (x : Int) := by omega
        go_wp2_with (first
          | (go_at_call 189; refine (KL.out _).mono ?_; rintro e w2 ⟨g2, rfl, _, hcells, _, _, hb2⟩; have hown2 := below_own hown hb2; have hsz2 := hb2.size)
          | (at_builtin; refine wpList_append_own _ rfl (.tmp 53) (.tmp 55) 59 rfl W1.heap.size 5 i0 (.int .u8 0) 1 1 Tryz.underlying59 hi hz0 hz1 hz2 rfl (by decide) _ m (cellsOf (byteL asciiP (s.data.toList.take k))) rfl hown2 ⟨g2, 0, none⟩ kk kk (cellsOf (encL 65533)) rfl (cells_len _ _ HKK.out) hcells (cellsOf_one _) (by unfold maxLen; omega) (by omega) (by omega) ?_; intro v4 w4 hown4 hgrow4 hnil4))
        go_roundw
        case rel => exact ⟨k + 1, m + kk, by omega, by go_num, Lib.hid (by rw [HFT2.out, List.length_append, HN.out, HKK.out]), by omega, by rw [HFT2.out]; unfold cellsOf at hown4 ⊢; rw [List.map_append]; exact hown4, (hbw.trans (hb2.mono hszr)).grown hgrow4 (by omega) (fun j hj => own_base hown j hj)⟩
        case measure => simp [intOf]; omega
    · have hkM : k = s.size := by omega
      subst hkM
      have hcv := conv_any (l := byteL asciiP s.data.toList) (n := m) (by rw [← HN.out, List.take_of_length_le (by rw [Array.length_toList]; exact Nat.le_refl _)]) (by rw [List.take_of_length_le (by rw [Array.length_toList]; exact Nat.le_refl _)] at hown; exact hown)
      rw [HT.out] at hcv
      go_wp2_with fail
      go_ret2
      exact ⟨rfl, hb1.trans (hbw.mono hb1.size)⟩
set_option maxHeartbeats 8000000 in
set_option maxRecDepth 1000000 in
theorem decR_3 (n s t : ByteArray) (hn : n.size ≤ 4000000) (hs : s.size ≤ 4000000) (hk : kindL n.data.toList = 3) (ht : t.data.toList = byteL id s.data.toList) (w : World) :
    Calls Tryz.prog 160 #[.string n, .string s] w fun e w' => e = .returned (.tuple #[.string t, .bool true]) ∧ Below w.heap.size w w' := by
  obtain ⟨i0, hi, hz0, hz1, hz2⟩ := info_parts info5
  have HT := Lib.hid (show (⟨(byteL id s.data.toList).toArray⟩ : ByteArray) = t from bytes_is (by rw [ht]))
  have KK := Lib.hid (fun w => kindR_any n hn 3 hk w)
  clear ht hk
  have htab := table_new w
  have hba : Below w.heap.size w (w.alloc (.cells (intsOf winL).toArray 3)) := (Below.refl _ _).alloc (Nat.le_refl _) _
  have HTAB := Lib.hid htab
  have HBA := Lib.hid hba
  clear htab hba
  go_enter Tryz.func160, Tryz.ntmps160
  go_wp2_with (go_at_call 190; refine (KK.out _).mono ?_; rintro e W1 ⟨rfl, hb0⟩; have r1 := HTAB.out.below hb0; have hb1 := HBA.out.trans (hb0.mono HBA.out.size))
  clear hb0
  go_loopw [8, 9] (fun o i wr => ∃ k m : Nat, k ≤ s.size ∧ i = .int .i64 k ∧ Hid ((byteL id (s.data.toList.take k)).length = m) ∧ m ≤ 4 * k ∧ wr.ownsRow W1.heap.size 5 1 o m (cellsOf (byteL id (s.data.toList.take k))) ∧ Below W1.heap.size W1 wr) (fun _ i _ => s.size - (intOf i).toNat)
  case atStart => exact ⟨0, 0, Nat.zero_le _, rfl, Lib.hid rfl, Nat.zero_le _, World.ownsRow_nil _ _ _ _, Below.refl _ _⟩
  case round =>
    obtain ⟨k, m, hk, rfl, HN, hm, hown, hbw⟩ := hrel
    have hszr : W1.heap.size ≤ wr.heap.size := hbw.size
    by_cases hlt : k < s.size
    · have hq : ∀ W, (Instr.index 9 (.string s) (.int .i64 (k : Int))).run Tryz.prog W = .ok (.int .u8 (s[k].toNat : Int)) W := fun W => run_index_str s k k rfl hlt W
      have hx := UInt8.toNat_lt (s[k]'hlt)
      have hFT0 := byteL_take2 id s k hlt
      obtain ⟨x, hxx⟩ : ∃ x, (s[k]'hlt).toNat = x := ⟨_, rfl⟩
      rw [hxx] at hx
      have HFT := Lib.hid (hFT0 x hxx)
      simp only [hxx] at hq
      clear hFT0 hxx
      have hcx := latin_cp x hx
      have hpx : id x = x := rfl
      have HFT2 : Hid (byteL id (s.data.toList.take (k + 1)) = byteL id (s.data.toList.take k) ++ encL x) := Lib.hid (by rw [HFT.out, hpx])
      rw [hpx] at hcx
      obtain ⟨z, hz⟩ := list_of (encL x)
      obtain ⟨kk, hkk⟩ : ∃ kk, (encL x).length = kk := ⟨_, rfl⟩
      have hkk4 : 1 ≤ kk ∧ kk ≤ 4 := by rw [← hkk]; exact enc_len _
      have KL := Lib.hid (fun w => laid_is x hcx z hz kk hkk w)
      have HKK := Lib.hid hkk
      clear hz hkk hcx hpx
      go_wp2_with (first
        | (go_at_call 189; refine (KL.out _).mono ?_; rintro e w2 ⟨g2, rfl, _, hcells, _, _, hb2⟩; have hown2 := below_own hown hb2; have hsz2 := hb2.size)
        | (at_builtin; refine wpList_append_own _ rfl (.tmp 53) (.tmp 55) 59 rfl W1.heap.size 5 i0 (.int .u8 0) 1 1 Tryz.underlying59 hi hz0 hz1 hz2 rfl (by decide) _ m (cellsOf (byteL id (s.data.toList.take k))) rfl hown2 ⟨g2, 0, none⟩ kk kk (cellsOf (encL x)) rfl (cells_len _ _ HKK.out) hcells (cellsOf_one _) (by unfold maxLen; omega) (by omega) (by omega) ?_; intro v4 w4 hown4 hgrow4 hnil4))
      go_roundw
      case rel => exact ⟨k + 1, m + kk, by omega, by go_num, Lib.hid (by rw [HFT2.out, List.length_append, HN.out, HKK.out]), by omega, by rw [HFT2.out]; unfold cellsOf at hown4 ⊢; rw [List.map_append]; exact hown4, (hbw.trans (hb2.mono hszr)).grown hgrow4 (by omega) (fun j hj => own_base hown j hj)⟩
      case measure => simp [intOf]; omega
    · have hkM : k = s.size := by omega
      subst hkM
      have hcv := conv_any (l := byteL id s.data.toList) (n := m) (by rw [← HN.out, List.take_of_length_le (by rw [Array.length_toList]; exact Nat.le_refl _)]) (by rw [List.take_of_length_le (by rw [Array.length_toList]; exact Nat.le_refl _)] at hown; exact hown)
      rw [HT.out] at hcv
      go_wp2_with fail
      go_ret2
      exact ⟨rfl, hb1.trans (hbw.mono hb1.size)⟩
set_option maxHeartbeats 8000000 in
set_option maxRecDepth 1000000 in
theorem decR_0 (n s t : ByteArray) (hn : n.size ≤ 4000000) (hs : s.size ≤ 4000000) (hk : kindL n.data.toList = 0) (ht : t.data.toList = byteL winP s.data.toList) (w : World) :
    Calls Tryz.prog 160 #[.string n, .string s] w fun e w' => e = .returned (.tuple #[.string t, .bool false]) ∧ Below w.heap.size w w' := by
  obtain ⟨i0, hi, hz0, hz1, hz2⟩ := info_parts info5
  have HT := Lib.hid (show (⟨(byteL winP s.data.toList).toArray⟩ : ByteArray) = t from bytes_is (by rw [ht]))
  have KK := Lib.hid (fun w => kindR_any n hn 0 hk w)
  clear ht hk
  have htab := table_new w
  have hba : Below w.heap.size w (w.alloc (.cells (intsOf winL).toArray 3)) := (Below.refl _ _).alloc (Nat.le_refl _) _
  have HTAB := Lib.hid htab
  have HBA := Lib.hid hba
  clear htab hba
  go_enter Tryz.func160, Tryz.ntmps160
  go_wp2_with (go_at_call 190; refine (KK.out _).mono ?_; rintro e W1 ⟨rfl, hb0⟩; have r1 := HTAB.out.below hb0; have hb1 := HBA.out.trans (hb0.mono HBA.out.size))
  clear hb0
  go_loopw [8, 9] (fun o i wr => ∃ k m : Nat, k ≤ s.size ∧ i = .int .i64 k ∧ Hid ((byteL winP (s.data.toList.take k)).length = m) ∧ m ≤ 4 * k ∧ wr.ownsRow W1.heap.size 5 1 o m (cellsOf (byteL winP (s.data.toList.take k))) ∧ Below W1.heap.size W1 wr) (fun _ i _ => s.size - (intOf i).toNat)
  case atStart => exact ⟨0, 0, Nat.zero_le _, rfl, Lib.hid rfl, Nat.zero_le _, World.ownsRow_nil _ _ _ _, Below.refl _ _⟩
  case round =>
    obtain ⟨k, m, hk, rfl, HN, hm, hown, hbw⟩ := hrel
    have hszr : W1.heap.size ≤ wr.heap.size := hbw.size
    by_cases hlt : k < s.size
    · have hq : ∀ W, (Instr.index 9 (.string s) (.int .i64 (k : Int))).run Tryz.prog W = .ok (.int .u8 (s[k].toNat : Int)) W := fun W => run_index_str s k k rfl hlt W
      have hx := UInt8.toNat_lt (s[k]'hlt)
      have hFT0 := byteL_take2 winP s k hlt
      obtain ⟨x, hxx⟩ : ∃ x, (s[k]'hlt).toNat = x := ⟨_, rfl⟩
      rw [hxx] at hx
      have HFT := Lib.hid (hFT0 x hxx)
      simp only [hxx] at hq
      clear hFT0 hxx
      have hcx := winP_cp x hx
      by_cases x1 : x < 128
      · have hpx : winP x = x := win_low x1
        have HFT2 : Hid (byteL winP (s.data.toList.take (k + 1)) = byteL winP (s.data.toList.take k) ++ encL x) := Lib.hid (by rw [HFT.out, hpx])
        rw [hpx] at hcx
        obtain ⟨z, hz⟩ := list_of (encL x)
        obtain ⟨kk, hkk⟩ : ∃ kk, (encL x).length = kk := ⟨_, rfl⟩
        have hkk4 : 1 ≤ kk ∧ kk ≤ 4 := by rw [← hkk]; exact enc_len _
        have KL := Lib.hid (fun w => laid_is x hcx z hz kk hkk w)
        have HKK := Lib.hid hkk
        clear hz hkk hcx hpx
        have x1d : decide ((128 : Int) ≤ (x : Int)) = false := decide_eq_false (by omega)
        go_wp2_with (first
          | (go_at_call 189; refine (KL.out _).mono ?_; rintro e w2 ⟨g2, rfl, _, hcells, _, _, hb2⟩; have hown2 := below_own hown hb2; have hsz2 := hb2.size)
          | (at_builtin; refine wpList_append_own _ rfl (.tmp 53) (.tmp 55) 59 rfl W1.heap.size 5 i0 (.int .u8 0) 1 1 Tryz.underlying59 hi hz0 hz1 hz2 rfl (by decide) _ m (cellsOf (byteL winP (s.data.toList.take k))) rfl hown2 ⟨g2, 0, none⟩ kk kk (cellsOf (encL x)) rfl (cells_len _ _ HKK.out) hcells (cellsOf_one _) (by unfold maxLen; omega) (by omega) (by omega) ?_; intro v4 w4 hown4 hgrow4 hnil4))
        go_roundw
        case rel => exact ⟨k + 1, m + kk, by omega, by go_num, Lib.hid (by rw [HFT2.out, List.length_append, HN.out, HKK.out]), by omega, by rw [HFT2.out]; unfold cellsOf at hown4 ⊢; rw [List.map_append]; exact hown4, (hbw.trans (hb2.mono hszr)).grown hgrow4 (by omega) (fun j hj => own_base hown j hj)⟩
        case measure => simp [intOf]; omega
      · by_cases x2 : x < 160
        · have hpx : winP x = winL.getD (x - 128) 0 := win_mid x1 x2
          obtain ⟨i, rfl⟩ : ∃ i, x = 128 + i := ⟨x - 128, by omega⟩
          have c1 := (r1.below hbw).2 i (show i < 32 by omega)
          rw [show 128 + i - 128 = i by omega] at hpx
          obtain ⟨y, hy⟩ : ∃ y, winL.getD i 0 = y := ⟨_, rfl⟩
          rw [hy] at c1 hpx
          clear hy
          have HFT2 : Hid (byteL winP (s.data.toList.take (k + 1)) = byteL winP (s.data.toList.take k) ++ encL y) := Lib.hid (by rw [HFT.out, hpx])
          rw [hpx] at hcx
          obtain ⟨z, hz⟩ := list_of (encL y)
          obtain ⟨kk, hkk⟩ : ∃ kk, (encL y).length = kk := ⟨_, rfl⟩
          have hkk4 : 1 ≤ kk ∧ kk ≤ 4 := by rw [← hkk]; exact enc_len _
          have KL := Lib.hid (fun w => laid_is y hcx z hz kk hkk w)
          have HKK := Lib.hid hkk
          clear hz hkk hcx hpx
          have x1d : (128 : Int) ≤ (128 : Int) + (i : Int) := by omega
          have x2d : (128 : Int) + (i : Int) < 160 := by omega
          go_wp2_with (first
            | (go_at_call 189; refine (KL.out _).mono ?_; rintro e w2 ⟨g2, rfl, _, hcells, _, _, hb2⟩; have hown2 := below_own hown hb2; have hsz2 := hb2.size)
            | (at_builtin; refine wpList_append_own _ rfl (.tmp 53) (.tmp 55) 59 rfl W1.heap.size 5 i0 (.int .u8 0) 1 1 Tryz.underlying59 hi hz0 hz1 hz2 rfl (by decide) _ m (cellsOf (byteL winP (s.data.toList.take k))) rfl hown2 ⟨g2, 0, none⟩ kk kk (cellsOf (encL y)) rfl (cells_len _ _ HKK.out) hcells (cellsOf_one _) (by unfold maxLen; omega) (by omega) (by omega) ?_; intro v4 w4 hown4 hgrow4 hnil4))
          go_roundw
          case rel => exact ⟨k + 1, m + kk, by omega, by go_num, Lib.hid (by rw [HFT2.out, List.length_append, HN.out, HKK.out]), by omega, by rw [HFT2.out]; unfold cellsOf at hown4 ⊢; rw [List.map_append]; exact hown4, (hbw.trans (hb2.mono hszr)).grown hgrow4 (by omega) (fun j hj => own_base hown j hj)⟩
          case measure => simp [intOf]; omega
        · have hpx : winP x = x := win_high (by omega)
          have HFT2 : Hid (byteL winP (s.data.toList.take (k + 1)) = byteL winP (s.data.toList.take k) ++ encL x) := Lib.hid (by rw [HFT.out, hpx])
          rw [hpx] at hcx
          obtain ⟨z, hz⟩ := list_of (encL x)
          obtain ⟨kk, hkk⟩ : ∃ kk, (encL x).length = kk := ⟨_, rfl⟩
          have hkk4 : 1 ≤ kk ∧ kk ≤ 4 := by rw [← hkk]; exact enc_len _
          have KL := Lib.hid (fun w => laid_is x hcx z hz kk hkk w)
          have HKK := Lib.hid hkk
          clear hz hkk hcx hpx
          have x1d : (128 : Int) ≤ (x : Int) := by omega
          have x2d : decide ((x : Int) < 160) = false := decide_eq_false (by omega)
          go_wp2_with (first
            | (go_at_call 189; refine (KL.out _).mono ?_; rintro e w2 ⟨g2, rfl, _, hcells, _, _, hb2⟩; have hown2 := below_own hown hb2; have hsz2 := hb2.size)
            | (at_builtin; refine wpList_append_own _ rfl (.tmp 53) (.tmp 55) 59 rfl W1.heap.size 5 i0 (.int .u8 0) 1 1 Tryz.underlying59 hi hz0 hz1 hz2 rfl (by decide) _ m (cellsOf (byteL winP (s.data.toList.take k))) rfl hown2 ⟨g2, 0, none⟩ kk kk (cellsOf (encL x)) rfl (cells_len _ _ HKK.out) hcells (cellsOf_one _) (by unfold maxLen; omega) (by omega) (by omega) ?_; intro v4 w4 hown4 hgrow4 hnil4))
          go_roundw
          case rel => exact ⟨k + 1, m + kk, by omega, by go_num, Lib.hid (by rw [HFT2.out, List.length_append, HN.out, HKK.out]), by omega, by rw [HFT2.out]; unfold cellsOf at hown4 ⊢; rw [List.map_append]; exact hown4, (hbw.trans (hb2.mono hszr)).grown hgrow4 (by omega) (fun j hj => own_base hown j hj)⟩
          case measure => simp [intOf]; omega
    · have hkM : k = s.size := by omega
      subst hkM
      have hcv := conv_any (l := byteL winP s.data.toList) (n := m) (by rw [← HN.out, List.take_of_length_le (by rw [Array.length_toList]; exact Nat.le_refl _)]) (by rw [List.take_of_length_le (by rw [Array.length_toList]; exact Nat.le_refl _)] at hown; exact hown)
      rw [HT.out] at hcv
      go_wp2_with fail
      go_ret2
      exact ⟨rfl, hb1.trans (hbw.mono hb1.size)⟩
set_option maxHeartbeats 8000000 in
set_option maxRecDepth 1000000 in
theorem decR_4 (n s t : ByteArray) (hn : n.size ≤ 4000000) (hs : s.size ≤ 4000000) (hk : kindL n.data.toList = 4) (ht : t.data.toList = byteL winP s.data.toList) (w : World) :
    Calls Tryz.prog 160 #[.string n, .string s] w fun e w' => e = .returned (.tuple #[.string t, .bool true]) ∧ Below w.heap.size w w' := by
  obtain ⟨i0, hi, hz0, hz1, hz2⟩ := info_parts info5
  have HT := Lib.hid (show (⟨(byteL winP s.data.toList).toArray⟩ : ByteArray) = t from bytes_is (by rw [ht]))
  have KK := Lib.hid (fun w => kindR_any n hn 4 hk w)
  clear ht hk
  have htab := table_new w
  have hba : Below w.heap.size w (w.alloc (.cells (intsOf winL).toArray 3)) := (Below.refl _ _).alloc (Nat.le_refl _) _
  have HTAB := Lib.hid htab
  have HBA := Lib.hid hba
  clear htab hba
  go_enter Tryz.func160, Tryz.ntmps160
  go_wp2_with (go_at_call 190; refine (KK.out _).mono ?_; rintro e W1 ⟨rfl, hb0⟩; have r1 := HTAB.out.below hb0; have hb1 := HBA.out.trans (hb0.mono HBA.out.size))
  clear hb0
  go_loopw [8, 9] (fun o i wr => ∃ k m : Nat, k ≤ s.size ∧ i = .int .i64 k ∧ Hid ((byteL winP (s.data.toList.take k)).length = m) ∧ m ≤ 4 * k ∧ wr.ownsRow W1.heap.size 5 1 o m (cellsOf (byteL winP (s.data.toList.take k))) ∧ Below W1.heap.size W1 wr) (fun _ i _ => s.size - (intOf i).toNat)
  case atStart => exact ⟨0, 0, Nat.zero_le _, rfl, Lib.hid rfl, Nat.zero_le _, World.ownsRow_nil _ _ _ _, Below.refl _ _⟩
  case round =>
    obtain ⟨k, m, hk, rfl, HN, hm, hown, hbw⟩ := hrel
    have hszr : W1.heap.size ≤ wr.heap.size := hbw.size
    by_cases hlt : k < s.size
    · have hq : ∀ W, (Instr.index 9 (.string s) (.int .i64 (k : Int))).run Tryz.prog W = .ok (.int .u8 (s[k].toNat : Int)) W := fun W => run_index_str s k k rfl hlt W
      have hx := UInt8.toNat_lt (s[k]'hlt)
      have hFT0 := byteL_take2 winP s k hlt
      obtain ⟨x, hxx⟩ : ∃ x, (s[k]'hlt).toNat = x := ⟨_, rfl⟩
      rw [hxx] at hx
      have HFT := Lib.hid (hFT0 x hxx)
      simp only [hxx] at hq
      clear hFT0 hxx
      have hcx := winP_cp x hx
      by_cases x1 : x < 128
      · have hpx : winP x = x := win_low x1
        have HFT2 : Hid (byteL winP (s.data.toList.take (k + 1)) = byteL winP (s.data.toList.take k) ++ encL x) := Lib.hid (by rw [HFT.out, hpx])
        rw [hpx] at hcx
        obtain ⟨z, hz⟩ := list_of (encL x)
        obtain ⟨kk, hkk⟩ : ∃ kk, (encL x).length = kk := ⟨_, rfl⟩
        have hkk4 : 1 ≤ kk ∧ kk ≤ 4 := by rw [← hkk]; exact enc_len _
        have KL := Lib.hid (fun w => laid_is x hcx z hz kk hkk w)
        have HKK := Lib.hid hkk
        clear hz hkk hcx hpx
        have x1d : decide ((128 : Int) ≤ (x : Int)) = false := decide_eq_false (by omega)
        go_wp2_with (first
          | (go_at_call 189; refine (KL.out _).mono ?_; rintro e w2 ⟨g2, rfl, _, hcells, _, _, hb2⟩; have hown2 := below_own hown hb2; have hsz2 := hb2.size)
          | (at_builtin; refine wpList_append_own _ rfl (.tmp 53) (.tmp 55) 59 rfl W1.heap.size 5 i0 (.int .u8 0) 1 1 Tryz.underlying59 hi hz0 hz1 hz2 rfl (by decide) _ m (cellsOf (byteL winP (s.data.toList.take k))) rfl hown2 ⟨g2, 0, none⟩ kk kk (cellsOf (encL x)) rfl (cells_len _ _ HKK.out) hcells (cellsOf_one _) (by unfold maxLen; omega) (by omega) (by omega) ?_; intro v4 w4 hown4 hgrow4 hnil4))
        go_roundw
        case rel => exact ⟨k + 1, m + kk, by omega, by go_num, Lib.hid (by rw [HFT2.out, List.length_append, HN.out, HKK.out]), by omega, by rw [HFT2.out]; unfold cellsOf at hown4 ⊢; rw [List.map_append]; exact hown4, (hbw.trans (hb2.mono hszr)).grown hgrow4 (by omega) (fun j hj => own_base hown j hj)⟩
        case measure => simp [intOf]; omega
      · by_cases x2 : x < 160
        · have hpx : winP x = winL.getD (x - 128) 0 := win_mid x1 x2
          obtain ⟨i, rfl⟩ : ∃ i, x = 128 + i := ⟨x - 128, by omega⟩
          have c1 := (r1.below hbw).2 i (show i < 32 by omega)
          rw [show 128 + i - 128 = i by omega] at hpx
          obtain ⟨y, hy⟩ : ∃ y, winL.getD i 0 = y := ⟨_, rfl⟩
          rw [hy] at c1 hpx
          clear hy
          have HFT2 : Hid (byteL winP (s.data.toList.take (k + 1)) = byteL winP (s.data.toList.take k) ++ encL y) := Lib.hid (by rw [HFT.out, hpx])
          rw [hpx] at hcx
          obtain ⟨z, hz⟩ := list_of (encL y)
          obtain ⟨kk, hkk⟩ : ∃ kk, (encL y).length = kk := ⟨_, rfl⟩
          have hkk4 : 1 ≤ kk ∧ kk ≤ 4 := by rw [← hkk]; exact enc_len _
          have KL := Lib.hid (fun w => laid_is y hcx z hz kk hkk w)
          have HKK := Lib.hid hkk
          clear hz hkk hcx hpx
          have x1d : (128 : Int) ≤ (128 : Int) + (i : Int) := by omega
          have x2d : (128 : Int) + (i : Int) < 160 := by omega
          go_wp2_with (first
            | (go_at_call 189; refine (KL.out _).mono ?_; rintro e w2 ⟨g2, rfl, _, hcells, _, _, hb2⟩; have hown2 := below_own hown hb2; have hsz2 := hb2.size)
            | (at_builtin; refine wpList_append_own _ rfl (.tmp 53) (.tmp 55) 59 rfl W1.heap.size 5 i0 (.int .u8 0) 1 1 Tryz.underlying59 hi hz0 hz1 hz2 rfl (by decide) _ m (cellsOf (byteL winP (s.data.toList.take k))) rfl hown2 ⟨g2, 0, none⟩ kk kk (cellsOf (encL y)) rfl (cells_len _ _ HKK.out) hcells (cellsOf_one _) (by unfold maxLen; omega) (by omega) (by omega) ?_; intro v4 w4 hown4 hgrow4 hnil4))
          go_roundw
          case rel => exact ⟨k + 1, m + kk, by omega, by go_num, Lib.hid (by rw [HFT2.out, List.length_append, HN.out, HKK.out]), by omega, by rw [HFT2.out]; unfold cellsOf at hown4 ⊢; rw [List.map_append]; exact hown4, (hbw.trans (hb2.mono hszr)).grown hgrow4 (by omega) (fun j hj => own_base hown j hj)⟩
          case measure => simp [intOf]; omega
        · have hpx : winP x = x := win_high (by omega)
          have HFT2 : Hid (byteL winP (s.data.toList.take (k + 1)) = byteL winP (s.data.toList.take k) ++ encL x) := Lib.hid (by rw [HFT.out, hpx])
          rw [hpx] at hcx
          obtain ⟨z, hz⟩ := list_of (encL x)
          obtain ⟨kk, hkk⟩ : ∃ kk, (encL x).length = kk := ⟨_, rfl⟩
          have hkk4 : 1 ≤ kk ∧ kk ≤ 4 := by rw [← hkk]; exact enc_len _
          have KL := Lib.hid (fun w => laid_is x hcx z hz kk hkk w)
          have HKK := Lib.hid hkk
          clear hz hkk hcx hpx
          have x1d : (128 : Int) ≤ (x : Int) := by omega
          have x2d : decide ((x : Int) < 160) = false := decide_eq_false (by omega)
          go_wp2_with (first
            | (go_at_call 189; refine (KL.out _).mono ?_; rintro e w2 ⟨g2, rfl, _, hcells, _, _, hb2⟩; have hown2 := below_own hown hb2; have hsz2 := hb2.size)
            | (at_builtin; refine wpList_append_own _ rfl (.tmp 53) (.tmp 55) 59 rfl W1.heap.size 5 i0 (.int .u8 0) 1 1 Tryz.underlying59 hi hz0 hz1 hz2 rfl (by decide) _ m (cellsOf (byteL winP (s.data.toList.take k))) rfl hown2 ⟨g2, 0, none⟩ kk kk (cellsOf (encL x)) rfl (cells_len _ _ HKK.out) hcells (cellsOf_one _) (by unfold maxLen; omega) (by omega) (by omega) ?_; intro v4 w4 hown4 hgrow4 hnil4))
          go_roundw
          case rel => exact ⟨k + 1, m + kk, by omega, by go_num, Lib.hid (by rw [HFT2.out, List.length_append, HN.out, HKK.out]), by omega, by rw [HFT2.out]; unfold cellsOf at hown4 ⊢; rw [List.map_append]; exact hown4, (hbw.trans (hb2.mono hszr)).grown hgrow4 (by omega) (fun j hj => own_base hown j hj)⟩
          case measure => simp [intOf]; omega
    · have hkM : k = s.size := by omega
      subst hkM
      have hcv := conv_any (l := byteL winP s.data.toList) (n := m) (by rw [← HN.out, List.take_of_length_le (by rw [Array.length_toList]; exact Nat.le_refl _)]) (by rw [List.take_of_length_le (by rw [Array.length_toList]; exact Nat.le_refl _)] at hown; exact hown)
      rw [HT.out] at hcv
      go_wp2_with fail
      go_ret2
      exact ⟨rfl, hb1.trans (hbw.mono hb1.size)⟩
set_option maxHeartbeats 4000000 in
theorem decR_2 (n s t : ByteArray) (hn : n.size ≤ 4000000) (hs : s.size ≤ 4000000) (hk : kindL n.data.toList = 2) (ht : t.data.toList = repairL s.data.toList) (w : World) :
    Calls Tryz.prog 160 #[.string n, .string s] w fun e w' => e = .returned (.tuple #[.string t, .bool true]) ∧ Below w.heap.size w w' := by
  have KK := Lib.hid (fun w => kindR_any n hn 2 hk w)
  have KR := Lib.hid (fun w => repairR_any s hs t ht w)
  have HBA := Lib.hid (show Below w.heap.size w (w.alloc (.cells (intsOf winL).toArray 3)) from (Below.refl _ _).alloc (Nat.le_refl _) _)
  clear hk ht
  go_enter Tryz.func160, Tryz.ntmps160
  go_wp2_with (first
    | (go_at_call 190; refine (KK.out _).mono ?_; rintro e W1 ⟨rfl, hb0⟩; have hb1 := HBA.out.trans (hb0.mono HBA.out.size))
    | (go_at_call 159; refine (KR.out _).mono ?_; rintro e W2 ⟨rfl, hb2⟩))
  go_ret2
  exact ⟨rfl, hb1.trans (hb2.mono hb1.size)⟩
theorem decR_any (n s t : ByteArray) (o : Bool) (hn : n.size ≤ 4000000) (hs : s.size ≤ 4000000) (ht : t.data.toList = decL (kindL n.data.toList) s.data.toList) (ho : decide (kindL n.data.toList ≠ 0) = o) (w : World) :
    Calls Tryz.prog 160 #[.string n, .string s] w fun e w' => e = .returned (.tuple #[.string t, .bool o]) ∧ Below w.heap.size w w' := by
  have h5 := kindK_le ⟨(n.data.toList.map lowB).toArray⟩
  rw [show kindK ⟨(n.data.toList.map lowB).toArray⟩ = kindL n.data.toList from rfl] at h5
  subst ho
  rcases h5 with h | h | h | h | h
  · rw [h] at ht ⊢
    exact decR_0 n s t hn hs h ht w
  · rw [h] at ht ⊢
    exact decR_1 n s t hn hs h ht w
  · rw [h] at ht ⊢
    exact decR_2 n s t hn hs h ht w
  · rw [h] at ht ⊢
    exact decR_3 n s t hn hs h ht w
  · rw [h] at ht ⊢
    exact decR_4 n s t hn hs h ht w
end Go.Proofs.YtdinachiiimngaaGreatDoor.Cs
