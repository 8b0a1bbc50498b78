/- The reference: names in lower case, the number of a character set, whether a name is known. -/
import Derived.Test.YtbmnoneeialfpaaDoorRefA
namespace Go.Proofs.YtbmnoneeialfpaaDoor
open Go.ChangeShapes Go.WideShapes Go.ChangeAt Go.RowKit

theorem lowB_nat (b : UInt8) : ((lowB b).toNat : Int) = if 65 ≤ b.toNat ∧ b.toNat ≤ 90 then (b.toNat : Int) + 32 else (b.toNat : Int) := by
  unfold lowB
  have := b.toNat_lt
  split
  · rw [u8_of (by omega)]; omega
  · rfl
theorem take_low (s : ByteArray) (k : Nat) (h : k < s.size) : (s.data.toList.take (k + 1)).map lowB = (s.data.toList.take k).map lowB ++ [lowB s[k]] := by
  have h' : k < s.data.toList.length := by rw [Array.length_toList]; exact h
  rw [List.take_succ_eq_append_getElem h', List.map_append]
  rfl
theorem own_low {w : World} {base : Nat} {e : TypeId} {size : Nat} {v : Value} {n : Nat} {xs : List Value} (h : w.ownsRow base e size v n xs) (j : Nat) (hj : v.ownBlock = some j) : base ≤ j := (h.lt j hj).1
set_option maxHeartbeats 4000000 in
set_option maxRecDepth 1000000 in
theorem smallR_any (s : ByteArray) (hs : s.size ≤ 1000000) (z : ByteArray) (hz : z.data.toList = s.data.toList.map lowB) (w : World) :
    Calls Tryd.prog 39 #[.string s] w fun e w' => e = .returned (.string z) ∧ Below w.heap.size w w' := by
  obtain ⟨i0, hi, hz0, hz1, hz2⟩ := info_parts info5
  have HZ := Lib.hid (show (⟨(s.data.toList.map lowB).toArray⟩ : ByteArray) = z from bytes_is (by rw [hz]))
  clear hz
  go_enter Tryd.func39, Tryd.ntmps39
  go_wp2_with fail
  go_loopw [3, 4] (fun v i wr => ∃ k : Nat, k ≤ s.size ∧ i = .int .i64 k ∧ wr.ownsRow w.heap.size 5 1 v k (cellsOf ((s.data.toList.take k).map lowB)) ∧ Below w.heap.size w wr) (fun _ i _ => s.size - (intOf i).toNat)
  case atStart => exact ⟨0, Nat.zero_le _, rfl, World.ownsRow_nil _ _ _ _, Below.refl _ _⟩
  case round =>
    obtain ⟨k, hk, rfl, hown, hbw⟩ := hrel
    have hszr : w.heap.size ≤ wr.heap.size := hbw.size
    by_cases hlt : k < s.size
    · have hq : ∀ W, (Instr.index 9 (.string s) (.int .i64 (k : Int))).run Tryd.prog W = .ok (.int .u8 (s[k].toNat : Int)) W := fun W => run_index_str s k k rfl hlt W
      have hx := UInt8.toNat_lt (s[k]'hlt)
      have HT := Lib.hid (take_low s k hlt)
      have hlow := lowB_nat (s[k]'hlt)
      obtain ⟨c, hc⟩ : ∃ c, lowB (s[k]'hlt) = c := ⟨_, rfl⟩
      rw [hc] at HT hlow
      clear hc
      generalize (s[k]'hlt).toNat = x at hq hx hlow
      have hl : ((s.data.toList.take k).map lowB).length = k := by
        rw [List.length_map, List.length_take, Array.length_toList]
        have : s.size = s.data.size := rfl
        omega
      have HLL := Lib.hid hl
      clear hl
      by_cases x1 : (65 : Int) ≤ (x : Int)
      · by_cases x2 : (x : Int) ≤ 90
        · rw [if_pos (by omega)] at hlow
          go_wp2_with (at_builtin; refine wpList_append_own _ rfl (.tmp 23) (.tmp 25) 36 rfl w.heap.size 5 i0 (.int .u8 0) 1 1 Tryd.underlying36 hi hz0 hz1 hz2 rfl (by decide) _ k (cellsOf ((s.data.toList.take k).map lowB)) rfl (hown.alloc _) ⟨wr.heap.size, 0, none⟩ 1 1 (cellsOf [c]) rfl rfl (by have hb := bytes_new wr [c]; unfold cellsOf at hb ⊢; simp only [List.map_cons, List.map_nil, hlow] at hb ⊢; exact hb) (cellsOf_one _) (by unfold maxLen; omega) (by omega) (by simp; omega) ?_; intro v4 w4 hown4 hgrow4 hnil4)
          go_roundw
          case rel => exact ⟨k + 1, by omega, by go_num, by rw [HT.out]; unfold cellsOf at hown4 ⊢; rw [List.map_append]; exact hown4, (hbw.alloc hszr _).grown hgrow4 (by simp; omega) (fun j hj => (own_low hown j hj))⟩
          case measure => simp [intOf]; omega
        · rw [if_neg (by omega)] at hlow
          go_wp2_with (at_builtin; refine wpList_append_own _ rfl (.tmp 23) (.tmp 25) 36 rfl w.heap.size 5 i0 (.int .u8 0) 1 1 Tryd.underlying36 hi hz0 hz1 hz2 rfl (by decide) _ k (cellsOf ((s.data.toList.take k).map lowB)) rfl (hown.alloc _) ⟨wr.heap.size, 0, none⟩ 1 1 (cellsOf [c]) rfl rfl (by have hb := bytes_new wr [c]; unfold cellsOf at hb ⊢; simp only [List.map_cons, List.map_nil, hlow] at hb ⊢; exact hb) (cellsOf_one _) (by unfold maxLen; omega) (by omega) (by simp; omega) ?_; intro v4 w4 hown4 hgrow4 hnil4)
          go_roundw
          case rel => exact ⟨k + 1, by omega, by go_num, by rw [HT.out]; unfold cellsOf at hown4 ⊢; rw [List.map_append]; exact hown4, (hbw.alloc hszr _).grown hgrow4 (by simp; omega) (fun j hj => (own_low hown j hj))⟩
          case measure => simp [intOf]; omega
      · rw [if_neg (by omega)] at hlow
        go_wp2_with (at_builtin; refine wpList_append_own _ rfl (.tmp 23) (.tmp 25) 36 rfl w.heap.size 5 i0 (.int .u8 0) 1 1 Tryd.underlying36 hi hz0 hz1 hz2 rfl (by decide) _ k (cellsOf ((s.data.toList.take k).map lowB)) rfl (hown.alloc _) ⟨wr.heap.size, 0, none⟩ 1 1 (cellsOf [c]) rfl rfl (by have hb := bytes_new wr [c]; unfold cellsOf at hb ⊢; simp only [List.map_cons, List.map_nil, hlow] at hb ⊢; exact hb) (cellsOf_one _) (by unfold maxLen; omega) (by omega) (by simp; omega) ?_; intro v4 w4 hown4 hgrow4 hnil4)
        go_roundw
        case rel => exact ⟨k + 1, by omega, by go_num, by rw [HT.out]; unfold cellsOf at hown4 ⊢; rw [List.map_append]; exact hown4, (hbw.alloc hszr _).grown hgrow4 (by simp; omega) (fun j hj => (own_low hown j hj))⟩
        case measure => simp [intOf]; omega
    · have hkM : k = s.size := by omega
      subst hkM
      have hcv := conv_any (l := s.data.toList.map lowB) (n := s.size) (by rw [List.length_map]; rfl) (by rw [List.take_of_length_le (by rw [Array.length_toList]; exact Nat.le_refl _)] at hown; exact hown)
      rw [HZ.out] at hcv
      go_wp2_with fail
      go_ret
      exact ⟨rfl, hbw⟩

theorem kind_low2 (l : List UInt8) (z : ByteArray) (hz : z.data.toList = l.map lowB) : kindK z = kindL l := by
  unfold kindL
  congr 1
  exact bytes_is (by rw [hz])
theorem key_ne {z a b : ByteArray} (h : z = a) (hab : (a == b) = false) : ¬ z = b := by
  intro e
  rw [← h, e, bytes_eqb, decide_eq_true rfl] at hab
  cases hab
theorem key_list (z key : ByteArray) (l : List UInt8) (hl : key.data.toList = l) : (z.toList == l) = decide (z = key) := by
  rw [Bool.eq_iff_iff, beq_iff_eq, ByteArray.toList_eq, decide_eq_true_eq, ← hl]
  exact ⟨bytes_is, fun h => by rw [h]⟩
set_option maxHeartbeats 4000000 in
set_option maxRecDepth 1000000 in
theorem kindR_any (s : ByteArray) (hs : s.size ≤ 1000000) (k : Nat) (hk : kindL s.data.toList = k) (w : World) :
    Calls Tryd.prog 24 #[.string s] w fun e w' => e = .returned (.int .i64 k) ∧ Below w.heap.size w w' := by
  obtain ⟨z, hz⟩ := list_of (s.data.toList.map lowB)
  have HK := Lib.hid ((kind_low2 _ z hz).trans hk)
  have KS := Lib.hid (smallR_any s hs z hz w)
  clear hz hk
  have l0 := key_list z key0 [117, 115, 45, 97, 115, 99, 105, 105] rfl
  have l1 := key_list z key1 [97, 115, 99, 105, 105] rfl
  have l2 := key_list z key2 [117, 116, 102, 45, 56] rfl
  have l3 := key_list z key3 [117, 116, 102, 56] rfl
  have l4 := key_list z key4 [105, 115, 111, 45, 56, 56, 53, 57, 45, 49] rfl
  have l5 := key_list z key5 [108, 97, 116, 105, 110, 49] rfl
  have l6 := key_list z key6 [119, 105, 110, 100, 111, 119, 115, 45, 49, 50, 53, 50] rfl
  have l7 := key_list z key7 [99, 112, 49, 50, 53, 50] rfl
  by_cases h0 : z = key0
  · have hk0 : k = 1 := by rw [← HK.out]; unfold kindK; simp only [if_pos h0]
    subst hk0
    rw [decide_eq_true h0] at l0
    rw [decide_eq_false (key_ne h0 (show (key0 == key1) = false by decide))] at l1
    rw [decide_eq_false (key_ne h0 (show (key0 == key2) = false by decide))] at l2
    rw [decide_eq_false (key_ne h0 (show (key0 == key3) = false by decide))] at l3
    rw [decide_eq_false (key_ne h0 (show (key0 == key4) = false by decide))] at l4
    rw [decide_eq_false (key_ne h0 (show (key0 == key5) = false by decide))] at l5
    rw [decide_eq_false (key_ne h0 (show (key0 == key6) = false by decide))] at l6
    rw [decide_eq_false (key_ne h0 (show (key0 == key7) = false by decide))] at l7
    clear h0
    go_enter Tryd.func24, Tryd.ntmps24
    go_wp2_with (go_at_call 39; refine KS.out.mono ?_; rintro e w1 ⟨rfl, hb1⟩)
    go_ret
    exact ⟨rfl, hb1⟩
  · by_cases h1 : z = key1
    · have hk0 : k = 1 := by rw [← HK.out]; unfold kindK; simp only [if_neg h0, if_pos h1]
      subst hk0
      rw [decide_eq_false h0] at l0
      rw [decide_eq_true h1] at l1
      rw [decide_eq_false (key_ne h1 (show (key1 == key2) = false by decide))] at l2
      rw [decide_eq_false (key_ne h1 (show (key1 == key3) = false by decide))] at l3
      rw [decide_eq_false (key_ne h1 (show (key1 == key4) = false by decide))] at l4
      rw [decide_eq_false (key_ne h1 (show (key1 == key5) = false by decide))] at l5
      rw [decide_eq_false (key_ne h1 (show (key1 == key6) = false by decide))] at l6
      rw [decide_eq_false (key_ne h1 (show (key1 == key7) = false by decide))] at l7
      clear h1
      go_enter Tryd.func24, Tryd.ntmps24
      go_wp2_with (go_at_call 39; refine KS.out.mono ?_; rintro e w1 ⟨rfl, hb1⟩)
      go_ret
      exact ⟨rfl, hb1⟩
    · by_cases h2 : z = key2
      · have hk0 : k = 2 := by rw [← HK.out]; unfold kindK; simp only [if_neg h0, if_neg h1, if_pos h2]
        subst hk0
        rw [decide_eq_false h0] at l0
        rw [decide_eq_false h1] at l1
        rw [decide_eq_true h2] at l2
        rw [decide_eq_false (key_ne h2 (show (key2 == key3) = false by decide))] at l3
        rw [decide_eq_false (key_ne h2 (show (key2 == key4) = false by decide))] at l4
        rw [decide_eq_false (key_ne h2 (show (key2 == key5) = false by decide))] at l5
        rw [decide_eq_false (key_ne h2 (show (key2 == key6) = false by decide))] at l6
        rw [decide_eq_false (key_ne h2 (show (key2 == key7) = false by decide))] at l7
        clear h2
        go_enter Tryd.func24, Tryd.ntmps24
        go_wp2_with (go_at_call 39; refine KS.out.mono ?_; rintro e w1 ⟨rfl, hb1⟩)
        go_ret
        exact ⟨rfl, hb1⟩
      · by_cases h3 : z = key3
        · have hk0 : k = 2 := by rw [← HK.out]; unfold kindK; simp only [if_neg h0, if_neg h1, if_neg h2, if_pos h3]
          subst hk0
          rw [decide_eq_false h0] at l0
          rw [decide_eq_false h1] at l1
          rw [decide_eq_false h2] at l2
          rw [decide_eq_true h3] at l3
          rw [decide_eq_false (key_ne h3 (show (key3 == key4) = false by decide))] at l4
          rw [decide_eq_false (key_ne h3 (show (key3 == key5) = false by decide))] at l5
          rw [decide_eq_false (key_ne h3 (show (key3 == key6) = false by decide))] at l6
          rw [decide_eq_false (key_ne h3 (show (key3 == key7) = false by decide))] at l7
          clear h3
          go_enter Tryd.func24, Tryd.ntmps24
          go_wp2_with (go_at_call 39; refine KS.out.mono ?_; rintro e w1 ⟨rfl, hb1⟩)
          go_ret
          exact ⟨rfl, hb1⟩
        · by_cases h4 : z = key4
          · have hk0 : k = 3 := by rw [← HK.out]; unfold kindK; simp only [if_neg h0, if_neg h1, if_neg h2, if_neg h3, if_pos h4]
            subst hk0
            rw [decide_eq_false h0] at l0
            rw [decide_eq_false h1] at l1
            rw [decide_eq_false h2] at l2
            rw [decide_eq_false h3] at l3
            rw [decide_eq_true h4] at l4
            rw [decide_eq_false (key_ne h4 (show (key4 == key5) = false by decide))] at l5
            rw [decide_eq_false (key_ne h4 (show (key4 == key6) = false by decide))] at l6
            rw [decide_eq_false (key_ne h4 (show (key4 == key7) = false by decide))] at l7
            clear h4
            go_enter Tryd.func24, Tryd.ntmps24
            go_wp2_with (go_at_call 39; refine KS.out.mono ?_; rintro e w1 ⟨rfl, hb1⟩)
            go_ret
            exact ⟨rfl, hb1⟩
          · by_cases h5 : z = key5
            · have hk0 : k = 3 := by rw [← HK.out]; unfold kindK; simp only [if_neg h0, if_neg h1, if_neg h2, if_neg h3, if_neg h4, if_pos h5]
              subst hk0
              rw [decide_eq_false h0] at l0
              rw [decide_eq_false h1] at l1
              rw [decide_eq_false h2] at l2
              rw [decide_eq_false h3] at l3
              rw [decide_eq_false h4] at l4
              rw [decide_eq_true h5] at l5
              rw [decide_eq_false (key_ne h5 (show (key5 == key6) = false by decide))] at l6
              rw [decide_eq_false (key_ne h5 (show (key5 == key7) = false by decide))] at l7
              clear h5
              go_enter Tryd.func24, Tryd.ntmps24
              go_wp2_with (go_at_call 39; refine KS.out.mono ?_; rintro e w1 ⟨rfl, hb1⟩)
              go_ret
              exact ⟨rfl, hb1⟩
            · by_cases h6 : z = key6
              · have hk0 : k = 4 := by rw [← HK.out]; unfold kindK; simp only [if_neg h0, if_neg h1, if_neg h2, if_neg h3, if_neg h4, if_neg h5, if_pos h6]
                subst hk0
                rw [decide_eq_false h0] at l0
                rw [decide_eq_false h1] at l1
                rw [decide_eq_false h2] at l2
                rw [decide_eq_false h3] at l3
                rw [decide_eq_false h4] at l4
                rw [decide_eq_false h5] at l5
                rw [decide_eq_true h6] at l6
                rw [decide_eq_false (key_ne h6 (show (key6 == key7) = false by decide))] at l7
                clear h6
                go_enter Tryd.func24, Tryd.ntmps24
                go_wp2_with (go_at_call 39; refine KS.out.mono ?_; rintro e w1 ⟨rfl, hb1⟩)
                go_ret
                exact ⟨rfl, hb1⟩
              · by_cases h7 : z = key7
                · have hk0 : k = 4 := by rw [← HK.out]; unfold kindK; simp only [if_neg h0, if_neg h1, if_neg h2, if_neg h3, if_neg h4, if_neg h5, if_neg h6, if_pos h7]
                  subst hk0
                  rw [decide_eq_false h0] at l0
                  rw [decide_eq_false h1] at l1
                  rw [decide_eq_false h2] at l2
                  rw [decide_eq_false h3] at l3
                  rw [decide_eq_false h4] at l4
                  rw [decide_eq_false h5] at l5
                  rw [decide_eq_false h6] at l6
                  rw [decide_eq_true h7] at l7
                  clear h7
                  go_enter Tryd.func24, Tryd.ntmps24
                  go_wp2_with (go_at_call 39; refine KS.out.mono ?_; rintro e w1 ⟨rfl, hb1⟩)
                  go_ret
                  exact ⟨rfl, hb1⟩
                · have hk0 : k = 0 := by rw [← HK.out]; unfold kindK; simp only [if_neg h0, if_neg h1, if_neg h2, if_neg h3, if_neg h4, if_neg h5, if_neg h6, if_neg h7]
                  subst hk0
                  rw [decide_eq_false h0] at l0
                  rw [decide_eq_false h1] at l1
                  rw [decide_eq_false h2] at l2
                  rw [decide_eq_false h3] at l3
                  rw [decide_eq_false h4] at l4
                  rw [decide_eq_false h5] at l5
                  rw [decide_eq_false h6] at l6
                  rw [decide_eq_false h7] at l7
                  go_enter Tryd.func24, Tryd.ntmps24
                  go_wp2_with (go_at_call 39; refine KS.out.mono ?_; rintro e w1 ⟨rfl, hb1⟩)
                  go_ret
                  exact ⟨rfl, hb1⟩
theorem knownR_any (s : ByteArray) (hs : s.size ≤ 1000000) (b : Bool) (hb : decide (kindL s.data.toList ≠ 0) = b) (w : World) :
    Calls Tryd.prog 21 #[.string s] w fun e w' => e = .returned (.bool b) ∧ Below w.heap.size w w' := by
  obtain ⟨k, hk⟩ : ∃ k, kindL s.data.toList = k := ⟨_, rfl⟩
  have KK := Lib.hid (kindR_any s hs k hk w)
  rw [hk] at hb
  clear hk
  by_cases h0 : k = 0
  · subst h0
    subst hb
    go_enter Tryd.func21, Tryd.ntmps21
    go_wp2_with (go_at_call 24; refine KK.out.mono ?_; rintro e w1 ⟨rfl, hb1⟩)
    go_ret
    exact ⟨rfl, hb1⟩
  · rw [decide_eq_true h0] at hb
    subst hb
    have h1 : decide (0 < k) = true := decide_eq_true (by omega)
    go_enter Tryd.func21, Tryd.ntmps21
    go_wp2_with (go_at_call 24; refine KK.out.mono ?_; rintro e w1 ⟨rfl, hb1⟩)
    go_ret
    exact ⟨rfl, hb1⟩
end Go.Proofs.YtbmnoneeialfpaaDoor
