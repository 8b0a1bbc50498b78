/- The reference's Fold and Equal. -/
import Derived.Test.YtbplbifmohbfdaaDoorRefF
namespace Go.Proofs.YtbplbifmohbfdaaDoor
open Go.ChangeShapes Go.WideShapes Go.ChangeAt Go.RowKit

theorem info5 : (Tryd.prog.info? 5).map (fun i => (i.zero, i.size, i.bytes)) = some (some (.int .u8 0), 1, 1) := by kernel_rfl
def cellsOf (l : List UInt8) : List Value := l.map fun c => Value.int .u8 c.toNat
theorem cells_app (a b : List UInt8) : cellsOf a ++ cellsOf b = cellsOf (a ++ b) := by unfold cellsOf; rw [List.map_append]
theorem conv_own {w : World} {base b n cap : Nat} {l : List UInt8} (hl : l.length = n) (hown : w.ownsRow base 5 1 (.slice (some ⟨b, 0, none⟩) n cap) n (cellsOf l)) :
    (convert 40 9 (.slice (some ⟨b, 0, none⟩) n cap)).run Tryd.prog w = .ok (.string ⟨l.toArray⟩) w := by
  subst hl
  refine run_convert_bytes_back w 40 9 5 ⟨b, 0, none⟩ cap l Tryd.underlying40 Tryd.underlying5 Tryd.underlying9 fun j hj => ?_
  refine hown.cells (g := b) rfl j _ ?_
  unfold cellsOf
  rw [List.getElem?_map, List.getElem?_eq_getElem hj]; rfl
theorem conv_any {w : World} {base n : Nat} {v : Value} {l : List UInt8} (hl : l.length = n) (hown : w.ownsRow base 5 1 v n (cellsOf l)) :
    (convert 40 9 v).run Tryd.prog w = .ok (.string ⟨l.toArray⟩) w := by
  rcases hown.2 with ⟨rfl, h⟩ | ⟨g, cap, cur, rfl, _⟩
  · obtain rfl : l = [] := List.eq_nil_of_length_eq_zero (by rw [hl, h])
    kernel_rfl
  · exact conv_own hl hown
theorem isU_one1 {u : List UInt8} (h : IsU u) (hl : u.length = 1) : ∃ b : UInt8, u = [b] ∧ (b.toNat < 128 → foldU u = [UInt8.ofNat (lowN b.toNat)] ∧ lowN b.toNat < 128) ∧ (¬ b.toNat < 128 → foldU u = [b]) := by
  rcases h with ⟨n, hn, rfl⟩ | ⟨b, rfl, hb⟩
  · have h1 : n < 128 := by
      rcases Nat.lt_or_ge n 128 with h | h
      · exact h
      · exfalso
        by_cases h2 : n < 2048
        · have := enc2 h h2; omega
        · by_cases h3 : n < 65536
          · have := enc3 (by omega) h3; omega
          · have := enc4 (by omega : 65536 ≤ n); omega
    have e : encL n = [UInt8.ofNat n] := by unfold encL; rw [if_pos h1]
    have hl := low_small ⟨n, by omega⟩
    simp only at hl
    have h2 : lowN n < 128 := hl.2.2.2 h1
    have en : (UInt8.ofNat n).toNat = n := nat_byte (by omega)
    refine ⟨UInt8.ofNat n, e, fun _ => ?_, fun h => by rw [en] at h; exact absurd h1 h⟩
    rw [en, foldU_enc hn]
    exact ⟨by unfold encL; rw [if_pos h2], h2⟩
  · have h1 := asc_single hb
    exact ⟨b, rfl, fun h => by omega, fun _ => foldU_single hb⟩
theorem isU_two2 {u : List UInt8} (h : IsU u) (hl : u.length = 2) : runeR u < 2048 ∧ lowN (runeR u) < 2048 ∧ 128 ≤ lowN (runeR u) ∧ foldU u = [UInt8.ofNat (192 + lowN (runeR u) / 64), UInt8.ofNat (128 + lowN (runeR u) % 64)] := by
  rcases h with ⟨n, hn, rfl⟩ | ⟨b, rfl, hb⟩
  · have h1 : 128 ≤ n ∧ n < 2048 := by
      by_cases h0 : n < 128
      · have := enc1 h0; omega
      · by_cases h2 : n < 2048
        · exact ⟨by omega, h2⟩
        · exfalso
          by_cases h3 : n < 65536
          · have := enc3 (by omega) h3; omega
          · have := enc4 (by omega : 65536 ≤ n); omega
    have hl := low_small ⟨n, h1.2⟩
    simp only at hl
    have h3 : ¬ lowN n < 128 := fun h => by have := hl.2.2.1 h; omega
    rw [rune_enc hn h1.1, foldU_enc hn]
    refine ⟨h1.2, hl.2.1, by omega, ?_⟩
    unfold encL
    rw [if_neg h3, if_pos hl.2.1]
  · simp at hl
theorem isU_more3 {u : List UInt8} (h : IsU u) (hl : 3 ≤ u.length) : foldU u = u := by
  rcases h with ⟨n, hn, rfl⟩ | ⟨b, rfl, hb⟩
  · have h1 : 2048 ≤ n := by
      by_cases h0 : n < 128
      · have := enc1 h0; omega
      · by_cases h2 : n < 2048
        · have := enc2 (by omega) h2; omega
        · omega
    rw [foldU_enc hn, low_big h1]
  · simp at hl
theorem news_one5 (W : World) (x : Value) (t : TypeId) : ∀ j u, [x][j]? = some u → (W.alloc (.cells #[x] t)).cell? ((⟨W.heap.size, 0, none⟩ : Addr).add j) = some u := by
  intro j u h
  rw [add_none, Nat.zero_add]
  have := Go.heap_alloc_new W (.cells #[x] t)
  simp only [World.cell?, this]
  simpa using h
theorem news_two5 (W : World) (x y : Value) (t : TypeId) : ∀ j u, [x, y][j]? = some u → (W.alloc (.cells #[x, y] t)).cell? ((⟨W.heap.size, 0, none⟩ : Addr).add j) = some u := by
  intro j u h
  rw [add_none, Nat.zero_add]
  have := Go.heap_alloc_new W (.cells #[x, y] t)
  simp only [World.cell?, this]
  simpa using h
theorem one5 (a : Int) : ∀ u ∈ [Value.int .u8 a], u.oneCell' = true := by
  intro u hu
  simp at hu
  subst hu
  rfl
theorem two5 (a b : Int) : ∀ u ∈ [Value.int .u8 a, Value.int .u8 b], u.oneCell' = true := by
  intro u hu
  simp at hu
  rcases hu with rfl | rfl <;> rfl
theorem cells_one (d : List UInt8) (x : Nat) (hx : x < 256) : cellsOf d ++ [.int .u8 (x : Int)] = cellsOf (d ++ [UInt8.ofNat x]) := by
  rw [← cells_app]
  unfold cellsOf
  rw [List.map_cons, List.map_nil, nat_byte hx]
theorem cells_two (d : List UInt8) (x y : Nat) (hx : x < 256) (hy : y < 256) : cellsOf d ++ [.int .u8 (x : Int), .int .u8 (y : Int)] = cellsOf (d ++ [UInt8.ofNat x, UInt8.ofNat y]) := by
  rw [← cells_app]
  unfold cellsOf
  rw [List.map_cons, List.map_cons, List.map_nil, nat_byte hx, nat_byte hy]
set_option maxHeartbeats 4000000 in
set_option maxRecDepth 1000000 in
theorem rfold_any (s : ByteArray) (hs : s.size ≤ 1000000) (w : World) :
    Calls Tryd.prog 13 #[.string s] w fun e w' => e = .returned (.string (strL (foldL s.data.toList))) ∧ Below w.heap.size w w' := by
  obtain ⟨i0, hi, hz0, hz1, hz2⟩ := info_parts info5
  have hlen : (unitsL s.data.toList).length ≤ s.size := by rw [size_list]; exact units_le _
  have hisU := units_isU s.data.toList
  have hul := units_len s.data.toList
  have cU := runits_any s hs w
  obtain ⟨R, hR⟩ : ∃ R, foldL s.data.toList = R := ⟨_, rfl⟩
  have hRl : R.length ≤ 1000000 := by rw [← hR, fold_len, ← size_list]; exact hs
  have HR : Hid (((unitsL s.data.toList).map foldU).flatten = R) := Lib.hid hR
  rw [hR]
  clear hR
  generalize unitsL s.data.toList = U at cU hlen hisU hul HR
  obtain ⟨N, hN⟩ : ∃ N, U.length = N := ⟨_, rfl⟩
  rw [hN] at cU hlen
  replace hisU := Lib.hid hisU
  replace hul := Lib.hid hul
  go_enter Tryd.func13, Tryd.ntmps13
  go_wp2_with fail
  refine cU.mono ?_
  rintro e W1 ⟨ua, uc, rfl, hSU, hb1⟩
  clear cU
  have hz := hb1.size
  go_wp2_with fail
  go_loopw [4, 5] (fun v i wr => ∃ (k m : Nat) (d : List UInt8), i = .int .i64 k ∧ k ≤ N ∧ m ≤ 4 * k ∧ d.length = m ∧ wr.ownsRow W1.heap.size 5 1 v m (cellsOf d) ∧ Below W1.heap.size W1 wr ∧ Hid (d ++ ((U.drop k).map foldU).flatten = R)) (fun _ i _ => N - (intOf i).toNat)
  case atStart => exact ⟨0, 0, [], rfl, Nat.zero_le _, Nat.le_refl _, rfl, World.ownsRow_nil _ _ _ _, Below.refl _ _, Lib.hid (by rw [List.drop_zero]; exact HR.out)⟩
  case round =>
    obtain ⟨k, m, d, rfl, hk, hm, hdm, hown, hbw, HK⟩ := hrel
    have hst := HK.out
    by_cases hlt : k < N
    · have hkU : k < U.length := by omega
      have hSr := hSU.below hbw
      obtain ⟨g1, o1, rfl, l1⟩ := hSr.get hkU
      obtain ⟨u, hu⟩ : ∃ u, U[k] = u := ⟨_, rfl⟩
      have hum : u ∈ U := by rw [← hu]; exact List.getElem_mem hkU
      have hIs := hisU.out u hum
      have hu14 := hul.out u hum
      rw [hu] at l1
      rw [List.drop_eq_getElem_cons hkU, hu, List.map_cons, List.flatten_cons, ← List.append_assoc] at hst
      have hszr := hbw.size
      have hlg := cell_lt l1
      have hlt0 : ∀ j, u4.ownBlock = some j → W1.heap.size ≤ j := fun j hj => (hown.lt j hj).1
      replace hlt0 := Lib.hid hlt0
      have zu := strL_size u
      clear hu hum HK hSU hSr
      by_cases c1 : u.length = 1
      · obtain ⟨b, hub, hlo, hhi⟩ := isU_one1 hIs c1
        have hq : ∀ W, (Instr.index 9 (.string (strL u)) (.int .i64 0)).run Tryd.prog W = .ok (.int .u8 (b.toNat : Int)) W := fun W => by
          subst hub
          exact run_index_str (strL [b]) 0 0 rfl (by rw [strL_size]; exact Nat.one_pos) W
        have hx := b.toNat_lt
        rw [c1] at zu
        obtain ⟨S, hS⟩ : ∃ S, strL u = S := ⟨_, rfl⟩
        rw [hS] at l1 hq zu
        clear hS hub c1 hIs hu14
        by_cases c2 : b.toNat < 128
        · obtain ⟨hf, hy⟩ := hlo c2
          rw [hf] at hst
          have kL := fun W => rlower_any b.toNat (by omega) W
          clear hlo hhi hf
          generalize lowN b.toNat = y at hy hst kL
          generalize b.toNat = x at hq hx c2 kL
          replace hst := Lib.hid hst
          go_wp2_with (first
            | (go_at_call 27; with_reducible refine (kL _).mono ?_; rintro e w1 ⟨rfl, rfl⟩)
            | (at_builtin; refine wpList_append_own_at _ rfl (.tmp 39) (.tmp 42) 40 rfl W1.heap.size 5 i0 (.int .u8 0) 1 1 Tryd.underlying40 hi hz0 hz1 hz2 rfl (by decide) u4 m (cellsOf d) rfl (hown.alloc _) ⟨_, 0, none⟩ 1 1 [.int .u8 (y : Int)] rfl rfl (news_one5 _ _ _) (one5 _) (by unfold maxLen; omega) (by omega) (by simp; omega) ?_; intro v2 w2 hown2 hgrow2 hnil2 hblk2; rw [cells_one d y (by omega)] at hown2; replace hgrow2 := Lib.hid hgrow2; clear hnil2 hblk2))
          go_roundw
          case rel => exact ⟨k + 1, m + 1, d ++ [UInt8.ofNat y], rfl, by omega, by omega, by rw [List.length_append, hdm]; rfl, hown2, (hbw.alloc hszr _).grown hgrow2.out (by simp; omega) hlt0.out, hst⟩
          case measure => simp only [intOf]; omega
        · rw [hhi c2] at hst
          have hbb : UInt8.ofNat b.toNat = b := byte_of rfl
          rw [← hbb] at hst
          clear hlo hhi hbb
          generalize b.toNat = x at hq hx c2 hst
          replace hst := Lib.hid hst
          have c3 : ¬ (x : Int) < 128 := by omega
          go_wp2_with (at_builtin; refine wpList_append_own_at _ rfl (.tmp 39) (.tmp 42) 40 rfl W1.heap.size 5 i0 (.int .u8 0) 1 1 Tryd.underlying40 hi hz0 hz1 hz2 rfl (by decide) u4 m (cellsOf d) rfl (hown.alloc _) ⟨_, 0, none⟩ 1 1 [.int .u8 (x : Int)] rfl rfl (news_one5 _ _ _) (one5 _) (by unfold maxLen; omega) (by omega) (by simp; omega) ?_; intro v2 w2 hown2 hgrow2 hnil2 hblk2; rw [cells_one d x (by omega)] at hown2; replace hgrow2 := Lib.hid hgrow2; clear hnil2 hblk2)
          go_roundw
          case rel => exact ⟨k + 1, m + 1, d ++ [UInt8.ofNat x], rfl, by omega, by omega, by rw [List.length_append, hdm]; rfl, hown2, (hbw.alloc hszr _).grown hgrow2.out (by simp; omega) hlt0.out, hst⟩
          case measure => simp only [intOf]; omega
      · by_cases c2 : u.length = 2
        · obtain ⟨hr1, hr2, hr3, hf⟩ := isU_two2 hIs c2
          have kR := fun W => rune_any (strL u) (by omega) (by omega) W
          rw [strL_list] at kR
          have kL := fun W => rlower_any (runeR u) (by omega) W
          rw [hf] at hst
          rw [c2] at zu
          generalize strL u = S at l1 zu kR
          generalize lowN (runeR u) = y at hr2 hr3 hst kL
          generalize runeR u = r at hr1 kR kL
          replace hst := Lib.hid hst
          clear hf hIs c1 c2 hu14
          go_wp2_with (first
            | (go_at_call 28; with_reducible refine (kR _).mono ?_; rintro e w1 ⟨rfl, rfl⟩)
            | (go_at_call 27; with_reducible refine (kL _).mono ?_; rintro e w1 ⟨rfl, rfl⟩)
            | (at_builtin; refine wpList_append_own_at _ rfl (.tmp 52) (.tmp 61) 40 rfl W1.heap.size 5 i0 (.int .u8 0) 1 1 Tryd.underlying40 hi hz0 hz1 hz2 rfl (by decide) u4 m (cellsOf d) rfl (hown.alloc _) ⟨_, 0, none⟩ 2 2 [.int .u8 ((192 + y / 64 : Nat) : Int), .int .u8 ((128 + y % 64 : Nat) : Int)] rfl rfl (news_two5 _ _ _ _) (two5 _ _) (by unfold maxLen; omega) (by omega) (by simp; omega) ?_; intro v2 w2 hown2 hgrow2 hnil2 hblk2; rw [cells_two d _ _ (by omega) (by omega)] at hown2; replace hgrow2 := Lib.hid hgrow2; clear hnil2 hblk2))
          go_roundw
          case rel => exact ⟨k + 1, m + 2, d ++ [UInt8.ofNat (192 + y / 64), UInt8.ofNat (128 + y % 64)], rfl, by omega, by omega, by rw [List.length_append, hdm]; rfl, hown2, (hbw.alloc hszr _).grown hgrow2.out (by simp; omega) hlt0.out, hst⟩
          case measure => simp only [intOf]; omega
        · rw [isU_more3 hIs (by omega)] at hst
          have hcs : Lib.strCells (strL u) = cellsOf u := rfl
          have c3 : ¬ (u.length : Int) = 1 := by omega
          have c4 : ¬ (u.length : Int) = 2 := by omega
          obtain ⟨n, hn⟩ : ∃ n, u.length = n := ⟨_, rfl⟩
          rw [hn] at zu c3 c4 hu14
          obtain ⟨S, hS⟩ : ∃ S, strL u = S := ⟨_, rfl⟩
          rw [hS] at l1 zu hcs
          replace hst := Lib.hid hst
          clear hIs hS c1 c2
          go_wp2_with (at_builtin; refine Lib.wpList_append_own_string _ rfl (.tmp 21) (.tmp 25) 40 9 rfl W1.heap.size 5 i0 Tryd.underlying40 Tryd.underlying9 hi hz0 hz1 hz2 u4 m (cellsOf d) rfl hown S rfl (by unfold maxLen; omega) (by omega) (by omega) ?_; intro v2 w2 hown2 hgrow2 hnil2; rw [hcs, cells_app, zu] at hown2; replace hgrow2 := Lib.hid hgrow2; clear hnil2)
          go_roundw
          case rel => exact ⟨k + 1, m + n, d ++ u, rfl, by omega, by omega, by rw [List.length_append, hdm, hn], hown2, hbw.grown hgrow2.out hszr hlt0.out, hst⟩
          case measure => simp only [intOf]; omega
    · rw [List.drop_eq_nil_of_le (by omega)] at hst
      simp only [List.map_nil, List.flatten_nil, List.append_nil] at hst
      subst hst
      have hcv := conv_any hdm hown
      go_wp2_with fail
      go_ret
      exact ⟨rfl, hb1.trans (hbw.mono hz)⟩
theorem requal_any (a b : ByteArray) (ha : a.size ≤ 1000000) (hb : b.size ≤ 1000000) (r : Bool) (hr : decide (foldL a.data.toList = foldL b.data.toList) = r) (w : World) :
    Calls Tryd.prog 15 #[.string a, .string b] w fun e w' => e = .returned (.bool r) ∧ Below w.heap.size w w' := by
  have c1 := rfold_any a ha w
  have c2 := fun w' => rfold_any b hb w'
  obtain ⟨A, hA⟩ : ∃ A, strL (foldL a.data.toList) = A := ⟨_, rfl⟩
  obtain ⟨B, hB⟩ : ∃ B, strL (foldL b.data.toList) = B := ⟨_, rfl⟩
  rw [hA] at c1
  rw [hB] at c2
  have hAB : (A.toList == B.toList) = r := by
    rw [eq_lists, bytes_eqb, ← hr, Bool.eq_iff_iff, decide_eq_true_eq, decide_eq_true_eq, ← hA, ← hB, strL_inj]
  clear hA hB hr
  go_enter Tryd.func15, Tryd.ntmps15
  go_wp2_with fail
  refine c1.mono ?_
  rintro e w1 ⟨rfl, hb1⟩
  have hs1 := hb1.size
  have C2 := c2 w1
  go_wp2_with fail
  refine C2.mono ?_
  rintro e w2 ⟨rfl, hb2⟩
  go_wp2_with fail
  go_ret
  exact ⟨rfl, hb1.trans (hb2.mono hs1)⟩
end Go.Proofs.YtbplbifmohbfdaaDoor
