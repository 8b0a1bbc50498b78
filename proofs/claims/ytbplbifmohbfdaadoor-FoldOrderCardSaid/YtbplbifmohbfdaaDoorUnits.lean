/- fold.Units: the units of a string, into a slice that has room for all. -/
import Derived.Test.YtbplbifmohbfdaaDoorText
namespace Go.Proofs.YtbplbifmohbfdaaDoor
open Go.ChangeShapes Go.WideShapes Go.ChangeAt Go.RowKit

theorem units_count (l : List UInt8) : (unitsL l).length = (runesL l).length := by
  refine utf_all (p := fun l => (unitsL l).length = (runesL l).length) rfl ?_ ?_ l
  · intro n t hn ih
    rw [units_enc hn, runes_enc hn, List.length_cons, List.length_cons, ih]
  · intro b t hf ih
    rw [units_none hf, runes_none hf, List.length_cons, List.length_cons, ih]
theorem units_le (l : List UInt8) : (unitsL l).length ≤ l.length := by
  rw [units_count]; exact (runes_len l).1
/-- The unit that stands at a place, and the rest. -/
theorem units_at (s : ByteArray) (pos : Nat) (h : pos < s.size) : unitsL (s.data.toList.drop pos) = (s.data.toList.drop pos).take (Utf8.decode s pos).2 :: unitsL (s.data.toList.drop (pos + (Utf8.decode s pos).2)) := by
  rcases decode_cases s pos h with ⟨n, t, hc, ht, he, hr⟩ | ⟨b, t, hf, ht, he, hr⟩
  · rw [he]
    simp only
    rw [hr, ht, units_enc hc, List.take_left]
  · rw [he]
    simp only
    rw [hr, ht, units_none hf]; rfl
theorem drop_all (s : ByteArray) (pos : Nat) (h : s.size ≤ pos) : s.data.toList.drop pos = [] := List.drop_eq_nil_of_le (by rw [← size_list]; exact h)
theorem strs_len (l : List (List UInt8)) : (strsOf l).length = l.length := List.length_map ..
set_option maxHeartbeats 4000000 in
set_option maxRecDepth 1000000 in
theorem units_any (s : ByteArray) (hs : s.size ≤ 1000000) (w : World) :
    Calls Tryd.prog 10 #[.string s] w fun e w' => ∃ g, e = .returned (.slice (some ⟨g, 0, none⟩) (unitsL s.data.toList).length (unitsL s.data.toList).length) ∧ Strs w' (some ⟨g, 0, none⟩) (unitsL s.data.toList) ∧ g < w'.heap.size ∧ Below w.heap.size w w' := by
  obtain ⟨i0, hi, hz0, hz1, hz2⟩ := info_parts info9
  have hlen : (unitsL s.data.toList).length ≤ s.size := by rw [size_list]; exact units_le _
  have cC := clone_any s hs w
  have cR := fun w => Tryd.utf8_RuneCountInString s w (by omega)
  rw [count_eq, ← units_count] at cR
  obtain ⟨U, hU⟩ : ∃ U, unitsL s.data.toList = U := ⟨_, rfl⟩
  rw [hU] at cR hlen ⊢
  have HU := Lib.hid hU
  clear hU
  obtain ⟨M, hM⟩ : ∃ M, U.length = M := ⟨_, rfl⟩
  rw [hM] at cR hlen ⊢
  have HM := Lib.hid hM
  clear hM
  go_enter Tryd.func10, Tryd.ntmps10
  go_wp2_with fail
  refine cC.mono ?_
  rintro e W0 ⟨rfl, hb0⟩
  have cR0 := cR W0
  clear cC cR
  go_wp2_with (first
    | (go_at_call 23; refine cR0.mono ?_; rintro e W1 ⟨rfl, pos0, hW1⟩; have hb1 : Below w.heap.size w W1 := (by rw [hW1]; exact hb0.alloc hb0.size _); clear hW1)
    | (at_make; refine wpList_make_own _ rfl _ _ 24 rfl w.heap.size 9 i0 (.string ⟨#[]⟩) 1 Tryd.underlying24 hi hz0 hz1 _ _ _ M rfl rfl rfl ?b1 ?b2 ?b3 ?_))
  case b1 => rw [hz2]; omega
  case b2 => unfold maxLen; omega
  case b3 => exact hb1.size
  intro W2 hown hgrow
  obtain ⟨g, hg⟩ : ∃ g, W1.heap.size = g := ⟨_, rfl⟩
  rw [hg] at hown ⊢
  have hwg : w.heap.size ≤ g := by rw [← hg]; exact hb1.size
  have hgl : g < W2.heap.size := (hown.lt g rfl).2
  have hb2 : Below w.heap.size w W2 := hb1.grown hgrow hb1.size (fun k hk => by cases hk)
  clear hgrow hb1 hg cR0 hb0
  go_wp2_with fail
  go_loopw [3, 4] (fun v st wr => ∃ (pos q k : Nat), v = .slice (some ⟨g, 0, none⟩) k M ∧ st = .int .i64 q ∧ k ≤ M ∧ pos ≤ s.size ∧ q ≤ pos ∧ (q = pos → pos = 0) ∧ wr.ownsRow w.heap.size 9 1 (.slice (some ⟨g, 0, none⟩) k M) k (strsOf (U.take k)) ∧ wr.heap[W2.heap.size]? = some (.stringIter s pos) ∧ Below w.heap.size w wr ∧ Hid (unitsL (s.data.toList.drop q) = U.drop k) ∧ Hid (q < pos → unitsL (s.data.toList.drop q) = (s.data.toList.drop q).take (pos - q) :: unitsL (s.data.toList.drop pos))) (fun _ _ wr => s.size - wr.iterPos W2.heap.size)
  case atStart =>
    refine ⟨0, 0, 0, rfl, rfl, Nat.zero_le _, Nat.zero_le _, Nat.le_refl _, fun _ => rfl, hown.alloc _, World.iter_heap W2 s 0, hb2.alloc hb2.size _, Lib.hid ?_, Lib.hid (fun h => absurd h (Nat.lt_irrefl _))⟩
    rw [List.drop_zero, List.drop_zero]; exact HU.out
  case round =>
    obtain ⟨pos, q, k, rfl, rfl, hk, hps, hqp, hq0, hown, hit, hbw, HD, HE⟩ := hrel
    have hsz : W2.heap.size < wr.heap.size := (Array.getElem?_eq_some_iff.1 hit).1
    by_cases hp : pos < s.size
    · have hnx : ∀ ty, (Instr.next (.pointer (some ⟨W2.heap.size, 0, none⟩)) true ty).run Tryd.prog wr = _ := fun ty => Lib.run_next_any_at wr W2.heap.size s pos ty hit hp
      have hwd := width_at s pos hp
      have hd1 := decode_le s pos
      have HS := Lib.hid (units_at s pos hp)
      have hown2 := own_iterAt hown W2.heap.size (by simp [Value.ownBlock]; omega) s (pos + (Utf8.decode s pos).2)
      have hit2 := Lib.iterAt_heap wr W2.heap.size s pos (pos + (Utf8.decode s pos).2) hit
      have hbw2 := Lib.below_iterAt hbw (k := W2.heap.size) (by omega) s (pos + (Utf8.decode s pos).2)
      have hszi : (wr.iterAt W2.heap.size s (pos + (Utf8.decode s pos).2)).heap.size = wr.heap.size := Lib.iterAt_size wr _ s _
      have hit0 := Lib.hid hit
      obtain ⟨wi, hwi⟩ : ∃ W, wr.iterAt W2.heap.size s (pos + (Utf8.decode s pos).2) = W := ⟨_, rfl⟩
      rw [hwi] at hnx hbw2 hit2 hown2 hszi
      replace hszi := Lib.hid hszi
      have hszw : w.heap.size ≤ wi.heap.size := hbw2.size
      clear hown hit hbw
      by_cases hq : q < pos
      · have hkl : k < M := by
          have h1 := congrArg List.length HD.out
          rw [HE.out hq, List.length_cons, List.length_drop, HM.out] at h1
          omega
        have hex := part_of s q pos hqp hps
        obtain ⟨u, hu⟩ : ∃ u, (s.data.toList.drop q).take (pos - q) = u := ⟨_, rfl⟩
        rw [hu] at hex
        have HX := Lib.hid hu
        clear hu
        go_wp2_with (at_builtin; refine wpList_append_fits _ rfl (.tmp 19) (.tmp 24) 24 rfl w.heap.size 9 i0 1 Tryd.underlying24 hi hz1 g k M (strsOf (U.take k)) rfl (hown2.alloc _) ⟨_, 0, none⟩ 1 1 (strsOf [u]) rfl rfl (strs_new _ [u]) (strs_one _) (by omega) ?_; intro w4 hown4 hgrow4)
        have hszi := hszi.out
        have hit4 : w4.heap[W2.heap.size]? = some (.stringIter s (pos + (Utf8.decode s pos).2)) := by
          rw [hgrow4.block W2.heap.size (by simp; omega) (by simp; omega), Below.heap_alloc _ _ _ (by omega)]; exact hit2
        go_wp2_with fail
        go_roundw
        case rel =>
          have hkU : k < U.length := by rw [HM.out]; exact hkl
          have hR := HD.out
          rw [HE.out hq, HX.out, List.drop_eq_getElem_cons hkU] at hR
          injection hR with e1 e2
          refine ⟨pos + (Utf8.decode s pos).2, pos, k + 1, rfl, rfl, by omega, hwd.2, by omega, by omega, ?_, hit4, (hbw2.alloc (by omega) _).grown hgrow4 (by simp; omega) (fun j hj => by cases hj; omega), Lib.hid e2, Lib.hid fun _ => ?_⟩
          · rw [List.take_succ_eq_append_getElem hkU, ← e1]
            unfold strsOf at hown4 ⊢
            rw [List.map_append]
            exact hown4
          · rw [Nat.add_sub_cancel_left]; exact HS.out
        case measure =>
          simp only [World.iterPos, hit4, hit0.out]
          omega
      · have hq1 : pos = 0 := hq0 (by omega)
        subst hq1
        obtain rfl : q = 0 := by omega
        go_wp2_with fail
        go_roundw
        case rel =>
          refine ⟨0 + (Utf8.decode s 0).2, 0, k, rfl, rfl, hk, hwd.2, by omega, by omega, hown2, hit2, hbw2, HD, Lib.hid fun _ => ?_⟩
          rw [Nat.sub_zero, Nat.zero_add]
          have := HS.out
          rw [Nat.zero_add] at this
          exact this
        case measure =>
          simp only [World.iterPos, hit2, hit0.out]
          omega
    · have hnx : ∀ ty, (Instr.next (.pointer (some ⟨W2.heap.size, 0, none⟩)) true ty).run Tryd.prog wr = _ := fun ty => Lib.run_next_end_at wr W2.heap.size s pos ty hit hp
      have hpe : pos = s.size := by omega
      subst hpe
      have hszr : w.heap.size ≤ wr.heap.size := hbw.size
      by_cases hq : q < s.size
      · have hex := part_of s q s.size hqp (Nat.le_refl _)
        obtain ⟨u, hu⟩ : ∃ u, (s.data.toList.drop q).take (s.size - q) = u := ⟨_, rfl⟩
        rw [hu] at hex
        have HX := Lib.hid hu
        clear hu
        have hkU : k < U.length := by
          have h1 := congrArg List.length HD.out
          rw [HE.out hq, List.length_cons, List.length_drop] at h1
          omega
        have hR := HD.out
        rw [HE.out hq, HX.out, List.drop_eq_getElem_cons hkU, drop_all s s.size (Nat.le_refl _), units_nil] at hR
        injection hR with e1 e2
        have hkM : k + 1 = M := by
          have h1 := congrArg List.length e2
          rw [List.length_drop, HM.out, List.length_nil] at h1
          have h2 := HM.out
          omega
        have HR := Lib.hid e1
        clear e1 e2
        go_wp2_with (at_builtin; refine wpList_append_fits _ rfl (.tmp 31) (.tmp 35) 24 rfl w.heap.size 9 i0 1 Tryd.underlying24 hi hz1 g k M (strsOf (U.take k)) rfl (hown.alloc _) ⟨_, 0, none⟩ 1 1 (strsOf [u]) rfl rfl (strs_new _ [u]) (strs_one _) (by omega) ?_; intro w4 hown4 hgrow4)
        go_ret
        subst hkM
        refine ⟨g, rfl, ?_, (hown4.lt g rfl).2, (hbw.alloc hszr _).grown hgrow4 (by simp; omega) (fun j hj => by cases hj; omega)⟩
        have hall : strsOf (U.take k) ++ strsOf [u] = strsOf U := by
          unfold strsOf
          rw [← List.map_append]
          congr 1
          rw [HR.out, ← List.take_succ_eq_append_getElem hkU, List.take_of_length_le (by rw [HM.out]; omega)]
        rw [hall] at hown4
        exact strs_own hown4
      · have hz : s.size = 0 := hq0 (by omega)
        have hq2 : q = 0 := by omega
        have hkM : k = M := by
          have h1 := congrArg List.length HD.out
          rw [drop_all s q (by omega), units_nil, List.length_drop, HM.out, List.length_nil] at h1
          omega
        subst hkM
        go_wp2_with fail
        go_ret
        refine ⟨g, rfl, ?_, (hown.lt g rfl).2, hbw⟩
        rw [List.take_of_length_le (by rw [HM.out]; omega)] at hown
        exact strs_own hown
end Go.Proofs.YtbplbifmohbfdaaDoor
