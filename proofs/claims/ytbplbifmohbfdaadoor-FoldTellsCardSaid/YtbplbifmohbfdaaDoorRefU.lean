/- The reference's Units and Marks. -/
import Derived.Test.YtbplbifmohbfdaaDoorRefA
namespace Go.Proofs.YtbplbifmohbfdaaDoor
open Go.ChangeShapes Go.WideShapes Go.ChangeAt Go.RowKit

theorem lenR_at (s : ByteArray) (pos : Nat) (h : pos < s.size) : lenR (s.data.toList.drop pos) = (Utf8.decode s pos).2 := by
  rcases decode_cases s pos h with ⟨n, t, hc, ht, he, hr⟩ | ⟨b, t, hf, ht, he, hr⟩
  · rw [he, ht]
    cases hs : encL n ++ t with
    | nil => simp [enc_ne n] at hs
    | cons b0 r =>
      rw [lenR_is, ← hs]
      unfold lenS
      rw [first_enc hc]
  · rw [he, ht, lenR_is]
    unfold lenS
    rw [hf]
set_option maxHeartbeats 1000000 in
set_option maxRecDepth 1000000 in
theorem runits_any (s : ByteArray) (hs : s.size ≤ 1000000) (w : World) :
    Calls Tryd.prog 11 #[.string s] w fun e w' => ∃ a c, e = .returned (.slice a (unitsL s.data.toList).length c) ∧ Strs w' a (unitsL s.data.toList) ∧ Below w.heap.size w w' := by
  obtain ⟨i0, hi, hz0, hz1, hz2⟩ := info_parts info9
  obtain ⟨U, hU⟩ : ∃ U, unitsL s.data.toList = U := ⟨_, rfl⟩
  rw [hU]
  have HU := Lib.hid hU
  clear hU
  go_enter Tryd.func11, Tryd.ntmps11
  go_wp2_with fail
  go_loopw [3, 4] (fun v st wr => ∃ (pos m : Nat) (d : List (List UInt8)), st = .int .i64 pos ∧ pos ≤ s.size ∧ m ≤ pos ∧ d.length = m ∧ wr.ownsRow w.heap.size 9 1 v m (strsOf d) ∧ Below w.heap.size w wr ∧ Hid (d ++ unitsL (s.data.toList.drop pos) = U)) (fun _ st _ => s.size - (intOf st).toNat)
  case atStart => exact ⟨0, 0, [], rfl, Nat.zero_le _, Nat.le_refl _, rfl, World.ownsRow_nil _ _ _ _, Below.refl _ _, Lib.hid (by rw [List.drop_zero]; exact HU.out)⟩
  case round =>
    obtain ⟨pos, m, d, rfl, hps, hmp, hdm, hown, hbw, HK⟩ := hrel
    by_cases hp : pos < s.size
    · have hwd := width_at s pos hp
      have hua := units_at s pos hp
      have kL := fun W => length_any s pos hp hs W
      rw [lenR_at s pos hp] at kL
      generalize (Utf8.decode s pos).2 = n at hwd hua kL
      have hst := HK.out
      rw [hua] at hst
      obtain ⟨u, hu⟩ : ∃ u, (s.data.toList.drop pos).take n = u := ⟨_, rfl⟩
      have hsl : ∀ W, (Instr.slice 9 (.string s) (some (.int .i64 pos)) (some (.int .i64 ((pos : Int) + n))) none).run Tryd.prog W = .ok (.string (strL u)) W := fun W => by
        rw [run_slice_str s pos (pos + n) _ (by omega) (by omega) hwd.2 W, part_of s pos (pos + n) (by omega) hwd.2, show pos + n - pos = n by omega, hu]
      rw [hu] at hst
      replace hst := Lib.hid hst
      have hszr := hbw.size
      have hlt0 : ∀ j, u3.ownBlock = some j → w.heap.size ≤ j := fun j hj => (hown.lt j hj).1
      replace hlt0 := Lib.hid hlt0
      clear hu hua HK
      go_wp2_with (first
        | (go_at_call 24; refine (kL _).mono ?_; rintro e w1 ⟨rfl, rfl⟩)
        | (at_builtin; refine wpList_append_own_at _ rfl (.tmp 13) (.tmp 20) 24 rfl w.heap.size 9 i0 (.string ⟨#[]⟩) 1 16 Tryd.underlying24 hi hz0 hz1 hz2 rfl (by decide) u3 m (strsOf d) rfl (hown.alloc _) ⟨_, 0, none⟩ 1 1 (strsOf [u]) rfl rfl (strs_new _ [u]) (strs_one _) (by unfold maxLen; omega) (by omega) (by simp; omega) ?_; intro v2 w2 hown2 hgrow2 hnil2 hblk2; rw [strs_app] at hown2; replace hgrow2 := Lib.hid hgrow2; clear hnil2 hblk2))
      go_roundw
      case rel => exact ⟨pos + n, m + 1, d ++ [u], rfl, hwd.2, by omega, by rw [List.length_append, hdm]; rfl, hown2, (hbw.alloc hszr _).grown hgrow2.out (by simp; omega) hlt0.out, Lib.hid (by rw [List.append_assoc]; exact hst.out)⟩
      case measure => simp only [intOf]; omega
    · have hst := HK.out
      rw [drop_all s pos (by omega), units_nil, List.append_nil] at hst
      subst hst
      subst hdm
      obtain ⟨a, c, rfl, hc, hSA, _⟩ := own_slice hown
      go_wp2_with fail
      go_ret
      exact ⟨a, c, rfl, hSA, hbw⟩
end Go.Proofs.YtbplbifmohbfdaaDoor
