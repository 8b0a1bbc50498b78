/- The reference's hexadecimal encoding. -/
import Derived.Test.YtemgjjnkdopnnaaDoorHex
namespace Go.Proofs.YtemgjjnkdopnnaaDoor
open Go.ChangeShapes Go.WideShapes Go.ChangeAt Go.RowKit

/-- The conversion to a string of a slice that the call made itself, nil or not. -/
theorem conv_any {w : World} {base n : Nat} {v : Value} {l : List UInt8} (hl : l.length = n) (hown : w.ownsRow base 5 1 v n (cellsOf l)) :
    (convert 40 9 v).run Tryd.prog w = .ok (.string ⟨l.toArray⟩) w := by
  rcases hown.2 with ⟨rfl, h⟩ | ⟨g, cap, cur, rfl, _⟩
  · obtain rfl : l = [] := List.eq_nil_of_length_eq_zero (by rw [hl, h])
    kernel_rfl
  · exact conv_own hl hown

theorem hexR_any (s : ByteArray) (hs : s.size ≤ 1000) (w : World) :
    Calls Tryd.prog 16 #[.string s] w fun e w' => e = .returned (.string ⟨(hexL s.data.toList).toArray⟩) ∧ Below w.heap.size w w' := by
  obtain ⟨i0, hi, hz0, hz1, hz2⟩ := info_parts info5
  go_enter Tryd.func16, Tryd.ntmps16
  go_wp2_with fail
  go_loopw [3, 4] (fun v i wr => ∃ k : Nat, k ≤ s.size ∧ i = .int .i64 k ∧ 
      wr.ownsRow w.heap.size 5 1 v (2 * k) (cellsOf (hexL (s.data.toList.take k))) ∧ Below w.heap.size w wr)
    (fun _ i _ => s.size - (intOf i).toNat)
  case atStart => exact ⟨0, Nat.zero_le _, rfl, World.ownsRow_nil _ _ _ _, Below.refl _ _⟩
  case round =>
    obtain ⟨k, hk, rfl, hown, hbel⟩ := hrel
    by_cases hlt : k < s.size
    · go_wp2_with fail
      have r0 := run_digit ((s[k].toNat : Int) / 16) (s[k].toNat / 16) (by omega) (by have := s[k].toNat_lt; omega)
      have r1 := run_digit ((s[k].toNat : Int).tmod 16) (s[k].toNat % 16) (by rw [Int.tmod_eq_emod_of_nonneg (by omega)]; omega) (by omega)
      have hb := hbel.size
      have hw : IntKind.u8.wrap ((s[k].toNat : Int) / 16) = (s[k].toNat : Int) / 16 := IntWalk.u8_in _ (by have := s[k].toNat_lt; omega)
      go_region_law (refine step_append_own rfl (.tmp 11) (.tmp 22) 40 rfl w.heap.size 5 i0 (.int .u8 0) 1 1 Tryd.underlying40 hi hz0 hz1 hz2 rfl (by decide) _ (2 * k) (cellsOf (hexL (s.data.toList.take k))) rfl ((hown.alloc _).drew) ⟨wr.heap.size, 0, none⟩ 2 2 (cellsOf [hexD (s[k].toNat / 16), hexD (s[k].toNat % 16)]) rfl rfl (bytes_new2 _ _ _) (cellsOf_one _) (by unfold maxLen; omega) (by omega) (by simp; omega) ?_; intro v2 w2 hown2 hgrow2)
      all_goals go_wp2_with fail
      all_goals go_roundw
      all_goals first
        | exact ⟨k + 1, by omega, by go_num, by rw [show 2 * (k + 1) = 2 * k + 2 by omega, hexL_snoc s k hlt]; unfold cellsOf at hown2 ⊢; rw [List.map_append]; exact hown2, ((hbel.alloc (hbel.size) _).drew).grown hgrow2 (by have := hbel.size; simp; omega) (fun k h => (hown.lt k h).1)⟩
        | (simp [intOf]; omega)
    · obtain rfl : k = s.size := by omega
      have hcv := conv_any (l := hexL (s.data.toList.take s.size)) (by rw [hexL_length, List.take_of_length_le (by simp)]; simp) hown
      rw [List.take_of_length_le (by simp)] at hcv
      go_wp2_with fail
      go_ret
      exact ⟨rfl, hbel⟩
end Go.Proofs.YtemgjjnkdopnnaaDoor
