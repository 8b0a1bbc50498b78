/- The reference's Hex and padding. -/
import Derived.Test.YtddcephegpmbbaaDoorRefA
import Derived.Deep.RegionHeld3
import Derived.Laws.OwnMore
namespace Go.Proofs.YtddcephegpmbbaaDoor
open Go.ChangeShapes Go.WideShapes Go.ChangeAt Go.RowKit

theorem keep_alloc {w : World} {a : Addr} {v : Value} (h : w.cell? a = some v) (o : Obj) : (w.alloc o).cell? a = some v := by
  rw [World.cell?_alloc_lt _ _ _ (World.block_lt_of_cell? w a h)]; exact h
theorem hexL_take (l : List UInt8) (k : Nat) (h : k < l.length) : hexL (l.take (k + 1)) = hexL (l.take k) ++ [hexD ((l.getD k 0).toNat / 16), hexD ((l.getD k 0).toNat % 16)] := by
  have : l.take (k + 1) = l.take k ++ [l.getD k 0] := by
    rw [List.take_succ_eq_append_getElem h, List.getD_eq_getElem?_getD, List.getElem?_eq_getElem h]; rfl
  rw [this]
  unfold hexL
  rw [List.flatMap_append]; rfl
set_option maxHeartbeats 800000 in
theorem hexR_any (d : List UInt8) (hd : d.length = 32) (w : World) :
    Calls Tryd.prog 15 #[.agg (cellsOf d).toArray] w fun e w' => e = .returned (.string ⟨(hexL d).toArray⟩) ∧ Below w.heap.size w w' := by
  obtain ⟨i0, hi, hz0, hz1, hz2⟩ := info_parts info5
  have hbox := Lib.hid (heap_alloc_new w (.cells (cellsOf d).toArray 23))
  go_enter Tryd.func15, Tryd.ntmps15
  go_wp2_with fail
  go_loopw [3, 4] (fun v i wr => ∃ k : Nat, k ≤ 32 ∧ i = .int .i64 k ∧ Hid (wr.heap[w.heap.size]? = some (.cells (cellsOf d).toArray 23 (0, 0))) ∧
      wr.ownsRow (w.heap.size + 1) 5 1 v (2 * k) (cellsOf (hexL (d.take k))) ∧ Hid (Below w.heap.size w wr))
    (fun _ i _ => 32 - (intOf i).toNat)
  case atStart => exact ⟨0, Nat.zero_le _, rfl, hbox, World.ownsRow_nil _ _ _ _, (Below.refl _ _).alloc (Nat.le_refl _) _⟩
  case round =>
    clear hbox
    obtain ⟨k, hk, rfl, HB, hown, hbel⟩ := hrel
    by_cases hlt : k < 32
    · go_wp2_with fail
      have g0 : wr.drew.cell? ⟨w.heap.size, k, none⟩ = some (.int .u8 ((d.getD k 0).toNat : Int)) := cell_byte hd HB.out hlt
      have hx := hexL_take d k (by omega)
      obtain ⟨c, hc⟩ : ∃ c, d.getD k 0 = c := ⟨_, rfl⟩
      rw [hc] at g0 hx
      have HX := Lib.hid hx
      clear hx hc
      have hc := c.toNat_lt
      have r0 := run_digit ((c.toNat : Int) / 16) (c.toNat / 16) (by omega) (by omega)
      have r1 := run_digit ((c.toNat : Int).tmod 16) (c.toNat % 16) (by rw [Int.tmod_eq_emod_of_nonneg (by omega)]; omega) (by omega)
      have hw : IntKind.u8.wrap ((c.toNat : Int) / 16) = (c.toNat : Int) / 16 := IntWalk.u8_in _ (by omega)
      have hb : w.heap.size + 1 ≤ wr.heap.size := (Array.getElem?_eq_some_iff.1 HB.out).1
      have hnb : some w.heap.size ≠ u3.ownBlock := fun h => by
        have := (hown.lt _ h.symm).1
        omega
      have j0 : 0 ≤ (k : Int) := by omega
      have j1 : (k : Int) < 32 := by omega
      go_region_held3 (fun w' => w'.cell? ⟨w.heap.size, k, none⟩ = some (.int .u8 (c.toNat : Int))) (first | assumption | exact keep_alloc g0 _ | exact hgrow2.cell (keep_alloc g0 _) hnb)
        (first | (refine step_append_own rfl (.tmp 9) (.tmp 20) 36 rfl (w.heap.size + 1) 5 i0 (.int .u8 0) 1 1 Tryd.underlying36 hi hz0 hz1 hz2 rfl (by decide) _ (2 * k) (cellsOf (hexL (d.take k))) rfl ((hown.alloc _).drew) ⟨wr.heap.size, 0, none⟩ 2 2 (cellsOf [hexD (c.toNat / 16), hexD (c.toNat % 16)]) rfl rfl (bytes_new2 _ _ _) (cellsOf_one _) (by unfold maxLen; omega) (by omega) (by simp; omega) ?_; intro v2 w2 hown2 hgrow2))
      all_goals go_wp2_with fail
      all_goals go_roundw
      all_goals first
        | exact ⟨k + 1, by omega, by go_num, by
            show _ = _
            rw [hgrow2.block _ (by simp; omega) hnb]
            exact (Below.heap_alloc wr.drew _ _ (by simp; omega)).trans HB.out, by rw [show 2 * (k + 1) = 2 * k + 2 by omega, HX.out]; unfold cellsOf at hown2 ⊢; rw [List.map_append]; exact hown2, ((hbel.out.alloc (hbel.out.size) _).drew).grown hgrow2 (by have := hbel.out.size; simp; omega) (fun k h => by have := (hown.lt k h).1; omega)⟩
        | (simp [intOf]; omega)
    · have ek : k = 32 := by omega
      rw [ek] at hown
      have hcv := conv_any (l := hexL (d.take 32)) (by rw [hexL_length, List.take_of_length_le (by omega), hd]) hown
      rw [List.take_of_length_le (by omega)] at hcv
      rw [show (k : Int) = 32 by omega]
      go_wp2_with fail
      go_ret
      exact ⟨rfl, hbel.out⟩
end Go.Proofs.YtddcephegpmbbaaDoor
