/- The table of the characters' values. -/
import Derived.Test.YtblbajhjmdcdiaaDoorB64b
namespace Go.Proofs.YtblbajhjmdcdiaaDoor
open Go.ChangeShapes Go.WideShapes Go.ChangeAt Go.RowKit

/-- 256 bytes in an array. -/
def tabF (f : Nat → Nat) : Array Value := ((List.range 256).map fun j => Value.int .u8 (f j : Int)).toArray
theorem tabF_size (f : Nat → Nat) : (tabF f).size = 256 := by simp [tabF]
theorem tabF_get (f : Nat → Nat) (j : Nat) (h : j < 256) : (tabF f)[j]? = some (.int .u8 (f j : Int)) := by
  unfold tabF
  rw [List.getElem?_toArray, List.getElem?_map, List.getElem?_range h]
  rfl
theorem tabF_congr {f g : Nat → Nat} (h : ∀ j, j < 256 → f j = g j) : tabF f = tabF g := by
  unfold tabF
  congr 1
  refine List.map_congr_left fun j hj => ?_
  rw [h j (List.mem_range.1 hj)]
theorem tabF_set (f : Nat → Nat) (k v : Nat) (h : k < 256) : (tabF f).setIfInBounds k (.int .u8 (v : Int)) = tabF (fun j => if j = k then v else f j) := by
  refine Array.ext_getElem? fun j => ?_
  rw [Array.getElem?_setIfInBounds]
  by_cases hj : j < 256
  · rw [tabF_get _ j hj, tabF_get _ j hj]
    by_cases e : k = j
    · subst e; simp [tabF_size, h]
    · rw [if_neg e, if_neg (fun k => e k.symm)]
  · have e : ¬ k = j := by omega
    rw [if_neg e, Array.getElem?_eq_none (by rw [tabF_size]; omega), Array.getElem?_eq_none (by rw [tabF_size]; omega)]
theorem tabF_one (f : Nat → Nat) : (tabF f).all (·.oneCell') = true := by
  simp [tabF, Value.oneCell']
def Arr (W : World) (V : Nat) (f : Nat → Nat) : Prop := W.heap[V]? = some (.cells (tabF f) 43 (0, 0))
theorem Arr.cell {W : World} {V : Nat} {f : Nat → Nat} (h : Arr W V f) (j : Nat) (hj : j < 256) : W.cell? ⟨V, j, none⟩ = some (.int .u8 (f j : Int)) := by
  rw [Lib.cell_of_heap h]; exact tabF_get f j hj
theorem Arr.frozen {W : World} {V : Nat} {f : Nat → Nat} (h : Arr W V f) (j : Nat) : W.frozen? ⟨V, j, none⟩ = false := Lib.frozen_of_heap h j
theorem Arr.set {W : World} {V : Nat} {f g : Nat → Nat} (h : Arr W V f) (k v : Nat) (hk : k < 256) (hg : ∀ j, j < 256 → (if j = k then v else f j) = g j) : Arr (W.setCell ⟨V, k, none⟩ (.int .u8 (v : Int))) V g := by
  unfold Arr
  rw [heap_set h k, tabF_set f k v hk, tabF_congr hg]
theorem char_of : ∀ (k : Fin 64) (j : Fin 256), (val64 j.val = k.val) ↔ (j.val = (d64 k.val).toNat) := by decide +kernel
theorem val64_le : ∀ j : Fin 256, val64 j.val ≤ 64 := by decide +kernel
theorem d64_lt (k : Nat) : (d64 k).toNat < 256 := (d64 k).toNat_lt

theorem zero43 : Tryd.zeroCells43 = tabF (fun _ => 0) := by kernel_rfl
theorem arr_zero (w : World) : Arr (w.alloc (.cells Tryd.zeroCells43 43)) w.heap.size (fun _ => 0) := by
  unfold Arr
  rw [← zero43]
  exact Go.heap_alloc_new _ _
def tab1 (k : Nat) : Nat → Nat := fun j => if j < k then 64 else 0
def tab2 (k : Nat) : Nat → Nat := fun j => if val64 j < k then val64 j else 64

set_option maxHeartbeats 4000000 in
set_option maxRecDepth 1000000 in
theorem values_any (w : World) :
    Calls Tryd.prog 30 #[] w fun e w' => e = .returned (.agg (tabF val64)) ∧ Below w.heap.size w w' := by
  have hV : Arr ((w.alloc (.cells Tryd.zeroCells43 43)).alloc (.cells Tryd.zeroCells43 43)) (w.heap.size + 1) (tab1 0) := by
    have := arr_zero (w.alloc (.cells Tryd.zeroCells43 43))
    rw [World.size_alloc] at this
    unfold Arr at this ⊢
    rw [this, tabF_congr (f := fun _ => 0) (g := tab1 0)]
    intro j _
    unfold tab1
    rw [if_neg (Nat.not_lt_zero _)]
  have hR : Arr ((w.alloc (.cells Tryd.zeroCells43 43)).alloc (.cells Tryd.zeroCells43 43)) w.heap.size (fun _ => 0) := by
    unfold Arr
    rw [((Below.refl _ (w.alloc (.cells Tryd.zeroCells43 43))).alloc (Nat.le_refl _) _).block w.heap.size (by simp)]
    exact arr_zero w
  have hb : Below w.heap.size w ((w.alloc (.cells Tryd.zeroCells43 43)).alloc (.cells Tryd.zeroCells43 43)) := ((Below.refl _ w).alloc (Nat.le_refl _) _).alloc (by simp) _
  go_enter Tryd.func30, Tryd.ntmps30
  go_wp2_with fail
  go_loopw [4] (fun i wr => ∃ k : Nat, k ≤ 256 ∧ i = .int .i64 k ∧ Arr wr (w.heap.size + 1) (tab1 k) ∧ Arr wr w.heap.size (fun _ => 0) ∧ Below w.heap.size w wr)
    (fun i _ => 256 - (intOf i).toNat)
  case atStart => exact ⟨0, Nat.zero_le _, rfl, hV, hR, hb⟩
  case round =>
    clear hV hR hb
    obtain ⟨k, hk, rfl, hV, hR, hb⟩ := hrel
    by_cases hlt : k < 256
    · have c0 := hV.cell k hlt
      have f0 := hV.frozen k
      go_wp2_with fail
      go_roundw
      case rel =>
        refine ⟨k + 1, by omega, by go_num, hV.set k 64 hlt (fun j _ => ?_), ?_, hb.setCell (p := ⟨w.heap.size + 1, k, none⟩) (Nat.le_succ _) _⟩
        · unfold tab1
          by_cases e : j = k
          · subst e; rw [if_pos rfl, if_pos (by omega)]
          · rw [if_neg e]
            by_cases h : j < k
            · rw [if_pos h, if_pos (by omega)]
            · rw [if_neg h, if_neg (by omega)]
        · unfold Arr
          rw [Below.heap_setCell _ _ _ _ (by simp)]
          exact hR
      case measure => simp [intOf]; omega
    · have hk2 : k = 256 := by omega
      subst hk2
      have hV2 : Arr wr (w.heap.size + 1) (tab2 0) := by
        unfold Arr at hV ⊢
        rw [hV, tabF_congr (f := tab1 256) (g := tab2 0)]
        intro j hj
        unfold tab1 tab2
        rw [if_pos hj, if_neg (Nat.not_lt_zero _)]
      clear hV hlt hk
      go_wp2_with fail
      go_loopw [10] (fun i wr => ∃ k : Nat, k ≤ 64 ∧ i = .int .i64 k ∧ Arr wr (w.heap.size + 1) (tab2 k) ∧ Arr wr w.heap.size (fun _ => 0) ∧ Below w.heap.size w wr)
        (fun i _ => 64 - (intOf i).toNat)
      case atStart => exact ⟨0, Nat.zero_le _, rfl, hV2, hR, hb⟩
      case round =>
        clear hV2 hR hb
        obtain ⟨k, hk, rfl, hV, hR, hb⟩ := hrel
        by_cases hlt : k < 64
        · have rk := fun W => run_alph .i64 k hlt W
          unfold alph at rk
          have hq := d64_lt k
          have hch := fun j (hj : j < 256) => char_of ⟨k, hlt⟩ ⟨j, hj⟩
          simp only [] at hch
          generalize (d64 k).toNat = q at rk hq hch
          have c0 := hV.cell q hq
          have f0 := hV.frozen q
          have ew : IntKind.u8.wrap (k : Int) = (k : Int) := IntWalk.u8_in _ (by omega)
          have HC := Lib.hid hch
          clear hch
          go_wp2_with fail
          go_roundw
          case rel =>
            refine ⟨k + 1, by omega, by go_num, hV.set q k hq (fun j hj => ?_), ?_, hb.setCell (p := ⟨w.heap.size + 1, q, none⟩) (Nat.le_succ _) _⟩
            · have h := HC.out j hj
              unfold tab2
              by_cases e : j = q
              · rw [if_pos e, if_pos (by have := h.2 e; omega)]
                exact (h.2 e).symm
              · rw [if_neg e]
                have hne : val64 j ≠ k := fun k => e (h.1 k)
                by_cases h2 : val64 j < k
                · rw [if_pos h2, if_pos (by omega)]
                · rw [if_neg h2, if_neg (by omega)]
            · unfold Arr
              rw [Below.heap_setCell _ _ _ _ (by simp)]
              exact hR
          case measure => simp [intOf]; omega
        · have hk2 : k = 64 := by omega
          subst hk2
          have hV3 : Arr wr (w.heap.size + 1) val64 := by
            unfold Arr at hV ⊢
            rw [hV, tabF_congr (f := tab2 64) (g := val64)]
            intro j hj
            have := val64_le ⟨j, hj⟩
            simp only [] at this
            unfold tab2
            by_cases h : val64 j < 64
            · rw [if_pos h]
            · rw [if_neg h]; omega
          have HV := Lib.hid hV3
          have HR := Lib.hid hR
          have HB := Lib.hid hb
          clear hV hV3 hR hb hlt hk
          go_wp2_with (first
            | refine wpList_load_row rfl 43 _ rfl (w.heap.size + 1) rfl 43 _ (0, 0) _ HV.out Tryd.underlying43 rfl (by rw [tabF_size]; kernel_rfl) ?_
            | refine wpList_store_row rfl 43 _ _ rfl w.heap.size (tabF val64) rfl rfl 43 _ HR.out (by rw [tabF_size]; kernel_rfl) (by rw [tabF_size, tabF_size]) (tabF_one _) ?_)
          exact bodyPost_ret (results_cell_row Tryd.results30 _ _ w.heap.size 43 (tabF val64) (0, 0) _ rfl (setRow_heap _ _ _ _ _ _ HR.out) Tryd.underlying43 rfl (by rw [tabF_size]; kernel_rfl)) rfl ⟨rfl, below_setRow HB.out (Nat.le_refl _) _⟩
end Go.Proofs.YtblbajhjmdcdiaaDoor
