/- The schedule of a block: package sum's. -/
import Derived.Test.YtddcephegpmbbaaDoorShaPure
import Derived.Test.YtddcephegpmbbaaDoorUnhex2
import Derived.StillTailTactics
import Derived.BigRegion
import Derived.Laws.CopyOwn
namespace Go.Proofs.YtddcephegpmbbaaDoor
open Go.ChangeShapes Go.WideShapes Go.ChangeAt Go.RowKit

/-- Words as the cells that hold them. -/
def wv (x : UInt32) : Value := .int .u32 (V x)
def wordsV (l : List UInt32) : List Value := l.map wv
theorem V_conv (c : UInt8) : (c.toNat : Int) = V c.toUInt32 := by unfold V; simp
theorem V_zero : (0 : Int) = V 0 := rfl
theorem conv_V (c : UInt8) : IntKind.u32.wrap (c.toNat : Int) = V c.toUInt32 := by
  have := c.toNat_lt
  rw [← V_conv, IntWalk.u32_in _ (by omega)]
theorem sched_len (l : List UInt8) (n : Nat) : (sched l n).length = n := by
  induction n with
  | zero => rfl
  | succ n ih => rw [sched, List.length_append, ih]; rfl
/-- The array behind t words. -/
def arrT (l : List UInt8) (t : Nat) : Array Value := (wordsV (sched l t ++ List.replicate (64 - t) 0)).toArray
theorem arrT_size (l : List UInt8) (t : Nat) (h : t ≤ 64) : (arrT l t).size = 64 := by
  unfold arrT wordsV
  simp [sched_len]; omega
theorem arrT_set (l : List UInt8) (t : Nat) (h : t < 64) : (arrT l t).setIfInBounds t (wv (nextW l (sched l t) t)) = arrT l (t + 1) := by
  unfold arrT wordsV
  rw [List.setIfInBounds_toArray]
  congr 1
  rw [← List.map_set]
  congr 1
  rw [List.set_append_right _ _ (by rw [sched_len]; exact Nat.le_refl _), sched_len, Nat.sub_self, sched, List.append_assoc]
  congr 1
  rw [show 64 - t = (64 - (t + 1)) + 1 by omega, List.replicate_succ]
  rfl
theorem arrT_get (l : List UInt8) (t j : Nat) (h : j < t) (_ht : t ≤ 64) : (arrT l t)[j]? = some (wv ((sched l t).getD j 0)) := by
  unfold arrT wordsV
  rw [List.getElem?_toArray, List.getElem?_map, List.getElem?_append_left (by rw [sched_len]; exact h)]
  rw [List.getD_eq_getElem?_getD, List.getElem?_eq_getElem (by rw [sched_len]; exact h)]
  rfl

theorem arrT_one (l : List UInt8) (t : Nat) : (arrT l t).all (·.oneCell') = true := by
  unfold arrT wordsV
  rw [Array.all_eq_true_iff_forall_mem]
  intro x hx
  rw [List.mem_toArray] at hx
  obtain ⟨y, _, rfl⟩ := List.mem_map.1 hx
  rfl
theorem arrT_zero (l : List UInt8) : arrT l 0 = Array.replicate 64 (Value.int .u32 0) := by
  unfold arrT wordsV
  simp only [sched, List.nil_append, List.map_replicate]
  rfl
theorem zeros64 : (#[Value.int .u32 0, .int .u32 0, .int .u32 0, .int .u32 0, .int .u32 0, .int .u32 0, .int .u32 0, .int .u32 0, .int .u32 0, .int .u32 0, .int .u32 0, .int .u32 0, .int .u32 0, .int .u32 0, .int .u32 0, .int .u32 0, .int .u32 0, .int .u32 0, .int .u32 0, .int .u32 0, .int .u32 0, .int .u32 0, .int .u32 0, .int .u32 0, .int .u32 0, .int .u32 0, .int .u32 0, .int .u32 0, .int .u32 0, .int .u32 0, .int .u32 0, .int .u32 0, .int .u32 0, .int .u32 0, .int .u32 0, .int .u32 0, .int .u32 0, .int .u32 0, .int .u32 0, .int .u32 0, .int .u32 0, .int .u32 0, .int .u32 0, .int .u32 0, .int .u32 0, .int .u32 0, .int .u32 0, .int .u32 0, .int .u32 0, .int .u32 0, .int .u32 0, .int .u32 0, .int .u32 0, .int .u32 0, .int .u32 0, .int .u32 0, .int .u32 0, .int .u32 0, .int .u32 0, .int .u32 0, .int .u32 0, .int .u32 0, .int .u32 0, .int .u32 0] : Array Value) = Array.replicate 64 (Value.int .u32 0) := rfl
/-- The array that is filled and the array that is handed back. -/
structure Two (W : World) (w : World) (cs : Array Value) : Prop where
  arr : w.heap[W.heap.size + 1]? = some (.cells cs 54 (0, 0))
  out : w.heap[W.heap.size]? = some (.cells (Array.replicate 64 (Value.int .u32 0)) 54 (0, 0))
  bel : Below W.heap.size W w
theorem Two.start (W : World) (l : List UInt8) (c d : Array Value) (hc : c = Array.replicate 64 (Value.int .u32 0)) (hd : d = Array.replicate 64 (Value.int .u32 0)) : Two W ((W.alloc (.cells c 54)).alloc (.cells d 54)) (arrT l 0) := by
  subst hc
  subst hd
  refine ⟨?_, ?_, ((Below.refl _ _).alloc (Nat.le_refl _) _).alloc (by simp) _⟩
  · rw [arrT_zero]; exact heap_alloc2_new _ _ _
  · exact heap_alloc2_old _ _ _
theorem Two.drew {W w : World} {cs : Array Value} (h : Two W w cs) : Two W w.drew cs := ⟨h.arr, h.out, h.bel.drew⟩
theorem Two.set {W w : World} {cs : Array Value} (h : Two W w cs) (j : Nat) (v : Value) : Two W (w.setCell ⟨W.heap.size + 1, j, none⟩ v) (cs.setIfInBounds j v) := by
  refine ⟨heap_setCell_same _ _ _ _ _ _ h.arr, ?_, h.bel.setCell (by simp) _⟩
  rw [heap_setCell_other _ _ _ _ (by simp)]
  exact h.out

theorem wrap_shl (c : UInt8) (n : Nat) (h : n < 32) : IntKind.u32.wrap ((c.toNat : Int) * 2 ^ n) = V (c.toUInt32 <<< UInt32.ofNat n) := by
  rw [V_conv]; exact shl_V _ n h

/-- What a later round reads and writes. -/
theorem sched_facts {W wr : World} {l : List UInt8} {u : Nat} (h : u < 48) (H : Two W wr (arrT l (u + 16))) : ∃ (x0 x1 x9 x14 : UInt32) (v : Value),
    wr.cell? ⟨W.heap.size + 1, u, none⟩ = some (.int .u32 (V x0)) ∧ wr.cell? ⟨W.heap.size + 1, u + 1, none⟩ = some (.int .u32 (V x1)) ∧
    wr.cell? ⟨W.heap.size + 1, u + 9, none⟩ = some (.int .u32 (V x9)) ∧ wr.cell? ⟨W.heap.size + 1, u + 14, none⟩ = some (.int .u32 (V x14)) ∧
    wr.cell? ⟨W.heap.size + 1, u + 16, none⟩ = some v ∧ wr.frozen? ⟨W.heap.size + 1, u + 16, none⟩ = false ∧
    Hid ((arrT l (u + 16)).setIfInBounds (u + 16) (wv (small1 x14 + x9 + small0 x1 + x0)) = arrT l (u + 16 + 1)) := by
  have g := fun j (hj : j < u + 16) => (cell_of_row wr _ j _ _ _ H.arr).trans (arrT_get l (u + 16) j hj (by omega))
  have g16 : wr.cell? ⟨W.heap.size + 1, u + 16, none⟩ = some ((arrT l (u + 16))[u + 16]'(by rw [arrT_size _ _ (by omega)]; omega)) := by
    rw [cell_of_row wr _ _ _ _ _ H.arr]; exact Array.getElem?_eq_getElem _
  refine ⟨_, _, _, _, _, g u (by omega), g (u + 1) (by omega), g (u + 9) (by omega), g (u + 14) (by omega), g16, frozen_of_row wr _ _ _ _ H.arr, ?_⟩
  · have := arrT_set l (u + 16) (by omega)
    rw [nextW, if_neg (by omega)] at this
    exact this
theorem Two.drewN {W w : World} {cs : Array Value} (h : Two W w cs) (n : Nat) : Two W (w.drewN n) cs := ⟨h.arr, h.out, ⟨h.bel.os, h.bel.tape, h.bel.output, h.bel.size, h.bel.block⟩⟩
theorem shr3 (x : UInt32) : V x / (8 : Int) = V (x >>> 3) := shr_V x 3 (by decide)
theorem shr10 (x : UInt32) : V x / (1024 : Int) = V (x >>> 10) := shr_V x 10 (by decide)
theorem right2 (x : UInt32) (w : World) : Calls Tryd.prog 29 #[.int .u32 (V x), .int .i64 2] w fun e w' => e = .returned (.int .u32 (V (rotr x 2))) ∧ w = w' := right_any x 2 (by decide) (by decide) w
theorem right6 (x : UInt32) (w : World) : Calls Tryd.prog 29 #[.int .u32 (V x), .int .i64 6] w fun e w' => e = .returned (.int .u32 (V (rotr x 6))) ∧ w = w' := right_any x 6 (by decide) (by decide) w
theorem right7 (x : UInt32) (w : World) : Calls Tryd.prog 29 #[.int .u32 (V x), .int .i64 7] w fun e w' => e = .returned (.int .u32 (V (rotr x 7))) ∧ w = w' := right_any x 7 (by decide) (by decide) w
theorem right11 (x : UInt32) (w : World) : Calls Tryd.prog 29 #[.int .u32 (V x), .int .i64 11] w fun e w' => e = .returned (.int .u32 (V (rotr x 11))) ∧ w = w' := right_any x 11 (by decide) (by decide) w
theorem right13 (x : UInt32) (w : World) : Calls Tryd.prog 29 #[.int .u32 (V x), .int .i64 13] w fun e w' => e = .returned (.int .u32 (V (rotr x 13))) ∧ w = w' := right_any x 13 (by decide) (by decide) w
theorem right17 (x : UInt32) (w : World) : Calls Tryd.prog 29 #[.int .u32 (V x), .int .i64 17] w fun e w' => e = .returned (.int .u32 (V (rotr x 17))) ∧ w = w' := right_any x 17 (by decide) (by decide) w
theorem right18 (x : UInt32) (w : World) : Calls Tryd.prog 29 #[.int .u32 (V x), .int .i64 18] w fun e w' => e = .returned (.int .u32 (V (rotr x 18))) ∧ w = w' := right_any x 18 (by decide) (by decide) w
theorem right19 (x : UInt32) (w : World) : Calls Tryd.prog 29 #[.int .u32 (V x), .int .i64 19] w fun e w' => e = .returned (.int .u32 (V (rotr x 19))) ∧ w = w' := right_any x 19 (by decide) (by decide) w
theorem right22 (x : UInt32) (w : World) : Calls Tryd.prog 29 #[.int .u32 (V x), .int .i64 22] w fun e w' => e = .returned (.int .u32 (V (rotr x 22))) ∧ w = w' := right_any x 22 (by decide) (by decide) w
theorem right25 (x : UInt32) (w : World) : Calls Tryd.prog 29 #[.int .u32 (V x), .int .i64 25] w fun e w' => e = .returned (.int .u32 (V (rotr x 25))) ∧ w = w' := right_any x 25 (by decide) (by decide) w
set_option maxRecDepth 100000 in
set_option maxHeartbeats 1600000 in
theorem schedule_any (b : ByteArray) (hb : b.size = 64) (w : World) :
    Calls Tryd.prog 28 #[.string b] w fun e w' => e = .returned (.agg (arrT b.data.toList 64)) ∧ Below w.heap.size w w' := by
  have hbl : Hid (b.size = 64) := hb
  have h64 : 64 ≤ b.size := by omega
  clear hb
  go_enter Tryd.func28, Tryd.ntmps28
  go_wp2_with fail
  go_loopw [10] (fun i wr => ∃ t : Nat, t ≤ 16 ∧ i = .int .i64 t ∧ Two w wr (arrT b.data.toList t)) (fun i _ => 16 - (intOf i).toNat)
  case atStart => exact ⟨0, Nat.zero_le _, rfl, Two.start w _ _ _ zeros64 zeros64⟩
  case round =>
    obtain ⟨t, ht, rfl, H⟩ := hrel
    have HH := Lib.hid H
    clear H
    by_cases hlt : t < 16
    · go_wp2_with fail
      have i0 := run_index_str b (4 * (t : Int)) (4 * t) (by omega) (by omega)
      have i1 := run_index_str b (4 * (t : Int) + 1) (4 * t + 1) (by omega) (by omega)
      have i2 := run_index_str b (4 * (t : Int) + 2) (4 * t + 2) (by omega) (by omega)
      have i3 := run_index_str b (4 * (t : Int) + 3) (4 * t + 3) (by omega) (by omega)
      have e0 : IntKind.i64.wrap (4 * (t : Int)) = 4 * (t : Int) := IntWalk.i64_in _ (by omega)
      have e1 : IntKind.i64.wrap (4 * (t : Int) + 1) = 4 * (t : Int) + 1 := IntWalk.i64_in _ (by omega)
      have e2 : IntKind.i64.wrap (4 * (t : Int) + 2) = 4 * (t : Int) + 2 := IntWalk.i64_in _ (by omega)
      have e3 : IntKind.i64.wrap (4 * (t : Int) + 3) = 4 * (t : Int) + 3 := IntWalk.i64_in _ (by omega)
      have c0 := conv_V b[4 * t]
      have c1 := conv_V b[4 * t + 1]
      have c2 := conv_V b[4 * t + 2]
      have c3 := conv_V b[4 * t + 3]
      have s0 : IntKind.u32.wrap (V b[4 * t].toUInt32 * 16777216) = V (b[4 * t].toUInt32 <<< 24) := shl_V b[4 * t].toUInt32 24 (by decide)
      have s1 : IntKind.u32.wrap (V b[4 * t + 1].toUInt32 * 65536) = V (b[4 * t + 1].toUInt32 <<< 16) := shl_V b[4 * t + 1].toUInt32 16 (by decide)
      have s2 : IntKind.u32.wrap (V b[4 * t + 2].toUInt32 * 256) = V (b[4 * t + 2].toUInt32 <<< 8) := shl_V b[4 * t + 2].toUInt32 8 (by decide)
      have hw : Hid (nextW b.data.toList (sched b.data.toList t) t = ((b[4 * t].toUInt32 <<< 24 ||| b[4 * t + 1].toUInt32 <<< 16) ||| b[4 * t + 2].toUInt32 <<< 8) ||| b[4 * t + 3].toUInt32) := by
        show nextW _ _ _ = _
        rw [nextW, if_pos hlt, wordAt, getD_byte b _ (by omega), getD_byte b _ (by omega), getD_byte b _ (by omega), getD_byte b _ (by omega)]
      have hf := frozen_of_row wr (w.heap.size + 1) t _ _ HH.out.arr
      have hc : wr.cell? ⟨w.heap.size + 1, t, none⟩ = some ((arrT b.data.toList t)[t]'(by rw [arrT_size _ _ (by omega)]; omega)) := by
        rw [cell_of_row wr _ t _ _ _ HH.out.arr]; exact Array.getElem?_eq_getElem _
      have o := or_V
      go_still_tail 30, (by kernel_rfl)
      clear i0 i1 i2 i3 e0 e1 e2 e3 c0 c1 c2 c3 s0 s1 s2 o
      change wpList _ _ _ _ _ wr.drew
      go_wp2_with fail
      go_roundw
      case rel => exact ⟨t + 1, by omega, by go_num, by
        have h := (HH.out.set t (wv (nextW b.data.toList (sched b.data.toList t) t))).drew
        rw [arrT_set _ _ (by omega), hw.out] at h
        exact h⟩
      case measure => simp [intOf]; omega
    · have e16 : t = 16 := by omega
      rw [e16] at HH
      rw [show (t : Int) = 16 by omega]
      clear e16 hlt ht t
      go_wp2_with fail
      go_loopw [5] (fun i wr => ∃ u : Nat, u ≤ 48 ∧ i = .int .i64 ((u : Int) + 16) ∧ Two w wr (arrT b.data.toList (u + 16))) (fun i _ => 64 - (intOf i).toNat)
      case atStart => exact ⟨0, Nat.zero_le _, rfl, HH.out⟩
      case round =>
        clear HH
        obtain ⟨u, hu, rfl, H⟩ := hrel
        have HH := Lib.hid H
        clear H
        by_cases hlt : u < 48
        · go_wp2_with fail
          obtain ⟨x0, x1, x9, x14, v, g0, g1, g9, g14, hc, hf, hset⟩ := sched_facts hlt HH.out
          have e15 : IntKind.i64.wrap ((u : Int) + 16 - 15) = (u : Int) + 1 := by rw [IntWalk.i64_in _ (by omega)]; omega
          have e2 : IntKind.i64.wrap ((u : Int) + 16 - 2) = (u : Int) + 14 := by rw [IntWalk.i64_in _ (by omega)]; omega
          have n1 : ((u : Int) + 1).toNat = u + 1 := by omega
          have n14 : ((u : Int) + 14).toNat = u + 14 := by omega
          go_quiet (fail)
          clear e15 e2 n1 n14
          have HH2 := Lib.hid (HH.out.drewN nq)
          replace g0 : (wr.drewN nq).cell? ⟨w.heap.size + 1, u, none⟩ = some (.int .u32 (V x0)) := g0
          replace g9 : (wr.drewN nq).cell? ⟨w.heap.size + 1, u + 9, none⟩ = some (.int .u32 (V x9)) := g9
          replace hc : (wr.drewN nq).cell? ⟨w.heap.size + 1, u + 16, none⟩ = some v := hc
          replace hf : (wr.drewN nq).frozen? ⟨w.heap.size + 1, u + 16, none⟩ = false := hf
          obtain ⟨w2, hw2⟩ : ∃ w2, wr.drewN nq = w2 := ⟨_, rfl⟩
          rw [hw2] at HH2 g0 g9 hc hf
          rw [hw2]
          clear HH g1 g14 hw2
          have qx := xor_V
          have q3 := shr3 x1
          have q10 := shr10 x14
          go_wp2_with (go_at_call 29; first
            | ((with_reducible refine (right7 x1 _).mono ?_); rintro e w' ⟨rfl, rfl⟩)
            | ((with_reducible refine (right18 x1 _).mono ?_); rintro e w' ⟨rfl, rfl⟩)
            | ((with_reducible refine (right17 x14 _).mono ?_); rintro e w' ⟨rfl, rfl⟩)
            | ((with_reducible refine (right19 x14 _).mono ?_); rintro e w' ⟨rfl, rfl⟩))
          rw [show rotr x1 7 ^^^ rotr x1 18 ^^^ x1 >>> 3 = small0 x1 from rfl, show rotr x14 17 ^^^ rotr x14 19 ^^^ x14 >>> 10 = small1 x14 from rfl]
          clear qx q3 q10
          have hv0 : IntKind.i64.wrap ((u : Int) + 16 - 7) = (u : Int) + 9 := by rw [IntWalk.i64_in _ (by omega)]; omega
          have hv1 : IntKind.i64.wrap (u : Int) = (u : Int) := IntWalk.i64_in _ (by omega)
          have n9 : ((u : Int) + 9).toNat = u + 9 := by omega
          have ha := add_V
          have j0 : 0 ≤ (u : Int) + 9 := by omega
          have j1 : (u : Int) + 9 < 64 := by omega
          have j2 : 0 ≤ (u : Int) := by omega
          have j3 : (u : Int) < 64 := by omega
          go_still_tail 14, (by kernel_rfl)
          clear hv0 hv1 n9 ha j0 j1 j2 j3
          change wpList _ _ _ _ _ w2.drew
          go_wp2_with fail
          go_roundw
          case rel => exact ⟨u + 1, by omega, by go_num, by
            have h := (HH2.out.set (u + 16) (wv (small1 x14 + x9 + small0 x1 + x0))).drew
            rw [hset.out] at h
            rw [show u + 1 + 16 = u + 16 + 1 by omega]
            exact h⟩
          case measure => simp [intOf]; omega
        · have eu : u = 48 := by omega
          rw [eu] at HH
          rw [show (u : Int) + 16 = 64 by omega]
          clear eu hlt hu u
          go_wp2_with (first
            | refine wpList_load_row rfl 54 _ rfl (w.heap.size + 1) rfl 54 _ (0, 0) _ HH.out.arr Tryd.underlying54 rfl (by rw [arrT_size _ _ (by omega)]; kernel_rfl) ?_
            | refine wpList_store_row rfl 54 _ _ rfl w.heap.size (arrT b.data.toList 64) rfl rfl 54 _ HH.out.out (by rw [arrT_size _ _ (by omega)]; kernel_rfl) (by rw [arrT_size _ _ (by omega)]; rfl) (arrT_one _ _) ?_)
          exact bodyPost_ret (results_cell_row Tryd.results28 _ _ w.heap.size 54 (arrT b.data.toList 64) (0, 0) _ rfl (setRow_heap _ _ _ _ _ _ HH.out.out) Tryd.underlying54 rfl (by rw [arrT_size _ _ (by omega)]; kernel_rfl)) rfl ⟨rfl, below_setRow HH.out.bel (Nat.le_refl _) _⟩
end Go.Proofs.YtddcephegpmbbaaDoor
