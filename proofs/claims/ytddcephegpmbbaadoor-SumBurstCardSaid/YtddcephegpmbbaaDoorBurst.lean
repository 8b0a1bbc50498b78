/- SumBurst: a burst of at most 32 bits within five bytes changes the checksum. -/
import Derived.Test.YtddcephegpmbbaaDoorGoes
namespace Go.Proofs.YtddcephegpmbbaaDoor
open Go.ChangeShapes Go.WideShapes Go.ChangeAt Go.RowKit

theorem xor8 (a b : UInt8) : bits .xor .u8 (a.toNat : Int) (b.toNat : Int) = ((a ^^^ b).toNat : Int) := by
  have h : ∀ x : UInt8, BitVec.ofInt 8 (x.toNat : Int) = x.toBitVec := fun x => by
    rw [BitVec.ofInt_natCast]
    apply BitVec.eq_of_toNat_eq
    simp
  show IntKind.u8.wrap ((BitVec.ofInt 8 (a.toNat : Int) ^^^ BitVec.ofInt 8 (b.toNat : Int)).toNat : Int) = _
  rw [h, h, IntKind.wrap_u8]
  have := (a.toBitVec ^^^ b.toBitVec).isLt
  have e : (a ^^^ b).toNat = (a.toBitVec ^^^ b.toBitVec).toNat := rfl
  rw [e]; omega
/-- Byte number i of the pattern. -/
def burstB (x i : Nat) : UInt8 := UInt8.ofNat (x / 2 ^ (8 * i))
theorem burstB_wrap (x i : Nat) : IntKind.u8.wrap ((x : Int) / 2 ^ (8 * i)) = ((burstB x i).toNat : Int) := by
  have h : (x : Int) / 2 ^ (8 * i) = ((x / 2 ^ (8 * i) : Nat) : Int) := by simp
  rw [h, IntKind.wrap_u8, burstB, UInt8.toNat_ofNat']; rfl
/-- The first i bytes changed, then zeros. -/
def bmix (five : List UInt8) (x i : Nat) : List UInt8 := ((List.range i).map fun j => five.getD j 0 ^^^ burstB x j) ++ List.replicate (5 - i) 0
theorem bmix_len (five : List UInt8) (x i : Nat) (h : i ≤ 5) : (bmix five x i).length = 5 := by unfold bmix; simp; omega
theorem bmix_set (five : List UInt8) (x i : Nat) (h : i < 5) : (cellsOf (bmix five x i)).toArray.setIfInBounds i (.int .u8 ((five.getD i 0 ^^^ burstB x i).toNat : Int)) = (cellsOf (bmix five x (i + 1))).toArray := by
  rcases (show i = 0 ∨ i = 1 ∨ i = 2 ∨ i = 3 ∨ i = 4 by omega) with rfl | rfl | rfl | rfl | rfl <;> rfl
theorem bmix_nats (five : List UInt8) (x : Nat) (h : five.length = 5) : nats (bmix five x 5) = List.zipWith (· ^^^ ·) (nats five) [byteN x 0, byteN x 1, byteN x 2, byteN x 3, byteN x 4] := by
  match five, h with
  | [f0, f1, f2, f3, f4], _ =>
    have e : ∀ (f : UInt8) (i : Nat), (f ^^^ burstB x i).toNat = f.toNat ^^^ byteN x i := fun f i => by
      rw [UInt8.toNat_xor, burstB, UInt8.toNat_ofNat']; rfl
    show [(f0 ^^^ burstB x 0).toNat, (f1 ^^^ burstB x 1).toNat, (f2 ^^^ burstB x 2).toNat, (f3 ^^^ burstB x 3).toNat, (f4 ^^^ burstB x 4).toNat] = [f0.toNat ^^^ byteN x 0, f1.toNat ^^^ byteN x 1, f2.toNat ^^^ byteN x 2, f3.toNat ^^^ byteN x 3, f4.toNat ^^^ byteN x 4]
    rw [e, e, e, e, e]
theorem conv_five {w : World} {g : Nat} {d : List UInt8} {t : TypeId} (hd : d.length = 5) (h : w.heap[g]? = some (.cells (cellsOf d).toArray t (0, 0))) :
    (convert 36 9 (.slice (some ⟨g, 0, none⟩) 5 5)).run Tryd.prog w = .ok (.string ⟨d.toArray⟩) w := by
  rw [← hd]
  refine run_convert_bytes_back w 36 9 5 ⟨g, 0, none⟩ d.length d Tryd.underlying36 Tryd.underlying5 Tryd.underlying9 fun j hj => ?_
  have e : (⟨g, 0, none⟩ : Addr).add j = ⟨g, j, none⟩ := by unfold Addr.add; split <;> simp_all
  rw [e, cell_of_row _ _ _ _ _ _ h, List.getElem?_toArray, cellsOf, List.getElem?_map, List.getElem?_eq_getElem hj]; rfl
/-- The memory while the bytes are changed. -/
structure BuW (W : World) (five other : List UInt8) (C : Nat) (w : World) : Prop where
  box : w.heap[W.heap.size]? = some (.cells (cellsOf five).toArray 33 (0, 0))
  arr : w.heap[C]? = some (.cells (cellsOf other).toArray 33 (0, 0))
  bel : Below W.heap.size W w
  far : W.heap.size < C
theorem BuW.drew {W w : World} {five other : List UInt8} {C : Nat} (h : BuW W five other C w) : BuW W five other C w.drew := ⟨h.box, h.arr, h.bel.drew, h.far⟩
theorem BuW.start {W w1 : World} {five : List UInt8} {x : Nat} (hb : Below (W.alloc (.cells (cellsOf five).toArray 33)).heap.size (W.alloc (.cells (cellsOf five).toArray 33)) w1) :
    BuW W five (bmix five x 0) w1.heap.size (w1.alloc (.cells #[.int .u8 0, .int .u8 0, .int .u8 0, .int .u8 0, .int .u8 0] 33)) := by
  have hs : W.heap.size + 1 ≤ w1.heap.size := by have := hb.size; simpa using this
  have h0 : w1.heap[W.heap.size]? = some (.cells (cellsOf five).toArray 33 (0, 0)) := by
    rw [hb.block _ (by simp)]; exact heap_alloc_new _ _
  refine ⟨?_, heap_alloc_new _ _, (((Below.refl _ _).alloc (Nat.le_refl _) _).trans (hb.mono (by simp))).alloc (by omega) _, by omega⟩
  rw [Below.heap_alloc _ _ _ (by omega)]; exact h0
theorem BuW.set {W w : World} {five : List UInt8} {x i C : Nat} (h : BuW W five (bmix five x i) C w) (hi : i < 5) {c : UInt8} (hc : five.getD i 0 ^^^ burstB x i = c) :
    BuW W five (bmix five x (i + 1)) C (w.setCell ⟨C, i, none⟩ (.int .u8 (c.toNat : Int))) := by
  have hf := h.far
  refine ⟨?_, ?_, h.bel.setCell (by show W.heap.size ≤ C; omega) _, hf⟩
  · rw [heap_setCell_other _ _ _ _ (by show W.heap.size ≠ C; omega)]; exact h.box
  · rw [← bmix_set _ _ _ hi, hc]; exact heap_setCell_same _ _ _ _ _ _ h.arr
theorem cell_five {w : World} {g i : Nat} {d : List UInt8} (hd : d.length = 5) (h : w.heap[g]? = some (.cells (cellsOf d).toArray 33 (0, 0))) (hi : i < 5) : w.cell? ⟨g, i, none⟩ = some (.int .u8 ((d.getD i 0).toNat : Int)) := by
  rw [cell_of_row _ _ _ _ _ _ h, List.getElem?_toArray, cellsOf, List.getElem?_map, List.getElem?_eq_getElem (show i < d.length by omega), List.getD_eq_getElem?_getD, List.getElem?_eq_getElem (show i < d.length by omega)]; rfl

set_option maxHeartbeats 1600000 in
theorem burst_in (a b : ByteArray) (five : List UInt8) (y s : Nat) (hf5 : five.length = 5) (h0 : y ≠ 0) (hy : y < 4294967296) (hs : s ≤ 7) (ha : a.size ≤ 1000) (hb : b.size ≤ 1000) (w : World) (hv : Vars (w.alloc (.cells (cellsOf five).toArray 33))) :
    Calls Tryd.prog 4 #[.string a, .string b, .agg (cellsOf five).toArray, .int .u32 (y : Int), .int .i64 (s : Int)] w fun e w' => e = .returned (.bool true) ∧ Below w.heap.size w w' := by
  have hV2 := Lib.hid hv
  obtain ⟨x, hx⟩ : ∃ x, y * 2 ^ s = x := ⟨_, rfl⟩
  obtain ⟨other, ho⟩ : ∃ other, bmix five x 5 = other := ⟨_, rfl⟩
  have hlt : x < 1099511627776 := by
    have h1 : 2 ^ s ≤ 2 ^ 7 := Nat.pow_le_pow_right (by decide) hs
    have h2 : y * 2 ^ s ≤ y * 2 ^ 7 := Nat.mul_le_mul_left _ h1
    omega
  have e35 : IntKind.u64.wrap (s : Int) = s := by simp only [IntKind.wrap, IntKind.bits, IntKind.signed]; simp; omega
  have e34 : IntKind.u64.wrap (y : Int) = y := by simp only [IntKind.wrap, IntKind.bits, IntKind.signed]; simp; omega
  have eshl : IntKind.u64.wrap (x : Int) = x := by simp only [IntKind.wrap, IntKind.bits, IntKind.signed]; simp; omega
  have eshl' : (y : Int) * 2 ^ s = (x : Int) := by rw [← hx]; simp
  have hne : crcL (nats a.data.toList ++ nats five ++ nats b.data.toList) ≠ crcL (nats a.data.toList ++ nats other ++ nats b.data.toList) := by
    have h := crc_burst (nats a.data.toList) (nats b.data.toList) (nats five) y s (nats_lt _) (nats_lt _) (nats_lt _) (by simpa [nats] using hf5) h0 hy (by omega)
    rw [hx, ← bmix_nats five x hf5, ho] at h
    exact h
  have n1 : nats ((a ++ ⟨five.toArray⟩) ++ b).data.toList = nats a.data.toList ++ nats five ++ nats b.data.toList := by rw [nats_append, nats_append]
  have n2 : nats ((a ++ ⟨other.toArray⟩) ++ b).data.toList = nats a.data.toList ++ nats other ++ nats b.data.toList := by rw [nats_append, nats_append]
  rw [← n1, ← n2] at hne
  have ho5 : other.length = 5 := by rw [← ho]; exact bmix_len _ _ _ (by omega)
  have z1 : ((a ++ ⟨five.toArray⟩) ++ b).size ≤ 9223372036854775807 := by
    have q : (⟨five.toArray⟩ : ByteArray).size = 5 := by show five.toArray.size = 5; simpa using hf5
    rw [ByteArray.size_append, ByteArray.size_append, q]; omega
  have z2 : ((a ++ ⟨other.toArray⟩) ++ b).size ≤ 9223372036854775807 := by
    have q : (⟨other.toArray⟩ : ByteArray).size = 5 := by show other.toArray.size = 5; simpa using ho5
    rw [ByteArray.size_append, ByteArray.size_append, q]; omega
  obtain ⟨c1, hc1⟩ : ∃ c, crcL (nats ((a ++ ⟨five.toArray⟩) ++ b).data.toList) = c := ⟨_, rfl⟩
  obtain ⟨c2, hc2⟩ : ∃ c, crcL (nats ((a ++ ⟨other.toArray⟩) ++ b).data.toList) = c := ⟨_, rfl⟩
  rw [hc1, hc2] at hne
  have K1 := Lib.hid (fun (C : Nat) (u : World) (hu : BuW w five other C u) => (crc_val _ c1 hc1 z1 u).mono (R' := fun e w' => e = .returned (.int .u32 (c1 : Int)) ∧ BuW w five other C w') (by rintro e w' ⟨rfl, rfl⟩; exact ⟨rfl, hu⟩))
  have K2 := Lib.hid (fun (C : Nat) (u : World) (hu : BuW w five other C u) => (crc_val _ c2 hc2 z2 u).mono (R' := fun e w' => e = .returned (.int .u32 (c2 : Int)) ∧ BuW w five other C w') (by rintro e w' ⟨rfl, rfl⟩; exact ⟨rfl, hu⟩))
  have hf5 := Lib.hid hf5
  have ho5 := Lib.hid ho5
  have HO := Lib.hid ho
  clear hv hc1 hc2 z1 z2 n1 n2 hlt hx ho
  have hci : (c1 : Int) ≠ (c2 : Int) := by omega
  have hne := Lib.hid hci
  clear hci
  have hy0 : ((y : Int) == 0) = false := by rw [beq_eq_false_iff_ne]; omega
  go_enter Tryd.func4, Tryd.ntmps4
  go_wp2_with fail
  refine (small_any _ hV2.out).mono ?_
  rintro e w1 ⟨rfl, hb1⟩
  have hX := Lib.hid (BuW.start (x := x) hb1)
  clear hb1 hV2
  go_wp2_with fail
  obtain ⟨C, hC⟩ : ∃ C, w1.heap.size = C := ⟨_, rfl⟩
  rw [hC] at hX
  rw [hC]
  obtain ⟨w2, hw2⟩ : ∃ w2, w1.alloc (.cells #[.int .u8 0, .int .u8 0, .int .u8 0, .int .u8 0, .int .u8 0] 33) = w2 := ⟨_, rfl⟩
  rw [hw2] at hX
  rw [hw2]
  clear hw2 hC hy0 eshl eshl' e34 e35 h0
  go_loopw [14] (fun i wr => ∃ k : Nat, k ≤ 5 ∧ i = .int .i64 k ∧ BuW w five (bmix five x k) C wr) (fun i _ => 5 - (intOf i).toNat)
  case atStart => exact ⟨0, Nat.zero_le _, rfl, hX.out⟩
  case round =>
    clear hX
    obtain ⟨i, hi, rfl, hXr⟩ := hrel
    have hX := Lib.hid hXr
    clear hXr
    by_cases hlt : i < 5
    · go_wp2_with fail
      have g0 := cell_five hf5.out hX.out.box hlt
      have g1 := cell_five (bmix_len five x i hi) hX.out.arr hlt
      have f1 := frozen_of_row _ _ i _ _ hX.out.arr
      have hby := burstB_wrap x i
      have hxx := xor8 (five.getD i 0) (burstB x i)
      obtain ⟨f, hf⟩ : ∃ f, five.getD i 0 = f := ⟨_, rfl⟩
      obtain ⟨m, hm⟩ : ∃ m, burstB x i = m := ⟨_, rfl⟩
      obtain ⟨c, hc⟩ : ∃ c, f ^^^ m = c := ⟨_, rfl⟩
      obtain ⟨v, hv⟩ : ∃ v, (Value.int .u8 (((bmix five x i).getD i 0).toNat : Int)) = v := ⟨_, rfl⟩
      rw [hv] at g1
      rw [hf, hm, hc] at hxx
      rw [hm] at hby
      rw [hf] at g0
      have HC : Hid (five.getD i 0 ^^^ burstB x i = c) := by show _ = _; rw [hf, hm, hc]
      clear hf hm hc hv
      have hby' := hby
      rw [IntKind.wrap_u8] at hby'
      have e8 : IntKind.i64.wrap (8 * (i : Int)) = 8 * (i : Int) := IntWalk.i64_in _ (by omega)
      have n8 : (8 * (i : Int)).toNat = 8 * i := by omega
      have j0 : 0 ≤ 8 * (i : Int) := by omega
      have j1 : 0 ≤ (i : Int) := by omega
      have j2 : (i : Int) < 5 := by omega
      go_still_tail 10, (by kernel_rfl)
      clear hby hby' hxx e8 n8 j0 j1 j2
      change wpList _ _ _ _ _ wr.drew
      go_wp2_with fail
      go_roundw
      case rel => exact ⟨i + 1, by omega, by go_num, (hX.out.set hlt HC.out).drew⟩
      case measure => simp [intOf]; omega
    · have ei : i = 5 := by omega
      rw [ei, HO.out] at hX
      rw [show (i : Int) = 5 by omega]
      clear ei hlt hi i HO
      have K1 := Lib.hid (fun u => K1.out C u)
      have K2 := Lib.hid (fun u => K2.out C u)
      go_wp2_with fail
      refine wp_region_noPanic ?_
      refine wp_region_held_drew (S := BuW w five other C) (by kernel_rfl) hX.out.drew (fun hS => ?_)
      refine held_take (i := 0) (.bool true) rfl (by kernel_rfl) (by kernel_rfl) (by kernel_rfl) (by rfl) (fun w hSw => by have hne2 := hne.out; go_simp <;> omega) (by assumption) ?_
      simp only [Act.put, List.setIfInBounds_toArray, List.set_cons_zero, List.set_cons_succ]
      refine held_take (i := 1) (.bool true) rfl (by kernel_rfl) (by kernel_rfl) (by kernel_rfl) (by rfl) (fun w hSw => by have hne2 := hne.out; go_simp <;> omega) (by assumption) ?_
      simp only [Act.put, List.setIfInBounds_toArray, List.set_cons_zero, List.set_cons_succ]
      refine held_take (i := 2) (.string a) rfl (by kernel_rfl) (by kernel_rfl) (by kernel_rfl) (by rfl) (fun w hSw => by have hne2 := hne.out; go_simp <;> omega) (by assumption) ?_
      simp only [Act.put, List.setIfInBounds_toArray, List.set_cons_zero, List.set_cons_succ]
      refine held_take (i := 3) (.slice (some ⟨w.heap.size, 0, none⟩) 5 5) rfl (by kernel_rfl) (by kernel_rfl) (by kernel_rfl) (by rfl) (fun w hSw => by have hne2 := hne.out; go_simp <;> omega) (by assumption) ?_
      simp only [Act.put, List.setIfInBounds_toArray, List.set_cons_zero, List.set_cons_succ]
      refine held_take (i := 4) (.string ⟨five.toArray⟩) rfl (by kernel_rfl) (by kernel_rfl) (by kernel_rfl) (by rfl) (fun wz hSw => by have hcv := conv_five hf5.out hSw.box; go_simp) (by assumption) ?_
      simp only [Act.put, List.setIfInBounds_toArray, List.set_cons_zero, List.set_cons_succ]
      refine held_take (i := 5) (.string (a ++ ⟨five.toArray⟩)) rfl (by kernel_rfl) (by kernel_rfl) (by kernel_rfl) (by rfl) (fun w hSw => by have hne2 := hne.out; go_simp <;> omega) (by assumption) ?_
      simp only [Act.put, List.setIfInBounds_toArray, List.set_cons_zero, List.set_cons_succ]
      refine held_take (i := 6) (.string b) rfl (by kernel_rfl) (by kernel_rfl) (by kernel_rfl) (by rfl) (fun w hSw => by have hne2 := hne.out; go_simp <;> omega) (by assumption) ?_
      simp only [Act.put, List.setIfInBounds_toArray, List.set_cons_zero, List.set_cons_succ]
      refine held_take (i := 7) (.string ((a ++ ⟨five.toArray⟩) ++ b)) rfl (by kernel_rfl) (by kernel_rfl) (by kernel_rfl) (by rfl) (fun w hSw => by have hne2 := hne.out; go_simp <;> omega) (by assumption) ?_
      simp only [Act.put, List.setIfInBounds_toArray, List.set_cons_zero, List.set_cons_succ]
      refine held_take (i := 9) (.string a) rfl (by kernel_rfl) (by kernel_rfl) (by kernel_rfl) (by rfl) (fun w hSw => by have hne2 := hne.out; go_simp <;> omega) (by assumption) ?_
      simp only [Act.put, List.setIfInBounds_toArray, List.set_cons_zero, List.set_cons_succ]
      refine held_take (i := 10) (.slice (some ⟨C, 0, none⟩) 5 5) rfl (by kernel_rfl) (by kernel_rfl) (by kernel_rfl) (by rfl) (fun w hSw => by have hne2 := hne.out; go_simp <;> omega) (by assumption) ?_
      simp only [Act.put, List.setIfInBounds_toArray, List.set_cons_zero, List.set_cons_succ]
      refine held_take (i := 11) (.string ⟨other.toArray⟩) rfl (by kernel_rfl) (by kernel_rfl) (by kernel_rfl) (by rfl) (fun wz hSw => by have hcv := conv_five ho5.out hSw.arr; go_simp) (by assumption) ?_
      simp only [Act.put, List.setIfInBounds_toArray, List.set_cons_zero, List.set_cons_succ]
      refine held_take (i := 12) (.string (a ++ ⟨other.toArray⟩)) rfl (by kernel_rfl) (by kernel_rfl) (by kernel_rfl) (by rfl) (fun w hSw => by have hne2 := hne.out; go_simp <;> omega) (by assumption) ?_
      simp only [Act.put, List.setIfInBounds_toArray, List.set_cons_zero, List.set_cons_succ]
      refine held_take (i := 13) (.string b) rfl (by kernel_rfl) (by kernel_rfl) (by kernel_rfl) (by rfl) (fun w hSw => by have hne2 := hne.out; go_simp <;> omega) (by assumption) ?_
      simp only [Act.put, List.setIfInBounds_toArray, List.set_cons_zero, List.set_cons_succ]
      refine held_take (i := 14) (.string ((a ++ ⟨other.toArray⟩) ++ b)) rfl (by kernel_rfl) (by kernel_rfl) (by kernel_rfl) (by rfl) (fun w hSw => by have hne2 := hne.out; go_simp <;> omega) (by assumption) ?_
      simp only [Act.put, List.setIfInBounds_toArray, List.set_cons_zero, List.set_cons_succ]
      refine held_step (i := 8) (.int .u32 (c1 : Int)) rfl (by kernel_rfl) (by rfl) (fun K hK => ?_) (fun w' hS => ?_)
      · go_simp
        refine (K1.out _ (by assumption)).mono ?_
        rintro e w2 ⟨rfl, hS2⟩
        exact hK _ hS2
      simp only [Act.put, List.setIfInBounds_toArray, List.set_cons_zero, List.set_cons_succ]
      refine held_step (i := 15) (.int .u32 (c2 : Int)) rfl (by kernel_rfl) (by rfl) (fun K hK => ?_) (fun w' hS => ?_)
      · go_simp
        refine (K2.out _ (by assumption)).mono ?_
        rintro e w2 ⟨rfl, hS2⟩
        exact hK _ hS2
      simp only [Act.put, List.setIfInBounds_toArray, List.set_cons_zero, List.set_cons_succ]
      refine held_take (i := 16) (.bool true) rfl (by kernel_rfl) (by kernel_rfl) (by kernel_rfl) (by rfl) (fun w hSw => by have hne2 := hne.out; go_simp <;> omega) (by assumption) ?_
      simp only [Act.put, List.setIfInBounds_toArray, List.set_cons_zero, List.set_cons_succ]
      refine held_take (i := 17) (.bool true) rfl (by kernel_rfl) (by kernel_rfl) (by kernel_rfl) (by rfl) (fun w hSw => by have hne2 := hne.out; go_simp <;> omega) (by assumption) ?_
      simp only [Act.put, List.setIfInBounds_toArray, List.set_cons_zero, List.set_cons_succ]
      refine held_take (i := 18) (.bool true) rfl (by kernel_rfl) (by kernel_rfl) (by kernel_rfl) (by rfl) (fun w hSw => by have hne2 := hne.out; go_simp <;> omega) (by assumption) ?_
      simp only [Act.put, List.setIfInBounds_toArray, List.set_cons_zero, List.set_cons_succ]
      refine wpAnyH_done (by kernel_rfl) ?_ _
      refine NoPanic.normal ?_
      go_wp2_with fail
      go_ret
      exact ⟨rfl, BuW.bel (by assumption)⟩

set_option maxHeartbeats 1600000 in
theorem burst_any (a b : ByteArray) (five : List UInt8) (y : Nat) (n : Int) (hf5 : five.length = 5) (hy : y < 4294967296) (w : World) (hv : Vars w) :
    Calls Tryd.prog 4 #[.string a, .string b, .agg (cellsOf five).toArray, .int .u32 (y : Int), .int .i64 n] w fun e w' => e = .returned (.bool true) ∧ Below w.heap.size w w' := by
  have hf5 := Lib.hid hf5
  have hbox := Lib.hid ((Below.refl w.heap.size w).alloc (Nat.le_refl _) (.cells (cellsOf five).toArray 33))
  have hV2 := Lib.hid (hv.below hbox.out)
  clear hv
  by_cases ha : a.size ≤ 1000
  · by_cases hb : b.size ≤ 1000
    · by_cases h0 : y = 0
      · subst h0
        go_enter Tryd.func4, Tryd.ntmps4
        go_wp2_with fail
        refine (small_any _ hV2.out).mono ?_
        rintro e w1 ⟨rfl, hb1⟩
        go_wp2_with fail
        go_ret
        exact ⟨rfl, hbox.out.trans (hb1.mono (by simp))⟩
      · by_cases hn0 : n < 0
        · go_enter Tryd.func4, Tryd.ntmps4
          go_wp2_with fail
          refine (small_any _ hV2.out).mono ?_
          rintro e w1 ⟨rfl, hb1⟩
          go_wp2_with fail
          go_ret
          exact ⟨rfl, hbox.out.trans (hb1.mono (by simp))⟩
        · by_cases hn7 : n > 7
          · go_enter Tryd.func4, Tryd.ntmps4
            go_wp2_with fail
            refine (small_any _ hV2.out).mono ?_
            rintro e w1 ⟨rfl, hb1⟩
            go_wp2_with fail
            go_ret
            exact ⟨rfl, hbox.out.trans (hb1.mono (by simp))⟩
          · obtain ⟨s, rfl⟩ : ∃ s : Nat, n = s := ⟨n.toNat, by omega⟩
            have hs7 : s ≤ 7 := by omega
            exact burst_in a b five y s hf5.out h0 hy hs7 ha hb w hV2.out
    · go_enter Tryd.func4, Tryd.ntmps4
      go_wp2_with fail
      refine (small_any _ hV2.out).mono ?_
      rintro e w1 ⟨rfl, hb1⟩
      go_wp2_with fail
      go_ret
      exact ⟨rfl, hbox.out.trans (hb1.mono (by simp))⟩
  · go_enter Tryd.func4, Tryd.ntmps4
    go_wp2_with fail
    refine (small_any _ hV2.out).mono ?_
    rintro e w1 ⟨rfl, hb1⟩
    go_wp2_with fail
    go_ret
    exact ⟨rfl, hbox.out.trans (hb1.mono (by simp))⟩
end Go.Proofs.YtddcephegpmbbaaDoor
