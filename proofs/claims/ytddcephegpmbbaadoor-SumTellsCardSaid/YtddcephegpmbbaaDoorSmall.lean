/- The known answers at the head of each statement. -/
import Derived.Test.YtddcephegpmbbaaDoorEq
import Derived.Test.YtddcephegpmbbaaDoorCrc
import Derived.Test.YtddcephegpmbbaaDoorHeld
namespace Go.Proofs.YtddcephegpmbbaaDoor
open Go.ChangeShapes Go.WideShapes Go.ChangeAt Go.RowKit

def dA : List UInt8 := [186, 120, 22, 191, 143, 1, 207, 234, 65, 65, 64, 222, 93, 174, 34, 35, 176, 3, 97, 163, 150, 23, 122, 156, 180, 16, 255, 97, 242, 0, 21, 173]
def dE : List UInt8 := [227, 176, 196, 66, 152, 252, 28, 20, 154, 251, 244, 200, 153, 111, 185, 36, 39, 174, 65, 228, 100, 155, 147, 76, 164, 149, 153, 27, 120, 82, 184, 85]
def dZ : List UInt8 := List.replicate 32 0
theorem dA_len : dA.length = 32 := rfl
theorem dE_len : dE.length = 32 := rfl
theorem dZ_len : dZ.length = 32 := rfl
theorem read_low : readL [98, 97, 55, 56, 49, 54, 98, 102, 56, 102, 48, 49, 99, 102, 101, 97, 52, 49, 52, 49, 52, 48, 100, 101, 53, 100, 97, 101, 50, 50, 50, 51, 98, 48, 48, 51, 54, 49, 97, 51, 57, 54, 49, 55, 55, 97, 57, 99, 98, 52, 49, 48, 102, 102, 54, 49, 102, 50, 48, 48, 49, 53, 97, 100] = dA ∧ readOk [98, 97, 55, 56, 49, 54, 98, 102, 56, 102, 48, 49, 99, 102, 101, 97, 52, 49, 52, 49, 52, 48, 100, 101, 53, 100, 97, 101, 50, 50, 50, 51, 98, 48, 48, 51, 54, 49, 97, 51, 57, 54, 49, 55, 55, 97, 57, 99, 98, 52, 49, 48, 102, 102, 54, 49, 102, 50, 48, 48, 49, 53, 97, 100] = true := by decide +kernel
theorem read_up : readL [66, 65, 55, 56, 49, 54, 66, 70, 56, 70, 48, 49, 67, 70, 69, 65, 52, 49, 52, 49, 52, 48, 68, 69, 53, 68, 65, 69, 50, 50, 50, 51, 66, 48, 48, 51, 54, 49, 65, 51, 57, 54, 49, 55, 55, 65, 57, 67, 66, 52, 49, 48, 70, 70, 54, 49, 70, 50, 48, 48, 49, 53, 65, 68] = dZ ∧ readOk [66, 65, 55, 56, 49, 54, 66, 70, 56, 70, 48, 49, 67, 70, 69, 65, 52, 49, 52, 49, 52, 48, 68, 69, 53, 68, 65, 69, 50, 50, 50, 51, 66, 48, 48, 51, 54, 49, 65, 51, 57, 54, 49, 55, 55, 65, 57, 67, 66, 52, 49, 48, 70, 70, 54, 49, 70, 50, 48, 48, 49, 53, 65, 68] = false := by decide +kernel
theorem hex_dE : hexL dE = [101, 51, 98, 48, 99, 52, 52, 50, 57, 56, 102, 99, 49, 99, 49, 52, 57, 97, 102, 98, 102, 52, 99, 56, 57, 57, 54, 102, 98, 57, 50, 52, 50, 55, 97, 101, 52, 49, 101, 52, 54, 52, 57, 98, 57, 51, 52, 99, 97, 52, 57, 53, 57, 57, 49, 98, 55, 56, 53, 50, 98, 56, 53, 53] := by decide +kernel
theorem less_AE : lessL dA dE = true := by decide +kernel
theorem less_AA : lessL dA dA = false := by decide +kernel
theorem crc_nine : crcL [49, 50, 51, 52, 53, 54, 55, 56, 57] = 3808858755 := by decide +kernel
theorem crc_nil : crcL [] = 0 := by decide +kernel

theorem low_is (w : World) : Calls Tryd.prog 8 #[.string ⟨#[98, 97, 55, 56, 49, 54, 98, 102, 56, 102, 48, 49, 99, 102, 101, 97, 52, 49, 52, 49, 52, 48, 100, 101, 53, 100, 97, 101, 50, 50, 50, 51, 98, 48, 48, 51, 54, 49, 97, 51, 57, 54, 49, 55, 55, 97, 57, 99, 98, 52, 49, 48, 102, 102, 54, 49, 102, 50, 48, 48, 49, 53, 97, 100]⟩] w fun e w' => e = .returned (.tuple #[.agg (cellsOf dA).toArray, .bool true]) ∧ Below w.heap.size w w' := by
  have h := read_any ⟨#[98, 97, 55, 56, 49, 54, 98, 102, 56, 102, 48, 49, 99, 102, 101, 97, 52, 49, 52, 49, 52, 48, 100, 101, 53, 100, 97, 101, 50, 50, 50, 51, 98, 48, 48, 51, 54, 49, 97, 51, 57, 54, 49, 55, 55, 97, 57, 99, 98, 52, 49, 48, 102, 102, 54, 49, 102, 50, 48, 48, 49, 53, 97, 100]⟩ (by show 64 ≤ _; omega) w
  refine h.mono ?_
  rintro e w' ⟨rfl, hb⟩
  refine ⟨?_, hb⟩
  rw [show (⟨#[98, 97, 55, 56, 49, 54, 98, 102, 56, 102, 48, 49, 99, 102, 101, 97, 52, 49, 52, 49, 52, 48, 100, 101, 53, 100, 97, 101, 50, 50, 50, 51, 98, 48, 48, 51, 54, 49, 97, 51, 57, 54, 49, 55, 55, 97, 57, 99, 98, 52, 49, 48, 102, 102, 54, 49, 102, 50, 48, 48, 49, 53, 97, 100]⟩ : ByteArray).data.toList = [98, 97, 55, 56, 49, 54, 98, 102, 56, 102, 48, 49, 99, 102, 101, 97, 52, 49, 52, 49, 52, 48, 100, 101, 53, 100, 97, 101, 50, 50, 50, 51, 98, 48, 48, 51, 54, 49, 97, 51, 57, 54, 49, 55, 55, 97, 57, 99, 98, 52, 49, 48, 102, 102, 54, 49, 102, 50, 48, 48, 49, 53, 97, 100] from rfl, read_low.1, read_low.2]
theorem up_is (w : World) : Calls Tryd.prog 8 #[.string ⟨#[66, 65, 55, 56, 49, 54, 66, 70, 56, 70, 48, 49, 67, 70, 69, 65, 52, 49, 52, 49, 52, 48, 68, 69, 53, 68, 65, 69, 50, 50, 50, 51, 66, 48, 48, 51, 54, 49, 65, 51, 57, 54, 49, 55, 55, 65, 57, 67, 66, 52, 49, 48, 70, 70, 54, 49, 70, 50, 48, 48, 49, 53, 65, 68]⟩] w fun e w' => e = .returned (.tuple #[.agg (cellsOf dZ).toArray, .bool false]) ∧ Below w.heap.size w w' := by
  have h := read_any ⟨#[66, 65, 55, 56, 49, 54, 66, 70, 56, 70, 48, 49, 67, 70, 69, 65, 52, 49, 52, 49, 52, 48, 68, 69, 53, 68, 65, 69, 50, 50, 50, 51, 66, 48, 48, 51, 54, 49, 65, 51, 57, 54, 49, 55, 55, 65, 57, 67, 66, 52, 49, 48, 70, 70, 54, 49, 70, 50, 48, 48, 49, 53, 65, 68]⟩ (by show 64 ≤ _; omega) w
  refine h.mono ?_
  rintro e w' ⟨rfl, hb⟩
  refine ⟨?_, hb⟩
  rw [show (⟨#[66, 65, 55, 56, 49, 54, 66, 70, 56, 70, 48, 49, 67, 70, 69, 65, 52, 49, 52, 49, 52, 48, 68, 69, 53, 68, 65, 69, 50, 50, 50, 51, 66, 48, 48, 51, 54, 49, 65, 51, 57, 54, 49, 55, 55, 65, 57, 67, 66, 52, 49, 48, 70, 70, 54, 49, 70, 50, 48, 48, 49, 53, 65, 68]⟩ : ByteArray).data.toList = [66, 65, 55, 56, 49, 54, 66, 70, 56, 70, 48, 49, 67, 70, 69, 65, 52, 49, 52, 49, 52, 48, 68, 69, 53, 68, 65, 69, 50, 50, 50, 51, 66, 48, 48, 51, 54, 49, 65, 51, 57, 54, 49, 55, 55, 65, 57, 67, 66, 52, 49, 48, 70, 70, 54, 49, 70, 50, 48, 48, 49, 53, 65, 68] from rfl, read_up.1, read_up.2]
theorem nine_is (w : World) : Calls Tryd.prog 10 #[.string ⟨#[49, 50, 51, 52, 53, 54, 55, 56, 57]⟩] w fun e w' => e = .returned (.int .u32 3808858755) ∧ w = w' := by
  refine (crc_any ⟨#[49, 50, 51, 52, 53, 54, 55, 56, 57]⟩ (by show 9 ≤ _; omega) w).mono ?_
  rintro e w' ⟨rfl, rfl⟩
  refine ⟨?_, rfl⟩
  rw [show nats (⟨#[49, 50, 51, 52, 53, 54, 55, 56, 57]⟩ : ByteArray).data.toList = [49, 50, 51, 52, 53, 54, 55, 56, 57] from rfl, crc_nine]
  rfl
theorem nil_is (w : World) : Calls Tryd.prog 10 #[.string ⟨#[]⟩] w fun e w' => e = .returned (.int .u32 0) ∧ w = w' := by
  refine (crc_any ⟨#[]⟩ (by show 0 ≤ _; omega) w).mono ?_
  rintro e w' ⟨rfl, rfl⟩
  refine ⟨?_, rfl⟩
  rw [show nats (⟨#[]⟩ : ByteArray).data.toList = [] from rfl, crc_nil]
  rfl
theorem abc_is (w : World) (hv : Vars w) : Calls Tryd.prog 12 #[.string ⟨#[97, 98, 99]⟩] w fun e w' => e = .returned (.agg (cellsOf dA).toArray) ∧ Below w.heap.size w w' := by
  refine (sha_any ⟨#[97, 98, 99]⟩ (by show 3 ≤ _; omega) w hv).mono ?_
  rintro e w' ⟨rfl, hb⟩
  refine ⟨?_, hb⟩
  rw [show (⟨#[97, 98, 99]⟩ : ByteArray).data.toList = [97, 98, 99] from rfl, sha_abc]
  rfl
theorem empty_is (w : World) (hv : Vars w) : Calls Tryd.prog 12 #[.string ⟨#[]⟩] w fun e w' => e = .returned (.agg (cellsOf dE).toArray) ∧ Below w.heap.size w w' := by
  refine (sha_any ⟨#[]⟩ (by show 0 ≤ _; omega) w hv).mono ?_
  rintro e w' ⟨rfl, hb⟩
  refine ⟨?_, hb⟩
  rw [show (⟨#[]⟩ : ByteArray).data.toList = [] from rfl, sha_nil]
  rfl
theorem hexE_is (w : World) : Calls Tryd.prog 14 #[.agg (cellsOf dE).toArray] w fun e w' => e = .returned (.string ⟨#[101, 51, 98, 48, 99, 52, 52, 50, 57, 56, 102, 99, 49, 99, 49, 52, 57, 97, 102, 98, 102, 52, 99, 56, 57, 57, 54, 102, 98, 57, 50, 52, 50, 55, 97, 101, 52, 49, 101, 52, 54, 52, 57, 98, 57, 51, 52, 99, 97, 52, 57, 53, 57, 57, 49, 98, 55, 56, 53, 50, 98, 56, 53, 53]⟩) ∧ Below w.heap.size w w' := by
  refine (hexD_any dE dE_len w).mono ?_
  rintro e w' ⟨rfl, hb⟩
  refine ⟨?_, hb⟩
  rw [hex_dE]
theorem lessAE_is (w : World) : Calls Tryd.prog 16 #[.agg (cellsOf dA).toArray, .agg (cellsOf dE).toArray] w fun e w' => e = .returned (.bool true) ∧ Below w.heap.size w w' := by
  refine (less_any dA dE dA_len dE_len w).mono ?_
  rintro e w' ⟨rfl, hb⟩
  exact ⟨by rw [less_AE], hb⟩
theorem lessAA_is (w : World) : Calls Tryd.prog 16 #[.agg (cellsOf dA).toArray, .agg (cellsOf dA).toArray] w fun e w' => e = .returned (.bool false) ∧ Below w.heap.size w w' := by
  refine (less_any dA dA dA_len dA_len w).mono ?_
  rintro e w' ⟨rfl, hb⟩
  exact ⟨by rw [less_AA], hb⟩

theorem range_of_row {w : World} {g : Nat} {cs : List Value} {t : TypeId} {fr : Nat × Nat} (h : w.heap[g]? = some (.cells cs.toArray t fr)) : w.rangeAt g 0 cs := fun j v hv => by
  rw [Nat.zero_add, cell_of_row _ _ _ _ _ _ h, List.getElem?_toArray]; exact hv
/-- The memory from the first digest on: a digest in block g. -/
structure SmS (W : World) (g : Nat) (d : List UInt8) (w : World) : Prop where
  row : w.heap[g]? = some (.cells (cellsOf d).toArray 23 (0, 0))
  var : Vars w
  bel : Below W.heap.size W w
theorem SmS.below {W w w' : World} {g : Nat} {d : List UInt8} (h : SmS W g d w) (hb : Below w.heap.size w w') : SmS W g d w' :=
  ⟨by rw [hb.block _ (Array.getElem?_eq_some_iff.1 h.row).1]; exact h.row, h.var.below hb, h.bel.trans (hb.mono h.bel.size)⟩
theorem SmS.drew {W w : World} {g : Nat} {d : List UInt8} (h : SmS W g d w) : SmS W g d w.drew := ⟨h.row, ⟨h.var.st, h.var.ks⟩, h.bel.drew⟩
theorem SmS.range {W w : World} {g : Nat} {d : List UInt8} (h : SmS W g d w) : w.rangeAt g 0 (cellsOf d) := range_of_row h.row
theorem SmS.new {W w : World} (hb : Below W.heap.size W w) (hv : Vars w) (d : List UInt8) : SmS W w.heap.size d (w.alloc (.cells (cellsOf d).toArray 23)) :=
  ⟨heap_alloc_new _ _, hv.below ((Below.refl _ _).alloc (Nat.le_refl _) _), hb.alloc hb.size _⟩
theorem SmS.alloc {W w : World} {g : Nat} {d : List UInt8} (h : SmS W g d w) (l : List UInt8) : SmS W g d (w.alloc (.cells (cellsOf l).toArray 23)) := h.below ((Below.refl _ _).alloc (Nat.le_refl _) _)

theorem nine_S {W w : World} {g : Nat} (h : SmS W g dA w) : Calls Tryd.prog 10 #[.string ⟨#[49, 50, 51, 52, 53, 54, 55, 56, 57]⟩] w fun e w' => e = .returned (.int .u32 3808858755) ∧ SmS W g dA w' :=
  (nine_is w).mono (by rintro e w' ⟨rfl, rfl⟩; exact ⟨rfl, h⟩)
theorem nil_S {W w : World} {g : Nat} (h : SmS W g dA w) : Calls Tryd.prog 10 #[.string ⟨#[]⟩] w fun e w' => e = .returned (.int .u32 0) ∧ SmS W g dA w' :=
  (nil_is w).mono (by rintro e w' ⟨rfl, rfl⟩; exact ⟨rfl, h⟩)
theorem abc_S {W w : World} {g : Nat} (h : SmS W g dA w) : Calls Tryd.prog 12 #[.string ⟨#[97, 98, 99]⟩] w fun e w' => e = .returned (.agg (cellsOf dA).toArray) ∧ SmS W g dA w' :=
  (abc_is w h.var).mono (by rintro e w' ⟨rfl, hb⟩; exact ⟨rfl, h.below hb⟩)
theorem empty_S {W w : World} {g : Nat} (h : SmS W g dA w) : Calls Tryd.prog 12 #[.string ⟨#[]⟩] w fun e w' => e = .returned (.agg (cellsOf dE).toArray) ∧ SmS W g dA w' :=
  (empty_is w h.var).mono (by rintro e w' ⟨rfl, hb⟩; exact ⟨rfl, h.below hb⟩)
theorem hexE_S {W w : World} {g : Nat} (h : SmS W g dA w) : Calls Tryd.prog 14 #[.agg (cellsOf dE).toArray] w fun e w' => e = .returned (.string ⟨#[101, 51, 98, 48, 99, 52, 52, 50, 57, 56, 102, 99, 49, 99, 49, 52, 57, 97, 102, 98, 102, 52, 99, 56, 57, 57, 54, 102, 98, 57, 50, 52, 50, 55, 97, 101, 52, 49, 101, 52, 54, 52, 57, 98, 57, 51, 52, 99, 97, 52, 57, 53, 57, 57, 49, 98, 55, 56, 53, 50, 98, 56, 53, 53]⟩) ∧ SmS W g dA w' :=
  (hexE_is w).mono (by rintro e w' ⟨rfl, hb⟩; exact ⟨rfl, h.below hb⟩)
theorem lessAE_S {W w : World} {g : Nat} (h : SmS W g dA w) : Calls Tryd.prog 16 #[.agg (cellsOf dA).toArray, .agg (cellsOf dE).toArray] w fun e w' => e = .returned (.bool true) ∧ SmS W g dA w' :=
  (lessAE_is w).mono (by rintro e w' ⟨rfl, hb⟩; exact ⟨rfl, h.below hb⟩)
theorem lessAA_S {W w : World} {g : Nat} (h : SmS W g dA w) : Calls Tryd.prog 16 #[.agg (cellsOf dA).toArray, .agg (cellsOf dA).toArray] w fun e w' => e = .returned (.bool false) ∧ SmS W g dA w' :=
  (lessAA_is w).mono (by rintro e w' ⟨rfl, hb⟩; exact ⟨rfl, h.below hb⟩)

theorem size32 {d : List UInt8} (hd : d.length = 32) : zeros32.size = (cellsOf d).toArray.size := by
  show 32 = _
  rw [List.size_toArray, cellsOf_len, hd]
theorem info23_list {d : List UInt8} (hd : d.length = 32) : (Tryd.prog.info? 23).map (·.size) = some (cellsOf d).length := by rw [cellsOf_len, hd]; kernel_rfl
set_option maxHeartbeats 1600000 in
theorem small_any (w : World) (hv : Vars w) : Calls Tryd.prog 7 #[] w fun e w' => e = .returned (.bool true) ∧ Below w.heap.size w w' := by
  have hV := Lib.hid hv
  clear hv
  have szA := Lib.hid (cells_size dA_len)
  have szZ := Lib.hid (cells_size dZ_len)
  go_enter Tryd.func7, Tryd.ntmps7
  go_wp2_with fail
  refine (low_is _).mono ?_
  rintro e w1 ⟨rfl, hb⟩
  have hS := Lib.hid (SmS.new hb (hV.out.below hb) dA)
  go_upto_region 2 with (refine wpList_store_row rfl 23 _ _ rfl w1.heap.size (cellsOf dA).toArray rfl rfl 23 _ (heap_alloc_new _ _) szA.out (size32 dA_len) (cells_one _) ?_)
  rw [World.setRow_alloc_new]
  obtain ⟨g, hg⟩ : ∃ g, w1.heap.size = g := ⟨_, rfl⟩
  obtain ⟨w2, hw2⟩ : ∃ w2, w1.alloc (.cells (cellsOf dA).toArray 23) = w2 := ⟨_, rfl⟩
  rw [hw2, hg] at hS
  rw [hw2, hg]
  clear hw2 hg hb hV
  go_wp2_with fail
  refine (up_is _).mono ?_
  rintro e w3 ⟨rfl, hb⟩
  have hS3 := Lib.hid (SmS.alloc (hS.out.below hb) dZ)
  go_upto_region 3 with (refine wpList_store_row rfl 23 _ _ rfl w3.heap.size (cellsOf dZ).toArray rfl rfl 23 _ (heap_alloc_new _ _) szZ.out (size32 dZ_len) (cells_one _) ?_)
  rw [World.setRow_alloc_new]
  obtain ⟨w4, hw4⟩ : ∃ w4, w3.alloc (.cells (cellsOf dZ).toArray 23) = w4 := ⟨_, rfl⟩
  rw [hw4] at hS3
  rw [hw4]
  clear hw4 hb hS szA szZ
  have hS4 := Lib.hid hS3.out.drew
  clear hS3
  have heq := fun w => run_same dA dA dA_len dA_len w
  simp only [decide_true] at heq
  have hi := info23_list dA_len
  refine wp_region_noPanic ?_
  refine wp_region_held_drew (S := SmS w g dA) (by kernel_rfl) hS4.out (fun hS => ?_)
  refine held_step (i := 0) (.int .u32 3808858755) rfl (by kernel_rfl) (by rfl) (fun K hK => ?_) (fun w' hS => ?_)
  · go_simp
    refine (nine_S (by assumption)).mono ?_
    rintro e w2 ⟨rfl, hS2⟩
    exact hK _ hS2
  simp only [Act.put, List.setIfInBounds_toArray, List.set_cons_zero, List.set_cons_succ]
  refine held_take (i := 1) (.bool true) rfl (by kernel_rfl) (by kernel_rfl) (by kernel_rfl) (by rfl) (fun w hSw => by go_simp) (by assumption) ?_
  simp only [Act.put, List.setIfInBounds_toArray, List.set_cons_zero, List.set_cons_succ]
  refine held_take (i := 2) (.bool true) rfl (by kernel_rfl) (by kernel_rfl) (by kernel_rfl) (by rfl) (fun w hSw => by go_simp) (by assumption) ?_
  simp only [Act.put, List.setIfInBounds_toArray, List.set_cons_zero, List.set_cons_succ]
  refine held_step (i := 3) (.int .u32 0) rfl (by kernel_rfl) (by rfl) (fun K hK => ?_) (fun w' hS => ?_)
  · go_simp
    refine (nil_S (by assumption)).mono ?_
    rintro e w2 ⟨rfl, hS2⟩
    exact hK _ hS2
  simp only [Act.put, List.setIfInBounds_toArray, List.set_cons_zero, List.set_cons_succ]
  refine held_take (i := 4) (.bool true) rfl (by kernel_rfl) (by kernel_rfl) (by kernel_rfl) (by rfl) (fun w hSw => by go_simp) (by assumption) ?_
  simp only [Act.put, List.setIfInBounds_toArray, List.set_cons_zero, List.set_cons_succ]
  refine held_take (i := 5) (.bool true) rfl (by kernel_rfl) (by kernel_rfl) (by kernel_rfl) (by rfl) (fun w hSw => by go_simp) (by assumption) ?_
  simp only [Act.put, List.setIfInBounds_toArray, List.set_cons_zero, List.set_cons_succ]
  refine held_take (i := 6) (.bool true) rfl (by kernel_rfl) (by kernel_rfl) (by kernel_rfl) (by rfl) (fun w hSw => by go_simp) (by assumption) ?_
  simp only [Act.put, List.setIfInBounds_toArray, List.set_cons_zero, List.set_cons_succ]
  refine held_take (i := 7) (.bool true) rfl (by kernel_rfl) (by kernel_rfl) (by kernel_rfl) (by rfl) (fun w hSw => by go_simp) (by assumption) ?_
  simp only [Act.put, List.setIfInBounds_toArray, List.set_cons_zero, List.set_cons_succ]
  refine held_take (i := 8) (.bool true) rfl (by kernel_rfl) (by kernel_rfl) (by kernel_rfl) (by rfl) (fun w hSw => by go_simp) (by assumption) ?_
  simp only [Act.put, List.setIfInBounds_toArray, List.set_cons_zero, List.set_cons_succ]
  refine held_take (i := 9) (.bool true) rfl (by kernel_rfl) (by kernel_rfl) (by kernel_rfl) (by rfl) (fun w hSw => by go_simp) (by assumption) ?_
  simp only [Act.put, List.setIfInBounds_toArray, List.set_cons_zero, List.set_cons_succ]
  refine held_take (i := 10) (.bool false) rfl (by kernel_rfl) (by kernel_rfl) (by kernel_rfl) (by rfl) (fun w hSw => by go_simp) (by assumption) ?_
  simp only [Act.put, List.setIfInBounds_toArray, List.set_cons_zero, List.set_cons_succ]
  refine held_take (i := 11) (.bool true) rfl (by kernel_rfl) (by kernel_rfl) (by kernel_rfl) (by rfl) (fun w hSw => by go_simp) (by assumption) ?_
  simp only [Act.put, List.setIfInBounds_toArray, List.set_cons_zero, List.set_cons_succ]
  refine held_take (i := 12) (.bool true) rfl (by kernel_rfl) (by kernel_rfl) (by kernel_rfl) (by rfl) (fun w hSw => by go_simp) (by assumption) ?_
  simp only [Act.put, List.setIfInBounds_toArray, List.set_cons_zero, List.set_cons_succ]
  refine held_take (i := 13) (.bool true) rfl (by kernel_rfl) (by kernel_rfl) (by kernel_rfl) (by rfl) (fun w hSw => by go_simp) (by assumption) ?_
  simp only [Act.put, List.setIfInBounds_toArray, List.set_cons_zero, List.set_cons_succ]
  refine held_load (i := 15) g (cellsOf dA) rfl (by kernel_rfl) (by kernel_rfl) (by kernel_rfl) (by rfl) rfl rfl Tryd.underlying23 rfl hi (fun w h => h.range) (by assumption) ?_
  simp only [Act.put, List.setIfInBounds_toArray, List.set_cons_zero, List.set_cons_succ]
  refine held_step (i := 14) (.agg (cellsOf dA).toArray) rfl (by kernel_rfl) (by rfl) (fun K hK => ?_) (fun w' hS => ?_)
  · go_simp
    refine (abc_S (by assumption)).mono ?_
    rintro e w2 ⟨rfl, hS2⟩
    exact hK _ hS2
  simp only [Act.put, List.setIfInBounds_toArray, List.set_cons_zero, List.set_cons_succ]
  refine held_take (i := 16) (.bool true) rfl (by kernel_rfl) (by kernel_rfl) (by kernel_rfl) (by rfl) (fun w hSw => by go_simp) (by assumption) ?_
  simp only [Act.put, List.setIfInBounds_toArray, List.set_cons_zero, List.set_cons_succ]
  refine held_take (i := 17) (.bool true) rfl (by kernel_rfl) (by kernel_rfl) (by kernel_rfl) (by rfl) (fun w hSw => by go_simp) (by assumption) ?_
  simp only [Act.put, List.setIfInBounds_toArray, List.set_cons_zero, List.set_cons_succ]
  refine held_take (i := 18) (.bool true) rfl (by kernel_rfl) (by kernel_rfl) (by kernel_rfl) (by rfl) (fun w hSw => by go_simp) (by assumption) ?_
  simp only [Act.put, List.setIfInBounds_toArray, List.set_cons_zero, List.set_cons_succ]
  refine held_step (i := 19) (.agg (cellsOf dE).toArray) rfl (by kernel_rfl) (by rfl) (fun K hK => ?_) (fun w' hS => ?_)
  · go_simp
    refine (empty_S (by assumption)).mono ?_
    rintro e w2 ⟨rfl, hS2⟩
    exact hK _ hS2
  simp only [Act.put, List.setIfInBounds_toArray, List.set_cons_zero, List.set_cons_succ]
  refine held_step (i := 20) (.string ⟨#[101, 51, 98, 48, 99, 52, 52, 50, 57, 56, 102, 99, 49, 99, 49, 52, 57, 97, 102, 98, 102, 52, 99, 56, 57, 57, 54, 102, 98, 57, 50, 52, 50, 55, 97, 101, 52, 49, 101, 52, 54, 52, 57, 98, 57, 51, 52, 99, 97, 52, 57, 53, 57, 57, 49, 98, 55, 56, 53, 50, 98, 56, 53, 53]⟩) rfl (by kernel_rfl) (by rfl) (fun K hK => ?_) (fun w' hS => ?_)
  · go_simp
    refine (hexE_S (by assumption)).mono ?_
    rintro e w2 ⟨rfl, hS2⟩
    exact hK _ hS2
  simp only [Act.put, List.setIfInBounds_toArray, List.set_cons_zero, List.set_cons_succ]
  refine held_take (i := 21) (.bool true) rfl (by kernel_rfl) (by kernel_rfl) (by kernel_rfl) (by rfl) (fun w hSw => by go_simp) (by assumption) ?_
  simp only [Act.put, List.setIfInBounds_toArray, List.set_cons_zero, List.set_cons_succ]
  refine held_take (i := 22) (.bool true) rfl (by kernel_rfl) (by kernel_rfl) (by kernel_rfl) (by rfl) (fun w hSw => by go_simp) (by assumption) ?_
  simp only [Act.put, List.setIfInBounds_toArray, List.set_cons_zero, List.set_cons_succ]
  refine held_take (i := 23) (.bool true) rfl (by kernel_rfl) (by kernel_rfl) (by kernel_rfl) (by rfl) (fun w hSw => by go_simp) (by assumption) ?_
  simp only [Act.put, List.setIfInBounds_toArray, List.set_cons_zero, List.set_cons_succ]
  refine held_load (i := 24) g (cellsOf dA) rfl (by kernel_rfl) (by kernel_rfl) (by kernel_rfl) (by rfl) rfl rfl Tryd.underlying23 rfl hi (fun w h => h.range) (by assumption) ?_
  simp only [Act.put, List.setIfInBounds_toArray, List.set_cons_zero, List.set_cons_succ]
  refine held_step (i := 25) (.agg (cellsOf dE).toArray) rfl (by kernel_rfl) (by rfl) (fun K hK => ?_) (fun w' hS => ?_)
  · go_simp
    refine (empty_S (by assumption)).mono ?_
    rintro e w2 ⟨rfl, hS2⟩
    exact hK _ hS2
  simp only [Act.put, List.setIfInBounds_toArray, List.set_cons_zero, List.set_cons_succ]
  refine held_step (i := 26) (.bool true) rfl (by kernel_rfl) (by rfl) (fun K hK => ?_) (fun w' hS => ?_)
  · go_simp
    refine (lessAE_S (by assumption)).mono ?_
    rintro e w2 ⟨rfl, hS2⟩
    exact hK _ hS2
  simp only [Act.put, List.setIfInBounds_toArray, List.set_cons_zero, List.set_cons_succ]
  refine held_take (i := 27) (.bool true) rfl (by kernel_rfl) (by kernel_rfl) (by kernel_rfl) (by rfl) (fun w hSw => by go_simp) (by assumption) ?_
  simp only [Act.put, List.setIfInBounds_toArray, List.set_cons_zero, List.set_cons_succ]
  refine held_take (i := 28) (.bool true) rfl (by kernel_rfl) (by kernel_rfl) (by kernel_rfl) (by rfl) (fun w hSw => by go_simp) (by assumption) ?_
  simp only [Act.put, List.setIfInBounds_toArray, List.set_cons_zero, List.set_cons_succ]
  refine held_load (i := 29) g (cellsOf dA) rfl (by kernel_rfl) (by kernel_rfl) (by kernel_rfl) (by rfl) rfl rfl Tryd.underlying23 rfl hi (fun w h => h.range) (by assumption) ?_
  simp only [Act.put, List.setIfInBounds_toArray, List.set_cons_zero, List.set_cons_succ]
  refine held_load (i := 30) g (cellsOf dA) rfl (by kernel_rfl) (by kernel_rfl) (by kernel_rfl) (by rfl) rfl rfl Tryd.underlying23 rfl hi (fun w h => h.range) (by assumption) ?_
  simp only [Act.put, List.setIfInBounds_toArray, List.set_cons_zero, List.set_cons_succ]
  refine held_step (i := 31) (.bool false) rfl (by kernel_rfl) (by rfl) (fun K hK => ?_) (fun w' hS => ?_)
  · go_simp
    refine (lessAA_S (by assumption)).mono ?_
    rintro e w2 ⟨rfl, hS2⟩
    exact hK _ hS2
  simp only [Act.put, List.setIfInBounds_toArray, List.set_cons_zero, List.set_cons_succ]
  refine held_take (i := 32) (.bool true) rfl (by kernel_rfl) (by kernel_rfl) (by kernel_rfl) (by rfl) (fun w hSw => by go_simp) (by assumption) ?_
  simp only [Act.put, List.setIfInBounds_toArray, List.set_cons_zero, List.set_cons_succ]
  refine held_take (i := 33) (.bool true) rfl (by kernel_rfl) (by kernel_rfl) (by kernel_rfl) (by rfl) (fun w hSw => by go_simp) (by assumption) ?_
  simp only [Act.put, List.setIfInBounds_toArray, List.set_cons_zero, List.set_cons_succ]
  refine held_take (i := 34) (.bool true) rfl (by kernel_rfl) (by kernel_rfl) (by kernel_rfl) (by rfl) (fun w hSw => by go_simp) (by assumption) ?_
  simp only [Act.put, List.setIfInBounds_toArray, List.set_cons_zero]
  refine wpAnyH_done (by kernel_rfl) ?_ _
  refine NoPanic.normal ?_
  go_wp2_with fail
  go_ret
  exact ⟨rfl, SmS.bel (by assumption)⟩
end Go.Proofs.YtddcephegpmbbaaDoor
