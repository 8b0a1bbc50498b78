/- The digest: package sum's. -/
import Derived.Test.YtddcephegpmbbaaDoorShaParts
import Derived.Deep.RegionWith
import Derived.Deep.RegionLaw
namespace Go.Proofs.YtddcephegpmbbaaDoor
open Go.ChangeShapes Go.WideShapes Go.ChangeAt Go.RowKit

/-- So many zero bytes. -/
def zeros32 : Array Value := #[.int .u8 0, .int .u8 0, .int .u8 0, .int .u8 0, .int .u8 0, .int .u8 0, .int .u8 0, .int .u8 0, .int .u8 0, .int .u8 0, .int .u8 0, .int .u8 0, .int .u8 0, .int .u8 0, .int .u8 0, .int .u8 0, .int .u8 0, .int .u8 0, .int .u8 0, .int .u8 0, .int .u8 0, .int .u8 0, .int .u8 0, .int .u8 0, .int .u8 0, .int .u8 0, .int .u8 0, .int .u8 0, .int .u8 0, .int .u8 0, .int .u8 0, .int .u8 0]
/-- The memory while the blocks go. -/
structure ShaW (W : World) (st : S8) (w : World) : Prop where
  out : w.heap[W.heap.size]? = some (.cells zeros32 23 (0, 0))
  row : w.heap[W.heap.size + 1]? = some (.cells (w8 st) 43 (0, 0))
  var : Vars w
  bel : Below W.heap.size W w
theorem ShaW.lt {W w : World} {st : S8} (h : ShaW W st w) : W.heap.size + 1 < w.heap.size := (Array.getElem?_eq_some_iff.1 h.row).1
theorem ShaW.below {W w w' : World} {st : S8} (h : ShaW W st w) (hb : Below w.heap.size w w') : ShaW W st w' :=
  ⟨by rw [hb.block _ (by have := h.lt; omega)]; exact h.out, by rw [hb.block _ h.lt]; exact h.row, h.var.below hb, h.bel.trans (hb.mono h.bel.size)⟩
theorem ShaW.drewN {W w : World} {st : S8} (h : ShaW W st w) (n : Nat) : ShaW W st (w.drewN n) := ⟨h.out, h.row, ⟨h.var.st, h.var.ks⟩, ⟨h.bel.os, h.bel.tape, h.bel.output, h.bel.size, h.bel.block⟩⟩
theorem ShaW.drew {W w : World} {st : S8} (h : ShaW W st w) : ShaW W st w.drew := ⟨h.out, h.row, ⟨h.var.st, h.var.ks⟩, h.bel.drew⟩

theorem ShaW.setRow {W w : World} {st : S8} (h : ShaW W st w) (st2 : S8) : ShaW W st2 (w.setRow (W.heap.size + 1) (w8 st2)) := by
  refine ⟨?_, setRow_heap _ _ _ _ _ _ h.row, ?_, below_setRow h.bel (by omega) _⟩
  · rw [setRow_other _ _ _ _ (by omega)]; exact h.out
  · have hlt := h.var.lt
    have := h.lt
    have h0 : 0 ≠ W.heap.size + 1 := by omega
    have h1 : 1 ≠ W.heap.size + 1 := by
      intro e
      have hr := h.row
      obtain ⟨T, fr, hk⟩ := h.var.ks
      rw [← e, hk] at hr
      injection hr with hr
      injection hr with hr _ _
      have := congrArg Array.size hr
      simp [wordsV, w8, shaK] at this
    exact h.var.block (setRow_other _ _ _ _ h0) (setRow_other _ _ _ _ h1)
theorem part_at {l : List UInt8} {a b : ByteArray} {j c0 c1 : Nat} (h : j < 2) (h0 : PartOf l a c0 (cnt l 0) (cnt l 1)) (h1 : PartOf l b c1 (cnt l 1) (cnt l 2)) (ha : a.size ≤ 1000000000) (hb : b.size ≤ 1000000000) :
    ∃ (p : ByteArray) (c : Nat), p.size ≤ 1000000000 ∧ (∀ W, (Instr.index 45 (.agg #[.string a, .string b]) (.int .i64 (j : Int))).run Tryd.prog W = .ok (.string p) W) ∧ PartOf l p c (cnt l j) (cnt l (j + 1)) := by
  rcases (show j = 0 ∨ j = 1 by omega) with rfl | rfl
  · exact ⟨a, c0, ha, fun W => by kernel_rfl, h0⟩
  · exact ⟨b, c1, hb, fun W => by kernel_rfl, h1⟩
theorem ShaW.start (W : World) (st : S8) (hv : Vars W) : ShaW W st (((W.alloc (.cells zeros32 23)).alloc (.cells #[.int .u32 0, .int .u32 0, .int .u32 0, .int .u32 0, .int .u32 0, .int .u32 0, .int .u32 0, .int .u32 0] 43)).setRow (W.heap.size + 1) (w8 st)) := by
  have hb : Below W.heap.size W (((W.alloc (.cells zeros32 23)).alloc (.cells #[.int .u32 0, .int .u32 0, .int .u32 0, .int .u32 0, .int .u32 0, .int .u32 0, .int .u32 0, .int .u32 0] 43)).setRow (W.heap.size + 1) (w8 st)) :=
    below_setRow (((Below.refl _ _).alloc (Nat.le_refl _) _).alloc (by simp) _) (by omega) _
  refine ⟨?_, setRow_heap _ _ _ _ _ _ (heap_alloc2_new _ _ _), hv.below hb, hb⟩
  rw [setRow_other _ _ _ _ (by omega)]
  exact heap_alloc2_old _ _ _

/-- The first i bytes of the digest, then zeros. -/
def dmix (st : S8) (i : Nat) : Array Value := (cellsOf ((outL st).take i ++ List.replicate (32 - i) 0)).toArray
theorem out_len (st : S8) : (outL st).length = 32 := by simp [outL]
theorem dmix_size (st : S8) (i : Nat) (h : i ≤ 32) : (dmix st i).size = 32 := by
  unfold dmix cellsOf
  simp [out_len]; omega
theorem dmix_set (st : S8) (i : Nat) (h : i < 32) : (dmix st i).setIfInBounds i (.int .u8 ((outByte st i).toNat : Int)) = dmix st (i + 1) := by
  unfold dmix cellsOf
  rw [List.setIfInBounds_toArray]
  congr 1
  have : (Value.int .u8 ((outByte st i).toNat : Int)) = (fun c : UInt8 => Value.int .u8 (c.toNat : Int)) (outByte st i) := rfl
  rw [this, ← List.map_set]
  congr 1
  have hl : ((outL st).take i).length = i := by rw [List.length_take, out_len]; omega
  rw [List.set_append_right _ _ (by rw [hl]; exact Nat.le_refl _), hl, Nat.sub_self, List.take_succ_eq_append_getElem (by rw [out_len]; exact h), List.append_assoc]
  congr 1
  rw [show 32 - i = (32 - (i + 1)) + 1 by omega, List.replicate_succ]
  simp [outL]
theorem dmix_end (st : S8) : dmix st 32 = (cellsOf (outL st)).toArray := by
  unfold dmix
  rw [List.take_of_length_le (by rw [out_len]; omega)]; simp
theorem dmix_one (st : S8) (i : Nat) : (dmix st i).all (·.oneCell') = true := by
  unfold dmix cellsOf
  rw [Array.all_eq_true_iff_forall_mem]
  intro x hx
  rw [List.mem_toArray] at hx
  obtain ⟨y, _, rfl⟩ := List.mem_map.1 hx
  rfl
theorem outByte_is (st : S8) (i : Nat) : IntKind.u8.wrap (V ((words8 st).getD (i / 4) 0) / 2 ^ (24 - 8 * (i % 4))) = ((outByte st i).toNat : Int) := by
  rw [shr_V _ _ (by omega)]
  unfold outByte V
  rw [IntKind.wrap_u8, UInt8.toNat_ofNat']; rfl
/-- The memory while the digest is written. -/
structure OutW (W : World) (st : S8) (D i : Nat) (w : World) : Prop where
  out : w.heap[W.heap.size]? = some (.cells zeros32 23 (0, 0))
  row : w.heap[W.heap.size + 1]? = some (.cells (w8 st) 43 (0, 0))
  arr : w.heap[D]? = some (.cells (dmix st i) 23 (0, 0))
  bel : Below W.heap.size W w
  far : W.heap.size + 1 < D
theorem OutW.start {W w : World} {st : S8} (h : ShaW W st w) : OutW W st w.heap.size 0 (w.alloc (.cells zeros32 23)) := by
  have hlt := h.lt
  refine ⟨?_, ?_, heap_alloc_new _ _, h.bel.alloc (by omega) _, hlt⟩
  · rw [Below.heap_alloc _ _ _ (by omega)]; exact h.out
  · rw [Below.heap_alloc _ _ _ (by omega)]; exact h.row
theorem OutW.word {W w : World} {st : S8} {D i : Nat} (h : OutW W st D i w) (j : Nat) (hj : j < 32) : w.cell? ⟨W.heap.size + 1, j / 4, none⟩ = some (.int .u32 (V ((words8 st).getD (j / 4) 0))) := by
  rw [cell_of_row _ _ _ _ _ _ h.row]
  rcases (show j / 4 = 0 ∨ j / 4 = 1 ∨ j / 4 = 2 ∨ j / 4 = 3 ∨ j / 4 = 4 ∨ j / 4 = 5 ∨ j / 4 = 6 ∨ j / 4 = 7 by omega) with e | e | e | e | e | e | e | e <;> rw [e] <;> rfl
theorem OutW.cell {W w : World} {st : S8} {D i : Nat} (h : OutW W st D i w) (hi : i < 32) : ∃ v, w.cell? ⟨D, i, none⟩ = some v := by
  rw [cell_of_row _ _ _ _ _ _ h.arr]
  exact ⟨_, Array.getElem?_eq_getElem (by rw [dmix_size _ _ (by omega)]; exact hi)⟩
theorem OutW.set {W w : World} {st : S8} {D i : Nat} (h : OutW W st D i w) (hi : i < 32) {c : UInt8} (hc : outByte st i = c) : OutW W st D (i + 1) (w.setCell ⟨D, i, none⟩ (.int .u8 (c.toNat : Int))) := by
  have hf := h.far
  refine ⟨?_, ?_, ?_, h.bel.setCell (by show W.heap.size ≤ D; omega) _, hf⟩
  · rw [heap_setCell_other _ _ _ _ (by show W.heap.size ≠ D; omega)]; exact h.out
  · rw [heap_setCell_other _ _ _ _ (by show W.heap.size + 1 ≠ D; omega)]; exact h.row
  · rw [← dmix_set _ _ hi, hc]; exact heap_setCell_same _ _ _ _ _ _ h.arr

set_option maxRecDepth 100000 in
set_option maxHeartbeats 1600000 in
theorem sha_any (s : ByteArray) (hs : s.size ≤ 1000000000) (w : World) (hv : Vars w) :
    Calls Tryd.prog 12 #[.string s] w fun e w' => e = .returned (.agg (cellsOf (shaL s.data.toList)).toArray) ∧ Below w.heap.size w w' := by
  have hV := Lib.hid hv
  clear hv
  obtain ⟨T, fr, hst⟩ := hV.out.st
  obtain ⟨s0, hs0⟩ : ∃ s0, sha0 = s0 := ⟨_, rfl⟩
  have HS0 := Lib.hid hs0
  rw [hs0] at hst
  clear hs0
  have hst1 : (w.alloc (.cells zeros32 23)).heap[0]? = some (.cells (w8 s0) T fr) := by
    rw [Below.heap_alloc _ _ _ (by have := hV.out.lt; omega)]; exact hst
  have HS := Lib.hid hst1
  clear hst hst1
  obtain ⟨q, hq⟩ : ∃ q, s.size / 64 = q := ⟨_, rfl⟩
  have p0 := part0 s
  obtain ⟨r, p1⟩ := part1 s
  rw [hq] at p0 p1
  have hq1 : 64 * q ≤ s.size := by omega
  have hq2 : (s.size : Int) - (s.size : Int) % 64 = 64 * (q : Int) := by omega
  have hq3 : s.size - 64 * q < 64 := by omega
  have P0 := Lib.hid p0
  have P1 := Lib.hid p1
  have HQ2 := Lib.hid hq2
  clear p0 p1 hq2 hq
  go_enter Tryd.func12, Tryd.ntmps12
  go_wp2_with (first
    | refine wpList_load_row rfl 43 _ rfl 0 rfl T _ fr _ HS.out Tryd.underlying43 rfl (by kernel_rfl) ?_
    | refine wpList_store_row rfl 43 _ _ rfl (w.heap.size + 1) (w8 s0) rfl rfl 43 _ (heap_alloc2_new _ _ _) (by kernel_rfl) rfl (w8_one _) ?_)
  rw [HQ2.out]
  have hW := Lib.hid (ShaW.start w s0 hV.out)
  obtain ⟨w1, hw1⟩ : ∃ w1, ((w.alloc (.cells zeros32 23)).alloc (.cells #[.int .u32 0, .int .u32 0, .int .u32 0, .int .u32 0, .int .u32 0, .int .u32 0, .int .u32 0, .int .u32 0] 43)).setRow (w.heap.size + 1) (w8 s0) = w1 := ⟨_, rfl⟩
  rw [hw1] at hW
  change Code.wp _ _ _ _ (((w.alloc (.cells zeros32 23)).alloc (.cells #[.int .u32 0, .int .u32 0, .int .u32 0, .int .u32 0, .int .u32 0, .int .u32 0, .int .u32 0, .int .u32 0] 43)).setRow (w.heap.size + 1) (w8 s0))
  rw [hw1]
  clear hw1 HS HQ2
  have hz := (by rw [ByteArray.size_extract]; omega : (s.extract (64 * q) s.size).size < 64)
  have hy0 : 0 ≤ 64 * (q : Int) := by omega
  have hy1 : 64 * (q : Int) ≤ s.size := by omega
  have hy2 : (64 * (q : Int)).toNat = 64 * q := by omega
  obtain ⟨p, hp⟩ : ∃ p : ByteArray, ⟨(bL (s.extract (64 * q) s.size).data.toList s.size 8).toArray⟩ = p := ⟨_, rfl⟩
  have hpad := fun W => padded_any (s.extract (64 * q) s.size) hz s.size (by omega) W
  have hps : Hid (p.size ≤ 1000000000) := by
    show _ ≤ _
    rw [← hp]
    show (bL (s.extract (64 * q) s.size).data.toList s.size 8).toArray.size ≤ _
    rw [List.size_toArray, bL_len _ _ _ (by omega), size_list]
    unfold zerosN
    omega
  have hpa : Hid ((s.extract 0 (64 * q)).size ≤ 1000000000) := by
    show _ ≤ _
    rw [ByteArray.size_extract]; omega
  rw [hp] at hpad P1
  have HP := Lib.hid hpad
  clear hp hpad hz
  go_region_law (go_simp; go_at_call 20; refine (HP.out _).mono ?_; rintro e w' ⟨rfl, hb⟩)
  have hW2 := Lib.hid (hW.out.drew.below hb)
  clear hW hb HP hy0 hy1 hy2
  go_simp
  go_wp2_with fail
  go_loopw [27] (fun j wr => ∃ j' : Nat, j' ≤ 2 ∧ j = .int .i64 j' ∧ ShaW w (blocksP (padL s.data.toList) s0 (cnt s.data.toList j')) wr) (fun j _ => 2 - (intOf j).toNat)
  case atStart => exact ⟨0, Nat.zero_le _, rfl, hW2.out⟩
  case round =>
    clear hW2
    obtain ⟨j, hj, rfl, hX⟩ := hrel
    have hW := Lib.hid hX
    clear hX
    by_cases hlt : j < 2
    · obtain ⟨pj, c, hcl, hidx, hP⟩ := part_at hlt P0.out P1.out hpa.out hps.out
      have hjj : Hid (j < 2) := hlt
      have hsz : Hid (pj.size = 64 * c) := hP.size
      have hcl2 : 64 * c ≤ 1000000000 := by rw [← hP.size]; exact hcl
      have HPJ := Lib.hid hP
      have hsz2 : (pj.size : Int) = 64 * (c : Int) := by have := hP.size; omega
      have hsz3 := Lib.hid hsz2
      have hlt' : (j : Int) < 2 := by omega
      clear hP P0 P1 hpa hps hsz2
      go_wp2_with fail
      clear hidx hlt'
      go_loopw [7] (fun i wr => ∃ i' : Nat, i' ≤ c ∧ i = .int .i64 (64 * (i' : Int)) ∧ ShaW w (blocksP (padL s.data.toList) s0 (cnt s.data.toList j + i')) wr) (fun i _ => 64 * c - (intOf i).toNat)
      case atStart => exact ⟨0, Nat.zero_le _, rfl, hW.out⟩
      case round =>
        clear hW
        obtain ⟨i, hi, rfl, hX⟩ := hrel
        have hW := Lib.hid hX
        clear hX
        by_cases hic : i < c
        · have f0 : 64 * (i : Int) < (pj.size : Int) := by have := hsz3.out; omega
          go_wp2_with fail
          clear f0
          have HN := Lib.hid (blocks_next HPJ.out hic s0)
          obtain ⟨b, hb⟩ : ∃ b, pj.extract (64 * i) (64 * i + 64) = b := ⟨_, rfl⟩
          obtain ⟨st, hst⟩ : ∃ st, blocksP (padL s.data.toList) s0 (cnt s.data.toList j + i) = st := ⟨_, rfl⟩
          rw [hb, hst] at HN
          rw [hst] at hW
          clear hst
          obtain ⟨sa, sb, sc, sd, se, sf, sg, sh⟩ := st
          have c0 := cell_of_row wr (w.heap.size + 1) 0 _ _ _ hW.out.row
          have c1 := cell_of_row wr (w.heap.size + 1) 1 _ _ _ hW.out.row
          have c2 := cell_of_row wr (w.heap.size + 1) 2 _ _ _ hW.out.row
          have c3 := cell_of_row wr (w.heap.size + 1) 3 _ _ _ hW.out.row
          have c4 := cell_of_row wr (w.heap.size + 1) 4 _ _ _ hW.out.row
          have c5 := cell_of_row wr (w.heap.size + 1) 5 _ _ _ hW.out.row
          have c6 := cell_of_row wr (w.heap.size + 1) 6 _ _ _ hW.out.row
          have c7 := cell_of_row wr (w.heap.size + 1) 7 _ _ _ hW.out.row
          simp only [w8, List.getElem?_toArray, List.getElem?_cons_zero, List.getElem?_cons_succ] at c0 c1 c2 c3 c4 c5 c6 c7
          have g0 : IntKind.i64.wrap (64 * (i : Int) + 64) = 64 * (i : Int) + 64 := IntWalk.i64_in _ (by omega)
          have g1 : 0 ≤ 64 * (i : Int) := by omega
          have g2 : 64 * (i : Int) ≤ 64 * (i : Int) + 64 := by omega
          have g3 : 64 * (i : Int) + 64 ≤ (pj.size : Int) := by have := hsz3.out; omega
          have g4 : (64 * (i : Int)).toNat = 64 * i := by omega
          have g5 : (64 * (i : Int) + 64).toNat = 64 * i + 64 := by omega
          go_still_tail 6, (by kernel_rfl)
          change wpList _ _ _ _ _ wr.drew
          clear c0 c1 c2 c3 c4 c5 c6 c7 g0 g1 g2 g3 g4 g5 hb
          have HC := fun W hv => compress_any ⟨sa, sb, sc, sd, se, sf, sg, sh⟩ b HN.out.1 W hv
          obtain ⟨st2, hst2⟩ : ∃ st2, blockP ⟨sa, sb, sc, sd, se, sf, sg, sh⟩ b.data.toList = st2 := ⟨_, rfl⟩
          rw [hst2] at HC HN
          clear hst2
          have HC2 := Lib.hid HC
          clear HC
          go_wp2_with fail
          refine (HC2.out _ hW.out.drew.var).mono ?_
          rintro e w2 ⟨rfl, hb2⟩
          have hW2 := Lib.hid (hW.out.drew.below hb2)
          clear hb2 hW
          go_wp2_with (refine wpList_store_row rfl 43 _ _ rfl (w.heap.size + 1) (w8 st2) rfl rfl 43 _ hW2.out.row (by kernel_rfl) rfl (w8_one _) ?_)
          have hW3 := Lib.hid (hW2.out.setRow st2)
          go_roundw
          case rel => exact ⟨i + 1, by omega, by go_num, by rw [← HN.out.2]; exact hW3.out⟩
          case measure => simp [intOf]; omega
        · have eic : i = c := by omega
          have f0 : ¬ 64 * (i : Int) < (pj.size : Int) := by have := hsz3.out; omega
          have hW3 : Hid (ShaW w (blocksP (padL s.data.toList) s0 (cnt s.data.toList (j + 1))) wr) := by
            have h := hW.out
            rw [eic, ← HPJ.out.next] at h
            exact h
          clear hW
          go_wp2_with fail
          go_roundw
          case rel => exact ⟨j + 1, by have := hjj.out; omega, by go_num, hW3.out⟩
          case measure => have := hjj.out; simp [intOf]; omega
    · have ej : j = 2 := by omega
      rw [ej] at hW
      rw [show (j : Int) = 2 by omega]
      clear ej hlt hj P0 P1 hpa hps
      obtain ⟨st, hst⟩ : ∃ st, blocksP (padL s.data.toList) s0 (cnt s.data.toList 2) = st := ⟨_, rfl⟩
      have HE : Hid (outL st = shaL s.data.toList) := by
        show _ = _
        rw [← hst, ← HS0.out]; rfl
      rw [hst] at hW
      clear hst
      go_wp2_with fail
      have hO := Lib.hid (OutW.start hW.out)
      clear hW
      obtain ⟨D, hD⟩ : ∃ D, wr.heap.size = D := ⟨_, rfl⟩
      rw [hD] at hO
      rw [hD]
      clear hD
      go_loopw [44] (fun i wr => ∃ i' : Nat, i' ≤ 32 ∧ i = .int .i64 i' ∧ OutW w st D i' wr) (fun i _ => 32 - (intOf i).toNat)
      case atStart => exact ⟨0, Nat.zero_le _, rfl, hO.out⟩
      case round =>
        clear hO
        obtain ⟨i, hi, rfl, hX⟩ := hrel
        have hO := Lib.hid hX
        clear hX
        by_cases hlt : i < 32
        · have c0 := hO.out.word i hlt
          obtain ⟨v, c1⟩ := hO.out.cell hlt
          have f1 := frozen_of_row _ _ i _ _ hO.out.arr
          have hby := outByte_is st i
          obtain ⟨x, hx⟩ : ∃ x, (words8 st).getD (i / 4) 0 = x := ⟨_, rfl⟩
          obtain ⟨c, hc⟩ : ∃ c, outByte st i = c := ⟨_, rfl⟩
          rw [hx] at c0 hby
          rw [hc] at hby
          have hby' := hby
          rw [IntKind.wrap_u8] at hby'
          have HC := Lib.hid hc
          clear hx hc
          have n4 : ((i : Int) / 4).toNat = i / 4 := by omega
          have n8 : (24 - 8 * ((i : Int) % 4)).toNat = 24 - 8 * (i % 4) := by omega
          go_wp2_with fail
          go_roundw
          case rel => exact ⟨i + 1, by omega, by go_num, hO.out.set hlt HC.out⟩
          case measure => simp [intOf]; omega
        · have ei : i = 32 := by omega
          rw [ei] at hO
          rw [show (i : Int) = 32 by omega]
          clear ei hlt hi
          have hsz := dmix_size st 32 (by omega)
          have H2 : Hid ((Tryd.prog.info? 23).map (·.size) = some (dmix st 32).size) := by
            show _ = _
            rw [hsz]; kernel_rfl
          have H3 : Hid (zeros32.size = (dmix st 32).size) := by
            show _ = _
            rw [hsz]; rfl
          have HF : Hid (dmix st 32 = (cellsOf (shaL s.data.toList)).toArray) := by
            show _ = _
            rw [dmix_end, HE.out]
          clear hsz
          go_wp2_with (first
            | refine wpList_load_row rfl 23 _ rfl D rfl 23 _ (0, 0) _ hO.out.arr Tryd.underlying23 rfl H2.out ?_
            | refine wpList_store_row rfl 23 _ _ rfl w.heap.size (dmix st 32) rfl rfl 23 _ hO.out.out H2.out H3.out (dmix_one _ _) ?_)
          exact bodyPost_ret (results_cell_row Tryd.results12 _ _ w.heap.size 23 (dmix st 32) (0, 0) _ rfl (setRow_heap _ _ _ _ _ _ hO.out.out) Tryd.underlying23 rfl H2.out) rfl ⟨by rw [HF.out], below_setRow hO.out.bel (Nat.le_refl _) _⟩
end Go.Proofs.YtddcephegpmbbaaDoor
