/- One block: package sum's. -/
import Derived.Test.YtddcephegpmbbaaDoorSched
import Derived.Deep.WholeRow
namespace Go.Proofs.YtddcephegpmbbaaDoor
open Go.ChangeShapes Go.WideShapes Go.ChangeAt Go.RowKit

/-- A state as its cells. -/
def w8 (s : S8) : Array Value := #[.int .u32 (V s.a), .int .u32 (V s.b), .int .u32 (V s.c), .int .u32 (V s.d), .int .u32 (V s.e), .int .u32 (V s.f), .int .u32 (V s.g), .int .u32 (V s.h)]
theorem w8_one (s : S8) : (w8 s).all (·.oneCell') = true := by simp [w8, Value.oneCell']
/-- What package sum reads of its package-level variables. -/
structure Vars (w : World) : Prop where
  st : ∃ T fr, w.heap[0]? = some (.cells (w8 sha0) T fr)
  ks : ∃ T fr, w.heap[1]? = some (.cells (wordsV shaK).toArray T fr)
theorem Vars.lt {w : World} (h : Vars w) : 1 < w.heap.size := by
  obtain ⟨_, _, h1⟩ := h.ks
  exact (Array.getElem?_eq_some_iff.1 h1).1
theorem Vars.block {w w' : World} (h : Vars w) (h0 : w'.heap[0]? = w.heap[0]?) (h1 : w'.heap[1]? = w.heap[1]?) : Vars w' := ⟨by rw [h0]; exact h.st, by rw [h1]; exact h.ks⟩
theorem Vars.below {w w' : World} (h : Vars w) (hb : Below w.heap.size w w') : Vars w' := h.block (hb.block 0 (by have := h.lt; omega)) (hb.block 1 h.lt)
theorem Vars.k {w : World} (h : Vars w) (t : Nat) (ht : t < 64) : w.cell? ⟨1, t, none⟩ = some (.int .u32 (V (shaK.getD t 0))) := by
  obtain ⟨T, fr, h1⟩ := h.ks
  rw [cell_of_row w 1 t _ _ _ h1, wordsV, List.getElem?_toArray, List.getElem?_map, List.getElem?_eq_getElem (show t < shaK.length from ht), List.getD_eq_getElem?_getD, List.getElem?_eq_getElem (show t < shaK.length from ht)]
  rfl

/-- The memory while the rounds go. -/
structure Cst (W : World) (s : S8) (l : List UInt8) (B : Nat) (w : World) : Prop where
  box : w.heap[W.heap.size]? = some (.cells (w8 s) 43 (0, 0))
  out : w.heap[W.heap.size + 1]? = some (.cells #[.int .u32 0, .int .u32 0, .int .u32 0, .int .u32 0, .int .u32 0, .int .u32 0, .int .u32 0, .int .u32 0] 43 (0, 0))
  wrd : w.heap[B]? = some (.cells (arrT l 64) 54 (0, 0))
  var : Vars w
  bel : Below W.heap.size W w
theorem Cst.drewN {W : World} {s : S8} {l : List UInt8} {B : Nat} {w : World} (h : Cst W s l B w) (n : Nat) : Cst W s l B (w.drewN n) := ⟨h.box, h.out, h.wrd, ⟨h.var.st, h.var.ks⟩, ⟨h.bel.os, h.bel.tape, h.bel.output, h.bel.size, h.bel.block⟩⟩
theorem Cst.word {W : World} {s : S8} {l : List UInt8} {B : Nat} {w : World} (h : Cst W s l B w) (t : Nat) (ht : t < 64) : w.cell? ⟨B, t, none⟩ = some (.int .u32 (V ((sched l 64).getD t 0))) := by
  rw [cell_of_row w B t _ _ _ h.wrd, arrT_get l 64 t ht (Nat.le_refl _)]; rfl

theorem Cst.start (W : World) (s : S8) (l : List UInt8) (w1 : World) (hv : Vars W)
    (hb : Below ((W.alloc (.cells (w8 s) 43)).alloc (.cells #[.int .u32 0, .int .u32 0, .int .u32 0, .int .u32 0, .int .u32 0, .int .u32 0, .int .u32 0, .int .u32 0] 43)).heap.size ((W.alloc (.cells (w8 s) 43)).alloc (.cells #[.int .u32 0, .int .u32 0, .int .u32 0, .int .u32 0, .int .u32 0, .int .u32 0, .int .u32 0, .int .u32 0] 43)) w1) :
    Cst W s l w1.heap.size (w1.alloc (.cells (arrT l 64) 54)) := by
  have hs : W.heap.size + 1 + 1 ≤ w1.heap.size := by have := hb.size; simpa using this
  have hbel : Below W.heap.size W w1 := (((Below.refl _ _).alloc (Nat.le_refl _) _).alloc (by simp) _).trans (hb.mono (by simp; omega))
  have hbel2 := hbel.alloc (by omega) (.cells (arrT l 64) 54)
  refine ⟨?_, ?_, heap_alloc_new _ _, hv.below hbel2, hbel2⟩
  · rw [Below.heap_alloc _ _ _ (by omega), hb.block _ (by simp; omega)]; exact heap_alloc2_old _ _ _
  · rw [Below.heap_alloc _ _ _ (by omega), hb.block _ (by simp)]; exact heap_alloc2_new _ _ _

/-- The memory while the two states are added. -/
structure Fin2 (W : World) (cs : Array Value) (w : World) : Prop where
  box : w.heap[W.heap.size]? = some (.cells cs 43 (0, 0))
  out : w.heap[W.heap.size + 1]? = some (.cells #[.int .u32 0, .int .u32 0, .int .u32 0, .int .u32 0, .int .u32 0, .int .u32 0, .int .u32 0, .int .u32 0] 43 (0, 0))
  bel : Below W.heap.size W w
theorem Fin2.set {W w : World} {cs : Array Value} (h : Fin2 W cs w) (j : Nat) (v : Value) : Fin2 W (cs.setIfInBounds j v) (w.setCell ⟨W.heap.size, j, none⟩ v) := by
  refine ⟨heap_setCell_same _ _ _ _ _ _ h.box, ?_, h.bel.setCell (Nat.le_refl _) _⟩
  rw [heap_setCell_other _ _ _ _ (by simp)]
  exact h.out
/-- The first j sums, then what was there. -/
def mixL (xs ys : List UInt32) (j : Nat) : List UInt32 := (List.zipWith (· + ·) xs ys).take j ++ xs.drop j
theorem mix_len (s r : S8) (j : Nat) (h : j ≤ 8) : (mixL (words8 s) (words8 r) j).length = 8 := by
  simp [mixL, words8]; omega
theorem mix_get (s r : S8) (j : Nat) (h : j < 8) : (wordsV (mixL (words8 s) (words8 r) j)).toArray[j]? = some (.int .u32 (V ((words8 s).getD j 0))) := by
  rcases (show j = 0 ∨ j = 1 ∨ j = 2 ∨ j = 3 ∨ j = 4 ∨ j = 5 ∨ j = 6 ∨ j = 7 by omega) with rfl | rfl | rfl | rfl | rfl | rfl | rfl | rfl <;> rfl
theorem mix_set (s r : S8) (j : Nat) (h : j < 8) : (wordsV (mixL (words8 s) (words8 r) j)).toArray.setIfInBounds j (.int .u32 (V ((words8 s).getD j 0 + (words8 r).getD j 0))) = (wordsV (mixL (words8 s) (words8 r) (j + 1))).toArray := by
  rcases (show j = 0 ∨ j = 1 ∨ j = 2 ∨ j = 3 ∨ j = 4 ∨ j = 5 ∨ j = 6 ∨ j = 7 by omega) with rfl | rfl | rfl | rfl | rfl | rfl | rfl | rfl <;> rfl
theorem mix_end (s r : S8) : (wordsV (mixL (words8 s) (words8 r) 8)).toArray = w8 (add8 s r) := rfl
theorem idx8 (r : S8) (j : Nat) (h : j < 8) (W : World) : (Instr.index 43 (.agg #[.int .u32 (V r.a), .int .u32 (V r.b), .int .u32 (V r.c), .int .u32 (V r.d), .int .u32 (V r.e), .int .u32 (V r.f), .int .u32 (V r.g), .int .u32 (V r.h)]) (.int .i64 (j : Int))).run Tryd.prog W = .ok (.int .u32 (V ((words8 r).getD j 0))) W := by
  rcases (show j = 0 ∨ j = 1 ∨ j = 2 ∨ j = 3 ∨ j = 4 ∨ j = 5 ∨ j = 6 ∨ j = 7 by omega) with rfl | rfl | rfl | rfl | rfl | rfl | rfl | rfl <;> kernel_rfl

set_option maxRecDepth 100000 in
set_option maxHeartbeats 1600000 in
theorem compress_any (s : S8) (b' : ByteArray) (hb : b'.size = 64) (w : World) (hv : Vars w) :
    Calls Tryd.prog 21 #[.agg (w8 s), .string b'] w fun e w' => e = .returned (.agg (w8 (blockP s b'.data.toList))) ∧ Below w.heap.size w w' := by
  have hV := Lib.hid hv
  clear hv
  have HB : Hid (b'.size = 64) := hb
  clear hb
  go_enter Tryd.func21, Tryd.ntmps21
  go_wp2_with fail
  refine (schedule_any b' HB.out _).mono ?_
  rintro e w1 ⟨rfl, hb1⟩
  have hC := Lib.hid (Cst.start w s b'.data.toList w1 hV.out hb1)
  clear hb1
  go_wp2_with (refine wpList_store_row rfl 54 _ _ rfl w1.heap.size (arrT b'.data.toList 64) rfl rfl 54 _ (heap_alloc_new _ _) (by rw [arrT_size _ _ (by omega)]; kernel_rfl) (by rw [arrT_size _ _ (by omega)]; rfl) (arrT_one _ _) ?_)
  rw [World.setRow_alloc_new]
  obtain ⟨w2, hw2⟩ : ∃ w2, w1.alloc (.cells (arrT b'.data.toList 64) 54) = w2 := ⟨_, rfl⟩
  rw [hw2] at hC
  rw [hw2]
  clear hw2
  obtain ⟨B, hB⟩ : ∃ B, w1.heap.size = B := ⟨_, rfl⟩
  rw [hB] at hC
  rw [hB]
  clear hB
  obtain ⟨sa, sb, sc, sd, se, sf, sg, sh⟩ := s
  have c0 := cell_of_row w2 w.heap.size 0 _ _ _ hC.out.box
  have c1 := cell_of_row w2 w.heap.size 1 _ _ _ hC.out.box
  have c2 := cell_of_row w2 w.heap.size 2 _ _ _ hC.out.box
  have c3 := cell_of_row w2 w.heap.size 3 _ _ _ hC.out.box
  have c4 := cell_of_row w2 w.heap.size 4 _ _ _ hC.out.box
  have c5 := cell_of_row w2 w.heap.size 5 _ _ _ hC.out.box
  have c6 := cell_of_row w2 w.heap.size 6 _ _ _ hC.out.box
  have c7 := cell_of_row w2 w.heap.size 7 _ _ _ hC.out.box
  simp only [w8, List.getElem?_toArray, List.getElem?_cons_zero, List.getElem?_cons_succ] at c0 c1 c2 c3 c4 c5 c6 c7
  go_quiet (fail)
  replace hC := Lib.hid (hC.out.drewN nq)
  clear c0 c1 c2 c3 c4 c5 c6 c7
  obtain ⟨w3, hw3⟩ : ∃ w3, w2.drewN nq = w3 := ⟨_, rfl⟩
  rw [hw3] at hC
  rw [hw3]
  clear hw3
  go_wp2_with fail
  go_loopw [6, 7, 8, 9, 10, 11, 12, 13, 41] (fun xa xb xc xd xe xf xg xh i wr => ∃ (t : Nat) (a b c d e f g h : UInt32), t ≤ 64 ∧ i = .int .i64 t ∧ xa = .int .u32 (V a) ∧ xb = .int .u32 (V b) ∧ xc = .int .u32 (V c) ∧ xd = .int .u32 (V d) ∧ xe = .int .u32 (V e) ∧ xf = .int .u32 (V f) ∧ xg = .int .u32 (V g) ∧ xh = .int .u32 (V h) ∧
      Hid (S8.mk a b c d e f g h = roundsTo (sched b'.data.toList 64) ⟨sa, sb, sc, sd, se, sf, sg, sh⟩ t) ∧ Cst w ⟨sa, sb, sc, sd, se, sf, sg, sh⟩ b'.data.toList B wr) (fun _ _ _ _ _ _ _ _ i _ => 64 - (intOf i).toNat)
  case atStart => exact ⟨0, sa, sb, sc, sd, se, sf, sg, sh, Nat.zero_le _, rfl, rfl, rfl, rfl, rfl, rfl, rfl, rfl, rfl, rfl, hC.out⟩
  case round =>
    clear hC
    obtain ⟨t, a, b, c, d, e, f, g, h, ht, rfl, rfl, rfl, rfl, rfl, rfl, rfl, rfl, rfl, HR, HC⟩ := hrel
    have hC := Lib.hid HC
    clear HC
    by_cases hlt : t < 64
    · have ck := hC.out.var.k t hlt
      have cw := hC.out.word t hlt
      have HN : Hid (rnd ⟨a, b, c, d, e, f, g, h⟩ (shaK.getD t 0) ((sched b'.data.toList 64).getD t 0) = roundsTo (sched b'.data.toList 64) ⟨sa, sb, sc, sd, se, sf, sg, sh⟩ (t + 1)) := by
        rw [HR.out]; rfl
      clear HR
      obtain ⟨k, hk⟩ : ∃ k, shaK.getD t 0 = k := ⟨_, rfl⟩
      obtain ⟨x, hx⟩ : ∃ x, (sched b'.data.toList 64).getD t 0 = x := ⟨_, rfl⟩
      rw [hk] at ck HN
      rw [hx] at cw HN
      clear hk hx
      have qx := xor_V
      have qa := and_V
      have qn : ∀ x : UInt32, bits .xor .u32 IntKind.u32.max (V x) = V (~~~x) := not_V'
      have qs : IntKind.u32.signed = false := rfl
      have ad := add_V
      have ad' := add_V'
      go_wp2_with (go_at_call 29; first
        | ((with_reducible refine (right6 e _).mono ?_); rintro e w' ⟨rfl, rfl⟩)
        | ((with_reducible refine (right11 e _).mono ?_); rintro e w' ⟨rfl, rfl⟩)
        | ((with_reducible refine (right25 e _).mono ?_); rintro e w' ⟨rfl, rfl⟩))
      go_quiet (fail)
      have hD := Lib.hid (hC.out.drewN nq)
      clear hC ck cw
      obtain ⟨w4, hw4⟩ : ∃ w4, wr.drewN nq = w4 := ⟨_, rfl⟩
      rw [hw4] at hD
      rw [hw4]
      clear hw4
      go_wp2_with (go_at_call 29; first
        | ((with_reducible refine (right2 a _).mono ?_); rintro e w' ⟨rfl, rfl⟩)
        | ((with_reducible refine (right13 a _).mono ?_); rintro e w' ⟨rfl, rfl⟩)
        | ((with_reducible refine (right22 a _).mono ?_); rintro e w' ⟨rfl, rfl⟩))
      clear qx qa qn qs ad ad'
      go_roundw
      case rel => exact ⟨t + 1, _, _, _, _, _, _, _, _, by omega, by go_num, rfl, rfl, rfl, rfl, rfl, rfl, rfl, rfl, HN, hD.out⟩
      case measure => simp [intOf]; omega
    · have et : t = 64 := by omega
      rw [et] at HR
      rw [show (t : Int) = 64 by omega]
      clear et hlt ht t
      go_wp2_with fail
      go_loopw [117] (fun i wr => ∃ j : Nat, j ≤ 8 ∧ i = .int .i64 j ∧ Fin2 w (wordsV (mixL (words8 ⟨sa, sb, sc, sd, se, sf, sg, sh⟩) (words8 ⟨a, b, c, d, e, f, g, h⟩) j)).toArray wr) (fun i _ => 8 - (intOf i).toNat)
      case atStart => exact ⟨0, Nat.zero_le _, rfl, hC.out.box, hC.out.out, hC.out.bel⟩
      case round =>
        clear hC
        obtain ⟨j, hj, rfl, HF⟩ := hrel
        have hF := Lib.hid HF
        clear HF
        by_cases hlt : j < 8
        · have gc := mix_get ⟨sa, sb, sc, sd, se, sf, sg, sh⟩ ⟨a, b, c, d, e, f, g, h⟩ j hlt
          rw [← cell_of_row wr _ _ _ _ _ hF.out.box] at gc
          have gf := frozen_of_row wr w.heap.size j _ _ hF.out.box
          have hi := idx8 ⟨a, b, c, d, e, f, g, h⟩ j hlt
          have HS := Lib.hid (mix_set ⟨sa, sb, sc, sd, se, sf, sg, sh⟩ ⟨a, b, c, d, e, f, g, h⟩ j hlt)
          obtain ⟨x, hx⟩ : ∃ x, (words8 ⟨sa, sb, sc, sd, se, sf, sg, sh⟩).getD j 0 = x := ⟨_, rfl⟩
          obtain ⟨y, hy⟩ : ∃ y, (words8 ⟨a, b, c, d, e, f, g, h⟩).getD j 0 = y := ⟨_, rfl⟩
          rw [hx] at gc HS
          rw [hy] at hi HS
          clear hx hy
          have ad := add_V
          have ad' := add_V'
          go_wp2_with fail
          clear ad ad' hi
          go_roundw
          case rel => exact ⟨j + 1, by omega, by go_num, by
            have h := hF.out.set j (.int .u32 (V (x + y)))
            rw [HS.out] at h
            exact h⟩
          case measure => simp [intOf]; omega
        · have ej : j = 8 := by omega
          rw [ej, mix_end] at hF
          rw [show (j : Int) = 8 by omega]
          have HE : Hid (add8 ⟨sa, sb, sc, sd, se, sf, sg, sh⟩ ⟨a, b, c, d, e, f, g, h⟩ = blockP ⟨sa, sb, sc, sd, se, sf, sg, sh⟩ b'.data.toList) := by
            rw [HR.out]; rfl
          obtain ⟨r, hr⟩ : ∃ r, add8 ⟨sa, sb, sc, sd, se, sf, sg, sh⟩ ⟨a, b, c, d, e, f, g, h⟩ = r := ⟨_, rfl⟩
          have HE2 : Hid (blockP ⟨sa, sb, sc, sd, se, sf, sg, sh⟩ b'.data.toList = r) := HE.out.symm.trans hr
          rw [hr] at hF
          clear hr HE HR ej hlt hj j
          go_wp2_with (first
            | refine wpList_load_row rfl 43 _ rfl w.heap.size rfl 43 _ (0, 0) _ hF.out.box Tryd.underlying43 rfl (by kernel_rfl) ?_
            | refine wpList_store_row rfl 43 _ _ rfl (w.heap.size + 1) (w8 r) rfl rfl 43 _ hF.out.out (by kernel_rfl) rfl (w8_one r) ?_)
          exact bodyPost_ret (results_cell_row Tryd.results21 _ _ (w.heap.size + 1) 43 (w8 r) (0, 0) _ rfl (setRow_heap _ _ _ _ _ _ hF.out.out) Tryd.underlying43 rfl (by kernel_rfl)) rfl ⟨by rw [HE2.out], below_setRow hF.out.bel (by omega) _⟩
end Go.Proofs.YtddcephegpmbbaaDoor
