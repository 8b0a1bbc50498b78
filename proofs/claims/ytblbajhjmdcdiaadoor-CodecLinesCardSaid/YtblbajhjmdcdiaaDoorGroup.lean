/- The four characters of a group. -/
import Derived.Test.YtblbajhjmdcdiaaDoorCopy
import Derived.LoopN
import Derived.Laws.CopyOwn
import Derived.Test.YtblbajhjmdcdiaaDoorHeld
namespace Go.Proofs.YtblbajhjmdcdiaaDoor
open Go.ChangeShapes Go.WideShapes Go.ChangeAt Go.RowKit

/-- The alphabet. -/
def alph : ByteArray := ⟨#[65, 66, 67, 68, 69, 70, 71, 72, 73, 74, 75, 76, 77, 78, 79, 80, 81, 82, 83, 84, 85, 86, 87, 88, 89, 90, 97, 98, 99, 100, 101, 102, 103, 104, 105, 106, 107, 108, 109, 110, 111, 112, 113, 114, 115, 116, 117, 118, 119, 120, 121, 122, 48, 49, 50, 51, 52, 53, 54, 55, 56, 57, 43, 47]⟩
theorem alph_size : alph.size = 64 := rfl
theorem alph_at : ∀ n : Fin 64, alph.data[n.val]? = some (d64 n.val) := by decide
theorem run_alph (k : IntKind) (n : Nat) (h : n < 64) (W : World) : (Instr.index 9 (.string alph) (.int k n)).run Tryd.prog W = .ok (.int .u8 ((d64 n).toNat : Int)) W := by
  have h2 : n < alph.size := h
  have h3 : alph[n] = d64 n := by
    have h1 : alph.data[n]? = some (d64 n) := alph_at ⟨n, h⟩
    rw [Array.getElem?_eq_getElem (show n < alph.data.size from h)] at h1
    exact Option.some.inj h1
  go_simp

theorem and63 : ∀ v : Fin 256, bits .and .u8 (v.val : Int) 63 = ((v.val % 64 : Nat) : Int) := by decide +kernel
theorem or16 : ∀ x y : Fin 16, bits .or .u8 (((16 * x.val : Nat) : Int)) (y.val : Int) = ((16 * x.val + y.val : Nat) : Int) := by decide +kernel
theorem or4 : ∀ (x : Fin 64) (y : Fin 4), bits .or .u8 (((4 * x.val : Nat) : Int)) (y.val : Int) = ((4 * x.val + y.val : Nat) : Int) := by decide +kernel
theorem n2_is (x y : Nat) (hx : x < 256) (hy : y < 256) : bits .and .u8 (bits .or .u8 (IntKind.u8.wrap ((x : Int) * 16)) ((y : Int) / 16)) 63 = ((x % 4 * 16 + y / 16 : Nat) : Int) := by
  have e1 : IntKind.u8.wrap ((x : Int) * 16) = ((16 * (x % 16) : Nat) : Int) := by rw [IntKind.wrap_u8]; omega
  have e2 : ((y : Int) / 16) = ((y / 16 : Nat) : Int) := by omega
  rw [e1, e2, or16 ⟨x % 16, by omega⟩ ⟨y / 16, by omega⟩, and63 ⟨16 * (x % 16) + y / 16, by omega⟩]
  simp only []; omega
theorem n3_is (y z : Nat) (hy : y < 256) (hz : z < 256) : bits .and .u8 (bits .or .u8 (IntKind.u8.wrap ((y : Int) * 4)) ((z : Int) / 64)) 63 = ((y % 16 * 4 + z / 64 : Nat) : Int) := by
  have e1 : IntKind.u8.wrap ((y : Int) * 4) = ((4 * (y % 64) : Nat) : Int) := by rw [IntKind.wrap_u8]; omega
  have e2 : ((z : Int) / 64) = ((z / 64 : Nat) : Int) := by omega
  rw [e1, e2, or4 ⟨y % 64, by omega⟩ ⟨z / 64, by omega⟩, and63 ⟨4 * (y % 64) + z / 64, by omega⟩]
  simp only []; omega
theorem n4_is (z : Nat) (hz : z < 256) : bits .and .u8 (z : Int) 63 = ((z % 64 : Nat) : Int) := and63 ⟨z, hz⟩

theorem heap_set {W : World} {N : Nat} {cs : Array Value} {t : TypeId} {fr : Nat × Nat} (h : W.heap[N]? = some (.cells cs t fr)) (j : Nat) (v : Value) :
    (W.setCell ⟨N, j, none⟩ v).heap[N]? = some (.cells (cs.setIfInBounds j v) t fr) := by
  simp [World.setCell, Array.getElem?_modify, h]
theorem four_one (a b c d : Int) : (#[.int .u8 a, .int .u8 b, .int .u8 c, .int .u8 d] : Array Value).all (·.oneCell') = true := by simp [Value.oneCell']
/-- The bytes of a group in their array. -/
def Three (g : Nat) (x y z : UInt8) (W : World) : Prop := W.cell? ⟨g, 0, none⟩ = some (.int .u8 x.toNat) ∧ W.cell? ⟨g, 1, none⟩ = some (.int .u8 y.toNat) ∧ W.cell? ⟨g, 2, none⟩ = some (.int .u8 z.toNat)
theorem three_of {g : Nat} {x y z : UInt8} {W : World} (h : W.heap[g]? = some (.cells #[.int .u8 x.toNat, .int .u8 y.toNat, .int .u8 z.toNat] 57 (0, 0))) : Three g x y z W :=
  ⟨by rw [Lib.cell_of_heap h]; rfl, by rw [Lib.cell_of_heap h]; rfl, by rw [Lib.cell_of_heap h]; rfl⟩

set_option maxHeartbeats 4000000 in
set_option maxRecDepth 1000000 in
theorem group_core (s : ByteArray) (n : Nat) (hn : s.size = n) (h1 : 1 ≤ n) (h3 : n ≤ 3) (x y z : UInt8)
    (hc : (cellsOf (s.data.toList.take 3) ++ (#[.int .u8 0, .int .u8 0, .int .u8 0] : Array Value).toList.drop (min n 3)).toArray = #[.int .u8 x.toNat, .int .u8 y.toNat, .int .u8 z.toNat]) (w : World) :
    Calls Tryd.prog 24 #[.string s] w fun e w' => e = .returned (.agg (cellsOf [d64 (x.toNat / 4), d64 (x.toNat % 4 * 16 + y.toNat / 16), if n < 2 then 61 else d64 (y.toNat % 16 * 4 + z.toNat / 64), if n < 3 then 61 else d64 (z.toNat % 64)]).toArray) ∧ Below w.heap.size w w' := by
  obtain ⟨W1, hW1⟩ : ∃ W1, ((w.alloc (.cells #[.int .u8 0, .int .u8 0, .int .u8 0, .int .u8 0] 32)).alloc (.cells #[.int .u8 0, .int .u8 0, .int .u8 0] 57)) = W1 := ⟨_, rfl⟩
  have hg1 : W1.heap[w.heap.size + 1]? = some (.cells #[.int .u8 0, .int .u8 0, .int .u8 0] 57 (0, 0)) := by
    have := Go.heap_alloc_new (w.alloc (.cells #[.int .u8 0, .int .u8 0, .int .u8 0, .int .u8 0] 32)) (.cells #[.int .u8 0, .int .u8 0, .int .u8 0] 57)
    rw [hW1] at this
    simpa using this
  have hcp := run_copy_str W1 s (w.heap.size + 1) 3 #[.int .u8 0, .int .u8 0, .int .u8 0] 57 3 hg1 rfl
  rw [hn, hc] at hcp
  obtain ⟨W2, hW2⟩ : ∃ W2, W1.setRow (w.heap.size + 1) #[.int .u8 x.toNat, .int .u8 y.toNat, .int .u8 z.toNat] = W2 := ⟨_, rfl⟩
  rw [hW2] at hcp
  have hb1 : Below w.heap.size w W1 := by rw [← hW1]; exact ((Below.refl _ _).alloc (Nat.le_refl _) _).alloc (by simp) _
  have hs1 : W1.heap.size = w.heap.size + 2 := by rw [← hW1]; simp
  have hr1 : W1.heap[w.heap.size]? = some (.cells #[.int .u8 0, .int .u8 0, .int .u8 0, .int .u8 0] 32 (0, 0)) := by
    rw [← hW1, ((Below.refl _ (w.alloc (.cells #[.int .u8 0, .int .u8 0, .int .u8 0, .int .u8 0] 32))).alloc (Nat.le_refl _) _).block w.heap.size (by simp)]
    exact Go.heap_alloc_new _ _
  have hg2 : W2.heap[w.heap.size + 1]? = some (.cells #[.int .u8 x.toNat, .int .u8 y.toNat, .int .u8 z.toNat] 57 (0, 0)) := by
    rw [← hW2]; exact setRow_heap _ _ _ _ _ _ hg1
  have hr2 : W2.heap[w.heap.size]? = some (.cells #[.int .u8 0, .int .u8 0, .int .u8 0, .int .u8 0] 32 (0, 0)) := by
    rw [← hW2, setRow_other _ _ _ _ (by omega)]; exact hr1
  have hb2 : Below w.heap.size w W2 := by rw [← hW2]; exact ⟨hb1.os, hb1.tape, hb1.output, by rw [setRow_size]; exact hb1.size, fun j hj => by rw [setRow_other _ _ _ _ (by omega)]; exact hb1.block j hj⟩
  have hs2 : W2.heap.size = w.heap.size + 2 := by rw [← hW2, setRow_size]; exact hs1
  have hx := x.toNat_lt
  have hy := y.toNat_lt
  have hz := z.toNat_lt
  have r1 := fun W => run_alph .u8 (x.toNat / 4) (by omega) W
  have r2 := fun W => run_alph .u8 (x.toNat % 4 * 16 + y.toNat / 16) (by omega) W
  have r3 := fun W => run_alph .u8 (y.toNat % 16 * 4 + z.toNat / 64) (by omega) W
  have r4 := fun W => run_alph .u8 (z.toNat % 64) (by omega) W
  have N1 : (x.toNat : Int) / 4 = ((x.toNat / 4 : Nat) : Int) := by omega
  have N2 := n2_is _ _ hx hy
  have N3 := n3_is _ _ hy hz
  have N4 := n4_is _ hz
  generalize x.toNat / 4 = n1 at r1 N1
  generalize x.toNat % 4 * 16 + y.toNat / 16 = n2 at r2 N2
  generalize y.toNat % 16 * 4 + z.toNat / 64 = n3 at r3 N3
  generalize z.toNat % 64 = n4 at r4 N4
  generalize d64 n1 = q1 at r1
  generalize d64 n2 = q2 at r2
  generalize d64 n3 = q3 at r3
  generalize d64 n4 = q4 at r4
  unfold alph at r1 r2 r3 r4
  have T2 : Three (w.heap.size + 1) x y z W2 := three_of hg2
  have HH := Lib.hid (And.intro hb2 (And.intro hr2 hs2))
  have hA : ∀ o, Three (w.heap.size + 1) x y z (W2.alloc o).drew := fun o => by
    have hb : Below W2.heap.size W2 (W2.alloc o).drew := ((Below.refl W2.heap.size W2).alloc (Nat.le_refl _) o).drew
    refine three_of ?_
    rw [hb.block (w.heap.size + 1) (by omega)]
    exact hg2
  have HA := Lib.hid hA
  clear hA
  have HN := Lib.hid (And.intro hn (And.intro h1 h3))
  clear hW2 hg1 hg2 hr1 hr2 hb1 hb2 hs1 hs2 hc hx hy hz hn h1 h3
  generalize hg : w.heap.size + 1 = g at hcp T2 HA
  go_enter Tryd.func24, Tryd.ntmps24
  go_wp2_with fail
  clear hcp hW1 hg
  refine wp_region_noPanic ?_
  refine wp_region_held_drew (S := Three g x y z) (by kernel_rfl) T2 (fun hS => ?_)
  refine held_take (i := 0) (.pointer (some ⟨g, 0, none⟩)) rfl (by kernel_rfl) (by kernel_rfl) (by kernel_rfl) (by rfl) (fun w hSw => by have c0 := hSw.1; have c1 := hSw.2.1; have c2 := hSw.2.2; go_simp) (by assumption) ?_
  simp only [Act.put, List.setIfInBounds_toArray, List.set_cons_zero, List.set_cons_succ]
  refine held_take (i := 1) (.int .u8 (x.toNat : Int)) rfl (by kernel_rfl) (by kernel_rfl) (by kernel_rfl) (by rfl) (fun w hSw => by have c0 := hSw.1; have c1 := hSw.2.1; have c2 := hSw.2.2; go_simp) (by assumption) ?_
  simp only [Act.put, List.setIfInBounds_toArray, List.set_cons_zero, List.set_cons_succ]
  refine held_take (i := 2) (.int .u8 (n1 : Int)) rfl (by kernel_rfl) (by kernel_rfl) (by kernel_rfl) (by rfl) (fun w hSw => by have c0 := hSw.1; have c1 := hSw.2.1; have c2 := hSw.2.2; go_simp) (by assumption) ?_
  simp only [Act.put, List.setIfInBounds_toArray, List.set_cons_zero, List.set_cons_succ]
  refine held_take (i := 3) (.int .u8 (q1.toNat : Int)) rfl (by kernel_rfl) (by kernel_rfl) (by kernel_rfl) (by rfl) (fun w hSw => by have c0 := hSw.1; have c1 := hSw.2.1; have c2 := hSw.2.2; go_simp) (by assumption) ?_
  simp only [Act.put, List.setIfInBounds_toArray, List.set_cons_zero, List.set_cons_succ]
  refine held_take (i := 4) (.pointer (some ⟨g, 0, none⟩)) rfl (by kernel_rfl) (by kernel_rfl) (by kernel_rfl) (by rfl) (fun w hSw => by have c0 := hSw.1; have c1 := hSw.2.1; have c2 := hSw.2.2; go_simp) (by assumption) ?_
  simp only [Act.put, List.setIfInBounds_toArray, List.set_cons_zero, List.set_cons_succ]
  refine held_take (i := 5) (.int .u8 (x.toNat : Int)) rfl (by kernel_rfl) (by kernel_rfl) (by kernel_rfl) (by rfl) (fun w hSw => by have c0 := hSw.1; have c1 := hSw.2.1; have c2 := hSw.2.2; go_simp) (by assumption) ?_
  simp only [Act.put, List.setIfInBounds_toArray, List.set_cons_zero, List.set_cons_succ]
  refine held_take (i := 6) (.int .u8 (IntKind.u8.wrap ((x.toNat : Int) * 16))) rfl (by kernel_rfl) (by kernel_rfl) (by kernel_rfl) (by rfl) (fun w hSw => by have c0 := hSw.1; have c1 := hSw.2.1; have c2 := hSw.2.2; go_simp) (by assumption) ?_
  simp only [Act.put, List.setIfInBounds_toArray, List.set_cons_zero, List.set_cons_succ]
  refine held_take (i := 7) (.pointer (some ⟨g, 1, none⟩)) rfl (by kernel_rfl) (by kernel_rfl) (by kernel_rfl) (by rfl) (fun w hSw => by have c0 := hSw.1; have c1 := hSw.2.1; have c2 := hSw.2.2; go_simp) (by assumption) ?_
  simp only [Act.put, List.setIfInBounds_toArray, List.set_cons_zero, List.set_cons_succ]
  refine held_take (i := 8) (.int .u8 (y.toNat : Int)) rfl (by kernel_rfl) (by kernel_rfl) (by kernel_rfl) (by rfl) (fun w hSw => by have c0 := hSw.1; have c1 := hSw.2.1; have c2 := hSw.2.2; go_simp) (by assumption) ?_
  simp only [Act.put, List.setIfInBounds_toArray, List.set_cons_zero, List.set_cons_succ]
  refine held_take (i := 9) (.int .u8 ((y.toNat : Int) / 16)) rfl (by kernel_rfl) (by kernel_rfl) (by kernel_rfl) (by rfl) (fun w hSw => by have c0 := hSw.1; have c1 := hSw.2.1; have c2 := hSw.2.2; go_simp) (by assumption) ?_
  simp only [Act.put, List.setIfInBounds_toArray, List.set_cons_zero, List.set_cons_succ]
  refine held_take (i := 10) (.int .u8 (bits .or .u8 (IntKind.u8.wrap ((x.toNat : Int) * 16)) ((y.toNat : Int) / 16))) rfl (by kernel_rfl) (by kernel_rfl) (by kernel_rfl) (by rfl) (fun w hSw => by have c0 := hSw.1; have c1 := hSw.2.1; have c2 := hSw.2.2; go_simp) (by assumption) ?_
  simp only [Act.put, List.setIfInBounds_toArray, List.set_cons_zero, List.set_cons_succ]
  refine held_take (i := 11) (.int .u8 (n2 : Int)) rfl (by kernel_rfl) (by kernel_rfl) (by kernel_rfl) (by rfl) (fun w hSw => by have c0 := hSw.1; have c1 := hSw.2.1; have c2 := hSw.2.2; go_simp) (by assumption) ?_
  simp only [Act.put, List.setIfInBounds_toArray, List.set_cons_zero, List.set_cons_succ]
  refine held_take (i := 12) (.int .u8 (q2.toNat : Int)) rfl (by kernel_rfl) (by kernel_rfl) (by kernel_rfl) (by rfl) (fun w hSw => by have c0 := hSw.1; have c1 := hSw.2.1; have c2 := hSw.2.2; go_simp) (by assumption) ?_
  simp only [Act.put, List.setIfInBounds_toArray, List.set_cons_zero, List.set_cons_succ]
  refine held_take (i := 13) (.pointer (some ⟨g, 1, none⟩)) rfl (by kernel_rfl) (by kernel_rfl) (by kernel_rfl) (by rfl) (fun w hSw => by have c0 := hSw.1; have c1 := hSw.2.1; have c2 := hSw.2.2; go_simp) (by assumption) ?_
  simp only [Act.put, List.setIfInBounds_toArray, List.set_cons_zero, List.set_cons_succ]
  refine held_take (i := 14) (.int .u8 (y.toNat : Int)) rfl (by kernel_rfl) (by kernel_rfl) (by kernel_rfl) (by rfl) (fun w hSw => by have c0 := hSw.1; have c1 := hSw.2.1; have c2 := hSw.2.2; go_simp) (by assumption) ?_
  simp only [Act.put, List.setIfInBounds_toArray, List.set_cons_zero, List.set_cons_succ]
  refine held_take (i := 15) (.int .u8 (IntKind.u8.wrap ((y.toNat : Int) * 4))) rfl (by kernel_rfl) (by kernel_rfl) (by kernel_rfl) (by rfl) (fun w hSw => by have c0 := hSw.1; have c1 := hSw.2.1; have c2 := hSw.2.2; go_simp) (by assumption) ?_
  simp only [Act.put, List.setIfInBounds_toArray, List.set_cons_zero, List.set_cons_succ]
  refine held_take (i := 16) (.pointer (some ⟨g, 2, none⟩)) rfl (by kernel_rfl) (by kernel_rfl) (by kernel_rfl) (by rfl) (fun w hSw => by have c0 := hSw.1; have c1 := hSw.2.1; have c2 := hSw.2.2; go_simp) (by assumption) ?_
  simp only [Act.put, List.setIfInBounds_toArray, List.set_cons_zero, List.set_cons_succ]
  refine held_take (i := 17) (.int .u8 (z.toNat : Int)) rfl (by kernel_rfl) (by kernel_rfl) (by kernel_rfl) (by rfl) (fun w hSw => by have c0 := hSw.1; have c1 := hSw.2.1; have c2 := hSw.2.2; go_simp) (by assumption) ?_
  simp only [Act.put, List.setIfInBounds_toArray, List.set_cons_zero, List.set_cons_succ]
  refine held_take (i := 18) (.int .u8 ((z.toNat : Int) / 64)) rfl (by kernel_rfl) (by kernel_rfl) (by kernel_rfl) (by rfl) (fun w hSw => by have c0 := hSw.1; have c1 := hSw.2.1; have c2 := hSw.2.2; go_simp) (by assumption) ?_
  simp only [Act.put, List.setIfInBounds_toArray, List.set_cons_zero, List.set_cons_succ]
  refine held_take (i := 19) (.int .u8 (bits .or .u8 (IntKind.u8.wrap ((y.toNat : Int) * 4)) ((z.toNat : Int) / 64))) rfl (by kernel_rfl) (by kernel_rfl) (by kernel_rfl) (by rfl) (fun w hSw => by have c0 := hSw.1; have c1 := hSw.2.1; have c2 := hSw.2.2; go_simp) (by assumption) ?_
  simp only [Act.put, List.setIfInBounds_toArray, List.set_cons_zero, List.set_cons_succ]
  refine held_take (i := 20) (.int .u8 (n3 : Int)) rfl (by kernel_rfl) (by kernel_rfl) (by kernel_rfl) (by rfl) (fun w hSw => by have c0 := hSw.1; have c1 := hSw.2.1; have c2 := hSw.2.2; go_simp) (by assumption) ?_
  simp only [Act.put, List.setIfInBounds_toArray, List.set_cons_zero, List.set_cons_succ]
  refine held_take (i := 21) (.int .u8 (q3.toNat : Int)) rfl (by kernel_rfl) (by kernel_rfl) (by kernel_rfl) (by rfl) (fun w hSw => by have c0 := hSw.1; have c1 := hSw.2.1; have c2 := hSw.2.2; go_simp) (by assumption) ?_
  simp only [Act.put, List.setIfInBounds_toArray, List.set_cons_zero, List.set_cons_succ]
  refine held_take (i := 22) (.pointer (some ⟨g, 2, none⟩)) rfl (by kernel_rfl) (by kernel_rfl) (by kernel_rfl) (by rfl) (fun w hSw => by have c0 := hSw.1; have c1 := hSw.2.1; have c2 := hSw.2.2; go_simp) (by assumption) ?_
  simp only [Act.put, List.setIfInBounds_toArray, List.set_cons_zero, List.set_cons_succ]
  refine held_take (i := 23) (.int .u8 (z.toNat : Int)) rfl (by kernel_rfl) (by kernel_rfl) (by kernel_rfl) (by rfl) (fun w hSw => by have c0 := hSw.1; have c1 := hSw.2.1; have c2 := hSw.2.2; go_simp) (by assumption) ?_
  simp only [Act.put, List.setIfInBounds_toArray, List.set_cons_zero, List.set_cons_succ]
  refine held_take (i := 24) (.int .u8 (n4 : Int)) rfl (by kernel_rfl) (by kernel_rfl) (by kernel_rfl) (by rfl) (fun w hSw => by have c0 := hSw.1; have c1 := hSw.2.1; have c2 := hSw.2.2; go_simp) (by assumption) ?_
  simp only [Act.put, List.setIfInBounds_toArray, List.set_cons_zero, List.set_cons_succ]
  refine held_take (i := 25) (.int .u8 (q4.toNat : Int)) rfl (by kernel_rfl) (by kernel_rfl) (by kernel_rfl) (by rfl) (fun w hSw => by have c0 := hSw.1; have c1 := hSw.2.1; have c2 := hSw.2.2; go_simp) (by assumption) ?_
  simp only [Act.put, List.setIfInBounds_toArray, List.set_cons_zero, List.set_cons_succ]
  refine held_take (i := 26) (.agg #[.int .u8 (q1.toNat : Int), .int .u8 (q2.toNat : Int), .int .u8 (q3.toNat : Int), .int .u8 (q4.toNat : Int)]) rfl (by kernel_rfl) (by kernel_rfl) (by kernel_rfl) (by rfl) (fun w hSw => by have c0 := hSw.1; have c1 := hSw.2.1; have c2 := hSw.2.2; go_simp) (by assumption) ?_
  simp only [Act.put, List.setIfInBounds_toArray, List.set_cons_zero, List.set_cons_succ]
  refine held_goes (i := 27) (.pointer (some ⟨W2.heap.size, 0, none⟩)) (W2.drew.alloc (.cells #[.int .u8 0, .int .u8 0, .int .u8 0, .int .u8 0] 32)) rfl (by kernel_rfl) (by rfl) (fun K hK => ?_) (HA.out _) ?_
  · go_simp
    exact hK
  simp only [Act.put, List.setIfInBounds_toArray, List.set_cons_zero, List.set_cons_succ]
  refine held_goes (i := 28) undef (W2.alloc (.cells #[.int .u8 (q1.toNat : Int), .int .u8 (q2.toNat : Int), .int .u8 (q3.toNat : Int), .int .u8 (q4.toNat : Int)] 32)).drew rfl (by kernel_rfl) (by rfl) (fun K hK => ?_) (HA.out _) ?_
  · go_simp
    exact hK
  simp only [Act.put, List.setIfInBounds_toArray, List.set_cons_zero, List.set_cons_succ]
  refine wpAnyH_done (by kernel_rfl) ?_ _
  refine NoPanic.normal ?_
  obtain ⟨ho1, ho2, ho3⟩ := HH.out
  have hb3 : Below w.heap.size w (W2.alloc (.cells #[.int .u8 (q1.toNat : Int), .int .u8 (q2.toNat : Int), .int .u8 (q3.toNat : Int), .int .u8 (q4.toNat : Int)] 32)).drew := (ho1.alloc (by omega) _).drew
  have hk3 : (W2.alloc (.cells #[.int .u8 (q1.toNat : Int), .int .u8 (q2.toNat : Int), .int .u8 (q3.toNat : Int), .int .u8 (q4.toNat : Int)] 32)).drew.heap[W2.heap.size]? = some (.cells #[.int .u8 (q1.toNat : Int), .int .u8 (q2.toNat : Int), .int .u8 (q3.toNat : Int), .int .u8 (q4.toNat : Int)] 32 (0, 0)) := Go.heap_alloc_new _ _
  have hr3 : (W2.alloc (.cells #[.int .u8 (q1.toNat : Int), .int .u8 (q2.toNat : Int), .int .u8 (q3.toNat : Int), .int .u8 (q4.toNat : Int)] 32)).drew.heap[w.heap.size]? = some (.cells #[.int .u8 0, .int .u8 0, .int .u8 0, .int .u8 0] 32 (0, 0)) := by
    rw [((Below.refl W2.heap.size W2).alloc (Nat.le_refl _) (.cells #[.int .u8 (q1.toNat : Int), .int .u8 (q2.toNat : Int), .int .u8 (q3.toNat : Int), .int .u8 (q4.toNat : Int)] 32)).drew.block w.heap.size (by omega)]
    exact ho2
  generalize (W2.alloc (.cells #[.int .u8 (q1.toNat : Int), .int .u8 (q2.toNat : Int), .int .u8 (q3.toNat : Int), .int .u8 (q4.toNat : Int)] 32)).drew = W3 at hb3 hk3 hr3
  have hN : w.heap.size < W2.heap.size := by omega
  generalize W2.heap.size = N at hk3 hN
  clear HA hS T2 r1 r2 r3 r4 N1 N2 N3 N4 HH ho1 ho2 ho3
  obtain ⟨hn, h1, h3⟩ := HN.out
  clear HN
  have HR3 := Lib.hid hr3
  have HB3 := Lib.hid hb3
  have HK3 := Lib.hid hk3
  clear hb3 hr3
  rcases (show n = 3 ∨ n = 2 ∨ n = 1 by omega) with rfl | rfl | rfl
  · have HK := HK3
    have HR := HR3
    have HB := HB3
    clear hk3 HK3 HR3 HB3
    go_wp2_with fail
    refine wp_loop_rounds 1 ?_
    rw [rounds_succ]
    go_wp2_with (first
      | refine wpList_load_row rfl 32 _ rfl N rfl 32 _ (0, 0) _ HK.out Tryd.underlying32 rfl (by kernel_rfl) ?_
      | refine wpList_store_row rfl 32 _ _ rfl w.heap.size #[.int .u8 (q1.toNat : Int), .int .u8 (q2.toNat : Int), .int .u8 (q3.toNat : Int), .int .u8 (q4.toNat : Int)] rfl rfl 32 _ HR.out (by kernel_rfl) rfl (four_one _ _ _ _) ?_)
    try simp only [Exit.inBlock, Exit.then]
    refine bodyPost_ret (results_cell_row Tryd.results24 _ _ w.heap.size 32 #[.int .u8 (q1.toNat : Int), .int .u8 (q2.toNat : Int), .int .u8 (q3.toNat : Int), .int .u8 (q4.toNat : Int)] (0, 0) _ rfl (setRow_heap _ _ _ _ _ _ HR.out) Tryd.underlying32 rfl (by kernel_rfl)) rfl ?_
    exact ⟨rfl, below_setRow HB.out (Nat.le_refl _) _⟩
  · have c3 : W3.cell? ⟨N, 3, none⟩ = some (.int .u8 (q4.toNat : Int)) := by rw [Lib.cell_of_heap hk3]; rfl
    have f3 := Lib.frozen_of_heap hk3 3
    have HK := Lib.hid (heap_set hk3 3 (.int .u8 61))
    have HR : Hid ((W3.setCell ⟨N, 3, none⟩ (.int .u8 61)).heap[w.heap.size]? = _) := Lib.hid ((Below.heap_setCell W3 ⟨N, 3, none⟩ (.int .u8 61) w.heap.size (by simp; omega)).trans HR3.out)
    have HB := Lib.hid (HB3.out.setCell (p := ⟨N, 3, none⟩) (Nat.le_of_lt hN) (.int .u8 61))
    clear hk3 HK3 HR3 HB3
    go_wp2_with fail
    refine wp_loop_rounds 2 ?_
    rw [rounds_succ]
    go_wp2_with fail
    rw [rounds_succ]
    go_wp2_with (first
      | refine wpList_load_row rfl 32 _ rfl N rfl 32 _ (0, 0) _ HK.out Tryd.underlying32 rfl (by kernel_rfl) ?_
      | refine wpList_store_row rfl 32 _ _ rfl w.heap.size #[.int .u8 (q1.toNat : Int), .int .u8 (q2.toNat : Int), .int .u8 (q3.toNat : Int), .int .u8 61] rfl rfl 32 _ HR.out (by kernel_rfl) rfl (four_one _ _ _ _) ?_)
    try simp only [Exit.inBlock, Exit.then]
    refine bodyPost_ret (results_cell_row Tryd.results24 _ _ w.heap.size 32 #[.int .u8 (q1.toNat : Int), .int .u8 (q2.toNat : Int), .int .u8 (q3.toNat : Int), .int .u8 61] (0, 0) _ rfl (setRow_heap _ _ _ _ _ _ HR.out) Tryd.underlying32 rfl (by kernel_rfl)) rfl ?_
    exact ⟨rfl, below_setRow HB.out (Nat.le_refl _) _⟩
  · have c2 : W3.cell? ⟨N, 2, none⟩ = some (.int .u8 (q3.toNat : Int)) := by rw [Lib.cell_of_heap hk3]; rfl
    have f2 := Lib.frozen_of_heap hk3 2
    have hk4 := heap_set hk3 2 (.int .u8 61)
    have c3 : (W3.setCell ⟨N, 2, none⟩ (.int .u8 61)).cell? ⟨N, 3, none⟩ = some (.int .u8 (q4.toNat : Int)) := by rw [Lib.cell_of_heap hk4]; rfl
    have f3 := Lib.frozen_of_heap hk4 3
    have HK := Lib.hid (heap_set hk4 3 (.int .u8 61))
    have HR : Hid (((W3.setCell ⟨N, 2, none⟩ (.int .u8 61)).setCell ⟨N, 3, none⟩ (.int .u8 61)).heap[w.heap.size]? = _) := Lib.hid ((Below.heap_setCell _ ⟨N, 3, none⟩ (.int .u8 61) w.heap.size (by simp; omega)).trans ((Below.heap_setCell W3 ⟨N, 2, none⟩ (.int .u8 61) w.heap.size (by simp; omega)).trans HR3.out))
    have HB := Lib.hid ((HB3.out.setCell (p := ⟨N, 2, none⟩) (Nat.le_of_lt hN) (.int .u8 61)).setCell (p := ⟨N, 3, none⟩) (Nat.le_of_lt hN) (.int .u8 61))
    clear hk3 hk4 HK3 HR3 HB3
    go_wp2_with fail
    refine wp_loop_rounds 3 ?_
    rw [rounds_succ]
    go_wp2_with fail
    rw [rounds_succ]
    go_wp2_with fail
    rw [rounds_succ]
    go_wp2_with (first
      | refine wpList_load_row rfl 32 _ rfl N rfl 32 _ (0, 0) _ HK.out Tryd.underlying32 rfl (by kernel_rfl) ?_
      | refine wpList_store_row rfl 32 _ _ rfl w.heap.size #[.int .u8 (q1.toNat : Int), .int .u8 (q2.toNat : Int), .int .u8 61, .int .u8 61] rfl rfl 32 _ HR.out (by kernel_rfl) rfl (four_one _ _ _ _) ?_)
    try simp only [Exit.inBlock, Exit.then]
    refine bodyPost_ret (results_cell_row Tryd.results24 _ _ w.heap.size 32 #[.int .u8 (q1.toNat : Int), .int .u8 (q2.toNat : Int), .int .u8 61, .int .u8 61] (0, 0) _ rfl (setRow_heap _ _ _ _ _ _ HR.out) Tryd.underlying32 rfl (by kernel_rfl)) rfl ?_
    exact ⟨rfl, below_setRow HB.out (Nat.le_refl _) _⟩
end Go.Proofs.YtblbajhjmdcdiaaDoor
