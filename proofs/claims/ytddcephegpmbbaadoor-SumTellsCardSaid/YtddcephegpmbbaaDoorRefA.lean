/- The reference's Less, digit and Read. -/
import Derived.Test.YtddcephegpmbbaaDoorOrd
namespace Go.Proofs.YtddcephegpmbbaaDoor
open Go.ChangeShapes Go.WideShapes Go.ChangeAt Go.RowKit

theorem first_some {a b : List UInt8} {i : Nat} (hi : i < 32) (h : ∀ j, j < i → a.getD j 0 = b.getD j 0) (hne : a.getD i 0 ≠ b.getD i 0) : lessL a b = decide (a.getD i 0 < b.getD i 0) := by
  have e : firstD a b = some i := by
    unfold firstD
    rw [List.find?_range_eq_some]
    exact ⟨by simpa using hne, List.mem_range.2 hi, fun j hj => by rw [h j hj]; simp⟩
  unfold lessL
  rw [e]
theorem first_none {a b : List UInt8} (h : ∀ j, j < 32 → a.getD j 0 = b.getD j 0) : lessL a b = false := by
  have e : firstD a b = none := by
    unfold firstD
    rw [List.find?_range_eq_none]
    intro j hj
    rw [h j hj]
    simp
  unfold lessL
  rw [e]
theorem cell_byte {w : World} {g i n : Nat} {d : List UInt8} {t : TypeId} (hd : d.length = n) (h : w.heap[g]? = some (.cells (cellsOf d).toArray t (0, 0))) (hi : i < n) : w.cell? ⟨g, i, none⟩ = some (.int .u8 ((d.getD i 0).toNat : Int)) := by
  rw [cell_of_row _ _ _ _ _ _ h, List.getElem?_toArray, cellsOf, List.getElem?_map, List.getElem?_eq_getElem (show i < d.length by omega), List.getD_eq_getElem?_getD, List.getElem?_eq_getElem (show i < d.length by omega)]; rfl
/-- Two digests in boxes. -/
structure LsW (W : World) (a b : List UInt8) (w : World) : Prop where
  one : w.heap[W.heap.size]? = some (.cells (cellsOf a).toArray 23 (0, 0))
  two : w.heap[W.heap.size + 1]? = some (.cells (cellsOf b).toArray 23 (0, 0))
  bel : Below W.heap.size W w
theorem LsW.start (W : World) (a b : List UInt8) : LsW W a b ((W.alloc (.cells (cellsOf a).toArray 23)).alloc (.cells (cellsOf b).toArray 23)) :=
  ⟨heap_alloc2_old _ _ _, heap_alloc2_new _ _ _, ((Below.refl _ _).alloc (Nat.le_refl _) _).alloc (by simp) _⟩
theorem LsW.drewN {W w : World} {a b : List UInt8} (h : LsW W a b w) (n : Nat) : LsW W a b (w.drewN n) := ⟨h.one, h.two, ⟨h.bel.os, h.bel.tape, h.bel.output, h.bel.size, h.bel.block⟩⟩
theorem lt_u8 (x y : UInt8) : decide (x.toNat < y.toNat) = decide (x < y) := by
  rw [decide_eq_decide, UInt8.lt_iff_toNat_lt]

set_option maxHeartbeats 800000 in
theorem lessR_any (a b : List UInt8) (ha : a.length = 32) (hb : b.length = 32) (w : World) :
    Calls Tryd.prog 17 #[.agg (cellsOf a).toArray, .agg (cellsOf b).toArray] w fun e w' => e = .returned (.bool (lessL a b)) ∧ Below w.heap.size w w' := by
  have hS := Lib.hid (LsW.start w a b)
  go_enter Tryd.func17, Tryd.ntmps17
  go_wp2_with fail
  go_loopw [5] (fun i wr => ∃ k : Nat, k ≤ 32 ∧ i = .int .i64 k ∧ LsW w a b wr ∧ Hid (∀ j, j < k → a.getD j 0 = b.getD j 0)) (fun i _ => 32 - (intOf i).toNat)
  case atStart => exact ⟨0, Nat.zero_le _, rfl, hS.out, fun j hj => absurd hj (Nat.not_lt_zero j)⟩
  case round =>
    clear hS
    obtain ⟨k, hk, rfl, H, HE⟩ := hrel
    have HH := Lib.hid H
    clear H
    by_cases hlt : k < 32
    · have g0 := cell_byte ha HH.out.one hlt
      have g1 := cell_byte hb HH.out.two hlt
      have j0 : 0 ≤ (k : Int) := by omega
      have j1 : (k : Int) < 32 := by omega
      obtain ⟨x, hx⟩ : ∃ x, a.getD k 0 = x := ⟨_, rfl⟩
      obtain ⟨y, hy⟩ : ∃ y, b.getD k 0 = y := ⟨_, rfl⟩
      rw [hx] at g0
      rw [hy] at g1
      by_cases hne : x = y
      · subst hne
        have HN : Hid (∀ j, j < k + 1 → a.getD j 0 = b.getD j 0) := fun j hj => by
          by_cases e : j = k
          · rw [e, hx, hy]
          · exact HE.out j (by omega)
        clear hx hy HE
        go_wp2_with fail
        go_quiet (fail)
        go_wp2_with fail
        go_roundw
        case rel => exact ⟨k + 1, by omega, by go_num, HH.out.drewN _, HN⟩
        case measure => simp [intOf]; omega
      · have hres : Hid (lessL a b = decide (x.toNat < y.toNat)) := by
          show _ = _
          rw [first_some hlt HE.out (by rw [hx, hy]; exact hne), hx, hy, lt_u8]
        have hq : ((x.toNat : Int) == (y.toNat : Int)) = false := by
          rw [beq_eq_false_iff_ne]
          intro h
          exact hne (UInt8.toNat_inj.1 (by omega))
        have hq2 : ((x.toNat : Int) != (y.toNat : Int)) = true := by rw [bne, hq]; rfl
        clear hne hx hy HE
        go_wp2_with fail
        go_quiet (fail)
        replace g0 : (wr.drewN nq).cell? ⟨w.heap.size, k, none⟩ = some (.int .u8 (x.toNat : Int)) := g0
        replace g1 : (wr.drewN nq).cell? ⟨w.heap.size + 1, k, none⟩ = some (.int .u8 (y.toNat : Int)) := g1
        have HH2 := Lib.hid (HH.out.drewN nq)
        obtain ⟨w2, hw2⟩ : ∃ w2, wr.drewN nq = w2 := ⟨_, rfl⟩
        rw [hw2] at g0 g1 HH2
        rw [hw2]
        clear hw2 HH
        go_wp2_with fail
        go_quiet (fail)
        go_wp2_with fail
        go_ret
        refine ⟨?_, (HH2.out.drewN _).bel⟩
        show Ending.returned (.bool (decide (x.toNat < y.toNat))) = _
        rw [hres.out]
    · have hres : Hid (lessL a b = false) := first_none fun j hj => HE.out j (by omega)
      clear HE
      go_wp2_with fail
      go_ret
      refine ⟨?_, HH.out.bel⟩
      show Ending.returned (.bool false) = _
      rw [hres.out]

/-- The value of a lower-case hexadecimal digit, 16 if c is none. -/
def lowD (c : Nat) : Nat := if 48 ≤ c ∧ c ≤ 57 then c - 48 else if 97 ≤ c ∧ c ≤ 102 then c - 87 else 16
theorem digitR_any (c : Nat) (hc : c < 256) (w : World) : Calls Tryd.prog 19 #[.int .u8 c] w fun e w' => e = .returned (.int .i64 (lowD c : Nat)) ∧ w = w' := by
  rcases (show c < 48 ∨ (48 ≤ c ∧ c ≤ 57) ∨ (57 < c ∧ c < 97) ∨ (97 ≤ c ∧ c ≤ 102) ∨ 102 < c by omega) with h | h | h | h | h
  all_goals
    have hd : Hid (lowD c = lowD c) := rfl
    go_enter Tryd.func19, Tryd.ntmps19
    go_wp2
    go_ret
    refine ⟨congrArg (fun n => Ending.returned (.int .i64 n)) ?_, rfl⟩
    unfold lowD
    (repeat' split) <;> omega
end Go.Proofs.YtddcephegpmbbaaDoor
