/- Two digests are compared cell by cell. -/
import Derived.Test.YtddcephegpmbbaaDoorLess
import Derived.ChangeKeysEq
namespace Go.Proofs.YtddcephegpmbbaaDoor
open Go.ChangeShapes Go.WideShapes Go.ChangeAt Go.RowKit

theorem plain5 : Tryd.prog.plainKey 5 = true := by kernel_rfl
theorem cellsT5 : Tryd.prog.cellsOf 5 = 1 := by kernel_rfl
theorem run_part5 {a : List UInt8} {i : Nat} (h : i < a.length) (w : World) : (part 5 (cellsOf a).toArray i).run Tryd.prog w = .ok (.int .u8 ((a.getD i 0).toNat : Int)) w := by
  refine run_part_plain w plain5 ?_
  rw [List.getElem?_toArray, cellsOf, List.getElem?_map, List.getD_eq_getElem?_getD, List.getElem?_eq_getElem h]; rfl
theorem run_items (d : Nat) (a b : List UInt8) (ha : a.length = 32) (hb : b.length = 32) (w : World) : ∀ is : List Nat, (∀ i ∈ is, i < 32) →
    (Op.eqItems (d + 1) 5 1 (cellsOf a).toArray (cellsOf b).toArray is).run Tryd.prog w = .ok (is.all fun i => a.getD i 0 == b.getD i 0) w
  | [], _ => by simp [Op.eqItems]
  | i :: is, h => by
    have hi : i < 32 := h i (by simp)
    have ih := run_items d a b ha hb w is (fun j hj => h j (by simp [hj]))
    have e : ((((a.getD i 0).toNat : Int)) == ((b.getD i 0).toNat : Int)) = (a.getD i 0 == b.getD i 0) := by
      rw [Bool.eq_iff_iff, beq_iff_eq, beq_iff_eq]
      constructor
      · intro h2; exact UInt8.toNat_inj.1 (by omega)
      · intro h2; rw [h2]
    simp only [Op.eqItems, Sem.run_bind, Nat.mul_one, run_part5 (show i < a.length by omega), run_part5 (show i < b.length by omega), Result.andThen_ok, run_equalIn_int w d 5 .u8 .u8 _ _ Tryd.underlying5, e]
    rw [List.all_cons]
    cases a.getD i 0 == b.getD i 0
    · simp
    · simpa using ih
theorem all_same (a b : List UInt8) (ha : a.length = 32) (hb : b.length = 32) : ((List.range 32).all fun i => a.getD i 0 == b.getD i 0) = decide (a = b) := by
  rw [Bool.eq_iff_iff, List.all_eq_true, decide_eq_true_eq]
  constructor
  · intro h
    refine List.ext_getElem (by omega) fun i h1 h2 => ?_
    have := h i (by rw [List.mem_range]; omega)
    rw [beq_iff_eq, List.getD_eq_getElem?_getD, List.getD_eq_getElem?_getD, List.getElem?_eq_getElem h1, List.getElem?_eq_getElem h2] at this
    exact this
  · rintro rfl i _
    simp
theorem run_same (a b : List UInt8) (ha : a.length = 32) (hb : b.length = 32) (w : World) :
    (Op.equalIn 10000 23 (.agg (cellsOf a).toArray) (.agg (cellsOf b).toArray)).run Tryd.prog w = .ok (decide (a = b)) w := by
  obtain ⟨i, hi⟩ := info_of_underlying Tryd.underlying5
  rw [run_equalIn_array w 9999 _ _ Tryd.underlying23 hi, cellsT5, run_items 9998 a b ha hb w _ (fun i h => List.mem_range.1 h), all_same a b ha hb]
end Go.Proofs.YtddcephegpmbbaaDoor
