/- copy of a string into an array of bytes. -/
import Derived.Test.YtblbajhjmdcdiaaDoorUnhex2
import Derived.Test.YtblbajhjmdcdiaaDoorCodecPure
import Derived.Lib.BufferWrite
namespace Go.Proofs.YtblbajhjmdcdiaaDoor
open Go.ChangeShapes Go.WideShapes Go.ChangeAt Go.RowKit

theorem run_copy_str (w : World) (s : ByteArray) (g N : Nat) (cur : Array Value) (t ty : TypeId) (hg : w.heap[g]? = some (.cells cur t (0, 0))) (hsz : cur.size = N) :
    (Builtin.copy_ #[25, 9] ty #[.slice (some ⟨g, 0, none⟩) N N, .string s]).run Tryd.prog w =
      .ok (goInt (min s.size N)) (w.setRow g (cellsOf (s.data.toList.take N) ++ cur.toList.drop (min s.size N)).toArray) := by
  have hlen : (cellsOf (s.data.toList.take N)).length = min s.size N := by
    unfold cellsOf
    rw [List.length_map, List.length_take, size_list]; omega
  have hst := run_storeCells_at Tryd.prog g 0 t (cellsOf (s.data.toList.take N)) 0 cur w hg (by rw [hlen]; omega) (cellsOf_one _)
  have hmin : Nat.min s.size N = min s.size N := rfl
  have htk : List.take (min s.size N) (List.map (fun b : UInt8 => Value.int IntKind.u8 (b.toNat : Int)) s.data.toList) = cellsOf (s.data.toList.take N) := by
    unfold cellsOf
    rw [← List.map_take]
    congr 1
    by_cases h : s.size ≤ N
    · rw [Nat.min_eq_left h, List.take_of_length_le (by rw [size_list]; exact Nat.le_refl _), List.take_of_length_le (by rw [← size_list]; exact h)]
    · rw [Nat.min_eq_right (by omega)]
  rw [hlen] at hst
  simp only [Nat.add_zero, Nat.zero_add, List.take_zero, List.nil_append] at hst
  obtain ⟨i0, hi, hz0, hz1, hz2⟩ := info_parts info5
  simp [Builtin.copy_, run_underlying Tryd.underlying25, Builtin.lenOf, Builtin.firstCells, sizeOf, typeInfo, hi, hmin]
  rw [htk, hst]
  simp [Result.andThen]
  exact congrArg goInt (by omega)
theorem wpList_copy_str {w : World} {ops : Array Oper} {rest : List Oper} {o : Oper} {a : Act} {Q : Exit → Act → World → Prop} (hgd : o.guard = none) (d s : Operand)
    (ho : o.op = .call { callee := .builtin .copy, args := #[d, s], argTypes := #[25, 9] }) (g N : Nat) (u : ByteArray) (hd : a.eval d = .slice (some ⟨g, 0, none⟩) N N) (hs : a.eval s = .string u)
    (cur : Array Value) (t : TypeId) (hg : w.heap[g]? = some (.cells cur t (0, 0))) (hsz : cur.size = N)
    (h : wpList Tryd.prog ops Q rest (a.put o.dst (goInt (min u.size N))) (w.setRow g (cellsOf (u.data.toList.take N) ++ cur.toList.drop (min u.size N)).toArray)) : wpList Tryd.prog ops Q (o :: rest) a w := by
  refine wpList_plain hgd fun K hK => ?_
  have hr := run_copy_str w u g N cur t o.type hg hsz
  unfold Oper.wp execOp
  simp only [ho, resolve, invoke, builtin, Sem.run_bind, Sem.run_pure, Result.andThen_ok, List.map_toArray, List.map_cons, List.map_nil, hd, hs, hr]
  exact hK _ _ h
end Go.Proofs.YtblbajhjmdcdiaaDoor
