/- The character sets' functions, and the map that charset.decoders makes of them. -/
import Derived.Test.YtdinachiiimngaaGreatDoorKCsConv
import Derived.MapKept
namespace Go.Proofs.YtdinachiiimngaaGreatDoor.Cs
open Go.ChangeShapes Go.WideShapes Go.ChangeAt Go.RowKit

/-- An entry of a map literal, at a key that is not there yet. -/
theorem wpList_insert {P : Program} {ops : Array Oper} {rest : List Oper} {o : Oper} {a : Act} {w : World} {Q : Exit → Act → World → Prop}
    (hg : o.guard = none) (m x v : Operand) (t : TypeId) (hop : o.op = Op.insert t m x v) (kt e : TypeId) (ht : P.underlying t = some (.map kt e)) (hk : P.underlying kt = some .string)
    (M : Nat) (es : Array MapEntry) (c : Nat) (hb : w.heap[M]? = some (.map es c)) (hm : a.eval m = .map (some M)) (k : ByteArray) (val : Value) (hx : a.eval x = .string k) (hv : a.eval v = val)
    (hf : Instr.findNow .string (.string k) es.toList 0 = some none)
    (hK : ∀ w', w'.heap[M]? = some (.map (es.push { key := .string k, val := val, born := c }) (c + 1)) → Below M w w' → wpList P ops Q rest (a.put o.dst undef) w') :
    wpList P ops Q (o :: rest) a w := by
  refine wpList_plain hg fun K' hK' => ?_
  have hc : (Instr.checkKey false 10000 kt (.string k)).run P w = .ok () w := MapKept.run_checkKey (k := .string k) hk (by simp [MapKept.IsKey]) false 9999
  have hrun : (Instr.mapUpdate t (.map (some M)) (.string k) val).run P w = .ok () { w with heap := w.heap.setIfInBounds M (.map (es.push { key := .string k, val := val, born := c }) (c + 1)) } := by
    simp [Instr.mapUpdate, run_underlying ht, MapKept.run_getObj_map hb, hc, MapKept.run_findKey hk hf, MapKept.run_setObj_map _ hb, Result.andThen]
  unfold Oper.wp
  simp [execOp, hop, hm, hx, hv, hrun, Result.andThen]
  have hset := MapKept.heap_set (o' := .map (es.push { key := .string k, val := val, born := c }) (c + 1)) hb
  exact hK' _ _ (hK _ hset.1 ⟨rfl, rfl, rfl, by simp, fun i hi => hset.2 i (by omega)⟩)

/-- The functions that byteDecoder makes: the code points in the block b. -/
def decV (b : Nat) : Value := .func (.func 211) #[] #[.pointer (some ⟨b, 0, none⟩)]
theorem make_any (g : Nat) (w : World) :
    Calls Tryz.prog 182 #[.func (.func g) #[] #[]] w fun e w' => e = .returned (decV w.heap.size) ∧ w' = w.alloc (.cells #[.func (.func g) #[] #[]] 169) := by
  go_enter Tryz.func182, Tryz.ntmps182
  go_wp2
  go_ret
  exact ⟨rfl, rfl⟩
end Go.Proofs.YtdinachiiimngaaGreatDoor.Cs
