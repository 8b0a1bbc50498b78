/- Less: package sum's and the reference's. -/
import Derived.Test.YtddcephegpmbbaaDoorHexD
import Derived.Laws.Externs
import Derived.Deep.QuietTactic
import Derived.BigQuiet
namespace Go.Proofs.YtddcephegpmbbaaDoor
open Go.ChangeShapes Go.WideShapes Go.ChangeAt Go.RowKit

/-- Where a and b differ first, among the first 32 places. -/
def firstD (a b : List UInt8) : Option Nat := (List.range 32).find? fun i => a.getD i 0 != b.getD i 0
/-- The first difference decides. -/
def lessL (a b : List UInt8) : Bool := match firstD a b with
  | some i => decide (a.getD i 0 < b.getD i 0)
  | none => false
def cmpL (a b : List UInt8) : Int := match firstD a b with
  | some i => if a.getD i 0 < b.getD i 0 then -1 else 1
  | none => 0
theorem cmp_less (a b : List UInt8) : decide (cmpL a b < 0) = lessL a b := by
  unfold cmpL lessL
  cases firstD a b with
  | none => rfl
  | some i =>
    by_cases h : a.getD i 0 < b.getD i 0
    · show decide ((if a.getD i 0 < b.getD i 0 then (-1 : Int) else 1) < 0) = decide (a.getD i 0 < b.getD i 0)
      rw [if_pos h, decide_eq_true h]; rfl
    · show decide ((if a.getD i 0 < b.getD i 0 then (-1 : Int) else 1) < 0) = decide (a.getD i 0 < b.getD i 0)
      rw [if_neg h, decide_eq_false h]; rfl
theorem get_bang (a : List UInt8) (i : Nat) : (⟨a.toArray⟩ : ByteArray)[i]! = a.getD i 0 := by
  by_cases h : i < a.length
  · have h2 : i < (⟨a.toArray⟩ : ByteArray).size := by show i < a.toArray.size; simpa using h
    rw [getElem!_pos (⟨a.toArray⟩ : ByteArray) i h2, List.getD_eq_getElem?_getD, List.getElem?_eq_getElem h]
    rfl
  · have h2 : ¬ i < (⟨a.toArray⟩ : ByteArray).size := by show ¬ i < a.toArray.size; simpa using h
    rw [getElem!_neg (⟨a.toArray⟩ : ByteArray) i h2, List.getD_eq_getElem?_getD, List.getElem?_eq_none (by omega)]
    rfl
theorem cmp_is (a b : List UInt8) (ha : a.length = 32) (hb : b.length = 32) : Extern.BytealgCompare.cmp ⟨a.toArray⟩ ⟨b.toArray⟩ = cmpL a b := by
  have h1 : (⟨a.toArray⟩ : ByteArray).size = 32 := by show a.toArray.size = _; simpa using ha
  have h2 : (⟨b.toArray⟩ : ByteArray).size = 32 := by show b.toArray.size = _; simpa using hb
  unfold Extern.BytealgCompare.cmp cmpL firstD
  simp only [h1, h2, get_bang, Nat.min_self]
  cases List.find? (fun i => a.getD i 0 != b.getD i 0) (List.range 32) with
  | none => simp
  | some i => rfl
theorem run_loadB {w : World} : ∀ (l : List UInt8) (a : Addr) (acc : ByteArray), (∀ j x, l[j]? = some x → w.cell? (a.add j) = some (.int .u8 x.toNat)) →
    (Extern.Bytes.loadBytes a l.length acc).run Tryd.prog w = .ok ⟨acc.data ++ l.toArray⟩ w
  | [], a, acc, _ => by simp [Extern.Bytes.loadBytes]
  | x :: l, a, acc, h => by
    have h0 : w.cell? a = some (.int .u8 x.toNat) := by
      have := h 0 x rfl
      simpa [Addr.add] using this
    have ih := run_loadB l (a.add 1) (acc.push x) (fun j y hy => by
      have := h (j + 1) y (by simpa using hy)
      have e : (a.add 1).add j = a.add (j + 1) := by
        unfold Addr.add
        by_cases hj : j = 0
        · subst hj; simp
        · simp [hj]; omega
      rw [e]; exact this)
    have hx : ((x.toNat : Int).toNat).toUInt8 = x := by simp
    simp only [List.length_cons, Extern.Bytes.loadBytes, Sem.run_bind, run_load, h0, Result.andThen, hx]
    rw [ih]
    congr 1
    apply ByteArray.ext
    simp [ByteArray.push]
theorem run_loads {w : World} {g : Nat} {d : List UInt8} {t : TypeId} (h : w.heap[g]? = some (.cells (cellsOf d).toArray t (0, 0))) (hd : d.length = 32) : (Extern.Bytes.bytesOf (.slice (some ⟨g, 0, none⟩) 32 32)).run Tryd.prog w = .ok ⟨d.toArray⟩ w := by
  have := run_loadB (w := w) d ⟨g, 0, none⟩ .empty (fun j x hj => by
    have e : (⟨g, 0, none⟩ : Addr).add j = ⟨g, j, none⟩ := by unfold Addr.add; split <;> simp_all
    rw [e, cell_of_row _ _ _ _ _ _ h, List.getElem?_toArray, cellsOf, List.getElem?_map, hj]; rfl)
  rw [hd] at this
  simp only [Extern.Bytes.bytesOf]
  rw [this]
  simp
theorem run_compare {w : World} {g1 g2 : Nat} {a b : List UInt8} {t1 t2 : TypeId} (h1 : w.heap[g1]? = some (.cells (cellsOf a).toArray t1 (0, 0))) (h2 : w.heap[g2]? = some (.cells (cellsOf b).toArray t2 (0, 0))) (ha : a.length = 32) (hb : b.length = 32) :
    (callFunc 33 #[.slice (some ⟨g1, 0, none⟩) 32 32, .slice (some ⟨g2, 0, none⟩) 32 32]).run Tryd.prog w = .ok (.value (.int .i64 (cmpL a b))) w := by
  rw [run_callFunc_extern (e := Extern.BytealgCompare.compare) Tryd.func33 (by kernel_rfl) (by kernel_rfl) (by kernel_rfl) (by kernel_rfl)]
  have : (Extern.BytealgCompare.compare #[.slice (some ⟨g1, 0, none⟩) 32 32, .slice (some ⟨g2, 0, none⟩) 32 32]).run Tryd.prog w = .ok (.int .i64 (cmpL a b)) w := by
    change Sem.run Tryd.prog (do
      let x ← Extern.Bytes.bytesOf (.slice (some ⟨g1, 0, none⟩) 32 32)
      let y ← Extern.Bytes.bytesOf (.slice (some ⟨g2, 0, none⟩) 32 32)
      pure (goInt (Extern.BytealgCompare.cmp x y))) w = _
    simp only [Sem.run_bind, run_loads h1 ha, run_loads h2 hb, Result.andThen_ok, Sem.run_pure, cmp_is a b ha hb]
    rfl
  rw [this]
  rfl
theorem compare_any {w : World} {g1 g2 : Nat} {a b : List UInt8} {t1 t2 : TypeId} (h1 : w.heap[g1]? = some (.cells (cellsOf a).toArray t1 (0, 0))) (h2 : w.heap[g2]? = some (.cells (cellsOf b).toArray t2 (0, 0))) (ha : a.length = 32) (hb : b.length = 32) :
    Calls Tryd.prog 26 #[.slice (some ⟨g1, 0, none⟩) 32 32, .slice (some ⟨g2, 0, none⟩) 32 32] w fun e w' => e = .returned (.int .i64 (cmpL a b)) ∧ w' = w := by
  have hc := run_compare h1 h2 ha hb
  clear h1 h2
  go_enter Tryd.func26, Tryd.ntmps26
  go_wp2
  go_ret
  exact ⟨rfl, rfl⟩
theorem less_any (a b : List UInt8) (ha : a.length = 32) (hb : b.length = 32) (w : World) :
    Calls Tryd.prog 16 #[.agg (cellsOf a).toArray, .agg (cellsOf b).toArray] w fun e w' => e = .returned (.bool (lessL a b)) ∧ Below w.heap.size w w' := by
  have h1 := heap_alloc2_old w (.cells (cellsOf a).toArray 23) (.cells (cellsOf b).toArray 23)
  have h2 := heap_alloc2_new w (.cells (cellsOf a).toArray 23) (.cells (cellsOf b).toArray 23)
  have HC := Lib.hid (fun n => compare_any (w := ((w.alloc (.cells (cellsOf a).toArray 23)).alloc (.cells (cellsOf b).toArray 23)).drewN n) h1 h2 ha hb)
  clear h1 h2
  have hr : Hid (decide (cmpL a b < 0) = lessL a b) := cmp_less a b
  obtain ⟨c, hc⟩ : ∃ c, cmpL a b = c := ⟨_, rfl⟩
  rw [hc] at HC hr
  clear hc
  go_enter Tryd.func16, Tryd.ntmps16
  go_wp2_with fail
  go_quiet ((go_at_call 26; exact Calls.quiet_of_same (HC.out _)))
  go_wp2_with fail
  go_ret
  refine ⟨by show Ending.returned (.bool (decide (c < 0))) = _; rw [hr.out], ?_⟩
  have hbel := ((Below.refl w.heap.size w).alloc (Nat.le_refl _) (.cells (cellsOf a).toArray 23)).alloc (by simp) (.cells (cellsOf b).toArray 23)
  exact ⟨hbel.os, hbel.tape, hbel.output, hbel.size, hbel.block⟩
end Go.Proofs.YtddcephegpmbbaaDoor
