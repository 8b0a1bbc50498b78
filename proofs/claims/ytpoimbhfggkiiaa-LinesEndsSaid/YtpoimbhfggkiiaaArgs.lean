/- Arguments as the walks take them: slices of strings and of integers. -/
import Derived.Test.YtpoimbhfggkiiaaLawS
import Derived.Test.YtpoimbhfggkiiaaRows
import Derived.OpenShut
import Derived.JoinedCond
import Derived.SizedLaws
import Derived.SliceStrings
import Derived.Carry
namespace Go.Proofs.Ytpoimbhfggkiiaa
open Go.ChangeShapes Go.WideShapes Go.ChangeAt Go.RowKit

theorem ownKnobNone : ownKnob Try.prog.godebug = none := by kernel_rfl
theorem laidOut : laidOutB Try.prog = true := by kernel_rfl
theorem i64_bounds {n : Int} (h : (Lit.int .i64 n).wf = true) : -9223372036854775808 ≤ n ∧ n ≤ 9223372036854775807 := by
  have e1 : IntKind.i64.min = -9223372036854775808 := rfl
  have e2 : IntKind.i64.max = 9223372036854775807 := rfl
  simpa [Lit.wf, e1, e2] using h
theorem cells9 : Try.prog.cellsOf 9 = 1 := by kernel_rfl
theorem bytes9 : Try.prog.bytesOf 9 = 16 := by kernel_rfl
theorem reach_is : reachBytes = 140737488351232 := by decide

section
variable {H : Type} {enc : TypeId × Value → H} {W : World}
/-- Nothing in this datum takes more than the form's reach. -/
def Fits (t : TypeId) (d : DataW H) : Prop := ∀ n ∈ d.weights Try.prog t, n ≤ reachBytes
theorem fits_of {ts : List TypeId} {ds : List (DataW H)} (h : (DataW.weightsEach Try.prog ts ds).all (· ≤ reachBytes) = true) {j : Nat} {t : TypeId} {d : DataW H} (ht : ts[j]? = some t) (hd : ds[j]? = some d) : Fits t d := by
  intro n hn
  simpa using List.all_eq_true.1 h n (DataW.weights_mem_each ht hd n hn)
theorem mem_weightsAll {t : TypeId} {d : DataW H} {l : List (DataW H)} (h : d ∈ l) {n : Nat} (hn : n ∈ d.weights Try.prog t) : n ∈ DataW.weightsAll Try.prog t l := by
  induction l with
  | nil => cases h
  | cons x l ih =>
    rw [DataW.weightsAll]
    rcases List.mem_cons.1 h with rfl | h
    · exact List.mem_append_left _ hn
    · exact List.mem_append_right _ (ih h)
theorem fits_string {s : List UInt8} (h : Fits (H := H) 9 (.lit (.string s))) : s.length ≤ reachBytes := h _ (by simp [DataW.weights])
theorem strs_fuel {fuel : Nat} {v : Value} {x : DataW H × List MemPlace} (_hv : ∃ a k c, v = .slice a k c) (h : DataW.trod enc Try.prog W 0 (fun _ => true) true fuel 24 [v] = some x) (hw : Fits 24 x.1) :
    ∃ xs : List (List UInt8), Has strV W v xs ∧ (∀ y ∈ xs, y.length ≤ reachBytes) ∧ xs.length * 16 ≤ reachBytes := by
  rcases open_strings Try.underlying24 Try.underlying9 cells9 h with ⟨hcs, hx⟩ | ⟨a, len, cap, ss, hcs, _, hl, hm, hz, hx, hcell, hsz⟩
  · simp only [List.cons.injEq, and_true] at hcs
    exact ⟨[], Or.inl ⟨hcs, rfl⟩, (by intro y hy; cases hy), Nat.zero_le _⟩
  · simp only [List.cons.injEq, and_true] at hcs
    simp only [if_true] at hz
    have hx1 : x.1 = .slice (strs (ss.take len)) (strs (ss.drop len)) := by rw [hx]
    have hlen : (ss.take len).length = len := by rw [List.length_take]; omega
    refine ⟨(ss.take len).map fun s => s.data.toList, Or.inr ⟨a, cap, ?_, ?_⟩, ?_, ?_⟩
    · rw [hcs, List.length_map, hlen]
    · intro j hj
      rw [List.length_map, hlen] at hj
      have hc := hcell j (by omega)
      rw [hc, List.getElem_map, List.getElem_take]
      have : ss.getD j ByteArray.empty = ss[j]'(by omega) := by
        rw [List.getD, List.getElem?_eq_getElem (by omega)]; rfl
      rw [this]; rfl
    · intro y hy
      obtain ⟨s, hs, rfl⟩ := List.mem_map.1 hy
      refine hw _ ?_
      rw [hx1, DataW.weights]
      simp only [Try.underlying24]
      refine List.mem_cons_of_mem _ (List.mem_append_left _ ?_)
      refine mem_weightsAll (d := .lit (.string s.data.toList)) ?_ (by simp [DataW.weights])
      unfold strs
      exact List.mem_map.2 ⟨s, hs, rfl⟩
    · have := hw ((len + (ss.drop len).length) * Try.prog.bytesOf 9) (by
        rw [hx1, DataW.weights]
        simp only [Try.underlying24, strs, List.length_map, hlen]
        exact List.mem_cons_self)
      rw [bytes9] at this
      rw [List.length_map, hlen]
      have h2 : len * 16 ≤ (len + (ss.drop len).length) * 16 := Nat.mul_le_mul_right _ (by omega)
      omega
end
end Go.Proofs.Ytpoimbhfggkiiaa
