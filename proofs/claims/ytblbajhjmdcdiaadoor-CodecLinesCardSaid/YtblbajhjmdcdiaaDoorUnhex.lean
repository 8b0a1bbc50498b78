/- Hexadecimal decoding, num's and the reference's. -/
import Derived.Test.YtblbajhjmdcdiaaDoorDigit
import Derived.Test.YtblbajhjmdcdiaaDoorRefHex
namespace Go.Proofs.YtblbajhjmdcdiaaDoor
open Go.ChangeShapes Go.WideShapes Go.ChangeAt Go.RowKit

/-- The byte that the digits at 2t and 2t + 1 spell. -/
def byteAt (l : List UInt8) (t : Nat) : UInt8 := UInt8.ofNat (16 * dig (l.getD (2 * t) 0).toNat + dig (l.getD (2 * t + 1) 0).toNat)
/-- The first j bytes. -/
def bytesTo (l : List UInt8) (j : Nat) : List UInt8 := (List.range j).map (byteAt l)
/-- Are the first n bytes hexadecimal digits? -/
def digsTo (l : List UInt8) (n : Nat) : Prop := ∀ t, t < n → dig (l.getD t 0).toNat < 16
/-- May l be decoded? -/
def unhexOk (l : List UInt8) : Bool := decide (l.length % 2 = 0) && l.all fun c => decide (dig c.toNat < 16)
/-- What is decoded; nothing if it may not be decoded. -/
def unhexS (l : List UInt8) : List UInt8 := if unhexOk l = true then bytesTo l (l.length / 2) else []

theorem bytesTo_length (l : List UInt8) (j : Nat) : (bytesTo l j).length = j := by simp [bytesTo]
theorem bytesTo_succ (l : List UInt8) (j : Nat) : bytesTo l (j + 1) = bytesTo l j ++ [byteAt l j] := by simp [bytesTo, List.range_succ]
theorem getD_byte (s : ByteArray) (k : Nat) (h : k < s.size) : s.data.toList.getD k 0 = s[k] := by
  rw [List.getD_eq_getElem?_getD, List.getElem?_eq_getElem (by simpa using h)]; rfl
theorem unhexOk_odd {l : List UInt8} (h : ¬ l.length % 2 = 0) : unhexOk l = false := by simp [unhexOk, h]
theorem unhexOk_all {l : List UInt8} (h : l.length % 2 = 0) (ha : digsTo l l.length) : unhexOk l = true := by
  simp only [unhexOk, h, decide_true, Bool.true_and, List.all_eq_true, decide_eq_true_eq]
  intro c hc
  obtain ⟨t, ht, rfl⟩ := List.getElem_of_mem hc
  have := ha t ht
  rwa [List.getD_eq_getElem?_getD, List.getElem?_eq_getElem ht] at this
theorem unhexOk_bad {l : List UInt8} {t : Nat} (ht : t < l.length) (h : ¬ dig (l.getD t 0).toNat < 16) : unhexOk l = false := by
  rw [Bool.eq_false_iff]
  intro hh
  simp only [unhexOk, Bool.and_eq_true, List.all_eq_true, decide_eq_true_eq] at hh
  refine h ?_
  rw [List.getD_eq_getElem?_getD, List.getElem?_eq_getElem ht]
  exact hh.2 _ (List.getElem_mem ht)
theorem digsTo_two {l : List UInt8} {j : Nat} (h : digsTo l (2 * j)) (h1 : dig (l.getD (2 * j) 0).toNat < 16) (h2 : dig (l.getD (2 * j + 1) 0).toNat < 16) : digsTo l (2 * (j + 1)) := by
  intro t ht
  rcases (show t < 2 * j ∨ t = 2 * j ∨ t = 2 * j + 1 by omega) with hh | rfl | rfl
  · exact h t hh
  · exact h1
  · exact h2
theorem dig_le (c : Nat) : dig c ≤ 16 := by unfold dig; (repeat' split) <;> omega



end Go.Proofs.YtblbajhjmdcdiaaDoor
