/- The message in two parts, as package sum reads it; of no program. -/
import Derived.Test.YtddcephegpmbbaaDoorPadC
namespace Go.Proofs.YtddcephegpmbbaaDoor
open Go

theorem size_list (s : ByteArray) : s.data.toList.length = s.size := by rw [Array.length_toList]; rfl
theorem extract_list (s : ByteArray) (a b : Nat) : (s.extract a b).data.toList = (s.data.toList.drop a).take (b - a) := by
  rw [ByteArray.data_extract, Array.toList_extract, List.extract_eq_take_drop]
/-- The part behind the whole blocks, padded. -/
def backL (l : List UInt8) : List UInt8 := bL (l.drop (64 * (l.length / 64))) l.length 8
theorem zeros_same (l : List UInt8) : zerosN (l.drop (64 * (l.length / 64))).length = zerosN l.length := by
  unfold zerosN
  rw [List.length_drop]
  have : (l.length - 64 * (l.length / 64)) % 64 = l.length % 64 := by omega
  rw [this]
theorem pad_parts (l : List UInt8) : padL l = l.take (64 * (l.length / 64)) ++ backL l := by
  unfold backL bL zL padL tailL
  have h8 : (lenL l.length).take 8 = lenL l.length := List.take_of_length_le (by rw [lenL_len]; omega)
  rw [zeros_same, h8]
  generalize h : 64 * (l.length / 64) = n
  generalize lenL l.length = q
  generalize zerosN l.length = z
  rw [List.append_assoc, ← List.append_assoc, List.take_append_drop, List.cons_append]
theorem back_len (l : List UInt8) : ∃ r, (backL l).length = 64 * r := by
  unfold backL
  rw [bL_len _ _ _ (by omega), zeros_same, List.length_drop]
  unfold zerosN
  refine ⟨(l.length - 64 * (l.length / 64) + 1 + (119 - l.length % 64) % 64 + 8) / 64, ?_⟩
  omega
theorem front_block (l : List UInt8) (i : Nat) (h : i < l.length / 64) : ((padL l).drop (64 * i)).take 64 = ((l.take (64 * (l.length / 64))).drop (64 * i)).take 64 := by
  have hl : (l.take (64 * (l.length / 64))).length = 64 * (l.length / 64) := by rw [List.length_take]; omega
  rw [pad_parts, List.drop_append_of_le_length (by omega), List.take_append_of_le_length (by rw [List.length_drop, hl]; omega)]
theorem back_block (l : List UInt8) (i : Nat) : ((padL l).drop (64 * (l.length / 64 + i))).take 64 = ((backL l).drop (64 * i)).take 64 := by
  have hl : (l.take (64 * (l.length / 64))).length = 64 * (l.length / 64) := by rw [List.length_take]; omega
  rw [pad_parts, List.drop_append, hl, List.drop_of_length_le (by omega), List.nil_append]
  congr 2
  omega
/-- How many blocks are done before part j. -/
def cnt (l : List UInt8) (j : Nat) : Nat := if j = 0 then 0 else if j = 1 then l.length / 64 else (padL l).length / 64
/-- Part p of c blocks is the message from block k on. -/
structure PartOf (l : List UInt8) (p : ByteArray) (c k k2 : Nat) : Prop where
  size : p.size = 64 * c
  next : k2 = k + c
  block : ∀ i, i < c → ((padL l).drop (64 * (k + i))).take 64 = (p.data.toList.drop (64 * i)).take 64
theorem part0 (s : ByteArray) : PartOf s.data.toList (s.extract 0 (64 * (s.size / 64))) (s.size / 64) (cnt s.data.toList 0) (cnt s.data.toList 1) := by
  refine ⟨by rw [ByteArray.size_extract]; omega, ?_, fun i hi => ?_⟩
  · show s.data.toList.length / 64 = 0 + _
    rw [size_list]; omega
  · show ((padL _).drop (64 * (0 + i))).take 64 = _
    rw [Nat.zero_add, front_block _ _ (by rw [size_list]; exact hi), extract_list, List.drop_zero, size_list, Nat.sub_zero]
theorem part1 (s : ByteArray) : ∃ c, PartOf s.data.toList ⟨(bL (s.extract (64 * (s.size / 64)) s.size).data.toList s.size 8).toArray⟩ c (cnt s.data.toList 1) (cnt s.data.toList 2) := by
  have e : bL (s.extract (64 * (s.size / 64)) s.size).data.toList s.size 8 = backL s.data.toList := by
    unfold backL
    rw [extract_list, size_list, List.take_of_length_le (by rw [List.length_drop, size_list]; omega)]
  rw [e]
  obtain ⟨r, hr⟩ := back_len s.data.toList
  have hq : (s.data.toList.take (64 * (s.data.toList.length / 64))).length = 64 * (s.data.toList.length / 64) := by rw [List.length_take]; omega
  refine ⟨r, by show (backL s.data.toList).toArray.size = _; rw [List.size_toArray, hr], ?_, fun i hi => ?_⟩
  · show (padL s.data.toList).length / 64 = s.data.toList.length / 64 + r
    rw [pad_parts, List.length_append, hr, hq]; omega
  · show ((padL _).drop (64 * (s.data.toList.length / 64 + i))).take 64 = _
    rw [back_block]
theorem blocks_next {l : List UInt8} {p : ByteArray} {c k k2 : Nat} (h : PartOf l p c k k2) {i : Nat} (hi : i < c) (s : S8) : (p.extract (64 * i) (64 * i + 64)).size = 64 ∧ blockP (blocksP (padL l) s (k + i)) (p.extract (64 * i) (64 * i + 64)).data.toList = blocksP (padL l) s (k + (i + 1)) := by
  have hs := h.size
  refine ⟨by rw [ByteArray.size_extract]; omega, ?_⟩
  show _ = blockP (blocksP (padL l) s (k + i)) (((padL l).drop (64 * (k + i))).take 64)
  rw [h.block i hi, extract_list, show 64 * i + 64 - 64 * i = 64 by omega]
end Go.Proofs.YtddcephegpmbbaaDoor
