/- What the contracts of package sum and of its reference share: words of 32 bits as the model spells them. -/
import Derived.Test.YtddcephegpmbbaaDoorChecked
import Derived.WalkKit
import Derived.ProofKit
import Derived.Lib.Hide
namespace Go.Proofs.YtddcephegpmbbaaDoor
open Go.ChangeShapes Go.WideShapes Go.ChangeAt Go.RowKit

theorem Qtrans {w w1 w2 : World} (h : Below w.heap.size w w1) (k : Below w1.heap.size w1 w2) : Below w.heap.size w w2 := h.trans (k.mono h.size)

/-- A word as the number that the model keeps. -/
def V (x : UInt32) : Int := (x.toNat : Int)
theorem V_nonneg (x : UInt32) : 0 ≤ V x := Int.natCast_nonneg _
theorem V_lt (x : UInt32) : V x < 4294967296 := by unfold V; have := x.toNat_lt; omega
theorem bitvec_V (x : UInt32) : BitVec.ofInt 32 (V x) = x.toBitVec := by
  unfold V
  rw [BitVec.ofInt_natCast]
  apply BitVec.eq_of_toNat_eq
  simp
theorem wrap_nat (n : Nat) (h : n < 4294967296) : IntKind.u32.wrap (n : Int) = n := by rw [IntKind.wrap_u32]; omega
theorem xor_V (x y : UInt32) : bits .xor .u32 (V x) (V y) = V (x ^^^ y) := by
  show IntKind.u32.wrap ((BitVec.ofInt 32 (V x) ^^^ BitVec.ofInt 32 (V y)).toNat : Int) = _
  rw [bitvec_V, bitvec_V, wrap_nat _ (by have := (x.toBitVec ^^^ y.toBitVec).isLt; omega)]
  rfl
theorem and_V (x y : UInt32) : bits .and .u32 (V x) (V y) = V (x &&& y) := by
  show IntKind.u32.wrap ((BitVec.ofInt 32 (V x) &&& BitVec.ofInt 32 (V y)).toNat : Int) = _
  rw [bitvec_V, bitvec_V, wrap_nat _ (by have := (x.toBitVec &&& y.toBitVec).isLt; omega)]
  rfl
theorem or_V (x y : UInt32) : bits .or .u32 (V x) (V y) = V (x ||| y) := by
  show IntKind.u32.wrap ((BitVec.ofInt 32 (V x) ||| BitVec.ofInt 32 (V y)).toNat : Int) = _
  rw [bitvec_V, bitvec_V, wrap_nat _ (by have := (x.toBitVec ||| y.toBitVec).isLt; omega)]
  rfl
theorem add_V' (x y : UInt32) : (V x + V y) % 4294967296 = V (x + y) := by
  unfold V
  rw [UInt32.toNat_add]
  omega
theorem add_V (x y : UInt32) : IntKind.u32.wrap (V x + V y) = V (x + y) := by
  rw [IntKind.wrap_u32, add_V']
theorem V_ofNat (n : Nat) (h : n < 4294967296) : V (UInt32.ofNat n) = n := by
  unfold V
  rw [UInt32.toNat_ofNat']; omega
theorem shr_V (x : UInt32) (n : Nat) (h : n < 32) : V x / 2 ^ n = V (x >>> UInt32.ofNat n) := by
  unfold V
  rw [UInt32.toNat_shiftRight, UInt32.toNat_ofNat', Nat.shiftRight_eq_div_pow]
  have : n % 2 ^ 32 % 32 = n := by omega
  rw [this]
  simp
theorem shl_V (x : UInt32) (n : Nat) (h : n < 32) : IntKind.u32.wrap (V x * 2 ^ n) = V (x <<< UInt32.ofNat n) := by
  unfold V
  rw [UInt32.toNat_shiftLeft, UInt32.toNat_ofNat', Nat.shiftLeft_eq, IntKind.wrap_u32]
  have : n % 2 ^ 32 % 32 = n := by omega
  rw [this]
  simp
theorem not_V (x : UInt32) : bits .xor .u32 (V x) 4294967295 = V (~~~x) := by
  have h : (4294967295 : Int) = V 4294967295 := rfl
  rw [h, xor_V]
  refine congrArg V (UInt32.toBitVec_inj.1 ?_)
  exact BitVec.xor_allOnes
theorem not_V' (x : UInt32) : bits .xor .u32 4294967295 (V x) = V (~~~x) := by
  rw [← not_V]
  simp only [bits, BitVec.xor_comm]
theorem com_V (x : UInt32) : IntKind.u32.wrap (-V x - 1) = V (~~~x) := by
  unfold V
  have e : (~~~x).toNat = 4294967295 - x.toNat := by rw [UInt32.toNat_not]; rfl
  have := x.toNat_lt
  rw [e, IntKind.wrap_u32]; omega
end Go.Proofs.YtddcephegpmbbaaDoor
