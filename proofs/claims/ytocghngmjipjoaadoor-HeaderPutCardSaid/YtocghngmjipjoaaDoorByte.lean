/- Single bytes: blanks, lower case; the reference's valid names and colons. -/
import Derived.Test.YtocghngmjipjoaaDoorBase
import Derived.Test.YtocghngmjipjoaaDoorPartPure
namespace Go.Proofs.YtocghngmjipjoaaDoor
open Go.ChangeShapes Go.WideShapes Go.ChangeAt Go.RowKit
open LinesP HdrP

theorem byte_is (c : UInt8) (x : Nat) (hx : c.toNat = x) (n : Nat) (hn : n < 256) : ((x : Int) == (n : Int)) = decide (c = UInt8.ofNat n) := by
  rw [Bool.eq_iff_iff, beq_iff_eq, decide_eq_true_iff]
  constructor
  · intro h
    refine UInt8.toNat_inj.1 ?_
    rw [hx, UInt8.toNat_ofNat']; omega
  · intro h
    rw [h, UInt8.toNat_ofNat'] at hx
    omega
theorem blank_or (c : UInt8) : HdrP.blank c = (decide (c = UInt8.ofNat 32) || decide (c = UInt8.ofNat 9)) := by
  unfold HdrP.blank
  rw [Bool.eq_iff_iff]
  simp only [Bool.or_eq_true, beq_iff_eq, decide_eq_true_iff]
  exact Iff.rfl
theorem isBlank_any (c : UInt8) (x : Nat) (hx : c.toNat = x) (w : World) :
    Calls Tryd.prog 46 #[.int .u8 x] w fun e w' => e = .returned (.bool (HdrP.blank c)) ∧ w = w' := by
  have e1 := byte_is c x hx 32 (by decide)
  have e2 := byte_is c x hx 9 (by decide)
  rw [blank_or]
  generalize decide (c = UInt8.ofNat 32) = d1 at e1 ⊢
  generalize decide (c = UInt8.ofNat 9) = d2 at e2 ⊢
  clear hx
  rw [show ((32 : Nat) : Int) = 32 from rfl] at e1
  rw [show ((9 : Nat) : Int) = 9 from rfl] at e2
  cases d1
  · cases d2
    · go_enter Tryd.func46, Tryd.ntmps46
      go_wp2_with fail
      go_ret
      exact ⟨rfl, rfl⟩
    · go_enter Tryd.func46, Tryd.ntmps46
      go_wp2_with fail
      go_ret
      exact ⟨rfl, rfl⟩
  · go_enter Tryd.func46, Tryd.ntmps46
    go_wp2_with fail
    go_ret
    exact ⟨rfl, rfl⟩
theorem rblank_any (c : UInt8) (x : Nat) (hx : c.toNat = x) (w : World) :
    Calls Tryd.prog 32 #[.int .u8 x] w fun e w' => e = .returned (.bool (HdrP.blank c)) ∧ w = w' := by
  have e1 := byte_is c x hx 32 (by decide)
  have e2 := byte_is c x hx 9 (by decide)
  rw [blank_or]
  generalize decide (c = UInt8.ofNat 32) = d1 at e1 ⊢
  generalize decide (c = UInt8.ofNat 9) = d2 at e2 ⊢
  clear hx
  rw [show ((32 : Nat) : Int) = 32 from rfl] at e1
  rw [show ((9 : Nat) : Int) = 9 from rfl] at e2
  cases d1
  · cases d2
    · go_enter Tryd.func32, Tryd.ntmps32
      go_wp2_with fail
      go_ret
      exact ⟨rfl, rfl⟩
    · go_enter Tryd.func32, Tryd.ntmps32
      go_wp2_with fail
      go_ret
      exact ⟨rfl, rfl⟩
  · go_enter Tryd.func32, Tryd.ntmps32
    go_wp2_with fail
    go_ret
    exact ⟨rfl, rfl⟩
theorem low_nat (c : UInt8) : (low c).toNat = if 65 ≤ c.toNat ∧ c.toNat ≤ 90 then c.toNat + 32 else c.toNat := by
  unfold low
  split
  · rename_i h
    rw [UInt8.toNat_add]
    have : (32 : UInt8).toNat = 32 := rfl
    omega
  · rfl
theorem lower_any (c : UInt8) (x : Nat) (hx : c.toNat = x) (w : World) :
    Calls Tryd.prog 64 #[.int .u8 x] w fun e w' => e = .returned (.int .u8 ((low c).toNat : Int)) ∧ w = w' := by
  have hl := low_nat c
  rw [hx] at hl
  have hb : x < 256 := by rw [← hx]; exact c.toNat_lt
  generalize (low c).toNat = y at hl ⊢
  clear hx
  by_cases h1 : 65 ≤ x
  · by_cases h2 : x ≤ 90
    · rw [if_pos ⟨h1, h2⟩] at hl
      subst hl
      have F1 : IntKind.u8.wrap ((x : Int) + 97) = (x : Int) + 97 := by rw [IntKind.wrap_u8]; omega
      have F2 : IntKind.u8.wrap ((x : Int) + 97 - 65) = (x : Int) + 32 := by rw [IntKind.wrap_u8]; omega
      have h1' : (65 : Int) ≤ x := by omega
      have h2' : (x : Int) ≤ 90 := by omega
      go_enter Tryd.func64, Tryd.ntmps64
      go_wp2_with fail
      go_ret
      exact ⟨by simp, rfl⟩
    · rw [if_neg (fun h => h2 h.2)] at hl
      rw [hl]
      clear hl
      have h1' : (65 : Int) ≤ x := by omega
      have h2' : ¬ (x : Int) ≤ 90 := by omega
      go_enter Tryd.func64, Tryd.ntmps64
      go_wp2_with fail
      go_ret
      exact ⟨rfl, rfl⟩
  · rw [if_neg (fun h => h1 h.1)] at hl
    rw [hl]
    clear hl
    have h1' : ¬ (65 : Int) ≤ x := by omega
    go_enter Tryd.func64, Tryd.ntmps64
    go_wp2_with fail
    go_ret
    exact ⟨rfl, rfl⟩
/-! ### A byte of a string, as a list has it -/
theorem byte_at (s : ByteArray) (k : Nat) (h : k < s.size) : ∃ c : UInt8, s.data.toList[k]? = some c ∧ (s[k]'h) = c := by
  refine ⟨s[k]'h, ?_, rfl⟩
  rw [List.getElem?_eq_getElem (by rw [← size_list]; exact h)]; rfl
/-- The k-th byte as the walk reads it. -/
theorem run_byte (s : ByteArray) (k : Nat) (h : k < s.size) : ∃ (c : UInt8) (x : Nat), s.data.toList[k]? = some c ∧ c.toNat = x ∧ x < 256 ∧ ∀ W : World, (Instr.index 9 (.string s) (.int .i64 k)).run Tryd.prog W = .ok (.int .u8 x) W := by
  obtain ⟨c, h1, h2⟩ := byte_at s k h
  refine ⟨c, c.toNat, h1, rfl, c.toNat_lt, fun W => ?_⟩
  rw [← h2]
  exact run_index_str s k k rfl h W
end Go.Proofs.YtocghngmjipjoaaDoor
