/- The reference's valid names and colons. -/
import Derived.Test.YtocghngmjipjoaaDoorRight
namespace Go.Proofs.YtocghngmjipjoaaDoor
open Go.ChangeShapes Go.WideShapes Go.ChangeAt Go.RowKit
open LinesP HdrP

set_option maxHeartbeats 2000000 in
theorem rright_any (s : ByteArray) (hs : s.size ≤ 1000000) (w : World) :
    Calls Tryd.prog 25 #[.string s] w fun e w' => e = .returned (.bool (rightL s.data.toList)) ∧ w = w' := by
  have HL := Lib.hid (size_list s)
  go_enter Tryd.func25, Tryd.ntmps25
  go_wp2_with fail
  go_loopw [3] (fun i wr => wr = w ∧ ∃ p : Nat, p ≤ s.size ∧ i = .int .i64 p ∧ Hid ((s.data.toList.take p).all nameByte = true)) (fun i _ => s.size - (intOf i).toNat)
  case atStart => exact ⟨rfl, 0, Nat.zero_le _, rfl, rfl⟩
  case round =>
    obtain ⟨rfl, p, hp, rfl, hall⟩ := hrel
    by_cases hlt : p < s.size
    · obtain ⟨c, x, hc, hx, hx256, RI⟩ := run_byte s p hlt
      have hn := name_byte_is c x hx
      have HC := Lib.hid hc
      have hlt' : (p : Int) < (s.size : Int) := by omega
      have F1 : IntKind.i64.wrap ((p : Int) + 1) = (p : Int) + 1 := by rw [IntKind.wrap_i64]; omega
      clear hc hx hx256
      by_cases h1 : 33 ≤ x
      · have h1' : ¬ (x : Int) < 33 := by omega
        by_cases h2 : x ≤ 126
        · have h2' : ¬ (126 : Int) < x := by omega
          by_cases h3 : x = 58
          · have h3' : ((x : Int) == 58) = true := by rw [beq_iff_eq]; omega
            have HB := Lib.hid (right_bad HC.out (by rw [hn, decide_eq_true h3]; simp))
            clear hn h3
            go_wp2_with fail
            go_ret
            exact ⟨by rw [HB.out]; rfl, rfl⟩
          · have h3' : ((x : Int) == 58) = false := by rw [beq_eq_false_iff_ne]; omega
            have HA := Lib.hid (all_step HC.out hall.out (by rw [hn, decide_eq_true h1, decide_eq_true h2, decide_eq_false h3]; rfl))
            clear hn h3
            go_wp2_with fail
            go_roundw
            case rel => exact ⟨trivial, p + 1, by omega, by go_num, HA⟩
            case measure => simp [intOf]; omega
        · have h2' : (126 : Int) < x := by omega
          have HB := Lib.hid (right_bad HC.out (by rw [hn, decide_eq_false h2]; simp))
          clear hn
          go_wp2_with fail
          go_ret
          exact ⟨by rw [HB.out]; rfl, rfl⟩
      · have h1' : (x : Int) < 33 := by omega
        have HB := Lib.hid (right_bad HC.out (by rw [hn, decide_eq_false h1]; simp))
        clear hn
        go_wp2_with fail
        go_ret
        exact ⟨by rw [HB.out]; rfl, rfl⟩
    · obtain rfl : p = s.size := by omega
      have HR := Lib.hid (right_of hall.out (by rw [← HL.out]; exact Nat.le_refl _))
      have HE : Hid ((!s.data.toList.isEmpty) = decide (0 < s.size)) := by
        have := HL.out
        show _ = _
        cases hl : s.data.toList with
        | nil => rw [hl] at this; rw [decide_eq_false (by rw [this]; exact Nat.lt_irrefl 0)]; rfl
        | cons a b => rw [hl] at this; rw [decide_eq_true (by rw [this]; exact Nat.succ_pos _)]; rfl
      go_wp2_with fail
      go_ret
      exact ⟨by rw [HR.out, HE.out]; rfl, rfl⟩
/-- The first colon's place. -/
def colonI (l : List UInt8) : Int := if 58 ∈ l then ((upto l).length : Int) else -1
theorem colon_here {l : List UInt8} {k : Nat} (h : l[k]? = some 58) (hn : 58 ∉ l.take k) : colonI l = k := by
  unfold colonI
  rw [if_pos (List.mem_of_getElem? h), upto_at l k h hn, List.length_take]
  have := (List.getElem?_eq_some_iff.1 h).1
  omega
theorem colon_none {l : List UInt8} (hn : 58 ∉ l) : colonI l = -1 := by unfold colonI; rw [if_neg hn]
theorem no_step {l : List UInt8} {k : Nat} {c : UInt8} (h : l[k]? = some c) (hc : c ≠ 58) (hn : 58 ∉ l.take k) : 58 ∉ l.take (k + 1) := by
  rw [List.take_add_one, h]
  simp
  exact ⟨hn, fun e => hc e.symm⟩
set_option maxHeartbeats 1000000 in
theorem colon_any (s : ByteArray) (hs : s.size ≤ 1000000) (w : World) :
    Calls Tryd.prog 49 #[.string s] w fun e w' => e = .returned (.int .i64 (colonI s.data.toList)) ∧ w = w' := by
  have HL := Lib.hid (size_list s)
  go_enter Tryd.func49, Tryd.ntmps49
  go_wp2_with fail
  go_loopw [3] (fun i wr => wr = w ∧ ∃ p : Nat, p ≤ s.size ∧ i = .int .i64 p ∧ Hid (58 ∉ s.data.toList.take p)) (fun i _ => s.size - (intOf i).toNat)
  case atStart => exact ⟨rfl, 0, Nat.zero_le _, rfl, Lib.hid (by simp)⟩
  case round =>
    obtain ⟨rfl, p, hp, rfl, hall⟩ := hrel
    by_cases hlt : p < s.size
    · obtain ⟨c, x, hc, hx, hx256, RI⟩ := run_byte s p hlt
      have hn := byte_is c x hx 58 (by decide)
      rw [show ((58 : Nat) : Int) = 58 from rfl] at hn
      have hlt' : (p : Int) < (s.size : Int) := by omega
      have F1 : IntKind.i64.wrap ((p : Int) + 1) = (p : Int) + 1 := by rw [IntKind.wrap_i64]; omega
      clear hx hx256
      by_cases h : c = UInt8.ofNat 58
      · rw [decide_eq_true h] at hn
        have HB := Lib.hid (colon_here (by rw [hc, h]; rfl) hall.out)
        clear hc h
        go_wp2_with fail
        go_ret
        exact ⟨by rw [HB.out]; rfl, rfl⟩
      · rw [decide_eq_false h] at hn
        have HA := Lib.hid (no_step hc (fun e => h (by rw [e]; rfl)) hall.out)
        clear hc h
        go_wp2_with fail
        go_roundw
        case rel => exact ⟨trivial, p + 1, by omega, by go_num, HA⟩
        case measure => simp [intOf]; omega
    · obtain rfl : p = s.size := by omega
      have HB := Lib.hid (colon_none (by have h := hall.out; rwa [List.take_of_length_le (by rw [← HL.out]; exact Nat.le_refl _)] at h))
      go_wp2_with fail
      go_ret
      exact ⟨by rw [HB.out]; rfl, rfl⟩
end Go.Proofs.YtocghngmjipjoaaDoor
