/- The reference's end: where an opened token closes. -/
import Derived.Test.YtdinachiiimngaaGreatDoorK1
import Derived.Test.YtdinachiiimngaaGreatDoorKRefB
namespace Go.Proofs.YtdinachiiimngaaGreatDoor
open Go.ChangeShapes Go.WideShapes Go.ChangeAt Go.RowKit
open TokP

/-- What end hands back. -/
def endN : Option Nat → Nat
  | none => 0
  | some m => m + 1
set_option maxHeartbeats 1000000 in
theorem end_40 (s : ByteArray) (hs : s.size ≤ 999999) (t : List UInt8) (hl : s.data.toList = 40 :: t) (R : Option Nat) (hR : closeS 41 true false 0 (s.data.toList.drop 1) = R) (w : World) :
    Calls Tryz.prog 155 #[.string s] w fun e w' => e = .returned (.int .i64 (endN R : Nat)) ∧ w = w' := by
  obtain ⟨n, hn⟩ : ∃ n, s.size = n := ⟨_, rfl⟩
  have HL := Lib.hid (size_list s)
  have h0 : 0 < s.size := by rw [HL.out, hl, List.length_cons]; omega
  obtain ⟨c1, x1, t1, hl1, hx1, _, S0⟩ := run_byte0 s h0
  rw [hl] at hl1
  obtain ⟨rfl, _⟩ := List.cons.inj hl1
  replace S0 : ∀ W : World, (Instr.index 9 (.string s) (.int .i64 0)).run Tryz.prog W = .ok (.int .u8 40) W := by
    intro W; rw [S0 W, ← hx1]; rfl
  rw [hn] at hs h0
  have HN := Lib.hid hn
  have HR := Lib.hid hR
  clear hn hR hl hl1 hx1
  go_enter Tryz.func155, Tryz.ntmps155
  go_wp2_with fail
  go_loopw [3, 4] (fun d i wr => ∃ (k e : Nat), k ≤ n + 1 ∧ e < k ∧ d = .int .i64 e ∧ i = .int .i64 k ∧ wr = w ∧ Hid (Cl 41 true s.data.toList k e)) (fun _ i _ => n + 1 - (intOf i).toNat)
  case atStart => exact ⟨1, 0, by omega, by omega, rfl, rfl, rfl, cl_start _ _ _⟩
  case round =>
    obtain ⟨k, d, hk, hd, rfl, rfl, rfl, HC⟩ := hrel
    have F1 : IntKind.i64.wrap ((k : Int) + 1) = (k : Int) + 1 := by rw [IntKind.wrap_i64]; omega
    have F2 : IntKind.i64.wrap ((k : Int) + 1 + 1) = (k : Int) + 1 + 1 := by rw [IntKind.wrap_i64]; omega
    have F3 : IntKind.i64.wrap ((d : Int) + 1) = (d : Int) + 1 := by rw [IntKind.wrap_i64]; omega
    have hn : s.size = n := HN.out
    by_cases hlt : k < n
    · have hlt' : (k : Int) < (n : Int) := by omega
      obtain ⟨c, x, hc, hx, hx2, S1⟩ := run_byte s k (by rw [hn]; exact hlt)
      have e40 := byte_is c x hx 40 (by decide)
      rw [show ((40 : Nat) : Int) = 40 from rfl] at e40
      have e41 := byte_is c x hx 41 (by decide)
      rw [show ((41 : Nat) : Int) = 41 from rfl] at e41
      have e92 := byte_is c x hx 92 (by decide)
      rw [show ((92 : Nat) : Int) = 92 from rfl] at e92
      clear hx hx2
      by_cases h92 : c = 92
      · rw [show decide (c = UInt8.ofNat 92) = true from decide_eq_true h92] at e92
        rw [show decide (c = UInt8.ofNat 40) = false from decide_eq_false (fun e => absurd (h92.symm.trans e) (by decide))] at e40
        rw [show decide (c = UInt8.ofNat 41) = false from decide_eq_false (fun e => absurd (h92.symm.trans e) (by decide))] at e41
        have HC2 := Lib.hid (cl_esc HC.out (by rw [hc, h92]))
        clear h92 hc HC
        go_wp2_with fail
        go_roundw
        case rel => exact ⟨k + 2, d, by omega, by omega, by go_num, by go_num, trivial, HC2⟩
        case measure => simp [intOf]; omega
      · rw [show decide (c = UInt8.ofNat 92) = false from decide_eq_false h92] at e92
        by_cases h40 : c = 40
        · rw [show decide (c = UInt8.ofNat 40) = true from decide_eq_true h40] at e40
          rw [show decide (c = UInt8.ofNat 41) = false from decide_eq_false (fun e => absurd (h40.symm.trans e) (by decide))] at e41
          have HC2 := Lib.hid (cl_up HC.out (by rw [hc, h40]) (by decide))
          clear h92 h40 hc HC
          go_wp2_with fail
          go_roundw
          case rel => exact ⟨k + 1, d + 1, by omega, by omega, by go_num, by go_num, trivial, HC2⟩
          case measure => simp [intOf]; omega
        · rw [show decide (c = UInt8.ofNat 40) = false from decide_eq_false h40] at e40
          by_cases h41 : c = 41
          · rw [show decide (c = UInt8.ofNat 41) = true from decide_eq_true h41] at e41
            by_cases hd0 : d = 0
            · subst hd0
              have HC2 := Lib.hid (cl_done HC.out (by rw [hc, h41]) (by decide))
              clear h92 h40 h41 hc HC
              go_wp2_with fail
              go_ret
              exact ⟨by rw [HR.out.symm.trans HC2.out]; rfl, rfl⟩
            · obtain ⟨f, rfl⟩ : ∃ f, d = f + 1 := ⟨d - 1, by omega⟩
              have HC2 := Lib.hid (cl_down HC.out (by rw [hc, h41]) (by decide))
              have F4 : IntKind.i64.wrap ((f : Int) + 1 - 1) = (f : Int) := by rw [IntKind.wrap_i64]; omega
              have F5 : IntKind.i64.wrap (f : Int) = (f : Int) := by rw [IntKind.wrap_i64]; omega
              have hf0 : ((f : Int) + 1 == 0) = false := by rw [beq_eq_false_iff_ne]; omega
              have hf1 : ¬ ((f : Int) + 1 = 0) := by omega
              clear h92 h40 h41 hc HC F3 hd0
              go_wp2_with fail
              go_roundw
              case rel => exact ⟨k + 1, f, by omega, by omega, by go_num, by go_num, trivial, HC2⟩
              case measure => simp [intOf]; omega
          · rw [show decide (c = UInt8.ofNat 41) = false from decide_eq_false h41] at e41
            have HC2 := Lib.hid (cl_next HC.out hc h92 h41 (fun e => h40 e.2))
            clear h92 h40 h41 hc HC
            go_wp2_with fail
            go_roundw
            case rel => exact ⟨k + 1, d, by omega, by omega, by go_num, by go_num, trivial, HC2⟩
            case measure => simp [intOf]; omega
    · have HC2 := Lib.hid (cl_end HC.out (by rw [← HL.out, hn]; omega))
      have hlt' : ¬ (k : Int) < (n : Int) := by omega
      clear HC
      go_wp2_with fail
      go_ret
      exact ⟨by rw [HR.out.symm.trans HC2.out]; rfl, rfl⟩
set_option maxHeartbeats 1000000 in
theorem end_34 (s : ByteArray) (hs : s.size ≤ 999999) (t : List UInt8) (hl : s.data.toList = 34 :: t) (R : Option Nat) (hR : closeS 34 false false 0 (s.data.toList.drop 1) = R) (w : World) :
    Calls Tryz.prog 155 #[.string s] w fun e w' => e = .returned (.int .i64 (endN R : Nat)) ∧ w = w' := by
  obtain ⟨n, hn⟩ : ∃ n, s.size = n := ⟨_, rfl⟩
  have HL := Lib.hid (size_list s)
  have h0 : 0 < s.size := by rw [HL.out, hl, List.length_cons]; omega
  obtain ⟨c1, x1, t1, hl1, hx1, _, S0⟩ := run_byte0 s h0
  rw [hl] at hl1
  obtain ⟨rfl, _⟩ := List.cons.inj hl1
  replace S0 : ∀ W : World, (Instr.index 9 (.string s) (.int .i64 0)).run Tryz.prog W = .ok (.int .u8 34) W := by
    intro W; rw [S0 W, ← hx1]; rfl
  rw [hn] at hs h0
  have HN := Lib.hid hn
  have HR := Lib.hid hR
  clear hn hR hl hl1 hx1
  go_enter Tryz.func155, Tryz.ntmps155
  go_wp2_with fail
  go_loopw [3, 4] (fun d i wr => ∃ (k e : Nat), k ≤ n + 1 ∧ e = 0 ∧ d = .int .i64 e ∧ i = .int .i64 k ∧ wr = w ∧ Hid (Cl 34 false s.data.toList k e)) (fun _ i _ => n + 1 - (intOf i).toNat)
  case atStart => exact ⟨1, 0, by omega, rfl, rfl, rfl, rfl, cl_start _ _ _⟩
  case round =>
    obtain ⟨k, d, hk, rfl, rfl, rfl, rfl, HC⟩ := hrel
    have F1 : IntKind.i64.wrap ((k : Int) + 1) = (k : Int) + 1 := by rw [IntKind.wrap_i64]; omega
    have F2 : IntKind.i64.wrap ((k : Int) + 1 + 1) = (k : Int) + 1 + 1 := by rw [IntKind.wrap_i64]; omega
    have hn : s.size = n := HN.out
    by_cases hlt : k < n
    · have hlt' : (k : Int) < (n : Int) := by omega
      obtain ⟨c, x, hc, hx, hx2, S1⟩ := run_byte s k (by rw [hn]; exact hlt)
      have e34 := byte_is c x hx 34 (by decide)
      rw [show ((34 : Nat) : Int) = 34 from rfl] at e34
      have e92 := byte_is c x hx 92 (by decide)
      rw [show ((92 : Nat) : Int) = 92 from rfl] at e92
      clear hx hx2
      by_cases h92 : c = 92
      · rw [show decide (c = UInt8.ofNat 92) = true from decide_eq_true h92] at e92
        rw [show decide (c = UInt8.ofNat 34) = false from decide_eq_false (fun e => absurd (h92.symm.trans e) (by decide))] at e34
        have HC2 := Lib.hid (cl_esc HC.out (by rw [hc, h92]))
        clear h92 hc HC
        go_wp2_with fail
        go_roundw
        case rel => exact ⟨k + 2, 0, by omega, rfl, rfl, by go_num, trivial, HC2⟩
        case measure => simp [intOf]; omega
      · rw [show decide (c = UInt8.ofNat 92) = false from decide_eq_false h92] at e92
        by_cases h34 : c = 34
        · rw [show decide (c = UInt8.ofNat 34) = true from decide_eq_true h34] at e34
          have HC2 := Lib.hid (cl_done HC.out (by rw [hc, h34]) (by decide))
          clear h92 h34 hc HC
          go_wp2_with fail
          go_ret
          exact ⟨by rw [HR.out.symm.trans HC2.out]; rfl, rfl⟩
        · rw [show decide (c = UInt8.ofNat 34) = false from decide_eq_false h34] at e34
          have HC2 := Lib.hid (cl_next HC.out hc h92 h34 (fun e => Bool.noConfusion e.1))
          clear h92 h34 hc HC
          go_wp2_with fail
          go_roundw
          case rel => exact ⟨k + 1, 0, by omega, rfl, rfl, by go_num, trivial, HC2⟩
          case measure => simp [intOf]; omega
    · have HC2 := Lib.hid (cl_end HC.out (by rw [← HL.out, hn]; omega))
      have hlt' : ¬ (k : Int) < (n : Int) := by omega
      clear HC
      go_wp2_with fail
      go_ret
      exact ⟨by rw [HR.out.symm.trans HC2.out]; rfl, rfl⟩
set_option maxHeartbeats 1000000 in
theorem end_91 (s : ByteArray) (hs : s.size ≤ 999999) (t : List UInt8) (hl : s.data.toList = 91 :: t) (R : Option Nat) (hR : closeS 93 false false 0 (s.data.toList.drop 1) = R) (w : World) :
    Calls Tryz.prog 155 #[.string s] w fun e w' => e = .returned (.int .i64 (endN R : Nat)) ∧ w = w' := by
  obtain ⟨n, hn⟩ : ∃ n, s.size = n := ⟨_, rfl⟩
  have HL := Lib.hid (size_list s)
  have h0 : 0 < s.size := by rw [HL.out, hl, List.length_cons]; omega
  obtain ⟨c1, x1, t1, hl1, hx1, _, S0⟩ := run_byte0 s h0
  rw [hl] at hl1
  obtain ⟨rfl, _⟩ := List.cons.inj hl1
  replace S0 : ∀ W : World, (Instr.index 9 (.string s) (.int .i64 0)).run Tryz.prog W = .ok (.int .u8 91) W := by
    intro W; rw [S0 W, ← hx1]; rfl
  rw [hn] at hs h0
  have HN := Lib.hid hn
  have HR := Lib.hid hR
  clear hn hR hl hl1 hx1
  go_enter Tryz.func155, Tryz.ntmps155
  go_wp2_with fail
  go_loopw [3, 4] (fun d i wr => ∃ (k e : Nat), k ≤ n + 1 ∧ e = 0 ∧ d = .int .i64 e ∧ i = .int .i64 k ∧ wr = w ∧ Hid (Cl 93 false s.data.toList k e)) (fun _ i _ => n + 1 - (intOf i).toNat)
  case atStart => exact ⟨1, 0, by omega, rfl, rfl, rfl, rfl, cl_start _ _ _⟩
  case round =>
    obtain ⟨k, d, hk, rfl, rfl, rfl, rfl, HC⟩ := hrel
    have F1 : IntKind.i64.wrap ((k : Int) + 1) = (k : Int) + 1 := by rw [IntKind.wrap_i64]; omega
    have F2 : IntKind.i64.wrap ((k : Int) + 1 + 1) = (k : Int) + 1 + 1 := by rw [IntKind.wrap_i64]; omega
    have hn : s.size = n := HN.out
    by_cases hlt : k < n
    · have hlt' : (k : Int) < (n : Int) := by omega
      obtain ⟨c, x, hc, hx, hx2, S1⟩ := run_byte s k (by rw [hn]; exact hlt)
      have e92 := byte_is c x hx 92 (by decide)
      rw [show ((92 : Nat) : Int) = 92 from rfl] at e92
      have e93 := byte_is c x hx 93 (by decide)
      rw [show ((93 : Nat) : Int) = 93 from rfl] at e93
      clear hx hx2
      by_cases h92 : c = 92
      · rw [show decide (c = UInt8.ofNat 92) = true from decide_eq_true h92] at e92
        rw [show decide (c = UInt8.ofNat 93) = false from decide_eq_false (fun e => absurd (h92.symm.trans e) (by decide))] at e93
        have HC2 := Lib.hid (cl_esc HC.out (by rw [hc, h92]))
        clear h92 hc HC
        go_wp2_with fail
        go_roundw
        case rel => exact ⟨k + 2, 0, by omega, rfl, rfl, by go_num, trivial, HC2⟩
        case measure => simp [intOf]; omega
      · rw [show decide (c = UInt8.ofNat 92) = false from decide_eq_false h92] at e92
        by_cases h93 : c = 93
        · rw [show decide (c = UInt8.ofNat 93) = true from decide_eq_true h93] at e93
          have HC2 := Lib.hid (cl_done HC.out (by rw [hc, h93]) (by decide))
          clear h92 h93 hc HC
          go_wp2_with fail
          go_ret
          exact ⟨by rw [HR.out.symm.trans HC2.out]; rfl, rfl⟩
        · rw [show decide (c = UInt8.ofNat 93) = false from decide_eq_false h93] at e93
          have HC2 := Lib.hid (cl_next HC.out hc h92 h93 (fun e => Bool.noConfusion e.1))
          clear h92 h93 hc HC
          go_wp2_with fail
          go_roundw
          case rel => exact ⟨k + 1, 0, by omega, rfl, rfl, by go_num, trivial, HC2⟩
          case measure => simp [intOf]; omega
    · have HC2 := Lib.hid (cl_end HC.out (by rw [← HL.out, hn]; omega))
      have hlt' : ¬ (k : Int) < (n : Int) := by omega
      clear HC
      go_wp2_with fail
      go_ret
      exact ⟨by rw [HR.out.symm.trans HC2.out]; rfl, rfl⟩
end Go.Proofs.YtdinachiiimngaaGreatDoor
