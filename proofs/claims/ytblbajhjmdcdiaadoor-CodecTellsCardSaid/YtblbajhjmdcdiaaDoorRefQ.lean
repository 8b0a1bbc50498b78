/- The reference's Q. -/
import Derived.Test.YtblbajhjmdcdiaaDoorApp
namespace Go.Proofs.YtblbajhjmdcdiaaDoor
open Go.ChangeShapes Go.WideShapes Go.ChangeAt Go.RowKit

theorem qByte_plain {c : UInt8} (h : (97 ≤ c.toNat ∧ c.toNat ≤ 122) ∨ (65 ≤ c.toNat ∧ c.toNat ≤ 90) ∨ (48 ≤ c.toNat ∧ c.toNat ≤ 57) ∨ c.toNat = 33 ∨ c.toNat = 42 ∨ c.toNat = 43 ∨ c.toNat = 45 ∨ c.toNat = 47) : qByte c = [c] := by
  rw [qByte_go (by omega), if_pos]
  rw [qPlain_is]
  simp only [isMark, Bool.or_eq_true, decide_eq_true_eq]
  omega
theorem qByte_esc {c : UInt8} (h : c.toNat ≠ 32 ∧ c.toNat ≠ 33 ∧ c.toNat ≠ 42 ∧ c.toNat ≠ 43 ∧ c.toNat ≠ 45 ∧ c.toNat ≠ 47) (h1 : ¬ (97 ≤ c.toNat ∧ c.toNat ≤ 122)) (h2 : ¬ (65 ≤ c.toNat ∧ c.toNat ≤ 90)) (h3 : ¬ (48 ≤ c.toNat ∧ c.toNat ≤ 57)) : qByte c = esc c := by
  rw [qByte_go h.1, if_neg]
  rw [qPlain_is]
  simp only [isMark, Bool.or_eq_true, decide_eq_true_eq]
  omega
theorem hexR_hi (c : UInt8) (w : World) : Calls Tryd.prog 33 #[.int .u8 ((c.toNat : Int) / 16)] w fun e w' => e = .returned (.int .u8 ((hexU (c.toNat / 16)).toNat : Int)) ∧ w = w' := by
  have := hexR_any (c.toNat / 16) (by have := c.toNat_lt; omega) w
  rwa [show ((c.toNat / 16 : Nat) : Int) = (c.toNat : Int) / 16 by omega] at this
theorem hexR_lo (c : UInt8) (w : World) : Calls Tryd.prog 33 #[.int .u8 ((c.toNat : Int) % 16)] w fun e w' => e = .returned (.int .u8 ((hexU (c.toNat % 16)).toNat : Int)) ∧ w = w' := by
  have := hexR_any (c.toNat % 16) (by omega) w
  rwa [show ((c.toNat % 16 : Nat) : Int) = (c.toNat : Int) % 16 by omega] at this

set_option maxHeartbeats 8000000 in
set_option maxRecDepth 1000000 in
theorem qR_any (s : ByteArray) (hs : s.size ≤ 1000000) (w : World) :
    Calls Tryd.prog 19 #[.string s] w fun e w' => e = .returned (.string (strL (qL s.data.toList))) ∧ Below w.heap.size w w' := by
  go_enter Tryd.func19, Tryd.ntmps19
  go_wp2
  go_loopw [4, 3] (fun i v wr => ∃ (k : Nat) (out : List UInt8), k ≤ s.size ∧ i = .int .i64 k ∧ Hid (Ow wr w.heap.size v out) ∧ Below w.heap.size w wr ∧ Hid (qL (s.data.toList.take k) = out) ∧ out.length ≤ 3 * k)
    (fun i _ _ => s.size - (intOf i).toNat)
  case atStart => exact ⟨0, [], Nat.zero_le _, rfl, Lib.hid (ow_nil _ _), Below.refl _ _, Lib.hid rfl, Nat.le_refl _⟩
  case round =>
    obtain ⟨k, out, hk, rfl, hown, hb, hacc, hol⟩ := hrel
    have hsz := hb.size
    by_cases hlt : k < s.size
    · have HK : Hid (qL (s.data.toList.take (k + 1)) = qL (s.data.toList.take k) ++ qByte s[k]) := Lib.hid (by rw [take_snoc s k hlt, qL_snoc])
      have hc256 := s[k].toNat_lt
      rcases (show (97 ≤ s[k].toNat ∧ s[k].toNat ≤ 122) ∨ (65 ≤ s[k].toNat ∧ s[k].toNat ≤ 90) ∨ (48 ≤ s[k].toNat ∧ s[k].toNat ≤ 57) ∨ (33 ≤ s[k].toNat ∧ s[k].toNat ≤ 33) ∨ (42 ≤ s[k].toNat ∧ s[k].toNat ≤ 42) ∨ (43 ≤ s[k].toNat ∧ s[k].toNat ≤ 43) ∨ (45 ≤ s[k].toNat ∧ s[k].toNat ≤ 45) ∨ (47 ≤ s[k].toNat ∧ s[k].toNat ≤ 47) ∨ (32 ≤ s[k].toNat ∧ s[k].toNat ≤ 32) ∨ ((s[k].toNat < 48) ∧ s[k].toNat ≠ 32 ∧ s[k].toNat ≠ 33 ∧ s[k].toNat ≠ 42 ∧ s[k].toNat ≠ 43 ∧ s[k].toNat ≠ 45 ∧ s[k].toNat ≠ 47) ∨ ((58 ≤ s[k].toNat ∧ s[k].toNat ≤ 64) ∧ s[k].toNat ≠ 32 ∧ s[k].toNat ≠ 33 ∧ s[k].toNat ≠ 42 ∧ s[k].toNat ≠ 43 ∧ s[k].toNat ≠ 45 ∧ s[k].toNat ≠ 47) ∨ ((91 ≤ s[k].toNat ∧ s[k].toNat ≤ 96) ∧ s[k].toNat ≠ 32 ∧ s[k].toNat ≠ 33 ∧ s[k].toNat ≠ 42 ∧ s[k].toNat ≠ 43 ∧ s[k].toNat ≠ 45 ∧ s[k].toNat ≠ 47) ∨ ((123 ≤ s[k].toNat) ∧ s[k].toNat ≠ 32 ∧ s[k].toNat ≠ 33 ∧ s[k].toNat ≠ 42 ∧ s[k].toNat ≠ 43 ∧ s[k].toNat ≠ 45 ∧ s[k].toNat ≠ 47) by omega) with h | h | h | h | h | h | h | h | h | h | h | h | h
      · have HQ := Lib.hid (qByte_plain (c := s[k]) (by omega))
        obtain ⟨h1, h2⟩ := h
        go_wp2_with (at_builtin; refine app_law rfl _ _ rfl w.heap.size out [s[k]] 1 hown.out rfl rfl rfl (by omega) hsz ?_; intro v' w2 hown2 hb2)
        go_roundw
        case rel => exact ⟨k + 1, out ++ [s[k]], by omega, by go_num, Lib.hid hown2, hb.trans hb2, Lib.hid (by rw [HK.out, hacc.out]; exact congrArg (out ++ ·) HQ.out), by simp only [List.length_append, List.length_cons, List.length_nil]; omega⟩
        case measure => simp [intOf]; omega
      · have HQ := Lib.hid (qByte_plain (c := s[k]) (by omega))
        obtain ⟨h1, h2⟩ := h
        go_wp2_with (at_builtin; refine app_law rfl _ _ rfl w.heap.size out [s[k]] 1 hown.out rfl rfl rfl (by omega) hsz ?_; intro v' w2 hown2 hb2)
        go_roundw
        case rel => exact ⟨k + 1, out ++ [s[k]], by omega, by go_num, Lib.hid hown2, hb.trans hb2, Lib.hid (by rw [HK.out, hacc.out]; exact congrArg (out ++ ·) HQ.out), by simp only [List.length_append, List.length_cons, List.length_nil]; omega⟩
        case measure => simp [intOf]; omega
      · have HQ := Lib.hid (qByte_plain (c := s[k]) (by omega))
        obtain ⟨h1, h2⟩ := h
        go_wp2_with (at_builtin; refine app_law rfl _ _ rfl w.heap.size out [s[k]] 1 hown.out rfl rfl rfl (by omega) hsz ?_; intro v' w2 hown2 hb2)
        go_roundw
        case rel => exact ⟨k + 1, out ++ [s[k]], by omega, by go_num, Lib.hid hown2, hb.trans hb2, Lib.hid (by rw [HK.out, hacc.out]; exact congrArg (out ++ ·) HQ.out), by simp only [List.length_append, List.length_cons, List.length_nil]; omega⟩
        case measure => simp [intOf]; omega
      · have HQ := Lib.hid (qByte_plain (c := s[k]) (by omega))
        have e33 : ((s[k].toNat : Int) == 33) = true := by rw [beq_iff_eq]; omega
        have e42 : ((s[k].toNat : Int) == 42) = false := by rw [beq_eq_false_iff_ne]; omega
        have e43 : ((s[k].toNat : Int) == 43) = false := by rw [beq_eq_false_iff_ne]; omega
        have e45 : ((s[k].toNat : Int) == 45) = false := by rw [beq_eq_false_iff_ne]; omega
        have e47 : ((s[k].toNat : Int) == 47) = false := by rw [beq_eq_false_iff_ne]; omega
        have hx : s[k].toNat < 48 := by omega
        clear h
        go_wp2_with (at_builtin; refine app_law rfl _ _ rfl w.heap.size out [s[k]] 1 hown.out rfl rfl rfl (by omega) hsz ?_; intro v' w2 hown2 hb2)
        go_roundw
        case rel => exact ⟨k + 1, out ++ [s[k]], by omega, by go_num, Lib.hid hown2, hb.trans hb2, Lib.hid (by rw [HK.out, hacc.out]; exact congrArg (out ++ ·) HQ.out), by simp only [List.length_append, List.length_cons, List.length_nil]; omega⟩
        case measure => simp [intOf]; omega
      · have HQ := Lib.hid (qByte_plain (c := s[k]) (by omega))
        have e33 : ((s[k].toNat : Int) == 33) = false := by rw [beq_eq_false_iff_ne]; omega
        have e42 : ((s[k].toNat : Int) == 42) = true := by rw [beq_iff_eq]; omega
        have e43 : ((s[k].toNat : Int) == 43) = false := by rw [beq_eq_false_iff_ne]; omega
        have e45 : ((s[k].toNat : Int) == 45) = false := by rw [beq_eq_false_iff_ne]; omega
        have e47 : ((s[k].toNat : Int) == 47) = false := by rw [beq_eq_false_iff_ne]; omega
        have hx : s[k].toNat < 48 := by omega
        clear h
        go_wp2_with (at_builtin; refine app_law rfl _ _ rfl w.heap.size out [s[k]] 1 hown.out rfl rfl rfl (by omega) hsz ?_; intro v' w2 hown2 hb2)
        go_roundw
        case rel => exact ⟨k + 1, out ++ [s[k]], by omega, by go_num, Lib.hid hown2, hb.trans hb2, Lib.hid (by rw [HK.out, hacc.out]; exact congrArg (out ++ ·) HQ.out), by simp only [List.length_append, List.length_cons, List.length_nil]; omega⟩
        case measure => simp [intOf]; omega
      · have HQ := Lib.hid (qByte_plain (c := s[k]) (by omega))
        have e33 : ((s[k].toNat : Int) == 33) = false := by rw [beq_eq_false_iff_ne]; omega
        have e42 : ((s[k].toNat : Int) == 42) = false := by rw [beq_eq_false_iff_ne]; omega
        have e43 : ((s[k].toNat : Int) == 43) = true := by rw [beq_iff_eq]; omega
        have e45 : ((s[k].toNat : Int) == 45) = false := by rw [beq_eq_false_iff_ne]; omega
        have e47 : ((s[k].toNat : Int) == 47) = false := by rw [beq_eq_false_iff_ne]; omega
        have hx : s[k].toNat < 48 := by omega
        clear h
        go_wp2_with (at_builtin; refine app_law rfl _ _ rfl w.heap.size out [s[k]] 1 hown.out rfl rfl rfl (by omega) hsz ?_; intro v' w2 hown2 hb2)
        go_roundw
        case rel => exact ⟨k + 1, out ++ [s[k]], by omega, by go_num, Lib.hid hown2, hb.trans hb2, Lib.hid (by rw [HK.out, hacc.out]; exact congrArg (out ++ ·) HQ.out), by simp only [List.length_append, List.length_cons, List.length_nil]; omega⟩
        case measure => simp [intOf]; omega
      · have HQ := Lib.hid (qByte_plain (c := s[k]) (by omega))
        have e33 : ((s[k].toNat : Int) == 33) = false := by rw [beq_eq_false_iff_ne]; omega
        have e42 : ((s[k].toNat : Int) == 42) = false := by rw [beq_eq_false_iff_ne]; omega
        have e43 : ((s[k].toNat : Int) == 43) = false := by rw [beq_eq_false_iff_ne]; omega
        have e45 : ((s[k].toNat : Int) == 45) = true := by rw [beq_iff_eq]; omega
        have e47 : ((s[k].toNat : Int) == 47) = false := by rw [beq_eq_false_iff_ne]; omega
        have hx : s[k].toNat < 48 := by omega
        clear h
        go_wp2_with (at_builtin; refine app_law rfl _ _ rfl w.heap.size out [s[k]] 1 hown.out rfl rfl rfl (by omega) hsz ?_; intro v' w2 hown2 hb2)
        go_roundw
        case rel => exact ⟨k + 1, out ++ [s[k]], by omega, by go_num, Lib.hid hown2, hb.trans hb2, Lib.hid (by rw [HK.out, hacc.out]; exact congrArg (out ++ ·) HQ.out), by simp only [List.length_append, List.length_cons, List.length_nil]; omega⟩
        case measure => simp [intOf]; omega
      · have HQ := Lib.hid (qByte_plain (c := s[k]) (by omega))
        have e33 : ((s[k].toNat : Int) == 33) = false := by rw [beq_eq_false_iff_ne]; omega
        have e42 : ((s[k].toNat : Int) == 42) = false := by rw [beq_eq_false_iff_ne]; omega
        have e43 : ((s[k].toNat : Int) == 43) = false := by rw [beq_eq_false_iff_ne]; omega
        have e45 : ((s[k].toNat : Int) == 45) = false := by rw [beq_eq_false_iff_ne]; omega
        have e47 : ((s[k].toNat : Int) == 47) = true := by rw [beq_iff_eq]; omega
        have hx : s[k].toNat < 48 := by omega
        clear h
        go_wp2_with (at_builtin; refine app_law rfl _ _ rfl w.heap.size out [s[k]] 1 hown.out rfl rfl rfl (by omega) hsz ?_; intro v' w2 hown2 hb2)
        go_roundw
        case rel => exact ⟨k + 1, out ++ [s[k]], by omega, by go_num, Lib.hid hown2, hb.trans hb2, Lib.hid (by rw [HK.out, hacc.out]; exact congrArg (out ++ ·) HQ.out), by simp only [List.length_append, List.length_cons, List.length_nil]; omega⟩
        case measure => simp [intOf]; omega
      · have HQ := Lib.hid (qByte_sp (c := s[k]) (by omega))
        have e33 : ((s[k].toNat : Int) == 33) = false := by rw [beq_eq_false_iff_ne]; omega
        have e42 : ((s[k].toNat : Int) == 42) = false := by rw [beq_eq_false_iff_ne]; omega
        have e43 : ((s[k].toNat : Int) == 43) = false := by rw [beq_eq_false_iff_ne]; omega
        have e45 : ((s[k].toNat : Int) == 45) = false := by rw [beq_eq_false_iff_ne]; omega
        have e47 : ((s[k].toNat : Int) == 47) = false := by rw [beq_eq_false_iff_ne]; omega
        have e32 : ((s[k].toNat : Int) == 32) = true := by rw [beq_iff_eq]; omega
        have hx : s[k].toNat < 48 := by omega
        clear h
        go_wp2_with (at_builtin; refine app_law rfl _ _ rfl w.heap.size out [95] 1 hown.out rfl rfl rfl (by omega) hsz ?_; intro v' w2 hown2 hb2)
        go_roundw
        case rel => exact ⟨k + 1, out ++ [95], by omega, by go_num, Lib.hid hown2, hb.trans hb2, Lib.hid (by rw [HK.out, hacc.out]; exact congrArg (out ++ ·) HQ.out), by simp only [List.length_append, List.length_cons, List.length_nil]; omega⟩
        case measure => simp [intOf]; omega
      · have HQ := Lib.hid (qByte_esc (c := s[k]) h.2 (by omega) (by omega) (by omega))
        have e33 : ((s[k].toNat : Int) == 33) = false := by rw [beq_eq_false_iff_ne]; omega
        have e42 : ((s[k].toNat : Int) == 42) = false := by rw [beq_eq_false_iff_ne]; omega
        have e43 : ((s[k].toNat : Int) == 43) = false := by rw [beq_eq_false_iff_ne]; omega
        have e45 : ((s[k].toNat : Int) == 45) = false := by rw [beq_eq_false_iff_ne]; omega
        have e47 : ((s[k].toNat : Int) == 47) = false := by rw [beq_eq_false_iff_ne]; omega
        have e32 : ((s[k].toNat : Int) == 32) = false := by rw [beq_eq_false_iff_ne]; omega
        replace h := h.1
        have H1 := Lib.hid (fun W => hexR_hi s[k] W)
        have H2 := Lib.hid (fun W => hexR_lo s[k] W)
        go_wp2_with (first
          | (go_at_call 33; with_reducible refine (H1.out _).mono ?_; rintro e w' ⟨rfl, rfl⟩)
          | (go_at_call 33; with_reducible refine (H2.out _).mono ?_; rintro e w' ⟨rfl, rfl⟩)
          | (at_builtin; refine app_law rfl _ _ rfl w.heap.size out (esc s[k]) 3 hown.out rfl rfl rfl (by omega) hsz ?_; intro v' w2 hown2 hb2))
        go_roundw
        case rel => exact ⟨k + 1, out ++ esc s[k], by omega, by go_num, Lib.hid hown2, hb.trans hb2, Lib.hid (by rw [HK.out, hacc.out]; exact congrArg (out ++ ·) HQ.out), by rw [List.length_append, show (esc s[k]).length = 3 from rfl]; omega⟩
        case measure => simp [intOf]; omega
      · have HQ := Lib.hid (qByte_esc (c := s[k]) h.2 (by omega) (by omega) (by omega))
        have e33 : ((s[k].toNat : Int) == 33) = false := by rw [beq_eq_false_iff_ne]; omega
        have e42 : ((s[k].toNat : Int) == 42) = false := by rw [beq_eq_false_iff_ne]; omega
        have e43 : ((s[k].toNat : Int) == 43) = false := by rw [beq_eq_false_iff_ne]; omega
        have e45 : ((s[k].toNat : Int) == 45) = false := by rw [beq_eq_false_iff_ne]; omega
        have e47 : ((s[k].toNat : Int) == 47) = false := by rw [beq_eq_false_iff_ne]; omega
        have e32 : ((s[k].toNat : Int) == 32) = false := by rw [beq_eq_false_iff_ne]; omega
        replace h := h.1
        have H1 := Lib.hid (fun W => hexR_hi s[k] W)
        have H2 := Lib.hid (fun W => hexR_lo s[k] W)
        go_wp2_with (first
          | (go_at_call 33; with_reducible refine (H1.out _).mono ?_; rintro e w' ⟨rfl, rfl⟩)
          | (go_at_call 33; with_reducible refine (H2.out _).mono ?_; rintro e w' ⟨rfl, rfl⟩)
          | (at_builtin; refine app_law rfl _ _ rfl w.heap.size out (esc s[k]) 3 hown.out rfl rfl rfl (by omega) hsz ?_; intro v' w2 hown2 hb2))
        go_roundw
        case rel => exact ⟨k + 1, out ++ esc s[k], by omega, by go_num, Lib.hid hown2, hb.trans hb2, Lib.hid (by rw [HK.out, hacc.out]; exact congrArg (out ++ ·) HQ.out), by rw [List.length_append, show (esc s[k]).length = 3 from rfl]; omega⟩
        case measure => simp [intOf]; omega
      · have HQ := Lib.hid (qByte_esc (c := s[k]) h.2 (by omega) (by omega) (by omega))
        have e33 : ((s[k].toNat : Int) == 33) = false := by rw [beq_eq_false_iff_ne]; omega
        have e42 : ((s[k].toNat : Int) == 42) = false := by rw [beq_eq_false_iff_ne]; omega
        have e43 : ((s[k].toNat : Int) == 43) = false := by rw [beq_eq_false_iff_ne]; omega
        have e45 : ((s[k].toNat : Int) == 45) = false := by rw [beq_eq_false_iff_ne]; omega
        have e47 : ((s[k].toNat : Int) == 47) = false := by rw [beq_eq_false_iff_ne]; omega
        have e32 : ((s[k].toNat : Int) == 32) = false := by rw [beq_eq_false_iff_ne]; omega
        replace h := h.1
        have H1 := Lib.hid (fun W => hexR_hi s[k] W)
        have H2 := Lib.hid (fun W => hexR_lo s[k] W)
        go_wp2_with (first
          | (go_at_call 33; with_reducible refine (H1.out _).mono ?_; rintro e w' ⟨rfl, rfl⟩)
          | (go_at_call 33; with_reducible refine (H2.out _).mono ?_; rintro e w' ⟨rfl, rfl⟩)
          | (at_builtin; refine app_law rfl _ _ rfl w.heap.size out (esc s[k]) 3 hown.out rfl rfl rfl (by omega) hsz ?_; intro v' w2 hown2 hb2))
        go_roundw
        case rel => exact ⟨k + 1, out ++ esc s[k], by omega, by go_num, Lib.hid hown2, hb.trans hb2, Lib.hid (by rw [HK.out, hacc.out]; exact congrArg (out ++ ·) HQ.out), by rw [List.length_append, show (esc s[k]).length = 3 from rfl]; omega⟩
        case measure => simp [intOf]; omega
      · have HQ := Lib.hid (qByte_esc (c := s[k]) h.2 (by omega) (by omega) (by omega))
        have e33 : ((s[k].toNat : Int) == 33) = false := by rw [beq_eq_false_iff_ne]; omega
        have e42 : ((s[k].toNat : Int) == 42) = false := by rw [beq_eq_false_iff_ne]; omega
        have e43 : ((s[k].toNat : Int) == 43) = false := by rw [beq_eq_false_iff_ne]; omega
        have e45 : ((s[k].toNat : Int) == 45) = false := by rw [beq_eq_false_iff_ne]; omega
        have e47 : ((s[k].toNat : Int) == 47) = false := by rw [beq_eq_false_iff_ne]; omega
        have e32 : ((s[k].toNat : Int) == 32) = false := by rw [beq_eq_false_iff_ne]; omega
        replace h := h.1
        have H1 := Lib.hid (fun W => hexR_hi s[k] W)
        have H2 := Lib.hid (fun W => hexR_lo s[k] W)
        go_wp2_with (first
          | (go_at_call 33; with_reducible refine (H1.out _).mono ?_; rintro e w' ⟨rfl, rfl⟩)
          | (go_at_call 33; with_reducible refine (H2.out _).mono ?_; rintro e w' ⟨rfl, rfl⟩)
          | (at_builtin; refine app_law rfl _ _ rfl w.heap.size out (esc s[k]) 3 hown.out rfl rfl rfl (by omega) hsz ?_; intro v' w2 hown2 hb2))
        go_roundw
        case rel => exact ⟨k + 1, out ++ esc s[k], by omega, by go_num, Lib.hid hown2, hb.trans hb2, Lib.hid (by rw [HK.out, hacc.out]; exact congrArg (out ++ ·) HQ.out), by rw [List.length_append, show (esc s[k]).length = 3 from rfl]; omega⟩
        case measure => simp [intOf]; omega
    · have hend : k = s.size := by omega
      subst hend
      rw [List.take_of_length_le (by rw [← size_list]; exact Nat.le_refl _)] at hacc
      have hcv := hown.out.conv
      go_wp2_with fail
      go_ret
      exact ⟨by rw [hacc.out]; rfl, hb⟩
theorem unuL_snoc (l : List UInt8) (c : UInt8) : unuL (l ++ [c]) = unuL l ++ [if c = 95 then 32 else c] := unuL_append l [c]
set_option maxHeartbeats 8000000 in
set_option maxRecDepth 1000000 in
theorem unqR_any (s : ByteArray) (hs : s.size ≤ 1000000) (w : World) :
    Calls Tryd.prog 21 #[.string s] w fun e w' => e = .returned (.string (strL (unqL s.data.toList))) ∧ Below w.heap.size w w' := by
  go_enter Tryd.func21, Tryd.ntmps21
  go_wp2
  go_loopw [4, 3] (fun i v wr => ∃ (k : Nat) (out : List UInt8), k ≤ s.size ∧ i = .int .i64 k ∧ Hid (Ow wr w.heap.size v out) ∧ Below w.heap.size w wr ∧ Hid (unuL (s.data.toList.take k) = out) ∧ out.length ≤ k)
    (fun i _ _ => s.size - (intOf i).toNat)
  case atStart => exact ⟨0, [], Nat.zero_le _, rfl, Lib.hid (ow_nil _ _), Below.refl _ _, Lib.hid rfl, Nat.le_refl _⟩
  case round =>
    obtain ⟨k, out, hk, rfl, hown, hb, hacc, hol⟩ := hrel
    have hsz := hb.size
    by_cases hlt : k < s.size
    · have HK : Hid (unuL (s.data.toList.take (k + 1)) = unuL (s.data.toList.take k) ++ [if s[k] = 95 then 32 else s[k]]) := Lib.hid (by rw [take_snoc s k hlt, unuL_snoc])
      by_cases h95 : s[k] = 95
      · have HQ : Hid (([if s[k] = 95 then 32 else s[k]] : List UInt8) = [32]) := Lib.hid (by rw [if_pos h95])
        have e1 : ((s[k].toNat : Int) == 95) = true := by rw [h95]; rfl
        clear h95
        go_wp2_with (at_builtin; refine app_law rfl _ _ rfl w.heap.size out [32] 1 hown.out rfl rfl rfl (by omega) hsz ?_; intro v' w2 hown2 hb2)
        go_roundw
        case rel => exact ⟨k + 1, out ++ [32], by omega, by go_num, Lib.hid hown2, hb.trans hb2, Lib.hid (by rw [HK.out, hacc.out]; exact congrArg (out ++ ·) HQ.out), by simp only [List.length_append, List.length_cons, List.length_nil]; omega⟩
        case measure => simp [intOf]; omega
      · have HQ : Hid (([if s[k] = 95 then 32 else s[k]] : List UInt8) = [s[k]]) := Lib.hid (by rw [if_neg h95])
        have e1 : ((s[k].toNat : Int) == 95) = false := by
          rw [beq_eq_false_iff_ne]
          intro e
          exact h95 (UInt8.toNat_inj.1 (by show s[k].toNat = 95; omega))
        clear h95
        go_wp2_with (at_builtin; refine app_law rfl _ _ rfl w.heap.size out [s[k]] 1 hown.out rfl rfl rfl (by omega) hsz ?_; intro v' w2 hown2 hb2)
        go_roundw
        case rel => exact ⟨k + 1, out ++ [s[k]], by omega, by go_num, Lib.hid hown2, hb.trans hb2, Lib.hid (by rw [HK.out, hacc.out]; exact congrArg (out ++ ·) HQ.out), by simp only [List.length_append, List.length_cons, List.length_nil]; omega⟩
        case measure => simp [intOf]; omega
    · have hend : k = s.size := by omega
      subst hend
      rw [List.take_of_length_le (by rw [← size_list]; exact Nat.le_refl _)] at hacc
      have hcv := hown.out.conv
      have hes := fun W => escR_any (strL out) (by rw [strL_size]; omega) W
      rw [strL_list] at hes
      have HE := Lib.hid hes
      clear hes
      go_wp2_with (go_at_call 38; refine (HE.out _).mono ?_; rintro e w2 ⟨rfl, hb2⟩)
      go_ret
      exact ⟨by unfold unqL; rw [hacc.out]; rfl, hb.trans (hb2.mono hsz)⟩
end Go.Proofs.YtblbajhjmdcdiaaDoor
