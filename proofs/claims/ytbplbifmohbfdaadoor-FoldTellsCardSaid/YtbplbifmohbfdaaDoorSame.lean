/- The reference's comparison of two lists of strings. -/
import Derived.Test.YtbplbifmohbfdaaDoorFits
import Derived.BigQuiet
import Derived.WalkSmall
namespace Go.Proofs.YtbplbifmohbfdaaDoor
open Go.ChangeShapes Go.WideShapes Go.ChangeAt Go.RowKit

theorem below_drewN {w w1 : World} {b : Nat} (h : Below b w w1) (n : Nat) : Below b w (w1.drewN n) := ⟨h.os, h.tape, h.output, h.size, h.block⟩
theorem same_step {xs ys : List (List UInt8)} {k : Nat} (h1 : k < xs.length) (h2 : k < ys.length) : decide (xs.drop k = ys.drop k) = (decide (xs[k] = ys[k]) && decide (xs.drop (k + 1) = ys.drop (k + 1))) := by
  rw [List.drop_eq_getElem_cons h1, List.drop_eq_getElem_cons h2, Bool.eq_iff_iff, Bool.and_eq_true, decide_eq_true_eq, decide_eq_true_eq, decide_eq_true_eq, List.cons.injEq]
set_option maxRecDepth 1000000 in
theorem same_any (xs ys : List (List UInt8)) (a1 a2 : Option Addr) (n1 n2 c1 c2 : Nat) (hn1 : xs.length = n1) (hn2 : ys.length = n2) (hx : n1 ≤ 1000000) (w : World) (s1 : Strs w a1 xs) (s2 : Strs w a2 ys) (R : Bool) (hR : decide (xs = ys) = R) :
    Calls Tryd.prog 9 #[.slice a1 n1 c1, .slice a2 n2 c2] w fun e w' => e = .returned (.bool R) ∧ Below w.heap.size w w' := by
  have HR := Lib.hid hR
  clear hR
  go_enter Tryd.func9, Tryd.ntmps9
  by_cases hl : n1 = n2
  · go_wp2_with fail
    go_loopw [5] (fun i wr => ∃ k : Nat, i = .int .i64 k ∧ k ≤ n1 ∧ Below w.heap.size w wr ∧ Hid (decide (xs.drop k = ys.drop k) = R)) (fun i _ => n1 - (intOf i).toNat)
    case atStart => exact ⟨0, rfl, Nat.zero_le _, Below.refl _ _, Lib.hid (by rw [List.drop_zero, List.drop_zero]; exact HR.out)⟩
    case round =>
      obtain ⟨k, rfl, hk, hbw, HK⟩ := hrel
      have hst := HK.out
      by_cases hlt : k < n1
      · have h1 : k < xs.length := by omega
        have h2 : k < ys.length := by omega
        have h3 : k < n2 := by omega
        obtain ⟨g1, o1, rfl, l1⟩ := s1.get h1
        obtain ⟨g2, o2, rfl, l2⟩ := s2.get h2
        replace l1 := cell_below l1 hbw
        replace l2 := cell_below l2 hbw
        rw [same_step h1 h2] at hst
        obtain ⟨u, hu⟩ : ∃ u, xs[k] = u := ⟨_, rfl⟩
        obtain ⟨v, hv⟩ : ∃ v, ys[k] = v := ⟨_, rfl⟩
        rw [hu] at l1 hst
        rw [hv] at l2 hst
        clear hu hv h1 h2 hn1 hn2 s1 s2 HR HK
        by_cases e : u = v
        · have j := strL_eq u v true (by rw [e]; exact beq_self_eq_true v)
          have j' : ((strL u).toList != (strL v).toList) = false := by rw [bne, j]; rfl
          rw [decide_eq_true e, Bool.true_and] at hst
          replace hst := Lib.hid hst
          clear e
          go_wp2_with fail
          go_quiet (fail)
          go_wp2_with fail
          go_roundw
          case rel => exact ⟨k + 1, rfl, by omega, below_drewN hbw _, hst⟩
          case measure => simp only [intOf]; omega
        · have j := strL_eq u v false (by rw [beq_eq_false_iff_ne]; exact e)
          have j' : ((strL u).toList != (strL v).toList) = true := by rw [bne, j]; rfl
          rw [decide_eq_false e, Bool.false_and] at hst
          subst hst
          clear e
          go_wp2_with fail
          go_quiet (fail)
          go_wp2_with fail
          go_ret
          exact ⟨rfl, below_drewN hbw _⟩
      · obtain rfl : k = n1 := by omega
        rw [List.drop_eq_nil_of_le (by omega), List.drop_eq_nil_of_le (by omega)] at hst
        have hf : R = true := by rw [← hst]; rfl
        subst hf
        clear hst HK HR
        go_wp2_with fail
        go_ret
        exact ⟨rfl, hbw⟩
  · have hf : R = false := by
      rw [← HR.out]
      exact decide_eq_false (fun e => hl (by rw [← hn1, ← hn2, e]))
    subst hf
    go_wp2_with fail
    go_ret
    exact ⟨rfl, Below.refl _ _⟩
end Go.Proofs.YtbplbifmohbfdaaDoor
