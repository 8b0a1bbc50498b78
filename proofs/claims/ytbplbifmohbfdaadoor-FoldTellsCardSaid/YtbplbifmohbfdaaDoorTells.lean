/- FoldTells: Units, Fold, Equal and Order are the reference's. -/
import Derived.Test.YtbplbifmohbfdaaDoorRefO
namespace Go.Proofs.YtbplbifmohbfdaaDoor
open Go.ChangeShapes Go.WideShapes Go.ChangeAt Go.RowKit

section
variable {w0 w : World} {L : List (Option Addr × List (List UInt8))}
theorem runits_is (s : ByteArray) (hs : s.size ≤ 1000000) (xs : List (List UInt8)) (n : Nat) (hx : unitsL s.data.toList = xs) (hn : xs.length = n) (h : St w0 w L) :
    Calls Tryd.prog 11 #[.string s] w fun e w' => ∃ a c, e = .returned (.slice a n c) ∧ St w0 w' ((a, xs) :: L) := by
  subst hx hn
  exact (runits_any s hs w).mono fun e w' ⟨a, c, h1, h2, h3⟩ => ⟨a, c, h1, (h.next h3).more h2⟩
theorem same2_is {a1 a2 : Option Addr} {xs : List (List UInt8)} {n c1 c2 : Nat} (hn : xs.length = n) (hx : n ≤ 1000000) (h : St w0 w ((a2, xs) :: (a1, xs) :: L)) :
    Calls Tryd.prog 9 #[.slice a1 n c1, .slice a2 n c2] w fun e w' => e = .returned (.bool true) ∧ St w0 w' L :=
  (same_any xs xs a1 a2 n n c1 c2 hn hn hx w (h.2.2 _ (List.mem_cons_of_mem _ List.mem_cons_self)) (h.2.2 _ List.mem_cons_self) true (by simp)).mono fun e w' h2 => ⟨h2.1, (show St w0 w L from ⟨h.1, h.2.1, fun p hp => h.2.2 p (List.mem_cons_of_mem _ (List.mem_cons_of_mem _ hp))⟩).next h2.2⟩
end
set_option maxHeartbeats 4000000 in
set_option maxRecDepth 1000000 in
theorem tells_law (comp : Int) (a b : ByteArray) (w : World) (hv : Vars w) :
    Calls Tryd.prog 3 #[.int .i64 comp, .string a, .string b] w fun e w' => e = .returned (.bool true) ∧ Below w.heap.size w w' := by
  have hst : St w w [] := ⟨hv, Below.refl _ _, fun p hp => by cases hp⟩
  by_cases h1 : a.size ≤ 1000
  · by_cases h2 : b.size ≤ 1000
    · have i1 : ¬ (1000 : Int) < a.size := by omega
      have i2 : ¬ (1000 : Int) < b.size := by omega
      obtain ⟨us, hus⟩ : ∃ us, unitsL a.data.toList = us := ⟨_, rfl⟩
      obtain ⟨n, hn⟩ : ∃ n, us.length = n := ⟨_, rfl⟩
      have hn2 : n ≤ 1000000 := by
        have := units_le a.data.toList
        rw [hus, hn, ← size_list] at this
        omega
      obtain ⟨F, hF⟩ : ∃ F, strL (foldL a.data.toList) = F := ⟨_, rfl⟩
      obtain ⟨q, hq⟩ : ∃ q, decide (foldL a.data.toList = foldL b.data.toList) = q := ⟨_, rfl⟩
      obtain ⟨o, ho⟩ : ∃ o, ordL comp a.data.toList b.data.toList = o := ⟨_, rfl⟩
      have kU := fun (w1 : World) L (h : St w w1 L) => units_is a (by omega) us n hus hn h
      have kV := fun (w1 : World) L (h : St w w1 L) => runits_is a (by omega) us n hus hn h
      have kS := fun (w1 : World) a1 a2 c1 c2 (h : St w w1 [(a2, us), (a1, us)]) => same2_is (c1 := c1) (c2 := c2) hn hn2 h
      have kF := fun (w1 : World) L (h : St w w1 L) => fold_is a F (by omega) hF h
      have kG : ∀ (w1 : World) L (h : St w w1 L), Calls Tryd.prog 13 #[.string a] w1 fun e w' => e = .returned (.string F) ∧ St w w' L := fun w1 L h => (rfold_any a (by omega) w1).mono fun e w' h2 => ⟨by rw [h2.1, hF], h.next h2.2⟩
      have kE := fun (w1 : World) L (h : St w w1 L) => equal_is a b (by omega) (by omega) q hq h
      have kQ : ∀ (w1 : World) L (h : St w w1 L), Calls Tryd.prog 15 #[.string a, .string b] w1 fun e w' => e = .returned (.bool q) ∧ St w w' L := fun w1 L h => (requal_any a b (by omega) (by omega) q hq w1).mono fun e w' h2 => ⟨h2.1, h.next h2.2⟩
      have kO := fun (w1 : World) L (h : St w w1 L) => order_is comp a b (by omega) (by omega) o ho h
      have kP : ∀ (w1 : World) L (h : St w w1 L), Calls Tryd.prog 17 #[.int .i64 comp, .string a, .string b] w1 fun e w' => e = .returned (.int .i64 o) ∧ St w w' L := fun w1 L h => (rorder_any comp a b (by omega) (by omega) w1).mono fun e w' h2 => ⟨by rw [h2.1, ho], h.next h2.2⟩
      clear hus hF hq ho hv hn hn2
      cases q
      all_goals
        go_enter Tryd.func3, Tryd.ntmps3
        go_wp2_with (first
          | (go_at_call 8; refine (small_st hst).mono ?_; rintro e w1 ⟨rfl, hs1⟩)
          | (go_at_call 10; with_reducible refine (kU _ _ (by assumption)).mono ?_; rintro e w1 ⟨gu, rfl, hs1⟩)
          | (go_at_call 11; with_reducible refine (kV _ _ (by assumption)).mono ?_; rintro e w1 ⟨va, vc, rfl, hs1⟩)
          | (go_at_call 9; with_reducible refine (kS _ _ _ _ _ (by assumption)).mono ?_; rintro e w1 ⟨rfl, hs1⟩)
          | (go_at_call 12; with_reducible refine (kF _ _ (by assumption)).mono ?_; rintro e w1 ⟨rfl, hs1⟩)
          | (go_at_call 13; with_reducible refine (kG _ _ (by assumption)).mono ?_; rintro e w1 ⟨rfl, hs1⟩)
          | (go_at_call 14; with_reducible refine (kE _ _ (by assumption)).mono ?_; rintro e w1 ⟨rfl, hs1⟩)
          | (go_at_call 15; with_reducible refine (kQ _ _ (by assumption)).mono ?_; rintro e w1 ⟨rfl, hs1⟩)
          | (go_at_call 16; with_reducible refine (kO _ _ (by assumption)).mono ?_; rintro e w1 ⟨rfl, hs1⟩)
          | (go_at_call 17; with_reducible refine (kP _ _ (by assumption)).mono ?_; rintro e w1 ⟨rfl, hs1⟩))
        go_ret
        exact ⟨rfl, (show St w _ [] from by assumption).below⟩
    · have i3 : (1000 : Int) < b.size := by omega
      go_enter Tryd.func3, Tryd.ntmps3
      go_wp2_with (go_at_call 8; refine (small_any w hv).mono ?_; rintro e w1 ⟨rfl, hb1⟩)
      go_ret
      exact ⟨rfl, hb1⟩
  · have i3 : (1000 : Int) < a.size := by omega
    go_enter Tryd.func3, Tryd.ntmps3
    go_wp2_with (go_at_call 8; refine (small_any w hv).mono ?_; rintro e w1 ⟨rfl, hb1⟩)
    go_ret
    exact ⟨rfl, hb1⟩
end Go.Proofs.YtbplbifmohbfdaaDoor
