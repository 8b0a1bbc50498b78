/- The reference's lower, Fold and Equal. -/
import Derived.Test.YtbplbifmohbfdaaDoorRefU
import Derived.Lib.AppendStr
namespace Go.Proofs.YtbplbifmohbfdaaDoor
open Go.ChangeShapes Go.WideShapes Go.ChangeAt Go.RowKit

theorem in_yes (n lo hi : Int) (h1 : lo ≤ n) (h2 : n ≤ hi) (w : World) : Calls Tryd.prog 43 #[.int .i64 n, .int .i64 lo, .int .i64 hi] w fun e w' => e = .returned (.bool true) ∧ w = w' := by
  go_enter Tryd.func43, Tryd.ntmps43
  go_wp2_with fail
  go_ret
  exact ⟨by simp, rfl⟩
theorem in_no (n lo hi : Int) (h : n < lo ∨ hi < n) (w : World) : Calls Tryd.prog 43 #[.int .i64 n, .int .i64 lo, .int .i64 hi] w fun e w' => e = .returned (.bool false) ∧ w = w' := by
  by_cases h1 : lo ≤ n
  · have h2 : ¬ n ≤ hi := by omega
    go_enter Tryd.func43, Tryd.ntmps43
    go_wp2_with fail
    go_ret
    exact ⟨by simp, rfl⟩
  · go_enter Tryd.func43, Tryd.ntmps43
    go_wp2_with fail
    go_ret
    exact ⟨by simp, rfl⟩
set_option maxHeartbeats 4000000 in
set_option maxRecDepth 1000000 in
theorem rlower_any (r : Nat) (hr : r ≤ 1114111) (w : World) :
    Calls Tryd.prog 27 #[.int .i64 r] w fun e w' => e = .returned (.int .i64 (lowN r : Nat)) ∧ w = w' := by
  by_cases h1 : 65 ≤ r ∧ r ≤ 90
  · have e : lowN r = r + 32 := by unfold lowN; rw [if_pos (by omega)]
    rw [e]
    clear e
    go_enter Tryd.func27, Tryd.ntmps27
    go_wp2_with (first
      | (go_at_call 43; with_reducible refine (in_yes _ _ _ (by omega) (by omega) _).mono ?_; rintro e w1 ⟨rfl, rfl⟩)
      | (go_at_call 43; with_reducible refine (in_no _ _ _ (by omega) _).mono ?_; rintro e w1 ⟨rfl, rfl⟩))
    go_ret
    exact ⟨by first | rfl | (congr 2), rfl⟩
  · by_cases h2 : 192 ≤ r ∧ r ≤ 222 ∧ r ≠ 215
    · have e : lowN r = r + 32 := by unfold lowN; rw [if_pos (by omega)]
      rw [e]
      clear e
      go_enter Tryd.func27, Tryd.ntmps27
      go_wp2_with (first
        | (go_at_call 43; with_reducible refine (in_yes _ _ _ (by omega) (by omega) _).mono ?_; rintro e w1 ⟨rfl, rfl⟩)
        | (go_at_call 43; with_reducible refine (in_no _ _ _ (by omega) _).mono ?_; rintro e w1 ⟨rfl, rfl⟩))
      go_ret
      exact ⟨by first | rfl | (congr 2), rfl⟩
    · by_cases h3 : 913 ≤ r ∧ r ≤ 939 ∧ r ≠ 930
      · have e : lowN r = r + 32 := by unfold lowN; rw [if_pos (by omega)]
        rw [e]
        clear e
        go_enter Tryd.func27, Tryd.ntmps27
        go_wp2_with (first
          | (go_at_call 43; with_reducible refine (in_yes _ _ _ (by omega) (by omega) _).mono ?_; rintro e w1 ⟨rfl, rfl⟩)
          | (go_at_call 43; with_reducible refine (in_no _ _ _ (by omega) _).mono ?_; rintro e w1 ⟨rfl, rfl⟩))
        go_ret
        exact ⟨by first | rfl | (congr 2), rfl⟩
      · by_cases h4 : 1040 ≤ r ∧ r ≤ 1071
        · have e : lowN r = r + 32 := by unfold lowN; rw [if_pos (by omega)]
          rw [e]
          clear e
          go_enter Tryd.func27, Tryd.ntmps27
          go_wp2_with (first
            | (go_at_call 43; with_reducible refine (in_yes _ _ _ (by omega) (by omega) _).mono ?_; rintro e w1 ⟨rfl, rfl⟩)
            | (go_at_call 43; with_reducible refine (in_no _ _ _ (by omega) _).mono ?_; rintro e w1 ⟨rfl, rfl⟩))
          go_ret
          exact ⟨by first | rfl | (congr 2), rfl⟩
        · by_cases h5 : 1024 ≤ r ∧ r ≤ 1039
          · have e : lowN r = r + 80 := by unfold lowN; rw [if_neg (by omega), if_pos (by omega)]
            rw [e]
            clear e
            go_enter Tryd.func27, Tryd.ntmps27
            go_wp2_with (first
              | (go_at_call 43; with_reducible refine (in_yes _ _ _ (by omega) (by omega) _).mono ?_; rintro e w1 ⟨rfl, rfl⟩)
              | (go_at_call 43; with_reducible refine (in_no _ _ _ (by omega) _).mono ?_; rintro e w1 ⟨rfl, rfl⟩))
            go_ret
            exact ⟨by first | rfl | (congr 2), rfl⟩
          · by_cases hpar : r % 2 = 0
            · have hp : (r : Int).tmod 2 = 0 := by rw [Int.tmod_eq_emod_of_nonneg (by omega)]; omega
              have hn : ¬ r = 911 := by omega
              by_cases h6 : 256 ≤ r ∧ r ≤ 303
              · have e : lowN r = r + 1 := by unfold lowN; rw [if_neg (by omega), if_neg (by omega), if_pos (by omega)]
                rw [e]
                clear e
                go_enter Tryd.func27, Tryd.ntmps27
                go_wp2_with (first
                  | (go_at_call 43; with_reducible refine (in_yes _ _ _ (by omega) (by omega) _).mono ?_; rintro e w1 ⟨rfl, rfl⟩)
                  | (go_at_call 43; with_reducible refine (in_no _ _ _ (by omega) _).mono ?_; rintro e w1 ⟨rfl, rfl⟩))
                go_ret
                exact ⟨by first | rfl | (congr 2), rfl⟩
              · by_cases h7 : 306 ≤ r ∧ r ≤ 311
                · have e : lowN r = r + 1 := by unfold lowN; rw [if_neg (by omega), if_neg (by omega), if_pos (by omega)]
                  rw [e]
                  clear e
                  go_enter Tryd.func27, Tryd.ntmps27
                  go_wp2_with (first
                    | (go_at_call 43; with_reducible refine (in_yes _ _ _ (by omega) (by omega) _).mono ?_; rintro e w1 ⟨rfl, rfl⟩)
                    | (go_at_call 43; with_reducible refine (in_no _ _ _ (by omega) _).mono ?_; rintro e w1 ⟨rfl, rfl⟩))
                  go_ret
                  exact ⟨by first | rfl | (congr 2), rfl⟩
                · by_cases h8 : 330 ≤ r ∧ r ≤ 375
                  · have e : lowN r = r + 1 := by unfold lowN; rw [if_neg (by omega), if_neg (by omega), if_pos (by omega)]
                    rw [e]
                    clear e
                    go_enter Tryd.func27, Tryd.ntmps27
                    go_wp2_with (first
                      | (go_at_call 43; with_reducible refine (in_yes _ _ _ (by omega) (by omega) _).mono ?_; rintro e w1 ⟨rfl, rfl⟩)
                      | (go_at_call 43; with_reducible refine (in_no _ _ _ (by omega) _).mono ?_; rintro e w1 ⟨rfl, rfl⟩))
                    go_ret
                    exact ⟨by first | rfl | (congr 2), rfl⟩
                  · by_cases h9 : r = 376
                    · have e : lowN r = 255 := by unfold lowN; rw [if_neg (by omega), if_neg (by omega), if_neg (by omega), if_pos (by omega)]
                      rw [e]
                      clear e
                      go_enter Tryd.func27, Tryd.ntmps27
                      go_wp2_with (first
                        | (go_at_call 43; with_reducible refine (in_yes _ _ _ (by omega) (by omega) _).mono ?_; rintro e w1 ⟨rfl, rfl⟩)
                        | (go_at_call 43; with_reducible refine (in_no _ _ _ (by omega) _).mono ?_; rintro e w1 ⟨rfl, rfl⟩))
                      go_ret
                      exact ⟨by first | rfl | (congr 2), rfl⟩
                    · by_cases h10 : r = 902
                      · have e : lowN r = 940 := by unfold lowN; rw [if_neg (by omega), if_neg (by omega), if_neg (by omega), if_neg (by omega), if_pos (by omega)]
                        rw [e]
                        clear e
                        go_enter Tryd.func27, Tryd.ntmps27
                        go_wp2_with (first
                          | (go_at_call 43; with_reducible refine (in_yes _ _ _ (by omega) (by omega) _).mono ?_; rintro e w1 ⟨rfl, rfl⟩)
                          | (go_at_call 43; with_reducible refine (in_no _ _ _ (by omega) _).mono ?_; rintro e w1 ⟨rfl, rfl⟩))
                        go_ret
                        exact ⟨by first | rfl | (congr 2), rfl⟩
                      · by_cases h11 : 904 ≤ r ∧ r ≤ 906
                        · have e : lowN r = r + 37 := by unfold lowN; rw [if_neg (by omega), if_neg (by omega), if_neg (by omega), if_neg (by omega), if_neg (by omega), if_pos (by omega)]
                          rw [e]
                          clear e
                          go_enter Tryd.func27, Tryd.ntmps27
                          go_wp2_with (first
                            | (go_at_call 43; with_reducible refine (in_yes _ _ _ (by omega) (by omega) _).mono ?_; rintro e w1 ⟨rfl, rfl⟩)
                            | (go_at_call 43; with_reducible refine (in_no _ _ _ (by omega) _).mono ?_; rintro e w1 ⟨rfl, rfl⟩))
                          go_ret
                          exact ⟨by first | rfl | (congr 2), rfl⟩
                        · by_cases h12 : r = 908
                          · have e : lowN r = 972 := by unfold lowN; rw [if_neg (by omega), if_neg (by omega), if_neg (by omega), if_neg (by omega), if_neg (by omega), if_neg (by omega), if_pos (by omega)]; omega
                            rw [e]
                            clear e
                            go_enter Tryd.func27, Tryd.ntmps27
                            go_wp2_with (first
                              | (go_at_call 43; with_reducible refine (in_yes _ _ _ (by omega) (by omega) _).mono ?_; rintro e w1 ⟨rfl, rfl⟩)
                              | (go_at_call 43; with_reducible refine (in_no _ _ _ (by omega) _).mono ?_; rintro e w1 ⟨rfl, rfl⟩))
                            go_ret
                            exact ⟨by first | rfl | (congr 2), rfl⟩
                          · by_cases h13 : r = 910
                            · have e : lowN r = 973 := by unfold lowN; rw [if_neg (by omega), if_neg (by omega), if_neg (by omega), if_neg (by omega), if_neg (by omega), if_neg (by omega), if_neg (by omega), if_pos (by omega)]; omega
                              rw [e]
                              clear e
                              go_enter Tryd.func27, Tryd.ntmps27
                              go_wp2_with (first
                                | (go_at_call 43; with_reducible refine (in_yes _ _ _ (by omega) (by omega) _).mono ?_; rintro e w1 ⟨rfl, rfl⟩)
                                | (go_at_call 43; with_reducible refine (in_no _ _ _ (by omega) _).mono ?_; rintro e w1 ⟨rfl, rfl⟩))
                              go_ret
                              exact ⟨by first | rfl | (congr 2), rfl⟩
                            · by_cases hz : r = 930
                              · have e : lowN r = 930 := by unfold lowN; rw [if_neg (by omega), if_neg (by omega), if_neg (by omega), if_neg (by omega), if_neg (by omega), if_neg (by omega), if_neg (by omega), if_neg (by omega)]; omega
                                rw [e]
                                clear e
                                go_enter Tryd.func27, Tryd.ntmps27
                                go_wp2_with (first
                                  | (go_at_call 43; with_reducible refine (in_yes _ _ _ (by omega) (by omega) _).mono ?_; rintro e w1 ⟨rfl, rfl⟩)
                                  | (go_at_call 43; with_reducible refine (in_no _ _ _ (by omega) _).mono ?_; rintro e w1 ⟨rfl, rfl⟩))
                                go_ret
                                exact ⟨by first | rfl | (congr 2), rfl⟩
                              · have e : lowN r = r := by unfold lowN; rw [if_neg (by omega), if_neg (by omega), if_neg (by omega), if_neg (by omega), if_neg (by omega), if_neg (by omega), if_neg (by omega), if_neg (by omega)]
                                rw [e]
                                clear e
                                have d1 : ((r : Int) == 910) = false := by rw [beq_eq_false_iff_ne]; omega
                                have d2 : ((r : Int) == 911) = false := by rw [beq_eq_false_iff_ne]; omega
                                go_enter Tryd.func27, Tryd.ntmps27
                                go_wp2_with (first
                                  | (go_at_call 43; with_reducible refine (in_yes _ _ _ (by omega) (by omega) _).mono ?_; rintro e w1 ⟨rfl, rfl⟩)
                                  | (go_at_call 43; with_reducible refine (in_no _ _ _ (by omega) _).mono ?_; rintro e w1 ⟨rfl, rfl⟩))
                                go_ret
                                exact ⟨by first | rfl | (congr 2), rfl⟩
            · have hp : (r : Int).tmod 2 = 1 := by rw [Int.tmod_eq_emod_of_nonneg (by omega)]; omega
              have hn1 : ¬ r = 376 := by omega
              have hn2 : ¬ r = 902 := by omega
              have hn3 : ¬ r = 908 := by omega
              have hn4 : ¬ r = 910 := by omega
              by_cases h6 : 313 ≤ r ∧ r ≤ 328
              · have e : lowN r = r + 1 := by unfold lowN; rw [if_neg (by omega), if_neg (by omega), if_pos (by omega)]
                rw [e]
                clear e
                go_enter Tryd.func27, Tryd.ntmps27
                go_wp2_with (first
                  | (go_at_call 43; with_reducible refine (in_yes _ _ _ (by omega) (by omega) _).mono ?_; rintro e w1 ⟨rfl, rfl⟩)
                  | (go_at_call 43; with_reducible refine (in_no _ _ _ (by omega) _).mono ?_; rintro e w1 ⟨rfl, rfl⟩))
                go_ret
                exact ⟨by first | rfl | (congr 2), rfl⟩
              · by_cases h7 : 377 ≤ r ∧ r ≤ 382
                · have e : lowN r = r + 1 := by unfold lowN; rw [if_neg (by omega), if_neg (by omega), if_pos (by omega)]
                  rw [e]
                  clear e
                  go_enter Tryd.func27, Tryd.ntmps27
                  go_wp2_with (first
                    | (go_at_call 43; with_reducible refine (in_yes _ _ _ (by omega) (by omega) _).mono ?_; rintro e w1 ⟨rfl, rfl⟩)
                    | (go_at_call 43; with_reducible refine (in_no _ _ _ (by omega) _).mono ?_; rintro e w1 ⟨rfl, rfl⟩))
                  go_ret
                  exact ⟨by first | rfl | (congr 2), rfl⟩
                · by_cases h8 : 904 ≤ r ∧ r ≤ 906
                  · have e : lowN r = r + 37 := by unfold lowN; rw [if_neg (by omega), if_neg (by omega), if_neg (by omega), if_neg (by omega), if_neg (by omega), if_pos (by omega)]
                    rw [e]
                    clear e
                    go_enter Tryd.func27, Tryd.ntmps27
                    go_wp2_with (first
                      | (go_at_call 43; with_reducible refine (in_yes _ _ _ (by omega) (by omega) _).mono ?_; rintro e w1 ⟨rfl, rfl⟩)
                      | (go_at_call 43; with_reducible refine (in_no _ _ _ (by omega) _).mono ?_; rintro e w1 ⟨rfl, rfl⟩))
                    go_ret
                    exact ⟨by first | rfl | (congr 2), rfl⟩
                  · by_cases h9 : r = 911
                    · have e : lowN r = 974 := by unfold lowN; rw [if_neg (by omega), if_neg (by omega), if_neg (by omega), if_neg (by omega), if_neg (by omega), if_neg (by omega), if_neg (by omega), if_pos (by omega)]; omega
                      rw [e]
                      clear e
                      go_enter Tryd.func27, Tryd.ntmps27
                      go_wp2_with (first
                        | (go_at_call 43; with_reducible refine (in_yes _ _ _ (by omega) (by omega) _).mono ?_; rintro e w1 ⟨rfl, rfl⟩)
                        | (go_at_call 43; with_reducible refine (in_no _ _ _ (by omega) _).mono ?_; rintro e w1 ⟨rfl, rfl⟩))
                      go_ret
                      exact ⟨by first | rfl | (congr 2), rfl⟩
                    · by_cases hz : r = 215
                      · have e : lowN r = 215 := by unfold lowN; rw [if_neg (by omega), if_neg (by omega), if_neg (by omega), if_neg (by omega), if_neg (by omega), if_neg (by omega), if_neg (by omega), if_neg (by omega)]; omega
                        rw [e]
                        clear e
                        go_enter Tryd.func27, Tryd.ntmps27
                        go_wp2_with (first
                          | (go_at_call 43; with_reducible refine (in_yes _ _ _ (by omega) (by omega) _).mono ?_; rintro e w1 ⟨rfl, rfl⟩)
                          | (go_at_call 43; with_reducible refine (in_no _ _ _ (by omega) _).mono ?_; rintro e w1 ⟨rfl, rfl⟩))
                        go_ret
                        exact ⟨by first | rfl | (congr 2), rfl⟩
                      · have e : lowN r = r := by unfold lowN; rw [if_neg (by omega), if_neg (by omega), if_neg (by omega), if_neg (by omega), if_neg (by omega), if_neg (by omega), if_neg (by omega), if_neg (by omega)]
                        rw [e]
                        clear e
                        have d1 : ((r : Int) == 910) = false := by rw [beq_eq_false_iff_ne]; omega
                        have d2 : ((r : Int) == 911) = false := by rw [beq_eq_false_iff_ne]; omega
                        go_enter Tryd.func27, Tryd.ntmps27
                        go_wp2_with (first
                          | (go_at_call 43; with_reducible refine (in_yes _ _ _ (by omega) (by omega) _).mono ?_; rintro e w1 ⟨rfl, rfl⟩)
                          | (go_at_call 43; with_reducible refine (in_no _ _ _ (by omega) _).mono ?_; rintro e w1 ⟨rfl, rfl⟩))
                        go_ret
                        exact ⟨by first | rfl | (congr 2), rfl⟩
end Go.Proofs.YtbplbifmohbfdaaDoor
