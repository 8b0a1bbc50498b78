/- DateDays: the law about one day and the next. -/
import Derived.Test.YtnmdljadnlddeaaGreatDoorSmall
namespace Go.Proofs.YtnmdljadnlddeaaGreatDoor
open Go.ChangeShapes Go.WideShapes Go.ChangeAt Go.RowKit
open DateP (mlen num)

set_option maxHeartbeats 4000000 in
set_option maxRecDepth 1000000 in
theorem days_out (n : Int) (h : n < -719162 ∨ 2932896 < n) (w : World) (hv : Vars w) :
    Calls Tryz.prog 4 #[.int .i64 n] w fun e w' => e = .returned (.bool true) ∧ Below w.heap.size w w' := by
  have HS := Lib.hid (small_any w hv)
  have HC := Lib.hid (civ_no n h)
  rcases (show n < -719162 ∨ (¬ n < -719162 ∧ 2932896 < n) by omega) with h | ⟨h, h2⟩
  all_goals
    go_enter Tryz.func4, Tryz.ntmps4
    go_wp2_with (first
      | (go_at_call 7; refine HS.out.mono ?_; rintro e w1 ⟨rfl, hb⟩)
      | (go_at_call 12; refine (HC.out _).mono ?_; rintro e w2 ⟨rfl, rfl⟩))
    go_ret
    exact ⟨rfl, hb⟩
set_option maxHeartbeats 4000000 in
set_option maxRecDepth 1000000 in
theorem days_last (n : Int) (y m d : Nat) (hI : DateP.Is y m d) (hn : num y m d = n) (hl : n = 2932896) (w : World) (hv : Vars w) :
    Calls Tryz.prog 4 #[.int .i64 n] w fun e w' => e = .returned (.bool true) ∧ Below w.heap.size w w' := by
  have HS := Lib.hid (small_any w hv)
  have HC := Lib.hid (civ_yes y m d hI n hn.symm)
  have hD := days_yes y m d hI
  rw [hn] at hD
  have HD := Lib.hid hD
  have HN := Lib.hid (civ_no (n + 1) (by omega))
  have hw1 := week_any (n + 1)
  have hw := week_any n
  have r1 := wkV_range n
  have r2 : wkV (n + 1) = (wkV n + 1) % 7 := by unfold wkV; omega
  obtain ⟨K, hK⟩ : ∃ K : Nat, wkV n = (K : Int) := ⟨(wkV n).toNat, by omega⟩
  obtain ⟨R, hR⟩ : ∃ R : Nat, wkV (n + 1) = (R : Int) := ⟨(wkV (n + 1)).toNat, by omega⟩
  rw [hK] at hw r1 r2
  rw [hR] at hw1 r2
  have W0 := Lib.hid hw
  have W1 := Lib.hid hw1
  have eW : ((R : Int) != ((K : Int) + 1) % 7) = false := by rw [bne_eq_false_iff_eq]; exact r2
  obtain ⟨a1, a2, a3, a4, a5, a6⟩ := hI
  have l31 := (DateP.mlen_pos y m).2
  have d31 : d ≤ 31 := by omega
  have eL : (n == 2932896) = true := beq_iff_eq.2 hl
  have nlo : ¬ n < -719162 := by omega
  have nhi : ¬ 2932896 < n := by omega
  have nb : n ≤ 2932896 := by omega
  clear r2 hw hw1 hD hK hR a6 l31 hn hl
  go_enter Tryz.func4, Tryz.ntmps4
  go_wp2_with (first
    | (go_at_call 7; refine HS.out.mono ?_; rintro e w1 ⟨rfl, hb⟩)
    | (go_at_call 12; with_reducible refine (HC.out _).mono ?_; rintro e w2 ⟨rfl, rfl⟩)
    | (go_at_call 12; with_reducible refine (HN.out _).mono ?_; rintro e w2 ⟨rfl, rfl⟩)
    | (go_at_call 13; with_reducible refine (HD.out _).mono ?_; rintro e w2 ⟨rfl, rfl⟩)
    | (go_at_call 14; with_reducible refine (W1.out _).mono ?_; rintro e w2 ⟨rfl, rfl⟩)
    | (go_at_call 14; with_reducible refine (W0.out _).mono ?_; rintro e w2 ⟨rfl, rfl⟩))
  go_ret
  exact ⟨rfl, hb⟩
set_option maxHeartbeats 4000000 in
set_option maxRecDepth 1000000 in
theorem days_same (n : Int) (y m d a b c : Nat) (hI : DateP.Is y m d) (hn : num y m d = n) (hI' : DateP.Is a b c) (hn' : num a b c = n + 1) (q : a = y ∧ b = m ∧ c = d + 1) (w : World) (hv : Vars w) :
    Calls Tryz.prog 4 #[.int .i64 n] w fun e w' => e = .returned (.bool true) ∧ Below w.heap.size w w' := by
  have nr := DateP.num_range hI
  have nr' := DateP.num_range hI'
  rw [hn] at nr
  rw [hn'] at nr'
  have HS := Lib.hid (small_any w hv)
  have HC := Lib.hid (civ_yes y m d hI n hn.symm)
  have hD := days_yes y m d hI
  rw [hn] at hD
  have HD := Lib.hid hD
  have HN := Lib.hid (civ_yes a b c hI' (n + 1) hn'.symm)
  have hw1 := week_any (n + 1)
  have hw := week_any n
  have r1 := wkV_range n
  have r2 : wkV (n + 1) = (wkV n + 1) % 7 := by unfold wkV; omega
  obtain ⟨K, hK⟩ : ∃ K : Nat, wkV n = (K : Int) := ⟨(wkV n).toNat, by omega⟩
  obtain ⟨R, hR⟩ : ∃ R : Nat, wkV (n + 1) = (R : Int) := ⟨(wkV (n + 1)).toNat, by omega⟩
  rw [hK] at hw r1 r2
  rw [hR] at hw1 r2
  have W0 := Lib.hid hw
  have W1 := Lib.hid hw1
  have eW : ((R : Int) != ((K : Int) + 1) % 7) = false := by rw [bne_eq_false_iff_eq]; exact r2
  have l31 := (DateP.mlen_pos y m)
  obtain ⟨a1, a2, a3, a4, a5, a6⟩ := hI
  have d31 : d ≤ 31 := by omega
  have eL : (n == 2932896) = false := beq_eq_false_iff_ne.2 (by omega)
  have nlo : ¬ n < -719162 := by omega
  have nhi : ¬ 2932896 < n := by omega
  have nb : n ≤ 2932896 := by omega
  have e1 : ((a : Int) == (y : Int)) = true := beq_iff_eq.2 (by omega)
  have e2 : ((b : Int) == (m : Int)) = true := beq_iff_eq.2 (by omega)
  have e3 : ((c : Int) == (d : Int) + 1) = true := beq_iff_eq.2 (by omega)
  have e4 : ((b : Int) == (m : Int) + 1) = false := beq_eq_false_iff_ne.2 (by omega)
  have e6 : ((a : Int) == (y : Int) + 1) = false := beq_eq_false_iff_ne.2 (by omega)
  clear q
  clear r2 hw hw1 hD hK hR a6 l31 hn hn' hI' nr'
  go_enter Tryz.func4, Tryz.ntmps4
  go_wp2_with (first
    | (go_at_call 7; refine HS.out.mono ?_; rintro e w1 ⟨rfl, hb⟩)
    | (go_at_call 12; with_reducible refine (HC.out _).mono ?_; rintro e w2 ⟨rfl, rfl⟩)
    | (go_at_call 12; with_reducible refine (HN.out _).mono ?_; rintro e w2 ⟨rfl, rfl⟩)
    | (go_at_call 13; with_reducible refine (HD.out _).mono ?_; rintro e w2 ⟨rfl, rfl⟩)
    | (go_at_call 14; with_reducible refine (W1.out _).mono ?_; rintro e w2 ⟨rfl, rfl⟩)
    | (go_at_call 14; with_reducible refine (W0.out _).mono ?_; rintro e w2 ⟨rfl, rfl⟩))
  go_ret
  exact ⟨rfl, hb⟩
set_option maxHeartbeats 4000000 in
set_option maxRecDepth 1000000 in
theorem days_month (n : Int) (y m d a b c : Nat) (hI : DateP.Is y m d) (hn : num y m d = n) (hI' : DateP.Is a b c) (hn' : num a b c = n + 1) (q : a = y ∧ b = m + 1 ∧ c = 1) (hd : d = mlen y m) (w : World) (hv : Vars w) :
    Calls Tryz.prog 4 #[.int .i64 n] w fun e w' => e = .returned (.bool true) ∧ Below w.heap.size w w' := by
  have nr := DateP.num_range hI
  have nr' := DateP.num_range hI'
  rw [hn] at nr
  rw [hn'] at nr'
  have HS := Lib.hid (small_any w hv)
  have HC := Lib.hid (civ_yes y m d hI n hn.symm)
  have hD := days_yes y m d hI
  rw [hn] at hD
  have HD := Lib.hid hD
  have HN := Lib.hid (civ_yes a b c hI' (n + 1) hn'.symm)
  have hw1 := week_any (n + 1)
  have hw := week_any n
  have r1 := wkV_range n
  have r2 : wkV (n + 1) = (wkV n + 1) % 7 := by unfold wkV; omega
  obtain ⟨K, hK⟩ : ∃ K : Nat, wkV n = (K : Int) := ⟨(wkV n).toNat, by omega⟩
  obtain ⟨R, hR⟩ : ∃ R : Nat, wkV (n + 1) = (R : Int) := ⟨(wkV (n + 1)).toNat, by omega⟩
  rw [hK] at hw r1 r2
  rw [hR] at hw1 r2
  have W0 := Lib.hid hw
  have W1 := Lib.hid hw1
  have eW : ((R : Int) != ((K : Int) + 1) % 7) = false := by rw [bne_eq_false_iff_eq]; exact r2
  have l31 := (DateP.mlen_pos y m)
  have hO := days_any y m ((d : Int) + 1)
  rw [show daysV y m ((d : Int) + 1) = 0 from if_neg (fun h => by have := h.2.2.2.2.2; simp only [Int.toNat_natCast] at this; omega)] at hO
  have HO := Lib.hid hO
  clear hO
  obtain ⟨a1, a2, a3, a4, a5, a6⟩ := hI
  have d31 : d ≤ 31 := by omega
  have eL : (n == 2932896) = false := beq_eq_false_iff_ne.2 (by omega)
  have nlo : ¬ n < -719162 := by omega
  have nhi : ¬ 2932896 < n := by omega
  have nb : n ≤ 2932896 := by omega
  have d28 : 28 ≤ d := by omega
  have e1 : ((a : Int) == (y : Int)) = true := beq_iff_eq.2 (by omega)
  have e2 : ((b : Int) == (m : Int)) = false := beq_eq_false_iff_ne.2 (by omega)
  have e4 : ((b : Int) == (m : Int) + 1) = true := beq_iff_eq.2 (by omega)
  have e5 : ((c : Int) == 1) = true := beq_iff_eq.2 (by omega)
  have e6 : ((a : Int) == (y : Int) + 1) = false := beq_eq_false_iff_ne.2 (by omega)
  clear q hd
  clear r2 hw hw1 hD hK hR a6 l31 hn hn' hI' nr'
  go_enter Tryz.func4, Tryz.ntmps4
  go_wp2_with (first
    | (go_at_call 7; refine HS.out.mono ?_; rintro e w1 ⟨rfl, hb⟩)
    | (go_at_call 12; with_reducible refine (HC.out _).mono ?_; rintro e w2 ⟨rfl, rfl⟩)
    | (go_at_call 12; with_reducible refine (HN.out _).mono ?_; rintro e w2 ⟨rfl, rfl⟩)
    | (go_at_call 13; with_reducible refine (HD.out _).mono ?_; rintro e w2 ⟨rfl, rfl⟩)
    | (go_at_call 13; with_reducible refine (HO.out _).mono ?_; rintro e w2 ⟨rfl, rfl⟩)
    | (go_at_call 14; with_reducible refine (W1.out _).mono ?_; rintro e w2 ⟨rfl, rfl⟩)
    | (go_at_call 14; with_reducible refine (W0.out _).mono ?_; rintro e w2 ⟨rfl, rfl⟩))
  go_ret
  exact ⟨rfl, hb⟩
set_option maxHeartbeats 4000000 in
set_option maxRecDepth 1000000 in
theorem days_year (n : Int) (y m d a b c : Nat) (hI : DateP.Is y m d) (hn : num y m d = n) (hI' : DateP.Is a b c) (hn' : num a b c = n + 1) (q : a = y + 1 ∧ m = 12 ∧ b = 1 ∧ c = 1) (hd : d = mlen y m) (w : World) (hv : Vars w) :
    Calls Tryz.prog 4 #[.int .i64 n] w fun e w' => e = .returned (.bool true) ∧ Below w.heap.size w w' := by
  have nr := DateP.num_range hI
  have nr' := DateP.num_range hI'
  rw [hn] at nr
  rw [hn'] at nr'
  have HS := Lib.hid (small_any w hv)
  have HC := Lib.hid (civ_yes y m d hI n hn.symm)
  have hD := days_yes y m d hI
  rw [hn] at hD
  have HD := Lib.hid hD
  have HN := Lib.hid (civ_yes a b c hI' (n + 1) hn'.symm)
  have hw1 := week_any (n + 1)
  have hw := week_any n
  have r1 := wkV_range n
  have r2 : wkV (n + 1) = (wkV n + 1) % 7 := by unfold wkV; omega
  obtain ⟨K, hK⟩ : ∃ K : Nat, wkV n = (K : Int) := ⟨(wkV n).toNat, by omega⟩
  obtain ⟨R, hR⟩ : ∃ R : Nat, wkV (n + 1) = (R : Int) := ⟨(wkV (n + 1)).toNat, by omega⟩
  rw [hK] at hw r1 r2
  rw [hR] at hw1 r2
  have W0 := Lib.hid hw
  have W1 := Lib.hid hw1
  have eW : ((R : Int) != ((K : Int) + 1) % 7) = false := by rw [bne_eq_false_iff_eq]; exact r2
  have l31 := (DateP.mlen_pos y m)
  have hO := days_any y m ((d : Int) + 1)
  rw [show daysV y m ((d : Int) + 1) = 0 from if_neg (fun h => by have := h.2.2.2.2.2; simp only [Int.toNat_natCast] at this; omega)] at hO
  have HO := Lib.hid hO
  clear hO
  obtain ⟨a1, a2, a3, a4, a5, a6⟩ := hI
  have d31 : d ≤ 31 := by omega
  have eL : (n == 2932896) = false := beq_eq_false_iff_ne.2 (by omega)
  have nlo : ¬ n < -719162 := by omega
  have nhi : ¬ 2932896 < n := by omega
  have nb : n ≤ 2932896 := by omega
  have d28 : 28 ≤ d := by omega
  have e1 : ((a : Int) == (y : Int)) = false := beq_eq_false_iff_ne.2 (by omega)
  have e6 : ((a : Int) == (y : Int) + 1) = true := beq_iff_eq.2 (by omega)
  have e7 : ((m : Int) == 12) = true := beq_iff_eq.2 (by omega)
  have e8 : ((b : Int) == 1) = true := beq_iff_eq.2 (by omega)
  have e5 : ((c : Int) == 1) = true := beq_iff_eq.2 (by omega)
  clear q hd
  clear r2 hw hw1 hD hK hR a6 l31 hn hn' hI' nr'
  go_enter Tryz.func4, Tryz.ntmps4
  go_wp2_with (first
    | (go_at_call 7; refine HS.out.mono ?_; rintro e w1 ⟨rfl, hb⟩)
    | (go_at_call 12; with_reducible refine (HC.out _).mono ?_; rintro e w2 ⟨rfl, rfl⟩)
    | (go_at_call 12; with_reducible refine (HN.out _).mono ?_; rintro e w2 ⟨rfl, rfl⟩)
    | (go_at_call 13; with_reducible refine (HD.out _).mono ?_; rintro e w2 ⟨rfl, rfl⟩)
    | (go_at_call 13; with_reducible refine (HO.out _).mono ?_; rintro e w2 ⟨rfl, rfl⟩)
    | (go_at_call 14; with_reducible refine (W1.out _).mono ?_; rintro e w2 ⟨rfl, rfl⟩)
    | (go_at_call 14; with_reducible refine (W0.out _).mono ?_; rintro e w2 ⟨rfl, rfl⟩))
  go_ret
  exact ⟨rfl, hb⟩
theorem days_law (n : Int) (w : World) (hv : Vars w) :
    Calls Tryz.prog 4 #[.int .i64 n] w fun e w' => e = .returned (.bool true) ∧ Below w.heap.size w w' := by
  by_cases h : n < -719162 ∨ 2932896 < n
  · exact days_out n h w hv
  · obtain ⟨y, m, d, hI, hn⟩ := DateP.some_date n (by omega) (by omega)
    by_cases hl : n = 2932896
    · exact days_last n y m d hI hn hl w hv
    · obtain ⟨a, b, c, hI', hn'⟩ := DateP.some_date (n + 1) (by omega) (by omega)
      rcases DateP.after hI hI' (by rw [hn, hn']) with q | ⟨q | q, hd⟩
      · exact days_same n y m d a b c hI hn hI' hn' q w hv
      · exact days_month n y m d a b c hI hn hI' hn' q hd w hv
      · exact days_year n y m d a b c hI hn hI' hn' q hd w hv
end Go.Proofs.YtnmdljadnlddeaaGreatDoor
