/- few: at most 30 chunks with at most 3,000 bytes. -/
import Derived.Test.YtpoimbhfggkiiaaRefB
namespace Go.Proofs.Ytpoimbhfggkiiaa
open Go.ChangeShapes Go.WideShapes Go.ChangeAt Go.RowKit
open LinesP

def sumN (xs : List (List UInt8)) : Nat := (xs.map List.length).sum
def fewP (xs : List (List UInt8)) : Bool := decide (xs.length ≤ 30) && decide (sumN (xs.take 40) ≤ 3000)
theorem sum_snoc (xs : List (List UInt8)) (j : Nat) (x : List UInt8) (h : xs[j]? = some x) : sumN (xs.take (j + 1)) = sumN (xs.take j) + x.length := by
  unfold sumN
  rw [List.take_add_one, h]; simp
theorem sum_le (xs : List (List UInt8)) (hx : ∀ x ∈ xs, x.length ≤ 140737488355328) : ∀ j, sumN (xs.take j) ≤ j * 140737488355328
  | 0 => by simp [sumN]
  | j + 1 => by
    have ih := sum_le xs hx j
    cases h : xs[j]? with
    | none =>
      rw [List.take_add_one, h]
      simp only [Option.toList_none, List.append_nil]
      exact Nat.le_trans ih (Nat.mul_le_mul_right _ (Nat.le_succ j))
    | some x =>
      rw [sum_snoc xs j x h]
      have := hx x (List.mem_of_getElem? h)
      rw [Nat.succ_mul]
      exact Nat.add_le_add ih this
theorem few_flat (xs : List (List UInt8)) (h : fewP xs = true) : xs.length ≤ 30 ∧ xs.flatten.length ≤ 3000 := by
  unfold fewP at h
  simp only [Bool.and_eq_true, decide_eq_true_eq] at h
  refine ⟨h.1, ?_⟩
  have h2 := h.2
  rw [List.take_of_length_le (by omega)] at h2
  unfold sumN at h2
  rw [List.length_flatten]
  exact h2
theorem Has.slice {A : Type} {E : A → Value} {w : World} {v : Value} {xs : List A} (h : Has E w v xs) : ∃ a c, v = .slice a xs.length c := by
  rcases h with ⟨rfl, rfl⟩ | ⟨a, c, rfl, _⟩
  · exact ⟨none, 0, rfl⟩
  · exact ⟨some a, c, rfl⟩
theorem Has.at {A : Type} {E : A → Value} {w : World} {ao : Option Addr} {n c : Nat} {xs : List A} (h : Has E w (.slice ao n c) xs) (hn : 0 < xs.length) : ∃ a, ao = some a ∧ ∀ j (x : A), xs[j]? = some x → w.cell? (a.add j) = some (E x) := by
  rcases h with ⟨_, rfl⟩ | ⟨a, c, e, h2⟩
  · simp at hn
  · injection e with e1 _ _
    refine ⟨a, e1, fun j x hx => ?_⟩
    obtain ⟨hj, hx2⟩ := List.getElem?_eq_some_iff.1 hx
    rw [h2 j hj, hx2]
set_option maxRecDepth 100000 in
set_option maxHeartbeats 4000000 in
theorem few_any {v : Value} {xs : List (List UInt8)} {w : World} (h : Has strV w v xs) (hl : xs.length ≤ 140737488355328) (hx : ∀ x ∈ xs, x.length ≤ 140737488355328) :
    Calls Try.prog 21 #[v] w fun e w' => e = .returned (.bool (fewP xs)) ∧ w = w' := by
  obtain ⟨ao, c, rfl⟩ := h.slice
  obtain ⟨N, hN⟩ : ∃ N, xs.length = N := ⟨_, rfl⟩
  have H := Lib.hid h
  have HX := Lib.hid hx
  have HN := Lib.hid hN
  rw [hN] at hl H ⊢
  clear h hx hN
  go_enter Try.func21, Try.ntmps21
  go_wp2_with fail
  go_loop [3, 4] (fun o i => ∃ j : Nat, j ≤ N ∧ j ≤ 40 ∧ i = .int .i64 j ∧ o = .int .i64 (sumN (xs.take j) : Int)) (fun _ i => 40 - (intOf i).toNat)
  case atStart => exact ⟨0, Nat.zero_le _, Nat.zero_le _, rfl, rfl⟩
  case round =>
    obtain ⟨j, hj, hj40, rfl, rfl⟩ := hrel
    have hsl : sumN (xs.take j) ≤ 5629499534213120 := Nat.le_trans (sum_le xs HX.out j) (Nat.mul_le_mul_right 140737488355328 hj40)
    by_cases hlt : j < N ∧ j < 40
    · obtain ⟨hlt1, hlt2⟩ := hlt
      obtain ⟨a, rfl, hc⟩ := H.out.at (by rw [HN.out]; omega)
      obtain ⟨x, hxj⟩ : ∃ x, xs[j]? = some x := ⟨_, List.getElem?_eq_getElem (by rw [HN.out]; exact hlt1)⟩
      have hk := hc j x hxj
      have hxl := HX.out x (List.mem_of_getElem? hxj)
      have hsn := sum_snoc xs j x hxj
      obtain ⟨A, hA⟩ : ∃ A, strL x = A := ⟨_, rfl⟩
      have sA : A.size = x.length := by rw [← hA, strL_size]
      have hk' : w.cell? (a.add j) = some (.string A) := by rw [hk, ← hA]; rfl
      have hAz : A.size ≤ 140737488355328 := by omega
      have HSN : Hid (sumN (xs.take (j + 1)) = sumN (xs.take j) + A.size) := by show _ = _; rw [hsn, sA]
      have i1 : (j : Int) < (N : Int) := by omega
      have i2 : (j : Int) < 40 := by omega
      generalize sumN (xs.take j) = q at HSN hsl ⊢
      have F1 : IntKind.i64.wrap ((q : Int) + (A.size : Int)) = (q : Int) + (A.size : Int) := by rw [IntKind.wrap_i64]; omega
      clear hA sA hsn hk hc hxl hxj
      go_wp2_with fail
      go_round
      case rel => exact ⟨j + 1, by omega, by omega, by go_num, by rw [HSN.out]; go_num⟩
      case measure => simp [intOf]; omega
    · have hfin : sumN (xs.take j) = sumN (xs.take 40) := by
        by_cases h40 : j = 40
        · rw [h40]
        · have hjN : j = N := by omega
          rw [List.take_of_length_le (by rw [HN.out]; omega), List.take_of_length_le (by rw [HN.out]; omega)]
      have hres : fewP xs = (decide (N ≤ 30) && decide (sumN (xs.take 40) ≤ 3000)) := by unfold fewP; rw [HN.out]
      rw [hfin]
      have HR := Lib.hid hres
      generalize sumN (xs.take 40) = q at HR ⊢
      clear hres hfin hsl
      by_cases hjN : j = N
      · subst hjN
        by_cases h30 : j ≤ 30
        · have i30 : (j : Int) ≤ 30 := by omega
          by_cases hq : q ≤ 3000
          · have iq : (q : Int) ≤ 3000 := by omega
            go_wp2_with fail
            go_ret
            rw [HR.out, decide_eq_true h30, decide_eq_true hq]
            exact ⟨rfl, rfl⟩
          · have iq : ¬ (q : Int) ≤ 3000 := by omega
            go_wp2_with fail
            go_ret
            rw [HR.out, decide_eq_true h30, decide_eq_false hq]
            exact ⟨rfl, rfl⟩
        · have i30 : ¬ (j : Int) ≤ 30 := by omega
          go_wp2_with fail
          go_ret
          rw [HR.out, decide_eq_false h30]
          exact ⟨rfl, rfl⟩
      · obtain rfl : j = 40 := by omega
        have iN : (40 : Int) < (N : Int) := by omega
        have i30 : ¬ (N : Int) ≤ 30 := by omega
        have h30 : ¬ N ≤ 30 := by omega
        go_wp2_with fail
        go_ret
        rw [HR.out, decide_eq_false h30]
        exact ⟨rfl, rfl⟩
end Go.Proofs.Ytpoimbhfggkiiaa
