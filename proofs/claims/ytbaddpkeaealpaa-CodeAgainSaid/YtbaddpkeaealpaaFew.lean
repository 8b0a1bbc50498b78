/- The law's limit on a list of strings; the lengths of encodings. -/
import Derived.Test.YtbaddpkeaealpaaSmall
namespace Go.Proofs.Ytbaddpkeaealpaa
open Go.ChangeShapes Go.WideShapes Go.ChangeAt Go.RowKit

def sumTo (xs : List (List UInt8)) (k : Nat) : Nat := ((xs.take k).map List.length).sum
def fewP (xs : List (List UInt8)) : Bool := decide (xs.length ≤ 100) && decide (sumTo xs 200 ≤ 10000)
theorem sumTo_succ (xs : List (List UInt8)) (k : Nat) (h : k < xs.length) : sumTo xs (k + 1) = sumTo xs k + xs[k].length := by
  unfold sumTo
  rw [List.take_succ_eq_append_getElem h, List.map_append, List.sum_append]; simp
theorem sumTo_le (xs : List (List UInt8)) (hb : ∀ x ∈ xs, x.length ≤ 140737488355328) (k : Nat) : sumTo xs k ≤ k * 140737488355328 := by
  induction k with
  | zero => simp [sumTo]
  | succ k ih =>
    by_cases h : k < xs.length
    · rw [sumTo_succ xs k h]
      have := hb xs[k] (List.getElem_mem h)
      omega
    · have e1 : xs.take k = xs := List.take_of_length_le (by omega)
      have e2 : xs.take (k + 1) = xs := List.take_of_length_le (by omega)
      unfold sumTo at ih ⊢
      rw [e1] at ih
      rw [e2]
      exact Nat.le_trans ih (Nat.mul_le_mul_right _ (Nat.le_succ k))
theorem sumTo_all (xs : List (List UInt8)) (k : Nat) (h : xs.length ≤ k) : sumTo xs k = (xs.map List.length).sum := by
  unfold sumTo
  rw [List.take_of_length_le h]
theorem few_nil (w : World) : Calls Try.prog 10 #[.slice none 0 0] w fun e w' => e = .returned (.bool (fewP [])) ∧ w = w' := by
  go_enter Try.func10, Try.ntmps10
  go_wp2_with fail
  go_loop [3, 4] (fun n i => n = .int .i64 0 ∧ i = .int .i64 0) (fun _ _ => 0)
  case atStart => exact ⟨rfl, rfl⟩
  case round =>
    obtain ⟨rfl, rfl⟩ := hrel
    go_wp2_with fail
    go_ret
    exact ⟨rfl, rfl⟩
set_option maxRecDepth 100000 in
theorem few_some (a : Addr) (c : Nat) (xs : List (List UInt8)) (w : World) (h2 : ∀ j (h : j < xs.length), w.cell? (a.add j) = some (strV xs[j])) (hb : ∀ x ∈ xs, x.length ≤ 140737488355328) (hl : xs.length ≤ 140737488355328) :
    Calls Try.prog 10 #[.slice (some a) xs.length c] w fun e w' => e = .returned (.bool (fewP xs)) ∧ w = w' := by
  have H2 := Lib.hid h2
  have HB := Lib.hid hb
  clear h2 hb
  go_enter Try.func10, Try.ntmps10
  go_wp2_with fail
  go_loop [3, 4] (fun n i => ∃ k x : Nat, k ≤ xs.length ∧ k ≤ 200 ∧ i = .int .i64 k ∧ n = .int .i64 x ∧ Hid (x = sumTo xs k))
    (fun _ i => 200 - (intOf i).toNat)
  case atStart => exact ⟨0, 0, Nat.zero_le _, Nat.zero_le _, rfl, rfl, by show _ = _; simp [sumTo]⟩
  case round =>
    obtain ⟨k, x, hk, hk2, rfl, rfl, hx⟩ := hrel
    have hxb : x ≤ 28147497671065600 := by
      have := sumTo_le xs HB.out k
      rw [← hx.out] at this
      omega
    by_cases h1 : k < xs.length
    · by_cases h200 : k < 200
      · have hcell := H2.out k h1
        unfold strV at hcell
        have hkl := HB.out xs[k] (List.getElem_mem h1)
        go_wp2_with fail
        go_round
        case rel => exact ⟨k + 1, x + xs[k].length, by omega, by omega, by go_num, by go_num, by show _ = _; rw [sumTo_succ xs k h1, hx.out]⟩
        case measure => simp [intOf]; omega
      · have h100 : ¬ xs.length ≤ 100 := by omega
        have HP : Hid (fewP xs = false) := by show _ = _; simp [fewP, h100]
        clear h100
        go_wp2_with fail
        go_ret
        rw [HP.out]
        exact ⟨rfl, rfl⟩
    · have hsum : sumTo xs 200 = x := by
        rw [hx.out, sumTo_all xs 200 (by omega), sumTo_all xs k (by omega)]
      by_cases h100 : xs.length ≤ 100
      · by_cases h10 : x ≤ 10000
        · have HP : Hid (fewP xs = true) := by show _ = _; simp [fewP, h100, hsum, h10]
          have h10' : (x : Int) ≤ 10000 := by omega
          clear hsum
          go_wp2_with fail
          go_ret
          rw [HP.out]
          exact ⟨rfl, rfl⟩
        · have HP : Hid (fewP xs = false) := by show _ = _; simp [fewP, hsum, h10]
          have h10' : ¬ (x : Int) ≤ 10000 := by omega
          clear hsum
          go_wp2_with fail
          go_ret
          rw [HP.out]
          exact ⟨rfl, rfl⟩
      · have HP : Hid (fewP xs = false) := by show _ = _; simp [fewP, h100]
        clear hsum
        go_wp2_with fail
        go_ret
        rw [HP.out]
        exact ⟨rfl, rfl⟩
theorem few_any {v : Value} {xs : List (List UInt8)} {w : World} (h : Has strV w v xs) (hb : ∀ x ∈ xs, x.length ≤ 140737488355328) (hl : xs.length ≤ 140737488355328) :
    Calls Try.prog 10 #[v] w fun e w' => e = .returned (.bool (fewP xs)) ∧ w = w' := by
  rcases h with ⟨rfl, rfl⟩ | ⟨a, c, rfl, h2⟩
  · exact few_nil w
  · exact few_some a c xs w h2 hb hl
theorem listL_len (xs : List (List UInt8)) (hb : ∀ x ∈ xs, x.length ≤ 140737488355328) (hl : xs.length ≤ 140737488355328) : (listL xs).length ≤ 9 + 9 * xs.length + (xs.map List.length).sum := by
  have h1 := varL_nine (n := xs.length) (by omega)
  rw [listL, List.length_append]
  have h2 : ∀ l : List (List UInt8), (∀ x ∈ l, x.length ≤ 140737488355328) → (l.flatMap textL).length ≤ 9 * l.length + (l.map List.length).sum := by
    intro l
    induction l with
    | nil => intro _; simp
    | cons x l ih =>
      intro hx
      have h3 := ih (fun y hy => hx y (List.mem_cons_of_mem _ hy))
      have h4 := varL_nine (n := x.length) (by have := hx x (List.mem_cons_self); omega)
      rw [List.flatMap_cons, List.length_append, textL, List.length_append, List.map_cons, List.sum_cons, List.length_cons]
      omega
  have := h2 xs hb
  omega
theorem numsL_len (xs : List Int) (hb : ∀ x ∈ xs, x ≤ 9223372036854775807) (hl : xs.length ≤ 140737488355328) : (numsL xs).length ≤ 9 + 9 * xs.length := by
  have h1 := varL_nine (n := xs.length) (by omega)
  rw [numsL, List.length_append]
  have h2 : ∀ l : List Int, (∀ x ∈ l, x ≤ 9223372036854775807) → (l.flatMap varI).length ≤ 9 * l.length := by
    intro l
    induction l with
    | nil => intro _; simp
    | cons x l ih =>
      intro hx
      have h3 := ih (fun y hy => hx y (List.mem_cons_of_mem _ hy))
      have h4 : (varI x).length ≤ 9 := by
        unfold varI
        split
        · simp
        · exact varL_nine (by have := hx x (List.mem_cons_self); omega)
      rw [List.flatMap_cons, List.length_append, List.length_cons]
      omega
  have := h2 xs hb
  omega
theorem few_len {xs : List (List UInt8)} (h : fewP xs = true) : xs.length ≤ 100 ∧ (xs.map List.length).sum ≤ 10000 := by
  unfold fewP at h
  simp only [Bool.and_eq_true, decide_eq_true_eq] at h
  rw [sumTo_all xs 200 (by omega)] at h
  exact h
end Go.Proofs.Ytbaddpkeaealpaa
