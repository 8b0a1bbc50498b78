/- The lines of a string, of no program: a loop over indices that cuts at each LF and at the end. -/
import Derived.Test.YtocghngmjipjoaaDoorLinesPure
namespace Go.Proofs.YtocghngmjipjoaaDoor.HdrP
open LinesP

theorem one_term {u x : List UInt8} (hu : 10 ∉ u) (hx : Term x) : doneL (u ++ x) = [u ++ x] ∧ restL (u ++ x) = [] := by
  obtain ⟨m, rfl, hm⟩ := hx
  have e : splitL (u ++ (m ++ [10])) = [u ++ (m ++ [10])] := by
    rw [← List.append_assoc, split_term (u ++ m) [] (by simp; exact ⟨hu, hm⟩)]; rfl
  have he : ends (u ++ (m ++ [10])) = true := ends_term ⟨u ++ m, by simp, by simp; exact ⟨hu, hm⟩⟩
  unfold doneL restL
  rw [e]
  simp [he]
theorem one_tail {u x : List UInt8} (hu : 10 ∉ u) (hx : Tail x) : doneL (u ++ x) = [] ∧ restL (u ++ x) = u ++ x := by
  have ht : Tail (u ++ x) := ⟨by simp [hx.1], by simp; exact ⟨hu, hx.2⟩⟩
  have he : ends (u ++ x) = false := ends_tail ht
  unfold doneL restL
  rw [split_tail ht]
  simp [he]
theorem lf_step (s : List UInt8) : doneL (s ++ [10]) = doneL s ++ [restL s ++ [10]] ∧ restL (s ++ [10]) = [] := by
  obtain ⟨h1, h2⟩ := one_term (rest_no s) (x := [10]) ⟨[], rfl, by simp⟩
  exact ⟨by rw [done_more, h1], by rw [rest_more, h2]⟩
theorem no_step (s : List UInt8) (c : UInt8) (hc : c ≠ 10) : doneL (s ++ [c]) = doneL s ∧ restL (s ++ [c]) = restL s ++ [c] := by
  obtain ⟨h1, h2⟩ := one_tail (rest_no s) (x := [c]) ⟨by simp, by simp; exact fun e => hc e.symm⟩
  exact ⟨by rw [done_more, h1, List.append_nil], by rw [rest_more, h2]⟩
def begN (s : List UInt8) : Nat := (doneL s).flatten.length
theorem beg_le (s : List UInt8) : begN s + (restL s).length = s.length := by
  have := congrArg List.length (done_rest s)
  rw [List.length_append] at this
  exact this
theorem beg_drop (s t : List UInt8) : (s ++ t).drop (begN s) = restL s ++ t := by
  have h := done_rest s
  have e : s ++ t = (doneL s).flatten ++ (restL s ++ t) := by rw [← List.append_assoc, h]
  unfold begN
  conv => lhs; rw [e]
  exact List.drop_left
theorem split_parts' (s : List UInt8) : splitL s = if restL s = [] then doneL s else doneL s ++ [restL s] := by
  have h := (good_parts (split_good s)).2.1
  by_cases hr : restL s = []
  · rw [if_pos hr]
    have : restL s = ((splitL s).filter fun l => !ends l).flatten := rfl
    rw [this] at hr
    rw [hr] at h
    rw [h]
    show _ = (splitL s).filter ends
    simp [splitL]
  · rw [if_neg hr]
    have ht : Tail (restL s) := ⟨hr, rest_no s⟩
    have : restL s = ((splitL s).filter fun l => !ends l).flatten := rfl
    rw [← this, split_tail ht] at h
    exact h
/-- The lines found before index k, and where the next begins. -/
def outN (s : List UInt8) (k : Nat) : List (List UInt8) := if k = s.length then splitL s else doneL (s.take k)
def frN (s : List UInt8) (k : Nat) : Nat := if k = s.length then s.length else begN (s.take k)
theorem out_zero (s : List UInt8) : outN s 0 = [] ∧ frN s 0 = 0 := by
  unfold outN frN
  by_cases h : 0 = s.length
  · rw [if_pos h, if_pos h, ← h]
    obtain rfl : s = [] := List.eq_nil_of_length_eq_zero h.symm
    exact ⟨rfl, rfl⟩
  · rw [if_neg h, if_neg h]
    exact ⟨rfl, rfl⟩
theorem out_end (s : List UInt8) : outN s s.length = splitL s := if_pos rfl
theorem fr_le (s : List UInt8) (k : Nat) (h : k ≤ s.length) : frN s k ≤ k := by
  unfold frN
  split
  · omega
  · have := beg_le (s.take k)
    rw [List.length_take] at this
    omega
/-- What lies from there through index k. -/
theorem fr_piece (s : List UInt8) (k : Nat) (c : UInt8) (h : s[k]? = some c) : (s.drop (frN s k)).take (k + 1 - frN s k) = restL (s.take k) ++ [c] := by
  have hk : k < s.length := (List.getElem?_eq_some_iff.1 h).1
  have hb := beg_le (s.take k)
  rw [List.length_take] at hb
  have e : s.take (k + 1) = s.take k ++ [c] := by rw [List.take_add_one, h]; rfl
  have e2 : s = s.take k ++ ([c] ++ s.drop (k + 1)) := by rw [← List.append_assoc, ← e, List.take_append_drop]
  unfold frN
  rw [if_neg (by omega)]
  conv => lhs; rw [e2]
  rw [List.take_append_of_le_length (by rw [List.length_take]; omega), List.take_take, Nat.min_self, beg_drop, ← List.append_assoc, List.take_append_of_le_length (by rw [List.length_append, List.length_singleton]; omega), List.take_of_length_le (by rw [List.length_append, List.length_singleton]; omega)]
theorem out_step (s : List UInt8) (k : Nat) (c : UInt8) (h : s[k]? = some c) (hc : c = 10 ∨ k + 1 = s.length) : outN s (k + 1) = outN s k ++ [restL (s.take k) ++ [c]] ∧ frN s (k + 1) = k + 1 := by
  have hk : k < s.length := (List.getElem?_eq_some_iff.1 h).1
  have e : s.take (k + 1) = s.take k ++ [c] := by rw [List.take_add_one, h]; rfl
  unfold outN frN
  rw [if_neg (show ¬ k = s.length by omega)]
  by_cases h10 : c = 10
  · subst h10
    obtain ⟨p1, p2⟩ := lf_step (s.take k)
    rw [← e] at p1 p2
    by_cases hl : k + 1 = s.length
    · rw [if_pos hl, if_pos hl]
      have : s.take (k + 1) = s := List.take_of_length_le (by omega)
      rw [this] at p1 p2
      exact ⟨by rw [split_parts', if_pos p2, p1], hl.symm⟩
    · rw [if_neg hl, if_neg hl]
      refine ⟨p1, ?_⟩
      have := beg_le (s.take (k + 1))
      rw [p2, List.length_take] at this
      simp at this
      omega
  · have hl : k + 1 = s.length := hc.resolve_left h10
    obtain ⟨p1, p2⟩ := no_step (s.take k) c h10
    rw [← e] at p1 p2
    have : s.take (k + 1) = s := List.take_of_length_le (by omega)
    rw [this] at p1 p2
    rw [if_pos hl, if_pos hl]
    exact ⟨by rw [split_parts', if_neg (by rw [p2]; simp), p1, p2], hl.symm⟩
theorem out_same (s : List UInt8) (k : Nat) (c : UInt8) (h : s[k]? = some c) (hc : c ≠ 10) (hl : k + 1 ≠ s.length) : outN s (k + 1) = outN s k ∧ frN s (k + 1) = frN s k := by
  have hk : k < s.length := (List.getElem?_eq_some_iff.1 h).1
  have e : s.take (k + 1) = s.take k ++ [c] := by rw [List.take_add_one, h]; rfl
  obtain ⟨p1, _⟩ := no_step (s.take k) c hc
  rw [← e] at p1
  unfold outN frN begN
  rw [if_neg hl, if_neg hl, if_neg (by omega), if_neg (by omega), p1]
  exact ⟨rfl, rfl⟩
theorem out_len (s : List UInt8) (k : Nat) (h : k ≤ s.length) : (outN s k).length ≤ k := by
  have key : ∀ l : List (List UInt8), Good l → l.length ≤ l.flatten.length := by
    intro l hG
    induction hG with
    | nil => exact Nat.le_refl _
    | last h => have := List.length_pos_iff.2 h.1; simp only [List.length_singleton, List.flatten_cons, List.flatten_nil, List.append_nil]; omega
    | cons h _ ih =>
      obtain ⟨m, rfl, _⟩ := h
      rw [List.length_cons, List.flatten_cons, List.length_append, List.length_append, List.length_singleton]; omega
  unfold outN
  split
  · have := key _ (split_good s)
    rw [split_flat] at this
    omega
  · have h1 := List.length_filter_le ends (splitL (s.take k))
    have h2 := key _ (split_good (s.take k))
    rw [split_flat, List.length_take] at h2
    unfold doneL
    omega
end Go.Proofs.YtocghngmjipjoaaDoor.HdrP
