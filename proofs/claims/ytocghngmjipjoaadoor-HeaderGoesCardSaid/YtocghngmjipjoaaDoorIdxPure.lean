/- Header fields, of no program: what loops over indices hold at each index. -/
import Derived.Test.YtocghngmjipjoaaDoorFoldPure
namespace Go.Proofs.YtocghngmjipjoaaDoor.HdrP
open LinesP

/-! Parse, line by line. -/
theorem begun_full {x : List UInt8} (h : Term x ∨ Tail x) (hb : begun x = true) : full x = true := by
  by_cases hf : full x = true
  · exact hf
  · rcases not_full h (by simpa using hf) with rfl | rfl <;> exact absurd hb (by decide)
/-- Before line i: what has been read, and that no continuation line comes next. -/
structure At (ls : List (List UInt8)) (i : Nat) : Prop where
  le : i ≤ ls.length
  all : ∀ x ∈ ls.take i, full x = true
  stop : i = 0 ∨ Stop (ls.drop i)
theorem At.zero (ls : List (List UInt8)) : At ls 0 := ⟨Nat.zero_le _, by simp, .inl rfl⟩
theorem take_mid {α : Type} (ls : List α) (i k : Nat) (h : i ≤ k) : ls.take k = ls.take i ++ (ls.drop i).take (k - i) := by
  have := List.take_add (l := ls) (i := i) (j := k - i)
  rwa [show i + (k - i) = k by omega] at this
/-- The continuation lines from i + 1 to k. -/
def contL (ls : List (List UInt8)) (i k : Nat) : List (List UInt8) := (ls.drop (i + 1)).take (k - (i + 1))
theorem cont_start (ls : List (List UInt8)) (i : Nat) : contL ls i (i + 1) = [] := by
  unfold contL; rw [Nat.sub_self, List.take_zero]
theorem cont_more (ls : List (List UInt8)) (i k : Nat) (x : List UInt8) (hk : i + 1 ≤ k) (h : ls[k]? = some x) : contL ls i (k + 1) = contL ls i k ++ [x] := by
  unfold contL
  rw [show k + 1 - (i + 1) = (k - (i + 1)) + 1 by omega, List.take_add_one, List.getElem?_drop, show i + 1 + (k - (i + 1)) = k by omega, h]; rfl
theorem At.step {ls : List (List UInt8)} {i k : Nat} {l : List UInt8} (hG : Good ls) (h : At ls i) (hl : ls[i]? = some l) (hf : full l = true) (hik : i + 1 ≤ k) (hkn : k ≤ ls.length) (hc : ∀ x ∈ contL ls i k, begun x = true) (he : ∀ x, ls[k]? = some x → begun x = false) :
    At ls k ∧ groups (ls.take k) = groups (ls.take i) ++ [fieldL l (contL ls i k).flatten] ∧ (ls.take k).flatten.length = (ls.take i).flatten.length + l.length + (contL ls i k).flatten.length := by
  have hi : i < ls.length := (List.getElem?_eq_some_iff.1 hl).1
  have e0 : (ls.drop i).take (k - i) = l :: contL ls i k := by
    have hd : ls.drop i = l :: ls.drop (i + 1) := by
      have hg := (List.getElem?_eq_some_iff.1 hl).2
      rw [List.drop_eq_getElem_cons hi, hg]
    unfold contL
    rw [hd, show k - i = (k - (i + 1)) + 1 by omega, List.take_succ_cons]
  have e1 : ls.take k = ls.take i ++ (l :: contL ls i k) := by rw [take_mid ls i k (by omega), e0]
  refine ⟨⟨hkn, ?_, .inr ?_⟩, ?_, ?_⟩
  · intro x hx
    rw [e1] at hx
    rcases List.mem_append.1 hx with hx | hx
    · exact h.all x hx
    · rcases List.mem_cons.1 hx with rfl | hx
      · exact hf
      · have hm : x ∈ ls := by
          unfold contL at hx
          exact List.mem_of_mem_drop (List.mem_of_mem_take hx)
        exact begun_full (good_mem hG x hm) (hc x hx)
  · intro x hx
    rw [List.head?_drop] at hx
    exact he x hx
  · rw [e1]
    rcases h.stop with rfl | hs
    · simp only [List.take_zero, List.nil_append]
      exact groups_one hc
    · rw [groups_append (a := ls.take i) (b := l :: contL ls i k) ?_, groups_one hc]
      intro y hy
      refine hs y ?_
      rw [List.head?_drop, hl]
      exact hy
  · rw [e1, List.flatten_append, List.flatten_cons, List.length_append, List.length_append]; omega
/-- At an empty line. -/
theorem At.empty {ls : List (List UInt8)} {i : Nat} {l : List UInt8} (h : At ls i) (hl : ls[i]? = some l) (hf : full l = false) : hdrL ls = ls.take i ∧ (ls.dropWhile full).head?.getD [] = l := by
  have hi : i < ls.length := (List.getElem?_eq_some_iff.1 hl).1
  have hd : ls.drop i = l :: ls.drop (i + 1) := by
    have hg := (List.getElem?_eq_some_iff.1 hl).2
    rw [List.drop_eq_getElem_cons hi, hg]
  have k := hdr_all h.all (ls.drop i)
  rw [List.take_append_drop, hd] at k
  have hn : ¬ full l = true := by rw [hf]; exact Bool.false_ne_true
  constructor
  · rw [k.1]; unfold hdrL; rw [List.takeWhile_cons_of_neg hn, List.append_nil]
  · rw [k.2, List.dropWhile_cons_of_neg hn]; rfl
/-- At the end. -/
theorem At.done {ls : List (List UInt8)} (h : At ls ls.length) : hdrL ls = ls ∧ ls.dropWhile full = [] := by
  refine hdr_id ?_
  have := h.all
  rwa [List.take_length] at this
/-! Unfold, from the left. -/
theorem unfold_step (s : List UInt8) (i : Nat) (c : UInt8) (h : s[i]? = some c) : unfoldL (s.drop i) = if c = 10 then unfoldL (s.drop (i + 1)) else if c = 13 ∧ s[i + 1]? = some 10 then unfoldL (s.drop (i + 1)) else c :: unfoldL (s.drop (i + 1)) := by
  have hi : i < s.length := (List.getElem?_eq_some_iff.1 h).1
  have hg := (List.getElem?_eq_some_iff.1 h).2
  rw [List.drop_eq_getElem_cons hi, hg, unfoldL, List.head?_drop]
theorem unfold_end (s : List UInt8) : unfoldL (s.drop s.length) = [] := by rw [List.drop_length]; rfl
/-! Trim, from both ends. -/
theorem drop_while_step (s : List UInt8) (i : Nat) (c : UInt8) (h : s[i]? = some c) (hb : blank c = true) : (s.drop i).dropWhile blank = (s.drop (i + 1)).dropWhile blank := by
  have hi : i < s.length := (List.getElem?_eq_some_iff.1 h).1
  have hg := (List.getElem?_eq_some_iff.1 h).2
  rw [List.drop_eq_getElem_cons hi, hg, List.dropWhile_cons_of_pos hb]
theorem drop_while_stop (s : List UInt8) (i : Nat) (h : ∀ c, s[i]? = some c → blank c = false) : (s.drop i).dropWhile blank = s.drop i :=
  drop_fixed fun c hc => h c (by rwa [List.head?_drop] at hc)
theorem trimR_step (l : List UInt8) (c : UInt8) (hb : blank c = true) : trimR (l ++ [c]) = trimR l := by
  unfold trimR
  rw [List.reverse_append, List.reverse_singleton, List.singleton_append, List.dropWhile_cons_of_pos hb]
theorem trimR_blanks (l : List UInt8) (h : ∀ c ∈ l, blank c = true) : trimR l = [] := by
  have : l.reverse.dropWhile blank = [] := by
    have h2 : ∀ c ∈ l.reverse, blank c = true := fun c hc => h c (List.mem_reverse.1 hc)
    generalize l.reverse = r at h2
    induction r with
    | nil => rfl
    | cons c t ih => rw [List.dropWhile_cons_of_pos (h2 c (by simp)), ih fun x hx => h2 x (by simp [hx])]
  unfold trimR; rw [this]; rfl
/-- Before 'from' and 'to' in a row: what lies between is what is left. -/
theorem slice_last (s : List UInt8) (a b : Nat) (c : UInt8) (hab : a ≤ b) (h : s[b]? = some c) : (s.drop a).take (b + 1 - a) = (s.drop a).take (b - a) ++ [c] := by
  rw [show b + 1 - a = (b - a) + 1 by omega, List.take_add_one, List.getElem?_drop, show a + (b - a) = b by omega, h]; rfl
/-! Pieces, from the left. -/
theorem pc_step (p : UInt8) (s : List UInt8) (i : Nat) (c : UInt8) (h : s[i]? = some c) : pc p (s.drop i) = if (blank c && !blank p) = true then ([], (c :: (pc c (s.drop (i + 1))).1) :: (pc c (s.drop (i + 1))).2) else (c :: (pc c (s.drop (i + 1))).1, (pc c (s.drop (i + 1))).2) := by
  have hi : i < s.length := (List.getElem?_eq_some_iff.1 h).1
  have hg := (List.getElem?_eq_some_iff.1 h).2
  rw [List.drop_eq_getElem_cons hi, hg, pc]
/-- Before index i (1 to the length): the pieces that are done, and the one begun at 'a'. -/
def Cut (s : List UInt8) (i a : Nat) (out : List (List UInt8)) : Prop :=
  a < i ∧ i ≤ s.length ∧ ∃ p, s[i - 1]? = some p ∧ piecesL s = out ++ ((s.drop a).take (i - a) ++ (pc p (s.drop i)).1) :: (pc p (s.drop i)).2
theorem Cut.one {s : List UInt8} (h : 0 < s.length) : Cut s 1 0 [] := by
  cases s with
  | nil => simp at h
  | cons c r => exact ⟨by omega, by simp, c, rfl, by simp [piecesL]⟩
theorem Cut.next {s : List UInt8} {i a : Nat} {out : List (List UInt8)} (h : Cut s i a out) (c p : UInt8) (hc : s[i]? = some c) (hp : s[i - 1]? = some p) :
    if (blank c && !blank p) = true then Cut s (i + 1) i (out ++ [(s.drop a).take (i - a)]) else Cut s (i + 1) a out := by
  obtain ⟨h1, h2, q, hq, h3⟩ := h
  obtain rfl : p = q := by rw [hp] at hq; exact Option.some.inj hq
  have hi : i < s.length := (List.getElem?_eq_some_iff.1 hc).1
  rw [pc_step p s i c hc] at h3
  split
  · rename_i hb
    rw [if_pos hb] at h3
    refine ⟨by omega, by omega, c, hc, ?_⟩
    have e := slice_last s i i c (Nat.le_refl _) hc
    rw [Nat.sub_self, List.take_zero, List.nil_append] at e
    rw [e, h3]; simp
  · rename_i hb
    rw [if_neg hb] at h3
    refine ⟨by omega, by omega, c, hc, ?_⟩
    rw [slice_last s a i c (by omega) hc, h3]; simp
theorem Cut.done {s : List UInt8} {a : Nat} {out : List (List UInt8)} (h : Cut s s.length a out) : piecesL s = out ++ [s.drop a] := by
  obtain ⟨_, _, p, _, h3⟩ := h
  rw [List.drop_length] at h3
  rw [h3, List.take_of_length_le (by rw [List.length_drop]; exact Nat.le_refl _)]
  simp [pc]
/-! Names, colons. -/
theorem right_prefix (n : List UInt8) (i : Nat) (c : UInt8) (h : n[i]? = some c) (hp : (n.take i).all nameByte = true) : (n.take (i + 1)).all nameByte = nameByte c := by
  rw [List.take_add_one, h]; simp [hp]
theorem upto_at (s : List UInt8) (i : Nat) (h : s[i]? = some 58) (hp : 58 ∉ s.take i) : upto s = s.take i := by
  have hi : i < s.length := (List.getElem?_eq_some_iff.1 h).1
  have hg := (List.getElem?_eq_some_iff.1 h).2
  have e : s = s.take i ++ 58 :: s.drop (i + 1) := by
    conv => lhs; rw [← List.take_append_drop i s, List.drop_eq_getElem_cons hi, hg]
  have := upto_name (name := s.take i) (fun c hc e' => hp (e' ▸ hc)) (s.drop (i + 1))
  rwa [← e] at this
/-! Put. -/
/-- The length of the line that is begun. -/
def foldN (n : Nat) : List (List UInt8) → Nat
  | [] => n
  | x :: r => if 78 < n + x.length then foldN x.length r else foldN (n + x.length) r
theorem fold_snoc (n : Nat) (r : List (List UInt8)) (x : List UInt8) : foldR n (r ++ [x]) = foldR n r ++ (if 78 < foldN n r + x.length then [13, 10] ++ x else x) ∧ foldN n (r ++ [x]) = if 78 < foldN n r + x.length then x.length else foldN n r + x.length := by
  induction r generalizing n with
  | nil =>
    refine ⟨?_, rfl⟩
    show foldR n [x] = (if 78 < n + x.length then [13, 10] ++ x else x)
    unfold foldR
    split
    · show _ ++ [] = _; rw [List.append_nil]
    · show _ ++ [] = _; rw [List.append_nil]
  | cons y r ih =>
    rw [List.cons_append]
    unfold foldR foldN
    split
    · have := ih y.length
      rw [this.1, this.2]; simp
    · have := ih (n + y.length)
      rw [this.1, this.2]; simp
end Go.Proofs.YtocghngmjipjoaaDoor.HdrP
