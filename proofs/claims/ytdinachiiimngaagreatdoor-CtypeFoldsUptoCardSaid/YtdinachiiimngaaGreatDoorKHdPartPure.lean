/- Reading a header as the program does it, of no program: fields cut from what is left of the section; values unfolded line by line. -/
import Derived.Test.YtdinachiiimngaaGreatDoorK13
import Derived.Lib.Replace
import Derived.Lib.IndexMore
import Derived.Lib.SlTrimSet
namespace Go.Proofs.YtdinachiiimngaaGreatDoor.Hd.HdrP
open LinesP

/-! Unfolding, line by line. -/
theorem unfold_no {l : List UInt8} (h : 10 ∉ l) : unfoldL l = l := by
  induction l with
  | nil => rfl
  | cons c t ih =>
    simp only [List.mem_cons, not_or] at h
    have h2 : t.head? ≠ some 10 := fun e => h.2 (List.mem_of_head? e)
    rw [unfoldL, if_neg (fun e => h.1 e.symm), if_neg (fun e => h2 e.2), ih h.2]
theorem unfold_term (m t : List UInt8) (h : 10 ∉ m) : unfoldL (m ++ 10 :: t) = (if m.getLast? = some 13 then m.dropLast else m) ++ unfoldL t := by
  induction m with
  | nil => show unfoldL (10 :: t) = _; rw [unfoldL, if_pos rfl]; rfl
  | cons c r ih =>
    simp only [List.mem_cons, not_or] at h
    rw [List.cons_append, unfoldL, if_neg (fun e => h.1 e.symm)]
    cases r with
    | nil =>
      by_cases hc : c = 13
      · subst hc
        rw [if_pos ⟨rfl, rfl⟩]
        show unfoldL (10 :: t) = _
        rw [unfoldL, if_pos rfl]; rfl
      · rw [if_neg (fun e => hc e.1), if_neg (by simpa using hc)]
        show c :: unfoldL (10 :: t) = _
        rw [unfoldL, if_pos rfl]; rfl
    | cons d r =>
      have hd : ¬ (c = 13 ∧ ((d :: r) ++ 10 :: t).head? = some 10) := fun e => h.2 (by have := e.2; simp at this; simp [this])
      rw [if_neg hd, ih h.2, List.getLast?_cons_cons]
      split
      · rw [List.dropLast_cons_cons]; rfl
      · rfl
theorem unfold_good {ls : List (List UInt8)} (h : Good ls) : unfoldL ls.flatten = (ls.map bareL).flatten := by
  induction h with
  | nil => rfl
  | @last l hl => rw [List.flatten_cons, List.flatten_nil, List.append_nil, unfold_no hl.2]; simp [bare_tail hl]
  | @cons l r hl hr ih =>
    obtain ⟨m, rfl, hm⟩ := hl
    rw [List.flatten_cons, List.append_assoc, List.singleton_append, unfold_term _ _ hm, ih, List.map_cons, List.flatten_cons, bare_term]
theorem unfold_lines (s : List UInt8) : unfoldL s = ((splitL s).map bareL).flatten := by
  have := unfold_good (split_good s)
  rwa [split_flat] at this
/-! A field out of its bytes. -/
def readL (raw : List UInt8) : Fld :=
  if 58 ∈ raw ∧ rightL (trimR (upto raw)) = true then ⟨trimR (upto raw), bareL (raw.drop ((upto raw).length + 1)), raw, false⟩ else ⟨[], [], raw, true⟩
theorem upto_left {a : List UInt8} (h : 58 ∈ a) (b : List UInt8) : upto (a ++ b) = upto a := by
  obtain ⟨m, r, e, hm⟩ := List.eq_append_cons_of_mem h
  subst e
  rw [List.append_assoc, List.cons_append, upto_name (fun c hc e => hm (e ▸ hc)), upto_name (fun c hc e => hm (e ▸ hc))]
theorem upto_right {a : List UInt8} (h : 58 ∉ a) (b : List UInt8) : upto (a ++ b) = a ++ upto b := by
  unfold upto
  induction a with
  | nil => rfl
  | cons c r ih =>
    simp only [List.mem_cons, not_or] at h
    rw [List.cons_append, List.takeWhile_cons_of_pos (by simpa using fun e => h.1 e.symm), ih h.2]; rfl
theorem bare_ending (l : List UInt8) : ∃ e, l = bareL l ++ e ∧ 58 ∉ e := by
  unfold bareL
  by_cases h : l.getLast? = some 10
  · rw [if_pos h]
    obtain ⟨m, rfl⟩ := List.getLast?_eq_some_iff.1 h
    rw [List.dropLast_concat]
    by_cases h2 : m.getLast? = some 13
    · rw [if_pos h2]
      obtain ⟨k, rfl⟩ := List.getLast?_eq_some_iff.1 h2
      rw [List.dropLast_concat]
      exact ⟨[13, 10], by simp, by decide⟩
    · rw [if_neg h2]
      exact ⟨[10], rfl, by decide⟩
  · rw [if_neg h]
    exact ⟨[], by simp, by simp⟩
theorem trimR_app (a b : List UInt8) (h : ∃ c ∈ b, blank c = false) : trimR (a ++ b) = a ++ trimR b := by
  unfold trimR
  have key : ∀ r : List UInt8, (∃ c ∈ r, blank c = false) → (r ++ a.reverse).dropWhile blank = r.dropWhile blank ++ a.reverse := by
    intro r
    induction r with
    | nil => rintro ⟨c, hc, _⟩; cases hc
    | cons c t ih =>
      rintro ⟨d, hd, hb⟩
      by_cases hc : blank c = true
      · rw [List.cons_append, List.dropWhile_cons_of_pos hc, List.dropWhile_cons_of_pos hc]
        refine ih ⟨d, ?_, hb⟩
        rcases List.mem_cons.1 hd with rfl | hd
        · rw [hc] at hb; cases hb
        · exact hd
      · rw [List.cons_append, List.dropWhile_cons_of_neg hc, List.dropWhile_cons_of_neg hc]; rfl
  rw [List.reverse_append, key b.reverse (by obtain ⟨c, hc, hb⟩ := h; exact ⟨c, List.mem_reverse.2 hc, hb⟩)]
  simp
theorem not_right {n : List UInt8} (h : 10 ∈ n) : rightL n = false := by
  rw [Bool.eq_false_iff]
  intro hr
  exact (name_byte ((right_bytes hr).2 10 h)).2.2.1 rfl
/-- What the program reads is the field. -/
theorem read_is {first more : List UInt8} (h : Term first ∨ (Tail first ∧ more = [])) : readL (first ++ more) = fieldL first more := by
  unfold readL fieldL
  obtain ⟨e, he, hne⟩ := bare_ending first
  by_cases hc : 58 ∈ bareL first
  · have h1 : first ++ more = bareL first ++ (e ++ more) := by rw [← List.append_assoc, ← he]
    have h2 : upto (first ++ more) = upto (bareL first) := by rw [h1, upto_left hc]
    have h3 : 58 ∈ first ++ more := by rw [h1]; exact List.mem_append_left _ hc
    rw [h2]
    by_cases hr : rightL (trimR (upto (bareL first))) = true
    · rw [if_pos ⟨h3, hr⟩, if_pos ⟨hc, hr⟩]
    · rw [if_neg (fun k => hr k.2), if_neg (fun k => hr k.2)]
  · rw [if_neg (fun k : 58 ∈ bareL first ∧ _ => hc k.1)]
    have hf : 58 ∉ first := by
      rw [he]; simp; exact ⟨hc, hne⟩
    rw [if_neg]
    rintro ⟨k1, k2⟩
    rcases h with ⟨m, rfl, hm⟩ | ⟨_, rfl⟩
    · rw [upto_right hf] at k2
      have h10 : 10 ∈ trimR (m ++ [10] ++ upto more) := by
        rw [List.append_assoc, trimR_app m ([10] ++ upto more) ⟨10, by simp, by decide⟩]
        have e2 : trimR ([10] ++ upto more) = [10] ++ trimR (upto more) := by
          by_cases hx : ∃ c ∈ upto more, blank c = false
          · exact trimR_app _ _ hx
          · have hall : ∀ c ∈ upto more, blank c = true := fun c hc => by
              by_cases hb : blank c = true
              · exact hb
              · exact absurd ⟨c, hc, by simpa using hb⟩ hx
            have e3 : ∀ x : List UInt8, (∀ c ∈ x, blank c = true) → trimR ([10] ++ x) = [10] := by
              intro x hx2
              unfold trimR
              rw [List.reverse_append]
              have : (x.reverse ++ [10].reverse).dropWhile blank = [10] := by
                have hx3 : ∀ c ∈ x.reverse, blank c = true := fun c hc => hx2 c (List.mem_reverse.1 hc)
                generalize x.reverse = y at hx3
                induction y with
                | nil => rfl
                | cons c t ih => rw [List.cons_append, List.dropWhile_cons_of_pos (hx3 c (by simp)), ih fun z hz => hx3 z (by simp [hz])]
              rw [this]; rfl
            rw [e3 _ hall, trimR_blanks _ hall]; rfl
        rw [e2]; simp
      rw [not_right h10] at k2; cases k2
    · rw [List.append_nil] at k1
      exact hf k1
/-! What is left of the section. -/
def dropC (ls : List (List UInt8)) : List (List UInt8) := ls.dropWhile begun
theorem next_drop (ls : List (List UInt8)) : nextL ls = groups (dropC ls) := by
  induction ls with
  | nil => rfl
  | cons l r ih =>
    unfold dropC
    by_cases hb : begun l = true
    · rw [List.dropWhile_cons_of_pos hb, nextL, if_pos hb, ih]; rfl
    · rw [List.dropWhile_cons_of_neg hb, nextL, if_neg hb]; rfl
theorem more_drop (ls : List (List UInt8)) : moreL ls ++ (dropC ls).flatten = ls.flatten := by
  induction ls with
  | nil => rfl
  | cons l r ih =>
    unfold dropC
    by_cases hb : begun l = true
    · rw [List.dropWhile_cons_of_pos hb, moreL, if_pos hb, List.flatten_cons, List.append_assoc]
      have ih' : moreL r ++ (r.dropWhile begun).flatten = r.flatten := ih
      rw [ih']
    · rw [List.dropWhile_cons_of_neg hb, moreL, if_neg hb]; rfl
theorem drop_good {ls : List (List UInt8)} (h : Good ls) : Good (dropC ls) := by
  induction ls with
  | nil => exact .nil
  | cons l r ih =>
    unfold dropC
    by_cases hb : begun l = true
    · rw [List.dropWhile_cons_of_pos hb]; exact ih (good_tail h)
    · rw [List.dropWhile_cons_of_neg hb]; exact h
/-- One field is cut off: its bytes, and what is left. -/
theorem cut_one {l : List UInt8} {r : List (List UInt8)} (h : Good (l :: r)) :
    (l :: r).flatten = (l ++ moreL r) ++ (dropC r).flatten ∧ Good (dropC r) ∧ readL (l ++ moreL r) = fieldL l (moreL r) ∧ groups (l :: r) = fieldL l (moreL r) :: groups (dropC r) ∧ l ≠ [] := by
  refine ⟨by rw [List.flatten_cons, List.append_assoc, more_drop], drop_good (good_tail h), ?_, ?_, ?_⟩
  · refine read_is ?_
    cases h with
    | last hl => exact .inr ⟨hl, rfl⟩
    | cons hl _ => exact .inl hl
  · show fieldL l (moreL r) :: nextL r = _
    rw [next_drop]
  · rcases good_mem h l (by simp) with ⟨m, rfl, _⟩ | h
    · simp
    · exact h.1
/-! Names without case. -/
theorem low_map_len {a b : List UInt8} (h : a.map low = b.map low) : a.length = b.length := by
  have := congrArg List.length h
  simpa using this
/-! Trimming from the right first. -/
theorem drop_trimR (l : List UInt8) : (trimR l).dropWhile blank = trimR (l.dropWhile blank) := by
  induction l with
  | nil => rfl
  | cons c t ih =>
    by_cases hc : blank c = true
    · rw [List.dropWhile_cons_of_pos hc]
      by_cases hx : ∃ d ∈ t, blank d = false
      · rw [show c :: t = [c] ++ t from rfl, trimR_app [c] t hx, List.singleton_append, List.dropWhile_cons_of_pos hc, ih]
      · have hall : ∀ d ∈ c :: t, blank d = true := fun d hd => by
          rcases List.mem_cons.1 hd with rfl | hd
          · exact hc
          · by_cases hb : blank d = true
            · exact hb
            · exact absurd ⟨d, hd, by simpa using hb⟩ hx
        rw [trimR_blanks _ hall]
        have : t.dropWhile blank = [] := by
          have hall2 : ∀ d ∈ t, blank d = true := fun d hd => hall d (by simp [hd])
          clear ih hx hall
          induction t with
          | nil => rfl
          | cons d r ih => rw [List.dropWhile_cons_of_pos (hall2 d (by simp)), ih fun x hx => hall2 x (by simp [hx])]
        rw [this]; rfl
    · rw [List.dropWhile_cons_of_neg hc, show c :: t = [] ++ [c] ++ t from rfl]
      have hcf : blank c = false := by simpa using hc
      refine drop_fixed (trimR_head fun d hd => ?_)
      simp at hd
      rw [← hd]; exact hcf
theorem set_blank (c : UInt8) : ([32, 9] : List UInt8).contains c = blank c := by
  simp only [List.contains_cons, List.contains_nil, Bool.or_false, blank]
theorem trimRS_is (l : List UInt8) : Lib.trimRightS l [32, 9] = trimR l := by
  unfold Lib.trimRightS trimR
  simp only [set_blank]
theorem trimS_is (l : List UInt8) : Lib.trimS l [32, 9] = trimL l := by
  unfold Lib.trimS Lib.trimLeftS
  rw [trimRS_is]
  simp only [set_blank]
  exact drop_trimR l
/-! Cutting at a colon. -/
theorem index_one : ∀ (l : List UInt8) (c : UInt8), (c ∉ l ∧ Lib.index l [c] = -1) ∨ (∃ i : Nat, Lib.index l [c] = i ∧ l[i]? = some c ∧ c ∉ l.take i)
  | [], c => .inl ⟨by simp, by simp [Lib.index]⟩
  | b :: l, c => by
    unfold Lib.index
    by_cases hb : c = b
    · subst hb
      exact .inr ⟨0, by simp [List.isPrefixOf], by simp, by simp⟩
    · have h1 : ([c].isPrefixOf (b :: l)) = false := by simp [List.isPrefixOf]; exact hb
      rw [if_neg (by rw [h1]; exact Bool.false_ne_true)]
      rcases index_one l c with ⟨h2, h3⟩ | ⟨i, h2, h3, h4⟩
      · refine .inl ⟨by simp; exact ⟨hb, h2⟩, ?_⟩
        rw [h3]; rfl
      · refine .inr ⟨i + 1, ?_, by simpa using h3, by simp; exact ⟨hb, h4⟩⟩
        rw [h2, if_neg (by simp)]; omega
theorem cut_colon (l : List UInt8) : Lib.cut l [58] = if 58 ∈ l then (upto l, l.drop ((upto l).length + 1), true) else (l, [], false) := by
  unfold Lib.cut
  rcases index_one l 58 with ⟨h1, h2⟩ | ⟨i, h1, h2, h3⟩
  · rw [h2, if_neg (by decide), if_neg h1]
  · rw [h1, if_pos (by omega), if_pos (List.mem_of_getElem? h2)]
    have hi : i < l.length := (List.getElem?_eq_some_iff.1 h2).1
    have e := upto_at l i h2 h3
    rw [e, List.length_take, Nat.min_eq_left (by omega)]; rfl
/-! Replacing bytes. -/
def swap1 (a b : UInt8) (s : List UInt8) : List UInt8 := s.map fun c => if c = a then b else c
theorem replaceK_one (a b : UInt8) : ∀ (n : Nat) (s : List UInt8), s.length ≤ n → Lib.replaceK [a] [b] (Lib.count s [a]) s = swap1 a b s := by
  intro n
  induction n with
  | zero => intro s hs; obtain rfl : s = [] := List.eq_nil_of_length_eq_zero (by omega); rfl
  | succ n ih =>
    intro s hs
    have hc := Lib.count_one a s
    rcases index_one s a with ⟨h1, h2⟩ | ⟨i, h1, h2, h3⟩
    · have h0 : Lib.count s [a] = 0 := by rw [hc]; exact List.count_eq_zero.2 h1
      rw [h0, Lib.replaceK]
      unfold swap1
      conv => lhs; rw [← List.map_id s]
      exact List.map_congr_left fun c hc2 => by rw [if_neg (show ¬ c = a from fun e => h1 (e ▸ hc2))]; rfl
    · have hi : i < s.length := (List.getElem?_eq_some_iff.1 h2).1
      have hg := (List.getElem?_eq_some_iff.1 h2).2
      have e : s = s.take i ++ a :: s.drop (i + 1) := by
        conv => lhs; rw [← List.take_append_drop i s, List.drop_eq_getElem_cons hi, hg]
      have h0 : Lib.count s [a] = Lib.count (s.drop (i + 1)) [a] + 1 := by
        rw [hc, Lib.count_one]
        conv => lhs; rw [e]
        rw [List.count_append, List.count_cons_self, List.count_eq_zero.2 h3]; omega
      rw [h0, Lib.replaceK_hit _ _ _ _ i h1, List.length_singleton, ih _ (by rw [List.length_drop]; omega)]
      conv => rhs; rw [e]
      unfold swap1
      rw [List.map_append, List.map_cons, if_pos rfl]
      have e2 : (s.take i).map (fun c => if c = a then b else c) = s.take i := by
        conv => rhs; rw [← List.map_id (s.take i)]
        exact List.map_congr_left fun c hc2 => by rw [if_neg (show ¬ c = a from fun e => h3 (e ▸ hc2))]; rfl
      rw [e2]; simp
theorem replace_one (a b : UInt8) (hab : a ≠ b) (s : List UInt8) : Lib.replaceAll s [a] [b] = swap1 a b s := by
  unfold Lib.replaceAll Lib.replace
  rw [if_neg (by simp; exact hab)]
  unfold Lib.replaceNum
  rw [if_pos (.inl (by decide))]
  exact replaceK_one a b _ s (Nat.le_refl _)
theorem swap_flat (s : List UInt8) : swap1 10 32 (swap1 13 32 s) = s.map flat1 := by
  unfold swap1
  rw [List.map_map]
  refine List.map_congr_left fun c _ => ?_
  unfold flat1
  show (if (if c = 13 then (32 : UInt8) else c) = 10 then (32 : UInt8) else (if c = 13 then 32 else c)) = _
  by_cases h13 : c = 13
  · rw [if_pos h13, if_neg (by decide), if_pos (Or.inr h13)]
  · rw [if_neg h13]
    by_cases h10 : c = 10
    · rw [if_pos h10, if_pos (Or.inl h10)]
    · rw [if_neg h10, if_neg (fun e => e.elim h10 h13)]
theorem swap_len (a b : UInt8) (s : List UInt8) : (swap1 a b s).length = s.length := by unfold swap1; rw [List.length_map]
/-! The program's pieces: one empty piece where there is none. -/
def piecesP (s : List UInt8) : List (List UInt8) := if s = [] then [[]] else piecesL s
end Go.Proofs.YtdinachiiimngaaGreatDoor.Hd.HdrP
