/- Lines, of no program: the lines of a string, their endings, dots at their starts, and what a feed has told. -/
namespace Go.Proofs.YtocghngmjipjoaaDoor.LinesP
/-- The lines, endings and all. -/
def splitL : List UInt8 → List (List UInt8)
  | [] => []
  | c :: t => if c = 10 then [10] :: splitL t else match splitL t with
    | [] => [[c]]
    | l :: r => (c :: l) :: r
def Term (l : List UInt8) : Prop := ∃ m, l = m ++ [10] ∧ 10 ∉ m
def Tail (l : List UInt8) : Prop := l ≠ [] ∧ 10 ∉ l
inductive Good : List (List UInt8) → Prop
  | nil : Good []
  | last {l} : Tail l → Good [l]
  | cons {l r} : Term l → Good r → Good (l :: r)
theorem split_flat (s : List UInt8) : (splitL s).flatten = s := by
  induction s with
  | nil => rfl
  | cons c t ih =>
    unfold splitL
    by_cases hc : c = 10
    · rw [if_pos hc, List.flatten_cons, ih, hc]; rfl
    · rw [if_neg hc]
      split
      · rename_i h; rw [h] at ih; simp at ih; subst ih; rfl
      · rename_i l r h; rw [h] at ih; rw [← ih]; simp
theorem split_nil {s : List UInt8} (h : splitL s = []) : s = [] := by rw [← split_flat s, h]; rfl
theorem split_good (s : List UInt8) : Good (splitL s) := by
  induction s with
  | nil => exact .nil
  | cons c t ih =>
    unfold splitL
    by_cases hc : c = 10
    · rw [if_pos hc]; exact .cons ⟨[], rfl, by simp⟩ ih
    · rw [if_neg hc]
      split
      · exact .last ⟨by simp, by simp; exact fun e => hc e.symm⟩
      · rename_i l r h
        rw [h] at ih
        cases ih with
        | last hl => exact .last ⟨by simp, by simp; exact ⟨fun e => hc e.symm, hl.2⟩⟩
        | cons hl hr =>
          obtain ⟨m, rfl, hm⟩ := hl
          exact .cons ⟨c :: m, rfl, by simp; exact ⟨fun e => hc e.symm, hm⟩⟩ hr
theorem split_term (m t : List UInt8) (h : 10 ∉ m) : splitL (m ++ 10 :: t) = (m ++ [10]) :: splitL t := by
  induction m with
  | nil => show splitL (10 :: t) = _; rw [splitL, if_pos rfl]; rfl
  | cons c m ih =>
    simp at h
    rw [List.cons_append, splitL, if_neg (fun e => h.1 e.symm), ih h.2]; rfl
theorem split_tail {l : List UInt8} (h : Tail l) : splitL l = [l] := by
  obtain ⟨h1, h2⟩ := h
  induction l with
  | nil => exact absurd rfl h1
  | cons c m ih =>
    simp at h2
    rw [splitL, if_neg (fun e => h2.1 e.symm)]
    cases m with
    | nil => rfl
    | cons d m => rw [ih (by simp) h2.2]
theorem split_of_good {ls : List (List UInt8)} (h : Good ls) : splitL ls.flatten = ls := by
  induction h with
  | nil => rfl
  | last hl => rw [List.flatten_cons, List.flatten_nil, List.append_nil]; exact split_tail hl
  | cons hl _ ih =>
    obtain ⟨m, rfl, hm⟩ := hl
    rw [List.flatten_cons, List.append_assoc, List.singleton_append, split_term _ _ hm, ih]
/-- All lines are terminated. -/
def AllT (ls : List (List UInt8)) : Prop := ∀ l ∈ ls, Term l
theorem split_allT {ls : List (List UInt8)} (h : AllT ls) (b : List UInt8) : splitL (ls.flatten ++ b) = ls ++ splitL b := by
  induction ls with
  | nil => rfl
  | cons l r ih =>
    obtain ⟨m, rfl, hm⟩ := h l (List.mem_cons_self)
    rw [List.flatten_cons, List.append_assoc, List.append_assoc, List.singleton_append, split_term _ _ hm, ih (fun l hl => h l (List.mem_cons_of_mem _ hl))]; rfl
theorem good_ends {ls : List (List UInt8)} (h : Good ls) (he : ls.flatten = [] ∨ ls.flatten.getLast? = some 10) : AllT ls := by
  induction h with
  | nil => intro l hl; cases hl
  | @last l hl =>
    rw [List.flatten_cons, List.flatten_nil, List.append_nil] at he
    rcases he with he | he
    · exact absurd he hl.1
    · exact absurd (List.mem_of_getLast? he) hl.2
  | @cons l r hl hr ih =>
    intro x hx
    rcases List.mem_cons.1 hx with rfl | hx
    · exact hl
    · refine ih ?_ x hx
      rw [List.flatten_cons] at he
      by_cases hn : r.flatten = []
      · exact .inl hn
      · rcases he with he | he
        · exact .inl (List.append_eq_nil_iff.1 he).2
        · rw [List.getLast?_append] at he
          cases hx : r.flatten.getLast? with
          | none => exact absurd (List.getLast?_eq_none_iff.1 hx) hn
          | some x => rw [hx] at he; exact .inr he
theorem split_append (a b : List UInt8) (h : a = [] ∨ a.getLast? = some 10) : splitL (a ++ b) = splitL a ++ splitL b := by
  have := split_allT (good_ends (split_good a) (by rw [split_flat]; exact h)) b
  rwa [split_flat] at this
theorem good_map {ls : List (List UInt8)} (f : List UInt8 → List UInt8) (ht : ∀ l, Term l → Term (f l)) (hl : ∀ l, Tail l → Tail (f l)) (h : Good ls) : Good (ls.map f) := by
  induction h with
  | nil => exact .nil
  | last h => exact .last (hl _ h)
  | cons h _ ih => exact .cons (ht _ h) ih
theorem split_map (s : List UInt8) (f : List UInt8 → List UInt8) (ht : ∀ l, Term l → Term (f l)) (hl : ∀ l, Tail l → Tail (f l)) : splitL ((splitL s).map f).flatten = (splitL s).map f :=
  split_of_good (good_map f ht hl (split_good s))
theorem good_mem {ls : List (List UInt8)} (h : Good ls) : ∀ l ∈ ls, Term l ∨ Tail l := by
  induction h with
  | nil => intro l hl; cases hl
  | last h => intro l hl; rw [List.mem_singleton.1 hl]; exact .inr h
  | cons h _ ih =>
    intro l hl
    rcases List.mem_cons.1 hl with rfl | hl
    · exact .inl h
    · exact ih l hl
/- Endings. -/
def bareL (l : List UInt8) : List UInt8 := if l.getLast? = some 10 then (if l.dropLast.getLast? = some 13 then l.dropLast.dropLast else l.dropLast) else l
def crlf1 (l : List UInt8) : List UInt8 := if l.getLast? = some 10 then bareL l ++ [13, 10] else l
def crlfL (s : List UInt8) : List UInt8 := ((splitL s).map crlf1).flatten
theorem bare_term (m : List UInt8) : bareL (m ++ [10]) = if m.getLast? = some 13 then m.dropLast else m := by
  unfold bareL; simp
theorem bare_other {l : List UInt8} (h : l.getLast? ≠ some 10) : bareL l = l := by unfold bareL; rw [if_neg h]
theorem tail_last {l : List UInt8} (h : Tail l) : l.getLast? ≠ some 10 := fun e => h.2 (List.mem_of_getLast? e)
theorem bare_tail {l : List UInt8} (h : Tail l) : bareL l = l := bare_other (tail_last h)
theorem crlf_tail {l : List UInt8} (h : Tail l) : crlf1 l = l := by unfold crlf1; rw [if_neg (tail_last h)]
theorem crlf_term {l : List UInt8} (h : Term l) : crlf1 l = bareL l ++ [13, 10] := by
  obtain ⟨m, rfl, _⟩ := h
  unfold crlf1; rw [if_pos (by simp)]
theorem bare_no {l : List UInt8} (h : Term l) : 10 ∉ bareL l := by
  obtain ⟨m, rfl, hm⟩ := h
  rw [bare_term]
  split
  · exact fun e => hm ((List.dropLast_sublist m).subset e)
  · exact hm
theorem crlf_keeps {l : List UInt8} (h : Term l) : Term (crlf1 l) := by
  rw [crlf_term h]
  exact ⟨bareL l ++ [13], by simp, by simp; exact bare_no h⟩
theorem crlf_bare {l : List UInt8} (h : Term l ∨ Tail l) : bareL (crlf1 l) = bareL l := by
  rcases h with h | h
  · rw [crlf_term h, show bareL l ++ [13, 10] = (bareL l ++ [13]) ++ [10] by simp, bare_term]; simp
  · rw [crlf_tail h]
theorem crlf_twice {l : List UInt8} (h : Term l ∨ Tail l) : crlf1 (crlf1 l) = crlf1 l := by
  rcases h with h | h
  · rw [crlf_term (crlf_keeps h), crlf_bare (.inl h), ← crlf_term h]
  · rw [crlf_tail h, crlf_tail h]
theorem split_crlf (s : List UInt8) : splitL (crlfL s) = (splitL s).map crlf1 :=
  split_map s crlf1 (fun _ h => crlf_keeps h) (fun l h => by rw [crlf_tail h]; exact h)
theorem crlf_crlf (s : List UInt8) : crlfL (crlfL s) = crlfL s := by
  show ((splitL (crlfL s)).map crlf1).flatten = _
  rw [split_crlf, List.map_map]
  unfold crlfL
  congr 1
  exact List.map_congr_left fun l hl => crlf_twice (good_mem (split_good s) l hl)
/- Dots. -/
def stuff1 (l : List UInt8) : List UInt8 := if l.head? = some 46 then 46 :: l else l
def unstuff1 (l : List UInt8) : List UInt8 := if l.head? = some 46 then l.tail else l
def stuffL (s : List UInt8) : List UInt8 := ((splitL s).map stuff1).flatten
def unstuffL (s : List UInt8) : List UInt8 := ((splitL s).map unstuff1).flatten
theorem un_stuff1 (l : List UInt8) : unstuff1 (stuff1 l) = l := by
  unfold stuff1
  split
  · unfold unstuff1; rw [if_pos (show (46 :: l).head? = some 46 from rfl)]; rfl
  · rename_i h; unfold unstuff1; rw [if_neg h]
theorem stuff_keeps {l : List UInt8} (h : Term l) : Term (stuff1 l) := by
  unfold stuff1
  split
  · obtain ⟨m, rfl, hm⟩ := h
    exact ⟨46 :: m, rfl, by simp; exact hm⟩
  · exact h
theorem stuff_tail {l : List UInt8} (h : Tail l) : Tail (stuff1 l) := by
  unfold stuff1
  split
  · exact ⟨by simp, by simp; exact h.2⟩
  · exact h
theorem split_stuff (s : List UInt8) : splitL (stuffL s) = (splitL s).map stuff1 := split_map s stuff1 (fun _ h => stuff_keeps h) (fun _ h => stuff_tail h)
theorem unstuff_stuff (s : List UInt8) : unstuffL (stuffL s) = s := by
  unfold unstuffL
  rw [split_stuff, List.map_map, show unstuff1 ∘ stuff1 = id from funext un_stuff1, List.map_id, split_flat]
theorem bare_dot (c : UInt8) {l : List UInt8} (h : l.head? = some 46) : bareL (c :: l) = c :: bareL l := by
  cases l with
  | nil => simp at h
  | cons d m =>
    have hd : d = 46 := by simpa using h
    subst hd
    unfold bareL
    rw [List.getLast?_cons_cons]
    split
    · rename_i h1
      cases m with
      | nil => exact absurd h1 (by decide)
      | cons e m =>
        rw [show (c :: 46 :: e :: m).dropLast = c :: 46 :: (e :: m).dropLast from rfl, show (46 :: e :: m).dropLast = 46 :: (e :: m).dropLast from rfl, List.getLast?_cons_cons]
        split
        · rename_i h2
          cases hm : (e :: m).dropLast with
          | nil => rw [hm] at h2; exact absurd h2 (by decide)
          | cons f m => rfl
        · rfl
    · rfl
theorem stuff_bare (l : List UInt8) : bareL (stuff1 l) = if l.head? = some 46 then 46 :: bareL l else bareL l := by
  unfold stuff1
  split
  · rename_i h; exact bare_dot 46 h
  · rfl
/-- The lengths of the endings stay. -/
theorem bare_le (l : List UInt8) : (bareL l).length ≤ l.length := by
  unfold bareL; split
  · split <;> simp <;> omega
  · exact Nat.le_refl _
theorem stuff_ending (l : List UInt8) : (stuff1 l).length - (bareL (stuff1 l)).length = l.length - (bareL l).length := by
  rw [stuff_bare]
  unfold stuff1
  split
  · simp
  · rfl
theorem bare_head {l : List UInt8} (h : l.head? = some 46) : (bareL l).head? = some 46 := by
  cases l with
  | nil => simp at h
  | cons d m =>
    have hd : d = 46 := by simpa using h
    subst hd
    unfold bareL
    split
    · rename_i h1
      cases m with
      | nil => exact absurd h1 (by decide)
      | cons e m =>
        rw [show (46 :: e :: m).dropLast = 46 :: (e :: m).dropLast from rfl]
        split
        · rename_i h2
          cases hm : (e :: m).dropLast with
          | nil => rw [hm] at h2; exact absurd h2 (by decide)
          | cons f m => rfl
        · rfl
    · rfl
/-- No line of a stuffed string is a single dot. -/
theorem stuff_no_dot (l : List UInt8) (h : Term l ∨ Tail l) : bareL (stuff1 l) ≠ [46] := by
  rw [stuff_bare]
  split
  · rename_i h1
    intro e
    have := bare_head h1
    rw [List.cons.inj e |>.2] at this
    simp at this
  · rename_i h1
    intro e
    rcases h with h | h
    · obtain ⟨m, rfl, hm⟩ := h
      rw [bare_term] at e
      split at e
      · rename_i h2
        obtain ⟨k, rfl⟩ := List.getLast?_eq_some_iff.1 h2
        simp at e
        subst e
        exact h1 rfl
      · subst e; exact h1 rfl
    · rw [bare_tail h] at e; subst e; exact h1 rfl
theorem head_append {a b : List UInt8} (h : a ≠ []) : (a ++ b).head? = a.head? := by
  cases a with
  | nil => exact absurd rfl h
  | cons c t => rfl
theorem bare_head_iff {l : List UInt8} (h : Term l) : (crlf1 l).head? = some 46 ↔ l.head? = some 46 := by
  rw [crlf_term h]
  constructor
  · intro h1
    by_cases hb : bareL l = []
    · rw [hb] at h1; exact absurd h1 (by decide)
    · rw [head_append hb] at h1
      obtain ⟨m, rfl, hm⟩ := h
      rw [bare_term] at h1 hb
      split at h1
      · rename_i h2
        rw [if_pos h2] at hb
        cases m with
        | nil => simp at hb
        | cons a b =>
          cases b with
          | nil => simp at hb
          | cons c d => simpa using h1
      · cases m with
        | nil => simp at h1
        | cons a b => simpa using h1
  · intro h1
    have := bare_head h1
    rw [head_append (fun e => by rw [e] at this; simp at this)]
    exact this
theorem crlf_stuff1 {l : List UInt8} (h : Term l ∨ Tail l) : crlf1 (stuff1 l) = stuff1 (crlf1 l) := by
  rcases h with h | h
  · rw [crlf_term (stuff_keeps h), stuff_bare]
    by_cases h1 : l.head? = some 46
    · rw [if_pos h1, stuff1, if_pos ((bare_head_iff h).2 h1), crlf_term h]; rfl
    · rw [if_neg h1, stuff1, if_neg (fun e => h1 ((bare_head_iff h).1 e)), crlf_term h]
  · rw [crlf_tail (stuff_tail h), crlf_tail h]
theorem crlf_stuff (s : List UInt8) : crlfL (stuffL s) = stuffL (crlfL s) := by
  show ((splitL (stuffL s)).map crlf1).flatten = ((splitL (crlfL s)).map stuff1).flatten
  rw [split_stuff, split_crlf, List.map_map, List.map_map]
  congr 1
  exact List.map_congr_left fun l hl => crlf_stuff1 (good_mem (split_good s) l hl)
/- What a feed has told of its input. -/
def ends (l : List UInt8) : Bool := l.getLast? == some 10
def doneL (s : List UInt8) : List (List UInt8) := (splitL s).filter ends
def restL (s : List UInt8) : List UInt8 := ((splitL s).filter fun l => !ends l).flatten
theorem ends_term {l : List UInt8} (h : Term l) : ends l = true := by
  obtain ⟨m, rfl, _⟩ := h; simp [ends]
theorem ends_tail {l : List UInt8} (h : Tail l) : ends l = false := by
  have := tail_last h
  simp only [ends, beq_eq_false_iff_ne]; exact this
theorem good_parts {ls : List (List UInt8)} (h : Good ls) : AllT (ls.filter ends) ∧ ls = ls.filter ends ++ splitL (ls.filter fun l => !ends l).flatten ∧ 10 ∉ (ls.filter fun l => !ends l).flatten := by
  induction h with
  | nil => exact ⟨fun l hl => (by cases hl), rfl, by simp⟩
  | @last l hl =>
    have := ends_tail hl
    refine ⟨fun x hx => ?_, ?_, ?_⟩
    · simp [this] at hx
    · simp [this, split_tail hl]
    · simp [this]; exact hl.2
  | @cons l r hl hr ih =>
    have := ends_term hl
    refine ⟨fun x hx => ?_, ?_, ?_⟩
    · simp only [List.filter_cons, this, if_true] at hx
      rcases List.mem_cons.1 hx with rfl | hx
      · exact hl
      · exact ih.1 x hx
    · simp only [List.filter_cons, this, if_true, Bool.not_true, Bool.false_eq_true, if_false, List.cons_append]
      rw [← ih.2.1]
    · simp only [List.filter_cons, this, Bool.not_true, Bool.false_eq_true, if_false]
      exact ih.2.2
theorem done_rest (s : List UInt8) : (doneL s).flatten ++ restL s = s := by
  have := (good_parts (split_good s)).2.1
  have h2 := congrArg List.flatten this
  rw [List.flatten_append, split_flat, split_flat] at h2
  exact h2.symm
theorem split_more (s c : List UInt8) : splitL (s ++ c) = doneL s ++ splitL (restL s ++ c) := by
  have h := split_allT (good_parts (split_good s)).1 (restL s ++ c)
  have e : ((splitL s).filter ends).flatten ++ (restL s ++ c) = s ++ c := by
    rw [← List.append_assoc]
    have := done_rest s
    unfold doneL at this
    rw [this]
  rw [e] at h
  exact h
/-- A chunk's lines. -/
theorem done_more (s c : List UInt8) : doneL (s ++ c) = doneL s ++ doneL (restL s ++ c) := by
  unfold doneL
  rw [split_more, List.filter_append]
  unfold doneL
  rw [List.filter_filter]; simp
theorem rest_more (s c : List UInt8) : restL (s ++ c) = restL (restL s ++ c) := by
  show ((splitL (s ++ c)).filter fun l => !ends l).flatten = _
  rw [split_more, List.filter_append]
  have : (doneL s).filter (fun l => !ends l) = [] := by
    unfold doneL
    rw [List.filter_filter]; simp
  rw [this]; rfl
theorem rest_no (s : List UInt8) : 10 ∉ restL s := (good_parts (split_good s)).2.2
end Go.Proofs.YtocghngmjipjoaaDoor.LinesP
