/- Lines, of no program: the lines of a string, their endings, dots at their starts, and what a feed has told. Header fields, of no program: fields out of lines, values, folding. Header values, of no program: unfolding, clean values, pieces, folded fields, and that they are read back. Header fields, of no program: what loops over indices hold at each index. -/
namespace Go.Proofs.YtdinachiiimngaaGreatDoor.Hd.LinesP
/-- The lines, endings and all. -/
def splitL : List UInt8 → List (List UInt8)
  | [] => []
  | c :: t => if c = 10 then [10] :: splitL t else match splitL t with
    | [] => [[c]]
    | l :: r => (c :: l) :: r
def Term (l : List UInt8) : Prop := ∃ m, l = m ++ [10] ∧ 10 ∉ m
def Tail (l : List UInt8) : Prop := l ≠ [] ∧ 10 ∉ l
inductive Good : List (List UInt8) → Prop
  | nil : Good []
  | last {l} : Tail l → Good [l]
  | cons {l r} : Term l → Good r → Good (l :: r)
theorem split_flat (s : List UInt8) : (splitL s).flatten = s := by
  induction s with
  | nil => rfl
  | cons c t ih =>
    unfold splitL
    by_cases hc : c = 10
    · rw [if_pos hc, List.flatten_cons, ih, hc]; rfl
    · rw [if_neg hc]
      split
      · rename_i h; rw [h] at ih; simp at ih; subst ih; rfl
      · rename_i l r h; rw [h] at ih; rw [← ih]; simp
theorem split_nil {s : List UInt8} (h : splitL s = []) : s = [] := by rw [← split_flat s, h]; rfl
theorem split_good (s : List UInt8) : Good (splitL s) := by
  induction s with
  | nil => exact .nil
  | cons c t ih =>
    unfold splitL
    by_cases hc : c = 10
    · rw [if_pos hc]; exact .cons ⟨[], rfl, by simp⟩ ih
    · rw [if_neg hc]
      split
      · exact .last ⟨by simp, by simp; exact fun e => hc e.symm⟩
      · rename_i l r h
        rw [h] at ih
        cases ih with
        | last hl => exact .last ⟨by simp, by simp; exact ⟨fun e => hc e.symm, hl.2⟩⟩
        | cons hl hr =>
          obtain ⟨m, rfl, hm⟩ := hl
          exact .cons ⟨c :: m, rfl, by simp; exact ⟨fun e => hc e.symm, hm⟩⟩ hr
theorem split_term (m t : List UInt8) (h : 10 ∉ m) : splitL (m ++ 10 :: t) = (m ++ [10]) :: splitL t := by
  induction m with
  | nil => show splitL (10 :: t) = _; rw [splitL, if_pos rfl]; rfl
  | cons c m ih =>
    simp at h
    rw [List.cons_append, splitL, if_neg (fun e => h.1 e.symm), ih h.2]; rfl
theorem split_tail {l : List UInt8} (h : Tail l) : splitL l = [l] := by
  obtain ⟨h1, h2⟩ := h
  induction l with
  | nil => exact absurd rfl h1
  | cons c m ih =>
    simp at h2
    rw [splitL, if_neg (fun e => h2.1 e.symm)]
    cases m with
    | nil => rfl
    | cons d m => rw [ih (by simp) h2.2]
theorem split_of_good {ls : List (List UInt8)} (h : Good ls) : splitL ls.flatten = ls := by
  induction h with
  | nil => rfl
  | last hl => rw [List.flatten_cons, List.flatten_nil, List.append_nil]; exact split_tail hl
  | cons hl _ ih =>
    obtain ⟨m, rfl, hm⟩ := hl
    rw [List.flatten_cons, List.append_assoc, List.singleton_append, split_term _ _ hm, ih]
/-- All lines are terminated. -/
def AllT (ls : List (List UInt8)) : Prop := ∀ l ∈ ls, Term l
theorem split_allT {ls : List (List UInt8)} (h : AllT ls) (b : List UInt8) : splitL (ls.flatten ++ b) = ls ++ splitL b := by
  induction ls with
  | nil => rfl
  | cons l r ih =>
    obtain ⟨m, rfl, hm⟩ := h l (List.mem_cons_self)
    rw [List.flatten_cons, List.append_assoc, List.append_assoc, List.singleton_append, split_term _ _ hm, ih (fun l hl => h l (List.mem_cons_of_mem _ hl))]; rfl
theorem good_ends {ls : List (List UInt8)} (h : Good ls) (he : ls.flatten = [] ∨ ls.flatten.getLast? = some 10) : AllT ls := by
  induction h with
  | nil => intro l hl; cases hl
  | @last l hl =>
    rw [List.flatten_cons, List.flatten_nil, List.append_nil] at he
    rcases he with he | he
    · exact absurd he hl.1
    · exact absurd (List.mem_of_getLast? he) hl.2
  | @cons l r hl hr ih =>
    intro x hx
    rcases List.mem_cons.1 hx with rfl | hx
    · exact hl
    · refine ih ?_ x hx
      rw [List.flatten_cons] at he
      by_cases hn : r.flatten = []
      · exact .inl hn
      · rcases he with he | he
        · exact .inl (List.append_eq_nil_iff.1 he).2
        · rw [List.getLast?_append] at he
          cases hx : r.flatten.getLast? with
          | none => exact absurd (List.getLast?_eq_none_iff.1 hx) hn
          | some x => rw [hx] at he; exact .inr he
theorem split_append (a b : List UInt8) (h : a = [] ∨ a.getLast? = some 10) : splitL (a ++ b) = splitL a ++ splitL b := by
  have := split_allT (good_ends (split_good a) (by rw [split_flat]; exact h)) b
  rwa [split_flat] at this
theorem good_map {ls : List (List UInt8)} (f : List UInt8 → List UInt8) (ht : ∀ l, Term l → Term (f l)) (hl : ∀ l, Tail l → Tail (f l)) (h : Good ls) : Good (ls.map f) := by
  induction h with
  | nil => exact .nil
  | last h => exact .last (hl _ h)
  | cons h _ ih => exact .cons (ht _ h) ih
theorem split_map (s : List UInt8) (f : List UInt8 → List UInt8) (ht : ∀ l, Term l → Term (f l)) (hl : ∀ l, Tail l → Tail (f l)) : splitL ((splitL s).map f).flatten = (splitL s).map f :=
  split_of_good (good_map f ht hl (split_good s))
theorem good_mem {ls : List (List UInt8)} (h : Good ls) : ∀ l ∈ ls, Term l ∨ Tail l := by
  induction h with
  | nil => intro l hl; cases hl
  | last h => intro l hl; rw [List.mem_singleton.1 hl]; exact .inr h
  | cons h _ ih =>
    intro l hl
    rcases List.mem_cons.1 hl with rfl | hl
    · exact .inl h
    · exact ih l hl
/- Endings. -/
def bareL (l : List UInt8) : List UInt8 := if l.getLast? = some 10 then (if l.dropLast.getLast? = some 13 then l.dropLast.dropLast else l.dropLast) else l
def crlf1 (l : List UInt8) : List UInt8 := if l.getLast? = some 10 then bareL l ++ [13, 10] else l
def crlfL (s : List UInt8) : List UInt8 := ((splitL s).map crlf1).flatten
theorem bare_term (m : List UInt8) : bareL (m ++ [10]) = if m.getLast? = some 13 then m.dropLast else m := by
  unfold bareL; simp
theorem bare_other {l : List UInt8} (h : l.getLast? ≠ some 10) : bareL l = l := by unfold bareL; rw [if_neg h]
theorem tail_last {l : List UInt8} (h : Tail l) : l.getLast? ≠ some 10 := fun e => h.2 (List.mem_of_getLast? e)
theorem bare_tail {l : List UInt8} (h : Tail l) : bareL l = l := bare_other (tail_last h)
theorem crlf_tail {l : List UInt8} (h : Tail l) : crlf1 l = l := by unfold crlf1; rw [if_neg (tail_last h)]
theorem crlf_term {l : List UInt8} (h : Term l) : crlf1 l = bareL l ++ [13, 10] := by
  obtain ⟨m, rfl, _⟩ := h
  unfold crlf1; rw [if_pos (by simp)]
theorem bare_no {l : List UInt8} (h : Term l) : 10 ∉ bareL l := by
  obtain ⟨m, rfl, hm⟩ := h
  rw [bare_term]
  split
  · exact fun e => hm ((List.dropLast_sublist m).subset e)
  · exact hm
theorem crlf_keeps {l : List UInt8} (h : Term l) : Term (crlf1 l) := by
  rw [crlf_term h]
  exact ⟨bareL l ++ [13], by simp, by simp; exact bare_no h⟩
theorem crlf_bare {l : List UInt8} (h : Term l ∨ Tail l) : bareL (crlf1 l) = bareL l := by
  rcases h with h | h
  · rw [crlf_term h, show bareL l ++ [13, 10] = (bareL l ++ [13]) ++ [10] by simp, bare_term]; simp
  · rw [crlf_tail h]
theorem crlf_twice {l : List UInt8} (h : Term l ∨ Tail l) : crlf1 (crlf1 l) = crlf1 l := by
  rcases h with h | h
  · rw [crlf_term (crlf_keeps h), crlf_bare (.inl h), ← crlf_term h]
  · rw [crlf_tail h, crlf_tail h]
theorem split_crlf (s : List UInt8) : splitL (crlfL s) = (splitL s).map crlf1 :=
  split_map s crlf1 (fun _ h => crlf_keeps h) (fun l h => by rw [crlf_tail h]; exact h)
theorem crlf_crlf (s : List UInt8) : crlfL (crlfL s) = crlfL s := by
  show ((splitL (crlfL s)).map crlf1).flatten = _
  rw [split_crlf, List.map_map]
  unfold crlfL
  congr 1
  exact List.map_congr_left fun l hl => crlf_twice (good_mem (split_good s) l hl)
/- Dots. -/
def stuff1 (l : List UInt8) : List UInt8 := if l.head? = some 46 then 46 :: l else l
def unstuff1 (l : List UInt8) : List UInt8 := if l.head? = some 46 then l.tail else l
def stuffL (s : List UInt8) : List UInt8 := ((splitL s).map stuff1).flatten
def unstuffL (s : List UInt8) : List UInt8 := ((splitL s).map unstuff1).flatten
theorem un_stuff1 (l : List UInt8) : unstuff1 (stuff1 l) = l := by
  unfold stuff1
  split
  · unfold unstuff1; rw [if_pos (show (46 :: l).head? = some 46 from rfl)]; rfl
  · rename_i h; unfold unstuff1; rw [if_neg h]
theorem stuff_keeps {l : List UInt8} (h : Term l) : Term (stuff1 l) := by
  unfold stuff1
  split
  · obtain ⟨m, rfl, hm⟩ := h
    exact ⟨46 :: m, rfl, by simp; exact hm⟩
  · exact h
theorem stuff_tail {l : List UInt8} (h : Tail l) : Tail (stuff1 l) := by
  unfold stuff1
  split
  · exact ⟨by simp, by simp; exact h.2⟩
  · exact h
theorem split_stuff (s : List UInt8) : splitL (stuffL s) = (splitL s).map stuff1 := split_map s stuff1 (fun _ h => stuff_keeps h) (fun _ h => stuff_tail h)
theorem unstuff_stuff (s : List UInt8) : unstuffL (stuffL s) = s := by
  unfold unstuffL
  rw [split_stuff, List.map_map, show unstuff1 ∘ stuff1 = id from funext un_stuff1, List.map_id, split_flat]
theorem bare_dot (c : UInt8) {l : List UInt8} (h : l.head? = some 46) : bareL (c :: l) = c :: bareL l := by
  cases l with
  | nil => simp at h
  | cons d m =>
    have hd : d = 46 := by simpa using h
    subst hd
    unfold bareL
    rw [List.getLast?_cons_cons]
    split
    · rename_i h1
      cases m with
      | nil => exact absurd h1 (by decide)
      | cons e m =>
        rw [show (c :: 46 :: e :: m).dropLast = c :: 46 :: (e :: m).dropLast from rfl, show (46 :: e :: m).dropLast = 46 :: (e :: m).dropLast from rfl, List.getLast?_cons_cons]
        split
        · rename_i h2
          cases hm : (e :: m).dropLast with
          | nil => rw [hm] at h2; exact absurd h2 (by decide)
          | cons f m => rfl
        · rfl
    · rfl
theorem stuff_bare (l : List UInt8) : bareL (stuff1 l) = if l.head? = some 46 then 46 :: bareL l else bareL l := by
  unfold stuff1
  split
  · rename_i h; exact bare_dot 46 h
  · rfl
/-- The lengths of the endings stay. -/
theorem bare_le (l : List UInt8) : (bareL l).length ≤ l.length := by
  unfold bareL; split
  · split <;> simp <;> omega
  · exact Nat.le_refl _
theorem stuff_ending (l : List UInt8) : (stuff1 l).length - (bareL (stuff1 l)).length = l.length - (bareL l).length := by
  rw [stuff_bare]
  unfold stuff1
  split
  · simp
  · rfl
theorem bare_head {l : List UInt8} (h : l.head? = some 46) : (bareL l).head? = some 46 := by
  cases l with
  | nil => simp at h
  | cons d m =>
    have hd : d = 46 := by simpa using h
    subst hd
    unfold bareL
    split
    · rename_i h1
      cases m with
      | nil => exact absurd h1 (by decide)
      | cons e m =>
        rw [show (46 :: e :: m).dropLast = 46 :: (e :: m).dropLast from rfl]
        split
        · rename_i h2
          cases hm : (e :: m).dropLast with
          | nil => rw [hm] at h2; exact absurd h2 (by decide)
          | cons f m => rfl
        · rfl
    · rfl
/-- No line of a stuffed string is a single dot. -/
theorem stuff_no_dot (l : List UInt8) (h : Term l ∨ Tail l) : bareL (stuff1 l) ≠ [46] := by
  rw [stuff_bare]
  split
  · rename_i h1
    intro e
    have := bare_head h1
    rw [List.cons.inj e |>.2] at this
    simp at this
  · rename_i h1
    intro e
    rcases h with h | h
    · obtain ⟨m, rfl, hm⟩ := h
      rw [bare_term] at e
      split at e
      · rename_i h2
        obtain ⟨k, rfl⟩ := List.getLast?_eq_some_iff.1 h2
        simp at e
        subst e
        exact h1 rfl
      · subst e; exact h1 rfl
    · rw [bare_tail h] at e; subst e; exact h1 rfl
theorem head_append {a b : List UInt8} (h : a ≠ []) : (a ++ b).head? = a.head? := by
  cases a with
  | nil => exact absurd rfl h
  | cons c t => rfl
theorem bare_head_iff {l : List UInt8} (h : Term l) : (crlf1 l).head? = some 46 ↔ l.head? = some 46 := by
  rw [crlf_term h]
  constructor
  · intro h1
    by_cases hb : bareL l = []
    · rw [hb] at h1; exact absurd h1 (by decide)
    · rw [head_append hb] at h1
      obtain ⟨m, rfl, hm⟩ := h
      rw [bare_term] at h1 hb
      split at h1
      · rename_i h2
        rw [if_pos h2] at hb
        cases m with
        | nil => simp at hb
        | cons a b =>
          cases b with
          | nil => simp at hb
          | cons c d => simpa using h1
      · cases m with
        | nil => simp at h1
        | cons a b => simpa using h1
  · intro h1
    have := bare_head h1
    rw [head_append (fun e => by rw [e] at this; simp at this)]
    exact this
theorem crlf_stuff1 {l : List UInt8} (h : Term l ∨ Tail l) : crlf1 (stuff1 l) = stuff1 (crlf1 l) := by
  rcases h with h | h
  · rw [crlf_term (stuff_keeps h), stuff_bare]
    by_cases h1 : l.head? = some 46
    · rw [if_pos h1, stuff1, if_pos ((bare_head_iff h).2 h1), crlf_term h]; rfl
    · rw [if_neg h1, stuff1, if_neg (fun e => h1 ((bare_head_iff h).1 e)), crlf_term h]
  · rw [crlf_tail (stuff_tail h), crlf_tail h]
theorem crlf_stuff (s : List UInt8) : crlfL (stuffL s) = stuffL (crlfL s) := by
  show ((splitL (stuffL s)).map crlf1).flatten = ((splitL (crlfL s)).map stuff1).flatten
  rw [split_stuff, split_crlf, List.map_map, List.map_map]
  congr 1
  exact List.map_congr_left fun l hl => crlf_stuff1 (good_mem (split_good s) l hl)
/- What a feed has told of its input. -/
def ends (l : List UInt8) : Bool := l.getLast? == some 10
def doneL (s : List UInt8) : List (List UInt8) := (splitL s).filter ends
def restL (s : List UInt8) : List UInt8 := ((splitL s).filter fun l => !ends l).flatten
theorem ends_term {l : List UInt8} (h : Term l) : ends l = true := by
  obtain ⟨m, rfl, _⟩ := h; simp [ends]
theorem ends_tail {l : List UInt8} (h : Tail l) : ends l = false := by
  have := tail_last h
  simp only [ends, beq_eq_false_iff_ne]; exact this
theorem good_parts {ls : List (List UInt8)} (h : Good ls) : AllT (ls.filter ends) ∧ ls = ls.filter ends ++ splitL (ls.filter fun l => !ends l).flatten ∧ 10 ∉ (ls.filter fun l => !ends l).flatten := by
  induction h with
  | nil => exact ⟨fun l hl => (by cases hl), rfl, by simp⟩
  | @last l hl =>
    have := ends_tail hl
    refine ⟨fun x hx => ?_, ?_, ?_⟩
    · simp [this] at hx
    · simp [this, split_tail hl]
    · simp [this]; exact hl.2
  | @cons l r hl hr ih =>
    have := ends_term hl
    refine ⟨fun x hx => ?_, ?_, ?_⟩
    · simp only [List.filter_cons, this, if_true] at hx
      rcases List.mem_cons.1 hx with rfl | hx
      · exact hl
      · exact ih.1 x hx
    · simp only [List.filter_cons, this, if_true, Bool.not_true, Bool.false_eq_true, if_false, List.cons_append]
      rw [← ih.2.1]
    · simp only [List.filter_cons, this, Bool.not_true, Bool.false_eq_true, if_false]
      exact ih.2.2
theorem done_rest (s : List UInt8) : (doneL s).flatten ++ restL s = s := by
  have := (good_parts (split_good s)).2.1
  have h2 := congrArg List.flatten this
  rw [List.flatten_append, split_flat, split_flat] at h2
  exact h2.symm
theorem split_more (s c : List UInt8) : splitL (s ++ c) = doneL s ++ splitL (restL s ++ c) := by
  have h := split_allT (good_parts (split_good s)).1 (restL s ++ c)
  have e : ((splitL s).filter ends).flatten ++ (restL s ++ c) = s ++ c := by
    rw [← List.append_assoc]
    have := done_rest s
    unfold doneL at this
    rw [this]
  rw [e] at h
  exact h
/-- A chunk's lines. -/
theorem done_more (s c : List UInt8) : doneL (s ++ c) = doneL s ++ doneL (restL s ++ c) := by
  unfold doneL
  rw [split_more, List.filter_append]
  unfold doneL
  rw [List.filter_filter]; simp
theorem rest_more (s c : List UInt8) : restL (s ++ c) = restL (restL s ++ c) := by
  show ((splitL (s ++ c)).filter fun l => !ends l).flatten = _
  rw [split_more, List.filter_append]
  have : (doneL s).filter (fun l => !ends l) = [] := by
    unfold doneL
    rw [List.filter_filter]; simp
  rw [this]; rfl
theorem rest_no (s : List UInt8) : 10 ∉ restL s := (good_parts (split_good s)).2.2
end Go.Proofs.YtdinachiiimngaaGreatDoor.Hd.LinesP
namespace Go.Proofs.YtdinachiiimngaaGreatDoor.Hd.HdrP
open LinesP

def blank (c : UInt8) : Bool := c == 32 || c == 9
def begun (l : List UInt8) : Bool := l.head?.any blank
/-- A field. -/
structure Fld where
  name : List UInt8
  value : List UInt8
  raw : List UInt8
  bad : Bool
deriving DecidableEq
def nameByte (c : UInt8) : Bool := decide (33 ≤ c.toNat) && decide (c.toNat ≤ 126) && c != 58
def rightL (n : List UInt8) : Bool := !n.isEmpty && n.all nameByte
def trimR (l : List UInt8) : List UInt8 := (l.reverse.dropWhile blank).reverse
def trimL (l : List UInt8) : List UInt8 := trimR (l.dropWhile blank)
def upto (l : List UInt8) : List UInt8 := l.takeWhile (· != 58)
def fieldL (first more : List UInt8) : Fld :=
  if 58 ∈ bareL first ∧ rightL (trimR (upto (bareL first))) = true then
    ⟨trimR (upto (bareL first)), bareL ((first ++ more).drop ((upto (bareL first)).length + 1)), first ++ more, false⟩
  else ⟨[], [], first ++ more, true⟩
theorem field_raw (f m : List UInt8) : (fieldL f m).raw = f ++ m := by unfold fieldL; split <;> rfl
theorem field_bad (f m : List UInt8) : (fieldL f m).bad = (fieldL f m).name.isEmpty := by
  unfold fieldL
  split
  · rename_i h
    have h2 := h.2
    unfold rightL at h2
    simp only [Bool.and_eq_true, Bool.not_eq_true'] at h2
    exact h2.1.symm
  · rfl
/-- The name hangs on the first line alone. -/
theorem field_name (f m m' : List UInt8) : (fieldL f m).name = (fieldL f m').name ∧ (fieldL f m).bad = (fieldL f m').bad := by
  unfold fieldL; split <;> exact ⟨rfl, rfl⟩
/-- The leading continuation lines' text. -/
def moreL : List (List UInt8) → List UInt8
  | [] => []
  | l :: r => if begun l then l ++ moreL r else []
/-- The fields behind them. -/
def nextL : List (List UInt8) → List Fld
  | [] => []
  | l :: r => if begun l then nextL r else fieldL l (moreL r) :: nextL r
def groups : List (List UInt8) → List Fld
  | [] => []
  | l :: r => fieldL l (moreL r) :: nextL r
/-- No continuation line is first. -/
def Stop (ls : List (List UInt8)) : Prop := ∀ l, ls.head? = some l → begun l = false
theorem stop_more {ls : List (List UInt8)} (h : Stop ls) : moreL ls = [] ∧ nextL ls = groups ls := by
  cases ls with
  | nil => exact ⟨rfl, rfl⟩
  | cons l r =>
    have := h l rfl
    simp [moreL, nextL, groups, this]
theorem more_append (a : List (List UInt8)) {b : List (List UInt8)} (h : Stop b) : moreL (a ++ b) = moreL a ∧ nextL (a ++ b) = nextL a ++ groups b := by
  induction a with
  | nil => exact stop_more h
  | cons l r ih =>
    by_cases hb : begun l = true
    · simp [moreL, nextL, hb, ih]
    · simp [moreL, nextL, hb, ih]
theorem groups_append {a b : List (List UInt8)} (h : Stop b) : groups (a ++ b) = groups a ++ groups b := by
  cases a with
  | nil => rfl
  | cons l r => simp [groups, more_append r h]
theorem next_raw (ls : List (List UInt8)) : moreL ls ++ ((nextL ls).map Fld.raw).flatten = ls.flatten := by
  induction ls with
  | nil => rfl
  | cons l r ih =>
    by_cases hb : begun l = true
    · simp [moreL, nextL, hb, ← ih]
    · simp [moreL, nextL, hb, field_raw, ← ih]
theorem groups_raw (ls : List (List UInt8)) : ((groups ls).map Fld.raw).flatten = ls.flatten := by
  cases ls with
  | nil => rfl
  | cons l r => simp [groups, field_raw, ← next_raw r]
theorem all_begun {cs : List (List UInt8)} (h : ∀ c ∈ cs, begun c = true) : moreL cs = cs.flatten ∧ nextL cs = [] := by
  induction cs with
  | nil => exact ⟨rfl, rfl⟩
  | cons c r ih =>
    have h1 := h c (by simp)
    have h2 := ih fun x hx => h x (by simp [hx])
    simp [moreL, nextL, h1, h2]
theorem groups_one {l : List UInt8} {cs : List (List UInt8)} (h : ∀ c ∈ cs, begun c = true) : groups (l :: cs) = [fieldL l cs.flatten] := by
  simp [groups, all_begun h]
theorem more_lines (ls : List (List UInt8)) : ∃ cs rest, ls = cs ++ rest ∧ (∀ c ∈ cs, begun c = true) ∧ moreL ls = cs.flatten := by
  induction ls with
  | nil => exact ⟨[], [], rfl, by simp, rfl⟩
  | cons l r ih =>
    by_cases hb : begun l = true
    · obtain ⟨cs, rest, rfl, h1, h2⟩ := ih
      exact ⟨l :: cs, rest, rfl, fun c hc => by rcases List.mem_cons.1 hc with rfl | hc; exact hb; exact h1 c hc, by simp [moreL, hb, h2]⟩
    · exact ⟨[], l :: r, rfl, by simp, by simp [moreL, hb]⟩
theorem good_left {a b : List (List UInt8)} (h : Good (a ++ b)) : Good a := by
  induction a with
  | nil => exact .nil
  | cons l r ih =>
    rw [List.cons_append] at h
    generalize e : r ++ b = t at h
    cases h with
    | last h' =>
      obtain rfl : r = [] := (List.append_eq_nil_iff.1 e).1
      exact .last h'
    | cons h1 h2 => exact .cons h1 (ih (by rw [e]; exact h2))
theorem good_tail {l : List UInt8} {r : List (List UInt8)} (h : Good (l :: r)) : Good r := by
  cases h with
  | last _ => exact .nil
  | cons _ h => exact h
/-- Each field is a line and continuation lines. -/
theorem next_parts (ls : List (List UInt8)) (hG : Good ls) : ∀ f ∈ nextL ls, ∃ l cs, f = fieldL l cs.flatten ∧ (∀ c ∈ cs, begun c = true) ∧ Good (l :: cs) ∧ ∀ x ∈ l :: cs, x ∈ ls := by
  induction ls with
  | nil => intro f hf; cases hf
  | cons l r ih =>
    intro f hf
    have tail : f ∈ nextL r → _ := fun hf => ih (good_tail hG) f hf
    by_cases hb : begun l = true
    · simp only [nextL, hb, if_true] at hf
      obtain ⟨l', cs, h1, h2, h3, h4⟩ := tail hf
      exact ⟨l', cs, h1, h2, h3, fun x hx => List.mem_cons_of_mem _ (h4 x hx)⟩
    · simp only [nextL, hb, Bool.false_eq_true, if_false] at hf
      rcases List.mem_cons.1 hf with rfl | hf
      · obtain ⟨cs, rest, e, h1, h2⟩ := more_lines r
        rw [h2]
        refine ⟨l, cs, rfl, h1, good_left (b := rest) ?_, ?_⟩
        · rw [List.cons_append, ← e]; exact hG
        · intro x hx
          rcases List.mem_cons.1 hx with rfl | hx
          · simp
          · rw [e]; simp [hx]
      · obtain ⟨l', cs, h1, h2, h3, h4⟩ := tail hf
        exact ⟨l', cs, h1, h2, h3, fun x hx => List.mem_cons_of_mem _ (h4 x hx)⟩
theorem group_parts (ls : List (List UInt8)) (hG : Good ls) : ∀ f ∈ groups ls, ∃ l cs, f = fieldL l cs.flatten ∧ (∀ c ∈ cs, begun c = true) ∧ Good (l :: cs) ∧ ∀ x ∈ l :: cs, x ∈ ls := by
  cases ls with
  | nil => intro f hf; cases hf
  | cons l r =>
    intro f hf
    rcases List.mem_cons.1 hf with rfl | hf
    · obtain ⟨cs, rest, e, h1, h2⟩ := more_lines r
      rw [h2]
      refine ⟨l, cs, rfl, h1, good_left (b := rest) ?_, ?_⟩
      · rw [List.cons_append, ← e]; exact hG
      · intro x hx
        rcases List.mem_cons.1 hx with rfl | hx
        · simp
        · rw [e]; simp [hx]
    · obtain ⟨l', cs, h1, h2, h3, h4⟩ := next_parts r (good_tail hG) f hf
      exact ⟨l', cs, h1, h2, h3, fun x hx => List.mem_cons_of_mem _ (h4 x hx)⟩
/-! The header section. -/
def full (l : List UInt8) : Bool := !(bareL l).isEmpty
def hdrL (ls : List (List UInt8)) : List (List UInt8) := ls.takeWhile full
def parseL (s : List UInt8) : List Fld := groups (hdrL (splitL s))
/-- Where the body starts. -/
def atL (s : List UInt8) : Nat := (hdrL (splitL s)).flatten.length + (((splitL s).dropWhile full).head?.getD []).length
theorem hdr_all {ls : List (List UInt8)} (h : ∀ l ∈ ls, full l = true) (b : List (List UInt8)) : hdrL (ls ++ b) = ls ++ hdrL b ∧ (ls ++ b).dropWhile full = b.dropWhile full := by
  induction ls with
  | nil => exact ⟨rfl, rfl⟩
  | cons l r ih =>
    have h1 := h l (by simp)
    have h2 := ih fun x hx => h x (by simp [hx])
    unfold hdrL at h2 ⊢
    simp [h1, h2]
theorem hdr_full (ls : List (List UInt8)) : ∀ l ∈ hdrL ls, full l = true := by
  induction ls with
  | nil => intro l hl; cases hl
  | cons x r ih =>
    intro l hl
    unfold hdrL at hl
    by_cases hx : full x = true
    · rw [List.takeWhile_cons_of_pos hx] at hl
      rcases List.mem_cons.1 hl with rfl | hl
      · exact hx
      · exact ih l hl
    · rw [List.takeWhile_cons_of_neg hx] at hl; cases hl
theorem hdr_id {ls : List (List UInt8)} (h : ∀ l ∈ ls, full l = true) : hdrL ls = ls ∧ ls.dropWhile full = [] := by
  have := hdr_all h []
  rw [List.append_nil] at this
  exact ⟨by rw [this.1]; simp [hdrL], this.2⟩
theorem hdr_good {ls : List (List UInt8)} (h : Good ls) : Good (hdrL ls) := by
  have := List.takeWhile_append_dropWhile (p := full) (l := ls)
  exact good_left (b := ls.dropWhile full) (by unfold hdrL; rw [this]; exact h)
/-- An empty line is an ending alone. -/
theorem not_full {l : List UInt8} (h : Term l ∨ Tail l) (hf : full l = false) : l = [10] ∨ l = [13, 10] := by
  unfold full at hf
  have e : bareL l = [] := by simpa using hf
  rcases h with h | h
  · obtain ⟨m, rfl, _⟩ := h
    rw [bare_term] at e
    by_cases h13 : m.getLast? = some 13
    · rw [if_pos h13] at e
      right
      obtain ⟨y, rfl⟩ := List.getLast?_eq_some_iff.1 h13
      rw [List.dropLast_concat] at e
      rw [e]; rfl
    · rw [if_neg h13] at e
      left; rw [e]; rfl
  · rw [bare_tail h] at e
    exact absurd e h.1
theorem at_parts (s : List UInt8) : ∃ line rest, s = (hdrL (splitL s)).flatten ++ line ++ rest ∧ atL s = (hdrL (splitL s)).flatten.length + line.length ∧ (line = [] ∧ rest = [] ∨ line = [10] ∨ line = [13, 10]) := by
  have h1 := List.takeWhile_append_dropWhile (p := full) (l := splitL s)
  have h2 := split_flat s
  have hg := split_good s
  unfold atL
  cases hd : (splitL s).dropWhile full with
  | nil =>
    refine ⟨[], [], ?_, rfl, .inl ⟨rfl, rfl⟩⟩
    rw [hd, List.append_nil] at h1
    unfold hdrL
    rw [h1, h2]; simp
  | cons l r =>
    refine ⟨l, r.flatten, ?_, rfl, .inr ?_⟩
    · conv => lhs; rw [← h2, ← h1, hd]
      simp [hdrL]
    · have hm : l ∈ splitL s := by rw [← h1, hd]; simp
      have hf : full l = false := by
        have := List.head?_dropWhile_not full (splitL s)
        rw [hd] at this
        simpa using this
      exact not_full (good_mem hg l hm) hf
/-- HeaderWhole. -/
theorem parse_join (s : List UInt8) : splitL (hdrL (splitL s)).flatten = hdrL (splitL s) ∧ parseL (hdrL (splitL s)).flatten = parseL s ∧ atL (hdrL (splitL s)).flatten = (hdrL (splitL s)).flatten.length := by
  have h1 := split_of_good (hdr_good (split_good s))
  have h2 := hdr_id (hdr_full (splitL s))
  refine ⟨h1, ?_, ?_⟩
  · unfold parseL; rw [h1, h2.1]
  · unfold atL; rw [h1, h2.1, h2.2]; rfl
theorem parse_raw (s : List UInt8) : ((parseL s).map Fld.raw).flatten = (hdrL (splitL s)).flatten := groups_raw _
theorem parse_one (s : List UInt8) : ∀ f ∈ parseL s, f.raw ≠ [] ∧ parseL f.raw = [f] ∧ atL f.raw = f.raw.length ∧ f.bad = f.name.isEmpty := by
  intro f hf
  obtain ⟨l, cs, rfl, h1, h2, h3⟩ := group_parts _ (hdr_good (split_good s)) f hf
  have h4 : splitL (l ++ cs.flatten) = l :: cs := split_of_good h2
  have h5 : ∀ x ∈ l :: cs, full x = true := fun x hx => hdr_full _ x (h3 x hx)
  have h6 := hdr_id h5
  rw [field_raw]
  refine ⟨?_, ?_, ?_, field_bad _ _⟩
  · rcases good_mem h2 l (by simp) with ⟨m, rfl, _⟩ | h
    · simp
    · intro e; exact h.1 (List.append_eq_nil_iff.1 e).1
  · unfold parseL; rw [h4, h6.1, groups_one h1]
  · unfold atL; rw [h4, h6.1, h6.2]; simp
/-- HeaderApart, HeaderGoes: what stands behind whole lines of the header section, and does not begin with a blank, is read as if it stood alone. -/
theorem parse_append {ls : List (List UInt8)} (h : AllT ls) (hf : ∀ l ∈ ls, full l = true) (b : List UInt8) (hb : Stop (hdrL (splitL b))) : parseL (ls.flatten ++ b) = groups ls ++ parseL b ∧ atL (ls.flatten ++ b) = ls.flatten.length + atL b := by
  have h1 := split_allT h b
  have h2 := hdr_all hf (splitL b)
  unfold parseL atL
  rw [h1, h2.1, h2.2]
  refine ⟨groups_append hb, ?_⟩
  rw [List.flatten_append, List.length_append]; omega
theorem stop_hdr {b : List UInt8} (h : b.head?.any blank = false) : Stop (hdrL (splitL b)) := by
  intro l hl
  cases b with
  | nil => simp [splitL, hdrL] at hl
  | cons c t =>
    have h1 : ∃ x r, splitL (c :: t) = (c :: x) :: r := by
      unfold splitL
      by_cases hc : c = 10
      · rw [if_pos hc]; exact ⟨[], _, by rw [hc]⟩
      · rw [if_neg hc]
        split
        · exact ⟨[], [], rfl⟩
        · exact ⟨_, _, rfl⟩
    obtain ⟨x, r, e⟩ := h1
    rw [e] at hl
    unfold hdrL at hl
    by_cases hx : full (c :: x) = true
    · rw [List.takeWhile_cons_of_pos hx] at hl
      simp at hl
      subst hl
      exact h
    · rw [List.takeWhile_cons_of_neg hx] at hl; cases hl
end Go.Proofs.YtdinachiiimngaaGreatDoor.Hd.HdrP
namespace Go.Proofs.YtdinachiiimngaaGreatDoor.Hd.HdrP
open LinesP

def unfoldL : List UInt8 → List UInt8
  | [] => []
  | c :: t => if c = 10 then unfoldL t else if c = 13 ∧ t.head? = some 10 then unfoldL t else c :: unfoldL t
def flat1 (c : UInt8) : UInt8 := if c = 10 ∨ c = 13 then 32 else c
def cleanL (s : List UInt8) : List UInt8 := trimL (s.map flat1)
def low (c : UInt8) : UInt8 := if 65 ≤ c.toNat ∧ c.toNat ≤ 90 then c + 32 else c
def allL (l : List Fld) (name : List UInt8) : List (List UInt8) := (l.filter fun f => !f.bad && (f.name.map low == name.map low)).map fun f => trimL (unfoldL f.value)
/-- No ending inside. -/
def Plain (l : List UInt8) : Prop := ∀ c ∈ l, c ≠ 10 ∧ c ≠ 13
theorem Plain.append {a b : List UInt8} (h : Plain a) (k : Plain b) : Plain (a ++ b) := fun c hc => by
  rcases List.mem_append.1 hc with hc | hc
  · exact h c hc
  · exact k c hc
theorem Plain.no {a : List UInt8} (h : Plain a) : 10 ∉ a := fun hc => (h 10 hc).1 rfl
theorem unfold_plain {m : List UInt8} (h : Plain m) (t : List UInt8) : unfoldL (m ++ t) = m ++ unfoldL t := by
  induction m with
  | nil => rfl
  | cons c r ih =>
    have h1 := h c (by simp)
    rw [List.cons_append, unfoldL, if_neg h1.1, if_neg (fun e => h1.2 e.1), ih fun x hx => h x (by simp [hx])]; rfl
theorem unfold_crlf (t : List UInt8) : unfoldL (13 :: 10 :: t) = unfoldL t := by
  rw [unfoldL, if_neg (by decide), if_pos ⟨rfl, rfl⟩, unfoldL, if_pos rfl]
/-! Trimming. -/
def Trimmed (l : List UInt8) : Prop := (∀ c, l.head? = some c → blank c = false) ∧ ∀ c, l.getLast? = some c → blank c = false
theorem drop_head (l : List UInt8) (c : UInt8) (h : (l.dropWhile blank).head? = some c) : blank c = false := by
  have := List.head?_dropWhile_not blank l
  rw [h] at this
  simpa using this
theorem drop_fixed {l : List UInt8} (h : ∀ c, l.head? = some c → blank c = false) : l.dropWhile blank = l := by
  cases l with
  | nil => rfl
  | cons c r => rw [List.dropWhile_cons_of_neg (by rw [h c rfl]; exact Bool.false_ne_true)]
theorem trimR_fixed {l : List UInt8} (h : ∀ c, l.getLast? = some c → blank c = false) : trimR l = l := by
  unfold trimR
  rw [drop_fixed (l := l.reverse) (fun c hc => h c (by rw [List.head?_reverse] at hc; exact hc)), List.reverse_reverse]
theorem trimR_last (l : List UInt8) (c : UInt8) (h : (trimR l).getLast? = some c) : blank c = false := by
  unfold trimR at h
  rw [List.getLast?_reverse] at h
  exact drop_head _ _ h
theorem trimR_head {l : List UInt8} (h : ∀ c, l.head? = some c → blank c = false) : ∀ c, (trimR l).head? = some c → blank c = false := by
  intro c hc
  obtain ⟨t, ht⟩ : ∃ t, l = trimR l ++ t := by
    unfold trimR
    refine ⟨(l.reverse.takeWhile blank).reverse, ?_⟩
    rw [← List.reverse_append, List.takeWhile_append_dropWhile, List.reverse_reverse]
  refine h c ?_
  rw [ht, List.head?_append, hc]; rfl
theorem trim_trimmed (s : List UInt8) : Trimmed (trimL s) :=
  ⟨trimR_head fun c hc => drop_head s c hc, trimR_last _⟩
theorem trim_fixed {t : List UInt8} (h : Trimmed t) : trimL t = t := by
  unfold trimL
  rw [drop_fixed h.1, trimR_fixed h.2]
theorem trim_blank {t : List UInt8} (h : Trimmed t) : trimL (32 :: t) = t := by
  have : (32 :: t).dropWhile blank = t.dropWhile blank := List.dropWhile_cons_of_pos rfl
  unfold trimL
  rw [this]
  exact trim_fixed h
theorem trim_sub (s : List UInt8) : ∀ c ∈ trimL s, c ∈ s := by
  intro c hc
  unfold trimL trimR at hc
  have h1 := (List.dropWhile_sublist blank).subset (List.mem_reverse.1 hc)
  exact (List.dropWhile_sublist blank).subset (List.mem_reverse.1 h1)
theorem clean_plain (s : List UInt8) : Plain (cleanL s) := by
  intro c hc
  obtain ⟨d, _, rfl⟩ := List.mem_map.1 (trim_sub _ c hc)
  unfold flat1
  split
  · exact ⟨by decide, by decide⟩
  · rename_i h
    exact ⟨fun e => h (.inl e), fun e => h (.inr e)⟩
theorem trim_any {b : List UInt8} (h : b.any (fun c => !blank c) = true) : trimL b ≠ [] := by
  intro e
  obtain ⟨c, hc, hn⟩ := List.any_eq_true.1 h
  have hn : blank c = false := by simpa using hn
  have h1 : c ∈ b.dropWhile blank := by
    have := List.takeWhile_append_dropWhile (p := blank) (l := b)
    rw [← this] at hc
    rcases List.mem_append.1 hc with hc | hc
    · have := List.all_eq_true.1 (List.all_takeWhile (p := blank) (l := b)) c hc
      rw [hn] at this; cases this
    · exact hc
  unfold trimL trimR at e
  have e := List.reverse_eq_nil_iff.1 e
  have h2 := List.takeWhile_append_dropWhile (p := blank) (l := (b.dropWhile blank).reverse)
  rw [e, List.append_nil] at h2
  have h3 := List.all_eq_true.1 (List.all_takeWhile (p := blank) (l := (b.dropWhile blank).reverse)) c (by rw [h2]; exact List.mem_reverse.2 h1)
  rw [hn] at h3; cases h3
/-! Pieces. -/
/-- Behind a byte: what belongs to its piece, and the later pieces. -/
def pc (p : UInt8) : List UInt8 → List UInt8 × List (List UInt8)
  | [] => ([], [])
  | c :: r => if blank c && !blank p then ([], (c :: (pc c r).1) :: (pc c r).2) else (c :: (pc c r).1, (pc c r).2)
def piecesL : List UInt8 → List (List UInt8)
  | [] => []
  | c :: r => (c :: (pc c r).1) :: (pc c r).2
theorem pc_flat (p : UInt8) (r : List UInt8) : (pc p r).1 ++ (pc p r).2.flatten = r := by
  induction r generalizing p with
  | nil => rfl
  | cons c r ih =>
    unfold pc
    split
    · simp [ih c]
    · simp [ih c]
theorem pieces_flat (s : List UInt8) : (piecesL s).flatten = s := by
  cases s with
  | nil => rfl
  | cons c r => simp [piecesL, pc_flat]
theorem pc_idem (p : UInt8) (r : List UInt8) : pc p (pc p r).1 = ((pc p r).1, []) := by
  induction r generalizing p with
  | nil => rfl
  | cons c r ih =>
    by_cases h : (blank c && !blank p) = true
    · simp [pc, h]
    · have := ih c
      simp [pc, h, this]
theorem pc_run {p : UInt8} (hp : blank p = true) {r : List UInt8} (h : r.any (fun c => !blank c) = true) : (pc p r).1.any (fun c => !blank c) = true := by
  induction r generalizing p with
  | nil => cases h
  | cons d r ih =>
    simp only [pc, hp, Bool.not_true, Bool.and_false, Bool.false_eq_true, if_false, List.any_cons]
    by_cases hd : blank d = true
    · simp only [List.any_cons, hd, Bool.not_true, Bool.false_or] at h
      rw [ih hd h]; simp
    · simp [hd]
/-- A piece: begun by a blank, not of blanks alone, and whole. -/
def Piece (x : List UInt8) : Prop := begun x = true ∧ x.any (fun c => !blank c) = true ∧ piecesL x = [x]
theorem pc_pieces (p : UInt8) (r : List UInt8) (h : ∀ c, r.getLast? = some c → blank c = false) : ∀ x ∈ (pc p r).2, Piece x := by
  induction r generalizing p with
  | nil => intro x hx; cases hx
  | cons c r ih =>
    have h' : ∀ d, r.getLast? = some d → blank d = false := fun d hd => h d (by rw [List.getLast?_cons, hd]; rfl)
    intro x hx
    unfold pc at hx
    by_cases hc : (blank c && !blank p) = true
    · rw [if_pos hc] at hx
      rcases List.mem_cons.1 hx with rfl | hx
      · have hb : blank c = true := by simp at hc; exact hc.1
        have hr : r.any (fun c => !blank c) = true := by
          cases hl : r.getLast? with
          | none =>
            have : r = [] := List.getLast?_eq_none_iff.1 hl
            subst this
            have := h c rfl
            rw [hb] at this; cases this
          | some d => exact List.any_eq_true.2 ⟨d, List.mem_of_getLast? hl, by rw [h' d hl]; rfl⟩
        refine ⟨hb, ?_, ?_⟩
        · rw [List.any_cons, pc_run hb hr]; simp
        · simp [piecesL, pc_idem]
      · exact ih c h' x hx
    · rw [if_neg hc] at hx
      exact ih c h' x hx
theorem pieces_tail {s : List UInt8} (h : Trimmed s) : ∀ x ∈ (piecesL s).tail, Piece x := by
  cases s with
  | nil => intro x hx; cases hx
  | cons c r =>
    refine pc_pieces c r fun d hd => h.2 d ?_
    rw [List.getLast?_cons, hd]; rfl
/-! Folding. -/
def foldR (n : Nat) : List (List UInt8) → List UInt8
  | [] => []
  | x :: r => if 78 < n + x.length then [13, 10] ++ x ++ foldR x.length r else x ++ foldR (n + x.length) r
def foldLines (cur : List UInt8) : List (List UInt8) → List (List UInt8)
  | [] => [cur ++ [13, 10]]
  | x :: r => if 78 < cur.length + x.length then (cur ++ [13, 10]) :: foldLines x r else foldLines (cur ++ x) r
theorem fold_flat (cur : List UInt8) (r : List (List UInt8)) : (foldLines cur r).flatten = cur ++ foldR cur.length r ++ [13, 10] := by
  induction r generalizing cur with
  | nil => simp [foldLines, foldR]
  | cons x r ih =>
    unfold foldLines foldR
    split
    · rw [List.flatten_cons, ih]; simp
    · rw [ih]; simp
theorem unfold_fold (n : Nat) (r : List (List UInt8)) (h : ∀ x ∈ r, Plain x) (t : List UInt8) : unfoldL (foldR n r ++ t) = r.flatten ++ unfoldL t := by
  induction r generalizing n with
  | nil => rfl
  | cons x r ih =>
    have h1 := h x (by simp)
    have h2 := fun n => ih n fun y hy => h y (by simp [hy])
    unfold foldR
    split
    · rw [List.append_assoc, List.append_assoc, List.cons_append, List.cons_append, List.nil_append, unfold_crlf, unfold_plain h1, h2]; simp
    · rw [List.append_assoc, unfold_plain h1, h2]; simp
theorem bare_crlf (b : List UInt8) : bareL (b ++ [13, 10]) = b := by
  rw [show b ++ [13, 10] = (b ++ [13]) ++ [10] by simp, bare_term]; simp
theorem term_crlf {b : List UInt8} (h : Plain b) : Term (b ++ [13, 10]) :=
  ⟨b ++ [13], by simp, by simp; exact h.no⟩
/-- The lines: the first goes on from cur, the later ones are pieces. -/
theorem fold_lines (cur : List UInt8) (r : List (List UInt8)) (hc : Plain cur) (h : ∀ x ∈ r, Plain x ∧ Piece x) :
    ∃ e rest, foldLines cur r = (cur ++ e ++ [13, 10]) :: rest ∧ Plain (cur ++ e) ∧ ∀ l ∈ rest, ∃ b, l = b ++ [13, 10] ∧ Plain b ∧ begun b = true ∧ b.any (fun c => !blank c) = true ∧ (78 < b.length → (piecesL b).length = 1) := by
  have key : ∀ (r : List (List UInt8)) (cur : List UInt8), Plain cur → (begun cur = true ∧ cur.any (fun c => !blank c) = true ∧ (78 < cur.length → (piecesL cur).length = 1)) → (∀ x ∈ r, Plain x ∧ Piece x) → ∀ l ∈ foldLines cur r, ∃ b, l = b ++ [13, 10] ∧ Plain b ∧ begun b = true ∧ b.any (fun c => !blank c) = true ∧ (78 < b.length → (piecesL b).length = 1) := by
    intro r
    induction r with
    | nil => intro cur h1 h2 _ l hl; rw [List.mem_singleton.1 hl]; exact ⟨cur, rfl, h1, h2⟩
    | cons x r ih =>
      intro cur h1 h2 h3 l hl
      have hx := h3 x (by simp)
      have hr : ∀ y ∈ r, Plain y ∧ Piece y := fun y hy => h3 y (by simp [hy])
      unfold foldLines at hl
      split at hl
      · rcases List.mem_cons.1 hl with rfl | hl
        · exact ⟨cur, rfl, h1, h2⟩
        · exact ih x hx.1 ⟨hx.2.1, hx.2.2.1, fun _ => by rw [hx.2.2.2]; rfl⟩ hr l hl
      · rename_i hn
        refine ih (cur ++ x) (h1.append hx.1) ⟨?_, ?_, fun hl => ?_⟩ hr l hl
        · cases cur with
          | nil => exact hx.2.1
          | cons c t => exact h2.1
        · rw [List.any_append, h2.2.1]; rfl
        · rw [List.length_append] at hl; omega
  induction r generalizing cur with
  | nil => exact ⟨[], [], by simp [foldLines], by simpa using hc, fun l hl => by cases hl⟩
  | cons x r ih =>
    have hx := h x (by simp)
    have hr : ∀ y ∈ r, Plain y ∧ Piece y := fun y hy => h y (by simp [hy])
    unfold foldLines
    split
    · exact ⟨[], foldLines x r, by simp, by simpa using hc, key r x hx.1 ⟨hx.2.1, hx.2.2.1, fun _ => by rw [hx.2.2.2]; rfl⟩ hr⟩
    · obtain ⟨e, rest, h1, h2, h3⟩ := ih (cur ++ x) (hc.append hx.1) hr
      exact ⟨x ++ e, rest, by rw [h1]; simp, by rw [← List.append_assoc]; exact h2, h3⟩
/-- The written field. -/
def putL (name v : List UInt8) : List UInt8 :=
  if rightL name = true then
    name ++ [58, 32] ++ (piecesL (cleanL v)).headD [] ++ foldR (name.length + 2 + ((piecesL (cleanL v)).headD []).length) (piecesL (cleanL v)).tail ++ [13, 10]
  else []
theorem right_bytes {name : List UInt8} (h : rightL name = true) : name ≠ [] ∧ ∀ c ∈ name, nameByte c = true := by
  unfold rightL at h
  simp only [Bool.and_eq_true, Bool.not_eq_true'] at h
  exact ⟨fun e => by rw [e] at h; exact absurd h.1 (by decide), fun c hc => List.all_eq_true.1 h.2 c hc⟩
theorem name_byte {c : UInt8} (h : nameByte c = true) : blank c = false ∧ c ≠ 58 ∧ c ≠ 10 ∧ c ≠ 13 := by
  unfold nameByte at h
  simp at h
  refine ⟨?_, h.2, ?_, ?_⟩
  · unfold blank
    rw [Bool.or_eq_false_iff, beq_eq_false_iff_ne, beq_eq_false_iff_ne]
    exact ⟨fun e => by rw [e] at h; exact absurd h.1.1 (by decide), fun e => by rw [e] at h; exact absurd h.1.1 (by decide)⟩
  · intro e; rw [e] at h; exact absurd h.1.1 (by decide)
  · intro e; rw [e] at h; exact absurd h.1.1 (by decide)
theorem upto_name {name : List UInt8} (h : ∀ c ∈ name, c ≠ 58) (t : List UInt8) : upto (name ++ 58 :: t) = name := by
  unfold upto
  induction name with
  | nil => rfl
  | cons c r ih =>
    have := h c (by simp)
    rw [List.cons_append, List.takeWhile_cons_of_pos (by simpa using this), ih fun x hx => h x (by simp [hx])]
theorem head_flat (s : List UInt8) : (piecesL s).headD [] ++ (piecesL s).tail.flatten = s := by
  have := pieces_flat s
  cases h : piecesL s with
  | nil => rw [h] at this; simpa using this
  | cons x r => rw [h] at this; simpa using this
/-- A written field as lines. -/
theorem put_lines {name : List UInt8} (hn : rightL name = true) (v : List UInt8) : ∃ e rest, putL name v = ((name ++ [58, 32] ++ e ++ [13, 10]) :: rest).flatten ∧ Plain (name ++ [58, 32] ++ e) ∧ ∀ l ∈ rest, ∃ b, l = b ++ [13, 10] ∧ Plain b ∧ begun b = true ∧ b.any (fun c => !blank c) = true ∧ (78 < b.length → (piecesL b).length = 1) := by
  have hp := clean_plain v
  have hb := right_bytes hn
  have hf := head_flat (cleanL v)
  have h1 : Plain (name ++ [58, 32] ++ (piecesL (cleanL v)).headD []) := by
    refine Plain.append (Plain.append (fun c hc => (name_byte (hb.2 c hc)).2.2) fun c hc => ?_) fun c hc => hp c (by rw [← hf]; exact List.mem_append_left _ hc)
    simp at hc
    rcases hc with rfl | rfl <;> exact ⟨by decide, by decide⟩
  have h2 : ∀ x ∈ (piecesL (cleanL v)).tail, Plain x ∧ Piece x := fun x hx => by
    refine ⟨fun c hc => hp c ?_, pieces_tail (trim_trimmed _) x hx⟩
    rw [← hf]
    exact List.mem_append_right _ (List.mem_flatten.2 ⟨x, hx, hc⟩)
  obtain ⟨e, rest, k1, k2, k3⟩ := fold_lines _ _ h1 h2
  refine ⟨(piecesL (cleanL v)).headD [] ++ e, rest, ?_, by rw [← List.append_assoc]; exact k2, k3⟩
  have e3 : (name ++ [58, 32] ++ (piecesL (cleanL v)).headD []).length = name.length + 2 + ((piecesL (cleanL v)).headD []).length := by
    rw [List.length_append, List.length_append]; rfl
  rw [← List.append_assoc, ← k1, fold_flat, e3]
  unfold putL
  rw [if_pos hn]
theorem put_shape {name : List UInt8} (hn : rightL name = true) (v : List UInt8) : ∃ l cs, putL name v = (l :: cs).flatten ∧ AllT (l :: cs) ∧ (∀ x ∈ l :: cs, full x = true) ∧ (∀ c ∈ cs, begun c = true) ∧ begun l = false ∧ (∀ m, (fieldL l m).name = name ∧ (fieldL l m).bad = false) ∧ (∀ m, (fieldL l m).value = bareL ((l ++ m).drop (name.length + 1))) ∧
    ∀ c ∈ cs, (78 < (bareL c).length → (piecesL (bareL c)).length = 1) ∧ trimL (bareL c) ≠ [] := by
  obtain ⟨e, rest, h1, h2, h3⟩ := put_lines hn v
  have hb := right_bytes hn
  have hbare : bareL (name ++ [58, 32] ++ e ++ [13, 10]) = name ++ 58 :: 32 :: e := by rw [bare_crlf]; simp
  have hup : upto (name ++ 58 :: 32 :: e) = name := upto_name (fun c hc => (name_byte (hb.2 c hc)).2.1) _
  have htr : trimR name = name := trimR_fixed fun c hc => (name_byte (hb.2 c (List.mem_of_getLast? hc))).1
  have hfield : ∀ m, fieldL (name ++ [58, 32] ++ e ++ [13, 10]) m = ⟨name, bareL ((name ++ [58, 32] ++ e ++ [13, 10] ++ m).drop (name.length + 1)), name ++ [58, 32] ++ e ++ [13, 10] ++ m, false⟩ := fun m => by
    unfold fieldL
    rw [hbare, hup, htr, if_pos ⟨by simp, hn⟩]
  refine ⟨_, rest, h1, ?_, ?_, ?_, ?_, fun m => by rw [hfield]; exact ⟨rfl, rfl⟩, fun m => by rw [hfield], ?_⟩
  · intro l hl
    rcases List.mem_cons.1 hl with rfl | hl
    · exact term_crlf h2
    · obtain ⟨b, rfl, hp, _⟩ := h3 l hl
      exact term_crlf hp
  · intro l hl
    unfold full
    rcases List.mem_cons.1 hl with rfl | hl
    · rw [hbare]; simp
    · obtain ⟨b, rfl, _, hg, _⟩ := h3 l hl
      rw [bare_crlf]
      cases b with
      | nil => cases hg
      | cons c t => rfl
  · intro l hl
    obtain ⟨b, rfl, _, hg, _⟩ := h3 l hl
    cases b with
    | nil => cases hg
    | cons c t => exact hg
  · cases name with
    | nil => exact absurd rfl hb.1
    | cons c t => exact (name_byte (hb.2 c (by simp))).1
  · intro l hl
    obtain ⟨b, rfl, _, _, ha, hg⟩ := h3 l hl
    rw [bare_crlf]
    exact ⟨hg, trim_any ha⟩
/-- HeaderPut. -/
theorem put_parse {name : List UInt8} (hn : rightL name = true) (v : List UInt8) : ∃ f, parseL (putL name v) = [f] ∧ f.name = name ∧ f.bad = false ∧ f.raw = putL name v ∧ trimL (unfoldL f.value) = cleanL v ∧ atL (putL name v) = (putL name v).length := by
  obtain ⟨l, cs, h1, h2, h3, h4, _, h6, h7, _⟩ := put_shape hn v
  have h8 : splitL (putL name v) = l :: cs := by
    have := split_allT h2 []
    rw [List.append_nil] at this
    rw [h1, this]; simp [splitL]
  have h9 := hdr_id h3
  refine ⟨fieldL l cs.flatten, ?_, (h6 _).1, (h6 _).2, ?_, ?_, ?_⟩
  · unfold parseL; rw [h8, h9.1, groups_one h4]
  · rw [field_raw, h1]; simp
  · rw [h7, show l ++ cs.flatten = putL name v by rw [h1]; simp]
    unfold putL
    rw [if_pos hn]
    have hp := clean_plain v
    have hf := head_flat (cleanL v)
    generalize foldR_is : foldR (name.length + 2 + ((piecesL (cleanL v)).headD []).length) (piecesL (cleanL v)).tail = F
    rw [show name ++ [58, 32] ++ (piecesL (cleanL v)).headD [] ++ F ++ [13, 10] = (name ++ [58]) ++ ((32 :: (piecesL (cleanL v)).headD [] ++ F) ++ [13, 10]) by simp,
      List.drop_left' (by simp), bare_crlf, ← foldR_is]
    have h10 : Plain (32 :: (piecesL (cleanL v)).headD []) := fun c hc => by
      rcases List.mem_cons.1 hc with rfl | hc
      · exact ⟨by decide, by decide⟩
      · exact hp c (by rw [← hf]; exact List.mem_append_left _ hc)
    have h11 := unfold_fold (name.length + 2 + ((piecesL (cleanL v)).headD []).length) (piecesL (cleanL v)).tail (fun x hx c hc => hp c (by rw [← hf]; exact List.mem_append_right _ (List.mem_flatten.2 ⟨x, hx, hc⟩))) []
    rw [List.append_nil] at h11
    rw [unfold_plain h10, h11]
    simp only [unfoldL, List.append_nil, List.cons_append]
    rw [hf]
    exact trim_blank (trim_trimmed _)
  · unfold atL
    rw [h8, h9.1, h9.2, h1]; rfl
/-- HeaderGoes. -/
theorem put_goes {name : List UInt8} (hn : rightL name = true) (v more behind : List UInt8) (hm : 10 ∉ more) (hb : behind.head?.any blank = false) :
    ∃ f, parseL (putL name v ++ 32 :: more ++ [13, 10] ++ behind) = f :: parseL behind ∧ f.name = name ∧ f.raw = putL name v ++ 32 :: more ++ [13, 10] ∧ atL (putL name v ++ 32 :: more ++ [13, 10] ++ behind) = (putL name v).length + more.length + 3 + atL behind := by
  obtain ⟨l, cs, h1, h2, h3, h4, _, h6, _⟩ := put_shape hn v
  have hx : Term (32 :: more ++ [13, 10]) := ⟨32 :: more ++ [13], by simp, by simp; exact hm⟩
  have hfx : full (32 :: more ++ [13, 10]) = true := by unfold full; rw [bare_crlf]; rfl
  have e : putL name v ++ 32 :: more ++ [13, 10] = (l :: (cs ++ [32 :: more ++ [13, 10]])).flatten := by rw [h1]; simp
  have hcs : ∀ c ∈ cs ++ [32 :: more ++ [13, 10]], begun c = true := fun c hc => by
    rcases List.mem_append.1 hc with hc | hc
    · exact h4 c hc
    · rw [List.mem_singleton.1 hc]; rfl
  have k := parse_append (ls := l :: (cs ++ [32 :: more ++ [13, 10]])) (fun x hx' => by
    rcases List.mem_cons.1 hx' with rfl | hx'
    · exact h2 _ (by simp)
    · rcases List.mem_append.1 hx' with hx' | hx'
      · exact h2 x (by simp [hx'])
      · rw [List.mem_singleton.1 hx']; exact hx) (fun x hx' => by
    rcases List.mem_cons.1 hx' with rfl | hx'
    · exact h3 _ (by simp)
    · rcases List.mem_append.1 hx' with hx' | hx'
      · exact h3 x (by simp [hx'])
      · rw [List.mem_singleton.1 hx']; exact hfx) behind (stop_hdr hb)
  rw [← e, groups_one hcs] at k
  refine ⟨_, k.1, (h6 _).1, ?_, ?_⟩
  · rw [field_raw, e]; simp
  · rw [k.2]; simp; omega
/-- HeaderApart: one field ahead of others. -/
theorem put_ahead {name : List UInt8} (hn : rightL name = true) (v b : List UInt8) (hb : b.head?.any blank = false) : parseL (putL name v ++ b) = parseL (putL name v) ++ parseL b ∧ atL (putL name v ++ b) = (putL name v).length + atL b := by
  obtain ⟨l, cs, h1, h2, h3, h4, _, _, _⟩ := put_shape hn v
  have k := parse_append h2 h3 b (stop_hdr hb)
  have k0 := parse_append h2 h3 [] (stop_hdr rfl)
  rw [← h1] at k k0
  rw [List.append_nil] at k0
  refine ⟨?_, k.2⟩
  rw [k.1, k0.1]
  show _ = groups (l :: cs) ++ [] ++ parseL b
  rw [List.append_nil]
theorem put_head {name : List UInt8} (hn : rightL name = true) (v b : List UInt8) : (putL name v ++ b).head?.any blank = false := by
  have hb := right_bytes hn
  unfold putL
  rw [if_pos hn]
  cases name with
  | nil => exact absurd rfl hb.1
  | cons c t => exact (name_byte (hb.2 c (by simp))).1
theorem body_only (body : List UInt8) : parseL ([13, 10] ++ body) = [] ∧ atL ([13, 10] ++ body) = 2 := by
  have h : splitL ([13, 10] ++ body) = [13, 10] :: splitL body := split_term [13] body (by decide)
  have hf : full [13, 10] = false := rfl
  unfold parseL atL hdrL
  rw [h, List.takeWhile_cons_of_neg (by rw [hf]; exact Bool.false_ne_true), List.dropWhile_cons_of_neg (by rw [hf]; exact Bool.false_ne_true)]
  exact ⟨rfl, rfl⟩
theorem puts_apart (l : List (List UInt8 × List UInt8)) (h : ∀ p ∈ l, rightL p.1 = true) (body : List UInt8) :
    parseL ((l.map fun p : List UInt8 × List UInt8 => putL p.1 p.2).flatten ++ [13, 10] ++ body) = (l.map fun p : List UInt8 × List UInt8 => parseL (putL p.1 p.2)).flatten ∧ atL ((l.map fun p : List UInt8 × List UInt8 => putL p.1 p.2).flatten ++ [13, 10] ++ body) = (l.map fun p : List UInt8 × List UInt8 => putL p.1 p.2).flatten.length + 2 := by
  induction l with
  | nil => exact body_only body
  | cons p r ih =>
    have h1 := h p (by simp)
    have ih := ih fun q hq => h q (by simp [hq])
    have hs : ((r.map fun p : List UInt8 × List UInt8 => putL p.1 p.2).flatten ++ [13, 10] ++ body).head?.any blank = false := by
      cases r with
      | nil => rfl
      | cons q r =>
        rw [List.map_cons, List.flatten_cons, List.append_assoc, List.append_assoc]
        exact put_head (h q (by simp)) q.2 _
    have k := put_ahead h1 p.2 _ hs
    rw [List.map_cons, List.flatten_cons, List.append_assoc, List.append_assoc, ← List.append_assoc _ [13, 10] body, k.1, k.2, ih.1, ih.2]
    refine ⟨by simp, by rw [List.length_append]; omega⟩
end Go.Proofs.YtdinachiiimngaaGreatDoor.Hd.HdrP
namespace Go.Proofs.YtdinachiiimngaaGreatDoor.Hd.HdrP
open LinesP

/-! Parse, line by line. -/
theorem begun_full {x : List UInt8} (h : Term x ∨ Tail x) (hb : begun x = true) : full x = true := by
  by_cases hf : full x = true
  · exact hf
  · rcases not_full h (by simpa using hf) with rfl | rfl <;> exact absurd hb (by decide)
/-- Before line i: what has been read, and that no continuation line comes next. -/
structure At (ls : List (List UInt8)) (i : Nat) : Prop where
  le : i ≤ ls.length
  all : ∀ x ∈ ls.take i, full x = true
  stop : i = 0 ∨ Stop (ls.drop i)
theorem At.zero (ls : List (List UInt8)) : At ls 0 := ⟨Nat.zero_le _, by simp, .inl rfl⟩
theorem take_mid {α : Type} (ls : List α) (i k : Nat) (h : i ≤ k) : ls.take k = ls.take i ++ (ls.drop i).take (k - i) := by
  have := List.take_add (l := ls) (i := i) (j := k - i)
  rwa [show i + (k - i) = k by omega] at this
/-- The continuation lines from i + 1 to k. -/
def contL (ls : List (List UInt8)) (i k : Nat) : List (List UInt8) := (ls.drop (i + 1)).take (k - (i + 1))
theorem cont_start (ls : List (List UInt8)) (i : Nat) : contL ls i (i + 1) = [] := by
  unfold contL; rw [Nat.sub_self, List.take_zero]
theorem cont_more (ls : List (List UInt8)) (i k : Nat) (x : List UInt8) (hk : i + 1 ≤ k) (h : ls[k]? = some x) : contL ls i (k + 1) = contL ls i k ++ [x] := by
  unfold contL
  rw [show k + 1 - (i + 1) = (k - (i + 1)) + 1 by omega, List.take_add_one, List.getElem?_drop, show i + 1 + (k - (i + 1)) = k by omega, h]; rfl
theorem At.step {ls : List (List UInt8)} {i k : Nat} {l : List UInt8} (hG : Good ls) (h : At ls i) (hl : ls[i]? = some l) (hf : full l = true) (hik : i + 1 ≤ k) (hkn : k ≤ ls.length) (hc : ∀ x ∈ contL ls i k, begun x = true) (he : ∀ x, ls[k]? = some x → begun x = false) :
    At ls k ∧ groups (ls.take k) = groups (ls.take i) ++ [fieldL l (contL ls i k).flatten] ∧ (ls.take k).flatten.length = (ls.take i).flatten.length + l.length + (contL ls i k).flatten.length := by
  have hi : i < ls.length := (List.getElem?_eq_some_iff.1 hl).1
  have e0 : (ls.drop i).take (k - i) = l :: contL ls i k := by
    have hd : ls.drop i = l :: ls.drop (i + 1) := by
      have hg := (List.getElem?_eq_some_iff.1 hl).2
      rw [List.drop_eq_getElem_cons hi, hg]
    unfold contL
    rw [hd, show k - i = (k - (i + 1)) + 1 by omega, List.take_succ_cons]
  have e1 : ls.take k = ls.take i ++ (l :: contL ls i k) := by rw [take_mid ls i k (by omega), e0]
  refine ⟨⟨hkn, ?_, .inr ?_⟩, ?_, ?_⟩
  · intro x hx
    rw [e1] at hx
    rcases List.mem_append.1 hx with hx | hx
    · exact h.all x hx
    · rcases List.mem_cons.1 hx with rfl | hx
      · exact hf
      · have hm : x ∈ ls := by
          unfold contL at hx
          exact List.mem_of_mem_drop (List.mem_of_mem_take hx)
        exact begun_full (good_mem hG x hm) (hc x hx)
  · intro x hx
    rw [List.head?_drop] at hx
    exact he x hx
  · rw [e1]
    rcases h.stop with rfl | hs
    · simp only [List.take_zero, List.nil_append]
      exact groups_one hc
    · rw [groups_append (a := ls.take i) (b := l :: contL ls i k) ?_, groups_one hc]
      intro y hy
      refine hs y ?_
      rw [List.head?_drop, hl]
      exact hy
  · rw [e1, List.flatten_append, List.flatten_cons, List.length_append, List.length_append]; omega
/-- At an empty line. -/
theorem At.empty {ls : List (List UInt8)} {i : Nat} {l : List UInt8} (h : At ls i) (hl : ls[i]? = some l) (hf : full l = false) : hdrL ls = ls.take i ∧ (ls.dropWhile full).head?.getD [] = l := by
  have hi : i < ls.length := (List.getElem?_eq_some_iff.1 hl).1
  have hd : ls.drop i = l :: ls.drop (i + 1) := by
    have hg := (List.getElem?_eq_some_iff.1 hl).2
    rw [List.drop_eq_getElem_cons hi, hg]
  have k := hdr_all h.all (ls.drop i)
  rw [List.take_append_drop, hd] at k
  have hn : ¬ full l = true := by rw [hf]; exact Bool.false_ne_true
  constructor
  · rw [k.1]; unfold hdrL; rw [List.takeWhile_cons_of_neg hn, List.append_nil]
  · rw [k.2, List.dropWhile_cons_of_neg hn]; rfl
/-- At the end. -/
theorem At.done {ls : List (List UInt8)} (h : At ls ls.length) : hdrL ls = ls ∧ ls.dropWhile full = [] := by
  refine hdr_id ?_
  have := h.all
  rwa [List.take_length] at this
/-! Unfold, from the left. -/
theorem unfold_step (s : List UInt8) (i : Nat) (c : UInt8) (h : s[i]? = some c) : unfoldL (s.drop i) = if c = 10 then unfoldL (s.drop (i + 1)) else if c = 13 ∧ s[i + 1]? = some 10 then unfoldL (s.drop (i + 1)) else c :: unfoldL (s.drop (i + 1)) := by
  have hi : i < s.length := (List.getElem?_eq_some_iff.1 h).1
  have hg := (List.getElem?_eq_some_iff.1 h).2
  rw [List.drop_eq_getElem_cons hi, hg, unfoldL, List.head?_drop]
theorem unfold_end (s : List UInt8) : unfoldL (s.drop s.length) = [] := by rw [List.drop_length]; rfl
/-! Trim, from both ends. -/
theorem drop_while_step (s : List UInt8) (i : Nat) (c : UInt8) (h : s[i]? = some c) (hb : blank c = true) : (s.drop i).dropWhile blank = (s.drop (i + 1)).dropWhile blank := by
  have hi : i < s.length := (List.getElem?_eq_some_iff.1 h).1
  have hg := (List.getElem?_eq_some_iff.1 h).2
  rw [List.drop_eq_getElem_cons hi, hg, List.dropWhile_cons_of_pos hb]
theorem drop_while_stop (s : List UInt8) (i : Nat) (h : ∀ c, s[i]? = some c → blank c = false) : (s.drop i).dropWhile blank = s.drop i :=
  drop_fixed fun c hc => h c (by rwa [List.head?_drop] at hc)
theorem trimR_step (l : List UInt8) (c : UInt8) (hb : blank c = true) : trimR (l ++ [c]) = trimR l := by
  unfold trimR
  rw [List.reverse_append, List.reverse_singleton, List.singleton_append, List.dropWhile_cons_of_pos hb]
theorem trimR_blanks (l : List UInt8) (h : ∀ c ∈ l, blank c = true) : trimR l = [] := by
  have : l.reverse.dropWhile blank = [] := by
    have h2 : ∀ c ∈ l.reverse, blank c = true := fun c hc => h c (List.mem_reverse.1 hc)
    generalize l.reverse = r at h2
    induction r with
    | nil => rfl
    | cons c t ih => rw [List.dropWhile_cons_of_pos (h2 c (by simp)), ih fun x hx => h2 x (by simp [hx])]
  unfold trimR; rw [this]; rfl
/-- Before 'from' and 'to' in a row: what lies between is what is left. -/
theorem slice_last (s : List UInt8) (a b : Nat) (c : UInt8) (hab : a ≤ b) (h : s[b]? = some c) : (s.drop a).take (b + 1 - a) = (s.drop a).take (b - a) ++ [c] := by
  rw [show b + 1 - a = (b - a) + 1 by omega, List.take_add_one, List.getElem?_drop, show a + (b - a) = b by omega, h]; rfl
/-! Pieces, from the left. -/
theorem pc_step (p : UInt8) (s : List UInt8) (i : Nat) (c : UInt8) (h : s[i]? = some c) : pc p (s.drop i) = if (blank c && !blank p) = true then ([], (c :: (pc c (s.drop (i + 1))).1) :: (pc c (s.drop (i + 1))).2) else (c :: (pc c (s.drop (i + 1))).1, (pc c (s.drop (i + 1))).2) := by
  have hi : i < s.length := (List.getElem?_eq_some_iff.1 h).1
  have hg := (List.getElem?_eq_some_iff.1 h).2
  rw [List.drop_eq_getElem_cons hi, hg, pc]
/-- Before index i (1 to the length): the pieces that are done, and the one begun at 'a'. -/
def Cut (s : List UInt8) (i a : Nat) (out : List (List UInt8)) : Prop :=
  a < i ∧ i ≤ s.length ∧ ∃ p, s[i - 1]? = some p ∧ piecesL s = out ++ ((s.drop a).take (i - a) ++ (pc p (s.drop i)).1) :: (pc p (s.drop i)).2
theorem Cut.one {s : List UInt8} (h : 0 < s.length) : Cut s 1 0 [] := by
  cases s with
  | nil => simp at h
  | cons c r => exact ⟨by omega, by simp, c, rfl, by simp [piecesL]⟩
theorem Cut.next {s : List UInt8} {i a : Nat} {out : List (List UInt8)} (h : Cut s i a out) (c p : UInt8) (hc : s[i]? = some c) (hp : s[i - 1]? = some p) :
    if (blank c && !blank p) = true then Cut s (i + 1) i (out ++ [(s.drop a).take (i - a)]) else Cut s (i + 1) a out := by
  obtain ⟨h1, h2, q, hq, h3⟩ := h
  obtain rfl : p = q := by rw [hp] at hq; exact Option.some.inj hq
  have hi : i < s.length := (List.getElem?_eq_some_iff.1 hc).1
  rw [pc_step p s i c hc] at h3
  split
  · rename_i hb
    rw [if_pos hb] at h3
    refine ⟨by omega, by omega, c, hc, ?_⟩
    have e := slice_last s i i c (Nat.le_refl _) hc
    rw [Nat.sub_self, List.take_zero, List.nil_append] at e
    rw [e, h3]; simp
  · rename_i hb
    rw [if_neg hb] at h3
    refine ⟨by omega, by omega, c, hc, ?_⟩
    rw [slice_last s a i c (by omega) hc, h3]; simp
theorem Cut.done {s : List UInt8} {a : Nat} {out : List (List UInt8)} (h : Cut s s.length a out) : piecesL s = out ++ [s.drop a] := by
  obtain ⟨_, _, p, _, h3⟩ := h
  rw [List.drop_length] at h3
  rw [h3, List.take_of_length_le (by rw [List.length_drop]; exact Nat.le_refl _)]
  simp [pc]
/-! Names, colons. -/
theorem right_prefix (n : List UInt8) (i : Nat) (c : UInt8) (h : n[i]? = some c) (hp : (n.take i).all nameByte = true) : (n.take (i + 1)).all nameByte = nameByte c := by
  rw [List.take_add_one, h]; simp [hp]
theorem upto_at (s : List UInt8) (i : Nat) (h : s[i]? = some 58) (hp : 58 ∉ s.take i) : upto s = s.take i := by
  have hi : i < s.length := (List.getElem?_eq_some_iff.1 h).1
  have hg := (List.getElem?_eq_some_iff.1 h).2
  have e : s = s.take i ++ 58 :: s.drop (i + 1) := by
    conv => lhs; rw [← List.take_append_drop i s, List.drop_eq_getElem_cons hi, hg]
  have := upto_name (name := s.take i) (fun c hc e' => hp (e' ▸ hc)) (s.drop (i + 1))
  rwa [← e] at this
/-! Put. -/
/-- The length of the line that is begun. -/
def foldN (n : Nat) : List (List UInt8) → Nat
  | [] => n
  | x :: r => if 78 < n + x.length then foldN x.length r else foldN (n + x.length) r
theorem fold_snoc (n : Nat) (r : List (List UInt8)) (x : List UInt8) : foldR n (r ++ [x]) = foldR n r ++ (if 78 < foldN n r + x.length then [13, 10] ++ x else x) ∧ foldN n (r ++ [x]) = if 78 < foldN n r + x.length then x.length else foldN n r + x.length := by
  induction r generalizing n with
  | nil =>
    refine ⟨?_, rfl⟩
    show foldR n [x] = (if 78 < n + x.length then [13, 10] ++ x else x)
    unfold foldR
    split
    · show _ ++ [] = _; rw [List.append_nil]
    · show _ ++ [] = _; rw [List.append_nil]
  | cons y r ih =>
    rw [List.cons_append]
    unfold foldR foldN
    split
    · have := ih y.length
      rw [this.1, this.2]; simp
    · have := ih (n + y.length)
      rw [this.1, this.2]; simp
end Go.Proofs.YtdinachiiimngaaGreatDoor.Hd.HdrP
