/- Tokens of header fields, of no program: scanning, values, quoting, and the stage's laws of them. -/
import Derived.WalkKit
namespace Go.Proofs.YtmpgclimgbjeoaaDoor.TokP

structure Tok where
  kind : Nat
  text : List UInt8
deriving DecidableEq
def blank (c : UInt8) : Bool := c == 9 || c == 10 || c == 13 || c == 32
def special (c : UInt8) : Bool := [40, 41, 60, 62, 91, 93, 58, 59, 64, 92, 44, 46, 34].contains c
def atomB (c : UInt8) : Bool := decide (32 < c.toNat) && c != 127 && !special c
/-- What opens a token that is closed by another byte. -/
def opens (c : UInt8) : Bool := c == 40 || c == 34 || c == 91
def closer (c : UInt8) : UInt8 := if c = 40 then 41 else if c = 34 then 34 else 93
def kindO (c : UInt8) : Nat := if c = 40 then 3 else if c = 34 then 2 else 5
/-- How many bytes behind the opening one there are to the closing one, it too: q closes, nest: '(' opens another; e: the byte is escaped; d: the depth. -/
def closeS (q : UInt8) (nest : Bool) : Bool → Nat → List UInt8 → Option Nat
  | _, _, [] => none
  | true, d, _ :: t => (closeS q nest false d t).map (· + 1)
  | false, d, c :: t =>
    if c = 92 then (closeS q nest true d t).map (· + 1)
    else if c = q then (if d = 0 then some 1 else (closeS q nest false (d - 1) t).map (· + 1))
    else if nest = true ∧ c = 40 then (closeS q nest false (d + 1) t).map (· + 1)
    else (closeS q nest false d t).map (· + 1)
def closeL (c : UInt8) (t : List UInt8) : Option Nat := closeS (closer c) (c == 40) false 0 t
/-- The first token. -/
def frontL : List UInt8 → Tok
  | [] => ⟨7, []⟩
  | c :: t =>
    if blank c = true then ⟨6, (c :: t).takeWhile blank⟩
    else if opens c = true then (match closeL c t with
      | none => ⟨7, c :: t⟩
      | some n => ⟨kindO c, c :: t.take n⟩)
    else if special c = true then ⟨4, [c]⟩
    else if atomB c = true then ⟨1, (c :: t).takeWhile atomB⟩
    else ⟨7, [c]⟩
theorem close_le (q : UInt8) (nest : Bool) : ∀ (t : List UInt8) (e : Bool) (d n : Nat), closeS q nest e d t = some n → 0 < n ∧ n ≤ t.length := by
  intro t
  induction t with
  | nil => intro e d n h; cases e <;> simp [closeS] at h
  | cons c t ih =>
    intro e d n h
    have key : ∀ e' d', (closeS q nest e' d' t).map (· + 1) = some n → 0 < n ∧ n ≤ (c :: t).length := by
      intro e' d' h'
      obtain ⟨m, hm, rfl⟩ := Option.map_eq_some_iff.1 h'
      have := ih e' d' m hm
      rw [List.length_cons]; omega
    cases e with
    | true => exact key _ _ (by simpa only [closeS] using h)
    | false =>
      rw [closeS] at h
      split at h
      · exact key _ _ h
      · split at h
        · split at h
          · cases h; rw [List.length_cons]; omega
          · exact key _ _ h
        · split at h
          · exact key _ _ h
          · exact key _ _ h
/-- Only what stands before the closing byte matters. -/
theorem close_pre (q : UInt8) (nest : Bool) : ∀ (t u : List UInt8) (e : Bool) (d n : Nat), closeS q nest e d t = some n → closeS q nest e d (t.take n ++ u) = some n := by
  intro t
  induction t with
  | nil => intro u e d n h; cases e <;> simp [closeS] at h
  | cons c t ih =>
    intro u e d n h
    have key : ∀ e' d', (closeS q nest e' d' t).map (· + 1) = some n → (∃ m, n = m + 1 ∧ (closeS q nest e' d' (t.take m ++ u)).map (· + 1) = some n) := by
      intro e' d' h'
      obtain ⟨m, hm, rfl⟩ := Option.map_eq_some_iff.1 h'
      exact ⟨m, rfl, by rw [ih u e' d' m hm]; rfl⟩
    cases e with
    | true =>
      obtain ⟨m, rfl, h2⟩ := key _ _ (by simpa only [closeS] using h)
      rw [List.take_succ_cons, List.cons_append, closeS]; exact h2
    | false =>
      rw [closeS] at h
      by_cases h1 : c = 92
      · rw [if_pos h1] at h
        obtain ⟨m, rfl, h2⟩ := key _ _ h
        rw [List.take_succ_cons, List.cons_append, closeS, if_pos h1]; exact h2
      · rw [if_neg h1] at h
        by_cases h3 : c = q
        · rw [if_pos h3] at h
          by_cases h4 : d = 0
          · rw [if_pos h4] at h
            cases h
            rw [List.take_succ_cons, List.cons_append, closeS, if_neg h1, if_pos h3, if_pos h4]
          · rw [if_neg h4] at h
            obtain ⟨m, rfl, h2⟩ := key _ _ h
            rw [List.take_succ_cons, List.cons_append, closeS, if_neg h1, if_pos h3, if_neg h4]; exact h2
        · rw [if_neg h3] at h
          by_cases h5 : nest = true ∧ c = 40
          · rw [if_pos h5] at h
            obtain ⟨m, rfl, h2⟩ := key _ _ h
            rw [List.take_succ_cons, List.cons_append, closeS, if_neg h1, if_neg h3, if_pos h5]; exact h2
          · rw [if_neg h5] at h
            obtain ⟨m, rfl, h2⟩ := key _ _ h
            rw [List.take_succ_cons, List.cons_append, closeS, if_neg h1, if_neg h3, if_neg h5]; exact h2
theorem close_app (c : UInt8) (t u : List UInt8) (n : Nat) (h : closeL c t = some n) : closeL c (t ++ u) = some n := by
  have := close_pre _ _ t (t.drop n ++ u) _ _ _ h
  rwa [← List.append_assoc, List.take_append_drop] at this
theorem close_cut (c : UInt8) (t : List UInt8) (n : Nat) (h : closeL c t = some n) : closeL c (t.take n) = some n := by
  have := close_pre _ _ t [] _ _ _ h
  rwa [List.append_nil] at this
theorem front_pos (s : List UInt8) (h : s ≠ []) : (frontL s).text ≠ [] := by
  cases s with
  | nil => exact absurd rfl h
  | cons c t =>
    rw [frontL]
    split
    · rename_i hb; rw [List.takeWhile_cons_of_pos hb]; simp
    · split
      · split <;> simp
      · split
        · simp
        · split
          · rename_i ha; rw [List.takeWhile_cons_of_pos ha]; simp
          · simp
/-- The first token is how the string begins. -/
theorem front_pre (s : List UInt8) : (frontL s).text ++ s.drop (frontL s).text.length = s := by
  have key : ∀ p : List UInt8, p <+: s → p ++ s.drop p.length = s := by
    rintro p ⟨r, rfl⟩; rw [List.drop_left]
  refine key _ ?_
  cases s with
  | nil => exact List.nil_prefix
  | cons c t =>
    rw [frontL]
    split
    · exact List.takeWhile_prefix _
    · split
      · split
        · exact List.prefix_refl _
        · exact (List.cons_prefix_cons).2 ⟨rfl, List.take_prefix _ _⟩
      · split
        · exact (List.cons_prefix_cons).2 ⟨rfl, List.nil_prefix⟩
        · split
          · exact List.takeWhile_prefix _
          · exact (List.cons_prefix_cons).2 ⟨rfl, List.nil_prefix⟩
theorem front_le (s : List UInt8) : (frontL s).text.length ≤ s.length := by
  have := congrArg List.length (front_pre s)
  rw [List.length_append] at this
  omega
def scanF : Nat → List UInt8 → List Tok
  | 0, _ => []
  | _ + 1, [] => []
  | n + 1, c :: t => frontL (c :: t) :: scanF n ((c :: t).drop (frontL (c :: t)).text.length)
def scanL (s : List UInt8) : List Tok := scanF s.length s
theorem scanF_more : ∀ (n m : Nat) (s : List UInt8), s.length ≤ n → s.length ≤ m → scanF n s = scanF m s := by
  intro n
  induction n with
  | zero =>
    intro m s h1 _
    obtain rfl : s = [] := List.eq_nil_of_length_eq_zero (by omega)
    cases m <;> rfl
  | succ n ih =>
    intro m s h1 h2
    cases s with
    | nil => cases m <;> rfl
    | cons c t =>
      cases m with
      | zero => rw [List.length_cons] at h2; omega
      | succ m =>
        have h3 := List.length_pos_iff.2 (front_pos (c :: t) (by simp))
        have h4 : ((c :: t).drop (frontL (c :: t)).text.length).length ≤ t.length := by rw [List.length_drop, List.length_cons]; omega
        rw [List.length_cons] at h1 h2
        rw [scanF, scanF, ih m _ (by omega) (by omega)]
theorem scan_nil : scanL [] = [] := rfl
theorem scan_cons (s : List UInt8) (h : s ≠ []) : scanL s = frontL s :: scanL (s.drop (frontL s).text.length) := by
  cases s with
  | nil => exact absurd rfl h
  | cons c t =>
    have h3 := List.length_pos_iff.2 (front_pos (c :: t) (by simp))
    have h4 : ((c :: t).drop (frontL (c :: t)).text.length).length ≤ t.length := by rw [List.length_drop, List.length_cons]; omega
    unfold scanL
    rw [List.length_cons, scanF, scanF_more t.length _ _ h4 (Nat.le_refl _)]
/-- Whatever holds of the tail's tokens .. : induction along the tokens. -/
theorem scan_ind {P : List UInt8 → Prop} (h0 : P []) (h1 : ∀ s, s ≠ [] → P (s.drop (frontL s).text.length) → P s) : ∀ s, P s := by
  have : ∀ n (s : List UInt8), s.length ≤ n → P s := by
    intro n
    induction n with
    | zero => intro s h; obtain rfl : s = [] := List.eq_nil_of_length_eq_zero (by omega); exact h0
    | succ n ih =>
      intro s h
      by_cases hs : s = []
      · subst hs; exact h0
      · have h3 := List.length_pos_iff.2 (front_pos s hs)
        exact h1 s hs (ih _ (by rw [List.length_drop]; omega))
  exact fun s => this s.length s (Nat.le_refl _)
def joinL (l : List Tok) : List UInt8 := (l.map Tok.text).flatten
/-- TokenKeeps: nothing is lost. -/
theorem join_scan (s : List UInt8) : joinL (scanL s) = s := by
  induction s using scan_ind with
  | h0 => rfl
  | h1 s hs ih =>
    rw [scan_cons s hs]
    unfold joinL at ih ⊢
    rw [List.map_cons, List.flatten_cons, ih, front_pre]
theorem scan_len (s : List UInt8) : (scanL s).length ≤ s.length := by
  induction s using scan_ind with
  | h0 => exact Nat.le_refl _
  | h1 s hs ih =>
    have h3 := List.length_pos_iff.2 (front_pos s hs)
    have h4 := front_le s
    rw [scan_cons s hs, List.length_cons]
    rw [List.length_drop] at ih
    omega
theorem take_while_idem (p : UInt8 → Bool) (l : List UInt8) : (l.takeWhile p).takeWhile p = l.takeWhile p := by
  induction l with
  | nil => rfl
  | cons c t ih =>
    by_cases h : p c = true
    · rw [List.takeWhile_cons_of_pos h, List.takeWhile_cons_of_pos h, ih]
    · rw [List.takeWhile_cons_of_neg h]; rfl
/-- The first token of its own text is it. -/
theorem front_again (s : List UInt8) (h : s ≠ []) : frontL (frontL s).text = frontL s := by
  cases s with
  | nil => exact absurd rfl h
  | cons c t =>
    by_cases h1 : blank c = true
    · have e : frontL (c :: t) = ⟨6, (c :: t).takeWhile blank⟩ := by rw [frontL, if_pos h1]
      rw [e]
      show frontL ((c :: t).takeWhile blank) = _
      rw [List.takeWhile_cons_of_pos h1, frontL, if_pos h1, List.takeWhile_cons_of_pos h1, take_while_idem]
    · by_cases h2 : opens c = true
      · cases hc : closeL c t with
        | none =>
          have e : frontL (c :: t) = ⟨7, c :: t⟩ := by rw [frontL, if_neg h1, if_pos h2, hc]
          rw [e]; show frontL (c :: t) = _; rw [e]
        | some n =>
          have e : frontL (c :: t) = ⟨kindO c, c :: t.take n⟩ := by rw [frontL, if_neg h1, if_pos h2, hc]
          rw [e]
          show frontL (c :: t.take n) = _
          rw [frontL, if_neg h1, if_pos h2, close_cut c t n hc]
          show (⟨kindO c, c :: (t.take n).take n⟩ : Tok) = _
          rw [List.take_take, Nat.min_self]
      · by_cases h3 : special c = true
        · have e : frontL (c :: t) = ⟨4, [c]⟩ := by rw [frontL, if_neg h1, if_neg h2, if_pos h3]
          rw [e]; show frontL [c] = _
          rw [frontL, if_neg h1, if_neg h2, if_pos h3]
        · by_cases h4 : atomB c = true
          · have e : frontL (c :: t) = ⟨1, (c :: t).takeWhile atomB⟩ := by rw [frontL, if_neg h1, if_neg h2, if_neg h3, if_pos h4]
            rw [e]
            show frontL ((c :: t).takeWhile atomB) = _
            rw [List.takeWhile_cons_of_pos h4, frontL, if_neg h1, if_neg h2, if_neg h3, if_pos h4, List.takeWhile_cons_of_pos h4, take_while_idem]
          · have e : frontL (c :: t) = ⟨7, [c]⟩ := by rw [frontL, if_neg h1, if_neg h2, if_neg h3, if_neg h4]
            rw [e]; show frontL [c] = _
            rw [frontL, if_neg h1, if_neg h2, if_neg h3, if_neg h4]
theorem scan_front (s : List UInt8) (h : s ≠ []) : scanL (frontL s).text = [frontL s] := by
  have hp := front_pos s h
  rw [scan_cons _ hp, front_again s h, List.drop_length]; rfl
theorem kindO_bd (c : UInt8) : 1 ≤ kindO c ∧ kindO c ≤ 7 := by
  unfold kindO
  repeat' split
  all_goals decide
theorem scan_mem (s : List UInt8) : ∀ t ∈ scanL s, t.text ≠ [] ∧ scanL t.text = [t] ∧ 1 ≤ t.kind ∧ t.kind ≤ 7 ∧ t.text.length ≤ s.length := by
  induction s using scan_ind with
  | h0 => intro t h; cases h
  | h1 s hs ih =>
    intro t h
    rw [scan_cons s hs] at h
    rcases List.mem_cons.1 h with rfl | h
    · refine ⟨front_pos s hs, scan_front s hs, ?_, ?_, front_le s⟩
      all_goals
        cases s with
        | nil => exact absurd rfl hs
        | cons c t =>
          rw [frontL]
          repeat' split
          all_goals first | exact (kindO_bd c).1 | exact (kindO_bd c).2 | simp
    · have := ih t h
      rw [List.length_drop] at this
      exact ⟨this.1, this.2.1, this.2.2.1, this.2.2.2.1, by omega⟩
end Go.Proofs.YtmpgclimgbjeoaaDoor.TokP
