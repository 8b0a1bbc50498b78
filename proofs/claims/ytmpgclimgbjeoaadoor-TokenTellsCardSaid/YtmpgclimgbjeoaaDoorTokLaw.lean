/- Tokens of header fields, of no program: what stands behind whole tokens, neighbours, values and quoting. -/
import Derived.Test.YtmpgclimgbjeoaaDoorTokPure
namespace Go.Proofs.YtmpgclimgbjeoaaDoor.TokP

theorem take_while_app (p : UInt8 → Bool) (a b : List UInt8) (h : (a.takeWhile p).length < a.length) : (a ++ b).takeWhile p = a.takeWhile p := by
  induction a with
  | nil => simp at h
  | cons c t ih =>
    by_cases hc : p c = true
    · rw [List.takeWhile_cons_of_pos hc, List.length_cons, List.length_cons] at h
      rw [List.cons_append, List.takeWhile_cons_of_pos hc, List.takeWhile_cons_of_pos hc, ih (by omega)]
    · rw [List.cons_append, List.takeWhile_cons_of_neg hc, List.takeWhile_cons_of_neg hc]
/-- A token that ends ahead of the string's end, or by a byte of its own, is the first whatever follows. -/
theorem front_app (a b : List UInt8) (ha : a ≠ []) (h : (frontL a).text.length < a.length ∨ ((frontL a).kind ≠ 6 ∧ (frontL a).kind ≠ 1 ∧ (frontL a).kind ≠ 7)) : frontL (a ++ b) = frontL a := by
  cases a with
  | nil => exact absurd rfl ha
  | cons c t =>
    by_cases h1 : blank c = true
    · have e : frontL (c :: t) = ⟨6, (c :: t).takeWhile blank⟩ := by rw [frontL, if_pos h1]
      rw [e] at h ⊢
      rcases h with h | h
      · rw [List.cons_append, frontL, if_pos h1, ← List.cons_append, take_while_app blank _ b h]
      · exact absurd rfl h.1
    · by_cases h2 : opens c = true
      · cases hc : closeL c t with
        | none =>
          have e : frontL (c :: t) = ⟨7, c :: t⟩ := by rw [frontL, if_neg h1, if_pos h2, hc]
          rw [e] at h
          rcases h with h | h
          · exact absurd h (Nat.lt_irrefl _)
          · exact absurd rfl h.2.2
        | some n =>
          have e : frontL (c :: t) = ⟨kindO c, c :: t.take n⟩ := by rw [frontL, if_neg h1, if_pos h2, hc]
          have hn := (close_le _ _ t _ _ n hc).2
          rw [e, List.cons_append, frontL, if_neg h1, if_pos h2, close_app c t b n hc]
          show (⟨kindO c, c :: (t ++ b).take n⟩ : Tok) = _
          rw [List.take_append_of_le_length hn]
      · by_cases h3 : special c = true
        · rw [List.cons_append, frontL, frontL, if_neg h1, if_neg h2, if_pos h3, if_neg h1, if_neg h2, if_pos h3]
        · by_cases h4 : atomB c = true
          · have e : frontL (c :: t) = ⟨1, (c :: t).takeWhile atomB⟩ := by rw [frontL, if_neg h1, if_neg h2, if_neg h3, if_pos h4]
            rw [e] at h ⊢
            rcases h with h | h
            · rw [List.cons_append, frontL, if_neg h1, if_neg h2, if_neg h3, if_pos h4, ← List.cons_append, take_while_app atomB _ b h]
            · exact absurd rfl h.2.1
          · rw [List.cons_append, frontL, frontL, if_neg h1, if_neg h2, if_neg h3, if_neg h4, if_neg h1, if_neg h2, if_neg h3, if_neg h4]
/-- TokenParts. -/
theorem scan_parts (a b : List UInt8) (h : ∀ t, (scanL a).getLast? = some t → t.kind ≠ 6 ∧ t.kind ≠ 1 ∧ t.kind ≠ 7) : scanL (a ++ b) = scanL a ++ scanL b := by
  induction a using scan_ind with
  | h0 => rfl
  | h1 a ha ih =>
    have hp := front_pre a
    have hl := congrArg List.length hp
    rw [List.length_append] at hl
    have hcond : (frontL a).text.length < a.length ∨ ((frontL a).kind ≠ 6 ∧ (frontL a).kind ≠ 1 ∧ (frontL a).kind ≠ 7) := by
      by_cases hr : a.drop (frontL a).text.length = []
      · refine .inr (h _ ?_)
        rw [scan_cons a ha, hr]; rfl
      · have := List.length_pos_iff.2 hr
        exact .inl (by omega)
    have hf := front_app a b ha hcond
    have hd : (a ++ b).drop (frontL a).text.length = a.drop (frontL a).text.length ++ b := List.drop_append_of_le_length (by omega)
    rw [scan_cons (a ++ b) (by simp [ha]), hf, hd, scan_cons a ha, ih ?_, List.cons_append]
    intro t ht
    refine h t ?_
    rw [scan_cons a ha, List.getLast?_cons, ht]; rfl
/-- TokenKeeps: neither white space nor an atom stands beside another. -/
theorem head_drop (p : UInt8 → Bool) (s : List UInt8) (c : UInt8) (h : (s.drop (s.takeWhile p).length).head? = some c) : p c = false := by
  induction s with
  | nil => simp at h
  | cons x t ih =>
    by_cases hx : p x = true
    · rw [List.takeWhile_cons_of_pos hx, List.length_cons, List.drop_succ_cons] at h
      exact ih h
    · rw [List.takeWhile_cons_of_neg hx, List.length_nil, List.drop_zero] at h
      obtain rfl : x = c := by simpa using h
      simpa using hx
theorem front_kind (c : UInt8) (t : List UInt8) : ((frontL (c :: t)).kind = 6 ↔ blank c = true) ∧ ((frontL (c :: t)).kind = 1 → atomB c = true ∧ blank c = false) ∧
    (blank c = true → (frontL (c :: t)).text = (c :: t).takeWhile blank) ∧ ((frontL (c :: t)).kind = 1 → (frontL (c :: t)).text = (c :: t).takeWhile atomB) := by
  have hk : kindO c ≠ 6 ∧ kindO c ≠ 1 := by
    unfold kindO
    repeat' split
    all_goals decide
  rw [frontL]
  by_cases h1 : blank c = true
  · rw [if_pos h1]; simp [h1]
  · rw [if_neg h1]
    by_cases h2 : opens c = true
    · rw [if_pos h2]
      cases closeL c t with
      | none => simp [h1]
      | some n => simp [h1, hk.1, hk.2]
    · rw [if_neg h2]
      by_cases h3 : special c = true
      · rw [if_pos h3]; simp [h1]
      · rw [if_neg h3]
        by_cases h4 : atomB c = true
        · rw [if_pos h4]; simp [h1, h4]
        · rw [if_neg h4]; simp [h1]
theorem scan_apart (s : List UInt8) : ∀ (i : Nat) (t u : Tok), (scanL s)[i]? = some t → (scanL s)[i + 1]? = some u → t.kind = u.kind → t.kind ≠ 6 ∧ t.kind ≠ 1 := by
  induction s using scan_ind with
  | h0 => intro i t u h; simp [scan_nil] at h
  | h1 s hs ih =>
    intro i t u h1 h2 he
    rw [scan_cons s hs] at h1 h2
    rw [List.getElem?_cons_succ] at h2
    cases i with
    | succ i =>
      rw [List.getElem?_cons_succ] at h1
      exact ih i t u h1 h2 he
    | zero =>
      obtain rfl : frontL s = t := by simpa using h1
      have hr : s.drop (frontL s).text.length ≠ [] := by
        intro e; rw [e] at h2; simp [scan_nil] at h2
      obtain ⟨x, r, hx⟩ := List.exists_cons_of_ne_nil hr
      rw [hx, scan_cons (x :: r) (by simp)] at h2
      obtain rfl : frontL (x :: r) = u := by simpa using h2
      cases s with
      | nil => exact absurd rfl hs
      | cons c t =>
        obtain ⟨k1, k2, k3, k4⟩ := front_kind c t
        obtain ⟨m1, m2, _, _⟩ := front_kind x r
        refine ⟨fun h6 => ?_, fun h1 => ?_⟩
        · have hx2 := head_drop blank (c :: t) x (by rw [← k3 (k1.1 h6), hx]; rfl)
          rw [he] at h6
          rw [m1.1 h6] at hx2
          exact Bool.noConfusion hx2
        · have hx2 := head_drop atomB (c :: t) x (by rw [← k4 h1, hx]; rfl)
          rw [he] at h1
          rw [(m2 h1).1] at hx2
          exact Bool.noConfusion hx2
/-! Values. -/
def unescS : Bool → List UInt8 → List UInt8
  | _, [] => []
  | true, c :: t => c :: unescS false t
  | false, c :: t => if c = 92 then unescS true t else if c = 10 ∨ c = 13 then unescS false t else c :: unescS false t
def valueL (t : Tok) : List UInt8 := if (t.kind = 2 ∨ t.kind = 3) ∧ 2 ≤ t.text.length then unescS false (t.text.drop 1).dropLast else t.text
def held (c : UInt8) : Bool := c == 34 || c == 92 || c == 10 || c == 13
def escL : List UInt8 → List UInt8
  | [] => []
  | c :: t => if held c = true then 92 :: c :: escL t else c :: escL t
/-- Atoms, separated by single spaces; b: an atom stands before. -/
def plainA : Bool → List UInt8 → Bool
  | b, [] => b
  | b, c :: t => if atomB c = true then plainA true t else if c = 32 ∧ b = true then plainA false t else false
def quoteL (s : List UInt8) : List UInt8 := if plainA false s = true then s else 34 :: escL s ++ [34]
theorem unesc_esc (s : List UInt8) : unescS false (escL s) = s := by
  induction s with
  | nil => rfl
  | cons c t ih =>
    rw [escL]
    split
    · rw [unescS, if_pos rfl, unescS, ih]
    · rename_i h
      have h92 : c ≠ 92 := fun e => h (by subst e; rfl)
      have h10 : ¬ (c = 10 ∨ c = 13) := fun e => h (by rcases e with rfl | rfl <;> rfl)
      rw [unescS, if_neg h92, if_neg h10, ih]
theorem unesc_le (e : Bool) (s : List UInt8) : (unescS e s).length ≤ s.length := by
  induction s generalizing e with
  | nil => cases e <;> exact Nat.le_refl _
  | cons c t ih =>
    cases e with
    | true => rw [unescS, List.length_cons, List.length_cons]; exact Nat.succ_le_succ (ih false)
    | false =>
      rw [unescS]
      split
      · have := ih true; rw [List.length_cons]; omega
      · split
        · have := ih false; rw [List.length_cons]; omega
        · have := ih false; rw [List.length_cons, List.length_cons]; omega
theorem esc_len (s : List UInt8) : (escL s).length ≤ 2 * s.length := by
  induction s with
  | nil => exact Nat.le_refl _
  | cons c t ih =>
    rw [escL]
    split
    · rw [List.length_cons, List.length_cons, List.length_cons]; omega
    · rw [List.length_cons, List.length_cons]; omega
theorem esc_ge (s : List UInt8) : s.length ≤ (escL s).length := by
  induction s with
  | nil => exact Nat.le_refl _
  | cons c t ih =>
    rw [escL]
    split
    · rw [List.length_cons, List.length_cons, List.length_cons]; omega
    · rw [List.length_cons, List.length_cons]; omega
theorem close_esc (s : List UInt8) : closeS 34 false false 0 (escL s ++ [34]) = some ((escL s).length + 1) := by
  induction s with
  | nil => rfl
  | cons c t ih =>
    rw [escL]
    split
    · rw [List.cons_append, List.cons_append, closeS, if_pos rfl, closeS, ih]
      simp
    · rename_i h
      have h92 : c ≠ 92 := fun e => h (by subst e; rfl)
      have h34 : c ≠ 34 := fun e => h (by subst e; rfl)
      rw [List.cons_append, closeS, if_neg h92, if_neg h34, if_neg (by simp), ih]
      simp
/-- TokenQuotes: quoted, one token with the string as its value. -/
theorem quote_one (s : List UInt8) (h : plainA false s = false) : quoteL s = 34 :: escL s ++ [34] ∧ scanL (quoteL s) = [⟨2, quoteL s⟩] ∧ valueL ⟨2, quoteL s⟩ = s ∧ (quoteL s).length ≤ 2 * s.length + 2 ∧ s.length + 2 ≤ (quoteL s).length := by
  have e : quoteL s = 34 :: escL s ++ [34] := by unfold quoteL; rw [if_neg (by rw [h]; exact Bool.false_ne_true)]
  have e2 : (34 : UInt8) :: escL s ++ [34] = 34 :: (escL s ++ [34]) := rfl
  have hc : closeL 34 (escL s ++ [34]) = some ((escL s).length + 1) := close_esc s
  have hf : frontL (34 :: (escL s ++ [34])) = ⟨2, 34 :: (escL s ++ [34])⟩ := by
    rw [frontL, if_neg (by decide), if_pos (by decide), hc]
    show (⟨kindO 34, 34 :: (escL s ++ [34]).take ((escL s).length + 1)⟩ : Tok) = _
    rw [List.take_of_length_le (by simp)]; rfl
  rw [e, e2]
  refine ⟨rfl, ?_, ?_, ?_, ?_⟩
  · rw [scan_cons _ (by simp), hf, List.drop_length]; rfl
  · unfold valueL
    rw [if_pos ⟨.inl rfl, by simp⟩]
    show unescS false (escL s ++ [34]).dropLast = s
    rw [List.dropLast_concat, unesc_esc]
  · have := esc_len s
    simp; omega
  · have := esc_ge s
    simp; omega
end Go.Proofs.YtmpgclimgbjeoaaDoor.TokP
