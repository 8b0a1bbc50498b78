/- Tokens of header fields, of no program: strings that need no quotes. -/
import Derived.Test.YtmpgclimgbjeoaaDoorTokLaw
namespace Go.Proofs.YtmpgclimgbjeoaaDoor.TokP

theorem atom_not (c : UInt8) (h : atomB c = true) : blank c = false ∧ opens c = false ∧ special c = false ∧ c ≠ 32 := by
  unfold atomB at h
  simp only [Bool.and_eq_true, decide_eq_true_eq, bne_iff_ne, ne_eq, Bool.not_eq_true'] at h
  obtain ⟨⟨h1, _⟩, h3⟩ := h
  refine ⟨?_, ?_, h3, ?_⟩
  · unfold blank
    simp only [Bool.or_eq_false_iff, beq_eq_false_iff_ne]
    refine ⟨⟨⟨?_, ?_⟩, ?_⟩, ?_⟩
    all_goals
      intro e
      subst e
      exact absurd h1 (by decide)
  · unfold opens
    simp only [Bool.or_eq_false_iff, beq_eq_false_iff_ne]
    refine ⟨⟨?_, ?_⟩, ?_⟩
    all_goals
      intro e
      subst e
      exact absurd h3 (by decide)
  · intro e; subst e; exact absurd h1 (by decide)
theorem plain_head (s : List UInt8) (h : plainA false s = true) : ∃ c t, s = c :: t ∧ atomB c = true ∧ plainA true t = true := by
  cases s with
  | nil => exact absurd h (by decide)
  | cons c t =>
    rw [plainA] at h
    split at h
    · rename_i ha; exact ⟨c, t, rfl, ha, h⟩
    · split at h
      · rename_i hb; exact absurd hb.2 Bool.false_ne_true
      · exact absurd h Bool.false_ne_true
theorem plain_skip (s : List UInt8) (h : plainA true s = true) : plainA true (s.drop (s.takeWhile atomB).length) = true := by
  induction s with
  | nil => exact h
  | cons c t ih =>
    by_cases hc : atomB c = true
    · rw [plainA, if_pos hc] at h
      rw [List.takeWhile_cons_of_pos hc, List.length_cons, List.drop_succ_cons]
      exact ih h
    · rw [List.takeWhile_cons_of_neg hc]; exact h
/-- Atoms and single spaces by turns. -/
def Alt (l : List Tok) : Prop := l.length % 2 = 1 ∧ ∀ i t, l[i]? = some t → (i % 2 = 0 → t.kind = 1) ∧ (i % 2 = 1 → t.text = [32])
theorem alt_one (t : Tok) (h : t.kind = 1) : Alt [t] := by
  refine ⟨rfl, fun i u hu => ?_⟩
  cases i with
  | zero => obtain rfl : t = u := by simpa using hu
            exact ⟨fun _ => h, fun h => by omega⟩
  | succ i => simp at hu
theorem alt_more (t u : Tok) (l : List Tok) (h : t.kind = 1) (hu : u.text = [32]) (hl : Alt l) : Alt (t :: u :: l) := by
  refine ⟨by rw [List.length_cons, List.length_cons]; have := hl.1; omega, fun i x hx => ?_⟩
  match i with
  | 0 => obtain rfl : t = x := by simpa using hx
         exact ⟨fun _ => h, fun h => by omega⟩
  | 1 => obtain rfl : u = x := by simpa using hx
         exact ⟨fun h => by omega, fun _ => hu⟩
  | i + 2 =>
    have := hl.2 i x (by simpa using hx)
    exact ⟨fun h => this.1 (by omega), fun h => this.2 (by omega)⟩
theorem front_atom (c : UInt8) (t : List UInt8) (h : atomB c = true) : frontL (c :: t) = ⟨1, (c :: t).takeWhile atomB⟩ := by
  obtain ⟨h1, h2, h3, _⟩ := atom_not c h
  rw [frontL, if_neg (by rw [h1]; exact Bool.false_ne_true), if_neg (by rw [h2]; exact Bool.false_ne_true), if_neg (by rw [h3]; exact Bool.false_ne_true), if_pos h]
theorem plain_scan : ∀ (n : Nat) (s : List UInt8), s.length ≤ n → plainA false s = true → Alt (scanL s) := by
  intro n
  induction n with
  | zero =>
    intro s h hp
    obtain rfl : s = [] := List.eq_nil_of_length_eq_zero (by omega)
    exact absurd hp (by decide)
  | succ n ih =>
    intro s h hp
    obtain ⟨c, t, rfl, hc, ht⟩ := plain_head s hp
    have hr := plain_skip t ht
    rw [scan_cons _ (by simp), front_atom c t hc]
    show Alt (_ :: scanL ((c :: t).drop ((c :: t).takeWhile atomB).length))
    rw [List.takeWhile_cons_of_pos hc, List.length_cons, List.drop_succ_cons]
    have hn : ∀ x, (t.drop (t.takeWhile atomB).length).head? = some x → atomB x = false := fun x hx => head_drop atomB t x hx
    have hl : (t.drop (t.takeWhile atomB).length).length ≤ t.length := by rw [List.length_drop]; omega
    generalize t.drop (t.takeWhile atomB).length = r at hr hn hl
    cases r with
    | nil => exact alt_one _ rfl
    | cons x r =>
      have hx := hn x rfl
      rw [plainA, if_neg (by rw [hx]; exact Bool.false_ne_true)] at hr
      split at hr
      · rename_i hx2
        obtain rfl := hx2.1
        obtain ⟨y, u, rfl, hy, _⟩ := plain_head r hr
        have hf : frontL (32 :: y :: u) = ⟨6, [32]⟩ := by
          rw [frontL, if_pos (by decide), List.takeWhile_cons_of_pos (by decide), List.takeWhile_cons_of_neg (by rw [(atom_not y hy).1]; exact Bool.false_ne_true)]
        rw [scan_cons (32 :: y :: u) (by simp), hf]
        refine alt_more _ _ _ rfl rfl (ih _ ?_ hr)
        show (y :: u).length ≤ n
        rw [List.length_cons] at h hl
        omega
      · exact absurd hr Bool.false_ne_true
theorem plain_alt (s : List UInt8) (h : plainA false s = true) : quoteL s = s ∧ Alt (scanL s) := ⟨by unfold quoteL; rw [if_pos h], plain_scan s.length s (Nat.le_refl _) h⟩
theorem quote_same (s : List UInt8) : quoteL s = s ↔ plainA false s = true := by
  by_cases h : plainA false s = true
  · exact ⟨fun _ => h, fun _ => (plain_alt s h).1⟩
  · refine ⟨fun e => ?_, fun e => absurd e h⟩
    have := (quote_one s (by simpa using h)).2.2.2.2
    rw [e] at this
    omega
/-- What the reference asks of each byte. -/
def goodAt (w : List UInt8) (i : Nat) : Prop := ∃ c, w[i]? = some c ∧ (atomB c = true ∨ (c = 32 ∧ 0 < i ∧ i + 1 < w.length ∧ (∃ p, w[i - 1]? = some p ∧ p ≠ 32) ∧ ∃ q, w[i + 1]? = some q ∧ q ≠ 32))
theorem plain_good : ∀ (s pre : List UInt8) (b : Bool), (b = true → ∃ p, pre.getLast? = some p ∧ p ≠ 32) → (b = false → ∀ p, pre.getLast? = some p → p = 32) →
    (plainA b s = true ↔ (s = [] → b = true) ∧ ∀ i, pre.length ≤ i → i < (pre ++ s).length → goodAt (pre ++ s) i) := by
  intro s
  induction s with
  | nil =>
    intro pre b h1 h2
    rw [List.append_nil]
    have e : plainA b [] = b := by cases b <;> rfl
    rw [e]
    exact ⟨fun h => ⟨fun _ => h, fun i hi hj => by omega⟩, fun h => h.1 rfl⟩
  | cons c t ih =>
    intro pre b h1 h2
    have hsplit : pre ++ c :: t = (pre ++ [c]) ++ t := by simp
    have hat : (pre ++ c :: t)[pre.length]? = some c := by simp
    have hlast : (pre ++ [c]).getLast? = some c := by simp
    have key : (∀ i, pre.length ≤ i → i < (pre ++ c :: t).length → goodAt (pre ++ c :: t) i) ↔ goodAt (pre ++ c :: t) pre.length ∧ ∀ i, (pre ++ [c]).length ≤ i → i < ((pre ++ [c]) ++ t).length → goodAt ((pre ++ [c]) ++ t) i := by
      rw [← hsplit, List.length_append (as := pre) (bs := [c])]
      constructor
      · intro h
        exact ⟨h _ (Nat.le_refl _) (by simp), fun i hi hj => h i (by omega) hj⟩
      · rintro ⟨h3, h4⟩ i hi hj
        by_cases he : i = pre.length
        · rw [he]; exact h3
        · exact h4 i (by simp; omega) hj
    rw [key]
    by_cases hc : atomB c = true
    · have hih := ih (pre ++ [c]) true (fun _ => ⟨c, hlast, (atom_not c hc).2.2.2⟩) (fun h => Bool.noConfusion h)
      rw [plainA, if_pos hc, hih]
      exact ⟨fun h => ⟨fun e => (List.cons_ne_nil _ _ e).elim, ⟨c, hat, .inl hc⟩, h.2⟩, fun h => ⟨fun _ => rfl, h.2.2⟩⟩
    · rw [plainA, if_neg hc]
      by_cases h32 : c = 32
      · subst h32
        have hih := ih (pre ++ [32]) false (fun h => Bool.noConfusion h) (fun _ p hp => by rw [hlast] at hp; exact (Option.some.inj hp).symm)
        cases b with
        | true =>
          rw [if_pos ⟨rfl, rfl⟩]
          obtain ⟨p, hp, hp2⟩ := h1 rfl
          constructor
          · intro h
            refine ⟨fun _ => rfl, ?_, (hih.1 h).2⟩
            obtain ⟨y, u, rfl, hy, _⟩ := plain_head t h
            have hpos : 0 < pre.length := by cases pre with | nil => simp at hp | cons _ _ => simp
            refine ⟨32, hat, .inr ⟨rfl, hpos, by simp, ⟨p, ?_, hp2⟩, y, ?_, (atom_not y hy).2.2.2⟩⟩
            · rw [List.getElem?_append_left (by omega), ← List.getLast?_eq_getElem?]; exact hp
            · rw [List.getElem?_append_right (by omega)]; simp
          · rintro ⟨_, ⟨c', hc', h3⟩, h4⟩
            rw [hat] at hc'
            obtain rfl := Option.some.inj hc'
            refine hih.2 ⟨fun e => ?_, h4⟩
            rcases h3 with h3 | ⟨_, _, h5, _⟩
            · exact absurd h3 hc
            · subst e; simp at h5
        | false =>
          rw [if_neg (by simp)]
          refine ⟨fun h => absurd h Bool.false_ne_true, ?_⟩
          rintro ⟨_, ⟨c', hc', h3⟩, _⟩
          rw [hat] at hc'
          obtain rfl := Option.some.inj hc'
          rcases h3 with h3 | ⟨_, h5, _, ⟨p, hp, hp2⟩, _⟩
          · exact absurd h3 hc
          · rw [List.getElem?_append_left (by omega), ← List.getLast?_eq_getElem?] at hp
            exact absurd (h2 rfl p hp) hp2
      · rw [if_neg (fun e => h32 e.1)]
        refine ⟨fun h => absurd h Bool.false_ne_true, ?_⟩
        rintro ⟨_, ⟨c', hc', h3⟩, _⟩
        rw [hat] at hc'
        obtain rfl := Option.some.inj hc'
        rcases h3 with h3 | ⟨h5, _⟩
        · exact absurd h3 hc
        · exact absurd h5 h32
theorem plain_all (s : List UInt8) : plainA false s = true ↔ s ≠ [] ∧ ∀ i, i < s.length → goodAt s i := by
  have := plain_good s [] false (fun h => Bool.noConfusion h) (fun _ p hp => by simp at hp)
  rw [this, List.nil_append]
  exact ⟨fun h => ⟨fun e => Bool.noConfusion (h.1 e), fun i hi => h.2 i (Nat.zero_le _) hi⟩, fun h => ⟨fun e => absurd e h.1, fun i _ hi => h.2 i hi⟩⟩
end Go.Proofs.YtmpgclimgbjeoaaDoor.TokP
