/- Decoding inverts encoding, and encoding reproduces what was decoded; of no program. -/
import Derived.Test.YtbaddpkeaealpaaPure
namespace Go.Proofs.Ytbaddpkeaealpaa

theorem numP_enc {n : Nat} (h : n < 9223372036854775808) (rest : List UInt8) (f : Bool) : numP (varL n ++ rest, f) = (n, (rest, f)) :=
  numP_some (dec_varL 9 true n rest (by rw [p9]; exact h) (by decide) (Or.inl rfl))
theorem takeP_enc (t rest : List UInt8) (f : Bool) : takeP (t.length : Int) (t ++ rest, f) = (t, (rest, f)) := by
  rw [takeP, if_neg (by simp only [List.length_append]; omega)]
  simp
theorem textP_enc {t : List UInt8} (h : t.length < 9223372036854775808) (rest : List UInt8) (f : Bool) : textP (textL t ++ rest, f) = (t, (rest, f)) := by
  rw [textP, textL, List.append_assoc, numP_enc h]
  exact takeP_enc t rest f
theorem intP_enc {n : Int} (h0 : 0 ≤ n) (h : n < 9223372036854775808) (rest : List UInt8) (f : Bool) : intP (varI n ++ rest, f) = (n, (rest, f)) := by
  obtain ⟨m, rfl⟩ : ∃ m : Nat, n = m := ⟨n.toNat, by omega⟩
  rw [intP, varI_nat, numP_enc (by omega)]
theorem manyP_enc {A : Type} {f : RS → A × RS} {e : A → List UInt8} {ok : A → Prop} (hf : ∀ x rest, ok x → f (e x ++ rest, false) = (x, (rest, false))) (rest : List UInt8) :
    ∀ (l acc : List A), (∀ x ∈ l, ok x) → manyP f l.length acc (l.flatMap e ++ rest, false) = (acc ++ l, (rest, false)) := by
  intro l
  induction l with
  | nil => intro acc _; simp [manyP]
  | cons x l ih =>
    intro acc h
    have h1 := hf x (l.flatMap e ++ rest) (h x List.mem_cons_self)
    rw [List.length_cons, manyP, List.flatMap_cons, List.append_assoc, h1]
    simp only [Bool.false_eq_true, if_false]
    rw [ih (acc ++ [x]) (fun y hy => h y (List.mem_cons_of_mem _ hy)), List.append_assoc]; rfl
theorem flat_len {A : Type} {e : A → List UInt8} {l : List A} (h : ∀ x ∈ l, 0 < (e x).length) : l.length ≤ (l.flatMap e).length := by
  induction l with
  | nil => simp
  | cons x l ih =>
    have h1 := h x List.mem_cons_self
    have h2 := ih (fun y hy => h y (List.mem_cons_of_mem _ hy))
    rw [List.flatMap_cons, List.length_append, List.length_cons]; omega
theorem allP_enc {A : Type} {f : RS → A × RS} {e : A → List UInt8} {ok : A → Prop} (hf : ∀ x rest, ok x → f (e x ++ rest, false) = (x, (rest, false))) (hp : ∀ x, ok x → 0 < (e x).length) (l : List A) (h : ∀ x ∈ l, ok x) (hl : l.length < 9223372036854775808) (rest : List UInt8) :
    allP f (varL l.length ++ l.flatMap e ++ rest, false) = (l, (rest, false)) := by
  rw [allP, List.append_assoc, numP_enc hl, if_neg]
  · exact manyP_enc hf rest l [] h
  · show ¬ (l.flatMap e ++ rest).length < l.length
    rw [List.length_append]
    have := flat_len (e := e) (fun x hx => hp x (h x hx))
    omega
theorem listP_enc (l : List (List UInt8)) (h : ∀ x ∈ l, x.length < 9223372036854775808) (hl : l.length < 9223372036854775808) (rest : List UInt8) : allP textP (listL l ++ rest, false) = (l, (rest, false)) :=
  allP_enc (ok := fun x => x.length < 9223372036854775808) (fun x r hx => textP_enc hx r false) (fun x _ => by rw [textL, List.length_append]; have := varL_pos x.length; omega) l h hl rest
theorem numsP_enc (l : List Int) (h : ∀ x ∈ l, 0 ≤ x ∧ x < 9223372036854775808) (hl : l.length < 9223372036854775808) (rest : List UInt8) : allP intP (numsL l ++ rest, false) = (l, (rest, false)) :=
  allP_enc (ok := fun x => 0 ≤ x ∧ x < 9223372036854775808) (fun x r hx => intP_enc hx.1 hx.2 r false) (fun x hx => by rw [varI, if_neg (by omega)]; exact varL_pos _) l h hl rest

/-- What was read without a fault stood there. -/
theorem numP_back {s : RS} (h : (numP s).2.2 = false) : s.2 = false ∧ s.1 = varL (numP s).1 ++ (numP s).2.1 := by
  cases hn : nextN s.1 with
  | none => rw [numP_none hn] at h; cases h
  | some x =>
    obtain ⟨n, r⟩ := x
    rw [numP_some hn] at h ⊢
    exact ⟨h, (varL_dec 9 true s.1 n r hn).1⟩
theorem takeP_back {n : Nat} {s : RS} (h : (takeP (n : Int) s).2.2 = false) : s.2 = false ∧ (takeP (n : Int) s).1.length = n ∧ s.1 = (takeP (n : Int) s).1 ++ (takeP (n : Int) s).2.1 := by
  unfold takeP at h ⊢
  split at h
  · cases h
  · rename_i h1
    rw [if_neg h1]
    refine ⟨h, ?_, ?_⟩
    · simp only [List.length_take]; omega
    · simp
theorem textP_back {s : RS} (h : (textP s).2.2 = false) : s.2 = false ∧ s.1 = textL (textP s).1 ++ (textP s).2.1 := by
  obtain ⟨h1, h2, h3⟩ := takeP_back (n := (numP s).1) (s := (numP s).2) h
  obtain ⟨h4, h5⟩ := numP_back h1
  refine ⟨h4, ?_⟩
  rw [h5, h3, textL]
  show _ = varL (takeP ((numP s).1 : Int) (numP s).2).1.length ++ (takeP ((numP s).1 : Int) (numP s).2).1 ++ (takeP ((numP s).1 : Int) (numP s).2).2.1
  rw [h2, List.append_assoc]
theorem intP_back {s : RS} (h : (intP s).2.2 = false) : s.2 = false ∧ s.1 = varI (intP s).1 ++ (intP s).2.1 := by
  have := numP_back (s := s) h
  rw [intP, varI_nat]; exact this
theorem manyP_back {A : Type} {f : RS → A × RS} {e : A → List UInt8} (hf : ∀ s, (f s).2.2 = false → s.2 = false ∧ s.1 = e (f s).1 ++ (f s).2.1) (k : Nat) :
    ∀ (acc : List A) (s : RS), (manyP f k acc s).2.2 = false → s.2 = false ∧ ∃ l : List A, l.length = k ∧ (manyP f k acc s).1 = acc ++ l ∧ s.1 = l.flatMap e ++ (manyP f k acc s).2.1 := by
  induction k with
  | zero => intro acc s h; exact ⟨h, [], rfl, by simp [manyP], by simp [manyP]⟩
  | succ k ih =>
    intro acc s h
    rw [manyP] at h ⊢
    split at h
    · rename_i h1; rw [h] at h1; cases h1
    · rename_i h1
      rw [if_neg h1]
      have h2 : (f s).2.2 = false := by simpa using h1
      obtain ⟨h3, h4⟩ := hf s h2
      obtain ⟨_, l, h6, h7, h8⟩ := ih _ _ h
      refine ⟨h3, (f s).1 :: l, by simp [h6], by rw [h7, List.append_assoc]; rfl, ?_⟩
      rw [h4, List.flatMap_cons, List.append_assoc]
      conv => lhs; rw [h8]
theorem allP_back {A : Type} {f : RS → A × RS} {e : A → List UInt8} (hf : ∀ s, (f s).2.2 = false → s.2 = false ∧ s.1 = e (f s).1 ++ (f s).2.1) {s : RS} (h : (allP f s).2.2 = false) :
    s.2 = false ∧ s.1 = varL (allP f s).1.length ++ (allP f s).1.flatMap e ++ (allP f s).2.1 := by
  unfold allP at h ⊢
  split at h
  · cases h
  · rename_i h1
    rw [if_neg h1]
    obtain ⟨h2, l, h3, h4, h5⟩ := manyP_back hf _ _ _ h
    obtain ⟨h6, h7⟩ := numP_back h2
    refine ⟨h6, ?_⟩
    rw [List.nil_append] at h4
    rw [h4, h3, List.append_assoc, ← h5]; exact h7
theorem listP_back {s : RS} (h : (allP textP s).2.2 = false) : s.2 = false ∧ s.1 = listL (allP textP s).1 ++ (allP textP s).2.1 := allP_back (e := textL) (fun _ h => textP_back h) h
theorem numsP_back {s : RS} (h : (allP intP s).2.2 = false) : s.2 = false ∧ s.1 = numsL (allP intP s).1 ++ (allP intP s).2.1 := allP_back (e := varI) (fun _ h => intP_back h) h

/-- What is left when only the start of an encoding is read: the flag. -/
theorem take_append_cut {a b : List UInt8} {m : Nat} (h : a.length ≤ m) : (a ++ b).take m = a ++ b.take (m - a.length) := by
  rw [List.take_append, List.take_of_length_le h]
theorem numP_cut {n m : Nat} (h : m < (varL n).length) : numP ((varL n).take m, false) = (0, bad) := numP_none (dec_cut 9 true n m h)
/-- Reading the start of e ++ .. that is shorter than e fails. -/
def CutFails {A : Type} (f : RS → A × RS) (e : List UInt8) : Prop := ∀ m, m < e.length → (f (e.take m, false)).2 = bad
theorem numP_cuts (n : Nat) (rest : List UInt8) {m : Nat} (h : m < (varL n).length) : numP ((varL n ++ rest).take m, false) = (0, bad) := by
  rw [List.take_append_of_le_length (by omega)]
  exact numP_cut h
theorem takeP_bads {n : Nat} {l : List UInt8} (h : l.length < n) : takeP (n : Int) (l, false) = ([], bad) := by
  rw [takeP, if_pos (Or.inr (by show (l.length : Int) < n; omega))]
theorem textP_cut {t : List UInt8} (ht : t.length < 9223372036854775808) : ∀ m, m < (textL t).length → textP ((textL t).take m, false) = ([], bad) := by
  intro m h
  by_cases hm : m < (varL t.length).length
  · rw [textP, textL, numP_cuts _ _ hm]; rfl
  · rw [textL, List.length_append] at h
    rw [textL, take_append_cut (by omega), textP, numP_enc ht]
    exact takeP_bads (by rw [List.length_take]; omega)
theorem intP_cut {n : Int} (h0 : 0 ≤ n) : ∀ m, m < (varI n).length → intP ((varI n).take m, false) = (0, bad) := by
  intro m h
  obtain ⟨k, rfl⟩ : ∃ k : Nat, n = k := ⟨n.toNat, by omega⟩
  rw [varI_nat] at h ⊢
  rw [intP, numP_cut h]; rfl
theorem manyP_cut {A : Type} {f : RS → A × RS} {e : A → List UInt8} {ok : A → Prop} (hf : ∀ x rest, ok x → f (e x ++ rest, false) = (x, (rest, false))) (hc : ∀ x, ok x → ∀ m, m < (e x).length → (f ((e x).take m, false)).2 = bad) :
    ∀ (l acc : List A) (m : Nat), (∀ x ∈ l, ok x) → m < (l.flatMap e).length → manyP f l.length acc ((l.flatMap e).take m, false) = ([], bad) := by
  intro l
  induction l with
  | nil => intro acc m _ h; simp at h
  | cons x l ih =>
    intro acc m h hm
    rw [List.flatMap_cons] at hm ⊢
    rw [List.length_cons, manyP]
    by_cases hx : m < (e x).length
    · rw [List.take_append_of_le_length (by omega), hc x (h x List.mem_cons_self) m hx]
      rfl
    · rw [List.length_append] at hm
      rw [take_append_cut (by omega), hf x _ (h x List.mem_cons_self)]
      simp only [Bool.false_eq_true, if_false]
      exact ih _ _ (fun y hy => h y (List.mem_cons_of_mem _ hy)) (by omega)
theorem allP_cut {A : Type} {f : RS → A × RS} {e : A → List UInt8} {ok : A → Prop} (hf : ∀ x rest, ok x → f (e x ++ rest, false) = (x, (rest, false))) (hc : ∀ x, ok x → ∀ m, m < (e x).length → (f ((e x).take m, false)).2 = bad) (l : List A) (h : ∀ x ∈ l, ok x) (hl : l.length < 9223372036854775808) {m : Nat} (hm : m < (varL l.length ++ l.flatMap e).length) :
    (allP f ((varL l.length ++ l.flatMap e).take m, false)).2 = bad := by
  by_cases h1 : m < (varL l.length).length
  · rw [allP, numP_cuts _ _ h1]; rfl
  · rw [List.length_append] at hm
    rw [take_append_cut (by omega), allP, numP_enc hl]
    split
    · rfl
    · show (manyP f l.length [] _).2 = bad
      rw [manyP_cut hf hc l [] _ h (by omega)]
theorem listP_cut (l : List (List UInt8)) (h : ∀ x ∈ l, x.length < 9223372036854775808) (hl : l.length < 9223372036854775808) {m : Nat} (hm : m < (listL l).length) : (allP textP ((listL l).take m, false)).2 = bad :=
  allP_cut (ok := fun x => x.length < 9223372036854775808) (fun x r hx => textP_enc hx r false) (fun x hx m hm => by rw [textP_cut hx m hm]) l h hl hm
theorem numsP_cut (l : List Int) (h : ∀ x ∈ l, 0 ≤ x ∧ x < 9223372036854775808) (hl : l.length < 9223372036854775808) {m : Nat} (hm : m < (numsL l).length) : (allP intP ((numsL l).take m, false)).2 = bad :=
  allP_cut (ok := fun x => 0 ≤ x ∧ x < 9223372036854775808) (fun x r hx => intP_enc hx.1 hx.2 r false) (fun x hx m hm => by rw [intP_cut hx.1 m hm]) l h hl hm
end Go.Proofs.Ytbaddpkeaealpaa
