/- The encoding and the Reader as plain functions over lists of bytes; of no program. -/
import GoSem.Claim
import Derived.KernelRfl
namespace Go.Proofs.Ytbaddpkeaealpaa

/-- The varint of n. -/
def varL (n : Nat) : List UInt8 := if n < 128 then [UInt8.ofNat n] else UInt8.ofNat (n % 128 + 128) :: varL (n / 128)
termination_by n
/-- The varint of an integer: nothing if it is negative. -/
def varI (n : Int) : List UInt8 := if n < 0 then [] else varL n.toNat
def textL (t : List UInt8) : List UInt8 := varL t.length ++ t
def listL (l : List (List UInt8)) : List UInt8 := varL l.length ++ l.flatMap textL
def numsL (l : List Int) : List UInt8 := varL l.length ++ l.flatMap varI

theorem varL_small {n : Nat} (h : n < 128) : varL n = [UInt8.ofNat n] := by rw [varL, if_pos h]
theorem varL_big {n : Nat} (h : 128 ≤ n) : varL n = UInt8.ofNat (n % 128 + 128) :: varL (n / 128) := by rw [varL, if_neg (by omega)]
theorem varI_neg {n : Int} (h : n < 0) : varI n = [] := by rw [varI, if_pos h]
theorem varI_nat (n : Nat) : varI (n : Int) = varL n := by rw [varI, if_neg (by omega)]; rfl
theorem varL_len_le (k : Nat) : ∀ n, n < 128 ^ k → 0 < k → (varL n).length ≤ k := by
  induction k with
  | zero => intro n _ h; omega
  | succ k ih =>
    intro n hn _
    by_cases h : n < 128
    · rw [varL_small h]; simp
    · rw [varL_big (by omega), List.length_cons]
      have hk : 0 < k := by
        rcases Nat.eq_zero_or_pos k with rfl | h'
        · simp at hn; omega
        · exact h'
      have := ih (n / 128) (by rw [Nat.pow_succ] at hn; omega) hk
      omega
theorem varL_pos (n : Nat) : 0 < (varL n).length := by
  by_cases h : n < 128
  · rw [varL_small h]; simp
  · rw [varL_big (by omega)]; simp
theorem p9 : (128 : Nat) ^ 9 = 9223372036854775808 := by decide
theorem varL_nine {n : Nat} (h : n < 9223372036854775808) : (varL n).length ≤ 9 := varL_len_le 9 n (by rw [p9]; exact h) (by decide)
theorem varL_mono (a : Nat) : ∀ b, a ≤ b → (varL a).length ≤ (varL b).length := by
  induction a using varL.induct with
  | case1 a h => intro b hb; rw [varL_small h]; exact varL_pos b
  | case2 a h ih =>
    intro b hb
    rw [varL_big (n := a) (by omega), varL_big (n := b) (by omega)]
    have := ih (b / 128) (by omega)
    simp only [List.length_cons]; omega

/-- A varint of at most k bytes; behind others its last byte is not 0. -/
def dec : Nat → Bool → List UInt8 → Option (Nat × List UInt8)
  | 0, _, _ => none
  | _ + 1, _, [] => none
  | k + 1, first, c :: r => if c.toNat < 128 then (if c.toNat = 0 ∧ first = false then none else some (c.toNat, r)) else (dec k false r).map fun x => (c.toNat - 128 + 128 * x.1, x.2)
def nextN (l : List UInt8) : Option (Nat × List UInt8) := dec 9 true l

theorem byte_small {n : Nat} (h : n < 256) : (UInt8.ofNat n).toNat = n := by rw [UInt8.toNat_ofNat']; omega
theorem dec_varL (k : Nat) : ∀ (first : Bool) (n : Nat) (r : List UInt8), n < 128 ^ k → 0 < k → (first = true ∨ 0 < n) → dec k first (varL n ++ r) = some (n, r) := by
  induction k with
  | zero => intro _ _ _ _ h; omega
  | succ k ih =>
    intro first n r hn _ hf
    by_cases h : n < 128
    · rw [varL_small h, List.singleton_append, dec, byte_small (by omega), if_pos h, if_neg]
      rintro ⟨h1, h2⟩
      rcases hf with hf | hf
      · rw [hf] at h2; cases h2
      · omega
    · have hk : 0 < k := by
        rcases Nat.eq_zero_or_pos k with rfl | h'
        · simp at hn; omega
        · exact h'
      rw [varL_big (by omega), List.cons_append, dec, byte_small (by omega), if_neg (by omega), ih false (n / 128) r (by rw [Nat.pow_succ] at hn; omega) hk (Or.inr (by omega))]
      simp only [Option.map_some, Option.some.injEq, Prod.mk.injEq, and_true]
      omega
theorem varL_dec (k : Nat) : ∀ (first : Bool) (l : List UInt8) (n : Nat) (r : List UInt8), dec k first l = some (n, r) → l = varL n ++ r ∧ n < 128 ^ k ∧ (first = false → 0 < n) := by
  induction k with
  | zero => intro _ _ _ _ h; cases h
  | succ k ih =>
    intro first l n r h
    cases l with
    | nil => cases h
    | cons c l =>
      rw [dec] at h
      split at h
      · rename_i hc
        split at h
        · cases h
        · rename_i h0
          injection h with h
          injection h with h1 h2
          subst h1 h2
          refine ⟨?_, ?_, ?_⟩
          · rw [varL_small hc, List.singleton_append]
            congr 1
            apply UInt8.toNat_inj.1
            rw [byte_small (by omega)]
          · rw [Nat.pow_succ]
            have : 0 < 128 ^ k := Nat.pow_pos (by decide)
            omega
          · intro hf
            rcases Nat.eq_zero_or_pos c.toNat with h | h
            · exact absurd ⟨h, hf⟩ h0
            · exact h
      · rename_i hc
        cases hd : dec k false l with
        | none => rw [hd] at h; cases h
        | some x =>
          obtain ⟨m, r'⟩ := x
          rw [hd] at h
          simp only [Option.map_some, Option.some.injEq, Prod.mk.injEq] at h
          obtain ⟨rfl, rfl⟩ := h
          obtain ⟨e1, e2, e3⟩ := ih false l m r' hd
          have hm := e3 rfl
          have h256 := c.toNat_lt
          refine ⟨?_, ?_, fun _ => by omega⟩
          · rw [varL_big (by omega), List.cons_append, e1]
            congr 1
            · apply UInt8.toNat_inj.1
              rw [byte_small (by omega)]; omega
            · congr 2; omega
          · rw [Nat.pow_succ]; omega
theorem dec_cut (k : Nat) : ∀ (first : Bool) (n m : Nat), m < (varL n).length → dec k first ((varL n).take m) = none := by
  induction k with
  | zero => intros; rfl
  | succ k ih =>
    intro first n m hm
    cases m with
    | zero => rw [List.take_zero]; rfl
    | succ m =>
      by_cases h : n < 128
      · rw [varL_small h] at hm; simp at hm
      · rw [varL_big (by omega), List.length_cons] at hm
        rw [varL_big (by omega), List.take_succ_cons, dec, byte_small (by omega), if_neg (by omega), ih false (n / 128) m (by omega)]; rfl
theorem varL_first (a b : Nat) (ha : a < 128 ^ 9) (hb : b < 128 ^ 9) (h : (varL b).take (varL a).length = varL a) : a = b := by
  have h1 := dec_varL 9 true b [] hb (by decide) (Or.inl rfl)
  have h2 := dec_varL 9 true a ((varL b).drop (varL a).length) ha (by decide) (Or.inl rfl)
  have h3 : varL a ++ (varL b).drop (varL a).length = varL b := by
    conv => lhs; rw [← h]
    rw [List.length_take]
    have : min (varL a).length (varL b).length = (varL a).length := by
      have h4 := congrArg List.length h
      rw [List.length_take] at h4; exact h4
    rw [this]; exact List.take_append_drop _ _
  rw [h3] at h2
  rw [List.append_nil] at h1
  rw [h1] at h2
  injection h2 with h2
  injection h2 with h2 _
  exact h2.symm

/-- The number that the bytes' low seven bits spell, the least first. -/
def val : List UInt8 → Nat
  | [] => 0
  | c :: r => c.toNat % 128 + 128 * val r
theorem val_snoc (l : List UInt8) (c : UInt8) : val (l ++ [c]) = val l + 128 ^ l.length * (c.toNat % 128) := by
  induction l with
  | nil => simp [val]
  | cons a l ih =>
    rw [List.cons_append, val, ih, val, List.length_cons, Nat.pow_succ, Nat.mul_add, Nat.mul_comm (128 ^ l.length) 128, Nat.mul_assoc]; omega
theorem val_lt (l : List UInt8) : val l < 128 ^ l.length := by
  induction l with
  | nil => simp [val]
  | cons a l ih => rw [val, List.length_cons, Nat.pow_succ]; omega

theorem dec_ok (k : Nat) : ∀ (first : Bool) (l : List UInt8) (i : Nat) (h : i < l.length), i < k → (∀ j (hj : j < i), 128 ≤ (l[j]'(by omega)).toNat) → l[i].toNat < 128 → (l[i].toNat ≠ 0 ∨ (first = true ∧ i = 0)) →
    dec k first l = some (val (l.take (i + 1)), l.drop (i + 1)) := by
  induction k with
  | zero => intro _ _ _ _ h; omega
  | succ k ih =>
    intro first l i h hk hb hs hz
    cases l with
    | nil => simp at h
    | cons c l =>
      cases i with
      | zero =>
        simp only [List.getElem_cons_zero] at hs hz
        rw [dec, if_pos hs, if_neg]
        · simp [val]; omega
        · rintro ⟨h1, h2⟩
          rcases hz with hz | ⟨hz, _⟩
          · exact hz h1
          · rw [hz] at h2; cases h2
      | succ i =>
        have h0 := hb 0 (by omega)
        simp only [List.getElem_cons_zero] at h0
        simp only [List.getElem_cons_succ] at hs hz
        rw [dec, if_neg (by omega), ih false l i (by simpa using h) (by omega) (fun j hj => by simpa using hb (j + 1) (by omega)) hs (Or.inl (by rcases hz with hz | ⟨_, hz⟩; exact hz; omega))]
        simp only [Option.map_some, List.take_succ_cons, List.drop_succ_cons, val, Option.some.injEq, Prod.mk.injEq, and_true]
        have := c.toNat_lt
        omega
theorem dec_zero (k : Nat) : ∀ (first : Bool) (l : List UInt8) (i : Nat) (h : i < l.length), (∀ j (hj : j < i), 128 ≤ (l[j]'(by omega)).toNat) → l[i].toNat = 0 → (first = false ∨ 0 < i) → dec k first l = none := by
  induction k with
  | zero => intros; rfl
  | succ k ih =>
    intro first l i h hb hs hz
    cases l with
    | nil => rfl
    | cons c l =>
      cases i with
      | zero =>
        simp only [List.getElem_cons_zero] at hs
        rw [dec, if_pos (by omega), if_pos ⟨hs, by rcases hz with hz | hz; exact hz; omega⟩]
      | succ i =>
        have h0 := hb 0 (by omega)
        simp only [List.getElem_cons_zero] at h0
        simp only [List.getElem_cons_succ] at hs
        rw [dec, if_neg (by omega), ih false l i (by simpa using h) (fun j hj => by simpa using hb (j + 1) (by omega)) hs (Or.inl rfl)]; rfl
theorem dec_over (k : Nat) : ∀ (first : Bool) (l : List UInt8), (∀ j (hj : j < l.length), j < k → 128 ≤ l[j].toNat) → dec k first l = none := by
  induction k with
  | zero => intros; rfl
  | succ k ih =>
    intro first l hb
    cases l with
    | nil => rfl
    | cons c l =>
      have h0 := hb 0 (by simp) (by omega)
      simp only [List.getElem_cons_zero] at h0
      rw [dec, if_neg (by omega), ih false l (fun j hj hk => hb (j + 1) (by simpa using hj) (by omega))]; rfl
theorem nextN_ok {l : List UInt8} {i : Nat} (h : i < l.length) (hk : i < 9) (hb : ∀ j (hj : j < i), 128 ≤ (l[j]'(by omega)).toNat) (hs : l[i].toNat < 128) (hz : l[i].toNat ≠ 0 ∨ i = 0) : nextN l = some (val (l.take (i + 1)), l.drop (i + 1)) :=
  dec_ok 9 true l i h hk hb hs (hz.imp_right fun h => ⟨rfl, h⟩)
theorem nextN_zero {l : List UInt8} {i : Nat} (h : i < l.length) (hb : ∀ j (hj : j < i), 128 ≤ (l[j]'(by omega)).toNat) (hs : l[i].toNat = 0) (hz : 0 < i) : nextN l = none :=
  dec_zero 9 true l i h hb hs (Or.inr hz)
theorem nextN_over {l : List UInt8} (hb : ∀ j (hj : j < l.length), j < 9 → 128 ≤ l[j].toNat) : nextN l = none := dec_over 9 true l hb
theorem nextN_lt {l r : List UInt8} {n : Nat} (h : nextN l = some (n, r)) : n < 9223372036854775808 ∧ r.length < l.length := by
  obtain ⟨h1, h2, _⟩ := varL_dec 9 true l n r h
  refine ⟨by rw [p9] at h2; exact h2, ?_⟩
  rw [h1, List.length_append]
  have := varL_pos n
  omega

/-- A Reader's state: the unread bytes, the error flag. -/
abbrev RS := List UInt8 × Bool
/-- Once the flag is set nothing is unread. -/
def Good (s : RS) : Prop := s.2 = true → s.1 = []
def bad : RS := ([], true)
theorem good_bad : Good bad := fun _ => rfl
def numP (s : RS) : Nat × RS := match nextN s.1 with | some (n, r) => (n, (r, s.2)) | none => (0, bad)
def takeP (n : Int) (s : RS) : List UInt8 × RS := if n < 0 ∨ (s.1.length : Int) < n then ([], bad) else (s.1.take n.toNat, (s.1.drop n.toNat, s.2))
def textP (s : RS) : List UInt8 × RS := takeP ((numP s).1 : Int) (numP s).2
def intP (s : RS) : Int × RS := (((numP s).1 : Int), (numP s).2)
/-- k values more behind those in 'acc'; none at all once one fails. -/
def manyP {A : Type} (f : RS → A × RS) : Nat → List A → RS → List A × RS
  | 0, acc, s => (acc, s)
  | k + 1, acc, s => if (f s).2.2 = true then ([], (f s).2) else manyP f k (acc ++ [(f s).1]) (f s).2
def allP {A : Type} (f : RS → A × RS) (s : RS) : List A × RS := if (numP s).2.1.length < (numP s).1 then ([], bad) else manyP f (numP s).1 [] (numP s).2
def listP (s : RS) : List (List UInt8) × RS := allP textP s
def numsP (s : RS) : List Int × RS := allP intP s
def doneP (s : RS) : Bool := !s.2 && s.1.isEmpty

theorem numP_some {s : RS} {n : Nat} {r : List UInt8} (h : nextN s.1 = some (n, r)) : numP s = (n, (r, s.2)) := by rw [numP, h]
theorem numP_none {s : RS} (h : nextN s.1 = none) : numP s = (0, bad) := by rw [numP, h]
theorem numP_len (s : RS) : (numP s).2.1.length ≤ s.1.length ∧ (numP s).1 < 9223372036854775808 := by
  cases h : nextN s.1 with
  | none => rw [numP_none h]; exact ⟨Nat.zero_le _, by decide⟩
  | some x => obtain ⟨n, r⟩ := x; rw [numP_some h]; have := nextN_lt h; exact ⟨by show r.length ≤ _; omega, this.1⟩
theorem takeP_len (n : Int) (s : RS) : (takeP n s).2.1.length ≤ s.1.length ∧ (takeP n s).1.length ≤ s.1.length := by
  unfold takeP
  split
  · exact ⟨Nat.zero_le _, Nat.zero_le _⟩
  · simp only [List.length_drop, List.length_take]; omega
theorem textP_len (s : RS) : (textP s).2.1.length ≤ s.1.length ∧ (textP s).1.length ≤ s.1.length := by
  have h1 := takeP_len ((numP s).1 : Int) (numP s).2
  have h2 := (numP_len s).1
  exact ⟨Nat.le_trans h1.1 h2, Nat.le_trans h1.2 h2⟩
theorem numP_good {s : RS} (hg : Good s) : Good (numP s).2 := by
  cases h : nextN s.1 with
  | none => rw [numP_none h]; exact good_bad
  | some x =>
    obtain ⟨n, r⟩ := x
    rw [numP_some h]
    intro h2
    have h3 := hg h2
    rw [h3] at h; cases h
theorem takeP_good {n : Int} {s : RS} (hg : Good s) : Good (takeP n s).2 := by
  unfold takeP
  split
  · exact good_bad
  · intro h2
    show s.1.drop _ = []
    rw [hg h2]; simp
theorem textP_good {s : RS} (hg : Good s) : Good (textP s).2 := takeP_good (numP_good hg)
theorem manyP_good {A : Type} {f : RS → A × RS} (hf : ∀ s, Good s → Good (f s).2) (k : Nat) : ∀ acc s, Good s → Good (manyP f k acc s).2 := by
  induction k with
  | zero => intro acc s h; exact h
  | succ k ih =>
    intro acc s h
    rw [manyP]
    split
    · exact hf s h
    · exact ih _ _ (hf s h)
theorem allP_good {A : Type} {f : RS → A × RS} (hf : ∀ s, Good s → Good (f s).2) {s : RS} (h : Good s) : Good (allP f s).2 := by
  unfold allP
  split
  · exact good_bad
  · exact manyP_good hf _ _ _ (numP_good h)
theorem intP_good {s : RS} (hg : Good s) : Good (intP s).2 := numP_good hg
theorem manyP_len {A : Type} {f : RS → A × RS} (hf : ∀ s, (f s).2.1.length ≤ s.1.length) (k : Nat) : ∀ acc s, (manyP f k acc s).2.1.length ≤ s.1.length ∧ (manyP f k acc s).1.length ≤ acc.length + k := by
  induction k with
  | zero => intro acc s; exact ⟨Nat.le_refl _, Nat.le_refl _⟩
  | succ k ih =>
    intro acc s
    rw [manyP]
    split
    · exact ⟨hf s, Nat.zero_le _⟩
    · have := ih (acc ++ [(f s).1]) (f s).2
      have h2 := hf s
      rw [List.length_append, List.length_singleton] at this
      exact ⟨by omega, by omega⟩
theorem allP_len {A : Type} {f : RS → A × RS} (hf : ∀ s, (f s).2.1.length ≤ s.1.length) (s : RS) : (allP f s).2.1.length ≤ s.1.length ∧ (allP f s).1.length ≤ s.1.length := by
  have h0 := (numP_len s).1
  unfold allP
  split
  · exact ⟨Nat.zero_le _, Nat.zero_le _⟩
  · have := manyP_len hf (numP s).1 [] (numP s).2
    simp only [List.length_nil] at this
    exact ⟨by omega, by omega⟩
theorem takeP_bad {n : Int} {s : RS} (hg : Good s) (hb : s.2 = true) : takeP n s = ([], bad) := by
  have h : s = bad := by rw [bad, ← hg hb, ← hb]
  rw [h]
  unfold takeP
  split
  · rfl
  · rename_i h
    simp [bad] at h ⊢
end Go.Proofs.Ytbaddpkeaealpaa
