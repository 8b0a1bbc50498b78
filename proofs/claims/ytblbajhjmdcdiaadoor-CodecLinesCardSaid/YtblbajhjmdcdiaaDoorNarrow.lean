/- Narrow lines: of printable characters and blanks, 76 at most, no blank at the end; of no program. -/
import Derived.Test.YtblbajhjmdcdiaaDoorQpPure
namespace Go.Proofs.YtblbajhjmdcdiaaDoor

def okc (c : UInt8) : Bool := decide (c.toNat = 9) || (decide (32 ≤ c.toNat) && decide (c.toNat ≤ 126))
/-- Are the lines narrow? n bytes of the first were read before, 'b': a blank was the last; 'true': the LF of a CRLF stands first. -/
def narP : Bool → Nat → Bool → List UInt8 → Bool
  | _, n, b, [] => decide (n ≤ 76) && (decide (n = 0) || !b)
  | true, _, _, _ :: t => narP false 0 false t
  | false, n, b, c :: t => if crlfAt (c :: t) = true then decide (n ≤ 76) && (decide (n = 0) || !b) && narP true 0 false t else okc c && narP false (n + 1) (blank c) t
theorem narP_end (n : Nat) (b : Bool) (t : List UInt8) : narP false n b (13 :: 10 :: t) = (decide (n ≤ 76) && (decide (n = 0) || !b) && narP false 0 false t) := by
  show (if crlfAt _ = true then _ else _) = _
  rw [crlf_cons, if_pos rfl]
  rfl
theorem narP_go {c : UInt8} {t : List UInt8} (h : crlfAt (c :: t) = false) (n : Nat) (b : Bool) : narP false n b (c :: t) = (okc c && narP false (n + 1) (blank c) t) := by
  show (if crlfAt _ = true then _ else _) = _
  rw [h, if_neg (by decide)]
theorem narP_run : ∀ (p : List UInt8) (x : UInt8) (n : Nat) (b : Bool) (r : List UInt8), (∀ c ∈ p ++ [x], okc c = true ∧ c ≠ 13) →
    narP false n b (p ++ [x] ++ r) = narP false (n + (p.length + 1)) (blank x) r
  | [], x, n, b, r, h => by
    have hx := h x (by simp)
    show narP false n b (x :: r) = _
    rw [narP_go (crlf_cr hx.2 r), hx.1, Bool.true_and]
    rfl
  | c :: p, x, n, b, r, h => by
    have hc := h c (by simp)
    show narP false n b (c :: (p ++ [x] ++ r)) = _
    rw [narP_go (crlf_cr hc.2 _), hc.1, Bool.true_and, narP_run p x _ _ r (fun d hd => h d (by simp at hd ⊢; exact Or.inr hd)), List.length_cons]
    congr 1
    omega
theorem okc_of {c : UInt8} (h1 : 33 ≤ c.toNat) (h2 : c.toNat ≤ 126) : okc c = true ∧ c ≠ 13 := by
  refine ⟨?_, u8_ne (by show _ ≠ 13; omega)⟩
  simp only [okc, Bool.or_eq_true, Bool.and_eq_true, decide_eq_true_eq]
  omega
theorem not_blank {c : UInt8} (h1 : 33 ≤ c.toNat) : blank c = false := by
  have e3 : c ≠ 32 := u8_ne (by show _ ≠ 32; omega)
  have e4 : c ≠ 9 := u8_ne (by show _ ≠ 9; omega)
  simp [blank, e3, e4]

/-! ### base64 -/
theorem d64_in (n : Nat) (h : n < 64) : 33 ≤ (d64 n).toNat ∧ (d64 n).toNat ≤ 126 := ⟨(d64_ok ⟨n, h⟩).1, (d64_ok ⟨n, h⟩).2.1⟩
theorem eq_in : 33 ≤ (61 : UInt8).toNat ∧ (61 : UInt8).toNat ≤ 126 := by decide
theorem quad_is {l : List UInt8} (h : l ≠ []) : ∃ a b c d, quad l = [a, b, c] ++ [d] ∧ ∀ x ∈ [a, b, c] ++ [d], 33 ≤ x.toNat ∧ x.toNat ≤ 126 := by
  have key : ∀ a b c d : UInt8, (33 ≤ a.toNat ∧ a.toNat ≤ 126) → (33 ≤ b.toNat ∧ b.toNat ≤ 126) → (33 ≤ c.toNat ∧ c.toNat ≤ 126) → (33 ≤ d.toNat ∧ d.toNat ≤ 126) → ∀ x ∈ [a, b, c] ++ [d], 33 ≤ x.toNat ∧ x.toNat ≤ 126 := by
    intro a b c d ha hb hc hd x hx
    simp only [List.cons_append, List.nil_append, List.mem_cons, List.not_mem_nil, or_false] at hx
    rcases hx with rfl | rfl | rfl | rfl
    · exact ha
    · exact hb
    · exact hc
    · exact hd
  match l, h with
  | [a], _ =>
    have := a.toNat_lt
    exact ⟨_, _, _, _, rfl, key _ _ _ _ (d64_in _ (by omega)) (d64_in _ (by omega)) eq_in eq_in⟩
  | [a, b], _ =>
    have := a.toNat_lt
    have := b.toNat_lt
    exact ⟨_, _, _, _, rfl, key _ _ _ _ (d64_in _ (by omega)) (d64_in _ (by omega)) (d64_in _ (by omega)) eq_in⟩
  | a :: b :: c :: _, _ =>
    have := a.toNat_lt
    have := b.toNat_lt
    have := c.toNat_lt
    exact ⟨_, _, _, _, rfl, key _ _ _ _ (d64_in _ (by omega)) (d64_in _ (by omega)) (d64_in _ (by omega)) (d64_in _ (by omega))⟩
theorem narrow_b64 : ∀ (k : Nat) (l : List UInt8) (g : Nat), l.length ≤ k → narP false (4 * (g % 19)) false (b64G g l) = true := by
  intro k
  induction k with
  | zero =>
    intro l g h
    obtain rfl : l = [] := List.eq_nil_of_length_eq_zero (by omega)
    show (decide _ && _) = true
    have : 4 * (g % 19) ≤ 76 := by omega
    simp [this]
  | succ k ih =>
    intro l g h
    by_cases hn : l = []
    · subst hn
      show (decide _ && _) = true
      have : 4 * (g % 19) ≤ 76 := by omega
      simp [this]
    · rw [b64G_step g l hn]
      obtain ⟨a, b, c, d, hq, hin⟩ := quad_is (l := l.take 3) (by
        intro e
        have := congrArg List.length e
        rw [List.length_take, List.length_nil] at this
        have := List.length_pos_iff.2 hn
        omega)
      have hih := ih (l.drop 3) (g + 1) (by rw [List.length_drop]; have := List.length_pos_iff.2 hn; omega)
      rw [hq, List.append_assoc, narP_run [a, b, c] d _ _ _ (fun x hx => okc_of (hin x hx).1 (hin x hx).2), not_blank (hin d (by simp)).1]
      have e4 : 4 * (g % 19) + ([a, b, c].length + 1) = 4 * (g % 19) + 4 := rfl
      rw [e4]
      by_cases h19 : (g + 1) % 19 = 0
      · rw [if_pos (Or.inl h19)]
        show narP false _ false (13 :: 10 :: b64G (g + 1) (l.drop 3)) = true
        rw [h19] at hih
        rw [narP_end, hih]
        have : 4 * (g % 19) + 4 ≤ 76 := by omega
        simp [this]
      · by_cases hd : l.drop 3 = []
        · rw [if_pos (Or.inr hd), hd]
          show narP false _ false (13 :: 10 :: []) = true
          rw [narP_end]
          have : 4 * (g % 19) + 4 ≤ 76 := by omega
          simp [this, narP]
        · rw [if_neg (fun hh => hh.elim h19 hd)]
          have : 4 * (g % 19) + 4 = 4 * ((g + 1) % 19) := by omega
          rw [this]
          exact hih

/-! ### Quoted-printable -/
theorem piece_ok (c : UInt8) (b : Bool) : ∃ m x, piece c b = m ++ [x] ∧ (∀ d ∈ m ++ [x], okc d = true ∧ d ≠ 13) ∧ (b = true → blank x = false) := by
  unfold piece
  by_cases h : asItself c b = true
  · have k := asItself_ok h
    rw [if_pos h]
    refine ⟨[], c, rfl, ?_, k.2.2.2.1⟩
    intro d hd
    simp only [List.nil_append, List.mem_singleton] at hd
    subst hd
    rcases k.2.2.2.2 with hb | hb
    · rcases blank_iff hb with rfl | rfl
      · decide
      · decide
    · exact okc_of hb.1 hb.2
  · rw [if_neg h]
    have h1 := hexU_hi_ok c
    have h2 := hexU_lo_ok c
    refine ⟨[61, hexU (c.toNat / 16)], hexU (c.toNat % 16), rfl, ?_, fun _ => not_blank h2.1⟩
    intro d hd
    simp only [List.cons_append, List.nil_append, List.mem_cons, List.not_mem_nil, or_false] at hd
    rcases hd with rfl | rfl | rfl
    · decide
    · exact okc_of h1.1 h1.2.1
    · exact okc_of h2.1 h2.2.1
theorem narrow_qp : ∀ (k : Nat) (l : List UInt8) (n : Nat) (b : Bool), l.length ≤ k → n ≤ 75 → ((l.isEmpty || crlfAt l) = true → n = 0 ∨ b = false) → narP false n b (qpB false n l) = true
  | _, [], n, b, _, hn, he => by
    show (decide _ && _) = true
    have h2 : n ≤ 76 := by omega
    rcases he rfl with rfl | rfl <;> simp [h2]
  | 0, _ :: _, _, _, hk, _, _ => absurd hk (by simp)
  | k + 1, c :: t, n, b, hk, hn, he => by
    cases hc : crlfAt (c :: t) with
    | true =>
      obtain ⟨u, e⟩ := crlf_inv hc
      obtain ⟨rfl, rfl⟩ := List.cons.inj e
      rw [qpB_end, narP_end, narrow_qp k u 0 false (by simp at hk; omega) (by omega) (fun _ => Or.inl rfl)]
      have h2 : n ≤ 76 := by omega
      rcases he (by rw [hc]; rfl) with rfl | rfl <;> simp [h2]
    | false =>
      rw [qpB_go hc]
      obtain ⟨f, hf⟩ : ∃ f, f = (t.isEmpty || crlfAt t) := ⟨_, rfl⟩
      rw [← hf]
      have hl := piece_length c f
      obtain ⟨m, x, hp, hok, hbl⟩ := piece_ok c f
      have haf := after_le (n := n) c f
      have hih := narrow_qp k t (after n (piece c f)) (blank x) (by simp at hk; omega) haf (fun h => Or.inr (hbl (hf.trans h)))
      have hlen : (piece c f).length = m.length + 1 := by rw [hp]; simp
      unfold put
      by_cases hov : n + (piece c f).length > 75
      · rw [if_pos hov]
        show narP false n b (61 :: 13 :: 10 :: (piece c f ++ qpB false (after n (piece c f)) t)) = true
        rw [narP_go (crlf_cr (by decide) _), narP_end]
        have ha : after n (piece c f) = 0 + (m.length + 1) := by unfold after; rw [if_pos hov, hlen]; omega
        rw [ha] at hih ⊢
        rw [hp, narP_run m x 0 false _ hok, hih]
        have h2 : n + 1 ≤ 76 := by omega
        have h3 : okc 61 = true := by decide
        have h4 : blank 61 = false := by decide
        simp [h2, h3, h4]
      · rw [if_neg hov]
        have ha : after n (piece c f) = n + (m.length + 1) := by unfold after; rw [if_neg hov, hlen]
        rw [ha] at hih ⊢
        rw [hp, narP_run m x n b _ hok]
        exact hih
theorem narrow_b64L (l : List UInt8) : narP false 0 false (b64L l) = true := narrow_b64 l.length l 0 (Nat.le_refl _)
theorem narrow_qpL (l : List UInt8) : narP false 0 false (qpL l) = true := narrow_qp l.length l 0 false (Nat.le_refl _) (by omega) (fun _ => Or.inl rfl)
end Go.Proofs.YtblbajhjmdcdiaaDoor
