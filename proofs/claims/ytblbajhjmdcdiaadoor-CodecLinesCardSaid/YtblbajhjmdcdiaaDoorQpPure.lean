/- Quoted-printable on lists of bytes, and what the library's searches say of them; of no program. -/
import Derived.Test.YtblbajhjmdcdiaaDoorCodecPure
import Derived.Lib.Strings
import Derived.Lib.IndexMore
import Derived.Lib.SlTrimSet
namespace Go.Proofs.YtblbajhjmdcdiaaDoor

/-! ## Suffixes of one byte -/
theorem snoc_cases (l : List UInt8) : l = [] ∨ ∃ m x, l = m ++ [x] := by
  rcases List.eq_nil_or_concat l with h | ⟨m, x, h⟩
  · exact Or.inl h
  · exact Or.inr ⟨m, x, by rw [h, List.concat_eq_append]⟩
theorem suf_snoc (l : List UInt8) (x y : UInt8) : Lib.hasSuffix (l ++ [x]) [y] = (y == x) := by
  unfold Lib.hasSuffix List.isSuffixOf
  rw [List.reverse_append, List.reverse_singleton, List.reverse_singleton]
  simp [List.isPrefixOf]
theorem suf_nil (y : UInt8) : Lib.hasSuffix [] [y] = false := rfl
theorem trim_snoc (l : List UInt8) (x : UInt8) : Lib.trimSuffix (l ++ [x]) [x] = l := by
  unfold Lib.trimSuffix
  rw [suf_snoc, if_pos (by simp)]
  simp
theorem trim_no {l : List UInt8} {y : UInt8} (h : Lib.hasSuffix l [y] = false) : Lib.trimSuffix l [y] = l := by
  unfold Lib.trimSuffix
  rw [h]; rfl
theorem trimSuffix_le (l p : List UInt8) : (Lib.trimSuffix l p).length ≤ l.length := by
  unfold Lib.trimSuffix
  split
  · rw [List.length_take]; omega
  · exact Nat.le_refl _
theorem suf_not_mem {l : List UInt8} {y : UInt8} (h : y ∉ l) : Lib.hasSuffix l [y] = false := by
  rcases snoc_cases l with rfl | ⟨m, x, rfl⟩
  · rfl
  · rw [suf_snoc]
    rw [List.mem_append, List.mem_singleton] at h
    simpa using fun e => h (Or.inr e)

/-! ## Blanks at the end -/
def blank (c : UInt8) : Bool := c == 32 || c == 9
def strip (l : List UInt8) : List UInt8 := Lib.trimRightS l [32, 9]
theorem contains_blank (x : UInt8) : ([32, 9] : List UInt8).contains x = blank x := by
  simp only [List.contains_cons, List.contains_nil, Bool.or_false, blank]
theorem strip_nil : strip [] = [] := rfl
theorem strip_snoc (l : List UInt8) (x : UInt8) : strip (l ++ [x]) = if blank x = true then strip l else l ++ [x] := by
  unfold strip Lib.trimRightS
  rw [List.reverse_append, List.reverse_singleton, List.singleton_append, List.dropWhile_cons, contains_blank]
  split
  · rfl
  · rw [List.reverse_cons, List.reverse_reverse]
theorem strip_le (l : List UInt8) : (strip l).length ≤ l.length := by
  unfold strip Lib.trimRightS
  rw [List.length_reverse]
  exact Nat.le_trans (List.dropWhile_sublist _).length_le (by rw [List.length_reverse]; exact Nat.le_refl _)
theorem strip_keep {l : List UInt8} (h : ∀ m x, l = m ++ [x] → blank x = false) : strip l = l := by
  rcases snoc_cases l with rfl | ⟨m, x, rfl⟩
  · rfl
  · rw [strip_snoc, if_neg (by rw [h m x rfl]; decide)]

/-! ## Decoding -/
def lineOut (l term : List UInt8) : List UInt8 := escapes (Lib.trimSuffix (strip l) [61]) ++ if Lib.hasSuffix (strip l) [61] = true then [] else term
/-- A line that ended with LF. -/
def lineEnd (l : List UInt8) : List UInt8 := if Lib.hasSuffix l [13] = true then lineOut (Lib.trimSuffix l [13]) [13, 10] else lineOut l [10]
/-- What l decodes to, acc of its first line read before. -/
def unqpA : List UInt8 → List UInt8 → List UInt8
  | acc, [] => lineOut acc []
  | acc, c :: t => if c = 10 then lineEnd acc ++ unqpA [] t else unqpA (acc ++ [c]) t
def unqpL (l : List UInt8) : List UInt8 := unqpA [] l
theorem lineOut_nil : lineOut [] [] = [] := rfl
theorem unqpA_lf (acc t : List UInt8) : unqpA acc (10 :: t) = lineEnd acc ++ unqpA [] t := rfl
theorem unqpA_go {c : UInt8} (h : c ≠ 10) (acc t : List UInt8) : unqpA acc (c :: t) = unqpA (acc ++ [c]) t := by
  show (if _ then _ else _) = _
  rw [if_neg h]
theorem unqpA_run : ∀ (p : List UInt8), 10 ∉ p → ∀ acc t, unqpA acc (p ++ t) = unqpA (acc ++ p) t
  | [], _, acc, t => by rw [List.append_nil]; rfl
  | c :: r, h, acc, t => by
    rw [List.cons_append, unqpA_go (fun e => h (by simp [e])), unqpA_run r (fun e => h (by simp [e]))]
    congr 1
    simp
theorem unqpA_line {p : List UInt8} (h : 10 ∉ p) (t : List UInt8) : unqpA [] (p ++ 10 :: t) = lineEnd p ++ unqpA [] t := by
  rw [unqpA_run p h, List.nil_append, unqpA_lf]
theorem unqpA_last {p : List UInt8} (h : 10 ∉ p) : unqpA [] p = lineOut p [] := by
  have := unqpA_run p h [] []
  rw [List.append_nil, List.nil_append] at this
  exact this
/-- What stands before the end of a line decodes by itself. -/
theorem unqpA_cut : ∀ (a acc t : List UInt8), unqpA acc (a ++ 10 :: t) = unqpA acc (a ++ [10]) ++ unqpA [] t
  | [], acc, t => by
    show lineEnd acc ++ _ = (lineEnd acc ++ unqpA [] []) ++ _
    rw [show unqpA [] [] = [] from rfl, List.append_nil]
  | c :: r, acc, t => by
    rw [List.cons_append, List.cons_append]
    by_cases h : c = 10
    · subst h
      rw [unqpA_lf, unqpA_lf, unqpA_cut r, List.append_assoc]
    · rw [unqpA_go h, unqpA_go h, unqpA_cut r]

/-! ## A plain text decodes to itself -/
def plainB (c : UInt8) : Bool := !(c == 61) && !(blank c)
theorem plain_strip {l : List UInt8} (h : ∀ c ∈ l, plainB c = true) : strip l = l := by
  refine strip_keep fun m x e => ?_
  have := h x (by rw [e]; simp)
  simp only [plainB, Bool.and_eq_true, Bool.not_eq_true'] at this
  exact this.2
theorem plain_no {l : List UInt8} (h : ∀ c ∈ l, plainB c = true) : 61 ∉ l := fun hm => by
  have := h 61 hm
  revert this; decide
theorem plain_out {l : List UInt8} (h : ∀ c ∈ l, plainB c = true) (term : List UInt8) : lineOut l term = l ++ term := by
  unfold lineOut
  rw [plain_strip h, suf_not_mem (plain_no h), trim_no (suf_not_mem (plain_no h)), escapes_plain l (fun c hc e => plain_no h (e ▸ hc))]
  rfl
theorem plain_end {l : List UInt8} (h : ∀ c ∈ l, plainB c = true) : lineEnd l = l ++ [10] := by
  unfold lineEnd
  rcases snoc_cases l with rfl | ⟨m, x, rfl⟩
  · rfl
  · rw [suf_snoc]
    by_cases hx : x = 13
    · subst hx
      rw [if_pos (by simp), trim_snoc, plain_out (fun c hc => h c (by simp [hc]))]
      simp
    · rw [if_neg (by simpa using fun e => hx e.symm), plain_out h]
theorem plain_back : ∀ (p acc : List UInt8), (∀ c ∈ acc, plainB c = true) → (∀ c ∈ p, plainB c = true) → unqpA acc p = acc ++ p
  | [], acc, h, _ => by
    show lineOut acc [] = _
    rw [plain_out h]
  | c :: r, acc, h, hp => by
    by_cases hc : c = 10
    · subst hc
      rw [unqpA_lf, plain_end h, plain_back r [] (fun c hc => by cases hc) (fun c hc => hp c (by simp [hc]))]
      simp
    · rw [unqpA_go hc, plain_back r (acc ++ [c]) ?_ (fun c hc => hp c (by simp [hc]))]
      · simp
      · intro d hd
        rw [List.mem_append, List.mem_singleton] at hd
        rcases hd with hd | rfl
        · exact h d hd
        · exact hp d (by simp)
theorem plain_all {p : List UInt8} (h : ∀ c ∈ p, plainB c = true) : unqpL p = p := plain_back p [] (fun c hc => by cases hc) h
theorem plain_front {p : List UInt8} (h : ∀ c ∈ p, plainB c = true) (t : List UInt8) : unqpL (p ++ [120, 10] ++ t) = p ++ [120, 10] ++ unqpL t := by
  have e : p ++ [120, 10] ++ t = (p ++ [120]) ++ 10 :: t := by simp
  have e2 : (p ++ [120]) ++ [10] = p ++ [120, 10] := by simp
  unfold unqpL
  rw [e, unqpA_cut, e2]
  congr 1
  exact plain_all fun c hc => by
    rw [List.mem_append] at hc
    rcases hc with hc | hc
    · exact h c hc
    · simp only [List.mem_cons, List.not_mem_nil, or_false] at hc
      rcases hc with rfl | rfl <;> decide
theorem plain_behind {p : List UInt8} (h : ∀ c ∈ p, plainB c = true) (t : List UInt8) : unqpL (t ++ [120, 10] ++ p) = unqpL (t ++ [120, 10]) ++ p := by
  have e : t ++ [120, 10] ++ p = (t ++ [120]) ++ 10 :: p := by simp
  have e2 : (t ++ [120]) ++ [10] = t ++ [120, 10] := by simp
  unfold unqpL
  rw [e, unqpA_cut, e2]
  congr 1
  exact plain_all h

/-! ## Encoding -/
/-- Does CRLF stand at the start? -/
def crlfAt (l : List UInt8) : Bool := ([13, 10] : List UInt8).isPrefixOf l
/-- Is quoted-printable's byte itself? -/
def asItself (c : UInt8) (last : Bool) : Bool := if blank c = true then !last else decide (33 ≤ c.toNat) && decide (c.toNat ≤ 126) && decide (c ≠ 61)
def piece (c : UInt8) (last : Bool) : List UInt8 := if asItself c last = true then [c] else esc c
/-- A piece behind n bytes of its line. -/
def put (n : Nat) (p : List UInt8) : List UInt8 := if n + p.length > 75 then 61 :: 13 :: 10 :: p else p
def after (n : Nat) (p : List UInt8) : Nat := if n + p.length > 75 then p.length else n + p.length
/-- A line without its end, n bytes of the line that comes out written before. -/
def lineQ : Nat → List UInt8 → List UInt8
  | _, [] => []
  | n, c :: t => put n (piece c t.isEmpty) ++ lineQ (after n (piece c t.isEmpty)) t
/-- A text; 'true': the LF of a CRLF stands first. -/
def qpB : Bool → Nat → List UInt8 → List UInt8
  | _, _, [] => []
  | true, _, c :: t => c :: qpB false 0 t
  | false, n, c :: t => if crlfAt (c :: t) = true then c :: qpB true 0 t else put n (piece c (t.isEmpty || crlfAt t)) ++ qpB false (after n (piece c (t.isEmpty || crlfAt t))) t
def qpL (l : List UInt8) : List UInt8 := qpB false 0 l
theorem crlf_cons (t : List UInt8) : crlfAt (13 :: 10 :: t) = true := by unfold crlfAt; simp [List.isPrefixOf]
theorem crlf_inv {l : List UInt8} (h : crlfAt l = true) : ∃ t, l = 13 :: 10 :: t := by
  match l, h with
  | [], h => cases h
  | [a], h => simp [crlfAt, List.isPrefixOf] at h
  | a :: b :: t, h =>
    simp only [crlfAt, List.isPrefixOf, Bool.and_true, Bool.and_eq_true, beq_iff_eq] at h
    exact ⟨t, by rw [h.1, h.2]⟩
theorem crlf_cr {c : UInt8} (h : c ≠ 13) (t : List UInt8) : crlfAt (c :: t) = false := by
  rw [Bool.eq_false_iff]
  intro hh
  obtain ⟨u, e⟩ := crlf_inv hh
  exact h (List.cons.inj e).1
theorem qpB_end (n : Nat) (t : List UInt8) : qpB false n (13 :: 10 :: t) = 13 :: 10 :: qpB false 0 t := by
  show (if crlfAt _ = true then _ else _) = _
  rw [crlf_cons, if_pos rfl]
  rfl
theorem qpB_go {c : UInt8} {t : List UInt8} (h : crlfAt (c :: t) = false) (n : Nat) : qpB false n (c :: t) = put n (piece c (t.isEmpty || crlfAt t)) ++ qpB false (after n (piece c (t.isEmpty || crlfAt t))) t := by
  show (if crlfAt _ = true then _ else _) = _
  rw [h, if_neg (by decide)]
/-- Line by line. -/
theorem qpB_line : ∀ (a : List UInt8) (b : List UInt8) (n : Nat), (∀ j, j < a.length → crlfAt ((a ++ 13 :: 10 :: b).drop j) = false) →
    qpB false n (a ++ 13 :: 10 :: b) = lineQ n a ++ 13 :: 10 :: qpB false 0 b
  | [], b, n, _ => qpB_end n b
  | c :: r, b, n, h => by
    have h0 : crlfAt (c :: (r ++ 13 :: 10 :: b)) = false := h 0 (by simp)
    have e : ((r ++ 13 :: 10 :: b).isEmpty || crlfAt (r ++ 13 :: 10 :: b)) = r.isEmpty := by
      cases r with
      | nil => simp [crlf_cons]
      | cons d s =>
        have := h 1 (by simp)
        simp only [List.cons_append, List.drop_succ_cons, List.drop_zero] at this
        simp [this]
    rw [List.cons_append, qpB_go h0, e, qpB_line r b _ (fun j hj => h (j + 1) (by simpa using hj))]
    show _ = (put n (piece c r.isEmpty) ++ lineQ (after n (piece c r.isEmpty)) r) ++ _
    rw [List.append_assoc]
theorem qpB_last : ∀ (a : List UInt8) (n : Nat), (∀ j, j ≤ a.length → crlfAt (a.drop j) = false) → qpB false n a = lineQ n a
  | [], n, _ => rfl
  | c :: r, n, h => by
    have h0 : crlfAt (c :: r) = false := h 0 (by simp)
    have e : (r.isEmpty || crlfAt r) = r.isEmpty := by
      have := h 1 (by simp)
      simp only [List.drop_succ_cons, List.drop_zero] at this
      rw [this, Bool.or_false]
    rw [qpB_go h0, e, qpB_last r _ (fun j hj => h (j + 1) (by simpa using hj))]
    rfl
theorem piece_length (c : UInt8) (b : Bool) : 1 ≤ (piece c b).length ∧ (piece c b).length ≤ 3 := by
  unfold piece esc
  split <;> simp
theorem after_le {n : Nat} (c : UInt8) (b : Bool) : after n (piece c b) ≤ 75 := by
  have := piece_length c b
  unfold after
  split <;> omega
theorem lineQ_length : ∀ (l : List UInt8) (n : Nat), (lineQ n l).length ≤ 6 * l.length
  | [], _ => Nat.le_refl _
  | c :: t, n => by
    show (put n (piece c t.isEmpty) ++ _).length ≤ _
    have h1 := piece_length c t.isEmpty
    have h2 : (put n (piece c t.isEmpty)).length ≤ 6 := by unfold put; split <;> (try simp only [List.length_cons]) <;> omega
    have ih := lineQ_length t (after n (piece c t.isEmpty))
    rw [List.length_append, List.length_cons]
    omega
theorem qpB_length : ∀ (l : List UInt8) (b : Bool) (n : Nat), (qpB b n l).length ≤ 6 * l.length
  | [], _, _ => by unfold qpB; exact Nat.le_refl _
  | c :: t, true, n => by
    show (c :: qpB false 0 t).length ≤ _
    have := qpB_length t false 0
    rw [List.length_cons, List.length_cons]; omega
  | c :: t, false, n => by
    cases h : crlfAt (c :: t) with
    | true =>
      obtain ⟨u, e⟩ := crlf_inv h
      obtain ⟨rfl, rfl⟩ := List.cons.inj e
      show (if crlfAt _ = true then _ else _ : List UInt8).length ≤ _
      rw [h, if_pos rfl]
      have := qpB_length (10 :: u) true 0
      rw [List.length_cons, List.length_cons]; omega
    | false =>
      rw [qpB_go h]
      have h1 := piece_length c (t.isEmpty || crlfAt t)
      have h2 : (put n (piece c (t.isEmpty || crlfAt t))).length ≤ 6 := by unfold put; split <;> (try simp only [List.length_cons]) <;> omega
      have ih := qpB_length t false (after n (piece c (t.isEmpty || crlfAt t)))
      rw [List.length_append, List.length_cons]
      omega
theorem qpL_length (l : List UInt8) : (qpL l).length ≤ 6 * l.length := qpB_length l false 0

/-! ## Decoding inverts encoding -/
theorem blank_iff {c : UInt8} (h : blank c = true) : c = 32 ∨ c = 9 := by simpa [blank] using h
theorem asItself_ok {c : UInt8} {b : Bool} (h : asItself c b = true) : c ≠ 61 ∧ c ≠ 10 ∧ c ≠ 13 ∧ (b = true → blank c = false) ∧ (blank c = true ∨ (33 ≤ c.toNat ∧ c.toNat ≤ 126)) := by
  unfold asItself at h
  by_cases hb : blank c = true
  · rw [if_pos hb] at h
    have hl : b = false := by simpa using h
    subst hl
    rcases blank_iff hb with rfl | rfl
    · exact ⟨by decide, by decide, by decide, fun h => absurd h (by decide), Or.inl rfl⟩
    · exact ⟨by decide, by decide, by decide, fun h => absurd h (by decide), Or.inl rfl⟩
  · rw [if_neg hb] at h
    simp only [Bool.and_eq_true, decide_eq_true_eq] at h
    refine ⟨h.2, u8_ne ?_, u8_ne ?_, fun _ => by simpa using hb, Or.inr h.1⟩
    all_goals (show c.toNat ≠ _; intro e; simp at e; omega)
/-- What pieces end with. -/
theorem piece_last (c : UInt8) (b : Bool) : ∃ m x, piece c b = m ++ [x] ∧ x ≠ 61 ∧ x ≠ 13 ∧ (b = true → blank x = false) ∧ 10 ∉ piece c b := by
  unfold piece
  by_cases h : asItself c b = true
  · have k := asItself_ok h
    rw [if_pos h]
    exact ⟨[], c, rfl, k.1, k.2.2.1, k.2.2.2.1, by simpa using fun e => k.2.1 e.symm⟩
  · rw [if_neg h]
    have h1 := hexU_hi_ok c
    have h2 := hexU_lo_ok c
    have hne : ∀ x : UInt8, 33 ≤ x.toNat → x ≠ 13 ∧ x ≠ 10 ∧ blank x = false := by
      intro x hx
      have e1 : x ≠ 13 := u8_ne (by show _ ≠ 13; omega)
      have e2 : x ≠ 10 := u8_ne (by show _ ≠ 10; omega)
      have e3 : x ≠ 32 := u8_ne (by show _ ≠ 32; omega)
      have e4 : x ≠ 9 := u8_ne (by show _ ≠ 9; omega)
      exact ⟨e1, e2, by simp [blank, e3, e4]⟩
    refine ⟨[61, hexU (c.toNat / 16)], hexU (c.toNat % 16), rfl, h2.2.2.1, (hne _ h2.1).1, fun _ => (hne _ h2.1).2.2, ?_⟩
    simp only [esc, List.mem_cons, List.not_mem_nil, or_false]
    rintro (e | e | e)
    · revert e; decide
    · exact (hne _ h1.1).2.1 e.symm
    · exact (hne _ h2.1).2.1 e.symm
theorem piece_back (c : UInt8) (b : Bool) (x : List UInt8) : escapes (piece c b ++ x) = c :: escapes x := by
  unfold piece
  by_cases h : asItself c b = true
  · rw [if_pos h]; exact escapes_lit (asItself_ok h).1 x
  · rw [if_neg h]; exact escapes_esc c x
/-- What lies before in the line that is read: it decodes to d by itself; and where the text ends, or a line of it, it ends with no blank. -/
structure Done (acc d rest : List UInt8) : Prop where
  dec : ∀ x, escapes (acc ++ x) = d ++ escapes x
  cr : Lib.hasSuffix acc [13] = false
  eqs : Lib.hasSuffix acc [61] = false
  bl : (rest.isEmpty || crlfAt rest) = true → strip acc = acc
theorem done_nil (rest : List UInt8) : Done [] [] rest := ⟨fun _ => rfl, rfl, rfl, fun _ => rfl⟩
theorem done_out {acc d rest : List UInt8} (h : Done acc d rest) (he : (rest.isEmpty || crlfAt rest) = true) (term : List UInt8) : lineOut acc term = d ++ term := by
  have e := h.dec []
  rw [List.append_nil, show escapes [] = [] from rfl, List.append_nil] at e
  unfold lineOut
  rw [h.bl he, h.eqs, trim_no h.eqs, e]
  rfl
theorem done_put {acc d : List UInt8} {c : UInt8} {t : List UInt8} (h : ∀ x, escapes (acc ++ x) = d ++ escapes x) (b : Bool) (hb : b = (t.isEmpty || crlfAt t)) : Done (acc ++ piece c b) (d ++ [c]) t := by
  obtain ⟨m, x, e, h1, h2, h3, _⟩ := piece_last c b
  refine ⟨fun y => ?_, ?_, ?_, fun hh => ?_⟩
  · rw [List.append_assoc, h, piece_back]; simp
  · rw [e, ← List.append_assoc, suf_snoc]; simpa using fun k => h2 k.symm
  · rw [e, ← List.append_assoc, suf_snoc]; simpa using fun k => h1 k.symm
  · rw [e, ← List.append_assoc, strip_snoc, if_neg (by rw [h3 (hb.trans hh)]; decide)]
theorem lf_not : (10 : UInt8) ∉ ([61, 13] : List UInt8) := by decide
theorem done_soft {acc d rest : List UInt8} (h : Done acc d rest) : lineEnd (acc ++ [61, 13]) = d := by
  have e : acc ++ [61, 13] = (acc ++ [61]) ++ [13] := by simp
  have e2 := h.dec []
  rw [List.append_nil, show escapes [] = [] from rfl, List.append_nil] at e2
  unfold lineEnd lineOut
  rw [e, suf_snoc, if_pos (by simp), trim_snoc, strip_snoc, if_neg (by decide), suf_snoc, if_pos (by simp), trim_snoc, e2, List.append_nil]
theorem done_end {acc d t : List UInt8} (h : Done acc d (13 :: 10 :: t)) : lineEnd (acc ++ [13]) = d ++ [13, 10] := by
  unfold lineEnd
  rw [suf_snoc, if_pos (by simp), trim_snoc]
  exact done_out h (by simp [crlf_cons]) _
theorem qp_back : ∀ (k : Nat) (l acc d : List UInt8) (n : Nat), l.length ≤ k → Done acc d l → unqpA acc (qpB false n l) = d ++ l
  | _, [], acc, d, n, _, h => by
    show lineOut acc [] = _
    rw [done_out h rfl]
  | 0, _ :: _, _, _, _, hk, _ => absurd hk (by simp)
  | k + 1, c :: t, acc, d, n, hk, h => by
    cases hc : crlfAt (c :: t) with
    | true =>
      obtain ⟨u, e⟩ := crlf_inv hc
      obtain ⟨rfl, rfl⟩ := List.cons.inj e
      rw [qpB_end, unqpA_go (by decide), unqpA_lf, done_end h, qp_back k u [] [] 0 (by simp at hk; omega) (done_nil _)]
      simp
    | false =>
      rw [qpB_go hc]
      obtain ⟨b, hb⟩ : ∃ b, b = (t.isEmpty || crlfAt t) := ⟨_, rfl⟩
      rw [← hb]
      have h10 : 10 ∉ piece c b := by obtain ⟨_, _, _, _, _, _, hh⟩ := piece_last c b; exact hh
      unfold put
      split
      · have e : (61 :: 13 :: 10 :: piece c b) ++ qpB false (after n (piece c b)) t = [61, 13] ++ 10 :: (piece c b ++ qpB false (after n (piece c b)) t) := rfl
        rw [e, unqpA_run _ lf_not, unqpA_lf, done_soft h, unqpA_run _ h10, List.nil_append,
          qp_back k t (piece c b) [c] _ (by simp at hk; omega) (done_put (acc := []) (d := []) (fun _ => rfl) b hb)]
        simp
      · rw [unqpA_run _ h10, qp_back k t (acc ++ piece c b) (d ++ [c]) _ (by simp at hk; omega) (done_put h.dec b hb)]
        simp
theorem unqp_back (l : List UInt8) : unqpL (qpL l) = l := qp_back l.length l [] [] 0 (Nat.le_refl _) (done_nil _)
end Go.Proofs.YtblbajhjmdcdiaaDoor
