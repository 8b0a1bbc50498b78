/- The three encodings on lists of bytes: what each function of package codec yields, and that decoding inverts encoding; of no program. -/
import Derived.Lib.Hide
namespace Go.Proofs.YtblbajhjmdcdiaaDoor

/-- The value of a hexadecimal digit, 16 if c is none. -/
def hx (c : Nat) : Nat := if 48 ≤ c ∧ c ≤ 57 then c - 48 else if 97 ≤ c ∧ c ≤ 102 then c - 97 + 10 else if 65 ≤ c ∧ c ≤ 70 then c - 65 + 10 else 16
/-- The upper-case digit of n. -/
def hexU (n : Nat) : UInt8 := [48, 49, 50, 51, 52, 53, 54, 55, 56, 57, 65, 66, 67, 68, 69, 70].getD n 0
/-- The escape sequence of a byte. -/
def esc (c : UInt8) : List UInt8 := [61, hexU (c.toNat / 16), hexU (c.toNat % 16)]
/-- The byte whose escape sequence l starts with. -/
def escHead : List UInt8 → Option UInt8
  | c :: a :: b :: _ => if c = 61 ∧ hx a.toNat < 16 ∧ hx b.toNat < 16 then some (UInt8.ofNat (16 * hx a.toNat + hx b.toNat)) else none
  | _ => none
/-- Escape sequences replaced by their bytes, behind k bytes that are passed over. -/
def escG : Nat → List UInt8 → List UInt8
  | _, [] => []
  | k + 1, _ :: t => escG k t
  | 0, c :: t => match escHead (c :: t) with
    | some b => b :: escG 2 t
    | none => c :: escG 0 t
/-- What stands for the escape sequences of l. -/
def escapes (l : List UInt8) : List UInt8 := escG 0 l

theorem hx_hexU : ∀ n : Fin 16, hx (hexU n.val).toNat = n.val := by decide
theorem hexU_ok : ∀ n : Fin 16, 33 ≤ (hexU n.val).toNat ∧ (hexU n.val).toNat ≤ 126 ∧ (hexU n.val) ≠ 61 ∧ (hexU n.val) ≠ 95 ∧ (hexU n.val) ≠ 63 := by decide
theorem hexU_hi (c : UInt8) : hx (hexU (c.toNat / 16)).toNat = c.toNat / 16 := hx_hexU ⟨c.toNat / 16, by have := c.toNat_lt; omega⟩
theorem hexU_lo (c : UInt8) : hx (hexU (c.toNat % 16)).toNat = c.toNat % 16 := hx_hexU ⟨c.toNat % 16, by omega⟩
theorem escHead_esc (c : UInt8) (x : List UInt8) : escHead (esc c ++ x) = some c := by
  show (if _ then _ else _) = _
  rw [hexU_hi, hexU_lo, if_pos ⟨rfl, by have := c.toNat_lt; omega, by omega⟩]
  congr 1
  apply UInt8.toNat_inj.1
  rw [UInt8.toNat_ofNat']
  have := c.toNat_lt
  omega
theorem escHead_ne {c : UInt8} (h : c ≠ 61) (t : List UInt8) : escHead (c :: t) = none := by
  match t with
  | [] => rfl
  | [_] => rfl
  | a :: b :: _ => show (if _ then _ else _) = _; rw [if_neg (fun hh => h hh.1)]
theorem escG_skip (k : Nat) (a : UInt8) (t : List UInt8) : escG (k + 1) (a :: t) = escG k t := rfl
theorem escG_none {c : UInt8} {t : List UInt8} (h : escHead (c :: t) = none) : escG 0 (c :: t) = c :: escG 0 t := by
  conv => lhs; unfold escG
  rw [h]
theorem escG_some {c b : UInt8} {t : List UInt8} (h : escHead (c :: t) = some b) : escG 0 (c :: t) = b :: escG 2 t := by
  conv => lhs; unfold escG
  rw [h]
theorem escHead_long {c b : UInt8} {t : List UInt8} (h : escHead (c :: t) = some b) : ∃ x y r, c = 61 ∧ t = x :: y :: r ∧ hx x.toNat < 16 ∧ hx y.toNat < 16 ∧ b = UInt8.ofNat (16 * hx x.toNat + hx y.toNat) := by
  match t, h with
  | [], h => cases h
  | [_], h => cases h
  | x :: y :: r, h =>
    by_cases hc : c = 61 ∧ hx x.toNat < 16 ∧ hx y.toNat < 16
    · refine ⟨x, y, r, hc.1, rfl, hc.2.1, hc.2.2, ?_⟩
      have : escHead (c :: x :: y :: r) = some (UInt8.ofNat (16 * hx x.toNat + hx y.toNat)) := by show (if _ then _ else _) = _; rw [if_pos hc]
      rw [this] at h
      exact (Option.some.inj h).symm
    · have : escHead (c :: x :: y :: r) = none := by show (if _ then _ else _) = _; rw [if_neg hc]
      rw [this] at h
      cases h
theorem escapes_lit {c : UInt8} (h : c ≠ 61) (x : List UInt8) : escapes (c :: x) = c :: escapes x := escG_none (escHead_ne h x)
theorem escapes_esc (c : UInt8) (x : List UInt8) : escapes (esc c ++ x) = c :: escapes x := by
  have h := escHead_esc c x
  exact escG_some (c := 61) (t := _ :: _ :: x) h
theorem escapes_length (l : List UInt8) : ∀ k, (escG k l).length ≤ l.length := by
  induction l with
  | nil => intro k; cases k <;> exact Nat.le_refl _
  | cons c t ih =>
    intro k
    cases k with
    | succ k => rw [escG_skip]; have := ih k; rw [List.length_cons]; omega
    | zero =>
      cases h : escHead (c :: t) with
      | none => rw [escG_none h, List.length_cons, List.length_cons]; have := ih 0; omega
      | some b => rw [escG_some h, List.length_cons, List.length_cons]; have := ih 2; omega
theorem escapes_plain : ∀ l : List UInt8, (∀ c ∈ l, c ≠ 61) → escapes l = l
  | [], _ => rfl
  | c :: t, h => by
    rw [escapes_lit (h c (by simp)), escapes_plain t (fun d hd => h d (by simp [hd]))]

/-! ## Q -/
/-- Does Q copy the byte? -/
def qPlain (c : Nat) : Bool := (decide (65 ≤ c) && decide (c ≤ 90)) || (decide (97 ≤ c) && decide (c ≤ 122)) || (decide (48 ≤ c) && decide (c ≤ 57)) || decide (c = 33) || decide (c = 42) || decide (c = 43) || decide (c = 45) || decide (c = 47)
def qByte (c : UInt8) : List UInt8 := if c = 32 then [95] else if qPlain c.toNat = true then [c] else esc c
def qL (l : List UInt8) : List UInt8 := l.flatMap qByte
def unuL (l : List UInt8) : List UInt8 := l.map fun c => if c = 95 then 32 else c
def unqL (l : List UInt8) : List UInt8 := escapes (unuL l)
theorem u8_ne {c d : UInt8} (h : c.toNat ≠ d.toNat) : c ≠ d := fun e => h (by rw [e])
theorem qPlain_range {c : UInt8} (h : qPlain c.toNat = true) : 33 ≤ c.toNat ∧ c.toNat ≤ 126 ∧ c ≠ 61 ∧ c ≠ 95 ∧ c ≠ 63 := by
  simp only [qPlain, Bool.or_eq_true, Bool.and_eq_true, decide_eq_true_eq] at h
  refine ⟨by omega, by omega, u8_ne ?_, u8_ne ?_, u8_ne ?_⟩
  all_goals (show c.toNat ≠ _; intro e; simp at e; omega)
theorem unuL_append (a b : List UInt8) : unuL (a ++ b) = unuL a ++ unuL b := List.map_append
theorem unuL_ne {c : UInt8} (h : c ≠ 95) : unuL [c] = [c] := by
  show [if c = 95 then 32 else c] = [c]
  rw [if_neg h]
theorem hexU_hi_ok (c : UInt8) : 33 ≤ (hexU (c.toNat / 16)).toNat ∧ (hexU (c.toNat / 16)).toNat ≤ 126 ∧ hexU (c.toNat / 16) ≠ 61 ∧ hexU (c.toNat / 16) ≠ 95 ∧ hexU (c.toNat / 16) ≠ 63 := hexU_ok ⟨c.toNat / 16, by have := c.toNat_lt; omega⟩
theorem hexU_lo_ok (c : UInt8) : 33 ≤ (hexU (c.toNat % 16)).toNat ∧ (hexU (c.toNat % 16)).toNat ≤ 126 ∧ hexU (c.toNat % 16) ≠ 61 ∧ hexU (c.toNat % 16) ≠ 95 ∧ hexU (c.toNat % 16) ≠ 63 := hexU_ok ⟨c.toNat % 16, by omega⟩
theorem unuL_esc (c : UInt8) : unuL (esc c) = esc c := by
  have h1 := (hexU_hi_ok c).2.2.2.1
  have h2 := (hexU_lo_ok c).2.2.2.1
  show [if (61 : UInt8) = 95 then 32 else 61, if hexU _ = 95 then 32 else hexU _, if hexU _ = 95 then 32 else hexU _] = _
  rw [if_neg h1, if_neg h2]
  rfl
theorem qByte_back (c : UInt8) (x : List UInt8) : escapes (unuL (qByte c) ++ x) = c :: escapes x := by
  unfold qByte
  by_cases h : c = 32
  · rw [if_pos h, h]
    exact escapes_lit (by decide) x
  · rw [if_neg h]
    by_cases h2 : qPlain c.toNat = true
    · rw [if_pos h2, unuL_ne (qPlain_range h2).2.2.2.1]
      exact escapes_lit (qPlain_range h2).2.2.1 x
    · rw [if_neg h2, unuL_esc]
      exact escapes_esc c x
theorem q_back : ∀ l : List UInt8, unqL (qL l) = l
  | [] => rfl
  | c :: t => by
    show escapes (unuL (qByte c ++ qL t)) = _
    rw [unuL_append, qByte_back]
    exact congrArg (c :: ·) (q_back t)
theorem qByte_ok (c : UInt8) : ∀ d ∈ qByte c, 33 ≤ d.toNat ∧ d.toNat ≤ 126 ∧ d ≠ 63 := by
  unfold qByte
  by_cases h : c = 32
  · rw [if_pos h]; decide
  · rw [if_neg h]
    by_cases h2 : qPlain c.toNat = true
    · rw [if_pos h2]
      intro d hd
      rw [List.mem_singleton] at hd
      subst hd
      have := qPlain_range h2
      exact ⟨this.1, this.2.1, this.2.2.2.2⟩
    · rw [if_neg h2]
      intro d hd
      have h1 := hexU_hi_ok c
      have h2 := hexU_lo_ok c
      simp only [esc, List.mem_cons, List.not_mem_nil, or_false] at hd
      rcases hd with rfl | rfl | rfl
      · decide
      · exact ⟨h1.1, h1.2.1, h1.2.2.2.2⟩
      · exact ⟨h2.1, h2.2.1, h2.2.2.2.2⟩
theorem q_ok (l : List UInt8) : ∀ d ∈ qL l, 33 ≤ d.toNat ∧ d.toNat ≤ 126 ∧ d ≠ 63 := by
  intro d hd
  obtain ⟨c, _, hc⟩ := List.mem_flatMap.1 hd
  exact qByte_ok c d hc
theorem qByte_length (c : UInt8) : (qByte c).length ≤ 3 := by
  unfold qByte esc; (repeat' split) <;> simp
theorem flatMap_length_le (f : UInt8 → List UInt8) (k : Nat) (h : ∀ c, (f c).length ≤ k) : ∀ l : List UInt8, (l.flatMap f).length ≤ k * l.length
  | [] => Nat.zero_le _
  | c :: t => by
    rw [List.flatMap_cons, List.length_append, List.length_cons, Nat.mul_add, Nat.mul_one]
    have := flatMap_length_le f k h t
    have := h c
    omega
theorem qL_length (l : List UInt8) : (qL l).length ≤ 3 * l.length := flatMap_length_le _ 3 qByte_length l
theorem unqL_length (l : List UInt8) : (unqL l).length ≤ l.length := by
  have := escapes_length (unuL l) 0
  rw [show (unuL l).length = l.length from List.length_map ..] at this
  exact this

/-! ## base64 -/
def d64 (n : Nat) : UInt8 := [65, 66, 67, 68, 69, 70, 71, 72, 73, 74, 75, 76, 77, 78, 79, 80, 81, 82, 83, 84, 85, 86, 87, 88, 89, 90, 97, 98, 99, 100, 101, 102, 103, 104, 105, 106, 107, 108, 109, 110, 111, 112, 113, 114, 115, 116, 117, 118, 119, 120, 121, 122, 48, 49, 50, 51, 52, 53, 54, 55, 56, 57, 43, 47].getD n 0
/-- The value of a character of base64, 64 if c is none. -/
def val64 (c : Nat) : Nat := if 65 ≤ c ∧ c ≤ 90 then c - 65 else if 97 ≤ c ∧ c ≤ 122 then c - 71 else if 48 ≤ c ∧ c ≤ 57 then c + 4 else if c = 43 then 62 else if c = 47 then 63 else 64
theorem val64_d64 : ∀ n : Fin 64, val64 (d64 n.val).toNat = n.val := by decide
theorem d64_ok : ∀ n : Fin 64, 33 ≤ (d64 n.val).toNat ∧ (d64 n.val).toNat ≤ 126 ∧ d64 n.val ≠ 61 := by decide
/-- The characters of a group. -/
def quad : List UInt8 → List UInt8
  | [a] => [d64 (a.toNat / 4), d64 (a.toNat % 4 * 16), 61, 61]
  | [a, b] => [d64 (a.toNat / 4), d64 (a.toNat % 4 * 16 + b.toNat / 16), d64 (b.toNat % 16 * 4), 61]
  | a :: b :: c :: _ => [d64 (a.toNat / 4), d64 (a.toNat % 4 * 16 + b.toNat / 16), d64 (b.toNat % 16 * 4 + c.toNat / 64), d64 (c.toNat % 64)]
  | [] => []
theorem quad_length : ∀ {l : List UInt8}, l ≠ [] → (quad l).length = 4
  | [], h => absurd rfl h
  | [_], _ => rfl
  | [_, _], _ => rfl
  | _ :: _ :: _ :: _, _ => rfl
/-- base64 in lines, g groups of this text done before. -/
def b64G : Nat → List UInt8 → List UInt8
  | _, [] => []
  | _, [a] => quad [a] ++ [13, 10]
  | _, [a, b] => quad [a, b] ++ [13, 10]
  | g, a :: b :: c :: t => quad [a, b, c] ++ (if (g + 1) % 19 = 0 ∨ t = [] then [13, 10] else []) ++ b64G (g + 1) t
def b64L (l : List UInt8) : List UInt8 := b64G 0 l
/-- A group at a time. -/
theorem b64G_step (g : Nat) (l : List UInt8) (h : l ≠ []) : b64G g l = quad (l.take 3) ++ (if (g + 1) % 19 = 0 ∨ l.drop 3 = [] then [13, 10] else []) ++ b64G (g + 1) (l.drop 3) := by
  match l, h with
  | [a], _ => rw [if_pos (Or.inr (show ([a] : List UInt8).drop 3 = [] from rfl))]; rfl
  | [a, b], _ => rw [if_pos (Or.inr (show ([a, b] : List UInt8).drop 3 = [] from rfl))]; rfl
  | a :: b :: c :: t, _ => rfl
/-- The values of the characters. -/
def valsF : List UInt8 → List Nat
  | [] => []
  | c :: t => if val64 c.toNat < 64 then val64 c.toNat :: valsF t else valsF t
/-- The values of the characters before the first equals sign. -/
def vals : List UInt8 → List Nat
  | [] => []
  | c :: t => if c = 61 then [] else if val64 c.toNat < 64 then val64 c.toNat :: vals t else vals t
/-- What values decode to, s of a group of four done before, whose bits that are left are p. -/
def mach : Nat → Nat → List Nat → List UInt8
  | _, _, [] => []
  | 0, _, v :: t => mach 1 v t
  | 1, p, v :: t => UInt8.ofNat (p * 4 + v / 16) :: mach 2 (v % 16) t
  | 2, p, v :: t => UInt8.ofNat (p * 16 + v / 4) :: mach 3 (v % 4) t
  | _, p, v :: t => UInt8.ofNat (p * 64 + v) :: mach 0 0 t
theorem mach1 (a : Nat) : mach 0 0 [a] = [] := rfl
theorem mach2 (a b : Nat) : mach 0 0 [a, b] = [UInt8.ofNat (a * 4 + b / 16)] := rfl
theorem mach3 (a b c : Nat) : mach 0 0 [a, b, c] = [UInt8.ofNat (a * 4 + b / 16), UInt8.ofNat (b % 16 * 16 + c / 4)] := rfl
theorem mach4 (a b c d : Nat) (t : List Nat) : mach 0 0 (a :: b :: c :: d :: t) = UInt8.ofNat (a * 4 + b / 16) :: UInt8.ofNat (b % 16 * 16 + c / 4) :: UInt8.ofNat (c % 4 * 64 + d) :: mach 0 0 t := rfl
theorem vals_eq (x : List UInt8) : vals (61 :: x) = [] := rfl
def unb64L (l : List UInt8) : List UInt8 := mach 0 0 (vals l)
theorem vals_takeWhile : ∀ l : List UInt8, vals l = valsF (l.takeWhile (· != 61))
  | [] => rfl
  | c :: t => by
    show (if _ then _ else _) = _
    by_cases h : c = 61
    · rw [if_pos h, h]; rfl
    · have e : (c :: t).takeWhile (· != 61) = c :: t.takeWhile (· != 61) := by rw [List.takeWhile_cons, if_pos (by simpa using h)]
      rw [if_neg h, e, vals_takeWhile t]
      rfl
theorem vals_ends (x y : List UInt8) : vals (x ++ 61 :: y) = vals x := by
  induction x with
  | nil => rfl
  | cons c t ih => rw [List.cons_append]; unfold vals; rw [ih]
theorem vals_cons {c : UInt8} {n : Nat} (h : val64 c.toNat = n) (hn : n < 64) (h2 : c ≠ 61) (x : List UInt8) : vals (c :: x) = n :: vals x := by
  show (if _ then _ else _) = _
  rw [if_neg h2, h, if_pos hn]
theorem vals_d64 (n : Nat) (h : n < 64) (x : List UInt8) : vals (d64 n :: x) = n :: vals x :=
  vals_cons (val64_d64 ⟨n, h⟩) h (d64_ok ⟨n, h⟩).2.2 x
/-- A byte that is skipped. -/
def junk (c : UInt8) : Prop := c ≠ 61 ∧ ¬ val64 c.toNat < 64
theorem vals_junk {c : UInt8} (h : junk c) (x : List UInt8) : vals (c :: x) = vals x := by
  show (if _ then _ else _) = _
  rw [if_neg h.1, if_neg h.2]
theorem vals_junks : ∀ (j : List UInt8), (∀ c ∈ j, junk c) → ∀ x, vals (j ++ x) = vals x
  | [], _, _ => rfl
  | c :: t, h, x => by
    rw [List.cons_append, vals_junk (h c (by simp)), vals_junks t (fun d hd => h d (by simp [hd]))]
theorem vals_crlf (b : Prop) [Decidable b] (x : List UInt8) : vals ((if b then [13, 10] else []) ++ x) = vals x := by
  refine vals_junks _ ?_ x
  intro c hc
  split at hc
  · simp only [List.mem_cons, List.not_mem_nil, or_false] at hc
    rcases hc with rfl | rfl
    · exact ⟨by decide, by decide⟩
    · exact ⟨by decide, by decide⟩
  · cases hc
theorem ofNat_toNat (c : UInt8) (n : Nat) (h : n = c.toNat) : UInt8.ofNat n = c := by
  rw [h]; apply UInt8.toNat_inj.1; rw [UInt8.toNat_ofNat']; have := c.toNat_lt; omega
theorem back1 (a : UInt8) (x : List UInt8) : mach 0 0 (vals (quad [a] ++ x)) = [a] := by
  have := a.toNat_lt
  show mach 0 0 (vals (d64 (a.toNat / 4) :: d64 (a.toNat % 4 * 16) :: 61 :: (61 :: x))) = _
  rw [vals_d64 _ (by omega), vals_d64 _ (by omega), vals_eq, mach2, ofNat_toNat a _ (by omega)]
theorem back2 (a b : UInt8) (x : List UInt8) : mach 0 0 (vals (quad [a, b] ++ x)) = [a, b] := by
  have := a.toNat_lt
  have := b.toNat_lt
  show mach 0 0 (vals (d64 (a.toNat / 4) :: d64 (a.toNat % 4 * 16 + b.toNat / 16) :: d64 (b.toNat % 16 * 4) :: 61 :: x)) = _
  rw [vals_d64 _ (by omega), vals_d64 _ (by omega), vals_d64 _ (by omega), vals_eq, mach3, ofNat_toNat a _ (by omega), ofNat_toNat b _ (by omega)]
theorem back3 (a b c : UInt8) (x : List UInt8) : mach 0 0 (vals (quad [a, b, c] ++ x)) = a :: b :: c :: mach 0 0 (vals x) := by
  have := a.toNat_lt
  have := b.toNat_lt
  have := c.toNat_lt
  show mach 0 0 (vals (d64 (a.toNat / 4) :: d64 (a.toNat % 4 * 16 + b.toNat / 16) :: d64 (b.toNat % 16 * 4 + c.toNat / 64) :: d64 (c.toNat % 64) :: x)) = _
  rw [vals_d64 _ (by omega), vals_d64 _ (by omega), vals_d64 _ (by omega), vals_d64 _ (by omega), mach4, ofNat_toNat a _ (by omega), ofNat_toNat b _ (by omega), ofNat_toNat c _ (by omega)]
theorem b64G1 (g : Nat) (a : UInt8) : b64G g [a] = quad [a] ++ [13, 10] := rfl
theorem b64G2 (g : Nat) (a b : UInt8) : b64G g [a, b] = quad [a, b] ++ [13, 10] := rfl
theorem b64G3 (g : Nat) (a b c : UInt8) (t : List UInt8) : b64G g (a :: b :: c :: t) = quad [a, b, c] ++ (if (g + 1) % 19 = 0 ∨ t = [] then [13, 10] else []) ++ b64G (g + 1) t := rfl
theorem b64_back : ∀ (l : List UInt8) (g : Nat), mach 0 0 (vals (b64G g l)) = l
  | [], _ => by unfold b64G vals mach; rfl
  | [a], g => by rw [b64G1, back1]
  | [a, b], g => by rw [b64G2, back2]
  | a :: b :: c :: t, g => by rw [b64G3, List.append_assoc, back3, vals_crlf, b64_back t]
theorem unb64_back (l : List UInt8) : unb64L (b64L l) = l := b64_back l 0
/-- The first bytes of b with j before each. -/
def inter (j : List UInt8) (l : List UInt8) : List UInt8 := l.flatMap fun c => j ++ [c]
theorem vals_inter (j : List UInt8) (hj : ∀ c ∈ j, junk c) (r : List UInt8) : ∀ l : List UInt8, vals (inter j l ++ r) = vals (l ++ r)
  | [] => rfl
  | c :: t => by
    show vals ((j ++ [c] ++ inter j t) ++ r) = _
    rw [List.append_assoc, List.append_assoc, vals_junks j hj]
    show vals (c :: (inter j t ++ r)) = vals (c :: (t ++ r))
    unfold vals
    rw [vals_inter j hj r t]
theorem b64G_length : ∀ (l : List UInt8) (g : Nat), (b64G g l).length ≤ 6 * l.length ∧ (l.length + 2) / 3 * 4 ≤ (b64G g l).length
  | [], _ => ⟨Nat.le_refl _, Nat.le_refl _⟩
  | [a], _ => by show 6 ≤ _ ∧ _ ≤ 6; simp
  | [a, b], _ => by show 6 ≤ _ ∧ _ ≤ 6; simp
  | a :: b :: c :: t, g => by
    have ih := b64G_length t (g + 1)
    show (quad [a, b, c] ++ (if _ then _ else _) ++ b64G (g + 1) t).length ≤ _ ∧ _ ≤ (quad [a, b, c] ++ (if _ then _ else _) ++ b64G (g + 1) t).length
    rw [List.length_append, List.length_append, show (quad [a, b, c]).length = 4 from rfl]
    have e : (a :: b :: c :: t).length = t.length + 3 := rfl
    rw [e]
    split <;> simp only [List.length_cons, List.length_nil] <;> omega
theorem mach_length : ∀ (v : List Nat) (s p : Nat), (mach s p v).length ≤ v.length := by
  intro v
  induction v with
  | nil => intro s p; unfold mach; exact Nat.le_refl _
  | cons a t ih =>
    intro s p
    unfold mach
    split
    · rename_i h; cases h
    · rename_i h; cases h; have := ih 1 a; rw [List.length_cons]; omega
    · rename_i h; cases h; rw [List.length_cons, List.length_cons]; have := ih 2 (a % 16); omega
    · rename_i h; cases h; rw [List.length_cons, List.length_cons]; have := ih 3 (a % 4); omega
    · rename_i h; cases h; rw [List.length_cons, List.length_cons]; have := ih 0 0; omega
theorem vals_length : ∀ l : List UInt8, (vals l).length ≤ l.length
  | [] => Nat.le_refl _
  | c :: t => by
    unfold vals
    have := vals_length t
    rw [List.length_cons]
    split
    · simp
    · split
      · rw [List.length_cons]; omega
      · omega
theorem unb64L_length (l : List UInt8) : (unb64L l).length ≤ l.length := Nat.le_trans (mach_length _ _ _) (vals_length l)
end Go.Proofs.YtblbajhjmdcdiaaDoor
