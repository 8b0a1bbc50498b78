/- Header fields, of no program: fields out of lines, values, folding. -/
import Derived.Test.YtocghngmjipjoaaDoorLinesPure
namespace Go.Proofs.YtocghngmjipjoaaDoor.HdrP
open LinesP

def blank (c : UInt8) : Bool := c == 32 || c == 9
def begun (l : List UInt8) : Bool := l.head?.any blank
/-- A field. -/
structure Fld where
  name : List UInt8
  value : List UInt8
  raw : List UInt8
  bad : Bool
deriving DecidableEq
def nameByte (c : UInt8) : Bool := decide (33 ≤ c.toNat) && decide (c.toNat ≤ 126) && c != 58
def rightL (n : List UInt8) : Bool := !n.isEmpty && n.all nameByte
def trimR (l : List UInt8) : List UInt8 := (l.reverse.dropWhile blank).reverse
def trimL (l : List UInt8) : List UInt8 := trimR (l.dropWhile blank)
def upto (l : List UInt8) : List UInt8 := l.takeWhile (· != 58)
def fieldL (first more : List UInt8) : Fld :=
  if 58 ∈ bareL first ∧ rightL (trimR (upto (bareL first))) = true then
    ⟨trimR (upto (bareL first)), bareL ((first ++ more).drop ((upto (bareL first)).length + 1)), first ++ more, false⟩
  else ⟨[], [], first ++ more, true⟩
theorem field_raw (f m : List UInt8) : (fieldL f m).raw = f ++ m := by unfold fieldL; split <;> rfl
theorem field_bad (f m : List UInt8) : (fieldL f m).bad = (fieldL f m).name.isEmpty := by
  unfold fieldL
  split
  · rename_i h
    have h2 := h.2
    unfold rightL at h2
    simp only [Bool.and_eq_true, Bool.not_eq_true'] at h2
    exact h2.1.symm
  · rfl
/-- The name hangs on the first line alone. -/
theorem field_name (f m m' : List UInt8) : (fieldL f m).name = (fieldL f m').name ∧ (fieldL f m).bad = (fieldL f m').bad := by
  unfold fieldL; split <;> exact ⟨rfl, rfl⟩
/-- The leading continuation lines' text. -/
def moreL : List (List UInt8) → List UInt8
  | [] => []
  | l :: r => if begun l then l ++ moreL r else []
/-- The fields behind them. -/
def nextL : List (List UInt8) → List Fld
  | [] => []
  | l :: r => if begun l then nextL r else fieldL l (moreL r) :: nextL r
def groups : List (List UInt8) → List Fld
  | [] => []
  | l :: r => fieldL l (moreL r) :: nextL r
/-- No continuation line is first. -/
def Stop (ls : List (List UInt8)) : Prop := ∀ l, ls.head? = some l → begun l = false
theorem stop_more {ls : List (List UInt8)} (h : Stop ls) : moreL ls = [] ∧ nextL ls = groups ls := by
  cases ls with
  | nil => exact ⟨rfl, rfl⟩
  | cons l r =>
    have := h l rfl
    simp [moreL, nextL, groups, this]
theorem more_append (a : List (List UInt8)) {b : List (List UInt8)} (h : Stop b) : moreL (a ++ b) = moreL a ∧ nextL (a ++ b) = nextL a ++ groups b := by
  induction a with
  | nil => exact stop_more h
  | cons l r ih =>
    by_cases hb : begun l = true
    · simp [moreL, nextL, hb, ih]
    · simp [moreL, nextL, hb, ih]
theorem groups_append {a b : List (List UInt8)} (h : Stop b) : groups (a ++ b) = groups a ++ groups b := by
  cases a with
  | nil => rfl
  | cons l r => simp [groups, more_append r h]
theorem next_raw (ls : List (List UInt8)) : moreL ls ++ ((nextL ls).map Fld.raw).flatten = ls.flatten := by
  induction ls with
  | nil => rfl
  | cons l r ih =>
    by_cases hb : begun l = true
    · simp [moreL, nextL, hb, ← ih]
    · simp [moreL, nextL, hb, field_raw, ← ih]
theorem groups_raw (ls : List (List UInt8)) : ((groups ls).map Fld.raw).flatten = ls.flatten := by
  cases ls with
  | nil => rfl
  | cons l r => simp [groups, field_raw, ← next_raw r]
theorem all_begun {cs : List (List UInt8)} (h : ∀ c ∈ cs, begun c = true) : moreL cs = cs.flatten ∧ nextL cs = [] := by
  induction cs with
  | nil => exact ⟨rfl, rfl⟩
  | cons c r ih =>
    have h1 := h c (by simp)
    have h2 := ih fun x hx => h x (by simp [hx])
    simp [moreL, nextL, h1, h2]
theorem groups_one {l : List UInt8} {cs : List (List UInt8)} (h : ∀ c ∈ cs, begun c = true) : groups (l :: cs) = [fieldL l cs.flatten] := by
  simp [groups, all_begun h]
theorem more_lines (ls : List (List UInt8)) : ∃ cs rest, ls = cs ++ rest ∧ (∀ c ∈ cs, begun c = true) ∧ moreL ls = cs.flatten := by
  induction ls with
  | nil => exact ⟨[], [], rfl, by simp, rfl⟩
  | cons l r ih =>
    by_cases hb : begun l = true
    · obtain ⟨cs, rest, rfl, h1, h2⟩ := ih
      exact ⟨l :: cs, rest, rfl, fun c hc => by rcases List.mem_cons.1 hc with rfl | hc; exact hb; exact h1 c hc, by simp [moreL, hb, h2]⟩
    · exact ⟨[], l :: r, rfl, by simp, by simp [moreL, hb]⟩
theorem good_left {a b : List (List UInt8)} (h : Good (a ++ b)) : Good a := by
  induction a with
  | nil => exact .nil
  | cons l r ih =>
    rw [List.cons_append] at h
    generalize e : r ++ b = t at h
    cases h with
    | last h' =>
      obtain rfl : r = [] := (List.append_eq_nil_iff.1 e).1
      exact .last h'
    | cons h1 h2 => exact .cons h1 (ih (by rw [e]; exact h2))
theorem good_tail {l : List UInt8} {r : List (List UInt8)} (h : Good (l :: r)) : Good r := by
  cases h with
  | last _ => exact .nil
  | cons _ h => exact h
/-- Each field is a line and continuation lines. -/
theorem next_parts (ls : List (List UInt8)) (hG : Good ls) : ∀ f ∈ nextL ls, ∃ l cs, f = fieldL l cs.flatten ∧ (∀ c ∈ cs, begun c = true) ∧ Good (l :: cs) ∧ ∀ x ∈ l :: cs, x ∈ ls := by
  induction ls with
  | nil => intro f hf; cases hf
  | cons l r ih =>
    intro f hf
    have tail : f ∈ nextL r → _ := fun hf => ih (good_tail hG) f hf
    by_cases hb : begun l = true
    · simp only [nextL, hb, if_true] at hf
      obtain ⟨l', cs, h1, h2, h3, h4⟩ := tail hf
      exact ⟨l', cs, h1, h2, h3, fun x hx => List.mem_cons_of_mem _ (h4 x hx)⟩
    · simp only [nextL, hb, Bool.false_eq_true, if_false] at hf
      rcases List.mem_cons.1 hf with rfl | hf
      · obtain ⟨cs, rest, e, h1, h2⟩ := more_lines r
        rw [h2]
        refine ⟨l, cs, rfl, h1, good_left (b := rest) ?_, ?_⟩
        · rw [List.cons_append, ← e]; exact hG
        · intro x hx
          rcases List.mem_cons.1 hx with rfl | hx
          · simp
          · rw [e]; simp [hx]
      · obtain ⟨l', cs, h1, h2, h3, h4⟩ := tail hf
        exact ⟨l', cs, h1, h2, h3, fun x hx => List.mem_cons_of_mem _ (h4 x hx)⟩
theorem group_parts (ls : List (List UInt8)) (hG : Good ls) : ∀ f ∈ groups ls, ∃ l cs, f = fieldL l cs.flatten ∧ (∀ c ∈ cs, begun c = true) ∧ Good (l :: cs) ∧ ∀ x ∈ l :: cs, x ∈ ls := by
  cases ls with
  | nil => intro f hf; cases hf
  | cons l r =>
    intro f hf
    rcases List.mem_cons.1 hf with rfl | hf
    · obtain ⟨cs, rest, e, h1, h2⟩ := more_lines r
      rw [h2]
      refine ⟨l, cs, rfl, h1, good_left (b := rest) ?_, ?_⟩
      · rw [List.cons_append, ← e]; exact hG
      · intro x hx
        rcases List.mem_cons.1 hx with rfl | hx
        · simp
        · rw [e]; simp [hx]
    · obtain ⟨l', cs, h1, h2, h3, h4⟩ := next_parts r (good_tail hG) f hf
      exact ⟨l', cs, h1, h2, h3, fun x hx => List.mem_cons_of_mem _ (h4 x hx)⟩
/-! The header section. -/
def full (l : List UInt8) : Bool := !(bareL l).isEmpty
def hdrL (ls : List (List UInt8)) : List (List UInt8) := ls.takeWhile full
def parseL (s : List UInt8) : List Fld := groups (hdrL (splitL s))
/-- Where the body starts. -/
def atL (s : List UInt8) : Nat := (hdrL (splitL s)).flatten.length + (((splitL s).dropWhile full).head?.getD []).length
theorem hdr_all {ls : List (List UInt8)} (h : ∀ l ∈ ls, full l = true) (b : List (List UInt8)) : hdrL (ls ++ b) = ls ++ hdrL b ∧ (ls ++ b).dropWhile full = b.dropWhile full := by
  induction ls with
  | nil => exact ⟨rfl, rfl⟩
  | cons l r ih =>
    have h1 := h l (by simp)
    have h2 := ih fun x hx => h x (by simp [hx])
    unfold hdrL at h2 ⊢
    simp [h1, h2]
theorem hdr_full (ls : List (List UInt8)) : ∀ l ∈ hdrL ls, full l = true := by
  induction ls with
  | nil => intro l hl; cases hl
  | cons x r ih =>
    intro l hl
    unfold hdrL at hl
    by_cases hx : full x = true
    · rw [List.takeWhile_cons_of_pos hx] at hl
      rcases List.mem_cons.1 hl with rfl | hl
      · exact hx
      · exact ih l hl
    · rw [List.takeWhile_cons_of_neg hx] at hl; cases hl
theorem hdr_id {ls : List (List UInt8)} (h : ∀ l ∈ ls, full l = true) : hdrL ls = ls ∧ ls.dropWhile full = [] := by
  have := hdr_all h []
  rw [List.append_nil] at this
  exact ⟨by rw [this.1]; simp [hdrL], this.2⟩
theorem hdr_good {ls : List (List UInt8)} (h : Good ls) : Good (hdrL ls) := by
  have := List.takeWhile_append_dropWhile (p := full) (l := ls)
  exact good_left (b := ls.dropWhile full) (by unfold hdrL; rw [this]; exact h)
/-- An empty line is an ending alone. -/
theorem not_full {l : List UInt8} (h : Term l ∨ Tail l) (hf : full l = false) : l = [10] ∨ l = [13, 10] := by
  unfold full at hf
  have e : bareL l = [] := by simpa using hf
  rcases h with h | h
  · obtain ⟨m, rfl, _⟩ := h
    rw [bare_term] at e
    by_cases h13 : m.getLast? = some 13
    · rw [if_pos h13] at e
      right
      obtain ⟨y, rfl⟩ := List.getLast?_eq_some_iff.1 h13
      rw [List.dropLast_concat] at e
      rw [e]; rfl
    · rw [if_neg h13] at e
      left; rw [e]; rfl
  · rw [bare_tail h] at e
    exact absurd e h.1
theorem at_parts (s : List UInt8) : ∃ line rest, s = (hdrL (splitL s)).flatten ++ line ++ rest ∧ atL s = (hdrL (splitL s)).flatten.length + line.length ∧ (line = [] ∧ rest = [] ∨ line = [10] ∨ line = [13, 10]) := by
  have h1 := List.takeWhile_append_dropWhile (p := full) (l := splitL s)
  have h2 := split_flat s
  have hg := split_good s
  unfold atL
  cases hd : (splitL s).dropWhile full with
  | nil =>
    refine ⟨[], [], ?_, rfl, .inl ⟨rfl, rfl⟩⟩
    rw [hd, List.append_nil] at h1
    unfold hdrL
    rw [h1, h2]; simp
  | cons l r =>
    refine ⟨l, r.flatten, ?_, rfl, .inr ?_⟩
    · conv => lhs; rw [← h2, ← h1, hd]
      simp [hdrL]
    · have hm : l ∈ splitL s := by rw [← h1, hd]; simp
      have hf : full l = false := by
        have := List.head?_dropWhile_not full (splitL s)
        rw [hd] at this
        simpa using this
      exact not_full (good_mem hg l hm) hf
/-- HeaderWhole. -/
theorem parse_join (s : List UInt8) : splitL (hdrL (splitL s)).flatten = hdrL (splitL s) ∧ parseL (hdrL (splitL s)).flatten = parseL s ∧ atL (hdrL (splitL s)).flatten = (hdrL (splitL s)).flatten.length := by
  have h1 := split_of_good (hdr_good (split_good s))
  have h2 := hdr_id (hdr_full (splitL s))
  refine ⟨h1, ?_, ?_⟩
  · unfold parseL; rw [h1, h2.1]
  · unfold atL; rw [h1, h2.1, h2.2]; rfl
theorem parse_raw (s : List UInt8) : ((parseL s).map Fld.raw).flatten = (hdrL (splitL s)).flatten := groups_raw _
theorem parse_one (s : List UInt8) : ∀ f ∈ parseL s, f.raw ≠ [] ∧ parseL f.raw = [f] ∧ atL f.raw = f.raw.length ∧ f.bad = f.name.isEmpty := by
  intro f hf
  obtain ⟨l, cs, rfl, h1, h2, h3⟩ := group_parts _ (hdr_good (split_good s)) f hf
  have h4 : splitL (l ++ cs.flatten) = l :: cs := split_of_good h2
  have h5 : ∀ x ∈ l :: cs, full x = true := fun x hx => hdr_full _ x (h3 x hx)
  have h6 := hdr_id h5
  rw [field_raw]
  refine ⟨?_, ?_, ?_, field_bad _ _⟩
  · rcases good_mem h2 l (by simp) with ⟨m, rfl, _⟩ | h
    · simp
    · intro e; exact h.1 (List.append_eq_nil_iff.1 e).1
  · unfold parseL; rw [h4, h6.1, groups_one h1]
  · unfold atL; rw [h4, h6.1, h6.2]; simp
/-- HeaderApart, HeaderGoes: what stands behind whole lines of the header section, and does not begin with a blank, is read as if it stood alone. -/
theorem parse_append {ls : List (List UInt8)} (h : AllT ls) (hf : ∀ l ∈ ls, full l = true) (b : List UInt8) (hb : Stop (hdrL (splitL b))) : parseL (ls.flatten ++ b) = groups ls ++ parseL b ∧ atL (ls.flatten ++ b) = ls.flatten.length + atL b := by
  have h1 := split_allT h b
  have h2 := hdr_all hf (splitL b)
  unfold parseL atL
  rw [h1, h2.1, h2.2]
  refine ⟨groups_append hb, ?_⟩
  rw [List.flatten_append, List.length_append]; omega
theorem stop_hdr {b : List UInt8} (h : b.head?.any blank = false) : Stop (hdrL (splitL b)) := by
  intro l hl
  cases b with
  | nil => simp [splitL, hdrL] at hl
  | cons c t =>
    have h1 : ∃ x r, splitL (c :: t) = (c :: x) :: r := by
      unfold splitL
      by_cases hc : c = 10
      · rw [if_pos hc]; exact ⟨[], _, by rw [hc]⟩
      · rw [if_neg hc]
        split
        · exact ⟨[], [], rfl⟩
        · exact ⟨_, _, rfl⟩
    obtain ⟨x, r, e⟩ := h1
    rw [e] at hl
    unfold hdrL at hl
    by_cases hx : full (c :: x) = true
    · rw [List.takeWhile_cons_of_pos hx] at hl
      simp at hl
      subst hl
      exact h
    · rw [List.takeWhile_cons_of_neg hx] at hl; cases hl
end Go.Proofs.YtocghngmjipjoaaDoor.HdrP
