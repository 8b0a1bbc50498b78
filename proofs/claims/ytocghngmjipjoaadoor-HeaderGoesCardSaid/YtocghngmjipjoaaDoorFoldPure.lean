/- Header values, of no program: unfolding, clean values, pieces, folded fields, and that they are read back. -/
import Derived.Test.YtocghngmjipjoaaDoorHdrPure
namespace Go.Proofs.YtocghngmjipjoaaDoor.HdrP
open LinesP

def unfoldL : List UInt8 → List UInt8
  | [] => []
  | c :: t => if c = 10 then unfoldL t else if c = 13 ∧ t.head? = some 10 then unfoldL t else c :: unfoldL t
def flat1 (c : UInt8) : UInt8 := if c = 10 ∨ c = 13 then 32 else c
def cleanL (s : List UInt8) : List UInt8 := trimL (s.map flat1)
def low (c : UInt8) : UInt8 := if 65 ≤ c.toNat ∧ c.toNat ≤ 90 then c + 32 else c
def allL (l : List Fld) (name : List UInt8) : List (List UInt8) := (l.filter fun f => !f.bad && (f.name.map low == name.map low)).map fun f => trimL (unfoldL f.value)
/-- No ending inside. -/
def Plain (l : List UInt8) : Prop := ∀ c ∈ l, c ≠ 10 ∧ c ≠ 13
theorem Plain.append {a b : List UInt8} (h : Plain a) (k : Plain b) : Plain (a ++ b) := fun c hc => by
  rcases List.mem_append.1 hc with hc | hc
  · exact h c hc
  · exact k c hc
theorem Plain.no {a : List UInt8} (h : Plain a) : 10 ∉ a := fun hc => (h 10 hc).1 rfl
theorem unfold_plain {m : List UInt8} (h : Plain m) (t : List UInt8) : unfoldL (m ++ t) = m ++ unfoldL t := by
  induction m with
  | nil => rfl
  | cons c r ih =>
    have h1 := h c (by simp)
    rw [List.cons_append, unfoldL, if_neg h1.1, if_neg (fun e => h1.2 e.1), ih fun x hx => h x (by simp [hx])]; rfl
theorem unfold_crlf (t : List UInt8) : unfoldL (13 :: 10 :: t) = unfoldL t := by
  rw [unfoldL, if_neg (by decide), if_pos ⟨rfl, rfl⟩, unfoldL, if_pos rfl]
/-! Trimming. -/
def Trimmed (l : List UInt8) : Prop := (∀ c, l.head? = some c → blank c = false) ∧ ∀ c, l.getLast? = some c → blank c = false
theorem drop_head (l : List UInt8) (c : UInt8) (h : (l.dropWhile blank).head? = some c) : blank c = false := by
  have := List.head?_dropWhile_not blank l
  rw [h] at this
  simpa using this
theorem drop_fixed {l : List UInt8} (h : ∀ c, l.head? = some c → blank c = false) : l.dropWhile blank = l := by
  cases l with
  | nil => rfl
  | cons c r => rw [List.dropWhile_cons_of_neg (by rw [h c rfl]; exact Bool.false_ne_true)]
theorem trimR_fixed {l : List UInt8} (h : ∀ c, l.getLast? = some c → blank c = false) : trimR l = l := by
  unfold trimR
  rw [drop_fixed (l := l.reverse) (fun c hc => h c (by rw [List.head?_reverse] at hc; exact hc)), List.reverse_reverse]
theorem trimR_last (l : List UInt8) (c : UInt8) (h : (trimR l).getLast? = some c) : blank c = false := by
  unfold trimR at h
  rw [List.getLast?_reverse] at h
  exact drop_head _ _ h
theorem trimR_head {l : List UInt8} (h : ∀ c, l.head? = some c → blank c = false) : ∀ c, (trimR l).head? = some c → blank c = false := by
  intro c hc
  obtain ⟨t, ht⟩ : ∃ t, l = trimR l ++ t := by
    unfold trimR
    refine ⟨(l.reverse.takeWhile blank).reverse, ?_⟩
    rw [← List.reverse_append, List.takeWhile_append_dropWhile, List.reverse_reverse]
  refine h c ?_
  rw [ht, List.head?_append, hc]; rfl
theorem trim_trimmed (s : List UInt8) : Trimmed (trimL s) :=
  ⟨trimR_head fun c hc => drop_head s c hc, trimR_last _⟩
theorem trim_fixed {t : List UInt8} (h : Trimmed t) : trimL t = t := by
  unfold trimL
  rw [drop_fixed h.1, trimR_fixed h.2]
theorem trim_blank {t : List UInt8} (h : Trimmed t) : trimL (32 :: t) = t := by
  have : (32 :: t).dropWhile blank = t.dropWhile blank := List.dropWhile_cons_of_pos rfl
  unfold trimL
  rw [this]
  exact trim_fixed h
theorem trim_sub (s : List UInt8) : ∀ c ∈ trimL s, c ∈ s := by
  intro c hc
  unfold trimL trimR at hc
  have h1 := (List.dropWhile_sublist blank).subset (List.mem_reverse.1 hc)
  exact (List.dropWhile_sublist blank).subset (List.mem_reverse.1 h1)
theorem clean_plain (s : List UInt8) : Plain (cleanL s) := by
  intro c hc
  obtain ⟨d, _, rfl⟩ := List.mem_map.1 (trim_sub _ c hc)
  unfold flat1
  split
  · exact ⟨by decide, by decide⟩
  · rename_i h
    exact ⟨fun e => h (.inl e), fun e => h (.inr e)⟩
theorem trim_any {b : List UInt8} (h : b.any (fun c => !blank c) = true) : trimL b ≠ [] := by
  intro e
  obtain ⟨c, hc, hn⟩ := List.any_eq_true.1 h
  have hn : blank c = false := by simpa using hn
  have h1 : c ∈ b.dropWhile blank := by
    have := List.takeWhile_append_dropWhile (p := blank) (l := b)
    rw [← this] at hc
    rcases List.mem_append.1 hc with hc | hc
    · have := List.all_eq_true.1 (List.all_takeWhile (p := blank) (l := b)) c hc
      rw [hn] at this; cases this
    · exact hc
  unfold trimL trimR at e
  have e := List.reverse_eq_nil_iff.1 e
  have h2 := List.takeWhile_append_dropWhile (p := blank) (l := (b.dropWhile blank).reverse)
  rw [e, List.append_nil] at h2
  have h3 := List.all_eq_true.1 (List.all_takeWhile (p := blank) (l := (b.dropWhile blank).reverse)) c (by rw [h2]; exact List.mem_reverse.2 h1)
  rw [hn] at h3; cases h3
/-! Pieces. -/
/-- Behind a byte: what belongs to its piece, and the later pieces. -/
def pc (p : UInt8) : List UInt8 → List UInt8 × List (List UInt8)
  | [] => ([], [])
  | c :: r => if blank c && !blank p then ([], (c :: (pc c r).1) :: (pc c r).2) else (c :: (pc c r).1, (pc c r).2)
def piecesL : List UInt8 → List (List UInt8)
  | [] => []
  | c :: r => (c :: (pc c r).1) :: (pc c r).2
theorem pc_flat (p : UInt8) (r : List UInt8) : (pc p r).1 ++ (pc p r).2.flatten = r := by
  induction r generalizing p with
  | nil => rfl
  | cons c r ih =>
    unfold pc
    split
    · simp [ih c]
    · simp [ih c]
theorem pieces_flat (s : List UInt8) : (piecesL s).flatten = s := by
  cases s with
  | nil => rfl
  | cons c r => simp [piecesL, pc_flat]
theorem pc_idem (p : UInt8) (r : List UInt8) : pc p (pc p r).1 = ((pc p r).1, []) := by
  induction r generalizing p with
  | nil => rfl
  | cons c r ih =>
    by_cases h : (blank c && !blank p) = true
    · simp [pc, h]
    · have := ih c
      simp [pc, h, this]
theorem pc_run {p : UInt8} (hp : blank p = true) {r : List UInt8} (h : r.any (fun c => !blank c) = true) : (pc p r).1.any (fun c => !blank c) = true := by
  induction r generalizing p with
  | nil => cases h
  | cons d r ih =>
    simp only [pc, hp, Bool.not_true, Bool.and_false, Bool.false_eq_true, if_false, List.any_cons]
    by_cases hd : blank d = true
    · simp only [List.any_cons, hd, Bool.not_true, Bool.false_or] at h
      rw [ih hd h]; simp
    · simp [hd]
/-- A piece: begun by a blank, not of blanks alone, and whole. -/
def Piece (x : List UInt8) : Prop := begun x = true ∧ x.any (fun c => !blank c) = true ∧ piecesL x = [x]
theorem pc_pieces (p : UInt8) (r : List UInt8) (h : ∀ c, r.getLast? = some c → blank c = false) : ∀ x ∈ (pc p r).2, Piece x := by
  induction r generalizing p with
  | nil => intro x hx; cases hx
  | cons c r ih =>
    have h' : ∀ d, r.getLast? = some d → blank d = false := fun d hd => h d (by rw [List.getLast?_cons, hd]; rfl)
    intro x hx
    unfold pc at hx
    by_cases hc : (blank c && !blank p) = true
    · rw [if_pos hc] at hx
      rcases List.mem_cons.1 hx with rfl | hx
      · have hb : blank c = true := by simp at hc; exact hc.1
        have hr : r.any (fun c => !blank c) = true := by
          cases hl : r.getLast? with
          | none =>
            have : r = [] := List.getLast?_eq_none_iff.1 hl
            subst this
            have := h c rfl
            rw [hb] at this; cases this
          | some d => exact List.any_eq_true.2 ⟨d, List.mem_of_getLast? hl, by rw [h' d hl]; rfl⟩
        refine ⟨hb, ?_, ?_⟩
        · rw [List.any_cons, pc_run hb hr]; simp
        · simp [piecesL, pc_idem]
      · exact ih c h' x hx
    · rw [if_neg hc] at hx
      exact ih c h' x hx
theorem pieces_tail {s : List UInt8} (h : Trimmed s) : ∀ x ∈ (piecesL s).tail, Piece x := by
  cases s with
  | nil => intro x hx; cases hx
  | cons c r =>
    refine pc_pieces c r fun d hd => h.2 d ?_
    rw [List.getLast?_cons, hd]; rfl
/-! Folding. -/
def foldR (n : Nat) : List (List UInt8) → List UInt8
  | [] => []
  | x :: r => if 78 < n + x.length then [13, 10] ++ x ++ foldR x.length r else x ++ foldR (n + x.length) r
def foldLines (cur : List UInt8) : List (List UInt8) → List (List UInt8)
  | [] => [cur ++ [13, 10]]
  | x :: r => if 78 < cur.length + x.length then (cur ++ [13, 10]) :: foldLines x r else foldLines (cur ++ x) r
theorem fold_flat (cur : List UInt8) (r : List (List UInt8)) : (foldLines cur r).flatten = cur ++ foldR cur.length r ++ [13, 10] := by
  induction r generalizing cur with
  | nil => simp [foldLines, foldR]
  | cons x r ih =>
    unfold foldLines foldR
    split
    · rw [List.flatten_cons, ih]; simp
    · rw [ih]; simp
theorem unfold_fold (n : Nat) (r : List (List UInt8)) (h : ∀ x ∈ r, Plain x) (t : List UInt8) : unfoldL (foldR n r ++ t) = r.flatten ++ unfoldL t := by
  induction r generalizing n with
  | nil => rfl
  | cons x r ih =>
    have h1 := h x (by simp)
    have h2 := fun n => ih n fun y hy => h y (by simp [hy])
    unfold foldR
    split
    · rw [List.append_assoc, List.append_assoc, List.cons_append, List.cons_append, List.nil_append, unfold_crlf, unfold_plain h1, h2]; simp
    · rw [List.append_assoc, unfold_plain h1, h2]; simp
theorem bare_crlf (b : List UInt8) : bareL (b ++ [13, 10]) = b := by
  rw [show b ++ [13, 10] = (b ++ [13]) ++ [10] by simp, bare_term]; simp
theorem term_crlf {b : List UInt8} (h : Plain b) : Term (b ++ [13, 10]) :=
  ⟨b ++ [13], by simp, by simp; exact h.no⟩
/-- The lines: the first goes on from cur, the later ones are pieces. -/
theorem fold_lines (cur : List UInt8) (r : List (List UInt8)) (hc : Plain cur) (h : ∀ x ∈ r, Plain x ∧ Piece x) :
    ∃ e rest, foldLines cur r = (cur ++ e ++ [13, 10]) :: rest ∧ Plain (cur ++ e) ∧ ∀ l ∈ rest, ∃ b, l = b ++ [13, 10] ∧ Plain b ∧ begun b = true ∧ b.any (fun c => !blank c) = true ∧ (78 < b.length → (piecesL b).length = 1) := by
  have key : ∀ (r : List (List UInt8)) (cur : List UInt8), Plain cur → (begun cur = true ∧ cur.any (fun c => !blank c) = true ∧ (78 < cur.length → (piecesL cur).length = 1)) → (∀ x ∈ r, Plain x ∧ Piece x) → ∀ l ∈ foldLines cur r, ∃ b, l = b ++ [13, 10] ∧ Plain b ∧ begun b = true ∧ b.any (fun c => !blank c) = true ∧ (78 < b.length → (piecesL b).length = 1) := by
    intro r
    induction r with
    | nil => intro cur h1 h2 _ l hl; rw [List.mem_singleton.1 hl]; exact ⟨cur, rfl, h1, h2⟩
    | cons x r ih =>
      intro cur h1 h2 h3 l hl
      have hx := h3 x (by simp)
      have hr : ∀ y ∈ r, Plain y ∧ Piece y := fun y hy => h3 y (by simp [hy])
      unfold foldLines at hl
      split at hl
      · rcases List.mem_cons.1 hl with rfl | hl
        · exact ⟨cur, rfl, h1, h2⟩
        · exact ih x hx.1 ⟨hx.2.1, hx.2.2.1, fun _ => by rw [hx.2.2.2]; rfl⟩ hr l hl
      · rename_i hn
        refine ih (cur ++ x) (h1.append hx.1) ⟨?_, ?_, fun hl => ?_⟩ hr l hl
        · cases cur with
          | nil => exact hx.2.1
          | cons c t => exact h2.1
        · rw [List.any_append, h2.2.1]; rfl
        · rw [List.length_append] at hl; omega
  induction r generalizing cur with
  | nil => exact ⟨[], [], by simp [foldLines], by simpa using hc, fun l hl => by cases hl⟩
  | cons x r ih =>
    have hx := h x (by simp)
    have hr : ∀ y ∈ r, Plain y ∧ Piece y := fun y hy => h y (by simp [hy])
    unfold foldLines
    split
    · exact ⟨[], foldLines x r, by simp, by simpa using hc, key r x hx.1 ⟨hx.2.1, hx.2.2.1, fun _ => by rw [hx.2.2.2]; rfl⟩ hr⟩
    · obtain ⟨e, rest, h1, h2, h3⟩ := ih (cur ++ x) (hc.append hx.1) hr
      exact ⟨x ++ e, rest, by rw [h1]; simp, by rw [← List.append_assoc]; exact h2, h3⟩
/-- The written field. -/
def putL (name v : List UInt8) : List UInt8 :=
  if rightL name = true then
    name ++ [58, 32] ++ (piecesL (cleanL v)).headD [] ++ foldR (name.length + 2 + ((piecesL (cleanL v)).headD []).length) (piecesL (cleanL v)).tail ++ [13, 10]
  else []
theorem right_bytes {name : List UInt8} (h : rightL name = true) : name ≠ [] ∧ ∀ c ∈ name, nameByte c = true := by
  unfold rightL at h
  simp only [Bool.and_eq_true, Bool.not_eq_true'] at h
  exact ⟨fun e => by rw [e] at h; exact absurd h.1 (by decide), fun c hc => List.all_eq_true.1 h.2 c hc⟩
theorem name_byte {c : UInt8} (h : nameByte c = true) : blank c = false ∧ c ≠ 58 ∧ c ≠ 10 ∧ c ≠ 13 := by
  unfold nameByte at h
  simp at h
  refine ⟨?_, h.2, ?_, ?_⟩
  · unfold blank
    rw [Bool.or_eq_false_iff, beq_eq_false_iff_ne, beq_eq_false_iff_ne]
    exact ⟨fun e => by rw [e] at h; exact absurd h.1.1 (by decide), fun e => by rw [e] at h; exact absurd h.1.1 (by decide)⟩
  · intro e; rw [e] at h; exact absurd h.1.1 (by decide)
  · intro e; rw [e] at h; exact absurd h.1.1 (by decide)
theorem upto_name {name : List UInt8} (h : ∀ c ∈ name, c ≠ 58) (t : List UInt8) : upto (name ++ 58 :: t) = name := by
  unfold upto
  induction name with
  | nil => rfl
  | cons c r ih =>
    have := h c (by simp)
    rw [List.cons_append, List.takeWhile_cons_of_pos (by simpa using this), ih fun x hx => h x (by simp [hx])]
theorem head_flat (s : List UInt8) : (piecesL s).headD [] ++ (piecesL s).tail.flatten = s := by
  have := pieces_flat s
  cases h : piecesL s with
  | nil => rw [h] at this; simpa using this
  | cons x r => rw [h] at this; simpa using this
/-- A written field as lines. -/
theorem put_lines {name : List UInt8} (hn : rightL name = true) (v : List UInt8) : ∃ e rest, putL name v = ((name ++ [58, 32] ++ e ++ [13, 10]) :: rest).flatten ∧ Plain (name ++ [58, 32] ++ e) ∧ ∀ l ∈ rest, ∃ b, l = b ++ [13, 10] ∧ Plain b ∧ begun b = true ∧ b.any (fun c => !blank c) = true ∧ (78 < b.length → (piecesL b).length = 1) := by
  have hp := clean_plain v
  have hb := right_bytes hn
  have hf := head_flat (cleanL v)
  have h1 : Plain (name ++ [58, 32] ++ (piecesL (cleanL v)).headD []) := by
    refine Plain.append (Plain.append (fun c hc => (name_byte (hb.2 c hc)).2.2) fun c hc => ?_) fun c hc => hp c (by rw [← hf]; exact List.mem_append_left _ hc)
    simp at hc
    rcases hc with rfl | rfl <;> exact ⟨by decide, by decide⟩
  have h2 : ∀ x ∈ (piecesL (cleanL v)).tail, Plain x ∧ Piece x := fun x hx => by
    refine ⟨fun c hc => hp c ?_, pieces_tail (trim_trimmed _) x hx⟩
    rw [← hf]
    exact List.mem_append_right _ (List.mem_flatten.2 ⟨x, hx, hc⟩)
  obtain ⟨e, rest, k1, k2, k3⟩ := fold_lines _ _ h1 h2
  refine ⟨(piecesL (cleanL v)).headD [] ++ e, rest, ?_, by rw [← List.append_assoc]; exact k2, k3⟩
  have e3 : (name ++ [58, 32] ++ (piecesL (cleanL v)).headD []).length = name.length + 2 + ((piecesL (cleanL v)).headD []).length := by
    rw [List.length_append, List.length_append]; rfl
  rw [← List.append_assoc, ← k1, fold_flat, e3]
  unfold putL
  rw [if_pos hn]
theorem put_shape {name : List UInt8} (hn : rightL name = true) (v : List UInt8) : ∃ l cs, putL name v = (l :: cs).flatten ∧ AllT (l :: cs) ∧ (∀ x ∈ l :: cs, full x = true) ∧ (∀ c ∈ cs, begun c = true) ∧ begun l = false ∧ (∀ m, (fieldL l m).name = name ∧ (fieldL l m).bad = false) ∧ (∀ m, (fieldL l m).value = bareL ((l ++ m).drop (name.length + 1))) ∧
    ∀ c ∈ cs, (78 < (bareL c).length → (piecesL (bareL c)).length = 1) ∧ trimL (bareL c) ≠ [] := by
  obtain ⟨e, rest, h1, h2, h3⟩ := put_lines hn v
  have hb := right_bytes hn
  have hbare : bareL (name ++ [58, 32] ++ e ++ [13, 10]) = name ++ 58 :: 32 :: e := by rw [bare_crlf]; simp
  have hup : upto (name ++ 58 :: 32 :: e) = name := upto_name (fun c hc => (name_byte (hb.2 c hc)).2.1) _
  have htr : trimR name = name := trimR_fixed fun c hc => (name_byte (hb.2 c (List.mem_of_getLast? hc))).1
  have hfield : ∀ m, fieldL (name ++ [58, 32] ++ e ++ [13, 10]) m = ⟨name, bareL ((name ++ [58, 32] ++ e ++ [13, 10] ++ m).drop (name.length + 1)), name ++ [58, 32] ++ e ++ [13, 10] ++ m, false⟩ := fun m => by
    unfold fieldL
    rw [hbare, hup, htr, if_pos ⟨by simp, hn⟩]
  refine ⟨_, rest, h1, ?_, ?_, ?_, ?_, fun m => by rw [hfield]; exact ⟨rfl, rfl⟩, fun m => by rw [hfield], ?_⟩
  · intro l hl
    rcases List.mem_cons.1 hl with rfl | hl
    · exact term_crlf h2
    · obtain ⟨b, rfl, hp, _⟩ := h3 l hl
      exact term_crlf hp
  · intro l hl
    unfold full
    rcases List.mem_cons.1 hl with rfl | hl
    · rw [hbare]; simp
    · obtain ⟨b, rfl, _, hg, _⟩ := h3 l hl
      rw [bare_crlf]
      cases b with
      | nil => cases hg
      | cons c t => rfl
  · intro l hl
    obtain ⟨b, rfl, _, hg, _⟩ := h3 l hl
    cases b with
    | nil => cases hg
    | cons c t => exact hg
  · cases name with
    | nil => exact absurd rfl hb.1
    | cons c t => exact (name_byte (hb.2 c (by simp))).1
  · intro l hl
    obtain ⟨b, rfl, _, _, ha, hg⟩ := h3 l hl
    rw [bare_crlf]
    exact ⟨hg, trim_any ha⟩
/-- HeaderPut. -/
theorem put_parse {name : List UInt8} (hn : rightL name = true) (v : List UInt8) : ∃ f, parseL (putL name v) = [f] ∧ f.name = name ∧ f.bad = false ∧ f.raw = putL name v ∧ trimL (unfoldL f.value) = cleanL v ∧ atL (putL name v) = (putL name v).length := by
  obtain ⟨l, cs, h1, h2, h3, h4, _, h6, h7, _⟩ := put_shape hn v
  have h8 : splitL (putL name v) = l :: cs := by
    have := split_allT h2 []
    rw [List.append_nil] at this
    rw [h1, this]; simp [splitL]
  have h9 := hdr_id h3
  refine ⟨fieldL l cs.flatten, ?_, (h6 _).1, (h6 _).2, ?_, ?_, ?_⟩
  · unfold parseL; rw [h8, h9.1, groups_one h4]
  · rw [field_raw, h1]; simp
  · rw [h7, show l ++ cs.flatten = putL name v by rw [h1]; simp]
    unfold putL
    rw [if_pos hn]
    have hp := clean_plain v
    have hf := head_flat (cleanL v)
    generalize foldR_is : foldR (name.length + 2 + ((piecesL (cleanL v)).headD []).length) (piecesL (cleanL v)).tail = F
    rw [show name ++ [58, 32] ++ (piecesL (cleanL v)).headD [] ++ F ++ [13, 10] = (name ++ [58]) ++ ((32 :: (piecesL (cleanL v)).headD [] ++ F) ++ [13, 10]) by simp,
      List.drop_left' (by simp), bare_crlf, ← foldR_is]
    have h10 : Plain (32 :: (piecesL (cleanL v)).headD []) := fun c hc => by
      rcases List.mem_cons.1 hc with rfl | hc
      · exact ⟨by decide, by decide⟩
      · exact hp c (by rw [← hf]; exact List.mem_append_left _ hc)
    have h11 := unfold_fold (name.length + 2 + ((piecesL (cleanL v)).headD []).length) (piecesL (cleanL v)).tail (fun x hx c hc => hp c (by rw [← hf]; exact List.mem_append_right _ (List.mem_flatten.2 ⟨x, hx, hc⟩))) []
    rw [List.append_nil] at h11
    rw [unfold_plain h10, h11]
    simp only [unfoldL, List.append_nil, List.cons_append]
    rw [hf]
    exact trim_blank (trim_trimmed _)
  · unfold atL
    rw [h8, h9.1, h9.2, h1]; rfl
/-- HeaderGoes. -/
theorem put_goes {name : List UInt8} (hn : rightL name = true) (v more behind : List UInt8) (hm : 10 ∉ more) (hb : behind.head?.any blank = false) :
    ∃ f, parseL (putL name v ++ 32 :: more ++ [13, 10] ++ behind) = f :: parseL behind ∧ f.name = name ∧ f.raw = putL name v ++ 32 :: more ++ [13, 10] ∧ atL (putL name v ++ 32 :: more ++ [13, 10] ++ behind) = (putL name v).length + more.length + 3 + atL behind := by
  obtain ⟨l, cs, h1, h2, h3, h4, _, h6, _⟩ := put_shape hn v
  have hx : Term (32 :: more ++ [13, 10]) := ⟨32 :: more ++ [13], by simp, by simp; exact hm⟩
  have hfx : full (32 :: more ++ [13, 10]) = true := by unfold full; rw [bare_crlf]; rfl
  have e : putL name v ++ 32 :: more ++ [13, 10] = (l :: (cs ++ [32 :: more ++ [13, 10]])).flatten := by rw [h1]; simp
  have hcs : ∀ c ∈ cs ++ [32 :: more ++ [13, 10]], begun c = true := fun c hc => by
    rcases List.mem_append.1 hc with hc | hc
    · exact h4 c hc
    · rw [List.mem_singleton.1 hc]; rfl
  have k := parse_append (ls := l :: (cs ++ [32 :: more ++ [13, 10]])) (fun x hx' => by
    rcases List.mem_cons.1 hx' with rfl | hx'
    · exact h2 _ (by simp)
    · rcases List.mem_append.1 hx' with hx' | hx'
      · exact h2 x (by simp [hx'])
      · rw [List.mem_singleton.1 hx']; exact hx) (fun x hx' => by
    rcases List.mem_cons.1 hx' with rfl | hx'
    · exact h3 _ (by simp)
    · rcases List.mem_append.1 hx' with hx' | hx'
      · exact h3 x (by simp [hx'])
      · rw [List.mem_singleton.1 hx']; exact hfx) behind (stop_hdr hb)
  rw [← e, groups_one hcs] at k
  refine ⟨_, k.1, (h6 _).1, ?_, ?_⟩
  · rw [field_raw, e]; simp
  · rw [k.2]; simp; omega
/-- HeaderApart: one field ahead of others. -/
theorem put_ahead {name : List UInt8} (hn : rightL name = true) (v b : List UInt8) (hb : b.head?.any blank = false) : parseL (putL name v ++ b) = parseL (putL name v) ++ parseL b ∧ atL (putL name v ++ b) = (putL name v).length + atL b := by
  obtain ⟨l, cs, h1, h2, h3, h4, _, _, _⟩ := put_shape hn v
  have k := parse_append h2 h3 b (stop_hdr hb)
  have k0 := parse_append h2 h3 [] (stop_hdr rfl)
  rw [← h1] at k k0
  rw [List.append_nil] at k0
  refine ⟨?_, k.2⟩
  rw [k.1, k0.1]
  show _ = groups (l :: cs) ++ [] ++ parseL b
  rw [List.append_nil]
theorem put_head {name : List UInt8} (hn : rightL name = true) (v b : List UInt8) : (putL name v ++ b).head?.any blank = false := by
  have hb := right_bytes hn
  unfold putL
  rw [if_pos hn]
  cases name with
  | nil => exact absurd rfl hb.1
  | cons c t => exact (name_byte (hb.2 c (by simp))).1
theorem body_only (body : List UInt8) : parseL ([13, 10] ++ body) = [] ∧ atL ([13, 10] ++ body) = 2 := by
  have h : splitL ([13, 10] ++ body) = [13, 10] :: splitL body := split_term [13] body (by decide)
  have hf : full [13, 10] = false := rfl
  unfold parseL atL hdrL
  rw [h, List.takeWhile_cons_of_neg (by rw [hf]; exact Bool.false_ne_true), List.dropWhile_cons_of_neg (by rw [hf]; exact Bool.false_ne_true)]
  exact ⟨rfl, rfl⟩
theorem puts_apart (l : List (List UInt8 × List UInt8)) (h : ∀ p ∈ l, rightL p.1 = true) (body : List UInt8) :
    parseL ((l.map fun p : List UInt8 × List UInt8 => putL p.1 p.2).flatten ++ [13, 10] ++ body) = (l.map fun p : List UInt8 × List UInt8 => parseL (putL p.1 p.2)).flatten ∧ atL ((l.map fun p : List UInt8 × List UInt8 => putL p.1 p.2).flatten ++ [13, 10] ++ body) = (l.map fun p : List UInt8 × List UInt8 => putL p.1 p.2).flatten.length + 2 := by
  induction l with
  | nil => exact body_only body
  | cons p r ih =>
    have h1 := h p (by simp)
    have ih := ih fun q hq => h q (by simp [hq])
    have hs : ((r.map fun p : List UInt8 × List UInt8 => putL p.1 p.2).flatten ++ [13, 10] ++ body).head?.any blank = false := by
      cases r with
      | nil => rfl
      | cons q r =>
        rw [List.map_cons, List.flatten_cons, List.append_assoc, List.append_assoc]
        exact put_head (h q (by simp)) q.2 _
    have k := put_ahead h1 p.2 _ hs
    rw [List.map_cons, List.flatten_cons, List.append_assoc, List.append_assoc, ← List.append_assoc _ [13, 10] body, k.1, k.2, ih.1, ih.2]
    refine ⟨by simp, by rw [List.length_append]; omega⟩
end Go.Proofs.YtocghngmjipjoaaDoor.HdrP
