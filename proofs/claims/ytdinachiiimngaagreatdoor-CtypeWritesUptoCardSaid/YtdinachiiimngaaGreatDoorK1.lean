/- What the contracts share: strings as lists of bytes, slices that can be read. Tokens of header fields, of no program: scanning, values, quoting, and the stage's laws of them. Tokens of header fields, of no program: what stands behind whole tokens, neighbours, values and quoting. Tokens of header fields, of no program: strings that need no quotes. Single bytes: white space, specials, atom bytes, the program's. Slices of tokens: in a block of their own, or read at an address; tokens as values. Mail addresses, of no program: what stands behind whole tokens; pieces, addr-specs, addresses. Mail addresses, of no program: pieces, addr-specs, addresses; two fields joined; blanks between tokens. Mail addresses, of no program: what is written is read back; message ids. Mail addresses, of no program: lists of addresses that are written are read back. Mail addresses, of no program: valid addresses, canonical forms; dot-atoms byte by byte. Content types, of no program: rows, parameters, their decoding and their writing. Values and escapes, at a place of a list. CtypeBack's core, of no program: a type that is written is read back; so is a disposition. Mail addresses, of no program: the program's ways: the bounds of the first piece, finds, ids by cuts, dot-atoms by tokens. -/
import Derived.Test.YtdinachiiimngaaGreatDoorChecked
import Derived.Test.YtdinachiiimngaaGreatDoorKShelf
import Derived.Lib.Hide
import Derived.WalkKit
import Derived.ProofKit
import Derived.MapKept
import Derived.Laws.OwnMore
import Derived.Laws.AppendOwn
import Derived.Laws.StructEq
import Derived.Deep.RegionHeld3
namespace Go.Proofs.YtdinachiiimngaaGreatDoor
open Go.ChangeShapes Go.WideShapes Go.ChangeAt Go.RowKit

theorem Qtrans {w w1 w2 : World} (h : Below w.heap.size w w1) (k : Below w1.heap.size w1 w2) : Below w.heap.size w w2 := h.trans (k.mono h.size)
/-! ### Strings as lists of bytes -/
/-- The string of a list of bytes. -/
def strL (l : List UInt8) : ByteArray := ⟨l.toArray⟩
theorem strL_list (l : List UInt8) : (strL l).data.toList = l := rfl
theorem strL_size (l : List UInt8) : (strL l).size = l.length := by
  show l.toArray.size = l.length
  simp
theorem bytes_is {a b : ByteArray} (h : a.data.toList = b.data.toList) : a = b := by
  cases a; cases b
  simp only [ByteArray.mk.injEq] at h ⊢
  exact Array.toList_inj.1 h
theorem strL_of (s : ByteArray) : strL s.data.toList = s := bytes_is rfl
theorem strL_is {s : ByteArray} {l : List UInt8} (h : s.data.toList = l) : s = strL l := bytes_is h
theorem strL_inj {a b : List UInt8} : strL a = strL b ↔ a = b := ⟨fun h => congrArg (fun s : ByteArray => s.data.toList) h, fun h => by rw [h]⟩
theorem size_list (t : ByteArray) : t.size = t.data.toList.length := by rw [Array.length_toList]; rfl
theorem bytes_eqb (a b : ByteArray) : (a == b) = decide (a = b) := by
  rw [Bool.eq_iff_iff, MapKept.bytes_beq, decide_eq_true_eq]
theorem eq_lists (a b : ByteArray) : (a.toList == b.toList) = (a == b) := by
  rw [bytes_eqb, Bool.eq_iff_iff, beq_iff_eq, ByteArray.toList_eq, ByteArray.toList_eq, decide_eq_true_eq]
  exact ⟨bytes_is, fun h => by rw [h]⟩
theorem eq_strL (a b : List UInt8) : ((strL a).toList == (strL b).toList) = decide (a = b) := by
  rw [eq_lists, bytes_eqb, Bool.eq_iff_iff, decide_eq_true_eq, decide_eq_true_eq, strL_inj]
theorem list_append (a b : ByteArray) : (a ++ b).data.toList = a.data.toList ++ b.data.toList := by
  rw [ByteArray.data_append, Array.toList_append]
theorem strL_append (a b : List UInt8) : strL a ++ strL b = strL (a ++ b) := bytes_is (by rw [list_append]; rfl)
/-- A part of a string. -/
theorem part_of (s : ByteArray) (i j : Nat) (_hij : i ≤ j) (_hj : j ≤ s.size) : s.extract i j = strL ((s.data.toList.drop i).take (j - i)) := by
  refine bytes_is ?_
  rw [ByteArray.data_extract, Array.toList_extract, strL_list, List.extract_eq_take_drop]
theorem run_slice_str (s : ByteArray) (p q : Nat) (x : Int) (hx : x = q) (h : p ≤ q) (h2 : q ≤ s.size) (W : World) :
    (Instr.slice 9 (.string s) (some (.int .i64 p)) (some (.int .i64 x)) none).run Tryz.prog W = .ok (.string (s.extract p q)) W := by
  subst hx
  go_simp
theorem run_slice_from (s : ByteArray) (p : Nat) (x : Int) (hx : x = p) (h2 : p ≤ s.size) (W : World) :
    (Instr.slice 9 (.string s) (some (.int .i64 x)) none none).run Tryz.prog W = .ok (.string (s.extract p s.size)) W := by
  subst hx
  go_simp
theorem run_slice_to (s : ByteArray) (q : Nat) (x : Int) (hx : x = q) (h2 : q ≤ s.size) (W : World) :
    (Instr.slice 9 (.string s) none (some (.int .i64 x)) none).run Tryz.prog W = .ok (.string (s.extract 0 q)) W := by
  subst hx
  go_simp
theorem run_index_str (s : ByteArray) (x : Int) (n : Nat) (hx : x = n) (h : n < s.size) (W : World) :
    (Instr.index 9 (.string s) (.int .i64 x)).run Tryz.prog W = .ok (.int .u8 (s[n].toNat : Int)) W := by
  subst hx
  go_simp
theorem at_list (s : ByteArray) (n : Nat) (_h : n < s.size) (h2 : n < s.data.toList.length) : s.data.toList[n] = s[n] := rfl
theorem drop_cons (s : ByteArray) (n : Nat) (h : n < s.size) : s.data.toList.drop n = s[n] :: s.data.toList.drop (n + 1) := List.drop_eq_getElem_cons (by rw [← size_list]; exact h)
theorem part_rest (s : ByteArray) (n : Nat) (h : n ≤ s.size) : (s.extract n s.size).data.toList = s.data.toList.drop n := by
  rw [part_of s n s.size h (by omega), strL_list, List.take_of_length_le]
  rw [List.length_drop, ← size_list]
  exact Nat.le_refl _
theorem part_start (s : ByteArray) (n : Nat) (h : n ≤ s.size) : (s.extract 0 n).data.toList = s.data.toList.take n := by
  rw [part_of s 0 n (by omega) h, strL_list]; rfl
/-! ### Slices that can be read -/
def strV (l : List UInt8) : Value := .string (strL l)
def blk : Value → Option Nat
  | .slice (some a) _ _ => some a.block
  | _ => none
/-- The slice v reads as xs. -/
def Has {A : Type} (E : A → Value) (w : World) (v : Value) (xs : List A) : Prop :=
  (v = .slice none 0 0 ∧ xs = []) ∨ ∃ a c, v = .slice (some a) xs.length c ∧ ∀ j (h : j < xs.length), w.cell? (a.add j) = some (E xs[j])
theorem Has.nil {A : Type} (E : A → Value) (w : World) : Has E w (.slice none 0 0) [] := Or.inl ⟨rfl, rfl⟩
theorem add_block (a : Addr) (j : Nat) : (a.add j).block = a.block := by unfold Addr.add; split <;> rfl
theorem block_lt {w : World} {a : Addr} {j : Nat} {u : Value} (h : w.cell? (a.add j) = some u) : a.block < w.heap.size := by
  have := World.block_lt_of_cell? w (a.add j) h
  rwa [add_block] at this
theorem Has.keep {A : Type} {E : A → Value} {w w' : World} {v : Value} {xs : List A} (h : Has E w v xs) (hk : ∀ k, blk v = some k → k < w.heap.size → w'.heap[k]? = w.heap[k]?) : Has E w' v xs := by
  rcases h with h | ⟨a, c, rfl, h2⟩
  · exact Or.inl h
  · exact Or.inr ⟨a, c, rfl, fun j hj => by rw [World.cell?_of_block (w := w) (by rw [add_block]; exact hk a.block rfl (block_lt (h2 j hj)))]; exact h2 j hj⟩
theorem Has.below {A : Type} {E : A → Value} {w w' : World} {v : Value} {xs : List A} {B : Nat} (h : Has E w v xs) (hb : Below B w w') (hB : ∀ k, blk v = some k → k < w.heap.size → k < B) : Has E w' v xs :=
  h.keep fun k hk hl => hb.block k (hB k hk hl)
theorem Has.below' {A : Type} {E : A → Value} {w w' : World} {v : Value} {xs : List A} (h : Has E w v xs) (hb : Below w.heap.size w w') : Has E w' v xs := h.below hb fun _ _ h => h
theorem Has.of_own {A : Type} {E : A → Value} {w : World} {base e : Nat} {v : Value} {xs : List A} (h : w.ownsRow base e 1 v xs.length (xs.map E)) : Has E w v xs ∧ ∀ k, blk v = some k → base ≤ k := by
  rcases h.2 with ⟨rfl, h0⟩ | ⟨g, cap, cur, rfl, hb, hg, _⟩
  · exact ⟨Or.inl ⟨rfl, List.eq_nil_of_length_eq_zero h0⟩, fun k hk => by cases hk⟩
  · refine ⟨Or.inr ⟨⟨g, 0, none⟩, cap, rfl, fun j hj => ?_⟩, fun k hk => by cases hk; exact hb⟩
    exact h.cells (g := g) rfl j _ (by rw [List.getElem?_map, List.getElem?_eq_getElem hj]; rfl)
theorem cells_new {A : Type} (E : A → Value) (w : World) (e : TypeId) (l : List A) : ∀ j u, (l.map E)[j]? = some u → (w.alloc (.cells (l.map E).toArray e)).cell? ((⟨w.heap.size, 0, none⟩ : Addr).add j) = some u := by
  intro j u h
  have := World.cell?_alloc_mark w (l.map E).toArray e (0, 0) j
  have e : (⟨w.heap.size, 0, none⟩ : Addr).add j = ⟨w.heap.size, j, none⟩ := by
    simp only [Addr.add, Nat.zero_add]
    split
    · rename_i hj; rw [hj]
    · rfl
  rw [e, this, List.getElem?_toArray]; exact h
theorem Has.lit {A : Type} (E : A → Value) (w : World) (e : TypeId) (l : List A) (n : Nat) (hn : n = l.length) : Has E (w.alloc (.cells (l.map E).toArray e)) (.slice (some ⟨w.heap.size, 0, none⟩) n n) l := by
  subst hn
  exact Or.inr ⟨_, _, rfl, fun j hj => cells_new E w e l j _ (by rw [List.getElem?_map, List.getElem?_eq_getElem hj]; rfl)⟩
theorem own_below {w w' : World} {base : Nat} {e : TypeId} {size : Nat} {v : Value} {n : Nat} {xs : List Value} (h : w.ownsRow base e size v n xs) (hb : Below w.heap.size w w') : w'.ownsRow base e size v n xs := by
  refine ⟨h.1, ?_⟩
  rcases h.2 with h1 | ⟨g, cap, cur, rfl, hbg, hg, rest⟩
  · exact .inl h1
  · refine .inr ⟨g, cap, cur, rfl, hbg, ?_, rest⟩
    rw [hb.block g (Array.getElem?_eq_some_iff.1 hg).1]
    exact hg
theorem info9 : (Tryz.prog.info? 9).map (fun i => (i.zero, i.size, i.bytes)) = some (some (.string ⟨#[]⟩), 1, 16) := by kernel_rfl
theorem info5 : (Tryz.prog.info? 5).map (fun i => (i.zero, i.size, i.bytes)) = some (some (.int .u8 0), 1, 1) := by kernel_rfl
end Go.Proofs.YtdinachiiimngaaGreatDoor
namespace Go.Proofs.YtdinachiiimngaaGreatDoor.TokP

structure Tok where
  kind : Nat
  text : List UInt8
deriving DecidableEq
def blank (c : UInt8) : Bool := c == 9 || c == 10 || c == 13 || c == 32
def special (c : UInt8) : Bool := [40, 41, 60, 62, 91, 93, 58, 59, 64, 92, 44, 46, 34].contains c
def atomB (c : UInt8) : Bool := decide (32 < c.toNat) && c != 127 && !special c
/-- What opens a token that is closed by another byte. -/
def opens (c : UInt8) : Bool := c == 40 || c == 34 || c == 91
def closer (c : UInt8) : UInt8 := if c = 40 then 41 else if c = 34 then 34 else 93
def kindO (c : UInt8) : Nat := if c = 40 then 3 else if c = 34 then 2 else 5
/-- How many bytes behind the opening one there are to the closing one, it too: q closes, nest: '(' opens another; e: the byte is escaped; d: the depth. -/
def closeS (q : UInt8) (nest : Bool) : Bool → Nat → List UInt8 → Option Nat
  | _, _, [] => none
  | true, d, _ :: t => (closeS q nest false d t).map (· + 1)
  | false, d, c :: t =>
    if c = 92 then (closeS q nest true d t).map (· + 1)
    else if c = q then (if d = 0 then some 1 else (closeS q nest false (d - 1) t).map (· + 1))
    else if nest = true ∧ c = 40 then (closeS q nest false (d + 1) t).map (· + 1)
    else (closeS q nest false d t).map (· + 1)
def closeL (c : UInt8) (t : List UInt8) : Option Nat := closeS (closer c) (c == 40) false 0 t
/-- The first token. -/
def frontL : List UInt8 → Tok
  | [] => ⟨7, []⟩
  | c :: t =>
    if blank c = true then ⟨6, (c :: t).takeWhile blank⟩
    else if opens c = true then (match closeL c t with
      | none => ⟨7, c :: t⟩
      | some n => ⟨kindO c, c :: t.take n⟩)
    else if special c = true then ⟨4, [c]⟩
    else if atomB c = true then ⟨1, (c :: t).takeWhile atomB⟩
    else ⟨7, [c]⟩
theorem close_le (q : UInt8) (nest : Bool) : ∀ (t : List UInt8) (e : Bool) (d n : Nat), closeS q nest e d t = some n → 0 < n ∧ n ≤ t.length := by
  intro t
  induction t with
  | nil => intro e d n h; cases e <;> simp [closeS] at h
  | cons c t ih =>
    intro e d n h
    have key : ∀ e' d', (closeS q nest e' d' t).map (· + 1) = some n → 0 < n ∧ n ≤ (c :: t).length := by
      intro e' d' h'
      obtain ⟨m, hm, rfl⟩ := Option.map_eq_some_iff.1 h'
      have := ih e' d' m hm
      rw [List.length_cons]; omega
    cases e with
    | true => exact key _ _ (by simpa only [closeS] using h)
    | false =>
      rw [closeS] at h
      split at h
      · exact key _ _ h
      · split at h
        · split at h
          · cases h; rw [List.length_cons]; omega
          · exact key _ _ h
        · split at h
          · exact key _ _ h
          · exact key _ _ h
/-- Only what stands before the closing byte matters. -/
theorem close_pre (q : UInt8) (nest : Bool) : ∀ (t u : List UInt8) (e : Bool) (d n : Nat), closeS q nest e d t = some n → closeS q nest e d (t.take n ++ u) = some n := by
  intro t
  induction t with
  | nil => intro u e d n h; cases e <;> simp [closeS] at h
  | cons c t ih =>
    intro u e d n h
    have key : ∀ e' d', (closeS q nest e' d' t).map (· + 1) = some n → (∃ m, n = m + 1 ∧ (closeS q nest e' d' (t.take m ++ u)).map (· + 1) = some n) := by
      intro e' d' h'
      obtain ⟨m, hm, rfl⟩ := Option.map_eq_some_iff.1 h'
      exact ⟨m, rfl, by rw [ih u e' d' m hm]; rfl⟩
    cases e with
    | true =>
      obtain ⟨m, rfl, h2⟩ := key _ _ (by simpa only [closeS] using h)
      rw [List.take_succ_cons, List.cons_append, closeS]; exact h2
    | false =>
      rw [closeS] at h
      by_cases h1 : c = 92
      · rw [if_pos h1] at h
        obtain ⟨m, rfl, h2⟩ := key _ _ h
        rw [List.take_succ_cons, List.cons_append, closeS, if_pos h1]; exact h2
      · rw [if_neg h1] at h
        by_cases h3 : c = q
        · rw [if_pos h3] at h
          by_cases h4 : d = 0
          · rw [if_pos h4] at h
            cases h
            rw [List.take_succ_cons, List.cons_append, closeS, if_neg h1, if_pos h3, if_pos h4]
          · rw [if_neg h4] at h
            obtain ⟨m, rfl, h2⟩ := key _ _ h
            rw [List.take_succ_cons, List.cons_append, closeS, if_neg h1, if_pos h3, if_neg h4]; exact h2
        · rw [if_neg h3] at h
          by_cases h5 : nest = true ∧ c = 40
          · rw [if_pos h5] at h
            obtain ⟨m, rfl, h2⟩ := key _ _ h
            rw [List.take_succ_cons, List.cons_append, closeS, if_neg h1, if_neg h3, if_pos h5]; exact h2
          · rw [if_neg h5] at h
            obtain ⟨m, rfl, h2⟩ := key _ _ h
            rw [List.take_succ_cons, List.cons_append, closeS, if_neg h1, if_neg h3, if_neg h5]; exact h2
theorem close_app (c : UInt8) (t u : List UInt8) (n : Nat) (h : closeL c t = some n) : closeL c (t ++ u) = some n := by
  have := close_pre _ _ t (t.drop n ++ u) _ _ _ h
  rwa [← List.append_assoc, List.take_append_drop] at this
theorem close_cut (c : UInt8) (t : List UInt8) (n : Nat) (h : closeL c t = some n) : closeL c (t.take n) = some n := by
  have := close_pre _ _ t [] _ _ _ h
  rwa [List.append_nil] at this
theorem front_pos (s : List UInt8) (h : s ≠ []) : (frontL s).text ≠ [] := by
  cases s with
  | nil => exact absurd rfl h
  | cons c t =>
    rw [frontL]
    split
    · rename_i hb; rw [List.takeWhile_cons_of_pos hb]; simp
    · split
      · split <;> simp
      · split
        · simp
        · split
          · rename_i ha; rw [List.takeWhile_cons_of_pos ha]; simp
          · simp
/-- The first token is how the string begins. -/
theorem front_pre (s : List UInt8) : (frontL s).text ++ s.drop (frontL s).text.length = s := by
  have key : ∀ p : List UInt8, p <+: s → p ++ s.drop p.length = s := by
    rintro p ⟨r, rfl⟩; rw [List.drop_left]
  refine key _ ?_
  cases s with
  | nil => exact List.nil_prefix
  | cons c t =>
    rw [frontL]
    split
    · exact List.takeWhile_prefix _
    · split
      · split
        · exact List.prefix_refl _
        · exact (List.cons_prefix_cons).2 ⟨rfl, List.take_prefix _ _⟩
      · split
        · exact (List.cons_prefix_cons).2 ⟨rfl, List.nil_prefix⟩
        · split
          · exact List.takeWhile_prefix _
          · exact (List.cons_prefix_cons).2 ⟨rfl, List.nil_prefix⟩
theorem front_le (s : List UInt8) : (frontL s).text.length ≤ s.length := by
  have := congrArg List.length (front_pre s)
  rw [List.length_append] at this
  omega
def scanF : Nat → List UInt8 → List Tok
  | 0, _ => []
  | _ + 1, [] => []
  | n + 1, c :: t => frontL (c :: t) :: scanF n ((c :: t).drop (frontL (c :: t)).text.length)
def scanL (s : List UInt8) : List Tok := scanF s.length s
theorem scanF_more : ∀ (n m : Nat) (s : List UInt8), s.length ≤ n → s.length ≤ m → scanF n s = scanF m s := by
  intro n
  induction n with
  | zero =>
    intro m s h1 _
    obtain rfl : s = [] := List.eq_nil_of_length_eq_zero (by omega)
    cases m <;> rfl
  | succ n ih =>
    intro m s h1 h2
    cases s with
    | nil => cases m <;> rfl
    | cons c t =>
      cases m with
      | zero => rw [List.length_cons] at h2; omega
      | succ m =>
        have h3 := List.length_pos_iff.2 (front_pos (c :: t) (by simp))
        have h4 : ((c :: t).drop (frontL (c :: t)).text.length).length ≤ t.length := by rw [List.length_drop, List.length_cons]; omega
        rw [List.length_cons] at h1 h2
        rw [scanF, scanF, ih m _ (by omega) (by omega)]
theorem scan_nil : scanL [] = [] := rfl
theorem scan_cons (s : List UInt8) (h : s ≠ []) : scanL s = frontL s :: scanL (s.drop (frontL s).text.length) := by
  cases s with
  | nil => exact absurd rfl h
  | cons c t =>
    have h3 := List.length_pos_iff.2 (front_pos (c :: t) (by simp))
    have h4 : ((c :: t).drop (frontL (c :: t)).text.length).length ≤ t.length := by rw [List.length_drop, List.length_cons]; omega
    unfold scanL
    rw [List.length_cons, scanF, scanF_more t.length _ _ h4 (Nat.le_refl _)]
/-- Whatever holds of the tail's tokens .. : induction along the tokens. -/
theorem scan_ind {P : List UInt8 → Prop} (h0 : P []) (h1 : ∀ s, s ≠ [] → P (s.drop (frontL s).text.length) → P s) : ∀ s, P s := by
  have : ∀ n (s : List UInt8), s.length ≤ n → P s := by
    intro n
    induction n with
    | zero => intro s h; obtain rfl : s = [] := List.eq_nil_of_length_eq_zero (by omega); exact h0
    | succ n ih =>
      intro s h
      by_cases hs : s = []
      · subst hs; exact h0
      · have h3 := List.length_pos_iff.2 (front_pos s hs)
        exact h1 s hs (ih _ (by rw [List.length_drop]; omega))
  exact fun s => this s.length s (Nat.le_refl _)
def joinL (l : List Tok) : List UInt8 := (l.map Tok.text).flatten
/-- TokenKeeps: nothing is lost. -/
theorem join_scan (s : List UInt8) : joinL (scanL s) = s := by
  induction s using scan_ind with
  | h0 => rfl
  | h1 s hs ih =>
    rw [scan_cons s hs]
    unfold joinL at ih ⊢
    rw [List.map_cons, List.flatten_cons, ih, front_pre]
theorem scan_len (s : List UInt8) : (scanL s).length ≤ s.length := by
  induction s using scan_ind with
  | h0 => exact Nat.le_refl _
  | h1 s hs ih =>
    have h3 := List.length_pos_iff.2 (front_pos s hs)
    have h4 := front_le s
    rw [scan_cons s hs, List.length_cons]
    rw [List.length_drop] at ih
    omega
theorem take_while_idem (p : UInt8 → Bool) (l : List UInt8) : (l.takeWhile p).takeWhile p = l.takeWhile p := by
  induction l with
  | nil => rfl
  | cons c t ih =>
    by_cases h : p c = true
    · rw [List.takeWhile_cons_of_pos h, List.takeWhile_cons_of_pos h, ih]
    · rw [List.takeWhile_cons_of_neg h]; rfl
/-- The first token of its own text is it. -/
theorem front_again (s : List UInt8) (h : s ≠ []) : frontL (frontL s).text = frontL s := by
  cases s with
  | nil => exact absurd rfl h
  | cons c t =>
    by_cases h1 : blank c = true
    · have e : frontL (c :: t) = ⟨6, (c :: t).takeWhile blank⟩ := by rw [frontL, if_pos h1]
      rw [e]
      show frontL ((c :: t).takeWhile blank) = _
      rw [List.takeWhile_cons_of_pos h1, frontL, if_pos h1, List.takeWhile_cons_of_pos h1, take_while_idem]
    · by_cases h2 : opens c = true
      · cases hc : closeL c t with
        | none =>
          have e : frontL (c :: t) = ⟨7, c :: t⟩ := by rw [frontL, if_neg h1, if_pos h2, hc]
          rw [e]; show frontL (c :: t) = _; rw [e]
        | some n =>
          have e : frontL (c :: t) = ⟨kindO c, c :: t.take n⟩ := by rw [frontL, if_neg h1, if_pos h2, hc]
          rw [e]
          show frontL (c :: t.take n) = _
          rw [frontL, if_neg h1, if_pos h2, close_cut c t n hc]
          show (⟨kindO c, c :: (t.take n).take n⟩ : Tok) = _
          rw [List.take_take, Nat.min_self]
      · by_cases h3 : special c = true
        · have e : frontL (c :: t) = ⟨4, [c]⟩ := by rw [frontL, if_neg h1, if_neg h2, if_pos h3]
          rw [e]; show frontL [c] = _
          rw [frontL, if_neg h1, if_neg h2, if_pos h3]
        · by_cases h4 : atomB c = true
          · have e : frontL (c :: t) = ⟨1, (c :: t).takeWhile atomB⟩ := by rw [frontL, if_neg h1, if_neg h2, if_neg h3, if_pos h4]
            rw [e]
            show frontL ((c :: t).takeWhile atomB) = _
            rw [List.takeWhile_cons_of_pos h4, frontL, if_neg h1, if_neg h2, if_neg h3, if_pos h4, List.takeWhile_cons_of_pos h4, take_while_idem]
          · have e : frontL (c :: t) = ⟨7, [c]⟩ := by rw [frontL, if_neg h1, if_neg h2, if_neg h3, if_neg h4]
            rw [e]; show frontL [c] = _
            rw [frontL, if_neg h1, if_neg h2, if_neg h3, if_neg h4]
theorem scan_front (s : List UInt8) (h : s ≠ []) : scanL (frontL s).text = [frontL s] := by
  have hp := front_pos s h
  rw [scan_cons _ hp, front_again s h, List.drop_length]; rfl
theorem kindO_bd (c : UInt8) : 1 ≤ kindO c ∧ kindO c ≤ 7 := by
  unfold kindO
  repeat' split
  all_goals decide
theorem scan_mem (s : List UInt8) : ∀ t ∈ scanL s, t.text ≠ [] ∧ scanL t.text = [t] ∧ 1 ≤ t.kind ∧ t.kind ≤ 7 ∧ t.text.length ≤ s.length := by
  induction s using scan_ind with
  | h0 => intro t h; cases h
  | h1 s hs ih =>
    intro t h
    rw [scan_cons s hs] at h
    rcases List.mem_cons.1 h with rfl | h
    · refine ⟨front_pos s hs, scan_front s hs, ?_, ?_, front_le s⟩
      all_goals
        cases s with
        | nil => exact absurd rfl hs
        | cons c t =>
          rw [frontL]
          repeat' split
          all_goals first | exact (kindO_bd c).1 | exact (kindO_bd c).2 | simp
    · have := ih t h
      rw [List.length_drop] at this
      exact ⟨this.1, this.2.1, this.2.2.1, this.2.2.2.1, by omega⟩
end Go.Proofs.YtdinachiiimngaaGreatDoor.TokP
namespace Go.Proofs.YtdinachiiimngaaGreatDoor.TokP

theorem take_while_app (p : UInt8 → Bool) (a b : List UInt8) (h : (a.takeWhile p).length < a.length) : (a ++ b).takeWhile p = a.takeWhile p := by
  induction a with
  | nil => simp at h
  | cons c t ih =>
    by_cases hc : p c = true
    · rw [List.takeWhile_cons_of_pos hc, List.length_cons, List.length_cons] at h
      rw [List.cons_append, List.takeWhile_cons_of_pos hc, List.takeWhile_cons_of_pos hc, ih (by omega)]
    · rw [List.cons_append, List.takeWhile_cons_of_neg hc, List.takeWhile_cons_of_neg hc]
/-- A token that ends ahead of the string's end, or by a byte of its own, is the first whatever follows. -/
theorem front_app (a b : List UInt8) (ha : a ≠ []) (h : (frontL a).text.length < a.length ∨ ((frontL a).kind ≠ 6 ∧ (frontL a).kind ≠ 1 ∧ (frontL a).kind ≠ 7)) : frontL (a ++ b) = frontL a := by
  cases a with
  | nil => exact absurd rfl ha
  | cons c t =>
    by_cases h1 : blank c = true
    · have e : frontL (c :: t) = ⟨6, (c :: t).takeWhile blank⟩ := by rw [frontL, if_pos h1]
      rw [e] at h ⊢
      rcases h with h | h
      · rw [List.cons_append, frontL, if_pos h1, ← List.cons_append, take_while_app blank _ b h]
      · exact absurd rfl h.1
    · by_cases h2 : opens c = true
      · cases hc : closeL c t with
        | none =>
          have e : frontL (c :: t) = ⟨7, c :: t⟩ := by rw [frontL, if_neg h1, if_pos h2, hc]
          rw [e] at h
          rcases h with h | h
          · exact absurd h (Nat.lt_irrefl _)
          · exact absurd rfl h.2.2
        | some n =>
          have e : frontL (c :: t) = ⟨kindO c, c :: t.take n⟩ := by rw [frontL, if_neg h1, if_pos h2, hc]
          have hn := (close_le _ _ t _ _ n hc).2
          rw [e, List.cons_append, frontL, if_neg h1, if_pos h2, close_app c t b n hc]
          show (⟨kindO c, c :: (t ++ b).take n⟩ : Tok) = _
          rw [List.take_append_of_le_length hn]
      · by_cases h3 : special c = true
        · rw [List.cons_append, frontL, frontL, if_neg h1, if_neg h2, if_pos h3, if_neg h1, if_neg h2, if_pos h3]
        · by_cases h4 : atomB c = true
          · have e : frontL (c :: t) = ⟨1, (c :: t).takeWhile atomB⟩ := by rw [frontL, if_neg h1, if_neg h2, if_neg h3, if_pos h4]
            rw [e] at h ⊢
            rcases h with h | h
            · rw [List.cons_append, frontL, if_neg h1, if_neg h2, if_neg h3, if_pos h4, ← List.cons_append, take_while_app atomB _ b h]
            · exact absurd rfl h.2.1
          · rw [List.cons_append, frontL, frontL, if_neg h1, if_neg h2, if_neg h3, if_neg h4, if_neg h1, if_neg h2, if_neg h3, if_neg h4]
/-- TokenParts. -/
theorem scan_parts (a b : List UInt8) (h : ∀ t, (scanL a).getLast? = some t → t.kind ≠ 6 ∧ t.kind ≠ 1 ∧ t.kind ≠ 7) : scanL (a ++ b) = scanL a ++ scanL b := by
  induction a using scan_ind with
  | h0 => rfl
  | h1 a ha ih =>
    have hp := front_pre a
    have hl := congrArg List.length hp
    rw [List.length_append] at hl
    have hcond : (frontL a).text.length < a.length ∨ ((frontL a).kind ≠ 6 ∧ (frontL a).kind ≠ 1 ∧ (frontL a).kind ≠ 7) := by
      by_cases hr : a.drop (frontL a).text.length = []
      · refine .inr (h _ ?_)
        rw [scan_cons a ha, hr]; rfl
      · have := List.length_pos_iff.2 hr
        exact .inl (by omega)
    have hf := front_app a b ha hcond
    have hd : (a ++ b).drop (frontL a).text.length = a.drop (frontL a).text.length ++ b := List.drop_append_of_le_length (by omega)
    rw [scan_cons (a ++ b) (by simp [ha]), hf, hd, scan_cons a ha, ih ?_, List.cons_append]
    intro t ht
    refine h t ?_
    rw [scan_cons a ha, List.getLast?_cons, ht]; rfl
/-- TokenKeeps: neither white space nor an atom stands beside another. -/
theorem head_drop (p : UInt8 → Bool) (s : List UInt8) (c : UInt8) (h : (s.drop (s.takeWhile p).length).head? = some c) : p c = false := by
  induction s with
  | nil => simp at h
  | cons x t ih =>
    by_cases hx : p x = true
    · rw [List.takeWhile_cons_of_pos hx, List.length_cons, List.drop_succ_cons] at h
      exact ih h
    · rw [List.takeWhile_cons_of_neg hx, List.length_nil, List.drop_zero] at h
      obtain rfl : x = c := by simpa using h
      simpa using hx
theorem front_kind (c : UInt8) (t : List UInt8) : ((frontL (c :: t)).kind = 6 ↔ blank c = true) ∧ ((frontL (c :: t)).kind = 1 → atomB c = true ∧ blank c = false) ∧
    (blank c = true → (frontL (c :: t)).text = (c :: t).takeWhile blank) ∧ ((frontL (c :: t)).kind = 1 → (frontL (c :: t)).text = (c :: t).takeWhile atomB) := by
  have hk : kindO c ≠ 6 ∧ kindO c ≠ 1 := by
    unfold kindO
    repeat' split
    all_goals decide
  rw [frontL]
  by_cases h1 : blank c = true
  · rw [if_pos h1]; simp [h1]
  · rw [if_neg h1]
    by_cases h2 : opens c = true
    · rw [if_pos h2]
      cases closeL c t with
      | none => simp [h1]
      | some n => simp [h1, hk.1, hk.2]
    · rw [if_neg h2]
      by_cases h3 : special c = true
      · rw [if_pos h3]; simp [h1]
      · rw [if_neg h3]
        by_cases h4 : atomB c = true
        · rw [if_pos h4]; simp [h1, h4]
        · rw [if_neg h4]; simp [h1]
theorem scan_apart (s : List UInt8) : ∀ (i : Nat) (t u : Tok), (scanL s)[i]? = some t → (scanL s)[i + 1]? = some u → t.kind = u.kind → t.kind ≠ 6 ∧ t.kind ≠ 1 := by
  induction s using scan_ind with
  | h0 => intro i t u h; simp [scan_nil] at h
  | h1 s hs ih =>
    intro i t u h1 h2 he
    rw [scan_cons s hs] at h1 h2
    rw [List.getElem?_cons_succ] at h2
    cases i with
    | succ i =>
      rw [List.getElem?_cons_succ] at h1
      exact ih i t u h1 h2 he
    | zero =>
      obtain rfl : frontL s = t := by simpa using h1
      have hr : s.drop (frontL s).text.length ≠ [] := by
        intro e; rw [e] at h2; simp [scan_nil] at h2
      obtain ⟨x, r, hx⟩ := List.exists_cons_of_ne_nil hr
      rw [hx, scan_cons (x :: r) (by simp)] at h2
      obtain rfl : frontL (x :: r) = u := by simpa using h2
      cases s with
      | nil => exact absurd rfl hs
      | cons c t =>
        obtain ⟨k1, k2, k3, k4⟩ := front_kind c t
        obtain ⟨m1, m2, _, _⟩ := front_kind x r
        refine ⟨fun h6 => ?_, fun h1 => ?_⟩
        · have hx2 := head_drop blank (c :: t) x (by rw [← k3 (k1.1 h6), hx]; rfl)
          rw [he] at h6
          rw [m1.1 h6] at hx2
          exact Bool.noConfusion hx2
        · have hx2 := head_drop atomB (c :: t) x (by rw [← k4 h1, hx]; rfl)
          rw [he] at h1
          rw [(m2 h1).1] at hx2
          exact Bool.noConfusion hx2
/-! Values. -/
def unescS : Bool → List UInt8 → List UInt8
  | _, [] => []
  | true, c :: t => c :: unescS false t
  | false, c :: t => if c = 92 then unescS true t else if c = 10 ∨ c = 13 then unescS false t else c :: unescS false t
def valueL (t : Tok) : List UInt8 := if (t.kind = 2 ∨ t.kind = 3) ∧ 2 ≤ t.text.length then unescS false (t.text.drop 1).dropLast else t.text
def held (c : UInt8) : Bool := c == 34 || c == 92 || c == 10 || c == 13
def escL : List UInt8 → List UInt8
  | [] => []
  | c :: t => if held c = true then 92 :: c :: escL t else c :: escL t
/-- Atoms, separated by single spaces; b: an atom stands before. -/
def plainA : Bool → List UInt8 → Bool
  | b, [] => b
  | b, c :: t => if atomB c = true then plainA true t else if c = 32 ∧ b = true then plainA false t else false
def quoteL (s : List UInt8) : List UInt8 := if plainA false s = true then s else 34 :: escL s ++ [34]
theorem unesc_esc (s : List UInt8) : unescS false (escL s) = s := by
  induction s with
  | nil => rfl
  | cons c t ih =>
    rw [escL]
    split
    · rw [unescS, if_pos rfl, unescS, ih]
    · rename_i h
      have h92 : c ≠ 92 := fun e => h (by subst e; rfl)
      have h10 : ¬ (c = 10 ∨ c = 13) := fun e => h (by rcases e with rfl | rfl <;> rfl)
      rw [unescS, if_neg h92, if_neg h10, ih]
theorem unesc_le (e : Bool) (s : List UInt8) : (unescS e s).length ≤ s.length := by
  induction s generalizing e with
  | nil => cases e <;> exact Nat.le_refl _
  | cons c t ih =>
    cases e with
    | true => rw [unescS, List.length_cons, List.length_cons]; exact Nat.succ_le_succ (ih false)
    | false =>
      rw [unescS]
      split
      · have := ih true; rw [List.length_cons]; omega
      · split
        · have := ih false; rw [List.length_cons]; omega
        · have := ih false; rw [List.length_cons, List.length_cons]; omega
theorem esc_len (s : List UInt8) : (escL s).length ≤ 2 * s.length := by
  induction s with
  | nil => exact Nat.le_refl _
  | cons c t ih =>
    rw [escL]
    split
    · rw [List.length_cons, List.length_cons, List.length_cons]; omega
    · rw [List.length_cons, List.length_cons]; omega
theorem esc_ge (s : List UInt8) : s.length ≤ (escL s).length := by
  induction s with
  | nil => exact Nat.le_refl _
  | cons c t ih =>
    rw [escL]
    split
    · rw [List.length_cons, List.length_cons, List.length_cons]; omega
    · rw [List.length_cons, List.length_cons]; omega
theorem close_esc (s : List UInt8) : closeS 34 false false 0 (escL s ++ [34]) = some ((escL s).length + 1) := by
  induction s with
  | nil => rfl
  | cons c t ih =>
    rw [escL]
    split
    · rw [List.cons_append, List.cons_append, closeS, if_pos rfl, closeS, ih]
      simp
    · rename_i h
      have h92 : c ≠ 92 := fun e => h (by subst e; rfl)
      have h34 : c ≠ 34 := fun e => h (by subst e; rfl)
      rw [List.cons_append, closeS, if_neg h92, if_neg h34, if_neg (by simp), ih]
      simp
/-- TokenQuotes: quoted, one token with the string as its value. -/
theorem quote_one (s : List UInt8) (h : plainA false s = false) : quoteL s = 34 :: escL s ++ [34] ∧ scanL (quoteL s) = [⟨2, quoteL s⟩] ∧ valueL ⟨2, quoteL s⟩ = s ∧ (quoteL s).length ≤ 2 * s.length + 2 ∧ s.length + 2 ≤ (quoteL s).length := by
  have e : quoteL s = 34 :: escL s ++ [34] := by unfold quoteL; rw [if_neg (by rw [h]; exact Bool.false_ne_true)]
  have e2 : (34 : UInt8) :: escL s ++ [34] = 34 :: (escL s ++ [34]) := rfl
  have hc : closeL 34 (escL s ++ [34]) = some ((escL s).length + 1) := close_esc s
  have hf : frontL (34 :: (escL s ++ [34])) = ⟨2, 34 :: (escL s ++ [34])⟩ := by
    rw [frontL, if_neg (by decide), if_pos (by decide), hc]
    show (⟨kindO 34, 34 :: (escL s ++ [34]).take ((escL s).length + 1)⟩ : Tok) = _
    rw [List.take_of_length_le (by simp)]; rfl
  rw [e, e2]
  refine ⟨rfl, ?_, ?_, ?_, ?_⟩
  · rw [scan_cons _ (by simp), hf, List.drop_length]; rfl
  · unfold valueL
    rw [if_pos ⟨.inl rfl, by simp⟩]
    show unescS false (escL s ++ [34]).dropLast = s
    rw [List.dropLast_concat, unesc_esc]
  · have := esc_len s
    simp; omega
  · have := esc_ge s
    simp; omega
end Go.Proofs.YtdinachiiimngaaGreatDoor.TokP
namespace Go.Proofs.YtdinachiiimngaaGreatDoor.TokP

theorem atom_not (c : UInt8) (h : atomB c = true) : blank c = false ∧ opens c = false ∧ special c = false ∧ c ≠ 32 := by
  unfold atomB at h
  simp only [Bool.and_eq_true, decide_eq_true_eq, bne_iff_ne, ne_eq, Bool.not_eq_true'] at h
  obtain ⟨⟨h1, _⟩, h3⟩ := h
  refine ⟨?_, ?_, h3, ?_⟩
  · unfold blank
    simp only [Bool.or_eq_false_iff, beq_eq_false_iff_ne]
    refine ⟨⟨⟨?_, ?_⟩, ?_⟩, ?_⟩
    all_goals
      intro e
      subst e
      exact absurd h1 (by decide)
  · unfold opens
    simp only [Bool.or_eq_false_iff, beq_eq_false_iff_ne]
    refine ⟨⟨?_, ?_⟩, ?_⟩
    all_goals
      intro e
      subst e
      exact absurd h3 (by decide)
  · intro e; subst e; exact absurd h1 (by decide)
theorem plain_head (s : List UInt8) (h : plainA false s = true) : ∃ c t, s = c :: t ∧ atomB c = true ∧ plainA true t = true := by
  cases s with
  | nil => exact absurd h (by decide)
  | cons c t =>
    rw [plainA] at h
    split at h
    · rename_i ha; exact ⟨c, t, rfl, ha, h⟩
    · split at h
      · rename_i hb; exact absurd hb.2 Bool.false_ne_true
      · exact absurd h Bool.false_ne_true
theorem plain_skip (s : List UInt8) (h : plainA true s = true) : plainA true (s.drop (s.takeWhile atomB).length) = true := by
  induction s with
  | nil => exact h
  | cons c t ih =>
    by_cases hc : atomB c = true
    · rw [plainA, if_pos hc] at h
      rw [List.takeWhile_cons_of_pos hc, List.length_cons, List.drop_succ_cons]
      exact ih h
    · rw [List.takeWhile_cons_of_neg hc]; exact h
/-- Atoms and single spaces by turns. -/
def Alt (l : List Tok) : Prop := l.length % 2 = 1 ∧ ∀ i t, l[i]? = some t → (i % 2 = 0 → t.kind = 1) ∧ (i % 2 = 1 → t.text = [32])
theorem alt_one (t : Tok) (h : t.kind = 1) : Alt [t] := by
  refine ⟨rfl, fun i u hu => ?_⟩
  cases i with
  | zero => obtain rfl : t = u := by simpa using hu
            exact ⟨fun _ => h, fun h => by omega⟩
  | succ i => simp at hu
theorem alt_more (t u : Tok) (l : List Tok) (h : t.kind = 1) (hu : u.text = [32]) (hl : Alt l) : Alt (t :: u :: l) := by
  refine ⟨by rw [List.length_cons, List.length_cons]; have := hl.1; omega, fun i x hx => ?_⟩
  match i with
  | 0 => obtain rfl : t = x := by simpa using hx
         exact ⟨fun _ => h, fun h => by omega⟩
  | 1 => obtain rfl : u = x := by simpa using hx
         exact ⟨fun h => by omega, fun _ => hu⟩
  | i + 2 =>
    have := hl.2 i x (by simpa using hx)
    exact ⟨fun h => this.1 (by omega), fun h => this.2 (by omega)⟩
theorem front_atom (c : UInt8) (t : List UInt8) (h : atomB c = true) : frontL (c :: t) = ⟨1, (c :: t).takeWhile atomB⟩ := by
  obtain ⟨h1, h2, h3, _⟩ := atom_not c h
  rw [frontL, if_neg (by rw [h1]; exact Bool.false_ne_true), if_neg (by rw [h2]; exact Bool.false_ne_true), if_neg (by rw [h3]; exact Bool.false_ne_true), if_pos h]
theorem plain_scan : ∀ (n : Nat) (s : List UInt8), s.length ≤ n → plainA false s = true → Alt (scanL s) := by
  intro n
  induction n with
  | zero =>
    intro s h hp
    obtain rfl : s = [] := List.eq_nil_of_length_eq_zero (by omega)
    exact absurd hp (by decide)
  | succ n ih =>
    intro s h hp
    obtain ⟨c, t, rfl, hc, ht⟩ := plain_head s hp
    have hr := plain_skip t ht
    rw [scan_cons _ (by simp), front_atom c t hc]
    show Alt (_ :: scanL ((c :: t).drop ((c :: t).takeWhile atomB).length))
    rw [List.takeWhile_cons_of_pos hc, List.length_cons, List.drop_succ_cons]
    have hn : ∀ x, (t.drop (t.takeWhile atomB).length).head? = some x → atomB x = false := fun x hx => head_drop atomB t x hx
    have hl : (t.drop (t.takeWhile atomB).length).length ≤ t.length := by rw [List.length_drop]; omega
    generalize t.drop (t.takeWhile atomB).length = r at hr hn hl
    cases r with
    | nil => exact alt_one _ rfl
    | cons x r =>
      have hx := hn x rfl
      rw [plainA, if_neg (by rw [hx]; exact Bool.false_ne_true)] at hr
      split at hr
      · rename_i hx2
        obtain rfl := hx2.1
        obtain ⟨y, u, rfl, hy, _⟩ := plain_head r hr
        have hf : frontL (32 :: y :: u) = ⟨6, [32]⟩ := by
          rw [frontL, if_pos (by decide), List.takeWhile_cons_of_pos (by decide), List.takeWhile_cons_of_neg (by rw [(atom_not y hy).1]; exact Bool.false_ne_true)]
        rw [scan_cons (32 :: y :: u) (by simp), hf]
        refine alt_more _ _ _ rfl rfl (ih _ ?_ hr)
        show (y :: u).length ≤ n
        rw [List.length_cons] at h hl
        omega
      · exact absurd hr Bool.false_ne_true
theorem plain_alt (s : List UInt8) (h : plainA false s = true) : quoteL s = s ∧ Alt (scanL s) := ⟨by unfold quoteL; rw [if_pos h], plain_scan s.length s (Nat.le_refl _) h⟩
theorem quote_same (s : List UInt8) : quoteL s = s ↔ plainA false s = true := by
  by_cases h : plainA false s = true
  · exact ⟨fun _ => h, fun _ => (plain_alt s h).1⟩
  · refine ⟨fun e => ?_, fun e => absurd e h⟩
    have := (quote_one s (by simpa using h)).2.2.2.2
    rw [e] at this
    omega
/-- What the reference asks of each byte. -/
def goodAt (w : List UInt8) (i : Nat) : Prop := ∃ c, w[i]? = some c ∧ (atomB c = true ∨ (c = 32 ∧ 0 < i ∧ i + 1 < w.length ∧ (∃ p, w[i - 1]? = some p ∧ p ≠ 32) ∧ ∃ q, w[i + 1]? = some q ∧ q ≠ 32))
theorem plain_good : ∀ (s pre : List UInt8) (b : Bool), (b = true → ∃ p, pre.getLast? = some p ∧ p ≠ 32) → (b = false → ∀ p, pre.getLast? = some p → p = 32) →
    (plainA b s = true ↔ (s = [] → b = true) ∧ ∀ i, pre.length ≤ i → i < (pre ++ s).length → goodAt (pre ++ s) i) := by
  intro s
  induction s with
  | nil =>
    intro pre b h1 h2
    rw [List.append_nil]
    have e : plainA b [] = b := by cases b <;> rfl
    rw [e]
    exact ⟨fun h => ⟨fun _ => h, fun i hi hj => by omega⟩, fun h => h.1 rfl⟩
  | cons c t ih =>
    intro pre b h1 h2
    have hsplit : pre ++ c :: t = (pre ++ [c]) ++ t := by simp
    have hat : (pre ++ c :: t)[pre.length]? = some c := by simp
    have hlast : (pre ++ [c]).getLast? = some c := by simp
    have key : (∀ i, pre.length ≤ i → i < (pre ++ c :: t).length → goodAt (pre ++ c :: t) i) ↔ goodAt (pre ++ c :: t) pre.length ∧ ∀ i, (pre ++ [c]).length ≤ i → i < ((pre ++ [c]) ++ t).length → goodAt ((pre ++ [c]) ++ t) i := by
      rw [← hsplit, @List.length_append _ pre [c]]
      constructor
      · intro h
        exact ⟨h _ (Nat.le_refl _) (by simp), fun i hi hj => h i (by omega) hj⟩
      · rintro ⟨h3, h4⟩ i hi hj
        by_cases he : i = pre.length
        · rw [he]; exact h3
        · exact h4 i (by simp; omega) hj
    rw [key]
    by_cases hc : atomB c = true
    · have hih := ih (pre ++ [c]) true (fun _ => ⟨c, hlast, (atom_not c hc).2.2.2⟩) (fun h => Bool.noConfusion h)
      rw [plainA, if_pos hc, hih]
      exact ⟨fun h => ⟨fun e => (List.cons_ne_nil _ _ e).elim, ⟨c, hat, .inl hc⟩, h.2⟩, fun h => ⟨fun _ => rfl, h.2.2⟩⟩
    · rw [plainA, if_neg hc]
      by_cases h32 : c = 32
      · subst h32
        have hih := ih (pre ++ [32]) false (fun h => Bool.noConfusion h) (fun _ p hp => by rw [hlast] at hp; exact (Option.some.inj hp).symm)
        cases b with
        | true =>
          rw [if_pos ⟨rfl, rfl⟩]
          obtain ⟨p, hp, hp2⟩ := h1 rfl
          constructor
          · intro h
            refine ⟨fun _ => rfl, ?_, (hih.1 h).2⟩
            obtain ⟨y, u, rfl, hy, _⟩ := plain_head t h
            have hpos : 0 < pre.length := by cases pre with | nil => simp at hp | cons _ _ => simp
            refine ⟨32, hat, .inr ⟨rfl, hpos, by simp, ⟨p, ?_, hp2⟩, y, ?_, (atom_not y hy).2.2.2⟩⟩
            · rw [List.getElem?_append_left (by omega), ← List.getLast?_eq_getElem?]; exact hp
            · rw [List.getElem?_append_right (by omega)]; simp
          · rintro ⟨_, ⟨c', hc', h3⟩, h4⟩
            rw [hat] at hc'
            obtain rfl := Option.some.inj hc'
            refine hih.2 ⟨fun e => ?_, h4⟩
            rcases h3 with h3 | ⟨_, _, h5, _⟩
            · exact absurd h3 hc
            · subst e; simp at h5
        | false =>
          rw [if_neg (by simp)]
          refine ⟨fun h => absurd h Bool.false_ne_true, ?_⟩
          rintro ⟨_, ⟨c', hc', h3⟩, _⟩
          rw [hat] at hc'
          obtain rfl := Option.some.inj hc'
          rcases h3 with h3 | ⟨_, h5, _, ⟨p, hp, hp2⟩, _⟩
          · exact absurd h3 hc
          · rw [List.getElem?_append_left (by omega), ← List.getLast?_eq_getElem?] at hp
            exact absurd (h2 rfl p hp) hp2
      · rw [if_neg (fun e => h32 e.1)]
        refine ⟨fun h => absurd h Bool.false_ne_true, ?_⟩
        rintro ⟨_, ⟨c', hc', h3⟩, _⟩
        rw [hat] at hc'
        obtain rfl := Option.some.inj hc'
        rcases h3 with h3 | ⟨h5, _⟩
        · exact absurd h3 hc
        · exact absurd h5 h32
theorem plain_all (s : List UInt8) : plainA false s = true ↔ s ≠ [] ∧ ∀ i, i < s.length → goodAt s i := by
  have := plain_good s [] false (fun h => Bool.noConfusion h) (fun _ p hp => by simp at hp)
  rw [this, List.nil_append]
  exact ⟨fun h => ⟨fun e => Bool.noConfusion (h.1 e), fun i hi => h.2 i (Nat.zero_le _) hi⟩, fun h => ⟨fun e => absurd e h.1, fun i _ hi => h.2 i hi⟩⟩
end Go.Proofs.YtdinachiiimngaaGreatDoor.TokP
namespace Go.Proofs.YtdinachiiimngaaGreatDoor
open Go.ChangeShapes Go.WideShapes Go.ChangeAt Go.RowKit

theorem byte_is (c : UInt8) (x : Nat) (hx : c.toNat = x) (n : Nat) (hn : n < 256) : ((x : Int) == (n : Int)) = decide (c = UInt8.ofNat n) := by
  rw [Bool.eq_iff_iff, beq_iff_eq, decide_eq_true_iff]
  constructor
  · intro h
    refine UInt8.toNat_inj.1 ?_
    rw [hx, UInt8.toNat_ofNat']; omega
  · intro h
    rw [h, UInt8.toNat_ofNat'] at hx
    omega
theorem byte_back (c : UInt8) (x : Nat) (hx : c.toNat = x) : ((x : Int).toNat).toUInt8 = c := by
  subst hx
  simp
theorem index_in (l : List UInt8) (c : UInt8) : decide (0 ≤ Lib.indexByte l c) = l.contains c := by
  induction l with
  | nil => rfl
  | cons b t ih =>
    rw [Lib.indexByte, List.contains_cons]
    have hg := Lib.indexByte_ge t c
    by_cases hb : b = c
    · subst hb; simp
    · have h1 : (b == c) = false := beq_eq_false_iff_ne.2 hb
      have h2 : (c == b) = false := beq_eq_false_iff_ne.2 (fun e => hb e.symm)
      rw [h1, h2, if_neg (by simp), Bool.false_or, ← ih]
      by_cases h3 : Lib.indexByte t c = -1
      · rw [h3]; simp
      · have : (Lib.indexByte t c == -1) = false := beq_eq_false_iff_ne.2 h3
        rw [this, if_neg (by simp), Bool.eq_iff_iff, decide_eq_true_iff, decide_eq_true_iff]
        omega
theorem blank_in (c : UInt8) : ([9, 10, 13, 32] : List UInt8).contains c = TokP.blank c := by
  unfold TokP.blank
  simp only [List.contains_cons, List.contains_nil, Bool.or_false, Bool.or_assoc]
theorem white_list : (⟨#[9, 10, 13, 32]⟩ : ByteArray).data.toList = [9, 10, 13, 32] := rfl
theorem spec_list : (⟨#[40, 41, 60, 62, 91, 93, 58, 59, 64, 92, 44, 46, 34]⟩ : ByteArray).data.toList = [40, 41, 60, 62, 91, 93, 58, 59, 64, 92, 44, 46, 34] := rfl
theorem isWhite_any (c : UInt8) (x : Nat) (hx : c.toNat = x) (w : World) :
    Calls Tryz.prog 136 #[.int .u8 x] w fun e w' => e = .returned (.bool (TokP.blank c)) ∧ w = w' := by
  have cI := Tryz.strings_IndexByte ⟨#[9, 10, 13, 32]⟩ x
  rw [byte_back c x hx, white_list] at cI
  have hi := index_in [9, 10, 13, 32] c
  rw [blank_in] at hi
  generalize Lib.indexByte [9, 10, 13, 32] c = i at cI hi
  generalize TokP.blank c = r at hi ⊢
  clear hx
  subst hi
  go_enter Tryz.func136, Tryz.ntmps136
  go_wp2_with (go_at_call 67; refine (cI _).mono ?_; rintro e w' ⟨rfl, rfl⟩)
  go_ret
  exact ⟨rfl, rfl⟩
theorem isSpecial_any (c : UInt8) (x : Nat) (hx : c.toNat = x) (w : World) :
    Calls Tryz.prog 139 #[.int .u8 x] w fun e w' => e = .returned (.bool (TokP.special c)) ∧ w = w' := by
  have cI := Tryz.strings_IndexByte ⟨#[40, 41, 60, 62, 91, 93, 58, 59, 64, 92, 44, 46, 34]⟩ x
  rw [byte_back c x hx, spec_list] at cI
  have hi : decide (0 ≤ Lib.indexByte [40, 41, 60, 62, 91, 93, 58, 59, 64, 92, 44, 46, 34] c) = TokP.special c := index_in [40, 41, 60, 62, 91, 93, 58, 59, 64, 92, 44, 46, 34] c
  generalize Lib.indexByte [40, 41, 60, 62, 91, 93, 58, 59, 64, 92, 44, 46, 34] c = i at cI hi
  generalize TokP.special c = r at hi ⊢
  clear hx
  subst hi
  go_enter Tryz.func139, Tryz.ntmps139
  go_wp2_with (go_at_call 67; refine (cI _).mono ?_; rintro e w' ⟨rfl, rfl⟩)
  go_ret
  exact ⟨rfl, rfl⟩
theorem ne127 (c : UInt8) (x : Nat) (hx : c.toNat = x) : ((x : Int) == 127) = decide (c = 127) := byte_is c x hx 127 (by decide)
theorem isAtom_any (c : UInt8) (x : Nat) (hx : c.toNat = x) (w : World) :
    Calls Tryz.prog 140 #[.int .u8 x] w fun e w' => e = .returned (.bool (TokP.atomB c)) ∧ w = w' := by
  have cS := isSpecial_any c x hx
  have e1 := ne127 c x hx
  unfold TokP.atomB
  rw [hx]
  by_cases h1 : 32 < x
  · have h1' : (32 : Int) < x := by omega
    by_cases h2 : c = 127
    · have hx2 : x = 127 := by rw [← hx, h2]; rfl
      rw [decide_eq_true h1, show (c != 127) = false by rw [h2]; rfl]
      clear hx cS h2 e1
      subst hx2
      go_enter Tryz.func140, Tryz.ntmps140
      go_wp2_with fail
      go_ret
      exact ⟨rfl, rfl⟩
    · have hx2 : ¬ (x : Int) = 127 := by
        rw [decide_eq_false h2] at e1
        exact beq_eq_false_iff_ne.1 e1
      rw [decide_eq_true h1, show (c != 127) = true by simpa using h2]
      clear hx h2 e1
      go_enter Tryz.func140, Tryz.ntmps140
      go_wp2_with (go_at_call 139; refine (cS _).mono ?_; rintro e w' ⟨rfl, rfl⟩)
      go_ret
      exact ⟨by simp; exact fun _ => hx2, rfl⟩
  · have h1' : ¬ (32 : Int) < x := by omega
    rw [decide_eq_false h1]
    clear hx cS e1
    go_enter Tryz.func140, Tryz.ntmps140
    go_wp2_with fail
    go_ret
    exact ⟨rfl, rfl⟩
theorem eq_byte (b c : UInt8) (y x : Nat) (hy : b.toNat = y) (hx : c.toNat = x) : ((y : Int) == (x : Int)) = decide (b = c) := by
  rw [Bool.eq_iff_iff, beq_iff_eq, decide_eq_true_iff]
  constructor
  · intro h; exact UInt8.toNat_inj.1 (by omega)
  · intro h; rw [← hy, ← hx, h]
/-! ### A byte of a string, as a list has it -/
theorem byte_at (s : ByteArray) (k : Nat) (h : k < s.size) : ∃ c : UInt8, s.data.toList[k]? = some c ∧ (s[k]'h) = c := by
  refine ⟨s[k]'h, ?_, rfl⟩
  rw [List.getElem?_eq_getElem (by rw [← size_list]; exact h)]; rfl
/-- The k-th byte as the walk reads it. -/
theorem run_byte (s : ByteArray) (k : Nat) (h : k < s.size) : ∃ (c : UInt8) (x : Nat), s.data.toList[k]? = some c ∧ c.toNat = x ∧ x < 256 ∧ ∀ W : World, (Instr.index 9 (.string s) (.int .i64 k)).run Tryz.prog W = .ok (.int .u8 x) W := by
  obtain ⟨c, h1, h2⟩ := byte_at s k h
  refine ⟨c, c.toNat, h1, rfl, c.toNat_lt, fun W => ?_⟩
  rw [← h2]
  exact run_index_str s k k rfl h W
theorem run_byte0 (s : ByteArray) (h : 0 < s.size) : ∃ (c : UInt8) (x : Nat) (t : List UInt8), s.data.toList = c :: t ∧ c.toNat = x ∧ x < 256 ∧ ∀ W : World, (Instr.index 9 (.string s) (.int .i64 0)).run Tryz.prog W = .ok (.int .u8 x) W := by
  obtain ⟨c, x, h1, h2, h3, h4⟩ := run_byte s 0 h
  cases hl : s.data.toList with
  | nil => rw [hl] at h1; simp at h1
  | cons d t =>
    rw [hl] at h1
    obtain rfl : d = c := by simpa using h1
    exact ⟨d, x, t, rfl, h2, h3, h4⟩
theorem cons_at (l : List UInt8) (i : Nat) (c : UInt8) (h : l[i]? = some c) : l.drop i = c :: l.drop (i + 1) := by
  obtain ⟨h1, h2⟩ := List.getElem?_eq_some_iff.1 h
  rw [List.drop_eq_getElem_cons h1, h2]
end Go.Proofs.YtdinachiiimngaaGreatDoor
namespace Go.Proofs.YtdinachiiimngaaGreatDoor
open Go.ChangeShapes Go.WideShapes Go.ChangeAt Go.RowKit
open TokP

theorem add_none (g o j : Nat) : (⟨g, o, none⟩ : Addr).add j = ⟨g, o + j, none⟩ := by unfold Addr.add; split <;> simp_all
def tokV (t : Tok) : List Value := [.int .i64 (t.kind : Nat), .string (strL t.text)]
def toksV (l : List Tok) : List Value := l.flatMap tokV
theorem toksV_len (l : List Tok) : (toksV l).length = l.length * 2 := by
  unfold toksV
  induction l with
  | nil => rfl
  | cons m l ih => rw [List.flatMap_cons, List.length_append, ih, List.length_cons]; simp [tokV]; omega
theorem toksV_app (a b : List Tok) : toksV a ++ toksV b = toksV (a ++ b) := by unfold toksV; rw [List.flatMap_append]
theorem toksV_one (f : Tok) : toksV [f] = tokV f := by unfold toksV; simp
theorem toksV_at : ∀ (l : List Tok) (i : Nat) (f : Tok), l[i]? = some f → ∀ j, j < 2 → (toksV l)[i * 2 + j]? = (tokV f)[j]?
  | [], i, m, h => by simp at h
  | x :: l, 0, m, h => by
    simp at h
    subst h
    intro j hj
    rw [show toksV (x :: l) = tokV x ++ toksV l by unfold toksV; rw [List.flatMap_cons], Nat.zero_mul, Nat.zero_add, List.getElem?_append_left (by simp [tokV]; exact hj)]
  | x :: l, i + 1, m, h => by
    intro j hj
    have ih := toksV_at l i m (by simpa using h) j hj
    rw [show toksV (x :: l) = tokV x ++ toksV l by unfold toksV; rw [List.flatMap_cons], List.getElem?_append_right (by simp [tokV]; omega)]
    have e1 : (i + 1) * 2 + j - (tokV x).length = i * 2 + j := by simp [tokV]; omega
    rw [e1]
    exact ih
theorem tokV_one (f : Tok) : ∀ u ∈ tokV f, u.oneCell' = true := by
  intro u hu
  simp [tokV] at hu
  rcases hu with rfl | rfl <;> rfl
theorem toksV_ones (l : List Tok) : ∀ u ∈ toksV l, u.oneCell' = true := by
  intro u hu
  obtain ⟨f, _, hf⟩ := List.mem_flatMap.1 hu
  exact tokV_one f u hf
/-- The tokens l lie at g, from cell o on. -/
def FAt (w : World) (g o : Nat) (l : List Tok) : Prop := ∀ i f, l[i]? = some f → w.cell? ⟨g, o + i * 2, none⟩ = some (.int .i64 (f.kind : Nat)) ∧ w.cell? ⟨g, o + i * 2 + 1, none⟩ = some (.string (strL f.text))
def OwnF (w : World) (v : Value) (l : List Tok) : Prop := ∃ base, w.ownsRow base 89 2 v l.length (toksV l)
/-- The slice v reads as l. -/
def HasF (w : World) (v : Value) (l : List Tok) : Prop := (v = .slice none 0 0 ∧ l = []) ∨ ∃ g o c, v = .slice (some ⟨g, o, none⟩) l.length c ∧ FAt w g o l
theorem OwnF.step {w w' : World} {v : Value} {xs : List Tok} (h : OwnF w v xs) (hb : Below w.heap.size w w') : OwnF w' v xs := by
  obtain ⟨b, ho⟩ := h; exact ⟨b, own_below ho hb⟩
theorem OwnF.shape {w : World} {v : Value} {xs : List Tok} (h : OwnF w v xs) : ∃ a c, v = .slice a xs.length c := by
  obtain ⟨b, ho⟩ := h
  rcases ho.2 with ⟨rfl, h0⟩ | ⟨g, cap, cur, rfl, _⟩
  · exact ⟨none, 0, by rw [h0]⟩
  · exact ⟨_, _, rfl⟩
theorem OwnF.at {w : World} {a : Option Addr} {n c : Nat} {xs : List Tok} (h : OwnF w (.slice a n c) xs) (hn : 0 < n) : ∃ g, a = some ⟨g, 0, none⟩ ∧ FAt w g 0 xs := by
  obtain ⟨b, ho⟩ := h
  rcases ho.2 with ⟨e, h0⟩ | ⟨g, cap, cur, e, _⟩
  · injection e with _ e2 _; omega
  · have e' := e
    injection e with e1 _ _
    subst e1
    refine ⟨g, rfl, fun i f hf => ?_⟩
    have key : ∀ j u, j < 2 → (tokV f)[j]? = some u → w.cell? ⟨g, 0 + i * 2 + j, none⟩ = some u := fun j u hj hu => by
      have := ho.cells (g := g) rfl (i * 2 + j) u (by rw [toksV_at xs i f hf j hj]; exact hu)
      rwa [add_none, ← Nat.add_assoc] at this
    exact ⟨key 0 _ (by decide) rfl, key 1 _ (by decide) rfl⟩
theorem OwnF.has {w : World} {v : Value} {xs : List Tok} (h : OwnF w v xs) : HasF w v xs := by
  obtain ⟨a, c, rfl⟩ := h.shape
  by_cases hn : 0 < xs.length
  · obtain ⟨g, rfl, hf⟩ := h.at hn
    exact .inr ⟨g, 0, c, rfl, hf⟩
  · obtain rfl : xs = [] := List.eq_nil_of_length_eq_zero (by omega)
    obtain ⟨b, ho⟩ := h
    rcases ho.2 with ⟨e, _⟩ | ⟨g, cap, cur, e, _⟩
    · exact .inl ⟨e, rfl⟩
    · exact .inr ⟨g, 0, _, e, fun i f hf => by simp at hf⟩
theorem FAt.drop {w : World} {g o : Nat} {f : Tok} {l : List Tok} (h : FAt w g o (f :: l)) : FAt w g (o + 2) l := by
  intro i x hx
  have := h (i + 1) x (by simpa using hx)
  rwa [show o + (i + 1) * 2 = o + 2 + i * 2 by omega] at this
theorem FAt.lt {w : World} {g o : Nat} {l : List Tok} (h : FAt w g o l) (hl : l ≠ []) : g < w.heap.size := by
  cases l with
  | nil => exact absurd rfl hl
  | cons f r => exact World.block_lt_of_cell? w _ (h 0 f rfl).1
theorem FAt.keep {w w' : World} {g o : Nat} {l : List Tok} (h : FAt w g o l) (hk : w'.heap[g]? = w.heap[g]?) : FAt w' g o l := by
  intro i f hf
  obtain ⟨h1, h2⟩ := h i f hf
  exact ⟨by rw [World.cell?_of_block (by exact hk)]; exact h1, by rw [World.cell?_of_block (by exact hk)]; exact h2⟩
theorem FAt.step {w w' : World} {g o : Nat} {l : List Tok} (h : FAt w g o l) (hb : Below w.heap.size w w') : FAt w' g o l := by
  by_cases hl : l = []
  · subst hl; intro i f hf; simp at hf
  · exact h.keep (hb.block g (h.lt hl))
theorem HasF.step {w w' : World} {v : Value} {l : List Tok} (h : HasF w v l) (hb : Below w.heap.size w w') : HasF w' v l := by
  rcases h with h | ⟨g, o, c, rfl, h⟩
  · exact .inl h
  · exact .inr ⟨g, o, c, rfl, h.step hb⟩
theorem news_tok (w : World) (f : Tok) : ∀ j u, (tokV f)[j]? = some u → (w.alloc (.cells (tokV f).toArray 89)).cell? ((⟨w.heap.size, 0, none⟩ : Addr).add j) = some u := by
  intro j u h
  have := World.cell?_alloc_mark w (tokV f).toArray 89 (0, 0) j
  rw [add_none, Nat.zero_add, this, List.getElem?_toArray]; exact h
theorem info23 : (Tryz.prog.info? 89).map (fun i => (i.zero, i.size, i.bytes)) = some (some (.agg #[.int .i64 0, .string ⟨#[]⟩]), 2, 24) := by kernel_rfl
/-- A token is appended. -/
theorem run_appF {w : World} (base : Nat) {v : Value} {xs : List Tok} (f : Tok) (hown : w.ownsRow base 89 2 v xs.length (toksV xs)) (hb : base ≤ w.heap.size) (hl : xs.length ≤ 4000000) :
    ∃ a c w', (Builtin.append_ #[55, 55] 55 #[v, .slice (some ⟨w.heap.size, 0, none⟩) 1 1]).run Tryz.prog (w.alloc (.cells #[.int .i64 (f.kind : Nat), .string (strL f.text)] 89)) = .ok (.slice a (xs.length + 1) c) w' ∧
      w'.ownsRow base 89 2 (.slice a (xs.length + 1) c) (xs ++ [f]).length (toksV (xs ++ [f])) ∧ (w.alloc (.cells #[.int .i64 (f.kind : Nat), .string (strL f.text)] 89)).grownBy w' v.ownBlock := by
  obtain ⟨i0, hi, hz0, hz1, hz2⟩ := info_parts info23
  obtain ⟨v', w', hr, h1, h2, _⟩ := run_append_own (P := Tryz.prog) (w.alloc (.cells (tokV f).toArray 89)) base 55 55 89 i0 _ 2 24 Tryz.underlying55 hi hz0 hz1 hz2 rfl (by decide) v xs.length _ (World.ownsRow.alloc hown _) ⟨w.heap.size, 0, none⟩ 1 1 (tokV f) rfl (news_tok w f) (tokV_one f) (by unfold maxLen; omega) (by omega) (by rw [World.size_alloc]; omega)
  rw [← toksV_one, toksV_app, ← List.length_singleton (a := f), ← List.length_append] at h1
  obtain ⟨a, c, rfl⟩ : ∃ a c, v' = .slice a (xs.length + 1) c := by
    rcases h1.2 with ⟨rfl, h0⟩ | ⟨g, cap, cur, rfl, _⟩
    · simp at h0
    · exact ⟨_, _, by rw [List.length_append]; rfl⟩
  exact ⟨a, c, w', hr, h1, h2⟩
theorem wpList_appF {ops : Array Oper} {rest : List Oper} {o : Oper} {a : Act} {w : World} {Q : Exit → Act → World → Prop} (hw : Region.wanted o (yielded ops a.tmps) = true) (s x : Operand)
    (ho : o.op = .call { callee := .builtin .append, args := #[s, x], argTypes := #[55, 55] }) (hty : o.type = 55) (base : Nat) {v : Value} {xs : List Tok} {n : Nat} (f : Tok) (hs : a.eval s = v) (hx : a.eval x = .slice (some ⟨w.heap.size, 0, none⟩) 1 1)
    (hown : w.ownsRow base 89 2 v xs.length (toksV xs)) (hn : xs.length = n) (hb : base ≤ w.heap.size) (hl : n ≤ 4000000)
    (h : ∀ a' c' w', w'.ownsRow base 89 2 (.slice a' (n + 1) c') (xs ++ [f]).length (toksV (xs ++ [f])) → (w.alloc (.cells #[.int .i64 (f.kind : Nat), .string (strL f.text)] 89)).grownBy w' v.ownBlock → wpList Tryz.prog ops Q rest (a.put o.dst (.slice a' (n + 1) c')) w') :
    wpList Tryz.prog ops Q (o :: rest) a (w.alloc (.cells #[.int .i64 (f.kind : Nat), .string (strL f.text)] 89)) := by
  subst hn
  obtain ⟨a', c', w', hr, h1, h2⟩ := run_appF base f hown hb hl
  unfold wpList
  rw [if_pos hw]
  left
  unfold Oper.wp
  simp [execOp, ho, hty, resolve, invoke, builtin, hs, hx, hr, Result.andThen]
  exact h a' c' w' h1 h2
/-- Tokens are compared part by part. -/
theorem tok_ext {f g : Tok} (h1 : f.kind = g.kind) (h2 : f.text = g.text) : f = g := by
  cases f; cases g; simp_all
theorem tok_iff (f g : Tok) : (decide (f = g)) = (((f.kind : Nat) : Int) == (g.kind : Nat) && (strL f.text).toList == (strL g.text).toList) := by
  rw [eq_strL, Bool.eq_iff_iff]
  simp only [Bool.and_eq_true, decide_eq_true_iff, beq_iff_eq]
  exact ⟨fun h => by rw [h]; exact ⟨rfl, rfl⟩, fun h => tok_ext (by omega) h.2⟩
theorem run_equal_tok (f g : Tok) (W : World) : (Op.equalIn 10000 89 (.agg #[.int .i64 (f.kind : Nat), .string (strL f.text)]) (.agg #[.int .i64 (g.kind : Nat), .string (strL g.text)])).run Tryz.prog W = .ok (decide (f = g)) W := by
  rw [tok_iff]
  generalize strL f.text = a1
  generalize strL g.text = b1
  generalize ((f.kind : Nat) : Int) = a2
  generalize ((g.kind : Nat) : Int) = b2
  go_simp
  cases h1 : (a1.toList == b1.toList) <;> cases h2 : (a2 == b2) <;> simp_all
theorem run_neq_tok (f g : Tok) (W : World) : (binOp .neq 89 (.agg #[.int .i64 (f.kind : Nat), .string (strL f.text)]) (.agg #[.int .i64 (g.kind : Nat), .string (strL g.text)])).run Tryz.prog W = .ok (.bool (!decide (f = g))) W := by
  rw [run_neq_struct, run_equal_tok]; rfl
theorem join_step (l : List Tok) (k : Nat) (f : Tok) (h : l[k]? = some f) : joinL (l.take (k + 1)) = joinL (l.take k) ++ f.text := by
  unfold joinL
  rw [List.take_add_one, h]; simp
theorem join_le (l : List Tok) (k : Nat) : (joinL (l.take k)).length ≤ (joinL l).length := by
  have : joinL l = joinL (l.take k) ++ joinL (l.drop k) := by unfold joinL; rw [← List.flatten_append, ← List.map_append, List.take_append_drop]
  rw [this, List.length_append]; omega
theorem text_le (l : List Tok) (k : Nat) (f : Tok) (h : l[k]? = some f) : (joinL (l.take k)).length + f.text.length ≤ (joinL l).length := by
  rw [← List.length_append, ← join_step l k f h]; exact join_le l (k + 1)
end Go.Proofs.YtdinachiiimngaaGreatDoor
namespace Go.Proofs.YtdinachiiimngaaGreatDoor.TokP

/-- No byte that p holds of stands first. -/
def HeadNot (p : UInt8 → Bool) (b : List UInt8) : Prop := ∀ c r, b = c :: r → p c = false
/-- A comment, a quoted string or a literal that is not closed. -/
def Unclosed (t : Tok) : Prop := t.kind = 7 ∧ ∃ c r, t.text = c :: r ∧ opens c = true
theorem headNot_nil (p : UInt8 → Bool) : HeadNot p [] := fun _ _ h => absurd h (by simp)
theorem headNot_cons {p : UInt8 → Bool} {c : UInt8} (r : List UInt8) (h : p c = false) : HeadNot p (c :: r) := fun d s e => by
  obtain ⟨rfl, _⟩ := List.cons.inj e
  exact h
theorem while_all {p : UInt8 → Bool} {a b : List UInt8} (h : a.takeWhile p = a) (hb : HeadNot p b) : (a ++ b).takeWhile p = a := by
  induction a with
  | nil =>
    cases b with
    | nil => rfl
    | cons c r => rw [List.nil_append, List.takeWhile_cons_of_neg (by rw [hb c r rfl]; exact Bool.false_ne_true)]
  | cons c t ih =>
    by_cases hc : p c = true
    · rw [List.takeWhile_cons_of_pos hc] at h
      rw [List.cons_append, List.takeWhile_cons_of_pos hc, ih (List.cons.inj h).2]
    · rw [List.takeWhile_cons_of_neg hc] at h
      exact absurd h (by simp)
theorem front_app2 (a b : List UInt8) (ha : a ≠ []) (h6 : (frontL a).kind = 6 → HeadNot blank b) (h1 : (frontL a).kind = 1 → HeadNot atomB b) (h7 : ¬ Unclosed (frontL a)) : frontL (a ++ b) = frontL a := by
  by_cases hlt : (frontL a).text.length < a.length
  · exact front_app a b ha (.inl hlt)
  · have hle := front_le a
    have htx : (frontL a).text = a := by
      have h := front_pre a
      rw [List.drop_eq_nil_of_le (by omega), List.append_nil] at h
      exact h
    cases a with
    | nil => exact absurd rfl ha
    | cons c t =>
      by_cases hb : blank c = true
      · have e : frontL (c :: t) = ⟨6, (c :: t).takeWhile blank⟩ := by rw [frontL, if_pos hb]
        rw [e] at htx h6
        have h6 := h6 rfl
        have : frontL (c :: t ++ b) = ⟨6, (c :: t ++ b).takeWhile blank⟩ := by rw [List.cons_append, frontL, if_pos hb]
        rw [this, e, while_all htx h6]
        exact congrArg (Tok.mk 6) htx.symm
      · by_cases ho : opens c = true
        · cases hc : closeL c t with
          | none =>
            have e : frontL (c :: t) = ⟨7, c :: t⟩ := by rw [frontL, if_neg hb, if_pos ho, hc]
            rw [e] at h7
            exact absurd ⟨rfl, c, t, rfl, ho⟩ h7
          | some n =>
            have e : frontL (c :: t) = ⟨kindO c, c :: t.take n⟩ := by rw [frontL, if_neg hb, if_pos ho, hc]
            refine front_app _ b ha (.inr ?_)
            rw [e]
            show kindO c ≠ 6 ∧ kindO c ≠ 1 ∧ kindO c ≠ 7
            unfold kindO
            repeat' split
            all_goals decide
        · by_cases hs : special c = true
          · rw [List.cons_append, frontL, frontL, if_neg hb, if_neg ho, if_pos hs, if_neg hb, if_neg ho, if_pos hs]
          · by_cases h4 : atomB c = true
            · have e : frontL (c :: t) = ⟨1, (c :: t).takeWhile atomB⟩ := by rw [frontL, if_neg hb, if_neg ho, if_neg hs, if_pos h4]
              rw [e] at htx h1
              have h1 := h1 rfl
              have : frontL (c :: t ++ b) = ⟨1, (c :: t ++ b).takeWhile atomB⟩ := by rw [List.cons_append, frontL, if_neg hb, if_neg ho, if_neg hs, if_pos h4]
              rw [this, e, while_all htx h1]
              exact congrArg (Tok.mk 1) htx.symm
            · rw [List.cons_append, frontL, frontL, if_neg hb, if_neg ho, if_neg hs, if_neg h4, if_neg hb, if_neg ho, if_neg hs, if_neg h4]
/-- What follows a string whose last token cannot go on. -/
def Ends (t : Tok) (b : List UInt8) : Prop := (t.kind = 6 → HeadNot blank b) ∧ (t.kind = 1 → HeadNot atomB b) ∧ ¬ Unclosed t
theorem scan_app (a b : List UInt8) (h : ∀ t, (scanL a).getLast? = some t → Ends t b) : scanL (a ++ b) = scanL a ++ scanL b := by
  induction a using scan_ind with
  | h0 => rfl
  | h1 a ha ih =>
    have hl := front_le a
    have hf : frontL (a ++ b) = frontL a := by
      by_cases hr : a.drop (frontL a).text.length = []
      · obtain ⟨e1, e2, e3⟩ := h (frontL a) (by rw [scan_cons a ha, hr]; rfl)
        exact front_app2 a b ha e1 e2 e3
      · have h1 := List.length_pos_iff.2 hr
        rw [List.length_drop] at h1
        exact front_app a b ha (.inl (by omega))
    have hd : (a ++ b).drop (frontL a).text.length = a.drop (frontL a).text.length ++ b := List.drop_append_of_le_length hl
    rw [scan_cons (a ++ b) (by simp [ha]), hf, hd, scan_cons a ha, ih ?_, List.cons_append]
    intro t ht
    refine h t ?_
    rw [scan_cons a ha, List.getLast?_cons, ht]; rfl
/-- An unclosed token is the last. -/
def LastU : List Tok → Prop
  | [] => True
  | t :: r => (Unclosed t → r = []) ∧ LastU r
theorem front_unclosed (s : List UInt8) (h : Unclosed (frontL s)) : s.drop (frontL s).text.length = [] := by
  cases s with
  | nil => rfl
  | cons c t =>
    obtain ⟨h7, d, r, hd, ho⟩ := h
    by_cases hb : blank c = true
    · rw [frontL, if_pos hb] at h7; simp at h7
    · by_cases hoc : opens c = true
      · cases hc : closeL c t with
        | none =>
          have e : frontL (c :: t) = ⟨7, c :: t⟩ := by rw [frontL, if_neg hb, if_pos hoc, hc]
          rw [e, List.drop_length]
        | some n =>
          have e : frontL (c :: t) = ⟨kindO c, c :: t.take n⟩ := by rw [frontL, if_neg hb, if_pos hoc, hc]
          rw [e] at h7
          unfold kindO at h7
          dsimp only at h7
          repeat' split at h7
          all_goals exact absurd h7 (by decide)
      · by_cases hs : special c = true
        · rw [frontL, if_neg hb, if_neg hoc, if_pos hs] at h7; simp at h7
        · by_cases h4 : atomB c = true
          · rw [frontL, if_neg hb, if_neg hoc, if_neg hs, if_pos h4] at h7; simp at h7
          · have e : frontL (c :: t) = ⟨7, [c]⟩ := by rw [frontL, if_neg hb, if_neg hoc, if_neg hs, if_neg h4]
            rw [e] at hd
            obtain ⟨rfl, _⟩ := List.cons.inj hd
            exact absurd ho hoc
theorem scan_last (s : List UInt8) : LastU (scanL s) := by
  induction s using scan_ind with
  | h0 => trivial
  | h1 s hs ih =>
    rw [scan_cons s hs]
    exact ⟨fun h => by rw [front_unclosed s h]; rfl, ih⟩
theorem last_filter (p : Tok → Bool) : ∀ l : List Tok, LastU l → LastU (l.filter p)
  | [], _ => trivial
  | t :: r, h => by
    rw [List.filter_cons]
    split
    · exact ⟨fun hu => by rw [h.1 hu]; rfl, last_filter p r h.2⟩
    · exact last_filter p r h.2
end Go.Proofs.YtdinachiiimngaaGreatDoor.TokP
namespace Go.Proofs.YtdinachiiimngaaGreatDoor.AdrP
open TokP

structure Adr where
  name : List UInt8
  loc : List UInt8
  dom : List UInt8
deriving DecidableEq
/-- The token is the special c. -/
def isS (t : Tok) (c : UInt8) : Bool := t.kind == 4 && t.text == [c]
theorem isS_iff (t : Tok) (c : UInt8) : isS t c = true ↔ t = ⟨4, [c]⟩ := by
  unfold isS
  rw [Bool.and_eq_true, beq_iff_eq, beq_iff_eq]
  constructor
  · rintro ⟨h1, h2⟩; cases t; simp_all
  · rintro rfl; exact ⟨rfl, rfl⟩
theorem isS_ne {t : Tok} {c d : UInt8} (h : isS t c = true) (hd : c ≠ d) : isS t d = false := by
  rw [isS_iff] at h
  rw [← Bool.not_eq_true, isS_iff, h]
  intro e
  injection e with _ e
  exact hd (List.cons.inj e).1
/-- The tokens that are neither white space nor comments. -/
def bareT (l : List Tok) : List Tok := l.filter (fun t => t.kind != 6 && t.kind != 3)
theorem bare_app (a b : List Tok) : bareT (a ++ b) = bareT a ++ bareT b := List.filter_append ..
/-- Pieces; inside: inside angle brackets; now: the piece that has begun. -/
def pcs : Bool → List Tok → List Tok → List (List Tok)
  | _, now, [] => [now]
  | true, now, t :: r => pcs (!isS t 62) (now ++ [t]) r
  | false, now, t :: r =>
    if isS t 44 = true ∨ isS t 59 = true then now :: pcs false [] r
    else pcs (isS t 60) (if isS t 58 = true then [] else now ++ [t]) r
/-- Whether an angle bracket is open at the end. -/
def ins : Bool → List Tok → Bool
  | b, [] => b
  | true, t :: r => ins (!isS t 62) r
  | false, t :: r => ins (isS t 60) r
theorem ins_bare : ∀ (l : List Tok) (b : Bool), ins b (bareT l) = ins b l
  | [], _ => rfl
  | t :: r, b => by
    have key : ∀ c, t.kind ≠ 4 → isS t c = false := fun c h => by unfold isS; rw [beq_eq_false_iff_ne.2 h]; rfl
    unfold bareT
    rw [List.filter_cons]
    have ih := fun b => ins_bare r b
    unfold bareT at ih
    by_cases h : (t.kind != 6 && t.kind != 3) = true
    · rw [if_pos h]
      cases b with
      | true => rw [ins, ins, ih]
      | false => rw [ins, ins, ih]
    · rw [if_neg h, ih]
      have hk : t.kind ≠ 4 := fun e => h (by rw [e]; rfl)
      cases b with
      | true => rw [ins, key 62 hk]; rfl
      | false => rw [ins, key 60 hk]
theorem pcs_app : ∀ (a b : List Tok) (i : Bool) (now : List Tok) (t : Tok), (isS t 44 = true ∨ isS t 59 = true) → ins i a = false → pcs i now (a ++ t :: b) = pcs i now a ++ pcs false [] b
  | [], b, i, now, t, ht, hi => by
    have : i = false := hi
    subst this
    have e : pcs false now (t :: b) = if isS t 44 = true ∨ isS t 59 = true then now :: pcs false [] b else pcs (isS t 60) (if isS t 58 = true then [] else now ++ [t]) b := by rw [pcs]
    rw [List.nil_append, e, if_pos ht]; rfl
  | x :: a, b, i, now, t, ht, hi => by
    cases i with
    | true =>
      rw [List.cons_append, pcs, pcs, pcs_app a b _ _ t ht (by rw [ins] at hi; exact hi)]
    | false =>
      rw [ins] at hi
      rw [List.cons_append, pcs, pcs]
      by_cases hx : isS x 44 = true ∨ isS x 59 = true
      · have h60 : isS x 60 = false := hx.elim (fun h => isS_ne h (by decide)) (fun h => isS_ne h (by decide))
        rw [h60] at hi
        rw [if_pos hx, if_pos hx, pcs_app a b _ _ t ht hi]; rfl
      · rw [if_neg hx, if_neg hx, pcs_app a b _ _ t ht hi]
/-! ### Addr-specs and addresses -/
def wordT (t : Tok) : Bool := t.kind == 1 || t.kind == 2
def atomT (t : Tok) : Bool := t.kind == 1
/-- Words separated by dots: what they say; w: a word must follow. -/
def dotsT (ok : Tok → Bool) : Bool → List Tok → Option (List UInt8)
  | true, [] => none
  | false, [] => some []
  | true, t :: r => if ok t = true then (dotsT ok false r).map (valueL t ++ ·) else none
  | false, t :: r => if isS t 46 = true then (dotsT ok true r).map (46 :: ·) else none
def domT (l : List Tok) : Option (List UInt8) := match l with
  | [t] => if t.kind = 5 then some (t.text.filter (fun c => !TokP.blank c)) else dotsT atomT true l
  | _ => dotsT atomT true l
def upToS (c : UInt8) (l : List Tok) : List Tok := l.takeWhile (fun t => !isS t c)
def fromS (c : UInt8) (l : List Tok) : List Tok := l.dropWhile (fun t => !isS t c)
def specT (l : List Tok) : Option Adr := match fromS 64 l with
  | [] => none
  | _ :: d => match dotsT wordT true (upToS 64 l), domT d with
    | some x, some y => some ⟨[], x, y⟩
    | _, _ => none
def nameT (t : Tok) : Bool := wordT t || isS t 46
def nameR : List Tok → List UInt8
  | [] => []
  | t :: r => (if isS t 46 = true then [] else [32]) ++ valueL t ++ nameR r
def nameL : List Tok → List UInt8
  | [] => []
  | t :: r => valueL t ++ nameR r
/-- Behind a route, if there is one. -/
def routed (m : List Tok) : List Tok := match m with
  | [] => []
  | t :: _ => if isS t 64 = true then (match fromS 58 m with
    | [] => m
    | _ :: r => r) else m
def oneT (l : List Tok) : Option Adr := match fromS 60 l with
  | [] => specT l
  | _ :: r => if (upToS 60 l).all nameT = true ∧ (fromS 62 r).length = 1 then (specT (routed (upToS 62 r))).map (fun a => { a with name := nameL (upToS 60 l) }) else none
def parseP (p : List (List Tok)) : List Adr × Bool := (p.filterMap oneT, p.all (fun x => x.isEmpty || (oneT x).isSome))
def parseA (s : List UInt8) : List Adr × Bool := parseP (pcs false [] (bareT (scanL s)))
theorem parse_app (p q : List (List Tok)) : parseP (p ++ q) = ((parseP p).1 ++ (parseP q).1, (parseP p).2 && (parseP q).2) := by
  unfold parseP
  rw [List.filterMap_append, List.all_append]
/-! ### AddrBoth -/
/-- Something is open at the end. -/
def openL (s : List UInt8) : Prop := (∃ t ∈ scanL s, Unclosed t) ∨ ins false (scanL s) = true
theorem scan_comma (s t : List UInt8) (h : ∀ u ∈ scanL s, ¬ Unclosed u) : scanL (s ++ 44 :: t) = scanL s ++ ⟨4, [44]⟩ :: scanL t := by
  rw [scan_app s (44 :: t) (fun u hu => ⟨fun _ => headNot_cons t (by decide), fun _ => headNot_cons t (by decide), h u (List.mem_of_getLast? hu)⟩)]
  rw [scan_cons (44 :: t) (by simp)]
  rfl
theorem parse_both (s t : List UInt8) (h : ¬ openL s) : parseA (s ++ 44 :: t) = ((parseA s).1 ++ (parseA t).1, (parseA s).2 && (parseA t).2) := by
  have h1 : ∀ u ∈ scanL s, ¬ Unclosed u := fun u hu hn => h (.inl ⟨u, hu, hn⟩)
  have h2 : ins false (scanL s) = false := by rw [← Bool.not_eq_true]; exact fun e => h (.inr e)
  unfold parseA
  rw [scan_comma s t h1, bare_app]
  have e : bareT ((⟨4, [44]⟩ : Tok) :: scanL t) = ⟨4, [44]⟩ :: bareT (scanL t) := rfl
  rw [e, pcs_app _ _ _ _ _ (.inl rfl) (by rw [ins_bare]; exact h2), parse_app]
/-! ### AddrBlanks -/
/-- A comment that is put between tokens. -/
def cmt : List UInt8 := [40, 120, 32, 34, 121, 41]
def blanksL : List (Bool × Tok) → List UInt8
  | [] => []
  | (c, t) :: r => (if c = true then cmt else []) ++ (32 :: (t.text ++ blanksL r))
theorem blanks_head (l : List (Bool × Tok)) : HeadNot atomB (blanksL l) := by
  cases l with
  | nil => exact headNot_nil _
  | cons x r =>
    obtain ⟨c, t⟩ := x
    cases c with
    | true => exact headNot_cons _ (by decide)
    | false => exact headNot_cons _ (by decide)
theorem scan_blanks : ∀ l : List (Bool × Tok), (∀ x ∈ l, x.2.text ≠ [] ∧ scanL x.2.text = [x.2] ∧ x.2.kind ≠ 6 ∧ x.2.kind ≠ 3) → LastU (l.map Prod.snd) → bareT (scanL (blanksL l)) = l.map Prod.snd
  | [], _, _ => rfl
  | (c, t) :: r, h, hu => by
    obtain ⟨h1, h2, h3, h4⟩ := h (c, t) (by simp)
    have h1 : t.text ≠ [] := h1
    have h2 : scanL t.text = [t] := h2
    have h3 : t.kind ≠ 6 := h3
    have h4 : t.kind ≠ 3 := h4
    have ih := scan_blanks r (fun x hx => h x (by simp [hx])) hu.2
    have hb : HeadNot TokP.blank (t.text ++ blanksL r) := by
      cases ht : t.text with
      | nil => exact absurd ht h1
      | cons d u =>
        refine headNot_cons _ ?_
        rw [← Bool.not_eq_true]
        intro hd
        have hk := ((front_kind d u).1).2 hd
        rw [ht, scan_cons (d :: u) (by simp)] at h2
        have := (List.cons.inj h2).1
        rw [this] at hk
        exact h3 hk
    have e1 : scanL (t.text ++ blanksL r) = t :: scanL (blanksL r) := by
      by_cases hn : Unclosed t
      · have hr : r = [] := by
          have := hu.1 hn
          simpa using this
        subst hr
        rw [show blanksL [] = [] from rfl, List.append_nil, h2]; rfl
      · rw [scan_app _ _ (fun u hu' => by
          rw [h2] at hu'
          obtain rfl : t = u := by simpa using hu'
          exact ⟨fun e => absurd e h3, fun _ => blanks_head r, hn⟩), h2]
        rfl
    have e2 : scanL (32 :: (t.text ++ blanksL r)) = ⟨6, [32]⟩ :: t :: scanL (blanksL r) := by
      have : scanL ([32] ++ (t.text ++ blanksL r)) = scanL [32] ++ scanL (t.text ++ blanksL r) := scan_app [32] _ (fun u hu' => by
        obtain rfl : (⟨6, [32]⟩ : Tok) = u := by simpa [show scanL [32] = [⟨6, [32]⟩] from by decide] using hu'
        exact ⟨fun _ => hb, fun e => absurd e (by decide), fun e => absurd e.1 (by decide)⟩)
      rw [e1] at this
      exact this
    have e3 : bareT (⟨6, [32]⟩ :: t :: scanL (blanksL r)) = t :: bareT (scanL (blanksL r)) := by
      unfold bareT
      rw [List.filter_cons, if_neg (by decide), List.filter_cons, if_pos (by simp [h3, h4])]
    have e4 : bareT (scanL (blanksL ((c, t) :: r))) = t :: bareT (scanL (blanksL r)) := by
      cases c with
      | false =>
        show bareT (scanL (32 :: (t.text ++ blanksL r))) = _
        rw [e2, e3]
      | true =>
        show bareT (scanL (cmt ++ (32 :: (t.text ++ blanksL r)))) = _
        rw [scan_app cmt _ (fun u hu' => by
          obtain rfl : (⟨3, cmt⟩ : Tok) = u := by simpa [show scanL cmt = [⟨3, cmt⟩] from by decide] using hu'
          exact ⟨fun e => absurd e (by decide), fun e => absurd e (by decide), fun e => absurd e.1 (by decide)⟩), e2, bare_app, e3]
        rfl
    rw [e4, ih]
    rfl
theorem parse_blanks (s : List UInt8) (l : List (Bool × Tok)) (hl : l.map Prod.snd = bareT (scanL s)) : parseA (blanksL l) = parseA s := by
  unfold parseA
  rw [scan_blanks l (fun x hx => ?_) (by rw [hl]; exact last_filter _ _ (scan_last s)), hl]
  have hm : x.2 ∈ bareT (scanL s) := by rw [← hl]; exact List.mem_map_of_mem hx
  unfold bareT at hm
  obtain ⟨hm, hk⟩ := List.mem_filter.1 hm
  obtain ⟨a1, a2, _⟩ := scan_mem s x.2 hm
  simp only [Bool.and_eq_true, bne_iff_ne] at hk
  exact ⟨a1, a2, hk.1, hk.2⟩
end Go.Proofs.YtdinachiiimngaaGreatDoor.AdrP
namespace Go.Proofs.YtdinachiiimngaaGreatDoor.AdrP
open TokP

/-! ### Message ids -/
/-- Message ids; o: what stands behind the last angle bracket, if an id may still come of it. -/
def idsF : Option (List UInt8) → List UInt8 → List (List UInt8)
  | _, [] => []
  | none, c :: t => if c = 60 then idsF (some []) t else idsF none t
  | some x, c :: t =>
    if c = 60 then idsF (some []) t
    else if c = 62 then (if 0 < x.length ∧ x.length ≤ 250 then x :: idsF none t else idsF none t)
    else if c.toNat ≤ 32 ∨ c = 127 then idsF none t
    else idsF (some (x ++ [c])) t
def idsL (s : List UInt8) : List (List UInt8) := idsF none s
def idOk (i : List UInt8) : Prop := 0 < i.length ∧ i.length ≤ 250 ∧ ∀ c ∈ i, 32 < c.toNat ∧ c ≠ 127 ∧ c ≠ 60 ∧ c ≠ 62
def idText : List (List UInt8 × List UInt8) → List UInt8 → List UInt8
  | [], z => z
  | (b, i) :: r, z => b ++ (60 :: (i ++ (62 :: idText r z)))
theorem ids_skip : ∀ (b x : List UInt8), 60 ∉ b → idsF none (b ++ x) = idsF none x
  | [], _, _ => rfl
  | c :: b, x, h => by
    simp only [List.mem_cons, not_or] at h
    rw [List.cons_append, idsF, if_neg (fun e => h.1 e.symm), ids_skip b x h.2]
theorem ids_in : ∀ (i acc x : List UInt8), (∀ c ∈ i, 32 < c.toNat ∧ c ≠ 127 ∧ c ≠ 60 ∧ c ≠ 62) → 0 < (acc ++ i).length → (acc ++ i).length ≤ 250 → idsF (some acc) (i ++ 62 :: x) = (acc ++ i) :: idsF none x
  | [], acc, x, _, h1, h2 => by
    rw [List.append_nil] at h1 h2 ⊢
    rw [List.nil_append, idsF, if_neg (by decide), if_pos rfl, if_pos ⟨h1, h2⟩]
  | c :: i, acc, x, h, h1, h2 => by
    obtain ⟨a1, a2, a3, a4⟩ := h c (by simp)
    rw [List.cons_append, idsF, if_neg a3, if_neg a4, if_neg (by rintro (e | e); omega; exact a2 e)]
    have e : acc ++ c :: i = (acc ++ [c]) ++ i := by simp
    rw [e] at h1 h2 ⊢
    exact ids_in i (acc ++ [c]) x (fun d hd => h d (by simp [hd])) h1 h2
/-- AddrIds. -/
theorem ids_text : ∀ (l : List (List UInt8 × List UInt8)) (z : List UInt8), (∀ x ∈ l, 60 ∉ x.1 ∧ idOk x.2) → 60 ∉ z → idsL (idText l z) = l.map Prod.snd
  | [], z, _, hz => by
    show idsF none z = []
    have := ids_skip z [] hz
    rw [List.append_nil] at this
    exact this
  | (b, i) :: r, z, h, hz => by
    obtain ⟨h1, h2, h3, h4⟩ := h (b, i) (by simp)
    show idsF none (b ++ (60 :: (i ++ (62 :: idText r z)))) = _
    rw [ids_skip _ _ h1, idsF, if_pos rfl, ids_in i [] _ h4 h2 h3]
    exact congrArg (i :: ·) (ids_text r z (fun x hx => h x (by simp [hx])) hz)
/-! ### Dot-atoms, quoted strings, literals -/
/-- Atoms separated by dots; b: a byte of an atom stands before. -/
def dotA : Bool → List UInt8 → Bool
  | b, [] => b
  | b, c :: t => if atomB c = true then dotA true t else if c = 46 ∧ b = true then dotA false t else false
theorem dot_head (s : List UInt8) (h : dotA false s = true) : ∃ c t, s = c :: t ∧ atomB c = true ∧ dotA true t = true := by
  cases s with
  | nil => exact absurd h (by decide)
  | cons c t =>
    rw [dotA] at h
    split at h
    · rename_i ha; exact ⟨c, t, rfl, ha, h⟩
    · split at h
      · rename_i hb; exact absurd hb.2 Bool.false_ne_true
      · exact absurd h Bool.false_ne_true
theorem dot_skip (s : List UInt8) (h : dotA true s = true) : dotA true (s.drop (s.takeWhile atomB).length) = true := by
  induction s with
  | nil => exact h
  | cons c t ih =>
    by_cases hc : atomB c = true
    · rw [dotA, if_pos hc] at h
      rw [List.takeWhile_cons_of_pos hc, List.length_cons, List.drop_succ_cons]
      exact ih h
    · rw [List.takeWhile_cons_of_neg hc]; exact h
/-- Tokens that stand in an addr-spec. -/
def Fine (t : Tok) : Prop := t.kind = 1 ∨ t.kind = 2 ∨ t.kind = 5 ∨ t = ⟨4, [46]⟩ ∨ t = ⟨4, [64]⟩
theorem fine_not {t : Tok} (h : Fine t) {c : UInt8} (h1 : c ≠ 46) (h2 : c ≠ 64) : isS t c = false := by
  rw [← Bool.not_eq_true, isS_iff]
  rintro rfl
  rcases h with h | h | h | h | h
  · exact absurd h (by simp)
  · exact absurd h (by simp)
  · exact absurd h (by simp)
  · injection h with _ e; exact h1 (List.cons.inj e).1
  · injection h with _ e; exact h2 (List.cons.inj e).1
theorem fine_bare {t : Tok} (h : Fine t) : (t.kind != 6 && t.kind != 3) = true := by
  rcases h with h | h | h | rfl | rfl
  · rw [h]; rfl
  · rw [h]; rfl
  · rw [h]; rfl
  · rfl
  · rfl
theorem bare_fine (l : List Tok) (h : ∀ t ∈ l, Fine t) : bareT l = l := List.filter_eq_self.2 fun t ht => fine_bare (h t ht)
theorem fine_ends {t : Tok} (h : Fine t) {b : List UInt8} (hb : HeadNot atomB b) : TokP.Ends t b := by
  refine ⟨fun e => ?_, fun _ => hb, fun e => ?_⟩
  · rcases h with h | h | h | rfl | rfl
    · rw [h] at e; exact absurd e (by decide)
    · rw [h] at e; exact absurd e (by decide)
    · rw [h] at e; exact absurd e (by decide)
    · exact absurd e (by decide)
    · exact absurd e (by decide)
  · have e := e.1
    rcases h with h | h | h | rfl | rfl
    · rw [h] at e; exact absurd e (by decide)
    · rw [h] at e; exact absurd e (by decide)
    · rw [h] at e; exact absurd e (by decide)
    · exact absurd e (by decide)
    · exact absurd e (by decide)
/-- What a string of an addr-spec scans to. -/
def Good (ok : Tok → Bool) (s : List UInt8) : Prop := dotsT ok true (scanL s) = some s ∧ (∀ t ∈ scanL s, Fine t ∧ isS t 64 = false) ∧ s ≠ []
theorem dot_scan (ok : Tok → Bool) (hok : ∀ t : Tok, t.kind = 1 → ok t = true) : ∀ (n : Nat) (s : List UInt8), s.length ≤ n → dotA false s = true → Good ok s := by
  intro n
  induction n with
  | zero =>
    intro s h hp
    obtain rfl : s = [] := List.eq_nil_of_length_eq_zero (by omega)
    exact absurd hp (by decide)
  | succ n ih =>
    intro s h hp
    obtain ⟨c, t, rfl, hc, ht⟩ := dot_head s hp
    have hr := dot_skip t ht
    have hpre := front_pre (c :: t)
    unfold Good
    rw [scan_cons _ (by simp), front_atom c t hc] at *
    have hn : ∀ x, (t.drop (t.takeWhile atomB).length).head? = some x → atomB x = false := fun x hx => head_drop atomB t x hx
    have hl : (t.drop (t.takeWhile atomB).length).length ≤ t.length := by rw [List.length_drop]; omega
    have hd : (c :: t).drop ((c :: t).takeWhile atomB).length = t.drop (t.takeWhile atomB).length := by
      rw [List.takeWhile_cons_of_pos hc, List.length_cons, List.drop_succ_cons]
    dsimp only at hpre ⊢
    rw [hd] at hpre ⊢
    generalize (c :: t).takeWhile atomB = A at hpre ⊢
    generalize t.drop (t.takeWhile atomB).length = r at hr hn hl hpre ⊢
    have hv : valueL ⟨1, A⟩ = A := rfl
    have hfa : Fine (⟨1, A⟩ : Tok) ∧ isS (⟨1, A⟩ : Tok) 64 = false := ⟨.inl rfl, rfl⟩
    cases r with
    | nil =>
      rw [List.append_nil] at hpre
      refine ⟨?_, ?_, by simp⟩
      · rw [scan_nil, dotsT, if_pos (hok _ rfl), dotsT, hv, hpre]; simp
      · intro u hu
        rw [scan_nil] at hu
        obtain rfl := List.mem_singleton.1 hu
        exact hfa
    | cons x r =>
      have hx := hn x rfl
      rw [dotA, if_neg (by rw [hx]; exact Bool.false_ne_true)] at hr
      split at hr
      · rename_i hx2
        obtain rfl := hx2.1
        have hs : scanL (46 :: r) = ⟨4, [46]⟩ :: scanL r := by rw [scan_cons (46 :: r) (by simp)]; rfl
        obtain ⟨i1, i2, _⟩ := ih r (by rw [List.length_cons] at h hl; omega) hr
        rw [hs]
        refine ⟨?_, ?_, by simp⟩
        · rw [dotsT, if_pos (hok _ rfl), dotsT, if_pos (show isS (⟨4, [46]⟩ : Tok) 46 = true from rfl), i1, hv, ← hpre]; simp
        · intro u hu
          rcases List.mem_cons.1 hu with rfl | hu
          · exact hfa
          · rcases List.mem_cons.1 hu with rfl | hu
            · exact ⟨.inr (.inr (.inr (.inl rfl))), rfl⟩
            · exact i2 u hu
      · exact absurd hr Bool.false_ne_true
/-- Between quotes. -/
theorem quoted_one (s : List UInt8) : scanL (34 :: (escL s ++ [34])) = [⟨2, 34 :: (escL s ++ [34])⟩] ∧ valueL ⟨2, 34 :: (escL s ++ [34])⟩ = s := by
  have hc : closeL 34 (escL s ++ [34]) = some ((escL s).length + 1) := close_esc s
  have hf : frontL (34 :: (escL s ++ [34])) = ⟨2, 34 :: (escL s ++ [34])⟩ := by
    rw [frontL, if_neg (by decide), if_pos (by decide), hc]
    show (⟨kindO 34, 34 :: (escL s ++ [34]).take ((escL s).length + 1)⟩ : Tok) = _
    rw [List.take_of_length_le (by simp)]; rfl
  refine ⟨?_, ?_⟩
  · rw [scan_cons _ (by simp), hf, List.drop_length]; rfl
  · unfold valueL
    rw [if_pos ⟨.inl rfl, by simp⟩]
    show unescS false (escL s ++ [34]).dropLast = s
    rw [List.dropLast_concat, unesc_esc]
/-- How a local part is written. -/
def locW (s : List UInt8) : List UInt8 := if dotA false s = true then s else 34 :: (escL s ++ [34])
theorem loc_good (s : List UInt8) : dotsT wordT true (scanL (locW s)) = some s ∧ (∀ t ∈ scanL (locW s), Fine t ∧ isS t 64 = false) ∧ locW s ≠ [] ∧ scanL (locW s) ≠ [] := by
  by_cases h : dotA false s = true
  · obtain ⟨h1, h2, h3⟩ := dot_scan wordT (fun t ht => by unfold wordT; rw [ht]; rfl) s.length s (Nat.le_refl _) h
    unfold locW
    rw [if_pos h]
    exact ⟨h1, h2, h3, by rw [scan_cons s h3]; simp⟩
  · obtain ⟨h1, h2⟩ := quoted_one s
    unfold locW
    rw [if_neg h, h1]
    refine ⟨?_, ?_, by simp, by simp⟩
    · rw [dotsT, if_pos (show wordT (⟨2, 34 :: (escL s ++ [34])⟩ : Tok) = true from rfl), dotsT, h2]; simp
    · intro t ht
      obtain rfl := List.mem_singleton.1 ht
      exact ⟨.inr (.inl rfl), rfl⟩
/-- A literal. -/
def litOk (s : List UInt8) : Prop := ∃ b, s = 91 :: (b ++ [93]) ∧ ∀ c ∈ b, 32 < c.toNat ∧ c ≠ 127 ∧ c ≠ 91 ∧ c ≠ 93 ∧ c ≠ 92
theorem close_lit (b : List UInt8) (h : ∀ c ∈ b, 32 < c.toNat ∧ c ≠ 127 ∧ c ≠ 91 ∧ c ≠ 93 ∧ c ≠ 92) : closeS 93 false false 0 (b ++ [93]) = some (b.length + 1) := by
  induction b with
  | nil => rfl
  | cons c t ih =>
    obtain ⟨_, _, _, h4, h5⟩ := h c (by simp)
    rw [List.cons_append, closeS, if_neg h5, if_neg h4, if_neg (by simp), ih (fun d hd => h d (by simp [hd]))]
    simp
theorem lit_scan (s : List UInt8) (h : litOk s) : scanL s = [⟨5, s⟩] ∧ s.filter (fun c => !TokP.blank c) = s := by
  obtain ⟨b, rfl, hb⟩ := h
  have hc : closeL 91 (b ++ [93]) = some (b.length + 1) := close_lit b hb
  have hf : frontL (91 :: (b ++ [93])) = ⟨5, 91 :: (b ++ [93])⟩ := by
    rw [frontL, if_neg (by decide), if_pos (by decide), hc]
    show (⟨kindO 91, 91 :: (b ++ [93]).take (b.length + 1)⟩ : Tok) = _
    rw [List.take_of_length_le (by simp)]; rfl
  refine ⟨by rw [scan_cons _ (by simp), hf, List.drop_length]; rfl, ?_⟩
  rw [List.filter_eq_self]
  intro c hcm
  rcases List.mem_cons.1 hcm with rfl | hcm
  · decide
  · rcases List.mem_append.1 hcm with hcm | hcm
    · have h32 := (hb c hcm).1
      unfold TokP.blank
      simp only [Bool.not_eq_true', Bool.or_eq_false_iff, beq_eq_false_iff_ne]
      refine ⟨⟨⟨?_, ?_⟩, ?_⟩, ?_⟩
      all_goals
        rintro rfl
        exact absurd h32 (by decide)
    · obtain rfl := List.mem_singleton.1 hcm
      decide
/-- A domain. -/
def domOk (s : List UInt8) : Prop := dotA false s = true ∨ litOk s
theorem dom_good (s : List UInt8) (h : domOk s) : domT (scanL s) = some s ∧ (∀ t ∈ scanL s, Fine t) ∧ s ≠ [] ∧ scanL s ≠ [] := by
  rcases h with h | h
  · obtain ⟨h1, h2, h3⟩ := dot_scan atomT (fun t ht => by unfold atomT; rw [ht]; rfl) s.length s (Nat.le_refl _) h
    refine ⟨?_, fun t ht => (h2 t ht).1, h3, by rw [scan_cons s h3]; simp⟩
    unfold domT
    split
    · rename_i t he
      rw [if_neg ?_]
      · exact h1
      · intro e5
        rw [he, dotsT] at h1
        unfold atomT at h1
        rw [e5] at h1
        simp at h1
    · exact h1
  · obtain ⟨h1, h2⟩ := lit_scan s h
    have hne : s ≠ [] := by obtain ⟨b, rfl, _⟩ := h; simp
    rw [h1]
    refine ⟨?_, ?_, hne, by simp⟩
    · show (if (5 : Nat) = 5 then some (s.filter (fun c => !TokP.blank c)) else dotsT atomT true [⟨5, s⟩]) = some s
      rw [if_pos rfl, h2]
    · intro t ht
      obtain rfl := List.mem_singleton.1 ht
      exact .inr (.inr (.inl rfl))
end Go.Proofs.YtdinachiiimngaaGreatDoor.AdrP
namespace Go.Proofs.YtdinachiiimngaaGreatDoor.AdrP
open TokP

def specW (a : Adr) : List UInt8 := locW a.loc ++ 64 :: a.dom
def oneW (a : Adr) : List UInt8 := if a.name = [] then specW a else quoteL a.name ++ 32 :: 60 :: (specW a ++ [62])
def writeL : List Adr → List UInt8
  | [] => []
  | [a] => oneW a
  | a :: b :: r => oneW a ++ 44 :: 32 :: writeL (b :: r)
theorem upTo_at (c : UInt8) : ∀ (X : List Tok) (u : Tok) (D : List Tok), (∀ t ∈ X, isS t c = false) → isS u c = true → upToS c (X ++ u :: D) = X ∧ fromS c (X ++ u :: D) = u :: D
  | [], u, D, _, hu => by
    unfold upToS fromS
    rw [List.nil_append, List.takeWhile_cons_of_neg (by rw [hu]; simp), List.dropWhile_cons_of_neg (by rw [hu]; simp)]
    exact ⟨rfl, rfl⟩
  | t :: X, u, D, h, hu => by
    have ht := h t (by simp)
    obtain ⟨i1, i2⟩ := upTo_at c X u D (fun x hx => h x (by simp [hx])) hu
    unfold upToS at i1
    unfold fromS at i2
    unfold upToS fromS
    rw [List.cons_append, List.takeWhile_cons_of_pos (by rw [ht]; rfl), List.dropWhile_cons_of_pos (by rw [ht]; rfl), i1, i2]
    exact ⟨rfl, rfl⟩
theorem upTo_no (c : UInt8) : ∀ (X : List Tok), (∀ t ∈ X, isS t c = false) → fromS c X = []
  | [], _ => rfl
  | t :: X, h => by
    unfold fromS
    rw [List.dropWhile_cons_of_pos (by rw [h t (by simp)]; rfl)]
    exact upTo_no c X (fun x hx => h x (by simp [hx]))
theorem spec_scan (a : Adr) (h : domOk a.dom) : (∀ t ∈ scanL (specW a), Fine t) ∧ specT (scanL (specW a)) = some ⟨[], a.loc, a.dom⟩ ∧ (∃ t r, scanL (specW a) = t :: r ∧ isS t 64 = false) ∧ (∀ c r, specW a = c :: r → TokP.blank c = false) := by
  obtain ⟨l1, l2, l3, l4⟩ := loc_good a.loc
  obtain ⟨d1, d2, d3, d4⟩ := dom_good a.dom h
  have hs : scanL (specW a) = scanL (locW a.loc) ++ ⟨4, [64]⟩ :: scanL a.dom := by
    unfold specW
    rw [scan_app (locW a.loc) (64 :: a.dom) (fun t ht => fine_ends (l2 t (List.mem_of_getLast? ht)).1 (headNot_cons _ (by decide)))]
    rw [scan_cons (64 :: a.dom) (by simp)]
    rfl
  refine ⟨?_, ?_, ?_, ?_⟩
  · intro t ht
    rw [hs] at ht
    rcases List.mem_append.1 ht with ht | ht
    · exact (l2 t ht).1
    · rcases List.mem_cons.1 ht with rfl | ht
      · exact .inr (.inr (.inr (.inr rfl)))
      · exact d2 t ht
  · obtain ⟨u1, u2⟩ := upTo_at 64 (scanL (locW a.loc)) ⟨4, [64]⟩ (scanL a.dom) (fun t ht => (l2 t ht).2) rfl
    unfold specT
    rw [hs, u2, u1]
    dsimp only
    rw [l1, d1]
  · rw [hs]
    obtain ⟨t, r, he⟩ := List.exists_cons_of_ne_nil l4
    rw [he]
    exact ⟨t, _, rfl, (l2 t (by rw [he]; simp)).2⟩
  · intro c r hc
    unfold specW locW at hc
    split at hc
    · rename_i hd
      obtain ⟨d, t, he, ha, _⟩ := dot_head a.loc hd
      rw [he] at hc
      obtain ⟨rfl, _⟩ := List.cons.inj hc
      exact (atom_not d ha).1
    · obtain ⟨rfl, _⟩ := List.cons.inj hc
      decide
/-! ### Names -/
theorem nameR_cons (l : List Tok) (t : Tok) (h : isS t 46 = false) : nameR (t :: l) = 32 :: nameL (t :: l) := by
  rw [nameR, nameL, h]
  rfl
/-- What a name scans to. -/
def NameOk (w s : List UInt8) : Prop := nameL (bareT (scanL w)) = s ∧ (∀ t ∈ bareT (scanL w), t.kind = 1 ∨ t.kind = 2) ∧ bareT (scanL w) ≠ [] ∧ ∀ t, (scanL w).getLast? = some t → t.kind = 1 ∨ t.kind = 2
theorem kind_isS {t : Tok} (h : t.kind = 1 ∨ t.kind = 2) (c : UInt8) : isS t c = false := by
  unfold isS
  rcases h with h | h
  · rw [h]; rfl
  · rw [h]; rfl
theorem plain_name : ∀ (n : Nat) (s : List UInt8), s.length ≤ n → plainA false s = true → NameOk s s := by
  intro n
  induction n with
  | zero =>
    intro s h hp
    obtain rfl : s = [] := List.eq_nil_of_length_eq_zero (by omega)
    exact absurd hp (by decide)
  | succ n ih =>
    intro s h hp
    obtain ⟨c, t, rfl, hc, ht⟩ := plain_head s hp
    have hr := plain_skip t ht
    have hpre := front_pre (c :: t)
    unfold NameOk
    rw [scan_cons _ (by simp), front_atom c t hc] at *
    have hn : ∀ x, (t.drop (t.takeWhile atomB).length).head? = some x → atomB x = false := fun x hx => head_drop atomB t x hx
    have hl : (t.drop (t.takeWhile atomB).length).length ≤ t.length := by rw [List.length_drop]; omega
    have hd : (c :: t).drop ((c :: t).takeWhile atomB).length = t.drop (t.takeWhile atomB).length := by
      rw [List.takeWhile_cons_of_pos hc, List.length_cons, List.drop_succ_cons]
    dsimp only at hpre ⊢
    rw [hd] at hpre ⊢
    generalize (c :: t).takeWhile atomB = A at hpre ⊢
    generalize t.drop (t.takeWhile atomB).length = r at hr hn hl hpre ⊢
    have hv : valueL ⟨1, A⟩ = A := rfl
    cases r with
    | nil =>
      rw [List.append_nil] at hpre
      have e : bareT ((⟨1, A⟩ : Tok) :: scanL []) = [⟨1, A⟩] := rfl
      rw [e]
      refine ⟨?_, ?_, by simp, ?_⟩
      · rw [nameL, hv, nameR, List.append_nil, hpre]
      · intro u hu
        obtain rfl := List.mem_singleton.1 hu
        exact .inl rfl
      · intro u hu
        obtain rfl : (⟨1, A⟩ : Tok) = u := by simpa [scan_nil] using hu
        exact .inl rfl
    | cons x r =>
      have hx := hn x rfl
      rw [plainA, if_neg (by rw [hx]; exact Bool.false_ne_true)] at hr
      split at hr
      · rename_i hx2
        obtain rfl := hx2.1
        obtain ⟨y, u, hru, hy, _⟩ := plain_head r hr
        have hs : scanL (32 :: r) = ⟨6, [32]⟩ :: scanL r := by
          have hf : frontL (32 :: r) = ⟨6, [32]⟩ := by
            rw [hru, frontL, if_pos (by decide), List.takeWhile_cons_of_pos (by decide), List.takeWhile_cons_of_neg (by rw [(atom_not y hy).1]; exact Bool.false_ne_true)]
          rw [scan_cons (32 :: r) (by simp), hf]; rfl
        obtain ⟨i1, i2, i3, i4⟩ := ih r (by rw [List.length_cons] at h hl; omega) hr
        have e : bareT ((⟨1, A⟩ : Tok) :: scanL (32 :: r)) = ⟨1, A⟩ :: bareT (scanL r) := by rw [hs]; rfl
        rw [e]
        refine ⟨?_, ?_, by simp, ?_⟩
        · obtain ⟨v, q, hq⟩ := List.exists_cons_of_ne_nil i3
          rw [nameL, hv, hq, nameR_cons q v (kind_isS (i2 v (by rw [hq]; simp)) 46), ← hq, i1, hpre]
        · intro v hv'
          rcases List.mem_cons.1 hv' with rfl | hv'
          · exact .inl rfl
          · exact i2 v hv'
        · intro v hv'
          rw [hs] at hv'
          have hne : scanL r ≠ [] := by intro e'; rw [e'] at i3; exact i3 rfl
          refine i4 v ?_
          rw [List.getLast?_cons_cons, List.getLast?_cons] at hv'
          cases hlast : (scanL r).getLast? with
          | none => rw [List.getLast?_eq_none_iff] at hlast; exact absurd hlast hne
          | some z => rw [hlast] at hv'; exact hv'
      · exact absurd hr Bool.false_ne_true
theorem name_ok (s : List UInt8) : NameOk (quoteL s) s := by
  by_cases h : plainA false s = true
  · rw [(plain_alt s h).1]
    exact plain_name s.length s (Nat.le_refl _) h
  · obtain ⟨e, h1, h2, _⟩ := quote_one s (by simpa using h)
    unfold NameOk
    rw [h1]
    have eb : bareT [(⟨2, quoteL s⟩ : Tok)] = [⟨2, quoteL s⟩] := rfl
    rw [eb]
    refine ⟨?_, ?_, by simp, ?_⟩
    · rw [nameL, nameR, List.append_nil, h2]
    · intro u hu
      obtain rfl := List.mem_singleton.1 hu
      exact .inr rfl
    · intro u hu
      obtain rfl : (⟨2, quoteL s⟩ : Tok) = u := by simpa using hu
      exact .inr rfl
/-! ### One address -/
theorem pcs_plain : ∀ (T r now : List Tok), (∀ t ∈ T, isS t 44 = false ∧ isS t 59 = false ∧ isS t 58 = false ∧ isS t 60 = false) → pcs false now (T ++ r) = pcs false (now ++ T) r
  | [], r, now, _ => by rw [List.nil_append, List.append_nil]
  | t :: T, r, now, h => by
    obtain ⟨h1, h2, h3, h4⟩ := h t (by simp)
    rw [List.cons_append, pcs, if_neg (by rw [h1, h2]; simp), h4, h3, if_neg Bool.false_ne_true, pcs_plain T r (now ++ [t]) (fun x hx => h x (by simp [hx])), List.append_assoc]
    rfl
theorem pcs_in : ∀ (S r now : List Tok), (∀ t ∈ S, isS t 62 = false) → pcs true now (S ++ ⟨4, [62]⟩ :: r) = pcs false (now ++ (S ++ [⟨4, [62]⟩])) r
  | [], r, now, _ => by
    rw [List.nil_append, pcs, show isS ⟨4, [62]⟩ 62 = true from rfl]; rfl
  | t :: S, r, now, h => by
    rw [List.cons_append, pcs, h t (by simp), Bool.not_false, pcs_in S r (now ++ [t]) (fun x hx => h x (by simp [hx])), List.append_assoc]
    rfl
theorem ins_plain : ∀ (T r : List Tok), (∀ t ∈ T, isS t 60 = false) → ins false (T ++ r) = ins false r
  | [], _, _ => rfl
  | t :: T, r, h => by rw [List.cons_append, ins, h t (by simp), ins_plain T r (fun x hx => h x (by simp [hx]))]
theorem ins_in : ∀ (S r : List Tok), (∀ t ∈ S, isS t 62 = false) → ins true (S ++ ⟨4, [62]⟩ :: r) = ins false r
  | [], r, _ => by rw [List.nil_append, ins, show isS ⟨4, [62]⟩ 62 = true from rfl]; rfl
  | t :: S, r, h => by rw [List.cons_append, ins, h t (by simp), Bool.not_false, ins_in S r (fun x hx => h x (by simp [hx]))]
/-- All that is wanted of an address that is written. -/
theorem one_write (a : Adr) (h : domOk a.dom) : oneT (bareT (scanL (oneW a))) = some a ∧ pcs false [] (bareT (scanL (oneW a))) = [bareT (scanL (oneW a))] ∧ ins false (bareT (scanL (oneW a))) = false ∧ bareT (scanL (oneW a)) ≠ [] ∧
    (∀ t, (scanL (oneW a)).getLast? = some t → ∀ b, HeadNot atomB b → TokP.Ends t b) ∧ (∀ c r, oneW a = c :: r → TokP.blank c = false) ∧ oneW a ≠ [] := by
  obtain ⟨s1, s2, ⟨s3, s4, s5, s6⟩, s7⟩ := spec_scan a h
  have hsw : specW a ≠ [] := by unfold specW; simp
  by_cases hn : a.name = []
  · unfold oneW
    rw [if_pos hn, bare_fine _ s1]
    refine ⟨?_, ?_, ?_, by rw [s5]; simp, fun t ht b hb => fine_ends (s1 t (List.mem_of_getLast? ht)) hb, s7, hsw⟩
    · unfold oneT
      rw [upTo_no 60 _ (fun t ht => fine_not (s1 t ht) (by decide) (by decide))]
      show specT _ = _
      rw [s2]
      cases a
      simp only at hn ⊢
      rw [hn]
    · have := pcs_plain (scanL (specW a)) [] [] (fun t ht => ⟨fine_not (s1 t ht) (by decide) (by decide), fine_not (s1 t ht) (by decide) (by decide), fine_not (s1 t ht) (by decide) (by decide), fine_not (s1 t ht) (by decide) (by decide)⟩)
      rw [List.append_nil, List.nil_append] at this
      rw [this]; rfl
    · have := ins_plain (scanL (specW a)) [] (fun t ht => fine_not (s1 t ht) (by decide) (by decide))
      rw [List.append_nil] at this
      rw [this]; rfl
  · obtain ⟨n1, n2, n3, n4⟩ := name_ok a.name
    have hq : quoteL a.name ≠ [] := by
      intro e
      rw [e] at n3
      exact n3 rfl
    have e1 : scanL (specW a ++ [62]) = scanL (specW a) ++ [⟨4, [62]⟩] := scan_app _ _ (fun t ht => fine_ends (s1 t (List.mem_of_getLast? ht)) (headNot_cons _ (by decide)))
    have e2 : scanL (60 :: (specW a ++ [62])) = ⟨4, [60]⟩ :: (scanL (specW a) ++ [⟨4, [62]⟩]) := by
      rw [scan_cons (60 :: (specW a ++ [62])) (by simp)]
      exact congrArg (⟨4, [60]⟩ :: ·) e1
    have e3 : scanL (32 :: 60 :: (specW a ++ [62])) = ⟨6, [32]⟩ :: ⟨4, [60]⟩ :: (scanL (specW a) ++ [⟨4, [62]⟩]) := by
      rw [← e2]
      exact scan_app [32] (60 :: (specW a ++ [62])) (fun u hu => by
        obtain rfl : (⟨6, [32]⟩ : Tok) = u := by simpa [show scanL [32] = [⟨6, [32]⟩] from by decide] using hu
        exact ⟨fun _ => headNot_cons _ (by decide), fun e => absurd e (by decide), fun e => absurd e.1 (by decide)⟩)
    have e4 : scanL (quoteL a.name ++ 32 :: 60 :: (specW a ++ [62])) = scanL (quoteL a.name) ++ ⟨6, [32]⟩ :: ⟨4, [60]⟩ :: (scanL (specW a) ++ [⟨4, [62]⟩]) := by
      rw [← e3]
      refine scan_app _ _ (fun t ht => ⟨fun e => ?_, fun _ => headNot_cons _ (by decide), fun e => ?_⟩)
      · rcases n4 t ht with k | k
        · rw [k] at e; exact absurd e (by decide)
        · rw [k] at e; exact absurd e (by decide)
      · have e := e.1
        rcases n4 t ht with k | k
        · rw [k] at e; exact absurd e (by decide)
        · rw [k] at e; exact absurd e (by decide)
    have e5 : bareT (scanL (oneW a)) = bareT (scanL (quoteL a.name)) ++ ⟨4, [60]⟩ :: (scanL (specW a) ++ [⟨4, [62]⟩]) := by
      unfold oneW
      rw [if_neg hn, e4, bare_app]
      have : bareT ((⟨6, [32]⟩ : Tok) :: ⟨4, [60]⟩ :: (scanL (specW a) ++ [⟨4, [62]⟩])) = ⟨4, [60]⟩ :: (bareT (scanL (specW a)) ++ [⟨4, [62]⟩]) := by
        show ⟨4, [60]⟩ :: bareT (scanL (specW a) ++ [⟨4, [62]⟩]) = _
        rw [bare_app]; rfl
      rw [this, bare_fine _ s1]
    have k60 : ∀ t ∈ bareT (scanL (quoteL a.name)), isS t 60 = false := fun t ht => kind_isS (n2 t ht) 60
    have k62 : ∀ t ∈ scanL (specW a), isS t 62 = false := fun t ht => fine_not (s1 t ht) (by decide) (by decide)
    obtain ⟨u1, u2⟩ := upTo_at 60 _ ⟨4, [60]⟩ (scanL (specW a) ++ [⟨4, [62]⟩]) k60 rfl
    obtain ⟨v1, v2⟩ := upTo_at 62 _ ⟨4, [62]⟩ [] k62 rfl
    have hall : (bareT (scanL (quoteL a.name))).all nameT = true := by
      rw [List.all_eq_true]
      intro t ht
      unfold nameT wordT
      rcases n2 t ht with k | k
      · rw [k]; rfl
      · rw [k]; rfl
    have hro : routed (scanL (specW a)) = scanL (specW a) := by
      unfold routed
      rw [s5]
      dsimp only
      rw [s6, if_neg Bool.false_ne_true]
    refine ⟨?_, ?_, ?_, by rw [e5]; simp, ?_, ?_, ?_⟩
    · unfold oneT
      rw [e5, u2]
      dsimp only
      rw [u1, v2, v1, if_pos ⟨hall, rfl⟩, hro, s2, n1]
      rfl
    · rw [e5]
      have p1 := pcs_plain (bareT (scanL (quoteL a.name))) (⟨4, [60]⟩ :: (scanL (specW a) ++ [⟨4, [62]⟩])) [] (fun t ht => ⟨kind_isS (n2 t ht) _, kind_isS (n2 t ht) _, kind_isS (n2 t ht) _, kind_isS (n2 t ht) _⟩)
      have p2 := pcs_in (scanL (specW a)) [] (bareT (scanL (quoteL a.name)) ++ [⟨4, [60]⟩]) k62
      rw [p1, List.nil_append, pcs, if_neg (by decide), show isS ⟨4, [60]⟩ 60 = true from rfl, show isS ⟨4, [60]⟩ 58 = false from rfl, if_neg Bool.false_ne_true, p2, pcs, List.append_assoc]
      rfl
    · rw [e5, ins_plain _ _ k60, ins, show isS ⟨4, [60]⟩ 60 = true from rfl, ins_in _ _ k62]
      rfl
    · intro t ht b hb
      unfold oneW at ht
      rw [if_neg hn, e4] at ht
      have : (scanL (quoteL a.name) ++ (⟨6, [32]⟩ : Tok) :: (⟨4, [60]⟩ : Tok) :: (scanL (specW a) ++ [(⟨4, [62]⟩ : Tok)])).getLast? = some (⟨4, [62]⟩ : Tok) := by
        rw [show scanL (quoteL a.name) ++ (⟨6, [32]⟩ : Tok) :: (⟨4, [60]⟩ : Tok) :: (scanL (specW a) ++ [(⟨4, [62]⟩ : Tok)]) = (scanL (quoteL a.name) ++ (⟨6, [32]⟩ : Tok) :: (⟨4, [60]⟩ : Tok) :: scanL (specW a)) ++ [(⟨4, [62]⟩ : Tok)] by simp]
        exact List.getLast?_concat ..
      rw [this] at ht
      obtain rfl := Option.some.inj ht
      exact ⟨fun e => absurd e (by decide), fun e => absurd e (by decide), fun e => absurd e.1 (by decide)⟩
    · intro c r hc
      unfold oneW at hc
      rw [if_neg hn] at hc
      by_cases hpl : plainA false a.name = true
      · obtain ⟨d, t, he, ha, _⟩ := plain_head a.name hpl
        rw [(plain_alt _ hpl).1, he] at hc
        obtain ⟨rfl, _⟩ := List.cons.inj hc
        exact (atom_not d ha).1
      · rw [(quote_one a.name (by simpa using hpl)).1] at hc
        obtain ⟨rfl, _⟩ := List.cons.inj hc
        decide
    · unfold oneW
      rw [if_neg hn]
      simp
theorem write_head : ∀ (l : List Adr), (∀ a ∈ l, domOk a.dom) → HeadNot TokP.blank (writeL l)
  | [], _ => headNot_nil _
  | [a], h => (one_write a (h a (by simp))).2.2.2.2.2.1
  | a :: b :: r, h => by
    obtain ⟨_, _, _, _, _, h6, h7⟩ := one_write a (h a (by simp))
    intro c x hc
    obtain ⟨d, y, hd⟩ := List.exists_cons_of_ne_nil h7
    have e : writeL (a :: b :: r) = oneW a ++ 44 :: 32 :: writeL (b :: r) := rfl
    rw [e, hd, List.cons_append] at hc
    obtain ⟨rfl, _⟩ := List.cons.inj hc
    exact h6 d y hd
/-- AddrBack. -/
theorem parse_write : ∀ (l : List Adr), (∀ a ∈ l, domOk a.dom) → parseA (writeL l) = (l, true)
  | [], _ => rfl
  | [a], h => by
    obtain ⟨h1, h2, _, h4, _⟩ := one_write a (h a (by simp))
    show parseP (pcs false [] (bareT (scanL (oneW a)))) = _
    rw [h2]
    unfold parseP
    rw [List.filterMap_cons, h1]
    simp [h1]
  | a :: b :: r, h => by
    obtain ⟨h1, h2, h3, h4, h5, _⟩ := one_write a (h a (by simp))
    have ih := parse_write (b :: r) (fun x hx => h x (by simp [hx]))
    have hw := write_head (b :: r) (fun x hx => h x (by simp [hx]))
    have e1 : scanL (32 :: writeL (b :: r)) = ⟨6, [32]⟩ :: scanL (writeL (b :: r)) := scan_app [32] (writeL (b :: r)) (fun u hu => by
      obtain rfl : (⟨6, [32]⟩ : Tok) = u := by simpa [show scanL [32] = [⟨6, [32]⟩] from by decide] using hu
      exact ⟨fun _ => hw, fun e => absurd e (by decide), fun e => absurd e.1 (by decide)⟩)
    have e2 : scanL (44 :: 32 :: writeL (b :: r)) = ⟨4, [44]⟩ :: ⟨6, [32]⟩ :: scanL (writeL (b :: r)) := by
      rw [scan_cons (44 :: 32 :: writeL (b :: r)) (by simp)]
      exact congrArg (⟨4, [44]⟩ :: ·) e1
    have e3 : scanL (writeL (a :: b :: r)) = scanL (oneW a) ++ ⟨4, [44]⟩ :: ⟨6, [32]⟩ :: scanL (writeL (b :: r)) := by
      rw [← e2]
      exact scan_app (oneW a) _ (fun t ht => h5 t ht _ (headNot_cons _ (by decide)))
    have e4 : bareT (scanL (writeL (a :: b :: r))) = bareT (scanL (oneW a)) ++ ⟨4, [44]⟩ :: bareT (scanL (writeL (b :: r))) := by
      rw [e3, bare_app]; rfl
    unfold parseA at ih ⊢
    rw [e4, pcs_app _ _ _ _ _ (.inl rfl) h3, parse_app, ih, h2]
    unfold parseP
    rw [List.filterMap_cons, h1]
    simp [h1]
end Go.Proofs.YtdinachiiimngaaGreatDoor.AdrP
namespace Go.Proofs.YtdinachiiimngaaGreatDoor.AdrP
open TokP

/-- A letter in lower case. -/
def lowA (c : UInt8) : UInt8 := if 65 ≤ c.toNat ∧ c.toNat ≤ 90 then c + 32 else c
theorem byte_all {P : UInt8 → Prop} (h : ∀ n : Fin 256, P (UInt8.ofNat n.val)) (c : UInt8) : P c := by
  have := h ⟨c.toNat, c.toNat_lt⟩
  rwa [UInt8.ofNat_toNat] at this
theorem low_facts : ∀ n : Fin 256, atomB (lowA (UInt8.ofNat n.val)) = atomB (UInt8.ofNat n.val) ∧ (lowA (UInt8.ofNat n.val) = 46 ↔ UInt8.ofNat n.val = 46) ∧ lowA (lowA (UInt8.ofNat n.val)) = lowA (UInt8.ofNat n.val) ∧
    (32 < (UInt8.ofNat n.val).toNat → 32 < (lowA (UInt8.ofNat n.val)).toNat) ∧ (UInt8.ofNat n.val ≠ 127 → lowA (UInt8.ofNat n.val) ≠ 127) ∧ (UInt8.ofNat n.val ≠ 91 → lowA (UInt8.ofNat n.val) ≠ 91) ∧ (UInt8.ofNat n.val ≠ 93 → lowA (UInt8.ofNat n.val) ≠ 93) ∧ (UInt8.ofNat n.val ≠ 92 → lowA (UInt8.ofNat n.val) ≠ 92) := by decide +kernel
theorem low_all (c : UInt8) : atomB (lowA c) = atomB c ∧ (lowA c = 46 ↔ c = 46) ∧ lowA (lowA c) = lowA c ∧ (32 < c.toNat → 32 < (lowA c).toNat) ∧ (c ≠ 127 → lowA c ≠ 127) ∧ (c ≠ 91 → lowA c ≠ 91) ∧ (c ≠ 93 → lowA c ≠ 93) ∧ (c ≠ 92 → lowA c ≠ 92) :=
  byte_all (P := fun c => atomB (lowA c) = atomB c ∧ (lowA c = 46 ↔ c = 46) ∧ lowA (lowA c) = lowA c ∧ (32 < c.toNat → 32 < (lowA c).toNat) ∧ (c ≠ 127 → lowA c ≠ 127) ∧ (c ≠ 91 → lowA c ≠ 91) ∧ (c ≠ 93 → lowA c ≠ 93) ∧ (c ≠ 92 → lowA c ≠ 92)) low_facts c
theorem low_twice (s : List UInt8) : (s.map lowA).map lowA = s.map lowA := by
  rw [List.map_map]
  exact List.map_congr_left fun c _ => (low_all c).2.2.1
theorem dot_low : ∀ (s : List UInt8) (b : Bool), dotA b (s.map lowA) = dotA b s
  | [], _ => rfl
  | c :: t, b => by
    obtain ⟨h1, h2, _⟩ := low_all c
    rw [List.map_cons, dotA, dotA, h1, dot_low t true, dot_low t false]
    simp only [h2]
theorem lit_low (s : List UInt8) (h : litOk s) : litOk (s.map lowA) := by
  obtain ⟨b, rfl, hb⟩ := h
  refine ⟨b.map lowA, ?_, ?_⟩
  · rw [List.map_cons, List.map_append]; rfl
  · intro c hc
    obtain ⟨d, hd, rfl⟩ := List.mem_map.1 hc
    obtain ⟨a1, a2, a3, a4, a5⟩ := hb d hd
    obtain ⟨_, _, _, l1, l2, l3, l4, l5⟩ := low_all d
    exact ⟨l1 a1, l2 a2, l3 a3, l4 a4, l5 a5⟩
theorem dom_low (s : List UInt8) (h : domOk s) : domOk (s.map lowA) := by
  rcases h with h | h
  · exact .inl (by rw [dot_low]; exact h)
  · exact .inr (lit_low s h)
/-- The canonical form. -/
def canonL (a : Adr) : List UInt8 := a.loc ++ 64 :: a.dom.map lowA
theorem canon_len (a : Adr) : (canonL a).length = a.loc.length + 1 + a.dom.length ∧ (canonL a).take a.loc.length = a.loc ∧ (canonL a).drop (a.loc.length + 1) = a.dom.map lowA := by
  unfold canonL
  refine ⟨by rw [List.length_append, List.length_cons, List.length_map]; omega, List.take_left' rfl, ?_⟩
  rw [← List.drop_drop, List.drop_left' rfl]; rfl
/-- AddrCanon: letters of the domain in upper case, as far as f asks for it. -/
def upA (c : UInt8) : UInt8 := if 97 ≤ c.toNat ∧ c.toNat ≤ 122 then c - 32 else c
theorem up_facts : ∀ n : Fin 256, lowA (upA (UInt8.ofNat n.val)) = lowA (UInt8.ofNat n.val) := by decide +kernel
theorem low_up (c : UInt8) : lowA (upA c) = lowA c := byte_all (P := fun c => lowA (upA c) = lowA c) up_facts c
/-! ### Valid addresses -/
def litB (s : List UInt8) : Bool := decide (2 ≤ s.length) && s.head? == some 91 && s.getLast? == some 93 && ((s.drop 1).dropLast).all (fun c => decide (32 < c.toNat) && c != 127 && c != 91 && c != 93 && c != 92)
theorem lit_iff (s : List UInt8) : litB s = true ↔ litOk s := by
  unfold litB
  simp only [Bool.and_eq_true, decide_eq_true_eq, beq_iff_eq, List.all_eq_true, bne_iff_ne]
  constructor
  · rintro ⟨⟨⟨h1, h2⟩, h3⟩, h4⟩
    cases s with
    | nil => simp at h1
    | cons c t =>
      obtain rfl : c = 91 := by simpa using h2
      have ht : t ≠ [] := by rintro rfl; simp at h1
      rw [List.drop_succ_cons, List.drop_zero] at h4
      have hl : t.getLast? = some 93 := by
        obtain ⟨x, y, rfl⟩ := List.exists_cons_of_ne_nil ht
        rw [List.getLast?_cons_cons] at h3
        exact h3
      have e : t.dropLast ++ [93] = t := by
        have := List.dropLast_concat_getLast ht
        rw [List.getLast?_eq_some_getLast ht] at hl
        rw [Option.some.inj hl] at this
        exact this
      exact ⟨t.dropLast, by rw [e], fun c hc => by obtain ⟨⟨⟨⟨a1, a2⟩, a3⟩, a4⟩, a5⟩ := h4 c hc; exact ⟨a1, a2, a3, a4, a5⟩⟩
  · rintro ⟨b, rfl, hb⟩
    refine ⟨⟨⟨by simp, rfl⟩, ?_⟩, ?_⟩
    · rw [← List.cons_append]; exact List.getLast?_concat ..
    · intro c hc
      rw [List.drop_succ_cons, List.drop_zero, List.dropLast_concat] at hc
      obtain ⟨a1, a2, a3, a4, a5⟩ := hb c hc
      exact ⟨⟨⟨⟨a1, a2⟩, a3⟩, a4⟩, a5⟩
def domB (s : List UInt8) : Bool := dotA false s || litB s
theorem dom_iff (s : List UInt8) : domB s = true ↔ domOk s := by
  unfold domB domOk
  rw [Bool.or_eq_true, lit_iff]
/-- No byte below 32, none of 127. -/
def shown (s : List UInt8) : Bool := s.all (fun c => decide (32 ≤ c.toNat) && c != 127)
def rightB (a : Adr) : Bool := decide (0 < a.loc.length) && decide (a.loc.length ≤ 64) && shown a.loc && (decide (a.dom.length ≤ 255) && domB a.dom) && (decide (a.name.length ≤ 200) && shown a.name)
theorem right_dom {a : Adr} (h : rightB a = true) : domOk a.dom := by
  unfold rightB at h
  simp only [Bool.and_eq_true] at h
  exact (dom_iff _).1 h.1.2.2
theorem right_loc {a : Adr} (h : rightB a = true) : shown a.loc = true := by
  unfold rightB at h
  simp only [Bool.and_eq_true] at h
  exact h.1.1.2
/-- As the program writes a local part: a backslash before double quotes and backslashes alone. -/
def escQ : List UInt8 → List UInt8
  | [] => []
  | c :: t => if c = 34 ∨ c = 92 then 92 :: c :: escQ t else c :: escQ t
theorem esc_same : ∀ s : List UInt8, shown s = true → escQ s = escL s
  | [], _ => rfl
  | c :: t, h => by
    unfold shown at h
    rw [List.all_cons, Bool.and_eq_true, Bool.and_eq_true, decide_eq_true_eq] at h
    have ih := esc_same t h.2
    have h10 : c ≠ 10 := by rintro rfl; exact absurd h.1.1 (by decide)
    have h13 : c ≠ 13 := by rintro rfl; exact absurd h.1.1 (by decide)
    rw [escQ, escL, ih]
    unfold held
    simp only [Bool.or_eq_true, beq_iff_eq, h10, h13, or_false]
def specQ (a : Adr) : List UInt8 := (if dotA false a.loc = true then a.loc else 34 :: (escQ a.loc ++ [34])) ++ 64 :: a.dom
theorem spec_same (a : Adr) (h : shown a.loc = true) : specQ a = specW a := by
  unfold specQ specW locW
  rw [esc_same _ h]
/-! ### Dot-atoms, byte by byte -/
def dotAt (w : List UInt8) (i : Nat) : Prop := ∃ c, w[i]? = some c ∧ (atomB c = true ∨ (c = 46 ∧ 0 < i ∧ i + 1 < w.length ∧ ∃ p, w[i - 1]? = some p ∧ p ≠ 46))
theorem dot46 : atomB 46 = false := by decide
theorem dot_good : ∀ (s pre : List UInt8) (b : Bool), (b = true → ∃ p, pre.getLast? = some p ∧ p ≠ 46) → (b = false → ∀ p, pre.getLast? = some p → p = 46) →
    (dotA b s = true ↔ (s = [] → b = true) ∧ ∀ i, pre.length ≤ i → i < (pre ++ s).length → dotAt (pre ++ s) i) := by
  intro s
  induction s with
  | nil =>
    intro pre b h1 h2
    rw [List.append_nil]
    have e : dotA b [] = b := by cases b <;> rfl
    rw [e]
    exact ⟨fun h => ⟨fun _ => h, fun i hi hj => by omega⟩, fun h => h.1 rfl⟩
  | cons c t ih =>
    intro pre b h1 h2
    have hsplit : pre ++ c :: t = (pre ++ [c]) ++ t := by simp
    have hat : (pre ++ c :: t)[pre.length]? = some c := by simp
    have hlast : (pre ++ [c]).getLast? = some c := by simp
    have key : (∀ i, pre.length ≤ i → i < (pre ++ c :: t).length → dotAt (pre ++ c :: t) i) ↔ dotAt (pre ++ c :: t) pre.length ∧ ∀ i, (pre ++ [c]).length ≤ i → i < ((pre ++ [c]) ++ t).length → dotAt ((pre ++ [c]) ++ t) i := by
      rw [← hsplit, @List.length_append _ pre [c]]
      constructor
      · intro h
        exact ⟨h _ (Nat.le_refl _) (by simp), fun i hi hj => h i (by omega) hj⟩
      · rintro ⟨h3, h4⟩ i hi hj
        by_cases he : i = pre.length
        · rw [he]; exact h3
        · exact h4 i (by simp; omega) hj
    rw [key]
    by_cases hc : atomB c = true
    · have hne : c ≠ 46 := by rintro rfl; rw [dot46] at hc; exact Bool.noConfusion hc
      have hih := ih (pre ++ [c]) true (fun _ => ⟨c, hlast, hne⟩) (fun h => Bool.noConfusion h)
      rw [dotA, if_pos hc, hih]
      exact ⟨fun h => ⟨fun e => (List.cons_ne_nil _ _ e).elim, ⟨c, hat, .inl hc⟩, h.2⟩, fun h => ⟨fun _ => rfl, h.2.2⟩⟩
    · rw [dotA, if_neg hc]
      by_cases h46 : c = 46
      · subst h46
        have hih := ih (pre ++ [46]) false (fun h => Bool.noConfusion h) (fun _ p hp => by rw [hlast] at hp; exact (Option.some.inj hp).symm)
        cases b with
        | true =>
          rw [if_pos ⟨rfl, rfl⟩]
          obtain ⟨p, hp, hp2⟩ := h1 rfl
          constructor
          · intro h
            refine ⟨fun _ => rfl, ?_, (hih.1 h).2⟩
            obtain ⟨y, u, rfl, hy, _⟩ := dot_head t h
            have hpos : 0 < pre.length := by cases pre with | nil => simp at hp | cons _ _ => simp
            refine ⟨46, hat, .inr ⟨rfl, hpos, by simp, p, ?_, hp2⟩⟩
            rw [List.getElem?_append_left (by omega), ← List.getLast?_eq_getElem?]; exact hp
          · rintro ⟨_, ⟨c', hc', h3⟩, h4⟩
            rw [hat] at hc'
            obtain rfl := Option.some.inj hc'
            refine hih.2 ⟨fun e => ?_, h4⟩
            rcases h3 with h3 | ⟨_, _, h5, _⟩
            · exact absurd h3 hc
            · subst e; simp at h5
        | false =>
          rw [if_neg (by simp)]
          refine ⟨fun h => absurd h Bool.false_ne_true, ?_⟩
          rintro ⟨_, ⟨c', hc', h3⟩, _⟩
          rw [hat] at hc'
          obtain rfl := Option.some.inj hc'
          rcases h3 with h3 | ⟨_, h5, _, p, hp, hp2⟩
          · exact absurd h3 hc
          · rw [List.getElem?_append_left (by omega), ← List.getLast?_eq_getElem?] at hp
            exact absurd (h2 rfl p hp) hp2
      · rw [if_neg (fun e => h46 e.1)]
        refine ⟨fun h => absurd h Bool.false_ne_true, ?_⟩
        rintro ⟨_, ⟨c', hc', h3⟩, _⟩
        rw [hat] at hc'
        obtain rfl := Option.some.inj hc'
        rcases h3 with h3 | ⟨h5, _⟩
        · exact absurd h3 hc
        · exact absurd h5 h46
theorem dot_all (s : List UInt8) : dotA false s = true ↔ s ≠ [] ∧ ∀ i, i < s.length → dotAt s i := by
  have := dot_good s [] false (fun h => Bool.noConfusion h) (fun _ p hp => by simp at hp)
  rw [this, List.nil_append]
  exact ⟨fun h => ⟨fun e => Bool.noConfusion (h.1 e), fun i hi => h.2 i (Nat.zero_le _) hi⟩, fun h => ⟨fun e => absurd e h.1, fun i _ hi => h.2 i hi⟩⟩
end Go.Proofs.YtdinachiiimngaaGreatDoor.AdrP
namespace Go.Proofs.YtdinachiiimngaaGreatDoor.CtP
open TokP AdrP

def letterB (c : UInt8) : Bool := (decide (97 ≤ c.toNat) && decide (c.toNat ≤ 122)) || (decide (65 ≤ c.toNat) && decide (c.toNat ≤ 90)) || (decide (48 ≤ c.toNat) && decide (c.toNat ≤ 57))
def wordB (c : UInt8) : Bool := letterB c || [33, 35, 36, 38, 94, 95, 46, 43, 45].contains c
def wordW (s : List UInt8) : Bool := !s.isEmpty && s.all wordB
/-- The tokens, split at semicolons. -/
def rowsT : List Tok → List Tok → List (List Tok)
  | now, [] => [now]
  | now, t :: r => if isS t 59 = true then now :: rowsT [] r else rowsT (now ++ [t]) r
structure Par where
  name : List UInt8
  sec : Option Nat
  wide : Bool
  value : List UInt8
deriving DecidableEq
def upC (d : UInt8) (s : List UInt8) : List UInt8 := s.takeWhile (fun c => c != d)
def behind (d : UInt8) (s : List UInt8) : List UInt8 := s.drop ((upC d s).length + 1)
def wideB (name : List UInt8) : Bool := decide (2 ≤ name.length) && (name.getLast? == some 42)
/-- Decoding a name: num answers the number of a section. -/
def toldP (num : List UInt8 → Option Nat) (name value : List UInt8) : Par :=
  let n := if wideB name = true then name.dropLast else name
  if 42 ∈ n then
    let after := (upC 42 n.reverse).reverse
    match num after with
    | some k => ⟨n.take (n.length - after.length - 1), some k, wideB name, value⟩
    | none => ⟨n, none, wideB name, value⟩
  else ⟨n, none, wideB name, value⟩
def pairV (rest : List UInt8) : List Tok → List UInt8
  | [] => rest
  | u :: r => if rest = [] ∧ u.kind = 2 then valueL u else rest ++ joinL (u :: r)
/-- The parameter of a row. -/
def pairP (num : List UInt8 → Option Nat) : List UInt8 → List Tok → Option Par
  | _, [] => none
  | pre, t :: r =>
    if t.kind = 1 ∧ 61 ∈ t.text then
      (if (pre ++ upC 61 t.text) = [] then none else some (toldP num ((pre ++ upC 61 t.text).map lowA) (pairV (behind 61 t.text) r)))
    else pairP num (pre ++ t.text) r
def hexV (c : UInt8) : Option Nat := if 48 ≤ c.toNat ∧ c.toNat ≤ 57 then some (c.toNat - 48) else if 97 ≤ c.toNat ∧ c.toNat ≤ 102 then some (c.toNat - 87) else if 65 ≤ c.toNat ∧ c.toNat ≤ 70 then some (c.toNat - 55) else none
def hex2 : List UInt8 → Option UInt8
  | a :: b :: _ => match hexV a, hexV b with
    | some x, some y => some (UInt8.ofNat (16 * x + y))
    | _, _ => none
  | _ => none
/-- Percent-decoding; the first argument: how many bytes are passed over. -/
def pctS : Nat → List UInt8 → List UInt8
  | _, [] => []
  | k + 1, _ :: r => pctS k r
  | 0, c :: r => if c = 37 then (match hex2 r with
    | some b => b :: pctS 2 r
    | none => c :: pctS 0 r) else c :: pctS 0 r
def pctL (s : List UInt8) : List UInt8 := pctS 0 s
def splitQ (s : List UInt8) : List UInt8 × List UInt8 := if 39 ∈ s ∧ 39 ∈ behind 39 s then (upC 39 s, behind 39 (behind 39 s)) else ([], s)
/-- What bytes of a charset mean: rep repairs, dec decodes. -/
def meantP (rep : List UInt8 → List UInt8) (dec : List UInt8 → List UInt8 → List UInt8) (set s : List UInt8) : List UInt8 := if set = [] then rep s else dec set s
def firstP (all : List Par) (name : List UInt8) (sec : Option Nat) : Option Par := all.find? (fun x => x.name == name && x.sec == sec)
def moreP (all : List Par) (name : List UInt8) : Nat → Nat → List UInt8
  | 0, _ => []
  | f + 1, k => match firstP all name (some k) with
    | none => []
    | some y => (if y.wide = true then pctL y.value else y.value) ++ moreP all name f (k + 1)
def valueP (rep : List UInt8 → List UInt8) (dec : List UInt8 → List UInt8 → List UInt8) (all : List Par) (name : List UInt8) : Option (List UInt8) :=
  match firstP all name (some 0) with
  | some x => some (if x.wide = true then meantP rep dec (splitQ x.value).1 (pctL (splitQ x.value).2 ++ moreP all name 63 1) else x.value ++ moreP all name 63 1)
  | none => match all.find? (fun x => x.name == name && x.sec == none && x.wide) with
    | some x => some (meantP rep dec (splitQ x.value).1 (pctL (splitQ x.value).2))
    | none => (firstP all name none).map Par.value
def listG (rep : List UInt8 → List UInt8) (dec : List UInt8 → List UInt8 → List UInt8) (all : List Par) : List (List UInt8) → List Par → List (List UInt8 × List UInt8)
  | _, [] => []
  | seen, x :: r => (if x.name ∈ seen then [] else match valueP rep dec all x.name with
    | some v => [(x.name, v)]
    | none => []) ++ listG rep dec all (x.name :: seen) r
def listP (rep : List UInt8 → List UInt8) (dec : List UInt8 → List UInt8 → List UInt8) (num : List UInt8 → Option Nat) (rows : List (List Tok)) : List (List UInt8 × List UInt8) :=
  listG rep dec (rows.filterMap (pairP num [])) [] (rows.filterMap (pairP num []))
def textPlain : List UInt8 × List UInt8 × List (List UInt8 × List UInt8) := ([116, 101, 120, 116], [112, 108, 97, 105, 110], [])
def parseC (rep : List UInt8 → List UInt8) (dec : List UInt8 → List UInt8 → List UInt8) (num : List UInt8 → Option Nat) (s : List UInt8) : (List UInt8 × List UInt8 × List (List UInt8 × List UInt8)) × Bool :=
  let rows := rowsT [] (bareT (scanL s))
  let t := joinL (rows.headD [])
  if 47 ∈ t ∧ wordW (upC 47 t) = true ∧ wordW (behind 47 t) = true then (((upC 47 t).map lowA, (behind 47 t).map lowA, listP rep dec num rows.tail), true) else (textPlain, false)
def dispC (rep : List UInt8 → List UInt8) (dec : List UInt8 → List UInt8 → List UInt8) (num : List UInt8 → Option Nat) (s : List UInt8) : List UInt8 × List (List UInt8 × List UInt8) :=
  let rows := rowsT [] (bareT (scanL s))
  let t := (joinL (rows.headD [])).map lowA
  (if wordW t = true then t else [], listP rep dec num rows.tail)
/-! ### Writing -/
def plainV (v : List UInt8) : Bool := !v.isEmpty && v.all (fun c => decide (33 ≤ c.toNat) && decide (c.toNat ≤ 126) && !([40, 41, 60, 62, 64, 44, 59, 58, 92, 34, 47, 91, 93, 63, 61].contains c))
def quotedV (v : List UInt8) : Bool := v.all (fun c => decide (32 ≤ c.toNat) && decide (c.toNat ≤ 126))
def hexU (n : Nat) : UInt8 := if n < 10 then UInt8.ofNat (48 + n) else UInt8.ofNat (55 + n)
def freeB (c : UInt8) : Bool := letterB c || [45, 46, 95, 126].contains c
def pctB (c : UInt8) : List UInt8 := if freeB c = true then [c] else [37, hexU (c.toNat / 16), hexU (c.toNat % 16)]
def pctE (s : List UInt8) : List UInt8 := s.flatMap pctB
def utf8N : List UInt8 := [117, 116, 102, 45, 56]
def fmtV (v : List UInt8) : List UInt8 := if plainV v = true then 61 :: v else if quotedV v = true then 61 :: 34 :: (escQ v ++ [34]) else 42 :: 61 :: (utf8N ++ 39 :: 39 :: pctE v)
def rowW (p : List UInt8 × List UInt8) : List UInt8 := p.1 ++ fmtV p.2
def lineW (first : List UInt8) (l : List (List UInt8 × List UInt8)) : List UInt8 := first ++ l.flatMap (fun p => 59 :: 32 :: rowW p)
/-! ### Bytes -/
theorem word_facts : ∀ n : Fin 256, wordB (UInt8.ofNat n.val) = true → (atomB (UInt8.ofNat n.val) = true ∨ UInt8.ofNat n.val = 46) ∧ UInt8.ofNat n.val ≠ 61 ∧ UInt8.ofNat n.val ≠ 42 ∧ UInt8.ofNat n.val ≠ 47 ∧ 33 ≤ (UInt8.ofNat n.val).toNat ∧ (UInt8.ofNat n.val).toNat ≤ 126 := by decide +kernel
theorem word_all (c : UInt8) : wordB c = true → (atomB c = true ∨ c = 46) ∧ c ≠ 61 ∧ c ≠ 42 ∧ c ≠ 47 ∧ 33 ≤ c.toNat ∧ c.toNat ≤ 126 :=
  byte_all (P := fun c => wordB c = true → (atomB c = true ∨ c = 46) ∧ c ≠ 61 ∧ c ≠ 42 ∧ c ≠ 47 ∧ 33 ≤ c.toNat ∧ c.toNat ≤ 126) word_facts c
theorem plain_facts : ∀ n : Fin 256, (decide (33 ≤ (UInt8.ofNat n.val).toNat) && decide ((UInt8.ofNat n.val).toNat ≤ 126) && !([40, 41, 60, 62, 64, 44, 59, 58, 92, 34, 47, 91, 93, 63, 61].contains (UInt8.ofNat n.val))) = true → (atomB (UInt8.ofNat n.val) = true ∨ UInt8.ofNat n.val = 46) := by decide +kernel
theorem plain_all (c : UInt8) : (decide (33 ≤ c.toNat) && decide (c.toNat ≤ 126) && !([40, 41, 60, 62, 64, 44, 59, 58, 92, 34, 47, 91, 93, 63, 61].contains c)) = true → (atomB c = true ∨ c = 46) :=
  byte_all (P := fun c => (decide (33 ≤ c.toNat) && decide (c.toNat ≤ 126) && !([40, 41, 60, 62, 64, 44, 59, 58, 92, 34, 47, 91, 93, 63, 61].contains c)) = true → (atomB c = true ∨ c = 46)) plain_facts c
theorem pct_facts : ∀ n : Fin 256, (∀ c ∈ pctB (UInt8.ofNat n.val), (atomB c = true ∨ c = 46) ∧ 32 ≤ c.toNat ∧ c.toNat ≤ 126 ∧ c ≠ 39) := by decide +kernel
theorem pct_all (b : UInt8) : ∀ c ∈ pctB b, (atomB c = true ∨ c = 46) ∧ 32 ≤ c.toNat ∧ c.toNat ≤ 126 ∧ c ≠ 39 :=
  byte_all (P := fun b => ∀ c ∈ pctB b, (atomB c = true ∨ c = 46) ∧ 32 ≤ c.toNat ∧ c.toNat ≤ 126 ∧ c ≠ 39) pct_facts b
theorem pct_back_facts : ∀ n : Fin 256, (freeB (UInt8.ofNat n.val) = true → UInt8.ofNat n.val ≠ 37) ∧ hex2 [hexU ((UInt8.ofNat n.val).toNat / 16), hexU ((UInt8.ofNat n.val).toNat % 16)] = some (UInt8.ofNat n.val) := by decide +kernel
theorem pct_back1 (b : UInt8) : (freeB b = true → b ≠ 37) ∧ hex2 [hexU (b.toNat / 16), hexU (b.toNat % 16)] = some b :=
  byte_all (P := fun b => (freeB b = true → b ≠ 37) ∧ hex2 [hexU (b.toNat / 16), hexU (b.toNat % 16)] = some b) pct_back_facts b
theorem pct_back : ∀ s : List UInt8, pctL (pctE s) = s
  | [] => rfl
  | b :: r => by
    have ih := pct_back r
    unfold pctL pctE at ih ⊢
    rw [List.flatMap_cons]
    obtain ⟨h1, h2⟩ := pct_back1 b
    unfold pctB
    by_cases hf : freeB b = true
    · rw [if_pos hf, List.singleton_append, pctS, if_neg (h1 hf)]
      rw [show r.flatMap (fun c => pctB c) = r.flatMap pctB from rfl] at *
      exact congrArg (b :: ·) ih
    · rw [if_neg hf]
      show pctS 0 (37 :: hexU (b.toNat / 16) :: hexU (b.toNat % 16) :: r.flatMap pctB) = b :: r
      rw [pctS, if_pos rfl]
      have h3 : hex2 (hexU (b.toNat / 16) :: hexU (b.toNat % 16) :: r.flatMap pctB) = some b := h2
      rw [h3]
      show b :: pctS 0 (r.flatMap pctB) = b :: r
      rw [ih]
/-! ### Tokens of a written row -/
/-- Bytes of atoms and dots alone. -/
def Mix (s : List UInt8) : Prop := ∀ c ∈ s, atomB c = true ∨ c = 46
def Dry (t : Tok) : Prop := t.kind = 1 ∨ t = ⟨4, [46]⟩
theorem Dry.fine {t : Tok} (h : Dry t) : Fine t := by
  rcases h with h | h
  · exact .inl h
  · exact .inr (.inr (.inr (.inl h)))
theorem mix_scan (s : List UInt8) : Mix s → ∀ t ∈ scanL s, Dry t := by
  induction s using scan_ind with
  | h0 => exact fun _ t ht => absurd ht (by simp [scan_nil])
  | h1 s hs ih =>
    intro hm t ht
    rw [scan_cons s hs, List.mem_cons] at ht
    rcases ht with rfl | ht
    · cases s with
      | nil => exact absurd rfl hs
      | cons c r =>
        rcases hm c (by simp) with h | rfl
        · rw [front_atom c r h]; exact .inl rfl
        · exact .inr (by rw [frontL, if_neg (by decide), if_neg (by decide), if_pos (by decide)])
    · exact ih (fun c hc => hm c (List.mem_of_mem_drop hc)) t ht
theorem mix_app {a b : List UInt8} (ha : Mix a) (hb : Mix b) : Mix (a ++ b) := fun c hc => by
  rcases List.mem_append.1 hc with h | h
  · exact ha c h
  · exact hb c h
/-- Atoms of a name, an atom's byte d, more: the first token. -/
theorem first_tok (n : List UInt8) (d : UInt8) (v : List UInt8) (hn : ∀ c ∈ n, atomB c = true) (hd : atomB d = true) : ∃ v1 v2, v = v1 ++ v2 ∧ scanL (n ++ d :: v) = ⟨1, n ++ d :: v1⟩ :: scanL v2 ∧ v1 = v.takeWhile atomB := by
  refine ⟨v.takeWhile atomB, v.dropWhile atomB, (List.takeWhile_append_dropWhile).symm, ?_, rfl⟩
  have htw : (n ++ d :: v).takeWhile atomB = n ++ d :: v.takeWhile atomB := by
    rw [List.takeWhile_append_of_pos hn, List.takeWhile_cons_of_pos hd]
  have hne : n ++ d :: v ≠ [] := by simp
  have hf : frontL (n ++ d :: v) = ⟨1, n ++ d :: v.takeWhile atomB⟩ := by
    cases n with
    | nil => rw [List.nil_append, front_atom d v hd, List.takeWhile_cons_of_pos hd]; rfl
    | cons c r =>
      have := htw
      rw [List.cons_append] at this ⊢
      rw [front_atom c _ (hn c (by simp)), this]
  rw [scan_cons _ hne, hf]
  congr 1
  congr 1
  show (n ++ d :: v).drop (n ++ d :: v.takeWhile atomB).length = _
  conv => lhs; rw [← List.takeWhile_append_dropWhile (p := atomB) (l := v)]
  rw [show n ++ d :: (v.takeWhile atomB ++ v.dropWhile atomB) = (n ++ d :: v.takeWhile atomB) ++ v.dropWhile atomB by simp, List.takeWhile_append_dropWhile, List.drop_left' rfl]
end Go.Proofs.YtdinachiiimngaaGreatDoor.CtP
namespace Go.Proofs.YtdinachiiimngaaGreatDoor
open Go.ChangeShapes Go.WideShapes Go.ChangeAt Go.RowKit

open TokP

theorem un_esc1 (l : List UInt8) (k : Nat) (d : UInt8) (h : l[k]? = some 92) (h2 : l[k + 1]? = some d) : unescS false (l.drop k) = d :: unescS false (l.drop (k + 2)) := by
  rw [cons_at l k 92 h, cons_at l (k + 1) d h2, unescS, if_pos rfl, unescS]
theorem un_esc0 (l : List UInt8) (k : Nat) (h : l[k]? = some 92) (h2 : l.length ≤ k + 1) : unescS false (l.drop k) = unescS false (l.drop (k + 2)) := by
  rw [cons_at l k 92 h, List.drop_eq_nil_of_le h2, List.drop_eq_nil_of_le (by omega)]; rfl
theorem un_break (l : List UInt8) (k : Nat) (c : UInt8) (h : l[k]? = some c) (h2 : c = 10 ∨ c = 13) : unescS false (l.drop k) = unescS false (l.drop (k + 1)) := by
  rw [cons_at l k c h, unescS, if_neg (by rcases h2 with rfl | rfl <;> decide), if_pos h2]
theorem un_plain (l : List UInt8) (k : Nat) (c : UInt8) (h : l[k]? = some c) (h1 : c ≠ 92) (h2 : ¬ (c = 10 ∨ c = 13)) : unescS false (l.drop k) = c :: unescS false (l.drop (k + 1)) := by
  rw [cons_at l k c h, unescS, if_neg h1, if_neg h2]
/-- The value of a token of any kind. -/
def valueI (K : Int) (l : List UInt8) : List UInt8 := if (K = 2 ∨ K = 3) ∧ 2 ≤ l.length then unescS false (l.drop 1).dropLast else l
theorem value_tok (t : Tok) : valueI (t.kind : Nat) t.text = valueL t := by
  unfold valueI valueL
  have : (((t.kind : Nat) : Int) = 2 ∨ ((t.kind : Nat) : Int) = 3) ↔ (t.kind = 2 ∨ t.kind = 3) := by omega
  simp only [this]
theorem inner_is (T : ByteArray) (h : 2 ≤ T.size) : T.extract 1 (T.size - 1) = strL (T.data.toList.drop 1).dropLast := by
  rw [part_of T 1 (T.size - 1) (by omega) (by omega), List.dropLast_eq_take, List.length_drop, ← size_list]
theorem value_yes (K : Int) (l : List UInt8) (h : K = 2 ∨ K = 3) (h2 : 2 ≤ l.length) : valueI K l = unescS false (l.drop 1).dropLast := by
  unfold valueI; rw [if_pos ⟨h, h2⟩]
theorem value_no (K : Int) (l : List UInt8) (h : ¬ ((K = 2 ∨ K = 3) ∧ 2 ≤ l.length)) : valueI K l = l := by
  unfold valueI; rw [if_neg h]
theorem esc_at (l : List UInt8) (k : Nat) (c : UInt8) (h : l[k]? = some c) : escL (l.drop k) = if held c = true then 92 :: c :: escL (l.drop (k + 1)) else c :: escL (l.drop (k + 1)) := by
  rw [cons_at l k c h, escL]
theorem esc_yes {l O R : List UInt8} {k : Nat} {c : UInt8} (h : l[k]? = some c) (hc : held c = true) (he : O ++ escL (l.drop k) = R) : (O ++ [92] ++ [c]) ++ escL (l.drop (k + 1)) = R := by
  rw [← he, esc_at l k c h, if_pos hc, List.append_assoc, List.append_assoc]; rfl
theorem esc_no {l O R : List UInt8} {k : Nat} {c : UInt8} (h : l[k]? = some c) (hc : held c = false) (he : O ++ escL (l.drop k) = R) : (O ++ [c]) ++ escL (l.drop (k + 1)) = R := by
  rw [← he, esc_at l k c h, if_neg (by rw [hc]; exact Bool.false_ne_true), List.append_assoc]; rfl
end Go.Proofs.YtdinachiiimngaaGreatDoor
namespace Go.Proofs.YtdinachiiimngaaGreatDoor.CtP
open TokP AdrP

theorem upC_at {d : UInt8} {n : List UInt8} (h : d ∉ n) (r : List UInt8) : upC d (n ++ d :: r) = n ∧ behind d (n ++ d :: r) = r := by
  have h1 : upC d (n ++ d :: r) = n := by
    unfold upC
    rw [List.takeWhile_append_of_pos (fun c hc => by simp; rintro rfl; exact h hc), List.takeWhile_cons_of_neg (by simp), List.append_nil]
  refine ⟨h1, ?_⟩
  unfold behind
  rw [h1, ← List.drop_drop, List.drop_left' rfl]
  rfl
theorem pairV_mix (v1 v2 : List UInt8) (h : Mix v2) : pairV v1 (scanL v2) = v1 ++ v2 := by
  have hm := mix_scan v2 h
  have hj := join_scan v2
  generalize scanL v2 = q at hm hj
  cases q with
  | nil =>
    have : v2 = [] := hj.symm
    rw [this, List.append_nil]; rfl
  | cons u r =>
    rw [pairV, if_neg (fun e => ?_), hj]
    rcases hm u (by simp) with h | h
    · rw [h] at e; exact absurd e.2 (by decide)
    · rw [h] at e; exact absurd e.2 (by decide)
/-- A name that may be written. -/
def NameW (n : List UInt8) : Prop := wordW n = true ∧ n.map lowA = n ∧ 46 ∉ n
theorem word_mem {n : List UInt8} (h : wordW n = true) : n ≠ [] ∧ ∀ c ∈ n, wordB c = true := by
  unfold wordW at h
  rw [Bool.and_eq_true, Bool.not_eq_true', List.isEmpty_eq_false_iff, List.all_eq_true] at h
  exact h
theorem name_atoms {n : List UInt8} (h : NameW n) : n ≠ [] ∧ (∀ c ∈ n, atomB c = true) ∧ 61 ∉ n ∧ 42 ∉ n := by
  obtain ⟨h1, h2⟩ := word_mem h.1
  refine ⟨h1, fun c hc => ?_, fun hc => (word_all 61 (h2 61 hc)).2.1 rfl, fun hc => (word_all 42 (h2 42 hc)).2.2.1 rfl⟩
  rcases (word_all c (h2 c hc)).1 with h3 | rfl
  · exact h3
  · exact absurd hc h.2.2
def wideV (v : List UInt8) : Bool := !plainV v && !quotedV v
def valW (v : List UInt8) : List UInt8 := if wideV v = true then utf8N ++ 39 :: 39 :: pctE v else v
def parW (p : List UInt8 × List UInt8) : Par := ⟨p.1, none, wideV p.2, valW p.2⟩
theorem told_plain (num : List UInt8 → Option Nat) {n : List UInt8} (h : 42 ∉ n) (v : List UInt8) : toldP num n v = ⟨n, none, false, v⟩ := by
  have hw : wideB n = false := by
    unfold wideB
    rw [Bool.and_eq_false_iff]
    refine .inr ?_
    rw [beq_eq_false_iff_ne]
    intro e
    exact h (List.mem_of_getLast? e)
  unfold toldP
  rw [hw]
  simp only [Bool.false_eq_true, if_false]
  rw [if_neg h]
theorem told_wide (num : List UInt8 → Option Nat) {n : List UInt8} (hn : n ≠ []) (h : 42 ∉ n) (v : List UInt8) : toldP num (n ++ [42]) v = ⟨n, none, true, v⟩ := by
  have hw : wideB (n ++ [42]) = true := by
    unfold wideB
    have := List.length_pos_iff.2 hn
    rw [List.length_append, decide_eq_true (by rw [List.length_singleton]; omega), List.getLast?_concat]
    rfl
  unfold toldP
  rw [hw]
  simp only [if_true]
  rw [List.dropLast_concat, if_neg h]
theorem pair_named (num : List UInt8 → Option Nat) (n v1 : List UInt8) (h61 : 61 ∉ n) (hn : n ≠ []) (r : List Tok) : pairP num [] (⟨1, n ++ 61 :: v1⟩ :: r) = some (toldP num (n.map lowA) (pairV v1 r)) := by
  obtain ⟨e1, e2⟩ := upC_at h61 v1
  rw [pairP, if_pos ⟨rfl, by simp⟩, if_neg (by rw [e1]; simpa using hn), e1, e2, List.nil_append]
theorem plain_mix {v : List UInt8} (h : plainV v = true) : Mix v := fun c hc => by
  unfold plainV at h
  rw [Bool.and_eq_true, List.all_eq_true] at h
  exact plain_all c (h.2 c hc)
theorem wide_mix (v : List UInt8) : Mix (utf8N ++ 39 :: 39 :: pctE v) := by
  refine mix_app (fun c hc => ?_) (fun c hc => ?_)
  · revert c; decide
  · rw [List.mem_cons, List.mem_cons] at hc
    rcases hc with rfl | rfl | hc
    · exact .inl (by decide)
    · exact .inl (by decide)
    · unfold pctE at hc
      rw [List.mem_flatMap] at hc
      obtain ⟨b, _, hc⟩ := hc
      exact (pct_all b c hc).1
theorem quoted_shown {v : List UInt8} (h : quotedV v = true) : shown v = true := by
  unfold quotedV at h
  unfold shown
  rw [List.all_eq_true] at h ⊢
  intro c hc
  have := h c hc
  rw [Bool.and_eq_true, decide_eq_true_eq, decide_eq_true_eq] at this
  rw [Bool.and_eq_true, decide_eq_true_eq, bne_iff_ne]
  exact ⟨this.1, by rintro rfl; exact absurd this.2 (by decide)⟩
/-- A written row: its tokens and its parameter. -/
theorem pair_row (num : List UInt8 → Option Nat) (p : List UInt8 × List UInt8) (hp : NameW p.1) : pairP num [] (scanL (rowW p)) = some (parW p) ∧ (∀ t ∈ scanL (rowW p), Fine t) ∧ HeadNot TokP.blank (rowW p) := by
  obtain ⟨n, v⟩ := p
  obtain ⟨hne, hat, h61, h42⟩ := name_atoms hp
  have hlow : n.map lowA = n := hp.2.1
  have hhead : ∀ x, HeadNot TokP.blank (n ++ x) := fun x c r e => by
    cases n with
    | nil => exact absurd rfl hne
    | cons d m =>
      rw [List.cons_append] at e
      obtain ⟨rfl, _⟩ := List.cons.inj e
      exact (atom_not d (hat d (by simp))).1
  refine ⟨?_, ?_, hhead _⟩
  · show pairP num [] (scanL (n ++ fmtV v)) = some ⟨n, none, wideV v, valW v⟩
    unfold fmtV wideV valW wideV
    by_cases hpl : plainV v = true
    · rw [if_pos hpl, hpl]
      obtain ⟨v1, v2, hv, hs, _⟩ := first_tok n 61 v hat (by decide)
      have hm : Mix v2 := fun c hc => plain_mix hpl c (by rw [hv]; exact List.mem_append_right _ hc)
      rw [hs, pair_named num n v1 h61 hne, hlow, told_plain num h42, pairV_mix v1 v2 hm, ← hv]
      rfl
    · have hpf : plainV v = false := by simpa using hpl
      rw [if_neg hpl, hpf]
      by_cases hq : quotedV v = true
      · rw [if_pos hq, hq, esc_same v (quoted_shown hq)]
        obtain ⟨v1, v2, hv, hs, _⟩ := first_tok n 61 [] hat (by decide)
        obtain ⟨rfl, rfl⟩ := List.append_eq_nil_iff.1 hv.symm
        obtain ⟨q1, q2⟩ := quoted_one v
        have hsc : scanL (n ++ 61 :: 34 :: (escL v ++ [34])) = [⟨1, n ++ [61]⟩, ⟨2, 34 :: (escL v ++ [34])⟩] := by
          rw [show n ++ 61 :: 34 :: (escL v ++ [34]) = (n ++ [61]) ++ (34 :: (escL v ++ [34])) by simp, scan_app _ _ (fun t ht => ?_), hs, q1]
          · rfl
          · rw [hs] at ht
            obtain rfl : (⟨1, n ++ [61]⟩ : Tok) = t := by rw [scan_nil] at ht; simpa using ht
            exact fine_ends (.inl rfl) (headNot_cons _ (by decide))
        rw [hsc, pair_named num n [] h61 hne, hlow, told_plain num h42]
        rw [pairV, if_pos ⟨rfl, rfl⟩, q2]
        rfl
      · have hqf : quotedV v = false := by simpa using hq
        rw [if_neg hq, hqf]
        have hat2 : ∀ c ∈ n ++ [42], atomB c = true := fun c hc => by
          rw [List.mem_append, List.mem_singleton] at hc
          rcases hc with hc | rfl
          · exact hat c hc
          · decide
        obtain ⟨v1, v2, hv, hs, _⟩ := first_tok (n ++ [42]) 61 (utf8N ++ 39 :: 39 :: pctE v) hat2 (by decide)
        have hm : Mix v2 := fun c hc => wide_mix v c (by rw [hv]; exact List.mem_append_right _ hc)
        have h61b : 61 ∉ n ++ [42] := fun hc => by
          rw [List.mem_append, List.mem_singleton] at hc
          rcases hc with hc | hc
          · exact h61 hc
          · exact absurd hc (by decide)
        have hl2 : (n ++ [42]).map lowA = n ++ [42] := by rw [List.map_append, hlow]; rfl
        rw [show n ++ 42 :: 61 :: (utf8N ++ 39 :: 39 :: pctE v) = (n ++ [42]) ++ 61 :: (utf8N ++ 39 :: 39 :: pctE v) by simp, hs, pair_named num (n ++ [42]) v1 h61b (by simp), hl2, told_wide num hne h42, pairV_mix v1 v2 hm, ← hv]
        rfl
  · show ∀ t ∈ scanL (n ++ fmtV v), Fine t
    have hmn : Mix n := fun c hc => .inl (hat c hc)
    unfold fmtV
    by_cases hpl : plainV v = true
    · rw [if_pos hpl]
      exact fun t ht => (mix_scan _ (mix_app hmn (mix_app (a := [61]) (fun c hc => .inl (by rw [List.mem_singleton.1 hc]; decide)) (plain_mix hpl))) t ht).fine
    · rw [if_neg hpl]
      by_cases hq : quotedV v = true
      · rw [if_pos hq, esc_same v (quoted_shown hq)]
        intro t ht
        rw [show n ++ 61 :: 34 :: (escL v ++ [34]) = (n ++ [61]) ++ (34 :: (escL v ++ [34])) by simp] at ht
        have hm1 : Mix (n ++ [61]) := mix_app hmn (fun c hc => .inl (by rw [List.mem_singleton.1 hc]; decide))
        rw [scan_app _ _ (fun u hu => fine_ends (mix_scan _ hm1 u (List.mem_of_getLast? hu)).fine (headNot_cons _ (by decide))), List.mem_append, (quoted_one v).1, List.mem_singleton] at ht
        rcases ht with ht | rfl
        · exact (mix_scan _ hm1 t ht).fine
        · exact .inr (.inl rfl)
      · rw [if_neg hq]
        exact fun t ht => (mix_scan _ (mix_app hmn (mix_app (a := [42, 61]) (fun c hc => .inl (by revert c; decide)) (wide_mix v))) t ht).fine
/-! ### Rows of a written line -/
theorem rows_cut : ∀ (A B now : List Tok), (∀ t ∈ A, isS t 59 = false) → rowsT now (A ++ ⟨4, [59]⟩ :: B) = (now ++ A) :: rowsT [] B
  | [], B, now, _ => by rw [List.nil_append, rowsT, if_pos (by decide), List.append_nil]
  | t :: A, B, now, h => by
    rw [List.cons_append, rowsT, if_neg (by rw [h t (by simp)]; exact Bool.false_ne_true), rows_cut A B _ (fun u hu => h u (by simp [hu])), List.append_assoc]
    rfl
theorem rows_end : ∀ (A now : List Tok), (∀ t ∈ A, isS t 59 = false) → rowsT now A = [now ++ A]
  | [], now, _ => by rw [rowsT, List.append_nil]
  | t :: A, now, h => by
    rw [rowsT, if_neg (by rw [h t (by simp)]; exact Bool.false_ne_true), rows_end A _ (fun u hu => h u (by simp [hu])), List.append_assoc]
    rfl
theorem scan_semi (F X : List UInt8) (h : ∀ t ∈ scanL F, Fine t) (hX : HeadNot TokP.blank X) : scanL (F ++ 59 :: 32 :: X) = scanL F ++ ⟨4, [59]⟩ :: ⟨6, [32]⟩ :: scanL X := by
  rw [scan_app F _ (fun t ht => fine_ends (h t (List.mem_of_getLast? ht)) (headNot_cons _ (by decide)))]
  congr 1
  rw [scan_cons _ (by simp)]
  have h1 : frontL (59 :: 32 :: X) = ⟨4, [59]⟩ := by rw [frontL, if_neg (by decide), if_neg (by decide), if_pos (by decide)]
  rw [h1]
  congr 1
  show scanL (32 :: X) = _
  have h2 : frontL (32 :: X) = ⟨6, [32]⟩ := by
    rw [frontL, if_pos (by decide)]
    have := while_all (p := TokP.blank) (a := [32]) (b := X) (by decide) hX
    rw [List.singleton_append] at this
    rw [this]
  rw [scan_cons _ (by simp), h2]
  rfl
theorem line_rows (num : List UInt8 → Option Nat) : ∀ (l : List (List UInt8 × List UInt8)) (F : List UInt8), (∀ p ∈ l, NameW p.1) → (∀ t ∈ scanL F, Fine t) → rowsT [] (bareT (scanL (lineW F l))) = scanL F :: l.map (fun p => scanL (rowW p))
  | [], F, _, hF => by
    unfold lineW
    rw [List.flatMap_nil, List.append_nil, bare_fine _ hF, rows_end _ _ (fun t ht => fine_not (hF t ht) (by decide) (by decide))]
    rfl
  | p :: l, F, hl, hF => by
    obtain ⟨_, h2, h3⟩ := pair_row num p (hl p (by simp))
    have ih := line_rows num l (rowW p) (fun q hq => hl q (by simp [hq])) h2
    have hX : HeadNot TokP.blank (lineW (rowW p) l) := fun c r e => by
      have hne : rowW p ≠ [] := by
        obtain ⟨h, _⟩ := name_atoms (hl p (by simp))
        unfold rowW
        simp [h]
      unfold lineW at e
      obtain ⟨d, m, hd⟩ := List.exists_cons_of_ne_nil hne
      rw [hd, List.cons_append] at e
      obtain ⟨rfl, _⟩ := List.cons.inj e
      exact h3 d m hd
    have he : lineW F (p :: l) = F ++ 59 :: 32 :: lineW (rowW p) l := by
      unfold lineW
      rw [List.flatMap_cons]
      simp
    rw [he, scan_semi F _ hF hX, bare_app, bare_fine _ hF]
    have hb : bareT (⟨4, [59]⟩ :: ⟨6, [32]⟩ :: scanL (lineW (rowW p) l)) = ⟨4, [59]⟩ :: bareT (scanL (lineW (rowW p) l)) := rfl
    rw [hb, rows_cut _ _ _ (fun t ht => fine_not (hF t ht) (by decide) (by decide)), ih]
    rfl
/-! ### The list of parameters -/
theorem find_par (q : Par → Bool) : ∀ (l : List (List UInt8 × List UInt8)), (l.map Prod.fst).Nodup → ∀ p ∈ l, (l.map parW).find? (fun x => x.name == p.1 && q x) = if q (parW p) = true then some (parW p) else none
  | [], _, p, hp => absurd hp (by simp)
  | a :: l, hd, p, hp => by
    rw [List.map_cons, List.nodup_cons] at hd
    rw [List.map_cons, List.find?_cons]
    by_cases ha : a.1 = p.1
    · have hap : p = a := by
        rcases List.mem_cons.1 hp with rfl | hp
        · rfl
        · exact absurd (List.mem_map.2 ⟨p, hp, rfl⟩) (ha ▸ hd.1)
      subst hap
      by_cases hq : q (parW p) = true
      · rw [if_pos hq]
        simp [parW, show q ⟨p.1, none, wideV p.2, valW p.2⟩ = true from hq]
      · rw [if_neg hq]
        have hqf : q ⟨p.1, none, wideV p.2, valW p.2⟩ = false := by simpa [parW] using hq
        simp only [parW, hqf, Bool.and_false]
        rw [List.find?_eq_none]
        intro x hx
        obtain ⟨b, hb, rfl⟩ := List.mem_map.1 hx
        simp only [Bool.and_eq_true, beq_iff_eq, not_and]
        intro hn
        exact absurd (List.mem_map.2 ⟨b, hb, hn⟩) hd.1
    · have hpl : p ∈ l := by
        rcases List.mem_cons.1 hp with rfl | hp
        · exact absurd rfl ha
        · exact hp
      have : ((parW a).name == p.1) = false := beq_eq_false_iff_ne.2 ha
      rw [this, Bool.false_and]
      exact find_par q l hd.2 p hpl
theorem split_utf8 (x : List UInt8) : splitQ (utf8N ++ 39 :: 39 :: x) = (utf8N, x) := by
  obtain ⟨h1, h2⟩ := upC_at (d := 39) (n := utf8N) (by decide) (39 :: x)
  obtain ⟨h3, h4⟩ := upC_at (d := 39) (n := []) (by simp) x
  unfold splitQ
  rw [h1, h2, if_pos ⟨by simp, by simp⟩]
  exact congrArg (Prod.mk utf8N) h4
theorem value_par (rep : List UInt8 → List UInt8) (dec : List UInt8 → List UInt8 → List UInt8) (l : List (List UInt8 × List UInt8)) (hd : (l.map Prod.fst).Nodup) (p : List UInt8 × List UInt8) (hp : p ∈ l) (hv : dec utf8N p.2 = p.2) : valueP rep dec (l.map parW) p.1 = some p.2 := by
  have h0 : firstP (l.map parW) p.1 (some 0) = none := (find_par (fun x => x.sec == some 0) l hd p hp).trans (if_neg (by simp [parW]))
  have h1 := find_par (fun x => x.sec == none && x.wide) l hd p hp
  have h2 : firstP (l.map parW) p.1 none = some (parW p) := (find_par (fun x => x.sec == none) l hd p hp).trans (if_pos (by simp [parW]))
  have h1' : (l.map parW).find? (fun x => x.name == p.1 && x.sec == none && x.wide) = if wideV p.2 = true then some (parW p) else none := by
    have e : (fun x : Par => x.name == p.1 && x.sec == none && x.wide) = (fun x : Par => x.name == p.1 && (x.sec == none && x.wide)) := funext fun x => Bool.and_assoc _ _ _
    rw [e, h1]
    rfl
  unfold valueP
  rw [h0, h1', h2]
  by_cases hw : wideV p.2 = true
  · rw [if_pos hw]
    show some (meantP rep dec (splitQ (valW p.2)).1 (pctL (splitQ (valW p.2)).2)) = some p.2
    unfold valW
    rw [if_pos hw, split_utf8, pct_back]
    unfold meantP
    rw [if_neg (show ¬ utf8N = [] by decide), hv]
  · rw [if_neg hw]
    show some (valW p.2) = some p.2
    unfold valW
    rw [if_neg hw]
theorem list_pars (rep : List UInt8 → List UInt8) (dec : List UInt8 → List UInt8 → List UInt8) (all : List Par) : ∀ (l : List (List UInt8 × List UInt8)) (seen : List (List UInt8)), (l.map Prod.fst).Nodup → (∀ p ∈ l, p.1 ∉ seen) → (∀ p ∈ l, valueP rep dec all p.1 = some p.2) → listG rep dec all seen (l.map parW) = l
  | [], seen, _, _, _ => rfl
  | p :: l, seen, hd, hs, hv => by
    rw [List.map_cons, List.nodup_cons] at hd
    rw [List.map_cons, listG]
    have h1 : (parW p).name = p.1 := rfl
    rw [h1, if_neg (hs p (by simp)), hv p (by simp)]
    rw [list_pars rep dec all l (p.1 :: seen) hd.2 (fun q hq h => ?_) (fun q hq => hv q (by simp [hq]))]
    · rfl
    · rw [List.mem_cons] at h
      rcases h with h | h
      · exact hd.1 (h ▸ List.mem_map.2 ⟨q, hq, rfl⟩)
      · exact hs q (by simp [hq]) h
theorem list_back (rep : List UInt8 → List UInt8) (dec : List UInt8 → List UInt8 → List UInt8) (num : List UInt8 → Option Nat) (l : List (List UInt8 × List UInt8)) (hl : ∀ p ∈ l, NameW p.1 ∧ dec utf8N p.2 = p.2) (hd : (l.map Prod.fst).Nodup) : listP rep dec num (l.map (fun p => scanL (rowW p))) = l := by
  have hf : (l.map (fun p => scanL (rowW p))).filterMap (pairP num []) = l.map parW := by
    rw [List.filterMap_map]
    have : ∀ m : List (List UInt8 × List UInt8), (∀ p ∈ m, NameW p.1) → m.filterMap ((pairP num []) ∘ (fun p => scanL (rowW p))) = m.map parW := by
      intro m
      induction m with
      | nil => intro _; rfl
      | cons p m ih =>
        intro h
        rw [List.filterMap_cons, List.map_cons, Function.comp, (pair_row num p (h p (by simp))).1]
        exact congrArg (parW p :: ·) (ih (fun q hq => h q (by simp [hq])))
    exact this l (fun p hp => (hl p hp).1)
  unfold listP
  rw [hf]
  exact list_pars rep dec _ l [] hd (fun p _ => by simp) (fun p hp => value_par rep dec l hd p hp (hl p hp).2)
/-! ### CtypeBack -/
structure RightC (dec : List UInt8 → List UInt8 → List UInt8) (kind sub : List UInt8) (l : List (List UInt8 × List UInt8)) : Prop where
  lkind : kind.map lowA = kind
  lsub : sub.map lowA = sub
  wkind : wordW kind = true
  wsub : wordW sub = true
  each : ∀ p ∈ l, NameW p.1 ∧ dec utf8N p.2 = p.2
  apart : (l.map Prod.fst).Nodup
theorem word_mix {n : List UInt8} (h : wordW n = true) : Mix n ∧ 47 ∉ n := by
  obtain ⟨_, h2⟩ := word_mem h
  exact ⟨fun c hc => (word_all c (h2 c hc)).1, fun hc => (word_all 47 (h2 47 hc)).2.2.2.1 rfl⟩
theorem ct_back (rep : List UInt8 → List UInt8) (dec : List UInt8 → List UInt8 → List UInt8) (num : List UInt8 → Option Nat) (kind sub : List UInt8) (l : List (List UInt8 × List UInt8)) (h : RightC dec kind sub l) :
    parseC rep dec num (lineW (kind ++ 47 :: sub) l) = ((kind, sub, l), true) ∧ dispC rep dec num (lineW kind l) = (kind, l) := by
  obtain ⟨m1, n1⟩ := word_mix h.wkind
  obtain ⟨m2, _⟩ := word_mix h.wsub
  have hm : Mix (kind ++ 47 :: sub) := mix_app m1 (mix_app (a := [47]) (fun c hc => .inl (by rw [List.mem_singleton.1 hc]; decide)) m2)
  have r1 := line_rows num l (kind ++ 47 :: sub) (fun p hp => (h.each p hp).1) (fun t ht => (mix_scan _ hm t ht).fine)
  have r2 := line_rows num l kind (fun p hp => (h.each p hp).1) (fun t ht => (mix_scan _ m1 t ht).fine)
  have hL := list_back rep dec num l h.each h.apart
  obtain ⟨e1, e2⟩ := upC_at n1 sub
  constructor
  · unfold parseC
    rw [r1]
    show (if 47 ∈ joinL (scanL (kind ++ 47 :: sub)) ∧ wordW (upC 47 (joinL (scanL (kind ++ 47 :: sub)))) = true ∧ wordW (behind 47 (joinL (scanL (kind ++ 47 :: sub)))) = true then (((upC 47 (joinL (scanL (kind ++ 47 :: sub)))).map lowA, (behind 47 (joinL (scanL (kind ++ 47 :: sub)))).map lowA, listP rep dec num (l.map (fun p => scanL (rowW p)))), true) else (textPlain, false)) = _
    rw [join_scan, e1, e2, if_pos ⟨by simp, h.wkind, h.wsub⟩, h.lkind, h.lsub, hL]
  · unfold dispC
    rw [r2]
    show ((if wordW ((joinL (scanL kind)).map lowA) = true then (joinL (scanL kind)).map lowA else []), listP rep dec num (l.map (fun p => scanL (rowW p)))) = _
    rw [join_scan, h.lkind, if_pos h.wkind, hL]
end Go.Proofs.YtdinachiiimngaaGreatDoor.CtP
namespace Go.Proofs.YtdinachiiimngaaGreatDoor.AdrP
open TokP

/-! ### Finds -/
def findN (c : UInt8) (l : List Tok) : Nat := (upToS c l).length
theorem find_le (c : UInt8) (l : List Tok) : findN c l ≤ l.length := by
  unfold findN upToS
  have := congrArg List.length (List.takeWhile_append_dropWhile (p := fun t => !isS t c) (l := l))
  rw [List.length_append] at this
  omega
theorem up_take (c : UInt8) (l : List Tok) : upToS c l = l.take (findN c l) := by
  unfold findN upToS
  have h := List.takeWhile_append_dropWhile (p := fun t => !isS t c) (l := l)
  generalize l.takeWhile (fun t => !isS t c) = X at h ⊢
  rw [← h, List.take_left' rfl]
theorem from_drop (c : UInt8) (l : List Tok) : fromS c l = l.drop (findN c l) := by
  unfold findN upToS fromS
  have h := List.takeWhile_append_dropWhile (p := fun t => !isS t c) (l := l)
  generalize l.takeWhile (fun t => !isS t c) = X at h ⊢
  generalize l.dropWhile (fun t => !isS t c) = Y at h ⊢
  rw [← h, List.drop_left' rfl]
theorem find_hit {c : UInt8} {l : List Tok} {k : Nat} {t : Tok} (hk : l[k]? = some t) (ht : isS t c = true) (h : ∀ i, i < k → ∀ u, l[i]? = some u → isS u c = false) : findN c l = k := by
  obtain ⟨h1, h2⟩ := List.getElem?_eq_some_iff.1 hk
  have e : l = l.take k ++ t :: l.drop (k + 1) := by
    rw [← h2, ← List.drop_eq_getElem_cons h1, List.take_append_drop]
  have := (upTo_at c (l.take k) t (l.drop (k + 1)) (fun u hu => by
    obtain ⟨i, hi, rfl⟩ := List.mem_iff_getElem.1 hu
    have hi2 : i < k := by rw [List.length_take] at hi; omega
    refine h i hi2 _ ?_
    rw [List.getElem_take, List.getElem?_eq_getElem (by omega)]) ht).1
  rw [← e] at this
  unfold findN
  rw [this, List.length_take]; omega
theorem find_no {c : UInt8} {l : List Tok} (h : ∀ (i : Nat) (u : Tok), l[i]? = some u → isS u c = false) : findN c l = l.length := by
  have := upTo_no c l (fun t ht => by
    obtain ⟨i, hi, rfl⟩ := List.mem_iff_getElem.1 ht
    exact h i _ (List.getElem?_eq_getElem hi))
  rw [from_drop] at this
  have h1 := find_le c l
  have h2 := congrArg List.length this
  rw [List.length_drop, List.length_nil] at h2
  omega
theorem find_at {c : UInt8} {l : List Tok} (h : findN c l < l.length) : l[findN c l]? = some ⟨4, [c]⟩ := by
  induction l with
  | nil => simp at h
  | cons t r ih =>
    by_cases hc : isS t c = true
    · have e : findN c (t :: r) = 0 := by unfold findN upToS; rw [List.takeWhile_cons_of_neg (by simp [hc])]; rfl
      rw [e, (isS_iff t c).1 hc]; rfl
    · have e : findN c (t :: r) = findN c r + 1 := by unfold findN upToS; rw [List.takeWhile_cons_of_pos (by simp [hc])]; rfl
      rw [e] at h ⊢
      rw [List.getElem?_cons_succ]
      exact ih (by rw [List.length_cons] at h; omega)
/-- As the program's find answers. -/
def findI (c : UInt8) (l : List Tok) : Int := if findN c l < l.length then (findN c l : Int) else -1
theorem findI_no {c : UInt8} {l : List Tok} (h : fromS c l = []) : findI c l = -1 := by
  rw [from_drop, List.drop_eq_nil_iff] at h
  unfold findI
  rw [if_neg (by omega)]
theorem findI_yes {c : UInt8} {l : List Tok} {x : Tok} {r : List Tok} (h : fromS c l = x :: r) : ∃ k, k < l.length ∧ findI c l = k ∧ findN c l = k ∧ l.take k = upToS c l ∧ l.drop (k + 1) = r := by
  rw [from_drop] at h
  have hl : findN c l < l.length := by
    have := congrArg List.length h
    rw [List.length_drop, List.length_cons] at this
    omega
  refine ⟨findN c l, hl, by unfold findI; rw [if_pos hl], rfl, (up_take c l).symm, ?_⟩
  rw [← List.drop_drop, h]; rfl
/-! ### The first piece -/
def stF : Bool → Nat → Nat → List Tok → Nat × Nat
  | _, s, k, [] => (s, k)
  | true, s, k, t :: r => stF (!isS t 62) s (k + 1) r
  | false, s, k, t :: r => if isS t 44 = true ∨ isS t 59 = true then (s, k) else stF (isS t 60) (if isS t 58 = true then k + 1 else s) (k + 1) r
theorem cut_more (full : List Tok) (s k : Nat) (t : Tok) (hk : full[k]? = some t) (hs : s ≤ k) : (full.take k).drop s ++ [t] = (full.take (k + 1)).drop s := by
  have hl : (full.take k).length = k := by
    rw [List.length_take]
    have := (List.getElem?_eq_some_iff.1 hk).1
    omega
  rw [List.take_add_one, hk, List.drop_append_of_le_length (by rw [hl]; exact hs)]
  rfl
theorem st_spec (full : List Tok) : ∀ (l : List Tok) (b : Bool) (s k : Nat), full.drop k = l → s ≤ k → k ≤ full.length →
    (stF b s k l).1 ≤ (stF b s k l).2 ∧ (stF b s k l).2 ≤ full.length ∧
    pcs b ((full.take k).drop s) l = ((full.take (stF b s k l).2).drop (stF b s k l).1) :: (if (stF b s k l).2 < full.length then pcs false [] (full.drop ((stF b s k l).2 + 1)) else [])
  | [], b, s, k, h, hs, hk => by
    have hl : full.length ≤ k := by rw [List.drop_eq_nil_iff] at h; exact h
    have e : stF b s k [] = (s, k) := by cases b <;> rfl
    have e2 : pcs b ((full.take k).drop s) [] = [(full.take k).drop s] := by cases b <;> rfl
    rw [e, e2]
    dsimp only
    rw [if_neg (by omega)]
    exact ⟨hs, hk, rfl⟩
  | t :: r, b, s, k, h, hs, hk => by
    have hlt : k < full.length := by
      have := congrArg List.length h
      rw [List.length_drop, List.length_cons] at this
      omega
    have ht : full[k]? = some t := by
      have := congrArg (fun x => x[0]?) h
      simp only [List.getElem?_drop, List.getElem?_cons_zero, Nat.add_zero] at this
      exact this
    have hr : full.drop (k + 1) = r := by rw [← List.drop_drop, h]; rfl
    cases b with
    | true =>
      rw [stF, pcs, cut_more full s k t ht hs]
      exact st_spec full r _ s (k + 1) hr (by omega) hlt
    | false =>
      rw [stF, pcs]
      by_cases hx : isS t 44 = true ∨ isS t 59 = true
      · rw [if_pos hx, if_pos hx]
        dsimp only
        rw [if_pos hlt, hr]
        exact ⟨hs, hk, rfl⟩
      · rw [if_neg hx, if_neg hx]
        by_cases h58 : isS t 58 = true
        · rw [if_pos h58, if_pos h58]
          have := st_spec full r (isS t 60) (k + 1) (k + 1) hr (Nat.le_refl _) hlt
          rw [show (full.take (k + 1)).drop (k + 1) = [] from List.drop_eq_nil_of_le (by rw [List.length_take]; omega)] at this
          exact this
        · rw [if_neg h58, if_neg h58, cut_more full s k t ht hs]
          exact st_spec full r _ s (k + 1) hr (by omega) hlt
/-- The first piece and what is left behind it. -/
theorem st_first (l : List Tok) : ∃ p q, stF false 0 0 l = (p, q) ∧ p ≤ q ∧ q ≤ l.length ∧ pcs false [] l = ((l.take q).drop p) :: (if q < l.length then pcs false [] (l.drop (q + 1)) else []) := by
  obtain ⟨h1, h2, h3⟩ := st_spec l l false 0 0 rfl (Nat.le_refl _) (Nat.zero_le _)
  exact ⟨_, _, rfl, h1, h2, h3⟩
theorem st_in (t : Tok) (r : List Tok) (s k : Nat) : stF true s k (t :: r) = stF (!isS t 62) s (k + 1) r := by rw [stF]
theorem st_end (t : Tok) (r : List Tok) (s k : Nat) (h : isS t 44 = true ∨ isS t 59 = true) : stF false s k (t :: r) = (s, k) := by rw [stF, if_pos h]
theorem st_go (t : Tok) (r : List Tok) (s k : Nat) (h : ¬ (isS t 44 = true ∨ isS t 59 = true)) : stF false s k (t :: r) = stF (isS t 60) (if isS t 58 = true then k + 1 else s) (k + 1) r := by rw [stF, if_neg h]
theorem parse_cons (x : List Tok) (p : List (List Tok)) : parseP (x :: p) = ((oneT x).toList ++ (parseP p).1, (x.isEmpty || (oneT x).isSome) && (parseP p).2) := by
  unfold parseP
  rw [List.filterMap_cons, List.all_cons]
  cases oneT x <;> rfl
theorem one_nil : oneT [] = none := rfl
/-! ### Words between dots, at a place of a list -/
theorem dots_word {ok : Tok → Bool} {l : List Tok} {k : Nat} {t : Tok} (h : l[k]? = some t) (ht : ok t = true) : dotsT ok true (l.drop k) = (dotsT ok false (l.drop (k + 1))).map (valueL t ++ ·) := by
  obtain ⟨h1, h2⟩ := List.getElem?_eq_some_iff.1 h
  rw [List.drop_eq_getElem_cons h1, h2, dotsT, if_pos ht]
theorem dots_word_no {ok : Tok → Bool} {l : List Tok} {k : Nat} {t : Tok} (h : l[k]? = some t) (ht : ok t = false) : dotsT ok true (l.drop k) = none := by
  obtain ⟨h1, h2⟩ := List.getElem?_eq_some_iff.1 h
  rw [List.drop_eq_getElem_cons h1, h2, dotsT, if_neg (by rw [ht]; exact Bool.false_ne_true)]
theorem dots_dot {ok : Tok → Bool} {l : List Tok} {k : Nat} {t : Tok} (h : l[k]? = some t) (ht : isS t 46 = true) : dotsT ok false (l.drop k) = (dotsT ok true (l.drop (k + 1))).map (valueL t ++ ·) := by
  obtain ⟨h1, h2⟩ := List.getElem?_eq_some_iff.1 h
  rw [List.drop_eq_getElem_cons h1, h2, dotsT, if_pos ht, (isS_iff t 46).1 ht]
  rfl
theorem dots_dot_no {ok : Tok → Bool} {l : List Tok} {k : Nat} {t : Tok} (h : l[k]? = some t) (ht : isS t 46 = false) : dotsT ok false (l.drop k) = none := by
  obtain ⟨h1, h2⟩ := List.getElem?_eq_some_iff.1 h
  rw [List.drop_eq_getElem_cons h1, h2, dotsT, if_neg (by rw [ht]; exact Bool.false_ne_true)]
theorem map_map_app (o : Option (List UInt8)) (a b : List UInt8) : (o.map (b ++ ·)).map (a ++ ·) = o.map ((a ++ b) ++ ·) := by
  cases o with
  | none => rfl
  | some x => simp
/-! ### Dot-atoms by their tokens -/
theorem dot_text : ∀ (a : List UInt8) (s : List UInt8) (b : Bool), a ≠ [] → (∀ c ∈ a, atomB c = true) → dotA b (a ++ s) = dotA true s
  | [], _, _, h, _ => absurd rfl h
  | [c], s, b, _, h => by rw [List.cons_append, dotA, if_pos (h c (by simp))]; rfl
  | c :: d :: t, s, b, _, h => by
    rw [List.cons_append, dotA, if_pos (h c (by simp))]
    exact dot_text (d :: t) s true (by simp) (fun x hx => h x (by simp [hx]))
theorem take_all (p : UInt8 → Bool) (l : List UInt8) : ∀ c ∈ l.takeWhile p, p c = true := by
  intro c hc
  have := List.all_takeWhile (p := p) (l := l)
  rw [List.all_eq_true] at this
  exact this c hc
theorem front_atoms (s : List UInt8) (hs : s ≠ []) (h : (frontL s).kind = 1) : ∀ c ∈ (frontL s).text, atomB c = true := by
  obtain ⟨c, t, rfl⟩ := List.exists_cons_of_ne_nil hs
  have ha := ((front_kind c t).2.1 h).1
  rw [front_atom c t ha]
  exact take_all _ _
/-- Tokens of atoms between dots make up a dot-atom. -/
theorem dots_back : ∀ (n : Nat) (s : List UInt8), s.length ≤ n → ((dotsT atomT true (scanL s)).isSome = true → dotA false s = true) ∧ ((dotsT atomT false (scanL s)).isSome = true → dotA true s = true) := by
  intro n
  induction n with
  | zero =>
    intro s h
    obtain rfl : s = [] := List.eq_nil_of_length_eq_zero (by omega)
    exact ⟨fun h => absurd h (by decide), fun _ => rfl⟩
  | succ n ih =>
    intro s h
    by_cases hs : s = []
    · subst hs
      exact ⟨fun h => absurd h (by decide), fun _ => rfl⟩
    · have hpre := front_pre s
      have hpos := List.length_pos_iff.2 (front_pos s hs)
      have hd : (s.drop (frontL s).text.length).length ≤ n := by rw [List.length_drop]; omega
      obtain ⟨i1, i2⟩ := ih _ hd
      constructor
      · intro hp
        rw [scan_cons s hs, dotsT] at hp
        split at hp
        · rename_i hk
          rw [Option.isSome_map] at hp
          have hk1 : (frontL s).kind = 1 := by simpa [atomT] using hk
          rw [← hpre, dot_text _ _ _ (front_pos s hs) (front_atoms s hs hk1)]
          exact i2 hp
        · exact absurd hp (by decide)
      · intro hp
        rw [scan_cons s hs, dotsT] at hp
        split at hp
        · rename_i hk
          rw [Option.isSome_map] at hp
          have := (isS_iff _ _).1 hk
          have ht : (frontL s).text = [46] := by rw [this]
          rw [ht] at hpre i1 hp
          rw [← hpre]
          show dotA true (46 :: s.drop [(46 : UInt8)].length) = true
          rw [dotA, if_neg (by decide), if_pos ⟨rfl, rfl⟩]
          exact i1 hp
        · exact absurd hp (by decide)
theorem dot_tokens (s : List UInt8) : (dotsT atomT true (scanL s)).isSome = dotA false s := by
  rw [Bool.eq_iff_iff]
  constructor
  · exact (dots_back s.length s (Nat.le_refl _)).1
  · intro h
    rw [(dot_scan atomT (fun t ht => by unfold atomT; rw [ht]; rfl) s.length s (Nat.le_refl _) h).1]
    rfl
/-! ### Message ids by cuts -/
def solidB (s : List UInt8) : Bool := s.all (fun c => decide (32 < c.toNat) && c != 127)
theorem ids_none_shut : ∀ (s : List UInt8) (o : Option (List UInt8)), 62 ∉ s → idsF o s = []
  | [], o, _ => by cases o <;> rfl
  | c :: t, o, h => by
    simp only [List.mem_cons, not_or] at h
    have ih := fun o => ids_none_shut t o h.2
    cases o with
    | none =>
      rw [idsF]
      split
      · exact ih _
      · exact ih _
    | some x =>
      rw [idsF, if_neg (show ¬ c = 62 from fun e => h.1 e.symm)]
      split
      · exact ih _
      · split
        · exact ih _
        · exact ih _
theorem ids_last : ∀ (x z : List UInt8) (o : Option (List UInt8)), 62 ∉ x → idsF o (x ++ 60 :: z) = idsF (some []) z
  | [], z, o, _ => by
    cases o with
    | none => rw [List.nil_append, idsF, if_pos rfl]
    | some y => rw [List.nil_append, idsF, if_pos rfl]
  | c :: t, z, o, h => by
    simp only [List.mem_cons, not_or] at h
    have ih := fun o => ids_last t z o h.2
    cases o with
    | none =>
      rw [List.cons_append, idsF]
      split
      · exact ih _
      · exact ih _
    | some x =>
      rw [List.cons_append, idsF, if_neg (show ¬ c = 62 from fun e => h.1 e.symm)]
      split
      · exact ih _
      · split
        · exact ih _
        · exact ih _
theorem ids_tail : ∀ (y acc r : List UInt8), 60 ∉ y → 62 ∉ y → idsF (some acc) (y ++ 62 :: r) = (if solidB y = true ∧ 0 < (acc ++ y).length ∧ (acc ++ y).length ≤ 250 then [acc ++ y] else []) ++ idsF none r
  | [], acc, r, _, _ => by
    rw [List.nil_append, idsF, if_neg (by decide), if_pos rfl, List.append_nil]
    have : solidB [] = true := rfl
    rw [this]
    split
    · rename_i h; rw [if_pos ⟨rfl, h⟩]; rfl
    · rename_i h; rw [if_neg (fun e => h e.2)]; rfl
  | c :: y, acc, r, h60, h62 => by
    simp only [List.mem_cons, not_or] at h60 h62
    rw [List.cons_append, idsF, if_neg (fun e => h60.1 e.symm), if_neg (fun e => h62.1 e.symm)]
    have hs : solidB (c :: y) = ((decide (32 < c.toNat) && c != 127) && solidB y) := rfl
    by_cases hb : c.toNat ≤ 32 ∨ c = 127
    · rw [if_pos hb]
      have hs2 : solidB (c :: y) = false := by
        rw [hs]
        rcases hb with hb | hb
        · rw [decide_eq_false (by omega)]; rfl
        · rw [hb]; simp
      rw [hs2, if_neg (by simp), List.nil_append, ids_skip y _ h60.2, idsF, if_neg (by decide)]
    · rw [if_neg hb, ids_tail y (acc ++ [c]) r h60.2 h62.2]
      have hs2 : solidB (c :: y) = solidB y := by
        rw [hs, decide_eq_true (by omega), show (c != 127) = true by simp; exact fun e => hb (.inr e)]; rfl
      rw [hs2, show acc ++ [c] ++ y = acc ++ c :: y by simp]
/-- What stands behind the last angle bracket that opens, if one does. -/
def candL (b : List UInt8) : List (List UInt8) :=
  if 60 ∈ b then
    let y := (b.reverse.takeWhile (fun c => c != 60)).reverse
    if solidB y = true ∧ 0 < y.length ∧ y.length ≤ 250 then [y] else []
  else []
theorem ids_cut_no (b r : List UInt8) (_h62 : 62 ∉ b) (h : 60 ∉ b) : idsF none (b ++ 62 :: r) = idsF none r := by
  rw [ids_skip b _ h, idsF, if_neg (by decide)]
theorem ids_cut_yes (x y r : List UInt8) (h62 : 62 ∉ x ++ 60 :: y) (h : 60 ∉ y) : idsF none ((x ++ 60 :: y) ++ 62 :: r) = (if solidB y = true ∧ 0 < y.length ∧ y.length ≤ 250 then [y] else []) ++ idsF none r := by
  simp only [List.mem_append, List.mem_cons, not_or] at h62
  rw [List.append_assoc, List.cons_append, ids_last x _ none h62.1, ids_tail y [] r h h62.2.2, List.nil_append]
end Go.Proofs.YtdinachiiimngaaGreatDoor.AdrP
