/- The library's small functions on strings, as lists; a line without its ending; clean values. What the iterator's steps leave as it is; a strings.Builder. Put: a field's name and its clean value, folded. Where the header section ends, and how long its first field is: loops over the lines, left early. How long the first field of a string is: a loop over its lines, left at the first that continues nothing. A field out of its bytes. Parse: the fields of a header section, one by one. Join: the raw bytes of the fields in a row. The values of the fields with a name: what the iterator gives, one by one. -/
import Derived.Test.YtdinachiiimngaaGreatDoorK14
import Derived.Test.YtdinachiiimngaaGreatDoorKShelf2
import Derived.Test.YtdinachiiimngaaGreatDoorKHdPartPure
import Derived.Lib.Hide
import Derived.Lib.SplitLaws
import Derived.Maps.AppendAt
import Derived.Lib.OthersKept
import Derived.Laws.Rows
import Derived.WalkSmall
namespace Go.Proofs.YtdinachiiimngaaGreatDoor.Hd
open Go.ChangeShapes Go.WideShapes Go.ChangeAt Go.RowKit
open LinesP HdrP

/-- bytealg.MaxLen lies in its cell. -/
def Vars (w : World) : Prop := ∃ m, w.cell? ⟨2, 0, none⟩ = some (.int .i64 m)
theorem Vars.keep {w w' : World} (h : Vars w) (hb : Below w.heap.size w w') : Vars w' := by
  obtain ⟨m, hm⟩ := h
  exact ⟨m, by rw [World.cell?_of_block (w := w) (by exact hb.block 2 (World.block_lt_of_cell? w _ hm))]; exact hm⟩
theorem Vars.drewN {w : World} (h : Vars w) (n : Nat) : Vars (w.drewN n) := h
theorem suffix_one (l : List UInt8) (c : UInt8) : Lib.hasSuffix l [c] = (l.getLast? == some c) := by
  unfold Lib.hasSuffix List.isSuffixOf
  rcases List.eq_nil_or_concat l with rfl | ⟨m, d, rfl⟩
  · rfl
  · rw [List.concat_eq_append, List.reverse_append, List.getLast?_append]
    show (c == d && List.isPrefixOf [] m.reverse) = _
    simp only [List.isPrefixOf, Bool.and_true, List.getLast?_singleton, Option.some_or]
    rw [Bool.eq_iff_iff]
    simp only [beq_iff_eq, Option.some.injEq]
    exact ⟨fun h => h.symm, fun h => h.symm⟩
theorem trim_one (l : List UInt8) (c : UInt8) : Lib.trimSuffix l [c] = if l.getLast? = some c then l.dropLast else l := by
  unfold Lib.trimSuffix
  rw [suffix_one, List.dropLast_eq_take]
  by_cases h : l.getLast? = some c
  · rw [if_pos (by rw [beq_iff_eq]; exact h), if_pos h]; rfl
  · rw [if_neg (by rw [beq_iff_eq]; exact h), if_neg h]
theorem index_any (t : ByteArray) (w : World) : Calls Tryz.prog 67 #[.string t, .int .u8 10] w fun e w' => e = .returned (.int .i64 (Lib.indexByte t.data.toList 10)) ∧ w' = w := Tryz.strings_IndexByte t 10 w
set_option maxHeartbeats 1000000 in
theorem clone_any (s : ByteArray) (w : World) (hs : s.size ≤ 4000000) : Calls Tryz.prog 41 #[.string s] w fun e w' => e = .returned (.string s) ∧ Below w.heap.size w w' := by
  have cC := Tryz.stringslite_Clone s w (by omega)
  go_enter Tryz.func41, Tryz.ntmps41
  go_wp2_with (go_at_call 76; refine cC.mono ?_; rintro e w' ⟨rfl, hb⟩)
  go_ret
  exact ⟨rfl, hb⟩
theorem lf_list : (⟨#[10]⟩ : ByteArray).data.toList = [10] := rfl
set_option maxHeartbeats 1000000 in
/-- A line's ending is cut. -/
theorem bare_any (s : ByteArray) (hs : s.size ≤ 4000000) (w : World) :
    Calls Tryz.prog 88 #[.string s] w fun e w' => e = .returned (.string (strL (bareL s.data.toList))) ∧ w' = w := by
  have c1 := Tryz.strings_CutSuffix s ⟨#[10]⟩ w (by omega)
  rw [lf_list, suffix_one, trim_one] at c1
  by_cases h : s.data.toList.getLast? = some 10
  · have hb : (s.data.toList.getLast? == some 10) = true := by rw [beq_iff_eq]; exact h
    rw [if_pos h, hb] at c1
    have c2 := Tryz.strings_TrimSuffix (strL s.data.toList.dropLast) ⟨#[13]⟩ w (by rw [strL_size, List.length_dropLast, ← size_list]; omega)
    rw [strL_list, show (⟨#[13]⟩ : ByteArray).data.toList = [13] from rfl, trim_one] at c2
    have e : bareL s.data.toList = if s.data.toList.dropLast.getLast? = some 13 then s.data.toList.dropLast.dropLast else s.data.toList.dropLast := by
      unfold bareL; rw [if_pos h]
    rw [e]
    generalize (if s.data.toList.dropLast.getLast? = some 13 then s.data.toList.dropLast.dropLast else s.data.toList.dropLast) = R at c2 ⊢
    have c1' : Calls Tryz.prog 125 #[.string s, .string ⟨#[10]⟩] w fun e w' => e = .returned (.tuple #[.string (strL s.data.toList.dropLast), .bool true]) ∧ w' = w := c1
    have c2' : Calls Tryz.prog 126 #[.string (strL s.data.toList.dropLast), .string ⟨#[13]⟩] w fun e w' => e = .returned (.string (strL R)) ∧ w' = w := c2
    generalize strL s.data.toList.dropLast = D at c1' c2'
    generalize strL R = R' at c2' ⊢
    clear c1 c2 e h hb hs
    go_enter Tryz.func88, Tryz.ntmps88
    go_wp2_with (first
      | (go_at_call 125; refine c1'.mono ?_; rintro e w' ⟨rfl, rfl⟩)
      | (go_at_call 126; refine c2'.mono ?_; rintro e w' ⟨rfl, rfl⟩))
    go_ret
    exact ⟨rfl, rfl⟩
  · have hb : (s.data.toList.getLast? == some 10) = false := by rw [beq_eq_false_iff_ne]; exact h
    rw [if_neg h, hb] at c1
    have e : bareL s.data.toList = s.data.toList := bare_other h
    rw [e, strL_of]
    have c1' : Calls Tryz.prog 125 #[.string s, .string ⟨#[10]⟩] w fun e w' => e = .returned (.tuple #[.string s, .bool false]) ∧ w' = w := c1
    clear c1 e h hb hs
    go_enter Tryz.func88, Tryz.ntmps88
    go_wp2_with (go_at_call 125; refine c1'.mono ?_; rintro e w' ⟨rfl, rfl⟩)
    go_ret
    exact ⟨rfl, rfl⟩
theorem drew_below (w : World) (n : Nat) : Below w.heap.size w (w.drewN n) := ⟨rfl, rfl, rfl, Nat.le_refl _, fun _ _ => rfl⟩
theorem cut_yes {s : ByteArray} (hs : s.size ≤ 4000000) (h : 58 ∈ s.data.toList) (w : World) (hv : Vars w) :
    Calls Tryz.prog 30 #[.string s, .string ⟨#[58]⟩] w fun e w' => e = .returned (.tuple #[.string (strL (upto s.data.toList)), .string (strL (s.data.toList.drop ((upto s.data.toList).length + 1))), .bool true]) ∧ Below w.heap.size w w' := by
  obtain ⟨m, hm⟩ := hv
  refine (Tryz.strings_Cut s ⟨#[58]⟩ m w (by omega) hm).mono ?_
  rintro e w' ⟨rfl, n, rfl⟩
  rw [show (⟨#[58]⟩ : ByteArray).data.toList = [58] from rfl, cut_colon, if_pos h]
  exact ⟨rfl, drew_below w n⟩
theorem cut_no {s : ByteArray} (hs : s.size ≤ 4000000) (h : 58 ∉ s.data.toList) (w : World) (hv : Vars w) :
    Calls Tryz.prog 30 #[.string s, .string ⟨#[58]⟩] w fun e w' => e = .returned (.tuple #[.string s, .string ⟨#[]⟩, .bool false]) ∧ Below w.heap.size w w' := by
  obtain ⟨m, hm⟩ := hv
  refine (Tryz.strings_Cut s ⟨#[58]⟩ m w (by omega) hm).mono ?_
  rintro e w' ⟨rfl, n, rfl⟩
  rw [show (⟨#[58]⟩ : ByteArray).data.toList = [58] from rfl, cut_colon, if_neg h]
  refine ⟨?_, drew_below w n⟩
  show Ending.returned (.tuple #[.string (strL s.data.toList), _, _]) = _
  rw [strL_of]
theorem blanks_ascii : ∀ (j : Nat) b, (⟨#[32, 9]⟩ : ByteArray).data.toList[j]? = some b → b.toNat < 128 := ascii_of_all (by decide)
theorem trimr_any (s : ByteArray) (hs : s.size ≤ 4000000) (w : World) :
    Calls Tryz.prog 90 #[.string s, .string ⟨#[32, 9]⟩] w fun e w' => e = .returned (.string (strL (trimR s.data.toList))) ∧ Below w.heap.size w w' := by
  have := Tryz.strings_TrimRight_laid s ⟨#[32, 9]⟩ w (by omega) (by decide) blanks_ascii
  rw [show (⟨#[32, 9]⟩ : ByteArray).data.toList = [32, 9] from rfl, trimRS_is] at this
  exact this
theorem trims_any (s : ByteArray) (hs : s.size ≤ 4000000) (w : World) :
    Calls Tryz.prog 92 #[.string s, .string ⟨#[32, 9]⟩] w fun e w' => e = .returned (.string (strL (trimL s.data.toList))) ∧ Below w.heap.size w w' := by
  have := Tryz.strings_Trim_laid s ⟨#[32, 9]⟩ w (by omega) (by decide) blanks_ascii
  rw [show (⟨#[32, 9]⟩ : ByteArray).data.toList = [32, 9] from rfl, trimS_is] at this
  exact this
theorem replace_any (s : ByteArray) (c : UInt8) (hc : c ≠ 32) (hs : s.size ≤ 4000000) (w : World) (hv : Vars w) :
    Calls Tryz.prog 91 #[.string s, .string ⟨#[c]⟩, .string ⟨#[32]⟩] w fun e w' => e = .returned (.string (strL (swap1 c 32 s.data.toList))) ∧ Below w.heap.size w w' := by
  obtain ⟨m, hm⟩ := hv
  have hle := Lib.countB_le ⟨#[c]⟩ (by show 1 ≤ 1; omega) _ s (Nat.le_refl _)
  have := Tryz.strings_ReplaceAll s ⟨#[c]⟩ ⟨#[32]⟩ m w (by omega) hm (by show 1 ≤ 1; omega) (by show _ + _ * 1 ≤ _; omega)
  rw [show (⟨#[c]⟩ : ByteArray).data.toList = [c] from rfl, show (⟨#[32]⟩ : ByteArray).data.toList = [32] from rfl, replace_one c 32 hc] at this
  exact this
theorem size_swap (a b : UInt8) (l : List UInt8) : (strL (swap1 a b l)).size = l.length := by rw [strL_size, swap_len]
set_option maxHeartbeats 1000000 in
/-- The clean value. -/
theorem clean_any (s : ByteArray) (hs : s.size ≤ 4000000) (w : World) (hv : Vars w) :
    Calls Tryz.prog 60 #[.string s] w fun e w' => e = .returned (.string (strL (cleanL s.data.toList))) ∧ Below w.heap.size w w' := by
  have c1 := replace_any s 13 (by decide) hs w hv
  have hz1 := size_swap 13 32 s.data.toList
  rw [← size_list] at hz1
  have c2 := fun w hv => replace_any (strL (swap1 13 32 s.data.toList)) 10 (by decide) (by rw [hz1]; exact hs) w hv
  have hz2 := size_swap 10 32 (swap1 13 32 s.data.toList)
  rw [swap_len, ← size_list] at hz2
  have c3 := fun w => trims_any (strL (swap1 10 32 (swap1 13 32 s.data.toList))) (by rw [hz2]; exact hs) w
  rw [strL_list] at c3
  have e : trimL (swap1 10 32 (swap1 13 32 s.data.toList)) = cleanL s.data.toList := by rw [swap_flat]; rfl
  rw [e] at c3
  simp only [strL_list] at c2
  generalize strL (swap1 10 32 (swap1 13 32 s.data.toList)) = S2 at c2 c3
  generalize strL (swap1 13 32 s.data.toList) = S1 at c1 c2
  generalize strL (cleanL s.data.toList) = R at c3 ⊢
  clear e hz1 hz2
  go_enter Tryz.func60, Tryz.ntmps60
  go_wp2_with (first
    | (go_at_call 91; with_reducible refine c1.mono ?_; rintro e w1 ⟨rfl, hb1⟩; have c2' := c2 w1 (hv.keep hb1); clear c1 c2)
    | (go_at_call 91; with_reducible refine c2'.mono ?_; rintro e w2 ⟨rfl, hb2⟩; have c3' := c3 w2; clear c2')
    | (go_at_call 92; with_reducible refine c3'.mono ?_; rintro e w3 ⟨rfl, hb3⟩))
  go_ret
  exact ⟨rfl, Qtrans hb1 (Qtrans hb2 hb3)⟩
end Go.Proofs.YtdinachiiimngaaGreatDoor.Hd
namespace Go.Proofs.YtdinachiiimngaaGreatDoor.Hd
open Go.ChangeShapes Go.WideShapes Go.ChangeAt Go.RowKit
open LinesP HdrP

attribute [local go_sem] Oper.semAt_some

section
variable {bx B : Nat} {W W' : World}
theorem calm_row (h : LSt bx W W' ∨ Book B W W') : ∃ row, W.grownBy W' row ∧ ∀ r, row = some r → (r = bx ∧ ∃ u, Boxed W bx 9 u) ∨ (B ≤ r ∧ ∃ o : Obj, W.heap[r]? = some o ∧ o.isCells = false) := by
  rcases h with ⟨row, hg, hr⟩ | ⟨row, hg, hr⟩
  · exact ⟨row, hg, fun r e => .inl (hr r e)⟩
  · exact ⟨row, hg, fun r e => .inr (hr r e)⟩
/-- A block of cells that is not the iterator's box lies as it lay. -/
theorem cells_calm {b : Nat} {c : Array Value} {t : TypeId} {fz : Nat × Nat} (h : W.heap[b]? = some (.cells c t fz)) (hg : LSt bx W W' ∨ Book B W W') (hb : b ≠ bx) : W'.heap[b]? = some (.cells c t fz) := by
  obtain ⟨row, hg, hr⟩ := calm_row hg
  refine (hg.block b (Array.getElem?_eq_some_iff.1 h).1 fun e => ?_).trans h
  rcases hr b e.symm with ⟨h1, _⟩ | ⟨_, o, ho, hc⟩
  · exact hb h1
  · rw [h] at ho; cases ho; cases hc
theorem boxed_calm {b : Nat} {t : TypeId} {v : Value} (h : Boxed W b t v) (hg : LSt bx W W' ∨ Book B W W') (hb : b ≠ bx) : Boxed W' b t v := cells_calm h hg hb
theorem below_calm {w : World} (h : Below bx w W) (hg : LSt bx W W' ∨ Book B W W') (hb : bx ≤ w.heap.size) (hB : bx ≤ B) : Below bx w W' := by
  obtain ⟨row, hg, hr⟩ := calm_row hg
  exact h.grown hg (Nat.le_trans hb h.size) (fun k e => by
    rcases hr k e with ⟨h1, _⟩ | ⟨h1, _⟩
    · omega
    · omega)
theorem below_calm2 {w : World} {C : Nat} (h : Below C w W) (hg : LSt bx W W' ∨ Book B W W') (hC : C ≤ w.heap.size) (hb : C ≤ bx) (hB : C ≤ B) : Below C w W' := by
  obtain ⟨row, hg, hr⟩ := calm_row hg
  exact h.grown hg (Nat.le_trans hC h.size) (fun k e => by
    rcases hr k e with ⟨h1, _⟩ | ⟨h1, _⟩
    · omega
    · omega)
end
theorem book_box {bx B : Nat} (A C : World) (hb : bx < B) (h : ∃ u, Boxed A bx 9 u) (hk : Book B A C) : ∃ u, Boxed C bx 9 u := by
  obtain ⟨u, hu⟩ := h
  obtain ⟨row, hg, hr⟩ := hk
  exact ⟨u, hu.kept hg fun e => by obtain ⟨h1, _⟩ := hr bx e.symm; omega⟩
theorem split_len (l : List UInt8) : (splitL l).length ≤ l.length := by
  induction l with
  | nil => exact Nat.le_refl _
  | cons c t ih =>
    unfold splitL
    by_cases hc : c = 10
    · rw [if_pos hc, List.length_cons, List.length_cons]; omega
    · rw [if_neg hc]
      split
      · simp
      · rename_i h; rw [h] at ih; simp at ih ⊢; omega
theorem lines_len (s : ByteArray) : (linesB s.data.toList).length ≤ s.size := by
  unfold linesB
  rw [List.length_map, size_list]
  exact split_len _
/-- The lines' bytes in a row. -/
def flatB (xs : List ByteArray) : List UInt8 := (xs.map fun s => s.data.toList).flatten
theorem flatB_lines (l : List UInt8) : flatB (linesB l) = l := by
  unfold flatB linesB
  rw [List.map_map, show ((fun s : ByteArray => s.data.toList) ∘ strL) = id from funext fun x => rfl, List.map_id, split_flat]
theorem flatB_snoc (xs : List ByteArray) (x : ByteArray) : flatB (xs ++ [x]) = flatB xs ++ x.data.toList := by unfold flatB; simp
theorem flat_bound {s : ByteArray} {pre rest : List ByteArray} {x : ByteArray} (h : linesB s.data.toList = pre ++ x :: rest) : (flatB pre).length + x.size ≤ s.size := by
  have := flatB_lines s.data.toList
  rw [h] at this
  have h2 := congrArg List.length this
  rw [← size_list] at h2
  unfold flatB at h2 ⊢
  rw [List.map_append, List.flatten_append, List.map_cons, List.flatten_cons, List.length_append, List.length_append, ← size_list] at h2
  omega
theorem line_ne {s : ByteArray} {pre rest : List ByteArray} {x : ByteArray} (h : linesB s.data.toList = pre ++ x :: rest) : 0 < x.size ∧ (Term x.data.toList ∨ Tail x.data.toList) := by
  have hm : x ∈ linesB s.data.toList := by rw [h]; simp
  unfold linesB at hm
  obtain ⟨l, hl, rfl⟩ := List.mem_map.1 hm
  have hg := good_mem (split_good s.data.toList) l hl
  refine ⟨?_, hg⟩
  rw [strL_size]
  rcases hg with ⟨m, rfl, _⟩ | h
  · simp
  · exact List.length_pos_iff.2 h.1
/-! ### A builder -/
/-- The strings.Builder in block b holds l. -/
def Bd (w : World) (b : Nat) (l : List UInt8) : Prop := Lib.IsBuilderF 61 5 b b (Lib.byteCells l) w
section
variable {bx C : Nat} {W W' : World}
theorem ownF_calm {base : Nat} {v : Value} {n : Nat} {xs : List Value} (h : W.ownsRowF base 5 1 v n xs) (hg0 : LSt bx W W' ∨ Book C W W') : W'.ownsRowF base 5 1 v n xs := by
  obtain ⟨row, hg, hr⟩ := calm_row hg0
  refine h.kept hg ?_
  rcases h.2 with ⟨rfl, _⟩ | ⟨g, cap, cur, fz, rfl, _, hgb, _⟩
  · exact .inl rfl
  · refine .inr fun e' => ?_
    rcases hr g (by simpa [Value.ownBlock] using e'.symm) with ⟨h1, u, hu⟩ | ⟨_, o, ho, hc⟩
    · subst h1
      have := (show W.heap[g]? = _ from hu).symm.trans hgb
      simp at this
    · rw [hgb] at ho; cases ho; cases hc
theorem at_calm {b : Nat} {p : Value} {bs : List Value} (h : Lib.BuilderAtF 61 5 b b p bs W) (hg0 : LSt bx W W' ∨ Book C W W') : Lib.BuilderAtF 61 5 b b p bs W' := by
  obtain ⟨row, hg, hr⟩ := calm_row hg0
  obtain ⟨hB, v, hk, hown, hne⟩ := h
  refine ⟨hB, v, (hg.block b (Array.getElem?_eq_some_iff.1 hk).1 fun e => ?_).trans hk, ownF_calm hown hg0, hne⟩
  rcases hr b e.symm with ⟨h1, u, hu⟩ | ⟨_, o, ho, hc⟩
  · subst h1
    have := hk.symm.trans (show W.heap[b]? = _ from hu)
    simp at this
  · rw [hk] at ho; cases ho; cases hc
theorem bd_calm {b : Nat} {l : List UInt8} (h : Bd W b l) (hg : LSt bx W W' ∨ Book C W W') : Bd W' b l :=
  h.elim (fun x => .inl (at_calm x hg)) (fun x => .inr (at_calm x hg))
end
theorem bd_lt {w : World} {b : Nat} {l : List UInt8} (h : Bd w b l) : b < w.heap.size := h.elim (fun x => x.lt) (fun x => x.lt)
theorem bd_new (w : World) : Bd (w.alloc (.cells #[.pointer none, .slice none 0 0] 61)) w.heap.size [] :=
  Lib.IsBuilderF.of (.inl ⟨Nat.le_refl _, .slice none 0 0, World.alloc_heap_new w _, ⟨rfl, .inl ⟨rfl, rfl⟩⟩, by simp [Value.ownBlock]⟩)
theorem bd_str (s : ByteArray) (b : Nat) (l : List UInt8) (w : World) (h : Bd w b l) (hlen : l.length + s.size ≤ 140737488355328) :
    Calls Tryz.prog 42 #[.pointer (some ⟨b, 0, none⟩), .string s] w fun e w' => e = .returned (.tuple #[.int .i64 s.size, .nilIface]) ∧ Bd w' b (l ++ s.data.toList) ∧ Below b w w' ∧ Lib.OthersKept 5 (some b) w w' := by
  refine (Tryz.Builder_WriteString_k b b (Lib.byteCells l) s w h (by rw [Lib.byteCells_length]; exact hlen) (Nat.le_of_lt (bd_lt h))).mono fun e w' hh => ⟨hh.1, ?_, hh.2.2⟩
  have := hh.2.1
  rw [show Lib.strCells s = Lib.byteCells s.data.toList from rfl, ← Lib.byteCells_append] at this
  exact .inr this
theorem bd_out (b : Nat) (l : List UInt8) (w : World) (h : Bd w b l) :
    Calls Tryz.prog 44 #[.pointer (some ⟨b, 0, none⟩)] w fun e w' => e = .returned (.string (strL l)) ∧ Below b w w' ∧ Lib.OthersKept 5 (some b) w w' :=
  (Tryz.Builder_String_any_k b b l w h (Nat.le_of_lt (bd_lt h))).mono fun _ _ hh => ⟨hh.1, hh.2.2⟩
theorem kept_onward {b C bx : Nat} {u : Value} {w w' : World} (h : Lib.OthersKept 5 (some b) w w') (hs : w.heap.size ≤ w'.heap.size) (hb : b < C) (hbx : Boxed w bx 9 u) (hne : bx ≠ b) : KeepsFrom C w w' ∧ w'.heap[bx]? = w.heap[bx]? :=
  ⟨⟨hs, fun k o hk ho hc => h k o ho (by simp; omega) (fun c fz e => by rw [e] at hc; cases hc)⟩, by
    rw [show w.heap[bx]? = _ from hbx]
    exact h bx _ hbx (by simp; omega) (fun c fz e => by cases e)⟩
/-! ### Unfold -/
def outB (g : List UInt8 → List UInt8) (xs : List ByteArray) : List UInt8 := (xs.map fun s => g s.data.toList).flatten
theorem outB_snoc (g : List UInt8 → List UInt8) (xs : List ByteArray) (x : ByteArray) : outB g (xs ++ [x]) = outB g xs ++ g x.data.toList := by
  unfold outB; simp
theorem outB_len (g : List UInt8 → List UInt8) (hg : ∀ l, (g l).length ≤ l.length) (xs : List ByteArray) : (outB g xs).length ≤ (flatB xs).length := by
  induction xs with
  | nil => exact Nat.le_refl _
  | cons x r ih =>
    have := hg x.data.toList
    unfold outB flatB at ih ⊢
    simp only [List.map_cons, List.flatten_cons, List.length_append] at ih ⊢
    omega
theorem outB_lines (g : List UInt8 → List UInt8) (l : List UInt8) : outB g (linesB l) = ((splitL l).map g).flatten := by
  unfold outB linesB
  rw [List.map_map]; rfl

set_option maxRecDepth 100000 in
set_option maxHeartbeats 2000000 in
theorem unfold_any (s : ByteArray) (hs : s.size ≤ 4000000) (w : World) :
    Calls Tryz.prog 95 #[.string s] w fun e w' => e = .returned (.string (strL (unfoldL s.data.toList))) ∧ Below w.heap.size w w' := by
  have hG := iter_gives index_any 8 (by decide) (w.heap.size + 1) s (by omega)
  have hres : outB bareL (linesB s.data.toList) = unfoldL s.data.toList := (outB_lines bareL s.data.toList).trans (unfold_lines _).symm
  have hfb := @flat_bound s
  obtain ⟨xs, hxs⟩ : ∃ xs, linesB s.data.toList = xs := ⟨_, rfl⟩
  rw [hxs] at hG hres
  simp only [hxs] at hfb
  have HR := Lib.hid hres
  clear hxs hres
  refine (callsIn_wide (n := 9)).1 (callsIn_of_wp_marks Tryz.func95 rfl trivial ?_ rfl)
  simp only [Tryz.ntmps95, List.size_toArray, List.length_cons, List.length_nil, Nat.reduceAdd, Nat.reduceSub, Array.replicate_succ, Array.replicate_zero, List.push_toArray, List.append_toArray, List.nil_append, List.cons_append]
  gi_wp2_with (refine ⟨trivial, ?_⟩; gi_at_call 87; refine (callsIn_wide.2 (lines_any s _)).mono ?_; rintro e w2 ⟨rfl, rfl⟩)
  have b0 := bd_new w
  have b1 := Boxed.new (w.alloc (.cells #[.pointer none, .slice none 0 0] 61)) 9 (.string s)
  rw [World.size_alloc] at b1
  have hb2 : Below w.heap.size w ((w.alloc (.cells #[.pointer none, .slice none 0 0] 61)).alloc (.cells #[.string s] 9)) := ((Below.refl _ w).alloc (Nat.le_refl _) _).alloc (by simp) _
  refine wp_iter (by decide) rfl (enters_of Tryz.func124 (by kernel_rfl) rfl) rfl hG (fun o o' => (b1.alloc o).alloc o') (by rintro k rfl; simp) lst_kept (fun A C h k => book_box A C (by simp) h k)
    (fun pre W => Bd W w.heap.size (outB bareL pre) ∧ Below w.heap.size w W) (fun _ _ _ => False)
    (fun pre A C hi hg => ⟨bd_calm hi.1 hg, below_calm2 hi.2 hg (Nat.le_refl _) (by omega) (by simp; omega)⟩) (fun _ _ _ _ h _ => h.elim)
    ⟨b0.alloc _, hb2⟩
    (fun x => { tmps := #[.string s, undef, .string ⟨#[]⟩, .pointer (some ⟨w.heap.size, 0, none⟩), .string x, .string s, .func (.func 124) #[] #[.pointer (some ⟨w.heap.size + 1, 0, none⟩)], .string x, undef, undef, undef, undef], defers := [] }) ?assign ?body ?done (fun _ _ _ _ _ h => h.elim)
  case assign =>
    intro l x W K hK
    gi_wp2
    exact hK
  case body =>
    rintro l pre x rest W hx ⟨hbd, hB⟩ ⟨u, hbu⟩ hsz
    simp only [World.size_alloc] at hsz ⊢
    have hfx := hfb hx
    have hlen := outB_len bareL bare_le pre
    have E1 : Hid (outB bareL (pre ++ [x]) = outB bareL pre ++ bareL x.data.toList) := outB_snoc _ _ _
    have hT := bare_any x (by omega) W
    have hbl := bare_le x.data.toList
    rw [← size_list] at hbl
    have hW := bd_str (strL (bareL x.data.toList)) _ _ W hbd (by rw [strL_size]; omega)
    rw [strL_list] at hW
    generalize strL (bareL x.data.toList) = R at hT hW
    clear hfb hG b0 b1 hb2 hx hlen hbl
    gi_wp2_with (first
      | (refine ⟨trivial, ?_⟩; gi_at_call 88; refine (CallsIn.inRound l (callsIn_wide.2 hT)).mono ?_; rintro e W2 ⟨rfl, hw⟩; rw [hw]; clear hw W2)
      | (refine ⟨trivial, ?_⟩; gi_at_call 42; refine (CallsIn.inRound l (callsIn_wide.2 hW)).mono ?_; rintro e W3 ⟨rfl, hbd3, hb3, hk3⟩))
    obtain ⟨o1, o2⟩ := kept_onward (C := w.heap.size + 1 + 1) hk3 hb3.size (by omega) hbu (by omega)
    refine ⟨o1, (by rintro k rfl; exact o2), ?_, hB.trans hb3⟩
    rw [E1.out]
    exact hbd3
  case done =>
    rintro D W hD ⟨hbd, hB⟩ hK
    simp only [World.size_alloc] at hD
    have hO := bd_out _ _ W hbd
    gi_wp2_with (refine ⟨trivial, ?_⟩; gi_at_call 44; refine (callsIn_wide.2 hO).mono ?_; rintro e w3 ⟨rfl, hb3, hk3⟩)
    have hK3 := hk3 _ _ hK (by simp; omega) (fun c fz e => by cases e)
    refine ⟨by simp, .inl ⟨_, _, rfl, run_takeDeferred hK3, ?_⟩⟩
    have hb4 := hB.trans hb3
    rw [HR.out]
    exact ⟨_, results_tmp rfl _ _ _, rfl, hb4.grown (grownBy_putObj' _ _ _) hb4.size (fun k e => by cases e; omega)⟩
end Go.Proofs.YtdinachiiimngaaGreatDoor.Hd
namespace Go.Proofs.YtdinachiiimngaaGreatDoor.Hd
open Go.ChangeShapes Go.WideShapes Go.ChangeAt Go.RowKit
open LinesP HdrP

/-! What has been written before piece k. -/
def bT (name : List UInt8) (P : List (List UInt8)) : Nat → List UInt8
  | 0 => name ++ [58, 32]
  | k + 1 => name ++ [58, 32] ++ P.headD [] ++ foldR (name.length + 2 + (P.headD []).length) (P.tail.take k)
def bN (name : List UInt8) (P : List (List UInt8)) : Nat → Nat
  | 0 => name.length + 2
  | k + 1 => foldN (name.length + 2 + (P.headD []).length) (P.tail.take k)
theorem b_first (name : List UInt8) (P : List (List UInt8)) (x : List UInt8) (h : P[0]? = some x) : bT name P 1 = bT name P 0 ++ x ∧ bN name P 1 = bN name P 0 + x.length := by
  cases P with
  | nil => simp at h
  | cons p r =>
    have : p = x := by simpa using h
    subst this
    simp [bT, bN, foldR, foldN]
theorem b_step (name : List UInt8) (P : List (List UInt8)) (k : Nat) (x : List UInt8) (hk : 0 < k) (h : P[k]? = some x) :
    bT name P (k + 1) = bT name P k ++ (if 78 < bN name P k + x.length then [13, 10] ++ x else x) ∧ bN name P (k + 1) = if 78 < bN name P k + x.length then x.length else bN name P k + x.length := by
  obtain ⟨j, rfl⟩ : ∃ j, k = j + 1 := ⟨k - 1, by omega⟩
  have ht : P.tail.take (j + 1) = P.tail.take j ++ [x] := by
    rw [List.take_add_one]
    cases P with
    | nil => simp at h
    | cons p r =>
      have : r[j]? = some x := by simpa using h
      rw [List.tail_cons, this]; rfl
  have hs := fold_snoc (name.length + 2 + (P.headD []).length) (P.tail.take j) x
  rw [← ht] at hs
  refine ⟨?_, hs.2⟩
  show name ++ [58, 32] ++ P.headD [] ++ foldR _ _ = name ++ [58, 32] ++ P.headD [] ++ foldR _ _ ++ _
  rw [hs.1, ← List.append_assoc]; rfl
theorem b_len (name : List UInt8) (P : List (List UInt8)) : ∀ k, k ≤ P.length → (bT name P k).length ≤ name.length + 2 + (P.take k).flatten.length + 2 * k ∧ bN name P k ≤ name.length + 2 + (P.take k).flatten.length := by
  intro k
  induction k with
  | zero => intro _; simp [bT, bN]
  | succ k ih =>
    intro hk
    obtain ⟨h1, h2⟩ := ih (by omega)
    obtain ⟨x, hx⟩ : ∃ x, P[k]? = some x := ⟨_, List.getElem?_eq_getElem (by omega)⟩
    have ht : (P.take (k + 1)).flatten.length = (P.take k).flatten.length + x.length := by
      rw [List.take_add_one, hx]; simp
    by_cases h0 : k = 0
    · subst h0
      obtain ⟨e1, e2⟩ := b_first name P x hx
      rw [e1, e2, ht, List.length_append]; omega
    · obtain ⟨e1, e2⟩ := b_step name P k x (by omega) hx
      rw [e1, e2, ht, List.length_append]
      refine ⟨?_, ?_⟩ <;> split <;> (try simp only [List.length_append, List.length_cons, List.length_nil]) <;> omega
theorem b_done {name : List UInt8} (hn : rightL name = true) (v : List UInt8) : bT name (piecesP (cleanL v)) (piecesP (cleanL v)).length ++ [13, 10] = putL name v := by
  unfold putL
  rw [if_pos hn]
  by_cases h : cleanL v = []
  · rw [h]; rfl
  · have hp : piecesP (cleanL v) = piecesL (cleanL v) := by unfold piecesP; rw [if_neg h]
    have hl : ∃ p r, piecesL (cleanL v) = p :: r := by
      cases hc : piecesL (cleanL v) with
      | nil =>
        have := pieces_flat (cleanL v)
        rw [hc] at this
        exact absurd this.symm h
      | cons p r => exact ⟨p, r, rfl⟩
    obtain ⟨p, r, e⟩ := hl
    rw [hp, e]
    show name ++ [58, 32] ++ p ++ foldR _ ((p :: r).tail.take r.length) ++ [13, 10] = _
    rw [List.tail_cons, List.take_length]; rfl
theorem p_flat (s : List UInt8) : (piecesP s).flatten = s := by
  unfold piecesP
  split
  · rename_i h; rw [h]; rfl
  · exact pieces_flat s
theorem clean_le (s : List UInt8) : (cleanL s).length ≤ s.length := by
  unfold cleanL trimL trimR
  rw [List.length_reverse]
  have h1 := (List.dropWhile_sublist (p := HdrP.blank) (l := ((s.map flat1).dropWhile HdrP.blank).reverse)).length_le
  have h2 := (List.dropWhile_sublist (p := HdrP.blank) (l := s.map flat1)).length_le
  rw [List.length_reverse] at h1
  rw [List.length_map] at h2
  omega
theorem pc_len (p : UInt8) (s : List UInt8) : (pc p s).2.length ≤ s.length := by
  induction s generalizing p with
  | nil => exact Nat.le_refl _
  | cons c r ih =>
    have := ih c
    unfold pc
    split
    · simp only [List.length_cons]; omega
    · simp only [List.length_cons]; omega
theorem p_len (s : List UInt8) : (piecesP s).length ≤ s.length + 1 := by
  unfold piecesP
  split
  · simp
  · cases s with
    | nil => simp [piecesL]
    | cons c r =>
      have := pc_len c r
      unfold piecesL
      simp only [List.length_cons]
      omega
theorem low_grown {w w' : World} (h : Below w.heap.size w w') : w.grownBy w' none := ⟨h.os, h.tape, h.output, h.size, fun k hk _ => h.block k hk⟩
theorem bd_low {w w' : World} {b : Nat} {l : List UInt8} (h : Bd w b l) (hb : Below w.heap.size w w') : Bd w' b l :=
  bd_calm (bx := 0) (C := 0) h (.inr ⟨none, low_grown hb, fun r e => by cases e⟩)
theorem own_others {w w' : World} {b : Nat} {v : Value} {xs : List (List UInt8)} (h : Own w v xs) (hk : Lib.OthersKept 5 (some b) w w') (hne : ∀ k, v.ownBlock = some k → k ≠ b) : Own w' v xs := by
  obtain ⟨base, ho⟩ := h
  refine ⟨base, ho.1, ?_⟩
  rcases ho.2 with h1 | ⟨g, cap, cur, rfl, hbg, hg, rest⟩
  · exact .inl h1
  · refine .inr ⟨g, cap, cur, rfl, hbg, ?_, rest⟩
    exact hk g _ hg (by have := hne g (by simp [Value.ownBlock]); simp; exact this) (fun c fz e => by cases e)
/-- What the loop over the pieces holds: the builder, the pieces, older memory. -/
structure Pu (w0 w : World) (b : Nat) (l : List UInt8) (v : Value) (P : List (List UInt8)) : Prop where
  bd : Bd w b l
  own : Own w v P
  far : ∀ k, v.ownBlock = some k → b < k
  bel : Below w0.heap.size w0 w
  new : w0.heap.size ≤ b
theorem Pu.wrote {w0 w w' : World} {b : Nat} {l l' : List UInt8} {v : Value} {P : List (List UInt8)} (h : Pu w0 w b l v P) (hb : Bd w' b l') (hl : Below b w w') (hk : Lib.OthersKept 5 (some b) w w') : Pu w0 w' b l' v P :=
  ⟨hb, own_others h.own hk (fun k e => by have := h.far k e; omega), h.far, h.bel.trans (hl.mono h.new), h.new⟩
theorem put_bad (name value : ByteArray) (w : World) (hn : rightL name.data.toList = false) :
    Calls Tryz.prog 27 #[.string name, .string value] w fun e w' => e = .returned (.string (strL (putL name.data.toList value.data.toList))) ∧ Below w.heap.size w w' := by
  have hr := right_any name w
  rw [hn] at hr
  unfold putL
  rw [if_neg (by rw [hn]; exact Bool.false_ne_true)]
  clear hn
  go_enter Tryz.func27, Tryz.ntmps27
  go_wp2_with (go_at_call 58; refine hr.mono ?_; rintro e w1 ⟨rfl, hb1⟩)
  go_ret
  exact ⟨rfl, hb1⟩
set_option maxRecDepth 100000 in
set_option maxHeartbeats 8000000 in
theorem put_good (name value : ByteArray) (hz1 : name.size ≤ 3000000) (hz2 : value.size ≤ 3000000) (w : World) (hv : Vars w) (hn : rightL name.data.toList = true) :
    Calls Tryz.prog 27 #[.string name, .string value] w fun e w' => e = .returned (.string (strL (putL name.data.toList value.data.toList))) ∧ Below w.heap.size w w' := by
  have hr := right_any name w
  rw [hn] at hr
  have hdone := b_done hn value.data.toList
  have hcl := clean_le value.data.toList
  rw [← size_list] at hcl
  have cC := fun w hv => clean_any value (by omega) w hv
  have cP := fun w => pieces_any (strL (cleanL value.data.toList)) (by rw [strL_size]; omega) w
  rw [strL_list] at cP
  have hpf := p_flat (cleanL value.data.toList)
  have hbl := b_len name.data.toList (piecesP (cleanL value.data.toList))
  have hb1 := b_first name.data.toList (piecesP (cleanL value.data.toList))
  have hb2 := b_step name.data.toList (piecesP (cleanL value.data.toList))
  have hb0 : bT name.data.toList (piecesP (cleanL value.data.toList)) 0 = name.data.toList ++ [58, 32] ∧ bN name.data.toList (piecesP (cleanL value.data.toList)) 0 = name.size + 2 := ⟨rfl, by rw [size_list]; rfl⟩
  have hpl : (piecesP (cleanL value.data.toList)).length ≤ 3000001 := by have := p_len (cleanL value.data.toList); omega
  generalize piecesP (cleanL value.data.toList) = P at cP hdone hpf hbl hb1 hb2 hb0 hpl
  generalize strL (cleanL value.data.toList) = V at cC cP
  have hnz := size_list name
  rw [← hdone]
  have htl : ∀ k, (P.take k).flatten.length ≤ 3000000 := fun k => by
    have : P.flatten.length = (P.take k).flatten.length + (P.drop k).flatten.length := by rw [← List.length_append, ← List.flatten_append, List.take_append_drop]
    rw [hpf] at this; omega
  have hxl : ∀ x ∈ P, x.length ≤ 3000000 := fun x hx => by
    have h2 := List.append_of_mem hx
    obtain ⟨a, b, e⟩ := h2
    have h3 : x.length ≤ P.flatten.length := by rw [e]; simp; omega
    rw [hpf] at h3; omega
  have hbl2 : ∀ k, k ≤ P.length → (bT name.data.toList P k).length ≤ 30000000 ∧ bN name.data.toList P k ≤ 18000000 := fun k hk => by
    have h1 := hbl k hk
    have h2 := htl k
    rw [← hnz] at h1
    omega
  generalize bT name.data.toList P = T at hb1 hb2 hb0 hbl2 ⊢
  generalize bN name.data.toList P = M at hb1 hb2 hb0 hbl2
  have HB0 := Lib.hid hb0
  have HB1 := Lib.hid hb1
  have HB2 := Lib.hid hb2
  have HBL := Lib.hid hbl2
  have HXL := Lib.hid hxl
  have HNZ := Lib.hid hnz
  clear hnz
  clear hb0 hb1 hb2 hbl2 hbl htl hpf hdone hn hcl hxl
  obtain ⟨m, hm⟩ : ∃ m, P.length = m := ⟨_, rfl⟩
  rw [hm] at cP hpl ⊢
  have HM := Lib.hid hm
  clear hm
  go_enter Tryz.func27, Tryz.ntmps27
  go_wp2_with (first
    | (go_at_call 58; (with_reducible refine hr.mono ?_); rintro e w1 ⟨rfl, hb1⟩; clear hr; have hbd := bd_new w1; have hbw := (hb1.alloc hb1.size (.cells #[.pointer none, .slice none 0 0] 61)); have hW1 := bd_str name _ _ _ hbd (by simp; omega); clear hbd)
    | (go_at_call 42; (with_reducible refine hW1.mono ?_); rintro e w2 ⟨rfl, hbd2, hb2, hk2⟩; clear hW1 hk2; have hbw2 := hbw.trans (hb2.mono hb1.size); have hW2 := bd_str ⟨#[58, 32]⟩ _ _ w2 hbd2 (by rw [List.nil_append, ← HNZ.out]; show _ + 2 ≤ _; omega); clear hbd2)
    | (go_at_call 42; (with_reducible refine hW2.mono ?_); rintro e w3 ⟨rfl, hbd3, hb3, hk3⟩; clear hW2 hk3; have hbw3 := hbw2.trans (hb3.mono hb1.size); have cC' := cC w3 (hv.keep hbw3); clear cC)
    | (go_at_call 60; (with_reducible refine cC'.mono ?_); rintro e w4 ⟨rfl, hb4⟩; clear cC'; have hbd4 := bd_low hbd3 hb4; have hbw4 := hbw3.trans (hb4.mono hbw3.size); have cP' := cP w4; clear cP)
    | (go_at_call 59; (with_reducible refine cP'.mono ?_); rintro e w5 ⟨pa, pc, rfl, ho, hb5⟩; clear cP'))
  have hfar : ∀ k, (Value.slice pa m pc).ownBlock = some k → w1.heap.size < k := fun k e => by
    have h1 := (ho.lt k e).1
    have h2 := bd_lt hbd4
    omega
  have hst : Pu w w5 w1.heap.size (T 0) (.slice pa m pc) P := ⟨by rw [HB0.out.1]; exact bd_low hbd4 hb5, ⟨_, by rw [HM.out]; exact ho⟩, hfar, hbw4.trans (hb5.mono hbw4.size), hb1.size⟩
  have HST := Lib.hid hst
  clear hst hfar hbd3 hbd4 hbw hbw2 hbw3 hbw4 hb2 hb3 hb4 hb5 ho
  go_loopw [6, 22] (fun len i wr => ∃ k : Nat, k ≤ m ∧ i = .int .i64 k ∧ len = .int .i64 (M k) ∧ Hid (Pu w wr w1.heap.size (T k) (.slice pa m pc) P)) (fun _ i _ => m - (intOf i).toNat)
  case atStart => exact ⟨0, Nat.zero_le _, rfl, by rw [HB0.out.2]; simp, HST⟩
  case round =>
    obtain ⟨k, hk, rfl, rfl, hst⟩ := hrel
    have hkb := HBL.out k (by rw [HM.out]; exact hk)
    have F1 : IntKind.i64.wrap ((k : Int) + 1) = (k : Int) + 1 := by rw [IntKind.wrap_i64]; omega
    by_cases hlt : k < m
    · have hlt' : (k : Int) < (m : Int) := by omega
      obtain ⟨g, rfl⟩ := hst.out.own.at (by omega)
      obtain ⟨x, hx⟩ : ∃ x, P[k]? = some x := ⟨_, List.getElem?_eq_getElem (by rw [HM.out]; exact hlt)⟩
      have hxl := HXL.out x (List.mem_of_getElem? hx)
      have kc := hst.out.own.cell k x hx
      have sA : (strL x).size = x.length := strL_size x
      have lA : (strL x).data.toList = x := rfl
      generalize strL x = A at kc sA lA
      have F2 : IntKind.i64.wrap ((M k : Int) + (A.size : Int)) = (M k : Int) + (A.size : Int) := by rw [IntKind.wrap_i64]; omega
      have F3 : IntKind.i64.wrap (A.size : Int) = (A.size : Int) := by rw [IntKind.wrap_i64]; omega
      by_cases h0 : k = 0
      · subst h0
        obtain ⟨e1, e2⟩ := HB1.out x hx
        have hW := bd_str A _ _ _ hst.out.bd (by omega)
        rw [lA, ← e1] at hW
        have E2 : Hid ((M 1 : Int) = (M 0 : Int) + (A.size : Int)) := by show _ = _; rw [e2]; omega
        clear hx e1 e2 lA sA
        go_wp2_with (go_at_call 42; (with_reducible refine hW.mono ?_); rintro e w6 ⟨rfl, hbd6, hb6, hk6⟩; have HST2 := Lib.hid (hst.out.wrote hbd6 hb6 hk6); clear hbd6 hb6 hk6 hW)
        go_roundw
        case rel => exact ⟨1, by omega, by go_num, by rw [E2.out], HST2⟩
        case measure => simp [intOf]; omega
      · have h0' : (0 : Int) < (k : Int) := by omega
        obtain ⟨e1, e2⟩ := HB2.out k x (by omega) hx
        by_cases h78 : 78 < M k + x.length
        · rw [if_pos h78] at e1 e2
          have h78' : (78 : Int) < (M k : Int) + (A.size : Int) := by omega
          have hW := bd_str ⟨#[13, 10]⟩ _ _ _ hst.out.bd (by show _ + 2 ≤ _; omega)
          have hlen : (T k ++ (⟨#[13, 10]⟩ : ByteArray).data.toList).length + A.size ≤ 140737488355328 := by rw [List.length_append]; show _ + 2 + _ ≤ _; omega
          have hW2 := fun w h => bd_str A w1.heap.size (T k ++ (⟨#[13, 10]⟩ : ByteArray).data.toList) w h hlen
          have E1 : T k ++ (⟨#[13, 10]⟩ : ByteArray).data.toList ++ A.data.toList = T (k + 1) := by rw [e1, lA, List.append_assoc]
          rw [E1] at hW2
          have E2 : Hid ((M (k + 1) : Int) = (A.size : Int)) := by show _ = _; rw [e2, sA]
          clear hx e1 e2 lA sA E1 hlen h78
          go_wp2_with (first
            | (go_at_call 42; (with_reducible refine hW.mono ?_); rintro e w6 ⟨rfl, hbd6, hb6, hk6⟩; have HST2 := Lib.hid (hst.out.wrote hbd6 hb6 hk6); clear hb6 hk6 hW; have hW2' := hW2 w6 hbd6; clear hW2 hbd6)
            | (go_at_call 42; (with_reducible refine hW2'.mono ?_); rintro e w7 ⟨rfl, hbd7, hb7, hk7⟩; have HST3 := Lib.hid (HST2.out.wrote hbd7 hb7 hk7); clear hbd7 hb7 hk7 hW2'))
          go_roundw
          case rel => exact ⟨k + 1, by omega, by go_num, by rw [E2.out], HST3⟩
          case measure => simp [intOf]; omega
        · rw [if_neg h78] at e1 e2
          have h78' : ¬ (78 : Int) < (M k : Int) + (A.size : Int) := by omega
          have hW := bd_str A _ _ _ hst.out.bd (by omega)
          rw [lA, ← e1] at hW
          have E2 : Hid ((M (k + 1) : Int) = (M k : Int) + (A.size : Int)) := by show _ = _; rw [e2, sA]; omega
          clear hx e1 e2 lA sA h78
          go_wp2_with (go_at_call 42; (with_reducible refine hW.mono ?_); rintro e w6 ⟨rfl, hbd6, hb6, hk6⟩; have HST2 := Lib.hid (hst.out.wrote hbd6 hb6 hk6); clear hbd6 hb6 hk6 hW)
          go_roundw
          case rel => exact ⟨k + 1, by omega, by go_num, by rw [E2.out], HST2⟩
          case measure => simp [intOf]; omega
    · obtain rfl : k = m := by omega
      have hlt' : ¬ (k : Int) < (k : Int) := by omega
      have hW := bd_str ⟨#[13, 10]⟩ _ _ _ hst.out.bd (by show _ + 2 ≤ _; omega)
      go_wp2_with (first
        | (go_at_call 42; (with_reducible refine hW.mono ?_); rintro e w6 ⟨rfl, hbd6, hb6, hk6⟩; have HST2 := Lib.hid (hst.out.wrote hbd6 hb6 hk6); clear hb6 hk6 hW; have hO := bd_out _ _ _ hbd6)
        | (go_at_call 44; (with_reducible refine hO.mono ?_); rintro e w7 ⟨rfl, hb7, hk7⟩))
      go_ret
      exact ⟨rfl, HST2.out.bel.trans (hb7.mono HST2.out.new)⟩
end Go.Proofs.YtdinachiiimngaaGreatDoor.Hd
namespace Go.Proofs.YtdinachiiimngaaGreatDoor.Hd
open Go.ChangeShapes Go.WideShapes Go.ChangeAt Go.RowKit
open LinesP HdrP

attribute [local go_sem] Oper.semAt_some

theorem lines_back {s : ByteArray} {xs : List ByteArray} (h : linesB s.data.toList = xs) : splitL s.data.toList = xs.map fun x => x.data.toList := by
  rw [← h]
  unfold linesB
  rw [List.map_map, show ((fun s : ByteArray => s.data.toList) ∘ strL) = id from funext fun x => rfl, List.map_id]
def secN (s : List UInt8) : Nat := (hdrL (splitL s)).flatten.length
theorem sec_end {s : ByteArray} {pre rest : List ByteArray} {x : ByteArray} (h : linesB s.data.toList = pre ++ x :: rest) (hp : ∀ y ∈ pre, full y.data.toList = true) (hx : full x.data.toList = false) :
    secN s.data.toList = (flatB pre).length ∧ atL s.data.toList = (flatB pre).length + x.size := by
  have e := lines_back h
  rw [List.map_append, List.map_cons] at e
  have k := hdr_all (ls := pre.map fun x => x.data.toList) (fun l hl => by obtain ⟨y, hy, rfl⟩ := List.mem_map.1 hl; exact hp y hy) (x.data.toList :: rest.map fun x => x.data.toList)
  have hn : ¬ full x.data.toList = true := by rw [hx]; exact Bool.false_ne_true
  have h1 : hdrL (splitL s.data.toList) = pre.map fun x => x.data.toList := by
    rw [e, k.1]
    unfold hdrL
    rw [List.takeWhile_cons_of_neg hn, List.append_nil]
  unfold secN atL
  rw [h1]
  refine ⟨rfl, ?_⟩
  rw [e, k.2, List.dropWhile_cons_of_neg hn, size_list x]; rfl
theorem sec_all {s : ByteArray} (hp : ∀ y ∈ linesB s.data.toList, full y.data.toList = true) :
    secN s.data.toList = (flatB (linesB s.data.toList)).length ∧ atL s.data.toList = (flatB (linesB s.data.toList)).length := by
  have e := lines_back (s := s) rfl
  have k := hdr_id (ls := splitL s.data.toList) (fun l hl => by rw [e] at hl; obtain ⟨y, hy, rfl⟩ := List.mem_map.1 hl; exact hp y hy)
  unfold secN atL
  rw [k.1, k.2, e]
  exact ⟨rfl, rfl⟩
theorem full_is (x : ByteArray) : ((strL (bareL x.data.toList)).toList == []) = !full x.data.toList := by
  rw [ByteArray.toList_eq]
  unfold full
  rw [strL_list]
  cases bareL x.data.toList <;> rfl
theorem run_loadVar_int {P : Program} {t : TypeId} {k : IntKind} (hu : P.underlying t = some (.int k)) {w : World} {b : Nat} {v : Value} (h : w.cell? ⟨b, 0, none⟩ = some v) : (loadVar t ⟨b, 0, none⟩).run P w = .ok v w := by
  unfold loadVar
  simp [go_sem, isAgg, run_underlying hu, h]
theorem results_cells2 {P : Program} {fn : Func} {p u : Tmp} {t : TypeId} {k : IntKind} (hu : P.underlying t = some (.int k)) (h : fn.results = #[.cell p t, .cell u t]) (tmps : Array Value) (w : World) {b1 b2 : Nat} {v1 v2 : Value}
    (h1 : tmps.getD p undef = .pointer (some ⟨b1, 0, none⟩)) (h2 : tmps.getD u undef = .pointer (some ⟨b2, 0, none⟩)) (c1 : w.cell? ⟨b1, 0, none⟩ = some v1) (c2 : w.cell? ⟨b2, 0, none⟩ = some v2) :
    (results fn tmps).run P w = .ok (.tuple #[v1, v2]) w := by
  have h1' : tmps[p]?.getD undef = .pointer (some ⟨b1, 0, none⟩) := by simpa using h1
  have h2' : tmps[u]?.getD undef = .pointer (some ⟨b2, 0, none⟩) := by simpa using h2
  simp [results, h, h1', h2', asAddr, run_loadVar_int hu c1, run_loadVar_int hu c2, Sem.run_bind, Result.andThen]
theorem keeps_set {W : World} {b B : Nat} (h : b < B) (v : Value) : KeepsFrom B W (W.setCell ⟨b, 0, none⟩ v) :=
  KeepsFrom.of_grownBy (grownBy_setCell' W b v) (fun j e => by cases e; exact h)
theorem box_put {W : World} {b b' : Nat} {t : TypeId} {v u : Value} (h : Boxed W b t v) (hne : b' ≠ b) : Boxed (W.setCell ⟨b', 0, none⟩ u) b t v := h.kept (grownBy_setCell' W b' u) (fun e => hne (by cases e; rfl))
theorem below_put {w W : World} {C b : Nat} (h : Below C w W) (hC : C ≤ w.heap.size) (hb : C ≤ b) (v : Value) : Below C w (W.setCell ⟨b, 0, none⟩ v) :=
  h.grown (grownBy_setCell' W b v) (Nat.le_trans hC h.size) (fun k e => by cases e; exact hb)
theorem box_obj {W : World} {b : Nat} {t : TypeId} {v : Value} (h : Boxed W b t v) (D : Nat) (o : Obj) (hne : b ≠ D) : Boxed (W.putObj D o) b t v := h.kept (grownBy_putObj' W D o) (fun e => hne (by cases e; rfl))
theorem below_obj {w W : World} {C D : Nat} (h : Below C w W) (hC : C ≤ w.heap.size) (hD : C ≤ D) (o : Obj) : Below C w (W.putObj D o) :=
  h.grown (grownBy_putObj' W D o) (Nat.le_trans hC h.size) (fun k e => by cases e; exact hD)
theorem put_far {W : World} {b k : Nat} (h : k ≠ b) (v : Value) : (W.setCell ⟨b, 0, none⟩ v).heap[k]? = W.heap[k]? := Below.heap_setCell W ⟨b, 0, none⟩ v k h
set_option maxRecDepth 100000 in
set_option maxHeartbeats 2000000 in
theorem section_any (s : ByteArray) (hs : s.size ≤ 4000000) (w : World) :
    Calls Tryz.prog 55 #[.string s] w fun e w' => e = .returned (.tuple #[.int .i64 (secN s.data.toList), .int .i64 (atL s.data.toList)]) ∧ Below w.heap.size w w' := by
  have hG := iter_gives index_any 8 (by decide) (w.heap.size + 2) s (by omega)
  have hfb := @flat_bound s
  have hend := @sec_end s
  have hall := @sec_all s
  obtain ⟨xs, hxs⟩ : ∃ xs, linesB s.data.toList = xs := ⟨_, rfl⟩
  rw [hxs] at hG
  simp only [hxs] at hfb hend hall
  generalize secN s.data.toList = N at hend hall ⊢
  generalize atL s.data.toList = M at hend hall ⊢
  have HALL := Lib.hid hall
  clear hxs hall
  refine (callsIn_wide (n := 9)).1 (callsIn_of_wp_marks Tryz.func55 rfl trivial ?_ rfl)
  simp only [Tryz.ntmps55, List.size_toArray, List.length_cons, List.length_nil, Nat.reduceAdd, Nat.reduceSub, Array.replicate_succ, Array.replicate_zero, List.push_toArray, List.append_toArray, List.nil_append, List.cons_append]
  gi_wp2_with (refine ⟨trivial, ?_⟩; gi_at_call 87; refine (callsIn_wide.2 (lines_any s _)).mono ?_; rintro e w2 ⟨rfl, rfl⟩)
  have b0 := Boxed.new w 3 (.int .i64 0)
  have b1 := Boxed.new (w.alloc (.cells #[.int .i64 0] 3)) 3 (.int .i64 0)
  have b2 := Boxed.new ((w.alloc (.cells #[.int .i64 0] 3)).alloc (.cells #[.int .i64 0] 3)) 9 (.string s)
  simp only [World.size_alloc] at b1 b2
  have hb3 : Below w.heap.size w (((w.alloc (.cells #[.int .i64 0] 3)).alloc (.cells #[.int .i64 0] 3)).alloc (.cells #[.string s] 9)) := (((Below.refl _ w).alloc (Nat.le_refl _) _).alloc (by simp) _).alloc (by simp; omega) _
  refine wp_iter (by decide) rfl (enters_of Tryz.func124 (by kernel_rfl) rfl) rfl hG (fun o o' => (b2.alloc o).alloc o') (by rintro k rfl; simp) lst_kept (fun A C h k => book_box A C (by simp) h k)
    (fun pre W => Boxed W w.heap.size 3 (.int .i64 ((flatB pre).length : Nat)) ∧ Boxed W (w.heap.size + 1) 3 (.int .i64 0) ∧ Below w.heap.size w W ∧ Hid (∀ y ∈ pre, full y.data.toList = true))
    (fun c _ W => c = .ret ∧ Boxed W w.heap.size 3 (.int .i64 N) ∧ Boxed W (w.heap.size + 1) 3 (.int .i64 M) ∧ Below w.heap.size w W)
    (fun pre A C hi hg => ⟨boxed_calm hi.1 hg (by omega), boxed_calm hi.2.1 hg (by omega), below_calm2 hi.2.2.1 hg (Nat.le_refl _) (by omega) (by simp; omega), hi.2.2.2⟩)
    (fun _ pre A C hi hg => ⟨hi.1, boxed_calm hi.2.1 hg (by omega), boxed_calm hi.2.2.1 hg (by omega), below_calm2 hi.2.2.2 hg (Nat.le_refl _) (by omega) (by simp; omega)⟩)
    ⟨(b0.alloc _).alloc _, b1.alloc _, hb3, by intro y hy; cases hy⟩
    (fun x => { tmps := #[.string s, undef, .pointer (some ⟨w.heap.size, 0, none⟩), .pointer (some ⟨w.heap.size + 1, 0, none⟩), .string x, .string s, .func (.func 124) #[] #[.pointer (some ⟨w.heap.size + 2, 0, none⟩)], .string x, undef, undef, undef, undef, undef, undef, undef, undef, undef, undef, undef, undef, undef, undef], defers := [] }) ?assign ?body ?done ?stop
  case assign =>
    intro l x W K hK
    gi_wp2
    exact hK
  case body =>
    rintro l pre x rest W hx ⟨hb0, hb1, hB, hfull⟩ ⟨u, hbu⟩ hsz
    simp only [World.size_alloc] at hsz ⊢
    have hfx := hfb hx
    have hT := bare_any x (by omega) W
    have hF := full_is x
    have c0 := hb0.cell
    have f0 := hb0.frozen
    have c1 := hb1.cell
    have f1 := hb1.frozen
    have F1 : IntKind.i64.wrap (((flatB pre).length : Int) + (x.size : Int)) = ((flatB pre).length : Int) + (x.size : Int) := by rw [IntKind.wrap_i64]; omega
    have HX := Lib.hid hx
    have HP : Hid ((flatB (pre ++ [x])).length = (flatB pre).length + x.size) := by show _ = _; rw [flatB_snoc, List.length_append, ← size_list]
    have HA : Hid (∀ y ∈ pre, full y.data.toList = true) := hfull
    by_cases hfl : full x.data.toList = true
    · rw [hfl] at hF
      have HFL := Lib.hid hfl
      generalize strL (bareL x.data.toList) = R at hT hF
      generalize (flatB pre).length = q at hb0 c0 F1 hfx HP
      clear hfb hG b0 b1 b2 hb3 hx hfl hend
      gi_wp2_with (refine ⟨trivial, ?_⟩; gi_at_call 88; refine (CallsIn.inRound l (callsIn_wide.2 hT)).mono ?_; rintro e W2 ⟨rfl, hw⟩; rw [hw]; clear hw W2)
      refine ⟨keeps_set (by omega) _, (by rintro k rfl; exact put_far (by omega) _), ?_, box_put hb1 (by omega), below_put hB (Nat.le_refl _) (Nat.le_refl _) _, ?_⟩
      · rw [HP.out, Int.natCast_add]; exact hb0.set _
      · intro y hy
        rcases List.mem_append.1 hy with hy | hy
        · exact HA.out y hy
        · rw [List.mem_singleton.1 hy]; exact HFL.out
    · have hfl' : full x.data.toList = false := by simpa using hfl
      rw [hfl'] at hF
      have hE := Lib.hid (hend hx hfull.out hfl')
      generalize strL (bareL x.data.toList) = R at hT hF
      generalize (flatB pre).length = q at hb0 c0 F1 hfx hE
      clear hfb hG b0 b1 b2 hb3 hx hfl hfl' hend
      gi_wp2_with (refine ⟨trivial, ?_⟩; gi_at_call 88; refine (CallsIn.inRound l (callsIn_wide.2 hT)).mono ?_; rintro e W2 ⟨rfl, hw⟩; rw [hw]; clear hw W2)
      obtain ⟨e1, e2⟩ := hE.out
      refine ⟨(keeps_set (by omega) _).trans (keeps_set (by omega) _), rfl, ?_, ?_, below_put (below_put hB (Nat.le_refl _) (Nat.le_refl _) _) (Nat.le_refl _) (by omega) _⟩
      · rw [e1]; exact box_put (hb0.set _) (by omega)
      · rw [e2, Int.natCast_add]; exact (box_put hb1 (by omega)).set _
  case done =>
    rintro D W hD ⟨hb0, hb1, hB, hfull⟩ hK
    simp only [World.size_alloc] at hD
    have c0 := hb0.cell
    have f0 := hb0.frozen
    have c1 := hb1.cell
    have f1 := hb1.frozen
    have hE := Lib.hid (HALL.out hfull.out)
    gi_wp2
    obtain ⟨e1, e2⟩ := hE.out
    rw [e1, e2]
    have k0 := box_put (u := .int .i64 ((flatB xs).length : Nat)) (b' := w.heap.size + 1) (hb0.set (.int .i64 ((flatB xs).length : Nat))) (by omega)
    have k1 := (box_put (u := .int .i64 ((flatB xs).length : Nat)) (b' := w.heap.size) hb1 (by omega)).set (.int .i64 ((flatB xs).length : Nat))
    have hK2 := (put_far (W := W.setCell ⟨w.heap.size, 0, none⟩ (.int .i64 ((flatB xs).length : Nat))) (b := w.heap.size + 1) (k := D) (by omega) (.int .i64 ((flatB xs).length : Nat))).trans ((put_far (W := W) (b := w.heap.size) (k := D) (by omega) (.int .i64 ((flatB xs).length : Nat))).trans hK)
    refine ⟨by simp, .inl ⟨_, _, rfl, run_takeDeferred hK2, ?_⟩⟩
    exact ⟨_, results_cells2 Tryz.underlying3 rfl _ _ rfl rfl (box_obj k0 D _ (by omega)).cell (box_obj k1 D _ (by omega)).cell, rfl, below_obj (below_put (below_put hB (Nat.le_refl _) (Nat.le_refl _) _) (Nat.le_refl _) (by omega) _) (Nat.le_refl _) (by omega) _⟩
  case stop =>
    rintro D c pre W hD ⟨rfl, hb0, hb1, hB⟩ hK
    simp only [World.size_alloc] at hD
    gi_wp2
    refine ⟨by simp, .inl ⟨_, _, rfl, run_takeDeferred hK, ?_⟩⟩
    exact ⟨_, results_cells2 Tryz.underlying3 rfl _ _ rfl rfl (box_obj hb0 D _ (by omega)).cell (box_obj hb1 D _ (by omega)).cell, rfl, below_obj hB (Nat.le_refl _) (by omega) _⟩
end Go.Proofs.YtdinachiiimngaaGreatDoor.Hd
namespace Go.Proofs.YtdinachiiimngaaGreatDoor.Hd
open Go.ChangeShapes Go.WideShapes Go.ChangeAt Go.RowKit
open LinesP HdrP

attribute [local go_sem] Oper.semAt_some

/-! ### The first field's length -/
theorem begun_is (x : ByteArray) (h : 0 < x.size) : HdrP.begun x.data.toList = HdrP.blank (x[0]'h) := by
  have h2 : x.data.toList = x[0]'h :: x.data.toList.drop 1 := by
    have := drop_cons x 0 h
    rwa [List.drop_zero] at this
  rw [h2]; rfl
/-- The first line and its continuation lines, in bytes. -/
def fieldN (ls : List (List UInt8)) : Nat := match ls with
  | [] => 0
  | l :: r => l.length + (moreL r).length
theorem more_cut {a b : List (List UInt8)} {x : List UInt8} (ha : ∀ y ∈ a, HdrP.begun y = true) (hx : HdrP.begun x = false) : moreL (a ++ x :: b) = a.flatten := by
  induction a with
  | nil => show (if HdrP.begun x then _ else _) = _; rw [hx]; rfl
  | cons c r ih => rw [List.cons_append, moreL, if_pos (ha c (by simp)), ih fun y hy => ha y (by simp [hy]), List.flatten_cons]
theorem field_end {s : ByteArray} {p : ByteArray} {pre rest : List ByteArray} {x : ByteArray} (h : linesB s.data.toList = (p :: pre) ++ x :: rest) (hp : ∀ y ∈ pre, HdrP.begun y.data.toList = true) (hx : HdrP.begun x.data.toList = false) :
    fieldN (splitL s.data.toList) = (flatB (p :: pre)).length := by
  have e := lines_back h
  rw [List.map_append, List.map_cons, List.map_cons, List.cons_append] at e
  rw [e]
  show p.data.toList.length + (moreL _).length = _
  rw [more_cut (fun y hy => by obtain ⟨z, hz, rfl⟩ := List.mem_map.1 hy; exact hp z hz) hx]
  unfold flatB
  rw [List.map_cons, List.flatten_cons, List.length_append]
theorem field_all {s : ByteArray} (hp : ∀ y ∈ (linesB s.data.toList).tail, HdrP.begun y.data.toList = true) : fieldN (splitL s.data.toList) = (flatB (linesB s.data.toList)).length := by
  have e := lines_back (s := s) rfl
  rw [e]
  cases hl : linesB s.data.toList with
  | nil => rfl
  | cons p r =>
    rw [hl] at hp
    show p.data.toList.length + (moreL _).length = _
    rw [(all_begun (cs := r.map fun x => x.data.toList) (fun y hy => by obtain ⟨z, hz, rfl⟩ := List.mem_map.1 hy; exact hp z hz)).1]
    unfold flatB
    rw [List.map_cons, List.flatten_cons, List.length_append]


theorem flat_pos {s : ByteArray} {p : ByteArray} {pre rest : List ByteArray} {x : ByteArray} (h : linesB s.data.toList = (p :: pre) ++ x :: rest) : 0 < (flatB (p :: pre)).length := by
  have := (line_ne (s := s) (pre := []) (rest := pre ++ x :: rest) (x := p) h).1
  unfold flatB
  rw [List.map_cons, List.flatten_cons, List.length_append, ← size_list]
  omega
set_option maxRecDepth 100000 in
set_option maxHeartbeats 2000000 in
theorem length_any (s : ByteArray) (hs : s.size ≤ 4000000) (w : World) :
    Calls Tryz.prog 56 #[.string s] w fun e w' => e = .returned (.int .i64 (fieldN (splitL s.data.toList))) ∧ Below w.heap.size w w' := by
  have hG := iter_gives index_any 8 (by decide) (w.heap.size + 1) s (by omega)
  have hfb := @flat_bound s
  have hend := @field_end s
  have hall := @field_all s
  have hpos := @flat_pos s
  have hne := @line_ne s
  obtain ⟨xs, hxs⟩ : ∃ xs, linesB s.data.toList = xs := ⟨_, rfl⟩
  rw [hxs] at hG hall
  simp only [hxs] at hfb hend hpos hne
  generalize fieldN (splitL s.data.toList) = N at hend hall ⊢
  have HALL := Lib.hid hall
  clear hxs hall
  refine (callsIn_wide (n := 9)).1 (callsIn_of_wp_marks Tryz.func56 rfl trivial ?_ rfl)
  simp only [Tryz.ntmps56, List.size_toArray, List.length_cons, List.length_nil, Nat.reduceAdd, Nat.reduceSub, Array.replicate_succ, Array.replicate_zero, List.push_toArray, List.append_toArray, List.nil_append, List.cons_append]
  gi_wp2_with (refine ⟨trivial, ?_⟩; gi_at_call 87; refine (callsIn_wide.2 (lines_any s _)).mono ?_; rintro e w2 ⟨rfl, rfl⟩)
  have b0 := Boxed.new w 3 (.int .i64 0)
  have hz : (w.alloc (.cells #[.int .i64 0] 3)).heap.size = w.heap.size + 1 := by simp
  have hb1 : Below w.heap.size w (w.alloc (.cells #[.int .i64 0] 3)) := (Below.refl _ w).alloc (Nat.le_refl _) _
  generalize w.alloc (.cells #[.int .i64 0] 3) = w1 at b0 hz hb1 ⊢
  have b2 := Boxed.new w1 9 (.string s)
  rw [hz] at b2
  have hb3 : Below w.heap.size w (w1.alloc (.cells #[.string s] 9)) := hb1.alloc hb1.size _
  refine wp_iter (by decide) rfl (enters_of Tryz.func124 (by kernel_rfl) rfl) rfl hG (fun o o' => (b2.alloc o).alloc o') (by rintro k rfl; simp [hz]) lst_kept (fun A C h k => book_box A C (by simp [hz]) h k)
    (fun pre W => Boxed W w.heap.size 3 (.int .i64 ((flatB pre).length : Nat)) ∧ Below w.heap.size w W ∧ Hid (∀ y ∈ pre.tail, HdrP.begun y.data.toList = true))
    (fun c _ W => c = .exit 0 ∧ Boxed W w.heap.size 3 (.int .i64 N) ∧ Below w.heap.size w W)
    (fun pre A C hi hg => ⟨boxed_calm hi.1 hg (by omega), below_calm2 hi.2.1 hg (Nat.le_refl _) (by omega) (by simp; omega), hi.2.2⟩)
    (fun _ pre A C hi hg => ⟨hi.1, boxed_calm hi.2.1 hg (by omega), below_calm2 hi.2.2 hg (Nat.le_refl _) (by omega) (by simp; omega)⟩)
    ⟨b0.alloc _, hb3, by intro y hy; cases hy⟩
    (fun x => { tmps := #[.string s, undef, .int .i64 0, .pointer (some ⟨w.heap.size, 0, none⟩), .string x, .string s, .func (.func 124) #[] #[.pointer (some ⟨w.heap.size + 1, 0, none⟩)], .string x, undef, undef, undef, undef, undef, undef, undef, undef, undef, undef, undef, undef, undef], defers := [] }) ?assign ?body ?done ?stop
  case assign =>
    intro l x W K hK
    gi_wp2
    exact hK
  case body =>
    rintro l pre x rest W hx ⟨hb0, hB, hbeg⟩ ⟨u, hbu⟩ hsz
    simp only [World.size_alloc, hz] at hsz ⊢
    have hfx := hfb hx
    have hx0 := (hne hx).1
    have c0 := hb0.cell
    have f0 := hb0.frozen
    have F1 : IntKind.i64.wrap (((flatB pre).length : Int) + (x.size : Int)) = ((flatB pre).length : Int) + (x.size : Int) := by rw [IntKind.wrap_i64]; omega
    have HP : Hid ((flatB (pre ++ [x])).length = (flatB pre).length + x.size) := by show _ = _; rw [flatB_snoc, List.length_append, ← size_list]
    cases pre with
    | nil =>
      rw [show (flatB []).length = 0 from rfl] at hb0 c0 F1 hfx HP
      clear hfb hG b0 b2 hb3 hb1 hx hend hpos hne
      gi_wp2_with (refine ⟨trivial, ?_⟩)
      refine ⟨keeps_set (by omega) _, (by rintro k rfl; exact put_far (by omega) _), ?_, below_put hB (Nat.le_refl _) (Nat.le_refl _) _, ?_⟩
      · rw [HP.out, Nat.zero_add]; exact hb0.set _
      · intro y hy; cases hy
    | cons p pre =>
      have hq := hpos hx
      have RI := run_index_str x 0 0 rfl hx0
      have hbx := begun_is x hx0
      have hC := fun (hb : HdrP.blank (x[0]'hx0) = HdrP.begun x.data.toList) (W : World) => isBlank_any (x[0]'hx0) _ rfl W
      have hC := hC hbx.symm
      rw [← hbx] at hC
      by_cases hbg : HdrP.begun x.data.toList = true
      · rw [hbg] at hC
        have HBG := Lib.hid hbg
        generalize (flatB (p :: pre)).length = q at hb0 c0 F1 hfx HP hq
        have hq' : (0 : Int) < (q : Int) := by omega
        generalize (x[0]'hx0).toNat = xx at RI hC
        clear hfb hG b0 b2 hb3 hb1 hx hend hpos hne hbx hbg
        gi_wp2_with (refine ⟨trivial, ?_⟩; gi_at_call 89; refine (CallsIn.inRound l (callsIn_wide.2 (hC _))).mono ?_; rintro e W2 ⟨rfl, hw⟩; rw [← hw]; clear hw W2)
        refine ⟨keeps_set (by omega) _, (by rintro k rfl; exact put_far (by omega) _), ?_, below_put hB (Nat.le_refl _) (Nat.le_refl _) _, ?_⟩
        · rw [HP.out, Int.natCast_add]; exact hb0.set _
        · intro y hy
          rw [List.cons_append, List.tail_cons] at hy
          rcases List.mem_append.1 hy with hy | hy
          · exact hbeg.out y hy
          · rw [List.mem_singleton.1 hy]; exact HBG.out
      · have hbg' : HdrP.begun x.data.toList = false := by simpa using hbg
        rw [hbg'] at hC
        have hE := Lib.hid (hend hx hbeg.out hbg')
        generalize (flatB (p :: pre)).length = q at hb0 c0 F1 hfx HP hq hE
        have hq' : (0 : Int) < (q : Int) := by omega
        generalize (x[0]'hx0).toNat = xx at RI hC
        clear hfb hG b0 b2 hb3 hb1 hx hend hpos hne hbx hbg hbg'
        gi_wp2_with (refine ⟨trivial, ?_⟩; gi_at_call 89; refine (CallsIn.inRound l (callsIn_wide.2 (hC _))).mono ?_; rintro e W2 ⟨rfl, hw⟩; rw [← hw]; clear hw W2)
        exact ⟨KeepsFrom.refl _ _, rfl, by rw [hE.out]; exact hb0, hB⟩
  case done =>
    rintro D W hD ⟨hb0, hB, hbeg⟩ hK
    simp only [World.size_alloc, hz] at hD
    have c0 := hb0.cell
    have hE := Lib.hid (HALL.out hbeg.out)
    gi_wp2
    rw [hE.out]
    refine ⟨by simp, .inl ⟨_, _, rfl, run_takeDeferred hK, ?_⟩⟩
    exact ⟨_, results_tmp rfl _ _ _, rfl, below_obj hB (Nat.le_refl _) (by omega) _⟩
  case stop =>
    rintro D c pre W hD ⟨rfl, hb0, hB⟩ hK
    simp only [World.size_alloc, hz] at hD
    have c0 := hb0.cell
    gi_wp2
    refine ⟨by simp, .inl ⟨_, _, rfl, run_takeDeferred hK, ?_⟩⟩
    exact ⟨_, results_tmp rfl _ _ _, rfl, below_obj hB (Nat.le_refl _) (by omega) _⟩
end Go.Proofs.YtdinachiiimngaaGreatDoor.Hd
namespace Go.Proofs.YtdinachiiimngaaGreatDoor.Hd
open Go.ChangeShapes Go.WideShapes Go.ChangeAt Go.RowKit
open LinesP HdrP

theorem rows38 : (Tryz.prog.info? 78).map (·.size) = some 4 := by kernel_rfl
/-- A new, empty field lies in block b, and older memory stands. -/
structure Fz (w0 w : World) : Prop where
  bel : Below w0.heap.size w0 w
  blk : w.heap[w0.heap.size]? = some (.cells #[.string ⟨#[]⟩, .string ⟨#[]⟩, .string ⟨#[]⟩, .bool false] 78 (0, 0))
theorem Fz.new (w : World) : Fz w (w.alloc (.cells #[.string ⟨#[]⟩, .string ⟨#[]⟩, .string ⟨#[]⟩, .bool false] 78)) :=
  ⟨(Below.refl _ w).alloc (Nat.le_refl _) _, World.alloc_heap_new w _⟩
theorem Fz.step {w0 w w' : World} (h : Fz w0 w) (hb : Below w.heap.size w w') : Fz w0 w' :=
  ⟨h.bel.trans (hb.mono h.bel.size), (hb.block _ (Array.getElem?_eq_some_iff.1 h.blk).1).trans h.blk⟩
theorem Fz.c0 {w0 w : World} (h : Fz w0 w) : w.cell? ⟨w0.heap.size, 0, none⟩ = some (.string ⟨#[]⟩) := by rw [Lib.cell_of_heap h.blk]; rfl
theorem Fz.c1 {w0 w : World} (h : Fz w0 w) : w.cell? ⟨w0.heap.size, 1, none⟩ = some (.string ⟨#[]⟩) := by rw [Lib.cell_of_heap h.blk]; rfl
theorem Fz.c2 {w0 w : World} (h : Fz w0 w) : w.cell? ⟨w0.heap.size, 2, none⟩ = some (.string ⟨#[]⟩) := by rw [Lib.cell_of_heap h.blk]; rfl
theorem Fz.c3 {w0 w : World} (h : Fz w0 w) : w.cell? ⟨w0.heap.size, 3, none⟩ = some (.bool false) := by rw [Lib.cell_of_heap h.blk]; rfl
theorem Fz.fr {w0 w : World} (h : Fz w0 w) (i : Nat) : w.frozen? ⟨w0.heap.size, i, none⟩ = false := Lib.frozen_of_heap h.blk i
theorem set_four {w : World} {b : Nat} {a0 a1 a2 a3 v0 v1 v2 v3 : Value} {t : TypeId} (h : w.heap[b]? = some (.cells #[a0, a1, a2, a3] t (0, 0))) :
    ((((w.setCell ⟨b, 0, none⟩ v0).setCell ⟨b, 1, none⟩ v1).setCell ⟨b, 2, none⟩ v2).setCell ⟨b, 3, none⟩ v3).heap[b]? = some (.cells #[v0, v1, v2, v3] t (0, 0)) := by
  obtain ⟨hlt, hk⟩ := Array.getElem?_eq_some_iff.1 h
  simp [World.setCell, Array.getElem?_modify, h]
theorem below_at {w W : World} {C : Nat} (h : Below C w W) (a : Addr) (hb : C ≤ a.block) (v : Value) : Below C w (W.setCell a v) :=
  ⟨h.os, h.tape, h.output, by simpa using h.size, fun k hk => by rw [Below.heap_setCell W a v k (by omega)]; exact h.block k hk⟩
theorem Fz.put {w0 w : World} (h : Fz w0 w) (v0 v1 v2 v3 : Value) : Below w0.heap.size w0 ((((w.setCell ⟨w0.heap.size, 0, none⟩ v0).setCell ⟨w0.heap.size, 1, none⟩ v1).setCell ⟨w0.heap.size, 2, none⟩ v2).setCell ⟨w0.heap.size, 3, none⟩ v3) :=
  below_at (below_at (below_at (below_at h.bel _ (Nat.le_refl _) _) _ (Nat.le_refl _) _) _ (Nat.le_refl _) _) _ (Nat.le_refl _) _
set_option maxRecDepth 100000 in
set_option maxHeartbeats 2000000 in
theorem read_yes (s : ByteArray) (hs : s.size ≤ 4000000) (w : World) (hv : Vars w) (hc : 58 ∈ s.data.toList) (hr : rightL (trimR (upto s.data.toList)) = true) :
    Calls Tryz.prog 57 #[.string s] w fun e w' => e = .returned (fldA (readL s.data.toList)) ∧ Below w.heap.size w w' := by
  have hf := Fz.new w
  have c1 := fun w hv => cut_yes hs hc w hv
  have hu : (upto s.data.toList).length ≤ s.size := by rw [size_list]; exact (List.takeWhile_sublist _).length_le
  have c2 := fun w => trimr_any (strL (upto s.data.toList)) (by rw [strL_size]; omega) w
  have hu2 : (trimR (upto s.data.toList)).length ≤ s.size := by
    have : (trimR (upto s.data.toList)).length ≤ (upto s.data.toList).length := by
      unfold trimR; rw [List.length_reverse]; have := (List.dropWhile_sublist (p := HdrP.blank) (l := (upto s.data.toList).reverse)).length_le; rwa [List.length_reverse] at this
    omega
  have c3 := fun w => right_any (strL (trimR (upto s.data.toList))) w
  have c4 := fun w => bare_any (strL (s.data.toList.drop ((upto s.data.toList).length + 1))) (by rw [strL_size, List.length_drop, ← size_list]; omega) w
  simp only [strL_list] at c2 c3 c4
  rw [hr] at c3
  have hR : readL s.data.toList = ⟨trimR (upto s.data.toList), bareL (s.data.toList.drop ((upto s.data.toList).length + 1)), s.data.toList, false⟩ := by
    unfold readL; rw [if_pos ⟨hc, hr⟩]
  rw [hR]
  unfold fldA
  rw [strL_of]
  generalize strL (upto s.data.toList) = A at c1 c2
  generalize strL (s.data.toList.drop ((upto s.data.toList).length + 1)) = B at c1 c4
  generalize strL (trimR (upto s.data.toList)) = A2 at c2 c3 ⊢
  generalize strL (bareL (s.data.toList.drop ((upto s.data.toList).length + 1))) = B2 at c4 ⊢
  have hv1 := hv.keep hf.bel
  have c1 := c1 _ hv1
  clear hR hu hu2 hr hc hv1
  go_enter Tryz.func57, Tryz.ntmps57
  go_wp2_with (first
    | (go_at_call 30; with_reducible refine c1.mono ?_; rintro e w1 ⟨rfl, hb1⟩; replace hf := hf.step hb1; clear c1 hb1)
    | (go_at_call 90; with_reducible refine (c2 _).mono ?_; rintro e w2 ⟨rfl, hb2⟩; replace hf := hf.step hb2; clear c2 hb2)
    | (go_at_call 58; with_reducible refine (c3 _).mono ?_; rintro e w3 ⟨rfl, hb3⟩; replace hf := hf.step hb3; clear c3 hb3; have k0 := hf.c0; have k1 := hf.c1; have k2 := hf.c2; have k3 := hf.c3; have f0 := hf.fr 0; have f1 := hf.fr 1; have f2 := hf.fr 2; have f3 := hf.fr 3)
    | (go_at_call 88; with_reducible refine (c4 _).mono ?_; rintro e w4 ⟨rfl, hw⟩; rw [hw]; clear hw w4 c4))
  exact bodyPost_ret (results_cell_row rfl _ _ w.heap.size 78 _ _ _ rfl (set_four hf.blk) Tryz.underlying78 rfl rows38) rfl ⟨rfl, hf.put _ _ _ _⟩
set_option maxRecDepth 100000 in
set_option maxHeartbeats 2000000 in
theorem read_bad (s : ByteArray) (hs : s.size ≤ 4000000) (w : World) (hv : Vars w) (hc : 58 ∈ s.data.toList) (hr : rightL (trimR (upto s.data.toList)) = false) :
    Calls Tryz.prog 57 #[.string s] w fun e w' => e = .returned (fldA (readL s.data.toList)) ∧ Below w.heap.size w w' := by
  have hf := Fz.new w
  have c1 := fun w hv => cut_yes hs hc w hv
  have hu : (upto s.data.toList).length ≤ s.size := by rw [size_list]; exact (List.takeWhile_sublist _).length_le
  have c2 := fun w => trimr_any (strL (upto s.data.toList)) (by rw [strL_size]; omega) w
  have c3 := fun w => right_any (strL (trimR (upto s.data.toList))) w
  simp only [strL_list] at c2 c3
  rw [hr] at c3
  have hR : readL s.data.toList = ⟨[], [], s.data.toList, true⟩ := by
    unfold readL; rw [if_neg (by rw [hr]; simp)]
  rw [hR]
  unfold fldA
  rw [strL_of, show strL [] = ⟨#[]⟩ from rfl]
  generalize strL (upto s.data.toList) = A at c1 c2
  generalize strL (s.data.toList.drop ((upto s.data.toList).length + 1)) = B at c1
  generalize strL (trimR (upto s.data.toList)) = A2 at c2 c3
  have hv1 := hv.keep hf.bel
  have c1 := c1 _ hv1
  clear hR hu hr hc hv1
  go_enter Tryz.func57, Tryz.ntmps57
  go_wp2_with (first
    | (go_at_call 30; with_reducible refine c1.mono ?_; rintro e w1 ⟨rfl, hb1⟩; replace hf := hf.step hb1; clear c1 hb1)
    | (go_at_call 90; with_reducible refine (c2 _).mono ?_; rintro e w2 ⟨rfl, hb2⟩; replace hf := hf.step hb2; clear c2 hb2)
    | (go_at_call 58; with_reducible refine (c3 _).mono ?_; rintro e w3 ⟨rfl, hb3⟩; replace hf := hf.step hb3; clear c3 hb3; have k0 := hf.c0; have k1 := hf.c1; have k2 := hf.c2; have k3 := hf.c3; have f0 := hf.fr 0; have f1 := hf.fr 1; have f2 := hf.fr 2; have f3 := hf.fr 3))
  exact bodyPost_ret (results_cell_row rfl _ _ w.heap.size 78 _ _ _ rfl (set_four hf.blk) Tryz.underlying78 rfl rows38) rfl ⟨rfl, hf.put _ _ _ _⟩
set_option maxRecDepth 100000 in
set_option maxHeartbeats 2000000 in
theorem read_no (s : ByteArray) (hs : s.size ≤ 4000000) (w : World) (hv : Vars w) (hc : 58 ∉ s.data.toList) :
    Calls Tryz.prog 57 #[.string s] w fun e w' => e = .returned (fldA (readL s.data.toList)) ∧ Below w.heap.size w w' := by
  have hf := Fz.new w
  have c1 := fun w hv => cut_no hs hc w hv
  have c2 := fun w => trimr_any s hs w
  have hR : readL s.data.toList = ⟨[], [], s.data.toList, true⟩ := by
    unfold readL; rw [if_neg (fun h => hc h.1)]
  rw [hR]
  unfold fldA
  rw [strL_of, show strL [] = ⟨#[]⟩ from rfl]
  generalize strL (trimR s.data.toList) = A2 at c2
  have hv1 := hv.keep hf.bel
  have c1 := c1 _ hv1
  clear hR hc hv1
  go_enter Tryz.func57, Tryz.ntmps57
  go_wp2_with (first
    | (go_at_call 30; with_reducible refine c1.mono ?_; rintro e w1 ⟨rfl, hb1⟩; replace hf := hf.step hb1; clear c1 hb1)
    | (go_at_call 90; with_reducible refine (c2 _).mono ?_; rintro e w2 ⟨rfl, hb2⟩; replace hf := hf.step hb2; clear c2 hb2; have k0 := hf.c0; have k1 := hf.c1; have k2 := hf.c2; have k3 := hf.c3; have f0 := hf.fr 0; have f1 := hf.fr 1; have f2 := hf.fr 2; have f3 := hf.fr 3))
  exact bodyPost_ret (results_cell_row rfl _ _ w.heap.size 78 _ _ _ rfl (set_four hf.blk) Tryz.underlying78 rfl rows38) rfl ⟨rfl, hf.put _ _ _ _⟩
theorem read_any (s : ByteArray) (hs : s.size ≤ 4000000) (w : World) (hv : Vars w) :
    Calls Tryz.prog 57 #[.string s] w fun e w' => e = .returned (fldA (readL s.data.toList)) ∧ Below w.heap.size w w' := by
  by_cases hc : 58 ∈ s.data.toList
  · by_cases hr : rightL (trimR (upto s.data.toList)) = true
    · exact read_yes s hs w hv hc hr
    · exact read_bad s hs w hv hc (by simpa using hr)
  · exact read_no s hs w hv hc
end Go.Proofs.YtdinachiiimngaaGreatDoor.Hd
namespace Go.Proofs.YtdinachiiimngaaGreatDoor.Hd
open Go.ChangeShapes Go.WideShapes Go.ChangeAt Go.RowKit
open LinesP HdrP

theorem sec_take (s : ByteArray) : s.extract 0 (secN s.data.toList) = strL (hdrL (splitL s.data.toList)).flatten ∧ secN s.data.toList ≤ s.size := by
  obtain ⟨line, rest, h1, h2, _⟩ := at_parts s.data.toList
  have hle : secN s.data.toList ≤ s.size := by
    have := congrArg List.length h1
    rw [List.length_append, List.length_append, ← size_list] at this
    unfold secN
    omega
  refine ⟨bytes_is ?_, hle⟩
  rw [part_start s _ hle, strL_list]
  have key : ∀ (S H l r : List UInt8), S = H ++ l ++ r → S.take H.length = H := by
    intro S H l r h
    rw [h, List.append_assoc, List.take_left' rfl]
  exact key _ _ _ _ h1
theorem at_le (s : ByteArray) : atL s.data.toList ≤ s.size := by
  obtain ⟨line, rest, h1, h2, _⟩ := at_parts s.data.toList
  have := congrArg List.length h1
  rw [List.length_append, List.length_append, ← size_list] at this
  omega
theorem drop_le (r : List (List UInt8)) : (dropC r).length ≤ r.length := (List.dropWhile_sublist _).length_le
/-- What is left of the section, and the fields that have been read. -/
structure Pr (w0 w : World) (L ls : List (List UInt8)) (d : List Fld) (v : Value) (m : Nat) : Prop where
  good : LinesP.Good ls
  all : d ++ groups ls = groups L
  few : d.length + ls.length ≤ m
  bel : Below w0.heap.size w0 w
  own : w.ownsRow w0.heap.size 78 4 v d.length (fldsV d)
theorem Pr.step {w0 w w' : World} {L ls : List (List UInt8)} {d : List Fld} {v : Value} {m : Nat} (h : Pr w0 w L ls d v m) (hb : Below w.heap.size w w') : Pr w0 w' L ls d v m :=
  ⟨h.good, h.all, h.few, h.bel.trans (hb.mono h.bel.size), own_below h.own hb⟩
theorem Pr.next {w0 w w' : World} {L r : List (List UInt8)} {l : List UInt8} {d : List Fld} {v v' : Value} {m : Nat} (h : Pr w0 w L (l :: r) d v m) (o : Obj) (hg : (w.alloc o).grownBy w' v.ownBlock) (ho : w'.ownsRow w0.heap.size 78 4 v' (d ++ [fieldL l (moreL r)]).length (fldsV (d ++ [fieldL l (moreL r)]))) :
    Pr w0 w' L (dropC r) (d ++ [fieldL l (moreL r)]) v' m := by
  obtain ⟨_, h2, h3, h4, _⟩ := cut_one h.good
  refine ⟨h2, ?_, ?_, ?_, ho⟩
  · rw [List.append_assoc, List.singleton_append, ← h4]; exact h.all
  · have := h.few
    have := drop_le r
    rw [List.length_append]
    simp only [List.length_cons, List.length_nil] at *
    omega
  · exact (h.bel.alloc h.bel.size o).grown hg (by have := h.bel.size; rw [World.size_alloc]; omega) (fun k e => (h.own.lt k e).1)
def strSize : Value → Nat
  | .string s => s.size
  | _ => 0
set_option maxRecDepth 100000 in
set_option maxHeartbeats 4000000 in
theorem parse_any (s : ByteArray) (hs : s.size ≤ 4000000) (w : World) (hv : Vars w) :
    Calls Tryz.prog 26 #[.string s] w fun e w' => ∃ a c, e = .returned (.tuple #[.slice a (parseL s.data.toList).length c, .int .i64 (atL s.data.toList)]) ∧ OwnF w' (.slice a (parseL s.data.toList).length c) (parseL s.data.toList) ∧ Below w.heap.size w w' := by
  have cS := section_any s hs w
  obtain ⟨hcut, hle⟩ := sec_take s
  have hGood := hdr_good (split_good s.data.toList)
  have hlen : (hdrL (splitL s.data.toList)).length ≤ s.size := by
    have := split_len s.data.toList
    have h2 : (hdrL (splitL s.data.toList)).length ≤ (splitL s.data.toList).length := (List.takeWhile_sublist _).length_le
    rw [size_list]; omega
  unfold parseL
  generalize hdrL (splitL s.data.toList) = L at hcut hGood hlen ⊢
  generalize secN s.data.toList = N at cS hcut hle
  have R0 := run_slice_to s N (N : Int) rfl hle
  rw [hcut] at R0
  have hflat : L.flatten.length ≤ s.size := by
    have := congrArg ByteArray.size hcut
    rw [strL_size] at this
    rw [← this]; simp; omega
  have cC := fun w => clone_any (strL L.flatten) w (by rw [strL_size]; omega)
  generalize hat : atL s.data.toList = M at cS ⊢
  clear hcut hle hat
  obtain ⟨sec, hsec⟩ : ∃ sec, strL L.flatten = sec := ⟨_, rfl⟩
  rw [hsec] at R0 cC
  have HSEC := Lib.hid hsec
  clear hsec
  have HG := Lib.hid (And.intro hGood hlen)
  clear hGood hlen
  have HF := Lib.hid hflat
  clear hflat
  go_enter Tryz.func26, Tryz.ntmps26
  go_wp2_with (first
    | (go_at_call 55; with_reducible refine cS.mono ?_; rintro e w1 ⟨rfl, hb1⟩; clear cS)
    | (go_at_call 41; with_reducible refine (cC _).mono ?_; rintro e w2 ⟨rfl, hb2⟩; clear cC))
  have hst : Pr w w2 L L [] (.slice none 0 0) s.size := ⟨HG.out.1, rfl, by simpa using HG.out.2, Qtrans hb1 hb2, ⟨rfl, .inl ⟨rfl, rfl⟩⟩⟩
  have HST := Lib.hid hst
  clear hst hb1 hb2
  go_loopw [6, 7] (fun x fs wr => ∃ (ls : List (List UInt8)) (d : List Fld) (A : ByteArray) (m : Nat), x = .string A ∧ Hid (A = strL ls.flatten) ∧ d.length = m ∧ (∃ a c, fs = .slice a m c ∧ Hid (Pr w wr L ls d fs s.size)) ∧ A.size ≤ s.size) (fun x _ _ => strSize x)
  case atStart => exact ⟨L, [], sec, 0, rfl, Lib.hid HSEC.out.symm, rfl, ⟨none, 0, rfl, HST⟩, by rw [← HSEC.out, strL_size]; exact HF.out⟩
  case round =>
    obtain ⟨ls, d, A, m, rfl, HA, hm, ⟨a, c, rfl, hst⟩, hsz⟩ := hrel
    have HAs := Lib.hid (size_list A)
    cases ls with
    | nil =>
      obtain rfl : A = ⟨#[]⟩ := HA.out
      have hall := Lib.hid hst.out.all
      go_wp2_with fail
      go_ret2
      have h := hall.out
      rw [show groups [] = [] from rfl, List.append_nil] at h
      subst h
      subst hm
      exact ⟨a, c, rfl, ⟨_, hst.out.own⟩, hst.out.bel⟩
    | cons l r =>
      obtain ⟨e1, e2, e3, e4, e5⟩ := cut_one hst.out.good
      have hA := HA.out
      have lA : A.data.toList = (l :: r).flatten := by rw [hA]; rfl
      have hsp : splitL A.data.toList = l :: r := by rw [lA]; exact split_of_good hst.out.good
      have hne : A.toList.isEmpty = false := by
        rw [ByteArray.toList_eq, lA, List.flatten_cons]
        cases l with
        | nil => exact absurd rfl e5
        | cons x y => rfl
      obtain ⟨n, hn⟩ : ∃ n, (l ++ moreL r).length = n := ⟨_, rfl⟩
      have hn2 : fieldN (splitL A.data.toList) = n := by rw [hsp, ← hn, List.length_append]; rfl
      have hnA : n ≤ A.size := by rw [size_list, lA, e1, List.length_append, hn]; omega
      have hn0 : 0 < n := by rw [← hn, List.length_append]; have := List.length_pos_iff.2 e5; omega
      have c1 := fun w => length_any A (by omega) w
      rw [hn2] at c1
      have k1 : A.extract 0 n = strL (l ++ moreL r) := bytes_is (by rw [part_start A n hnA, lA, e1, ← hn, List.take_left' rfl]; rfl)
      have k2 : A.extract n A.size = strL (dropC r).flatten := bytes_is (by rw [part_rest A n hnA, lA, e1, ← hn, List.drop_left' rfl]; rfl)
      have R1 := run_slice_to A n (n : Int) rfl hnA
      have R2 := run_slice_from A n (n : Int) rfl hnA
      rw [k1] at R1
      rw [k2] at R2
      have zB : (strL (l ++ moreL r)).size = n := by rw [strL_size]; exact hn
      have zC : (strL (dropC r).flatten).size < A.size := by
        rw [strL_size, size_list A, lA, e1, List.length_append, hn]; omega
      have c2 := fun w hv => read_any (strL (l ++ moreL r)) (by omega) w hv
      rw [strL_list, e3] at c2
      obtain ⟨f, hf⟩ : ∃ f, fieldL l (moreL r) = f := ⟨_, rfl⟩
      rw [hf] at c2
      have c2' : ∀ w, Vars w → Calls Tryz.prog 57 #[.string (strL (l ++ moreL r))] w fun e w' => e = .returned (.agg #[.string (strL f.name), .string (strL f.value), .string (strL f.raw), .bool f.bad]) ∧ Below w.heap.size w w' := c2
      obtain ⟨B, hB⟩ : ∃ B, strL (l ++ moreL r) = B := ⟨_, rfl⟩
      obtain ⟨C, hC⟩ : ∃ C, strL (dropC r).flatten = C := ⟨_, rfl⟩
      rw [hB] at R1 c2'
      rw [hC] at R2 zC
      have HC := Lib.hid hC.symm
      have HFF := Lib.hid hf
      have hdm : m ≤ 4000000 := by have := hst.out.few; rw [hm] at this; omega
      have hbz := hst.out.bel.size
      have HM := Lib.hid hm
      clear e1 e2 e3 e4 e5 hA lA hsp hn2 hn k1 k2 zB c2 hf hB hC hn0 hm
      go_wp2_with (first
        | (go_at_call 56; with_reducible refine (c1 _).mono ?_; rintro e w3 ⟨rfl, hb3⟩; replace hst := Lib.hid (hst.out.step hb3); clear c1 hb3; have c3 := c2' w3 (hv.keep (hst.out.bel)); clear c2')
        | (go_at_call 57; with_reducible refine c3.mono ?_; rintro e w4 ⟨rfl, hb4⟩; replace hst := Lib.hid (hst.out.step hb4); clear c3 hb4; have hbz := hst.out.bel.size)
        | (at_builtin; refine wpList_appF (by rfl) (.tmp 22) (.tmp 27) rfl rfl w.heap.size f rfl rfl hst.out.own HM.out hbz hdm ?_; intro a2 c2 w5 h2 g2; replace h2 := Lib.hid h2; replace g2 := Lib.hid g2))
      go_roundw
      case rel =>
        have hn := hst.out.next (l := l) (r := r) _ g2.out (by rw [HFF.out]; exact h2.out)
        rw [HFF.out] at hn
        exact ⟨dropC r, d ++ [f], C, m + 1, rfl, HC, by rw [List.length_append, HM.out]; rfl, ⟨a2, c2, rfl, Lib.hid hn⟩, by omega⟩
      case measure => exact zC
end Go.Proofs.YtdinachiiimngaaGreatDoor.Hd
namespace Go.Proofs.YtdinachiiimngaaGreatDoor.Hd
open Go.ChangeShapes Go.WideShapes Go.ChangeAt Go.RowKit
open LinesP HdrP

/-- All raw bytes. -/
def rawsL (l : List Fld) : List UInt8 := (l.map Fld.raw).flatten
theorem raws_step (l : List Fld) (k : Nat) (f : Fld) (h : l[k]? = some f) : rawsL (l.take (k + 1)) = rawsL (l.take k) ++ f.raw := by
  unfold rawsL
  rw [List.take_add_one, h]; simp
theorem raws_le (l : List Fld) (k : Nat) : (rawsL (l.take k)).length ≤ (rawsL l).length := by
  have : rawsL l = rawsL (l.take k) ++ rawsL (l.drop k) := by unfold rawsL; rw [← List.flatten_append, ← List.map_append, List.take_append_drop]
  rw [this, List.length_append]; omega
theorem raw_le (l : List Fld) (k : Nat) (f : Fld) (h : l[k]? = some f) : (rawsL (l.take k)).length + f.raw.length ≤ (rawsL l).length := by
  rw [← List.length_append, ← raws_step l k f h]; exact raws_le l (k + 1)
/-- The slice v reads as the fields l. -/
def HasF (w : World) (v : Value) (l : List Fld) : Prop := (v = .slice none 0 0 ∧ l = []) ∨ ∃ g o c, v = .slice (some ⟨g, o, none⟩) l.length c ∧ FAt w g o l
theorem OwnF.has {w : World} {v : Value} {l : List Fld} (h : OwnF w v l) : HasF w v l := by
  obtain ⟨b, ho⟩ := h
  rcases ho.2 with ⟨rfl, h0⟩ | ⟨g, cap, cur, rfl, hr⟩
  · exact .inl ⟨rfl, List.eq_nil_of_length_eq_zero h0⟩
  · refine .inr ⟨g, 0, cap, rfl, ?_⟩
    by_cases h0 : l = []
    · subst h0; intro i f hf; simp at hf
    · obtain ⟨g2, e, h2⟩ := OwnF.at (a := some ⟨g, 0, none⟩) (n := l.length) (c := cap) ⟨b, ho⟩ (List.length_pos_iff.2 h0)
      injection e with e
      injection e with e
      subst e
      exact h2
theorem HasF.step {w w' : World} {v : Value} {l : List Fld} (h : HasF w v l) (hb : Below w.heap.size w w') : HasF w' v l := by
  rcases h with h | ⟨g, o, c, e, h⟩
  · exact .inl h
  · exact .inr ⟨g, o, c, e, h.step hb⟩
end Go.Proofs.YtdinachiiimngaaGreatDoor.Hd
namespace Go.Proofs.YtdinachiiimngaaGreatDoor.Hd
open Go.ChangeShapes Go.WideShapes Go.ChangeAt Go.RowKit
open LinesP HdrP

attribute [local go_sem] Oper.semAt_some

/-- The values, as strings. -/
def valsB (l : List Fld) (nm : List UInt8) : List ByteArray := (allL l nm).map strL
def meets (f : Fld) (nm : List UInt8) : Bool := !f.bad && (f.name.map low == nm.map low)
theorem vals_cons (f : Fld) (r : List Fld) (nm : List UInt8) : valsB (f :: r) nm = if meets f nm = true then strL (trimL (unfoldL f.value)) :: valsB r nm else valsB r nm := by
  unfold valsB allL meets
  rw [List.filter_cons]
  split <;> rfl
/-- The two boxes, and the fields. -/
structure Vs (W : World) (b1 b2 : Nat) (v : Value) (nm : ByteArray) (g o : Nat) (l : List Fld) : Prop where
  bx1 : Boxed W b1 45 v
  bx2 : Boxed W b2 9 (.string nm)
  fs : FAt W g o l
theorem Vs.step {W W' : World} {b1 b2 g o : Nat} {v : Value} {nm : ByteArray} {l : List Fld} (h : Vs W b1 b2 v nm g o l) (hb : Below W.heap.size W W') : Vs W' b1 b2 v nm g o l :=
  ⟨(hb.block b1 h.bx1.lt).trans h.bx1, (hb.block b2 h.bx2.lt).trans h.bx2, h.fs.step hb⟩
theorem Vs.same {W W' : World} {b1 b2 g o : Nat} {v : Value} {nm : ByteArray} {l : List Fld} (h : Vs W b1 b2 v nm g o l) (hs : Same (fun k => k = b1 ∨ k = b2 ∨ (k = g ∧ l ≠ [])) W W') : Vs W' b1 b2 v nm g o l :=
  ⟨(hs b1 (.inl rfl)).trans h.bx1, (hs b2 (.inr (.inl rfl))).trans h.bx2, by
    by_cases h0 : l = []
    · subst h0; intro i f hf; simp at hf
    · exact h.fs.keep (hs g (.inr (.inr ⟨rfl, h0⟩)))⟩
theorem below_grown {w w' : World} (h : w.grownBy w' none) : Below w.heap.size w w' := (Below.refl _ _).grown h (Nat.le_refl _) (fun k e => by cases e)
theorem unfold_len (s : List UInt8) : (unfoldL s).length ≤ s.length := by
  induction s with
  | nil => exact Nat.le_refl _
  | cons c t ih =>
    unfold unfoldL
    split
    · rw [List.length_cons]; omega
    · split
      · rw [List.length_cons]; omega
      · rw [List.length_cons, List.length_cons]; omega
theorem cell_below {w w' : World} {a : Addr} {v : Value} (h : w.cell? a = some v) (hb : Below w.heap.size w w') : w'.cell? a = some v := by
  rw [World.cell?_of_block (w := w) (hb.block _ (World.block_lt_of_cell? w a h))]; exact h
theorem copy_value (w : World) (a b c d : Value) (t : TypeId) : (w.alloc (.cells #[a, b, c, d] t)).cell? ⟨w.heap.size, 1, none⟩ = some b := by
  rw [Lib.cell_of_heap (World.alloc_heap_new w _)]; rfl
set_option maxRecDepth 100000 in
set_option maxHeartbeats 4000000 in
theorem vals_gives (n : Nat) (hn : 2 ≤ n) (b1 b2 g o c : Nat) (nm : ByteArray) (l : List Fld) (N : Nat) (hN : l.length = N) (hl : N ≤ 4000000) (hsz : ∀ f ∈ l, f.name.length ≤ 4000000 ∧ f.value.length ≤ 4000000) :
    Gives n Tryz.prog 93 #[.pointer (some ⟨b1, 0, none⟩), .pointer (some ⟨b2, 0, none⟩)] (fun A B => Below A.heap.size A B) (fun k => k = b1 ∨ k = b2 ∨ (k = g ∧ l ≠ [])) (fun _ => True) (fun W => Vs W b1 b2 (.slice (some ⟨g, o, none⟩) N c) nm g o l) (valsB l nm.data.toList) := by
  intro L J Jx W hJ _ hY hb h0
  have c1 := hb.bx1.cell
  refine callsIn_of_wp Tryz.func93 rfl trivial ?_ rfl
  simp only [Tryz.ntmps93, List.size_toArray, List.length_cons, List.length_nil, Nat.reduceAdd, Nat.reduceSub, Array.replicate_succ, Array.replicate_zero, List.push_toArray, List.append_toArray, List.nil_append, List.cons_append]
  gi_wp2
  gi_loopw [5, 8] (fun _ i wr => ∃ (k : Nat) (pre : List ByteArray), k ≤ N ∧ i = .int .i64 k ∧ valsB l nm.data.toList = pre ++ valsB (l.drop k) nm.data.toList ∧ Vs wr b1 b2 (.slice (some ⟨g, o, none⟩) N c) nm g o l ∧ J pre wr)
    (fun _ i _ => N - (intOf i).toNat)
  case atStart => exact ⟨0, [], Nat.zero_le _, rfl, rfl, hb, h0⟩
  case round =>
    obtain ⟨k, pre, hk, rfl, hx, hv, hj⟩ := hrel
    have F1 : IntKind.i64.wrap ((k : Int) + 1) = (k : Int) + 1 := by rw [IntKind.wrap_i64]; omega
    by_cases hlt : k < N
    · have hlt' : (k : Int) < (N : Int) := by omega
      have hkl : k < l.length := by omega
      obtain ⟨f, hf⟩ : ∃ f, l[k]? = some f := ⟨_, List.getElem?_eq_getElem hkl⟩
      have hfg : l[k] = f := (List.getElem?_eq_some_iff.1 hf).2
      have hfm := hsz f (List.mem_of_getElem? hf)
      obtain ⟨k0, k1, k2, k3⟩ := hv.fs k f hf
      have hdrop : l.drop k = f :: l.drop (k + 1) := by rw [List.drop_eq_getElem_cons hkl, hfg]
      rw [hdrop, vals_cons] at hx
      obtain ⟨W1, hW1⟩ : ∃ W1, wr.alloc (.cells #[.string (strL f.name), .string (strL f.value), .string (strL f.raw), .bool f.bad] 78) = W1 := ⟨_, rfl⟩
      have hb1 : Below wr.heap.size wr W1 := by rw [← hW1]; exact (Below.refl _ _).alloc (Nat.le_refl _) _
      have hv1 := hv.step hb1
      have hj1 := hJ _ _ _ hj hb1
      have cn := hv1.bx2.cell
      rw [← hW1] at cn
      by_cases hbad : f.bad = true
      · have hme : meets f nm.data.toList = false := by unfold meets; rw [hbad]; rfl
        rw [hme, if_neg (by simp)] at hx
        have HX := Lib.hid hx
        rw [hbad] at k3 hW1 cn
        have HW := Lib.hid hW1
        have HV := Lib.hid (And.intro hv1 hj1)
        clear hx hme hdrop hf hfg hfm hkl hsz hY hJ hb h0 hv hj hv1 hj1 hb1 hW1
        gi_wp2_with (refine ⟨trivial, ?_⟩)
        go_roundw
        case rel => exact ⟨k + 1, pre, by omega, by go_num, HX.out, by rw [HW.out]; exact HV.out.1, by rw [HW.out]; exact HV.out.2⟩
        case measure => simp [intOf]; omega
      · have hbad' : f.bad = false := by simpa using hbad
        rw [hbad'] at k3 hW1 cn
        have hcn := fun w => (sameName_any (strL f.name) nm (by rw [strL_size]; exact hfm.1) w)
        rw [strL_list] at hcn
        by_cases hs : f.name.map low = nm.data.toList.map low
        · have hme : meets f nm.data.toList = true := by unfold meets; rw [hbad', hs]; simp
          rw [decide_eq_true hs] at hcn
          rw [hme, if_pos rfl] at hx
          have hcu := fun w => unfold_any (strL f.value) (by rw [strL_size]; exact hfm.2) w
          rw [strL_list] at hcu
          have hul := unfold_len f.value
          have hct := fun w => trims_any (strL (unfoldL f.value)) (by rw [strL_size]; omega) w
          rw [strL_list] at hct
          obtain ⟨X, hX⟩ : ∃ X, strL (trimL (unfoldL f.value)) = X := ⟨_, rfl⟩
          rw [hX] at hx hct
          generalize strL (unfoldL f.value) = U at hcu hct
          have HC := Lib.hid (copy_value wr (.string (strL f.name)) (.string (strL f.value)) (.string (strL f.raw)) (.bool false) 78)
          rw [hW1] at HC
          have HW := Lib.hid hW1
          have HV := Lib.hid (And.intro hv1 hj1)
          have HY := Lib.hid hY
          have HJ := Lib.hid hJ
          have HX := Lib.hid hx
          clear hX hx hme hdrop hf hfg hfm hkl hsz hY hJ hb h0 hv hj hv1 hj1 hb1 hW1 hs hbad
          gi_wp2_with (first
            | (refine ⟨trivial, fun _ => by omega, ?_⟩; gi_at_call 94; refine (callsIn_wide.2 (hcn _)).mono ?_; rintro e W2 ⟨rfl, hg2⟩; have hb2 := below_grown hg2; rw [HW.out] at hb2; have HV2 := Lib.hid (And.intro (HV.out.1.step hb2) (HJ.out _ _ _ HV.out.2 hb2)); have cv := cell_below HC.out hb2; clear hcn hg2)
            | (refine ⟨trivial, fun _ => by omega, ?_⟩; gi_at_call 95; refine (callsIn_wide.2 (hcu _)).mono ?_; rintro e W3 ⟨rfl, hb3⟩; have HV3 := Lib.hid (And.intro (HV2.out.1.step hb3) (HJ.out _ _ _ HV2.out.2 hb3)); clear hcu)
            | (refine ⟨trivial, fun _ => by omega, ?_⟩; gi_at_call 92; refine (callsIn_wide.2 (hct _)).mono ?_; rintro e W4 ⟨rfl, hb4⟩; have HV4 := Lib.hid (And.intro (HV3.out.1.step hb4) (HJ.out _ _ _ HV3.out.2 hb4)); clear hct))
          obtain ⟨fn, tmps, assign, body, hy, hR⟩ := HY.out pre X _ W4 HX.out HV4.out.2 trivial
          rw [hy, Oper.uponIn_round]
          refine ⟨fun _ => by omega, hR.mono ?_⟩
          rintro e W5 (⟨rfl, hj5, hs5⟩ | ⟨rfl, hx5⟩)
          · have HV5 := Lib.hid (And.intro (HV4.out.1.same hs5) hj5)
            clear hR hy
            gi_wp2
            go_roundw
            case rel => exact ⟨k + 1, pre ++ [X], by omega, by go_num, by rw [HX.out, List.append_assoc]; rfl, HV5.out.1, HV5.out.2⟩
            case measure => simp [intOf]; omega
          · gi_wp2
            refine bodyPost_ret (results_none rfl _ _ _) rfl ?_
            exact ⟨⟨_, rfl⟩, .inr ⟨_, hx5⟩⟩
        · have hme : meets f nm.data.toList = false := by unfold meets; rw [hbad']; simp; exact hs
          rw [decide_eq_false hs] at hcn
          rw [hme, if_neg (by simp)] at hx
          have HX := Lib.hid hx
          have HW := Lib.hid hW1
          have HV := Lib.hid (And.intro hv1 hj1)
          have HJ := Lib.hid hJ
          clear hx hme hdrop hf hfg hfm hkl hsz hY hJ hb h0 hv hj hv1 hj1 hb1 hW1 hs hbad
          gi_wp2_with (refine ⟨trivial, fun _ => by omega, ?_⟩; gi_at_call 94; refine (callsIn_wide.2 (hcn _)).mono ?_; rintro e W2 ⟨rfl, hg2⟩; have hb2 := below_grown hg2; rw [HW.out] at hb2; have HV2 := Lib.hid (And.intro (HV.out.1.step hb2) (HJ.out _ _ _ HV.out.2 hb2)); clear hcn hg2)
          go_roundw
          case rel => exact ⟨k + 1, pre, by omega, by go_num, HX.out, HV2.out.1, HV2.out.2⟩
          case measure => simp [intOf]; omega
    · have hlt' : ¬ (k : Int) < (N : Int) := by omega
      have hkN : l.drop k = [] := List.drop_eq_nil_of_le (by omega)
      rw [hkN, show valsB [] nm.data.toList = [] from rfl, List.append_nil] at hx
      rw [hx]
      clear hsz hY hJ hb h0 hv hkN
      gi_wp2
      go_end0
      exact ⟨⟨_, rfl⟩, .inl hj⟩
end Go.Proofs.YtdinachiiimngaaGreatDoor.Hd
