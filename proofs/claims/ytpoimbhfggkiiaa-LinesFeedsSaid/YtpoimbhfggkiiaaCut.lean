/- A line without its ending; the library's small functions on strings. -/
import Derived.Test.YtpoimbhfggkiiaaColl
import Derived.Test.YtpoimbhfggkiiaaShelf
namespace Go.Proofs.Ytpoimbhfggkiiaa
open Go.ChangeShapes Go.WideShapes Go.ChangeAt Go.RowKit
open LinesP

theorem suffix_one (l : List UInt8) (c : UInt8) : Lib.hasSuffix l [c] = (l.getLast? == some c) := by
  unfold Lib.hasSuffix List.isSuffixOf
  rcases List.eq_nil_or_concat l with rfl | ⟨m, d, rfl⟩
  · rfl
  · rw [List.concat_eq_append, List.reverse_append, List.getLast?_append]
    show (c == d && List.isPrefixOf [] m.reverse) = _
    simp only [List.isPrefixOf, Bool.and_true, List.getLast?_singleton, Option.some_or]
    rw [Bool.eq_iff_iff]
    simp only [beq_iff_eq, Option.some.injEq]
    exact ⟨fun h => h.symm, fun h => h.symm⟩
theorem trim_one (l : List UInt8) (c : UInt8) : Lib.trimSuffix l [c] = if l.getLast? = some c then l.dropLast else l := by
  unfold Lib.trimSuffix
  rw [suffix_one, List.dropLast_eq_take]
  by_cases h : l.getLast? = some c
  · rw [if_pos (by rw [beq_iff_eq]; exact h), if_pos h]; rfl
  · rw [if_neg (by rw [beq_iff_eq]; exact h), if_neg h]
theorem prefix_one (l : List UInt8) (c : UInt8) : Lib.hasPrefix l [c] = (l.head? == some c) := by
  unfold Lib.hasPrefix
  cases l with
  | nil => rfl
  | cons d m =>
    simp only [List.isPrefixOf, Bool.and_true, List.head?_cons]
    rw [Bool.eq_iff_iff]
    simp only [beq_iff_eq, Option.some.injEq]
    exact ⟨fun h => h.symm, fun h => h.symm⟩
theorem index_any (t : ByteArray) (w : World) : Calls Try.prog 39 #[.string t, .int .u8 10] w fun e w' => e = .returned (.int .i64 (Lib.indexByte t.data.toList 10)) ∧ w' = w := Try.strings_IndexByte t 10 w
set_option maxHeartbeats 1000000 in
theorem clone_any (s : ByteArray) (w : World) (hs : s.size ≤ 1000000) : Calls Try.prog 28 #[.string s] w fun e w' => e = .returned (.string s) ∧ Below w.heap.size w w' := by
  have cC := Try.stringslite_Clone s w (by omega)
  go_enter Try.func28, Try.ntmps28
  go_wp2_with (go_at_call 40; refine cC.mono ?_; rintro e w' ⟨rfl, hb⟩)
  go_ret
  exact ⟨rfl, hb⟩
/-- Split. -/
theorem split_any (s : ByteArray) (hs : s.size ≤ 1000000) (w : World) :
    Calls Try.prog 11 #[.string s] w fun e w' => ∃ v, e = .returned v ∧ w'.ownsRow w.heap.size 9 1 v (linesB s.data.toList).length ((linesB s.data.toList).map Value.string) ∧ Below w.heap.size w w' :=
  split_core index_any clone_any s hs w
theorem lf_list : (⟨#[10]⟩ : ByteArray).data.toList = [10] := rfl
theorem suffix_any (s : ByteArray) (hs : s.size ≤ 1000000) (w : World) : Calls Try.prog 36 #[.string s, .string ⟨#[10]⟩] w fun e w' => e = .returned (.bool (ends s.data.toList)) ∧ w' = w := by
  have := Try.strings_HasSuffix s ⟨#[10]⟩ w (by omega)
  rw [lf_list, suffix_one] at this
  exact this
theorem prefix_any (s : ByteArray) (w : World) : Calls Try.prog 32 #[.string s, .string ⟨#[46]⟩] w fun e w' => e = .returned (.bool (s.data.toList.head? == some 46)) ∧ w' = w := by
  have := Try.strings_HasPrefix s ⟨#[46]⟩ w
  rw [show (⟨#[46]⟩ : ByteArray).data.toList = [46] from rfl, prefix_one] at this
  exact this
theorem trimdot_any (s : ByteArray) (w : World) : Calls Try.prog 33 #[.string s, .string ⟨#[46]⟩] w fun e w' => e = .returned (.string (strL (unstuff1 s.data.toList))) ∧ w' = w := by
  have := Try.strings_TrimPrefix s ⟨#[46]⟩ w
  rw [show (⟨#[46]⟩ : ByteArray).data.toList = [46] from rfl] at this
  have e : Lib.trimPrefix s.data.toList [46] = unstuff1 s.data.toList := by
    unfold Lib.trimPrefix unstuff1
    rw [prefix_one, List.length_singleton, List.drop_one]
    by_cases h : s.data.toList.head? = some 46
    · rw [if_pos (by rw [beq_iff_eq]; exact h), if_pos h]
    · rw [if_neg (by rw [beq_iff_eq]; exact h), if_neg h]
  rw [e] at this
  exact this
set_option maxHeartbeats 1000000 in
/-- A line's ending is cut. -/
theorem cut_any (s : ByteArray) (hs : s.size ≤ 1000000) (w : World) :
    Calls Try.prog 29 #[.string s] w fun e w' => e = .returned (.tuple #[.string (strL (bareL s.data.toList)), .bool (ends s.data.toList)]) ∧ w' = w := by
  have c1 := Try.strings_CutSuffix s ⟨#[10]⟩ w (by omega)
  rw [lf_list, suffix_one, trim_one] at c1
  by_cases h : s.data.toList.getLast? = some 10
  · have hb : (s.data.toList.getLast? == some 10) = true := by rw [beq_iff_eq]; exact h
    rw [if_pos h, hb] at c1
    have c2 := Try.strings_TrimSuffix (strL s.data.toList.dropLast) ⟨#[13]⟩ w (by rw [strL_size, List.length_dropLast, ← size_list]; omega)
    rw [strL_list, show (⟨#[13]⟩ : ByteArray).data.toList = [13] from rfl, trim_one] at c2
    have e : bareL s.data.toList = if s.data.toList.dropLast.getLast? = some 13 then s.data.toList.dropLast.dropLast else s.data.toList.dropLast := by
      unfold bareL; rw [if_pos h]
    rw [show ends s.data.toList = true from hb, e]
    generalize (if s.data.toList.dropLast.getLast? = some 13 then s.data.toList.dropLast.dropLast else s.data.toList.dropLast) = R at c2 ⊢
    have c1' : Calls Try.prog 41 #[.string s, .string ⟨#[10]⟩] w fun e w' => e = .returned (.tuple #[.string (strL s.data.toList.dropLast), .bool true]) ∧ w' = w := c1
    have c2' : Calls Try.prog 42 #[.string (strL s.data.toList.dropLast), .string ⟨#[13]⟩] w fun e w' => e = .returned (.string (strL R)) ∧ w' = w := c2
    generalize strL s.data.toList.dropLast = D at c1' c2'
    generalize strL R = R' at c2' ⊢
    clear c1 c2 e h hb hs
    go_enter Try.func29, Try.ntmps29
    go_wp2_with (first
      | (go_at_call 41; refine c1'.mono ?_; rintro e w' ⟨rfl, rfl⟩)
      | (go_at_call 42; refine c2'.mono ?_; rintro e w' ⟨rfl, rfl⟩))
    go_ret2
    exact ⟨rfl, rfl⟩
  · have hb : (s.data.toList.getLast? == some 10) = false := by rw [beq_eq_false_iff_ne]; exact h
    rw [if_neg h, hb] at c1
    have e : bareL s.data.toList = s.data.toList := bare_other h
    rw [show ends s.data.toList = false from hb, e, strL_of]
    have c1' : Calls Try.prog 41 #[.string s, .string ⟨#[10]⟩] w fun e w' => e = .returned (.tuple #[.string s, .bool false]) ∧ w' = w := c1
    clear c1 e h hb hs
    go_enter Try.func29, Try.ntmps29
    go_wp2_with (go_at_call 41; refine c1'.mono ?_; rintro e w' ⟨rfl, rfl⟩)
    go_ret2
    exact ⟨rfl, rfl⟩
set_option maxHeartbeats 1000000 in
/-- Bare. -/
theorem bare_any (s : ByteArray) (hs : s.size ≤ 1000000) (w : World) :
    Calls Try.prog 13 #[.string s] w fun e w' => e = .returned (.string (strL (bareL s.data.toList))) ∧ Below w.heap.size w w' := by
  have c1 := cut_any s hs w
  have c2 := clone_any (strL (bareL s.data.toList)) w (by have := bare_le s.data.toList; rw [strL_size]; rw [size_list] at hs; omega)
  generalize strL (bareL s.data.toList) = R at c1 c2 ⊢
  generalize ends s.data.toList = E at c1
  go_enter Try.func13, Try.ntmps13
  go_wp2_with (first
    | (go_at_call 29; refine c1.mono ?_; rintro e w' ⟨rfl, rfl⟩)
    | (go_at_call 28; refine c2.mono ?_; rintro e w' ⟨rfl, hb⟩))
  go_ret
  exact ⟨rfl, hb⟩
end Go.Proofs.Ytpoimbhfggkiiaa
