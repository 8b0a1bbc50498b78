/- The library's small functions on strings, as lists; a line without its ending; clean values. -/
import Derived.Test.YtocghngmjipjoaaDoorIter
import Derived.Test.YtocghngmjipjoaaDoorShelf
import Derived.Test.YtocghngmjipjoaaDoorPartPure
import Derived.Lib.Hide
import Derived.Lib.SplitLaws
namespace Go.Proofs.YtocghngmjipjoaaDoor
open Go.ChangeShapes Go.WideShapes Go.ChangeAt Go.RowKit
open LinesP HdrP

/-- bytealg.MaxLen lies in its cell. -/
def Vars (w : World) : Prop := ∃ m, w.cell? ⟨0, 0, none⟩ = some (.int .i64 m)
theorem Vars.keep {w w' : World} (h : Vars w) (hb : Below w.heap.size w w') : Vars w' := by
  obtain ⟨m, hm⟩ := h
  exact ⟨m, by rw [World.cell?_of_block (w := w) (by exact hb.block 0 (World.block_lt_of_cell? w _ hm))]; exact hm⟩
theorem Vars.drewN {w : World} (h : Vars w) (n : Nat) : Vars (w.drewN n) := h
theorem suffix_one (l : List UInt8) (c : UInt8) : Lib.hasSuffix l [c] = (l.getLast? == some c) := by
  unfold Lib.hasSuffix List.isSuffixOf
  rcases List.eq_nil_or_concat l with rfl | ⟨m, d, rfl⟩
  · rfl
  · rw [List.concat_eq_append, List.reverse_append, List.getLast?_append]
    show (c == d && List.isPrefixOf [] m.reverse) = _
    simp only [List.isPrefixOf, Bool.and_true, List.getLast?_singleton, Option.some_or]
    rw [Bool.eq_iff_iff]
    simp only [beq_iff_eq, Option.some.injEq]
    exact ⟨fun h => h.symm, fun h => h.symm⟩
theorem trim_one (l : List UInt8) (c : UInt8) : Lib.trimSuffix l [c] = if l.getLast? = some c then l.dropLast else l := by
  unfold Lib.trimSuffix
  rw [suffix_one, List.dropLast_eq_take]
  by_cases h : l.getLast? = some c
  · rw [if_pos (by rw [beq_iff_eq]; exact h), if_pos h]; rfl
  · rw [if_neg (by rw [beq_iff_eq]; exact h), if_neg h]
theorem index_any (t : ByteArray) (w : World) : Calls Tryd.prog 55 #[.string t, .int .u8 10] w fun e w' => e = .returned (.int .i64 (Lib.indexByte t.data.toList 10)) ∧ w' = w := Tryd.strings_IndexByte t 10 w
set_option maxHeartbeats 1000000 in
theorem clone_any (s : ByteArray) (w : World) (hs : s.size ≤ 1000000) : Calls Tryd.prog 34 #[.string s] w fun e w' => e = .returned (.string s) ∧ Below w.heap.size w w' := by
  have cC := Tryd.stringslite_Clone s w (by omega)
  go_enter Tryd.func34, Tryd.ntmps34
  go_wp2_with (go_at_call 45; refine cC.mono ?_; rintro e w' ⟨rfl, hb⟩)
  go_ret
  exact ⟨rfl, hb⟩
theorem lf_list : (⟨#[10]⟩ : ByteArray).data.toList = [10] := rfl
set_option maxHeartbeats 1000000 in
/-- A line's ending is cut. -/
theorem bare_any (s : ByteArray) (hs : s.size ≤ 1000000) (w : World) :
    Calls Tryd.prog 42 #[.string s] w fun e w' => e = .returned (.string (strL (bareL s.data.toList))) ∧ w' = w := by
  have c1 := Tryd.strings_CutSuffix s ⟨#[10]⟩ w (by omega)
  rw [lf_list, suffix_one, trim_one] at c1
  by_cases h : s.data.toList.getLast? = some 10
  · have hb : (s.data.toList.getLast? == some 10) = true := by rw [beq_iff_eq]; exact h
    rw [if_pos h, hb] at c1
    have c2 := Tryd.strings_TrimSuffix (strL s.data.toList.dropLast) ⟨#[13]⟩ w (by rw [strL_size, List.length_dropLast, ← size_list]; omega)
    rw [strL_list, show (⟨#[13]⟩ : ByteArray).data.toList = [13] from rfl, trim_one] at c2
    have e : bareL s.data.toList = if s.data.toList.dropLast.getLast? = some 13 then s.data.toList.dropLast.dropLast else s.data.toList.dropLast := by
      unfold bareL; rw [if_pos h]
    rw [e]
    generalize (if s.data.toList.dropLast.getLast? = some 13 then s.data.toList.dropLast.dropLast else s.data.toList.dropLast) = R at c2 ⊢
    have c1' : Calls Tryd.prog 56 #[.string s, .string ⟨#[10]⟩] w fun e w' => e = .returned (.tuple #[.string (strL s.data.toList.dropLast), .bool true]) ∧ w' = w := c1
    have c2' : Calls Tryd.prog 57 #[.string (strL s.data.toList.dropLast), .string ⟨#[13]⟩] w fun e w' => e = .returned (.string (strL R)) ∧ w' = w := c2
    generalize strL s.data.toList.dropLast = D at c1' c2'
    generalize strL R = R' at c2' ⊢
    clear c1 c2 e h hb hs
    go_enter Tryd.func42, Tryd.ntmps42
    go_wp2_with (first
      | (go_at_call 56; refine c1'.mono ?_; rintro e w' ⟨rfl, rfl⟩)
      | (go_at_call 57; refine c2'.mono ?_; rintro e w' ⟨rfl, rfl⟩))
    go_ret
    exact ⟨rfl, rfl⟩
  · have hb : (s.data.toList.getLast? == some 10) = false := by rw [beq_eq_false_iff_ne]; exact h
    rw [if_neg h, hb] at c1
    have e : bareL s.data.toList = s.data.toList := bare_other h
    rw [e, strL_of]
    have c1' : Calls Tryd.prog 56 #[.string s, .string ⟨#[10]⟩] w fun e w' => e = .returned (.tuple #[.string s, .bool false]) ∧ w' = w := c1
    clear c1 e h hb hs
    go_enter Tryd.func42, Tryd.ntmps42
    go_wp2_with (go_at_call 56; refine c1'.mono ?_; rintro e w' ⟨rfl, rfl⟩)
    go_ret
    exact ⟨rfl, rfl⟩
theorem drew_below (w : World) (n : Nat) : Below w.heap.size w (w.drewN n) := ⟨rfl, rfl, rfl, Nat.le_refl _, fun _ _ => rfl⟩
theorem cut_yes {s : ByteArray} (hs : s.size ≤ 1000000) (h : 58 ∈ s.data.toList) (w : World) (hv : Vars w) :
    Calls Tryd.prog 47 #[.string s, .string ⟨#[58]⟩] w fun e w' => e = .returned (.tuple #[.string (strL (upto s.data.toList)), .string (strL (s.data.toList.drop ((upto s.data.toList).length + 1))), .bool true]) ∧ Below w.heap.size w w' := by
  obtain ⟨m, hm⟩ := hv
  refine (Tryd.strings_Cut s ⟨#[58]⟩ m w (by omega) hm).mono ?_
  rintro e w' ⟨rfl, n, rfl⟩
  rw [show (⟨#[58]⟩ : ByteArray).data.toList = [58] from rfl, cut_colon, if_pos h]
  exact ⟨rfl, drew_below w n⟩
theorem cut_no {s : ByteArray} (hs : s.size ≤ 1000000) (h : 58 ∉ s.data.toList) (w : World) (hv : Vars w) :
    Calls Tryd.prog 47 #[.string s, .string ⟨#[58]⟩] w fun e w' => e = .returned (.tuple #[.string s, .string ⟨#[]⟩, .bool false]) ∧ Below w.heap.size w w' := by
  obtain ⟨m, hm⟩ := hv
  refine (Tryd.strings_Cut s ⟨#[58]⟩ m w (by omega) hm).mono ?_
  rintro e w' ⟨rfl, n, rfl⟩
  rw [show (⟨#[58]⟩ : ByteArray).data.toList = [58] from rfl, cut_colon, if_neg h]
  refine ⟨?_, drew_below w n⟩
  show Ending.returned (.tuple #[.string (strL s.data.toList), _, _]) = _
  rw [strL_of]
theorem blanks_ascii : ∀ (j : Nat) b, (⟨#[32, 9]⟩ : ByteArray).data.toList[j]? = some b → b.toNat < 128 := ascii_of_all (by decide)
theorem trimr_any (s : ByteArray) (hs : s.size ≤ 1000000) (w : World) :
    Calls Tryd.prog 48 #[.string s, .string ⟨#[32, 9]⟩] w fun e w' => e = .returned (.string (strL (trimR s.data.toList))) ∧ Below w.heap.size w w' := by
  have := Tryd.strings_TrimRight_laid s ⟨#[32, 9]⟩ w (by omega) (by decide) blanks_ascii
  rw [show (⟨#[32, 9]⟩ : ByteArray).data.toList = [32, 9] from rfl, trimRS_is] at this
  exact this
theorem trims_any (s : ByteArray) (hs : s.size ≤ 1000000) (w : World) :
    Calls Tryd.prog 52 #[.string s, .string ⟨#[32, 9]⟩] w fun e w' => e = .returned (.string (strL (trimL s.data.toList))) ∧ Below w.heap.size w w' := by
  have := Tryd.strings_Trim_laid s ⟨#[32, 9]⟩ w (by omega) (by decide) blanks_ascii
  rw [show (⟨#[32, 9]⟩ : ByteArray).data.toList = [32, 9] from rfl, trimS_is] at this
  exact this
theorem replace_any (s : ByteArray) (c : UInt8) (hc : c ≠ 32) (hs : s.size ≤ 1000000) (w : World) (hv : Vars w) :
    Calls Tryd.prog 58 #[.string s, .string ⟨#[c]⟩, .string ⟨#[32]⟩] w fun e w' => e = .returned (.string (strL (swap1 c 32 s.data.toList))) ∧ Below w.heap.size w w' := by
  obtain ⟨m, hm⟩ := hv
  have hle := Lib.countB_le ⟨#[c]⟩ (by show 1 ≤ 1; omega) _ s (Nat.le_refl _)
  have := Tryd.strings_ReplaceAll s ⟨#[c]⟩ ⟨#[32]⟩ m w (by omega) hm (by show 1 ≤ 1; omega) (by show _ + _ * 1 ≤ _; omega)
  rw [show (⟨#[c]⟩ : ByteArray).data.toList = [c] from rfl, show (⟨#[32]⟩ : ByteArray).data.toList = [32] from rfl, replace_one c 32 hc] at this
  exact this
theorem size_swap (a b : UInt8) (l : List UInt8) : (strL (swap1 a b l)).size = l.length := by rw [strL_size, swap_len]
set_option maxHeartbeats 1000000 in
/-- The clean value. -/
theorem clean_any (s : ByteArray) (hs : s.size ≤ 1000000) (w : World) (hv : Vars w) :
    Calls Tryd.prog 44 #[.string s] w fun e w' => e = .returned (.string (strL (cleanL s.data.toList))) ∧ Below w.heap.size w w' := by
  have c1 := replace_any s 13 (by decide) hs w hv
  have hz1 := size_swap 13 32 s.data.toList
  rw [← size_list] at hz1
  have c2 := fun w hv => replace_any (strL (swap1 13 32 s.data.toList)) 10 (by decide) (by rw [hz1]; exact hs) w hv
  have hz2 := size_swap 10 32 (swap1 13 32 s.data.toList)
  rw [swap_len, ← size_list] at hz2
  have c3 := fun w => trims_any (strL (swap1 10 32 (swap1 13 32 s.data.toList))) (by rw [hz2]; exact hs) w
  rw [strL_list] at c3
  have e : trimL (swap1 10 32 (swap1 13 32 s.data.toList)) = cleanL s.data.toList := by rw [swap_flat]; rfl
  rw [e] at c3
  simp only [strL_list] at c2
  generalize strL (swap1 10 32 (swap1 13 32 s.data.toList)) = S2 at c2 c3
  generalize strL (swap1 13 32 s.data.toList) = S1 at c1 c2
  generalize strL (cleanL s.data.toList) = R at c3 ⊢
  clear e hz1 hz2
  go_enter Tryd.func44, Tryd.ntmps44
  go_wp2_with (first
    | (go_at_call 58; with_reducible refine c1.mono ?_; rintro e w1 ⟨rfl, hb1⟩; have c2' := c2 w1 (hv.keep hb1); clear c1 c2)
    | (go_at_call 58; with_reducible refine c2'.mono ?_; rintro e w2 ⟨rfl, hb2⟩; have c3' := c3 w2; clear c2')
    | (go_at_call 52; with_reducible refine c3'.mono ?_; rintro e w3 ⟨rfl, hb3⟩))
  go_ret
  exact ⟨rfl, Qtrans hb1 (Qtrans hb2 hb3)⟩
end Go.Proofs.YtocghngmjipjoaaDoor
