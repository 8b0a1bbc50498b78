/- New and Rest; what a chunk's pieces do to a Feed, on lists. -/
import Derived.Test.YtpoimbhfggkiiaaFeed
namespace Go.Proofs.Ytpoimbhfggkiiaa
open Go.ChangeShapes Go.WideShapes Go.ChangeAt Go.RowKit
open LinesP

theorem conv_own {w : World} {base n : Nat} {v : Value} {l : List UInt8} (hl : l.length = n) (hown : w.ownsRow base 5 1 v n (Lib.byteCells l)) :
    (convert 44 9 v).run Try.prog w = .ok (.string (strL l)) w := by
  rcases hown.2 with ⟨rfl, h⟩ | ⟨g, cap, cur, rfl, _⟩
  · obtain rfl : l = [] := List.eq_nil_of_length_eq_zero (by rw [hl, h])
    kernel_rfl
  · subst hl
    refine run_convert_bytes_back w 44 9 5 ⟨g, 0, none⟩ cap l Try.underlying44 Try.underlying5 Try.underlying9 fun j hj => ?_
    refine hown.cells (g := g) rfl j _ ?_
    unfold Lib.byteCells
    rw [List.getElem?_map, List.getElem?_eq_getElem hj]; rfl
set_option maxHeartbeats 1000000 in
theorem rest_any (B b lim : Nat) (l : List UInt8) (w : World) (h : Fd w B b lim l) :
    Calls Try.prog 25 #[.pointer (some ⟨b, 0, none⟩)] w fun e w' => e = .returned (.string (strL l)) ∧ w = w' := by
  obtain ⟨v, h⟩ := h
  have c1 := h.c1
  have hc := conv_own rfl h.own
  clear h
  go_enter Try.func25, Try.ntmps25
  go_wp2_with fail
  go_ret
  exact ⟨rfl, rfl⟩
/-- The limit of a Feed. -/
def limN (n : Int) : Nat := (min (max n 1) 1048576).toNat
set_option maxHeartbeats 1000000 in
theorem new_any (n : Int) (w : World) :
    Calls Try.prog 22 #[.int .i64 n] w fun e w' => e = .returned (.pointer (some ⟨w.heap.size, 0, none⟩)) ∧ w' = w.alloc (.cells #[.int .i64 (limN n), .slice none 0 0] 53) := by
  have h1 : min (max n 1) 1048576 = (limN n : Int) := by unfold limN; omega
  go_enter Try.func22, Try.ntmps22
  go_wp2_with fail
  go_ret
  exact ⟨rfl, rfl⟩
theorem fd_new (w : World) (n : Nat) (B : Nat) : Fd (w.alloc (.cells #[.int .i64 n, .slice none 0 0] 53)) B w.heap.size n [] :=
  ⟨.slice none 0 0, World.alloc_heap_new _ _, ⟨rfl, .inl ⟨rfl, rfl⟩⟩⟩
theorem limN_le (n : Int) : limN n ≤ 1048576 := by unfold limN; omega
/-! ### On lists -/
def flatB (xs : List ByteArray) : List UInt8 := (xs.map fun s => s.data.toList).flatten
theorem flatB_snoc (xs : List ByteArray) (x : ByteArray) : flatB (xs ++ [x]) = flatB xs ++ x.data.toList := by
  unfold flatB; simp
theorem flatB_lines (l : List UInt8) : flatB (linesB l) = l := by
  unfold flatB linesB
  rw [List.map_map, show ((fun s : ByteArray => s.data.toList) ∘ strL) = id from rfl, List.map_id, split_flat]
/-- What is told of lines: the first lim bytes of each. -/
def toldL (lim : Nat) (l : List UInt8) : List (List UInt8) := (doneL l).map (·.take lim)
def heldL (lim : Nat) (l : List UInt8) : List UInt8 := (restL l).take lim
theorem done_one {u x : List UInt8} (hu : 10 ∉ u) (hx : Term x) : doneL (u ++ x) = [u ++ x] ∧ restL (u ++ x) = [] := by
  obtain ⟨m, rfl, hm⟩ := hx
  have e : splitL (u ++ (m ++ [10])) = [u ++ (m ++ [10])] := by
    rw [← List.append_assoc, split_term (u ++ m) [] (by simp; exact ⟨hu, hm⟩)]; rfl
  have h2 : ends (u ++ (m ++ [10])) = true := by unfold ends; simp
  unfold doneL restL
  rw [e]
  simp [List.filter, h2]
theorem done_none {u x : List UInt8} (hu : 10 ∉ u) (hx : Tail x) : doneL (u ++ x) = [] ∧ restL (u ++ x) = u ++ x := by
  have ht : Tail (u ++ x) := ⟨by simp [hx.1], by simp; exact ⟨hu, hx.2⟩⟩
  have e := split_tail ht
  have h2 := ends_tail ht
  unfold doneL restL
  rw [e]
  simp [List.filter, h2]
theorem take_add (lim : Nat) (u x : List UInt8) : u.take lim ++ x.take (lim - (u.take lim).length) = (u ++ x).take lim := by
  rw [List.take_append, List.length_take]
  congr 2
  omega
/-- A terminated piece. -/
theorem step_term (lim : Nat) (s x : List UInt8) (hx : Term x) : heldL lim s ++ x.take (lim - (heldL lim s).length) = (restL s ++ x).take lim ∧ toldL lim (s ++ x) = toldL lim s ++ [(restL s ++ x).take lim] ∧ heldL lim (s ++ x) = [] := by
  obtain ⟨h1, h2⟩ := done_one (rest_no s) hx
  refine ⟨take_add lim _ _, ?_, ?_⟩
  · unfold toldL
    rw [done_more, h1, List.map_append]; rfl
  · unfold heldL
    rw [rest_more, h2, List.take_nil]
/-- The last piece. -/
theorem step_tail (lim : Nat) (s x : List UInt8) (hx : Tail x) : heldL lim s ++ x.take (lim - (heldL lim s).length) = heldL lim (s ++ x) ∧ toldL lim (s ++ x) = toldL lim s := by
  obtain ⟨h1, h2⟩ := done_none (rest_no s) hx
  refine ⟨?_, ?_⟩
  · unfold heldL
    rw [rest_more, h2]; exact take_add lim _ _
  · unfold toldL
    rw [done_more, h1, List.append_nil]
theorem held_len (lim : Nat) (s : List UInt8) : (heldL lim s).length ≤ lim := by
  unfold heldL; rw [List.length_take]; omega
theorem lines_part {l : List UInt8} {pre : List ByteArray} {x : ByteArray} {rest : List ByteArray} (h : linesB l = pre ++ x :: rest) : Term x.data.toList ∨ Tail x.data.toList := by
  have hx : x ∈ linesB l := by rw [h]; simp
  unfold linesB at hx
  obtain ⟨y, hy, rfl⟩ := List.mem_map.1 hx
  exact good_mem (split_good l) y hy
theorem part_size {l : List UInt8} {pre : List ByteArray} {x : ByteArray} {rest : List ByteArray} (h : linesB l = pre ++ x :: rest) : x.size ≤ l.length := by
  have := flatB_lines l
  rw [h] at this
  rw [← this, size_list]
  unfold flatB
  simp
  omega
end Go.Proofs.Ytpoimbhfggkiiaa
