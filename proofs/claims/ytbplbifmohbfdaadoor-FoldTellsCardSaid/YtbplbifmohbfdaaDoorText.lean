/- Strings and slices of strings; comparison keys, equality, units. -/
import Derived.Test.YtbplbifmohbfdaaDoorFold
import Derived.Laws.OwnMore
import Derived.MapKept
namespace Go.Proofs.YtbplbifmohbfdaaDoor
open Go.ChangeShapes Go.WideShapes Go.ChangeAt Go.RowKit

/-! ### Strings as lists of bytes -/
/-- The string of a list of bytes. -/
def strL (l : List UInt8) : ByteArray := ⟨l.toArray⟩
theorem strL_list (l : List UInt8) : (strL l).data.toList = l := rfl
theorem strL_size (l : List UInt8) : (strL l).size = l.length := by
  show l.toArray.size = l.length
  simp
theorem bytes_is {a b : ByteArray} (h : a.data.toList = b.data.toList) : a = b := by
  cases a; cases b
  simp only [ByteArray.mk.injEq] at h ⊢
  exact Array.toList_inj.1 h
theorem strL_of (s : ByteArray) : strL s.data.toList = s := bytes_is rfl
theorem strL_is {s : ByteArray} {l : List UInt8} (h : s.data.toList = l) : s = strL l := bytes_is h
theorem strL_inj {a b : List UInt8} : strL a = strL b ↔ a = b := ⟨fun h => congrArg (fun s : ByteArray => s.data.toList) h, fun h => by rw [h]⟩
theorem size_list (t : ByteArray) : t.size = t.data.toList.length := by rw [Array.length_toList]; rfl
theorem bytes_eqb (a b : ByteArray) : (a == b) = decide (a = b) := by
  rw [Bool.eq_iff_iff, MapKept.bytes_beq, decide_eq_true_eq]
theorem eq_lists (a b : ByteArray) : (a.toList == b.toList) = (a == b) := by
  rw [bytes_eqb, Bool.eq_iff_iff, beq_iff_eq, ByteArray.toList_eq, ByteArray.toList_eq, decide_eq_true_eq]
  exact ⟨bytes_is, fun h => by rw [h]⟩
theorem list_append (a b : ByteArray) : (a ++ b).data.toList = a.data.toList ++ b.data.toList := by
  rw [ByteArray.data_append, Array.toList_append]
theorem list_of (l : List UInt8) : ∃ t : ByteArray, t.data.toList = l := ⟨strL l, rfl⟩
/-- A part of a string. -/
theorem part_of (s : ByteArray) (i j : Nat) (_hij : i ≤ j) (_hj : j ≤ s.size) : s.extract i j = strL ((s.data.toList.drop i).take (j - i)) := by
  refine bytes_is ?_
  rw [ByteArray.data_extract, Array.toList_extract, strL_list, List.extract_eq_take_drop]

/-! ### Slices of strings -/
theorem info9 : (Tryd.prog.info? 9).map (fun i => (i.zero, i.size, i.bytes)) = some (some (.string ⟨#[]⟩), 1, 16) := by kernel_rfl
def strsOf (l : List (List UInt8)) : List Value := l.map fun u => Value.string (strL u)
theorem strs_one (l : List (List UInt8)) : ∀ u ∈ strsOf l, u.oneCell' = true := by
  intro u hu
  obtain ⟨c, _, rfl⟩ := List.mem_map.1 hu
  rfl
theorem add_none (g i j : Nat) : (⟨g, i, none⟩ : Addr).add j = ⟨g, i + j, none⟩ := by unfold Addr.add; split <;> simp_all
theorem strs_new (w : World) (l : List (List UInt8)) : ∀ j u, (strsOf l)[j]? = some u → (w.alloc (.cells (strsOf l).toArray 9)).cell? ((⟨w.heap.size, 0, none⟩ : Addr).add j) = some u := by
  intro j u h
  rw [add_none, Nat.zero_add]
  have := Go.heap_alloc_new w (.cells (strsOf l).toArray 9)
  simp only [World.cell?, this]
  simpa using h
theorem own_iterAt {w : World} {base : Nat} {e : TypeId} {size : Nat} {v : Value} {n : Nat} {xs : List Value} (h : w.ownsRow base e size v n xs) (k : Nat) (hk : v.ownBlock ≠ some k) (s : ByteArray) (pos : Nat) :
    (w.iterAt k s pos).ownsRow base e size v n xs :=
  h.kept (row := some k) ⟨rfl, rfl, rfl, by rw [Lib.iterAt_size]; exact Nat.le_refl _, fun j _ hne => Lib.iterAt_other w k j s pos (fun e => hne (by rw [e]))⟩ (.inr hk)
theorem below_own {w w' : World} {base : Nat} {e : TypeId} {size : Nat} {v : Value} {n : Nat} {xs : List Value} (h : w.ownsRow base e size v n xs) (hb : Below w.heap.size w w') : w'.ownsRow base e size v n xs := by
  refine ⟨h.1, ?_⟩
  rcases h.2 with h1 | ⟨g, cap, cur, rfl, hbg, hg, rest⟩
  · exact .inl h1
  · refine .inr ⟨g, cap, cur, rfl, hbg, ?_, rest⟩
    rw [hb.block g (Array.getElem?_eq_some_iff.1 hg).1]
    exact hg
/-- Where a slice's address is 'a', its strings are these. -/
def Strs (w : World) (a : Option Addr) (xs : List (List UInt8)) : Prop := ∀ i u, xs[i]? = some u → ∃ g o, a = some ⟨g, o, none⟩ ∧ w.cell? ⟨g, o + i, none⟩ = some (.string (strL u))
theorem Strs.below {w w' : World} {a : Option Addr} {xs : List (List UInt8)} (h : Strs w a xs) (hb : Below w.heap.size w w') : Strs w' a xs := by
  intro i u hu
  obtain ⟨g, o, e, hc⟩ := h i u hu
  exact ⟨g, o, e, cell_below hc hb⟩
theorem Strs.drewN {w : World} {a : Option Addr} {xs : List (List UInt8)} (h : Strs w a xs) (n : Nat) : Strs (w.drewN n) a xs := h
theorem strs_nil (w : World) (a : Option Addr) : Strs w a [] := fun i u h => by simp at h
theorem strs_own {w : World} {base : Nat} {a : Option Addr} {n c : Nat} {xs : List (List UInt8)} (h : w.ownsRow base 9 1 (.slice a n c) n (strsOf xs)) : Strs w a xs := by
  intro i u hu
  rcases h.2 with ⟨e, hn⟩ | ⟨g, cap, cur, e, _⟩
  · have := h.1
    rw [hn] at this
    simp [strsOf] at this
    subst this
    simp at hu
  · injection e with e1 e2 e3
    subst e1
    have := h.cells (g := g) rfl i (.string (strL u)) (by unfold strsOf; rw [List.getElem?_map, hu]; rfl)
    rw [add_none] at this
    exact ⟨g, 0, rfl, this⟩

/-! ### Comparison keys, equality -/
theorem fold_strL (s : ByteArray) (hs : s.size ≤ 1000000) (w : World) (hv : Vars w) :
    Calls Tryd.prog 12 #[.string s] w fun e w' => e = .returned (.string (strL (foldL s.data.toList))) ∧ Below w.heap.size w w' := fold_any s hs w hv
theorem key_any (comp : Int) (s : ByteArray) (hs : s.size ≤ 1000000) (w : World) (hv : Vars w) :
    Calls Tryd.prog 32 #[.int .i64 comp, .string s] w fun e w' => e = .returned (.string (strL (keyL comp s.data.toList))) ∧ Below w.heap.size w w' := by
  have cF := fold_strL s hs w hv
  by_cases h : comp = 1
  · subst h
    have e : keyL 1 s.data.toList = foldL s.data.toList := rfl
    rw [e]
    generalize strL (foldL s.data.toList) = R at cF ⊢
    go_enter Tryd.func32, Tryd.ntmps32
    go_wp2_with (go_at_call 12; refine cF.mono ?_; rintro e w' ⟨rfl, hb⟩)
    go_ret
    exact ⟨rfl, hb⟩
  · have e : strL (keyL comp s.data.toList) = s := by unfold keyL; rw [if_neg h, strL_of]
    rw [e]
    go_enter Tryd.func32, Tryd.ntmps32
    go_wp2_with fail
    go_ret
    exact ⟨rfl, Below.refl _ _⟩
theorem key_len (comp : Int) (l : List UInt8) : (keyL comp l).length = l.length := by
  unfold keyL
  split
  · exact fold_len l
  · rfl
theorem equal_any (a b : ByteArray) (ha : a.size ≤ 1000000) (hb : b.size ≤ 1000000) (r : Bool) (hr : decide (foldL a.data.toList = foldL b.data.toList) = r) (w : World) (hv : Vars w) :
    Calls Tryd.prog 14 #[.string a, .string b] w fun e w' => e = .returned (.bool r) ∧ Below w.heap.size w w' := by
  have c1 := fold_strL a ha w hv
  have c2 := fun w' (h : Below w.heap.size w w') => fold_strL b hb w' (hv.below h)
  obtain ⟨A, hA⟩ : ∃ A, strL (foldL a.data.toList) = A := ⟨_, rfl⟩
  obtain ⟨B, hB⟩ : ∃ B, strL (foldL b.data.toList) = B := ⟨_, rfl⟩
  rw [hA] at c1
  rw [hB] at c2
  have hAB : (A.toList == B.toList) = r := by
    rw [eq_lists, bytes_eqb, ← hr, Bool.eq_iff_iff, decide_eq_true_eq, decide_eq_true_eq, ← hA, ← hB, strL_inj]
  clear hA hB hr
  go_enter Tryd.func14, Tryd.ntmps14
  go_wp2_with fail
  refine c1.mono ?_
  rintro e w1 ⟨rfl, hb1⟩
  have hs1 := hb1.size
  have C2 := c2 w1 hb1
  go_wp2_with fail
  refine C2.mono ?_
  rintro e w2 ⟨rfl, hb2⟩
  go_wp2_with fail
  go_ret
  exact ⟨rfl, hb1.trans (hb2.mono hs1)⟩
theorem clone_any (s : ByteArray) (hs : s.size ≤ 1000000) (w : World) :
    Calls Tryd.prog 22 #[.string s] w fun e w' => e = .returned (.string s) ∧ Below w.heap.size w w' := by
  have cC := Tryd.stringslite_Clone s w (by omega)
  go_enter Tryd.func22, Tryd.ntmps22
  go_wp2_with (go_at_call 41; refine cC.mono ?_; rintro e w' ⟨rfl, hb⟩)
  go_ret
  exact ⟨rfl, hb⟩
end Go.Proofs.YtbplbifmohbfdaaDoor
