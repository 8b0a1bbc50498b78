/- What the contracts of package codec share: the package-level variable that the library reads, kept by every call that only makes new memory. -/
import Derived.Test.YtblbajhjmdcdiaaDoorShelf
import Derived.Test.YtblbajhjmdcdiaaDoorChecked
import Derived.WalkKit
import Derived.ProofKit
import Derived.Lib.Hide
import Derived.MapKept
namespace Go.Proofs.YtblbajhjmdcdiaaDoor
open Go.ChangeShapes Go.WideShapes Go.ChangeAt Go.RowKit

theorem Qtrans {w w1 w2 : World} (h : Below w.heap.size w w1) (k : Below w1.heap.size w1 w2) : Below w.heap.size w w2 := h.trans (k.mono h.size)
/-- The longest text that the library searches by its short road. -/
structure Vars (w : World) : Prop where
  len : ∃ m : Int, w.cell? ⟨0, 0, none⟩ = some (.int .i64 m)
theorem Vars.low {w : World} (h : Vars w) : 0 < w.heap.size := by
  obtain ⟨m, hm⟩ := h.len
  rcases Nat.lt_or_ge 0 w.heap.size with h' | h'
  · exact h'
  · unfold World.cell? at hm; rw [Array.getElem?_eq_none h'] at hm; cases hm
theorem Vars.at {B : Nat} {w w' : World} (h : Vars w) (hb : Below B w w') (hB : 0 < B) : Vars w' := by
  obtain ⟨m, hm⟩ := h.len
  exact ⟨m, by rw [hb.cell (p := ⟨0, 0, none⟩) hB]; exact hm⟩
theorem Vars.below {w w' : World} (h : Vars w) (hb : Below w.heap.size w w') : Vars w' := h.at hb h.low
theorem Vars.alloc {w : World} (h : Vars w) (o : Obj) : Vars (w.alloc o) := h.below ((Below.refl _ _).alloc (Nat.le_refl _) _)
theorem Vars.drew {w : World} (h : Vars w) : Vars w.drew := h.below ((Below.refl _ _).drew)

/-! ### Strings as lists of bytes -/
/-- The string of a list of bytes. -/
def strL (l : List UInt8) : ByteArray := ⟨l.toArray⟩
theorem strL_list (l : List UInt8) : (strL l).data.toList = l := rfl
theorem strL_size (l : List UInt8) : (strL l).size = l.length := by
  show l.toArray.size = l.length
  simp
theorem bytes_is {a b : ByteArray} (h : a.data.toList = b.data.toList) : a = b := by
  cases a; cases b
  simp only [ByteArray.mk.injEq] at h ⊢
  exact Array.toList_inj.1 h
theorem strL_of (s : ByteArray) : strL s.data.toList = s := bytes_is rfl
theorem strL_is {s : ByteArray} {l : List UInt8} (h : s.data.toList = l) : s = strL l := bytes_is h
theorem strL_inj {a b : List UInt8} : strL a = strL b ↔ a = b := ⟨fun h => congrArg (fun s : ByteArray => s.data.toList) h, fun h => by rw [h]⟩
theorem size_list (t : ByteArray) : t.size = t.data.toList.length := by rw [Array.length_toList]; rfl
theorem bytes_eqb (a b : ByteArray) : (a == b) = decide (a = b) := by
  rw [Bool.eq_iff_iff, MapKept.bytes_beq, decide_eq_true_eq]
theorem eq_lists (a b : ByteArray) : (a.toList == b.toList) = (a == b) := by
  rw [bytes_eqb, Bool.eq_iff_iff, beq_iff_eq, ByteArray.toList_eq, ByteArray.toList_eq, decide_eq_true_eq]
  exact ⟨bytes_is, fun h => by rw [h]⟩
theorem list_append (a b : ByteArray) : (a ++ b).data.toList = a.data.toList ++ b.data.toList := by
  rw [ByteArray.data_append, Array.toList_append]
theorem list_of (l : List UInt8) : ∃ t : ByteArray, t.data.toList = l := ⟨strL l, rfl⟩
/-- A part of a string. -/
theorem part_of (s : ByteArray) (i j : Nat) (_hij : i ≤ j) (_hj : j ≤ s.size) : s.extract i j = strL ((s.data.toList.drop i).take (j - i)) := by
  refine bytes_is ?_
  rw [ByteArray.data_extract, Array.toList_extract, strL_list, List.extract_eq_take_drop]
theorem run_slice_str (s : ByteArray) (p q : Nat) (x : Int) (hx : x = q) (h : p ≤ q) (h2 : q ≤ s.size) (W : World) :
    (Instr.slice 9 (.string s) (some (.int .i64 p)) (some (.int .i64 x)) none).run Tryd.prog W = .ok (.string (s.extract p q)) W := by
  subst hx
  go_simp
theorem run_slice_from (s : ByteArray) (p : Nat) (h2 : p ≤ s.size) (W : World) :
    (Instr.slice 9 (.string s) (some (.int .i64 p)) none none).run Tryd.prog W = .ok (.string (s.extract p s.size)) W := by
  go_simp
theorem at_list (s : ByteArray) (n : Nat) (h : n < s.size) (h2 : n < s.data.toList.length) : s.data.toList[n] = s[n] := rfl
theorem drop_cons (s : ByteArray) (n : Nat) (h : n < s.size) : s.data.toList.drop n = s[n] :: s.data.toList.drop (n + 1) := List.drop_eq_getElem_cons (by rw [← size_list]; exact h)
theorem part_one (s : ByteArray) (n : Nat) (h : n < s.size) : (s.extract n (n + 1)).data.toList = [s[n]] := by
  rw [part_of s n (n + 1) (by omega) (by omega), strL_list, drop_cons s n h, show n + 1 - n = 1 by omega]
  rfl
theorem part_rest (s : ByteArray) (n : Nat) (h : n ≤ s.size) : (s.extract n s.size).data.toList = s.data.toList.drop n := by
  rw [part_of s n s.size h (by omega), strL_list, List.take_of_length_le]
  rw [List.length_drop, ← size_list]
  exact Nat.le_refl _

/-! ### The builder that a call has made -/
theorem below_own {w w' : World} {base : Nat} {e : TypeId} {size : Nat} {v : Value} {n : Nat} {xs : List Value} (h : w.ownsRow base e size v n xs) (hb : Below w.heap.size w w') : w'.ownsRow base e size v n xs := by
  refine ⟨h.1, ?_⟩
  rcases h.2 with h1 | ⟨g, cap, cur, rfl, hbg, hg, rest⟩
  · exact .inl h1
  · refine .inr ⟨g, cap, cur, rfl, hbg, ?_, rest⟩
    rw [hb.block g (Array.getElem?_eq_some_iff.1 hg).1]
    exact hg
/-- The strings.Builder in block b holds l. -/
def Bd (w : World) (b : Nat) (l : List UInt8) : Prop := Lib.IsBuilder 31 5 b b (Lib.byteCells l) w
theorem Bd.lt {w : World} {b : Nat} {l : List UInt8} (h : Bd w b l) : b < w.heap.size := h.elim (fun x => x.lt) (fun x => x.lt)
theorem built_below {T e : TypeId} {B b : Nat} {p : Value} {bs : List Value} {w w' : World} (h : Lib.BuilderAt T e B b p bs w) (hb : Below w.heap.size w w') : Lib.BuilderAt T e B b p bs w' := by
  have hlt := h.lt
  obtain ⟨hB, v, hk, hown, hne⟩ := h
  exact ⟨hB, v, by rw [hb.block b hlt]; exact hk, below_own hown hb, hne⟩
theorem Bd.below {w w' : World} {b : Nat} {l : List UInt8} (h : Bd w b l) (hb : Below w.heap.size w w') : Bd w' b l := h.elim (fun x => .inl (built_below x hb)) (fun x => .inr (built_below x hb))
theorem Bd.alloc {w : World} {b : Nat} {l : List UInt8} (h : Bd w b l) (o : Obj) : Bd (w.alloc o) b l := h.below ((Below.refl _ _).alloc (Nat.le_refl _) _)
theorem Bd.drew {w : World} {b : Nat} {l : List UInt8} (h : Bd w b l) : Bd w.drew b l := h.below (Below.refl _ _).drew
theorem bd_new {w : World} {b : Nat} (h : w.heap[b]? = some (.cells #[.pointer none, .slice none 0 0] 31 (0, 0))) : Bd w b [] :=
  .inl ⟨Nat.le_refl _, .slice none 0 0, h, ⟨rfl, .inl ⟨rfl, rfl⟩⟩, by simp [Value.ownBlock]⟩
theorem byteCells_str (s : ByteArray) : Lib.strCells s = Lib.byteCells s.data.toList := rfl
theorem bd_str (s : ByteArray) (b : Nat) (l : List UInt8) (w : World) (h : Bd w b l) (hlen : l.length + s.size ≤ 140737488355328) :
    Calls Tryd.prog 26 #[.pointer (some ⟨b, 0, none⟩), .string s] w fun e w' => e = .returned (.tuple #[.int .i64 s.size, .nilIface]) ∧ Bd w' b (l ++ s.data.toList) ∧ Below b w w' := by
  refine (Tryd.Builder_WriteString b b (Lib.byteCells l) s w h (by rw [Lib.byteCells_length]; exact hlen) (Nat.le_of_lt h.lt)).mono fun e w' hh => ⟨hh.1, ?_, hh.2.2⟩
  have := hh.2.1
  rw [byteCells_str, ← Lib.byteCells_append] at this
  exact .inr this
theorem bd_byte (c : UInt8) (b : Nat) (l : List UInt8) (w : World) (h : Bd w b l) (hlen : l.length + 1 ≤ 140737488355328) :
    Calls Tryd.prog 52 #[.pointer (some ⟨b, 0, none⟩), .int .u8 c.toNat] w fun e w' => e = .returned .nilIface ∧ Bd w' b (l ++ [c]) ∧ Below b w w' := by
  refine (Tryd.Builder_WriteByte b b (Lib.byteCells l) c.toNat w h (by rw [Lib.byteCells_length]; exact hlen) (Nat.le_of_lt h.lt)).mono fun e w' hh => ⟨hh.1, ?_, hh.2.2⟩
  have := hh.2.1
  rw [show [Value.int .u8 (c.toNat : Int)] = Lib.byteCells [c] from rfl, ← Lib.byteCells_append] at this
  exact .inr this
theorem bd_out (b : Nat) (l : List UInt8) (w : World) (h : Bd w b l) :
    Calls Tryd.prog 27 #[.pointer (some ⟨b, 0, none⟩)] w fun e w' => e = .returned (.string (strL l)) ∧ Below b w w' :=
  (Tryd.Builder_String_any b b l w h (Nat.le_of_lt h.lt)).mono fun _ _ hh => ⟨hh.1, hh.2⟩
end Go.Proofs.YtblbajhjmdcdiaaDoor
