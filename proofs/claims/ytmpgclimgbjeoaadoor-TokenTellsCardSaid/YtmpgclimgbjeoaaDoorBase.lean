/- What the contracts share: strings as lists of bytes, slices that can be read. -/
import Derived.Test.YtmpgclimgbjeoaaDoorChecked
import Derived.Test.YtmpgclimgbjeoaaDoorShelf
import Derived.Lib.Hide
import Derived.WalkKit
import Derived.ProofKit
import Derived.MapKept
namespace Go.Proofs.YtmpgclimgbjeoaaDoor
open Go.ChangeShapes Go.WideShapes Go.ChangeAt Go.RowKit

theorem Qtrans {w w1 w2 : World} (h : Below w.heap.size w w1) (k : Below w1.heap.size w1 w2) : Below w.heap.size w w2 := h.trans (k.mono h.size)
/-! ### Strings as lists of bytes -/
/-- The string of a list of bytes. -/
def strL (l : List UInt8) : ByteArray := ⟨l.toArray⟩
theorem strL_list (l : List UInt8) : (strL l).data.toList = l := rfl
theorem strL_size (l : List UInt8) : (strL l).size = l.length := by
  show l.toArray.size = l.length
  simp
theorem bytes_is {a b : ByteArray} (h : a.data.toList = b.data.toList) : a = b := by
  cases a; cases b
  simp only [ByteArray.mk.injEq] at h ⊢
  exact Array.toList_inj.1 h
theorem strL_of (s : ByteArray) : strL s.data.toList = s := bytes_is rfl
theorem strL_is {s : ByteArray} {l : List UInt8} (h : s.data.toList = l) : s = strL l := bytes_is h
theorem strL_inj {a b : List UInt8} : strL a = strL b ↔ a = b := ⟨fun h => congrArg (fun s : ByteArray => s.data.toList) h, fun h => by rw [h]⟩
theorem size_list (t : ByteArray) : t.size = t.data.toList.length := by rw [Array.length_toList]; rfl
theorem bytes_eqb (a b : ByteArray) : (a == b) = decide (a = b) := by
  rw [Bool.eq_iff_iff, MapKept.bytes_beq, decide_eq_true_eq]
theorem eq_lists (a b : ByteArray) : (a.toList == b.toList) = (a == b) := by
  rw [bytes_eqb, Bool.eq_iff_iff, beq_iff_eq, ByteArray.toList_eq, ByteArray.toList_eq, decide_eq_true_eq]
  exact ⟨bytes_is, fun h => by rw [h]⟩
theorem eq_strL (a b : List UInt8) : ((strL a).toList == (strL b).toList) = decide (a = b) := by
  rw [eq_lists, bytes_eqb, Bool.eq_iff_iff, decide_eq_true_eq, decide_eq_true_eq, strL_inj]
theorem list_append (a b : ByteArray) : (a ++ b).data.toList = a.data.toList ++ b.data.toList := by
  rw [ByteArray.data_append, Array.toList_append]
theorem strL_append (a b : List UInt8) : strL a ++ strL b = strL (a ++ b) := bytes_is (by rw [list_append]; rfl)
/-- A part of a string. -/
theorem part_of (s : ByteArray) (i j : Nat) (_hij : i ≤ j) (_hj : j ≤ s.size) : s.extract i j = strL ((s.data.toList.drop i).take (j - i)) := by
  refine bytes_is ?_
  rw [ByteArray.data_extract, Array.toList_extract, strL_list, List.extract_eq_take_drop]
theorem run_slice_str (s : ByteArray) (p q : Nat) (x : Int) (hx : x = q) (h : p ≤ q) (h2 : q ≤ s.size) (W : World) :
    (Instr.slice 9 (.string s) (some (.int .i64 p)) (some (.int .i64 x)) none).run Tryd.prog W = .ok (.string (s.extract p q)) W := by
  subst hx
  go_simp
theorem run_slice_from (s : ByteArray) (p : Nat) (x : Int) (hx : x = p) (h2 : p ≤ s.size) (W : World) :
    (Instr.slice 9 (.string s) (some (.int .i64 x)) none none).run Tryd.prog W = .ok (.string (s.extract p s.size)) W := by
  subst hx
  go_simp
theorem run_slice_to (s : ByteArray) (q : Nat) (x : Int) (hx : x = q) (h2 : q ≤ s.size) (W : World) :
    (Instr.slice 9 (.string s) none (some (.int .i64 x)) none).run Tryd.prog W = .ok (.string (s.extract 0 q)) W := by
  subst hx
  go_simp
theorem run_index_str (s : ByteArray) (x : Int) (n : Nat) (hx : x = n) (h : n < s.size) (W : World) :
    (Instr.index 9 (.string s) (.int .i64 x)).run Tryd.prog W = .ok (.int .u8 (s[n].toNat : Int)) W := by
  subst hx
  go_simp
theorem at_list (s : ByteArray) (n : Nat) (_h : n < s.size) (h2 : n < s.data.toList.length) : s.data.toList[n] = s[n] := rfl
theorem drop_cons (s : ByteArray) (n : Nat) (h : n < s.size) : s.data.toList.drop n = s[n] :: s.data.toList.drop (n + 1) := List.drop_eq_getElem_cons (by rw [← size_list]; exact h)
theorem part_rest (s : ByteArray) (n : Nat) (h : n ≤ s.size) : (s.extract n s.size).data.toList = s.data.toList.drop n := by
  rw [part_of s n s.size h (by omega), strL_list, List.take_of_length_le]
  rw [List.length_drop, ← size_list]
  exact Nat.le_refl _
theorem part_start (s : ByteArray) (n : Nat) (h : n ≤ s.size) : (s.extract 0 n).data.toList = s.data.toList.take n := by
  rw [part_of s 0 n (by omega) h, strL_list]; rfl
/-! ### Slices that can be read -/
def strV (l : List UInt8) : Value := .string (strL l)
def blk : Value → Option Nat
  | .slice (some a) _ _ => some a.block
  | _ => none
/-- The slice v reads as xs. -/
def Has {A : Type} (E : A → Value) (w : World) (v : Value) (xs : List A) : Prop :=
  (v = .slice none 0 0 ∧ xs = []) ∨ ∃ a c, v = .slice (some a) xs.length c ∧ ∀ j (h : j < xs.length), w.cell? (a.add j) = some (E xs[j])
theorem Has.nil {A : Type} (E : A → Value) (w : World) : Has E w (.slice none 0 0) [] := Or.inl ⟨rfl, rfl⟩
theorem add_block (a : Addr) (j : Nat) : (a.add j).block = a.block := by unfold Addr.add; split <;> rfl
theorem block_lt {w : World} {a : Addr} {j : Nat} {u : Value} (h : w.cell? (a.add j) = some u) : a.block < w.heap.size := by
  have := World.block_lt_of_cell? w (a.add j) h
  rwa [add_block] at this
theorem Has.keep {A : Type} {E : A → Value} {w w' : World} {v : Value} {xs : List A} (h : Has E w v xs) (hk : ∀ k, blk v = some k → k < w.heap.size → w'.heap[k]? = w.heap[k]?) : Has E w' v xs := by
  rcases h with h | ⟨a, c, rfl, h2⟩
  · exact Or.inl h
  · exact Or.inr ⟨a, c, rfl, fun j hj => by rw [World.cell?_of_block (w := w) (by rw [add_block]; exact hk a.block rfl (block_lt (h2 j hj)))]; exact h2 j hj⟩
theorem Has.below {A : Type} {E : A → Value} {w w' : World} {v : Value} {xs : List A} {B : Nat} (h : Has E w v xs) (hb : Below B w w') (hB : ∀ k, blk v = some k → k < w.heap.size → k < B) : Has E w' v xs :=
  h.keep fun k hk hl => hb.block k (hB k hk hl)
theorem Has.below' {A : Type} {E : A → Value} {w w' : World} {v : Value} {xs : List A} (h : Has E w v xs) (hb : Below w.heap.size w w') : Has E w' v xs := h.below hb fun _ _ h => h
theorem Has.of_own {A : Type} {E : A → Value} {w : World} {base e : Nat} {v : Value} {xs : List A} (h : w.ownsRow base e 1 v xs.length (xs.map E)) : Has E w v xs ∧ ∀ k, blk v = some k → base ≤ k := by
  rcases h.2 with ⟨rfl, h0⟩ | ⟨g, cap, cur, rfl, hb, hg, _⟩
  · exact ⟨Or.inl ⟨rfl, List.eq_nil_of_length_eq_zero h0⟩, fun k hk => by cases hk⟩
  · refine ⟨Or.inr ⟨⟨g, 0, none⟩, cap, rfl, fun j hj => ?_⟩, fun k hk => by cases hk; exact hb⟩
    exact h.cells (g := g) rfl j _ (by rw [List.getElem?_map, List.getElem?_eq_getElem hj]; rfl)
theorem cells_new {A : Type} (E : A → Value) (w : World) (e : TypeId) (l : List A) : ∀ j u, (l.map E)[j]? = some u → (w.alloc (.cells (l.map E).toArray e)).cell? ((⟨w.heap.size, 0, none⟩ : Addr).add j) = some u := by
  intro j u h
  have := World.cell?_alloc_mark w (l.map E).toArray e (0, 0) j
  have e : (⟨w.heap.size, 0, none⟩ : Addr).add j = ⟨w.heap.size, j, none⟩ := by
    simp only [Addr.add, Nat.zero_add]
    split
    · rename_i hj; rw [hj]
    · rfl
  rw [e, this, List.getElem?_toArray]; exact h
theorem Has.lit {A : Type} (E : A → Value) (w : World) (e : TypeId) (l : List A) (n : Nat) (hn : n = l.length) : Has E (w.alloc (.cells (l.map E).toArray e)) (.slice (some ⟨w.heap.size, 0, none⟩) n n) l := by
  subst hn
  exact Or.inr ⟨_, _, rfl, fun j hj => cells_new E w e l j _ (by rw [List.getElem?_map, List.getElem?_eq_getElem hj]; rfl)⟩
theorem own_below {w w' : World} {base : Nat} {e : TypeId} {size : Nat} {v : Value} {n : Nat} {xs : List Value} (h : w.ownsRow base e size v n xs) (hb : Below w.heap.size w w') : w'.ownsRow base e size v n xs := by
  refine ⟨h.1, ?_⟩
  rcases h.2 with h1 | ⟨g, cap, cur, rfl, hbg, hg, rest⟩
  · exact .inl h1
  · refine .inr ⟨g, cap, cur, rfl, hbg, ?_, rest⟩
    rw [hb.block g (Array.getElem?_eq_some_iff.1 hg).1]
    exact hg
theorem info9 : (Tryd.prog.info? 9).map (fun i => (i.zero, i.size, i.bytes)) = some (some (.string ⟨#[]⟩), 1, 16) := by kernel_rfl
theorem info5 : (Tryd.prog.info? 5).map (fun i => (i.zero, i.size, i.bytes)) = some (some (.int .u8 0), 1, 1) := by kernel_rfl
/-! ### The builder that a call has made -/
theorem below_own {w w' : World} {base : Nat} {e : TypeId} {size : Nat} {v : Value} {n : Nat} {xs : List Value} (h : w.ownsRow base e size v n xs) (hb : Below w.heap.size w w') : w'.ownsRow base e size v n xs := by
  refine ⟨h.1, ?_⟩
  rcases h.2 with h1 | ⟨g, cap, cur, rfl, hbg, hg, rest⟩
  · exact .inl h1
  · refine .inr ⟨g, cap, cur, rfl, hbg, ?_, rest⟩
    rw [hb.block g (Array.getElem?_eq_some_iff.1 hg).1]
    exact hg
/-- The strings.Builder in block b holds l. -/
def Bd (w : World) (b : Nat) (l : List UInt8) : Prop := Lib.IsBuilder 41 5 b b (Lib.byteCells l) w
theorem Bd.lt {w : World} {b : Nat} {l : List UInt8} (h : Bd w b l) : b < w.heap.size := h.elim (fun x => x.lt) (fun x => x.lt)
theorem built_below {T e : TypeId} {B b : Nat} {p : Value} {bs : List Value} {w w' : World} (h : Lib.BuilderAt T e B b p bs w) (hb : Below w.heap.size w w') : Lib.BuilderAt T e B b p bs w' := by
  have hlt := h.lt
  obtain ⟨hB, v, hk, hown, hne⟩ := h
  exact ⟨hB, v, by rw [hb.block b hlt]; exact hk, below_own hown hb, hne⟩
theorem Bd.below {w w' : World} {b : Nat} {l : List UInt8} (h : Bd w b l) (hb : Below w.heap.size w w') : Bd w' b l := h.elim (fun x => .inl (built_below x hb)) (fun x => .inr (built_below x hb))
theorem Bd.alloc {w : World} {b : Nat} {l : List UInt8} (h : Bd w b l) (o : Obj) : Bd (w.alloc o) b l := h.below ((Below.refl _ _).alloc (Nat.le_refl _) _)
theorem Bd.drew {w : World} {b : Nat} {l : List UInt8} (h : Bd w b l) : Bd w.drew b l := h.below (Below.refl _ _).drew
theorem bd_new {w : World} {b : Nat} (h : w.heap[b]? = some (.cells #[.pointer none, .slice none 0 0] 41 (0, 0))) : Bd w b [] :=
  .inl ⟨Nat.le_refl _, .slice none 0 0, h, ⟨rfl, .inl ⟨rfl, rfl⟩⟩, by simp [Value.ownBlock]⟩
theorem byteCells_str (s : ByteArray) : Lib.strCells s = Lib.byteCells s.data.toList := rfl
theorem bd_str (s : ByteArray) (b : Nat) (l : List UInt8) (w : World) (h : Bd w b l) (hlen : l.length + s.size ≤ 140737488355328) :
    Calls Tryd.prog 23 #[.pointer (some ⟨b, 0, none⟩), .string s] w fun e w' => e = .returned (.tuple #[.int .i64 s.size, .nilIface]) ∧ Bd w' b (l ++ s.data.toList) ∧ Below b w w' := by
  refine (Tryd.Builder_WriteString b b (Lib.byteCells l) s w h (by rw [Lib.byteCells_length]; exact hlen) (Nat.le_of_lt h.lt)).mono fun e w' hh => ⟨hh.1, ?_, hh.2.2⟩
  have := hh.2.1
  rw [byteCells_str, ← Lib.byteCells_append] at this
  exact .inr this
theorem bd_byte (c : UInt8) (b : Nat) (l : List UInt8) (w : World) (h : Bd w b l) (hlen : l.length + 1 ≤ 140737488355328) :
    Calls Tryd.prog 26 #[.pointer (some ⟨b, 0, none⟩), .int .u8 c.toNat] w fun e w' => e = .returned .nilIface ∧ Bd w' b (l ++ [c]) ∧ Below b w w' := by
  refine (Tryd.Builder_WriteByte b b (Lib.byteCells l) c.toNat w h (by rw [Lib.byteCells_length]; exact hlen) (Nat.le_of_lt h.lt)).mono fun e w' hh => ⟨hh.1, ?_, hh.2.2⟩
  have := hh.2.1
  rw [show [Value.int .u8 (c.toNat : Int)] = Lib.byteCells [c] from rfl, ← Lib.byteCells_append] at this
  exact .inr this
theorem bd_out (b : Nat) (l : List UInt8) (w : World) (h : Bd w b l) :
    Calls Tryd.prog 24 #[.pointer (some ⟨b, 0, none⟩)] w fun e w' => e = .returned (.string (strL l)) ∧ Below b w w' :=
  (Tryd.Builder_String_any b b l w h (Nat.le_of_lt h.lt)).mono fun _ _ hh => ⟨hh.1, hh.2⟩
end Go.Proofs.YtmpgclimgbjeoaaDoor
