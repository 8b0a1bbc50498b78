/- What the contracts of package date share: the package-level variables, kept by every call that only makes new memory; strings as lists of bytes. -/
import Derived.Test.YtnmdljadnlddeaaGreatDoorShelf
import Derived.Test.YtnmdljadnlddeaaGreatDoorTime
import Derived.Lib.AtoiErrMem
import Derived.MapKept
namespace Go.Proofs.YtnmdljadnlddeaaGreatDoor
open Go.ChangeShapes Go.WideShapes Go.ChangeAt Go.RowKit

/-! ### Strings as lists of bytes -/
/-- The string of a list of bytes. -/
def strL (l : List UInt8) : ByteArray := ⟨l.toArray⟩
theorem strL_list (l : List UInt8) : (strL l).data.toList = l := rfl
theorem strL_size (l : List UInt8) : (strL l).size = l.length := by
  show l.toArray.size = l.length
  simp
theorem bytes_is {a b : ByteArray} (h : a.data.toList = b.data.toList) : a = b := by
  cases a; cases b
  simp only [ByteArray.mk.injEq] at h ⊢
  exact Array.toList_inj.1 h
theorem strL_of (s : ByteArray) : strL s.data.toList = s := bytes_is rfl
theorem strL_is {s : ByteArray} {l : List UInt8} (h : s.data.toList = l) : s = strL l := bytes_is h
theorem strL_inj {a b : List UInt8} : strL a = strL b ↔ a = b := ⟨fun h => congrArg (fun s : ByteArray => s.data.toList) h, fun h => by rw [h]⟩
theorem size_list (t : ByteArray) : t.size = t.data.toList.length := by rw [Array.length_toList]; rfl
theorem bytes_eqb (a b : ByteArray) : (a == b) = decide (a = b) := by
  rw [Bool.eq_iff_iff, MapKept.bytes_beq, decide_eq_true_eq]
theorem eq_lists (a b : ByteArray) : (a.toList == b.toList) = (a == b) := by
  rw [bytes_eqb, Bool.eq_iff_iff, beq_iff_eq, ByteArray.toList_eq, ByteArray.toList_eq, decide_eq_true_eq]
  exact ⟨bytes_is, fun h => by rw [h]⟩
theorem list_append (a b : ByteArray) : (a ++ b).data.toList = a.data.toList ++ b.data.toList := by
  rw [ByteArray.data_append, Array.toList_append]
theorem strL_append (a b : List UInt8) : strL a ++ strL b = strL (a ++ b) := bytes_is (by rw [list_append]; rfl)
/-- A part of a string. -/
theorem part_of (s : ByteArray) (i j : Nat) (_hij : i ≤ j) (_hj : j ≤ s.size) : s.extract i j = strL ((s.data.toList.drop i).take (j - i)) := by
  refine bytes_is ?_
  rw [ByteArray.data_extract, Array.toList_extract, strL_list, List.extract_eq_take_drop]
theorem run_slice_str (s : ByteArray) (p q : Nat) (x : Int) (hx : x = q) (h : p ≤ q) (h2 : q ≤ s.size) (W : World) :
    (Instr.slice 9 (.string s) (some (.int .i64 p)) (some (.int .i64 x)) none).run Tryz.prog W = .ok (.string (s.extract p q)) W := by
  subst hx
  go_simp
theorem run_slice_from (s : ByteArray) (p : Nat) (h2 : p ≤ s.size) (W : World) :
    (Instr.slice 9 (.string s) (some (.int .i64 p)) none none).run Tryz.prog W = .ok (.string (s.extract p s.size)) W := by
  go_simp
theorem run_slice_to (s : ByteArray) (q : Nat) (h2 : q ≤ s.size) (W : World) :
    (Instr.slice 9 (.string s) none (some (.int .i64 q)) none).run Tryz.prog W = .ok (.string (s.extract 0 q)) W := by
  go_simp
theorem run_index_str (s : ByteArray) (x : Int) (n : Nat) (hx : x = n) (h : n < s.size) (W : World) :
    (Instr.index 9 (.string s) (.int .i64 x)).run Tryz.prog W = .ok (.int .u8 (s[n].toNat : Int)) W := by
  subst hx
  go_simp
theorem at_list (s : ByteArray) (n : Nat) (_h : n < s.size) (h2 : n < s.data.toList.length) : s.data.toList[n] = s[n] := rfl
theorem drop_cons (s : ByteArray) (n : Nat) (h : n < s.size) : s.data.toList.drop n = s[n] :: s.data.toList.drop (n + 1) := List.drop_eq_getElem_cons (by rw [← size_list]; exact h)
theorem part_one (s : ByteArray) (n : Nat) (h : n < s.size) : (s.extract n (n + 1)).data.toList = [s[n]] := by
  rw [part_of s n (n + 1) (by omega) (by omega), strL_list, drop_cons s n h, show n + 1 - n = 1 by omega]
  rfl
theorem part_rest (s : ByteArray) (n : Nat) (h : n ≤ s.size) : (s.extract n s.size).data.toList = s.data.toList.drop n := by
  rw [part_of s n s.size h (by omega), strL_list, List.take_of_length_le]
  rw [List.length_drop, ← size_list]
  exact Nat.le_refl _
theorem part_start (s : ByteArray) (n : Nat) (h : n ≤ s.size) : (s.extract 0 n).data.toList = s.data.toList.take n := by
  rw [part_of s 0 n (by omega) h, strL_list]; rfl

/-! ### The variables -/
theorem cell_lt {w : World} {b i : Nat} {v : Value} (h : w.cell? ⟨b, i, none⟩ = some v) : b < w.heap.size := by
  rcases Nat.lt_or_ge b w.heap.size with h' | h'
  · exact h'
  · simp [World.cell?, Array.getElem?_eq_none h'] at h
theorem cell_below {w w' : World} {b i : Nat} {v : Value} (h : w.cell? ⟨b, i, none⟩ = some v) (hb : Below w.heap.size w w') : w'.cell? ⟨b, i, none⟩ = some v := by
  rw [hb.cell (p := ⟨b, i, none⟩) (cell_lt h)]; exact h
theorem block_below {w w' : World} {b : Nat} {o : Obj} (h : w.heap[b]? = some o) (hb : Below w.heap.size w w') : w'.heap[b]? = some o := by
  rw [hb.block b (Array.getElem?_eq_some_iff.1 h).1]; exact h
theorem var_below {w w' : World} (hb : Below w.heap.size w w') {name : String} {v : Array Value} (h : w.var? Tryz.prog name = some v) : w'.var? Tryz.prog name = some v := by
  unfold World.var? at *
  cases hg : Tryz.prog.globalNamed name with
  | none => simp [hg] at h
  | some g =>
    simp only [hg, Option.bind_some] at h ⊢
    have hlt : g < w.heap.size := by
      rcases Nat.lt_or_ge g w.heap.size with h' | h'
      · exact h'
      · rw [Array.getElem?_eq_none h'] at h; simp at h
    rw [hb.block g hlt]
    exact h
theorem below_grow (B : Nat) (w : World) (hB : B ≤ w.heap.size) (k : Nat) (os : Array Obj) : Below B w (Sort.grow (w.drewN k) os) :=
  ⟨rfl, rfl, rfl, by simp, fun j hj => (Sort.heap_grow_old (w.drewN k) os (by simpa using Nat.lt_of_lt_of_le hj hB))⟩

/-- Names as values. -/
def strV (l : List UInt8) : Value := .string (strL l)
def dayVs : Array Value := (DateP.dayNames.map strV).toArray
def monVs : Array Value := (DateP.monNames.map strV).toArray
/-- The next letter of the same kind, of a byte below 128. -/
def foldA (c : Nat) : Nat := if c = 75 then 107 else if c = 107 then 8490 else if c = 115 then 383 else if 65 ≤ c ∧ c ≤ 90 then c + 32 else if 97 ≤ c ∧ c ≤ 122 then c - 32 else c
/-- The first numbers of the table of the orbits that are no pairs. -/
def orbF : List Nat := [0x004B, 0x0053, 0x006B, 0x0073, 0x00B5, 0x00C5, 0x00DF, 0x00E5, 0x0130, 0x0131, 0x017F, 0x01C4, 0x01C5, 0x01C6, 0x01C7, 0x01C8, 0x01C9, 0x01CA, 0x01CB, 0x01CC, 0x01F1, 0x01F2, 0x01F3, 0x0345, 0x0390, 0x0392, 0x0395, 0x0398, 0x0399, 0x039A, 0x039C, 0x03A0, 0x03A1, 0x03A3, 0x03A6, 0x03A9, 0x03B0, 0x03B2, 0x03B5, 0x03B8, 0x03B9, 0x03BA, 0x03BC, 0x03C0, 0x03C1, 0x03C2, 0x03C3, 0x03C6, 0x03C9, 0x03D0, 0x03D1, 0x03D5, 0x03D6, 0x03F0, 0x03F1, 0x03F4, 0x03F5, 0x0412, 0x0414, 0x041E, 0x0421, 0x0422, 0x042A, 0x0432, 0x0434, 0x043E, 0x0441, 0x0442, 0x044A, 0x0462, 0x0463, 0x1C80, 0x1C81, 0x1C82, 0x1C83, 0x1C84, 0x1C85, 0x1C86, 0x1C87, 0x1C88, 0x1E60, 0x1E61, 0x1E9B, 0x1E9E, 0x1FBE, 0x1FD3, 0x1FE3, 0x2126, 0x212A, 0x212B, 0xA64A, 0xA64B, 0xFB05, 0xFB06]
/-- What is read of the package-level variables. -/
structure Vars (w : World) : Prop where
  tab : Lib.TabIs Tryz.prog w "internal/strconv.uint64pow10" .u64 Lib.pow10Tab
  syn : ∃ tp p, w.var? Tryz.prog "strconv.ErrSyntax" = some #[.iface tp p]
  rng : ∃ tp p, w.var? Tryz.prog "strconv.ErrRange" = some #[.iface tp p]
  days : ∃ T fr, w.heap[0]? = some (.cells dayVs T fr)
  mons : ∃ T fr, w.heap[1]? = some (.cells monVs T fr)
  fold : ∀ c : Nat, c < 128 → w.cell? ⟨3, c, none⟩ = some (.int .u16 (foldA c : Nat))
  orbit : ∃ b o c, w.cell? ⟨4, 0, none⟩ = some (.slice (some ⟨b, o, none⟩) 94 c) ∧ (∀ i, i < 94 → w.cell? ⟨b, o + i * 2, none⟩ = some (.int .u16 (orbF.getD i 0 : Nat))) ∧ w.cell? ⟨b, o + 10 * 2 + 1, none⟩ = some (.int .u16 83)
theorem Vars.below {w w' : World} (h : Vars w) (hb : Below w.heap.size w w') : Vars w' := by
  obtain ⟨t, ⟨a, b, s⟩, ⟨c, d, r⟩, ⟨T1, f1, h1⟩, ⟨T2, f2, h2⟩, hf, ⟨x, o, k, e0, e1, e2⟩⟩ := h
  exact ⟨var_below hb t, ⟨a, b, var_below hb s⟩, ⟨c, d, var_below hb r⟩, ⟨T1, f1, block_below h1 hb⟩, ⟨T2, f2, block_below h2 hb⟩, fun c hc => cell_below (hf c hc) hb, ⟨x, o, k, cell_below e0 hb, fun i hi => cell_below (e1 i hi) hb, cell_below e2 hb⟩⟩
theorem Vars.alloc {w : World} (h : Vars w) (o : Obj) : Vars (w.alloc o) := h.below ((Below.refl _ _).alloc (Nat.le_refl _) _)
theorem Vars.drew {w : World} (h : Vars w) : Vars w.drew := h.below (Below.refl _ _).drew

/-! ### Decimal text -/
theorem text_any (n : Int) (h0 : -9223372036854775808 ≤ n) (h1 : n ≤ 9223372036854775807) (w : World) (hv : Vars w) :
    Calls Tryz.prog 27 #[.int .i64 n] w fun e w' => e = .returned (.string ⟨(Lib.itoa n).toArray⟩) ∧ Below w.heap.size w w' := by
  have ht := hv.tab
  go_enter Tryz.func27, Tryz.ntmps27
  go_wp2_with (go_at_call 42; refine (Tryz.strconv_Itoa n h0 h1 _ ht).mono ?_; rintro e w' ⟨rfl, k, os, rfl⟩)
  go_ret
  exact ⟨rfl, below_grow _ _ (Nat.le_refl _) _ _⟩
end Go.Proofs.YtnmdljadnlddeaaGreatDoor
