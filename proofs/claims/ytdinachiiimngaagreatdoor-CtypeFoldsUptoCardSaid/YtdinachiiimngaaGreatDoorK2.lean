/- The reference's tests of bytes and strings: find, has, letter, Word, Text, Split, digit. Slices of bytes that a call has made; the reference's Value. The reference's Small: lower case. The laws' few and named. A region that draws its order, walked by hand; of no program. enclosed: where an opened token closes. -/
import Derived.Test.YtdinachiiimngaaGreatDoorK1
import Derived.RangeFuncRecord
import Derived.Lib.ConvBytes
import Derived.Lib.UnsafeStr
import Derived.Lib.AppendStr
import Derived.Laws.AppendOwn
import Derived.Maps.AppendAt
import Derived.WalkKit
import Derived.Deep.MidRow
import Derived.Deep.RegionHeld3
namespace Go.Proofs.YtdinachiiimngaaGreatDoor
open Go.ChangeShapes Go.WideShapes Go.ChangeAt Go.RowKit
open TokP AdrP CtP

def findZ (c : UInt8) (s : List UInt8) : Int := if c ∈ s then ((upC c s).length : Int) else -1
theorem upC_len {c : UInt8} {s : List UInt8} {k : Nat} (hk : s[k]? = some c) (h : c ∉ s.take k) : findZ c s = k := by
  obtain ⟨h1, h2⟩ := List.getElem?_eq_some_iff.1 hk
  have e : s = s.take k ++ c :: s.drop (k + 1) := by rw [← h2, ← List.drop_eq_getElem_cons h1, List.take_append_drop]
  have hm : c ∈ s := List.mem_of_getElem? hk
  have hu : upC c s = s.take k := by
    unfold upC
    conv => lhs; rw [e]
    rw [List.takeWhile_append_of_pos (fun d hd => by simp; rintro rfl; exact h hd), List.takeWhile_cons_of_neg (by simp), List.append_nil]
  unfold findZ
  rw [if_pos hm, hu, List.length_take]
  omega
set_option maxHeartbeats 1000000 in
theorem rfind_any (s : ByteArray) (c : UInt8) (x : Nat) (hx : c.toNat = x) (hs : s.size ≤ 1000000000) (w : World) :
    Calls Tryz.prog 37 #[.string s, .int .u8 x] w fun e w' => e = .returned (.int .i64 (findZ c s.data.toList)) ∧ w = w' := by
  obtain ⟨n, hn⟩ : ∃ n, s.size = n := ⟨_, rfl⟩
  have HN := Lib.hid hn
  have HL := Lib.hid (size_list s)
  rw [hn] at hs
  have HX := Lib.hid hx
  obtain ⟨z, hz⟩ : ∃ z, findZ c s.data.toList = z := ⟨_, rfl⟩
  rw [hz]
  have HZ := Lib.hid hz
  clear hn hx hz
  go_enter Tryz.func37, Tryz.ntmps37
  go_wp2_with fail
  go_loopw [5] (fun i wr => ∃ k : Nat, k ≤ n ∧ i = .int .i64 k ∧ wr = w ∧ Hid (c ∉ s.data.toList.take k)) (fun i _ => n - (intOf i).toNat)
  case atStart => exact ⟨0, Nat.zero_le _, rfl, rfl, Lib.hid (by simp)⟩
  case round =>
    obtain ⟨k, hk, rfl, rfl, HF⟩ := hrel
    have F1 : IntKind.i64.wrap ((k : Int) + 1) = (k : Int) + 1 := by rw [IntKind.wrap_i64]; omega
    by_cases hlt : k < n
    · have hlt' : (k : Int) < (n : Int) := by omega
      have hn : s.size = n := HN.out
      obtain ⟨d, y, hd, hy, hy2, S1⟩ := run_byte s k (by rw [hn]; exact hlt)
      by_cases hcd : d = c
      · have e1 : ((y : Int) == (x : Int)) = true := beq_iff_eq.2 (by rw [← hy, hcd, HX.out])
        obtain rfl : (k : Int) = z := by rw [← HZ.out, upC_len (hcd ▸ hd) HF.out]
        clear hd hy hcd HF HZ
        go_wp2_with fail
        go_ret
        exact ⟨rfl, rfl⟩
      · have e1 : ((y : Int) == (x : Int)) = false := beq_eq_false_iff_ne.2 (fun e => hcd (UInt8.toNat_inj.1 (by rw [hy, HX.out]; omega)))
        have HF2 := Lib.hid (show c ∉ s.data.toList.take (k + 1) by
          rw [List.take_add_one, hd, List.mem_append]
          rintro (h | h)
          · exact HF.out h
          · simp at h; exact hcd h.symm)
        clear hd hy hcd HF
        go_wp2_with fail
        go_roundw
        case rel => exact ⟨k + 1, by omega, by go_num, trivial, HF2⟩
        case measure => simp [intOf]; omega
    · obtain rfl : k = n := by omega
      have hlt' : ¬ (k : Int) < (k : Int) := by omega
      have hno := HF.out
      rw [List.take_of_length_le (by rw [← HL.out, HN.out]; exact Nat.le_refl _)] at hno
      obtain rfl : -1 = z := by rw [← HZ.out]; unfold findZ; rw [if_neg hno]
      have hn : s.size = k := HN.out
      clear HF hno HZ
      go_wp2_with fail
      go_ret
      exact ⟨rfl, rfl⟩
theorem findZ_has (c : UInt8) (s : List UInt8) : decide (0 ≤ findZ c s) = s.contains c := by
  unfold findZ
  by_cases h : c ∈ s
  · rw [if_pos h, decide_eq_true (by omega)]
    exact (List.contains_iff_mem.2 h).symm
  · rw [if_neg h]
    have : s.contains c = false := by rw [← Bool.not_eq_true, List.contains_iff_mem]; exact h
    rw [this]; rfl
theorem rhas_any (s : ByteArray) (c : UInt8) (x : Nat) (hx : c.toNat = x) (hs : s.size ≤ 1000000000) (w : World) :
    Calls Tryz.prog 46 #[.string s, .int .u8 x] w fun e w' => e = .returned (.bool (s.data.toList.contains c)) ∧ w = w' := by
  have cF := rfind_any s c x hx hs w
  have hh := findZ_has c s.data.toList
  generalize findZ c s.data.toList = z at cF hh
  generalize s.data.toList.contains c = r at hh ⊢
  clear hs hx
  by_cases hz : 0 ≤ z
  · rw [decide_eq_true hz] at hh
    subst hh
    go_enter Tryz.func46, Tryz.ntmps46
    go_wp2_with (go_at_call 37; (with_reducible refine cF.mono ?_); rintro e w2 ⟨rfl, rfl⟩)
    go_ret
    simp
  · rw [decide_eq_false hz] at hh
    subst hh
    go_enter Tryz.func46, Tryz.ntmps46
    go_wp2_with (go_at_call 37; (with_reducible refine cF.mono ?_); rintro e w2 ⟨rfl, rfl⟩)
    go_ret
    simp [hz]
theorem letter_is (c : UInt8) (x : Nat) (hx : c.toNat = x) : letterB c = ((decide (97 ≤ x) && decide (x ≤ 122)) || (decide (65 ≤ x) && decide (x ≤ 90)) || (decide (48 ≤ x) && decide (x ≤ 57))) := by
  unfold letterB
  rw [hx]
set_option maxHeartbeats 2000000 in
theorem rletter_any (c : UInt8) (x : Nat) (hx : c.toNat = x) (w : World) :
    Calls Tryz.prog 47 #[.int .u8 x] w fun e w' => e = .returned (.bool (letterB c)) ∧ w = w' := by
  rw [letter_is c x hx]
  clear hx
  by_cases h1 : 97 ≤ x
  · have g1 : (97 : Int) ≤ (x : Int) := by omega
    by_cases h2 : x ≤ 122
    · have g2 : (x : Int) ≤ 122 := by omega
      rw [decide_eq_true h1, decide_eq_true h2]
      go_enter Tryz.func47, Tryz.ntmps47
      go_wp2_with fail
      go_ret
      exact ⟨rfl, rfl⟩
    · have g2 : ¬ (x : Int) ≤ 122 := by omega
      have g3 : (65 : Int) ≤ (x : Int) := by omega
      have g4 : ¬ (x : Int) ≤ 90 := by omega
      have g5 : (48 : Int) ≤ (x : Int) := by omega
      have g6 : ¬ (x : Int) ≤ 57 := by omega
      rw [decide_eq_false h2, decide_eq_false (by omega : ¬ x ≤ 90), decide_eq_false (by omega : ¬ x ≤ 57)]
      simp only [Bool.and_false, Bool.or_false]
      go_enter Tryz.func47, Tryz.ntmps47
      go_wp2_with fail
      go_ret
      exact ⟨rfl, rfl⟩
  · have g1 : ¬ (97 : Int) ≤ (x : Int) := by omega
    rw [decide_eq_false h1]
    by_cases h3 : 65 ≤ x
    · have g3 : (65 : Int) ≤ (x : Int) := by omega
      by_cases h4 : x ≤ 90
      · have g4 : (x : Int) ≤ 90 := by omega
        rw [decide_eq_true h3, decide_eq_true h4]
        go_enter Tryz.func47, Tryz.ntmps47
        go_wp2_with fail
        go_ret
        exact ⟨rfl, rfl⟩
      · have g4 : ¬ (x : Int) ≤ 90 := by omega
        have g5 : (48 : Int) ≤ (x : Int) := by omega
        have g6 : ¬ (x : Int) ≤ 57 := by omega
        rw [decide_eq_false h4, decide_eq_false (by omega : ¬ x ≤ 57)]
        simp only [Bool.and_false, Bool.or_false, Bool.false_and]
        go_enter Tryz.func47, Tryz.ntmps47
        go_wp2_with fail
        go_ret
        exact ⟨rfl, rfl⟩
    · have g3 : ¬ (65 : Int) ≤ (x : Int) := by omega
      rw [decide_eq_false h3]
      by_cases h5 : 48 ≤ x
      · have g5 : (48 : Int) ≤ (x : Int) := by omega
        by_cases h6 : x ≤ 57
        · have g6 : (x : Int) ≤ 57 := by omega
          rw [decide_eq_true h5, decide_eq_true h6]
          go_enter Tryz.func47, Tryz.ntmps47
          go_wp2_with fail
          go_ret
          exact ⟨rfl, rfl⟩
        · have g6 : ¬ (x : Int) ≤ 57 := by omega
          rw [decide_eq_false h6]
          simp only [Bool.and_false, Bool.or_false, Bool.false_and]
          go_enter Tryz.func47, Tryz.ntmps47
          go_wp2_with fail
          go_ret
          exact ⟨rfl, rfl⟩
      · have g5 : ¬ (48 : Int) ≤ (x : Int) := by omega
        rw [decide_eq_false h5]
        simp only [Bool.or_false, Bool.false_and]
        go_enter Tryz.func47, Tryz.ntmps47
        go_wp2_with fail
        go_ret
        exact ⟨rfl, rfl⟩
theorem word_at (c : UInt8) : wordB c = (letterB c || (⟨#[33, 35, 36, 38, 94, 95, 46, 43, 45]⟩ : ByteArray).data.toList.contains c) := rfl
set_option maxRecDepth 100000 in
set_option maxHeartbeats 2000000 in
theorem rword_any (s : ByteArray) (hs : s.size ≤ 1000000000) (w : World) :
    Calls Tryz.prog 38 #[.string s] w fun e w' => e = .returned (.bool (wordW s.data.toList)) ∧ w = w' := by
  obtain ⟨n, hn⟩ : ∃ n, s.size = n := ⟨_, rfl⟩
  have HN := Lib.hid hn
  have HL := Lib.hid (size_list s)
  rw [hn] at hs
  obtain ⟨r, hr⟩ : ∃ r, wordW s.data.toList = r := ⟨_, rfl⟩
  rw [hr]
  have HR := Lib.hid hr
  clear hn hr
  go_enter Tryz.func38, Tryz.ntmps38
  go_wp2_with fail
  go_loopw [3] (fun i wr => ∃ k : Nat, k ≤ n ∧ i = .int .i64 k ∧ wr = w ∧ Hid ((s.data.toList.take k).all wordB = true)) (fun i _ => n - (intOf i).toNat)
  case atStart => exact ⟨0, Nat.zero_le _, rfl, rfl, rfl⟩
  case round =>
    obtain ⟨k, hk, rfl, rfl, HF⟩ := hrel
    have F1 : IntKind.i64.wrap ((k : Int) + 1) = (k : Int) + 1 := by rw [IntKind.wrap_i64]; omega
    by_cases hlt : k < n
    · have hlt' : (k : Int) < (n : Int) := by omega
      have hn : s.size = n := HN.out
      obtain ⟨d, y, hd, hy, hy2, S1⟩ := run_byte s k (by rw [hn]; exact hlt)
      have cH := fun W => rhas_any ⟨#[33, 35, 36, 38, 94, 95, 46, 43, 45]⟩ d y hy (by decide) W
      have cL := fun W => rletter_any d y hy W
      have hw := word_at d
      generalize (⟨#[33, 35, 36, 38, 94, 95, 46, 43, 45]⟩ : ByteArray).data.toList.contains d = b2 at cH hw
      generalize letterB d = b1 at cL hw
      cases hwb : wordB d with
      | true =>
        rw [hwb] at hw
        have HF2 := Lib.hid (show (s.data.toList.take (k + 1)).all wordB = true by rw [List.take_add_one, hd, List.all_append, HF.out]; simp [hwb])
        clear hd hy HF hwb HR
        cases b1 with
        | true =>
          clear hw
          go_wp2_with (first
            | (go_at_call 46; (with_reducible refine (cH _).mono ?_); rintro e w2 ⟨rfl, rfl⟩)
            | (go_at_call 47; (with_reducible refine (cL _).mono ?_); rintro e w3 ⟨rfl, rfl⟩))
          go_roundw
          case rel => exact ⟨k + 1, by omega, by go_num, trivial, HF2⟩
          case measure => simp [intOf]; omega
        | false =>
          obtain rfl : true = b2 := by simpa using hw
          clear hw
          go_wp2_with (first
            | (go_at_call 46; (with_reducible refine (cH _).mono ?_); rintro e w2 ⟨rfl, rfl⟩)
            | (go_at_call 47; (with_reducible refine (cL _).mono ?_); rintro e w3 ⟨rfl, rfl⟩))
          go_roundw
          case rel => exact ⟨k + 1, by omega, by go_num, trivial, HF2⟩
          case measure => simp [intOf]; omega
      | false =>
        rw [hwb] at hw
        obtain ⟨rfl, rfl⟩ : b1 = false ∧ b2 = false := by simpa using hw.symm
        obtain rfl : false = r := by
          rw [← HR.out]
          unfold wordW
          symm
          rw [Bool.and_eq_false_iff]
          refine .inr ?_
          rw [List.all_eq_false]
          exact ⟨d, List.mem_of_getElem? hd, by rw [hwb]; exact Bool.false_ne_true⟩
        clear hd hy HF hwb HR hw
        go_wp2_with (first
          | (go_at_call 46; (with_reducible refine (cH _).mono ?_); rintro e w2 ⟨rfl, rfl⟩)
          | (go_at_call 47; (with_reducible refine (cL _).mono ?_); rintro e w3 ⟨rfl, rfl⟩))
        go_ret
        exact ⟨rfl, rfl⟩
    · obtain rfl : k = n := by omega
      have hlt' : ¬ (k : Int) < (k : Int) := by omega
      have ha := HF.out
      rw [List.take_of_length_le (by rw [← HL.out, HN.out]; exact Nat.le_refl _)] at ha
      have hz : decide ((0 : Int) < (k : Int)) = r := by
        rw [← HR.out]
        unfold wordW
        rw [ha, Bool.and_true]
        have hl := HL.out
        rw [HN.out] at hl
        cases hq : s.data.toList with
        | nil => rw [hq] at hl; rw [hl]; rfl
        | cons a b => rw [hq, List.length_cons] at hl; rw [decide_eq_true (by omega)]; rfl
      have hn : s.size = k := HN.out
      clear HF ha HR
      go_wp2_with fail
      go_ret
      subst hz
      exact ⟨by simp, rfl⟩
end Go.Proofs.YtdinachiiimngaaGreatDoor
namespace Go.Proofs.YtdinachiiimngaaGreatDoor
open Go.ChangeShapes Go.WideShapes Go.ChangeAt Go.RowKit
open TokP

/-- The slice v holds out, in a block of its own from B on. -/
def Ow (w : World) (B : Nat) (v : Value) (out : List UInt8) : Prop := w.ownsRow B 5 1 v out.length (Lib.byteCells out)
theorem conv_own {w : World} {base n : Nat} {v : Value} {l : List UInt8} (hl : l.length = n) (hown : w.ownsRow base 5 1 v n (Lib.byteCells l)) :
    (convert 59 9 v).run Tryz.prog w = .ok (.string (strL l)) w := by
  rcases hown.2 with ⟨rfl, h⟩ | ⟨g, cap, cur, rfl, _⟩
  · obtain rfl : l = [] := List.eq_nil_of_length_eq_zero (by rw [hl, h])
    kernel_rfl
  · subst hl
    refine run_convert_bytes_back w 59 9 5 ⟨g, 0, none⟩ cap l Tryz.underlying59 Tryz.underlying5 Tryz.underlying9 fun j hj => ?_
    refine hown.cells (g := g) rfl j _ ?_
    unfold Lib.byteCells
    rw [List.getElem?_map, List.getElem?_eq_getElem hj]; rfl
/-- A new byte is appended. -/
theorem wpList_byte {ops : Array Oper} {rest : List Oper} {o : Oper} {a : Act} {w : World} {Q : Exit → Act → World → Prop} (hgd : o.guard = none) (s x : Operand) (ho : o.op = .call { callee := .builtin .append, args := #[s, x], argTypes := #[59, 59] })
    (B : Nat) {v : Value} {out : List UInt8} {n : Nat} (c : UInt8) (y : Int) (hy : (c.toNat : Int) = y) (hs : a.eval s = v) (hx : a.eval x = .slice (some ⟨w.heap.size, 0, none⟩) 1 1) (hown : Ow w B v out) (hn : out.length = n) (hb : B ≤ w.heap.size) (hl : n + 1 ≤ 4000000)
    (h : ∀ a' c' w', Ow w' B (.slice a' (n + 1) c') (out ++ [c]) → (w.alloc (.cells #[.int .u8 y] 5)).grownBy w' v.ownBlock → wpList Tryz.prog ops Q rest (a.put o.dst (.slice a' (n + 1) c')) w') : wpList Tryz.prog ops Q (o :: rest) a (w.alloc (.cells #[.int .u8 y] 5)) := by
  obtain ⟨i0, hi, hz0, hz1, hz2⟩ := info_parts info5
  subst hn
  subst hy
  have h0 : Ow (w.alloc (.cells #[.int .u8 (c.toNat : Int)] 5)) B v out := World.ownsRow.alloc hown _
  refine wpList_append_own _ hgd s x 59 ho B 5 i0 (.int .u8 0) 1 1 Tryz.underlying59 hi hz0 hz1 hz2 rfl (by decide) v _ _ hs h0 ⟨w.heap.size, 0, none⟩ 1 1 [.int .u8 (c.toNat : Int)] hx rfl (cell_one_new _ _ _) (by simp [Value.oneCell']) (by unfold maxLen; omega) (by omega) (by rw [World.size_alloc]; omega) ?_
  intro v' w' h1 h2 _
  have h1' : w'.ownsRow B 5 1 v' (out.length + 1) (Lib.byteCells (out ++ [c])) := by rw [Lib.byteCells_append]; exact h1
  obtain ⟨a', c', rfl⟩ : ∃ a' c', v' = .slice a' (out.length + 1) c' := by
    rcases h1.2 with ⟨rfl, h0⟩ | ⟨g, cap, cur, rfl, _⟩
    · omega
    · exact ⟨_, _, rfl⟩
  exact h a' c' w' (by unfold Ow; rw [List.length_append]; exact h1') h2
theorem ow_nil (w : World) (B : Nat) : Ow w B (.slice none 0 0) [] := ⟨rfl, .inl ⟨rfl, rfl⟩⟩
theorem ow_below {w w1 w2 : World} {B : Nat} {v : Value} {out : List UInt8} {o : Obj} (h : Below w.heap.size w w1) (ho : Ow w1 B v out) (hB : w.heap.size ≤ B) (hg : (w1.alloc o).grownBy w2 v.ownBlock) : Below w.heap.size w w2 :=
  (h.alloc h.size _).grown hg (by rw [World.size_alloc]; have := h.size; omega) (fun k e => by have := (World.ownsRow.lt ho k e).1; omega)
set_option maxRecDepth 100000 in
set_option maxHeartbeats 2000000 in
/-- The loop of the reference's Value, over a struct that lies in a box. -/
theorem rvalue_yes (K : Int) (hK : K = 2 ∨ K = 3) (T : ByteArray) (hT : T.size ≤ 4000000) (h2 : 2 ≤ T.size) (w : World) :
    Calls Tryz.prog 111 #[.agg #[.int .i64 K, .string T]] w fun e w' => e = .returned (.string (strL (unescS false (T.data.toList.drop 1).dropLast))) ∧ Below w.heap.size w w' := by
  obtain ⟨R, hR⟩ : ∃ R, unescS false (T.data.toList.drop 1).dropLast = R := ⟨_, rfl⟩
  rw [hR]
  have h2' : ¬ (T.size : Int) < 2 := by omega
  have F0 : IntKind.i64.wrap ((T.size : Int) - 1) = (T.size : Int) - 1 := by rw [IntKind.wrap_i64]; omega
  have R1 : ∀ W : World, (Instr.slice 9 (.string T) (some (.int .i64 1)) (some (.int .i64 ((T.size : Int) - 1))) none).run Tryz.prog W = .ok (.string (T.extract 1 (T.size - 1))) W := run_slice_str T 1 (T.size - 1) ((T.size : Int) - 1) (by omega) (by omega) (by omega)
  rw [inner_is T h2] at R1
  obtain ⟨I, hI⟩ : ∃ I, strL (T.data.toList.drop 1).dropLast = I := ⟨_, rfl⟩
  rw [hI] at R1
  have hRI : unescS false I.data.toList = R := by rw [← hI]; exact hR
  have hIz : I.size ≤ 4000000 := by rw [← hI, strL_size, List.length_dropLast, List.length_drop, ← size_list]; omega
  obtain ⟨n, hn⟩ : ∃ n, I.size = n := ⟨_, rfl⟩
  rw [hn] at hIz
  have HN := Lib.hid hn
  have HL := Lib.hid (size_list I)
  have HR := Lib.hid hRI
  have HK := Lib.hid hK
  have HW := Lib.hid (show Below w.heap.size w (w.alloc (.cells #[.int .i64 K, .string T] 89)) from (Below.refl _ w).alloc (Nat.le_refl _) _)
  clear hR hRI hI hn h2 hT hK
  have key : ∀ K', K = K' → (K' = 2 ∨ K' = 3) → Calls Tryz.prog 111 #[.agg #[.int .i64 K', .string T]] w fun e w' => e = .returned (.string (strL R)) ∧ Below w.heap.size w w' := by
    intro K' hKK hK'
    rcases hK' with rfl | rfl
    · go_enter Tryz.func111, Tryz.ntmps111
      go_wp2_with fail
      go_loopw [4, 5] (fun o i wr => ∃ (k m : Nat) (O : List UInt8), k ≤ n + 1 ∧ m ≤ k ∧ i = .int .i64 k ∧ (∃ a c, o = .slice a m c) ∧ Hid (O.length = m) ∧ Hid (O ++ unescS false (I.data.toList.drop k) = R) ∧ Hid (Ow wr w.heap.size o O) ∧ Hid (Below w.heap.size w wr)) (fun _ i _ => n + 1 - (intOf i).toNat)
      case atStart => exact ⟨0, 0, [], by omega, Nat.le_refl _, rfl, ⟨none, 0, rfl⟩, rfl, HR, ow_nil _ _, by rw [hKK] at HW; exact HW⟩
      case round =>
        obtain ⟨k, m, O, hk, hmk, rfl, ⟨a, c0, rfl⟩, hm, HE, ho, hb⟩ := hrel
        have F1 : IntKind.i64.wrap ((k : Int) + 1) = (k : Int) + 1 := by rw [IntKind.wrap_i64]; omega
        have F2 : IntKind.i64.wrap ((k : Int) + 1 + 1) = (k : Int) + 1 + 1 := by rw [IntKind.wrap_i64]; omega
        have hn : I.size = n := HN.out
        by_cases hlt : k < n
        · have hlt' : (k : Int) < (n : Int) := by omega
          obtain ⟨c, x, hc, hx, hx2, S1⟩ := run_byte I k (by rw [hn]; exact hlt)
          have e92 := byte_is c x hx 92 (by decide)
          have e10 := byte_is c x hx 10 (by decide)
          have e13 := byte_is c x hx 13 (by decide)
          rw [show ((92 : Nat) : Int) = 92 from rfl] at e92
          rw [show ((10 : Nat) : Int) = 10 from rfl] at e10
          rw [show ((13 : Nat) : Int) = 13 from rfl] at e13
          by_cases h92 : c = 92
          · rw [show decide (c = UInt8.ofNat 92) = true from decide_eq_true h92] at e92
            rw [h92] at hc
            by_cases hl2 : k + 1 < n
            · have hl2' : (k : Int) + 1 < (n : Int) := by omega
              obtain ⟨d, y, hd, hy, hy2, S2⟩ := run_byte I (k + 1) (by rw [hn]; exact hl2)
              rw [show ((k + 1 : Nat) : Int) = (k : Int) + 1 from by omega] at S2
              have HE2 := Lib.hid (show (O ++ [d]) ++ unescS false (I.data.toList.drop (k + 2)) = R by rw [← HE.out, un_esc1 _ k d hc hd, List.append_assoc]; rfl)
              have HY : Hid ((d.toNat : Int) = (y : Int)) := by show _ = _; rw [hy]
              clear h92 hc hx hx2 HE hd hy hy2 e10 e13
              go_wp2_with (at_builtin; refine wpList_byte rfl (.tmp 45) (.tmp 49) rfl w.heap.size d _ HY.out rfl rfl ho.out hm.out hb.out.size (by omega) ?_; intro a2 c2 w2 h2 g2; replace h2 := Lib.hid h2; replace g2 := Lib.hid g2)
              go_roundw
              case rel => exact ⟨k + 2, m + 1, O ++ [d], by omega, by omega, by go_num, ⟨a2, c2, rfl⟩, Lib.hid (by rw [List.length_append, hm.out]; rfl), HE2, h2, ow_below hb.out ho.out (Nat.le_refl _) g2.out⟩
              case measure => simp [intOf]; omega
            · have hl2' : ¬ (k : Int) + 1 < (n : Int) := by omega
              have HE2 := Lib.hid ((congrArg (O ++ ·) (un_esc0 _ k hc (by rw [← HL.out, hn]; omega))).symm.trans HE.out)
              clear h92 hc hx hx2 HE e10 e13
              go_wp2_with fail
              go_roundw
              case rel => exact ⟨k + 2, m, O, by omega, by omega, by go_num, ⟨a, c0, rfl⟩, hm, HE2, ho, hb⟩
              case measure => simp [intOf]; omega
          · rw [show decide (c = UInt8.ofNat 92) = false from decide_eq_false h92] at e92
            by_cases h10 : c = 10
            · rw [show decide (c = UInt8.ofNat 10) = true from decide_eq_true h10] at e10
              have n10 : ((x : Int) != 10) = false := by rw [bne, e10]; rfl
              have HE2 := Lib.hid ((congrArg (O ++ ·) (un_break _ k c hc (.inl h10))).symm.trans HE.out)
              clear h92 h10 hc hx hx2 HE e13 e10
              go_wp2_with fail
              go_roundw
              case rel => exact ⟨k + 1, m, O, by omega, by omega, by go_num, ⟨a, c0, rfl⟩, hm, HE2, ho, hb⟩
              case measure => simp [intOf]; omega
            · rw [show decide (c = UInt8.ofNat 10) = false from decide_eq_false h10] at e10
              have n10 : ((x : Int) != 10) = true := by rw [bne, e10]; rfl
              by_cases h13 : c = 13
              · rw [show decide (c = UInt8.ofNat 13) = true from decide_eq_true h13] at e13
                have n13 : ((x : Int) != 13) = false := by rw [bne, e13]; rfl
                have HE2 := Lib.hid ((congrArg (O ++ ·) (un_break _ k c hc (.inr h13))).symm.trans HE.out)
                clear h92 h10 h13 hc hx hx2 HE e13 e10
                go_wp2_with fail
                go_roundw
                case rel => exact ⟨k + 1, m, O, by omega, by omega, by go_num, ⟨a, c0, rfl⟩, hm, HE2, ho, hb⟩
                case measure => simp [intOf]; omega
              · rw [show decide (c = UInt8.ofNat 13) = false from decide_eq_false h13] at e13
                have n13 : ((x : Int) != 13) = true := by rw [bne, e13]; rfl
                have HE2 := Lib.hid (show (O ++ [c]) ++ unescS false (I.data.toList.drop (k + 1)) = R by rw [← HE.out, un_plain _ k c hc h92 (fun e => e.elim h10 h13), List.append_assoc]; rfl)
                have HY : Hid ((c.toNat : Int) = (x : Int)) := by show _ = _; rw [hx]
                clear h92 h10 h13 hc hx hx2 HE e13 e10
                go_wp2_with (at_builtin; refine wpList_byte rfl (.tmp 61) (.tmp 65) rfl w.heap.size c _ HY.out rfl rfl ho.out hm.out hb.out.size (by omega) ?_; intro a2 c2 w2 h2 g2; replace h2 := Lib.hid h2; replace g2 := Lib.hid g2)
                go_roundw
                case rel => exact ⟨k + 1, m + 1, O ++ [c], by omega, by omega, by go_num, ⟨a2, c2, rfl⟩, Lib.hid (by rw [List.length_append, hm.out]; rfl), HE2, h2, ow_below hb.out ho.out (Nat.le_refl _) g2.out⟩
                case measure => simp [intOf]; omega
        · have hlt' : ¬ (k : Int) < (n : Int) := by omega
          have he : O = R := by
            have h := HE.out
            rw [List.drop_eq_nil_of_le (by rw [← HL.out, hn]; omega), unescS, List.append_nil] at h
            exact h
          subst he
          have hcv := conv_own hm.out (by have h := ho.out; unfold Ow at h; rw [hm.out] at h; exact h)
          clear HE
          go_wp2_with fail
          go_ret
          exact ⟨rfl, hb.out⟩
    · go_enter Tryz.func111, Tryz.ntmps111
      go_wp2_with fail
      go_loopw [4, 5] (fun o i wr => ∃ (k m : Nat) (O : List UInt8), k ≤ n + 1 ∧ m ≤ k ∧ i = .int .i64 k ∧ (∃ a c, o = .slice a m c) ∧ Hid (O.length = m) ∧ Hid (O ++ unescS false (I.data.toList.drop k) = R) ∧ Hid (Ow wr w.heap.size o O) ∧ Hid (Below w.heap.size w wr)) (fun _ i _ => n + 1 - (intOf i).toNat)
      case atStart => exact ⟨0, 0, [], by omega, Nat.le_refl _, rfl, ⟨none, 0, rfl⟩, rfl, HR, ow_nil _ _, by rw [hKK] at HW; exact HW⟩
      case round =>
        obtain ⟨k, m, O, hk, hmk, rfl, ⟨a, c0, rfl⟩, hm, HE, ho, hb⟩ := hrel
        have F1 : IntKind.i64.wrap ((k : Int) + 1) = (k : Int) + 1 := by rw [IntKind.wrap_i64]; omega
        have F2 : IntKind.i64.wrap ((k : Int) + 1 + 1) = (k : Int) + 1 + 1 := by rw [IntKind.wrap_i64]; omega
        have hn : I.size = n := HN.out
        by_cases hlt : k < n
        · have hlt' : (k : Int) < (n : Int) := by omega
          obtain ⟨c, x, hc, hx, hx2, S1⟩ := run_byte I k (by rw [hn]; exact hlt)
          have e92 := byte_is c x hx 92 (by decide)
          have e10 := byte_is c x hx 10 (by decide)
          have e13 := byte_is c x hx 13 (by decide)
          rw [show ((92 : Nat) : Int) = 92 from rfl] at e92
          rw [show ((10 : Nat) : Int) = 10 from rfl] at e10
          rw [show ((13 : Nat) : Int) = 13 from rfl] at e13
          by_cases h92 : c = 92
          · rw [show decide (c = UInt8.ofNat 92) = true from decide_eq_true h92] at e92
            rw [h92] at hc
            by_cases hl2 : k + 1 < n
            · have hl2' : (k : Int) + 1 < (n : Int) := by omega
              obtain ⟨d, y, hd, hy, hy2, S2⟩ := run_byte I (k + 1) (by rw [hn]; exact hl2)
              rw [show ((k + 1 : Nat) : Int) = (k : Int) + 1 from by omega] at S2
              have HE2 := Lib.hid (show (O ++ [d]) ++ unescS false (I.data.toList.drop (k + 2)) = R by rw [← HE.out, un_esc1 _ k d hc hd, List.append_assoc]; rfl)
              have HY : Hid ((d.toNat : Int) = (y : Int)) := by show _ = _; rw [hy]
              clear h92 hc hx hx2 HE hd hy hy2 e10 e13
              go_wp2_with (at_builtin; refine wpList_byte rfl (.tmp 45) (.tmp 49) rfl w.heap.size d _ HY.out rfl rfl ho.out hm.out hb.out.size (by omega) ?_; intro a2 c2 w2 h2 g2; replace h2 := Lib.hid h2; replace g2 := Lib.hid g2)
              go_roundw
              case rel => exact ⟨k + 2, m + 1, O ++ [d], by omega, by omega, by go_num, ⟨a2, c2, rfl⟩, Lib.hid (by rw [List.length_append, hm.out]; rfl), HE2, h2, ow_below hb.out ho.out (Nat.le_refl _) g2.out⟩
              case measure => simp [intOf]; omega
            · have hl2' : ¬ (k : Int) + 1 < (n : Int) := by omega
              have HE2 := Lib.hid ((congrArg (O ++ ·) (un_esc0 _ k hc (by rw [← HL.out, hn]; omega))).symm.trans HE.out)
              clear h92 hc hx hx2 HE e10 e13
              go_wp2_with fail
              go_roundw
              case rel => exact ⟨k + 2, m, O, by omega, by omega, by go_num, ⟨a, c0, rfl⟩, hm, HE2, ho, hb⟩
              case measure => simp [intOf]; omega
          · rw [show decide (c = UInt8.ofNat 92) = false from decide_eq_false h92] at e92
            by_cases h10 : c = 10
            · rw [show decide (c = UInt8.ofNat 10) = true from decide_eq_true h10] at e10
              have n10 : ((x : Int) != 10) = false := by rw [bne, e10]; rfl
              have HE2 := Lib.hid ((congrArg (O ++ ·) (un_break _ k c hc (.inl h10))).symm.trans HE.out)
              clear h92 h10 hc hx hx2 HE e13 e10
              go_wp2_with fail
              go_roundw
              case rel => exact ⟨k + 1, m, O, by omega, by omega, by go_num, ⟨a, c0, rfl⟩, hm, HE2, ho, hb⟩
              case measure => simp [intOf]; omega
            · rw [show decide (c = UInt8.ofNat 10) = false from decide_eq_false h10] at e10
              have n10 : ((x : Int) != 10) = true := by rw [bne, e10]; rfl
              by_cases h13 : c = 13
              · rw [show decide (c = UInt8.ofNat 13) = true from decide_eq_true h13] at e13
                have n13 : ((x : Int) != 13) = false := by rw [bne, e13]; rfl
                have HE2 := Lib.hid ((congrArg (O ++ ·) (un_break _ k c hc (.inr h13))).symm.trans HE.out)
                clear h92 h10 h13 hc hx hx2 HE e13 e10
                go_wp2_with fail
                go_roundw
                case rel => exact ⟨k + 1, m, O, by omega, by omega, by go_num, ⟨a, c0, rfl⟩, hm, HE2, ho, hb⟩
                case measure => simp [intOf]; omega
              · rw [show decide (c = UInt8.ofNat 13) = false from decide_eq_false h13] at e13
                have n13 : ((x : Int) != 13) = true := by rw [bne, e13]; rfl
                have HE2 := Lib.hid (show (O ++ [c]) ++ unescS false (I.data.toList.drop (k + 1)) = R by rw [← HE.out, un_plain _ k c hc h92 (fun e => e.elim h10 h13), List.append_assoc]; rfl)
                have HY : Hid ((c.toNat : Int) = (x : Int)) := by show _ = _; rw [hx]
                clear h92 h10 h13 hc hx hx2 HE e13 e10
                go_wp2_with (at_builtin; refine wpList_byte rfl (.tmp 61) (.tmp 65) rfl w.heap.size c _ HY.out rfl rfl ho.out hm.out hb.out.size (by omega) ?_; intro a2 c2 w2 h2 g2; replace h2 := Lib.hid h2; replace g2 := Lib.hid g2)
                go_roundw
                case rel => exact ⟨k + 1, m + 1, O ++ [c], by omega, by omega, by go_num, ⟨a2, c2, rfl⟩, Lib.hid (by rw [List.length_append, hm.out]; rfl), HE2, h2, ow_below hb.out ho.out (Nat.le_refl _) g2.out⟩
                case measure => simp [intOf]; omega
        · have hlt' : ¬ (k : Int) < (n : Int) := by omega
          have he : O = R := by
            have h := HE.out
            rw [List.drop_eq_nil_of_le (by rw [← HL.out, hn]; omega), unescS, List.append_nil] at h
            exact h
          subst he
          have hcv := conv_own hm.out (by have h := ho.out; unfold Ow at h; rw [hm.out] at h; exact h)
          clear HE
          go_wp2_with fail
          go_ret
          exact ⟨rfl, hb.out⟩
  exact key K rfl HK.out
set_option maxHeartbeats 1000000 in
theorem rvalue_any (K : Int) (T : ByteArray) (hT : T.size ≤ 4000000) (w : World) :
    Calls Tryz.prog 111 #[.agg #[.int .i64 K, .string T]] w fun e w' => e = .returned (.string (strL (valueI K T.data.toList))) ∧ Below w.heap.size w w' := by
  have hsz := size_list T
  have HW := Lib.hid (show Below w.heap.size w (w.alloc (.cells #[.int .i64 K, .string T] 89)) from (Below.refl _ w).alloc (Nat.le_refl _) _)
  by_cases hk : K = 2 ∨ K = 3
  · by_cases h2 : 2 ≤ T.size
    · rw [value_yes K _ hk (by rw [← hsz]; exact h2)]
      exact rvalue_yes K hk T hT h2 w
    · have h2' : (T.size : Int) < 2 := by omega
      rw [value_no K _ (fun e => h2 (by rw [hsz]; exact e.2)), strL_of]
      clear hsz h2
      rcases hk with rfl | rfl
      · go_enter Tryz.func111, Tryz.ntmps111
        go_wp2_with fail
        go_ret
        exact ⟨rfl, HW.out⟩
      · go_enter Tryz.func111, Tryz.ntmps111
        go_wp2_with fail
        go_ret
        exact ⟨rfl, HW.out⟩
  · have g2 : (K != 2) = true := by rw [bne_iff_ne]; exact fun e => hk (.inl e)
    have g3 : (K != 3) = true := by rw [bne_iff_ne]; exact fun e => hk (.inr e)
    have n2 : ¬ K = 2 := fun e => hk (.inl e)
    have n3 : ¬ K = 3 := fun e => hk (.inr e)
    rw [value_no K _ (fun e => hk e.1), strL_of]
    clear hsz hk
    go_enter Tryz.func111, Tryz.ntmps111
    go_wp2_with fail
    go_ret
    exact ⟨rfl, HW.out⟩
end Go.Proofs.YtdinachiiimngaaGreatDoor
namespace Go.Proofs.YtdinachiiimngaaGreatDoor
open Go.ChangeShapes Go.WideShapes Go.ChangeAt Go.RowKit
open TokP AdrP CtP

theorem low_in (c : UInt8) (x : Nat) (hx : c.toNat = x) (h : 65 ≤ x ∧ x ≤ 90) : ((lowA c).toNat : Int) = (x : Int) + 32 := by
  unfold lowA
  rw [hx, if_pos h]
  have : (c + 32).toNat = x + 32 := by
    rw [UInt8.toNat_add, hx]
    show (x + 32) % 256 = x + 32
    omega
  rw [this]
  omega
theorem low_out (c : UInt8) (x : Nat) (hx : c.toNat = x) (h : ¬ (65 ≤ x ∧ x ≤ 90)) : ((lowA c).toNat : Int) = (x : Int) := by
  unfold lowA
  rw [hx, if_neg h, hx]
set_option maxRecDepth 100000 in
set_option maxHeartbeats 2000000 in
theorem rsmall_any (s : ByteArray) (hs : s.size ≤ 4000000) (w : World) :
    Calls Tryz.prog 39 #[.string s] w fun e w' => e = .returned (.string (strL (s.data.toList.map lowA))) ∧ Below w.heap.size w w' := by
  obtain ⟨n, hn⟩ : ∃ n, s.size = n := ⟨_, rfl⟩
  have HN := Lib.hid hn
  have HL := Lib.hid (size_list s)
  rw [hn] at hs
  clear hn
  go_enter Tryz.func39, Tryz.ntmps39
  go_wp2_with fail
  go_loopw [3, 4] (fun o i wr => ∃ k : Nat, k ≤ n ∧ i = .int .i64 k ∧ (∃ a c, o = .slice a k c) ∧ Hid (((s.data.toList.take k).map lowA).length = k) ∧ Hid (Ow wr w.heap.size o ((s.data.toList.take k).map lowA)) ∧ Hid (Below w.heap.size w wr)) (fun _ i _ => n - (intOf i).toNat)
  case atStart => exact ⟨0, Nat.zero_le _, rfl, ⟨none, 0, rfl⟩, rfl, ow_nil _ _, Below.refl _ _⟩
  case round =>
    obtain ⟨k, hk, rfl, ⟨a, c0, rfl⟩, hm, ho, hb⟩ := hrel
    have F1 : IntKind.i64.wrap ((k : Int) + 1) = (k : Int) + 1 := by rw [IntKind.wrap_i64]; omega
    have hn : s.size = n := HN.out
    by_cases hlt : k < n
    · have hlt' : (k : Int) < (n : Int) := by omega
      obtain ⟨d, y, hd, hy, hy2, S1⟩ := run_byte s k (by rw [hn]; exact hlt)
      have HST := Lib.hid (show (s.data.toList.take (k + 1)).map lowA = (s.data.toList.take k).map lowA ++ [lowA d] by rw [List.take_add_one, hd, List.map_append]; rfl)
      have F2 : IntKind.u8.wrap ((y : Int) + 32) = ((y : Int) + 32) % 256 := by rw [IntKind.wrap_u8]
      by_cases h1 : 65 ≤ y
      · have g1 : (65 : Int) ≤ (y : Int) := by omega
        by_cases h2 : y ≤ 90
        · have g2 : (y : Int) ≤ 90 := by omega
          replace F2 : IntKind.u8.wrap ((y : Int) + 32) = (y : Int) + 32 := by rw [F2]; omega
          have HY := Lib.hid (low_in d y hy ⟨h1, h2⟩)
          clear hd hy
          go_wp2_with (at_builtin; refine wpList_byte rfl (.tmp 23) (.tmp 25) rfl w.heap.size (lowA d) _ HY.out rfl rfl ho.out hm.out hb.out.size (by omega) ?_; intro a2 c2 w2 h3 g3; replace h3 := Lib.hid h3; replace g3 := Lib.hid g3)
          go_roundw
          case rel => exact ⟨k + 1, by omega, by go_num, ⟨a2, c2, rfl⟩, Lib.hid (by rw [HST.out, List.length_append, hm.out]; rfl), Lib.hid (by rw [HST.out]; exact h3.out), ow_below hb.out ho.out (Nat.le_refl _) g3.out⟩
          case measure => simp [intOf]; omega
        · have g2 : ¬ (y : Int) ≤ 90 := by omega
          have HY := Lib.hid (low_out d y hy (fun h => h2 h.2))
          clear hd hy F2
          go_wp2_with (at_builtin; refine wpList_byte rfl (.tmp 23) (.tmp 25) rfl w.heap.size (lowA d) _ HY.out rfl rfl ho.out hm.out hb.out.size (by omega) ?_; intro a2 c2 w2 h3 g3; replace h3 := Lib.hid h3; replace g3 := Lib.hid g3)
          go_roundw
          case rel => exact ⟨k + 1, by omega, by go_num, ⟨a2, c2, rfl⟩, Lib.hid (by rw [HST.out, List.length_append, hm.out]; rfl), Lib.hid (by rw [HST.out]; exact h3.out), ow_below hb.out ho.out (Nat.le_refl _) g3.out⟩
          case measure => simp [intOf]; omega
      · have g1 : ¬ (65 : Int) ≤ (y : Int) := by omega
        have HY := Lib.hid (low_out d y hy (fun h => h1 h.1))
        clear hd hy F2
        go_wp2_with (at_builtin; refine wpList_byte rfl (.tmp 23) (.tmp 25) rfl w.heap.size (lowA d) _ HY.out rfl rfl ho.out hm.out hb.out.size (by omega) ?_; intro a2 c2 w2 h3 g3; replace h3 := Lib.hid h3; replace g3 := Lib.hid g3)
        go_roundw
        case rel => exact ⟨k + 1, by omega, by go_num, ⟨a2, c2, rfl⟩, Lib.hid (by rw [HST.out, List.length_append, hm.out]; rfl), Lib.hid (by rw [HST.out]; exact h3.out), ow_below hb.out ho.out (Nat.le_refl _) g3.out⟩
        case measure => simp [intOf]; omega
    · obtain rfl : k = n := by omega
      have hlt' : ¬ (k : Int) < (k : Int) := by omega
      have hT : s.data.toList.take k = s.data.toList := List.take_of_length_le (by rw [← HL.out, hn]; exact Nat.le_refl _)
      rw [hT] at hm ho
      have hcv := conv_own hm.out (by have h := ho.out; unfold Ow at h; rw [hm.out] at h; exact h)
      clear hT
      go_wp2_with fail
      go_ret
      exact ⟨rfl, hb.out⟩
end Go.Proofs.YtdinachiiimngaaGreatDoor
namespace Go.Proofs.YtdinachiiimngaaGreatDoor
open Go.ChangeShapes Go.WideShapes Go.ChangeAt Go.RowKit
open TokP AdrP CtP

theorem few_any (s : ByteArray) (w : World) : Calls Tryz.prog 9 #[.string s] w fun e w' => e = .returned (.bool (decide (s.data.toList.length ≤ 2000))) ∧ w = w' := by
  rw [← size_list]
  by_cases h : s.size ≤ 2000
  · have h' : (s.size : Int) ≤ 2000 := by omega
    rw [decide_eq_true h]
    go_enter Tryz.func9, Tryz.ntmps9
    go_wp2
    go_ret
    exact ⟨rfl, rfl⟩
  · have h' : ¬ (s.size : Int) ≤ 2000 := by omega
    rw [decide_eq_false h]
    go_enter Tryz.func9, Tryz.ntmps9
    go_wp2
    go_ret
    exact ⟨rfl, rfl⟩
/-- What named says. -/
def namedB (l : List UInt8) : Bool := decide (46 ∉ l) && (wordW l && decide (l.map lowA = l))
theorem named_dot {l : List UInt8} {k : Nat} {c : UInt8} (h : l[k]? = some c) (hc : c = 46) : namedB l = false := by
  subst hc
  unfold namedB
  rw [decide_eq_false (fun h2 => h2 (List.mem_of_getElem? h)), Bool.false_and]
set_option maxRecDepth 100000 in
set_option maxHeartbeats 2000000 in
theorem named_any (s : ByteArray) (hs : s.size ≤ 4000000) (w : World) :
    Calls Tryz.prog 49 #[.string s] w fun e w' => e = .returned (.bool (namedB s.data.toList)) ∧ Below w.heap.size w w' := by
  obtain ⟨n, hn⟩ : ∃ n, s.size = n := ⟨_, rfl⟩
  obtain ⟨R, hR⟩ : ∃ R, namedB s.data.toList = R := ⟨_, rfl⟩
  rw [hR]
  have HR := Lib.hid hR
  have HL := Lib.hid (size_list s)
  have HS := Lib.hid hs
  clear hR hs
  go_enter Tryz.func49, Tryz.ntmps49
  go_wp2
  go_loopw [3] (fun i wr => ∃ k : Nat, k ≤ n ∧ i = .int .i64 k ∧ Hid (w = wr) ∧ Hid (∀ (j : Nat) (c : UInt8), j < k → s.data.toList[j]? = some c → ¬ c = 46)) (fun i _ => n - (intOf i).toNat)
  case atStart => exact ⟨0, Nat.zero_le _, rfl, Lib.hid rfl, Lib.hid (fun j c h => absurd h (Nat.not_lt_zero _))⟩
  case round =>
    obtain ⟨k, hk, rfl, HW, HF⟩ := hrel
    have F1 : IntKind.i64.wrap ((k : Int) + 1) = (k : Int) + 1 := by rw [IntKind.wrap_i64]; have := HS.out; omega
    by_cases hlt : k < n
    · have hlt' : (k : Int) < (n : Int) := by omega
      obtain ⟨c, x, hc, hx, hx2, S1⟩ := run_byte s k (by rw [hn]; exact hlt)
      by_cases h46 : c = 46
      · obtain rfl : x = 46 := by rw [← hx, h46]; rfl
        obtain rfl : false = R := by rw [← HR.out]; exact (named_dot hc h46).symm
        clear hc hx hx2 h46 HR
        go_wp2
        go_ret
        exact ⟨rfl, HW.out ▸ Below.refl _ _⟩
      · have hx' : ¬ (x : Int) = 46 := fun e => h46 (UInt8.toNat_inj.1 (by rw [hx]; show x = 46; omega))
        have HF2 := Lib.hid (fun (j : Nat) (d : UInt8) (hj : j < k + 1) (hd : s.data.toList[j]? = some d) => show ¬ d = 46 by
          rcases (show j < k ∨ j = k by omega) with h | rfl
          · exact HF.out j d h hd
          · rw [hc] at hd; rw [← Option.some.inj hd]; exact h46)
        clear hc hx h46
        go_wp2
        go_roundw
        case rel => exact ⟨k + 1, by omega, by go_num, HW, HF2⟩
        case measure => simp [intOf]; omega
    · have hlt' : ¬ (k : Int) < (n : Int) := by omega
      have hdot : 46 ∉ s.data.toList := fun hm => by
        obtain ⟨j, hj⟩ := List.getElem?_of_mem hm
        have := (List.getElem?_eq_some_iff.1 hj).1
        exact HF.out j 46 (by have := HL.out; omega) hj rfl
      have hRR : (wordW s.data.toList && decide (s.data.toList.map lowA = s.data.toList)) = R := by
        rw [← HR.out]; unfold namedB; rw [decide_eq_true hdot, Bool.true_and]
      have cW := fun W => rword_any s (by have := HS.out; omega) W
      have cS := fun W => rsmall_any s HS.out W
      have heq := eq_strL (s.data.toList.map lowA) s.data.toList
      rw [strL_of] at heq
      cases hw : wordW s.data.toList with
      | false =>
        rw [hw] at cW hRR
        rw [Bool.false_and] at hRR
        subst hRR
        clear heq cS hw hdot HR
        go_wp2_with (go_at_call 38; (with_reducible refine (cW _).mono ?_); rintro e w2 ⟨rfl, rfl⟩)
        go_ret
        exact ⟨rfl, HW.out ▸ Below.refl _ _⟩
      | true =>
        rw [hw] at cW hRR
        rw [Bool.true_and] at hRR
        rw [hRR] at heq
        generalize strL (s.data.toList.map lowA) = X at cS heq
        clear hw hdot HR hRR
        go_wp2_with (first
          | (go_at_call 38; (with_reducible refine (cW _).mono ?_); rintro e w2 ⟨rfl, rfl⟩)
          | (go_at_call 39; (with_reducible refine (cS _).mono ?_); rintro e w3 ⟨rfl, hb3⟩; have HB3 := Lib.hid hb3; clear hb3 cS))
        go_ret
        exact ⟨rfl, HW.out ▸ HB3.out⟩
end Go.Proofs.YtdinachiiimngaaGreatDoor
namespace Go.Proofs.YtdinachiiimngaaGreatDoor
open Go

variable {P : Program} {ops : Array Oper} {Q : Exit → Act → World → Prop} {md : Region.Mode} {S : World → Prop}
theorem at_drop {i : Nat} {oi : Oper} {tl : List Oper} (h : ops.toList.drop i = oi :: tl) : ops[i]? = some oi := by
  have h2 := congrArg (·[0]?) h
  simpa using h2
/-- An operation that yields v in every world that meets S is taken first. -/
theorem held_take {i : Nat} {oi : Oper} {tl : List Oper} (v : Value) {fuel : Nat} {listed : Array Bool} {a : Act} {w : World} (hi : ops.toList.drop i = oi :: tl)
    (hs : Region.noSelect ops = true) (hf : Region.free md ops listed i = true) (hr : (Region.ready md ops listed).contains i = true)
    (hw : Region.wanted oi (yielded ops a.tmps) = true)
    (hv : ∀ w, S w → (execOp a.eval oi).run P w = .ok (.value v) w) (hS : S w)
    (h : wpAnyH P md ops (NoPanic Q) S fuel (listed.setIfInBounds i true) (a.put oi.dst v) w) : wpAnyH P md ops (NoPanic Q) S (fuel + 1) listed a w :=
  wpAnyH_take (at_drop hi) hs hf hr (fun _ _ _ h => (h : False).elim) (Or.inl ⟨hw, hv⟩) hS h
/-- An operation that is guarded away. -/
theorem held_skip {i : Nat} {oi : Oper} {tl : List Oper} {fuel : Nat} {listed : Array Bool} {a : Act} {w : World} (hi : ops.toList.drop i = oi :: tl)
    (hs : Region.noSelect ops = true) (hf : Region.free md ops listed i = true) (hr : (Region.ready md ops listed).contains i = true)
    (hw : Region.wanted oi (yielded ops a.tmps) = false) (hS : S w)
    (h : wpAnyH P md ops (NoPanic Q) S fuel (listed.setIfInBounds i true) (a.put oi.dst undef) w) : wpAnyH P md ops (NoPanic Q) S (fuel + 1) listed a w :=
  wpAnyH_take (at_drop hi) hs hf hr (fun _ _ _ h => (h : False).elim) (Or.inr ⟨hw, rfl⟩) hS h
/-- A load of a whole array. -/
theorem held_load {i : Nat} {oi : Oper} {tl : List Oper} (g : Nat) (cs : List Value) {fuel : Nat} {listed : Array Bool} {a : Act} {w : World} (hi : ops.toList.drop i = oi :: tl)
    (hs : Region.noSelect ops = true) (hf : Region.free md ops listed i = true) (hr : (Region.ready md ops listed).contains i = true)
    (hw : Region.wanted oi (yielded ops a.tmps) = true)
    {ty : TypeId} {x : Operand} (ho : oi.op = .load ty x) (hx : a.eval x = .pointer (some ⟨g, 0, none⟩))
    {d : TypeDesc} (hu : P.underlying ty = some d) (hd : d.isRow = true) (hz : (P.info? ty).map (·.size) = some cs.length) (hc : ∀ w, S w → w.rangeAt g 0 cs) (hS : S w)
    (h : wpAnyH P md ops (NoPanic Q) S fuel (listed.setIfInBounds i true) (a.put oi.dst (.agg cs.toArray)) w) : wpAnyH P md ops (NoPanic Q) S (fuel + 1) listed a w :=
  wpAnyH_take (at_drop hi) hs hf hr (fun _ _ _ h => (h : False).elim) (yieldsIf_load_mid hw ty x ho g 0 hx cs d hc hu hd hz) hS h
/-- The one operation that may come up is called. -/
theorem held_step {i : Nat} {oi : Oper} {tl : List Oper} (v : Value) {fuel : Nat} {listed : Array Bool} {a : Act} {w : World} (hi : ops.toList.drop i = oi :: tl)
    (hr : Region.ready md ops listed = [i]) (hw : Region.wanted oi (yielded ops a.tmps) = true)
    (hv : ∀ K : Act → World → Prop, (∀ w', S w' → K (a.put oi.dst v) w') → Oper.wp P oi a w K (NoPanic Q))
    (h : ∀ w', S w' → wpAnyH P md ops (NoPanic Q) S fuel (listed.setIfInBounds i true) (a.put oi.dst v) w') : wpAnyH P md ops (NoPanic Q) S (fuel + 1) listed a w := by
  refine wpAnyH_ready hr (by simp) (AllReadyH.cons (at_drop hi) (fun K hK => ?_) AllReadyH.nil)
  rw [if_pos hw]
  exact hv K (fun w' hS => hK.out _ _ hS (fun hS => h w' hS))
/-- The one operation that may come up goes from this world to that. -/
theorem held_goes {i : Nat} {oi : Oper} {tl : List Oper} {fuel : Nat} {listed : Array Bool} {a : Act} {w : World} (v : Value) (w1 : World) (hi : ops.toList.drop i = oi :: tl)
    (hr : Region.ready md ops listed = [i]) (hw : Region.wanted oi (yielded ops a.tmps) = true)
    (hv : ∀ K : Act → World → Prop, K (a.put oi.dst v) w1 → Oper.wp P oi a w K (NoPanic Q)) (hS : S w1)
    (h : wpAnyH P md ops (NoPanic Q) S fuel (listed.setIfInBounds i true) (a.put oi.dst v) w1) : wpAnyH P md ops (NoPanic Q) S (fuel + 1) listed a w := by
  refine wpAnyH_ready hr (by simp) (AllReadyH.cons (at_drop hi) (fun K hK => ?_) AllReadyH.nil)
  rw [if_pos hw]
  exact hv K (hK.out _ _ hS (fun _ => h))
end Go.Proofs.YtdinachiiimngaaGreatDoor
namespace Go.Proofs.YtdinachiiimngaaGreatDoor
open Go.ChangeShapes Go.WideShapes Go.ChangeAt Go.RowKit
open TokP

/-- Up to byte i nothing has closed; d: the depth there. -/
def Cl (q : UInt8) (nest : Bool) (l : List UInt8) (i d : Nat) : Prop := 1 ≤ i ∧ closeS q nest false 0 (l.drop 1) = (closeS q nest false d (l.drop i)).map (· + (i - 1))
theorem cl_start (q : UInt8) (nest : Bool) (l : List UInt8) : Cl q nest l 1 0 := ⟨Nat.le_refl _, by simp⟩
theorem map_more (o : Option Nat) (i k : Nat) (h : 1 ≤ i) : (o.map (· + k)).map (· + (i - 1)) = o.map (· + (i + k - 1)) := by
  cases o with
  | none => rfl
  | some m => simp only [Option.map_some]; congr 1; omega
theorem cl_esc {q : UInt8} {nest : Bool} {l : List UInt8} {i d : Nat} (h : Cl q nest l i d) (hc : l[i]? = some 92) : Cl q nest l (i + 2) d := by
  refine ⟨by have := h.1; omega, ?_⟩
  rw [h.2, cons_at l i 92 hc, closeS, if_pos rfl]
  have key : closeS q nest true d (l.drop (i + 1)) = (closeS q nest false d (l.drop (i + 2))).map (· + 1) := by
    cases h2 : l.drop (i + 1) with
    | nil =>
      have : l.drop (i + 2) = [] := by
        rw [← List.drop_drop (i := 1) (j := i + 1), h2]; rfl
      rw [this, closeS, closeS]; rfl
    | cons x t =>
      have : l.drop (i + 2) = t := by
        rw [← List.drop_drop (i := 1) (j := i + 1), h2]; rfl
      rw [this, closeS]
  rw [key]
  have e : ∀ o : Option Nat, (o.map (· + 1)).map (· + 1) = o.map (· + 2) := by intro o; cases o <;> rfl
  rw [e, map_more _ _ _ h.1]
theorem cl_up {q : UInt8} {l : List UInt8} {i d : Nat} (h : Cl q true l i d) (hc : l[i]? = some 40) (hq : q ≠ 40) : Cl q true l (i + 1) (d + 1) := by
  refine ⟨by omega, ?_⟩
  rw [h.2, cons_at l i 40 hc, closeS, if_neg (by decide), if_neg (fun e => hq e.symm), if_pos ⟨rfl, rfl⟩, map_more _ _ _ h.1]
theorem cl_down {q : UInt8} {nest : Bool} {l : List UInt8} {i d : Nat} (h : Cl q nest l i (d + 1)) (hc : l[i]? = some q) (hq : q ≠ 92) : Cl q nest l (i + 1) d := by
  refine ⟨by omega, ?_⟩
  rw [h.2, cons_at l i q hc, closeS, if_neg hq, if_pos rfl, if_neg (by omega), map_more _ _ _ h.1]
  rfl
theorem cl_done {q : UInt8} {nest : Bool} {l : List UInt8} {i : Nat} (h : Cl q nest l i 0) (hc : l[i]? = some q) (hq : q ≠ 92) : closeS q nest false 0 (l.drop 1) = some i := by
  rw [h.2, cons_at l i q hc, closeS, if_neg hq, if_pos rfl, if_pos rfl]
  have := h.1
  show some (1 + (i - 1)) = _
  congr 1; omega
theorem cl_next {q : UInt8} {nest : Bool} {l : List UInt8} {i d : Nat} {c : UInt8} (h : Cl q nest l i d) (hc : l[i]? = some c) (h1 : c ≠ 92) (h2 : c ≠ q) (h3 : ¬ (nest = true ∧ c = 40)) : Cl q nest l (i + 1) d := by
  refine ⟨by omega, ?_⟩
  rw [h.2, cons_at l i c hc, closeS, if_neg h1, if_neg h2, if_neg h3, map_more _ _ _ h.1]
theorem cl_end {q : UInt8} {nest : Bool} {l : List UInt8} {i d : Nat} (h : Cl q nest l i d) (hl : l.length ≤ i) : closeS q nest false 0 (l.drop 1) = none := by
  rw [h.2, List.drop_eq_nil_of_le hl, closeS]; rfl
/-- What enclosed hands back. -/
def enclV (K : Int) (n : Nat) : Option Nat → Value
  | none => .tuple #[.int .i64 7, .int .i64 n]
  | some m => .tuple #[.int .i64 K, .int .i64 ((m : Int) + 1)]
set_option maxHeartbeats 2000000 in
theorem encl_any (s : ByteArray) (hs : s.size ≤ 4000000) (K : Int) (q : UInt8) (y : Nat) (nest : Bool) (hy : q.toNat = y) (hK : (K == 3) = nest) (hq : nest = true → q ≠ 40) (hq2 : q ≠ 92) (R : Option Nat) (hR : closeS q nest false 0 (s.data.toList.drop 1) = R) (w : World) :
    Calls Tryz.prog 138 #[.string s, .int .i64 K, .int .u8 y] w fun e w' => e = .returned (enclV K s.size R) ∧ w = w' := by
  obtain ⟨n, hn⟩ : ∃ n, s.size = n := ⟨_, rfl⟩
  have HL := Lib.hid (size_list s)
  rw [hn] at hs
  have HN := Lib.hid hn
  have HQ := Lib.hid hq
  have HQ2 := Lib.hid hq2
  have HY := Lib.hid hy
  have HK := Lib.hid hK
  have HR := Lib.hid hR
  clear hn hq hq2 hy hK hR
  go_enter Tryz.func138, Tryz.ntmps138
  go_wp2_with fail
  go_loopw [8, 9] (fun d i wr => ∃ (k e : Nat), k ≤ n + 1 ∧ e < k ∧ d = .int .i64 e ∧ i = .int .i64 k ∧ wr = w ∧ Hid (Cl q nest s.data.toList k e)) (fun _ i _ => n + 1 - (intOf i).toNat)
  case atStart => exact ⟨1, 0, by omega, by omega, rfl, rfl, rfl, cl_start _ _ _⟩
  case round =>
    obtain ⟨k, d, hk, hd, rfl, rfl, rfl, HC⟩ := hrel
    have F1 : IntKind.i64.wrap ((k : Int) + 1) = (k : Int) + 1 := by rw [IntKind.wrap_i64]; omega
    have F2 : IntKind.i64.wrap ((k : Int) + 1 + 1) = (k : Int) + 1 + 1 := by rw [IntKind.wrap_i64]; omega
    have F3 : IntKind.i64.wrap ((d : Int) + 1) = (d : Int) + 1 := by rw [IntKind.wrap_i64]; omega
    have hn : s.size = n := HN.out
    by_cases hlt : k < n
    · have hlt' : (k : Int) < (n : Int) := by omega
      obtain ⟨c, x, hc, hx, hx2, S1⟩ := run_byte s k (by rw [hn]; exact hlt)
      have e92 := byte_is c x hx 92 (by decide)
      have e40 := byte_is c x hx 40 (by decide)
      have eq := eq_byte c q x y hx HY.out
      rw [show ((92 : Nat) : Int) = 92 from rfl] at e92
      rw [show ((40 : Nat) : Int) = 40 from rfl] at e40
      clear hx hx2
      by_cases h92 : c = 92
      · rw [show decide (c = UInt8.ofNat 92) = true from decide_eq_true h92] at e92
        have HC2 := Lib.hid (cl_esc HC.out (by rw [hc, h92]))
        clear h92 e40 eq hc HC
        go_wp2_with fail
        go_roundw
        case rel => exact ⟨k + 2, d, by omega, by omega, rfl, by go_num, trivial, HC2⟩
        case measure => simp [intOf]; omega
      · rw [show decide (c = UInt8.ofNat 92) = false from decide_eq_false h92] at e92
        by_cases h40 : c = 40 ∧ nest = true
        · obtain ⟨h40, rfl⟩ := h40
          rw [show decide (c = UInt8.ofNat 40) = true from decide_eq_true h40] at e40
          have hK := HK.out
          have HC2 := Lib.hid (cl_up HC.out (by rw [hc, h40]) (HQ.out rfl))
          clear h92 h40 eq hc HC
          go_wp2_with fail
          go_roundw
          case rel => exact ⟨k + 1, d + 1, by omega, by omega, by go_num, by go_num, trivial, HC2⟩
          case measure => simp [intOf]; omega
        · by_cases hcq : c = q
          · rw [decide_eq_true hcq] at eq
            by_cases hd0 : d = 0
            · subst hd0
              have HC2 := Lib.hid (cl_done HC.out (by rw [hc, hcq]) HQ2.out)
              by_cases hc40 : c = 40
              · rw [show decide (c = UInt8.ofNat 40) = true from decide_eq_true hc40] at e40
                have hK := HK.out
                have hnest : nest = false := by
                  cases nest with
                  | false => rfl
                  | true => exact absurd ⟨hc40, rfl⟩ h40
                rw [hnest] at hK
                clear h92 h40 hcq hc40 hc HC hnest
                go_wp2_with fail
                go_ret2
                exact ⟨by rw [HR.out.symm.trans HC2.out]; rfl, rfl⟩
              · rw [show decide (c = UInt8.ofNat 40) = false from decide_eq_false hc40] at e40
                clear h92 h40 hcq hc40 hc HC
                go_wp2_with fail
                go_ret2
                exact ⟨by rw [HR.out.symm.trans HC2.out]; rfl, rfl⟩
            · obtain ⟨f, rfl⟩ : ∃ f, d = f + 1 := ⟨d - 1, by omega⟩
              have HC2 := Lib.hid (cl_down HC.out (by rw [hc, hcq]) HQ2.out)
              have F4 : IntKind.i64.wrap ((f : Int) + 1 - 1) = (f : Int) := by rw [IntKind.wrap_i64]; omega
              have F5 : IntKind.i64.wrap (f : Int) = (f : Int) := by rw [IntKind.wrap_i64]; omega
              have hf0 : (0 : Int) < (f : Int) + 1 := by omega
              have hf1 : (0 : Int) < ((f + 1 : Nat) : Int) := by omega
              by_cases hc40 : c = 40
              · rw [show decide (c = UInt8.ofNat 40) = true from decide_eq_true hc40] at e40
                have hK := HK.out
                have hnest : nest = false := by
                  cases nest with
                  | false => rfl
                  | true => exact absurd ⟨hc40, rfl⟩ h40
                rw [hnest] at hK
                clear h92 h40 hcq hc40 hc HC hnest F3 hd0
                go_wp2_with fail
                go_roundw
                case rel => exact ⟨k + 1, f, by omega, by omega, by go_num, by go_num, trivial, HC2⟩
                case measure => simp [intOf]; omega
              · rw [show decide (c = UInt8.ofNat 40) = false from decide_eq_false hc40] at e40
                clear h92 h40 hcq hc40 hc HC F3 hd0
                go_wp2_with fail
                go_roundw
                case rel => exact ⟨k + 1, f, by omega, by omega, by go_num, by go_num, trivial, HC2⟩
                case measure => simp [intOf]; omega
          · rw [decide_eq_false hcq] at eq
            have HC2 := Lib.hid (cl_next HC.out hc h92 hcq (fun e => h40 ⟨e.2, e.1⟩))
            by_cases hc40 : c = 40
            · rw [show decide (c = UInt8.ofNat 40) = true from decide_eq_true hc40] at e40
              have hK := HK.out
              have hnest : nest = false := by
                cases nest with
                | false => rfl
                | true => exact absurd ⟨hc40, rfl⟩ h40
              rw [hnest] at hK
              clear h92 h40 hcq hc40 hc HC hnest
              go_wp2_with fail
              go_roundw
              case rel => exact ⟨k + 1, d, by omega, by omega, rfl, by go_num, trivial, HC2⟩
              case measure => simp [intOf]; omega
            · rw [show decide (c = UInt8.ofNat 40) = false from decide_eq_false hc40] at e40
              clear h92 h40 hcq hc40 hc HC
              go_wp2_with fail
              go_roundw
              case rel => exact ⟨k + 1, d, by omega, by omega, rfl, by go_num, trivial, HC2⟩
              case measure => simp [intOf]; omega
    · have HC2 := Lib.hid (cl_end HC.out (by rw [← HL.out, hn]; omega))
      have hlt' : ¬ (k : Int) < (n : Int) := by omega
      clear HC
      go_wp2_with fail
      go_ret2
      exact ⟨by rw [HR.out.symm.trans HC2.out]; rfl, rfl⟩
end Go.Proofs.YtdinachiiimngaaGreatDoor
