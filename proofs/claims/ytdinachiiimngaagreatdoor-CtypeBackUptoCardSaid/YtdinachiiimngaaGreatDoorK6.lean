/- The reference's tests of bytes and strings: find, has, letter, Word, Text, Split, digit. Values and escapes, at a place of a list. Slices of bytes that a call has made; the reference's Value. The reference's Small: lower case. A strings.Builder that a call has made. A strings.Builder that has just been made. token.Join: the texts of the tokens in a row. The program's lower: a copy of the bytes is changed. unescaped: a text without its escapes and line breaks. A strings.Builder beside newer memory: what its methods leave as it was. -/
import Derived.Test.YtdinachiiimngaaGreatDoorK1
import Derived.Test.YtdinachiiimngaaGreatDoorK3
import Derived.RangeFuncRecord
import Derived.Lib.ConvBytes
import Derived.Lib.UnsafeStr
import Derived.Lib.AppendStr
import Derived.Laws.AppendOwn
import Derived.Maps.AppendAt
import Derived.Test.YtdinachiiimngaaGreatDoorK2
import Derived.BigCall
import Derived.Lib.LazyBuf
import Derived.Lib.OthersKept
namespace Go.Proofs.YtdinachiiimngaaGreatDoor
open Go.ChangeShapes Go.WideShapes Go.ChangeAt Go.RowKit
open TokP AdrP CtP

def findZ (c : UInt8) (s : List UInt8) : Int := if c ∈ s then ((upC c s).length : Int) else -1
theorem upC_len {c : UInt8} {s : List UInt8} {k : Nat} (hk : s[k]? = some c) (h : c ∉ s.take k) : findZ c s = k := by
  obtain ⟨h1, h2⟩ := List.getElem?_eq_some_iff.1 hk
  have e : s = s.take k ++ c :: s.drop (k + 1) := by rw [← h2, ← List.drop_eq_getElem_cons h1, List.take_append_drop]
  have hm : c ∈ s := List.mem_of_getElem? hk
  have hu : upC c s = s.take k := by
    unfold upC
    conv => lhs; rw [e]
    rw [List.takeWhile_append_of_pos (fun d hd => by simp; rintro rfl; exact h hd), List.takeWhile_cons_of_neg (by simp), List.append_nil]
  unfold findZ
  rw [if_pos hm, hu, List.length_take]
  omega
set_option maxHeartbeats 1000000 in
theorem rfind_any (s : ByteArray) (c : UInt8) (x : Nat) (hx : c.toNat = x) (hs : s.size ≤ 1000000000) (w : World) :
    Calls Tryz.prog 37 #[.string s, .int .u8 x] w fun e w' => e = .returned (.int .i64 (findZ c s.data.toList)) ∧ w = w' := by
  obtain ⟨n, hn⟩ : ∃ n, s.size = n := ⟨_, rfl⟩
  have HN := Lib.hid hn
  have HL := Lib.hid (size_list s)
  rw [hn] at hs
  have HX := Lib.hid hx
  obtain ⟨z, hz⟩ : ∃ z, findZ c s.data.toList = z := ⟨_, rfl⟩
  rw [hz]
  have HZ := Lib.hid hz
  clear hn hx hz
  go_enter Tryz.func37, Tryz.ntmps37
  go_wp2_with fail
  go_loopw [5] (fun i wr => ∃ k : Nat, k ≤ n ∧ i = .int .i64 k ∧ wr = w ∧ Hid (c ∉ s.data.toList.take k)) (fun i _ => n - (intOf i).toNat)
  case atStart => exact ⟨0, Nat.zero_le _, rfl, rfl, Lib.hid (by simp)⟩
  case round =>
    obtain ⟨k, hk, rfl, rfl, HF⟩ := hrel
    have F1 : IntKind.i64.wrap ((k : Int) + 1) = (k : Int) + 1 := by rw [IntKind.wrap_i64]; omega
    by_cases hlt : k < n
    · have hlt' : (k : Int) < (n : Int) := by omega
      have hn : s.size = n := HN.out
      obtain ⟨d, y, hd, hy, hy2, S1⟩ := run_byte s k (by rw [hn]; exact hlt)
      by_cases hcd : d = c
      · have e1 : ((y : Int) == (x : Int)) = true := beq_iff_eq.2 (by rw [← hy, hcd, HX.out])
        obtain rfl : (k : Int) = z := by rw [← HZ.out, upC_len (hcd ▸ hd) HF.out]
        clear hd hy hcd HF HZ
        go_wp2_with fail
        go_ret
        exact ⟨rfl, rfl⟩
      · have e1 : ((y : Int) == (x : Int)) = false := beq_eq_false_iff_ne.2 (fun e => hcd (UInt8.toNat_inj.1 (by rw [hy, HX.out]; omega)))
        have HF2 := Lib.hid (show c ∉ s.data.toList.take (k + 1) by
          rw [List.take_add_one, hd, List.mem_append]
          rintro (h | h)
          · exact HF.out h
          · simp at h; exact hcd h.symm)
        clear hd hy hcd HF
        go_wp2_with fail
        go_roundw
        case rel => exact ⟨k + 1, by omega, by go_num, trivial, HF2⟩
        case measure => simp [intOf]; omega
    · obtain rfl : k = n := by omega
      have hlt' : ¬ (k : Int) < (k : Int) := by omega
      have hno := HF.out
      rw [List.take_of_length_le (by rw [← HL.out, HN.out]; exact Nat.le_refl _)] at hno
      obtain rfl : -1 = z := by rw [← HZ.out]; unfold findZ; rw [if_neg hno]
      have hn : s.size = k := HN.out
      clear HF hno HZ
      go_wp2_with fail
      go_ret
      exact ⟨rfl, rfl⟩
theorem findZ_has (c : UInt8) (s : List UInt8) : decide (0 ≤ findZ c s) = s.contains c := by
  unfold findZ
  by_cases h : c ∈ s
  · rw [if_pos h, decide_eq_true (by omega)]
    exact (List.contains_iff_mem.2 h).symm
  · rw [if_neg h]
    have : s.contains c = false := by rw [← Bool.not_eq_true, List.contains_iff_mem]; exact h
    rw [this]; rfl
theorem rhas_any (s : ByteArray) (c : UInt8) (x : Nat) (hx : c.toNat = x) (hs : s.size ≤ 1000000000) (w : World) :
    Calls Tryz.prog 46 #[.string s, .int .u8 x] w fun e w' => e = .returned (.bool (s.data.toList.contains c)) ∧ w = w' := by
  have cF := rfind_any s c x hx hs w
  have hh := findZ_has c s.data.toList
  generalize findZ c s.data.toList = z at cF hh
  generalize s.data.toList.contains c = r at hh ⊢
  clear hs hx
  by_cases hz : 0 ≤ z
  · rw [decide_eq_true hz] at hh
    subst hh
    go_enter Tryz.func46, Tryz.ntmps46
    go_wp2_with (go_at_call 37; (with_reducible refine cF.mono ?_); rintro e w2 ⟨rfl, rfl⟩)
    go_ret
    simp
  · rw [decide_eq_false hz] at hh
    subst hh
    go_enter Tryz.func46, Tryz.ntmps46
    go_wp2_with (go_at_call 37; (with_reducible refine cF.mono ?_); rintro e w2 ⟨rfl, rfl⟩)
    go_ret
    simp [hz]
theorem letter_is (c : UInt8) (x : Nat) (hx : c.toNat = x) : letterB c = ((decide (97 ≤ x) && decide (x ≤ 122)) || (decide (65 ≤ x) && decide (x ≤ 90)) || (decide (48 ≤ x) && decide (x ≤ 57))) := by
  unfold letterB
  rw [hx]
set_option maxHeartbeats 2000000 in
theorem rletter_any (c : UInt8) (x : Nat) (hx : c.toNat = x) (w : World) :
    Calls Tryz.prog 47 #[.int .u8 x] w fun e w' => e = .returned (.bool (letterB c)) ∧ w = w' := by
  rw [letter_is c x hx]
  clear hx
  by_cases h1 : 97 ≤ x
  · have g1 : (97 : Int) ≤ (x : Int) := by omega
    by_cases h2 : x ≤ 122
    · have g2 : (x : Int) ≤ 122 := by omega
      rw [decide_eq_true h1, decide_eq_true h2]
      go_enter Tryz.func47, Tryz.ntmps47
      go_wp2_with fail
      go_ret
      exact ⟨rfl, rfl⟩
    · have g2 : ¬ (x : Int) ≤ 122 := by omega
      have g3 : (65 : Int) ≤ (x : Int) := by omega
      have g4 : ¬ (x : Int) ≤ 90 := by omega
      have g5 : (48 : Int) ≤ (x : Int) := by omega
      have g6 : ¬ (x : Int) ≤ 57 := by omega
      rw [decide_eq_false h2, decide_eq_false (by omega : ¬ x ≤ 90), decide_eq_false (by omega : ¬ x ≤ 57)]
      simp only [Bool.and_false, Bool.or_false]
      go_enter Tryz.func47, Tryz.ntmps47
      go_wp2_with fail
      go_ret
      exact ⟨rfl, rfl⟩
  · have g1 : ¬ (97 : Int) ≤ (x : Int) := by omega
    rw [decide_eq_false h1]
    by_cases h3 : 65 ≤ x
    · have g3 : (65 : Int) ≤ (x : Int) := by omega
      by_cases h4 : x ≤ 90
      · have g4 : (x : Int) ≤ 90 := by omega
        rw [decide_eq_true h3, decide_eq_true h4]
        go_enter Tryz.func47, Tryz.ntmps47
        go_wp2_with fail
        go_ret
        exact ⟨rfl, rfl⟩
      · have g4 : ¬ (x : Int) ≤ 90 := by omega
        have g5 : (48 : Int) ≤ (x : Int) := by omega
        have g6 : ¬ (x : Int) ≤ 57 := by omega
        rw [decide_eq_false h4, decide_eq_false (by omega : ¬ x ≤ 57)]
        simp only [Bool.and_false, Bool.or_false, Bool.false_and]
        go_enter Tryz.func47, Tryz.ntmps47
        go_wp2_with fail
        go_ret
        exact ⟨rfl, rfl⟩
    · have g3 : ¬ (65 : Int) ≤ (x : Int) := by omega
      rw [decide_eq_false h3]
      by_cases h5 : 48 ≤ x
      · have g5 : (48 : Int) ≤ (x : Int) := by omega
        by_cases h6 : x ≤ 57
        · have g6 : (x : Int) ≤ 57 := by omega
          rw [decide_eq_true h5, decide_eq_true h6]
          go_enter Tryz.func47, Tryz.ntmps47
          go_wp2_with fail
          go_ret
          exact ⟨rfl, rfl⟩
        · have g6 : ¬ (x : Int) ≤ 57 := by omega
          rw [decide_eq_false h6]
          simp only [Bool.and_false, Bool.or_false, Bool.false_and]
          go_enter Tryz.func47, Tryz.ntmps47
          go_wp2_with fail
          go_ret
          exact ⟨rfl, rfl⟩
      · have g5 : ¬ (48 : Int) ≤ (x : Int) := by omega
        rw [decide_eq_false h5]
        simp only [Bool.or_false, Bool.false_and]
        go_enter Tryz.func47, Tryz.ntmps47
        go_wp2_with fail
        go_ret
        exact ⟨rfl, rfl⟩
theorem word_at (c : UInt8) : wordB c = (letterB c || (⟨#[33, 35, 36, 38, 94, 95, 46, 43, 45]⟩ : ByteArray).data.toList.contains c) := rfl
set_option maxRecDepth 100000 in
set_option maxHeartbeats 2000000 in
theorem rword_any (s : ByteArray) (hs : s.size ≤ 1000000000) (w : World) :
    Calls Tryz.prog 38 #[.string s] w fun e w' => e = .returned (.bool (wordW s.data.toList)) ∧ w = w' := by
  obtain ⟨n, hn⟩ : ∃ n, s.size = n := ⟨_, rfl⟩
  have HN := Lib.hid hn
  have HL := Lib.hid (size_list s)
  rw [hn] at hs
  obtain ⟨r, hr⟩ : ∃ r, wordW s.data.toList = r := ⟨_, rfl⟩
  rw [hr]
  have HR := Lib.hid hr
  clear hn hr
  go_enter Tryz.func38, Tryz.ntmps38
  go_wp2_with fail
  go_loopw [3] (fun i wr => ∃ k : Nat, k ≤ n ∧ i = .int .i64 k ∧ wr = w ∧ Hid ((s.data.toList.take k).all wordB = true)) (fun i _ => n - (intOf i).toNat)
  case atStart => exact ⟨0, Nat.zero_le _, rfl, rfl, rfl⟩
  case round =>
    obtain ⟨k, hk, rfl, rfl, HF⟩ := hrel
    have F1 : IntKind.i64.wrap ((k : Int) + 1) = (k : Int) + 1 := by rw [IntKind.wrap_i64]; omega
    by_cases hlt : k < n
    · have hlt' : (k : Int) < (n : Int) := by omega
      have hn : s.size = n := HN.out
      obtain ⟨d, y, hd, hy, hy2, S1⟩ := run_byte s k (by rw [hn]; exact hlt)
      have cH := fun W => rhas_any ⟨#[33, 35, 36, 38, 94, 95, 46, 43, 45]⟩ d y hy (by decide) W
      have cL := fun W => rletter_any d y hy W
      have hw := word_at d
      generalize (⟨#[33, 35, 36, 38, 94, 95, 46, 43, 45]⟩ : ByteArray).data.toList.contains d = b2 at cH hw
      generalize letterB d = b1 at cL hw
      cases hwb : wordB d with
      | true =>
        rw [hwb] at hw
        have HF2 := Lib.hid (show (s.data.toList.take (k + 1)).all wordB = true by rw [List.take_add_one, hd, List.all_append, HF.out]; simp [hwb])
        clear hd hy HF hwb HR
        cases b1 with
        | true =>
          clear hw
          go_wp2_with (first
            | (go_at_call 46; (with_reducible refine (cH _).mono ?_); rintro e w2 ⟨rfl, rfl⟩)
            | (go_at_call 47; (with_reducible refine (cL _).mono ?_); rintro e w3 ⟨rfl, rfl⟩))
          go_roundw
          case rel => exact ⟨k + 1, by omega, by go_num, trivial, HF2⟩
          case measure => simp [intOf]; omega
        | false =>
          obtain rfl : true = b2 := by simpa using hw
          clear hw
          go_wp2_with (first
            | (go_at_call 46; (with_reducible refine (cH _).mono ?_); rintro e w2 ⟨rfl, rfl⟩)
            | (go_at_call 47; (with_reducible refine (cL _).mono ?_); rintro e w3 ⟨rfl, rfl⟩))
          go_roundw
          case rel => exact ⟨k + 1, by omega, by go_num, trivial, HF2⟩
          case measure => simp [intOf]; omega
      | false =>
        rw [hwb] at hw
        obtain ⟨rfl, rfl⟩ : b1 = false ∧ b2 = false := by simpa using hw.symm
        obtain rfl : false = r := by
          rw [← HR.out]
          unfold wordW
          symm
          rw [Bool.and_eq_false_iff]
          refine .inr ?_
          rw [List.all_eq_false]
          exact ⟨d, List.mem_of_getElem? hd, by rw [hwb]; exact Bool.false_ne_true⟩
        clear hd hy HF hwb HR hw
        go_wp2_with (first
          | (go_at_call 46; (with_reducible refine (cH _).mono ?_); rintro e w2 ⟨rfl, rfl⟩)
          | (go_at_call 47; (with_reducible refine (cL _).mono ?_); rintro e w3 ⟨rfl, rfl⟩))
        go_ret
        exact ⟨rfl, rfl⟩
    · obtain rfl : k = n := by omega
      have hlt' : ¬ (k : Int) < (k : Int) := by omega
      have ha := HF.out
      rw [List.take_of_length_le (by rw [← HL.out, HN.out]; exact Nat.le_refl _)] at ha
      have hz : decide ((0 : Int) < (k : Int)) = r := by
        rw [← HR.out]
        unfold wordW
        rw [ha, Bool.and_true]
        have hl := HL.out
        rw [HN.out] at hl
        cases hq : s.data.toList with
        | nil => rw [hq] at hl; rw [hl]; rfl
        | cons a b => rw [hq, List.length_cons] at hl; rw [decide_eq_true (by omega)]; rfl
      have hn : s.size = k := HN.out
      clear HF ha HR
      go_wp2_with fail
      go_ret
      subst hz
      exact ⟨by simp, rfl⟩
end Go.Proofs.YtdinachiiimngaaGreatDoor
namespace Go.Proofs.YtdinachiiimngaaGreatDoor
open Go.ChangeShapes Go.WideShapes Go.ChangeAt Go.RowKit

open TokP

theorem un_esc1 (l : List UInt8) (k : Nat) (d : UInt8) (h : l[k]? = some 92) (h2 : l[k + 1]? = some d) : unescS false (l.drop k) = d :: unescS false (l.drop (k + 2)) := by
  rw [cons_at l k 92 h, cons_at l (k + 1) d h2, unescS, if_pos rfl, unescS]
theorem un_esc0 (l : List UInt8) (k : Nat) (h : l[k]? = some 92) (h2 : l.length ≤ k + 1) : unescS false (l.drop k) = unescS false (l.drop (k + 2)) := by
  rw [cons_at l k 92 h, List.drop_eq_nil_of_le h2, List.drop_eq_nil_of_le (by omega)]; rfl
theorem un_break (l : List UInt8) (k : Nat) (c : UInt8) (h : l[k]? = some c) (h2 : c = 10 ∨ c = 13) : unescS false (l.drop k) = unescS false (l.drop (k + 1)) := by
  rw [cons_at l k c h, unescS, if_neg (by rcases h2 with rfl | rfl <;> decide), if_pos h2]
theorem un_plain (l : List UInt8) (k : Nat) (c : UInt8) (h : l[k]? = some c) (h1 : c ≠ 92) (h2 : ¬ (c = 10 ∨ c = 13)) : unescS false (l.drop k) = c :: unescS false (l.drop (k + 1)) := by
  rw [cons_at l k c h, unescS, if_neg h1, if_neg h2]
/-- The value of a token of any kind. -/
def valueI (K : Int) (l : List UInt8) : List UInt8 := if (K = 2 ∨ K = 3) ∧ 2 ≤ l.length then unescS false (l.drop 1).dropLast else l
theorem value_tok (t : Tok) : valueI (t.kind : Nat) t.text = valueL t := by
  unfold valueI valueL
  have : (((t.kind : Nat) : Int) = 2 ∨ ((t.kind : Nat) : Int) = 3) ↔ (t.kind = 2 ∨ t.kind = 3) := by omega
  simp only [this]
theorem inner_is (T : ByteArray) (h : 2 ≤ T.size) : T.extract 1 (T.size - 1) = strL (T.data.toList.drop 1).dropLast := by
  rw [part_of T 1 (T.size - 1) (by omega) (by omega), List.dropLast_eq_take, List.length_drop, ← size_list]
theorem value_yes (K : Int) (l : List UInt8) (h : K = 2 ∨ K = 3) (h2 : 2 ≤ l.length) : valueI K l = unescS false (l.drop 1).dropLast := by
  unfold valueI; rw [if_pos ⟨h, h2⟩]
theorem value_no (K : Int) (l : List UInt8) (h : ¬ ((K = 2 ∨ K = 3) ∧ 2 ≤ l.length)) : valueI K l = l := by
  unfold valueI; rw [if_neg h]
theorem esc_at (l : List UInt8) (k : Nat) (c : UInt8) (h : l[k]? = some c) : escL (l.drop k) = if held c = true then 92 :: c :: escL (l.drop (k + 1)) else c :: escL (l.drop (k + 1)) := by
  rw [cons_at l k c h, escL]
theorem esc_yes {l O R : List UInt8} {k : Nat} {c : UInt8} (h : l[k]? = some c) (hc : held c = true) (he : O ++ escL (l.drop k) = R) : (O ++ [92] ++ [c]) ++ escL (l.drop (k + 1)) = R := by
  rw [← he, esc_at l k c h, if_pos hc, List.append_assoc, List.append_assoc]; rfl
theorem esc_no {l O R : List UInt8} {k : Nat} {c : UInt8} (h : l[k]? = some c) (hc : held c = false) (he : O ++ escL (l.drop k) = R) : (O ++ [c]) ++ escL (l.drop (k + 1)) = R := by
  rw [← he, esc_at l k c h, if_neg (by rw [hc]; exact Bool.false_ne_true), List.append_assoc]; rfl
end Go.Proofs.YtdinachiiimngaaGreatDoor
namespace Go.Proofs.YtdinachiiimngaaGreatDoor
open Go.ChangeShapes Go.WideShapes Go.ChangeAt Go.RowKit
open TokP

/-- The slice v holds out, in a block of its own from B on. -/
def Ow (w : World) (B : Nat) (v : Value) (out : List UInt8) : Prop := w.ownsRow B 5 1 v out.length (Lib.byteCells out)
theorem conv_own {w : World} {base n : Nat} {v : Value} {l : List UInt8} (hl : l.length = n) (hown : w.ownsRow base 5 1 v n (Lib.byteCells l)) :
    (convert 59 9 v).run Tryz.prog w = .ok (.string (strL l)) w := by
  rcases hown.2 with ⟨rfl, h⟩ | ⟨g, cap, cur, rfl, _⟩
  · obtain rfl : l = [] := List.eq_nil_of_length_eq_zero (by rw [hl, h])
    kernel_rfl
  · subst hl
    refine run_convert_bytes_back w 59 9 5 ⟨g, 0, none⟩ cap l Tryz.underlying59 Tryz.underlying5 Tryz.underlying9 fun j hj => ?_
    refine hown.cells (g := g) rfl j _ ?_
    unfold Lib.byteCells
    rw [List.getElem?_map, List.getElem?_eq_getElem hj]; rfl
/-- A new byte is appended. -/
theorem wpList_byte {ops : Array Oper} {rest : List Oper} {o : Oper} {a : Act} {w : World} {Q : Exit → Act → World → Prop} (hgd : o.guard = none) (s x : Operand) (ho : o.op = .call { callee := .builtin .append, args := #[s, x], argTypes := #[59, 59] })
    (B : Nat) {v : Value} {out : List UInt8} {n : Nat} (c : UInt8) (y : Int) (hy : (c.toNat : Int) = y) (hs : a.eval s = v) (hx : a.eval x = .slice (some ⟨w.heap.size, 0, none⟩) 1 1) (hown : Ow w B v out) (hn : out.length = n) (hb : B ≤ w.heap.size) (hl : n + 1 ≤ 4000000)
    (h : ∀ a' c' w', Ow w' B (.slice a' (n + 1) c') (out ++ [c]) → (w.alloc (.cells #[.int .u8 y] 5)).grownBy w' v.ownBlock → wpList Tryz.prog ops Q rest (a.put o.dst (.slice a' (n + 1) c')) w') : wpList Tryz.prog ops Q (o :: rest) a (w.alloc (.cells #[.int .u8 y] 5)) := by
  obtain ⟨i0, hi, hz0, hz1, hz2⟩ := info_parts info5
  subst hn
  subst hy
  have h0 : Ow (w.alloc (.cells #[.int .u8 (c.toNat : Int)] 5)) B v out := World.ownsRow.alloc hown _
  refine wpList_append_own _ hgd s x 59 ho B 5 i0 (.int .u8 0) 1 1 Tryz.underlying59 hi hz0 hz1 hz2 rfl (by decide) v _ _ hs h0 ⟨w.heap.size, 0, none⟩ 1 1 [.int .u8 (c.toNat : Int)] hx rfl (cell_one_new _ _ _) (by simp [Value.oneCell']) (by unfold maxLen; omega) (by omega) (by rw [World.size_alloc]; omega) ?_
  intro v' w' h1 h2 _
  have h1' : w'.ownsRow B 5 1 v' (out.length + 1) (Lib.byteCells (out ++ [c])) := by rw [Lib.byteCells_append]; exact h1
  obtain ⟨a', c', rfl⟩ : ∃ a' c', v' = .slice a' (out.length + 1) c' := by
    rcases h1.2 with ⟨rfl, h0⟩ | ⟨g, cap, cur, rfl, _⟩
    · omega
    · exact ⟨_, _, rfl⟩
  exact h a' c' w' (by unfold Ow; rw [List.length_append]; exact h1') h2
theorem ow_nil (w : World) (B : Nat) : Ow w B (.slice none 0 0) [] := ⟨rfl, .inl ⟨rfl, rfl⟩⟩
theorem ow_below {w w1 w2 : World} {B : Nat} {v : Value} {out : List UInt8} {o : Obj} (h : Below w.heap.size w w1) (ho : Ow w1 B v out) (hB : w.heap.size ≤ B) (hg : (w1.alloc o).grownBy w2 v.ownBlock) : Below w.heap.size w w2 :=
  (h.alloc h.size _).grown hg (by rw [World.size_alloc]; have := h.size; omega) (fun k e => by have := (World.ownsRow.lt ho k e).1; omega)
set_option maxRecDepth 100000 in
set_option maxHeartbeats 2000000 in
/-- The loop of the reference's Value, over a struct that lies in a box. -/
theorem rvalue_yes (K : Int) (hK : K = 2 ∨ K = 3) (T : ByteArray) (hT : T.size ≤ 4000000) (h2 : 2 ≤ T.size) (w : World) :
    Calls Tryz.prog 111 #[.agg #[.int .i64 K, .string T]] w fun e w' => e = .returned (.string (strL (unescS false (T.data.toList.drop 1).dropLast))) ∧ Below w.heap.size w w' := by
  obtain ⟨R, hR⟩ : ∃ R, unescS false (T.data.toList.drop 1).dropLast = R := ⟨_, rfl⟩
  rw [hR]
  have h2' : ¬ (T.size : Int) < 2 := by omega
  have F0 : IntKind.i64.wrap ((T.size : Int) - 1) = (T.size : Int) - 1 := by rw [IntKind.wrap_i64]; omega
  have R1 : ∀ W : World, (Instr.slice 9 (.string T) (some (.int .i64 1)) (some (.int .i64 ((T.size : Int) - 1))) none).run Tryz.prog W = .ok (.string (T.extract 1 (T.size - 1))) W := run_slice_str T 1 (T.size - 1) ((T.size : Int) - 1) (by omega) (by omega) (by omega)
  rw [inner_is T h2] at R1
  obtain ⟨I, hI⟩ : ∃ I, strL (T.data.toList.drop 1).dropLast = I := ⟨_, rfl⟩
  rw [hI] at R1
  have hRI : unescS false I.data.toList = R := by rw [← hI]; exact hR
  have hIz : I.size ≤ 4000000 := by rw [← hI, strL_size, List.length_dropLast, List.length_drop, ← size_list]; omega
  obtain ⟨n, hn⟩ : ∃ n, I.size = n := ⟨_, rfl⟩
  rw [hn] at hIz
  have HN := Lib.hid hn
  have HL := Lib.hid (size_list I)
  have HR := Lib.hid hRI
  have HK := Lib.hid hK
  have HW := Lib.hid (show Below w.heap.size w (w.alloc (.cells #[.int .i64 K, .string T] 89)) from (Below.refl _ w).alloc (Nat.le_refl _) _)
  clear hR hRI hI hn h2 hT hK
  have key : ∀ K', K = K' → (K' = 2 ∨ K' = 3) → Calls Tryz.prog 111 #[.agg #[.int .i64 K', .string T]] w fun e w' => e = .returned (.string (strL R)) ∧ Below w.heap.size w w' := by
    intro K' hKK hK'
    rcases hK' with rfl | rfl
    · go_enter Tryz.func111, Tryz.ntmps111
      go_wp2_with fail
      go_loopw [4, 5] (fun o i wr => ∃ (k m : Nat) (O : List UInt8), k ≤ n + 1 ∧ m ≤ k ∧ i = .int .i64 k ∧ (∃ a c, o = .slice a m c) ∧ Hid (O.length = m) ∧ Hid (O ++ unescS false (I.data.toList.drop k) = R) ∧ Hid (Ow wr w.heap.size o O) ∧ Hid (Below w.heap.size w wr)) (fun _ i _ => n + 1 - (intOf i).toNat)
      case atStart => exact ⟨0, 0, [], by omega, Nat.le_refl _, rfl, ⟨none, 0, rfl⟩, rfl, HR, ow_nil _ _, by rw [hKK] at HW; exact HW⟩
      case round =>
        obtain ⟨k, m, O, hk, hmk, rfl, ⟨a, c0, rfl⟩, hm, HE, ho, hb⟩ := hrel
        have F1 : IntKind.i64.wrap ((k : Int) + 1) = (k : Int) + 1 := by rw [IntKind.wrap_i64]; omega
        have F2 : IntKind.i64.wrap ((k : Int) + 1 + 1) = (k : Int) + 1 + 1 := by rw [IntKind.wrap_i64]; omega
        have hn : I.size = n := HN.out
        by_cases hlt : k < n
        · have hlt' : (k : Int) < (n : Int) := by omega
          obtain ⟨c, x, hc, hx, hx2, S1⟩ := run_byte I k (by rw [hn]; exact hlt)
          have e92 := byte_is c x hx 92 (by decide)
          have e10 := byte_is c x hx 10 (by decide)
          have e13 := byte_is c x hx 13 (by decide)
          rw [show ((92 : Nat) : Int) = 92 from rfl] at e92
          rw [show ((10 : Nat) : Int) = 10 from rfl] at e10
          rw [show ((13 : Nat) : Int) = 13 from rfl] at e13
          by_cases h92 : c = 92
          · rw [show decide (c = UInt8.ofNat 92) = true from decide_eq_true h92] at e92
            rw [h92] at hc
            by_cases hl2 : k + 1 < n
            · have hl2' : (k : Int) + 1 < (n : Int) := by omega
              obtain ⟨d, y, hd, hy, hy2, S2⟩ := run_byte I (k + 1) (by rw [hn]; exact hl2)
              rw [show ((k + 1 : Nat) : Int) = (k : Int) + 1 from by omega] at S2
              have HE2 := Lib.hid (show (O ++ [d]) ++ unescS false (I.data.toList.drop (k + 2)) = R by rw [← HE.out, un_esc1 _ k d hc hd, List.append_assoc]; rfl)
              have HY : Hid ((d.toNat : Int) = (y : Int)) := by show _ = _; rw [hy]
              clear h92 hc hx hx2 HE hd hy hy2 e10 e13
              go_wp2_with (at_builtin; refine wpList_byte rfl (.tmp 45) (.tmp 49) rfl w.heap.size d _ HY.out rfl rfl ho.out hm.out hb.out.size (by omega) ?_; intro a2 c2 w2 h2 g2; replace h2 := Lib.hid h2; replace g2 := Lib.hid g2)
              go_roundw
              case rel => exact ⟨k + 2, m + 1, O ++ [d], by omega, by omega, by go_num, ⟨a2, c2, rfl⟩, Lib.hid (by rw [List.length_append, hm.out]; rfl), HE2, h2, ow_below hb.out ho.out (Nat.le_refl _) g2.out⟩
              case measure => simp [intOf]; omega
            · have hl2' : ¬ (k : Int) + 1 < (n : Int) := by omega
              have HE2 := Lib.hid ((congrArg (O ++ ·) (un_esc0 _ k hc (by rw [← HL.out, hn]; omega))).symm.trans HE.out)
              clear h92 hc hx hx2 HE e10 e13
              go_wp2_with fail
              go_roundw
              case rel => exact ⟨k + 2, m, O, by omega, by omega, by go_num, ⟨a, c0, rfl⟩, hm, HE2, ho, hb⟩
              case measure => simp [intOf]; omega
          · rw [show decide (c = UInt8.ofNat 92) = false from decide_eq_false h92] at e92
            by_cases h10 : c = 10
            · rw [show decide (c = UInt8.ofNat 10) = true from decide_eq_true h10] at e10
              have n10 : ((x : Int) != 10) = false := by rw [bne, e10]; rfl
              have HE2 := Lib.hid ((congrArg (O ++ ·) (un_break _ k c hc (.inl h10))).symm.trans HE.out)
              clear h92 h10 hc hx hx2 HE e13 e10
              go_wp2_with fail
              go_roundw
              case rel => exact ⟨k + 1, m, O, by omega, by omega, by go_num, ⟨a, c0, rfl⟩, hm, HE2, ho, hb⟩
              case measure => simp [intOf]; omega
            · rw [show decide (c = UInt8.ofNat 10) = false from decide_eq_false h10] at e10
              have n10 : ((x : Int) != 10) = true := by rw [bne, e10]; rfl
              by_cases h13 : c = 13
              · rw [show decide (c = UInt8.ofNat 13) = true from decide_eq_true h13] at e13
                have n13 : ((x : Int) != 13) = false := by rw [bne, e13]; rfl
                have HE2 := Lib.hid ((congrArg (O ++ ·) (un_break _ k c hc (.inr h13))).symm.trans HE.out)
                clear h92 h10 h13 hc hx hx2 HE e13 e10
                go_wp2_with fail
                go_roundw
                case rel => exact ⟨k + 1, m, O, by omega, by omega, by go_num, ⟨a, c0, rfl⟩, hm, HE2, ho, hb⟩
                case measure => simp [intOf]; omega
              · rw [show decide (c = UInt8.ofNat 13) = false from decide_eq_false h13] at e13
                have n13 : ((x : Int) != 13) = true := by rw [bne, e13]; rfl
                have HE2 := Lib.hid (show (O ++ [c]) ++ unescS false (I.data.toList.drop (k + 1)) = R by rw [← HE.out, un_plain _ k c hc h92 (fun e => e.elim h10 h13), List.append_assoc]; rfl)
                have HY : Hid ((c.toNat : Int) = (x : Int)) := by show _ = _; rw [hx]
                clear h92 h10 h13 hc hx hx2 HE e13 e10
                go_wp2_with (at_builtin; refine wpList_byte rfl (.tmp 61) (.tmp 65) rfl w.heap.size c _ HY.out rfl rfl ho.out hm.out hb.out.size (by omega) ?_; intro a2 c2 w2 h2 g2; replace h2 := Lib.hid h2; replace g2 := Lib.hid g2)
                go_roundw
                case rel => exact ⟨k + 1, m + 1, O ++ [c], by omega, by omega, by go_num, ⟨a2, c2, rfl⟩, Lib.hid (by rw [List.length_append, hm.out]; rfl), HE2, h2, ow_below hb.out ho.out (Nat.le_refl _) g2.out⟩
                case measure => simp [intOf]; omega
        · have hlt' : ¬ (k : Int) < (n : Int) := by omega
          have he : O = R := by
            have h := HE.out
            rw [List.drop_eq_nil_of_le (by rw [← HL.out, hn]; omega), unescS, List.append_nil] at h
            exact h
          subst he
          have hcv := conv_own hm.out (by have h := ho.out; unfold Ow at h; rw [hm.out] at h; exact h)
          clear HE
          go_wp2_with fail
          go_ret
          exact ⟨rfl, hb.out⟩
    · go_enter Tryz.func111, Tryz.ntmps111
      go_wp2_with fail
      go_loopw [4, 5] (fun o i wr => ∃ (k m : Nat) (O : List UInt8), k ≤ n + 1 ∧ m ≤ k ∧ i = .int .i64 k ∧ (∃ a c, o = .slice a m c) ∧ Hid (O.length = m) ∧ Hid (O ++ unescS false (I.data.toList.drop k) = R) ∧ Hid (Ow wr w.heap.size o O) ∧ Hid (Below w.heap.size w wr)) (fun _ i _ => n + 1 - (intOf i).toNat)
      case atStart => exact ⟨0, 0, [], by omega, Nat.le_refl _, rfl, ⟨none, 0, rfl⟩, rfl, HR, ow_nil _ _, by rw [hKK] at HW; exact HW⟩
      case round =>
        obtain ⟨k, m, O, hk, hmk, rfl, ⟨a, c0, rfl⟩, hm, HE, ho, hb⟩ := hrel
        have F1 : IntKind.i64.wrap ((k : Int) + 1) = (k : Int) + 1 := by rw [IntKind.wrap_i64]; omega
        have F2 : IntKind.i64.wrap ((k : Int) + 1 + 1) = (k : Int) + 1 + 1 := by rw [IntKind.wrap_i64]; omega
        have hn : I.size = n := HN.out
        by_cases hlt : k < n
        · have hlt' : (k : Int) < (n : Int) := by omega
          obtain ⟨c, x, hc, hx, hx2, S1⟩ := run_byte I k (by rw [hn]; exact hlt)
          have e92 := byte_is c x hx 92 (by decide)
          have e10 := byte_is c x hx 10 (by decide)
          have e13 := byte_is c x hx 13 (by decide)
          rw [show ((92 : Nat) : Int) = 92 from rfl] at e92
          rw [show ((10 : Nat) : Int) = 10 from rfl] at e10
          rw [show ((13 : Nat) : Int) = 13 from rfl] at e13
          by_cases h92 : c = 92
          · rw [show decide (c = UInt8.ofNat 92) = true from decide_eq_true h92] at e92
            rw [h92] at hc
            by_cases hl2 : k + 1 < n
            · have hl2' : (k : Int) + 1 < (n : Int) := by omega
              obtain ⟨d, y, hd, hy, hy2, S2⟩ := run_byte I (k + 1) (by rw [hn]; exact hl2)
              rw [show ((k + 1 : Nat) : Int) = (k : Int) + 1 from by omega] at S2
              have HE2 := Lib.hid (show (O ++ [d]) ++ unescS false (I.data.toList.drop (k + 2)) = R by rw [← HE.out, un_esc1 _ k d hc hd, List.append_assoc]; rfl)
              have HY : Hid ((d.toNat : Int) = (y : Int)) := by show _ = _; rw [hy]
              clear h92 hc hx hx2 HE hd hy hy2 e10 e13
              go_wp2_with (at_builtin; refine wpList_byte rfl (.tmp 45) (.tmp 49) rfl w.heap.size d _ HY.out rfl rfl ho.out hm.out hb.out.size (by omega) ?_; intro a2 c2 w2 h2 g2; replace h2 := Lib.hid h2; replace g2 := Lib.hid g2)
              go_roundw
              case rel => exact ⟨k + 2, m + 1, O ++ [d], by omega, by omega, by go_num, ⟨a2, c2, rfl⟩, Lib.hid (by rw [List.length_append, hm.out]; rfl), HE2, h2, ow_below hb.out ho.out (Nat.le_refl _) g2.out⟩
              case measure => simp [intOf]; omega
            · have hl2' : ¬ (k : Int) + 1 < (n : Int) := by omega
              have HE2 := Lib.hid ((congrArg (O ++ ·) (un_esc0 _ k hc (by rw [← HL.out, hn]; omega))).symm.trans HE.out)
              clear h92 hc hx hx2 HE e10 e13
              go_wp2_with fail
              go_roundw
              case rel => exact ⟨k + 2, m, O, by omega, by omega, by go_num, ⟨a, c0, rfl⟩, hm, HE2, ho, hb⟩
              case measure => simp [intOf]; omega
          · rw [show decide (c = UInt8.ofNat 92) = false from decide_eq_false h92] at e92
            by_cases h10 : c = 10
            · rw [show decide (c = UInt8.ofNat 10) = true from decide_eq_true h10] at e10
              have n10 : ((x : Int) != 10) = false := by rw [bne, e10]; rfl
              have HE2 := Lib.hid ((congrArg (O ++ ·) (un_break _ k c hc (.inl h10))).symm.trans HE.out)
              clear h92 h10 hc hx hx2 HE e13 e10
              go_wp2_with fail
              go_roundw
              case rel => exact ⟨k + 1, m, O, by omega, by omega, by go_num, ⟨a, c0, rfl⟩, hm, HE2, ho, hb⟩
              case measure => simp [intOf]; omega
            · rw [show decide (c = UInt8.ofNat 10) = false from decide_eq_false h10] at e10
              have n10 : ((x : Int) != 10) = true := by rw [bne, e10]; rfl
              by_cases h13 : c = 13
              · rw [show decide (c = UInt8.ofNat 13) = true from decide_eq_true h13] at e13
                have n13 : ((x : Int) != 13) = false := by rw [bne, e13]; rfl
                have HE2 := Lib.hid ((congrArg (O ++ ·) (un_break _ k c hc (.inr h13))).symm.trans HE.out)
                clear h92 h10 h13 hc hx hx2 HE e13 e10
                go_wp2_with fail
                go_roundw
                case rel => exact ⟨k + 1, m, O, by omega, by omega, by go_num, ⟨a, c0, rfl⟩, hm, HE2, ho, hb⟩
                case measure => simp [intOf]; omega
              · rw [show decide (c = UInt8.ofNat 13) = false from decide_eq_false h13] at e13
                have n13 : ((x : Int) != 13) = true := by rw [bne, e13]; rfl
                have HE2 := Lib.hid (show (O ++ [c]) ++ unescS false (I.data.toList.drop (k + 1)) = R by rw [← HE.out, un_plain _ k c hc h92 (fun e => e.elim h10 h13), List.append_assoc]; rfl)
                have HY : Hid ((c.toNat : Int) = (x : Int)) := by show _ = _; rw [hx]
                clear h92 h10 h13 hc hx hx2 HE e13 e10
                go_wp2_with (at_builtin; refine wpList_byte rfl (.tmp 61) (.tmp 65) rfl w.heap.size c _ HY.out rfl rfl ho.out hm.out hb.out.size (by omega) ?_; intro a2 c2 w2 h2 g2; replace h2 := Lib.hid h2; replace g2 := Lib.hid g2)
                go_roundw
                case rel => exact ⟨k + 1, m + 1, O ++ [c], by omega, by omega, by go_num, ⟨a2, c2, rfl⟩, Lib.hid (by rw [List.length_append, hm.out]; rfl), HE2, h2, ow_below hb.out ho.out (Nat.le_refl _) g2.out⟩
                case measure => simp [intOf]; omega
        · have hlt' : ¬ (k : Int) < (n : Int) := by omega
          have he : O = R := by
            have h := HE.out
            rw [List.drop_eq_nil_of_le (by rw [← HL.out, hn]; omega), unescS, List.append_nil] at h
            exact h
          subst he
          have hcv := conv_own hm.out (by have h := ho.out; unfold Ow at h; rw [hm.out] at h; exact h)
          clear HE
          go_wp2_with fail
          go_ret
          exact ⟨rfl, hb.out⟩
  exact key K rfl HK.out
set_option maxHeartbeats 1000000 in
theorem rvalue_any (K : Int) (T : ByteArray) (hT : T.size ≤ 4000000) (w : World) :
    Calls Tryz.prog 111 #[.agg #[.int .i64 K, .string T]] w fun e w' => e = .returned (.string (strL (valueI K T.data.toList))) ∧ Below w.heap.size w w' := by
  have hsz := size_list T
  have HW := Lib.hid (show Below w.heap.size w (w.alloc (.cells #[.int .i64 K, .string T] 89)) from (Below.refl _ w).alloc (Nat.le_refl _) _)
  by_cases hk : K = 2 ∨ K = 3
  · by_cases h2 : 2 ≤ T.size
    · rw [value_yes K _ hk (by rw [← hsz]; exact h2)]
      exact rvalue_yes K hk T hT h2 w
    · have h2' : (T.size : Int) < 2 := by omega
      rw [value_no K _ (fun e => h2 (by rw [hsz]; exact e.2)), strL_of]
      clear hsz h2
      rcases hk with rfl | rfl
      · go_enter Tryz.func111, Tryz.ntmps111
        go_wp2_with fail
        go_ret
        exact ⟨rfl, HW.out⟩
      · go_enter Tryz.func111, Tryz.ntmps111
        go_wp2_with fail
        go_ret
        exact ⟨rfl, HW.out⟩
  · have g2 : (K != 2) = true := by rw [bne_iff_ne]; exact fun e => hk (.inl e)
    have g3 : (K != 3) = true := by rw [bne_iff_ne]; exact fun e => hk (.inr e)
    have n2 : ¬ K = 2 := fun e => hk (.inl e)
    have n3 : ¬ K = 3 := fun e => hk (.inr e)
    rw [value_no K _ (fun e => hk e.1), strL_of]
    clear hsz hk
    go_enter Tryz.func111, Tryz.ntmps111
    go_wp2_with fail
    go_ret
    exact ⟨rfl, HW.out⟩
end Go.Proofs.YtdinachiiimngaaGreatDoor
namespace Go.Proofs.YtdinachiiimngaaGreatDoor
open Go.ChangeShapes Go.WideShapes Go.ChangeAt Go.RowKit
open TokP AdrP CtP

theorem low_in (c : UInt8) (x : Nat) (hx : c.toNat = x) (h : 65 ≤ x ∧ x ≤ 90) : ((lowA c).toNat : Int) = (x : Int) + 32 := by
  unfold lowA
  rw [hx, if_pos h]
  have : (c + 32).toNat = x + 32 := by
    rw [UInt8.toNat_add, hx]
    show (x + 32) % 256 = x + 32
    omega
  rw [this]
  omega
theorem low_out (c : UInt8) (x : Nat) (hx : c.toNat = x) (h : ¬ (65 ≤ x ∧ x ≤ 90)) : ((lowA c).toNat : Int) = (x : Int) := by
  unfold lowA
  rw [hx, if_neg h, hx]
set_option maxRecDepth 100000 in
set_option maxHeartbeats 2000000 in
theorem rsmall_any (s : ByteArray) (hs : s.size ≤ 4000000) (w : World) :
    Calls Tryz.prog 39 #[.string s] w fun e w' => e = .returned (.string (strL (s.data.toList.map lowA))) ∧ Below w.heap.size w w' := by
  obtain ⟨n, hn⟩ : ∃ n, s.size = n := ⟨_, rfl⟩
  have HN := Lib.hid hn
  have HL := Lib.hid (size_list s)
  rw [hn] at hs
  clear hn
  go_enter Tryz.func39, Tryz.ntmps39
  go_wp2_with fail
  go_loopw [3, 4] (fun o i wr => ∃ k : Nat, k ≤ n ∧ i = .int .i64 k ∧ (∃ a c, o = .slice a k c) ∧ Hid (((s.data.toList.take k).map lowA).length = k) ∧ Hid (Ow wr w.heap.size o ((s.data.toList.take k).map lowA)) ∧ Hid (Below w.heap.size w wr)) (fun _ i _ => n - (intOf i).toNat)
  case atStart => exact ⟨0, Nat.zero_le _, rfl, ⟨none, 0, rfl⟩, rfl, ow_nil _ _, Below.refl _ _⟩
  case round =>
    obtain ⟨k, hk, rfl, ⟨a, c0, rfl⟩, hm, ho, hb⟩ := hrel
    have F1 : IntKind.i64.wrap ((k : Int) + 1) = (k : Int) + 1 := by rw [IntKind.wrap_i64]; omega
    have hn : s.size = n := HN.out
    by_cases hlt : k < n
    · have hlt' : (k : Int) < (n : Int) := by omega
      obtain ⟨d, y, hd, hy, hy2, S1⟩ := run_byte s k (by rw [hn]; exact hlt)
      have HST := Lib.hid (show (s.data.toList.take (k + 1)).map lowA = (s.data.toList.take k).map lowA ++ [lowA d] by rw [List.take_add_one, hd, List.map_append]; rfl)
      have F2 : IntKind.u8.wrap ((y : Int) + 32) = ((y : Int) + 32) % 256 := by rw [IntKind.wrap_u8]
      by_cases h1 : 65 ≤ y
      · have g1 : (65 : Int) ≤ (y : Int) := by omega
        by_cases h2 : y ≤ 90
        · have g2 : (y : Int) ≤ 90 := by omega
          replace F2 : IntKind.u8.wrap ((y : Int) + 32) = (y : Int) + 32 := by rw [F2]; omega
          have HY := Lib.hid (low_in d y hy ⟨h1, h2⟩)
          clear hd hy
          go_wp2_with (at_builtin; refine wpList_byte rfl (.tmp 23) (.tmp 25) rfl w.heap.size (lowA d) _ HY.out rfl rfl ho.out hm.out hb.out.size (by omega) ?_; intro a2 c2 w2 h3 g3; replace h3 := Lib.hid h3; replace g3 := Lib.hid g3)
          go_roundw
          case rel => exact ⟨k + 1, by omega, by go_num, ⟨a2, c2, rfl⟩, Lib.hid (by rw [HST.out, List.length_append, hm.out]; rfl), Lib.hid (by rw [HST.out]; exact h3.out), ow_below hb.out ho.out (Nat.le_refl _) g3.out⟩
          case measure => simp [intOf]; omega
        · have g2 : ¬ (y : Int) ≤ 90 := by omega
          have HY := Lib.hid (low_out d y hy (fun h => h2 h.2))
          clear hd hy F2
          go_wp2_with (at_builtin; refine wpList_byte rfl (.tmp 23) (.tmp 25) rfl w.heap.size (lowA d) _ HY.out rfl rfl ho.out hm.out hb.out.size (by omega) ?_; intro a2 c2 w2 h3 g3; replace h3 := Lib.hid h3; replace g3 := Lib.hid g3)
          go_roundw
          case rel => exact ⟨k + 1, by omega, by go_num, ⟨a2, c2, rfl⟩, Lib.hid (by rw [HST.out, List.length_append, hm.out]; rfl), Lib.hid (by rw [HST.out]; exact h3.out), ow_below hb.out ho.out (Nat.le_refl _) g3.out⟩
          case measure => simp [intOf]; omega
      · have g1 : ¬ (65 : Int) ≤ (y : Int) := by omega
        have HY := Lib.hid (low_out d y hy (fun h => h1 h.1))
        clear hd hy F2
        go_wp2_with (at_builtin; refine wpList_byte rfl (.tmp 23) (.tmp 25) rfl w.heap.size (lowA d) _ HY.out rfl rfl ho.out hm.out hb.out.size (by omega) ?_; intro a2 c2 w2 h3 g3; replace h3 := Lib.hid h3; replace g3 := Lib.hid g3)
        go_roundw
        case rel => exact ⟨k + 1, by omega, by go_num, ⟨a2, c2, rfl⟩, Lib.hid (by rw [HST.out, List.length_append, hm.out]; rfl), Lib.hid (by rw [HST.out]; exact h3.out), ow_below hb.out ho.out (Nat.le_refl _) g3.out⟩
        case measure => simp [intOf]; omega
    · obtain rfl : k = n := by omega
      have hlt' : ¬ (k : Int) < (k : Int) := by omega
      have hT : s.data.toList.take k = s.data.toList := List.take_of_length_le (by rw [← HL.out, hn]; exact Nat.le_refl _)
      rw [hT] at hm ho
      have hcv := conv_own hm.out (by have h := ho.out; unfold Ow at h; rw [hm.out] at h; exact h)
      clear hT
      go_wp2_with fail
      go_ret
      exact ⟨rfl, hb.out⟩
end Go.Proofs.YtdinachiiimngaaGreatDoor
namespace Go.Proofs.YtdinachiiimngaaGreatDoor
open Go.ChangeShapes Go.WideShapes Go.ChangeAt Go.RowKit

/-! ### The builder that a call has made -/
theorem below_own {w w' : World} {base : Nat} {e : TypeId} {size : Nat} {v : Value} {n : Nat} {xs : List Value} (h : w.ownsRow base e size v n xs) (hb : Below w.heap.size w w') : w'.ownsRow base e size v n xs := by
  refine ⟨h.1, ?_⟩
  rcases h.2 with h1 | ⟨g, cap, cur, rfl, hbg, hg, rest⟩
  · exact .inl h1
  · refine .inr ⟨g, cap, cur, rfl, hbg, ?_, rest⟩
    rw [hb.block g (Array.getElem?_eq_some_iff.1 hg).1]
    exact hg
/-- The strings.Builder in block b holds l. -/
def Bd (w : World) (b : Nat) (l : List UInt8) : Prop := Lib.IsBuilder 61 5 b b (Lib.byteCells l) w
theorem Bd.lt {w : World} {b : Nat} {l : List UInt8} (h : Bd w b l) : b < w.heap.size := h.elim (fun x => x.lt) (fun x => x.lt)
theorem built_below {T e : TypeId} {B b : Nat} {p : Value} {bs : List Value} {w w' : World} (h : Lib.BuilderAt T e B b p bs w) (hb : Below w.heap.size w w') : Lib.BuilderAt T e B b p bs w' := by
  have hlt := h.lt
  obtain ⟨hB, v, hk, hown, hne⟩ := h
  exact ⟨hB, v, by rw [hb.block b hlt]; exact hk, below_own hown hb, hne⟩
theorem Bd.below {w w' : World} {b : Nat} {l : List UInt8} (h : Bd w b l) (hb : Below w.heap.size w w') : Bd w' b l := h.elim (fun x => .inl (built_below x hb)) (fun x => .inr (built_below x hb))
theorem Bd.alloc {w : World} {b : Nat} {l : List UInt8} (h : Bd w b l) (o : Obj) : Bd (w.alloc o) b l := h.below ((Below.refl _ _).alloc (Nat.le_refl _) _)
theorem Bd.drew {w : World} {b : Nat} {l : List UInt8} (h : Bd w b l) : Bd w.drew b l := h.below (Below.refl _ _).drew
theorem bd_new {w : World} {b : Nat} (h : w.heap[b]? = some (.cells #[.pointer none, .slice none 0 0] 61 (0, 0))) : Bd w b [] :=
  .inl ⟨Nat.le_refl _, .slice none 0 0, h, ⟨rfl, .inl ⟨rfl, rfl⟩⟩, by simp [Value.ownBlock]⟩
theorem byteCells_str (s : ByteArray) : Lib.strCells s = Lib.byteCells s.data.toList := rfl
theorem bd_str (s : ByteArray) (b : Nat) (l : List UInt8) (w : World) (h : Bd w b l) (hlen : l.length + s.size ≤ 140737488355328) :
    Calls Tryz.prog 42 #[.pointer (some ⟨b, 0, none⟩), .string s] w fun e w' => e = .returned (.tuple #[.int .i64 s.size, .nilIface]) ∧ Bd w' b (l ++ s.data.toList) ∧ Below b w w' := by
  refine (Tryz.Builder_WriteString b b (Lib.byteCells l) s w h (by rw [Lib.byteCells_length]; exact hlen) (Nat.le_of_lt h.lt)).mono fun e w' hh => ⟨hh.1, ?_, hh.2.2⟩
  have := hh.2.1
  rw [byteCells_str, ← Lib.byteCells_append] at this
  exact .inr this
theorem bd_byte (c : UInt8) (b : Nat) (l : List UInt8) (w : World) (h : Bd w b l) (hlen : l.length + 1 ≤ 140737488355328) :
    Calls Tryz.prog 80 #[.pointer (some ⟨b, 0, none⟩), .int .u8 c.toNat] w fun e w' => e = .returned .nilIface ∧ Bd w' b (l ++ [c]) ∧ Below b w w' := by
  refine (Tryz.Builder_WriteByte b b (Lib.byteCells l) c.toNat w h (by rw [Lib.byteCells_length]; exact hlen) (Nat.le_of_lt h.lt)).mono fun e w' hh => ⟨hh.1, ?_, hh.2.2⟩
  have := hh.2.1
  rw [show [Value.int .u8 (c.toNat : Int)] = Lib.byteCells [c] from rfl, ← Lib.byteCells_append] at this
  exact .inr this
theorem bd_out (b : Nat) (l : List UInt8) (w : World) (h : Bd w b l) :
    Calls Tryz.prog 44 #[.pointer (some ⟨b, 0, none⟩)] w fun e w' => e = .returned (.string (strL l)) ∧ Below b w w' :=
  (Tryz.Builder_String_any b b l w h (Nat.le_of_lt h.lt)).mono fun _ _ hh => ⟨hh.1, hh.2⟩
end Go.Proofs.YtdinachiiimngaaGreatDoor
namespace Go.Proofs.YtdinachiiimngaaGreatDoor
open Go.ChangeShapes Go.WideShapes Go.ChangeAt Go.RowKit
open TokP

theorem bd_first (w : World) : Bd (w.alloc (.cells #[.pointer none, .slice none 0 0] 61)) w.heap.size [] := bd_new (World.alloc_heap_new w _)
end Go.Proofs.YtdinachiiimngaaGreatDoor
namespace Go.Proofs.YtdinachiiimngaaGreatDoor
open Go.ChangeShapes Go.WideShapes Go.ChangeAt Go.RowKit
open TokP

set_option maxRecDepth 100000 in
set_option maxHeartbeats 2000000 in
theorem join_any (v : Value) (l : List Tok) (w : World) (h : HasF w v l) (hl : (joinL l).length ≤ 4000000) (hn : l.length ≤ 4000000) :
    Calls Tryz.prog 31 #[v] w fun e w' => e = .returned (.string (strL (joinL l))) ∧ Below w.heap.size w w' := by
  rcases h with ⟨rfl, rfl⟩ | ⟨g, o, c, rfl, h⟩
  · have b0 := bd_first w
    have hO := bd_out _ _ _ b0
    have hb0 := (Below.refl w.heap.size w).alloc (Nat.le_refl _) (.cells #[.pointer none, .slice none 0 0] 61)
    clear hl hn b0
    go_enter Tryz.func31, Tryz.ntmps31
    go_wp2_with fail
    go_loopw [8] (fun i wr => i = .int .i64 0 ∧ wr = w.alloc (.cells #[.pointer none, .slice none 0 0] 61)) (fun _ _ => 0)
    case atStart => exact ⟨rfl, rfl⟩
    case round =>
      obtain ⟨rfl, rfl⟩ := hrel
      go_wp2_with (go_at_call 44; refine hO.mono ?_; rintro e w3 ⟨rfl, hb3⟩)
      go_ret
      exact ⟨rfl, hb0.trans hb3⟩
  · obtain ⟨n, hnn⟩ : ∃ n, l.length = n := ⟨_, rfl⟩
    rw [hnn] at hn ⊢
    have HN := Lib.hid hnn
    have HL := Lib.hid hl
    clear hnn hl
    have HST := Lib.hid (show Bd (w.alloc (.cells #[.pointer none, .slice none 0 0] 61)) w.heap.size [] ∧ Below w.heap.size w (w.alloc (.cells #[.pointer none, .slice none 0 0] 61)) from ⟨bd_first w, (Below.refl _ w).alloc (Nat.le_refl _) _⟩)
    have H := Lib.hid h
    clear h
    go_enter Tryz.func31, Tryz.ntmps31
    go_wp2_with fail
    go_loopw [8] (fun i wr => ∃ k : Nat, k ≤ n ∧ i = .int .i64 k ∧ Hid (Bd wr w.heap.size (joinL (l.take k)) ∧ Below w.heap.size w wr)) (fun i _ => n - (intOf i).toNat)
    case atStart => exact ⟨0, Nat.zero_le _, rfl, HST⟩
    case round =>
      obtain ⟨k, hk, rfl, hst⟩ := hrel
      have F1 : IntKind.i64.wrap ((k : Int) + 1) = (k : Int) + 1 := by rw [IntKind.wrap_i64]; omega
      by_cases hlt : k < n
      · have hlt' : (k : Int) < (n : Int) := by omega
        have hkl : k < l.length := by rw [HN.out]; exact hlt
        obtain ⟨f, hf⟩ : ∃ f, l[k]? = some f := ⟨_, List.getElem?_eq_getElem hkl⟩
        obtain ⟨k0, k1⟩ := H.out.step hst.out.2 k f hf
        have hrl := text_le l k f hf
        have hL := HL.out
        have HR := Lib.hid (join_step l k f hf)
        have hbd := hst.out.1.alloc (.cells #[.int .i64 (f.kind : Nat), .string (strL f.text)] 89)
        have hwz := hst.out.2.size
        have hW := bd_str (strL f.text) _ _ _ hbd (by rw [strL_size]; omega)
        rw [strL_list] at hW
        have hb1 := hst.out.2.alloc hwz (.cells #[.int .i64 (f.kind : Nat), .string (strL f.text)] 89)
        clear hf hrl hL hkl
        go_wp2_with (go_at_call 42; refine hW.mono ?_; rintro e w3 ⟨rfl, hbd3, hb3⟩)
        go_roundw
        case rel => exact ⟨k + 1, by omega, by go_num, Lib.hid ⟨by rw [HR.out]; exact hbd3, hb1.trans hb3⟩⟩
        case measure => simp [intOf]; omega
      · obtain rfl : k = n := by omega
        have hT : l.take k = l := List.take_of_length_le (by rw [HN.out]; exact Nat.le_refl _)
        have hbd := hst.out.1
        rw [hT] at hbd
        have hO := bd_out _ _ _ hbd
        have hB := Lib.hid hst.out.2
        clear hbd hT
        go_wp2_with (go_at_call 44; refine hO.mono ?_; rintro e w3 ⟨rfl, hb3⟩)
        go_ret
        exact ⟨rfl, hB.out.trans hb3⟩
end Go.Proofs.YtdinachiiimngaaGreatDoor
namespace Go.Proofs.YtdinachiiimngaaGreatDoor
open Go.ChangeShapes Go.WideShapes Go.ChangeAt Go.RowKit
open TokP AdrP CtP


/-- Block g holds the bytes l and has room for cap of them. -/
structure Buf (base : Nat) (w : World) (g cap : Nat) (l : List UInt8) : Prop where
  le : l.length ≤ cap
  max : cap ≤ maxLen
  new : base ≤ g
  lt : g < w.heap.size
  holds : ∀ j, (h : j < l.length) → w.cell? ⟨g, j, none⟩ = some (.int .u8 (l[j].toNat : Int))
  there : ∀ j, j < cap → (w.cell? ⟨g, j, none⟩).isSome = true ∧ w.frozen? ⟨g, j, none⟩ = false
theorem Buf.block {base g cap : Nat} {w w' : World} {l : List UInt8} (h : Buf base w g cap l) (hs : w.heap.size ≤ w'.heap.size) (hb : w'.heap[g]? = w.heap[g]?) : Buf base w' g cap l :=
  ⟨h.le, h.max, h.new, Nat.lt_of_lt_of_le h.lt hs, fun j hj => by rw [World.cell?_of_block (by exact hb)]; exact h.holds j hj,
   fun j hj => by rw [World.cell?_of_block (by exact hb), World.frozen?_of_block (by exact hb)]; exact h.there j hj⟩
theorem Buf.below {base g cap : Nat} {w w' : World} {l : List UInt8} (h : Buf base w g cap l) (hb : Below w.heap.size w w') : Buf base w' g cap l :=
  h.block hb.size (hb.block g h.lt)
theorem below_bytes (w : World) (s : ByteArray) : Below w.heap.size w (Lib.bytesWorld w 5 s) :=
  ⟨rfl, rfl, rfl, by rw [Lib.bytesWorld_size]; omega, fun j hj => Lib.bytesWorld_at_old w 5 s j hj⟩
theorem buf_bytes (w : World) (s : ByteArray) (hs : s.size ≤ maxLen) : Buf w.heap.size (Lib.bytesWorld w 5 s) w.heap.size (grownCap w s.size 0 5) s.data.toList := by
  have hg := grownCap_ge w s.size 0 5
  have hc : (Lib.bytesCells w 5 s).size = grownCap w s.size 0 5 := by
    unfold Lib.bytesCells
    rw [Array.size_append, Array.size_map, Array.size_replicate]
    show s.size + _ = _
    omega
  have hl : s.data.toList.length = s.size := by rw [Array.length_toList]; rfl
  refine ⟨by rw [hl]; exact hg, grownCap_le_maxLen _ _ _ _ hs, Nat.le_refl _, by rw [Lib.bytesWorld_size]; omega, fun j hj => ?_, fun j hj => ?_⟩
  · rw [Lib.bytesWorld_cell w 5 s j (by omega), List.getD_eq_getElem?_getD, List.getElem?_eq_getElem hj]; rfl
  · have hn := Lib.bytesWorld_at_new w 5 s
    constructor
    · rw [cell_of_row _ _ j _ _ _ hn, Array.getElem?_eq_getElem (by omega)]; rfl
    · simp only [World.frozen?, hn, hc]
      simp; omega
theorem byteCells_len (l : List UInt8) : (Lib.byteCells l).length = l.length := Lib.byteCells_length l
/-- Bytes written over as many. -/
theorem Buf.put {base g cap : Nat} {w : World} {D x R : List UInt8} (h : Buf base w g cap (D ++ (x ++ R))) (y : List UInt8) (hy : y.length = x.length) :
    Buf base (w.setCells g D.length (Lib.byteCells y)) g cap (D ++ (y ++ R)) := by
  have hlen : (D ++ (y ++ R)).length = (D ++ (x ++ R)).length := by simp [hy]
  have hbl := byteCells_len y
  have hle := h.le
  simp only [List.length_append] at hle
  have hsz : (w.setCells g D.length (Lib.byteCells y)).heap.size = w.heap.size := by
    have : ∀ (vs : List Value) (o : Nat) (w : World), (w.setCells g o vs).heap.size = w.heap.size := by
      intro vs
      induction vs with
      | nil => intro o w; rfl
      | cons v r ih => intro o w; rw [World.setCells, ih]; simp [World.setCell]
    exact this _ _ _
  have hin := World.cell?_setCells_in g (Lib.byteCells y) D.length w (fun j hj => (h.there (D.length + j) (by omega)).1)
  refine ⟨by rw [hlen]; exact h.le, h.max, h.new, by rw [hsz]; exact h.lt, fun j hj => ?_, fun j hj => ?_⟩
  · by_cases c1 : j < D.length
    · rw [World.cell?_setCells_out g _ _ _ _ (fun _ _ => .inl c1), h.holds j (by rw [← hlen]; exact hj), List.getElem_append_left c1, List.getElem_append_left c1]
    · by_cases c2 : j < D.length + y.length
      · obtain ⟨k, rfl⟩ : ∃ k, j = D.length + k := ⟨j - D.length, by omega⟩
        rw [hin k (by rw [hbl]; omega), List.getElem_append_right (by omega)]
        simp only [Nat.add_sub_cancel_left]
        rw [List.getElem_append_left (by omega)]
        simp [Lib.byteCells]
      · rw [World.cell?_setCells_out g _ _ _ _ (fun _ _ => .inr (by rw [hbl]; simp only; omega)), h.holds j (by rw [← hlen]; exact hj), List.getElem_append_right (by omega), List.getElem_append_right (by omega), List.getElem_append_right (by omega), List.getElem_append_right (by omega)]
        congr 2
        simp only [hy]
  · rw [World.frozen?_setCells]
    refine ⟨?_, (h.there j hj).2⟩
    by_cases c1 : D.length ≤ j ∧ j < D.length + y.length
    · obtain ⟨k, rfl⟩ : ∃ k, j = D.length + k := ⟨j - D.length, by omega⟩
      rw [hin k (by rw [hbl]; omega)]; rfl
    · rw [World.cell?_setCells_out g _ _ _ _ (fun _ _ => by rw [hbl]; simp only; omega)]
      exact (h.there j hj).1
theorem low_big (c : UInt8) (x : Nat) (hx : c.toNat = x) (h1 : 65 ≤ x) (h2 : x ≤ 90) : (lowA c).toNat = x + 32 := by
  have : ∀ n : Fin 256, 65 ≤ n.val → n.val ≤ 90 → (lowA (UInt8.ofNat n.val)).toNat = n.val + 32 := by decide +kernel
  have h := this ⟨c.toNat, c.toNat_lt⟩ (by simp only; omega) (by simp only; omega)
  simp only [UInt8.ofNat_toNat] at h
  omega
theorem low_other (c : UInt8) (x : Nat) (hx : c.toNat = x) (h : x < 65 ∨ 90 < x) : lowA c = c := by
  have : ∀ n : Fin 256, (n.val < 65 ∨ 90 < n.val) → lowA (UInt8.ofNat n.val) = UInt8.ofNat n.val := by decide +kernel
  have h := this ⟨c.toNat, c.toNat_lt⟩ (by simp only; omega)
  simp only [UInt8.ofNat_toNat] at h
  exact h
theorem low_next (s : List UInt8) (k : Nat) (c : UInt8) (h : s[k]? = some c) : (s.take (k + 1)).map lowA = (s.take k).map lowA ++ [lowA c] := by
  rw [List.take_add_one, h, List.map_append]; rfl
theorem drop_cons' (s : List UInt8) (k : Nat) (c : UInt8) (h : s[k]? = some c) : s.drop k = c :: s.drop (k + 1) := by
  obtain ⟨hk, rfl⟩ := List.getElem?_eq_some_iff.1 h
  exact List.drop_eq_getElem_cons hk
set_option maxHeartbeats 1000000 in
theorem lower_any (D : ByteArray) (hD : D.size ≤ 4000000) (W : World) :
    Calls Tryz.prog 33 #[.string D] W fun e w' => e = .returned (.string (strL (D.data.toList.map lowA))) ∧ Below W.heap.size W w' := by
  have hcv := fun w : World => Lib.run_convert_string_bytes (P := Tryz.prog) w 9 59 5 D Tryz.underlying9 Tryz.underlying59 Tryz.underlying5
  have HLD := Lib.hid (size_list D)
  obtain ⟨ANS, hA⟩ : ∃ z, strL (D.data.toList.map lowA) = z := ⟨_, rfl⟩
  rw [hA]
  have HA := Lib.hid hA
  clear hA
  have hb0 := buf_bytes W D (by unfold maxLen; omega)
  have hbel0 := below_bytes W D
  obtain ⟨CAP, hCAP⟩ : ∃ c, grownCap W D.size 0 5 = c := ⟨_, rfl⟩
  have HB0 := Lib.hid hb0
  have HE0 := Lib.hid hbel0
  clear hb0 hbel0
  go_enter Tryz.func33, Tryz.ntmps33
  go_wp2_with fail
  have hb0 := HB0.out
  have hbel0 := HE0.out
  rw [hCAP] at hb0
  generalize Lib.bytesWorld W 5 D = W1 at hb0 hbel0 ⊢
  obtain ⟨G, hG⟩ : ∃ G, W.heap.size = G := ⟨_, rfl⟩
  rw [hG] at hb0 hbel0 ⊢
  have HGW := Lib.hid hG
  clear hG hcv
  go_loopw [10] (fun i wr => ∃ k : Nat, k ≤ D.size ∧ i = .int .i64 k ∧ Hid (Buf G wr G CAP ((D.data.toList.take k).map lowA ++ D.data.toList.drop k)) ∧ Hid (Below G W wr)) (fun i _ => D.size - (intOf i).toNat)
  case atStart => exact ⟨0, Nat.zero_le _, rfl, hb0, hbel0⟩
  case round =>
    obtain ⟨k, hk, rfl, HBf, HBe⟩ := hrel
    clear hb0 hbel0 HB0 HE0
    have F1 : IntKind.i64.wrap ((k : Int) + 1) = (k : Int) + 1 := by rw [IntKind.wrap_i64]; omega
    by_cases hlt : k < D.size
    · have hlt' : (k : Int) < (D.size : Int) := by omega
      obtain ⟨c, x, hc, hx, hx2, _⟩ := run_byte D k hlt
      have hln : ((D.data.toList.take k).map lowA).length = k := by have hlD := HLD.out; rw [List.length_map, List.length_take]; omega
      have hdr := drop_cons' D.data.toList k c hc
      have hnx := low_next D.data.toList k c hc
      have hbf := HBf.out
      rw [hdr] at hbf
      have ck : wr.cell? ⟨G, k, none⟩ = some (.int .u8 (x : Int)) := by
        have := hbf.holds k (by rw [List.length_append, hln]; simp)
        rw [List.getElem_append_right (by omega)] at this
        simp only [hln, Nat.sub_self, List.getElem_cons_zero, hx] at this
        exact this
      have cf := (hbf.there k (by have := hbf.le; rw [List.length_append, hln, List.length_cons] at this; omega)).2
      by_cases h65 : 65 ≤ x
      · have h65' : (65 : Int) ≤ (x : Int) := by omega
        by_cases h90 : x ≤ 90
        · have h90' : (x : Int) ≤ 90 := by omega
          have Fx : IntKind.u8.wrap ((x : Int) + 97) = (x : Int) + 97 := by rw [IntKind.wrap_u8]; omega
          have Fy : IntKind.u8.wrap ((x : Int) + 97 - 65) = (x : Int) + 32 := by rw [IntKind.wrap_u8]; omega
          have Fz : (x : Int) + 97 - 65 = (x : Int) + 32 := by omega
          have Fw : IntKind.u8.wrap ((x : Int) + 32) = (x : Int) + 32 := by rw [IntKind.wrap_u8]; omega
          have hput := Buf.put (D := (D.data.toList.take k).map lowA) (x := [c]) (R := D.data.toList.drop (k + 1)) hbf [lowA c] rfl
          rw [hln] at hput
          have HP : Hid (Buf G (wr.setCell ⟨G, k, none⟩ (.int .u8 ((x : Int) + 32))) G CAP ((D.data.toList.take (k + 1)).map lowA ++ D.data.toList.drop (k + 1))) := by
            show Buf G _ G CAP _
            rw [hnx, List.append_assoc]
            have e : (Lib.byteCells [lowA c]) = [.int .u8 ((x : Int) + 32)] := by
              simp [Lib.byteCells, low_big c x hx h65 h90]
            rw [e] at hput
            exact hput
          have HP2 : Hid (Below G W (wr.setCell ⟨G, k, none⟩ (.int .u8 ((x : Int) + 32)))) := Below.setCell HBe.out (by show G ≤ G; exact Nat.le_refl _) _
          clear hc hx hx2 hdr hnx hbf hput HBf HBe h65 h90
          go_wp2_with fail
          go_roundw
          case rel => exact ⟨k + 1, by omega, by go_num, HP, HP2⟩
          case measure => simp [intOf]; omega
        · have h90' : ¬ (x : Int) ≤ 90 := by omega
          have HP : Hid (Buf G wr G CAP ((D.data.toList.take (k + 1)).map lowA ++ D.data.toList.drop (k + 1))) := by
            show Buf G _ G CAP _
            rw [hnx, List.append_assoc, low_other c x hx (.inr (by omega))]
            exact hbf
          clear hc hx hx2 hdr hnx hbf HBf h65 h90
          go_wp2_with fail
          go_roundw
          case rel => exact ⟨k + 1, by omega, by go_num, HP, HBe⟩
          case measure => simp [intOf]; omega
      · have h65' : ¬ (65 : Int) ≤ (x : Int) := by omega
        have HP : Hid (Buf G wr G CAP ((D.data.toList.take (k + 1)).map lowA ++ D.data.toList.drop (k + 1))) := by
          show Buf G _ G CAP _
          rw [hnx, List.append_assoc, low_other c x hx (.inl (by omega))]
          exact hbf
        clear hc hx hx2 hdr hnx hbf HBf h65
        go_wp2_with fail
        go_roundw
        case rel => exact ⟨k + 1, by omega, by go_num, HP, HBe⟩
        case measure => simp [intOf]; omega
    · obtain rfl : k = D.size := by omega
      have hlt' : ¬ (D.size : Int) < (D.size : Int) := by omega
      have hbf := HBf.out
      rw [List.take_of_length_le (by rw [← HLD.out]; exact Nat.le_refl _), List.drop_eq_nil_of_le (by rw [← HLD.out]; exact Nat.le_refl _), List.append_nil] at hbf
      have hll : (D.data.toList.map lowA).length = D.size := by rw [List.length_map, HLD.out]
      have hcb : (convert 59 9 (.slice (some ⟨G, 0, none⟩) D.size CAP)).run Tryz.prog wr = .ok (.string (strL (D.data.toList.map lowA))) wr := by
        have := run_convert_bytes_back (P := Tryz.prog) wr 59 9 5 ⟨G, 0, none⟩ CAP (D.data.toList.map lowA) Tryz.underlying59 Tryz.underlying5 Tryz.underlying9 (fun j hj => by
          have h1 := hbf.holds j hj
          have e : (⟨G, 0, none⟩ : Addr).add j = ⟨G, j, none⟩ := by unfold Addr.add; split <;> simp_all
          rw [e]; exact h1)
        rw [hll] at this
        exact this
      have hbe := HBe.out
      rw [HA.out] at hcb
      have HBX := Lib.hid hbe
      clear hbf hbe HBf HBe
      go_wp2_with fail
      go_ret
      exact ⟨rfl, by rw [HGW.out]; exact HBX.out⟩
end Go.Proofs.YtdinachiiimngaaGreatDoor
namespace Go.Proofs.YtdinachiiimngaaGreatDoor
open Go.ChangeShapes Go.WideShapes Go.ChangeAt Go.RowKit
open TokP

/-- The builder in block b holds O, all older memory lies as it lay. -/
structure Ub (w0 w : World) (b : Nat) (O : List UInt8) : Prop where
  bd : Bd w b O
  bel : Below b w0 w
theorem Ub.put {w0 w w' : World} {b : Nat} {O O' : List UInt8} (h : Ub w0 w b O) (hb : Bd w' b O') (hk : Below b w w') : Ub w0 w' b O' := ⟨hb, h.bel.trans hk⟩
theorem ub_first (w : World) : Ub w (w.alloc (.cells #[.pointer none, .slice none 0 0] 61)) w.heap.size [] := ⟨bd_first w, (Below.refl _ w).alloc (Nat.le_refl _) _⟩
theorem Ub.byte {w0 w : World} {b : Nat} {O : List UInt8} (h : Ub w0 w b O) (c : UInt8) (x : Nat) (hx : c.toNat = x) (hO : O.length ≤ 4000000) :
    Calls Tryz.prog 80 #[.pointer (some ⟨b, 0, none⟩), .int .u8 x] w fun e w' => e = .returned .nilIface ∧ Ub w0 w' b (O ++ [c]) := by
  subst hx
  exact (bd_byte c b O w h.bd (by omega)).mono fun _ _ hh => ⟨hh.1, h.put hh.2.1 hh.2.2⟩
theorem Ub.out {w0 w : World} {b : Nat} {O : List UInt8} (h : Ub w0 w b O) :
    Calls Tryz.prog 44 #[.pointer (some ⟨b, 0, none⟩)] w fun e w' => e = .returned (.string (strL O)) ∧ Below b w0 w' :=
  (bd_out b O w h.bd).mono fun _ _ hh => ⟨hh.1, h.bel.trans hh.2⟩
set_option maxRecDepth 100000 in
set_option maxHeartbeats 2000000 in
theorem unesc_any (s : ByteArray) (hs : s.size ≤ 4000000) (w : World) :
    Calls Tryz.prog 146 #[.string s] w fun e w' => e = .returned (.string (strL (unescS false s.data.toList))) ∧ Below w.heap.size w w' := by
  obtain ⟨n, hn⟩ : ∃ n, s.size = n := ⟨_, rfl⟩
  have HL := Lib.hid (size_list s)
  rw [hn] at hs
  have HN := Lib.hid hn
  clear hn
  obtain ⟨R, hR⟩ : ∃ R, unescS false s.data.toList = R := ⟨_, rfl⟩
  have HR := Lib.hid hR
  rw [hR]
  clear hR
  have HST := Lib.hid (ub_first w)
  go_enter Tryz.func146, Tryz.ntmps146
  go_wp2_with fail
  go_loopw [4] (fun i wr => ∃ (k : Nat) (O : List UInt8), k ≤ n + 1 ∧ i = .int .i64 k ∧ O.length ≤ k ∧ Hid (O ++ unescS false (s.data.toList.drop k) = R) ∧ Hid (Ub w wr w.heap.size O)) (fun i _ => n + 1 - (intOf i).toNat)
  case atStart => exact ⟨0, [], by omega, rfl, Nat.le_refl _, Lib.hid HR.out, HST⟩
  case round =>
    obtain ⟨k, O, hk, rfl, hO, HE, HU⟩ := hrel
    have F1 : IntKind.i64.wrap ((k : Int) + 1) = (k : Int) + 1 := by rw [IntKind.wrap_i64]; omega
    have F2 : IntKind.i64.wrap ((k : Int) + 1 + 1) = (k : Int) + 1 + 1 := by rw [IntKind.wrap_i64]; omega
    have hn : s.size = n := HN.out
    by_cases hlt : k < n
    · have hlt' : (k : Int) < (n : Int) := by omega
      obtain ⟨c, x, hc, hx, hx2, S1⟩ := run_byte s k (by rw [hn]; exact hlt)
      have e10 := byte_is c x hx 10 (by decide)
      have e13 := byte_is c x hx 13 (by decide)
      have e92 := byte_is c x hx 92 (by decide)
      rw [show ((10 : Nat) : Int) = 10 from rfl] at e10
      rw [show ((13 : Nat) : Int) = 13 from rfl] at e13
      rw [show ((92 : Nat) : Int) = 92 from rfl] at e92
      by_cases h10 : c = 10
      · rw [show decide (c = UInt8.ofNat 10) = true from decide_eq_true h10] at e10
        have HE2 := Lib.hid ((congrArg (O ++ ·) (un_break _ k c hc (.inl h10))).symm.trans HE.out)
        clear h10 e13 e92 hc hx hx2 HE
        go_wp2_with fail
        go_roundw
        case rel => exact ⟨k + 1, O, by omega, by go_num, by omega, HE2, HU⟩
        case measure => simp [intOf]; omega
      · rw [show decide (c = UInt8.ofNat 10) = false from decide_eq_false h10] at e10
        by_cases h13 : c = 13
        · rw [show decide (c = UInt8.ofNat 13) = true from decide_eq_true h13] at e13
          have HE2 := Lib.hid ((congrArg (O ++ ·) (un_break _ k c hc (.inr h13))).symm.trans HE.out)
          clear h10 h13 e92 hc hx hx2 HE
          go_wp2_with fail
          go_roundw
          case rel => exact ⟨k + 1, O, by omega, by go_num, by omega, HE2, HU⟩
          case measure => simp [intOf]; omega
        · rw [show decide (c = UInt8.ofNat 13) = false from decide_eq_false h13] at e13
          by_cases h92 : c = 92
          · rw [show decide (c = UInt8.ofNat 92) = true from decide_eq_true h92] at e92
            rw [h92] at hc
            by_cases hl2 : k + 1 < n
            · have hl2' : (k : Int) + 1 < (n : Int) := by omega
              obtain ⟨d, y, hd, hy, hy2, S2⟩ := run_byte s (k + 1) (by rw [hn]; exact hl2)
              rw [show ((k + 1 : Nat) : Int) = (k : Int) + 1 from by omega] at S2
              have HE2 := Lib.hid (show (O ++ [d]) ++ unescS false (s.data.toList.drop (k + 2)) = R by rw [← HE.out, un_esc1 _ k d hc hd, List.append_assoc]; rfl)
              have cB := HU.out.byte d y hy (by omega)
              clear h10 h13 h92 hc hx hx2 HE hd hy hy2
              go_wp2_with (go_at_call 80; with_reducible refine cB.mono ?_; rintro e w2 ⟨rfl, hu2⟩; replace hu2 := Lib.hid hu2)
              go_roundw
              case rel => exact ⟨k + 2, O ++ [d], by omega, by go_num, by rw [List.length_append, List.length_singleton]; omega, HE2, hu2⟩
              case measure => simp [intOf]; omega
            · have hl2' : ¬ (k : Int) + 1 < (n : Int) := by omega
              have HE2 := Lib.hid ((congrArg (O ++ ·) (un_esc0 _ k hc (by rw [← HL.out, hn]; omega))).symm.trans HE.out)
              clear h10 h13 h92 hc hx hx2 HE
              go_wp2_with fail
              go_roundw
              case rel => exact ⟨k + 2, O, by omega, by go_num, by omega, HE2, HU⟩
              case measure => simp [intOf]; omega
          · rw [show decide (c = UInt8.ofNat 92) = false from decide_eq_false h92] at e92
            have HE2 := Lib.hid (show (O ++ [c]) ++ unescS false (s.data.toList.drop (k + 1)) = R by rw [← HE.out, un_plain _ k c hc h92 (fun e => e.elim h10 h13), List.append_assoc]; rfl)
            have cB := HU.out.byte c x hx (by omega)
            clear h10 h13 h92 hc hx hx2 HE
            go_wp2_with (go_at_call 80; with_reducible refine cB.mono ?_; rintro e w2 ⟨rfl, hu2⟩; replace hu2 := Lib.hid hu2)
            go_roundw
            case rel => exact ⟨k + 1, O ++ [c], by omega, by go_num, by rw [List.length_append, List.length_singleton]; omega, HE2, hu2⟩
            case measure => simp [intOf]; omega
    · have hlt' : ¬ (k : Int) < (n : Int) := by omega
      have he : O = R := by
        have h := HE.out
        rw [List.drop_eq_nil_of_le (by rw [← HL.out, hn]; omega), unescS, List.append_nil] at h
        exact h
      subst he
      have cO := HU.out.out
      clear HE
      go_wp2_with (go_at_call 44; with_reducible refine cO.mono ?_; rintro e w2 ⟨rfl, hb2⟩)
      go_ret
      exact ⟨rfl, hb2⟩
end Go.Proofs.YtdinachiiimngaaGreatDoor
namespace Go.Proofs.YtdinachiiimngaaGreatDoor
open Go.ChangeShapes Go.WideShapes Go.ChangeAt Go.RowKit

/-- The strings.Builder in block b holds l. -/
def Bk (w : World) (b : Nat) (l : List UInt8) : Prop := Lib.IsBuilderF 61 5 b b (Lib.byteCells l) w
theorem bk_lt {w : World} {b : Nat} {l : List UInt8} (h : Bk w b l) : b < w.heap.size := h.elim (fun x => x.lt) (fun x => x.lt)
theorem bk_new (w : World) : Bk (w.alloc (.cells #[.pointer none, .slice none 0 0] 61)) w.heap.size [] := Lib.IsBuilderF.of (bd_first w)
theorem ownF_below {w w' : World} {base : Nat} {e : TypeId} {size : Nat} {v : Value} {n : Nat} {xs : List Value} (h : w.ownsRowF base e size v n xs) (hb : Below w.heap.size w w') : w'.ownsRowF base e size v n xs := by
  refine ⟨h.1, ?_⟩
  rcases h.2 with h1 | ⟨g, cap, cur, fz, rfl, hbg, hg, rest⟩
  · exact .inl h1
  · refine .inr ⟨g, cap, cur, fz, rfl, hbg, ?_, rest⟩
    rw [hb.block g (Array.getElem?_eq_some_iff.1 hg).1]
    exact hg
theorem builtF_below {T e : TypeId} {B b : Nat} {p : Value} {bs : List Value} {w w' : World} (h : Lib.BuilderAtF T e B b p bs w) (hb : Below w.heap.size w w') : Lib.BuilderAtF T e B b p bs w' := by
  have hlt := h.lt
  obtain ⟨hB, v, hk, hown, hne⟩ := h
  exact ⟨hB, v, by rw [hb.block b hlt]; exact hk, ownF_below hown hb, hne⟩
theorem Bk.below {w w' : World} {b : Nat} {l : List UInt8} (h : Bk w b l) (hb : Below w.heap.size w w') : Bk w' b l := h.elim (fun x => .inl (builtF_below x hb)) (fun x => .inr (builtF_below x hb))
theorem Bk.alloc {w : World} {b : Nat} {l : List UInt8} (h : Bk w b l) (o : Obj) : Bk (w.alloc o) b l := h.below ((Below.refl _ _).alloc (Nat.le_refl _) _)
theorem bk_str (s : ByteArray) (b : Nat) (l : List UInt8) (w : World) (h : Bk w b l) (hlen : l.length + s.size ≤ 140737488355328) :
    Calls Tryz.prog 42 #[.pointer (some ⟨b, 0, none⟩), .string s] w fun e w' => e = .returned (.tuple #[.int .i64 s.size, .nilIface]) ∧ Bk w' b (l ++ s.data.toList) ∧ Below b w w' ∧ Lib.OthersKept 5 (some b) w w' := by
  refine (Tryz.Builder_WriteString_k b b (Lib.byteCells l) s w h (by rw [Lib.byteCells_length]; exact hlen) (Nat.le_of_lt (bk_lt h))).mono fun e w' hh => ⟨hh.1, ?_, hh.2.2⟩
  have := hh.2.1
  rw [show Lib.strCells s = Lib.byteCells s.data.toList from rfl, ← Lib.byteCells_append] at this
  exact .inr this
theorem bk_byte (c : UInt8) (x : Int) (hx : (c.toNat : Int) = x) (b : Nat) (l : List UInt8) (w : World) (h : Bk w b l) (hlen : l.length + 1 ≤ 140737488355328) :
    Calls Tryz.prog 80 #[.pointer (some ⟨b, 0, none⟩), .int .u8 x] w fun e w' => e = .returned .nilIface ∧ Bk w' b (l ++ [c]) ∧ Below b w w' ∧ Lib.OthersKept 5 (some b) w w' := by
  subst hx
  refine (Tryz.Builder_WriteByte_k b b (Lib.byteCells l) c.toNat w h (by rw [Lib.byteCells_length]; exact hlen) (Nat.le_of_lt (bk_lt h))).mono fun e w' hh => ⟨hh.1, ?_, hh.2.2⟩
  have := hh.2.1
  rw [show [Value.int .u8 (c.toNat : Int)] = Lib.byteCells [c] from rfl, ← Lib.byteCells_append] at this
  exact .inr this
theorem bk_out (b : Nat) (l : List UInt8) (w : World) (h : Bk w b l) :
    Calls Tryz.prog 44 #[.pointer (some ⟨b, 0, none⟩)] w fun e w' => e = .returned (.string (strL l)) ∧ Below b w w' :=
  (Tryz.Builder_String_any_k b b l w h (Nat.le_of_lt (bk_lt h))).mono fun _ _ hh => ⟨hh.1, hh.2.2.1⟩
/-- A cell of an object that holds no single bytes and is not the builder's stays. -/
theorem cell_others {w w' : World} {b g o : Nat} {cs : Array Value} {t : TypeId} {fz : Nat × Nat} {v : Value} (hg : w.heap[g]? = some (.cells cs t fz)) (hk : Lib.OthersKept 5 (some b) w w') (hne : g ≠ b) (ht : t ≠ 5) (h : w.cell? ⟨g, o, none⟩ = some v) : w'.cell? ⟨g, o, none⟩ = some v := by
  have := hk g _ hg (by simp; exact hne) (fun c fz' e => by injection e with _ e _; exact ht e)
  rw [World.cell?_of_block (w := w) (this.trans hg.symm)]
  exact h
end Go.Proofs.YtdinachiiimngaaGreatDoor
