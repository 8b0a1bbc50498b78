/- Escape sequences: written, and read in a text. -/
import Derived.Test.YtblbajhjmdcdiaaDoorUnhex2
import Derived.Test.YtblbajhjmdcdiaaDoorHexFacts
import Derived.Test.YtblbajhjmdcdiaaDoorQpPure
import Derived.BigCall
namespace Go.Proofs.YtblbajhjmdcdiaaDoor
open Go.ChangeShapes Go.WideShapes Go.ChangeAt Go.RowKit

theorem hx_dig (c : Nat) : hx c = dig c := rfl
theorem upper_digit : ∀ n : Fin 16, Lib.upperB (hexD n.val) = hexU n.val := by decide
theorem digit_low : ∀ n : Fin 16, (hexD n.val).toNat < 128 := by decide
theorem hexL_one (c : UInt8) : hexL [c] = [hexD (c.toNat / 16), hexD (c.toNat % 16)] := rfl
theorem upper_hex (c : UInt8) : Lib.toUpperA (hexL [c]) = [hexU (c.toNat / 16), hexU (c.toNat % 16)] := by
  have h1 := upper_digit ⟨c.toNat / 16, by have := c.toNat_lt; omega⟩
  have h2 := upper_digit ⟨c.toNat % 16, by omega⟩
  rw [hexL_one]
  show [Lib.upperB _, Lib.upperB _] = _
  rw [h1, h2]
theorem low_hex (c : UInt8) : ∀ (j : Nat) (b : UInt8), (strL (hexL [c])).data.toList[j]? = some b → b.toNat < 128 := by
  intro j b hb
  have hm := List.mem_of_getElem? hb
  rw [strL_list, hexL_one] at hm
  simp only [List.mem_cons, List.not_mem_nil, or_false] at hm
  rcases hm with rfl | rfl
  · exact digit_low ⟨c.toNat / 16, by have := c.toNat_lt; omega⟩
  · exact digit_low ⟨c.toNat % 16, by omega⟩

theorem upper_any (c : UInt8) (w : World) :
    Calls Tryd.prog 58 #[.string (strL (hexL [c]))] w fun e w' => e = .returned (.string (strL [hexU (c.toNat / 16), hexU (c.toNat % 16)])) ∧ Below w.heap.size w w' := by
  have h := Tryd.strings_ToUpper_ascii (strL (hexL [c])) w (by rw [strL_size, hexL_length]; simp) (low_hex c)
  rw [strL_list, upper_hex] at h
  exact h
theorem escaped_any (s : ByteArray) (c : UInt8) (hs : s.data.toList = [c]) (w : World) :
    Calls Tryd.prog 44 #[.string s] w fun e w' => e = .returned (.string (strL (esc c))) ∧ Below w.heap.size w w' := by
  have hsz : s.size = 1 := by rw [size_list, hs]; rfl
  have h59 : Calls Tryd.prog 59 #[.string s] w fun e w' => e = .returned (.string (strL (hexL [c]))) ∧ Below w.heap.size w w' := by
    have := hex_any s (by omega) w
    rw [hs] at this
    exact this
  have HE : ∀ x y : UInt8, (⟨#[61]⟩ : ByteArray) ++ strL [x, y] = strL [61, x, y] := fun x y => bytes_is (by rw [list_append]; rfl)
  go_enter Tryd.func44, Tryd.ntmps44
  go_wp2_with (go_at_call 59; refine h59.mono ?_)
  rintro e w1 ⟨rfl, hb1⟩
  go_wp2_with (go_at_call 58; refine (upper_any c w1).mono ?_)
  rintro e w2 ⟨rfl, hb2⟩
  go_wp2
  go_ret
  exact ⟨by first | rfl | (rw [HE]; rfl), Qtrans hb1 hb2⟩

/-! ### The byte that a text starts with, escaped -/
theorem unhexOk_two (a b : UInt8) : unhexOk [a, b] = decide (hx a.toNat < 16 ∧ hx b.toNat < 16) := by
  rw [hx_dig, hx_dig]
  unfold unhexOk
  simp
theorem unhexS_two (a b : UInt8) (h : hx a.toNat < 16 ∧ hx b.toNat < 16) : unhexS [a, b] = [UInt8.ofNat (16 * hx a.toNat + hx b.toNat)] := by
  unfold unhexS
  rw [unhexOk_two, if_pos (by simpa using h), show ([a, b] : List UInt8).length / 2 = 0 + 1 by simp, bytesTo_succ]
  rfl
theorem unhexS_not (a b : UInt8) (h : ¬ (hx a.toNat < 16 ∧ hx b.toNat < 16)) : unhexS [a, b] = [] := by
  unfold unhexS
  rw [unhexOk_two, if_neg (by simpa using h)]
/-- What unescapedStart returns beside the flag. -/
def headL (l : List UInt8) : List UInt8 := match escHead l with
  | some b => [b]
  | none => []
theorem start_none (s : ByteArray) (h : escHead s.data.toList = none) : headL s.data.toList = [] ∧ (escHead s.data.toList).isSome = false := by
  unfold headL
  rw [h]
  exact ⟨rfl, rfl⟩
theorem escHead_short (l : List UInt8) (h : l.length < 3) : escHead l = none := by
  match l, h with
  | [], _ => rfl
  | [_], _ => rfl
  | [_, _], _ => rfl
  | _ :: _ :: _ :: _, h => exact absurd h (by simp)

set_option maxRecDepth 100000 in
set_option maxHeartbeats 1600000 in
theorem start_any (s : ByteArray) (hs : s.size ≤ 1000000) (w : World) :
    Calls Tryd.prog 51 #[.string s] w fun e w' => e = .returned (.tuple #[.string (strL (headL s.data.toList)), .bool (escHead s.data.toList).isSome]) ∧ Below w.heap.size w w' := by
  by_cases h3 : s.size < 3
  · have hn := start_none s (escHead_short _ (by rw [← size_list]; exact h3))
    rw [hn.1, hn.2]
    have HN := Lib.hid hn
    clear hn
    go_enter Tryd.func51, Tryd.ntmps51
    go_wp2
    go_ret2
    exact ⟨rfl, Below.refl _ _⟩
  · obtain ⟨c, a, b, r, hl⟩ : ∃ c a b r, s.data.toList = c :: a :: b :: r := by
      have := size_list s
      match hl : s.data.toList with
      | [] => exfalso; rw [hl, List.length_nil] at this; omega
      | [_] => exfalso; rw [hl, List.length_cons, List.length_nil] at this; omega
      | [_, _] => exfalso; rw [hl, List.length_cons, List.length_cons, List.length_nil] at this; omega
      | c :: a :: b :: r => exact ⟨c, a, b, r, rfl⟩
    have h0 : 0 < s.size := by omega
    have hc : s[0] = c := by
      rw [← at_list s 0 h0 (by rw [← size_list]; exact h0)]
      simp [hl]
    by_cases h61 : c = 61
    · have hp : s.extract 1 3 = strL [a, b] := by
        rw [part_of s 1 3 (by omega) (by omega), hl]; rfl
      have hu := unhex_any (strL [a, b]) (by rw [strL_size]; simp) w
      rw [strL_list] at hu
      have hr : unhexS [a, b] = headL (c :: a :: b :: r) ∧ unhexOk [a, b] = (escHead (c :: a :: b :: r)).isSome := by
        unfold headL
        by_cases hh : hx a.toNat < 16 ∧ hx b.toNat < 16
        · have : escHead (c :: a :: b :: r) = some (UInt8.ofNat (16 * hx a.toNat + hx b.toNat)) := by
            show (if _ then _ else _) = _
            rw [if_pos ⟨h61, hh⟩]
          rw [this, unhexS_two a b hh, unhexOk_two, decide_eq_true hh]
          exact ⟨rfl, rfl⟩
        · have : escHead (c :: a :: b :: r) = none := by
            show (if _ then _ else _) = _
            rw [if_neg (fun k => hh k.2)]
          rw [this, unhexS_not a b hh, unhexOk_two, decide_eq_false hh]
          exact ⟨rfl, rfl⟩
      rw [hl, ← hr.1, ← hr.2]
      rw [← hp] at hu
      have HU := Lib.hid hu
      clear hu hr hl hp
      have hq : s[0] = 61 := hc.trans h61
      have hn : ((s[0].toNat : Int) != 61) = false := by rw [hq]; rfl
      go_enter Tryd.func51, Tryd.ntmps51
      go_wp2_with (go_at_call 65; refine HU.out.mono ?_)
      rintro e w1 ⟨rfl, hb1⟩
      go_wp2
      go_ret2
      exact ⟨rfl, hb1⟩
    · have hn0 := start_none s (by rw [hl]; exact escHead_ne h61 _)
      rw [hn0.1, hn0.2]
      have HN := Lib.hid hn0
      have HL := Lib.hid hl
      clear hn0 hl
      have hn : ((c.toNat : Int) != 61) = true := by
        rw [bne_iff_ne]
        intro e
        exact h61 (UInt8.toNat_inj.1 (by have : c.toNat = 61 := by omega
                                         exact this))
      go_enter Tryd.func51, Tryd.ntmps51
      go_wp2
      go_ret2
      exact ⟨rfl, Below.refl _ _⟩
end Go.Proofs.YtblbajhjmdcdiaaDoor
