/- Hexadecimal decoding, num's and the reference's. -/
import Derived.Test.YtemgjjnkdopnnaaDoorDigit
import Derived.Test.YtemgjjnkdopnnaaDoorRefHex
namespace Go.Proofs.YtemgjjnkdopnnaaDoor
open Go.ChangeShapes Go.WideShapes Go.ChangeAt Go.RowKit

/-- The byte that the digits at 2t and 2t + 1 spell. -/
def byteAt (l : List UInt8) (t : Nat) : UInt8 := UInt8.ofNat (16 * dig (l.getD (2 * t) 0).toNat + dig (l.getD (2 * t + 1) 0).toNat)
/-- The first j bytes. -/
def bytesTo (l : List UInt8) (j : Nat) : List UInt8 := (List.range j).map (byteAt l)
/-- Are the first n bytes hexadecimal digits? -/
def digsTo (l : List UInt8) (n : Nat) : Prop := ∀ t, t < n → dig (l.getD t 0).toNat < 16
/-- May l be decoded? -/
def unhexOk (l : List UInt8) : Bool := decide (l.length % 2 = 0) && l.all fun c => decide (dig c.toNat < 16)
/-- What is decoded; nothing if it may not be decoded. -/
def unhexS (l : List UInt8) : List UInt8 := if unhexOk l = true then bytesTo l (l.length / 2) else []

theorem bytesTo_length (l : List UInt8) (j : Nat) : (bytesTo l j).length = j := by simp [bytesTo]
theorem bytesTo_succ (l : List UInt8) (j : Nat) : bytesTo l (j + 1) = bytesTo l j ++ [byteAt l j] := by simp [bytesTo, List.range_succ]
theorem getD_byte (s : ByteArray) (k : Nat) (h : k < s.size) : s.data.toList.getD k 0 = s[k] := by
  rw [List.getD_eq_getElem?_getD, List.getElem?_eq_getElem (by simpa using h)]; rfl
theorem unhexOk_odd {l : List UInt8} (h : ¬ l.length % 2 = 0) : unhexOk l = false := by simp [unhexOk, h]
theorem unhexOk_all {l : List UInt8} (h : l.length % 2 = 0) (ha : digsTo l l.length) : unhexOk l = true := by
  simp only [unhexOk, h, decide_true, Bool.true_and, List.all_eq_true, decide_eq_true_eq]
  intro c hc
  obtain ⟨t, ht, rfl⟩ := List.getElem_of_mem hc
  have := ha t ht
  rwa [List.getD_eq_getElem?_getD, List.getElem?_eq_getElem ht] at this
theorem unhexOk_bad {l : List UInt8} {t : Nat} (ht : t < l.length) (h : ¬ dig (l.getD t 0).toNat < 16) : unhexOk l = false := by
  rw [Bool.eq_false_iff]
  intro hh
  simp only [unhexOk, Bool.and_eq_true, List.all_eq_true, decide_eq_true_eq] at hh
  refine h ?_
  rw [List.getD_eq_getElem?_getD, List.getElem?_eq_getElem ht]
  exact hh.2 _ (List.getElem_mem ht)
theorem digsTo_two {l : List UInt8} {j : Nat} (h : digsTo l (2 * j)) (h1 : dig (l.getD (2 * j) 0).toNat < 16) (h2 : dig (l.getD (2 * j + 1) 0).toNat < 16) : digsTo l (2 * (j + 1)) := by
  intro t ht
  rcases (show t < 2 * j ∨ t = 2 * j ∨ t = 2 * j + 1 by omega) with hh | rfl | rfl
  · exact h t hh
  · exact h1
  · exact h2
theorem dig_le (c : Nat) : dig c ≤ 16 := by unfold dig; (repeat' split) <;> omega

theorem unhexR_odd (s : ByteArray) (hs : s.size ≤ 1000) (ho : ¬ s.size % 2 = 0) (w : World) :
    Calls Tryd.prog 10 #[.string s] w fun e w' => e = .returned (.tuple #[.string ⟨(unhexS s.data.toList).toArray⟩, .bool (unhexOk s.data.toList)]) ∧ Below w.heap.size w w' := by
  have hk : unhexOk s.data.toList = false := unhexOk_odd (by simpa using ho)
  have hu : unhexS s.data.toList = [] := by simp [unhexS, hk]
  rw [hk, hu]
  have h1 : ((s.size : Int) % 2 != 0) = true := by rw [bne_iff_ne]; omega
  go_enter Tryd.func10, Tryd.ntmps10
  go_wp2_with fail
  go_ret2
  exact ⟨rfl, Below.refl _ _⟩

theorem unhexR_even (s : ByteArray) (hs : s.size ≤ 1000) (ho : s.size % 2 = 0) (w : World) :
    Calls Tryd.prog 10 #[.string s] w fun e w' => e = .returned (.tuple #[.string ⟨(unhexS s.data.toList).toArray⟩, .bool (unhexOk s.data.toList)]) ∧ Below w.heap.size w w' := by
  have h1 : ((s.size : Int) % 2 != 0) = false := by rw [bne_eq_false_iff_eq]; omega
  have ho' : s.data.toList.length % 2 = 0 := by simpa using ho
  have HO := Lib.hid ho
  have HO' := Lib.hid ho'
  clear ho ho'
  obtain ⟨i0, hi, hz0, hz1, hz2⟩ := info_parts info5
  go_enter Tryd.func10, Tryd.ntmps10
  go_wp2_with fail
  go_loopw [4, 5] (fun v i wr => ∃ j : Nat, 2 * j ≤ s.size ∧ i = .int .i64 (2 * (j : Int)) ∧ Hid (digsTo s.data.toList (2 * j)) ∧
      wr.ownsRow w.heap.size 5 1 v j (cellsOf (bytesTo s.data.toList j)) ∧ Below w.heap.size w wr)
    (fun _ i _ => s.size - (intOf i).toNat)
  case atStart => exact ⟨0, Nat.zero_le _, rfl, fun t ht => by omega, World.ownsRow_nil _ _ _ _, Below.refl _ _⟩
  case round =>
    obtain ⟨j, hj, rfl, hd, hown, hbel⟩ := hrel
    by_cases hlt : 2 * j < s.size
    · have hlt2 : 2 * j + 1 < s.size := by have := HO.out; omega
      by_cases ha : dig s[2 * j].toNat < 16
      · have ha' : ((dig s[2 * j].toNat : Nat) : Int) < 16 := by omega
        have ha1 : (((dig s[2 * j].toNat : Nat) : Int) == 16) = false := beq_eq_false_iff_ne.2 (by omega)
        by_cases hb : dig s[2 * j + 1].toNat < 16
        · have hb' : ((dig s[2 * j + 1].toNat : Nat) : Int) < 16 := by omega
          have hb1 : (((dig s[2 * j + 1].toNat : Nat) : Int) == 16) = false := beq_eq_false_iff_ne.2 (by omega)
          have hD := digsTo_two hd.out (by rw [getD_byte s _ hlt]; exact ha) (by rw [getD_byte s _ hlt2]; exact hb)
          have HD := Lib.hid hD
          have hq : 16 * ((dig s[2 * j].toNat : Nat) : Int) + ((dig s[2 * j + 1].toNat : Nat) : Int) = ((byteAt s.data.toList j).toNat : Int) := by
            unfold byteAt
            rw [getD_byte s _ hlt, getD_byte s _ hlt2, UInt8.toNat_ofNat']; omega
          have hsz := hbel.size
          clear ha hb hD hd
          go_wp2_with (first
            | (go_at_call 22; refine (digitR_any _ (UInt8.toNat_lt _) _).mono ?_; rintro e w' ⟨rfl, rfl⟩)
            | (at_builtin; (refine wpList_append_own _ rfl (.tmp 33) (.tmp 39) 40 rfl w.heap.size 5 i0 (.int .u8 0) 1 1 Tryd.underlying40 hi hz0 hz1 hz2 rfl (by decide) _ j (cellsOf (bytesTo s.data.toList j)) rfl (hown.alloc _) ⟨wr.heap.size, 0, none⟩ 1 1 (cellsOf [byteAt s.data.toList j]) rfl rfl (bytes_new _ [_]) (cellsOf_one _) (by unfold maxLen; omega) (by omega) (by simp; omega) ?_; intro v2 w2 hown2 hgrow2 hnil2)))
          go_roundw
          case rel =>
            exact ⟨j + 1, by omega, by go_num, HD.out, by rw [bytesTo_succ]; unfold cellsOf at hown2 ⊢; rw [List.map_append]; exact hown2, (hbel.alloc hbel.size _).grown hgrow2 (by have := hbel.size; simp; omega) (fun k h => (hown.lt k h).1)⟩
          case measure => simp [intOf]; omega
        · have hb1 : (((dig s[2 * j + 1].toNat : Nat) : Int) == 16) = true := beq_iff_eq.2 (by have := dig_le s[2 * j + 1].toNat; omega)
          have hk : unhexOk s.data.toList = false := unhexOk_bad (t := 2 * j + 1) (by simpa using hlt2) (by rw [getD_byte s _ hlt2]; exact hb)
          have hu : unhexS s.data.toList = [] := by simp [unhexS, hk]
          have HK := Lib.hid hk
          have HU := Lib.hid hu
          clear ha hb hk hu
          go_wp2_with (go_at_call 22; refine (digitR_any _ (UInt8.toNat_lt _) _).mono ?_; rintro e w' ⟨rfl, rfl⟩)
          go_ret2
          rw [HK.out, HU.out]
          exact ⟨rfl, hbel⟩
      · have ha1 : (((dig s[2 * j].toNat : Nat) : Int) == 16) = true := beq_iff_eq.2 (by have := dig_le s[2 * j].toNat; omega)
        have hk : unhexOk s.data.toList = false := unhexOk_bad (t := 2 * j) (by simpa using hlt) (by rw [getD_byte s _ hlt]; exact ha)
        have hu : unhexS s.data.toList = [] := by simp [unhexS, hk]
        have HK := Lib.hid hk
        have HU := Lib.hid hu
        clear ha hk hu
        go_wp2_with (go_at_call 22; refine (digitR_any _ (UInt8.toNat_lt _) _).mono ?_; rintro e w' ⟨rfl, rfl⟩)
        go_ret2
        rw [HK.out, HU.out]
        exact ⟨rfl, hbel⟩
    · have hj2 : 2 * j = s.size := by omega
      have hk : unhexOk s.data.toList = true := unhexOk_all HO'.out (by have := hd.out; rw [hj2] at this; simpa using this)
      have hu : unhexS s.data.toList = bytesTo s.data.toList j := by
        rw [unhexS, if_pos hk]; congr 1; simp; omega
      have hcv := conv_any (bytesTo_length _ _) hown
      have HK := Lib.hid hk
      have HU := Lib.hid hu
      clear hk hu hj2 hd
      go_wp2_with fail
      go_ret2
      rw [HK.out, HU.out]
      exact ⟨rfl, hbel⟩

theorem unhexR_any (s : ByteArray) (hs : s.size ≤ 1000) (w : World) :
    Calls Tryd.prog 10 #[.string s] w fun e w' => e = .returned (.tuple #[.string ⟨(unhexS s.data.toList).toArray⟩, .bool (unhexOk s.data.toList)]) ∧ Below w.heap.size w w' := by
  by_cases h : s.size % 2 = 0
  · exact unhexR_even s hs h w
  · exact unhexR_odd s hs h w
end Go.Proofs.YtemgjjnkdopnnaaDoor
