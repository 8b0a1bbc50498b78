/- strings.IndexAny: where a word ends. -/
import Derived.Test.YtnmdljadnlddeaaGreatDoorRune
import Derived.Test.YtnmdljadnlddeaaGreatDoorBridge
import Derived.Lib.OthersKept
import Derived.Lib.TrimU
import Derived.Lib.TrimUEq
namespace Go.Proofs.YtnmdljadnlddeaaGreatDoor
open Go.ChangeShapes Go.WideShapes Go.ChangeAt Go.RowKit

/-- The bytes that end a word, as a list. -/
def stops : List UInt8 := [9, 10, 13, 32, 44, 40]
theorem stops_high {b : UInt8} (h : 128 ≤ b.toNat) : stops.contains b = false := by
  rw [Bool.eq_false_iff]
  intro e
  have hm : b ∈ stops := by simpa using e
  have : ∀ b ∈ stops, b.toNat < 128 := by decide
  have := this b hm
  omega
theorem enc_all_high {n : Nat} (h : 128 ≤ n) (hc : n ≤ 1114111) : ∀ b ∈ encL n, 128 ≤ b.toNat := by
  intro b hb
  unfold encL at hb
  have k : ∀ x : Nat, 128 ≤ x → x < 256 → 128 ≤ (UInt8.ofNat x).toNat := fun x h1 h2 => by rw [UInt8.toNat_ofNat']; omega
  split at hb
  · omega
  · split at hb
    · simp only [List.mem_cons, List.not_mem_nil, or_false] at hb
      rcases hb with rfl | rfl <;> exact k _ (by omega) (by omega)
    · split at hb
      · simp only [List.mem_cons, List.not_mem_nil, or_false] at hb
        rcases hb with rfl | rfl | rfl <;> exact k _ (by omega) (by omega)
      · simp only [List.mem_cons, List.not_mem_nil, or_false] at hb
        rcases hb with rfl | rfl | rfl | rfl <;> exact k _ (by omega) (by omega)
/-- The bytes of a code point beyond ASCII all are. -/
theorem high_span (s : ByteArray) (pos : Nat) (hp : pos < s.size) (h128 : 128 ≤ (s[pos]'hp).toNat) : ∀ j b, pos ≤ j → j < pos + (Utf8.decode s pos).2 → s.data.toList[j]? = some b → 128 ≤ b.toNat := by
  intro j b h1 h2 hb
  rw [← Lib.decodeL_drop] at h2
  have hne : s.data.toList.drop pos ≠ [] := by rw [drop_cons s pos hp]; exact List.cons_ne_nil _ _
  have hj : (s.data.toList.drop pos)[j - pos]? = some b := by
    rw [List.getElem?_drop, show pos + (j - pos) = j by omega]; exact hb
  cases hf : firstS (s.data.toList.drop pos) with
  | none =>
    rw [decode_none hne hf] at h2
    simp only at h2
    obtain rfl : j = pos := by omega
    rw [List.getElem?_eq_getElem (by rw [← size_list]; exact hp)] at hb
    cases hb
    exact h128
  | some n =>
    rw [decode_some hf] at h2
    simp only at h2
    obtain ⟨hcp, t, ht⟩ := first_some' hf
    rw [ht, List.getElem?_append_left (by omega)] at hj
    have hmem := List.mem_of_getElem? hj
    have hn : 128 ≤ n := by
      rcases Nat.lt_or_ge n 128 with h | h
      · exfalso
        have e1 : encL n = [UInt8.ofNat n] := by unfold encL; rw [if_pos h]
        rw [drop_cons s pos hp, e1] at ht
        injection ht with e2 _
        rw [e2, UInt8.toNat_ofNat'] at h128
        omega
      · exact h
    exact enc_all_high hn (by rcases (cp_iff n).1 hcp with h | h <;> omega) b hmem
theorem rune_any (c : Nat) (h : 128 ≤ c) (w : World) :
    Calls Tryz.prog 50 #[.string stopB, .int .i32 c] w fun e w' => e = .returned (.int .i64 (-1)) ∧ Below w.heap.size w w' := by
  by_cases h2 : c = 65533
  · subst h2; exact rune_bad w
  · exact rune_good c h h2 w
theorem byte_at (s : ByteArray) (pos : Nat) (hp : pos < s.size) : s.data.toList[pos]? = some s[pos] := by
  rw [List.getElem?_eq_getElem (by rw [← size_list]; exact hp)]; rfl
theorem indexByte_has {l : List UInt8} {c : UInt8} : (0 ≤ Lib.indexByte l c ↔ l.contains c = true) := by
  have hge := Lib.indexByte_ge l c
  constructor
  · intro h
    obtain ⟨o, ho⟩ : ∃ o : Nat, Lib.indexByte l c = o := ⟨(Lib.indexByte l c).toNat, by omega⟩
    have := List.mem_of_getElem? (Lib.indexByte_some ho).1
    simpa using this
  · intro h
    have hm : c ∈ l := by simpa using h
    rcases (show Lib.indexByte l c = -1 ∨ 0 ≤ Lib.indexByte l c by omega) with e | e
    · obtain ⟨k, hk, he⟩ := List.getElem_of_mem hm
      exact absurd (by rw [List.getElem?_eq_getElem hk, he]) (Lib.indexByte_none e k)
    · exact e
set_option maxHeartbeats 2000000 in
theorem any_short (s : ByteArray) (hs : s.size ≤ 8) (w : World) :
    Calls Tryz.prog 31 #[.string s, .string stopB] w fun e w' => e = .returned (.int .i64 (Lib.indexAny s.data.toList stops)) ∧ Below w.heap.size w w' := by
  have hU := Tryz.strings_shouldUseASCIISet (s.size : Int)
  rw [decide_eq_false (show ¬ (8 : Int) < (s.size : Int) by omega)] at hU
  have HU := Lib.hid (fun W => (hU W).mono fun e w' (h : e = .returned (.bool false) ∧ w' = W) => (⟨h.1, h.2.symm⟩ : e = .returned (.bool false) ∧ W = w'))
  have HA := Lib.hid (fun x h1 W => (Tryz.strings_IndexRune_ascii stopB x W (by omega) (h1 : x < 128 ∧ 0 ≤ x).1).mono fun e w' (h : e = .returned (.int .i64 (Lib.indexByte stopB.data.toList x.toNat.toUInt8)) ∧ w' = W) => (⟨h.1, h.2.symm⟩ : e = .returned (.int .i64 (Lib.indexByte stopB.data.toList x.toNat.toUInt8)) ∧ W = w'))
  have HH := Lib.hid rune_any
  have hemp : stopB.toList.isEmpty = false := by rw [ByteArray.toList_eq]; rfl
  have hbz : stopB.size = 6 := rfl
  have hbl : stopB.data.toList = stops := rfl
  rw [hbl] at HA
  obtain ⟨B, hB⟩ : ∃ B, stopB = B := ⟨_, rfl⟩
  rw [hB] at HA HH hemp hbz ⊢
  clear hU hB hbl
  go_enter Tryz.func31, Tryz.ntmps31
  go_wp2_with (go_at_call 51; refine (HU.out _).mono ?_; rintro e w1 ⟨rfl, rfl⟩)
  go_loopw [] (fun wx => ∃ pos : Nat, pos ≤ s.size ∧ wx.heap[w.heap.size]? = some (.stringIter s pos) ∧ Below w.heap.size w wx ∧ Hid (Lib.NoAny s.data.toList stops pos)) (fun wx => s.size - iterPos wx w.heap.size)
  case atStart => exact ⟨0, Nat.zero_le _, World.iter_heap w s 0, (Below.refl _ w).alloc (Nat.le_refl _) _, Lib.NoAny.zero _ _⟩
  case round =>
    obtain ⟨pos, hpos, hit, hbw, hno⟩ := hrel
    by_cases hlt : pos < s.size
    · have hnx : ∀ ty, (Instr.next (.pointer (some ⟨w.heap.size, 0, none⟩)) true ty).run Tryz.prog wr = _ := fun ty => Lib.run_next_any_at wr w.heap.size s pos ty hit hlt
      have hwd := width_at s pos hlt
      have hbyte := byte_at s pos hlt
      have hspan := high_span s pos hlt
      have hlow := decode_ascii s pos hlt
      have hbig := decode_big s pos hlt
      obtain ⟨R, hR⟩ : ∃ R, (Utf8.decode s pos).1 = R := ⟨_, rfl⟩
      obtain ⟨K, hK⟩ : ∃ K, (Utf8.decode s pos).2 = K := ⟨_, rfl⟩
      obtain ⟨x, hx⟩ : ∃ x, s[pos]'hlt = x := ⟨_, rfl⟩
      rw [hR, hK] at hnx
      rw [hK] at hwd hspan
      rw [hR] at hbig
      rw [hx] at hbyte hspan hlow hbig
      have hit2 := Lib.iterAt_heap wr w.heap.size s pos (pos + K) hit
      have hbw2 := Lib.below_iterAt hbw (k := w.heap.size) (Nat.le_refl _) s (pos + K)
      have hpz : iterPos wr w.heap.size = pos := by unfold iterPos; rw [hit]
      obtain ⟨W, hWd⟩ : ∃ W, wr.iterAt w.heap.size s (pos + K) = W := ⟨_, rfl⟩
      rw [hWd] at hnx hit2 hbw2
      have hltW : w.heap.size < W.heap.size := (Array.getElem?_eq_some_iff.1 hit2).1
      have HW := Lib.hid (And.intro hit2 (And.intro hbw2 (And.intro hltW (And.intro hpz hwd))))
      by_cases h128 : x.toNat < 128
      · have e := hlow h128
        have hRx : R = x.toNat := by rw [← hR, e]
        have hK1 : K = 1 := by rw [← hK, e]
        subst hRx hK1
        have HAx := Lib.hid (HA.out (x.toNat : Int) ⟨by omega, by omega⟩)
        rw [show ((x.toNat : Int)).toNat.toUInt8 = x by simp] at HAx
        have hb := indexByte_has (l := stops) (c := x)
        have hge := Lib.indexByte_ge stops x
        obtain ⟨o, ho⟩ : ∃ o, Lib.indexByte stops x = o := ⟨_, rfl⟩
        rw [ho] at HAx hb hge
        cases hc : stops.contains x with
        | true =>
          have h0 : 0 ≤ o := hb.2 hc
          have HR := Lib.hid (Lib.indexAny_hit hno.out hbyte hc)
          clear hlow hbig hspan hb hc hWd hit2 hbw2 hltW hpz hwd ho hge hR hK hx e hbyte hit hbw
          go_wp2_with (go_at_call 50; refine (HAx.out _).mono ?_; rintro e w2 ⟨rfl, rfl⟩)
          go_ret
          exact ⟨by rw [HR.out]; rfl, HW.out.2.1⟩
        | false =>
          have h0 : ¬ 0 ≤ o := fun h => by rw [hb.1 h] at hc; cases hc
          have HR := Lib.hid (Lib.NoAny.succ hno.out hbyte hc)
          clear hlow hbig hspan hb hc hWd hit2 hbw2 hltW hpz hwd ho hge hR hK hx e hbyte hit hbw
          go_wp2_with (go_at_call 50; refine (HAx.out _).mono ?_; rintro e w2 ⟨rfl, rfl⟩)
          go_roundw
          case rel => exact ⟨pos + 1, by omega, HW.out.1, HW.out.2.1, HR.out⟩
          case measure =>
            have e1 : iterPos W w.heap.size = pos + 1 := by unfold iterPos; rw [HW.out.1]
            rw [e1, HW.out.2.2.2.1]; omega
      · have hR128 := hbig h128
        have HRune := Lib.hid (HH.out R hR128)
        have HR := Lib.hid (show Lib.NoAny s.data.toList stops (pos + K) from fun j b hj hb => by
          rcases Nat.lt_or_ge j pos with h | h
          · exact hno.out j b h hb
          · exact stops_high (hspan (by omega) j b h hj hb))
        clear hlow hbig hspan hWd hit2 hbw2 hltW hpz hwd hR hK hx hbyte hit hbw
        go_wp2_with (go_at_call 50; refine (HRune.out _).mono ?_; rintro e w2 ⟨rfl, hb2⟩)
        go_roundw
        case rel => exact ⟨pos + K, HW.out.2.2.2.2.2, (hb2.block _ HW.out.2.2.1).trans HW.out.1, HW.out.2.1.trans (hb2.mono HW.out.2.1.size), HR.out⟩
        case measure =>
          have e1 : iterPos w2 w.heap.size = pos + K := by unfold iterPos; rw [(hb2.block _ HW.out.2.2.1).trans HW.out.1]
          have := HW.out.2.2.2.2
          rw [e1, HW.out.2.2.2.1]; omega
    · have hnx : ∀ ty, (Instr.next (.pointer (some ⟨w.heap.size, 0, none⟩)) true ty).run Tryz.prog wr = _ := fun ty => Lib.run_next_end_at wr w.heap.size s pos ty hit hlt
      have HR := Lib.hid (Lib.indexAny_none (s := s.data.toList) (chars := stops) (by rw [← size_list, show s.size = pos by omega]; exact hno.out))
      go_wp2_with fail
      go_ret
      exact ⟨by rw [HR.out]; rfl, hbw⟩
theorem any_any (s : ByteArray) (hs : s.size ≤ 1000000) (w : World) :
    Calls Tryz.prog 31 #[.string s, .string stopB] w fun e w' => e = .returned (.int .i64 (Lib.indexAny s.data.toList stops)) ∧ Below w.heap.size w w' := by
  by_cases h : s.size ≤ 8
  · exact any_short s h w
  · have hac : ∀ (j : Nat) b, stopB.data.toList[j]? = some b → b.toNat < 128 := fun j b hb => by
      have hm := List.mem_of_getElem? hb
      have : ∀ b ∈ stopB.data.toList, b.toNat < 128 := by decide
      exact this b hm
    refine (Tryz.strings_IndexAny_long (fun w => by go_simp; kernel_rfl) s stopB w (by decide) (by omega) (by omega) (by decide) hac).mono fun e w' ⟨he, hw⟩ => ⟨he, ?_⟩
    rw [hw]
    exact ((Below.refl _ _).alloc (Nat.le_refl _) _).alloc (by simp) _
end Go.Proofs.YtnmdljadnlddeaaGreatDoor
