/- strings.IndexAny and ContainsAny of the bytes that no literal holds. The reference's Dotted. AddrWrites, from what addr.Right, addr.Canon, addr.Write and the reference's answer. -/
import Derived.Test.YtgponokcigapaaaDoorKRune
import Derived.Test.YtgponokcigapaaaDoorK5
import Derived.Lib.OthersKept
import Derived.Lib.TrimU
import Derived.Lib.TrimUEq
import Derived.Test.YtgponokcigapaaaDoorK2
import Derived.Test.YtgponokcigapaaaDoorK4
namespace Go.Proofs.YtgponokcigapaaaDoor
open Go.ChangeShapes Go.WideShapes Go.ChangeAt Go.RowKit

/-- The bytes that no literal holds, as a list. -/
def stops : List UInt8 := [91, 93, 92]
theorem stops_high {b : UInt8} (h : 128 ≤ b.toNat) : stops.contains b = false := by
  rw [Bool.eq_false_iff]
  intro e
  have hm : b ∈ stops := by simpa using e
  have : ∀ b ∈ stops, b.toNat < 128 := by decide
  have := this b hm
  omega
theorem enc_all_high {n : Nat} (h : 128 ≤ n) (hc : n ≤ 1114111) : ∀ b ∈ encL n, 128 ≤ b.toNat := by
  intro b hb
  unfold encL at hb
  have k : ∀ x : Nat, 128 ≤ x → x < 256 → 128 ≤ (UInt8.ofNat x).toNat := fun x h1 h2 => by rw [UInt8.toNat_ofNat']; omega
  split at hb
  · omega
  · split at hb
    · simp only [List.mem_cons, List.not_mem_nil, or_false] at hb
      rcases hb with rfl | rfl <;> exact k _ (by omega) (by omega)
    · split at hb
      · simp only [List.mem_cons, List.not_mem_nil, or_false] at hb
        rcases hb with rfl | rfl | rfl <;> exact k _ (by omega) (by omega)
      · simp only [List.mem_cons, List.not_mem_nil, or_false] at hb
        rcases hb with rfl | rfl | rfl | rfl <;> exact k _ (by omega) (by omega)
/-- The bytes of a code point beyond ASCII all are. -/
theorem high_span (s : ByteArray) (pos : Nat) (hp : pos < s.size) (h128 : 128 ≤ (s[pos]'hp).toNat) : ∀ j b, pos ≤ j → j < pos + (Utf8.decode s pos).2 → s.data.toList[j]? = some b → 128 ≤ b.toNat := by
  intro j b h1 h2 hb
  rw [← Lib.decodeL_drop] at h2
  have hne : s.data.toList.drop pos ≠ [] := by rw [drop_cons s pos hp]; exact List.cons_ne_nil _ _
  have hj : (s.data.toList.drop pos)[j - pos]? = some b := by
    rw [List.getElem?_drop, show pos + (j - pos) = j by omega]; exact hb
  cases hf : firstS (s.data.toList.drop pos) with
  | none =>
    rw [decode_none hne hf] at h2
    simp only at h2
    obtain rfl : j = pos := by omega
    rw [List.getElem?_eq_getElem (by rw [← size_list]; exact hp)] at hb
    cases hb
    exact h128
  | some n =>
    rw [decode_some hf] at h2
    simp only at h2
    obtain ⟨hcp, t, ht⟩ := first_some' hf
    rw [ht, List.getElem?_append_left (by omega)] at hj
    have hmem := List.mem_of_getElem? hj
    have hn : 128 ≤ n := by
      rcases Nat.lt_or_ge n 128 with h | h
      · exfalso
        have e1 : encL n = [UInt8.ofNat n] := by unfold encL; rw [if_pos h]
        rw [drop_cons s pos hp, e1] at ht
        injection ht with e2 _
        rw [e2, UInt8.toNat_ofNat'] at h128
        omega
      · exact h
    exact enc_all_high hn (by rcases (cp_iff n).1 hcp with h | h <;> omega) b hmem
theorem rune_any (c : Nat) (h : 128 ≤ c) (w : World) :
    Calls Tryd.prog 96 #[.string stopB, .int .i32 c] w fun e w' => e = .returned (.int .i64 (-1)) ∧ Below w.heap.size w w' := by
  by_cases h2 : c = 65533
  · subst h2; exact rune_bad w
  · exact rune_good c h h2 w
theorem byte_at7 (s : ByteArray) (pos : Nat) (hp : pos < s.size) : s.data.toList[pos]? = some s[pos] := by
  rw [List.getElem?_eq_getElem (by rw [← size_list]; exact hp)]; rfl
theorem indexByte_has {l : List UInt8} {c : UInt8} : (0 ≤ Lib.indexByte l c ↔ l.contains c = true) := by
  have hge := Lib.indexByte_ge l c
  constructor
  · intro h
    obtain ⟨o, ho⟩ : ∃ o : Nat, Lib.indexByte l c = o := ⟨(Lib.indexByte l c).toNat, by omega⟩
    have := List.mem_of_getElem? (Lib.indexByte_some ho).1
    simpa using this
  · intro h
    have hm : c ∈ l := by simpa using h
    rcases (show Lib.indexByte l c = -1 ∨ 0 ≤ Lib.indexByte l c by omega) with e | e
    · obtain ⟨k, hk, he⟩ := List.getElem_of_mem hm
      exact absurd (by rw [List.getElem?_eq_getElem hk, he]) (Lib.indexByte_none e k)
    · exact e
set_option maxHeartbeats 2000000 in
theorem any_short (s : ByteArray) (hs : s.size ≤ 8) (w : World) :
    Calls Tryd.prog 91 #[.string s, .string stopB] w fun e w' => e = .returned (.int .i64 (Lib.indexAny s.data.toList stops)) ∧ Below w.heap.size w w' := by
  have hU := Tryd.strings_shouldUseASCIISet (s.size : Int)
  rw [decide_eq_false (show ¬ (8 : Int) < (s.size : Int) by omega)] at hU
  have HU := Lib.hid (fun W => (hU W).mono fun e w' (h : e = .returned (.bool false) ∧ w' = W) => (⟨h.1, h.2.symm⟩ : e = .returned (.bool false) ∧ W = w'))
  have HA := Lib.hid (fun x h1 W => (Tryd.strings_IndexRune_ascii stopB x W (by omega) (h1 : x < 128 ∧ 0 ≤ x).1).mono fun e w' (h : e = .returned (.int .i64 (Lib.indexByte stopB.data.toList x.toNat.toUInt8)) ∧ w' = W) => (⟨h.1, h.2.symm⟩ : e = .returned (.int .i64 (Lib.indexByte stopB.data.toList x.toNat.toUInt8)) ∧ W = w'))
  have HH := Lib.hid rune_any
  have hemp : stopB.toList.isEmpty = false := by rw [ByteArray.toList_eq]; rfl
  have hbz : stopB.size = 3 := rfl
  have hbl : stopB.data.toList = stops := rfl
  rw [hbl] at HA
  obtain ⟨B, hB⟩ : ∃ B, stopB = B := ⟨_, rfl⟩
  rw [hB] at HA HH hemp hbz ⊢
  clear hU hB hbl
  go_enter Tryd.func91, Tryd.ntmps91
  go_wp2_with (go_at_call 97; refine (HU.out _).mono ?_; rintro e w1 ⟨rfl, rfl⟩)
  go_loopw [] (fun wx => ∃ pos : Nat, pos ≤ s.size ∧ wx.heap[w.heap.size]? = some (.stringIter s pos) ∧ Below w.heap.size w wx ∧ Hid (Lib.NoAny s.data.toList stops pos)) (fun wx => s.size - iterPos wx w.heap.size)
  case atStart => exact ⟨0, Nat.zero_le _, World.iter_heap w s 0, (Below.refl _ w).alloc (Nat.le_refl _) _, Lib.NoAny.zero _ _⟩
  case round =>
    obtain ⟨pos, hpos, hit, hbw, hno⟩ := hrel
    by_cases hlt : pos < s.size
    · have hnx : ∀ ty, (Instr.next (.pointer (some ⟨w.heap.size, 0, none⟩)) true ty).run Tryd.prog wr = _ := fun ty => Lib.run_next_any_at wr w.heap.size s pos ty hit hlt
      have hwd := width_at s pos hlt
      have hbyte := byte_at7 s pos hlt
      have hspan := high_span s pos hlt
      have hlow := decode_ascii s pos hlt
      have hbig := decode_big s pos hlt
      obtain ⟨R, hR⟩ : ∃ R, (Utf8.decode s pos).1 = R := ⟨_, rfl⟩
      obtain ⟨K, hK⟩ : ∃ K, (Utf8.decode s pos).2 = K := ⟨_, rfl⟩
      obtain ⟨x, hx⟩ : ∃ x, s[pos]'hlt = x := ⟨_, rfl⟩
      rw [hR, hK] at hnx
      rw [hK] at hwd hspan
      rw [hR] at hbig
      rw [hx] at hbyte hspan hlow hbig
      have hit2 := Lib.iterAt_heap wr w.heap.size s pos (pos + K) hit
      have hbw2 := Lib.below_iterAt hbw (k := w.heap.size) (Nat.le_refl _) s (pos + K)
      have hpz : iterPos wr w.heap.size = pos := by unfold iterPos; rw [hit]
      obtain ⟨W, hWd⟩ : ∃ W, wr.iterAt w.heap.size s (pos + K) = W := ⟨_, rfl⟩
      rw [hWd] at hnx hit2 hbw2
      have hltW : w.heap.size < W.heap.size := (Array.getElem?_eq_some_iff.1 hit2).1
      have HW := Lib.hid (And.intro hit2 (And.intro hbw2 (And.intro hltW (And.intro hpz hwd))))
      by_cases h128 : x.toNat < 128
      · have e := hlow h128
        have hRx : R = x.toNat := by rw [← hR, e]
        have hK1 : K = 1 := by rw [← hK, e]
        subst hRx hK1
        have HAx := Lib.hid (HA.out (x.toNat : Int) ⟨by omega, by omega⟩)
        rw [show ((x.toNat : Int)).toNat.toUInt8 = x by simp] at HAx
        have hb := indexByte_has (l := stops) (c := x)
        have hge := Lib.indexByte_ge stops x
        obtain ⟨o, ho⟩ : ∃ o, Lib.indexByte stops x = o := ⟨_, rfl⟩
        rw [ho] at HAx hb hge
        cases hc : stops.contains x with
        | true =>
          have h0 : 0 ≤ o := hb.2 hc
          have HR := Lib.hid (Lib.indexAny_hit hno.out hbyte hc)
          clear hlow hbig hspan hb hc hWd hit2 hbw2 hltW hpz hwd ho hge hR hK hx e hbyte hit hbw
          go_wp2_with (go_at_call 96; refine (HAx.out _).mono ?_; rintro e w2 ⟨rfl, rfl⟩)
          go_ret
          exact ⟨by rw [HR.out]; rfl, HW.out.2.1⟩
        | false =>
          have h0 : ¬ 0 ≤ o := fun h => by rw [hb.1 h] at hc; cases hc
          have HR := Lib.hid (Lib.NoAny.succ hno.out hbyte hc)
          clear hlow hbig hspan hb hc hWd hit2 hbw2 hltW hpz hwd ho hge hR hK hx e hbyte hit hbw
          go_wp2_with (go_at_call 96; refine (HAx.out _).mono ?_; rintro e w2 ⟨rfl, rfl⟩)
          go_roundw
          case rel => exact ⟨pos + 1, by omega, HW.out.1, HW.out.2.1, HR.out⟩
          case measure =>
            have e1 : iterPos W w.heap.size = pos + 1 := by unfold iterPos; rw [HW.out.1]
            rw [e1, HW.out.2.2.2.1]; omega
      · have hR128 := hbig h128
        have HRune := Lib.hid (HH.out R hR128)
        have HR := Lib.hid (show Lib.NoAny s.data.toList stops (pos + K) from fun j b hj hb => by
          rcases Nat.lt_or_ge j pos with h | h
          · exact hno.out j b h hb
          · exact stops_high (hspan (by omega) j b h hj hb))
        clear hlow hbig hspan hWd hit2 hbw2 hltW hpz hwd hR hK hx hbyte hit hbw
        go_wp2_with (go_at_call 96; refine (HRune.out _).mono ?_; rintro e w2 ⟨rfl, hb2⟩)
        go_roundw
        case rel => exact ⟨pos + K, HW.out.2.2.2.2.2, (hb2.block _ HW.out.2.2.1).trans HW.out.1, HW.out.2.1.trans (hb2.mono HW.out.2.1.size), HR.out⟩
        case measure =>
          have e1 : iterPos w2 w.heap.size = pos + K := by unfold iterPos; rw [(hb2.block _ HW.out.2.2.1).trans HW.out.1]
          have := HW.out.2.2.2.2
          rw [e1, HW.out.2.2.2.1]; omega
    · have hnx : ∀ ty, (Instr.next (.pointer (some ⟨w.heap.size, 0, none⟩)) true ty).run Tryd.prog wr = _ := fun ty => Lib.run_next_end_at wr w.heap.size s pos ty hit hlt
      have HR := Lib.hid (Lib.indexAny_none (s := s.data.toList) (chars := stops) (by rw [← size_list, show s.size = pos by omega]; exact hno.out))
      go_wp2_with fail
      go_ret
      exact ⟨by rw [HR.out]; rfl, hbw⟩
theorem any_any (s : ByteArray) (hs : s.size ≤ 1000000) (w : World) :
    Calls Tryd.prog 91 #[.string s, .string stopB] w fun e w' => e = .returned (.int .i64 (Lib.indexAny s.data.toList stops)) ∧ Below w.heap.size w w' := by
  by_cases h : s.size ≤ 8
  · exact any_short s h w
  · have hac : ∀ (j : Nat) b, stopB.data.toList[j]? = some b → b.toNat < 128 := fun j b hb => by
      have hm := List.mem_of_getElem? hb
      have : ∀ b ∈ stopB.data.toList, b.toNat < 128 := by decide
      exact this b hm
    refine (Tryd.strings_IndexAny_long (fun w => by go_simp; kernel_rfl) s stopB w (by decide) (by omega) (by omega) (by decide) hac).mono fun e w' ⟨he, hw⟩ => ⟨he, ?_⟩
    rw [hw]
    exact ((Below.refl _ _).alloc (Nat.le_refl _) _).alloc (by simp) _
end Go.Proofs.YtgponokcigapaaaDoor
namespace Go.Proofs.YtgponokcigapaaaDoor
open Go.ChangeShapes Go.WideShapes Go.ChangeAt Go.RowKit
open TokP AdrP

theorem dot_at46 {l : List UInt8} {k : Nat} (h : l[k]? = some 46) : dotAt l k ↔ 0 < k ∧ k + 1 < l.length ∧ ∃ p, l[k - 1]? = some p ∧ p ≠ 46 := by
  constructor
  · rintro ⟨d, hd, h2⟩
    rw [h] at hd
    obtain rfl := Option.some.inj hd
    rcases h2 with h2 | h2
    · rw [dot46] at h2; exact Bool.noConfusion h2
    · exact h2.2
  · intro h2
    exact ⟨46, h, .inr ⟨rfl, h2⟩⟩
theorem dot_ato {l : List UInt8} {k : Nat} {c : UInt8} (h : l[k]? = some c) (h46 : c ≠ 46) : dotAt l k ↔ atomB c = true := by
  constructor
  · rintro ⟨d, hd, h2⟩
    rw [h] at hd
    obtain rfl := Option.some.inj hd
    rcases h2 with h2 | h2
    · exact h2
    · exact absurd h2.1 h46
  · intro h2
    exact ⟨c, h, .inl h2⟩
theorem dot_bad {l : List UInt8} {k : Nat} (hk : k < l.length) (h : ¬ dotAt l k) : dotA false l = false := by
  rw [← Bool.not_eq_true, dot_all]
  exact fun e => h (e.2 k hk)
theorem dots_next {l : List UInt8} {k : Nat} (h : ∀ i, i < k → dotAt l i) (hg : dotAt l k) : ∀ i, i < k + 1 → dotAt l i := fun i hi => by
  by_cases e : i = k
  · rw [e]; exact hg
  · exact h i (by omega)
set_option maxHeartbeats 2000000 in
theorem dotted_any (s : ByteArray) (hs : s.size ≤ 1000000) (w : World) :
    Calls Tryd.prog 37 #[.string s] w fun e w' => e = .returned (.bool (dotA false s.data.toList)) ∧ w = w' := by
  obtain ⟨R, hR⟩ : ∃ R, dotA false s.data.toList = R := ⟨_, rfl⟩
  have HR := Lib.hid hR
  rw [hR]
  obtain ⟨n, hn⟩ : ∃ n, s.size = n := ⟨_, rfl⟩
  have HL := Lib.hid (size_list s)
  rw [hn] at hs
  have HN := Lib.hid hn
  clear hR hn
  go_enter Tryd.func37, Tryd.ntmps37
  go_wp2_with fail
  go_loopw [3] (fun i wr => ∃ k : Nat, k ≤ n ∧ i = .int .i64 k ∧ wr = w ∧ Hid (∀ i, i < k → dotAt s.data.toList i)) (fun i _ => n - (intOf i).toNat)
  case atStart => exact ⟨0, Nat.zero_le _, rfl, rfl, fun i h => absurd h (by omega)⟩
  case round =>
    obtain ⟨k, hk, rfl, rfl, HG⟩ := hrel
    have F1 : IntKind.i64.wrap ((k : Int) + 1) = (k : Int) + 1 := by rw [IntKind.wrap_i64]; omega
    have hn : s.size = n := HN.out
    by_cases hlt : k < n
    · have hlt' : (k : Int) < (n : Int) := by omega
      obtain ⟨c, x, hc, hx, hx2, S1⟩ := run_byte s k (by rw [hn]; exact hlt)
      have hkl : k < s.data.toList.length := by rw [← HL.out, hn]; exact hlt
      have e46 := byte_is c x hx 46 (by decide)
      rw [show ((46 : Nat) : Int) = 46 from rfl] at e46
      by_cases h46 : c = 46
      · rw [show decide (c = UInt8.ofNat 46) = true from decide_eq_true h46] at e46
        rw [h46] at hc
        have hiff := dot_at46 hc
        by_cases hk0 : k = 0
        · have HB := Lib.hid (HR.out.symm.trans (dot_bad hkl (fun e => by have := (hiff.1 e).1; omega)))
          have z0 : ((k : Int) == 0) = true := by rw [beq_iff_eq]; omega
          clear hc hx hx2 HG hkl hiff h46 hk0
          go_wp2_with fail
          go_ret
          exact ⟨by rw [HB.out]; rfl, rfl⟩
        · have z0 : ((k : Int) == 0) = false := by rw [beq_eq_false_iff_ne]; omega
          obtain ⟨p, hp⟩ : ∃ p, p + 1 = k := ⟨k - 1, by omega⟩
          have F2 : IntKind.i64.wrap ((k : Int) - 1) = (p : Int) := by rw [IntKind.wrap_i64]; omega
          have F3 : (k : Int) - 1 = (p : Int) := by omega
          by_cases hk1 : k + 1 = n
          · have z1 : ((k : Int) + 1 == (n : Int)) = true := by rw [beq_iff_eq]; omega
            have HB := Lib.hid (HR.out.symm.trans (dot_bad hkl (fun e => by have := (hiff.1 e).2.1; rw [← HL.out, hn] at this; omega)))
            clear hc hx hx2 HG hkl hiff h46 hk0 hp hk1
            go_wp2_with fail
            go_ret
            exact ⟨by rw [HB.out]; rfl, rfl⟩
          · have z1 : ((k : Int) + 1 == (n : Int)) = false := by rw [beq_eq_false_iff_ne]; omega
            obtain ⟨cp, xp, hcp, hxp, _, S2⟩ := run_byte s p (by rw [hn]; omega)
            have ep := byte_is cp xp hxp 46 (by decide)
            rw [show ((46 : Nat) : Int) = 46 from rfl] at ep
            have hcp' : s.data.toList[k - 1]? = some cp := by rw [show k - 1 = p by omega]; exact hcp
            by_cases hp46 : cp = 46
            · rw [show decide (cp = UInt8.ofNat 46) = true from decide_eq_true hp46] at ep
              have HB := Lib.hid (HR.out.symm.trans (dot_bad hkl (fun e => by
                obtain ⟨_, _, q, h1, h2⟩ := hiff.1 e
                rw [hcp'] at h1
                exact h2 ((Option.some.inj h1).symm.trans hp46))))
              clear hc hx hx2 HG hkl hiff h46 hk0 hp hk1 hcp hxp hcp' hp46
              go_wp2_with fail
              go_ret
              exact ⟨by rw [HB.out]; rfl, rfl⟩
            · rw [show decide (cp = UInt8.ofNat 46) = false from decide_eq_false hp46] at ep
              have n46 : ((x : Int) != 46) = false := by rw [bne, e46]; rfl
              have HG2 := Lib.hid (dots_next HG.out (hiff.2 ⟨by omega, by rw [← HL.out, hn]; omega, cp, hcp', hp46⟩))
              clear hc hx hx2 HG hkl hiff h46 hk0 hp hk1 hcp hxp hcp' hp46
              go_wp2_with fail
              go_roundw
              case rel => exact ⟨k + 1, by omega, by go_num, trivial, HG2⟩
              case measure => simp [intOf]; omega
      · rw [show decide (c = UInt8.ofNat 46) = false from decide_eq_false h46] at e46
        have n46 : ((x : Int) != 46) = true := by rw [bne, e46]; rfl
        have hiff := dot_ato hc h46
        have cA := atom11_any c x hx
        by_cases ha : atomB c = true
        · rw [ha] at cA
          have HG2 := Lib.hid (dots_next HG.out (hiff.2 ha))
          clear hc hx hx2 HG hkl hiff h46 ha
          go_wp2_with (go_at_call 60; refine (cA _).mono ?_; rintro e w1 ⟨rfl, hw⟩; rw [← hw]; clear hw w1)
          go_roundw
          case rel => exact ⟨k + 1, by omega, by go_num, trivial, HG2⟩
          case measure => simp [intOf]; omega
        · have ha' : atomB c = false := by simpa using ha
          rw [ha'] at cA
          have HB := Lib.hid (HR.out.symm.trans (dot_bad hkl (fun e => ha (hiff.1 e))))
          clear hc hx hx2 HG hkl hiff h46 ha ha'
          go_wp2_with (go_at_call 60; refine (cA _).mono ?_; rintro e w1 ⟨rfl, hw⟩; rw [← hw]; clear hw w1)
          go_ret
          exact ⟨by rw [HB.out]; rfl, rfl⟩
    · obtain rfl : k = n := by omega
      have hlt' : ¬ (k : Int) < (k : Int) := by omega
      have hne : (s.toList != []) = R := by
        rw [← HR.out, Bool.eq_iff_iff, dot_all, ByteArray.toList_eq, bne_iff_ne]
        exact ⟨fun h => ⟨h, fun i hi => HG.out i (by rw [← HL.out, hn] at hi; exact hi)⟩, fun h => h.1⟩
      have hem : s.toList.isEmpty = !R := by rw [← hne]; cases s.toList <;> rfl
      clear HG
      go_wp2_with fail
      go_ret
      exact ⟨rfl, rfl⟩
end Go.Proofs.YtgponokcigapaaaDoor
namespace Go.Proofs.YtgponokcigapaaaDoor
open Go.ChangeShapes Go.WideShapes Go.ChangeAt Go.RowKit
open TokP AdrP

/-- What the law asks of addr.Canon and of the reference's Right, Canon and Write. -/
def CanonOk : Prop := ∀ (a : Adr) (_ : smallA a = true) (W : World), Calls Tryd.prog 20 #[.agg #[.string (strL a.name), .string (strL a.loc), .string (strL a.dom)]] W fun e w' => e = .returned (.string (strL (canonL a))) ∧ Below W.heap.size W w'
def RRightOk : Prop := ∀ (a : Adr) (_ : smallA a = true) (W : World), Calls Tryd.prog 19 #[.agg #[.string (strL a.name), .string (strL a.loc), .string (strL a.dom)]] W fun e w' => e = .returned (.bool (rightB a)) ∧ Below W.heap.size W w'
def RCanonOk : Prop := ∀ (a : Adr) (_ : smallA a = true) (W : World), Calls Tryd.prog 21 #[.agg #[.string (strL a.name), .string (strL a.loc), .string (strL a.dom)]] W fun e w' => e = .returned (.string (strL (canonL a))) ∧ Below W.heap.size W w'
def RWriteOk : Prop := ∀ (v : Value) (l : List Adr) (W : World) (_ : HasA W v l) (_ : fewB l = true), Calls Tryd.prog 23 #[v] W fun e w' => e = .returned (.string (strL (writeQ l))) ∧ Below W.heap.size W w'
/-- A contract said of every world that keeps what is below. -/
theorem keeps {n : Nat} {vs : Array Value} {r : Value} (w : World) (h : ∀ W : World, Calls Tryd.prog n vs W fun e w' => e = .returned r ∧ Below W.heap.size W w') (Q : World) (hQ : Hid (Below w.heap.size w Q)) :
    Calls Tryd.prog n vs Q fun e Q' => e = .returned r ∧ Hid (Below w.heap.size w Q') := (h Q).mono fun _ _ hh => ⟨hh.1, Qtrans hQ.out hh.2⟩
set_option maxRecDepth 1000000 in
set_option maxHeartbeats 2000000 in
theorem writes_any (cSm : SmallOk) (cRi : RightOk) (cCa : CanonOk) (cWr : WriteOk) (rRi : RRightOk) (rCa : RCanonOk) (rWr : RWriteOk) (v : Value) (l : List Adr) (w : World) (h : HasA w v l) (hl : l.length ≤ 9223372036854775807) :
    Calls Tryd.prog 4 #[v] w fun e w' => e = .returned (.bool true) ∧ Below w.heap.size w w' := by
  have cS := cSm w
  clear cSm
  have cF := fun W (h : Hid (HasA W v l)) => fewA_any v l W h.out hl
  have HH := Lib.hid h
  clear h hl
  by_cases hf : fewB l = true
  · rw [hf] at cF
    obtain ⟨hsm, hlen⟩ : l.all smallA = true ∧ l.length ≤ 20 := by
      unfold fewB at hf
      rw [Bool.and_eq_true, decide_eq_true_eq] at hf
      exact hf
    obtain ⟨a, c, rfl⟩ := HH.out.form
    obtain ⟨n, hn⟩ : ∃ n, l.length = n := ⟨_, rfl⟩
    have HN := Lib.hid hn
    have HSM := Lib.hid (fun (k : Nat) (f : Adr) (h : l[k]? = some f) => (List.all_eq_true.1 hsm) f (List.mem_of_getElem? h))
    have cW := fun W (h : Hid (HasA W (.slice a l.length c) l)) => cWr _ l W h.out hf
    have rW := fun W (h : Hid (HasA W (.slice a l.length c) l)) => rWr _ l W h.out hf
    rw [hn] at HH cF cW rW hlen ⊢
    have HCR := Lib.hid cRi
    have HRR := Lib.hid rRi
    have HCC := Lib.hid cCa
    have HRC := Lib.hid rCa
    have H0 := HH
    clear hf hsm hn cWr cRi rWr rRi cCa rCa
    go_enter Tryd.func4, Tryd.ntmps4
    go_wp2_with (first
      | (go_at_call 10; (with_reducible refine cS.mono ?_); rintro e w1 ⟨rfl, hb1⟩; clear cS; replace HH := Lib.hid (HH.out.step hb1); have HB := Lib.hid hb1; clear hb1)
      | (go_at_call 17; (with_reducible refine (cF _ HH).mono ?_); rintro e w2 ⟨rfl, rfl⟩; clear cF))
    go_loopw [5] (fun i wr => ∃ k : Nat, k ≤ n ∧ i = .int .i64 k ∧ Hid (Below w.heap.size w wr)) (fun i _ => n - (intOf i).toNat)
    case atStart => exact ⟨0, Nat.zero_le _, rfl, HB⟩
    case round =>
      obtain ⟨k, hk, rfl, hb⟩ := hrel
      clear HH HB
      have F1 : IntKind.i64.wrap ((k : Int) + 1) = (k : Int) + 1 := by rw [IntKind.wrap_i64]; omega
      by_cases hlt : k < n
      · have hlt' : (k : Int) < (n : Int) := by omega
        obtain ⟨g, o, rfl, hfa⟩ := H0.out.at (by omega)
        obtain ⟨f, hf⟩ : ∃ f, l[k]? = some f := ⟨_, List.getElem?_eq_getElem (by rw [HN.out]; exact hlt)⟩
        obtain ⟨q0, q1, q2⟩ := hfa k f hf
        have cR := keeps w (HCR.out f (HSM.out k f hf))
        have rR := keeps w (HRR.out f (HSM.out k f hf))
        have cC := keeps w (HCC.out f (HSM.out k f hf))
        have rC := keeps w (HRC.out f (HSM.out k f hf))
        have HK := Lib.hid (fun (Q : World) (h : Hid (Below w.heap.size w Q)) => And.intro h (And.intro (cell_below q0 h.out) (And.intro (cell_below q1 h.out) (cell_below q2 h.out))))
        generalize strL f.name = x1 at q0 HK cR rR cC rC
        generalize strL f.loc = x2 at q1 HK cR rR cC rC
        generalize strL f.dom = x3 at q2 HK cR rR cC rC
        generalize rightB f = r at cR rR
        generalize strL (canonL f) = z at cC rC
        have e1 : (r != r) = false := by simp
        have e2 : (z.toList != z.toList) = false := by simp
        clear hf hfa q0 q1 q2 H0
        obtain ⟨_, k0, k1, k2⟩ := HK.out _ hb
        go_wp2_with fail
        go_region_held3 (fun Q => Hid (Below w.heap.size w Q) ∧ Q.cell? ⟨g, o + k * 3, none⟩ = some (.string x1) ∧ Q.cell? ⟨g, o + k * 3 + 1, none⟩ = some (.string x2) ∧ Q.cell? ⟨g, o + k * 3 + 2, none⟩ = some (.string x3))
          (first | exact HK.out _ hb | exact HK.out _ (Lib.hid hb.out.drew) | exact HK.out _ (by assumption) | exact HK.out _ (Lib.hid (Below.drew (Lib.Hid.out (by assumption)))))
          (first
            | (go_at_call 18; (with_reducible refine (cR _ (by first | assumption | exact Lib.hid hb.out.drew)).mono ?_); rintro e w3 ⟨rfl, hs3⟩; clear cR; obtain ⟨_, r0, r1, r2⟩ := HK.out _ hs3)
            | (go_at_call 19; (with_reducible refine (rR _ (by first | assumption | exact Lib.hid hb.out.drew)).mono ?_); rintro e w4 ⟨rfl, hs4⟩; clear rR; obtain ⟨_, s0, s1, s2⟩ := HK.out _ hs4)
            | (go_at_call 20; (with_reducible refine (cC _ (by first | assumption | exact Lib.hid hb.out.drew)).mono ?_); rintro e w5 ⟨rfl, hs5⟩; clear cC; obtain ⟨_, t0, t1, t2⟩ := HK.out _ hs5)
            | (go_at_call 21; (with_reducible refine (rC _ (by first | assumption | exact Lib.hid hb.out.drew)).mono ?_); rintro e w6 ⟨rfl, hs6⟩; clear rC; obtain ⟨_, u0, u1, u2⟩ := HK.out _ hs6))
        go_wp2_with fail
        go_roundw
        case rel => exact ⟨k + 1, by omega, by go_num, hs6⟩
        case measure => simp [intOf]; omega
      · obtain rfl : k = n := by omega
        have hlt' : ¬ (k : Int) < (k : Int) := by omega
        have hh := Lib.hid (H0.out.step hb.out)
        generalize strL (writeQ l) = S at cW rW
        have e2 : (S.toList == S.toList) = true := by simp
        clear HCR HRR HCC HRC
        go_wp2_with (first
          | (go_at_call 22; (with_reducible refine (cW _ hh).mono ?_); rintro e w3 ⟨rfl, hb3⟩; clear cW; replace hh := Lib.hid (hh.out.step hb3); replace hb := Lib.hid (Qtrans hb.out hb3); clear hb3)
          | (go_at_call 23; (with_reducible refine (rW _ hh).mono ?_); rintro e w4 ⟨rfl, hb4⟩; clear rW; replace hb := Lib.hid (Qtrans hb.out hb4); clear hb4))
        go_ret
        exact ⟨by simp, hb.out⟩
  · rw [show fewB l = false by simpa using hf] at cF
    clear hf cRi cWr cCa rRi rCa rWr
    go_enter Tryd.func4, Tryd.ntmps4
    go_wp2_with (first
      | (go_at_call 10; (with_reducible refine cS.mono ?_); rintro e w1 ⟨rfl, hb1⟩; clear cS; replace HH := Lib.hid (HH.out.step hb1))
      | (go_at_call 17; (with_reducible refine (cF _ HH).mono ?_); rintro e w2 ⟨rfl, rfl⟩; clear cF))
    go_ret
    exact ⟨rfl, hb1⟩
end Go.Proofs.YtgponokcigapaaaDoor
