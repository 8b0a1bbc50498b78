/- charset.Known and charset.Decode. The program's percentDecoded, decodedBytes, prefix and joined. The two maps of the program's params in memory: what a look-up answers, what a store leaves. A region that draws its order, walked by hand; of no program. The program's decodedBytes, prefix and joined. -/
import Derived.Test.YtdinachiiimngaaGreatDoorKCsSets
import Derived.Test.YtdinachiiimngaaGreatDoorK5
import Derived.Test.YtdinachiiimngaaGreatDoorK8
import Derived.Test.YtdinachiiimngaaGreatDoorK7
import Derived.Test.YtdinachiiimngaaGreatDoorKNuUnhex2
import Derived.Deep.RegionHeld3
import Derived.Maps.Own
import Derived.MapKept
import Derived.WalkKit
import Derived.Deep.MidRow
namespace Go.Proofs.YtdinachiiimngaaGreatDoor.Cs
open Go.ChangeShapes Go.WideShapes Go.ChangeAt Go.RowKit

/-- The number of a character set (1 to 4) by its name as the map has it; 0: unknown. -/
def kindK (k : ByteArray) : Nat :=
  if k = key0 then 1 else if k = key1 then 1 else if k = key2 then 2 else if k = key3 then 2 else if k = key4 then 3 else if k = key5 then 3 else if k = key6 then 4 else if k = key7 then 4 else 0
def kindL (l : List UInt8) : Nat := kindK ⟨(l.map lowB).toArray⟩
theorem kindK_le (k : ByteArray) : kindK k = 0 ∨ kindK k = 1 ∨ kindK k = 2 ∨ kindK k = 3 ∨ kindK k = 4 := by
  unfold kindK
  (repeat' split) <;> simp
theorem low_key (l : List UInt8) (key : ByteArray) (hk : ∀ b ∈ key.data.toList, b.toNat < 128) : (⟨(Lib.mapD lowZ l).toArray⟩ : ByteArray) = key ↔ (⟨(l.map lowB).toArray⟩ : ByteArray) = key := by
  have h := low_same l key.data.toList hk
  constructor
  · intro e
    have e1 := congrArg (fun b : ByteArray => b.data.toList) e
    simp only at e1
    have := h.1 e1
    rw [this]
  · intro e
    have e1 := congrArg (fun b : ByteArray => b.data.toList) e
    simp only at e1
    have := h.2 e1
    rw [this]
theorem kind_low (l : List UInt8) : kindK ⟨(Lib.mapD lowZ l).toArray⟩ = kindL l := by
  unfold kindL kindK
  simp only [low_key l key0 (by decide), low_key l key1 (by decide), low_key l key2 (by decide), low_key l key3 (by decide), low_key l key4 (by decide), low_key l key5 (by decide), low_key l key6 (by decide), low_key l key7 (by decide)]
def fnK (B : Nat) (k : Nat) : Value := if k = 1 then decV B else if k = 2 then repV else if k = 3 then decV (B + 1) else if k = 4 then decV (B + 2) else .nilFunc
theorem bytes_eqb (a b : ByteArray) : (a == b) = decide (a = b) := by
  rw [Bool.eq_iff_iff, MapKept.bytes_beq, decide_eq_true_eq]
theorem find_set (B : Nat) (k : ByteArray) : ∃ r, Instr.findNow .string (.string k) (setE B).toList 0 = some r ∧ ((kindK k = 0 ∧ r = none) ∨ (kindK k ≠ 0 ∧ ∃ i, r = some (i, fnK B (kindK k)))) := by
  unfold kindK
  have hb : ∀ a b : ByteArray, (a == b) = decide (a = b) := bytes_eqb
  by_cases h0 : k = key0
  · refine ⟨some (0, fnK B 1), ?_, .inr ⟨?_, 0, ?_⟩⟩
    · simp only [setE, Instr.findNow, Instr.sameNow, hb, eq_true h0, decide_true]
      rfl
    · simp only [eq_true h0, if_true]; decide
    · simp only [eq_true h0, if_true]
  · by_cases h1 : k = key1
    · refine ⟨some (1, fnK B 1), ?_, .inr ⟨?_, 1, ?_⟩⟩
      · simp only [setE, Instr.findNow, Instr.sameNow, hb, eq_false h0, eq_true h1, decide_true, decide_false]
        rfl
      · simp only [eq_false h0, eq_true h1, if_true, if_false]; decide
      · simp only [eq_false h0, eq_true h1, if_true, if_false]
    · by_cases h2 : k = key2
      · refine ⟨some (2, fnK B 2), ?_, .inr ⟨?_, 2, ?_⟩⟩
        · simp only [setE, Instr.findNow, Instr.sameNow, hb, eq_false h0, eq_false h1, eq_true h2, decide_true, decide_false]
          rfl
        · simp only [eq_false h0, eq_false h1, eq_true h2, if_true, if_false]; decide
        · simp only [eq_false h0, eq_false h1, eq_true h2, if_true, if_false]
      · by_cases h3 : k = key3
        · refine ⟨some (3, fnK B 2), ?_, .inr ⟨?_, 3, ?_⟩⟩
          · simp only [setE, Instr.findNow, Instr.sameNow, hb, eq_false h0, eq_false h1, eq_false h2, eq_true h3, decide_true, decide_false]
            rfl
          · simp only [eq_false h0, eq_false h1, eq_false h2, eq_true h3, if_true, if_false]; decide
          · simp only [eq_false h0, eq_false h1, eq_false h2, eq_true h3, if_true, if_false]
        · by_cases h4 : k = key4
          · refine ⟨some (4, fnK B 3), ?_, .inr ⟨?_, 4, ?_⟩⟩
            · simp only [setE, Instr.findNow, Instr.sameNow, hb, eq_false h0, eq_false h1, eq_false h2, eq_false h3, eq_true h4, decide_true, decide_false]
              rfl
            · simp only [eq_false h0, eq_false h1, eq_false h2, eq_false h3, eq_true h4, if_true, if_false]; decide
            · simp only [eq_false h0, eq_false h1, eq_false h2, eq_false h3, eq_true h4, if_true, if_false]
          · by_cases h5 : k = key5
            · refine ⟨some (5, fnK B 3), ?_, .inr ⟨?_, 5, ?_⟩⟩
              · simp only [setE, Instr.findNow, Instr.sameNow, hb, eq_false h0, eq_false h1, eq_false h2, eq_false h3, eq_false h4, eq_true h5, decide_true, decide_false]
                rfl
              · simp only [eq_false h0, eq_false h1, eq_false h2, eq_false h3, eq_false h4, eq_true h5, if_true, if_false]; decide
              · simp only [eq_false h0, eq_false h1, eq_false h2, eq_false h3, eq_false h4, eq_true h5, if_true, if_false]
            · by_cases h6 : k = key6
              · refine ⟨some (6, fnK B 4), ?_, .inr ⟨?_, 6, ?_⟩⟩
                · simp only [setE, Instr.findNow, Instr.sameNow, hb, eq_false h0, eq_false h1, eq_false h2, eq_false h3, eq_false h4, eq_false h5, eq_true h6, decide_true, decide_false]
                  rfl
                · simp only [eq_false h0, eq_false h1, eq_false h2, eq_false h3, eq_false h4, eq_false h5, eq_true h6, if_true, if_false]; decide
                · simp only [eq_false h0, eq_false h1, eq_false h2, eq_false h3, eq_false h4, eq_false h5, eq_true h6, if_true, if_false]
              · by_cases h7 : k = key7
                · refine ⟨some (7, fnK B 4), ?_, .inr ⟨?_, 7, ?_⟩⟩
                  · simp only [setE, Instr.findNow, Instr.sameNow, hb, eq_false h0, eq_false h1, eq_false h2, eq_false h3, eq_false h4, eq_false h5, eq_false h6, eq_true h7, decide_true, decide_false]
                    rfl
                  · simp only [eq_false h0, eq_false h1, eq_false h2, eq_false h3, eq_false h4, eq_false h5, eq_false h6, eq_true h7, if_true, if_false]; decide
                  · simp only [eq_false h0, eq_false h1, eq_false h2, eq_false h3, eq_false h4, eq_false h5, eq_false h6, eq_true h7, if_true, if_false]
                · refine ⟨none, ?_, .inl ⟨?_, rfl⟩⟩
                  · simp only [setE, Instr.findNow, Instr.sameNow, hb, eq_false h0, eq_false h1, eq_false h2, eq_false h3, eq_false h4, eq_false h5, eq_false h6, eq_false h7, decide_false]
                  · simp only [eq_false h0, eq_false h1, eq_false h2, eq_false h3, eq_false h4, eq_false h5, eq_false h6, eq_false h7, if_false]
theorem lookup_set {B : Nat} {w : World} (h : SetsAt B w) (k : ByteArray) (ok : Bool) :
    (Instr.lookup 149 (.map (some (B + 3))) (.string k) ok).run Tryz.prog w = .ok (if ok then .tuple #[fnK B (kindK k), .bool (decide (kindK k ≠ 0))] else fnK B (kindK k)) w := by
  have hc : (Instr.checkKey (setE B).isEmpty 10000 9 (.string k)).run Tryz.prog w = .ok () w := MapKept.run_checkKey (k := .string k) Tryz.underlying9 (by simp [MapKept.IsKey]) _ 9999
  obtain ⟨r, hr, hk⟩ := find_set B k
  have hz := Tryz.zeroValue43 w
  rcases hk with ⟨h0, rfl⟩ | ⟨h0, i, rfl⟩
  · simp [Instr.lookup, run_underlying Tryz.underlying149, MapKept.run_getObj_map h.m, hc, MapKept.run_findKey Tryz.underlying9 hr, Result.andThen, hz, h0, fnK]
  · simp [Instr.lookup, run_underlying Tryz.underlying149, MapKept.run_getObj_map h.m, hc, MapKept.run_findKey Tryz.underlying9 hr, Result.andThen, h0]

/-- What a string becomes, by the number of its character set. -/
def decL (k : Nat) (l : List UInt8) : List UInt8 := if k = 1 then byteL asciiP l else if k = 2 then repairL l else if k = 3 then byteL id l else byteL winP l

set_option maxHeartbeats 2000000 in
theorem decode_any (n s : ByteArray) (hn : n.size ≤ 4000000) (hs : s.size ≤ 4000000) (w : World) (hv : Vars w) :
    Calls Tryz.prog 109 #[.string n, .string s] w fun e w' => e = .returned (.tuple #[.string ⟨(decL (kindL n.data.toList) s.data.toList).toArray⟩, .bool (decide (kindL n.data.toList ≠ 0))]) ∧ Below w.heap.size w w' := by
  have hk := kind_low n.data.toList
  have hk5 := kindK_le ⟨(n.data.toList.map lowB).toArray⟩
  rw [show kindK ⟨(n.data.toList.map lowB).toArray⟩ = kindL n.data.toList from rfl] at hk5
  generalize kindL n.data.toList = kd at hk hk5 ⊢
  have HK := Lib.hid hk
  clear hk
  go_enter Tryz.func109, Tryz.ntmps109
  go_wp2_with (go_at_call 152; refine (decoders_any w).mono ?_; rintro e w1 ⟨rfl, hs1, hb1⟩)
  refine (lower_any n hn w1 (hv.below hb1)).mono ?_
  rintro e w2 ⟨rfl, hb2⟩
  have hs2 := hs1.below hb2
  have hb3 := hb1.trans (hb2.mono hb1.size)
  have hv2 := hv.below hb3
  have hl := lookup_set hs2 ⟨(Lib.mapD lowZ n.data.toList).toArray⟩ true
  rw [HK.out] at hl
  simp only [if_true] at hl
  have hlw := lookup_set hs2 key6 false
  have hlt := hs2.lt
  rcases hk5 with rfl | rfl | rfl | rfl | rfl
  · rw [show fnK w.heap.size 0 = .nilFunc from rfl, show decide ((0 : Nat) ≠ 0) = false from rfl] at hl
    rw [show kindK key6 = 4 from by decide, show fnK w.heap.size 4 = decV (w.heap.size + 2) from rfl] at hlw
    simp only [Bool.false_eq_true, if_false] at hlw
    unfold decV key6 at hlw
    go_wp2_with (go_at_call 211; refine (conv_win s hs _ w2 (by omega) hs2.c2 hv2).mono ?_; rintro e w3 ⟨rfl, hb4⟩)
    go_ret2
    exact ⟨rfl, hb3.trans (hb4.mono hb3.size)⟩
  · rw [show fnK w.heap.size 1 = decV w.heap.size from rfl, show decide ((1 : Nat) ≠ 0) = true from rfl] at hl
    unfold decV at hl
    go_wp2_with (go_at_call 211; refine (conv_ascii s hs _ w2 (by omega) hs2.c0).mono ?_; rintro e w3 ⟨rfl, hb4⟩)
    go_ret2
    exact ⟨rfl, hb3.trans (hb4.mono hb3.size)⟩
  · rw [show fnK w.heap.size 2 = repV from rfl, show decide ((2 : Nat) ≠ 0) = true from rfl] at hl
    unfold repV at hl
    go_wp2_with (go_at_call 25; refine (repair_any s hs w2).mono ?_; rintro e w3 ⟨rfl, hb4⟩)
    go_ret2
    exact ⟨rfl, hb3.trans (hb4.mono hb3.size)⟩
  · rw [show fnK w.heap.size 3 = decV (w.heap.size + 1) from rfl, show decide ((3 : Nat) ≠ 0) = true from rfl] at hl
    unfold decV at hl
    go_wp2_with (go_at_call 211; refine (conv_latin s hs _ w2 (by omega) hs2.c1).mono ?_; rintro e w3 ⟨rfl, hb4⟩)
    go_ret2
    exact ⟨rfl, hb3.trans (hb4.mono hb3.size)⟩
  · rw [show fnK w.heap.size 4 = decV (w.heap.size + 2) from rfl, show decide ((4 : Nat) ≠ 0) = true from rfl] at hl
    unfold decV at hl
    go_wp2_with (go_at_call 211; refine (conv_win s hs _ w2 (by omega) hs2.c2 hv2).mono ?_; rintro e w3 ⟨rfl, hb4⟩)
    go_ret2
    exact ⟨rfl, hb3.trans (hb4.mono hb3.size)⟩
end Go.Proofs.YtdinachiiimngaaGreatDoor.Cs
namespace Go.Proofs.YtdinachiiimngaaGreatDoor
open Go.ChangeShapes Go.WideShapes Go.ChangeAt Go.RowKit
open TokP AdrP CtP

theorem dig_facts : ∀ n : Fin 256, (hexV (UInt8.ofNat n.val)) = if Nu.dig (UInt8.ofNat n.val).toNat < 16 then some (Nu.dig (UInt8.ofNat n.val).toNat) else none := by decide +kernel
theorem dig_all (c : UInt8) : hexV c = if Nu.dig c.toNat < 16 then some (Nu.dig c.toNat) else none :=
  byte_all (P := fun c => hexV c = if Nu.dig c.toNat < 16 then some (Nu.dig c.toNat) else none) dig_facts c
theorem unhex_two (a b : UInt8) : Nu.unhexOk [a, b] = (hex2 [a, b]).isSome ∧ ∀ c, hex2 [a, b] = some c → Nu.unhexS [a, b] = [c] := by
  have h1 : Nu.unhexOk [a, b] = (decide (Nu.dig a.toNat < 16) && decide (Nu.dig b.toNat < 16)) := by
    unfold Nu.unhexOk
    simp
  have h2 : hex2 [a, b] = if Nu.dig a.toNat < 16 ∧ Nu.dig b.toNat < 16 then some (UInt8.ofNat (16 * Nu.dig a.toNat + Nu.dig b.toNat)) else none := by
    show (match hexV a, hexV b with
      | some x, some y => some (UInt8.ofNat (16 * x + y))
      | _, _ => none) = _
    rw [dig_all a, dig_all b]
    by_cases ha : Nu.dig a.toNat < 16
    · rw [if_pos ha]
      by_cases hb : Nu.dig b.toNat < 16
      · rw [if_pos hb, if_pos ⟨ha, hb⟩]
      · rw [if_neg hb, if_neg (fun h => hb h.2)]
    · rw [if_neg ha]
      exact (if_neg (fun h => ha h.1)).symm
  constructor
  · rw [h1, h2]
    by_cases h : Nu.dig a.toNat < 16 ∧ Nu.dig b.toNat < 16
    · rw [if_pos h, decide_eq_true h.1, decide_eq_true h.2]; rfl
    · rw [if_neg h]
      rw [← Bool.decide_and, decide_eq_false h]; rfl
  · intro c hc
    rw [h2] at hc
    by_cases h : Nu.dig a.toNat < 16 ∧ Nu.dig b.toNat < 16
    · rw [if_pos h] at hc
      unfold Nu.unhexS
      rw [if_pos (by rw [h1, decide_eq_true h.1, decide_eq_true h.2]; rfl), ← Option.some.inj hc]
      unfold Nu.bytesTo
      simp [List.range_succ, Nu.byteAt]
    · rw [if_neg h] at hc; exact absurd hc (by simp)
theorem unhex_ok (s : ByteArray) (hs : s.size = 2) (W : World) : Calls Tryz.prog 151 #[.string s] W fun e w' => ∃ T : ByteArray, e = .returned (.tuple #[.string T, .bool (hex2 s.data.toList).isSome]) ∧ (∀ b, hex2 s.data.toList = some b → T = strL [b]) ∧ Below W.heap.size W w' := by
  have c := Nu.unhex_any s (by omega) W
  have hz := size_list s
  rw [hs] at hz
  generalize s.data.toList = l at c hz ⊢
  obtain ⟨a, b, rfl⟩ : ∃ a b, l = [a, b] := by
    match l, hz with
    | [a, b], _ => exact ⟨a, b, rfl⟩
  obtain ⟨h1, h2⟩ := unhex_two a b
  rw [h1] at c
  refine c.mono fun e w' h => ⟨_, h.1, fun b hb => ?_, h.2⟩
  rw [h2 b hb]; rfl
set_option maxRecDepth 100000 in
set_option maxHeartbeats 4000000 in
theorem pct_any (s : ByteArray) (hs : s.size ≤ 4000000) (w : World) :
    Calls Tryz.prog 108 #[.string s] w fun e w' => e = .returned (.string (strL (pctL s.data.toList))) ∧ Below w.heap.size w w' := by
  obtain ⟨n, hn⟩ : ∃ n, s.size = n := ⟨_, rfl⟩
  have HN := Lib.hid hn
  have HL := Lib.hid (size_list s)
  rw [hn] at hs
  obtain ⟨R, hR⟩ : ∃ R, pctL s.data.toList = R := ⟨_, rfl⟩
  rw [hR]
  have HR := Lib.hid (show ([] : List UInt8) ++ pctS 0 (s.data.toList.drop 0) = R from hR)
  have H0 := Lib.hid (Wr.first (bk_new w))
  have HB0 := Lib.hid ((Below.refl w.heap.size w).alloc (Nat.le_refl _) (.cells #[.pointer none, .slice none 0 0] 61))
  obtain ⟨W0, hW0⟩ : ∃ W0, w.alloc (.cells #[.pointer none, .slice none 0 0] 61) = W0 := ⟨_, rfl⟩
  rw [hW0] at H0 HB0
  have HW0 := Lib.hid hW0
  clear hR hW0
  go_enter Tryz.func108, Tryz.ntmps108
  go_wp2_with fail
  rw [HW0.out]
  go_loopw [4] (fun i wr => ∃ (k : Nat) (T : List UInt8), k ≤ n ∧ i = .int .i64 k ∧ T.length ≤ k ∧ Hid (T ++ pctS 0 (s.data.toList.drop k) = R) ∧ Hid (Wr w.heap.size W0 wr T)) (fun i _ => n - (intOf i).toNat)
  case atStart => exact ⟨0, [], Nat.zero_le _, rfl, Nat.zero_le _, HR, H0⟩
  case round =>
    obtain ⟨k, T, hk, rfl, hTz, HG, HT⟩ := hrel
    clear H0
    have F1 : IntKind.i64.wrap ((k : Int) + 1) = (k : Int) + 1 := by rw [IntKind.wrap_i64]; omega
    have F2 : IntKind.i64.wrap ((k : Int) + 2) = (k : Int) + 2 := by rw [IntKind.wrap_i64]; omega
    have F3 : IntKind.i64.wrap ((k : Int) + 3) = (k : Int) + 3 := by rw [IntKind.wrap_i64]; omega
    have F4 : IntKind.i64.wrap ((k : Int) + 2 + 1) = (k : Int) + 2 + 1 := by rw [IntKind.wrap_i64]; omega
    by_cases hlt : k < n
    · have hlt' : (k : Int) < (n : Int) := by omega
      obtain ⟨d, y, hd, hy, hy2, S1⟩ := run_byte s k (by rw [hn]; exact hlt)
      have e37 := byte_is d y hy 37 (by decide)
      rw [show ((37 : Nat) : Int) = 37 from rfl] at e37
      have HPL := Lib.hid (fun (h : pctS 0 (s.data.toList.drop k) = d :: pctS 0 (s.data.toList.drop (k + 1))) => show (T ++ [d]) ++ pctS 0 (s.data.toList.drop (k + 1)) = R by
        rw [← HG.out, h, List.append_assoc]; rfl)
      have hT1 : (T ++ [d]).length ≤ k + 1 := by rw [List.length_append, List.length_singleton]; omega
      have c1 := fun W (h : Hid (Wr w.heap.size W0 W T)) => wr_byte d (y : Int) (by omega) h.out (by omega)
      by_cases h37 : d = 37
      · rw [show decide (d = UInt8.ofNat 37) = true from decide_eq_true h37] at e37
        by_cases h2 : k + 2 < n
        · have h2' : (k : Int) + 2 < (n : Int) := by omega
          have R2 := run_slice_str s (k + 1) (k + 3) ((k : Int) + 3) (by omega) (by omega) (by omega)
          have hX : (s.extract (k + 1) (k + 3)).data.toList = (s.data.toList.drop (k + 1)).take 2 := by
            rw [part_of s (k + 1) (k + 3) (by omega) (by omega), strL_list]
            rw [show k + 3 - (k + 1) = 2 by omega]
          have hXz : (s.extract (k + 1) (k + 3)).size = 2 := by rw [ByteArray.size_extract]; omega
          have cU := fun W => unhex_ok (s.extract (k + 1) (k + 3)) hXz W
          rw [hX, hex2_take] at cU
          generalize s.extract (k + 1) (k + 3) = X at R2 cU
          rw [show ((k + 1 : Nat) : Int) = (k : Int) + 1 by omega] at R2
          cases hh : hex2 (s.data.toList.drop (k + 1)) with
          | none =>
            rw [hh] at cU
            have HG2 := Lib.hid (HPL.out (pct_no hd hh))
            clear hh hX hXz hd hy HG HPL h37
            go_wp2_with (first
              | (go_at_call 151; (with_reducible refine (cU _).mono ?_); rintro e w2 ⟨V, rfl, _, hb2⟩; have HT2 := Lib.hid (HT.out.other hb2); clear hb2 cU)
              | (go_at_call 80; (with_reducible refine (c1 _ HT2).mono ?_); rintro e w3 ⟨rfl, hq3⟩; have HT3 := Lib.hid hq3; clear hq3 c1))
            go_roundw
            case rel => exact ⟨k + 1, _, by omega, by go_num, hT1, HG2, HT3⟩
            case measure => simp [intOf]; omega
          | some b =>
            rw [hh] at cU
            have hyes := pct_yes (h37 ▸ hd) hh
            have HG2 := Lib.hid (show (T ++ [b]) ++ pctS 0 (s.data.toList.drop (k + 3)) = R by rw [← HG.out, hyes, List.append_assoc]; rfl)
            have hT3 : (T ++ [b]).length ≤ k + 3 := by rw [List.length_append, List.length_singleton]; omega
            have c2 := fun W (h : Hid (Wr w.heap.size W0 W T)) => wr_str (strL [b]) h.out (by rw [strL_size, List.length_singleton]; omega)
            rw [strL_list] at c2
            have HV := Lib.hid (fun (V : ByteArray) (h : ∀ c, some b = some c → V = strL [c]) => h b rfl)
            generalize strL [b] = Z at HV c2
            clear hh hX hXz hd hy HG HPL h37 hT1 c1 hyes
            go_wp2_with (first
              | (go_at_call 151; (with_reducible refine (cU _).mono ?_); rintro e w2 ⟨V, rfl, hv, hb2⟩; have hv2 := HV.out V hv; subst hv2; have HT2 := Lib.hid (HT.out.other hb2); clear hb2 cU hv)
              | (go_at_call 42; (with_reducible refine (c2 _ HT2).mono ?_); rintro e w3 ⟨rfl, hq3⟩; have HT3 := Lib.hid hq3; clear hq3 c2))
            go_roundw
            case rel => exact ⟨k + 3, _, by omega, by go_num, hT3, HG2, HT3⟩
            case measure => simp [intOf]; omega
        · have h2' : ¬ (k : Int) + 2 < (n : Int) := by omega
          have hsh : hex2 (s.data.toList.drop (k + 1)) = none := hex2_short (by rw [List.length_drop, ← HL.out, hn]; omega)
          have HG2 := Lib.hid (HPL.out (pct_no hd hsh))
          clear hsh hd hy HG HPL h37
          go_wp2_with (go_at_call 80; (with_reducible refine (c1 _ HT).mono ?_); rintro e w3 ⟨rfl, hq3⟩; have HT3 := Lib.hid hq3; clear hq3 c1)
          go_roundw
          case rel => exact ⟨k + 1, _, by omega, by go_num, hT1, HG2, HT3⟩
          case measure => simp [intOf]; omega
      · rw [show decide (d = UInt8.ofNat 37) = false from decide_eq_false h37] at e37
        have HG2 := Lib.hid (HPL.out (pct_plain hd h37))
        clear hd hy HG HPL h37
        go_wp2_with (go_at_call 80; (with_reducible refine (c1 _ HT).mono ?_); rintro e w3 ⟨rfl, hq3⟩; have HT3 := Lib.hid hq3; clear hq3 c1)
        go_roundw
        case rel => exact ⟨k + 1, _, by omega, by go_num, hT1, HG2, HT3⟩
        case measure => simp [intOf]; omega
    · obtain rfl : k = n := by omega
      have hlt' : ¬ (k : Int) < (k : Int) := by omega
      have hg := HG.out
      rw [List.drop_eq_nil_of_le (by rw [← HL.out, hn]; exact Nat.le_refl _), pctS, List.append_nil] at hg
      subst hg
      have cO := fun W (h : Hid (Wr w.heap.size W0 W T)) => bk_out _ _ W h.out.bk
      clear HG HR
      go_wp2_with (go_at_call 44; (with_reducible refine (cO _ HT).mono ?_); rintro e w3 ⟨rfl, hb3⟩)
      go_ret
      exact ⟨rfl, (HB0.out.trans HT.out.below).trans hb3⟩
end Go.Proofs.YtdinachiiimngaaGreatDoor
namespace Go.Proofs.YtdinachiiimngaaGreatDoor
open Go.ChangeShapes Go.WideShapes Go.ChangeAt Go.RowKit
open TokP AdrP CtP

def keyV (n : List UInt8) (z : Int) : Value := .agg #[.string (strL n), .int .i64 z]
def partA : Option (List UInt8 × Bool) → Value
  | some p => .agg #[.string (strL p.1), .bool p.2]
  | none => .agg #[.string ⟨#[]⟩, .bool false]
def entV (e : Ent) : Value × Value := (keyV e.1.1 e.1.2, .agg #[.string (strL e.2.1), .bool e.2.2])
/-- The map in block M holds these parts under their places. -/
def MpP (w : World) (M : Nat) (L : List Ent) : Prop := ∃ es c, w.heap[M]? = some (.map es c) ∧ es.toList.map (fun e => (e.key, e.val)) = L.map entV
/-- The map in block M holds these names. -/
def MpN (w : World) (M : Nat) (ns : List (List UInt8)) : Prop := ∃ es c, w.heap[M]? = some (.map es c) ∧ es.toList.map (fun e => (e.key, e.val)) = ns.map (fun n => (Value.string (strL n), Value.bool true))
theorem MpP.lt {w : World} {M : Nat} {L : List Ent} (h : MpP w M L) : M < w.heap.size := by
  obtain ⟨es, c, hb, _⟩ := h; exact (Array.getElem?_eq_some_iff.1 hb).1
theorem MpN.lt {w : World} {M : Nat} {L : List (List UInt8)} (h : MpN w M L) : M < w.heap.size := by
  obtain ⟨es, c, hb, _⟩ := h; exact (Array.getElem?_eq_some_iff.1 hb).1
theorem MpP.keep {w w' : World} {M : Nat} {L : List Ent} (h : MpP w M L) (hk : w'.heap[M]? = w.heap[M]?) : MpP w' M L := by
  obtain ⟨es, c, hb, hl⟩ := h; exact ⟨es, c, hk.trans hb, hl⟩
theorem MpN.keep {w w' : World} {M : Nat} {L : List (List UInt8)} (h : MpN w M L) (hk : w'.heap[M]? = w.heap[M]?) : MpN w' M L := by
  obtain ⟨es, c, hb, hl⟩ := h; exact ⟨es, c, hk.trans hb, hl⟩
theorem MpP.step {w w' : World} {M : Nat} {L : List Ent} (h : MpP w M L) (hb : Below w.heap.size w w') : MpP w' M L := h.keep (hb.block M h.lt)
theorem MpN.step {w w' : World} {M : Nat} {L : List (List UInt8)} (h : MpN w M L) (hb : Below w.heap.size w w') : MpN w' M L := h.keep (hb.block M h.lt)
theorem mpP_new (w : World) : MpP (w.alloc (.map #[] 0)) w.heap.size [] := ⟨#[], 0, Go.heap_alloc_new w _, rfl⟩
theorem mpN_new (w : World) : MpN (w.alloc (.map #[] 0)) w.heap.size [] := ⟨#[], 0, Go.heap_alloc_new w _, rfl⟩
/-! ### Names -/
theorem find_name (n : List UInt8) : ∀ (es : List MapEntry) (ns : List (List UInt8)) (i : Nat), es.map (fun e => (e.key, e.val)) = ns.map (fun n => (Value.string (strL n), Value.bool true)) →
    ∃ r, Instr.findNow .string (.string (strL n)) es i = some r ∧ ((n ∈ ns ∧ ∃ j, r = some (j, .bool true)) ∨ (n ∉ ns ∧ r = none))
  | [], ns, i, h => by
    obtain rfl : ns = [] := by
      cases ns with
      | nil => rfl
      | cons a b => simp at h
    exact ⟨none, rfl, .inr ⟨by simp, rfl⟩⟩
  | e :: es, ns, i, h => by
    cases ns with
    | nil => simp at h
    | cons m ns =>
      rw [List.map_cons, List.map_cons] at h
      obtain ⟨h1, h2⟩ := List.cons.inj h
      obtain ⟨hk, hv⟩ := Prod.mk.inj h1
      have hs : Instr.sameNow .string (.string (strL n)) e.key = some (decide (n = m)) := by
        rw [hk]
        show some (strL n == strL m) = _
        rw [bytes_eqb]
        congr 1
        rw [Bool.eq_iff_iff, decide_eq_true_iff, decide_eq_true_iff]
        exact strL_inj
      rw [Instr.findNow, hs]
      by_cases hn : n = m
      · rw [decide_eq_true hn]
        exact ⟨_, rfl, .inl ⟨by rw [hn]; simp, i, by rw [hv]⟩⟩
      · rw [decide_eq_false hn]
        obtain ⟨r, h3, h4⟩ := find_name n es ns (i + 1) h2
        refine ⟨r, h3, ?_⟩
        rcases h4 with ⟨h5, h6⟩ | ⟨h5, h6⟩
        · exact .inl ⟨by simp [h5], h6⟩
        · exact .inr ⟨by simp [h5, hn], h6⟩
theorem key_name (n : List UInt8) (e : Bool) (W : World) : (Instr.checkKey e 10000 9 (.string (strL n))).run Tryz.prog W = .ok () W := MapKept.run_checkKey (k := .string (strL n)) Tryz.underlying9 (by simp [MapKept.IsKey]) e 9999
theorem look_name {w : World} {M : Nat} {ns : List (List UInt8)} (h : MpN w M ns) (n : List UInt8) : (Instr.lookup 90 (.map (some M)) (.string (strL n)) false).run Tryz.prog w = .ok (.bool (decide (n ∈ ns))) w := by
  obtain ⟨es, c, hb, hl⟩ := h
  obtain ⟨r, hr, hc⟩ := find_name n es.toList ns 0 hl
  have hz : (zeroValue 4).run Tryz.prog w = .ok (.bool false) w := Tryz.zeroValue4 w
  rcases hc with ⟨hin, j, rfl⟩ | ⟨hno, rfl⟩
  · rw [decide_eq_true hin]
    simp [Instr.lookup, run_underlying Tryz.underlying90, MapKept.run_getObj_map hb, key_name, MapKept.run_findKey Tryz.underlying9 hr, Result.andThen]
  · rw [decide_eq_false hno]
    simp [Instr.lookup, run_underlying Tryz.underlying90, MapKept.run_getObj_map hb, key_name, MapKept.run_findKey Tryz.underlying9 hr, Result.andThen, hz]
theorem wpList_name {ops : Array Oper} {rest : List Oper} {o : Oper} {a : Act} {w : World} {Q : Exit → Act → World → Prop}
    (hg : o.guard = none) (m x v : Operand) (hop : o.op = Op.mapUpdate 90 m x v) (M : Nat) (ns : List (List UInt8)) (h : MpN w M ns) (n : List UInt8) (hn : n ∉ ns) (hm : a.eval m = .map (some M)) (hx : a.eval x = .string (strL n)) (hv : a.eval v = .bool true)
    (hK : ∀ w', MpN w' M (ns ++ [n]) → Below M w w' → (∀ k, k ≠ M → w'.heap[k]? = w.heap[k]?) → w'.heap.size = w.heap.size → wpList Tryz.prog ops Q rest (a.put o.dst undef) w') : wpList Tryz.prog ops Q (o :: rest) a w := by
  obtain ⟨es, c, hb, hl⟩ := h
  obtain ⟨r, hr, hc⟩ := find_name n es.toList ns 0 hl
  obtain rfl : r = none := by
    rcases hc with ⟨hin, _⟩ | ⟨_, h⟩
    · exact absurd hin hn
    · exact h
  refine wpList_plain hg fun K' hK' => ?_
  have hrun : (Instr.mapUpdate 90 (.map (some M)) (.string (strL n)) (.bool true)).run Tryz.prog w = .ok () { w with heap := w.heap.setIfInBounds M (.map (es.push { key := .string (strL n), val := .bool true, born := c }) (c + 1)) } := by
    simp [Instr.mapUpdate, run_underlying Tryz.underlying90, MapKept.run_getObj_map hb, key_name, MapKept.run_findKey Tryz.underlying9 hr, MapKept.run_setObj_map _ hb, Result.andThen]
  unfold Oper.wp
  simp [execOp, hop, hm, hx, hv, hrun, Result.andThen]
  have hset := MapKept.heap_set (o' := .map (es.push { key := .string (strL n), val := .bool true, born := c }) (c + 1)) hb
  refine hK' _ _ (hK _ ⟨_, _, hset.1, ?_⟩ ⟨rfl, rfl, rfl, by simp, fun i hi => hset.2 i (by omega)⟩ (fun k hk => hset.2 k hk) (by simp))
  rw [Array.toList_push, List.map_append, List.map_append, hl]
  rfl
/-! ### Places -/
theorem place_iff (a b : List UInt8) (x y : Int) (w0 : World) : (Op.equal 94 (keyV a x) (keyV b y)).run Tryz.prog w0 = .ok (decide (b = a) && decide (y = x)) w0 := by
  have h1 := eq_strL a b
  have h2 : (x == y) = decide (y = x) := by rw [Bool.eq_iff_iff, beq_iff_eq, decide_eq_true_iff]; exact eq_comm
  have h3 : decide (a = b) = decide (b = a) := by rw [Bool.eq_iff_iff, decide_eq_true_iff, decide_eq_true_iff]; exact eq_comm
  rw [h3] at h1
  rw [← h1, ← h2]
  unfold keyV
  clear h1 h2 h3
  generalize strL a = u
  generalize strL b = v
  show (Op.equalIn 10000 94 _ _).run Tryz.prog w0 = _
  go_simp
  cases g1 : (u.toList == v.toList) <;> cases g2 : (x == y) <;> simp_all
theorem key_place (n : List UInt8) (z : Int) (e : Bool) (W : World) : (Instr.checkKey e 10000 94 (keyV n z)).run Tryz.prog W = .ok () W := by
  unfold keyV
  generalize strL n = u
  kernel_rfl
theorem asking_place (n : List UInt8) (z : Int) (w : World) : ∀ (es : List MapEntry) (L : List Ent) (i : Nat), es.map (fun e => (e.key, e.val)) = L.map entV →
    ∃ r, (Instr.findAsking 94 (keyV n z) es i).run Tryz.prog w = .ok r w ∧ ((getE L n z = none ∧ r = none) ∨ ∃ p j, getE L n z = some p ∧ r = some (j, partA (some p)))
  | [], L, i, h => by
    obtain rfl : L = [] := by
      cases L with
      | nil => rfl
      | cons a b => simp at h
    exact ⟨none, rfl, .inl ⟨rfl, rfl⟩⟩
  | e :: es, L, i, h => by
    cases L with
    | nil => simp at h
    | cons m L =>
      rw [List.map_cons, List.map_cons] at h
      obtain ⟨h1, h2⟩ := List.cons.inj h
      obtain ⟨hk, hv⟩ := Prod.mk.inj h1
      have he := place_iff n m.1.1 z m.1.2 w
      have hg : getE (m :: L) n z = if (decide (m.1.1 = n) && decide (m.1.2 = z)) = true then some m.2 else getE L n z := by
        unfold getE
        rw [List.find?_cons]
        have : (m.1.1 == n && m.1.2 == z) = (decide (m.1.1 = n) && decide (m.1.2 = z)) := by
          rw [Bool.eq_iff_iff]; simp
        rw [this]
        cases (decide (m.1.1 = n) && decide (m.1.2 = z)) <;> rfl
      rw [hg]
      unfold Instr.findAsking
      rw [hk]
      simp only [Sem.run_bind, he, Result.andThen]
      cases hd : (decide (m.1.1 = n) && decide (m.1.2 = z)) with
      | true =>
        simp only [if_true]
        refine ⟨_, rfl, .inr ⟨m.2, i, rfl, ?_⟩⟩
        rw [hv]; rfl
      | false =>
        simp only [Bool.false_eq_true, if_false]
        obtain ⟨r, h3, h4⟩ := asking_place n z w es L (i + 1) h2
        exact ⟨r, h3, h4⟩
theorem find_place {es : Array MapEntry} {L : List Ent} (h : es.toList.map (fun e => (e.key, e.val)) = L.map entV) (n : List UInt8) (z : Int) (w : World) :
    ∃ r, (Instr.findKey 94 (keyV n z) es.toList).run Tryz.prog w = .ok r w ∧ ((getE L n z = none ∧ r = none) ∨ ∃ p j, getE L n z = some p ∧ r = some (j, partA (some p))) := by
  obtain ⟨r, h1, h2⟩ := asking_place n z w es.toList L 0 h
  refine ⟨r, ?_, h2⟩
  unfold Instr.findKey
  simp only [Sem.run_bind, run_underlying Tryz.underlying94, Result.andThen]
  cases hl : es.toList with
  | nil =>
    rw [hl] at h1
    exact h1
  | cons e r' =>
    rw [hl] at h1
    exact h1
theorem zero_part (w : World) : (zeroValue 98).run Tryz.prog w = .ok (.agg #[.string ⟨#[]⟩, .bool false]) w := Tryz.zeroValue98 w
theorem look_part {w : World} {M : Nat} {L : List Ent} (h : MpP w M L) (n : List UInt8) (z : Int) : (Instr.lookup 91 (.map (some M)) (keyV n z) true).run Tryz.prog w = .ok (.tuple #[partA (getE L n z), .bool (getE L n z).isSome]) w := by
  obtain ⟨es, c, hb, hl⟩ := h
  obtain ⟨r, hr, hc⟩ := find_place hl n z w
  rcases hc with ⟨hg, rfl⟩ | ⟨p, j, hg, rfl⟩
  · rw [hg]
    simp [Instr.lookup, run_underlying Tryz.underlying91, MapKept.run_getObj_map hb, key_place, hr, Result.andThen, partA]
  · rw [hg]
    simp [Instr.lookup, run_underlying Tryz.underlying91, MapKept.run_getObj_map hb, key_place, hr, Result.andThen, partA]
theorem wpList_part {ops : Array Oper} {rest : List Oper} {o : Oper} {a : Act} {w : World} {Q : Exit → Act → World → Prop}
    (hg : o.guard = none) (m x v : Operand) (hop : o.op = Op.mapUpdate 91 m x v) (M : Nat) (L : List Ent) (h : MpP w M L) (e : Ent) (hn : getE L e.1.1 e.1.2 = none) (hm : a.eval m = .map (some M)) (hx : a.eval x = (entV e).1) (hv : a.eval v = (entV e).2)
    (hK : ∀ w', MpP w' M (L ++ [e]) → (∀ k, k ≠ M → w'.heap[k]? = w.heap[k]?) → Below M w w' → w'.heap.size = w.heap.size → wpList Tryz.prog ops Q rest (a.put o.dst undef) w') : wpList Tryz.prog ops Q (o :: rest) a w := by
  obtain ⟨es, c, hb, hl⟩ := h
  obtain ⟨r, hr, hc⟩ := find_place hl e.1.1 e.1.2 w
  obtain rfl : r = none := by
    rcases hc with ⟨_, h⟩ | ⟨p, j, hg, _⟩
    · exact h
    · rw [hn] at hg; exact absurd hg (by simp)
  refine wpList_plain hg fun K' hK' => ?_
  have hrun : (Instr.mapUpdate 91 (.map (some M)) (entV e).1 (entV e).2).run Tryz.prog w = .ok () { w with heap := w.heap.setIfInBounds M (.map (es.push { key := (entV e).1, val := (entV e).2, born := c }) (c + 1)) } := by
    have hr' : (Instr.findKey 94 (entV e).1 es.toList).run Tryz.prog w = .ok none w := hr
    have hk' : (Instr.checkKey false 10000 94 (entV e).1).run Tryz.prog w = .ok () w := key_place _ _ _ _
    simp [Instr.mapUpdate, run_underlying Tryz.underlying91, MapKept.run_getObj_map hb, hk', hr', MapKept.run_setObj_map _ hb, Result.andThen]
  unfold Oper.wp
  simp [execOp, hop, hm, hx, hv, hrun, Result.andThen]
  have hset := MapKept.heap_set (o' := .map (es.push { key := (entV e).1, val := (entV e).2, born := c }) (c + 1)) hb
  refine hK' _ _ (hK _ ⟨_, _, hset.1, ?_⟩ (fun k hk => hset.2 k hk) ⟨rfl, rfl, rfl, by simp, fun i hi => hset.2 i (by omega)⟩ (by simp))
  rw [Array.toList_push, List.map_append, List.map_append, hl]
  rfl
theorem ptx_new0 (w : World) (V : ByteArray) (E : Bool) : (w.alloc (.cells #[.string V, .bool E] 98)).cell? ⟨w.heap.size, 0, none⟩ = some (.string V) ∧ (w.alloc (.cells #[.string V, .bool E] 98)).cell? ⟨w.heap.size, 1, none⟩ = some (.bool E) := by
  have h := World.alloc_heap_new w (.cells #[.string V, .bool E] 98)
  exact ⟨by rw [Lib.cell_of_heap h]; rfl, by rw [Lib.cell_of_heap h]; rfl⟩
end Go.Proofs.YtdinachiiimngaaGreatDoor
namespace Go.Proofs.YtdinachiiimngaaGreatDoor
open Go

variable {P : Program} {ops : Array Oper} {Q : Exit → Act → World → Prop} {md : Region.Mode} {S : World → Prop}
theorem at_drop {i : Nat} {oi : Oper} {tl : List Oper} (h : ops.toList.drop i = oi :: tl) : ops[i]? = some oi := by
  have h2 := congrArg (·[0]?) h
  simpa using h2
/-- An operation that yields v in every world that meets S is taken first. -/
theorem held_take {i : Nat} {oi : Oper} {tl : List Oper} (v : Value) {fuel : Nat} {listed : Array Bool} {a : Act} {w : World} (hi : ops.toList.drop i = oi :: tl)
    (hs : Region.noSelect ops = true) (hf : Region.free md ops listed i = true) (hr : (Region.ready md ops listed).contains i = true)
    (hw : Region.wanted oi (yielded ops a.tmps) = true)
    (hv : ∀ w, S w → (execOp a.eval oi).run P w = .ok (.value v) w) (hS : S w)
    (h : wpAnyH P md ops (NoPanic Q) S fuel (listed.setIfInBounds i true) (a.put oi.dst v) w) : wpAnyH P md ops (NoPanic Q) S (fuel + 1) listed a w :=
  wpAnyH_take (at_drop hi) hs hf hr (fun _ _ _ h => (h : False).elim) (Or.inl ⟨hw, hv⟩) hS h
/-- An operation that is guarded away. -/
theorem held_skip {i : Nat} {oi : Oper} {tl : List Oper} {fuel : Nat} {listed : Array Bool} {a : Act} {w : World} (hi : ops.toList.drop i = oi :: tl)
    (hs : Region.noSelect ops = true) (hf : Region.free md ops listed i = true) (hr : (Region.ready md ops listed).contains i = true)
    (hw : Region.wanted oi (yielded ops a.tmps) = false) (hS : S w)
    (h : wpAnyH P md ops (NoPanic Q) S fuel (listed.setIfInBounds i true) (a.put oi.dst undef) w) : wpAnyH P md ops (NoPanic Q) S (fuel + 1) listed a w :=
  wpAnyH_take (at_drop hi) hs hf hr (fun _ _ _ h => (h : False).elim) (Or.inr ⟨hw, rfl⟩) hS h
/-- A load of a whole array. -/
theorem held_load {i : Nat} {oi : Oper} {tl : List Oper} (g : Nat) (cs : List Value) {fuel : Nat} {listed : Array Bool} {a : Act} {w : World} (hi : ops.toList.drop i = oi :: tl)
    (hs : Region.noSelect ops = true) (hf : Region.free md ops listed i = true) (hr : (Region.ready md ops listed).contains i = true)
    (hw : Region.wanted oi (yielded ops a.tmps) = true)
    {ty : TypeId} {x : Operand} (ho : oi.op = .load ty x) (hx : a.eval x = .pointer (some ⟨g, 0, none⟩))
    {d : TypeDesc} (hu : P.underlying ty = some d) (hd : d.isRow = true) (hz : (P.info? ty).map (·.size) = some cs.length) (hc : ∀ w, S w → w.rangeAt g 0 cs) (hS : S w)
    (h : wpAnyH P md ops (NoPanic Q) S fuel (listed.setIfInBounds i true) (a.put oi.dst (.agg cs.toArray)) w) : wpAnyH P md ops (NoPanic Q) S (fuel + 1) listed a w :=
  wpAnyH_take (at_drop hi) hs hf hr (fun _ _ _ h => (h : False).elim) (yieldsIf_load_mid hw ty x ho g 0 hx cs d hc hu hd hz) hS h
/-- The one operation that may come up is called. -/
theorem held_step {i : Nat} {oi : Oper} {tl : List Oper} (v : Value) {fuel : Nat} {listed : Array Bool} {a : Act} {w : World} (hi : ops.toList.drop i = oi :: tl)
    (hr : Region.ready md ops listed = [i]) (hw : Region.wanted oi (yielded ops a.tmps) = true)
    (hv : ∀ K : Act → World → Prop, (∀ w', S w' → K (a.put oi.dst v) w') → Oper.wp P oi a w K (NoPanic Q))
    (h : ∀ w', S w' → wpAnyH P md ops (NoPanic Q) S fuel (listed.setIfInBounds i true) (a.put oi.dst v) w') : wpAnyH P md ops (NoPanic Q) S (fuel + 1) listed a w := by
  refine wpAnyH_ready hr (by simp) (AllReadyH.cons (at_drop hi) (fun K hK => ?_) AllReadyH.nil)
  rw [if_pos hw]
  exact hv K (fun w' hS => hK.out _ _ hS (fun hS => h w' hS))
/-- The one operation that may come up goes from this world to that. -/
theorem held_goes {i : Nat} {oi : Oper} {tl : List Oper} {fuel : Nat} {listed : Array Bool} {a : Act} {w : World} (v : Value) (w1 : World) (hi : ops.toList.drop i = oi :: tl)
    (hr : Region.ready md ops listed = [i]) (hw : Region.wanted oi (yielded ops a.tmps) = true)
    (hv : ∀ K : Act → World → Prop, K (a.put oi.dst v) w1 → Oper.wp P oi a w K (NoPanic Q)) (hS : S w1)
    (h : wpAnyH P md ops (NoPanic Q) S fuel (listed.setIfInBounds i true) (a.put oi.dst v) w1) : wpAnyH P md ops (NoPanic Q) S (fuel + 1) listed a w := by
  refine wpAnyH_ready hr (by simp) (AllReadyH.cons (at_drop hi) (fun K hK => ?_) AllReadyH.nil)
  rw [if_pos hw]
  exact hv K (hK.out _ _ hS (fun _ => h))
end Go.Proofs.YtdinachiiimngaaGreatDoor
namespace Go.Proofs.YtdinachiiimngaaGreatDoor
open Go.ChangeShapes Go.WideShapes Go.ChangeAt Go.RowKit
open TokP AdrP CtP

theorem pctS_len : ∀ (s : List UInt8) (k : Nat), (pctS k s).length ≤ s.length
  | [], k => by cases k <;> exact Nat.le_refl _
  | c :: r, k + 1 => by
    have := pctS_len r k
    rw [pctS, List.length_cons]; omega
  | c :: r, 0 => by
    have h0 := pctS_len r 0
    have h2 := pctS_len r 2
    rw [pctS, List.length_cons]
    split
    · split
      · rw [List.length_cons]; omega
      · rw [List.length_cons]; omega
    · rw [List.length_cons]; omega
theorem pctL_len (s : List UInt8) : (pctL s).length ≤ s.length := pctS_len s 0
/-- How many bytes the parts hold. -/
def szQ (l : List (List UInt8 × Bool)) : Nat := (l.map (fun p => p.1.length)).sum
theorem szQ_cons (p : List UInt8 × Bool) (l : List (List UInt8 × Bool)) : szQ (p :: l) = p.1.length + szQ l := by unfold szQ; rw [List.map_cons, List.sum_cons]
theorem szQ_app (a b : List (List UInt8 × Bool)) : szQ (a ++ b) = szQ a + szQ b := by unfold szQ; rw [List.map_append, List.sum_append]
theorem szQ_at {l : List (List UInt8 × Bool)} {k : Nat} {p : List UInt8 × Bool} (h : l[k]? = some p) : szQ (l.take k) + p.1.length ≤ szQ l := by
  obtain ⟨h1, h2⟩ := List.getElem?_eq_some_iff.1 h
  have e : l = l.take k ++ p :: l.drop (k + 1) := by rw [← h2, ← List.drop_eq_getElem_cons h1, List.take_append_drop]
  conv => rhs; rw [e]
  rw [szQ_app, szQ_cons]
  omega
def partB (p : List UInt8 × Bool) : List UInt8 := if p.2 = true then pctL p.1 else p.1
theorem partB_len (p : List UInt8 × Bool) : (partB p).length ≤ p.1.length := by
  unfold partB
  split
  · exact pctL_len _
  · exact Nat.le_refl _
theorem bytesL_len (l : List (List UInt8 × Bool)) : (bytesL l).length ≤ szQ l := by
  induction l with
  | nil => exact Nat.le_refl _
  | cons p l ih =>
    have := partB_len p
    rw [bytesL_cons, szQ_cons, List.length_append]
    unfold partB at this
    omega
theorem bytesL_step {l : List (List UInt8 × Bool)} {k : Nat} {p : List UInt8 × Bool} (h : l[k]? = some p) : bytesL (l.take (k + 1)) = bytesL (l.take k) ++ partB p := by
  unfold bytesL
  rw [List.take_add_one, h, Option.toList_some, List.flatMap_append, List.flatMap_singleton]
  rfl
/-- A part in the box g. -/
def Ptx (w : World) (g : Nat) (V : ByteArray) (E : Bool) : Prop := w.heap[g]? = some (.cells #[.string V, .bool E] 98 (0, 0))
theorem Ptx.lt {w : World} {g : Nat} {V : ByteArray} {E : Bool} (h : Ptx w g V E) : g < w.heap.size := (Array.getElem?_eq_some_iff.1 h).1
theorem Ptx.step {w w' : World} {g : Nat} {V : ByteArray} {E : Bool} (h : Ptx w g V E) (hb : Below w.heap.size w w') : Ptx w' g V E := (hb.block _ h.lt).trans h
theorem ptx_new (w : World) (V : ByteArray) (E : Bool) : Ptx (w.alloc (.cells #[.string V, .bool E] 98)) w.heap.size V E := World.alloc_heap_new w _
theorem Ptx.c0 {w : World} {g : Nat} {V : ByteArray} {E : Bool} (h : Ptx w g V E) : w.cell? ⟨g, 0, none⟩ = some (.string V) := by rw [Lib.cell_of_heap h]; rfl
theorem Ptx.c1 {w : World} {g : Nat} {V : ByteArray} {E : Bool} (h : Ptx w g V E) : w.cell? ⟨g, 1, none⟩ = some (.bool E) := by rw [Lib.cell_of_heap h]; rfl
theorem Ptx.fr {w : World} {g : Nat} {V : ByteArray} {E : Bool} (h : Ptx w g V E) (i : Nat) : w.frozen? ⟨g, i, none⟩ = false := Lib.frozen_of_heap h i
theorem Ptx.set {w : World} {g : Nat} {V V' : ByteArray} {E : Bool} (h : Ptx w g V E) : Ptx (w.setCell ⟨g, 0, none⟩ (.string V')) g V' E := by
  have h' : w.heap[g]? = some (.cells #[.string V, .bool E] 98 (0, 0)) := h
  show (w.setCell ⟨g, 0, none⟩ (.string V')).heap[g]? = _
  simp [World.setCell, Array.getElem?_modify, h']
theorem ownF_keep {w w' : World} {base : Nat} {e : TypeId} {size : Nat} {v : Value} {n : Nat} {xs : List Value} (h : w.ownsRowF base e size v n xs) (hk : ∀ (g : Nat) (cs : Array Value) (fz : Nat × Nat), w.heap[g]? = some (.cells cs e fz) → w'.heap[g]? = w.heap[g]?) : w'.ownsRowF base e size v n xs := by
  refine ⟨h.1, ?_⟩
  rcases h.2 with h1 | ⟨g, cap, cur, fz, rfl, hbg, hg, rest⟩
  · exact .inl h1
  · refine .inr ⟨g, cap, cur, fz, rfl, hbg, ?_, rest⟩
    rw [hk g _ _ hg]
    exact hg
theorem builtF_keep {T e : TypeId} {B b : Nat} {p : Value} {bs : List Value} {w w' : World} (h : Lib.BuilderAtF T e B b p bs w) (hk : ∀ (g : Nat) (cs : Array Value) (fz : Nat × Nat), w.heap[g]? = some (.cells cs e fz) → w'.heap[g]? = w.heap[g]?) (hb : w'.heap[b]? = w.heap[b]?) : Lib.BuilderAtF T e B b p bs w' := by
  obtain ⟨hB, v, hv, hown, hne⟩ := h
  exact ⟨hB, v, by rw [hb]; exact hv, ownF_keep hown hk, hne⟩
theorem Bk.set {w : World} {b g o : Nat} {l : List UInt8} (h : Bk w b l) {V : ByteArray} {E : Bool} (hx : Ptx w g V E) (hne : g ≠ b) (v : Value) : Bk (w.setCell ⟨g, o, none⟩ v) b l := by
  have hk : ∀ (j : Nat), j ≠ g → (w.setCell ⟨g, o, none⟩ v).heap[j]? = w.heap[j]? := fun j hj => Below.heap_setCell w _ v j hj
  have hr : ∀ (j : Nat) (cs : Array Value) (fz : Nat × Nat), w.heap[j]? = some (.cells cs 5 fz) → (w.setCell ⟨g, o, none⟩ v).heap[j]? = w.heap[j]? := fun j cs fz hj => hk j (by
    rintro rfl
    have hx' : w.heap[j]? = some (.cells #[.string V, .bool E] 98 (0, 0)) := hx
    rw [hx'] at hj
    have := Option.some.inj hj
    injection this with _ e2 _
    exact absurd e2 (by decide))
  exact h.elim (fun x => .inl (builtF_keep x hr (hk b (fun e => hne e.symm)))) (fun x => .inr (builtF_keep x hr (hk b (fun e => hne e.symm))))
set_option maxRecDepth 100000 in
set_option maxHeartbeats 4000000 in
theorem dec_bytes (v : Value) (l : List (List UInt8 × Bool)) (hl : l.length ≤ 4000000) (hz : szQ l ≤ 4000000) (w : World) (h : Hid (HasQ w v l)) :
    Calls Tryz.prog 106 #[v] w fun e w' => e = .returned (.string (strL (bytesL l))) ∧ Below w.heap.size w w' := by
  obtain ⟨a, c, rfl⟩ := h.out.form
  obtain ⟨n, hn⟩ : ∃ n, l.length = n := ⟨_, rfl⟩
  rw [hn] at h hl ⊢
  have HN := Lib.hid hn
  have HZ := Lib.hid hz
  have H0 := Lib.hid (show Bk (w.alloc (.cells #[.pointer none, .slice none 0 0] 61)) w.heap.size (bytesL (l.take 0)) ∧ Below w.heap.size w (w.alloc (.cells #[.pointer none, .slice none 0 0] 61)) from ⟨bk_new w, (Below.refl _ w).alloc (Nat.le_refl _) _⟩)
  clear hn hz
  go_enter Tryz.func106, Tryz.ntmps106
  go_wp2_with fail
  go_loopw [8] (fun i wr => ∃ k : Nat, k ≤ n ∧ i = .int .i64 k ∧ Hid (Bk wr w.heap.size (bytesL (l.take k)) ∧ Below w.heap.size w wr)) (fun i _ => n - (intOf i).toNat)
  case atStart => exact ⟨0, Nat.zero_le _, rfl, H0⟩
  case round =>
    obtain ⟨k, hk, rfl, HST⟩ := hrel
    have F1 : IntKind.i64.wrap ((k : Int) + 1) = (k : Int) + 1 := by rw [IntKind.wrap_i64]; omega
    clear H0
    by_cases hlt : k < n
    · have hlt' : (k : Int) < (n : Int) := by omega
      obtain ⟨g, o, rfl, hfa⟩ := h.out.at (by omega)
      obtain ⟨p, hp⟩ : ∃ p, l[k]? = some p := ⟨_, List.getElem?_eq_getElem (by rw [HN.out]; exact hlt)⟩
      obtain ⟨p0, p1⟩ := hfa.step HST.out.2 k p hp
      have hz := szQ_at hp
      have hzz := HZ.out
      have hTl := bytesL_len (l.take k)
      have hpb := partB_len p
      have HSTEP := Lib.hid (bytesL_step hp)
      generalize bytesL (l.take k) = T at HST hTl HSTEP
      have hne : wr.heap.size ≠ w.heap.size := by have := bk_lt HST.out.1; omega
      have hge : w.heap.size ≤ wr.heap.size := HST.out.2.size
      have hbx := ptx_new wr (strL p.1) p.2
      have hst1 : Bk (wr.alloc (.cells #[.string (strL p.1), .bool p.2] 98)) w.heap.size T ∧ Below w.heap.size w (wr.alloc (.cells #[.string (strL p.1), .bool p.2] 98)) := ⟨HST.out.1.alloc _, HST.out.2.alloc HST.out.2.size _⟩
      obtain ⟨W1, hW1⟩ : ∃ W1, wr.alloc (.cells #[.string (strL p.1), .bool p.2] 98) = W1 := ⟨_, rfl⟩
      rw [hW1] at hbx hst1
      have HW1 := Lib.hid hW1
      have HB := Lib.hid hbx
      have HS1 := Lib.hid hst1
      clear hW1
      cases he : p.2 with
      | true =>
        rw [he] at p1 HW1 HB
        have hpv : partB p = pctL p.1 := by unfold partB; rw [if_pos he]
        rw [hpv] at hpb HSTEP
        have cP := fun W => pct_any (strL p.1) (by rw [strL_size]; omega) W
        rw [strL_list] at cP
        have hyz : (strL (pctL p.1)).size ≤ 4000000 := by rw [strL_size]; omega
        have lY : (strL (pctL p.1)).data.toList = pctL p.1 := rfl
        rw [← lY] at HSTEP
        generalize strL (pctL p.1) = Y at cP hyz HSTEP
        have HNX := Lib.hid (fun (W : World) (hb : Below W1.heap.size W1 W) => show Ptx W wr.heap.size (strL p.1) true ∧ Bk (W.setCell ⟨wr.heap.size, 0, none⟩ (.string Y)) w.heap.size T ∧ Below w.heap.size w (W.setCell ⟨wr.heap.size, 0, none⟩ (.string Y)) from
          ⟨HB.out.step hb, (HS1.out.1.below hb).set (HB.out.step hb) hne _, below_at (HS1.out.2.trans (hb.mono HS1.out.2.size)) _ hge _⟩)
        have cW := fun W (h : Hid (Bk W w.heap.size T ∧ Below w.heap.size w W)) => bk_str Y _ _ W h.out.1 (by omega)
        have k1 := HB.out.c1
        generalize strL p.1 = x0 at p0 cP HW1 HB HNX
        clear hfa hp hz hzz hTl hpb hbx hst1 he hpv lY hyz
        go_wp2_with fail
        rw [HW1.out]
        have k0 := HB.out.c0
        go_wp2_with (first
          | (go_at_call 108; (with_reducible refine (cP _).mono ?_); rintro e w2 ⟨rfl, hb2⟩; obtain ⟨hx2, hy2, hz2⟩ := HNX.out w2 hb2; have j0 := hx2.c0; have jf := hx2.fr; have i0 := hx2.set.c0 (V := Y); have HY := Lib.hid (And.intro hy2 hz2); clear hb2 cP hx2 hy2 hz2)
          | (go_at_call 42; (with_reducible refine (cW _ HY).mono ?_); rintro e w3 ⟨rfl, hbk3, hb3, _⟩; have HY3 := Lib.hid (And.intro hbk3 (HY.out.2.trans hb3)); clear hbk3 hb3 cW))
        go_roundw
        case rel => exact ⟨k + 1, by omega, by go_num, by rw [HSTEP.out]; exact HY3⟩
        case measure => simp [intOf]; omega
      | false =>
        rw [he] at p1 HW1 HB
        have hpv : partB p = p.1 := by unfold partB; rw [if_neg (by rw [he]; exact Bool.false_ne_true)]
        rw [hpv] at HSTEP
        have lY : (strL p.1).data.toList = p.1 := rfl
        rw [← lY] at HSTEP
        have cW := fun W (h : Hid (Bk W w.heap.size T ∧ Below w.heap.size w W)) => bk_str (strL p.1) _ _ W h.out.1 (by rw [strL_size]; omega)
        have k1 := HB.out.c1
        generalize strL p.1 = x0 at p0 cW HW1 HB HSTEP
        clear hfa hp hz hzz hTl hpb hbx hst1 he hpv lY
        go_wp2_with fail
        rw [HW1.out]
        have k0 := HB.out.c0
        go_wp2_with (go_at_call 42; (with_reducible refine (cW _ HS1).mono ?_); rintro e w3 ⟨rfl, hbk3, hb3, _⟩; have HY3 := Lib.hid (And.intro hbk3 (HS1.out.2.trans hb3)); clear hbk3 hb3 cW)
        go_roundw
        case rel => exact ⟨k + 1, by omega, by go_num, by rw [HSTEP.out]; exact HY3⟩
        case measure => simp [intOf]; omega
    · obtain rfl : k = n := by omega
      have hlt' : ¬ (k : Int) < (k : Int) := by omega
      have hT : l.take k = l := List.take_of_length_le (by rw [HN.out]; exact Nat.le_refl _)
      rw [hT] at HST
      have cO := fun W (h : Hid (Bk W w.heap.size (bytesL l) ∧ Below w.heap.size w W)) => bk_out _ _ W h.out.1
      obtain ⟨X, hX⟩ : ∃ X, bytesL l = X := ⟨_, rfl⟩
      rw [hX] at HST cO
      have HX := Lib.hid hX
      clear hT hX
      go_wp2_with (go_at_call 44; (with_reducible refine (cO _ HST).mono ?_); rintro e w3 ⟨rfl, hb3⟩)
      go_ret
      rw [HX.out]
      exact ⟨rfl, HST.out.2.trans hb3⟩
/-- The variables that the program reads. -/
structure Vr (w : World) : Prop where
  num : Nu.Vars w
  set : Cs.Vars w
theorem Vr.below {w w' : World} (h : Vr w) (hb : Below w.heap.size w w') : Vr w' := ⟨h.num.below hb, h.set.below hb⟩
def repF (s : List UInt8) : List UInt8 := repairL s
def decF (n s : List UInt8) : List UInt8 := Cs.decL (Cs.kindL n) s
theorem split_len (s : List UInt8) : (splitQ s).1.length ≤ s.length ∧ (splitQ s).2.length ≤ s.length := by
  unfold splitQ
  split
  · have h1 : (upC 39 s).length ≤ s.length := (List.takeWhile_prefix _).length_le
    have h2 : (behind 39 s).length ≤ s.length := by unfold behind; rw [List.length_drop]; omega
    have h3 : (behind 39 (behind 39 s)).length ≤ (behind 39 s).length := by unfold behind; rw [List.length_drop, List.length_drop]; omega
    exact ⟨h1, Nat.le_trans h3 h2⟩
  · exact ⟨Nat.zero_le _, Nat.le_refl _⟩
set_option maxRecDepth 100000 in
set_option maxHeartbeats 2000000 in
theorem prefix_any (s : ByteArray) (hs : s.size ≤ 4000000) (w : World) :
    Calls Tryz.prog 107 #[.string s] w fun e w' => e = .returned (.tuple #[.string (strL (splitQ s.data.toList).1), .string (strL (splitQ s.data.toList).2)]) ∧ Below w.heap.size w w' := by
  have c1 := fun W => cut_all 39 s hs W
  have hz : (strL (behind 39 s.data.toList)).size ≤ 4000000 := by
    rw [strL_size]
    unfold behind
    rw [List.length_drop, ← size_list]
    omega
  have c2 := fun W => cut_all 39 (strL (behind 39 s.data.toList)) hz W
  rw [strL_list] at c2
  by_cases hf : 39 ∈ behind 39 s.data.toList
  · have hin : 39 ∈ s.data.toList := by
      unfold behind at hf
      exact List.mem_of_mem_drop hf
    have hq : splitQ s.data.toList = (upC 39 s.data.toList, behind 39 (behind 39 s.data.toList)) := by unfold splitQ; rw [if_pos ⟨hin, hf⟩]
    rw [List.contains_iff_mem.2 hf] at c2
    rw [hq]
    generalize strL (behind 39 (behind 39 s.data.toList)) = B2 at c2 ⊢
    generalize strL (behind 39 s.data.toList) = B1 at c1 c2 hz
    generalize strL (upC 39 s.data.toList) = A1 at c1 ⊢
    generalize strL (upC 39 (behind 39 s.data.toList)) = A2 at c2
    generalize s.data.toList.contains 39 = b1 at c1
    clear hf hin hq hz hs
    go_enter Tryz.func107, Tryz.ntmps107
    go_wp2_with (first
      | (go_at_call 30; (with_reducible refine (c1 _).mono ?_); rintro e w2 ⟨rfl, hb2⟩; have HB2 := Lib.hid hb2; clear hb2 c1)
      | (go_at_call 30; (with_reducible refine (c2 _).mono ?_); rintro e w3 ⟨rfl, hb3⟩; have HB3 := Lib.hid (HB2.out.trans (hb3.mono HB2.out.size)); clear hb3 c2))
    go_ret2
    exact ⟨rfl, HB3.out⟩
  · have hq : splitQ s.data.toList = ([], s.data.toList) := by unfold splitQ; rw [if_neg (fun h => hf h.2)]
    have hnc : (behind 39 s.data.toList).contains 39 = false := by rw [← Bool.not_eq_true, List.contains_iff_mem]; exact hf
    rw [hnc] at c2
    rw [hq]
    show Calls _ _ _ _ fun e w' => e = .returned (.tuple #[.string ⟨#[]⟩, .string (strL s.data.toList)]) ∧ _
    rw [strL_of]
    generalize strL (behind 39 (behind 39 s.data.toList)) = B2 at c2
    generalize strL (behind 39 s.data.toList) = B1 at c1 c2 hz
    generalize strL (upC 39 s.data.toList) = A1 at c1
    generalize strL (upC 39 (behind 39 s.data.toList)) = A2 at c2
    generalize s.data.toList.contains 39 = b1 at c1
    clear hf hnc hq hz hs
    go_enter Tryz.func107, Tryz.ntmps107
    go_wp2_with (first
      | (go_at_call 30; (with_reducible refine (c1 _).mono ?_); rintro e w2 ⟨rfl, hb2⟩; have HB2 := Lib.hid hb2; clear hb2 c1)
      | (go_at_call 30; (with_reducible refine (c2 _).mono ?_); rintro e w3 ⟨rfl, hb3⟩; have HB3 := Lib.hid (HB2.out.trans (hb3.mono HB2.out.size)); clear hb3 c2))
    go_ret2
    exact ⟨rfl, HB3.out⟩
set_option maxRecDepth 100000 in
set_option maxHeartbeats 8000000 in
theorem joined_any {a : Option Addr} {n c : Nat} {l : List (List UInt8 × Bool)} (hn : 0 < n) (hn2 : n ≤ 4000000) (hz : szQ l ≤ 4000000) (w : World) (h : HasR w (.slice a n c) l) (hv : Vr w) :
    Calls Tryz.prog 71 #[.slice a n c] w fun e w' => e = .returned (.string (strL (joinedL repF decF l))) ∧ Below w.heap.size w w' := by
  obtain ⟨hl, hc, hf⟩ := h.cap
  obtain ⟨p, r, rfl⟩ : ∃ p r, l = p :: r := by
    cases l with
    | nil => simp at hl; omega
    | cons p r => exact ⟨p, r, rfl⟩
  obtain ⟨A1, C1, R1, hR1⟩ := run_restQ h hn
  obtain ⟨g, o, rfl, hfa⟩ := hf.at hn
  obtain ⟨p0, p1⟩ := hfa 0 p rfl
  rw [Nat.zero_mul, Nat.add_zero] at p0 p1
  have hnI : (0 : Int) < (n : Int) := by omega
  have hnJ : (1 : Int) ≤ (n : Int) := by omega
  rw [szQ_cons] at hz
  have hbx := ptx_new w (strL p.1) p.2
  have HB0 := Lib.hid ((Below.refl w.heap.size w).alloc (Nat.le_refl _) (.cells #[.string (strL p.1), .bool p.2] 98))
  obtain ⟨W1, hW1⟩ : ∃ W1, w.alloc (.cells #[.string (strL p.1), .bool p.2] 98) = W1 := ⟨_, rfl⟩
  rw [hW1] at hbx HB0
  have HW1 := Lib.hid hW1
  have HX := Lib.hid hbx
  have HV := Lib.hid hv
  have HH := Lib.hid h
  clear hW1
  rw [List.drop_one, List.tail_cons] at hR1
  have HR1 := Lib.hid hR1
  cases he : p.2 with
  | false =>
    have hj : joinedL repF decF (p :: r) = bytesL (p :: r) := by rw [joinedL_cons, if_neg (by rw [he]; exact Bool.false_ne_true)]
    rw [hj]
    have cD := fun W (hb : Hid (Below w.heap.size w W)) => dec_bytes (.slice (some ⟨g, o, none⟩) n c) (p :: r) (by rw [← hl]; exact hn2) (by rw [szQ_cons]; exact hz) W (Lib.hid (HH.out.step hb.out).has)
    rw [he] at p1 HW1 HX
    have k1 := HX.out.c1
    generalize strL (bytesL (p :: r)) = ANS at cD ⊢
    generalize strL p.1 = x0 at p0 HW1 HX
    clear h hl hf hfa hz hbx hR1 he hj hv R1
    go_enter Tryz.func71, Tryz.ntmps71
    go_wp2_with fail
    rw [HW1.out]
    go_wp2_with (go_at_call 106; (with_reducible refine (cD _ HB0).mono ?_); rintro e w2 ⟨rfl, hb2⟩)
    go_ret
    exact ⟨rfl, HB0.out.trans (hb2.mono HB0.out.size)⟩
  | true =>
    have hj : joinedL repF decF (p :: r) = meantP repF decF (splitQ p.1).1 (pctL (splitQ p.1).2 ++ bytesL r) := by rw [joinedL_cons, if_pos he]
    rw [hj]
    obtain ⟨s1, s2⟩ := split_len p.1
    have s3 := pctL_len (splitQ p.1).2
    have s4 := bytesL_len r
    have cX := fun W => prefix_any (strL p.1) (by rw [strL_size]; omega) W
    rw [strL_list] at cX
    have cP := fun W => pct_any (strL (splitQ p.1).2) (by rw [strL_size]; omega) W
    rw [strL_list] at cP
    have hlr : r.length ≤ 4000000 := by rw [List.length_cons] at hl; omega
    have cD := fun W (hb : Hid (Below w.heap.size w W)) => dec_bytes (.slice A1 (n - 1) C1) r hlr (by omega) W (Lib.hid (HR1.out.step hb.out).has)
    have hq1 := fun Q (hb : Hid (Below w.heap.size w Q)) => (cP Q).mono (fun e w' hh => (⟨hh.1, Lib.hid (hb.out.trans (hh.2.mono hb.out.size))⟩ : e = .returned (.string (strL (pctL (splitQ p.1).2))) ∧ Hid (Below w.heap.size w w')))
    have hq2 := fun Q (hb : Hid (Below w.heap.size w Q)) => (cD Q hb).mono (fun e w' hh => (⟨hh.1, Lib.hid (hb.out.trans (hh.2.mono hb.out.size))⟩ : e = .returned (.string (strL (bytesL r))) ∧ Hid (Below w.heap.size w w')))
    have hcat : strL (pctL (splitQ p.1).2) ++ strL (bytesL r) = strL (pctL (splitQ p.1).2 ++ bytesL r) := strL_append _ _
    have hcz : (strL (pctL (splitQ p.1).2)).size + (strL (bytesL r)).size ≤ 8000000 := by rw [strL_size, strL_size]; omega
    have hxz : (strL (pctL (splitQ p.1).2 ++ bytesL r)).size ≤ 4000000 := by rw [strL_size, List.length_append]; omega
    have cR := fun W => Cs.repair_any (strL (pctL (splitQ p.1).2 ++ bytesL r)) hxz W
    have cE := fun W (hv : Hid (Cs.Vars W)) => Cs.decode_any (strL (splitQ p.1).1) (strL (pctL (splitQ p.1).2 ++ bytesL r)) (by rw [strL_size]; omega) hxz W hv.out
    rw [strL_list] at cR cE
    rw [strL_list] at cE
    obtain ⟨t1, t2⟩ := str_cmp (splitQ p.1).1
    rw [he] at p1 HW1 HX
    have k0 := HX.out.c0
    have k1 := HX.out.c1
    have HK := Lib.hid (fun Q (h : Hid (Below w.heap.size w Q)) => (⟨h, cell_below p0 h.out⟩ : Hid (Below w.heap.size w Q) ∧ Q.cell? ⟨g, o, none⟩ = some (.string (strL p.1))))
    have HVS := Lib.hid (fun Q (h : Hid (Below w.heap.size w Q)) => Lib.hid (HV.out.set.below h.out))
    rw [hcat.symm] at cR cE
    generalize hY1 : strL (pctL (splitQ p.1).2) = Y1 at hq1 hcz hcat cR cE
    generalize hY2 : strL (bytesL r) = Y2 at hq2 hcz hcat cR cE
    clear cP cD
    have hcy : ¬ (9223372036854775807 : Int) < (Y1.size : Int) + (Y2.size : Int) := by omega
    have hcatz : (Y1 ++ Y2).size ≤ 4000000 := by rw [hcat]; exact hxz
    by_cases hs0 : (splitQ p.1).1 = []
    · have hme : meantP repF decF (splitQ p.1).1 (pctL (splitQ p.1).2 ++ bytesL r) = repairL (pctL (splitQ p.1).2 ++ bytesL r) := by unfold meantP repF; rw [if_pos hs0]
      rw [hme]
      rw [show (splitQ p.1).1.isEmpty = true by rw [hs0]; rfl] at t1 t2
      have HA := Lib.hid (show (⟨(repairL (pctL (splitQ p.1).2 ++ bytesL r)).toArray⟩ : ByteArray) = strL (repairL (pctL (splitQ p.1).2 ++ bytesL r)) from rfl)
      generalize (⟨(repairL (pctL (splitQ p.1).2 ++ bytesL r)).toArray⟩ : ByteArray) = ANS at cR HA
      generalize strL (splitQ p.1).1 = S1 at cX t1 t2
      generalize strL (splitQ p.1).2 = S2 at cX hq1
      generalize strL p.1 = x0 at p0 HW1 HX HK cX k0
      rw [← HA.out]
      clear h hl hf hfa hz hbx hR1 he hj hv s1 s2 s3 s4 hlr hcat hxz hY1 hY2 hs0 hme cE HVS
      go_enter Tryz.func71, Tryz.ntmps71
      go_wp2_with fail
      rw [HW1.out]
      go_wp2_with (go_at_call 107; (with_reducible refine (cX _).mono ?_); rintro e w2 ⟨rfl, hb2⟩; have hb := Lib.hid (HB0.out.trans (hb2.mono HB0.out.size)); clear hb2 cX)
      refine wp_region_noPanic ?_
      refine wp_region_held_drew (S := (fun Q => Hid (Below w.heap.size w Q) ∧ Q.cell? ⟨g, o, none⟩ = some (.string x0))) (by kernel_rfl) (HK.out _ (Lib.hid hb.out.drew)) (fun hH0 => ?_)
      refine held_take (i := 0) (.string S2) rfl (by kernel_rfl) (by kernel_rfl) (by kernel_rfl) (by rfl) (fun w hSw => by obtain ⟨_, k9⟩ := hSw; go_simp) (by exact hH0) ?_
      simp only [Act.put, List.setIfInBounds_toArray, List.set_cons_zero, List.set_cons_succ]
      refine held_take (i := 2) (.slice (some ⟨g, o, none⟩) n c) rfl (by kernel_rfl) (by kernel_rfl) (by kernel_rfl) (by rfl) (fun w hSw => by obtain ⟨_, k9⟩ := hSw; go_simp) (by exact hH0) ?_
      simp only [Act.put, List.setIfInBounds_toArray, List.set_cons_zero, List.set_cons_succ]
      refine held_take (i := 3) (.slice A1 (n - 1) C1) rfl (by kernel_rfl) (by kernel_rfl) (by kernel_rfl) (by rfl) (fun w hSw => by obtain ⟨_, k9⟩ := hSw; go_simp) (by exact hH0) ?_
      simp only [Act.put, List.setIfInBounds_toArray, List.set_cons_zero, List.set_cons_succ]
      refine held_step (i := 1) (.string Y1) rfl (by kernel_rfl) (by rfl) (fun K hK => ?_) (fun wH1 hH1 => ?_)
      · go_simp
        refine (hq1 _ hH0.1).mono ?_
        rintro e w2 ⟨rfl, hS2⟩
        exact hK _ (HK.out _ hS2)
      simp only [Act.put, List.setIfInBounds_toArray, List.set_cons_zero, List.set_cons_succ]
      refine held_step (i := 4) (.string Y2) rfl (by kernel_rfl) (by rfl) (fun K hK => ?_) (fun wH2 hH2 => ?_)
      · go_simp
        refine (hq2 _ hH1.1).mono ?_
        rintro e w2 ⟨rfl, hS2⟩
        exact hK _ (HK.out _ hS2)
      simp only [Act.put, List.setIfInBounds_toArray, List.set_cons_zero, List.set_cons_succ]
      refine held_take (i := 5) (.string (Y1 ++ Y2)) rfl (by kernel_rfl) (by kernel_rfl) (by kernel_rfl) (by rfl) (fun w hSw => by obtain ⟨_, k9⟩ := hSw; go_simp; omega) (by exact hH2) ?_
      simp only [Act.put, List.setIfInBounds_toArray, List.set_cons_zero, List.set_cons_succ]
      refine held_take (i := 6) (.string (Y1 ++ Y2)) rfl (by kernel_rfl) (by kernel_rfl) (by kernel_rfl) (by rfl) (fun w hSw => by obtain ⟨_, k9⟩ := hSw; go_simp) (by exact hH2) ?_
      simp only [Act.put, List.setIfInBounds_toArray, List.set_cons_zero, List.set_cons_succ]
      refine wpAnyH_done (by kernel_rfl) ?_ _
      refine NoPanic.normal ?_
      have hs4 := hH2.1
      go_wp2_with (go_at_call 25; (with_reducible refine (cR _).mono ?_); rintro e w5 ⟨rfl, hb5⟩)
      go_ret
      exact ⟨rfl, hs4.out.trans (hb5.mono hs4.out.size)⟩
    · have hme : meantP repF decF (splitQ p.1).1 (pctL (splitQ p.1).2 ++ bytesL r) = Cs.decL (Cs.kindL (splitQ p.1).1) (pctL (splitQ p.1).2 ++ bytesL r) := by unfold meantP decF; rw [if_neg hs0]
      rw [hme]
      rw [show (splitQ p.1).1.isEmpty = false by cases hb : (splitQ p.1).1 with
        | nil => exact absurd hb hs0
        | cons _ _ => rfl] at t1 t2
      have HA := Lib.hid (show (⟨(Cs.decL (Cs.kindL (splitQ p.1).1) (pctL (splitQ p.1).2 ++ bytesL r)).toArray⟩ : ByteArray) = strL (Cs.decL (Cs.kindL (splitQ p.1).1) (pctL (splitQ p.1).2 ++ bytesL r)) from rfl)
      generalize (⟨(Cs.decL (Cs.kindL (splitQ p.1).1) (pctL (splitQ p.1).2 ++ bytesL r)).toArray⟩ : ByteArray) = ANS at cE HA
      generalize decide (Cs.kindL (splitQ p.1).1 ≠ 0) = kb at cE
      generalize strL (splitQ p.1).1 = S1 at cX t1 t2 cE
      generalize strL (splitQ p.1).2 = S2 at cX hq1
      generalize strL p.1 = x0 at p0 HW1 HX HK cX k0
      rw [← HA.out]
      clear h hl hf hfa hz hbx hR1 he hj hv s1 s2 s3 s4 hlr hcat hxz hY1 hY2 hs0 hme cR
      go_enter Tryz.func71, Tryz.ntmps71
      go_wp2_with fail
      rw [HW1.out]
      go_wp2_with (go_at_call 107; (with_reducible refine (cX _).mono ?_); rintro e w2 ⟨rfl, hb2⟩; have hb := Lib.hid (HB0.out.trans (hb2.mono HB0.out.size)); clear hb2 cX)
      refine wp_region_noPanic ?_
      refine wp_region_held_drew (S := (fun Q => Hid (Below w.heap.size w Q) ∧ Q.cell? ⟨g, o, none⟩ = some (.string x0))) (by kernel_rfl) (HK.out _ (Lib.hid hb.out.drew)) (fun hH0 => ?_)
      refine held_take (i := 0) (.string S2) rfl (by kernel_rfl) (by kernel_rfl) (by kernel_rfl) (by rfl) (fun w hSw => by obtain ⟨_, k9⟩ := hSw; go_simp) (by exact hH0) ?_
      simp only [Act.put, List.setIfInBounds_toArray, List.set_cons_zero, List.set_cons_succ]
      refine held_take (i := 2) (.slice (some ⟨g, o, none⟩) n c) rfl (by kernel_rfl) (by kernel_rfl) (by kernel_rfl) (by rfl) (fun w hSw => by obtain ⟨_, k9⟩ := hSw; go_simp) (by exact hH0) ?_
      simp only [Act.put, List.setIfInBounds_toArray, List.set_cons_zero, List.set_cons_succ]
      refine held_take (i := 3) (.slice A1 (n - 1) C1) rfl (by kernel_rfl) (by kernel_rfl) (by kernel_rfl) (by rfl) (fun w hSw => by obtain ⟨_, k9⟩ := hSw; go_simp) (by exact hH0) ?_
      simp only [Act.put, List.setIfInBounds_toArray, List.set_cons_zero, List.set_cons_succ]
      refine held_step (i := 1) (.string Y1) rfl (by kernel_rfl) (by rfl) (fun K hK => ?_) (fun wH1 hH1 => ?_)
      · go_simp
        refine (hq1 _ hH0.1).mono ?_
        rintro e w2 ⟨rfl, hS2⟩
        exact hK _ (HK.out _ hS2)
      simp only [Act.put, List.setIfInBounds_toArray, List.set_cons_zero, List.set_cons_succ]
      refine held_step (i := 4) (.string Y2) rfl (by kernel_rfl) (by rfl) (fun K hK => ?_) (fun wH2 hH2 => ?_)
      · go_simp
        refine (hq2 _ hH1.1).mono ?_
        rintro e w2 ⟨rfl, hS2⟩
        exact hK _ (HK.out _ hS2)
      simp only [Act.put, List.setIfInBounds_toArray, List.set_cons_zero, List.set_cons_succ]
      refine held_take (i := 5) (.string (Y1 ++ Y2)) rfl (by kernel_rfl) (by kernel_rfl) (by kernel_rfl) (by rfl) (fun w hSw => by obtain ⟨_, k9⟩ := hSw; go_simp; omega) (by exact hH2) ?_
      simp only [Act.put, List.setIfInBounds_toArray, List.set_cons_zero, List.set_cons_succ]
      refine held_take (i := 6) (.string (Y1 ++ Y2)) rfl (by kernel_rfl) (by kernel_rfl) (by kernel_rfl) (by rfl) (fun w hSw => by obtain ⟨_, k9⟩ := hSw; go_simp) (by exact hH2) ?_
      simp only [Act.put, List.setIfInBounds_toArray, List.set_cons_zero, List.set_cons_succ]
      refine wpAnyH_done (by kernel_rfl) ?_ _
      refine NoPanic.normal ?_
      have hs4 := hH2.1
      go_wp2_with (go_at_call 109; (with_reducible refine (cE _ (HVS.out _ (by first | exact hs4 | exact Lib.hid hs4.out.drew))).mono ?_); rintro e w5 ⟨rfl, hb5⟩)
      go_ret
      exact ⟨rfl, hs4.out.trans (hb5.mono hs4.out.size)⟩
end Go.Proofs.YtdinachiiimngaaGreatDoor
