/- charset.Known and charset.Decode. -/
import Derived.Test.YtbmnoneeialfpaaDoorSets
namespace Go.Proofs.YtbmnoneeialfpaaDoor
open Go.ChangeShapes Go.WideShapes Go.ChangeAt Go.RowKit

/-- The number of a character set (1 to 4) by its name as the map has it; 0: unknown. -/
def kindK (k : ByteArray) : Nat :=
  if k = key0 then 1 else if k = key1 then 1 else if k = key2 then 2 else if k = key3 then 2 else if k = key4 then 3 else if k = key5 then 3 else if k = key6 then 4 else if k = key7 then 4 else 0
def kindL (l : List UInt8) : Nat := kindK ⟨(l.map lowB).toArray⟩
theorem kindK_le (k : ByteArray) : kindK k = 0 ∨ kindK k = 1 ∨ kindK k = 2 ∨ kindK k = 3 ∨ kindK k = 4 := by
  unfold kindK
  (repeat' split) <;> simp
theorem low_key (l : List UInt8) (key : ByteArray) (hk : ∀ b ∈ key.data.toList, b.toNat < 128) : (⟨(Lib.mapD lowZ l).toArray⟩ : ByteArray) = key ↔ (⟨(l.map lowB).toArray⟩ : ByteArray) = key := by
  have h := low_same l key.data.toList hk
  constructor
  · intro e
    have e1 := congrArg (fun b : ByteArray => b.data.toList) e
    simp only at e1
    have := h.1 e1
    rw [this]
  · intro e
    have e1 := congrArg (fun b : ByteArray => b.data.toList) e
    simp only at e1
    have := h.2 e1
    rw [this]
theorem kind_low (l : List UInt8) : kindK ⟨(Lib.mapD lowZ l).toArray⟩ = kindL l := by
  unfold kindL kindK
  simp only [low_key l key0 (by decide), low_key l key1 (by decide), low_key l key2 (by decide), low_key l key3 (by decide), low_key l key4 (by decide), low_key l key5 (by decide), low_key l key6 (by decide), low_key l key7 (by decide)]
def fnK (B : Nat) (k : Nat) : Value := if k = 1 then decV B else if k = 2 then repV else if k = 3 then decV (B + 1) else if k = 4 then decV (B + 2) else .nilFunc
theorem bytes_eqb (a b : ByteArray) : (a == b) = decide (a = b) := by
  rw [Bool.eq_iff_iff, MapKept.bytes_beq, decide_eq_true_eq]
theorem find_set (B : Nat) (k : ByteArray) : ∃ r, Instr.findNow .string (.string k) (setE B).toList 0 = some r ∧ ((kindK k = 0 ∧ r = none) ∨ (kindK k ≠ 0 ∧ ∃ i, r = some (i, fnK B (kindK k)))) := by
  unfold kindK
  have hb : ∀ a b : ByteArray, (a == b) = decide (a = b) := bytes_eqb
  by_cases h0 : k = key0
  · refine ⟨some (0, fnK B 1), ?_, .inr ⟨?_, 0, ?_⟩⟩
    · simp only [setE, Instr.findNow, Instr.sameNow, hb, eq_true h0, decide_true]
      rfl
    · simp only [eq_true h0, if_true]; decide
    · simp only [eq_true h0, if_true]
  · by_cases h1 : k = key1
    · refine ⟨some (1, fnK B 1), ?_, .inr ⟨?_, 1, ?_⟩⟩
      · simp only [setE, Instr.findNow, Instr.sameNow, hb, eq_false h0, eq_true h1, decide_true, decide_false]
        rfl
      · simp only [eq_false h0, eq_true h1, if_true, if_false]; decide
      · simp only [eq_false h0, eq_true h1, if_true, if_false]
    · by_cases h2 : k = key2
      · refine ⟨some (2, fnK B 2), ?_, .inr ⟨?_, 2, ?_⟩⟩
        · simp only [setE, Instr.findNow, Instr.sameNow, hb, eq_false h0, eq_false h1, eq_true h2, decide_true, decide_false]
          rfl
        · simp only [eq_false h0, eq_false h1, eq_true h2, if_true, if_false]; decide
        · simp only [eq_false h0, eq_false h1, eq_true h2, if_true, if_false]
      · by_cases h3 : k = key3
        · refine ⟨some (3, fnK B 2), ?_, .inr ⟨?_, 3, ?_⟩⟩
          · simp only [setE, Instr.findNow, Instr.sameNow, hb, eq_false h0, eq_false h1, eq_false h2, eq_true h3, decide_true, decide_false]
            rfl
          · simp only [eq_false h0, eq_false h1, eq_false h2, eq_true h3, if_true, if_false]; decide
          · simp only [eq_false h0, eq_false h1, eq_false h2, eq_true h3, if_true, if_false]
        · by_cases h4 : k = key4
          · refine ⟨some (4, fnK B 3), ?_, .inr ⟨?_, 4, ?_⟩⟩
            · simp only [setE, Instr.findNow, Instr.sameNow, hb, eq_false h0, eq_false h1, eq_false h2, eq_false h3, eq_true h4, decide_true, decide_false]
              rfl
            · simp only [eq_false h0, eq_false h1, eq_false h2, eq_false h3, eq_true h4, if_true, if_false]; decide
            · simp only [eq_false h0, eq_false h1, eq_false h2, eq_false h3, eq_true h4, if_true, if_false]
          · by_cases h5 : k = key5
            · refine ⟨some (5, fnK B 3), ?_, .inr ⟨?_, 5, ?_⟩⟩
              · simp only [setE, Instr.findNow, Instr.sameNow, hb, eq_false h0, eq_false h1, eq_false h2, eq_false h3, eq_false h4, eq_true h5, decide_true, decide_false]
                rfl
              · simp only [eq_false h0, eq_false h1, eq_false h2, eq_false h3, eq_false h4, eq_true h5, if_true, if_false]; decide
              · simp only [eq_false h0, eq_false h1, eq_false h2, eq_false h3, eq_false h4, eq_true h5, if_true, if_false]
            · by_cases h6 : k = key6
              · refine ⟨some (6, fnK B 4), ?_, .inr ⟨?_, 6, ?_⟩⟩
                · simp only [setE, Instr.findNow, Instr.sameNow, hb, eq_false h0, eq_false h1, eq_false h2, eq_false h3, eq_false h4, eq_false h5, eq_true h6, decide_true, decide_false]
                  rfl
                · simp only [eq_false h0, eq_false h1, eq_false h2, eq_false h3, eq_false h4, eq_false h5, eq_true h6, if_true, if_false]; decide
                · simp only [eq_false h0, eq_false h1, eq_false h2, eq_false h3, eq_false h4, eq_false h5, eq_true h6, if_true, if_false]
              · by_cases h7 : k = key7
                · refine ⟨some (7, fnK B 4), ?_, .inr ⟨?_, 7, ?_⟩⟩
                  · simp only [setE, Instr.findNow, Instr.sameNow, hb, eq_false h0, eq_false h1, eq_false h2, eq_false h3, eq_false h4, eq_false h5, eq_false h6, eq_true h7, decide_true, decide_false]
                    rfl
                  · simp only [eq_false h0, eq_false h1, eq_false h2, eq_false h3, eq_false h4, eq_false h5, eq_false h6, eq_true h7, if_true, if_false]; decide
                  · simp only [eq_false h0, eq_false h1, eq_false h2, eq_false h3, eq_false h4, eq_false h5, eq_false h6, eq_true h7, if_true, if_false]
                · refine ⟨none, ?_, .inl ⟨?_, rfl⟩⟩
                  · simp only [setE, Instr.findNow, Instr.sameNow, hb, eq_false h0, eq_false h1, eq_false h2, eq_false h3, eq_false h4, eq_false h5, eq_false h6, eq_false h7, decide_false]
                  · simp only [eq_false h0, eq_false h1, eq_false h2, eq_false h3, eq_false h4, eq_false h5, eq_false h6, eq_false h7, if_false]
theorem lookup_set {B : Nat} {w : World} (h : SetsAt B w) (k : ByteArray) (ok : Bool) :
    (Instr.lookup 32 (.map (some (B + 3))) (.string k) ok).run Tryd.prog w = .ok (if ok then .tuple #[fnK B (kindK k), .bool (decide (kindK k ≠ 0))] else fnK B (kindK k)) w := by
  have hc : (Instr.checkKey (setE B).isEmpty 10000 9 (.string k)).run Tryd.prog w = .ok () w := MapKept.run_checkKey (k := .string k) Tryd.underlying9 (by simp [MapKept.IsKey]) _ 9999
  obtain ⟨r, hr, hk⟩ := find_set B k
  have hz := Tryd.zeroValue29 w
  rcases hk with ⟨h0, rfl⟩ | ⟨h0, i, rfl⟩
  · simp [Instr.lookup, run_underlying Tryd.underlying32, MapKept.run_getObj_map h.m, hc, MapKept.run_findKey Tryd.underlying9 hr, Result.andThen, hz, h0, fnK]
  · simp [Instr.lookup, run_underlying Tryd.underlying32, MapKept.run_getObj_map h.m, hc, MapKept.run_findKey Tryd.underlying9 hr, Result.andThen, h0]

set_option maxHeartbeats 1000000 in
theorem known_any (n : ByteArray) (hn : n.size ≤ 1000000) (w : World) (hv : Vars w) :
    Calls Tryd.prog 20 #[.string n] w fun e w' => e = .returned (.bool (decide (kindL n.data.toList ≠ 0))) ∧ Below w.heap.size w w' := by
  have hk := kind_low n.data.toList
  obtain ⟨D, hD⟩ : ∃ D, decide (kindL n.data.toList ≠ 0) = D := ⟨_, rfl⟩
  rw [hD]
  go_enter Tryd.func20, Tryd.ntmps20
  go_wp2_with (go_at_call 22; refine (decoders_any w).mono ?_; rintro e w1 ⟨rfl, hs, hb⟩)
  refine (lower_any n hn w1 (hv.below hb)).mono ?_
  rintro e w2 ⟨rfl, hb2⟩
  have hs2 := hs.below hb2
  have hb3 := hb.trans (hb2.mono hb.size)
  have hl := lookup_set hs2 ⟨(Lib.mapD lowZ n.data.toList).toArray⟩ true
  rw [hk] at hl
  simp only [if_true] at hl
  rw [hD] at hl
  go_wp2_with fail
  go_ret
  exact ⟨rfl, hb3⟩

/-- What a string becomes, by the number of its character set. -/
def decL (k : Nat) (l : List UInt8) : List UInt8 := if k = 1 then byteL asciiP l else if k = 2 then repairL l else if k = 3 then byteL id l else byteL winP l

set_option maxHeartbeats 2000000 in
theorem decode_any (n s : ByteArray) (hn : n.size ≤ 1000000) (hs : s.size ≤ 1000000) (w : World) (hv : Vars w) :
    Calls Tryd.prog 10 #[.string n, .string s] w fun e w' => e = .returned (.tuple #[.string ⟨(decL (kindL n.data.toList) s.data.toList).toArray⟩, .bool (decide (kindL n.data.toList ≠ 0))]) ∧ Below w.heap.size w w' := by
  have hk := kind_low n.data.toList
  have hk5 := kindK_le ⟨(n.data.toList.map lowB).toArray⟩
  rw [show kindK ⟨(n.data.toList.map lowB).toArray⟩ = kindL n.data.toList from rfl] at hk5
  generalize kindL n.data.toList = kd at hk hk5 ⊢
  have HK := Lib.hid hk
  clear hk
  go_enter Tryd.func10, Tryd.ntmps10
  go_wp2_with (go_at_call 22; refine (decoders_any w).mono ?_; rintro e w1 ⟨rfl, hs1, hb1⟩)
  refine (lower_any n hn w1 (hv.below hb1)).mono ?_
  rintro e w2 ⟨rfl, hb2⟩
  have hs2 := hs1.below hb2
  have hb3 := hb1.trans (hb2.mono hb1.size)
  have hv2 := hv.below hb3
  have hl := lookup_set hs2 ⟨(Lib.mapD lowZ n.data.toList).toArray⟩ true
  rw [HK.out] at hl
  simp only [if_true] at hl
  have hlw := lookup_set hs2 key6 false
  have hlt := hs2.lt
  rcases hk5 with rfl | rfl | rfl | rfl | rfl
  · rw [show fnK w.heap.size 0 = .nilFunc from rfl, show decide ((0 : Nat) ≠ 0) = false from rfl] at hl
    rw [show kindK key6 = 4 from by decide, show fnK w.heap.size 4 = decV (w.heap.size + 2) from rfl] at hlw
    simp only [Bool.false_eq_true, if_false] at hlw
    unfold decV key6 at hlw
    go_wp2_with (go_at_call 44; refine (conv_win s hs _ w2 (by omega) hs2.c2 hv2).mono ?_; rintro e w3 ⟨rfl, hb4⟩)
    go_ret2
    exact ⟨rfl, hb3.trans (hb4.mono hb3.size)⟩
  · rw [show fnK w.heap.size 1 = decV w.heap.size from rfl, show decide ((1 : Nat) ≠ 0) = true from rfl] at hl
    unfold decV at hl
    go_wp2_with (go_at_call 44; refine (conv_ascii s hs _ w2 (by omega) hs2.c0).mono ?_; rintro e w3 ⟨rfl, hb4⟩)
    go_ret2
    exact ⟨rfl, hb3.trans (hb4.mono hb3.size)⟩
  · rw [show fnK w.heap.size 2 = repV from rfl, show decide ((2 : Nat) ≠ 0) = true from rfl] at hl
    unfold repV at hl
    go_wp2_with (go_at_call 18; refine (repair_any s hs w2).mono ?_; rintro e w3 ⟨rfl, hb4⟩)
    go_ret2
    exact ⟨rfl, hb3.trans (hb4.mono hb3.size)⟩
  · rw [show fnK w.heap.size 3 = decV (w.heap.size + 1) from rfl, show decide ((3 : Nat) ≠ 0) = true from rfl] at hl
    unfold decV at hl
    go_wp2_with (go_at_call 44; refine (conv_latin s hs _ w2 (by omega) hs2.c1).mono ?_; rintro e w3 ⟨rfl, hb4⟩)
    go_ret2
    exact ⟨rfl, hb3.trans (hb4.mono hb3.size)⟩
  · rw [show fnK w.heap.size 4 = decV (w.heap.size + 2) from rfl, show decide ((4 : Nat) ≠ 0) = true from rfl] at hl
    unfold decV at hl
    go_wp2_with (go_at_call 44; refine (conv_win s hs _ w2 (by omega) hs2.c2 hv2).mono ?_; rintro e w3 ⟨rfl, hb4⟩)
    go_ret2
    exact ⟨rfl, hb3.trans (hb4.mono hb3.size)⟩
end Go.Proofs.YtbmnoneeialfpaaDoor
