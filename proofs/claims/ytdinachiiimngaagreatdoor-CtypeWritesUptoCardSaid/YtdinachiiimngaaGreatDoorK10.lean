/- charset.Known and charset.Decode. How many bytes the parts of a name hold: no more than the rows; of no program. -/
import Derived.Test.YtdinachiiimngaaGreatDoorKCsSets
import Derived.Test.YtdinachiiimngaaGreatDoorK3
namespace Go.Proofs.YtdinachiiimngaaGreatDoor.Cs
open Go.ChangeShapes Go.WideShapes Go.ChangeAt Go.RowKit

/-- The number of a character set (1 to 4) by its name as the map has it; 0: unknown. -/
def kindK (k : ByteArray) : Nat :=
  if k = key0 then 1 else if k = key1 then 1 else if k = key2 then 2 else if k = key3 then 2 else if k = key4 then 3 else if k = key5 then 3 else if k = key6 then 4 else if k = key7 then 4 else 0
def kindL (l : List UInt8) : Nat := kindK ⟨(l.map lowB).toArray⟩
theorem kindK_le (k : ByteArray) : kindK k = 0 ∨ kindK k = 1 ∨ kindK k = 2 ∨ kindK k = 3 ∨ kindK k = 4 := by
  unfold kindK
  (repeat' split) <;> simp
theorem low_key (l : List UInt8) (key : ByteArray) (hk : ∀ b ∈ key.data.toList, b.toNat < 128) : (⟨(Lib.mapD lowZ l).toArray⟩ : ByteArray) = key ↔ (⟨(l.map lowB).toArray⟩ : ByteArray) = key := by
  have h := low_same l key.data.toList hk
  constructor
  · intro e
    have e1 := congrArg (fun b : ByteArray => b.data.toList) e
    simp only at e1
    have := h.1 e1
    rw [this]
  · intro e
    have e1 := congrArg (fun b : ByteArray => b.data.toList) e
    simp only at e1
    have := h.2 e1
    rw [this]
theorem kind_low (l : List UInt8) : kindK ⟨(Lib.mapD lowZ l).toArray⟩ = kindL l := by
  unfold kindL kindK
  simp only [low_key l key0 (by decide), low_key l key1 (by decide), low_key l key2 (by decide), low_key l key3 (by decide), low_key l key4 (by decide), low_key l key5 (by decide), low_key l key6 (by decide), low_key l key7 (by decide)]
def fnK (B : Nat) (k : Nat) : Value := if k = 1 then decV B else if k = 2 then repV else if k = 3 then decV (B + 1) else if k = 4 then decV (B + 2) else .nilFunc
theorem bytes_eqb (a b : ByteArray) : (a == b) = decide (a = b) := by
  rw [Bool.eq_iff_iff, MapKept.bytes_beq, decide_eq_true_eq]
theorem find_set (B : Nat) (k : ByteArray) : ∃ r, Instr.findNow .string (.string k) (setE B).toList 0 = some r ∧ ((kindK k = 0 ∧ r = none) ∨ (kindK k ≠ 0 ∧ ∃ i, r = some (i, fnK B (kindK k)))) := by
  unfold kindK
  have hb : ∀ a b : ByteArray, (a == b) = decide (a = b) := bytes_eqb
  by_cases h0 : k = key0
  · refine ⟨some (0, fnK B 1), ?_, .inr ⟨?_, 0, ?_⟩⟩
    · simp only [setE, Instr.findNow, Instr.sameNow, hb, eq_true h0, decide_true]
      rfl
    · simp only [eq_true h0, if_true]; decide
    · simp only [eq_true h0, if_true]
  · by_cases h1 : k = key1
    · refine ⟨some (1, fnK B 1), ?_, .inr ⟨?_, 1, ?_⟩⟩
      · simp only [setE, Instr.findNow, Instr.sameNow, hb, eq_false h0, eq_true h1, decide_true, decide_false]
        rfl
      · simp only [eq_false h0, eq_true h1, if_true, if_false]; decide
      · simp only [eq_false h0, eq_true h1, if_true, if_false]
    · by_cases h2 : k = key2
      · refine ⟨some (2, fnK B 2), ?_, .inr ⟨?_, 2, ?_⟩⟩
        · simp only [setE, Instr.findNow, Instr.sameNow, hb, eq_false h0, eq_false h1, eq_true h2, decide_true, decide_false]
          rfl
        · simp only [eq_false h0, eq_false h1, eq_true h2, if_true, if_false]; decide
        · simp only [eq_false h0, eq_false h1, eq_true h2, if_true, if_false]
      · by_cases h3 : k = key3
        · refine ⟨some (3, fnK B 2), ?_, .inr ⟨?_, 3, ?_⟩⟩
          · simp only [setE, Instr.findNow, Instr.sameNow, hb, eq_false h0, eq_false h1, eq_false h2, eq_true h3, decide_true, decide_false]
            rfl
          · simp only [eq_false h0, eq_false h1, eq_false h2, eq_true h3, if_true, if_false]; decide
          · simp only [eq_false h0, eq_false h1, eq_false h2, eq_true h3, if_true, if_false]
        · by_cases h4 : k = key4
          · refine ⟨some (4, fnK B 3), ?_, .inr ⟨?_, 4, ?_⟩⟩
            · simp only [setE, Instr.findNow, Instr.sameNow, hb, eq_false h0, eq_false h1, eq_false h2, eq_false h3, eq_true h4, decide_true, decide_false]
              rfl
            · simp only [eq_false h0, eq_false h1, eq_false h2, eq_false h3, eq_true h4, if_true, if_false]; decide
            · simp only [eq_false h0, eq_false h1, eq_false h2, eq_false h3, eq_true h4, if_true, if_false]
          · by_cases h5 : k = key5
            · refine ⟨some (5, fnK B 3), ?_, .inr ⟨?_, 5, ?_⟩⟩
              · simp only [setE, Instr.findNow, Instr.sameNow, hb, eq_false h0, eq_false h1, eq_false h2, eq_false h3, eq_false h4, eq_true h5, decide_true, decide_false]
                rfl
              · simp only [eq_false h0, eq_false h1, eq_false h2, eq_false h3, eq_false h4, eq_true h5, if_true, if_false]; decide
              · simp only [eq_false h0, eq_false h1, eq_false h2, eq_false h3, eq_false h4, eq_true h5, if_true, if_false]
            · by_cases h6 : k = key6
              · refine ⟨some (6, fnK B 4), ?_, .inr ⟨?_, 6, ?_⟩⟩
                · simp only [setE, Instr.findNow, Instr.sameNow, hb, eq_false h0, eq_false h1, eq_false h2, eq_false h3, eq_false h4, eq_false h5, eq_true h6, decide_true, decide_false]
                  rfl
                · simp only [eq_false h0, eq_false h1, eq_false h2, eq_false h3, eq_false h4, eq_false h5, eq_true h6, if_true, if_false]; decide
                · simp only [eq_false h0, eq_false h1, eq_false h2, eq_false h3, eq_false h4, eq_false h5, eq_true h6, if_true, if_false]
              · by_cases h7 : k = key7
                · refine ⟨some (7, fnK B 4), ?_, .inr ⟨?_, 7, ?_⟩⟩
                  · simp only [setE, Instr.findNow, Instr.sameNow, hb, eq_false h0, eq_false h1, eq_false h2, eq_false h3, eq_false h4, eq_false h5, eq_false h6, eq_true h7, decide_true, decide_false]
                    rfl
                  · simp only [eq_false h0, eq_false h1, eq_false h2, eq_false h3, eq_false h4, eq_false h5, eq_false h6, eq_true h7, if_true, if_false]; decide
                  · simp only [eq_false h0, eq_false h1, eq_false h2, eq_false h3, eq_false h4, eq_false h5, eq_false h6, eq_true h7, if_true, if_false]
                · refine ⟨none, ?_, .inl ⟨?_, rfl⟩⟩
                  · simp only [setE, Instr.findNow, Instr.sameNow, hb, eq_false h0, eq_false h1, eq_false h2, eq_false h3, eq_false h4, eq_false h5, eq_false h6, eq_false h7, decide_false]
                  · simp only [eq_false h0, eq_false h1, eq_false h2, eq_false h3, eq_false h4, eq_false h5, eq_false h6, eq_false h7, if_false]
theorem lookup_set {B : Nat} {w : World} (h : SetsAt B w) (k : ByteArray) (ok : Bool) :
    (Instr.lookup 149 (.map (some (B + 3))) (.string k) ok).run Tryz.prog w = .ok (if ok then .tuple #[fnK B (kindK k), .bool (decide (kindK k ≠ 0))] else fnK B (kindK k)) w := by
  have hc : (Instr.checkKey (setE B).isEmpty 10000 9 (.string k)).run Tryz.prog w = .ok () w := MapKept.run_checkKey (k := .string k) Tryz.underlying9 (by simp [MapKept.IsKey]) _ 9999
  obtain ⟨r, hr, hk⟩ := find_set B k
  have hz := Tryz.zeroValue43 w
  rcases hk with ⟨h0, rfl⟩ | ⟨h0, i, rfl⟩
  · simp [Instr.lookup, run_underlying Tryz.underlying149, MapKept.run_getObj_map h.m, hc, MapKept.run_findKey Tryz.underlying9 hr, Result.andThen, hz, h0, fnK]
  · simp [Instr.lookup, run_underlying Tryz.underlying149, MapKept.run_getObj_map h.m, hc, MapKept.run_findKey Tryz.underlying9 hr, Result.andThen, h0]

/-- What a string becomes, by the number of its character set. -/
def decL (k : Nat) (l : List UInt8) : List UInt8 := if k = 1 then byteL asciiP l else if k = 2 then repairL l else if k = 3 then byteL id l else byteL winP l

set_option maxHeartbeats 2000000 in
theorem decode_any (n s : ByteArray) (hn : n.size ≤ 4000000) (hs : s.size ≤ 4000000) (w : World) (hv : Vars w) :
    Calls Tryz.prog 109 #[.string n, .string s] w fun e w' => e = .returned (.tuple #[.string ⟨(decL (kindL n.data.toList) s.data.toList).toArray⟩, .bool (decide (kindL n.data.toList ≠ 0))]) ∧ Below w.heap.size w w' := by
  have hk := kind_low n.data.toList
  have hk5 := kindK_le ⟨(n.data.toList.map lowB).toArray⟩
  rw [show kindK ⟨(n.data.toList.map lowB).toArray⟩ = kindL n.data.toList from rfl] at hk5
  generalize kindL n.data.toList = kd at hk hk5 ⊢
  have HK := Lib.hid hk
  clear hk
  go_enter Tryz.func109, Tryz.ntmps109
  go_wp2_with (go_at_call 152; refine (decoders_any w).mono ?_; rintro e w1 ⟨rfl, hs1, hb1⟩)
  refine (lower_any n hn w1 (hv.below hb1)).mono ?_
  rintro e w2 ⟨rfl, hb2⟩
  have hs2 := hs1.below hb2
  have hb3 := hb1.trans (hb2.mono hb1.size)
  have hv2 := hv.below hb3
  have hl := lookup_set hs2 ⟨(Lib.mapD lowZ n.data.toList).toArray⟩ true
  rw [HK.out] at hl
  simp only [if_true] at hl
  have hlw := lookup_set hs2 key6 false
  have hlt := hs2.lt
  rcases hk5 with rfl | rfl | rfl | rfl | rfl
  · rw [show fnK w.heap.size 0 = .nilFunc from rfl, show decide ((0 : Nat) ≠ 0) = false from rfl] at hl
    rw [show kindK key6 = 4 from by decide, show fnK w.heap.size 4 = decV (w.heap.size + 2) from rfl] at hlw
    simp only [Bool.false_eq_true, if_false] at hlw
    unfold decV key6 at hlw
    go_wp2_with (go_at_call 211; refine (conv_win s hs _ w2 (by omega) hs2.c2 hv2).mono ?_; rintro e w3 ⟨rfl, hb4⟩)
    go_ret2
    exact ⟨rfl, hb3.trans (hb4.mono hb3.size)⟩
  · rw [show fnK w.heap.size 1 = decV w.heap.size from rfl, show decide ((1 : Nat) ≠ 0) = true from rfl] at hl
    unfold decV at hl
    go_wp2_with (go_at_call 211; refine (conv_ascii s hs _ w2 (by omega) hs2.c0).mono ?_; rintro e w3 ⟨rfl, hb4⟩)
    go_ret2
    exact ⟨rfl, hb3.trans (hb4.mono hb3.size)⟩
  · rw [show fnK w.heap.size 2 = repV from rfl, show decide ((2 : Nat) ≠ 0) = true from rfl] at hl
    unfold repV at hl
    go_wp2_with (go_at_call 25; refine (repair_any s hs w2).mono ?_; rintro e w3 ⟨rfl, hb4⟩)
    go_ret2
    exact ⟨rfl, hb3.trans (hb4.mono hb3.size)⟩
  · rw [show fnK w.heap.size 3 = decV (w.heap.size + 1) from rfl, show decide ((3 : Nat) ≠ 0) = true from rfl] at hl
    unfold decV at hl
    go_wp2_with (go_at_call 211; refine (conv_latin s hs _ w2 (by omega) hs2.c1).mono ?_; rintro e w3 ⟨rfl, hb4⟩)
    go_ret2
    exact ⟨rfl, hb3.trans (hb4.mono hb3.size)⟩
  · rw [show fnK w.heap.size 4 = decV (w.heap.size + 2) from rfl, show decide ((4 : Nat) ≠ 0) = true from rfl] at hl
    unfold decV at hl
    go_wp2_with (go_at_call 211; refine (conv_win s hs _ w2 (by omega) hs2.c2 hv2).mono ?_; rintro e w3 ⟨rfl, hb4⟩)
    go_ret2
    exact ⟨rfl, hb3.trans (hb4.mono hb3.size)⟩
end Go.Proofs.YtdinachiiimngaaGreatDoor.Cs
namespace Go.Proofs.YtdinachiiimngaaGreatDoor.CtP
open TokP AdrP

def szP (l : List (List UInt8 × Bool)) : Nat := (l.map (fun p => p.1.length)).sum
def lenO : Option (List UInt8 × Bool) → Nat
  | some p => p.1.length
  | none => 0
def sumZ (G : Int → Option (List UInt8 × Bool)) (Z : List Int) : Nat := (Z.map (fun z => lenO (G z))).sum
theorem sumZ_cons (G : Int → Option (List UInt8 × Bool)) (z : Int) (Z : List Int) : sumZ G (z :: Z) = lenO (G z) + sumZ G Z := by unfold sumZ; rw [List.map_cons, List.sum_cons]
def szE (E : List Ent) : Nat := (E.map (fun e => e.2.1.length)).sum
theorem szE_cons (e : Ent) (E : List Ent) : szE (e :: E) = e.2.1.length + szE E := by unfold szE; rw [List.map_cons, List.sum_cons]
theorem getE_cons (e : Ent) (E : List Ent) (n : List UInt8) (z : Int) : getE (e :: E) n z = if (e.1.1 == n && e.1.2 == z) = true then some e.2 else getE E n z := by
  unfold getE
  rw [List.find?_cons]
  cases (e.1.1 == n && e.1.2 == z) <;> rfl
theorem sum_none (n : List UInt8) : ∀ Z : List Int, sumZ (getE [] n) Z = 0
  | [] => rfl
  | z :: Z => by rw [sumZ_cons, sum_none n Z]; rfl
theorem sum_off (e : Ent) (E : List Ent) (n : List UInt8) : ∀ Z : List Int, e.1.2 ∉ Z → sumZ (getE (e :: E) n) Z = sumZ (getE E n) Z
  | [], _ => rfl
  | z :: Z, h => by
    rw [sumZ_cons, sumZ_cons, sum_off e E n Z (fun hc => h (by simp [hc])), getE_cons, if_neg (fun hc => ?_)]
    rw [Bool.and_eq_true, beq_iff_eq, beq_iff_eq] at hc
    exact h (by simp [hc.2])
theorem sum_one (e : Ent) (E : List Ent) (n : List UInt8) : ∀ Z : List Int, Z.Nodup → sumZ (getE (e :: E) n) Z ≤ e.2.1.length + sumZ (getE E n) Z
  | [], _ => Nat.zero_le _
  | z :: Z, h => by
    rw [List.nodup_cons] at h
    rw [sumZ_cons, sumZ_cons, getE_cons]
    by_cases hc : (e.1.1 == n && e.1.2 == z) = true
    · rw [if_pos hc]
      rw [Bool.and_eq_true, beq_iff_eq, beq_iff_eq] at hc
      rw [sum_off e E n Z (by rw [hc.2]; exact h.1)]
      show e.2.1.length + _ ≤ _
      omega
    · rw [if_neg hc]
      have := sum_one e E n Z h.2
      omega
theorem sum_ents (n : List UInt8) (Z : List Int) (hZ : Z.Nodup) : ∀ E : List Ent, sumZ (getE E n) Z ≤ szE E
  | [] => by rw [sum_none]; exact Nat.zero_le _
  | e :: E => by
    have h1 := sum_one e E n Z hZ
    have h2 := sum_ents n Z hZ E
    rw [szE_cons]
    omega
def upZ : Nat → Nat → List Int
  | 0, _ => []
  | f + 1, k => (k : Int) :: upZ f (k + 1)
theorem upZ_ge : ∀ (f k : Nat) (z : Int), z ∈ upZ f k → (k : Int) ≤ z
  | 0, _, _, h => absurd h (by simp [upZ])
  | f + 1, k, z, h => by
    rw [upZ, List.mem_cons] at h
    rcases h with rfl | h
    · exact Int.le_refl _
    · have := upZ_ge f (k + 1) z h
      omega
theorem upZ_nodup : ∀ f k : Nat, (upZ f k).Nodup
  | 0, _ => List.nodup_nil
  | f + 1, k => by
    rw [upZ, List.nodup_cons]
    exact ⟨fun h => by have := upZ_ge f (k + 1) _ h; omega, upZ_nodup f (k + 1)⟩
theorem secs_sum (G : Int → Option (List UInt8 × Bool)) : ∀ f k : Nat, szP (secsF G f k) ≤ sumZ G (upZ f k)
  | 0, _ => Nat.zero_le _
  | f + 1, k => by
    rw [secsF, upZ, sumZ_cons]
    cases G k with
    | none => exact Nat.zero_le _
    | some p =>
      have := secs_sum G f (k + 1)
      show szP (p :: secsF G f (k + 1)) ≤ _
      unfold szP at this ⊢
      rw [List.map_cons, List.sum_cons]
      show p.1.length + _ ≤ p.1.length + _
      omega
theorem or_sum (l : List (List UInt8 × Bool)) (o : Option (List UInt8 × Bool)) : szP (orL l o) ≤ szP l + lenO o := by
  unfold orL
  split
  · cases o with
    | none => exact Nat.zero_le _
    | some p => unfold szP; simp [lenO]
  · omega
theorem parts_sum (E : List Ent) (n : List UInt8) : szP (partsL (getE E n)) ≤ szE E := by
  have h1 := secs_sum (getE E n) 64 0
  have h2 := or_sum (secsF (getE E n) 64 0) (getE E n (-1))
  have h3 := or_sum (orL (secsF (getE E n) 64 0) (getE E n (-1))) (getE E n (-2))
  have h4 := sum_ents n (-2 :: -1 :: upZ 64 0) (by
    rw [List.nodup_cons, List.nodup_cons, List.mem_cons]
    refine ⟨fun h => ?_, fun h => ?_, upZ_nodup 64 0⟩
    · rcases h with h | h
      · exact absurd h (by decide)
      · have := upZ_ge 64 0 _ h; omega
    · have := upZ_ge 64 0 _ h; omega) E
  rw [sumZ_cons, sumZ_cons] at h4
  unfold partsL
  omega
def szA (all : List Par) : Nat := (all.map (fun p => p.value.length)).sum
theorem put_sum (L : List Ent) (p : Par) : szE (putE L p) ≤ szE L + p.value.length := by
  unfold putE
  split
  · omega
  · unfold szE; rw [List.map_append, List.sum_append]
    show _ + ([p.value.length] : List Nat).sum ≤ _
    simp
theorem fold_sum : ∀ (all : List Par) (L : List Ent), szE (all.foldl putE L) ≤ szE L + szA all
  | [], L => by rw [List.foldl_nil]; exact Nat.le_add_right _ _
  | p :: all, L => by
    have h1 := fold_sum all (putE L p)
    have h2 := put_sum L p
    have h3 : szA (p :: all) = p.value.length + szA all := by unfold szA; rw [List.map_cons, List.sum_cons]
    rw [List.foldl_cons, h3]
    omega
theorem ents_sum (all : List Par) : szE (entsL all) ≤ szA all := by
  have := fold_sum all []
  unfold entsL
  have h0 : szE [] = 0 := rfl
  omega
def szR (rows : List (List Tok)) : Nat := (rows.map (fun r => (joinL r).length)).sum
theorem told_value (num : List UInt8 → Option Nat) (n v : List UInt8) : (toldP num n v).value = v := by
  unfold toldP
  split <;> simp only []
  · split <;> (try split) <;> rfl
  · split <;> (try split) <;> rfl
theorem join_cons (t : Tok) (l : List Tok) : joinL (t :: l) = t.text ++ joinL l := by unfold joinL; simp
theorem valueL_le (t : Tok) : (valueL t).length ≤ t.text.length := by
  unfold valueL
  split
  · have := unesc_le false (t.text.drop 1).dropLast
    rw [List.length_dropLast, List.length_drop] at this
    omega
  · exact Nat.le_refl _
theorem pairV_le (rest : List UInt8) (l : List Tok) : (pairV rest l).length ≤ rest.length + (joinL l).length := by
  cases l with
  | nil => rw [pairV]; exact Nat.le_add_right _ _
  | cons u r =>
    rw [pairV, join_cons]
    split
    · have := valueL_le u
      rw [List.length_append]; omega
    · exact Nat.le_of_eq (List.length_append)
theorem pair_le (num : List UInt8 → Option Nat) : ∀ (l : List Tok) (pre : List UInt8) (p : Par), pairP num pre l = some p → p.value.length ≤ (joinL l).length
  | [], _, p, h => absurd h (by simp [pairP])
  | t :: r, pre, p, h => by
    rw [pairP] at h
    rw [join_cons, List.length_append]
    split at h
    · split at h
      · exact absurd h (by simp)
      · have := Option.some.inj h
        rw [← this, told_value]
        have h1 := pairV_le (behind 61 t.text) r
        have h2 : (behind 61 t.text).length ≤ t.text.length := by unfold behind; rw [List.length_drop]; omega
        omega
    · have := pair_le num r _ p h
      omega
theorem all_sum (num : List UInt8 → Option Nat) : ∀ rows : List (List Tok), szA (rows.filterMap (pairP num [])) ≤ szR rows
  | [] => Nat.zero_le _
  | r :: rows => by
    have ih := all_sum num rows
    have h3 : szR (r :: rows) = (joinL r).length + szR rows := by unfold szR; rw [List.map_cons, List.sum_cons]
    rw [List.filterMap_cons, h3]
    cases h : pairP num [] r with
    | none => simp only []; omega
    | some p =>
      have := pair_le num r [] p h
      simp only []
      have h4 : szA (p :: rows.filterMap (pairP num [])) = p.value.length + szA (rows.filterMap (pairP num [])) := by unfold szA; rw [List.map_cons, List.sum_cons]
      rw [h4]; omega
theorem rows_sum : ∀ (l now : List Tok), szR (rowsT now l) ≤ (joinL now).length + (joinL l).length
  | [], now => by rw [rowsT]; unfold szR; simp
  | t :: l, now => by
    rw [rowsT, join_cons, List.length_append]
    split
    · have ih := rows_sum l []
      have h3 : szR (now :: rowsT [] l) = (joinL now).length + szR (rowsT [] l) := by unfold szR; rw [List.map_cons, List.sum_cons]
      rw [h3]
      have h0 : (joinL ([] : List Tok)).length = 0 := rfl
      omega
    · have ih := rows_sum l (now ++ [t])
      have hj : joinL (now ++ [t]) = joinL now ++ t.text := by unfold joinL; simp
      rw [hj, List.length_append] at ih
      omega
theorem row_le {rows : List (List Tok)} {r : List Tok} (h : r ∈ rows) : (joinL r).length ≤ szR rows := by
  unfold szR
  induction rows with
  | nil => exact absurd h (by simp)
  | cons a rows ih =>
    rw [List.map_cons, List.sum_cons]
    rcases List.mem_cons.1 h with rfl | h
    · omega
    · have := ih h; omega
end Go.Proofs.YtdinachiiimngaaGreatDoor.CtP
