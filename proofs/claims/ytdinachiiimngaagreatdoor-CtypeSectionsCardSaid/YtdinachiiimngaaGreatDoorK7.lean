/- How many bytes the parts of a name hold: no more than the rows; of no program. Slices of bytes that a call has made; the reference's Value. The reference's Small: lower case. The reference's Param. -/
import Derived.Test.YtdinachiiimngaaGreatDoorK2
import Derived.Test.YtdinachiiimngaaGreatDoorK4
import Derived.Test.YtdinachiiimngaaGreatDoorK1
import Derived.RangeFuncRecord
import Derived.Lib.ConvBytes
import Derived.Lib.UnsafeStr
import Derived.Lib.AppendStr
import Derived.Laws.AppendOwn
import Derived.Maps.AppendAt
import Derived.Test.YtdinachiiimngaaGreatDoorK5
namespace Go.Proofs.YtdinachiiimngaaGreatDoor.CtP
open TokP AdrP

def szP (l : List (List UInt8 × Bool)) : Nat := (l.map (fun p => p.1.length)).sum
def lenO : Option (List UInt8 × Bool) → Nat
  | some p => p.1.length
  | none => 0
def sumZ (G : Int → Option (List UInt8 × Bool)) (Z : List Int) : Nat := (Z.map (fun z => lenO (G z))).sum
theorem sumZ_cons (G : Int → Option (List UInt8 × Bool)) (z : Int) (Z : List Int) : sumZ G (z :: Z) = lenO (G z) + sumZ G Z := by unfold sumZ; rw [List.map_cons, List.sum_cons]
def szE (E : List Ent) : Nat := (E.map (fun e => e.2.1.length)).sum
theorem szE_cons (e : Ent) (E : List Ent) : szE (e :: E) = e.2.1.length + szE E := by unfold szE; rw [List.map_cons, List.sum_cons]
theorem getE_cons (e : Ent) (E : List Ent) (n : List UInt8) (z : Int) : getE (e :: E) n z = if (e.1.1 == n && e.1.2 == z) = true then some e.2 else getE E n z := by
  unfold getE
  rw [List.find?_cons]
  cases (e.1.1 == n && e.1.2 == z) <;> rfl
theorem sum_none (n : List UInt8) : ∀ Z : List Int, sumZ (getE [] n) Z = 0
  | [] => rfl
  | z :: Z => by rw [sumZ_cons, sum_none n Z]; rfl
theorem sum_off (e : Ent) (E : List Ent) (n : List UInt8) : ∀ Z : List Int, e.1.2 ∉ Z → sumZ (getE (e :: E) n) Z = sumZ (getE E n) Z
  | [], _ => rfl
  | z :: Z, h => by
    rw [sumZ_cons, sumZ_cons, sum_off e E n Z (fun hc => h (by simp [hc])), getE_cons, if_neg (fun hc => ?_)]
    rw [Bool.and_eq_true, beq_iff_eq, beq_iff_eq] at hc
    exact h (by simp [hc.2])
theorem sum_one (e : Ent) (E : List Ent) (n : List UInt8) : ∀ Z : List Int, Z.Nodup → sumZ (getE (e :: E) n) Z ≤ e.2.1.length + sumZ (getE E n) Z
  | [], _ => Nat.zero_le _
  | z :: Z, h => by
    rw [List.nodup_cons] at h
    rw [sumZ_cons, sumZ_cons, getE_cons]
    by_cases hc : (e.1.1 == n && e.1.2 == z) = true
    · rw [if_pos hc]
      rw [Bool.and_eq_true, beq_iff_eq, beq_iff_eq] at hc
      rw [sum_off e E n Z (by rw [hc.2]; exact h.1)]
      show e.2.1.length + _ ≤ _
      omega
    · rw [if_neg hc]
      have := sum_one e E n Z h.2
      omega
theorem sum_ents (n : List UInt8) (Z : List Int) (hZ : Z.Nodup) : ∀ E : List Ent, sumZ (getE E n) Z ≤ szE E
  | [] => by rw [sum_none]; exact Nat.zero_le _
  | e :: E => by
    have h1 := sum_one e E n Z hZ
    have h2 := sum_ents n Z hZ E
    rw [szE_cons]
    omega
def upZ : Nat → Nat → List Int
  | 0, _ => []
  | f + 1, k => (k : Int) :: upZ f (k + 1)
theorem upZ_ge : ∀ (f k : Nat) (z : Int), z ∈ upZ f k → (k : Int) ≤ z
  | 0, _, _, h => absurd h (by simp [upZ])
  | f + 1, k, z, h => by
    rw [upZ, List.mem_cons] at h
    rcases h with rfl | h
    · exact Int.le_refl _
    · have := upZ_ge f (k + 1) z h
      omega
theorem upZ_nodup : ∀ f k : Nat, (upZ f k).Nodup
  | 0, _ => List.nodup_nil
  | f + 1, k => by
    rw [upZ, List.nodup_cons]
    exact ⟨fun h => by have := upZ_ge f (k + 1) _ h; omega, upZ_nodup f (k + 1)⟩
theorem secs_sum (G : Int → Option (List UInt8 × Bool)) : ∀ f k : Nat, szP (secsF G f k) ≤ sumZ G (upZ f k)
  | 0, _ => Nat.zero_le _
  | f + 1, k => by
    rw [secsF, upZ, sumZ_cons]
    cases G k with
    | none => exact Nat.zero_le _
    | some p =>
      have := secs_sum G f (k + 1)
      show szP (p :: secsF G f (k + 1)) ≤ _
      unfold szP at this ⊢
      rw [List.map_cons, List.sum_cons]
      show p.1.length + _ ≤ p.1.length + _
      omega
theorem or_sum (l : List (List UInt8 × Bool)) (o : Option (List UInt8 × Bool)) : szP (orL l o) ≤ szP l + lenO o := by
  unfold orL
  split
  · cases o with
    | none => exact Nat.zero_le _
    | some p => unfold szP; simp [lenO]
  · omega
theorem parts_sum (E : List Ent) (n : List UInt8) : szP (partsL (getE E n)) ≤ szE E := by
  have h1 := secs_sum (getE E n) 64 0
  have h2 := or_sum (secsF (getE E n) 64 0) (getE E n (-1))
  have h3 := or_sum (orL (secsF (getE E n) 64 0) (getE E n (-1))) (getE E n (-2))
  have h4 := sum_ents n (-2 :: -1 :: upZ 64 0) (by
    rw [List.nodup_cons, List.nodup_cons, List.mem_cons]
    refine ⟨fun h => ?_, fun h => ?_, upZ_nodup 64 0⟩
    · rcases h with h | h
      · exact absurd h (by decide)
      · have := upZ_ge 64 0 _ h; omega
    · have := upZ_ge 64 0 _ h; omega) E
  rw [sumZ_cons, sumZ_cons] at h4
  unfold partsL
  omega
def szA (all : List Par) : Nat := (all.map (fun p => p.value.length)).sum
theorem put_sum (L : List Ent) (p : Par) : szE (putE L p) ≤ szE L + p.value.length := by
  unfold putE
  split
  · omega
  · unfold szE; rw [List.map_append, List.sum_append]
    show _ + ([p.value.length] : List Nat).sum ≤ _
    simp
theorem fold_sum : ∀ (all : List Par) (L : List Ent), szE (all.foldl putE L) ≤ szE L + szA all
  | [], L => by rw [List.foldl_nil]; exact Nat.le_add_right _ _
  | p :: all, L => by
    have h1 := fold_sum all (putE L p)
    have h2 := put_sum L p
    have h3 : szA (p :: all) = p.value.length + szA all := by unfold szA; rw [List.map_cons, List.sum_cons]
    rw [List.foldl_cons, h3]
    omega
theorem ents_sum (all : List Par) : szE (entsL all) ≤ szA all := by
  have := fold_sum all []
  unfold entsL
  have h0 : szE [] = 0 := rfl
  omega
def szR (rows : List (List Tok)) : Nat := (rows.map (fun r => (joinL r).length)).sum
theorem told_value (num : List UInt8 → Option Nat) (n v : List UInt8) : (toldP num n v).value = v := by
  unfold toldP
  split <;> simp only []
  · split <;> (try split) <;> rfl
  · split <;> (try split) <;> rfl
theorem join_cons (t : Tok) (l : List Tok) : joinL (t :: l) = t.text ++ joinL l := by unfold joinL; simp
theorem valueL_le (t : Tok) : (valueL t).length ≤ t.text.length := by
  unfold valueL
  split
  · have := unesc_le false (t.text.drop 1).dropLast
    rw [List.length_dropLast, List.length_drop] at this
    omega
  · exact Nat.le_refl _
theorem pairV_le (rest : List UInt8) (l : List Tok) : (pairV rest l).length ≤ rest.length + (joinL l).length := by
  cases l with
  | nil => rw [pairV]; exact Nat.le_add_right _ _
  | cons u r =>
    rw [pairV, join_cons]
    split
    · have := valueL_le u
      rw [List.length_append]; omega
    · exact Nat.le_of_eq (List.length_append)
theorem pair_le (num : List UInt8 → Option Nat) : ∀ (l : List Tok) (pre : List UInt8) (p : Par), pairP num pre l = some p → p.value.length ≤ (joinL l).length
  | [], _, p, h => absurd h (by simp [pairP])
  | t :: r, pre, p, h => by
    rw [pairP] at h
    rw [join_cons, List.length_append]
    split at h
    · split at h
      · exact absurd h (by simp)
      · have := Option.some.inj h
        rw [← this, told_value]
        have h1 := pairV_le (behind 61 t.text) r
        have h2 : (behind 61 t.text).length ≤ t.text.length := by unfold behind; rw [List.length_drop]; omega
        omega
    · have := pair_le num r _ p h
      omega
theorem all_sum (num : List UInt8 → Option Nat) : ∀ rows : List (List Tok), szA (rows.filterMap (pairP num [])) ≤ szR rows
  | [] => Nat.zero_le _
  | r :: rows => by
    have ih := all_sum num rows
    have h3 : szR (r :: rows) = (joinL r).length + szR rows := by unfold szR; rw [List.map_cons, List.sum_cons]
    rw [List.filterMap_cons, h3]
    cases h : pairP num [] r with
    | none => simp only []; omega
    | some p =>
      have := pair_le num r [] p h
      simp only []
      have h4 : szA (p :: rows.filterMap (pairP num [])) = p.value.length + szA (rows.filterMap (pairP num [])) := by unfold szA; rw [List.map_cons, List.sum_cons]
      rw [h4]; omega
theorem rows_sum : ∀ (l now : List Tok), szR (rowsT now l) ≤ (joinL now).length + (joinL l).length
  | [], now => by rw [rowsT]; unfold szR; simp
  | t :: l, now => by
    rw [rowsT, join_cons, List.length_append]
    split
    · have ih := rows_sum l []
      have h3 : szR (now :: rowsT [] l) = (joinL now).length + szR (rowsT [] l) := by unfold szR; rw [List.map_cons, List.sum_cons]
      rw [h3]
      have h0 : (joinL ([] : List Tok)).length = 0 := rfl
      omega
    · have ih := rows_sum l (now ++ [t])
      have hj : joinL (now ++ [t]) = joinL now ++ t.text := by unfold joinL; simp
      rw [hj, List.length_append] at ih
      omega
theorem row_le {rows : List (List Tok)} {r : List Tok} (h : r ∈ rows) : (joinL r).length ≤ szR rows := by
  unfold szR
  induction rows with
  | nil => exact absurd h (by simp)
  | cons a rows ih =>
    rw [List.map_cons, List.sum_cons]
    rcases List.mem_cons.1 h with rfl | h
    · omega
    · have := ih h; omega
end Go.Proofs.YtdinachiiimngaaGreatDoor.CtP
namespace Go.Proofs.YtdinachiiimngaaGreatDoor
open Go.ChangeShapes Go.WideShapes Go.ChangeAt Go.RowKit
open TokP

/-- The slice v holds out, in a block of its own from B on. -/
def Ow (w : World) (B : Nat) (v : Value) (out : List UInt8) : Prop := w.ownsRow B 5 1 v out.length (Lib.byteCells out)
theorem conv_own {w : World} {base n : Nat} {v : Value} {l : List UInt8} (hl : l.length = n) (hown : w.ownsRow base 5 1 v n (Lib.byteCells l)) :
    (convert 59 9 v).run Tryz.prog w = .ok (.string (strL l)) w := by
  rcases hown.2 with ⟨rfl, h⟩ | ⟨g, cap, cur, rfl, _⟩
  · obtain rfl : l = [] := List.eq_nil_of_length_eq_zero (by rw [hl, h])
    kernel_rfl
  · subst hl
    refine run_convert_bytes_back w 59 9 5 ⟨g, 0, none⟩ cap l Tryz.underlying59 Tryz.underlying5 Tryz.underlying9 fun j hj => ?_
    refine hown.cells (g := g) rfl j _ ?_
    unfold Lib.byteCells
    rw [List.getElem?_map, List.getElem?_eq_getElem hj]; rfl
/-- A new byte is appended. -/
theorem wpList_byte {ops : Array Oper} {rest : List Oper} {o : Oper} {a : Act} {w : World} {Q : Exit → Act → World → Prop} (hgd : o.guard = none) (s x : Operand) (ho : o.op = .call { callee := .builtin .append, args := #[s, x], argTypes := #[59, 59] })
    (B : Nat) {v : Value} {out : List UInt8} {n : Nat} (c : UInt8) (y : Int) (hy : (c.toNat : Int) = y) (hs : a.eval s = v) (hx : a.eval x = .slice (some ⟨w.heap.size, 0, none⟩) 1 1) (hown : Ow w B v out) (hn : out.length = n) (hb : B ≤ w.heap.size) (hl : n + 1 ≤ 4000000)
    (h : ∀ a' c' w', Ow w' B (.slice a' (n + 1) c') (out ++ [c]) → (w.alloc (.cells #[.int .u8 y] 5)).grownBy w' v.ownBlock → wpList Tryz.prog ops Q rest (a.put o.dst (.slice a' (n + 1) c')) w') : wpList Tryz.prog ops Q (o :: rest) a (w.alloc (.cells #[.int .u8 y] 5)) := by
  obtain ⟨i0, hi, hz0, hz1, hz2⟩ := info_parts info5
  subst hn
  subst hy
  have h0 : Ow (w.alloc (.cells #[.int .u8 (c.toNat : Int)] 5)) B v out := World.ownsRow.alloc hown _
  refine wpList_append_own _ hgd s x 59 ho B 5 i0 (.int .u8 0) 1 1 Tryz.underlying59 hi hz0 hz1 hz2 rfl (by decide) v _ _ hs h0 ⟨w.heap.size, 0, none⟩ 1 1 [.int .u8 (c.toNat : Int)] hx rfl (cell_one_new _ _ _) (by simp [Value.oneCell']) (by unfold maxLen; omega) (by omega) (by rw [World.size_alloc]; omega) ?_
  intro v' w' h1 h2 _
  have h1' : w'.ownsRow B 5 1 v' (out.length + 1) (Lib.byteCells (out ++ [c])) := by rw [Lib.byteCells_append]; exact h1
  obtain ⟨a', c', rfl⟩ : ∃ a' c', v' = .slice a' (out.length + 1) c' := by
    rcases h1.2 with ⟨rfl, h0⟩ | ⟨g, cap, cur, rfl, _⟩
    · omega
    · exact ⟨_, _, rfl⟩
  exact h a' c' w' (by unfold Ow; rw [List.length_append]; exact h1') h2
theorem ow_nil (w : World) (B : Nat) : Ow w B (.slice none 0 0) [] := ⟨rfl, .inl ⟨rfl, rfl⟩⟩
theorem ow_below {w w1 w2 : World} {B : Nat} {v : Value} {out : List UInt8} {o : Obj} (h : Below w.heap.size w w1) (ho : Ow w1 B v out) (hB : w.heap.size ≤ B) (hg : (w1.alloc o).grownBy w2 v.ownBlock) : Below w.heap.size w w2 :=
  (h.alloc h.size _).grown hg (by rw [World.size_alloc]; have := h.size; omega) (fun k e => by have := (World.ownsRow.lt ho k e).1; omega)
set_option maxRecDepth 100000 in
set_option maxHeartbeats 2000000 in
/-- The loop of the reference's Value, over a struct that lies in a box. -/
theorem rvalue_yes (K : Int) (hK : K = 2 ∨ K = 3) (T : ByteArray) (hT : T.size ≤ 4000000) (h2 : 2 ≤ T.size) (w : World) :
    Calls Tryz.prog 111 #[.agg #[.int .i64 K, .string T]] w fun e w' => e = .returned (.string (strL (unescS false (T.data.toList.drop 1).dropLast))) ∧ Below w.heap.size w w' := by
  obtain ⟨R, hR⟩ : ∃ R, unescS false (T.data.toList.drop 1).dropLast = R := ⟨_, rfl⟩
  rw [hR]
  have h2' : ¬ (T.size : Int) < 2 := by omega
  have F0 : IntKind.i64.wrap ((T.size : Int) - 1) = (T.size : Int) - 1 := by rw [IntKind.wrap_i64]; omega
  have R1 : ∀ W : World, (Instr.slice 9 (.string T) (some (.int .i64 1)) (some (.int .i64 ((T.size : Int) - 1))) none).run Tryz.prog W = .ok (.string (T.extract 1 (T.size - 1))) W := run_slice_str T 1 (T.size - 1) ((T.size : Int) - 1) (by omega) (by omega) (by omega)
  rw [inner_is T h2] at R1
  obtain ⟨I, hI⟩ : ∃ I, strL (T.data.toList.drop 1).dropLast = I := ⟨_, rfl⟩
  rw [hI] at R1
  have hRI : unescS false I.data.toList = R := by rw [← hI]; exact hR
  have hIz : I.size ≤ 4000000 := by rw [← hI, strL_size, List.length_dropLast, List.length_drop, ← size_list]; omega
  obtain ⟨n, hn⟩ : ∃ n, I.size = n := ⟨_, rfl⟩
  rw [hn] at hIz
  have HN := Lib.hid hn
  have HL := Lib.hid (size_list I)
  have HR := Lib.hid hRI
  have HK := Lib.hid hK
  have HW := Lib.hid (show Below w.heap.size w (w.alloc (.cells #[.int .i64 K, .string T] 89)) from (Below.refl _ w).alloc (Nat.le_refl _) _)
  clear hR hRI hI hn h2 hT hK
  have key : ∀ K', K = K' → (K' = 2 ∨ K' = 3) → Calls Tryz.prog 111 #[.agg #[.int .i64 K', .string T]] w fun e w' => e = .returned (.string (strL R)) ∧ Below w.heap.size w w' := by
    intro K' hKK hK'
    rcases hK' with rfl | rfl
    · go_enter Tryz.func111, Tryz.ntmps111
      go_wp2_with fail
      go_loopw [4, 5] (fun o i wr => ∃ (k m : Nat) (O : List UInt8), k ≤ n + 1 ∧ m ≤ k ∧ i = .int .i64 k ∧ (∃ a c, o = .slice a m c) ∧ Hid (O.length = m) ∧ Hid (O ++ unescS false (I.data.toList.drop k) = R) ∧ Hid (Ow wr w.heap.size o O) ∧ Hid (Below w.heap.size w wr)) (fun _ i _ => n + 1 - (intOf i).toNat)
      case atStart => exact ⟨0, 0, [], by omega, Nat.le_refl _, rfl, ⟨none, 0, rfl⟩, rfl, HR, ow_nil _ _, by rw [hKK] at HW; exact HW⟩
      case round =>
        obtain ⟨k, m, O, hk, hmk, rfl, ⟨a, c0, rfl⟩, hm, HE, ho, hb⟩ := hrel
        have F1 : IntKind.i64.wrap ((k : Int) + 1) = (k : Int) + 1 := by rw [IntKind.wrap_i64]; omega
        have F2 : IntKind.i64.wrap ((k : Int) + 1 + 1) = (k : Int) + 1 + 1 := by rw [IntKind.wrap_i64]; omega
        have hn : I.size = n := HN.out
        by_cases hlt : k < n
        · have hlt' : (k : Int) < (n : Int) := by omega
          obtain ⟨c, x, hc, hx, hx2, S1⟩ := run_byte I k (by rw [hn]; exact hlt)
          have e92 := byte_is c x hx 92 (by decide)
          have e10 := byte_is c x hx 10 (by decide)
          have e13 := byte_is c x hx 13 (by decide)
          rw [show ((92 : Nat) : Int) = 92 from rfl] at e92
          rw [show ((10 : Nat) : Int) = 10 from rfl] at e10
          rw [show ((13 : Nat) : Int) = 13 from rfl] at e13
          by_cases h92 : c = 92
          · rw [show decide (c = UInt8.ofNat 92) = true from decide_eq_true h92] at e92
            rw [h92] at hc
            by_cases hl2 : k + 1 < n
            · have hl2' : (k : Int) + 1 < (n : Int) := by omega
              obtain ⟨d, y, hd, hy, hy2, S2⟩ := run_byte I (k + 1) (by rw [hn]; exact hl2)
              rw [show ((k + 1 : Nat) : Int) = (k : Int) + 1 from by omega] at S2
              have HE2 := Lib.hid (show (O ++ [d]) ++ unescS false (I.data.toList.drop (k + 2)) = R by rw [← HE.out, un_esc1 _ k d hc hd, List.append_assoc]; rfl)
              have HY : Hid ((d.toNat : Int) = (y : Int)) := by show _ = _; rw [hy]
              clear h92 hc hx hx2 HE hd hy hy2 e10 e13
              go_wp2_with (at_builtin; refine wpList_byte rfl (.tmp 45) (.tmp 49) rfl w.heap.size d _ HY.out rfl rfl ho.out hm.out hb.out.size (by omega) ?_; intro a2 c2 w2 h2 g2; replace h2 := Lib.hid h2; replace g2 := Lib.hid g2)
              go_roundw
              case rel => exact ⟨k + 2, m + 1, O ++ [d], by omega, by omega, by go_num, ⟨a2, c2, rfl⟩, Lib.hid (by rw [List.length_append, hm.out]; rfl), HE2, h2, ow_below hb.out ho.out (Nat.le_refl _) g2.out⟩
              case measure => simp [intOf]; omega
            · have hl2' : ¬ (k : Int) + 1 < (n : Int) := by omega
              have HE2 := Lib.hid ((congrArg (O ++ ·) (un_esc0 _ k hc (by rw [← HL.out, hn]; omega))).symm.trans HE.out)
              clear h92 hc hx hx2 HE e10 e13
              go_wp2_with fail
              go_roundw
              case rel => exact ⟨k + 2, m, O, by omega, by omega, by go_num, ⟨a, c0, rfl⟩, hm, HE2, ho, hb⟩
              case measure => simp [intOf]; omega
          · rw [show decide (c = UInt8.ofNat 92) = false from decide_eq_false h92] at e92
            by_cases h10 : c = 10
            · rw [show decide (c = UInt8.ofNat 10) = true from decide_eq_true h10] at e10
              have n10 : ((x : Int) != 10) = false := by rw [bne, e10]; rfl
              have HE2 := Lib.hid ((congrArg (O ++ ·) (un_break _ k c hc (.inl h10))).symm.trans HE.out)
              clear h92 h10 hc hx hx2 HE e13 e10
              go_wp2_with fail
              go_roundw
              case rel => exact ⟨k + 1, m, O, by omega, by omega, by go_num, ⟨a, c0, rfl⟩, hm, HE2, ho, hb⟩
              case measure => simp [intOf]; omega
            · rw [show decide (c = UInt8.ofNat 10) = false from decide_eq_false h10] at e10
              have n10 : ((x : Int) != 10) = true := by rw [bne, e10]; rfl
              by_cases h13 : c = 13
              · rw [show decide (c = UInt8.ofNat 13) = true from decide_eq_true h13] at e13
                have n13 : ((x : Int) != 13) = false := by rw [bne, e13]; rfl
                have HE2 := Lib.hid ((congrArg (O ++ ·) (un_break _ k c hc (.inr h13))).symm.trans HE.out)
                clear h92 h10 h13 hc hx hx2 HE e13 e10
                go_wp2_with fail
                go_roundw
                case rel => exact ⟨k + 1, m, O, by omega, by omega, by go_num, ⟨a, c0, rfl⟩, hm, HE2, ho, hb⟩
                case measure => simp [intOf]; omega
              · rw [show decide (c = UInt8.ofNat 13) = false from decide_eq_false h13] at e13
                have n13 : ((x : Int) != 13) = true := by rw [bne, e13]; rfl
                have HE2 := Lib.hid (show (O ++ [c]) ++ unescS false (I.data.toList.drop (k + 1)) = R by rw [← HE.out, un_plain _ k c hc h92 (fun e => e.elim h10 h13), List.append_assoc]; rfl)
                have HY : Hid ((c.toNat : Int) = (x : Int)) := by show _ = _; rw [hx]
                clear h92 h10 h13 hc hx hx2 HE e13 e10
                go_wp2_with (at_builtin; refine wpList_byte rfl (.tmp 61) (.tmp 65) rfl w.heap.size c _ HY.out rfl rfl ho.out hm.out hb.out.size (by omega) ?_; intro a2 c2 w2 h2 g2; replace h2 := Lib.hid h2; replace g2 := Lib.hid g2)
                go_roundw
                case rel => exact ⟨k + 1, m + 1, O ++ [c], by omega, by omega, by go_num, ⟨a2, c2, rfl⟩, Lib.hid (by rw [List.length_append, hm.out]; rfl), HE2, h2, ow_below hb.out ho.out (Nat.le_refl _) g2.out⟩
                case measure => simp [intOf]; omega
        · have hlt' : ¬ (k : Int) < (n : Int) := by omega
          have he : O = R := by
            have h := HE.out
            rw [List.drop_eq_nil_of_le (by rw [← HL.out, hn]; omega), unescS, List.append_nil] at h
            exact h
          subst he
          have hcv := conv_own hm.out (by have h := ho.out; unfold Ow at h; rw [hm.out] at h; exact h)
          clear HE
          go_wp2_with fail
          go_ret
          exact ⟨rfl, hb.out⟩
    · go_enter Tryz.func111, Tryz.ntmps111
      go_wp2_with fail
      go_loopw [4, 5] (fun o i wr => ∃ (k m : Nat) (O : List UInt8), k ≤ n + 1 ∧ m ≤ k ∧ i = .int .i64 k ∧ (∃ a c, o = .slice a m c) ∧ Hid (O.length = m) ∧ Hid (O ++ unescS false (I.data.toList.drop k) = R) ∧ Hid (Ow wr w.heap.size o O) ∧ Hid (Below w.heap.size w wr)) (fun _ i _ => n + 1 - (intOf i).toNat)
      case atStart => exact ⟨0, 0, [], by omega, Nat.le_refl _, rfl, ⟨none, 0, rfl⟩, rfl, HR, ow_nil _ _, by rw [hKK] at HW; exact HW⟩
      case round =>
        obtain ⟨k, m, O, hk, hmk, rfl, ⟨a, c0, rfl⟩, hm, HE, ho, hb⟩ := hrel
        have F1 : IntKind.i64.wrap ((k : Int) + 1) = (k : Int) + 1 := by rw [IntKind.wrap_i64]; omega
        have F2 : IntKind.i64.wrap ((k : Int) + 1 + 1) = (k : Int) + 1 + 1 := by rw [IntKind.wrap_i64]; omega
        have hn : I.size = n := HN.out
        by_cases hlt : k < n
        · have hlt' : (k : Int) < (n : Int) := by omega
          obtain ⟨c, x, hc, hx, hx2, S1⟩ := run_byte I k (by rw [hn]; exact hlt)
          have e92 := byte_is c x hx 92 (by decide)
          have e10 := byte_is c x hx 10 (by decide)
          have e13 := byte_is c x hx 13 (by decide)
          rw [show ((92 : Nat) : Int) = 92 from rfl] at e92
          rw [show ((10 : Nat) : Int) = 10 from rfl] at e10
          rw [show ((13 : Nat) : Int) = 13 from rfl] at e13
          by_cases h92 : c = 92
          · rw [show decide (c = UInt8.ofNat 92) = true from decide_eq_true h92] at e92
            rw [h92] at hc
            by_cases hl2 : k + 1 < n
            · have hl2' : (k : Int) + 1 < (n : Int) := by omega
              obtain ⟨d, y, hd, hy, hy2, S2⟩ := run_byte I (k + 1) (by rw [hn]; exact hl2)
              rw [show ((k + 1 : Nat) : Int) = (k : Int) + 1 from by omega] at S2
              have HE2 := Lib.hid (show (O ++ [d]) ++ unescS false (I.data.toList.drop (k + 2)) = R by rw [← HE.out, un_esc1 _ k d hc hd, List.append_assoc]; rfl)
              have HY : Hid ((d.toNat : Int) = (y : Int)) := by show _ = _; rw [hy]
              clear h92 hc hx hx2 HE hd hy hy2 e10 e13
              go_wp2_with (at_builtin; refine wpList_byte rfl (.tmp 45) (.tmp 49) rfl w.heap.size d _ HY.out rfl rfl ho.out hm.out hb.out.size (by omega) ?_; intro a2 c2 w2 h2 g2; replace h2 := Lib.hid h2; replace g2 := Lib.hid g2)
              go_roundw
              case rel => exact ⟨k + 2, m + 1, O ++ [d], by omega, by omega, by go_num, ⟨a2, c2, rfl⟩, Lib.hid (by rw [List.length_append, hm.out]; rfl), HE2, h2, ow_below hb.out ho.out (Nat.le_refl _) g2.out⟩
              case measure => simp [intOf]; omega
            · have hl2' : ¬ (k : Int) + 1 < (n : Int) := by omega
              have HE2 := Lib.hid ((congrArg (O ++ ·) (un_esc0 _ k hc (by rw [← HL.out, hn]; omega))).symm.trans HE.out)
              clear h92 hc hx hx2 HE e10 e13
              go_wp2_with fail
              go_roundw
              case rel => exact ⟨k + 2, m, O, by omega, by omega, by go_num, ⟨a, c0, rfl⟩, hm, HE2, ho, hb⟩
              case measure => simp [intOf]; omega
          · rw [show decide (c = UInt8.ofNat 92) = false from decide_eq_false h92] at e92
            by_cases h10 : c = 10
            · rw [show decide (c = UInt8.ofNat 10) = true from decide_eq_true h10] at e10
              have n10 : ((x : Int) != 10) = false := by rw [bne, e10]; rfl
              have HE2 := Lib.hid ((congrArg (O ++ ·) (un_break _ k c hc (.inl h10))).symm.trans HE.out)
              clear h92 h10 hc hx hx2 HE e13 e10
              go_wp2_with fail
              go_roundw
              case rel => exact ⟨k + 1, m, O, by omega, by omega, by go_num, ⟨a, c0, rfl⟩, hm, HE2, ho, hb⟩
              case measure => simp [intOf]; omega
            · rw [show decide (c = UInt8.ofNat 10) = false from decide_eq_false h10] at e10
              have n10 : ((x : Int) != 10) = true := by rw [bne, e10]; rfl
              by_cases h13 : c = 13
              · rw [show decide (c = UInt8.ofNat 13) = true from decide_eq_true h13] at e13
                have n13 : ((x : Int) != 13) = false := by rw [bne, e13]; rfl
                have HE2 := Lib.hid ((congrArg (O ++ ·) (un_break _ k c hc (.inr h13))).symm.trans HE.out)
                clear h92 h10 h13 hc hx hx2 HE e13 e10
                go_wp2_with fail
                go_roundw
                case rel => exact ⟨k + 1, m, O, by omega, by omega, by go_num, ⟨a, c0, rfl⟩, hm, HE2, ho, hb⟩
                case measure => simp [intOf]; omega
              · rw [show decide (c = UInt8.ofNat 13) = false from decide_eq_false h13] at e13
                have n13 : ((x : Int) != 13) = true := by rw [bne, e13]; rfl
                have HE2 := Lib.hid (show (O ++ [c]) ++ unescS false (I.data.toList.drop (k + 1)) = R by rw [← HE.out, un_plain _ k c hc h92 (fun e => e.elim h10 h13), List.append_assoc]; rfl)
                have HY : Hid ((c.toNat : Int) = (x : Int)) := by show _ = _; rw [hx]
                clear h92 h10 h13 hc hx hx2 HE e13 e10
                go_wp2_with (at_builtin; refine wpList_byte rfl (.tmp 61) (.tmp 65) rfl w.heap.size c _ HY.out rfl rfl ho.out hm.out hb.out.size (by omega) ?_; intro a2 c2 w2 h2 g2; replace h2 := Lib.hid h2; replace g2 := Lib.hid g2)
                go_roundw
                case rel => exact ⟨k + 1, m + 1, O ++ [c], by omega, by omega, by go_num, ⟨a2, c2, rfl⟩, Lib.hid (by rw [List.length_append, hm.out]; rfl), HE2, h2, ow_below hb.out ho.out (Nat.le_refl _) g2.out⟩
                case measure => simp [intOf]; omega
        · have hlt' : ¬ (k : Int) < (n : Int) := by omega
          have he : O = R := by
            have h := HE.out
            rw [List.drop_eq_nil_of_le (by rw [← HL.out, hn]; omega), unescS, List.append_nil] at h
            exact h
          subst he
          have hcv := conv_own hm.out (by have h := ho.out; unfold Ow at h; rw [hm.out] at h; exact h)
          clear HE
          go_wp2_with fail
          go_ret
          exact ⟨rfl, hb.out⟩
  exact key K rfl HK.out
set_option maxHeartbeats 1000000 in
theorem rvalue_any (K : Int) (T : ByteArray) (hT : T.size ≤ 4000000) (w : World) :
    Calls Tryz.prog 111 #[.agg #[.int .i64 K, .string T]] w fun e w' => e = .returned (.string (strL (valueI K T.data.toList))) ∧ Below w.heap.size w w' := by
  have hsz := size_list T
  have HW := Lib.hid (show Below w.heap.size w (w.alloc (.cells #[.int .i64 K, .string T] 89)) from (Below.refl _ w).alloc (Nat.le_refl _) _)
  by_cases hk : K = 2 ∨ K = 3
  · by_cases h2 : 2 ≤ T.size
    · rw [value_yes K _ hk (by rw [← hsz]; exact h2)]
      exact rvalue_yes K hk T hT h2 w
    · have h2' : (T.size : Int) < 2 := by omega
      rw [value_no K _ (fun e => h2 (by rw [hsz]; exact e.2)), strL_of]
      clear hsz h2
      rcases hk with rfl | rfl
      · go_enter Tryz.func111, Tryz.ntmps111
        go_wp2_with fail
        go_ret
        exact ⟨rfl, HW.out⟩
      · go_enter Tryz.func111, Tryz.ntmps111
        go_wp2_with fail
        go_ret
        exact ⟨rfl, HW.out⟩
  · have g2 : (K != 2) = true := by rw [bne_iff_ne]; exact fun e => hk (.inl e)
    have g3 : (K != 3) = true := by rw [bne_iff_ne]; exact fun e => hk (.inr e)
    have n2 : ¬ K = 2 := fun e => hk (.inl e)
    have n3 : ¬ K = 3 := fun e => hk (.inr e)
    rw [value_no K _ (fun e => hk e.1), strL_of]
    clear hsz hk
    go_enter Tryz.func111, Tryz.ntmps111
    go_wp2_with fail
    go_ret
    exact ⟨rfl, HW.out⟩
end Go.Proofs.YtdinachiiimngaaGreatDoor
namespace Go.Proofs.YtdinachiiimngaaGreatDoor
open Go.ChangeShapes Go.WideShapes Go.ChangeAt Go.RowKit
open TokP AdrP CtP

theorem low_in (c : UInt8) (x : Nat) (hx : c.toNat = x) (h : 65 ≤ x ∧ x ≤ 90) : ((lowA c).toNat : Int) = (x : Int) + 32 := by
  unfold lowA
  rw [hx, if_pos h]
  have : (c + 32).toNat = x + 32 := by
    rw [UInt8.toNat_add, hx]
    show (x + 32) % 256 = x + 32
    omega
  rw [this]
  omega
theorem low_out (c : UInt8) (x : Nat) (hx : c.toNat = x) (h : ¬ (65 ≤ x ∧ x ≤ 90)) : ((lowA c).toNat : Int) = (x : Int) := by
  unfold lowA
  rw [hx, if_neg h, hx]
set_option maxRecDepth 100000 in
set_option maxHeartbeats 2000000 in
theorem rsmall_any (s : ByteArray) (hs : s.size ≤ 4000000) (w : World) :
    Calls Tryz.prog 39 #[.string s] w fun e w' => e = .returned (.string (strL (s.data.toList.map lowA))) ∧ Below w.heap.size w w' := by
  obtain ⟨n, hn⟩ : ∃ n, s.size = n := ⟨_, rfl⟩
  have HN := Lib.hid hn
  have HL := Lib.hid (size_list s)
  rw [hn] at hs
  clear hn
  go_enter Tryz.func39, Tryz.ntmps39
  go_wp2_with fail
  go_loopw [3, 4] (fun o i wr => ∃ k : Nat, k ≤ n ∧ i = .int .i64 k ∧ (∃ a c, o = .slice a k c) ∧ Hid (((s.data.toList.take k).map lowA).length = k) ∧ Hid (Ow wr w.heap.size o ((s.data.toList.take k).map lowA)) ∧ Hid (Below w.heap.size w wr)) (fun _ i _ => n - (intOf i).toNat)
  case atStart => exact ⟨0, Nat.zero_le _, rfl, ⟨none, 0, rfl⟩, rfl, ow_nil _ _, Below.refl _ _⟩
  case round =>
    obtain ⟨k, hk, rfl, ⟨a, c0, rfl⟩, hm, ho, hb⟩ := hrel
    have F1 : IntKind.i64.wrap ((k : Int) + 1) = (k : Int) + 1 := by rw [IntKind.wrap_i64]; omega
    have hn : s.size = n := HN.out
    by_cases hlt : k < n
    · have hlt' : (k : Int) < (n : Int) := by omega
      obtain ⟨d, y, hd, hy, hy2, S1⟩ := run_byte s k (by rw [hn]; exact hlt)
      have HST := Lib.hid (show (s.data.toList.take (k + 1)).map lowA = (s.data.toList.take k).map lowA ++ [lowA d] by rw [List.take_add_one, hd, List.map_append]; rfl)
      have F2 : IntKind.u8.wrap ((y : Int) + 32) = ((y : Int) + 32) % 256 := by rw [IntKind.wrap_u8]
      by_cases h1 : 65 ≤ y
      · have g1 : (65 : Int) ≤ (y : Int) := by omega
        by_cases h2 : y ≤ 90
        · have g2 : (y : Int) ≤ 90 := by omega
          replace F2 : IntKind.u8.wrap ((y : Int) + 32) = (y : Int) + 32 := by rw [F2]; omega
          have HY := Lib.hid (low_in d y hy ⟨h1, h2⟩)
          clear hd hy
          go_wp2_with (at_builtin; refine wpList_byte rfl (.tmp 23) (.tmp 25) rfl w.heap.size (lowA d) _ HY.out rfl rfl ho.out hm.out hb.out.size (by omega) ?_; intro a2 c2 w2 h3 g3; replace h3 := Lib.hid h3; replace g3 := Lib.hid g3)
          go_roundw
          case rel => exact ⟨k + 1, by omega, by go_num, ⟨a2, c2, rfl⟩, Lib.hid (by rw [HST.out, List.length_append, hm.out]; rfl), Lib.hid (by rw [HST.out]; exact h3.out), ow_below hb.out ho.out (Nat.le_refl _) g3.out⟩
          case measure => simp [intOf]; omega
        · have g2 : ¬ (y : Int) ≤ 90 := by omega
          have HY := Lib.hid (low_out d y hy (fun h => h2 h.2))
          clear hd hy F2
          go_wp2_with (at_builtin; refine wpList_byte rfl (.tmp 23) (.tmp 25) rfl w.heap.size (lowA d) _ HY.out rfl rfl ho.out hm.out hb.out.size (by omega) ?_; intro a2 c2 w2 h3 g3; replace h3 := Lib.hid h3; replace g3 := Lib.hid g3)
          go_roundw
          case rel => exact ⟨k + 1, by omega, by go_num, ⟨a2, c2, rfl⟩, Lib.hid (by rw [HST.out, List.length_append, hm.out]; rfl), Lib.hid (by rw [HST.out]; exact h3.out), ow_below hb.out ho.out (Nat.le_refl _) g3.out⟩
          case measure => simp [intOf]; omega
      · have g1 : ¬ (65 : Int) ≤ (y : Int) := by omega
        have HY := Lib.hid (low_out d y hy (fun h => h1 h.1))
        clear hd hy F2
        go_wp2_with (at_builtin; refine wpList_byte rfl (.tmp 23) (.tmp 25) rfl w.heap.size (lowA d) _ HY.out rfl rfl ho.out hm.out hb.out.size (by omega) ?_; intro a2 c2 w2 h3 g3; replace h3 := Lib.hid h3; replace g3 := Lib.hid g3)
        go_roundw
        case rel => exact ⟨k + 1, by omega, by go_num, ⟨a2, c2, rfl⟩, Lib.hid (by rw [HST.out, List.length_append, hm.out]; rfl), Lib.hid (by rw [HST.out]; exact h3.out), ow_below hb.out ho.out (Nat.le_refl _) g3.out⟩
        case measure => simp [intOf]; omega
    · obtain rfl : k = n := by omega
      have hlt' : ¬ (k : Int) < (k : Int) := by omega
      have hT : s.data.toList.take k = s.data.toList := List.take_of_length_le (by rw [← HL.out, hn]; exact Nat.le_refl _)
      rw [hT] at hm ho
      have hcv := conv_own hm.out (by have h := ho.out; unfold Ow at h; rw [hm.out] at h; exact h)
      clear hT
      go_wp2_with fail
      go_ret
      exact ⟨rfl, hb.out⟩
end Go.Proofs.YtdinachiiimngaaGreatDoor
namespace Go.Proofs.YtdinachiiimngaaGreatDoor
open Go.ChangeShapes Go.WideShapes Go.ChangeAt Go.RowKit
open TokP AdrP CtP

def paramV (l : List (List UInt8 × List UInt8)) (n : List UInt8) : Option (List UInt8) := (l.find? (fun p => decide (p.1.map lowA = n.map lowA))).map Prod.snd
theorem param_hit {l : List (List UInt8 × List UInt8)} {n : List UInt8} {k : Nat} {p : List UInt8 × List UInt8} (hk : l[k]? = some p) (hp : p.1.map lowA = n.map lowA) (h : ∀ (i : Nat) (q : List UInt8 × List UInt8), i < k → l[i]? = some q → ¬ q.1.map lowA = n.map lowA) : paramV l n = some p.2 := by
  unfold paramV
  induction l generalizing k with
  | nil => simp at hk
  | cons a r ih =>
    rw [List.find?_cons]
    cases k with
    | zero =>
      obtain rfl : a = p := by simpa using hk
      rw [decide_eq_true hp]; rfl
    | succ k =>
      rw [decide_eq_false (h 0 a (by omega) rfl)]
      exact ih (k := k) (by simpa using hk) (fun i q hi hq => h (i + 1) q (by omega) (by simpa using hq))
theorem param_none {l : List (List UInt8 × List UInt8)} {n : List UInt8} (h : ∀ (i : Nat) (q : List UInt8 × List UInt8), l[i]? = some q → ¬ q.1.map lowA = n.map lowA) : paramV l n = none := by
  unfold paramV
  rw [Option.map_eq_none_iff, List.find?_eq_none]
  intro q hq
  obtain ⟨i, hi, rfl⟩ := List.mem_iff_getElem.1 hq
  simpa using h i _ (List.getElem?_eq_getElem hi)
set_option maxRecDepth 100000 in
set_option maxHeartbeats 2000000 in
theorem rparam_any (v : Value) (l : List (List UInt8 × List UInt8)) (nm : ByteArray) (hn : nm.size ≤ 4000000) (hT : ∀ p ∈ l, p.1.length ≤ 4000000) (hl : l.length ≤ 4000000) (R : Option (List UInt8)) (hR : paramV l nm.data.toList = R) (w : World) (h : Hid (HasP w v l)) :
    Calls Tryz.prog 15 #[v, .string nm] w fun e w' => e = .returned (.tuple #[.string (strL (R.getD [])), .bool R.isSome]) ∧ Below w.heap.size w w' := by
  obtain ⟨a, c, rfl⟩ := h.out.form
  obtain ⟨n, hnn⟩ : ∃ n, l.length = n := ⟨_, rfl⟩
  rw [hnn] at h hl ⊢
  have HN := Lib.hid hnn
  have HT := Lib.hid (fun (k : Nat) (f : List UInt8 × List UInt8) (h : l[k]? = some f) => hT f (List.mem_of_getElem? h))
  have HR := Lib.hid hR
  have c2 := fun W => rsmall_any nm hn W
  obtain ⟨M, hM⟩ : ∃ M, nm.data.toList.map lowA = M := ⟨_, rfl⟩
  rw [hM] at c2
  have HM := Lib.hid hM
  clear hnn hT hR hn hM
  go_enter Tryz.func15, Tryz.ntmps15
  go_wp2_with fail
  go_loopw [6] (fun i wr => ∃ k : Nat, k ≤ n ∧ i = .int .i64 k ∧ Hid (Below w.heap.size w wr) ∧ Hid (∀ (i : Nat) (q : List UInt8 × List UInt8), i < k → l[i]? = some q → ¬ q.1.map lowA = M)) (fun i _ => n - (intOf i).toNat)
  case atStart => exact ⟨0, Nat.zero_le _, rfl, Below.refl _ _, fun i _ hi => absurd hi (Nat.not_lt_zero _)⟩
  case round =>
    obtain ⟨k, hk, rfl, HB, HF⟩ := hrel
    have F1 : IntKind.i64.wrap ((k : Int) + 1) = (k : Int) + 1 := by rw [IntKind.wrap_i64]; omega
    by_cases hlt : k < n
    · have hlt' : (k : Int) < (n : Int) := by omega
      obtain ⟨g, o, rfl, hfa⟩ := h.out.at (by omega)
      obtain ⟨p, hp⟩ : ∃ p, l[k]? = some p := ⟨_, List.getElem?_eq_getElem (by rw [HN.out]; exact hlt)⟩
      obtain ⟨p0, p1⟩ := hfa.step HB.out k p hp
      have c1 := fun W => rsmall_any (strL p.1) (by rw [strL_size]; exact HT.out k p hp) W
      rw [strL_list] at c1
      have heq := eq_strL (p.1.map lowA) M
      by_cases hm : p.1.map lowA = M
      · rw [decide_eq_true hm] at heq
        obtain rfl : some p.2 = R := by rw [← HR.out]; exact (param_hit hp (hm.trans HM.out.symm) (fun i q hi hq => HM.out ▸ HF.out i q hi hq)).symm
        have HV := Lib.hid (show strL ((some p.2).getD []) = strL p.2 from rfl)
        generalize strL (p.1.map lowA) = X1 at c1 heq
        generalize strL M = X2 at c2 heq
        generalize strL p.1 = X3 at p0 c1
        generalize strL p.2 = X4 at p1 HV
        clear hp hm HF HR hfa
        go_wp2_with (first
          | (go_at_call 39; (with_reducible refine (c1 _).mono ?_); rintro e w2 ⟨rfl, hb2⟩; have HB2 := Lib.hid (HB.out.trans (hb2.mono HB.out.size)); have p1b := cell_below p1 hb2; clear hb2 c1)
          | (go_at_call 39; (with_reducible refine (c2 _).mono ?_); rintro e w3 ⟨rfl, hb3⟩; have HB3 := Lib.hid (HB2.out.trans (hb3.mono HB2.out.size)); have p1c := cell_below p1b hb3; clear hb3 c2))
        go_ret2
        exact ⟨congrArg (fun z => Ending.returned (Value.tuple #[Value.string z, Value.bool true])) HV.out.symm, HB3.out⟩
      · rw [decide_eq_false hm] at heq
        have HF2 := Lib.hid (fun (i : Nat) (q : List UInt8 × List UInt8) (hi : i < k + 1) (hq : l[i]? = some q) => show ¬ q.1.map lowA = M by
          rcases (show i < k ∨ i = k by omega) with h | rfl
          · exact HF.out i q h hq
          · rw [hp] at hq; rw [← Option.some.inj hq]; exact hm)
        generalize strL (p.1.map lowA) = X1 at c1 heq
        generalize strL M = X2 at c2 heq
        generalize strL p.1 = X3 at p0 c1
        clear hp hm HF HR hfa
        go_wp2_with (first
          | (go_at_call 39; (with_reducible refine (c1 _).mono ?_); rintro e w2 ⟨rfl, hb2⟩; have HB2 := Lib.hid (HB.out.trans (hb2.mono HB.out.size)); clear hb2 c1)
          | (go_at_call 39; (with_reducible refine (c2 _).mono ?_); rintro e w3 ⟨rfl, hb3⟩; have HB3 := Lib.hid (HB2.out.trans (hb3.mono HB2.out.size)); clear hb3))
        go_roundw
        case rel => exact ⟨k + 1, by omega, by go_num, HB3, HF2⟩
        case measure => simp [intOf]; omega
    · obtain rfl : k = n := by omega
      have hlt' : ¬ (k : Int) < (k : Int) := by omega
      obtain rfl : none = R := by
        rw [← HR.out]
        exact (param_none (fun i q hq => HM.out ▸ HF.out i q (by have := (List.getElem?_eq_some_iff.1 hq).1; rw [HN.out] at this; exact this) hq)).symm
      clear HF HR
      go_wp2_with fail
      go_ret2
      exact ⟨rfl, HB.out⟩
end Go.Proofs.YtdinachiiimngaaGreatDoor
