/- Put: a field's name and its clean value, folded. -/
import Derived.Test.YtocghngmjipjoaaDoorCalm
import Derived.Test.YtocghngmjipjoaaDoorPieces
import Derived.Test.YtocghngmjipjoaaDoorRight
namespace Go.Proofs.YtocghngmjipjoaaDoor
open Go.ChangeShapes Go.WideShapes Go.ChangeAt Go.RowKit
open LinesP HdrP

/-! What has been written before piece k. -/
def bT (name : List UInt8) (P : List (List UInt8)) : Nat → List UInt8
  | 0 => name ++ [58, 32]
  | k + 1 => name ++ [58, 32] ++ P.headD [] ++ foldR (name.length + 2 + (P.headD []).length) (P.tail.take k)
def bN (name : List UInt8) (P : List (List UInt8)) : Nat → Nat
  | 0 => name.length + 2
  | k + 1 => foldN (name.length + 2 + (P.headD []).length) (P.tail.take k)
theorem b_first (name : List UInt8) (P : List (List UInt8)) (x : List UInt8) (h : P[0]? = some x) : bT name P 1 = bT name P 0 ++ x ∧ bN name P 1 = bN name P 0 + x.length := by
  cases P with
  | nil => simp at h
  | cons p r =>
    have : p = x := by simpa using h
    subst this
    simp [bT, bN, foldR, foldN]
theorem b_step (name : List UInt8) (P : List (List UInt8)) (k : Nat) (x : List UInt8) (hk : 0 < k) (h : P[k]? = some x) :
    bT name P (k + 1) = bT name P k ++ (if 78 < bN name P k + x.length then [13, 10] ++ x else x) ∧ bN name P (k + 1) = if 78 < bN name P k + x.length then x.length else bN name P k + x.length := by
  obtain ⟨j, rfl⟩ : ∃ j, k = j + 1 := ⟨k - 1, by omega⟩
  have ht : P.tail.take (j + 1) = P.tail.take j ++ [x] := by
    rw [List.take_add_one]
    cases P with
    | nil => simp at h
    | cons p r =>
      have : r[j]? = some x := by simpa using h
      rw [List.tail_cons, this]; rfl
  have hs := fold_snoc (name.length + 2 + (P.headD []).length) (P.tail.take j) x
  rw [← ht] at hs
  refine ⟨?_, hs.2⟩
  show name ++ [58, 32] ++ P.headD [] ++ foldR _ _ = name ++ [58, 32] ++ P.headD [] ++ foldR _ _ ++ _
  rw [hs.1, ← List.append_assoc]; rfl
theorem b_len (name : List UInt8) (P : List (List UInt8)) : ∀ k, k ≤ P.length → (bT name P k).length ≤ name.length + 2 + (P.take k).flatten.length + 2 * k ∧ bN name P k ≤ name.length + 2 + (P.take k).flatten.length := by
  intro k
  induction k with
  | zero => intro _; simp [bT, bN]
  | succ k ih =>
    intro hk
    obtain ⟨h1, h2⟩ := ih (by omega)
    obtain ⟨x, hx⟩ : ∃ x, P[k]? = some x := ⟨_, List.getElem?_eq_getElem (by omega)⟩
    have ht : (P.take (k + 1)).flatten.length = (P.take k).flatten.length + x.length := by
      rw [List.take_add_one, hx]; simp
    by_cases h0 : k = 0
    · subst h0
      obtain ⟨e1, e2⟩ := b_first name P x hx
      rw [e1, e2, ht, List.length_append]; omega
    · obtain ⟨e1, e2⟩ := b_step name P k x (by omega) hx
      rw [e1, e2, ht, List.length_append]
      refine ⟨?_, ?_⟩ <;> split <;> (try simp only [List.length_append, List.length_cons, List.length_nil]) <;> omega
theorem b_done {name : List UInt8} (hn : rightL name = true) (v : List UInt8) : bT name (piecesP (cleanL v)) (piecesP (cleanL v)).length ++ [13, 10] = putL name v := by
  unfold putL
  rw [if_pos hn]
  by_cases h : cleanL v = []
  · rw [h]; rfl
  · have hp : piecesP (cleanL v) = piecesL (cleanL v) := by unfold piecesP; rw [if_neg h]
    have hl : ∃ p r, piecesL (cleanL v) = p :: r := by
      cases hc : piecesL (cleanL v) with
      | nil =>
        have := pieces_flat (cleanL v)
        rw [hc] at this
        exact absurd this.symm h
      | cons p r => exact ⟨p, r, rfl⟩
    obtain ⟨p, r, e⟩ := hl
    rw [hp, e]
    show name ++ [58, 32] ++ p ++ foldR _ ((p :: r).tail.take r.length) ++ [13, 10] = _
    rw [List.tail_cons, List.take_length]; rfl
theorem p_flat (s : List UInt8) : (piecesP s).flatten = s := by
  unfold piecesP
  split
  · rename_i h; rw [h]; rfl
  · exact pieces_flat s
theorem clean_le (s : List UInt8) : (cleanL s).length ≤ s.length := by
  unfold cleanL trimL trimR
  rw [List.length_reverse]
  have h1 := (List.dropWhile_sublist (p := HdrP.blank) (l := ((s.map flat1).dropWhile HdrP.blank).reverse)).length_le
  have h2 := (List.dropWhile_sublist (p := HdrP.blank) (l := s.map flat1)).length_le
  rw [List.length_reverse] at h1
  rw [List.length_map] at h2
  omega
theorem pc_len (p : UInt8) (s : List UInt8) : (pc p s).2.length ≤ s.length := by
  induction s generalizing p with
  | nil => exact Nat.le_refl _
  | cons c r ih =>
    have := ih c
    unfold pc
    split
    · simp only [List.length_cons]; omega
    · simp only [List.length_cons]; omega
theorem p_len (s : List UInt8) : (piecesP s).length ≤ s.length + 1 := by
  unfold piecesP
  split
  · simp
  · cases s with
    | nil => simp [piecesL]
    | cons c r =>
      have := pc_len c r
      unfold piecesL
      simp only [List.length_cons]
      omega
theorem low_grown {w w' : World} (h : Below w.heap.size w w') : w.grownBy w' none := ⟨h.os, h.tape, h.output, h.size, fun k hk _ => h.block k hk⟩
theorem bd_low {w w' : World} {b : Nat} {l : List UInt8} (h : Bd w b l) (hb : Below w.heap.size w w') : Bd w' b l :=
  bd_calm (bx := 0) (C := 0) h (.inr ⟨none, low_grown hb, fun r e => by cases e⟩)
theorem own_others {w w' : World} {b : Nat} {v : Value} {xs : List (List UInt8)} (h : Own w v xs) (hk : Lib.OthersKept 5 (some b) w w') (hne : ∀ k, v.ownBlock = some k → k ≠ b) : Own w' v xs := by
  obtain ⟨base, ho⟩ := h
  refine ⟨base, ho.1, ?_⟩
  rcases ho.2 with h1 | ⟨g, cap, cur, rfl, hbg, hg, rest⟩
  · exact .inl h1
  · refine .inr ⟨g, cap, cur, rfl, hbg, ?_, rest⟩
    exact hk g _ hg (by have := hne g (by simp [Value.ownBlock]); simp; exact this) (fun c fz e => by cases e)
/-- What the loop over the pieces holds: the builder, the pieces, older memory. -/
structure Pu (w0 w : World) (b : Nat) (l : List UInt8) (v : Value) (P : List (List UInt8)) : Prop where
  bd : Bd w b l
  own : Own w v P
  far : ∀ k, v.ownBlock = some k → b < k
  bel : Below w0.heap.size w0 w
  new : w0.heap.size ≤ b
theorem Pu.wrote {w0 w w' : World} {b : Nat} {l l' : List UInt8} {v : Value} {P : List (List UInt8)} (h : Pu w0 w b l v P) (hb : Bd w' b l') (hl : Below b w w') (hk : Lib.OthersKept 5 (some b) w w') : Pu w0 w' b l' v P :=
  ⟨hb, own_others h.own hk (fun k e => by have := h.far k e; omega), h.far, h.bel.trans (hl.mono h.new), h.new⟩
theorem put_bad (name value : ByteArray) (w : World) (hn : rightL name.data.toList = false) :
    Calls Tryd.prog 22 #[.string name, .string value] w fun e w' => e = .returned (.string (strL (putL name.data.toList value.data.toList))) ∧ Below w.heap.size w w' := by
  have hr := right_any name w
  rw [hn] at hr
  unfold putL
  rw [if_neg (by rw [hn]; exact Bool.false_ne_true)]
  clear hn
  go_enter Tryd.func22, Tryd.ntmps22
  go_wp2_with (go_at_call 24; refine hr.mono ?_; rintro e w1 ⟨rfl, hb1⟩)
  go_ret
  exact ⟨rfl, hb1⟩
set_option maxRecDepth 100000 in
set_option maxHeartbeats 8000000 in
theorem put_good (name value : ByteArray) (hz1 : name.size ≤ 100000) (hz2 : value.size ≤ 100000) (w : World) (hv : Vars w) (hn : rightL name.data.toList = true) :
    Calls Tryd.prog 22 #[.string name, .string value] w fun e w' => e = .returned (.string (strL (putL name.data.toList value.data.toList))) ∧ Below w.heap.size w w' := by
  have hr := right_any name w
  rw [hn] at hr
  have hdone := b_done hn value.data.toList
  have hcl := clean_le value.data.toList
  rw [← size_list] at hcl
  have cC := fun w hv => clean_any value (by omega) w hv
  have cP := fun w => pieces_any (strL (cleanL value.data.toList)) (by rw [strL_size]; omega) w
  rw [strL_list] at cP
  have hpf := p_flat (cleanL value.data.toList)
  have hbl := b_len name.data.toList (piecesP (cleanL value.data.toList))
  have hb1 := b_first name.data.toList (piecesP (cleanL value.data.toList))
  have hb2 := b_step name.data.toList (piecesP (cleanL value.data.toList))
  have hb0 : bT name.data.toList (piecesP (cleanL value.data.toList)) 0 = name.data.toList ++ [58, 32] ∧ bN name.data.toList (piecesP (cleanL value.data.toList)) 0 = name.size + 2 := ⟨rfl, by rw [size_list]; rfl⟩
  have hpl : (piecesP (cleanL value.data.toList)).length ≤ 100001 := by have := p_len (cleanL value.data.toList); omega
  generalize piecesP (cleanL value.data.toList) = P at cP hdone hpf hbl hb1 hb2 hb0 hpl
  generalize strL (cleanL value.data.toList) = V at cC cP
  have hnz := size_list name
  rw [← hdone]
  have htl : ∀ k, (P.take k).flatten.length ≤ 100000 := fun k => by
    have : P.flatten.length = (P.take k).flatten.length + (P.drop k).flatten.length := by rw [← List.length_append, ← List.flatten_append, List.take_append_drop]
    rw [hpf] at this; omega
  have hxl : ∀ x ∈ P, x.length ≤ 100000 := fun x hx => by
    have h2 := List.append_of_mem hx
    obtain ⟨a, b, e⟩ := h2
    have h3 : x.length ≤ P.flatten.length := by rw [e]; simp; omega
    rw [hpf] at h3; omega
  have hbl2 : ∀ k, k ≤ P.length → (bT name.data.toList P k).length ≤ 500000 ∧ bN name.data.toList P k ≤ 300000 := fun k hk => by
    have h1 := hbl k hk
    have h2 := htl k
    rw [← hnz] at h1
    omega
  generalize bT name.data.toList P = T at hb1 hb2 hb0 hbl2 ⊢
  generalize bN name.data.toList P = M at hb1 hb2 hb0 hbl2
  have HB0 := Lib.hid hb0
  have HB1 := Lib.hid hb1
  have HB2 := Lib.hid hb2
  have HBL := Lib.hid hbl2
  have HXL := Lib.hid hxl
  have HNZ := Lib.hid hnz
  clear hnz
  clear hb0 hb1 hb2 hbl2 hbl htl hpf hdone hn hcl hxl
  obtain ⟨m, hm⟩ : ∃ m, P.length = m := ⟨_, rfl⟩
  rw [hm] at cP hpl ⊢
  have HM := Lib.hid hm
  clear hm
  go_enter Tryd.func22, Tryd.ntmps22
  go_wp2_with (first
    | (go_at_call 24; (with_reducible refine hr.mono ?_); rintro e w1 ⟨rfl, hb1⟩; clear hr; have hbd := bd_new w1; have hbw := (hb1.alloc hb1.size (.cells #[.pointer none, .slice none 0 0] 55)); have hW1 := bd_str name _ _ _ hbd (by simp; omega); clear hbd)
    | (go_at_call 39; (with_reducible refine hW1.mono ?_); rintro e w2 ⟨rfl, hbd2, hb2, hk2⟩; clear hW1 hk2; have hbw2 := hbw.trans (hb2.mono hb1.size); have hW2 := bd_str ⟨#[58, 32]⟩ _ _ w2 hbd2 (by rw [List.nil_append, ← HNZ.out]; show _ + 2 ≤ _; omega); clear hbd2)
    | (go_at_call 39; (with_reducible refine hW2.mono ?_); rintro e w3 ⟨rfl, hbd3, hb3, hk3⟩; clear hW2 hk3; have hbw3 := hbw2.trans (hb3.mono hb1.size); have cC' := cC w3 (hv.keep hbw3); clear cC)
    | (go_at_call 44; (with_reducible refine cC'.mono ?_); rintro e w4 ⟨rfl, hb4⟩; clear cC'; have hbd4 := bd_low hbd3 hb4; have hbw4 := hbw3.trans (hb4.mono hbw3.size); have cP' := cP w4; clear cP)
    | (go_at_call 43; (with_reducible refine cP'.mono ?_); rintro e w5 ⟨pa, pc, rfl, ho, hb5⟩; clear cP'))
  have hfar : ∀ k, (Value.slice pa m pc).ownBlock = some k → w1.heap.size < k := fun k e => by
    have h1 := (ho.lt k e).1
    have h2 := bd_lt hbd4
    omega
  have hst : Pu w w5 w1.heap.size (T 0) (.slice pa m pc) P := ⟨by rw [HB0.out.1]; exact bd_low hbd4 hb5, ⟨_, by rw [HM.out]; exact ho⟩, hfar, hbw4.trans (hb5.mono hbw4.size), hb1.size⟩
  have HST := Lib.hid hst
  clear hst hfar hbd3 hbd4 hbw hbw2 hbw3 hbw4 hb2 hb3 hb4 hb5 ho
  go_loopw [6, 22] (fun len i wr => ∃ k : Nat, k ≤ m ∧ i = .int .i64 k ∧ len = .int .i64 (M k) ∧ Hid (Pu w wr w1.heap.size (T k) (.slice pa m pc) P)) (fun _ i _ => m - (intOf i).toNat)
  case atStart => exact ⟨0, Nat.zero_le _, rfl, by rw [HB0.out.2]; simp, HST⟩
  case round =>
    obtain ⟨k, hk, rfl, rfl, hst⟩ := hrel
    have hkb := HBL.out k (by rw [HM.out]; exact hk)
    have F1 : IntKind.i64.wrap ((k : Int) + 1) = (k : Int) + 1 := by rw [IntKind.wrap_i64]; omega
    by_cases hlt : k < m
    · have hlt' : (k : Int) < (m : Int) := by omega
      obtain ⟨g, rfl⟩ := hst.out.own.at (by omega)
      obtain ⟨x, hx⟩ : ∃ x, P[k]? = some x := ⟨_, List.getElem?_eq_getElem (by rw [HM.out]; exact hlt)⟩
      have hxl := HXL.out x (List.mem_of_getElem? hx)
      have kc := hst.out.own.cell k x hx
      have sA : (strL x).size = x.length := strL_size x
      have lA : (strL x).data.toList = x := rfl
      generalize strL x = A at kc sA lA
      have F2 : IntKind.i64.wrap ((M k : Int) + (A.size : Int)) = (M k : Int) + (A.size : Int) := by rw [IntKind.wrap_i64]; omega
      have F3 : IntKind.i64.wrap (A.size : Int) = (A.size : Int) := by rw [IntKind.wrap_i64]; omega
      by_cases h0 : k = 0
      · subst h0
        obtain ⟨e1, e2⟩ := HB1.out x hx
        have hW := bd_str A _ _ _ hst.out.bd (by omega)
        rw [lA, ← e1] at hW
        have E2 : Hid ((M 1 : Int) = (M 0 : Int) + (A.size : Int)) := by show _ = _; rw [e2]; omega
        clear hx e1 e2 lA sA
        go_wp2_with (go_at_call 39; (with_reducible refine hW.mono ?_); rintro e w6 ⟨rfl, hbd6, hb6, hk6⟩; have HST2 := Lib.hid (hst.out.wrote hbd6 hb6 hk6); clear hbd6 hb6 hk6 hW)
        go_roundw
        case rel => exact ⟨1, by omega, by go_num, by rw [E2.out], HST2⟩
        case measure => simp [intOf]; omega
      · have h0' : (0 : Int) < (k : Int) := by omega
        obtain ⟨e1, e2⟩ := HB2.out k x (by omega) hx
        by_cases h78 : 78 < M k + x.length
        · rw [if_pos h78] at e1 e2
          have h78' : (78 : Int) < (M k : Int) + (A.size : Int) := by omega
          have hW := bd_str ⟨#[13, 10]⟩ _ _ _ hst.out.bd (by show _ + 2 ≤ _; omega)
          have hlen : (T k ++ (⟨#[13, 10]⟩ : ByteArray).data.toList).length + A.size ≤ 140737488355328 := by rw [List.length_append]; show _ + 2 + _ ≤ _; omega
          have hW2 := fun w h => bd_str A w1.heap.size (T k ++ (⟨#[13, 10]⟩ : ByteArray).data.toList) w h hlen
          have E1 : T k ++ (⟨#[13, 10]⟩ : ByteArray).data.toList ++ A.data.toList = T (k + 1) := by rw [e1, lA, List.append_assoc]
          rw [E1] at hW2
          have E2 : Hid ((M (k + 1) : Int) = (A.size : Int)) := by show _ = _; rw [e2, sA]
          clear hx e1 e2 lA sA E1 hlen h78
          go_wp2_with (first
            | (go_at_call 39; (with_reducible refine hW.mono ?_); rintro e w6 ⟨rfl, hbd6, hb6, hk6⟩; have HST2 := Lib.hid (hst.out.wrote hbd6 hb6 hk6); clear hb6 hk6 hW; have hW2' := hW2 w6 hbd6; clear hW2 hbd6)
            | (go_at_call 39; (with_reducible refine hW2'.mono ?_); rintro e w7 ⟨rfl, hbd7, hb7, hk7⟩; have HST3 := Lib.hid (HST2.out.wrote hbd7 hb7 hk7); clear hbd7 hb7 hk7 hW2'))
          go_roundw
          case rel => exact ⟨k + 1, by omega, by go_num, by rw [E2.out], HST3⟩
          case measure => simp [intOf]; omega
        · rw [if_neg h78] at e1 e2
          have h78' : ¬ (78 : Int) < (M k : Int) + (A.size : Int) := by omega
          have hW := bd_str A _ _ _ hst.out.bd (by omega)
          rw [lA, ← e1] at hW
          have E2 : Hid ((M (k + 1) : Int) = (M k : Int) + (A.size : Int)) := by show _ = _; rw [e2, sA]; omega
          clear hx e1 e2 lA sA h78
          go_wp2_with (go_at_call 39; (with_reducible refine hW.mono ?_); rintro e w6 ⟨rfl, hbd6, hb6, hk6⟩; have HST2 := Lib.hid (hst.out.wrote hbd6 hb6 hk6); clear hbd6 hb6 hk6 hW)
          go_roundw
          case rel => exact ⟨k + 1, by omega, by go_num, by rw [E2.out], HST2⟩
          case measure => simp [intOf]; omega
    · obtain rfl : k = m := by omega
      have hlt' : ¬ (k : Int) < (k : Int) := by omega
      have hW := bd_str ⟨#[13, 10]⟩ _ _ _ hst.out.bd (by show _ + 2 ≤ _; omega)
      go_wp2_with (first
        | (go_at_call 39; (with_reducible refine hW.mono ?_); rintro e w6 ⟨rfl, hbd6, hb6, hk6⟩; have HST2 := Lib.hid (hst.out.wrote hbd6 hb6 hk6); clear hb6 hk6 hW; have hO := bd_out _ _ _ hbd6)
        | (go_at_call 40; (with_reducible refine hO.mono ?_); rintro e w7 ⟨rfl, hb7, hk7⟩))
      go_ret
      exact ⟨rfl, HST2.out.bel.trans (hb7.mono HST2.out.new)⟩
end Go.Proofs.YtocghngmjipjoaaDoor
