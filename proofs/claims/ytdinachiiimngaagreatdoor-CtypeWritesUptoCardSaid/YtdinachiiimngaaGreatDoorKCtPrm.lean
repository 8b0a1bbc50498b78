/- The program's params, first loop: names in their order, parts under their places. -/
import Derived.Test.YtdinachiiimngaaGreatDoorKCtPrt
import Derived.Test.YtdinachiiimngaaGreatDoorK5
import Derived.Test.YtdinachiiimngaaGreatDoorK8
import Derived.Test.YtdinachiiimngaaGreatDoorK10
namespace Go.Proofs.YtdinachiiimngaaGreatDoor
open Go.ChangeShapes Go.WideShapes Go.ChangeAt Go.RowKit
open TokP AdrP CtP

/-- The slice v reads as rows. -/
def RwsAt (w : World) (v : Value) (P : List (List TokP.Tok)) : Prop := ((∃ a c, v = .slice a 0 c) ∧ P = []) ∨ ∃ g o c, v = .slice (some ⟨g, o, none⟩) P.length c ∧ ∀ (i : Nat) (x : List TokP.Tok), P[i]? = some x → ∃ u, w.cell? ⟨g, o + i, none⟩ = some u ∧ HasT w u x
theorem RwsAt.step {w w' : World} {v : Value} {P : List (List TokP.Tok)} (h : RwsAt w v P) (hb : Below w.heap.size w w') : RwsAt w' v P := by
  rcases h with h | ⟨g, o, c, e, h⟩
  · exact .inl h
  · refine .inr ⟨g, o, c, e, fun i x hx => ?_⟩
    obtain ⟨u, hu, ht⟩ := h i x hx
    exact ⟨u, cell_below hu hb, ht.step hb⟩
theorem RwsAt.form {w : World} {v : Value} {P : List (List TokP.Tok)} (h : RwsAt w v P) : ∃ a c, v = .slice a P.length c := by
  rcases h with ⟨⟨a, c, rfl⟩, rfl⟩ | ⟨g, o, c, rfl, _⟩
  · exact ⟨a, c, rfl⟩
  · exact ⟨_, _, rfl⟩
theorem RwsAt.at {w : World} {a : Option Addr} {n c : Nat} {P : List (List TokP.Tok)} (h : RwsAt w (.slice a n c) P) (hn : 0 < n) : ∃ g o, a = some ⟨g, o, none⟩ ∧ ∀ (i : Nat) (x : List TokP.Tok), P[i]? = some x → ∃ u, w.cell? ⟨g, o + i, none⟩ = some u ∧ HasT w u x := by
  rcases h with ⟨⟨a', c', e⟩, _⟩ | ⟨g, o, c', e, h⟩
  · injection e with _ e _; omega
  · injection e with e _ _; exact ⟨g, o, e, h⟩
/-- The state of the first loop: both maps, and the names in a row of their own. -/
structure Pst (w W : World) (v : Value) (ns1 ns2 : List (List UInt8)) (E : List Ent) : Prop where
  bel : Below w.heap.size w W
  sz : w.heap.size + 2 ≤ W.heap.size
  mn : MpN W w.heap.size ns1
  mp : MpP W (w.heap.size + 1) E
  own : W.ownsRow (w.heap.size + 2) 9 1 v ns2.length (ns2.map strV)
theorem Pst.step {w W W' : World} {v : Value} {ns1 ns2 : List (List UInt8)} {E : List Ent} (h : Pst w W v ns1 ns2 E) (hb : Below W.heap.size W W') : Pst w W' v ns1 ns2 E :=
  ⟨h.bel.trans (hb.mono h.bel.size), Nat.le_trans h.sz hb.size, h.mn.step hb, h.mp.step hb, own_below h.own hb⟩
theorem own_keepB {w w' : World} {base : Nat} {e : TypeId} {size : Nat} {v : Value} {n : Nat} {xs : List Value} (h : w.ownsRow base e size v n xs) (_ : w.heap.size = w'.heap.size) (hk : ∀ g, base ≤ g → w'.heap[g]? = w.heap[g]?) : w'.ownsRow base e size v n xs := by
  refine ⟨h.1, ?_⟩
  rcases h.2 with h1 | ⟨g, cap, cur, rfl, hbg, hg, rest⟩
  · exact .inl h1
  · refine .inr ⟨g, cap, cur, rfl, hbg, ?_, rest⟩
    rw [hk g hbg]; exact hg
/-- A name is stored into the map of names. -/
theorem Pst.name {w W W' : World} {v : Value} {ns1 ns1' ns2 : List (List UInt8)} {E : List Ent} (h : Pst w W v ns1 ns2 E) (h1 : MpN W' w.heap.size ns1') (h2 : Below w.heap.size W W') (h3 : ∀ k, k ≠ w.heap.size → W'.heap[k]? = W.heap[k]?) (h4 : W'.heap.size = W.heap.size) : Pst w W' v ns1' ns2 E :=
  ⟨h.bel.trans h2, by rw [h4]; exact h.sz, h1, h.mp.keep (h3 _ (by omega)), own_keepB h.own h4.symm (fun g hg => h3 g (by omega))⟩
/-- A part is stored into the map of parts. -/
theorem Pst.part {w W W' : World} {v : Value} {ns1 ns2 : List (List UInt8)} {E E' : List Ent} (h : Pst w W v ns1 ns2 E) (h1 : MpP W' (w.heap.size + 1) E') (h3 : ∀ k, k ≠ w.heap.size + 1 → W'.heap[k]? = W.heap[k]?) (h2 : Below (w.heap.size + 1) W W') (h4 : W'.heap.size = W.heap.size) : Pst w W' v ns1 ns2 E' :=
  ⟨h.bel.trans (h2.mono (by omega)), by rw [h4]; exact h.sz, h.mn.keep (h3 _ (by omega)), h1, own_keepB h.own h4.symm (fun g hg => h3 g (by omega))⟩
theorem wpList_nm {ops : Array Oper} {rest : List Oper} {o : Oper} {a : Act} {w W : World} {Q : Exit → Act → World → Prop} (hgd : o.guard = none) (s x : Operand)
    (ho : o.op = .call { callee := .builtin .append, args := #[s, x], argTypes := #[80, 80] }) {v : Value} {ns1 ns2 : List (List UInt8)} {E : List Ent} {m : Nat} (n : List UInt8) (S : ByteArray) (hS : strL n = S) (hs : a.eval s = v) (hx : a.eval x = .slice (some ⟨W.heap.size, 0, none⟩) 1 1)
    (hst : Pst w W v ns1 ns2 E) (hn : ns2.length = m) (hl : m ≤ 4000000)
    (h : ∀ a' c' w', Pst w w' (.slice a' (m + 1) c') ns1 (ns2 ++ [n]) E → (∀ g, g < W.heap.size → v.ownBlock ≠ some g → w'.heap[g]? = W.heap[g]?) → W.heap.size ≤ w'.heap.size → wpList Tryz.prog ops Q rest (a.put o.dst (.slice a' (m + 1) c')) w') :
    wpList Tryz.prog ops Q (o :: rest) a (W.alloc (.cells #[.string S] 9)) := by
  obtain ⟨i0, hi, hz0, hz1, hz2⟩ := info_parts info9
  subst hn hS
  refine wpList_append_own_at _ hgd s x 80 ho (w.heap.size + 2) 9 i0 (.string ⟨#[]⟩) 1 16 Tryz.underlying80 hi hz0 hz1 hz2 rfl (by decide) v ns2.length (ns2.map strV) hs (World.ownsRow.alloc hst.own _) ⟨W.heap.size, 0, none⟩ 1 1 [strV n] hx rfl (cell_one_new _ _ _) (fun u hu => by rw [List.mem_singleton.1 hu]; rfl) (by unfold maxLen; omega) (by omega) (by rw [World.size_alloc]; have := hst.sz; omega) ?_
  intro v' w' e1 e2 _ e4
  rw [← List.length_singleton (a := n), ← List.length_append] at e1
  have e1' : w'.ownsRow (w.heap.size + 2) 9 1 v' (ns2 ++ [n]).length ((ns2 ++ [n]).map strV) := by rw [List.map_append]; exact e1
  obtain ⟨a', c', rfl⟩ : ∃ a' c', v' = .slice a' (ns2.length + 1) c' := by
    rcases e1.2 with ⟨rfl, h0⟩ | ⟨g, cap, cur, rfl, _⟩
    · simp at h0
    · exact ⟨_, _, by rw [List.length_append]; rfl⟩
  have hb2 : Below (w.heap.size + 2) W w' := ((Below.refl _ W).alloc hst.sz _).trans (grown_below e2 (fun k e => (hst.own.lt k e).1) (by rw [World.size_alloc]; have := hst.sz; omega))
  refine h a' c' w' ⟨hst.bel.trans (hb2.mono (by omega)), Nat.le_trans hst.sz hb2.size, hst.mn.keep (hb2.block _ (by omega)), hst.mp.keep (hb2.block _ (by omega)), e1'⟩ (fun g hg hne => ?_) hb2.size
  rw [e2.block g (by rw [World.size_alloc]; omega) (fun e => hne e.symm), Below.heap_alloc _ _ _ hg]
theorem told_val (num : List UInt8 → Option Nat) (n v : List UInt8) : toldP num n v = { toldP num n [] with value := v } := by
  unfold toldP
  split <;> simp only []
  · split <;> (try split) <;> rfl
  · split <;> (try split) <;> rfl
theorem told_name_len (num : List UInt8 → Option Nat) (n v : List UInt8) : (toldP num n v).name.length ≤ n.length := by
  have key : ∀ m : List UInt8, m.length ≤ n.length → (if 42 ∈ m then (match num (upC 42 m.reverse).reverse with
      | some k => ⟨m.take (m.length - (upC 42 m.reverse).reverse.length - 1), some k, wideB n, v⟩
      | none => ⟨m, none, wideB n, v⟩ : Par) else ⟨m, none, wideB n, v⟩).name.length ≤ n.length := fun m hm => by
    split
    · split
      · simp only []
        rw [List.length_take]
        omega
      · exact hm
    · exact hm
  exact key _ (by split; (rw [List.length_dropLast]; omega); exact Nat.le_refl _)
theorem namesL_snoc (l : List Par) (p : Par) : namesL (l ++ [p]) = putN (namesL l) p := by unfold namesL; rw [List.foldl_append]; rfl
theorem entsL_snoc (l : List Par) (p : Par) : entsL (l ++ [p]) = putE (entsL l) p := by unfold entsL; rw [List.foldl_append]; rfl
def allK (rows : List (List TokP.Tok)) (k : Nat) : List Par := (rows.take k).filterMap (pairP numF [])
theorem allK_some {rows : List (List TokP.Tok)} {k : Nat} {x : List TokP.Tok} {p : Par} (h : rows[k]? = some x) (hp : pairP numF [] x = some p) : allK rows (k + 1) = allK rows k ++ [p] := by
  unfold allK
  rw [List.take_add_one, h, Option.toList_some, List.filterMap_append]
  congr 1
  simp [hp]
theorem allK_none {rows : List (List TokP.Tok)} {k : Nat} {x : List TokP.Tok} (h : rows[k]? = some x) (hp : pairP numF [] x = none) : allK rows (k + 1) = allK rows k := by
  unfold allK
  rw [List.take_add_one, h, Option.toList_some, List.filterMap_append]
  simp [hp]
theorem str_cell {w : World} {B : Nat} {a : Option Addr} {m c : Nat} {xs : List (List UInt8)} (h : w.ownsRow B 9 1 (.slice a m c) xs.length (xs.map strV)) (hm : 0 < m) {j : Nat} {x : List UInt8} (hx : xs[j]? = some x) : ∃ g, a = some ⟨g, 0, none⟩ ∧ w.cell? ⟨g, j, none⟩ = some (.string (strL x)) := by
  rcases h.2 with ⟨e, h0⟩ | ⟨g, cap, cur, e, _⟩
  · injection e with _ e2 _; omega
  · have e' := e
    injection e with e1 _ _
    subst e1
    have := h.cells (g := g) rfl j (strV x) (by rw [List.getElem?_map, hx]; rfl)
    rw [add_none, Nat.zero_add] at this
    exact ⟨g, rfl, this⟩
theorem outL_step (rep : List UInt8 → List UInt8) (dec : List UInt8 → List UInt8 → List UInt8) (E : List Ent) {N : List (List UInt8)} {j : Nat} {n : List UInt8} (h : N[j]? = some n) : outL rep dec E (N.take (j + 1)) = outL rep dec E (N.take j) ++ (if partsL (getE E n) = [] then [] else [(n, joinedL rep dec (partsL (getE E n)))]) := by
  unfold outL
  rw [List.take_add_one, h, Option.toList_some, List.flatMap_append, List.flatMap_singleton]
theorem box_two {W : World} {g : Nat} {u v : Value} {t : TypeId} (h : W.heap[g]? = some (.cells #[u, v] t (0, 0))) : W.cell? ⟨g, 0, none⟩ = some u ∧ W.cell? ⟨g, 1, none⟩ = some v := ⟨by rw [Lib.cell_of_heap h]; rfl, by rw [Lib.cell_of_heap h]; rfl⟩
theorem asg_le : ∀ (l : List TokP.Tok) (pre : List UInt8) (r : List UInt8 × List UInt8), asgP pre l = some r → r.1.length ≤ pre.length + (joinL l).length
  | [], _, r, h => absurd h (by simp [asgP])
  | t :: l, pre, r, h => by
    rw [asgP] at h
    rw [join_cons, List.length_append]
    split at h
    · split at h
      · exact absurd h (by simp)
      · have := Option.some.inj h
        rw [← this]
        have h2 : (upC 61 t.text).length ≤ t.text.length := (List.takeWhile_prefix _).length_le
        rw [List.length_map, List.length_append]
        omega
    · have := asg_le l _ r h
      rw [List.length_append] at this
      omega
theorem asg_name_le {x : List TokP.Tok} {nm val : List UInt8} (h : asgP [] x = some (nm, val)) {b : Nat} (hb : (joinL x).length ≤ b) : nm.length ≤ b := by
  have := asg_le x [] (nm, val) h
  simp only [List.length_nil] at this
  omega
set_option maxRecDepth 100000 in
set_option maxHeartbeats 16000000 in
theorem params_any (v : Value) (rows : List (List TokP.Tok)) (hn : rows.length ≤ 4000000) (hr : ∀ x ∈ rows, x.length ≤ 4000000) (hz : szR rows ≤ 4000000) (w : World) (h : Hid (RwsAt w v rows)) (hv : Vr w) :
    Calls Tryz.prog 34 #[v] w fun e w' => ∃ a c, e = .returned (.slice a (listP repF decF numF rows).length c) ∧ OwnP w' (.slice a (listP repF decF numF rows).length c) (listP repF decF numF rows) ∧ Below w.heap.size w w' := by
  obtain ⟨va, vc, rfl⟩ := h.out.form
  obtain ⟨n, hnn⟩ : ∃ n, rows.length = n := ⟨_, rfl⟩
  rw [hnn] at h hn ⊢
  have HN := Lib.hid hnn
  have HV := Lib.hid hv
  have HR := Lib.hid hr
  have HZ := Lib.hid hz
  have hmm := @run_makeMap Tryz.prog
  have P0 := Lib.hid (show Pst w ((w.alloc (.map #[] 0)).alloc (.map #[] 0)) (.slice none 0 0) (namesL (allK rows 0)) (namesL (allK rows 0)) (entsL (allK rows 0)) from
    ⟨((Below.refl _ w).alloc (Nat.le_refl _) _).alloc (by rw [World.size_alloc]; omega) _, by rw [World.size_alloc, World.size_alloc]; omega, (mpN_new w).step ((Below.refl _ _).alloc (Nat.le_refl _) _), by
      have := mpP_new (w.alloc (.map #[] 0))
      rw [World.size_alloc] at this
      exact this, World.ownsRow_nil _ _ _ _⟩)
  obtain ⟨W0, hW0⟩ : ∃ W0, (w.alloc (.map #[] 0)).alloc (.map #[] 0) = W0 := ⟨_, rfl⟩
  rw [hW0] at P0
  have HW0 := Lib.hid hW0
  clear hnn hr hz hv hW0
  go_enter Tryz.func34, Tryz.ntmps34
  go_wp2_with fail
  rw [HW0.out]
  clear hmm
  go_loopw [3, 23] (fun nv i wr => ∃ (k m : Nat), k ≤ n ∧ i = .int .i64 k ∧ m ≤ k ∧ (∃ a c, nv = .slice a m c) ∧ Hid ((namesL (allK rows k)).length = m) ∧ Hid (Pst w wr nv (namesL (allK rows k)) (namesL (allK rows k)) (entsL (allK rows k)))) (fun _ i _ => n - (intOf i).toNat)
  case atStart => exact ⟨0, 0, Nat.zero_le _, rfl, Nat.le_refl _, ⟨none, 0, rfl⟩, Lib.hid rfl, P0⟩
  case round =>
    obtain ⟨k, m, hk, rfl, hmk, ⟨na, nc, rfl⟩, HM, PS⟩ := hrel
    clear P0
    have F1 : IntKind.i64.wrap ((k : Int) + 1) = (k : Int) + 1 := by rw [IntKind.wrap_i64]; omega
    have hm6 : m ≤ 4000000 := by omega
    by_cases hlt : k < n
    · have hlt' : (k : Int) < (n : Int) := by omega
      obtain ⟨g, o, rfl, hrows⟩ := h.out.at (by omega)
      obtain ⟨x, hx⟩ : ∃ x, rows[k]? = some x := ⟨_, List.getElem?_eq_getElem (by rw [HN.out]; exact hlt)⟩
      obtain ⟨u, hu0, hT0⟩ := hrows k x hx
      have hu := cell_below hu0 PS.out.bel
      obtain ⟨ua, uc, rfl, hcap, hF0⟩ := id hT0
      have HT := Lib.hid (hT0.step PS.out.bel)
      have hxm := List.mem_of_getElem? hx
      have hxl := HR.out x hxm
      have hxj := Nat.le_trans (row_le hxm) HZ.out
      cases ha : asgP [] x with
      | none =>
        have hp : pairP numF [] x = none := by rw [pair_asg, ha]; rfl
        have HA1 := Lib.hid (allK_none hx hp)
        have cA := fun W (hT : Hid (HasT W (.slice ua x.length uc) x)) => asg_any hxl hxj none ha W hT.out
        simp only [Option.getD_none, Option.isSome_none] at cA
        generalize x.length = xl at cA hu HT
        clear hx hu0 hT0 hcap hF0 hxm hxl hxj hp ha hrows HR
        go_wp2_with (go_at_call 68; (with_reducible refine (cA _ HT).mono ?_); rintro e w2 ⟨rfl, hb2⟩; have PS2 := Lib.hid (PS.out.step hb2); clear hb2 cA)
        go_roundw
        case rel => exact ⟨k + 1, m, by omega, by go_num, by omega, ⟨_, _, rfl⟩, by rw [HA1.out]; exact HM, by rw [HA1.out]; exact PS2⟩
        case measure => simp [intOf]; omega
      | some nv =>
        obtain ⟨nm, val⟩ := nv
        have hp : pairP numF [] x = some (toldP numF nm val) := by rw [pair_asg, ha]; rfl
        have hall := allK_some hx hp
        have cA := fun W (hT : Hid (HasT W (.slice ua x.length uc) x)) => asg_any hxl hxj (some (nm, val)) ha W hT.out
        simp only [Option.getD_some, Option.isSome_some] at cA
        have hnl : nm.length ≤ 4000000 := asg_name_le ha (by omega)
        have cB := fun W (hv : Hid (Nu.Vars W)) => placed_any (strL nm) (by rw [strL_size]; exact hnl) W hv.out
        rw [strL_list] at cB
        have htv := told_val numF nm val
        generalize toldP numF nm [] = q at cB htv
        unfold plcV at cB
        rw [htv] at hall hp
        generalize strL nm = nmS at cA cB
        have HVAL : Hid (strL val = strL val) := Lib.hid rfl
        generalize x.length = xl at cA hu HT
        have hname : ({ q with value := val } : Par).name = q.name := rfl
        have hplc : plcZ ({ q with value := val } : Par) = plcZ q := rfl
        obtain ⟨A, hA⟩ : ∃ A, allK rows k = A := ⟨_, rfl⟩
        rw [hA] at HM PS hall
        have HAE := Lib.hid hA
        have hN1 := namesL_snoc A ({ q with value := val } : Par)
        have hE1 := entsL_snoc A ({ q with value := val } : Par)
        rw [← hall] at hN1 hE1
        unfold putN at hN1
        unfold putE at hE1
        rw [hname] at hN1 hE1
        rw [hplc] at hE1
        clear hx hu0 hT0 hcap hF0 hxm hxl hxj hp ha hrows HR hnl htv hA hall
        by_cases hin : q.name ∈ namesL A
        · rw [if_pos hin] at hN1
          have HA1 := Lib.hid hN1
          have HMN := HM
          cases hge : getE (entsL A) q.name (plcZ q) with
          | some pt =>
            rw [hge, if_pos (show (some pt).isSome = true from rfl)] at hE1
            have HA2 := Lib.hid hE1
            clear hN1 hE1
            go_wp2_with (first
              | (go_at_call 68; (with_reducible refine (cA _ HT).mono ?_); rintro e w2 ⟨rfl, hb2⟩; have PS2 := Lib.hid (PS.out.step hb2); have HV2 := Lib.hid (HV.out.below PS2.out.bel).num; clear hb2 cA)
              | (go_at_call 69; (with_reducible refine (cB _ HV2).mono ?_); rintro e w3 ⟨rfl, hb3⟩; have PS3 := Lib.hid (PS2.out.step hb3); have PS4 := Lib.hid (PS3.out.step ((Below.refl _ w3).alloc (Nat.le_refl _) (.cells #[.string (strL q.name), .int .i64 (plcZ q)] 94))); have HBX := Lib.hid (World.alloc_heap_new w3 (.cells #[.string (strL q.name), .int .i64 (plcZ q)] 94)); have HOW := Lib.hid (fun g (e : Value.ownBlock (.slice na m nc) = some g) => (PS3.out.own.lt g e).2); have hL1 := look_name PS4.out.mn q.name; rw [decide_eq_true hin] at hL1; have hL2 := look_part PS4.out.mp q.name (plcZ q); rw [hge] at hL2; obtain ⟨hj0, hj1⟩ := box_two HBX.out; have hlt := (Array.getElem?_eq_some_iff.1 HBX.out).1; have PS7 := Lib.hid (PS4.out.step ((Below.refl _ ((w3.alloc (.cells #[.string (strL q.name), .int .i64 (plcZ q)] 94)))).alloc (Nat.le_refl _) (.cells #[.string (strL pt.1), .bool pt.2] 98))); have HB7 := Lib.hid ((Below.heap_alloc ((w3.alloc (.cells #[.string (strL q.name), .int .i64 (plcZ q)] 94))) (.cells #[.string (strL pt.1), .bool pt.2] 98) _ hlt).trans HBX.out); obtain ⟨hj2, hj3⟩ := box_two HB7.out; unfold keyV partA at hL2; simp only [Option.isSome_some] at hL2; clear hlt; clear hb3 cB))
            go_roundw
            case rel => exact ⟨k + 1, m, by omega, by go_num, by omega, ⟨_, _, rfl⟩, by rw [HA1.out]; exact HMN, by rw [HA1.out, HA2.out]; exact PS7⟩
            case measure => simp [intOf]; omega
          | none =>
            rw [hge, if_neg (by simp)] at hE1
            have HA2 := Lib.hid hE1
            clear hN1 hE1
            go_wp2_with (first
              | (go_at_call 68; (with_reducible refine (cA _ HT).mono ?_); rintro e w2 ⟨rfl, hb2⟩; have PS2 := Lib.hid (PS.out.step hb2); have HV2 := Lib.hid (HV.out.below PS2.out.bel).num; clear hb2 cA)
              | (go_at_call 69; (with_reducible refine (cB _ HV2).mono ?_); rintro e w3 ⟨rfl, hb3⟩; have PS3 := Lib.hid (PS2.out.step hb3); have PS4 := Lib.hid (PS3.out.step ((Below.refl _ w3).alloc (Nat.le_refl _) (.cells #[.string (strL q.name), .int .i64 (plcZ q)] 94))); have HBX := Lib.hid (World.alloc_heap_new w3 (.cells #[.string (strL q.name), .int .i64 (plcZ q)] 94)); have HOW := Lib.hid (fun g (e : Value.ownBlock (.slice na m nc) = some g) => (PS3.out.own.lt g e).2); have hL1 := look_name PS4.out.mn q.name; rw [decide_eq_true hin] at hL1; have hL2 := look_part PS4.out.mp q.name (plcZ q); rw [hge] at hL2; obtain ⟨hj0, hj1⟩ := box_two HBX.out; have hlt := (Array.getElem?_eq_some_iff.1 HBX.out).1; have PS7 := Lib.hid (PS4.out.step ((Below.refl _ ((w3.alloc (.cells #[.string (strL q.name), .int .i64 (plcZ q)] 94)))).alloc (Nat.le_refl _) (.cells #[.string ⟨#[]⟩, .bool false] 98))); have HB7 := Lib.hid ((Below.heap_alloc ((w3.alloc (.cells #[.string (strL q.name), .int .i64 (plcZ q)] 94))) (.cells #[.string ⟨#[]⟩, .bool false] 98) _ hlt).trans HBX.out); obtain ⟨hj2, hj3⟩ := box_two HB7.out; unfold keyV partA at hL2; simp only [Option.isSome_none] at hL2; clear hlt; clear hb3 cB)
              | (at_mapUpdate; refine wpList_part rfl _ _ _ rfl (w.heap.size + 1) (entsL A) PS7.out.mp ((q.name, plcZ q), (val, q.wide)) hge rfl rfl rfl ?_; intro w8 m8 k8 b8 z8; have PS8 := Lib.hid (PS7.out.part m8 k8 b8 z8); clear m8 k8 b8 z8))
            go_roundw
            case rel => exact ⟨k + 1, m, by omega, by go_num, by omega, ⟨_, _, rfl⟩, by rw [HA1.out]; exact HMN, by rw [HA1.out, HA2.out]; exact PS8⟩
            case measure => simp [intOf]; omega
        · rw [if_neg hin] at hN1
          have HA1 := Lib.hid hN1
          have HMN := Lib.hid (show (namesL A ++ [q.name]).length = m + 1 by rw [List.length_append, HM.out]; rfl)
          cases hge : getE (entsL A) q.name (plcZ q) with
          | some pt =>
            rw [hge, if_pos (show (some pt).isSome = true from rfl)] at hE1
            have HA2 := Lib.hid hE1
            clear hN1 hE1
            go_wp2_with (first
              | (go_at_call 68; (with_reducible refine (cA _ HT).mono ?_); rintro e w2 ⟨rfl, hb2⟩; have PS2 := Lib.hid (PS.out.step hb2); have HV2 := Lib.hid (HV.out.below PS2.out.bel).num; clear hb2 cA)
              | (go_at_call 69; (with_reducible refine (cB _ HV2).mono ?_); rintro e w3 ⟨rfl, hb3⟩; have PS3 := Lib.hid (PS2.out.step hb3); have PS4 := Lib.hid (PS3.out.step ((Below.refl _ w3).alloc (Nat.le_refl _) (.cells #[.string (strL q.name), .int .i64 (plcZ q)] 94))); have HBX := Lib.hid (World.alloc_heap_new w3 (.cells #[.string (strL q.name), .int .i64 (plcZ q)] 94)); have HOW := Lib.hid (fun g (e : Value.ownBlock (.slice na m nc) = some g) => (PS3.out.own.lt g e).2); have hL1 := look_name PS4.out.mn q.name; rw [decide_eq_false hin] at hL1; obtain ⟨hj0, _⟩ := box_two HBX.out; clear hb3 cB)
              | (at_mapUpdate; refine wpList_name rfl _ _ _ rfl w.heap.size (namesL A) PS4.out.mn q.name hin rfl rfl rfl ?_; intro w5 m5 b5 k5 z5; have PS5 := Lib.hid (PS4.out.name m5 b5 k5 z5); have HB5 := Lib.hid ((k5 w3.heap.size (by have := PS3.out.sz; omega)).trans HBX.out); obtain ⟨hj5, _⟩ := box_two HB5.out; have HZ5 : Hid (w5.heap.size = w3.heap.size + 1) := Lib.hid (by rw [z5, World.size_alloc]); clear m5 b5 k5 z5 hL1 hj0)
              | (at_builtin; refine wpList_nm rfl (.tmp 48) (.tmp 51) rfl q.name (strL q.name) rfl rfl rfl PS5.out HM.out hm6 ?_; intro a6 c6 w6 p6 k6 z6; have PS6 := Lib.hid p6; have HB6 := Lib.hid ((k6 w3.heap.size (by rw [HZ5.out]; omega) (fun e => Nat.lt_irrefl _ (HOW.out _ e))).trans HB5.out); clear p6 k6 z6; have hL2 := look_part PS6.out.mp q.name (plcZ q); rw [hge] at hL2; obtain ⟨hj0, hj1⟩ := box_two HB6.out; have hlt := (Array.getElem?_eq_some_iff.1 HB6.out).1; have PS7 := Lib.hid (PS6.out.step ((Below.refl _ (w6)).alloc (Nat.le_refl _) (.cells #[.string (strL pt.1), .bool pt.2] 98))); have HB7 := Lib.hid ((Below.heap_alloc (w6) (.cells #[.string (strL pt.1), .bool pt.2] 98) _ hlt).trans HB6.out); obtain ⟨hj2, hj3⟩ := box_two HB7.out; unfold keyV partA at hL2; simp only [Option.isSome_some] at hL2; clear hlt; skip))
            go_roundw
            case rel => exact ⟨k + 1, m + 1, by omega, by go_num, by omega, ⟨_, _, rfl⟩, by rw [HA1.out]; exact HMN, by rw [HA1.out, HA2.out]; exact PS7⟩
            case measure => simp [intOf]; omega
          | none =>
            rw [hge, if_neg (by simp)] at hE1
            have HA2 := Lib.hid hE1
            clear hN1 hE1
            go_wp2_with (first
              | (go_at_call 68; (with_reducible refine (cA _ HT).mono ?_); rintro e w2 ⟨rfl, hb2⟩; have PS2 := Lib.hid (PS.out.step hb2); have HV2 := Lib.hid (HV.out.below PS2.out.bel).num; clear hb2 cA)
              | (go_at_call 69; (with_reducible refine (cB _ HV2).mono ?_); rintro e w3 ⟨rfl, hb3⟩; have PS3 := Lib.hid (PS2.out.step hb3); have PS4 := Lib.hid (PS3.out.step ((Below.refl _ w3).alloc (Nat.le_refl _) (.cells #[.string (strL q.name), .int .i64 (plcZ q)] 94))); have HBX := Lib.hid (World.alloc_heap_new w3 (.cells #[.string (strL q.name), .int .i64 (plcZ q)] 94)); have HOW := Lib.hid (fun g (e : Value.ownBlock (.slice na m nc) = some g) => (PS3.out.own.lt g e).2); have hL1 := look_name PS4.out.mn q.name; rw [decide_eq_false hin] at hL1; obtain ⟨hj0, _⟩ := box_two HBX.out; clear hb3 cB)
              | (at_mapUpdate; refine wpList_name rfl _ _ _ rfl w.heap.size (namesL A) PS4.out.mn q.name hin rfl rfl rfl ?_; intro w5 m5 b5 k5 z5; have PS5 := Lib.hid (PS4.out.name m5 b5 k5 z5); have HB5 := Lib.hid ((k5 w3.heap.size (by have := PS3.out.sz; omega)).trans HBX.out); obtain ⟨hj5, _⟩ := box_two HB5.out; have HZ5 : Hid (w5.heap.size = w3.heap.size + 1) := Lib.hid (by rw [z5, World.size_alloc]); clear m5 b5 k5 z5 hL1 hj0)
              | (at_builtin; refine wpList_nm rfl (.tmp 48) (.tmp 51) rfl q.name (strL q.name) rfl rfl rfl PS5.out HM.out hm6 ?_; intro a6 c6 w6 p6 k6 z6; have PS6 := Lib.hid p6; have HB6 := Lib.hid ((k6 w3.heap.size (by rw [HZ5.out]; omega) (fun e => Nat.lt_irrefl _ (HOW.out _ e))).trans HB5.out); clear p6 k6 z6; have hL2 := look_part PS6.out.mp q.name (plcZ q); rw [hge] at hL2; obtain ⟨hj0, hj1⟩ := box_two HB6.out; have hlt := (Array.getElem?_eq_some_iff.1 HB6.out).1; have PS7 := Lib.hid (PS6.out.step ((Below.refl _ (w6)).alloc (Nat.le_refl _) (.cells #[.string ⟨#[]⟩, .bool false] 98))); have HB7 := Lib.hid ((Below.heap_alloc (w6) (.cells #[.string ⟨#[]⟩, .bool false] 98) _ hlt).trans HB6.out); obtain ⟨hj2, hj3⟩ := box_two HB7.out; unfold keyV partA at hL2; simp only [Option.isSome_none] at hL2; clear hlt; skip)
              | (at_mapUpdate; refine wpList_part rfl _ _ _ rfl (w.heap.size + 1) (entsL A) PS7.out.mp ((q.name, plcZ q), (val, q.wide)) hge rfl rfl rfl ?_; intro w8 m8 k8 b8 z8; have PS8 := Lib.hid (PS7.out.part m8 k8 b8 z8); clear m8 k8 b8 z8))
            go_roundw
            case rel => exact ⟨k + 1, m + 1, by omega, by go_num, by omega, ⟨_, _, rfl⟩, by rw [HA1.out]; exact HMN, by rw [HA1.out, HA2.out]; exact PS8⟩
            case measure => simp [intOf]; omega
    · obtain rfl : k = n := by omega
      have hlt' : ¬ (k : Int) < (k : Int) := by omega
      have hAK : allK rows k = rows.filterMap (pairP numF []) := by unfold allK; rw [← HN.out, List.take_length]
      have hLP : listP repF decF numF rows = outL repF decF (entsL (allK rows k)) (namesL (allK rows k)) := by unfold listP; rw [list_out, hAK]
      have hSE : szE (entsL (allK rows k)) ≤ 4000000 := by
        have h1 := ents_sum (allK rows k)
        have h2 := all_sum numF rows
        rw [← hAK] at h2
        have h3 := HZ.out
        omega
      obtain ⟨N, hN⟩ : ∃ N, namesL (allK rows k) = N := ⟨_, rfl⟩
      obtain ⟨E, hE⟩ : ∃ E, entsL (allK rows k) = E := ⟨_, rfl⟩
      rw [hN, hE] at PS hLP
      rw [hE] at hSE
      rw [hN] at HM
      have HLP := Lib.hid hLP
      have HSE := Lib.hid hSE
      obtain ⟨WB, hWB⟩ : ∃ WB, WB = wr := ⟨_, rfl⟩
      subst hWB
      clear hAK hLP hSE hN hE HR HZ
      go_wp2_with fail
      go_loopw [15, 69] (fun lv i w2 => ∃ (j m2 : Nat), j ≤ m ∧ i = .int .i64 j ∧ m2 ≤ j ∧ (∃ a c, lv = .slice a m2 c) ∧ Hid ((outL repF decF E (N.take j)).length = m2) ∧ Hid (w2.ownsRow WB.heap.size 37 2 lv (outL repF decF E (N.take j)).length (pmsV (outL repF decF E (N.take j)))) ∧ Hid (Below WB.heap.size WB w2)) (fun _ i _ => m - (intOf i).toNat)
      case atStart => exact ⟨0, 0, Nat.zero_le _, rfl, Nat.le_refl _, ⟨none, 0, rfl⟩, Lib.hid rfl, Lib.hid (World.ownsRow_nil _ _ _ _), Lib.hid (Below.refl _ _)⟩
      case round =>
        obtain ⟨j, m2, hj, rfl, hm2, ⟨la, lc, rfl⟩, HO1, HO2, HB⟩ := hrel
        have F2 : IntKind.i64.wrap ((j : Int) + 1) = (j : Int) + 1 := by rw [IntKind.wrap_i64]; omega
        by_cases hjl : j < m
        · have hjl' : (j : Int) < (m : Int) := by omega
          obtain ⟨nme, hnme⟩ : ∃ x, N[j]? = some x := ⟨_, List.getElem?_eq_getElem (by rw [HM.out]; exact hjl)⟩
          obtain ⟨g2, rfl, hcell⟩ := str_cell PS.out.own (by omega) hnme
          have hc2 := cell_below hcell HB.out
          have hst := outL_step repF decF E hnme
          have hps := parts_sum E nme
          have hpl := parts_len (getE E nme)
          have cP := fun W (hm : Hid (MpP W (w.heap.size + 1) E)) => parts_of (w.heap.size + 1) E nme W hm.out
          have HMP := Lib.hid (PS.out.mp.step HB.out)
          obtain ⟨PL, hPL⟩ : ∃ PL, partsL (getE E nme) = PL := ⟨_, rfl⟩
          rw [hPL] at hst hps hpl cP
          have hVB := PS.out.bel
          by_cases hp0 : PL = []
          · rw [if_pos hp0, List.append_nil] at hst
            subst hp0
            have HST := Lib.hid hst
            simp only [List.length_nil] at cP
            clear hnme hcell hst hps hpl hPL hVB
            go_wp2_with (go_at_call 70; (with_reducible refine (cP _ HMP).mono ?_); rintro e w5 ⟨a5, c5, rfl, ho5, hb5⟩; have HB5 := Lib.hid (HB.out.trans (hb5.mono HB.out.size)); have HO5 := Lib.hid (own_below HO2.out hb5); clear ho5 hb5 cP)
            go_roundw
            case rel => exact ⟨j + 1, m2, by omega, by go_num, by omega, ⟨_, _, rfl⟩, by rw [HST.out]; exact HO1, by rw [HST.out]; exact HO5, HB5⟩
            case measure => simp [intOf]; omega
          · rw [if_neg hp0] at hst
            have HST := Lib.hid hst
            obtain ⟨pl, hpln⟩ : ∃ pl, PL.length = pl := ⟨_, rfl⟩
            have hpos : 0 < pl := by rw [← hpln]; exact List.length_pos_iff.2 hp0
            have hposI : (0 : Int) < (pl : Int) := by omega
            rw [hpln] at cP hpl
            have hsq : szQ PL ≤ 4000000 := by
              have h1 : szQ PL = szP PL := rfl
              have h2 := HSE.out
              omega
            have cJ := fun W (a : Option Addr) (c : Nat) (h : Hid (HasR W (.slice a pl c) PL)) (hv : Hid (Vr W)) => joined_any hpos (by omega) hsq W h.out hv.out
            have HVW := Lib.hid (fun (W : World) (hb : Below WB.heap.size WB W) => Lib.hid (HV.out.below (hVB.trans (hb.mono hVB.size))))
            have HJS : Hid (strL (joinedL repF decF PL) = strL (joinedL repF decF PL)) := Lib.hid rfl
            have HL2 := Lib.hid (show (outL repF decF E (N.take j) ++ [(nme, joinedL repF decF PL)]).length = m2 + 1 by rw [List.length_append, HO1.out]; rfl)
            have hm7 : m2 ≤ 4000000 := by omega
            clear hnme hcell hst hps hPL hVB hp0 hsq hpln
            go_wp2_with (first
              | (go_at_call 70; (with_reducible refine (cP _ HMP).mono ?_); rintro e w5 ⟨a5, c5, rfl, ho5, hb5⟩; have HB5 := Lib.hid (HB.out.trans (hb5.mono HB.out.size)); have HO5 := Lib.hid (own_below HO2.out hb5); have HR5 := Lib.hid ho5.hasR; have HV5 := HVW.out w5 HB5.out; clear ho5 hb5 cP)
              | (go_at_call 71; (with_reducible refine (cJ _ _ _ HR5 HV5).mono ?_); rintro e w6 ⟨rfl, hb6⟩; have HB6 := Lib.hid (HB5.out.trans (hb6.mono HB5.out.size)); have HO6 := Lib.hid (own_below HO5.out hb6); clear hb6 cJ)
              | (at_builtin; refine wpList_appP (by rfl) (.tmp 79) (.tmp 84) rfl rfl WB.heap.size (nme, joinedL repF decF PL) rfl rfl HO6.out HO1.out HB6.out.size hm7 ?_; intro a7 c7 w7 h7 g7; have HO7 := Lib.hid h7; have HB7 := Lib.hid (HB6.out.trans ((((Below.refl WB.heap.size w6).alloc HB6.out.size _)).grown g7 (by rw [World.size_alloc]; have := HB6.out.size; omega) (fun g hg => (HO6.out.lt g hg).1))); clear h7 g7))
            go_roundw
            case rel => exact ⟨j + 1, m2 + 1, by omega, by go_num, by omega, ⟨_, _, rfl⟩, by rw [HST.out]; exact HL2, by rw [HST.out]; exact HO7, HB7⟩
            case measure => simp [intOf]; omega
        · obtain rfl : j = m := by omega
          have hjl' : ¬ (j : Int) < (j : Int) := by omega
          have hT : N.take j = N := List.take_of_length_le (by rw [HM.out]; exact Nat.le_refl _)
          rw [hT] at HO1 HO2
          go_wp2_with fail
          go_ret
          rw [HLP.out, HO1.out]
          exact ⟨la, lc, rfl, ⟨WB.heap.size, HO2.out⟩, PS.out.bel.trans (HB.out.mono PS.out.bel.size)⟩
end Go.Proofs.YtdinachiiimngaaGreatDoor
