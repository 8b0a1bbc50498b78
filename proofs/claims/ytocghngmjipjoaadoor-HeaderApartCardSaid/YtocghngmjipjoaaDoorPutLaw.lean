/- HeaderPut: a written field is read back with its name and clean value, and its lines are no longer than they must be. -/
import Derived.Test.YtocghngmjipjoaaDoorTells
namespace Go.Proofs.YtocghngmjipjoaaDoor
open Go.ChangeShapes Go.WideShapes Go.ChangeAt Go.RowKit
open LinesP HdrP

theorem put_len (n v : List UInt8) : (putL n v).length ≤ n.length + 3 * v.length + 6 := by
  by_cases hn : rightL n = true
  · rw [← b_done hn v, List.length_append]
    have h1 := (b_len n (piecesP (cleanL v)) _ (Nat.le_refl _)).1
    have h2 := p_len (cleanL v)
    have h3 := clean_le v
    have h4 : ((piecesP (cleanL v)).take (piecesP (cleanL v)).length).flatten.length = (cleanL v).length := by rw [List.take_length, p_flat]
    simp only [List.length_cons, List.length_nil]
    omega
  · unfold putL
    rw [if_neg hn]; exact Nat.zero_le _
theorem put_split {n : List UInt8} (hn : rightL n = true) (v : List UInt8) : ∃ l cs, splitL (putL n v) = l :: cs ∧ ∀ c ∈ cs, (78 < (bareL c).length → (piecesL (bareL c)).length = 1) ∧ trimL (bareL c) ≠ [] := by
  obtain ⟨l, cs, h1, h2, _, _, _, _, _, h8⟩ := put_shape hn v
  refine ⟨l, cs, ?_, h8⟩
  have := split_allT h2 []
  rw [List.append_nil] at this
  rw [h1, this]; simp [splitL]
theorem put_get {n : List UInt8} {f : Fld} (h1 : f.name = n) (h2 : f.bad = false) : allL [f] n = [trimL (unfoldL f.value)] := by
  unfold allL
  rw [List.filter_cons, if_pos (by rw [h1, h2]; simp)]; rfl
theorem lines_small (s : List UInt8) : (splitL s).length ≤ s.length ∧ ∀ x ∈ splitL s, x.length ≤ s.length := by
  refine ⟨split_len s, fun x hx => ?_⟩
  have e := split_flat s
  obtain ⟨a, b, hab⟩ := List.append_of_mem hx
  rw [hab] at e
  rw [← e]
  simp
  omega
theorem empty_is' (l : List UInt8) : (strL l).toList.isEmpty = l.isEmpty := by rw [ByteArray.toList_eq, strL_list]
set_option maxRecDepth 1000000 in
set_option maxHeartbeats 1000000 in
theorem put_long (nm val : ByteArray) (h : ¬ (nm.size ≤ 5000 ∧ val.size ≤ 5000 ∧ rightL nm.data.toList = true)) (w : World) (hv : Vars w) : Calls Tryd.prog 5 #[.string nm, .string val] w fun e w' => e = .returned (.bool true) ∧ Below w.heap.size w w' := by
  have hS := small_any w hv
  have f1 := fun w => few_any nm w
  have f2 := fun w => few_any val w
  have f3 := fun w => right_any nm w
  by_cases h1 : nm.size ≤ 5000
  · rw [decide_eq_true h1] at f1
    by_cases h2 : val.size ≤ 5000
    · rw [decide_eq_true h2] at f2
      have h3 : rightL nm.data.toList = false := by
        rw [Bool.eq_false_iff]; exact fun e => h ⟨h1, h2, e⟩
      rw [h3] at f3
      clear h h1 h2 h3
      go_enter Tryd.func5, Tryd.ntmps5
      go_wp2_with (first
        | (go_at_call 8; (refine hS.mono ?_); rintro e w' ⟨rfl, hb⟩; clear hS)
        | (go_at_call 9; (with_reducible refine (f1 _).mono ?_); rintro e w9 ⟨rfl, hw⟩; rw [← hw]; clear hw w9 f1)
        | (go_at_call 9; (with_reducible refine (f2 _).mono ?_); rintro e w9 ⟨rfl, hw⟩; rw [← hw]; clear hw w9 f2)
        | (go_at_call 24; (with_reducible refine (f3 _).mono ?_); rintro e w3 ⟨rfl, hb3⟩; clear f3))
      go_ret
      exact ⟨rfl, hb.trans (hb3.mono hb.size)⟩
    · rw [decide_eq_false h2] at f2
      clear h h1 h2 f3
      go_enter Tryd.func5, Tryd.ntmps5
      go_wp2_with (first
        | (go_at_call 8; (refine hS.mono ?_); rintro e w' ⟨rfl, hb⟩; clear hS)
        | (go_at_call 9; (with_reducible refine (f1 _).mono ?_); rintro e w9 ⟨rfl, hw⟩; rw [← hw]; clear hw w9 f1)
        | (go_at_call 9; (with_reducible refine (f2 _).mono ?_); rintro e w9 ⟨rfl, hw⟩; rw [← hw]; clear hw w9 f2))
      go_ret
      exact ⟨rfl, hb⟩
  · rw [decide_eq_false h1] at f1
    clear h h1 f2 f3
    go_enter Tryd.func5, Tryd.ntmps5
    go_wp2_with (first
      | (go_at_call 8; (refine hS.mono ?_); rintro e w' ⟨rfl, hb⟩; clear hS)
      | (go_at_call 9; (with_reducible refine (f1 _).mono ?_); rintro e w9 ⟨rfl, hw⟩; rw [← hw]; clear hw w9 f1))
    go_ret
    exact ⟨rfl, hb⟩
/-- Older memory, one field at g. -/
structure Sf1 (w0 w : World) (g : Nat) (f : Fld) : Prop where
  bel : Below w0.heap.size w0 w
  fs : FAt w g 0 [f]
theorem Sf1.step {w0 w w' : World} {g : Nat} {f : Fld} (h : Sf1 w0 w g f) (hb : Below w.heap.size w w') : Sf1 w0 w' g f := ⟨h.bel.trans (hb.mono h.bel.size), h.fs.step hb⟩
theorem Sf1.cells {w0 w : World} {g : Nat} {f : Fld} (h : Sf1 w0 w g f) : w.cell? ⟨g, 0, none⟩ = some (.string (strL f.name)) ∧ w.cell? ⟨g, 1, none⟩ = some (.string (strL f.value)) ∧ w.cell? ⟨g, 2, none⟩ = some (.string (strL f.raw)) ∧ w.cell? ⟨g, 3, none⟩ = some (.bool f.bad) := h.fs 0 f rfl
/-- Older memory, and lines. -/
structure Sl (w0 w : World) (u : Value) (xs : List (List UInt8)) : Prop where
  bel : Below w0.heap.size w0 w
  o1 : Own w u xs
theorem Sl.step {w0 w w' : World} {u : Value} {xs : List (List UInt8)} (h : Sl w0 w u xs) (hb : Below w.heap.size w w') : Sl w0 w' u xs := ⟨h.bel.trans (hb.mono h.bel.size), h.o1.step hb⟩
set_option maxRecDepth 1000000 in
set_option maxHeartbeats 4000000 in
theorem put_short (nm val : ByteArray) (h1 : nm.size ≤ 5000) (h2 : val.size ≤ 5000) (hn : rightL nm.data.toList = true) (w : World) (hv : Vars w) : Calls Tryd.prog 5 #[.string nm, .string val] w fun e w' => e = .returned (.bool true) ∧ Below w.heap.size w w' := by
  have hS := small_any w hv
  have f1 := fun w => few_any nm w
  have f2 := fun w => few_any val w
  rw [decide_eq_true h1] at f1
  rw [decide_eq_true h2] at f2
  have f3 := fun w => right_any nm w
  rw [hn] at f3
  have cQ := fun w hv => put_any nm val (by omega) (by omega) w hv
  have hpl := put_len nm.data.toList val.data.toList
  rw [← size_list, ← size_list] at hpl
  obtain ⟨f, p1, p2, p3, p4, p5, p6⟩ := put_parse hn val.data.toList
  obtain ⟨l, cs, hsp, hcs⟩ := put_split hn val.data.toList
  have sQ : (strL (putL nm.data.toList val.data.toList)).size = (putL nm.data.toList val.data.toList).length := strL_size _
  have cP := fun w hv => parse_is (strL (putL nm.data.toList val.data.toList)) [f] _ (by omega) p1 p6 w hv
  have cL := fun w => rlines_any (strL (putL nm.data.toList val.data.toList)) (by omega) w
  rw [strL_list, hsp] at cL
  rw [← sQ] at cP
  have hraw : strL f.raw = strL (putL nm.data.toList val.data.toList) := by rw [p4]
  have hname : strL f.name = nm := by rw [p2, strL_of]
  have hfz : f.value.length ≤ 30000 ∧ f.name.length ≤ 5000 := by
    have := fields_small (putL nm.data.toList val.data.toList) f (by rw [p1]; simp)
    exact ⟨by omega, by rw [p2, ← size_list]; exact h1⟩
  have hg : getV (allL [f] nm.data.toList) = .tuple #[.string (strL (cleanL val.data.toList)), .bool true] := by rw [put_get p2 p3, p5]; rfl
  have cG := fun (w : World) (v : Value) (h : HasF w v [f]) => get_is v [f] nm _ w h (by simp) (fun f' hf' => by rw [List.mem_singleton.1 hf']; omega) hg
  have cC := fun w => rclean_any val (by omega) w
  have hll := lines_small (putL nm.data.toList val.data.toList)
  rw [hsp, ← sQ] at hll
  obtain ⟨Q, hQ⟩ : ∃ Q, strL (putL nm.data.toList val.data.toList) = Q := ⟨_, rfl⟩
  rw [hQ] at cQ cP cL hraw sQ hll
  have hQz : Q.size ≤ 30000 := by omega
  generalize strL (cleanL val.data.toList) = C at cG cC
  obtain ⟨N, hN⟩ : ∃ N, (l :: cs).length = N := ⟨_, rfl⟩
  rw [hN] at cL
  have hN0 : 0 < N := by rw [← hN]; simp
  have cP' : ∀ w', Vars w' → Below w.heap.size w w' → Calls Tryd.prog 10 #[.string Q] w' fun e w'' => ∃ g c, e = .returned (.tuple #[.slice (some ⟨g, 0, none⟩) 1 c, .int .i64 Q.size]) ∧ Sf1 w w'' g f := fun w' hv' hb => (cP w' hv').mono (by
    rintro e w'' ⟨a, c, rfl, ho, hb'⟩
    obtain ⟨g, rfl, hf⟩ := ho.at (show 0 < [f].length by simp)
    exact ⟨g, c, rfl, hb.trans (hb'.mono hb.size), hf⟩)
  have HQ := Lib.hid cQ
  have HP := Lib.hid cP'
  have HG := Lib.hid cG
  have HCS := Lib.hid hcs
  have HLL := Lib.hid hll
  have HN := Lib.hid hN
  have HRB := Lib.hid (And.intro hraw (And.intro hname p3))
  have HQZ := Lib.hid hQz
  clear cQ cP cP' cG hcs hll hN hraw hname p1 p2 p3 p4 p5 p6 hsp sQ hQ hpl hfz hg hn h1 h2 hQz
  go_enter Tryd.func5, Tryd.ntmps5
  go_wp2_with (first
    | (go_at_call 8; (refine hS.mono ?_); rintro e w1 ⟨rfl, hb1⟩; clear hS)
    | (go_at_call 9; (with_reducible refine (f1 _).mono ?_); rintro e w9 ⟨rfl, hw⟩; rw [← hw]; clear hw w9 f1)
    | (go_at_call 9; (with_reducible refine (f2 _).mono ?_); rintro e w9 ⟨rfl, hw⟩; rw [← hw]; clear hw w9 f2)
    | (go_at_call 24; (with_reducible refine (f3 _).mono ?_); rintro e w2 ⟨rfl, b2⟩; replace hb1 := hb1.trans (b2.mono hb1.size); have cQ := HQ.out w2 (hv.keep hb1); clear f3 b2 HQ)
    | (go_at_call 22; (with_reducible refine cQ.mono ?_); rintro e w3 ⟨rfl, b3⟩; replace hb1 := hb1.trans (b3.mono hb1.size); have cP := HP.out w3 (hv.keep hb1) hb1; clear cQ b3 HP)
    | (go_at_call 10; (with_reducible refine cP.mono ?_); rintro e w4 ⟨g, c, rfl, st⟩; clear cP; obtain ⟨k0, k1, k2, k3⟩ := st.cells; rw [HRB.out.2.1] at k0; rw [HRB.out.1] at k2; rw [HRB.out.2.2] at k3; have cG := HG.out w4 (.slice (some ⟨g, 0, none⟩) 1 c) (.inr ⟨g, 0, c, rfl, st.fs⟩); clear HG k1)
    | (go_at_call 12; (with_reducible refine cG.mono ?_); rintro e w5 ⟨rfl, b5⟩; clear cG; have hb5 := st.bel.trans (b5.mono st.bel.size))
    | (go_at_call 26; (with_reducible refine (cL _).mono ?_); rintro e w6 ⟨a1, c1, rfl, o1, b6⟩; have sl : Sl w w6 _ (l :: cs) := ⟨hb5.trans (b6.mono hb5.size), ⟨_, by rw [HN.out]; exact o1⟩⟩; clear cL o1 b6 hb5 b5))
  have HST := Lib.hid sl
  clear sl st k0 k2 k3 hb1
  go_loopw [12] (fun i wr => ∃ k : Nat, 1 ≤ k ∧ k ≤ N ∧ i = .int .i64 k ∧ Hid (Sl w wr (.slice a1 N c1) (l :: cs))) (fun i _ => N - (intOf i).toNat)
  case atStart => exact ⟨1, Nat.le_refl _, hN0, rfl, HST⟩
  case round =>
    obtain ⟨k, hk1, hk, rfl, hst⟩ := hrel
    have F1 : IntKind.i64.wrap ((k : Int) + 1) = (k : Int) + 1 := by
      have h1 : N ≤ 30000 := by
        have := HLL.out
        have := HN.out
        have := HQZ.out
        omega
      rw [IntKind.wrap_i64]; omega
    by_cases hlt : k < N
    · have hlt' : (k : Int) < (N : Int) := by omega
      obtain ⟨g1, rfl⟩ := hst.out.o1.at (by omega)
      obtain ⟨x, hx⟩ : ∃ x, (l :: cs)[k]? = some x := ⟨_, List.getElem?_eq_getElem (by rw [HN.out]; exact hlt)⟩
      have kc := hst.out.o1.cell k x hx
      have hxc : x ∈ cs := by
        obtain ⟨j, rfl⟩ : ∃ j, k = j + 1 := ⟨k - 1, by omega⟩
        exact List.mem_of_getElem? (by simpa using hx)
      obtain ⟨q1, q2⟩ := HCS.out x hxc
      have hxl := HLL.out.2 x (List.mem_of_getElem? hx)
      have hQz := HQZ.out
      have cB := fun w => rbare_any (strL x) (by rw [strL_size]; omega) w
      rw [strL_list] at cB
      have hbl := bare_le x
      have sB : (strL (bareL x)).size = (bareL x).length := strL_size _
      have cT := fun w => rtrim_any (strL (bareL x)) (by rw [sB]; omega) w
      rw [strL_list] at cT
      have eT : (strL (trimL (bareL x))).toList.isEmpty = false := by
        rw [empty_is']
        cases ht : trimL (bareL x) with
        | nil => exact absurd ht q2
        | cons a b => rfl
      generalize strL (trimL (bareL x)) = T at cT eT
      by_cases h78 : 78 < (bareL x).length
      · have cPc := fun w => rpieces_any (strL (bareL x)) (by rw [sB]; omega) w
        rw [strL_list, q1 h78] at cPc
        have h78' : (78 : Int) < ((strL (bareL x)).size : Int) := by omega
        generalize strL (bareL x) = B at cB cT cPc h78'
        generalize strL x = X at kc cB
        clear hx hxc q1 q2 hxl hQz hbl sB h78
        go_wp2_with (first
          | (go_at_call 27; (with_reducible refine (cB _).mono ?_); rintro e w9 ⟨rfl, hw⟩; rw [← hw]; clear hw w9 cB)
          | (go_at_call 28; (with_reducible refine (cPc _).mono ?_); rintro e w7 ⟨a7, c7, rfl, _, b7⟩; have hst7 := Lib.hid (hst.out.step b7); clear cPc b7)
          | (go_at_call 29; (with_reducible refine (cT _).mono ?_); rintro e w9 ⟨rfl, hw⟩; rw [← hw]; clear hw w9 cT))
        go_roundw
        case rel => exact ⟨k + 1, by omega, by omega, by go_num, hst7⟩
        case measure => simp [intOf]; omega
      · have h78' : ¬ (78 : Int) < ((strL (bareL x)).size : Int) := by omega
        generalize strL (bareL x) = B at cB cT h78'
        generalize strL x = X at kc cB
        clear hx hxc q1 q2 hxl hQz hbl sB h78
        go_wp2_with (first
          | (go_at_call 27; (with_reducible refine (cB _).mono ?_); rintro e w9 ⟨rfl, hw⟩; rw [← hw]; clear hw w9 cB)
          | (go_at_call 29; (with_reducible refine (cT _).mono ?_); rintro e w9 ⟨rfl, hw⟩; rw [← hw]; clear hw w9 cT))
        go_roundw
        case rel => exact ⟨k + 1, by omega, by omega, by go_num, hst⟩
        case measure => simp [intOf]; omega
    · obtain rfl : k = N := by omega
      have hlt' : ¬ (k : Int) < (k : Int) := by omega
      go_wp2_with (go_at_call 30; (with_reducible refine (cC _).mono ?_); rintro e w8 ⟨rfl, b8⟩; have hst8 := Lib.hid (hst.out.step b8); clear cC b8)
      go_ret
      exact ⟨rfl, hst8.out.bel⟩
theorem putlaw_any (nm val : ByteArray) (w : World) (hv : Vars w) : Calls Tryd.prog 5 #[.string nm, .string val] w fun e w' => e = .returned (.bool true) ∧ Below w.heap.size w w' := by
  by_cases h : nm.size ≤ 5000 ∧ val.size ≤ 5000 ∧ rightL nm.data.toList = true
  · exact put_short nm val h.1 h.2.1 h.2.2 w hv
  · exact put_long nm val h w hv
end Go.Proofs.YtocghngmjipjoaaDoor
