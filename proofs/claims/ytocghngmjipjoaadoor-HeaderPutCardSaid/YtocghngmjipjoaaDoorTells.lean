/- HeaderTells: every function of the package agrees with the reference. -/
import Derived.Test.YtocghngmjipjoaaDoorSmall
import Derived.Test.YtocghngmjipjoaaDoorRefP
import Derived.Test.YtocghngmjipjoaaDoorRefA
import Derived.Test.YtocghngmjipjoaaDoorSameF
namespace Go.Proofs.YtocghngmjipjoaaDoor
open Go.ChangeShapes Go.WideShapes Go.ChangeAt Go.RowKit
open LinesP HdrP

theorem raws_is (s : List UInt8) : rawsL (parseL s) = (hdrL (splitL s)).flatten := parse_raw s
theorem hdr_le (s : List UInt8) : (hdrL (splitL s)).flatten.length ≤ s.length := by
  obtain ⟨line, rest, h1, _, _⟩ := at_parts s
  have := congrArg List.length h1
  rw [List.length_append, List.length_append] at this
  omega
theorem raws_small (s : List UInt8) : (rawsL (parseL s)).length ≤ s.length := by rw [raws_is]; exact hdr_le s
theorem fields_few (s : List UInt8) : (parseL s).length ≤ s.length := by
  have h1 := groups_len (hdrL (splitL s))
  have h2 : (hdrL (splitL s)).length ≤ (splitL s).length := (List.takeWhile_sublist _).length_le
  have h3 := split_len s
  unfold parseL
  omega
theorem trimR_le (l : List UInt8) : (trimR l).length ≤ l.length := by
  unfold trimR
  have := (List.dropWhile_sublist (p := HdrP.blank) (l := l.reverse)).length_le
  rw [List.length_reverse] at this
  rw [List.length_reverse]; exact this
theorem field_small (l m : List UInt8) : (fieldL l m).name.length ≤ (fieldL l m).raw.length ∧ (fieldL l m).value.length ≤ (fieldL l m).raw.length := by
  unfold fieldL
  split
  · have h1 := trimR_le (upto (bareL l))
    have h2 := upto_le (bareL l)
    have h3 := bare_le l
    have h4 := bare_le ((l ++ m).drop ((upto (bareL l)).length + 1))
    rw [List.length_drop] at h4
    refine ⟨?_, ?_⟩
    · show (trimR (upto (bareL l))).length ≤ (l ++ m).length
      rw [List.length_append]; omega
    · show (bareL _).length ≤ (l ++ m).length
      omega
  · exact ⟨Nat.zero_le _, Nat.zero_le _⟩
theorem fields_small (s : List UInt8) : ∀ f ∈ parseL s, f.name.length ≤ s.length ∧ f.value.length ≤ s.length := by
  intro f hf
  obtain ⟨i, hi⟩ := List.getElem?_of_mem hf
  have h1 := raw_le (parseL s) i f hi
  have h2 := raws_small s
  obtain ⟨l, cs, rfl, _⟩ := group_parts _ (hdr_good (split_good s)) f hf
  have h3 := field_small l cs.flatten
  omega
/-- Older memory, and two lists of the same fields. -/
structure St2 (w0 w : World) (u v : Value) (P : List Fld) : Prop where
  bel : Below w0.heap.size w0 w
  o1 : OwnF w u P
  o2 : OwnF w v P
theorem St2.step {w0 w w' : World} {u v : Value} {P : List Fld} (h : St2 w0 w u v P) (hb : Below w.heap.size w w') : St2 w0 w' u v P := ⟨h.bel.trans (hb.mono h.bel.size), h.o1.step hb, h.o2.step hb⟩
set_option maxRecDepth 1000000 in
set_option maxHeartbeats 1000000 in
theorem tells_long (s nm val : ByteArray) (h : ¬ (s.size ≤ 5000 ∧ nm.size ≤ 5000 ∧ val.size ≤ 5000)) (w : World) (hv : Vars w) : Calls Tryd.prog 3 #[.string s, .string nm, .string val] w fun e w' => e = .returned (.bool true) ∧ Below w.heap.size w w' := by
  have hS := small_any w hv
  have f1 := fun w => few_any s w
  have f2 := fun w => few_any nm w
  have f3 := fun w => few_any val w
  by_cases h1 : s.size ≤ 5000
  · rw [decide_eq_true h1] at f1
    by_cases h2 : nm.size ≤ 5000
    · rw [decide_eq_true h2] at f2
      rw [decide_eq_false (fun h3 => h ⟨h1, h2, h3⟩)] at f3
      clear h h1 h2
      go_enter Tryd.func3, Tryd.ntmps3
      go_wp2_with (first
        | (go_at_call 8; (refine hS.mono ?_); rintro e w' ⟨rfl, hb⟩; clear hS)
        | (go_at_call 9; (with_reducible refine (f1 _).mono ?_); rintro e w9 ⟨rfl, hw⟩; rw [← hw]; clear hw w9 f1)
        | (go_at_call 9; (with_reducible refine (f2 _).mono ?_); rintro e w9 ⟨rfl, hw⟩; rw [← hw]; clear hw w9 f2)
        | (go_at_call 9; (with_reducible refine (f3 _).mono ?_); rintro e w9 ⟨rfl, hw⟩; rw [← hw]; clear hw w9 f3))
      go_ret
      exact ⟨rfl, hb⟩
    · rw [decide_eq_false h2] at f2
      clear h h1 h2 f3
      go_enter Tryd.func3, Tryd.ntmps3
      go_wp2_with (first
        | (go_at_call 8; (refine hS.mono ?_); rintro e w' ⟨rfl, hb⟩; clear hS)
        | (go_at_call 9; (with_reducible refine (f1 _).mono ?_); rintro e w9 ⟨rfl, hw⟩; rw [← hw]; clear hw w9 f1)
        | (go_at_call 9; (with_reducible refine (f2 _).mono ?_); rintro e w9 ⟨rfl, hw⟩; rw [← hw]; clear hw w9 f2))
      go_ret
      exact ⟨rfl, hb⟩
  · rw [decide_eq_false h1] at f1
    clear h h1 f2 f3
    go_enter Tryd.func3, Tryd.ntmps3
    go_wp2_with (first
      | (go_at_call 8; (refine hS.mono ?_); rintro e w' ⟨rfl, hb⟩; clear hS)
      | (go_at_call 9; (with_reducible refine (f1 _).mono ?_); rintro e w9 ⟨rfl, hw⟩; rw [← hw]; clear hw w9 f1))
    go_ret
    exact ⟨rfl, hb⟩
set_option maxRecDepth 1000000 in
set_option maxHeartbeats 8000000 in
theorem tells_short (s nm val : ByteArray) (h1 : s.size ≤ 5000) (h2 : nm.size ≤ 5000) (h3 : val.size ≤ 5000) (w : World) (hv : Vars w) : Calls Tryd.prog 3 #[.string s, .string nm, .string val] w fun e w' => e = .returned (.bool true) ∧ Below w.heap.size w w' := by
  have hS := small_any w hv
  have f1 := fun w => few_any s w
  have f2 := fun w => few_any nm w
  have f3 := fun w => few_any val w
  rw [decide_eq_true h1] at f1
  rw [decide_eq_true h2] at f2
  rw [decide_eq_true h3] at f3
  have hsz := fields_small s.data.toList
  rw [← size_list] at hsz
  have hfew := fields_few s.data.toList
  have hraw := raws_small s.data.toList
  rw [← size_list] at hfew hraw
  have cP1 := fun w hv => parse_any s (by omega) w hv
  have cP2 := fun w => rparse_any s (by omega) w
  generalize atL s.data.toList = M at cP1 cP2
  generalize parseL s.data.toList = P at cP1 cP2 hsz hfew hraw
  have cG1 := fun (w : World) (v : Value) (h : HasF w v P) => get_any v P nm w h (by omega) (fun f hf => ⟨by have := (hsz f hf).1; omega, by have := (hsz f hf).2; omega⟩)
  have cG2 := fun (w : World) (v : Value) (h : HasF w v P) => rget_any v P nm w h (by omega) (by omega) (fun f hf => ⟨by have := (hsz f hf).1; omega, by have := (hsz f hf).2; omega⟩)
  have cA1 := fun (w : World) (v : Value) (h : HasF w v P) => all_any v P nm w h (by omega) (fun f hf => ⟨by have := (hsz f hf).1; omega, by have := (hsz f hf).2; omega⟩)
  have cA2 := fun (w : World) (v : Value) (h : HasF w v P) => rall_any v P nm w h (by omega) (by omega) (fun f hf => ⟨by have := (hsz f hf).1; omega, by have := (hsz f hf).2; omega⟩)
  have hyl : (allL P nm.data.toList).length ≤ 5000 := by
    have := vals_len P nm.data.toList
    unfold valsB at this
    rw [List.length_map] at this
    omega
  generalize allL P nm.data.toList = Y at cG1 cG2 cA1 cA2 hyl
  obtain ⟨gs, gb, hg⟩ : ∃ gs gb, getV Y = .tuple #[.string gs, .bool gb] := by cases Y <;> exact ⟨_, _, rfl⟩
  rw [hg] at cG1 cG2
  have cJ1 := fun (w : World) (v : Value) (h : HasF w v P) => join_any v P w h (by omega) (by omega)
  have cJ2 := fun (w : World) (v : Value) (h : HasF w v P) => rjoin_any v P w h (by omega) (by omega)
  generalize strL (rawsL P) = J at cJ1 cJ2
  have cU1 := fun w => unfold_any s (by omega) w
  have cU2 := fun w => runfold_any s (by omega) w
  generalize strL (unfoldL s.data.toList) = U at cU1 cU2
  have cQ1 := fun w hv => put_any nm val (by omega) (by omega) w hv
  have cQ2 := fun w => rput_any nm val (by omega) (by omega) w
  generalize strL (putL nm.data.toList val.data.toList) = Q at cQ1 cQ2
  have cR1 := fun w => right_any nm w
  have cR2 := fun w => rright_any nm (by omega) w
  generalize rightL nm.data.toList = R at cR1 cR2
  have cS := fun (w : World) (u v : Value) (h : HasF w u P) (k : HasF w v P) => sameF_any h k (by omega)
  have cT := fun (w : World) (u v : Value) (h : Own w u Y) (k : Own w v Y) => same_any h.has k.has (show Y.length ≤ 1000000 by omega)
  simp only [decide_true] at cS cT
  have HP1 := Lib.hid cP1
  have HG1 := Lib.hid cG1
  have HG2 := Lib.hid cG2
  have HA1 := Lib.hid cA1
  have HA2 := Lib.hid cA2
  have HJ1 := Lib.hid cJ1
  have HJ2 := Lib.hid cJ2
  have HQ1 := Lib.hid cQ1
  have HS := Lib.hid cS
  have HT := Lib.hid cT
  clear cP1 cG1 cG2 cA1 cA2 cJ1 cJ2 cQ1 cS cT hg hsz hfew hraw hyl h1 h2 h3
  go_enter Tryd.func3, Tryd.ntmps3
  go_wp2_with (first
    | (go_at_call 8; (refine hS.mono ?_); rintro e w1 ⟨rfl, hb1⟩; clear hS)
    | (go_at_call 9; (with_reducible refine (f1 _).mono ?_); rintro e w9 ⟨rfl, hw⟩; rw [← hw]; clear hw w9 f1)
    | (go_at_call 9; (with_reducible refine (f2 _).mono ?_); rintro e w9 ⟨rfl, hw⟩; rw [← hw]; clear hw w9 f2)
    | (go_at_call 9; (with_reducible refine (f3 _).mono ?_); rintro e w9 ⟨rfl, hw⟩; rw [← hw]; clear hw w9 f3; have cP1 := HP1.out w1 (hv.keep hb1); clear HP1)
    | (go_at_call 10; (with_reducible refine cP1.mono ?_); rintro e w2 ⟨a1, c1, rfl, o1, b2⟩; replace hb1 := hb1.trans (b2.mono hb1.size); clear cP1 b2)
    | (go_at_call 11; (with_reducible refine (cP2 _).mono ?_); rintro e w3 ⟨a2, c2, rfl, o2, b3⟩; have st : St2 w w3 _ _ P := ⟨hb1.trans (b3.mono hb1.size), o1.step b3, o2⟩; have cG1 := HG1.out w3 _ st.o1.has; clear cP2 b3 hb1 o1 o2 HG1)
    | (go_at_call 12; (with_reducible refine cG1.mono ?_); rintro e w4 ⟨rfl, b4⟩; replace st := st.step b4; have cG2 := HG2.out w4 _ st.o2.has; clear cG1 b4 HG2)
    | (go_at_call 13; (with_reducible refine cG2.mono ?_); rintro e w5 ⟨rfl, b5⟩; replace st := st.step b5; have cS := HS.out w5 _ _ st.o1.has st.o2.has; clear cG2 b5 HS)
    | (go_at_call 14; (with_reducible refine cS.mono ?_); rintro e w6 ⟨rfl, b6⟩; replace st := st.step b6; have cJ1 := HJ1.out w6 _ st.o1.has; clear cS b6 HJ1)
    | (go_at_call 15; (with_reducible refine cJ1.mono ?_); rintro e w7 ⟨rfl, b7⟩; replace st := st.step b7; have cJ2 := HJ2.out w7 _ st.o2.has; clear cJ1 b7 HJ2)
    | (go_at_call 16; (with_reducible refine cJ2.mono ?_); rintro e w8 ⟨rfl, hw⟩; rw [← hw]; clear cJ2 hw w8)
    | (go_at_call 17; (with_reducible refine (cU1 _).mono ?_); rintro e w10 ⟨rfl, b10⟩; replace st := st.step b10; clear cU1 b10)
    | (go_at_call 18; (with_reducible refine (cU2 _).mono ?_); rintro e w11 ⟨rfl, b11⟩; replace st := st.step b11; have cA1 := HA1.out w11 _ st.o1.has; clear cU2 b11 HA1)
    | (go_at_call 20; (with_reducible refine cA1.mono ?_); rintro e w12 ⟨u1, rfl, y1, b12⟩; obtain ⟨ya, yc, rfl⟩ := y1.shape; replace st := st.step b12; have cA2 := HA2.out w12 _ st.o2.has; clear cA1 b12 HA2)
    | (go_at_call 21; (with_reducible refine cA2.mono ?_); rintro e w13 ⟨u2, rfl, y2, b13⟩; obtain ⟨yb, yd, rfl⟩ := y2.shape; replace st := st.step b13; have cT := HT.out w13 _ _ (y1.step b13) y2; clear cA2 b13 HT y1 y2)
    | (go_at_call 19; (with_reducible refine cT.mono ?_); rintro e w14 ⟨rfl, b14⟩; replace st := st.step b14; have cQ1 := HQ1.out w14 (hv.keep st.bel); clear cT b14 HQ1)
    | (go_at_call 22; (with_reducible refine cQ1.mono ?_); rintro e w15 ⟨rfl, b15⟩; replace st := st.step b15; clear cQ1 b15)
    | (go_at_call 23; (with_reducible refine (cQ2 _).mono ?_); rintro e w16 ⟨rfl, b16⟩; replace st := st.step b16; clear cQ2 b16)
    | (go_at_call 24; (with_reducible refine (cR1 _).mono ?_); rintro e w17 ⟨rfl, b17⟩; replace st := st.step b17; clear cR1 b17)
    | (go_at_call 25; (with_reducible refine (cR2 _).mono ?_); rintro e w18 ⟨rfl, hw⟩; rw [← hw]; clear cR2 hw w18))
  go_ret
  exact ⟨rfl, st.bel⟩
theorem tells_any (s nm val : ByteArray) (w : World) (hv : Vars w) : Calls Tryd.prog 3 #[.string s, .string nm, .string val] w fun e w' => e = .returned (.bool true) ∧ Below w.heap.size w w' := by
  by_cases h : s.size ≤ 5000 ∧ nm.size ≤ 5000 ∧ val.size ≤ 5000
  · exact tells_short s nm val h.1 h.2.1 h.2.2 w hv
  · exact tells_long s nm val h w hv
end Go.Proofs.YtocghngmjipjoaaDoor
