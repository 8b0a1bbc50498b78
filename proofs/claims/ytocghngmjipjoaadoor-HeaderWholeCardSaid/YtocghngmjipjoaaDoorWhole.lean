/- HeaderWhole: the fields' bytes are the header section, and each field alone, and all of them joined, are read again as they were. -/
import Derived.Test.YtocghngmjipjoaaDoorTells
import Derived.BigQuiet
namespace Go.Proofs.YtocghngmjipjoaaDoor
open Go.ChangeShapes Go.WideShapes Go.ChangeAt Go.RowKit
open LinesP HdrP

theorem whole_long (s : ByteArray) (h : ¬ s.size ≤ 5000) (w : World) (hv : Vars w) : Calls Tryd.prog 4 #[.string s] w fun e w' => e = .returned (.bool true) ∧ Below w.heap.size w w' := by
  have hS := small_any w hv
  have f1 := fun w => few_any s w
  rw [decide_eq_false h] at f1
  clear h
  go_enter Tryd.func4, Tryd.ntmps4
  go_wp2_with (first
    | (go_at_call 8; (refine hS.mono ?_); rintro e w' ⟨rfl, hb⟩; clear hS)
    | (go_at_call 9; (refine (f1 _).mono ?_); rintro e w9 ⟨rfl, hw⟩; rw [← hw]; clear hw w9 f1))
  go_ret
  exact ⟨rfl, hb⟩
/-- Older memory, and the fields. -/
structure St1 (w0 w : World) (u : Value) (P : List Fld) : Prop where
  bel : Below w0.heap.size w0 w
  o1 : OwnF w u P
theorem St1.step {w0 w w' : World} {u : Value} {P : List Fld} (h : St1 w0 w u P) (hb : Below w.heap.size w w') : St1 w0 w' u P := ⟨h.bel.trans (hb.mono h.bel.size), h.o1.step hb⟩
theorem St1.at {w0 w : World} {a : Option Addr} {n c : Nat} {P : List Fld} (h : St1 w0 w (.slice a n c) P) (hn : 0 < n) : ∃ g, a = some ⟨g, 0, none⟩ ∧ ∀ k f, P[k]? = some f → w.cell? ⟨g, k * 4, none⟩ = some (.string (strL f.name)) ∧ w.cell? ⟨g, k * 4 + 1, none⟩ = some (.string (strL f.value)) ∧ w.cell? ⟨g, k * 4 + 2, none⟩ = some (.string (strL f.raw)) ∧ w.cell? ⟨g, k * 4 + 3, none⟩ = some (.bool f.bad) := by
  obtain ⟨g, rfl, hf⟩ := h.o1.at hn
  refine ⟨g, rfl, fun k f hk => ?_⟩
  have := hf k f hk
  rwa [Nat.zero_add] at this
theorem one_at {w : World} {a : Option Addr} {c : Nat} {f : Fld} (h : OwnF w (.slice a 1 c) [f]) : ∃ g, a = some ⟨g, 0, none⟩ ∧ w.cell? ⟨g, 0, none⟩ = some (.string (strL f.name)) ∧ w.cell? ⟨g, 1, none⟩ = some (.string (strL f.value)) ∧ w.cell? ⟨g, 2, none⟩ = some (.string (strL f.raw)) ∧ w.cell? ⟨g, 3, none⟩ = some (.bool f.bad) := by
  obtain ⟨g, rfl, hf⟩ := h.at (by decide)
  exact ⟨g, rfl, hf 0 f rfl⟩
theorem empty_is (l : List UInt8) : (strL l).toList.isEmpty = l.isEmpty := by rw [ByteArray.toList_eq, strL_list]
set_option maxRecDepth 1000000 in
set_option maxHeartbeats 4000000 in
theorem whole_short (s : ByteArray) (h1 : s.size ≤ 5000) (w : World) (hv : Vars w) : Calls Tryd.prog 4 #[.string s] w fun e w' => e = .returned (.bool true) ∧ Below w.heap.size w w' := by
  have hS := small_any w hv
  have f1 := fun w => few_any s w
  rw [decide_eq_true h1] at f1
  have hfew := fields_few s.data.toList
  have hraw := raws_small s.data.toList
  rw [← size_list] at hfew hraw
  have cP1 := fun w hv => parse_any s (by omega) w hv
  have hone := parse_one s.data.toList
  obtain ⟨_, hj2, hj3⟩ := parse_join s.data.toList
  rw [← raws_is] at hj2 hj3
  obtain ⟨line, rest, hp1, hp2, hp3⟩ := at_parts s.data.toList
  rw [← raws_is] at hp1 hp2
  have hrl := fun k f h => raw_le (parseL s.data.toList) k f h
  generalize atL s.data.toList = M at cP1 hp2
  generalize parseL s.data.toList = P at cP1 hfew hraw hone hj2 hj3 hp1 hp2 hrl
  have cJ1 := fun (w : World) (v : Value) (h : HasF w v P) => join_any v P w h (by omega) (by omega)
  have sJ : (strL (rawsL P)).size = (rawsL P).length := strL_size _
  have cPJ := fun w hv => parse_is (strL (rawsL P)) P (rawsL P).length (by omega) hj2 hj3 w hv
  obtain ⟨J, hJ⟩ : ∃ J, strL (rawsL P) = J := ⟨_, rfl⟩
  have lJ : J.data.toList = rawsL P := by rw [← hJ]; rfl
  rw [hJ] at cJ1 sJ cPJ
  rw [← sJ] at cPJ hp2 hraw
  have hslen : s.size = J.size + line.length + rest.length := by
    have := congrArg List.length hp1
    rw [← size_list, List.length_append, List.length_append, ← sJ] at this
    exact this
  have hMle : M ≤ s.size := by omega
  have hJM : J.size ≤ M := by omega
  have R1 := run_slice_to s J.size (J.size : Int) rfl (by omega)
  rw [show s.extract 0 J.size = J from bytes_is (by rw [part_start s _ (by omega), hp1, List.append_assoc, sJ, List.take_left' rfl, lJ])] at R1
  have R2 := run_slice_str s J.size M (M : Int) rfl hJM hMle
  rw [show s.extract J.size M = strL line from bytes_is (by
    rw [part_of s _ _ hJM hMle, hp1, List.append_assoc, sJ, List.drop_left' rfl, List.take_append_of_le_length (by omega), List.take_of_length_le (by omega)])] at R2
  have cS := fun (w : World) (u v : Value) (h : HasF w u P) (k : HasF w v P) => sameF_any h k (show P.length ≤ 1000000 by omega)
  simp only [decide_true] at cS
  obtain ⟨N, hN⟩ : ∃ N, P.length = N := ⟨_, rfl⟩
  rw [hN] at cP1 hfew
  have HN := Lib.hid hN
  have HONE := Lib.hid hone
  have HRL := Lib.hid hrl
  have HS := Lib.hid cS
  have HP1 := Lib.hid cP1
  have HJ1 := Lib.hid cJ1
  have HPJ := Lib.hid cPJ
  have g1 : ¬ (M : Int) < (J.size : Int) := by omega
  have g2 : ¬ (s.size : Int) < (M : Int) := by omega
  have gj : (J.toList != J.toList) = false := by simp
  have hln : (line = [] ∧ M = s.size) ∨ line = [10] ∨ line = [13, 10] := by
    rcases hp3 with ⟨e1, e2⟩ | e | e
    · left; subst e1; subst e2; simp at hslen hp2; exact ⟨rfl, by omega⟩
    · exact .inr (.inl e)
    · exact .inr (.inr e)
  have HSJ := Lib.hid (And.intro sJ hraw)
  clear hN hone hrl cS cP1 cJ1 cPJ hj2 hj3 hp1 hp2 hp3 sJ hJ lJ hslen hraw
  obtain ⟨X, hX⟩ : ∃ X, strL line = X := ⟨_, rfl⟩
  rw [hX] at R2
  have hXc : (X = ⟨#[]⟩ ∧ M = s.size) ∨ X = ⟨#[10]⟩ ∨ X = ⟨#[13, 10]⟩ := by
    rcases hln with ⟨e, e2⟩ | e | e
    · exact .inl ⟨by rw [← hX, e]; rfl, e2⟩
    · exact .inr (.inl (by rw [← hX, e]; rfl))
    · exact .inr (.inr (by rw [← hX, e]; rfl))
  clear hX hln
  have hXd : (X = ⟨#[]⟩ ∧ ((M : Int) != (s.size : Int)) = false) ∨ (X = ⟨#[10]⟩ ∧ (0 : Int) = 0) ∨ (X = ⟨#[13, 10]⟩ ∧ (0 : Int) = 0) := by
    rcases hXc with ⟨e, e2⟩ | e | e
    · exact .inl ⟨e, by rw [e2]; simp⟩
    · exact .inr (.inl ⟨e, rfl⟩)
    · exact .inr (.inr ⟨e, rfl⟩)
  clear hXc
  rcases hXd with ⟨hx, gM2⟩ | ⟨hx, gM2⟩ | ⟨hx, gM2⟩
  all_goals
    rw [hx] at R2
    clear hx
    go_enter Tryd.func4, Tryd.ntmps4
    go_wp2_with (first
      | (go_at_call 8; (refine hS.mono ?_); rintro e w1 ⟨rfl, hb1⟩; clear hS)
      | (go_at_call 9; (refine (f1 _).mono ?_); rintro e w9 ⟨rfl, hw⟩; rw [← hw]; clear hw w9 f1; have cP1 := HP1.out w1 (hv.keep hb1); clear HP1)
      | (go_at_call 10; (with_reducible refine cP1.mono ?_); rintro e w2 ⟨a1, c1, rfl, o1, b2⟩; have st : St1 w w2 _ P := ⟨hb1.trans (b2.mono hb1.size), o1⟩; clear cP1 b2 hb1 o1; have cJ1 := HJ1.out w2 _ st.o1.has; clear HJ1)
      | (go_at_call 15; (with_reducible refine cJ1.mono ?_); rintro e w3 ⟨rfl, b3⟩; replace st := st.step b3; clear cJ1 b3))
    have HST := Lib.hid st
    clear st R1 R2 gj g1 g2
    go_loopw [8] (fun i wr => ∃ k : Nat, k ≤ N ∧ i = .int .i64 k ∧ Hid (St1 w wr (.slice a1 N c1) P)) (fun i _ => N - (intOf i).toNat)
    case atStart => exact ⟨0, Nat.zero_le _, rfl, HST⟩
    case round =>
      obtain ⟨k, hk, rfl, hst⟩ := hrel
      have F1 : IntKind.i64.wrap ((k : Int) + 1) = (k : Int) + 1 := by rw [IntKind.wrap_i64]; omega
      by_cases hlt : k < N
      · have hlt' : (k : Int) < (N : Int) := by omega
        obtain ⟨f, hf⟩ : ∃ f, P[k]? = some f := ⟨_, List.getElem?_eq_getElem (by rw [HN.out]; exact hlt)⟩
        obtain ⟨o1, o2, o3, o4⟩ := HONE.out f (List.mem_of_getElem? hf)
        have hrz := HRL.out k f hf
        have hsj := HSJ.out
        have cF := fun w hv => parse_is (strL f.raw) [f] f.raw.length (by rw [strL_size]; omega) o2 o3 w hv
        have eR : (strL f.raw).toList.isEmpty = false := by rw [empty_is]; cases hr : f.raw with | nil => exact absurd hr o1 | cons a b => rfl
        have eN : (strL f.name).toList.isEmpty = f.bad := by rw [empty_is, o4]
        have hEq := run_equal_fld f f
        rw [decide_eq_true rfl] at hEq
        have sR : (strL f.raw).size = f.raw.length := strL_size _
        rw [← sR] at cF
        have cF' : ∀ w, Vars w → Calls Tryd.prog 10 #[.string (strL f.raw)] w fun e w' => ∃ h c, e = .returned (.tuple #[.slice (some ⟨h, 0, none⟩) 1 c, .int .i64 ((strL f.raw).size : Nat)]) ∧ (w'.cell? ⟨h, 0, none⟩ = some (.string (strL f.name)) ∧ w'.cell? ⟨h, 1, none⟩ = some (.string (strL f.value)) ∧ w'.cell? ⟨h, 2, none⟩ = some (.string (strL f.raw)) ∧ w'.cell? ⟨h, 3, none⟩ = some (.bool f.bad)) ∧ Below w.heap.size w w' := fun w hv => (cF w hv).mono (by
          rintro e w' ⟨a, c, rfl, ho, hb⟩
          obtain ⟨h, rfl, hh⟩ := one_at ho
          exact ⟨h, c, rfl, hh, hb⟩)
        have hkk : ∀ w', St1 w w' (.slice a1 N c1) P → ∃ g, a1 = some ⟨g, 0, none⟩ ∧ w'.cell? ⟨g, k * 4, none⟩ = some (.string (strL f.name)) ∧ w'.cell? ⟨g, k * 4 + 1, none⟩ = some (.string (strL f.value)) ∧ w'.cell? ⟨g, k * 4 + 2, none⟩ = some (.string (strL f.raw)) ∧ w'.cell? ⟨g, k * 4 + 3, none⟩ = some (.bool f.bad) := fun w' h => by
          obtain ⟨g, e, hh⟩ := h.at (by omega)
          exact ⟨g, e, hh k f hf⟩
        generalize strL f.name = x1 at hEq eN cF' hkk
        generalize strL f.value = x2 at hEq cF' hkk
        generalize strL f.raw = x3 at hEq eR cF' hkk
        generalize f.bad = x4 at hEq eN cF' hkk
        obtain ⟨g, rfl, p0, p1, p2, p3⟩ := hkk _ hst.out
        have HKK := Lib.hid hkk
        have cF2 := cF' wr (hv.keep hst.out.bel)
        clear hf o1 o2 o3 o4 hrz hsj cF sR cF' hkk
        go_wp2_with (go_at_call 10; (with_reducible refine cF2.mono ?_); rintro e w4 ⟨h, c, rfl, ⟨q0, q1, q2, q3⟩, b4⟩; have hst4 := Lib.hid (hst.out.step b4); clear cF2 b4 p0 p1 p2 p3)
        obtain ⟨g', e', p0, p1, p2, p3⟩ := HKK.out _ hst4.out
        injection e' with e'
        injection e' with e'
        subst e'
        clear HKK
        cases x4
        all_goals
          go_quiet (fail)
          go_wp2_with fail
          go_roundw
          case rel => exact ⟨k + 1, by omega, by go_num, Lib.hid (hst4.out.step (drew_below _ _))⟩
          case measure => simp [intOf]; omega
      · obtain rfl : k = N := by omega
        have hlt' : ¬ (k : Int) < (k : Int) := by omega
        have cPJ := HPJ.out wr (hv.keep hst.out.bel)
        rw [HN.out] at cPJ
        go_wp2_with (first
          | (go_at_call 10; (with_reducible refine cPJ.mono ?_); rintro e w4 ⟨a2, c2, rfl, ho4, b4⟩; have hst4 := Lib.hid (hst.out.step b4); clear cPJ b4; have cS := HS.out w4 _ _ ho4.has hst4.out.o1.has)
          | (go_at_call 14; (with_reducible refine cS.mono ?_); rintro e w5 ⟨rfl, b5⟩; have hst5 := Lib.hid (hst4.out.step b5); clear cS b5))
        go_ret
        exact ⟨rfl, hst5.out.bel⟩
theorem whole_any (s : ByteArray) (w : World) (hv : Vars w) : Calls Tryd.prog 4 #[.string s] w fun e w' => e = .returned (.bool true) ∧ Below w.heap.size w w' := by
  by_cases h : s.size ≤ 5000
  · exact whole_short s h w hv
  · exact whole_long s h w hv
end Go.Proofs.YtocghngmjipjoaaDoor
