/- The reference's List. charset.Runes: the code points of a string, into a slice that has room for all. The reference: what a code point is, its encoding, and names in lower case. The reference: names in lower case, the number of a character set, whether a name is known. Of no program: how long the parameters are that a short string gives. -/
import Derived.Test.YtdinachiiimngaaGreatDoorKCtRPair
import Derived.Test.YtdinachiiimngaaGreatDoorKCtRVal
import Derived.Test.YtdinachiiimngaaGreatDoorKCtPrm
import Derived.Test.YtdinachiiimngaaGreatDoorK9
import Derived.BigCall
import Derived.Laws.OwnMore
import Derived.Test.YtdinachiiimngaaGreatDoorK10
import Derived.Test.YtdinachiiimngaaGreatDoorK1
import Derived.Deep.RegionWith
import Derived.Test.YtdinachiiimngaaGreatDoorK12
namespace Go.Proofs.YtdinachiiimngaaGreatDoor
open Go.ChangeShapes Go.WideShapes Go.ChangeAt Go.RowKit
open TokP AdrP CtP

theorem szA_mem {all : List Par} {p : Par} (h : p ∈ all) : p.value.length ≤ szA all := by
  unfold szA
  induction all with
  | nil => cases h
  | cons q l ih =>
    rw [List.map_cons, List.sum_cons]
    rcases List.mem_cons.1 h with rfl | h
    · omega
    · have := ih h; omega
theorem allK_len {rows : List (List TokP.Tok)} {k : Nat} : (allK rows k).length ≤ k := by
  unfold allK
  refine Nat.le_trans (List.length_filterMap_le _ _) ?_
  rw [List.length_take]; omega
theorem decide_seen {ALL : List Par} {q : Nat} {r : Par} {n : List UInt8} (h : ALL[q]? = some r) : decide (n ∉ seenP ALL (q + 1)) = (decide (n ∉ seenP ALL q) && !decide (r.name = n)) := by
  rw [seen_succ h, Bool.eq_iff_iff]
  simp only [List.mem_cons, not_or, decide_eq_true_eq, Bool.and_eq_true, Bool.not_eq_true', decide_eq_false_iff_not]
  exact ⟨fun ⟨a, b⟩ => ⟨b, fun e => a e.symm⟩, fun ⟨a, b⟩ => ⟨fun e => b e.symm, a⟩⟩
set_option maxRecDepth 100000 in
set_option maxHeartbeats 16000000 in
theorem rlist_any (cU : RUnhexOk) {rep : List UInt8 → List UInt8} {dec : List UInt8 → List UInt8 → List UInt8} (cR : RRepairOk rep) (cD : RDecodeOk dec) (v : Value) (rows : List (List TokP.Tok)) (hn : rows.length ≤ 800000) (hr : ∀ x ∈ rows, x.length ≤ 800000) (hz : szR rows ≤ 9999) (LP : List (List UInt8 × List UInt8)) (hLP : listP rep dec numF rows = LP) (w : World) (h : Hid (RwsAt w v rows)) :
    Calls Tryz.prog 40 #[v] w fun e w' => ∃ a c, e = .returned (.slice a LP.length c) ∧ OwnP w' (.slice a LP.length c) LP ∧ Below w.heap.size w w' := by
  obtain ⟨a, c, rfl⟩ := h.out.form
  obtain ⟨n, hnn⟩ : ∃ n, rows.length = n := ⟨_, rfl⟩
  rw [hnn] at h hn ⊢
  have HN := Lib.hid hnn
  have HR := Lib.hid hr
  have HZ := Lib.hid hz
  have HLP := Lib.hid hLP
  have HW := h
  have CU := Lib.hid cU
  have CR := Lib.hid cR
  have CD := Lib.hid cD
  clear hnn hr hz hLP h cU cR cD
  go_enter Tryz.func40, Tryz.ntmps40
  go_wp2_with fail
  go_loopw [3, 4] (fun lv i wr => ∃ (k e : Nat), k ≤ n ∧ e ≤ k ∧ i = .int .i64 k ∧ (∃ a c, lv = .slice a e c) ∧ Hid ((allK rows k).length = e) ∧ Hid (wr.ownsRow w.heap.size 105 4 lv (allK rows k).length (onesV (allK rows k))) ∧ Hid (Below w.heap.size w wr)) (fun _ i _ => n - (intOf i).toNat)
  case atStart => exact ⟨0, 0, Nat.zero_le _, Nat.le_refl _, rfl, ⟨none, 0, rfl⟩, Lib.hid (by unfold allK; rfl), Lib.hid (World.ownsRow_nil _ _ _ _), Lib.hid (Below.refl _ _)⟩
  case round =>
    obtain ⟨k, e, hk, hek, rfl, ⟨la, lc, rfl⟩, HL, HO, HB⟩ := hrel
    have F1 : IntKind.i64.wrap ((k : Int) + 1) = (k : Int) + 1 := by rw [IntKind.wrap_i64]; omega
    by_cases hlt : k < n
    · have hlt' : (k : Int) < (n : Int) := by omega
      obtain ⟨g, o, rfl, hrow⟩ := (HW.out.step HB.out).at (by omega)
      obtain ⟨x, hx⟩ : ∃ x, rows[k]? = some x := ⟨_, List.getElem?_eq_getElem (by rw [HN.out]; exact hlt)⟩
      obtain ⟨u, hu, hT⟩ := hrow k x hx
      have HT := Lib.hid hT
      have hxm := List.mem_of_getElem? hx
      have hx1 := HR.out x hxm
      have hx2 := row_le hxm
      have hx3 := HZ.out
      have hk4 : e ≤ 4000000 := by omega
      cases hp : pairP numF [] x with
      | none =>
        have cP := fun W (h : Hid (HasT W u x)) => rpair_any u x (by omega) (by omega) none hp W h
        have hak := allK_none hx hp
        have HAK := Lib.hid hak
        clear hrow hT hx hxm hx1 hx2 hx3 hp hak
        go_wp2_with (go_at_call 74; (with_reducible refine (cP _ HT).mono ?_); rintro ee w2 ⟨q, rfl, hq, hb2⟩; have hba := hb2.alloc hb2.size (.cells #[.string (strL q.name), .int .i64 (secZ q.sec), .bool q.wide, .string (strL q.value)] 105); have HB2 := Lib.hid (HB.out.trans (hba.mono HB.out.size)); have HO2 := Lib.hid (own_below HO.out hba); clear hb2 hba cP hq)
        go_roundw
        case rel => exact ⟨k + 1, e, by omega, by omega, by go_num, ⟨la, lc, rfl⟩, by rw [HAK.out]; exact HL, by rw [HAK.out]; exact HO2, HB2⟩
        case measure => simp [intOf]; omega
      | some p =>
        have cP := fun W (h : Hid (HasT W u x)) => rpair_any u x (by omega) (by omega) (some p) hp W h
        have hak := allK_some hx hp
        have HAK := Lib.hid hak
        have HL2 := Lib.hid (show (allK rows k ++ [p]).length = e + 1 by rw [List.length_append, HL.out]; rfl)
        clear hrow hT hx hxm hx1 hx2 hx3 hp hak
        go_wp2_with (first
          | (go_at_call 74; (with_reducible refine (cP _ HT).mono ?_); rintro ee w2 ⟨q, rfl, hq, hb2⟩; have hq2 := hq p rfl; subst hq2; have hba := hb2.alloc hb2.size (.cells #[.string (strL p.name), .int .i64 (secZ p.sec), .bool p.wide, .string (strL p.value)] 105); have HB2 := Lib.hid (HB.out.trans (hba.mono HB.out.size)); have HO2 := Lib.hid (own_below HO.out hba); have HX2 := Lib.hid (ox_new w2 (strL p.name) (strL p.value) (secZ p.sec) p.wide); obtain ⟨z0, z1, z2, z3, zf⟩ := HX2.out.all; clear hb2 hba cP hq)
          | (at_builtin; refine wpList_appO (by rfl) (.tmp 28) (.tmp 30) rfl rfl w.heap.size p rfl (by rw [World.size_alloc]; rfl) HO2.out HL.out HB2.out.size hk4 ?_; intro a7 c7 w7 h7 g7; have HO7 := Lib.hid h7; have HB7 := Lib.hid ((HB2.out.alloc HB2.out.size _).grown g7 (by rw [World.size_alloc]; have := HB2.out.size; omega) (fun g hg => (HO2.out.lt g hg).1)); clear h7 g7))
        go_roundw
        case rel => exact ⟨k + 1, e + 1, by omega, by omega, by go_num, ⟨_, _, rfl⟩, by rw [HAK.out]; exact HL2, by rw [HAK.out]; exact HO7, HB7⟩
        case measure => simp [intOf]; omega
    · obtain rfl : k = n := by omega
      have hlt' : ¬ (k : Int) < (k : Int) := by omega
      have hAK : allK rows k = rows.filterMap (pairP numF []) := by unfold allK; rw [← HN.out, List.take_length]
      have hlp := HLP.out
      unfold listP at hlp
      rw [← hAK] at hlp
      have hvz : ∀ p ∈ allK rows k, p.value.length ≤ 9999 := fun p hp => by
        have h1 := szA_mem hp
        have h2 := all_sum numF rows
        rw [← hAK] at h2
        have h3 := HZ.out
        omega
      obtain ⟨ALL, hALL⟩ : ∃ A, allK rows k = A := ⟨_, rfl⟩
      rw [hALL] at hlp hvz HL HO
      have HP0 := Lib.hid (show ([] : List (List UInt8 × List UInt8)) ++ listG rep dec ALL (seenP ALL 0) (ALL.drop 0) = LP by rw [List.nil_append, List.drop_zero]; exact hlp)
      have HVZ := Lib.hid hvz
      have he6 : e ≤ 800000 := by omega
      have HHO : Hid (HasO wr (.slice la e lc) ALL) := Lib.hid (by
        have h := HO.out
        have hl := HL.out
        clear HO HL
        subst hl
        exact OwnO.has (show OwnO wr (.slice la ALL.length lc) ALL from ⟨_, h⟩))
      obtain ⟨WB, hWB⟩ : ∃ WB, WB = wr := ⟨_, rfl⟩
      subst hWB
      clear hAK hlp hvz hALL hlt hlt' HLP HR HZ HW
      go_wp2_with fail
      go_loopw [7, 8] (fun lv i w2 => ∃ (j m2 : Nat) (OUT : List (List UInt8 × List UInt8)), j ≤ e ∧ i = .int .i64 j ∧ m2 ≤ j ∧ (∃ a c, lv = .slice a m2 c) ∧ Hid (OUT.length = m2) ∧ Hid (w2.ownsRow WB.heap.size 37 2 lv OUT.length (pmsV OUT)) ∧ Hid (Below WB.heap.size WB w2) ∧ Hid (OUT ++ listG rep dec ALL (seenP ALL j) (ALL.drop j) = LP)) (fun _ i _ => e - (intOf i).toNat)
      case atStart => exact ⟨0, 0, [], Nat.zero_le _, rfl, Nat.le_refl _, ⟨none, 0, rfl⟩, Lib.hid rfl, Lib.hid (World.ownsRow_nil _ _ _ _), Lib.hid (Below.refl _ _), HP0⟩
      case round =>
        obtain ⟨j, m2, OUT, hj, rfl, hm2, ⟨oa, oc, rfl⟩, HOL, HOO, HB2, HP⟩ := hrel
        obtain ⟨WC, hWC⟩ : ∃ WC, WC = wr := ⟨_, rfl⟩
        subst hWC
        have F2 : IntKind.i64.wrap ((j : Int) + 1) = (j : Int) + 1 := by rw [IntKind.wrap_i64]; omega
        by_cases hjl : j < e
        · have hjl' : (j : Int) < (e : Int) := by omega
          obtain ⟨p, hp⟩ : ∃ p, ALL[j]? = some p := ⟨_, List.getElem?_eq_getElem (by rw [HL.out]; exact hjl)⟩
          obtain ⟨g, o, rfl, hfa⟩ := HHO.out.at (by omega)
          have HFA := Lib.hid hfa
          have hstep := list_step (rep := rep) (dec := dec) hp
          have hpp := HP.out
          rw [hstep] at hpp
          have HPP := Lib.hid hpp
          have HPJ := Lib.hid hp
          obtain ⟨VV, hVV⟩ : ∃ V, valueP rep dec ALL p.name = V := ⟨_, rfl⟩
          have cV := fun W (h : Hid (HasO W (.slice (some ⟨g, o, none⟩) ALL.length lc) ALL)) => rvaluep_any CU.out CR.out CD.out (.slice (some ⟨g, o, none⟩) ALL.length lc) ALL p.name (by rw [HL.out]; omega) HVZ.out VV hVV W h
          have HVE := Lib.hid hVV
          have cV := fun W (h : Hid (HasO W (.slice (some ⟨g, o, none⟩) e lc) ALL)) => (HL.out ▸ cV W (HL.out.symm ▸ h) : Calls Tryz.prog 75 #[.slice (some ⟨g, o, none⟩) e lc, .string (strL p.name)] W fun e w' => e = .returned (.tuple #[.string (strL (VV.getD [])), .bool VV.isSome]) ∧ Below W.heap.size W w')
          have HOP := Lib.hid (fun (W : World) (h : Below WB.heap.size WB W) => (hfa.step h j p hp).1)
          clear hstep hpp hp hVV hfa
          have hp0 := HOP.out WC HB2.out
          go_wp2_with fail
          go_loopw [9, 10] (fun b i w3 => ∃ (q : Nat) (bb : Bool), q ≤ j ∧ i = .int .i64 q ∧ b = .bool bb ∧ Hid (decide (p.name ∉ seenP ALL q) = bb) ∧ Hid (Below WB.heap.size WB w3) ∧ Hid (w3.ownsRow WB.heap.size 37 2 (.slice oa m2 oc) OUT.length (pmsV OUT))) (fun _ i _ => j - (intOf i).toNat)
          case atStart => exact ⟨0, true, Nat.zero_le _, rfl, rfl, Lib.hid (decide_eq_true (fun h => by obtain ⟨i, _, hi, _⟩ := seen_mem.1 h; exact Nat.not_lt_zero _ hi)), HB2, HOO⟩
          case round =>
            obtain ⟨q, bb, hq, rfl, rfl, HBB, HB3, HO3⟩ := hrel
            have F3 : IntKind.i64.wrap ((q : Int) + 1) = (q : Int) + 1 := by rw [IntKind.wrap_i64]; omega
            have p0 := HOP.out _ HB3.out
            by_cases hqj : q < j
            · have hqj' : (q : Int) < (j : Int) := by omega
              have hqe' : (q : Int) < (e : Int) := by omega
              obtain ⟨r, hr⟩ : ∃ r, ALL[q]? = some r := ⟨_, List.getElem?_eq_getElem (by rw [HL.out]; omega)⟩
              have q0 := (HFA.out.step HB3.out q r hr).1
              have hds := decide_seen (n := p.name) hr
              rw [HBB.out] at hds
              cases bb with
              | false =>
                have HD := Lib.hid (show decide (p.name ∉ seenP ALL (q + 1)) = false from hds)
                clear hds hr cV
                generalize strL r.name = X1 at q0
                generalize strL p.name = X2 at p0 hp0
                go_wp2_with fail
                go_quiet (fail)
                go_wp2_with fail
                go_roundw
                case rel => exact ⟨q + 1, false, by omega, by go_num, rfl, HD, Lib.hid (below_drewV HB3.out _), Lib.hid (own_below HO3.out (below_drewV (Below.refl _ _) _))⟩
                case measure => simp [intOf]; omega
              | true =>
                have e1 := eq_strL r.name p.name
                by_cases hne : r.name = p.name
                · rw [decide_eq_true hne] at e1
                  have e2 : ((strL r.name).toList != (strL p.name).toList) = false := by rw [bne, e1]; rfl
                  have HD := Lib.hid (show decide (p.name ∉ seenP ALL (q + 1)) = false by rw [hds, decide_eq_true hne]; rfl)
                  clear hds hr cV hne
                  generalize strL r.name = X1 at q0 e1 e2
                  generalize strL p.name = X2 at p0 e1 e2 hp0
                  go_wp2_with fail
                  go_quiet (fail)
                  go_wp2_with fail
                  go_roundw
                  case rel => exact ⟨q + 1, false, by omega, by go_num, rfl, HD, Lib.hid (below_drewV HB3.out _), Lib.hid (own_below HO3.out (below_drewV (Below.refl _ _) _))⟩
                  case measure => simp [intOf]; omega
                · rw [decide_eq_false hne] at e1
                  have e2 : ((strL r.name).toList != (strL p.name).toList) = true := by rw [bne, e1]; rfl
                  have HD := Lib.hid (show decide (p.name ∉ seenP ALL (q + 1)) = true by rw [hds, decide_eq_false hne]; rfl)
                  clear hds hr cV hne
                  generalize strL r.name = X1 at q0 e1 e2
                  generalize strL p.name = X2 at p0 e1 e2 hp0
                  go_wp2_with fail
                  go_quiet (fail)
                  go_wp2_with fail
                  go_roundw
                  case rel => exact ⟨q + 1, true, by omega, by go_num, rfl, HD, Lib.hid (below_drewV HB3.out _), Lib.hid (own_below HO3.out (below_drewV (Below.refl _ _) _))⟩
                  case measure => simp [intOf]; omega
            · obtain rfl : q = j := by omega
              have hqj' : ¬ (q : Int) < (q : Int) := by omega
              have HH3 := Lib.hid (HHO.out.step HB3.out)
              have HNX := Lib.hid (seen_succ HPJ.out)
              cases bb with
              | false =>
                have hin : p.name ∈ seenP ALL q := by
                  have := HBB.out
                  rw [decide_eq_false_iff_not, Decidable.not_not] at this; exact this
                have hpp := HPP.out
                rw [if_pos hin, List.nil_append] at hpp
                have HPF := Lib.hid hpp
                clear hin hpp
                go_wp2_with (go_at_call 75; (with_reducible refine (cV _ HH3).mono ?_); rintro ee w5 ⟨rfl, hb5⟩; have HB5 := Lib.hid (HB3.out.trans (hb5.mono HB3.out.size)); have HO5 := Lib.hid (own_below HO3.out hb5); clear hb5 cV)
                go_roundw
                case rel => exact ⟨q + 1, m2, OUT, by omega, by go_num, by omega, ⟨_, _, rfl⟩, HOL, HO5, HB5, HPF⟩
                case measure => simp [intOf]; omega
              | true =>
                have hin : p.name ∉ seenP ALL q := of_decide_eq_true HBB.out
                have hpp := HPP.out
                rw [if_neg hin, HVE.out] at hpp
                cases VV with
                | none =>
                  have HPF := Lib.hid (show OUT ++ listG rep dec ALL (seenP ALL (q + 1)) (ALL.drop (q + 1)) = LP from hpp)
                  simp only [Option.isSome_none, Option.getD_none] at cV
                  clear hin hpp
                  go_wp2_with (go_at_call 75; (with_reducible refine (cV _ HH3).mono ?_); rintro ee w5 ⟨rfl, hb5⟩; have HB5 := Lib.hid (HB3.out.trans (hb5.mono HB3.out.size)); have HO5 := Lib.hid (own_below HO3.out hb5); clear hb5 cV)
                  go_roundw
                  case rel => exact ⟨q + 1, m2, OUT, by omega, by go_num, by omega, ⟨_, _, rfl⟩, HOL, HO5, HB5, HPF⟩
                  case measure => simp [intOf]; omega
                | some val =>
                  have HPF := Lib.hid (show (OUT ++ [(p.name, val)]) ++ listG rep dec ALL (seenP ALL (q + 1)) (ALL.drop (q + 1)) = LP by rw [List.append_assoc]; exact hpp)
                  have HOL2 := Lib.hid (show (OUT ++ [(p.name, val)]).length = m2 + 1 by rw [List.length_append, HOL.out]; rfl)
                  simp only [Option.isSome_some, Option.getD_some] at cV
                  have hm7 : m2 ≤ 4000000 := by omega
                  clear hin hpp
                  go_wp2_with (first
                    | (go_at_call 75; (with_reducible refine (cV _ HH3).mono ?_); rintro ee w5 ⟨rfl, hb5⟩; have HB5 := Lib.hid (HB3.out.trans (hb5.mono HB3.out.size)); have HO5 := Lib.hid (own_below HO3.out hb5); clear p0 hb5 cV; have p0 := HOP.out _ HB5.out)
                    | (at_builtin; refine wpList_appP (by rfl) (.tmp 71) (.tmp 79) rfl rfl WB.heap.size (p.name, val) rfl rfl HO5.out HOL.out HB5.out.size hm7 ?_; intro a7 c7 w7 h7 g7; have HO7 := Lib.hid h7; have HB7 := Lib.hid ((HB5.out.alloc HB5.out.size _).grown g7 (by rw [World.size_alloc]; have := HB5.out.size; omega) (fun g hg => (HO5.out.lt g hg).1)); clear h7 g7))
                  go_roundw
                  case rel => exact ⟨q + 1, m2 + 1, _, by omega, by go_num, by omega, ⟨_, _, rfl⟩, HOL2, HO7, HB7, HPF⟩
                  case measure => simp [intOf]; omega
        · obtain rfl : j = e := by omega
          have hjl' : ¬ (j : Int) < (j : Int) := by omega
          have hpp := HP.out
          rw [List.drop_eq_nil_of_le (by rw [HL.out]; exact Nat.le_refl _), listG, List.append_nil] at hpp
          subst hpp
          have HFIN := Lib.hid (show ∃ a c, Ending.returned (Value.slice oa m2 oc) = .returned (.slice a OUT.length c) ∧ OwnP WC (.slice a OUT.length c) OUT from ⟨oa, oc, by rw [HOL.out], ⟨_, by have := HOO.out; rw [HOL.out] at this ⊢; exact this⟩⟩)
          go_wp2_with fail
          go_ret
          obtain ⟨a9, c9, e9, o9⟩ := HFIN.out
          exact ⟨a9, c9, e9, o9, HB.out.trans (HB2.out.mono HB.out.size)⟩
end Go.Proofs.YtdinachiiimngaaGreatDoor
namespace Go.Proofs.YtdinachiiimngaaGreatDoor.Cs
open Go.ChangeShapes Go.WideShapes Go.ChangeAt Go.RowKit

theorem info3 : (Tryz.prog.info? 3).map (fun i => (i.zero, i.size, i.bytes)) = some (some (.int .i64 0), 1, 8) := by kernel_rfl
def intsOf (l : List Nat) : List Value := l.map fun n : Nat => Value.int .i64 (n : Int)
theorem ints_one (l : List Nat) : ∀ u ∈ intsOf l, u.oneCell' = true := by
  intro u hu
  obtain ⟨c, _, rfl⟩ := List.mem_map.1 hu
  rfl
theorem add_none (g i j : Nat) : (⟨g, i, none⟩ : Addr).add j = ⟨g, i + j, none⟩ := by unfold Addr.add; split <;> simp_all
theorem ints_new (w : World) (l : List Nat) : ∀ j u, (intsOf l)[j]? = some u → (w.alloc (.cells (intsOf l).toArray 3)).cell? ((⟨w.heap.size, 0, none⟩ : Addr).add j) = some u := by
  intro j u h
  rw [add_none, Nat.zero_add]
  have := Go.heap_alloc_new w (.cells (intsOf l).toArray 3)
  simp only [World.cell?, this]
  simpa using h
theorem own_iterAt {w : World} {base : Nat} {e : TypeId} {size : Nat} {v : Value} {n : Nat} {xs : List Value} (h : w.ownsRow base e size v n xs) (k : Nat) (hk : v.ownBlock ≠ some k) (s : ByteArray) (pos : Nat) :
    (w.iterAt k s pos).ownsRow base e size v n xs :=
  h.kept (row := some k) ⟨rfl, rfl, rfl, by rw [Lib.iterAt_size]; exact Nat.le_refl _, fun j _ hne => Lib.iterAt_other w k j s pos (fun e => hne (by rw [e]))⟩ (.inr hk)

/-- A row of integers in a block of its own. -/
def RowAt (w : World) (g : Nat) (xs : List Nat) : Prop := g < w.heap.size ∧ ∀ i, i < xs.length → w.cell? ⟨g, i, none⟩ = some (.int .i64 (xs.getD i 0 : Nat))
theorem RowAt.below {w w' : World} {g : Nat} {xs : List Nat} (h : RowAt w g xs) (hb : Below w.heap.size w w') : RowAt w' g xs :=
  ⟨Nat.lt_of_lt_of_le h.1 hb.size, fun i hi => by rw [hb.cell (p := ⟨g, i, none⟩) h.1]; exact h.2 i hi⟩
theorem row_of_own {w : World} {base g n c : Nat} {xs : List Nat} (hn : n = xs.length) (h : w.ownsRow base 3 1 (.slice (some ⟨g, 0, none⟩) n c) n (intsOf xs)) : RowAt w g xs := by
  subst hn
  refine ⟨(h.lt g rfl).2, fun i hi => ?_⟩
  have := h.cells (g := g) rfl i (.int .i64 (xs.getD i 0 : Nat)) (by
    unfold intsOf
    rw [List.getElem?_map, List.getElem?_eq_getElem hi, List.getD_eq_getElem?_getD, List.getElem?_eq_getElem hi]
    rfl)
  rw [add_none, Nat.zero_add] at this
  exact this

end Go.Proofs.YtdinachiiimngaaGreatDoor.Cs
namespace Go.Proofs.YtdinachiiimngaaGreatDoor.Cs
open Go.ChangeShapes Go.WideShapes Go.ChangeAt Go.RowKit

theorem list_of (l : List UInt8) : ∃ t : ByteArray, t.data.toList = l := ⟨⟨l.toArray⟩, rfl⟩
theorem info5 : (Tryz.prog.info? 5).map (fun i => (i.zero, i.size, i.bytes)) = some (some (.int .u8 0), 1, 1) := by kernel_rfl
def cellsOf (l : List UInt8) : List Value := l.map fun c => Value.int .u8 c.toNat
theorem cellsOf_one (l : List UInt8) : ∀ u ∈ cellsOf l, u.oneCell' = true := by
  intro u hu
  obtain ⟨c, _, rfl⟩ := List.mem_map.1 hu
  rfl
theorem bytes_new (w : World) (l : List UInt8) : ∀ j u, (cellsOf l)[j]? = some u → (w.alloc (.cells (cellsOf l).toArray 5)).cell? ((⟨w.heap.size, 0, none⟩ : Addr).add j) = some u := by
  intro j u h
  rw [add_none, Nat.zero_add]
  have := Go.heap_alloc_new w (.cells (cellsOf l).toArray 5)
  simp only [World.cell?, this]
  simpa using h
theorem conv_own {w : World} {base b n cap : Nat} {l : List UInt8} (hl : l.length = n) (hown : w.ownsRow base 5 1 (.slice (some ⟨b, 0, none⟩) n cap) n (cellsOf l)) :
    (convert 59 9 (.slice (some ⟨b, 0, none⟩) n cap)).run Tryz.prog w = .ok (.string ⟨l.toArray⟩) w := by
  subst hl
  refine run_convert_bytes_back w 59 9 5 ⟨b, 0, none⟩ cap l Tryz.underlying59 Tryz.underlying5 Tryz.underlying9 fun j hj => ?_
  refine hown.cells (g := b) rfl j _ ?_
  unfold cellsOf
  rw [List.getElem?_map, List.getElem?_eq_getElem hj]; rfl
theorem conv_any {w : World} {base n : Nat} {v : Value} {l : List UInt8} (hl : l.length = n) (hown : w.ownsRow base 5 1 v n (cellsOf l)) :
    (convert 59 9 v).run Tryz.prog w = .ok (.string ⟨l.toArray⟩) w := by
  rcases hown.2 with ⟨rfl, h⟩ | ⟨g, cap, cur, rfl, _⟩
  · obtain rfl : l = [] := List.eq_nil_of_length_eq_zero (by rw [hl, h])
    kernel_rfl
  · exact conv_own hl hown
/-- The conversion of a slice that was just made. -/
theorem conv_new (l : List UInt8) (n : Nat) (hn : l.length = n) (w : World) :
    (convert 59 9 (.slice (some ⟨w.heap.size, 0, none⟩) n n)).run Tryz.prog (w.alloc (.cells (cellsOf l).toArray 5)) = .ok (.string ⟨l.toArray⟩) (w.alloc (.cells (cellsOf l).toArray 5)) := by
  subst hn
  refine run_convert_bytes_back _ 59 9 5 ⟨w.heap.size, 0, none⟩ l.length l Tryz.underlying59 Tryz.underlying5 Tryz.underlying9 fun j hj => ?_
  refine bytes_new w l j _ ?_
  unfold cellsOf
  rw [List.getElem?_map, List.getElem?_eq_getElem hj]; rfl

/-- Is an integer a code point? -/
def sgn (n : Int) : Bool := decide (0 ≤ n) && cpB n.toNat
theorem sgn_nat {n : Nat} (h : cpB n = true) : sgn (n : Int) = true := by
  unfold sgn
  rw [Int.toNat_natCast, h, decide_eq_true (Int.natCast_nonneg n)]; rfl
theorem sgn_iff (n : Int) : sgn n = true ↔ 0 ≤ n ∧ cpB n.toNat = true := by unfold sgn; rw [Bool.and_eq_true, decide_eq_true_eq]
theorem sign_any (n : Int) (b : Bool) (hb : sgn n = b) (w : World) :
    Calls Tryz.prog 220 #[.int .i64 n] w fun e w' => e = .returned (.bool b) ∧ w = w' := by
  by_cases h0 : 0 ≤ n
  · by_cases h1 : n ≤ 1114111
    · by_cases h2 : n < 55296
      · have e : b = true := by rw [← hb]; exact (sgn_iff n).2 ⟨h0, (cp_iff _).2 (by omega)⟩
        subst e
        go_enter Tryz.func220, Tryz.ntmps220
        go_wp2
        go_ret
        exact ⟨rfl, rfl⟩
      · by_cases h3 : n > 57343
        · have e : b = true := by rw [← hb]; exact (sgn_iff n).2 ⟨h0, (cp_iff _).2 (by omega)⟩
          subst e
          go_enter Tryz.func220, Tryz.ntmps220
          go_wp2
          go_ret
          exact ⟨rfl, rfl⟩
        · have e : b = false := by
            rw [← hb, Bool.eq_false_iff]
            intro h
            have := (cp_iff _).1 ((sgn_iff n).1 h).2
            omega
          subst e
          go_enter Tryz.func220, Tryz.ntmps220
          go_wp2
          go_ret
          exact ⟨rfl, rfl⟩
    · have e : b = false := by
        rw [← hb, Bool.eq_false_iff]
        intro h
        have := (cp_iff _).1 ((sgn_iff n).1 h).2
        omega
      subst e
      go_enter Tryz.func220, Tryz.ntmps220
      go_wp2
      go_ret
      exact ⟨rfl, rfl⟩
  · have e : b = false := by
      rw [← hb, Bool.eq_false_iff]
      intro h
      exact h0 ((sgn_iff n).1 h).1
    subst e
    go_enter Tryz.func220, Tryz.ntmps220
    go_wp2
    go_ret
    exact ⟨rfl, rfl⟩
theorem u8_of {n : Nat} (h : n < 256) : (UInt8.ofNat n).toNat = n := nat_byte h
/-- The encoding of a code point lies in a block of its own. -/
theorem laid_any (n : Nat) (hn : cpB n = true) (w : World) :
    Calls Tryz.prog 189 #[.int .i64 n] w fun e w' => e = .returned (.slice (some ⟨w.heap.size, 0, none⟩) (encL n).length (encL n).length) ∧ w' = w.alloc (.cells (cellsOf (encL n)).toArray 5) := by
  have hc := (cp_iff n).1 hn
  by_cases c1 : n < 128
  · have n1 : (n : Int) < 128 := by omega
    have e1 : encL n = [UInt8.ofNat n] := by unfold encL; rw [if_pos c1]
    rw [e1]
    unfold cellsOf
    simp only [List.map_cons, List.map_nil, List.length_cons, List.length_nil]
    rw [u8_of (by omega)]
    go_enter Tryz.func189, Tryz.ntmps189
    go_wp2
    go_ret
    exact ⟨rfl, rfl⟩
  · have n1 : ¬ (n : Int) < 128 := by omega
    by_cases c2 : n < 2048
    · have n2 : (n : Int) < 2048 := by omega
      have e1 : encL n = [UInt8.ofNat (192 + n / 64), UInt8.ofNat (128 + n % 64)] := by unfold encL; rw [if_neg c1, if_pos c2]
      rw [e1]
      unfold cellsOf
      simp only [List.map_cons, List.map_nil, List.length_cons, List.length_nil]
      rw [u8_of (show 192 + n / 64 < 256 by omega), u8_of (show 128 + n % 64 < 256 by omega)]
      go_enter Tryz.func189, Tryz.ntmps189
      go_wp2
      go_ret
      exact ⟨rfl, by simp⟩
    · have n2 : ¬ (n : Int) < 2048 := by omega
      by_cases c3 : n < 65536
      · have n3 : (n : Int) < 65536 := by omega
        have e1 : encL n = [UInt8.ofNat (224 + n / 4096), UInt8.ofNat (128 + n / 64 % 64), UInt8.ofNat (128 + n % 64)] := by unfold encL; rw [if_neg c1, if_neg c2, if_pos c3]
        rw [e1]
        unfold cellsOf
        simp only [List.map_cons, List.map_nil, List.length_cons, List.length_nil]
        rw [u8_of (show 224 + n / 4096 < 256 by omega), u8_of (show 128 + n / 64 % 64 < 256 by omega), u8_of (show 128 + n % 64 < 256 by omega)]
        go_enter Tryz.func189, Tryz.ntmps189
        go_wp2
        go_ret
        exact ⟨rfl, by simp⟩
      · have n3 : ¬ (n : Int) < 65536 := by omega
        have e1 : encL n = [UInt8.ofNat (240 + n / 262144), UInt8.ofNat (128 + n / 4096 % 64), UInt8.ofNat (128 + n / 64 % 64), UInt8.ofNat (128 + n % 64)] := by unfold encL; rw [if_neg c1, if_neg c2, if_neg c3]
        rw [e1]
        unfold cellsOf
        simp only [List.map_cons, List.map_nil, List.length_cons, List.length_nil]
        rw [u8_of (show 240 + n / 262144 < 256 by omega), u8_of (show 128 + n / 4096 % 64 < 256 by omega), u8_of (show 128 + n / 64 % 64 < 256 by omega), u8_of (show 128 + n % 64 < 256 by omega)]
        go_enter Tryz.func189, Tryz.ntmps189
        go_wp2
        go_ret
        exact ⟨rfl, by simp⟩
end Go.Proofs.YtdinachiiimngaaGreatDoor.Cs
namespace Go.Proofs.YtdinachiiimngaaGreatDoor.Cs
open Go.ChangeShapes Go.WideShapes Go.ChangeAt Go.RowKit

theorem lowB_nat (b : UInt8) : ((lowB b).toNat : Int) = if 65 ≤ b.toNat ∧ b.toNat ≤ 90 then (b.toNat : Int) + 32 else (b.toNat : Int) := by
  unfold lowB
  have := b.toNat_lt
  split
  · rw [u8_of (by omega)]; omega
  · rfl
theorem take_low (s : ByteArray) (k : Nat) (h : k < s.size) : (s.data.toList.take (k + 1)).map lowB = (s.data.toList.take k).map lowB ++ [lowB s[k]] := by
  have h' : k < s.data.toList.length := by rw [Array.length_toList]; exact h
  rw [List.take_succ_eq_append_getElem h', List.map_append]
  rfl
theorem own_low {w : World} {base : Nat} {e : TypeId} {size : Nat} {v : Value} {n : Nat} {xs : List Value} (h : w.ownsRow base e size v n xs) (j : Nat) (hj : v.ownBlock = some j) : base ≤ j := (h.lt j hj).1
set_option maxHeartbeats 4000000 in
set_option maxRecDepth 1000000 in
theorem smallR_any (s : ByteArray) (hs : s.size ≤ 4000000) (z : ByteArray) (hz : z.data.toList = s.data.toList.map lowB) (w : World) :
    Calls Tryz.prog 213 #[.string s] w fun e w' => e = .returned (.string z) ∧ Below w.heap.size w w' := by
  obtain ⟨i0, hi, hz0, hz1, hz2⟩ := info_parts info5
  have HZ := Lib.hid (show (⟨(s.data.toList.map lowB).toArray⟩ : ByteArray) = z from bytes_is (by rw [hz]))
  clear hz
  go_enter Tryz.func213, Tryz.ntmps213
  go_wp2_with fail
  go_loopw [3, 4] (fun v i wr => ∃ k : Nat, k ≤ s.size ∧ i = .int .i64 k ∧ wr.ownsRow w.heap.size 5 1 v k (cellsOf ((s.data.toList.take k).map lowB)) ∧ Below w.heap.size w wr) (fun _ i _ => s.size - (intOf i).toNat)
  case atStart => exact ⟨0, Nat.zero_le _, rfl, World.ownsRow_nil _ _ _ _, Below.refl _ _⟩
  case round =>
    obtain ⟨k, hk, rfl, hown, hbw⟩ := hrel
    have hszr : w.heap.size ≤ wr.heap.size := hbw.size
    by_cases hlt : k < s.size
    · have hq : ∀ W, (Instr.index 9 (.string s) (.int .i64 (k : Int))).run Tryz.prog W = .ok (.int .u8 (s[k].toNat : Int)) W := fun W => run_index_str s k k rfl hlt W
      have hx := UInt8.toNat_lt (s[k]'hlt)
      have HT := Lib.hid (take_low s k hlt)
      have hlow := lowB_nat (s[k]'hlt)
      obtain ⟨c, hc⟩ : ∃ c, lowB (s[k]'hlt) = c := ⟨_, rfl⟩
      rw [hc] at HT hlow
      clear hc
      generalize (s[k]'hlt).toNat = x at hq hx hlow
      have hl : ((s.data.toList.take k).map lowB).length = k := by
        rw [List.length_map, List.length_take, Array.length_toList]
        have : s.size = s.data.size := rfl
        omega
      have HLL := Lib.hid hl
      clear hl
      by_cases x1 : (65 : Int) ≤ (x : Int)
      · by_cases x2 : (x : Int) ≤ 90
        · rw [if_pos (by omega)] at hlow
          go_wp2_with (at_builtin; refine wpList_append_own _ rfl (.tmp 23) (.tmp 25) 59 rfl w.heap.size 5 i0 (.int .u8 0) 1 1 Tryz.underlying59 hi hz0 hz1 hz2 rfl (by decide) _ k (cellsOf ((s.data.toList.take k).map lowB)) rfl (hown.alloc _) ⟨wr.heap.size, 0, none⟩ 1 1 (cellsOf [c]) rfl rfl (by have hb := bytes_new wr [c]; unfold cellsOf at hb ⊢; simp only [List.map_cons, List.map_nil, hlow] at hb ⊢; exact hb) (cellsOf_one _) (by unfold maxLen; omega) (by omega) (by simp; omega) ?_; intro v4 w4 hown4 hgrow4 hnil4)
          go_roundw
          case rel => exact ⟨k + 1, by omega, by go_num, by rw [HT.out]; unfold cellsOf at hown4 ⊢; rw [List.map_append]; exact hown4, (hbw.alloc hszr _).grown hgrow4 (by simp; omega) (fun j hj => (own_low hown j hj))⟩
          case measure => simp [intOf]; omega
        · rw [if_neg (by omega)] at hlow
          go_wp2_with (at_builtin; refine wpList_append_own _ rfl (.tmp 23) (.tmp 25) 59 rfl w.heap.size 5 i0 (.int .u8 0) 1 1 Tryz.underlying59 hi hz0 hz1 hz2 rfl (by decide) _ k (cellsOf ((s.data.toList.take k).map lowB)) rfl (hown.alloc _) ⟨wr.heap.size, 0, none⟩ 1 1 (cellsOf [c]) rfl rfl (by have hb := bytes_new wr [c]; unfold cellsOf at hb ⊢; simp only [List.map_cons, List.map_nil, hlow] at hb ⊢; exact hb) (cellsOf_one _) (by unfold maxLen; omega) (by omega) (by simp; omega) ?_; intro v4 w4 hown4 hgrow4 hnil4)
          go_roundw
          case rel => exact ⟨k + 1, by omega, by go_num, by rw [HT.out]; unfold cellsOf at hown4 ⊢; rw [List.map_append]; exact hown4, (hbw.alloc hszr _).grown hgrow4 (by simp; omega) (fun j hj => (own_low hown j hj))⟩
          case measure => simp [intOf]; omega
      · rw [if_neg (by omega)] at hlow
        go_wp2_with (at_builtin; refine wpList_append_own _ rfl (.tmp 23) (.tmp 25) 59 rfl w.heap.size 5 i0 (.int .u8 0) 1 1 Tryz.underlying59 hi hz0 hz1 hz2 rfl (by decide) _ k (cellsOf ((s.data.toList.take k).map lowB)) rfl (hown.alloc _) ⟨wr.heap.size, 0, none⟩ 1 1 (cellsOf [c]) rfl rfl (by have hb := bytes_new wr [c]; unfold cellsOf at hb ⊢; simp only [List.map_cons, List.map_nil, hlow] at hb ⊢; exact hb) (cellsOf_one _) (by unfold maxLen; omega) (by omega) (by simp; omega) ?_; intro v4 w4 hown4 hgrow4 hnil4)
        go_roundw
        case rel => exact ⟨k + 1, by omega, by go_num, by rw [HT.out]; unfold cellsOf at hown4 ⊢; rw [List.map_append]; exact hown4, (hbw.alloc hszr _).grown hgrow4 (by simp; omega) (fun j hj => (own_low hown j hj))⟩
        case measure => simp [intOf]; omega
    · have hkM : k = s.size := by omega
      subst hkM
      have hcv := conv_any (l := s.data.toList.map lowB) (n := s.size) (by rw [List.length_map]; rfl) (by rw [List.take_of_length_le (by rw [Array.length_toList]; exact Nat.le_refl _)] at hown; exact hown)
      rw [HZ.out] at hcv
      go_wp2_with fail
      go_ret
      exact ⟨rfl, hbw⟩

theorem kind_low2 (l : List UInt8) (z : ByteArray) (hz : z.data.toList = l.map lowB) : kindK z = kindL l := by
  unfold kindL
  congr 1
  exact bytes_is (by rw [hz])
theorem key_ne {z a b : ByteArray} (h : z = a) (hab : (a == b) = false) : ¬ z = b := by
  intro e
  rw [← h, e, bytes_eqb, decide_eq_true rfl] at hab
  cases hab
theorem key_list (z key : ByteArray) (l : List UInt8) (hl : key.data.toList = l) : (z.toList == l) = decide (z = key) := by
  rw [Bool.eq_iff_iff, beq_iff_eq, ByteArray.toList_eq, decide_eq_true_eq, ← hl]
  exact ⟨bytes_is, fun h => by rw [h]⟩
set_option maxHeartbeats 4000000 in
set_option maxRecDepth 1000000 in
theorem kindR_any (s : ByteArray) (hs : s.size ≤ 4000000) (k : Nat) (hk : kindL s.data.toList = k) (w : World) :
    Calls Tryz.prog 190 #[.string s] w fun e w' => e = .returned (.int .i64 k) ∧ Below w.heap.size w w' := by
  obtain ⟨z, hz⟩ := list_of (s.data.toList.map lowB)
  have HK := Lib.hid ((kind_low2 _ z hz).trans hk)
  have KS := Lib.hid (smallR_any s hs z hz w)
  clear hz hk
  have l0 := key_list z key0 [117, 115, 45, 97, 115, 99, 105, 105] rfl
  have l1 := key_list z key1 [97, 115, 99, 105, 105] rfl
  have l2 := key_list z key2 [117, 116, 102, 45, 56] rfl
  have l3 := key_list z key3 [117, 116, 102, 56] rfl
  have l4 := key_list z key4 [105, 115, 111, 45, 56, 56, 53, 57, 45, 49] rfl
  have l5 := key_list z key5 [108, 97, 116, 105, 110, 49] rfl
  have l6 := key_list z key6 [119, 105, 110, 100, 111, 119, 115, 45, 49, 50, 53, 50] rfl
  have l7 := key_list z key7 [99, 112, 49, 50, 53, 50] rfl
  by_cases h0 : z = key0
  · have hk0 : k = 1 := by rw [← HK.out]; unfold kindK; simp only [if_pos h0]
    subst hk0
    rw [decide_eq_true h0] at l0
    rw [decide_eq_false (key_ne h0 (show (key0 == key1) = false by decide))] at l1
    rw [decide_eq_false (key_ne h0 (show (key0 == key2) = false by decide))] at l2
    rw [decide_eq_false (key_ne h0 (show (key0 == key3) = false by decide))] at l3
    rw [decide_eq_false (key_ne h0 (show (key0 == key4) = false by decide))] at l4
    rw [decide_eq_false (key_ne h0 (show (key0 == key5) = false by decide))] at l5
    rw [decide_eq_false (key_ne h0 (show (key0 == key6) = false by decide))] at l6
    rw [decide_eq_false (key_ne h0 (show (key0 == key7) = false by decide))] at l7
    clear h0
    go_enter Tryz.func190, Tryz.ntmps190
    go_wp2_with (go_at_call 213; refine KS.out.mono ?_; rintro e w1 ⟨rfl, hb1⟩)
    go_ret
    exact ⟨rfl, hb1⟩
  · by_cases h1 : z = key1
    · have hk0 : k = 1 := by rw [← HK.out]; unfold kindK; simp only [if_neg h0, if_pos h1]
      subst hk0
      rw [decide_eq_false h0] at l0
      rw [decide_eq_true h1] at l1
      rw [decide_eq_false (key_ne h1 (show (key1 == key2) = false by decide))] at l2
      rw [decide_eq_false (key_ne h1 (show (key1 == key3) = false by decide))] at l3
      rw [decide_eq_false (key_ne h1 (show (key1 == key4) = false by decide))] at l4
      rw [decide_eq_false (key_ne h1 (show (key1 == key5) = false by decide))] at l5
      rw [decide_eq_false (key_ne h1 (show (key1 == key6) = false by decide))] at l6
      rw [decide_eq_false (key_ne h1 (show (key1 == key7) = false by decide))] at l7
      clear h1
      go_enter Tryz.func190, Tryz.ntmps190
      go_wp2_with (go_at_call 213; refine KS.out.mono ?_; rintro e w1 ⟨rfl, hb1⟩)
      go_ret
      exact ⟨rfl, hb1⟩
    · by_cases h2 : z = key2
      · have hk0 : k = 2 := by rw [← HK.out]; unfold kindK; simp only [if_neg h0, if_neg h1, if_pos h2]
        subst hk0
        rw [decide_eq_false h0] at l0
        rw [decide_eq_false h1] at l1
        rw [decide_eq_true h2] at l2
        rw [decide_eq_false (key_ne h2 (show (key2 == key3) = false by decide))] at l3
        rw [decide_eq_false (key_ne h2 (show (key2 == key4) = false by decide))] at l4
        rw [decide_eq_false (key_ne h2 (show (key2 == key5) = false by decide))] at l5
        rw [decide_eq_false (key_ne h2 (show (key2 == key6) = false by decide))] at l6
        rw [decide_eq_false (key_ne h2 (show (key2 == key7) = false by decide))] at l7
        clear h2
        go_enter Tryz.func190, Tryz.ntmps190
        go_wp2_with (go_at_call 213; refine KS.out.mono ?_; rintro e w1 ⟨rfl, hb1⟩)
        go_ret
        exact ⟨rfl, hb1⟩
      · by_cases h3 : z = key3
        · have hk0 : k = 2 := by rw [← HK.out]; unfold kindK; simp only [if_neg h0, if_neg h1, if_neg h2, if_pos h3]
          subst hk0
          rw [decide_eq_false h0] at l0
          rw [decide_eq_false h1] at l1
          rw [decide_eq_false h2] at l2
          rw [decide_eq_true h3] at l3
          rw [decide_eq_false (key_ne h3 (show (key3 == key4) = false by decide))] at l4
          rw [decide_eq_false (key_ne h3 (show (key3 == key5) = false by decide))] at l5
          rw [decide_eq_false (key_ne h3 (show (key3 == key6) = false by decide))] at l6
          rw [decide_eq_false (key_ne h3 (show (key3 == key7) = false by decide))] at l7
          clear h3
          go_enter Tryz.func190, Tryz.ntmps190
          go_wp2_with (go_at_call 213; refine KS.out.mono ?_; rintro e w1 ⟨rfl, hb1⟩)
          go_ret
          exact ⟨rfl, hb1⟩
        · by_cases h4 : z = key4
          · have hk0 : k = 3 := by rw [← HK.out]; unfold kindK; simp only [if_neg h0, if_neg h1, if_neg h2, if_neg h3, if_pos h4]
            subst hk0
            rw [decide_eq_false h0] at l0
            rw [decide_eq_false h1] at l1
            rw [decide_eq_false h2] at l2
            rw [decide_eq_false h3] at l3
            rw [decide_eq_true h4] at l4
            rw [decide_eq_false (key_ne h4 (show (key4 == key5) = false by decide))] at l5
            rw [decide_eq_false (key_ne h4 (show (key4 == key6) = false by decide))] at l6
            rw [decide_eq_false (key_ne h4 (show (key4 == key7) = false by decide))] at l7
            clear h4
            go_enter Tryz.func190, Tryz.ntmps190
            go_wp2_with (go_at_call 213; refine KS.out.mono ?_; rintro e w1 ⟨rfl, hb1⟩)
            go_ret
            exact ⟨rfl, hb1⟩
          · by_cases h5 : z = key5
            · have hk0 : k = 3 := by rw [← HK.out]; unfold kindK; simp only [if_neg h0, if_neg h1, if_neg h2, if_neg h3, if_neg h4, if_pos h5]
              subst hk0
              rw [decide_eq_false h0] at l0
              rw [decide_eq_false h1] at l1
              rw [decide_eq_false h2] at l2
              rw [decide_eq_false h3] at l3
              rw [decide_eq_false h4] at l4
              rw [decide_eq_true h5] at l5
              rw [decide_eq_false (key_ne h5 (show (key5 == key6) = false by decide))] at l6
              rw [decide_eq_false (key_ne h5 (show (key5 == key7) = false by decide))] at l7
              clear h5
              go_enter Tryz.func190, Tryz.ntmps190
              go_wp2_with (go_at_call 213; refine KS.out.mono ?_; rintro e w1 ⟨rfl, hb1⟩)
              go_ret
              exact ⟨rfl, hb1⟩
            · by_cases h6 : z = key6
              · have hk0 : k = 4 := by rw [← HK.out]; unfold kindK; simp only [if_neg h0, if_neg h1, if_neg h2, if_neg h3, if_neg h4, if_neg h5, if_pos h6]
                subst hk0
                rw [decide_eq_false h0] at l0
                rw [decide_eq_false h1] at l1
                rw [decide_eq_false h2] at l2
                rw [decide_eq_false h3] at l3
                rw [decide_eq_false h4] at l4
                rw [decide_eq_false h5] at l5
                rw [decide_eq_true h6] at l6
                rw [decide_eq_false (key_ne h6 (show (key6 == key7) = false by decide))] at l7
                clear h6
                go_enter Tryz.func190, Tryz.ntmps190
                go_wp2_with (go_at_call 213; refine KS.out.mono ?_; rintro e w1 ⟨rfl, hb1⟩)
                go_ret
                exact ⟨rfl, hb1⟩
              · by_cases h7 : z = key7
                · have hk0 : k = 4 := by rw [← HK.out]; unfold kindK; simp only [if_neg h0, if_neg h1, if_neg h2, if_neg h3, if_neg h4, if_neg h5, if_neg h6, if_pos h7]
                  subst hk0
                  rw [decide_eq_false h0] at l0
                  rw [decide_eq_false h1] at l1
                  rw [decide_eq_false h2] at l2
                  rw [decide_eq_false h3] at l3
                  rw [decide_eq_false h4] at l4
                  rw [decide_eq_false h5] at l5
                  rw [decide_eq_false h6] at l6
                  rw [decide_eq_true h7] at l7
                  clear h7
                  go_enter Tryz.func190, Tryz.ntmps190
                  go_wp2_with (go_at_call 213; refine KS.out.mono ?_; rintro e w1 ⟨rfl, hb1⟩)
                  go_ret
                  exact ⟨rfl, hb1⟩
                · have hk0 : k = 0 := by rw [← HK.out]; unfold kindK; simp only [if_neg h0, if_neg h1, if_neg h2, if_neg h3, if_neg h4, if_neg h5, if_neg h6, if_neg h7]
                  subst hk0
                  rw [decide_eq_false h0] at l0
                  rw [decide_eq_false h1] at l1
                  rw [decide_eq_false h2] at l2
                  rw [decide_eq_false h3] at l3
                  rw [decide_eq_false h4] at l4
                  rw [decide_eq_false h5] at l5
                  rw [decide_eq_false h6] at l6
                  rw [decide_eq_false h7] at l7
                  go_enter Tryz.func190, Tryz.ntmps190
                  go_wp2_with (go_at_call 213; refine KS.out.mono ?_; rintro e w1 ⟨rfl, hb1⟩)
                  go_ret
                  exact ⟨rfl, hb1⟩
end Go.Proofs.YtdinachiiimngaaGreatDoor.Cs
namespace Go.Proofs.YtdinachiiimngaaGreatDoor
open TokP AdrP CtP

theorem dec_le (n s : List UInt8) : (decF n s).length ≤ 4 * s.length := by
  unfold decF Cs.decL
  have hr := repair_len s
  split
  · exact Cs.byteL_len _ s
  · split
    · omega
    · split
      · exact Cs.byteL_len _ s
      · exact Cs.byteL_len _ s
theorem meant_le (n s : List UInt8) : (meantP repF decF n s).length ≤ 4 * s.length := by
  unfold meantP
  split
  · have : (repF s).length ≤ 3 * s.length := repair_len s
    omega
  · exact dec_le n s
theorem more_le {all : List Par} {B : Nat} (hB : ∀ p ∈ all, p.value.length ≤ B) (n : List UInt8) : ∀ f k : Nat, (moreP all n f k).length ≤ f * B
  | 0, k => by rw [moreP]; exact Nat.zero_le _
  | f + 1, k => by
    rw [moreP]
    split
    · exact Nat.zero_le _
    · rename_i y hy
      have h1 := hB y (first_in hy)
      have h2 := more_le hB n f (k + 1)
      have h3 := pct_le y.value
      rw [List.length_append, Nat.succ_mul]
      split <;> omega
theorem value_le {all : List Par} {B : Nat} (hB : ∀ p ∈ all, p.value.length ≤ B) (n v : List UInt8) (h : valueP repF decF all n = some v) : v.length ≤ 4 * (64 * B) := by
  unfold valueP at h
  split at h
  · rename_i x hx
    have h1 := hB x (first_in hx)
    have h2 := more_le hB n 63 1
    obtain ⟨h3, h4⟩ := split_le x.value
    have h5 := pct_le (splitQ x.value).2
    rw [← Option.some.inj h]
    split
    · have h6 := meant_le (splitQ x.value).1 (pctL (splitQ x.value).2 ++ moreP all n 63 1)
      rw [List.length_append] at h6
      omega
    · rw [List.length_append]; omega
  · split at h
    · rename_i x hx
      have h1 := hB x (List.mem_of_find?_eq_some hx)
      obtain ⟨h3, h4⟩ := split_le x.value
      have h5 := pct_le (splitQ x.value).2
      have h6 := meant_le (splitQ x.value).1 (pctL (splitQ x.value).2)
      rw [← Option.some.inj h]
      omega
    · rw [Option.map_eq_some_iff] at h
      obtain ⟨y, hy, rfl⟩ := h
      have h1 := hB y (first_in hy)
      omega
theorem listG_facts {all : List Par} {B C : Nat} (hB : ∀ p ∈ all, p.value.length ≤ B) : ∀ (l : List Par) (seen : List (List UInt8)), (∀ p ∈ l, p.name.length ≤ C) → (listG repF decF all seen l).length ≤ l.length ∧ ∀ p ∈ listG repF decF all seen l, p.1.length ≤ C ∧ p.2.length ≤ 4 * (64 * B)
  | [], seen, _ => by rw [listG]; exact ⟨Nat.le_refl _, fun p hp => absurd hp (by simp)⟩
  | x :: l, seen, h => by
    obtain ⟨h1, h2⟩ := listG_facts hB l (x.name :: seen) (fun p hp => h p (by simp [hp]))
    rw [listG, List.length_append, List.length_cons]
    split
    · refine ⟨by rw [List.length_nil]; omega, fun p hp => ?_⟩
      rw [List.nil_append] at hp
      exact h2 p hp
    · split
      · rename_i v hv
        refine ⟨by rw [List.length_singleton]; omega, fun p hp => ?_⟩
        rw [List.singleton_append, List.mem_cons] at hp
        rcases hp with rfl | hp
        · exact ⟨h x (by simp), value_le hB x.name v hv⟩
        · exact h2 p hp
      · refine ⟨by rw [List.length_nil]; omega, fun p hp => ?_⟩
        rw [List.nil_append] at hp
        exact h2 p hp
theorem pair_name_le : ∀ (l : List Tok) (pre : List UInt8) (p : Par), pairP numF pre l = some p → p.name.length ≤ pre.length + (joinL l).length
  | [], pre, p, h => by rw [pairP] at h; exact absurd h (by simp)
  | t :: l, pre, p, h => by
    rw [pairP] at h
    rw [join_cons, List.length_append]
    split at h
    · split at h
      · exact absurd h (by simp)
      · have hn := told_name_len numF ((pre ++ upC 61 t.text).map lowA) (pairV (behind 61 t.text) l)
        rw [← Option.some.inj h]
        rw [List.length_map, List.length_append] at hn
        have : (upC 61 t.text).length ≤ t.text.length := (List.takeWhile_prefix _).length_le
        omega
    · have := pair_name_le l _ p h
      rw [List.length_append] at this
      omega
theorem listP_facts (rows : List (List Tok)) (hz : szR rows ≤ 2000) (hl : rows.length ≤ 9000) : (listP repF decF numF rows).length ≤ 9000 ∧ ∀ p ∈ listP repF decF numF rows, p.1.length ≤ 2000 ∧ p.2.length ≤ 900000 := by
  unfold listP
  have hA : ∀ p ∈ rows.filterMap (pairP numF []), p.value.length ≤ 2000 ∧ p.name.length ≤ 2000 := fun p hp => by
    refine ⟨?_, ?_⟩
    · have h1 := szA_mem hp
      have h2 := all_sum numF rows
      omega
    · obtain ⟨r, hr, hp2⟩ := List.mem_filterMap.1 hp
      have h1 := pair_name_le r [] p hp2
      have h2 := row_le hr
      rw [List.length_nil] at h1
      omega
  have hln : (rows.filterMap (pairP numF [])).length ≤ rows.length := List.length_filterMap_le _ _
  obtain ⟨h1, h2⟩ := listG_facts (all := rows.filterMap (pairP numF [])) (B := 2000) (C := 2000) (fun p hp => (hA p hp).1) (rows.filterMap (pairP numF [])) [] (fun p hp => (hA p hp).2)
  refine ⟨by omega, fun p hp => ?_⟩
  have := h2 p hp
  exact ⟨this.1, by omega⟩
/-- The parameters that Disposition and Parse give of a string of at most 2000 bytes. -/
theorem par_facts (S : ByteArray) (hS : S.size ≤ 2000) : ((dispC repF decF numF S.data.toList).2.length ≤ 9000 ∧ ∀ p ∈ (dispC repF decF numF S.data.toList).2, p.1.length ≤ 2000 ∧ p.2.length ≤ 900000) ∧ (parseC repF decF numF S.data.toList).1.2.2.length ≤ 9000 := by
  obtain ⟨r, rs, hrow, hlen, heach, hsum⟩ := rows_known S (by omega)
  have hlb := rowsT_len (bareT (scanL S.data.toList)) []
  rw [hrow, List.length_cons] at hlb
  have hbl := bare_len (scanL S.data.toList) (scanL S.data.toList).length
  rw [List.take_length] at hbl
  have hbl2 : (bareT (scanL S.data.toList)).length ≤ (scanL S.data.toList).length := hbl
  have hsl := scan_len S.data.toList
  rw [← size_list] at hsl
  have h3 : szR (r :: rs) = (joinL r).length + szR rs := by unfold szR; rw [List.map_cons, List.sum_cons]
  have hf := listP_facts rs (by omega) (by omega)
  refine ⟨?_, ?_⟩
  · unfold dispC
    rw [hrow]
    exact hf
  · rw [show parseC repF decF numF S.data.toList = if 47 ∈ joinL r ∧ wordW (upC 47 (joinL r)) = true ∧ wordW (behind 47 (joinL r)) = true then (((upC 47 (joinL r)).map lowA, (behind 47 (joinL r)).map lowA, listP repF decF numF rs), true) else (textPlain, false) by unfold parseC; rw [hrow]; rfl]
    by_cases hc : 47 ∈ joinL r ∧ wordW (upC 47 (joinL r)) = true ∧ wordW (behind 47 (joinL r)) = true
    · rw [if_pos hc]; exact hf.1
    · rw [if_neg hc]; exact Nat.zero_le _
end Go.Proofs.YtdinachiiimngaaGreatDoor
