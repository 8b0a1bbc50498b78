/- The reference's Join, All, Get. -/
import Derived.Test.YtocghngmjipjoaaDoorRefV
import Derived.Test.YtocghngmjipjoaaDoorJoin
import Derived.Test.YtocghngmjipjoaaDoorVals
import Derived.Test.YtocghngmjipjoaaDoorAll
import Derived.Laws.Concat
namespace Go.Proofs.YtocghngmjipjoaaDoor
open Go.ChangeShapes Go.WideShapes Go.ChangeAt Go.RowKit
open LinesP HdrP

set_option maxRecDepth 100000 in
set_option maxHeartbeats 2000000 in
theorem rjoin_any (v : Value) (l : List Fld) (w : World) (h : HasF w v l) (hl : (rawsL l).length ≤ 1000000) (hn : l.length ≤ 1000000) :
    Calls Tryd.prog 16 #[v] w fun e w' => e = .returned (.string (strL (rawsL l))) ∧ w = w' := by
  rcases h with ⟨rfl, rfl⟩ | ⟨g, o, c, rfl, h⟩
  · go_enter Tryd.func16, Tryd.ntmps16
    go_wp2_with fail
    go_loopw [3, 4] (fun r i wr => i = .int .i64 0 ∧ r = .string ⟨#[]⟩ ∧ wr = w) (fun _ _ _ => 0)
    case atStart => exact ⟨rfl, rfl, rfl⟩
    case round =>
      obtain ⟨rfl, rfl, rfl⟩ := hrel
      go_wp2_with fail
      go_ret
      exact ⟨rfl, rfl⟩
  · obtain ⟨n, hnn⟩ : ∃ n, l.length = n := ⟨_, rfl⟩
    rw [hnn] at hn ⊢
    have HN := Lib.hid hnn
    have HL := Lib.hid hl
    have H := Lib.hid h
    clear hnn hl h
    go_enter Tryd.func16, Tryd.ntmps16
    go_wp2_with fail
    go_loopw [3, 4] (fun r i wr => ∃ (k : Nat) (O : ByteArray), k ≤ n ∧ i = .int .i64 k ∧ r = .string O ∧ wr = w ∧ O.size ≤ 1000000 ∧ Hid (O.data.toList = rawsL (l.take k))) (fun _ i _ => n - (intOf i).toNat)
    case atStart => exact ⟨0, ⟨#[]⟩, Nat.zero_le _, rfl, rfl, rfl, by decide, rfl⟩
    case round =>
      obtain ⟨k, O, hk, rfl, rfl, rfl, hO, HO⟩ := hrel
      have F1 : IntKind.i64.wrap ((k : Int) + 1) = (k : Int) + 1 := by rw [IntKind.wrap_i64]; omega
      by_cases hlt : k < n
      · have hlt' : (k : Int) < (n : Int) := by omega
        obtain ⟨f, hf⟩ : ∃ f, l[k]? = some f := ⟨_, List.getElem?_eq_getElem (by rw [HN.out]; exact hlt)⟩
        obtain ⟨_, _, k2, _⟩ := H.out k f hf
        have hrl := raw_le l k f hf
        have hL := HL.out
        have hst := raws_step l k f hf
        rw [← HO.out] at hst hrl
        rw [← size_list] at hrl
        have sR : (strL f.raw).size = f.raw.length := strL_size _
        have lR : (strL f.raw).data.toList = f.raw := rfl
        rw [← lR, ← list_append] at hst
        have hOR : O.size + (strL f.raw).size ≤ 1000000 := by omega
        have hRz : (strL f.raw).size ≤ 1000000 := by omega
        generalize strL f.raw = R at k2 hst hOR hRz
        have HST := Lib.hid hst.symm
        clear hf hrl hL hst sR lR
        go_wp2_with fail
        go_roundw
        case rel => exact ⟨k + 1, O ++ R, by omega, by go_num, rfl, trivial, by rw [ByteArray.size_append]; exact hOR, HST⟩
        case measure => simp [intOf]; omega
      · obtain rfl : k = n := by omega
        have hT : l.take k = l := List.take_of_length_le (by rw [HN.out]; exact Nat.le_refl _)
        have hE := HO.out
        rw [hT] at hE
        have HE := Lib.hid (strL_is hE)
        have hlt' : ¬ (k : Int) < (k : Int) := by omega
        clear hE hT
        go_wp2_with fail
        go_ret
        exact ⟨by rw [← HE.out]; rfl, rfl⟩
theorem all_step' (l : List Fld) (nm : List UInt8) (k : Nat) (f : Fld) (h : l[k]? = some f) : allL (l.take (k + 1)) nm = allL (l.take k) nm ++ (if meets f nm = true then [trimL (unfoldL f.value)] else []) := by
  unfold allL meets
  rw [List.take_add_one, h, List.filter_append, List.map_append]
  simp only [Option.toList_some, List.filter_cons, List.filter_nil]
  split <;> rfl
set_option maxRecDepth 100000 in
set_option maxHeartbeats 4000000 in
theorem rall_any (v : Value) (l : List Fld) (nm : ByteArray) (w : World) (h : HasF w v l) (hn : l.length ≤ 900000) (hnm : nm.size ≤ 900000) (hsz : ∀ f ∈ l, f.name.length ≤ 900000 ∧ f.value.length ≤ 900000) :
    Calls Tryd.prog 21 #[v, .string nm] w fun e w' => ∃ u, e = .returned u ∧ Own w' u (allL l nm.data.toList) ∧ Below w.heap.size w w' := by
  rcases h with ⟨rfl, rfl⟩ | ⟨g, o, c, rfl, h⟩
  · clear hsz hn
    go_enter Tryd.func21, Tryd.ntmps21
    go_wp2_with fail
    go_loopw [5, 6] (fun r i wr => i = .int .i64 0 ∧ r = .slice none 0 0 ∧ wr = w) (fun _ _ _ => 0)
    case atStart => exact ⟨rfl, rfl, rfl⟩
    case round =>
      obtain ⟨rfl, rfl, rfl⟩ := hrel
      go_wp2_with fail
      go_ret
      exact ⟨_, rfl, ⟨0, rfl, .inl ⟨rfl, rfl⟩⟩, Below.refl _ _⟩
  · obtain ⟨n, hnn⟩ : ∃ n, l.length = n := ⟨_, rfl⟩
    rw [hnn] at hn ⊢
    have HN := Lib.hid hnn
    have H := Lib.hid h
    have HSZ := Lib.hid hsz
    have cN := fun w => small_name nm hnm w
    have HNM : Hid (strL (nm.data.toList.map low) = strL (nm.data.toList.map low)) := rfl
    clear hnn h hsz
    go_enter Tryd.func21, Tryd.ntmps21
    go_wp2_with fail
    go_loopw [5, 6] (fun r i wr => ∃ (k m : Nat), k ≤ n ∧ m ≤ k ∧ i = .int .i64 k ∧ (∃ a c, r = .slice a m c) ∧ Hid ((allL (l.take k) nm.data.toList).length = m) ∧ Hid (wr.ownsRow w.heap.size 9 1 r (allL (l.take k) nm.data.toList).length ((allL (l.take k) nm.data.toList).map strV)) ∧ Hid (Below w.heap.size w wr)) (fun _ i _ => n - (intOf i).toNat)
    case atStart => exact ⟨0, 0, Nat.zero_le _, Nat.le_refl _, rfl, ⟨none, 0, rfl⟩, rfl, ⟨rfl, .inl ⟨rfl, rfl⟩⟩, Below.refl _ _⟩
    case round =>
      obtain ⟨k, m, hk, hmk, rfl, ⟨a, c2, rfl⟩, hm, ho, hb⟩ := hrel
      have F1 : IntKind.i64.wrap ((k : Int) + 1) = (k : Int) + 1 := by rw [IntKind.wrap_i64]; omega
      by_cases hlt : k < n
      · have hlt' : (k : Int) < (n : Int) := by omega
        obtain ⟨f, hf⟩ : ∃ f, l[k]? = some f := ⟨_, List.getElem?_eq_getElem (by rw [HN.out]; exact hlt)⟩
        obtain ⟨k0, k1, k2, k3⟩ := H.out.step hb.out k f hf
        have hfz := HSZ.out f (List.mem_of_getElem? hf)
        have hstep := all_step' l nm.data.toList k f hf
        by_cases hbad : f.bad = true
        · have hme : meets f nm.data.toList = false := by unfold meets; rw [hbad]; rfl
          rw [hme, if_neg (by simp), List.append_nil] at hstep
          rw [hbad] at k3
          have HST := Lib.hid hstep
          clear hstep hme hf hfz hbad
          go_wp2_with fail
          go_roundw
          case rel => exact ⟨k + 1, m, by omega, by omega, by go_num, ⟨a, c2, rfl⟩, by rw [HST.out]; exact hm, by rw [HST.out]; exact ho, hb⟩
          case measure => simp [intOf]; omega
        · have hbad' : f.bad = false := by simpa using hbad
          rw [hbad'] at k3
          have cS := fun w => small_name (strL f.name) (by rw [strL_size]; exact hfz.1) w
          rw [strL_list] at cS
          have heq := eq_strL (f.name.map low) (nm.data.toList.map low)
          by_cases hs : f.name.map low = nm.data.toList.map low
          · have hme : meets f nm.data.toList = true := by unfold meets; rw [hbad', hs]; simp
            rw [hme, if_pos rfl] at hstep
            rw [decide_eq_true hs] at heq
            have cU := fun w => runfold_any (strL f.value) (by rw [strL_size]; exact hfz.2) w
            rw [strL_list] at cU
            have hul := unfold_len f.value
            have cT := fun w => rtrim_any (strL (unfoldL f.value)) (by rw [strL_size]; omega) w
            rw [strL_list] at cT
            have HST := Lib.hid hstep
            obtain ⟨X, hX⟩ : ∃ X, trimL (unfoldL f.value) = X := ⟨_, rfl⟩
            rw [hX] at cT HST
            generalize strL (unfoldL f.value) = U at cU cT
            generalize strL (f.name.map low) = P1 at cS heq
            generalize strL (nm.data.toList.map low) = P2 at cN heq
            have hv : ∀ w', Below wr.heap.size wr w' → w'.cell? ⟨g, o + k * 4 + 1, none⟩ = some (.string (strL f.value)) := fun w' h => cell_below k1 h
            have HV := Lib.hid hv
            clear hstep hme hf hfz hbad hs hX hul hv
            go_wp2_with (first
              | (go_at_call 31; (refine (cS _).mono ?_); rintro e w4 ⟨rfl, hb4⟩; clear cS; have hb0 := hb.out.trans (hb4.mono hb.out.size); have HO4 := Lib.hid (own_below ho.out hb4))
              | (go_at_call 31; (refine (cN _).mono ?_); rintro e w5 ⟨rfl, hb5⟩; clear cN; have hb6 := hb0.trans (hb5.mono hb0.size); have HO5 := Lib.hid (own_below HO4.out hb5); have kv := HV.out w5 (Qtrans hb4 hb5))
              | (go_at_call 18; (refine (cU _).mono ?_); rintro e w6 ⟨rfl, hb7⟩; clear cU; have hb8 := Lib.hid (hb6.trans (hb7.mono hb6.size)); have HO6 := Lib.hid (own_below HO5.out hb7))
              | (go_at_call 29; (refine (cT _).mono ?_); rintro e w9 ⟨rfl, hw⟩; rw [← hw]; clear hw w9 cT)
              | (at_builtin; refine wpList_app1 (by rfl) (.tmp 30) (.tmp 38) rfl rfl w.heap.size X rfl rfl HO6.out hm.out (by exact hb8.out.size) (by omega) ?_; intro a2 c3 w2 h2 g2; replace h2 := Lib.hid h2; replace g2 := Lib.hid g2))
            go_roundw
            case rel => exact ⟨k + 1, m + 1, by omega, by omega, by go_num, ⟨a2, c3, rfl⟩, Lib.hid (by rw [HST.out, List.length_append, hm.out]; rfl), Lib.hid (by rw [HST.out]; exact h2.out), (hb8.out.alloc hb8.out.size _).grown g2.out (by have := hb8.out.size; rw [World.size_alloc]; omega) (fun k e => (ho.out.lt k e).1)⟩
            case measure => simp [intOf]; omega
          · have hme : meets f nm.data.toList = false := by unfold meets; rw [hbad']; simp; exact hs
            rw [hme, if_neg (by simp), List.append_nil] at hstep
            rw [decide_eq_false hs] at heq
            have HST := Lib.hid hstep
            generalize strL (f.name.map low) = P1 at cS heq
            generalize strL (nm.data.toList.map low) = P2 at cN heq
            clear hstep hme hf hfz hbad hs
            go_wp2_with (first
              | (go_at_call 31; (refine (cS _).mono ?_); rintro e w4 ⟨rfl, hb4⟩; clear cS; have hb0 := hb.out.trans (hb4.mono hb.out.size); have HO4 := Lib.hid (own_below ho.out hb4))
              | (go_at_call 31; (refine (cN _).mono ?_); rintro e w5 ⟨rfl, hb5⟩; clear cN; have hb6 := hb0.trans (hb5.mono hb0.size); have HO5 := Lib.hid (own_below HO4.out hb5)))
            go_roundw
            case rel => exact ⟨k + 1, m, by omega, by omega, by go_num, ⟨a, c2, rfl⟩, by rw [HST.out]; exact hm, by rw [HST.out]; exact HO5, hb6⟩
            case measure => simp [intOf]; omega
      · obtain rfl : k = n := by omega
        have hT : l.take k = l := List.take_of_length_le (by rw [HN.out]; exact Nat.le_refl _)
        rw [hT] at ho
        have hlt' : ¬ (k : Int) < (k : Int) := by omega
        clear hT
        go_wp2_with fail
        go_ret
        exact ⟨_, rfl, ⟨_, ho.out⟩, hb.out⟩
set_option maxRecDepth 100000 in
set_option maxHeartbeats 1000000 in
theorem rget_any (v : Value) (l : List Fld) (nm : ByteArray) (w : World) (h : HasF w v l) (hn : l.length ≤ 900000) (hnm : nm.size ≤ 900000) (hsz : ∀ f ∈ l, f.name.length ≤ 900000 ∧ f.value.length ≤ 900000) :
    Calls Tryd.prog 13 #[v, .string nm] w fun e w' => e = .returned (getV (allL l nm.data.toList)) ∧ Below w.heap.size w w' := by
  have cA := rall_any v l nm w h hn hnm hsz
  have hlen : (allL l nm.data.toList).length ≤ 900000 := by
    have := vals_len l nm.data.toList
    unfold valsB at this
    rw [List.length_map] at this
    omega
  generalize allL l nm.data.toList = Y at cA hlen ⊢
  have cA' : Calls Tryd.prog 21 #[v, .string nm] w fun e w' => ∃ a c, e = .returned (.slice a Y.length c) ∧ Own w' (.slice a Y.length c) Y ∧ Below w.heap.size w w' := cA.mono (by
    rintro e w' ⟨u, rfl, ho, hb⟩
    obtain ⟨a, c, rfl⟩ := ho.shape
    exact ⟨a, c, rfl, ho, hb⟩)
  obtain ⟨av, nv, cv, rfl⟩ := h.slice
  clear cA h hsz hn
  cases Y with
  | nil =>
    rw [List.length_nil] at cA'
    go_enter Tryd.func13, Tryd.ntmps13
    go_wp2_with (go_at_call 21; (refine cA'.mono ?_); rintro e w1 ⟨a, c, rfl, o1, hb⟩; clear cA')
    go_ret2
    exact ⟨rfl, hb⟩
  | cons y r =>
    obtain ⟨n, hn⟩ : ∃ n, (y :: r).length = n := ⟨_, rfl⟩
    rw [hn] at cA' hlen
    have hn0 : 0 < n := by rw [← hn]; simp
    have hne : ((n : Int) == 0) = false := by rw [beq_eq_false_iff_ne]; omega
    have hn1 : (0 : Int) < (n : Int) := by omega
    clear hn
    go_enter Tryd.func13, Tryd.ntmps13
    go_wp2_with (go_at_call 21; (refine cA'.mono ?_); rintro e w1 ⟨a, c, rfl, o1, hb⟩; clear cA'; obtain ⟨g, rfl⟩ := o1.at hn0; have kc := o1.cell 0 y rfl)
    go_ret2
    exact ⟨rfl, hb⟩
end Go.Proofs.YtocghngmjipjoaaDoor
