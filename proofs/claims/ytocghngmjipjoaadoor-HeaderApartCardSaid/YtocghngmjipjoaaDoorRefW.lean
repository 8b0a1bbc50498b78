/- The reference's Put and Same. -/
import Derived.Test.YtocghngmjipjoaaDoorRefV
import Derived.Test.YtocghngmjipjoaaDoorRefN
import Derived.Test.YtocghngmjipjoaaDoorPut
import Derived.Test.YtocghngmjipjoaaDoorJoin
import Derived.Test.YtocghngmjipjoaaDoorSameT
import Derived.Laws.Concat
import Derived.BigQuiet
namespace Go.Proofs.YtocghngmjipjoaaDoor
open Go.ChangeShapes Go.WideShapes Go.ChangeAt Go.RowKit
open LinesP HdrP

theorem b_done' {name : List UInt8} (hn : rightL name = true) (v : List UInt8) : bT name (piecesL (cleanL v)) (piecesL (cleanL v)).length ++ [13, 10] = putL name v := by
  by_cases h : cleanL v = []
  · unfold putL
    rw [if_pos hn, h]
    simp [piecesL, bT, foldR]
  · have := b_done hn v
    unfold piecesP at this
    rwa [if_neg h] at this
theorem l_len (s : List UInt8) : (piecesL s).length ≤ s.length + 1 := by
  have := p_len s
  unfold piecesP at this
  split at this
  · rename_i h; rw [h]; simp [piecesL]
  · exact this
theorem cat_list {A B : ByteArray} {a b c : List UInt8} (h1 : A.data.toList = a) (h2 : B.data.toList = b) (h3 : c = a ++ b) : (A ++ B).data.toList = c := by rw [list_append, h1, h2, h3]
set_option maxRecDepth 100000 in
set_option maxHeartbeats 1000000 in
theorem rput_bad (name value : ByteArray) (hz1 : name.size ≤ 100000) (w : World) (hn : rightL name.data.toList = false) :
    Calls Tryd.prog 23 #[.string name, .string value] w fun e w' => e = .returned (.string (strL (putL name.data.toList value.data.toList))) ∧ Below w.heap.size w w' := by
  have hr := rright_any name (by omega) w
  rw [hn] at hr
  unfold putL
  rw [if_neg (by rw [hn]; exact Bool.false_ne_true)]
  clear hn
  go_enter Tryd.func23, Tryd.ntmps23
  go_wp2_with (go_at_call 25; (refine hr.mono ?_); rintro e w9 ⟨rfl, hw⟩; rw [← hw]; clear hw w9)
  go_ret
  exact ⟨rfl, Below.refl _ _⟩
set_option maxRecDepth 100000 in
set_option maxHeartbeats 4000000 in
theorem rput_good (name value : ByteArray) (hz1 : name.size ≤ 100000) (hz2 : value.size ≤ 100000) (w : World) (hn : rightL name.data.toList = true) :
    Calls Tryd.prog 23 #[.string name, .string value] w fun e w' => e = .returned (.string (strL (putL name.data.toList value.data.toList))) ∧ Below w.heap.size w w' := by
  have hr := rright_any name (by omega) w
  rw [hn] at hr
  have hdone := b_done' hn value.data.toList
  have hcl := clean_le value.data.toList
  rw [← size_list] at hcl
  have cC := fun w => rclean_any value (by omega) w
  have cP := fun w => rpieces_any (strL (cleanL value.data.toList)) (by rw [strL_size]; omega) w
  rw [strL_list] at cP
  have hpf := pieces_flat (cleanL value.data.toList)
  have hbl := b_len name.data.toList (piecesL (cleanL value.data.toList))
  have hb1 := b_first name.data.toList (piecesL (cleanL value.data.toList))
  have hb2 := b_step name.data.toList (piecesL (cleanL value.data.toList))
  have hb0 : bT name.data.toList (piecesL (cleanL value.data.toList)) 0 = name.data.toList ++ [58, 32] ∧ bN name.data.toList (piecesL (cleanL value.data.toList)) 0 = name.size + 2 := ⟨rfl, by rw [size_list]; rfl⟩
  have hpl : (piecesL (cleanL value.data.toList)).length ≤ 100001 := by have := l_len (cleanL value.data.toList); omega
  generalize piecesL (cleanL value.data.toList) = P at cP hdone hpf hbl hb1 hb2 hb0 hpl
  generalize strL (cleanL value.data.toList) = V at cC cP
  have hnz := size_list name
  rw [← hdone]
  have htl : ∀ k, (P.take k).flatten.length ≤ 100000 := fun k => by
    have : P.flatten.length = (P.take k).flatten.length + (P.drop k).flatten.length := by rw [← List.length_append, ← List.flatten_append, List.take_append_drop]
    rw [hpf] at this; omega
  have hxl : ∀ x ∈ P, x.length ≤ 100000 := fun x hx => by
    obtain ⟨a, b, e⟩ := List.append_of_mem hx
    have h3 : x.length ≤ P.flatten.length := by rw [e]; simp; omega
    rw [hpf] at h3; omega
  have hbl2 : ∀ k, k ≤ P.length → (bT name.data.toList P k).length ≤ 500000 ∧ bN name.data.toList P k ≤ 300000 := fun k hk => by
    have h1 := hbl k hk
    have h2 := htl k
    rw [← hnz] at h1
    omega
  generalize bT name.data.toList P = T at hb1 hb2 hb0 hbl2 ⊢
  generalize bN name.data.toList P = M at hb1 hb2 hb0 hbl2
  have HB0 := Lib.hid hb0
  have HB1 := Lib.hid hb1
  have HB2 := Lib.hid hb2
  have HBL := Lib.hid hbl2
  have HXL := Lib.hid hxl
  have HNZ := Lib.hid hnz
  clear hnz hb0 hb1 hb2 hbl2 hbl htl hpf hdone hn hcl hxl
  obtain ⟨m, hm⟩ : ∃ m, P.length = m := ⟨_, rfl⟩
  rw [hm] at cP hpl ⊢
  have HM := Lib.hid hm
  clear hm
  have hcr : (⟨#[13, 10]⟩ : ByteArray).size = 2 := rfl
  go_enter Tryd.func23, Tryd.ntmps23
  go_wp2_with (first
    | (go_at_call 25; (refine hr.mono ?_); rintro e w9 ⟨rfl, hw⟩; rw [← hw]; clear hw w9 hr)
    | (go_at_call 30; (refine (cC _).mono ?_); rintro e w4 ⟨rfl, hb4⟩; clear cC; have cP' := cP w4; clear cP)
    | (go_at_call 28; (refine cP'.mono ?_); rintro e w5 ⟨pa, pc, rfl, ho, hb5⟩; clear cP'))
  have hb6 := Lib.hid (Qtrans hb4 hb5)
  have hown : Own w5 (.slice pa m pc) P := ⟨_, by rw [HM.out]; exact ho⟩
  have HO := Lib.hid hown
  have sN : (name ++ ⟨#[58, 32]⟩).size = name.size + 2 := ByteArray.size_append
  clear ho hb4 hb5 hown
  go_loopw [6, 7, 9] (fun r n i wr => ∃ (k : Nat) (O : ByteArray), k ≤ m ∧ i = .int .i64 k ∧ n = .int .i64 (M k) ∧ r = .string O ∧ wr = w5 ∧ O.size ≤ 500000 ∧ Hid (O.data.toList = T k)) (fun _ _ i _ => m - (intOf i).toNat)
  case atStart => exact ⟨0, name ++ ⟨#[58, 32]⟩, Nat.zero_le _, rfl, by rw [HB0.out.2]; simp, rfl, rfl, by rw [sN]; omega, by rw [HB0.out.1]; exact cat_list rfl rfl rfl⟩
  case round =>
    obtain ⟨k, O, hk, rfl, rfl, rfl, rfl, hOs, hO⟩ := hrel
    have hkb := HBL.out k (by rw [HM.out]; exact hk)
    have F1 : IntKind.i64.wrap ((k : Int) + 1) = (k : Int) + 1 := by rw [IntKind.wrap_i64]; omega
    by_cases hlt : k < m
    · have hlt' : (k : Int) < (m : Int) := by omega
      obtain ⟨g, rfl⟩ := HO.out.at (by omega)
      obtain ⟨x, hx⟩ : ∃ x, P[k]? = some x := ⟨_, List.getElem?_eq_getElem (by rw [HM.out]; exact hlt)⟩
      have hxl := HXL.out x (List.mem_of_getElem? hx)
      have kc := HO.out.cell k x hx
      have hkb2 := (HBL.out (k + 1) (by rw [HM.out]; omega)).1
      have sA : (strL x).size = x.length := strL_size x
      have lA : (strL x).data.toList = x := rfl
      generalize strL x = A at kc sA lA
      have F2 : IntKind.i64.wrap ((M k : Int) + (A.size : Int)) = (M k : Int) + (A.size : Int) := by rw [IntKind.wrap_i64]; omega
      have F3 : IntKind.i64.wrap (A.size : Int) = (A.size : Int) := by rw [IntKind.wrap_i64]; omega
      by_cases h0 : k = 0
      · subst h0
        obtain ⟨e1, e2⟩ := HB1.out x hx
        have hO2 : Hid ((O ++ A).data.toList = T 1) := cat_list hO.out lA e1
        have hO3 : (O ++ A).size ≤ 500000 := by rw [size_list, hO2.out]; exact hkb2
        have E2 : Hid ((M 1 : Int) = (M 0 : Int) + (A.size : Int)) := by show _ = _; rw [e2]; omega
        have hAs : A.size ≤ 100000 := by omega
        clear hx e1 e2 lA sA
        go_wp2_with fail
        go_roundw
        case rel => exact ⟨1, O ++ A, by omega, by go_num, by rw [E2.out], rfl, trivial, hO3, hO2⟩
        case measure => simp [intOf]; omega
      · have h0' : (0 : Int) < (k : Int) := by omega
        obtain ⟨e1, e2⟩ := HB2.out k x (by omega) hx
        by_cases h78 : 78 < M k + x.length
        · rw [if_pos h78] at e1 e2
          have h78' : (78 : Int) < (M k : Int) + (A.size : Int) := by omega
          have hO2 : Hid ((O ++ ⟨#[13, 10]⟩ ++ A).data.toList = T (k + 1)) := cat_list (cat_list hO.out rfl rfl) lA (by rw [e1, List.append_assoc])
          have hO3 : (O ++ ⟨#[13, 10]⟩ ++ A).size ≤ 500000 := by rw [size_list, hO2.out]; exact hkb2
          have E2 : Hid ((M (k + 1) : Int) = (A.size : Int)) := by show _ = _; rw [e2, sA]
          have hAs : A.size ≤ 100000 := by omega
          have hOc : (O ++ ⟨#[13, 10]⟩).size = O.size + 2 := ByteArray.size_append
          clear hx e1 e2 lA sA h78
          go_wp2_with fail
          go_roundw
          case rel => exact ⟨k + 1, O ++ ⟨#[13, 10]⟩ ++ A, by omega, by go_num, by rw [E2.out], rfl, trivial, hO3, hO2⟩
          case measure => simp [intOf]; omega
        · rw [if_neg h78] at e1 e2
          have h78' : ¬ (78 : Int) < (M k : Int) + (A.size : Int) := by omega
          have hO2 : Hid ((O ++ A).data.toList = T (k + 1)) := cat_list hO.out lA e1
          have hO3 : (O ++ A).size ≤ 500000 := by rw [size_list, hO2.out]; exact hkb2
          have E2 : Hid ((M (k + 1) : Int) = (M k : Int) + (A.size : Int)) := by show _ = _; rw [e2, sA]; omega
          have hAs : A.size ≤ 100000 := by omega
          clear hx e1 e2 lA sA h78
          go_wp2_with fail
          go_roundw
          case rel => exact ⟨k + 1, O ++ A, by omega, by go_num, by rw [E2.out], rfl, trivial, hO3, hO2⟩
          case measure => simp [intOf]; omega
    · obtain rfl : k = m := by omega
      have hlt' : ¬ (k : Int) < (k : Int) := by omega
      have HE : Hid (strL (T k ++ [13, 10]) = O ++ ⟨#[13, 10]⟩) := (strL_is (cat_list hO.out (b := [13, 10]) rfl rfl)).symm
      go_wp2_with fail
      go_ret
      exact ⟨by rw [HE.out]; rfl, hb6.out⟩
theorem rput_any (name value : ByteArray) (hz1 : name.size ≤ 100000) (hz2 : value.size ≤ 100000) (w : World) :
    Calls Tryd.prog 23 #[.string name, .string value] w fun e w' => e = .returned (.string (strL (putL name.data.toList value.data.toList))) ∧ Below w.heap.size w w' := by
  by_cases hn : rightL name.data.toList = true
  · exact rput_good name value hz1 hz2 w hn
  · exact rput_bad name value hz1 w (by simpa using hn)
theorem put_any (name value : ByteArray) (hz1 : name.size ≤ 100000) (hz2 : value.size ≤ 100000) (w : World) (hv : Vars w) :
    Calls Tryd.prog 22 #[.string name, .string value] w fun e w' => e = .returned (.string (strL (putL name.data.toList value.data.toList))) ∧ Below w.heap.size w w' := by
  by_cases hn : rightL name.data.toList = true
  · exact put_good name value hz1 hz2 w hv hn
  · exact put_bad name value w (by simpa using hn)
end Go.Proofs.YtocghngmjipjoaaDoor
