/- The program's assignment: the name and the value that a row gives. A region that draws its order, walked by hand; of no program. The reference's tests of bytes and strings: find, has, letter, Word, Text, Split, digit. The program's isLetterOrDigit and isWord. A strings.Builder beside newer memory: what its methods leave as it was. The program's writing of a value: isPrintable, writeQuoted, writeEncoded, writeValue. Parameters (two strings each) as values; slices of parameters: in a block of their own, or read at an address; the reference's Params. The program's writeValue, Line and Write. The reference's Open and Meant, from what its Unhex, Repair and Decode answer. Hexadecimal decoding, num's and the reference's. Hexadecimal decoding by a closure: num.Unhex. UTF-8 on lists of bytes: decoding from left to right, and what holds of it; of no program. -/
import Derived.Test.YtdinachiiimngaaGreatDoorK3
import Derived.Test.YtdinachiiimngaaGreatDoorK4
import Derived.WalkKit
import Derived.Deep.MidRow
import Derived.Deep.RegionHeld3
import Derived.Test.YtdinachiiimngaaGreatDoorK1
import Derived.Test.YtdinachiiimngaaGreatDoorK2
import Derived.Lib.OthersKept
import Derived.BigQuiet
import GoSem.Claim
import Derived.KernelRfl
namespace Go.Proofs.YtdinachiiimngaaGreatDoor
open Go.ChangeShapes Go.WideShapes Go.ChangeAt Go.RowKit
open TokP AdrP CtP

/-- The name, in lower case, and the value that a row gives. -/
def asgP : List UInt8 → List TokP.Tok → Option (List UInt8 × List UInt8)
  | _, [] => none
  | pre, t :: r => if t.kind = 1 ∧ 61 ∈ t.text then (if (pre ++ upC 61 t.text) = [] then none else some ((pre ++ upC 61 t.text).map lowA, pairV (behind 61 t.text) r)) else asgP (pre ++ t.text) r
theorem pair_asg (num : List UInt8 → Option Nat) : ∀ (l : List TokP.Tok) (pre : List UInt8), pairP num pre l = (asgP pre l).map (fun x => toldP num x.1 x.2)
  | [], _ => rfl
  | t :: r, pre => by
    rw [pairP, asgP]
    split
    · split <;> rfl
    · exact pair_asg num r _
theorem asg_none : ∀ (l : List TokP.Tok) (pre : List UInt8), (∀ u ∈ l, hasEq u = false) → asgP pre l = none
  | [], _, _ => rfl
  | t :: r, pre, h => by
    rw [asgP, if_neg (fun hc => ?_)]
    · exact asg_none r _ (fun u hu => h u (by simp [hu]))
    · have := h t (by simp)
      rw [(hasEq_iff t).2 hc] at this
      exact absurd this (by decide)
theorem asg_at {l : List TokP.Tok} {k : Nat} {t : TokP.Tok} (hk : l[k]? = some t) (ht : hasEq t = true) (h : ∀ i u, i < k → l[i]? = some u → hasEq u = false) :
    asgP [] l = if (joinL (l.take k) ++ upC 61 t.text) = [] then none else some ((joinL (l.take k) ++ upC 61 t.text).map lowA, pairV (behind 61 t.text) (l.drop (k + 1))) := by
  obtain ⟨h1, h2⟩ := List.getElem?_eq_some_iff.1 hk
  have e : l = l.take k ++ t :: l.drop (k + 1) := by rw [← h2, ← List.drop_eq_getElem_cons h1, List.take_append_drop]
  have ha : ∀ u ∈ l.take k, hasEq u = false := fun u hu => by
    obtain ⟨i, hi, rfl⟩ := List.mem_iff_getElem.1 hu
    have hi2 : i < k := by rw [List.length_take] at hi; omega
    refine h i _ hi2 ?_
    rw [List.getElem_take]
    exact List.getElem?_eq_getElem (by omega)
  have hgo : ∀ (A B : List TokP.Tok) (pre : List UInt8), (∀ u ∈ A, hasEq u = false) → asgP pre (A ++ t :: B) = if ((pre ++ joinL A) ++ upC 61 t.text) = [] then none else some (((pre ++ joinL A) ++ upC 61 t.text).map lowA, pairV (behind 61 t.text) B) := by
    intro A
    induction A with
    | nil =>
      intro B pre _
      have hj : joinL ([] : List TokP.Tok) = [] := rfl
      rw [List.nil_append, asgP, if_pos ((hasEq_iff t).1 ht), hj, List.append_nil]
    | cons u A ih =>
      intro B pre hA
      have hj : joinL (u :: A) = u.text ++ joinL A := by unfold joinL; simp
      rw [List.cons_append, asgP, if_neg (fun hc => ?_), ih B _ (fun v hv => hA v (by simp [hv])), hj, List.append_assoc pre]
      have := hA u (by simp)
      rw [(hasEq_iff u).2 hc] at this
      exact absurd this (by decide)
  conv => lhs; rw [e]
  rw [hgo _ _ [] ha, List.nil_append]
theorem str_cmp (l : List UInt8) : (strL l).toList.isEmpty = l.isEmpty ∧ ((strL l).toList == []) = l.isEmpty := by
  rw [ByteArray.toList_eq, strL_list]
  refine ⟨rfl, ?_⟩
  cases l <;> rfl
theorem join_split (l : List TokP.Tok) (k : Nat) (t : TokP.Tok) (h : l[k]? = some t) : (joinL (l.take k)).length + t.text.length + (joinL (l.drop (k + 1))).length = (joinL l).length := by
  obtain ⟨h1, h2⟩ := List.getElem?_eq_some_iff.1 h
  have e : l = l.take k ++ t :: l.drop (k + 1) := by rw [← h2, ← List.drop_eq_getElem_cons h1, List.take_append_drop]
  have hj : joinL l = joinL (l.take k) ++ (t.text ++ joinL (l.drop (k + 1))) := by
    conv => lhs; rw [e]
    unfold joinL; simp
  rw [hj, List.length_append, List.length_append]
  omega
theorem HasT.hasF {w : World} {v : Value} {l : List TokP.Tok} (h : HasT w v l) : HasF w v l := by
  obtain ⟨_, _, _, _, h⟩ := h; exact h
set_option maxRecDepth 100000 in
set_option maxHeartbeats 8000000 in
theorem asg_any {a : Option Addr} {n c : Nat} {l : List TokP.Tok} (hn : n ≤ 4000000) (hj : (joinL l).length ≤ 4000000) (R : Option (List UInt8 × List UInt8)) (hR : asgP [] l = R) (w : World) (h : HasT w (.slice a n c) l) :
    Calls Tryz.prog 68 #[.slice a n c] w fun e w' => e = .returned (.tuple #[.string (strL (R.getD ([], [])).1), .string (strL (R.getD ([], [])).2), .bool R.isSome]) ∧ Below w.heap.size w w' := by
  obtain ⟨hl, hc, hf⟩ := h.cap
  have hw0 := h
  have HH0 := Lib.hid h
  rcases first_ex hasEq l with hno | ⟨k, t, hk, ht, hno⟩
  · obtain rfl : none = R := by rw [← hR, asg_none l [] hno]
    have cX := fun W (h : Hid (HasT W (.slice a n c) l)) => indexE_is h.out (by omega) (-1) (.inl ⟨rfl, hno⟩)
    clear h hl hf hno hj hw0
    go_enter Tryz.func68, Tryz.ntmps68
    go_wp2_with (go_at_call 99; (with_reducible refine (cX _ HH0).mono ?_); rintro e w1 ⟨rfl, hb1⟩; have HB1 := Lib.hid hb1; clear hb1 cX)
    go_ret3
    exact ⟨rfl, HB1.out⟩
  · have hkn : k < n := by rw [hl]; exact (List.getElem?_eq_some_iff.1 hk).1
    have cX := fun W (h : Hid (HasT W (.slice a n c) l)) => indexE_is h.out (by omega) k (.inr ⟨k, t, rfl, hk, ht, hno⟩)
    have hat := asg_at hk ht hno
    rw [hR] at hat
    have hsp := join_split l k t hk
    have hk0 : ¬ (k : Int) < 0 := by omega
    have F1 : IntKind.i64.wrap ((k : Int) + 1) = (k : Int) + 1 := by rw [IntKind.wrap_i64]; omega
    have hknI : (k : Int) < (n : Int) := by omega
    obtain ⟨A1, C1, R1, hT1⟩ := run_sub_to h k (k : Int) rfl (by omega)
    obtain ⟨A2, C2, R2, hT2⟩ := run_sub_from h (k + 1) ((k : Int) + 1) (by omega) (by omega)
    obtain ⟨g, o, rfl, hfa⟩ := hf.at (by omega)
    have HQ := Lib.hid (fun (W : World) (hb : Hid (Below w.heap.size w W)) => hfa.step hb.out k t hk)
    have hz1 : (upC 61 t.text).length ≤ t.text.length := (List.takeWhile_prefix _).length_le
    have hz2 : (behind 61 t.text).length ≤ t.text.length := by unfold behind; rw [List.length_drop]; omega
    have cC := fun W => cut_all 61 (strL t.text) (by rw [strL_size]; omega) W
    rw [strL_list] at cC
    have hln1 : (l.take k).length ≤ 4000000 := by rw [List.length_take]; omega
    have cJ := fun W (hb : Hid (Below w.heap.size w W)) => join_any _ (l.take k) W (hT1.step hb.out).hasF (by omega) hln1
    have hNL : (strL (joinL (l.take k)) ++ strL (upC 61 t.text)).data.toList = joinL (l.take k) ++ upC 61 t.text := by rw [list_append, strL_list, strL_list]
    have hNz : (strL (joinL (l.take k)) ++ strL (upC 61 t.text)).size ≤ 4000000 := by rw [ByteArray.size_append, strL_size, strL_size]; omega
    have hNy : (strL (joinL (l.take k))).size + (strL (upC 61 t.text)).size ≤ 4000000 := by rw [strL_size, strL_size]; omega
    have cL := fun W => lower_any (strL (joinL (l.take k)) ++ strL (upC 61 t.text)) hNz W
    rw [hNL] at cL
    generalize strL (joinL (l.take k)) = J at cJ cL hNL hNz hNy
    generalize strL (upC 61 t.text) = U at cC cL hNL hNz hNy
    generalize joinL (l.take k) ++ upC 61 t.text = NM at hat cL hNL
    have hNz2 : NM.length ≤ 4000000 := by rw [← hNL, ← size_list]; exact hNz
    obtain ⟨hs1, hs2⟩ := str_cmp (NM.map lowA)
    have hne : (NM.map lowA).isEmpty = NM.isEmpty := by cases NM <;> rfl
    rw [hne] at hs1 hs2
    clear hNL hne
    generalize (t.kind : Int) = x0 at HQ
    generalize strL t.text = x1 at HQ cC
    have hcon : t.text.contains 61 = true := by rw [List.contains_iff_mem]; exact ((hasEq_iff t).1 ht).2
    rw [hcon] at cC
    by_cases he : NM = []
    · rw [if_pos he] at hat
      subst hat
      rw [he, List.map_nil] at cL hs1 hs2
      generalize strL (behind 61 t.text) = V at cC
      rw [show strL [] = (⟨#[]⟩ : ByteArray) from rfl] at cL
      clear h hl hw0 hno hk ht hT1 hT2 hfa hR he hsp hz1 hz2 hln1 hNz2 hj hs1 hs2 R2 hcon
      go_enter Tryz.func68, Tryz.ntmps68
      go_wp2_with (first
        | (go_at_call 99; (with_reducible refine (cX _ HH0).mono ?_); rintro e w1 ⟨rfl, hb1⟩; have HB1 := Lib.hid hb1; clear hb1 cX; obtain ⟨q0, q1⟩ := HQ.out w1 HB1)
        | (go_at_call 30; (with_reducible refine (cC _).mono ?_); rintro e w2 ⟨rfl, hb2⟩; have HB2 := Lib.hid (HB1.out.trans (hb2.mono HB1.out.size)); clear hb2 cC)
        | (go_at_call 31; (with_reducible refine (cJ _ HB2).mono ?_); rintro e w3 ⟨rfl, hb3⟩; have HB3 := Lib.hid (HB2.out.trans (hb3.mono HB2.out.size)); clear hb3 cJ)
        | (go_at_call 33; (with_reducible refine (cL _).mono ?_); rintro e w4 ⟨rfl, hb4⟩; have HB4 := Lib.hid (HB3.out.trans (hb4.mono HB3.out.size)); clear hb4 cL))
      go_ret3
      exact ⟨rfl, HB4.out⟩
    · rw [if_neg he] at hat
      have hne : NM.isEmpty = false := by cases NM with
        | nil => exact absurd rfl he
        | cons _ _ => rfl
      rw [hne] at hs1 hs2
      generalize hNMq : strL (NM.map lowA) = NMs at cL hs1 hs2
      obtain ⟨hv1, hv2⟩ := str_cmp (behind 61 t.text)
      have hDl : (l.drop (k + 1)).length = n - (k + 1) := by rw [List.length_drop, hl]
      have hpD : (joinL (l.drop (k + 1))).length ≤ 4000000 := by omega
      have HT2 := Lib.hid hT2
      have HJ1 := Lib.hid hT1
      have cK := fun W (hb : Hid (Below w.heap.size w W)) => join_any _ (l.drop (k + 1)) W (HT2.out.step hb.out).hasF (by omega) (by omega)
      obtain ⟨m, hm⟩ : ∃ m, n - (k + 1) = m := ⟨_, rfl⟩
      rw [hm] at R2 hDl HT2 cK
      clear h hl hT1 hT2 hm HH0
      have HH0 := Lib.hid hw0
      by_cases hV : behind 61 t.text = []
      · rw [show (behind 61 t.text).isEmpty = true by rw [hV]; rfl] at hv1 hv2
        by_cases hmp : 0 < m
        · have hmI : (0 : Int) < (m : Int) := by omega
          obtain ⟨u, hu⟩ : ∃ u, (l.drop (k + 1))[0]? = some u := ⟨_, List.getElem?_eq_getElem (by rw [hDl]; exact hmp)⟩
          obtain ⟨g2, o2, rfl, hfb⟩ := HT2.out.hasF.at hmp
          have HQ2 := Lib.hid (fun (W : World) (hb : Hid (Below w.heap.size w W)) => hfb.step hb.out 0 u hu)
          rw [Nat.zero_mul, Nat.add_zero] at HQ2
          have hcons : l.drop (k + 1) = u :: (l.drop (k + 1)).drop 1 := by
            obtain ⟨h1, h2⟩ := List.getElem?_eq_some_iff.1 hu
            have := List.drop_eq_getElem_cons (l := l.drop (k + 1)) (i := 0) h1
            rw [h2] at this
            exact this
          by_cases hu2 : u.kind = 2
          · have hpv : pairV (behind 61 t.text) (l.drop (k + 1)) = valueL u := by rw [hcons, pairV, if_pos ⟨hV, hu2⟩]
            rw [hpv] at hat
            subst hat
            have hul : u.text.length ≤ 4000000 := by
              have := text_mem (l.drop (k + 1)) u (List.mem_of_getElem? hu)
              omega
            have cV := fun W => value_any (u.kind : Nat) (strL u.text) (by rw [strL_size]; exact hul) W
            rw [strL_list, value_tok] at cV
            have ek : ((u.kind : Nat) : Int) = 2 := by omega
            simp only [ek] at cV HQ2
            show Calls _ _ _ _ fun e w' => e = .returned (.tuple #[.string (strL (NM.map lowA)), .string (strL (valueL u)), .bool true]) ∧ _
            rw [hNMq]
            generalize strL (valueL u) = ANS at cV ⊢
            generalize strL u.text = x2 at cV HQ2
            generalize strL (behind 61 t.text) = V at cC hv1 hv2
            clear hno hk ht hfa hR he hsp hz1 hz2 hln1 hNz2 hj hcon hne hNMq hV hpv hu hu2 hul hfb hcons ek cK
            go_enter Tryz.func68, Tryz.ntmps68
            go_wp2_with (first
              | (go_at_call 99; (with_reducible refine (cX _ HH0).mono ?_); rintro e w1 ⟨rfl, hb1⟩; have HB1 := Lib.hid hb1; clear hb1 cX; obtain ⟨q0, q1⟩ := HQ.out w1 HB1)
              | (go_at_call 30; (with_reducible refine (cC _).mono ?_); rintro e w2 ⟨rfl, hb2⟩; have HB2 := Lib.hid (HB1.out.trans (hb2.mono HB1.out.size)); clear hb2 cC)
              | (go_at_call 31; (with_reducible refine (cJ _ HB2).mono ?_); rintro e w3 ⟨rfl, hb3⟩; have HB3 := Lib.hid (HB2.out.trans (hb3.mono HB2.out.size)); clear hb3 cJ)
              | (go_at_call 33; (with_reducible refine (cL _).mono ?_); rintro e w4 ⟨rfl, hb4⟩; have HB4 := Lib.hid (HB3.out.trans (hb4.mono HB3.out.size)); clear hb4 cL; obtain ⟨r0, r1⟩ := HQ2.out w4 HB4)
              | (go_at_call 102; (with_reducible refine (cV _).mono ?_); rintro e w5 ⟨rfl, hb5⟩; have HB5 := Lib.hid (HB4.out.trans (hb5.mono HB4.out.size)); clear hb5 cV))
            go_ret3
            exact ⟨rfl, HB5.out⟩
          · have hpv : pairV (behind 61 t.text) (l.drop (k + 1)) = behind 61 t.text ++ joinL (l.drop (k + 1)) := by
              conv => lhs; rw [hcons, pairV, if_neg (fun e => hu2 e.2), ← hcons]
            rw [hpv] at hat
            subst hat
            have ek : (((u.kind : Nat) : Int) == 2) = false := beq_eq_false_iff_ne.2 (by omega)
            generalize ((u.kind : Nat) : Int) = x3 at ek HQ2
            show Calls _ _ _ _ fun e w' => e = .returned (.tuple #[.string (strL (NM.map lowA)), .string (strL (behind 61 t.text ++ joinL (l.drop (k + 1)))), .bool true]) ∧ _
            rw [hNMq]
            clear hpv hu hu2 hfb hcons
            have hKz : (strL (behind 61 t.text)).size + (strL (joinL (l.drop (k + 1)))).size ≤ 8000000 := by rw [strL_size, strL_size]; omega
            have HV := Lib.hid (show strL (behind 61 t.text) ++ strL (joinL (l.drop (k + 1))) = strL (behind 61 t.text ++ joinL (l.drop (k + 1))) from strL_append _ _)
            generalize strL (behind 61 t.text ++ joinL (l.drop (k + 1))) = ANS at HV ⊢
            generalize strL (joinL (l.drop (k + 1))) = K at cK HV hKz
            generalize strL (behind 61 t.text) = V at cC HV hKz hv1 hv2
            clear hno hk ht hfa hR he hsp hz1 hz2 hln1 hNz2 hj hcon hne hNMq hV
            go_enter Tryz.func68, Tryz.ntmps68
            go_wp2_with (first
              | (go_at_call 99; (with_reducible refine (cX _ HH0).mono ?_); rintro e w1 ⟨rfl, hb1⟩; have HB1 := Lib.hid hb1; clear hb1 cX; obtain ⟨q0, q1⟩ := HQ.out w1 HB1)
              | (go_at_call 30; (with_reducible refine (cC _).mono ?_); rintro e w2 ⟨rfl, hb2⟩; have HB2 := Lib.hid (HB1.out.trans (hb2.mono HB1.out.size)); clear hb2 cC)
              | (go_at_call 31; (with_reducible refine (cJ _ HB2).mono ?_); rintro e w3 ⟨rfl, hb3⟩; have HB3 := Lib.hid (HB2.out.trans (hb3.mono HB2.out.size)); clear hb3 cJ)
              | (go_at_call 33; (with_reducible refine (cL _).mono ?_); rintro e w4 ⟨rfl, hb4⟩; have HB4 := Lib.hid (HB3.out.trans (hb4.mono HB3.out.size)); clear hb4 cL; obtain ⟨r0, r1⟩ := HQ2.out w4 HB4)
              | (go_at_call 31; (with_reducible refine (cK _ HB4).mono ?_); rintro e w5 ⟨rfl, hb5⟩; have HB5 := Lib.hid (HB4.out.trans (hb5.mono HB4.out.size)); clear hb5 cK))
            go_ret3
            rw [← HV.out]
            exact ⟨rfl, HB5.out⟩
        · have hmI : ¬ (0 : Int) < (m : Int) := by omega
          have hD0 : l.drop (k + 1) = [] := List.eq_nil_of_length_eq_zero (by omega)
          have hpv : pairV (behind 61 t.text) (l.drop (k + 1)) = behind 61 t.text ++ joinL (l.drop (k + 1)) := by rw [hD0, pairV]; unfold joinL; simp
          rw [hpv] at hat
          subst hat
          show Calls _ _ _ _ fun e w' => e = .returned (.tuple #[.string (strL (NM.map lowA)), .string (strL (behind 61 t.text ++ joinL (l.drop (k + 1)))), .bool true]) ∧ _
          rw [hNMq]
          clear hpv hD0
          have hKz : (strL (behind 61 t.text)).size + (strL (joinL (l.drop (k + 1)))).size ≤ 8000000 := by rw [strL_size, strL_size]; omega
          have HV := Lib.hid (show strL (behind 61 t.text) ++ strL (joinL (l.drop (k + 1))) = strL (behind 61 t.text ++ joinL (l.drop (k + 1))) from strL_append _ _)
          generalize strL (behind 61 t.text ++ joinL (l.drop (k + 1))) = ANS at HV ⊢
          generalize strL (joinL (l.drop (k + 1))) = K at cK HV hKz
          generalize strL (behind 61 t.text) = V at cC HV hKz hv1 hv2
          clear hno hk ht hfa hR he hsp hz1 hz2 hln1 hNz2 hj hcon hne hNMq hV
          go_enter Tryz.func68, Tryz.ntmps68
          go_wp2_with (first
            | (go_at_call 99; (with_reducible refine (cX _ HH0).mono ?_); rintro e w1 ⟨rfl, hb1⟩; have HB1 := Lib.hid hb1; clear hb1 cX; obtain ⟨q0, q1⟩ := HQ.out w1 HB1)
            | (go_at_call 30; (with_reducible refine (cC _).mono ?_); rintro e w2 ⟨rfl, hb2⟩; have HB2 := Lib.hid (HB1.out.trans (hb2.mono HB1.out.size)); clear hb2 cC)
            | (go_at_call 31; (with_reducible refine (cJ _ HB2).mono ?_); rintro e w3 ⟨rfl, hb3⟩; have HB3 := Lib.hid (HB2.out.trans (hb3.mono HB2.out.size)); clear hb3 cJ)
            | (go_at_call 33; (with_reducible refine (cL _).mono ?_); rintro e w4 ⟨rfl, hb4⟩; have HB4 := Lib.hid (HB3.out.trans (hb4.mono HB3.out.size)); clear hb4 cL)
            | (go_at_call 31; (with_reducible refine (cK _ HB4).mono ?_); rintro e w5 ⟨rfl, hb5⟩; have HB5 := Lib.hid (HB4.out.trans (hb5.mono HB4.out.size)); clear hb5 cK))
          go_ret3
          rw [← HV.out]
          exact ⟨rfl, HB5.out⟩
      · have hve : (behind 61 t.text).isEmpty = false := by cases hb : behind 61 t.text with
          | nil => exact absurd hb hV
          | cons _ _ => rfl
        rw [hve] at hv1 hv2
        have hpv : pairV (behind 61 t.text) (l.drop (k + 1)) = behind 61 t.text ++ joinL (l.drop (k + 1)) := by
          cases hD : l.drop (k + 1) with
          | nil => rw [pairV]; unfold joinL; simp
          | cons u r => rw [pairV, if_neg (fun e => hV e.1)]
        rw [hpv] at hat
        subst hat
        show Calls _ _ _ _ fun e w' => e = .returned (.tuple #[.string (strL (NM.map lowA)), .string (strL (behind 61 t.text ++ joinL (l.drop (k + 1)))), .bool true]) ∧ _
        rw [hNMq]
        clear hpv hve
        have hKz : (strL (behind 61 t.text)).size + (strL (joinL (l.drop (k + 1)))).size ≤ 8000000 := by rw [strL_size, strL_size]; omega
        have HV := Lib.hid (show strL (behind 61 t.text) ++ strL (joinL (l.drop (k + 1))) = strL (behind 61 t.text ++ joinL (l.drop (k + 1))) from strL_append _ _)
        generalize strL (behind 61 t.text ++ joinL (l.drop (k + 1))) = ANS at HV ⊢
        generalize strL (joinL (l.drop (k + 1))) = K at cK HV hKz
        generalize strL (behind 61 t.text) = V at cC HV hKz hv1 hv2
        clear hno hk ht hfa hR he hsp hz1 hz2 hln1 hNz2 hj hcon hne hNMq hV
        go_enter Tryz.func68, Tryz.ntmps68
        go_wp2_with (first
          | (go_at_call 99; (with_reducible refine (cX _ HH0).mono ?_); rintro e w1 ⟨rfl, hb1⟩; have HB1 := Lib.hid hb1; clear hb1 cX; obtain ⟨q0, q1⟩ := HQ.out w1 HB1)
          | (go_at_call 30; (with_reducible refine (cC _).mono ?_); rintro e w2 ⟨rfl, hb2⟩; have HB2 := Lib.hid (HB1.out.trans (hb2.mono HB1.out.size)); clear hb2 cC)
          | (go_at_call 31; (with_reducible refine (cJ _ HB2).mono ?_); rintro e w3 ⟨rfl, hb3⟩; have HB3 := Lib.hid (HB2.out.trans (hb3.mono HB2.out.size)); clear hb3 cJ)
          | (go_at_call 33; (with_reducible refine (cL _).mono ?_); rintro e w4 ⟨rfl, hb4⟩; have HB4 := Lib.hid (HB3.out.trans (hb4.mono HB3.out.size)); clear hb4 cL)
          | (go_at_call 31; (with_reducible refine (cK _ HB4).mono ?_); rintro e w5 ⟨rfl, hb5⟩; have HB5 := Lib.hid (HB4.out.trans (hb5.mono HB4.out.size)); clear hb5 cK))
        go_ret3
        rw [← HV.out]
        exact ⟨rfl, HB5.out⟩
end Go.Proofs.YtdinachiiimngaaGreatDoor
namespace Go.Proofs.YtdinachiiimngaaGreatDoor
open Go

variable {P : Program} {ops : Array Oper} {Q : Exit → Act → World → Prop} {md : Region.Mode} {S : World → Prop}
theorem at_drop {i : Nat} {oi : Oper} {tl : List Oper} (h : ops.toList.drop i = oi :: tl) : ops[i]? = some oi := by
  have h2 := congrArg (·[0]?) h
  simpa using h2
/-- An operation that yields v in every world that meets S is taken first. -/
theorem held_take {i : Nat} {oi : Oper} {tl : List Oper} (v : Value) {fuel : Nat} {listed : Array Bool} {a : Act} {w : World} (hi : ops.toList.drop i = oi :: tl)
    (hs : Region.noSelect ops = true) (hf : Region.free md ops listed i = true) (hr : (Region.ready md ops listed).contains i = true)
    (hw : Region.wanted oi (yielded ops a.tmps) = true)
    (hv : ∀ w, S w → (execOp a.eval oi).run P w = .ok (.value v) w) (hS : S w)
    (h : wpAnyH P md ops (NoPanic Q) S fuel (listed.setIfInBounds i true) (a.put oi.dst v) w) : wpAnyH P md ops (NoPanic Q) S (fuel + 1) listed a w :=
  wpAnyH_take (at_drop hi) hs hf hr (fun _ _ _ h => (h : False).elim) (Or.inl ⟨hw, hv⟩) hS h
/-- An operation that is guarded away. -/
theorem held_skip {i : Nat} {oi : Oper} {tl : List Oper} {fuel : Nat} {listed : Array Bool} {a : Act} {w : World} (hi : ops.toList.drop i = oi :: tl)
    (hs : Region.noSelect ops = true) (hf : Region.free md ops listed i = true) (hr : (Region.ready md ops listed).contains i = true)
    (hw : Region.wanted oi (yielded ops a.tmps) = false) (hS : S w)
    (h : wpAnyH P md ops (NoPanic Q) S fuel (listed.setIfInBounds i true) (a.put oi.dst undef) w) : wpAnyH P md ops (NoPanic Q) S (fuel + 1) listed a w :=
  wpAnyH_take (at_drop hi) hs hf hr (fun _ _ _ h => (h : False).elim) (Or.inr ⟨hw, rfl⟩) hS h
/-- A load of a whole array. -/
theorem held_load {i : Nat} {oi : Oper} {tl : List Oper} (g : Nat) (cs : List Value) {fuel : Nat} {listed : Array Bool} {a : Act} {w : World} (hi : ops.toList.drop i = oi :: tl)
    (hs : Region.noSelect ops = true) (hf : Region.free md ops listed i = true) (hr : (Region.ready md ops listed).contains i = true)
    (hw : Region.wanted oi (yielded ops a.tmps) = true)
    {ty : TypeId} {x : Operand} (ho : oi.op = .load ty x) (hx : a.eval x = .pointer (some ⟨g, 0, none⟩))
    {d : TypeDesc} (hu : P.underlying ty = some d) (hd : d.isRow = true) (hz : (P.info? ty).map (·.size) = some cs.length) (hc : ∀ w, S w → w.rangeAt g 0 cs) (hS : S w)
    (h : wpAnyH P md ops (NoPanic Q) S fuel (listed.setIfInBounds i true) (a.put oi.dst (.agg cs.toArray)) w) : wpAnyH P md ops (NoPanic Q) S (fuel + 1) listed a w :=
  wpAnyH_take (at_drop hi) hs hf hr (fun _ _ _ h => (h : False).elim) (yieldsIf_load_mid hw ty x ho g 0 hx cs d hc hu hd hz) hS h
/-- The one operation that may come up is called. -/
theorem held_step {i : Nat} {oi : Oper} {tl : List Oper} (v : Value) {fuel : Nat} {listed : Array Bool} {a : Act} {w : World} (hi : ops.toList.drop i = oi :: tl)
    (hr : Region.ready md ops listed = [i]) (hw : Region.wanted oi (yielded ops a.tmps) = true)
    (hv : ∀ K : Act → World → Prop, (∀ w', S w' → K (a.put oi.dst v) w') → Oper.wp P oi a w K (NoPanic Q))
    (h : ∀ w', S w' → wpAnyH P md ops (NoPanic Q) S fuel (listed.setIfInBounds i true) (a.put oi.dst v) w') : wpAnyH P md ops (NoPanic Q) S (fuel + 1) listed a w := by
  refine wpAnyH_ready hr (by simp) (AllReadyH.cons (at_drop hi) (fun K hK => ?_) AllReadyH.nil)
  rw [if_pos hw]
  exact hv K (fun w' hS => hK.out _ _ hS (fun hS => h w' hS))
/-- The one operation that may come up goes from this world to that. -/
theorem held_goes {i : Nat} {oi : Oper} {tl : List Oper} {fuel : Nat} {listed : Array Bool} {a : Act} {w : World} (v : Value) (w1 : World) (hi : ops.toList.drop i = oi :: tl)
    (hr : Region.ready md ops listed = [i]) (hw : Region.wanted oi (yielded ops a.tmps) = true)
    (hv : ∀ K : Act → World → Prop, K (a.put oi.dst v) w1 → Oper.wp P oi a w K (NoPanic Q)) (hS : S w1)
    (h : wpAnyH P md ops (NoPanic Q) S fuel (listed.setIfInBounds i true) (a.put oi.dst v) w1) : wpAnyH P md ops (NoPanic Q) S (fuel + 1) listed a w := by
  refine wpAnyH_ready hr (by simp) (AllReadyH.cons (at_drop hi) (fun K hK => ?_) AllReadyH.nil)
  rw [if_pos hw]
  exact hv K (hK.out _ _ hS (fun _ => h))
end Go.Proofs.YtdinachiiimngaaGreatDoor
namespace Go.Proofs.YtdinachiiimngaaGreatDoor
open Go.ChangeShapes Go.WideShapes Go.ChangeAt Go.RowKit
open TokP AdrP CtP

def findZ (c : UInt8) (s : List UInt8) : Int := if c ∈ s then ((upC c s).length : Int) else -1
theorem upC_len {c : UInt8} {s : List UInt8} {k : Nat} (hk : s[k]? = some c) (h : c ∉ s.take k) : findZ c s = k := by
  obtain ⟨h1, h2⟩ := List.getElem?_eq_some_iff.1 hk
  have e : s = s.take k ++ c :: s.drop (k + 1) := by rw [← h2, ← List.drop_eq_getElem_cons h1, List.take_append_drop]
  have hm : c ∈ s := List.mem_of_getElem? hk
  have hu : upC c s = s.take k := by
    unfold upC
    conv => lhs; rw [e]
    rw [List.takeWhile_append_of_pos (fun d hd => by simp; rintro rfl; exact h hd), List.takeWhile_cons_of_neg (by simp), List.append_nil]
  unfold findZ
  rw [if_pos hm, hu, List.length_take]
  omega
set_option maxHeartbeats 1000000 in
theorem rfind_any (s : ByteArray) (c : UInt8) (x : Nat) (hx : c.toNat = x) (hs : s.size ≤ 1000000000) (w : World) :
    Calls Tryz.prog 37 #[.string s, .int .u8 x] w fun e w' => e = .returned (.int .i64 (findZ c s.data.toList)) ∧ w = w' := by
  obtain ⟨n, hn⟩ : ∃ n, s.size = n := ⟨_, rfl⟩
  have HN := Lib.hid hn
  have HL := Lib.hid (size_list s)
  rw [hn] at hs
  have HX := Lib.hid hx
  obtain ⟨z, hz⟩ : ∃ z, findZ c s.data.toList = z := ⟨_, rfl⟩
  rw [hz]
  have HZ := Lib.hid hz
  clear hn hx hz
  go_enter Tryz.func37, Tryz.ntmps37
  go_wp2_with fail
  go_loopw [5] (fun i wr => ∃ k : Nat, k ≤ n ∧ i = .int .i64 k ∧ wr = w ∧ Hid (c ∉ s.data.toList.take k)) (fun i _ => n - (intOf i).toNat)
  case atStart => exact ⟨0, Nat.zero_le _, rfl, rfl, Lib.hid (by simp)⟩
  case round =>
    obtain ⟨k, hk, rfl, rfl, HF⟩ := hrel
    have F1 : IntKind.i64.wrap ((k : Int) + 1) = (k : Int) + 1 := by rw [IntKind.wrap_i64]; omega
    by_cases hlt : k < n
    · have hlt' : (k : Int) < (n : Int) := by omega
      have hn : s.size = n := HN.out
      obtain ⟨d, y, hd, hy, hy2, S1⟩ := run_byte s k (by rw [hn]; exact hlt)
      by_cases hcd : d = c
      · have e1 : ((y : Int) == (x : Int)) = true := beq_iff_eq.2 (by rw [← hy, hcd, HX.out])
        obtain rfl : (k : Int) = z := by rw [← HZ.out, upC_len (hcd ▸ hd) HF.out]
        clear hd hy hcd HF HZ
        go_wp2_with fail
        go_ret
        exact ⟨rfl, rfl⟩
      · have e1 : ((y : Int) == (x : Int)) = false := beq_eq_false_iff_ne.2 (fun e => hcd (UInt8.toNat_inj.1 (by rw [hy, HX.out]; omega)))
        have HF2 := Lib.hid (show c ∉ s.data.toList.take (k + 1) by
          rw [List.take_add_one, hd, List.mem_append]
          rintro (h | h)
          · exact HF.out h
          · simp at h; exact hcd h.symm)
        clear hd hy hcd HF
        go_wp2_with fail
        go_roundw
        case rel => exact ⟨k + 1, by omega, by go_num, trivial, HF2⟩
        case measure => simp [intOf]; omega
    · obtain rfl : k = n := by omega
      have hlt' : ¬ (k : Int) < (k : Int) := by omega
      have hno := HF.out
      rw [List.take_of_length_le (by rw [← HL.out, HN.out]; exact Nat.le_refl _)] at hno
      obtain rfl : -1 = z := by rw [← HZ.out]; unfold findZ; rw [if_neg hno]
      have hn : s.size = k := HN.out
      clear HF hno HZ
      go_wp2_with fail
      go_ret
      exact ⟨rfl, rfl⟩
theorem findZ_has (c : UInt8) (s : List UInt8) : decide (0 ≤ findZ c s) = s.contains c := by
  unfold findZ
  by_cases h : c ∈ s
  · rw [if_pos h, decide_eq_true (by omega)]
    exact (List.contains_iff_mem.2 h).symm
  · rw [if_neg h]
    have : s.contains c = false := by rw [← Bool.not_eq_true, List.contains_iff_mem]; exact h
    rw [this]; rfl
theorem rhas_any (s : ByteArray) (c : UInt8) (x : Nat) (hx : c.toNat = x) (hs : s.size ≤ 1000000000) (w : World) :
    Calls Tryz.prog 46 #[.string s, .int .u8 x] w fun e w' => e = .returned (.bool (s.data.toList.contains c)) ∧ w = w' := by
  have cF := rfind_any s c x hx hs w
  have hh := findZ_has c s.data.toList
  generalize findZ c s.data.toList = z at cF hh
  generalize s.data.toList.contains c = r at hh ⊢
  clear hs hx
  by_cases hz : 0 ≤ z
  · rw [decide_eq_true hz] at hh
    subst hh
    go_enter Tryz.func46, Tryz.ntmps46
    go_wp2_with (go_at_call 37; (with_reducible refine cF.mono ?_); rintro e w2 ⟨rfl, rfl⟩)
    go_ret
    simp [hz]
  · rw [decide_eq_false hz] at hh
    subst hh
    go_enter Tryz.func46, Tryz.ntmps46
    go_wp2_with (go_at_call 37; (with_reducible refine cF.mono ?_); rintro e w2 ⟨rfl, rfl⟩)
    go_ret
    simp [hz]
theorem letter_is (c : UInt8) (x : Nat) (hx : c.toNat = x) : letterB c = ((decide (97 ≤ x) && decide (x ≤ 122)) || (decide (65 ≤ x) && decide (x ≤ 90)) || (decide (48 ≤ x) && decide (x ≤ 57))) := by
  unfold letterB
  rw [hx]
set_option maxHeartbeats 2000000 in
theorem rletter_any (c : UInt8) (x : Nat) (hx : c.toNat = x) (w : World) :
    Calls Tryz.prog 47 #[.int .u8 x] w fun e w' => e = .returned (.bool (letterB c)) ∧ w = w' := by
  rw [letter_is c x hx]
  clear hx
  by_cases h1 : 97 ≤ x
  · have g1 : (97 : Int) ≤ (x : Int) := by omega
    by_cases h2 : x ≤ 122
    · have g2 : (x : Int) ≤ 122 := by omega
      rw [decide_eq_true h1, decide_eq_true h2]
      go_enter Tryz.func47, Tryz.ntmps47
      go_wp2_with fail
      go_ret
      exact ⟨rfl, rfl⟩
    · have g2 : ¬ (x : Int) ≤ 122 := by omega
      have g3 : (65 : Int) ≤ (x : Int) := by omega
      have g4 : ¬ (x : Int) ≤ 90 := by omega
      have g5 : (48 : Int) ≤ (x : Int) := by omega
      have g6 : ¬ (x : Int) ≤ 57 := by omega
      rw [decide_eq_false h2, decide_eq_false (by omega : ¬ x ≤ 90), decide_eq_false (by omega : ¬ x ≤ 57)]
      simp only [Bool.and_false, Bool.or_false]
      go_enter Tryz.func47, Tryz.ntmps47
      go_wp2_with fail
      go_ret
      exact ⟨rfl, rfl⟩
  · have g1 : ¬ (97 : Int) ≤ (x : Int) := by omega
    rw [decide_eq_false h1]
    by_cases h3 : 65 ≤ x
    · have g3 : (65 : Int) ≤ (x : Int) := by omega
      by_cases h4 : x ≤ 90
      · have g4 : (x : Int) ≤ 90 := by omega
        rw [decide_eq_true h3, decide_eq_true h4]
        go_enter Tryz.func47, Tryz.ntmps47
        go_wp2_with fail
        go_ret
        exact ⟨rfl, rfl⟩
      · have g4 : ¬ (x : Int) ≤ 90 := by omega
        have g5 : (48 : Int) ≤ (x : Int) := by omega
        have g6 : ¬ (x : Int) ≤ 57 := by omega
        rw [decide_eq_false h4, decide_eq_false (by omega : ¬ x ≤ 57)]
        simp only [Bool.and_false, Bool.or_false, Bool.false_and]
        go_enter Tryz.func47, Tryz.ntmps47
        go_wp2_with fail
        go_ret
        exact ⟨rfl, rfl⟩
    · have g3 : ¬ (65 : Int) ≤ (x : Int) := by omega
      rw [decide_eq_false h3]
      by_cases h5 : 48 ≤ x
      · have g5 : (48 : Int) ≤ (x : Int) := by omega
        by_cases h6 : x ≤ 57
        · have g6 : (x : Int) ≤ 57 := by omega
          rw [decide_eq_true h5, decide_eq_true h6]
          go_enter Tryz.func47, Tryz.ntmps47
          go_wp2_with fail
          go_ret
          exact ⟨rfl, rfl⟩
        · have g6 : ¬ (x : Int) ≤ 57 := by omega
          rw [decide_eq_false h6]
          simp only [Bool.and_false, Bool.or_false, Bool.false_and]
          go_enter Tryz.func47, Tryz.ntmps47
          go_wp2_with fail
          go_ret
          exact ⟨rfl, rfl⟩
      · have g5 : ¬ (48 : Int) ≤ (x : Int) := by omega
        rw [decide_eq_false h5]
        simp only [Bool.or_false, Bool.false_and]
        go_enter Tryz.func47, Tryz.ntmps47
        go_wp2_with fail
        go_ret
        exact ⟨rfl, rfl⟩
theorem word_at (c : UInt8) : wordB c = (letterB c || (⟨#[33, 35, 36, 38, 94, 95, 46, 43, 45]⟩ : ByteArray).data.toList.contains c) := rfl
set_option maxRecDepth 100000 in
set_option maxHeartbeats 2000000 in
theorem rword_any (s : ByteArray) (hs : s.size ≤ 1000000000) (w : World) :
    Calls Tryz.prog 38 #[.string s] w fun e w' => e = .returned (.bool (wordW s.data.toList)) ∧ w = w' := by
  obtain ⟨n, hn⟩ : ∃ n, s.size = n := ⟨_, rfl⟩
  have HN := Lib.hid hn
  have HL := Lib.hid (size_list s)
  rw [hn] at hs
  obtain ⟨r, hr⟩ : ∃ r, wordW s.data.toList = r := ⟨_, rfl⟩
  rw [hr]
  have HR := Lib.hid hr
  clear hn hr
  go_enter Tryz.func38, Tryz.ntmps38
  go_wp2_with fail
  go_loopw [3] (fun i wr => ∃ k : Nat, k ≤ n ∧ i = .int .i64 k ∧ wr = w ∧ Hid ((s.data.toList.take k).all wordB = true)) (fun i _ => n - (intOf i).toNat)
  case atStart => exact ⟨0, Nat.zero_le _, rfl, rfl, rfl⟩
  case round =>
    obtain ⟨k, hk, rfl, rfl, HF⟩ := hrel
    have F1 : IntKind.i64.wrap ((k : Int) + 1) = (k : Int) + 1 := by rw [IntKind.wrap_i64]; omega
    by_cases hlt : k < n
    · have hlt' : (k : Int) < (n : Int) := by omega
      have hn : s.size = n := HN.out
      obtain ⟨d, y, hd, hy, hy2, S1⟩ := run_byte s k (by rw [hn]; exact hlt)
      have cH := fun W => rhas_any ⟨#[33, 35, 36, 38, 94, 95, 46, 43, 45]⟩ d y hy (by decide) W
      have cL := fun W => rletter_any d y hy W
      have hw := word_at d
      generalize (⟨#[33, 35, 36, 38, 94, 95, 46, 43, 45]⟩ : ByteArray).data.toList.contains d = b2 at cH hw
      generalize letterB d = b1 at cL hw
      cases hwb : wordB d with
      | true =>
        rw [hwb] at hw
        have HF2 := Lib.hid (show (s.data.toList.take (k + 1)).all wordB = true by rw [List.take_add_one, hd, List.all_append, HF.out]; simp [hwb])
        clear hd hy HF hwb HR
        cases b1 with
        | true =>
          clear hw
          go_wp2_with (first
            | (go_at_call 46; (with_reducible refine (cH _).mono ?_); rintro e w2 ⟨rfl, rfl⟩)
            | (go_at_call 47; (with_reducible refine (cL _).mono ?_); rintro e w3 ⟨rfl, rfl⟩))
          go_roundw
          case rel => exact ⟨k + 1, by omega, by go_num, trivial, HF2⟩
          case measure => simp [intOf]; omega
        | false =>
          obtain rfl : true = b2 := by simpa using hw
          clear hw
          go_wp2_with (first
            | (go_at_call 46; (with_reducible refine (cH _).mono ?_); rintro e w2 ⟨rfl, rfl⟩)
            | (go_at_call 47; (with_reducible refine (cL _).mono ?_); rintro e w3 ⟨rfl, rfl⟩))
          go_roundw
          case rel => exact ⟨k + 1, by omega, by go_num, trivial, HF2⟩
          case measure => simp [intOf]; omega
      | false =>
        rw [hwb] at hw
        obtain ⟨rfl, rfl⟩ : b1 = false ∧ b2 = false := by simpa using hw.symm
        obtain rfl : false = r := by
          rw [← HR.out]
          unfold wordW
          symm
          rw [Bool.and_eq_false_iff]
          refine .inr ?_
          rw [List.all_eq_false]
          exact ⟨d, List.mem_of_getElem? hd, by rw [hwb]; exact Bool.false_ne_true⟩
        clear hd hy HF hwb HR hw
        go_wp2_with (first
          | (go_at_call 46; (with_reducible refine (cH _).mono ?_); rintro e w2 ⟨rfl, rfl⟩)
          | (go_at_call 47; (with_reducible refine (cL _).mono ?_); rintro e w3 ⟨rfl, rfl⟩))
        go_ret
        exact ⟨rfl, rfl⟩
    · obtain rfl : k = n := by omega
      have hlt' : ¬ (k : Int) < (k : Int) := by omega
      have ha := HF.out
      rw [List.take_of_length_le (by rw [← HL.out, HN.out]; exact Nat.le_refl _)] at ha
      have hz : decide ((0 : Int) < (k : Int)) = r := by
        rw [← HR.out]
        unfold wordW
        rw [ha, Bool.and_true]
        have hl := HL.out
        rw [HN.out] at hl
        cases hq : s.data.toList with
        | nil => rw [hq] at hl; rw [hl]; rfl
        | cons a b => rw [hq, List.length_cons] at hl; rw [decide_eq_true (by omega)]; rfl
      have hn : s.size = k := HN.out
      clear HF ha HR
      go_wp2_with fail
      go_ret
      subst hz
      exact ⟨by simp, rfl⟩
end Go.Proofs.YtdinachiiimngaaGreatDoor
namespace Go.Proofs.YtdinachiiimngaaGreatDoor
open Go.ChangeShapes Go.WideShapes Go.ChangeAt Go.RowKit
open TokP AdrP CtP

theorem at_byte (s : ByteArray) (c : UInt8) (x : Nat) (hx : c.toNat = x) (w : World) : Calls Tryz.prog 67 #[.string s, .int .u8 x] w fun e w' => e = .returned (.int .i64 (Lib.indexByte s.data.toList c)) ∧ w = w' := by
  have cI := Tryz.strings_IndexByte s x w
  rw [byte_back c x hx] at cI
  exact cI.mono fun e w' h => ⟨h.1, h.2.symm⟩
set_option maxHeartbeats 2000000 in
theorem letter_any (c : UInt8) (x : Nat) (hx : c.toNat = x) (w : World) :
    Calls Tryz.prog 66 #[.int .u8 x] w fun e w' => e = .returned (.bool (letterB c)) ∧ w = w' := by
  rw [letter_is c x hx]
  clear hx
  by_cases h1 : 97 ≤ x
  · have g1 : (97 : Int) ≤ (x : Int) := by omega
    by_cases h2 : x ≤ 122
    · have g2 : (x : Int) ≤ 122 := by omega
      rw [decide_eq_true h1, decide_eq_true h2]
      go_enter Tryz.func66, Tryz.ntmps66
      go_wp2_with fail
      go_ret
      exact ⟨rfl, rfl⟩
    · have g2 : ¬ (x : Int) ≤ 122 := by omega
      have g3 : (65 : Int) ≤ (x : Int) := by omega
      have g4 : ¬ (x : Int) ≤ 90 := by omega
      have g5 : (48 : Int) ≤ (x : Int) := by omega
      have g6 : ¬ (x : Int) ≤ 57 := by omega
      rw [decide_eq_false h2, decide_eq_false (by omega : ¬ x ≤ 90), decide_eq_false (by omega : ¬ x ≤ 57)]
      simp only [Bool.and_false, Bool.or_false]
      go_enter Tryz.func66, Tryz.ntmps66
      go_wp2_with fail
      go_ret
      exact ⟨rfl, rfl⟩
  · have g1 : ¬ (97 : Int) ≤ (x : Int) := by omega
    rw [decide_eq_false h1]
    by_cases h3 : 65 ≤ x
    · have g3 : (65 : Int) ≤ (x : Int) := by omega
      by_cases h4 : x ≤ 90
      · have g4 : (x : Int) ≤ 90 := by omega
        rw [decide_eq_true h3, decide_eq_true h4]
        go_enter Tryz.func66, Tryz.ntmps66
        go_wp2_with fail
        go_ret
        exact ⟨rfl, rfl⟩
      · have g4 : ¬ (x : Int) ≤ 90 := by omega
        have g5 : (48 : Int) ≤ (x : Int) := by omega
        have g6 : ¬ (x : Int) ≤ 57 := by omega
        rw [decide_eq_false h4, decide_eq_false (by omega : ¬ x ≤ 57)]
        simp only [Bool.and_false, Bool.or_false, Bool.false_and]
        go_enter Tryz.func66, Tryz.ntmps66
        go_wp2_with fail
        go_ret
        exact ⟨rfl, rfl⟩
    · have g3 : ¬ (65 : Int) ≤ (x : Int) := by omega
      rw [decide_eq_false h3]
      by_cases h5 : 48 ≤ x
      · have g5 : (48 : Int) ≤ (x : Int) := by omega
        by_cases h6 : x ≤ 57
        · have g6 : (x : Int) ≤ 57 := by omega
          rw [decide_eq_true h5, decide_eq_true h6]
          go_enter Tryz.func66, Tryz.ntmps66
          go_wp2_with fail
          go_ret
          exact ⟨rfl, rfl⟩
        · have g6 : ¬ (x : Int) ≤ 57 := by omega
          rw [decide_eq_false h6]
          simp only [Bool.and_false, Bool.or_false, Bool.false_and]
          go_enter Tryz.func66, Tryz.ntmps66
          go_wp2_with fail
          go_ret
          exact ⟨rfl, rfl⟩
      · have g5 : ¬ (48 : Int) ≤ (x : Int) := by omega
        rw [decide_eq_false h5]
        simp only [Bool.or_false, Bool.false_and]
        go_enter Tryz.func66, Tryz.ntmps66
        go_wp2_with fail
        go_ret
        exact ⟨rfl, rfl⟩
set_option maxRecDepth 100000 in
set_option maxHeartbeats 2000000 in
theorem word_any (s : ByteArray) (hs : s.size ≤ 1000000000) (w : World) :
    Calls Tryz.prog 32 #[.string s] w fun e w' => e = .returned (.bool (wordW s.data.toList)) ∧ w = w' := by
  obtain ⟨n, hn⟩ : ∃ n, s.size = n := ⟨_, rfl⟩
  have HN := Lib.hid hn
  have HL := Lib.hid (size_list s)
  rw [hn] at hs
  obtain ⟨r, hr⟩ : ∃ r, wordW s.data.toList = r := ⟨_, rfl⟩
  rw [hr]
  have HR := Lib.hid hr
  clear hr
  go_enter Tryz.func32, Tryz.ntmps32
  go_wp2_with fail
  go_loopw [6] (fun i wr => ∃ k : Nat, k ≤ n ∧ i = .int .i64 k ∧ wr = w ∧ Hid ((s.data.toList.take k).all wordB = true)) (fun i _ => n - (intOf i).toNat)
  case atStart => exact ⟨0, Nat.zero_le _, rfl, rfl, rfl⟩
  case round =>
    obtain ⟨k, hk, rfl, rfl, HF⟩ := hrel
    have F1 : IntKind.i64.wrap ((k : Int) + 1) = (k : Int) + 1 := by rw [IntKind.wrap_i64]; omega
    by_cases hlt : k < n
    · have hlt' : (k : Int) < (n : Int) := by omega
      obtain ⟨d, y, hd, hy, hy2, S1⟩ := run_byte s k (by rw [hn]; exact hlt)
      have cH := fun W => at_byte ⟨#[33, 35, 36, 38, 94, 95, 46, 43, 45]⟩ d y hy W
      have cL := fun W => letter_any d y hy W
      have hw := word_at d
      rw [← index_in] at hw
      generalize Lib.indexByte (⟨#[33, 35, 36, 38, 94, 95, 46, 43, 45]⟩ : ByteArray).data.toList d = z at cH hw
      generalize letterB d = b1 at cL hw
      cases hwb : wordB d with
      | true =>
        rw [hwb] at hw
        have HF2 := Lib.hid (show (s.data.toList.take (k + 1)).all wordB = true by rw [List.take_add_one, hd, List.all_append, HF.out]; simp [hwb])
        clear hd hy HF hwb HR
        cases b1 with
        | true =>
          clear hw
          go_wp2_with (first
            | (go_at_call 67; (with_reducible refine (cH _).mono ?_); rintro e w2 ⟨rfl, rfl⟩)
            | (go_at_call 66; (with_reducible refine (cL _).mono ?_); rintro e w3 ⟨rfl, rfl⟩))
          go_roundw
          case rel => exact ⟨k + 1, by omega, by go_num, trivial, HF2⟩
          case measure => simp [intOf]; omega
        | false =>
          have hz : 0 ≤ z := by simpa using hw
          have hz2 : ¬ z < 0 := by omega
          clear hw
          go_wp2_with (first
            | (go_at_call 67; (with_reducible refine (cH _).mono ?_); rintro e w2 ⟨rfl, rfl⟩)
            | (go_at_call 66; (with_reducible refine (cL _).mono ?_); rintro e w3 ⟨rfl, rfl⟩))
          go_roundw
          case rel => exact ⟨k + 1, by omega, by go_num, trivial, HF2⟩
          case measure => simp [intOf]; omega
      | false =>
        rw [hwb] at hw
        obtain ⟨rfl, hz⟩ : b1 = false ∧ z < 0 := by
          have := hw.symm
          rw [Bool.or_eq_false_iff, decide_eq_false_iff_not] at this
          exact ⟨this.1, by omega⟩
        obtain rfl : false = r := by
          rw [← HR.out]
          unfold wordW
          symm
          rw [Bool.and_eq_false_iff]
          refine .inr ?_
          rw [List.all_eq_false]
          exact ⟨d, List.mem_of_getElem? hd, by rw [hwb]; exact Bool.false_ne_true⟩
        clear hd hy HF hwb HR hw
        go_wp2_with (first
          | (go_at_call 67; (with_reducible refine (cH _).mono ?_); rintro e w2 ⟨rfl, rfl⟩)
          | (go_at_call 66; (with_reducible refine (cL _).mono ?_); rintro e w3 ⟨rfl, rfl⟩))
        go_ret
        exact ⟨rfl, rfl⟩
    · obtain rfl : k = n := by omega
      have hlt' : ¬ (k : Int) < (k : Int) := by omega
      have ha := HF.out
      rw [List.take_of_length_le (by rw [← HL.out, HN.out]; exact Nat.le_refl _)] at ha
      have hz : (!s.toList.isEmpty) = r := by
        rw [← HR.out]
        unfold wordW
        rw [ha, Bool.and_true, ByteArray.toList_eq]
      have hn : s.size = k := HN.out
      clear HF ha HR
      subst hz
      go_wp2_with fail
      go_ret
      simp
end Go.Proofs.YtdinachiiimngaaGreatDoor
namespace Go.Proofs.YtdinachiiimngaaGreatDoor
open Go.ChangeShapes Go.WideShapes Go.ChangeAt Go.RowKit

/-- The strings.Builder in block b holds l. -/
def Bk (w : World) (b : Nat) (l : List UInt8) : Prop := Lib.IsBuilderF 61 5 b b (Lib.byteCells l) w
theorem bk_lt {w : World} {b : Nat} {l : List UInt8} (h : Bk w b l) : b < w.heap.size := h.elim (fun x => x.lt) (fun x => x.lt)
theorem bk_new (w : World) : Bk (w.alloc (.cells #[.pointer none, .slice none 0 0] 61)) w.heap.size [] := Lib.IsBuilderF.of (bd_first w)
theorem ownF_below {w w' : World} {base : Nat} {e : TypeId} {size : Nat} {v : Value} {n : Nat} {xs : List Value} (h : w.ownsRowF base e size v n xs) (hb : Below w.heap.size w w') : w'.ownsRowF base e size v n xs := by
  refine ⟨h.1, ?_⟩
  rcases h.2 with h1 | ⟨g, cap, cur, fz, rfl, hbg, hg, rest⟩
  · exact .inl h1
  · refine .inr ⟨g, cap, cur, fz, rfl, hbg, ?_, rest⟩
    rw [hb.block g (Array.getElem?_eq_some_iff.1 hg).1]
    exact hg
theorem builtF_below {T e : TypeId} {B b : Nat} {p : Value} {bs : List Value} {w w' : World} (h : Lib.BuilderAtF T e B b p bs w) (hb : Below w.heap.size w w') : Lib.BuilderAtF T e B b p bs w' := by
  have hlt := h.lt
  obtain ⟨hB, v, hk, hown, hne⟩ := h
  exact ⟨hB, v, by rw [hb.block b hlt]; exact hk, ownF_below hown hb, hne⟩
theorem Bk.below {w w' : World} {b : Nat} {l : List UInt8} (h : Bk w b l) (hb : Below w.heap.size w w') : Bk w' b l := h.elim (fun x => .inl (builtF_below x hb)) (fun x => .inr (builtF_below x hb))
theorem Bk.alloc {w : World} {b : Nat} {l : List UInt8} (h : Bk w b l) (o : Obj) : Bk (w.alloc o) b l := h.below ((Below.refl _ _).alloc (Nat.le_refl _) _)
theorem bk_str (s : ByteArray) (b : Nat) (l : List UInt8) (w : World) (h : Bk w b l) (hlen : l.length + s.size ≤ 140737488355328) :
    Calls Tryz.prog 42 #[.pointer (some ⟨b, 0, none⟩), .string s] w fun e w' => e = .returned (.tuple #[.int .i64 s.size, .nilIface]) ∧ Bk w' b (l ++ s.data.toList) ∧ Below b w w' ∧ Lib.OthersKept 5 (some b) w w' := by
  refine (Tryz.Builder_WriteString_k b b (Lib.byteCells l) s w h (by rw [Lib.byteCells_length]; exact hlen) (Nat.le_of_lt (bk_lt h))).mono fun e w' hh => ⟨hh.1, ?_, hh.2.2⟩
  have := hh.2.1
  rw [show Lib.strCells s = Lib.byteCells s.data.toList from rfl, ← Lib.byteCells_append] at this
  exact .inr this
theorem bk_byte (c : UInt8) (x : Int) (hx : (c.toNat : Int) = x) (b : Nat) (l : List UInt8) (w : World) (h : Bk w b l) (hlen : l.length + 1 ≤ 140737488355328) :
    Calls Tryz.prog 80 #[.pointer (some ⟨b, 0, none⟩), .int .u8 x] w fun e w' => e = .returned .nilIface ∧ Bk w' b (l ++ [c]) ∧ Below b w w' ∧ Lib.OthersKept 5 (some b) w w' := by
  subst hx
  refine (Tryz.Builder_WriteByte_k b b (Lib.byteCells l) c.toNat w h (by rw [Lib.byteCells_length]; exact hlen) (Nat.le_of_lt (bk_lt h))).mono fun e w' hh => ⟨hh.1, ?_, hh.2.2⟩
  have := hh.2.1
  rw [show [Value.int .u8 (c.toNat : Int)] = Lib.byteCells [c] from rfl, ← Lib.byteCells_append] at this
  exact .inr this
theorem bk_out (b : Nat) (l : List UInt8) (w : World) (h : Bk w b l) :
    Calls Tryz.prog 44 #[.pointer (some ⟨b, 0, none⟩)] w fun e w' => e = .returned (.string (strL l)) ∧ Below b w w' :=
  (Tryz.Builder_String_any_k b b l w h (Nat.le_of_lt (bk_lt h))).mono fun _ _ hh => ⟨hh.1, hh.2.2.1⟩
/-- A cell of an object that holds no single bytes and is not the builder's stays. -/
theorem cell_others {w w' : World} {b g o : Nat} {cs : Array Value} {t : TypeId} {fz : Nat × Nat} {v : Value} (hg : w.heap[g]? = some (.cells cs t fz)) (hk : Lib.OthersKept 5 (some b) w w') (hne : g ≠ b) (ht : t ≠ 5) (h : w.cell? ⟨g, o, none⟩ = some v) : w'.cell? ⟨g, o, none⟩ = some v := by
  have := hk g _ hg (by simp; exact hne) (fun c fz' e => by injection e with _ e _; exact ht e)
  rw [World.cell?_of_block (w := w) (this.trans hg.symm)]
  exact h
end Go.Proofs.YtdinachiiimngaaGreatDoor
namespace Go.Proofs.YtdinachiiimngaaGreatDoor
open Go.ChangeShapes Go.WideShapes Go.ChangeAt Go.RowKit
open TokP AdrP CtP

def esc1 (c : UInt8) : List UInt8 := if c = 34 ∨ c = 92 then [92, c] else [c]
theorem escQ_snoc : ∀ (X : List UInt8) (c : UInt8), escQ (X ++ [c]) = escQ X ++ esc1 c
  | [], c => by
    show (if c = 34 ∨ c = 92 then 92 :: c :: escQ [] else c :: escQ []) = [] ++ esc1 c
    unfold esc1
    split <;> rfl
  | d :: X, c => by
    rw [List.cons_append, escQ, escQ, escQ_snoc X c]
    split <;> rfl
theorem escQ_step {l : List UInt8} {k : Nat} {c : UInt8} (h : l[k]? = some c) : escQ (l.take (k + 1)) = escQ (l.take k) ++ esc1 c := by
  rw [List.take_add_one, h]
  exact escQ_snoc _ _
theorem escQ_len : ∀ l : List UInt8, (escQ l).length ≤ 2 * l.length
  | [] => Nat.le_refl _
  | c :: t => by
    have := escQ_len t
    rw [escQ]
    split
    · rw [List.length_cons, List.length_cons, List.length_cons]; omega
    · rw [List.length_cons, List.length_cons]; omega
theorem escQ_take (l : List UInt8) (k : Nat) : (escQ (l.take k)).length ≤ 2 * k := by
  have h1 := escQ_len (l.take k)
  have h2 := List.length_take_le k l
  omega
theorem pctE_step {l : List UInt8} {k : Nat} {c : UInt8} (h : l[k]? = some c) : pctE (l.take (k + 1)) = pctE (l.take k) ++ pctB c := by
  unfold pctE
  rw [List.take_add_one, h, List.flatMap_append]
  simp
theorem pctB_len (c : UInt8) : (pctB c).length ≤ 3 := by unfold pctB; split <;> simp
theorem pctE_len : ∀ l : List UInt8, (pctE l).length ≤ 3 * l.length
  | [] => Nat.le_refl _
  | c :: t => by
    have := pctE_len t
    have h3 := pctB_len c
    unfold pctE at this ⊢
    rw [List.flatMap_cons, List.length_append, List.length_cons]
    omega
theorem pctE_take (l : List UInt8) (k : Nat) : (pctE (l.take k)).length ≤ 3 * k := by
  have h1 := pctE_len (l.take k)
  have h2 := List.length_take_le k l
  omega
/-- The builder in block b holds L; what was there at w0 ahead of it is as it was, and so is what is no row of bytes. -/
structure Wr (b : Nat) (w0 w : World) (L : List UInt8) : Prop where
  bk : Bk w b L
  below : Below b w0 w
  kept : Lib.OthersKept 5 (some b) w0 w
theorem kept_below {w w' : World} (hb : Below w.heap.size w w') (e : TypeId) (o : Option Nat) : Lib.OthersKept e o w w' := fun g x hx _ _ => by
  rw [hb.block g (Array.getElem?_eq_some_iff.1 hx).1]; exact hx
theorem Wr.first {w : World} {b : Nat} {L : List UInt8} (h : Bk w b L) : Wr b w w L := ⟨h, Below.refl _ _, Lib.OthersKept.refl _ _ _⟩
theorem Wr.other {b : Nat} {w0 w w' : World} {L : List UInt8} (h : Wr b w0 w L) (hb : Below w.heap.size w w') : Wr b w0 w' L :=
  ⟨h.bk.below hb, h.below.trans (hb.mono (Nat.le_of_lt (bk_lt h.bk))), h.kept.trans (kept_below hb _ _)⟩
theorem wr_byte (c : UInt8) (x : Int) (hx : (c.toNat : Int) = x) {b : Nat} {w0 W : World} {L : List UInt8} (h : Wr b w0 W L) (hl : L.length + 1 ≤ 140737488355328) :
    Calls Tryz.prog 80 #[.pointer (some ⟨b, 0, none⟩), .int .u8 x] W fun e w' => e = .returned .nilIface ∧ Wr b w0 w' (L ++ [c]) :=
  (bk_byte c x hx b L W h.bk hl).mono fun _ _ ⟨h1, h2, h3, h4⟩ => ⟨h1, h2, h.below.trans h3, h.kept.trans h4⟩
theorem wr_str (s : ByteArray) {b : Nat} {w0 W : World} {L : List UInt8} (h : Wr b w0 W L) (hl : L.length + s.size ≤ 140737488355328) :
    Calls Tryz.prog 42 #[.pointer (some ⟨b, 0, none⟩), .string s] W fun e w' => e = .returned (.tuple #[.int .i64 s.size, .nilIface]) ∧ Wr b w0 w' (L ++ s.data.toList) :=
  (bk_str s b L W h.bk hl).mono fun _ _ ⟨h1, h2, h3, h4⟩ => ⟨h1, h2, h.below.trans h3, h.kept.trans h4⟩
set_option maxRecDepth 100000 in
set_option maxHeartbeats 2000000 in
theorem print_any (s : ByteArray) (hs : s.size ≤ 1000000000) (w : World) :
    Calls Tryz.prog 78 #[.string s] w fun e w' => e = .returned (.bool (quotedV s.data.toList)) ∧ w = w' := by
  obtain ⟨n, hn⟩ : ∃ n, s.size = n := ⟨_, rfl⟩
  have HN := Lib.hid hn
  have HL := Lib.hid (size_list s)
  rw [hn] at hs
  obtain ⟨r, hr⟩ : ∃ r, quotedV s.data.toList = r := ⟨_, rfl⟩
  rw [hr]
  have HR := Lib.hid hr
  clear hr
  go_enter Tryz.func78, Tryz.ntmps78
  go_wp2_with fail
  go_loopw [6] (fun i wr => ∃ k : Nat, k ≤ n ∧ i = .int .i64 k ∧ wr = w ∧ Hid (quotedV (s.data.toList.take k) = true)) (fun i _ => n - (intOf i).toNat)
  case atStart => exact ⟨0, Nat.zero_le _, rfl, rfl, rfl⟩
  case round =>
    obtain ⟨k, hk, rfl, rfl, HF⟩ := hrel
    have F1 : IntKind.i64.wrap ((k : Int) + 1) = (k : Int) + 1 := by rw [IntKind.wrap_i64]; omega
    by_cases hlt : k < n
    · have hlt' : (k : Int) < (n : Int) := by omega
      obtain ⟨d, y, hd, hy, hy2, S1⟩ := run_byte s k (by rw [hn]; exact hlt)
      have HNO := Lib.hid (fun (h : y < 32 ∨ 126 < y) => show false = r by
        rw [← HR.out]
        unfold quotedV
        symm
        rw [List.all_eq_false]
        refine ⟨d, List.mem_of_getElem? hd, ?_⟩
        rw [hy, Bool.and_eq_true, decide_eq_true_eq, decide_eq_true_eq]
        omega)
      by_cases h1 : y < 32
      · have g1 : (y : Int) < 32 := by omega
        obtain rfl := HNO.out (.inl h1)
        clear hd hy HF HR HNO
        go_wp2_with fail
        go_ret
        exact ⟨rfl, rfl⟩
      · have g1 : ¬ (y : Int) < 32 := by omega
        by_cases h2 : 126 < y
        · have g2 : (126 : Int) < (y : Int) := by omega
          obtain rfl := HNO.out (.inr h2)
          clear hd hy HF HR HNO
          go_wp2_with fail
          go_ret
          exact ⟨rfl, rfl⟩
        · have g2 : ¬ (126 : Int) < (y : Int) := by omega
          have HF2 := Lib.hid (show quotedV (s.data.toList.take (k + 1)) = true by
            have hf := HF.out
            unfold quotedV at hf ⊢
            rw [List.take_add_one, hd, List.all_append, hf]
            simp [hy]; omega)
          clear hd hy HF HR HNO
          go_wp2_with fail
          go_roundw
          case rel => exact ⟨k + 1, by omega, by go_num, trivial, HF2⟩
          case measure => simp [intOf]; omega
    · obtain rfl : k = n := by omega
      have hlt' : ¬ (k : Int) < (k : Int) := by omega
      have ha := HF.out
      rw [List.take_of_length_le (by rw [← HL.out, HN.out]; exact Nat.le_refl _)] at ha
      obtain rfl : true = r := by rw [← HR.out, ha]
      clear HF ha HR
      go_wp2_with fail
      go_ret
      exact ⟨rfl, rfl⟩
set_option maxRecDepth 100000 in
set_option maxHeartbeats 4000000 in
theorem quoted_any (s : ByteArray) (hs : s.size ≤ 4000000) (b : Nat) (L : List UInt8) (hL : L.length + 3 * s.size + 20 ≤ 140737488355328) (w : World) (hb : Bk w b L) :
    Calls Tryz.prog 81 #[.pointer (some ⟨b, 0, none⟩), .string s] w fun e w' => e = .returned (.tuple #[]) ∧ Wr b w w' (L ++ 34 :: (escQ s.data.toList ++ [34])) := by
  obtain ⟨n, hn⟩ : ∃ n, s.size = n := ⟨_, rfl⟩
  have HL := Lib.hid (size_list s)
  have HN := Lib.hid hn
  rw [hn] at hs hL
  have H0 := Lib.hid (Wr.first hb)
  have c1 := fun W (h : Hid (Wr b w W L)) => wr_byte 34 34 rfl h.out (by omega)
  clear hb
  go_enter Tryz.func81, Tryz.ntmps81
  go_wp2_with (go_at_call 80; (with_reducible refine (c1 _ H0).mono ?_); rintro e w1 ⟨rfl, hq1⟩; have H1 := Lib.hid hq1; clear hq1 c1)
  have HST : Hid (Wr b w w1 (L ++ 34 :: escQ (s.data.toList.take 0))) := H1
  clear H1 H0
  go_loopw [9] (fun i wr => ∃ k : Nat, k ≤ n ∧ i = .int .i64 k ∧ Hid (Wr b w wr (L ++ 34 :: escQ (s.data.toList.take k)))) (fun i _ => n - (intOf i).toNat)
  case atStart => exact ⟨0, Nat.zero_le _, rfl, HST⟩
  case round =>
    obtain ⟨k, hk, rfl, hst⟩ := hrel
    have F1 : IntKind.i64.wrap ((k : Int) + 1) = (k : Int) + 1 := by rw [IntKind.wrap_i64]; omega
    by_cases hlt : k < n
    · have hlt' : (k : Int) < (n : Int) := by omega
      obtain ⟨c, x, hc, hx, hx2, S1⟩ := run_byte s k (by rw [hn]; exact hlt)
      have hstep := escQ_step hc
      have hle := escQ_take s.data.toList k
      have e34 := byte_is c x hx 34 (by decide)
      have e92 := byte_is c x hx 92 (by decide)
      rw [show ((34 : Nat) : Int) = 34 from rfl] at e34
      rw [show ((92 : Nat) : Int) = 92 from rfl] at e92
      have hTl : (L ++ 34 :: escQ (s.data.toList.take k)).length ≤ L.length + 1 + 2 * k := by rw [List.length_append, List.length_cons]; omega
      have HSTEP := Lib.hid (show L ++ 34 :: escQ (s.data.toList.take (k + 1)) = (L ++ 34 :: escQ (s.data.toList.take k)) ++ esc1 c by rw [hstep]; simp)
      generalize L ++ 34 :: escQ (s.data.toList.take k) = T at hst hTl HSTEP
      have c1 := fun W (h : Hid (Wr b w W T)) => wr_byte 92 92 rfl h.out (by omega)
      have c2 := fun W (h : Hid (Wr b w W T)) => wr_byte c (x : Int) (by omega) h.out (by omega)
      have c3 := fun W (h : Hid (Wr b w W (T ++ [92]))) => wr_byte c (x : Int) (by omega) h.out (by rw [List.length_append, List.length_singleton]; omega)
      by_cases hq : c = 34 ∨ c = 92
      · have HR := Lib.hid (show (T ++ [92]) ++ [c] = L ++ 34 :: escQ (s.data.toList.take (k + 1)) by rw [HSTEP.out]; unfold esc1; rw [if_pos hq, List.append_assoc]; rfl)
        by_cases h34 : c = 34
        · rw [show decide (c = UInt8.ofNat 34) = true from decide_eq_true h34] at e34
          clear hc hx hx2 hstep hle h34 e92 hq c2 HSTEP
          go_wp2_with (first
            | (go_at_call 80; (with_reducible refine (c1 _ hst).mono ?_); rintro e w2 ⟨rfl, hq2⟩; have H2 := Lib.hid hq2; clear hq2 c1)
            | (go_at_call 80; (with_reducible refine (c3 _ H2).mono ?_); rintro e w3 ⟨rfl, hq3⟩; have H3 := Lib.hid hq3; clear hq3 c3))
          go_roundw
          case rel => exact ⟨k + 1, by omega, by go_num, by rw [← HR.out]; exact H3⟩
          case measure => simp [intOf]; omega
        · have h92 : c = 92 := hq.resolve_left h34
          rw [show decide (c = UInt8.ofNat 34) = false from decide_eq_false h34] at e34
          rw [show decide (c = UInt8.ofNat 92) = true from decide_eq_true h92] at e92
          clear hc hx hx2 hstep hle h34 h92 hq c2 HSTEP
          go_wp2_with (first
            | (go_at_call 80; (with_reducible refine (c1 _ hst).mono ?_); rintro e w2 ⟨rfl, hq2⟩; have H2 := Lib.hid hq2; clear hq2 c1)
            | (go_at_call 80; (with_reducible refine (c3 _ H2).mono ?_); rintro e w3 ⟨rfl, hq3⟩; have H3 := Lib.hid hq3; clear hq3 c3))
          go_roundw
          case rel => exact ⟨k + 1, by omega, by go_num, by rw [← HR.out]; exact H3⟩
          case measure => simp [intOf]; omega
      · have HR := Lib.hid (show T ++ [c] = L ++ 34 :: escQ (s.data.toList.take (k + 1)) by rw [HSTEP.out]; unfold esc1; rw [if_neg hq])
        rw [show decide (c = UInt8.ofNat 34) = false from decide_eq_false (fun e => hq (.inl e))] at e34
        rw [show decide (c = UInt8.ofNat 92) = false from decide_eq_false (fun e => hq (.inr e))] at e92
        clear hc hx hx2 hstep hle hq c1 c3 HSTEP
        go_wp2_with (go_at_call 80; (with_reducible refine (c2 _ hst).mono ?_); rintro e w3 ⟨rfl, hq3⟩; have H3 := Lib.hid hq3; clear hq3 c2)
        go_roundw
        case rel => exact ⟨k + 1, by omega, by go_num, by rw [← HR.out]; exact H3⟩
        case measure => simp [intOf]; omega
    · obtain rfl : k = n := by omega
      have hlt' : ¬ (k : Int) < (k : Int) := by omega
      have hT : s.data.toList.take k = s.data.toList := List.take_of_length_le (by rw [← HL.out, HN.out]; exact Nat.le_refl _)
      have hle := escQ_take s.data.toList k
      rw [hT] at hst hle
      have hTl : (L ++ 34 :: escQ s.data.toList).length ≤ L.length + 1 + 2 * k := by rw [List.length_append, List.length_cons]; omega
      have HR := Lib.hid (show (L ++ 34 :: escQ s.data.toList) ++ [34] = L ++ 34 :: (escQ s.data.toList ++ [34]) by simp)
      generalize L ++ 34 :: escQ s.data.toList = T at hst hTl HR
      have c2 := fun W (h : Hid (Wr b w W T)) => wr_byte 34 34 rfl h.out (by omega)
      clear hT hle
      go_wp2_with (go_at_call 80; (with_reducible refine (c2 _ hst).mono ?_); rintro e w3 ⟨rfl, hq3⟩; have H3 := Lib.hid hq3; clear hq3 c2)
      go_end0
      exact ⟨rfl, by rw [← HR.out]; exact H3.out⟩
theorem hex_facts : ∀ n : Fin 256, Lib.toUpperA (Nu.hexL [UInt8.ofNat n.val]) = [hexU ((UInt8.ofNat n.val).toNat / 16), hexU ((UInt8.ofNat n.val).toNat % 16)] ∧ ∀ b ∈ Nu.hexL [UInt8.ofNat n.val], b.toNat < 128 := by decide +kernel
theorem hex_all (c : UInt8) : Lib.toUpperA (Nu.hexL [c]) = [hexU (c.toNat / 16), hexU (c.toNat % 16)] ∧ ∀ b ∈ Nu.hexL [c], b.toNat < 128 :=
  byte_all (P := fun c => Lib.toUpperA (Nu.hexL [c]) = [hexU (c.toNat / 16), hexU (c.toNat % 16)] ∧ ∀ b ∈ Nu.hexL [c], b.toNat < 128) hex_facts c
theorem free_at (c : UInt8) : freeB c = (letterB c || (⟨#[45, 46, 95, 126]⟩ : ByteArray).data.toList.contains c) := rfl
set_option maxRecDepth 100000 in
set_option maxHeartbeats 4000000 in
theorem encoded_any (s : ByteArray) (hs : s.size ≤ 4000000) (b : Nat) (L : List UInt8) (hL : L.length + 3 * s.size + 20 ≤ 140737488355328) (w : World) (hb : Bk w b L) :
    Calls Tryz.prog 82 #[.pointer (some ⟨b, 0, none⟩), .string s] w fun e w' => e = .returned (.tuple #[]) ∧ Wr b w w' (L ++ pctE s.data.toList) := by
  obtain ⟨n, hn⟩ : ∃ n, s.size = n := ⟨_, rfl⟩
  have HL := Lib.hid (size_list s)
  have HN := Lib.hid hn
  rw [hn] at hs hL
  have H0 := Lib.hid (show Wr b w w (L ++ pctE (s.data.toList.take 0)) by
    have := Wr.first hb
    rw [show L ++ pctE (s.data.toList.take 0) = L by rw [List.take_zero]; exact List.append_nil _]
    exact this)
  clear hb
  go_enter Tryz.func82, Tryz.ntmps82
  go_wp2_with fail
  go_loopw [7] (fun i wr => ∃ k : Nat, k ≤ n ∧ i = .int .i64 k ∧ Hid (Wr b w wr (L ++ pctE (s.data.toList.take k)))) (fun i _ => n - (intOf i).toNat)
  case atStart => exact ⟨0, Nat.zero_le _, rfl, H0⟩
  case round =>
    obtain ⟨k, hk, rfl, hst⟩ := hrel
    have F1 : IntKind.i64.wrap ((k : Int) + 1) = (k : Int) + 1 := by rw [IntKind.wrap_i64]; omega
    by_cases hlt : k < n
    · have hlt' : (k : Int) < (n : Int) := by omega
      obtain ⟨c, x, hc, hx, hx2, S1⟩ := run_byte s k (by rw [hn]; exact hlt)
      have hstep := pctE_step hc
      have hle := pctE_take s.data.toList k
      have cH := fun W => at_byte ⟨#[45, 46, 95, 126]⟩ c x hx W
      have cL := fun W => letter_any c x hx W
      have hw := free_at c
      have hTl : (L ++ pctE (s.data.toList.take k)).length ≤ L.length + 3 * k := by rw [List.length_append]; omega
      have HSTEP := Lib.hid (show L ++ pctE (s.data.toList.take (k + 1)) = (L ++ pctE (s.data.toList.take k)) ++ pctB c by rw [hstep, List.append_assoc])
      generalize L ++ pctE (s.data.toList.take k) = T at hst hTl HSTEP
      have c2 := fun W (h : Hid (Wr b w W T)) => wr_byte c (x : Int) (by omega) h.out (by omega)
      have c1 := fun W (h : Hid (Wr b w W T)) => wr_byte 37 37 rfl h.out (by omega)
      rw [← index_in] at hw
      generalize Lib.indexByte (⟨#[45, 46, 95, 126]⟩ : ByteArray).data.toList c = z at cH hw
      generalize letterB c = b1 at cL hw
      cases hfr : freeB c with
      | true =>
        have HR := Lib.hid (show T ++ [c] = L ++ pctE (s.data.toList.take (k + 1)) by rw [HSTEP.out]; unfold pctB; rw [if_pos hfr])
        rw [hfr] at hw
        cases b1 with
        | true =>
          clear hc hx hx2 hstep hle hw c1 HSTEP hfr cH
          go_wp2_with (first
            | (go_at_call 66; (with_reducible refine (cL _).mono ?_); rintro e w5 ⟨rfl, rfl⟩)
            | (go_at_call 80; (with_reducible refine (c2 _ hst).mono ?_); rintro e w3 ⟨rfl, hq3⟩; have H3 := Lib.hid hq3; clear hq3 c2))
          go_roundw
          case rel => exact ⟨k + 1, by omega, by go_num, by rw [← HR.out]; exact H3⟩
          case measure => simp [intOf]; omega
        | false =>
          have hz : 0 ≤ z := by simpa using hw
          clear hc hx hx2 hstep hle hw c1 HSTEP hfr
          go_wp2_with (first
            | (go_at_call 66; (with_reducible refine (cL _).mono ?_); rintro e w5 ⟨rfl, rfl⟩)
            | (go_at_call 67; (with_reducible refine (cH _).mono ?_); rintro e w6 ⟨rfl, rfl⟩)
            | (go_at_call 80; (with_reducible refine (c2 _ hst).mono ?_); rintro e w3 ⟨rfl, hq3⟩; have H3 := Lib.hid hq3; clear hq3 c2))
          go_roundw
          case rel => exact ⟨k + 1, by omega, by go_num, by rw [← HR.out]; exact H3⟩
          case measure => simp [intOf]; omega
      | false =>
        have HR := Lib.hid (show (T ++ [37]) ++ [hexU (c.toNat / 16), hexU (c.toNat % 16)] = L ++ pctE (s.data.toList.take (k + 1)) by rw [HSTEP.out]; unfold pctB; rw [if_neg (by rw [hfr]; exact Bool.false_ne_true), List.append_assoc]; rfl)
        rw [hfr] at hw
        obtain ⟨rfl, hz⟩ : b1 = false ∧ z < 0 := by
          have := hw.symm
          rw [Bool.or_eq_false_iff, decide_eq_false_iff_not] at this
          exact ⟨this.1, by omega⟩
        have hz2 : ¬ 0 ≤ z := by omega
        have R1 := run_slice_str s k (k + 1) ((k : Int) + 1) (by omega) (by omega) (by omega)
        rw [show s.extract k (k + 1) = strL [c] by
          rw [part_of s k (k + 1) (by omega) (by omega), cons_at _ k c hc]
          congr 1
          rw [show k + 1 - k = 1 by omega]; rfl] at R1
        obtain ⟨hu1, hu2⟩ := hex_all c
        have cX := fun W => Nu.hex_any (strL [c]) (by rw [strL_size]; simp) W
        rw [strL_list] at cX
        have cU := fun W => Tryz.strings_ToUpper_ascii (strL (Nu.hexL [c])) W (by rw [strL_size]; unfold Nu.hexL; simp) (fun j d hd => hu2 d (List.mem_of_getElem? hd))
        rw [strL_list, hu1] at cU
        have c3 := fun W (h : Hid (Wr b w W (T ++ [37]))) => wr_str (strL [hexU (c.toNat / 16), hexU (c.toNat % 16)]) h.out (by rw [List.length_append, List.length_singleton, strL_size]; simp; omega)
        rw [strL_list] at c3
        have hsz2 : (strL [hexU (c.toNat / 16), hexU (c.toNat % 16)]).size = 2 := strL_size _
        rw [hsz2] at c3
        generalize hX1 : strL (Nu.hexL [c]) = X1 at cU
        have hX1' : (⟨(Nu.hexL [c]).toArray⟩ : ByteArray) = X1 := hX1
        rw [hX1'] at cX
        generalize hX2 : strL [hexU (c.toNat / 16), hexU (c.toNat % 16)] = X2 at c3
        have hX2' : (⟨[hexU (c.toNat / 16), hexU (c.toNat % 16)].toArray⟩ : ByteArray) = X2 := hX2
        rw [hX2'] at cU
        generalize strL [c] = X0 at R1 cX
        clear hc hx hx2 hstep hle hw c2 HSTEP hfr hu1 hu2 hX1 hX2 hX1' hX2' hsz2
        go_wp2_with (first
          | (go_at_call 66; (with_reducible refine (cL _).mono ?_); rintro e w5 ⟨rfl, rfl⟩)
          | (go_at_call 67; (with_reducible refine (cH _).mono ?_); rintro e w6 ⟨rfl, rfl⟩)
          | (go_at_call 80; (with_reducible refine (c1 _ hst).mono ?_); rintro e w2 ⟨rfl, hq2⟩; have H2 := Lib.hid hq2; clear hq2 c1)
          | (go_at_call 52; (with_reducible refine (cX _).mono ?_); rintro e w7 ⟨rfl, hq7⟩; have H7 := Lib.hid (H2.out.other hq7); clear hq7 cX)
          | (go_at_call 119; (with_reducible refine (cU _).mono ?_); rintro e w8 ⟨rfl, hq8⟩; have H8 := Lib.hid (H7.out.other hq8); clear hq8 cU)
          | (go_at_call 42; (with_reducible refine (c3 _ H8).mono ?_); rintro e w9 ⟨rfl, hq9⟩; have H9 := Lib.hid hq9; clear hq9 c3))
        go_roundw
        case rel => exact ⟨k + 1, by omega, by go_num, by rw [← HR.out]; exact H9⟩
        case measure => simp [intOf]; omega
    · obtain rfl : k = n := by omega
      have hlt' : ¬ (k : Int) < (k : Int) := by omega
      have hT : s.data.toList.take k = s.data.toList := List.take_of_length_le (by rw [← HL.out, HN.out]; exact Nat.le_refl _)
      rw [hT] at hst
      clear hT
      go_wp2_with fail
      go_end0
      exact ⟨rfl, hst.out⟩
end Go.Proofs.YtdinachiiimngaaGreatDoor
namespace Go.Proofs.YtdinachiiimngaaGreatDoor
open Go.ChangeShapes Go.WideShapes Go.ChangeAt Go.RowKit
open TokP AdrP CtP

def pmV (t : (List UInt8 × List UInt8)) : List Value := [.string (strL t.1), .string (strL t.2)]
def pmsV (l : List (List UInt8 × List UInt8)) : List Value := l.flatMap pmV
theorem pmsV_len (l : List (List UInt8 × List UInt8)) : (pmsV l).length = l.length * 2 := by
  unfold pmsV
  induction l with
  | nil => rfl
  | cons m l ih => rw [List.flatMap_cons, List.length_append, ih, List.length_cons]; simp [pmV]; omega
theorem pmsV_app (a b : List (List UInt8 × List UInt8)) : pmsV a ++ pmsV b = pmsV (a ++ b) := by unfold pmsV; rw [List.flatMap_append]
theorem pmsV_one (f : (List UInt8 × List UInt8)) : pmsV [f] = pmV f := by unfold pmsV; simp
theorem pmsV_at : ∀ (l : List (List UInt8 × List UInt8)) (i : Nat) (f : (List UInt8 × List UInt8)), l[i]? = some f → ∀ j, j < 2 → (pmsV l)[i * 2 + j]? = (pmV f)[j]?
  | [], i, m, h => by simp at h
  | x :: l, 0, m, h => by
    simp at h
    subst h
    intro j hj
    rw [show pmsV (x :: l) = pmV x ++ pmsV l by unfold pmsV; rw [List.flatMap_cons], Nat.zero_mul, Nat.zero_add, List.getElem?_append_left (by simp [pmV]; exact hj)]
  | x :: l, i + 1, m, h => by
    intro j hj
    have ih := pmsV_at l i m (by simpa using h) j hj
    rw [show pmsV (x :: l) = pmV x ++ pmsV l by unfold pmsV; rw [List.flatMap_cons], List.getElem?_append_right (by simp [pmV]; omega)]
    have e1 : (i + 1) * 2 + j - (pmV x).length = i * 2 + j := by simp [pmV]; omega
    rw [e1]
    exact ih
theorem pmV_one (f : (List UInt8 × List UInt8)) : ∀ u ∈ pmV f, u.oneCell' = true := by
  intro u hu
  simp [pmV] at hu
  rcases hu with rfl | rfl <;> rfl
theorem pmsV_ones (l : List (List UInt8 × List UInt8)) : ∀ u ∈ pmsV l, u.oneCell' = true := by
  intro u hu
  obtain ⟨f, _, hf⟩ := List.mem_flatMap.1 hu
  exact pmV_one f u hf
/-- The addresses l lie at g, from cell o on. -/
def PAt (w : World) (g o : Nat) (l : List (List UInt8 × List UInt8)) : Prop := ∀ i f, l[i]? = some f → w.cell? ⟨g, o + i * 2, none⟩ = some (.string (strL f.1)) ∧ w.cell? ⟨g, o + i * 2 + 1, none⟩ = some (.string (strL f.2))
def OwnP (w : World) (v : Value) (l : List (List UInt8 × List UInt8)) : Prop := ∃ base, w.ownsRow base 37 2 v l.length (pmsV l)
/-- The slice v reads as l. -/
def HasP (w : World) (v : Value) (l : List (List UInt8 × List UInt8)) : Prop := ((∃ a c, v = .slice a 0 c) ∧ l = []) ∨ ∃ g o c, v = .slice (some ⟨g, o, none⟩) l.length c ∧ PAt w g o l
theorem OwnP.step {w w' : World} {v : Value} {xs : List (List UInt8 × List UInt8)} (h : OwnP w v xs) (hb : Below w.heap.size w w') : OwnP w' v xs := by
  obtain ⟨b, ho⟩ := h; exact ⟨b, own_below ho hb⟩
theorem OwnP.shape {w : World} {v : Value} {xs : List (List UInt8 × List UInt8)} (h : OwnP w v xs) : ∃ a c, v = .slice a xs.length c := by
  obtain ⟨b, ho⟩ := h
  rcases ho.2 with ⟨rfl, h0⟩ | ⟨g, cap, cur, rfl, _⟩
  · exact ⟨none, 0, by rw [h0]⟩
  · exact ⟨_, _, rfl⟩
theorem OwnP.at {w : World} {a : Option Addr} {n c : Nat} {xs : List (List UInt8 × List UInt8)} (h : OwnP w (.slice a n c) xs) (hn : 0 < n) : ∃ g, a = some ⟨g, 0, none⟩ ∧ PAt w g 0 xs := by
  obtain ⟨b, ho⟩ := h
  rcases ho.2 with ⟨e, h0⟩ | ⟨g, cap, cur, e, _⟩
  · injection e with _ e2 _; omega
  · have e' := e
    injection e with e1 _ _
    subst e1
    refine ⟨g, rfl, fun i f hf => ?_⟩
    have key : ∀ j u, j < 2 → (pmV f)[j]? = some u → w.cell? ⟨g, 0 + i * 2 + j, none⟩ = some u := fun j u hj hu => by
      have := ho.cells (g := g) rfl (i * 2 + j) u (by rw [pmsV_at xs i f hf j hj]; exact hu)
      rwa [add_none, ← Nat.add_assoc] at this
    exact ⟨key 0 _ (by decide) rfl, key 1 _ (by decide) rfl⟩
theorem OwnP.has {w : World} {v : Value} {xs : List (List UInt8 × List UInt8)} (h : OwnP w v xs) : HasP w v xs := by
  obtain ⟨a, c, rfl⟩ := h.shape
  by_cases hn : 0 < xs.length
  · obtain ⟨g, rfl, hf⟩ := h.at hn
    exact .inr ⟨g, 0, c, rfl, hf⟩
  · obtain rfl : xs = [] := List.eq_nil_of_length_eq_zero (by omega)
    obtain ⟨b, ho⟩ := h
    rcases ho.2 with ⟨e, _⟩ | ⟨g, cap, cur, e, _⟩
    · exact .inl ⟨⟨_, _, e⟩, rfl⟩
    · exact .inr ⟨g, 0, _, e, fun i f hf => by simp at hf⟩
theorem PAt.lt {w : World} {g o : Nat} {l : List (List UInt8 × List UInt8)} (h : PAt w g o l) (hl : l ≠ []) : g < w.heap.size := by
  cases l with
  | nil => exact absurd rfl hl
  | cons f r => exact World.block_lt_of_cell? w _ (h 0 f rfl).1
theorem PAt.keep {w w' : World} {g o : Nat} {l : List (List UInt8 × List UInt8)} (h : PAt w g o l) (hk : w'.heap[g]? = w.heap[g]?) : PAt w' g o l := by
  intro i f hf
  obtain ⟨h1, h2⟩ := h i f hf
  exact ⟨by rw [World.cell?_of_block (by exact hk)]; exact h1, by rw [World.cell?_of_block (by exact hk)]; exact h2⟩
theorem PAt.step {w w' : World} {g o : Nat} {l : List (List UInt8 × List UInt8)} (h : PAt w g o l) (hb : Below w.heap.size w w') : PAt w' g o l := by
  by_cases hl : l = []
  · subst hl; intro i f hf; simp at hf
  · exact h.keep (hb.block g (h.lt hl))
theorem HasP.step {w w' : World} {v : Value} {l : List (List UInt8 × List UInt8)} (h : HasP w v l) (hb : Below w.heap.size w w') : HasP w' v l := by
  rcases h with h | ⟨g, o, c, rfl, h⟩
  · exact .inl h
  · exact .inr ⟨g, o, c, rfl, h.step hb⟩
theorem HasP.form {w : World} {v : Value} {l : List (List UInt8 × List UInt8)} (h : HasP w v l) : ∃ a c, v = .slice a l.length c := by
  rcases h with ⟨⟨a, c, rfl⟩, rfl⟩ | ⟨g, o, c, rfl, _⟩
  · exact ⟨a, c, rfl⟩
  · exact ⟨_, _, rfl⟩
theorem HasP.at {w : World} {a : Option Addr} {n c : Nat} {l : List (List UInt8 × List UInt8)} (h : HasP w (.slice a n c) l) (hn : 0 < n) : ∃ g o, a = some ⟨g, o, none⟩ ∧ PAt w g o l := by
  rcases h with ⟨⟨a', c', e⟩, _⟩ | ⟨g, o, c', e, h⟩
  · injection e with _ e _; omega
  · injection e with e _ _; exact ⟨g, o, e, h⟩
theorem news_pm (w : World) (f : (List UInt8 × List UInt8)) : ∀ j u, (pmV f)[j]? = some u → (w.alloc (.cells (pmV f).toArray 37)).cell? ((⟨w.heap.size, 0, none⟩ : Addr).add j) = some u := by
  intro j u h
  have := World.cell?_alloc_mark w (pmV f).toArray 37 (0, 0) j
  rw [add_none, Nat.zero_add, this, List.getElem?_toArray]; exact h
theorem infoPm : (Tryz.prog.info? 37).map (fun i => (i.zero, i.size, i.bytes)) = some (some (.agg #[.string ⟨#[]⟩, .string ⟨#[]⟩]), 2, 32) := by kernel_rfl
/-- An address is appended. -/
theorem run_appP {w : World} (base : Nat) {v : Value} {xs : List (List UInt8 × List UInt8)} (f : (List UInt8 × List UInt8)) (hown : w.ownsRow base 37 2 v xs.length (pmsV xs)) (hb : base ≤ w.heap.size) (hl : xs.length ≤ 4000000) :
    ∃ a c w', (Builtin.append_ #[24, 24] 24 #[v, .slice (some ⟨w.heap.size, 0, none⟩) 1 1]).run Tryz.prog (w.alloc (.cells #[.string (strL f.1), .string (strL f.2)] 37)) = .ok (.slice a (xs.length + 1) c) w' ∧
      w'.ownsRow base 37 2 (.slice a (xs.length + 1) c) (xs ++ [f]).length (pmsV (xs ++ [f])) ∧ (w.alloc (.cells #[.string (strL f.1), .string (strL f.2)] 37)).grownBy w' v.ownBlock := by
  obtain ⟨i0, hi, hz0, hz1, hz2⟩ := info_parts infoPm
  obtain ⟨v', w', hr, h1, h2, _⟩ := run_append_own (P := Tryz.prog) (w.alloc (.cells (pmV f).toArray 37)) base 24 24 37 i0 _ 2 32 Tryz.underlying24 hi hz0 hz1 hz2 rfl (by decide) v xs.length _ (World.ownsRow.alloc hown _) ⟨w.heap.size, 0, none⟩ 1 1 (pmV f) rfl (news_pm w f) (pmV_one f) (by unfold maxLen; omega) (by omega) (by rw [World.size_alloc]; omega)
  rw [← pmsV_one, pmsV_app, ← List.length_singleton (a := f), ← List.length_append] at h1
  obtain ⟨a, c, rfl⟩ : ∃ a c, v' = .slice a (xs.length + 1) c := by
    rcases h1.2 with ⟨rfl, h0⟩ | ⟨g, cap, cur, rfl, _⟩
    · simp at h0
    · exact ⟨_, _, by rw [List.length_append]; rfl⟩
  exact ⟨a, c, w', hr, h1, h2⟩
theorem wpList_appP {ops : Array Oper} {rest : List Oper} {o : Oper} {a : Act} {w : World} {Q : Exit → Act → World → Prop} (hw : Region.wanted o (yielded ops a.tmps) = true) (s x : Operand)
    (ho : o.op = .call { callee := .builtin .append, args := #[s, x], argTypes := #[24, 24] }) (hty : o.type = 24) (base : Nat) {v : Value} {xs : List (List UInt8 × List UInt8)} {n : Nat} (f : (List UInt8 × List UInt8)) (hs : a.eval s = v) (hx : a.eval x = .slice (some ⟨w.heap.size, 0, none⟩) 1 1)
    (hown : w.ownsRow base 37 2 v xs.length (pmsV xs)) (hn : xs.length = n) (hb : base ≤ w.heap.size) (hl : n ≤ 4000000)
    (h : ∀ a' c' w', w'.ownsRow base 37 2 (.slice a' (n + 1) c') (xs ++ [f]).length (pmsV (xs ++ [f])) → (w.alloc (.cells #[.string (strL f.1), .string (strL f.2)] 37)).grownBy w' v.ownBlock → wpList Tryz.prog ops Q rest (a.put o.dst (.slice a' (n + 1) c')) w') :
    wpList Tryz.prog ops Q (o :: rest) a (w.alloc (.cells #[.string (strL f.1), .string (strL f.2)] 37)) := by
  subst hn
  obtain ⟨a', c', w', hr, h1, h2⟩ := run_appP base f hown hb hl
  unfold wpList
  rw [if_pos hw]
  left
  unfold Oper.wp
  simp [execOp, ho, hty, resolve, invoke, builtin, hs, hx, hr, Result.andThen]
  exact h a' c' w' h1 h2
/-- Addresses are compared part by part. -/
theorem pm_iff (f g : (List UInt8 × List UInt8)) : (decide (f = g)) = ((strL f.1).toList == (strL g.1).toList && (strL f.2).toList == (strL g.2).toList) := by
  rw [eq_strL, eq_strL, Bool.eq_iff_iff]
  simp only [Bool.and_eq_true, decide_eq_true_iff]
  constructor
  · intro h; rw [h]; exact ⟨rfl, rfl⟩
  · intro h; cases f; cases g; simp_all
theorem run_equal_pm (f g : (List UInt8 × List UInt8)) (W : World) : (Op.equalIn 10000 37 (.agg #[.string (strL f.1), .string (strL f.2)]) (.agg #[.string (strL g.1), .string (strL g.2)])).run Tryz.prog W = .ok (decide (f = g)) W := by
  rw [pm_iff]
  generalize strL f.1 = a1
  generalize strL g.1 = b1
  generalize strL f.2 = a2
  generalize strL g.2 = b2
  go_simp
  cases h1 : (a1.toList == b1.toList) <;> cases h2 : (a2.toList == b2.toList) <;> simp_all
theorem drew_belowP (w : World) (n : Nat) : Below w.heap.size w (w.drewN n) := ⟨rfl, rfl, rfl, Nat.le_refl _, fun _ _ => rfl⟩
set_option maxRecDepth 100000 in
set_option maxHeartbeats 2000000 in
theorem rparams_any {v u : Value} {xs ys : List (List UInt8 × List UInt8)} {w : World} (h : HasP w v xs) (k : HasP w u ys) (hx : xs.length ≤ 4000000) :
    Calls Tryz.prog 17 #[v, u] w fun e w' => e = .returned (.bool (decide (xs = ys))) ∧ Below w.heap.size w w' := by
  obtain ⟨a1, c1, rfl⟩ := h.form
  obtain ⟨a2, c2, rfl⟩ := k.form
  obtain ⟨n, hn⟩ : ∃ n, xs.length = n := ⟨_, rfl⟩
  obtain ⟨m, hm⟩ : ∃ m, ys.length = m := ⟨_, rfl⟩
  rw [hn] at h hx
  rw [hm] at k
  rw [hn, hm]
  have HN := Lib.hid hn
  have HM := Lib.hid hm
  have H := Lib.hid h
  have K := Lib.hid k
  clear hn hm h k
  by_cases hl : n = m
  · subst hl
    have hne : ((n : Int) != (n : Int)) = false := by simp
    go_enter Tryz.func17, Tryz.ntmps17
    go_wp2_with fail
    go_loopw [5] (fun i wr => ∃ j : Nat, j ≤ n ∧ i = .int .i64 j ∧ Hid (Below w.heap.size w wr) ∧ Hid (∀ i (_ : i < j) (f g : (List UInt8 × List UInt8)), xs[i]? = some f → ys[i]? = some g → f = g)) (fun i _ => n - (intOf i).toNat)
    case atStart => exact ⟨0, Nat.zero_le _, rfl, Below.refl _ _, by intro i h; omega⟩
    case round =>
      obtain ⟨j, hj, rfl, hgr, heq⟩ := hrel
      have F1 : IntKind.i64.wrap ((j : Int) + 1) = (j : Int) + 1 := by rw [IntKind.wrap_i64]; omega
      by_cases hlt : j < n
      · have hlt' : (j : Int) < (n : Int) := by omega
        obtain ⟨g1, o1, rfl, f1⟩ := H.out.at (by omega)
        obtain ⟨g2, o2, rfl, f2⟩ := K.out.at (by omega)
        obtain ⟨f, hf⟩ : ∃ f, xs[j]? = some f := ⟨_, List.getElem?_eq_getElem (by rw [HN.out]; exact hlt)⟩
        obtain ⟨g, hg⟩ : ∃ g, ys[j]? = some g := ⟨_, List.getElem?_eq_getElem (by rw [HM.out]; exact hlt)⟩
        obtain ⟨p0, p1⟩ := f1.step hgr.out j f hf
        obtain ⟨q0, q1⟩ := f2.step hgr.out j g hg
        have hEq := run_equal_pm f g
        by_cases he : f = g
        · rw [decide_eq_true he] at hEq
          have HE : Hid (∀ i (_ : i < j + 1) (f g : (List UInt8 × List UInt8)), xs[i]? = some f → ys[i]? = some g → f = g) := by
            intro i h f' g' h1 h2
            rcases (show i < j ∨ i = j by omega) with h' | rfl
            · exact heq.out i h' f' g' h1 h2
            · rw [hf] at h1; rw [hg] at h2
              cases h1; cases h2; exact he
          generalize strL f.1 = x1 at p0 hEq
          generalize strL f.2 = x2 at p1 hEq
          generalize strL g.1 = y1 at q0 hEq
          generalize strL g.2 = y2 at q1 hEq
          clear hf hg he f1 f2
          go_wp2_with fail
          go_quiet (fail)
          go_wp2_with fail
          go_roundw
          case rel => exact ⟨j + 1, by omega, by go_num, hgr.out.trans (drew_belowP _ _ |>.mono hgr.out.size), HE⟩
          case measure => simp [intOf]; omega
        · rw [decide_eq_false he] at hEq
          have HE : Hid (decide (xs = ys) = false) := by
            show _ = _
            rw [decide_eq_false_iff_not]
            rintro rfl
            rw [hf] at hg; cases hg; exact he rfl
          generalize strL f.1 = x1 at p0 hEq
          generalize strL f.2 = x2 at p1 hEq
          generalize strL g.1 = y1 at q0 hEq
          generalize strL g.2 = y2 at q1 hEq
          clear hf hg he f1 f2
          go_wp2_with fail
          go_quiet (fail)
          go_wp2_with fail
          go_ret
          rw [HE.out]
          exact ⟨rfl, hgr.out.trans (drew_belowP _ _ |>.mono hgr.out.size)⟩
      · obtain rfl : j = n := by omega
        have hlt' : ¬ (j : Int) < (j : Int) := by omega
        have HE : Hid (decide (xs = ys) = true) := by
          show _ = _
          rw [decide_eq_true_iff]
          have h1 := HN.out
          have h2 := HM.out
          exact List.ext_getElem (by omega) fun i hi1 hi2 => heq.out i (by omega) _ _ (List.getElem?_eq_getElem hi1) (List.getElem?_eq_getElem hi2)
        go_wp2_with fail
        go_ret
        rw [HE.out]
        exact ⟨rfl, hgr.out⟩
  · have HE : Hid (decide (xs = ys) = false) := by
      show _ = _
      rw [decide_eq_false_iff_not]
      rintro rfl
      exact hl (HN.out.symm.trans HM.out)
    have hne : ((n : Int) == (m : Int)) = false := beq_eq_false_iff_ne.2 (by omega)
    have hne' : ((n : Int) != (m : Int)) = true := by rw [bne, hne]; rfl
    clear hl
    go_enter Tryz.func17, Tryz.ntmps17
    go_wp2_with fail
    go_ret
    rw [HE.out]
    exact ⟨rfl, Below.refl _ _⟩
end Go.Proofs.YtdinachiiimngaaGreatDoor
namespace Go.Proofs.YtdinachiiimngaaGreatDoor
open Go.ChangeShapes Go.WideShapes Go.ChangeAt Go.RowKit
open TokP AdrP CtP

theorem any_in (chars : List UInt8) : ∀ l : List UInt8, Lib.containsAny l chars = l.any (fun b => chars.contains b)
  | [] => rfl
  | b :: l => by
    have ih := any_in chars l
    have hg := Lib.indexAny_ge chars l
    unfold Lib.containsAny at ih ⊢
    rw [Lib.indexAny, List.any_cons]
    cases h : chars.contains b with
    | true => rfl
    | false =>
      rw [if_neg Bool.false_ne_true, Bool.false_or, ← ih]
      by_cases h3 : Lib.indexAny l chars = -1
      · rw [h3]; rfl
      · rw [if_neg (by rw [beq_iff_eq]; exact h3), Bool.eq_iff_iff, decide_eq_true_eq, decide_eq_true_eq]
        omega
def stopB : List UInt8 := [32, 40, 41, 60, 62, 64, 44, 59, 58, 92, 34, 47, 91, 93, 63, 61]
theorem plain_fact : ∀ n : Fin 256, ((decide (32 ≤ (UInt8.ofNat n.val).toNat) && decide ((UInt8.ofNat n.val).toNat ≤ 126)) && !stopB.contains (UInt8.ofNat n.val)) = (decide (33 ≤ (UInt8.ofNat n.val).toNat) && decide ((UInt8.ofNat n.val).toNat ≤ 126) && !([40, 41, 60, 62, 64, 44, 59, 58, 92, 34, 47, 91, 93, 63, 61].contains (UInt8.ofNat n.val))) := by decide +kernel
theorem plain_is (v : List UInt8) : plainV v = (!v.isEmpty && (quotedV v && !v.any (fun b => stopB.contains b))) := by
  unfold plainV quotedV
  congr 1
  have hb : ∀ c : UInt8, ((decide (32 ≤ c.toNat) && decide (c.toNat ≤ 126)) && !stopB.contains c) = (decide (33 ≤ c.toNat) && decide (c.toNat ≤ 126) && !([40, 41, 60, 62, 64, 44, 59, 58, 92, 34, 47, 91, 93, 63, 61].contains c)) :=
    fun c => byte_all (P := fun c => ((decide (32 ≤ c.toNat) && decide (c.toNat ≤ 126)) && !stopB.contains c) = (decide (33 ≤ c.toNat) && decide (c.toNat ≤ 126) && !([40, 41, 60, 62, 64, 44, 59, 58, 92, 34, 47, 91, 93, 63, 61].contains c))) plain_fact c
  induction v with
  | nil => rfl
  | cons c v ih =>
    rw [List.all_cons, List.all_cons, List.any_cons, ih, ← hb c, Bool.not_or]
    generalize (decide (32 ≤ c.toNat) && decide (c.toNat ≤ 126)) = a
    generalize stopB.contains c = d
    generalize v.all _ = e
    generalize v.any _ = f
    cases a <;> cases d <;> cases e <;> cases f <;> rfl
theorem Wr.trans {b : Nat} {w0 w1 w2 : World} {L1 L2 : List UInt8} (h : Wr b w0 w1 L1) (k : Wr b w1 w2 L2) : Wr b w0 w2 L2 := ⟨k.bk, h.below.trans k.below, h.kept.trans k.kept⟩
theorem ascii_quoted {v : List UInt8} (h : quotedV v = true) : ∀ (j : Nat) (b : UInt8), v[j]? = some b → b.toNat < 128 := fun j b hb => by
  unfold quotedV at h
  rw [List.all_eq_true] at h
  have := h b (List.mem_of_getElem? hb)
  rw [Bool.and_eq_true, decide_eq_true_eq, decide_eq_true_eq] at this
  omega
theorem stop_ascii : ∀ (j : Nat) (b : UInt8), stopB[j]? = some b → b.toNat < 128 := fun j b hb => by
  have : stopB.all (fun b => decide (b.toNat < 128)) = true := by decide
  rw [List.all_eq_true] at this
  have := this b (List.mem_of_getElem? hb)
  rwa [decide_eq_true_eq] at this
theorem fmt_len (v : List UInt8) : (fmtV v).length ≤ 3 * v.length + 10 := by
  have h1 := escQ_len v
  have h2 := pctE_len v
  unfold fmtV utf8N
  split
  · simp; omega
  · split
    · simp; omega
    · simp; omega
set_option maxRecDepth 100000 in
set_option maxHeartbeats 4000000 in
theorem value_w (s : ByteArray) (hs : s.size ≤ 4000000) (b : Nat) (L : List UInt8) (hL : L.length + 3 * s.size + 100 ≤ 140737488355328) (w : World) (hb : Bk w b L) :
    Calls Tryz.prog 43 #[.pointer (some ⟨b, 0, none⟩), .string s] w fun e w' => e = .returned (.tuple #[]) ∧ Wr b w w' (L ++ fmtV s.data.toList) := by
  have hz := size_list s
  have H0 := Lib.hid (Wr.first hb)
  have cP := fun W => print_any s (by omega) W
  have hpl := plain_is s.data.toList
  have cA := fun (h : quotedV s.data.toList = true) W => Tryz.strings_ContainsAny_laid s (strL stopB) W (by omega) (by rw [strL_size]; decide) (ascii_quoted h) (by rw [strL_list]; exact stop_ascii)
  rw [strL_list, any_in] at cA
  have c0 : ∀ W (_ : Hid (Wr b w W L)), _ := fun W h => wr_byte 61 61 rfl h.out (by omega)
  have cQ : ∀ W (_ : Hid (Wr b w W (L ++ [61]))), _ := fun W h => quoted_any s hs b (L ++ [61]) (by rw [List.length_append, List.length_singleton]; omega) W h.out.bk
  have cV : ∀ W (_ : Hid (Wr b w W (L ++ [61]))), _ := fun W h => wr_str s h.out (by rw [List.length_append, List.length_singleton]; omega)
  have cS : ∀ W (_ : Hid (Wr b w W L)), Calls Tryz.prog 42 #[.pointer (some ⟨b, 0, none⟩), .string ⟨#[42, 61, 117, 116, 102, 45, 56, 39, 39]⟩] W fun e w' => (∃ z, e = .returned (.tuple #[.int .i64 z, .nilIface])) ∧ Wr b w w' (L ++ [42, 61, 117, 116, 102, 45, 56, 39, 39]) := fun W h => (wr_str ⟨#[42, 61, 117, 116, 102, 45, 56, 39, 39]⟩ h.out (by show L.length + 9 ≤ _; omega)).mono fun _ _ h => ⟨⟨_, h.1⟩, h.2⟩
  have cE : ∀ W (_ : Hid (Wr b w W (L ++ [42, 61, 117, 116, 102, 45, 56, 39, 39]))), _ := fun W h => encoded_any s hs b (L ++ [42, 61, 117, 116, 102, 45, 56, 39, 39]) (by rw [List.length_append]; simp; omega) W h.out.bk
  have hem : s.toList.isEmpty = s.data.toList.isEmpty := by rw [ByteArray.toList_eq]
  have HT1 := Lib.hid (fun (h : plainV s.data.toList = true) => show (L ++ [61]) ++ s.data.toList = L ++ fmtV s.data.toList by unfold fmtV; rw [if_pos h, List.append_assoc]; rfl)
  have HT2 := Lib.hid (fun (h : ¬ plainV s.data.toList = true) (h2 : quotedV s.data.toList = true) => show (L ++ [61]) ++ 34 :: (escQ s.data.toList ++ [34]) = L ++ fmtV s.data.toList by unfold fmtV; rw [if_neg h, if_pos h2, List.append_assoc]; rfl)
  have HT3 := Lib.hid (fun (h : ¬ plainV s.data.toList = true) (h2 : ¬ quotedV s.data.toList = true) => show (L ++ [42, 61, 117, 116, 102, 45, 56, 39, 39]) ++ pctE s.data.toList = L ++ fmtV s.data.toList by unfold fmtV utf8N; rw [if_neg h, if_neg h2, List.append_assoc]; rfl)
  have he1 : (s.toList != []) = !s.data.toList.isEmpty := by rw [ByteArray.toList_eq]; cases s.data.toList <;> rfl
  rw [← hem] at hpl
  generalize hee : s.toList.isEmpty = e0 at hpl
  clear hb hL hz he1
  cases hq : quotedV s.data.toList with
  | true =>
    rw [hq] at cP hpl
    cases e0 with
    | true =>
      have HR := Lib.hid (HT2.out (by rw [hpl]; simp) hq)
      clear hq hem hpl HT1 HT2 HT3 cA
      go_enter Tryz.func43, Tryz.ntmps43
      go_wp2_with (first
        | (go_at_call 78; (with_reducible refine (cP _).mono ?_); rintro e w5 ⟨rfl, rfl⟩)
        | (go_at_call 80; (with_reducible refine (c0 _ H0).mono ?_); rintro e w1 ⟨rfl, hq1⟩; have H1 := Lib.hid hq1; clear hq1 c0)
        | (go_at_call 81; (with_reducible refine (cQ _ H1).mono ?_); rintro e w2 ⟨rfl, hq2⟩; have H2 := Lib.hid (H1.out.trans hq2); clear hq2 cQ))
      go_end0
      exact ⟨rfl, by rw [← HR.out]; exact H2.out⟩
    | false =>
      replace cA := cA hq
      cases hy : s.data.toList.any (fun b => stopB.contains b) with
      | true =>
        rw [hy] at cA hpl
        have HR := Lib.hid (HT2.out (by rw [hpl]; simp) hq)
        clear hy
        have hstop : strL stopB = ⟨#[32, 40, 41, 60, 62, 64, 44, 59, 58, 92, 34, 47, 91, 93, 63, 61]⟩ := rfl
        rw [hstop] at cA
        clear hq hem hpl HT1 HT2 HT3 hstop
        go_enter Tryz.func43, Tryz.ntmps43
        go_wp2_with (first
          | (go_at_call 78; (with_reducible refine (cP _).mono ?_); rintro e w5 ⟨rfl, rfl⟩)
          | (go_at_call 79; (with_reducible refine (cA _).mono ?_); rintro e w6 ⟨rfl, hq6⟩; have H6 := Lib.hid (H0.out.other hq6); clear hq6 cA)
          | (go_at_call 80; (with_reducible refine (c0 _ H6).mono ?_); rintro e w1 ⟨rfl, hq1⟩; have H1 := Lib.hid hq1; clear hq1 c0)
          | (go_at_call 81; (with_reducible refine (cQ _ H1).mono ?_); rintro e w2 ⟨rfl, hq2⟩; have H2 := Lib.hid (H1.out.trans hq2); clear hq2 cQ))
        go_end0
        exact ⟨rfl, by rw [← HR.out]; exact H2.out⟩
      | false =>
        rw [hy] at cA hpl
        have HR := Lib.hid (HT1.out hpl)
        clear hy
        have hstop : strL stopB = ⟨#[32, 40, 41, 60, 62, 64, 44, 59, 58, 92, 34, 47, 91, 93, 63, 61]⟩ := rfl
        rw [hstop] at cA
        clear hq hem hpl HT1 HT2 HT3 hstop
        go_enter Tryz.func43, Tryz.ntmps43
        go_wp2_with (first
          | (go_at_call 78; (with_reducible refine (cP _).mono ?_); rintro e w5 ⟨rfl, rfl⟩)
          | (go_at_call 79; (with_reducible refine (cA _).mono ?_); rintro e w6 ⟨rfl, hq6⟩; have H6 := Lib.hid (H0.out.other hq6); clear hq6 cA)
          | (go_at_call 80; (with_reducible refine (c0 _ H6).mono ?_); rintro e w1 ⟨rfl, hq1⟩; have H1 := Lib.hid hq1; clear hq1 c0)
          | (go_at_call 42; (with_reducible refine (cV _ H1).mono ?_); rintro e w2 ⟨rfl, hq2⟩; have H2 := Lib.hid hq2; clear hq2 cV))
        go_end0
        exact ⟨rfl, by rw [← HR.out]; exact H2.out⟩
  | false =>
    rw [hq] at cP hpl
    have hp : ¬ plainV s.data.toList = true := by rw [hpl]; simp
    have HR := Lib.hid (HT3.out hp (by rw [hq]; decide))
    clear hp
    cases e0 with
    | true =>
      clear hq hem hpl HT1 HT2 HT3 cA
      go_enter Tryz.func43, Tryz.ntmps43
      go_wp2_with (first
        | (go_at_call 78; (with_reducible refine (cP _).mono ?_); rintro e w5 ⟨rfl, rfl⟩)
        | (go_at_call 42; (with_reducible refine (cS _ H0).mono ?_); rintro e w1 ⟨⟨z1, rfl⟩, hq1⟩; have H1 := Lib.hid hq1; clear hq1 cS)
        | (go_at_call 82; (with_reducible refine (cE _ H1).mono ?_); rintro e w2 ⟨rfl, hq2⟩; have H2 := Lib.hid (H1.out.trans hq2); clear hq2 cE))
      go_end0
      exact ⟨rfl, by rw [← HR.out]; exact H2.out⟩
    | false =>
      clear hq hem hpl HT1 HT2 HT3 cA
      go_enter Tryz.func43, Tryz.ntmps43
      go_wp2_with (first
        | (go_at_call 78; (with_reducible refine (cP _).mono ?_); rintro e w5 ⟨rfl, rfl⟩)
        | (go_at_call 42; (with_reducible refine (cS _ H0).mono ?_); rintro e w1 ⟨⟨z1, rfl⟩, hq1⟩; have H1 := Lib.hid hq1; clear hq1 cS)
        | (go_at_call 82; (with_reducible refine (cE _ H1).mono ?_); rintro e w2 ⟨rfl, hq2⟩; have H2 := Lib.hid (H1.out.trans hq2); clear hq2 cE))
      go_end0
      exact ⟨rfl, by rw [← HR.out]; exact H2.out⟩
theorem lineW_step (F : List UInt8) (l : List (List UInt8 × List UInt8)) (k : Nat) (p : List UInt8 × List UInt8) (h : l[k]? = some p) : lineW F (l.take (k + 1)) = ((lineW F (l.take k) ++ [59, 32]) ++ p.1) ++ fmtV p.2 := by
  unfold lineW
  rw [List.take_add_one, h, Option.toList_some, List.flatMap_append, List.flatMap_singleton]
  unfold rowW
  simp
theorem lineW_le (F : List UInt8) (l : List (List UInt8 × List UInt8)) (k : Nat) : (lineW F (l.take k)).length ≤ (lineW F l).length := by
  have e : l = l.take k ++ l.drop k := (List.take_append_drop k l).symm
  conv => rhs; rw [e]
  unfold lineW
  rw [List.length_append, List.length_append, List.flatMap_append, List.length_append]
  omega
set_option maxRecDepth 100000 in
set_option maxHeartbeats 4000000 in
theorem line_w (F : ByteArray) (v : Value) (l : List (List UInt8 × List UInt8)) (hv : ∀ p ∈ l, p.2.length ≤ 4000000) (hl : l.length ≤ 4000000) (hz : (lineW F.data.toList l).length + 20000000 ≤ 140737488355328) (w : World) (h : Hid (HasP w v l)) :
    Calls Tryz.prog 20 #[.string F, v] w fun e w' => e = .returned (.string (strL (lineW F.data.toList l))) ∧ Below w.heap.size w w' := by
  obtain ⟨a, c, rfl⟩ := h.out.form
  obtain ⟨n, hn⟩ : ∃ n, l.length = n := ⟨_, rfl⟩
  rw [hn] at h hl ⊢
  have HN := Lib.hid hn
  have HVL := Lib.hid hv
  have HZ := Lib.hid hz
  have hF : F.size ≤ 140737488351328 := by
    have := lineW_le F.data.toList l 0
    rw [List.take_zero] at this
    have h0 : lineW F.data.toList [] = F.data.toList := by unfold lineW; simp
    rw [h0, ← size_list] at this
    omega
  have H0 : Hid (Wr w.heap.size (w.alloc (.cells #[.pointer none, .slice none 0 0] 61)) (w.alloc (.cells #[.pointer none, .slice none 0 0] 61)) []) := Lib.hid (Wr.first (bk_new w))
  have HB0 := Lib.hid ((Below.refl w.heap.size w).alloc (Nat.le_refl _) (.cells #[.pointer none, .slice none 0 0] 61))
  have c0 : ∀ W (_ : Hid (Wr w.heap.size (w.alloc (.cells #[.pointer none, .slice none 0 0] 61)) W [])), _ := fun W h => wr_str F h.out (by show 0 + F.size ≤ _; omega)
  clear hn hv hz
  go_enter Tryz.func20, Tryz.ntmps20
  go_wp2_with (go_at_call 42; (with_reducible refine (c0 _ H0).mono ?_); rintro e w1 ⟨rfl, hq1⟩; have H1 := Lib.hid (And.intro hq1.bk (HB0.out.trans hq1.below)); clear hq1 c0)
  go_loopw [12] (fun i wr => ∃ k : Nat, k ≤ n ∧ i = .int .i64 k ∧ Hid (Bk wr w.heap.size (lineW F.data.toList (l.take k)) ∧ Below w.heap.size w wr)) (fun i _ => n - (intOf i).toNat)
  case atStart => exact ⟨0, Nat.zero_le _, rfl, by
    have h0 : lineW F.data.toList (l.take 0) = [] ++ F.data.toList := by unfold lineW; simp
    rw [h0]; exact H1⟩
  case round =>
    obtain ⟨k, hk, rfl, HST⟩ := hrel
    have F1 : IntKind.i64.wrap ((k : Int) + 1) = (k : Int) + 1 := by rw [IntKind.wrap_i64]; omega
    clear H1 H0
    by_cases hlt : k < n
    · have hlt' : (k : Int) < (n : Int) := by omega
      obtain ⟨g, o, rfl, hfa⟩ := h.out.at (by omega)
      obtain ⟨p, hp⟩ : ∃ p, l[k]? = some p := ⟨_, List.getElem?_eq_getElem (by rw [HN.out]; exact hlt)⟩
      obtain ⟨p0, p1⟩ := hfa.step HST.out.2 k p hp
      have hle := lineW_le F.data.toList l (k + 1)
      have hstep := lineW_step F.data.toList l k p hp
      have hv2 := HVL.out p (List.mem_of_getElem? hp)
      have hf3 := fmt_len p.2
      have hz := HZ.out
      rw [hstep, List.length_append, List.length_append, List.length_append] at hle
      have HSTEP := Lib.hid hstep
      generalize lineW F.data.toList (l.take k) = T at HST hle HSTEP
      have s1 : (strL p.1).size = p.1.length := strL_size _
      have s2 : (strL p.2).size = p.2.length := strL_size _
      have l1 : (strL p.1).data.toList = p.1 := rfl
      have l2 : (strL p.2).data.toList = p.2 := rfl
      have hT1 : T.length + 2 ≤ 140737488355328 := by simp at hle; omega
      have hT2 : (T ++ [59, 32]).length + (strL p.1).size ≤ 140737488355328 := by rw [List.length_append, s1]; simp at hle ⊢; omega
      have hT3 : ((T ++ [59, 32]) ++ p.1).length + 3 * (strL p.2).size + 100 ≤ 140737488355328 := by rw [List.length_append, List.length_append, s2]; simp at hle ⊢; omega
      have hnew := World.alloc_heap_new wr (.cells #[.string (strL p.1), .string (strL p.2)] 37)
      have hne : wr.heap.size ≠ w.heap.size := by have := bk_lt HST.out.1; omega
      obtain ⟨W1, hW1⟩ : ∃ W1, wr.alloc (.cells #[.string (strL p.1), .string (strL p.2)] 37) = W1 := ⟨_, rfl⟩
      rw [hW1] at hnew
      have HW := Lib.hid (show Wr w.heap.size W1 W1 T ∧ Below w.heap.size w W1 by rw [← hW1]; exact ⟨Wr.first (HST.out.1.alloc _), HST.out.2.alloc HST.out.2.size _⟩)
      have k0 : W1.cell? ⟨wr.heap.size, 0, none⟩ = some (.string (strL p.1)) := by simp [World.cell?, hnew]
      have k1 : W1.cell? ⟨wr.heap.size, 1, none⟩ = some (.string (strL p.2)) := by simp [World.cell?, hnew]
      have HG := Lib.hid hnew
      have HK := Lib.hid (fun (W : World) (L : List UInt8) (h : Wr w.heap.size W1 W L) => show W.cell? ⟨wr.heap.size, 0, none⟩ = some (.string (strL p.1)) ∧ W.cell? ⟨wr.heap.size, 1, none⟩ = some (.string (strL p.2)) from ⟨cell_others HG.out h.kept hne (by decide) k0, cell_others HG.out h.kept hne (by decide) k1⟩)
      have c1 : ∀ W (_ : Hid (Wr w.heap.size W1 W T)), Calls Tryz.prog 42 #[.pointer (some ⟨w.heap.size, 0, none⟩), .string ⟨#[59, 32]⟩] W fun e w' => (∃ z, e = .returned (.tuple #[.int .i64 z, .nilIface])) ∧ Wr w.heap.size W1 w' (T ++ [59, 32]) := fun W h => (wr_str ⟨#[59, 32]⟩ h.out hT1).mono fun _ _ h => ⟨⟨_, h.1⟩, h.2⟩
      have c2 := fun W (h : Hid (Wr w.heap.size W1 W (T ++ [59, 32]))) => wr_str (strL p.1) h.out hT2
      have c3 := fun W (h : Hid (Wr w.heap.size W1 W ((T ++ [59, 32]) ++ p.1))) => value_w (strL p.2) (by rw [s2]; exact hv2) w.heap.size ((T ++ [59, 32]) ++ p.1) hT3 W h.out.bk
      rw [l1] at c2
      rw [l2] at c3
      have HW1 := Lib.hid hW1
      generalize strL p.1 = x1 at p0 c2 k0 k1 HK HG hW1 HW1 s1 hT2
      generalize strL p.2 = x2 at p1 c3 k0 k1 HK HG hW1 HW1 s2 hT3
      clear hle hstep hv2 hf3 hz s1 s2 l1 l2 hT1 hT2 hT3 hnew hfa hp k0 k1 HG hW1
      go_wp2_with fail
      rw [HW1.out]
      have HH := HW.out.1
      obtain ⟨j0, j1⟩ := HK.out W1 T HH
      clear HH
      go_wp2_with (first
        | (go_at_call 42; (with_reducible refine (c1 _ (Lib.hid HW.out.1)).mono ?_); rintro e w2 ⟨⟨z2, rfl⟩, hq2⟩; have H2 := Lib.hid hq2; obtain ⟨i0, i1⟩ := HK.out w2 _ hq2; clear hq2 c1)
        | (go_at_call 42; (with_reducible refine (c2 _ H2).mono ?_); rintro e w3 ⟨rfl, hq3⟩; have H3 := Lib.hid hq3; obtain ⟨f0, f1⟩ := HK.out w3 _ hq3; clear hq3 c2)
        | (go_at_call 43; (with_reducible refine (c3 _ H3).mono ?_); rintro e w4 ⟨rfl, hq4⟩; have H4 := Lib.hid (H3.out.trans hq4); clear hq4 c3))
      go_roundw
      case rel => exact ⟨k + 1, by omega, by go_num, Lib.hid ⟨by rw [HSTEP.out]; exact H4.out.bk, HW.out.2.trans H4.out.below⟩⟩
      case measure => simp [intOf]; omega
    · obtain rfl : k = n := by omega
      have hlt' : ¬ (k : Int) < (k : Int) := by omega
      have hT : l.take k = l := List.take_of_length_le (by rw [HN.out]; exact Nat.le_refl _)
      rw [hT] at HST
      have cO := fun W (h : Hid (Bk W w.heap.size (lineW F.data.toList l) ∧ Below w.heap.size w W)) => bk_out _ _ W h.out.1
      obtain ⟨X, hX⟩ : ∃ X, lineW F.data.toList l = X := ⟨_, rfl⟩
      rw [hX] at HST cO
      have HX := Lib.hid hX
      clear hT hX
      go_wp2_with (go_at_call 44; (with_reducible refine (cO _ HST).mono ?_); rintro e w3 ⟨rfl, hb3⟩)
      go_ret
      rw [HX.out]
      exact ⟨rfl, HST.out.2.trans hb3⟩
set_option maxRecDepth 100000 in
set_option maxHeartbeats 4000000 in
theorem write_w (K S : ByteArray) (v : Value) (l : List (List UInt8 × List UInt8)) (hv : ∀ p ∈ l, p.2.length ≤ 4000000) (hl : l.length ≤ 4000000) (hz : (lineW (K.data.toList ++ 47 :: S.data.toList) l).length + 20000000 ≤ 140737488355328) (w : World) (h : Hid (HasP w v l)) :
    Calls Tryz.prog 18 #[.agg #[.string K, .string S, v]] w fun e w' => e = .returned (.string (strL (lineW (K.data.toList ++ 47 :: S.data.toList) l))) ∧ Below w.heap.size w w' := by
  have hle := lineW_le (K.data.toList ++ 47 :: S.data.toList) l 0
  have h0 : lineW (K.data.toList ++ 47 :: S.data.toList) [] = K.data.toList ++ 47 :: S.data.toList := by unfold lineW; simp
  rw [List.take_zero, h0, List.length_append, List.length_cons, ← size_list, ← size_list] at hle
  have hz1 : K.size + (⟨#[47]⟩ : ByteArray).size ≤ 140737488355328 := by show K.size + 1 ≤ _; omega
  have hz2 : (K ++ (⟨#[47]⟩ : ByteArray)).size + S.size ≤ 140737488355328 := by rw [ByteArray.size_append]; show K.size + 1 + S.size ≤ _; omega
  have hFL : ((K ++ (⟨#[47]⟩ : ByteArray)) ++ S).data.toList = K.data.toList ++ 47 :: S.data.toList := by rw [list_append, list_append, List.append_assoc]; rfl
  have HB0 := Lib.hid ((Below.refl w.heap.size w).alloc (Nat.le_refl _) (.cells #[.string K, .string S, v] 26))
  obtain ⟨FF, hFF⟩ : ∃ FF, (K ++ (⟨#[47]⟩ : ByteArray)) ++ S = FF := ⟨_, rfl⟩
  rw [hFF] at hFL
  have cL := fun W (h : Hid (HasP W v l)) => line_w FF v l hv hl (by rw [hFL]; exact hz) W h
  rw [hFL] at cL
  have H1 : Hid (HasP (w.alloc (.cells #[.string K, .string S, v] 26)) v l) := Lib.hid (h.out.step HB0.out)
  have HH := Lib.hid h.out.form
  clear hle h0 hFL hz hv hl h
  obtain ⟨pa, pc, rfl⟩ := HH.out
  obtain ⟨X, hX⟩ : ∃ X, strL (lineW (K.data.toList ++ 47 :: S.data.toList) l) = X := ⟨_, rfl⟩
  rw [hX] at cL ⊢
  clear hX
  go_enter Tryz.func18, Tryz.ntmps18
  go_wp2_with (go_at_call 20; (with_reducible refine (cL _ H1).mono ?_); rintro e w3 ⟨rfl, hb3⟩)
  go_ret
  exact ⟨rfl, HB0.out.trans (hb3.mono HB0.out.size)⟩
end Go.Proofs.YtdinachiiimngaaGreatDoor
namespace Go.Proofs.YtdinachiiimngaaGreatDoor
open Go.ChangeShapes Go.WideShapes Go.ChangeAt Go.RowKit
open TokP AdrP CtP

/-- What is asked of the reference's Unhex, Repair and Decode. -/
def RUnhexOk : Prop := ∀ (s : ByteArray) (_ : s.size = 2) (W : World), Calls Tryz.prog 161 #[.string s] W fun e w' => ∃ T : ByteArray, e = .returned (.tuple #[.string T, .bool (hex2 s.data.toList).isSome]) ∧ (∀ b, hex2 s.data.toList = some b → T = strL [b]) ∧ Below W.heap.size W w'
def RRepairOk (rep : List UInt8 → List UInt8) : Prop := ∀ (s : ByteArray) (_ : s.size ≤ 4000000) (W : World), Calls Tryz.prog 159 #[.string s] W fun e w' => e = .returned (.string (strL (rep s.data.toList))) ∧ Below W.heap.size W w'
def RDecodeOk (dec : List UInt8 → List UInt8 → List UInt8) : Prop := ∀ (n s : ByteArray) (_ : n.size ≤ 4000000) (_ : s.size ≤ 4000000) (W : World), Calls Tryz.prog 160 #[.string n, .string s] W fun e w' => ∃ b, e = .returned (.tuple #[.string (strL (dec n.data.toList s.data.toList)), .bool b]) ∧ Below W.heap.size W w'
theorem rmeant_any {rep : List UInt8 → List UInt8} {dec : List UInt8 → List UInt8 → List UInt8} (cR : RRepairOk rep) (cD : RDecodeOk dec) (n s : ByteArray) (hn : n.size ≤ 4000000) (hs : s.size ≤ 4000000) (w : World) :
    Calls Tryz.prog 115 #[.string n, .string s] w fun e w' => e = .returned (.string (strL (meantP rep dec n.data.toList s.data.toList))) ∧ Below w.heap.size w w' := by
  have c1 := cR s hs w
  have c2 := cD n s hn hs w
  unfold meantP
  by_cases h0 : n.data.toList = []
  · rw [if_pos h0]
    have e1 : (n.toList == []) = true := by rw [ByteArray.toList_eq, h0]; rfl
    generalize strL (rep s.data.toList) = Z at c1 ⊢
    clear c2 hn hs h0
    go_enter Tryz.func115, Tryz.ntmps115
    go_wp2_with (go_at_call 159; (with_reducible refine c1.mono ?_); rintro e w2 ⟨rfl, hb2⟩)
    go_ret
    exact ⟨rfl, hb2⟩
  · rw [if_neg h0]
    have e1 : (n.toList == []) = false := by rw [ByteArray.toList_eq]; exact beq_eq_false_iff_ne.2 h0
    generalize strL (dec n.data.toList s.data.toList) = Z at c2 ⊢
    clear c1 hn hs h0
    go_enter Tryz.func115, Tryz.ntmps115
    go_wp2_with (go_at_call 160; (with_reducible refine c2.mono ?_); rintro e w2 ⟨b, rfl, hb2⟩)
    go_ret
    exact ⟨rfl, hb2⟩
/-! ### Open -/
theorem pct_plain {s : List UInt8} {k : Nat} {c : UInt8} (hk : s[k]? = some c) (h : c ≠ 37) : pctS 0 (s.drop k) = c :: pctS 0 (s.drop (k + 1)) := by
  obtain ⟨h1, h2⟩ := List.getElem?_eq_some_iff.1 hk
  rw [List.drop_eq_getElem_cons h1, h2, pctS, if_neg h]
theorem pct_no {s : List UInt8} {k : Nat} {c : UInt8} (hk : s[k]? = some c) (h : hex2 (s.drop (k + 1)) = none) : pctS 0 (s.drop k) = c :: pctS 0 (s.drop (k + 1)) := by
  obtain ⟨h1, h2⟩ := List.getElem?_eq_some_iff.1 hk
  rw [List.drop_eq_getElem_cons h1, h2, pctS, h]
  split <;> rfl
theorem pct_skip : ∀ (j : Nat) (s : List UInt8), pctS j s = pctS 0 (s.drop j)
  | 0, s => rfl
  | j + 1, [] => rfl
  | j + 1, c :: s => by
    show pctS j s = pctS 0 (s.drop j)
    exact pct_skip j s
theorem pct_yes {s : List UInt8} {k : Nat} {b : UInt8} (hk : s[k]? = some 37) (h : hex2 (s.drop (k + 1)) = some b) : pctS 0 (s.drop k) = b :: pctS 0 (s.drop (k + 3)) := by
  obtain ⟨h1, h2⟩ := List.getElem?_eq_some_iff.1 hk
  rw [List.drop_eq_getElem_cons h1, h2, pctS, if_pos rfl, h]
  show b :: pctS 2 (s.drop (k + 1)) = _
  rw [pct_skip 2, List.drop_drop]
theorem hex2_short {s : List UInt8} (h : s.length < 2) : hex2 s = none := by
  cases s with
  | nil => rfl
  | cons a r =>
    cases r with
    | nil => rfl
    | cons b t => simp at h; omega
theorem hex2_take (s : List UInt8) : hex2 (s.take 2) = hex2 s := by
  cases s with
  | nil => rfl
  | cons a r =>
    cases r with
    | nil => rfl
    | cons b t => rfl
set_option maxRecDepth 100000 in
set_option maxHeartbeats 4000000 in
theorem ropen_any (cU : RUnhexOk) (s : ByteArray) (hs : s.size ≤ 4000000) (w : World) :
    Calls Tryz.prog 116 #[.string s] w fun e w' => e = .returned (.string (strL (pctL s.data.toList))) ∧ Below w.heap.size w w' := by
  obtain ⟨n, hn⟩ : ∃ n, s.size = n := ⟨_, rfl⟩
  have HN := Lib.hid hn
  have HL := Lib.hid (size_list s)
  rw [hn] at hs
  obtain ⟨R, hR⟩ : ∃ R, pctL s.data.toList = R := ⟨_, rfl⟩
  rw [hR]
  have HR := Lib.hid (show (⟨#[]⟩ : ByteArray).data.toList ++ pctS 0 (s.data.toList.drop 0) = R from hR)
  have HU := Lib.hid cU
  clear hn hR cU
  go_enter Tryz.func116, Tryz.ntmps116
  go_wp2_with fail
  go_loopw [3, 4] (fun o i wr => ∃ (k : Nat) (T : ByteArray), k ≤ n ∧ o = .string T ∧ i = .int .i64 k ∧ T.size ≤ k ∧ Hid (T.data.toList ++ pctS 0 (s.data.toList.drop k) = R) ∧ Hid (Below w.heap.size w wr)) (fun _ i _ => n - (intOf i).toNat)
  case atStart => exact ⟨0, ⟨#[]⟩, Nat.zero_le _, rfl, rfl, Nat.zero_le _, HR, Below.refl _ _⟩
  case round =>
    obtain ⟨k, T, hk, rfl, rfl, hTz, HG, HB⟩ := hrel
    have F1 : IntKind.i64.wrap ((k : Int) + 1) = (k : Int) + 1 := by rw [IntKind.wrap_i64]; omega
    have F2 : IntKind.i64.wrap ((k : Int) + 2) = (k : Int) + 2 := by rw [IntKind.wrap_i64]; omega
    have F3 : IntKind.i64.wrap ((k : Int) + 3) = (k : Int) + 3 := by rw [IntKind.wrap_i64]; omega
    have F4 : IntKind.i64.wrap ((k : Int) + 2 + 1) = (k : Int) + 2 + 1 := by rw [IntKind.wrap_i64]; omega
    have hn : s.size = n := HN.out
    by_cases hlt : k < n
    · have hlt' : (k : Int) < (n : Int) := by omega
      obtain ⟨d, y, hd, hy, hy2, S1⟩ := run_byte s k (by rw [hn]; exact hlt)
      have e37 := byte_is d y hy 37 (by decide)
      rw [show ((37 : Nat) : Int) = 37 from rfl] at e37
      have R1 := run_slice_str s k (k + 1) ((k : Int) + 1) (by omega) (by omega) (by omega)
      rw [show s.extract k (k + 1) = strL [d] by
        rw [part_of s k (k + 1) (by omega) (by omega), cons_at _ k d hd]
        congr 1
        rw [show k + 1 - k = 1 by omega]; rfl] at R1
      have hz1 : (strL [d]).size = 1 := strL_size _
      have hz : T.size + (strL [d]).size ≤ 100000000 := by omega
      have hz2 : (T ++ strL [d]).size ≤ k + 1 := by rw [ByteArray.size_append]; omega
      have HPL := Lib.hid (fun (h : pctS 0 (s.data.toList.drop k) = d :: pctS 0 (s.data.toList.drop (k + 1))) => show (T ++ strL [d]).data.toList ++ pctS 0 (s.data.toList.drop (k + 1)) = R by
        rw [← HG.out, h, list_append, strL_list, List.append_assoc]; rfl)
      by_cases h37 : d = 37
      · rw [show decide (d = UInt8.ofNat 37) = true from decide_eq_true h37] at e37
        by_cases h2 : k + 2 < n
        · have h2' : (k : Int) + 2 < (n : Int) := by omega
          have R2 := run_slice_str s (k + 1) (k + 3) ((k : Int) + 3) (by omega) (by omega) (by omega)
          have hX : (s.extract (k + 1) (k + 3)).data.toList = (s.data.toList.drop (k + 1)).take 2 := by
            rw [part_of s (k + 1) (k + 3) (by omega) (by omega), strL_list]
            rw [show k + 3 - (k + 1) = 2 by omega]
          have hXz : (s.extract (k + 1) (k + 3)).size = 2 := by rw [ByteArray.size_extract]; omega
          have cU := fun W => HU.out (s.extract (k + 1) (k + 3)) hXz W
          rw [hX, hex2_take] at cU
          generalize s.extract (k + 1) (k + 3) = X at R2 cU
          rw [show ((k + 1 : Nat) : Int) = (k : Int) + 1 by omega] at R2
          cases hh : hex2 (s.data.toList.drop (k + 1)) with
          | none =>
            rw [hh] at cU
            have HG2 := Lib.hid (HPL.out (pct_no hd hh))
            generalize strL [d] = Z at R1 hz1 hz hz2 HG2
            clear hh hX hXz hd hy HG HPL h37 hz1
            go_wp2_with (go_at_call 161; (with_reducible refine (cU _).mono ?_); rintro e w2 ⟨V, rfl, _, hb2⟩; have HB2 := Lib.hid (HB.out.trans (hb2.mono HB.out.size)); clear hb2 cU)
            go_roundw
            case rel => exact ⟨k + 1, _, by omega, rfl, by go_num, hz2, HG2, HB2⟩
            case measure => simp [intOf]; omega
          | some b =>
            rw [hh] at cU
            have hyes := pct_yes (h37 ▸ hd) hh
            have HG2 := Lib.hid (show (T ++ strL [b]).data.toList ++ pctS 0 (s.data.toList.drop (k + 3)) = R by rw [← HG.out, hyes, list_append, strL_list, List.append_assoc]; rfl)
            have hbz : (strL [b]).size = 1 := strL_size _
            have hz3 : T.size + (strL [b]).size ≤ 100000000 := by omega
            have hz4 : (T ++ strL [b]).size ≤ k + 3 := by rw [ByteArray.size_append]; omega
            have HV := Lib.hid (fun (V : ByteArray) (h : ∀ c, some b = some c → V = strL [c]) => h b rfl)
            generalize strL [b] = Z at hbz hz3 hz4 HG2 HV
            clear hh hX hXz hd hy HG HPL h37 hz1 hz hz2 hyes hbz
            go_wp2_with (go_at_call 161; (with_reducible refine (cU _).mono ?_); rintro e w2 ⟨V, rfl, hv, hb2⟩; have hv2 := HV.out V hv; subst hv2; have HB2 := Lib.hid (HB.out.trans (hb2.mono HB.out.size)); clear hb2 cU hv)
            go_roundw
            case rel => exact ⟨k + 3, _, by omega, rfl, by go_num, hz4, HG2, HB2⟩
            case measure => simp [intOf]; omega
        · have h2' : ¬ (k : Int) + 2 < (n : Int) := by omega
          have hsh : hex2 (s.data.toList.drop (k + 1)) = none := hex2_short (by rw [List.length_drop, ← HL.out, hn]; omega)
          have HG2 := Lib.hid (HPL.out (pct_no hd hsh))
          generalize strL [d] = Z at R1 hz1 hz hz2 HG2
          clear hsh hd hy HG HPL h37 hz1
          go_wp2_with fail
          go_roundw
          case rel => exact ⟨k + 1, _, by omega, rfl, by go_num, hz2, HG2, HB⟩
          case measure => simp [intOf]; omega
      · rw [show decide (d = UInt8.ofNat 37) = false from decide_eq_false h37] at e37
        have HG2 := Lib.hid (HPL.out (pct_plain hd h37))
        generalize strL [d] = Z at R1 hz1 hz hz2 HG2
        clear hd hy HG HPL h37 hz1
        go_wp2_with fail
        go_roundw
        case rel => exact ⟨k + 1, _, by omega, rfl, by go_num, hz2, HG2, HB⟩
        case measure => simp [intOf]; omega
    · obtain rfl : k = n := by omega
      have hlt' : ¬ (k : Int) < (k : Int) := by omega
      have hg := HG.out
      rw [List.drop_eq_nil_of_le (by rw [← HL.out, hn]; exact Nat.le_refl _), pctS, List.append_nil] at hg
      have HT := Lib.hid (show T = strL R by rw [← hg, strL_of])
      clear hg HG
      go_wp2_with fail
      go_ret
      exact ⟨congrArg (fun z => Ending.returned (Value.string z)) HT.out, HB.out⟩
end Go.Proofs.YtdinachiiimngaaGreatDoor
namespace Go.Proofs.YtdinachiiimngaaGreatDoor.Nu
open Go.ChangeShapes Go.WideShapes Go.ChangeAt Go.RowKit

/-- The byte that the digits at 2t and 2t + 1 spell. -/
def byteAt (l : List UInt8) (t : Nat) : UInt8 := UInt8.ofNat (16 * dig (l.getD (2 * t) 0).toNat + dig (l.getD (2 * t + 1) 0).toNat)
/-- The first j bytes. -/
def bytesTo (l : List UInt8) (j : Nat) : List UInt8 := (List.range j).map (byteAt l)
/-- Are the first n bytes hexadecimal digits? -/
def digsTo (l : List UInt8) (n : Nat) : Prop := ∀ t, t < n → dig (l.getD t 0).toNat < 16
/-- May l be decoded? -/
def unhexOk (l : List UInt8) : Bool := decide (l.length % 2 = 0) && l.all fun c => decide (dig c.toNat < 16)
/-- What is decoded; nothing if it may not be decoded. -/
def unhexS (l : List UInt8) : List UInt8 := if unhexOk l = true then bytesTo l (l.length / 2) else []

set_option maxRecDepth 100000 in
theorem bytesTo_length (l : List UInt8) (j : Nat) : (bytesTo l j).length = j := by simp [bytesTo]
set_option maxRecDepth 100000 in
theorem bytesTo_succ (l : List UInt8) (j : Nat) : bytesTo l (j + 1) = bytesTo l j ++ [byteAt l j] := by simp [bytesTo, List.range_succ]
set_option maxRecDepth 100000 in
theorem getD_byte (s : ByteArray) (k : Nat) (h : k < s.size) : s.data.toList.getD k 0 = s[k] := by
  rw [List.getD_eq_getElem?_getD, List.getElem?_eq_getElem (by simpa using h)]; rfl
set_option maxRecDepth 100000 in
theorem unhexOk_odd {l : List UInt8} (h : ¬ l.length % 2 = 0) : unhexOk l = false := by simp [unhexOk, h]
set_option maxRecDepth 100000 in
theorem unhexOk_all {l : List UInt8} (h : l.length % 2 = 0) (ha : digsTo l l.length) : unhexOk l = true := by
  simp only [unhexOk, h, decide_true, Bool.true_and, List.all_eq_true, decide_eq_true_eq]
  intro c hc
  obtain ⟨t, ht, rfl⟩ := List.getElem_of_mem hc
  have := ha t ht
  rwa [List.getD_eq_getElem?_getD, List.getElem?_eq_getElem ht] at this
set_option maxRecDepth 100000 in
theorem unhexOk_bad {l : List UInt8} {t : Nat} (ht : t < l.length) (h : ¬ dig (l.getD t 0).toNat < 16) : unhexOk l = false := by
  rw [Bool.eq_false_iff]
  intro hh
  simp only [unhexOk, Bool.and_eq_true, List.all_eq_true, decide_eq_true_eq] at hh
  refine h ?_
  rw [List.getD_eq_getElem?_getD, List.getElem?_eq_getElem ht]
  exact hh.2 _ (List.getElem_mem ht)
set_option maxRecDepth 100000 in
theorem digsTo_two {l : List UInt8} {j : Nat} (h : digsTo l (2 * j)) (h1 : dig (l.getD (2 * j) 0).toNat < 16) (h2 : dig (l.getD (2 * j + 1) 0).toNat < 16) : digsTo l (2 * (j + 1)) := by
  intro t ht
  rcases (show t < 2 * j ∨ t = 2 * j ∨ t = 2 * j + 1 by omega) with hh | rfl | rfl
  · exact h t hh
  · exact h1
  · exact h2
set_option maxRecDepth 100000 in
theorem dig_le (c : Nat) : dig c ≤ 16 := by unfold dig; (repeat' split) <;> omega

set_option maxRecDepth 100000 in
theorem unhexR_odd (s : ByteArray) (hs : s.size ≤ 1000) (ho : ¬ s.size % 2 = 0) (w : World) :
    Calls Tryz.prog 161 #[.string s] w fun e w' => e = .returned (.tuple #[.string ⟨(unhexS s.data.toList).toArray⟩, .bool (unhexOk s.data.toList)]) ∧ Below w.heap.size w w' := by
  have hk : unhexOk s.data.toList = false := unhexOk_odd (by simpa using ho)
  have hu : unhexS s.data.toList = [] := by simp [unhexS, hk]
  rw [hk, hu]
  have h1 : ((s.size : Int) % 2 != 0) = true := by rw [bne_iff_ne]; omega
  go_enter Tryz.func161, Tryz.ntmps161
  go_wp2_with fail
  go_ret2
  exact ⟨rfl, Below.refl _ _⟩

set_option maxRecDepth 100000 in
theorem unhexR_even (s : ByteArray) (hs : s.size ≤ 1000) (ho : s.size % 2 = 0) (w : World) :
    Calls Tryz.prog 161 #[.string s] w fun e w' => e = .returned (.tuple #[.string ⟨(unhexS s.data.toList).toArray⟩, .bool (unhexOk s.data.toList)]) ∧ Below w.heap.size w w' := by
  have h1 : ((s.size : Int) % 2 != 0) = false := by rw [bne_eq_false_iff_eq]; omega
  have ho' : s.data.toList.length % 2 = 0 := by simpa using ho
  have HO := Lib.hid ho
  have HO' := Lib.hid ho'
  clear ho ho'
  obtain ⟨i0, hi, hz0, hz1, hz2⟩ := info_parts info5
  go_enter Tryz.func161, Tryz.ntmps161
  go_wp2_with fail
  go_loopw [4, 5] (fun v i wr => ∃ j : Nat, 2 * j ≤ s.size ∧ i = .int .i64 (2 * (j : Int)) ∧ Hid (digsTo s.data.toList (2 * j)) ∧
      wr.ownsRow w.heap.size 5 1 v j (cellsOf (bytesTo s.data.toList j)) ∧ Below w.heap.size w wr)
    (fun _ i _ => s.size - (intOf i).toNat)
  case atStart => exact ⟨0, Nat.zero_le _, rfl, fun t ht => by omega, World.ownsRow_nil _ _ _ _, Below.refl _ _⟩
  case round =>
    obtain ⟨j, hj, rfl, hd, hown, hbel⟩ := hrel
    by_cases hlt : 2 * j < s.size
    · have hlt2 : 2 * j + 1 < s.size := by have := HO.out; omega
      by_cases ha : dig s[2 * j].toNat < 16
      · have ha' : ((dig s[2 * j].toNat : Nat) : Int) < 16 := by omega
        have ha1 : (((dig s[2 * j].toNat : Nat) : Int) == 16) = false := beq_eq_false_iff_ne.2 (by omega)
        by_cases hb : dig s[2 * j + 1].toNat < 16
        · have hb' : ((dig s[2 * j + 1].toNat : Nat) : Int) < 16 := by omega
          have hb1 : (((dig s[2 * j + 1].toNat : Nat) : Int) == 16) = false := beq_eq_false_iff_ne.2 (by omega)
          have hD := digsTo_two hd.out (by rw [getD_byte s _ hlt]; exact ha) (by rw [getD_byte s _ hlt2]; exact hb)
          have HD := Lib.hid hD
          have hq : 16 * ((dig s[2 * j].toNat : Nat) : Int) + ((dig s[2 * j + 1].toNat : Nat) : Int) = ((byteAt s.data.toList j).toNat : Int) := by
            unfold byteAt
            rw [getD_byte s _ hlt, getD_byte s _ hlt2, UInt8.toNat_ofNat']; omega
          have hsz := hbel.size
          clear ha hb hD hd
          go_wp2_with (first
            | (go_at_call 191; refine (digitR_any _ (UInt8.toNat_lt _) _).mono ?_; rintro e w' ⟨rfl, rfl⟩)
            | (at_builtin; (refine wpList_append_own _ rfl (.tmp 33) (.tmp 39) 59 rfl w.heap.size 5 i0 (.int .u8 0) 1 1 Tryz.underlying59 hi hz0 hz1 hz2 rfl (by decide) _ j (cellsOf (bytesTo s.data.toList j)) rfl (hown.alloc _) ⟨wr.heap.size, 0, none⟩ 1 1 (cellsOf [byteAt s.data.toList j]) rfl rfl (bytes_new _ [_]) (cellsOf_one _) (by unfold maxLen; omega) (by omega) (by simp; omega) ?_; intro v2 w2 hown2 hgrow2 hnil2)))
          go_roundw
          case rel =>
            exact ⟨j + 1, by omega, by go_num, HD.out, by rw [bytesTo_succ]; unfold cellsOf at hown2 ⊢; rw [List.map_append]; exact hown2, (hbel.alloc hbel.size _).grown hgrow2 (by have := hbel.size; simp; omega) (fun k h => (hown.lt k h).1)⟩
          case measure => simp [intOf]; omega
        · have hb1 : (((dig s[2 * j + 1].toNat : Nat) : Int) == 16) = true := beq_iff_eq.2 (by have := dig_le s[2 * j + 1].toNat; omega)
          have hk : unhexOk s.data.toList = false := unhexOk_bad (t := 2 * j + 1) (by simpa using hlt2) (by rw [getD_byte s _ hlt2]; exact hb)
          have hu : unhexS s.data.toList = [] := by simp [unhexS, hk]
          have HK := Lib.hid hk
          have HU := Lib.hid hu
          clear ha hb hk hu
          go_wp2_with (go_at_call 191; refine (digitR_any _ (UInt8.toNat_lt _) _).mono ?_; rintro e w' ⟨rfl, rfl⟩)
          go_ret2
          rw [HK.out, HU.out]
          exact ⟨rfl, hbel⟩
      · have ha1 : (((dig s[2 * j].toNat : Nat) : Int) == 16) = true := beq_iff_eq.2 (by have := dig_le s[2 * j].toNat; omega)
        have hk : unhexOk s.data.toList = false := unhexOk_bad (t := 2 * j) (by simpa using hlt) (by rw [getD_byte s _ hlt]; exact ha)
        have hu : unhexS s.data.toList = [] := by simp [unhexS, hk]
        have HK := Lib.hid hk
        have HU := Lib.hid hu
        clear ha hk hu
        go_wp2_with (go_at_call 191; refine (digitR_any _ (UInt8.toNat_lt _) _).mono ?_; rintro e w' ⟨rfl, rfl⟩)
        go_ret2
        rw [HK.out, HU.out]
        exact ⟨rfl, hbel⟩
    · have hj2 : 2 * j = s.size := by omega
      have hk : unhexOk s.data.toList = true := unhexOk_all HO'.out (by have := hd.out; rw [hj2] at this; simpa using this)
      have hu : unhexS s.data.toList = bytesTo s.data.toList j := by
        rw [unhexS, if_pos hk]; congr 1; simp; omega
      have hcv := conv_any (bytesTo_length _ _) hown
      have HK := Lib.hid hk
      have HU := Lib.hid hu
      clear hk hu hj2 hd
      go_wp2_with fail
      go_ret2
      rw [HK.out, HU.out]
      exact ⟨rfl, hbel⟩

set_option maxRecDepth 100000 in
theorem unhexR_any (s : ByteArray) (hs : s.size ≤ 1000) (w : World) :
    Calls Tryz.prog 161 #[.string s] w fun e w' => e = .returned (.tuple #[.string ⟨(unhexS s.data.toList).toArray⟩, .bool (unhexOk s.data.toList)]) ∧ Below w.heap.size w w' := by
  by_cases h : s.size % 2 = 0
  · exact unhexR_even s hs h w
  · exact unhexR_odd s hs h w
end Go.Proofs.YtdinachiiimngaaGreatDoor.Nu
namespace Go.Proofs.YtdinachiiimngaaGreatDoor.Nu
open Go.ChangeShapes Go.WideShapes Go.ChangeAt Go.RowKit

/-- The captured variable: a block of one cell. -/
def Flag (w : World) (b : Nat) (v : Bool) : Prop := w.heap[b]? = some (.cells #[.bool v] 4 (0, 0))
set_option maxRecDepth 100000 in
theorem closure_flag (c : Nat) (hc : c < 256) (b : Nat) (v : Bool) (w : World) (hb : Flag w b v) :
    Calls Tryz.prog 181 #[.int .u8 c, .pointer (some ⟨b, 0, none⟩)] w fun e w' => e = .returned (.int .u8 (digv c)) ∧ Flag w' b (v && decide (dig c < 16)) ∧ w.grownBy w' (some b) := closure_any c hc b v w hb
set_option maxRecDepth 100000 in
theorem digv_lt (c : Nat) : digv c < 16 := by unfold digv; split <;> omega
/-- The byte that the digits at 2t and 2t + 1 spell, a byte that is no digit counting 0. -/
def byteV (l : List UInt8) (t : Nat) : UInt8 := UInt8.ofNat (16 * digv (l.getD (2 * t) 0).toNat + digv (l.getD (2 * t + 1) 0).toNat)
def bytesV (l : List UInt8) (j : Nat) : List UInt8 := (List.range j).map (byteV l)
set_option maxRecDepth 100000 in
theorem bytesV_length (l : List UInt8) (j : Nat) : (bytesV l j).length = j := by simp [bytesV]
set_option maxRecDepth 100000 in
theorem bytesV_succ (l : List UInt8) (j : Nat) : bytesV l (j + 1) = bytesV l j ++ [byteV l j] := by simp [bytesV, List.range_succ]
set_option maxRecDepth 100000 in
theorem bytesV_eq {l : List UInt8} {j : Nat} (h : digsTo l (2 * j)) : bytesV l j = bytesTo l j := by
  unfold bytesV bytesTo
  refine List.map_congr_left fun t ht => ?_
  have ht' := List.mem_range.1 ht
  unfold byteV byteAt digv
  rw [if_pos (h (2 * t) (by omega)), if_pos (h (2 * t + 1) (by omega))]

/-- What the loop keeps: the captured variable, the row that is filled, all older memory. -/
structure St (W0 : World) (B : Nat) (w : World) (v : Bool) (sl : Value) (j : Nat) (xs : List Value) : Prop where
  flag : Flag w B v
  own : w.ownsRow (B + 1) 5 1 sl j xs
  far : sl.ownBlock ≠ some B
  bel : Below B W0 w
set_option maxRecDepth 100000 in
theorem St.drew {W0 w : World} {B : Nat} {v : Bool} {sl : Value} {j : Nat} {xs : List Value} (h : St W0 B w v sl j xs) : St W0 B w.drew v sl j xs := ⟨h.flag, h.own.drew, h.far, h.bel.drew⟩
set_option maxRecDepth 100000 in
theorem St.lt {W0 w : World} {B : Nat} {v : Bool} {sl : Value} {j : Nat} {xs : List Value} (h : St W0 B w v sl j xs) : B < w.heap.size := lt_of_block (show w.heap[B]? = some (.cells #[.bool v] 4 (0, 0)) from h.flag)
set_option maxRecDepth 100000 in
theorem St.after {W0 w w4 : World} {B : Nat} {v : Bool} {sl : Value} {j : Nat} {xs : List Value} {o : Obj} (h : St W0 B w v sl j xs) (hg : (w.alloc o).grownBy w4 (some (B + 1))) : Flag w4 B v ∧ Below B W0 w4 := by
  have hlt := h.lt
  refine ⟨?_, (h.bel.alloc (by omega) o).grown hg (by simp; omega) (fun k hk => by cases hk; omega)⟩
  unfold Flag
  rw [hg.block B (by simp; omega) (by simp), Below.heap_alloc _ _ _ hlt]
  exact h.flag
set_option maxRecDepth 100000 in
theorem closure_st (c : Nat) (hc : c < 256) {W0 : World} {B : Nat} {v : Bool} {sl : Value} {j : Nat} {xs : List Value} (w : World) (h : St W0 B w v sl j xs) :
    Calls Tryz.prog 181 #[.int .u8 c, .pointer (some ⟨B, 0, none⟩)] w fun e w' => e = .returned (.int .u8 (digv c)) ∧ St W0 B w' (v && decide (dig c < 16)) sl j xs := by
  refine (closure_any c hc B v w h.flag).mono fun e w' ⟨he, hf, hg⟩ => ⟨he, hf, h.own.kept hg (.inr h.far), h.far, h.bel.grown hg (Nat.le_of_lt h.lt) (fun k hk => by cases hk; exact Nat.le_refl _)⟩
set_option maxRecDepth 100000 in
theorem or_digits : ∀ x y : Fin 16, bits .or .u8 ((x.val : Int) * 16) (y.val : Int) = 16 * (x.val : Int) + (y.val : Int) := by decide +kernel
set_option maxRecDepth 100000 in
theorem run_index_str (s : ByteArray) (x : Int) (n : Nat) (hx : x = n) (h : n < s.size) (W : World) :
    (Instr.index 9 (.string s) (.int .i64 x)).run Tryz.prog W = .ok (.int .u8 (s[n].toNat : Int)) W := by
  subst hx
  go_simp
set_option maxRecDepth 100000 in
theorem unhex_odd (s : ByteArray) (hs : s.size ≤ 1000) (ho : ¬ s.size % 2 = 0) (w : World) :
    Calls Tryz.prog 151 #[.string s] w fun e w' => e = .returned (.tuple #[.string ⟨(unhexS s.data.toList).toArray⟩, .bool (unhexOk s.data.toList)]) ∧ Below w.heap.size w w' := by
  have hk : unhexOk s.data.toList = false := unhexOk_odd (by simpa using ho)
  have hu : unhexS s.data.toList = [] := by simp [unhexS, hk]
  rw [hk, hu]
  have h1 : ((s.size : Int) % 2 != 0) = true := by rw [bne_iff_ne]; omega
  go_enter Tryz.func151, Tryz.ntmps151
  go_wp2_with fail
  go_ret2
  exact ⟨rfl, Below.refl _ _⟩

set_option maxRecDepth 100000 in
theorem ok_step {s : ByteArray} {j : Nat} (h : digsTo s.data.toList (2 * j)) (h1 : 2 * j < s.size) (h2 : 2 * j + 1 < s.size) :
    (((true && decide (dig s[2 * j].toNat < 16)) && decide (dig s[2 * j + 1].toNat < 16)) = true → digsTo s.data.toList (2 * (j + 1))) ∧
    (((true && decide (dig s[2 * j].toNat < 16)) && decide (dig s[2 * j + 1].toNat < 16)) = false → unhexOk s.data.toList = false) := by
  constructor
  · intro hh
    simp only [Bool.true_and, Bool.and_eq_true, decide_eq_true_eq] at hh
    exact digsTo_two h (by rw [getD_byte s _ h1]; exact hh.1) (by rw [getD_byte s _ h2]; exact hh.2)
  · intro hh
    simp only [Bool.true_and, Bool.and_eq_false_iff, decide_eq_false_iff_not] at hh
    rcases hh with hh | hh
    · exact unhexOk_bad (t := 2 * j) (by simpa using h1) (by rw [getD_byte s _ h1]; exact hh)
    · exact unhexOk_bad (t := 2 * j + 1) (by simpa using h2) (by rw [getD_byte s _ h2]; exact hh)

set_option maxRecDepth 100000 in
set_option maxHeartbeats 1600000 in
theorem unhex_even (s : ByteArray) (hs : s.size ≤ 1000) (m : Nat) (ho : s.size = 2 * m) (w : World) :
    Calls Tryz.prog 151 #[.string s] w fun e w' => e = .returned (.tuple #[.string ⟨(unhexS s.data.toList).toArray⟩, .bool (unhexOk s.data.toList)]) ∧ Below w.heap.size w w' := by
  have h1 : ((s.size : Int) % 2 != 0) = false := by rw [bne_eq_false_iff_eq]; omega
  have HO := Lib.hid ho
  clear ho
  obtain ⟨i0, hi, hz0, hz1, hz2⟩ := info_parts info5
  go_enter Tryz.func151, Tryz.ntmps151
  go_wp2_with (at_make; refine wpList_make_own _ rfl _ _ 59 rfl (w.heap.size + 1) 5 i0 (.int .u8 0) 1 Tryz.underlying59 hi hz0 hz1 _ _ _ m rfl rfl (by have := HO.out; omega) ?b1 ?b2 ?b3 ?_)
  case b1 => rw [hz2]; have := HO.out; omega
  case b2 => unfold maxLen; have := HO.out; omega
  case b3 => simp
  intro w1 hown hgrow
  go_wp2_with fail
  have hf : Flag w1 w.heap.size true := by
    unfold Flag
    rw [hgrow.block w.heap.size (by simp) (by simp)]
    exact heap_alloc_new _ _
  have hb0 : Below w.heap.size w w1 := ((Below.refl _ _).alloc (Nat.le_refl _) _).grown hgrow (by simp) (fun k h => by cases h)
  have hc0 := cell_of_one (show w1.heap[w.heap.size]? = some (.cells #[.bool true] 4 (0, 0)) from hf)
  go_loopw [6, 7] (fun v i wr => ∃ (j : Nat) (ok : Bool), 2 * j ≤ s.size ∧ i = .int .i64 (2 * (j : Int)) ∧ v = .slice (some ⟨w.heap.size + 1, 0, none⟩) j m ∧ Flag wr w.heap.size ok ∧
      Hid ((ok = true → digsTo s.data.toList (2 * j)) ∧ (ok = false → unhexOk s.data.toList = false)) ∧
      wr.ownsRow (w.heap.size + 1) 5 1 (.slice (some ⟨w.heap.size + 1, 0, none⟩) j m) j (cellsOf (bytesV s.data.toList j)) ∧ Below w.heap.size w wr)
    (fun _ i _ => s.size - (intOf i).toNat)
  case atStart => exact ⟨0, true, Nat.zero_le _, rfl, rfl, hf, ⟨fun _ t ht => by omega, fun h => by cases h⟩, hown, hb0⟩
  case round =>
    clear hown hf hb0 hgrow hc0
    obtain ⟨j, ok, hj, rfl, rfl, hf, hd, hown, hbel⟩ := hrel
    have hc := cell_of_one (show wr.heap[w.heap.size]? = some (.cells #[.bool ok] 4 (0, 0)) from hf)
    cases ok with
    | false =>
      have hk := hd.out.2 rfl
      have hu : unhexS s.data.toList = [] := by simp [unhexS, hk]
      have HK := Lib.hid hk
      have HU := Lib.hid hu
      clear hk hu hd
      by_cases hlt : 2 * j < s.size
      all_goals
        go_wp2_with fail
        go_ret2
        rw [HK.out, HU.out]
        exact ⟨rfl, hbel⟩
    | true =>
      by_cases hlt : 2 * j < s.size
      · have hlt2 : 2 * j + 1 < s.size := by have := HO.out; omega
        have HS := Lib.hid (ok_step (hd.out.1 rfl) hlt hlt2)
        clear hd
        have hsz := hbel.size
        go_wp2_with fail
        have r0 := run_index_str s (2 * (j : Int)) (2 * j) (by omega) hlt
        have r1 := run_index_str s (2 * (j : Int) + 1) (2 * j + 1) (by omega) hlt2
        have e1 : IntKind.i64.wrap (2 * (j : Int) + 1) = 2 * (j : Int) + 1 := IntWalk.i64_in _ (by omega)
        have e2 : IntKind.u8.wrap ((digv s[2 * j].toNat : Int) * 16) = (digv s[2 * j].toNat : Int) * 16 := IntWalk.u8_in _ (by have := digv_lt s[2 * j].toNat; omega)
        have e3 : bits .or .u8 ((digv s[2 * j].toNat : Int) * 16) (digv s[2 * j + 1].toNat : Int) = ((byteV s.data.toList j).toNat : Int) := by
          have x := digv_lt s[2 * j].toNat
          have y := digv_lt s[2 * j + 1].toNat
          have := or_digits ⟨_, x⟩ ⟨_, y⟩
          rw [this]
          unfold byteV
          rw [getD_byte s _ hlt, getD_byte s _ hlt2, UInt8.toNat_ofNat']; simp only []; omega
        have st : St w w.heap.size wr true (.slice (some ⟨w.heap.size + 1, 0, none⟩) j m) j (cellsOf (bytesV s.data.toList j)) := ⟨hf, hown, by simp [Value.ownBlock], hbel⟩
        have std := st.drew
        clear hf hown hbel hc
        go_region_law (first
          | (refine step_append_fits rfl (.tmp 26) (.tmp 40) 59 rfl (w.heap.size + 1) 5 i0 1 Tryz.underlying59 hi hz1 (w.heap.size + 1) j m (cellsOf (bytesV s.data.toList j)) rfl (World.ownsRow.alloc (St.own (by assumption)) _) ⟨_, 0, none⟩ 1 1 (cellsOf [byteV s.data.toList j]) rfl rfl (bytes_new _ [_]) (cellsOf_one _) (by have := HO.out; omega) ?_; intro w4 hown4 hgrow4; have hF := St.after (by assumption) hgrow4)
          | (go_simp; go_at_call 181; refine (closure_st _ (UInt8.toNat_lt _) _ (by assumption)).mono ?_; rintro e w2 ⟨rfl, hf2⟩))
        all_goals go_wp2_with fail
        all_goals go_roundw
        all_goals first
          | exact ⟨j + 1, _, by omega, by go_num, rfl, hF.1, HS.out, by rw [bytesV_succ]; unfold cellsOf at hown4 ⊢; rw [List.map_append]; exact hown4, hF.2⟩
          | (simp [intOf]; omega)
      · have hj2 : 2 * j = s.size := by omega
        have hdd := hd.out.1 rfl
        have ho : s.data.toList.length % 2 = 0 := by have := HO.out; simp; omega
        have hk : unhexOk s.data.toList = true := unhexOk_all ho (by have := hdd; rw [hj2] at this; simpa using this)
        have hu : unhexS s.data.toList = bytesV s.data.toList j := by
          rw [unhexS, if_pos hk, bytesV_eq hdd]; congr 1; simp; omega
        have hcv := conv_any (bytesV_length _ _) hown
        have HK := Lib.hid hk
        have HU := Lib.hid hu
        clear hk hu hj2 hd hdd ho
        go_wp2_with fail
        go_ret2
        rw [HK.out, HU.out]
        exact ⟨rfl, hbel⟩
set_option maxRecDepth 100000 in
theorem unhex_any (s : ByteArray) (hs : s.size ≤ 1000) (w : World) :
    Calls Tryz.prog 151 #[.string s] w fun e w' => e = .returned (.tuple #[.string ⟨(unhexS s.data.toList).toArray⟩, .bool (unhexOk s.data.toList)]) ∧ Below w.heap.size w w' := by
  by_cases h : s.size % 2 = 0
  · exact unhex_even s hs (s.size / 2) (by omega) w
  · exact unhex_odd s hs h w
end Go.Proofs.YtdinachiiimngaaGreatDoor.Nu
namespace Go.Proofs.YtdinachiiimngaaGreatDoor

/-- Is n a code point? -/
def cpB (n : Nat) : Bool := decide (n < 55296) || (decide (57344 ≤ n) && decide (n ≤ 1114111))
theorem cp_iff (n : Nat) : cpB n = true ↔ n < 55296 ∨ (57344 ≤ n ∧ n ≤ 1114111) := by simp [cpB]
/-- Its encoding. -/
def encL (n : Nat) : List UInt8 :=
  if n < 128 then [UInt8.ofNat n]
  else if n < 2048 then [UInt8.ofNat (192 + n / 64), UInt8.ofNat (128 + n % 64)]
  else if n < 65536 then [UInt8.ofNat (224 + n / 4096), UInt8.ofNat (128 + n / 64 % 64), UInt8.ofNat (128 + n % 64)]
  else [UInt8.ofNat (240 + n / 262144), UInt8.ofNat (128 + n / 4096 % 64), UInt8.ofNat (128 + n / 64 % 64), UInt8.ofNat (128 + n % 64)]
/-- Does a byte continue an encoding? -/
def contB (b : UInt8) : Bool := decide (128 ≤ b.toNat) && decide (b.toNat < 192)
/-- The code point with whose encoding the bytes begin. -/
def firstS : List UInt8 → Option Nat
  | [] => none
  | b0 :: r =>
    if b0.toNat < 128 then some b0.toNat
    else if b0.toNat < 192 then none
    else if b0.toNat < 224 then match r with
      | b1 :: _ => if contB b1 && decide (128 ≤ (b0.toNat - 192) * 64 + (b1.toNat - 128)) then some ((b0.toNat - 192) * 64 + (b1.toNat - 128)) else none
      | [] => none
    else if b0.toNat < 240 then match r with
      | b1 :: b2 :: _ => if contB b1 && contB b2 && decide (2048 ≤ (b0.toNat - 224) * 4096 + (b1.toNat - 128) * 64 + (b2.toNat - 128)) && cpB ((b0.toNat - 224) * 4096 + (b1.toNat - 128) * 64 + (b2.toNat - 128)) then some ((b0.toNat - 224) * 4096 + (b1.toNat - 128) * 64 + (b2.toNat - 128)) else none
      | _ => none
    else if b0.toNat < 248 then match r with
      | b1 :: b2 :: b3 :: _ => if contB b1 && contB b2 && contB b3 && decide (65536 ≤ (b0.toNat - 240) * 262144 + (b1.toNat - 128) * 4096 + (b2.toNat - 128) * 64 + (b3.toNat - 128)) && cpB ((b0.toNat - 240) * 262144 + (b1.toNat - 128) * 4096 + (b2.toNat - 128) * 64 + (b3.toNat - 128)) then some ((b0.toNat - 240) * 262144 + (b1.toNat - 128) * 4096 + (b2.toNat - 128) * 64 + (b3.toNat - 128)) else none
      | _ => none
    else none

theorem byte_of {b : UInt8} {n : Nat} (h : n = b.toNat) : UInt8.ofNat n = b := by rw [h]; simp
theorem cont_iff (b : UInt8) : contB b = true ↔ 128 ≤ b.toNat ∧ b.toNat < 192 := by simp [contB]
/-- What is found is a code point, and the bytes begin with its encoding. -/
theorem first_some' {l : List UInt8} {n : Nat} (h : firstS l = some n) : cpB n = true ∧ ∃ t, l = encL n ++ t := by
  cases l with
  | nil => simp [firstS] at h
  | cons b0 r =>
    have h0 := b0.toNat_lt
    unfold firstS at h
    simp only at h
    by_cases c1 : b0.toNat < 128
    · rw [if_pos c1] at h
      injection h with h
      subst h
      refine ⟨(cp_iff _).2 (by omega), r, ?_⟩
      rw [encL, if_pos c1, byte_of rfl]; rfl
    · rw [if_neg c1] at h
      by_cases c2 : b0.toNat < 192
      · rw [if_pos c2] at h; cases h
      · rw [if_neg c2] at h
        by_cases c3 : b0.toNat < 224
        · rw [if_pos c3] at h
          cases r with
          | nil => cases h
          | cons b1 r =>
            have h1 := b1.toNat_lt
            simp only at h
            split at h
            · rename_i hc
              injection h with h
              simp only [Bool.and_eq_true, cont_iff, decide_eq_true_eq] at hc
              subst h
              refine ⟨(cp_iff _).2 (by omega), r, ?_⟩
              rw [encL, if_neg (by omega), if_pos (by omega), byte_of (b := b0) (by omega), byte_of (b := b1) (by omega)]; rfl
            · cases h
        · rw [if_neg c3] at h
          by_cases c4 : b0.toNat < 240
          · rw [if_pos c4] at h
            match r, h with
            | [], h => cases h
            | [_], h => cases h
            | b1 :: b2 :: r, h =>
              have h1 := b1.toNat_lt
              have h2 := b2.toNat_lt
              simp only at h
              split at h
              · rename_i hc
                injection h with h
                simp only [Bool.and_eq_true, cont_iff, decide_eq_true_eq] at hc
                obtain ⟨⟨⟨hc1, hc2⟩, hc3⟩, hc4⟩ := hc
                subst h
                refine ⟨hc4, r, ?_⟩
                rw [encL, if_neg (by omega), if_neg (by omega), if_pos (by omega), byte_of (b := b0) (by omega), byte_of (b := b1) (by omega), byte_of (b := b2) (by omega)]; rfl
              · cases h
          · rw [if_neg c4] at h
            by_cases c5 : b0.toNat < 248
            · rw [if_pos c5] at h
              match r, h with
              | [], h => cases h
              | [_], h => cases h
              | [_, _], h => cases h
              | b1 :: b2 :: b3 :: r, h =>
                have h1 := b1.toNat_lt
                have h2 := b2.toNat_lt
                have h3 := b3.toNat_lt
                simp only at h
                split at h
                · rename_i hc
                  injection h with h
                  simp only [Bool.and_eq_true, cont_iff, decide_eq_true_eq] at hc
                  obtain ⟨⟨⟨⟨hc1, hc2⟩, hc3⟩, hc4⟩, hc5⟩ := hc
                  subst h
                  refine ⟨hc5, r, ?_⟩
                  rw [encL, if_neg (by omega), if_neg (by omega), if_neg (by omega), byte_of (b := b0) (by omega), byte_of (b := b1) (by omega), byte_of (b := b2) (by omega), byte_of (b := b3) (by omega)]; rfl
                · cases h
            · rw [if_neg c5] at h; cases h
theorem nat_byte {n : Nat} (h : n < 256) : (UInt8.ofNat n).toNat = n := by rw [UInt8.toNat_ofNat']; omega
/-- A code point's encoding is found, whatever follows. -/
theorem first_enc {n : Nat} (h : cpB n = true) (t : List UInt8) : firstS (encL n ++ t) = some n := by
  have hc := (cp_iff n).1 h
  unfold encL
  by_cases c1 : n < 128
  · rw [if_pos c1, List.singleton_append]
    unfold firstS
    simp only
    rw [nat_byte (by omega), if_pos c1]
  · rw [if_neg c1]
    by_cases c2 : n < 2048
    · rw [if_pos c2]
      simp only [List.cons_append, List.nil_append]
      unfold firstS
      simp only
      rw [nat_byte (by omega), if_neg (by omega), if_neg (by omega), if_pos (by omega)]
      have e : (192 + n / 64 - 192) * 64 + ((UInt8.ofNat (128 + n % 64)).toNat - 128) = n := by rw [nat_byte (by omega)]; omega
      rw [e, if_pos]
      simp only [Bool.and_eq_true, cont_iff, decide_eq_true_eq]
      rw [nat_byte (by omega)]; omega
    · rw [if_neg c2]
      by_cases c3 : n < 65536
      · rw [if_pos c3]
        simp only [List.cons_append, List.nil_append]
        unfold firstS
        simp only
        rw [nat_byte (show 224 + n / 4096 < 256 by omega), if_neg (by omega), if_neg (by omega), if_neg (by omega), if_pos (by omega)]
        have e : (224 + n / 4096 - 224) * 4096 + ((UInt8.ofNat (128 + n / 64 % 64)).toNat - 128) * 64 + ((UInt8.ofNat (128 + n % 64)).toNat - 128) = n := by
          rw [nat_byte (by omega), nat_byte (by omega)]; omega
        rw [e, if_pos]
        simp only [Bool.and_eq_true, cont_iff, decide_eq_true_eq, h, and_true]
        rw [nat_byte (by omega), nat_byte (by omega)]; omega
      · rw [if_neg c3]
        simp only [List.cons_append, List.nil_append]
        unfold firstS
        simp only
        rw [nat_byte (show 240 + n / 262144 < 256 by omega), if_neg (by omega), if_neg (by omega), if_neg (by omega), if_neg (by omega), if_pos (by omega)]
        have e : (240 + n / 262144 - 240) * 262144 + ((UInt8.ofNat (128 + n / 4096 % 64)).toNat - 128) * 4096 + ((UInt8.ofNat (128 + n / 64 % 64)).toNat - 128) * 64 + ((UInt8.ofNat (128 + n % 64)).toNat - 128) = n := by
          rw [nat_byte (by omega), nat_byte (by omega), nat_byte (by omega)]; omega
        rw [e, if_pos]
        simp only [Bool.and_eq_true, cont_iff, decide_eq_true_eq, h, and_true]
        rw [nat_byte (by omega), nat_byte (by omega), nat_byte (by omega)]; omega
theorem enc_len (n : Nat) : 1 ≤ (encL n).length ∧ (encL n).length ≤ 4 := by
  unfold encL
  (repeat' split) <;> simp
theorem enc_ne (n : Nat) : encL n ≠ [] := fun h => by
  have := (enc_len n).1
  rw [h] at this
  simp at this

/-- Decoding from left to right, with fuel. -/
def runesF : Nat → List UInt8 → List Nat
  | 0, _ => []
  | _ + 1, [] => []
  | f + 1, b :: t => match firstS (b :: t) with
    | some n => n :: runesF f ((b :: t).drop (encL n).length)
    | none => 65533 :: runesF f t
def validF : Nat → List UInt8 → Bool
  | 0, _ => true
  | _ + 1, [] => true
  | f + 1, b :: t => match firstS (b :: t) with
    | some n => validF f ((b :: t).drop (encL n).length)
    | none => false
theorem runesF_more : ∀ (f : Nat) (l : List UInt8), l.length ≤ f → runesF f l = runesF l.length l := by
  intro f
  induction f using Nat.strongRecOn with
  | ind f ih =>
    intro l hl
    cases l with
    | nil => cases f <;> rfl
    | cons b t =>
      cases f with
      | zero => simp at hl
      | succ f =>
        simp only [List.length_cons, runesF]
        have hl2 : t.length ≤ f := by simpa using hl
        cases hf : firstS (b :: t) with
        | none => simp only; rw [ih f (by omega) t hl2]
        | some n =>
          simp only
          have hd : ((b :: t).drop (encL n).length).length ≤ t.length := by
            have := (enc_len n).1
            rw [List.length_drop, List.length_cons]; omega
          rw [ih f (by omega) _ (by omega)]
          by_cases e : t.length < f + 1
          · rw [ih t.length e _ hd]
          · omega
theorem validF_more : ∀ (f : Nat) (l : List UInt8), l.length ≤ f → validF f l = validF l.length l := by
  intro f
  induction f using Nat.strongRecOn with
  | ind f ih =>
    intro l hl
    cases l with
    | nil => cases f <;> rfl
    | cons b t =>
      cases f with
      | zero => simp at hl
      | succ f =>
        simp only [List.length_cons, validF]
        have hl2 : t.length ≤ f := by simpa using hl
        cases hf : firstS (b :: t) with
        | none => rfl
        | some n =>
          simp only
          have hd : ((b :: t).drop (encL n).length).length ≤ t.length := by
            have := (enc_len n).1
            rw [List.length_drop, List.length_cons]; omega
          rw [ih f (by omega) _ (by omega)]
          by_cases e : t.length < f + 1
          · rw [ih t.length e _ hd]
          · omega
def runesL (l : List UInt8) : List Nat := runesF l.length l
def validL (l : List UInt8) : Bool := validF l.length l
def repairL (l : List UInt8) : List UInt8 := (runesL l).flatMap encL
theorem runes_nil : runesL [] = [] := rfl
theorem valid_nil : validL [] = true := rfl
theorem runes_enc {n : Nat} (h : cpB n = true) (t : List UInt8) : runesL (encL n ++ t) = n :: runesL t := by
  unfold runesL
  have hf := first_enc h t
  cases e : encL n ++ t with
  | nil => exact absurd (List.append_eq_nil_iff.1 e).1 (enc_ne n)
  | cons b r =>
    rw [e] at hf
    simp only [List.length_cons, runesF, hf]
    rw [← e, List.drop_left]
    congr 1
    refine runesF_more _ _ ?_
    have := congrArg List.length e
    have h1 := (enc_len n).1
    rw [List.length_append, List.length_cons] at this
    omega
theorem runes_none {b : UInt8} {t : List UInt8} (h : firstS (b :: t) = none) : runesL (b :: t) = 65533 :: runesL t := by
  unfold runesL
  simp only [List.length_cons, runesF, h]
theorem valid_enc {n : Nat} (h : cpB n = true) (t : List UInt8) : validL (encL n ++ t) = validL t := by
  unfold validL
  have hf := first_enc h t
  cases e : encL n ++ t with
  | nil => exact absurd (List.append_eq_nil_iff.1 e).1 (enc_ne n)
  | cons b r =>
    rw [e] at hf
    simp only [List.length_cons, validF, hf]
    rw [← e, List.drop_left]
    refine validF_more _ _ ?_
    have := congrArg List.length e
    have h1 := (enc_len n).1
    rw [List.length_append, List.length_cons] at this
    omega
theorem valid_none {b : UInt8} {t : List UInt8} (h : firstS (b :: t) = none) : validL (b :: t) = false := by
  unfold validL
  simp only [List.length_cons, validF, h]
/-- Induction along the decoding. -/
theorem utf_ind {p : List UInt8 → Prop} (h0 : p []) (h1 : ∀ n t, cpB n = true → p t → p (encL n ++ t)) (h2 : ∀ b t, firstS (b :: t) = none → p t → p (b :: t)) : ∀ (k : Nat) (l : List UInt8), l.length ≤ k → p l := by
  intro k
  induction k with
  | zero =>
    intro l hl
    obtain rfl : l = [] := List.eq_nil_of_length_eq_zero (by omega)
    exact h0
  | succ k ih =>
    intro l hl
    cases l with
    | nil => exact h0
    | cons b t =>
      cases hf : firstS (b :: t) with
      | none => exact h2 b t hf (ih t (by simpa using hl))
      | some n =>
        obtain ⟨hc, r, hr⟩ := first_some' hf
        rw [hr]
        refine h1 n r hc (ih r ?_)
        have h3 := congrArg List.length hr
        have h4 := (enc_len n).1
        rw [List.length_append] at h3
        omega
theorem utf_all {p : List UInt8 → Prop} (h0 : p []) (h1 : ∀ n t, cpB n = true → p t → p (encL n ++ t)) (h2 : ∀ b t, firstS (b :: t) = none → p t → p (b :: t)) (l : List UInt8) : p l := utf_ind h0 h1 h2 l.length l (Nat.le_refl _)

theorem cp_bad : cpB 65533 = true := by decide
theorem runes_cp (l : List UInt8) : ∀ n ∈ runesL l, cpB n = true := by
  refine utf_all (p := fun l => ∀ n ∈ runesL l, cpB n = true) (by intro n h; simp [runes_nil] at h) ?_ ?_ l
  · intro m t hm ih n hn
    rw [runes_enc hm] at hn
    rcases List.mem_cons.1 hn with rfl | hn
    · exact hm
    · exact ih n hn
  · intro b t hf ih n hn
    rw [runes_none hf] at hn
    rcases List.mem_cons.1 hn with rfl | hn
    · exact cp_bad
    · exact ih n hn
/-- Encodings, joined, are read as what they encode, whatever follows. -/
theorem runes_flat : ∀ (ns : List Nat), (∀ n ∈ ns, cpB n = true) → ∀ t, runesL (ns.flatMap encL ++ t) = ns ++ runesL t
  | [], _, t => by simp
  | n :: ns, h, t => by
    rw [List.flatMap_cons, List.append_assoc, runes_enc (h n (by simp)), runes_flat ns (fun m hm => h m (by simp [hm]))]; rfl
theorem valid_flat : ∀ (ns : List Nat), (∀ n ∈ ns, cpB n = true) → ∀ t, validL (ns.flatMap encL ++ t) = validL t
  | [], _, t => by simp
  | n :: ns, h, t => by
    rw [List.flatMap_cons, List.append_assoc, valid_enc (h n (by simp)), valid_flat ns (fun m hm => h m (by simp [hm]))]
/-- What is repaired is read as before, also with more behind it. -/
theorem runes_repair (l t : List UInt8) : runesL (repairL l ++ t) = runesL l ++ runesL t := runes_flat _ (runes_cp l) t
theorem valid_repair (l t : List UInt8) : validL (repairL l ++ t) = validL t := valid_flat _ (runes_cp l) t
theorem runes_repair' (l : List UInt8) : runesL (repairL l) = runesL l := by
  have := runes_repair l []
  rw [List.append_nil, runes_nil, List.append_nil] at this
  exact this
theorem valid_repair' (l : List UInt8) : validL (repairL l) = true := by
  have := valid_repair l []
  rw [List.append_nil] at this
  exact this
theorem repair_repair (l t : List UInt8) : repairL (repairL l ++ t) = repairL l ++ repairL t := by
  unfold repairL
  rw [show runesL ((runesL l).flatMap encL ++ t) = runesL l ++ runesL t from runes_repair l t, List.flatMap_append]
theorem repair_fixed (l : List UInt8) : repairL (repairL l) = repairL l := by
  unfold repairL
  rw [show runesL ((runesL l).flatMap encL) = runesL l from runes_repair' l]
theorem repair_valid (l : List UInt8) : validL l = true → repairL l = l := by
  refine utf_all (p := fun l => validL l = true → repairL l = l) (fun _ => rfl) ?_ ?_ l
  · intro n t hn ih h
    rw [valid_enc hn] at h
    unfold repairL at ih ⊢
    rw [runes_enc hn, List.flatMap_cons, ih h]
  · intro b t hf _ h
    rw [valid_none hf] at h
    cases h
/-- A string is as its repair just if it is valid. -/
theorem repair_same (l : List UInt8) : repairL l = l ↔ validL l = true :=
  ⟨fun h => by rw [← h]; exact valid_repair' l, repair_valid l⟩
theorem runes_len (l : List UInt8) : (runesL l).length ≤ l.length ∧ l.length ≤ 4 * (runesL l).length := by
  refine utf_all (p := fun l => (runesL l).length ≤ l.length ∧ l.length ≤ 4 * (runesL l).length) (by simp [runes_nil]) ?_ ?_ l
  · intro n t hn ih
    have := enc_len n
    rw [runes_enc hn, List.length_append, List.length_cons]; omega
  · intro b t hf ih
    rw [runes_none hf, List.length_cons, List.length_cons]; omega
theorem enc_bad_len : (encL 65533).length = 3 := by decide
theorem repair_len (l : List UInt8) : (repairL l).length ≤ 3 * l.length := by
  refine utf_all (p := fun l => (repairL l).length ≤ 3 * l.length) (by simp [repairL, runes_nil]) ?_ ?_ l
  · intro n t hn ih
    unfold repairL at ih ⊢
    rw [runes_enc hn, List.flatMap_cons, List.length_append, List.length_append]
    omega
  · intro b t hf ih
    unfold repairL at ih ⊢
    rw [runes_none hf, List.flatMap_cons, List.length_append, enc_bad_len, List.length_cons]
    omega
/-- Each prefix of whole code points of a valid string is the string's, and valid. -/
theorem valid_prefix (l : List UInt8) (h : validL l = true) (k : Nat) : ((runesL l).take k).flatMap encL <+: l ∧ validL (((runesL l).take k).flatMap encL) = true := by
  refine ⟨?_, ?_⟩
  · have e := repair_valid l h
    unfold repairL at e
    conv => rhs; rw [← e]
    conv => rhs; rw [← List.take_append_drop k (runesL l), List.flatMap_append]
    exact List.prefix_append _ _
  · have := valid_flat ((runesL l).take k) (fun n hn => runes_cp l n (List.mem_of_mem_take hn)) []
    rw [List.append_nil] at this
    exact this
/-- One code point a byte: nothing is joined where each piece is an encoding. -/
theorem valid_all (ns : List Nat) (h : ∀ n ∈ ns, cpB n = true) : validL (ns.flatMap encL) = true ∧ runesL (ns.flatMap encL) = ns := by
  have h1 := valid_flat ns h []
  have h2 := runes_flat ns h []
  rw [List.append_nil] at h1 h2
  rw [runes_nil, List.append_nil] at h2
  exact ⟨h1, h2⟩
end Go.Proofs.YtdinachiiimngaaGreatDoor
