/- Value: what a token says. The program's assignment: the name and the value that a row gives. The reference's Open and Meant, from what its Unhex, Repair and Decode answer. The program's isLetterOrDigit and isWord. -/
import Derived.Test.YtdinachiiimngaaGreatDoorK6
import Derived.Test.YtdinachiiimngaaGreatDoorK5
namespace Go.Proofs.YtdinachiiimngaaGreatDoor
open Go.ChangeShapes Go.WideShapes Go.ChangeAt Go.RowKit
open TokP

theorem below_new (w w' : World) (o : Obj) (h : Below (w.alloc o).heap.size (w.alloc o) w') : Below w.heap.size w w' := ((Below.refl _ w).alloc (Nat.le_refl _) o).trans (h.mono (by rw [World.size_alloc]; omega))
set_option maxRecDepth 100000 in
set_option maxHeartbeats 2000000 in
theorem value_any (K : Int) (T : ByteArray) (hT : T.size ≤ 4000000) (w : World) :
    Calls Tryz.prog 102 #[.agg #[.int .i64 K, .string T]] w fun e w' => e = .returned (.string (strL (valueI K T.data.toList))) ∧ Below w.heap.size w w' := by
  have cC := fun W => clone_any T W hT
  have hsz := size_list T
  have HB := Lib.hid (below_new w)
  by_cases h2 : 2 ≤ T.size
  · have h2' : ¬ (T.size : Int) < 2 := by omega
    have F1 : IntKind.i64.wrap ((T.size : Int) - 1) = (T.size : Int) - 1 := by rw [IntKind.wrap_i64]; omega
    have R1 : ∀ W : World, (Instr.slice 9 (.string T) (some (.int .i64 1)) (some (.int .i64 ((T.size : Int) - 1))) none).run Tryz.prog W = .ok (.string (T.extract 1 (T.size - 1))) W := run_slice_str T 1 (T.size - 1) ((T.size : Int) - 1) (by omega) (by omega) (by omega)
    rw [inner_is T h2] at R1
    have cU := fun W => unesc_any (strL (T.data.toList.drop 1).dropLast) (by rw [strL_size, List.length_dropLast, List.length_drop, ← hsz]; omega) W
    rw [strL_list] at cU
    by_cases hk2 : K = 2
    · rw [value_yes K _ (.inl hk2) (by rw [← hsz]; exact h2)]
      generalize unescS false (T.data.toList.drop 1).dropLast = V at cU ⊢
      generalize strL (T.data.toList.drop 1).dropLast = U at R1 cU
      subst hk2
      clear hsz cC h2
      go_enter Tryz.func102, Tryz.ntmps102
      go_wp2_with (go_at_call 146; (with_reducible refine (cU _).mono ?_); rintro e w2 ⟨rfl, hb2⟩)
      go_ret
      exact ⟨rfl, HB.out _ _ hb2⟩
    · by_cases hk3 : K = 3
      · rw [value_yes K _ (.inr hk3) (by rw [← hsz]; exact h2)]
        generalize unescS false (T.data.toList.drop 1).dropLast = V at cU ⊢
        generalize strL (T.data.toList.drop 1).dropLast = U at R1 cU
        subst hk3
        clear hsz cC h2 hk2
        go_enter Tryz.func102, Tryz.ntmps102
        go_wp2_with (go_at_call 146; (with_reducible refine (cU _).mono ?_); rintro e w2 ⟨rfl, hb2⟩)
        go_ret
        exact ⟨rfl, HB.out _ _ hb2⟩
      · rw [value_no K _ (fun e => e.1.elim hk2 hk3), strL_of]
        have g2 : (K == 2) = false := beq_eq_false_iff_ne.2 hk2
        have g3 : (K == 3) = false := beq_eq_false_iff_ne.2 hk3
        clear hsz cU R1 h2 hk2 hk3
        go_enter Tryz.func102, Tryz.ntmps102
        go_wp2_with (go_at_call 41; (with_reducible refine (cC _).mono ?_); rintro e w2 ⟨rfl, hb2⟩)
        go_ret
        exact ⟨rfl, HB.out _ _ hb2⟩
  · have h2' : (T.size : Int) < 2 := by omega
    rw [value_no K _ (fun e => h2 (by rw [hsz]; exact e.2)), strL_of]
    clear hsz h2
    by_cases hk2 : K = 2
    · subst hk2
      go_enter Tryz.func102, Tryz.ntmps102
      go_wp2_with (go_at_call 41; (with_reducible refine (cC _).mono ?_); rintro e w2 ⟨rfl, hb2⟩)
      go_ret
      exact ⟨rfl, HB.out _ _ hb2⟩
    · have g2 : (K == 2) = false := beq_eq_false_iff_ne.2 hk2
      by_cases hk3 : K = 3
      · subst hk3
        clear g2 hk2
        go_enter Tryz.func102, Tryz.ntmps102
        go_wp2_with (go_at_call 41; (with_reducible refine (cC _).mono ?_); rintro e w2 ⟨rfl, hb2⟩)
        go_ret
        exact ⟨rfl, HB.out _ _ hb2⟩
      · have g3 : (K == 3) = false := beq_eq_false_iff_ne.2 hk3
        clear hk2 hk3
        go_enter Tryz.func102, Tryz.ntmps102
        go_wp2_with (go_at_call 41; (with_reducible refine (cC _).mono ?_); rintro e w2 ⟨rfl, hb2⟩)
        go_ret
        exact ⟨rfl, HB.out _ _ hb2⟩
end Go.Proofs.YtdinachiiimngaaGreatDoor
namespace Go.Proofs.YtdinachiiimngaaGreatDoor
open Go.ChangeShapes Go.WideShapes Go.ChangeAt Go.RowKit
open TokP AdrP CtP

/-- The name, in lower case, and the value that a row gives. -/
def asgP : List UInt8 → List TokP.Tok → Option (List UInt8 × List UInt8)
  | _, [] => none
  | pre, t :: r => if t.kind = 1 ∧ 61 ∈ t.text then (if (pre ++ upC 61 t.text) = [] then none else some ((pre ++ upC 61 t.text).map lowA, pairV (behind 61 t.text) r)) else asgP (pre ++ t.text) r
theorem pair_asg (num : List UInt8 → Option Nat) : ∀ (l : List TokP.Tok) (pre : List UInt8), pairP num pre l = (asgP pre l).map (fun x => toldP num x.1 x.2)
  | [], _ => rfl
  | t :: r, pre => by
    rw [pairP, asgP]
    split
    · split <;> rfl
    · exact pair_asg num r _
theorem asg_none : ∀ (l : List TokP.Tok) (pre : List UInt8), (∀ u ∈ l, hasEq u = false) → asgP pre l = none
  | [], _, _ => rfl
  | t :: r, pre, h => by
    rw [asgP, if_neg (fun hc => ?_)]
    · exact asg_none r _ (fun u hu => h u (by simp [hu]))
    · have := h t (by simp)
      rw [(hasEq_iff t).2 hc] at this
      exact absurd this (by decide)
theorem asg_at {l : List TokP.Tok} {k : Nat} {t : TokP.Tok} (hk : l[k]? = some t) (ht : hasEq t = true) (h : ∀ i u, i < k → l[i]? = some u → hasEq u = false) :
    asgP [] l = if (joinL (l.take k) ++ upC 61 t.text) = [] then none else some ((joinL (l.take k) ++ upC 61 t.text).map lowA, pairV (behind 61 t.text) (l.drop (k + 1))) := by
  obtain ⟨h1, h2⟩ := List.getElem?_eq_some_iff.1 hk
  have e : l = l.take k ++ t :: l.drop (k + 1) := by rw [← h2, ← List.drop_eq_getElem_cons h1, List.take_append_drop]
  have ha : ∀ u ∈ l.take k, hasEq u = false := fun u hu => by
    obtain ⟨i, hi, rfl⟩ := List.mem_iff_getElem.1 hu
    have hi2 : i < k := by rw [List.length_take] at hi; omega
    refine h i _ hi2 ?_
    rw [List.getElem_take]
    exact List.getElem?_eq_getElem (by omega)
  have hgo : ∀ (A B : List TokP.Tok) (pre : List UInt8), (∀ u ∈ A, hasEq u = false) → asgP pre (A ++ t :: B) = if ((pre ++ joinL A) ++ upC 61 t.text) = [] then none else some (((pre ++ joinL A) ++ upC 61 t.text).map lowA, pairV (behind 61 t.text) B) := by
    intro A
    induction A with
    | nil =>
      intro B pre _
      have hj : joinL ([] : List TokP.Tok) = [] := rfl
      rw [List.nil_append, asgP, if_pos ((hasEq_iff t).1 ht), hj, List.append_nil]
    | cons u A ih =>
      intro B pre hA
      have hj : joinL (u :: A) = u.text ++ joinL A := by unfold joinL; simp
      rw [List.cons_append, asgP, if_neg (fun hc => ?_), ih B _ (fun v hv => hA v (by simp [hv])), hj, List.append_assoc pre]
      have := hA u (by simp)
      rw [(hasEq_iff u).2 hc] at this
      exact absurd this (by decide)
  conv => lhs; rw [e]
  rw [hgo _ _ [] ha, List.nil_append]
theorem str_cmp (l : List UInt8) : (strL l).toList.isEmpty = l.isEmpty ∧ ((strL l).toList == []) = l.isEmpty := by
  rw [ByteArray.toList_eq, strL_list]
  refine ⟨rfl, ?_⟩
  cases l <;> rfl
theorem join_split (l : List TokP.Tok) (k : Nat) (t : TokP.Tok) (h : l[k]? = some t) : (joinL (l.take k)).length + t.text.length + (joinL (l.drop (k + 1))).length = (joinL l).length := by
  obtain ⟨h1, h2⟩ := List.getElem?_eq_some_iff.1 h
  have e : l = l.take k ++ t :: l.drop (k + 1) := by rw [← h2, ← List.drop_eq_getElem_cons h1, List.take_append_drop]
  have hj : joinL l = joinL (l.take k) ++ (t.text ++ joinL (l.drop (k + 1))) := by
    conv => lhs; rw [e]
    unfold joinL; simp
  rw [hj, List.length_append, List.length_append]
  omega
theorem HasT.hasF {w : World} {v : Value} {l : List TokP.Tok} (h : HasT w v l) : HasF w v l := by
  obtain ⟨_, _, _, _, h⟩ := h; exact h
set_option maxRecDepth 100000 in
set_option maxHeartbeats 8000000 in
theorem asg_any {a : Option Addr} {n c : Nat} {l : List TokP.Tok} (hn : n ≤ 4000000) (hj : (joinL l).length ≤ 4000000) (R : Option (List UInt8 × List UInt8)) (hR : asgP [] l = R) (w : World) (h : HasT w (.slice a n c) l) :
    Calls Tryz.prog 68 #[.slice a n c] w fun e w' => e = .returned (.tuple #[.string (strL (R.getD ([], [])).1), .string (strL (R.getD ([], [])).2), .bool R.isSome]) ∧ Below w.heap.size w w' := by
  obtain ⟨hl, hc, hf⟩ := h.cap
  have hw0 := h
  have HH0 := Lib.hid h
  rcases first_ex hasEq l with hno | ⟨k, t, hk, ht, hno⟩
  · obtain rfl : none = R := by rw [← hR, asg_none l [] hno]
    have cX := fun W (h : Hid (HasT W (.slice a n c) l)) => indexE_is h.out (by omega) (-1) (.inl ⟨rfl, hno⟩)
    clear h hl hf hno hj hw0
    go_enter Tryz.func68, Tryz.ntmps68
    go_wp2_with (go_at_call 99; (with_reducible refine (cX _ HH0).mono ?_); rintro e w1 ⟨rfl, hb1⟩; have HB1 := Lib.hid hb1; clear hb1 cX)
    go_ret3
    exact ⟨rfl, HB1.out⟩
  · have hkn : k < n := by rw [hl]; exact (List.getElem?_eq_some_iff.1 hk).1
    have cX := fun W (h : Hid (HasT W (.slice a n c) l)) => indexE_is h.out (by omega) k (.inr ⟨k, t, rfl, hk, ht, hno⟩)
    have hat := asg_at hk ht hno
    rw [hR] at hat
    have hsp := join_split l k t hk
    have hk0 : ¬ (k : Int) < 0 := by omega
    have F1 : IntKind.i64.wrap ((k : Int) + 1) = (k : Int) + 1 := by rw [IntKind.wrap_i64]; omega
    have hknI : (k : Int) < (n : Int) := by omega
    obtain ⟨A1, C1, R1, hT1⟩ := run_sub_to h k (k : Int) rfl (by omega)
    obtain ⟨A2, C2, R2, hT2⟩ := run_sub_from h (k + 1) ((k : Int) + 1) (by omega) (by omega)
    obtain ⟨g, o, rfl, hfa⟩ := hf.at (by omega)
    have HQ := Lib.hid (fun (W : World) (hb : Hid (Below w.heap.size w W)) => hfa.step hb.out k t hk)
    have hz1 : (upC 61 t.text).length ≤ t.text.length := (List.takeWhile_prefix _).length_le
    have hz2 : (behind 61 t.text).length ≤ t.text.length := by unfold behind; rw [List.length_drop]; omega
    have cC := fun W => cut_all 61 (strL t.text) (by rw [strL_size]; omega) W
    rw [strL_list] at cC
    have hln1 : (l.take k).length ≤ 4000000 := by rw [List.length_take]; omega
    have cJ := fun W (hb : Hid (Below w.heap.size w W)) => join_any _ (l.take k) W (hT1.step hb.out).hasF (by omega) hln1
    have hNL : (strL (joinL (l.take k)) ++ strL (upC 61 t.text)).data.toList = joinL (l.take k) ++ upC 61 t.text := by rw [list_append, strL_list, strL_list]
    have hNz : (strL (joinL (l.take k)) ++ strL (upC 61 t.text)).size ≤ 4000000 := by rw [ByteArray.size_append, strL_size, strL_size]; omega
    have hNy : (strL (joinL (l.take k))).size + (strL (upC 61 t.text)).size ≤ 4000000 := by rw [strL_size, strL_size]; omega
    have cL := fun W => lower_any (strL (joinL (l.take k)) ++ strL (upC 61 t.text)) hNz W
    rw [hNL] at cL
    generalize strL (joinL (l.take k)) = J at cJ cL hNL hNz hNy
    generalize strL (upC 61 t.text) = U at cC cL hNL hNz hNy
    generalize joinL (l.take k) ++ upC 61 t.text = NM at hat cL hNL
    have hNz2 : NM.length ≤ 4000000 := by rw [← hNL, ← size_list]; exact hNz
    obtain ⟨hs1, hs2⟩ := str_cmp (NM.map lowA)
    have hne : (NM.map lowA).isEmpty = NM.isEmpty := by cases NM <;> rfl
    rw [hne] at hs1 hs2
    clear hNL hne
    generalize (t.kind : Int) = x0 at HQ
    generalize strL t.text = x1 at HQ cC
    have hcon : t.text.contains 61 = true := by rw [List.contains_iff_mem]; exact ((hasEq_iff t).1 ht).2
    rw [hcon] at cC
    by_cases he : NM = []
    · rw [if_pos he] at hat
      subst hat
      rw [he, List.map_nil] at cL hs1 hs2
      generalize strL (behind 61 t.text) = V at cC
      rw [show strL [] = (⟨#[]⟩ : ByteArray) from rfl] at cL
      clear h hl hw0 hno hk ht hT1 hT2 hfa hR he hsp hz1 hz2 hln1 hNz2 hj hs1 hs2 R2 hcon
      go_enter Tryz.func68, Tryz.ntmps68
      go_wp2_with (first
        | (go_at_call 99; (with_reducible refine (cX _ HH0).mono ?_); rintro e w1 ⟨rfl, hb1⟩; have HB1 := Lib.hid hb1; clear hb1 cX; obtain ⟨q0, q1⟩ := HQ.out w1 HB1)
        | (go_at_call 30; (with_reducible refine (cC _).mono ?_); rintro e w2 ⟨rfl, hb2⟩; have HB2 := Lib.hid (HB1.out.trans (hb2.mono HB1.out.size)); clear hb2 cC)
        | (go_at_call 31; (with_reducible refine (cJ _ HB2).mono ?_); rintro e w3 ⟨rfl, hb3⟩; have HB3 := Lib.hid (HB2.out.trans (hb3.mono HB2.out.size)); clear hb3 cJ)
        | (go_at_call 33; (with_reducible refine (cL _).mono ?_); rintro e w4 ⟨rfl, hb4⟩; have HB4 := Lib.hid (HB3.out.trans (hb4.mono HB3.out.size)); clear hb4 cL))
      go_ret3
      exact ⟨rfl, HB4.out⟩
    · rw [if_neg he] at hat
      have hne : NM.isEmpty = false := by cases NM with
        | nil => exact absurd rfl he
        | cons _ _ => rfl
      rw [hne] at hs1 hs2
      generalize hNMq : strL (NM.map lowA) = NMs at cL hs1 hs2
      obtain ⟨hv1, hv2⟩ := str_cmp (behind 61 t.text)
      have hDl : (l.drop (k + 1)).length = n - (k + 1) := by rw [List.length_drop, hl]
      have hpD : (joinL (l.drop (k + 1))).length ≤ 4000000 := by omega
      have HT2 := Lib.hid hT2
      have HJ1 := Lib.hid hT1
      have cK := fun W (hb : Hid (Below w.heap.size w W)) => join_any _ (l.drop (k + 1)) W (HT2.out.step hb.out).hasF (by omega) (by omega)
      obtain ⟨m, hm⟩ : ∃ m, n - (k + 1) = m := ⟨_, rfl⟩
      rw [hm] at R2 hDl HT2 cK
      clear h hl hT1 hT2 hm HH0
      have HH0 := Lib.hid hw0
      by_cases hV : behind 61 t.text = []
      · rw [show (behind 61 t.text).isEmpty = true by rw [hV]; rfl] at hv1 hv2
        by_cases hmp : 0 < m
        · have hmI : (0 : Int) < (m : Int) := by omega
          obtain ⟨u, hu⟩ : ∃ u, (l.drop (k + 1))[0]? = some u := ⟨_, List.getElem?_eq_getElem (by rw [hDl]; exact hmp)⟩
          obtain ⟨g2, o2, rfl, hfb⟩ := HT2.out.hasF.at hmp
          have HQ2 := Lib.hid (fun (W : World) (hb : Hid (Below w.heap.size w W)) => hfb.step hb.out 0 u hu)
          rw [Nat.zero_mul, Nat.add_zero] at HQ2
          have hcons : l.drop (k + 1) = u :: (l.drop (k + 1)).drop 1 := by
            obtain ⟨h1, h2⟩ := List.getElem?_eq_some_iff.1 hu
            have := List.drop_eq_getElem_cons (l := l.drop (k + 1)) (i := 0) h1
            rw [h2] at this
            exact this
          by_cases hu2 : u.kind = 2
          · have hpv : pairV (behind 61 t.text) (l.drop (k + 1)) = valueL u := by rw [hcons, pairV, if_pos ⟨hV, hu2⟩]
            rw [hpv] at hat
            subst hat
            have hul : u.text.length ≤ 4000000 := by
              have := text_mem (l.drop (k + 1)) u (List.mem_of_getElem? hu)
              omega
            have cV := fun W => value_any (u.kind : Nat) (strL u.text) (by rw [strL_size]; exact hul) W
            rw [strL_list, value_tok] at cV
            have ek : ((u.kind : Nat) : Int) = 2 := by omega
            simp only [ek] at cV HQ2
            show Calls _ _ _ _ fun e w' => e = .returned (.tuple #[.string (strL (NM.map lowA)), .string (strL (valueL u)), .bool true]) ∧ _
            rw [hNMq]
            generalize strL (valueL u) = ANS at cV ⊢
            generalize strL u.text = x2 at cV HQ2
            generalize strL (behind 61 t.text) = V at cC hv1 hv2
            clear hno hk ht hfa hR he hsp hz1 hz2 hln1 hNz2 hj hcon hne hNMq hV hpv hu hu2 hul hfb hcons ek cK
            go_enter Tryz.func68, Tryz.ntmps68
            go_wp2_with (first
              | (go_at_call 99; (with_reducible refine (cX _ HH0).mono ?_); rintro e w1 ⟨rfl, hb1⟩; have HB1 := Lib.hid hb1; clear hb1 cX; obtain ⟨q0, q1⟩ := HQ.out w1 HB1)
              | (go_at_call 30; (with_reducible refine (cC _).mono ?_); rintro e w2 ⟨rfl, hb2⟩; have HB2 := Lib.hid (HB1.out.trans (hb2.mono HB1.out.size)); clear hb2 cC)
              | (go_at_call 31; (with_reducible refine (cJ _ HB2).mono ?_); rintro e w3 ⟨rfl, hb3⟩; have HB3 := Lib.hid (HB2.out.trans (hb3.mono HB2.out.size)); clear hb3 cJ)
              | (go_at_call 33; (with_reducible refine (cL _).mono ?_); rintro e w4 ⟨rfl, hb4⟩; have HB4 := Lib.hid (HB3.out.trans (hb4.mono HB3.out.size)); clear hb4 cL; obtain ⟨r0, r1⟩ := HQ2.out w4 HB4)
              | (go_at_call 102; (with_reducible refine (cV _).mono ?_); rintro e w5 ⟨rfl, hb5⟩; have HB5 := Lib.hid (HB4.out.trans (hb5.mono HB4.out.size)); clear hb5 cV))
            go_ret3
            exact ⟨rfl, HB5.out⟩
          · have hpv : pairV (behind 61 t.text) (l.drop (k + 1)) = behind 61 t.text ++ joinL (l.drop (k + 1)) := by
              conv => lhs; rw [hcons, pairV, if_neg (fun e => hu2 e.2), ← hcons]
            rw [hpv] at hat
            subst hat
            have ek : (((u.kind : Nat) : Int) == 2) = false := beq_eq_false_iff_ne.2 (by omega)
            generalize ((u.kind : Nat) : Int) = x3 at ek HQ2
            show Calls _ _ _ _ fun e w' => e = .returned (.tuple #[.string (strL (NM.map lowA)), .string (strL (behind 61 t.text ++ joinL (l.drop (k + 1)))), .bool true]) ∧ _
            rw [hNMq]
            clear hpv hu hu2 hfb hcons
            have hKz : (strL (behind 61 t.text)).size + (strL (joinL (l.drop (k + 1)))).size ≤ 8000000 := by rw [strL_size, strL_size]; omega
            have HV := Lib.hid (show strL (behind 61 t.text) ++ strL (joinL (l.drop (k + 1))) = strL (behind 61 t.text ++ joinL (l.drop (k + 1))) from strL_append _ _)
            generalize strL (behind 61 t.text ++ joinL (l.drop (k + 1))) = ANS at HV ⊢
            generalize strL (joinL (l.drop (k + 1))) = K at cK HV hKz
            generalize strL (behind 61 t.text) = V at cC HV hKz hv1 hv2
            clear hno hk ht hfa hR he hsp hz1 hz2 hln1 hNz2 hj hcon hne hNMq hV
            go_enter Tryz.func68, Tryz.ntmps68
            go_wp2_with (first
              | (go_at_call 99; (with_reducible refine (cX _ HH0).mono ?_); rintro e w1 ⟨rfl, hb1⟩; have HB1 := Lib.hid hb1; clear hb1 cX; obtain ⟨q0, q1⟩ := HQ.out w1 HB1)
              | (go_at_call 30; (with_reducible refine (cC _).mono ?_); rintro e w2 ⟨rfl, hb2⟩; have HB2 := Lib.hid (HB1.out.trans (hb2.mono HB1.out.size)); clear hb2 cC)
              | (go_at_call 31; (with_reducible refine (cJ _ HB2).mono ?_); rintro e w3 ⟨rfl, hb3⟩; have HB3 := Lib.hid (HB2.out.trans (hb3.mono HB2.out.size)); clear hb3 cJ)
              | (go_at_call 33; (with_reducible refine (cL _).mono ?_); rintro e w4 ⟨rfl, hb4⟩; have HB4 := Lib.hid (HB3.out.trans (hb4.mono HB3.out.size)); clear hb4 cL; obtain ⟨r0, r1⟩ := HQ2.out w4 HB4)
              | (go_at_call 31; (with_reducible refine (cK _ HB4).mono ?_); rintro e w5 ⟨rfl, hb5⟩; have HB5 := Lib.hid (HB4.out.trans (hb5.mono HB4.out.size)); clear hb5 cK))
            go_ret3
            rw [← HV.out]
            exact ⟨rfl, HB5.out⟩
        · have hmI : ¬ (0 : Int) < (m : Int) := by omega
          have hD0 : l.drop (k + 1) = [] := List.eq_nil_of_length_eq_zero (by omega)
          have hpv : pairV (behind 61 t.text) (l.drop (k + 1)) = behind 61 t.text ++ joinL (l.drop (k + 1)) := by rw [hD0, pairV]; unfold joinL; simp
          rw [hpv] at hat
          subst hat
          show Calls _ _ _ _ fun e w' => e = .returned (.tuple #[.string (strL (NM.map lowA)), .string (strL (behind 61 t.text ++ joinL (l.drop (k + 1)))), .bool true]) ∧ _
          rw [hNMq]
          clear hpv hD0
          have hKz : (strL (behind 61 t.text)).size + (strL (joinL (l.drop (k + 1)))).size ≤ 8000000 := by rw [strL_size, strL_size]; omega
          have HV := Lib.hid (show strL (behind 61 t.text) ++ strL (joinL (l.drop (k + 1))) = strL (behind 61 t.text ++ joinL (l.drop (k + 1))) from strL_append _ _)
          generalize strL (behind 61 t.text ++ joinL (l.drop (k + 1))) = ANS at HV ⊢
          generalize strL (joinL (l.drop (k + 1))) = K at cK HV hKz
          generalize strL (behind 61 t.text) = V at cC HV hKz hv1 hv2
          clear hno hk ht hfa hR he hsp hz1 hz2 hln1 hNz2 hj hcon hne hNMq hV
          go_enter Tryz.func68, Tryz.ntmps68
          go_wp2_with (first
            | (go_at_call 99; (with_reducible refine (cX _ HH0).mono ?_); rintro e w1 ⟨rfl, hb1⟩; have HB1 := Lib.hid hb1; clear hb1 cX; obtain ⟨q0, q1⟩ := HQ.out w1 HB1)
            | (go_at_call 30; (with_reducible refine (cC _).mono ?_); rintro e w2 ⟨rfl, hb2⟩; have HB2 := Lib.hid (HB1.out.trans (hb2.mono HB1.out.size)); clear hb2 cC)
            | (go_at_call 31; (with_reducible refine (cJ _ HB2).mono ?_); rintro e w3 ⟨rfl, hb3⟩; have HB3 := Lib.hid (HB2.out.trans (hb3.mono HB2.out.size)); clear hb3 cJ)
            | (go_at_call 33; (with_reducible refine (cL _).mono ?_); rintro e w4 ⟨rfl, hb4⟩; have HB4 := Lib.hid (HB3.out.trans (hb4.mono HB3.out.size)); clear hb4 cL)
            | (go_at_call 31; (with_reducible refine (cK _ HB4).mono ?_); rintro e w5 ⟨rfl, hb5⟩; have HB5 := Lib.hid (HB4.out.trans (hb5.mono HB4.out.size)); clear hb5 cK))
          go_ret3
          rw [← HV.out]
          exact ⟨rfl, HB5.out⟩
      · have hve : (behind 61 t.text).isEmpty = false := by cases hb : behind 61 t.text with
          | nil => exact absurd hb hV
          | cons _ _ => rfl
        rw [hve] at hv1 hv2
        have hpv : pairV (behind 61 t.text) (l.drop (k + 1)) = behind 61 t.text ++ joinL (l.drop (k + 1)) := by
          cases hD : l.drop (k + 1) with
          | nil => rw [pairV]; unfold joinL; simp
          | cons u r => rw [pairV, if_neg (fun e => hV e.1)]
        rw [hpv] at hat
        subst hat
        show Calls _ _ _ _ fun e w' => e = .returned (.tuple #[.string (strL (NM.map lowA)), .string (strL (behind 61 t.text ++ joinL (l.drop (k + 1)))), .bool true]) ∧ _
        rw [hNMq]
        clear hpv hve
        have hKz : (strL (behind 61 t.text)).size + (strL (joinL (l.drop (k + 1)))).size ≤ 8000000 := by rw [strL_size, strL_size]; omega
        have HV := Lib.hid (show strL (behind 61 t.text) ++ strL (joinL (l.drop (k + 1))) = strL (behind 61 t.text ++ joinL (l.drop (k + 1))) from strL_append _ _)
        generalize strL (behind 61 t.text ++ joinL (l.drop (k + 1))) = ANS at HV ⊢
        generalize strL (joinL (l.drop (k + 1))) = K at cK HV hKz
        generalize strL (behind 61 t.text) = V at cC HV hKz hv1 hv2
        clear hno hk ht hfa hR he hsp hz1 hz2 hln1 hNz2 hj hcon hne hNMq hV
        go_enter Tryz.func68, Tryz.ntmps68
        go_wp2_with (first
          | (go_at_call 99; (with_reducible refine (cX _ HH0).mono ?_); rintro e w1 ⟨rfl, hb1⟩; have HB1 := Lib.hid hb1; clear hb1 cX; obtain ⟨q0, q1⟩ := HQ.out w1 HB1)
          | (go_at_call 30; (with_reducible refine (cC _).mono ?_); rintro e w2 ⟨rfl, hb2⟩; have HB2 := Lib.hid (HB1.out.trans (hb2.mono HB1.out.size)); clear hb2 cC)
          | (go_at_call 31; (with_reducible refine (cJ _ HB2).mono ?_); rintro e w3 ⟨rfl, hb3⟩; have HB3 := Lib.hid (HB2.out.trans (hb3.mono HB2.out.size)); clear hb3 cJ)
          | (go_at_call 33; (with_reducible refine (cL _).mono ?_); rintro e w4 ⟨rfl, hb4⟩; have HB4 := Lib.hid (HB3.out.trans (hb4.mono HB3.out.size)); clear hb4 cL)
          | (go_at_call 31; (with_reducible refine (cK _ HB4).mono ?_); rintro e w5 ⟨rfl, hb5⟩; have HB5 := Lib.hid (HB4.out.trans (hb5.mono HB4.out.size)); clear hb5 cK))
        go_ret3
        rw [← HV.out]
        exact ⟨rfl, HB5.out⟩
end Go.Proofs.YtdinachiiimngaaGreatDoor
namespace Go.Proofs.YtdinachiiimngaaGreatDoor
open Go.ChangeShapes Go.WideShapes Go.ChangeAt Go.RowKit
open TokP AdrP CtP

/-- What is asked of the reference's Unhex, Repair and Decode. -/
def RUnhexOk : Prop := ∀ (s : ByteArray) (_ : s.size = 2) (W : World), Calls Tryz.prog 161 #[.string s] W fun e w' => ∃ T : ByteArray, e = .returned (.tuple #[.string T, .bool (hex2 s.data.toList).isSome]) ∧ (∀ b, hex2 s.data.toList = some b → T = strL [b]) ∧ Below W.heap.size W w'
def RRepairOk (rep : List UInt8 → List UInt8) : Prop := ∀ (s : ByteArray) (_ : s.size ≤ 4000000) (W : World), Calls Tryz.prog 159 #[.string s] W fun e w' => e = .returned (.string (strL (rep s.data.toList))) ∧ Below W.heap.size W w'
def RDecodeOk (dec : List UInt8 → List UInt8 → List UInt8) : Prop := ∀ (n s : ByteArray) (_ : n.size ≤ 4000000) (_ : s.size ≤ 4000000) (W : World), Calls Tryz.prog 160 #[.string n, .string s] W fun e w' => ∃ b, e = .returned (.tuple #[.string (strL (dec n.data.toList s.data.toList)), .bool b]) ∧ Below W.heap.size W w'
theorem rmeant_any {rep : List UInt8 → List UInt8} {dec : List UInt8 → List UInt8 → List UInt8} (cR : RRepairOk rep) (cD : RDecodeOk dec) (n s : ByteArray) (hn : n.size ≤ 4000000) (hs : s.size ≤ 4000000) (w : World) :
    Calls Tryz.prog 115 #[.string n, .string s] w fun e w' => e = .returned (.string (strL (meantP rep dec n.data.toList s.data.toList))) ∧ Below w.heap.size w w' := by
  have c1 := cR s hs w
  have c2 := cD n s hn hs w
  unfold meantP
  by_cases h0 : n.data.toList = []
  · rw [if_pos h0]
    have e1 : (n.toList == []) = true := by rw [ByteArray.toList_eq, h0]; rfl
    generalize strL (rep s.data.toList) = Z at c1 ⊢
    clear c2 hn hs h0
    go_enter Tryz.func115, Tryz.ntmps115
    go_wp2_with (go_at_call 159; (with_reducible refine c1.mono ?_); rintro e w2 ⟨rfl, hb2⟩)
    go_ret
    exact ⟨rfl, hb2⟩
  · rw [if_neg h0]
    have e1 : (n.toList == []) = false := by rw [ByteArray.toList_eq]; exact beq_eq_false_iff_ne.2 h0
    generalize strL (dec n.data.toList s.data.toList) = Z at c2 ⊢
    clear c1 hn hs h0
    go_enter Tryz.func115, Tryz.ntmps115
    go_wp2_with (go_at_call 160; (with_reducible refine c2.mono ?_); rintro e w2 ⟨b, rfl, hb2⟩)
    go_ret
    exact ⟨rfl, hb2⟩
/-! ### Open -/
theorem pct_plain {s : List UInt8} {k : Nat} {c : UInt8} (hk : s[k]? = some c) (h : c ≠ 37) : pctS 0 (s.drop k) = c :: pctS 0 (s.drop (k + 1)) := by
  obtain ⟨h1, h2⟩ := List.getElem?_eq_some_iff.1 hk
  rw [List.drop_eq_getElem_cons h1, h2, pctS, if_neg h]
theorem pct_no {s : List UInt8} {k : Nat} {c : UInt8} (hk : s[k]? = some c) (h : hex2 (s.drop (k + 1)) = none) : pctS 0 (s.drop k) = c :: pctS 0 (s.drop (k + 1)) := by
  obtain ⟨h1, h2⟩ := List.getElem?_eq_some_iff.1 hk
  rw [List.drop_eq_getElem_cons h1, h2, pctS, h]
  split <;> rfl
theorem pct_skip : ∀ (j : Nat) (s : List UInt8), pctS j s = pctS 0 (s.drop j)
  | 0, s => rfl
  | j + 1, [] => rfl
  | j + 1, c :: s => by
    show pctS j s = pctS 0 (s.drop j)
    exact pct_skip j s
theorem pct_yes {s : List UInt8} {k : Nat} {b : UInt8} (hk : s[k]? = some 37) (h : hex2 (s.drop (k + 1)) = some b) : pctS 0 (s.drop k) = b :: pctS 0 (s.drop (k + 3)) := by
  obtain ⟨h1, h2⟩ := List.getElem?_eq_some_iff.1 hk
  rw [List.drop_eq_getElem_cons h1, h2, pctS, if_pos rfl, h]
  show b :: pctS 2 (s.drop (k + 1)) = _
  rw [pct_skip 2, List.drop_drop]
theorem hex2_short {s : List UInt8} (h : s.length < 2) : hex2 s = none := by
  cases s with
  | nil => rfl
  | cons a r =>
    cases r with
    | nil => rfl
    | cons b t => simp at h; omega
theorem hex2_take (s : List UInt8) : hex2 (s.take 2) = hex2 s := by
  cases s with
  | nil => rfl
  | cons a r =>
    cases r with
    | nil => rfl
    | cons b t => rfl
set_option maxRecDepth 100000 in
set_option maxHeartbeats 4000000 in
theorem ropen_any (cU : RUnhexOk) (s : ByteArray) (hs : s.size ≤ 4000000) (w : World) :
    Calls Tryz.prog 116 #[.string s] w fun e w' => e = .returned (.string (strL (pctL s.data.toList))) ∧ Below w.heap.size w w' := by
  obtain ⟨n, hn⟩ : ∃ n, s.size = n := ⟨_, rfl⟩
  have HN := Lib.hid hn
  have HL := Lib.hid (size_list s)
  rw [hn] at hs
  obtain ⟨R, hR⟩ : ∃ R, pctL s.data.toList = R := ⟨_, rfl⟩
  rw [hR]
  have HR := Lib.hid (show (⟨#[]⟩ : ByteArray).data.toList ++ pctS 0 (s.data.toList.drop 0) = R from hR)
  have HU := Lib.hid cU
  clear hn hR cU
  go_enter Tryz.func116, Tryz.ntmps116
  go_wp2_with fail
  go_loopw [3, 4] (fun o i wr => ∃ (k : Nat) (T : ByteArray), k ≤ n ∧ o = .string T ∧ i = .int .i64 k ∧ T.size ≤ k ∧ Hid (T.data.toList ++ pctS 0 (s.data.toList.drop k) = R) ∧ Hid (Below w.heap.size w wr)) (fun _ i _ => n - (intOf i).toNat)
  case atStart => exact ⟨0, ⟨#[]⟩, Nat.zero_le _, rfl, rfl, Nat.zero_le _, HR, Below.refl _ _⟩
  case round =>
    obtain ⟨k, T, hk, rfl, rfl, hTz, HG, HB⟩ := hrel
    have F1 : IntKind.i64.wrap ((k : Int) + 1) = (k : Int) + 1 := by rw [IntKind.wrap_i64]; omega
    have F2 : IntKind.i64.wrap ((k : Int) + 2) = (k : Int) + 2 := by rw [IntKind.wrap_i64]; omega
    have F3 : IntKind.i64.wrap ((k : Int) + 3) = (k : Int) + 3 := by rw [IntKind.wrap_i64]; omega
    have F4 : IntKind.i64.wrap ((k : Int) + 2 + 1) = (k : Int) + 2 + 1 := by rw [IntKind.wrap_i64]; omega
    have hn : s.size = n := HN.out
    by_cases hlt : k < n
    · have hlt' : (k : Int) < (n : Int) := by omega
      obtain ⟨d, y, hd, hy, hy2, S1⟩ := run_byte s k (by rw [hn]; exact hlt)
      have e37 := byte_is d y hy 37 (by decide)
      rw [show ((37 : Nat) : Int) = 37 from rfl] at e37
      have R1 := run_slice_str s k (k + 1) ((k : Int) + 1) (by omega) (by omega) (by omega)
      rw [show s.extract k (k + 1) = strL [d] by
        rw [part_of s k (k + 1) (by omega) (by omega), cons_at _ k d hd]
        congr 1
        rw [show k + 1 - k = 1 by omega]; rfl] at R1
      have hz1 : (strL [d]).size = 1 := strL_size _
      have hz : T.size + (strL [d]).size ≤ 100000000 := by omega
      have hz2 : (T ++ strL [d]).size ≤ k + 1 := by rw [ByteArray.size_append]; omega
      have HPL := Lib.hid (fun (h : pctS 0 (s.data.toList.drop k) = d :: pctS 0 (s.data.toList.drop (k + 1))) => show (T ++ strL [d]).data.toList ++ pctS 0 (s.data.toList.drop (k + 1)) = R by
        rw [← HG.out, h, list_append, strL_list, List.append_assoc]; rfl)
      by_cases h37 : d = 37
      · rw [show decide (d = UInt8.ofNat 37) = true from decide_eq_true h37] at e37
        by_cases h2 : k + 2 < n
        · have h2' : (k : Int) + 2 < (n : Int) := by omega
          have R2 := run_slice_str s (k + 1) (k + 3) ((k : Int) + 3) (by omega) (by omega) (by omega)
          have hX : (s.extract (k + 1) (k + 3)).data.toList = (s.data.toList.drop (k + 1)).take 2 := by
            rw [part_of s (k + 1) (k + 3) (by omega) (by omega), strL_list]
            rw [show k + 3 - (k + 1) = 2 by omega]
          have hXz : (s.extract (k + 1) (k + 3)).size = 2 := by rw [ByteArray.size_extract]; omega
          have cU := fun W => HU.out (s.extract (k + 1) (k + 3)) hXz W
          rw [hX, hex2_take] at cU
          generalize s.extract (k + 1) (k + 3) = X at R2 cU
          rw [show ((k + 1 : Nat) : Int) = (k : Int) + 1 by omega] at R2
          cases hh : hex2 (s.data.toList.drop (k + 1)) with
          | none =>
            rw [hh] at cU
            have HG2 := Lib.hid (HPL.out (pct_no hd hh))
            generalize strL [d] = Z at R1 hz1 hz hz2 HG2
            clear hh hX hXz hd hy HG HPL h37 hz1
            go_wp2_with (go_at_call 161; (with_reducible refine (cU _).mono ?_); rintro e w2 ⟨V, rfl, _, hb2⟩; have HB2 := Lib.hid (HB.out.trans (hb2.mono HB.out.size)); clear hb2 cU)
            go_roundw
            case rel => exact ⟨k + 1, _, by omega, rfl, by go_num, hz2, HG2, HB2⟩
            case measure => simp [intOf]; omega
          | some b =>
            rw [hh] at cU
            have hyes := pct_yes (h37 ▸ hd) hh
            have HG2 := Lib.hid (show (T ++ strL [b]).data.toList ++ pctS 0 (s.data.toList.drop (k + 3)) = R by rw [← HG.out, hyes, list_append, strL_list, List.append_assoc]; rfl)
            have hbz : (strL [b]).size = 1 := strL_size _
            have hz3 : T.size + (strL [b]).size ≤ 100000000 := by omega
            have hz4 : (T ++ strL [b]).size ≤ k + 3 := by rw [ByteArray.size_append]; omega
            have HV := Lib.hid (fun (V : ByteArray) (h : ∀ c, some b = some c → V = strL [c]) => h b rfl)
            generalize strL [b] = Z at hbz hz3 hz4 HG2 HV
            clear hh hX hXz hd hy HG HPL h37 hz1 hz hz2 hyes hbz
            go_wp2_with (go_at_call 161; (with_reducible refine (cU _).mono ?_); rintro e w2 ⟨V, rfl, hv, hb2⟩; have hv2 := HV.out V hv; subst hv2; have HB2 := Lib.hid (HB.out.trans (hb2.mono HB.out.size)); clear hb2 cU hv)
            go_roundw
            case rel => exact ⟨k + 3, _, by omega, rfl, by go_num, hz4, HG2, HB2⟩
            case measure => simp [intOf]; omega
        · have h2' : ¬ (k : Int) + 2 < (n : Int) := by omega
          have hsh : hex2 (s.data.toList.drop (k + 1)) = none := hex2_short (by rw [List.length_drop, ← HL.out, hn]; omega)
          have HG2 := Lib.hid (HPL.out (pct_no hd hsh))
          generalize strL [d] = Z at R1 hz1 hz hz2 HG2
          clear hsh hd hy HG HPL h37 hz1
          go_wp2_with fail
          go_roundw
          case rel => exact ⟨k + 1, _, by omega, rfl, by go_num, hz2, HG2, HB⟩
          case measure => simp [intOf]; omega
      · rw [show decide (d = UInt8.ofNat 37) = false from decide_eq_false h37] at e37
        have HG2 := Lib.hid (HPL.out (pct_plain hd h37))
        generalize strL [d] = Z at R1 hz1 hz hz2 HG2
        clear hd hy HG HPL h37 hz1
        go_wp2_with fail
        go_roundw
        case rel => exact ⟨k + 1, _, by omega, rfl, by go_num, hz2, HG2, HB⟩
        case measure => simp [intOf]; omega
    · obtain rfl : k = n := by omega
      have hlt' : ¬ (k : Int) < (k : Int) := by omega
      have hg := HG.out
      rw [List.drop_eq_nil_of_le (by rw [← HL.out, hn]; exact Nat.le_refl _), pctS, List.append_nil] at hg
      have HT := Lib.hid (show T = strL R by rw [← hg, strL_of])
      clear hg HG
      go_wp2_with fail
      go_ret
      exact ⟨congrArg (fun z => Ending.returned (Value.string z)) HT.out, HB.out⟩
end Go.Proofs.YtdinachiiimngaaGreatDoor
namespace Go.Proofs.YtdinachiiimngaaGreatDoor
open Go.ChangeShapes Go.WideShapes Go.ChangeAt Go.RowKit
open TokP AdrP CtP

theorem at_byte (s : ByteArray) (c : UInt8) (x : Nat) (hx : c.toNat = x) (w : World) : Calls Tryz.prog 67 #[.string s, .int .u8 x] w fun e w' => e = .returned (.int .i64 (Lib.indexByte s.data.toList c)) ∧ w = w' := by
  have cI := Tryz.strings_IndexByte s x w
  rw [byte_back c x hx] at cI
  exact cI.mono fun e w' h => ⟨h.1, h.2.symm⟩
set_option maxHeartbeats 2000000 in
theorem letter_any (c : UInt8) (x : Nat) (hx : c.toNat = x) (w : World) :
    Calls Tryz.prog 66 #[.int .u8 x] w fun e w' => e = .returned (.bool (letterB c)) ∧ w = w' := by
  rw [letter_is c x hx]
  clear hx
  by_cases h1 : 97 ≤ x
  · have g1 : (97 : Int) ≤ (x : Int) := by omega
    by_cases h2 : x ≤ 122
    · have g2 : (x : Int) ≤ 122 := by omega
      rw [decide_eq_true h1, decide_eq_true h2]
      go_enter Tryz.func66, Tryz.ntmps66
      go_wp2_with fail
      go_ret
      exact ⟨rfl, rfl⟩
    · have g2 : ¬ (x : Int) ≤ 122 := by omega
      have g3 : (65 : Int) ≤ (x : Int) := by omega
      have g4 : ¬ (x : Int) ≤ 90 := by omega
      have g5 : (48 : Int) ≤ (x : Int) := by omega
      have g6 : ¬ (x : Int) ≤ 57 := by omega
      rw [decide_eq_false h2, decide_eq_false (by omega : ¬ x ≤ 90), decide_eq_false (by omega : ¬ x ≤ 57)]
      simp only [Bool.and_false, Bool.or_false]
      go_enter Tryz.func66, Tryz.ntmps66
      go_wp2_with fail
      go_ret
      exact ⟨rfl, rfl⟩
  · have g1 : ¬ (97 : Int) ≤ (x : Int) := by omega
    rw [decide_eq_false h1]
    by_cases h3 : 65 ≤ x
    · have g3 : (65 : Int) ≤ (x : Int) := by omega
      by_cases h4 : x ≤ 90
      · have g4 : (x : Int) ≤ 90 := by omega
        rw [decide_eq_true h3, decide_eq_true h4]
        go_enter Tryz.func66, Tryz.ntmps66
        go_wp2_with fail
        go_ret
        exact ⟨rfl, rfl⟩
      · have g4 : ¬ (x : Int) ≤ 90 := by omega
        have g5 : (48 : Int) ≤ (x : Int) := by omega
        have g6 : ¬ (x : Int) ≤ 57 := by omega
        rw [decide_eq_false h4, decide_eq_false (by omega : ¬ x ≤ 57)]
        simp only [Bool.and_false, Bool.or_false, Bool.false_and]
        go_enter Tryz.func66, Tryz.ntmps66
        go_wp2_with fail
        go_ret
        exact ⟨rfl, rfl⟩
    · have g3 : ¬ (65 : Int) ≤ (x : Int) := by omega
      rw [decide_eq_false h3]
      by_cases h5 : 48 ≤ x
      · have g5 : (48 : Int) ≤ (x : Int) := by omega
        by_cases h6 : x ≤ 57
        · have g6 : (x : Int) ≤ 57 := by omega
          rw [decide_eq_true h5, decide_eq_true h6]
          go_enter Tryz.func66, Tryz.ntmps66
          go_wp2_with fail
          go_ret
          exact ⟨rfl, rfl⟩
        · have g6 : ¬ (x : Int) ≤ 57 := by omega
          rw [decide_eq_false h6]
          simp only [Bool.and_false, Bool.or_false, Bool.false_and]
          go_enter Tryz.func66, Tryz.ntmps66
          go_wp2_with fail
          go_ret
          exact ⟨rfl, rfl⟩
      · have g5 : ¬ (48 : Int) ≤ (x : Int) := by omega
        rw [decide_eq_false h5]
        simp only [Bool.or_false, Bool.false_and]
        go_enter Tryz.func66, Tryz.ntmps66
        go_wp2_with fail
        go_ret
        exact ⟨rfl, rfl⟩
set_option maxRecDepth 100000 in
set_option maxHeartbeats 2000000 in
theorem word_any (s : ByteArray) (hs : s.size ≤ 1000000000) (w : World) :
    Calls Tryz.prog 32 #[.string s] w fun e w' => e = .returned (.bool (wordW s.data.toList)) ∧ w = w' := by
  obtain ⟨n, hn⟩ : ∃ n, s.size = n := ⟨_, rfl⟩
  have HN := Lib.hid hn
  have HL := Lib.hid (size_list s)
  rw [hn] at hs
  obtain ⟨r, hr⟩ : ∃ r, wordW s.data.toList = r := ⟨_, rfl⟩
  rw [hr]
  have HR := Lib.hid hr
  clear hr
  go_enter Tryz.func32, Tryz.ntmps32
  go_wp2_with fail
  go_loopw [6] (fun i wr => ∃ k : Nat, k ≤ n ∧ i = .int .i64 k ∧ wr = w ∧ Hid ((s.data.toList.take k).all wordB = true)) (fun i _ => n - (intOf i).toNat)
  case atStart => exact ⟨0, Nat.zero_le _, rfl, rfl, rfl⟩
  case round =>
    obtain ⟨k, hk, rfl, rfl, HF⟩ := hrel
    have F1 : IntKind.i64.wrap ((k : Int) + 1) = (k : Int) + 1 := by rw [IntKind.wrap_i64]; omega
    by_cases hlt : k < n
    · have hlt' : (k : Int) < (n : Int) := by omega
      obtain ⟨d, y, hd, hy, hy2, S1⟩ := run_byte s k (by rw [hn]; exact hlt)
      have cH := fun W => at_byte ⟨#[33, 35, 36, 38, 94, 95, 46, 43, 45]⟩ d y hy W
      have cL := fun W => letter_any d y hy W
      have hw := word_at d
      rw [← index_in] at hw
      generalize Lib.indexByte (⟨#[33, 35, 36, 38, 94, 95, 46, 43, 45]⟩ : ByteArray).data.toList d = z at cH hw
      generalize letterB d = b1 at cL hw
      cases hwb : wordB d with
      | true =>
        rw [hwb] at hw
        have HF2 := Lib.hid (show (s.data.toList.take (k + 1)).all wordB = true by rw [List.take_add_one, hd, List.all_append, HF.out]; simp [hwb])
        clear hd hy HF hwb HR
        cases b1 with
        | true =>
          clear hw
          go_wp2_with (first
            | (go_at_call 67; (with_reducible refine (cH _).mono ?_); rintro e w2 ⟨rfl, rfl⟩)
            | (go_at_call 66; (with_reducible refine (cL _).mono ?_); rintro e w3 ⟨rfl, rfl⟩))
          go_roundw
          case rel => exact ⟨k + 1, by omega, by go_num, trivial, HF2⟩
          case measure => simp [intOf]; omega
        | false =>
          have hz : 0 ≤ z := by simpa using hw
          have hz2 : ¬ z < 0 := by omega
          clear hw
          go_wp2_with (first
            | (go_at_call 67; (with_reducible refine (cH _).mono ?_); rintro e w2 ⟨rfl, rfl⟩)
            | (go_at_call 66; (with_reducible refine (cL _).mono ?_); rintro e w3 ⟨rfl, rfl⟩))
          go_roundw
          case rel => exact ⟨k + 1, by omega, by go_num, trivial, HF2⟩
          case measure => simp [intOf]; omega
      | false =>
        rw [hwb] at hw
        obtain ⟨rfl, hz⟩ : b1 = false ∧ z < 0 := by
          have := hw.symm
          rw [Bool.or_eq_false_iff, decide_eq_false_iff_not] at this
          exact ⟨this.1, by omega⟩
        obtain rfl : false = r := by
          rw [← HR.out]
          unfold wordW
          symm
          rw [Bool.and_eq_false_iff]
          refine .inr ?_
          rw [List.all_eq_false]
          exact ⟨d, List.mem_of_getElem? hd, by rw [hwb]; exact Bool.false_ne_true⟩
        clear hd hy HF hwb HR hw
        go_wp2_with (first
          | (go_at_call 67; (with_reducible refine (cH _).mono ?_); rintro e w2 ⟨rfl, rfl⟩)
          | (go_at_call 66; (with_reducible refine (cL _).mono ?_); rintro e w3 ⟨rfl, rfl⟩))
        go_ret
        exact ⟨rfl, rfl⟩
    · obtain rfl : k = n := by omega
      have hlt' : ¬ (k : Int) < (k : Int) := by omega
      have ha := HF.out
      rw [List.take_of_length_le (by rw [← HL.out, HN.out]; exact Nat.le_refl _)] at ha
      have hz : (!s.toList.isEmpty) = r := by
        rw [← HR.out]
        unfold wordW
        rw [ha, Bool.and_true, ByteArray.toList_eq]
      have hn : s.size = k := HN.out
      clear HF ha HR
      subst hz
      go_wp2_with fail
      go_ret
      simp
end Go.Proofs.YtdinachiiimngaaGreatDoor
