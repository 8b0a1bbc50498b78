/- The values of the fields with a name: what the iterator gives, one by one. -/
import Derived.Test.YtocghngmjipjoaaDoorJoin
import Derived.Test.YtocghngmjipjoaaDoorName
namespace Go.Proofs.YtocghngmjipjoaaDoor
open Go.ChangeShapes Go.WideShapes Go.ChangeAt Go.RowKit
open LinesP HdrP

attribute [local go_sem] Oper.semAt_some

/-- The values, as strings. -/
def valsB (l : List Fld) (nm : List UInt8) : List ByteArray := (allL l nm).map strL
def meets (f : Fld) (nm : List UInt8) : Bool := !f.bad && (f.name.map low == nm.map low)
theorem vals_cons (f : Fld) (r : List Fld) (nm : List UInt8) : valsB (f :: r) nm = if meets f nm = true then strL (trimL (unfoldL f.value)) :: valsB r nm else valsB r nm := by
  unfold valsB allL meets
  rw [List.filter_cons]
  split <;> rfl
/-- The two boxes, and the fields. -/
structure Vs (W : World) (b1 b2 : Nat) (v : Value) (nm : ByteArray) (g o : Nat) (l : List Fld) : Prop where
  bx1 : Boxed W b1 24 v
  bx2 : Boxed W b2 9 (.string nm)
  fs : FAt W g o l
theorem Vs.step {W W' : World} {b1 b2 g o : Nat} {v : Value} {nm : ByteArray} {l : List Fld} (h : Vs W b1 b2 v nm g o l) (hb : Below W.heap.size W W') : Vs W' b1 b2 v nm g o l :=
  ⟨(hb.block b1 h.bx1.lt).trans h.bx1, (hb.block b2 h.bx2.lt).trans h.bx2, h.fs.step hb⟩
theorem Vs.same {W W' : World} {b1 b2 g o : Nat} {v : Value} {nm : ByteArray} {l : List Fld} (h : Vs W b1 b2 v nm g o l) (hs : Same (fun k => k = b1 ∨ k = b2 ∨ (k = g ∧ l ≠ [])) W W') : Vs W' b1 b2 v nm g o l :=
  ⟨(hs b1 (.inl rfl)).trans h.bx1, (hs b2 (.inr (.inl rfl))).trans h.bx2, by
    by_cases h0 : l = []
    · subst h0; intro i f hf; simp at hf
    · exact h.fs.keep (hs g (.inr (.inr ⟨rfl, h0⟩)))⟩
theorem below_grown {w w' : World} (h : w.grownBy w' none) : Below w.heap.size w w' := (Below.refl _ _).grown h (Nat.le_refl _) (fun k e => by cases e)
theorem unfold_len (s : List UInt8) : (unfoldL s).length ≤ s.length := by
  induction s with
  | nil => exact Nat.le_refl _
  | cons c t ih =>
    unfold unfoldL
    split
    · rw [List.length_cons]; omega
    · split
      · rw [List.length_cons]; omega
      · rw [List.length_cons, List.length_cons]; omega
theorem cell_below {w w' : World} {a : Addr} {v : Value} (h : w.cell? a = some v) (hb : Below w.heap.size w w') : w'.cell? a = some v := by
  rw [World.cell?_of_block (w := w) (hb.block _ (World.block_lt_of_cell? w a h))]; exact h
theorem copy_value (w : World) (a b c d : Value) (t : TypeId) : (w.alloc (.cells #[a, b, c, d] t)).cell? ⟨w.heap.size, 1, none⟩ = some b := by
  rw [Lib.cell_of_heap (World.alloc_heap_new w _)]; rfl
set_option maxRecDepth 100000 in
set_option maxHeartbeats 4000000 in
theorem vals_gives (n : Nat) (hn : 2 ≤ n) (b1 b2 g o c : Nat) (nm : ByteArray) (l : List Fld) (N : Nat) (hN : l.length = N) (hl : N ≤ 1000000) (hsz : ∀ f ∈ l, f.name.length ≤ 1000000 ∧ f.value.length ≤ 1000000) :
    Gives n Tryd.prog 50 #[.pointer (some ⟨b1, 0, none⟩), .pointer (some ⟨b2, 0, none⟩)] (fun A B => Below A.heap.size A B) (fun k => k = b1 ∨ k = b2 ∨ (k = g ∧ l ≠ [])) (fun _ => True) (fun W => Vs W b1 b2 (.slice (some ⟨g, o, none⟩) N c) nm g o l) (valsB l nm.data.toList) := by
  intro L J Jx W hJ _ hY hb h0
  have c1 := hb.bx1.cell
  refine callsIn_of_wp Tryd.func50 rfl trivial ?_ rfl
  simp only [Tryd.ntmps50, List.size_toArray, List.length_cons, List.length_nil, Nat.reduceAdd, Nat.reduceSub, Array.replicate_succ, Array.replicate_zero, List.push_toArray, List.append_toArray, List.nil_append, List.cons_append]
  gi_wp2
  gi_loopw [5, 8] (fun _ i wr => ∃ (k : Nat) (pre : List ByteArray), k ≤ N ∧ i = .int .i64 k ∧ valsB l nm.data.toList = pre ++ valsB (l.drop k) nm.data.toList ∧ Vs wr b1 b2 (.slice (some ⟨g, o, none⟩) N c) nm g o l ∧ J pre wr)
    (fun _ i _ => N - (intOf i).toNat)
  case atStart => exact ⟨0, [], Nat.zero_le _, rfl, rfl, hb, h0⟩
  case round =>
    obtain ⟨k, pre, hk, rfl, hx, hv, hj⟩ := hrel
    have F1 : IntKind.i64.wrap ((k : Int) + 1) = (k : Int) + 1 := by rw [IntKind.wrap_i64]; omega
    by_cases hlt : k < N
    · have hlt' : (k : Int) < (N : Int) := by omega
      have hkl : k < l.length := by omega
      obtain ⟨f, hf⟩ : ∃ f, l[k]? = some f := ⟨_, List.getElem?_eq_getElem hkl⟩
      have hfg : l[k] = f := (List.getElem?_eq_some_iff.1 hf).2
      have hfm := hsz f (List.mem_of_getElem? hf)
      obtain ⟨k0, k1, k2, k3⟩ := hv.fs k f hf
      have hdrop : l.drop k = f :: l.drop (k + 1) := by rw [List.drop_eq_getElem_cons hkl, hfg]
      rw [hdrop, vals_cons] at hx
      obtain ⟨W1, hW1⟩ : ∃ W1, wr.alloc (.cells #[.string (strL f.name), .string (strL f.value), .string (strL f.raw), .bool f.bad] 38) = W1 := ⟨_, rfl⟩
      have hb1 : Below wr.heap.size wr W1 := by rw [← hW1]; exact (Below.refl _ _).alloc (Nat.le_refl _) _
      have hv1 := hv.step hb1
      have hj1 := hJ _ _ _ hj hb1
      have cn := hv1.bx2.cell
      rw [← hW1] at cn
      by_cases hbad : f.bad = true
      · have hme : meets f nm.data.toList = false := by unfold meets; rw [hbad]; rfl
        rw [hme, if_neg (by simp)] at hx
        have HX := Lib.hid hx
        rw [hbad] at k3 hW1 cn
        have HW := Lib.hid hW1
        have HV := Lib.hid (And.intro hv1 hj1)
        clear hx hme hdrop hf hfg hfm hkl hsz hY hJ hb h0 hv hj hv1 hj1 hb1 hW1
        gi_wp2_with (refine ⟨trivial, ?_⟩)
        go_roundw
        case rel => exact ⟨k + 1, pre, by omega, by go_num, HX.out, by rw [HW.out]; exact HV.out.1, by rw [HW.out]; exact HV.out.2⟩
        case measure => simp [intOf]; omega
      · have hbad' : f.bad = false := by simpa using hbad
        rw [hbad'] at k3 hW1 cn
        have hcn := fun w => (sameName_any (strL f.name) nm (by rw [strL_size]; exact hfm.1) w)
        rw [strL_list] at hcn
        by_cases hs : f.name.map low = nm.data.toList.map low
        · have hme : meets f nm.data.toList = true := by unfold meets; rw [hbad', hs]; simp
          rw [decide_eq_true hs] at hcn
          rw [hme, if_pos rfl] at hx
          have hcu := fun w => unfold_any (strL f.value) (by rw [strL_size]; exact hfm.2) w
          rw [strL_list] at hcu
          have hul := unfold_len f.value
          have hct := fun w => trims_any (strL (unfoldL f.value)) (by rw [strL_size]; omega) w
          rw [strL_list] at hct
          obtain ⟨X, hX⟩ : ∃ X, strL (trimL (unfoldL f.value)) = X := ⟨_, rfl⟩
          rw [hX] at hx hct
          generalize strL (unfoldL f.value) = U at hcu hct
          have HC := Lib.hid (copy_value wr (.string (strL f.name)) (.string (strL f.value)) (.string (strL f.raw)) (.bool false) 38)
          rw [hW1] at HC
          have HW := Lib.hid hW1
          have HV := Lib.hid (And.intro hv1 hj1)
          have HY := Lib.hid hY
          have HJ := Lib.hid hJ
          have HX := Lib.hid hx
          clear hX hx hme hdrop hf hfg hfm hkl hsz hY hJ hb h0 hv hj hv1 hj1 hb1 hW1 hs hbad
          gi_wp2_with (first
            | (refine ⟨trivial, fun _ => by omega, ?_⟩; gi_at_call 51; refine (callsIn_wide.2 (hcn _)).mono ?_; rintro e W2 ⟨rfl, hg2⟩; have hb2 := below_grown hg2; rw [HW.out] at hb2; have HV2 := Lib.hid (And.intro (HV.out.1.step hb2) (HJ.out _ _ _ HV.out.2 hb2)); have cv := cell_below HC.out hb2; clear hcn hg2)
            | (refine ⟨trivial, fun _ => by omega, ?_⟩; gi_at_call 17; refine (callsIn_wide.2 (hcu _)).mono ?_; rintro e W3 ⟨rfl, hb3⟩; have HV3 := Lib.hid (And.intro (HV2.out.1.step hb3) (HJ.out _ _ _ HV2.out.2 hb3)); clear hcu)
            | (refine ⟨trivial, fun _ => by omega, ?_⟩; gi_at_call 52; refine (callsIn_wide.2 (hct _)).mono ?_; rintro e W4 ⟨rfl, hb4⟩; have HV4 := Lib.hid (And.intro (HV3.out.1.step hb4) (HJ.out _ _ _ HV3.out.2 hb4)); clear hct))
          obtain ⟨fn, tmps, assign, body, hy, hR⟩ := HY.out pre X _ W4 HX.out HV4.out.2 trivial
          rw [hy, Oper.uponIn_round]
          refine ⟨fun _ => by omega, hR.mono ?_⟩
          rintro e W5 (⟨rfl, hj5, hs5⟩ | ⟨rfl, hx5⟩)
          · have HV5 := Lib.hid (And.intro (HV4.out.1.same hs5) hj5)
            clear hR hy
            gi_wp2
            go_roundw
            case rel => exact ⟨k + 1, pre ++ [X], by omega, by go_num, by rw [HX.out, List.append_assoc]; rfl, HV5.out.1, HV5.out.2⟩
            case measure => simp [intOf]; omega
          · gi_wp2
            refine bodyPost_ret (results_none rfl _ _ _) rfl ?_
            exact ⟨⟨_, rfl⟩, .inr ⟨_, hx5⟩⟩
        · have hme : meets f nm.data.toList = false := by unfold meets; rw [hbad']; simp; exact hs
          rw [decide_eq_false hs] at hcn
          rw [hme, if_neg (by simp)] at hx
          have HX := Lib.hid hx
          have HW := Lib.hid hW1
          have HV := Lib.hid (And.intro hv1 hj1)
          have HJ := Lib.hid hJ
          clear hx hme hdrop hf hfg hfm hkl hsz hY hJ hb h0 hv hj hv1 hj1 hb1 hW1 hs hbad
          gi_wp2_with (refine ⟨trivial, fun _ => by omega, ?_⟩; gi_at_call 51; refine (callsIn_wide.2 (hcn _)).mono ?_; rintro e W2 ⟨rfl, hg2⟩; have hb2 := below_grown hg2; rw [HW.out] at hb2; have HV2 := Lib.hid (And.intro (HV.out.1.step hb2) (HJ.out _ _ _ HV.out.2 hb2)); clear hcn hg2)
          go_roundw
          case rel => exact ⟨k + 1, pre, by omega, by go_num, HX.out, HV2.out.1, HV2.out.2⟩
          case measure => simp [intOf]; omega
    · have hlt' : ¬ (k : Int) < (N : Int) := by omega
      have hkN : l.drop k = [] := List.drop_eq_nil_of_le (by omega)
      rw [hkN, show valsB [] nm.data.toList = [] from rfl, List.append_nil] at hx
      rw [hx]
      clear hsz hY hJ hb h0 hv hkN
      gi_wp2
      go_end0
      exact ⟨⟨_, rfl⟩, .inl hj⟩
end Go.Proofs.YtocghngmjipjoaaDoor
