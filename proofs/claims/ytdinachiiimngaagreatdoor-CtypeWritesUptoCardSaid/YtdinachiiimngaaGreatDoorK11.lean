/- The program's Disposition, Parse and Param. The program's Parse. The example's answers. -/
import Derived.Test.YtdinachiiimngaaGreatDoorKCtPrm
import Derived.Test.YtdinachiiimngaaGreatDoorK5
namespace Go.Proofs.YtdinachiiimngaaGreatDoor
open Go.ChangeShapes Go.WideShapes Go.ChangeAt Go.RowKit
open TokP AdrP CtP

theorem rowsT_ne : ∀ (l now : List TokP.Tok), ∃ r rs, rowsT now l = r :: rs
  | [], now => ⟨now, [], rfl⟩
  | t :: l, now => by
    rw [rowsT]
    split
    · exact ⟨_, _, rfl⟩
    · exact rowsT_ne l _
theorem rowsT_len : ∀ (l now : List TokP.Tok), (rowsT now l).length ≤ l.length + 1
  | [], now => Nat.le_refl _
  | t :: l, now => by
    rw [rowsT]
    split
    · have := rowsT_len l []
      rw [List.length_cons, List.length_cons]; omega
    · have := rowsT_len l (now ++ [t])
      rw [List.length_cons]; omega
theorem rowsT_each : ∀ (l now : List TokP.Tok) (x : List TokP.Tok), x ∈ rowsT now l → x.length ≤ now.length + l.length
  | [], now, x, h => by
    rw [rowsT, List.mem_singleton] at h
    rw [h]; exact Nat.le_refl _
  | t :: l, now, x, h => by
    rw [rowsT] at h
    rw [List.length_cons]
    split at h
    · rcases List.mem_cons.1 h with rfl | h
      · omega
      · have := rowsT_each l [] x h
        rw [List.length_nil] at this; omega
    · have := rowsT_each l (now ++ [t]) x h
      rw [List.length_append, List.length_singleton] at this; omega
theorem elemR : Tryz.prog.elem 50 = 55 := by
  unfold Program.elem
  rw [Tryz.underlying50]
theorem underR : Tryz.prog.underlying 50 = some (.slice (Tryz.prog.elem 50)) := by
  rw [elemR]
  exact Tryz.underlying50
theorem sizeR (W : World) : (sizeOf (Tryz.prog.elem 50)).run Tryz.prog W = .ok 1 W := by
  rw [elemR]
  exact Tryz.sizeOf55 W
/-- The rows behind the first. -/
theorem run_restR {w : World} {g c n : Nat} {r : List TokP.Tok} {rs : List (List TokP.Tok)} (h : PcsOf w (.slice (some ⟨g, 0, none⟩) n c) (r :: rs)) (hn : (r :: rs).length = n) :
    (∃ u, w.cell? ⟨g, 0, none⟩ = some u ∧ HasT w u r) ∧ ∃ A C, (∀ W : World, (Instr.slice 50 (.slice (some ⟨g, 0, none⟩) n c) (some (.int .i64 1)) none none).run Tryz.prog W = .ok (.slice A (n - 1) C) W) ∧ RwsAt w (.slice A (n - 1) C) rs := by
  obtain ⟨g', c', e, hc, hp⟩ := h
  injection e with e1 e2 e3
  injection e1 with e1
  injection e1 with e1 _ _
  subst e1 e3
  rw [List.length_cons] at hn hc
  refine ⟨?_, ?_⟩
  · obtain ⟨u, hu, ht⟩ := hp 0 r rfl
    exact ⟨u, hu, ht⟩
  · have hr := fun W : World => run_slice_l W 50 (some ⟨g, 0, none⟩) n c underR .i64 1 (by omega) (by omega)
    simp only [sizeR, Result.andThen] at hr
    refine ⟨_, _, hr, ?_⟩
    by_cases hc1 : c = 1
    · have h0 : rs = [] := List.eq_nil_of_length_eq_zero (by omega)
      subst h0
      exact .inl ⟨⟨_, _, by rw [show n - 1 = 0 by simp at hn; omega]⟩, rfl⟩
    · refine .inr ⟨g, 1, c - 1, ?_, fun i x hx => ?_⟩
      · simp only [Int.toNat_one]
        rw [if_neg hc1, Option.map_some, add_none, show n - 1 = rs.length by omega]
      · obtain ⟨u, hu, ht⟩ := hp (i + 1) x hx
        exact ⟨u, by rw [Nat.add_comm 1 i]; exact hu, ht⟩
theorem low_word : ∀ n : Fin 256, wordB (lowA (UInt8.ofNat n.val)) = wordB (UInt8.ofNat n.val) := by decide +kernel
theorem word_low (s : List UInt8) : wordW (s.map lowA) = wordW s := by
  unfold wordW
  have h : ∀ l : List UInt8, (l.map lowA).all wordB = l.all wordB := fun l => by
    induction l with
    | nil => rfl
    | cons c l ih => rw [List.map_cons, List.all_cons, List.all_cons, ih, byte_all (P := fun c => wordB (lowA c) = wordB c) low_word c]
  rw [h]
  cases s <;> rfl
theorem filter_join (p : TokP.Tok → Bool) (l : List TokP.Tok) : (joinL (l.filter p)).length ≤ (joinL l).length := by
  induction l with
  | nil => exact Nat.le_refl _
  | cons t l ih =>
    rw [List.filter_cons]
    split
    · rw [join_cons, join_cons, List.length_append, List.length_append]; omega
    · rw [join_cons, List.length_append]; omega
theorem bare_join (l : List TokP.Tok) : (joinL (bareT l)).length ≤ (joinL l).length := filter_join _ l
/-- What is known of the rows of a string. -/
theorem rows_known (S : ByteArray) (hS : S.size ≤ 4000000) : ∃ r rs, rowsT [] (bareT (scanL S.data.toList)) = r :: rs ∧ (r :: rs).length ≤ 4000000 + 1 ∧ (∀ x ∈ r :: rs, x.length ≤ 4000000) ∧ szR (r :: rs) ≤ S.size := by
  obtain ⟨r, rs, h⟩ := rowsT_ne (bareT (scanL S.data.toList)) []
  have hln := scan_len S.data.toList
  rw [← size_list] at hln
  have hbl := bare_len (scanL S.data.toList) (scanL S.data.toList).length
  rw [List.take_length] at hbl
  have hb : (bareT (scanL S.data.toList)).length ≤ 4000000 := by
    have : (bareT (scanL S.data.toList)) = bareL (scanL S.data.toList) := rfl
    rw [this]; omega
  refine ⟨r, rs, h, ?_, ?_, ?_⟩
  · rw [← h]
    have := rowsT_len (bareT (scanL S.data.toList)) []
    omega
  · rw [← h]
    intro x hx
    have := rowsT_each _ [] x hx
    rw [List.length_nil] at this
    omega
  · rw [← h]
    have h1 := rows_sum (bareT (scanL S.data.toList)) []
    have h2 := bare_join (scanL S.data.toList)
    rw [join_scan, ← size_list] at h2
    have h0 : (joinL ([] : List TokP.Tok)).length = 0 := rfl
    omega
set_option maxRecDepth 100000 in
set_option maxHeartbeats 8000000 in
theorem disp_any (S : ByteArray) (hS : S.size ≤ 3900000) (w : World) (hv : Vr w) :
    Calls Tryz.prog 12 #[.string S] w fun e w' => ∃ a c, e = .returned (.tuple #[.string (strL (dispC repF decF numF S.data.toList).1), .slice a (dispC repF decF numF S.data.toList).2.length c]) ∧ OwnP w' (.slice a (dispC repF decF numF S.data.toList).2.length c) (dispC repF decF numF S.data.toList).2 ∧ Below w.heap.size w w' := by
  obtain ⟨r, rs, hrow, hlen, heach, hsum⟩ := rows_known S (by omega)
  have hD : dispC repF decF numF S.data.toList = ((if wordW ((joinL r).map lowA) = true then (joinL r).map lowA else []), listP repF decF numF rs) := by
    unfold dispC
    rw [hrow]
    rfl
  rw [hD]
  obtain ⟨N, hN⟩ : ∃ N, (r :: rs).length = N := ⟨_, rfl⟩
  have cR := fun W => rows_p S (by omega) (r :: rs) hrow N hN W
  have hz : (joinL r).length ≤ 3900000 := by
    have := row_le (rows := r :: rs) (r := r) (by simp)
    omega
  have hz2 : szR rs ≤ 3900000 := by
    have h3 : szR (r :: rs) = (joinL r).length + szR rs := by unfold szR; rw [List.map_cons, List.sum_cons]
    omega
  have cJ := fun W u (h : Hid (HasT W u r)) => join_any u r W h.out.hasF (by omega) (by have := heach r (by simp); omega)
  have cW := fun W => word_any (strL (joinL r)) (by rw [strL_size]; omega) W
  rw [strL_list] at cW
  have cP := fun v W (h : Hid (RwsAt W v rs)) (hv : Hid (Vr W)) => params_any v rs (by rw [List.length_cons] at hlen; omega) (fun x hx => heach x (by simp [hx])) (by omega) W h hv.out
  have hwl : wordW ((joinL r).map lowA) = wordW (joinL r) := word_low (joinL r)
  rw [hwl]
  have HV := Lib.hid hv
  have hN1 : (0 : Int) < (N : Int) := by rw [← hN, List.length_cons]; omega
  have hN2 : (1 : Int) ≤ (N : Int) := by omega
  have HNN := Lib.hid hN
  obtain ⟨LP, hLP⟩ : ∃ LP, listP repF decF numF rs = LP := ⟨_, rfl⟩
  rw [hLP] at cP ⊢
  have e0 : strL [] = (⟨#[]⟩ : ByteArray) := rfl
  cases hww : wordW (joinL r) with
  | true =>
    rw [hww] at cW
    have cL := fun W => lower_any (strL (joinL r)) (by rw [strL_size]; omega) W
    rw [strL_list] at cL
    simp only [if_true]
    generalize strL (joinL r) = J at cJ cW cL
    generalize strL ((joinL r).map lowA) = ANS at cL ⊢
    clear hD hrow hlen heach hsum hN hz hz2 hwl hww hLP hv
    go_enter Tryz.func12, Tryz.ntmps12
    go_wp2_with (first
      | (go_at_call 29; (with_reducible refine (cR _).mono ?_); rintro e w2 ⟨g, c, rfl, hp, hb2⟩; obtain ⟨⟨u, hu, hT⟩, A1, C1, R1, hW1⟩ := run_restR hp HNN.out; have HB2 := Lib.hid hb2; have HT := Lib.hid hT; have HRW := Lib.hid hW1; clear hp hb2 cR hT hW1)
      | (go_at_call 31; (with_reducible refine (cJ _ _ HT).mono ?_); rintro e w3 ⟨rfl, hb3⟩; have HB3 := Lib.hid (HB2.out.trans (hb3.mono HB2.out.size)); have HR3 := Lib.hid (HRW.out.step hb3); have hu3 := cell_below hu hb3; clear hb3 cJ)
      | (go_at_call 32; (with_reducible refine (cW _).mono ?_); rintro e w4 ⟨rfl, rfl⟩))
    have hb : Hid (Below w3.heap.size w3 w3) := Lib.hid (Below.refl _ _)
    have hq1 := fun Q (hb : Hid (Below w3.heap.size w3 Q)) => (cL Q).mono (fun e w' hh => (⟨hh.1, Lib.hid (hb.out.trans (hh.2.mono hb.out.size))⟩ : e = .returned (.string ANS) ∧ Hid (Below w3.heap.size w3 w')))
    have hq2 := fun Q (hb : Hid (Below w3.heap.size w3 Q)) => (cP (.slice A1 (N - 1) C1) Q (Lib.hid (HR3.out.step hb.out)) (Lib.hid (HV.out.below (HB3.out.trans (hb.out.mono HB3.out.size))))).mono (fun e w' hh => (by
      obtain ⟨a, c, h1, h2, h3⟩ := hh
      exact ⟨a, c, h1, Lib.hid h2, Lib.hid (hb.out.trans (h3.mono hb.out.size))⟩ : ∃ a c, e = .returned (.slice a LP.length c) ∧ Hid (OwnP w' (.slice a LP.length c) LP) ∧ Hid (Below w3.heap.size w3 w')))
    have HK := Lib.hid (fun Q (h : Hid (Below w3.heap.size w3 Q)) => (⟨h, cell_below hu3 h.out⟩ : Hid (Below w3.heap.size w3 Q) ∧ Q.cell? ⟨g, 0, none⟩ = some u))
    clear cL cP
    go_region_held3 (fun Q => Hid (Below w3.heap.size w3 Q) ∧ Q.cell? ⟨g, 0, none⟩ = some u)
      (first | exact HK.out _ hb | exact HK.out _ (Lib.hid hb.out.drew) | exact HK.out _ (by assumption) | exact HK.out _ (Lib.hid (Below.drew (Lib.Hid.out (by assumption)))))
      (first
        | (go_at_call 33; (with_reducible refine (hq1 _ (by first | assumption | exact Lib.hid hb.out.drew)).mono ?_); rintro e w5 ⟨rfl, hs5⟩; clear hq1)
        | (go_at_call 34; (with_reducible refine (hq2 _ hs5).mono ?_); rintro e w6 ⟨a6, c6, rfl, ho6, hs6⟩; clear hq2))
    go_wp2_with fail
    go_ret2
    exact ⟨a6, c6, rfl, ho6.out, HB3.out.trans (hs6.out.mono HB3.out.size)⟩
  | false =>
    rw [hww] at cW
    have cL := fun W => lower_any ⟨#[]⟩ (by decide) W
    rw [show (⟨#[]⟩ : ByteArray).data.toList.map lowA = [] from rfl] at cL
    simp only [Bool.false_eq_true, if_false]
    generalize strL (joinL r) = J at cJ cW cL
    rw [e0] at cL ⊢
    obtain ⟨ANS, hANS⟩ : ∃ A : ByteArray, (⟨#[]⟩ : ByteArray) = A := ⟨_, rfl⟩
    clear hD hrow hlen heach hsum hN hz hz2 hwl hww hLP hv hANS
    go_enter Tryz.func12, Tryz.ntmps12
    go_wp2_with (first
      | (go_at_call 29; (with_reducible refine (cR _).mono ?_); rintro e w2 ⟨g, c, rfl, hp, hb2⟩; obtain ⟨⟨u, hu, hT⟩, A1, C1, R1, hW1⟩ := run_restR hp HNN.out; have HB2 := Lib.hid hb2; have HT := Lib.hid hT; have HRW := Lib.hid hW1; clear hp hb2 cR hT hW1)
      | (go_at_call 31; (with_reducible refine (cJ _ _ HT).mono ?_); rintro e w3 ⟨rfl, hb3⟩; have HB3 := Lib.hid (HB2.out.trans (hb3.mono HB2.out.size)); have HR3 := Lib.hid (HRW.out.step hb3); have hu3 := cell_below hu hb3; clear hb3 cJ)
      | (go_at_call 32; (with_reducible refine (cW _).mono ?_); rintro e w4 ⟨rfl, rfl⟩))
    have hb : Hid (Below w3.heap.size w3 w3) := Lib.hid (Below.refl _ _)
    have hq1 := fun Q (hb : Hid (Below w3.heap.size w3 Q)) => (cL Q).mono (fun e w' hh => (⟨hh.1, Lib.hid (hb.out.trans (hh.2.mono hb.out.size))⟩ : e = .returned (.string ⟨#[]⟩) ∧ Hid (Below w3.heap.size w3 w')))
    have hq2 := fun Q (hb : Hid (Below w3.heap.size w3 Q)) => (cP (.slice A1 (N - 1) C1) Q (Lib.hid (HR3.out.step hb.out)) (Lib.hid (HV.out.below (HB3.out.trans (hb.out.mono HB3.out.size))))).mono (fun e w' hh => (by
      obtain ⟨a, c, h1, h2, h3⟩ := hh
      exact ⟨a, c, h1, Lib.hid h2, Lib.hid (hb.out.trans (h3.mono hb.out.size))⟩ : ∃ a c, e = .returned (.slice a LP.length c) ∧ Hid (OwnP w' (.slice a LP.length c) LP) ∧ Hid (Below w3.heap.size w3 w')))
    have HK := Lib.hid (fun Q (h : Hid (Below w3.heap.size w3 Q)) => (⟨h, cell_below hu3 h.out⟩ : Hid (Below w3.heap.size w3 Q) ∧ Q.cell? ⟨g, 0, none⟩ = some u))
    clear cL cP
    go_region_held3 (fun Q => Hid (Below w3.heap.size w3 Q) ∧ Q.cell? ⟨g, 0, none⟩ = some u)
      (first | exact HK.out _ hb | exact HK.out _ (Lib.hid hb.out.drew) | exact HK.out _ (by assumption) | exact HK.out _ (Lib.hid (Below.drew (Lib.Hid.out (by assumption)))))
      (first
        | (go_at_call 33; (with_reducible refine (hq1 _ (by first | assumption | exact Lib.hid hb.out.drew)).mono ?_); rintro e w5 ⟨rfl, hs5⟩; clear hq1)
        | (go_at_call 34; (with_reducible refine (hq2 _ hs5).mono ?_); rintro e w6 ⟨a6, c6, rfl, ho6, hs6⟩; clear hq2))
    go_wp2_with fail
    go_ret2
    exact ⟨a6, c6, rfl, ho6.out, HB3.out.trans (hs6.out.mono HB3.out.size)⟩
end Go.Proofs.YtdinachiiimngaaGreatDoor
namespace Go.Proofs.YtdinachiiimngaaGreatDoor
open Go.ChangeShapes Go.WideShapes Go.ChangeAt Go.RowKit
open TokP AdrP CtP

/-- A content type in the box g. -/
def Tyx (w : World) (g : Nat) (K S : ByteArray) (V : Value) : Prop := w.heap[g]? = some (.cells #[.string K, .string S, V] 26 (0, 0))
theorem Tyx.lt {w : World} {g : Nat} {K S : ByteArray} {V : Value} (h : Tyx w g K S V) : g < w.heap.size := (Array.getElem?_eq_some_iff.1 h).1
theorem Tyx.step {w w' : World} {g : Nat} {K S : ByteArray} {V : Value} (h : Tyx w g K S V) (hb : Below w.heap.size w w') : Tyx w' g K S V := (hb.block _ h.lt).trans h
theorem tyx_new (w : World) (K S : ByteArray) (V : Value) : Tyx (w.alloc (.cells #[.string K, .string S, V] 26)) w.heap.size K S V := World.alloc_heap_new w _
theorem Tyx.c0 {w : World} {g : Nat} {K S : ByteArray} {V : Value} (h : Tyx w g K S V) : w.cell? ⟨g, 0, none⟩ = some (.string K) := by rw [Lib.cell_of_heap h]; rfl
theorem Tyx.c1 {w : World} {g : Nat} {K S : ByteArray} {V : Value} (h : Tyx w g K S V) : w.cell? ⟨g, 1, none⟩ = some (.string S) := by rw [Lib.cell_of_heap h]; rfl
theorem Tyx.c2 {w : World} {g : Nat} {K S : ByteArray} {V : Value} (h : Tyx w g K S V) : w.cell? ⟨g, 2, none⟩ = some V := by rw [Lib.cell_of_heap h]; rfl
theorem Tyx.fr {w : World} {g : Nat} {K S : ByteArray} {V : Value} (h : Tyx w g K S V) (i : Nat) : w.frozen? ⟨g, i, none⟩ = false := Lib.frozen_of_heap h i
theorem Tyx.all {w : World} {g : Nat} {K S : ByteArray} {V : Value} (h : Tyx w g K S V) : w.cell? ⟨g, 0, none⟩ = some (.string K) ∧ w.cell? ⟨g, 1, none⟩ = some (.string S) ∧ w.cell? ⟨g, 2, none⟩ = some V ∧ ∀ i, w.frozen? ⟨g, i, none⟩ = false := ⟨h.c0, h.c1, h.c2, h.fr⟩
theorem set_ty {w : World} {g : Nat} {K S K' S' : ByteArray} {V V' : Value} (h : Tyx w g K S V) : Tyx (((w.setCell ⟨g, 0, none⟩ (.string K')).setCell ⟨g, 1, none⟩ (.string S')).setCell ⟨g, 2, none⟩ V') g K' S' V' := by
  have h' : w.heap[g]? = some (.cells #[.string K, .string S, V] 26 (0, 0)) := h
  show (((w.setCell ⟨g, 0, none⟩ (.string K')).setCell ⟨g, 1, none⟩ (.string S')).setCell ⟨g, 2, none⟩ V').heap[g]? = _
  simp [World.setCell, Array.getElem?_modify, h']
/-- What lies in a cell. -/
def cv (Q : World) (b i : Nat) : Value := (Q.cell? ⟨b, i, none⟩).getD undef
theorem tyx_limbs {w Q : World} {K S : ByteArray} {V : Value} (h : Below w.heap.size w Q) (x : Tyx Q w.heap.size K S V) : Hid (Below w.heap.size w Q) ∧ Q.cell? ⟨w.heap.size, 0, none⟩ = some (cv Q w.heap.size 0) ∧ Q.cell? ⟨w.heap.size, 1, none⟩ = some (cv Q w.heap.size 1) ∧ Q.cell? ⟨w.heap.size, 2, none⟩ = some (cv Q w.heap.size 2) ∧ ∀ i, Q.frozen? ⟨w.heap.size, i, none⟩ = false :=
  ⟨Lib.hid h, by unfold cv; rw [x.c0]; rfl, by unfold cv; rw [x.c1]; rfl, by unfold cv; rw [x.c2]; rfl, x.fr⟩
theorem below_three {w W : World} {C g : Nat} (h : Below C w W) (hg : C ≤ g) (v0 v1 v2 : Value) : Below C w (((W.setCell ⟨g, 0, none⟩ v0).setCell ⟨g, 1, none⟩ v1).setCell ⟨g, 2, none⟩ v2) :=
  below_at (below_at (below_at h _ hg _) _ hg _) _ hg _
theorem rowsTy : (Tryz.prog.info? 26).map (·.size) = some 3 := by kernel_rfl
theorem results_ty {fn : Func} {p u : Tmp} (h : fn.results = #[.cell p 26, .tmp u]) (tmps : Array Value) (w : World) (g : Nat) (K S : ByteArray) (V : Value) (hp : tmps.getD p undef = .pointer (some ⟨g, 0, none⟩)) (hg : Tyx w g K S V) :
    (results fn tmps).run Tryz.prog w = .ok (.tuple #[.agg #[.string K, .string S, V], tmps.getD u undef]) w := by
  rw [results_cell_tmp h, hp]
  have := run_loadVar_row (P := Tryz.prog) w g 26 26 #[.string K, .string S, V] (0, 0) _ hg Tryz.underlying26 rfl rowsTy
  simp [asAddr, Result.andThen, this]
theorem upC_le (d : UInt8) (s : List UInt8) : (upC d s).length ≤ s.length := (List.takeWhile_prefix _).length_le
theorem behind_le (d : UInt8) (s : List UInt8) : (behind d s).length ≤ s.length := by unfold behind; rw [List.length_drop]; omega
/-- A parameter list in a row of its own, or anywhere once it is read. -/
theorem OwnP.three {w : World} {g : Nat} {v : Value} {l : List (List UInt8 × List UInt8)} (h : OwnP w v l) (v0 v1 v2 : Value) {K S : ByteArray} {V : Value} (hx : Tyx w g K S V) : OwnP (((w.setCell ⟨g, 0, none⟩ v0).setCell ⟨g, 1, none⟩ v1).setCell ⟨g, 2, none⟩ v2) v l := by
  obtain ⟨b, ho⟩ := h
  refine ⟨b, ho.1, ?_⟩
  rcases ho.2 with h1 | ⟨k, cap, cur, rfl, hbg, hg, rest⟩
  · exact .inl h1
  · refine .inr ⟨k, cap, cur, rfl, hbg, ?_, rest⟩
    have hk : k ≠ g := by
      rintro rfl
      have hx' : w.heap[k]? = some (.cells #[.string K, .string S, V] 26 (0, 0)) := hx
      rw [hx'] at hg
      have := Option.some.inj hg
      injection this with _ e2 _
      exact absurd e2 (by decide)
    rw [Below.heap_setCell _ _ _ _ hk, Below.heap_setCell _ _ _ _ hk, Below.heap_setCell _ _ _ _ hk]
    exact hg
set_option maxRecDepth 100000 in
set_option maxHeartbeats 8000000 in
theorem parse_c (S : ByteArray) (hS : S.size ≤ 3900000) (w : World) (hv : Vr w) :
    Calls Tryz.prog 10 #[.string S] w fun e w' => ∃ a c, e = .returned (.tuple #[.agg #[.string (strL (parseC repF decF numF S.data.toList).1.1), .string (strL (parseC repF decF numF S.data.toList).1.2.1), .slice a (parseC repF decF numF S.data.toList).1.2.2.length c], .bool (parseC repF decF numF S.data.toList).2]) ∧ OwnP w' (.slice a (parseC repF decF numF S.data.toList).1.2.2.length c) (parseC repF decF numF S.data.toList).1.2.2 ∧ Below w.heap.size w w' := by
  obtain ⟨r, rs, hrow, hlen, heach, hsum⟩ := rows_known S (by omega)
  have hD : parseC repF decF numF S.data.toList = if (wordW (upC 47 (joinL r)) && wordW (behind 47 (joinL r))) = true then (((upC 47 (joinL r)).map lowA, (behind 47 (joinL r)).map lowA, listP repF decF numF rs), true) else (textPlain, false) := by
    unfold parseC
    rw [hrow]
    show (if 47 ∈ joinL r ∧ wordW (upC 47 (joinL r)) = true ∧ wordW (behind 47 (joinL r)) = true then (((upC 47 (joinL r)).map lowA, (behind 47 (joinL r)).map lowA, listP repF decF numF rs), true) else (textPlain, false)) = _
    by_cases h47 : 47 ∈ joinL r
    · by_cases h1 : wordW (upC 47 (joinL r)) = true
      · by_cases h2 : wordW (behind 47 (joinL r)) = true
        · rw [if_pos ⟨h47, h1, h2⟩, if_pos (by rw [h1, h2]; rfl)]
        · rw [if_neg (fun h => h2 h.2.2), if_neg (by rw [h1]; simpa using h2)]
      · rw [if_neg (fun h => h1 h.2.1), if_neg (by simp [h1])]
    · have hb : behind 47 (joinL r) = [] := by
        unfold behind
        have : upC 47 (joinL r) = joinL r := by
          unfold upC
          have := List.takeWhile_append_of_pos (p := fun c => c != 47) (l₁ := joinL r) (l₂ := []) (fun c hc => by
            rw [bne_iff_ne]
            rintro rfl
            exact h47 hc)
          rw [List.append_nil, List.takeWhile_nil, List.append_nil] at this
          exact this
        rw [this, List.drop_eq_nil_of_le (by omega)]
      rw [if_neg (fun h => h47 h.1), if_neg (by rw [hb]; simp [wordW])]
  rw [hD]
  obtain ⟨N, hN⟩ : ∃ N, (r :: rs).length = N := ⟨_, rfl⟩
  have cR := fun W => rows_p S (by omega) (r :: rs) hrow N hN W
  have hz : (joinL r).length ≤ 3900000 := by
    have := row_le (rows := r :: rs) (r := r) (by simp)
    omega
  have hz2 : szR rs ≤ 3900000 := by
    have h3 : szR (r :: rs) = (joinL r).length + szR rs := by unfold szR; rw [List.map_cons, List.sum_cons]
    omega
  have hu1 := upC_le 47 (joinL r)
  have hu2 := behind_le 47 (joinL r)
  have cJ := fun W u (h : Hid (HasT W u r)) => join_any u r W h.out.hasF (by omega) (by have := heach r (by simp); omega)
  have cC := fun W => cut_all 47 (strL (joinL r)) (by rw [strL_size]; omega) W
  rw [strL_list] at cC
  have cW1 := fun W => word_any (strL (upC 47 (joinL r))) (by rw [strL_size]; omega) W
  have cW2 := fun W => word_any (strL (behind 47 (joinL r))) (by rw [strL_size]; omega) W
  have cL1 := fun W => lower_any (strL (upC 47 (joinL r))) (by rw [strL_size]; omega) W
  have cL2 := fun W => lower_any (strL (behind 47 (joinL r))) (by rw [strL_size]; omega) W
  rw [strL_list] at cW1 cW2 cL1 cL2
  have cP := fun v W (h : Hid (RwsAt W v rs)) (hv : Hid (Vr W)) => params_any v rs (by rw [List.length_cons] at hlen; omega) (fun x hx => heach x (by simp [hx])) (by omega) W h hv.out
  have HV := Lib.hid hv
  have hN1 : (0 : Int) < (N : Int) := by rw [← hN, List.length_cons]; omega
  have hN2 : (1 : Int) ≤ (N : Int) := by omega
  have HNN := Lib.hid hN
  obtain ⟨LP, hLP⟩ : ∃ LP, listP repF decF numF rs = LP := ⟨_, rfl⟩
  rw [hLP] at cP ⊢
  have HX0 := Lib.hid (tyx_new w ⟨#[]⟩ ⟨#[]⟩ (.slice none 0 0))
  have HB0 := Lib.hid ((Below.refl w.heap.size w).alloc (Nat.le_refl _) (.cells #[.string ⟨#[]⟩, .string ⟨#[]⟩, .slice none 0 0] 26))
  obtain ⟨W0, hW0⟩ : ∃ W0, w.alloc (.cells #[.string ⟨#[]⟩, .string ⟨#[]⟩, .slice none 0 0] 26) = W0 := ⟨_, rfl⟩
  rw [hW0] at HX0 HB0
  have HW0 := Lib.hid hW0
  generalize (joinL r).contains 47 = fnd at cC
  clear hW0
  cases hw1 : wordW (upC 47 (joinL r)) with
  | false =>
    rw [hw1] at cW1
    rw [Bool.false_and, if_neg Bool.false_ne_true]
    generalize strL ((upC 47 (joinL r)).map lowA) = K1 at cL1
    generalize strL ((behind 47 (joinL r)).map lowA) = K2 at cL2
    generalize strL (upC 47 (joinL r)) = U1 at cC cW1 cL1
    generalize strL (behind 47 (joinL r)) = U2 at cC cW2 cL2
    generalize strL (joinL r) = J at cJ cC
    clear hD hrow hlen heach hsum hN hz hz2 hu1 hu2 hLP hv hw1
    go_enter Tryz.func10, Tryz.ntmps10
    go_wp2_with fail
    rw [HW0.out]
    go_wp2_with (first
      | (go_at_call 29; (with_reducible refine (cR _).mono ?_); rintro e w2 ⟨g, c, rfl, hp, hb2⟩; obtain ⟨⟨u, hu, hT⟩, A1, C1, R1, hW1⟩ := run_restR hp HNN.out; have HB2 := Lib.hid hb2; have HX2 := Lib.hid (HX0.out.step hb2); have HT := Lib.hid hT; have HRW := Lib.hid hW1; clear hp hb2 cR hT hW1)
      | (go_at_call 31; (with_reducible refine (cJ _ _ HT).mono ?_); rintro e w3 ⟨rfl, hb3⟩; have HB3 := Lib.hid (HB2.out.trans (hb3.mono HB2.out.size)); have HX3 := Lib.hid (HX2.out.step hb3); have HR3 := Lib.hid (HRW.out.step hb3); have hu3 := cell_below hu hb3; clear hb3 cJ)
      | (go_at_call 30; (with_reducible refine (cC _).mono ?_); rintro e w4 ⟨rfl, hb4⟩; have HB4 := Lib.hid (HB3.out.trans (hb4.mono HB3.out.size)); have HX4 := Lib.hid (HX3.out.step hb4); have HR4 := Lib.hid (HR3.out.step hb4); have hu4 := cell_below hu3 hb4; obtain ⟨y0, y1, y2, yf⟩ := HX4.out.all; clear hb4 cC)
      | (go_at_call 32; (with_reducible refine (cW1 _).mono ?_); rintro e w5 ⟨rfl, rfl⟩))
    exact bodyPost_ret (results_ty rfl _ _ w.heap.size _ _ _ rfl (set_ty HX4.out)) rfl ⟨none, 0, rfl, ⟨0, World.ownsRow_nil _ _ _ _⟩, below_three (HB0.out.trans (HB4.out.mono HB0.out.size)) (Nat.le_refl _) _ _ _⟩
  | true =>
    rw [hw1] at cW1
    rw [Bool.true_and]
    cases hw2 : wordW (behind 47 (joinL r)) with
    | false =>
      rw [hw2] at cW2
      rw [if_neg Bool.false_ne_true]
      generalize strL ((upC 47 (joinL r)).map lowA) = K1 at cL1
      generalize strL ((behind 47 (joinL r)).map lowA) = K2 at cL2
      generalize strL (upC 47 (joinL r)) = U1 at cC cW1 cL1
      generalize strL (behind 47 (joinL r)) = U2 at cC cW2 cL2
      generalize strL (joinL r) = J at cJ cC
      clear hD hrow hlen heach hsum hN hz hz2 hu1 hu2 hLP hv hw1 hw2
      go_enter Tryz.func10, Tryz.ntmps10
      go_wp2_with fail
      rw [HW0.out]
      go_wp2_with (first
        | (go_at_call 29; (with_reducible refine (cR _).mono ?_); rintro e w2 ⟨g, c, rfl, hp, hb2⟩; obtain ⟨⟨u, hu, hT⟩, A1, C1, R1, hW1⟩ := run_restR hp HNN.out; have HB2 := Lib.hid hb2; have HX2 := Lib.hid (HX0.out.step hb2); have HT := Lib.hid hT; have HRW := Lib.hid hW1; clear hp hb2 cR hT hW1)
        | (go_at_call 31; (with_reducible refine (cJ _ _ HT).mono ?_); rintro e w3 ⟨rfl, hb3⟩; have HB3 := Lib.hid (HB2.out.trans (hb3.mono HB2.out.size)); have HX3 := Lib.hid (HX2.out.step hb3); have HR3 := Lib.hid (HRW.out.step hb3); have hu3 := cell_below hu hb3; clear hb3 cJ)
        | (go_at_call 30; (with_reducible refine (cC _).mono ?_); rintro e w4 ⟨rfl, hb4⟩; have HB4 := Lib.hid (HB3.out.trans (hb4.mono HB3.out.size)); have HX4 := Lib.hid (HX3.out.step hb4); have HR4 := Lib.hid (HR3.out.step hb4); have hu4 := cell_below hu3 hb4; obtain ⟨y0, y1, y2, yf⟩ := HX4.out.all; clear hb4 cC)
        | (go_at_call 32; (with_reducible refine (cW1 _).mono ?_); rintro e w5 ⟨rfl, rfl⟩)
        | (go_at_call 32; (with_reducible refine (cW2 _).mono ?_); rintro e w6 ⟨rfl, rfl⟩))
      exact bodyPost_ret (results_ty rfl _ _ w.heap.size _ _ _ rfl (set_ty HX4.out)) rfl ⟨none, 0, rfl, ⟨0, World.ownsRow_nil _ _ _ _⟩, below_three (HB0.out.trans (HB4.out.mono HB0.out.size)) (Nat.le_refl _) _ _ _⟩
    | true =>
      rw [hw2] at cW2
      rw [if_pos rfl]
      generalize strL ((upC 47 (joinL r)).map lowA) = K1 at cL1 ⊢
      generalize strL ((behind 47 (joinL r)).map lowA) = K2 at cL2 ⊢
      generalize strL (upC 47 (joinL r)) = U1 at cC cW1 cL1
      generalize strL (behind 47 (joinL r)) = U2 at cC cW2 cL2
      generalize strL (joinL r) = J at cJ cC
      clear hD hrow hlen heach hsum hN hz hz2 hu1 hu2 hLP hv hw1 hw2
      go_enter Tryz.func10, Tryz.ntmps10
      go_wp2_with fail
      rw [HW0.out]
      go_wp2_with (first
        | (go_at_call 29; (with_reducible refine (cR _).mono ?_); rintro e w2 ⟨g, c, rfl, hp, hb2⟩; obtain ⟨⟨u, hu, hT⟩, A1, C1, R1, hW1⟩ := run_restR hp HNN.out; have HB2 := Lib.hid hb2; have HX2 := Lib.hid (HX0.out.step hb2); have HT := Lib.hid hT; have HRW := Lib.hid hW1; clear hp hb2 cR hT hW1)
        | (go_at_call 31; (with_reducible refine (cJ _ _ HT).mono ?_); rintro e w3 ⟨rfl, hb3⟩; have HB3 := Lib.hid (HB2.out.trans (hb3.mono HB2.out.size)); have HX3 := Lib.hid (HX2.out.step hb3); have HR3 := Lib.hid (HRW.out.step hb3); have hu3 := cell_below hu hb3; clear hb3 cJ)
        | (go_at_call 30; (with_reducible refine (cC _).mono ?_); rintro e w4 ⟨rfl, hb4⟩; have HB4 := Lib.hid (HB3.out.trans (hb4.mono HB3.out.size)); have HX4 := Lib.hid (HX3.out.step hb4); have HR4 := Lib.hid (HR3.out.step hb4); have hu4 := cell_below hu3 hb4; obtain ⟨y0, y1, y2, yf⟩ := HX4.out.all; clear hb4 cC)
        | (go_at_call 32; (with_reducible refine (cW1 _).mono ?_); rintro e w5 ⟨rfl, rfl⟩)
        | (go_at_call 32; (with_reducible refine (cW2 _).mono ?_); rintro e w6 ⟨rfl, rfl⟩))
      have hb : Hid (Below w4.heap.size w4 w4) := Lib.hid (Below.refl _ _)
      have hq1 := fun Q (hb : Hid (Below w4.heap.size w4 Q)) => (cL1 Q).mono (fun e w' hh => (⟨hh.1, Lib.hid (hb.out.trans (hh.2.mono hb.out.size))⟩ : e = .returned (.string K1) ∧ Hid (Below w4.heap.size w4 w')))
      have hq2 := fun Q (hb : Hid (Below w4.heap.size w4 Q)) => (cL2 Q).mono (fun e w' hh => (⟨hh.1, Lib.hid (hb.out.trans (hh.2.mono hb.out.size))⟩ : e = .returned (.string K2) ∧ Hid (Below w4.heap.size w4 w')))
      have hq3 := fun Q (hb : Hid (Below w4.heap.size w4 Q)) => (cP (.slice A1 (N - 1) C1) Q (Lib.hid (HR4.out.step hb.out)) (Lib.hid (HV.out.below (HB0.out.trans ((HB4.out.trans (hb.out.mono HB4.out.size)).mono HB0.out.size))))).mono (fun e w' hh => (by
        obtain ⟨a, c, h1, h2, h3⟩ := hh
        exact ⟨a, c, h1, Lib.hid h2, Lib.hid (hb.out.trans (h3.mono hb.out.size))⟩ : ∃ a c, e = .returned (.slice a LP.length c) ∧ Hid (OwnP w' (.slice a LP.length c) LP) ∧ Hid (Below w4.heap.size w4 w')))
      have HK := Lib.hid (fun Q (h : Hid (Below w4.heap.size w4 Q)) => (tyx_limbs (HB0.out.trans ((HB4.out.trans (h.out.mono HB4.out.size)).mono HB0.out.size)) (HX4.out.step h.out) : Hid (Below w.heap.size w Q) ∧ Q.cell? ⟨w.heap.size, 0, none⟩ = some (cv Q w.heap.size 0) ∧ Q.cell? ⟨w.heap.size, 1, none⟩ = some (cv Q w.heap.size 1) ∧ Q.cell? ⟨w.heap.size, 2, none⟩ = some (cv Q w.heap.size 2) ∧ ∀ i, Q.frozen? ⟨w.heap.size, i, none⟩ = false))
      have HK2 := Lib.hid (fun Q (h : Hid (Below w4.heap.size w4 Q)) (k s : ByteArray) (v : Value) => (tyx_limbs (below_three (HB0.out.trans ((HB4.out.trans (h.out.mono HB4.out.size)).mono HB0.out.size)) (Nat.le_refl _) (.string k) (.string s) v) (set_ty (HX4.out.step h.out)) : Hid (Below w.heap.size w (((Q.setCell ⟨w.heap.size, 0, none⟩ (.string k)).setCell ⟨w.heap.size, 1, none⟩ (.string s)).setCell ⟨w.heap.size, 2, none⟩ v)) ∧ (((Q.setCell ⟨w.heap.size, 0, none⟩ (.string k)).setCell ⟨w.heap.size, 1, none⟩ (.string s)).setCell ⟨w.heap.size, 2, none⟩ v).cell? ⟨w.heap.size, 0, none⟩ = some (cv (((Q.setCell ⟨w.heap.size, 0, none⟩ (.string k)).setCell ⟨w.heap.size, 1, none⟩ (.string s)).setCell ⟨w.heap.size, 2, none⟩ v) w.heap.size 0) ∧ (((Q.setCell ⟨w.heap.size, 0, none⟩ (.string k)).setCell ⟨w.heap.size, 1, none⟩ (.string s)).setCell ⟨w.heap.size, 2, none⟩ v).cell? ⟨w.heap.size, 1, none⟩ = some (cv (((Q.setCell ⟨w.heap.size, 0, none⟩ (.string k)).setCell ⟨w.heap.size, 1, none⟩ (.string s)).setCell ⟨w.heap.size, 2, none⟩ v) w.heap.size 1) ∧ (((Q.setCell ⟨w.heap.size, 0, none⟩ (.string k)).setCell ⟨w.heap.size, 1, none⟩ (.string s)).setCell ⟨w.heap.size, 2, none⟩ v).cell? ⟨w.heap.size, 2, none⟩ = some (cv (((Q.setCell ⟨w.heap.size, 0, none⟩ (.string k)).setCell ⟨w.heap.size, 1, none⟩ (.string s)).setCell ⟨w.heap.size, 2, none⟩ v) w.heap.size 2) ∧ ∀ i, (((Q.setCell ⟨w.heap.size, 0, none⟩ (.string k)).setCell ⟨w.heap.size, 1, none⟩ (.string s)).setCell ⟨w.heap.size, 2, none⟩ v).frozen? ⟨w.heap.size, i, none⟩ = false))
      clear cL1 cL2 cP
      go_region_held3 (fun Q => Hid (Below w.heap.size w Q) ∧ Q.cell? ⟨w.heap.size, 0, none⟩ = some (cv Q w.heap.size 0) ∧ Q.cell? ⟨w.heap.size, 1, none⟩ = some (cv Q w.heap.size 1) ∧ Q.cell? ⟨w.heap.size, 2, none⟩ = some (cv Q w.heap.size 2) ∧ ∀ i, Q.frozen? ⟨w.heap.size, i, none⟩ = false)
        (first | exact HK.out _ hb | exact HK.out _ (Lib.hid hb.out.drew) | exact HK.out _ (by assumption) | exact HK.out _ (Lib.hid (Below.drew (Lib.Hid.out (by assumption)))) | exact HK2.out _ (by assumption) _ _ _)
        (first
          | (go_at_call 33; (with_reducible refine (hq1 _ (by first | assumption | exact Lib.hid hb.out.drew)).mono ?_); rintro e w5 ⟨rfl, hs5⟩; clear hq1)
          | (go_at_call 33; (with_reducible refine (hq2 _ hs5).mono ?_); rintro e w6 ⟨rfl, hs6⟩; clear hq2)
          | (go_at_call 34; (with_reducible refine (hq3 _ hs6).mono ?_); rintro e w7 ⟨a7, c7, rfl, ho7, hs7⟩; clear hq3))
      go_wp2_with fail
      exact bodyPost_ret (results_ty rfl _ _ w.heap.size _ _ _ rfl (set_ty (HX4.out.step hs7.out))) rfl ⟨a7, c7, rfl, ho7.out.three _ _ _ (HX4.out.step hs7.out), below_three (HB0.out.trans ((HB4.out.trans (hs7.out.mono HB4.out.size)).mono HB0.out.size)) (Nat.le_refl _) _ _ _⟩
set_option maxRecDepth 100000 in
set_option maxHeartbeats 2000000 in
theorem param_c (v : Value) (l : List (List UInt8 × List UInt8)) (nm : ByteArray) (hn : nm.size ≤ 4000000) (hT : ∀ p ∈ l, p.1.length ≤ 4000000 ∧ p.2.length ≤ 4000000) (hl : l.length ≤ 4000000) (R : Option (List UInt8)) (hR : paramV l nm.data.toList = R) (w : World) (h : Hid (HasP w v l)) :
    Calls Tryz.prog 14 #[v, .string nm] w fun e w' => e = .returned (.tuple #[.string (strL (R.getD [])), .bool R.isSome]) ∧ Below w.heap.size w w' := by
  obtain ⟨a, c, rfl⟩ := h.out.form
  obtain ⟨n, hnn⟩ : ∃ n, l.length = n := ⟨_, rfl⟩
  rw [hnn] at h hl ⊢
  have HN := Lib.hid hnn
  have HT := Lib.hid (fun (k : Nat) (f : List UInt8 × List UInt8) (h : l[k]? = some f) => hT f (List.mem_of_getElem? h))
  have HR := Lib.hid hR
  have c2 := fun W => lower_any nm hn W
  obtain ⟨M, hM⟩ : ∃ M, nm.data.toList.map lowA = M := ⟨_, rfl⟩
  rw [hM] at c2
  have HM := Lib.hid hM
  generalize hX2 : strL M = X2 at c2
  have HX2 := Lib.hid hX2
  clear hnn hT hR hn hM hX2
  go_enter Tryz.func14, Tryz.ntmps14
  go_wp2_with (go_at_call 33; (with_reducible refine (c2 _).mono ?_); rintro e w1 ⟨rfl, hb1⟩; have HB1 := Lib.hid hb1; clear hb1 c2)
  go_loopw [12] (fun i wr => ∃ k : Nat, k ≤ n ∧ i = .int .i64 k ∧ Hid (Below w.heap.size w wr) ∧ Hid (∀ (i : Nat) (q : List UInt8 × List UInt8), i < k → l[i]? = some q → ¬ q.1.map lowA = M)) (fun i _ => n - (intOf i).toNat)
  case atStart => exact ⟨0, Nat.zero_le _, rfl, HB1, fun i _ hi => absurd hi (Nat.not_lt_zero _)⟩
  case round =>
    obtain ⟨k, hk, rfl, HB, HF⟩ := hrel
    have F1 : IntKind.i64.wrap ((k : Int) + 1) = (k : Int) + 1 := by rw [IntKind.wrap_i64]; omega
    by_cases hlt : k < n
    · have hlt' : (k : Int) < (n : Int) := by omega
      obtain ⟨g, o, rfl, hfa⟩ := h.out.at (by omega)
      obtain ⟨p, hp⟩ : ∃ p, l[k]? = some p := ⟨_, List.getElem?_eq_getElem (by rw [HN.out]; exact hlt)⟩
      obtain ⟨p0, p1⟩ := hfa.step HB.out k p hp
      obtain ⟨t1, t2⟩ := HT.out k p hp
      have c1 := fun W => lower_any (strL p.1) (by rw [strL_size]; exact t1) W
      rw [strL_list] at c1
      have c3 := fun W => clone_any (strL p.2) W (by rw [strL_size]; exact t2)
      have heq := eq_strL (p.1.map lowA) M
      rw [HX2.out] at heq
      have hnew := World.alloc_heap_new wr (.cells #[.string (strL p.1), .string (strL p.2)] 37)
      have HW := Lib.hid (show Below w.heap.size w (wr.alloc (.cells #[.string (strL p.1), .string (strL p.2)] 37)) from HB.out.alloc HB.out.size _)
      obtain ⟨k0, k1⟩ := box_two hnew
      by_cases hm : p.1.map lowA = M
      · rw [decide_eq_true hm] at heq
        obtain rfl : some p.2 = R := by rw [← HR.out]; exact (param_hit hp (hm.trans HM.out.symm) (fun i q hi hq => HM.out ▸ HF.out i q hi hq)).symm
        have HV := Lib.hid (show strL ((some p.2).getD []) = strL p.2 from rfl)
        generalize strL (p.1.map lowA) = X1 at c1 heq
        generalize strL p.1 = X3 at p0 c1 k0 k1 HW
        generalize strL p.2 = X4 at p1 HV k0 k1 HW c3
        clear hp hm HF HR hfa hnew t1 t2
        go_wp2_with (first
          | (go_at_call 33; (with_reducible refine (c1 _).mono ?_); rintro e w2 ⟨rfl, hb2⟩; have HB2 := Lib.hid (HW.out.trans (hb2.mono HW.out.size)); have k1b := cell_below k1 hb2; clear hb2 c1)
          | (go_at_call 41; (with_reducible refine (c3 _).mono ?_); rintro e w3 ⟨rfl, hb3⟩; have HB3 := Lib.hid (HB2.out.trans (hb3.mono HB2.out.size)); clear hb3 c3))
        go_ret2
        exact ⟨congrArg (fun z => Ending.returned (Value.tuple #[Value.string z, Value.bool true])) HV.out.symm, HB3.out⟩
      · rw [decide_eq_false hm] at heq
        have HF2 := Lib.hid (fun (i : Nat) (q : List UInt8 × List UInt8) (hi : i < k + 1) (hq : l[i]? = some q) => show ¬ q.1.map lowA = M by
          rcases (show i < k ∨ i = k by omega) with h | rfl
          · exact HF.out i q h hq
          · rw [hp] at hq; rw [← Option.some.inj hq]; exact hm)
        generalize strL (p.1.map lowA) = X1 at c1 heq
        generalize strL p.1 = X3 at p0 c1 k0 k1 HW
        generalize strL p.2 = X4 at p1 k0 k1 HW
        clear hp hm HF HR hfa hnew t1 t2 c3
        go_wp2_with (go_at_call 33; (with_reducible refine (c1 _).mono ?_); rintro e w2 ⟨rfl, hb2⟩; have HB2 := Lib.hid (HW.out.trans (hb2.mono HW.out.size)); clear hb2 c1)
        go_roundw
        case rel => exact ⟨k + 1, by omega, by go_num, HB2, HF2⟩
        case measure => simp [intOf]; omega
    · obtain rfl : k = n := by omega
      have hlt' : ¬ (k : Int) < (k : Int) := by omega
      obtain rfl : none = R := by
        rw [← HR.out]
        exact (param_none (fun i q hq => HM.out ▸ HF.out i q (by have := (List.getElem?_eq_some_iff.1 hq).1; rw [HN.out] at this; exact this) hq)).symm
      clear HF HR
      go_wp2_with fail
      go_ret2
      exact ⟨rfl, HB.out⟩
end Go.Proofs.YtdinachiiimngaaGreatDoor
namespace Go.Proofs.YtdinachiiimngaaGreatDoor
open TokP AdrP CtP

def exA : ByteArray := ⟨#[84, 101, 120, 116, 47, 72, 84, 77, 76, 32, 40, 99, 41, 59, 32, 67, 104, 97, 114, 115, 101, 116, 61, 34, 120, 32, 121, 34, 59, 32, 97, 42, 48, 42, 61, 117, 116, 102, 45, 56, 39, 39, 37, 101, 50, 37, 56, 50, 59, 32, 97, 42, 49, 42, 61, 37, 97, 99, 59, 32, 98]⟩
theorem ans_a : parseC repF decF numF exA.data.toList = (([116, 101, 120, 116], [104, 116, 109, 108], [([99, 104, 97, 114, 115, 101, 116], [120, 32, 121]), ([97], [226, 130, 172])]), true) := by decide +kernel
theorem ans_b : parseC repF decF numF [116, 101, 120, 116] = (([116, 101, 120, 116], [112, 108, 97, 105, 110], []), false) := by decide +kernel
theorem ans_c : dispC repF decF numF [65, 116, 116, 97, 99, 104, 109, 101, 110, 116, 59, 32, 102, 105, 108, 101, 110, 97, 109, 101, 61, 97, 46, 98] = ([97, 116, 116, 97, 99, 104, 109, 101, 110, 116], [([102, 105, 108, 101, 110, 97, 109, 101], [97, 46, 98])]) := by decide +kernel
theorem ans_d : lineW [116, 101, 120, 116, 47, 104, 116, 109, 108] [([99, 104, 97, 114, 115, 101, 116], [120, 32, 121]), ([97], [226, 130, 172])] = [116, 101, 120, 116, 47, 104, 116, 109, 108, 59, 32, 99, 104, 97, 114, 115, 101, 116, 61, 34, 120, 32, 121, 34, 59, 32, 97, 42, 61, 117, 116, 102, 45, 56, 39, 39, 37, 69, 50, 37, 56, 50, 37, 65, 67] := by decide +kernel
end Go.Proofs.YtdinachiiimngaaGreatDoor
