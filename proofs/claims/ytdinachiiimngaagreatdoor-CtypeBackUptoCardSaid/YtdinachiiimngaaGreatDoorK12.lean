/- The program's Disposition, Parse and Param. The program's Parse. The laws' few and named. The example's answers. CtypeSections' core, of no program: a value in sections, in any order, is read back as a whole; what is written is printable. -/
import Derived.Test.YtdinachiiimngaaGreatDoorKCtPrm
import Derived.Test.YtdinachiiimngaaGreatDoorK8
import Derived.Test.YtdinachiiimngaaGreatDoorK6
import Derived.Test.YtdinachiiimngaaGreatDoorK3
namespace Go.Proofs.YtdinachiiimngaaGreatDoor
open Go.ChangeShapes Go.WideShapes Go.ChangeAt Go.RowKit
open TokP AdrP CtP

theorem rowsT_ne : ∀ (l now : List TokP.Tok), ∃ r rs, rowsT now l = r :: rs
  | [], now => ⟨now, [], rfl⟩
  | t :: l, now => by
    rw [rowsT]
    split
    · exact ⟨_, _, rfl⟩
    · exact rowsT_ne l _
theorem rowsT_len : ∀ (l now : List TokP.Tok), (rowsT now l).length ≤ l.length + 1
  | [], now => Nat.le_refl _
  | t :: l, now => by
    rw [rowsT]
    split
    · have := rowsT_len l []
      rw [List.length_cons, List.length_cons]; omega
    · have := rowsT_len l (now ++ [t])
      rw [List.length_cons]; omega
theorem rowsT_each : ∀ (l now : List TokP.Tok) (x : List TokP.Tok), x ∈ rowsT now l → x.length ≤ now.length + l.length
  | [], now, x, h => by
    rw [rowsT, List.mem_singleton] at h
    rw [h]; exact Nat.le_refl _
  | t :: l, now, x, h => by
    rw [rowsT] at h
    rw [List.length_cons]
    split at h
    · rcases List.mem_cons.1 h with rfl | h
      · omega
      · have := rowsT_each l [] x h
        rw [List.length_nil] at this; omega
    · have := rowsT_each l (now ++ [t]) x h
      rw [List.length_append, List.length_singleton] at this; omega
theorem elemR : Tryz.prog.elem 50 = 55 := by
  unfold Program.elem
  rw [Tryz.underlying50]
theorem underR : Tryz.prog.underlying 50 = some (.slice (Tryz.prog.elem 50)) := by
  rw [elemR]
  exact Tryz.underlying50
theorem sizeR (W : World) : (sizeOf (Tryz.prog.elem 50)).run Tryz.prog W = .ok 1 W := by
  rw [elemR]
  exact Tryz.sizeOf55 W
/-- The rows behind the first. -/
theorem run_restR {w : World} {g c n : Nat} {r : List TokP.Tok} {rs : List (List TokP.Tok)} (h : PcsOf w (.slice (some ⟨g, 0, none⟩) n c) (r :: rs)) (hn : (r :: rs).length = n) :
    (∃ u, w.cell? ⟨g, 0, none⟩ = some u ∧ HasT w u r) ∧ ∃ A C, (∀ W : World, (Instr.slice 50 (.slice (some ⟨g, 0, none⟩) n c) (some (.int .i64 1)) none none).run Tryz.prog W = .ok (.slice A (n - 1) C) W) ∧ RwsAt w (.slice A (n - 1) C) rs := by
  obtain ⟨g', c', e, hc, hp⟩ := h
  injection e with e1 e2 e3
  injection e1 with e1
  injection e1 with e1 _ _
  subst e1 e3
  rw [List.length_cons] at hn hc
  refine ⟨?_, ?_⟩
  · obtain ⟨u, hu, ht⟩ := hp 0 r rfl
    exact ⟨u, hu, ht⟩
  · have hr := fun W : World => run_slice_l W 50 (some ⟨g, 0, none⟩) n c underR .i64 1 (by omega) (by omega)
    simp only [sizeR, Result.andThen] at hr
    refine ⟨_, _, hr, ?_⟩
    by_cases hc1 : c = 1
    · have h0 : rs = [] := List.eq_nil_of_length_eq_zero (by omega)
      subst h0
      exact .inl ⟨⟨_, _, by rw [show n - 1 = 0 by simp at hn; omega]⟩, rfl⟩
    · refine .inr ⟨g, 1, c - 1, ?_, fun i x hx => ?_⟩
      · simp only [Int.toNat_one]
        rw [if_neg hc1, Option.map_some, add_none, show n - 1 = rs.length by omega]
      · obtain ⟨u, hu, ht⟩ := hp (i + 1) x hx
        exact ⟨u, by rw [Nat.add_comm 1 i]; exact hu, ht⟩
theorem low_word : ∀ n : Fin 256, wordB (lowA (UInt8.ofNat n.val)) = wordB (UInt8.ofNat n.val) := by decide +kernel
theorem word_low (s : List UInt8) : wordW (s.map lowA) = wordW s := by
  unfold wordW
  have h : ∀ l : List UInt8, (l.map lowA).all wordB = l.all wordB := fun l => by
    induction l with
    | nil => rfl
    | cons c l ih => rw [List.map_cons, List.all_cons, List.all_cons, ih, byte_all (P := fun c => wordB (lowA c) = wordB c) low_word c]
  rw [h]
  cases s <;> rfl
theorem filter_join (p : TokP.Tok → Bool) (l : List TokP.Tok) : (joinL (l.filter p)).length ≤ (joinL l).length := by
  induction l with
  | nil => exact Nat.le_refl _
  | cons t l ih =>
    rw [List.filter_cons]
    split
    · rw [join_cons, join_cons, List.length_append, List.length_append]; omega
    · rw [join_cons, List.length_append]; omega
theorem bare_join (l : List TokP.Tok) : (joinL (bareT l)).length ≤ (joinL l).length := filter_join _ l
/-- What is known of the rows of a string. -/
theorem rows_known (S : ByteArray) (hS : S.size ≤ 4000000) : ∃ r rs, rowsT [] (bareT (scanL S.data.toList)) = r :: rs ∧ (r :: rs).length ≤ 4000000 + 1 ∧ (∀ x ∈ r :: rs, x.length ≤ 4000000) ∧ szR (r :: rs) ≤ S.size := by
  obtain ⟨r, rs, h⟩ := rowsT_ne (bareT (scanL S.data.toList)) []
  have hln := scan_len S.data.toList
  rw [← size_list] at hln
  have hbl := bare_len (scanL S.data.toList) (scanL S.data.toList).length
  rw [List.take_length] at hbl
  have hb : (bareT (scanL S.data.toList)).length ≤ 4000000 := by
    have : (bareT (scanL S.data.toList)) = bareL (scanL S.data.toList) := rfl
    rw [this]; omega
  refine ⟨r, rs, h, ?_, ?_, ?_⟩
  · rw [← h]
    have := rowsT_len (bareT (scanL S.data.toList)) []
    omega
  · rw [← h]
    intro x hx
    have := rowsT_each _ [] x hx
    rw [List.length_nil] at this
    omega
  · rw [← h]
    have h1 := rows_sum (bareT (scanL S.data.toList)) []
    have h2 := bare_join (scanL S.data.toList)
    rw [join_scan, ← size_list] at h2
    have h0 : (joinL ([] : List TokP.Tok)).length = 0 := rfl
    omega
set_option maxRecDepth 100000 in
set_option maxHeartbeats 8000000 in
theorem disp_any (S : ByteArray) (hS : S.size ≤ 3900000) (w : World) (hv : Vr w) :
    Calls Tryz.prog 12 #[.string S] w fun e w' => ∃ a c, e = .returned (.tuple #[.string (strL (dispC repF decF numF S.data.toList).1), .slice a (dispC repF decF numF S.data.toList).2.length c]) ∧ OwnP w' (.slice a (dispC repF decF numF S.data.toList).2.length c) (dispC repF decF numF S.data.toList).2 ∧ Below w.heap.size w w' := by
  obtain ⟨r, rs, hrow, hlen, heach, hsum⟩ := rows_known S (by omega)
  have hD : dispC repF decF numF S.data.toList = ((if wordW ((joinL r).map lowA) = true then (joinL r).map lowA else []), listP repF decF numF rs) := by
    unfold dispC
    rw [hrow]
    rfl
  rw [hD]
  obtain ⟨N, hN⟩ : ∃ N, (r :: rs).length = N := ⟨_, rfl⟩
  have cR := fun W => rows_p S (by omega) (r :: rs) hrow N hN W
  have hz : (joinL r).length ≤ 3900000 := by
    have := row_le (rows := r :: rs) (r := r) (by simp)
    omega
  have hz2 : szR rs ≤ 3900000 := by
    have h3 : szR (r :: rs) = (joinL r).length + szR rs := by unfold szR; rw [List.map_cons, List.sum_cons]
    omega
  have cJ := fun W u (h : Hid (HasT W u r)) => join_any u r W h.out.hasF (by omega) (by have := heach r (by simp); omega)
  have cW := fun W => word_any (strL (joinL r)) (by rw [strL_size]; omega) W
  rw [strL_list] at cW
  have cP := fun v W (h : Hid (RwsAt W v rs)) (hv : Hid (Vr W)) => params_any v rs (by rw [List.length_cons] at hlen; omega) (fun x hx => heach x (by simp [hx])) (by omega) W h hv.out
  have hwl : wordW ((joinL r).map lowA) = wordW (joinL r) := word_low (joinL r)
  rw [hwl]
  have HV := Lib.hid hv
  have hN1 : (0 : Int) < (N : Int) := by rw [← hN, List.length_cons]; omega
  have hN2 : (1 : Int) ≤ (N : Int) := by omega
  have HNN := Lib.hid hN
  obtain ⟨LP, hLP⟩ : ∃ LP, listP repF decF numF rs = LP := ⟨_, rfl⟩
  rw [hLP] at cP ⊢
  have e0 : strL [] = (⟨#[]⟩ : ByteArray) := rfl
  cases hww : wordW (joinL r) with
  | true =>
    rw [hww] at cW
    have cL := fun W => lower_any (strL (joinL r)) (by rw [strL_size]; omega) W
    rw [strL_list] at cL
    simp only [if_true]
    generalize strL (joinL r) = J at cJ cW cL
    generalize strL ((joinL r).map lowA) = ANS at cL ⊢
    clear hD hrow hlen heach hsum hN hz hz2 hwl hww hLP hv
    go_enter Tryz.func12, Tryz.ntmps12
    go_wp2_with (first
      | (go_at_call 29; (with_reducible refine (cR _).mono ?_); rintro e w2 ⟨g, c, rfl, hp, hb2⟩; obtain ⟨⟨u, hu, hT⟩, A1, C1, R1, hW1⟩ := run_restR hp HNN.out; have HB2 := Lib.hid hb2; have HT := Lib.hid hT; have HRW := Lib.hid hW1; clear hp hb2 cR hT hW1)
      | (go_at_call 31; (with_reducible refine (cJ _ _ HT).mono ?_); rintro e w3 ⟨rfl, hb3⟩; have HB3 := Lib.hid (HB2.out.trans (hb3.mono HB2.out.size)); have HR3 := Lib.hid (HRW.out.step hb3); have hu3 := cell_below hu hb3; clear hb3 cJ)
      | (go_at_call 32; (with_reducible refine (cW _).mono ?_); rintro e w4 ⟨rfl, rfl⟩))
    have hb : Hid (Below w3.heap.size w3 w3) := Lib.hid (Below.refl _ _)
    have hq1 := fun Q (hb : Hid (Below w3.heap.size w3 Q)) => (cL Q).mono (fun e w' hh => (⟨hh.1, Lib.hid (hb.out.trans (hh.2.mono hb.out.size))⟩ : e = .returned (.string ANS) ∧ Hid (Below w3.heap.size w3 w')))
    have hq2 := fun Q (hb : Hid (Below w3.heap.size w3 Q)) => (cP (.slice A1 (N - 1) C1) Q (Lib.hid (HR3.out.step hb.out)) (Lib.hid (HV.out.below (HB3.out.trans (hb.out.mono HB3.out.size))))).mono (fun e w' hh => (by
      obtain ⟨a, c, h1, h2, h3⟩ := hh
      exact ⟨a, c, h1, Lib.hid h2, Lib.hid (hb.out.trans (h3.mono hb.out.size))⟩ : ∃ a c, e = .returned (.slice a LP.length c) ∧ Hid (OwnP w' (.slice a LP.length c) LP) ∧ Hid (Below w3.heap.size w3 w')))
    have HK := Lib.hid (fun Q (h : Hid (Below w3.heap.size w3 Q)) => (⟨h, cell_below hu3 h.out⟩ : Hid (Below w3.heap.size w3 Q) ∧ Q.cell? ⟨g, 0, none⟩ = some u))
    clear cL cP
    go_region_held3 (fun Q => Hid (Below w3.heap.size w3 Q) ∧ Q.cell? ⟨g, 0, none⟩ = some u)
      (first | exact HK.out _ hb | exact HK.out _ (Lib.hid hb.out.drew) | exact HK.out _ (by assumption) | exact HK.out _ (Lib.hid (Below.drew (Lib.Hid.out (by assumption)))))
      (first
        | (go_at_call 33; (with_reducible refine (hq1 _ (by first | assumption | exact Lib.hid hb.out.drew)).mono ?_); rintro e w5 ⟨rfl, hs5⟩; clear hq1)
        | (go_at_call 34; (with_reducible refine (hq2 _ hs5).mono ?_); rintro e w6 ⟨a6, c6, rfl, ho6, hs6⟩; clear hq2))
    go_wp2_with fail
    go_ret2
    exact ⟨a6, c6, rfl, ho6.out, HB3.out.trans (hs6.out.mono HB3.out.size)⟩
  | false =>
    rw [hww] at cW
    have cL := fun W => lower_any ⟨#[]⟩ (by decide) W
    rw [show (⟨#[]⟩ : ByteArray).data.toList.map lowA = [] from rfl] at cL
    simp only [Bool.false_eq_true, if_false]
    generalize strL (joinL r) = J at cJ cW cL
    rw [e0] at cL ⊢
    obtain ⟨ANS, hANS⟩ : ∃ A : ByteArray, (⟨#[]⟩ : ByteArray) = A := ⟨_, rfl⟩
    clear hD hrow hlen heach hsum hN hz hz2 hwl hww hLP hv hANS
    go_enter Tryz.func12, Tryz.ntmps12
    go_wp2_with (first
      | (go_at_call 29; (with_reducible refine (cR _).mono ?_); rintro e w2 ⟨g, c, rfl, hp, hb2⟩; obtain ⟨⟨u, hu, hT⟩, A1, C1, R1, hW1⟩ := run_restR hp HNN.out; have HB2 := Lib.hid hb2; have HT := Lib.hid hT; have HRW := Lib.hid hW1; clear hp hb2 cR hT hW1)
      | (go_at_call 31; (with_reducible refine (cJ _ _ HT).mono ?_); rintro e w3 ⟨rfl, hb3⟩; have HB3 := Lib.hid (HB2.out.trans (hb3.mono HB2.out.size)); have HR3 := Lib.hid (HRW.out.step hb3); have hu3 := cell_below hu hb3; clear hb3 cJ)
      | (go_at_call 32; (with_reducible refine (cW _).mono ?_); rintro e w4 ⟨rfl, rfl⟩))
    have hb : Hid (Below w3.heap.size w3 w3) := Lib.hid (Below.refl _ _)
    have hq1 := fun Q (hb : Hid (Below w3.heap.size w3 Q)) => (cL Q).mono (fun e w' hh => (⟨hh.1, Lib.hid (hb.out.trans (hh.2.mono hb.out.size))⟩ : e = .returned (.string ⟨#[]⟩) ∧ Hid (Below w3.heap.size w3 w')))
    have hq2 := fun Q (hb : Hid (Below w3.heap.size w3 Q)) => (cP (.slice A1 (N - 1) C1) Q (Lib.hid (HR3.out.step hb.out)) (Lib.hid (HV.out.below (HB3.out.trans (hb.out.mono HB3.out.size))))).mono (fun e w' hh => (by
      obtain ⟨a, c, h1, h2, h3⟩ := hh
      exact ⟨a, c, h1, Lib.hid h2, Lib.hid (hb.out.trans (h3.mono hb.out.size))⟩ : ∃ a c, e = .returned (.slice a LP.length c) ∧ Hid (OwnP w' (.slice a LP.length c) LP) ∧ Hid (Below w3.heap.size w3 w')))
    have HK := Lib.hid (fun Q (h : Hid (Below w3.heap.size w3 Q)) => (⟨h, cell_below hu3 h.out⟩ : Hid (Below w3.heap.size w3 Q) ∧ Q.cell? ⟨g, 0, none⟩ = some u))
    clear cL cP
    go_region_held3 (fun Q => Hid (Below w3.heap.size w3 Q) ∧ Q.cell? ⟨g, 0, none⟩ = some u)
      (first | exact HK.out _ hb | exact HK.out _ (Lib.hid hb.out.drew) | exact HK.out _ (by assumption) | exact HK.out _ (Lib.hid (Below.drew (Lib.Hid.out (by assumption)))))
      (first
        | (go_at_call 33; (with_reducible refine (hq1 _ (by first | assumption | exact Lib.hid hb.out.drew)).mono ?_); rintro e w5 ⟨rfl, hs5⟩; clear hq1)
        | (go_at_call 34; (with_reducible refine (hq2 _ hs5).mono ?_); rintro e w6 ⟨a6, c6, rfl, ho6, hs6⟩; clear hq2))
    go_wp2_with fail
    go_ret2
    exact ⟨a6, c6, rfl, ho6.out, HB3.out.trans (hs6.out.mono HB3.out.size)⟩
end Go.Proofs.YtdinachiiimngaaGreatDoor
namespace Go.Proofs.YtdinachiiimngaaGreatDoor
open Go.ChangeShapes Go.WideShapes Go.ChangeAt Go.RowKit
open TokP AdrP CtP

/-- A content type in the box g. -/
def Tyx (w : World) (g : Nat) (K S : ByteArray) (V : Value) : Prop := w.heap[g]? = some (.cells #[.string K, .string S, V] 26 (0, 0))
theorem Tyx.lt {w : World} {g : Nat} {K S : ByteArray} {V : Value} (h : Tyx w g K S V) : g < w.heap.size := (Array.getElem?_eq_some_iff.1 h).1
theorem Tyx.step {w w' : World} {g : Nat} {K S : ByteArray} {V : Value} (h : Tyx w g K S V) (hb : Below w.heap.size w w') : Tyx w' g K S V := (hb.block _ h.lt).trans h
theorem tyx_new (w : World) (K S : ByteArray) (V : Value) : Tyx (w.alloc (.cells #[.string K, .string S, V] 26)) w.heap.size K S V := World.alloc_heap_new w _
theorem Tyx.c0 {w : World} {g : Nat} {K S : ByteArray} {V : Value} (h : Tyx w g K S V) : w.cell? ⟨g, 0, none⟩ = some (.string K) := by rw [Lib.cell_of_heap h]; rfl
theorem Tyx.c1 {w : World} {g : Nat} {K S : ByteArray} {V : Value} (h : Tyx w g K S V) : w.cell? ⟨g, 1, none⟩ = some (.string S) := by rw [Lib.cell_of_heap h]; rfl
theorem Tyx.c2 {w : World} {g : Nat} {K S : ByteArray} {V : Value} (h : Tyx w g K S V) : w.cell? ⟨g, 2, none⟩ = some V := by rw [Lib.cell_of_heap h]; rfl
theorem Tyx.fr {w : World} {g : Nat} {K S : ByteArray} {V : Value} (h : Tyx w g K S V) (i : Nat) : w.frozen? ⟨g, i, none⟩ = false := Lib.frozen_of_heap h i
theorem Tyx.all {w : World} {g : Nat} {K S : ByteArray} {V : Value} (h : Tyx w g K S V) : w.cell? ⟨g, 0, none⟩ = some (.string K) ∧ w.cell? ⟨g, 1, none⟩ = some (.string S) ∧ w.cell? ⟨g, 2, none⟩ = some V ∧ ∀ i, w.frozen? ⟨g, i, none⟩ = false := ⟨h.c0, h.c1, h.c2, h.fr⟩
theorem set_ty {w : World} {g : Nat} {K S K' S' : ByteArray} {V V' : Value} (h : Tyx w g K S V) : Tyx (((w.setCell ⟨g, 0, none⟩ (.string K')).setCell ⟨g, 1, none⟩ (.string S')).setCell ⟨g, 2, none⟩ V') g K' S' V' := by
  have h' : w.heap[g]? = some (.cells #[.string K, .string S, V] 26 (0, 0)) := h
  show (((w.setCell ⟨g, 0, none⟩ (.string K')).setCell ⟨g, 1, none⟩ (.string S')).setCell ⟨g, 2, none⟩ V').heap[g]? = _
  simp [World.setCell, Array.getElem?_modify, h']
/-- What lies in a cell. -/
def cv (Q : World) (b i : Nat) : Value := (Q.cell? ⟨b, i, none⟩).getD undef
theorem tyx_limbs {w Q : World} {K S : ByteArray} {V : Value} (h : Below w.heap.size w Q) (x : Tyx Q w.heap.size K S V) : Hid (Below w.heap.size w Q) ∧ Q.cell? ⟨w.heap.size, 0, none⟩ = some (cv Q w.heap.size 0) ∧ Q.cell? ⟨w.heap.size, 1, none⟩ = some (cv Q w.heap.size 1) ∧ Q.cell? ⟨w.heap.size, 2, none⟩ = some (cv Q w.heap.size 2) ∧ ∀ i, Q.frozen? ⟨w.heap.size, i, none⟩ = false :=
  ⟨Lib.hid h, by unfold cv; rw [x.c0]; rfl, by unfold cv; rw [x.c1]; rfl, by unfold cv; rw [x.c2]; rfl, x.fr⟩
theorem below_three {w W : World} {C g : Nat} (h : Below C w W) (hg : C ≤ g) (v0 v1 v2 : Value) : Below C w (((W.setCell ⟨g, 0, none⟩ v0).setCell ⟨g, 1, none⟩ v1).setCell ⟨g, 2, none⟩ v2) :=
  below_at (below_at (below_at h _ hg _) _ hg _) _ hg _
theorem rowsTy : (Tryz.prog.info? 26).map (·.size) = some 3 := by kernel_rfl
theorem results_ty {fn : Func} {p u : Tmp} (h : fn.results = #[.cell p 26, .tmp u]) (tmps : Array Value) (w : World) (g : Nat) (K S : ByteArray) (V : Value) (hp : tmps.getD p undef = .pointer (some ⟨g, 0, none⟩)) (hg : Tyx w g K S V) :
    (results fn tmps).run Tryz.prog w = .ok (.tuple #[.agg #[.string K, .string S, V], tmps.getD u undef]) w := by
  rw [results_cell_tmp h, hp]
  have := run_loadVar_row (P := Tryz.prog) w g 26 26 #[.string K, .string S, V] (0, 0) _ hg Tryz.underlying26 rfl rowsTy
  simp [asAddr, Result.andThen, this]
theorem upC_le (d : UInt8) (s : List UInt8) : (upC d s).length ≤ s.length := (List.takeWhile_prefix _).length_le
theorem behind_le (d : UInt8) (s : List UInt8) : (behind d s).length ≤ s.length := by unfold behind; rw [List.length_drop]; omega
/-- A parameter list in a row of its own, or anywhere once it is read. -/
theorem OwnP.three {w : World} {g : Nat} {v : Value} {l : List (List UInt8 × List UInt8)} (h : OwnP w v l) (v0 v1 v2 : Value) {K S : ByteArray} {V : Value} (hx : Tyx w g K S V) : OwnP (((w.setCell ⟨g, 0, none⟩ v0).setCell ⟨g, 1, none⟩ v1).setCell ⟨g, 2, none⟩ v2) v l := by
  obtain ⟨b, ho⟩ := h
  refine ⟨b, ho.1, ?_⟩
  rcases ho.2 with h1 | ⟨k, cap, cur, rfl, hbg, hg, rest⟩
  · exact .inl h1
  · refine .inr ⟨k, cap, cur, rfl, hbg, ?_, rest⟩
    have hk : k ≠ g := by
      rintro rfl
      have hx' : w.heap[k]? = some (.cells #[.string K, .string S, V] 26 (0, 0)) := hx
      rw [hx'] at hg
      have := Option.some.inj hg
      injection this with _ e2 _
      exact absurd e2 (by decide)
    rw [Below.heap_setCell _ _ _ _ hk, Below.heap_setCell _ _ _ _ hk, Below.heap_setCell _ _ _ _ hk]
    exact hg
set_option maxRecDepth 100000 in
set_option maxHeartbeats 8000000 in
theorem parse_c (S : ByteArray) (hS : S.size ≤ 3900000) (w : World) (hv : Vr w) :
    Calls Tryz.prog 10 #[.string S] w fun e w' => ∃ a c, e = .returned (.tuple #[.agg #[.string (strL (parseC repF decF numF S.data.toList).1.1), .string (strL (parseC repF decF numF S.data.toList).1.2.1), .slice a (parseC repF decF numF S.data.toList).1.2.2.length c], .bool (parseC repF decF numF S.data.toList).2]) ∧ OwnP w' (.slice a (parseC repF decF numF S.data.toList).1.2.2.length c) (parseC repF decF numF S.data.toList).1.2.2 ∧ Below w.heap.size w w' := by
  obtain ⟨r, rs, hrow, hlen, heach, hsum⟩ := rows_known S (by omega)
  have hD : parseC repF decF numF S.data.toList = if (wordW (upC 47 (joinL r)) && wordW (behind 47 (joinL r))) = true then (((upC 47 (joinL r)).map lowA, (behind 47 (joinL r)).map lowA, listP repF decF numF rs), true) else (textPlain, false) := by
    unfold parseC
    rw [hrow]
    show (if 47 ∈ joinL r ∧ wordW (upC 47 (joinL r)) = true ∧ wordW (behind 47 (joinL r)) = true then (((upC 47 (joinL r)).map lowA, (behind 47 (joinL r)).map lowA, listP repF decF numF rs), true) else (textPlain, false)) = _
    by_cases h47 : 47 ∈ joinL r
    · by_cases h1 : wordW (upC 47 (joinL r)) = true
      · by_cases h2 : wordW (behind 47 (joinL r)) = true
        · rw [if_pos ⟨h47, h1, h2⟩, if_pos (by rw [h1, h2]; rfl)]
        · rw [if_neg (fun h => h2 h.2.2), if_neg (by rw [h1]; simpa using h2)]
      · rw [if_neg (fun h => h1 h.2.1), if_neg (by simp [h1])]
    · have hb : behind 47 (joinL r) = [] := by
        unfold behind
        have : upC 47 (joinL r) = joinL r := by
          unfold upC
          have := List.takeWhile_append_of_pos (p := fun c => c != 47) (l₁ := joinL r) (l₂ := []) (fun c hc => by
            rw [bne_iff_ne]
            rintro rfl
            exact h47 hc)
          rw [List.append_nil, List.takeWhile_nil, List.append_nil] at this
          exact this
        rw [this, List.drop_eq_nil_of_le (by omega)]
      rw [if_neg (fun h => h47 h.1), if_neg (by rw [hb]; simp [wordW])]
  rw [hD]
  obtain ⟨N, hN⟩ : ∃ N, (r :: rs).length = N := ⟨_, rfl⟩
  have cR := fun W => rows_p S (by omega) (r :: rs) hrow N hN W
  have hz : (joinL r).length ≤ 3900000 := by
    have := row_le (rows := r :: rs) (r := r) (by simp)
    omega
  have hz2 : szR rs ≤ 3900000 := by
    have h3 : szR (r :: rs) = (joinL r).length + szR rs := by unfold szR; rw [List.map_cons, List.sum_cons]
    omega
  have hu1 := upC_le 47 (joinL r)
  have hu2 := behind_le 47 (joinL r)
  have cJ := fun W u (h : Hid (HasT W u r)) => join_any u r W h.out.hasF (by omega) (by have := heach r (by simp); omega)
  have cC := fun W => cut_all 47 (strL (joinL r)) (by rw [strL_size]; omega) W
  rw [strL_list] at cC
  have cW1 := fun W => word_any (strL (upC 47 (joinL r))) (by rw [strL_size]; omega) W
  have cW2 := fun W => word_any (strL (behind 47 (joinL r))) (by rw [strL_size]; omega) W
  have cL1 := fun W => lower_any (strL (upC 47 (joinL r))) (by rw [strL_size]; omega) W
  have cL2 := fun W => lower_any (strL (behind 47 (joinL r))) (by rw [strL_size]; omega) W
  rw [strL_list] at cW1 cW2 cL1 cL2
  have cP := fun v W (h : Hid (RwsAt W v rs)) (hv : Hid (Vr W)) => params_any v rs (by rw [List.length_cons] at hlen; omega) (fun x hx => heach x (by simp [hx])) (by omega) W h hv.out
  have HV := Lib.hid hv
  have hN1 : (0 : Int) < (N : Int) := by rw [← hN, List.length_cons]; omega
  have hN2 : (1 : Int) ≤ (N : Int) := by omega
  have HNN := Lib.hid hN
  obtain ⟨LP, hLP⟩ : ∃ LP, listP repF decF numF rs = LP := ⟨_, rfl⟩
  rw [hLP] at cP ⊢
  have HX0 := Lib.hid (tyx_new w ⟨#[]⟩ ⟨#[]⟩ (.slice none 0 0))
  have HB0 := Lib.hid ((Below.refl w.heap.size w).alloc (Nat.le_refl _) (.cells #[.string ⟨#[]⟩, .string ⟨#[]⟩, .slice none 0 0] 26))
  obtain ⟨W0, hW0⟩ : ∃ W0, w.alloc (.cells #[.string ⟨#[]⟩, .string ⟨#[]⟩, .slice none 0 0] 26) = W0 := ⟨_, rfl⟩
  rw [hW0] at HX0 HB0
  have HW0 := Lib.hid hW0
  generalize (joinL r).contains 47 = fnd at cC
  clear hW0
  cases hw1 : wordW (upC 47 (joinL r)) with
  | false =>
    rw [hw1] at cW1
    rw [Bool.false_and, if_neg Bool.false_ne_true]
    generalize strL ((upC 47 (joinL r)).map lowA) = K1 at cL1
    generalize strL ((behind 47 (joinL r)).map lowA) = K2 at cL2
    generalize strL (upC 47 (joinL r)) = U1 at cC cW1 cL1
    generalize strL (behind 47 (joinL r)) = U2 at cC cW2 cL2
    generalize strL (joinL r) = J at cJ cC
    clear hD hrow hlen heach hsum hN hz hz2 hu1 hu2 hLP hv hw1
    go_enter Tryz.func10, Tryz.ntmps10
    go_wp2_with fail
    rw [HW0.out]
    go_wp2_with (first
      | (go_at_call 29; (with_reducible refine (cR _).mono ?_); rintro e w2 ⟨g, c, rfl, hp, hb2⟩; obtain ⟨⟨u, hu, hT⟩, A1, C1, R1, hW1⟩ := run_restR hp HNN.out; have HB2 := Lib.hid hb2; have HX2 := Lib.hid (HX0.out.step hb2); have HT := Lib.hid hT; have HRW := Lib.hid hW1; clear hp hb2 cR hT hW1)
      | (go_at_call 31; (with_reducible refine (cJ _ _ HT).mono ?_); rintro e w3 ⟨rfl, hb3⟩; have HB3 := Lib.hid (HB2.out.trans (hb3.mono HB2.out.size)); have HX3 := Lib.hid (HX2.out.step hb3); have HR3 := Lib.hid (HRW.out.step hb3); have hu3 := cell_below hu hb3; clear hb3 cJ)
      | (go_at_call 30; (with_reducible refine (cC _).mono ?_); rintro e w4 ⟨rfl, hb4⟩; have HB4 := Lib.hid (HB3.out.trans (hb4.mono HB3.out.size)); have HX4 := Lib.hid (HX3.out.step hb4); have HR4 := Lib.hid (HR3.out.step hb4); have hu4 := cell_below hu3 hb4; obtain ⟨y0, y1, y2, yf⟩ := HX4.out.all; clear hb4 cC)
      | (go_at_call 32; (with_reducible refine (cW1 _).mono ?_); rintro e w5 ⟨rfl, rfl⟩))
    exact bodyPost_ret (results_ty rfl _ _ w.heap.size _ _ _ rfl (set_ty HX4.out)) rfl ⟨none, 0, rfl, ⟨0, World.ownsRow_nil _ _ _ _⟩, below_three (HB0.out.trans (HB4.out.mono HB0.out.size)) (Nat.le_refl _) _ _ _⟩
  | true =>
    rw [hw1] at cW1
    rw [Bool.true_and]
    cases hw2 : wordW (behind 47 (joinL r)) with
    | false =>
      rw [hw2] at cW2
      rw [if_neg Bool.false_ne_true]
      generalize strL ((upC 47 (joinL r)).map lowA) = K1 at cL1
      generalize strL ((behind 47 (joinL r)).map lowA) = K2 at cL2
      generalize strL (upC 47 (joinL r)) = U1 at cC cW1 cL1
      generalize strL (behind 47 (joinL r)) = U2 at cC cW2 cL2
      generalize strL (joinL r) = J at cJ cC
      clear hD hrow hlen heach hsum hN hz hz2 hu1 hu2 hLP hv hw1 hw2
      go_enter Tryz.func10, Tryz.ntmps10
      go_wp2_with fail
      rw [HW0.out]
      go_wp2_with (first
        | (go_at_call 29; (with_reducible refine (cR _).mono ?_); rintro e w2 ⟨g, c, rfl, hp, hb2⟩; obtain ⟨⟨u, hu, hT⟩, A1, C1, R1, hW1⟩ := run_restR hp HNN.out; have HB2 := Lib.hid hb2; have HX2 := Lib.hid (HX0.out.step hb2); have HT := Lib.hid hT; have HRW := Lib.hid hW1; clear hp hb2 cR hT hW1)
        | (go_at_call 31; (with_reducible refine (cJ _ _ HT).mono ?_); rintro e w3 ⟨rfl, hb3⟩; have HB3 := Lib.hid (HB2.out.trans (hb3.mono HB2.out.size)); have HX3 := Lib.hid (HX2.out.step hb3); have HR3 := Lib.hid (HRW.out.step hb3); have hu3 := cell_below hu hb3; clear hb3 cJ)
        | (go_at_call 30; (with_reducible refine (cC _).mono ?_); rintro e w4 ⟨rfl, hb4⟩; have HB4 := Lib.hid (HB3.out.trans (hb4.mono HB3.out.size)); have HX4 := Lib.hid (HX3.out.step hb4); have HR4 := Lib.hid (HR3.out.step hb4); have hu4 := cell_below hu3 hb4; obtain ⟨y0, y1, y2, yf⟩ := HX4.out.all; clear hb4 cC)
        | (go_at_call 32; (with_reducible refine (cW1 _).mono ?_); rintro e w5 ⟨rfl, rfl⟩)
        | (go_at_call 32; (with_reducible refine (cW2 _).mono ?_); rintro e w6 ⟨rfl, rfl⟩))
      exact bodyPost_ret (results_ty rfl _ _ w.heap.size _ _ _ rfl (set_ty HX4.out)) rfl ⟨none, 0, rfl, ⟨0, World.ownsRow_nil _ _ _ _⟩, below_three (HB0.out.trans (HB4.out.mono HB0.out.size)) (Nat.le_refl _) _ _ _⟩
    | true =>
      rw [hw2] at cW2
      rw [if_pos rfl]
      generalize strL ((upC 47 (joinL r)).map lowA) = K1 at cL1 ⊢
      generalize strL ((behind 47 (joinL r)).map lowA) = K2 at cL2 ⊢
      generalize strL (upC 47 (joinL r)) = U1 at cC cW1 cL1
      generalize strL (behind 47 (joinL r)) = U2 at cC cW2 cL2
      generalize strL (joinL r) = J at cJ cC
      clear hD hrow hlen heach hsum hN hz hz2 hu1 hu2 hLP hv hw1 hw2
      go_enter Tryz.func10, Tryz.ntmps10
      go_wp2_with fail
      rw [HW0.out]
      go_wp2_with (first
        | (go_at_call 29; (with_reducible refine (cR _).mono ?_); rintro e w2 ⟨g, c, rfl, hp, hb2⟩; obtain ⟨⟨u, hu, hT⟩, A1, C1, R1, hW1⟩ := run_restR hp HNN.out; have HB2 := Lib.hid hb2; have HX2 := Lib.hid (HX0.out.step hb2); have HT := Lib.hid hT; have HRW := Lib.hid hW1; clear hp hb2 cR hT hW1)
        | (go_at_call 31; (with_reducible refine (cJ _ _ HT).mono ?_); rintro e w3 ⟨rfl, hb3⟩; have HB3 := Lib.hid (HB2.out.trans (hb3.mono HB2.out.size)); have HX3 := Lib.hid (HX2.out.step hb3); have HR3 := Lib.hid (HRW.out.step hb3); have hu3 := cell_below hu hb3; clear hb3 cJ)
        | (go_at_call 30; (with_reducible refine (cC _).mono ?_); rintro e w4 ⟨rfl, hb4⟩; have HB4 := Lib.hid (HB3.out.trans (hb4.mono HB3.out.size)); have HX4 := Lib.hid (HX3.out.step hb4); have HR4 := Lib.hid (HR3.out.step hb4); have hu4 := cell_below hu3 hb4; obtain ⟨y0, y1, y2, yf⟩ := HX4.out.all; clear hb4 cC)
        | (go_at_call 32; (with_reducible refine (cW1 _).mono ?_); rintro e w5 ⟨rfl, rfl⟩)
        | (go_at_call 32; (with_reducible refine (cW2 _).mono ?_); rintro e w6 ⟨rfl, rfl⟩))
      have hb : Hid (Below w4.heap.size w4 w4) := Lib.hid (Below.refl _ _)
      have hq1 := fun Q (hb : Hid (Below w4.heap.size w4 Q)) => (cL1 Q).mono (fun e w' hh => (⟨hh.1, Lib.hid (hb.out.trans (hh.2.mono hb.out.size))⟩ : e = .returned (.string K1) ∧ Hid (Below w4.heap.size w4 w')))
      have hq2 := fun Q (hb : Hid (Below w4.heap.size w4 Q)) => (cL2 Q).mono (fun e w' hh => (⟨hh.1, Lib.hid (hb.out.trans (hh.2.mono hb.out.size))⟩ : e = .returned (.string K2) ∧ Hid (Below w4.heap.size w4 w')))
      have hq3 := fun Q (hb : Hid (Below w4.heap.size w4 Q)) => (cP (.slice A1 (N - 1) C1) Q (Lib.hid (HR4.out.step hb.out)) (Lib.hid (HV.out.below (HB0.out.trans ((HB4.out.trans (hb.out.mono HB4.out.size)).mono HB0.out.size))))).mono (fun e w' hh => (by
        obtain ⟨a, c, h1, h2, h3⟩ := hh
        exact ⟨a, c, h1, Lib.hid h2, Lib.hid (hb.out.trans (h3.mono hb.out.size))⟩ : ∃ a c, e = .returned (.slice a LP.length c) ∧ Hid (OwnP w' (.slice a LP.length c) LP) ∧ Hid (Below w4.heap.size w4 w')))
      have HK := Lib.hid (fun Q (h : Hid (Below w4.heap.size w4 Q)) => (tyx_limbs (HB0.out.trans ((HB4.out.trans (h.out.mono HB4.out.size)).mono HB0.out.size)) (HX4.out.step h.out) : Hid (Below w.heap.size w Q) ∧ Q.cell? ⟨w.heap.size, 0, none⟩ = some (cv Q w.heap.size 0) ∧ Q.cell? ⟨w.heap.size, 1, none⟩ = some (cv Q w.heap.size 1) ∧ Q.cell? ⟨w.heap.size, 2, none⟩ = some (cv Q w.heap.size 2) ∧ ∀ i, Q.frozen? ⟨w.heap.size, i, none⟩ = false))
      have HK2 := Lib.hid (fun Q (h : Hid (Below w4.heap.size w4 Q)) (k s : ByteArray) (v : Value) => (tyx_limbs (below_three (HB0.out.trans ((HB4.out.trans (h.out.mono HB4.out.size)).mono HB0.out.size)) (Nat.le_refl _) (.string k) (.string s) v) (set_ty (HX4.out.step h.out)) : Hid (Below w.heap.size w (((Q.setCell ⟨w.heap.size, 0, none⟩ (.string k)).setCell ⟨w.heap.size, 1, none⟩ (.string s)).setCell ⟨w.heap.size, 2, none⟩ v)) ∧ (((Q.setCell ⟨w.heap.size, 0, none⟩ (.string k)).setCell ⟨w.heap.size, 1, none⟩ (.string s)).setCell ⟨w.heap.size, 2, none⟩ v).cell? ⟨w.heap.size, 0, none⟩ = some (cv (((Q.setCell ⟨w.heap.size, 0, none⟩ (.string k)).setCell ⟨w.heap.size, 1, none⟩ (.string s)).setCell ⟨w.heap.size, 2, none⟩ v) w.heap.size 0) ∧ (((Q.setCell ⟨w.heap.size, 0, none⟩ (.string k)).setCell ⟨w.heap.size, 1, none⟩ (.string s)).setCell ⟨w.heap.size, 2, none⟩ v).cell? ⟨w.heap.size, 1, none⟩ = some (cv (((Q.setCell ⟨w.heap.size, 0, none⟩ (.string k)).setCell ⟨w.heap.size, 1, none⟩ (.string s)).setCell ⟨w.heap.size, 2, none⟩ v) w.heap.size 1) ∧ (((Q.setCell ⟨w.heap.size, 0, none⟩ (.string k)).setCell ⟨w.heap.size, 1, none⟩ (.string s)).setCell ⟨w.heap.size, 2, none⟩ v).cell? ⟨w.heap.size, 2, none⟩ = some (cv (((Q.setCell ⟨w.heap.size, 0, none⟩ (.string k)).setCell ⟨w.heap.size, 1, none⟩ (.string s)).setCell ⟨w.heap.size, 2, none⟩ v) w.heap.size 2) ∧ ∀ i, (((Q.setCell ⟨w.heap.size, 0, none⟩ (.string k)).setCell ⟨w.heap.size, 1, none⟩ (.string s)).setCell ⟨w.heap.size, 2, none⟩ v).frozen? ⟨w.heap.size, i, none⟩ = false))
      clear cL1 cL2 cP
      go_region_held3 (fun Q => Hid (Below w.heap.size w Q) ∧ Q.cell? ⟨w.heap.size, 0, none⟩ = some (cv Q w.heap.size 0) ∧ Q.cell? ⟨w.heap.size, 1, none⟩ = some (cv Q w.heap.size 1) ∧ Q.cell? ⟨w.heap.size, 2, none⟩ = some (cv Q w.heap.size 2) ∧ ∀ i, Q.frozen? ⟨w.heap.size, i, none⟩ = false)
        (first | exact HK.out _ hb | exact HK.out _ (Lib.hid hb.out.drew) | exact HK.out _ (by assumption) | exact HK.out _ (Lib.hid (Below.drew (Lib.Hid.out (by assumption)))) | exact HK2.out _ (by assumption) _ _ _)
        (first
          | (go_at_call 33; (with_reducible refine (hq1 _ (by first | assumption | exact Lib.hid hb.out.drew)).mono ?_); rintro e w5 ⟨rfl, hs5⟩; clear hq1)
          | (go_at_call 33; (with_reducible refine (hq2 _ hs5).mono ?_); rintro e w6 ⟨rfl, hs6⟩; clear hq2)
          | (go_at_call 34; (with_reducible refine (hq3 _ hs6).mono ?_); rintro e w7 ⟨a7, c7, rfl, ho7, hs7⟩; clear hq3))
      go_wp2_with fail
      exact bodyPost_ret (results_ty rfl _ _ w.heap.size _ _ _ rfl (set_ty (HX4.out.step hs7.out))) rfl ⟨a7, c7, rfl, ho7.out.three _ _ _ (HX4.out.step hs7.out), below_three (HB0.out.trans ((HB4.out.trans (hs7.out.mono HB4.out.size)).mono HB0.out.size)) (Nat.le_refl _) _ _ _⟩
set_option maxRecDepth 100000 in
set_option maxHeartbeats 2000000 in
theorem param_c (v : Value) (l : List (List UInt8 × List UInt8)) (nm : ByteArray) (hn : nm.size ≤ 4000000) (hT : ∀ p ∈ l, p.1.length ≤ 4000000 ∧ p.2.length ≤ 4000000) (hl : l.length ≤ 4000000) (R : Option (List UInt8)) (hR : paramV l nm.data.toList = R) (w : World) (h : Hid (HasP w v l)) :
    Calls Tryz.prog 14 #[v, .string nm] w fun e w' => e = .returned (.tuple #[.string (strL (R.getD [])), .bool R.isSome]) ∧ Below w.heap.size w w' := by
  obtain ⟨a, c, rfl⟩ := h.out.form
  obtain ⟨n, hnn⟩ : ∃ n, l.length = n := ⟨_, rfl⟩
  rw [hnn] at h hl ⊢
  have HN := Lib.hid hnn
  have HT := Lib.hid (fun (k : Nat) (f : List UInt8 × List UInt8) (h : l[k]? = some f) => hT f (List.mem_of_getElem? h))
  have HR := Lib.hid hR
  have c2 := fun W => lower_any nm hn W
  obtain ⟨M, hM⟩ : ∃ M, nm.data.toList.map lowA = M := ⟨_, rfl⟩
  rw [hM] at c2
  have HM := Lib.hid hM
  generalize hX2 : strL M = X2 at c2
  have HX2 := Lib.hid hX2
  clear hnn hT hR hn hM hX2
  go_enter Tryz.func14, Tryz.ntmps14
  go_wp2_with (go_at_call 33; (with_reducible refine (c2 _).mono ?_); rintro e w1 ⟨rfl, hb1⟩; have HB1 := Lib.hid hb1; clear hb1 c2)
  go_loopw [12] (fun i wr => ∃ k : Nat, k ≤ n ∧ i = .int .i64 k ∧ Hid (Below w.heap.size w wr) ∧ Hid (∀ (i : Nat) (q : List UInt8 × List UInt8), i < k → l[i]? = some q → ¬ q.1.map lowA = M)) (fun i _ => n - (intOf i).toNat)
  case atStart => exact ⟨0, Nat.zero_le _, rfl, HB1, fun i _ hi => absurd hi (Nat.not_lt_zero _)⟩
  case round =>
    obtain ⟨k, hk, rfl, HB, HF⟩ := hrel
    have F1 : IntKind.i64.wrap ((k : Int) + 1) = (k : Int) + 1 := by rw [IntKind.wrap_i64]; omega
    by_cases hlt : k < n
    · have hlt' : (k : Int) < (n : Int) := by omega
      obtain ⟨g, o, rfl, hfa⟩ := h.out.at (by omega)
      obtain ⟨p, hp⟩ : ∃ p, l[k]? = some p := ⟨_, List.getElem?_eq_getElem (by rw [HN.out]; exact hlt)⟩
      obtain ⟨p0, p1⟩ := hfa.step HB.out k p hp
      obtain ⟨t1, t2⟩ := HT.out k p hp
      have c1 := fun W => lower_any (strL p.1) (by rw [strL_size]; exact t1) W
      rw [strL_list] at c1
      have c3 := fun W => clone_any (strL p.2) W (by rw [strL_size]; exact t2)
      have heq := eq_strL (p.1.map lowA) M
      rw [HX2.out] at heq
      have hnew := World.alloc_heap_new wr (.cells #[.string (strL p.1), .string (strL p.2)] 37)
      have HW := Lib.hid (show Below w.heap.size w (wr.alloc (.cells #[.string (strL p.1), .string (strL p.2)] 37)) from HB.out.alloc HB.out.size _)
      obtain ⟨k0, k1⟩ := box_two hnew
      by_cases hm : p.1.map lowA = M
      · rw [decide_eq_true hm] at heq
        obtain rfl : some p.2 = R := by rw [← HR.out]; exact (param_hit hp (hm.trans HM.out.symm) (fun i q hi hq => HM.out ▸ HF.out i q hi hq)).symm
        have HV := Lib.hid (show strL ((some p.2).getD []) = strL p.2 from rfl)
        generalize strL (p.1.map lowA) = X1 at c1 heq
        generalize strL p.1 = X3 at p0 c1 k0 k1 HW
        generalize strL p.2 = X4 at p1 HV k0 k1 HW c3
        clear hp hm HF HR hfa hnew t1 t2
        go_wp2_with (first
          | (go_at_call 33; (with_reducible refine (c1 _).mono ?_); rintro e w2 ⟨rfl, hb2⟩; have HB2 := Lib.hid (HW.out.trans (hb2.mono HW.out.size)); have k1b := cell_below k1 hb2; clear hb2 c1)
          | (go_at_call 41; (with_reducible refine (c3 _).mono ?_); rintro e w3 ⟨rfl, hb3⟩; have HB3 := Lib.hid (HB2.out.trans (hb3.mono HB2.out.size)); clear hb3 c3))
        go_ret2
        exact ⟨congrArg (fun z => Ending.returned (Value.tuple #[Value.string z, Value.bool true])) HV.out.symm, HB3.out⟩
      · rw [decide_eq_false hm] at heq
        have HF2 := Lib.hid (fun (i : Nat) (q : List UInt8 × List UInt8) (hi : i < k + 1) (hq : l[i]? = some q) => show ¬ q.1.map lowA = M by
          rcases (show i < k ∨ i = k by omega) with h | rfl
          · exact HF.out i q h hq
          · rw [hp] at hq; rw [← Option.some.inj hq]; exact hm)
        generalize strL (p.1.map lowA) = X1 at c1 heq
        generalize strL p.1 = X3 at p0 c1 k0 k1 HW
        generalize strL p.2 = X4 at p1 k0 k1 HW
        clear hp hm HF HR hfa hnew t1 t2 c3
        go_wp2_with (go_at_call 33; (with_reducible refine (c1 _).mono ?_); rintro e w2 ⟨rfl, hb2⟩; have HB2 := Lib.hid (HW.out.trans (hb2.mono HW.out.size)); clear hb2 c1)
        go_roundw
        case rel => exact ⟨k + 1, by omega, by go_num, HB2, HF2⟩
        case measure => simp [intOf]; omega
    · obtain rfl : k = n := by omega
      have hlt' : ¬ (k : Int) < (k : Int) := by omega
      obtain rfl : none = R := by
        rw [← HR.out]
        exact (param_none (fun i q hq => HM.out ▸ HF.out i q (by have := (List.getElem?_eq_some_iff.1 hq).1; rw [HN.out] at this; exact this) hq)).symm
      clear HF HR
      go_wp2_with fail
      go_ret2
      exact ⟨rfl, HB.out⟩
end Go.Proofs.YtdinachiiimngaaGreatDoor
namespace Go.Proofs.YtdinachiiimngaaGreatDoor
open Go.ChangeShapes Go.WideShapes Go.ChangeAt Go.RowKit
open TokP AdrP CtP

theorem few_any (s : ByteArray) (w : World) : Calls Tryz.prog 9 #[.string s] w fun e w' => e = .returned (.bool (decide (s.data.toList.length ≤ 2000))) ∧ w = w' := by
  rw [← size_list]
  by_cases h : s.size ≤ 2000
  · have h' : (s.size : Int) ≤ 2000 := by omega
    rw [decide_eq_true h]
    go_enter Tryz.func9, Tryz.ntmps9
    go_wp2
    go_ret
    exact ⟨rfl, rfl⟩
  · have h' : ¬ (s.size : Int) ≤ 2000 := by omega
    rw [decide_eq_false h]
    go_enter Tryz.func9, Tryz.ntmps9
    go_wp2
    go_ret
    exact ⟨rfl, rfl⟩
/-- What named says. -/
def namedB (l : List UInt8) : Bool := decide (46 ∉ l) && (wordW l && decide (l.map lowA = l))
theorem named_dot {l : List UInt8} {k : Nat} {c : UInt8} (h : l[k]? = some c) (hc : c = 46) : namedB l = false := by
  subst hc
  unfold namedB
  rw [decide_eq_false (fun h2 => h2 (List.mem_of_getElem? h)), Bool.false_and]
set_option maxRecDepth 100000 in
set_option maxHeartbeats 2000000 in
theorem named_any (s : ByteArray) (hs : s.size ≤ 4000000) (w : World) :
    Calls Tryz.prog 49 #[.string s] w fun e w' => e = .returned (.bool (namedB s.data.toList)) ∧ Below w.heap.size w w' := by
  obtain ⟨n, hn⟩ : ∃ n, s.size = n := ⟨_, rfl⟩
  obtain ⟨R, hR⟩ : ∃ R, namedB s.data.toList = R := ⟨_, rfl⟩
  rw [hR]
  have HR := Lib.hid hR
  have HL := Lib.hid (size_list s)
  have HS := Lib.hid hs
  clear hR hs
  go_enter Tryz.func49, Tryz.ntmps49
  go_wp2
  go_loopw [3] (fun i wr => ∃ k : Nat, k ≤ n ∧ i = .int .i64 k ∧ Hid (w = wr) ∧ Hid (∀ (j : Nat) (c : UInt8), j < k → s.data.toList[j]? = some c → ¬ c = 46)) (fun i _ => n - (intOf i).toNat)
  case atStart => exact ⟨0, Nat.zero_le _, rfl, Lib.hid rfl, Lib.hid (fun j c h => absurd h (Nat.not_lt_zero _))⟩
  case round =>
    obtain ⟨k, hk, rfl, HW, HF⟩ := hrel
    have F1 : IntKind.i64.wrap ((k : Int) + 1) = (k : Int) + 1 := by rw [IntKind.wrap_i64]; have := HS.out; omega
    by_cases hlt : k < n
    · have hlt' : (k : Int) < (n : Int) := by omega
      obtain ⟨c, x, hc, hx, hx2, S1⟩ := run_byte s k (by rw [hn]; exact hlt)
      by_cases h46 : c = 46
      · obtain rfl : x = 46 := by rw [← hx, h46]; rfl
        obtain rfl : false = R := by rw [← HR.out]; exact (named_dot hc h46).symm
        clear hc hx hx2 h46 HR
        go_wp2
        go_ret
        exact ⟨rfl, HW.out ▸ Below.refl _ _⟩
      · have hx' : ¬ (x : Int) = 46 := fun e => h46 (UInt8.toNat_inj.1 (by rw [hx]; show x = 46; omega))
        have HF2 := Lib.hid (fun (j : Nat) (d : UInt8) (hj : j < k + 1) (hd : s.data.toList[j]? = some d) => show ¬ d = 46 by
          rcases (show j < k ∨ j = k by omega) with h | rfl
          · exact HF.out j d h hd
          · rw [hc] at hd; rw [← Option.some.inj hd]; exact h46)
        clear hc hx h46
        go_wp2
        go_roundw
        case rel => exact ⟨k + 1, by omega, by go_num, HW, HF2⟩
        case measure => simp [intOf]; omega
    · have hlt' : ¬ (k : Int) < (n : Int) := by omega
      have hdot : 46 ∉ s.data.toList := fun hm => by
        obtain ⟨j, hj⟩ := List.getElem?_of_mem hm
        have := (List.getElem?_eq_some_iff.1 hj).1
        exact HF.out j 46 (by have := HL.out; omega) hj rfl
      have hRR : (wordW s.data.toList && decide (s.data.toList.map lowA = s.data.toList)) = R := by
        rw [← HR.out]; unfold namedB; rw [decide_eq_true hdot, Bool.true_and]
      have cW := fun W => rword_any s (by have := HS.out; omega) W
      have cS := fun W => rsmall_any s HS.out W
      have heq := eq_strL (s.data.toList.map lowA) s.data.toList
      rw [strL_of] at heq
      cases hw : wordW s.data.toList with
      | false =>
        rw [hw] at cW hRR
        rw [Bool.false_and] at hRR
        subst hRR
        clear heq cS hw hdot HR
        go_wp2_with (go_at_call 38; (with_reducible refine (cW _).mono ?_); rintro e w2 ⟨rfl, rfl⟩)
        go_ret
        exact ⟨rfl, HW.out ▸ Below.refl _ _⟩
      | true =>
        rw [hw] at cW hRR
        rw [Bool.true_and] at hRR
        rw [hRR] at heq
        generalize strL (s.data.toList.map lowA) = X at cS heq
        clear hw hdot HR hRR
        go_wp2_with (first
          | (go_at_call 38; (with_reducible refine (cW _).mono ?_); rintro e w2 ⟨rfl, rfl⟩)
          | (go_at_call 39; (with_reducible refine (cS _).mono ?_); rintro e w3 ⟨rfl, hb3⟩; have HB3 := Lib.hid hb3; clear hb3 cS))
        go_ret
        exact ⟨rfl, HW.out ▸ HB3.out⟩
end Go.Proofs.YtdinachiiimngaaGreatDoor
namespace Go.Proofs.YtdinachiiimngaaGreatDoor
open TokP AdrP CtP

def exA : ByteArray := ⟨#[84, 101, 120, 116, 47, 72, 84, 77, 76, 32, 40, 99, 41, 59, 32, 67, 104, 97, 114, 115, 101, 116, 61, 34, 120, 32, 121, 34, 59, 32, 97, 42, 48, 42, 61, 117, 116, 102, 45, 56, 39, 39, 37, 101, 50, 37, 56, 50, 59, 32, 97, 42, 49, 42, 61, 37, 97, 99, 59, 32, 98]⟩
theorem ans_a : parseC repF decF numF exA.data.toList = (([116, 101, 120, 116], [104, 116, 109, 108], [([99, 104, 97, 114, 115, 101, 116], [120, 32, 121]), ([97], [226, 130, 172])]), true) := by decide +kernel
theorem ans_b : parseC repF decF numF [116, 101, 120, 116] = (([116, 101, 120, 116], [112, 108, 97, 105, 110], []), false) := by decide +kernel
theorem ans_c : dispC repF decF numF [65, 116, 116, 97, 99, 104, 109, 101, 110, 116, 59, 32, 102, 105, 108, 101, 110, 97, 109, 101, 61, 97, 46, 98] = ([97, 116, 116, 97, 99, 104, 109, 101, 110, 116], [([102, 105, 108, 101, 110, 97, 109, 101], [97, 46, 98])]) := by decide +kernel
theorem ans_d : lineW [116, 101, 120, 116, 47, 104, 116, 109, 108] [([99, 104, 97, 114, 115, 101, 116], [120, 32, 121]), ([97], [226, 130, 172])] = [116, 101, 120, 116, 47, 104, 116, 109, 108, 59, 32, 99, 104, 97, 114, 115, 101, 116, 61, 34, 120, 32, 121, 34, 59, 32, 97, 42, 61, 117, 116, 102, 45, 56, 39, 39, 37, 69, 50, 37, 56, 50, 37, 65, 67] := by decide +kernel
end Go.Proofs.YtdinachiiimngaaGreatDoor
namespace Go.Proofs.YtdinachiiimngaaGreatDoor.CtP
open TokP AdrP

/-- Rows of any kind behind a first one. -/
theorem rows_any : ∀ (W : List (List UInt8)) (F : List UInt8), (∀ w ∈ W, (∀ t ∈ scanL w, Fine t) ∧ HeadNot TokP.blank w ∧ w ≠ []) → (∀ t ∈ scanL F, Fine t) → rowsT [] (bareT (scanL (F ++ W.flatMap (fun w => 59 :: 32 :: w)))) = scanL F :: W.map scanL
  | [], F, _, hF => by
    rw [List.flatMap_nil, List.append_nil, bare_fine _ hF, rows_end _ _ (fun t ht => fine_not (hF t ht) (by decide) (by decide))]
    rfl
  | w :: W, F, hW, hF => by
    obtain ⟨h2, h3, hne⟩ := hW w (by simp)
    have ih := rows_any W w (fun q hq => hW q (by simp [hq])) h2
    have hX : HeadNot TokP.blank (w ++ W.flatMap (fun w => 59 :: 32 :: w)) := fun c r e => by
      obtain ⟨d, m, hd⟩ := List.exists_cons_of_ne_nil hne
      rw [hd, List.cons_append] at e
      obtain ⟨rfl, _⟩ := List.cons.inj e
      exact h3 d m hd
    have he : F ++ (w :: W).flatMap (fun w => 59 :: 32 :: w) = F ++ 59 :: 32 :: (w ++ W.flatMap (fun w => 59 :: 32 :: w)) := by
      rw [List.flatMap_cons]
      simp
    rw [he, scan_semi F _ hF hX, bare_app, bare_fine _ hF]
    have hb : bareT (⟨4, [59]⟩ :: ⟨6, [32]⟩ :: scanL (w ++ W.flatMap (fun w => 59 :: 32 :: w))) = ⟨4, [59]⟩ :: bareT (scanL (w ++ W.flatMap (fun w => 59 :: 32 :: w))) := rfl
    rw [hb, rows_cut _ _ _ (fun t ht => fine_not (hF t ht) (by decide) (by decide)), ih]
    rfl
/-! ### Bytes that are all escaped -/
def hexD (n : Nat) : UInt8 := if n < 10 then UInt8.ofNat (48 + n) else UInt8.ofNat (87 + n)
def escB (c : UInt8) : List UInt8 := [37, hexD (c.toNat / 16), hexD (c.toNat % 16)]
def escA (s : List UInt8) : List UInt8 := s.flatMap escB
theorem escB_facts : ∀ n : Fin 256, (∀ c ∈ escB (UInt8.ofNat n.val), atomB c = true ∧ c ≠ 39) ∧ hex2 [hexD ((UInt8.ofNat n.val).toNat / 16), hexD ((UInt8.ofNat n.val).toNat % 16)] = some (UInt8.ofNat n.val) := by decide +kernel
theorem escB_all (b : UInt8) : (∀ c ∈ escB b, atomB c = true ∧ c ≠ 39) ∧ hex2 [hexD (b.toNat / 16), hexD (b.toNat % 16)] = some b :=
  byte_all (P := fun b => (∀ c ∈ escB b, atomB c = true ∧ c ≠ 39) ∧ hex2 [hexD (b.toNat / 16), hexD (b.toNat % 16)] = some b) escB_facts b
theorem esc_back : ∀ s : List UInt8, pctL (escA s) = s
  | [] => rfl
  | b :: r => by
    have ih := esc_back r
    show pctS 0 (37 :: hexD (b.toNat / 16) :: hexD (b.toNat % 16) :: escA r) = b :: r
    rw [pctS, if_pos rfl]
    have h3 : hex2 (hexD (b.toNat / 16) :: hexD (b.toNat % 16) :: escA r) = some b := (escB_all b).2
    rw [h3]
    show b :: pctS 0 (escA r) = b :: r
    rw [show pctS 0 (escA r) = r from ih]
theorem escA_atoms (s : List UInt8) : ∀ c ∈ escA s, atomB c = true := fun c hc => by
  unfold escA at hc
  rw [List.mem_flatMap] at hc
  obtain ⟨b, _, hc⟩ := hc
  exact ((escB_all b).1 c hc).1
/-! ### Sections -/
def setN : List UInt8 := [85, 84, 70, 45, 56]
def headN : List UInt8 := setN ++ 39 :: [101, 110] ++ [39]
def secV (k : Nat) (c : List UInt8) : List UInt8 := (if k = 0 then headN else []) ++ escA c
def secW (txt : Nat → List UInt8) (k : Nat) (c : List UInt8) : List UInt8 := 110 :: 42 :: (txt k ++ 42 :: 61 :: secV k c)
/-- What the sections' numbers are written as. -/
def TxtOk (num : List UInt8 → Option Nat) (txt : Nat → List UInt8) : Prop := ∀ k, k < 64 → num (txt k) = some k ∧ ∀ c ∈ txt k, 48 ≤ c.toNat ∧ c.toNat ≤ 57
theorem digit_facts : ∀ n : Fin 256, 48 ≤ (UInt8.ofNat n.val).toNat ∧ (UInt8.ofNat n.val).toNat ≤ 57 → atomB (UInt8.ofNat n.val) = true ∧ lowA (UInt8.ofNat n.val) = UInt8.ofNat n.val ∧ UInt8.ofNat n.val ≠ 42 ∧ UInt8.ofNat n.val ≠ 61 := by decide +kernel
theorem digit_all (c : UInt8) : 48 ≤ c.toNat ∧ c.toNat ≤ 57 → atomB c = true ∧ lowA c = c ∧ c ≠ 42 ∧ c ≠ 61 :=
  byte_all (P := fun c => 48 ≤ c.toNat ∧ c.toNat ≤ 57 → atomB c = true ∧ lowA c = c ∧ c ≠ 42 ∧ c ≠ 61) digit_facts c
theorem secV_atoms (k : Nat) (c : List UInt8) : ∀ d ∈ secV k c, atomB d = true := fun d hd => by
  unfold secV at hd
  rw [List.mem_append] at hd
  rcases hd with hd | hd
  · by_cases h0 : k = 0
    · rw [if_pos h0] at hd
      revert d
      decide
    · rw [if_neg h0] at hd
      exact absurd hd (by simp)
  · exact escA_atoms c d hd
theorem sec_row {num : List UInt8 → Option Nat} {txt : Nat → List UInt8} (ht : TxtOk num txt) {k : Nat} (hk : k < 64) (c : List UInt8) :
    pairP num [] (scanL (secW txt k c)) = some ⟨[110], some k, true, secV k c⟩ ∧ (∀ t ∈ scanL (secW txt k c), Fine t) ∧ HeadNot TokP.blank (secW txt k c) ∧ secW txt k c ≠ [] := by
  obtain ⟨hn, hd⟩ := ht k hk
  have hname : ∀ x ∈ (110 :: 42 :: (txt k ++ [42]) : List UInt8), atomB x = true := fun x hx => by
    rw [List.mem_cons, List.mem_cons, List.mem_append, List.mem_singleton] at hx
    rcases hx with rfl | rfl | hx | rfl
    · decide
    · decide
    · exact (digit_all x (hd x hx)).1
    · decide
  have h61 : (61 : UInt8) ∉ (110 :: 42 :: (txt k ++ [42]) : List UInt8) := fun hx => by
    rw [List.mem_cons, List.mem_cons, List.mem_append, List.mem_singleton] at hx
    rcases hx with hx | hx | hx | hx
    · exact absurd hx (by decide)
    · exact absurd hx (by decide)
    · exact (digit_all 61 (hd 61 hx)).2.2.2 rfl
    · exact absurd hx (by decide)
  have hw : secW txt k c = (110 :: 42 :: (txt k ++ [42])) ++ 61 :: secV k c := by unfold secW; simp
  have hm : Mix (secW txt k c) := by
    rw [hw]
    exact mix_app (fun x hx => .inl (hname x hx)) (mix_app (a := [61]) (fun x hx => .inl (by rw [List.mem_singleton.1 hx]; decide)) (fun x hx => .inl (secV_atoms k c x hx)))
  refine ⟨?_, fun t ht => (mix_scan _ hm t ht).fine, ?_, by unfold secW; simp⟩
  · rw [hw]
    obtain ⟨v1, v2, hv, hs, hv1⟩ := first_tok _ 61 (secV k c) hname (by decide)
    have hall : (secV k c).takeWhile atomB = secV k c := by
      have := List.takeWhile_append_of_pos (p := atomB) (l₁ := secV k c) (l₂ := []) (secV_atoms k c)
      rw [List.append_nil, List.takeWhile_nil, List.append_nil] at this
      exact this
    rw [hall] at hv1
    subst hv1
    have hv2 : v2 = [] := by
      have h1 := congrArg List.length hv
      rw [List.length_append] at h1
      exact List.eq_nil_of_length_eq_zero (by omega)
    subst hv2
    rw [hs, pair_named num _ _ h61 (by simp)]
    have hlow : (110 :: 42 :: (txt k ++ [42]) : List UInt8).map lowA = 110 :: 42 :: (txt k ++ [42]) := by
      rw [List.map_cons, List.map_cons, List.map_append]
      have : (txt k).map lowA = txt k := by
        conv => rhs; rw [← List.map_id (txt k)]
        exact List.map_congr_left fun x hx => (digit_all x (hd x hx)).2.1
      rw [this]
      rfl
    rw [hlow, scan_nil]
    show some (toldP num ((110 :: 42 :: txt k) ++ [42]) (secV k c)) = _
    have hwide : wideB ((110 :: 42 :: txt k) ++ [42]) = true := by
      unfold wideB
      rw [List.length_append, decide_eq_true (by simp), List.getLast?_concat]
      rfl
    have h42 : (42 : UInt8) ∉ txt k := fun hx => (digit_all 42 (hd 42 hx)).2.2.1 rfl
    have hrev : upC 42 ((110 :: 42 :: txt k : List UInt8).reverse) = (txt k).reverse := by
      rw [List.reverse_cons, List.reverse_cons, List.append_assoc]
      show upC 42 ((txt k).reverse ++ 42 :: [110]) = _
      exact (upC_at (by rw [List.mem_reverse]; exact h42) [110]).1
    unfold toldP
    rw [hwide]
    simp only [if_true]
    rw [List.dropLast_concat, if_pos (by simp), hrev, List.reverse_reverse, hn]
    congr 2
    have e3 : (110 :: 42 :: txt k : List UInt8).length - ((txt k).length) - 1 = 1 := by simp only [List.length_cons]; omega
    simp only [List.length_cons] at e3
    simp only [List.length_cons, e3]
    simp
  · intro x r e
    unfold secW at e
    obtain ⟨rfl, _⟩ := List.cons.inj e
    decide
/-- The parameter of a section. -/
def secP (x : Nat × List UInt8) : Par := ⟨[110], some x.1, true, secV x.1 x.2⟩
theorem find_sec : ∀ (rs : List (Nat × List UInt8)), (rs.map Prod.fst).Nodup → ∀ k, (∀ c, (k, c) ∈ rs → firstP (rs.map secP) [110] (some k) = some (secP (k, c))) ∧ ((∀ c, (k, c) ∉ rs) → firstP (rs.map secP) [110] (some k) = none)
  | [], _, k => ⟨fun c h => absurd h (by simp), fun _ => rfl⟩
  | a :: rs, hd, k => by
    rw [List.map_cons, List.nodup_cons] at hd
    obtain ⟨i1, i2⟩ := find_sec rs hd.2 k
    unfold firstP at i1 i2 ⊢
    rw [List.map_cons, List.find?_cons]
    by_cases ha : a.1 = k
    · subst ha
      have : ((secP a).name == [110] && (secP a).sec == some a.1) = true := by simp [secP]
      rw [this]
      refine ⟨fun c h => ?_, fun h => absurd (show (a.1, a.2) ∈ a :: rs by simp) (h a.2)⟩
      rcases List.mem_cons.1 h with h | h
      · rw [← h]
      · exact absurd (List.mem_map.2 ⟨_, h, rfl⟩) hd.1
    · have : ((secP a).name == [110] && (secP a).sec == some k) = false := by
        rw [Bool.and_eq_false_iff]
        exact .inr (beq_eq_false_iff_ne.2 (fun e => ha (Option.some.inj e)))
      rw [this]
      refine ⟨fun c h => i1 c ?_, fun h => i2 fun c hc => h c (by simp [hc])⟩
      rcases List.mem_cons.1 h with h | h
      · exact absurd (congrArg Prod.fst h).symm ha
      · exact h
theorem more_secs (rs : List (Nat × List UInt8)) (hd : (rs.map Prod.fst).Nodup) (cs : List (List UInt8)) (hrs : ∀ k c, (k, c) ∈ rs ↔ cs[k]? = some c) : ∀ (f k : Nat), 1 ≤ k → k ≤ cs.length → cs.length < k + f → moreP (rs.map secP) [110] f k = (cs.drop k).flatten
  | 0, k, _, h1, h2 => by omega
  | f + 1, k, h0, h1, h2 => by
    rw [moreP]
    by_cases hk : k < cs.length
    · obtain ⟨c, hc⟩ : ∃ c, cs[k]? = some c := ⟨_, List.getElem?_eq_getElem hk⟩
      rw [(find_sec rs hd k).1 c ((hrs k c).2 hc)]
      show (if true = true then pctL (secV k c) else secV k c) ++ moreP (rs.map secP) [110] f (k + 1) = _
      rw [if_pos rfl, more_secs rs hd cs hrs f (k + 1) (by omega) (by omega) (by omega)]
      unfold secV
      rw [if_neg (by omega), List.nil_append, esc_back]
      obtain ⟨h3, h4⟩ := List.getElem?_eq_some_iff.1 hc
      rw [List.drop_eq_getElem_cons hk, h4, List.flatten_cons]
    · rw [(find_sec rs hd k).2 (fun c hc => hk (List.getElem?_eq_some_iff.1 ((hrs k c).1 hc)).1)]
      rw [List.drop_eq_nil_of_le (by omega)]
      rfl
theorem split_head (x : List UInt8) : splitQ (headN ++ x) = (setN, x) := by
  obtain ⟨h1, h2⟩ := upC_at (d := 39) (n := setN) (by decide) ([101, 110] ++ 39 :: x)
  obtain ⟨h3, h4⟩ := upC_at (d := 39) (n := [101, 110]) (by decide) x
  have e : headN ++ x = setN ++ 39 :: ([101, 110] ++ 39 :: x) := by unfold headN; simp
  rw [e]
  unfold splitQ
  rw [h1, h2, if_pos ⟨by simp, by simp⟩, h4]
/-- A value in sections: rs are the sections in the order in which they are written. -/
theorem ct_secs (rep : List UInt8 → List UInt8) (dec : List UInt8 → List UInt8 → List UInt8) (num : List UInt8 → Option Nat) (txt : Nat → List UInt8) (ht : TxtOk num txt) (cs : List (List UInt8)) (h1 : 1 ≤ cs.length) (h2 : cs.length ≤ 63)
    (rs : List (Nat × List UInt8)) (hd : (rs.map Prod.fst).Nodup) (hrs : ∀ k c, (k, c) ∈ rs ↔ cs[k]? = some c) :
    parseC rep dec num ([97, 47, 98] ++ (rs.map (fun x => secW txt x.1 x.2)).flatMap (fun w => 59 :: 32 :: w)) = (([97], [98], [([110], dec setN cs.flatten)]), true) := by
  have hlt : ∀ x ∈ rs, x.1 < 64 := fun x hx => by
    have := (List.getElem?_eq_some_iff.1 ((hrs x.1 x.2).1 hx)).1
    omega
  have hr := rows_any (rs.map (fun x => secW txt x.1 x.2)) [97, 47, 98] (fun w hw => by
    obtain ⟨x, hx, rfl⟩ := List.mem_map.1 hw
    exact (sec_row ht (hlt x hx) x.2).2) (fun t htt => by
    have e : scanL [97, 47, 98] = [⟨1, [97, 47, 98]⟩] := by decide
    rw [e, List.mem_singleton] at htt
    rw [htt]
    exact .inl rfl)
  have hf : ∀ m : List (Nat × List UInt8), (∀ x ∈ m, x.1 < 64) → ((m.map (fun x => secW txt x.1 x.2)).map scanL).filterMap (pairP num []) = m.map secP := by
    intro m
    induction m with
    | nil => intro _; rfl
    | cons x m ih =>
      intro h
      rw [List.map_cons, List.map_cons, List.filterMap_cons, (sec_row ht (h x (by simp)) x.2).1, List.map_cons]
      exact congrArg (secP x :: ·) (ih (fun y hy => h y (by simp [hy])))
  obtain ⟨c0, hc0⟩ : ∃ c, cs[0]? = some c := ⟨_, List.getElem?_eq_getElem (by omega)⟩
  have hm := more_secs rs hd cs hrs 63 1 (Nat.le_refl _) h1 (by omega)
  have hv : valueP rep dec (rs.map secP) [110] = some (dec setN cs.flatten) := by
    unfold valueP
    rw [(find_sec rs hd 0).1 c0 ((hrs 0 c0).2 hc0)]
    show some (if true = true then meantP rep dec (splitQ (secV 0 c0)).1 (pctL (splitQ (secV 0 c0)).2 ++ moreP (rs.map secP) [110] 63 1) else _) = _
    unfold secV
    rw [if_pos rfl, if_pos rfl, split_head, esc_back, hm]
    unfold meantP
    rw [if_neg (show ¬ setN = [] by decide)]
    have : cs.flatten = c0 ++ (cs.drop 1).flatten := by
      cases cs with
      | nil => exact absurd hc0 (by simp)
      | cons a b =>
        obtain rfl : a = c0 := by simpa using hc0
        rfl
    rw [this]
  have hg : ∀ (m : List (Nat × List UInt8)), listG rep dec (rs.map secP) [[110]] (m.map secP) = [] := by
    intro m
    have hs : ∀ (m : List (Nat × List UInt8)) (seen : List (List UInt8)), [110] ∈ seen → listG rep dec (rs.map secP) seen (m.map secP) = [] := by
      intro m
      induction m with
      | nil => intro seen _; rfl
      | cons x m ih =>
        intro seen hs
        rw [List.map_cons, listG]
        have : (secP x).name = [110] := rfl
        rw [this, if_pos hs, ih _ (by simp [hs])]
        rfl
    exact hs m [[110]] (by simp)
  have hl : listP rep dec num ((rs.map (fun x => secW txt x.1 x.2)).map scanL) = [([110], dec setN cs.flatten)] := by
    unfold listP
    rw [hf rs hlt]
    cases hrs0 : rs with
    | nil =>
      rw [hrs0] at hrs
      exact absurd ((hrs 0 c0).2 hc0) (by simp)
    | cons x m =>
      rw [hrs0] at hv hg
      have hg2 := hg m
      rw [List.map_cons] at hv hg2 ⊢
      rw [listG]
      have : (secP x).name = [110] := rfl
      rw [this, if_neg (by simp), hv, hg2]
      rfl
  unfold parseC
  rw [hr]
  show (if 47 ∈ joinL (scanL [97, 47, 98]) ∧ wordW (upC 47 (joinL (scanL [97, 47, 98]))) = true ∧ wordW (behind 47 (joinL (scanL [97, 47, 98]))) = true then (((upC 47 (joinL (scanL [97, 47, 98]))).map lowA, (behind 47 (joinL (scanL [97, 47, 98]))).map lowA, listP rep dec num ((rs.map (fun x => secW txt x.1 x.2)).map scanL)), true) else (textPlain, false)) = _
  rw [join_scan, hl, if_pos (by decide)]
  rfl
/-! ### What is written is printable -/
def Print (s : List UInt8) : Prop := ∀ c ∈ s, 32 ≤ c.toNat ∧ c.toNat ≤ 126
theorem print_app {a b : List UInt8} (ha : Print a) (hb : Print b) : Print (a ++ b) := fun c hc => by
  rcases List.mem_append.1 hc with h | h
  · exact ha c h
  · exact hb c h
theorem print_cons {c : UInt8} {b : List UInt8} (hc : 32 ≤ c.toNat ∧ c.toNat ≤ 126) (hb : Print b) : Print (c :: b) := fun d hd => by
  rcases List.mem_cons.1 hd with rfl | h
  · exact hc
  · exact hb d h
theorem print_word {n : List UInt8} (h : wordW n = true) : Print n := fun c hc => by
  have := (word_all c ((word_mem h).2 c hc)).2.2.2.2
  omega
theorem print_escQ : ∀ v : List UInt8, Print v → Print (escQ v)
  | [], _ => fun c hc => absurd hc (by simp [escQ])
  | d :: v, h => by
    have ih := print_escQ v (fun c hc => h c (by simp [hc]))
    rw [escQ]
    split
    · exact print_cons (by decide) (print_cons (h d (by simp)) ih)
    · exact print_cons (h d (by simp)) ih
theorem print_fmt (v : List UInt8) : Print (fmtV v) := by
  unfold fmtV
  by_cases hp : plainV v = true
  · rw [if_pos hp]
    refine print_cons (by decide) fun c hc => ?_
    unfold plainV at hp
    rw [Bool.and_eq_true, List.all_eq_true] at hp
    have := hp.2 c hc
    rw [Bool.and_eq_true, Bool.and_eq_true, decide_eq_true_eq, decide_eq_true_eq] at this
    omega
  · rw [if_neg hp]
    by_cases hq : quotedV v = true
    · rw [if_pos hq]
      unfold quotedV at hq
      rw [List.all_eq_true] at hq
      refine print_cons (by decide) (print_cons (by decide) (print_app (print_escQ v fun c hc => ?_) (fun c hc => by rw [List.mem_singleton.1 hc]; decide)))
      have := hq c hc
      rw [Bool.and_eq_true, decide_eq_true_eq, decide_eq_true_eq] at this
      exact this
    · rw [if_neg hq]
      refine print_cons (by decide) (print_cons (by decide) (print_app (fun c hc => by revert c; decide) (print_cons (by decide) (print_cons (by decide) fun c hc => ?_))))
      unfold pctE at hc
      rw [List.mem_flatMap] at hc
      obtain ⟨b, _, hc⟩ := hc
      have := pct_all b c hc
      exact ⟨this.2.1, this.2.2.1⟩
theorem print_line (first : List UInt8) (hf : Print first) (l : List (List UInt8 × List UInt8)) (h : ∀ p ∈ l, wordW p.1 = true) : Print (lineW first l) := by
  unfold lineW
  refine print_app hf fun c hc => ?_
  rw [List.mem_flatMap] at hc
  obtain ⟨p, hp, hc⟩ := hc
  exact print_cons (b := 32 :: rowW p) (by decide) (print_cons (by decide) (print_app (print_word (h p hp)) (print_fmt p.2))) c hc
end Go.Proofs.YtdinachiiimngaaGreatDoor.CtP
