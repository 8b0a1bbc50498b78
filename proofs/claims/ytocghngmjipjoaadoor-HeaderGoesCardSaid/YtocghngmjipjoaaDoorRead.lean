/- A field out of its bytes. -/
import Derived.Test.YtocghngmjipjoaaDoorLen
import Derived.Test.YtocghngmjipjoaaDoorOwn
import Derived.Test.YtocghngmjipjoaaDoorRight
import Derived.Laws.Rows
import Derived.WalkSmall
namespace Go.Proofs.YtocghngmjipjoaaDoor
open Go.ChangeShapes Go.WideShapes Go.ChangeAt Go.RowKit
open LinesP HdrP

theorem rows38 : (Tryd.prog.info? 38).map (·.size) = some 4 := by kernel_rfl
/-- A new, empty field lies in block b, and older memory stands. -/
structure Fz (w0 w : World) : Prop where
  bel : Below w0.heap.size w0 w
  blk : w.heap[w0.heap.size]? = some (.cells #[.string ⟨#[]⟩, .string ⟨#[]⟩, .string ⟨#[]⟩, .bool false] 38 (0, 0))
theorem Fz.new (w : World) : Fz w (w.alloc (.cells #[.string ⟨#[]⟩, .string ⟨#[]⟩, .string ⟨#[]⟩, .bool false] 38)) :=
  ⟨(Below.refl _ w).alloc (Nat.le_refl _) _, World.alloc_heap_new w _⟩
theorem Fz.step {w0 w w' : World} (h : Fz w0 w) (hb : Below w.heap.size w w') : Fz w0 w' :=
  ⟨h.bel.trans (hb.mono h.bel.size), (hb.block _ (Array.getElem?_eq_some_iff.1 h.blk).1).trans h.blk⟩
theorem Fz.c0 {w0 w : World} (h : Fz w0 w) : w.cell? ⟨w0.heap.size, 0, none⟩ = some (.string ⟨#[]⟩) := by rw [Lib.cell_of_heap h.blk]; rfl
theorem Fz.c1 {w0 w : World} (h : Fz w0 w) : w.cell? ⟨w0.heap.size, 1, none⟩ = some (.string ⟨#[]⟩) := by rw [Lib.cell_of_heap h.blk]; rfl
theorem Fz.c2 {w0 w : World} (h : Fz w0 w) : w.cell? ⟨w0.heap.size, 2, none⟩ = some (.string ⟨#[]⟩) := by rw [Lib.cell_of_heap h.blk]; rfl
theorem Fz.c3 {w0 w : World} (h : Fz w0 w) : w.cell? ⟨w0.heap.size, 3, none⟩ = some (.bool false) := by rw [Lib.cell_of_heap h.blk]; rfl
theorem Fz.fr {w0 w : World} (h : Fz w0 w) (i : Nat) : w.frozen? ⟨w0.heap.size, i, none⟩ = false := Lib.frozen_of_heap h.blk i
theorem set_four {w : World} {b : Nat} {a0 a1 a2 a3 v0 v1 v2 v3 : Value} {t : TypeId} (h : w.heap[b]? = some (.cells #[a0, a1, a2, a3] t (0, 0))) :
    ((((w.setCell ⟨b, 0, none⟩ v0).setCell ⟨b, 1, none⟩ v1).setCell ⟨b, 2, none⟩ v2).setCell ⟨b, 3, none⟩ v3).heap[b]? = some (.cells #[v0, v1, v2, v3] t (0, 0)) := by
  obtain ⟨hlt, hk⟩ := Array.getElem?_eq_some_iff.1 h
  simp [World.setCell, Array.getElem?_modify, h]
theorem below_at {w W : World} {C : Nat} (h : Below C w W) (a : Addr) (hb : C ≤ a.block) (v : Value) : Below C w (W.setCell a v) :=
  ⟨h.os, h.tape, h.output, by simpa using h.size, fun k hk => by rw [Below.heap_setCell W a v k (by omega)]; exact h.block k hk⟩
theorem Fz.put {w0 w : World} (h : Fz w0 w) (v0 v1 v2 v3 : Value) : Below w0.heap.size w0 ((((w.setCell ⟨w0.heap.size, 0, none⟩ v0).setCell ⟨w0.heap.size, 1, none⟩ v1).setCell ⟨w0.heap.size, 2, none⟩ v2).setCell ⟨w0.heap.size, 3, none⟩ v3) :=
  below_at (below_at (below_at (below_at h.bel _ (Nat.le_refl _) _) _ (Nat.le_refl _) _) _ (Nat.le_refl _) _) _ (Nat.le_refl _) _
set_option maxRecDepth 100000 in
set_option maxHeartbeats 2000000 in
theorem read_yes (s : ByteArray) (hs : s.size ≤ 1000000) (w : World) (hv : Vars w) (hc : 58 ∈ s.data.toList) (hr : rightL (trimR (upto s.data.toList)) = true) :
    Calls Tryd.prog 36 #[.string s] w fun e w' => e = .returned (fldA (readL s.data.toList)) ∧ Below w.heap.size w w' := by
  have hf := Fz.new w
  have c1 := fun w hv => cut_yes hs hc w hv
  have hu : (upto s.data.toList).length ≤ s.size := by rw [size_list]; exact (List.takeWhile_sublist _).length_le
  have c2 := fun w => trimr_any (strL (upto s.data.toList)) (by rw [strL_size]; omega) w
  have hu2 : (trimR (upto s.data.toList)).length ≤ s.size := by
    have : (trimR (upto s.data.toList)).length ≤ (upto s.data.toList).length := by
      unfold trimR; rw [List.length_reverse]; have := (List.dropWhile_sublist (p := HdrP.blank) (l := (upto s.data.toList).reverse)).length_le; rwa [List.length_reverse] at this
    omega
  have c3 := fun w => right_any (strL (trimR (upto s.data.toList))) w
  have c4 := fun w => bare_any (strL (s.data.toList.drop ((upto s.data.toList).length + 1))) (by rw [strL_size, List.length_drop, ← size_list]; omega) w
  simp only [strL_list] at c2 c3 c4
  rw [hr] at c3
  have hR : readL s.data.toList = ⟨trimR (upto s.data.toList), bareL (s.data.toList.drop ((upto s.data.toList).length + 1)), s.data.toList, false⟩ := by
    unfold readL; rw [if_pos ⟨hc, hr⟩]
  rw [hR]
  unfold fldA
  rw [strL_of]
  generalize strL (upto s.data.toList) = A at c1 c2
  generalize strL (s.data.toList.drop ((upto s.data.toList).length + 1)) = B at c1 c4
  generalize strL (trimR (upto s.data.toList)) = A2 at c2 c3 ⊢
  generalize strL (bareL (s.data.toList.drop ((upto s.data.toList).length + 1))) = B2 at c4 ⊢
  have hv1 := hv.keep hf.bel
  have c1 := c1 _ hv1
  clear hR hu hu2 hr hc hv1
  go_enter Tryd.func36, Tryd.ntmps36
  go_wp2_with (first
    | (go_at_call 47; with_reducible refine c1.mono ?_; rintro e w1 ⟨rfl, hb1⟩; replace hf := hf.step hb1; clear c1 hb1)
    | (go_at_call 48; with_reducible refine (c2 _).mono ?_; rintro e w2 ⟨rfl, hb2⟩; replace hf := hf.step hb2; clear c2 hb2)
    | (go_at_call 24; with_reducible refine (c3 _).mono ?_; rintro e w3 ⟨rfl, hb3⟩; replace hf := hf.step hb3; clear c3 hb3; have k0 := hf.c0; have k1 := hf.c1; have k2 := hf.c2; have k3 := hf.c3; have f0 := hf.fr 0; have f1 := hf.fr 1; have f2 := hf.fr 2; have f3 := hf.fr 3)
    | (go_at_call 42; with_reducible refine (c4 _).mono ?_; rintro e w4 ⟨rfl, hw⟩; rw [hw]; clear hw w4 c4))
  exact bodyPost_ret (results_cell_row rfl _ _ w.heap.size 38 _ _ _ rfl (set_four hf.blk) Tryd.underlying38 rfl rows38) rfl ⟨rfl, hf.put _ _ _ _⟩
set_option maxRecDepth 100000 in
set_option maxHeartbeats 2000000 in
theorem read_bad (s : ByteArray) (hs : s.size ≤ 1000000) (w : World) (hv : Vars w) (hc : 58 ∈ s.data.toList) (hr : rightL (trimR (upto s.data.toList)) = false) :
    Calls Tryd.prog 36 #[.string s] w fun e w' => e = .returned (fldA (readL s.data.toList)) ∧ Below w.heap.size w w' := by
  have hf := Fz.new w
  have c1 := fun w hv => cut_yes hs hc w hv
  have hu : (upto s.data.toList).length ≤ s.size := by rw [size_list]; exact (List.takeWhile_sublist _).length_le
  have c2 := fun w => trimr_any (strL (upto s.data.toList)) (by rw [strL_size]; omega) w
  have c3 := fun w => right_any (strL (trimR (upto s.data.toList))) w
  simp only [strL_list] at c2 c3
  rw [hr] at c3
  have hR : readL s.data.toList = ⟨[], [], s.data.toList, true⟩ := by
    unfold readL; rw [if_neg (by rw [hr]; simp)]
  rw [hR]
  unfold fldA
  rw [strL_of, show strL [] = ⟨#[]⟩ from rfl]
  generalize strL (upto s.data.toList) = A at c1 c2
  generalize strL (s.data.toList.drop ((upto s.data.toList).length + 1)) = B at c1
  generalize strL (trimR (upto s.data.toList)) = A2 at c2 c3
  have hv1 := hv.keep hf.bel
  have c1 := c1 _ hv1
  clear hR hu hr hc hv1
  go_enter Tryd.func36, Tryd.ntmps36
  go_wp2_with (first
    | (go_at_call 47; with_reducible refine c1.mono ?_; rintro e w1 ⟨rfl, hb1⟩; replace hf := hf.step hb1; clear c1 hb1)
    | (go_at_call 48; with_reducible refine (c2 _).mono ?_; rintro e w2 ⟨rfl, hb2⟩; replace hf := hf.step hb2; clear c2 hb2)
    | (go_at_call 24; with_reducible refine (c3 _).mono ?_; rintro e w3 ⟨rfl, hb3⟩; replace hf := hf.step hb3; clear c3 hb3; have k0 := hf.c0; have k1 := hf.c1; have k2 := hf.c2; have k3 := hf.c3; have f0 := hf.fr 0; have f1 := hf.fr 1; have f2 := hf.fr 2; have f3 := hf.fr 3))
  exact bodyPost_ret (results_cell_row rfl _ _ w.heap.size 38 _ _ _ rfl (set_four hf.blk) Tryd.underlying38 rfl rows38) rfl ⟨rfl, hf.put _ _ _ _⟩
set_option maxRecDepth 100000 in
set_option maxHeartbeats 2000000 in
theorem read_no (s : ByteArray) (hs : s.size ≤ 1000000) (w : World) (hv : Vars w) (hc : 58 ∉ s.data.toList) :
    Calls Tryd.prog 36 #[.string s] w fun e w' => e = .returned (fldA (readL s.data.toList)) ∧ Below w.heap.size w w' := by
  have hf := Fz.new w
  have c1 := fun w hv => cut_no hs hc w hv
  have c2 := fun w => trimr_any s hs w
  have hR : readL s.data.toList = ⟨[], [], s.data.toList, true⟩ := by
    unfold readL; rw [if_neg (fun h => hc h.1)]
  rw [hR]
  unfold fldA
  rw [strL_of, show strL [] = ⟨#[]⟩ from rfl]
  generalize strL (trimR s.data.toList) = A2 at c2
  have hv1 := hv.keep hf.bel
  have c1 := c1 _ hv1
  clear hR hc hv1
  go_enter Tryd.func36, Tryd.ntmps36
  go_wp2_with (first
    | (go_at_call 47; with_reducible refine c1.mono ?_; rintro e w1 ⟨rfl, hb1⟩; replace hf := hf.step hb1; clear c1 hb1)
    | (go_at_call 48; with_reducible refine (c2 _).mono ?_; rintro e w2 ⟨rfl, hb2⟩; replace hf := hf.step hb2; clear c2 hb2; have k0 := hf.c0; have k1 := hf.c1; have k2 := hf.c2; have k3 := hf.c3; have f0 := hf.fr 0; have f1 := hf.fr 1; have f2 := hf.fr 2; have f3 := hf.fr 3))
  exact bodyPost_ret (results_cell_row rfl _ _ w.heap.size 38 _ _ _ rfl (set_four hf.blk) Tryd.underlying38 rfl rows38) rfl ⟨rfl, hf.put _ _ _ _⟩
theorem read_any (s : ByteArray) (hs : s.size ≤ 1000000) (w : World) (hv : Vars w) :
    Calls Tryd.prog 36 #[.string s] w fun e w' => e = .returned (fldA (readL s.data.toList)) ∧ Below w.heap.size w w' := by
  by_cases hc : 58 ∈ s.data.toList
  · by_cases hr : rightL (trimR (upto s.data.toList)) = true
    · exact read_yes s hs w hv hc hr
    · exact read_bad s hs w hv hc (by simpa using hr)
  · exact read_no s hs w hv hc
end Go.Proofs.YtocghngmjipjoaaDoor
