/- The laws' right: which types are written and read back. -/
import Derived.Test.YtdinachiiimngaaGreatDoorK2
import Derived.Test.YtdinachiiimngaaGreatDoorK11
import Derived.Test.YtdinachiiimngaaGreatDoorK9
import Derived.BigQuiet
namespace Go.Proofs.YtdinachiiimngaaGreatDoor
open Go.ChangeShapes Go.WideShapes Go.ChangeAt Go.RowKit
open TokP AdrP CtP

def okP (p : List UInt8 × List UInt8) : Bool := namedB p.1 && (decide (p.2.length ≤ 2000) && validL p.2)
def rightB (K S : List UInt8) (l : List (List UInt8 × List UInt8)) : Bool := wordW K && (wordW S && (decide (K.map lowA = K) && (decide (S.map lowA = S) && (decide (l.length ≤ 20) && (l.all okP && decide ((l.map Prod.fst).Nodup))))))
theorem right_param {K S : List UInt8} {l : List (List UInt8 × List UInt8)} {k : Nat} {p : List UInt8 × List UInt8} (h : l[k]? = some p) (hp : okP p = false) : rightB K S l = false := by
  unfold rightB
  have : l.all okP = false := List.all_eq_false.2 ⟨p, List.mem_of_getElem? h, by rw [hp]; exact Bool.false_ne_true⟩
  rw [this]; simp
theorem right_twice {K S : List UInt8} {l : List (List UInt8 × List UInt8)} {j k : Nat} {p q : List UInt8 × List UInt8} (hj : j < k) (hp : l[j]? = some p) (hq : l[k]? = some q) (he : p.1 = q.1) : rightB K S l = false := by
  unfold rightB
  have : decide ((l.map Prod.fst).Nodup) = false := decide_eq_false fun hn => by
    have h1 : (l.map Prod.fst)[j]? = some p.1 := by rw [List.getElem?_map, hp]; rfl
    have h2 : (l.map Prod.fst)[k]? = some q.1 := by rw [List.getElem?_map, hq]; rfl
    obtain ⟨hj1, e1⟩ := List.getElem?_eq_some_iff.1 h1
    obtain ⟨hk1, e2⟩ := List.getElem?_eq_some_iff.1 h2
    exact List.pairwise_iff_getElem.1 hn j k hj1 hk1 hj (e1.trans (he.trans e2.symm))
  rw [this]; simp
theorem nodup_take {l : List (List UInt8 × List UInt8)} {k : Nat} {q : List UInt8 × List UInt8} (hn : ((l.take k).map Prod.fst).Nodup) (hq : l[k]? = some q) (h : ∀ (j : Nat) (p : List UInt8 × List UInt8), j < k → l[j]? = some p → ¬ p.1 = q.1) : ((l.take (k + 1)).map Prod.fst).Nodup := by
  rw [List.take_add_one, hq, Option.toList_some, List.map_append, List.nodup_append]
  refine ⟨hn, by simp, fun x hx y hy => ?_⟩
  obtain ⟨p, hp, rfl⟩ := List.mem_map.1 hx
  simp at hy
  subst hy
  obtain ⟨j, hj⟩ := List.getElem?_of_mem hp
  rw [List.getElem?_take] at hj
  split at hj
  · exact h j p (by assumption) hj
  · cases hj
theorem below_drewN {B : Nat} {a w : World} (h : Below B a w) (n : Nat) : Below B a (w.drewN n) := ⟨h.os, h.tape, h.output, h.size, h.block⟩
set_option maxRecDepth 100000 in
set_option maxHeartbeats 8000000 in
theorem right_any (K S : ByteArray) (v : Value) (l : List (List UInt8 × List UInt8)) (hK : K.size ≤ 4000000) (hS : S.size ≤ 4000000) (hn : ∀ p ∈ l, p.1.length ≤ 4000000) (w : World) (h : HasP w v l) (hv : Vr w) :
    Calls Tryz.prog 22 #[.agg #[.string K, .string S, v]] w fun e w' => e = .returned (.bool (rightB K.data.toList S.data.toList l)) ∧ Below w.heap.size w w' := by
  obtain ⟨a, c, rfl⟩ := h.form
  obtain ⟨m, hm⟩ : ∃ m, l.length = m := ⟨_, rfl⟩
  obtain ⟨R, hR⟩ : ∃ R, rightB K.data.toList S.data.toList l = R := ⟨_, rfl⟩
  rw [hm] at h ⊢
  rw [hR]
  have HR := Lib.hid hR
  have HM := Lib.hid hm
  obtain ⟨W0, hW0⟩ : ∃ W0, w.alloc (.cells #[.string K, .string S, .slice a m c] 26) = W0 := ⟨_, rfl⟩
  have HW0 := Lib.hid hW0
  have HB0 := Lib.hid (hW0 ▸ (Below.refl w.heap.size w).alloc (Nat.le_refl _) (.cells #[.string K, .string S, .slice a m c] 26) : Below w.heap.size w W0)
  have HX := Lib.hid (hW0 ▸ tyx_new w K S (.slice a m c) : Tyx W0 w.heap.size K S (.slice a m c))
  have HP := Lib.hid (h.step HB0.out)
  have HV := Lib.hid (hv.set.below HB0.out)
  have HN := Lib.hid hn
  have cW1 := fun W => rword_any K (by omega) W
  have cW2 := fun W => rword_any S (by omega) W
  have cS1 := fun W => rsmall_any K hK W
  have cS2 := fun W => rsmall_any S hS W
  have he1 := eq_strL (K.data.toList.map lowA) K.data.toList
  have he2 := eq_strL (S.data.toList.map lowA) S.data.toList
  rw [strL_of] at he1 he2
  obtain ⟨b1, hb1⟩ : ∃ b, wordW K.data.toList = b := ⟨_, rfl⟩
  obtain ⟨b2, hb2⟩ : ∃ b, wordW S.data.toList = b := ⟨_, rfl⟩
  obtain ⟨b3, hb3⟩ : ∃ b, decide (K.data.toList.map lowA = K.data.toList) = b := ⟨_, rfl⟩
  obtain ⟨b4, hb4⟩ : ∃ b, decide (S.data.toList.map lowA = S.data.toList) = b := ⟨_, rfl⟩
  have HU := Lib.hid (show (b1 && (b2 && (b3 && (b4 && (decide (l.length ≤ 20) && (l.all okP && decide ((l.map Prod.fst).Nodup))))))) = R by
    rw [← hR]; unfold rightB; rw [hb1, hb2, hb3, hb4])
  rw [hb1] at cW1
  rw [hb2] at cW2
  rw [hb3] at he1
  rw [hb4] at he2
  generalize strL (K.data.toList.map lowA) = X1 at cS1 he1
  generalize strL (S.data.toList.map lowA) = X2 at cS2 he2
  have hb : Hid (Below W0.heap.size W0 W0) := Lib.hid (Below.refl _ _)
  have hq1 := fun Q (hb : Hid (Below W0.heap.size W0 Q)) => (cW1 Q).mono (fun e w' hh => (⟨hh.1, hh.2 ▸ hb⟩ : e = .returned (.bool b1) ∧ Hid (Below W0.heap.size W0 w')))
  have hq2 := fun Q (hb : Hid (Below W0.heap.size W0 Q)) => (cW2 Q).mono (fun e w' hh => (⟨hh.1, hh.2 ▸ hb⟩ : e = .returned (.bool b2) ∧ Hid (Below W0.heap.size W0 w')))
  have hq3 := fun Q (hb : Hid (Below W0.heap.size W0 Q)) => (cS1 Q).mono (fun e w' hh => (⟨hh.1, Lib.hid (hb.out.trans (hh.2.mono hb.out.size))⟩ : e = .returned (.string X1) ∧ Hid (Below W0.heap.size W0 w')))
  have hq4 := fun Q (hb : Hid (Below W0.heap.size W0 Q)) => (cS2 Q).mono (fun e w' hh => (⟨hh.1, Lib.hid (hb.out.trans (hh.2.mono hb.out.size))⟩ : e = .returned (.string X2) ∧ Hid (Below W0.heap.size W0 w')))
  have HK := Lib.hid (fun Q (h : Hid (Below W0.heap.size W0 Q)) => (⟨h, (HX.out.step h.out).c0, (HX.out.step h.out).c1, (HX.out.step h.out).c2⟩ : Hid (Below W0.heap.size W0 Q) ∧ Q.cell? ⟨w.heap.size, 0, none⟩ = some (.string K) ∧ Q.cell? ⟨w.heap.size, 1, none⟩ = some (.string S) ∧ Q.cell? ⟨w.heap.size, 2, none⟩ = some (.slice a m c)))
  clear cW1 cW2 cS1 cS2 hb1 hb2 hb3 hb4 hW0 hR hm h hv hn
  cases b1 with
  | false =>
    obtain rfl : false = R := by rw [← HU.out]; simp
    clear HU HR hq2 hq3 hq4 he1 he2
    go_enter Tryz.func22, Tryz.ntmps22
    go_wp2_with fail
    rw [HW0.out]
    refine wp_region_noPanic ?_
    refine wp_region_held_drew (S := (fun Q => Hid (Below W0.heap.size W0 Q) ∧ Q.cell? ⟨w.heap.size, 0, none⟩ = some (.string K) ∧ Q.cell? ⟨w.heap.size, 1, none⟩ = some (.string S) ∧ Q.cell? ⟨w.heap.size, 2, none⟩ = some (.slice a m c))) (by kernel_rfl) (HK.out _ (Lib.hid hb.out.drew)) (fun hH0 => ?_)
    refine held_take (i := 0) (.pointer (some ⟨w.heap.size, 0, none⟩)) rfl (by kernel_rfl) (by kernel_rfl) (by kernel_rfl) (by rfl) (fun w hSw => by obtain ⟨_, k0, k1, k2⟩ := hSw; go_simp) (by exact hH0) ?_
    simp only [Act.put, List.setIfInBounds_toArray, List.set_cons_zero, List.set_cons_succ]
    refine held_take (i := 1) (.string K) rfl (by kernel_rfl) (by kernel_rfl) (by kernel_rfl) (by rfl) (fun w hSw => by obtain ⟨_, k0, k1, k2⟩ := hSw; go_simp) (by exact hH0) ?_
    simp only [Act.put, List.setIfInBounds_toArray, List.set_cons_zero, List.set_cons_succ]
    refine held_step (i := 2) (.bool false) rfl (by kernel_rfl) (by rfl) (fun K hK => ?_) (fun wH1 hH1 => ?_)
    · go_simp
      refine (hq1 _ hH0.1).mono ?_
      rintro e w2 ⟨rfl, hS2⟩
      exact hK _ (HK.out _ hS2)
    simp only [Act.put, List.setIfInBounds_toArray, List.set_cons_zero, List.set_cons_succ]
    refine held_take (i := 3) (.bool true) rfl (by kernel_rfl) (by kernel_rfl) (by kernel_rfl) (by rfl) (fun w hSw => by obtain ⟨_, k0, k1, k2⟩ := hSw; go_simp) (by exact hH1) ?_
    simp only [Act.put, List.setIfInBounds_toArray, List.set_cons_zero, List.set_cons_succ]
    refine held_take (i := 4) (.bool true) rfl (by kernel_rfl) (by kernel_rfl) (by kernel_rfl) (by rfl) (fun w hSw => by obtain ⟨_, k0, k1, k2⟩ := hSw; go_simp) (by exact hH1) ?_
    simp only [Act.put, List.setIfInBounds_toArray, List.set_cons_zero, List.set_cons_succ]
    refine held_skip (i := 5) rfl (by kernel_rfl) (by kernel_rfl) (by kernel_rfl) (by rfl) (by exact hH1) ?_
    simp only [Act.put, List.setIfInBounds_toArray, List.set_cons_zero, List.set_cons_succ]
    refine held_skip (i := 6) rfl (by kernel_rfl) (by kernel_rfl) (by kernel_rfl) (by rfl) (by exact hH1) ?_
    simp only [Act.put, List.setIfInBounds_toArray, List.set_cons_zero, List.set_cons_succ]
    refine held_skip (i := 7) rfl (by kernel_rfl) (by kernel_rfl) (by kernel_rfl) (by rfl) (by exact hH1) ?_
    simp only [Act.put, List.setIfInBounds_toArray, List.set_cons_zero, List.set_cons_succ]
    refine held_skip (i := 8) rfl (by kernel_rfl) (by kernel_rfl) (by kernel_rfl) (by rfl) (by exact hH1) ?_
    simp only [Act.put, List.setIfInBounds_toArray, List.set_cons_zero, List.set_cons_succ]
    refine held_take (i := 9) (.bool true) rfl (by kernel_rfl) (by kernel_rfl) (by kernel_rfl) (by rfl) (fun w hSw => by obtain ⟨_, k0, k1, k2⟩ := hSw; go_simp) (by exact hH1) ?_
    simp only [Act.put, List.setIfInBounds_toArray, List.set_cons_zero, List.set_cons_succ]
    refine held_take (i := 10) (.bool true) rfl (by kernel_rfl) (by kernel_rfl) (by kernel_rfl) (by rfl) (fun w hSw => by obtain ⟨_, k0, k1, k2⟩ := hSw; go_simp) (by exact hH1) ?_
    simp only [Act.put, List.setIfInBounds_toArray, List.set_cons_zero, List.set_cons_succ]
    refine held_skip (i := 11) rfl (by kernel_rfl) (by kernel_rfl) (by kernel_rfl) (by rfl) (by exact hH1) ?_
    simp only [Act.put, List.setIfInBounds_toArray, List.set_cons_zero, List.set_cons_succ]
    refine held_skip (i := 12) rfl (by kernel_rfl) (by kernel_rfl) (by kernel_rfl) (by rfl) (by exact hH1) ?_
    simp only [Act.put, List.setIfInBounds_toArray, List.set_cons_zero, List.set_cons_succ]
    refine held_skip (i := 14) rfl (by kernel_rfl) (by kernel_rfl) (by kernel_rfl) (by rfl) (by exact hH1) ?_
    simp only [Act.put, List.setIfInBounds_toArray, List.set_cons_zero, List.set_cons_succ]
    refine held_skip (i := 15) rfl (by kernel_rfl) (by kernel_rfl) (by kernel_rfl) (by rfl) (by exact hH1) ?_
    simp only [Act.put, List.setIfInBounds_toArray, List.set_cons_zero, List.set_cons_succ]
    refine held_skip (i := 13) rfl (by kernel_rfl) (by kernel_rfl) (by kernel_rfl) (by rfl) (by exact hH1) ?_
    simp only [Act.put, List.setIfInBounds_toArray, List.set_cons_zero, List.set_cons_succ]
    refine held_skip (i := 16) rfl (by kernel_rfl) (by kernel_rfl) (by kernel_rfl) (by rfl) (by exact hH1) ?_
    simp only [Act.put, List.setIfInBounds_toArray, List.set_cons_zero, List.set_cons_succ]
    refine held_take (i := 17) (.bool true) rfl (by kernel_rfl) (by kernel_rfl) (by kernel_rfl) (by rfl) (fun w hSw => by obtain ⟨_, k0, k1, k2⟩ := hSw; go_simp) (by exact hH1) ?_
    simp only [Act.put, List.setIfInBounds_toArray, List.set_cons_zero, List.set_cons_succ]
    refine held_take (i := 18) (.bool true) rfl (by kernel_rfl) (by kernel_rfl) (by kernel_rfl) (by rfl) (fun w hSw => by obtain ⟨_, k0, k1, k2⟩ := hSw; go_simp) (by exact hH1) ?_
    simp only [Act.put, List.setIfInBounds_toArray, List.set_cons_zero, List.set_cons_succ]
    refine held_skip (i := 19) rfl (by kernel_rfl) (by kernel_rfl) (by kernel_rfl) (by rfl) (by exact hH1) ?_
    simp only [Act.put, List.setIfInBounds_toArray, List.set_cons_zero, List.set_cons_succ]
    refine held_skip (i := 20) rfl (by kernel_rfl) (by kernel_rfl) (by kernel_rfl) (by rfl) (by exact hH1) ?_
    simp only [Act.put, List.setIfInBounds_toArray, List.set_cons_zero, List.set_cons_succ]
    refine held_skip (i := 22) rfl (by kernel_rfl) (by kernel_rfl) (by kernel_rfl) (by rfl) (by exact hH1) ?_
    simp only [Act.put, List.setIfInBounds_toArray, List.set_cons_zero, List.set_cons_succ]
    refine held_skip (i := 23) rfl (by kernel_rfl) (by kernel_rfl) (by kernel_rfl) (by rfl) (by exact hH1) ?_
    simp only [Act.put, List.setIfInBounds_toArray, List.set_cons_zero, List.set_cons_succ]
    refine held_skip (i := 21) rfl (by kernel_rfl) (by kernel_rfl) (by kernel_rfl) (by rfl) (by exact hH1) ?_
    simp only [Act.put, List.setIfInBounds_toArray, List.set_cons_zero, List.set_cons_succ]
    refine held_skip (i := 24) rfl (by kernel_rfl) (by kernel_rfl) (by kernel_rfl) (by rfl) (by exact hH1) ?_
    simp only [Act.put, List.setIfInBounds_toArray, List.set_cons_zero, List.set_cons_succ]
    refine held_take (i := 25) (.bool true) rfl (by kernel_rfl) (by kernel_rfl) (by kernel_rfl) (by rfl) (fun w hSw => by obtain ⟨_, k0, k1, k2⟩ := hSw; go_simp) (by exact hH1) ?_
    simp only [Act.put, List.setIfInBounds_toArray, List.set_cons_zero, List.set_cons_succ]
    refine held_take (i := 26) (.bool true) rfl (by kernel_rfl) (by kernel_rfl) (by kernel_rfl) (by rfl) (fun w hSw => by obtain ⟨_, k0, k1, k2⟩ := hSw; go_simp) (by exact hH1) ?_
    simp only [Act.put, List.setIfInBounds_toArray, List.set_cons_zero, List.set_cons_succ]
    refine held_skip (i := 27) rfl (by kernel_rfl) (by kernel_rfl) (by kernel_rfl) (by rfl) (by exact hH1) ?_
    simp only [Act.put, List.setIfInBounds_toArray, List.set_cons_zero, List.set_cons_succ]
    refine held_skip (i := 28) rfl (by kernel_rfl) (by kernel_rfl) (by kernel_rfl) (by rfl) (by exact hH1) ?_
    simp only [Act.put, List.setIfInBounds_toArray, List.set_cons_zero, List.set_cons_succ]
    refine held_skip (i := 29) rfl (by kernel_rfl) (by kernel_rfl) (by kernel_rfl) (by rfl) (by exact hH1) ?_
    simp only [Act.put, List.setIfInBounds_toArray, List.set_cons_zero, List.set_cons_succ]
    refine held_skip (i := 30) rfl (by kernel_rfl) (by kernel_rfl) (by kernel_rfl) (by rfl) (by exact hH1) ?_
    simp only [Act.put, List.setIfInBounds_toArray, List.set_cons_zero, List.set_cons_succ]
    refine held_take (i := 31) (.bool true) rfl (by kernel_rfl) (by kernel_rfl) (by kernel_rfl) (by rfl) (fun w hSw => by obtain ⟨_, k0, k1, k2⟩ := hSw; go_simp) (by exact hH1) ?_
    simp only [Act.put, List.setIfInBounds_toArray, List.set_cons_zero, List.set_cons_succ]
    refine wpAnyH_done (by kernel_rfl) ?_ _
    refine NoPanic.normal ?_
    have hsE := hH1.1
    go_wp2_with fail
    go_ret
    exact ⟨rfl, HB0.out.trans (hsE.out.mono HB0.out.size)⟩
  | true =>
    cases b2 with
    | false =>
      obtain rfl : false = R := by rw [← HU.out]; simp
      clear HU HR hq3 hq4 he1 he2
      go_enter Tryz.func22, Tryz.ntmps22
      go_wp2_with fail
      rw [HW0.out]
      refine wp_region_noPanic ?_
      refine wp_region_held_drew (S := (fun Q => Hid (Below W0.heap.size W0 Q) ∧ Q.cell? ⟨w.heap.size, 0, none⟩ = some (.string K) ∧ Q.cell? ⟨w.heap.size, 1, none⟩ = some (.string S) ∧ Q.cell? ⟨w.heap.size, 2, none⟩ = some (.slice a m c))) (by kernel_rfl) (HK.out _ (Lib.hid hb.out.drew)) (fun hH0 => ?_)
      refine held_take (i := 0) (.pointer (some ⟨w.heap.size, 0, none⟩)) rfl (by kernel_rfl) (by kernel_rfl) (by kernel_rfl) (by rfl) (fun w hSw => by obtain ⟨_, k0, k1, k2⟩ := hSw; go_simp) (by exact hH0) ?_
      simp only [Act.put, List.setIfInBounds_toArray, List.set_cons_zero, List.set_cons_succ]
      refine held_take (i := 1) (.string K) rfl (by kernel_rfl) (by kernel_rfl) (by kernel_rfl) (by rfl) (fun w hSw => by obtain ⟨_, k0, k1, k2⟩ := hSw; go_simp) (by exact hH0) ?_
      simp only [Act.put, List.setIfInBounds_toArray, List.set_cons_zero, List.set_cons_succ]
      refine held_step (i := 2) (.bool true) rfl (by kernel_rfl) (by rfl) (fun K hK => ?_) (fun wH1 hH1 => ?_)
      · go_simp
        refine (hq1 _ hH0.1).mono ?_
        rintro e w2 ⟨rfl, hS2⟩
        exact hK _ (HK.out _ hS2)
      simp only [Act.put, List.setIfInBounds_toArray, List.set_cons_zero, List.set_cons_succ]
      refine held_take (i := 3) (.bool false) rfl (by kernel_rfl) (by kernel_rfl) (by kernel_rfl) (by rfl) (fun w hSw => by obtain ⟨_, k0, k1, k2⟩ := hSw; go_simp) (by exact hH1) ?_
      simp only [Act.put, List.setIfInBounds_toArray, List.set_cons_zero, List.set_cons_succ]
      refine held_take (i := 4) (.bool false) rfl (by kernel_rfl) (by kernel_rfl) (by kernel_rfl) (by rfl) (fun w hSw => by obtain ⟨_, k0, k1, k2⟩ := hSw; go_simp) (by exact hH1) ?_
      simp only [Act.put, List.setIfInBounds_toArray, List.set_cons_zero, List.set_cons_succ]
      refine held_take (i := 5) (.pointer (some ⟨w.heap.size, 1, none⟩)) rfl (by kernel_rfl) (by kernel_rfl) (by kernel_rfl) (by rfl) (fun w hSw => by obtain ⟨_, k0, k1, k2⟩ := hSw; go_simp) (by exact hH1) ?_
      simp only [Act.put, List.setIfInBounds_toArray, List.set_cons_zero, List.set_cons_succ]
      refine held_take (i := 6) (.string S) rfl (by kernel_rfl) (by kernel_rfl) (by kernel_rfl) (by rfl) (fun w hSw => by obtain ⟨_, k0, k1, k2⟩ := hSw; go_simp) (by exact hH1) ?_
      simp only [Act.put, List.setIfInBounds_toArray, List.set_cons_zero, List.set_cons_succ]
      refine held_step (i := 7) (.bool false) rfl (by kernel_rfl) (by rfl) (fun K hK => ?_) (fun wH2 hH2 => ?_)
      · go_simp
        refine (hq2 _ hH1.1).mono ?_
        rintro e w2 ⟨rfl, hS2⟩
        exact hK _ (HK.out _ hS2)
      simp only [Act.put, List.setIfInBounds_toArray, List.set_cons_zero, List.set_cons_succ]
      refine held_take (i := 8) (.bool true) rfl (by kernel_rfl) (by kernel_rfl) (by kernel_rfl) (by rfl) (fun w hSw => by obtain ⟨_, k0, k1, k2⟩ := hSw; go_simp) (by exact hH2) ?_
      simp only [Act.put, List.setIfInBounds_toArray, List.set_cons_zero, List.set_cons_succ]
      refine held_take (i := 9) (.bool true) rfl (by kernel_rfl) (by kernel_rfl) (by kernel_rfl) (by rfl) (fun w hSw => by obtain ⟨_, k0, k1, k2⟩ := hSw; go_simp) (by exact hH2) ?_
      simp only [Act.put, List.setIfInBounds_toArray, List.set_cons_zero, List.set_cons_succ]
      refine held_take (i := 10) (.bool true) rfl (by kernel_rfl) (by kernel_rfl) (by kernel_rfl) (by rfl) (fun w hSw => by obtain ⟨_, k0, k1, k2⟩ := hSw; go_simp) (by exact hH2) ?_
      simp only [Act.put, List.setIfInBounds_toArray, List.set_cons_zero, List.set_cons_succ]
      refine held_skip (i := 11) rfl (by kernel_rfl) (by kernel_rfl) (by kernel_rfl) (by rfl) (by exact hH2) ?_
      simp only [Act.put, List.setIfInBounds_toArray, List.set_cons_zero, List.set_cons_succ]
      refine held_skip (i := 12) rfl (by kernel_rfl) (by kernel_rfl) (by kernel_rfl) (by rfl) (by exact hH2) ?_
      simp only [Act.put, List.setIfInBounds_toArray, List.set_cons_zero, List.set_cons_succ]
      refine held_skip (i := 14) rfl (by kernel_rfl) (by kernel_rfl) (by kernel_rfl) (by rfl) (by exact hH2) ?_
      simp only [Act.put, List.setIfInBounds_toArray, List.set_cons_zero, List.set_cons_succ]
      refine held_skip (i := 15) rfl (by kernel_rfl) (by kernel_rfl) (by kernel_rfl) (by rfl) (by exact hH2) ?_
      simp only [Act.put, List.setIfInBounds_toArray, List.set_cons_zero, List.set_cons_succ]
      refine held_skip (i := 13) rfl (by kernel_rfl) (by kernel_rfl) (by kernel_rfl) (by rfl) (by exact hH2) ?_
      simp only [Act.put, List.setIfInBounds_toArray, List.set_cons_zero, List.set_cons_succ]
      refine held_skip (i := 16) rfl (by kernel_rfl) (by kernel_rfl) (by kernel_rfl) (by rfl) (by exact hH2) ?_
      simp only [Act.put, List.setIfInBounds_toArray, List.set_cons_zero, List.set_cons_succ]
      refine held_take (i := 17) (.bool true) rfl (by kernel_rfl) (by kernel_rfl) (by kernel_rfl) (by rfl) (fun w hSw => by obtain ⟨_, k0, k1, k2⟩ := hSw; go_simp) (by exact hH2) ?_
      simp only [Act.put, List.setIfInBounds_toArray, List.set_cons_zero, List.set_cons_succ]
      refine held_take (i := 18) (.bool true) rfl (by kernel_rfl) (by kernel_rfl) (by kernel_rfl) (by rfl) (fun w hSw => by obtain ⟨_, k0, k1, k2⟩ := hSw; go_simp) (by exact hH2) ?_
      simp only [Act.put, List.setIfInBounds_toArray, List.set_cons_zero, List.set_cons_succ]
      refine held_skip (i := 19) rfl (by kernel_rfl) (by kernel_rfl) (by kernel_rfl) (by rfl) (by exact hH2) ?_
      simp only [Act.put, List.setIfInBounds_toArray, List.set_cons_zero, List.set_cons_succ]
      refine held_skip (i := 20) rfl (by kernel_rfl) (by kernel_rfl) (by kernel_rfl) (by rfl) (by exact hH2) ?_
      simp only [Act.put, List.setIfInBounds_toArray, List.set_cons_zero, List.set_cons_succ]
      refine held_skip (i := 22) rfl (by kernel_rfl) (by kernel_rfl) (by kernel_rfl) (by rfl) (by exact hH2) ?_
      simp only [Act.put, List.setIfInBounds_toArray, List.set_cons_zero, List.set_cons_succ]
      refine held_skip (i := 23) rfl (by kernel_rfl) (by kernel_rfl) (by kernel_rfl) (by rfl) (by exact hH2) ?_
      simp only [Act.put, List.setIfInBounds_toArray, List.set_cons_zero, List.set_cons_succ]
      refine held_skip (i := 21) rfl (by kernel_rfl) (by kernel_rfl) (by kernel_rfl) (by rfl) (by exact hH2) ?_
      simp only [Act.put, List.setIfInBounds_toArray, List.set_cons_zero, List.set_cons_succ]
      refine held_skip (i := 24) rfl (by kernel_rfl) (by kernel_rfl) (by kernel_rfl) (by rfl) (by exact hH2) ?_
      simp only [Act.put, List.setIfInBounds_toArray, List.set_cons_zero, List.set_cons_succ]
      refine held_take (i := 25) (.bool true) rfl (by kernel_rfl) (by kernel_rfl) (by kernel_rfl) (by rfl) (fun w hSw => by obtain ⟨_, k0, k1, k2⟩ := hSw; go_simp) (by exact hH2) ?_
      simp only [Act.put, List.setIfInBounds_toArray, List.set_cons_zero, List.set_cons_succ]
      refine held_take (i := 26) (.bool true) rfl (by kernel_rfl) (by kernel_rfl) (by kernel_rfl) (by rfl) (fun w hSw => by obtain ⟨_, k0, k1, k2⟩ := hSw; go_simp) (by exact hH2) ?_
      simp only [Act.put, List.setIfInBounds_toArray, List.set_cons_zero, List.set_cons_succ]
      refine held_skip (i := 27) rfl (by kernel_rfl) (by kernel_rfl) (by kernel_rfl) (by rfl) (by exact hH2) ?_
      simp only [Act.put, List.setIfInBounds_toArray, List.set_cons_zero, List.set_cons_succ]
      refine held_skip (i := 28) rfl (by kernel_rfl) (by kernel_rfl) (by kernel_rfl) (by rfl) (by exact hH2) ?_
      simp only [Act.put, List.setIfInBounds_toArray, List.set_cons_zero, List.set_cons_succ]
      refine held_skip (i := 29) rfl (by kernel_rfl) (by kernel_rfl) (by kernel_rfl) (by rfl) (by exact hH2) ?_
      simp only [Act.put, List.setIfInBounds_toArray, List.set_cons_zero, List.set_cons_succ]
      refine held_skip (i := 30) rfl (by kernel_rfl) (by kernel_rfl) (by kernel_rfl) (by rfl) (by exact hH2) ?_
      simp only [Act.put, List.setIfInBounds_toArray, List.set_cons_zero, List.set_cons_succ]
      refine held_take (i := 31) (.bool true) rfl (by kernel_rfl) (by kernel_rfl) (by kernel_rfl) (by rfl) (fun w hSw => by obtain ⟨_, k0, k1, k2⟩ := hSw; go_simp) (by exact hH2) ?_
      simp only [Act.put, List.setIfInBounds_toArray, List.set_cons_zero, List.set_cons_succ]
      refine wpAnyH_done (by kernel_rfl) ?_ _
      refine NoPanic.normal ?_
      have hsE := hH2.1
      go_wp2_with fail
      go_ret
      exact ⟨rfl, HB0.out.trans (hsE.out.mono HB0.out.size)⟩
    | true =>
      cases b3 with
      | false =>
        obtain rfl : false = R := by rw [← HU.out]; simp
        clear HU HR hq4 he2
        go_enter Tryz.func22, Tryz.ntmps22
        go_wp2_with fail
        rw [HW0.out]
        refine wp_region_noPanic ?_
        refine wp_region_held_drew (S := (fun Q => Hid (Below W0.heap.size W0 Q) ∧ Q.cell? ⟨w.heap.size, 0, none⟩ = some (.string K) ∧ Q.cell? ⟨w.heap.size, 1, none⟩ = some (.string S) ∧ Q.cell? ⟨w.heap.size, 2, none⟩ = some (.slice a m c))) (by kernel_rfl) (HK.out _ (Lib.hid hb.out.drew)) (fun hH0 => ?_)
        refine held_take (i := 0) (.pointer (some ⟨w.heap.size, 0, none⟩)) rfl (by kernel_rfl) (by kernel_rfl) (by kernel_rfl) (by rfl) (fun w hSw => by obtain ⟨_, k0, k1, k2⟩ := hSw; go_simp) (by exact hH0) ?_
        simp only [Act.put, List.setIfInBounds_toArray, List.set_cons_zero, List.set_cons_succ]
        refine held_take (i := 1) (.string K) rfl (by kernel_rfl) (by kernel_rfl) (by kernel_rfl) (by rfl) (fun w hSw => by obtain ⟨_, k0, k1, k2⟩ := hSw; go_simp) (by exact hH0) ?_
        simp only [Act.put, List.setIfInBounds_toArray, List.set_cons_zero, List.set_cons_succ]
        refine held_step (i := 2) (.bool true) rfl (by kernel_rfl) (by rfl) (fun K hK => ?_) (fun wH1 hH1 => ?_)
        · go_simp
          refine (hq1 _ hH0.1).mono ?_
          rintro e w2 ⟨rfl, hS2⟩
          exact hK _ (HK.out _ hS2)
        simp only [Act.put, List.setIfInBounds_toArray, List.set_cons_zero, List.set_cons_succ]
        refine held_take (i := 3) (.bool false) rfl (by kernel_rfl) (by kernel_rfl) (by kernel_rfl) (by rfl) (fun w hSw => by obtain ⟨_, k0, k1, k2⟩ := hSw; go_simp) (by exact hH1) ?_
        simp only [Act.put, List.setIfInBounds_toArray, List.set_cons_zero, List.set_cons_succ]
        refine held_take (i := 4) (.bool false) rfl (by kernel_rfl) (by kernel_rfl) (by kernel_rfl) (by rfl) (fun w hSw => by obtain ⟨_, k0, k1, k2⟩ := hSw; go_simp) (by exact hH1) ?_
        simp only [Act.put, List.setIfInBounds_toArray, List.set_cons_zero, List.set_cons_succ]
        refine held_take (i := 5) (.pointer (some ⟨w.heap.size, 1, none⟩)) rfl (by kernel_rfl) (by kernel_rfl) (by kernel_rfl) (by rfl) (fun w hSw => by obtain ⟨_, k0, k1, k2⟩ := hSw; go_simp) (by exact hH1) ?_
        simp only [Act.put, List.setIfInBounds_toArray, List.set_cons_zero, List.set_cons_succ]
        refine held_take (i := 6) (.string S) rfl (by kernel_rfl) (by kernel_rfl) (by kernel_rfl) (by rfl) (fun w hSw => by obtain ⟨_, k0, k1, k2⟩ := hSw; go_simp) (by exact hH1) ?_
        simp only [Act.put, List.setIfInBounds_toArray, List.set_cons_zero, List.set_cons_succ]
        refine held_step (i := 7) (.bool true) rfl (by kernel_rfl) (by rfl) (fun K hK => ?_) (fun wH2 hH2 => ?_)
        · go_simp
          refine (hq2 _ hH1.1).mono ?_
          rintro e w2 ⟨rfl, hS2⟩
          exact hK _ (HK.out _ hS2)
        simp only [Act.put, List.setIfInBounds_toArray, List.set_cons_zero, List.set_cons_succ]
        refine held_take (i := 8) (.bool false) rfl (by kernel_rfl) (by kernel_rfl) (by kernel_rfl) (by rfl) (fun w hSw => by obtain ⟨_, k0, k1, k2⟩ := hSw; go_simp) (by exact hH2) ?_
        simp only [Act.put, List.setIfInBounds_toArray, List.set_cons_zero, List.set_cons_succ]
        refine held_take (i := 9) (.bool false) rfl (by kernel_rfl) (by kernel_rfl) (by kernel_rfl) (by rfl) (fun w hSw => by obtain ⟨_, k0, k1, k2⟩ := hSw; go_simp) (by exact hH2) ?_
        simp only [Act.put, List.setIfInBounds_toArray, List.set_cons_zero, List.set_cons_succ]
        refine held_take (i := 10) (.bool false) rfl (by kernel_rfl) (by kernel_rfl) (by kernel_rfl) (by rfl) (fun w hSw => by obtain ⟨_, k0, k1, k2⟩ := hSw; go_simp) (by exact hH2) ?_
        simp only [Act.put, List.setIfInBounds_toArray, List.set_cons_zero, List.set_cons_succ]
        refine held_take (i := 11) (.pointer (some ⟨w.heap.size, 0, none⟩)) rfl (by kernel_rfl) (by kernel_rfl) (by kernel_rfl) (by rfl) (fun w hSw => by obtain ⟨_, k0, k1, k2⟩ := hSw; go_simp) (by exact hH2) ?_
        simp only [Act.put, List.setIfInBounds_toArray, List.set_cons_zero, List.set_cons_succ]
        refine held_take (i := 12) (.string K) rfl (by kernel_rfl) (by kernel_rfl) (by kernel_rfl) (by rfl) (fun w hSw => by obtain ⟨_, k0, k1, k2⟩ := hSw; go_simp) (by exact hH2) ?_
        simp only [Act.put, List.setIfInBounds_toArray, List.set_cons_zero, List.set_cons_succ]
        refine held_take (i := 14) (.pointer (some ⟨w.heap.size, 0, none⟩)) rfl (by kernel_rfl) (by kernel_rfl) (by kernel_rfl) (by rfl) (fun w hSw => by obtain ⟨_, k0, k1, k2⟩ := hSw; go_simp) (by exact hH2) ?_
        simp only [Act.put, List.setIfInBounds_toArray, List.set_cons_zero, List.set_cons_succ]
        refine held_take (i := 15) (.string K) rfl (by kernel_rfl) (by kernel_rfl) (by kernel_rfl) (by rfl) (fun w hSw => by obtain ⟨_, k0, k1, k2⟩ := hSw; go_simp) (by exact hH2) ?_
        simp only [Act.put, List.setIfInBounds_toArray, List.set_cons_zero, List.set_cons_succ]
        refine held_step (i := 13) (.string X1) rfl (by kernel_rfl) (by rfl) (fun K hK => ?_) (fun wH3 hH3 => ?_)
        · go_simp
          refine (hq3 _ hH2.1).mono ?_
          rintro e w2 ⟨rfl, hS2⟩
          exact hK _ (HK.out _ hS2)
        simp only [Act.put, List.setIfInBounds_toArray, List.set_cons_zero, List.set_cons_succ]
        refine held_take (i := 16) (.bool true) rfl (by kernel_rfl) (by kernel_rfl) (by kernel_rfl) (by rfl) (fun w hSw => by obtain ⟨_, k0, k1, k2⟩ := hSw; go_simp) (by exact hH3) ?_
        simp only [Act.put, List.setIfInBounds_toArray, List.set_cons_zero, List.set_cons_succ]
        refine held_take (i := 17) (.bool true) rfl (by kernel_rfl) (by kernel_rfl) (by kernel_rfl) (by rfl) (fun w hSw => by obtain ⟨_, k0, k1, k2⟩ := hSw; go_simp) (by exact hH3) ?_
        simp only [Act.put, List.setIfInBounds_toArray, List.set_cons_zero, List.set_cons_succ]
        refine held_take (i := 18) (.bool true) rfl (by kernel_rfl) (by kernel_rfl) (by kernel_rfl) (by rfl) (fun w hSw => by obtain ⟨_, k0, k1, k2⟩ := hSw; go_simp) (by exact hH3) ?_
        simp only [Act.put, List.setIfInBounds_toArray, List.set_cons_zero, List.set_cons_succ]
        refine held_skip (i := 19) rfl (by kernel_rfl) (by kernel_rfl) (by kernel_rfl) (by rfl) (by exact hH3) ?_
        simp only [Act.put, List.setIfInBounds_toArray, List.set_cons_zero, List.set_cons_succ]
        refine held_skip (i := 20) rfl (by kernel_rfl) (by kernel_rfl) (by kernel_rfl) (by rfl) (by exact hH3) ?_
        simp only [Act.put, List.setIfInBounds_toArray, List.set_cons_zero, List.set_cons_succ]
        refine held_skip (i := 22) rfl (by kernel_rfl) (by kernel_rfl) (by kernel_rfl) (by rfl) (by exact hH3) ?_
        simp only [Act.put, List.setIfInBounds_toArray, List.set_cons_zero, List.set_cons_succ]
        refine held_skip (i := 23) rfl (by kernel_rfl) (by kernel_rfl) (by kernel_rfl) (by rfl) (by exact hH3) ?_
        simp only [Act.put, List.setIfInBounds_toArray, List.set_cons_zero, List.set_cons_succ]
        refine held_skip (i := 21) rfl (by kernel_rfl) (by kernel_rfl) (by kernel_rfl) (by rfl) (by exact hH3) ?_
        simp only [Act.put, List.setIfInBounds_toArray, List.set_cons_zero, List.set_cons_succ]
        refine held_skip (i := 24) rfl (by kernel_rfl) (by kernel_rfl) (by kernel_rfl) (by rfl) (by exact hH3) ?_
        simp only [Act.put, List.setIfInBounds_toArray, List.set_cons_zero, List.set_cons_succ]
        refine held_take (i := 25) (.bool true) rfl (by kernel_rfl) (by kernel_rfl) (by kernel_rfl) (by rfl) (fun w hSw => by obtain ⟨_, k0, k1, k2⟩ := hSw; go_simp) (by exact hH3) ?_
        simp only [Act.put, List.setIfInBounds_toArray, List.set_cons_zero, List.set_cons_succ]
        refine held_take (i := 26) (.bool true) rfl (by kernel_rfl) (by kernel_rfl) (by kernel_rfl) (by rfl) (fun w hSw => by obtain ⟨_, k0, k1, k2⟩ := hSw; go_simp) (by exact hH3) ?_
        simp only [Act.put, List.setIfInBounds_toArray, List.set_cons_zero, List.set_cons_succ]
        refine held_skip (i := 27) rfl (by kernel_rfl) (by kernel_rfl) (by kernel_rfl) (by rfl) (by exact hH3) ?_
        simp only [Act.put, List.setIfInBounds_toArray, List.set_cons_zero, List.set_cons_succ]
        refine held_skip (i := 28) rfl (by kernel_rfl) (by kernel_rfl) (by kernel_rfl) (by rfl) (by exact hH3) ?_
        simp only [Act.put, List.setIfInBounds_toArray, List.set_cons_zero, List.set_cons_succ]
        refine held_skip (i := 29) rfl (by kernel_rfl) (by kernel_rfl) (by kernel_rfl) (by rfl) (by exact hH3) ?_
        simp only [Act.put, List.setIfInBounds_toArray, List.set_cons_zero, List.set_cons_succ]
        refine held_skip (i := 30) rfl (by kernel_rfl) (by kernel_rfl) (by kernel_rfl) (by rfl) (by exact hH3) ?_
        simp only [Act.put, List.setIfInBounds_toArray, List.set_cons_zero, List.set_cons_succ]
        refine held_take (i := 31) (.bool true) rfl (by kernel_rfl) (by kernel_rfl) (by kernel_rfl) (by rfl) (fun w hSw => by obtain ⟨_, k0, k1, k2⟩ := hSw; go_simp) (by exact hH3) ?_
        simp only [Act.put, List.setIfInBounds_toArray, List.set_cons_zero, List.set_cons_succ]
        refine wpAnyH_done (by kernel_rfl) ?_ _
        refine NoPanic.normal ?_
        have hsE := hH3.1
        go_wp2_with fail
        go_ret
        exact ⟨rfl, HB0.out.trans (hsE.out.mono HB0.out.size)⟩
      | true =>
        cases b4 with
        | false =>
          obtain rfl : false = R := by rw [← HU.out]; simp
          clear HU HR
          go_enter Tryz.func22, Tryz.ntmps22
          go_wp2_with fail
          rw [HW0.out]
          refine wp_region_noPanic ?_
          refine wp_region_held_drew (S := (fun Q => Hid (Below W0.heap.size W0 Q) ∧ Q.cell? ⟨w.heap.size, 0, none⟩ = some (.string K) ∧ Q.cell? ⟨w.heap.size, 1, none⟩ = some (.string S) ∧ Q.cell? ⟨w.heap.size, 2, none⟩ = some (.slice a m c))) (by kernel_rfl) (HK.out _ (Lib.hid hb.out.drew)) (fun hH0 => ?_)
          refine held_take (i := 0) (.pointer (some ⟨w.heap.size, 0, none⟩)) rfl (by kernel_rfl) (by kernel_rfl) (by kernel_rfl) (by rfl) (fun w hSw => by obtain ⟨_, k0, k1, k2⟩ := hSw; go_simp) (by exact hH0) ?_
          simp only [Act.put, List.setIfInBounds_toArray, List.set_cons_zero, List.set_cons_succ]
          refine held_take (i := 1) (.string K) rfl (by kernel_rfl) (by kernel_rfl) (by kernel_rfl) (by rfl) (fun w hSw => by obtain ⟨_, k0, k1, k2⟩ := hSw; go_simp) (by exact hH0) ?_
          simp only [Act.put, List.setIfInBounds_toArray, List.set_cons_zero, List.set_cons_succ]
          refine held_step (i := 2) (.bool true) rfl (by kernel_rfl) (by rfl) (fun K hK => ?_) (fun wH1 hH1 => ?_)
          · go_simp
            refine (hq1 _ hH0.1).mono ?_
            rintro e w2 ⟨rfl, hS2⟩
            exact hK _ (HK.out _ hS2)
          simp only [Act.put, List.setIfInBounds_toArray, List.set_cons_zero, List.set_cons_succ]
          refine held_take (i := 3) (.bool false) rfl (by kernel_rfl) (by kernel_rfl) (by kernel_rfl) (by rfl) (fun w hSw => by obtain ⟨_, k0, k1, k2⟩ := hSw; go_simp) (by exact hH1) ?_
          simp only [Act.put, List.setIfInBounds_toArray, List.set_cons_zero, List.set_cons_succ]
          refine held_take (i := 4) (.bool false) rfl (by kernel_rfl) (by kernel_rfl) (by kernel_rfl) (by rfl) (fun w hSw => by obtain ⟨_, k0, k1, k2⟩ := hSw; go_simp) (by exact hH1) ?_
          simp only [Act.put, List.setIfInBounds_toArray, List.set_cons_zero, List.set_cons_succ]
          refine held_take (i := 5) (.pointer (some ⟨w.heap.size, 1, none⟩)) rfl (by kernel_rfl) (by kernel_rfl) (by kernel_rfl) (by rfl) (fun w hSw => by obtain ⟨_, k0, k1, k2⟩ := hSw; go_simp) (by exact hH1) ?_
          simp only [Act.put, List.setIfInBounds_toArray, List.set_cons_zero, List.set_cons_succ]
          refine held_take (i := 6) (.string S) rfl (by kernel_rfl) (by kernel_rfl) (by kernel_rfl) (by rfl) (fun w hSw => by obtain ⟨_, k0, k1, k2⟩ := hSw; go_simp) (by exact hH1) ?_
          simp only [Act.put, List.setIfInBounds_toArray, List.set_cons_zero, List.set_cons_succ]
          refine held_step (i := 7) (.bool true) rfl (by kernel_rfl) (by rfl) (fun K hK => ?_) (fun wH2 hH2 => ?_)
          · go_simp
            refine (hq2 _ hH1.1).mono ?_
            rintro e w2 ⟨rfl, hS2⟩
            exact hK _ (HK.out _ hS2)
          simp only [Act.put, List.setIfInBounds_toArray, List.set_cons_zero, List.set_cons_succ]
          refine held_take (i := 8) (.bool false) rfl (by kernel_rfl) (by kernel_rfl) (by kernel_rfl) (by rfl) (fun w hSw => by obtain ⟨_, k0, k1, k2⟩ := hSw; go_simp) (by exact hH2) ?_
          simp only [Act.put, List.setIfInBounds_toArray, List.set_cons_zero, List.set_cons_succ]
          refine held_take (i := 9) (.bool false) rfl (by kernel_rfl) (by kernel_rfl) (by kernel_rfl) (by rfl) (fun w hSw => by obtain ⟨_, k0, k1, k2⟩ := hSw; go_simp) (by exact hH2) ?_
          simp only [Act.put, List.setIfInBounds_toArray, List.set_cons_zero, List.set_cons_succ]
          refine held_take (i := 10) (.bool false) rfl (by kernel_rfl) (by kernel_rfl) (by kernel_rfl) (by rfl) (fun w hSw => by obtain ⟨_, k0, k1, k2⟩ := hSw; go_simp) (by exact hH2) ?_
          simp only [Act.put, List.setIfInBounds_toArray, List.set_cons_zero, List.set_cons_succ]
          refine held_take (i := 11) (.pointer (some ⟨w.heap.size, 0, none⟩)) rfl (by kernel_rfl) (by kernel_rfl) (by kernel_rfl) (by rfl) (fun w hSw => by obtain ⟨_, k0, k1, k2⟩ := hSw; go_simp) (by exact hH2) ?_
          simp only [Act.put, List.setIfInBounds_toArray, List.set_cons_zero, List.set_cons_succ]
          refine held_take (i := 12) (.string K) rfl (by kernel_rfl) (by kernel_rfl) (by kernel_rfl) (by rfl) (fun w hSw => by obtain ⟨_, k0, k1, k2⟩ := hSw; go_simp) (by exact hH2) ?_
          simp only [Act.put, List.setIfInBounds_toArray, List.set_cons_zero, List.set_cons_succ]
          refine held_take (i := 14) (.pointer (some ⟨w.heap.size, 0, none⟩)) rfl (by kernel_rfl) (by kernel_rfl) (by kernel_rfl) (by rfl) (fun w hSw => by obtain ⟨_, k0, k1, k2⟩ := hSw; go_simp) (by exact hH2) ?_
          simp only [Act.put, List.setIfInBounds_toArray, List.set_cons_zero, List.set_cons_succ]
          refine held_take (i := 15) (.string K) rfl (by kernel_rfl) (by kernel_rfl) (by kernel_rfl) (by rfl) (fun w hSw => by obtain ⟨_, k0, k1, k2⟩ := hSw; go_simp) (by exact hH2) ?_
          simp only [Act.put, List.setIfInBounds_toArray, List.set_cons_zero, List.set_cons_succ]
          refine held_step (i := 13) (.string X1) rfl (by kernel_rfl) (by rfl) (fun K hK => ?_) (fun wH3 hH3 => ?_)
          · go_simp
            refine (hq3 _ hH2.1).mono ?_
            rintro e w2 ⟨rfl, hS2⟩
            exact hK _ (HK.out _ hS2)
          simp only [Act.put, List.setIfInBounds_toArray, List.set_cons_zero, List.set_cons_succ]
          refine held_take (i := 16) (.bool false) rfl (by kernel_rfl) (by kernel_rfl) (by kernel_rfl) (by rfl) (fun w hSw => by obtain ⟨_, k0, k1, k2⟩ := hSw; go_simp) (by exact hH3) ?_
          simp only [Act.put, List.setIfInBounds_toArray, List.set_cons_zero, List.set_cons_succ]
          refine held_take (i := 17) (.bool false) rfl (by kernel_rfl) (by kernel_rfl) (by kernel_rfl) (by rfl) (fun w hSw => by obtain ⟨_, k0, k1, k2⟩ := hSw; go_simp) (by exact hH3) ?_
          simp only [Act.put, List.setIfInBounds_toArray, List.set_cons_zero, List.set_cons_succ]
          refine held_take (i := 18) (.bool false) rfl (by kernel_rfl) (by kernel_rfl) (by kernel_rfl) (by rfl) (fun w hSw => by obtain ⟨_, k0, k1, k2⟩ := hSw; go_simp) (by exact hH3) ?_
          simp only [Act.put, List.setIfInBounds_toArray, List.set_cons_zero, List.set_cons_succ]
          refine held_take (i := 19) (.pointer (some ⟨w.heap.size, 1, none⟩)) rfl (by kernel_rfl) (by kernel_rfl) (by kernel_rfl) (by rfl) (fun w hSw => by obtain ⟨_, k0, k1, k2⟩ := hSw; go_simp) (by exact hH3) ?_
          simp only [Act.put, List.setIfInBounds_toArray, List.set_cons_zero, List.set_cons_succ]
          refine held_take (i := 20) (.string S) rfl (by kernel_rfl) (by kernel_rfl) (by kernel_rfl) (by rfl) (fun w hSw => by obtain ⟨_, k0, k1, k2⟩ := hSw; go_simp) (by exact hH3) ?_
          simp only [Act.put, List.setIfInBounds_toArray, List.set_cons_zero, List.set_cons_succ]
          refine held_take (i := 22) (.pointer (some ⟨w.heap.size, 1, none⟩)) rfl (by kernel_rfl) (by kernel_rfl) (by kernel_rfl) (by rfl) (fun w hSw => by obtain ⟨_, k0, k1, k2⟩ := hSw; go_simp) (by exact hH3) ?_
          simp only [Act.put, List.setIfInBounds_toArray, List.set_cons_zero, List.set_cons_succ]
          refine held_take (i := 23) (.string S) rfl (by kernel_rfl) (by kernel_rfl) (by kernel_rfl) (by rfl) (fun w hSw => by obtain ⟨_, k0, k1, k2⟩ := hSw; go_simp) (by exact hH3) ?_
          simp only [Act.put, List.setIfInBounds_toArray, List.set_cons_zero, List.set_cons_succ]
          refine held_step (i := 21) (.string X2) rfl (by kernel_rfl) (by rfl) (fun K hK => ?_) (fun wH4 hH4 => ?_)
          · go_simp
            refine (hq4 _ hH3.1).mono ?_
            rintro e w2 ⟨rfl, hS2⟩
            exact hK _ (HK.out _ hS2)
          simp only [Act.put, List.setIfInBounds_toArray, List.set_cons_zero, List.set_cons_succ]
          refine held_take (i := 24) (.bool true) rfl (by kernel_rfl) (by kernel_rfl) (by kernel_rfl) (by rfl) (fun w hSw => by obtain ⟨_, k0, k1, k2⟩ := hSw; go_simp) (by exact hH4) ?_
          simp only [Act.put, List.setIfInBounds_toArray, List.set_cons_zero, List.set_cons_succ]
          refine held_take (i := 25) (.bool true) rfl (by kernel_rfl) (by kernel_rfl) (by kernel_rfl) (by rfl) (fun w hSw => by obtain ⟨_, k0, k1, k2⟩ := hSw; go_simp) (by exact hH4) ?_
          simp only [Act.put, List.setIfInBounds_toArray, List.set_cons_zero, List.set_cons_succ]
          refine held_take (i := 26) (.bool true) rfl (by kernel_rfl) (by kernel_rfl) (by kernel_rfl) (by rfl) (fun w hSw => by obtain ⟨_, k0, k1, k2⟩ := hSw; go_simp) (by exact hH4) ?_
          simp only [Act.put, List.setIfInBounds_toArray, List.set_cons_zero, List.set_cons_succ]
          refine held_skip (i := 27) rfl (by kernel_rfl) (by kernel_rfl) (by kernel_rfl) (by rfl) (by exact hH4) ?_
          simp only [Act.put, List.setIfInBounds_toArray, List.set_cons_zero, List.set_cons_succ]
          refine held_skip (i := 28) rfl (by kernel_rfl) (by kernel_rfl) (by kernel_rfl) (by rfl) (by exact hH4) ?_
          simp only [Act.put, List.setIfInBounds_toArray, List.set_cons_zero, List.set_cons_succ]
          refine held_skip (i := 29) rfl (by kernel_rfl) (by kernel_rfl) (by kernel_rfl) (by rfl) (by exact hH4) ?_
          simp only [Act.put, List.setIfInBounds_toArray, List.set_cons_zero, List.set_cons_succ]
          refine held_skip (i := 30) rfl (by kernel_rfl) (by kernel_rfl) (by kernel_rfl) (by rfl) (by exact hH4) ?_
          simp only [Act.put, List.setIfInBounds_toArray, List.set_cons_zero, List.set_cons_succ]
          refine held_take (i := 31) (.bool true) rfl (by kernel_rfl) (by kernel_rfl) (by kernel_rfl) (by rfl) (fun w hSw => by obtain ⟨_, k0, k1, k2⟩ := hSw; go_simp) (by exact hH4) ?_
          simp only [Act.put, List.setIfInBounds_toArray, List.set_cons_zero, List.set_cons_succ]
          refine wpAnyH_done (by kernel_rfl) ?_ _
          refine NoPanic.normal ?_
          have hsE := hH4.1
          go_wp2_with fail
          go_ret
          exact ⟨rfl, HB0.out.trans (hsE.out.mono HB0.out.size)⟩
        | true =>
          by_cases h20 : 20 < m
          · have h20' : (20 : Int) < (m : Int) := by omega
            obtain rfl : false = R := by rw [← HU.out, HM.out, decide_eq_false (show ¬ m ≤ 20 by omega)]; simp
            clear HU HR
            go_enter Tryz.func22, Tryz.ntmps22
            go_wp2_with fail
            rw [HW0.out]
            refine wp_region_noPanic ?_
            refine wp_region_held_drew (S := (fun Q => Hid (Below W0.heap.size W0 Q) ∧ Q.cell? ⟨w.heap.size, 0, none⟩ = some (.string K) ∧ Q.cell? ⟨w.heap.size, 1, none⟩ = some (.string S) ∧ Q.cell? ⟨w.heap.size, 2, none⟩ = some (.slice a m c))) (by kernel_rfl) (HK.out _ (Lib.hid hb.out.drew)) (fun hH0 => ?_)
            refine held_take (i := 0) (.pointer (some ⟨w.heap.size, 0, none⟩)) rfl (by kernel_rfl) (by kernel_rfl) (by kernel_rfl) (by rfl) (fun w hSw => by obtain ⟨_, k0, k1, k2⟩ := hSw; go_simp) (by exact hH0) ?_
            simp only [Act.put, List.setIfInBounds_toArray, List.set_cons_zero, List.set_cons_succ]
            refine held_take (i := 1) (.string K) rfl (by kernel_rfl) (by kernel_rfl) (by kernel_rfl) (by rfl) (fun w hSw => by obtain ⟨_, k0, k1, k2⟩ := hSw; go_simp) (by exact hH0) ?_
            simp only [Act.put, List.setIfInBounds_toArray, List.set_cons_zero, List.set_cons_succ]
            refine held_step (i := 2) (.bool true) rfl (by kernel_rfl) (by rfl) (fun K hK => ?_) (fun wH1 hH1 => ?_)
            · go_simp
              refine (hq1 _ hH0.1).mono ?_
              rintro e w2 ⟨rfl, hS2⟩
              exact hK _ (HK.out _ hS2)
            simp only [Act.put, List.setIfInBounds_toArray, List.set_cons_zero, List.set_cons_succ]
            refine held_take (i := 3) (.bool false) rfl (by kernel_rfl) (by kernel_rfl) (by kernel_rfl) (by rfl) (fun w hSw => by obtain ⟨_, k0, k1, k2⟩ := hSw; go_simp) (by exact hH1) ?_
            simp only [Act.put, List.setIfInBounds_toArray, List.set_cons_zero, List.set_cons_succ]
            refine held_take (i := 4) (.bool false) rfl (by kernel_rfl) (by kernel_rfl) (by kernel_rfl) (by rfl) (fun w hSw => by obtain ⟨_, k0, k1, k2⟩ := hSw; go_simp) (by exact hH1) ?_
            simp only [Act.put, List.setIfInBounds_toArray, List.set_cons_zero, List.set_cons_succ]
            refine held_take (i := 5) (.pointer (some ⟨w.heap.size, 1, none⟩)) rfl (by kernel_rfl) (by kernel_rfl) (by kernel_rfl) (by rfl) (fun w hSw => by obtain ⟨_, k0, k1, k2⟩ := hSw; go_simp) (by exact hH1) ?_
            simp only [Act.put, List.setIfInBounds_toArray, List.set_cons_zero, List.set_cons_succ]
            refine held_take (i := 6) (.string S) rfl (by kernel_rfl) (by kernel_rfl) (by kernel_rfl) (by rfl) (fun w hSw => by obtain ⟨_, k0, k1, k2⟩ := hSw; go_simp) (by exact hH1) ?_
            simp only [Act.put, List.setIfInBounds_toArray, List.set_cons_zero, List.set_cons_succ]
            refine held_step (i := 7) (.bool true) rfl (by kernel_rfl) (by rfl) (fun K hK => ?_) (fun wH2 hH2 => ?_)
            · go_simp
              refine (hq2 _ hH1.1).mono ?_
              rintro e w2 ⟨rfl, hS2⟩
              exact hK _ (HK.out _ hS2)
            simp only [Act.put, List.setIfInBounds_toArray, List.set_cons_zero, List.set_cons_succ]
            refine held_take (i := 8) (.bool false) rfl (by kernel_rfl) (by kernel_rfl) (by kernel_rfl) (by rfl) (fun w hSw => by obtain ⟨_, k0, k1, k2⟩ := hSw; go_simp) (by exact hH2) ?_
            simp only [Act.put, List.setIfInBounds_toArray, List.set_cons_zero, List.set_cons_succ]
            refine held_take (i := 9) (.bool false) rfl (by kernel_rfl) (by kernel_rfl) (by kernel_rfl) (by rfl) (fun w hSw => by obtain ⟨_, k0, k1, k2⟩ := hSw; go_simp) (by exact hH2) ?_
            simp only [Act.put, List.setIfInBounds_toArray, List.set_cons_zero, List.set_cons_succ]
            refine held_take (i := 10) (.bool false) rfl (by kernel_rfl) (by kernel_rfl) (by kernel_rfl) (by rfl) (fun w hSw => by obtain ⟨_, k0, k1, k2⟩ := hSw; go_simp) (by exact hH2) ?_
            simp only [Act.put, List.setIfInBounds_toArray, List.set_cons_zero, List.set_cons_succ]
            refine held_take (i := 11) (.pointer (some ⟨w.heap.size, 0, none⟩)) rfl (by kernel_rfl) (by kernel_rfl) (by kernel_rfl) (by rfl) (fun w hSw => by obtain ⟨_, k0, k1, k2⟩ := hSw; go_simp) (by exact hH2) ?_
            simp only [Act.put, List.setIfInBounds_toArray, List.set_cons_zero, List.set_cons_succ]
            refine held_take (i := 12) (.string K) rfl (by kernel_rfl) (by kernel_rfl) (by kernel_rfl) (by rfl) (fun w hSw => by obtain ⟨_, k0, k1, k2⟩ := hSw; go_simp) (by exact hH2) ?_
            simp only [Act.put, List.setIfInBounds_toArray, List.set_cons_zero, List.set_cons_succ]
            refine held_take (i := 14) (.pointer (some ⟨w.heap.size, 0, none⟩)) rfl (by kernel_rfl) (by kernel_rfl) (by kernel_rfl) (by rfl) (fun w hSw => by obtain ⟨_, k0, k1, k2⟩ := hSw; go_simp) (by exact hH2) ?_
            simp only [Act.put, List.setIfInBounds_toArray, List.set_cons_zero, List.set_cons_succ]
            refine held_take (i := 15) (.string K) rfl (by kernel_rfl) (by kernel_rfl) (by kernel_rfl) (by rfl) (fun w hSw => by obtain ⟨_, k0, k1, k2⟩ := hSw; go_simp) (by exact hH2) ?_
            simp only [Act.put, List.setIfInBounds_toArray, List.set_cons_zero, List.set_cons_succ]
            refine held_step (i := 13) (.string X1) rfl (by kernel_rfl) (by rfl) (fun K hK => ?_) (fun wH3 hH3 => ?_)
            · go_simp
              refine (hq3 _ hH2.1).mono ?_
              rintro e w2 ⟨rfl, hS2⟩
              exact hK _ (HK.out _ hS2)
            simp only [Act.put, List.setIfInBounds_toArray, List.set_cons_zero, List.set_cons_succ]
            refine held_take (i := 16) (.bool false) rfl (by kernel_rfl) (by kernel_rfl) (by kernel_rfl) (by rfl) (fun w hSw => by obtain ⟨_, k0, k1, k2⟩ := hSw; go_simp) (by exact hH3) ?_
            simp only [Act.put, List.setIfInBounds_toArray, List.set_cons_zero, List.set_cons_succ]
            refine held_take (i := 17) (.bool false) rfl (by kernel_rfl) (by kernel_rfl) (by kernel_rfl) (by rfl) (fun w hSw => by obtain ⟨_, k0, k1, k2⟩ := hSw; go_simp) (by exact hH3) ?_
            simp only [Act.put, List.setIfInBounds_toArray, List.set_cons_zero, List.set_cons_succ]
            refine held_take (i := 18) (.bool false) rfl (by kernel_rfl) (by kernel_rfl) (by kernel_rfl) (by rfl) (fun w hSw => by obtain ⟨_, k0, k1, k2⟩ := hSw; go_simp) (by exact hH3) ?_
            simp only [Act.put, List.setIfInBounds_toArray, List.set_cons_zero, List.set_cons_succ]
            refine held_take (i := 19) (.pointer (some ⟨w.heap.size, 1, none⟩)) rfl (by kernel_rfl) (by kernel_rfl) (by kernel_rfl) (by rfl) (fun w hSw => by obtain ⟨_, k0, k1, k2⟩ := hSw; go_simp) (by exact hH3) ?_
            simp only [Act.put, List.setIfInBounds_toArray, List.set_cons_zero, List.set_cons_succ]
            refine held_take (i := 20) (.string S) rfl (by kernel_rfl) (by kernel_rfl) (by kernel_rfl) (by rfl) (fun w hSw => by obtain ⟨_, k0, k1, k2⟩ := hSw; go_simp) (by exact hH3) ?_
            simp only [Act.put, List.setIfInBounds_toArray, List.set_cons_zero, List.set_cons_succ]
            refine held_take (i := 22) (.pointer (some ⟨w.heap.size, 1, none⟩)) rfl (by kernel_rfl) (by kernel_rfl) (by kernel_rfl) (by rfl) (fun w hSw => by obtain ⟨_, k0, k1, k2⟩ := hSw; go_simp) (by exact hH3) ?_
            simp only [Act.put, List.setIfInBounds_toArray, List.set_cons_zero, List.set_cons_succ]
            refine held_take (i := 23) (.string S) rfl (by kernel_rfl) (by kernel_rfl) (by kernel_rfl) (by rfl) (fun w hSw => by obtain ⟨_, k0, k1, k2⟩ := hSw; go_simp) (by exact hH3) ?_
            simp only [Act.put, List.setIfInBounds_toArray, List.set_cons_zero, List.set_cons_succ]
            refine held_step (i := 21) (.string X2) rfl (by kernel_rfl) (by rfl) (fun K hK => ?_) (fun wH4 hH4 => ?_)
            · go_simp
              refine (hq4 _ hH3.1).mono ?_
              rintro e w2 ⟨rfl, hS2⟩
              exact hK _ (HK.out _ hS2)
            simp only [Act.put, List.setIfInBounds_toArray, List.set_cons_zero, List.set_cons_succ]
            refine held_take (i := 24) (.bool false) rfl (by kernel_rfl) (by kernel_rfl) (by kernel_rfl) (by rfl) (fun w hSw => by obtain ⟨_, k0, k1, k2⟩ := hSw; go_simp) (by exact hH4) ?_
            simp only [Act.put, List.setIfInBounds_toArray, List.set_cons_zero, List.set_cons_succ]
            refine held_take (i := 25) (.bool false) rfl (by kernel_rfl) (by kernel_rfl) (by kernel_rfl) (by rfl) (fun w hSw => by obtain ⟨_, k0, k1, k2⟩ := hSw; go_simp) (by exact hH4) ?_
            simp only [Act.put, List.setIfInBounds_toArray, List.set_cons_zero, List.set_cons_succ]
            refine held_take (i := 26) (.bool false) rfl (by kernel_rfl) (by kernel_rfl) (by kernel_rfl) (by rfl) (fun w hSw => by obtain ⟨_, k0, k1, k2⟩ := hSw; go_simp) (by exact hH4) ?_
            simp only [Act.put, List.setIfInBounds_toArray, List.set_cons_zero, List.set_cons_succ]
            refine held_take (i := 27) (.pointer (some ⟨w.heap.size, 2, none⟩)) rfl (by kernel_rfl) (by kernel_rfl) (by kernel_rfl) (by rfl) (fun w hSw => by obtain ⟨_, k0, k1, k2⟩ := hSw; go_simp) (by exact hH4) ?_
            simp only [Act.put, List.setIfInBounds_toArray, List.set_cons_zero, List.set_cons_succ]
            refine held_take (i := 28) (.slice a m c) rfl (by kernel_rfl) (by kernel_rfl) (by kernel_rfl) (by rfl) (fun w hSw => by obtain ⟨_, k0, k1, k2⟩ := hSw; go_simp) (by exact hH4) ?_
            simp only [Act.put, List.setIfInBounds_toArray, List.set_cons_zero, List.set_cons_succ]
            refine held_take (i := 29) (.int .i64 (m : Int)) rfl (by kernel_rfl) (by kernel_rfl) (by kernel_rfl) (by rfl) (fun w hSw => by obtain ⟨_, k0, k1, k2⟩ := hSw; go_simp) (by exact hH4) ?_
            simp only [Act.put, List.setIfInBounds_toArray, List.set_cons_zero, List.set_cons_succ]
            refine held_take (i := 30) (.bool true) rfl (by kernel_rfl) (by kernel_rfl) (by kernel_rfl) (by rfl) (fun w hSw => by obtain ⟨_, k0, k1, k2⟩ := hSw; go_simp) (by exact hH4) ?_
            simp only [Act.put, List.setIfInBounds_toArray, List.set_cons_zero, List.set_cons_succ]
            refine held_take (i := 31) (.bool true) rfl (by kernel_rfl) (by kernel_rfl) (by kernel_rfl) (by rfl) (fun w hSw => by obtain ⟨_, k0, k1, k2⟩ := hSw; go_simp) (by exact hH4) ?_
            simp only [Act.put, List.setIfInBounds_toArray, List.set_cons_zero, List.set_cons_succ]
            refine wpAnyH_done (by kernel_rfl) ?_ _
            refine NoPanic.normal ?_
            have hsE := hH4.1
            go_wp2_with fail
            go_ret
            exact ⟨rfl, HB0.out.trans (hsE.out.mono HB0.out.size)⟩
          · have h20' : ¬ (20 : Int) < (m : Int) := by omega
            have HU2 := Lib.hid (show (l.all okP && decide ((l.map Prod.fst).Nodup)) = R by rw [← HU.out, HM.out, decide_eq_true (show m ≤ 20 by omega)]; simp)
            clear HU
            go_enter Tryz.func22, Tryz.ntmps22
            go_wp2_with fail
            rw [HW0.out]
            refine wp_region_noPanic ?_
            refine wp_region_held_drew (S := (fun Q => Hid (Below W0.heap.size W0 Q) ∧ Q.cell? ⟨w.heap.size, 0, none⟩ = some (.string K) ∧ Q.cell? ⟨w.heap.size, 1, none⟩ = some (.string S) ∧ Q.cell? ⟨w.heap.size, 2, none⟩ = some (.slice a m c))) (by kernel_rfl) (HK.out _ (Lib.hid hb.out.drew)) (fun hH0 => ?_)
            refine held_take (i := 0) (.pointer (some ⟨w.heap.size, 0, none⟩)) rfl (by kernel_rfl) (by kernel_rfl) (by kernel_rfl) (by rfl) (fun w hSw => by obtain ⟨_, k0, k1, k2⟩ := hSw; go_simp) (by exact hH0) ?_
            simp only [Act.put, List.setIfInBounds_toArray, List.set_cons_zero, List.set_cons_succ]
            refine held_take (i := 1) (.string K) rfl (by kernel_rfl) (by kernel_rfl) (by kernel_rfl) (by rfl) (fun w hSw => by obtain ⟨_, k0, k1, k2⟩ := hSw; go_simp) (by exact hH0) ?_
            simp only [Act.put, List.setIfInBounds_toArray, List.set_cons_zero, List.set_cons_succ]
            refine held_step (i := 2) (.bool true) rfl (by kernel_rfl) (by rfl) (fun K hK => ?_) (fun wH1 hH1 => ?_)
            · go_simp
              refine (hq1 _ hH0.1).mono ?_
              rintro e w2 ⟨rfl, hS2⟩
              exact hK _ (HK.out _ hS2)
            simp only [Act.put, List.setIfInBounds_toArray, List.set_cons_zero, List.set_cons_succ]
            refine held_take (i := 3) (.bool false) rfl (by kernel_rfl) (by kernel_rfl) (by kernel_rfl) (by rfl) (fun w hSw => by obtain ⟨_, k0, k1, k2⟩ := hSw; go_simp) (by exact hH1) ?_
            simp only [Act.put, List.setIfInBounds_toArray, List.set_cons_zero, List.set_cons_succ]
            refine held_take (i := 4) (.bool false) rfl (by kernel_rfl) (by kernel_rfl) (by kernel_rfl) (by rfl) (fun w hSw => by obtain ⟨_, k0, k1, k2⟩ := hSw; go_simp) (by exact hH1) ?_
            simp only [Act.put, List.setIfInBounds_toArray, List.set_cons_zero, List.set_cons_succ]
            refine held_take (i := 5) (.pointer (some ⟨w.heap.size, 1, none⟩)) rfl (by kernel_rfl) (by kernel_rfl) (by kernel_rfl) (by rfl) (fun w hSw => by obtain ⟨_, k0, k1, k2⟩ := hSw; go_simp) (by exact hH1) ?_
            simp only [Act.put, List.setIfInBounds_toArray, List.set_cons_zero, List.set_cons_succ]
            refine held_take (i := 6) (.string S) rfl (by kernel_rfl) (by kernel_rfl) (by kernel_rfl) (by rfl) (fun w hSw => by obtain ⟨_, k0, k1, k2⟩ := hSw; go_simp) (by exact hH1) ?_
            simp only [Act.put, List.setIfInBounds_toArray, List.set_cons_zero, List.set_cons_succ]
            refine held_step (i := 7) (.bool true) rfl (by kernel_rfl) (by rfl) (fun K hK => ?_) (fun wH2 hH2 => ?_)
            · go_simp
              refine (hq2 _ hH1.1).mono ?_
              rintro e w2 ⟨rfl, hS2⟩
              exact hK _ (HK.out _ hS2)
            simp only [Act.put, List.setIfInBounds_toArray, List.set_cons_zero, List.set_cons_succ]
            refine held_take (i := 8) (.bool false) rfl (by kernel_rfl) (by kernel_rfl) (by kernel_rfl) (by rfl) (fun w hSw => by obtain ⟨_, k0, k1, k2⟩ := hSw; go_simp) (by exact hH2) ?_
            simp only [Act.put, List.setIfInBounds_toArray, List.set_cons_zero, List.set_cons_succ]
            refine held_take (i := 9) (.bool false) rfl (by kernel_rfl) (by kernel_rfl) (by kernel_rfl) (by rfl) (fun w hSw => by obtain ⟨_, k0, k1, k2⟩ := hSw; go_simp) (by exact hH2) ?_
            simp only [Act.put, List.setIfInBounds_toArray, List.set_cons_zero, List.set_cons_succ]
            refine held_take (i := 10) (.bool false) rfl (by kernel_rfl) (by kernel_rfl) (by kernel_rfl) (by rfl) (fun w hSw => by obtain ⟨_, k0, k1, k2⟩ := hSw; go_simp) (by exact hH2) ?_
            simp only [Act.put, List.setIfInBounds_toArray, List.set_cons_zero, List.set_cons_succ]
            refine held_take (i := 11) (.pointer (some ⟨w.heap.size, 0, none⟩)) rfl (by kernel_rfl) (by kernel_rfl) (by kernel_rfl) (by rfl) (fun w hSw => by obtain ⟨_, k0, k1, k2⟩ := hSw; go_simp) (by exact hH2) ?_
            simp only [Act.put, List.setIfInBounds_toArray, List.set_cons_zero, List.set_cons_succ]
            refine held_take (i := 12) (.string K) rfl (by kernel_rfl) (by kernel_rfl) (by kernel_rfl) (by rfl) (fun w hSw => by obtain ⟨_, k0, k1, k2⟩ := hSw; go_simp) (by exact hH2) ?_
            simp only [Act.put, List.setIfInBounds_toArray, List.set_cons_zero, List.set_cons_succ]
            refine held_take (i := 14) (.pointer (some ⟨w.heap.size, 0, none⟩)) rfl (by kernel_rfl) (by kernel_rfl) (by kernel_rfl) (by rfl) (fun w hSw => by obtain ⟨_, k0, k1, k2⟩ := hSw; go_simp) (by exact hH2) ?_
            simp only [Act.put, List.setIfInBounds_toArray, List.set_cons_zero, List.set_cons_succ]
            refine held_take (i := 15) (.string K) rfl (by kernel_rfl) (by kernel_rfl) (by kernel_rfl) (by rfl) (fun w hSw => by obtain ⟨_, k0, k1, k2⟩ := hSw; go_simp) (by exact hH2) ?_
            simp only [Act.put, List.setIfInBounds_toArray, List.set_cons_zero, List.set_cons_succ]
            refine held_step (i := 13) (.string X1) rfl (by kernel_rfl) (by rfl) (fun K hK => ?_) (fun wH3 hH3 => ?_)
            · go_simp
              refine (hq3 _ hH2.1).mono ?_
              rintro e w2 ⟨rfl, hS2⟩
              exact hK _ (HK.out _ hS2)
            simp only [Act.put, List.setIfInBounds_toArray, List.set_cons_zero, List.set_cons_succ]
            refine held_take (i := 16) (.bool false) rfl (by kernel_rfl) (by kernel_rfl) (by kernel_rfl) (by rfl) (fun w hSw => by obtain ⟨_, k0, k1, k2⟩ := hSw; go_simp) (by exact hH3) ?_
            simp only [Act.put, List.setIfInBounds_toArray, List.set_cons_zero, List.set_cons_succ]
            refine held_take (i := 17) (.bool false) rfl (by kernel_rfl) (by kernel_rfl) (by kernel_rfl) (by rfl) (fun w hSw => by obtain ⟨_, k0, k1, k2⟩ := hSw; go_simp) (by exact hH3) ?_
            simp only [Act.put, List.setIfInBounds_toArray, List.set_cons_zero, List.set_cons_succ]
            refine held_take (i := 18) (.bool false) rfl (by kernel_rfl) (by kernel_rfl) (by kernel_rfl) (by rfl) (fun w hSw => by obtain ⟨_, k0, k1, k2⟩ := hSw; go_simp) (by exact hH3) ?_
            simp only [Act.put, List.setIfInBounds_toArray, List.set_cons_zero, List.set_cons_succ]
            refine held_take (i := 19) (.pointer (some ⟨w.heap.size, 1, none⟩)) rfl (by kernel_rfl) (by kernel_rfl) (by kernel_rfl) (by rfl) (fun w hSw => by obtain ⟨_, k0, k1, k2⟩ := hSw; go_simp) (by exact hH3) ?_
            simp only [Act.put, List.setIfInBounds_toArray, List.set_cons_zero, List.set_cons_succ]
            refine held_take (i := 20) (.string S) rfl (by kernel_rfl) (by kernel_rfl) (by kernel_rfl) (by rfl) (fun w hSw => by obtain ⟨_, k0, k1, k2⟩ := hSw; go_simp) (by exact hH3) ?_
            simp only [Act.put, List.setIfInBounds_toArray, List.set_cons_zero, List.set_cons_succ]
            refine held_take (i := 22) (.pointer (some ⟨w.heap.size, 1, none⟩)) rfl (by kernel_rfl) (by kernel_rfl) (by kernel_rfl) (by rfl) (fun w hSw => by obtain ⟨_, k0, k1, k2⟩ := hSw; go_simp) (by exact hH3) ?_
            simp only [Act.put, List.setIfInBounds_toArray, List.set_cons_zero, List.set_cons_succ]
            refine held_take (i := 23) (.string S) rfl (by kernel_rfl) (by kernel_rfl) (by kernel_rfl) (by rfl) (fun w hSw => by obtain ⟨_, k0, k1, k2⟩ := hSw; go_simp) (by exact hH3) ?_
            simp only [Act.put, List.setIfInBounds_toArray, List.set_cons_zero, List.set_cons_succ]
            refine held_step (i := 21) (.string X2) rfl (by kernel_rfl) (by rfl) (fun K hK => ?_) (fun wH4 hH4 => ?_)
            · go_simp
              refine (hq4 _ hH3.1).mono ?_
              rintro e w2 ⟨rfl, hS2⟩
              exact hK _ (HK.out _ hS2)
            simp only [Act.put, List.setIfInBounds_toArray, List.set_cons_zero, List.set_cons_succ]
            refine held_take (i := 24) (.bool false) rfl (by kernel_rfl) (by kernel_rfl) (by kernel_rfl) (by rfl) (fun w hSw => by obtain ⟨_, k0, k1, k2⟩ := hSw; go_simp) (by exact hH4) ?_
            simp only [Act.put, List.setIfInBounds_toArray, List.set_cons_zero, List.set_cons_succ]
            refine held_take (i := 25) (.bool false) rfl (by kernel_rfl) (by kernel_rfl) (by kernel_rfl) (by rfl) (fun w hSw => by obtain ⟨_, k0, k1, k2⟩ := hSw; go_simp) (by exact hH4) ?_
            simp only [Act.put, List.setIfInBounds_toArray, List.set_cons_zero, List.set_cons_succ]
            refine held_take (i := 26) (.bool false) rfl (by kernel_rfl) (by kernel_rfl) (by kernel_rfl) (by rfl) (fun w hSw => by obtain ⟨_, k0, k1, k2⟩ := hSw; go_simp) (by exact hH4) ?_
            simp only [Act.put, List.setIfInBounds_toArray, List.set_cons_zero, List.set_cons_succ]
            refine held_take (i := 27) (.pointer (some ⟨w.heap.size, 2, none⟩)) rfl (by kernel_rfl) (by kernel_rfl) (by kernel_rfl) (by rfl) (fun w hSw => by obtain ⟨_, k0, k1, k2⟩ := hSw; go_simp) (by exact hH4) ?_
            simp only [Act.put, List.setIfInBounds_toArray, List.set_cons_zero, List.set_cons_succ]
            refine held_take (i := 28) (.slice a m c) rfl (by kernel_rfl) (by kernel_rfl) (by kernel_rfl) (by rfl) (fun w hSw => by obtain ⟨_, k0, k1, k2⟩ := hSw; go_simp) (by exact hH4) ?_
            simp only [Act.put, List.setIfInBounds_toArray, List.set_cons_zero, List.set_cons_succ]
            refine held_take (i := 29) (.int .i64 (m : Int)) rfl (by kernel_rfl) (by kernel_rfl) (by kernel_rfl) (by rfl) (fun w hSw => by obtain ⟨_, k0, k1, k2⟩ := hSw; go_simp) (by exact hH4) ?_
            simp only [Act.put, List.setIfInBounds_toArray, List.set_cons_zero, List.set_cons_succ]
            refine held_take (i := 30) (.bool false) rfl (by kernel_rfl) (by kernel_rfl) (by kernel_rfl) (by rfl) (fun w hSw => by obtain ⟨_, k0, k1, k2⟩ := hSw; go_simp) (by exact hH4) ?_
            simp only [Act.put, List.setIfInBounds_toArray, List.set_cons_zero, List.set_cons_succ]
            refine held_take (i := 31) (.bool false) rfl (by kernel_rfl) (by kernel_rfl) (by kernel_rfl) (by rfl) (fun w hSw => by obtain ⟨_, k0, k1, k2⟩ := hSw; go_simp) (by exact hH4) ?_
            simp only [Act.put, List.setIfInBounds_toArray, List.set_cons_zero, List.set_cons_succ]
            refine wpAnyH_done (by kernel_rfl) ?_ _
            refine NoPanic.normal ?_
            have hsE := hH4.1
            go_wp2_with fail
            go_loopw [3] (fun i wr => ∃ k : Nat, k ≤ m ∧ i = .int .i64 k ∧ Hid (Below W0.heap.size W0 wr) ∧ Hid ((l.take k).all okP = true) ∧ Hid (((l.take k).map Prod.fst).Nodup)) (fun i _ => m - (intOf i).toNat)
            case atStart => exact ⟨0, Nat.zero_le _, rfl, hsE, Lib.hid rfl, Lib.hid List.nodup_nil⟩
            case round =>
              obtain ⟨k, hk, rfl, HB, HO, HD⟩ := hrel
              have F1 : IntKind.i64.wrap ((k : Int) + 1) = (k : Int) + 1 := by rw [IntKind.wrap_i64]; omega
              have y2 := (HX.out.step HB.out).c2
              by_cases hlt : k < m
              · have hlt' : (k : Int) < (m : Int) := by omega
                obtain ⟨g, o, rfl, hfa⟩ := HP.out.at (by omega)
                have HFA := Lib.hid hfa
                obtain ⟨p, hp⟩ : ∃ p, l[k]? = some p := ⟨_, List.getElem?_eq_getElem (by rw [HM.out]; exact hlt)⟩
                obtain ⟨p0, p1⟩ := hfa.step HB.out k p hp
                have HPK := Lib.hid hp
                have cN := fun W => named_any (strL p.1) (by rw [strL_size]; exact HN.out p (List.mem_of_getElem? hp)) W
                have cF := fun W => few_any (strL p.2) W
                rw [strL_list] at cN cF
                obtain ⟨c1, hc1⟩ : ∃ b, namedB p.1 = b := ⟨_, rfl⟩
                obtain ⟨c2, hc2⟩ : ∃ b, decide (p.2.length ≤ 2000) = b := ⟨_, rfl⟩
                obtain ⟨c3, hc3⟩ : ∃ b, validL p.2 = b := ⟨_, rfl⟩
                have HOK := Lib.hid (show okP p = (c1 && (c2 && c3)) by unfold okP; rw [hc1, hc2, hc3])
                have cV := fun (h2 : c2 = true) W (hv : Cs.Vars W) => Cs.valid_any (strL p.2) (by rw [strL_size]; have := of_decide_eq_true (hc2.trans h2); omega) W hv
                rw [strL_list, hc3] at cV
                rw [hc1] at cN
                rw [hc2] at cF
                have HW := Lib.hid (show Below W0.heap.size W0 (wr.alloc (.cells #[.string (strL p.1), .string (strL p.2)] 37)) from HB.out.alloc HB.out.size _)
                obtain ⟨k0, k1⟩ := box_two (World.alloc_heap_new wr (.cells #[.string (strL p.1), .string (strL p.2)] 37))
                have hsz : wr.heap.size < (wr.alloc (.cells #[.string (strL p.1), .string (strL p.2)] 37)).heap.size := by rw [World.size_alloc]; exact Nat.lt_succ_self _
                have HSZ := Lib.hid hsz
                have heq := Lib.hid (fun q : List UInt8 × List UInt8 => eq_strL q.1 p.1)
                generalize strL p.1 = X3 at p0 cN k0 k1 HW heq HSZ
                generalize strL p.2 = X4 at p1 cF cV k0 k1 HW HSZ
                clear hfa hp hsz hc1 hc2 hc3
                cases c1 with
                | false =>
                  obtain rfl : false = R := by rw [← HR.out]; exact (right_param HPK.out (by rw [HOK.out]; rfl)).symm
                  clear cF cV HOK HR HU2 HO HD
                  go_wp2_with (go_at_call 49; (with_reducible refine (cN _).mono ?_); rintro e w2 ⟨rfl, hb2⟩; have HB2 := Lib.hid (HW.out.trans (hb2.mono HW.out.size)); clear hb2 cN)
                  go_ret
                  exact ⟨rfl, HB0.out.trans (HB2.out.mono HB0.out.size)⟩
                | true =>
                  cases c2 with
                  | false =>
                    obtain rfl : false = R := by rw [← HR.out]; exact (right_param HPK.out (by rw [HOK.out]; rfl)).symm
                    clear cV HOK HR HU2 HO HD
                    go_wp2_with (first
                      | (go_at_call 49; (with_reducible refine (cN _).mono ?_); rintro e w2 ⟨rfl, hb2⟩; have HB2 := Lib.hid (HW.out.trans (hb2.mono HW.out.size)); have k1b := cell_below k1 hb2; clear hb2 cN)
                      | (go_at_call 9; (with_reducible refine (cF _).mono ?_); rintro e w3 ⟨rfl, rfl⟩))
                    go_ret
                    exact ⟨rfl, HB0.out.trans (HB2.out.mono HB0.out.size)⟩
                  | true =>
                    replace cV := cV rfl
                    cases c3 with
                    | false =>
                      obtain rfl : false = R := by rw [← HR.out]; exact (right_param HPK.out (by rw [HOK.out]; rfl)).symm
                      clear HOK HR HU2 HO HD
                      go_wp2_with (first
                        | (go_at_call 49; (with_reducible refine (cN _).mono ?_); rintro e w2 ⟨rfl, hb2⟩; have HB2 := Lib.hid (HW.out.trans (hb2.mono HW.out.size)); have k1b := cell_below k1 hb2; clear hb2 cN)
                        | (go_at_call 9; (with_reducible refine (cF _).mono ?_); rintro e w3 ⟨rfl, rfl⟩)
                        | (go_at_call 50; (with_reducible refine (cV _ (HV.out.below HB2.out)).mono ?_); rintro e w4 ⟨rfl, hb4⟩; have HB4 := Lib.hid (HB2.out.trans (hb4.mono HB2.out.size)); clear hb4 cV))
                      go_ret
                      exact ⟨rfl, HB0.out.trans (HB4.out.mono HB0.out.size)⟩
                    | true =>
                      have HO2 := Lib.hid (show (l.take (k + 1)).all okP = true by rw [List.take_add_one, HPK.out, List.all_append, HO.out]; simp [HOK.out])
                      clear HO HOK
                      go_wp2_with (first
                        | (go_at_call 49; (with_reducible refine (cN _).mono ?_); rintro e w2 ⟨rfl, hb2⟩; have HB2 := Lib.hid (HW.out.trans (hb2.mono HW.out.size)); have k1b := cell_below k1 hb2; have k0b := cell_below k0 hb2; clear hb2 cN)
                        | (go_at_call 9; (with_reducible refine (cF _).mono ?_); rintro e w3 ⟨rfl, rfl⟩)
                        | (go_at_call 50; (with_reducible refine (cV _ (HV.out.below HB2.out)).mono ?_); rintro e w4 ⟨rfl, hb4⟩; have HB4 := Lib.hid (HB2.out.trans (hb4.mono HB2.out.size)); have HK0 := Lib.hid (cell_below k0b hb4); clear hb4 cV))
                      clear k0 k1 k0b k1b p0 p1 y2
                      go_loopw [5] (fun i wq => ∃ j : Nat, j ≤ k ∧ i = .int .i64 j ∧ Hid (Below w4.heap.size w4 wq) ∧ Hid (∀ (i : Nat) (q : List UInt8 × List UInt8), i < j → l[i]? = some q → ¬ q.1 = p.1)) (fun i _ => k - (intOf i).toNat)
                      case atStart => exact ⟨0, Nat.zero_le _, rfl, Lib.hid (Below.refl _ _), Lib.hid (fun i q h => absurd h (Nat.not_lt_zero _))⟩
                      case round =>
                        obtain ⟨j, hj, rfl, HE, HF⟩ := hrel
                        have F2 : IntKind.i64.wrap ((j : Int) + 1) = (j : Int) + 1 := by rw [IntKind.wrap_i64]; omega
                        have HBE := Lib.hid (HB4.out.trans (HE.out.mono HB4.out.size))
                        have z0 := cell_below HK0.out HE.out
                        have z2 := (HX.out.step HBE.out).c2
                        by_cases hjl : j < k
                        · have hjl' : (j : Int) < (k : Int) := by omega
                          have hjm' : (j : Int) < (m : Int) := by omega
                          obtain ⟨q, hq⟩ : ∃ q, l[j]? = some q := ⟨_, List.getElem?_eq_getElem (by rw [HM.out]; omega)⟩
                          have z3 := (HFA.out.step HBE.out j q hq).1
                          have hqe := heq.out q
                          by_cases hsame : q.1 = p.1
                          · obtain rfl : false = R := by rw [← HR.out]; exact (right_twice hjl hq HPK.out hsame).symm
                            rw [decide_eq_true hsame] at hqe
                            generalize strL q.1 = X5 at z3 hqe
                            clear hq hsame HR HU2 HF heq
                            go_wp2_with fail
                            go_quiet (fail)
                            go_wp2_with fail
                            go_ret
                            exact ⟨rfl, HB0.out.trans ((below_drewN HBE.out _).mono HB0.out.size)⟩
                          · rw [decide_eq_false hsame] at hqe
                            have HF2 := Lib.hid (fun (i : Nat) (r : List UInt8 × List UInt8) (hi : i < j + 1) (hr : l[i]? = some r) => show ¬ r.1 = p.1 by
                              rcases (show i < j ∨ i = j by omega) with h | rfl
                              · exact HF.out i r h hr
                              · rw [hq] at hr; rw [← Option.some.inj hr]; exact hsame)
                            generalize strL q.1 = X5 at z3 hqe
                            clear hq hsame HF heq
                            go_wp2_with fail
                            go_quiet (fail)
                            go_wp2_with fail
                            go_roundw
                            case rel => exact ⟨j + 1, by omega, by go_num, Lib.hid (below_drewN HE.out _), HF2⟩
                            case measure => simp [intOf]; omega
                        · obtain rfl : j = k := by omega
                          have hjl' : ¬ (j : Int) < (j : Int) := by omega
                          have HD2 := Lib.hid (nodup_take HD.out HPK.out HF.out)
                          have HBW := HBE
                          clear HD HF HE z0 z2
                          go_wp2_with fail
                          go_roundw
                          case rel => exact ⟨j + 1, by omega, by go_num, HBW, HO2, HD2⟩
                          case measure => simp [intOf]; omega
              · have hlt' : ¬ (k : Int) < (m : Int) := by omega
                have hkm : k = m := by omega
                obtain rfl : true = R := by
                  rw [← HU2.out]
                  have h1 := HO.out
                  have h2 := HD.out
                  rw [List.take_of_length_le (by rw [HM.out]; omega)] at h1 h2
                  rw [h1, decide_eq_true h2]; rfl
                clear HO HD HU2 HR hkm
                go_wp2_with fail
                go_ret
                exact ⟨rfl, HB0.out.trans (HB.out.mono HB0.out.size)⟩
end Go.Proofs.YtdinachiiimngaaGreatDoor
