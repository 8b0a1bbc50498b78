/- TokenTells: every function of the package answers as the reference does. -/
import Derived.Test.YtmpgclimgbjeoaaDoorSmall
import Derived.Test.YtmpgclimgbjeoaaDoorRefS
import Derived.Test.YtmpgclimgbjeoaaDoorRefA
import Derived.Test.YtmpgclimgbjeoaaDoorRefQ
namespace Go.Proofs.YtmpgclimgbjeoaaDoor
open Go.ChangeShapes Go.WideShapes Go.ChangeAt Go.RowKit
open TokP

/-- Older memory, and the token in its box. -/
structure Tl (w0 w : World) (b : Nat) (K : Int) (T : ByteArray) : Prop where
  bel : Below w0.heap.size w0 w
  k0 : w.cell? ⟨b, 0, none⟩ = some (.int .i64 K)
  k1 : w.cell? ⟨b, 1, none⟩ = some (.string T)
theorem Tl.step {w0 w w' : World} {b : Nat} {K : Int} {T : ByteArray} (h : Tl w0 w b K T) (hb : Below w.heap.size w w') : Tl w0 w' b K T := ⟨h.bel.trans (hb.mono h.bel.size), cell_below h.k0 hb, cell_below h.k1 hb⟩
theorem Tl.first (w : World) (K : Int) (T : ByteArray) : Tl w (w.alloc (.cells #[.int .i64 K, .string T] 23)) w.heap.size K T := ⟨(Below.refl _ w).alloc (Nat.le_refl _) _, copy_kind w _ _ _, copy_text w _ _ _⟩
theorem ne_self (s : ByteArray) : (s.toList != s.toList) = false := by simp
theorem eq_self (s : ByteArray) : (s.toList == s.toList) = true := by simp
set_option maxRecDepth 1000000 in
set_option maxHeartbeats 1500000 in
theorem tells_any (s : ByteArray) (K : Int) (T : ByteArray) (w : World) :
    Calls Tryd.prog 3 #[.string s, .agg #[.int .i64 K, .string T]] w fun e w' => e = .returned (.bool true) ∧ Below w.heap.size w w' := by
  have cS := fun W => small_any W
  have cF := few_any s
  have cG := few_any T
  have ST := Lib.hid (Tl.first w K T)
  by_cases hf : s.size ≤ 400
  · rw [decide_eq_true hf] at cF
    by_cases hg : T.size ≤ 400
    · rw [decide_eq_true hg] at cG
      obtain ⟨l, hl⟩ : ∃ l, scanL s.data.toList = l := ⟨_, rfl⟩
      obtain ⟨n, hn⟩ : ∃ n, l.length = n := ⟨_, rfl⟩
      obtain ⟨m, hm⟩ : ∃ m, bareL l = m := ⟨_, rfl⟩
      obtain ⟨nm, hnm⟩ : ∃ nm, m.length = nm := ⟨_, rfl⟩
      obtain ⟨J, hJ⟩ : ∃ J, strL (joinL l) = J := ⟨_, rfl⟩
      obtain ⟨QS, hQS⟩ : ∃ QS, strL (quoteL s.data.toList) = QS := ⟨_, rfl⟩
      have hjs : joinL l = s.data.toList := by rw [← hl]; exact join_scan _
      have hjz : (joinL l).length ≤ 1000000 := by rw [hjs, ← size_list]; omega
      have hnl : n ≤ 400 := by rw [← hn, ← hl]; have := scan_len s.data.toList; rw [← size_list] at this; omega
      have hmem := scan_mem s.data.toList
      rw [hl] at hmem
      rw [← size_list] at hmem
      have htz : ∀ t ∈ l, t.text.length ≤ 1000000 := fun t ht => by have := (hmem t ht).2.2.2.2; omega
      have hmn : m.length ≤ 1000000 := by rw [← hm]; have h1 := bare_len l n; rw [List.take_of_length_le (by omega)] at h1; omega
      have cC := fun W => scan_any s (by omega) W
      have cD := fun W => rscan_any s (by omega) W
      rw [hl, hn] at cC cD
      have cX := fun W v u (h : Hid (OwnF W v l)) (k : Hid (OwnF W u l)) => sameF_any h.out.has k.out.has (by omega : l.length ≤ 1000000)
      rw [show decide (l = l) = true from decide_eq_true rfl] at cX
      have cB := fun W v (h : Hid (OwnF W v l)) => bare_any v l W h.out.has (by omega) htz
      have cR := fun W v (h : Hid (OwnF W v l)) => rbare_any v l W h.out.has (by omega)
      rw [hm, hnm] at cB cR
      have cY := fun W v u (h : Hid (OwnF W v m)) (k : Hid (OwnF W u m)) => sameF_any h.out.has k.out.has hmn
      rw [show decide (m = m) = true from decide_eq_true rfl] at cY
      have cJ := fun W v (h : Hid (OwnF W v l)) => join_any v l W h.out.has hjz (by omega)
      have cI := fun W v (h : Hid (OwnF W v l)) => rjoin_any v l W h.out.has hjz (by omega)
      rw [hJ] at cJ cI
      have cQ := fun W => quote_any s (by omega) W
      have cP := fun W => rquote_any s (by omega) W
      rw [hQS] at cQ cP
      have nJ := ne_self J
      have nQ := ne_self QS
      have HT := Lib.hid (fun (k : Nat) (f : Tok) (h : l[k]? = some f) => htz f (List.mem_of_getElem? h))
      have HN := Lib.hid hn
      have HG := Lib.hid hg
      clear hl hn hm hnm hJ hQS hjs hjz hmem htz hmn hf hg
      go_enter Tryd.func3, Tryd.ntmps3
      go_wp2_with (first
        | (go_at_call 7; (with_reducible refine (cS _).mono ?_); rintro e w1 ⟨rfl, hb1⟩; clear cS; replace ST := Lib.hid (ST.out.step hb1); have t1 := ST.out.k1; clear hb1)
        | (go_at_call 8; (with_reducible refine (cF _).mono ?_); rintro e w2 ⟨rfl, rfl⟩; clear cF)
        | (go_at_call 8; (with_reducible refine (cG _).mono ?_); rintro e w2 ⟨rfl, rfl⟩; clear cG t1)
        | (go_at_call 9; (with_reducible refine (cC _).mono ?_); rintro e w3 ⟨a, c, rfl, ho, hb⟩; clear cC; replace ST := Lib.hid (ST.out.step hb); have HO := Lib.hid ho; clear ho hb)
        | (go_at_call 10; (with_reducible refine (cD _).mono ?_); rintro e w4 ⟨a2, c2, rfl, ho, hb⟩; clear cD; replace ST := Lib.hid (ST.out.step hb); replace HO := Lib.hid (HO.out.step hb); have HP := Lib.hid ho; clear ho hb)
        | (go_at_call 11; (with_reducible refine (cX _ _ _ HO HP).mono ?_); rintro e w5 ⟨rfl, hb⟩; clear cX; replace ST := Lib.hid (ST.out.step hb); replace HO := Lib.hid (HO.out.step hb); replace HP := Lib.hid (HP.out.step hb); clear hb)
        | (go_at_call 12; (with_reducible refine (cB _ _ HO).mono ?_); rintro e w6 ⟨a3, c3, rfl, ho, hb⟩; clear cB; replace ST := Lib.hid (ST.out.step hb); replace HO := Lib.hid (HO.out.step hb); replace HP := Lib.hid (HP.out.step hb); have HU := Lib.hid ho; clear ho hb)
        | (go_at_call 13; (with_reducible refine (cR _ _ HP).mono ?_); rintro e w7 ⟨a4, c4, rfl, ho, hb⟩; clear cR; replace ST := Lib.hid (ST.out.step hb); replace HO := Lib.hid (HO.out.step hb); replace HP := Lib.hid (HP.out.step hb); replace HU := Lib.hid (HU.out.step hb); have HV := Lib.hid ho; clear ho hb)
        | (go_at_call 11; (with_reducible refine (cY _ _ _ HU HV).mono ?_); rintro e w8 ⟨rfl, hb⟩; clear cY HU HV; replace ST := Lib.hid (ST.out.step hb); replace HO := Lib.hid (HO.out.step hb); replace HP := Lib.hid (HP.out.step hb); clear hb)
        | (go_at_call 14; (with_reducible refine (cJ _ _ HO).mono ?_); rintro e w9 ⟨rfl, hb⟩; clear cJ; replace ST := Lib.hid (ST.out.step hb); replace HO := Lib.hid (HO.out.step hb); replace HP := Lib.hid (HP.out.step hb); clear hb)
        | (go_at_call 15; (with_reducible refine (cI _ _ HP).mono ?_); rintro e w10 ⟨rfl, hw⟩; rw [← hw]; clear hw w10 cI)
        | (go_at_call 16; (with_reducible refine (cQ _).mono ?_); rintro e w11 ⟨rfl, hb⟩; clear cQ; replace ST := Lib.hid (ST.out.step hb); replace HO := Lib.hid (HO.out.step hb); clear hb HP)
        | (go_at_call 17; (with_reducible refine (cP _).mono ?_); rintro e w12 ⟨rfl, hb⟩; clear cP; replace ST := Lib.hid (ST.out.step hb); replace HO := Lib.hid (HO.out.step hb); clear hb))
      clear nJ nQ
      go_loopw [8] (fun i wr => ∃ k : Nat, k ≤ n ∧ i = .int .i64 k ∧ Hid (OwnF wr (.slice a n c) l) ∧ Hid (Tl w wr w.heap.size K T)) (fun i _ => n - (intOf i).toNat)
      case atStart => exact ⟨0, Nat.zero_le _, rfl, HO, ST⟩
      case round =>
        obtain ⟨k, hk, rfl, ho, hb⟩ := hrel
        have F1 : IntKind.i64.wrap ((k : Int) + 1) = (k : Int) + 1 := by rw [IntKind.wrap_i64]; omega
        by_cases hlt : k < n
        · have hlt' : (k : Int) < (n : Int) := by omega
          obtain ⟨g, rfl, hfa⟩ := ho.out.at (by omega)
          obtain ⟨f, hf⟩ : ∃ f, l[k]? = some f := ⟨_, List.getElem?_eq_getElem (by rw [HN.out]; exact hlt)⟩
          obtain ⟨k0, k1⟩ := hfa k f hf
          rw [Nat.zero_add] at k0 k1
          have hfz := HT.out k f hf
          obtain ⟨R, hR⟩ : ∃ R, strL (valueI ((f.kind : Nat) : Int) (strL f.text).data.toList) = R := ⟨_, rfl⟩
          have c1 := fun Q => value_any ((f.kind : Nat) : Int) (strL f.text) (by rw [strL_size]; exact hfz) Q
          have c2' := fun Q => rvalue_any ((f.kind : Nat) : Int) (strL f.text) (by rw [strL_size]; exact hfz) Q
          rw [hR] at c1 c2'
          generalize ((f.kind : Nat) : Int) = K1 at k0 c1 c2'
          generalize strL f.text = T1 at k1 c1 c2'
          have nR := ne_self R
          obtain ⟨P, hP⟩ : ∃ P : World → Prop, P = fun Q => OwnF Q (.slice (some ⟨g, 0, none⟩) n c) l ∧ Tl w Q w.heap.size K T ∧ Q.cell? ⟨g, k * 2, none⟩ = some (.int .i64 K1) ∧ Q.cell? ⟨g, k * 2 + 1, none⟩ = some (.string T1) := ⟨_, rfl⟩
          have hstep : ∀ Q Q', Hid (P Q) → Below Q.heap.size Q Q' → Hid (P Q') := by
            subst hP
            rintro Q Q' h hb
            exact ⟨h.out.1.step hb, h.out.2.1.step hb, cell_below h.out.2.2.1 hb, cell_below h.out.2.2.2 hb⟩
          have hall : ∀ Q, Hid (P Q) → Hid (P Q) ∧ Q.cell? ⟨g, k * 2, none⟩ = some (.int .i64 K1) ∧ Q.cell? ⟨g, k * 2 + 1, none⟩ = some (.string T1) := by
            subst hP
            rintro Q h
            exact ⟨h, h.out.2.2.1, h.out.2.2.2⟩
          have hout : ∀ Q, Hid (P Q) → Hid (OwnF Q (.slice (some ⟨g, 0, none⟩) n c) l) ∧ Hid (Tl w Q w.heap.size K T) := by
            subst hP
            rintro Q h
            exact ⟨h.out.1, h.out.2.1⟩
          have st : Hid (P wr.drew) := by
            subst hP
            exact ⟨ho.out.step (Below.refl _ _).drew, hb.out.step (Below.refl _ _).drew, k0, k1⟩
          have V1 := fun Q (h : Hid (P Q)) => (c1 Q).mono (fun e w' (hh : _ ∧ _) => (⟨hh.1, hstep Q w' h hh.2⟩ : _ ∧ Hid (P w')))
          have V2 := fun Q (h : Hid (P Q)) => (c2' Q).mono (fun e w' (hh : _ ∧ _) => (⟨hh.1, hstep Q w' h hh.2⟩ : _ ∧ Hid (P w')))
          have HOUT := Lib.hid hout
          have HALL := Lib.hid hall
          clear hP hstep hall hout c1 c2' hf hfa hfz hR k0 k1 HO ST ho hb
          go_wp2_with fail
          go_region_held3 (fun Q => Hid (P Q) ∧ Q.cell? ⟨g, k * 2, none⟩ = some (.int .i64 K1) ∧ Q.cell? ⟨g, k * 2 + 1, none⟩ = some (.string T1))
            (first | exact HALL.out _ st | exact HALL.out _ (by assumption))
            (first
              | (go_at_call 18; (with_reducible refine (V1 _ (by assumption)).mono ?_); rintro e v1 ⟨rfl, hs1⟩)
              | (go_at_call 19; (with_reducible refine (V2 _ (by assumption)).mono ?_); rintro e v2 ⟨rfl, hs2⟩))
          go_wp2_with fail
          go_roundw
          case rel => exact ⟨k + 1, by omega, by go_num, (HOUT.out _ hs2).1, (HOUT.out _ hs2).2⟩
          case measure => simp [intOf]; omega
        · obtain rfl : k = n := by omega
          have hlt' : ¬ (k : Int) < (k : Int) := by omega
          obtain ⟨R, hR⟩ : ∃ R, strL (valueI K T.data.toList) = R := ⟨_, rfl⟩
          have hgz := HG.out
          have c1 := fun Q => value_any K T (by omega) Q
          have c2' := fun Q => rvalue_any K T (by omega) Q
          rw [hR] at c1 c2'
          have eR := eq_self R
          have V1 := fun Q (h : Hid (Tl w Q w.heap.size K T)) => (c1 Q).mono (fun e w' (hh : _ ∧ _) => (⟨hh.1, Lib.hid (h.out.step hh.2)⟩ : _ ∧ Hid (Tl w w' w.heap.size K T)))
          have V2 := fun Q (h : Hid (Tl w Q w.heap.size K T)) => (c2' Q).mono (fun e w' (hh : _ ∧ _) => (⟨hh.1, Lib.hid (h.out.step hh.2)⟩ : _ ∧ Hid (Tl w w' w.heap.size K T)))
          have st : Hid (Tl w wr.drew w.heap.size K T) := hb.out.step (Below.refl _ _).drew
          have HALL := Lib.hid (fun Q (h : Hid (Tl w Q w.heap.size K T)) => show Hid (Tl w Q w.heap.size K T) ∧ Q.cell? ⟨w.heap.size, 0, none⟩ = some (.int .i64 K) ∧ Q.cell? ⟨w.heap.size, 1, none⟩ = some (.string T) from ⟨h, h.out.k0, h.out.k1⟩)
          clear hR c1 c2' HO ST ho hb hgz
          go_wp2_with fail
          go_region_held3 (fun Q => Hid (Tl w Q w.heap.size K T) ∧ Q.cell? ⟨w.heap.size, 0, none⟩ = some (.int .i64 K) ∧ Q.cell? ⟨w.heap.size, 1, none⟩ = some (.string T))
            (first | exact HALL.out _ st | exact HALL.out _ (by assumption))
            (first
              | (go_at_call 18; (with_reducible refine (V1 _ (by assumption)).mono ?_); rintro e v1 ⟨rfl, hs1⟩)
              | (go_at_call 19; (with_reducible refine (V2 _ (by assumption)).mono ?_); rintro e v2 ⟨rfl, hs2⟩))
          go_wp2_with fail
          go_ret
          exact ⟨rfl, hs2.out.bel⟩
    · rw [decide_eq_false hg] at cG
      clear hf hg
      go_enter Tryd.func3, Tryd.ntmps3
      go_wp2_with (first
        | (go_at_call 7; (with_reducible refine (cS _).mono ?_); rintro e w1 ⟨rfl, hb1⟩; clear cS; replace ST := Lib.hid (ST.out.step hb1); have t1 := ST.out.k1)
        | (go_at_call 8; (with_reducible refine (cF _).mono ?_); rintro e w2 ⟨rfl, rfl⟩; clear cF)
        | (go_at_call 8; (with_reducible refine (cG _).mono ?_); rintro e w2 ⟨rfl, rfl⟩))
      go_ret
      exact ⟨rfl, ST.out.bel⟩
  · rw [decide_eq_false hf] at cF
    clear hf
    go_enter Tryd.func3, Tryd.ntmps3
    go_wp2_with (first
      | (go_at_call 7; (with_reducible refine (cS _).mono ?_); rintro e w1 ⟨rfl, hb1⟩; clear cS; replace ST := Lib.hid (ST.out.step hb1))
      | (go_at_call 8; (with_reducible refine (cF _).mono ?_); rintro e w2 ⟨rfl, rfl⟩))
    go_ret
    exact ⟨rfl, ST.out.bel⟩
end Go.Proofs.YtmpgclimgbjeoaaDoor
