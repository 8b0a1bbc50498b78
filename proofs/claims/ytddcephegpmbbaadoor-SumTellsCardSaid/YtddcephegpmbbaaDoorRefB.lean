/- The reference's block function. -/
import Derived.Test.YtddcephegpmbbaaDoorRefW
import Derived.Test.YtddcephegpmbbaaDoorComp
namespace Go.Proofs.YtddcephegpmbbaaDoor
open Go.ChangeShapes Go.WideShapes Go.ChangeAt Go.RowKit

/-- The eight words xs lie in block g. -/
def EightAt (g : Nat) (xs : List UInt32) (w : World) : Prop := ∀ j, j < 8 → w.cell? ⟨g, j, none⟩ = some (.int .u32 (V (xs.getD j 0)))
theorem EightAt.lt {g : Nat} {xs : List UInt32} {w : World} (h : EightAt g xs w) : g < w.heap.size := World.block_lt_of_cell? w _ (h 0 (by omega))
theorem EightAt.same {g : Nat} {xs : List UInt32} {w w' : World} (h : EightAt g xs w) (hb : w'.heap[g]? = w.heap[g]?) : EightAt g xs w' := fun j hj => by
  rw [World.cell?_of_block (by exact hb)]; exact h j hj
theorem EightAt.below {g : Nat} {xs : List UInt32} {w w' : World} (h : EightAt g xs w) (hb : Below w.heap.size w w') : EightAt g xs w' := h.same (hb.block _ h.lt)
theorem eight_own {g cap base : Nat} {xs : List UInt32} {w : World} (hx : xs.length = 8) (h : w.ownsRow base 27 1 (.slice (some ⟨g, 0, none⟩) 8 cap) 8 (wordsV xs)) : EightAt g xs w := fun _ hj => own_word h hx hj
theorem eight_news {g : Nat} {xs : List UInt32} {w : World} (hx : xs.length = 8) (h : EightAt g xs w) : ∀ j u, (wordsV xs)[j]? = some u → w.cell? ((⟨g, 0, none⟩ : Addr).add j) = some u := by
  intro j u hj
  have hlt : j < 8 := by
    have := (List.getElem?_eq_some_iff.1 hj).1
    rw [words_len, hx] at this
    exact this
  have e : (⟨g, 0, none⟩ : Addr).add j = ⟨g, j, none⟩ := by unfold Addr.add; split <;> simp_all
  rw [e, h j hlt, ← hj, words_get _ _ (by omega)]
/-- What a round reckons. -/
structure RdEq (a b c d e f g h k x B1 CH T B0 MJ NA NE : UInt32) : Prop where
  b1 : rotr e 6 ^^^ rotr e 11 ^^^ rotr e 25 = B1
  ch : (e &&& f) ^^^ (~~~e &&& g) = CH
  t : h + B1 + CH + k + x = T
  b0 : rotr a 2 ^^^ rotr a 13 ^^^ rotr a 22 = B0
  mj : (a &&& b) ^^^ (a &&& c) ^^^ (b &&& c) = MJ
  na : T + B0 + MJ = NA
  ne : d + T = NE
theorem rdEq_any (a b c d e f g h k x : UInt32) : ∃ B1 CH T B0 MJ NA NE, RdEq a b c d e f g h k x B1 CH T B0 MJ NA NE := ⟨_, _, _, _, _, _, _, rfl, rfl, rfl, rfl, rfl, rfl, rfl⟩
theorem RdEq.rnd {a b c d e f g h k x B1 CH T B0 MJ NA NE : UInt32} (H : RdEq a b c d e f g h k x B1 CH T B0 MJ NA NE) : rnd ⟨a, b, c, d, e, f, g, h⟩ k x = ⟨NA, a, b, c, NE, e, f, g⟩ := by
  rw [← H.na, ← H.ne, UInt32.add_assoc, ← H.mj, ← H.b0, ← H.t, ← H.ch, ← H.b1]
  rfl
/-- The memory while the rounds go. -/
structure BkW (W : World) (st : S8) (l : List UInt8) (gh gk gw cw gv cv : Nat) (xs : List UInt32) (w : World) : Prop where
  hs : EightAt gh (words8 st) w
  ks : w.heap[gk]? = some (.cells (wordsV shaK).toArray 27 (0, 0))
  ws : w.ownsRow W.heap.size 27 1 (.slice (some ⟨gw, 0, none⟩) 64 cw) 64 (wordsV (sched l 64))
  vs : w.ownsRow W.heap.size 27 1 (.slice (some ⟨gv, 0, none⟩) 8 cv) 8 (wordsV xs)
  bel : Below W.heap.size W w
  far : gh < W.heap.size
theorem BkW.drewN {W w : World} {st : S8} {l : List UInt8} {gh gk gw cw gv cv : Nat} {xs : List UInt32} (h : BkW W st l gh gk gw cw gv cv xs w) (n : Nat) : BkW W st l gh gk gw cw gv cv xs (w.drewN n) :=
  ⟨h.hs, h.ks, h.ws, h.vs, ⟨h.bel.os, h.bel.tape, h.bel.output, h.bel.size, h.bel.block⟩, h.far⟩
theorem BkW.k {W w : World} {st : S8} {l : List UInt8} {gh gk gw cw gv cv : Nat} {xs : List UInt32} (h : BkW W st l gh gk gw cw gv cv xs w) {t : Nat} (ht : t < 64) : w.cell? ⟨gk, t, none⟩ = some (.int .u32 (V (shaK.getD t 0))) := by
  rw [cell_of_row w gk t _ _ _ h.ks, List.getElem?_toArray]
  exact words_get _ _ ht
theorem BkW.next {W w : World} {st : S8} {l : List UInt8} {gh gk gw cw gv cv : Nat} {xs : List UInt32} (h : BkW W st l gh gk gw cw gv cv xs w) (ys : List UInt32) (hy : ys.length = 8) :
    BkW W st l gh gk gw cw w.heap.size 8 ys (w.drew.alloc (.cells (wordsV ys).toArray 27)) := by
  have hs := h.bel.size
  have hb : Below w.heap.size w (w.drew.alloc (.cells (wordsV ys).toArray 27)) := ((Below.refl w.heap.size w).drew).alloc (Nat.le_refl _) _
  exact ⟨h.hs.below hb, by rw [hb.block _ (Array.getElem?_eq_some_iff.1 h.ks).1]; exact h.ks, below_own h.ws hb, World.ownsRow_lit w.drew (wordsV ys).toArray 8 hs (by unfold maxLen; omega) (by rw [List.size_toArray, words_len, hy]), h.bel.trans (hb.mono hs), h.far⟩
/-- The memory while the states are added. -/
structure AdW (W : World) (st : S8) (gh gv cv : Nat) (xs : List UInt32) (w : World) : Prop where
  hs : EightAt gh (words8 st) w
  vs : w.ownsRow W.heap.size 27 1 (.slice (some ⟨gv, 0, none⟩) 8 cv) 8 (wordsV xs)
  bel : Below W.heap.size W w
  far : gh < W.heap.size
  new : W.heap.size ≤ gv
theorem mix_list (r s : S8) (j : Nat) (h : j < 8) : (wordsV (mixL (words8 r) (words8 s) j)).set j (.int .u32 (V ((words8 r).getD j 0 + (words8 s).getD j 0))) = wordsV (mixL (words8 r) (words8 s) (j + 1)) := by
  have := congrArg Array.toList (mix_set r s j h)
  simpa using this
theorem AdW.set {W w : World} {st r : S8} {gh gv cv j : Nat} (h : AdW W st gh gv cv (mixL (words8 r) (words8 st) j) w) (hj : j < 8) {x : UInt32} (hx : (words8 r).getD j 0 + (words8 st).getD j 0 = x) :
    AdW W st gh gv cv (mixL (words8 r) (words8 st) (j + 1)) (w.setCell ⟨gv, j, none⟩ (.int .u32 (V x))).drew := by
  have hf := h.far
  have hn := h.new
  have hs := h.vs.stored j (.int .u32 (V x))
  rw [← hx, mix_list r st j hj, hx] at hs
  refine ⟨h.hs.same (heap_setCell_other _ _ _ _ (by show gh ≠ gv; omega)), hs.1, (h.bel.setCell (by show W.heap.size ≤ gv; omega) _).drew, hf, hn⟩
theorem add8_comm (s t : S8) : add8 s t = add8 t s := by
  unfold add8
  rw [UInt32.add_comm s.a, UInt32.add_comm s.b, UInt32.add_comm s.c, UInt32.add_comm s.d, UInt32.add_comm s.e, UInt32.add_comm s.f, UInt32.add_comm s.g, UInt32.add_comm s.h]

set_option maxRecDepth 100000 in
set_option maxHeartbeats 3200000 in
theorem blockR_any (st : S8) (l : List UInt8) (gh ch gb off cb : Nat) (w : World) (hh : EightAt gh (words8 st) w) (hsrc : BytesAt gb off l w) :
    Calls Tryd.prog 24 #[.slice (some ⟨gh, 0, none⟩) 8 ch, .slice (some ⟨gb, off, none⟩) 64 cb] w fun e w' => ∃ g' cap', e = .returned (.slice (some ⟨g', 0, none⟩) 8 cap') ∧ w'.ownsRow w.heap.size 27 1 (.slice (some ⟨g', 0, none⟩) 8 cap') 8 (wordsV (words8 (blockP st l))) ∧ Below w.heap.size w w' := by
  obtain ⟨i0, hi, hz0, hz1, hz2⟩ := info_parts info27
  have HX := Lib.hid hh
  have HS := Lib.hid hsrc
  clear hh hsrc
  go_enter Tryd.func24, Tryd.ntmps24
  go_wp2_with fail
  refine (wordsR_any l gb off cb _ HS.out).mono ?_
  rintro r w1 ⟨gw, cw, rfl, hw1, hb1⟩
  have H1 := Lib.hid (And.intro hw1 hb1)
  clear hw1 hb1 HS
  go_wp2_with fail
  refine (addsR_any _).mono ?_
  rintro r w2 ⟨rfl, rfl⟩
  obtain ⟨Kr, hKr⟩ : ∃ Kr, (wordsV shaK).toArray = Kr := ⟨_, rfl⟩
  rw [hKr]
  have HK := Lib.hid hKr
  clear hKr
  have hbK : Below w1.heap.size w1 ((w1.alloc (.cells Kr 27)).alloc (.cells #[] 27)) := ((Below.refl _ _).alloc (Nat.le_refl _) _).alloc (by simp) _
  have h0 : Hid (((w1.alloc (.cells Kr 27)).alloc (.cells #[] 27)).ownsRow w.heap.size 27 1 (.slice (some ⟨w1.heap.size + 1, 0, none⟩) 0 0) 0 []) := by
    have := World.ownsRow_lit (e := 27) (size := 1) (w1.alloc (.cells Kr 27)) #[] 0 (base := w.heap.size) (by have := H1.out.2.size; simp; omega) (by unfold maxLen; omega) rfl
    have e : (w1.alloc (.cells Kr 27)).heap.size = w1.heap.size + 1 := by simp
    rw [e] at this
    exact this
  have hcl := Lib.hid (eight_news (xs := words8 st) rfl ((HX.out.below H1.out.2).below hbK))
  have hb := Lib.hid hbK
  clear hbK
  have hsz : Hid (w.heap.size ≤ w1.heap.size) := H1.out.2.size
  go_upto_region 4 with (at_builtin; refine wpList_append_own _ rfl (.tmp 18) (.tmp 19) 48 rfl w.heap.size 27 i0 (.int .u32 0) 1 4 Tryd.underlying48 hi hz0 hz1 hz2 rfl (by decide) _ 0 [] rfl h0.out ⟨gh, 0, none⟩ 8 ch (wordsV (words8 st)) rfl rfl hcl.out (words_one _) (by unfold maxLen; omega) (by omega) (by have := hsz.out; simp; omega) ?_; intro v3 w3 hown3 hgrow3 hnil3)
  rw [Nat.zero_add, List.nil_append] at hown3
  obtain ⟨gv, cv, rfl⟩ := own_form hown3 (by omega)
  have hB : Hid (BkW w st l gh w1.heap.size gw cw gv cv (words8 st) w3) := by
    have hne : ∀ k, k ≤ w1.heap.size → some k ≠ ((Value.slice (some ⟨w1.heap.size + 1, 0, none⟩) 0 0).ownBlock) := fun k hk h2 => by
      have := Option.some.inj h2
      have e : k = w1.heap.size + 1 := this
      omega
    have hblk : ∀ k, k < w1.heap.size → w3.heap[k]? = w1.heap[k]? := fun k hk => by
      rw [hgrow3.block k (by simp; omega) (hne k (by omega)), hb.out.block k hk]
    have hlt := HX.out.lt
    have hz := hsz.out
    refine ⟨(HX.out.below H1.out.2).same (hblk gh (by omega)), ?_, ?_, ?_, ?_, hlt⟩
    · rw [hgrow3.block _ (by simp; omega) (hne _ (Nat.le_refl _)), HK.out]
      exact heap_alloc2_old _ _ _
    · refine ⟨H1.out.1.1, ?_⟩
      rcases H1.out.1.2 with ⟨h2, _⟩ | ⟨g, cap, cur, hv, hg, hrow, rest⟩
      · cases h2
      · exact Or.inr ⟨g, cap, cur, hv, hg, by rw [hblk _ (Array.getElem?_eq_some_iff.1 hrow).1]; exact hrow, rest⟩
    · exact hown3
    · exact (H1.out.2.trans (hb.out.mono hz)).grown hgrow3 (by simp; omega) (fun k hk => by
        have e : w1.heap.size + 1 = k := Option.some.inj hk
        omega)
  obtain ⟨gk, hgk⟩ : ∃ gk, w1.heap.size = gk := ⟨_, rfl⟩
  rw [hgk] at hB
  rw [hgk]
  clear hown3 hgrow3 hnil3 h0 hcl hb hsz HX H1 HK hgk
  go_wp2_with fail
  obtain ⟨sa, sb, sc, sd, se, sf, sg, sh⟩ := st
  go_loopw [7, 8] (fun v i wr => ∃ (t gv cv : Nat) (a b c d e f g h : UInt32), t ≤ 64 ∧ i = .int .i64 t ∧ v = .slice (some ⟨gv, 0, none⟩) 8 cv ∧ Hid (S8.mk a b c d e f g h = roundsTo (sched l 64) ⟨sa, sb, sc, sd, se, sf, sg, sh⟩ t) ∧ BkW w ⟨sa, sb, sc, sd, se, sf, sg, sh⟩ l gh gk gw cw gv cv [a, b, c, d, e, f, g, h] wr) (fun _ i _ => 64 - (intOf i).toNat)
  case atStart => exact ⟨0, gv, cv, sa, sb, sc, sd, se, sf, sg, sh, Nat.zero_le _, rfl, rfl, rfl, hB.out⟩
  case round =>
    clear hB
    obtain ⟨t, gv, cv, a, b, c, d, e, f, g, h, ht, rfl, rfl, HR, HC⟩ := hrel
    have HH := Lib.hid HC
    clear HC
    by_cases hlt : t < 64
    · obtain ⟨k, hk⟩ : ∃ k, shaK.getD t 0 = k := ⟨_, rfl⟩
      obtain ⟨x, hx⟩ : ∃ x, (sched l 64).getD t 0 = x := ⟨_, rfl⟩
      have HN : Hid (rnd ⟨a, b, c, d, e, f, g, h⟩ (shaK.getD t 0) ((sched l 64).getD t 0) = roundsTo (sched l 64) ⟨sa, sb, sc, sd, se, sf, sg, sh⟩ (t + 1)) := by
        show _ = _
        rw [HR.out]; rfl
      have ck := HH.out.k hlt
      have cw := own_word HH.out.ws (sched_len l 64) hlt
      rw [hk] at ck HN
      rw [hx] at cw HN
      replace ck := Lib.hid ck
      replace cw := Lib.hid cw
      clear HR hk hx
      obtain ⟨B1, CH, T, B0, MJ, NA, NE, HE⟩ := rdEq_any a b c d e f g h k x
      go_wp2_with fail
      have c4 := own_word HH.out.vs (l := [a, b, c, d, e, f, g, h]) rfl (show 4 < 8 by omega)
      simp only [List.getD_cons_zero, List.getD_cons_succ] at c4
      have qx := xor_V
      have zhB1 := HE.b1
      go_quiet ((go_at_call 32; first | (with_reducible refine Calls.quiet_of (turn6 e _)) | (with_reducible refine Calls.quiet_of (turn11 e _)) | (with_reducible refine Calls.quiet_of (turn25 e _))))
      replace HH := Lib.hid (HH.out.drewN nq)
      replace ck : Hid ((wr.drewN nq).cell? ⟨gk, t, none⟩ = some (.int .u32 (V k))) := ck
      replace cw : Hid ((wr.drewN nq).cell? ⟨gw, t, none⟩ = some (.int .u32 (V x))) := cw
      clear c4 qx zhB1
      obtain ⟨wq1, hw2⟩ : ∃ w2, wr.drewN nq = w2 := ⟨_, rfl⟩
      rw [hw2] at HH
      rw [hw2] at ck cw
      rw [hw2]
      clear hw2
      go_wp2_with fail
      have c4 := own_word HH.out.vs (l := [a, b, c, d, e, f, g, h]) rfl (show 4 < 8 by omega)
      simp only [List.getD_cons_zero, List.getD_cons_succ] at c4
      have c5 := own_word HH.out.vs (l := [a, b, c, d, e, f, g, h]) rfl (show 5 < 8 by omega)
      simp only [List.getD_cons_zero, List.getD_cons_succ] at c5
      have c6 := own_word HH.out.vs (l := [a, b, c, d, e, f, g, h]) rfl (show 6 < 8 by omega)
      simp only [List.getD_cons_zero, List.getD_cons_succ] at c6
      have qx := xor_V
      have qa := and_V
      have qn : ∀ x : UInt32, bits .xor .u32 IntKind.u32.max (V x) = V (~~~x) := not_V'
      have qs : IntKind.u32.signed = false := rfl
      have zhCH := HE.ch
      go_quiet (fail)
      replace HH := Lib.hid (HH.out.drewN nq)
      replace ck : Hid ((wq1.drewN nq).cell? ⟨gk, t, none⟩ = some (.int .u32 (V k))) := ck
      replace cw : Hid ((wq1.drewN nq).cell? ⟨gw, t, none⟩ = some (.int .u32 (V x))) := cw
      clear c4 c5 c6 qx qa qn qs zhCH
      obtain ⟨wq2, hw2⟩ : ∃ w2, wq1.drewN nq = w2 := ⟨_, rfl⟩
      rw [hw2] at HH
      rw [hw2] at ck cw
      rw [hw2]
      clear hw2
      go_wp2_with fail
      have c7 := own_word HH.out.vs (l := [a, b, c, d, e, f, g, h]) rfl (show 7 < 8 by omega)
      simp only [List.getD_cons_zero, List.getD_cons_succ] at c7
      have yk := ck.out
      have yw := cw.out
      have n0 : 0 ≤ (t : Int) := by omega
      have n1 : (t : Int) < 64 := by omega
      have ad := add_V
      have ad' := add_V'
      have zhT := HE.t
      go_quiet (fail)
      replace HH := Lib.hid (HH.out.drewN nq)
      clear c7 yk yw ck cw n0 n1 ad ad' zhT
      obtain ⟨wq3, hw2⟩ : ∃ w2, wq2.drewN nq = w2 := ⟨_, rfl⟩
      rw [hw2] at HH
      rw [hw2]
      clear hw2
      go_wp2_with fail
      have c0 := own_word HH.out.vs (l := [a, b, c, d, e, f, g, h]) rfl (show 0 < 8 by omega)
      simp only [List.getD_cons_zero] at c0
      have qx := xor_V
      have zhB0 := HE.b0
      go_quiet ((go_at_call 32; first | (with_reducible refine Calls.quiet_of (turn2 a _)) | (with_reducible refine Calls.quiet_of (turn13 a _)) | (with_reducible refine Calls.quiet_of (turn22 a _))))
      replace HH := Lib.hid (HH.out.drewN nq)
      clear c0 qx zhB0
      obtain ⟨wq4, hw2⟩ : ∃ w2, wq3.drewN nq = w2 := ⟨_, rfl⟩
      rw [hw2] at HH
      rw [hw2]
      clear hw2
      go_wp2_with fail
      have c0 := own_word HH.out.vs (l := [a, b, c, d, e, f, g, h]) rfl (show 0 < 8 by omega)
      simp only [List.getD_cons_zero] at c0
      have c1 := own_word HH.out.vs (l := [a, b, c, d, e, f, g, h]) rfl (show 1 < 8 by omega)
      simp only [List.getD_cons_zero, List.getD_cons_succ] at c1
      have c2 := own_word HH.out.vs (l := [a, b, c, d, e, f, g, h]) rfl (show 2 < 8 by omega)
      simp only [List.getD_cons_zero, List.getD_cons_succ] at c2
      have qx := xor_V
      have qa := and_V
      have zhMJ := HE.mj
      go_quiet (fail)
      replace HH := Lib.hid (HH.out.drewN nq)
      clear c0 c1 c2 qx qa zhMJ
      obtain ⟨wq5, hw2⟩ : ∃ w2, wq4.drewN nq = w2 := ⟨_, rfl⟩
      rw [hw2] at HH
      rw [hw2]
      clear hw2
      go_wp2_with fail
      have c0 := own_word HH.out.vs (l := [a, b, c, d, e, f, g, h]) rfl (show 0 < 8 by omega)
      simp only [List.getD_cons_zero] at c0
      have c1 := own_word HH.out.vs (l := [a, b, c, d, e, f, g, h]) rfl (show 1 < 8 by omega)
      simp only [List.getD_cons_zero, List.getD_cons_succ] at c1
      have c2 := own_word HH.out.vs (l := [a, b, c, d, e, f, g, h]) rfl (show 2 < 8 by omega)
      simp only [List.getD_cons_zero, List.getD_cons_succ] at c2
      have c3 := own_word HH.out.vs (l := [a, b, c, d, e, f, g, h]) rfl (show 3 < 8 by omega)
      simp only [List.getD_cons_zero, List.getD_cons_succ] at c3
      have c4 := own_word HH.out.vs (l := [a, b, c, d, e, f, g, h]) rfl (show 4 < 8 by omega)
      simp only [List.getD_cons_zero, List.getD_cons_succ] at c4
      have c5 := own_word HH.out.vs (l := [a, b, c, d, e, f, g, h]) rfl (show 5 < 8 by omega)
      simp only [List.getD_cons_zero, List.getD_cons_succ] at c5
      have c6 := own_word HH.out.vs (l := [a, b, c, d, e, f, g, h]) rfl (show 6 < 8 by omega)
      simp only [List.getD_cons_zero, List.getD_cons_succ] at c6
      have ad := add_V
      have ad' := add_V'
      have zhNA := HE.na
      have zhNE := HE.ne
      have HN2 : Hid (S8.mk NA a b c NE e f g = roundsTo (sched l 64) ⟨sa, sb, sc, sd, se, sf, sg, sh⟩ (t + 1)) := by
        show _ = _
        rw [← HE.rnd]; exact HN.out
      clear HN
      go_still_tail 28, (by kernel_rfl)
      clear c0 c1 c2 c3 c4 c5 c6 ad ad' zhNA zhNE
      change wpList _ _ _ _ _ wq5.drew
      go_wp2_with fail
      go_roundw
      case rel => exact ⟨t + 1, wq5.heap.size, 8, NA, a, b, c, NE, e, f, g, by omega, by go_num, rfl, HN2, HH.out.next [NA, a, b, c, NE, e, f, g] rfl⟩
      case measure => simp [intOf]; omega
    · have et : t = 64 := by omega
      have HD : Hid (add8 ⟨a, b, c, d, e, f, g, h⟩ ⟨sa, sb, sc, sd, se, sf, sg, sh⟩ = blockP ⟨sa, sb, sc, sd, se, sf, sg, sh⟩ l) := by
        show _ = _
        have hr := HR.out
        rw [et] at hr
        rw [add8_comm, hr]; rfl
      rw [show (t : Int) = 64 by omega]
      clear et hlt ht HR t
      obtain ⟨r, hr⟩ : ∃ r, S8.mk a b c d e f g h = r := ⟨_, rfl⟩
      obtain ⟨st, hst⟩ : ∃ st, S8.mk sa sb sc sd se sf sg sh = st := ⟨_, rfl⟩
      have HA : Hid (AdW w st gh gv cv (mixL (words8 r) (words8 st) 0) wr) := by
        have e1 : mixL (words8 r) (words8 st) 0 = words8 r := rfl
        have hh := HH.out
        rw [hst] at hh
        refine ⟨hh.hs, ?_, hh.bel, hh.far, (hh.vs.lt gv rfl).1⟩
        rw [e1, ← hr]
        exact hh.vs
      have HST := Lib.hid hst
      rw [hr, hst] at HD
      rw [hst]
      clear hr hst HH
      go_wp2_with fail
      go_loopw [14] (fun i wr => ∃ j : Nat, j ≤ 8 ∧ i = .int .i64 j ∧ AdW w st gh gv cv (mixL (words8 r) (words8 st) j) wr) (fun i _ => 8 - (intOf i).toNat)
      case atStart => exact ⟨0, Nat.zero_le _, rfl, HA.out⟩
      case round =>
        clear HA
        obtain ⟨j, hj, rfl, HF⟩ := hrel
        have hF := Lib.hid HF
        clear HF
        by_cases hlt : j < 8
        · have gc : wr.cell? ⟨gv, j, none⟩ = some (.int .u32 (V ((words8 r).getD j 0))) := by
            have h1 := mix_get r st j hlt
            rw [List.getElem?_toArray] at h1
            rw [hF.out.vs.cellAt j (by omega)]
            exact h1
          have gf := hF.out.vs.frozenAt j
          have gy := hF.out.hs j hlt
          have HS := Lib.hid (fun (z : UInt32) (hz : (words8 r).getD j 0 + (words8 st).getD j 0 = z) => hF.out.set hlt hz)
          obtain ⟨x, hx⟩ : ∃ x, (words8 r).getD j 0 = x := ⟨_, rfl⟩
          obtain ⟨y, hy⟩ : ∃ y, (words8 st).getD j 0 = y := ⟨_, rfl⟩
          rw [hx] at gc HS
          rw [hy] at gy HS
          clear hx hy
          have ad := add_V
          have ad' := add_V'
          have j0 : 0 ≤ (j : Int) := by omega
          have j1 : (j : Int) < 8 := by omega
          go_wp2_with fail
          go_still_tail 11, (by kernel_rfl)
          clear ad ad' j0 j1
          change wpList _ _ _ _ _ wr.drew
          go_wp2_with fail
          go_roundw
          case rel => exact ⟨j + 1, by omega, by go_num, HS.out _ rfl⟩
          case measure => simp [intOf]; omega
        · have ej : j = 8 := by omega
          have HE : Hid (wr.ownsRow w.heap.size 27 1 (.slice (some ⟨gv, 0, none⟩) 8 cv) 8 (wordsV (words8 (blockP st l))) ∧ Below w.heap.size w wr) := by
            refine ⟨?_, hF.out.bel⟩
            have h1 := hF.out.vs
            rw [ej, show mixL (words8 r) (words8 st) 8 = words8 (add8 r st) from rfl, HD.out] at h1
            exact h1
          rw [show (j : Int) = 8 by omega]
          clear hF HD ej hlt hj j
          go_wp2_with fail
          go_ret
          have hfin := HE.out
          rw [← HST.out] at hfin
          exact ⟨gv, cv, rfl, hfin.1, hfin.2⟩
end Go.Proofs.YtddcephegpmbbaaDoor
