/- The reference's digest. -/
import Derived.Test.YtddcephegpmbbaaDoorRefB
import Derived.Test.YtddcephegpmbbaaDoorHexD
namespace Go.Proofs.YtddcephegpmbbaaDoor
open Go.ChangeShapes Go.WideShapes Go.ChangeAt Go.RowKit

theorem pad_len (l : List UInt8) : (padL l).length = l.length + 1 + zerosN l.length + 8 := by
  rw [← bL_pad, bL_len _ _ _ (Nat.le_refl _)]
theorem pad_mod (l : List UInt8) : 64 * ((padL l).length / 64) = (padL l).length := by
  rw [pad_len]
  unfold zerosN
  omega
theorem getD_part (l : List UInt8) (o j : Nat) (h : j < 64) : ((l.drop o).take 64).getD j 0 = l.getD (o + j) 0 := by
  rw [List.getD_eq_getElem?_getD, List.getD_eq_getElem?_getD, List.getElem?_take, if_pos h, List.getElem?_drop]
theorem own_byte {w : World} {base g cap n j : Nat} {l : List UInt8} (h : w.ownsRow base 5 1 (.slice (some ⟨g, 0, none⟩) n cap) n (cellsOf l)) (hn : l.length = n) (hj : j < n) : w.cell? ⟨g, j, none⟩ = some (.int .u8 ((l.getD j 0).toNat : Int)) := by
  rw [h.cellAt j (by omega), cellsOf, List.getElem?_map, List.getD_eq_getElem?_getD, List.getElem?_eq_getElem (show j < l.length by omega)]; rfl
theorem own_cap {w : World} {base g cap n : Nat} {e : TypeId} {size : Nat} {xs : List Value} (h : w.ownsRow base e size (.slice (some ⟨g, 0, none⟩) n cap) n xs) : n ≤ cap ∧ cap ≤ maxLen := by
  rcases h.2 with ⟨h2, _⟩ | ⟨g2, cap2, cur, hv, _, _, h1, h2, _⟩
  · cases h2
  · injection hv with _ _ hc
    subst hc
    exact ⟨h1, h2⟩
theorem own_mono {w : World} {base base' : Nat} {e : TypeId} {size : Nat} {v : Value} {n : Nat} {xs : List Value} (h : w.ownsRow base e size v n xs) (hb : base' ≤ base) : w.ownsRow base' e size v n xs := by
  refine ⟨h.1, ?_⟩
  rcases h.2 with h2 | ⟨g, cap, cur, hv, hg, rest⟩
  · exact Or.inl h2
  · exact Or.inr ⟨g, cap, cur, hv, Nat.le_trans hb hg, rest⟩
theorem eight_row {w : World} {g : Nat} {xs : List UInt32} {t : TypeId} (hx : xs.length = 8) (h : w.heap[g]? = some (.cells (wordsV xs).toArray t (0, 0))) : EightAt g xs w := fun j hj => by
  rw [cell_of_row w g j _ _ _ h, List.getElem?_toArray]
  exact words_get _ _ (by omega)
/-- The memory while the blocks go. -/
structure SbW (W : World) (l : List UInt8) (gp cp gh : Nat) (st : S8) (w : World) : Prop where
  out : w.heap[W.heap.size]? = some (.cells zeros32 23 (0, 0))
  pad : w.ownsRow W.heap.size 5 1 (.slice (some ⟨gp, 0, none⟩) (padL l).length cp) (padL l).length (cellsOf (padL l))
  hs : EightAt gh (words8 st) w
  bel : Below W.heap.size W w
theorem SbW.next {W w w' : World} {l : List UInt8} {gp cp gh gh' : Nat} {st st' : S8} (h : SbW W l gp cp gh st w) (hb : Below w.heap.size w w') (hs : EightAt gh' (words8 st') w') : SbW W l gp cp gh' st' w' :=
  ⟨by rw [hb.block _ (Array.getElem?_eq_some_iff.1 h.out).1]; exact h.out, below_own h.pad hb, hs, h.bel.trans (hb.mono h.bel.size)⟩
theorem SbW.part {W w : World} {l : List UInt8} {gp cp gh k : Nat} {st : S8} (h : SbW W l gp cp gh st w) (hk : k < (padL l).length / 64) : BytesAt gp (64 * k) (((padL l).drop (64 * k)).take 64) w := fun j hj => by
  rw [getD_part _ _ _ hj]
  exact own_byte h.pad rfl (by omega)
/-- The memory while the digest is written. -/
structure OuR (W : World) (gh : Nat) (st : S8) (D i : Nat) (w : World) : Prop where
  out : w.heap[W.heap.size]? = some (.cells zeros32 23 (0, 0))
  hs : EightAt gh (words8 st) w
  arr : w.heap[D]? = some (.cells (dmix st i) 23 (0, 0))
  bel : Below W.heap.size W w
  far : W.heap.size < D
  apart : gh < D
theorem OuR.start {W w : World} {l : List UInt8} {gp cp gh : Nat} {st : S8} (h : SbW W l gp cp gh st w) : OuR W gh st w.heap.size 0 (w.alloc (.cells zeros32 23)) := by
  have hb : Below w.heap.size w (w.alloc (.cells zeros32 23)) := (Below.refl _ _).alloc (Nat.le_refl _) _
  exact ⟨by rw [hb.block _ (Array.getElem?_eq_some_iff.1 h.out).1]; exact h.out, h.hs.below hb, heap_alloc_new _ _, h.bel.trans (hb.mono h.bel.size), (Array.getElem?_eq_some_iff.1 h.out).1, h.hs.lt⟩
theorem OuR.set {W w : World} {gh : Nat} {st : S8} {D i : Nat} (h : OuR W gh st D i w) (hi : i < 32) {c : UInt8} (hc : outByte st i = c) : OuR W gh st D (i + 1) (w.setCell ⟨D, i, none⟩ (.int .u8 (c.toNat : Int))) := by
  have hf := h.far
  have ha := h.apart
  refine ⟨?_, h.hs.same (heap_setCell_other _ _ _ _ (by show gh ≠ D; omega)), ?_, h.bel.setCell (by show W.heap.size ≤ D; omega) _, hf, ha⟩
  · rw [heap_setCell_other _ _ _ _ (by show W.heap.size ≠ D; omega)]; exact h.out
  · rw [← dmix_set _ _ hi, hc]; exact heap_setCell_same _ _ _ _ _ _ h.arr

set_option maxRecDepth 100000 in
set_option maxHeartbeats 3200000 in
theorem shaR_any (s : ByteArray) (hs : s.size ≤ 100000) (w : World) :
    Calls Tryd.prog 13 #[.string s] w fun e w' => e = .returned (.agg (cellsOf (shaL s.data.toList)).toArray) ∧ Below w.heap.size w w' := by
  obtain ⟨l, hl⟩ : ∃ l, s.data.toList = l := ⟨_, rfl⟩
  have hlen : l.length = s.size := by rw [← hl, Array.length_toList]; rfl
  have hcv := fun w : World => Lib.run_convert_string_bytes (P := Tryd.prog) w 9 36 5 s Tryd.underlying9 Tryd.underlying36 Tryd.underlying5
  have hbuf := buf_bytes (w.alloc (.cells zeros32 23)) s (by unfold maxLen; omega)
  have hbel := below_bytes (w.alloc (.cells zeros32 23)) s
  rw [hl] at hbuf
  have hce : ∀ j u, (cellsOf l)[j]? = some u → (Lib.bytesWorld (w.alloc (.cells zeros32 23)) 5 s).cell? ((⟨(w.alloc (.cells zeros32 23)).heap.size, 0, none⟩ : Addr).add j) = some u := by
    intro j u hj
    have hjl : j < l.length := by
      have := (List.getElem?_eq_some_iff.1 hj).1
      rwa [cellsOf_len] at this
    have e : (⟨(w.alloc (.cells zeros32 23)).heap.size, 0, none⟩ : Addr).add j = ⟨(w.alloc (.cells zeros32 23)).heap.size, j, none⟩ := by unfold Addr.add; split <;> simp_all
    rw [e, hbuf.holds j hjl, ← hj, cellsOf, List.getElem?_map, List.getElem?_eq_getElem hjl]; rfl
  have e1 : (w.alloc (.cells zeros32 23)).heap.size = w.heap.size + 1 := by simp
  rw [e1] at hce
  have HC := Lib.hid hce
  have HB := Lib.hid hbel
  have HL := Lib.hid (And.intro hl hlen)
  clear hce hbel hbuf hl
  go_enter Tryd.func13, Tryd.ntmps13
  go_wp2_with fail
  refine (padR_any l s.size _ _ hlen (by omega) _ HC.out).mono ?_
  rintro r w1 ⟨gp, cp, rfl, hown1, hb1⟩
  have H1 : Hid (w1.heap[w.heap.size]? = some (.cells zeros32 23 (0, 0)) ∧ w1.ownsRow w.heap.size 5 1 (.slice (some ⟨gp, 0, none⟩) (padL l).length cp) (padL l).length (cellsOf (padL l)) ∧ Below w.heap.size w w1) := by
    have hB := HB.out
    have hz := hB.size
    rw [e1] at hz
    refine ⟨?_, own_mono hown1 (by omega), ?_⟩
    · rw [hb1.block _ (by omega), hB.block _ (by rw [e1]; omega)]
      exact heap_alloc_new _ _
    · exact ((((Below.refl w.heap.size w).alloc (Nat.le_refl _) _).trans (hB.mono (by rw [e1]; omega))).trans (hb1.mono (by omega)))
  clear hown1 hb1 HB HC hcv e1
  go_wp2_with fail
  refine (firstsR_any _).mono ?_
  rintro r w2 ⟨rfl, rfl⟩
  have HS : Hid (SbW w l gp cp w1.heap.size sha0 (w1.alloc (.cells (wordsV (words8 sha0)).toArray 27))) := by
    have hb : Below w1.heap.size w1 (w1.alloc (.cells (wordsV (words8 sha0)).toArray 27)) := (Below.refl _ _).alloc (Nat.le_refl _) _
    have hz := H1.out.2.2.size
    exact ⟨by rw [hb.block _ (Array.getElem?_eq_some_iff.1 H1.out.1).1]; exact H1.out.1, below_own H1.out.2.1 hb, eight_row rfl (heap_alloc_new _ _), H1.out.2.2.trans (hb.mono hz)⟩
  obtain ⟨w3, hw3⟩ : ∃ w3, w1.alloc (.cells (wordsV (words8 sha0)).toArray 27) = w3 := ⟨_, rfl⟩
  obtain ⟨gf, hgf⟩ : ∃ gf, w1.heap.size = gf := ⟨_, rfl⟩
  rw [hw3, hgf] at HS
  rw [hw3, hgf]
  clear hw3 hgf H1
  have hcap := own_cap HS.out.pad
  have hm := pad_mod l
  obtain ⟨nb, hnb⟩ : ∃ nb, (padL l).length / 64 = nb := ⟨_, rfl⟩
  rw [hnb] at hm
  have HNB := Lib.hid hnb
  clear hnb
  obtain ⟨N, hN⟩ : ∃ N, (padL l).length = N := ⟨_, rfl⟩
  have hbig : N ≤ 100200 := by
    rw [← hN, pad_len, hlen]
    unfold zerosN
    omega
  rw [hN] at hm hcap
  rw [hN]
  have HN := Lib.hid hN
  clear hN
  have hcp : N ≤ cp := hcap.1
  have hcm : cp ≤ 9223372036854775807 := by have := hcap.2; unfold maxLen at this; omega
  clear hcap
  go_wp2_with fail
  go_loopw [4, 5] (fun v i wr => ∃ k gh ch : Nat, k ≤ nb ∧ i = .int .i64 (64 * (k : Int)) ∧ v = .slice (some ⟨gh, 0, none⟩) 8 ch ∧ SbW w l gp cp gh (blocksP (padL l) sha0 k) wr) (fun _ i _ => N + 64 - (intOf i).toNat)
  case atStart => exact ⟨0, gf, 8, Nat.zero_le _, rfl, rfl, HS.out⟩
  case round =>
    clear HS
    obtain ⟨k, gh, ch, hk, rfl, rfl, H⟩ := hrel
    have HH := Lib.hid H
    clear H
    by_cases hlt : k < nb
    · have hpart := Lib.hid (HH.out.part (by rw [HNB.out]; exact hlt))
      have x1 : 64 * (k : Int) < N := by omega
      have x2 : 64 * (k : Int) + 64 ≤ cp := by omega
      have x3 : (64 * (k : Int)).toNat = 64 * k := by omega
      have x4 : (64 * (k : Int) + 64).toNat = 64 * k + 64 := by omega
      have x5 : 64 * k + 64 - 64 * k = 64 := by omega
      go_wp2_with fail
      refine (blockR_any _ _ gh ch gp (64 * k) _ _ HH.out.hs hpart.out).mono ?_
      rintro r w4 ⟨g4, c4, rfl, hown4, hb4⟩
      have H4 : Hid (SbW w l gp cp g4 (blocksP (padL l) sha0 (k + 1)) w4) := HH.out.next hb4 (eight_own rfl hown4)
      clear hown4 hb4 HH hpart x1 x2 x3 x4 x5
      go_wp2_with fail
      go_roundw
      case rel => exact ⟨k + 1, g4, c4, by omega, by go_num, rfl, H4.out⟩
      case measure => simp [intOf]; omega
    · have ek : k = nb := by omega
      have HE : Hid (cellsOf (shaL s.data.toList) = cellsOf (outL (blocksP (padL l) sha0 k))) := by
        show _ = _
        rw [HL.out.1, shaL, HNB.out, ek]
      obtain ⟨st, hst⟩ : ∃ st, blocksP (padL l) sha0 k = st := ⟨_, rfl⟩
      rw [hst] at HH HE
      have x1 : ¬ 64 * (k : Int) < N := by omega
      clear hst
      have HO := Lib.hid (OuR.start HH.out)
      go_wp2_with fail
      obtain ⟨D, hD⟩ : ∃ D, wr.heap.size = D := ⟨_, rfl⟩
      obtain ⟨w5, hw5⟩ : ∃ w5, wr.alloc (.cells zeros32 23) = w5 := ⟨_, rfl⟩
      rw [hD, hw5] at HO
      change Code.wp _ _ _ _ (wr.alloc (.cells zeros32 23))
      rw [hD, hw5]
      clear hD hw5 HH x1
      go_loopw [7] (fun i wr => ∃ j : Nat, j ≤ 32 ∧ i = .int .i64 j ∧ OuR w gh st D j wr) (fun i _ => 32 - (intOf i).toNat)
      case atStart => exact ⟨0, Nat.zero_le _, rfl, HO.out⟩
      case round =>
        clear HO
        obtain ⟨i, hi, rfl, hX⟩ := hrel
        have hO := Lib.hid hX
        clear hX
        by_cases hlt : i < 32
        · have c0 := hO.out.hs (i / 4) (by omega)
          have c1 : wr.cell? ⟨D, i, none⟩ = some ((dmix st i)[i]'(by rw [dmix_size _ _ (by omega)]; exact hlt)) := by
            rw [cell_of_row _ _ _ _ _ _ hO.out.arr]
            exact Array.getElem?_eq_getElem _
          have f1 := frozen_of_row _ _ i _ _ hO.out.arr
          have hby := outByte_is st i
          obtain ⟨x, hx⟩ : ∃ x, (words8 st).getD (i / 4) 0 = x := ⟨_, rfl⟩
          obtain ⟨c, hc⟩ : ∃ c, outByte st i = c := ⟨_, rfl⟩
          obtain ⟨v, hv⟩ : ∃ v, ((dmix st i)[i]'(by rw [dmix_size _ _ (by omega)]; exact hlt)) = v := ⟨_, rfl⟩
          rw [hx] at c0 hby
          rw [hc] at hby
          rw [hv] at c1
          have hby' := hby
          rw [IntKind.wrap_u8] at hby'
          have HC := Lib.hid hc
          clear hx hc hv
          have n4 : ((i : Int) / 4).toNat = i / 4 := by omega
          have n8 : (24 - 8 * ((i : Int) % 4)).toNat = 24 - 8 * (i % 4) := by omega
          go_wp2_with fail
          go_roundw
          case rel => exact ⟨i + 1, by omega, by go_num, hO.out.set hlt HC.out⟩
          case measure => simp [intOf]; omega
        · have ei : i = 32 := by omega
          rw [ei] at hO
          rw [show (i : Int) = 32 by omega]
          clear ei hlt hi
          have hsz := dmix_size st 32 (by omega)
          have H2 : Hid ((Tryd.prog.info? 23).map (·.size) = some (dmix st 32).size) := by
            show _ = _
            rw [hsz]; kernel_rfl
          have H3 : Hid (zeros32.size = (dmix st 32).size) := by
            show _ = _
            rw [hsz]; rfl
          have HF : Hid (dmix st 32 = (cellsOf (shaL s.data.toList)).toArray) := by
            show _ = _
            rw [dmix_end, HE.out]
          clear hsz
          go_wp2_with (first
            | refine wpList_load_row rfl 23 _ rfl D rfl 23 _ (0, 0) _ hO.out.arr Tryd.underlying23 rfl H2.out ?_
            | refine wpList_store_row rfl 23 _ _ rfl w.heap.size (dmix st 32) rfl rfl 23 _ hO.out.out H2.out H3.out (dmix_one _ _) ?_)
          exact bodyPost_ret (results_cell_row Tryd.results13 _ _ w.heap.size 23 (dmix st 32) (0, 0) _ rfl (setRow_heap _ _ _ _ _ _ hO.out.out) Tryd.underlying23 rfl H2.out) rfl ⟨by rw [HF.out], below_setRow hO.out.bel (Nat.le_refl _) _⟩
end Go.Proofs.YtddcephegpmbbaaDoor
