/- The reference's Read. -/
import Derived.Test.YtddcephegpmbbaaDoorRefA
namespace Go.Proofs.YtddcephegpmbbaaDoor
open Go.ChangeShapes Go.WideShapes Go.ChangeAt Go.RowKit

theorem lowD_dig {c : Nat} (h : lowD c < 16) : dig c = lowD c := by
  unfold lowD at h ⊢
  unfold dig
  by_cases h1 : 48 ≤ c ∧ c ≤ 57
  · rw [if_pos h1, if_pos h1]
  · by_cases h2 : 97 ≤ c ∧ c ≤ 102
    · rw [if_neg h1, if_neg h1, if_pos h2, if_pos h2]; omega
    · rw [if_neg h1, if_neg h2] at h; omega
theorem hexD_lowD : ∀ c : Fin 256, lowD c.val < 16 → hexD (lowD c.val) = UInt8.ofNat c.val := by decide +kernel
theorem lowD_hexD : ∀ n : Fin 16, lowD (hexD n.val).toNat = n.val := by decide +kernel
theorem lowD_le (c : Nat) : lowD c ≤ 16 := by
  unfold lowD
  (repeat' split) <;> omega
/-- May l be read? -/
def lowOk (l : List UInt8) : Prop := l.length = 64 ∧ ∀ t, t < 64 → lowD (l.getD t 0).toNat < 16
/-- Byte number t behind i digits. -/
def rcell (l : List UInt8) (i t : Nat) : UInt8 :=
  if 2 * t + 1 < i then UInt8.ofNat (16 * lowD (l.getD (2 * t) 0).toNat + lowD (l.getD (2 * t + 1) 0).toNat)
  else if 2 * t < i then UInt8.ofNat (lowD (l.getD (2 * t) 0).toNat) else 0
def rmix (l : List UInt8) (i : Nat) : List UInt8 := (List.range 32).map (rcell l i)
theorem rmix_len (l : List UInt8) (i : Nat) : (rmix l i).length = 32 := by simp [rmix]
theorem rmix_zero (l : List UInt8) : rmix l 0 = List.replicate 32 0 := rfl
theorem rmix_get (l : List UInt8) (i t : Nat) (h : t < 32) : (rmix l i).getD t 0 = rcell l i t := by
  rw [List.getD_eq_getElem?_getD, rmix, List.getElem?_map, List.getElem?_range h]; rfl
theorem ext_getD {a b : List UInt8} (hl : a.length = b.length) (h : ∀ j, j < a.length → a.getD j 0 = b.getD j 0) : a = b := by
  refine List.ext_getElem hl fun j h1 h2 => ?_
  have := h j h1
  rwa [List.getD_eq_getElem?_getD, List.getD_eq_getElem?_getD, List.getElem?_eq_getElem h1, List.getElem?_eq_getElem h2] at this
theorem lowOk_read {l : List UInt8} (h : lowOk l) : readOk l = true ∧ readL l = rmix l 64 := by
  have hd : ∀ t, t < 64 → dig (l.getD t 0).toNat = lowD (l.getD t 0).toNat := fun t ht => lowD_dig (h.2 t ht)
  have hu : unhexOk l = true := unhexOk_all (by rw [h.1]) (fun t ht => by
    rw [h.1] at ht
    rw [hd t ht]; exact h.2 t ht)
  have hs : unhexS l = rmix l 64 := by
    rw [unhexS, if_pos hu, h.1]
    unfold bytesTo rmix
    refine List.map_congr_left fun t ht => ?_
    have ht2 := List.mem_range.1 ht
    unfold byteAt rcell
    rw [if_pos (by omega), hd _ (by omega), hd _ (by omega)]
  have hx : hexL (rmix l 64) = l := by
    refine ext_getD (by rw [hexL_length, rmix_len, h.1]) fun j hj => ?_
    rw [hexL_length, rmix_len] at hj
    obtain ⟨t, ht, hjt⟩ : ∃ t, t < 32 ∧ (j = 2 * t ∨ j = 2 * t + 1) := ⟨j / 2, by omega, by omega⟩
    have hlt : t < (rmix l 64).length := by rw [rmix_len]; omega
    obtain ⟨e1, e2⟩ := hexL_at (rmix l 64) t hlt
    have ev : (rmix l 64)[t] = UInt8.ofNat (16 * lowD (l.getD (2 * t) 0).toNat + lowD (l.getD (2 * t + 1) 0).toNat) := by
      have := rmix_get l 64 t ht
      rw [List.getD_eq_getElem?_getD, List.getElem?_eq_getElem hlt] at this
      rw [show (rmix l 64)[t] = rcell l 64 t from this, rcell, if_pos (by omega)]
    have p := h.2 (2 * t) (by omega)
    have q := h.2 (2 * t + 1) (by omega)
    have en : (rmix l 64)[t].toNat = 16 * lowD (l.getD (2 * t) 0).toNat + lowD (l.getD (2 * t + 1) 0).toNat := by
      rw [ev, UInt8.toNat_ofNat']; omega
    have k : ∀ c : UInt8, lowD c.toNat < 16 → hexD (lowD c.toNat) = c := fun c hc => by
      have := hexD_lowD ⟨c.toNat, c.toNat_lt⟩ hc
      rw [this]; simp
    rcases hjt with rfl | rfl
    · rw [e1, en, show (16 * lowD (l.getD (2 * t) 0).toNat + lowD (l.getD (2 * t + 1) 0).toNat) / 16 = lowD (l.getD (2 * t) 0).toNat by omega]
      exact k _ p
    · rw [e2, en, show (16 * lowD (l.getD (2 * t) 0).toNat + lowD (l.getD (2 * t + 1) 0).toNat) % 16 = lowD (l.getD (2 * t + 1) 0).toNat by omega]
      exact k _ q
  have hok : readOk l = true := by
    unfold readOk
    rw [hu, hs, copy_full (rmix_len l 64), hx]; simp
  refine ⟨hok, ?_⟩
  unfold readL
  rw [if_pos hok, hs, copy_full (rmix_len l 64)]
theorem readOk_low {l : List UInt8} (h : readOk l = true) : lowOk l := by
  have e := hex_readL h
  have hn : l.length = 64 := by rw [← e, hexL_length, read_len]
  refine ⟨hn, fun t ht => ?_⟩
  have hlt : t / 2 < (readL l).length := by rw [read_len]; omega
  obtain ⟨e1, e2⟩ := hexL_at (readL l) (t / 2) hlt
  rw [e] at e1 e2
  have hc := (readL l)[t / 2].toNat_lt
  have k1 := lowD_hexD ⟨(readL l)[t / 2].toNat / 16, by omega⟩
  have k2 := lowD_hexD ⟨(readL l)[t / 2].toNat % 16, by omega⟩
  rcases (show t = 2 * (t / 2) ∨ t = 2 * (t / 2) + 1 by omega) with hh | hh
  · rw [hh, e1]
    show lowD (hexD _).toNat < 16
    rw [show lowD (hexD ((readL l)[t / 2].toNat / 16)).toNat = (readL l)[t / 2].toNat / 16 from k1]; omega
  · rw [hh, e2]
    show lowD (hexD _).toNat < 16
    rw [show lowD (hexD ((readL l)[t / 2].toNat % 16)).toNat = (readL l)[t / 2].toNat % 16 from k2]; omega
theorem low_no {l : List UInt8} (h : ¬ lowOk l) : readOk l = false ∧ readL l = List.replicate 32 0 := by
  have h2 : readOk l = false := by
    rw [Bool.eq_false_iff]
    intro h3
    exact h (readOk_low h3)
  exact ⟨h2, readL_no h2⟩

theorem set_range {f g : Nat → UInt8} {n k : Nat} {c : UInt8} (h : ∀ t, t < n → g t = if t = k then c else f t) : ((List.range n).map f).set k c = (List.range n).map g := by
  refine List.ext_getElem? fun t => ?_
  by_cases ht : t < n
  · rw [List.getElem?_set, List.getElem?_map, List.getElem?_map, List.getElem?_range ht]
    simp only [List.length_map, List.length_range, Option.map_some, h t ht]
    by_cases e : k = t
    · subst e
      rw [if_pos rfl, if_pos ht, if_pos rfl]
    · rw [if_neg e, if_neg (fun q => e q.symm)]
  · rw [List.getElem?_eq_none (by simp; omega), List.getElem?_eq_none (by simp; omega)]
theorem rmix_set (l : List UInt8) (i : Nat) (_h : i < 64) : (cellsOf (rmix l i)).toArray.setIfInBounds (i / 2) (.int .u8 ((rcell l (i + 1) (i / 2)).toNat : Int)) = (cellsOf (rmix l (i + 1))).toArray := by
  have hs : (rmix l i).set (i / 2) (rcell l (i + 1) (i / 2)) = rmix l (i + 1) := by
    unfold rmix
    refine set_range fun t _ => ?_
    by_cases e : t = i / 2
    · rw [if_pos e, e]
    · rw [if_neg e]
      unfold rcell
      by_cases h1 : 2 * t + 1 < i
      · rw [if_pos (by omega), if_pos h1]
      · by_cases h2 : 2 * t < i
        · exact absurd (show t = i / 2 by omega) e
        · rw [if_neg (by omega), if_neg (by omega), if_neg h1, if_neg h2]
  rw [← hs]
  unfold cellsOf
  rw [List.setIfInBounds_toArray, List.map_set]
theorem rcell_step (l : List UInt8) (i : Nat) (_h : i < 64) (_hd : lowD (l.getD i 0).toNat < 16) : (16 * (rcell l i (i / 2)).toNat + lowD (l.getD i 0).toNat) % 256 = (rcell l (i + 1) (i / 2)).toNat := by
  unfold rcell
  rcases (show i = 2 * (i / 2) ∨ i = 2 * (i / 2) + 1 by omega) with e | e
  · rw [if_neg (by omega), if_neg (by omega), if_neg (by omega), if_pos (by omega), ← e, UInt8.toNat_ofNat']
    show (16 * 0 + _) % 256 = _
    omega
  · rw [if_neg (by omega), if_pos (by omega), if_pos (by omega), UInt8.toNat_ofNat', UInt8.toNat_ofNat', ← e]
    omega
theorem RdW.set {W w : World} {a d : Array Value} (h : RdW W a d w) (k : Nat) (v : Value) : RdW W a (d.setIfInBounds k v) (w.setCell ⟨W.heap.size + 1, k, none⟩ v) := by
  refine ⟨?_, heap_setCell_same _ _ _ _ _ _ h.tmp, h.bel.setCell (by show W.heap.size ≤ W.heap.size + 1; omega) _⟩
  rw [heap_setCell_other _ _ _ _ (by simp)]
  exact h.out

set_option maxHeartbeats 1600000 in
theorem readR_any (s : ByteArray) (_hs : s.size ≤ 9223372036854775807) (w : World) :
    Calls Tryd.prog 9 #[.string s] w fun e w' => e = .returned (.tuple #[.agg (cellsOf (readL s.data.toList)).toArray, .bool (readOk s.data.toList)]) ∧ Below w.heap.size w w' := by
  have hR := Lib.hid (RdW.start w _ (Below.refl _ ((w.alloc (.cells zeros32 23)).alloc (.cells zeros32 23))))
  have hlen : s.data.toList.length = s.size := by rw [Array.length_toList]; rfl
  by_cases hl : s.size = 64
  · have HL := Lib.hid (And.intro hlen hl)
    clear hlen
    go_enter Tryd.func9, Tryd.ntmps9
    go_wp2_with fail
    go_loopw [5] (fun i wr => ∃ k : Nat, k ≤ 64 ∧ i = .int .i64 k ∧ RdW w zeros32 (cellsOf (rmix s.data.toList k)).toArray wr ∧ Hid (∀ t, t < k → lowD (s.data.toList.getD t 0).toNat < 16)) (fun i _ => 64 - (intOf i).toNat)
    case atStart => exact ⟨0, Nat.zero_le _, rfl, hR.out, fun t ht => absurd ht (Nat.not_lt_zero t)⟩
    case round =>
      clear hR
      obtain ⟨k, hk, rfl, H, HE⟩ := hrel
      have HH := Lib.hid H
      clear H
      by_cases hlt : k < 64
      · have hks : k < s.size := by omega
        have hb := getD_byte s k hks
        have HD := Lib.hid (fun w => digitR_any s[k].toNat s[k].toNat_lt w)
        have hc := s[k].toNat_lt
        obtain ⟨c, hcc⟩ : ∃ c, s[k] = c := ⟨_, rfl⟩
        by_cases hd : lowD c.toNat < 16
        · have hcell := cell_byte (rmix_len s.data.toList k) HH.out.tmp (show k / 2 < 32 by omega)
          rw [rmix_get _ _ _ (by omega)] at hcell
          have hfz := frozen_of_row _ _ (k / 2) _ _ HH.out.tmp
          have hstep := rcell_step s.data.toList k hlt (by rw [hb, hcc]; exact hd)
          rw [hb, hcc] at hstep
          have HW := Lib.hid (HH.out.set (k / 2) (.int .u8 ((rcell s.data.toList (k + 1) (k / 2)).toNat : Int)))
          have HN : Hid (∀ t, t < k + 1 → lowD (s.data.toList.getD t 0).toNat < 16) := fun t ht => by
            by_cases e : t = k
            · rw [e, hb, hcc]; exact hd
            · exact HE.out t (by omega)
          have HS := Lib.hid (rmix_set s.data.toList k hlt)
          rw [hcc] at HD
          obtain ⟨n, hn⟩ : ∃ n, lowD c.toNat = n := ⟨_, rfl⟩
          obtain ⟨x, hx⟩ : ∃ x, rcell s.data.toList k (k / 2) = x := ⟨_, rfl⟩
          obtain ⟨y, hy⟩ : ∃ y, rcell s.data.toList (k + 1) (k / 2) = y := ⟨_, rfl⟩
          rw [hn] at HD hd hstep
          rw [hx] at hcell hstep
          rw [hy] at hstep HW HS
          clear hn hx hy HE hb
          have hv : (16 * (x.toNat : Int) % 256 + (n : Int)) % 256 = (y.toNat : Int) := by omega
          have hv2 : (16 * (x.toNat : Int) + (n : Int)) % 256 = (y.toNat : Int) := by omega
          have hv3 : 16 * (x.toNat : Int) % 256 + (n : Int) = (y.toNat : Int) := by omega
          have hn0 : (n : Int) % 256 = n := by omega
          have hn1 : ((n : Int) == 16) = false := by rw [beq_eq_false_iff_ne]; omega
          have n2 : ((k : Int) / 2).toNat = k / 2 := by omega
          go_wp2_with (go_at_call 19; (with_reducible refine (HD.out _).mono ?_); rintro e w' ⟨rfl, rfl⟩)
          go_roundw
          case rel => exact ⟨k + 1, by omega, by go_num, by have h := HW.out; rw [HS.out] at h; exact h, HN⟩
          case measure => simp [intOf]; omega
        · have h16 : lowD c.toNat = 16 := by have := lowD_le c.toNat; omega
          have hno : Hid (readOk s.data.toList = false ∧ readL s.data.toList = List.replicate 32 0) := low_no fun h => by
            have := h.2 k hlt
            rw [hb, hcc] at this
            exact hd this
          rw [hcc, h16] at HD
          clear HE hb hd
          go_wp2_with (first
            | (go_at_call 19; (with_reducible refine (HD.out _).mono ?_); rintro e w' ⟨rfl, rfl⟩)
            | refine wpList_store_row rfl 23 _ _ rfl w.heap.size zeros32 rfl rfl 23 _ HH.out.out zeros_size rfl zeros_one ?_)
          exact bodyPost_ret (results_cell_row2 Tryd.results9 _ _ w.heap.size 23 zeros32 (0, 0) _ (.bool false) rfl rfl (setRow_heap _ _ _ _ _ _ HH.out.out) Tryd.underlying23 rfl zeros_size) rfl ⟨by rw [hno.out.1, hno.out.2]; rfl, below_setRow HH.out.bel (Nat.le_refl _) _⟩
      · have ek : k = 64 := by omega
        have hyes : Hid (readOk s.data.toList = true ∧ readL s.data.toList = rmix s.data.toList 64) := lowOk_read ⟨by rw [HL.out.1, HL.out.2], fun t ht => HE.out t (by omega)⟩
        rw [ek] at HH
        rw [show (k : Int) = 64 by omega]
        clear HE ek hlt hk
        obtain ⟨m, hm⟩ : ∃ m, rmix s.data.toList 64 = m := ⟨_, rfl⟩
        have hml : m.length = 32 := by rw [← hm]; exact rmix_len _ _
        rw [hm] at HH hyes
        clear hm
        have hz := Lib.hid (cells_size hml)
        have hq : Hid (zeros32.size = (cellsOf m).toArray.size) := by
          show 32 = _
          rw [List.size_toArray, cellsOf_len, hml]
        go_wp2_with (first
          | refine wpList_load_row rfl 23 _ rfl (w.heap.size + 1) rfl 23 _ (0, 0) _ HH.out.tmp Tryd.underlying23 rfl hz.out ?_
          | refine wpList_store_row rfl 23 _ _ rfl w.heap.size (cellsOf m).toArray rfl rfl 23 _ HH.out.out hz.out hq.out (cells_one _) ?_)
        exact bodyPost_ret (results_cell_row2 Tryd.results9 _ _ w.heap.size 23 (cellsOf m).toArray (0, 0) _ (.bool true) rfl rfl (setRow_heap _ _ _ _ _ _ HH.out.out) Tryd.underlying23 rfl hz.out) rfl ⟨by rw [hyes.out.1, hyes.out.2], below_setRow HH.out.bel (Nat.le_refl _) _⟩
  · have hno : Hid (readOk s.data.toList = false ∧ readL s.data.toList = List.replicate 32 0) := low_no fun h => hl (by rw [← hlen]; exact h.1)
    have hn1 : ((s.size : Int) != 64) = true := by rw [bne_iff_ne]; omega
    clear hlen
    go_enter Tryd.func9, Tryd.ntmps9
    go_wp2_with (refine wpList_store_row rfl 23 _ _ rfl w.heap.size zeros32 rfl rfl 23 _ hR.out.out zeros_size rfl zeros_one ?_)
    exact bodyPost_ret (results_cell_row2 Tryd.results9 _ _ w.heap.size 23 zeros32 (0, 0) _ (.bool false) rfl rfl (setRow_heap _ _ _ _ _ _ hR.out.out) Tryd.underlying23 rfl zeros_size) rfl ⟨by rw [hno.out.1, hno.out.2]; rfl, below_setRow hR.out.bel (Nat.le_refl _) _⟩
end Go.Proofs.YtddcephegpmbbaaDoor
