/- fold.Fold: the lower case of each rune is written over it, in a copy of the string's bytes. -/
import Derived.Test.YtbplbifmohbfdaaDoorBase
import Derived.BigCall
import Derived.Lib.ConvBytes
import Derived.Lib.LazyBuf
import Derived.Lib.OthersKept
namespace Go.Proofs.YtbplbifmohbfdaaDoor
open Go.ChangeShapes Go.WideShapes Go.ChangeAt Go.RowKit

/-- Block g holds the bytes l and has room for cap of them. -/
structure Buf (base : Nat) (w : World) (g cap : Nat) (l : List UInt8) : Prop where
  le : l.length ≤ cap
  max : cap ≤ maxLen
  new : base ≤ g
  lt : g < w.heap.size
  holds : ∀ j, (h : j < l.length) → w.cell? ⟨g, j, none⟩ = some (.int .u8 (l[j].toNat : Int))
  there : ∀ j, j < cap → (w.cell? ⟨g, j, none⟩).isSome = true ∧ w.frozen? ⟨g, j, none⟩ = false
theorem Buf.block {base g cap : Nat} {w w' : World} {l : List UInt8} (h : Buf base w g cap l) (hs : w.heap.size ≤ w'.heap.size) (hb : w'.heap[g]? = w.heap[g]?) : Buf base w' g cap l :=
  ⟨h.le, h.max, h.new, Nat.lt_of_lt_of_le h.lt hs, fun j hj => by rw [World.cell?_of_block (by exact hb)]; exact h.holds j hj,
   fun j hj => by rw [World.cell?_of_block (by exact hb), World.frozen?_of_block (by exact hb)]; exact h.there j hj⟩
theorem Buf.below {base g cap : Nat} {w w' : World} {l : List UInt8} (h : Buf base w g cap l) (hb : Below w.heap.size w w') : Buf base w' g cap l :=
  h.block hb.size (hb.block g h.lt)
theorem below_bytes (w : World) (s : ByteArray) : Below w.heap.size w (Lib.bytesWorld w 5 s) :=
  ⟨rfl, rfl, rfl, by rw [Lib.bytesWorld_size]; omega, fun j hj => Lib.bytesWorld_at_old w 5 s j hj⟩
theorem buf_bytes (w : World) (s : ByteArray) (hs : s.size ≤ maxLen) : Buf w.heap.size (Lib.bytesWorld w 5 s) w.heap.size (grownCap w s.size 0 5) s.data.toList := by
  have hg := grownCap_ge w s.size 0 5
  have hc : (Lib.bytesCells w 5 s).size = grownCap w s.size 0 5 := by
    unfold Lib.bytesCells
    rw [Array.size_append, Array.size_map, Array.size_replicate]
    show s.size + _ = _
    omega
  have hl : s.data.toList.length = s.size := by rw [Array.length_toList]; rfl
  refine ⟨by rw [hl]; exact hg, grownCap_le_maxLen _ _ _ _ hs, Nat.le_refl _, by rw [Lib.bytesWorld_size]; omega, fun j hj => ?_, fun j hj => ?_⟩
  · rw [Lib.bytesWorld_cell w 5 s j (by omega), List.getD_eq_getElem?_getD, List.getElem?_eq_getElem hj]; rfl
  · have hn := Lib.bytesWorld_at_new w 5 s
    constructor
    · rw [cell_of_row _ _ j _ _ _ hn, Array.getElem?_eq_getElem (by omega)]; rfl
    · simp only [World.frozen?, hn, hc]
      simp; omega
theorem byteCells_len (l : List UInt8) : (Lib.byteCells l).length = l.length := Lib.byteCells_length l
/-- Bytes written over as many. -/
theorem Buf.put {base g cap : Nat} {w : World} {D x R : List UInt8} (h : Buf base w g cap (D ++ (x ++ R))) (y : List UInt8) (hy : y.length = x.length) :
    Buf base (w.setCells g D.length (Lib.byteCells y)) g cap (D ++ (y ++ R)) := by
  have hlen : (D ++ (y ++ R)).length = (D ++ (x ++ R)).length := by simp [hy]
  have hbl := byteCells_len y
  have hle := h.le
  simp only [List.length_append] at hle
  have hsz : (w.setCells g D.length (Lib.byteCells y)).heap.size = w.heap.size := by
    have : ∀ (vs : List Value) (o : Nat) (w : World), (w.setCells g o vs).heap.size = w.heap.size := by
      intro vs
      induction vs with
      | nil => intro o w; rfl
      | cons v r ih => intro o w; rw [World.setCells, ih]; simp [World.setCell]
    exact this _ _ _
  have hin := World.cell?_setCells_in g (Lib.byteCells y) D.length w (fun j hj => (h.there (D.length + j) (by omega)).1)
  refine ⟨by rw [hlen]; exact h.le, h.max, h.new, by rw [hsz]; exact h.lt, fun j hj => ?_, fun j hj => ?_⟩
  · by_cases c1 : j < D.length
    · rw [World.cell?_setCells_out g _ _ _ _ (fun _ _ => .inl c1), h.holds j (by rw [← hlen]; exact hj), List.getElem_append_left c1, List.getElem_append_left c1]
    · by_cases c2 : j < D.length + y.length
      · obtain ⟨k, rfl⟩ : ∃ k, j = D.length + k := ⟨j - D.length, by omega⟩
        rw [hin k (by rw [hbl]; omega), List.getElem_append_right (by omega)]
        simp only [Nat.add_sub_cancel_left]
        rw [List.getElem_append_left (by omega)]
        simp [Lib.byteCells]
      · rw [World.cell?_setCells_out g _ _ _ _ (fun _ _ => .inr (by rw [hbl]; simp only; omega)), h.holds j (by rw [← hlen]; exact hj), List.getElem_append_right (by omega), List.getElem_append_right (by omega), List.getElem_append_right (by omega), List.getElem_append_right (by omega)]
        congr 2
        simp only [hy]
  · rw [World.frozen?_setCells]
    refine ⟨?_, (h.there j hj).2⟩
    by_cases c1 : D.length ≤ j ∧ j < D.length + y.length
    · obtain ⟨k, rfl⟩ : ∃ k, j = D.length + k := ⟨j - D.length, by omega⟩
      rw [hin k (by rw [hbl]; omega)]; rfl
    · rw [World.cell?_setCells_out g _ _ _ _ (fun _ _ => by rw [hbl]; simp only; omega)]
      exact (h.there j hj).1
theorem heap_setCells {g : Nat} (vs : List Value) (o : Nat) (w : World) (k : Nat) (hk : k ≠ g) : (w.setCells g o vs).heap[k]? = w.heap[k]? := by
  induction vs generalizing o w with
  | nil => rfl
  | cons v r ih =>
    rw [World.setCells, ih]
    exact Below.heap_setCell _ _ _ _ hk
theorem low_bad : lowN 65533 = 65533 := by decide
theorem decode_cases (s : ByteArray) (pos : Nat) (h : pos < s.size) : (∃ n t, cpB n = true ∧ s.data.toList.drop pos = encL n ++ t ∧ Utf8.decode s pos = (n, (encL n).length) ∧ s.data.toList.drop (pos + (encL n).length) = t) ∨
    (∃ b t, firstS (b :: t) = none ∧ s.data.toList.drop pos = b :: t ∧ Utf8.decode s pos = (65533, 1) ∧ s.data.toList.drop (pos + 1) = t) := by
  have hsz : s.data.toList.length = s.size := by rw [Array.length_toList]; rfl
  have hne : s.data.toList.drop pos ≠ [] := by
    intro e
    have := congrArg List.length e
    rw [List.length_drop, hsz, List.length_nil] at this
    omega
  have hd := Lib.decodeL_drop s pos
  cases hf : firstS (s.data.toList.drop pos) with
  | some n =>
    obtain ⟨hc, t, ht⟩ := first_some' hf
    refine .inl ⟨n, t, hc, ht, by rw [← hd]; exact decode_some hf, ?_⟩
    rw [← List.drop_drop, ht, List.drop_left]
  | none =>
    cases hl : s.data.toList.drop pos with
    | nil => exact absurd hl hne
    | cons b t =>
      refine .inr ⟨b, t, by rw [← hl]; exact hf, rfl, by rw [← hd]; exact decode_none hne hf, ?_⟩
      rw [← List.drop_drop, hl]; rfl
set_option maxHeartbeats 4000000 in
set_option maxRecDepth 1000000 in
theorem fold_any (s : ByteArray) (hs : s.size ≤ 1000000) (w : World) (hv : Vars w) :
    Calls Tryd.prog 12 #[.string s] w fun e w' => e = .returned (.string ⟨(foldL s.data.toList).toArray⟩) ∧ Below w.heap.size w w' := by
  obtain ⟨ANS, hA⟩ : ∃ z, foldL s.data.toList = z := ⟨_, rfl⟩
  have hAl : ANS.length = s.size := by rw [← hA, fold_len, Array.length_toList]; rfl
  rw [hA]
  have HA := Lib.hid hA
  clear hA
  have hcv := fun w : World => Lib.run_convert_string_bytes (P := Tryd.prog) w 9 40 5 s Tryd.underlying9 Tryd.underlying40 Tryd.underlying5
  have hb0 := buf_bytes w s (by unfold maxLen; omega)
  have hbel0 := below_bytes w s
  obtain ⟨CAP, hCAP⟩ : ∃ c, grownCap w s.size 0 5 = c := ⟨_, rfl⟩
  have hcap0 : s.size ≤ CAP := by rw [← hCAP]; exact grownCap_ge w s.size 0 5
  go_enter Tryd.func12, Tryd.ntmps12
  go_wp2_with fail
  rw [hCAP] at hb0
  obtain ⟨W1, hW1⟩ : ∃ W, Lib.bytesWorld w 5 s = W := ⟨_, rfl⟩
  rw [hW1] at hb0 hbel0 ⊢
  have hG1 : w.heap.size < W1.heap.size := hb0.lt
  clear hW1 hcv hCAP
  go_loopw [] (fun wr => ∃ (pos : Nat) (D : List UInt8), pos ≤ s.size ∧ D.length = pos ∧ Buf w.heap.size wr w.heap.size CAP (D ++ s.data.toList.drop pos) ∧ wr.heap[W1.heap.size]? = some (.stringIter s pos) ∧ Below w.heap.size w wr ∧ Hid (D ++ foldL (s.data.toList.drop pos) = ANS)) (fun wr => s.size - wr.iterPos W1.heap.size)
  case atStart =>
    refine ⟨0, [], Nat.zero_le _, rfl, ?_, World.iter_heap W1 s 0, hbel0.alloc hbel0.size _, ?_⟩
    · rw [List.drop_zero, List.nil_append]
      exact hb0.below ((Below.refl _ W1).alloc (Nat.le_refl _) _)
    · rw [List.drop_zero, List.nil_append]; exact HA
  case round =>
    obtain ⟨pos, D, hp, hD, hB, hit, hbw, HK⟩ := hrel
    clear hb0
    have hszr : w.heap.size ≤ wr.heap.size := hbw.size
    by_cases hlt : pos < s.size
    · have hnx : ∀ ty, (Instr.next (.pointer (some ⟨W1.heap.size, 0, none⟩)) true ty).run Tryd.prog wr = _ := fun ty => Lib.run_next_any_at wr W1.heap.size s pos ty hit hlt
      have hwd := width_at s pos hlt
      have hd1 := decode_le s pos
      have hG : w.heap.size < wr.heap.size := hB.lt
      have hK : W1.heap.size < wr.heap.size := (Array.getElem?_eq_some_iff.1 hit).1
      have hcases := decode_cases s pos hlt
      obtain ⟨⟨N, L⟩, hdec⟩ : ∃ p, Utf8.decode s pos = p := ⟨_, rfl⟩
      rw [hdec] at hnx hwd hd1 hcases
      simp only at hnx hwd hd1 hcases
      have hbw2 := Lib.below_iterAt hbw (k := W1.heap.size) (by omega) s (pos + L)
      have hit2 := Lib.iterAt_heap wr W1.heap.size s pos (pos + L) hit
      have hB2 : Buf w.heap.size (wr.iterAt W1.heap.size s (pos + L)) w.heap.size CAP (D ++ s.data.toList.drop pos) := hB.block (by rw [Lib.iterAt_size]; exact Nat.le_refl _) (Lib.iterAt_other wr _ _ s _ (by omega))
      have hv2 : Vars (wr.iterAt W1.heap.size s (pos + L)) := hv.below hbw2
      have hszi : (wr.iterAt W1.heap.size s (pos + L)).heap.size = wr.heap.size := Lib.iterAt_size wr _ s _
      have hN : N ≤ 1114111 := by
        rcases hcases with ⟨n, t, hc, ht, he, hr⟩ | ⟨b, t, hf, ht, he, hr⟩
        · simp only [Prod.mk.injEq] at he
          have := (cp_iff n).1 hc
          omega
        · simp only [Prod.mk.injEq] at he
          omega
      have HC := Lib.hid hcases
      have hit0 := Lib.hid hit
      clear hcases hB hit hdec
      obtain ⟨wi, hwi⟩ : ∃ W, wr.iterAt W1.heap.size s (pos + L) = W := ⟨_, rfl⟩
      rw [hwi] at hnx hbw2 hit2 hB2 hv2 hszi
      have cL := lower_any N hN wi hv2
      by_cases hlow : lowN N = N
      · rw [hlow] at cL
        go_wp2_with (go_at_call 25; refine cL.mono ?_; rintro e W2 ⟨rfl, hb2⟩)
        go_roundw
        case rel =>
          have hit3 : W2.heap[W1.heap.size]? = some (.stringIter s (pos + L)) := by rw [hb2.block _ (by omega)]; exact hit2
          rcases HC.out with ⟨n, t, hc, ht, he, hr⟩ | ⟨b, t, hf, ht, he, hr⟩
          · simp only [Prod.mk.injEq] at he
            obtain ⟨rfl, rfl⟩ := he
            refine ⟨pos + (encL N).length, D ++ encL N, hwd.2, by simp [hD], ?_, hit3, hbw2.trans (hb2.mono (by omega)), Lib.hid ?_⟩
            · rw [hr, List.append_assoc, ← ht]; exact hB2.below hb2
            · have := HK.out
              rw [ht, fold_enc hc, hlow] at this
              rw [hr, List.append_assoc]; exact this
          · simp only [Prod.mk.injEq] at he
            obtain ⟨rfl, rfl⟩ := he
            refine ⟨pos + 1, D ++ [b], hwd.2, by simp [hD], ?_, hit3, hbw2.trans (hb2.mono (by omega)), Lib.hid ?_⟩
            · rw [hr, List.append_assoc, List.singleton_append, ← ht]; exact hB2.below hb2
            · have := HK.out
              rw [ht, fold_none hf] at this
              rw [hr, List.append_assoc]; exact this
        case measure =>
          have hit3 : W2.heap[W1.heap.size]? = some (.stringIter s (pos + L)) := by rw [hb2.block _ (by omega)]; exact hit2
          simp only [World.iterPos, hit3, hit0.out]
          omega
      · have hne : ¬ ((lowN N : Nat) : Int) = (N : Int) := by omega
        have hlo : lowN N ≤ 1114111 := by
          rcases Nat.lt_or_ge N 2048 with h | h
          · have := (low_small ⟨N, h⟩).2.1
            simp only at this
            omega
          · rw [low_big h] at hlow; exact absurd rfl hlow
        have hcp : cpB N = true ∧ L = (encL N).length := by
          rcases HC.out with ⟨n, t, hc, ht, he, hr⟩ | ⟨b, t, hf, ht, he, hr⟩
          · simp only [Prod.mk.injEq] at he
            obtain ⟨rfl, rfl⟩ := he
            exact ⟨hc, rfl⟩
          · simp only [Prod.mk.injEq] at he
            obtain ⟨rfl, rfl⟩ := he
            exact absurd low_bad hlow
        have hcells : Lib.runeCells ((lowN N : Nat) : Int) = Lib.byteCells (encL (lowN N)) := by
          rw [← Lib.byteCells_encodeRune, encR_eq (low_cp hcp.1)]
        have hlen : (Lib.runeCells ((lowN N : Nat) : Int)).length = L := by rw [hcells, byteCells_len, low_len, hcp.2]
        have HH := Lib.hid (And.intro hcp hcells)
        clear hcp hcells
        go_wp2_with (first
          | (go_at_call 25; refine cL.mono ?_; rintro e W2 ⟨rfl, hb2⟩; have hB3 := hB2.below hb2)
          | (go_at_call 26; refine (Tryd.utf8_EncodeRune w.heap.size pos (s.size - pos) (CAP - pos) ((lowN N : Nat) : Int) (by omega) (by omega) W2 (by rw [hlen]; omega) (fun j hj => (hB3.there (pos + j) (by omega)).1) (fun j hj => (hB3.there (pos + j) (by omega)).2)).mono ?_; rintro e W3 ⟨rfl, rfl⟩))
        go_roundw
        case rel =>
          have hit3 : (W2.setCells w.heap.size pos (Lib.runeCells ((lowN N : Nat) : Int))).heap[W1.heap.size]? = some (.stringIter s (pos + L)) := by rw [heap_setCells _ _ _ _ (by omega), hb2.block _ (by omega)]; exact hit2
          have hbw3 : Below w.heap.size w (W2.setCells w.heap.size pos (Lib.runeCells ((lowN N : Nat) : Int))) := below_setCells (Nat.le_refl _) _ _ _ (hbw2.trans (hb2.mono (by omega)))
          rcases HC.out with ⟨n, t, hc, ht, he, hr⟩ | ⟨b, t, hf, ht, he, hr⟩
          · simp only [Prod.mk.injEq] at he
            obtain ⟨rfl, rfl⟩ := he
            refine ⟨pos + (encL N).length, D ++ encL (lowN N), hwd.2, by rw [List.length_append, hD, low_len], ?_, hit3, hbw3, Lib.hid ?_⟩
            · rw [ht] at hB3
              have := hB3.put (encL (lowN N)) (low_len N)
              rw [hD, ← HH.out.2] at this
              rw [hr, List.append_assoc]; exact this
            · have := HK.out
              rw [ht, fold_enc hc] at this
              rw [hr, List.append_assoc]; exact this
          · simp only [Prod.mk.injEq] at he
            obtain ⟨rfl, rfl⟩ := he
            exact absurd low_bad hlow
        case measure =>
          have hit3 : (W2.setCells w.heap.size pos (Lib.runeCells ((lowN N : Nat) : Int))).heap[W1.heap.size]? = some (.stringIter s (pos + L)) := by rw [heap_setCells _ _ _ _ (by omega), hb2.block _ (by omega)]; exact hit2
          simp only [World.iterPos, hit3, hit0.out]
          omega
    · have hnx : ∀ ty, (Instr.next (.pointer (some ⟨W1.heap.size, 0, none⟩)) true ty).run Tryd.prog wr = _ := fun ty => Lib.run_next_end_at wr W1.heap.size s pos ty hit hlt
      have hps : pos = s.size := by omega
      have hend : D = ANS := by
        have := HK.out
        rw [List.drop_eq_nil_of_le (by rw [Array.length_toList]; exact (show s.data.size ≤ pos by rw [hps]; exact Nat.le_refl _)), fold_nil, List.append_nil] at this
        exact this
      subst hend
      have hcb : (convert 40 9 (.slice (some ⟨w.heap.size, 0, none⟩) s.size CAP)).run Tryd.prog wr = .ok (.string ⟨D.toArray⟩) wr := by
        have := run_convert_bytes_back (P := Tryd.prog) wr 40 9 5 ⟨w.heap.size, 0, none⟩ CAP D Tryd.underlying40 Tryd.underlying5 Tryd.underlying9 (fun j hj => by
          have h1 := hB.holds j (by rw [List.length_append]; omega)
          rw [List.getElem_append_left hj] at h1
          have e : (⟨w.heap.size, 0, none⟩ : Addr).add j = ⟨w.heap.size, j, none⟩ := by unfold Addr.add; split <;> simp_all
          rw [e]; exact h1)
        rw [hAl] at this
        exact this
      go_wp2_with fail
      go_ret
      exact ⟨rfl, hbw⟩
end Go.Proofs.YtbplbifmohbfdaaDoor
