/- charset.Runes: the code points of a string, into a slice that has room for all. -/
import Derived.Test.YtbmnoneeialfpaaDoorBase
import Derived.BigCall
import Derived.Laws.OwnMore
namespace Go.Proofs.YtbmnoneeialfpaaDoor
open Go.ChangeShapes Go.WideShapes Go.ChangeAt Go.RowKit

theorem info3 : (Tryd.prog.info? 3).map (fun i => (i.zero, i.size, i.bytes)) = some (some (.int .i64 0), 1, 8) := by kernel_rfl
def intsOf (l : List Nat) : List Value := l.map fun n : Nat => Value.int .i64 (n : Int)
theorem ints_one (l : List Nat) : ∀ u ∈ intsOf l, u.oneCell' = true := by
  intro u hu
  obtain ⟨c, _, rfl⟩ := List.mem_map.1 hu
  rfl
theorem add_none (g i j : Nat) : (⟨g, i, none⟩ : Addr).add j = ⟨g, i + j, none⟩ := by unfold Addr.add; split <;> simp_all
theorem ints_new (w : World) (l : List Nat) : ∀ j u, (intsOf l)[j]? = some u → (w.alloc (.cells (intsOf l).toArray 3)).cell? ((⟨w.heap.size, 0, none⟩ : Addr).add j) = some u := by
  intro j u h
  rw [add_none, Nat.zero_add]
  have := Go.heap_alloc_new w (.cells (intsOf l).toArray 3)
  simp only [World.cell?, this]
  simpa using h
theorem own_iterAt {w : World} {base : Nat} {e : TypeId} {size : Nat} {v : Value} {n : Nat} {xs : List Value} (h : w.ownsRow base e size v n xs) (k : Nat) (hk : v.ownBlock ≠ some k) (s : ByteArray) (pos : Nat) :
    (w.iterAt k s pos).ownsRow base e size v n xs :=
  h.kept (row := some k) ⟨rfl, rfl, rfl, by rw [Lib.iterAt_size]; exact Nat.le_refl _, fun j _ hne => Lib.iterAt_other w k j s pos (fun e => hne (by rw [e]))⟩ (.inr hk)

/-- A row of integers in a block of its own. -/
def RowAt (w : World) (g : Nat) (xs : List Nat) : Prop := g < w.heap.size ∧ ∀ i, i < xs.length → w.cell? ⟨g, i, none⟩ = some (.int .i64 (xs.getD i 0 : Nat))
theorem RowAt.below {w w' : World} {g : Nat} {xs : List Nat} (h : RowAt w g xs) (hb : Below w.heap.size w w') : RowAt w' g xs :=
  ⟨Nat.lt_of_lt_of_le h.1 hb.size, fun i hi => by rw [hb.cell (p := ⟨g, i, none⟩) h.1]; exact h.2 i hi⟩
theorem row_of_own {w : World} {base g n c : Nat} {xs : List Nat} (hn : n = xs.length) (h : w.ownsRow base 3 1 (.slice (some ⟨g, 0, none⟩) n c) n (intsOf xs)) : RowAt w g xs := by
  subst hn
  refine ⟨(h.lt g rfl).2, fun i hi => ?_⟩
  have := h.cells (g := g) rfl i (.int .i64 (xs.getD i 0 : Nat)) (by
    unfold intsOf
    rw [List.getElem?_map, List.getElem?_eq_getElem hi, List.getD_eq_getElem?_getD, List.getElem?_eq_getElem hi]
    rfl)
  rw [add_none, Nat.zero_add] at this
  exact this

set_option maxHeartbeats 4000000 in
set_option maxRecDepth 1000000 in
theorem runes_any (s : ByteArray) (hs : s.size ≤ 1000000) (w : World) :
    Calls Tryd.prog 12 #[.string s] w fun e w' => ∃ g, e = .returned (.slice (some ⟨g, 0, none⟩) (runesL s.data.toList).length (runesL s.data.toList).length) ∧ w.heap.size ≤ g ∧ RowAt w' g (runesL s.data.toList) ∧ Below w.heap.size w w' := by
  obtain ⟨i0, hi, hz0, hz1, hz2⟩ := info_parts info3
  have hlen : (runesL s.data.toList).length ≤ s.size := (runes_len s.data.toList).1
  have cR := Tryd.utf8_RuneCountInString s w (by omega)
  rw [count_eq] at cR
  obtain ⟨R, hR⟩ : ∃ R, runesL s.data.toList = R := ⟨_, rfl⟩
  rw [hR] at cR hlen ⊢
  have HR := Lib.hid hR
  clear hR
  obtain ⟨M, hM⟩ : ∃ M, R.length = M := ⟨_, rfl⟩
  rw [hM] at cR hlen ⊢
  have HM := Lib.hid hM
  clear hM
  go_enter Tryd.func12, Tryd.ntmps12
  go_wp2_with (first
    | (go_at_call 26; refine cR.mono ?_; rintro e W1 ⟨rfl, pos0, hW1⟩; have hb1 : Below w.heap.size w W1 := (by rw [hW1]; exact (Below.refl _ _).alloc (Nat.le_refl _) _); clear hW1)
    | (at_make; refine wpList_make_own _ rfl _ _ 26 rfl w.heap.size 3 i0 (.int .i64 0) 1 Tryd.underlying26 hi hz0 hz1 _ _ _ M rfl rfl rfl ?b1 ?b2 ?b3 ?_))
  case b1 => rw [hz2]; omega
  case b2 => unfold maxLen; omega
  case b3 => exact hb1.size
  intro W2 hown hgrow
  obtain ⟨g, hg⟩ : ∃ g, W1.heap.size = g := ⟨_, rfl⟩
  rw [hg] at hown ⊢
  have hwg : w.heap.size ≤ g := by rw [← hg]; exact hb1.size
  have hgl : g < W2.heap.size := (hown.lt g rfl).2
  have hb2 : Below w.heap.size w W2 := hb1.grown hgrow hb1.size (fun k hk => by cases hk)
  clear hgrow hb1 hg cR
  go_wp2_with fail
  go_loopw [3] (fun v wr => ∃ (pos k : Nat), v = .slice (some ⟨g, 0, none⟩) k M ∧ k ≤ M ∧ pos ≤ s.size ∧ wr.ownsRow w.heap.size 3 1 (.slice (some ⟨g, 0, none⟩) k M) k (intsOf (R.take k)) ∧ wr.heap[W2.heap.size]? = some (.stringIter s pos) ∧ Below w.heap.size w wr ∧ Hid (runesL (s.data.toList.drop pos) = R.drop k)) (fun _ wr => s.size - wr.iterPos W2.heap.size)
  case atStart =>
    refine ⟨0, 0, rfl, Nat.zero_le _, Nat.zero_le _, hown.alloc _, World.iter_heap W2 s 0, hb2.alloc hb2.size _, Lib.hid ?_⟩
    rw [List.drop_zero, List.drop_zero]; exact HR.out
  case round =>
    obtain ⟨pos, k, rfl, hk, hps, hown, hit, hbw, HD⟩ := hrel
    have hsz : W2.heap.size < wr.heap.size := (Array.getElem?_eq_some_iff.1 hit).1
    by_cases hp : pos < s.size
    · have hnx : ∀ ty, (Instr.next (.pointer (some ⟨W2.heap.size, 0, none⟩)) true ty).run Tryd.prog wr = _ := fun ty => Lib.run_next_any_at wr W2.heap.size s pos ty hit hp
      have hwd := width_at s pos hp
      have hd1 := decode_le s pos
      have HS := Lib.hid (runes_at s pos hp)
      have hkl : k < M := by
        have h1 := congrArg List.length HD.out
        rw [HS.out, List.length_cons, List.length_drop, HM.out] at h1
        omega
      have hown2 := own_iterAt hown W2.heap.size (by simp [Value.ownBlock]; omega) s (pos + (Utf8.decode s pos).2)
      have hit2 := Lib.iterAt_heap wr W2.heap.size s pos (pos + (Utf8.decode s pos).2) hit
      have hbw2 := Lib.below_iterAt hbw (k := W2.heap.size) (by omega) s (pos + (Utf8.decode s pos).2)
      have hsz2 : w.heap.size ≤ (wr.iterAt W2.heap.size s (pos + (Utf8.decode s pos).2)).heap.size := by rw [Lib.iterAt_size]; omega
      have hsz3 : W2.heap.size < (wr.iterAt W2.heap.size s (pos + (Utf8.decode s pos).2)).heap.size := by rw [Lib.iterAt_size]; omega
      clear hown
      go_wp2_with (at_builtin; refine wpList_append_fits _ rfl (.tmp 14) (.tmp 17) 26 rfl w.heap.size 3 i0 1 Tryd.underlying26 hi hz1 g k M (intsOf (R.take k)) rfl (hown2.alloc _) ⟨_, 0, none⟩ 1 1 (intsOf [(Utf8.decode s pos).1]) rfl rfl (ints_new _ [(Utf8.decode s pos).1]) (ints_one _) (by omega) ?_; intro w4 hown4 hgrow4)
      have hit4 : w4.heap[W2.heap.size]? = some (.stringIter s (pos + (Utf8.decode s pos).2)) := by
        rw [hgrow4.block W2.heap.size (by simp; omega) (by simp; omega), Below.heap_alloc _ _ _ hsz3]; exact hit2
      go_wp2_with fail
      go_roundw
      case rel =>
        have hR2 : R.drop k = (Utf8.decode s pos).1 :: runesL (s.data.toList.drop (pos + (Utf8.decode s pos).2)) := by rw [← HD.out]; exact HS.out
        have hkR : k < R.length := by rw [HM.out]; exact hkl
        rw [List.drop_eq_getElem_cons hkR] at hR2
        injection hR2 with e1 e2
        refine ⟨pos + (Utf8.decode s pos).2, k + 1, rfl, by omega, hwd.2, ?_, hit4, (hbw2.alloc hsz2 _).grown hgrow4 (by simp; omega) (fun j hj => by cases hj; omega), Lib.hid e2.symm⟩
        rw [List.take_succ_eq_append_getElem hkR, e1]
        unfold intsOf at hown4 ⊢
        rw [List.map_append]
        exact hown4
      case measure =>
        simp only [World.iterPos, hit4, hit]
        omega
    · have hnx : ∀ ty, (Instr.next (.pointer (some ⟨W2.heap.size, 0, none⟩)) true ty).run Tryd.prog wr = _ := fun ty => Lib.run_next_end_at wr W2.heap.size s pos ty hit hp
      have hkM : k = M := by
        have h1 := congrArg List.length HD.out
        rw [runes_over s pos hp, List.length_drop, HM.out, List.length_nil] at h1
        omega
      subst hkM
      go_wp2_with fail
      go_ret
      refine ⟨g, rfl, hwg, ?_, hbw⟩
      rw [List.take_of_length_le (by rw [HM.out]; exact Nat.le_refl _)] at hown
      exact row_of_own HM.out.symm hown
end Go.Proofs.YtbmnoneeialfpaaDoor
