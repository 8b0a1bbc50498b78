/- charset.Repair: the code points of a string, encoded anew. -/
import Derived.Test.YtbmnoneeialfpaaDoorBase
import Derived.BigCall
namespace Go.Proofs.YtbmnoneeialfpaaDoor
open Go.ChangeShapes Go.WideShapes Go.ChangeAt Go.RowKit

set_option maxHeartbeats 4000000 in
set_option maxRecDepth 1000000 in
theorem repair_any (s : ByteArray) (hs : s.size ≤ 1000000) (w : World) :
    Calls Tryd.prog 18 #[.string s] w fun e w' => e = .returned (.string ⟨(repairL s.data.toList).toArray⟩) ∧ Below w.heap.size w w' := by
  obtain ⟨ANS, hANS⟩ : ∃ ANS, repairL s.data.toList = ANS := ⟨_, rfl⟩
  rw [hANS]
  have HA := Lib.hid hANS
  clear hANS
  go_enter Tryd.func18, Tryd.ntmps18
  go_wp2_with (go_at_call 30; refine (Tryd.Builder_Grow_fresh w.heap.size w.heap.size s.size _ (Nat.le_refl _) (Go.heap_alloc_new _ _) (by simp) (by omega)).mono ?_)
  rintro e W1 ⟨rfl, hI0, hb0⟩
  have hb1 : Below w.heap.size w W1 := ((Below.refl _ w).alloc (Nat.le_refl _) _).trans hb0
  have hsz1 : w.heap.size ≤ W1.heap.size := hb1.size
  have hbs : w.heap.size < W1.heap.size := by
    obtain ⟨_, v, hb, _⟩ := hI0
    exact (Array.getElem?_eq_some_iff.1 hb).1
  go_wp2
  go_loopw [] (fun wr => ∃ (pos : Nat) (acc : List UInt8), Lib.IsBuilderF 43 5 w.heap.size w.heap.size (Lib.byteCells acc) wr ∧ wr.heap[W1.heap.size]? = some (.stringIter s pos) ∧ Below w.heap.size w wr ∧ acc ++ (runesL (s.data.toList.drop pos)).flatMap encL = ANS ∧ acc.length ≤ 4 * pos ∧ pos ≤ s.size) (fun wr => s.size - wr.iterPos W1.heap.size)
  case atStart =>
    refine ⟨0, [], (Lib.IsBuilderF.of (Or.inr hI0)).alloc _, World.iter_heap W1 s 0, hb1.alloc hsz1 _, ?_, by simp, by omega⟩
    rw [← HA.out, List.drop_zero]; rfl
  case round =>
    obtain ⟨pos, acc, hI, hit, hbw, hacc, hal, hps⟩ := hrel
    have hacc := Lib.hid hacc
    have hsz : W1.heap.size < wr.heap.size := (Array.getElem?_eq_some_iff.1 hit).1
    by_cases hp : pos < s.size
    · have hnx : ∀ ty, (Instr.next (.pointer (some ⟨W1.heap.size, 0, none⟩)) true ty).run Tryd.prog wr = _ := fun ty => Lib.run_next_any_at wr W1.heap.size s pos ty hit hp
      have hwd := width_at s pos hp
      have hd1 := decode_le s pos
      have hcp := decode_cp (s.data.toList.drop pos)
      have hstep := runes_at s pos hp
      rw [Lib.decodeL_drop] at hcp
      have hI2 := hI.iterAt hit (pos + (Utf8.decode s pos).2)
      have hit2 := Lib.iterAt_heap wr W1.heap.size s pos (pos + (Utf8.decode s pos).2) hit
      have hbw2 := Lib.below_iterAt hbw (k := W1.heap.size) (by omega) s (pos + (Utf8.decode s pos).2)
      have hsz2 : w.heap.size ≤ (wr.iterAt W1.heap.size s (pos + (Utf8.decode s pos).2)).heap.size := by rw [Lib.iterAt_size]; omega
      have HS := Lib.hid hstep
      clear hstep
      have HC := Lib.hid hcp
      clear hcp
      go_wp2_with (go_at_call 31; refine (Tryd.Builder_WriteRune_k w.heap.size w.heap.size _ _ (by omega) (by omega) _ hI2 (by rw [Lib.byteCells_length]; omega) hsz2).mono ?_)
      rintro e W2 ⟨rfl, h1, b1, k1⟩
      go_wp2
      go_roundw
      case rel =>
        have hl4 := enc_len (Utf8.decode s pos).1
        refine ⟨pos + (Utf8.decode s pos).2, acc ++ encL (Utf8.decode s pos).1, ?_, k1.iter hit2 (by omega), hbw2.trans b1, ?_, by rw [List.length_append]; omega, hwd.2⟩
        · rw [Lib.byteCells_append, ← encR_eq HC.out, Lib.byteCells_encodeRune]; exact Or.inr h1
        · rw [← hacc.out, HS.out, List.flatMap_cons, List.append_assoc]
      case measure =>
        simp only [World.iterPos, k1.iter hit2 (by omega), hit]
        omega
    · have hnx : ∀ ty, (Instr.next (.pointer (some ⟨W1.heap.size, 0, none⟩)) true ty).run Tryd.prog wr = _ := fun ty => Lib.run_next_end_at wr W1.heap.size s pos ty hit hp
      have hend : acc = ANS := by rw [← hacc.out, runes_over s pos hp]; simp
      subst hend
      go_wp2_with (go_at_call 32; refine (Tryd.Builder_String_any_k w.heap.size w.heap.size acc _ hI (by omega)).mono ?_)
      rintro e W2 ⟨rfl, _, b1, _⟩
      go_wp2
      go_ret
      exact ⟨rfl, hbw.trans b1⟩
end Go.Proofs.YtbmnoneeialfpaaDoor
