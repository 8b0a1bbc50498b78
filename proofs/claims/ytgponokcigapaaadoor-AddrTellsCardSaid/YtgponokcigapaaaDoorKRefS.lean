/- The reference's Scan. -/
import Derived.Test.YtgponokcigapaaaDoorKRefF
import Derived.Test.YtgponokcigapaaaDoorK2
namespace Go.Proofs.YtgponokcigapaaaDoor
open Go.ChangeShapes Go.WideShapes Go.ChangeAt Go.RowKit
open TokP

set_option maxRecDepth 100000 in
set_option maxHeartbeats 2000000 in
theorem rscan_any (s : ByteArray) (hs : s.size ≤ 1000000) (w : World) :
    Calls Tryd.prog 50 #[.string s] w fun e w' => ∃ a c, e = .returned (.slice a (scanL s.data.toList).length c) ∧ OwnF w' (.slice a (scanL s.data.toList).length c) (scanL s.data.toList) ∧ Below w.heap.size w w' := by
  have HZ := Lib.hid (size_list s)
  have HST := Lib.hid (show Sc w w s.data.toList s.data.toList [] (.slice none 0 0) s.size from ⟨rfl, by rw [← HZ.out]; simp, Below.refl _ _, ⟨rfl, .inl ⟨rfl, rfl⟩⟩⟩)
  obtain ⟨L, hL⟩ : ∃ L, s.data.toList = L := ⟨_, rfl⟩
  obtain ⟨N, hN⟩ : ∃ N, s.size = N := ⟨_, rfl⟩
  rw [hL, hN] at HST HZ
  rw [hN] at hs
  rw [hL]
  have HL := Lib.hid hL
  have HN := Lib.hid hN
  clear hL hN
  go_enter Tryd.func50, Tryd.ntmps50
  go_wp2_with fail
  go_loopw [0, 3] (fun x fs wr => ∃ (d : List Tok) (A : ByteArray) (m : Nat), x = .string A ∧ d.length = m ∧ A.size ≤ N ∧ ∃ a c, fs = .slice a m c ∧ Hid (Sc w wr L A.data.toList d fs N)) (fun x _ _ => strSize x)
  case atStart => exact ⟨[], s, 0, rfl, rfl, by rw [HN.out]; exact Nat.le_refl _, none, 0, rfl, by rw [HL.out]; exact HST⟩
  case round =>
    obtain ⟨d, A, m, rfl, hm, hsz, a, c, rfl, hst⟩ := hrel
    have hA := size_list A
    by_cases h0 : A.data.toList = []
    · have hall := Lib.hid (show d = scanL L by rw [← hst.out.all, h0, scan_nil, List.append_nil])
      obtain rfl : A = ⟨#[]⟩ := bytes_is h0
      clear hA h0
      go_wp2_with fail
      go_ret
      have h := hall.out
      rw [← h]
      subst hm
      exact ⟨a, c, rfl, ⟨_, hst.out.own⟩, hst.out.bel⟩
    · have hne : A.toList.isEmpty = false := by
        rw [ByteArray.toList_eq]
        cases hl : A.data.toList with
        | nil => exact absurd hl h0
        | cons _ _ => rfl
      have hpos : 0 < A.size := by rw [hA]; exact List.length_pos_iff.2 h0
      have cF := rfront_any A (by omega) hpos
      obtain ⟨_, e2⟩ := front_parts A
      have hle := front_le A.data.toList
      have hfp := List.length_pos_iff.2 (front_pos _ h0)
      rw [← hA] at hle
      have hdm : m ≤ 1000000 := by have := hst.out.few; rw [hm] at this; omega
      have HNX := Lib.hid (fun (W : World) (v0 v' : Value) (w' : World) (h : Sc w W L A.data.toList d v0 N) => h.next (v' := v') (w' := w') h0)
      generalize hr : A.data.toList.drop (frontL A.data.toList).text.length = r at e2 HNX
      have hrl : r.length < A.size := by rw [← hr, List.length_drop, ← hA]; omega
      generalize frontL A.data.toList = f at cF e2 hle HNX hr hfp
      have hTs : (strL f.text).size = f.text.length := strL_size _
      have R2 := run_slice_from A f.text.length ((strL f.text).size : Int) (by rw [hTs]) hle
      rw [e2] at R2
      have hT : (strL r).size < A.size := by rw [strL_size]; exact hrl
      have HT : Hid ((strL r).data.toList = r) := rfl
      generalize strL r = T at R2 hT HT
      have HM := Lib.hid hm
      clear e2 hr hle hA hpos hrl h0 hfp hm hTs
      go_wp2_with (first
        | (go_at_call 74; (with_reducible refine (cF _).mono ?_); (rintro e w2 ⟨rfl, hb2⟩; clear cF; have hs2 := Lib.hid ((hst.out.step hb2).step ((Below.refl _ w2).alloc (Nat.le_refl _) (.cells #[.int .i64 (f.kind : Nat), .string (strL f.text)] 43))); have hne2 : Hid ((Value.slice a m c).ownBlock ≠ some w2.heap.size) := fun e => by (have := ((hst.out.step hb2).own.lt _ e).2; omega)))
        | (at_builtin; (refine wpList_appF (by rfl) (.tmp 9) (.tmp 11) rfl rfl w.heap.size f rfl (by rw [World.size_alloc]; rfl) hs2.out.own HM.out hs2.out.bel.size hdm ?_; intro a2 c2 w5 h2 g2; have kt := cell_grown (cell_alloc (copy_text w2 (.int .i64 (f.kind : Nat)) (.string (strL f.text)) 43) (.cells #[.int .i64 (f.kind : Nat), .string (strL f.text)] 43)) g2 hne2.out; replace h2 := Lib.hid h2; replace g2 := Lib.hid g2)))
      go_roundw
      case rel =>
        have hn := HNX.out _ _ _ _ hs2.out _ g2.out h2.out
        rw [← HT.out] at hn
        exact ⟨d ++ [f], T, m + 1, rfl, by rw [List.length_append, HM.out]; rfl, by omega, a2, c2, rfl, Lib.hid hn⟩
      case measure => exact hT
end Go.Proofs.YtgponokcigapaaaDoor
