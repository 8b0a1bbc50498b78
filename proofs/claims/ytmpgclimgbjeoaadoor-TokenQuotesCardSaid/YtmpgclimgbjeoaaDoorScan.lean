/- Scan: the tokens of a string, one by one. -/
import Derived.Test.YtmpgclimgbjeoaaDoorFirst
import Derived.Test.YtmpgclimgbjeoaaDoorOwn
namespace Go.Proofs.YtmpgclimgbjeoaaDoor
open Go.ChangeShapes Go.WideShapes Go.ChangeAt Go.RowKit
open TokP

set_option maxHeartbeats 1000000 in
theorem clone_any (s : ByteArray) (w : World) (hs : s.size ≤ 1000000) : Calls Tryd.prog 20 #[.string s] w fun e w' => e = .returned (.string s) ∧ Below w.heap.size w w' := by
  have cC := Tryd.stringslite_Clone s w (by omega)
  go_enter Tryd.func20, Tryd.ntmps20
  go_wp2_with (go_at_call 29; refine cC.mono ?_; rintro e w' ⟨rfl, hb⟩)
  go_ret
  exact ⟨rfl, hb⟩
theorem front_take (l : List UInt8) : l.take (frontL l).text.length = (frontL l).text := by
  have h := front_pre l
  have h2 : l.take (frontL l).text.length = ((frontL l).text ++ l.drop (frontL l).text.length).take (frontL l).text.length := by rw [h]
  rw [h2, List.take_left' rfl]
/-- What is left of the string, and the tokens that have been read. -/
structure Sc (w0 w : World) (L S : List UInt8) (d : List Tok) (v : Value) (m : Nat) : Prop where
  all : d ++ scanL S = scanL L
  few : d.length + S.length ≤ m
  bel : Below w0.heap.size w0 w
  own : w.ownsRow w0.heap.size 23 2 v d.length (toksV d)
theorem Sc.step {w0 w w' : World} {L S : List UInt8} {d : List Tok} {v : Value} {m : Nat} (h : Sc w0 w L S d v m) (hb : Below w.heap.size w w') : Sc w0 w' L S d v m :=
  ⟨h.all, h.few, h.bel.trans (hb.mono h.bel.size), own_below h.own hb⟩
theorem Sc.next {w0 w w' : World} {L S : List UInt8} {d : List Tok} {v v' : Value} {m : Nat} (h : Sc w0 w L S d v m) (hS : S ≠ []) (o : Obj) (hg : (w.alloc o).grownBy w' v.ownBlock) (ho : w'.ownsRow w0.heap.size 23 2 v' (d ++ [frontL S]).length (toksV (d ++ [frontL S]))) :
    Sc w0 w' L (S.drop (frontL S).text.length) (d ++ [frontL S]) v' m := by
  refine ⟨?_, ?_, ?_, ho⟩
  · rw [List.append_assoc, List.singleton_append, ← scan_cons S hS]; exact h.all
  · have := h.few
    have := List.length_pos_iff.2 (front_pos S hS)
    have := front_le S
    rw [List.length_append, List.length_drop, List.length_singleton]
    omega
  · exact (h.bel.alloc h.bel.size o).grown hg (by have := h.bel.size; rw [World.size_alloc]; omega) (fun k e => (h.own.lt k e).1)
def strSize : Value → Nat
  | .string s => s.size
  | _ => 0
theorem front_parts (A : ByteArray) : (A.extract 0 (frontL A.data.toList).text.length) = strL (frontL A.data.toList).text ∧ (A.extract (frontL A.data.toList).text.length A.size) = strL (A.data.toList.drop (frontL A.data.toList).text.length) := by
  have h := front_le A.data.toList
  rw [← size_list] at h
  refine ⟨bytes_is ?_, bytes_is ?_⟩
  · rw [part_start A _ h, front_take]; rfl
  · rw [part_rest A _ h]; rfl
set_option maxRecDepth 100000 in
set_option maxHeartbeats 2000000 in
theorem scan_any (s : ByteArray) (hs : s.size ≤ 1000000) (w : World) :
    Calls Tryd.prog 9 #[.string s] w fun e w' => ∃ a c, e = .returned (.slice a (scanL s.data.toList).length c) ∧ OwnF w' (.slice a (scanL s.data.toList).length c) (scanL s.data.toList) ∧ Below w.heap.size w w' := by
  have cC := clone_any s w hs
  have HZ := Lib.hid (size_list s)
  go_enter Tryd.func9, Tryd.ntmps9
  go_wp2_with (go_at_call 20; with_reducible refine cC.mono ?_; rintro e w1 ⟨rfl, hb1⟩; clear cC)
  have HST := Lib.hid (show Sc w w1 s.data.toList s.data.toList [] (.slice none 0 0) s.size from ⟨rfl, by rw [← HZ.out]; simp, hb1, ⟨rfl, .inl ⟨rfl, rfl⟩⟩⟩)
  clear hb1
  go_loopw [3, 4] (fun x fs wr => ∃ (d : List Tok) (A : ByteArray) (m : Nat), x = .string A ∧ d.length = m ∧ A.size ≤ s.size ∧ ∃ a c, fs = .slice a m c ∧ Hid (Sc w wr s.data.toList A.data.toList d fs s.size)) (fun x _ _ => strSize x)
  case atStart => exact ⟨[], s, 0, rfl, rfl, Nat.le_refl _, none, 0, rfl, HST⟩
  case round =>
    obtain ⟨d, A, m, rfl, hm, hsz, a, c, rfl, hst⟩ := hrel
    have hA := size_list A
    by_cases h0 : A.data.toList = []
    · have hall := Lib.hid (show d = scanL s.data.toList by rw [← hst.out.all, h0, scan_nil, List.append_nil])
      obtain rfl : A = ⟨#[]⟩ := bytes_is h0
      clear hA h0
      go_wp2_with fail
      go_ret
      have h := hall.out
      rw [← h]
      subst hm
      exact ⟨a, c, rfl, ⟨_, hst.out.own⟩, hst.out.bel⟩
    · have hne : A.toList.isEmpty = false := by
        rw [ByteArray.toList_eq]
        cases hl : A.data.toList with
        | nil => exact absurd hl h0
        | cons _ _ => rfl
      have hpos : 0 < A.size := by rw [hA]; exact List.length_pos_iff.2 h0
      have cF := first_any A (by omega) hpos
      obtain ⟨e1, e2⟩ := front_parts A
      have hle := front_le A.data.toList
      have hfp := List.length_pos_iff.2 (front_pos _ h0)
      rw [← hA] at hle
      have hdm : m ≤ 1000000 := by have := hst.out.few; rw [hm] at this; omega
      have hbz := hst.out.bel.size
      have HN := Lib.hid (fun (v' : Value) (w' : World) => hst.out.next (v' := v') (w' := w') h0)
      generalize hr : A.data.toList.drop (frontL A.data.toList).text.length = r at e2 HN
      have hrl : r.length < A.size := by rw [← hr, List.length_drop, ← hA]; omega
      generalize frontL A.data.toList = f at cF e1 e2 hle HN hr hfp
      generalize hn : f.text.length = n at cF e1 e2 hle hr hfp
      have R1 := run_slice_to A n (n : Int) rfl hle
      have R2 := run_slice_from A n (n : Int) rfl hle
      rw [e1] at R1
      rw [e2] at R2
      have hT : (strL r).size < A.size := by rw [strL_size]; exact hrl
      have HT : Hid ((strL r).data.toList = r) := rfl
      generalize strL r = T at R2 hT HT
      have HM := Lib.hid hm
      clear e1 e2 hr hn hle hA hpos hrl h0 hfp hm
      go_wp2_with (first
        | (go_at_call 21; with_reducible refine (cF _).mono ?_; rintro e w2 ⟨rfl, rfl⟩; clear cF)
        | (at_builtin; refine wpList_appF (by rfl) (.tmp 16) (.tmp 22) rfl rfl w.heap.size f rfl rfl hst.out.own HM.out hbz hdm ?_; intro a2 c2 w5 h2 g2; replace h2 := Lib.hid h2; replace g2 := Lib.hid g2))
      go_roundw
      case rel =>
        have hn := HN.out _ _ _ g2.out h2.out
        rw [← HT.out] at hn
        exact ⟨d ++ [f], T, m + 1, rfl, by rw [List.length_append, HM.out]; rfl, by omega, a2, c2, rfl, Lib.hid hn⟩
      case measure => exact hT
end Go.Proofs.YtmpgclimgbjeoaaDoor
