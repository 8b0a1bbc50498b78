/- Parse: the fields of a header section, one by one. -/
import Derived.Test.YtocghngmjipjoaaDoorRead
namespace Go.Proofs.YtocghngmjipjoaaDoor
open Go.ChangeShapes Go.WideShapes Go.ChangeAt Go.RowKit
open LinesP HdrP

theorem sec_take (s : ByteArray) : s.extract 0 (secN s.data.toList) = strL (hdrL (splitL s.data.toList)).flatten ∧ secN s.data.toList ≤ s.size := by
  obtain ⟨line, rest, h1, h2, _⟩ := at_parts s.data.toList
  have hle : secN s.data.toList ≤ s.size := by
    have := congrArg List.length h1
    rw [List.length_append, List.length_append, ← size_list] at this
    unfold secN
    omega
  refine ⟨bytes_is ?_, hle⟩
  rw [part_start s _ hle, strL_list]
  have key : ∀ (S H l r : List UInt8), S = H ++ l ++ r → S.take H.length = H := by
    intro S H l r h
    rw [h, List.append_assoc, List.take_left' rfl]
  exact key _ _ _ _ h1
theorem at_le (s : ByteArray) : atL s.data.toList ≤ s.size := by
  obtain ⟨line, rest, h1, h2, _⟩ := at_parts s.data.toList
  have := congrArg List.length h1
  rw [List.length_append, List.length_append, ← size_list] at this
  omega
theorem drop_le (r : List (List UInt8)) : (dropC r).length ≤ r.length := (List.dropWhile_sublist _).length_le
/-- What is left of the section, and the fields that have been read. -/
structure Pr (w0 w : World) (L ls : List (List UInt8)) (d : List Fld) (v : Value) (m : Nat) : Prop where
  good : LinesP.Good ls
  all : d ++ groups ls = groups L
  few : d.length + ls.length ≤ m
  bel : Below w0.heap.size w0 w
  own : w.ownsRow w0.heap.size 38 4 v d.length (fldsV d)
theorem Pr.step {w0 w w' : World} {L ls : List (List UInt8)} {d : List Fld} {v : Value} {m : Nat} (h : Pr w0 w L ls d v m) (hb : Below w.heap.size w w') : Pr w0 w' L ls d v m :=
  ⟨h.good, h.all, h.few, h.bel.trans (hb.mono h.bel.size), own_below h.own hb⟩
theorem Pr.next {w0 w w' : World} {L r : List (List UInt8)} {l : List UInt8} {d : List Fld} {v v' : Value} {m : Nat} (h : Pr w0 w L (l :: r) d v m) (o : Obj) (hg : (w.alloc o).grownBy w' v.ownBlock) (ho : w'.ownsRow w0.heap.size 38 4 v' (d ++ [fieldL l (moreL r)]).length (fldsV (d ++ [fieldL l (moreL r)]))) :
    Pr w0 w' L (dropC r) (d ++ [fieldL l (moreL r)]) v' m := by
  obtain ⟨_, h2, h3, h4, _⟩ := cut_one h.good
  refine ⟨h2, ?_, ?_, ?_, ho⟩
  · rw [List.append_assoc, List.singleton_append, ← h4]; exact h.all
  · have := h.few
    have := drop_le r
    rw [List.length_append]
    simp only [List.length_cons, List.length_nil] at *
    omega
  · exact (h.bel.alloc h.bel.size o).grown hg (by have := h.bel.size; rw [World.size_alloc]; omega) (fun k e => (h.own.lt k e).1)
def strSize : Value → Nat
  | .string s => s.size
  | _ => 0
set_option maxRecDepth 100000 in
set_option maxHeartbeats 4000000 in
theorem parse_any (s : ByteArray) (hs : s.size ≤ 1000000) (w : World) (hv : Vars w) :
    Calls Tryd.prog 10 #[.string s] w fun e w' => ∃ a c, e = .returned (.tuple #[.slice a (parseL s.data.toList).length c, .int .i64 (atL s.data.toList)]) ∧ OwnF w' (.slice a (parseL s.data.toList).length c) (parseL s.data.toList) ∧ Below w.heap.size w w' := by
  have cS := section_any s hs w
  obtain ⟨hcut, hle⟩ := sec_take s
  have hGood := hdr_good (split_good s.data.toList)
  have hlen : (hdrL (splitL s.data.toList)).length ≤ s.size := by
    have := split_len s.data.toList
    have h2 : (hdrL (splitL s.data.toList)).length ≤ (splitL s.data.toList).length := (List.takeWhile_sublist _).length_le
    rw [size_list]; omega
  unfold parseL
  generalize hdrL (splitL s.data.toList) = L at hcut hGood hlen ⊢
  generalize secN s.data.toList = N at cS hcut hle
  have R0 := run_slice_to s N (N : Int) rfl hle
  rw [hcut] at R0
  have hflat : L.flatten.length ≤ s.size := by
    have := congrArg ByteArray.size hcut
    rw [strL_size] at this
    rw [← this]; simp; omega
  have cC := fun w => clone_any (strL L.flatten) w (by rw [strL_size]; omega)
  generalize hat : atL s.data.toList = M at cS ⊢
  clear hcut hle hat
  obtain ⟨sec, hsec⟩ : ∃ sec, strL L.flatten = sec := ⟨_, rfl⟩
  rw [hsec] at R0 cC
  have HSEC := Lib.hid hsec
  clear hsec
  have HG := Lib.hid (And.intro hGood hlen)
  clear hGood hlen
  have HF := Lib.hid hflat
  clear hflat
  go_enter Tryd.func10, Tryd.ntmps10
  go_wp2_with (first
    | (go_at_call 33; with_reducible refine cS.mono ?_; rintro e w1 ⟨rfl, hb1⟩; clear cS)
    | (go_at_call 34; with_reducible refine (cC _).mono ?_; rintro e w2 ⟨rfl, hb2⟩; clear cC))
  have hst : Pr w w2 L L [] (.slice none 0 0) s.size := ⟨HG.out.1, rfl, by simpa using HG.out.2, Qtrans hb1 hb2, ⟨rfl, .inl ⟨rfl, rfl⟩⟩⟩
  have HST := Lib.hid hst
  clear hst hb1 hb2
  go_loopw [6, 7] (fun x fs wr => ∃ (ls : List (List UInt8)) (d : List Fld) (A : ByteArray) (m : Nat), x = .string A ∧ Hid (A = strL ls.flatten) ∧ d.length = m ∧ (∃ a c, fs = .slice a m c ∧ Hid (Pr w wr L ls d fs s.size)) ∧ A.size ≤ s.size) (fun x _ _ => strSize x)
  case atStart => exact ⟨L, [], sec, 0, rfl, Lib.hid HSEC.out.symm, rfl, ⟨none, 0, rfl, HST⟩, by rw [← HSEC.out, strL_size]; exact HF.out⟩
  case round =>
    obtain ⟨ls, d, A, m, rfl, HA, hm, ⟨a, c, rfl, hst⟩, hsz⟩ := hrel
    have HAs := Lib.hid (size_list A)
    cases ls with
    | nil =>
      obtain rfl : A = ⟨#[]⟩ := HA.out
      have hall := Lib.hid hst.out.all
      go_wp2_with fail
      go_ret2
      have h := hall.out
      rw [show groups [] = [] from rfl, List.append_nil] at h
      subst h
      subst hm
      exact ⟨a, c, rfl, ⟨_, hst.out.own⟩, hst.out.bel⟩
    | cons l r =>
      obtain ⟨e1, e2, e3, e4, e5⟩ := cut_one hst.out.good
      have hA := HA.out
      have lA : A.data.toList = (l :: r).flatten := by rw [hA]; rfl
      have hsp : splitL A.data.toList = l :: r := by rw [lA]; exact split_of_good hst.out.good
      have hne : A.toList.isEmpty = false := by
        rw [ByteArray.toList_eq, lA, List.flatten_cons]
        cases l with
        | nil => exact absurd rfl e5
        | cons x y => rfl
      obtain ⟨n, hn⟩ : ∃ n, (l ++ moreL r).length = n := ⟨_, rfl⟩
      have hn2 : fieldN (splitL A.data.toList) = n := by rw [hsp, ← hn, List.length_append]; rfl
      have hnA : n ≤ A.size := by rw [size_list, lA, e1, List.length_append, hn]; omega
      have hn0 : 0 < n := by rw [← hn, List.length_append]; have := List.length_pos_iff.2 e5; omega
      have c1 := fun w => length_any A (by omega) w
      rw [hn2] at c1
      have k1 : A.extract 0 n = strL (l ++ moreL r) := bytes_is (by rw [part_start A n hnA, lA, e1, ← hn, List.take_left' rfl]; rfl)
      have k2 : A.extract n A.size = strL (dropC r).flatten := bytes_is (by rw [part_rest A n hnA, lA, e1, ← hn, List.drop_left' rfl]; rfl)
      have R1 := run_slice_to A n (n : Int) rfl hnA
      have R2 := run_slice_from A n (n : Int) rfl hnA
      rw [k1] at R1
      rw [k2] at R2
      have zB : (strL (l ++ moreL r)).size = n := by rw [strL_size]; exact hn
      have zC : (strL (dropC r).flatten).size < A.size := by
        rw [strL_size, size_list A, lA, e1, List.length_append, hn]; omega
      have c2 := fun w hv => read_any (strL (l ++ moreL r)) (by omega) w hv
      rw [strL_list, e3] at c2
      obtain ⟨f, hf⟩ : ∃ f, fieldL l (moreL r) = f := ⟨_, rfl⟩
      rw [hf] at c2
      have c2' : ∀ w, Vars w → Calls Tryd.prog 36 #[.string (strL (l ++ moreL r))] w fun e w' => e = .returned (.agg #[.string (strL f.name), .string (strL f.value), .string (strL f.raw), .bool f.bad]) ∧ Below w.heap.size w w' := c2
      obtain ⟨B, hB⟩ : ∃ B, strL (l ++ moreL r) = B := ⟨_, rfl⟩
      obtain ⟨C, hC⟩ : ∃ C, strL (dropC r).flatten = C := ⟨_, rfl⟩
      rw [hB] at R1 c2'
      rw [hC] at R2 zC
      have HC := Lib.hid hC.symm
      have HFF := Lib.hid hf
      have hdm : m ≤ 1000000 := by have := hst.out.few; rw [hm] at this; omega
      have hbz := hst.out.bel.size
      have HM := Lib.hid hm
      clear e1 e2 e3 e4 e5 hA lA hsp hn2 hn k1 k2 zB c2 hf hB hC hn0 hm
      go_wp2_with (first
        | (go_at_call 35; with_reducible refine (c1 _).mono ?_; rintro e w3 ⟨rfl, hb3⟩; replace hst := Lib.hid (hst.out.step hb3); clear c1 hb3; have c3 := c2' w3 (hv.keep (hst.out.bel)); clear c2')
        | (go_at_call 36; with_reducible refine c3.mono ?_; rintro e w4 ⟨rfl, hb4⟩; replace hst := Lib.hid (hst.out.step hb4); clear c3 hb4; have hbz := hst.out.bel.size)
        | (at_builtin; refine wpList_appF (by rfl) (.tmp 22) (.tmp 27) rfl rfl w.heap.size f rfl rfl hst.out.own HM.out hbz hdm ?_; intro a2 c2 w5 h2 g2; replace h2 := Lib.hid h2; replace g2 := Lib.hid g2))
      go_roundw
      case rel =>
        have hn := hst.out.next (l := l) (r := r) _ g2.out (by rw [HFF.out]; exact h2.out)
        rw [HFF.out] at hn
        exact ⟨dropC r, d ++ [f], C, m + 1, rfl, HC, by rw [List.length_append, HM.out]; rfl, ⟨a2, c2, rfl, Lib.hid hn⟩, by omega⟩
      case measure => exact zC
end Go.Proofs.YtocghngmjipjoaaDoor
