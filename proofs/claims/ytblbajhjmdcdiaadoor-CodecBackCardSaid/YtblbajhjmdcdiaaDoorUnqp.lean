/- Quoted-printable, read. -/
import Derived.Test.YtblbajhjmdcdiaaDoorQp2
namespace Go.Proofs.YtblbajhjmdcdiaaDoor
open Go.ChangeShapes Go.WideShapes Go.ChangeAt Go.RowKit

theorem suffix_call (x : UInt8) (s : ByteArray) (hs : s.size ≤ 10000000) (w : World) :
    Calls Tryd.prog 36 #[.string s, .string ⟨#[x]⟩] w fun e w' => e = .returned (.tuple #[.string (strL (Lib.trimSuffix s.data.toList [x])), .bool (Lib.hasSuffix s.data.toList [x])]) ∧ w = w' :=
  (Tryd.strings_CutSuffix s ⟨#[x]⟩ w (by omega)).mono fun _ _ h => ⟨h.1, h.2.symm⟩
theorem strip_call (s : ByteArray) (hs : s.size ≤ 10000000) (w : World) :
    Calls Tryd.prog 35 #[.string s, .string ⟨#[32, 9]⟩] w fun e w' => e = .returned (.string (strL (strip s.data.toList))) ∧ Below w.heap.size w w' :=
  Tryd.strings_TrimRight_laid s ⟨#[32, 9]⟩ w (by omega) (by decide) (by
    intro j b hb
    have hm := List.mem_of_getElem? hb
    simp only [List.mem_cons, List.not_mem_nil, or_false] at hm
    rcases hm with rfl | rfl <;> decide)

set_option maxHeartbeats 4000000 in
set_option maxRecDepth 1000000 in
theorem cutLine_any (s : ByteArray) (hs : s.size ≤ 1000000) (w : World) (hv : Vars w) :
    Calls Tryd.prog 34 #[.string s] w fun e w' => ∃ x y z, e = .returned (.tuple #[.string (strL x), .string (strL y), .string (strL z)]) ∧ Below w.heap.size w w' ∧
      unqpL s.data.toList = lineOut x y ++ unqpL z ∧ (z.length < s.size ∨ z = []) ∧ x.length + y.length + z.length ≤ s.size := by
  have hc := cut_call ⟨#[10]⟩ s (by omega) w hv
  rw [show (⟨#[10]⟩ : ByteArray).data.toList = [10] from rfl] at hc
  rcases cut_one 10 s.data.toList with ⟨h0, h1⟩ | ⟨a, b, h0, ha, h1⟩
  · rw [h1] at hc
    simp only [strL_of] at hc
    have HR := Lib.hid (unqpA_last h0)
    have HC := Lib.hid hc
    clear hc h0 h1
    go_enter Tryd.func34, Tryd.ntmps34
    go_wp2_with (go_at_call 29; refine HC.out.mono ?_; rintro e w2 ⟨rfl, hb2⟩)
    go_ret3
    refine ⟨s.data.toList, [], [], by rw [strL_of]; rfl, hb2, ?_, .inr rfl, by rw [size_list]; simp⟩
    exact HR.out.trans (List.append_nil _).symm
  · rw [h1] at hc
    have hl : s.size = a.length + (b.length + 1) := by rw [size_list, h0, List.length_append]; rfl
    have hu : unqpL s.data.toList = lineEnd a ++ unqpL b := by rw [h0]; exact unqpA_line ha b
    have hsuf := fun W => suffix_call 13 (strL a) (by rw [strL_size]; omega) W
    rw [strL_list] at hsuf
    unfold lineEnd at hu
    cases hh : Lib.hasSuffix a [13] with
    | true =>
      rw [hh] at hsuf hu
      have htr := trimSuffix_le a [13]
      have hlen : (Lib.trimSuffix a [13]).length + 1 = a.length := by
        rcases snoc_cases a with rfl | ⟨m, y, rfl⟩
        · cases hh
        · rw [suf_snoc] at hh
          obtain rfl : (13 : UInt8) = y := by simpa using hh
          rw [trim_snoc]; simp
      have HU := Lib.hid hu
      have HC := Lib.hid hc
      have HS := Lib.hid hsuf
      clear hc h0 h1 hu hsuf hh
      go_enter Tryd.func34, Tryd.ntmps34
      go_wp2_with (first
        | (go_at_call 29; refine HC.out.mono ?_; rintro e w2 ⟨rfl, hb2⟩)
        | (go_at_call 36; refine (HS.out _).mono ?_; rintro e w3 ⟨rfl, rfl⟩))
      go_ret3
      exact ⟨_, [13, 10], b, rfl, hb2, HU.out, .inl (by omega), by simp only [List.length_cons, List.length_nil]; omega⟩
    | false =>
      rw [hh] at hsuf hu
      have HU := Lib.hid hu
      have HC := Lib.hid hc
      have HS := Lib.hid hsuf
      clear hc h0 h1 hu hsuf hh
      go_enter Tryd.func34, Tryd.ntmps34
      go_wp2_with (first
        | (go_at_call 29; refine HC.out.mono ?_; rintro e w2 ⟨rfl, hb2⟩)
        | (go_at_call 36; refine (HS.out _).mono ?_; rintro e w3 ⟨rfl, rfl⟩))
      go_ret3
      exact ⟨a, [10], b, rfl, hb2, HU.out, .inl (by omega), by simp only [List.length_cons, List.length_nil]; omega⟩

def left16 : Value → Nat
  | .string r => r.size
  | _ => 0
theorem lineOut_split (l term : List UInt8) : lineOut l term = escapes (Lib.trimSuffix (strip l) [61]) ++ if Lib.hasSuffix (strip l) [61] = true then [] else term := rfl

set_option maxHeartbeats 4000000 in
set_option maxRecDepth 1000000 in
theorem unqp_any (s : ByteArray) (hs : s.size ≤ 1000000) (w : World) (hv : Vars w) :
    Calls Tryd.prog 16 #[.string s] w fun e w' => e = .returned (.string (strL (unqpL s.data.toList))) ∧ Below w.heap.size w w' := by
  have hlow := hv.low
  obtain ⟨ANS, hANS⟩ : ∃ ANS, unqpL s.data.toList = ANS := ⟨_, rfl⟩
  rw [hANS]
  go_enter Tryd.func16, Tryd.ntmps16
  go_wp2
  have hB0 : Bd (w.alloc (.cells #[.pointer none, .slice none 0 0] 31)) w.heap.size [] := bd_new (Go.heap_alloc_new _ _)
  have hb0 : Below w.heap.size w (w.alloc (.cells #[.pointer none, .slice none 0 0] 31)) := (Below.refl _ w).alloc (Nat.le_refl _) _
  go_loopw [0] (fun v wr => ∃ (r : ByteArray) (acc : List UInt8), v = .string r ∧ Bd wr w.heap.size acc ∧ Below w.heap.size w wr ∧
      Hid (acc ++ unqpL r.data.toList = ANS) ∧ r.size ≤ s.size ∧ acc.length + r.size ≤ s.size)
    (fun v _ => left16 v)
  case atStart => exact ⟨s, [], rfl, hB0, hb0, Lib.hid hANS, Nat.le_refl _, by simp⟩
  case round =>
    clear hB0 hb0 hANS
    obtain ⟨r, acc, rfl, hB, hbw, hacc, hr, hal⟩ := hrel
    have hszr := hB.lt
    by_cases h0 : r.size = 0
    · have hr0 : r.data.toList = [] := List.eq_nil_of_length_eq_zero (by rw [← size_list]; exact h0)
      obtain rfl : r = ⟨#[]⟩ := bytes_is hr0
      have hend : acc = ANS := by
        rw [← hacc.out]
        exact (List.append_nil _).symm
      subst hend
      clear hacc hr0
      go_wp2_with (go_at_call 27; refine (bd_out w.heap.size _ wr hB).mono ?_; rintro e W2 ⟨rfl, b1⟩)
      go_ret
      exact ⟨rfl, hbw.trans b1⟩
    · have hne : (r == ⟨#[]⟩) = false := by
        rw [bytes_eqb, decide_eq_false_iff_not]
        intro e
        exact h0 (by rw [e]; rfl)
      have hvr := hv.at hbw hlow
      have HC := Lib.hid (cutLine_any r (by omega) wr hvr)
      have hE : r.toList.isEmpty = false := by
        rw [ByteArray.toList_eq, List.isEmpty_eq_false_iff]
        exact fun e => h0 (by rw [size_list, e]; rfl)
      go_wp2_with (go_at_call 34; refine HC.out.mono ?_; rintro e w2 ⟨x, y, z, rfl, hb2, hu, hz, hlen⟩)
      have hst := fun W => strip_call (strL x) (by rw [strL_size]; omega) W
      rw [strL_list] at hst
      have hsl := strip_le x
      have hsf := fun W => suffix_call 61 (strL (strip x)) (by rw [strL_size]; omega) W
      rw [strL_list] at hsf
      have htl := trimSuffix_le (strip x) [61]
      rw [lineOut_split] at hu
      obtain ⟨m, hm⟩ : ∃ m, Lib.trimSuffix (strip x) [61] = m := ⟨_, rfl⟩
      obtain ⟨f, hf⟩ : ∃ f, Lib.hasSuffix (strip x) [61] = f := ⟨_, rfl⟩
      rw [hm] at hu htl hsf
      rw [hf] at hu hsf
      have hun := fun W => unescaped_any (strL m) (by rw [strL_size]; omega) W
      rw [strL_list] at hun
      have hel : (escapes m).length ≤ m.length := escapes_length m 0
      have hB2 := hB.below hb2
      have HST := Lib.hid hst
      have HSF := Lib.hid hsf
      have HUN := Lib.hid hun
      have HU := Lib.hid hu
      have HZ1 := Lib.hid (by rw [strL_size]; omega : acc.length + (strL (escapes m)).size ≤ 140737488355328)
      have HZ2 := Lib.hid (by rw [List.length_append, strL_size, strL_list]; omega : (acc ++ (strL (escapes m)).data.toList).length + (strL y).size ≤ 140737488355328)
      have hmz : z.length < r.size ∨ z = [] := hz
      have hb02 := hbw.trans (hb2.mono (Nat.le_of_lt hszr))
      have hsz2 := hB2.lt
      clear hst hsf hun hu hm hf HC hb2 hbw
      cases f with
      | false =>
        go_wp2_with (first
          | (go_at_call 35; refine (HST.out _).mono ?_; rintro e w3 ⟨rfl, hb3⟩; have hB3 := hB2.below hb3)
          | (go_at_call 36; refine (HSF.out _).mono ?_; rintro e w3' ⟨rfl, rfl⟩)
          | (go_at_call 37; refine (HUN.out _).mono ?_; rintro e w4 ⟨rfl, hb4⟩; have hB4 := hB3.below hb4)
          | (go_at_call 26; with_reducible refine (bd_str (strL (escapes m)) w.heap.size acc _ (by assumption) HZ1.out).mono ?_; rintro e w5 ⟨rfl, hB5, hb5⟩)
          | (go_at_call 26; with_reducible refine (bd_str (strL y) w.heap.size _ _ (by assumption) HZ2.out).mono ?_; rintro e w6 ⟨rfl, hB6, hb6⟩))
        go_roundw
        case rel =>
          have hsz3 := hB3.lt
          refine ⟨strL z, _, rfl, hB6, (((hb02.trans (hb3.mono (Nat.le_of_lt hsz2))).trans (hb4.mono (Nat.le_of_lt hsz3))).trans hb5).trans hb6, Lib.hid ?_, by rw [strL_size]; omega, by simp only [strL_size, strL_list, List.length_append]; omega⟩
          rw [← hacc.out, HU.out]
          simp [strL_list]
        case measure =>
          show (strL z).size < r.size
          rw [strL_size]
          rcases hmz with h | h
          · exact h
          · rw [h]; exact Nat.pos_of_ne_zero h0
      | true =>
        go_wp2_with (first
          | (go_at_call 35; refine (HST.out _).mono ?_; rintro e w3 ⟨rfl, hb3⟩; have hB3 := hB2.below hb3)
          | (go_at_call 36; refine (HSF.out _).mono ?_; rintro e w3' ⟨rfl, rfl⟩)
          | (go_at_call 37; refine (HUN.out _).mono ?_; rintro e w4 ⟨rfl, hb4⟩; have hB4 := hB3.below hb4)
          | (go_at_call 26; with_reducible refine (bd_str (strL (escapes m)) w.heap.size acc _ (by assumption) HZ1.out).mono ?_; rintro e w5 ⟨rfl, hB5, hb5⟩))
        go_roundw
        case rel =>
          have hsz3 := hB3.lt
          refine ⟨strL z, _, rfl, hB5, ((hb02.trans (hb3.mono (Nat.le_of_lt hsz2))).trans (hb4.mono (Nat.le_of_lt hsz3))).trans hb5, Lib.hid ?_, by rw [strL_size]; omega, by simp only [strL_size, strL_list, List.length_append]; omega⟩
          rw [← hacc.out, HU.out]
          simp [strL_list]
        case measure =>
          show (strL z).size < r.size
          rw [strL_size]
          rcases hmz with h | h
          · exact h
          · rw [h]; exact Nat.pos_of_ne_zero h0
end Go.Proofs.YtblbajhjmdcdiaaDoor
