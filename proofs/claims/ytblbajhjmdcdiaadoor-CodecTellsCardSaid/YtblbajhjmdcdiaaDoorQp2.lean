/- Quoted-printable: a text's lines, written. -/
import Derived.Test.YtblbajhjmdcdiaaDoorQp
namespace Go.Proofs.YtblbajhjmdcdiaaDoor
open Go.ChangeShapes Go.WideShapes Go.ChangeAt Go.RowKit

theorem occ_crlf (l : List UInt8) (j : Nat) : Lib.occAt l [13, 10] j = crlfAt (l.drop j) := rfl
/-- Around the first CRLF. -/
theorem cut_crlf (l : List UInt8) : (Lib.cut l [13, 10] = (l, [], false) ∧ qpL l = lineQ 0 l) ∨
    (∃ a b, l = a ++ 13 :: 10 :: b ∧ Lib.cut l [13, 10] = (a, b, true) ∧ qpL l = lineQ 0 a ++ 13 :: 10 :: qpL b) := by
  rcases Lib.index_spec l [13, 10] with ⟨h1, h2⟩ | ⟨i, h1, h2, h3, h4⟩
  · refine .inl ⟨?_, qpB_last l 0 (fun j hj => by rw [← occ_crlf]; exact h2 j hj)⟩
    unfold Lib.cut
    rw [h1, if_neg (by decide)]
  · obtain ⟨t, ht⟩ := crlf_inv (l := l.drop i) h3
    have hl : l = l.take i ++ 13 :: 10 :: t := by rw [← ht, List.take_append_drop]
    have hlen : (l.take i).length = i := by rw [List.length_take]; omega
    refine .inr ⟨l.take i, t, hl, ?_, ?_⟩
    · unfold Lib.cut
      rw [h1, if_pos (by omega)]
      have : l.drop (i + 2) = t := by rw [← List.drop_drop, ht]; rfl
      show (l.take (Int.toNat (i : Int)), l.drop (Int.toNat (i : Int) + 2), true) = _
      rw [show Int.toNat (i : Int) = i from rfl, this]
    · have := qpB_line (l.take i) t 0 (fun j hj => by rw [← hl, ← occ_crlf]; exact h4 j (by rw [hlen] at hj; exact hj))
      rw [← hl] at this
      exact this
/-- Around the first byte x. -/
theorem cut_one (x : UInt8) (l : List UInt8) : (x ∉ l ∧ Lib.cut l [x] = (l, [], false)) ∨ (∃ a b, l = a ++ x :: b ∧ x ∉ a ∧ Lib.cut l [x] = (a, b, true)) := by
  by_cases h : x ∈ l
  · obtain ⟨a, b, e, ha, hi⟩ := index_nat x l h
    refine .inr ⟨a, b, e, ha, ?_⟩
    unfold Lib.cut
    rw [hi, if_pos (by omega), show Int.toNat (a.length : Int) = a.length from rfl]
    have e1 : l.take a.length = a := by rw [e]; simp
    have e2 : l.drop (a.length + ([x] : List UInt8).length) = b := by
      rw [e, ← List.drop_drop]; simp
    rw [e1, e2]
  · refine .inl ⟨h, ?_⟩
    unfold Lib.cut
    rw [index_not _ _ h, if_neg (by decide)]

/-- What is left to do. -/
def left14 : Value → Value → Nat
  | .string r, .bool true => r.size + 1
  | _, _ => 0
theorem left14_yes (r : ByteArray) : left14 (.string r) (.bool true) = r.size + 1 := rfl
theorem left14_no (r : ByteArray) : left14 (.string r) (.bool false) = 0 := rfl
theorem cut_call (x : ByteArray) (s : ByteArray) (hs : s.size ≤ 10000000) (w : World) (hv : Vars w) :
    Calls Tryd.prog 29 #[.string s, .string x] w fun e w' => e = .returned (.tuple #[.string (strL (Lib.cut s.data.toList x.data.toList).1), .string (strL (Lib.cut s.data.toList x.data.toList).2.1), .bool (Lib.cut s.data.toList x.data.toList).2.2]) ∧ Below w.heap.size w w' := by
  obtain ⟨m, hm⟩ := hv.len
  refine (Tryd.strings_Cut s x m w (by omega) hm).mono fun e w' h => ⟨h.1, ?_⟩
  obtain ⟨n, rfl⟩ := h.2
  exact ⟨rfl, rfl, rfl, Nat.le_refl _, fun _ _ => rfl⟩

set_option maxHeartbeats 4000000 in
set_option maxRecDepth 1000000 in
theorem qp_any (s : ByteArray) (hs : s.size ≤ 1000000) (w : World) (hv : Vars w) :
    Calls Tryd.prog 14 #[.string s] w fun e w' => e = .returned (.string (strL (qpL s.data.toList))) ∧ Below w.heap.size w w' := by
  have hlow := hv.low
  obtain ⟨ANS, hANS⟩ : ∃ ANS, qpL s.data.toList = ANS := ⟨_, rfl⟩
  rw [hANS]
  go_enter Tryd.func14, Tryd.ntmps14
  go_wp2
  have hB0 : Bd (w.alloc (.cells #[.pointer none, .slice none 0 0] 31)) w.heap.size [] := bd_new (Go.heap_alloc_new _ _)
  have hb0 : Below w.heap.size w (w.alloc (.cells #[.pointer none, .slice none 0 0] 31)) := (Below.refl _ w).alloc (Nat.le_refl _) _
  go_loopw [0, 4] (fun v q wr => ∃ (r : ByteArray) (mo : Bool) (acc : List UInt8), v = .string r ∧ q = .bool mo ∧ Bd wr w.heap.size acc ∧ Below w.heap.size w wr ∧
      Hid ((mo = true → acc ++ qpL r.data.toList = ANS) ∧ (mo = false → acc = ANS)) ∧ r.size ≤ s.size ∧ acc.length + 6 * r.size ≤ 6 * s.size + 2)
    (fun v q _ => left14 v q)
  case atStart => exact ⟨s, true, [], rfl, rfl, hB0, hb0, Lib.hid ⟨fun _ => hANS, fun h => absurd h (by decide)⟩, Nat.le_refl _, by simp⟩
  case round =>
    clear hB0 hb0 hANS
    obtain ⟨r, mo, acc, rfl, rfl, hB, hbw, hacc, hr, hal⟩ := hrel
    have hszr := hB.lt
    cases mo with
    | true =>
      have hvr := hv.at hbw hlow
      have hc := cut_call ⟨#[13, 10]⟩ r (by omega) wr hvr
      have hha := hacc.out.1 rfl
      rw [show (⟨#[13, 10]⟩ : ByteArray).data.toList = [13, 10] from rfl] at hc
      rcases cut_crlf r.data.toList with ⟨h1, h2⟩ | ⟨a, b, h0, h1, h2⟩
      · rw [h1] at hc
        simp only [strL_of] at hc
        have hrl := lineQ_length r.data.toList 0
        rw [← size_list] at hrl
        have HC := Lib.hid hc
        have HA := Lib.hid (by rw [← hha, h2] : acc ++ lineQ 0 r.data.toList = ANS)
        clear hc h1 h2 hacc hha
        go_wp2_with (first
          | (go_at_call 29; refine HC.out.mono ?_; rintro e w2 ⟨rfl, hb2⟩; have hB2 := hB.below hb2)
          | (go_at_call 31; with_reducible refine (line_any r (by omega) w.heap.size acc (by omega) _ (by assumption)).mono ?_; rintro e w3 ⟨rfl, hB3, hb3⟩))
        go_roundw
        case rel =>
          refine ⟨strL [], false, _, rfl, rfl, hB3, (hbw.trans (hb2.mono (Nat.le_of_lt hszr))).trans hb3, Lib.hid ⟨fun h => absurd h (by decide), fun _ => HA.out⟩, by rw [strL_size]; exact Nat.zero_le _, by rw [strL_size, List.length_append, List.length_nil]; omega⟩
        case measure => show left14 _ _ < left14 _ _; simp [left14]
      · rw [h1] at hc
        have hab : r.size = a.length + (b.length + 2) := by rw [size_list, h0, List.length_append]; rfl
        have hrl := lineQ_length a 0
        have HC := Lib.hid hc
        have HA := Lib.hid (by rw [← hha, h2] : acc ++ (lineQ 0 a ++ 13 :: 10 :: qpL b) = ANS)
        have hla := fun W h => line_any (strL a) (by rw [strL_size]; omega) w.heap.size acc (by omega) W h
        rw [strL_list] at hla
        have HL := Lib.hid hla
        have HZ := Lib.hid (by rw [List.length_append, show (⟨#[13, 10]⟩ : ByteArray).size = 2 from rfl]; omega : (acc ++ lineQ 0 a).length + (⟨#[13, 10]⟩ : ByteArray).size ≤ 140737488355328)
        clear hc h1 h2 hacc hha hla h0
        go_wp2_with (first
          | (go_at_call 29; refine HC.out.mono ?_; rintro e w2 ⟨rfl, hb2⟩; have hB2 := hB.below hb2)
          | (go_at_call 31; refine (HL.out _ (by assumption)).mono ?_; rintro e w3 ⟨rfl, hB3, hb3⟩)
          | (go_at_call 26; refine (bd_str ⟨#[13, 10]⟩ w.heap.size _ _ (by assumption) HZ.out).mono ?_; rintro e w4 ⟨rfl, hB4, hb4⟩))
        go_roundw
        case rel =>
          refine ⟨strL b, true, _, rfl, rfl, hB4, ((hbw.trans (hb2.mono (Nat.le_of_lt hszr))).trans hb3).trans hb4, Lib.hid ⟨fun _ => ?_, fun h => absurd h (by decide)⟩, by rw [strL_size]; omega, ?_⟩
          · rw [← HA.out, strL_list]
            simp
          · rw [strL_size, List.length_append, List.length_append]
            show _ + 2 + _ ≤ _
            omega
        case measure => show left14 _ _ < left14 _ _; rw [left14_yes, left14_yes, strL_size]; omega
    | false =>
      have hend := hacc.out.2 rfl
      subst hend
      clear hacc
      go_wp2_with (go_at_call 27; refine (bd_out w.heap.size _ wr hB).mono ?_; rintro e W2 ⟨rfl, b1⟩)
      go_ret
      exact ⟨rfl, hbw.trans b1⟩
end Go.Proofs.YtblbajhjmdcdiaaDoor
