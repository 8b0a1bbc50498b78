/- base64: a text's groups, written. -/
import Derived.Test.YtblbajhjmdcdiaaDoorB64
namespace Go.Proofs.YtblbajhjmdcdiaaDoor
open Go.ChangeShapes Go.WideShapes Go.ChangeAt Go.RowKit

def left10 : Value → Nat
  | .string r => r.size
  | _ => 0
theorem below_own_cells {w w' : World} {g : Nat} {cs : Array Value} {t : TypeId} {fr : Nat × Nat} (h : w.heap[g]? = some (.cells cs t fr)) (hb : Below w.heap.size w w') : w'.heap[g]? = some (.cells cs t fr) := by
  rw [hb.block g (Array.getElem?_eq_some_iff.1 h).1]; exact h
set_option maxHeartbeats 4000000 in
set_option maxRecDepth 1000000 in
theorem b64_any (s : ByteArray) (hs : s.size ≤ 1000000) (w : World) :
    Calls Tryd.prog 10 #[.string s] w fun e w' => e = .returned (.string (strL (b64L s.data.toList))) ∧ Below w.heap.size w w' := by
  obtain ⟨ANS, hANS⟩ : ∃ ANS, b64L s.data.toList = ANS := ⟨_, rfl⟩
  rw [hANS]
  go_enter Tryd.func10, Tryd.ntmps10
  go_wp2
  have hB0 : Bd (w.alloc (.cells #[.pointer none, .slice none 0 0] 31)) w.heap.size [] := bd_new (Go.heap_alloc_new _ _)
  have hb0 : Below w.heap.size w (w.alloc (.cells #[.pointer none, .slice none 0 0] 31)) := (Below.refl _ w).alloc (Nat.le_refl _) _
  go_loopw [0, 4] (fun v i wr => ∃ (r : ByteArray) (k : Nat) (acc : List UInt8), v = .string r ∧ i = .int .i64 ((k : Int) + 1) ∧ Bd wr w.heap.size acc ∧ Below w.heap.size w wr ∧
      Hid (acc ++ b64G k r.data.toList = ANS) ∧ k + r.size ≤ s.size ∧ acc.length + 6 * r.size ≤ 6 * s.size)
    (fun v _ _ => left10 v)
  case atStart => exact ⟨s, 0, [], rfl, rfl, hB0, hb0, Lib.hid hANS, by omega, by simp⟩
  case round =>
    clear hB0 hb0 hANS
    obtain ⟨r, k, acc, rfl, rfl, hB, hbw, hacc, hk, hal⟩ := hrel
    have hszr := hB.lt
    by_cases h0 : r.size = 0
    · have hr0 : r.data.toList = [] := List.eq_nil_of_length_eq_zero (by rw [← size_list]; exact h0)
      obtain rfl : r = ⟨#[]⟩ := bytes_is hr0
      have hend : acc = ANS := by
        rw [← hacc.out]
        exact (List.append_nil _).symm
      subst hend
      clear hacc hr0
      go_wp2_with (go_at_call 27; refine (bd_out w.heap.size _ wr hB).mono ?_; rintro e W2 ⟨rfl, b1⟩)
      go_ret
      exact ⟨rfl, hbw.trans b1⟩
    · have hE : r.toList.isEmpty = false := by
        rw [ByteArray.toList_eq, List.isEmpty_eq_false_iff]
        exact fun e => h0 (by rw [size_list, e]; rfl)
      obtain ⟨T, hT⟩ : ∃ T, r.extract 0 (min 3 (r.size : Int)).toNat = T := ⟨_, rfl⟩
      have hTl : T.data.toList = r.data.toList.take 3 := by
        rw [← hT, part_of r 0 _ (Nat.zero_le _) (by omega), strL_list, List.drop_zero, Nat.sub_zero]
        by_cases h : 3 ≤ r.size
        · rw [show (min 3 (r.size : Int)).toNat = 3 by omega]
        · rw [show (min 3 (r.size : Int)).toNat = r.size by omega, List.take_of_length_le (by rw [← size_list]; exact Nat.le_refl _), List.take_of_length_le (by rw [← size_list]; omega)]
      have hTs : T.size = min 3 r.size := by rw [size_list, hTl, List.length_take, ← size_list]
      have hTr : T.size ≤ r.size := by omega
      have hT1 : 1 ≤ T.size := by omega
      have hT3 : T.size ≤ 3 := by omega
      obtain ⟨R, hR⟩ : ∃ R, r.extract T.size r.size = R := ⟨_, rfl⟩
      have hRl : R.data.toList = r.data.toList.drop 3 := by
        rw [← hR, part_rest r T.size hTr]
        by_cases h : 3 ≤ r.size
        · rw [show T.size = 3 by omega]
        · rw [List.drop_eq_nil_of_le (by rw [← size_list]; omega), List.drop_eq_nil_of_le (by rw [← size_list]; omega)]
      have hRs : R.size = r.size - 3 := by rw [size_list, hRl, List.length_drop, ← size_list]
      have hne : r.data.toList ≠ [] := fun e => h0 (by rw [size_list, e]; rfl)
      have hd := b64G_step k r.data.toList hne
      have hTne : T.data.toList ≠ [] := fun e => by
        have := size_list T
        rw [e, List.length_nil] at this
        omega
      have hg := fun W => group_any T hTne hT3 W
      rw [← hTl, ← hRl] at hd
      obtain ⟨a, b, c, d, hq⟩ : ∃ a b c d, quad T.data.toList = [a, b, c, d] := by
        have := quad_length hTne
        match hh : quad T.data.toList with
        | [a, b, c, d] => exact ⟨a, b, c, d, rfl⟩
        | [] => rw [hh] at this; cases this
        | [_] => rw [hh] at this; cases this
        | [_, _] => rw [hh] at this; cases this
        | [_, _, _] => rw [hh] at this; cases this
        | _ :: _ :: _ :: _ :: _ :: _ => rw [hh] at this; simp at this
      rw [hq] at hg hd
      rw [show (cellsOf [a, b, c, d]).toArray = #[.int .u8 (a.toNat : Int), .int .u8 (b.toNat : Int), .int .u8 (c.toNat : Int), .int .u8 (d.toNat : Int)] from rfl] at hg
      have HG := Lib.hid hg
      have HY1 := Lib.hid (by omega : acc.length + 4 ≤ 140737488355328)
      have HY2 := Lib.hid (by rw [List.length_append, show (⟨#[13, 10]⟩ : ByteArray).size = 2 from rfl]; simp only [List.length_cons, List.length_nil]; omega : (acc ++ [a, b, c, d]).length + (⟨#[13, 10]⟩ : ByteArray).size ≤ 140737488355328)
      have hRe : R.toList.isEmpty = decide (R.data.toList = []) := by
        rw [ByteArray.toList_eq, Bool.eq_iff_iff, List.isEmpty_iff, decide_eq_true_eq]
      clear hg hTl hRl hTs hne hTne hq
      by_cases h19 : (k + 1) % 19 = 0
      · rw [if_pos (Or.inl h19)] at hd
        have HD := Lib.hid hd
        have e19 : (((k : Int) + 1) % 19 == 0) = true := by rw [beq_iff_eq]; omega
        clear hd hRe h19
        go_wp2_with (first
          | (go_at_call 24; refine (HG.out _).mono ?_; rintro e w2 ⟨rfl, hb2⟩; have hB2 := (hB.below hb2).alloc (.cells #[.int .u8 (a.toNat : Int), .int .u8 (b.toNat : Int), .int .u8 (c.toNat : Int), .int .u8 (d.toNat : Int)] 32); have hsz2 := hb2.size)
          | (go_at_call 25; refine (bd_write w.heap.size acc w2.heap.size 4 4 [a, b, c, d] 32 _ hB2 (Go.heap_alloc_new _ _) (by omega) rfl HY1.out).mono ?_; rintro e w3 ⟨rfl, hB3, hb3⟩)
          | (go_at_call 26; refine (bd_str ⟨#[13, 10]⟩ w.heap.size _ _ hB3 HY2.out).mono ?_; rintro e w4 ⟨rfl, hB4, hb4⟩))
        go_roundw
        case rel =>
          have hb2' : Below w.heap.size wr (w2.alloc (.cells #[.int .u8 (a.toNat : Int), .int .u8 (b.toNat : Int), .int .u8 (c.toNat : Int), .int .u8 (d.toNat : Int)] 32)) := (hb2.mono (Nat.le_of_lt hszr)).alloc (by omega) _
          refine ⟨R, k + 1, _, rfl, by go_num, hB4, ((hbw.trans hb2').trans hb3).trans hb4, Lib.hid ?_, by omega, by simp only [List.length_append, List.length_cons, List.length_nil]; omega⟩
          rw [← hacc.out, HD.out]
          simp
        case measure => show R.size < r.size; omega
      · have e19 : (((k : Int) + 1) % 19 == 0) = false := by rw [beq_eq_false_iff_ne]; omega
        by_cases hRn : R.data.toList = []
        · rw [if_pos (Or.inr hRn)] at hd
          have HD := Lib.hid hd
          rw [decide_eq_true hRn] at hRe
          clear hd h19 hRn
          go_wp2_with (first
            | (go_at_call 24; refine (HG.out _).mono ?_; rintro e w2 ⟨rfl, hb2⟩; have hB2 := (hB.below hb2).alloc (.cells #[.int .u8 (a.toNat : Int), .int .u8 (b.toNat : Int), .int .u8 (c.toNat : Int), .int .u8 (d.toNat : Int)] 32); have hsz2 := hb2.size)
            | (go_at_call 25; refine (bd_write w.heap.size acc w2.heap.size 4 4 [a, b, c, d] 32 _ hB2 (Go.heap_alloc_new _ _) (by omega) rfl HY1.out).mono ?_; rintro e w3 ⟨rfl, hB3, hb3⟩)
            | (go_at_call 26; refine (bd_str ⟨#[13, 10]⟩ w.heap.size _ _ hB3 HY2.out).mono ?_; rintro e w4 ⟨rfl, hB4, hb4⟩))
          go_roundw
          case rel =>
            have hb2' : Below w.heap.size wr (w2.alloc (.cells #[.int .u8 (a.toNat : Int), .int .u8 (b.toNat : Int), .int .u8 (c.toNat : Int), .int .u8 (d.toNat : Int)] 32)) := (hb2.mono (Nat.le_of_lt hszr)).alloc (by omega) _
            refine ⟨R, k + 1, _, rfl, by go_num, hB4, ((hbw.trans hb2').trans hb3).trans hb4, Lib.hid ?_, by omega, by simp only [List.length_append, List.length_cons, List.length_nil]; omega⟩
            rw [← hacc.out, HD.out]
            simp
          case measure => show R.size < r.size; omega
        · rw [if_neg (fun h => h.elim h19 hRn)] at hd
          have HD := Lib.hid hd
          rw [decide_eq_false hRn] at hRe
          clear hd h19 hRn
          go_wp2_with (first
            | (go_at_call 24; refine (HG.out _).mono ?_; rintro e w2 ⟨rfl, hb2⟩; have hB2 := (hB.below hb2).alloc (.cells #[.int .u8 (a.toNat : Int), .int .u8 (b.toNat : Int), .int .u8 (c.toNat : Int), .int .u8 (d.toNat : Int)] 32); have hsz2 := hb2.size)
            | (go_at_call 25; refine (bd_write w.heap.size acc w2.heap.size 4 4 [a, b, c, d] 32 _ hB2 (Go.heap_alloc_new _ _) (by omega) rfl HY1.out).mono ?_; rintro e w3 ⟨rfl, hB3, hb3⟩))
          go_roundw
          case rel =>
            have hb2' : Below w.heap.size wr (w2.alloc (.cells #[.int .u8 (a.toNat : Int), .int .u8 (b.toNat : Int), .int .u8 (c.toNat : Int), .int .u8 (d.toNat : Int)] 32)) := (hb2.mono (Nat.le_of_lt hszr)).alloc (by omega) _
            refine ⟨R, k + 1, _, rfl, by go_num, hB3, (hbw.trans hb2').trans hb3, Lib.hid ?_, by omega, by simp only [List.length_append, List.length_cons, List.length_nil]; omega⟩
            rw [← hacc.out, HD.out]
            simp
          case measure => show R.size < r.size; omega
end Go.Proofs.YtblbajhjmdcdiaaDoor
