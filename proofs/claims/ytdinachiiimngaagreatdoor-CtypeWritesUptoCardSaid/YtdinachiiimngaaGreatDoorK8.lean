/- The program's writeValue, Line and Write. The program's percentDecoded, decodedBytes, prefix and joined. The program's decodedBytes, prefix and joined. -/
import Derived.Test.YtdinachiiimngaaGreatDoorK7
import Derived.Test.YtdinachiiimngaaGreatDoorK5
import Derived.Test.YtdinachiiimngaaGreatDoorKShelf3
import Derived.Test.YtdinachiiimngaaGreatDoorK4
import Derived.Test.YtdinachiiimngaaGreatDoorKNuUnhex2
import Derived.Test.YtdinachiiimngaaGreatDoorK10
import Derived.Deep.RegionHeld3
import Derived.Test.YtdinachiiimngaaGreatDoorK2
namespace Go.Proofs.YtdinachiiimngaaGreatDoor
open Go.ChangeShapes Go.WideShapes Go.ChangeAt Go.RowKit
open TokP AdrP CtP

theorem any_in (chars : List UInt8) : ∀ l : List UInt8, Lib.containsAny l chars = l.any (fun b => chars.contains b)
  | [] => rfl
  | b :: l => by
    have ih := any_in chars l
    have hg := Lib.indexAny_ge chars l
    unfold Lib.containsAny at ih ⊢
    rw [Lib.indexAny, List.any_cons]
    cases h : chars.contains b with
    | true => rfl
    | false =>
      rw [if_neg Bool.false_ne_true, Bool.false_or, ← ih]
      by_cases h3 : Lib.indexAny l chars = -1
      · rw [h3]; rfl
      · rw [if_neg (by rw [beq_iff_eq]; exact h3), Bool.eq_iff_iff, decide_eq_true_eq, decide_eq_true_eq]
        omega
def stopB : List UInt8 := [32, 40, 41, 60, 62, 64, 44, 59, 58, 92, 34, 47, 91, 93, 63, 61]
theorem plain_fact : ∀ n : Fin 256, ((decide (32 ≤ (UInt8.ofNat n.val).toNat) && decide ((UInt8.ofNat n.val).toNat ≤ 126)) && !stopB.contains (UInt8.ofNat n.val)) = (decide (33 ≤ (UInt8.ofNat n.val).toNat) && decide ((UInt8.ofNat n.val).toNat ≤ 126) && !([40, 41, 60, 62, 64, 44, 59, 58, 92, 34, 47, 91, 93, 63, 61].contains (UInt8.ofNat n.val))) := by decide +kernel
theorem plain_is (v : List UInt8) : plainV v = (!v.isEmpty && (quotedV v && !v.any (fun b => stopB.contains b))) := by
  unfold plainV quotedV
  congr 1
  have hb : ∀ c : UInt8, ((decide (32 ≤ c.toNat) && decide (c.toNat ≤ 126)) && !stopB.contains c) = (decide (33 ≤ c.toNat) && decide (c.toNat ≤ 126) && !([40, 41, 60, 62, 64, 44, 59, 58, 92, 34, 47, 91, 93, 63, 61].contains c)) :=
    fun c => byte_all (P := fun c => ((decide (32 ≤ c.toNat) && decide (c.toNat ≤ 126)) && !stopB.contains c) = (decide (33 ≤ c.toNat) && decide (c.toNat ≤ 126) && !([40, 41, 60, 62, 64, 44, 59, 58, 92, 34, 47, 91, 93, 63, 61].contains c))) plain_fact c
  induction v with
  | nil => rfl
  | cons c v ih =>
    rw [List.all_cons, List.all_cons, List.any_cons, ih, ← hb c, Bool.not_or]
    generalize (decide (32 ≤ c.toNat) && decide (c.toNat ≤ 126)) = a
    generalize stopB.contains c = d
    generalize v.all _ = e
    generalize v.any _ = f
    cases a <;> cases d <;> cases e <;> cases f <;> rfl
theorem Wr.trans {b : Nat} {w0 w1 w2 : World} {L1 L2 : List UInt8} (h : Wr b w0 w1 L1) (k : Wr b w1 w2 L2) : Wr b w0 w2 L2 := ⟨k.bk, h.below.trans k.below, h.kept.trans k.kept⟩
theorem ascii_quoted {v : List UInt8} (h : quotedV v = true) : ∀ (j : Nat) (b : UInt8), v[j]? = some b → b.toNat < 128 := fun j b hb => by
  unfold quotedV at h
  rw [List.all_eq_true] at h
  have := h b (List.mem_of_getElem? hb)
  rw [Bool.and_eq_true, decide_eq_true_eq, decide_eq_true_eq] at this
  omega
theorem stop_ascii : ∀ (j : Nat) (b : UInt8), stopB[j]? = some b → b.toNat < 128 := fun j b hb => by
  have : stopB.all (fun b => decide (b.toNat < 128)) = true := by decide
  rw [List.all_eq_true] at this
  have := this b (List.mem_of_getElem? hb)
  rwa [decide_eq_true_eq] at this
theorem fmt_len (v : List UInt8) : (fmtV v).length ≤ 3 * v.length + 10 := by
  have h1 := escQ_len v
  have h2 := pctE_len v
  unfold fmtV utf8N
  split
  · simp; omega
  · split
    · simp; omega
    · simp; omega
set_option maxRecDepth 100000 in
set_option maxHeartbeats 4000000 in
theorem value_w (s : ByteArray) (hs : s.size ≤ 4000000) (b : Nat) (L : List UInt8) (hL : L.length + 3 * s.size + 100 ≤ 140737488355328) (w : World) (hb : Bk w b L) :
    Calls Tryz.prog 43 #[.pointer (some ⟨b, 0, none⟩), .string s] w fun e w' => e = .returned (.tuple #[]) ∧ Wr b w w' (L ++ fmtV s.data.toList) := by
  have hz := size_list s
  have H0 := Lib.hid (Wr.first hb)
  have cP := fun W => print_any s (by omega) W
  have hpl := plain_is s.data.toList
  have cA := fun (h : quotedV s.data.toList = true) W => Tryz.strings_ContainsAny_laid s (strL stopB) W (by omega) (by rw [strL_size]; decide) (ascii_quoted h) (by rw [strL_list]; exact stop_ascii)
  rw [strL_list, any_in] at cA
  have c0 : ∀ W (_ : Hid (Wr b w W L)), _ := fun W h => wr_byte 61 61 rfl h.out (by omega)
  have cQ : ∀ W (_ : Hid (Wr b w W (L ++ [61]))), _ := fun W h => quoted_any s hs b (L ++ [61]) (by rw [List.length_append, List.length_singleton]; omega) W h.out.bk
  have cV : ∀ W (_ : Hid (Wr b w W (L ++ [61]))), _ := fun W h => wr_str s h.out (by rw [List.length_append, List.length_singleton]; omega)
  have cS : ∀ W (_ : Hid (Wr b w W L)), Calls Tryz.prog 42 #[.pointer (some ⟨b, 0, none⟩), .string ⟨#[42, 61, 117, 116, 102, 45, 56, 39, 39]⟩] W fun e w' => (∃ z, e = .returned (.tuple #[.int .i64 z, .nilIface])) ∧ Wr b w w' (L ++ [42, 61, 117, 116, 102, 45, 56, 39, 39]) := fun W h => (wr_str ⟨#[42, 61, 117, 116, 102, 45, 56, 39, 39]⟩ h.out (by show L.length + 9 ≤ _; omega)).mono fun _ _ h => ⟨⟨_, h.1⟩, h.2⟩
  have cE : ∀ W (_ : Hid (Wr b w W (L ++ [42, 61, 117, 116, 102, 45, 56, 39, 39]))), _ := fun W h => encoded_any s hs b (L ++ [42, 61, 117, 116, 102, 45, 56, 39, 39]) (by rw [List.length_append]; simp; omega) W h.out.bk
  have hem : s.toList.isEmpty = s.data.toList.isEmpty := by rw [ByteArray.toList_eq]
  have HT1 := Lib.hid (fun (h : plainV s.data.toList = true) => show (L ++ [61]) ++ s.data.toList = L ++ fmtV s.data.toList by unfold fmtV; rw [if_pos h, List.append_assoc]; rfl)
  have HT2 := Lib.hid (fun (h : ¬ plainV s.data.toList = true) (h2 : quotedV s.data.toList = true) => show (L ++ [61]) ++ 34 :: (escQ s.data.toList ++ [34]) = L ++ fmtV s.data.toList by unfold fmtV; rw [if_neg h, if_pos h2, List.append_assoc]; rfl)
  have HT3 := Lib.hid (fun (h : ¬ plainV s.data.toList = true) (h2 : ¬ quotedV s.data.toList = true) => show (L ++ [42, 61, 117, 116, 102, 45, 56, 39, 39]) ++ pctE s.data.toList = L ++ fmtV s.data.toList by unfold fmtV utf8N; rw [if_neg h, if_neg h2, List.append_assoc]; rfl)
  have he1 : (s.toList != []) = !s.data.toList.isEmpty := by rw [ByteArray.toList_eq]; cases s.data.toList <;> rfl
  rw [← hem] at hpl
  generalize hee : s.toList.isEmpty = e0 at hpl
  clear hb hL hz he1
  cases hq : quotedV s.data.toList with
  | true =>
    rw [hq] at cP hpl
    cases e0 with
    | true =>
      have HR := Lib.hid (HT2.out (by rw [hpl]; simp) hq)
      clear hq hem hpl HT1 HT2 HT3 cA
      go_enter Tryz.func43, Tryz.ntmps43
      go_wp2_with (first
        | (go_at_call 78; (with_reducible refine (cP _).mono ?_); rintro e w5 ⟨rfl, rfl⟩)
        | (go_at_call 80; (with_reducible refine (c0 _ H0).mono ?_); rintro e w1 ⟨rfl, hq1⟩; have H1 := Lib.hid hq1; clear hq1 c0)
        | (go_at_call 81; (with_reducible refine (cQ _ H1).mono ?_); rintro e w2 ⟨rfl, hq2⟩; have H2 := Lib.hid (H1.out.trans hq2); clear hq2 cQ))
      go_end0
      exact ⟨rfl, by rw [← HR.out]; exact H2.out⟩
    | false =>
      replace cA := cA hq
      cases hy : s.data.toList.any (fun b => stopB.contains b) with
      | true =>
        rw [hy] at cA hpl
        have HR := Lib.hid (HT2.out (by rw [hpl]; simp) hq)
        clear hy
        have hstop : strL stopB = ⟨#[32, 40, 41, 60, 62, 64, 44, 59, 58, 92, 34, 47, 91, 93, 63, 61]⟩ := rfl
        rw [hstop] at cA
        clear hq hem hpl HT1 HT2 HT3 hstop
        go_enter Tryz.func43, Tryz.ntmps43
        go_wp2_with (first
          | (go_at_call 78; (with_reducible refine (cP _).mono ?_); rintro e w5 ⟨rfl, rfl⟩)
          | (go_at_call 79; (with_reducible refine (cA _).mono ?_); rintro e w6 ⟨rfl, hq6⟩; have H6 := Lib.hid (H0.out.other hq6); clear hq6 cA)
          | (go_at_call 80; (with_reducible refine (c0 _ H6).mono ?_); rintro e w1 ⟨rfl, hq1⟩; have H1 := Lib.hid hq1; clear hq1 c0)
          | (go_at_call 81; (with_reducible refine (cQ _ H1).mono ?_); rintro e w2 ⟨rfl, hq2⟩; have H2 := Lib.hid (H1.out.trans hq2); clear hq2 cQ))
        go_end0
        exact ⟨rfl, by rw [← HR.out]; exact H2.out⟩
      | false =>
        rw [hy] at cA hpl
        have HR := Lib.hid (HT1.out hpl)
        clear hy
        have hstop : strL stopB = ⟨#[32, 40, 41, 60, 62, 64, 44, 59, 58, 92, 34, 47, 91, 93, 63, 61]⟩ := rfl
        rw [hstop] at cA
        clear hq hem hpl HT1 HT2 HT3 hstop
        go_enter Tryz.func43, Tryz.ntmps43
        go_wp2_with (first
          | (go_at_call 78; (with_reducible refine (cP _).mono ?_); rintro e w5 ⟨rfl, rfl⟩)
          | (go_at_call 79; (with_reducible refine (cA _).mono ?_); rintro e w6 ⟨rfl, hq6⟩; have H6 := Lib.hid (H0.out.other hq6); clear hq6 cA)
          | (go_at_call 80; (with_reducible refine (c0 _ H6).mono ?_); rintro e w1 ⟨rfl, hq1⟩; have H1 := Lib.hid hq1; clear hq1 c0)
          | (go_at_call 42; (with_reducible refine (cV _ H1).mono ?_); rintro e w2 ⟨rfl, hq2⟩; have H2 := Lib.hid hq2; clear hq2 cV))
        go_end0
        exact ⟨rfl, by rw [← HR.out]; exact H2.out⟩
  | false =>
    rw [hq] at cP hpl
    have hp : ¬ plainV s.data.toList = true := by rw [hpl]; simp
    have HR := Lib.hid (HT3.out hp (by rw [hq]; decide))
    clear hp
    cases e0 with
    | true =>
      clear hq hem hpl HT1 HT2 HT3 cA
      go_enter Tryz.func43, Tryz.ntmps43
      go_wp2_with (first
        | (go_at_call 78; (with_reducible refine (cP _).mono ?_); rintro e w5 ⟨rfl, rfl⟩)
        | (go_at_call 42; (with_reducible refine (cS _ H0).mono ?_); rintro e w1 ⟨⟨z1, rfl⟩, hq1⟩; have H1 := Lib.hid hq1; clear hq1 cS)
        | (go_at_call 82; (with_reducible refine (cE _ H1).mono ?_); rintro e w2 ⟨rfl, hq2⟩; have H2 := Lib.hid (H1.out.trans hq2); clear hq2 cE))
      go_end0
      exact ⟨rfl, by rw [← HR.out]; exact H2.out⟩
    | false =>
      clear hq hem hpl HT1 HT2 HT3 cA
      go_enter Tryz.func43, Tryz.ntmps43
      go_wp2_with (first
        | (go_at_call 78; (with_reducible refine (cP _).mono ?_); rintro e w5 ⟨rfl, rfl⟩)
        | (go_at_call 42; (with_reducible refine (cS _ H0).mono ?_); rintro e w1 ⟨⟨z1, rfl⟩, hq1⟩; have H1 := Lib.hid hq1; clear hq1 cS)
        | (go_at_call 82; (with_reducible refine (cE _ H1).mono ?_); rintro e w2 ⟨rfl, hq2⟩; have H2 := Lib.hid (H1.out.trans hq2); clear hq2 cE))
      go_end0
      exact ⟨rfl, by rw [← HR.out]; exact H2.out⟩
theorem lineW_step (F : List UInt8) (l : List (List UInt8 × List UInt8)) (k : Nat) (p : List UInt8 × List UInt8) (h : l[k]? = some p) : lineW F (l.take (k + 1)) = ((lineW F (l.take k) ++ [59, 32]) ++ p.1) ++ fmtV p.2 := by
  unfold lineW
  rw [List.take_add_one, h, Option.toList_some, List.flatMap_append, List.flatMap_singleton]
  unfold rowW
  simp
theorem lineW_le (F : List UInt8) (l : List (List UInt8 × List UInt8)) (k : Nat) : (lineW F (l.take k)).length ≤ (lineW F l).length := by
  have e : l = l.take k ++ l.drop k := (List.take_append_drop k l).symm
  conv => rhs; rw [e]
  unfold lineW
  rw [List.length_append, List.length_append, List.flatMap_append, List.length_append]
  omega
set_option maxRecDepth 100000 in
set_option maxHeartbeats 4000000 in
theorem line_w (F : ByteArray) (v : Value) (l : List (List UInt8 × List UInt8)) (hv : ∀ p ∈ l, p.2.length ≤ 4000000) (hl : l.length ≤ 4000000) (hz : (lineW F.data.toList l).length + 20000000 ≤ 140737488355328) (w : World) (h : Hid (HasP w v l)) :
    Calls Tryz.prog 20 #[.string F, v] w fun e w' => e = .returned (.string (strL (lineW F.data.toList l))) ∧ Below w.heap.size w w' := by
  obtain ⟨a, c, rfl⟩ := h.out.form
  obtain ⟨n, hn⟩ : ∃ n, l.length = n := ⟨_, rfl⟩
  rw [hn] at h hl ⊢
  have HN := Lib.hid hn
  have HVL := Lib.hid hv
  have HZ := Lib.hid hz
  have hF : F.size ≤ 140737488351328 := by
    have := lineW_le F.data.toList l 0
    rw [List.take_zero] at this
    have h0 : lineW F.data.toList [] = F.data.toList := by unfold lineW; simp
    rw [h0, ← size_list] at this
    omega
  have H0 : Hid (Wr w.heap.size (w.alloc (.cells #[.pointer none, .slice none 0 0] 61)) (w.alloc (.cells #[.pointer none, .slice none 0 0] 61)) []) := Lib.hid (Wr.first (bk_new w))
  have HB0 := Lib.hid ((Below.refl w.heap.size w).alloc (Nat.le_refl _) (.cells #[.pointer none, .slice none 0 0] 61))
  have c0 : ∀ W (_ : Hid (Wr w.heap.size (w.alloc (.cells #[.pointer none, .slice none 0 0] 61)) W [])), _ := fun W h => wr_str F h.out (by show 0 + F.size ≤ _; omega)
  clear hn hv hz
  go_enter Tryz.func20, Tryz.ntmps20
  go_wp2_with (go_at_call 42; (with_reducible refine (c0 _ H0).mono ?_); rintro e w1 ⟨rfl, hq1⟩; have H1 := Lib.hid (And.intro hq1.bk (HB0.out.trans hq1.below)); clear hq1 c0)
  go_loopw [12] (fun i wr => ∃ k : Nat, k ≤ n ∧ i = .int .i64 k ∧ Hid (Bk wr w.heap.size (lineW F.data.toList (l.take k)) ∧ Below w.heap.size w wr)) (fun i _ => n - (intOf i).toNat)
  case atStart => exact ⟨0, Nat.zero_le _, rfl, by
    have h0 : lineW F.data.toList (l.take 0) = [] ++ F.data.toList := by unfold lineW; simp
    rw [h0]; exact H1⟩
  case round =>
    obtain ⟨k, hk, rfl, HST⟩ := hrel
    have F1 : IntKind.i64.wrap ((k : Int) + 1) = (k : Int) + 1 := by rw [IntKind.wrap_i64]; omega
    clear H1 H0
    by_cases hlt : k < n
    · have hlt' : (k : Int) < (n : Int) := by omega
      obtain ⟨g, o, rfl, hfa⟩ := h.out.at (by omega)
      obtain ⟨p, hp⟩ : ∃ p, l[k]? = some p := ⟨_, List.getElem?_eq_getElem (by rw [HN.out]; exact hlt)⟩
      obtain ⟨p0, p1⟩ := hfa.step HST.out.2 k p hp
      have hle := lineW_le F.data.toList l (k + 1)
      have hstep := lineW_step F.data.toList l k p hp
      have hv2 := HVL.out p (List.mem_of_getElem? hp)
      have hf3 := fmt_len p.2
      have hz := HZ.out
      rw [hstep, List.length_append, List.length_append, List.length_append] at hle
      have HSTEP := Lib.hid hstep
      generalize lineW F.data.toList (l.take k) = T at HST hle HSTEP
      have s1 : (strL p.1).size = p.1.length := strL_size _
      have s2 : (strL p.2).size = p.2.length := strL_size _
      have l1 : (strL p.1).data.toList = p.1 := rfl
      have l2 : (strL p.2).data.toList = p.2 := rfl
      have hT1 : T.length + 2 ≤ 140737488355328 := by simp at hle; omega
      have hT2 : (T ++ [59, 32]).length + (strL p.1).size ≤ 140737488355328 := by rw [List.length_append, s1]; simp at hle ⊢; omega
      have hT3 : ((T ++ [59, 32]) ++ p.1).length + 3 * (strL p.2).size + 100 ≤ 140737488355328 := by rw [List.length_append, List.length_append, s2]; simp at hle ⊢; omega
      have hnew := World.alloc_heap_new wr (.cells #[.string (strL p.1), .string (strL p.2)] 37)
      have hne : wr.heap.size ≠ w.heap.size := by have := bk_lt HST.out.1; omega
      obtain ⟨W1, hW1⟩ : ∃ W1, wr.alloc (.cells #[.string (strL p.1), .string (strL p.2)] 37) = W1 := ⟨_, rfl⟩
      rw [hW1] at hnew
      have HW := Lib.hid (show Wr w.heap.size W1 W1 T ∧ Below w.heap.size w W1 by rw [← hW1]; exact ⟨Wr.first (HST.out.1.alloc _), HST.out.2.alloc HST.out.2.size _⟩)
      have k0 : W1.cell? ⟨wr.heap.size, 0, none⟩ = some (.string (strL p.1)) := by simp [World.cell?, hnew]
      have k1 : W1.cell? ⟨wr.heap.size, 1, none⟩ = some (.string (strL p.2)) := by simp [World.cell?, hnew]
      have HG := Lib.hid hnew
      have HK := Lib.hid (fun (W : World) (L : List UInt8) (h : Wr w.heap.size W1 W L) => show W.cell? ⟨wr.heap.size, 0, none⟩ = some (.string (strL p.1)) ∧ W.cell? ⟨wr.heap.size, 1, none⟩ = some (.string (strL p.2)) from ⟨cell_others HG.out h.kept hne (by decide) k0, cell_others HG.out h.kept hne (by decide) k1⟩)
      have c1 : ∀ W (_ : Hid (Wr w.heap.size W1 W T)), Calls Tryz.prog 42 #[.pointer (some ⟨w.heap.size, 0, none⟩), .string ⟨#[59, 32]⟩] W fun e w' => (∃ z, e = .returned (.tuple #[.int .i64 z, .nilIface])) ∧ Wr w.heap.size W1 w' (T ++ [59, 32]) := fun W h => (wr_str ⟨#[59, 32]⟩ h.out hT1).mono fun _ _ h => ⟨⟨_, h.1⟩, h.2⟩
      have c2 := fun W (h : Hid (Wr w.heap.size W1 W (T ++ [59, 32]))) => wr_str (strL p.1) h.out hT2
      have c3 := fun W (h : Hid (Wr w.heap.size W1 W ((T ++ [59, 32]) ++ p.1))) => value_w (strL p.2) (by rw [s2]; exact hv2) w.heap.size ((T ++ [59, 32]) ++ p.1) hT3 W h.out.bk
      rw [l1] at c2
      rw [l2] at c3
      have HW1 := Lib.hid hW1
      generalize strL p.1 = x1 at p0 c2 k0 k1 HK HG hW1 HW1 s1 hT2
      generalize strL p.2 = x2 at p1 c3 k0 k1 HK HG hW1 HW1 s2 hT3
      clear hle hstep hv2 hf3 hz s1 s2 l1 l2 hT1 hT2 hT3 hnew hfa hp k0 k1 HG hW1
      go_wp2_with fail
      rw [HW1.out]
      have HH := HW.out.1
      obtain ⟨j0, j1⟩ := HK.out W1 T HH
      clear HH
      go_wp2_with (first
        | (go_at_call 42; (with_reducible refine (c1 _ (Lib.hid HW.out.1)).mono ?_); rintro e w2 ⟨⟨z2, rfl⟩, hq2⟩; have H2 := Lib.hid hq2; obtain ⟨i0, i1⟩ := HK.out w2 _ hq2; clear hq2 c1)
        | (go_at_call 42; (with_reducible refine (c2 _ H2).mono ?_); rintro e w3 ⟨rfl, hq3⟩; have H3 := Lib.hid hq3; obtain ⟨f0, f1⟩ := HK.out w3 _ hq3; clear hq3 c2)
        | (go_at_call 43; (with_reducible refine (c3 _ H3).mono ?_); rintro e w4 ⟨rfl, hq4⟩; have H4 := Lib.hid (H3.out.trans hq4); clear hq4 c3))
      go_roundw
      case rel => exact ⟨k + 1, by omega, by go_num, Lib.hid ⟨by rw [HSTEP.out]; exact H4.out.bk, HW.out.2.trans H4.out.below⟩⟩
      case measure => simp [intOf]; omega
    · obtain rfl : k = n := by omega
      have hlt' : ¬ (k : Int) < (k : Int) := by omega
      have hT : l.take k = l := List.take_of_length_le (by rw [HN.out]; exact Nat.le_refl _)
      rw [hT] at HST
      have cO := fun W (h : Hid (Bk W w.heap.size (lineW F.data.toList l) ∧ Below w.heap.size w W)) => bk_out _ _ W h.out.1
      obtain ⟨X, hX⟩ : ∃ X, lineW F.data.toList l = X := ⟨_, rfl⟩
      rw [hX] at HST cO
      have HX := Lib.hid hX
      clear hT hX
      go_wp2_with (go_at_call 44; (with_reducible refine (cO _ HST).mono ?_); rintro e w3 ⟨rfl, hb3⟩)
      go_ret
      rw [HX.out]
      exact ⟨rfl, HST.out.2.trans hb3⟩
set_option maxRecDepth 100000 in
set_option maxHeartbeats 4000000 in
theorem write_w (K S : ByteArray) (v : Value) (l : List (List UInt8 × List UInt8)) (hv : ∀ p ∈ l, p.2.length ≤ 4000000) (hl : l.length ≤ 4000000) (hz : (lineW (K.data.toList ++ 47 :: S.data.toList) l).length + 20000000 ≤ 140737488355328) (w : World) (h : Hid (HasP w v l)) :
    Calls Tryz.prog 18 #[.agg #[.string K, .string S, v]] w fun e w' => e = .returned (.string (strL (lineW (K.data.toList ++ 47 :: S.data.toList) l))) ∧ Below w.heap.size w w' := by
  have hle := lineW_le (K.data.toList ++ 47 :: S.data.toList) l 0
  have h0 : lineW (K.data.toList ++ 47 :: S.data.toList) [] = K.data.toList ++ 47 :: S.data.toList := by unfold lineW; simp
  rw [List.take_zero, h0, List.length_append, List.length_cons, ← size_list, ← size_list] at hle
  have hz1 : K.size + (⟨#[47]⟩ : ByteArray).size ≤ 140737488355328 := by show K.size + 1 ≤ _; omega
  have hz2 : (K ++ (⟨#[47]⟩ : ByteArray)).size + S.size ≤ 140737488355328 := by rw [ByteArray.size_append]; show K.size + 1 + S.size ≤ _; omega
  have hFL : ((K ++ (⟨#[47]⟩ : ByteArray)) ++ S).data.toList = K.data.toList ++ 47 :: S.data.toList := by rw [list_append, list_append, List.append_assoc]; rfl
  have HB0 := Lib.hid ((Below.refl w.heap.size w).alloc (Nat.le_refl _) (.cells #[.string K, .string S, v] 26))
  obtain ⟨FF, hFF⟩ : ∃ FF, (K ++ (⟨#[47]⟩ : ByteArray)) ++ S = FF := ⟨_, rfl⟩
  rw [hFF] at hFL
  have cL := fun W (h : Hid (HasP W v l)) => line_w FF v l hv hl (by rw [hFL]; exact hz) W h
  rw [hFL] at cL
  have H1 : Hid (HasP (w.alloc (.cells #[.string K, .string S, v] 26)) v l) := Lib.hid (h.out.step HB0.out)
  have HH := Lib.hid h.out.form
  clear hle h0 hFL hz hv hl h
  obtain ⟨pa, pc, rfl⟩ := HH.out
  obtain ⟨X, hX⟩ : ∃ X, strL (lineW (K.data.toList ++ 47 :: S.data.toList) l) = X := ⟨_, rfl⟩
  rw [hX] at cL ⊢
  clear hX
  go_enter Tryz.func18, Tryz.ntmps18
  go_wp2_with (go_at_call 20; (with_reducible refine (cL _ H1).mono ?_); rintro e w3 ⟨rfl, hb3⟩)
  go_ret
  exact ⟨rfl, HB0.out.trans (hb3.mono HB0.out.size)⟩
end Go.Proofs.YtdinachiiimngaaGreatDoor
namespace Go.Proofs.YtdinachiiimngaaGreatDoor
open Go.ChangeShapes Go.WideShapes Go.ChangeAt Go.RowKit
open TokP AdrP CtP

theorem dig_facts : ∀ n : Fin 256, (hexV (UInt8.ofNat n.val)) = if Nu.dig (UInt8.ofNat n.val).toNat < 16 then some (Nu.dig (UInt8.ofNat n.val).toNat) else none := by decide +kernel
theorem dig_all (c : UInt8) : hexV c = if Nu.dig c.toNat < 16 then some (Nu.dig c.toNat) else none :=
  byte_all (P := fun c => hexV c = if Nu.dig c.toNat < 16 then some (Nu.dig c.toNat) else none) dig_facts c
theorem unhex_two (a b : UInt8) : Nu.unhexOk [a, b] = (hex2 [a, b]).isSome ∧ ∀ c, hex2 [a, b] = some c → Nu.unhexS [a, b] = [c] := by
  have h1 : Nu.unhexOk [a, b] = (decide (Nu.dig a.toNat < 16) && decide (Nu.dig b.toNat < 16)) := by
    unfold Nu.unhexOk
    simp
  have h2 : hex2 [a, b] = if Nu.dig a.toNat < 16 ∧ Nu.dig b.toNat < 16 then some (UInt8.ofNat (16 * Nu.dig a.toNat + Nu.dig b.toNat)) else none := by
    show (match hexV a, hexV b with
      | some x, some y => some (UInt8.ofNat (16 * x + y))
      | _, _ => none) = _
    rw [dig_all a, dig_all b]
    by_cases ha : Nu.dig a.toNat < 16
    · rw [if_pos ha]
      by_cases hb : Nu.dig b.toNat < 16
      · rw [if_pos hb, if_pos ⟨ha, hb⟩]
      · rw [if_neg hb, if_neg (fun h => hb h.2)]
    · rw [if_neg ha]
      exact (if_neg (fun h => ha h.1)).symm
  constructor
  · rw [h1, h2]
    by_cases h : Nu.dig a.toNat < 16 ∧ Nu.dig b.toNat < 16
    · rw [if_pos h, decide_eq_true h.1, decide_eq_true h.2]; rfl
    · rw [if_neg h]
      rw [← Bool.decide_and, decide_eq_false h]; rfl
  · intro c hc
    rw [h2] at hc
    by_cases h : Nu.dig a.toNat < 16 ∧ Nu.dig b.toNat < 16
    · rw [if_pos h] at hc
      unfold Nu.unhexS
      rw [if_pos (by rw [h1, decide_eq_true h.1, decide_eq_true h.2]; rfl), ← Option.some.inj hc]
      unfold Nu.bytesTo
      simp [List.range_succ, Nu.byteAt]
    · rw [if_neg h] at hc; exact absurd hc (by simp)
theorem unhex_ok (s : ByteArray) (hs : s.size = 2) (W : World) : Calls Tryz.prog 151 #[.string s] W fun e w' => ∃ T : ByteArray, e = .returned (.tuple #[.string T, .bool (hex2 s.data.toList).isSome]) ∧ (∀ b, hex2 s.data.toList = some b → T = strL [b]) ∧ Below W.heap.size W w' := by
  have c := Nu.unhex_any s (by omega) W
  have hz := size_list s
  rw [hs] at hz
  generalize s.data.toList = l at c hz ⊢
  obtain ⟨a, b, rfl⟩ : ∃ a b, l = [a, b] := by
    match l, hz with
    | [a, b], _ => exact ⟨a, b, rfl⟩
  obtain ⟨h1, h2⟩ := unhex_two a b
  rw [h1] at c
  refine c.mono fun e w' h => ⟨_, h.1, fun b hb => ?_, h.2⟩
  rw [h2 b hb]; rfl
set_option maxRecDepth 100000 in
set_option maxHeartbeats 4000000 in
theorem pct_any (s : ByteArray) (hs : s.size ≤ 4000000) (w : World) :
    Calls Tryz.prog 108 #[.string s] w fun e w' => e = .returned (.string (strL (pctL s.data.toList))) ∧ Below w.heap.size w w' := by
  obtain ⟨n, hn⟩ : ∃ n, s.size = n := ⟨_, rfl⟩
  have HN := Lib.hid hn
  have HL := Lib.hid (size_list s)
  rw [hn] at hs
  obtain ⟨R, hR⟩ : ∃ R, pctL s.data.toList = R := ⟨_, rfl⟩
  rw [hR]
  have HR := Lib.hid (show ([] : List UInt8) ++ pctS 0 (s.data.toList.drop 0) = R from hR)
  have H0 := Lib.hid (Wr.first (bk_new w))
  have HB0 := Lib.hid ((Below.refl w.heap.size w).alloc (Nat.le_refl _) (.cells #[.pointer none, .slice none 0 0] 61))
  obtain ⟨W0, hW0⟩ : ∃ W0, w.alloc (.cells #[.pointer none, .slice none 0 0] 61) = W0 := ⟨_, rfl⟩
  rw [hW0] at H0 HB0
  have HW0 := Lib.hid hW0
  clear hR hW0
  go_enter Tryz.func108, Tryz.ntmps108
  go_wp2_with fail
  rw [HW0.out]
  go_loopw [4] (fun i wr => ∃ (k : Nat) (T : List UInt8), k ≤ n ∧ i = .int .i64 k ∧ T.length ≤ k ∧ Hid (T ++ pctS 0 (s.data.toList.drop k) = R) ∧ Hid (Wr w.heap.size W0 wr T)) (fun i _ => n - (intOf i).toNat)
  case atStart => exact ⟨0, [], Nat.zero_le _, rfl, Nat.zero_le _, HR, H0⟩
  case round =>
    obtain ⟨k, T, hk, rfl, hTz, HG, HT⟩ := hrel
    clear H0
    have F1 : IntKind.i64.wrap ((k : Int) + 1) = (k : Int) + 1 := by rw [IntKind.wrap_i64]; omega
    have F2 : IntKind.i64.wrap ((k : Int) + 2) = (k : Int) + 2 := by rw [IntKind.wrap_i64]; omega
    have F3 : IntKind.i64.wrap ((k : Int) + 3) = (k : Int) + 3 := by rw [IntKind.wrap_i64]; omega
    have F4 : IntKind.i64.wrap ((k : Int) + 2 + 1) = (k : Int) + 2 + 1 := by rw [IntKind.wrap_i64]; omega
    by_cases hlt : k < n
    · have hlt' : (k : Int) < (n : Int) := by omega
      obtain ⟨d, y, hd, hy, hy2, S1⟩ := run_byte s k (by rw [hn]; exact hlt)
      have e37 := byte_is d y hy 37 (by decide)
      rw [show ((37 : Nat) : Int) = 37 from rfl] at e37
      have HPL := Lib.hid (fun (h : pctS 0 (s.data.toList.drop k) = d :: pctS 0 (s.data.toList.drop (k + 1))) => show (T ++ [d]) ++ pctS 0 (s.data.toList.drop (k + 1)) = R by
        rw [← HG.out, h, List.append_assoc]; rfl)
      have hT1 : (T ++ [d]).length ≤ k + 1 := by rw [List.length_append, List.length_singleton]; omega
      have c1 := fun W (h : Hid (Wr w.heap.size W0 W T)) => wr_byte d (y : Int) (by omega) h.out (by omega)
      by_cases h37 : d = 37
      · rw [show decide (d = UInt8.ofNat 37) = true from decide_eq_true h37] at e37
        by_cases h2 : k + 2 < n
        · have h2' : (k : Int) + 2 < (n : Int) := by omega
          have R2 := run_slice_str s (k + 1) (k + 3) ((k : Int) + 3) (by omega) (by omega) (by omega)
          have hX : (s.extract (k + 1) (k + 3)).data.toList = (s.data.toList.drop (k + 1)).take 2 := by
            rw [part_of s (k + 1) (k + 3) (by omega) (by omega), strL_list]
            rw [show k + 3 - (k + 1) = 2 by omega]
          have hXz : (s.extract (k + 1) (k + 3)).size = 2 := by rw [ByteArray.size_extract]; omega
          have cU := fun W => unhex_ok (s.extract (k + 1) (k + 3)) hXz W
          rw [hX, hex2_take] at cU
          generalize s.extract (k + 1) (k + 3) = X at R2 cU
          rw [show ((k + 1 : Nat) : Int) = (k : Int) + 1 by omega] at R2
          cases hh : hex2 (s.data.toList.drop (k + 1)) with
          | none =>
            rw [hh] at cU
            have HG2 := Lib.hid (HPL.out (pct_no hd hh))
            clear hh hX hXz hd hy HG HPL h37
            go_wp2_with (first
              | (go_at_call 151; (with_reducible refine (cU _).mono ?_); rintro e w2 ⟨V, rfl, _, hb2⟩; have HT2 := Lib.hid (HT.out.other hb2); clear hb2 cU)
              | (go_at_call 80; (with_reducible refine (c1 _ HT2).mono ?_); rintro e w3 ⟨rfl, hq3⟩; have HT3 := Lib.hid hq3; clear hq3 c1))
            go_roundw
            case rel => exact ⟨k + 1, _, by omega, by go_num, hT1, HG2, HT3⟩
            case measure => simp [intOf]; omega
          | some b =>
            rw [hh] at cU
            have hyes := pct_yes (h37 ▸ hd) hh
            have HG2 := Lib.hid (show (T ++ [b]) ++ pctS 0 (s.data.toList.drop (k + 3)) = R by rw [← HG.out, hyes, List.append_assoc]; rfl)
            have hT3 : (T ++ [b]).length ≤ k + 3 := by rw [List.length_append, List.length_singleton]; omega
            have c2 := fun W (h : Hid (Wr w.heap.size W0 W T)) => wr_str (strL [b]) h.out (by rw [strL_size, List.length_singleton]; omega)
            rw [strL_list] at c2
            have HV := Lib.hid (fun (V : ByteArray) (h : ∀ c, some b = some c → V = strL [c]) => h b rfl)
            generalize strL [b] = Z at HV c2
            clear hh hX hXz hd hy HG HPL h37 hT1 c1 hyes
            go_wp2_with (first
              | (go_at_call 151; (with_reducible refine (cU _).mono ?_); rintro e w2 ⟨V, rfl, hv, hb2⟩; have hv2 := HV.out V hv; subst hv2; have HT2 := Lib.hid (HT.out.other hb2); clear hb2 cU hv)
              | (go_at_call 42; (with_reducible refine (c2 _ HT2).mono ?_); rintro e w3 ⟨rfl, hq3⟩; have HT3 := Lib.hid hq3; clear hq3 c2))
            go_roundw
            case rel => exact ⟨k + 3, _, by omega, by go_num, hT3, HG2, HT3⟩
            case measure => simp [intOf]; omega
        · have h2' : ¬ (k : Int) + 2 < (n : Int) := by omega
          have hsh : hex2 (s.data.toList.drop (k + 1)) = none := hex2_short (by rw [List.length_drop, ← HL.out, hn]; omega)
          have HG2 := Lib.hid (HPL.out (pct_no hd hsh))
          clear hsh hd hy HG HPL h37
          go_wp2_with (go_at_call 80; (with_reducible refine (c1 _ HT).mono ?_); rintro e w3 ⟨rfl, hq3⟩; have HT3 := Lib.hid hq3; clear hq3 c1)
          go_roundw
          case rel => exact ⟨k + 1, _, by omega, by go_num, hT1, HG2, HT3⟩
          case measure => simp [intOf]; omega
      · rw [show decide (d = UInt8.ofNat 37) = false from decide_eq_false h37] at e37
        have HG2 := Lib.hid (HPL.out (pct_plain hd h37))
        clear hd hy HG HPL h37
        go_wp2_with (go_at_call 80; (with_reducible refine (c1 _ HT).mono ?_); rintro e w3 ⟨rfl, hq3⟩; have HT3 := Lib.hid hq3; clear hq3 c1)
        go_roundw
        case rel => exact ⟨k + 1, _, by omega, by go_num, hT1, HG2, HT3⟩
        case measure => simp [intOf]; omega
    · obtain rfl : k = n := by omega
      have hlt' : ¬ (k : Int) < (k : Int) := by omega
      have hg := HG.out
      rw [List.drop_eq_nil_of_le (by rw [← HL.out, hn]; exact Nat.le_refl _), pctS, List.append_nil] at hg
      subst hg
      have cO := fun W (h : Hid (Wr w.heap.size W0 W T)) => bk_out _ _ W h.out.bk
      clear HG HR
      go_wp2_with (go_at_call 44; (with_reducible refine (cO _ HT).mono ?_); rintro e w3 ⟨rfl, hb3⟩)
      go_ret
      exact ⟨rfl, (HB0.out.trans HT.out.below).trans hb3⟩
end Go.Proofs.YtdinachiiimngaaGreatDoor
namespace Go.Proofs.YtdinachiiimngaaGreatDoor
open Go.ChangeShapes Go.WideShapes Go.ChangeAt Go.RowKit
open TokP AdrP CtP

theorem pctS_len : ∀ (s : List UInt8) (k : Nat), (pctS k s).length ≤ s.length
  | [], k => by cases k <;> exact Nat.le_refl _
  | c :: r, k + 1 => by
    have := pctS_len r k
    rw [pctS, List.length_cons]; omega
  | c :: r, 0 => by
    have h0 := pctS_len r 0
    have h2 := pctS_len r 2
    rw [pctS, List.length_cons]
    split
    · split
      · rw [List.length_cons]; omega
      · rw [List.length_cons]; omega
    · rw [List.length_cons]; omega
theorem pctL_len (s : List UInt8) : (pctL s).length ≤ s.length := pctS_len s 0
/-- How many bytes the parts hold. -/
def szQ (l : List (List UInt8 × Bool)) : Nat := (l.map (fun p => p.1.length)).sum
theorem szQ_cons (p : List UInt8 × Bool) (l : List (List UInt8 × Bool)) : szQ (p :: l) = p.1.length + szQ l := by unfold szQ; rw [List.map_cons, List.sum_cons]
theorem szQ_app (a b : List (List UInt8 × Bool)) : szQ (a ++ b) = szQ a + szQ b := by unfold szQ; rw [List.map_append, List.sum_append]
theorem szQ_at {l : List (List UInt8 × Bool)} {k : Nat} {p : List UInt8 × Bool} (h : l[k]? = some p) : szQ (l.take k) + p.1.length ≤ szQ l := by
  obtain ⟨h1, h2⟩ := List.getElem?_eq_some_iff.1 h
  have e : l = l.take k ++ p :: l.drop (k + 1) := by rw [← h2, ← List.drop_eq_getElem_cons h1, List.take_append_drop]
  conv => rhs; rw [e]
  rw [szQ_app, szQ_cons]
  omega
def partB (p : List UInt8 × Bool) : List UInt8 := if p.2 = true then pctL p.1 else p.1
theorem partB_len (p : List UInt8 × Bool) : (partB p).length ≤ p.1.length := by
  unfold partB
  split
  · exact pctL_len _
  · exact Nat.le_refl _
theorem bytesL_len (l : List (List UInt8 × Bool)) : (bytesL l).length ≤ szQ l := by
  induction l with
  | nil => exact Nat.le_refl _
  | cons p l ih =>
    have := partB_len p
    rw [bytesL_cons, szQ_cons, List.length_append]
    unfold partB at this
    omega
theorem bytesL_step {l : List (List UInt8 × Bool)} {k : Nat} {p : List UInt8 × Bool} (h : l[k]? = some p) : bytesL (l.take (k + 1)) = bytesL (l.take k) ++ partB p := by
  unfold bytesL
  rw [List.take_add_one, h, Option.toList_some, List.flatMap_append, List.flatMap_singleton]
  rfl
/-- A part in the box g. -/
def Ptx (w : World) (g : Nat) (V : ByteArray) (E : Bool) : Prop := w.heap[g]? = some (.cells #[.string V, .bool E] 98 (0, 0))
theorem Ptx.lt {w : World} {g : Nat} {V : ByteArray} {E : Bool} (h : Ptx w g V E) : g < w.heap.size := (Array.getElem?_eq_some_iff.1 h).1
theorem Ptx.step {w w' : World} {g : Nat} {V : ByteArray} {E : Bool} (h : Ptx w g V E) (hb : Below w.heap.size w w') : Ptx w' g V E := (hb.block _ h.lt).trans h
theorem ptx_new (w : World) (V : ByteArray) (E : Bool) : Ptx (w.alloc (.cells #[.string V, .bool E] 98)) w.heap.size V E := World.alloc_heap_new w _
theorem Ptx.c0 {w : World} {g : Nat} {V : ByteArray} {E : Bool} (h : Ptx w g V E) : w.cell? ⟨g, 0, none⟩ = some (.string V) := by rw [Lib.cell_of_heap h]; rfl
theorem Ptx.c1 {w : World} {g : Nat} {V : ByteArray} {E : Bool} (h : Ptx w g V E) : w.cell? ⟨g, 1, none⟩ = some (.bool E) := by rw [Lib.cell_of_heap h]; rfl
theorem Ptx.fr {w : World} {g : Nat} {V : ByteArray} {E : Bool} (h : Ptx w g V E) (i : Nat) : w.frozen? ⟨g, i, none⟩ = false := Lib.frozen_of_heap h i
theorem Ptx.set {w : World} {g : Nat} {V V' : ByteArray} {E : Bool} (h : Ptx w g V E) : Ptx (w.setCell ⟨g, 0, none⟩ (.string V')) g V' E := by
  have h' : w.heap[g]? = some (.cells #[.string V, .bool E] 98 (0, 0)) := h
  show (w.setCell ⟨g, 0, none⟩ (.string V')).heap[g]? = _
  simp [World.setCell, Array.getElem?_modify, h']
theorem ownF_keep {w w' : World} {base : Nat} {e : TypeId} {size : Nat} {v : Value} {n : Nat} {xs : List Value} (h : w.ownsRowF base e size v n xs) (hk : ∀ (g : Nat) (cs : Array Value) (fz : Nat × Nat), w.heap[g]? = some (.cells cs e fz) → w'.heap[g]? = w.heap[g]?) : w'.ownsRowF base e size v n xs := by
  refine ⟨h.1, ?_⟩
  rcases h.2 with h1 | ⟨g, cap, cur, fz, rfl, hbg, hg, rest⟩
  · exact .inl h1
  · refine .inr ⟨g, cap, cur, fz, rfl, hbg, ?_, rest⟩
    rw [hk g _ _ hg]
    exact hg
theorem builtF_keep {T e : TypeId} {B b : Nat} {p : Value} {bs : List Value} {w w' : World} (h : Lib.BuilderAtF T e B b p bs w) (hk : ∀ (g : Nat) (cs : Array Value) (fz : Nat × Nat), w.heap[g]? = some (.cells cs e fz) → w'.heap[g]? = w.heap[g]?) (hb : w'.heap[b]? = w.heap[b]?) : Lib.BuilderAtF T e B b p bs w' := by
  obtain ⟨hB, v, hv, hown, hne⟩ := h
  exact ⟨hB, v, by rw [hb]; exact hv, ownF_keep hown hk, hne⟩
theorem Bk.set {w : World} {b g o : Nat} {l : List UInt8} (h : Bk w b l) {V : ByteArray} {E : Bool} (hx : Ptx w g V E) (hne : g ≠ b) (v : Value) : Bk (w.setCell ⟨g, o, none⟩ v) b l := by
  have hk : ∀ (j : Nat), j ≠ g → (w.setCell ⟨g, o, none⟩ v).heap[j]? = w.heap[j]? := fun j hj => Below.heap_setCell w _ v j hj
  have hr : ∀ (j : Nat) (cs : Array Value) (fz : Nat × Nat), w.heap[j]? = some (.cells cs 5 fz) → (w.setCell ⟨g, o, none⟩ v).heap[j]? = w.heap[j]? := fun j cs fz hj => hk j (by
    rintro rfl
    have hx' : w.heap[j]? = some (.cells #[.string V, .bool E] 98 (0, 0)) := hx
    rw [hx'] at hj
    have := Option.some.inj hj
    injection this with _ e2 _
    exact absurd e2 (by decide))
  exact h.elim (fun x => .inl (builtF_keep x hr (hk b (fun e => hne e.symm)))) (fun x => .inr (builtF_keep x hr (hk b (fun e => hne e.symm))))
set_option maxRecDepth 100000 in
set_option maxHeartbeats 4000000 in
theorem dec_bytes (v : Value) (l : List (List UInt8 × Bool)) (hl : l.length ≤ 4000000) (hz : szQ l ≤ 4000000) (w : World) (h : Hid (HasQ w v l)) :
    Calls Tryz.prog 106 #[v] w fun e w' => e = .returned (.string (strL (bytesL l))) ∧ Below w.heap.size w w' := by
  obtain ⟨a, c, rfl⟩ := h.out.form
  obtain ⟨n, hn⟩ : ∃ n, l.length = n := ⟨_, rfl⟩
  rw [hn] at h hl ⊢
  have HN := Lib.hid hn
  have HZ := Lib.hid hz
  have H0 := Lib.hid (show Bk (w.alloc (.cells #[.pointer none, .slice none 0 0] 61)) w.heap.size (bytesL (l.take 0)) ∧ Below w.heap.size w (w.alloc (.cells #[.pointer none, .slice none 0 0] 61)) from ⟨bk_new w, (Below.refl _ w).alloc (Nat.le_refl _) _⟩)
  clear hn hz
  go_enter Tryz.func106, Tryz.ntmps106
  go_wp2_with fail
  go_loopw [8] (fun i wr => ∃ k : Nat, k ≤ n ∧ i = .int .i64 k ∧ Hid (Bk wr w.heap.size (bytesL (l.take k)) ∧ Below w.heap.size w wr)) (fun i _ => n - (intOf i).toNat)
  case atStart => exact ⟨0, Nat.zero_le _, rfl, H0⟩
  case round =>
    obtain ⟨k, hk, rfl, HST⟩ := hrel
    have F1 : IntKind.i64.wrap ((k : Int) + 1) = (k : Int) + 1 := by rw [IntKind.wrap_i64]; omega
    clear H0
    by_cases hlt : k < n
    · have hlt' : (k : Int) < (n : Int) := by omega
      obtain ⟨g, o, rfl, hfa⟩ := h.out.at (by omega)
      obtain ⟨p, hp⟩ : ∃ p, l[k]? = some p := ⟨_, List.getElem?_eq_getElem (by rw [HN.out]; exact hlt)⟩
      obtain ⟨p0, p1⟩ := hfa.step HST.out.2 k p hp
      have hz := szQ_at hp
      have hzz := HZ.out
      have hTl := bytesL_len (l.take k)
      have hpb := partB_len p
      have HSTEP := Lib.hid (bytesL_step hp)
      generalize bytesL (l.take k) = T at HST hTl HSTEP
      have hne : wr.heap.size ≠ w.heap.size := by have := bk_lt HST.out.1; omega
      have hge : w.heap.size ≤ wr.heap.size := HST.out.2.size
      have hbx := ptx_new wr (strL p.1) p.2
      have hst1 : Bk (wr.alloc (.cells #[.string (strL p.1), .bool p.2] 98)) w.heap.size T ∧ Below w.heap.size w (wr.alloc (.cells #[.string (strL p.1), .bool p.2] 98)) := ⟨HST.out.1.alloc _, HST.out.2.alloc HST.out.2.size _⟩
      obtain ⟨W1, hW1⟩ : ∃ W1, wr.alloc (.cells #[.string (strL p.1), .bool p.2] 98) = W1 := ⟨_, rfl⟩
      rw [hW1] at hbx hst1
      have HW1 := Lib.hid hW1
      have HB := Lib.hid hbx
      have HS1 := Lib.hid hst1
      clear hW1
      cases he : p.2 with
      | true =>
        rw [he] at p1 HW1 HB
        have hpv : partB p = pctL p.1 := by unfold partB; rw [if_pos he]
        rw [hpv] at hpb HSTEP
        have cP := fun W => pct_any (strL p.1) (by rw [strL_size]; omega) W
        rw [strL_list] at cP
        have hyz : (strL (pctL p.1)).size ≤ 4000000 := by rw [strL_size]; omega
        have lY : (strL (pctL p.1)).data.toList = pctL p.1 := rfl
        rw [← lY] at HSTEP
        generalize strL (pctL p.1) = Y at cP hyz HSTEP
        have HNX := Lib.hid (fun (W : World) (hb : Below W1.heap.size W1 W) => show Ptx W wr.heap.size (strL p.1) true ∧ Bk (W.setCell ⟨wr.heap.size, 0, none⟩ (.string Y)) w.heap.size T ∧ Below w.heap.size w (W.setCell ⟨wr.heap.size, 0, none⟩ (.string Y)) from
          ⟨HB.out.step hb, (HS1.out.1.below hb).set (HB.out.step hb) hne _, below_at (HS1.out.2.trans (hb.mono HS1.out.2.size)) _ hge _⟩)
        have cW := fun W (h : Hid (Bk W w.heap.size T ∧ Below w.heap.size w W)) => bk_str Y _ _ W h.out.1 (by omega)
        have k1 := HB.out.c1
        generalize strL p.1 = x0 at p0 cP HW1 HB HNX
        clear hfa hp hz hzz hTl hpb hbx hst1 he hpv lY hyz
        go_wp2_with fail
        rw [HW1.out]
        have k0 := HB.out.c0
        go_wp2_with (first
          | (go_at_call 108; (with_reducible refine (cP _).mono ?_); rintro e w2 ⟨rfl, hb2⟩; obtain ⟨hx2, hy2, hz2⟩ := HNX.out w2 hb2; have j0 := hx2.c0; have jf := hx2.fr; have i0 := hx2.set.c0 (V := Y); have HY := Lib.hid (And.intro hy2 hz2); clear hb2 cP hx2 hy2 hz2)
          | (go_at_call 42; (with_reducible refine (cW _ HY).mono ?_); rintro e w3 ⟨rfl, hbk3, hb3, _⟩; have HY3 := Lib.hid (And.intro hbk3 (HY.out.2.trans hb3)); clear hbk3 hb3 cW))
        go_roundw
        case rel => exact ⟨k + 1, by omega, by go_num, by rw [HSTEP.out]; exact HY3⟩
        case measure => simp [intOf]; omega
      | false =>
        rw [he] at p1 HW1 HB
        have hpv : partB p = p.1 := by unfold partB; rw [if_neg (by rw [he]; exact Bool.false_ne_true)]
        rw [hpv] at HSTEP
        have lY : (strL p.1).data.toList = p.1 := rfl
        rw [← lY] at HSTEP
        have cW := fun W (h : Hid (Bk W w.heap.size T ∧ Below w.heap.size w W)) => bk_str (strL p.1) _ _ W h.out.1 (by rw [strL_size]; omega)
        have k1 := HB.out.c1
        generalize strL p.1 = x0 at p0 cW HW1 HB HSTEP
        clear hfa hp hz hzz hTl hpb hbx hst1 he hpv lY
        go_wp2_with fail
        rw [HW1.out]
        have k0 := HB.out.c0
        go_wp2_with (go_at_call 42; (with_reducible refine (cW _ HS1).mono ?_); rintro e w3 ⟨rfl, hbk3, hb3, _⟩; have HY3 := Lib.hid (And.intro hbk3 (HS1.out.2.trans hb3)); clear hbk3 hb3 cW)
        go_roundw
        case rel => exact ⟨k + 1, by omega, by go_num, by rw [HSTEP.out]; exact HY3⟩
        case measure => simp [intOf]; omega
    · obtain rfl : k = n := by omega
      have hlt' : ¬ (k : Int) < (k : Int) := by omega
      have hT : l.take k = l := List.take_of_length_le (by rw [HN.out]; exact Nat.le_refl _)
      rw [hT] at HST
      have cO := fun W (h : Hid (Bk W w.heap.size (bytesL l) ∧ Below w.heap.size w W)) => bk_out _ _ W h.out.1
      obtain ⟨X, hX⟩ : ∃ X, bytesL l = X := ⟨_, rfl⟩
      rw [hX] at HST cO
      have HX := Lib.hid hX
      clear hT hX
      go_wp2_with (go_at_call 44; (with_reducible refine (cO _ HST).mono ?_); rintro e w3 ⟨rfl, hb3⟩)
      go_ret
      rw [HX.out]
      exact ⟨rfl, HST.out.2.trans hb3⟩
/-- The variables that the program reads. -/
structure Vr (w : World) : Prop where
  num : Nu.Vars w
  set : Cs.Vars w
theorem Vr.below {w w' : World} (h : Vr w) (hb : Below w.heap.size w w') : Vr w' := ⟨h.num.below hb, h.set.below hb⟩
def repF (s : List UInt8) : List UInt8 := repairL s
def decF (n s : List UInt8) : List UInt8 := Cs.decL (Cs.kindL n) s
theorem split_len (s : List UInt8) : (splitQ s).1.length ≤ s.length ∧ (splitQ s).2.length ≤ s.length := by
  unfold splitQ
  split
  · have h1 : (upC 39 s).length ≤ s.length := (List.takeWhile_prefix _).length_le
    have h2 : (behind 39 s).length ≤ s.length := by unfold behind; rw [List.length_drop]; omega
    have h3 : (behind 39 (behind 39 s)).length ≤ (behind 39 s).length := by unfold behind; rw [List.length_drop, List.length_drop]; omega
    exact ⟨h1, Nat.le_trans h3 h2⟩
  · exact ⟨Nat.zero_le _, Nat.le_refl _⟩
set_option maxRecDepth 100000 in
set_option maxHeartbeats 2000000 in
theorem prefix_any (s : ByteArray) (hs : s.size ≤ 4000000) (w : World) :
    Calls Tryz.prog 107 #[.string s] w fun e w' => e = .returned (.tuple #[.string (strL (splitQ s.data.toList).1), .string (strL (splitQ s.data.toList).2)]) ∧ Below w.heap.size w w' := by
  have c1 := fun W => cut_all 39 s hs W
  have hz : (strL (behind 39 s.data.toList)).size ≤ 4000000 := by
    rw [strL_size]
    unfold behind
    rw [List.length_drop, ← size_list]
    omega
  have c2 := fun W => cut_all 39 (strL (behind 39 s.data.toList)) hz W
  rw [strL_list] at c2
  by_cases hf : 39 ∈ behind 39 s.data.toList
  · have hin : 39 ∈ s.data.toList := by
      unfold behind at hf
      exact List.mem_of_mem_drop hf
    have hq : splitQ s.data.toList = (upC 39 s.data.toList, behind 39 (behind 39 s.data.toList)) := by unfold splitQ; rw [if_pos ⟨hin, hf⟩]
    rw [List.contains_iff_mem.2 hf] at c2
    rw [hq]
    generalize strL (behind 39 (behind 39 s.data.toList)) = B2 at c2 ⊢
    generalize strL (behind 39 s.data.toList) = B1 at c1 c2 hz
    generalize strL (upC 39 s.data.toList) = A1 at c1 ⊢
    generalize strL (upC 39 (behind 39 s.data.toList)) = A2 at c2
    generalize s.data.toList.contains 39 = b1 at c1
    clear hf hin hq hz hs
    go_enter Tryz.func107, Tryz.ntmps107
    go_wp2_with (first
      | (go_at_call 30; (with_reducible refine (c1 _).mono ?_); rintro e w2 ⟨rfl, hb2⟩; have HB2 := Lib.hid hb2; clear hb2 c1)
      | (go_at_call 30; (with_reducible refine (c2 _).mono ?_); rintro e w3 ⟨rfl, hb3⟩; have HB3 := Lib.hid (HB2.out.trans (hb3.mono HB2.out.size)); clear hb3 c2))
    go_ret2
    exact ⟨rfl, HB3.out⟩
  · have hq : splitQ s.data.toList = ([], s.data.toList) := by unfold splitQ; rw [if_neg (fun h => hf h.2)]
    have hnc : (behind 39 s.data.toList).contains 39 = false := by rw [← Bool.not_eq_true, List.contains_iff_mem]; exact hf
    rw [hnc] at c2
    rw [hq]
    show Calls _ _ _ _ fun e w' => e = .returned (.tuple #[.string ⟨#[]⟩, .string (strL s.data.toList)]) ∧ _
    rw [strL_of]
    generalize strL (behind 39 (behind 39 s.data.toList)) = B2 at c2
    generalize strL (behind 39 s.data.toList) = B1 at c1 c2 hz
    generalize strL (upC 39 s.data.toList) = A1 at c1
    generalize strL (upC 39 (behind 39 s.data.toList)) = A2 at c2
    generalize s.data.toList.contains 39 = b1 at c1
    clear hf hnc hq hz hs
    go_enter Tryz.func107, Tryz.ntmps107
    go_wp2_with (first
      | (go_at_call 30; (with_reducible refine (c1 _).mono ?_); rintro e w2 ⟨rfl, hb2⟩; have HB2 := Lib.hid hb2; clear hb2 c1)
      | (go_at_call 30; (with_reducible refine (c2 _).mono ?_); rintro e w3 ⟨rfl, hb3⟩; have HB3 := Lib.hid (HB2.out.trans (hb3.mono HB2.out.size)); clear hb3 c2))
    go_ret2
    exact ⟨rfl, HB3.out⟩
set_option maxRecDepth 100000 in
set_option maxHeartbeats 8000000 in
theorem joined_any {a : Option Addr} {n c : Nat} {l : List (List UInt8 × Bool)} (hn : 0 < n) (hn2 : n ≤ 4000000) (hz : szQ l ≤ 4000000) (w : World) (h : HasR w (.slice a n c) l) (hv : Vr w) :
    Calls Tryz.prog 71 #[.slice a n c] w fun e w' => e = .returned (.string (strL (joinedL repF decF l))) ∧ Below w.heap.size w w' := by
  obtain ⟨hl, hc, hf⟩ := h.cap
  obtain ⟨p, r, rfl⟩ : ∃ p r, l = p :: r := by
    cases l with
    | nil => simp at hl; omega
    | cons p r => exact ⟨p, r, rfl⟩
  obtain ⟨A1, C1, R1, hR1⟩ := run_restQ h hn
  obtain ⟨g, o, rfl, hfa⟩ := hf.at hn
  obtain ⟨p0, p1⟩ := hfa 0 p rfl
  rw [Nat.zero_mul, Nat.add_zero] at p0 p1
  have hnI : (0 : Int) < (n : Int) := by omega
  have hnJ : (1 : Int) ≤ (n : Int) := by omega
  rw [szQ_cons] at hz
  have hbx := ptx_new w (strL p.1) p.2
  have HB0 := Lib.hid ((Below.refl w.heap.size w).alloc (Nat.le_refl _) (.cells #[.string (strL p.1), .bool p.2] 98))
  obtain ⟨W1, hW1⟩ : ∃ W1, w.alloc (.cells #[.string (strL p.1), .bool p.2] 98) = W1 := ⟨_, rfl⟩
  rw [hW1] at hbx HB0
  have HW1 := Lib.hid hW1
  have HX := Lib.hid hbx
  have HV := Lib.hid hv
  have HH := Lib.hid h
  clear hW1
  rw [List.drop_one, List.tail_cons] at hR1
  have HR1 := Lib.hid hR1
  cases he : p.2 with
  | false =>
    have hj : joinedL repF decF (p :: r) = bytesL (p :: r) := by rw [joinedL_cons, if_neg (by rw [he]; exact Bool.false_ne_true)]
    rw [hj]
    have cD := fun W (hb : Hid (Below w.heap.size w W)) => dec_bytes (.slice (some ⟨g, o, none⟩) n c) (p :: r) (by rw [← hl]; exact hn2) (by rw [szQ_cons]; exact hz) W (Lib.hid (HH.out.step hb.out).has)
    rw [he] at p1 HW1 HX
    have k1 := HX.out.c1
    generalize strL (bytesL (p :: r)) = ANS at cD ⊢
    generalize strL p.1 = x0 at p0 HW1 HX
    clear h hl hf hfa hz hbx hR1 he hj hv R1
    go_enter Tryz.func71, Tryz.ntmps71
    go_wp2_with fail
    rw [HW1.out]
    go_wp2_with (go_at_call 106; (with_reducible refine (cD _ HB0).mono ?_); rintro e w2 ⟨rfl, hb2⟩)
    go_ret
    exact ⟨rfl, HB0.out.trans (hb2.mono HB0.out.size)⟩
  | true =>
    have hj : joinedL repF decF (p :: r) = meantP repF decF (splitQ p.1).1 (pctL (splitQ p.1).2 ++ bytesL r) := by rw [joinedL_cons, if_pos he]
    rw [hj]
    obtain ⟨s1, s2⟩ := split_len p.1
    have s3 := pctL_len (splitQ p.1).2
    have s4 := bytesL_len r
    have cX := fun W => prefix_any (strL p.1) (by rw [strL_size]; omega) W
    rw [strL_list] at cX
    have cP := fun W => pct_any (strL (splitQ p.1).2) (by rw [strL_size]; omega) W
    rw [strL_list] at cP
    have hlr : r.length ≤ 4000000 := by rw [List.length_cons] at hl; omega
    have cD := fun W (hb : Hid (Below w.heap.size w W)) => dec_bytes (.slice A1 (n - 1) C1) r hlr (by omega) W (Lib.hid (HR1.out.step hb.out).has)
    have hq1 := fun Q (hb : Hid (Below w.heap.size w Q)) => (cP Q).mono (fun e w' hh => (⟨hh.1, Lib.hid (hb.out.trans (hh.2.mono hb.out.size))⟩ : e = .returned (.string (strL (pctL (splitQ p.1).2))) ∧ Hid (Below w.heap.size w w')))
    have hq2 := fun Q (hb : Hid (Below w.heap.size w Q)) => (cD Q hb).mono (fun e w' hh => (⟨hh.1, Lib.hid (hb.out.trans (hh.2.mono hb.out.size))⟩ : e = .returned (.string (strL (bytesL r))) ∧ Hid (Below w.heap.size w w')))
    have hcat : strL (pctL (splitQ p.1).2) ++ strL (bytesL r) = strL (pctL (splitQ p.1).2 ++ bytesL r) := strL_append _ _
    have hcz : (strL (pctL (splitQ p.1).2)).size + (strL (bytesL r)).size ≤ 8000000 := by rw [strL_size, strL_size]; omega
    have hxz : (strL (pctL (splitQ p.1).2 ++ bytesL r)).size ≤ 4000000 := by rw [strL_size, List.length_append]; omega
    have cR := fun W => Cs.repair_any (strL (pctL (splitQ p.1).2 ++ bytesL r)) hxz W
    have cE := fun W (hv : Hid (Cs.Vars W)) => Cs.decode_any (strL (splitQ p.1).1) (strL (pctL (splitQ p.1).2 ++ bytesL r)) (by rw [strL_size]; omega) hxz W hv.out
    rw [strL_list] at cR cE
    rw [strL_list] at cE
    obtain ⟨t1, t2⟩ := str_cmp (splitQ p.1).1
    rw [he] at p1 HW1 HX
    have k0 := HX.out.c0
    have k1 := HX.out.c1
    have HK := Lib.hid (fun Q (h : Hid (Below w.heap.size w Q)) => (⟨h, cell_below p0 h.out⟩ : Hid (Below w.heap.size w Q) ∧ Q.cell? ⟨g, o, none⟩ = some (.string (strL p.1))))
    have HVS := Lib.hid (fun Q (h : Hid (Below w.heap.size w Q)) => Lib.hid (HV.out.set.below h.out))
    rw [hcat.symm] at cR cE
    generalize hY1 : strL (pctL (splitQ p.1).2) = Y1 at hq1 hcz hcat cR cE
    generalize hY2 : strL (bytesL r) = Y2 at hq2 hcz hcat cR cE
    clear cP cD
    have hcy : ¬ (9223372036854775807 : Int) < (Y1.size : Int) + (Y2.size : Int) := by omega
    have hcatz : (Y1 ++ Y2).size ≤ 4000000 := by rw [hcat]; exact hxz
    by_cases hs0 : (splitQ p.1).1 = []
    · have hme : meantP repF decF (splitQ p.1).1 (pctL (splitQ p.1).2 ++ bytesL r) = repairL (pctL (splitQ p.1).2 ++ bytesL r) := by unfold meantP repF; rw [if_pos hs0]
      rw [hme]
      rw [show (splitQ p.1).1.isEmpty = true by rw [hs0]; rfl] at t1 t2
      have HA := Lib.hid (show (⟨(repairL (pctL (splitQ p.1).2 ++ bytesL r)).toArray⟩ : ByteArray) = strL (repairL (pctL (splitQ p.1).2 ++ bytesL r)) from rfl)
      generalize (⟨(repairL (pctL (splitQ p.1).2 ++ bytesL r)).toArray⟩ : ByteArray) = ANS at cR HA
      generalize strL (splitQ p.1).1 = S1 at cX t1 t2
      generalize strL (splitQ p.1).2 = S2 at cX hq1
      generalize strL p.1 = x0 at p0 HW1 HX HK cX k0
      rw [← HA.out]
      clear h hl hf hfa hz hbx hR1 he hj hv s1 s2 s3 s4 hlr hcat hxz hY1 hY2 hs0 hme cE HVS
      go_enter Tryz.func71, Tryz.ntmps71
      go_wp2_with fail
      rw [HW1.out]
      go_wp2_with (go_at_call 107; (with_reducible refine (cX _).mono ?_); rintro e w2 ⟨rfl, hb2⟩; have hb := Lib.hid (HB0.out.trans (hb2.mono HB0.out.size)); clear hb2 cX)
      refine wp_region_noPanic ?_
      refine wp_region_held_drew (S := (fun Q => Hid (Below w.heap.size w Q) ∧ Q.cell? ⟨g, o, none⟩ = some (.string x0))) (by kernel_rfl) (HK.out _ (Lib.hid hb.out.drew)) (fun hH0 => ?_)
      refine held_take (i := 0) (.string S2) rfl (by kernel_rfl) (by kernel_rfl) (by kernel_rfl) (by rfl) (fun w hSw => by obtain ⟨_, k9⟩ := hSw; go_simp) (by exact hH0) ?_
      simp only [Act.put, List.setIfInBounds_toArray, List.set_cons_zero, List.set_cons_succ]
      refine held_take (i := 2) (.slice (some ⟨g, o, none⟩) n c) rfl (by kernel_rfl) (by kernel_rfl) (by kernel_rfl) (by rfl) (fun w hSw => by obtain ⟨_, k9⟩ := hSw; go_simp) (by exact hH0) ?_
      simp only [Act.put, List.setIfInBounds_toArray, List.set_cons_zero, List.set_cons_succ]
      refine held_take (i := 3) (.slice A1 (n - 1) C1) rfl (by kernel_rfl) (by kernel_rfl) (by kernel_rfl) (by rfl) (fun w hSw => by obtain ⟨_, k9⟩ := hSw; go_simp) (by exact hH0) ?_
      simp only [Act.put, List.setIfInBounds_toArray, List.set_cons_zero, List.set_cons_succ]
      refine held_step (i := 1) (.string Y1) rfl (by kernel_rfl) (by rfl) (fun K hK => ?_) (fun wH1 hH1 => ?_)
      · go_simp
        refine (hq1 _ hH0.1).mono ?_
        rintro e w2 ⟨rfl, hS2⟩
        exact hK _ (HK.out _ hS2)
      simp only [Act.put, List.setIfInBounds_toArray, List.set_cons_zero, List.set_cons_succ]
      refine held_step (i := 4) (.string Y2) rfl (by kernel_rfl) (by rfl) (fun K hK => ?_) (fun wH2 hH2 => ?_)
      · go_simp
        refine (hq2 _ hH1.1).mono ?_
        rintro e w2 ⟨rfl, hS2⟩
        exact hK _ (HK.out _ hS2)
      simp only [Act.put, List.setIfInBounds_toArray, List.set_cons_zero, List.set_cons_succ]
      refine held_take (i := 5) (.string (Y1 ++ Y2)) rfl (by kernel_rfl) (by kernel_rfl) (by kernel_rfl) (by rfl) (fun w hSw => by obtain ⟨_, k9⟩ := hSw; go_simp; omega) (by exact hH2) ?_
      simp only [Act.put, List.setIfInBounds_toArray, List.set_cons_zero, List.set_cons_succ]
      refine held_take (i := 6) (.string (Y1 ++ Y2)) rfl (by kernel_rfl) (by kernel_rfl) (by kernel_rfl) (by rfl) (fun w hSw => by obtain ⟨_, k9⟩ := hSw; go_simp) (by exact hH2) ?_
      simp only [Act.put, List.setIfInBounds_toArray, List.set_cons_zero, List.set_cons_succ]
      refine wpAnyH_done (by kernel_rfl) ?_ _
      refine NoPanic.normal ?_
      have hs4 := hH2.1
      go_wp2_with (go_at_call 25; (with_reducible refine (cR _).mono ?_); rintro e w5 ⟨rfl, hb5⟩)
      go_ret
      exact ⟨rfl, hs4.out.trans (hb5.mono hs4.out.size)⟩
    · have hme : meantP repF decF (splitQ p.1).1 (pctL (splitQ p.1).2 ++ bytesL r) = Cs.decL (Cs.kindL (splitQ p.1).1) (pctL (splitQ p.1).2 ++ bytesL r) := by unfold meantP decF; rw [if_neg hs0]
      rw [hme]
      rw [show (splitQ p.1).1.isEmpty = false by cases hb : (splitQ p.1).1 with
        | nil => exact absurd hb hs0
        | cons _ _ => rfl] at t1 t2
      have HA := Lib.hid (show (⟨(Cs.decL (Cs.kindL (splitQ p.1).1) (pctL (splitQ p.1).2 ++ bytesL r)).toArray⟩ : ByteArray) = strL (Cs.decL (Cs.kindL (splitQ p.1).1) (pctL (splitQ p.1).2 ++ bytesL r)) from rfl)
      generalize (⟨(Cs.decL (Cs.kindL (splitQ p.1).1) (pctL (splitQ p.1).2 ++ bytesL r)).toArray⟩ : ByteArray) = ANS at cE HA
      generalize decide (Cs.kindL (splitQ p.1).1 ≠ 0) = kb at cE
      generalize strL (splitQ p.1).1 = S1 at cX t1 t2 cE
      generalize strL (splitQ p.1).2 = S2 at cX hq1
      generalize strL p.1 = x0 at p0 HW1 HX HK cX k0
      rw [← HA.out]
      clear h hl hf hfa hz hbx hR1 he hj hv s1 s2 s3 s4 hlr hcat hxz hY1 hY2 hs0 hme cR
      go_enter Tryz.func71, Tryz.ntmps71
      go_wp2_with fail
      rw [HW1.out]
      go_wp2_with (go_at_call 107; (with_reducible refine (cX _).mono ?_); rintro e w2 ⟨rfl, hb2⟩; have hb := Lib.hid (HB0.out.trans (hb2.mono HB0.out.size)); clear hb2 cX)
      refine wp_region_noPanic ?_
      refine wp_region_held_drew (S := (fun Q => Hid (Below w.heap.size w Q) ∧ Q.cell? ⟨g, o, none⟩ = some (.string x0))) (by kernel_rfl) (HK.out _ (Lib.hid hb.out.drew)) (fun hH0 => ?_)
      refine held_take (i := 0) (.string S2) rfl (by kernel_rfl) (by kernel_rfl) (by kernel_rfl) (by rfl) (fun w hSw => by obtain ⟨_, k9⟩ := hSw; go_simp) (by exact hH0) ?_
      simp only [Act.put, List.setIfInBounds_toArray, List.set_cons_zero, List.set_cons_succ]
      refine held_take (i := 2) (.slice (some ⟨g, o, none⟩) n c) rfl (by kernel_rfl) (by kernel_rfl) (by kernel_rfl) (by rfl) (fun w hSw => by obtain ⟨_, k9⟩ := hSw; go_simp) (by exact hH0) ?_
      simp only [Act.put, List.setIfInBounds_toArray, List.set_cons_zero, List.set_cons_succ]
      refine held_take (i := 3) (.slice A1 (n - 1) C1) rfl (by kernel_rfl) (by kernel_rfl) (by kernel_rfl) (by rfl) (fun w hSw => by obtain ⟨_, k9⟩ := hSw; go_simp) (by exact hH0) ?_
      simp only [Act.put, List.setIfInBounds_toArray, List.set_cons_zero, List.set_cons_succ]
      refine held_step (i := 1) (.string Y1) rfl (by kernel_rfl) (by rfl) (fun K hK => ?_) (fun wH1 hH1 => ?_)
      · go_simp
        refine (hq1 _ hH0.1).mono ?_
        rintro e w2 ⟨rfl, hS2⟩
        exact hK _ (HK.out _ hS2)
      simp only [Act.put, List.setIfInBounds_toArray, List.set_cons_zero, List.set_cons_succ]
      refine held_step (i := 4) (.string Y2) rfl (by kernel_rfl) (by rfl) (fun K hK => ?_) (fun wH2 hH2 => ?_)
      · go_simp
        refine (hq2 _ hH1.1).mono ?_
        rintro e w2 ⟨rfl, hS2⟩
        exact hK _ (HK.out _ hS2)
      simp only [Act.put, List.setIfInBounds_toArray, List.set_cons_zero, List.set_cons_succ]
      refine held_take (i := 5) (.string (Y1 ++ Y2)) rfl (by kernel_rfl) (by kernel_rfl) (by kernel_rfl) (by rfl) (fun w hSw => by obtain ⟨_, k9⟩ := hSw; go_simp; omega) (by exact hH2) ?_
      simp only [Act.put, List.setIfInBounds_toArray, List.set_cons_zero, List.set_cons_succ]
      refine held_take (i := 6) (.string (Y1 ++ Y2)) rfl (by kernel_rfl) (by kernel_rfl) (by kernel_rfl) (by rfl) (fun w hSw => by obtain ⟨_, k9⟩ := hSw; go_simp) (by exact hH2) ?_
      simp only [Act.put, List.setIfInBounds_toArray, List.set_cons_zero, List.set_cons_succ]
      refine wpAnyH_done (by kernel_rfl) ?_ _
      refine NoPanic.normal ?_
      have hs4 := hH2.1
      go_wp2_with (go_at_call 109; (with_reducible refine (cE _ (HVS.out _ (by first | exact hs4 | exact Lib.hid hs4.out.drew))).mono ?_); rintro e w5 ⟨rfl, hb5⟩)
      go_ret
      exact ⟨rfl, hs4.out.trans (hb5.mono hs4.out.size)⟩
end Go.Proofs.YtdinachiiimngaaGreatDoor
