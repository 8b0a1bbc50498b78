/- The reference's Line and Write. -/
import Derived.Test.YtdinachiiimngaaGreatDoorK18
import Derived.Test.YtdinachiiimngaaGreatDoorK8
import Derived.Test.YtdinachiiimngaaGreatDoorK11
namespace Go.Proofs.YtdinachiiimngaaGreatDoor
open Go.ChangeShapes Go.WideShapes Go.ChangeAt Go.RowKit
open TokP AdrP CtP

def butP : ByteArray := ⟨#[40, 41, 60, 62, 64, 44, 59, 58, 92, 34, 47, 91, 93, 63, 61]⟩
theorem free_is (c : UInt8) : freeB c = (letterB c || (⟨#[45, 46, 95, 126]⟩ : ByteArray).data.toList.contains c) := rfl
theorem cells_two (c : UInt8) {y : Int} (h : (c.toNat : Int) = y) : (#[.int .u8 92, .int .u8 y] : Array Value) = (Lib.byteCells [92, c]).toArray := by subst h; rfl
theorem cells_three (a b : UInt8) : (#[.int .u8 37, .int .u8 (a.toNat : Int), .int .u8 (b.toNat : Int)] : Array Value) = (Lib.byteCells [37, a, b]).toArray := rfl
theorem fmt_plain {v : List UInt8} (h : plainV v = true) : fmtV v = 61 :: v := by unfold fmtV; rw [if_pos h]
theorem fmt_quoted {v : List UInt8} (h : ¬ plainV v = true) (h2 : quotedV v = true) : fmtV v = 61 :: 34 :: (escQ v ++ [34]) := by unfold fmtV; rw [if_neg h, if_pos h2]
theorem fmt_pct {v : List UInt8} (h : ¬ plainV v = true) (h2 : ¬ quotedV v = true) : fmtV v = 42 :: 61 :: (utf8N ++ 39 :: 39 :: pctE v) := by unfold fmtV; rw [if_neg h, if_neg h2]
set_option maxRecDepth 100000 in
set_option maxHeartbeats 8000000 in
theorem rline_any (F : ByteArray) (v : Value) (l : List (List UInt8 × List UInt8)) (hv : ∀ p ∈ l, p.2.length ≤ 2000) (hl : l.length ≤ 20) (hz : (lineW F.data.toList l).length ≤ 3900000) (w : World) (h : Hid (HasP w v l)) :
    Calls Tryz.prog 21 #[.string F, v] w fun e w' => e = .returned (.string (strL (lineW F.data.toList l))) ∧ Below w.heap.size w w' := by
  obtain ⟨a, c, rfl⟩ := h.out.form
  obtain ⟨n, hn⟩ : ∃ n, l.length = n := ⟨_, rfl⟩
  rw [hn] at h hl ⊢
  have HN := Lib.hid hn
  have HVL := Lib.hid hv
  have HZ := Lib.hid (fun k => Nat.le_trans (lineW_le F.data.toList l k) hz)
  clear hn hv hz
  go_enter Tryz.func21, Tryz.ntmps21
  go_wp2_with fail
  go_loopw [5, 6] (fun o i wr => ∃ (k : Nat) (T : ByteArray), k ≤ n ∧ o = .string T ∧ i = .int .i64 k ∧ Hid (T = strL (lineW F.data.toList (l.take k))) ∧ Hid (Below w.heap.size w wr)) (fun _ i _ => n - (intOf i).toNat)
  case atStart => exact ⟨0, F, Nat.zero_le _, rfl, rfl, Lib.hid (by unfold lineW; rw [List.take_zero, List.flatMap_nil, List.append_nil, strL_of]), Lib.hid (Below.refl _ _)⟩
  case round =>
    obtain ⟨k, T, hk, rfl, rfl, HT, HB⟩ := hrel
    have F1 : IntKind.i64.wrap ((k : Int) + 1) = (k : Int) + 1 := by rw [IntKind.wrap_i64]; omega
    by_cases hlt : k < n
    · have hlt' : (k : Int) < (n : Int) := by omega
      obtain ⟨g, o, rfl, hfa⟩ := h.out.at (by omega)
      obtain ⟨p, hp⟩ : ∃ p, l[k]? = some p := ⟨_, List.getElem?_eq_getElem (by rw [HN.out]; exact hlt)⟩
      obtain ⟨p0, p1⟩ := hfa.step HB.out k p hp
      have hstep := lineW_step F.data.toList l k p hp
      have hzs := HZ.out (k + 1)
      rw [hstep, List.length_append, List.length_append, List.length_append] at hzs
      have HS := Lib.hid (show strL (lineW F.data.toList (l.take (k + 1))) = ((T ++ (⟨#[59, 32]⟩ : ByteArray)) ++ strL p.1) ++ strL (fmtV p.2) by
        rw [hstep, HT.out]; exact bytes_is (by rw [list_append, list_append, list_append, strL_list, strL_list, strL_list, strL_list]))
      have hTz : T.size ≤ 3900000 := by rw [HT.out, strL_size]; omega
      have hv2 := HVL.out p (List.mem_of_getElem? hp)
      have hNz : (strL p.1).size ≤ 3900000 := by rw [strL_size]; omega
      have hc1 : T.size + (⟨#[59, 32]⟩ : ByteArray).size ≤ 8000000 := by show T.size + 2 ≤ _; omega
      have cA := fun W => rwithin_any (strL p.2) 33 ⟨#[40, 41, 60, 62, 64, 44, 59, 58, 92, 34, 47, 91, 93, 63, 61]⟩ (by rw [strL_size]; omega) (by decide) W
      have cB := fun W => rwithin_any (strL p.2) 32 ⟨#[]⟩ (by rw [strL_size]; omega) (by decide) W
      rw [strL_list] at cA cB
      rw [within_quoted, show ((32 : Nat) : Int) = 32 from rfl] at cB
      rw [show ((33 : Nat) : Int) = 33 from rfl] at cA
      obtain ⟨t1, t2⟩ := str_cmp p.2
      have HVV := Lib.hid (strL_list p.2)
      have hVz : (strL p.2).size ≤ 2000 := by rw [strL_size]; exact hv2
      generalize strL p.1 = N at p0 HS hNz
      have hc2 : (T ++ (⟨#[59, 32]⟩ : ByteArray)).size + N.size ≤ 16000000 := by rw [ByteArray.size_append]; show T.size + 2 + N.size ≤ _; omega
      have hOz : ((T ++ (⟨#[59, 32]⟩ : ByteArray)) ++ N).size ≤ 8000000 := by rw [ByteArray.size_append, ByteArray.size_append]; show T.size + 2 + N.size ≤ _; omega
      have hVS : strL p.2 = strL p.2 := rfl
      generalize hVd : strL p.2 = V at p1 cA cB t1 t2 HVV hVz hVS
      have HVd := Lib.hid hVd
      clear hVS hVd hfa hp hstep hzs
      generalize hO : (T ++ (⟨#[59, 32]⟩ : ByteArray)) ++ N = O2 at HS hOz
      have HO := Lib.hid hO
      clear hO
      by_cases hpl : plainV p.2 = true
      · have hne : p.2 ≠ [] := fun e => by rw [e] at hpl; exact absurd hpl (by decide)
        rw [within_plain _ hne, hpl] at cA
        rw [show p.2.isEmpty = false by cases hq : p.2 with | nil => exact absurd hq hne | cons _ _ => rfl] at t1 t2
        have HR := Lib.hid (show (O2 ++ (⟨#[61]⟩ : ByteArray)) ++ V = strL (lineW F.data.toList (l.take (k + 1))) by
          rw [HS.out, fmt_plain hpl, ← HVd.out]; exact bytes_is (by rw [list_append, list_append, list_append, strL_list, strL_list, List.append_assoc]; rfl))
        have hc3 : O2.size + (⟨#[61]⟩ : ByteArray).size ≤ 16000000 := by show O2.size + 1 ≤ _; omega
        have hc4 : (O2 ++ (⟨#[61]⟩ : ByteArray)).size + V.size ≤ 16000000 := by rw [ByteArray.size_append]; show O2.size + 1 + V.size ≤ _; omega
        generalize quotedV p.2 = qd at cB
        clear HS hne hpl HVV
        go_wp2_with (first
          | (rw [HO.out])
          | (go_at_call 45; (with_reducible refine (cA _).mono ?_); rintro e w2 ⟨rfl, rfl⟩; clear cA)
          | (go_at_call 45; (with_reducible refine (cB _).mono ?_); rintro e w3 ⟨rfl, rfl⟩; clear cB))
        rw [HR.out]
        go_roundw
        case rel => exact ⟨k + 1, _, by omega, rfl, by go_num, Lib.hid rfl, HB⟩
        case measure => simp [intOf]; omega
      · have hb8 : withinB 33 (⟨#[40, 41, 60, 62, 64, 44, 59, 58, 92, 34, 47, 91, 93, 63, 61]⟩ : ByteArray).data.toList p.2 = decide (p.2 = []) := by
          by_cases hne : p.2 = []
          · rw [decide_eq_true hne, hne]; decide
          · rw [within_plain _ hne, decide_eq_false hne]; simpa using hpl
        rw [hb8] at cA
        have hb : p.2.isEmpty = decide (p.2 = []) := by cases p.2 <;> simp
        rw [hb] at t1 t2
        obtain ⟨n2, hn2⟩ : ∃ n2, V.size = n2 := ⟨_, rfl⟩
        rw [hn2] at hVz
        by_cases hne : p.2 = []
        · have hq : quotedV p.2 = true := by rw [hne]; decide
          rw [decide_eq_true hne] at cA t1 t2
          rw [hq] at cB
          clear hne hb
          have HR := Lib.hid (show ((O2 ++ (⟨#[61, 34]⟩ : ByteArray)) ++ strL (escQ p.2)) ++ (⟨#[34]⟩ : ByteArray) = strL (lineW F.data.toList (l.take (k + 1))) by rw [HS.out, fmt_quoted hpl hq]; exact bytes_is (by rw [list_append, list_append, list_append, list_append, strL_list, strL_list]; simp))
          clear HS hb8
          go_wp2_with (first
            | (rw [HO.out])
            | (go_at_call 45; (with_reducible refine (cA _).mono ?_); rintro e w2 ⟨rfl, rfl⟩; clear cA)
            | (go_at_call 45; (with_reducible refine (cB _).mono ?_); rintro e w3 ⟨rfl, rfl⟩; clear cB))
          go_loopw [10, 11] (fun o i wq => ∃ (j mm : Nat) (O : List UInt8), j ≤ n2 ∧ mm ≤ 3 * j ∧ i = .int .i64 j ∧ (∃ a c, o = .slice a mm c) ∧ Hid (O.length = mm) ∧ Hid (O = escQ (p.2.take j)) ∧ Hid (Ow wq w.heap.size o O) ∧ Hid (Below w.heap.size w wq)) (fun _ i _ => n2 - (intOf i).toNat)
          case atStart => exact ⟨0, 0, [], Nat.zero_le _, Nat.zero_le _, rfl, ⟨none, 0, rfl⟩, Lib.hid rfl, Lib.hid (by rw [List.take_zero]; rfl), ow_nil _ _, HB⟩
          case round =>
            obtain ⟨j, mm, O, hj, hmm, rfl, ⟨a0, c0, rfl⟩, hm, HE, ho, hb⟩ := hrel
            have F2 : IntKind.i64.wrap ((j : Int) + 1) = (j : Int) + 1 := by rw [IntKind.wrap_i64]; omega
            by_cases hjl : j < n2
            · have hjl' : (j : Int) < (n2 : Int) := by omega
              obtain ⟨d, x, hd, hx, hx2, S1⟩ := run_byte V j (by rw [hn2]; exact hjl)
              rw [HVV.out] at hd
              have cH := fun W => rhas_any ⟨#[45, 46, 95, 126]⟩ d x hx (by decide) W
              have HY : Hid ((d.toNat : Int) = (x : Int)) := by show _ = _; rw [hx]
              generalize (⟨#[45, 46, 95, 126]⟩ : ByteArray).data.toList.contains d = bh at cH
              by_cases h34 : x = 34
              · subst h34
                have HE2 := Lib.hid (show O ++ [92, d] = escQ (p.2.take (j + 1)) by rw [escQ_step hd, HE.out]; unfold esc1; rw [if_pos (.inl (UInt8.toNat_inj.1 hx))])
                rw [show ((34 : Nat) : Int) = 34 from rfl] at cH S1 HY
                clear hd hx
                go_wp2_with (first
                  | (go_at_call 46; (with_reducible refine (cH _).mono ?_); rintro e w4 ⟨rfl, rfl⟩; clear cH)
                  | (at_builtin; refine wpList_bytes rfl (.tmp 67) (.tmp 69) rfl w.heap.size [92, d] _ (cells_two d HY.out) rfl rfl ho.out hm.out hb.out.size (by first | omega | (simp; omega)) (Nat.zero_lt_succ _) ?_; intro a2 c2 w6 h2 g2; replace h2 := Lib.hid h2; replace g2 := Lib.hid g2))
                go_roundw
                case rel => exact ⟨j + 1, mm + 2, O ++ [92, d], by omega, by omega, by go_num, ⟨a2, c2, rfl⟩, Lib.hid (by rw [List.length_append, hm.out]; rfl), HE2, h2, ow_below hb.out ho.out (Nat.le_refl _) g2.out⟩
                case measure => simp [intOf]; omega
              · have h34' : ¬ (x : Int) = 34 := by omega
                have h34b : ((x : Int) == 34) = false := by rw [beq_eq_false_iff_ne]; omega
                have h34d : decide ((x : Int) = 34) = false := by rw [decide_eq_false_iff_not]; omega
                by_cases h92 : x = 92
                · subst h92
                  have HE2 := Lib.hid (show O ++ [92, d] = escQ (p.2.take (j + 1)) by rw [escQ_step hd, HE.out]; unfold esc1; rw [if_pos (.inr (UInt8.toNat_inj.1 hx))])
                  rw [show ((92 : Nat) : Int) = 92 from rfl] at cH S1 HY
                  clear hd hx
                  go_wp2_with (first
                    | (go_at_call 46; (with_reducible refine (cH _).mono ?_); rintro e w4 ⟨rfl, rfl⟩; clear cH)
                    | (at_builtin; refine wpList_bytes rfl (.tmp 67) (.tmp 69) rfl w.heap.size [92, d] _ (cells_two d HY.out) rfl rfl ho.out hm.out hb.out.size (by first | omega | (simp; omega)) (Nat.zero_lt_succ _) ?_; intro a2 c2 w6 h2 g2; replace h2 := Lib.hid h2; replace g2 := Lib.hid g2))
                  go_roundw
                  case rel => exact ⟨j + 1, mm + 2, O ++ [92, d], by omega, by omega, by go_num, ⟨a2, c2, rfl⟩, Lib.hid (by rw [List.length_append, hm.out]; rfl), HE2, h2, ow_below hb.out ho.out (Nat.le_refl _) g2.out⟩
                  case measure => simp [intOf]; omega
                · have h92' : ¬ (x : Int) = 92 := by omega
                  have h92b : ((x : Int) == 92) = false := by rw [beq_eq_false_iff_ne]; omega
                  have h92d : decide ((x : Int) = 92) = false := by rw [decide_eq_false_iff_not]; omega
                  have HE2 := Lib.hid (show O ++ [d] = escQ (p.2.take (j + 1)) by rw [escQ_step hd, HE.out]; unfold esc1; rw [if_neg (fun e => e.elim (fun e => h34 (by rw [← hx, e]; rfl)) (fun e => h92 (by rw [← hx, e]; rfl)))])
                  clear hd hx h34 h92
                  go_wp2_with (first
                    | (go_at_call 46; (with_reducible refine (cH _).mono ?_); rintro e w4 ⟨rfl, rfl⟩; clear cH)
                    | (at_builtin; refine wpList_byte rfl (.tmp 79) (.tmp 81) rfl w.heap.size d _ HY.out rfl rfl ho.out hm.out hb.out.size (by first | omega | (simp; omega)) ?_; intro a2 c2 w6 h2 g2; replace h2 := Lib.hid h2; replace g2 := Lib.hid g2))
                  go_roundw
                  case rel => exact ⟨j + 1, mm + 1, O ++ [d], by omega, by omega, by go_num, ⟨a2, c2, rfl⟩, Lib.hid (by rw [List.length_append, hm.out]; rfl), HE2, h2, ow_below hb.out ho.out (Nat.le_refl _) g2.out⟩
                  case measure => simp [intOf]; omega
            · have hjl' : ¬ (j : Int) < (n2 : Int) := by omega
              have he := HE.out
              rw [List.take_of_length_le (by rw [← HVV.out, ← size_list, hn2]; omega)] at he
              subst he
              have hcv := conv_own hm.out (by have h := ho.out; unfold Ow at h; rw [hm.out] at h; exact h)
              have hYz : (strL (escQ p.2)).size ≤ 6000 := by rw [strL_size, hm.out]; omega
              generalize strL (escQ p.2) = Y at hcv HR hYz
              have hd1 : O2.size + (⟨#[61, 34]⟩ : ByteArray).size ≤ 16000000 := by show O2.size + 2 ≤ _; omega
              have hd2 : (O2 ++ (⟨#[61, 34]⟩ : ByteArray)).size + Y.size ≤ 16000000 := by rw [ByteArray.size_append]; show O2.size + 2 + Y.size ≤ _; omega
              have hd3 : ((O2 ++ (⟨#[61, 34]⟩ : ByteArray)) ++ Y).size + (⟨#[34]⟩ : ByteArray).size ≤ 16000000 := by rw [ByteArray.size_append, ByteArray.size_append]; show O2.size + 2 + Y.size + 1 ≤ _; omega
              clear HE
              go_wp2_with fail
              rw [HR.out]
              go_roundw
              case rel => exact ⟨k + 1, _, by omega, rfl, by go_num, Lib.hid rfl, hb⟩
              case measure => simp [intOf]; omega
        · rw [decide_eq_false hne] at cA t1 t2
          cases hq : quotedV p.2 with
          | true =>
            rw [hq] at cB
            clear hne hb
            have HR := Lib.hid (show ((O2 ++ (⟨#[61, 34]⟩ : ByteArray)) ++ strL (escQ p.2)) ++ (⟨#[34]⟩ : ByteArray) = strL (lineW F.data.toList (l.take (k + 1))) by rw [HS.out, fmt_quoted hpl hq]; exact bytes_is (by rw [list_append, list_append, list_append, list_append, strL_list, strL_list]; simp))
            clear HS hb8
            go_wp2_with (first
              | (rw [HO.out])
              | (go_at_call 45; (with_reducible refine (cA _).mono ?_); rintro e w2 ⟨rfl, rfl⟩; clear cA)
              | (go_at_call 45; (with_reducible refine (cB _).mono ?_); rintro e w3 ⟨rfl, rfl⟩; clear cB))
            go_loopw [10, 11] (fun o i wq => ∃ (j mm : Nat) (O : List UInt8), j ≤ n2 ∧ mm ≤ 3 * j ∧ i = .int .i64 j ∧ (∃ a c, o = .slice a mm c) ∧ Hid (O.length = mm) ∧ Hid (O = escQ (p.2.take j)) ∧ Hid (Ow wq w.heap.size o O) ∧ Hid (Below w.heap.size w wq)) (fun _ i _ => n2 - (intOf i).toNat)
            case atStart => exact ⟨0, 0, [], Nat.zero_le _, Nat.zero_le _, rfl, ⟨none, 0, rfl⟩, Lib.hid rfl, Lib.hid (by rw [List.take_zero]; rfl), ow_nil _ _, HB⟩
            case round =>
              obtain ⟨j, mm, O, hj, hmm, rfl, ⟨a0, c0, rfl⟩, hm, HE, ho, hb⟩ := hrel
              have F2 : IntKind.i64.wrap ((j : Int) + 1) = (j : Int) + 1 := by rw [IntKind.wrap_i64]; omega
              by_cases hjl : j < n2
              · have hjl' : (j : Int) < (n2 : Int) := by omega
                obtain ⟨d, x, hd, hx, hx2, S1⟩ := run_byte V j (by rw [hn2]; exact hjl)
                rw [HVV.out] at hd
                have cH := fun W => rhas_any ⟨#[45, 46, 95, 126]⟩ d x hx (by decide) W
                have HY : Hid ((d.toNat : Int) = (x : Int)) := by show _ = _; rw [hx]
                generalize (⟨#[45, 46, 95, 126]⟩ : ByteArray).data.toList.contains d = bh at cH
                by_cases h34 : x = 34
                · subst h34
                  have HE2 := Lib.hid (show O ++ [92, d] = escQ (p.2.take (j + 1)) by rw [escQ_step hd, HE.out]; unfold esc1; rw [if_pos (.inl (UInt8.toNat_inj.1 hx))])
                  rw [show ((34 : Nat) : Int) = 34 from rfl] at cH S1 HY
                  clear hd hx
                  go_wp2_with (first
                    | (go_at_call 46; (with_reducible refine (cH _).mono ?_); rintro e w4 ⟨rfl, rfl⟩; clear cH)
                    | (at_builtin; refine wpList_bytes rfl (.tmp 67) (.tmp 69) rfl w.heap.size [92, d] _ (cells_two d HY.out) rfl rfl ho.out hm.out hb.out.size (by first | omega | (simp; omega)) (Nat.zero_lt_succ _) ?_; intro a2 c2 w6 h2 g2; replace h2 := Lib.hid h2; replace g2 := Lib.hid g2))
                  go_roundw
                  case rel => exact ⟨j + 1, mm + 2, O ++ [92, d], by omega, by omega, by go_num, ⟨a2, c2, rfl⟩, Lib.hid (by rw [List.length_append, hm.out]; rfl), HE2, h2, ow_below hb.out ho.out (Nat.le_refl _) g2.out⟩
                  case measure => simp [intOf]; omega
                · have h34' : ¬ (x : Int) = 34 := by omega
                  have h34b : ((x : Int) == 34) = false := by rw [beq_eq_false_iff_ne]; omega
                  have h34d : decide ((x : Int) = 34) = false := by rw [decide_eq_false_iff_not]; omega
                  by_cases h92 : x = 92
                  · subst h92
                    have HE2 := Lib.hid (show O ++ [92, d] = escQ (p.2.take (j + 1)) by rw [escQ_step hd, HE.out]; unfold esc1; rw [if_pos (.inr (UInt8.toNat_inj.1 hx))])
                    rw [show ((92 : Nat) : Int) = 92 from rfl] at cH S1 HY
                    clear hd hx
                    go_wp2_with (first
                      | (go_at_call 46; (with_reducible refine (cH _).mono ?_); rintro e w4 ⟨rfl, rfl⟩; clear cH)
                      | (at_builtin; refine wpList_bytes rfl (.tmp 67) (.tmp 69) rfl w.heap.size [92, d] _ (cells_two d HY.out) rfl rfl ho.out hm.out hb.out.size (by first | omega | (simp; omega)) (Nat.zero_lt_succ _) ?_; intro a2 c2 w6 h2 g2; replace h2 := Lib.hid h2; replace g2 := Lib.hid g2))
                    go_roundw
                    case rel => exact ⟨j + 1, mm + 2, O ++ [92, d], by omega, by omega, by go_num, ⟨a2, c2, rfl⟩, Lib.hid (by rw [List.length_append, hm.out]; rfl), HE2, h2, ow_below hb.out ho.out (Nat.le_refl _) g2.out⟩
                    case measure => simp [intOf]; omega
                  · have h92' : ¬ (x : Int) = 92 := by omega
                    have h92b : ((x : Int) == 92) = false := by rw [beq_eq_false_iff_ne]; omega
                    have h92d : decide ((x : Int) = 92) = false := by rw [decide_eq_false_iff_not]; omega
                    have HE2 := Lib.hid (show O ++ [d] = escQ (p.2.take (j + 1)) by rw [escQ_step hd, HE.out]; unfold esc1; rw [if_neg (fun e => e.elim (fun e => h34 (by rw [← hx, e]; rfl)) (fun e => h92 (by rw [← hx, e]; rfl)))])
                    clear hd hx h34 h92
                    go_wp2_with (first
                      | (go_at_call 46; (with_reducible refine (cH _).mono ?_); rintro e w4 ⟨rfl, rfl⟩; clear cH)
                      | (at_builtin; refine wpList_byte rfl (.tmp 79) (.tmp 81) rfl w.heap.size d _ HY.out rfl rfl ho.out hm.out hb.out.size (by first | omega | (simp; omega)) ?_; intro a2 c2 w6 h2 g2; replace h2 := Lib.hid h2; replace g2 := Lib.hid g2))
                    go_roundw
                    case rel => exact ⟨j + 1, mm + 1, O ++ [d], by omega, by omega, by go_num, ⟨a2, c2, rfl⟩, Lib.hid (by rw [List.length_append, hm.out]; rfl), HE2, h2, ow_below hb.out ho.out (Nat.le_refl _) g2.out⟩
                    case measure => simp [intOf]; omega
              · have hjl' : ¬ (j : Int) < (n2 : Int) := by omega
                have he := HE.out
                rw [List.take_of_length_le (by rw [← HVV.out, ← size_list, hn2]; omega)] at he
                subst he
                have hcv := conv_own hm.out (by have h := ho.out; unfold Ow at h; rw [hm.out] at h; exact h)
                have hYz : (strL (escQ p.2)).size ≤ 6000 := by rw [strL_size, hm.out]; omega
                generalize strL (escQ p.2) = Y at hcv HR hYz
                have hd1 : O2.size + (⟨#[61, 34]⟩ : ByteArray).size ≤ 16000000 := by show O2.size + 2 ≤ _; omega
                have hd2 : (O2 ++ (⟨#[61, 34]⟩ : ByteArray)).size + Y.size ≤ 16000000 := by rw [ByteArray.size_append]; show O2.size + 2 + Y.size ≤ _; omega
                have hd3 : ((O2 ++ (⟨#[61, 34]⟩ : ByteArray)) ++ Y).size + (⟨#[34]⟩ : ByteArray).size ≤ 16000000 := by rw [ByteArray.size_append, ByteArray.size_append]; show O2.size + 2 + Y.size + 1 ≤ _; omega
                clear HE
                go_wp2_with fail
                rw [HR.out]
                go_roundw
                case rel => exact ⟨k + 1, _, by omega, rfl, by go_num, Lib.hid rfl, hb⟩
                case measure => simp [intOf]; omega
          | false =>
            rw [hq] at cB
            clear hne hb
            have HR := Lib.hid (show (O2 ++ (⟨#[42, 61, 117, 116, 102, 45, 56, 39, 39]⟩ : ByteArray)) ++ strL (pctE p.2) = strL (lineW F.data.toList (l.take (k + 1))) by rw [HS.out, fmt_pct hpl (by rw [hq]; exact Bool.false_ne_true)]; exact bytes_is (by rw [list_append, list_append, list_append, strL_list, strL_list]; unfold utf8N; simp))
            clear HS hb8
            go_wp2_with (first
              | (rw [HO.out])
              | (go_at_call 45; (with_reducible refine (cA _).mono ?_); rintro e w2 ⟨rfl, rfl⟩; clear cA)
              | (go_at_call 45; (with_reducible refine (cB _).mono ?_); rintro e w3 ⟨rfl, rfl⟩; clear cB))
            go_loopw [10, 11] (fun o i wq => ∃ (j mm : Nat) (O : List UInt8), j ≤ n2 ∧ mm ≤ 3 * j ∧ i = .int .i64 j ∧ (∃ a c, o = .slice a mm c) ∧ Hid (O.length = mm) ∧ Hid (O = pctE (p.2.take j)) ∧ Hid (Ow wq w.heap.size o O) ∧ Hid (Below w.heap.size w wq)) (fun _ i _ => n2 - (intOf i).toNat)
            case atStart => exact ⟨0, 0, [], Nat.zero_le _, Nat.zero_le _, rfl, ⟨none, 0, rfl⟩, Lib.hid rfl, Lib.hid (by rw [List.take_zero]; rfl), ow_nil _ _, HB⟩
            case round =>
              obtain ⟨j, mm, O, hj, hmm, rfl, ⟨a0, c0, rfl⟩, hm, HE, ho, hb⟩ := hrel
              have F2 : IntKind.i64.wrap ((j : Int) + 1) = (j : Int) + 1 := by rw [IntKind.wrap_i64]; omega
              by_cases hjl : j < n2
              · have hjl' : (j : Int) < (n2 : Int) := by omega
                obtain ⟨d, x, hd, hx, hx2, S1⟩ := run_byte V j (by rw [hn2]; exact hjl)
                rw [HVV.out] at hd
                have cH := fun W => rhas_any ⟨#[45, 46, 95, 126]⟩ d x hx (by decide) W
                have HY : Hid ((d.toNat : Int) = (x : Int)) := by show _ = _; rw [hx]
                have cL := fun W => rletter_any d x hx W
                have hfree := free_is d
                have hstep := pctE_step hd
                unfold pctB at hstep
                generalize (⟨#[45, 46, 95, 126]⟩ : ByteArray).data.toList.contains d = bh at cH hfree
                generalize letterB d = bl at cL hfree
                cases bl with
                | true =>
                  have HE2 := Lib.hid (show O ++ [d] = pctE (p.2.take (j + 1)) by rw [hstep, HE.out, if_pos (hfree.trans (Bool.true_or _))])
                  clear hd hx hfree hstep
                  go_wp2_with (first
                    | (go_at_call 46; (with_reducible refine (cH _).mono ?_); rintro e w4 ⟨rfl, rfl⟩; clear cH)
                    | (go_at_call 47; (with_reducible refine (cL _).mono ?_); rintro e w5 ⟨rfl, rfl⟩; clear cL)
                    | (at_builtin; refine wpList_byte rfl (.tmp 79) (.tmp 81) rfl w.heap.size d _ HY.out rfl rfl ho.out hm.out hb.out.size (by first | omega | (simp; omega)) ?_; intro a2 c2 w6 h2 g2; replace h2 := Lib.hid h2; replace g2 := Lib.hid g2))
                  go_roundw
                  case rel => exact ⟨j + 1, mm + 1, O ++ [d], by omega, by omega, by go_num, ⟨a2, c2, rfl⟩, Lib.hid (by rw [List.length_append, hm.out]; rfl), HE2, h2, ow_below hb.out ho.out (Nat.le_refl _) g2.out⟩
                  case measure => simp [intOf]; omega
                | false =>
                  cases bh with
                  | true =>
                    have HE2 := Lib.hid (show O ++ [d] = pctE (p.2.take (j + 1)) by rw [hstep, HE.out, if_pos (show freeB d = true from hfree)])
                    clear hd hx hfree hstep
                    go_wp2_with (first
                      | (go_at_call 46; (with_reducible refine (cH _).mono ?_); rintro e w4 ⟨rfl, rfl⟩; clear cH)
                      | (go_at_call 47; (with_reducible refine (cL _).mono ?_); rintro e w5 ⟨rfl, rfl⟩; clear cL)
                      | (at_builtin; refine wpList_byte rfl (.tmp 79) (.tmp 81) rfl w.heap.size d _ HY.out rfl rfl ho.out hm.out hb.out.size (by first | omega | (simp; omega)) ?_; intro a2 c2 w6 h2 g2; replace h2 := Lib.hid h2; replace g2 := Lib.hid g2))
                    go_roundw
                    case rel => exact ⟨j + 1, mm + 1, O ++ [d], by omega, by omega, by go_num, ⟨a2, c2, rfl⟩, Lib.hid (by rw [List.length_append, hm.out]; rfl), HE2, h2, ow_below hb.out ho.out (Nat.le_refl _) g2.out⟩
                    case measure => simp [intOf]; omega
                  | false =>
                    have HE2 := Lib.hid (show O ++ [37, hexU (x / 16), hexU (x % 16)] = pctE (p.2.take (j + 1)) by rw [hstep, HE.out, if_neg (by rw [hfree]; decide), hx])
                    have cD1 := fun W => rdigit_any (x / 16) (by omega) W
                    have cD2 := fun W => rdigit_any (x % 16) (by omega) W
                    have e1 : ((x / 16 : Nat) : Int) = (x : Int) / 16 := by omega
                    have e2 : ((x % 16 : Nat) : Int) = (x : Int) % 16 := by omega
                    rw [e1] at cD1
                    rw [e2] at cD2
                    generalize hexU (x / 16) = u1 at cD1 HE2
                    generalize hexU (x % 16) = u2 at cD2 HE2
                    clear hd hx hfree hstep e1 e2
                    go_wp2_with (first
                      | (go_at_call 46; (with_reducible refine (cH _).mono ?_); rintro e w4 ⟨rfl, rfl⟩; clear cH)
                      | (go_at_call 47; (with_reducible refine (cL _).mono ?_); rintro e w5 ⟨rfl, rfl⟩; clear cL)
                      | (go_at_call 48; (with_reducible refine (cD1 _).mono ?_); rintro e w7 ⟨rfl, rfl⟩; clear cD1)
                      | (go_at_call 48; (with_reducible refine (cD2 _).mono ?_); rintro e w8 ⟨rfl, rfl⟩; clear cD2)
                      | (at_builtin; refine wpList_bytes rfl (.tmp 83) (.tmp 90) rfl w.heap.size [37, u1, u2] _ (cells_three u1 u2) rfl rfl ho.out hm.out hb.out.size (by first | omega | (simp; omega)) (Nat.zero_lt_succ _) ?_; intro a2 c2 w6 h2 g2; replace h2 := Lib.hid h2; replace g2 := Lib.hid g2))
                    go_roundw
                    case rel => exact ⟨j + 1, mm + 3, O ++ [37, u1, u2], by omega, by omega, by go_num, ⟨a2, c2, rfl⟩, Lib.hid (by rw [List.length_append, hm.out]; rfl), HE2, h2, ow_below hb.out ho.out (Nat.le_refl _) g2.out⟩
                    case measure => simp [intOf]; omega
              · have hjl' : ¬ (j : Int) < (n2 : Int) := by omega
                have he := HE.out
                rw [List.take_of_length_le (by rw [← HVV.out, ← size_list, hn2]; omega)] at he
                subst he
                have hcv := conv_own hm.out (by have h := ho.out; unfold Ow at h; rw [hm.out] at h; exact h)
                have hYz : (strL (pctE p.2)).size ≤ 6000 := by rw [strL_size, hm.out]; omega
                generalize strL (pctE p.2) = Y at hcv HR hYz
                have hd1 : O2.size + (⟨#[42, 61, 117, 116, 102, 45, 56, 39, 39]⟩ : ByteArray).size ≤ 16000000 := by show O2.size + 9 ≤ _; omega
                have hd2 : (O2 ++ (⟨#[42, 61, 117, 116, 102, 45, 56, 39, 39]⟩ : ByteArray)).size + Y.size ≤ 16000000 := by rw [ByteArray.size_append]; show O2.size + 9 + Y.size ≤ _; omega
                clear HE
                go_wp2_with fail
                rw [HR.out]
                go_roundw
                case rel => exact ⟨k + 1, _, by omega, rfl, by go_num, Lib.hid rfl, hb⟩
                case measure => simp [intOf]; omega
    · obtain rfl : k = n := by omega
      have hlt' : ¬ (k : Int) < (k : Int) := by omega
      have ht := HT.out
      rw [List.take_of_length_le (by rw [HN.out]; exact Nat.le_refl _)] at ht
      have HT2 := Lib.hid ht
      clear ht HT
      go_wp2_with fail
      go_ret
      exact ⟨congrArg (fun z => Ending.returned (Value.string z)) HT2.out, HB.out⟩
end Go.Proofs.YtdinachiiimngaaGreatDoor
