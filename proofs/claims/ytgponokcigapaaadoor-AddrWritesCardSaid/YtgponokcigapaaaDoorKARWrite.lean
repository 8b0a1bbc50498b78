/- The reference's Write. -/
import Derived.Test.YtgponokcigapaaaDoorK8
import Derived.Test.YtgponokcigapaaaDoorK6
import Derived.Test.YtgponokcigapaaaDoorKRefQ
namespace Go.Proofs.YtgponokcigapaaaDoor
open Go.ChangeShapes Go.WideShapes Go.ChangeAt Go.RowKit
open TokP AdrP

theorem one_byte (A : ByteArray) (j : Nat) (c : UInt8) (hj : j < A.size) (hc : A.data.toList[j]? = some c) : A.extract j (j + 1) = strL [c] := by
  rw [part_of A j (j + 1) (by omega) (by omega), cons_at _ j c hc]
  congr 1
  rw [show j + 1 - j = 1 by omega]; rfl
theorem byte_eq (c : UInt8) (d : UInt8) : ((strL [c]).toList == [d]) = decide (c = d) := by
  rw [ByteArray.toList_eq, strL_list, Bool.eq_iff_iff, beq_iff_eq, decide_eq_true_iff]
  simp
set_option maxRecDepth 100000 in
set_option maxHeartbeats 4000000 in
theorem rwrite_ok : RWriteOk := fun v l w h hf => by
  obtain ⟨hsm, hlen⟩ : l.all smallA = true ∧ l.length ≤ 20 := by
    unfold fewB at hf
    rw [Bool.and_eq_true, decide_eq_true_eq] at hf
    exact hf
  obtain ⟨a, c, rfl⟩ := h.form
  obtain ⟨n, hn⟩ : ∃ n, l.length = n := ⟨_, rfl⟩
  rw [hn] at h hlen ⊢
  have HN := Lib.hid hn
  have H := Lib.hid h
  have HSM := Lib.hid (fun (k : Nat) (f : Adr) (h : l[k]? = some f) => (List.all_eq_true.1 hsm) f (List.mem_of_getElem? h))
  clear hn h hsm hf
  go_enter Tryd.func23, Tryd.ntmps23
  go_wp2_with fail
  go_loopw [3, 4] (fun t i wr => ∃ (k : Nat) (T : ByteArray), k ≤ n ∧ t = .string T ∧ i = .int .i64 k ∧ Hid (writeQ (l.take k) = T.data.toList) ∧ T.size ≤ k * 2002 ∧ Hid (Below w.heap.size w wr)) (fun _ i _ => n - (intOf i).toNat)
  case atStart => exact ⟨0, ⟨#[]⟩, Nat.zero_le _, rfl, rfl, rfl, Nat.zero_le _, Below.refl _ _⟩
  case round =>
    obtain ⟨k, T, hk, rfl, rfl, HT, hTz, HB⟩ := hrel
    have F1 : IntKind.i64.wrap ((k : Int) + 1) = (k : Int) + 1 := by rw [IntKind.wrap_i64]; omega
    by_cases hlt : k < n
    · have hlt' : (k : Int) < (n : Int) := by omega
      obtain ⟨g, o, rfl, hfa⟩ := H.out.at (by omega)
      obtain ⟨f, hf⟩ : ∃ f, l[k]? = some f := ⟨_, List.getElem?_eq_getElem (by rw [HN.out]; exact hlt)⟩
      have hrd := hfa.step HB.out k f hf
      obtain ⟨q0, q1, q2⟩ := hrd
      have hsf := HSM.out k f hf
      obtain ⟨h1, h2, h3⟩ : f.name.length ≤ 300 ∧ f.loc.length ≤ 300 ∧ f.dom.length ≤ 300 := by
        unfold smallA at hsf
        simp only [Bool.and_eq_true, decide_eq_true_eq] at hsf
        exact ⟨hsf.1.1, hsf.1.2, hsf.2⟩
      have c1 := fun W => dotted_any (strL f.loc) (by rw [strL_size]; omega) W
      have c3 := fun W => rquote_any (strL f.name) (by rw [strL_size]; omega) W
      rw [strL_list] at c1 c3
      have hql := quote_len f.name
      have hqz := strL_size (quoteL f.name)
      have hsl := specQ_len f hsf
      have hsz := strL_size (specQ f)
      have hdz := strL_size f.dom
      have hlz := strL_size f.loc
      have hel := escQ_len f.loc
      have hez := strL_size (34 :: (escQ f.loc ++ [34]))
      rw [List.length_cons, List.length_append, List.length_singleton] at hez
      have hol := oneQ_len f hsf
      have hoz := strL_size (oneQ f)
      have hN := fun (hn : f.name = []) => show oneQ f = specQ f by unfold oneQ; rw [if_pos hn]
      have hY := fun (hn : f.name ≠ []) => show oneQ f = quoteL f.name ++ 32 :: 60 :: (specQ f ++ [62]) by unfold oneQ; rw [if_neg hn]
      have HS0 := Lib.hid (fun (h0 : k = 0) => show writeQ (l.take (k + 1)) = T.data.toList ++ oneQ f by
        subst h0
        rw [write_step0 hf, ← HT.out]; rfl)
      have HS1 := Lib.hid (fun (h0 : k ≠ 0) => (write_step hf h0).trans (congrArg (fun z => (z ++ [44, 32]) ++ oneQ f) HT.out))
      have HHA := Lib.hid (fun W (hb : Below wr.heap.size wr W) => (show AAt wr g o l from hfa.step HB.out).step hb k f hf)
      cases hd : dotA false f.loc with
      | true =>
        by_cases hn : f.name = []
        · by_cases h0 : k = 0
          · have hspec : (strL f.loc ++ (⟨#[64]⟩ : ByteArray)) ++ strL f.dom = strL (specQ f) := bytes_is (by rw [list_append, list_append, strL_list, strL_list, strL_list]; unfold specQ; rw [if_pos hd, List.append_assoc]; rfl)
            have z1 : (strL f.loc ++ (⟨#[64]⟩ : ByteArray)).size = (strL f.loc).size + 1 := by rw [ByteArray.size_append]; rfl
            have z2 : (strL f.loc).size + 1 + (strL f.dom).size ≤ 100000 := by omega
            have z2' : (strL f.loc).size + 1 ≤ 100000 := by omega
            have hone := hN hn
            have e0 : strL f.name = ⟨#[]⟩ := by rw [hn]; rfl
            rw [hone] at HS0 HS1 hoz
            have gk : ¬ (0 : Int) < (k : Int) := by omega
            have zT : T.size + (strL (specQ f)).size ≤ 100000 := by omega
            have HR := Lib.hid (show writeQ (l.take (k + 1)) = (T ++ strL (specQ f)).data.toList by rw [HS0.out h0, list_append, strL_list])
            have hRz : (T ++ strL (specQ f)).size ≤ (k + 1) * 2002 := by rw [ByteArray.size_append]; omega
            replace hRz := Lib.hid hRz
            generalize strL (specQ f) = S at hspec zT HR hRz
            rw [e0] at q0 HHA
            generalize strL f.loc = x2 at c1 q1 HHA hspec z1 z2 z2'
            generalize strL f.dom = x3 at q2 HHA hspec z2
            rw [hd] at c1
            clear hf hfa hsf h1 h2 h3 hql hqz hsl hsz hdz hlz hel hez hol hoz hN hY HS0 HS1 hone hd hn h0 HT e0
            clear hlt
            go_wp2_with (first
              | (go_at_call 37; (with_reducible refine (c1 _).mono ?_); rintro e wd ⟨rfl, rfl⟩; clear c1))
            go_roundw
            case rel => exact ⟨k + 1, (T ++ S), by omega, rfl, by go_num, HR, hRz.out, HB⟩
            case measure => simp [intOf]; omega
          · have hspec : (strL f.loc ++ (⟨#[64]⟩ : ByteArray)) ++ strL f.dom = strL (specQ f) := bytes_is (by rw [list_append, list_append, strL_list, strL_list, strL_list]; unfold specQ; rw [if_pos hd, List.append_assoc]; rfl)
            have z1 : (strL f.loc ++ (⟨#[64]⟩ : ByteArray)).size = (strL f.loc).size + 1 := by rw [ByteArray.size_append]; rfl
            have z2 : (strL f.loc).size + 1 + (strL f.dom).size ≤ 100000 := by omega
            have z2' : (strL f.loc).size + 1 ≤ 100000 := by omega
            have hone := hN hn
            have e0 : strL f.name = ⟨#[]⟩ := by rw [hn]; rfl
            rw [hone] at HS0 HS1 hoz
            have gk : (0 : Int) < (k : Int) := by omega
            have zT0 : (T ++ (⟨#[44, 32]⟩ : ByteArray)).size = T.size + 2 := by rw [ByteArray.size_append]; rfl
            have zT1 : T.size + 2 ≤ 100000 := by omega
            have zT : T.size + 2 + (strL (specQ f)).size ≤ 100000 := by omega
            have HR := Lib.hid (show writeQ (l.take (k + 1)) = ((T ++ (⟨#[44, 32]⟩ : ByteArray)) ++ strL (specQ f)).data.toList by rw [HS1.out h0, list_append, list_append, strL_list])
            have hRz : ((T ++ (⟨#[44, 32]⟩ : ByteArray)) ++ strL (specQ f)).size ≤ (k + 1) * 2002 := by rw [ByteArray.size_append, zT0]; omega
            replace hRz := Lib.hid hRz
            generalize strL (specQ f) = S at hspec zT HR hRz
            rw [e0] at q0 HHA
            generalize strL f.loc = x2 at c1 q1 HHA hspec z1 z2 z2'
            generalize strL f.dom = x3 at q2 HHA hspec z2
            rw [hd] at c1
            clear hf hfa hsf h1 h2 h3 hql hqz hsl hsz hdz hlz hel hez hol hoz hN hY HS0 HS1 hone hd hn h0 HT e0
            clear hlt
            go_wp2_with (first
              | (go_at_call 37; (with_reducible refine (c1 _).mono ?_); rintro e wd ⟨rfl, rfl⟩; clear c1))
            go_roundw
            case rel => exact ⟨k + 1, ((T ++ (⟨#[44, 32]⟩ : ByteArray)) ++ S), by omega, rfl, by go_num, HR, hRz.out, HB⟩
            case measure => simp [intOf]; omega
        · by_cases h0 : k = 0
          · have hspec : (strL f.loc ++ (⟨#[64]⟩ : ByteArray)) ++ strL f.dom = strL (specQ f) := bytes_is (by rw [list_append, list_append, strL_list, strL_list, strL_list]; unfold specQ; rw [if_pos hd, List.append_assoc]; rfl)
            have z1 : (strL f.loc ++ (⟨#[64]⟩ : ByteArray)).size = (strL f.loc).size + 1 := by rw [ByteArray.size_append]; rfl
            have z2 : (strL f.loc).size + 1 + (strL f.dom).size ≤ 100000 := by omega
            have z2' : (strL f.loc).size + 1 ≤ 100000 := by omega
            have hone := hY hn
            obtain ⟨n1, n2⟩ := str_nonempty hn
            have n3 : ((strL f.name).toList != []) = true := by rw [bne, n2]; rfl
            have hfin : ((strL (quoteL f.name) ++ (⟨#[32, 60]⟩ : ByteArray)) ++ strL (specQ f)) ++ (⟨#[62]⟩ : ByteArray) = strL (oneQ f) := bytes_is (by rw [list_append, list_append, list_append, strL_list, strL_list, strL_list, hone]; simp)
            have z3 : (strL (quoteL f.name) ++ (⟨#[32, 60]⟩ : ByteArray)).size = (strL (quoteL f.name)).size + 2 := by rw [ByteArray.size_append]; rfl
            have z4 : (strL (quoteL f.name)).size + 2 + (strL (specQ f)).size ≤ 100000 := by omega
            have z4' : (strL (quoteL f.name)).size + 2 ≤ 100000 := by omega
            have z5 : ((strL (quoteL f.name) ++ (⟨#[32, 60]⟩ : ByteArray)) ++ strL (specQ f)).size = (strL (quoteL f.name)).size + 2 + (strL (specQ f)).size := by rw [ByteArray.size_append, z3]
            have z6 : (strL (quoteL f.name)).size + 2 + (strL (specQ f)).size + 1 ≤ 100000 := by omega
            have gk : ¬ (0 : Int) < (k : Int) := by omega
            have zT : T.size + (strL (oneQ f)).size ≤ 100000 := by omega
            have HR := Lib.hid (show writeQ (l.take (k + 1)) = (T ++ strL (oneQ f)).data.toList by rw [HS0.out h0, list_append, strL_list])
            have hRz : (T ++ strL (oneQ f)).size ≤ (k + 1) * 2002 := by rw [ByteArray.size_append]; omega
            replace hRz := Lib.hid hRz
            generalize strL (oneQ f) = ANS at hfin zT HR hRz
            generalize strL (quoteL f.name) = Q at c3 hfin z3 z4 z4' z5 z6
            generalize strL (specQ f) = S at hspec hfin z4 z5 z6
            generalize strL f.name = x1 at c3 n1 n2 n3 q0 HHA
            generalize strL f.loc = x2 at c1 q1 HHA hspec z1 z2 z2'
            generalize strL f.dom = x3 at q2 HHA hspec z2
            rw [hd] at c1
            clear hf hfa hsf h1 h2 h3 hql hqz hsl hsz hdz hlz hel hez hol hoz hN hY HS0 HS1 hone hd hn h0 HT
            clear hlt
            go_wp2_with (first
              | (go_at_call 37; (with_reducible refine (c1 _).mono ?_); rintro e wd ⟨rfl, rfl⟩; clear c1)
              | (go_at_call 42; (with_reducible refine (c3 _).mono ?_); rintro e w3 ⟨rfl, hb3⟩; clear c3; have HB3 := Lib.hid (HB.out.trans (hb3.mono HB.out.size)); clear hb3))
            go_roundw
            case rel => exact ⟨k + 1, (T ++ ANS), by omega, rfl, by go_num, HR, hRz.out, HB3⟩
            case measure => simp [intOf]; omega
          · have hspec : (strL f.loc ++ (⟨#[64]⟩ : ByteArray)) ++ strL f.dom = strL (specQ f) := bytes_is (by rw [list_append, list_append, strL_list, strL_list, strL_list]; unfold specQ; rw [if_pos hd, List.append_assoc]; rfl)
            have z1 : (strL f.loc ++ (⟨#[64]⟩ : ByteArray)).size = (strL f.loc).size + 1 := by rw [ByteArray.size_append]; rfl
            have z2 : (strL f.loc).size + 1 + (strL f.dom).size ≤ 100000 := by omega
            have z2' : (strL f.loc).size + 1 ≤ 100000 := by omega
            have hone := hY hn
            obtain ⟨n1, n2⟩ := str_nonempty hn
            have n3 : ((strL f.name).toList != []) = true := by rw [bne, n2]; rfl
            have hfin : ((strL (quoteL f.name) ++ (⟨#[32, 60]⟩ : ByteArray)) ++ strL (specQ f)) ++ (⟨#[62]⟩ : ByteArray) = strL (oneQ f) := bytes_is (by rw [list_append, list_append, list_append, strL_list, strL_list, strL_list, hone]; simp)
            have z3 : (strL (quoteL f.name) ++ (⟨#[32, 60]⟩ : ByteArray)).size = (strL (quoteL f.name)).size + 2 := by rw [ByteArray.size_append]; rfl
            have z4 : (strL (quoteL f.name)).size + 2 + (strL (specQ f)).size ≤ 100000 := by omega
            have z4' : (strL (quoteL f.name)).size + 2 ≤ 100000 := by omega
            have z5 : ((strL (quoteL f.name) ++ (⟨#[32, 60]⟩ : ByteArray)) ++ strL (specQ f)).size = (strL (quoteL f.name)).size + 2 + (strL (specQ f)).size := by rw [ByteArray.size_append, z3]
            have z6 : (strL (quoteL f.name)).size + 2 + (strL (specQ f)).size + 1 ≤ 100000 := by omega
            have gk : (0 : Int) < (k : Int) := by omega
            have zT0 : (T ++ (⟨#[44, 32]⟩ : ByteArray)).size = T.size + 2 := by rw [ByteArray.size_append]; rfl
            have zT1 : T.size + 2 ≤ 100000 := by omega
            have zT : T.size + 2 + (strL (oneQ f)).size ≤ 100000 := by omega
            have HR := Lib.hid (show writeQ (l.take (k + 1)) = ((T ++ (⟨#[44, 32]⟩ : ByteArray)) ++ strL (oneQ f)).data.toList by rw [HS1.out h0, list_append, list_append, strL_list])
            have hRz : ((T ++ (⟨#[44, 32]⟩ : ByteArray)) ++ strL (oneQ f)).size ≤ (k + 1) * 2002 := by rw [ByteArray.size_append, zT0]; omega
            replace hRz := Lib.hid hRz
            generalize strL (oneQ f) = ANS at hfin zT HR hRz
            generalize strL (quoteL f.name) = Q at c3 hfin z3 z4 z4' z5 z6
            generalize strL (specQ f) = S at hspec hfin z4 z5 z6
            generalize strL f.name = x1 at c3 n1 n2 n3 q0 HHA
            generalize strL f.loc = x2 at c1 q1 HHA hspec z1 z2 z2'
            generalize strL f.dom = x3 at q2 HHA hspec z2
            rw [hd] at c1
            clear hf hfa hsf h1 h2 h3 hql hqz hsl hsz hdz hlz hel hez hol hoz hN hY HS0 HS1 hone hd hn h0 HT
            clear hlt
            go_wp2_with (first
              | (go_at_call 37; (with_reducible refine (c1 _).mono ?_); rintro e wd ⟨rfl, rfl⟩; clear c1)
              | (go_at_call 42; (with_reducible refine (c3 _).mono ?_); rintro e w3 ⟨rfl, hb3⟩; clear c3; have HB3 := Lib.hid (HB.out.trans (hb3.mono HB.out.size)); clear hb3))
            go_roundw
            case rel => exact ⟨k + 1, ((T ++ (⟨#[44, 32]⟩ : ByteArray)) ++ ANS), by omega, rfl, by go_num, HR, hRz.out, HB3⟩
            case measure => simp [intOf]; omega
      | false =>
        by_cases hn : f.name = []
        · by_cases h0 : k = 0
          · have hspec : (strL (34 :: (escQ f.loc ++ [34])) ++ (⟨#[64]⟩ : ByteArray)) ++ strL f.dom = strL (specQ f) := bytes_is (by rw [list_append, list_append, strL_list, strL_list, strL_list]; unfold specQ; rw [if_neg (by rw [hd]; exact Bool.false_ne_true), List.append_assoc]; rfl)
            have z1 : (strL (34 :: (escQ f.loc ++ [34])) ++ (⟨#[64]⟩ : ByteArray)).size = (strL (34 :: (escQ f.loc ++ [34]))).size + 1 := by rw [ByteArray.size_append]; rfl
            have z2 : (strL (34 :: (escQ f.loc ++ [34]))).size + 1 + (strL f.dom).size ≤ 100000 := by omega
            have z2' : (strL (34 :: (escQ f.loc ++ [34]))).size + 1 ≤ 100000 := by omega
            have hone := hN hn
            have e0 : strL f.name = ⟨#[]⟩ := by rw [hn]; rfl
            rw [hone] at HS0 HS1 hoz
            have gk : ¬ (0 : Int) < (k : Int) := by omega
            have zT : T.size + (strL (specQ f)).size ≤ 100000 := by omega
            have HR := Lib.hid (show writeQ (l.take (k + 1)) = (T ++ strL (specQ f)).data.toList by rw [HS0.out h0, list_append, strL_list])
            have hRz : (T ++ strL (specQ f)).size ≤ (k + 1) * 2002 := by rw [ByteArray.size_append]; omega
            replace hRz := Lib.hid hRz
            generalize strL (specQ f) = S at hspec zT HR hRz
            obtain ⟨E, hE⟩ : ∃ E, strL (34 :: (escQ f.loc ++ [34])) = E := ⟨_, rfl⟩
            rw [hE] at hspec z1 z2 z2'
            replace hE := Lib.hid hE
            rw [e0] at q0 HHA
            obtain ⟨x2, hx2⟩ : ∃ x2, strL f.loc = x2 := ⟨_, rfl⟩
            rw [hx2] at c1 q1 HHA hlz
            have hxl : x2.data.toList = f.loc := by rw [← hx2, strL_list]
            have HE := Lib.hid (show (34 :: (escQ x2.data.toList ++ [34]) : List UInt8) = E.data.toList by rw [← hE.out, hxl]; rfl)
            have hxz : x2.size ≤ 300 := by omega
            generalize strL f.dom = x3 at q2 HHA hspec z2
            rw [hd] at c1
            clear hf hfa hsf h1 h2 h3 hql hqz hsl hsz hdz hlz hel hez hol hoz hN hY HS0 HS1 hone hd hn h0 HT e0
            obtain ⟨WL, hWL⟩ : ∃ WL, WL = wr := ⟨_, rfl⟩
            subst hWL
            go_wp2_with (go_at_call 37; (with_reducible refine (c1 _).mono ?_); rintro e wd ⟨rfl, rfl⟩; clear c1)
            go_loopw [5, 6] (fun s i wq => ∃ (j : Nat) (P : ByteArray), j ≤ x2.size ∧ s = .string P ∧ i = .int .i64 j ∧ wq = WL ∧ P.size ≤ 2 * j + 1 ∧ Hid (P.data.toList = 34 :: escQ (x2.data.toList.take j))) (fun _ i _ => x2.size - (intOf i).toNat)
            case atStart => exact ⟨0, ⟨#[34]⟩, Nat.zero_le _, rfl, rfl, rfl, Nat.le_refl _, rfl⟩
            case round =>
              obtain ⟨j, P, hj, rfl, rfl, rfl, hPz, HP⟩ := hrel
              have G1 : IntKind.i64.wrap ((j : Int) + 1) = (j : Int) + 1 := by rw [IntKind.wrap_i64]; omega
              by_cases hjl : j < x2.size
              · have hjl' : (j : Int) < (x2.size : Int) := by omega
                obtain ⟨d, y, hdj, _, _, _⟩ := run_byte x2 j hjl
                have hst := escQ_step hdj
                have R1 := run_slice_str x2 j (j + 1) ((j : Int) + 1) (by omega) (by omega) (by omega)
                rw [one_byte x2 j d hjl hdj] at R1
                have b34 := byte_eq d 34
                have b92 := byte_eq d 92
                have hXz : (strL [d]).size = 1 := strL_size _
                by_cases h34 : d = 34 ∨ d = 92
                · have HP2 := Lib.hid (show ((P ++ (⟨#[92]⟩ : ByteArray)) ++ strL [d]).data.toList = 34 :: escQ (x2.data.toList.take (j + 1)) by
                    rw [hst, list_append, list_append, HP.out]; unfold esc1; rw [if_pos h34]; simp [strL])
                  have y1 : (P ++ (⟨#[92]⟩ : ByteArray)).size = P.size + 1 := by rw [ByteArray.size_append]; rfl
                  have y2 : P.size + 1 + (strL [d]).size ≤ 100000 := by omega
                  have y3 : P.size + 1 ≤ 100000 := by omega
                  have y4 := Lib.hid (show ((P ++ (⟨#[92]⟩ : ByteArray)) ++ strL [d]).size ≤ 2 * (j + 1) + 1 by rw [ByteArray.size_append, y1, hXz]; omega)
                  by_cases hd34 : d = 34
                  · rw [decide_eq_true hd34] at b34
                    generalize strL [d] = X at R1 b34 b92 HP2 y2 y4
                    clear hst hdj h34 hXz HP hd34 b92
                    go_wp2_with fail
                    go_roundw
                    case rel => exact ⟨j + 1, _, by omega, rfl, by go_num, trivial, y4.out, HP2⟩
                    case measure => simp [intOf]; omega
                  · rw [decide_eq_false hd34] at b34
                    rw [decide_eq_true (h34.resolve_left hd34)] at b92
                    generalize strL [d] = X at R1 b34 b92 HP2 y2 y4
                    clear hst hdj h34 hXz HP hd34
                    go_wp2_with fail
                    go_roundw
                    case rel => exact ⟨j + 1, _, by omega, rfl, by go_num, trivial, y4.out, HP2⟩
                    case measure => simp [intOf]; omega
                · have HP2 := Lib.hid (show (P ++ strL [d]).data.toList = 34 :: escQ (x2.data.toList.take (j + 1)) by
                    rw [hst, list_append, HP.out]; unfold esc1; rw [if_neg h34]; simp [strL])
                  have y2 : P.size + (strL [d]).size ≤ 100000 := by omega
                  have y4 := Lib.hid (show (P ++ strL [d]).size ≤ 2 * (j + 1) + 1 by rw [ByteArray.size_append, hXz]; omega)
                  rw [decide_eq_false (fun e => h34 (.inl e))] at b34
                  rw [decide_eq_false (fun e => h34 (.inr e))] at b92
                  generalize strL [d] = X at R1 b34 b92 HP2 y2 y4
                  clear hst hdj h34 hXz HP
                  go_wp2_with fail
                  go_roundw
                  case rel => exact ⟨j + 1, _, by omega, rfl, by go_num, trivial, y4.out, HP2⟩
                  case measure => simp [intOf]; omega
              · obtain rfl : j = x2.size := by omega
                have hjl' : ¬ (x2.size : Int) < (x2.size : Int) := by omega
                have hPE : P ++ (⟨#[34]⟩ : ByteArray) = E := bytes_is (by
                  rw [list_append, HP.out, List.take_of_length_le (by rw [← size_list]; exact Nat.le_refl _), ← HE.out]; rfl)
                have y3 : P.size + 1 ≤ 100000 := by omega
                clear HP hxl hx2
                go_wp2_with fail
                go_roundw
                case rel => exact ⟨k + 1, (T ++ S), by omega, rfl, by go_num, HR, hRz.out, HB⟩
                case measure => simp [intOf]; omega
          · have hspec : (strL (34 :: (escQ f.loc ++ [34])) ++ (⟨#[64]⟩ : ByteArray)) ++ strL f.dom = strL (specQ f) := bytes_is (by rw [list_append, list_append, strL_list, strL_list, strL_list]; unfold specQ; rw [if_neg (by rw [hd]; exact Bool.false_ne_true), List.append_assoc]; rfl)
            have z1 : (strL (34 :: (escQ f.loc ++ [34])) ++ (⟨#[64]⟩ : ByteArray)).size = (strL (34 :: (escQ f.loc ++ [34]))).size + 1 := by rw [ByteArray.size_append]; rfl
            have z2 : (strL (34 :: (escQ f.loc ++ [34]))).size + 1 + (strL f.dom).size ≤ 100000 := by omega
            have z2' : (strL (34 :: (escQ f.loc ++ [34]))).size + 1 ≤ 100000 := by omega
            have hone := hN hn
            have e0 : strL f.name = ⟨#[]⟩ := by rw [hn]; rfl
            rw [hone] at HS0 HS1 hoz
            have gk : (0 : Int) < (k : Int) := by omega
            have zT0 : (T ++ (⟨#[44, 32]⟩ : ByteArray)).size = T.size + 2 := by rw [ByteArray.size_append]; rfl
            have zT1 : T.size + 2 ≤ 100000 := by omega
            have zT : T.size + 2 + (strL (specQ f)).size ≤ 100000 := by omega
            have HR := Lib.hid (show writeQ (l.take (k + 1)) = ((T ++ (⟨#[44, 32]⟩ : ByteArray)) ++ strL (specQ f)).data.toList by rw [HS1.out h0, list_append, list_append, strL_list])
            have hRz : ((T ++ (⟨#[44, 32]⟩ : ByteArray)) ++ strL (specQ f)).size ≤ (k + 1) * 2002 := by rw [ByteArray.size_append, zT0]; omega
            replace hRz := Lib.hid hRz
            generalize strL (specQ f) = S at hspec zT HR hRz
            obtain ⟨E, hE⟩ : ∃ E, strL (34 :: (escQ f.loc ++ [34])) = E := ⟨_, rfl⟩
            rw [hE] at hspec z1 z2 z2'
            replace hE := Lib.hid hE
            rw [e0] at q0 HHA
            obtain ⟨x2, hx2⟩ : ∃ x2, strL f.loc = x2 := ⟨_, rfl⟩
            rw [hx2] at c1 q1 HHA hlz
            have hxl : x2.data.toList = f.loc := by rw [← hx2, strL_list]
            have HE := Lib.hid (show (34 :: (escQ x2.data.toList ++ [34]) : List UInt8) = E.data.toList by rw [← hE.out, hxl]; rfl)
            have hxz : x2.size ≤ 300 := by omega
            generalize strL f.dom = x3 at q2 HHA hspec z2
            rw [hd] at c1
            clear hf hfa hsf h1 h2 h3 hql hqz hsl hsz hdz hlz hel hez hol hoz hN hY HS0 HS1 hone hd hn h0 HT e0
            obtain ⟨WL, hWL⟩ : ∃ WL, WL = wr := ⟨_, rfl⟩
            subst hWL
            go_wp2_with (go_at_call 37; (with_reducible refine (c1 _).mono ?_); rintro e wd ⟨rfl, rfl⟩; clear c1)
            go_loopw [5, 6] (fun s i wq => ∃ (j : Nat) (P : ByteArray), j ≤ x2.size ∧ s = .string P ∧ i = .int .i64 j ∧ wq = WL ∧ P.size ≤ 2 * j + 1 ∧ Hid (P.data.toList = 34 :: escQ (x2.data.toList.take j))) (fun _ i _ => x2.size - (intOf i).toNat)
            case atStart => exact ⟨0, ⟨#[34]⟩, Nat.zero_le _, rfl, rfl, rfl, Nat.le_refl _, rfl⟩
            case round =>
              obtain ⟨j, P, hj, rfl, rfl, rfl, hPz, HP⟩ := hrel
              have G1 : IntKind.i64.wrap ((j : Int) + 1) = (j : Int) + 1 := by rw [IntKind.wrap_i64]; omega
              by_cases hjl : j < x2.size
              · have hjl' : (j : Int) < (x2.size : Int) := by omega
                obtain ⟨d, y, hdj, _, _, _⟩ := run_byte x2 j hjl
                have hst := escQ_step hdj
                have R1 := run_slice_str x2 j (j + 1) ((j : Int) + 1) (by omega) (by omega) (by omega)
                rw [one_byte x2 j d hjl hdj] at R1
                have b34 := byte_eq d 34
                have b92 := byte_eq d 92
                have hXz : (strL [d]).size = 1 := strL_size _
                by_cases h34 : d = 34 ∨ d = 92
                · have HP2 := Lib.hid (show ((P ++ (⟨#[92]⟩ : ByteArray)) ++ strL [d]).data.toList = 34 :: escQ (x2.data.toList.take (j + 1)) by
                    rw [hst, list_append, list_append, HP.out]; unfold esc1; rw [if_pos h34]; simp [strL])
                  have y1 : (P ++ (⟨#[92]⟩ : ByteArray)).size = P.size + 1 := by rw [ByteArray.size_append]; rfl
                  have y2 : P.size + 1 + (strL [d]).size ≤ 100000 := by omega
                  have y3 : P.size + 1 ≤ 100000 := by omega
                  have y4 := Lib.hid (show ((P ++ (⟨#[92]⟩ : ByteArray)) ++ strL [d]).size ≤ 2 * (j + 1) + 1 by rw [ByteArray.size_append, y1, hXz]; omega)
                  by_cases hd34 : d = 34
                  · rw [decide_eq_true hd34] at b34
                    generalize strL [d] = X at R1 b34 b92 HP2 y2 y4
                    clear hst hdj h34 hXz HP hd34 b92
                    go_wp2_with fail
                    go_roundw
                    case rel => exact ⟨j + 1, _, by omega, rfl, by go_num, trivial, y4.out, HP2⟩
                    case measure => simp [intOf]; omega
                  · rw [decide_eq_false hd34] at b34
                    rw [decide_eq_true (h34.resolve_left hd34)] at b92
                    generalize strL [d] = X at R1 b34 b92 HP2 y2 y4
                    clear hst hdj h34 hXz HP hd34
                    go_wp2_with fail
                    go_roundw
                    case rel => exact ⟨j + 1, _, by omega, rfl, by go_num, trivial, y4.out, HP2⟩
                    case measure => simp [intOf]; omega
                · have HP2 := Lib.hid (show (P ++ strL [d]).data.toList = 34 :: escQ (x2.data.toList.take (j + 1)) by
                    rw [hst, list_append, HP.out]; unfold esc1; rw [if_neg h34]; simp [strL])
                  have y2 : P.size + (strL [d]).size ≤ 100000 := by omega
                  have y4 := Lib.hid (show (P ++ strL [d]).size ≤ 2 * (j + 1) + 1 by rw [ByteArray.size_append, hXz]; omega)
                  rw [decide_eq_false (fun e => h34 (.inl e))] at b34
                  rw [decide_eq_false (fun e => h34 (.inr e))] at b92
                  generalize strL [d] = X at R1 b34 b92 HP2 y2 y4
                  clear hst hdj h34 hXz HP
                  go_wp2_with fail
                  go_roundw
                  case rel => exact ⟨j + 1, _, by omega, rfl, by go_num, trivial, y4.out, HP2⟩
                  case measure => simp [intOf]; omega
              · obtain rfl : j = x2.size := by omega
                have hjl' : ¬ (x2.size : Int) < (x2.size : Int) := by omega
                have hPE : P ++ (⟨#[34]⟩ : ByteArray) = E := bytes_is (by
                  rw [list_append, HP.out, List.take_of_length_le (by rw [← size_list]; exact Nat.le_refl _), ← HE.out]; rfl)
                have y3 : P.size + 1 ≤ 100000 := by omega
                clear HP hxl hx2
                go_wp2_with fail
                go_roundw
                case rel => exact ⟨k + 1, ((T ++ (⟨#[44, 32]⟩ : ByteArray)) ++ S), by omega, rfl, by go_num, HR, hRz.out, HB⟩
                case measure => simp [intOf]; omega
        · by_cases h0 : k = 0
          · have hspec : (strL (34 :: (escQ f.loc ++ [34])) ++ (⟨#[64]⟩ : ByteArray)) ++ strL f.dom = strL (specQ f) := bytes_is (by rw [list_append, list_append, strL_list, strL_list, strL_list]; unfold specQ; rw [if_neg (by rw [hd]; exact Bool.false_ne_true), List.append_assoc]; rfl)
            have z1 : (strL (34 :: (escQ f.loc ++ [34])) ++ (⟨#[64]⟩ : ByteArray)).size = (strL (34 :: (escQ f.loc ++ [34]))).size + 1 := by rw [ByteArray.size_append]; rfl
            have z2 : (strL (34 :: (escQ f.loc ++ [34]))).size + 1 + (strL f.dom).size ≤ 100000 := by omega
            have z2' : (strL (34 :: (escQ f.loc ++ [34]))).size + 1 ≤ 100000 := by omega
            have hone := hY hn
            obtain ⟨n1, n2⟩ := str_nonempty hn
            have n3 : ((strL f.name).toList != []) = true := by rw [bne, n2]; rfl
            have hfin : ((strL (quoteL f.name) ++ (⟨#[32, 60]⟩ : ByteArray)) ++ strL (specQ f)) ++ (⟨#[62]⟩ : ByteArray) = strL (oneQ f) := bytes_is (by rw [list_append, list_append, list_append, strL_list, strL_list, strL_list, hone]; simp)
            have z3 : (strL (quoteL f.name) ++ (⟨#[32, 60]⟩ : ByteArray)).size = (strL (quoteL f.name)).size + 2 := by rw [ByteArray.size_append]; rfl
            have z4 : (strL (quoteL f.name)).size + 2 + (strL (specQ f)).size ≤ 100000 := by omega
            have z4' : (strL (quoteL f.name)).size + 2 ≤ 100000 := by omega
            have z5 : ((strL (quoteL f.name) ++ (⟨#[32, 60]⟩ : ByteArray)) ++ strL (specQ f)).size = (strL (quoteL f.name)).size + 2 + (strL (specQ f)).size := by rw [ByteArray.size_append, z3]
            have z6 : (strL (quoteL f.name)).size + 2 + (strL (specQ f)).size + 1 ≤ 100000 := by omega
            have gk : ¬ (0 : Int) < (k : Int) := by omega
            have zT : T.size + (strL (oneQ f)).size ≤ 100000 := by omega
            have HR := Lib.hid (show writeQ (l.take (k + 1)) = (T ++ strL (oneQ f)).data.toList by rw [HS0.out h0, list_append, strL_list])
            have hRz : (T ++ strL (oneQ f)).size ≤ (k + 1) * 2002 := by rw [ByteArray.size_append]; omega
            replace hRz := Lib.hid hRz
            generalize strL (oneQ f) = ANS at hfin zT HR hRz
            generalize strL (quoteL f.name) = Q at c3 hfin z3 z4 z4' z5 z6
            generalize strL (specQ f) = S at hspec hfin z4 z5 z6
            obtain ⟨E, hE⟩ : ∃ E, strL (34 :: (escQ f.loc ++ [34])) = E := ⟨_, rfl⟩
            rw [hE] at hspec z1 z2 z2'
            replace hE := Lib.hid hE
            generalize strL f.name = x1 at c3 n1 n2 n3 q0 HHA
            obtain ⟨x2, hx2⟩ : ∃ x2, strL f.loc = x2 := ⟨_, rfl⟩
            rw [hx2] at c1 q1 HHA hlz
            have hxl : x2.data.toList = f.loc := by rw [← hx2, strL_list]
            have HE := Lib.hid (show (34 :: (escQ x2.data.toList ++ [34]) : List UInt8) = E.data.toList by rw [← hE.out, hxl]; rfl)
            have hxz : x2.size ≤ 300 := by omega
            generalize strL f.dom = x3 at q2 HHA hspec z2
            rw [hd] at c1
            clear hf hfa hsf h1 h2 h3 hql hqz hsl hsz hdz hlz hel hez hol hoz hN hY HS0 HS1 hone hd hn h0 HT
            obtain ⟨WL, hWL⟩ : ∃ WL, WL = wr := ⟨_, rfl⟩
            subst hWL
            go_wp2_with (go_at_call 37; (with_reducible refine (c1 _).mono ?_); rintro e wd ⟨rfl, rfl⟩; clear c1)
            go_loopw [5, 6] (fun s i wq => ∃ (j : Nat) (P : ByteArray), j ≤ x2.size ∧ s = .string P ∧ i = .int .i64 j ∧ wq = WL ∧ P.size ≤ 2 * j + 1 ∧ Hid (P.data.toList = 34 :: escQ (x2.data.toList.take j))) (fun _ i _ => x2.size - (intOf i).toNat)
            case atStart => exact ⟨0, ⟨#[34]⟩, Nat.zero_le _, rfl, rfl, rfl, Nat.le_refl _, rfl⟩
            case round =>
              obtain ⟨j, P, hj, rfl, rfl, rfl, hPz, HP⟩ := hrel
              have G1 : IntKind.i64.wrap ((j : Int) + 1) = (j : Int) + 1 := by rw [IntKind.wrap_i64]; omega
              by_cases hjl : j < x2.size
              · have hjl' : (j : Int) < (x2.size : Int) := by omega
                obtain ⟨d, y, hdj, _, _, _⟩ := run_byte x2 j hjl
                have hst := escQ_step hdj
                have R1 := run_slice_str x2 j (j + 1) ((j : Int) + 1) (by omega) (by omega) (by omega)
                rw [one_byte x2 j d hjl hdj] at R1
                have b34 := byte_eq d 34
                have b92 := byte_eq d 92
                have hXz : (strL [d]).size = 1 := strL_size _
                by_cases h34 : d = 34 ∨ d = 92
                · have HP2 := Lib.hid (show ((P ++ (⟨#[92]⟩ : ByteArray)) ++ strL [d]).data.toList = 34 :: escQ (x2.data.toList.take (j + 1)) by
                    rw [hst, list_append, list_append, HP.out]; unfold esc1; rw [if_pos h34]; simp [strL])
                  have y1 : (P ++ (⟨#[92]⟩ : ByteArray)).size = P.size + 1 := by rw [ByteArray.size_append]; rfl
                  have y2 : P.size + 1 + (strL [d]).size ≤ 100000 := by omega
                  have y3 : P.size + 1 ≤ 100000 := by omega
                  have y4 := Lib.hid (show ((P ++ (⟨#[92]⟩ : ByteArray)) ++ strL [d]).size ≤ 2 * (j + 1) + 1 by rw [ByteArray.size_append, y1, hXz]; omega)
                  by_cases hd34 : d = 34
                  · rw [decide_eq_true hd34] at b34
                    generalize strL [d] = X at R1 b34 b92 HP2 y2 y4
                    clear hst hdj h34 hXz HP hd34 b92
                    go_wp2_with fail
                    go_roundw
                    case rel => exact ⟨j + 1, _, by omega, rfl, by go_num, trivial, y4.out, HP2⟩
                    case measure => simp [intOf]; omega
                  · rw [decide_eq_false hd34] at b34
                    rw [decide_eq_true (h34.resolve_left hd34)] at b92
                    generalize strL [d] = X at R1 b34 b92 HP2 y2 y4
                    clear hst hdj h34 hXz HP hd34
                    go_wp2_with fail
                    go_roundw
                    case rel => exact ⟨j + 1, _, by omega, rfl, by go_num, trivial, y4.out, HP2⟩
                    case measure => simp [intOf]; omega
                · have HP2 := Lib.hid (show (P ++ strL [d]).data.toList = 34 :: escQ (x2.data.toList.take (j + 1)) by
                    rw [hst, list_append, HP.out]; unfold esc1; rw [if_neg h34]; simp [strL])
                  have y2 : P.size + (strL [d]).size ≤ 100000 := by omega
                  have y4 := Lib.hid (show (P ++ strL [d]).size ≤ 2 * (j + 1) + 1 by rw [ByteArray.size_append, hXz]; omega)
                  rw [decide_eq_false (fun e => h34 (.inl e))] at b34
                  rw [decide_eq_false (fun e => h34 (.inr e))] at b92
                  generalize strL [d] = X at R1 b34 b92 HP2 y2 y4
                  clear hst hdj h34 hXz HP
                  go_wp2_with fail
                  go_roundw
                  case rel => exact ⟨j + 1, _, by omega, rfl, by go_num, trivial, y4.out, HP2⟩
                  case measure => simp [intOf]; omega
              · obtain rfl : j = x2.size := by omega
                have hjl' : ¬ (x2.size : Int) < (x2.size : Int) := by omega
                have hPE : P ++ (⟨#[34]⟩ : ByteArray) = E := bytes_is (by
                  rw [list_append, HP.out, List.take_of_length_le (by rw [← size_list]; exact Nat.le_refl _), ← HE.out]; rfl)
                have y3 : P.size + 1 ≤ 100000 := by omega
                clear HP hxl hx2
                go_wp2_with (go_at_call 42; (with_reducible refine (c3 _).mono ?_); rintro e w3 ⟨rfl, hb3⟩; clear c3; have HB3 := Lib.hid (HB.out.trans (hb3.mono HB.out.size)); clear hb3)
                go_roundw
                case rel => exact ⟨k + 1, (T ++ ANS), by omega, rfl, by go_num, HR, hRz.out, HB3⟩
                case measure => simp [intOf]; omega
          · have hspec : (strL (34 :: (escQ f.loc ++ [34])) ++ (⟨#[64]⟩ : ByteArray)) ++ strL f.dom = strL (specQ f) := bytes_is (by rw [list_append, list_append, strL_list, strL_list, strL_list]; unfold specQ; rw [if_neg (by rw [hd]; exact Bool.false_ne_true), List.append_assoc]; rfl)
            have z1 : (strL (34 :: (escQ f.loc ++ [34])) ++ (⟨#[64]⟩ : ByteArray)).size = (strL (34 :: (escQ f.loc ++ [34]))).size + 1 := by rw [ByteArray.size_append]; rfl
            have z2 : (strL (34 :: (escQ f.loc ++ [34]))).size + 1 + (strL f.dom).size ≤ 100000 := by omega
            have z2' : (strL (34 :: (escQ f.loc ++ [34]))).size + 1 ≤ 100000 := by omega
            have hone := hY hn
            obtain ⟨n1, n2⟩ := str_nonempty hn
            have n3 : ((strL f.name).toList != []) = true := by rw [bne, n2]; rfl
            have hfin : ((strL (quoteL f.name) ++ (⟨#[32, 60]⟩ : ByteArray)) ++ strL (specQ f)) ++ (⟨#[62]⟩ : ByteArray) = strL (oneQ f) := bytes_is (by rw [list_append, list_append, list_append, strL_list, strL_list, strL_list, hone]; simp)
            have z3 : (strL (quoteL f.name) ++ (⟨#[32, 60]⟩ : ByteArray)).size = (strL (quoteL f.name)).size + 2 := by rw [ByteArray.size_append]; rfl
            have z4 : (strL (quoteL f.name)).size + 2 + (strL (specQ f)).size ≤ 100000 := by omega
            have z4' : (strL (quoteL f.name)).size + 2 ≤ 100000 := by omega
            have z5 : ((strL (quoteL f.name) ++ (⟨#[32, 60]⟩ : ByteArray)) ++ strL (specQ f)).size = (strL (quoteL f.name)).size + 2 + (strL (specQ f)).size := by rw [ByteArray.size_append, z3]
            have z6 : (strL (quoteL f.name)).size + 2 + (strL (specQ f)).size + 1 ≤ 100000 := by omega
            have gk : (0 : Int) < (k : Int) := by omega
            have zT0 : (T ++ (⟨#[44, 32]⟩ : ByteArray)).size = T.size + 2 := by rw [ByteArray.size_append]; rfl
            have zT1 : T.size + 2 ≤ 100000 := by omega
            have zT : T.size + 2 + (strL (oneQ f)).size ≤ 100000 := by omega
            have HR := Lib.hid (show writeQ (l.take (k + 1)) = ((T ++ (⟨#[44, 32]⟩ : ByteArray)) ++ strL (oneQ f)).data.toList by rw [HS1.out h0, list_append, list_append, strL_list])
            have hRz : ((T ++ (⟨#[44, 32]⟩ : ByteArray)) ++ strL (oneQ f)).size ≤ (k + 1) * 2002 := by rw [ByteArray.size_append, zT0]; omega
            replace hRz := Lib.hid hRz
            generalize strL (oneQ f) = ANS at hfin zT HR hRz
            generalize strL (quoteL f.name) = Q at c3 hfin z3 z4 z4' z5 z6
            generalize strL (specQ f) = S at hspec hfin z4 z5 z6
            obtain ⟨E, hE⟩ : ∃ E, strL (34 :: (escQ f.loc ++ [34])) = E := ⟨_, rfl⟩
            rw [hE] at hspec z1 z2 z2'
            replace hE := Lib.hid hE
            generalize strL f.name = x1 at c3 n1 n2 n3 q0 HHA
            obtain ⟨x2, hx2⟩ : ∃ x2, strL f.loc = x2 := ⟨_, rfl⟩
            rw [hx2] at c1 q1 HHA hlz
            have hxl : x2.data.toList = f.loc := by rw [← hx2, strL_list]
            have HE := Lib.hid (show (34 :: (escQ x2.data.toList ++ [34]) : List UInt8) = E.data.toList by rw [← hE.out, hxl]; rfl)
            have hxz : x2.size ≤ 300 := by omega
            generalize strL f.dom = x3 at q2 HHA hspec z2
            rw [hd] at c1
            clear hf hfa hsf h1 h2 h3 hql hqz hsl hsz hdz hlz hel hez hol hoz hN hY HS0 HS1 hone hd hn h0 HT
            obtain ⟨WL, hWL⟩ : ∃ WL, WL = wr := ⟨_, rfl⟩
            subst hWL
            go_wp2_with (go_at_call 37; (with_reducible refine (c1 _).mono ?_); rintro e wd ⟨rfl, rfl⟩; clear c1)
            go_loopw [5, 6] (fun s i wq => ∃ (j : Nat) (P : ByteArray), j ≤ x2.size ∧ s = .string P ∧ i = .int .i64 j ∧ wq = WL ∧ P.size ≤ 2 * j + 1 ∧ Hid (P.data.toList = 34 :: escQ (x2.data.toList.take j))) (fun _ i _ => x2.size - (intOf i).toNat)
            case atStart => exact ⟨0, ⟨#[34]⟩, Nat.zero_le _, rfl, rfl, rfl, Nat.le_refl _, rfl⟩
            case round =>
              obtain ⟨j, P, hj, rfl, rfl, rfl, hPz, HP⟩ := hrel
              have G1 : IntKind.i64.wrap ((j : Int) + 1) = (j : Int) + 1 := by rw [IntKind.wrap_i64]; omega
              by_cases hjl : j < x2.size
              · have hjl' : (j : Int) < (x2.size : Int) := by omega
                obtain ⟨d, y, hdj, _, _, _⟩ := run_byte x2 j hjl
                have hst := escQ_step hdj
                have R1 := run_slice_str x2 j (j + 1) ((j : Int) + 1) (by omega) (by omega) (by omega)
                rw [one_byte x2 j d hjl hdj] at R1
                have b34 := byte_eq d 34
                have b92 := byte_eq d 92
                have hXz : (strL [d]).size = 1 := strL_size _
                by_cases h34 : d = 34 ∨ d = 92
                · have HP2 := Lib.hid (show ((P ++ (⟨#[92]⟩ : ByteArray)) ++ strL [d]).data.toList = 34 :: escQ (x2.data.toList.take (j + 1)) by
                    rw [hst, list_append, list_append, HP.out]; unfold esc1; rw [if_pos h34]; simp [strL])
                  have y1 : (P ++ (⟨#[92]⟩ : ByteArray)).size = P.size + 1 := by rw [ByteArray.size_append]; rfl
                  have y2 : P.size + 1 + (strL [d]).size ≤ 100000 := by omega
                  have y3 : P.size + 1 ≤ 100000 := by omega
                  have y4 := Lib.hid (show ((P ++ (⟨#[92]⟩ : ByteArray)) ++ strL [d]).size ≤ 2 * (j + 1) + 1 by rw [ByteArray.size_append, y1, hXz]; omega)
                  by_cases hd34 : d = 34
                  · rw [decide_eq_true hd34] at b34
                    generalize strL [d] = X at R1 b34 b92 HP2 y2 y4
                    clear hst hdj h34 hXz HP hd34 b92
                    go_wp2_with fail
                    go_roundw
                    case rel => exact ⟨j + 1, _, by omega, rfl, by go_num, trivial, y4.out, HP2⟩
                    case measure => simp [intOf]; omega
                  · rw [decide_eq_false hd34] at b34
                    rw [decide_eq_true (h34.resolve_left hd34)] at b92
                    generalize strL [d] = X at R1 b34 b92 HP2 y2 y4
                    clear hst hdj h34 hXz HP hd34
                    go_wp2_with fail
                    go_roundw
                    case rel => exact ⟨j + 1, _, by omega, rfl, by go_num, trivial, y4.out, HP2⟩
                    case measure => simp [intOf]; omega
                · have HP2 := Lib.hid (show (P ++ strL [d]).data.toList = 34 :: escQ (x2.data.toList.take (j + 1)) by
                    rw [hst, list_append, HP.out]; unfold esc1; rw [if_neg h34]; simp [strL])
                  have y2 : P.size + (strL [d]).size ≤ 100000 := by omega
                  have y4 := Lib.hid (show (P ++ strL [d]).size ≤ 2 * (j + 1) + 1 by rw [ByteArray.size_append, hXz]; omega)
                  rw [decide_eq_false (fun e => h34 (.inl e))] at b34
                  rw [decide_eq_false (fun e => h34 (.inr e))] at b92
                  generalize strL [d] = X at R1 b34 b92 HP2 y2 y4
                  clear hst hdj h34 hXz HP
                  go_wp2_with fail
                  go_roundw
                  case rel => exact ⟨j + 1, _, by omega, rfl, by go_num, trivial, y4.out, HP2⟩
                  case measure => simp [intOf]; omega
              · obtain rfl : j = x2.size := by omega
                have hjl' : ¬ (x2.size : Int) < (x2.size : Int) := by omega
                have hPE : P ++ (⟨#[34]⟩ : ByteArray) = E := bytes_is (by
                  rw [list_append, HP.out, List.take_of_length_le (by rw [← size_list]; exact Nat.le_refl _), ← HE.out]; rfl)
                have y3 : P.size + 1 ≤ 100000 := by omega
                clear HP hxl hx2
                go_wp2_with (go_at_call 42; (with_reducible refine (c3 _).mono ?_); rintro e w3 ⟨rfl, hb3⟩; clear c3; have HB3 := Lib.hid (HB.out.trans (hb3.mono HB.out.size)); clear hb3)
                go_roundw
                case rel => exact ⟨k + 1, ((T ++ (⟨#[44, 32]⟩ : ByteArray)) ++ ANS), by omega, rfl, by go_num, HR, hRz.out, HB3⟩
                case measure => simp [intOf]; omega
    · obtain rfl : k = n := by omega
      have hlt' : ¬ (k : Int) < (k : Int) := by omega
      have hT : l.take k = l := List.take_of_length_le (by rw [HN.out]; exact Nat.le_refl _)
      have ht := HT.out
      rw [hT] at ht
      have HTT := Lib.hid (strL_is ht.symm)
      clear hT ht
      go_wp2_with fail
      go_ret
      exact ⟨congrArg (fun z => Ending.returned (Value.string z)) HTT.out, HB.out⟩
end Go.Proofs.YtgponokcigapaaaDoor
