/- The reference's UnQp. -/
import Derived.Test.YtblbajhjmdcdiaaDoorApp
namespace Go.Proofs.YtblbajhjmdcdiaaDoor
open Go.ChangeShapes Go.WideShapes Go.ChangeAt Go.RowKit

/-- The bytes from f to t. -/
def seg (s : ByteArray) (f t : Nat) : List UInt8 := (s.data.toList.drop f).take (t - f)
theorem seg_nil (s : ByteArray) (f : Nat) : seg s f f = [] := by unfold seg; rw [Nat.sub_self]; rfl
theorem seg_snoc (s : ByteArray) (f j : Nat) (h : f ≤ j) (hj : j < s.size) : seg s f (j + 1) = seg s f j ++ [s[j]] := by
  unfold seg
  rw [show j + 1 - f = (j - f) + 1 by omega, List.take_add_one]
  congr 1
  rw [List.getElem?_drop, show f + (j - f) = j by omega, List.getElem?_eq_getElem (by rw [← size_list]; exact hj)]
  rfl
theorem seg_part (s : ByteArray) (f t : Nat) (h : f ≤ t) (ht : t ≤ s.size) : (s.extract f t).data.toList = seg s f t := by
  rw [part_of s f t h ht]; rfl
theorem seg_length (s : ByteArray) (f t : Nat) (h : f ≤ t) (ht : t ≤ s.size) : (seg s f t).length = t - f := by
  unfold seg
  rw [List.length_take, List.length_drop, ← size_list]; omega
theorem blank_yes {c : UInt8} (h : c.toNat = 32 ∨ c.toNat = 9) : blank c = true := by
  rw [blank_is]; simpa using h
theorem blank_not {c : UInt8} (h : c.toNat ≠ 32) (h2 : c.toNat ≠ 9) : blank c = false := by
  rw [blank_is]; simp [h, h2]
theorem out_nil (l term : List UInt8) (h : strip l = []) : lineOut l term = term := by
  unfold lineOut; rw [h]; rfl
theorem out_eq (l term m : List UInt8) (h : strip l = m ++ [61]) : lineOut l term = escapes m := by
  unfold lineOut; rw [h, suf_snoc, trim_snoc, if_pos (by simp), List.append_nil]
theorem out_ne (l term m : List UInt8) (c : UInt8) (h : strip l = m ++ [c]) (hc : c.toNat ≠ 61) : lineOut l term = escapes (m ++ [c]) ++ term := by
  have hn : Lib.hasSuffix (m ++ [c]) [61] = false := by rw [suf_snoc]; simp; exact fun e => hc (by rw [← e]; rfl)
  unfold lineOut; rw [h, hn, trim_no hn, if_neg (by decide)]

set_option maxHeartbeats 40000000 in
set_option maxRecDepth 1000000 in
theorem unqpR_any (s : ByteArray) (hs : s.size ≤ 1000000) (w : World) :
    Calls Tryd.prog 17 #[.string s] w fun e w' => e = .returned (.string (strL (unqpL s.data.toList))) ∧ Below w.heap.size w w' := by
  obtain ⟨ANS, hANS⟩ : ∃ ANS, unqpL s.data.toList = ANS := ⟨_, rfl⟩
  rw [hANS]
  go_enter Tryd.func17, Tryd.ntmps17
  go_wp2
  go_loopw [5, 4, 3] (fun i fv ov wr => ∃ (k f : Nat) (O : ByteArray), k ≤ s.size + 1 ∧ f ≤ k ∧ i = .int .i64 k ∧ fv = .int .i64 f ∧ ov = .string O ∧ Below w.heap.size w wr ∧ O.size ≤ f ∧
      Hid (k ≤ s.size → 10 ∉ seg s f k ∧ O.data.toList ++ unqpA (seg s f k) (s.data.toList.drop k) = ANS) ∧ Hid (k = s.size + 1 → O.data.toList = ANS))
    (fun i _ _ _ => s.size + 1 - (intOf i).toNat)
  case atStart => exact ⟨0, 0, ⟨#[]⟩, Nat.zero_le _, Nat.le_refl _, rfl, rfl, rfl, Below.refl _ _, Nat.le_refl _, Lib.hid fun _ => ⟨by rw [seg_nil]; simp, by rw [seg_nil]; exact hANS⟩, Lib.hid fun h => by omega⟩
  case round =>
    clear hANS
    obtain ⟨k, f, O, hk, hfk, rfl, rfl, rfl, hb, hOs, hacc, hfin⟩ := hrel
    have hsz := hb.size
    by_cases hle : k ≤ s.size
    · obtain ⟨h10, hac⟩ := hacc.out hle
      clear hacc hfin
      by_cases hlt : k < s.size
      · have hd := drop_cons s k hlt
        by_cases hc : s[k].toNat = 10
        · have hc10 : s[k] = 10 := UInt8.toNat_inj.1 hc
          rw [hd, hc10, unqpA_lf] at hac
          have e10 : ((s[k].toNat : Int) != 10) = false := by rw [bne_eq_false_iff_eq]; omega
          have hd1 : unqpA [] (s.data.toList.drop (k + 1)) = unqpL (s.data.toList.drop (k + 1)) := rfl
          rw [hd1] at hac
          clear hd hd1 hc10 hc
          by_cases hcr : f < k ∧ s[k - 1].toNat = 13
          · obtain ⟨hfk2, h13⟩ := hcr
            obtain ⟨j, rfl⟩ : ∃ j, k = j + 1 := ⟨k - 1, by omega⟩
            have h13' : s[j].toNat = 13 := h13
            have hsn := seg_snoc s f j (by omega) (by omega)
            have hle2 : lineEnd (seg s f (j + 1)) = lineOut (seg s f j) [13, 10] := by
              unfold lineEnd
              rw [hsn, show s[j] = 13 from UInt8.toNat_inj.1 h13', suf_snoc, if_pos (by simp), trim_snoc]
            rw [hle2] at hac
            have hr13 := fun W => run_index_str s (((j + 1 : Nat) : Int) - 1) j (by omega) (by omega) W
            have e13 : ((s[j].toNat : Int) == 13) = true := by rw [beq_iff_eq]; omega
            have HAC := Lib.hid hac
            clear hac hle2 hsn h13 h13' h10
            go_wp2_with fail
            go_loopw [6] (fun tv wq => ∃ t : Nat, f ≤ t ∧ t ≤ j ∧ tv = .int .i64 t ∧ Hid (strip (seg s f t) = strip (seg s f (j))) ∧ wr = wq) (fun tv _ => (intOf tv).toNat)
            case atStart => exact ⟨j, by omega, Nat.le_refl _, by go_num, Lib.hid rfl, rfl⟩
            case round =>
              obtain ⟨t, hft, ht0, rfl, hst, rfl⟩ := hrel
              by_cases hgt : f < t
              · obtain ⟨q, rfl⟩ : ∃ q, t = q + 1 := ⟨t - 1, by omega⟩
                have hq : q < s.size := by omega
                have hrq := fun W => run_index_str s (((q + 1 : Nat) : Int) - 1) q (by omega) hq W
                have hsn := seg_snoc s f q (by omega) hq
                by_cases h32 : s[q].toNat = 32
                · have e32 : ((s[q].toNat : Int) == 32) = true := by rw [beq_iff_eq]; omega
                  have HST : Hid (strip (seg s f q) = strip (seg s f (j))) := Lib.hid (by rw [← hst.out, hsn, strip_snoc, if_pos (blank_yes (by omega))])
                  clear hst hsn
                  go_wp2_with fail
                  go_roundw
                  case rel => exact ⟨q, by omega, by omega, by go_num, HST, by first | rfl | trivial⟩
                  case measure => first | (simp [intOf]; done) | (simp [intOf]; omega)
                · have e32 : ((s[q].toNat : Int) == 32) = false := by rw [beq_eq_false_iff_ne]; omega
                  by_cases h9 : s[q].toNat = 9
                  · have e9 : ((s[q].toNat : Int) == 9) = true := by rw [beq_iff_eq]; omega
                    have HST : Hid (strip (seg s f q) = strip (seg s f (j))) := Lib.hid (by rw [← hst.out, hsn, strip_snoc, if_pos (blank_yes (by omega))])
                    clear hst hsn
                    go_wp2_with fail
                    go_roundw
                    case rel => exact ⟨q, by omega, by omega, by go_num, HST, by first | rfl | trivial⟩
                    case measure => first | (simp [intOf]; done) | (simp [intOf]; omega)
                  · have e9 : ((s[q].toNat : Int) == 9) = false := by rw [beq_eq_false_iff_ne]; omega
                    have hst2 : strip (seg s f (j)) = seg s f q ++ [s[q]] := by rw [← hst.out, hsn, strip_snoc, if_neg (by rw [blank_not h32 h9]; decide)]
                    by_cases h61 : s[q].toNat = 61
                    · have e61 : ((s[q].toNat : Int) == 61) = true := by rw [beq_iff_eq]; omega
                      have hq61 : s[q] = 61 := UInt8.toNat_inj.1 h61
                      rw [hq61] at hst2
                      clear hq61 h61
                      obtain ⟨X, hX⟩ : ∃ X, s.extract f (q) = X := ⟨_, rfl⟩
                      have hsl : ∀ W, (Instr.slice 9 (.string s) (some (.int .i64 f)) (some (.int .i64 (q : Int))) none).run Tryd.prog W = .ok (.string X) W := fun W => by rw [← hX]; exact run_slice_str s f (q) _ (by omega) (by omega) (by omega) W
                      have hXl : X.data.toList = seg s f q := by rw [← hX, seg_part s f (q) (by omega) (by omega)]
                      have hXs : X.size ≤ q - f := by rw [size_list, ← hX, seg_part s f (q) (by omega) (by omega), seg_length s f (q) (by omega) (by omega)]; exact Nat.le_refl _
                      have hes := fun W => escR_any X (by omega) W
                      have hel : (escapes X.data.toList).length ≤ X.data.toList.length := escapes_length X.data.toList 0
                      rw [← size_list] at hel
                      obtain ⟨Y, hY⟩ : ∃ Y, strL (escapes X.data.toList) = Y := ⟨_, rfl⟩
                      have hYs : Y.size ≤ X.size := by rw [← hY, strL_size]; exact hel
                      have hYl : Y.data.toList = escapes X.data.toList := by rw [← hY]; rfl
                      rw [hY] at hes
                      have hOl : (O ++ Y ++ ⟨#[]⟩).data.toList = O.data.toList ++ lineOut (seg s f (j)) [13, 10] := by
                        rw [list_append, list_append, hYl, hXl, out_eq _ _ _ hst2]
                        simp
                      have hAC2 : (O.data.toList ++ lineOut (seg s f (j)) [13, 10]) ++ unqpA [] (s.data.toList.drop ((j + 1) + 1)) = ANS := by rw [List.append_assoc]; exact HAC.out
                      have hOlen : (O ++ Y ++ ⟨#[]⟩).size ≤ f + (q - f) + 0 := by
                        rw [size_list, list_append, list_append, List.length_append, List.length_append, ← size_list, ← size_list]
                        show _ + _ + 0 ≤ _
                        omega
                      have HES := Lib.hid hes
                      replace hOl := Lib.hid hOl
                      replace hOlen := Lib.hid hOlen
                      replace hAC2 := Lib.hid hAC2
                      clear hes hYl hXl hY hst HAC hst2 hsn
                      go_wp2_with (go_at_call 38; refine (HES.out _).mono ?_; rintro e w2 ⟨rfl, hb2⟩)
                      go_roundw
                      case rel => exact ⟨(j + 1) + 1, (j + 1) + 1, _, by omega, Nat.le_refl _, by go_num, by go_num, rfl, hb.trans (hb2.mono hsz), by have := hOlen.out; omega, Lib.hid fun _ => ⟨by rw [seg_nil]; simp, by rw [seg_nil, hOl.out]; exact hAC2.out⟩, Lib.hid fun h => by omega⟩
                      case measure => first | (simp [intOf]; done) | (simp [intOf]; omega)
                    · have e61 : ((s[q].toNat : Int) == 61) = false := by rw [beq_eq_false_iff_ne]; omega
                      obtain ⟨X, hX⟩ : ∃ X, s.extract f (q + 1) = X := ⟨_, rfl⟩
                      have hsl : ∀ W, (Instr.slice 9 (.string s) (some (.int .i64 f)) (some (.int .i64 ((q : Int) + 1))) none).run Tryd.prog W = .ok (.string X) W := fun W => by rw [← hX]; exact run_slice_str s f (q + 1) _ (by omega) (by omega) (by omega) W
                      have hXl : X.data.toList = seg s f q ++ [s[q]] := by rw [← hX, seg_part s f (q + 1) (by omega) (by omega)]; exact hsn
                      have hXs : X.size ≤ q + 1 - f := by rw [size_list, ← hX, seg_part s f (q + 1) (by omega) (by omega), seg_length s f (q + 1) (by omega) (by omega)]; exact Nat.le_refl _
                      have hes := fun W => escR_any X (by omega) W
                      have hel : (escapes X.data.toList).length ≤ X.data.toList.length := escapes_length X.data.toList 0
                      rw [← size_list] at hel
                      obtain ⟨Y, hY⟩ : ∃ Y, strL (escapes X.data.toList) = Y := ⟨_, rfl⟩
                      have hYs : Y.size ≤ X.size := by rw [← hY, strL_size]; exact hel
                      have hYl : Y.data.toList = escapes X.data.toList := by rw [← hY]; rfl
                      rw [hY] at hes
                      have hOl : (O ++ Y ++ ⟨#[13, 10]⟩).data.toList = O.data.toList ++ lineOut (seg s f (j)) [13, 10] := by
                        rw [list_append, list_append, hYl, hXl, out_ne _ _ _ _ hst2 h61]
                        simp
                      have hAC2 : (O.data.toList ++ lineOut (seg s f (j)) [13, 10]) ++ unqpA [] (s.data.toList.drop ((j + 1) + 1)) = ANS := by rw [List.append_assoc]; exact HAC.out
                      have hOlen : (O ++ Y ++ ⟨#[13, 10]⟩).size ≤ f + (q + 1 - f) + 2 := by
                        rw [size_list, list_append, list_append, List.length_append, List.length_append, ← size_list, ← size_list]
                        show _ + _ + 2 ≤ _
                        omega
                      have HES := Lib.hid hes
                      replace hOl := Lib.hid hOl
                      replace hOlen := Lib.hid hOlen
                      replace hAC2 := Lib.hid hAC2
                      clear hes hYl hXl hY hst HAC hst2 hsn
                      go_wp2_with (go_at_call 38; refine (HES.out _).mono ?_; rintro e w2 ⟨rfl, hb2⟩)
                      go_roundw
                      case rel => exact ⟨(j + 1) + 1, (j + 1) + 1, _, by omega, Nat.le_refl _, by go_num, by go_num, rfl, hb.trans (hb2.mono hsz), by have := hOlen.out; omega, Lib.hid fun _ => ⟨by rw [seg_nil]; simp, by rw [seg_nil, hOl.out]; exact hAC2.out⟩, Lib.hid fun h => by omega⟩
                      case measure => first | (simp [intOf]; done) | (simp [intOf]; omega)
              · obtain rfl : t = f := by omega
                have hst2 : strip (seg s t (j)) = [] := by rw [← hst.out, seg_nil]; rfl
                obtain ⟨X, hX⟩ : ∃ X, s.extract t t = X := ⟨_, rfl⟩
                have hsl : ∀ W, (Instr.slice 9 (.string s) (some (.int .i64 t)) (some (.int .i64 (t : Int))) none).run Tryd.prog W = .ok (.string X) W := fun W => by rw [← hX]; exact run_slice_str s t (t) _ (by omega) (Nat.le_refl _) (by omega) W
                have hXl : X.data.toList = ([] : List UInt8) := by rw [← hX, seg_part s t t (Nat.le_refl _) (by omega)]; exact seg_nil s t
                have hXs : X.size ≤ t - t := by rw [size_list, ← hX, seg_part s t t (Nat.le_refl _) (by omega), seg_length s t t (Nat.le_refl _) (by omega)]; exact Nat.le_refl _
                have hes := fun W => escR_any X (by omega) W
                have hel : (escapes X.data.toList).length ≤ X.data.toList.length := escapes_length X.data.toList 0
                rw [← size_list] at hel
                obtain ⟨Y, hY⟩ : ∃ Y, strL (escapes X.data.toList) = Y := ⟨_, rfl⟩
                have hYs : Y.size ≤ X.size := by rw [← hY, strL_size]; exact hel
                have hYl : Y.data.toList = escapes X.data.toList := by rw [← hY]; rfl
                rw [hY] at hes
                have hOl : (O ++ Y ++ ⟨#[13, 10]⟩).data.toList = O.data.toList ++ lineOut (seg s t (j)) [13, 10] := by
                  rw [list_append, list_append, hYl, hXl, out_nil _ _ hst2, show escapes ([] : List UInt8) = [] from rfl]
                  simp
                have hAC2 : (O.data.toList ++ lineOut (seg s t (j)) [13, 10]) ++ unqpA [] (s.data.toList.drop ((j + 1) + 1)) = ANS := by rw [List.append_assoc]; exact HAC.out
                have hOlen : (O ++ Y ++ ⟨#[13, 10]⟩).size ≤ t + (t - t) + 2 := by
                  rw [size_list, list_append, list_append, List.length_append, List.length_append, ← size_list, ← size_list]
                  show _ + _ + 2 ≤ _
                  omega
                have HES := Lib.hid hes
                replace hOl := Lib.hid hOl
                replace hOlen := Lib.hid hOlen
                replace hAC2 := Lib.hid hAC2
                clear hes hYl hXl hY hst HAC
                go_wp2_with (go_at_call 38; refine (HES.out _).mono ?_; rintro e w2 ⟨rfl, hb2⟩)
                go_roundw
                case rel => exact ⟨(j + 1) + 1, (j + 1) + 1, _, by omega, Nat.le_refl _, by go_num, by go_num, rfl, hb.trans (hb2.mono hsz), by have := hOlen.out; omega, Lib.hid fun _ => ⟨by rw [seg_nil]; simp, by rw [seg_nil, hOl.out]; exact hAC2.out⟩, Lib.hid fun h => by omega⟩
                case measure => first | (simp [intOf]; done) | (simp [intOf]; omega)
          · have hle2 : lineEnd (seg s f k) = lineOut (seg s f k) [10] := by
              unfold lineEnd
              rw [if_neg]
              intro hh
              by_cases hf : f < k
              · obtain ⟨j, rfl⟩ : ∃ j, k = j + 1 := ⟨k - 1, by omega⟩
                rw [seg_snoc s f j (by omega) (by omega), suf_snoc] at hh
                have : (13 : UInt8) = s[j] := by simpa using hh
                exact hcr ⟨hf, by show s[j].toNat = 13; rw [← this]; rfl⟩
              · obtain rfl : f = k := by omega
                rw [seg_nil] at hh
                cases hh
            rw [hle2] at hac
            have HAC := Lib.hid hac
            clear hac hle2 h10
            by_cases hf : f < k
            · obtain ⟨j, rfl⟩ : ∃ j, k = j + 1 := ⟨k - 1, by omega⟩
              have hr13 := fun W => run_index_str s (((j + 1 : Nat) : Int) - 1) j (by omega) (by omega) W
              have e13 : ((s[j].toNat : Int) == 13) = false := by
                rw [beq_eq_false_iff_ne]
                intro e
                exact hcr ⟨hf, by show s[j].toNat = 13; omega⟩
              clear hcr
              go_wp2_with fail
              go_loopw [6] (fun tv wq => ∃ t : Nat, f ≤ t ∧ t ≤ j + 1 ∧ tv = .int .i64 t ∧ Hid (strip (seg s f t) = strip (seg s f (j + 1))) ∧ wr = wq) (fun tv _ => (intOf tv).toNat)
              case atStart => exact ⟨j + 1, by omega, Nat.le_refl _, by go_num, Lib.hid rfl, rfl⟩
              case round =>
                obtain ⟨t, hft, ht0, rfl, hst, rfl⟩ := hrel
                by_cases hgt : f < t
                · obtain ⟨q, rfl⟩ : ∃ q, t = q + 1 := ⟨t - 1, by omega⟩
                  have hq : q < s.size := by omega
                  have hrq := fun W => run_index_str s (((q + 1 : Nat) : Int) - 1) q (by omega) hq W
                  have hsn := seg_snoc s f q (by omega) hq
                  by_cases h32 : s[q].toNat = 32
                  · have e32 : ((s[q].toNat : Int) == 32) = true := by rw [beq_iff_eq]; omega
                    have HST : Hid (strip (seg s f q) = strip (seg s f (j + 1))) := Lib.hid (by rw [← hst.out, hsn, strip_snoc, if_pos (blank_yes (by omega))])
                    clear hst hsn
                    go_wp2_with fail
                    go_roundw
                    case rel => exact ⟨q, by omega, by omega, by go_num, HST, by first | rfl | trivial⟩
                    case measure => first | (simp [intOf]; done) | (simp [intOf]; omega)
                  · have e32 : ((s[q].toNat : Int) == 32) = false := by rw [beq_eq_false_iff_ne]; omega
                    by_cases h9 : s[q].toNat = 9
                    · have e9 : ((s[q].toNat : Int) == 9) = true := by rw [beq_iff_eq]; omega
                      have HST : Hid (strip (seg s f q) = strip (seg s f (j + 1))) := Lib.hid (by rw [← hst.out, hsn, strip_snoc, if_pos (blank_yes (by omega))])
                      clear hst hsn
                      go_wp2_with fail
                      go_roundw
                      case rel => exact ⟨q, by omega, by omega, by go_num, HST, by first | rfl | trivial⟩
                      case measure => first | (simp [intOf]; done) | (simp [intOf]; omega)
                    · have e9 : ((s[q].toNat : Int) == 9) = false := by rw [beq_eq_false_iff_ne]; omega
                      have hst2 : strip (seg s f (j + 1)) = seg s f q ++ [s[q]] := by rw [← hst.out, hsn, strip_snoc, if_neg (by rw [blank_not h32 h9]; decide)]
                      by_cases h61 : s[q].toNat = 61
                      · have e61 : ((s[q].toNat : Int) == 61) = true := by rw [beq_iff_eq]; omega
                        have hq61 : s[q] = 61 := UInt8.toNat_inj.1 h61
                        rw [hq61] at hst2
                        clear hq61 h61
                        obtain ⟨X, hX⟩ : ∃ X, s.extract f (q) = X := ⟨_, rfl⟩
                        have hsl : ∀ W, (Instr.slice 9 (.string s) (some (.int .i64 f)) (some (.int .i64 (q : Int))) none).run Tryd.prog W = .ok (.string X) W := fun W => by rw [← hX]; exact run_slice_str s f (q) _ (by omega) (by omega) (by omega) W
                        have hXl : X.data.toList = seg s f q := by rw [← hX, seg_part s f (q) (by omega) (by omega)]
                        have hXs : X.size ≤ q - f := by rw [size_list, ← hX, seg_part s f (q) (by omega) (by omega), seg_length s f (q) (by omega) (by omega)]; exact Nat.le_refl _
                        have hes := fun W => escR_any X (by omega) W
                        have hel : (escapes X.data.toList).length ≤ X.data.toList.length := escapes_length X.data.toList 0
                        rw [← size_list] at hel
                        obtain ⟨Y, hY⟩ : ∃ Y, strL (escapes X.data.toList) = Y := ⟨_, rfl⟩
                        have hYs : Y.size ≤ X.size := by rw [← hY, strL_size]; exact hel
                        have hYl : Y.data.toList = escapes X.data.toList := by rw [← hY]; rfl
                        rw [hY] at hes
                        have hOl : (O ++ Y ++ ⟨#[]⟩).data.toList = O.data.toList ++ lineOut (seg s f (j + 1)) [10] := by
                          rw [list_append, list_append, hYl, hXl, out_eq _ _ _ hst2]
                          simp
                        have hAC2 : (O.data.toList ++ lineOut (seg s f (j + 1)) [10]) ++ unqpA [] (s.data.toList.drop ((j + 1) + 1)) = ANS := by rw [List.append_assoc]; exact HAC.out
                        have hOlen : (O ++ Y ++ ⟨#[]⟩).size ≤ f + (q - f) + 0 := by
                          rw [size_list, list_append, list_append, List.length_append, List.length_append, ← size_list, ← size_list]
                          show _ + _ + 0 ≤ _
                          omega
                        have HES := Lib.hid hes
                        replace hOl := Lib.hid hOl
                        replace hOlen := Lib.hid hOlen
                        replace hAC2 := Lib.hid hAC2
                        clear hes hYl hXl hY hst HAC hst2 hsn
                        go_wp2_with (go_at_call 38; refine (HES.out _).mono ?_; rintro e w2 ⟨rfl, hb2⟩)
                        go_roundw
                        case rel => exact ⟨(j + 1) + 1, (j + 1) + 1, _, by omega, Nat.le_refl _, by go_num, by go_num, rfl, hb.trans (hb2.mono hsz), by have := hOlen.out; omega, Lib.hid fun _ => ⟨by rw [seg_nil]; simp, by rw [seg_nil, hOl.out]; exact hAC2.out⟩, Lib.hid fun h => by omega⟩
                        case measure => first | (simp [intOf]; done) | (simp [intOf]; omega)
                      · have e61 : ((s[q].toNat : Int) == 61) = false := by rw [beq_eq_false_iff_ne]; omega
                        obtain ⟨X, hX⟩ : ∃ X, s.extract f (q + 1) = X := ⟨_, rfl⟩
                        have hsl : ∀ W, (Instr.slice 9 (.string s) (some (.int .i64 f)) (some (.int .i64 ((q : Int) + 1))) none).run Tryd.prog W = .ok (.string X) W := fun W => by rw [← hX]; exact run_slice_str s f (q + 1) _ (by omega) (by omega) (by omega) W
                        have hXl : X.data.toList = seg s f q ++ [s[q]] := by rw [← hX, seg_part s f (q + 1) (by omega) (by omega)]; exact hsn
                        have hXs : X.size ≤ q + 1 - f := by rw [size_list, ← hX, seg_part s f (q + 1) (by omega) (by omega), seg_length s f (q + 1) (by omega) (by omega)]; exact Nat.le_refl _
                        have hes := fun W => escR_any X (by omega) W
                        have hel : (escapes X.data.toList).length ≤ X.data.toList.length := escapes_length X.data.toList 0
                        rw [← size_list] at hel
                        obtain ⟨Y, hY⟩ : ∃ Y, strL (escapes X.data.toList) = Y := ⟨_, rfl⟩
                        have hYs : Y.size ≤ X.size := by rw [← hY, strL_size]; exact hel
                        have hYl : Y.data.toList = escapes X.data.toList := by rw [← hY]; rfl
                        rw [hY] at hes
                        have hOl : (O ++ Y ++ ⟨#[10]⟩).data.toList = O.data.toList ++ lineOut (seg s f (j + 1)) [10] := by
                          rw [list_append, list_append, hYl, hXl, out_ne _ _ _ _ hst2 h61]
                          simp
                        have hAC2 : (O.data.toList ++ lineOut (seg s f (j + 1)) [10]) ++ unqpA [] (s.data.toList.drop ((j + 1) + 1)) = ANS := by rw [List.append_assoc]; exact HAC.out
                        have hOlen : (O ++ Y ++ ⟨#[10]⟩).size ≤ f + (q + 1 - f) + 1 := by
                          rw [size_list, list_append, list_append, List.length_append, List.length_append, ← size_list, ← size_list]
                          show _ + _ + 1 ≤ _
                          omega
                        have HES := Lib.hid hes
                        replace hOl := Lib.hid hOl
                        replace hOlen := Lib.hid hOlen
                        replace hAC2 := Lib.hid hAC2
                        clear hes hYl hXl hY hst HAC hst2 hsn
                        go_wp2_with (go_at_call 38; refine (HES.out _).mono ?_; rintro e w2 ⟨rfl, hb2⟩)
                        go_roundw
                        case rel => exact ⟨(j + 1) + 1, (j + 1) + 1, _, by omega, Nat.le_refl _, by go_num, by go_num, rfl, hb.trans (hb2.mono hsz), by have := hOlen.out; omega, Lib.hid fun _ => ⟨by rw [seg_nil]; simp, by rw [seg_nil, hOl.out]; exact hAC2.out⟩, Lib.hid fun h => by omega⟩
                        case measure => first | (simp [intOf]; done) | (simp [intOf]; omega)
                · obtain rfl : t = f := by omega
                  have hst2 : strip (seg s t (j + 1)) = [] := by rw [← hst.out, seg_nil]; rfl
                  obtain ⟨X, hX⟩ : ∃ X, s.extract t t = X := ⟨_, rfl⟩
                  have hsl : ∀ W, (Instr.slice 9 (.string s) (some (.int .i64 t)) (some (.int .i64 (t : Int))) none).run Tryd.prog W = .ok (.string X) W := fun W => by rw [← hX]; exact run_slice_str s t (t) _ (by omega) (Nat.le_refl _) (by omega) W
                  have hXl : X.data.toList = ([] : List UInt8) := by rw [← hX, seg_part s t t (Nat.le_refl _) (by omega)]; exact seg_nil s t
                  have hXs : X.size ≤ t - t := by rw [size_list, ← hX, seg_part s t t (Nat.le_refl _) (by omega), seg_length s t t (Nat.le_refl _) (by omega)]; exact Nat.le_refl _
                  have hes := fun W => escR_any X (by omega) W
                  have hel : (escapes X.data.toList).length ≤ X.data.toList.length := escapes_length X.data.toList 0
                  rw [← size_list] at hel
                  obtain ⟨Y, hY⟩ : ∃ Y, strL (escapes X.data.toList) = Y := ⟨_, rfl⟩
                  have hYs : Y.size ≤ X.size := by rw [← hY, strL_size]; exact hel
                  have hYl : Y.data.toList = escapes X.data.toList := by rw [← hY]; rfl
                  rw [hY] at hes
                  have hOl : (O ++ Y ++ ⟨#[10]⟩).data.toList = O.data.toList ++ lineOut (seg s t (j + 1)) [10] := by
                    rw [list_append, list_append, hYl, hXl, out_nil _ _ hst2, show escapes ([] : List UInt8) = [] from rfl]
                    simp
                  have hAC2 : (O.data.toList ++ lineOut (seg s t (j + 1)) [10]) ++ unqpA [] (s.data.toList.drop ((j + 1) + 1)) = ANS := by rw [List.append_assoc]; exact HAC.out
                  have hOlen : (O ++ Y ++ ⟨#[10]⟩).size ≤ t + (t - t) + 1 := by
                    rw [size_list, list_append, list_append, List.length_append, List.length_append, ← size_list, ← size_list]
                    show _ + _ + 1 ≤ _
                    omega
                  have HES := Lib.hid hes
                  replace hOl := Lib.hid hOl
                  replace hOlen := Lib.hid hOlen
                  replace hAC2 := Lib.hid hAC2
                  clear hes hYl hXl hY hst HAC
                  go_wp2_with (go_at_call 38; refine (HES.out _).mono ?_; rintro e w2 ⟨rfl, hb2⟩)
                  go_roundw
                  case rel => exact ⟨(j + 1) + 1, (j + 1) + 1, _, by omega, Nat.le_refl _, by go_num, by go_num, rfl, hb.trans (hb2.mono hsz), by have := hOlen.out; omega, Lib.hid fun _ => ⟨by rw [seg_nil]; simp, by rw [seg_nil, hOl.out]; exact hAC2.out⟩, Lib.hid fun h => by omega⟩
                  case measure => first | (simp [intOf]; done) | (simp [intOf]; omega)
            · obtain rfl : f = k := by omega
              clear hcr
              go_wp2_with fail
              go_loopw [6] (fun tv wq => ∃ t : Nat, f ≤ t ∧ t ≤ f ∧ tv = .int .i64 t ∧ Hid (strip (seg s f t) = strip (seg s f (f))) ∧ wr = wq) (fun tv _ => (intOf tv).toNat)
              case atStart => exact ⟨f, by omega, Nat.le_refl _, by go_num, Lib.hid rfl, rfl⟩
              case round =>
                obtain ⟨t, hft, ht0, rfl, hst, rfl⟩ := hrel
                by_cases hgt : f < t
                · exfalso; omega
                · obtain rfl : t = f := by omega
                  have hst2 : strip (seg s t (t)) = [] := by rw [← hst.out, seg_nil]; rfl
                  obtain ⟨X, hX⟩ : ∃ X, s.extract t t = X := ⟨_, rfl⟩
                  have hsl : ∀ W, (Instr.slice 9 (.string s) (some (.int .i64 t)) (some (.int .i64 (t : Int))) none).run Tryd.prog W = .ok (.string X) W := fun W => by rw [← hX]; exact run_slice_str s t (t) _ (by omega) (Nat.le_refl _) (by omega) W
                  have hXl : X.data.toList = ([] : List UInt8) := by rw [← hX, seg_part s t t (Nat.le_refl _) (by omega)]; exact seg_nil s t
                  have hXs : X.size ≤ t - t := by rw [size_list, ← hX, seg_part s t t (Nat.le_refl _) (by omega), seg_length s t t (Nat.le_refl _) (by omega)]; exact Nat.le_refl _
                  have hes := fun W => escR_any X (by omega) W
                  have hel : (escapes X.data.toList).length ≤ X.data.toList.length := escapes_length X.data.toList 0
                  rw [← size_list] at hel
                  obtain ⟨Y, hY⟩ : ∃ Y, strL (escapes X.data.toList) = Y := ⟨_, rfl⟩
                  have hYs : Y.size ≤ X.size := by rw [← hY, strL_size]; exact hel
                  have hYl : Y.data.toList = escapes X.data.toList := by rw [← hY]; rfl
                  rw [hY] at hes
                  have hOl : (O ++ Y ++ ⟨#[10]⟩).data.toList = O.data.toList ++ lineOut (seg s t (t)) [10] := by
                    rw [list_append, list_append, hYl, hXl, out_nil _ _ hst2, show escapes ([] : List UInt8) = [] from rfl]
                    simp
                  have hAC2 : (O.data.toList ++ lineOut (seg s t (t)) [10]) ++ unqpA [] (s.data.toList.drop (t + 1)) = ANS := by rw [List.append_assoc]; exact HAC.out
                  have hOlen : (O ++ Y ++ ⟨#[10]⟩).size ≤ t + (t - t) + 1 := by
                    rw [size_list, list_append, list_append, List.length_append, List.length_append, ← size_list, ← size_list]
                    show _ + _ + 1 ≤ _
                    omega
                  have HES := Lib.hid hes
                  replace hOl := Lib.hid hOl
                  replace hOlen := Lib.hid hOlen
                  replace hAC2 := Lib.hid hAC2
                  clear hes hYl hXl hY hst HAC
                  go_wp2_with (go_at_call 38; refine (HES.out _).mono ?_; rintro e w2 ⟨rfl, hb2⟩)
                  go_roundw
                  case rel => exact ⟨t + 1, t + 1, _, by omega, Nat.le_refl _, by go_num, by go_num, rfl, hb.trans (hb2.mono hsz), by have := hOlen.out; omega, Lib.hid fun _ => ⟨by rw [seg_nil]; simp, by rw [seg_nil, hOl.out]; exact hAC2.out⟩, Lib.hid fun h => by omega⟩
                  case measure => first | (simp [intOf]; done) | (simp [intOf]; omega)
        · rw [hd, unqpA_go (fun e => hc (by rw [e]; rfl))] at hac
          have e10 : ((s[k].toNat : Int) != 10) = true := by rw [bne_iff_ne]; omega
          have hsn := seg_snoc s f k hfk hlt
          rw [← hsn] at hac
          have hnot : 10 ∉ seg s f (k + 1) := by
            rw [hsn, List.mem_append, List.mem_singleton]
            exact fun h => h.elim h10 (fun e => hc (by rw [← e]; rfl))
          have HAC := Lib.hid hac
          have HNOT := Lib.hid hnot
          clear hac hnot hsn hd h10
          go_wp2_with fail
          go_roundw
          case rel => exact ⟨k + 1, f, O, by omega, by omega, by go_num, rfl, rfl, hb, hOs, Lib.hid fun _ => ⟨HNOT.out, HAC.out⟩, Lib.hid fun h => by omega⟩
          case measure => first | (simp [intOf]; done) | (simp [intOf]; omega)
      · obtain rfl : k = s.size := by omega
        rw [List.drop_eq_nil_of_le (by rw [← size_list]; omega)] at hac
        have hac2 : O.data.toList ++ lineOut (seg s f s.size) [] = ANS := hac
        have HAC := Lib.hid hac2
        clear hac hac2 h10
        go_wp2_with fail
        go_loopw [6] (fun tv wq => ∃ t : Nat, f ≤ t ∧ t ≤ s.size ∧ tv = .int .i64 t ∧ Hid (strip (seg s f t) = strip (seg s f (s.size))) ∧ wr = wq) (fun tv _ => (intOf tv).toNat)
        case atStart => exact ⟨s.size, by omega, Nat.le_refl _, by go_num, Lib.hid rfl, rfl⟩
        case round =>
          obtain ⟨t, hft, ht0, rfl, hst, rfl⟩ := hrel
          by_cases hgt : f < t
          · obtain ⟨q, rfl⟩ : ∃ q, t = q + 1 := ⟨t - 1, by omega⟩
            have hq : q < s.size := by omega
            have hrq := fun W => run_index_str s (((q + 1 : Nat) : Int) - 1) q (by omega) hq W
            have hsn := seg_snoc s f q (by omega) hq
            by_cases h32 : s[q].toNat = 32
            · have e32 : ((s[q].toNat : Int) == 32) = true := by rw [beq_iff_eq]; omega
              have HST : Hid (strip (seg s f q) = strip (seg s f (s.size))) := Lib.hid (by rw [← hst.out, hsn, strip_snoc, if_pos (blank_yes (by omega))])
              clear hst hsn
              go_wp2_with fail
              go_roundw
              case rel => exact ⟨q, by omega, by omega, by go_num, HST, by first | rfl | trivial⟩
              case measure => first | (simp [intOf]; done) | (simp [intOf]; omega)
            · have e32 : ((s[q].toNat : Int) == 32) = false := by rw [beq_eq_false_iff_ne]; omega
              by_cases h9 : s[q].toNat = 9
              · have e9 : ((s[q].toNat : Int) == 9) = true := by rw [beq_iff_eq]; omega
                have HST : Hid (strip (seg s f q) = strip (seg s f (s.size))) := Lib.hid (by rw [← hst.out, hsn, strip_snoc, if_pos (blank_yes (by omega))])
                clear hst hsn
                go_wp2_with fail
                go_roundw
                case rel => exact ⟨q, by omega, by omega, by go_num, HST, by first | rfl | trivial⟩
                case measure => first | (simp [intOf]; done) | (simp [intOf]; omega)
              · have e9 : ((s[q].toNat : Int) == 9) = false := by rw [beq_eq_false_iff_ne]; omega
                have hst2 : strip (seg s f (s.size)) = seg s f q ++ [s[q]] := by rw [← hst.out, hsn, strip_snoc, if_neg (by rw [blank_not h32 h9]; decide)]
                by_cases h61 : s[q].toNat = 61
                · have e61 : ((s[q].toNat : Int) == 61) = true := by rw [beq_iff_eq]; omega
                  have hq61 : s[q] = 61 := UInt8.toNat_inj.1 h61
                  rw [hq61] at hst2
                  clear hq61 h61
                  obtain ⟨X, hX⟩ : ∃ X, s.extract f (q) = X := ⟨_, rfl⟩
                  have hsl : ∀ W, (Instr.slice 9 (.string s) (some (.int .i64 f)) (some (.int .i64 (q : Int))) none).run Tryd.prog W = .ok (.string X) W := fun W => by rw [← hX]; exact run_slice_str s f (q) _ (by omega) (by omega) (by omega) W
                  have hXl : X.data.toList = seg s f q := by rw [← hX, seg_part s f (q) (by omega) (by omega)]
                  have hXs : X.size ≤ q - f := by rw [size_list, ← hX, seg_part s f (q) (by omega) (by omega), seg_length s f (q) (by omega) (by omega)]; exact Nat.le_refl _
                  have hes := fun W => escR_any X (by omega) W
                  have hel : (escapes X.data.toList).length ≤ X.data.toList.length := escapes_length X.data.toList 0
                  rw [← size_list] at hel
                  obtain ⟨Y, hY⟩ : ∃ Y, strL (escapes X.data.toList) = Y := ⟨_, rfl⟩
                  have hYs : Y.size ≤ X.size := by rw [← hY, strL_size]; exact hel
                  have hYl : Y.data.toList = escapes X.data.toList := by rw [← hY]; rfl
                  rw [hY] at hes
                  have hOl : (O ++ Y ++ ⟨#[]⟩).data.toList = O.data.toList ++ lineOut (seg s f (s.size)) [] := by
                    rw [list_append, list_append, hYl, hXl, out_eq _ _ _ hst2]
                    simp
                  rw [HAC.out] at hOl
                  have hOlen : (O ++ Y ++ ⟨#[]⟩).size ≤ f + (q - f) + 0 := by
                    rw [size_list, list_append, list_append, List.length_append, List.length_append, ← size_list, ← size_list]
                    show _ + _ + 0 ≤ _
                    omega
                  have HES := Lib.hid hes
                  replace hOl := Lib.hid hOl
                  replace hOlen := Lib.hid hOlen
                  clear hes hYl hXl hY hst HAC hst2 hsn
                  go_wp2_with (go_at_call 38; refine (HES.out _).mono ?_; rintro e w2 ⟨rfl, hb2⟩)
                  go_roundw
                  case rel => exact ⟨s.size + 1, s.size + 1, _, by omega, Nat.le_refl _, by go_num, by go_num, rfl, hb.trans (hb2.mono hsz), by have := hOlen.out; omega, Lib.hid fun h => by omega, Lib.hid fun _ => hOl.out⟩
                  case measure => first | (simp [intOf]; done) | (simp [intOf]; omega)
                · have e61 : ((s[q].toNat : Int) == 61) = false := by rw [beq_eq_false_iff_ne]; omega
                  obtain ⟨X, hX⟩ : ∃ X, s.extract f (q + 1) = X := ⟨_, rfl⟩
                  have hsl : ∀ W, (Instr.slice 9 (.string s) (some (.int .i64 f)) (some (.int .i64 ((q : Int) + 1))) none).run Tryd.prog W = .ok (.string X) W := fun W => by rw [← hX]; exact run_slice_str s f (q + 1) _ (by omega) (by omega) (by omega) W
                  have hXl : X.data.toList = seg s f q ++ [s[q]] := by rw [← hX, seg_part s f (q + 1) (by omega) (by omega)]; exact hsn
                  have hXs : X.size ≤ q + 1 - f := by rw [size_list, ← hX, seg_part s f (q + 1) (by omega) (by omega), seg_length s f (q + 1) (by omega) (by omega)]; exact Nat.le_refl _
                  have hes := fun W => escR_any X (by omega) W
                  have hel : (escapes X.data.toList).length ≤ X.data.toList.length := escapes_length X.data.toList 0
                  rw [← size_list] at hel
                  obtain ⟨Y, hY⟩ : ∃ Y, strL (escapes X.data.toList) = Y := ⟨_, rfl⟩
                  have hYs : Y.size ≤ X.size := by rw [← hY, strL_size]; exact hel
                  have hYl : Y.data.toList = escapes X.data.toList := by rw [← hY]; rfl
                  rw [hY] at hes
                  have hOl : (O ++ Y ++ ⟨#[]⟩).data.toList = O.data.toList ++ lineOut (seg s f (s.size)) [] := by
                    rw [list_append, list_append, hYl, hXl, out_ne _ _ _ _ hst2 h61]
                    simp
                  rw [HAC.out] at hOl
                  have hOlen : (O ++ Y ++ ⟨#[]⟩).size ≤ f + (q + 1 - f) + 0 := by
                    rw [size_list, list_append, list_append, List.length_append, List.length_append, ← size_list, ← size_list]
                    show _ + _ + 0 ≤ _
                    omega
                  have HES := Lib.hid hes
                  replace hOl := Lib.hid hOl
                  replace hOlen := Lib.hid hOlen
                  clear hes hYl hXl hY hst HAC hst2 hsn
                  go_wp2_with (go_at_call 38; refine (HES.out _).mono ?_; rintro e w2 ⟨rfl, hb2⟩)
                  go_roundw
                  case rel => exact ⟨s.size + 1, s.size + 1, _, by omega, Nat.le_refl _, by go_num, by go_num, rfl, hb.trans (hb2.mono hsz), by have := hOlen.out; omega, Lib.hid fun h => by omega, Lib.hid fun _ => hOl.out⟩
                  case measure => first | (simp [intOf]; done) | (simp [intOf]; omega)
          · obtain rfl : t = f := by omega
            have hst2 : strip (seg s t (s.size)) = [] := by rw [← hst.out, seg_nil]; rfl
            obtain ⟨X, hX⟩ : ∃ X, s.extract t t = X := ⟨_, rfl⟩
            have hsl : ∀ W, (Instr.slice 9 (.string s) (some (.int .i64 t)) (some (.int .i64 (t : Int))) none).run Tryd.prog W = .ok (.string X) W := fun W => by rw [← hX]; exact run_slice_str s t (t) _ (by omega) (Nat.le_refl _) (by omega) W
            have hXl : X.data.toList = ([] : List UInt8) := by rw [← hX, seg_part s t t (Nat.le_refl _) (by omega)]; exact seg_nil s t
            have hXs : X.size ≤ t - t := by rw [size_list, ← hX, seg_part s t t (Nat.le_refl _) (by omega), seg_length s t t (Nat.le_refl _) (by omega)]; exact Nat.le_refl _
            have hes := fun W => escR_any X (by omega) W
            have hel : (escapes X.data.toList).length ≤ X.data.toList.length := escapes_length X.data.toList 0
            rw [← size_list] at hel
            obtain ⟨Y, hY⟩ : ∃ Y, strL (escapes X.data.toList) = Y := ⟨_, rfl⟩
            have hYs : Y.size ≤ X.size := by rw [← hY, strL_size]; exact hel
            have hYl : Y.data.toList = escapes X.data.toList := by rw [← hY]; rfl
            rw [hY] at hes
            have hOl : (O ++ Y ++ ⟨#[]⟩).data.toList = O.data.toList ++ lineOut (seg s t (s.size)) [] := by
              rw [list_append, list_append, hYl, hXl, out_nil _ _ hst2, show escapes ([] : List UInt8) = [] from rfl]
              simp
            rw [HAC.out] at hOl
            have hOlen : (O ++ Y ++ ⟨#[]⟩).size ≤ t + (t - t) + 0 := by
              rw [size_list, list_append, list_append, List.length_append, List.length_append, ← size_list, ← size_list]
              show _ + _ + 0 ≤ _
              omega
            have HES := Lib.hid hes
            replace hOl := Lib.hid hOl
            replace hOlen := Lib.hid hOlen
            clear hes hYl hXl hY hst HAC
            go_wp2_with (go_at_call 38; refine (HES.out _).mono ?_; rintro e w2 ⟨rfl, hb2⟩)
            go_roundw
            case rel => exact ⟨s.size + 1, s.size + 1, _, by omega, Nat.le_refl _, by go_num, by go_num, rfl, hb.trans (hb2.mono hsz), by have := hOlen.out; omega, Lib.hid fun h => by omega, Lib.hid fun _ => hOl.out⟩
            case measure => first | (simp [intOf]; done) | (simp [intOf]; omega)
    · have hkz : k = s.size + 1 := by omega
      have hOA := hfin.out hkz
      have hOA2 : strL ANS = O := by rw [← hOA, strL_of]
      clear hfin hacc hOA
      go_wp2_with fail
      go_ret
      exact ⟨by rw [hOA2]; rfl, hb⟩
end Go.Proofs.YtblbajhjmdcdiaaDoor
