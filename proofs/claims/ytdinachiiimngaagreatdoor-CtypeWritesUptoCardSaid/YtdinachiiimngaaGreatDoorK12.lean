/- CtypeBack: Same, and the law. CtypeBack. CtypeFolds. CtypeSections: escaped, and the law. -/
import Derived.Test.YtdinachiiimngaaGreatDoorKCtRight
import Derived.Test.YtdinachiiimngaaGreatDoorKCtSmall
import Derived.Test.YtdinachiiimngaaGreatDoorK1
import Derived.Test.YtdinachiiimngaaGreatDoorK9
import Derived.Test.YtdinachiiimngaaGreatDoorK5
import Derived.Test.YtdinachiiimngaaGreatDoorK16
import Derived.Test.YtdinachiiimngaaGreatDoorK3
import Derived.Lib.MinMax
namespace Go.Proofs.YtdinachiiimngaaGreatDoor
open Go.ChangeShapes Go.WideShapes Go.ChangeAt Go.RowKit
open TokP AdrP CtP

theorem own_has {w : World} {a : Option Addr} {c : Nat} {l : List (List UInt8 × List UInt8)} (h : OwnP w (.slice a l.length c) l) : HasP w (.slice a l.length c) l := by
  by_cases hl : 0 < l.length
  · obtain ⟨g, rfl, hf⟩ := h.at hl
    exact .inr ⟨g, 0, c, rfl, hf⟩
  · obtain rfl := List.eq_nil_of_length_eq_zero (Nat.eq_zero_of_not_pos hl)
    exact .inl ⟨⟨a, c, rfl⟩, rfl⟩
set_option maxRecDepth 100000 in
set_option maxHeartbeats 2000000 in
/-- Same of two types that are the same. -/
theorem same_eq (K S : ByteArray) (v u : Value) (l : List (List UInt8 × List UInt8)) (hl : l.length ≤ 4000000) (w : World) (h : Hid (HasP w v l)) (k : Hid (HasP w u l)) :
    Calls Tryz.prog 16 #[.agg #[.string K, .string S, v], .agg #[.string K, .string S, u]] w fun e w' => e = .returned (.bool true) ∧ Below w.heap.size w w' := by
  obtain ⟨a1, c1, rfl⟩ := h.out.form
  obtain ⟨a2, c2, rfl⟩ := k.out.form
  obtain ⟨m, hm⟩ : ∃ m, l.length = m := ⟨_, rfl⟩
  rw [hm] at h k ⊢
  have hb1 := (Below.refl w.heap.size w).alloc (Nat.le_refl _) (.cells #[.string K, .string S, .slice a1 m c1] 26)
  have hb2 := hb1.alloc hb1.size (.cells #[.string K, .string S, .slice a2 m c2] 26)
  have HP1 := Lib.hid (h.out.step hb2)
  have HP2 := Lib.hid (k.out.step hb2)
  have HB2 := Lib.hid hb2
  have cP := fun W (h1 : Hid (HasP W (.slice a1 m c1) l)) (h2 : Hid (HasP W (.slice a2 m c2) l)) => rparams_any h1.out h2.out hl
  rw [decide_eq_true rfl] at cP
  clear hm hb1 hb2 h k
  go_enter Tryz.func16, Tryz.ntmps16
  go_wp2_with (go_at_call 17; (with_reducible refine (cP _ HP1 HP2).mono ?_); rintro e w2 ⟨rfl, hb2⟩; have HB3 := Lib.hid (HB2.out.trans (hb2.mono HB2.out.size)); clear hb2 cP)
  go_ret
  exact ⟨rfl, HB3.out⟩
theorem kind_utf : Cs.kindL utf8N = 2 := by decide +kernel
theorem right_c {K S : List UInt8} {l : List (List UInt8 × List UInt8)} (h : rightB K S l = true) : RightC decF K S l ∧ l.length ≤ 20 ∧ ∀ p ∈ l, p.2.length ≤ 2000 := by
  unfold rightB at h
  simp only [Bool.and_eq_true, decide_eq_true_eq, List.all_eq_true] at h
  obtain ⟨h1, h2, h3, h4, h5, h6, h7⟩ := h
  refine ⟨⟨h3, h4, h1, h2, fun p hp => ?_, h7⟩, h5, fun p hp => ?_⟩
  · have := h6 p hp
    unfold okP namedB at this
    simp only [Bool.and_eq_true, decide_eq_true_eq] at this
    obtain ⟨⟨g1, g2, g3⟩, g4, g5⟩ := this
    refine ⟨⟨g2, g3, g1⟩, ?_⟩
    show Cs.decL (Cs.kindL utf8N) p.2 = p.2
    rw [kind_utf]
    exact repair_valid p.2 g5
  · have := h6 p hp
    unfold okP at this
    simp only [Bool.and_eq_true, decide_eq_true_eq] at this
    exact this.2.1
theorem line_len (F : List UInt8) : ∀ l : List (List UInt8 × List UInt8), (lineW F l).length ≤ F.length + 3 * (l.map fun p => p.1.length + p.2.length).sum + 12 * l.length := by
  intro l
  unfold lineW
  rw [List.length_append]
  suffices h : (l.flatMap fun p => 59 :: 32 :: rowW p).length ≤ 3 * (l.map fun p => p.1.length + p.2.length).sum + 12 * l.length by omega
  induction l with
  | nil => simp
  | cons p l ih =>
    rw [List.flatMap_cons, List.length_append, List.map_cons, List.sum_cons, List.length_cons, List.length_cons, List.length_cons]
    unfold rowW
    rw [List.length_append]
    have := fmt_len p.2
    unfold rowW at ih
    omega
/-- What Parse and Disposition make of what is written. -/
theorem bk_parse (K S : ByteArray) (l : List (List UInt8 × List UInt8)) (hr : RightC decF K.data.toList S.data.toList l) (hz : (lineW (K.data.toList ++ 47 :: S.data.toList) l).length ≤ 3900000) (w : World) (hv : Vr w) :
    Calls Tryz.prog 10 #[.string (strL (lineW (K.data.toList ++ 47 :: S.data.toList) l))] w fun e w' => ∃ a c, e = .returned (.tuple #[.agg #[.string K, .string S, .slice a l.length c], .bool true]) ∧ HasP w' (.slice a l.length c) l ∧ Below w.heap.size w w' := by
  have h := parse_c (strL (lineW (K.data.toList ++ 47 :: S.data.toList) l)) (by rw [strL_size]; exact hz) w hv
  rw [strL_list, (ct_back repF decF numF K.data.toList S.data.toList l hr).1, strL_of, strL_of] at h
  exact h.mono fun e w' ⟨a, c, h1, h2, h3⟩ => ⟨a, c, h1, own_has h2, h3⟩
theorem bk_disp (K S : ByteArray) (l : List (List UInt8 × List UInt8)) (hr : RightC decF K.data.toList S.data.toList l) (hz : (lineW K.data.toList l).length ≤ 3900000) (w : World) (hv : Vr w) :
    Calls Tryz.prog 12 #[.string (strL (lineW K.data.toList l))] w fun e w' => ∃ a c, e = .returned (.tuple #[.string K, .slice a l.length c]) ∧ HasP w' (.slice a l.length c) l ∧ Below w.heap.size w w' := by
  have h := disp_any (strL (lineW K.data.toList l)) (by rw [strL_size]; exact hz) w hv
  rw [strL_list, (ct_back repF decF numF K.data.toList S.data.toList l hr).2, strL_of] at h
  exact h.mono fun e w' ⟨a, c, h1, h2, h3⟩ => ⟨a, c, h1, own_has h2, h3⟩
end Go.Proofs.YtdinachiiimngaaGreatDoor
namespace Go.Proofs.YtdinachiiimngaaGreatDoor
open Go.ChangeShapes Go.WideShapes Go.ChangeAt Go.RowKit
open TokP AdrP CtP

theorem le_sum {l : List (List UInt8 × List UInt8)} {p : List UInt8 × List UInt8} (h : p ∈ l) : p.1.length + p.2.length ≤ (l.map fun p => p.1.length + p.2.length).sum := by
  induction l with
  | nil => cases h
  | cons q l ih =>
    rw [List.map_cons, List.sum_cons]
    rcases List.mem_cons.1 h with rfl | h
    · omega
    · have := ih h; omega
set_option maxRecDepth 100000 in
set_option maxHeartbeats 8000000 in
theorem back_any (K S : ByteArray) (v : Value) (l : List (List UInt8 × List UInt8)) (hz : K.size + S.size + (l.map fun p => p.1.length + p.2.length).sum ≤ 1048576) (w : World) (h : HasP w v l) (hv : Vr w) :
    Calls Tryz.prog 5 #[.agg #[.string K, .string S, v]] w fun e w' => e = .returned (.bool true) ∧ Below w.heap.size w w' := by
  obtain ⟨a, c, rfl⟩ := h.form
  obtain ⟨m, hm⟩ : ∃ m, l.length = m := ⟨_, rfl⟩
  have hsum : ∀ p ∈ l, p.1.length + p.2.length ≤ 1048576 := fun p hp => by
    have : p.1.length + p.2.length ≤ (l.map fun p => p.1.length + p.2.length).sum := le_sum hp
    omega
  have cR := fun W (hx : Hid (HasP W (.slice a l.length c) l)) (hv : Hid (Vr W)) => right_any K S (.slice a l.length c) l (by omega) (by omega) (fun p hp => by have := hsum p hp; omega) W hx.out hv.out
  rw [hm] at h cR ⊢
  have HM := Lib.hid hm
  obtain ⟨R, hR⟩ : ∃ R, rightB K.data.toList S.data.toList l = R := ⟨_, rfl⟩
  rw [hR] at cR
  obtain ⟨W0, hW0⟩ : ∃ W0, w.alloc (.cells #[.string K, .string S, .slice a m c] 26) = W0 := ⟨_, rfl⟩
  have HW0 := Lib.hid hW0
  have HB0 := Lib.hid (hW0 ▸ (Below.refl w.heap.size w).alloc (Nat.le_refl _) (.cells #[.string K, .string S, .slice a m c] 26) : Below w.heap.size w W0)
  have HX := Lib.hid (hW0 ▸ tyx_new w K S (.slice a m c) : Tyx W0 w.heap.size K S (.slice a m c))
  have HP := Lib.hid (h.step HB0.out)
  have HV := Lib.hid (hv.below HB0.out)
  have cS := small_any W0 HV.out
  rw [← hW0] at cS
  cases R with
  | false =>
    clear hR hW0 h hv hm hsum hz
    go_enter Tryz.func5, Tryz.ntmps5
    go_wp2_with (first
      | (go_at_call 8; (with_reducible refine cS.mono ?_); rintro e w1 ⟨rfl, hb1⟩; have HB1 := Lib.hid (HW0.out ▸ hb1 : Below W0.heap.size W0 w1); obtain ⟨y0, y1, y2, _⟩ := (HX.out.step HB1.out).all; clear hb1 cS)
      | (go_at_call 22; (with_reducible refine (cR _ (Lib.hid (HP.out.step HB1.out)) (Lib.hid (HV.out.below HB1.out))).mono ?_); rintro e w2 ⟨rfl, hb2⟩; have HB2 := Lib.hid (HB1.out.trans (hb2.mono HB1.out.size)); clear hb2 cR))
    go_ret
    exact ⟨rfl, HB0.out.trans (HB2.out.mono HB0.out.size)⟩
  | true =>
    obtain ⟨hrc, h20, hval⟩ := right_c hR
    have hn1 := line_len (K.data.toList ++ 47 :: S.data.toList) l
    have hn2 := line_len K.data.toList l
    rw [List.length_append, List.length_cons, ← size_list, ← size_list] at hn1
    rw [← size_list] at hn2
    have cW := fun W (hx : Hid (HasP W (.slice a m c) l)) => write_w K S (.slice a m c) l (fun p hp => by have := hval p hp; omega) (by omega) (by omega) W hx
    have cL := fun W (hx : Hid (HasP W (.slice a m c) l)) => line_w K (.slice a m c) l (fun p hp => by have := hval p hp; omega) (by omega) (by omega) W hx
    have cP := fun W (hv : Hid (Vr W)) => bk_parse K S l hrc (by omega) W hv.out
    have cD := fun W (hv : Hid (Vr W)) => bk_disp K S l hrc (by omega) W hv.out
    have cE := fun W (u : Value) (h1 : Hid (HasP W (.slice a m c) l)) (h2 : Hid (HasP W u l)) => same_eq K S (.slice a m c) u l (by omega) W h1 h2
    have cQ := fun W (u : Value) (h1 : Hid (HasP W u l)) (h2 : Hid (HasP W (.slice a m c) l)) => rparams_any h1.out h2.out (by omega)
    rw [decide_eq_true rfl] at cQ
    rw [hm] at cP cD
    have HPR := Lib.hid (print_line (K.data.toList ++ 47 :: S.data.toList) (print_app (print_word hrc.wkind) (print_cons (by decide) (print_word hrc.wsub))) l (fun p hp => (hrc.each p hp).1.1))
    have hXz : (strL (lineW (K.data.toList ++ 47 :: S.data.toList) l)).size ≤ 3900000 := by rw [strL_size]; omega
    have HXL := Lib.hid (strL_list (lineW (K.data.toList ++ 47 :: S.data.toList) l))
    generalize strL (lineW (K.data.toList ++ 47 :: S.data.toList) l) = X at cW cP hXz HXL
    generalize strL (lineW K.data.toList l) = Y at cL cD
    obtain ⟨n, hn⟩ : ∃ n, X.size = n := ⟨_, rfl⟩
    rw [hn] at hXz
    clear hR hW0 h hv hm hsum hz hn1 hn2 h20 hval hrc
    go_enter Tryz.func5, Tryz.ntmps5
    go_wp2_with (first
      | (go_at_call 8; (with_reducible refine cS.mono ?_); rintro e w1 ⟨rfl, hb1⟩; have HB1 := Lib.hid (HW0.out ▸ hb1 : Below W0.heap.size W0 w1); obtain ⟨y0, y1, y2, _⟩ := (HX.out.step HB1.out).all; clear hb1 cS)
      | (go_at_call 22; (with_reducible refine (cR _ (Lib.hid (HP.out.step HB1.out)) (Lib.hid (HV.out.below HB1.out))).mono ?_); rintro e w2 ⟨rfl, hb2⟩; have HB2 := Lib.hid (HB1.out.trans (hb2.mono HB1.out.size)); clear y0 y1 y2; obtain ⟨y0, y1, y2, _⟩ := (HX.out.step HB2.out).all; clear hb2 cR)
      | (go_at_call 18; (with_reducible refine (cW _ (Lib.hid (HP.out.step HB2.out))).mono ?_); rintro e w3 ⟨rfl, hb3⟩; have HB3 := Lib.hid (HB2.out.trans (hb3.mono HB2.out.size)); clear y0 y1 y2 hb3 cW))
    go_loopw [5] (fun i wr => ∃ k : Nat, k ≤ n ∧ i = .int .i64 k ∧ Hid (w3 = wr)) (fun i _ => n - (intOf i).toNat)
    case atStart => exact ⟨0, Nat.zero_le _, rfl, Lib.hid rfl⟩
    case round =>
      obtain ⟨k, hk, rfl, HE⟩ := hrel
      have F1 : IntKind.i64.wrap ((k : Int) + 1) = (k : Int) + 1 := by rw [IntKind.wrap_i64]; omega
      by_cases hlt : k < n
      · have hlt' : (k : Int) < (n : Int) := by omega
        obtain ⟨b, x, hc, hx, hx2, S1⟩ := run_byte X k (by rw [hn]; exact hlt)
        obtain ⟨q1, q2⟩ := HPR.out b (by rw [← HXL.out]; exact List.mem_of_getElem? hc)
        have q1' : ¬ (x : Int) < 32 := by omega
        have q2' : ¬ (126 : Int) < (x : Int) := by omega
        clear hc hx q1 q2
        go_wp2
        go_roundw
        case rel => exact ⟨k + 1, by omega, by go_num, HE⟩
        case measure => simp [intOf]; omega
      · have hlt' : ¬ (k : Int) < (n : Int) := by omega
        have HB := Lib.hid (HE.out ▸ HB3.out)
        have HVB := Lib.hid (HV.out.below HB.out)
        clear HE HPR HXL
        go_wp2_with (first
          | (go_at_call 10; (with_reducible refine (cP _ HVB).mono ?_); rintro e w4 ⟨a4, c4, rfl, hp4, hb4⟩; have HB4 := Lib.hid (HB.out.trans (hb4.mono HB.out.size)); have hbb := (Below.refl w4.heap.size w4).alloc (Nat.le_refl _) (.cells #[.string K, .string S, .slice a4 m c4] 26); have HB5 := Lib.hid (HB4.out.trans (hbb.mono HB4.out.size)); have HP5 := Lib.hid (hp4.step hbb); have HX5 := Lib.hid (tyx_new w4 K S (.slice a4 m c4)); obtain ⟨y0, y1, y2, _⟩ := (HX.out.step HB5.out).all; clear hp4 hb4 hbb cP)
          | (go_at_call 20; (with_reducible refine (cL _ (Lib.hid (HP.out.step HB5.out))).mono ?_); rintro e w6 ⟨rfl, hb6⟩; have HB6 := Lib.hid (HB5.out.trans (hb6.mono HB5.out.size)); have HP6 := Lib.hid (HP5.out.step hb6); have HX6 := Lib.hid (HX5.out.step hb6); clear y0 y1 y2 hb6 cL)
          | (go_at_call 12; (with_reducible refine (cD _ (Lib.hid (HV.out.below HB6.out))).mono ?_); rintro e w7 ⟨a7, c7, rfl, hp7, hb7⟩; have HB7 := Lib.hid (HB6.out.trans (hb7.mono HB6.out.size)); have HP7 := Lib.hid (HP6.out.step hb7); have HQ7 := Lib.hid hp7; obtain ⟨y0, y1, y2, _⟩ := (HX.out.step HB7.out).all; obtain ⟨z0, z1, z2, _⟩ := (HX6.out.step hb7).all; clear hp7 hb7 cD)
          | (go_at_call 16; (with_reducible refine (cE _ _ (Lib.hid (HP.out.step HB7.out)) HP7).mono ?_); rintro e w8 ⟨rfl, hb8⟩; have HB8 := Lib.hid (HB7.out.trans (hb8.mono HB7.out.size)); have HQ8 := Lib.hid (HQ7.out.step hb8); clear y0 y1 y2 z0 z1 z2; obtain ⟨y0, y1, y2, _⟩ := (HX.out.step HB8.out).all; clear hb8 cE)
          | (go_at_call 17; (with_reducible refine (cQ _ _ HQ8 (Lib.hid (HP.out.step HB8.out))).mono ?_); rintro e w9 ⟨rfl, hb9⟩; have HB9 := Lib.hid (HB8.out.trans (hb9.mono HB8.out.size)); clear hb9 cQ))
        go_ret
        exact ⟨rfl, HB0.out.trans (HB9.out.mono HB0.out.size)⟩
end Go.Proofs.YtdinachiiimngaaGreatDoor
namespace Go.Proofs.YtdinachiiimngaaGreatDoor
open Go.ChangeShapes Go.WideShapes Go.ChangeAt Go.RowKit
open TokP AdrP CtP

abbrev nCT : ByteArray := ⟨#[67, 111, 110, 116, 101, 110, 116, 45, 84, 121, 112, 101]⟩
abbrev nct : ByteArray := ⟨#[99, 111, 110, 116, 101, 110, 116, 45, 116, 121, 112, 101]⟩
theorem ct_right : Hd.HdrP.rightL nCT.data.toList = true := by decide
theorem ct_low : nCT.data.toList.map Hd.HdrP.low = nct.data.toList.map Hd.HdrP.low := by decide
theorem line_less (F : List UInt8) : ∀ l : List (List UInt8 × List UInt8), (∀ p ∈ l, p.2.length ≤ 2000) → (lineW F l).length ≤ F.length + (l.map fun p => p.1.length + p.2.length).sum + 4012 * l.length := by
  intro l
  unfold lineW
  rw [List.length_append]
  intro hv
  suffices h : (l.flatMap fun p => 59 :: 32 :: rowW p).length ≤ (l.map fun p => p.1.length + p.2.length).sum + 4012 * l.length by omega
  induction l with
  | nil => simp
  | cons p l ih =>
    have ih := ih (fun q hq => hv q (List.mem_cons_of_mem _ hq))
    have h0 := hv p List.mem_cons_self
    rw [List.flatMap_cons, List.length_append, List.map_cons, List.sum_cons, List.length_cons, List.length_cons, List.length_cons]
    have hrw : (rowW p).length = p.1.length + (fmtV p.2).length := by unfold rowW; rw [List.length_append]
    have := fmt_len p.2
    omega
/-- What is put, parsed and got is what was put. -/
theorem bk_field (X : List UInt8) (hX : X.length ≤ 1200000) (hcl : Hd.HdrP.cleanL X = X) (w : World) (hd : Hd.Vars w) :
    Calls Tryz.prog 26 #[.string (strL (Hd.HdrP.putL nCT.data.toList X) ++ ⟨#[13, 10]⟩)] w fun e w' => ∃ a n c y, e = .returned (.tuple #[.slice a n c, .int .i64 y]) ∧ (∀ W, Hid (Below w'.heap.size w' W) → Calls Tryz.prog 28 #[.slice a n c, .string nct] W fun e W' => e = .returned (.tuple #[.string (strL X), .bool true]) ∧ Below W.heap.size W W') ∧ Below w.heap.size w w' := by
  have hle := Hd.put_le ct_right X
  have hz : (strL (Hd.HdrP.putL nCT.data.toList X) ++ (⟨#[13, 10]⟩ : ByteArray)).size ≤ 3700000 := by
    rw [ByteArray.size_append, strL_size]
    have : nCT.data.toList.length = 12 := by decide
    show _ + 2 ≤ _
    omega
  have hl : (strL (Hd.HdrP.putL nCT.data.toList X) ++ (⟨#[13, 10]⟩ : ByteArray)).data.toList = Hd.HdrP.putL nCT.data.toList X ++ [13, 10] := by rw [list_append, strL_list]
  have h := Hd.parse_any (strL (Hd.HdrP.putL nCT.data.toList X) ++ (⟨#[13, 10]⟩ : ByteArray)) (by omega) w hd
  have hfs := Hd.fields_small (Hd.HdrP.putL nCT.data.toList X ++ [13, 10])
  have hone := Hd.one_field ct_right X
  have hget := fold_get nCT.data.toList nct.data.toList ct_right ct_low X hcl
  rw [size_list, hl] at hz
  rw [hl] at h
  refine h.mono fun e w' ⟨a, c, h1, h2, h3⟩ => ⟨a, _, c, _, h1, fun W hb => ?_, h3⟩
  have hg := Hd.get_any _ _ nct W (h2.step hb.out).has (by rw [hone]; omega) (fun f hf => by have := hfs f hf; omega)
  rw [hget] at hg
  exact hg
theorem hd_below {w w' : World} (h : Hd.Vars w) (hb : Below w.heap.size w w') : Hd.Vars w' := by
  obtain ⟨m, hm⟩ := h
  exact ⟨m, cell_below hm hb⟩
set_option maxRecDepth 100000 in
set_option maxHeartbeats 8000000 in
theorem folds_any (K S : ByteArray) (v : Value) (l : List (List UInt8 × List UInt8)) (hz : K.size + S.size + (l.map fun p => p.1.length + p.2.length).sum ≤ 1048576) (w : World) (h : HasP w v l) (hv : Vr w) (hd : Hd.Vars w) :
    Calls Tryz.prog 7 #[.agg #[.string K, .string S, v]] w fun e w' => e = .returned (.bool true) ∧ Below w.heap.size w w' := by
  obtain ⟨a, c, rfl⟩ := h.form
  obtain ⟨m, hm⟩ : ∃ m, l.length = m := ⟨_, rfl⟩
  have hsum : ∀ p ∈ l, p.1.length + p.2.length ≤ 1048576 := fun p hp => by
    have : p.1.length + p.2.length ≤ (l.map fun p => p.1.length + p.2.length).sum := le_sum hp
    omega
  have cR := fun W (hx : Hid (HasP W (.slice a l.length c) l)) (hv : Hid (Vr W)) => right_any K S (.slice a l.length c) l (by omega) (by omega) (fun p hp => by have := hsum p hp; omega) W hx.out hv.out
  rw [hm] at h cR ⊢
  have HM := Lib.hid hm
  obtain ⟨R, hR⟩ : ∃ R, rightB K.data.toList S.data.toList l = R := ⟨_, rfl⟩
  rw [hR] at cR
  obtain ⟨W0, hW0⟩ : ∃ W0, w.alloc (.cells #[.string K, .string S, .slice a m c] 26) = W0 := ⟨_, rfl⟩
  have HW0 := Lib.hid hW0
  have HB0 := Lib.hid (hW0 ▸ (Below.refl w.heap.size w).alloc (Nat.le_refl _) (.cells #[.string K, .string S, .slice a m c] 26) : Below w.heap.size w W0)
  have HX := Lib.hid (hW0 ▸ tyx_new w K S (.slice a m c) : Tyx W0 w.heap.size K S (.slice a m c))
  have HP := Lib.hid (h.step HB0.out)
  have HV := Lib.hid (hv.below HB0.out)
  have HDV := Lib.hid (fun Q (hb : Below W0.heap.size W0 Q) => hd_below hd (HB0.out.trans (hb.mono HB0.out.size)))
  have cS := small_any W0 HV.out
  rw [← hW0] at cS
  cases R with
  | false =>
    clear hR hW0 h hv hm hsum hz hd
    go_enter Tryz.func7, Tryz.ntmps7
    go_wp2_with (first
      | (go_at_call 8; (with_reducible refine cS.mono ?_); rintro e w1 ⟨rfl, hb1⟩; have HB1 := Lib.hid (HW0.out ▸ hb1 : Below W0.heap.size W0 w1); obtain ⟨y0, y1, y2, _⟩ := (HX.out.step HB1.out).all; clear hb1 cS)
      | (go_at_call 22; (with_reducible refine (cR _ (Lib.hid (HP.out.step HB1.out)) (Lib.hid (HV.out.below HB1.out))).mono ?_); rintro e w2 ⟨rfl, hb2⟩; have HB2 := Lib.hid (HB1.out.trans (hb2.mono HB1.out.size)); clear hb2 cR))
    go_ret
    exact ⟨rfl, HB0.out.trans (HB2.out.mono HB0.out.size)⟩
  | true =>
    obtain ⟨hrc, h20, hval⟩ := right_c hR
    have hn1 := line_less (K.data.toList ++ 47 :: S.data.toList) l hval
    rw [List.length_append, List.length_cons, ← size_list, ← size_list] at hn1
    have cW := fun W (hx : Hid (HasP W (.slice a m c) l)) => write_w K S (.slice a m c) l (fun p hp => by have := hval p hp; omega) (by omega) (by omega) W hx
    have cP := fun W (hv : Hid (Vr W)) => bk_parse K S l hrc (by omega) W hv.out
    have cE := fun W (u : Value) (h1 : Hid (HasP W (.slice a m c) l)) (h2 : Hid (HasP W u l)) => same_eq K S (.slice a m c) u l (by omega) W h1 h2
    have cF := fun W (hd : Hid (Hd.Vars W)) => bk_field (lineW (K.data.toList ++ 47 :: S.data.toList) l) (by omega) (line_clean hrc) W hd.out
    have cU := fun W (hd : Hid (Hd.Vars W)) => Hd.put_good nCT (strL (lineW (K.data.toList ++ 47 :: S.data.toList) l)) (by decide) (by rw [strL_size]; omega) W hd.out ct_right
    rw [strL_list] at cU
    have hPz : (strL (Hd.HdrP.putL nCT.data.toList (lineW (K.data.toList ++ 47 :: S.data.toList) l))).size ≤ 3900000 := by
      have := Hd.put_le ct_right (lineW (K.data.toList ++ 47 :: S.data.toList) l)
      have h12 : nCT.data.toList.length = 12 := by decide
      rw [strL_size]; omega
    rw [hm] at cP
    have hstr : Hd.strL (Hd.HdrP.putL nCT.data.toList (lineW (K.data.toList ++ 47 :: S.data.toList) l)) = strL (Hd.HdrP.putL nCT.data.toList (lineW (K.data.toList ++ 47 :: S.data.toList) l)) := rfl
    rw [hstr] at cU
    have HVL := Lib.hid hval
    have hm20 : m ≤ 20 := by omega
    generalize strL (Hd.HdrP.putL nCT.data.toList (lineW (K.data.toList ++ 47 :: S.data.toList) l)) = PS at cU cF hPz
    generalize strL (lineW (K.data.toList ++ 47 :: S.data.toList) l) = X at cW cP cF cU
    have hcc : PS.size + (⟨#[13, 10]⟩ : ByteArray).size ≤ 4000000 := by show PS.size + 2 ≤ _; omega
    clear hR hW0 h hv hm hsum hz hn1 h20 hval hrc hd hstr hPz
    go_enter Tryz.func7, Tryz.ntmps7
    go_wp2_with (first
      | (go_at_call 8; (with_reducible refine cS.mono ?_); rintro e w1 ⟨rfl, hb1⟩; have HB1 := Lib.hid (HW0.out ▸ hb1 : Below W0.heap.size W0 w1); obtain ⟨y0, y1, y2, _⟩ := (HX.out.step HB1.out).all; clear hb1 cS)
      | (go_at_call 22; (with_reducible refine (cR _ (Lib.hid (HP.out.step HB1.out)) (Lib.hid (HV.out.below HB1.out))).mono ?_); rintro e w2 ⟨rfl, hb2⟩; have HB2 := Lib.hid (HB1.out.trans (hb2.mono HB1.out.size)); clear y0 y1 y2 hb2 cR))
    go_loopw [4] (fun i wr => ∃ k : Nat, k ≤ m ∧ i = .int .i64 k ∧ Hid (Below W0.heap.size W0 wr)) (fun i _ => m - (intOf i).toNat)
    case atStart => exact ⟨0, Nat.zero_le _, rfl, HB2⟩
    case round =>
      obtain ⟨k, hk, rfl, HB⟩ := hrel
      have F1 : IntKind.i64.wrap ((k : Int) + 1) = (k : Int) + 1 := by rw [IntKind.wrap_i64]; omega
      obtain ⟨y0, y1, y2, _⟩ := (HX.out.step HB.out).all
      by_cases hlt : k < m
      · have hlt' : (k : Int) < (m : Int) := by omega
        obtain ⟨g, o, rfl, hfa⟩ := HP.out.at (by omega)
        obtain ⟨p, hp⟩ : ∃ p, l[k]? = some p := ⟨_, List.getElem?_eq_getElem (by rw [HM.out]; exact hlt)⟩
        have p1 := (hfa.step HB.out k p hp).2
        have hV : (strL p.2).size ≤ 2000 := by rw [strL_size]; exact HVL.out p (List.mem_of_getElem? hp)
        generalize strL p.2 = V at p1 hV
        obtain ⟨n, hn⟩ : ∃ n, V.size = n := ⟨_, rfl⟩
        rw [hn] at hV
        clear hfa hp
        go_wp2_with fail
        clear y0 y1 y2 p1
        go_loopw [6] (fun i wq => ∃ j : Nat, j ≤ n ∧ i = .int .i64 j ∧ Hid (Below W0.heap.size W0 wq)) (fun i _ => n - (intOf i).toNat)
        case atStart => exact ⟨0, Nat.zero_le _, rfl, HB⟩
        case round =>
          obtain ⟨j, hj, rfl, HE⟩ := hrel
          have F2 : IntKind.i64.wrap ((j : Int) + 1) = (j : Int) + 1 := by rw [IntKind.wrap_i64]; omega
          by_cases hjl : j < n
          · have hjl' : (j : Int) < (n : Int) := by omega
            obtain ⟨b, x, hc, hx, hx2, S1⟩ := run_byte V j (by rw [hn]; exact hjl)
            clear hc hx
            by_cases h32 : x = 32
            · subst h32
              by_cases hj0 : j = 0
              · have hz1 : ((j : Int) == 0) = true := by rw [beq_iff_eq]; omega
                have hz2 : decide ((j : Int) = 0) = true := by rw [decide_eq_true_eq]; omega
                clear hj0
                go_wp2_with fail
                go_ret
                exact ⟨rfl, HB0.out.trans (HE.out.mono HB0.out.size)⟩
              · have hz1 : ((j : Int) == 0) = false := by rw [beq_eq_false_iff_ne]; omega
                have hz2 : decide ((j : Int) = 0) = false := by rw [decide_eq_false_iff_not]; omega
                by_cases hjn : j + 1 = n
                · have hz3 : ((j : Int) + 1 == (n : Int)) = true := by rw [beq_iff_eq]; omega
                  have hz4 : decide ((j : Int) + 1 = (n : Int)) = true := by rw [decide_eq_true_eq]; omega
                  clear hjn hj0
                  go_wp2_with fail
                  go_ret
                  exact ⟨rfl, HB0.out.trans (HE.out.mono HB0.out.size)⟩
                · have hz3 : ((j : Int) + 1 == (n : Int)) = false := by rw [beq_eq_false_iff_ne]; omega
                  have hz4 : decide ((j : Int) + 1 = (n : Int)) = false := by rw [decide_eq_false_iff_not]; omega
                  have F3 : IntKind.i64.wrap ((j : Int) - 1) = ((j - 1 : Nat) : Int) := by rw [IntKind.wrap_i64]; omega
                  obtain ⟨b2, x2, hc2, hxx2, hxx3, S2⟩ := run_byte V (j - 1) (by rw [hn]; omega)
                  clear hc2 hxx2 hjn hj0
                  by_cases h33 : x2 = 32
                  · subst h33
                    go_wp2_with fail
                    go_ret
                    exact ⟨rfl, HB0.out.trans (HE.out.mono HB0.out.size)⟩
                  · have h33' : ¬ (x2 : Int) = 32 := by omega
                    clear h33
                    go_wp2_with fail
                    go_roundw
                    case rel => exact ⟨j + 1, by omega, by go_num, HE⟩
                    case measure => simp [intOf]; omega
            · have h32' : ¬ (x : Int) = 32 := by omega
              clear h32
              go_wp2_with fail
              go_roundw
              case rel => exact ⟨j + 1, by omega, by go_num, HE⟩
              case measure => simp [intOf]; omega
          · have hjl' : ¬ (j : Int) < (n : Int) := by omega
            go_wp2_with fail
            go_roundw
            case rel => exact ⟨k + 1, by omega, by go_num, HE⟩
            case measure => simp [intOf]; omega
      · have hlt' : ¬ (k : Int) < (m : Int) := by omega
        have HP1 := Lib.hid (HP.out.step HB.out)
        go_wp2_with (first
          | (go_at_call 18; (with_reducible refine (cW _ HP1).mono ?_); rintro e w3 ⟨rfl, hb3⟩; have HB3 := Lib.hid (HB.out.trans (hb3.mono HB.out.size)); clear y0 y1 y2 hb3 cW)
          | (go_at_call 27; (with_reducible refine (cU _ (Lib.hid (HDV.out _ HB3.out))).mono ?_); rintro e w4 ⟨rfl, hb4⟩; have HB4 := Lib.hid (HB3.out.trans (hb4.mono HB3.out.size)); clear hb4 cU)
          | (go_at_call 26; (with_reducible refine (cF _ (Lib.hid (HDV.out _ HB4.out))).mono ?_); rintro e w5 ⟨a5, n5, c5, z5, rfl, hg5, hb5⟩; have HB5 := Lib.hid (HB4.out.trans (hb5.mono HB4.out.size)); clear hb5 cF)
          | (go_at_call 28; (with_reducible refine (hg5 _ (Lib.hid (Below.refl _ _))).mono ?_); rintro e w6 ⟨rfl, hb6⟩; have HB6 := Lib.hid (HB5.out.trans (hb6.mono HB5.out.size)); clear hb6 hg5)
          | (go_at_call 10; (with_reducible refine (cP _ (Lib.hid (HV.out.below HB6.out))).mono ?_); rintro e w7 ⟨a7, c7, rfl, hp7, hb7⟩; have HB7 := Lib.hid (HB6.out.trans (hb7.mono HB6.out.size)); have hbb := (Below.refl w7.heap.size w7).alloc (Nat.le_refl _) (.cells #[.string K, .string S, .slice a7 m c7] 26); have HB8 := Lib.hid (HB7.out.trans (hbb.mono HB7.out.size)); have HP8 := Lib.hid (hp7.step hbb); obtain ⟨z0, z1, z2, _⟩ := (tyx_new w7 K S (.slice a7 m c7)).all; obtain ⟨y0, y1, y2, _⟩ := (HX.out.step HB8.out).all; clear hp7 hb7 hbb cP)
          | (go_at_call 16; (with_reducible refine (cE _ _ (Lib.hid (HP.out.step HB8.out)) HP8).mono ?_); rintro e w9 ⟨rfl, hb9⟩; have HB9 := Lib.hid (HB8.out.trans (hb9.mono HB8.out.size)); clear hb9 cE))
        go_ret
        exact ⟨rfl, HB0.out.trans (HB9.out.mono HB0.out.size)⟩
end Go.Proofs.YtdinachiiimngaaGreatDoor
namespace Go.Proofs.YtdinachiiimngaaGreatDoor
open Go.ChangeShapes Go.WideShapes Go.ChangeAt Go.RowKit
open TokP AdrP CtP

theorem hexd_facts : ∀ n : Fin 256, Nu.hexL [UInt8.ofNat n.val] = [CtP.hexD ((UInt8.ofNat n.val).toNat / 16), CtP.hexD ((UInt8.ofNat n.val).toNat % 16)] := by decide +kernel
theorem hexd_all (c : UInt8) : Nu.hexL [c] = [CtP.hexD (c.toNat / 16), CtP.hexD (c.toNat % 16)] :=
  byte_all (P := fun c => Nu.hexL [c] = [CtP.hexD (c.toNat / 16), CtP.hexD (c.toNat % 16)]) hexd_facts c
theorem escA_len (s : List UInt8) : (escA s).length = 3 * s.length := by
  unfold escA
  induction s with
  | nil => rfl
  | cons c s ih => rw [List.flatMap_cons, List.length_append, ih, List.length_cons]; simp [escB]; omega
theorem escA_step {l : List UInt8} {k : Nat} {c : UInt8} (h : l[k]? = some c) : escA (l.take (k + 1)) = escA (l.take k) ++ escB c := by
  unfold escA
  rw [List.take_add_one, h, Option.toList_some, List.flatMap_append, List.flatMap_singleton]
set_option maxRecDepth 100000 in
set_option maxHeartbeats 4000000 in
theorem escaped_any (s : ByteArray) (hs : s.size ≤ 300) (w : World) :
    Calls Tryz.prog 24 #[.string s] w fun e w' => e = .returned (.string (strL (escA s.data.toList))) ∧ Below w.heap.size w w' := by
  obtain ⟨n, hn⟩ : ∃ n, s.size = n := ⟨_, rfl⟩
  have HL := Lib.hid (size_list s)
  rw [hn] at hs
  go_enter Tryz.func24, Tryz.ntmps24
  go_wp2_with fail
  go_loopw [3, 4] (fun o i wr => ∃ (k : Nat) (T : ByteArray), k ≤ n ∧ o = .string T ∧ i = .int .i64 k ∧ T.size ≤ 3 * k ∧ Hid (T = strL (escA (s.data.toList.take k))) ∧ Hid (Below w.heap.size w wr)) (fun _ i _ => n - (intOf i).toNat)
  case atStart => exact ⟨0, ⟨#[]⟩, Nat.zero_le _, rfl, rfl, Nat.zero_le _, Lib.hid rfl, Lib.hid (Below.refl _ _)⟩
  case round =>
    obtain ⟨k, T, hk, rfl, rfl, hTz, HT, HB⟩ := hrel
    have F1 : IntKind.i64.wrap ((k : Int) + 1) = (k : Int) + 1 := by rw [IntKind.wrap_i64]; omega
    by_cases hlt : k < n
    · have hlt' : (k : Int) < (n : Int) := by omega
      obtain ⟨c, x, hc, hx, hx2, S1⟩ := run_byte s k (by rw [hn]; exact hlt)
      have R1 := run_slice_str s k (k + 1) ((k : Int) + 1) (by omega) (by omega) (by omega)
      rw [show s.extract k (k + 1) = strL [c] by
        rw [part_of s k (k + 1) (by omega) (by omega), cons_at _ k c hc]
        congr 1
        rw [show k + 1 - k = 1 by omega]; rfl] at R1
      have cX := fun W => Nu.hex_any (strL [c]) (by rw [strL_size]; simp) W
      rw [strL_list, hexd_all] at cX
      have HG := Lib.hid (show (T ++ (⟨#[37]⟩ : ByteArray)) ++ strL [CtP.hexD (c.toNat / 16), CtP.hexD (c.toNat % 16)] = strL (escA (s.data.toList.take (k + 1))) by
        rw [HT.out, escA_step hc]
        exact bytes_is (by rw [list_append, list_append]; simp [strL_list, escB]))
      have hz2 : (strL [CtP.hexD (c.toNat / 16), CtP.hexD (c.toNat % 16)]).size = 2 := strL_size _
      have hX : (⟨[CtP.hexD (c.toNat / 16), CtP.hexD (c.toNat % 16)].toArray⟩ : ByteArray) = strL [CtP.hexD (c.toNat / 16), CtP.hexD (c.toNat % 16)] := rfl
      rw [hX] at cX
      generalize strL [CtP.hexD (c.toNat / 16), CtP.hexD (c.toNat % 16)] = X at cX HG hz2
      have hy1 : T.size + (⟨#[37]⟩ : ByteArray).size ≤ 1000 := by show T.size + 1 ≤ _; omega
      have hy2 : (T ++ (⟨#[37]⟩ : ByteArray)).size + X.size ≤ 1000 := by rw [ByteArray.size_append]; show T.size + 1 + X.size ≤ _; omega
      have hy3 : ((T ++ (⟨#[37]⟩ : ByteArray)) ++ X).size ≤ 3 * (k + 1) := by rw [ByteArray.size_append, ByteArray.size_append]; show T.size + 1 + X.size ≤ _; omega
      generalize strL [c] = X0 at R1 cX
      clear hc hx hx2 hX HT hz2
      go_wp2_with (go_at_call 52; (with_reducible refine (cX _).mono ?_); rintro e w2 ⟨rfl, hb2⟩; have HB2 := Lib.hid (HB.out.trans (hb2.mono HB.out.size)); clear hb2 cX)
      go_roundw
      case rel => exact ⟨k + 1, _, by omega, rfl, by go_num, hy3, HG, HB2⟩
      case measure => simp [intOf]; omega
    · obtain rfl : k = n := by omega
      have hlt' : ¬ (k : Int) < (k : Int) := by omega
      have ht := HT.out
      rw [List.take_of_length_le (by rw [← HL.out, hn]; exact Nat.le_refl _)] at ht
      have HT2 := Lib.hid ht
      clear ht HT
      go_wp2_with fail
      go_ret
      exact ⟨congrArg (fun z => Ending.returned (Value.string z)) HT2.out, HB.out⟩
/-- A slice of integers. -/
def HasI (w : World) (v : Value) (xs : List Int) : Prop := ((∃ a c, v = .slice a 0 c) ∧ xs = []) ∨ ∃ g o c, v = .slice (some ⟨g, o, none⟩) xs.length c ∧ ∀ (i : Nat) (x : Int), xs[i]? = some x → w.cell? ⟨g, o + i, none⟩ = some (.int .i64 x)
theorem HasI.form {w : World} {v : Value} {xs : List Int} (h : HasI w v xs) : ∃ a c, v = .slice a xs.length c := by
  rcases h with ⟨⟨a, c, rfl⟩, rfl⟩ | ⟨g, o, c, rfl, _⟩
  · exact ⟨a, c, rfl⟩
  · exact ⟨_, _, rfl⟩
theorem HasI.at {w : World} {a : Option Addr} {n c : Nat} {xs : List Int} (h : HasI w (.slice a n c) xs) (hn : 0 < n) : ∃ g o, a = some ⟨g, o, none⟩ ∧ ∀ (i : Nat) (x : Int), xs[i]? = some x → w.cell? ⟨g, o + i, none⟩ = some (.int .i64 x) := by
  rcases h with ⟨⟨a', c', e⟩, _⟩ | ⟨g, o, c', e, h⟩
  · injection e with _ e _; omega
  · injection e with e _ _; exact ⟨g, o, e, h⟩
def txtF (k : Nat) : List UInt8 := Lib.itoa (k : Int)
theorem txt_facts : ∀ k : Fin 64, numF (txtF k.val) = some k.val ∧ (∀ c ∈ txtF k.val, 48 ≤ c.toNat ∧ c.toNat ≤ 57) ∧ (txtF k.val).length ≤ 2 := by decide +kernel
theorem txt_ok : TxtOk numF txtF := fun k hk => ⟨(txt_facts ⟨k, hk⟩).1, (txt_facts ⟨k, hk⟩).2.1⟩
def flatR (rs : List (Nat × List UInt8)) : List UInt8 := (rs.map (fun x => secW txtF x.1 x.2)).flatMap (fun w => 59 :: 32 :: w)
theorem flatR_cons (k : Nat) (c : List UInt8) (rs : List (Nat × List UInt8)) : flatR ((k, c) :: rs) = (59 :: 32 :: secW txtF k c) ++ flatR rs := by unfold flatR; rw [List.map_cons, List.flatMap_cons]
theorem flatR_snoc (k : Nat) (c : List UInt8) (rs : List (Nat × List UInt8)) : flatR (rs ++ [(k, c)]) = flatR rs ++ (59 :: 32 :: secW txtF k c) := by unfold flatR; rw [List.map_append, List.flatMap_append]; simp
/-- The state behind k sections: a bytes are written, the pieces cs, the rows rs. -/
structure Sst (value : List UInt8) (k a : Nat) (cs : List (List UInt8)) (rs : List (Nat × List UInt8)) : Prop where
  len : cs.length = k
  flat : cs.flatten = value.take a
  nd : (rs.map Prod.fst).Nodup
  mem : ∀ j c, (j, c) ∈ rs ↔ cs[j]? = some c
theorem Sst.next {value : List UInt8} {k a b : Nat} {cs : List (List UInt8)} {rs rs' : List (Nat × List UInt8)} (h : Sst value k a cs rs) (hab : a ≤ b) (hr : rs' = (k, (value.drop a).take (b - a)) :: rs ∨ rs' = rs ++ [(k, (value.drop a).take (b - a))]) : Sst value (k + 1) b (cs ++ [(value.drop a).take (b - a)]) rs' := by
  have hk : k ∉ rs.map Prod.fst := fun hm => by
    obtain ⟨x, hx, hxk⟩ := List.mem_map.1 hm
    have h1 := (h.mem x.1 x.2).1 hx
    have := (List.getElem?_eq_some_iff.1 h1).1
    rw [h.len, hxk] at this
    omega
  have hget : ∀ j c, (cs ++ [(value.drop a).take (b - a)])[j]? = some c ↔ cs[j]? = some c ∨ (j = k ∧ c = (value.drop a).take (b - a)) := fun j c => by
    by_cases hj : j < cs.length
    · rw [List.getElem?_append_left hj]
      exact ⟨.inl, fun h1 => h1.elim id (fun h2 => by rw [h.len] at hj; omega)⟩
    · rw [List.getElem?_append_right (by omega)]
      by_cases hj2 : j = k
      · subst hj2
        rw [h.len, Nat.sub_self, List.getElem?_eq_none (l := cs) (by rw [h.len]; exact Nat.le_refl _)]
        simp [eq_comm]
      · rw [List.getElem?_eq_none (by rw [h.len] at hj ⊢; simp; omega), List.getElem?_eq_none (l := cs) (by omega)]
        simp [hj2]
  refine ⟨by rw [List.length_append, h.len]; rfl, ?_, ?_, fun j c => ?_⟩
  · rw [List.flatten_append, h.flat, List.flatten_singleton]
    conv => rhs; rw [show b = a + (b - a) by omega]
    rw [List.take_add]
  · rcases hr with rfl | rfl
    · rw [List.map_cons, List.nodup_cons]; exact ⟨hk, h.nd⟩
    · rw [List.map_append, List.nodup_append]
      refine ⟨h.nd, by simp, fun x hx y hy => ?_⟩
      simp at hy
      rintro rfl
      exact hk (hy ▸ hx)
  · rw [hget, ← h.mem]
    rcases hr with rfl | rfl
    · rw [List.mem_cons, Prod.mk.injEq, or_comm]
    · rw [List.mem_append, List.mem_singleton, Prod.mk.injEq]
end Go.Proofs.YtdinachiiimngaaGreatDoor
