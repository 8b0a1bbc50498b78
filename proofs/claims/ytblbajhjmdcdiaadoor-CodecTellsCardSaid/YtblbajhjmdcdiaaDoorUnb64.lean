/- base64, read. -/
import Derived.Test.YtblbajhjmdcdiaaDoorVals
import Derived.Test.YtblbajhjmdcdiaaDoorUnqp
namespace Go.Proofs.YtblbajhjmdcdiaaDoor
open Go.ChangeShapes Go.WideShapes Go.ChangeAt Go.RowKit

theorem bitvec_nat (n : Nat) : BitVec.ofInt 32 (n : Int) = BitVec.ofNat 32 n := by rw [BitVec.ofInt_natCast]
theorem or_six (a v : Nat) (ha : a < 67108864) (hv : v < 64) : bits .or .u32 (((64 * a : Nat) : Int)) (v : Int) = ((64 * a + v : Nat) : Int) := by
  show IntKind.u32.wrap ((BitVec.ofInt 32 ((64 * a : Nat) : Int) ||| BitVec.ofInt 32 (v : Int)).toNat : Int) = _
  rw [bitvec_nat, bitvec_nat, BitVec.toNat_or, BitVec.toNat_ofNat, BitVec.toNat_ofNat, Nat.mod_eq_of_lt (by omega), Nat.mod_eq_of_lt (by omega)]
  have := Nat.two_pow_add_eq_or_of_lt (i := 6) (b := v) (by omega) a
  rw [show (2 : Nat) ^ 6 * a = 64 * a by omega] at this
  rw [← this, IntKind.wrap_u32]
  omega
theorem pend_is (P v : Nat) (hv : v < 64) : bits .or .u32 (IntKind.u32.wrap ((P : Int) * 64)) (v : Int) = ((P * 64 % 4294967296 + v : Nat) : Int) := by
  have e1 : IntKind.u32.wrap ((P : Int) * 64) = ((64 * (P % 67108864) : Nat) : Int) := by rw [IntKind.wrap_u32]; omega
  rw [e1, or_six _ _ (by omega) hv]
  omega
/-- The bits that are pending. -/
def cnt : Nat → Nat
  | 0 => 0
  | 1 => 6
  | 2 => 4
  | _ => 2
theorem pow0 : (2 : Nat) ^ cnt 0 = 1 := rfl
theorem pow1 : (2 : Nat) ^ cnt 1 = 64 := rfl
theorem pow2 : (2 : Nat) ^ cnt 2 = 16 := rfl
theorem pow3 : (2 : Nat) ^ cnt 3 = 4 := rfl
theorem mach_one (p q v : Nat) (t : List Nat) (h : q % 64 = v) : mach 0 p (v :: t) = mach 1 (q % 64) t := by subst h; rfl
theorem u8_of (n : Nat) (m : Int) (h : m = ((n % 256 : Nat) : Int)) : m = ((UInt8.ofNat n).toNat : Int) := by
  rw [h, UInt8.toNat_ofNat']
theorem valsF_some (c : UInt8) (t : List UInt8) (h : val64 c.toNat < 64) : valsF (c :: t) = val64 c.toNat :: valsF t := by
  show (if _ then _ else _) = _
  rw [if_pos h]
theorem valsF_none (c : UInt8) (t : List UInt8) (h : ¬ val64 c.toNat < 64) : valsF (c :: t) = valsF t := by
  show (if _ then _ else _) = _
  rw [if_neg h]
theorem tw_all : ∀ l : List UInt8, 61 ∉ l → l.takeWhile (· != 61) = l
  | [], _ => rfl
  | c :: t, h => by
    have hc : c ≠ 61 := fun e => h (by simp [e])
    rw [List.takeWhile_cons, if_pos (by simpa using hc), tw_all t (fun e => h (by simp [e]))]
theorem tw_cut (b : List UInt8) : ∀ a : List UInt8, 61 ∉ a → (a ++ 61 :: b).takeWhile (· != 61) = a
  | [], _ => rfl
  | c :: t, h => by
    have hc : c ≠ 61 := fun e => h (by simp [e])
    rw [List.cons_append, List.takeWhile_cons, if_pos (by simpa using hc), tw_cut b t (fun e => h (by simp [e]))]
theorem cut_eq (l : List UInt8) : (Lib.cut l [61]).1 = l.takeWhile (· != 61) := by
  rcases cut_one 61 l with ⟨h, e⟩ | ⟨a, b, e, ha, h⟩
  · rw [e]
    exact (tw_all l h).symm
  · rw [h, e]
    exact (tw_cut b a ha).symm
/-- The byte at k of what is encoded. -/
theorem enc_at (T : ByteArray) (k : Nat) (h : k < T.size) : T.data.toList.drop k = T[k] :: T.data.toList.drop (k + 1) := drop_cons T k h

set_option maxHeartbeats 8000000 in
set_option maxRecDepth 1000000 in
theorem unb64_any (s : ByteArray) (hs : s.size ≤ 1000000) (w : World) (hv : Vars w) :
    Calls Tryd.prog 12 #[.string s] w fun e w' => e = .returned (.string (strL (unb64L s.data.toList))) ∧ Below w.heap.size w w' := by
  have hc := cut_call ⟨#[61]⟩ s (by omega) w hv
  rw [show (⟨#[61]⟩ : ByteArray).data.toList = [61] from rfl] at hc
  have hu : unb64L s.data.toList = mach 0 0 (valsF (Lib.cut s.data.toList [61]).1) := by
    unfold unb64L
    rw [vals_takeWhile, cut_eq]
  have hlen : (Lib.cut s.data.toList [61]).1.length ≤ s.size := by
    rw [cut_eq, size_list]
    exact (List.takeWhile_sublist _).length_le
  obtain ⟨T, hT⟩ : ∃ T, strL (Lib.cut s.data.toList [61]).1 = T := ⟨_, rfl⟩
  have hTl : (Lib.cut s.data.toList [61]).1 = T.data.toList := by rw [← hT]; rfl
  generalize (Lib.cut s.data.toList [61]).2.1 = c2 at hc
  generalize (Lib.cut s.data.toList [61]).2.2 = c3 at hc
  rw [hT] at hc
  rw [hTl] at hu hlen
  rw [← size_list] at hlen
  obtain ⟨ANS, hANS⟩ : ∃ ANS, mach 0 0 (valsF T.data.toList) = ANS := ⟨_, rfl⟩
  rw [hu, hANS]
  have HA := Lib.hid hANS
  have HC := Lib.hid hc
  clear hANS hc hu hT hTl
  obtain ⟨i0, hi, hz0, hz1, hz2⟩ := info_parts info5
  go_enter Tryd.func12, Tryd.ntmps12
  go_wp2_with (first
    | (go_at_call 29; refine HC.out.mono ?_; rintro e w2 ⟨rfl, hb2⟩)
    | (go_at_call 30; refine (values_any _).mono ?_; rintro e w3 ⟨rfl, hb3⟩)
    | refine wpList_store_row rfl 43 _ _ rfl w3.heap.size (tabF val64) rfl rfl 43 _ (Go.heap_alloc_new _ _) (by rw [tabF_size]; kernel_rfl) (by rw [tabF_size]; kernel_rfl) (tabF_one _) ?_
    | (at_make; refine wpList_make_own _ rfl _ _ 25 rfl (w3.heap.size + 1) 5 i0 (.int .u8 0) 1 Tryd.underlying25 hi hz0 hz1 _ _ _ (T.size / 4 * 3 + 3) rfl rfl (by omega) ?b1 ?b2 ?b3 ?_))
  case b1 => rw [hz2]; omega
  case b2 => unfold maxLen; omega
  case b3 => rw [setRow_size, World.size_alloc]; exact Nat.le_refl _
  intro w1 hown hgrow
  have hV0 : Arr ((w3.alloc (.cells Tryd.zeroCells43 43)).setRow w3.heap.size (tabF val64)) w3.heap.size val64 := setRow_heap _ _ _ _ _ _ (Go.heap_alloc_new _ _)
  have hb03 : Below w.heap.size w w3 := Qtrans hb2 hb3
  have hs3 := hb03.size
  have hb4 : Below w.heap.size w ((w3.alloc (.cells Tryd.zeroCells43 43)).setRow w3.heap.size (tabF val64)) := below_setRow (hb03.alloc hs3 _) hs3 _
  have hV1 : Arr w1 w3.heap.size val64 := by
    unfold Arr
    rw [hgrow.block w3.heap.size (by rw [setRow_size, World.size_alloc]; omega) (by simp)]
    exact hV0
  have hb1 : Below w.heap.size w w1 := hb4.grown hgrow (by rw [setRow_size, World.size_alloc]; omega) (fun k h => by cases h)
  have hvb : w.heap.size ≤ w3.heap.size := hs3
  have hsz1 : w3.heap.size + 1 ≤ w1.heap.size := by have := hgrow.size; rw [setRow_size, World.size_alloc] at this; exact this
  clear hV0 hb03 hs3 hb4 hgrow hb2 hb3
  generalize w3.heap.size = V at hown hV1 hvb hsz1
  go_wp2_with fail
  go_loopw [27, 7, 8, 9] (fun i v p c wr => ∃ (k st P : Nat) (out : List UInt8), k ≤ T.size ∧ i = .int .i64 k ∧ p = .int .u32 P ∧ c = .int .i64 (cnt st) ∧ st < 4 ∧ P < 4294967296 ∧
      Hid (wr.ownsRow (V + 1) 5 1 v out.length (cellsOf out)) ∧ Arr wr V val64 ∧ Below w.heap.size w wr ∧ V + 1 ≤ wr.heap.size ∧ Hid (out ++ mach st (P % 2 ^ cnt st) (valsF (T.data.toList.drop k)) = ANS) ∧ out.length ≤ k)
    (fun i _ _ _ _ => T.size - (intOf i).toNat)
  case atStart => exact ⟨0, 0, 0, [], Nat.zero_le _, rfl, rfl, rfl, by omega, by omega, Lib.hid hown, hV1, hb1, hsz1, Lib.hid HA.out, Nat.le_refl _⟩
  case round =>
    clear hown hV1 hb1 hsz1 HA HC
    obtain ⟨k, st, P, out, hk, rfl, rfl, rfl, hst, hP, hown, hV, hb, hsz, hacc, hol⟩ := hrel
    by_cases hlt : k < T.size
    · have hcl : T[k].toNat < 256 := T[k].toNat_lt
      have c0 := hV.cell T[k].toNat hcl
      have hd := enc_at T k hlt
      have hvl := val64_le ⟨T[k].toNat, hcl⟩
      simp only [] at hvl
      by_cases h64 : val64 T[k].toNat = 64
      · have HD := Lib.hid (by rw [hd, valsF_none _ _ (by omega)] : valsF (T.data.toList.drop k) = valsF (T.data.toList.drop (k + 1)))
        rw [h64] at c0
        clear hd hvl h64
        go_wp2_with fail
        go_roundw
        case rel =>
          exact ⟨k + 1, st, P, out, by omega, by go_num, rfl, rfl, hst, hP, hown, hV, hb, hsz, by rw [← HD.out]; exact hacc, by omega⟩
        case measure => simp [intOf]; omega
      · have HD := Lib.hid (by rw [hd, valsF_some _ _ (by omega)] : valsF (T.data.toList.drop k) = val64 T[k].toNat :: valsF (T.data.toList.drop (k + 1)))
        clear hd
        generalize val64 T[k].toNat = v at c0 hvl h64 HD
        have hv6 : v < 64 := by omega
        have e64 : ((v : Int) == 64) = false := by rw [beq_eq_false_iff_ne]; omega
        have ev : IntKind.u32.wrap (v : Int) = (v : Int) := by rw [IntKind.wrap_u32]; omega
        obtain ⟨P2, hP2⟩ : ∃ P2, P * 64 % 4294967296 + v = P2 := ⟨_, rfl⟩
        have pend := pend_is P v hv6
        rw [hP2] at pend
        have pend' : bits .or .u32 ((P : Int) * 64 % 4294967296) (v : Int) = (P2 : Int) := by rw [IntKind.wrap_u32] at pend; exact pend
        have hP3 : P2 < 4294967296 := by omega
        rcases (show st = 0 ∨ st = 1 ∨ st = 2 ∨ st = 3 by omega) with rfl | rfl | rfl | rfl
        · simp only [cnt]
          have hm : P2 % 64 = v := by omega
          go_wp2_with fail
          go_roundw
          case rel =>
            refine ⟨k + 1, 1, P2, out, by omega, by go_num, rfl, rfl, by omega, hP3, hown, hV, hb, hsz, Lib.hid ?_, by omega⟩
            rw [← hacc.out, HD.out]
            show _ = out ++ mach 1 v _
            rw [← hm]
            rfl
          case measure => simp [intOf]; omega
        · simp only [cnt]
          obtain ⟨q, hq⟩ : ∃ q, UInt8.ofNat (P % 64 * 4 + v / 16) = q := ⟨_, rfl⟩
          have hby : (P2 : Int) / 16 % 256 = (q.toNat : Int) := by rw [← hq]; exact u8_of _ _ (by omega)
          have hm : P2 % 16 = v % 16 := by omega
          have hrec : mach 1 (P % 2 ^ cnt 1) (v :: valsF (T.data.toList.drop (k + 1))) = q :: mach 2 (P2 % 2 ^ cnt 2) (valsF (T.data.toList.drop (k + 1))) := by
            rw [← hq, pow1]
            show UInt8.ofNat _ :: mach 2 _ _ = UInt8.ofNat _ :: mach 2 (P2 % 16) _
            rw [hm]
          have HR := Lib.hid hrec
          clear hrec hq hm
          go_wp2_with (at_builtin; refine wpList_append_own _ rfl _ _ 25 rfl (V + 1) 5 i0 (.int .u8 0) 1 1 Tryd.underlying25 hi hz0 hz1 hz2 rfl (by decide) _ _ _ rfl (World.ownsRow.alloc hown.out _) ⟨wr.heap.size, 0, none⟩ 1 1 (cellsOf [q]) rfl rfl (bytes_new wr [q]) (cellsOf_one _) ?c3 ?c4 ?c5 ?_)
          case c3 => unfold maxLen; omega
          case c4 => omega
          case c5 => rw [World.size_alloc]; omega
          intro v' w2' hown2 hgrow2 _
          have hneV : v'.ownBlock = v'.ownBlock := rfl
          have hV2 : Arr w2' V val64 := by
            unfold Arr
            rw [hgrow2.block V (by rw [World.size_alloc]; omega) (fun e => by have := (hown.out.lt V e.symm).1; omega)]
            rw [((Below.refl wr.heap.size wr).alloc (Nat.le_refl _) _).block V (by omega)]
            exact hV
          have hb2' : Below w.heap.size w w2' := (hb.alloc hb.size _).grown hgrow2 (by rw [World.size_alloc]; have := hb.size; omega) (fun j hj => by have := (hown.out.lt j hj).1; omega)
          have hsz2 : V + 1 ≤ w2'.heap.size := by have := hgrow2.size; rw [World.size_alloc] at this; omega
          go_wp2
          go_roundw
          case rel =>
            refine ⟨k + 1, 2, P2, out ++ [q], by omega, by go_num, rfl, rfl, by omega, hP3, Lib.hid ?_, hV2, hb2', hsz2, Lib.hid ?_, by simp only [List.length_append, List.length_cons, List.length_nil]; omega⟩
            · rw [List.length_append]
              unfold cellsOf at hown2 ⊢
              rw [List.map_append]
              exact hown2
            · rw [← hacc.out, HD.out, HR.out]
              simp [pow0, pow2, pow3]
          case measure => simp [intOf]; omega
        · simp only [cnt]
          obtain ⟨q, hq⟩ : ∃ q, UInt8.ofNat (P % 16 * 16 + v / 4) = q := ⟨_, rfl⟩
          have hby : (P2 : Int) / 4 % 256 = (q.toNat : Int) := by rw [← hq]; exact u8_of _ _ (by omega)
          have hm : P2 % 4 = v % 4 := by omega
          have hrec : mach 2 (P % 2 ^ cnt 2) (v :: valsF (T.data.toList.drop (k + 1))) = q :: mach 3 (P2 % 2 ^ cnt 3) (valsF (T.data.toList.drop (k + 1))) := by
            rw [← hq, pow2]
            show UInt8.ofNat _ :: mach 3 _ _ = UInt8.ofNat _ :: mach 3 (P2 % 4) _
            rw [hm]
          have HR := Lib.hid hrec
          clear hrec hq hm
          go_wp2_with (at_builtin; refine wpList_append_own _ rfl _ _ 25 rfl (V + 1) 5 i0 (.int .u8 0) 1 1 Tryd.underlying25 hi hz0 hz1 hz2 rfl (by decide) _ _ _ rfl (World.ownsRow.alloc hown.out _) ⟨wr.heap.size, 0, none⟩ 1 1 (cellsOf [q]) rfl rfl (bytes_new wr [q]) (cellsOf_one _) ?c3 ?c4 ?c5 ?_)
          case c3 => unfold maxLen; omega
          case c4 => omega
          case c5 => rw [World.size_alloc]; omega
          intro v' w2' hown2 hgrow2 _
          have hneV : v'.ownBlock = v'.ownBlock := rfl
          have hV2 : Arr w2' V val64 := by
            unfold Arr
            rw [hgrow2.block V (by rw [World.size_alloc]; omega) (fun e => by have := (hown.out.lt V e.symm).1; omega)]
            rw [((Below.refl wr.heap.size wr).alloc (Nat.le_refl _) _).block V (by omega)]
            exact hV
          have hb2' : Below w.heap.size w w2' := (hb.alloc hb.size _).grown hgrow2 (by rw [World.size_alloc]; have := hb.size; omega) (fun j hj => by have := (hown.out.lt j hj).1; omega)
          have hsz2 : V + 1 ≤ w2'.heap.size := by have := hgrow2.size; rw [World.size_alloc] at this; omega
          go_wp2
          go_roundw
          case rel =>
            refine ⟨k + 1, 3, P2, out ++ [q], by omega, by go_num, rfl, rfl, by omega, hP3, Lib.hid ?_, hV2, hb2', hsz2, Lib.hid ?_, by simp only [List.length_append, List.length_cons, List.length_nil]; omega⟩
            · rw [List.length_append]
              unfold cellsOf at hown2 ⊢
              rw [List.map_append]
              exact hown2
            · rw [← hacc.out, HD.out, HR.out]
              simp [pow0, pow2, pow3]
          case measure => simp [intOf]; omega
        · simp only [cnt]
          obtain ⟨q, hq⟩ : ∃ q, UInt8.ofNat (P % 4 * 64 + v) = q := ⟨_, rfl⟩
          have hby : (P2 : Int) % 256 = (q.toNat : Int) := by rw [← hq]; exact u8_of _ _ (by omega)
          have hm : P2 % 1 = 0 := by omega
          have hrec : mach 3 (P % 2 ^ cnt 3) (v :: valsF (T.data.toList.drop (k + 1))) = q :: mach 0 (P2 % 2 ^ cnt 0) (valsF (T.data.toList.drop (k + 1))) := by
            rw [← hq, pow3]
            show UInt8.ofNat _ :: mach 0 _ _ = UInt8.ofNat _ :: mach 0 (P2 % 1) _
            rw [hm]
          have HR := Lib.hid hrec
          clear hrec hq hm
          go_wp2_with (at_builtin; refine wpList_append_own _ rfl _ _ 25 rfl (V + 1) 5 i0 (.int .u8 0) 1 1 Tryd.underlying25 hi hz0 hz1 hz2 rfl (by decide) _ _ _ rfl (World.ownsRow.alloc hown.out _) ⟨wr.heap.size, 0, none⟩ 1 1 (cellsOf [q]) rfl rfl (bytes_new wr [q]) (cellsOf_one _) ?c3 ?c4 ?c5 ?_)
          case c3 => unfold maxLen; omega
          case c4 => omega
          case c5 => rw [World.size_alloc]; omega
          intro v' w2' hown2 hgrow2 _
          have hneV : v'.ownBlock = v'.ownBlock := rfl
          have hV2 : Arr w2' V val64 := by
            unfold Arr
            rw [hgrow2.block V (by rw [World.size_alloc]; omega) (fun e => by have := (hown.out.lt V e.symm).1; omega)]
            rw [((Below.refl wr.heap.size wr).alloc (Nat.le_refl _) _).block V (by omega)]
            exact hV
          have hb2' : Below w.heap.size w w2' := (hb.alloc hb.size _).grown hgrow2 (by rw [World.size_alloc]; have := hb.size; omega) (fun j hj => by have := (hown.out.lt j hj).1; omega)
          have hsz2 : V + 1 ≤ w2'.heap.size := by have := hgrow2.size; rw [World.size_alloc] at this; omega
          go_wp2
          go_roundw
          case rel =>
            refine ⟨k + 1, 0, P2, out ++ [q], by omega, by go_num, rfl, rfl, by omega, hP3, Lib.hid ?_, hV2, hb2', hsz2, Lib.hid ?_, by simp only [List.length_append, List.length_cons, List.length_nil]; omega⟩
            · rw [List.length_append]
              unfold cellsOf at hown2 ⊢
              rw [List.map_append]
              exact hown2
            · rw [← hacc.out, HD.out, HR.out]
              simp [pow0, pow2, pow3]
          case measure => simp [intOf]; omega
    · have hk2 : k = T.size := by omega
      have hend : out = ANS := by
        rw [← hacc.out, List.drop_eq_nil_of_le (by rw [← size_list]; omega)]
        simp [valsF, mach]
      subst hend
      have hcv := conv_any rfl hown.out
      clear hacc
      go_wp2_with fail
      go_ret
      exact ⟨rfl, hb⟩
end Go.Proofs.YtblbajhjmdcdiaaDoor
