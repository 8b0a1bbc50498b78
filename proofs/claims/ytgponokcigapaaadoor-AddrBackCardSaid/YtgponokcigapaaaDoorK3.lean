/- unescaped: a text without its escapes and line breaks. Value: what a token says. The contracts of the library's functions that this proof uses, stated in this translation's numbers. The program's dotted: words between dots. The program's unblanked and host: the domain of an addr-spec. The program's host and spec. The program's spec: an addr-spec. The contracts of strings.Builder's methods that say which other memory is kept. A strings.Builder beside newer memory: what its methods leave as it was. The program's unrouted and display: what stands behind a route; the name in front of an address. The program's quoted. -/
import Derived.Test.YtgponokcigapaaaDoorK2
import Derived.Shelf.Unicode.DecodeSlow
import Derived.Shelf.Slices.Turned
import Derived.Test.YtgponokcigapaaaDoorProg
import Derived.Laws.ResultCell
import Derived.Shelf.Strings.BuilderF
import Derived.Shelf.Strings.BuilderK
import Derived.Test.YtgponokcigapaaaDoorK1
import Derived.Lib.OthersKept
namespace Go.Proofs.YtgponokcigapaaaDoor
open Go.ChangeShapes Go.WideShapes Go.ChangeAt Go.RowKit
open TokP

/-- The builder in block b holds O, all older memory lies as it lay. -/
structure Ub (w0 w : World) (b : Nat) (O : List UInt8) : Prop where
  bd : Bd w b O
  bel : Below b w0 w
theorem Ub.put {w0 w w' : World} {b : Nat} {O O' : List UInt8} (h : Ub w0 w b O) (hb : Bd w' b O') (hk : Below b w w') : Ub w0 w' b O' := ⟨hb, h.bel.trans hk⟩
theorem ub_first (w : World) : Ub w (w.alloc (.cells #[.pointer none, .slice none 0 0] 59)) w.heap.size [] := ⟨bd_first w, (Below.refl _ w).alloc (Nat.le_refl _) _⟩
theorem Ub.byte {w0 w : World} {b : Nat} {O : List UInt8} (h : Ub w0 w b O) (c : UInt8) (x : Nat) (hx : c.toNat = x) (hO : O.length ≤ 4000000) :
    Calls Tryd.prog 72 #[.pointer (some ⟨b, 0, none⟩), .int .u8 x] w fun e w' => e = .returned .nilIface ∧ Ub w0 w' b (O ++ [c]) := by
  subst hx
  exact (bd_byte c b O w h.bd (by omega)).mono fun _ _ hh => ⟨hh.1, h.put hh.2.1 hh.2.2⟩
theorem Ub.out {w0 w : World} {b : Nat} {O : List UInt8} (h : Ub w0 w b O) :
    Calls Tryd.prog 41 #[.pointer (some ⟨b, 0, none⟩)] w fun e w' => e = .returned (.string (strL O)) ∧ Below b w0 w' :=
  (bd_out b O w h.bd).mono fun _ _ hh => ⟨hh.1, h.bel.trans hh.2⟩
set_option maxRecDepth 100000 in
set_option maxHeartbeats 2000000 in
theorem unesc_any (s : ByteArray) (hs : s.size ≤ 1000000) (w : World) :
    Calls Tryd.prog 84 #[.string s] w fun e w' => e = .returned (.string (strL (unescS false s.data.toList))) ∧ Below w.heap.size w w' := by
  obtain ⟨n, hn⟩ : ∃ n, s.size = n := ⟨_, rfl⟩
  have HL := Lib.hid (size_list s)
  rw [hn] at hs
  have HN := Lib.hid hn
  clear hn
  obtain ⟨R, hR⟩ : ∃ R, unescS false s.data.toList = R := ⟨_, rfl⟩
  have HR := Lib.hid hR
  rw [hR]
  clear hR
  have HST := Lib.hid (ub_first w)
  go_enter Tryd.func84, Tryd.ntmps84
  go_wp2_with fail
  go_loopw [4] (fun i wr => ∃ (k : Nat) (O : List UInt8), k ≤ n + 1 ∧ i = .int .i64 k ∧ O.length ≤ k ∧ Hid (O ++ unescS false (s.data.toList.drop k) = R) ∧ Hid (Ub w wr w.heap.size O)) (fun i _ => n + 1 - (intOf i).toNat)
  case atStart => exact ⟨0, [], by omega, rfl, Nat.le_refl _, Lib.hid HR.out, HST⟩
  case round =>
    obtain ⟨k, O, hk, rfl, hO, HE, HU⟩ := hrel
    have F1 : IntKind.i64.wrap ((k : Int) + 1) = (k : Int) + 1 := by rw [IntKind.wrap_i64]; omega
    have F2 : IntKind.i64.wrap ((k : Int) + 1 + 1) = (k : Int) + 1 + 1 := by rw [IntKind.wrap_i64]; omega
    have hn : s.size = n := HN.out
    by_cases hlt : k < n
    · have hlt' : (k : Int) < (n : Int) := by omega
      obtain ⟨c, x, hc, hx, hx2, S1⟩ := run_byte s k (by rw [hn]; exact hlt)
      have e10 := byte_is c x hx 10 (by decide)
      have e13 := byte_is c x hx 13 (by decide)
      have e92 := byte_is c x hx 92 (by decide)
      rw [show ((10 : Nat) : Int) = 10 from rfl] at e10
      rw [show ((13 : Nat) : Int) = 13 from rfl] at e13
      rw [show ((92 : Nat) : Int) = 92 from rfl] at e92
      by_cases h10 : c = 10
      · rw [show decide (c = UInt8.ofNat 10) = true from decide_eq_true h10] at e10
        have HE2 := Lib.hid ((congrArg (O ++ ·) (un_break _ k c hc (.inl h10))).symm.trans HE.out)
        clear h10 e13 e92 hc hx hx2 HE
        go_wp2_with fail
        go_roundw
        case rel => exact ⟨k + 1, O, by omega, by go_num, by omega, HE2, HU⟩
        case measure => simp [intOf]; omega
      · rw [show decide (c = UInt8.ofNat 10) = false from decide_eq_false h10] at e10
        by_cases h13 : c = 13
        · rw [show decide (c = UInt8.ofNat 13) = true from decide_eq_true h13] at e13
          have HE2 := Lib.hid ((congrArg (O ++ ·) (un_break _ k c hc (.inr h13))).symm.trans HE.out)
          clear h10 h13 e92 hc hx hx2 HE
          go_wp2_with fail
          go_roundw
          case rel => exact ⟨k + 1, O, by omega, by go_num, by omega, HE2, HU⟩
          case measure => simp [intOf]; omega
        · rw [show decide (c = UInt8.ofNat 13) = false from decide_eq_false h13] at e13
          by_cases h92 : c = 92
          · rw [show decide (c = UInt8.ofNat 92) = true from decide_eq_true h92] at e92
            rw [h92] at hc
            by_cases hl2 : k + 1 < n
            · have hl2' : (k : Int) + 1 < (n : Int) := by omega
              obtain ⟨d, y, hd, hy, hy2, S2⟩ := run_byte s (k + 1) (by rw [hn]; exact hl2)
              rw [show ((k + 1 : Nat) : Int) = (k : Int) + 1 from by omega] at S2
              have HE2 := Lib.hid (show (O ++ [d]) ++ unescS false (s.data.toList.drop (k + 2)) = R by rw [← HE.out, un_esc1 _ k d hc hd, List.append_assoc]; rfl)
              have cB := HU.out.byte d y hy (by omega)
              clear h10 h13 h92 hc hx hx2 HE hd hy hy2
              go_wp2_with (go_at_call 72; with_reducible refine cB.mono ?_; rintro e w2 ⟨rfl, hu2⟩; replace hu2 := Lib.hid hu2)
              go_roundw
              case rel => exact ⟨k + 2, O ++ [d], by omega, by go_num, by rw [List.length_append, List.length_singleton]; omega, HE2, hu2⟩
              case measure => simp [intOf]; omega
            · have hl2' : ¬ (k : Int) + 1 < (n : Int) := by omega
              have HE2 := Lib.hid ((congrArg (O ++ ·) (un_esc0 _ k hc (by rw [← HL.out, hn]; omega))).symm.trans HE.out)
              clear h10 h13 h92 hc hx hx2 HE
              go_wp2_with fail
              go_roundw
              case rel => exact ⟨k + 2, O, by omega, by go_num, by omega, HE2, HU⟩
              case measure => simp [intOf]; omega
          · rw [show decide (c = UInt8.ofNat 92) = false from decide_eq_false h92] at e92
            have HE2 := Lib.hid (show (O ++ [c]) ++ unescS false (s.data.toList.drop (k + 1)) = R by rw [← HE.out, un_plain _ k c hc h92 (fun e => e.elim h10 h13), List.append_assoc]; rfl)
            have cB := HU.out.byte c x hx (by omega)
            clear h10 h13 h92 hc hx hx2 HE
            go_wp2_with (go_at_call 72; with_reducible refine cB.mono ?_; rintro e w2 ⟨rfl, hu2⟩; replace hu2 := Lib.hid hu2)
            go_roundw
            case rel => exact ⟨k + 1, O ++ [c], by omega, by go_num, by rw [List.length_append, List.length_singleton]; omega, HE2, hu2⟩
            case measure => simp [intOf]; omega
    · have hlt' : ¬ (k : Int) < (n : Int) := by omega
      have he : O = R := by
        have h := HE.out
        rw [List.drop_eq_nil_of_le (by rw [← HL.out, hn]; omega), unescS, List.append_nil] at h
        exact h
      subst he
      have cO := HU.out.out
      clear HE
      go_wp2_with (go_at_call 41; with_reducible refine cO.mono ?_; rintro e w2 ⟨rfl, hb2⟩)
      go_ret
      exact ⟨rfl, hb2⟩
end Go.Proofs.YtgponokcigapaaaDoor
namespace Go.Proofs.YtgponokcigapaaaDoor
open Go.ChangeShapes Go.WideShapes Go.ChangeAt Go.RowKit
open TokP

theorem below_new (w w' : World) (o : Obj) (h : Below (w.alloc o).heap.size (w.alloc o) w') : Below w.heap.size w w' := ((Below.refl _ w).alloc (Nat.le_refl _) o).trans (h.mono (by rw [World.size_alloc]; omega))
set_option maxRecDepth 100000 in
set_option maxHeartbeats 2000000 in
theorem value_any (K : Int) (T : ByteArray) (hT : T.size ≤ 1000000) (w : World) :
    Calls Tryd.prog 73 #[.agg #[.int .i64 K, .string T]] w fun e w' => e = .returned (.string (strL (valueI K T.data.toList))) ∧ Below w.heap.size w w' := by
  have cC := fun W => clone_any T W hT
  have hsz := size_list T
  have HB := Lib.hid (below_new w)
  by_cases h2 : 2 ≤ T.size
  · have h2' : ¬ (T.size : Int) < 2 := by omega
    have F1 : IntKind.i64.wrap ((T.size : Int) - 1) = (T.size : Int) - 1 := by rw [IntKind.wrap_i64]; omega
    have R1 : ∀ W : World, (Instr.slice 9 (.string T) (some (.int .i64 1)) (some (.int .i64 ((T.size : Int) - 1))) none).run Tryd.prog W = .ok (.string (T.extract 1 (T.size - 1))) W := run_slice_str T 1 (T.size - 1) ((T.size : Int) - 1) (by omega) (by omega) (by omega)
    rw [inner_is T h2] at R1
    have cU := fun W => unesc_any (strL (T.data.toList.drop 1).dropLast) (by rw [strL_size, List.length_dropLast, List.length_drop, ← hsz]; omega) W
    rw [strL_list] at cU
    by_cases hk2 : K = 2
    · rw [value_yes K _ (.inl hk2) (by rw [← hsz]; exact h2)]
      generalize unescS false (T.data.toList.drop 1).dropLast = V at cU ⊢
      generalize strL (T.data.toList.drop 1).dropLast = U at R1 cU
      subst hk2
      clear hsz cC h2
      go_enter Tryd.func73, Tryd.ntmps73
      go_wp2_with (go_at_call 84; (with_reducible refine (cU _).mono ?_); rintro e w2 ⟨rfl, hb2⟩)
      go_ret
      exact ⟨rfl, HB.out _ _ hb2⟩
    · by_cases hk3 : K = 3
      · rw [value_yes K _ (.inr hk3) (by rw [← hsz]; exact h2)]
        generalize unescS false (T.data.toList.drop 1).dropLast = V at cU ⊢
        generalize strL (T.data.toList.drop 1).dropLast = U at R1 cU
        subst hk3
        clear hsz cC h2 hk2
        go_enter Tryd.func73, Tryd.ntmps73
        go_wp2_with (go_at_call 84; (with_reducible refine (cU _).mono ?_); rintro e w2 ⟨rfl, hb2⟩)
        go_ret
        exact ⟨rfl, HB.out _ _ hb2⟩
      · rw [value_no K _ (fun e => e.1.elim hk2 hk3), strL_of]
        have g2 : (K == 2) = false := beq_eq_false_iff_ne.2 hk2
        have g3 : (K == 3) = false := beq_eq_false_iff_ne.2 hk3
        clear hsz cU R1 h2 hk2 hk3
        go_enter Tryd.func73, Tryd.ntmps73
        go_wp2_with (go_at_call 34; (with_reducible refine (cC _).mono ?_); rintro e w2 ⟨rfl, hb2⟩)
        go_ret
        exact ⟨rfl, HB.out _ _ hb2⟩
  · have h2' : (T.size : Int) < 2 := by omega
    rw [value_no K _ (fun e => h2 (by rw [hsz]; exact e.2)), strL_of]
    clear hsz h2
    by_cases hk2 : K = 2
    · subst hk2
      go_enter Tryd.func73, Tryd.ntmps73
      go_wp2_with (go_at_call 34; (with_reducible refine (cC _).mono ?_); rintro e w2 ⟨rfl, hb2⟩)
      go_ret
      exact ⟨rfl, HB.out _ _ hb2⟩
    · have g2 : (K == 2) = false := beq_eq_false_iff_ne.2 hk2
      by_cases hk3 : K = 3
      · subst hk3
        clear g2 hk2
        go_enter Tryd.func73, Tryd.ntmps73
        go_wp2_with (go_at_call 34; (with_reducible refine (cC _).mono ?_); rintro e w2 ⟨rfl, hb2⟩)
        go_ret
        exact ⟨rfl, HB.out _ _ hb2⟩
      · have g3 : (K == 3) = false := beq_eq_false_iff_ne.2 hk3
        clear hk2 hk3
        go_enter Tryd.func73, Tryd.ntmps73
        go_wp2_with (go_at_call 34; (with_reducible refine (cC _).mono ?_); rintro e w2 ⟨rfl, hb2⟩)
        go_ret
        exact ⟨rfl, HB.out _ _ hb2⟩
end Go.Proofs.YtgponokcigapaaaDoor
namespace Go.Proofs
open Go.Shelf
def Tryd.lays107_ren : Go.Shelf.Ren := ⟨fun | 107 => 82 | 108 => 93 | n => n, fun | 9 => 9 | 20 => 20 | 28 => 82 | 3 => 3 | 4 => 4 | 0 => 0 | n => n, fun | n => n⟩
theorem Tryd.lays107 : Go.Proofs.Lays.n107 Tryd.prog Tryd.lays107_ren := {
  mixed := by kernel_rfl
  f107 := Tryd.func82.trans (congrArg some (by kernel_rfl))
  f108 := Tryd.func93.trans (congrArg some (by kernel_rfl))
  t0 := Tryd.underlying0
  a0 := Tryd.isAgg0
  z0 := Tryd.sizeOf0
  v0 := Tryd.zeroValue0
  t3 := Tryd.underlying3
  a3 := Tryd.isAgg3
  z3 := Tryd.sizeOf3
  v3 := Tryd.zeroValue3
  t4 := Tryd.underlying4
  a4 := Tryd.isAgg4
  z4 := Tryd.sizeOf4
  v4 := Tryd.zeroValue4
  t28 := Tryd.underlying82
  a28 := Tryd.isAgg82
  z28 := Tryd.sizeOf82
  v28 := Tryd.zeroValue82 }
open Go.Lib in
theorem Tryd.slices_Contains_int (b off n c : Nat) (zs : List Int) (x : Int) (w : World) (hz : n ≤ zs.length) (hbig : n ≤ 9223372036854775807) (hc : ∀ j, j < zs.length → w.cell? ⟨b, off + j, none⟩ = some (.int .i64 (zs.getD j 0))) :
    Calls Tryd.prog 82 #[.slice (some ⟨b, off, none⟩) n c, .int .i64 x] w fun e w' => e = .returned (.bool ((zs.take n).contains x)) ∧ w' = w := Any.slices_Contains_int Tryd.lays107 b off n c zs x w hz hbig hc
end Go.Proofs
namespace Go.Proofs.YtgponokcigapaaaDoor
open Go.ChangeShapes Go.WideShapes Go.ChangeAt Go.RowKit
open TokP AdrP

theorem value_le (t : Tok) : (valueL t).length ≤ t.text.length := by
  unfold valueL
  split
  · have := unesc_le false (t.text.drop 1).dropLast
    rw [List.length_dropLast, List.length_drop] at this
    omega
  · exact Nat.le_refl _
/-- The value of a token, as the walk wants it. -/
theorem tok_value (t : Tok) (ht : t.text.length ≤ 1000000) (W : World) : Calls Tryd.prog 73 #[.agg #[.int .i64 (t.kind : Nat), .string (strL t.text)]] W fun e w' => e = .returned (.string (strL (valueL t))) ∧ Below W.heap.size W w' := by
  have := value_any (t.kind : Nat) (strL t.text) (by rw [strL_size]; exact ht) W
  rw [strL_list] at this
  rw [← value_tok]
  exact this
/-- The kinds that are let in: a slice of ints. -/
def Kinds (w : World) (g : Nat) (zs : List Int) : Prop := ∀ j, j < zs.length → w.cell? ⟨g, 0 + j, none⟩ = some (.int .i64 (zs.getD j 0))
theorem Kinds.step {w w' : World} {g : Nat} {zs : List Int} (h : Kinds w g zs) (hb : Below w.heap.size w w') : Kinds w' g zs := fun j hj => cell_below (h j hj) hb
theorem kinds_any {w : World} {g : Nat} {zs : List Int} (h : Hid (Kinds w g zs)) (hz : zs.length ≤ 9) (n : Nat) (hn : zs.length = n) (x : Int) (r : Bool) (hr : zs.contains x = r) :
    Calls Tryd.prog 82 #[.slice (some ⟨g, 0, none⟩) n n, .int .i64 x] w fun e w' => e = .returned (.bool r) ∧ w = w' := by
  subst hn
  have := Tryd.slices_Contains_int g 0 zs.length zs.length zs x w (Nat.le_refl _) (by omega) h.out
  rw [List.take_of_length_le (Nat.le_refl _), hr] at this
  exact this.mono fun e w' h => ⟨h.1, h.2.symm⟩
set_option maxHeartbeats 4000000 in
theorem dotted_p (v : Value) (l : List Tok) (zs : List Int) (gk m : Nat) (ok : Tok → Bool) (hok : ∀ t : Tok, zs.contains ((t.kind : Nat) : Int) = ok t) (hz : zs.length ≤ 9) (hm : zs.length = m) (hn : l.length ≤ 1000000) (hT : ∀ t ∈ l, t.text.length ≤ 1000000)
    (R : Option (List UInt8)) (hR : dotsT ok true l = R) (w : World) (h : Hid (HasT w v l)) (hk : Hid (Kinds w gk zs)) :
    Calls Tryd.prog 70 #[v, .slice (some ⟨gk, 0, none⟩) m m] w fun e w' => e = .returned (.tuple #[.string (strL (R.getD [])), .bool R.isSome]) ∧ Below w.heap.size w w' := by
  obtain ⟨a, cp, rfl, _, hf0⟩ := h.out
  obtain ⟨n, hnn⟩ : ∃ n, l.length = n := ⟨_, rfl⟩
  rw [hnn] at hn hf0 ⊢
  have HN := Lib.hid hnn
  have H := Lib.hid hf0
  have HT := Lib.hid (fun (k : Nat) (f : Tok) (h : l[k]? = some f) => hT f (List.mem_of_getElem? h))
  have HR := Lib.hid (show (dotsT ok true (l.drop 0)).map ([] ++ ·) = R by rw [List.drop_zero, hR]; cases R <;> rfl)
  have HOK := Lib.hid hok
  have HST := Lib.hid (show Bd (w.alloc (.cells #[.pointer none, .slice none 0 0] 59)) w.heap.size [] ∧ Below w.heap.size w (w.alloc (.cells #[.pointer none, .slice none 0 0] 59)) from ⟨bd_first w, (Below.refl _ w).alloc (Nat.le_refl _) _⟩)
  have HKC := Lib.hid (fun W x r (hr : zs.contains x = r) (hb : Hid (Below w.heap.size w W)) => kinds_any (Lib.hid (hk.out.step hb.out)) hz m hm x r hr)
  clear hnn hf0 h hT hR hok hk hz hm
  go_enter Tryd.func70, Tryd.ntmps70
  go_wp2_with fail
  go_loopw [12] (fun x wr => ∃ (k : Nat) (b : Bool) (T : List UInt8), k ≤ n ∧ ((k : Int) % 2 == 0) = b ∧ x = .int .i64 k ∧ Hid (T.length ≤ k * 1000000) ∧ Hid (Bd wr w.heap.size T ∧ Below w.heap.size w wr) ∧ Hid ((dotsT ok b (l.drop k)).map (T ++ ·) = R)) (fun x _ => n - (intOf x).toNat)
  case atStart => exact ⟨0, true, [], Nat.zero_le _, rfl, rfl, Nat.zero_le _, HST, HR⟩
  case round =>
    obtain ⟨k, b, T, hk, hpar, rfl, HL, HB, HG⟩ := hrel
    have F1 : IntKind.i64.wrap ((k : Int) + 1) = (k : Int) + 1 := by rw [IntKind.wrap_i64]; omega
    have hmod : (k : Int).tmod 2 = (k : Int) % 2 := Int.tmod_eq_emod_of_nonneg (by omega)
    have hpt : ((k : Int).tmod 2 == 0) = b := by rw [hmod]; exact hpar
    have F2 : IntKind.i64.wrap ((k : Int).tmod 2) = (k : Int).tmod 2 := by rw [IntKind.wrap_i64]; omega
    by_cases hlt : k < n
    · have hlt' : (k : Int) < (n : Int) := by omega
      obtain ⟨g, o, rfl, hfa⟩ := H.out.at (by omega)
      obtain ⟨t, ht⟩ : ∃ t, l[k]? = some t := ⟨_, List.getElem?_eq_getElem (by rw [HN.out]; exact hlt)⟩
      obtain ⟨k0, k1⟩ := hfa.step HB.out.2 k t ht
      have hpar2 : Hid ((((k + 1 : Nat) : Int) % 2 == 0) = !b) := by
        show _ = _
        rw [← hpar, Bool.eq_iff_iff]
        simp only [beq_iff_eq, Bool.not_eq_true', beq_eq_false_iff_ne]
        omega
      have hg := HG.out
      have cV := tok_value t (HT.out k t ht)
      have hvl := value_le t
      have htl := HT.out k t ht
      have hL2 : (strL (valueL t)).size ≤ 1000000 := by rw [strL_size]; omega
      have HBx := Lib.hid (fun o => HB.out.2.alloc HB.out.2.size o)
      have HBd := Lib.hid (fun W (h : Below w.heap.size w W) => h.size)
      have hbdA := HB.out.1
      have hkk : k ≤ 1000000 := by omega
      cases b with
      | true =>
        cases hk1 : ok t with
        | true =>
          have hr := dots_word ht hk1
          rw [hr, map_map_app] at hg
          have HG2 := Lib.hid hg
          have cK := fun W (hb : Hid (Below w.heap.size w W)) => HKC.out W _ true ((HOK.out t).trans hk1) hb
          have HBW := Lib.hid (fun W (h : Bd W w.heap.size T) => bd_str (strL (valueL t)) w.heap.size T W h (by have := HL.out; omega))
          rw [strL_list] at HBW
          have HL2 := Lib.hid (show (T ++ valueL t).length ≤ (k + 1) * 1000000 by rw [List.length_append]; have := HL.out; omega)
          generalize strL (valueL t) = S at cV HBW hL2
          generalize strL t.text = X at k1 cV
          generalize ((t.kind : Nat) : Int) = K at k0 cV cK
          clear hg hr hk1 ht hfa HG HR hvl htl hmod
          go_wp2_with (first
            | (go_at_call 82; (with_reducible refine (cK _ (Lib.hid (HBx.out _))).mono ?_); rintro e w2 ⟨rfl, rfl⟩)
            | (go_at_call 73; (with_reducible refine (cV _).mono ?_); rintro e w3 ⟨rfl, hb3⟩; have hb4 := Lib.hid ((HBx.out _).trans (hb3.mono (HBx.out _).size)); have hbd4 := Lib.hid ((hbdA.alloc _).below hb3); clear hb3)
            | (go_at_call 39; (with_reducible refine (HBW.out _ hbd4.out).mono ?_); rintro e w5 ⟨rfl, hbd5, hb5⟩; have hb6 := Lib.hid (hb4.out.trans hb5); replace hbd5 := Lib.hid hbd5; clear hb5))

          go_roundw
          case rel => exact ⟨k + 1, false, _, by omega, hpar2.out, by go_num, HL2, Lib.hid ⟨hbd5.out, hb6.out⟩, HG2⟩
          case measure => simp [intOf]; omega
        | false =>
          rw [dots_word_no ht hk1] at hg
          obtain rfl : none = R := hg
          have cK := fun W (hb : Hid (Below w.heap.size w W)) => HKC.out W _ false ((HOK.out t).trans hk1) hb
          generalize strL (valueL t) = S at cV hL2
          generalize strL t.text = X at k1 cV
          generalize ((t.kind : Nat) : Int) = K at k0 cV cK
          clear hk1 ht hfa HG HR hvl htl hmod
          go_wp2_with (go_at_call 82; (with_reducible refine (cK _ (Lib.hid (HBx.out _))).mono ?_); rintro e w2 ⟨rfl, rfl⟩)
          go_ret2
          exact ⟨rfl, HBx.out _⟩
      | false =>
        have cS := special_any t
        have e46 := spec_eq t 46
        cases h46 : isS t 46 with
        | true =>
          rw [h46] at e46
          have n46 : ((strL (specL t)).toList != [46]) = false := by rw [bne, e46]; rfl
          have hr := dots_dot (ok := ok) ht h46
          rw [hr, map_map_app] at hg
          have HG2 := Lib.hid hg
          have HBW := Lib.hid (fun W (h : Bd W w.heap.size T) => bd_str (strL (valueL t)) w.heap.size T W h (by have := HL.out; omega))
          rw [strL_list] at HBW
          have HL2 := Lib.hid (show (T ++ valueL t).length ≤ (k + 1) * 1000000 by rw [List.length_append]; have := HL.out; omega)
          generalize strL (specL t) = SS at cS e46 n46
          generalize strL (valueL t) = S at cV HBW hL2
          generalize strL t.text = X at k1 cV cS
          generalize ((t.kind : Nat) : Int) = K at k0 cV cS
          clear hg hr h46 ht hfa HG HR hvl htl hmod
          go_wp2_with (first
            | (go_at_call 44; (with_reducible refine (cS _).mono ?_); rintro e w2 ⟨rfl, hb2⟩; have hb3 := Lib.hid ((HBx.out _).trans (hb2.mono (HBx.out _).size)); have hbd3 := Lib.hid ((hbdA.alloc _).below hb2); have cA := cell_below (copy_kind wr (.int .i64 K) (.string X) 43) hb2; have cB := cell_below (copy_text wr (.int .i64 K) (.string X) 43) hb2; clear hb2)
            | (go_at_call 73; (with_reducible refine (cV _).mono ?_); rintro e w3 ⟨rfl, hb5⟩; have hb4 := Lib.hid (hb3.out.trans (hb5.mono hb3.out.size)); have hbd4 := Lib.hid (hbd3.out.below hb5); clear hb5)
            | (go_at_call 39; (with_reducible refine (HBW.out _ hbd4.out).mono ?_); rintro e w5 ⟨rfl, hbd5, hb5⟩; have hb6 := Lib.hid (hb4.out.trans hb5); replace hbd5 := Lib.hid hbd5; clear hb5))
          go_roundw
          case rel => exact ⟨k + 1, true, _, by omega, hpar2.out, by go_num, HL2, Lib.hid ⟨hbd5.out, hb6.out⟩, HG2⟩
          case measure => simp [intOf]; omega
        | false =>
          rw [h46] at e46
          have n46 : ((strL (specL t)).toList != [46]) = true := by rw [bne, e46]; rfl
          rw [dots_dot_no ht h46] at hg
          obtain rfl : none = R := hg
          generalize strL (specL t) = SS at cS e46 n46
          generalize strL (valueL t) = S at cV hL2
          generalize strL t.text = X at k1 cV cS
          generalize ((t.kind : Nat) : Int) = K at k0 cV cS
          clear h46 ht hfa HG HR hvl htl hmod
          go_wp2_with (go_at_call 44; (with_reducible refine (cS _).mono ?_); rintro e w2 ⟨rfl, hb2⟩; have hb3 := Lib.hid ((HBx.out _).trans (hb2.mono (HBx.out _).size)); clear hb2)
          go_ret2
          exact ⟨rfl, hb3.out⟩
    · obtain rfl : k = n := by omega
      have hlt' : ¬ (k : Int) < (k : Int) := by omega
      have hnil : l.drop k = [] := List.drop_eq_nil_of_le (by rw [HN.out]; exact Nat.le_refl _)
      have hg := HG.out
      rw [hnil] at hg
      cases b with
      | true =>
        obtain rfl : none = R := hg
        clear HG hnil hmod
        go_wp2_with fail
        go_ret2
        exact ⟨rfl, HB.out.2⟩
      | false =>
        obtain rfl : some T = R := by rw [← hg]; simp [dotsT]
        have hO := bd_out _ _ _ HB.out.1
        clear hg HG hnil hmod
        go_wp2_with (go_at_call 41; (with_reducible refine hO.mono ?_); rintro e w3 ⟨rfl, hb3⟩)
        go_ret2
        exact ⟨rfl, HB.out.2.trans hb3⟩
end Go.Proofs.YtgponokcigapaaaDoor
namespace Go.Proofs.YtgponokcigapaaaDoor
open Go.ChangeShapes Go.WideShapes Go.ChangeAt Go.RowKit
open TokP AdrP

theorem filter_step (s : List UInt8) (k : Nat) (c : UInt8) (h : s[k]? = some c) : (s.take (k + 1)).filter (fun c => !TokP.blank c) = (s.take k).filter (fun c => !TokP.blank c) ++ (if TokP.blank c = true then [] else [c]) := by
  rw [List.take_add_one, h, List.filter_append]
  cases hb : TokP.blank c with
  | true => simp [hb]
  | false => simp [hb]
theorem filter_le (s : List UInt8) (k : Nat) : ((s.take k).filter (fun c => !TokP.blank c)).length ≤ k := by
  have h1 := (List.filter_sublist (p := fun c => !TokP.blank c) (l := s.take k)).length_le
  have h2 := List.length_take_le k s
  omega
theorem blank_bits (c : UInt8) (x : Nat) (hx : c.toNat = x) : TokP.blank c = (((x : Int) == 9) || ((x : Int) == 10) || ((x : Int) == 13) || ((x : Int) == 32)) := by
  have h9 := byte_is c x hx 9 (by decide)
  have h10 := byte_is c x hx 10 (by decide)
  have h13 := byte_is c x hx 13 (by decide)
  have h32 := byte_is c x hx 32 (by decide)
  rw [show ((9 : Nat) : Int) = 9 from rfl] at h9
  rw [show ((10 : Nat) : Int) = 10 from rfl] at h10
  rw [show ((13 : Nat) : Int) = 13 from rfl] at h13
  rw [show ((32 : Nat) : Int) = 32 from rfl] at h32
  rw [h9, h10, h13, h32]
  unfold TokP.blank
  rfl
set_option maxHeartbeats 2000000 in
theorem unblanked_any (s : ByteArray) (hs : s.size ≤ 1000000) (w : World) :
    Calls Tryd.prog 83 #[.string s] w fun e w' => e = .returned (.string (strL (s.data.toList.filter (fun c => !TokP.blank c)))) ∧ Below w.heap.size w w' := by
  obtain ⟨n, hn⟩ : ∃ n, s.size = n := ⟨_, rfl⟩
  have HL := Lib.hid (size_list s)
  rw [hn] at hs
  have HN := Lib.hid hn
  have hnn := hn
  have HST := Lib.hid (show Bd (w.alloc (.cells #[.pointer none, .slice none 0 0] 59)) w.heap.size [] ∧ Below w.heap.size w (w.alloc (.cells #[.pointer none, .slice none 0 0] 59)) from ⟨bd_first w, (Below.refl _ w).alloc (Nat.le_refl _) _⟩)
  clear hnn
  go_enter Tryd.func83, Tryd.ntmps83
  go_wp2_with fail
  go_loopw [7] (fun i wr => ∃ k : Nat, k ≤ n ∧ i = .int .i64 k ∧ Hid (Bd wr w.heap.size ((s.data.toList.take k).filter (fun c => !TokP.blank c)) ∧ Below w.heap.size w wr)) (fun i _ => n - (intOf i).toNat)
  case atStart => exact ⟨0, Nat.zero_le _, rfl, HST⟩
  case round =>
    obtain ⟨k, hk, rfl, hst⟩ := hrel
    have F1 : IntKind.i64.wrap ((k : Int) + 1) = (k : Int) + 1 := by rw [IntKind.wrap_i64]; omega
    by_cases hlt : k < n
    · have hlt' : (k : Int) < (n : Int) := by omega
      obtain ⟨c, x, hc, hx, hx2, S1⟩ := run_byte s k (by rw [hn]; exact hlt)
      have hstep := filter_step _ k c hc
      have hbb := blank_bits c x hx
      have hle := filter_le s.data.toList k
      by_cases h9 : (x : Int) = 9
      · have g9 : ((x : Int) == 9) = true := beq_iff_eq.2 h9
        rw [g9] at hbb
        rw [hbb] at hstep
        have HR := Lib.hid (show (s.data.toList.take (k + 1)).filter (fun c => !TokP.blank c) = (s.data.toList.take k).filter (fun c => !TokP.blank c) by rw [hstep]; simp)
        clear hc hx hstep hbb hle h9
        go_wp2_with fail
        go_roundw
        case rel => exact ⟨k + 1, by omega, by go_num, Lib.hid (by rw [HR.out]; exact hst.out)⟩
        case measure => simp [intOf]; omega
      have g9 : ((x : Int) == 9) = false := beq_eq_false_iff_ne.2 h9
      by_cases h10 : (x : Int) = 10
      · have g10 : ((x : Int) == 10) = true := beq_iff_eq.2 h10
        rw [g9, g10] at hbb
        rw [hbb] at hstep
        have HR := Lib.hid (show (s.data.toList.take (k + 1)).filter (fun c => !TokP.blank c) = (s.data.toList.take k).filter (fun c => !TokP.blank c) by rw [hstep]; simp)
        clear hc hx hstep hbb hle h9 h10
        go_wp2_with fail
        go_roundw
        case rel => exact ⟨k + 1, by omega, by go_num, Lib.hid (by rw [HR.out]; exact hst.out)⟩
        case measure => simp [intOf]; omega
      have g10 : ((x : Int) == 10) = false := beq_eq_false_iff_ne.2 h10
      by_cases h13 : (x : Int) = 13
      · have g13 : ((x : Int) == 13) = true := beq_iff_eq.2 h13
        rw [g9, g10, g13] at hbb
        rw [hbb] at hstep
        have HR := Lib.hid (show (s.data.toList.take (k + 1)).filter (fun c => !TokP.blank c) = (s.data.toList.take k).filter (fun c => !TokP.blank c) by rw [hstep]; simp)
        clear hc hx hstep hbb hle h9 h10 h13
        go_wp2_with fail
        go_roundw
        case rel => exact ⟨k + 1, by omega, by go_num, Lib.hid (by rw [HR.out]; exact hst.out)⟩
        case measure => simp [intOf]; omega
      have g13 : ((x : Int) == 13) = false := beq_eq_false_iff_ne.2 h13
      by_cases h32 : (x : Int) = 32
      · have g32 : ((x : Int) == 32) = true := beq_iff_eq.2 h32
        rw [g9, g10, g13, g32] at hbb
        rw [hbb] at hstep
        have HR := Lib.hid (show (s.data.toList.take (k + 1)).filter (fun c => !TokP.blank c) = (s.data.toList.take k).filter (fun c => !TokP.blank c) by rw [hstep]; simp)
        clear hc hx hstep hbb hle h9 h10 h13 h32
        go_wp2_with fail
        go_roundw
        case rel => exact ⟨k + 1, by omega, by go_num, Lib.hid (by rw [HR.out]; exact hst.out)⟩
        case measure => simp [intOf]; omega
      have g32 : ((x : Int) == 32) = false := beq_eq_false_iff_ne.2 h32
      rw [g9, g10, g13, g32] at hbb
      rw [hbb] at hstep
      have HR := Lib.hid (show (s.data.toList.take (k + 1)).filter (fun c => !TokP.blank c) = (s.data.toList.take k).filter (fun c => !TokP.blank c) ++ [c] by rw [hstep]; simp)
      have cW := bd_byte c _ _ _ hst.out.1 (by omega)
      rw [hx] at cW
      clear hc hx hstep hbb hle h9 h10 h13 h32
      go_wp2_with (go_at_call 72; (with_reducible refine cW.mono ?_); rintro e w3 ⟨rfl, hbd3, hb3⟩; have HB3 := Lib.hid (And.intro hbd3 hb3); clear hbd3 hb3 cW)
      go_roundw
      case rel => exact ⟨k + 1, by omega, by go_num, Lib.hid ⟨by rw [HR.out]; exact HB3.out.1, hst.out.2.trans HB3.out.2⟩⟩
      case measure => simp [intOf]; omega
    · obtain rfl : k = n := by omega
      have hlt' : ¬ (k : Int) < (k : Int) := by omega
      have hT : s.data.toList.take k = s.data.toList := List.take_of_length_le (by rw [← HL.out, HN.out]; exact Nat.le_refl _)
      have hbd := hst.out.1
      rw [hT] at hbd
      have hO := bd_out _ _ _ hbd
      clear hbd hT
      go_wp2_with (go_at_call 41; (with_reducible refine hO.mono ?_); rintro e w3 ⟨rfl, hb3⟩)
      go_ret
      exact ⟨rfl, hst.out.2.trans hb3⟩
end Go.Proofs.YtgponokcigapaaaDoor
namespace Go.Proofs.YtgponokcigapaaaDoor
open Go.ChangeShapes Go.WideShapes Go.ChangeAt Go.RowKit
open TokP AdrP

theorem kinds_new1 (w : World) : Kinds (w.alloc (.cells #[.int .i64 1] 3)) w.heap.size [1] := fun j hj => by
  obtain rfl : j = 0 := by simpa using hj
  rw [World.cell?_alloc_mark w #[.int .i64 1] 3 (0, 0) 0]; rfl
theorem kinds_new2 (w : World) : Kinds (w.alloc (.cells #[.int .i64 1, .int .i64 2] 3)) w.heap.size [1, 2] := fun j hj => by
  rw [Nat.zero_add, World.cell?_alloc_mark w #[.int .i64 1, .int .i64 2] 3 (0, 0) j]
  rcases (show j = 0 ∨ j = 1 by simp at hj; omega) with rfl | rfl <;> rfl
theorem kind_atom (t : Tok) : ([1] : List Int).contains ((t.kind : Nat) : Int) = atomT t := by
  unfold atomT
  rw [Bool.eq_iff_iff, List.contains_iff_mem, beq_iff_eq, List.mem_singleton]
  omega
theorem kind_word (t : Tok) : ([1, 2] : List Int).contains ((t.kind : Nat) : Int) = wordT t := by
  unfold wordT
  rw [Bool.eq_iff_iff, List.contains_iff_mem, Bool.or_eq_true, beq_iff_eq, beq_iff_eq]
  simp only [List.mem_cons, List.not_mem_nil, or_false]
  omega
/-- Tokens of a moderate size. -/
def Mod (l : List Tok) : Prop := l.length ≤ 1000000 ∧ ∀ t ∈ l, t.text.length ≤ 1000000
theorem Mod.sub {l m : List Tok} (h : Mod l) (hs : m.Sublist l) : Mod m := ⟨Nat.le_trans hs.length_le h.1, fun t ht => h.2 t (hs.subset ht)⟩
theorem dom_one (t : Tok) (h : t.kind = 5) : domT [t] = some (t.text.filter (fun c => !TokP.blank c)) := by
  show (if t.kind = 5 then some (t.text.filter (fun c => !TokP.blank c)) else dotsT atomT true [t]) = _
  rw [if_pos h]
theorem dom_else (l : List Tok) (h : ∀ t, l = [t] → t.kind ≠ 5) : domT l = dotsT atomT true l := by
  unfold domT
  split
  · rename_i t
    rw [if_neg (h t rfl)]
  · rfl
set_option maxHeartbeats 2000000 in
theorem host_p (v : Value) (l : List Tok) (hm : Mod l) (R : Option (List UInt8)) (hR : domT l = R) (w : World) (h : Hid (HasT w v l)) :
    Calls Tryd.prog 71 #[v] w fun e w' => e = .returned (.tuple #[.string (strL (R.getD [])), .bool R.isSome]) ∧ Below w.heap.size w w' := by
  have c1 := fun (hr : dotsT atomT true l = R) W (h1 : Hid (HasT W v l)) g (h2 : Hid (Kinds W g [1])) => dotted_p v l [1] g 1 atomT kind_atom (by decide) rfl hm.1 hm.2 R hr W h1 h2
  obtain ⟨a, cp, rfl, hcap, hf0⟩ := h.out
  have H := Lib.hid hf0
  have HA := Lib.hid (kinds_new1 w)
  have HB := Lib.hid (below_box w (.cells #[.int .i64 1] 3))
  have HH := h.out
  by_cases h1 : l.length = 1
  · obtain ⟨t, rfl⟩ := List.length_eq_one_iff.1 h1
    obtain ⟨g, o, rfl, hfa⟩ := H.out.at (by simp)
    obtain ⟨k0, k1⟩ := hfa 0 t rfl
    rw [Nat.zero_mul, Nat.add_zero] at k0 k1
    rw [List.length_singleton] at H c1 ⊢
    by_cases h5 : t.kind = 5
    · rw [dom_one t h5] at hR
      subst hR
      rw [h5] at k0
      have cU := unblanked_any (strL t.text) (by rw [strL_size]; exact hm.2 t (by simp)) w
      rw [strL_list] at cU
      generalize strL t.text = X at k1 cU
      generalize t.text.filter (fun c => !TokP.blank c) = Y at cU ⊢
      clear c1 h5 hfa HH HA HB h1 hm hcap
      go_enter Tryd.func71, Tryd.ntmps71
      go_wp2_with (go_at_call 83; (with_reducible refine cU.mono ?_); rintro e w2 ⟨rfl, hb2⟩)
      go_ret2
      exact ⟨rfl, hb2⟩
    · rw [dom_else [t] (fun u hu => (List.cons.inj hu).1 ▸ h5)] at hR
      have n5 : (((t.kind : Nat) : Int) == 5) = false := by rw [beq_eq_false_iff_ne]; omega
      have c2 := c1 hR (w.alloc (.cells #[.int .i64 1] 3)) (Lib.hid (HH.step HB.out)) w.heap.size HA
      generalize ((t.kind : Nat) : Int) = K at k0 n5
      clear c1 h5 hfa HH HA h1 hm hcap
      go_enter Tryd.func71, Tryd.ntmps71
      go_wp2_with (go_at_call 70; (with_reducible refine c2.mono ?_); rintro e w2 ⟨rfl, hb2⟩)
      go_ret2
      exact ⟨rfl, Qtrans HB.out hb2⟩
  · rw [dom_else l (by rintro u rfl; exact absurd rfl h1)] at hR
    have c2 := c1 hR (w.alloc (.cells #[.int .i64 1] 3)) (Lib.hid (HH.step HB.out)) w.heap.size HA
    obtain ⟨n, hn⟩ : ∃ n, l.length = n := ⟨_, rfl⟩
    rw [hn] at c2 h1 ⊢
    have n1 : ((n : Int) == 1) = false := by rw [beq_eq_false_iff_ne]; omega
    clear c1 HH HA h1 hm hcap hn hf0 H h
    go_enter Tryd.func71, Tryd.ntmps71
    go_wp2_with (go_at_call 70; (with_reducible refine c2.mono ?_); rintro e w2 ⟨rfl, hb2⟩)
    go_ret2
    exact ⟨rfl, Qtrans HB.out hb2⟩
/-! ### A variable that holds an address -/
def adrA (a : Adr) : Value := .agg #[.string (strL a.name), .string (strL a.loc), .string (strL a.dom)]
def noA : Adr := ⟨[], [], []⟩
/-- The variable at block g holds an address. -/
def Bx (w : World) (g : Nat) (N L D : ByteArray) : Prop := w.heap[g]? = some (.cells #[.string N, .string L, .string D] 34 (0, 0))
theorem Bx.lt {w : World} {g : Nat} {N L D : ByteArray} (h : Bx w g N L D) : g < w.heap.size := (Array.getElem?_eq_some_iff.1 h).1
theorem Bx.step {w w' : World} {g : Nat} {N L D : ByteArray} (h : Bx w g N L D) (hb : Below w.heap.size w w') : Bx w' g N L D := (hb.block _ h.lt).trans h
theorem bx_new (w : World) (N L D : ByteArray) : Bx (w.alloc (.cells #[.string N, .string L, .string D] 34)) w.heap.size N L D := World.alloc_heap_new w _
theorem Bx.c0 {w : World} {g : Nat} {N L D : ByteArray} (h : Bx w g N L D) : w.cell? ⟨g, 0, none⟩ = some (.string N) := by rw [Lib.cell_of_heap h]; rfl
theorem Bx.c1 {w : World} {g : Nat} {N L D : ByteArray} (h : Bx w g N L D) : w.cell? ⟨g, 1, none⟩ = some (.string L) := by rw [Lib.cell_of_heap h]; rfl
theorem Bx.c2 {w : World} {g : Nat} {N L D : ByteArray} (h : Bx w g N L D) : w.cell? ⟨g, 2, none⟩ = some (.string D) := by rw [Lib.cell_of_heap h]; rfl
theorem Bx.fr {w : World} {g : Nat} {N L D : ByteArray} (h : Bx w g N L D) (i : Nat) : w.frozen? ⟨g, i, none⟩ = false := Lib.frozen_of_heap h i
theorem set_three {w : World} {g : Nat} {N L D N' L' D' : ByteArray} (h : Bx w g N L D) :
    Bx (((w.setCell ⟨g, 0, none⟩ (.string N')).setCell ⟨g, 1, none⟩ (.string L')).setCell ⟨g, 2, none⟩ (.string D')) g N' L' D' := by
  have h' : w.heap[g]? = some (.cells #[.string N, .string L, .string D] 34 (0, 0)) := h
  obtain ⟨hlt, hk⟩ := Array.getElem?_eq_some_iff.1 h'
  show ((((w.setCell ⟨g, 0, none⟩ (.string N')).setCell ⟨g, 1, none⟩ (.string L')).setCell ⟨g, 2, none⟩ (.string D'))).heap[g]? = _
  simp [World.setCell, Array.getElem?_modify, h']
theorem below_at {w W : World} {C : Nat} (h : Below C w W) (a : Addr) (hb : C ≤ a.block) (v : Value) : Below C w (W.setCell a v) :=
  ⟨h.os, h.tape, h.output, by simpa using h.size, fun k hk => by rw [Below.heap_setCell W a v k (by omega)]; exact h.block k hk⟩
theorem below_three {w W : World} {C g : Nat} (h : Below C w W) (hg : C ≤ g) (v0 v1 v2 : Value) : Below C w (((W.setCell ⟨g, 0, none⟩ v0).setCell ⟨g, 1, none⟩ v1).setCell ⟨g, 2, none⟩ v2) :=
  below_at (below_at (below_at h _ hg _) _ hg _) _ hg _
theorem rows34 : (Tryd.prog.info? 34).map (·.size) = some 3 := by kernel_rfl
theorem results_adr {fn : Func} {p u : Tmp} (h : fn.results = #[.cell p 34, .tmp u]) (tmps : Array Value) (w : World) (g : Nat) (N L D : ByteArray) (hp : tmps.getD p undef = .pointer (some ⟨g, 0, none⟩)) (hg : Bx w g N L D) :
    (results fn tmps).run Tryd.prog w = .ok (.tuple #[.agg #[.string N, .string L, .string D], tmps.getD u undef]) w := by
  rw [results_cell_tmp h, hp]
  have := run_loadVar_row (P := Tryd.prog) w g 34 34 #[.string N, .string L, .string D] (0, 0) _ hg Tryd.underlying34 rfl rows34
  simp [asAddr, Result.andThen, this]
end Go.Proofs.YtgponokcigapaaaDoor
namespace Go.Proofs.YtgponokcigapaaaDoor
open Go.ChangeShapes Go.WideShapes Go.ChangeAt Go.RowKit
open TokP AdrP

theorem spec_nil {l : List Tok} (h : fromS 64 l = []) : specT l = none := by unfold specT; rw [h]
theorem spec_cons {l : List Tok} {x : Tok} {d : List Tok} (h : fromS 64 l = x :: d) : specT l = (match dotsT wordT true (upToS 64 l), domT d with
    | some x, some y => some ⟨[], x, y⟩
    | _, _ => none) := by
  unfold specT
  split
  · rename_i e
    rw [h] at e
    exact absurd e (by simp)
  · rename_i e
    rw [h] at e
    obtain ⟨_, rfl⟩ := List.cons.inj e
    rfl
theorem Mod.upTo {l : List Tok} (h : Mod l) (c : UInt8) : Mod (upToS c l) := h.sub (List.takeWhile_sublist _)
theorem Mod.take {l : List Tok} (h : Mod l) (k : Nat) : Mod (l.take k) := h.sub (List.take_sublist _ _)
theorem Mod.drop {l : List Tok} (h : Mod l) (k : Nat) : Mod (l.drop k) := h.sub (List.drop_sublist _ _)
set_option maxHeartbeats 4000000 in
theorem spec_p (v : Value) (l : List Tok) (hm : Mod l) (R : Option Adr) (hR : specT l = R) (w : World) (h : Hid (HasT w v l)) :
    Calls Tryd.prog 46 #[v] w fun e w' => e = .returned (.tuple #[adrA (R.getD noA), .bool R.isSome]) ∧ Below w.heap.size w w' := by
  have cF := fun r (hr : findI 64 l = r) W (h : Hid (HasT W v l)) => find_any v l 64 r hr hm.1 W h
  have HB0 := below_box w (.cells #[.string ⟨#[]⟩, .string ⟨#[]⟩, .string ⟨#[]⟩] 34)
  have HX0 := bx_new w ⟨#[]⟩ ⟨#[]⟩ ⟨#[]⟩
  obtain ⟨a, cp, rfl, hcap, hf0⟩ := h.out
  obtain ⟨W0, hW0⟩ : ∃ W0, w.alloc (.cells #[.string ⟨#[]⟩, .string ⟨#[]⟩, .string ⟨#[]⟩] 34) = W0 := ⟨_, rfl⟩
  have H0 := Lib.hid (h.out.step HB0)
  rw [hW0] at HB0 HX0 H0
  cases hf : fromS 64 l with
  | nil =>
    obtain rfl : none = R := (spec_nil hf).symm.trans hR
    have c1 := cF (-1) (findI_no hf) W0 H0
    have HB := Lib.hid HB0
    have HX := Lib.hid HX0
    clear cF hf hm hR hf0 hcap h HB0 HX0
    go_enter Tryd.func46, Tryd.ntmps46
    go_wp2_with (go_at_call 45; (with_reducible refine c1.mono ?_); rintro e w1 ⟨rfl, hb1⟩; have hx1 := HX.out.step hb1; have k0 := hx1.c0; have k1 := hx1.c1; have k2 := hx1.c2; have kf := hx1.fr; have HB1 := Lib.hid (HB.out.trans (hb1.mono HB.out.size)); have HX1 := Lib.hid hx1; clear hx1 hb1 c1)
    exact bodyPost_ret (results_adr rfl _ _ w.heap.size ⟨#[]⟩ ⟨#[]⟩ ⟨#[]⟩ rfl (set_three HX1.out)) rfl ⟨rfl, below_three HB1.out (Nat.le_refl _) _ _ _⟩
  | cons x d =>
    obtain ⟨k, hkl, hfi, _, htk, hdr⟩ := findI_yes hf
    rw [spec_cons hf, ← htk] at hR
    obtain ⟨A1, C1, hr1, ht1⟩ := run_sub_to h.out k k rfl (by omega)
    obtain ⟨A2, C2, hr2, ht2⟩ := run_sub_from h.out (k + 1) ((k : Int) + 1) (by omega) (by omega)
    rw [hdr] at ht2
    obtain ⟨n, hn⟩ : ∃ n, l.length = n := ⟨_, rfl⟩
    rw [hn] at hr1 hr2 ht2 cF H0 hkl ⊢
    have F1 : IntKind.i64.wrap ((k : Int) + 1) = (k : Int) + 1 := by rw [IntKind.wrap_i64]; have := hm.1; omega
    have c1 := cF k hfi W0 H0
    have hk0 : ¬ (k : Int) < 0 := by omega
    obtain ⟨m2, hm2⟩ : ∃ m, n - (k + 1) = m := ⟨_, rfl⟩
    rw [hm2] at hr2 ht2
    obtain ⟨R1, hR1⟩ : ∃ R1, dotsT wordT true (l.take k) = R1 := ⟨_, rfl⟩
    obtain ⟨R2, hR2⟩ : ∃ R2, domT d = R2 := ⟨_, rfl⟩
    rw [hR1, hR2] at hR
    have HT1 := Lib.hid ht1
    have HT2 := Lib.hid ht2
    have c2 := fun W g (h1 : Hid (HasT W (.slice A1 k C1) (l.take k))) (h2 : Hid (Kinds W g [1, 2])) => dotted_p _ (l.take k) [1, 2] g 2 wordT kind_word (by decide) rfl (hm.take k).1 (hm.take k).2 R1 hR1 W h1 h2
    have c3 := fun W (h1 : Hid (HasT W (.slice A2 m2 C2) d)) => host_p _ d (hdr ▸ hm.drop (k + 1)) R2 hR2 W h1
    have HB := Lib.hid HB0
    have HX := Lib.hid HX0
    clear cF hf hm hf0 hcap h HB0 HX0 hR1 hR2 ht1 ht2 htk hdr hfi hn hm2 H0
    cases R1 with
    | none =>
      obtain rfl : none = R := hR
      go_enter Tryd.func46, Tryd.ntmps46
      go_wp2_with (first
        | (go_at_call 45; (with_reducible refine c1.mono ?_); rintro e w1 ⟨rfl, hb1⟩; have hx1 := Lib.hid ((HX.out.step hb1).step (below_box w1 (.cells #[.int .i64 1, .int .i64 2] 3))); have HB1 := Lib.hid ((HB.out.trans (hb1.mono HB.out.size)).alloc (HB.out.trans (hb1.mono HB.out.size)).size (.cells #[.int .i64 1, .int .i64 2] 3)); have HK1 := Lib.hid (kinds_new2 w1); clear hb1 c1)
        | (go_at_call 70; (with_reducible refine (c2 _ _ (Lib.hid (HT1.out.step HB1.out)) HK1).mono ?_); rintro e w2 ⟨rfl, hb2⟩; have hx2 := Lib.hid (hx1.out.step hb2); have HB2 := Lib.hid (HB1.out.trans (hb2.mono HB1.out.size)); clear hb2 c2)
        | (go_at_call 71; (with_reducible refine (c3 _ (Lib.hid (HT2.out.step HB2.out))).mono ?_); rintro e w3 ⟨rfl, hb3⟩; have hx3 := hx2.out.step hb3; have k0 := hx3.c0; have k1 := hx3.c1; have k2 := hx3.c2; have kf := hx3.fr; have HB3 := Lib.hid (HB2.out.trans (hb3.mono HB2.out.size)); replace hx3 := Lib.hid hx3; clear hb3 c3))
      exact bodyPost_ret (results_adr rfl _ _ w.heap.size _ _ _ rfl (set_three hx3.out)) rfl ⟨rfl, below_three HB3.out (Nat.le_refl _) _ _ _⟩
    | some x1 =>
      cases R2 with
      | none =>
        obtain rfl : none = R := hR
        go_enter Tryd.func46, Tryd.ntmps46
        go_wp2_with (first
          | (go_at_call 45; (with_reducible refine c1.mono ?_); rintro e w1 ⟨rfl, hb1⟩; have hx1 := Lib.hid ((HX.out.step hb1).step (below_box w1 (.cells #[.int .i64 1, .int .i64 2] 3))); have HB1 := Lib.hid ((HB.out.trans (hb1.mono HB.out.size)).alloc (HB.out.trans (hb1.mono HB.out.size)).size (.cells #[.int .i64 1, .int .i64 2] 3)); have HK1 := Lib.hid (kinds_new2 w1); clear hb1 c1)
          | (go_at_call 70; (with_reducible refine (c2 _ _ (Lib.hid (HT1.out.step HB1.out)) HK1).mono ?_); rintro e w2 ⟨rfl, hb2⟩; have hx2 := Lib.hid (hx1.out.step hb2); have HB2 := Lib.hid (HB1.out.trans (hb2.mono HB1.out.size)); clear hb2 c2)
          | (go_at_call 71; (with_reducible refine (c3 _ (Lib.hid (HT2.out.step HB2.out))).mono ?_); rintro e w3 ⟨rfl, hb3⟩; have hx3 := hx2.out.step hb3; have k0 := hx3.c0; have k1 := hx3.c1; have k2 := hx3.c2; have kf := hx3.fr; have HB3 := Lib.hid (HB2.out.trans (hb3.mono HB2.out.size)); replace hx3 := Lib.hid hx3; clear hb3 c3))
        exact bodyPost_ret (results_adr rfl _ _ w.heap.size _ _ _ rfl (set_three hx3.out)) rfl ⟨rfl, below_three HB3.out (Nat.le_refl _) _ _ _⟩
      | some x2 =>
        obtain rfl : some ⟨[], x1, x2⟩ = R := hR
        go_enter Tryd.func46, Tryd.ntmps46
        go_wp2_with (first
          | (go_at_call 45; (with_reducible refine c1.mono ?_); rintro e w1 ⟨rfl, hb1⟩; have hx1 := Lib.hid ((HX.out.step hb1).step (below_box w1 (.cells #[.int .i64 1, .int .i64 2] 3))); have HB1 := Lib.hid ((HB.out.trans (hb1.mono HB.out.size)).alloc (HB.out.trans (hb1.mono HB.out.size)).size (.cells #[.int .i64 1, .int .i64 2] 3)); have HK1 := Lib.hid (kinds_new2 w1); clear hb1 c1)
          | (go_at_call 70; (with_reducible refine (c2 _ _ (Lib.hid (HT1.out.step HB1.out)) HK1).mono ?_); rintro e w2 ⟨rfl, hb2⟩; have hx2 := Lib.hid (hx1.out.step hb2); have HB2 := Lib.hid (HB1.out.trans (hb2.mono HB1.out.size)); clear hb2 c2)
          | (go_at_call 71; (with_reducible refine (c3 _ (Lib.hid (HT2.out.step HB2.out))).mono ?_); rintro e w3 ⟨rfl, hb3⟩; have hx3 := hx2.out.step hb3; have k0 := hx3.c0; have k1 := hx3.c1; have k2 := hx3.c2; have kf := hx3.fr; have HB3 := Lib.hid (HB2.out.trans (hb3.mono HB2.out.size)); replace hx3 := Lib.hid hx3; clear hb3 c3))
        exact bodyPost_ret (results_adr rfl _ _ w.heap.size _ _ _ rfl (set_three hx3.out)) rfl ⟨rfl, below_three HB3.out (Nat.le_refl _) _ _ _⟩
end Go.Proofs.YtgponokcigapaaaDoor
namespace Go.Proofs
open Go.Shelf Go.RowKit
theorem Tryd.Builder_WriteByte_k (B b : Nat) (bs : List Value) (c : Int) (w : World) (h : Lib.IsBuilderF 59 5 B b bs w) (hlen : bs.length + 1 ≤ 140737488355328) (hBw : B ≤ w.heap.size) :
    Calls Tryd.prog 72 #[.pointer (some ⟨b, 0, none⟩), .int .u8 c] w fun e w' => e = .returned .nilIface ∧ (Lib.BuilderAtF 59 5 B b (.pointer (some ⟨b, 0, none⟩)) (bs ++ [.int .u8 c]) w' ∧ Below B w w' ∧ Lib.OthersKept 5 (some b) w w') := Any.Builder_WriteByte_k Tryd.lays167 Tryd.Builder_Extra_167 B b bs c w h hlen hBw
theorem Tryd.Builder_WriteString_k (B b : Nat) (bs : List Value) (s : ByteArray) (w : World) (h : Lib.IsBuilderF 59 5 B b bs w) (hlen : bs.length + s.size ≤ 140737488355328) (hBw : B ≤ w.heap.size) :
    Calls Tryd.prog 39 #[.pointer (some ⟨b, 0, none⟩), .string s] w fun e w' => e = .returned (.tuple #[.int .i64 s.size, .nilIface]) ∧ (Lib.BuilderAtF 59 5 B b (.pointer (some ⟨b, 0, none⟩)) (bs ++ Lib.strCells s) w' ∧ Below B w w' ∧ Lib.OthersKept 5 (some b) w w') := Any.Builder_WriteString_k Tryd.lays166 Tryd.Builder_Extra_166 B b bs s w h hlen hBw
theorem Tryd.Builder_String_any_k (B b : Nat) (l : List UInt8) (w : World) (h : Lib.IsBuilderF 59 5 B b (Lib.byteCells l) w) (hBw : B ≤ w.heap.size) :
    Calls Tryd.prog 41 #[.pointer (some ⟨b, 0, none⟩)] w fun e w' => e = .returned (.string ⟨l.toArray⟩) ∧ (Lib.IsBuilderF 59 5 B b (Lib.byteCells l) w' ∧ Below B w w' ∧ Lib.OthersKept 5 (some b) w w') := Any.Builder_String_any_k Tryd.lays169 Tryd.Builder_Extra_169 B b l w h hBw
end Go.Proofs
namespace Go.Proofs.YtgponokcigapaaaDoor
open Go.ChangeShapes Go.WideShapes Go.ChangeAt Go.RowKit

/-- The strings.Builder in block b holds l. -/
def Bk (w : World) (b : Nat) (l : List UInt8) : Prop := Lib.IsBuilderF 59 5 b b (Lib.byteCells l) w
theorem bk_lt {w : World} {b : Nat} {l : List UInt8} (h : Bk w b l) : b < w.heap.size := h.elim (fun x => x.lt) (fun x => x.lt)
theorem bk_new (w : World) : Bk (w.alloc (.cells #[.pointer none, .slice none 0 0] 59)) w.heap.size [] := Lib.IsBuilderF.of (bd_first w)
theorem ownF_below {w w' : World} {base : Nat} {e : TypeId} {size : Nat} {v : Value} {n : Nat} {xs : List Value} (h : w.ownsRowF base e size v n xs) (hb : Below w.heap.size w w') : w'.ownsRowF base e size v n xs := by
  refine ⟨h.1, ?_⟩
  rcases h.2 with h1 | ⟨g, cap, cur, fz, rfl, hbg, hg, rest⟩
  · exact .inl h1
  · refine .inr ⟨g, cap, cur, fz, rfl, hbg, ?_, rest⟩
    rw [hb.block g (Array.getElem?_eq_some_iff.1 hg).1]
    exact hg
theorem builtF_below {T e : TypeId} {B b : Nat} {p : Value} {bs : List Value} {w w' : World} (h : Lib.BuilderAtF T e B b p bs w) (hb : Below w.heap.size w w') : Lib.BuilderAtF T e B b p bs w' := by
  have hlt := h.lt
  obtain ⟨hB, v, hk, hown, hne⟩ := h
  exact ⟨hB, v, by rw [hb.block b hlt]; exact hk, ownF_below hown hb, hne⟩
theorem Bk.below {w w' : World} {b : Nat} {l : List UInt8} (h : Bk w b l) (hb : Below w.heap.size w w') : Bk w' b l := h.elim (fun x => .inl (builtF_below x hb)) (fun x => .inr (builtF_below x hb))
theorem Bk.alloc {w : World} {b : Nat} {l : List UInt8} (h : Bk w b l) (o : Obj) : Bk (w.alloc o) b l := h.below ((Below.refl _ _).alloc (Nat.le_refl _) _)
theorem bk_str (s : ByteArray) (b : Nat) (l : List UInt8) (w : World) (h : Bk w b l) (hlen : l.length + s.size ≤ 140737488355328) :
    Calls Tryd.prog 39 #[.pointer (some ⟨b, 0, none⟩), .string s] w fun e w' => e = .returned (.tuple #[.int .i64 s.size, .nilIface]) ∧ Bk w' b (l ++ s.data.toList) ∧ Below b w w' ∧ Lib.OthersKept 5 (some b) w w' := by
  refine (Tryd.Builder_WriteString_k b b (Lib.byteCells l) s w h (by rw [Lib.byteCells_length]; exact hlen) (Nat.le_of_lt (bk_lt h))).mono fun e w' hh => ⟨hh.1, ?_, hh.2.2⟩
  have := hh.2.1
  rw [show Lib.strCells s = Lib.byteCells s.data.toList from rfl, ← Lib.byteCells_append] at this
  exact .inr this
theorem bk_byte (c : UInt8) (x : Int) (hx : (c.toNat : Int) = x) (b : Nat) (l : List UInt8) (w : World) (h : Bk w b l) (hlen : l.length + 1 ≤ 140737488355328) :
    Calls Tryd.prog 72 #[.pointer (some ⟨b, 0, none⟩), .int .u8 x] w fun e w' => e = .returned .nilIface ∧ Bk w' b (l ++ [c]) ∧ Below b w w' ∧ Lib.OthersKept 5 (some b) w w' := by
  subst hx
  refine (Tryd.Builder_WriteByte_k b b (Lib.byteCells l) c.toNat w h (by rw [Lib.byteCells_length]; exact hlen) (Nat.le_of_lt (bk_lt h))).mono fun e w' hh => ⟨hh.1, ?_, hh.2.2⟩
  have := hh.2.1
  rw [show [Value.int .u8 (c.toNat : Int)] = Lib.byteCells [c] from rfl, ← Lib.byteCells_append] at this
  exact .inr this
theorem bk_out (b : Nat) (l : List UInt8) (w : World) (h : Bk w b l) :
    Calls Tryd.prog 41 #[.pointer (some ⟨b, 0, none⟩)] w fun e w' => e = .returned (.string (strL l)) ∧ Below b w w' :=
  (Tryd.Builder_String_any_k b b l w h (Nat.le_of_lt (bk_lt h))).mono fun _ _ hh => ⟨hh.1, hh.2.2.1⟩
/-- A cell of an object that holds no single bytes and is not the builder's stays. -/
theorem cell_others {w w' : World} {b g o : Nat} {cs : Array Value} {t : TypeId} {fz : Nat × Nat} {v : Value} (hg : w.heap[g]? = some (.cells cs t fz)) (hk : Lib.OthersKept 5 (some b) w w') (hne : g ≠ b) (ht : t ≠ 5) (h : w.cell? ⟨g, o, none⟩ = some v) : w'.cell? ⟨g, o, none⟩ = some v := by
  have := hk g _ hg (by simp; exact hne) (fun c fz' e => by injection e with _ e _; exact ht e)
  rw [World.cell?_of_block (w := w) (this.trans hg.symm)]
  exact h
end Go.Proofs.YtgponokcigapaaaDoor
namespace Go.Proofs.YtgponokcigapaaaDoor
open Go.ChangeShapes Go.WideShapes Go.ChangeAt Go.RowKit
open TokP AdrP

theorem findI_zero {c : UInt8} {l : List Tok} (h : findI c l = 0) : ∃ t r, l = t :: r ∧ isS t c = true := by
  cases l with
  | nil => unfold findI at h; simp at h
  | cons t r =>
    refine ⟨t, r, rfl, ?_⟩
    unfold findI at h
    split at h
    · have h0 : findN c (t :: r) = 0 := by omega
      have := find_at (c := c) (l := t :: r) (by rw [h0]; simp)
      rw [h0] at this
      obtain rfl : t = ⟨4, [c]⟩ := by simpa using this
      exact (isS_iff _ _).2 rfl
    · omega
theorem findI_ne {c : UInt8} {l : List Tok} (h : findI c l ≠ 0) : ∀ t r, l = t :: r → isS t c = false := fun t r e => by
  rw [← Bool.not_eq_true]
  intro ht
  subst e
  have e0 : findN c (t :: r) = 0 := by unfold findN upToS; rw [List.takeWhile_cons_of_neg (by simp [ht])]; rfl
  unfold findI at h
  rw [e0, if_pos (by simp)] at h
  exact h rfl
theorem routed_same {l : List Tok} (h : findI 64 l ≠ 0) : routed l = l := by
  have := findI_ne h
  unfold routed
  cases l with
  | nil => rfl
  | cons t r => dsimp only; rw [if_neg (by rw [this t r rfl]; exact Bool.false_ne_true)]
theorem routed_cut {l : List Tok} (h : findI 64 l = 0) : ∃ p : Nat, findI 58 l + 1 = p ∧ p ≤ l.length ∧ routed l = l.drop p := by
  obtain ⟨t, r, rfl, ht⟩ := findI_zero h
  have e : routed (t :: r) = (match fromS 58 (t :: r) with
    | [] => t :: r
    | _ :: d => d) := by
    unfold routed
    dsimp only
    rw [if_pos ht]
    cases fromS 58 (t :: r) <;> rfl
  cases hf : fromS 58 (t :: r) with
  | nil => exact ⟨0, by rw [findI_no hf]; rfl, Nat.zero_le _, by rw [e, hf]; rfl⟩
  | cons x d =>
    obtain ⟨k, hk, hi, _, _, hd⟩ := findI_yes hf
    exact ⟨k + 1, by rw [hi]; omega, by omega, by rw [e, hf, hd]⟩
set_option maxHeartbeats 2000000 in
theorem unrouted_p (v : Value) (l : List Tok) (hm : Mod l) (w : World) (h : Hid (HasT w v l)) :
    Calls Tryd.prog 48 #[v] w fun e w' => ∃ u, e = .returned u ∧ HasT w' u (routed l) ∧ Below w.heap.size w w' := by
  have cF := fun c r (hr : findI c l = r) W (h : Hid (HasT W v l)) => find_any v l c r hr hm.1 W h
  obtain ⟨a, cp, rfl, hcap, hf0⟩ := h.out
  by_cases h0 : findI 64 l = 0
  · obtain ⟨p, hp, hpl, hrt⟩ := routed_cut h0
    obtain ⟨q, hq⟩ : ∃ q, findI 58 l = q := ⟨_, rfl⟩
    rw [hq] at hp
    have c1 := cF 64 0 h0 w h
    have c2 := cF 58 q hq
    obtain ⟨A2, C2, hr2, ht2⟩ := run_sub_from h.out p (q + 1) hp hpl
    have F1 : IntKind.i64.wrap (q + 1) = q + 1 := by rw [IntKind.wrap_i64]; have := hm.1; omega
    rw [hrt]
    obtain ⟨m, hm2⟩ : ∃ m, l.length - p = m := ⟨_, rfl⟩
    rw [hm2] at hr2 ht2
    have HT := Lib.hid ht2
    have HH := h.out
    obtain ⟨n, hn⟩ : ∃ n, l.length = n := ⟨_, rfl⟩
    rw [hn] at hr2 c1 c2 HH ⊢
    have HV := Lib.hid HH
    clear cF h0 hp hpl hrt hq hm2 ht2 hm hcap hf0 hn h HH
    go_enter Tryd.func48, Tryd.ntmps48
    go_wp2_with (first
      | (go_at_call 45; (with_reducible refine c1.mono ?_); rintro e w1 ⟨rfl, hb1⟩; clear c1; have HB1 := Lib.hid hb1; clear hb1)
      | (go_at_call 45; (with_reducible refine (c2 _ (Lib.hid (HV.out.step HB1.out))).mono ?_); rintro e w2 ⟨rfl, hb2⟩; have HB2 := Lib.hid (Qtrans HB1.out hb2); clear hb2 c2))
    go_ret
    exact ⟨_, rfl, HT.out.step HB2.out, HB2.out⟩
  · obtain ⟨q, hq⟩ : ∃ q, findI 64 l = q := ⟨_, rfl⟩
    have c1 := cF 64 q hq w h
    rw [routed_same h0]
    rw [hq] at h0
    have g0 : (q != 0) = true := by rw [bne_iff_ne]; exact h0
    have HH := Lib.hid h.out
    clear cF h0 hq hm hf0 h
    go_enter Tryd.func48, Tryd.ntmps48
    go_wp2_with (go_at_call 45; (with_reducible refine c1.mono ?_); rintro e w1 ⟨rfl, hb1⟩; clear c1)
    go_ret
    exact ⟨_, rfl, HH.out.step hb1, hb1⟩
/-! ### display -/
theorem tok_kept {w w' : World} {K X : Value} (hb : Below (w.alloc (.cells #[K, X] 43)).heap.size (w.alloc (.cells #[K, X] 43)) w') : w'.heap[w.heap.size]? = some (.cells #[K, X] 43 (0, 0)) :=
  (hb.block _ (by rw [World.size_alloc]; omega)).trans (World.alloc_heap_new w _)
def sepL (t : Tok) : List UInt8 := if isS t 46 = true then [] else [32]
theorem nameR_snoc : ∀ (X : List Tok) (t : Tok), nameR (X ++ [t]) = nameR X ++ (sepL t ++ valueL t)
  | [], t => by show sepL t ++ valueL t ++ nameR [] = _; rw [nameR, List.append_nil]; rfl
  | x :: X, t => by
    show sepL x ++ valueL x ++ nameR (X ++ [t]) = sepL x ++ valueL x ++ nameR X ++ _
    rw [nameR_snoc]
    simp only [List.append_assoc]
theorem nameL_snoc (X : List Tok) (t : Tok) (hX : X ≠ []) : nameL (X ++ [t]) = nameL X ++ (sepL t ++ valueL t) := by
  cases X with
  | nil => exact absurd rfl hX
  | cons x X =>
    show valueL x ++ nameR (X ++ [t]) = valueL x ++ nameR X ++ _
    rw [nameR_snoc, List.append_assoc]
theorem nameL_first (t : Tok) : nameL [t] = valueL t := by show valueL t ++ nameR [] = _; rw [nameR, List.append_nil]
theorem name_step0 {l : List Tok} {t : Tok} (h : l[0]? = some t) : nameL (l.take 1) = valueL t := by
  rw [show l.take 1 = [t] by rw [List.take_add_one, h]; rfl, nameL_first]
theorem name_step {l : List Tok} {k : Nat} {t : Tok} (h : l[k]? = some t) (hk : k ≠ 0) : nameL (l.take (k + 1)) = nameL (l.take k) ++ (sepL t ++ valueL t) := by
  rw [List.take_add_one, h]
  refine nameL_snoc _ t ?_
  intro e
  have := congrArg List.length e
  rw [List.length_take, List.length_nil] at this
  have := (List.getElem?_eq_some_iff.1 h).1
  omega
theorem names_take {l : List Tok} {k : Nat} {t : Tok} (h : l[k]? = some t) (hp : (l.take k).all nameT = true) (hf : nameT t = true) : (l.take (k + 1)).all nameT = true := by
  rw [List.take_add_one, h, List.all_append, hp]
  simp [hf]
theorem names_bad {l : List Tok} {k : Nat} {t : Tok} (h : l[k]? = some t) (hf : nameT t = false) : l.all nameT = false := by
  rw [List.all_eq_false]
  exact ⟨t, List.mem_of_getElem? h, by rw [hf]; exact Bool.false_ne_true⟩
/-- What display answers. -/
def dispR (l : List Tok) : Option (List UInt8) := if l.all nameT = true then some (nameL l) else none
set_option maxHeartbeats 4000000 in
theorem display_p (v : Value) (l : List Tok) (hm : Mod l) (R : Option (List UInt8)) (hR : dispR l = R) (w : World) (h : Hid (HasT w v l)) :
    Calls Tryd.prog 47 #[v] w fun e w' => e = .returned (.tuple #[.string (strL (R.getD [])), .bool R.isSome]) ∧ Below w.heap.size w w' := by
  obtain ⟨a, cp, rfl, _, hf0⟩ := h.out
  obtain ⟨n, hnn⟩ : ∃ n, l.length = n := ⟨_, rfl⟩
  have hn := hm.1
  rw [hnn] at hn hf0 ⊢
  have HN := Lib.hid hnn
  have H := Lib.hid hf0
  have HT := Lib.hid (fun (k : Nat) (f : Tok) (h : l[k]? = some f) => hm.2 f (List.mem_of_getElem? h))
  have HR := Lib.hid hR
  have HST := Lib.hid (show Bk (w.alloc (.cells #[.pointer none, .slice none 0 0] 59)) w.heap.size [] ∧ Below w.heap.size w (w.alloc (.cells #[.pointer none, .slice none 0 0] 59)) from ⟨bk_new w, (Below.refl _ w).alloc (Nat.le_refl _) _⟩)
  clear hnn hf0 h hm hR
  go_enter Tryd.func47, Tryd.ntmps47
  go_wp2_with fail
  go_loopw [10] (fun x wr => ∃ (k : Nat) (T : List UInt8), k ≤ n ∧ x = .int .i64 k ∧ Hid (T.length ≤ k * 1000001) ∧ Hid (nameL (l.take k) = T) ∧ Hid ((l.take k).all nameT = true) ∧ Hid (Bk wr w.heap.size T ∧ Below w.heap.size w wr)) (fun x _ => n - (intOf x).toNat)
  case atStart => exact ⟨0, [], Nat.zero_le _, rfl, Nat.zero_le _, rfl, rfl, HST⟩
  case round =>
    obtain ⟨k, T, hk, rfl, HL, HT2, HA, HB⟩ := hrel
    have F1 : IntKind.i64.wrap ((k : Int) + 1) = (k : Int) + 1 := by rw [IntKind.wrap_i64]; omega
    by_cases hlt : k < n
    · have hlt' : (k : Int) < (n : Int) := by omega
      obtain ⟨g, o, rfl, hfa⟩ := H.out.at (by omega)
      obtain ⟨t, ht⟩ : ∃ t, l[k]? = some t := ⟨_, List.getElem?_eq_getElem (by rw [HN.out]; exact hlt)⟩
      obtain ⟨q0, q1⟩ := hfa.step HB.out.2 k t ht
      have cV := tok_value t (HT.out k t ht)
      have cS := special_any t
      have e46 := spec_eq t 46
      have hvl := value_le t
      have htl := HT.out k t ht
      have HBx := Lib.hid (fun o => HB.out.2.alloc HB.out.2.size o)
      have hbdA := HB.out.1
      have hkk : k ≤ 1000000 := by omega
      have hz1 := HL.out
      have hnt : Hid (∀ b, nameT t = b → nameT t = b) := fun _ h => h
      have HNT := Lib.hid (fun (hf : nameT t = true) => names_take ht HA.out hf)
      have HNF := Lib.hid (fun (hf : nameT t = false) => show none = R by rw [← HR.out]; unfold dispR; rw [names_bad ht hf]; rfl)
      have HS0 := Lib.hid (fun (h0 : k = 0) => show nameL (l.take (k + 1)) = T ++ valueL t by
        subst h0
        rw [name_step0 ht, ← HT2.out]; rfl)
      have HS1 := Lib.hid (fun (h0 : k ≠ 0) => (name_step ht h0).trans (congrArg (· ++ (sepL t ++ valueL t)) HT2.out))
      have HBW := Lib.hid (fun W T' (hT' : T'.length ≤ 10000000000000) (h : Bk W w.heap.size T') => bk_str (strL (valueL t)) w.heap.size T' W h (by rw [strL_size]; omega))
      rw [strL_list] at HBW
      cases h46 : isS t 46 with
      | true =>
        rw [h46] at e46
        have hname : nameT t = true := by unfold nameT; rw [h46]; exact Bool.or_true _
        have hsep : sepL t = [] := by unfold sepL; rw [if_pos h46]
        by_cases hk0 : k = 0
        · have HS := Lib.hid (HS0.out hk0)
          have HZ := Lib.hid (show (T ++ valueL t).length ≤ (k + 1) * 1000001 by rw [List.length_append]; omega)
          have HN2 := Lib.hid (HNT.out hname)
          have gk : ¬ (0 : Int) < (k : Int) := by omega
          generalize strL (specL t) = S at cS e46
          generalize strL (valueL t) = V at cV HBW
          generalize strL t.text = X at q1 cV cS
          generalize ((t.kind : Nat) : Int) = K at q0 cV cS
          clear ht hfa HR hvl htl HNT HNF HS0 HS1 hnt hname hsep h46 hk0
          go_wp2_with (first
            | (go_at_call 44; (with_reducible refine (cS _).mono ?_); rintro e w2 ⟨rfl, hb2⟩; have hb3 := Lib.hid ((HBx.out _).trans (hb2.mono (HBx.out _).size)); have hbd3 := Lib.hid ((hbdA.alloc _).below hb2); have cA := cell_below (copy_kind wr (.int .i64 K) (.string X) 43) hb2; have cB := cell_below (copy_text wr (.int .i64 K) (.string X) 43) hb2; have hgk := Lib.hid (tok_kept hb2); clear hb2)
            | (go_at_call 73; (with_reducible refine (cV _).mono ?_); rintro e w3 ⟨rfl, hb5⟩; have hb4 := Lib.hid (hb3.out.trans (hb5.mono hb3.out.size)); have hbd4 := Lib.hid (hbd3.out.below hb5); clear hb5)
            | (go_at_call 39; (with_reducible refine (HBW.out _ _ (by omega) hbd4.out).mono ?_); rintro e w5 ⟨rfl, hbd5, hb5, _⟩; have hb6 := Lib.hid (hb4.out.trans hb5); replace hbd5 := Lib.hid hbd5; clear hb5))
          go_roundw
          case rel => exact ⟨k + 1, _, by omega, by go_num, HZ, HS, HN2, Lib.hid ⟨hbd5.out, hb6.out⟩⟩
          case measure => simp [intOf]; omega
        · have HS := Lib.hid (show nameL (l.take (k + 1)) = T ++ valueL t by rw [HS1.out hk0, hsep, List.nil_append])
          have HZ := Lib.hid (show (T ++ valueL t).length ≤ (k + 1) * 1000001 by rw [List.length_append]; omega)
          have HN2 := Lib.hid (HNT.out hname)
          have gk : (0 : Int) < (k : Int) := by omega
          generalize strL (specL t) = S at cS e46
          generalize strL (valueL t) = V at cV HBW
          generalize strL t.text = X at q1 cV cS
          generalize ((t.kind : Nat) : Int) = K at q0 cV cS
          clear ht hfa HR hvl htl HNT HNF HS0 HS1 hnt hname hsep h46 hk0
          go_wp2_with (first
            | (go_at_call 44; (with_reducible refine (cS _).mono ?_); rintro e w2 ⟨rfl, hb2⟩; have hb3 := Lib.hid ((HBx.out _).trans (hb2.mono (HBx.out _).size)); have hbd3 := Lib.hid ((hbdA.alloc _).below hb2); have cA := cell_below (copy_kind wr (.int .i64 K) (.string X) 43) hb2; have cB := cell_below (copy_text wr (.int .i64 K) (.string X) 43) hb2; have hgk := Lib.hid (tok_kept hb2); clear hb2)
            | (go_at_call 73; (with_reducible refine (cV _).mono ?_); rintro e w3 ⟨rfl, hb5⟩; have hb4 := Lib.hid (hb3.out.trans (hb5.mono hb3.out.size)); have hbd4 := Lib.hid (hbd3.out.below hb5); clear hb5)
            | (go_at_call 39; (with_reducible refine (HBW.out _ _ (by omega) hbd4.out).mono ?_); rintro e w5 ⟨rfl, hbd5, hb5, _⟩; have hb6 := Lib.hid (hb4.out.trans hb5); replace hbd5 := Lib.hid hbd5; clear hb5))
          go_roundw
          case rel => exact ⟨k + 1, _, by omega, by go_num, HZ, HS, HN2, Lib.hid ⟨hbd5.out, hb6.out⟩⟩
          case measure => simp [intOf]; omega
      | false =>
        rw [h46] at e46
        by_cases h1 : t.kind = 1
        · have hname : nameT t = true := by unfold nameT wordT; rw [h1]; rfl
          have hsep : sepL t = [32] := by unfold sepL; rw [if_neg (by rw [h46]; exact Bool.false_ne_true)]
          rw [h1] at q0 cV cS
          by_cases hk0 : k = 0
          · have HS := Lib.hid (HS0.out hk0)
            have HZ := Lib.hid (show (T ++ valueL t).length ≤ (k + 1) * 1000001 by rw [List.length_append]; omega)
            have HN2 := Lib.hid (HNT.out hname)
            have gk : ¬ (0 : Int) < (k : Int) := by omega
            generalize strL (specL t) = S at cS e46
            generalize strL (valueL t) = V at cV HBW
            generalize strL t.text = X at q1 cV cS
            obtain ⟨K, hK⟩ : ∃ K : Int, ((1 : Nat) : Int) = K := ⟨_, rfl⟩
            rw [hK] at q0 cV cS
            obtain rfl : K = 1 := hK.symm
            clear hK
            clear ht hfa HR hvl htl HNT HNF HS0 HS1 hnt hname hsep h46 hk0
            go_wp2_with (first
              | (go_at_call 44; (with_reducible refine (cS _).mono ?_); rintro e w2 ⟨rfl, hb2⟩; have hb3 := Lib.hid ((HBx.out _).trans (hb2.mono (HBx.out _).size)); have hbd3 := Lib.hid ((hbdA.alloc _).below hb2); have cA := cell_below (copy_kind wr (.int .i64 1) (.string X) 43) hb2; have cB := cell_below (copy_text wr (.int .i64 1) (.string X) 43) hb2; have hgk := Lib.hid (tok_kept hb2); clear hb2)
              | (go_at_call 73; (with_reducible refine (cV _).mono ?_); rintro e w3 ⟨rfl, hb5⟩; have hb4 := Lib.hid (hb3.out.trans (hb5.mono hb3.out.size)); have hbd4 := Lib.hid (hbd3.out.below hb5); clear hb5)
              | (go_at_call 39; (with_reducible refine (HBW.out _ _ (by omega) hbd4.out).mono ?_); rintro e w5 ⟨rfl, hbd5, hb5, _⟩; have hb6 := Lib.hid (hb4.out.trans hb5); replace hbd5 := Lib.hid hbd5; clear hb5))
            go_roundw
            case rel => exact ⟨k + 1, _, by omega, by go_num, HZ, HS, HN2, Lib.hid ⟨hbd5.out, hb6.out⟩⟩
            case measure => simp [intOf]; omega
          · have HS := Lib.hid (show nameL (l.take (k + 1)) = (T ++ [32]) ++ valueL t by rw [HS1.out hk0, hsep, List.append_assoc])
            have HZ := Lib.hid (show ((T ++ [32]) ++ valueL t).length ≤ (k + 1) * 1000001 by simp; omega)
            have HN2 := Lib.hid (HNT.out hname)
            have gk : (0 : Int) < (k : Int) := by omega
            generalize strL (specL t) = S at cS e46
            generalize strL (valueL t) = V at cV HBW
            generalize strL t.text = X at q1 cV cS
            obtain ⟨K, hK⟩ : ∃ K : Int, ((1 : Nat) : Int) = K := ⟨_, rfl⟩
            rw [hK] at q0 cV cS
            obtain rfl : K = 1 := hK.symm
            clear hK
            clear ht hfa HR hvl htl HNT HNF HS0 HS1 hnt hname hsep h46 hk0
            have cB1 := fun W (h : Bk W w.heap.size T) => bk_byte 32 32 rfl w.heap.size T W h (by omega)
            have hwz := Lib.hid (show wr.heap.size ≠ w.heap.size from Nat.ne_of_gt (bk_lt HB.out.1))
            go_wp2_with (first
              | (go_at_call 44; (with_reducible refine (cS _).mono ?_); rintro e w2 ⟨rfl, hb2⟩; have hb3 := Lib.hid ((HBx.out _).trans (hb2.mono (HBx.out _).size)); have hbd3 := Lib.hid ((hbdA.alloc _).below hb2); have cA := cell_below (copy_kind wr (.int .i64 1) (.string X) 43) hb2; have cB := cell_below (copy_text wr (.int .i64 1) (.string X) 43) hb2; have hgk := Lib.hid (tok_kept hb2); clear hb2)
              | (go_at_call 72; (with_reducible refine (cB1 _ hbd3.out).mono ?_); rintro e w2b ⟨rfl, hbd2, hb2, hk2⟩; replace hb3 := Lib.hid (hb3.out.trans hb2); replace hbd3 := Lib.hid hbd2; replace cA := cell_others hgk.out hk2 hwz.out (by decide) cA; replace cB := cell_others hgk.out hk2 hwz.out (by decide) cB; clear hb2 hbd2 hk2)
              | (go_at_call 73; (with_reducible refine (cV _).mono ?_); rintro e w3 ⟨rfl, hb5⟩; have hb4 := Lib.hid (hb3.out.trans (hb5.mono hb3.out.size)); have hbd4 := Lib.hid (hbd3.out.below hb5); clear hb5)
              | (go_at_call 39; (with_reducible refine (HBW.out _ _ (by have := hz1; simp; omega) hbd4.out).mono ?_); rintro e w5 ⟨rfl, hbd5, hb5, _⟩; have hb6 := Lib.hid (hb4.out.trans hb5); replace hbd5 := Lib.hid hbd5; clear hb5))
            go_roundw
            case rel => exact ⟨k + 1, _, by omega, by go_num, HZ, HS, HN2, Lib.hid ⟨hbd5.out, hb6.out⟩⟩
            case measure => simp [intOf]; omega
        · by_cases h2 : t.kind = 2
          · have hname : nameT t = true := by unfold nameT wordT; rw [h2]; rfl
            have hsep : sepL t = [32] := by unfold sepL; rw [if_neg (by rw [h46]; exact Bool.false_ne_true)]
            rw [h2] at q0 cV cS
            by_cases hk0 : k = 0
            · have HS := Lib.hid (HS0.out hk0)
              have HZ := Lib.hid (show (T ++ valueL t).length ≤ (k + 1) * 1000001 by rw [List.length_append]; omega)
              have HN2 := Lib.hid (HNT.out hname)
              have gk : ¬ (0 : Int) < (k : Int) := by omega
              generalize strL (specL t) = S at cS e46
              generalize strL (valueL t) = V at cV HBW
              generalize strL t.text = X at q1 cV cS
              obtain ⟨K, hK⟩ : ∃ K : Int, ((2 : Nat) : Int) = K := ⟨_, rfl⟩
              rw [hK] at q0 cV cS
              obtain rfl : K = 2 := hK.symm
              clear hK
              clear ht hfa HR hvl htl HNT HNF HS0 HS1 hnt hname hsep h46 hk0
              go_wp2_with (first
                | (go_at_call 44; (with_reducible refine (cS _).mono ?_); rintro e w2 ⟨rfl, hb2⟩; have hb3 := Lib.hid ((HBx.out _).trans (hb2.mono (HBx.out _).size)); have hbd3 := Lib.hid ((hbdA.alloc _).below hb2); have cA := cell_below (copy_kind wr (.int .i64 2) (.string X) 43) hb2; have cB := cell_below (copy_text wr (.int .i64 2) (.string X) 43) hb2; have hgk := Lib.hid (tok_kept hb2); clear hb2)
                | (go_at_call 73; (with_reducible refine (cV _).mono ?_); rintro e w3 ⟨rfl, hb5⟩; have hb4 := Lib.hid (hb3.out.trans (hb5.mono hb3.out.size)); have hbd4 := Lib.hid (hbd3.out.below hb5); clear hb5)
                | (go_at_call 39; (with_reducible refine (HBW.out _ _ (by omega) hbd4.out).mono ?_); rintro e w5 ⟨rfl, hbd5, hb5, _⟩; have hb6 := Lib.hid (hb4.out.trans hb5); replace hbd5 := Lib.hid hbd5; clear hb5))
              go_roundw
              case rel => exact ⟨k + 1, _, by omega, by go_num, HZ, HS, HN2, Lib.hid ⟨hbd5.out, hb6.out⟩⟩
              case measure => simp [intOf]; omega
            · have HS := Lib.hid (show nameL (l.take (k + 1)) = (T ++ [32]) ++ valueL t by rw [HS1.out hk0, hsep, List.append_assoc])
              have HZ := Lib.hid (show ((T ++ [32]) ++ valueL t).length ≤ (k + 1) * 1000001 by simp; omega)
              have HN2 := Lib.hid (HNT.out hname)
              have gk : (0 : Int) < (k : Int) := by omega
              generalize strL (specL t) = S at cS e46
              generalize strL (valueL t) = V at cV HBW
              generalize strL t.text = X at q1 cV cS
              obtain ⟨K, hK⟩ : ∃ K : Int, ((2 : Nat) : Int) = K := ⟨_, rfl⟩
              rw [hK] at q0 cV cS
              obtain rfl : K = 2 := hK.symm
              clear hK
              clear ht hfa HR hvl htl HNT HNF HS0 HS1 hnt hname hsep h46 hk0
              have cB1 := fun W (h : Bk W w.heap.size T) => bk_byte 32 32 rfl w.heap.size T W h (by omega)
              have hwz := Lib.hid (show wr.heap.size ≠ w.heap.size from Nat.ne_of_gt (bk_lt HB.out.1))
              go_wp2_with (first
                | (go_at_call 44; (with_reducible refine (cS _).mono ?_); rintro e w2 ⟨rfl, hb2⟩; have hb3 := Lib.hid ((HBx.out _).trans (hb2.mono (HBx.out _).size)); have hbd3 := Lib.hid ((hbdA.alloc _).below hb2); have cA := cell_below (copy_kind wr (.int .i64 2) (.string X) 43) hb2; have cB := cell_below (copy_text wr (.int .i64 2) (.string X) 43) hb2; have hgk := Lib.hid (tok_kept hb2); clear hb2)
                | (go_at_call 72; (with_reducible refine (cB1 _ hbd3.out).mono ?_); rintro e w2b ⟨rfl, hbd2, hb2, hk2⟩; replace hb3 := Lib.hid (hb3.out.trans hb2); replace hbd3 := Lib.hid hbd2; replace cA := cell_others hgk.out hk2 hwz.out (by decide) cA; replace cB := cell_others hgk.out hk2 hwz.out (by decide) cB; clear hb2 hbd2 hk2)
                | (go_at_call 73; (with_reducible refine (cV _).mono ?_); rintro e w3 ⟨rfl, hb5⟩; have hb4 := Lib.hid (hb3.out.trans (hb5.mono hb3.out.size)); have hbd4 := Lib.hid (hbd3.out.below hb5); clear hb5)
                | (go_at_call 39; (with_reducible refine (HBW.out _ _ (by have := hz1; simp; omega) hbd4.out).mono ?_); rintro e w5 ⟨rfl, hbd5, hb5, _⟩; have hb6 := Lib.hid (hb4.out.trans hb5); replace hbd5 := Lib.hid hbd5; clear hb5))
              go_roundw
              case rel => exact ⟨k + 1, _, by omega, by go_num, HZ, HS, HN2, Lib.hid ⟨hbd5.out, hb6.out⟩⟩
              case measure => simp [intOf]; omega
          · have hname : nameT t = false := by unfold nameT wordT; rw [h46, beq_eq_false_iff_ne.2 h1, beq_eq_false_iff_ne.2 h2]; rfl
            have n1 : (((t.kind : Nat) : Int) != 1) = true := by rw [bne_iff_ne]; omega
            have n2 : (((t.kind : Nat) : Int) != 2) = true := by rw [bne_iff_ne]; omega
            obtain rfl : none = R := HNF.out hname
            generalize strL (specL t) = S at cS e46
            generalize strL (valueL t) = V at cV HBW
            generalize strL t.text = X at q1 cV cS
            generalize ((t.kind : Nat) : Int) = K at q0 cV cS n1 n2
            clear ht hfa HR hvl htl HNT HNF HS0 HS1 hnt hname h1 h2 h46
            go_wp2_with (go_at_call 44; (with_reducible refine (cS _).mono ?_); rintro e w2 ⟨rfl, hb2⟩; have hb3 := Lib.hid ((HBx.out _).trans (hb2.mono (HBx.out _).size)); have hbd3 := Lib.hid ((hbdA.alloc _).below hb2); have cA := cell_below (copy_kind wr (.int .i64 K) (.string X) 43) hb2; have cB := cell_below (copy_text wr (.int .i64 K) (.string X) 43) hb2; have hgk := Lib.hid (tok_kept hb2); clear hb2)
            go_ret2
            exact ⟨rfl, hb3.out⟩
    · obtain rfl : k = n := by omega
      have hlt' : ¬ (k : Int) < (k : Int) := by omega
      have hT : l.take k = l := List.take_of_length_le (by rw [HN.out]; exact Nat.le_refl _)
      obtain rfl : some T = R := by
        have h1 := HA.out
        have h2 := HT2.out
        rw [hT] at h1 h2
        rw [← HR.out]
        unfold dispR
        rw [if_pos h1, h2]
      have hO := bk_out _ _ _ HB.out.1
      clear hT HR HA HT2
      go_wp2_with (go_at_call 41; (with_reducible refine hO.mono ?_); rintro e w3 ⟨rfl, hb3⟩)
      go_ret2
      exact ⟨rfl, HB.out.2.trans hb3⟩
end Go.Proofs.YtgponokcigapaaaDoor
namespace Go.Proofs.YtgponokcigapaaaDoor
open Go.ChangeShapes Go.WideShapes Go.ChangeAt Go.RowKit
open TokP AdrP

def esc1 (c : UInt8) : List UInt8 := if c = 34 ∨ c = 92 then [92, c] else [c]
theorem escQ_snoc : ∀ (X : List UInt8) (c : UInt8), escQ (X ++ [c]) = escQ X ++ esc1 c
  | [], c => by
    show (if c = 34 ∨ c = 92 then 92 :: c :: escQ [] else c :: escQ []) = [] ++ esc1 c
    unfold esc1
    split <;> rfl
  | d :: X, c => by
    rw [List.cons_append, escQ, escQ, escQ_snoc X c]
    split <;> rfl
theorem escQ_step {l : List UInt8} {k : Nat} {c : UInt8} (h : l[k]? = some c) : escQ (l.take (k + 1)) = escQ (l.take k) ++ esc1 c := by
  rw [List.take_add_one, h]
  exact escQ_snoc _ _
theorem escQ_len : ∀ l : List UInt8, (escQ l).length ≤ 2 * l.length
  | [] => Nat.le_refl _
  | c :: t => by
    have := escQ_len t
    rw [escQ]
    split
    · rw [List.length_cons, List.length_cons, List.length_cons]; omega
    · rw [List.length_cons, List.length_cons]; omega
theorem escQ_take (l : List UInt8) (k : Nat) : (escQ (l.take k)).length ≤ 2 * k := by
  have h1 := escQ_len (l.take k)
  have h2 := List.length_take_le k l
  omega
set_option maxHeartbeats 2000000 in
theorem quoted_p (s : ByteArray) (hs : s.size ≤ 1000000) (w : World) :
    Calls Tryd.prog 62 #[.string s] w fun e w' => e = .returned (.string (strL (34 :: (escQ s.data.toList ++ [34])))) ∧ Below w.heap.size w w' := by
  obtain ⟨n, hn⟩ : ∃ n, s.size = n := ⟨_, rfl⟩
  have HL := Lib.hid (size_list s)
  rw [hn] at hs
  have HN := Lib.hid hn
  have b0 := bk_new w
  have cW := bk_byte 34 34 rfl _ _ _ b0 (by simp)
  have HB0 := Lib.hid (below_box w (.cells #[.pointer none, .slice none 0 0] 59))
  clear b0
  go_enter Tryd.func62, Tryd.ntmps62
  go_wp2_with (go_at_call 72; (with_reducible refine cW.mono ?_); rintro e w1 ⟨rfl, hbd1, hb1, _⟩; have HST := Lib.hid (And.intro hbd1 (HB0.out.trans hb1)); clear hbd1 hb1 cW)
  go_loopw [8] (fun i wr => ∃ k : Nat, k ≤ n ∧ i = .int .i64 k ∧ Hid (Bk wr w.heap.size (34 :: escQ (s.data.toList.take k)) ∧ Below w.heap.size w wr)) (fun i _ => n - (intOf i).toNat)
  case atStart => exact ⟨0, Nat.zero_le _, rfl, HST⟩
  case round =>
    obtain ⟨k, hk, rfl, hst⟩ := hrel
    have F1 : IntKind.i64.wrap ((k : Int) + 1) = (k : Int) + 1 := by rw [IntKind.wrap_i64]; omega
    by_cases hlt : k < n
    · have hlt' : (k : Int) < (n : Int) := by omega
      obtain ⟨c, x, hc, hx, hx2, S1⟩ := run_byte s k (by rw [hn]; exact hlt)
      have hstep := escQ_step hc
      have hle := escQ_take s.data.toList k
      have e34 := byte_is c x hx 34 (by decide)
      have e92 := byte_is c x hx 92 (by decide)
      rw [show ((34 : Nat) : Int) = 34 from rfl] at e34
      rw [show ((92 : Nat) : Int) = 92 from rfl] at e92
      have c1 := bk_byte 92 92 rfl _ _ _ hst.out.1 (by rw [List.length_cons]; omega)
      have c2 := fun T (hT : T.length ≤ 10000000) W (h : Hid (Bk W w.heap.size T)) => bk_byte c (x : Int) (by omega) _ T W h.out (by omega)
      have hB := Lib.hid hst.out.1
      by_cases h34 : c = 34
      · rw [show decide (c = UInt8.ofNat 34) = true from decide_eq_true h34] at e34
        have HR := Lib.hid (show 34 :: escQ (s.data.toList.take (k + 1)) = ((34 :: escQ (s.data.toList.take k)) ++ [92]) ++ [c] by rw [hstep]; unfold esc1; rw [if_pos (.inl h34), List.append_assoc]; rfl)
        have c2 := c2 ((34 :: escQ (s.data.toList.take k)) ++ [92]) (by simp; omega)
        clear hc hx hx2 hstep hle h34 e92
        go_wp2_with (first
          | (go_at_call 72; (with_reducible refine c1.mono ?_); rintro e w2 ⟨rfl, hbd2, hb2, _⟩; clear c1; have HB2 := Lib.hid hbd2; have HE2 := Lib.hid (hst.out.2.trans hb2); clear hbd2 hb2)
          | (go_at_call 72; (with_reducible refine (c2 _ HB2).mono ?_); rintro e w3 ⟨rfl, hbd3, hb3, _⟩; clear c2; have HB3 := Lib.hid hbd3; have HE3 := Lib.hid (HE2.out.trans hb3); clear hbd3 hb3))
        go_roundw
        case rel => exact ⟨k + 1, by omega, by go_num, Lib.hid ⟨by rw [HR.out]; exact HB3.out, HE3.out⟩⟩
        case measure => simp [intOf]; omega
      · rw [show decide (c = UInt8.ofNat 34) = false from decide_eq_false h34] at e34
        by_cases h92 : c = 92
        · rw [show decide (c = UInt8.ofNat 92) = true from decide_eq_true h92] at e92
          have HR := Lib.hid (show 34 :: escQ (s.data.toList.take (k + 1)) = ((34 :: escQ (s.data.toList.take k)) ++ [92]) ++ [c] by rw [hstep]; unfold esc1; rw [if_pos (.inr h92), List.append_assoc]; rfl)
          have c2 := c2 ((34 :: escQ (s.data.toList.take k)) ++ [92]) (by simp; omega)
          clear hc hx hx2 hstep hle h34 h92
          go_wp2_with (first
            | (go_at_call 72; (with_reducible refine c1.mono ?_); rintro e w2 ⟨rfl, hbd2, hb2, _⟩; clear c1; have HB2 := Lib.hid hbd2; have HE2 := Lib.hid (hst.out.2.trans hb2); clear hbd2 hb2)
            | (go_at_call 72; (with_reducible refine (c2 _ HB2).mono ?_); rintro e w3 ⟨rfl, hbd3, hb3, _⟩; clear c2; have HB3 := Lib.hid hbd3; have HE3 := Lib.hid (HE2.out.trans hb3); clear hbd3 hb3))
          go_roundw
          case rel => exact ⟨k + 1, by omega, by go_num, Lib.hid ⟨by rw [HR.out]; exact HB3.out, HE3.out⟩⟩
          case measure => simp [intOf]; omega
        · rw [show decide (c = UInt8.ofNat 92) = false from decide_eq_false h92] at e92
          have HR := Lib.hid (show 34 :: escQ (s.data.toList.take (k + 1)) = (34 :: escQ (s.data.toList.take k)) ++ [c] by rw [hstep]; unfold esc1; rw [if_neg (fun e => e.elim h34 h92)]; rfl)
          have c2 := c2 (34 :: escQ (s.data.toList.take k)) (by simp; omega)
          clear hc hx hx2 hstep hle h34 h92 c1
          go_wp2_with (go_at_call 72; (with_reducible refine (c2 _ hB).mono ?_); rintro e w3 ⟨rfl, hbd3, hb3, _⟩; clear c2; have HB3 := Lib.hid hbd3; have HE3 := Lib.hid (hst.out.2.trans hb3); clear hbd3 hb3)
          go_roundw
          case rel => exact ⟨k + 1, by omega, by go_num, Lib.hid ⟨by rw [HR.out]; exact HB3.out, HE3.out⟩⟩
          case measure => simp [intOf]; omega
    · obtain rfl : k = n := by omega
      have hlt' : ¬ (k : Int) < (k : Int) := by omega
      have hT : s.data.toList.take k = s.data.toList := List.take_of_length_le (by rw [← HL.out, HN.out]; exact Nat.le_refl _)
      have hle := escQ_take s.data.toList k
      have hbd := hst.out.1
      rw [hT] at hbd hle
      have c1 := bk_byte 34 34 rfl _ _ _ hbd (by rw [List.length_cons]; omega)
      have c2 := fun W (h : Hid (Bk W w.heap.size ((34 :: escQ s.data.toList) ++ [34]))) => bk_out _ _ W h.out
      clear hbd hT hle
      go_wp2_with (first
        | (go_at_call 72; (with_reducible refine c1.mono ?_); rintro e w2 ⟨rfl, hbd2, hb2, _⟩; clear c1; have HB2 := Lib.hid hbd2; have HE2 := Lib.hid (hst.out.2.trans hb2); clear hbd2 hb2)
        | (go_at_call 41; (with_reducible refine (c2 _ HB2).mono ?_); rintro e w3 ⟨rfl, hb3⟩))
      go_ret
      exact ⟨rfl, HE2.out.trans hb3⟩
end Go.Proofs.YtgponokcigapaaaDoor
