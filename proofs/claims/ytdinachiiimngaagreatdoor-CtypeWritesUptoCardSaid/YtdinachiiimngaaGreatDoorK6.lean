/- token.Join: the texts of the tokens in a row. The program's lower: a copy of the bytes is changed. unescaped: a text without its escapes and line breaks. Value: what a token says. The program's isLetterOrDigit and isWord. Hexadecimal encoding. The reference's hexadecimal encoding. -/
import Derived.Test.YtdinachiiimngaaGreatDoorK3
import Derived.Test.YtdinachiiimngaaGreatDoorK1
import Derived.BigCall
import Derived.Lib.ConvBytes
import Derived.Lib.LazyBuf
import Derived.Lib.OthersKept
import Derived.Test.YtdinachiiimngaaGreatDoorK2
import Derived.Deep.RegionWith
import Derived.Deep.RegionLaw
namespace Go.Proofs.YtdinachiiimngaaGreatDoor
open Go.ChangeShapes Go.WideShapes Go.ChangeAt Go.RowKit
open TokP

set_option maxRecDepth 100000 in
set_option maxHeartbeats 2000000 in
theorem join_any (v : Value) (l : List Tok) (w : World) (h : HasF w v l) (hl : (joinL l).length ≤ 4000000) (hn : l.length ≤ 4000000) :
    Calls Tryz.prog 31 #[v] w fun e w' => e = .returned (.string (strL (joinL l))) ∧ Below w.heap.size w w' := by
  rcases h with ⟨rfl, rfl⟩ | ⟨g, o, c, rfl, h⟩
  · have b0 := bd_first w
    have hO := bd_out _ _ _ b0
    have hb0 := (Below.refl w.heap.size w).alloc (Nat.le_refl _) (.cells #[.pointer none, .slice none 0 0] 61)
    clear hl hn b0
    go_enter Tryz.func31, Tryz.ntmps31
    go_wp2_with fail
    go_loopw [8] (fun i wr => i = .int .i64 0 ∧ wr = w.alloc (.cells #[.pointer none, .slice none 0 0] 61)) (fun _ _ => 0)
    case atStart => exact ⟨rfl, rfl⟩
    case round =>
      obtain ⟨rfl, rfl⟩ := hrel
      go_wp2_with (go_at_call 44; refine hO.mono ?_; rintro e w3 ⟨rfl, hb3⟩)
      go_ret
      exact ⟨rfl, hb0.trans hb3⟩
  · obtain ⟨n, hnn⟩ : ∃ n, l.length = n := ⟨_, rfl⟩
    rw [hnn] at hn ⊢
    have HN := Lib.hid hnn
    have HL := Lib.hid hl
    clear hnn hl
    have HST := Lib.hid (show Bd (w.alloc (.cells #[.pointer none, .slice none 0 0] 61)) w.heap.size [] ∧ Below w.heap.size w (w.alloc (.cells #[.pointer none, .slice none 0 0] 61)) from ⟨bd_first w, (Below.refl _ w).alloc (Nat.le_refl _) _⟩)
    have H := Lib.hid h
    clear h
    go_enter Tryz.func31, Tryz.ntmps31
    go_wp2_with fail
    go_loopw [8] (fun i wr => ∃ k : Nat, k ≤ n ∧ i = .int .i64 k ∧ Hid (Bd wr w.heap.size (joinL (l.take k)) ∧ Below w.heap.size w wr)) (fun i _ => n - (intOf i).toNat)
    case atStart => exact ⟨0, Nat.zero_le _, rfl, HST⟩
    case round =>
      obtain ⟨k, hk, rfl, hst⟩ := hrel
      have F1 : IntKind.i64.wrap ((k : Int) + 1) = (k : Int) + 1 := by rw [IntKind.wrap_i64]; omega
      by_cases hlt : k < n
      · have hlt' : (k : Int) < (n : Int) := by omega
        have hkl : k < l.length := by rw [HN.out]; exact hlt
        obtain ⟨f, hf⟩ : ∃ f, l[k]? = some f := ⟨_, List.getElem?_eq_getElem hkl⟩
        obtain ⟨k0, k1⟩ := H.out.step hst.out.2 k f hf
        have hrl := text_le l k f hf
        have hL := HL.out
        have HR := Lib.hid (join_step l k f hf)
        have hbd := hst.out.1.alloc (.cells #[.int .i64 (f.kind : Nat), .string (strL f.text)] 89)
        have hwz := hst.out.2.size
        have hW := bd_str (strL f.text) _ _ _ hbd (by rw [strL_size]; omega)
        rw [strL_list] at hW
        have hb1 := hst.out.2.alloc hwz (.cells #[.int .i64 (f.kind : Nat), .string (strL f.text)] 89)
        clear hf hrl hL hkl
        go_wp2_with (go_at_call 42; refine hW.mono ?_; rintro e w3 ⟨rfl, hbd3, hb3⟩)
        go_roundw
        case rel => exact ⟨k + 1, by omega, by go_num, Lib.hid ⟨by rw [HR.out]; exact hbd3, hb1.trans hb3⟩⟩
        case measure => simp [intOf]; omega
      · obtain rfl : k = n := by omega
        have hT : l.take k = l := List.take_of_length_le (by rw [HN.out]; exact Nat.le_refl _)
        have hbd := hst.out.1
        rw [hT] at hbd
        have hO := bd_out _ _ _ hbd
        have hB := Lib.hid hst.out.2
        clear hbd hT
        go_wp2_with (go_at_call 44; refine hO.mono ?_; rintro e w3 ⟨rfl, hb3⟩)
        go_ret
        exact ⟨rfl, hB.out.trans hb3⟩
end Go.Proofs.YtdinachiiimngaaGreatDoor
namespace Go.Proofs.YtdinachiiimngaaGreatDoor
open Go.ChangeShapes Go.WideShapes Go.ChangeAt Go.RowKit
open TokP AdrP CtP


/-- Block g holds the bytes l and has room for cap of them. -/
structure Buf (base : Nat) (w : World) (g cap : Nat) (l : List UInt8) : Prop where
  le : l.length ≤ cap
  max : cap ≤ maxLen
  new : base ≤ g
  lt : g < w.heap.size
  holds : ∀ j, (h : j < l.length) → w.cell? ⟨g, j, none⟩ = some (.int .u8 (l[j].toNat : Int))
  there : ∀ j, j < cap → (w.cell? ⟨g, j, none⟩).isSome = true ∧ w.frozen? ⟨g, j, none⟩ = false
theorem Buf.block {base g cap : Nat} {w w' : World} {l : List UInt8} (h : Buf base w g cap l) (hs : w.heap.size ≤ w'.heap.size) (hb : w'.heap[g]? = w.heap[g]?) : Buf base w' g cap l :=
  ⟨h.le, h.max, h.new, Nat.lt_of_lt_of_le h.lt hs, fun j hj => by rw [World.cell?_of_block (by exact hb)]; exact h.holds j hj,
   fun j hj => by rw [World.cell?_of_block (by exact hb), World.frozen?_of_block (by exact hb)]; exact h.there j hj⟩
theorem Buf.below {base g cap : Nat} {w w' : World} {l : List UInt8} (h : Buf base w g cap l) (hb : Below w.heap.size w w') : Buf base w' g cap l :=
  h.block hb.size (hb.block g h.lt)
theorem below_bytes (w : World) (s : ByteArray) : Below w.heap.size w (Lib.bytesWorld w 5 s) :=
  ⟨rfl, rfl, rfl, by rw [Lib.bytesWorld_size]; omega, fun j hj => Lib.bytesWorld_at_old w 5 s j hj⟩
theorem buf_bytes (w : World) (s : ByteArray) (hs : s.size ≤ maxLen) : Buf w.heap.size (Lib.bytesWorld w 5 s) w.heap.size (grownCap w s.size 0 5) s.data.toList := by
  have hg := grownCap_ge w s.size 0 5
  have hc : (Lib.bytesCells w 5 s).size = grownCap w s.size 0 5 := by
    unfold Lib.bytesCells
    rw [Array.size_append, Array.size_map, Array.size_replicate]
    show s.size + _ = _
    omega
  have hl : s.data.toList.length = s.size := by rw [Array.length_toList]; rfl
  refine ⟨by rw [hl]; exact hg, grownCap_le_maxLen _ _ _ _ hs, Nat.le_refl _, by rw [Lib.bytesWorld_size]; omega, fun j hj => ?_, fun j hj => ?_⟩
  · rw [Lib.bytesWorld_cell w 5 s j (by omega), List.getD_eq_getElem?_getD, List.getElem?_eq_getElem hj]; rfl
  · have hn := Lib.bytesWorld_at_new w 5 s
    constructor
    · rw [cell_of_row _ _ j _ _ _ hn, Array.getElem?_eq_getElem (by omega)]; rfl
    · simp only [World.frozen?, hn, hc]
      simp; omega
theorem byteCells_len (l : List UInt8) : (Lib.byteCells l).length = l.length := Lib.byteCells_length l
/-- Bytes written over as many. -/
theorem Buf.put {base g cap : Nat} {w : World} {D x R : List UInt8} (h : Buf base w g cap (D ++ (x ++ R))) (y : List UInt8) (hy : y.length = x.length) :
    Buf base (w.setCells g D.length (Lib.byteCells y)) g cap (D ++ (y ++ R)) := by
  have hlen : (D ++ (y ++ R)).length = (D ++ (x ++ R)).length := by simp [hy]
  have hbl := byteCells_len y
  have hle := h.le
  simp only [List.length_append] at hle
  have hsz : (w.setCells g D.length (Lib.byteCells y)).heap.size = w.heap.size := by
    have : ∀ (vs : List Value) (o : Nat) (w : World), (w.setCells g o vs).heap.size = w.heap.size := by
      intro vs
      induction vs with
      | nil => intro o w; rfl
      | cons v r ih => intro o w; rw [World.setCells, ih]; simp [World.setCell]
    exact this _ _ _
  have hin := World.cell?_setCells_in g (Lib.byteCells y) D.length w (fun j hj => (h.there (D.length + j) (by omega)).1)
  refine ⟨by rw [hlen]; exact h.le, h.max, h.new, by rw [hsz]; exact h.lt, fun j hj => ?_, fun j hj => ?_⟩
  · by_cases c1 : j < D.length
    · rw [World.cell?_setCells_out g _ _ _ _ (fun _ _ => .inl c1), h.holds j (by rw [← hlen]; exact hj), List.getElem_append_left c1, List.getElem_append_left c1]
    · by_cases c2 : j < D.length + y.length
      · obtain ⟨k, rfl⟩ : ∃ k, j = D.length + k := ⟨j - D.length, by omega⟩
        rw [hin k (by rw [hbl]; omega), List.getElem_append_right (by omega)]
        simp only [Nat.add_sub_cancel_left]
        rw [List.getElem_append_left (by omega)]
        simp [Lib.byteCells]
      · rw [World.cell?_setCells_out g _ _ _ _ (fun _ _ => .inr (by rw [hbl]; simp only; omega)), h.holds j (by rw [← hlen]; exact hj), List.getElem_append_right (by omega), List.getElem_append_right (by omega), List.getElem_append_right (by omega), List.getElem_append_right (by omega)]
        congr 2
        simp only [hy]
  · rw [World.frozen?_setCells]
    refine ⟨?_, (h.there j hj).2⟩
    by_cases c1 : D.length ≤ j ∧ j < D.length + y.length
    · obtain ⟨k, rfl⟩ : ∃ k, j = D.length + k := ⟨j - D.length, by omega⟩
      rw [hin k (by rw [hbl]; omega)]; rfl
    · rw [World.cell?_setCells_out g _ _ _ _ (fun _ _ => by rw [hbl]; simp only; omega)]
      exact (h.there j hj).1
theorem low_big (c : UInt8) (x : Nat) (hx : c.toNat = x) (h1 : 65 ≤ x) (h2 : x ≤ 90) : (lowA c).toNat = x + 32 := by
  have : ∀ n : Fin 256, 65 ≤ n.val → n.val ≤ 90 → (lowA (UInt8.ofNat n.val)).toNat = n.val + 32 := by decide +kernel
  have h := this ⟨c.toNat, c.toNat_lt⟩ (by simp only; omega) (by simp only; omega)
  simp only [UInt8.ofNat_toNat] at h
  omega
theorem low_other (c : UInt8) (x : Nat) (hx : c.toNat = x) (h : x < 65 ∨ 90 < x) : lowA c = c := by
  have : ∀ n : Fin 256, (n.val < 65 ∨ 90 < n.val) → lowA (UInt8.ofNat n.val) = UInt8.ofNat n.val := by decide +kernel
  have h := this ⟨c.toNat, c.toNat_lt⟩ (by simp only; omega)
  simp only [UInt8.ofNat_toNat] at h
  exact h
theorem low_next (s : List UInt8) (k : Nat) (c : UInt8) (h : s[k]? = some c) : (s.take (k + 1)).map lowA = (s.take k).map lowA ++ [lowA c] := by
  rw [List.take_add_one, h, List.map_append]; rfl
theorem drop_cons' (s : List UInt8) (k : Nat) (c : UInt8) (h : s[k]? = some c) : s.drop k = c :: s.drop (k + 1) := by
  obtain ⟨hk, rfl⟩ := List.getElem?_eq_some_iff.1 h
  exact List.drop_eq_getElem_cons hk
set_option maxHeartbeats 1000000 in
theorem lower_any (D : ByteArray) (hD : D.size ≤ 4000000) (W : World) :
    Calls Tryz.prog 33 #[.string D] W fun e w' => e = .returned (.string (strL (D.data.toList.map lowA))) ∧ Below W.heap.size W w' := by
  have hcv := fun w : World => Lib.run_convert_string_bytes (P := Tryz.prog) w 9 59 5 D Tryz.underlying9 Tryz.underlying59 Tryz.underlying5
  have HLD := Lib.hid (size_list D)
  obtain ⟨ANS, hA⟩ : ∃ z, strL (D.data.toList.map lowA) = z := ⟨_, rfl⟩
  rw [hA]
  have HA := Lib.hid hA
  clear hA
  have hb0 := buf_bytes W D (by unfold maxLen; omega)
  have hbel0 := below_bytes W D
  obtain ⟨CAP, hCAP⟩ : ∃ c, grownCap W D.size 0 5 = c := ⟨_, rfl⟩
  have HB0 := Lib.hid hb0
  have HE0 := Lib.hid hbel0
  clear hb0 hbel0
  go_enter Tryz.func33, Tryz.ntmps33
  go_wp2_with fail
  have hb0 := HB0.out
  have hbel0 := HE0.out
  rw [hCAP] at hb0
  generalize Lib.bytesWorld W 5 D = W1 at hb0 hbel0 ⊢
  obtain ⟨G, hG⟩ : ∃ G, W.heap.size = G := ⟨_, rfl⟩
  rw [hG] at hb0 hbel0 ⊢
  have HGW := Lib.hid hG
  clear hG hcv
  go_loopw [10] (fun i wr => ∃ k : Nat, k ≤ D.size ∧ i = .int .i64 k ∧ Hid (Buf G wr G CAP ((D.data.toList.take k).map lowA ++ D.data.toList.drop k)) ∧ Hid (Below G W wr)) (fun i _ => D.size - (intOf i).toNat)
  case atStart => exact ⟨0, Nat.zero_le _, rfl, hb0, hbel0⟩
  case round =>
    obtain ⟨k, hk, rfl, HBf, HBe⟩ := hrel
    clear hb0 hbel0 HB0 HE0
    have F1 : IntKind.i64.wrap ((k : Int) + 1) = (k : Int) + 1 := by rw [IntKind.wrap_i64]; omega
    by_cases hlt : k < D.size
    · have hlt' : (k : Int) < (D.size : Int) := by omega
      obtain ⟨c, x, hc, hx, hx2, _⟩ := run_byte D k hlt
      have hln : ((D.data.toList.take k).map lowA).length = k := by have hlD := HLD.out; rw [List.length_map, List.length_take]; omega
      have hdr := drop_cons' D.data.toList k c hc
      have hnx := low_next D.data.toList k c hc
      have hbf := HBf.out
      rw [hdr] at hbf
      have ck : wr.cell? ⟨G, k, none⟩ = some (.int .u8 (x : Int)) := by
        have := hbf.holds k (by rw [List.length_append, hln]; simp)
        rw [List.getElem_append_right (by omega)] at this
        simp only [hln, Nat.sub_self, List.getElem_cons_zero, hx] at this
        exact this
      have cf := (hbf.there k (by have := hbf.le; rw [List.length_append, hln, List.length_cons] at this; omega)).2
      by_cases h65 : 65 ≤ x
      · have h65' : (65 : Int) ≤ (x : Int) := by omega
        by_cases h90 : x ≤ 90
        · have h90' : (x : Int) ≤ 90 := by omega
          have Fx : IntKind.u8.wrap ((x : Int) + 97) = (x : Int) + 97 := by rw [IntKind.wrap_u8]; omega
          have Fy : IntKind.u8.wrap ((x : Int) + 97 - 65) = (x : Int) + 32 := by rw [IntKind.wrap_u8]; omega
          have Fz : (x : Int) + 97 - 65 = (x : Int) + 32 := by omega
          have Fw : IntKind.u8.wrap ((x : Int) + 32) = (x : Int) + 32 := by rw [IntKind.wrap_u8]; omega
          have hput := Buf.put (D := (D.data.toList.take k).map lowA) (x := [c]) (R := D.data.toList.drop (k + 1)) hbf [lowA c] rfl
          rw [hln] at hput
          have HP : Hid (Buf G (wr.setCell ⟨G, k, none⟩ (.int .u8 ((x : Int) + 32))) G CAP ((D.data.toList.take (k + 1)).map lowA ++ D.data.toList.drop (k + 1))) := by
            show Buf G _ G CAP _
            rw [hnx, List.append_assoc]
            have e : (Lib.byteCells [lowA c]) = [.int .u8 ((x : Int) + 32)] := by
              simp [Lib.byteCells, low_big c x hx h65 h90]
            rw [e] at hput
            exact hput
          have HP2 : Hid (Below G W (wr.setCell ⟨G, k, none⟩ (.int .u8 ((x : Int) + 32)))) := Below.setCell HBe.out (by show G ≤ G; exact Nat.le_refl _) _
          clear hc hx hx2 hdr hnx hbf hput HBf HBe h65 h90
          go_wp2_with fail
          go_roundw
          case rel => exact ⟨k + 1, by omega, by go_num, HP, HP2⟩
          case measure => simp [intOf]; omega
        · have h90' : ¬ (x : Int) ≤ 90 := by omega
          have HP : Hid (Buf G wr G CAP ((D.data.toList.take (k + 1)).map lowA ++ D.data.toList.drop (k + 1))) := by
            show Buf G _ G CAP _
            rw [hnx, List.append_assoc, low_other c x hx (.inr (by omega))]
            exact hbf
          clear hc hx hx2 hdr hnx hbf HBf h65 h90
          go_wp2_with fail
          go_roundw
          case rel => exact ⟨k + 1, by omega, by go_num, HP, HBe⟩
          case measure => simp [intOf]; omega
      · have h65' : ¬ (65 : Int) ≤ (x : Int) := by omega
        have HP : Hid (Buf G wr G CAP ((D.data.toList.take (k + 1)).map lowA ++ D.data.toList.drop (k + 1))) := by
          show Buf G _ G CAP _
          rw [hnx, List.append_assoc, low_other c x hx (.inl (by omega))]
          exact hbf
        clear hc hx hx2 hdr hnx hbf HBf h65
        go_wp2_with fail
        go_roundw
        case rel => exact ⟨k + 1, by omega, by go_num, HP, HBe⟩
        case measure => simp [intOf]; omega
    · obtain rfl : k = D.size := by omega
      have hlt' : ¬ (D.size : Int) < (D.size : Int) := by omega
      have hbf := HBf.out
      rw [List.take_of_length_le (by rw [← HLD.out]; exact Nat.le_refl _), List.drop_eq_nil_of_le (by rw [← HLD.out]; exact Nat.le_refl _), List.append_nil] at hbf
      have hll : (D.data.toList.map lowA).length = D.size := by rw [List.length_map, HLD.out]
      have hcb : (convert 59 9 (.slice (some ⟨G, 0, none⟩) D.size CAP)).run Tryz.prog wr = .ok (.string (strL (D.data.toList.map lowA))) wr := by
        have := run_convert_bytes_back (P := Tryz.prog) wr 59 9 5 ⟨G, 0, none⟩ CAP (D.data.toList.map lowA) Tryz.underlying59 Tryz.underlying5 Tryz.underlying9 (fun j hj => by
          have h1 := hbf.holds j hj
          have e : (⟨G, 0, none⟩ : Addr).add j = ⟨G, j, none⟩ := by unfold Addr.add; split <;> simp_all
          rw [e]; exact h1)
        rw [hll] at this
        exact this
      have hbe := HBe.out
      rw [HA.out] at hcb
      have HBX := Lib.hid hbe
      clear hbf hbe HBf HBe
      go_wp2_with fail
      go_ret
      exact ⟨rfl, by rw [HGW.out]; exact HBX.out⟩
end Go.Proofs.YtdinachiiimngaaGreatDoor
namespace Go.Proofs.YtdinachiiimngaaGreatDoor
open Go.ChangeShapes Go.WideShapes Go.ChangeAt Go.RowKit
open TokP

/-- The builder in block b holds O, all older memory lies as it lay. -/
structure Ub (w0 w : World) (b : Nat) (O : List UInt8) : Prop where
  bd : Bd w b O
  bel : Below b w0 w
theorem Ub.put {w0 w w' : World} {b : Nat} {O O' : List UInt8} (h : Ub w0 w b O) (hb : Bd w' b O') (hk : Below b w w') : Ub w0 w' b O' := ⟨hb, h.bel.trans hk⟩
theorem ub_first (w : World) : Ub w (w.alloc (.cells #[.pointer none, .slice none 0 0] 61)) w.heap.size [] := ⟨bd_first w, (Below.refl _ w).alloc (Nat.le_refl _) _⟩
theorem Ub.byte {w0 w : World} {b : Nat} {O : List UInt8} (h : Ub w0 w b O) (c : UInt8) (x : Nat) (hx : c.toNat = x) (hO : O.length ≤ 4000000) :
    Calls Tryz.prog 80 #[.pointer (some ⟨b, 0, none⟩), .int .u8 x] w fun e w' => e = .returned .nilIface ∧ Ub w0 w' b (O ++ [c]) := by
  subst hx
  exact (bd_byte c b O w h.bd (by omega)).mono fun _ _ hh => ⟨hh.1, h.put hh.2.1 hh.2.2⟩
theorem Ub.out {w0 w : World} {b : Nat} {O : List UInt8} (h : Ub w0 w b O) :
    Calls Tryz.prog 44 #[.pointer (some ⟨b, 0, none⟩)] w fun e w' => e = .returned (.string (strL O)) ∧ Below b w0 w' :=
  (bd_out b O w h.bd).mono fun _ _ hh => ⟨hh.1, h.bel.trans hh.2⟩
set_option maxRecDepth 100000 in
set_option maxHeartbeats 2000000 in
theorem unesc_any (s : ByteArray) (hs : s.size ≤ 4000000) (w : World) :
    Calls Tryz.prog 146 #[.string s] w fun e w' => e = .returned (.string (strL (unescS false s.data.toList))) ∧ Below w.heap.size w w' := by
  obtain ⟨n, hn⟩ : ∃ n, s.size = n := ⟨_, rfl⟩
  have HL := Lib.hid (size_list s)
  rw [hn] at hs
  have HN := Lib.hid hn
  clear hn
  obtain ⟨R, hR⟩ : ∃ R, unescS false s.data.toList = R := ⟨_, rfl⟩
  have HR := Lib.hid hR
  rw [hR]
  clear hR
  have HST := Lib.hid (ub_first w)
  go_enter Tryz.func146, Tryz.ntmps146
  go_wp2_with fail
  go_loopw [4] (fun i wr => ∃ (k : Nat) (O : List UInt8), k ≤ n + 1 ∧ i = .int .i64 k ∧ O.length ≤ k ∧ Hid (O ++ unescS false (s.data.toList.drop k) = R) ∧ Hid (Ub w wr w.heap.size O)) (fun i _ => n + 1 - (intOf i).toNat)
  case atStart => exact ⟨0, [], by omega, rfl, Nat.le_refl _, Lib.hid HR.out, HST⟩
  case round =>
    obtain ⟨k, O, hk, rfl, hO, HE, HU⟩ := hrel
    have F1 : IntKind.i64.wrap ((k : Int) + 1) = (k : Int) + 1 := by rw [IntKind.wrap_i64]; omega
    have F2 : IntKind.i64.wrap ((k : Int) + 1 + 1) = (k : Int) + 1 + 1 := by rw [IntKind.wrap_i64]; omega
    have hn : s.size = n := HN.out
    by_cases hlt : k < n
    · have hlt' : (k : Int) < (n : Int) := by omega
      obtain ⟨c, x, hc, hx, hx2, S1⟩ := run_byte s k (by rw [hn]; exact hlt)
      have e10 := byte_is c x hx 10 (by decide)
      have e13 := byte_is c x hx 13 (by decide)
      have e92 := byte_is c x hx 92 (by decide)
      rw [show ((10 : Nat) : Int) = 10 from rfl] at e10
      rw [show ((13 : Nat) : Int) = 13 from rfl] at e13
      rw [show ((92 : Nat) : Int) = 92 from rfl] at e92
      by_cases h10 : c = 10
      · rw [show decide (c = UInt8.ofNat 10) = true from decide_eq_true h10] at e10
        have HE2 := Lib.hid ((congrArg (O ++ ·) (un_break _ k c hc (.inl h10))).symm.trans HE.out)
        clear h10 e13 e92 hc hx hx2 HE
        go_wp2_with fail
        go_roundw
        case rel => exact ⟨k + 1, O, by omega, by go_num, by omega, HE2, HU⟩
        case measure => simp [intOf]; omega
      · rw [show decide (c = UInt8.ofNat 10) = false from decide_eq_false h10] at e10
        by_cases h13 : c = 13
        · rw [show decide (c = UInt8.ofNat 13) = true from decide_eq_true h13] at e13
          have HE2 := Lib.hid ((congrArg (O ++ ·) (un_break _ k c hc (.inr h13))).symm.trans HE.out)
          clear h10 h13 e92 hc hx hx2 HE
          go_wp2_with fail
          go_roundw
          case rel => exact ⟨k + 1, O, by omega, by go_num, by omega, HE2, HU⟩
          case measure => simp [intOf]; omega
        · rw [show decide (c = UInt8.ofNat 13) = false from decide_eq_false h13] at e13
          by_cases h92 : c = 92
          · rw [show decide (c = UInt8.ofNat 92) = true from decide_eq_true h92] at e92
            rw [h92] at hc
            by_cases hl2 : k + 1 < n
            · have hl2' : (k : Int) + 1 < (n : Int) := by omega
              obtain ⟨d, y, hd, hy, hy2, S2⟩ := run_byte s (k + 1) (by rw [hn]; exact hl2)
              rw [show ((k + 1 : Nat) : Int) = (k : Int) + 1 from by omega] at S2
              have HE2 := Lib.hid (show (O ++ [d]) ++ unescS false (s.data.toList.drop (k + 2)) = R by rw [← HE.out, un_esc1 _ k d hc hd, List.append_assoc]; rfl)
              have cB := HU.out.byte d y hy (by omega)
              clear h10 h13 h92 hc hx hx2 HE hd hy hy2
              go_wp2_with (go_at_call 80; with_reducible refine cB.mono ?_; rintro e w2 ⟨rfl, hu2⟩; replace hu2 := Lib.hid hu2)
              go_roundw
              case rel => exact ⟨k + 2, O ++ [d], by omega, by go_num, by rw [List.length_append, List.length_singleton]; omega, HE2, hu2⟩
              case measure => simp [intOf]; omega
            · have hl2' : ¬ (k : Int) + 1 < (n : Int) := by omega
              have HE2 := Lib.hid ((congrArg (O ++ ·) (un_esc0 _ k hc (by rw [← HL.out, hn]; omega))).symm.trans HE.out)
              clear h10 h13 h92 hc hx hx2 HE
              go_wp2_with fail
              go_roundw
              case rel => exact ⟨k + 2, O, by omega, by go_num, by omega, HE2, HU⟩
              case measure => simp [intOf]; omega
          · rw [show decide (c = UInt8.ofNat 92) = false from decide_eq_false h92] at e92
            have HE2 := Lib.hid (show (O ++ [c]) ++ unescS false (s.data.toList.drop (k + 1)) = R by rw [← HE.out, un_plain _ k c hc h92 (fun e => e.elim h10 h13), List.append_assoc]; rfl)
            have cB := HU.out.byte c x hx (by omega)
            clear h10 h13 h92 hc hx hx2 HE
            go_wp2_with (go_at_call 80; with_reducible refine cB.mono ?_; rintro e w2 ⟨rfl, hu2⟩; replace hu2 := Lib.hid hu2)
            go_roundw
            case rel => exact ⟨k + 1, O ++ [c], by omega, by go_num, by rw [List.length_append, List.length_singleton]; omega, HE2, hu2⟩
            case measure => simp [intOf]; omega
    · have hlt' : ¬ (k : Int) < (n : Int) := by omega
      have he : O = R := by
        have h := HE.out
        rw [List.drop_eq_nil_of_le (by rw [← HL.out, hn]; omega), unescS, List.append_nil] at h
        exact h
      subst he
      have cO := HU.out.out
      clear HE
      go_wp2_with (go_at_call 44; with_reducible refine cO.mono ?_; rintro e w2 ⟨rfl, hb2⟩)
      go_ret
      exact ⟨rfl, hb2⟩
end Go.Proofs.YtdinachiiimngaaGreatDoor
namespace Go.Proofs.YtdinachiiimngaaGreatDoor
open Go.ChangeShapes Go.WideShapes Go.ChangeAt Go.RowKit
open TokP

theorem below_new (w w' : World) (o : Obj) (h : Below (w.alloc o).heap.size (w.alloc o) w') : Below w.heap.size w w' := ((Below.refl _ w).alloc (Nat.le_refl _) o).trans (h.mono (by rw [World.size_alloc]; omega))
set_option maxRecDepth 100000 in
set_option maxHeartbeats 2000000 in
theorem value_any (K : Int) (T : ByteArray) (hT : T.size ≤ 4000000) (w : World) :
    Calls Tryz.prog 102 #[.agg #[.int .i64 K, .string T]] w fun e w' => e = .returned (.string (strL (valueI K T.data.toList))) ∧ Below w.heap.size w w' := by
  have cC := fun W => clone_any T W hT
  have hsz := size_list T
  have HB := Lib.hid (below_new w)
  by_cases h2 : 2 ≤ T.size
  · have h2' : ¬ (T.size : Int) < 2 := by omega
    have F1 : IntKind.i64.wrap ((T.size : Int) - 1) = (T.size : Int) - 1 := by rw [IntKind.wrap_i64]; omega
    have R1 : ∀ W : World, (Instr.slice 9 (.string T) (some (.int .i64 1)) (some (.int .i64 ((T.size : Int) - 1))) none).run Tryz.prog W = .ok (.string (T.extract 1 (T.size - 1))) W := run_slice_str T 1 (T.size - 1) ((T.size : Int) - 1) (by omega) (by omega) (by omega)
    rw [inner_is T h2] at R1
    have cU := fun W => unesc_any (strL (T.data.toList.drop 1).dropLast) (by rw [strL_size, List.length_dropLast, List.length_drop, ← hsz]; omega) W
    rw [strL_list] at cU
    by_cases hk2 : K = 2
    · rw [value_yes K _ (.inl hk2) (by rw [← hsz]; exact h2)]
      generalize unescS false (T.data.toList.drop 1).dropLast = V at cU ⊢
      generalize strL (T.data.toList.drop 1).dropLast = U at R1 cU
      subst hk2
      clear hsz cC h2
      go_enter Tryz.func102, Tryz.ntmps102
      go_wp2_with (go_at_call 146; (with_reducible refine (cU _).mono ?_); rintro e w2 ⟨rfl, hb2⟩)
      go_ret
      exact ⟨rfl, HB.out _ _ hb2⟩
    · by_cases hk3 : K = 3
      · rw [value_yes K _ (.inr hk3) (by rw [← hsz]; exact h2)]
        generalize unescS false (T.data.toList.drop 1).dropLast = V at cU ⊢
        generalize strL (T.data.toList.drop 1).dropLast = U at R1 cU
        subst hk3
        clear hsz cC h2 hk2
        go_enter Tryz.func102, Tryz.ntmps102
        go_wp2_with (go_at_call 146; (with_reducible refine (cU _).mono ?_); rintro e w2 ⟨rfl, hb2⟩)
        go_ret
        exact ⟨rfl, HB.out _ _ hb2⟩
      · rw [value_no K _ (fun e => e.1.elim hk2 hk3), strL_of]
        have g2 : (K == 2) = false := beq_eq_false_iff_ne.2 hk2
        have g3 : (K == 3) = false := beq_eq_false_iff_ne.2 hk3
        clear hsz cU R1 h2 hk2 hk3
        go_enter Tryz.func102, Tryz.ntmps102
        go_wp2_with (go_at_call 41; (with_reducible refine (cC _).mono ?_); rintro e w2 ⟨rfl, hb2⟩)
        go_ret
        exact ⟨rfl, HB.out _ _ hb2⟩
  · have h2' : (T.size : Int) < 2 := by omega
    rw [value_no K _ (fun e => h2 (by rw [hsz]; exact e.2)), strL_of]
    clear hsz h2
    by_cases hk2 : K = 2
    · subst hk2
      go_enter Tryz.func102, Tryz.ntmps102
      go_wp2_with (go_at_call 41; (with_reducible refine (cC _).mono ?_); rintro e w2 ⟨rfl, hb2⟩)
      go_ret
      exact ⟨rfl, HB.out _ _ hb2⟩
    · have g2 : (K == 2) = false := beq_eq_false_iff_ne.2 hk2
      by_cases hk3 : K = 3
      · subst hk3
        clear g2 hk2
        go_enter Tryz.func102, Tryz.ntmps102
        go_wp2_with (go_at_call 41; (with_reducible refine (cC _).mono ?_); rintro e w2 ⟨rfl, hb2⟩)
        go_ret
        exact ⟨rfl, HB.out _ _ hb2⟩
      · have g3 : (K == 3) = false := beq_eq_false_iff_ne.2 hk3
        clear hk2 hk3
        go_enter Tryz.func102, Tryz.ntmps102
        go_wp2_with (go_at_call 41; (with_reducible refine (cC _).mono ?_); rintro e w2 ⟨rfl, hb2⟩)
        go_ret
        exact ⟨rfl, HB.out _ _ hb2⟩
end Go.Proofs.YtdinachiiimngaaGreatDoor
namespace Go.Proofs.YtdinachiiimngaaGreatDoor
open Go.ChangeShapes Go.WideShapes Go.ChangeAt Go.RowKit
open TokP AdrP CtP

theorem at_byte (s : ByteArray) (c : UInt8) (x : Nat) (hx : c.toNat = x) (w : World) : Calls Tryz.prog 67 #[.string s, .int .u8 x] w fun e w' => e = .returned (.int .i64 (Lib.indexByte s.data.toList c)) ∧ w = w' := by
  have cI := Tryz.strings_IndexByte s x w
  rw [byte_back c x hx] at cI
  exact cI.mono fun e w' h => ⟨h.1, h.2.symm⟩
set_option maxHeartbeats 2000000 in
theorem letter_any (c : UInt8) (x : Nat) (hx : c.toNat = x) (w : World) :
    Calls Tryz.prog 66 #[.int .u8 x] w fun e w' => e = .returned (.bool (letterB c)) ∧ w = w' := by
  rw [letter_is c x hx]
  clear hx
  by_cases h1 : 97 ≤ x
  · have g1 : (97 : Int) ≤ (x : Int) := by omega
    by_cases h2 : x ≤ 122
    · have g2 : (x : Int) ≤ 122 := by omega
      rw [decide_eq_true h1, decide_eq_true h2]
      go_enter Tryz.func66, Tryz.ntmps66
      go_wp2_with fail
      go_ret
      exact ⟨rfl, rfl⟩
    · have g2 : ¬ (x : Int) ≤ 122 := by omega
      have g3 : (65 : Int) ≤ (x : Int) := by omega
      have g4 : ¬ (x : Int) ≤ 90 := by omega
      have g5 : (48 : Int) ≤ (x : Int) := by omega
      have g6 : ¬ (x : Int) ≤ 57 := by omega
      rw [decide_eq_false h2, decide_eq_false (by omega : ¬ x ≤ 90), decide_eq_false (by omega : ¬ x ≤ 57)]
      simp only [Bool.and_false, Bool.or_false]
      go_enter Tryz.func66, Tryz.ntmps66
      go_wp2_with fail
      go_ret
      exact ⟨rfl, rfl⟩
  · have g1 : ¬ (97 : Int) ≤ (x : Int) := by omega
    rw [decide_eq_false h1]
    by_cases h3 : 65 ≤ x
    · have g3 : (65 : Int) ≤ (x : Int) := by omega
      by_cases h4 : x ≤ 90
      · have g4 : (x : Int) ≤ 90 := by omega
        rw [decide_eq_true h3, decide_eq_true h4]
        go_enter Tryz.func66, Tryz.ntmps66
        go_wp2_with fail
        go_ret
        exact ⟨rfl, rfl⟩
      · have g4 : ¬ (x : Int) ≤ 90 := by omega
        have g5 : (48 : Int) ≤ (x : Int) := by omega
        have g6 : ¬ (x : Int) ≤ 57 := by omega
        rw [decide_eq_false h4, decide_eq_false (by omega : ¬ x ≤ 57)]
        simp only [Bool.and_false, Bool.or_false, Bool.false_and]
        go_enter Tryz.func66, Tryz.ntmps66
        go_wp2_with fail
        go_ret
        exact ⟨rfl, rfl⟩
    · have g3 : ¬ (65 : Int) ≤ (x : Int) := by omega
      rw [decide_eq_false h3]
      by_cases h5 : 48 ≤ x
      · have g5 : (48 : Int) ≤ (x : Int) := by omega
        by_cases h6 : x ≤ 57
        · have g6 : (x : Int) ≤ 57 := by omega
          rw [decide_eq_true h5, decide_eq_true h6]
          go_enter Tryz.func66, Tryz.ntmps66
          go_wp2_with fail
          go_ret
          exact ⟨rfl, rfl⟩
        · have g6 : ¬ (x : Int) ≤ 57 := by omega
          rw [decide_eq_false h6]
          simp only [Bool.and_false, Bool.or_false, Bool.false_and]
          go_enter Tryz.func66, Tryz.ntmps66
          go_wp2_with fail
          go_ret
          exact ⟨rfl, rfl⟩
      · have g5 : ¬ (48 : Int) ≤ (x : Int) := by omega
        rw [decide_eq_false h5]
        simp only [Bool.or_false, Bool.false_and]
        go_enter Tryz.func66, Tryz.ntmps66
        go_wp2_with fail
        go_ret
        exact ⟨rfl, rfl⟩
set_option maxRecDepth 100000 in
set_option maxHeartbeats 2000000 in
theorem word_any (s : ByteArray) (hs : s.size ≤ 1000000000) (w : World) :
    Calls Tryz.prog 32 #[.string s] w fun e w' => e = .returned (.bool (wordW s.data.toList)) ∧ w = w' := by
  obtain ⟨n, hn⟩ : ∃ n, s.size = n := ⟨_, rfl⟩
  have HN := Lib.hid hn
  have HL := Lib.hid (size_list s)
  rw [hn] at hs
  obtain ⟨r, hr⟩ : ∃ r, wordW s.data.toList = r := ⟨_, rfl⟩
  rw [hr]
  have HR := Lib.hid hr
  clear hr
  go_enter Tryz.func32, Tryz.ntmps32
  go_wp2_with fail
  go_loopw [6] (fun i wr => ∃ k : Nat, k ≤ n ∧ i = .int .i64 k ∧ wr = w ∧ Hid ((s.data.toList.take k).all wordB = true)) (fun i _ => n - (intOf i).toNat)
  case atStart => exact ⟨0, Nat.zero_le _, rfl, rfl, rfl⟩
  case round =>
    obtain ⟨k, hk, rfl, rfl, HF⟩ := hrel
    have F1 : IntKind.i64.wrap ((k : Int) + 1) = (k : Int) + 1 := by rw [IntKind.wrap_i64]; omega
    by_cases hlt : k < n
    · have hlt' : (k : Int) < (n : Int) := by omega
      obtain ⟨d, y, hd, hy, hy2, S1⟩ := run_byte s k (by rw [hn]; exact hlt)
      have cH := fun W => at_byte ⟨#[33, 35, 36, 38, 94, 95, 46, 43, 45]⟩ d y hy W
      have cL := fun W => letter_any d y hy W
      have hw := word_at d
      rw [← index_in] at hw
      generalize Lib.indexByte (⟨#[33, 35, 36, 38, 94, 95, 46, 43, 45]⟩ : ByteArray).data.toList d = z at cH hw
      generalize letterB d = b1 at cL hw
      cases hwb : wordB d with
      | true =>
        rw [hwb] at hw
        have HF2 := Lib.hid (show (s.data.toList.take (k + 1)).all wordB = true by rw [List.take_add_one, hd, List.all_append, HF.out]; simp [hwb])
        clear hd hy HF hwb HR
        cases b1 with
        | true =>
          clear hw
          go_wp2_with (first
            | (go_at_call 67; (with_reducible refine (cH _).mono ?_); rintro e w2 ⟨rfl, rfl⟩)
            | (go_at_call 66; (with_reducible refine (cL _).mono ?_); rintro e w3 ⟨rfl, rfl⟩))
          go_roundw
          case rel => exact ⟨k + 1, by omega, by go_num, trivial, HF2⟩
          case measure => simp [intOf]; omega
        | false =>
          have hz : 0 ≤ z := by simpa using hw
          have hz2 : ¬ z < 0 := by omega
          clear hw
          go_wp2_with (first
            | (go_at_call 67; (with_reducible refine (cH _).mono ?_); rintro e w2 ⟨rfl, rfl⟩)
            | (go_at_call 66; (with_reducible refine (cL _).mono ?_); rintro e w3 ⟨rfl, rfl⟩))
          go_roundw
          case rel => exact ⟨k + 1, by omega, by go_num, trivial, HF2⟩
          case measure => simp [intOf]; omega
      | false =>
        rw [hwb] at hw
        obtain ⟨rfl, hz⟩ : b1 = false ∧ z < 0 := by
          have := hw.symm
          rw [Bool.or_eq_false_iff, decide_eq_false_iff_not] at this
          exact ⟨this.1, by omega⟩
        obtain rfl : false = r := by
          rw [← HR.out]
          unfold wordW
          symm
          rw [Bool.and_eq_false_iff]
          refine .inr ?_
          rw [List.all_eq_false]
          exact ⟨d, List.mem_of_getElem? hd, by rw [hwb]; exact Bool.false_ne_true⟩
        clear hd hy HF hwb HR hw
        go_wp2_with (first
          | (go_at_call 67; (with_reducible refine (cH _).mono ?_); rintro e w2 ⟨rfl, rfl⟩)
          | (go_at_call 66; (with_reducible refine (cL _).mono ?_); rintro e w3 ⟨rfl, rfl⟩))
        go_ret
        exact ⟨rfl, rfl⟩
    · obtain rfl : k = n := by omega
      have hlt' : ¬ (k : Int) < (k : Int) := by omega
      have ha := HF.out
      rw [List.take_of_length_le (by rw [← HL.out, HN.out]; exact Nat.le_refl _)] at ha
      have hz : (!s.toList.isEmpty) = r := by
        rw [← HR.out]
        unfold wordW
        rw [ha, Bool.and_true, ByteArray.toList_eq]
      have hn : s.size = k := HN.out
      clear HF ha HR
      subst hz
      go_wp2_with fail
      go_ret
      simp
end Go.Proofs.YtdinachiiimngaaGreatDoor
namespace Go.Proofs.YtdinachiiimngaaGreatDoor.Nu
open Go.ChangeShapes Go.WideShapes Go.ChangeAt Go.RowKit

theorem step_append_fits {P : Program} {ops : Array Oper} {o : Oper} {a : Act} {w : World} {K : Act → World → Prop} {Q : Exit → Act → World → Prop} {E : Prop}
    (hg : o.guard = none) (s x : Operand) (t : TypeId) (hop : o.op = Op.call { callee := Callee.builtin Builtin.append, args := #[s, x], argTypes := #[t, t] })
    (base : Nat) (e : TypeId) (i : TypeInfo) (size : Nat) (h1 : P.underlying t = some (.slice e)) (h2 : P.info? e = some i) (h4 : i.size = size)
    (g k cap : Nat) (xs : List Value) (hs : a.eval s = .slice (some ⟨g, 0, none⟩) k cap) (hown : w.ownsRow base e size (.slice (some ⟨g, 0, none⟩) k cap) k xs) (ad : Addr) (m c : Nat) (news : List Value) (hx : a.eval x = .slice (some ad) m c) (hn : news.length = m * size)
    (hc : ∀ j u, news[j]? = some u → w.cell? (ad.add j) = some u) (h1c : ∀ u ∈ news, u.oneCell' = true) (b1 : k + m ≤ cap)
    (hK : ∀ w', w'.ownsRow base e size (.slice (some ⟨g, 0, none⟩) (k + m) cap) (k + m) (xs ++ news) → w.grownBy w' (some g) → K (a.put o.dst (.slice (some ⟨g, 0, none⟩) (k + m) cap)) w') :
    if Region.wanted o (yielded ops a.tmps) = true then Oper.wp P o a w K Q else E := by
  have hw : Region.wanted o (yielded ops a.tmps) = true := by simp [Region.wanted, hg]
  rw [if_pos hw]
  obtain ⟨w', hrun, r1, r2⟩ := run_append_fits (P := P) w base t o.type e i size h1 h2 h4 g k cap xs hown ad m c news hn hc h1c b1
  unfold Oper.wp
  simp [execOp, hop, resolve, invoke, builtin, hs, hx, hrun, Result.andThen]
  exact hK w' r1 r2
theorem step_append_own {P : Program} {ops : Array Oper} {o : Oper} {a : Act} {w : World} {K : Act → World → Prop} {Q : Exit → Act → World → Prop} {E : Prop}
    (hg : o.guard = none) (s x : Operand) (t : TypeId) (hop : o.op = Op.call { callee := Callee.builtin Builtin.append, args := #[s, x], argTypes := #[t, t] })
    (base : Nat) (e : TypeId) (i : TypeInfo) (z : Value) (size bytes : Nat) (h1 : P.underlying t = some (.slice e)) (h2 : P.info? e = some i) (h3 : i.zero = some z) (h4 : i.size = size) (h5 : i.bytes = bytes) (h6 : z.cells.size = size) (h7 : 0 < size)
    (v : Value) (n : Nat) (xs : List Value) (hs : a.eval s = v) (hown : w.ownsRow base e size v n xs) (ad : Addr) (m c : Nat) (news : List Value) (hx : a.eval x = .slice (some ad) m c) (hn : news.length = m * size)
    (hc : ∀ j u, news[j]? = some u → w.cell? (ad.add j) = some u) (h1c : ∀ u ∈ news, u.oneCell' = true) (b1 : n + m ≤ maxLen) (b2 : (n + m) * bytes ≤ 140737488355328) (hb : base ≤ w.heap.size)
    (hK : ∀ v' w', w'.ownsRow base e size v' (n + m) (xs ++ news) → w.grownBy w' v.ownBlock → K (a.put o.dst v') w') :
    if Region.wanted o (yielded ops a.tmps) = true then Oper.wp P o a w K Q else E := by
  have hw : Region.wanted o (yielded ops a.tmps) = true := by simp [Region.wanted, hg]
  rw [if_pos hw]
  obtain ⟨v', w', hrun, r1, r2, _⟩ := run_append_own (P := P) w base t o.type e i z size bytes h1 h2 h3 h4 h5 h6 h7 v n xs hown ad m c news hn hc h1c b1 b2 hb
  unfold Oper.wp
  simp [execOp, hop, resolve, invoke, builtin, hs, hx, hrun, Result.andThen]
  exact hK v' w' r1 r2

theorem info5 : (Tryz.prog.info? 5).map (fun i => (i.zero, i.size, i.bytes)) = some (some (.int .u8 0), 1, 1) := by kernel_rfl

/-- The hexadecimal digit of n. -/
def hexD (n : Nat) : UInt8 := [48, 49, 50, 51, 52, 53, 54, 55, 56, 57, 97, 98, 99, 100, 101, 102].getD n 0
/-- Two digits a byte. -/
def hexL (l : List UInt8) : List UInt8 := l.flatMap fun c => [hexD (c.toNat / 16), hexD (c.toNat % 16)]
theorem hexL_length (l : List UInt8) : (hexL l).length = 2 * l.length := by
  unfold hexL
  induction l with
  | nil => rfl
  | cons c l ih => rw [List.flatMap_cons, List.length_append, ih]; simp; omega

theorem hexD_get : ∀ n : Fin 16, (#[48, 49, 50, 51, 52, 53, 54, 55, 56, 57, 97, 98, 99, 100, 101, 102] : Array UInt8)[n.val]? = some (hexD n.val) := by decide
theorem run_digit (x : Int) (n : Nat) (hx : x = n) (h1 : n < 16) (W : World) :
    (Instr.index 9 (.string ⟨#[48, 49, 50, 51, 52, 53, 54, 55, 56, 57, 97, 98, 99, 100, 101, 102]⟩) (.int .u8 x)).run Tryz.prog W = .ok (.int .u8 ((hexD n).toNat : Int)) W := by
  subst hx
  have h : n = 0 ∨ n = 1 ∨ n = 2 ∨ n = 3 ∨ n = 4 ∨ n = 5 ∨ n = 6 ∨ n = 7 ∨ n = 8 ∨ n = 9 ∨ n = 10 ∨ n = 11 ∨ n = 12 ∨ n = 13 ∨ n = 14 ∨ n = 15 := by omega
  rcases h with rfl | rfl | rfl | rfl | rfl | rfl | rfl | rfl | rfl | rfl | rfl | rfl | rfl | rfl | rfl | rfl <;> (show _ = _; kernel_rfl)

def cellsOf (l : List UInt8) : List Value := l.map fun c => Value.int .u8 c.toNat
theorem cellsOf_one (l : List UInt8) : ∀ u ∈ cellsOf l, u.oneCell' = true := by
  intro u hu
  obtain ⟨c, _, rfl⟩ := List.mem_map.1 hu
  rfl
theorem bytes_new (w : World) (l : List UInt8) : ∀ j u, (cellsOf l)[j]? = some u → (w.alloc (.cells (cellsOf l).toArray 5)).cell? ((⟨w.heap.size, 0, none⟩ : Addr).add j) = some u := by
  intro j u h
  have := World.cell?_alloc_mark w (cellsOf l).toArray 5 (0, 0) j
  have e : (⟨w.heap.size, 0, none⟩ : Addr).add j = ⟨w.heap.size, j, none⟩ := by
    simp only [Addr.add, Nat.zero_add]
    split
    · rename_i hj; rw [hj]
    · rfl
  rw [e, this, List.getElem?_toArray]; exact h
theorem bytes_new2 (w : World) (x y : UInt8) : ∀ j u, (cellsOf [x, y])[j]? = some u → (w.alloc (.cells #[.int .u8 x.toNat, .int .u8 y.toNat] 5)).drew.cell? ((⟨w.heap.size, 0, none⟩ : Addr).add j) = some u := bytes_new w [x, y]
theorem conv_own {w : World} {base b n cap : Nat} {l : List UInt8} (hl : l.length = n) (hown : w.ownsRow base 5 1 (.slice (some ⟨b, 0, none⟩) n cap) n (cellsOf l)) :
    (convert 59 9 (.slice (some ⟨b, 0, none⟩) n cap)).run Tryz.prog w = .ok (.string ⟨l.toArray⟩) w := by
  subst hl
  refine run_convert_bytes_back w 59 9 5 ⟨b, 0, none⟩ cap l Tryz.underlying59 Tryz.underlying5 Tryz.underlying9 fun j hj => ?_
  refine hown.cells (g := b) rfl j _ ?_
  unfold cellsOf
  rw [List.getElem?_map, List.getElem?_eq_getElem hj]; rfl
theorem hexL_snoc (s : ByteArray) (k : Nat) (h : k < s.size) : hexL (s.data.toList.take (k + 1)) = hexL (s.data.toList.take k) ++ [hexD (s[k].toNat / 16), hexD (s[k].toNat % 16)] := by
  have : s.data.toList.take (k + 1) = s.data.toList.take k ++ [s[k]] := by
    rw [List.take_succ_eq_append_getElem (by simpa using h)]; rfl
  rw [this]; unfold hexL
  rw [List.flatMap_append]; rfl

theorem hex_any (s : ByteArray) (hs : s.size ≤ 1000) (w : World) :
    Calls Tryz.prog 52 #[.string s] w fun e w' => e = .returned (.string ⟨(hexL s.data.toList).toArray⟩) ∧ Below w.heap.size w w' := by
  obtain ⟨i0, hi, hz0, hz1, hz2⟩ := info_parts info5
  go_enter Tryz.func52, Tryz.ntmps52
  go_wp2_with (at_make; refine wpList_make_own _ rfl _ _ 59 rfl w.heap.size 5 i0 (.int .u8 0) 1 Tryz.underlying59 hi hz0 hz1 _ _ _ (2 * s.size) rfl rfl (by omega) ?b1 ?b2 ?b3 ?_)
  case b1 => rw [hz2]; omega
  case b2 => unfold maxLen; omega
  case b3 => exact Nat.le_refl _
  intro w1 hown hgrow
  go_wp2_with fail
  go_loopw [3, 11] (fun v i wr => ∃ k : Nat, k ≤ s.size ∧ i = .int .i64 k ∧ v = .slice (some ⟨w.heap.size, 0, none⟩) (2 * k) (2 * s.size) ∧
      wr.ownsRow w.heap.size 5 1 (.slice (some ⟨w.heap.size, 0, none⟩) (2 * k) (2 * s.size)) (2 * k) (cellsOf (hexL (s.data.toList.take k))) ∧ Below w.heap.size w wr)
    (fun _ i _ => s.size - (intOf i).toNat)
  case atStart => exact ⟨0, Nat.zero_le _, rfl, rfl, hown, (Below.refl _ _).grown hgrow (Nat.le_refl _) (fun k h => by cases h)⟩
  case round =>
    clear hown hgrow
    obtain ⟨k, hk, rfl, rfl, hown, hbel⟩ := hrel
    by_cases hlt : k < s.size
    · go_wp2_with fail
      have r0 := run_digit ((s[k].toNat : Int) / 16) (s[k].toNat / 16) (by omega) (by have := s[k].toNat_lt; omega)
      have r1 := run_digit (bits .and .u8 (s[k].toNat : Int) 15) (s[k].toNat % 16) (by rw [u8_and15 (x := (s[k].toNat : Int)) (by omega) (by have := s[k].toNat_lt; omega)]; omega) (by omega)
      go_region_law (refine step_append_fits rfl (.tmp 14) (.tmp 25) 59 rfl w.heap.size 5 i0 1 Tryz.underlying59 hi hz1 w.heap.size (2 * k) (2 * s.size) (cellsOf (hexL (s.data.toList.take k))) rfl ((hown.alloc _).drew) ⟨wr.heap.size, 0, none⟩ 2 2 (cellsOf [hexD (s[k].toNat / 16), hexD (s[k].toNat % 16)]) rfl rfl (bytes_new2 _ _ _) (cellsOf_one _) (by omega) ?_; intro w2 hown2 hgrow2)
      all_goals go_wp2_with fail
      all_goals go_roundw
      all_goals first
        | exact ⟨k + 1, by omega, by go_num, by rw [show 2 * (k + 1) = 2 * k + 2 by omega], by rw [show 2 * (k + 1) = 2 * k + 2 by omega, hexL_snoc s k hlt]; unfold cellsOf at hown2 ⊢; rw [List.map_append]; exact hown2, ((hbel.alloc (hbel.size) _).drew).grown hgrow2 (by have := hbel.size; simp; omega) (fun k h => by cases h; exact Nat.le_refl _)⟩
        | (simp [intOf]; omega)
    · obtain rfl : k = s.size := by omega
      have hcv := conv_own (l := hexL (s.data.toList.take s.size)) (by rw [hexL_length, List.take_of_length_le (by simp)]; simp) hown
      rw [List.take_of_length_le (by simp)] at hcv
      go_wp2_with fail
      go_ret
      exact ⟨rfl, hbel⟩
end Go.Proofs.YtdinachiiimngaaGreatDoor.Nu
namespace Go.Proofs.YtdinachiiimngaaGreatDoor.Nu
open Go.ChangeShapes Go.WideShapes Go.ChangeAt Go.RowKit

/-- The conversion to a string of a slice that the call made itself, nil or not. -/
theorem conv_any {w : World} {base n : Nat} {v : Value} {l : List UInt8} (hl : l.length = n) (hown : w.ownsRow base 5 1 v n (cellsOf l)) :
    (convert 59 9 v).run Tryz.prog w = .ok (.string ⟨l.toArray⟩) w := by
  rcases hown.2 with ⟨rfl, h⟩ | ⟨g, cap, cur, rfl, _⟩
  · obtain rfl : l = [] := List.eq_nil_of_length_eq_zero (by rw [hl, h])
    kernel_rfl
  · exact conv_own hl hown

end Go.Proofs.YtdinachiiimngaaGreatDoor.Nu
