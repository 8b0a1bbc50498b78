/- The reference's Canon. Slices of bytes that a call has made; the reference's Value. The program's isText, isDotAtom, isLiteral, isDomain and Right. Pieces between spaces, of no program. A loop over an iterator of strings, which may be left early: the loop's record and its rounds. strings.SplitSeq with a space: what it hands back gives the pieces of its string, one by one. isPlain: atoms separated by single spaces. Quote: a string as it stands, or between quotes. -/
import Derived.Test.YtgponokcigapaaaDoorKARight
import Derived.BigCall
import Derived.Lib.ConvBytes
import Derived.Lib.LazyBuf
import Derived.Lib.OthersKept
import Derived.Test.YtgponokcigapaaaDoorK2
import Derived.Test.YtgponokcigapaaaDoorK1
import Derived.RangeFuncRecord
import Derived.Lib.UnsafeStr
import Derived.Lib.AppendStr
import Derived.Laws.AppendOwn
import Derived.Maps.AppendAt
import Derived.Test.YtgponokcigapaaaDoorK6
import Derived.Test.YtgponokcigapaaaDoorK3
import Derived.RangeFuncNested
import Derived.RangeFuncCalls
import Derived.RangeFuncLeaves
import Derived.RangeFuncBox
import Derived.Shelf.Abstract
import Derived.Shelf.RegionOpen
import Derived.OwnWalkIn
import Derived.TacticsInMore
import Derived.LoopNIn
import Derived.LoopIn
import Derived.Lib.Bytealg
import Derived.Lib.Hide
namespace Go.Proofs.YtgponokcigapaaaDoor
open Go.ChangeShapes Go.WideShapes Go.ChangeAt Go.RowKit
open TokP AdrP

/-- Block g holds the bytes l and has room for cap of them. -/
structure Buf (base : Nat) (w : World) (g cap : Nat) (l : List UInt8) : Prop where
  le : l.length ≤ cap
  max : cap ≤ maxLen
  new : base ≤ g
  lt : g < w.heap.size
  holds : ∀ j, (h : j < l.length) → w.cell? ⟨g, j, none⟩ = some (.int .u8 (l[j].toNat : Int))
  there : ∀ j, j < cap → (w.cell? ⟨g, j, none⟩).isSome = true ∧ w.frozen? ⟨g, j, none⟩ = false
theorem Buf.block {base g cap : Nat} {w w' : World} {l : List UInt8} (h : Buf base w g cap l) (hs : w.heap.size ≤ w'.heap.size) (hb : w'.heap[g]? = w.heap[g]?) : Buf base w' g cap l :=
  ⟨h.le, h.max, h.new, Nat.lt_of_lt_of_le h.lt hs, fun j hj => by rw [World.cell?_of_block (by exact hb)]; exact h.holds j hj,
   fun j hj => by rw [World.cell?_of_block (by exact hb), World.frozen?_of_block (by exact hb)]; exact h.there j hj⟩
theorem Buf.below {base g cap : Nat} {w w' : World} {l : List UInt8} (h : Buf base w g cap l) (hb : Below w.heap.size w w') : Buf base w' g cap l :=
  h.block hb.size (hb.block g h.lt)
theorem below_bytes (w : World) (s : ByteArray) : Below w.heap.size w (Lib.bytesWorld w 5 s) :=
  ⟨rfl, rfl, rfl, by rw [Lib.bytesWorld_size]; omega, fun j hj => Lib.bytesWorld_at_old w 5 s j hj⟩
theorem buf_bytes (w : World) (s : ByteArray) (hs : s.size ≤ maxLen) : Buf w.heap.size (Lib.bytesWorld w 5 s) w.heap.size (grownCap w s.size 0 5) s.data.toList := by
  have hg := grownCap_ge w s.size 0 5
  have hc : (Lib.bytesCells w 5 s).size = grownCap w s.size 0 5 := by
    unfold Lib.bytesCells
    rw [Array.size_append, Array.size_map, Array.size_replicate]
    show s.size + _ = _
    omega
  have hl : s.data.toList.length = s.size := by rw [Array.length_toList]; rfl
  refine ⟨by rw [hl]; exact hg, grownCap_le_maxLen _ _ _ _ hs, Nat.le_refl _, by rw [Lib.bytesWorld_size]; omega, fun j hj => ?_, fun j hj => ?_⟩
  · rw [Lib.bytesWorld_cell w 5 s j (by omega), List.getD_eq_getElem?_getD, List.getElem?_eq_getElem hj]; rfl
  · have hn := Lib.bytesWorld_at_new w 5 s
    constructor
    · rw [cell_of_row _ _ j _ _ _ hn, Array.getElem?_eq_getElem (by omega)]; rfl
    · simp only [World.frozen?, hn, hc]
      simp; omega
theorem byteCells_len (l : List UInt8) : (Lib.byteCells l).length = l.length := Lib.byteCells_length l
/-- Bytes written over as many. -/
theorem Buf.put {base g cap : Nat} {w : World} {D x R : List UInt8} (h : Buf base w g cap (D ++ (x ++ R))) (y : List UInt8) (hy : y.length = x.length) :
    Buf base (w.setCells g D.length (Lib.byteCells y)) g cap (D ++ (y ++ R)) := by
  have hlen : (D ++ (y ++ R)).length = (D ++ (x ++ R)).length := by simp [hy]
  have hbl := byteCells_len y
  have hle := h.le
  simp only [List.length_append] at hle
  have hsz : (w.setCells g D.length (Lib.byteCells y)).heap.size = w.heap.size := by
    have : ∀ (vs : List Value) (o : Nat) (w : World), (w.setCells g o vs).heap.size = w.heap.size := by
      intro vs
      induction vs with
      | nil => intro o w; rfl
      | cons v r ih => intro o w; rw [World.setCells, ih]; simp [World.setCell]
    exact this _ _ _
  have hin := World.cell?_setCells_in g (Lib.byteCells y) D.length w (fun j hj => (h.there (D.length + j) (by omega)).1)
  refine ⟨by rw [hlen]; exact h.le, h.max, h.new, by rw [hsz]; exact h.lt, fun j hj => ?_, fun j hj => ?_⟩
  · by_cases c1 : j < D.length
    · rw [World.cell?_setCells_out g _ _ _ _ (fun _ _ => .inl c1), h.holds j (by rw [← hlen]; exact hj), List.getElem_append_left c1, List.getElem_append_left c1]
    · by_cases c2 : j < D.length + y.length
      · obtain ⟨k, rfl⟩ : ∃ k, j = D.length + k := ⟨j - D.length, by omega⟩
        rw [hin k (by rw [hbl]; omega), List.getElem_append_right (by omega)]
        simp only [Nat.add_sub_cancel_left]
        rw [List.getElem_append_left (by omega)]
        simp [Lib.byteCells]
      · rw [World.cell?_setCells_out g _ _ _ _ (fun _ _ => .inr (by rw [hbl]; simp only; omega)), h.holds j (by rw [← hlen]; exact hj), List.getElem_append_right (by omega), List.getElem_append_right (by omega), List.getElem_append_right (by omega), List.getElem_append_right (by omega)]
        congr 2
        simp only [hy]
  · rw [World.frozen?_setCells]
    refine ⟨?_, (h.there j hj).2⟩
    by_cases c1 : D.length ≤ j ∧ j < D.length + y.length
    · obtain ⟨k, rfl⟩ : ∃ k, j = D.length + k := ⟨j - D.length, by omega⟩
      rw [hin k (by rw [hbl]; omega)]; rfl
    · rw [World.cell?_setCells_out g _ _ _ _ (fun _ _ => by rw [hbl]; simp only; omega)]
      exact (h.there j hj).1
theorem low_big (c : UInt8) (x : Nat) (hx : c.toNat = x) (h1 : 65 ≤ x) (h2 : x ≤ 90) : (lowA c).toNat = x + 32 := by
  have : ∀ n : Fin 256, 65 ≤ n.val → n.val ≤ 90 → (lowA (UInt8.ofNat n.val)).toNat = n.val + 32 := by decide +kernel
  have h := this ⟨c.toNat, c.toNat_lt⟩ (by simp only; omega) (by simp only; omega)
  simp only [UInt8.ofNat_toNat] at h
  omega
theorem low_other (c : UInt8) (x : Nat) (hx : c.toNat = x) (h : x < 65 ∨ 90 < x) : lowA c = c := by
  have : ∀ n : Fin 256, (n.val < 65 ∨ 90 < n.val) → lowA (UInt8.ofNat n.val) = UInt8.ofNat n.val := by decide +kernel
  have h := this ⟨c.toNat, c.toNat_lt⟩ (by simp only; omega)
  simp only [UInt8.ofNat_toNat] at h
  exact h
theorem low_next (s : List UInt8) (k : Nat) (c : UInt8) (h : s[k]? = some c) : (s.take (k + 1)).map lowA = (s.take k).map lowA ++ [lowA c] := by
  rw [List.take_add_one, h, List.map_append]; rfl
theorem drop_cons' (s : List UInt8) (k : Nat) (c : UInt8) (h : s[k]? = some c) : s.drop k = c :: s.drop (k + 1) := by
  obtain ⟨hk, rfl⟩ := List.getElem?_eq_some_iff.1 h
  exact List.drop_eq_getElem_cons hk
set_option maxRecDepth 1000000 in
set_option maxHeartbeats 4000000 in
theorem rcanon_str (N L D : ByteArray) (hL : L.size ≤ 300) (hD : D.size ≤ 300) (w : World) :
    Calls Tryd.prog 21 #[.agg #[.string N, .string L, .string D]] w fun e w' => e = .returned (.string (strL (L.data.toList ++ 64 :: D.data.toList.map lowA))) ∧ Below w.heap.size w w' := by
  have hcv := fun w : World => Lib.run_convert_string_bytes (P := Tryd.prog) w 9 45 5 D Tryd.underlying9 Tryd.underlying45 Tryd.underlying5
  have HB0 := Lib.hid (below_box w (.cells #[.string N, .string L, .string D] 34))
  obtain ⟨ANS, hA⟩ : ∃ z, strL (L.data.toList ++ 64 :: D.data.toList.map lowA) = z := ⟨_, rfl⟩
  rw [hA]
  have HA := Lib.hid hA
  clear hA
  have HLD := Lib.hid (size_list D)
  have zA : (L ++ (⟨#[64]⟩ : ByteArray)).size = L.size + 1 := by rw [ByteArray.size_append]; rfl
  go_enter Tryd.func21, Tryd.ntmps21
  go_upto_region 1 with (fail)
  obtain ⟨k0, k1, k2⟩ := box_adr w N L D
  generalize w.alloc (.cells #[.string N, .string L, .string D] 34) = W at k0 k1 k2 HB0 ⊢
  have hb0 := buf_bytes W D (by unfold maxLen; omega)
  have hbel0 := below_bytes W D
  obtain ⟨CAP, hCAP⟩ : ∃ c, grownCap W D.size 0 5 = c := ⟨_, rfl⟩
  go_wp2_with fail
  rw [hCAP] at hb0
  have hbw := HB0.out.size
  have hkk := And.intro k1 k2
  generalize Lib.bytesWorld W 5 D = W1 at hb0 hbel0 ⊢
  obtain ⟨G, hG⟩ : ∃ G, W.heap.size = G := ⟨_, rfl⟩
  rw [hG] at hb0 hbel0 ⊢
  have HKK := Lib.hid hkk
  have HGW := Lib.hid hG
  clear hkk hG k0 k1 k2 hcv hbw
  go_loopw [4] (fun i wr => ∃ k : Nat, k ≤ D.size ∧ i = .int .i64 k ∧ Hid (Buf G wr G CAP ((D.data.toList.take k).map lowA ++ D.data.toList.drop k)) ∧ Hid (Below G W wr)) (fun i _ => D.size - (intOf i).toNat)
  case atStart => exact ⟨0, Nat.zero_le _, rfl, hb0, hbel0⟩
  case round =>
    obtain ⟨k, hk, rfl, HBf, HBe⟩ := hrel
    clear hb0 hbel0
    have F1 : IntKind.i64.wrap ((k : Int) + 1) = (k : Int) + 1 := by rw [IntKind.wrap_i64]; omega
    by_cases hlt : k < D.size
    · have hlt' : (k : Int) < (D.size : Int) := by omega
      obtain ⟨c, x, hc, hx, hx2, _⟩ := run_byte D k hlt
      have hln : ((D.data.toList.take k).map lowA).length = k := by have hlD := HLD.out; rw [List.length_map, List.length_take]; omega
      have hdr := drop_cons' D.data.toList k c hc
      have hnx := low_next D.data.toList k c hc
      have hbf := HBf.out
      rw [hdr] at hbf
      have ck : wr.cell? ⟨G, k, none⟩ = some (.int .u8 (x : Int)) := by
        have := hbf.holds k (by rw [List.length_append, hln]; simp)
        rw [List.getElem_append_right (by omega)] at this
        simp only [hln, Nat.sub_self, List.getElem_cons_zero, hx] at this
        exact this
      have cf := (hbf.there k (by have := hbf.le; rw [List.length_append, hln, List.length_cons] at this; omega)).2
      by_cases h65 : 65 ≤ x
      · have h65' : (65 : Int) ≤ (x : Int) := by omega
        by_cases h90 : x ≤ 90
        · have h90' : (x : Int) ≤ 90 := by omega
          have Fx : IntKind.u8.wrap ((x : Int) + 32) = (x : Int) + 32 := by rw [IntKind.wrap_u8]; omega
          have hput := Buf.put (D := (D.data.toList.take k).map lowA) (x := [c]) (R := D.data.toList.drop (k + 1)) hbf [lowA c] rfl
          rw [hln] at hput
          have HP : Hid (Buf G (wr.setCell ⟨G, k, none⟩ (.int .u8 ((x : Int) + 32))) G CAP ((D.data.toList.take (k + 1)).map lowA ++ D.data.toList.drop (k + 1))) := by
            show Buf G _ G CAP _
            rw [hnx, List.append_assoc]
            have e : (Lib.byteCells [lowA c]) = [.int .u8 ((x : Int) + 32)] := by
              simp [Lib.byteCells, low_big c x hx h65 h90]
            rw [e] at hput
            exact hput
          have HP2 : Hid (Below G W (wr.setCell ⟨G, k, none⟩ (.int .u8 ((x : Int) + 32)))) := Below.setCell HBe.out (by show G ≤ G; exact Nat.le_refl _) _
          clear hc hx hx2 hdr hnx hbf hput HBf HBe h65 h90
          go_wp2_with fail
          go_roundw
          case rel => exact ⟨k + 1, by omega, by go_num, HP, HP2⟩
          case measure => simp [intOf]; omega
        · have h90' : ¬ (x : Int) ≤ 90 := by omega
          have HP : Hid (Buf G wr G CAP ((D.data.toList.take (k + 1)).map lowA ++ D.data.toList.drop (k + 1))) := by
            show Buf G _ G CAP _
            rw [hnx, List.append_assoc, low_other c x hx (.inr (by omega))]
            exact hbf
          clear hc hx hx2 hdr hnx hbf HBf h65 h90
          go_wp2_with fail
          go_roundw
          case rel => exact ⟨k + 1, by omega, by go_num, HP, HBe⟩
          case measure => simp [intOf]; omega
      · have h65' : ¬ (65 : Int) ≤ (x : Int) := by omega
        have HP : Hid (Buf G wr G CAP ((D.data.toList.take (k + 1)).map lowA ++ D.data.toList.drop (k + 1))) := by
          show Buf G _ G CAP _
          rw [hnx, List.append_assoc, low_other c x hx (.inl (by omega))]
          exact hbf
        clear hc hx hx2 hdr hnx hbf HBf h65
        go_wp2_with fail
        go_roundw
        case rel => exact ⟨k + 1, by omega, by go_num, HP, HBe⟩
        case measure => simp [intOf]; omega
    · obtain rfl : k = D.size := by omega
      have hlt' : ¬ (D.size : Int) < (D.size : Int) := by omega
      have hbf := HBf.out
      rw [List.take_of_length_le (by rw [← HLD.out]; exact Nat.le_refl _), List.drop_eq_nil_of_le (by rw [← HLD.out]; exact Nat.le_refl _), List.append_nil] at hbf
      have hll : (D.data.toList.map lowA).length = D.size := by rw [List.length_map, HLD.out]
      have hcb : (convert 45 9 (.slice (some ⟨G, 0, none⟩) D.size CAP)).run Tryd.prog wr = .ok (.string ⟨(D.data.toList.map lowA).toArray⟩) wr := by
        have := run_convert_bytes_back (P := Tryd.prog) wr 45 9 5 ⟨G, 0, none⟩ CAP (D.data.toList.map lowA) Tryd.underlying45 Tryd.underlying5 Tryd.underlying9 (fun j hj => by
          have h1 := hbf.holds j hj
          have e : (⟨G, 0, none⟩ : Addr).add j = ⟨G, j, none⟩ := by unfold Addr.add; split <;> simp_all
          rw [e]; exact h1)
        rw [hll] at this
        exact this
      have hbe := HBe.out
      rw [← HGW.out] at hbe
      have l1 := cell_below HKK.out.1 hbe
      have HF : Hid ((L ++ (⟨#[64]⟩ : ByteArray)) ++ ⟨(D.data.toList.map lowA).toArray⟩ = ANS) := by
        show _ = _
        rw [← HA.out]
        refine ByteArray.ext (Array.ext' ?_)
        show (_ : ByteArray).data.toList = (strL _).data.toList
        rw [list_append, list_append, strL_list, List.append_assoc]; rfl
      have zB : (⟨(D.data.toList.map lowA).toArray⟩ : ByteArray).size = D.size := by
        show (D.data.toList.map lowA).toArray.size = _
        rw [List.size_toArray]; exact hll
      generalize (⟨(D.data.toList.map lowA).toArray⟩ : ByteArray) = E at hcb HF zB
      have HBX := Lib.hid (Qtrans HB0.out hbe)
      clear hbf hbe HBf HBe
      go_wp2_with fail
      go_ret
      exact ⟨congrArg (fun z => Ending.returned (Value.string z)) HF.out, HBX.out⟩
theorem rcanon_ok : RCanonOk := fun a h W => by
  unfold smallA at h
  simp only [Bool.and_eq_true, decide_eq_true_eq] at h
  have := rcanon_str (strL a.name) (strL a.loc) (strL a.dom) (by rw [strL_size]; exact h.1.2) (by rw [strL_size]; exact h.2) W
  rw [strL_list, strL_list] at this
  exact this
end Go.Proofs.YtgponokcigapaaaDoor
namespace Go.Proofs.YtgponokcigapaaaDoor
open Go.ChangeShapes Go.WideShapes Go.ChangeAt Go.RowKit
open TokP

/-- The slice v holds out, in a block of its own from B on. -/
def Ow (w : World) (B : Nat) (v : Value) (out : List UInt8) : Prop := w.ownsRow B 5 1 v out.length (Lib.byteCells out)
theorem conv_own {w : World} {base n : Nat} {v : Value} {l : List UInt8} (hl : l.length = n) (hown : w.ownsRow base 5 1 v n (Lib.byteCells l)) :
    (convert 45 9 v).run Tryd.prog w = .ok (.string (strL l)) w := by
  rcases hown.2 with ⟨rfl, h⟩ | ⟨g, cap, cur, rfl, _⟩
  · obtain rfl : l = [] := List.eq_nil_of_length_eq_zero (by rw [hl, h])
    kernel_rfl
  · subst hl
    refine run_convert_bytes_back w 45 9 5 ⟨g, 0, none⟩ cap l Tryd.underlying45 Tryd.underlying5 Tryd.underlying9 fun j hj => ?_
    refine hown.cells (g := g) rfl j _ ?_
    unfold Lib.byteCells
    rw [List.getElem?_map, List.getElem?_eq_getElem hj]; rfl
/-- A new byte is appended. -/
theorem wpList_byte {ops : Array Oper} {rest : List Oper} {o : Oper} {a : Act} {w : World} {Q : Exit → Act → World → Prop} (hgd : o.guard = none) (s x : Operand) (ho : o.op = .call { callee := .builtin .append, args := #[s, x], argTypes := #[45, 45] })
    (B : Nat) {v : Value} {out : List UInt8} {n : Nat} (c : UInt8) (y : Int) (hy : (c.toNat : Int) = y) (hs : a.eval s = v) (hx : a.eval x = .slice (some ⟨w.heap.size, 0, none⟩) 1 1) (hown : Ow w B v out) (hn : out.length = n) (hb : B ≤ w.heap.size) (hl : n + 1 ≤ 1000000)
    (h : ∀ a' c' w', Ow w' B (.slice a' (n + 1) c') (out ++ [c]) → (w.alloc (.cells #[.int .u8 y] 5)).grownBy w' v.ownBlock → wpList Tryd.prog ops Q rest (a.put o.dst (.slice a' (n + 1) c')) w') : wpList Tryd.prog ops Q (o :: rest) a (w.alloc (.cells #[.int .u8 y] 5)) := by
  obtain ⟨i0, hi, hz0, hz1, hz2⟩ := info_parts info5
  subst hn
  subst hy
  have h0 : Ow (w.alloc (.cells #[.int .u8 (c.toNat : Int)] 5)) B v out := World.ownsRow.alloc hown _
  refine wpList_append_own _ hgd s x 45 ho B 5 i0 (.int .u8 0) 1 1 Tryd.underlying45 hi hz0 hz1 hz2 rfl (by decide) v _ _ hs h0 ⟨w.heap.size, 0, none⟩ 1 1 [.int .u8 (c.toNat : Int)] hx rfl (cell_one_new _ _ _) (by simp [Value.oneCell']) (by unfold maxLen; omega) (by omega) (by rw [World.size_alloc]; omega) ?_
  intro v' w' h1 h2 _
  have h1' : w'.ownsRow B 5 1 v' (out.length + 1) (Lib.byteCells (out ++ [c])) := by rw [Lib.byteCells_append]; exact h1
  obtain ⟨a', c', rfl⟩ : ∃ a' c', v' = .slice a' (out.length + 1) c' := by
    rcases h1.2 with ⟨rfl, h0⟩ | ⟨g, cap, cur, rfl, _⟩
    · omega
    · exact ⟨_, _, rfl⟩
  exact h a' c' w' (by unfold Ow; rw [List.length_append]; exact h1') h2
theorem ow_nil (w : World) (B : Nat) : Ow w B (.slice none 0 0) [] := ⟨rfl, .inl ⟨rfl, rfl⟩⟩
theorem ow_below {w w1 w2 : World} {B : Nat} {v : Value} {out : List UInt8} {o : Obj} (h : Below w.heap.size w w1) (ho : Ow w1 B v out) (hB : w.heap.size ≤ B) (hg : (w1.alloc o).grownBy w2 v.ownBlock) : Below w.heap.size w w2 :=
  (h.alloc h.size _).grown hg (by rw [World.size_alloc]; have := h.size; omega) (fun k e => by have := (World.ownsRow.lt ho k e).1; omega)
set_option maxRecDepth 100000 in
set_option maxHeartbeats 2000000 in
/-- The loop of the reference's Value, over a struct that lies in a box. -/
theorem rvalue_yes (K : Int) (hK : K = 2 ∨ K = 3) (T : ByteArray) (hT : T.size ≤ 1000000) (h2 : 2 ≤ T.size) (w : World) :
    Calls Tryd.prog 53 #[.agg #[.int .i64 K, .string T]] w fun e w' => e = .returned (.string (strL (unescS false (T.data.toList.drop 1).dropLast))) ∧ Below w.heap.size w w' := by
  obtain ⟨R, hR⟩ : ∃ R, unescS false (T.data.toList.drop 1).dropLast = R := ⟨_, rfl⟩
  rw [hR]
  have h2' : ¬ (T.size : Int) < 2 := by omega
  have F0 : IntKind.i64.wrap ((T.size : Int) - 1) = (T.size : Int) - 1 := by rw [IntKind.wrap_i64]; omega
  have R1 : ∀ W : World, (Instr.slice 9 (.string T) (some (.int .i64 1)) (some (.int .i64 ((T.size : Int) - 1))) none).run Tryd.prog W = .ok (.string (T.extract 1 (T.size - 1))) W := run_slice_str T 1 (T.size - 1) ((T.size : Int) - 1) (by omega) (by omega) (by omega)
  rw [inner_is T h2] at R1
  obtain ⟨I, hI⟩ : ∃ I, strL (T.data.toList.drop 1).dropLast = I := ⟨_, rfl⟩
  rw [hI] at R1
  have hRI : unescS false I.data.toList = R := by rw [← hI]; exact hR
  have hIz : I.size ≤ 1000000 := by rw [← hI, strL_size, List.length_dropLast, List.length_drop, ← size_list]; omega
  obtain ⟨n, hn⟩ : ∃ n, I.size = n := ⟨_, rfl⟩
  rw [hn] at hIz
  have HN := Lib.hid hn
  have HL := Lib.hid (size_list I)
  have HR := Lib.hid hRI
  have HK := Lib.hid hK
  have HW := Lib.hid (show Below w.heap.size w (w.alloc (.cells #[.int .i64 K, .string T] 43)) from (Below.refl _ w).alloc (Nat.le_refl _) _)
  clear hR hRI hI hn h2 hT hK
  have key : ∀ K', K = K' → (K' = 2 ∨ K' = 3) → Calls Tryd.prog 53 #[.agg #[.int .i64 K', .string T]] w fun e w' => e = .returned (.string (strL R)) ∧ Below w.heap.size w w' := by
    intro K' hKK hK'
    rcases hK' with rfl | rfl
    · go_enter Tryd.func53, Tryd.ntmps53
      go_wp2_with fail
      go_loopw [4, 5] (fun o i wr => ∃ (k m : Nat) (O : List UInt8), k ≤ n + 1 ∧ m ≤ k ∧ i = .int .i64 k ∧ (∃ a c, o = .slice a m c) ∧ Hid (O.length = m) ∧ Hid (O ++ unescS false (I.data.toList.drop k) = R) ∧ Hid (Ow wr w.heap.size o O) ∧ Hid (Below w.heap.size w wr)) (fun _ i _ => n + 1 - (intOf i).toNat)
      case atStart => exact ⟨0, 0, [], by omega, Nat.le_refl _, rfl, ⟨none, 0, rfl⟩, rfl, HR, ow_nil _ _, by rw [hKK] at HW; exact HW⟩
      case round =>
        obtain ⟨k, m, O, hk, hmk, rfl, ⟨a, c0, rfl⟩, hm, HE, ho, hb⟩ := hrel
        have F1 : IntKind.i64.wrap ((k : Int) + 1) = (k : Int) + 1 := by rw [IntKind.wrap_i64]; omega
        have F2 : IntKind.i64.wrap ((k : Int) + 1 + 1) = (k : Int) + 1 + 1 := by rw [IntKind.wrap_i64]; omega
        have hn : I.size = n := HN.out
        by_cases hlt : k < n
        · have hlt' : (k : Int) < (n : Int) := by omega
          obtain ⟨c, x, hc, hx, hx2, S1⟩ := run_byte I k (by rw [hn]; exact hlt)
          have e92 := byte_is c x hx 92 (by decide)
          have e10 := byte_is c x hx 10 (by decide)
          have e13 := byte_is c x hx 13 (by decide)
          rw [show ((92 : Nat) : Int) = 92 from rfl] at e92
          rw [show ((10 : Nat) : Int) = 10 from rfl] at e10
          rw [show ((13 : Nat) : Int) = 13 from rfl] at e13
          by_cases h92 : c = 92
          · rw [show decide (c = UInt8.ofNat 92) = true from decide_eq_true h92] at e92
            rw [h92] at hc
            by_cases hl2 : k + 1 < n
            · have hl2' : (k : Int) + 1 < (n : Int) := by omega
              obtain ⟨d, y, hd, hy, hy2, S2⟩ := run_byte I (k + 1) (by rw [hn]; exact hl2)
              rw [show ((k + 1 : Nat) : Int) = (k : Int) + 1 from by omega] at S2
              have HE2 := Lib.hid (show (O ++ [d]) ++ unescS false (I.data.toList.drop (k + 2)) = R by rw [← HE.out, un_esc1 _ k d hc hd, List.append_assoc]; rfl)
              have HY : Hid ((d.toNat : Int) = (y : Int)) := by show _ = _; rw [hy]
              clear h92 hc hx hx2 HE hd hy hy2 e10 e13
              go_wp2_with (at_builtin; refine wpList_byte rfl (.tmp 45) (.tmp 49) rfl w.heap.size d _ HY.out rfl rfl ho.out hm.out hb.out.size (by omega) ?_; intro a2 c2 w2 h2 g2; replace h2 := Lib.hid h2; replace g2 := Lib.hid g2)
              go_roundw
              case rel => exact ⟨k + 2, m + 1, O ++ [d], by omega, by omega, by go_num, ⟨a2, c2, rfl⟩, Lib.hid (by rw [List.length_append, hm.out]; rfl), HE2, h2, ow_below hb.out ho.out (Nat.le_refl _) g2.out⟩
              case measure => simp [intOf]; omega
            · have hl2' : ¬ (k : Int) + 1 < (n : Int) := by omega
              have HE2 := Lib.hid ((congrArg (O ++ ·) (un_esc0 _ k hc (by rw [← HL.out, hn]; omega))).symm.trans HE.out)
              clear h92 hc hx hx2 HE e10 e13
              go_wp2_with fail
              go_roundw
              case rel => exact ⟨k + 2, m, O, by omega, by omega, by go_num, ⟨a, c0, rfl⟩, hm, HE2, ho, hb⟩
              case measure => simp [intOf]; omega
          · rw [show decide (c = UInt8.ofNat 92) = false from decide_eq_false h92] at e92
            by_cases h10 : c = 10
            · rw [show decide (c = UInt8.ofNat 10) = true from decide_eq_true h10] at e10
              have n10 : ((x : Int) != 10) = false := by rw [bne, e10]; rfl
              have HE2 := Lib.hid ((congrArg (O ++ ·) (un_break _ k c hc (.inl h10))).symm.trans HE.out)
              clear h92 h10 hc hx hx2 HE e13 e10
              go_wp2_with fail
              go_roundw
              case rel => exact ⟨k + 1, m, O, by omega, by omega, by go_num, ⟨a, c0, rfl⟩, hm, HE2, ho, hb⟩
              case measure => simp [intOf]; omega
            · rw [show decide (c = UInt8.ofNat 10) = false from decide_eq_false h10] at e10
              have n10 : ((x : Int) != 10) = true := by rw [bne, e10]; rfl
              by_cases h13 : c = 13
              · rw [show decide (c = UInt8.ofNat 13) = true from decide_eq_true h13] at e13
                have n13 : ((x : Int) != 13) = false := by rw [bne, e13]; rfl
                have HE2 := Lib.hid ((congrArg (O ++ ·) (un_break _ k c hc (.inr h13))).symm.trans HE.out)
                clear h92 h10 h13 hc hx hx2 HE e13 e10
                go_wp2_with fail
                go_roundw
                case rel => exact ⟨k + 1, m, O, by omega, by omega, by go_num, ⟨a, c0, rfl⟩, hm, HE2, ho, hb⟩
                case measure => simp [intOf]; omega
              · rw [show decide (c = UInt8.ofNat 13) = false from decide_eq_false h13] at e13
                have n13 : ((x : Int) != 13) = true := by rw [bne, e13]; rfl
                have HE2 := Lib.hid (show (O ++ [c]) ++ unescS false (I.data.toList.drop (k + 1)) = R by rw [← HE.out, un_plain _ k c hc h92 (fun e => e.elim h10 h13), List.append_assoc]; rfl)
                have HY : Hid ((c.toNat : Int) = (x : Int)) := by show _ = _; rw [hx]
                clear h92 h10 h13 hc hx hx2 HE e13 e10
                go_wp2_with (at_builtin; refine wpList_byte rfl (.tmp 61) (.tmp 65) rfl w.heap.size c _ HY.out rfl rfl ho.out hm.out hb.out.size (by omega) ?_; intro a2 c2 w2 h2 g2; replace h2 := Lib.hid h2; replace g2 := Lib.hid g2)
                go_roundw
                case rel => exact ⟨k + 1, m + 1, O ++ [c], by omega, by omega, by go_num, ⟨a2, c2, rfl⟩, Lib.hid (by rw [List.length_append, hm.out]; rfl), HE2, h2, ow_below hb.out ho.out (Nat.le_refl _) g2.out⟩
                case measure => simp [intOf]; omega
        · have hlt' : ¬ (k : Int) < (n : Int) := by omega
          have he : O = R := by
            have h := HE.out
            rw [List.drop_eq_nil_of_le (by rw [← HL.out, hn]; omega), unescS, List.append_nil] at h
            exact h
          subst he
          have hcv := conv_own hm.out (by have h := ho.out; unfold Ow at h; rw [hm.out] at h; exact h)
          clear HE
          go_wp2_with fail
          go_ret
          exact ⟨rfl, hb.out⟩
    · go_enter Tryd.func53, Tryd.ntmps53
      go_wp2_with fail
      go_loopw [4, 5] (fun o i wr => ∃ (k m : Nat) (O : List UInt8), k ≤ n + 1 ∧ m ≤ k ∧ i = .int .i64 k ∧ (∃ a c, o = .slice a m c) ∧ Hid (O.length = m) ∧ Hid (O ++ unescS false (I.data.toList.drop k) = R) ∧ Hid (Ow wr w.heap.size o O) ∧ Hid (Below w.heap.size w wr)) (fun _ i _ => n + 1 - (intOf i).toNat)
      case atStart => exact ⟨0, 0, [], by omega, Nat.le_refl _, rfl, ⟨none, 0, rfl⟩, rfl, HR, ow_nil _ _, by rw [hKK] at HW; exact HW⟩
      case round =>
        obtain ⟨k, m, O, hk, hmk, rfl, ⟨a, c0, rfl⟩, hm, HE, ho, hb⟩ := hrel
        have F1 : IntKind.i64.wrap ((k : Int) + 1) = (k : Int) + 1 := by rw [IntKind.wrap_i64]; omega
        have F2 : IntKind.i64.wrap ((k : Int) + 1 + 1) = (k : Int) + 1 + 1 := by rw [IntKind.wrap_i64]; omega
        have hn : I.size = n := HN.out
        by_cases hlt : k < n
        · have hlt' : (k : Int) < (n : Int) := by omega
          obtain ⟨c, x, hc, hx, hx2, S1⟩ := run_byte I k (by rw [hn]; exact hlt)
          have e92 := byte_is c x hx 92 (by decide)
          have e10 := byte_is c x hx 10 (by decide)
          have e13 := byte_is c x hx 13 (by decide)
          rw [show ((92 : Nat) : Int) = 92 from rfl] at e92
          rw [show ((10 : Nat) : Int) = 10 from rfl] at e10
          rw [show ((13 : Nat) : Int) = 13 from rfl] at e13
          by_cases h92 : c = 92
          · rw [show decide (c = UInt8.ofNat 92) = true from decide_eq_true h92] at e92
            rw [h92] at hc
            by_cases hl2 : k + 1 < n
            · have hl2' : (k : Int) + 1 < (n : Int) := by omega
              obtain ⟨d, y, hd, hy, hy2, S2⟩ := run_byte I (k + 1) (by rw [hn]; exact hl2)
              rw [show ((k + 1 : Nat) : Int) = (k : Int) + 1 from by omega] at S2
              have HE2 := Lib.hid (show (O ++ [d]) ++ unescS false (I.data.toList.drop (k + 2)) = R by rw [← HE.out, un_esc1 _ k d hc hd, List.append_assoc]; rfl)
              have HY : Hid ((d.toNat : Int) = (y : Int)) := by show _ = _; rw [hy]
              clear h92 hc hx hx2 HE hd hy hy2 e10 e13
              go_wp2_with (at_builtin; refine wpList_byte rfl (.tmp 45) (.tmp 49) rfl w.heap.size d _ HY.out rfl rfl ho.out hm.out hb.out.size (by omega) ?_; intro a2 c2 w2 h2 g2; replace h2 := Lib.hid h2; replace g2 := Lib.hid g2)
              go_roundw
              case rel => exact ⟨k + 2, m + 1, O ++ [d], by omega, by omega, by go_num, ⟨a2, c2, rfl⟩, Lib.hid (by rw [List.length_append, hm.out]; rfl), HE2, h2, ow_below hb.out ho.out (Nat.le_refl _) g2.out⟩
              case measure => simp [intOf]; omega
            · have hl2' : ¬ (k : Int) + 1 < (n : Int) := by omega
              have HE2 := Lib.hid ((congrArg (O ++ ·) (un_esc0 _ k hc (by rw [← HL.out, hn]; omega))).symm.trans HE.out)
              clear h92 hc hx hx2 HE e10 e13
              go_wp2_with fail
              go_roundw
              case rel => exact ⟨k + 2, m, O, by omega, by omega, by go_num, ⟨a, c0, rfl⟩, hm, HE2, ho, hb⟩
              case measure => simp [intOf]; omega
          · rw [show decide (c = UInt8.ofNat 92) = false from decide_eq_false h92] at e92
            by_cases h10 : c = 10
            · rw [show decide (c = UInt8.ofNat 10) = true from decide_eq_true h10] at e10
              have n10 : ((x : Int) != 10) = false := by rw [bne, e10]; rfl
              have HE2 := Lib.hid ((congrArg (O ++ ·) (un_break _ k c hc (.inl h10))).symm.trans HE.out)
              clear h92 h10 hc hx hx2 HE e13 e10
              go_wp2_with fail
              go_roundw
              case rel => exact ⟨k + 1, m, O, by omega, by omega, by go_num, ⟨a, c0, rfl⟩, hm, HE2, ho, hb⟩
              case measure => simp [intOf]; omega
            · rw [show decide (c = UInt8.ofNat 10) = false from decide_eq_false h10] at e10
              have n10 : ((x : Int) != 10) = true := by rw [bne, e10]; rfl
              by_cases h13 : c = 13
              · rw [show decide (c = UInt8.ofNat 13) = true from decide_eq_true h13] at e13
                have n13 : ((x : Int) != 13) = false := by rw [bne, e13]; rfl
                have HE2 := Lib.hid ((congrArg (O ++ ·) (un_break _ k c hc (.inr h13))).symm.trans HE.out)
                clear h92 h10 h13 hc hx hx2 HE e13 e10
                go_wp2_with fail
                go_roundw
                case rel => exact ⟨k + 1, m, O, by omega, by omega, by go_num, ⟨a, c0, rfl⟩, hm, HE2, ho, hb⟩
                case measure => simp [intOf]; omega
              · rw [show decide (c = UInt8.ofNat 13) = false from decide_eq_false h13] at e13
                have n13 : ((x : Int) != 13) = true := by rw [bne, e13]; rfl
                have HE2 := Lib.hid (show (O ++ [c]) ++ unescS false (I.data.toList.drop (k + 1)) = R by rw [← HE.out, un_plain _ k c hc h92 (fun e => e.elim h10 h13), List.append_assoc]; rfl)
                have HY : Hid ((c.toNat : Int) = (x : Int)) := by show _ = _; rw [hx]
                clear h92 h10 h13 hc hx hx2 HE e13 e10
                go_wp2_with (at_builtin; refine wpList_byte rfl (.tmp 61) (.tmp 65) rfl w.heap.size c _ HY.out rfl rfl ho.out hm.out hb.out.size (by omega) ?_; intro a2 c2 w2 h2 g2; replace h2 := Lib.hid h2; replace g2 := Lib.hid g2)
                go_roundw
                case rel => exact ⟨k + 1, m + 1, O ++ [c], by omega, by omega, by go_num, ⟨a2, c2, rfl⟩, Lib.hid (by rw [List.length_append, hm.out]; rfl), HE2, h2, ow_below hb.out ho.out (Nat.le_refl _) g2.out⟩
                case measure => simp [intOf]; omega
        · have hlt' : ¬ (k : Int) < (n : Int) := by omega
          have he : O = R := by
            have h := HE.out
            rw [List.drop_eq_nil_of_le (by rw [← HL.out, hn]; omega), unescS, List.append_nil] at h
            exact h
          subst he
          have hcv := conv_own hm.out (by have h := ho.out; unfold Ow at h; rw [hm.out] at h; exact h)
          clear HE
          go_wp2_with fail
          go_ret
          exact ⟨rfl, hb.out⟩
  exact key K rfl HK.out
set_option maxHeartbeats 1000000 in
theorem rvalue_any (K : Int) (T : ByteArray) (hT : T.size ≤ 1000000) (w : World) :
    Calls Tryd.prog 53 #[.agg #[.int .i64 K, .string T]] w fun e w' => e = .returned (.string (strL (valueI K T.data.toList))) ∧ Below w.heap.size w w' := by
  have hsz := size_list T
  have HW := Lib.hid (show Below w.heap.size w (w.alloc (.cells #[.int .i64 K, .string T] 43)) from (Below.refl _ w).alloc (Nat.le_refl _) _)
  by_cases hk : K = 2 ∨ K = 3
  · by_cases h2 : 2 ≤ T.size
    · rw [value_yes K _ hk (by rw [← hsz]; exact h2)]
      exact rvalue_yes K hk T hT h2 w
    · have h2' : (T.size : Int) < 2 := by omega
      rw [value_no K _ (fun e => h2 (by rw [hsz]; exact e.2)), strL_of]
      clear hsz h2
      rcases hk with rfl | rfl
      · go_enter Tryd.func53, Tryd.ntmps53
        go_wp2_with fail
        go_ret
        exact ⟨rfl, HW.out⟩
      · go_enter Tryd.func53, Tryd.ntmps53
        go_wp2_with fail
        go_ret
        exact ⟨rfl, HW.out⟩
  · have g2 : (K != 2) = true := by rw [bne_iff_ne]; exact fun e => hk (.inl e)
    have g3 : (K != 3) = true := by rw [bne_iff_ne]; exact fun e => hk (.inr e)
    have n2 : ¬ K = 2 := fun e => hk (.inl e)
    have n3 : ¬ K = 3 := fun e => hk (.inr e)
    rw [value_no K _ (fun e => hk e.1), strL_of]
    clear hsz hk
    go_enter Tryd.func53, Tryd.ntmps53
    go_wp2_with fail
    go_ret
    exact ⟨rfl, HW.out⟩
end Go.Proofs.YtgponokcigapaaaDoor
namespace Go.Proofs.YtgponokcigapaaaDoor
open Go.ChangeShapes Go.WideShapes Go.ChangeAt Go.RowKit
open TokP AdrP

/-! ### isText -/
def shown1 (c : UInt8) : Bool := decide (32 ≤ c.toNat) && c != 127
theorem shown_at {l : List UInt8} {k : Nat} {c : UInt8} (h : l[k]? = some c) : shown (l.drop k) = (shown1 c && shown (l.drop (k + 1))) := by
  rw [cons_at l k c h]; rfl
set_option maxHeartbeats 1000000 in
theorem text_p (s : ByteArray) (m : Nat) (x : Int) (hx : (m : Int) = x) (hs : s.size ≤ 1000000) (w : World) :
    Calls Tryd.prog 35 #[.string s, .int .i64 x] w fun e w' => e = .returned (.bool (decide (s.size ≤ m) && shown s.data.toList)) ∧ w = w' := by
  subst hx
  by_cases hm : s.size ≤ m
  · rw [decide_eq_true hm, Bool.true_and]
    have hm' : ¬ (m : Int) < (s.size : Int) := by omega
    obtain ⟨R, hR⟩ : ∃ R, shown s.data.toList = R := ⟨_, rfl⟩
    rw [hR]
    obtain ⟨n, hn⟩ : ∃ n, s.size = n := ⟨_, rfl⟩
    have HL := Lib.hid (size_list s)
    have HR := Lib.hid (show shown (s.data.toList.drop 0) = R from hR)
    rw [hn] at hs hm'
    have HN := Lib.hid hn
    clear hR hm
    go_enter Tryd.func35, Tryd.ntmps35
    go_wp2_with fail
    go_loopw [12] (fun i wr => ∃ k : Nat, k ≤ n ∧ i = .int .i64 k ∧ wr = w ∧ Hid (shown (s.data.toList.drop k) = R)) (fun i _ => n - (intOf i).toNat)
    case atStart => exact ⟨0, Nat.zero_le _, rfl, rfl, HR⟩
    case round =>
      obtain ⟨k, hk, rfl, rfl, HG⟩ := hrel
      have F1 : IntKind.i64.wrap ((k : Int) + 1) = (k : Int) + 1 := by rw [IntKind.wrap_i64]; omega
      by_cases hlt : k < n
      · have hlt' : (k : Int) < (n : Int) := by omega
        obtain ⟨c, x, hc, hx, hx2, S1⟩ := run_byte s k (by rw [hn]; exact hlt)
        have hst := shown_at hc
        rw [HG.out] at hst
        have e127 := ne127 c x hx
        by_cases h32 : x < 32
        · have h32' : (x : Int) < 32 := by omega
          obtain rfl : R = false := by rw [hst]; unfold shown1; rw [decide_eq_false (by omega)]; rfl
          clear hc hx hst HG HR e127 h32
          go_wp2_with fail
          go_ret
          exact ⟨rfl, rfl⟩
        · have h32' : ¬ (x : Int) < 32 := by omega
          by_cases h127 : c = 127
          · rw [decide_eq_true h127] at e127
            obtain rfl : R = false := by rw [hst]; unfold shown1; rw [h127]; simp
            clear hc hx hst HG HR h32 h127
            go_wp2_with fail
            go_ret
            exact ⟨rfl, rfl⟩
          · rw [decide_eq_false h127] at e127
            have HG2 := Lib.hid (show shown (s.data.toList.drop (k + 1)) = R by
              rw [hst]
              unfold shown1
              rw [decide_eq_true (by omega), show (c != 127) = true by simpa using h127]; rfl)
            clear hc hx hst HG HR h32 h127
            go_wp2_with fail
            go_roundw
            case rel => exact ⟨k + 1, by omega, by go_num, trivial, HG2⟩
            case measure => simp [intOf]; omega
      · obtain rfl : k = n := by omega
        have hlt' : ¬ (k : Int) < (k : Int) := by omega
        obtain rfl : true = R := by
          rw [← HG.out, List.drop_eq_nil_of_le (by rw [← HL.out, HN.out]; exact Nat.le_refl _)]; rfl
        go_wp2_with fail
        go_ret
        exact ⟨rfl, rfl⟩
  · rw [decide_eq_false hm, Bool.false_and]
    have hm' : (m : Int) < (s.size : Int) := by omega
    clear hm
    go_enter Tryd.func35, Tryd.ntmps35
    go_wp2_with fail
    go_ret
    exact ⟨rfl, rfl⟩
/-! ### isDotAtom -/
theorem scan_mod (S : List UInt8) (h : S.length ≤ 100000) : Mod (scanL S) := by
  have h2 := scan_len S
  refine ⟨by omega, fun t ht => ?_⟩
  have := (scan_mem S t ht).2.2.2.2
  omega
set_option maxHeartbeats 1000000 in
theorem dotatom_p (s : ByteArray) (hs : s.size ≤ 100000) (w : World) :
    Calls Tryd.prog 58 #[.string s] w fun e w' => e = .returned (.bool (dotA false s.data.toList)) ∧ Below w.heap.size w w' := by
  have cS := scan_rd s (by omega) w
  have hmod := scan_mod s.data.toList (by rw [← size_list]; exact hs)
  rw [← dot_tokens]
  generalize scanL s.data.toList = L at cS hmod ⊢
  obtain ⟨R, hR⟩ : ∃ R, dotsT atomT true L = R := ⟨_, rfl⟩
  rw [hR]
  have c2 := fun v W (h : Hid (HasT W v L)) g (hk : Hid (Kinds W g [1])) => dotted_p v L [1] g 1 atomT kind_atom (by decide) rfl hmod.1 hmod.2 R hR W h hk
  obtain ⟨n, hn⟩ : ∃ n, L.length = n := ⟨_, rfl⟩
  rw [hn] at cS
  clear hmod hR hn hs
  go_enter Tryd.func58, Tryd.ntmps58
  go_wp2_with (first
    | (go_at_call 26; (with_reducible refine cS.mono ?_); rintro e w1 ⟨a1, d1, rfl, ho1, hb1⟩; clear cS; have HO := Lib.hid (ho1.hasT.step (below_box w1 (.cells #[.int .i64 1] 3))); have HK := Lib.hid (kinds_new1 w1); have HB := Lib.hid (hb1.alloc hb1.size (.cells #[.int .i64 1] 3)); clear hb1 ho1)
    | (go_at_call 70; (with_reducible refine (c2 _ _ HO _ HK).mono ?_); rintro e w2 ⟨rfl, hb2⟩; have HB2 := Lib.hid (HB.out.trans (hb2.mono HB.out.size)); clear hb2 c2))
  go_ret
  exact ⟨rfl, HB2.out⟩
/-! ### isLiteral -/
theorem any_stops : ∀ l : List UInt8, decide (0 ≤ Lib.indexAny l stops) = l.any (fun c => stops.contains c)
  | [] => rfl
  | b :: l => by
    rw [Lib.indexAny, List.any_cons, ← any_stops l]
    cases hb : stops.contains b with
    | true => rw [if_pos rfl]; rfl
    | false =>
      rw [if_neg Bool.false_ne_true, Bool.false_or]
      have := Lib.indexAny_ge stops l
      by_cases h : Lib.indexAny l stops = -1
      · rw [h, if_pos (beq_self_eq_true _)]
      · rw [if_neg (by rw [beq_iff_eq]; exact h), Bool.eq_iff_iff, decide_eq_true_iff, decide_eq_true_iff]
        omega
theorem good_split (l : List UInt8) : l.all goodB = (solidB l && !l.any (fun c => stops.contains c)) := by
  induction l with
  | nil => rfl
  | cons c t ih =>
    rw [List.all_cons, ih, List.any_cons, show solidB (c :: t) = (solid1 c && solidB t) from rfl]
    have hc : goodB c = (solid1 c && !stops.contains c) := by
      unfold goodB solid1 stops
      simp only [List.contains_cons, List.contains_nil, Bool.or_false, Bool.not_or, bne]
      cases decide (32 < c.toNat) <;> cases (c == 127) <;> cases (c == 91) <;> cases (c == 93) <;> cases (c == 92) <;> rfl
    rw [hc]
    cases solid1 c <;> cases stops.contains c <;> cases solidB t <;> cases t.any (fun c => stops.contains c) <;> rfl
theorem lit_short {d : List UInt8} (h : d.length < 2) : litB d = false := by unfold litB; rw [decide_eq_false (by omega)]; rfl
theorem lit_head {d : List UInt8} {c : UInt8} (h : d[0]? = some c) (hc : c ≠ 91) : litB d = false := by
  unfold litB
  rw [List.head?_eq_getElem?, h, show (some c == some (91 : UInt8)) = false by simpa using hc]
  simp
theorem lit_last {d : List UInt8} {c : UInt8} (h : d[d.length - 1]? = some c) (hc : c ≠ 93) : litB d = false := by
  unfold litB
  rw [List.getLast?_eq_getElem?, h, show (some c == some (93 : UInt8)) = false by simpa using hc]
  simp
theorem lit_in {d : List UInt8} (h0 : 2 ≤ d.length) (h1 : d[0]? = some 91) (h2 : d[d.length - 1]? = some 93) : litB d = (d.drop 1).dropLast.all goodB := by
  unfold litB
  rw [List.head?_eq_getElem?, h1, List.getLast?_eq_getElem?, h2, decide_eq_true h0]
  rfl
theorem contains_p (s : ByteArray) (hs : s.size ≤ 1000000) (w : World) :
    Calls Tryd.prog 77 #[.string s, .string stopB] w fun e w' => e = .returned (.bool (s.data.toList.any (fun c => stops.contains c))) ∧ Below w.heap.size w w' := by
  have cA := fun W => any_any s hs W
  rw [← any_stops]
  generalize Lib.indexAny s.data.toList stops = i at cA ⊢
  obtain ⟨B, hB⟩ : ∃ B, stopB = B := ⟨_, rfl⟩
  rw [hB] at cA ⊢
  clear hB
  go_enter Tryd.func77, Tryd.ntmps77
  go_wp2_with (go_at_call 91; (with_reducible refine (cA _).mono ?_); rintro e w1 ⟨rfl, hb1⟩)
  go_ret
  exact ⟨rfl, hb1⟩
set_option maxHeartbeats 2000000 in
theorem literal_p (s : ByteArray) (hs : s.size ≤ 1000000) (w : World) :
    Calls Tryd.prog 59 #[.string s] w fun e w' => e = .returned (.bool (litB s.data.toList)) ∧ Below w.heap.size w w' := by
  have hsz := size_list s
  by_cases h2 : s.size < 2
  · rw [lit_short (by omega)]
    have h2' : (s.size : Int) < 2 := by omega
    clear hsz h2
    go_enter Tryd.func59, Tryd.ntmps59
    go_wp2_with fail
    go_ret
    exact ⟨rfl, Below.refl _ _⟩
  · have h2' : ¬ (s.size : Int) < 2 := by omega
    obtain ⟨c, x, t, hct, hx, hx2, S1⟩ := run_byte0 s (by omega)
    have e91 := byte_is c x hx 91 (by decide)
    rw [show ((91 : Nat) : Int) = 91 from rfl] at e91
    have hc0 : s.data.toList[0]? = some c := by rw [hct]; rfl
    by_cases h91 : c = 91
    · rw [show decide (c = UInt8.ofNat 91) = true from decide_eq_true h91] at e91
      have n91 : ((x : Int) != 91) = false := by rw [bne, e91]; rfl
      rw [h91] at hc0
      obtain ⟨m, hm⟩ : ∃ m, m + 1 = s.size := ⟨s.size - 1, by omega⟩
      obtain ⟨d, y, hd, hy, hy2, S2⟩ := run_byte s m (by omega)
      have e93 := byte_is d y hy 93 (by decide)
      rw [show ((93 : Nat) : Int) = 93 from rfl] at e93
      have F1 : IntKind.i64.wrap ((s.size : Int) - 1) = (m : Int) := by rw [IntKind.wrap_i64]; omega
      have F2 : (s.size : Int) - 1 = (m : Int) := by omega
      have hdl : s.data.toList[s.data.toList.length - 1]? = some d := by rw [← hsz, show s.size - 1 = m by omega]; exact hd
      by_cases h93 : d = 93
      · rw [show decide (d = UInt8.ofNat 93) = true from decide_eq_true h93] at e93
        have n93 : ((y : Int) != 93) = false := by rw [bne, e93]; rfl
        rw [h93] at hdl
        rw [lit_in (by omega) hc0 hdl, good_split]
        have R1 : ∀ W : World, (Instr.slice 9 (.string s) (some (.int .i64 1)) (some (.int .i64 (m : Int))) none).run Tryd.prog W = .ok (.string (s.extract 1 (s.size - 1))) W := run_slice_str s 1 (s.size - 1) (m : Int) (by omega) (by omega) (by omega)
        rw [inner_is s (by omega)] at R1
        have hil : (s.data.toList.drop 1).dropLast.length ≤ 1000000 := by rw [List.length_dropLast, List.length_drop, ← hsz]; omega
        have cS := fun W => solid_any (strL (s.data.toList.drop 1).dropLast) (by rw [strL_size]; exact hil) W
        have cC := fun W => contains_p (strL (s.data.toList.drop 1).dropLast) (by rw [strL_size]; exact hil) W
        rw [strL_list] at cS cC
        generalize strL (s.data.toList.drop 1).dropLast = I at R1 cS cC
        generalize solidB (s.data.toList.drop 1).dropLast = b1 at cS ⊢
        generalize (s.data.toList.drop 1).dropLast.any (fun c => stops.contains c) = b2 at cC ⊢
        clear hct hc0 hd hdl h91 h93 hil hx hx2 hy hy2 hsz h2
        have cC2 : ∀ W : World, Calls Tryd.prog 77 #[.string I, .string ⟨#[91, 93, 92]⟩] W fun e w' => e = .returned (.bool b2) ∧ Below W.heap.size W w' := cC
        clear cC
        cases b1 with
        | true =>
          go_enter Tryd.func59, Tryd.ntmps59
          go_wp2_with (first
            | (go_at_call 56; (with_reducible refine (cS _).mono ?_); rintro e w1 ⟨rfl, rfl⟩)
            | (go_at_call 77; (with_reducible refine (cC2 _).mono ?_); rintro e w2 ⟨rfl, hb2⟩))
          go_ret
          exact ⟨rfl, hb2⟩
        | false =>
          go_enter Tryd.func59, Tryd.ntmps59
          go_wp2_with (go_at_call 56; (with_reducible refine (cS _).mono ?_); rintro e w1 ⟨rfl, rfl⟩)
          go_ret
          exact ⟨rfl, Below.refl _ _⟩
      · rw [show decide (d = UInt8.ofNat 93) = false from decide_eq_false h93] at e93
        have n93 : ((y : Int) != 93) = true := by rw [bne, e93]; rfl
        rw [lit_last hdl h93]
        clear hct hc0 hd hdl h91 h93 hx hx2 hy hy2 hsz h2
        go_enter Tryd.func59, Tryd.ntmps59
        go_wp2_with fail
        go_ret
        exact ⟨rfl, Below.refl _ _⟩
    · rw [show decide (c = UInt8.ofNat 91) = false from decide_eq_false h91] at e91
      have n91 : ((x : Int) != 91) = true := by rw [bne, e91]; rfl
      rw [lit_head hc0 h91]
      clear hct hc0 h91 hx hx2 hsz h2
      go_enter Tryd.func59, Tryd.ntmps59
      go_wp2_with fail
      go_ret
      exact ⟨rfl, Below.refl _ _⟩
/-! ### isDomain, Right -/
set_option maxHeartbeats 1000000 in
theorem domain_p (s : ByteArray) (hs : s.size ≤ 100000) (w : World) :
    Calls Tryd.prog 36 #[.string s] w fun e w' => e = .returned (.bool (decide (s.size ≤ 255) && domB s.data.toList)) ∧ Below w.heap.size w w' := by
  by_cases h : s.size ≤ 255
  · rw [decide_eq_true h, Bool.true_and]
    have h' : (s.size : Int) ≤ 255 := by omega
    have c1 := fun W => dotatom_p s hs W
    have c2 := fun W => literal_p s (by omega) W
    unfold domB
    generalize dotA false s.data.toList = b1 at c1 ⊢
    generalize litB s.data.toList = b2 at c2 ⊢
    clear h
    cases b1 with
    | true =>
      go_enter Tryd.func36, Tryd.ntmps36
      go_wp2_with (go_at_call 58; (with_reducible refine (c1 _).mono ?_); rintro e w1 ⟨rfl, hb1⟩)
      go_ret
      exact ⟨rfl, hb1⟩
    | false =>
      go_enter Tryd.func36, Tryd.ntmps36
      go_wp2_with (first
        | (go_at_call 58; (with_reducible refine (c1 _).mono ?_); rintro e w1 ⟨rfl, hb1⟩)
        | (go_at_call 59; (with_reducible refine (c2 _).mono ?_); rintro e w2 ⟨rfl, hb2⟩))
      go_ret
      exact ⟨rfl, Qtrans hb1 hb2⟩
  · rw [decide_eq_false h, Bool.false_and]
    have h' : ¬ (s.size : Int) ≤ 255 := by omega
    clear h
    go_enter Tryd.func36, Tryd.ntmps36
    go_wp2_with fail
    go_ret
    exact ⟨rfl, Below.refl _ _⟩
end Go.Proofs.YtgponokcigapaaaDoor
namespace Go.Proofs.YtgponokcigapaaaDoor.TokP

/-- The pieces of a string between its spaces. -/
def piecesL : List UInt8 → List (List UInt8)
  | [] => [[]]
  | c :: t => if c = 32 then [] :: piecesL t else match piecesL t with
    | [] => [[c]]
    | p :: r => (c :: p) :: r
theorem pieces_ne (l : List UInt8) : piecesL l ≠ [] := by
  cases l with
  | nil => exact List.cons_ne_nil _ _
  | cons c t =>
    rw [piecesL]
    split
    · exact List.cons_ne_nil _ _
    · split <;> exact List.cons_ne_nil _ _
theorem pieces_no (l : List UInt8) (h : 32 ∉ l) : piecesL l = [l] := by
  induction l with
  | nil => rfl
  | cons c t ih =>
    simp only [List.mem_cons, not_or] at h
    rw [piecesL, if_neg (fun e => h.1 e.symm), ih h.2]
theorem pieces_at (m r : List UInt8) (h : 32 ∉ m) : piecesL (m ++ 32 :: r) = m :: piecesL r := by
  induction m with
  | nil => rw [List.nil_append, piecesL, if_pos rfl]
  | cons c t ih =>
    simp only [List.mem_cons, not_or] at h
    rw [List.cons_append, piecesL, if_neg (fun e => h.1 e.symm), ih h.2]
/-- A piece that is an atom. -/
def goodP (p : List UInt8) : Bool := !p.isEmpty && p.all atomB
theorem plain_pieces : ∀ s : List UInt8, (plainA false s = (piecesL s).all goodP) ∧ (plainA true s = match piecesL s with | [] => false | p :: r => p.all atomB && r.all goodP)
  | [] => ⟨rfl, rfl⟩
  | c :: t => by
    obtain ⟨h1, h2⟩ := plain_pieces t
    by_cases ha : atomB c = true
    · have h32 : c ≠ 32 := (atom_not c ha).2.2.2
      rw [plainA, if_pos ha, plainA, if_pos ha, piecesL, if_neg h32, h2]
      cases hp : piecesL t with
      | nil => exact absurd hp (pieces_ne t)
      | cons p r =>
        simp only [List.all_cons, goodP, List.isEmpty_cons, Bool.not_false, Bool.true_and, ha]
        simp
    · have ha' : atomB c = false := by simpa using ha
      by_cases h32 : c = 32
      · rw [plainA, if_neg ha, if_neg (by simp), plainA, if_neg ha, if_pos ⟨h32, rfl⟩, piecesL, if_pos h32, h1]
        exact ⟨rfl, rfl⟩
      · rw [plainA, if_neg ha, if_neg (fun e => h32 e.1), plainA, if_neg ha, if_neg (fun e => h32 e.1), piecesL, if_neg h32]
        cases hp : piecesL t with
        | nil => exact absurd hp (pieces_ne t)
        | cons p r =>
          simp only [List.all_cons, goodP, ha', Bool.false_and, Bool.and_false]
          exact ⟨trivial, trivial⟩
theorem good_iff (p : List UInt8) : goodP p = true ↔ p ≠ [] ∧ (p.takeWhile atomB).length = p.length := by
  unfold goodP
  rw [Bool.and_eq_true]
  have h1 : ((!p.isEmpty) = true) ↔ p ≠ [] := by cases p <;> simp
  rw [h1]
  refine and_congr_right fun _ => ?_
  induction p with
  | nil => exact ⟨fun _ => rfl, fun _ => rfl⟩
  | cons c t ih =>
    by_cases hc : atomB c = true
    · rw [List.all_cons, hc, Bool.true_and, List.takeWhile_cons_of_pos hc, List.length_cons, List.length_cons]
      by_cases ht : t = []
      · subst ht; exact ⟨fun _ => rfl, fun _ => rfl⟩
      · have := ih (by cases t with | nil => exact absurd rfl ht | cons a b => simp)
        rw [this ht]
        omega
    · rw [List.all_cons, List.takeWhile_cons_of_neg hc]
      simp [hc]
theorem take_all (p : List UInt8) : (p.takeWhile atomB).length ≤ p.length := (List.takeWhile_sublist _).length_le
theorem pieces_len : ∀ (l p : List UInt8), p ∈ piecesL l → p.length ≤ l.length
  | [], p, h => by
    rw [piecesL, List.mem_singleton] at h
    rw [h]; exact Nat.le_refl _
  | c :: t, p, h => by
    have ih := pieces_len t
    rw [piecesL] at h
    split at h
    · rcases List.mem_cons.1 h with rfl | h
      · exact Nat.zero_le _
      · have := ih p h; rw [List.length_cons]; omega
    · cases hp : piecesL t with
      | nil => exact absurd hp (pieces_ne t)
      | cons q r =>
        rw [hp] at h ih
        rcases List.mem_cons.1 h with rfl | h
        · have := ih q (by simp)
          rw [List.length_cons, List.length_cons]; omega
        · have := ih p (by simp [h])
          rw [List.length_cons]; omega
end Go.Proofs.YtgponokcigapaaaDoor.TokP
namespace Go.Proofs.YtgponokcigapaaaDoor
open Go.RowKit

/-- The blocks of K lie as they lay. -/
def Same (K : Nat → Prop) (W W' : World) : Prop := ∀ k, K k → W'.heap[k]? = W.heap[k]?
theorem Same.trans {K : Nat → Prop} {A B C : World} (h : Same K A B) (k : Same K B C) : Same K A C := fun i hi => (k i hi).trans (h i hi)
/-- What is no cells, from B on, is turned at most: the loop's own book-keeping. -/
def Book (B : Nat) (W W' : World) : Prop := ∃ row, W.grownBy W' row ∧ ∀ r, row = some r → B ≤ r ∧ ∃ o : Obj, W.heap[r]? = some o ∧ o.isCells = false
/-- An invariant that minds neither the iterator's steps nor the loop's book-keeping. -/
def Calm {β : Type} (St : World → World → Prop) (B : Nat) (I : β → World → Prop) : Prop :=
  ∀ s W W', I s W → (St W W' ∨ Book B W W') → I s W'

/-- What the iterator over xs does: St: how it turns the world between two rounds; K: the blocks that a round leaves as they lie; Bx: what it tells the round. -/
def Gives (n : Nat) (P : Program) (gf : Nat) (lb : Array Value) (St : World → World → Prop) (K : Nat → Prop) (Bx S : World → Prop) (xs : List ByteArray) : Prop :=
  ∀ (l : Nat) (J Jx : List ByteArray → World → Prop) (W : World),
    (∀ pre A B, J pre A → St A B → J pre B) → (∀ pre A B, Jx pre A → St A B → Jx pre B) →
    (∀ pre x rest W1, xs = pre ++ x :: rest → J pre W1 → Bx W1 → YieldAt Fence.wide (n - 1) P l #[.string x] W1 fun e W' => (e = .returned (.bool true) ∧ J (pre ++ [x]) W' ∧ Same K W1 W') ∨ (e = .returned (.bool false) ∧ Jx pre W')) →
    S W → J [] W →
    CallsIn Fence.wide n P gf (#[.func (.yield l) #[] #[]] ++ lb) W fun e W' => (∃ v, e = .returned v) ∧ (J xs W' ∨ ∃ pre, Jx pre W')

/-- How a round's body ends. -/
def onward (K : Nat → Prop) (B : Nat) (I : List ByteArray → World → Prop) (Ix : Code → List ByteArray → World → Prop) (pre : List ByteArray) (x : ByteArray) (W : World) : Exit → Act → World → Prop
  | .normal, _, W' => KeepsFrom B W W' ∧ Same K W W' ∧ I (pre ++ [x]) W'
  | .ret, _, W' => KeepsFrom B W W' ∧ Ix .ret pre W'
  | .exit id, _, W' => KeepsFrom B W W' ∧ Ix (.exit id) pre W'
  | .goto t, _, W' => KeepsFrom B W W' ∧ Ix (.goto t) pre W'
  | _, _, _ => False

theorem wp_iter {n : Nat} {P : Program} {g : Operand} {ps : Array Tmp} {assign body : Code} {Q : Exit → Act → World → Prop} {a : Act} {w : World} (h1 : 1 ≤ n) {gf : Nat} {lb : Array Value} {St : World → World → Prop} {K : Nat → Prop} {Bx S : World → Prop} {xs : List ByteArray}
    (hg : a.eval g = .func (.func gf) #[] lb) (eg : ∀ args w, (callFunc gf args).run P w = .ok (.enter gf args) w) (hps : ps.size = 1)
    (hseq : Gives (n - 1) P gf lb St K Bx S xs) (hS : ∀ o o', S ((w.alloc o).alloc o')) (hK : ∀ k, K k → k < w.heap.size)
    (hSt : ∀ A B, St A B → A.heap.size ≤ B.heap.size ∧ ∀ (k : Nat) (o : Obj), A.heap[k]? = some o → o.isCells = false → B.heap[k]? = some o)
    (hBx : ∀ A B, Bx A → Book w.heap.size A B → Bx B)
    (I : List ByteArray → World → Prop) (Ix : Code → List ByteArray → World → Prop) (hI : Calm St w.heap.size I) (hIx : ∀ c, Calm St w.heap.size (Ix c)) (h0 : I [] w) (a₁ : ByteArray → Act)
    (hassign : ∀ (l : Nat) (x : ByteArray) (W : World) (K : Act → World → Prop), K (a₁ x) W →
      assign.wpIn (Fence.wide.inRound l) (n - 1 - 1) P (Exit.then K (fun _ _ _ => False)) { tmps := (ps.zip #[.string x]).foldl (fun t (p, v) => t.setIfInBounds p v) a.tmps, defers := [] } W)
    (hbody : ∀ (l : Nat) (pre : List ByteArray) (x : ByteArray) (rest : List ByteArray) (W : World), xs = pre ++ x :: rest → I pre W → Bx W → w.heap.size ≤ W.heap.size →
      body.wpIn (Fence.wide.inRound l) (n - 1 - 1) P (onward K w.heap.size I Ix pre x W) (a₁ x) W)
    (hdone : ∀ (D : Nat) (W : World), w.heap.size ≤ D → I xs W → W.heap[D]? = some (.deferred (some [])) → Q .normal { a with defers := { target := .collected D, args := #[] } :: a.defers } W)
    (hstop : ∀ (D : Nat) (c : Code) (pre : List ByteArray) (W : World), w.heap.size ≤ D → Ix c pre W → W.heap[D]? = some (.deferred (some [])) → c.wpIn Fence.wide n P Q { a with defers := { target := .collected D, args := #[] } :: a.defers } W) :
    (Code.rangeFunc g ps assign body).wpIn Fence.wide n P Q a w := by
  refine wpIn_rangeFunc fun fn hfn => ?_
  obtain ⟨rc, hrc⟩ : ∃ rc : LoopState → Option Code → Loop, rc = fun st pe => { state := st, pending := pe, fn, tmps := a.tmps, params := ps, assign, body, defers := w.heap.size } := ⟨_, rfl⟩
  obtain ⟨W1, hW1⟩ : ∃ W1, (w.alloc (.deferred (some []))).alloc (.loop (rc .ready none)) = W1 := ⟨_, rfl⟩
  have hsz1 : W1.heap.size = w.heap.size + 2 := by rw [← hW1]; simp
  have hL1 : W1.heap[w.heap.size + 1]? = some (.loop (rc .ready none)) := by
    rw [← hW1]
    have := World.alloc_heap_new (w.alloc (.deferred (some []))) (.loop (rc .ready none))
    rwa [World.size_alloc] at this
  have hD1 : W1.heap[w.heap.size]? = some (.deferred (some [])) := by
    rw [← hW1]; exact (Below.heap_alloc _ _ _ (by simp)).trans (World.alloc_heap_new w _)
  have bookPut : ∀ {W : World} {o : Obj} (l : Nat) (o' : Obj), w.heap.size ≤ l → W.heap[l]? = some o → o.isCells = false → Book w.heap.size W (W.putObj l o') :=
    fun l o' hl ho hc => ⟨some l, grownBy_putObj' _ l o', fun r e => by cases e; exact ⟨hl, _, ho, hc⟩⟩
  have bookNew : ∀ (W : World) (o : Obj), Book w.heap.size W (W.alloc o) := fun W o => ⟨none, World.grownBy_alloc _ o none, fun r e => by cases e⟩
  have hI1 : I [] W1 := by rw [← hW1]; exact hI _ _ _ (hI _ _ _ h0 (.inr (bookNew _ _))) (.inr (bookNew _ _))
  have samePut : ∀ {W : World} (l : Nat) (o' : Obj), w.heap.size ≤ l → Same K W (W.putObj l o') := fun l o' hl k hk => World.putObj_heap_other (by have := hK k hk; omega)
  refine ⟨w.heap.size + 1, [{ target := .collected w.heap.size, args := #[] }], W1, { target := .fn (.func gf) lb, args := #[.func (.yield (w.heap.size + 1)) #[] #[]] }, W1, gf,
    #[.func (.yield (w.heap.size + 1)) #[] #[]] ++ lb, W1, ?_, ?_, ?_, ?_, fun _ => h1, ?_⟩
  · rw [← hW1, hrc]; exact run_enterLoop_outer _ _ _ _ _
  · simp only [resolve, hg]
    simp [go_sem]
  · intro f' _; trivial
  · simp [invoke, go_sem, eg]
  refine (hseq (w.heap.size + 1) (fun pre W => I pre W ∧ W.heap[w.heap.size + 1]? = some (.loop (rc .ready none)) ∧ W.heap[w.heap.size]? = some (.deferred (some [])) ∧ w.heap.size ≤ W.heap.size)
    (fun pre W => ∃ c, Ix c pre W ∧ W.heap[w.heap.size + 1]? = some (.loop (rc .done (some c))) ∧ W.heap[w.heap.size]? = some (.deferred (some []))) W1 ?_ ?_ ?_ (by rw [← hW1]; exact hS _ _) ⟨hI1, hL1, hD1, by omega⟩).mono ?_
  · rintro pre A B ⟨hi, hl, hd, hs⟩ hst
    have hk := (hSt A B hst).2
    exact ⟨hI _ _ _ hi (.inl hst), hk _ _ hl rfl, hk _ _ hd rfl, Nat.le_trans hs (hSt A B hst).1⟩
  · rintro pre A B ⟨c, hi, hl, hd⟩ hst
    have hk := (hSt A B hst).2
    exact ⟨c, hIx c _ _ _ hi (.inl hst), hk _ _ hl rfl, hk _ _ hd rfl⟩
  · rintro pre x rest W hx ⟨hi, hl, hd, hs⟩ hbu
    have hlt : w.heap.size + 1 < W.heap.size := (Array.getElem?_eq_some_iff.1 hl).1
    have hy := run_yield (P := P) (args := #[.string x]) hl (by rw [hrc]; exact hps.symm)
    rw [hrc] at hy
    refine ⟨fn, _, assign, body, hy, roundIn_of_wpIn hfn (hassign _ x W _ ⟨_, run_beginRound hl (by rw [hrc]), ?_⟩)⟩
    have hb1 := bookPut (w.heap.size + 1) (.loop { rc .ready none with state := .busy }) (by omega) hl rfl
    have hs1 := samePut (W := W) (w.heap.size + 1) (.loop { rc .ready none with state := .busy }) (by omega)
    obtain ⟨W2, hW2⟩ : ∃ W2, W.putObj (w.heap.size + 1) (.loop { rc .ready none with state := .busy }) = W2 := ⟨_, rfl⟩
    have hl2 : W2.heap[w.heap.size + 1]? = some (.loop { rc .ready none with state := .busy }) := by rw [← hW2]; exact World.putObj_heap_same hlt
    have hd2 : W2.heap[w.heap.size]? = some (.deferred (some [])) := by rw [← hW2]; exact (World.putObj_heap_other (by omega)).trans hd
    have hz2 : W2.heap.size = W.heap.size := by rw [← hW2]; simp
    rw [hW2] at hb1 hs1
    have hi2 : I pre W2 := hI _ _ _ hi (.inr hb1)
    have hbu2 : Bx W2 := hBx _ _ hbu hb1
    rw [hW2]
    refine wpIn_mono (hbody _ pre x rest W2 hx hi2 hbu2 (by omega)) ?_
    have fin : ∀ (jump : Option Code) (W3 : World), KeepsFrom w.heap.size W2 W3 →
        (Instr.endRound (w.heap.size + 1) jump).run P W3 = .ok (.bool jump.isNone) (W3.putObj (w.heap.size + 1) (.loop (rc (if jump.isNone then .ready else .done) jump))) ∧
        W3.heap[w.heap.size + 1]? = some (.loop { rc .ready none with state := .busy }) ∧
        (W3.putObj (w.heap.size + 1) (.loop (rc (if jump.isNone then .ready else .done) jump))).heap[w.heap.size + 1]? = some (.loop (rc (if jump.isNone then .ready else .done) jump)) ∧
        (W3.putObj (w.heap.size + 1) (.loop (rc (if jump.isNone then .ready else .done) jump))).heap[w.heap.size]? = some (.deferred (some [])) ∧ w.heap.size ≤ W3.heap.size := fun jump W3 hk3 => by
      have hl3 := hk3.same _ _ (by omega) hl2 rfl
      have := run_endRound (P := P) jump hl3
      rw [hrc] at this ⊢
      exact ⟨this, by rw [hrc] at hl3; exact hl3, World.putObj_heap_same (Array.getElem?_eq_some_iff.1 hl3).1, (World.putObj_heap_other (by omega)).trans (hk3.same _ _ (Nat.le_refl _) hd2 rfl), by have := hk3.size; omega⟩
    rintro e a3 W3 hp
    cases e with
    | normal =>
      obtain ⟨hk3, hs3, hi3⟩ := hp
      obtain ⟨hr, hl3, hl4, hd4, hz3⟩ := fin none W3 hk3
      exact ⟨_, _, hr, .inl ⟨rfl, ⟨hI _ _ _ hi3 (.inr (bookPut _ _ (by omega) hl3 rfl)), hl4, hd4, by simp; exact hz3⟩, (hs1.trans hs3).trans (samePut _ _ (by omega))⟩⟩
    | ret =>
      obtain ⟨hk3, hi3⟩ := hp
      obtain ⟨hr, hl3, hl4, hd4, _⟩ := fin (some .ret) W3 hk3
      exact ⟨_, _, hr, .inr ⟨rfl, .ret, hIx _ _ _ _ hi3 (.inr (bookPut _ _ (by omega) hl3 rfl)), hl4, hd4⟩⟩
    | exit id =>
      obtain ⟨hk3, hi3⟩ := hp
      obtain ⟨hr, hl3, hl4, hd4, _⟩ := fin (some (.exit id)) W3 hk3
      exact ⟨_, _, hr, .inr ⟨rfl, .exit id, hIx _ _ _ _ hi3 (.inr (bookPut _ _ (by omega) hl3 rfl)), hl4, hd4⟩⟩
    | goto t =>
      obtain ⟨hk3, hi3⟩ := hp
      obtain ⟨hr, hl3, hl4, hd4, _⟩ := fin (some (.goto t)) W3 hk3
      exact ⟨_, _, hr, .inr ⟨rfl, .goto t, hIx _ _ _ _ hi3 (.inr (bookPut _ _ (by omega) hl3 rfl)), hl4, hd4⟩⟩
    | panic ch => exact hp.elim
    | outgrown => exact hp.elim
  · rintro e W2 ⟨⟨v, rfl⟩, (⟨hi, hl, hd, hs⟩ | ⟨pre, c, hi, hl, hd⟩)⟩
    · have he := run_endLoop (P := P) hl (by rw [hrc]; simp)
      rw [hrc] at he hl
      exact ⟨none, _, he, hdone _ _ (Nat.le_refl _) (hI _ _ _ hi (.inr (bookPut _ _ (by omega) hl rfl))) ((World.putObj_heap_other (by omega)).trans hd)⟩
    · have he := run_endLoop (P := P) hl (by rw [hrc]; simp)
      rw [hrc] at he hl
      exact ⟨some c, _, he, hstop _ c pre _ (Nat.le_refl _) (hIx c _ _ _ hi (.inr (bookPut _ _ (by omega) hl rfl))) ((World.putObj_heap_other (by omega)).trans hd)⟩
end Go.Proofs.YtgponokcigapaaaDoor
namespace Go.Proofs.YtgponokcigapaaaDoor
open Go.ChangeShapes Go.WideShapes Go.ChangeAt Go.RowKit
open TokP

attribute [local go_sem] Oper.semAt_some

theorem index_no {l : List UInt8} (h : 32 ∉ l) : Lib.indexByte l 32 = -1 := by
  induction l with
  | nil => rfl
  | cons c t ih =>
    simp only [List.mem_cons, not_or] at h
    have hc : (c == 32) = false := beq_eq_false_iff_ne.2 (fun e => h.1 e.symm)
    rw [Lib.indexByte, hc, ih h.2]; rfl
theorem index_at (m r : List UInt8) (h : 32 ∉ m) : Lib.indexByte (m ++ 32 :: r) 32 = m.length := by
  induction m with
  | nil => rfl
  | cons c t ih =>
    simp only [List.mem_cons, not_or] at h
    have hc : (c == 32) = false := beq_eq_false_iff_ne.2 (fun e => h.1 e.symm)
    rw [List.cons_append, Lib.indexByte, hc, ih h.2]
    have : ((t.length : Int) == -1) = false := beq_eq_false_iff_ne.2 (by omega)
    rw [this]
    simp
/-- The pieces as strings. -/
def seqB (l : List UInt8) : List ByteArray := (piecesL l).map strL
theorem piece_cases (l : List UInt8) : 32 ∉ l ∨ ∃ m r, l = m ++ 32 :: r ∧ 32 ∉ m := by
  by_cases h : 32 ∈ l
  · obtain ⟨m, r, e, hm⟩ := List.eq_append_cons_of_mem h
    exact .inr ⟨m, r, e, hm⟩
  · exact .inl h
/-- How much is left, read off the box. -/
def leftIn (bx : Nat) (w : World) : Nat := match w.cell? ⟨bx, 0, none⟩ with
  | some (.string u) => u.size
  | _ => 0
theorem left_is {bx : Nat} {w : World} {t : ByteArray} (h : Boxed w bx 9 (.string t)) : leftIn bx w = t.size := by
  unfold leftIn; rw [h.cell]
/-- How the iterator turns the world between two rounds. -/
def LSt (bx : Nat) (A B : World) : Prop := ∃ row, A.grownBy B row ∧ ∀ r, row = some r → r = bx ∧ ∃ u, Boxed A bx 9 u
theorem lst_kept {bx : Nat} (A B : World) (h : LSt bx A B) : A.heap.size ≤ B.heap.size ∧ ∀ (k : Nat) (o : Obj), A.heap[k]? = some o → o.isCells = false → B.heap[k]? = some o := by
  obtain ⟨row, hg, hr⟩ := h
  refine ⟨hg.size, fun k o hk ho => (hg.block k (Array.getElem?_eq_some_iff.1 hk).1 fun e => ?_).trans hk⟩
  obtain ⟨rfl, u, hu⟩ := hr k e.symm
  rw [show A.heap[k]? = _ from hu] at hk
  cases hk; cases ho
theorem lst_set {bx : Nat} {W : World} {u : Value} (h : Boxed W bx 9 u) (v : Value) : LSt bx W (W.setCell ⟨bx, 0, none⟩ v) := ⟨some bx, grownBy_setCell' _ _ _, fun r e => by cases e; exact ⟨rfl, _, h⟩⟩
theorem lst_drew (bx : Nat) (W : World) : LSt bx W W.drew := ⟨none, ⟨rfl, rfl, rfl, Nat.le_refl _, fun _ _ _ => rfl⟩, fun r e => by cases e⟩
theorem box_put {W : World} {b b' : Nat} {t : TypeId} {v u : Value} (h : Boxed W b t v) (hne : b' ≠ b) : Boxed (W.setCell ⟨b', 0, none⟩ u) b t v := h.kept (grownBy_setCell' W b' u) (fun e => hne (by cases e; rfl))
set_option maxRecDepth 100000 in
set_option maxHeartbeats 2000000 in
theorem iter_gives (n : Nat) (hn : 2 ≤ n) (b1 b2 b3 : Nat) (h12 : b2 ≠ b1) (h23 : b2 ≠ b3) (s : ByteArray) (hs : s.size ≤ 140737488355328) : Gives n Tryd.prog 102 #[.pointer (some ⟨b1, 0, none⟩), .pointer (some ⟨b2, 0, none⟩), .pointer (some ⟨b3, 0, none⟩)] (LSt b2) (fun k => k = b1 ∨ k = b2 ∨ k = b3) (fun _ => True)
    (fun W => Boxed W b1 9 (.string ⟨#[32]⟩) ∧ Boxed W b2 9 (.string s) ∧ Boxed W b3 3 (.int .i64 0)) (seqB s.data.toList) := by
  intro l J Jx W hJ _ hY hb h0
  have c0 := hb.1.cell
  refine callsIn_of_wp Tryd.func102 rfl trivial ?_ rfl
  simp only [Tryd.ntmps102, List.size_toArray, List.length_cons, List.length_nil, Nat.reduceAdd, Nat.reduceSub, Array.replicate_succ, Array.replicate_zero, List.push_toArray, List.append_toArray, List.nil_append, List.cons_append]
  gi_wp2
  clear c0
  gi_loopw [] (fun wr => ∃ (pre : List ByteArray) (t : ByteArray), seqB s.data.toList = pre ++ seqB t.data.toList ∧ t.size ≤ 140737488355328 ∧ (Boxed wr b1 9 (.string ⟨#[32]⟩) ∧ Boxed wr b2 9 (.string t) ∧ Boxed wr b3 3 (.int .i64 0)) ∧ J pre wr)
    (fun wr => leftIn b2 wr)
  case atStart => exact ⟨[], s, rfl, hs, hb, h0⟩
  case round =>
    obtain ⟨pre, t, hx, ht, ⟨hb1, hb2, hb3⟩, hj⟩ := hrel
    have k1 := hb1.cell
    have k2 := hb2.cell
    have k3 := hb3.cell
    have f2 := hb2.frozen
    have hsz := size_list t
    have hi := Tryd.strings_Index_one t 32
    rcases piece_cases t.data.toList with hl | ⟨m, r, hl, hm⟩
    · rw [index_no hl] at hi
      rw [show seqB t.data.toList = [t] by unfold seqB; rw [pieces_no _ hl]; simp only [List.map_cons, List.map_nil, strL_of]] at hx
      clear hsz hl
      gi_wp2_with (refine ⟨trivial, fun _ => by omega, ?_⟩; gi_at_call 104; refine (callsIn_wide.2 (hi _)).mono ?_; rintro e w' ⟨rfl, rfl⟩)
      obtain ⟨fn, tmps, assign, body, hy, hR⟩ := hY pre t [] _ hx hj trivial
      rw [hy, Oper.uponIn_round]
      refine ⟨fun _ => by omega, hR.mono ?_⟩
      rintro e W3 (⟨rfl, hj3, hbx3⟩ | ⟨rfl, hx3⟩)
      · rw [← hx] at hj3
        gi_wp2
        go_end0
        exact ⟨⟨_, rfl⟩, .inl hj3⟩
      · gi_wp2
        go_end0
        exact ⟨⟨_, rfl⟩, .inr ⟨_, hx3⟩⟩
    · obtain ⟨k, hk⟩ : ∃ k, m.length = k := ⟨_, rfl⟩
      have hk1 : k + 1 ≤ t.size := by
        rw [hsz, hl, List.length_append, List.length_cons, hk]; omega
      rw [hl, index_at m r hm, hk] at hi
      have hX : (t.extract 0 k) = strL m := bytes_is (by
        rw [part_start t k (by omega), hl, ← hk, strL_list, List.take_left' rfl])
      have hY2 : (t.extract (k + 1) t.size) = strL r := bytes_is (by
        rw [part_rest t (k + 1) hk1, hl, ← hk, strL_list, List.drop_length_add_append]
        rfl)
      have S1 := run_slice_to t k (k : Int) rfl (by omega)
      have S2 := run_slice_from t (k + 1) ((k : Int) + 1) (by omega) hk1
      rw [hX] at S1
      rw [hY2] at S2
      have hx2 : seqB s.data.toList = pre ++ strL m :: seqB (strL r).data.toList := by
        rw [hx]; unfold seqB; rw [hl, pieces_at m r hm]; rfl
      have hr2 : (strL r).size < t.size := by rw [strL_size, hsz, hl]; simp; omega
      obtain ⟨X, hXe⟩ : ∃ X, strL m = X := ⟨_, rfl⟩
      obtain ⟨Y, hYe⟩ : ∃ Y, strL r = Y := ⟨_, rfl⟩
      rw [hXe] at S1 hx2
      rw [hYe] at S2 hx2 hr2
      have F1 : IntKind.i64.wrap ((k : Int) + 1) = (k : Int) + 1 := by
        rw [IntKind.wrap_i64]; omega
      have F0 : IntKind.i64.wrap (k : Int) = (k : Int) := by
        rw [IntKind.wrap_i64]; omega
      have hg : ¬ ((k : Int) < 0) := by omega
      clear hX hY2 hXe hYe hl hsz hm hk
      gi_wp2_with (refine ⟨trivial, fun _ => by omega, ?_⟩; gi_at_call 104; refine (callsIn_wide.2 (hi _)).mono ?_; rintro e w' ⟨rfl, rfl⟩)
      obtain ⟨fn, tmps, assign, body, hy, hR⟩ := hY pre X (seqB Y.data.toList) _ hx2 hj trivial
      rw [hy, Oper.uponIn_round]
      refine ⟨fun _ => by omega, hR.mono ?_⟩
      clear k1 k2 k3 f2 S1 hi hY hy hR
      rintro e W3 (⟨rfl, hj3, hbx3⟩ | ⟨rfl, hx3⟩)
      · have d1 : Boxed W3 b1 9 (.string ⟨#[32]⟩) := (hbx3 b1 (.inl rfl)).trans hb1
        have d2 : Boxed W3 b2 9 (.string t) := (hbx3 b2 (.inr (.inl rfl))).trans hb2
        have d3 : Boxed W3 b3 3 (.int .i64 0) := (hbx3 b3 (.inr (.inr rfl))).trans hb3
        have k1 := d1.cell
        have k2 := d2.cell
        have f2 := d2.frozen
        gi_wp2
        go_roundw
        case rel => exact ⟨pre ++ [X], Y, by rw [hx2, List.append_assoc]; rfl, by omega, ⟨box_put d1 h12, d2.set _, box_put d3 h23⟩, hJ _ _ _ hj3 (lst_set d2 _)⟩
        case measure => rw [left_is (d2.set _), left_is hb2]; exact hr2
      · gi_wp2
        refine bodyPost_ret (results_none rfl _ _ _) rfl ?_
        exact ⟨⟨_, rfl⟩, .inr ⟨_, hx3⟩⟩
theorem seq_any (s : ByteArray) (w : World) :
    Calls Tryd.prog 92 #[.string s, .string ⟨#[32]⟩] w fun e w' => e = .returned (.func (.func 102) #[] #[.pointer (some ⟨w.heap.size + 1, 0, none⟩), .pointer (some ⟨w.heap.size, 0, none⟩), .pointer (some ⟨w.heap.size + 2, 0, none⟩)]) ∧
      w' = ((w.alloc (.cells #[.string s] 9)).alloc (.cells #[.string ⟨#[32]⟩] 9)).alloc (.cells #[.int .i64 0] 3) := by
  have c42 : Calls Tryd.prog 100 #[.string s, .string ⟨#[32]⟩, .int .i64 0] w fun e w' => e = .returned (.func (.func 102) #[] #[.pointer (some ⟨w.heap.size + 1, 0, none⟩), .pointer (some ⟨w.heap.size, 0, none⟩), .pointer (some ⟨w.heap.size + 2, 0, none⟩)]) ∧
      w' = ((w.alloc (.cells #[.string s] 9)).alloc (.cells #[.string ⟨#[32]⟩] 9)).alloc (.cells #[.int .i64 0] 3) := by
    go_enter Tryd.func100, Tryd.ntmps100
    go_wp2_with fail
    go_ret
    exact ⟨rfl, rfl⟩
  go_enter Tryd.func92, Tryd.ntmps92
  go_wp2_with (go_at_call 100; refine c42.mono ?_; rintro e w' ⟨rfl, rfl⟩)
  go_ret
  exact ⟨rfl, rfl⟩
end Go.Proofs.YtgponokcigapaaaDoor
namespace Go.Proofs.YtgponokcigapaaaDoor
open Go.ChangeShapes Go.WideShapes Go.ChangeAt Go.RowKit
open TokP

attribute [local go_sem] Oper.semAt_some

section
variable {bx B : Nat} {W W' : World}
theorem calm_row (h : LSt bx W W' ∨ Book B W W') : ∃ row, W.grownBy W' row ∧ ∀ r, row = some r → (r = bx ∧ ∃ u, Boxed W bx 9 u) ∨ (B ≤ r ∧ ∃ o : Obj, W.heap[r]? = some o ∧ o.isCells = false) := by
  rcases h with ⟨row, hg, hr⟩ | ⟨row, hg, hr⟩
  · exact ⟨row, hg, fun r e => .inl (hr r e)⟩
  · exact ⟨row, hg, fun r e => .inr (hr r e)⟩
/-- A block of cells that is not the iterator's box lies as it lay. -/
theorem cells_calm {b : Nat} {c : Array Value} {t : TypeId} {fz : Nat × Nat} (h : W.heap[b]? = some (.cells c t fz)) (hg : LSt bx W W' ∨ Book B W W') (hb : b ≠ bx) : W'.heap[b]? = some (.cells c t fz) := by
  obtain ⟨row, hg, hr⟩ := calm_row hg
  refine (hg.block b (Array.getElem?_eq_some_iff.1 h).1 fun e => ?_).trans h
  rcases hr b e.symm with ⟨h1, _⟩ | ⟨_, o, ho, hc⟩
  · exact hb h1
  · rw [h] at ho; cases ho; cases hc
theorem boxed_calm {b : Nat} {t : TypeId} {v : Value} (h : Boxed W b t v) (hg : LSt bx W W' ∨ Book B W W') (hb : b ≠ bx) : Boxed W' b t v := cells_calm h hg hb
theorem below_calm2 {w : World} {C : Nat} (h : Below C w W) (hg : LSt bx W W' ∨ Book B W W') (hC : C ≤ w.heap.size) (hb : C ≤ bx) (hB : C ≤ B) : Below C w W' := by
  obtain ⟨row, hg, hr⟩ := calm_row hg
  exact h.grown hg (Nat.le_trans hC h.size) (fun k e => by
    rcases hr k e with ⟨h1, _⟩ | ⟨h1, _⟩
    · omega
    · omega)
end
theorem run_loadVar_bool {P : Program} {t : TypeId} (hu : P.underlying t = some .bool) {w : World} {b : Nat} {v : Value} (h : w.cell? ⟨b, 0, none⟩ = some v) : (loadVar t ⟨b, 0, none⟩).run P w = .ok v w := by
  unfold loadVar
  simp [go_sem, isAgg, run_underlying hu, h]
theorem results_bool {fn : Func} (h : fn.results = #[.cell 2 4]) (tmps : Array Value) (w : World) {b1 : Nat} {v1 : Value}
    (h1 : tmps.getD 2 undef = .pointer (some ⟨b1, 0, none⟩)) (c1 : w.cell? ⟨b1, 0, none⟩ = some v1) : (results fn tmps).run Tryd.prog w = .ok v1 w := by
  have h1' : tmps[2]?.getD undef = .pointer (some ⟨b1, 0, none⟩) := by simpa using h1
  simp [results, h, h1', asAddr, run_loadVar_bool Tryd.underlying4 c1]
theorem keeps_set {W : World} {b B : Nat} (h : b < B) (v : Value) : KeepsFrom B W (W.setCell ⟨b, 0, none⟩ v) :=
  KeepsFrom.of_grownBy (grownBy_setCell' W b v) (fun j e => by cases e; exact h)
theorem below_put {w W : World} {C b : Nat} (h : Below C w W) (hC : C ≤ w.heap.size) (hb : C ≤ b) (v : Value) : Below C w (W.setCell ⟨b, 0, none⟩ v) :=
  h.grown (grownBy_setCell' W b v) (Nat.le_trans hC h.size) (fun k e => by cases e; exact hb)
theorem box_obj {W : World} {b : Nat} {t : TypeId} {v : Value} (h : Boxed W b t v) (D : Nat) (o : Obj) (hne : b ≠ D) : Boxed (W.putObj D o) b t v := h.kept (grownBy_putObj' W D o) (fun e => hne (by cases e; rfl))
theorem below_obj {w W : World} {C D : Nat} (h : Below C w W) (hC : C ≤ w.heap.size) (hD : C ≤ D) (o : Obj) : Below C w (W.putObj D o) :=
  h.grown (grownBy_putObj' W D o) (Nat.le_trans hC h.size) (fun k e => by cases e; exact hD)
/-! ### The pieces as strings -/
theorem seq_mem {s x : ByteArray} {pre rest : List ByteArray} (h : seqB s.data.toList = pre ++ x :: rest) : x.data.toList ∈ piecesL s.data.toList := by
  have hm : x ∈ seqB s.data.toList := by rw [h]; simp
  unfold seqB at hm
  obtain ⟨l, hl, rfl⟩ := List.mem_map.1 hm
  exact hl
theorem seq_len {s x : ByteArray} {pre rest : List ByteArray} (h : seqB s.data.toList = pre ++ x :: rest) : x.size ≤ s.size := by
  rw [size_list, size_list]
  exact pieces_len _ _ (seq_mem h)
theorem seq_bad {s x : ByteArray} {pre rest : List ByteArray} (h : seqB s.data.toList = pre ++ x :: rest) (hb : goodP x.data.toList = false) : plainA false s.data.toList = false := by
  rw [(plain_pieces s.data.toList).1, List.all_eq_false]
  exact ⟨_, seq_mem h, by rw [hb]; exact Bool.false_ne_true⟩
theorem seq_all {s : ByteArray} (h : ∀ x ∈ seqB s.data.toList, goodP x.data.toList = true) : plainA false s.data.toList = true := by
  rw [(plain_pieces s.data.toList).1, List.all_eq_true]
  intro p hp
  exact h (strL p) (by unfold seqB; exact List.mem_map_of_mem hp)
set_option maxRecDepth 100000 in
set_option maxHeartbeats 2000000 in
theorem plain_any (s : ByteArray) (hs : s.size ≤ 1000000) (w : World) :
    Calls Tryd.prog 79 #[.string s] w fun e w' => e = .returned (.bool (plainA false s.data.toList)) ∧ Below w.heap.size w w' := by
  have hG := iter_gives 8 (by decide) (w.heap.size + 2) (w.heap.size + 1) (w.heap.size + 3) (by omega) (by omega) s (by omega)
  have hlen := @seq_len s
  have hbad := @seq_bad s
  have hall := @seq_all s
  obtain ⟨xs, hxs⟩ : ∃ xs, seqB s.data.toList = xs := ⟨_, rfl⟩
  rw [hxs] at hG hall
  simp only [hxs] at hlen hbad
  generalize plainA false s.data.toList = R at hbad hall ⊢
  have HALL := Lib.hid hall
  have HLEN := Lib.hid (fun (pre rest : List ByteArray) (x : ByteArray) => @hlen x pre rest)
  have HBAD := Lib.hid (fun (pre rest : List ByteArray) (x : ByteArray) => @hbad x pre rest)
  clear hxs hall hlen hbad
  refine (callsIn_wide (n := 9)).1 (callsIn_of_wp_marks Tryd.func79 rfl trivial ?_ rfl)
  simp only [Tryd.ntmps79, List.size_toArray, List.length_cons, List.length_nil, Nat.reduceAdd, Nat.reduceSub, Array.replicate_succ, Array.replicate_zero, List.push_toArray, List.append_toArray, List.nil_append, List.cons_append]
  gi_wp2_with (refine ⟨trivial, ?_⟩; gi_at_call 92; refine (callsIn_wide.2 (seq_any s _)).mono ?_; rintro e w2 ⟨rfl, rfl⟩)
  have b0 := Boxed.new w 4 (.bool false)
  have hz : (w.alloc (.cells #[.bool false] 4)).heap.size = w.heap.size + 1 := by simp
  have hb1 : Below w.heap.size w (w.alloc (.cells #[.bool false] 4)) := (Below.refl _ w).alloc (Nat.le_refl _) _
  generalize w.alloc (.cells #[.bool false] 4) = w1 at b0 hz hb1 ⊢
  have d1 := Boxed.new w1 9 (.string s)
  have d2 := Boxed.new (w1.alloc (.cells #[.string s] 9)) 9 (.string ⟨#[32]⟩)
  have d3 := Boxed.new ((w1.alloc (.cells #[.string s] 9)).alloc (.cells #[.string ⟨#[32]⟩] 9)) 3 (.int .i64 0)
  rw [hz] at d1
  rw [World.size_alloc, hz] at d2
  rw [World.size_alloc, World.size_alloc, hz] at d3
  have hb3 : Below w.heap.size w (((w1.alloc (.cells #[.string s] 9)).alloc (.cells #[.string ⟨#[32]⟩] 9)).alloc (.cells #[.int .i64 0] 3)) := ((hb1.alloc hb1.size _).alloc (by rw [World.size_alloc]; have := hb1.size; omega) _).alloc (by rw [World.size_alloc, World.size_alloc]; have := hb1.size; omega) _
  have e1 := (d1.alloc (.cells #[.string ⟨#[32]⟩] 9)).alloc (.cells #[.int .i64 0] 3)
  have e2 := d2.alloc (.cells #[.int .i64 0] 3)
  have e0 := ((b0.alloc (.cells #[.string s] 9)).alloc (.cells #[.string ⟨#[32]⟩] 9)).alloc (.cells #[.int .i64 0] 3)
  have hz3 : (((w1.alloc (.cells #[.string s] 9)).alloc (.cells #[.string ⟨#[32]⟩] 9)).alloc (.cells #[.int .i64 0] 3)).heap.size = w.heap.size + 4 := by simp [hz]
  clear d1 d2 b0 hb1
  rw [show w.heap.size + 1 + 1 = w.heap.size + 2 from rfl, show w.heap.size + 1 + 2 = w.heap.size + 3 from rfl] at *
  generalize ((w1.alloc (.cells #[.string s] 9)).alloc (.cells #[.string ⟨#[32]⟩] 9)).alloc (.cells #[.int .i64 0] 3) = w3 at d3 hb3 e1 e2 e0 hz3 ⊢
  refine wp_iter (by decide) rfl (enters_of Tryd.func102 (by kernel_rfl) rfl) rfl hG (fun o o' => ⟨(e2.alloc o).alloc o', (e1.alloc o).alloc o', (d3.alloc o).alloc o'⟩) (by rintro k (rfl | rfl | rfl) <;> omega) lst_kept (fun _ _ _ _ => trivial)
    (fun pre W => Boxed W w.heap.size 4 (.bool false) ∧ Below w.heap.size w W ∧ Hid (∀ y ∈ pre, goodP y.data.toList = true))
    (fun c _ W => c = .ret ∧ Boxed W w.heap.size 4 (.bool false) ∧ Below w.heap.size w W ∧ Hid (R = false))
    (fun pre A C hi hg => ⟨boxed_calm hi.1 hg (by omega), below_calm2 hi.2.1 hg (Nat.le_refl _) (by omega) (by omega), hi.2.2⟩)
    (fun _ pre A C hi hg => ⟨hi.1, boxed_calm hi.2.1 hg (by omega), below_calm2 hi.2.2.1 hg (Nat.le_refl _) (by omega) (by omega), hi.2.2.2⟩)
    ⟨e0, hb3, by intro y hy; cases hy⟩
    (fun x => { tmps := #[.string s, undef, .pointer (some ⟨w.heap.size, 0, none⟩), .string x, .string s, .func (.func 102) #[] #[.pointer (some ⟨w.heap.size + 2, 0, none⟩), .pointer (some ⟨w.heap.size + 1, 0, none⟩), .pointer (some ⟨w.heap.size + 3, 0, none⟩)], .string x, undef, undef, undef, undef, undef, undef, undef, undef, undef], defers := [] }) ?assign ?body ?done ?stop
  case assign =>
    intro l x W K hK
    gi_wp2
    exact hK
  case body =>
    rintro l pre x rest W hx ⟨hb0, hB, hgood⟩ _ hsz
    rw [hz3] at hsz ⊢
    have c0 := hb0.cell
    have f0 := hb0.frozen
    have hxl := HLEN.out pre rest x hx
    have hxz := size_list x
    by_cases h0 : x.data.toList = []
    · have HR := Lib.hid (HBAD.out pre rest x hx (by rw [h0]; rfl))
      obtain rfl : x = ⟨#[]⟩ := bytes_is h0
      clear hG HALL HLEN HBAD hx hxl hxz h0
      gi_wp2_with (refine ⟨trivial, ?_⟩)
      exact ⟨keeps_set (by omega) _, rfl, hb0.set _, below_put hB (Nat.le_refl _) (Nat.le_refl _) _, HR⟩
    · have hne : x.toList.isEmpty = false := by
        rw [ByteArray.toList_eq]
        cases hl : x.data.toList with
        | nil => exact absurd hl h0
        | cons _ _ => rfl
      have cP := pre_atom x (by omega)
      have hle := take_all x.data.toList
      have hgi := good_iff x.data.toList
      rw [← hxz] at hle hgi
      by_cases hg : goodP x.data.toList = true
      · have hlen := (hgi.1 hg).2
        rw [hlen] at cP
        have HG2 : Hid (∀ y ∈ pre ++ [x], goodP y.data.toList = true) := fun y hy => by
          rcases List.mem_append.1 hy with hy | hy
          · exact hgood.out y hy
          · rw [List.mem_singleton.1 hy]; exact hg
        clear hG HALL HLEN HBAD hx hxl hxz h0 hgi hg hlen hle
        gi_wp2_with (refine ⟨trivial, ?_⟩; gi_at_call 66; refine (CallsIn.inRound l (callsIn_wide.2 (cP _))).mono ?_; rintro e W2 ⟨rfl, hw⟩; rw [← hw]; clear hw W2)
        exact ⟨KeepsFrom.refl _ _, fun _ _ => rfl, hb0, hB, HG2⟩
      · have hg' : goodP x.data.toList = false := by simpa using hg
        have HR := Lib.hid (HBAD.out pre rest x hx hg')
        have hlt : (x.data.toList.takeWhile atomB).length < x.size := by
          rcases Nat.lt_or_ge (x.data.toList.takeWhile atomB).length x.size with h | h
          · exact h
          · exact absurd (hgi.2 ⟨h0, by omega⟩) hg
        generalize (x.data.toList.takeWhile atomB).length = m at cP hlt
        have hlt' : (m : Int) < (x.size : Int) := by omega
        clear hG HALL HLEN HBAD hx hxl hxz h0 hgi hg hg' hle
        gi_wp2_with (refine ⟨trivial, ?_⟩; gi_at_call 66; refine (CallsIn.inRound l (callsIn_wide.2 (cP _))).mono ?_; rintro e W2 ⟨rfl, hw⟩; rw [← hw]; clear hw W2)
        exact ⟨keeps_set (by omega) _, rfl, hb0.set _, below_put hB (Nat.le_refl _) (Nat.le_refl _) _, HR⟩
  case done =>
    rintro D W hD ⟨hb0, hB, hgood⟩ hK
    rw [hz3] at hD
    have c0 := hb0.cell
    have f0 := hb0.frozen
    have hR := HALL.out hgood.out
    subst hR
    gi_wp2
    refine ⟨by simp, .inl ⟨_, _, rfl, run_takeDeferred ((Below.heap_setCell W ⟨w.heap.size, 0, none⟩ _ D (by show D ≠ w.heap.size; omega)).trans hK), ?_⟩⟩
    exact ⟨_, results_bool rfl _ _ rfl (box_obj (hb0.set _) D _ (by omega)).cell, rfl, below_obj (below_put hB (Nat.le_refl _) (Nat.le_refl _) _) (Nat.le_refl _) (by omega) _⟩
  case stop =>
    rintro D c pre W hD ⟨rfl, hb0, hB, HR⟩ hK
    rw [hz3] at hD
    have c0 := hb0.cell
    have hR := HR.out
    subst hR
    gi_wp2
    refine ⟨by simp, .inl ⟨_, _, rfl, run_takeDeferred hK, ?_⟩⟩
    exact ⟨_, results_bool rfl _ _ rfl (box_obj hb0 D _ (by omega)).cell, rfl, below_obj hB (Nat.le_refl _) (by omega) _⟩
end Go.Proofs.YtgponokcigapaaaDoor
namespace Go.Proofs.YtgponokcigapaaaDoor
open Go.ChangeShapes Go.WideShapes Go.ChangeAt Go.RowKit
open TokP

theorem Ub.lit {w0 w : World} {b : Nat} {O : List UInt8} (h : Ub w0 w b O) (c : UInt8) (x : Int) (hx : (c.toNat : Int) = x) (hO : O.length ≤ 4000000) :
    Calls Tryd.prog 72 #[.pointer (some ⟨b, 0, none⟩), .int .u8 x] w fun e w' => e = .returned .nilIface ∧ Ub w0 w' b (O ++ [c]) := by
  subst hx
  exact h.byte c _ rfl hO
set_option maxRecDepth 100000 in
set_option maxHeartbeats 2000000 in
theorem quote_any (s : ByteArray) (hs : s.size ≤ 1000000) (w : World) :
    Calls Tryd.prog 63 #[.string s] w fun e w' => e = .returned (.string (strL (quoteL s.data.toList))) ∧ Below w.heap.size w w' := by
  have cP := plain_any s hs w
  by_cases hp : plainA false s.data.toList = true
  · have HQ := Lib.hid (show strL (quoteL s.data.toList) = s by unfold quoteL; rw [if_pos hp, strL_of])
    rw [hp] at cP
    have cC := fun W => clone_any s W hs
    clear hp
    go_enter Tryd.func63, Tryd.ntmps63
    go_wp2_with (first
      | (go_at_call 79; with_reducible refine cP.mono ?_; rintro e w1 ⟨rfl, hb1⟩; clear cP)
      | (go_at_call 34; with_reducible refine (cC _).mono ?_; rintro e w2 ⟨rfl, hb2⟩; clear cC))
    go_ret
    exact ⟨by rw [HQ.out]; rfl, Qtrans hb1 hb2⟩
  · have hp' : plainA false s.data.toList = false := by simpa using hp
    obtain ⟨R, hR⟩ : ∃ R, 34 :: escL s.data.toList = R := ⟨_, rfl⟩
    have HR := Lib.hid hR
    have HQ := Lib.hid (show quoteL s.data.toList = R ++ [34] by unfold quoteL; rw [if_neg hp, ← hR])
    rw [HQ.out]
    rw [hp'] at cP
    obtain ⟨n, hn⟩ : ∃ n, s.size = n := ⟨_, rfl⟩
    have HL := Lib.hid (size_list s)
    rw [hn] at hs
    have HN := Lib.hid hn
    clear hn hp hp' hR HQ
    go_enter Tryd.func63, Tryd.ntmps63
    go_wp2_with (first
      | (go_at_call 79; with_reducible refine cP.mono ?_; rintro e w1 ⟨rfl, hb1⟩; clear cP; have cQ := (ub_first w1).lit 34 34 rfl (by decide))
      | (go_at_call 72; with_reducible refine cQ.mono ?_; rintro e w2 ⟨rfl, hu2⟩; replace hu2 := Lib.hid hu2; clear cQ; have hn : s.size = n := HN.out))
    clear hn
    go_loopw [12] (fun i wr => ∃ (k : Nat) (O : List UInt8), k ≤ n ∧ i = .int .i64 k ∧ O.length ≤ 2 * k + 1 ∧ Hid (O ++ escL (s.data.toList.drop k) = R) ∧ Hid (Ub w1 wr w1.heap.size O)) (fun i _ => n - (intOf i).toNat)
    case atStart => exact ⟨0, [34], by omega, rfl, Nat.le_refl _, Lib.hid HR.out, hu2⟩
    case round =>
      obtain ⟨k, O, hk, rfl, hO, HE, HU⟩ := hrel
      have F1 : IntKind.i64.wrap ((k : Int) + 1) = (k : Int) + 1 := by rw [IntKind.wrap_i64]; omega
      by_cases hlt : k < n
      · have hlt' : (k : Int) < (n : Int) := by omega
        obtain ⟨c, x, hc, hx, hx2, S1⟩ := run_byte s k (by rw [HN.out]; exact hlt)
        have e34 := byte_is c x hx 34 (by decide)
        have e92 := byte_is c x hx 92 (by decide)
        have e10 := byte_is c x hx 10 (by decide)
        have e13 := byte_is c x hx 13 (by decide)
        rw [show ((34 : Nat) : Int) = 34 from rfl] at e34
        rw [show ((92 : Nat) : Int) = 92 from rfl] at e92
        rw [show ((10 : Nat) : Int) = 10 from rfl] at e10
        rw [show ((13 : Nat) : Int) = 13 from rfl] at e13
        by_cases h34 : c = 34
        · rw [show decide (c = UInt8.ofNat 34) = true from decide_eq_true h34] at e34
          have HE2 := Lib.hid (esc_yes hc (by rw [h34]; rfl) HE.out)
          have cB := HU.out.lit 92 92 rfl (by omega)
          clear h34 e92 e10 e13 hc hx2 HE
          go_wp2_with (first
            | (go_at_call 72; with_reducible refine cB.mono ?_; rintro e w4 ⟨rfl, hu4⟩; have cD := hu4.byte c x hx (by rw [List.length_append, List.length_singleton]; omega); clear cB)
            | (go_at_call 72; with_reducible refine cD.mono ?_; rintro e w5 ⟨rfl, hu5⟩; replace hu5 := Lib.hid hu5; clear cD))
          go_roundw
          case rel => exact ⟨k + 1, O ++ [92] ++ [c], by omega, by go_num, by simp only [List.length_append, List.length_singleton]; omega, HE2, hu5⟩
          case measure => simp [intOf]; omega
        · rw [show decide (c = UInt8.ofNat 34) = false from decide_eq_false h34] at e34
          by_cases h92 : c = 92
          · rw [show decide (c = UInt8.ofNat 92) = true from decide_eq_true h92] at e92
            have HE2 := Lib.hid (esc_yes hc (by rw [h92]; rfl) HE.out)
            have cB := HU.out.lit 92 92 rfl (by omega)
            clear h34 h92 e10 e13 hc hx2 HE
            go_wp2_with (first
              | (go_at_call 72; with_reducible refine cB.mono ?_; rintro e w4 ⟨rfl, hu4⟩; have cD := hu4.byte c x hx (by rw [List.length_append, List.length_singleton]; omega); clear cB)
              | (go_at_call 72; with_reducible refine cD.mono ?_; rintro e w5 ⟨rfl, hu5⟩; replace hu5 := Lib.hid hu5; clear cD))
            go_roundw
            case rel => exact ⟨k + 1, O ++ [92] ++ [c], by omega, by go_num, by simp only [List.length_append, List.length_singleton]; omega, HE2, hu5⟩
            case measure => simp [intOf]; omega
          · rw [show decide (c = UInt8.ofNat 92) = false from decide_eq_false h92] at e92
            by_cases h10 : c = 10
            · rw [show decide (c = UInt8.ofNat 10) = true from decide_eq_true h10] at e10
              have HE2 := Lib.hid (esc_yes hc (by rw [h10]; rfl) HE.out)
              have cB := HU.out.lit 92 92 rfl (by omega)
              clear h34 h92 h10 e13 hc hx2 HE
              go_wp2_with (first
                | (go_at_call 72; with_reducible refine cB.mono ?_; rintro e w4 ⟨rfl, hu4⟩; have cD := hu4.byte c x hx (by rw [List.length_append, List.length_singleton]; omega); clear cB)
                | (go_at_call 72; with_reducible refine cD.mono ?_; rintro e w5 ⟨rfl, hu5⟩; replace hu5 := Lib.hid hu5; clear cD))
              go_roundw
              case rel => exact ⟨k + 1, O ++ [92] ++ [c], by omega, by go_num, by simp only [List.length_append, List.length_singleton]; omega, HE2, hu5⟩
              case measure => simp [intOf]; omega
            · rw [show decide (c = UInt8.ofNat 10) = false from decide_eq_false h10] at e10
              by_cases h13 : c = 13
              · rw [show decide (c = UInt8.ofNat 13) = true from decide_eq_true h13] at e13
                have HE2 := Lib.hid (esc_yes hc (by rw [h13]; rfl) HE.out)
                have cB := HU.out.lit 92 92 rfl (by omega)
                clear h34 h92 h10 h13  hc hx2 HE
                go_wp2_with (first
                  | (go_at_call 72; with_reducible refine cB.mono ?_; rintro e w4 ⟨rfl, hu4⟩; have cD := hu4.byte c x hx (by rw [List.length_append, List.length_singleton]; omega); clear cB)
                  | (go_at_call 72; with_reducible refine cD.mono ?_; rintro e w5 ⟨rfl, hu5⟩; replace hu5 := Lib.hid hu5; clear cD))
                go_roundw
                case rel => exact ⟨k + 1, O ++ [92] ++ [c], by omega, by go_num, by simp only [List.length_append, List.length_singleton]; omega, HE2, hu5⟩
                case measure => simp [intOf]; omega
              · rw [show decide (c = UInt8.ofNat 13) = false from decide_eq_false h13] at e13
                have hh : held c = false := by unfold held; simp [h34, h92, h10, h13]
                have HE2 := Lib.hid (esc_no hc hh HE.out)
                have cB := HU.out.byte c x hx (by omega)
                clear h34 h92 h10 h13 hh hc hx hx2 HE
                go_wp2_with (go_at_call 72; with_reducible refine cB.mono ?_; rintro e w4 ⟨rfl, hu4⟩; replace hu4 := Lib.hid hu4; clear cB)
                go_roundw
                case rel => exact ⟨k + 1, O ++ [c], by omega, by go_num, by simp only [List.length_append, List.length_singleton]; omega, HE2, hu4⟩
                case measure => simp [intOf]; omega
      · obtain rfl : k = n := by omega
        have hlt' : ¬ (k : Int) < (k : Int) := by omega
        have he : O = R := by
          have h := HE.out
          rw [List.drop_eq_nil_of_le (by rw [← HL.out, HN.out]; exact Nat.le_refl _), escL, List.append_nil] at h
          exact h
        subst he
        have cB := HU.out.lit 34 34 rfl (by omega)
        clear HE
        go_wp2_with (first
          | (go_at_call 72; with_reducible refine cB.mono ?_; rintro e w4 ⟨rfl, hu4⟩; have cO := hu4.out; clear cB)
          | (go_at_call 41; with_reducible refine cO.mono ?_; rintro e w5 ⟨rfl, hb5⟩; clear cO))
        go_ret
        exact ⟨rfl, Qtrans hb1 hb5⟩
end Go.Proofs.YtgponokcigapaaaDoor
