/- The reference's functions from bytes to bytes: Small, Clean, Trim, Unfold. -/
import Derived.Test.YtocghngmjipjoaaDoorByte
import Derived.Test.YtocghngmjipjoaaDoorOwn
import Derived.Lib.ConvBytes
import Derived.Lib.UnsafeStr
import Derived.Lib.AppendStr
import Derived.Laws.AppendOwn
import Derived.Maps.AppendAt
namespace Go.Proofs.YtocghngmjipjoaaDoor
open Go.ChangeShapes Go.WideShapes Go.ChangeAt Go.RowKit
open LinesP HdrP

/-- The slice v holds out, in a block of its own from B on. -/
def Ow (w : World) (B : Nat) (v : Value) (out : List UInt8) : Prop := w.ownsRow B 5 1 v out.length (Lib.byteCells out)
theorem conv_own {w : World} {base n : Nat} {v : Value} {l : List UInt8} (hl : l.length = n) (hown : w.ownsRow base 5 1 v n (Lib.byteCells l)) :
    (convert 53 9 v).run Tryd.prog w = .ok (.string (strL l)) w := by
  rcases hown.2 with ⟨rfl, h⟩ | ⟨g, cap, cur, rfl, _⟩
  · obtain rfl : l = [] := List.eq_nil_of_length_eq_zero (by rw [hl, h])
    kernel_rfl
  · subst hl
    refine run_convert_bytes_back w 53 9 5 ⟨g, 0, none⟩ cap l Tryd.underlying53 Tryd.underlying5 Tryd.underlying9 fun j hj => ?_
    refine hown.cells (g := g) rfl j _ ?_
    unfold Lib.byteCells
    rw [List.getElem?_map, List.getElem?_eq_getElem hj]; rfl
/-- A new byte is appended. -/
theorem wpList_byte {ops : Array Oper} {rest : List Oper} {o : Oper} {a : Act} {w : World} {Q : Exit → Act → World → Prop} (hgd : o.guard = none) (s x : Operand) (ho : o.op = .call { callee := .builtin .append, args := #[s, x], argTypes := #[53, 53] })
    (B : Nat) {v : Value} {out : List UInt8} {n : Nat} (c : UInt8) (y : Int) (hy : (c.toNat : Int) = y) (hs : a.eval s = v) (hx : a.eval x = .slice (some ⟨w.heap.size, 0, none⟩) 1 1) (hown : Ow w B v out) (hn : out.length = n) (hb : B ≤ w.heap.size) (hl : n + 1 ≤ 1000000)
    (h : ∀ a' c' w', Ow w' B (.slice a' (n + 1) c') (out ++ [c]) → (w.alloc (.cells #[.int .u8 y] 5)).grownBy w' v.ownBlock → wpList Tryd.prog ops Q rest (a.put o.dst (.slice a' (n + 1) c')) w') : wpList Tryd.prog ops Q (o :: rest) a (w.alloc (.cells #[.int .u8 y] 5)) := by
  obtain ⟨i0, hi, hz0, hz1, hz2⟩ := info_parts info5
  subst hn
  subst hy
  have h0 : Ow (w.alloc (.cells #[.int .u8 (c.toNat : Int)] 5)) B v out := World.ownsRow.alloc hown _
  refine wpList_append_own _ hgd s x 53 ho B 5 i0 (.int .u8 0) 1 1 Tryd.underlying53 hi hz0 hz1 hz2 rfl (by decide) v _ _ hs h0 ⟨w.heap.size, 0, none⟩ 1 1 [.int .u8 (c.toNat : Int)] hx rfl (cell_one_new _ _ _) (by simp [Value.oneCell']) (by unfold maxLen; omega) (by omega) (by rw [World.size_alloc]; omega) ?_
  intro v' w' h1 h2 _
  have h1' : w'.ownsRow B 5 1 v' (out.length + 1) (Lib.byteCells (out ++ [c])) := by rw [Lib.byteCells_append]; exact h1
  obtain ⟨a', c', rfl⟩ : ∃ a' c', v' = .slice a' (out.length + 1) c' := by
    rcases h1.2 with ⟨rfl, h0⟩ | ⟨g, cap, cur, rfl, _⟩
    · omega
    · exact ⟨_, _, rfl⟩
  exact h a' c' w' (by unfold Ow; rw [List.length_append]; exact h1') h2
theorem ow_nil (w : World) (B : Nat) : Ow w B (.slice none 0 0) [] := ⟨rfl, .inl ⟨rfl, rfl⟩⟩
theorem map_take (f : UInt8 → UInt8) (S : List UInt8) (k : Nat) (c : UInt8) (h : S[k]? = some c) : (S.take (k + 1)).map f = (S.take k).map f ++ [f c] := by
  rw [List.take_add_one, h]; simp
theorem ow_below {w w1 w2 : World} {B : Nat} {v : Value} {out : List UInt8} {o : Obj} (h : Below w.heap.size w w1) (ho : Ow w1 B v out) (hB : w.heap.size ≤ B) (hg : (w1.alloc o).grownBy w2 v.ownBlock) : Below w.heap.size w w2 :=
  (h.alloc h.size _).grown hg (by rw [World.size_alloc]; have := h.size; omega) (fun k e => by have := (World.ownsRow.lt ho k e).1; omega)
set_option maxRecDepth 100000 in
set_option maxHeartbeats 2000000 in
theorem small_name (s : ByteArray) (hs : s.size ≤ 900000) (w : World) :
    Calls Tryd.prog 31 #[.string s] w fun e w' => e = .returned (.string (strL (s.data.toList.map low))) ∧ Below w.heap.size w w' := by
  obtain ⟨S, hS⟩ : ∃ S, s.data.toList = S := ⟨_, rfl⟩
  have HS := Lib.hid hS
  have HZ := Lib.hid (size_list s)
  rw [hS] at HZ ⊢
  clear hS
  go_enter Tryd.func31, Tryd.ntmps31
  go_wp2_with fail
  go_loopw [3, 4] (fun o i wr => ∃ k : Nat, k ≤ s.size ∧ i = .int .i64 k ∧ (∃ a c, o = .slice a k c) ∧ Hid (Ow wr w.heap.size o ((S.take k).map low)) ∧ Hid (Below w.heap.size w wr)) (fun _ i _ => s.size - (intOf i).toNat)
  case atStart => exact ⟨0, Nat.zero_le _, rfl, ⟨none, 0, rfl⟩, ow_nil _ _, Below.refl _ _⟩
  case round =>
    obtain ⟨k, hk, rfl, ⟨a, c, rfl⟩, ho, hb⟩ := hrel
    have F1 : IntKind.i64.wrap ((k : Int) + 1) = (k : Int) + 1 := by rw [IntKind.wrap_i64]; omega
    by_cases hlt : k < s.size
    · have hlt' : (k : Int) < (s.size : Int) := by omega
      obtain ⟨ch, x, hc, hx, hx2, RI⟩ := run_byte s k hlt
      rw [HS.out] at hc
      have HO := Lib.hid (map_take low S k ch hc)
      have hlen : Hid (((S.take k).map low).length = k) := by show _ = _; rw [List.length_map, List.length_take, ← HZ.out]; omega
      have hl := low_nat ch
      rw [hx] at hl
      clear hc
      by_cases h1 : 65 ≤ x
      · by_cases h2 : x ≤ 90
        · rw [if_pos ⟨h1, h2⟩] at hl
          have HY : Hid (((low ch).toNat : Int) = (x : Int) + 32) := by show _ = _; rw [hl]; omega
          have F2 : IntKind.u8.wrap ((x : Int) + 32) = (x : Int) + 32 := by rw [IntKind.wrap_u8]; omega
          have h1' : (65 : Int) ≤ x := by omega
          have h2' : (x : Int) ≤ 90 := by omega
          clear hl hx
          go_wp2_with (at_builtin; refine wpList_byte rfl (.tmp 23) (.tmp 25) rfl w.heap.size (low ch) _ HY.out rfl rfl ho.out hlen.out hb.out.size (by omega) ?_; intro a2 c2 w2 h2 g2; replace h2 := Lib.hid h2; replace g2 := Lib.hid g2)
          go_roundw
          case rel => exact ⟨k + 1, by omega, by go_num, ⟨a2, c2, rfl⟩, by rw [HO.out]; exact h2, ow_below hb.out ho.out (Nat.le_refl _) g2.out⟩
          case measure => simp [intOf]; omega
        · rw [if_neg (fun h => h2 h.2)] at hl
          have HY : Hid (((low ch).toNat : Int) = (x : Int)) := by show _ = _; rw [hl]
          have h1' : (65 : Int) ≤ x := by omega
          have h2' : ¬ (x : Int) ≤ 90 := by omega
          clear hl hx
          go_wp2_with (at_builtin; refine wpList_byte rfl (.tmp 23) (.tmp 25) rfl w.heap.size (low ch) _ HY.out rfl rfl ho.out hlen.out hb.out.size (by omega) ?_; intro a2 c2 w2 h2 g2; replace h2 := Lib.hid h2; replace g2 := Lib.hid g2)
          go_roundw
          case rel => exact ⟨k + 1, by omega, by go_num, ⟨a2, c2, rfl⟩, by rw [HO.out]; exact h2, ow_below hb.out ho.out (Nat.le_refl _) g2.out⟩
          case measure => simp [intOf]; omega
      · rw [if_neg (fun h => h1 h.1)] at hl
        have HY : Hid (((low ch).toNat : Int) = (x : Int)) := by show _ = _; rw [hl]
        have h1' : ¬ (65 : Int) ≤ x := by omega
        clear hl hx
        go_wp2_with (at_builtin; refine wpList_byte rfl (.tmp 23) (.tmp 25) rfl w.heap.size (low ch) _ HY.out rfl rfl ho.out hlen.out hb.out.size (by omega) ?_; intro a2 c2 w2 h2 g2; replace h2 := Lib.hid h2; replace g2 := Lib.hid g2)
        go_roundw
        case rel => exact ⟨k + 1, by omega, by go_num, ⟨a2, c2, rfl⟩, by rw [HO.out]; exact h2, ow_below hb.out ho.out (Nat.le_refl _) g2.out⟩
        case measure => simp [intOf]; omega
    · obtain rfl : k = s.size := by omega
      have hT : S.take s.size = S := List.take_of_length_le (by rw [← HZ.out]; exact Nat.le_refl _)
      rw [hT] at ho
      have hcv := conv_own (l := S.map low) (n := s.size) (by rw [List.length_map, ← HZ.out]) (by have h := ho.out; unfold Ow at h; rw [List.length_map, ← HZ.out] at h; exact h)
      clear hT
      obtain ⟨R, hR⟩ : ∃ R, strL (S.map low) = R := ⟨_, rfl⟩
      rw [hR] at hcv
      have HR := Lib.hid hR
      clear hR
      go_wp2_with fail
      go_ret
      rw [HR.out]
      exact ⟨rfl, hb.out⟩
end Go.Proofs.YtocghngmjipjoaaDoor
