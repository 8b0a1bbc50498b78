/- Slices of bytes that a call has made; the reference's Value. -/
import Derived.Test.YtmpgclimgbjeoaaDoorValue
import Derived.Lib.ConvBytes
import Derived.Lib.UnsafeStr
import Derived.Lib.AppendStr
import Derived.Laws.AppendOwn
import Derived.Maps.AppendAt
namespace Go.Proofs.YtmpgclimgbjeoaaDoor
open Go.ChangeShapes Go.WideShapes Go.ChangeAt Go.RowKit
open TokP

/-- The slice v holds out, in a block of its own from B on. -/
def Ow (w : World) (B : Nat) (v : Value) (out : List UInt8) : Prop := w.ownsRow B 5 1 v out.length (Lib.byteCells out)
theorem conv_own {w : World} {base n : Nat} {v : Value} {l : List UInt8} (hl : l.length = n) (hown : w.ownsRow base 5 1 v n (Lib.byteCells l)) :
    (convert 39 9 v).run Tryd.prog w = .ok (.string (strL l)) w := by
  rcases hown.2 with ⟨rfl, h⟩ | ⟨g, cap, cur, rfl, _⟩
  · obtain rfl : l = [] := List.eq_nil_of_length_eq_zero (by rw [hl, h])
    kernel_rfl
  · subst hl
    refine run_convert_bytes_back w 39 9 5 ⟨g, 0, none⟩ cap l Tryd.underlying39 Tryd.underlying5 Tryd.underlying9 fun j hj => ?_
    refine hown.cells (g := g) rfl j _ ?_
    unfold Lib.byteCells
    rw [List.getElem?_map, List.getElem?_eq_getElem hj]; rfl
/-- A new byte is appended. -/
theorem wpList_byte {ops : Array Oper} {rest : List Oper} {o : Oper} {a : Act} {w : World} {Q : Exit → Act → World → Prop} (hgd : o.guard = none) (s x : Operand) (ho : o.op = .call { callee := .builtin .append, args := #[s, x], argTypes := #[39, 39] })
    (B : Nat) {v : Value} {out : List UInt8} {n : Nat} (c : UInt8) (y : Int) (hy : (c.toNat : Int) = y) (hs : a.eval s = v) (hx : a.eval x = .slice (some ⟨w.heap.size, 0, none⟩) 1 1) (hown : Ow w B v out) (hn : out.length = n) (hb : B ≤ w.heap.size) (hl : n + 1 ≤ 1000000)
    (h : ∀ a' c' w', Ow w' B (.slice a' (n + 1) c') (out ++ [c]) → (w.alloc (.cells #[.int .u8 y] 5)).grownBy w' v.ownBlock → wpList Tryd.prog ops Q rest (a.put o.dst (.slice a' (n + 1) c')) w') : wpList Tryd.prog ops Q (o :: rest) a (w.alloc (.cells #[.int .u8 y] 5)) := by
  obtain ⟨i0, hi, hz0, hz1, hz2⟩ := info_parts info5
  subst hn
  subst hy
  have h0 : Ow (w.alloc (.cells #[.int .u8 (c.toNat : Int)] 5)) B v out := World.ownsRow.alloc hown _
  refine wpList_append_own _ hgd s x 39 ho B 5 i0 (.int .u8 0) 1 1 Tryd.underlying39 hi hz0 hz1 hz2 rfl (by decide) v _ _ hs h0 ⟨w.heap.size, 0, none⟩ 1 1 [.int .u8 (c.toNat : Int)] hx rfl (cell_one_new _ _ _) (by simp [Value.oneCell']) (by unfold maxLen; omega) (by omega) (by rw [World.size_alloc]; omega) ?_
  intro v' w' h1 h2 _
  have h1' : w'.ownsRow B 5 1 v' (out.length + 1) (Lib.byteCells (out ++ [c])) := by rw [Lib.byteCells_append]; exact h1
  obtain ⟨a', c', rfl⟩ : ∃ a' c', v' = .slice a' (out.length + 1) c' := by
    rcases h1.2 with ⟨rfl, h0⟩ | ⟨g, cap, cur, rfl, _⟩
    · omega
    · exact ⟨_, _, rfl⟩
  exact h a' c' w' (by unfold Ow; rw [List.length_append]; exact h1') h2
theorem ow_nil (w : World) (B : Nat) : Ow w B (.slice none 0 0) [] := ⟨rfl, .inl ⟨rfl, rfl⟩⟩
theorem ow_below {w w1 w2 : World} {B : Nat} {v : Value} {out : List UInt8} {o : Obj} (h : Below w.heap.size w w1) (ho : Ow w1 B v out) (hB : w.heap.size ≤ B) (hg : (w1.alloc o).grownBy w2 v.ownBlock) : Below w.heap.size w w2 :=
  (h.alloc h.size _).grown hg (by rw [World.size_alloc]; have := h.size; omega) (fun k e => by have := (World.ownsRow.lt ho k e).1; omega)
set_option maxRecDepth 100000 in
set_option maxHeartbeats 2000000 in
/-- The loop of the reference's Value, over a struct that lies in a box. -/
theorem rvalue_yes (K : Int) (hK : K = 2 ∨ K = 3) (T : ByteArray) (hT : T.size ≤ 1000000) (h2 : 2 ≤ T.size) (w : World) :
    Calls Tryd.prog 19 #[.agg #[.int .i64 K, .string T]] w fun e w' => e = .returned (.string (strL (unescS false (T.data.toList.drop 1).dropLast))) ∧ Below w.heap.size w w' := by
  obtain ⟨R, hR⟩ : ∃ R, unescS false (T.data.toList.drop 1).dropLast = R := ⟨_, rfl⟩
  rw [hR]
  have h2' : ¬ (T.size : Int) < 2 := by omega
  have F0 : IntKind.i64.wrap ((T.size : Int) - 1) = (T.size : Int) - 1 := by rw [IntKind.wrap_i64]; omega
  have R1 : ∀ W : World, (Instr.slice 9 (.string T) (some (.int .i64 1)) (some (.int .i64 ((T.size : Int) - 1))) none).run Tryd.prog W = .ok (.string (T.extract 1 (T.size - 1))) W := run_slice_str T 1 (T.size - 1) ((T.size : Int) - 1) (by omega) (by omega) (by omega)
  rw [inner_is T h2] at R1
  obtain ⟨I, hI⟩ : ∃ I, strL (T.data.toList.drop 1).dropLast = I := ⟨_, rfl⟩
  rw [hI] at R1
  have hRI : unescS false I.data.toList = R := by rw [← hI]; exact hR
  have hIz : I.size ≤ 1000000 := by rw [← hI, strL_size, List.length_dropLast, List.length_drop, ← size_list]; omega
  obtain ⟨n, hn⟩ : ∃ n, I.size = n := ⟨_, rfl⟩
  rw [hn] at hIz
  have HN := Lib.hid hn
  have HL := Lib.hid (size_list I)
  have HR := Lib.hid hRI
  have HK := Lib.hid hK
  have HW := Lib.hid (show Below w.heap.size w (w.alloc (.cells #[.int .i64 K, .string T] 23)) from (Below.refl _ w).alloc (Nat.le_refl _) _)
  clear hR hRI hI hn h2 hT hK
  have key : ∀ K', K = K' → (K' = 2 ∨ K' = 3) → Calls Tryd.prog 19 #[.agg #[.int .i64 K', .string T]] w fun e w' => e = .returned (.string (strL R)) ∧ Below w.heap.size w w' := by
    intro K' hKK hK'
    rcases hK' with rfl | rfl
    · go_enter Tryd.func19, Tryd.ntmps19
      go_wp2_with fail
      go_loopw [4, 5] (fun o i wr => ∃ (k m : Nat) (O : List UInt8), k ≤ n + 1 ∧ m ≤ k ∧ i = .int .i64 k ∧ (∃ a c, o = .slice a m c) ∧ Hid (O.length = m) ∧ Hid (O ++ unescS false (I.data.toList.drop k) = R) ∧ Hid (Ow wr w.heap.size o O) ∧ Hid (Below w.heap.size w wr)) (fun _ i _ => n + 1 - (intOf i).toNat)
      case atStart => exact ⟨0, 0, [], by omega, Nat.le_refl _, rfl, ⟨none, 0, rfl⟩, rfl, HR, ow_nil _ _, by rw [hKK] at HW; exact HW⟩
      case round =>
        obtain ⟨k, m, O, hk, hmk, rfl, ⟨a, c0, rfl⟩, hm, HE, ho, hb⟩ := hrel
        have F1 : IntKind.i64.wrap ((k : Int) + 1) = (k : Int) + 1 := by rw [IntKind.wrap_i64]; omega
        have F2 : IntKind.i64.wrap ((k : Int) + 1 + 1) = (k : Int) + 1 + 1 := by rw [IntKind.wrap_i64]; omega
        have hn : I.size = n := HN.out
        by_cases hlt : k < n
        · have hlt' : (k : Int) < (n : Int) := by omega
          obtain ⟨c, x, hc, hx, hx2, S1⟩ := run_byte I k (by rw [hn]; exact hlt)
          have e92 := byte_is c x hx 92 (by decide)
          have e10 := byte_is c x hx 10 (by decide)
          have e13 := byte_is c x hx 13 (by decide)
          rw [show ((92 : Nat) : Int) = 92 from rfl] at e92
          rw [show ((10 : Nat) : Int) = 10 from rfl] at e10
          rw [show ((13 : Nat) : Int) = 13 from rfl] at e13
          by_cases h92 : c = 92
          · rw [show decide (c = UInt8.ofNat 92) = true from decide_eq_true h92] at e92
            rw [h92] at hc
            by_cases hl2 : k + 1 < n
            · have hl2' : (k : Int) + 1 < (n : Int) := by omega
              obtain ⟨d, y, hd, hy, hy2, S2⟩ := run_byte I (k + 1) (by rw [hn]; exact hl2)
              rw [show ((k + 1 : Nat) : Int) = (k : Int) + 1 from by omega] at S2
              have HE2 := Lib.hid (show (O ++ [d]) ++ unescS false (I.data.toList.drop (k + 2)) = R by rw [← HE.out, un_esc1 _ k d hc hd, List.append_assoc]; rfl)
              have HY : Hid ((d.toNat : Int) = (y : Int)) := by show _ = _; rw [hy]
              clear h92 hc hx hx2 HE hd hy hy2 e10 e13
              go_wp2_with (at_builtin; refine wpList_byte rfl (.tmp 45) (.tmp 49) rfl w.heap.size d _ HY.out rfl rfl ho.out hm.out hb.out.size (by omega) ?_; intro a2 c2 w2 h2 g2; replace h2 := Lib.hid h2; replace g2 := Lib.hid g2)
              go_roundw
              case rel => exact ⟨k + 2, m + 1, O ++ [d], by omega, by omega, by go_num, ⟨a2, c2, rfl⟩, Lib.hid (by rw [List.length_append, hm.out]; rfl), HE2, h2, ow_below hb.out ho.out (Nat.le_refl _) g2.out⟩
              case measure => simp [intOf]; omega
            · have hl2' : ¬ (k : Int) + 1 < (n : Int) := by omega
              have HE2 := Lib.hid ((congrArg (O ++ ·) (un_esc0 _ k hc (by rw [← HL.out, hn]; omega))).symm.trans HE.out)
              clear h92 hc hx hx2 HE e10 e13
              go_wp2_with fail
              go_roundw
              case rel => exact ⟨k + 2, m, O, by omega, by omega, by go_num, ⟨a, c0, rfl⟩, hm, HE2, ho, hb⟩
              case measure => simp [intOf]; omega
          · rw [show decide (c = UInt8.ofNat 92) = false from decide_eq_false h92] at e92
            by_cases h10 : c = 10
            · rw [show decide (c = UInt8.ofNat 10) = true from decide_eq_true h10] at e10
              have n10 : ((x : Int) != 10) = false := by rw [bne, e10]; rfl
              have HE2 := Lib.hid ((congrArg (O ++ ·) (un_break _ k c hc (.inl h10))).symm.trans HE.out)
              clear h92 h10 hc hx hx2 HE e13 e10
              go_wp2_with fail
              go_roundw
              case rel => exact ⟨k + 1, m, O, by omega, by omega, by go_num, ⟨a, c0, rfl⟩, hm, HE2, ho, hb⟩
              case measure => simp [intOf]; omega
            · rw [show decide (c = UInt8.ofNat 10) = false from decide_eq_false h10] at e10
              have n10 : ((x : Int) != 10) = true := by rw [bne, e10]; rfl
              by_cases h13 : c = 13
              · rw [show decide (c = UInt8.ofNat 13) = true from decide_eq_true h13] at e13
                have n13 : ((x : Int) != 13) = false := by rw [bne, e13]; rfl
                have HE2 := Lib.hid ((congrArg (O ++ ·) (un_break _ k c hc (.inr h13))).symm.trans HE.out)
                clear h92 h10 h13 hc hx hx2 HE e13 e10
                go_wp2_with fail
                go_roundw
                case rel => exact ⟨k + 1, m, O, by omega, by omega, by go_num, ⟨a, c0, rfl⟩, hm, HE2, ho, hb⟩
                case measure => simp [intOf]; omega
              · rw [show decide (c = UInt8.ofNat 13) = false from decide_eq_false h13] at e13
                have n13 : ((x : Int) != 13) = true := by rw [bne, e13]; rfl
                have HE2 := Lib.hid (show (O ++ [c]) ++ unescS false (I.data.toList.drop (k + 1)) = R by rw [← HE.out, un_plain _ k c hc h92 (fun e => e.elim h10 h13), List.append_assoc]; rfl)
                have HY : Hid ((c.toNat : Int) = (x : Int)) := by show _ = _; rw [hx]
                clear h92 h10 h13 hc hx hx2 HE e13 e10
                go_wp2_with (at_builtin; refine wpList_byte rfl (.tmp 61) (.tmp 65) rfl w.heap.size c _ HY.out rfl rfl ho.out hm.out hb.out.size (by omega) ?_; intro a2 c2 w2 h2 g2; replace h2 := Lib.hid h2; replace g2 := Lib.hid g2)
                go_roundw
                case rel => exact ⟨k + 1, m + 1, O ++ [c], by omega, by omega, by go_num, ⟨a2, c2, rfl⟩, Lib.hid (by rw [List.length_append, hm.out]; rfl), HE2, h2, ow_below hb.out ho.out (Nat.le_refl _) g2.out⟩
                case measure => simp [intOf]; omega
        · have hlt' : ¬ (k : Int) < (n : Int) := by omega
          have he : O = R := by
            have h := HE.out
            rw [List.drop_eq_nil_of_le (by rw [← HL.out, hn]; omega), unescS, List.append_nil] at h
            exact h
          subst he
          have hcv := conv_own hm.out (by have h := ho.out; unfold Ow at h; rw [hm.out] at h; exact h)
          clear HE
          go_wp2_with fail
          go_ret
          exact ⟨rfl, hb.out⟩
    · go_enter Tryd.func19, Tryd.ntmps19
      go_wp2_with fail
      go_loopw [4, 5] (fun o i wr => ∃ (k m : Nat) (O : List UInt8), k ≤ n + 1 ∧ m ≤ k ∧ i = .int .i64 k ∧ (∃ a c, o = .slice a m c) ∧ Hid (O.length = m) ∧ Hid (O ++ unescS false (I.data.toList.drop k) = R) ∧ Hid (Ow wr w.heap.size o O) ∧ Hid (Below w.heap.size w wr)) (fun _ i _ => n + 1 - (intOf i).toNat)
      case atStart => exact ⟨0, 0, [], by omega, Nat.le_refl _, rfl, ⟨none, 0, rfl⟩, rfl, HR, ow_nil _ _, by rw [hKK] at HW; exact HW⟩
      case round =>
        obtain ⟨k, m, O, hk, hmk, rfl, ⟨a, c0, rfl⟩, hm, HE, ho, hb⟩ := hrel
        have F1 : IntKind.i64.wrap ((k : Int) + 1) = (k : Int) + 1 := by rw [IntKind.wrap_i64]; omega
        have F2 : IntKind.i64.wrap ((k : Int) + 1 + 1) = (k : Int) + 1 + 1 := by rw [IntKind.wrap_i64]; omega
        have hn : I.size = n := HN.out
        by_cases hlt : k < n
        · have hlt' : (k : Int) < (n : Int) := by omega
          obtain ⟨c, x, hc, hx, hx2, S1⟩ := run_byte I k (by rw [hn]; exact hlt)
          have e92 := byte_is c x hx 92 (by decide)
          have e10 := byte_is c x hx 10 (by decide)
          have e13 := byte_is c x hx 13 (by decide)
          rw [show ((92 : Nat) : Int) = 92 from rfl] at e92
          rw [show ((10 : Nat) : Int) = 10 from rfl] at e10
          rw [show ((13 : Nat) : Int) = 13 from rfl] at e13
          by_cases h92 : c = 92
          · rw [show decide (c = UInt8.ofNat 92) = true from decide_eq_true h92] at e92
            rw [h92] at hc
            by_cases hl2 : k + 1 < n
            · have hl2' : (k : Int) + 1 < (n : Int) := by omega
              obtain ⟨d, y, hd, hy, hy2, S2⟩ := run_byte I (k + 1) (by rw [hn]; exact hl2)
              rw [show ((k + 1 : Nat) : Int) = (k : Int) + 1 from by omega] at S2
              have HE2 := Lib.hid (show (O ++ [d]) ++ unescS false (I.data.toList.drop (k + 2)) = R by rw [← HE.out, un_esc1 _ k d hc hd, List.append_assoc]; rfl)
              have HY : Hid ((d.toNat : Int) = (y : Int)) := by show _ = _; rw [hy]
              clear h92 hc hx hx2 HE hd hy hy2 e10 e13
              go_wp2_with (at_builtin; refine wpList_byte rfl (.tmp 45) (.tmp 49) rfl w.heap.size d _ HY.out rfl rfl ho.out hm.out hb.out.size (by omega) ?_; intro a2 c2 w2 h2 g2; replace h2 := Lib.hid h2; replace g2 := Lib.hid g2)
              go_roundw
              case rel => exact ⟨k + 2, m + 1, O ++ [d], by omega, by omega, by go_num, ⟨a2, c2, rfl⟩, Lib.hid (by rw [List.length_append, hm.out]; rfl), HE2, h2, ow_below hb.out ho.out (Nat.le_refl _) g2.out⟩
              case measure => simp [intOf]; omega
            · have hl2' : ¬ (k : Int) + 1 < (n : Int) := by omega
              have HE2 := Lib.hid ((congrArg (O ++ ·) (un_esc0 _ k hc (by rw [← HL.out, hn]; omega))).symm.trans HE.out)
              clear h92 hc hx hx2 HE e10 e13
              go_wp2_with fail
              go_roundw
              case rel => exact ⟨k + 2, m, O, by omega, by omega, by go_num, ⟨a, c0, rfl⟩, hm, HE2, ho, hb⟩
              case measure => simp [intOf]; omega
          · rw [show decide (c = UInt8.ofNat 92) = false from decide_eq_false h92] at e92
            by_cases h10 : c = 10
            · rw [show decide (c = UInt8.ofNat 10) = true from decide_eq_true h10] at e10
              have n10 : ((x : Int) != 10) = false := by rw [bne, e10]; rfl
              have HE2 := Lib.hid ((congrArg (O ++ ·) (un_break _ k c hc (.inl h10))).symm.trans HE.out)
              clear h92 h10 hc hx hx2 HE e13 e10
              go_wp2_with fail
              go_roundw
              case rel => exact ⟨k + 1, m, O, by omega, by omega, by go_num, ⟨a, c0, rfl⟩, hm, HE2, ho, hb⟩
              case measure => simp [intOf]; omega
            · rw [show decide (c = UInt8.ofNat 10) = false from decide_eq_false h10] at e10
              have n10 : ((x : Int) != 10) = true := by rw [bne, e10]; rfl
              by_cases h13 : c = 13
              · rw [show decide (c = UInt8.ofNat 13) = true from decide_eq_true h13] at e13
                have n13 : ((x : Int) != 13) = false := by rw [bne, e13]; rfl
                have HE2 := Lib.hid ((congrArg (O ++ ·) (un_break _ k c hc (.inr h13))).symm.trans HE.out)
                clear h92 h10 h13 hc hx hx2 HE e13 e10
                go_wp2_with fail
                go_roundw
                case rel => exact ⟨k + 1, m, O, by omega, by omega, by go_num, ⟨a, c0, rfl⟩, hm, HE2, ho, hb⟩
                case measure => simp [intOf]; omega
              · rw [show decide (c = UInt8.ofNat 13) = false from decide_eq_false h13] at e13
                have n13 : ((x : Int) != 13) = true := by rw [bne, e13]; rfl
                have HE2 := Lib.hid (show (O ++ [c]) ++ unescS false (I.data.toList.drop (k + 1)) = R by rw [← HE.out, un_plain _ k c hc h92 (fun e => e.elim h10 h13), List.append_assoc]; rfl)
                have HY : Hid ((c.toNat : Int) = (x : Int)) := by show _ = _; rw [hx]
                clear h92 h10 h13 hc hx hx2 HE e13 e10
                go_wp2_with (at_builtin; refine wpList_byte rfl (.tmp 61) (.tmp 65) rfl w.heap.size c _ HY.out rfl rfl ho.out hm.out hb.out.size (by omega) ?_; intro a2 c2 w2 h2 g2; replace h2 := Lib.hid h2; replace g2 := Lib.hid g2)
                go_roundw
                case rel => exact ⟨k + 1, m + 1, O ++ [c], by omega, by omega, by go_num, ⟨a2, c2, rfl⟩, Lib.hid (by rw [List.length_append, hm.out]; rfl), HE2, h2, ow_below hb.out ho.out (Nat.le_refl _) g2.out⟩
                case measure => simp [intOf]; omega
        · have hlt' : ¬ (k : Int) < (n : Int) := by omega
          have he : O = R := by
            have h := HE.out
            rw [List.drop_eq_nil_of_le (by rw [← HL.out, hn]; omega), unescS, List.append_nil] at h
            exact h
          subst he
          have hcv := conv_own hm.out (by have h := ho.out; unfold Ow at h; rw [hm.out] at h; exact h)
          clear HE
          go_wp2_with fail
          go_ret
          exact ⟨rfl, hb.out⟩
  exact key K rfl HK.out
set_option maxHeartbeats 1000000 in
theorem rvalue_any (K : Int) (T : ByteArray) (hT : T.size ≤ 1000000) (w : World) :
    Calls Tryd.prog 19 #[.agg #[.int .i64 K, .string T]] w fun e w' => e = .returned (.string (strL (valueI K T.data.toList))) ∧ Below w.heap.size w w' := by
  have hsz := size_list T
  have HW := Lib.hid (show Below w.heap.size w (w.alloc (.cells #[.int .i64 K, .string T] 23)) from (Below.refl _ w).alloc (Nat.le_refl _) _)
  by_cases hk : K = 2 ∨ K = 3
  · by_cases h2 : 2 ≤ T.size
    · rw [value_yes K _ hk (by rw [← hsz]; exact h2)]
      exact rvalue_yes K hk T hT h2 w
    · have h2' : (T.size : Int) < 2 := by omega
      rw [value_no K _ (fun e => h2 (by rw [hsz]; exact e.2)), strL_of]
      clear hsz h2
      rcases hk with rfl | rfl
      · go_enter Tryd.func19, Tryd.ntmps19
        go_wp2_with fail
        go_ret
        exact ⟨rfl, HW.out⟩
      · go_enter Tryd.func19, Tryd.ntmps19
        go_wp2_with fail
        go_ret
        exact ⟨rfl, HW.out⟩
  · have g2 : (K != 2) = true := by rw [bne_iff_ne]; exact fun e => hk (.inl e)
    have g3 : (K != 3) = true := by rw [bne_iff_ne]; exact fun e => hk (.inr e)
    have n2 : ¬ K = 2 := fun e => hk (.inl e)
    have n3 : ¬ K = 3 := fun e => hk (.inr e)
    rw [value_no K _ (fun e => hk e.1), strL_of]
    clear hsz hk
    go_enter Tryd.func19, Tryd.ntmps19
    go_wp2_with fail
    go_ret
    exact ⟨rfl, HW.out⟩
end Go.Proofs.YtmpgclimgbjeoaaDoor
