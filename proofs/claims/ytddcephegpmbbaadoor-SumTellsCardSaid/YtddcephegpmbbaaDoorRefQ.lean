/- The reference's padding. -/
import Derived.Test.YtddcephegpmbbaaDoorRefP
import Derived.Test.YtddcephegpmbbaaDoorPadC
namespace Go.Proofs.YtddcephegpmbbaaDoor
open Go.ChangeShapes Go.WideShapes Go.ChangeAt Go.RowKit

theorem own_form {w : World} {base : Nat} {e : TypeId} {size : Nat} {v : Value} {n : Nat} {xs : List Value} (h : w.ownsRow base e size v n xs) (hn : 0 < n) : ∃ g cap, v = .slice (some ⟨g, 0, none⟩) n cap := by
  rcases h.2 with ⟨_, h0⟩ | ⟨g, cap, cur, hv, _⟩
  · omega
  · exact ⟨g, cap, hv⟩
theorem lenByte8 (m e : Nat) : IntKind.u8.wrap (8 * (m : Int) / 2 ^ e) = ((UInt8.ofNat (8 * m / 2 ^ e)).toNat : Int) := by
  have h : 8 * (m : Int) / 2 ^ e = ((8 * m / 2 ^ e : Nat) : Int) := by simp
  rw [h, IntKind.wrap_u8, UInt8.toNat_ofNat']; rfl
theorem bL_pad (l : List UInt8) : bL l l.length 8 = padL l := by
  unfold bL zL padL tailL
  rw [List.take_of_length_le (by rw [lenL_len]; exact Nat.le_refl _), List.append_assoc]
  rfl
theorem bL_zero (l : List UInt8) (m : Nat) : bL l m 0 = zL l (zerosN l.length) := by unfold bL; simp
theorem cells_snoc (l : List UInt8) (c : UInt8) : cellsOf l ++ [Value.int .u8 (c.toNat : Int)] = cellsOf (l ++ [c]) := by simp [cellsOf]
theorem cells_new1 (w : World) (c : UInt8) : ∀ j u, ([Value.int .u8 (c.toNat : Int)] : List Value)[j]? = some u → (w.alloc (.cells #[.int .u8 (c.toNat : Int)] 5)).cell? ((⟨w.heap.size, 0, none⟩ : Addr).add j) = some u := bytes_new w [c]

/-- One byte is appended to a row of the call's own. -/
theorem append_byte {ops : Array Oper} {rest : List Oper} {o : Oper} {a : Act} {Q : Exit → Act → World → Prop} {w : World} (hgd : o.guard = none) (s x : Operand)
    (ho : o.op = .call { callee := .builtin .append, args := #[s, x], argTypes := #[36, 36] }) {base n : Nat} {v : Value} {l : List UInt8} (hs : a.eval s = v) (hown : w.ownsRow base 5 1 v n (cellsOf l)) (c : UInt8)
    (ad : Addr) (hx : a.eval x = .slice (some ad) 1 1) (hc : ∀ j u, ([Value.int .u8 (c.toNat : Int)] : List Value)[j]? = some u → w.cell? (ad.add j) = some u) (hn : n ≤ 1000000500) (hb : base ≤ w.heap.size)
    (h : ∀ g' cap' w', w'.ownsRow base 5 1 (.slice (some ⟨g', 0, none⟩) (n + 1) cap') (n + 1) (cellsOf (l ++ [c])) → w.grownBy w' v.ownBlock → wpList Tryd.prog ops Q rest (a.put o.dst (.slice (some ⟨g', 0, none⟩) (n + 1) cap')) w') : wpList Tryd.prog ops Q (o :: rest) a w := by
  obtain ⟨i0, hi, hz0, hz1, hz2⟩ := info_parts info5
  refine wpList_append_own _ hgd s x 36 ho base 5 i0 (.int .u8 0) 1 1 Tryd.underlying36 hi hz0 hz1 hz2 rfl (by decide) v n (cellsOf l) hs hown ad 1 1 _ hx rfl hc (fun u hu => by simp at hu; subst hu; rfl) (by unfold maxLen; omega) (by omega) hb ?_
  intro v' w' h1 h2 _
  obtain ⟨g', cap', rfl⟩ := own_form h1 (by omega)
  rw [cells_snoc] at h1
  exact h g' cap' w' h1 h2

set_option maxHeartbeats 1600000 in
theorem padR_any (l : List UInt8) (n g cap : Nat) (hn : l.length = n) (hs : n ≤ 1000000000) (w : World) (hc : ∀ j u, (cellsOf l)[j]? = some u → w.cell? ((⟨g, 0, none⟩ : Addr).add j) = some u) :
    Calls Tryd.prog 22 #[.slice (some ⟨g, 0, none⟩) n cap] w fun e w' => ∃ g' cap', e = .returned (.slice (some ⟨g', 0, none⟩) (padL l).length cap') ∧ w'.ownsRow w.heap.size 5 1 (.slice (some ⟨g', 0, none⟩) (padL l).length cap') (padL l).length (cellsOf (padL l)) ∧ Below w.heap.size w w' := by
  obtain ⟨i0, hi, hz0, hz1, hz2⟩ := info_parts info5
  have hn := Lib.hid hn
  have h0 : Hid ((w.alloc (.cells #[] 5)).ownsRow w.heap.size 5 1 (.slice (some ⟨w.heap.size, 0, none⟩) 0 0) 0 []) := World.ownsRow_lit w #[] 0 (Nat.le_refl _) (by unfold maxLen; omega) rfl
  have hcl : Hid (∀ j u, (cellsOf l)[j]? = some u → (w.alloc (.cells #[] 5)).cell? ((⟨g, 0, none⟩ : Addr).add j) = some u) := fun j u hj => keep_alloc (hc j u hj) _
  have hll : Hid ((cellsOf l).length = n * 1) := by show _ = _; rw [cellsOf_len, hn.out, Nat.mul_one]
  have h1 := cellsOf_one l
  have hb0 := Lib.hid ((Below.refl w.heap.size w).alloc (Nat.le_refl _) (.cells #[] 5))
  have hm8 : IntKind.u64.wrap (8 * (n : Int)) = 8 * (n : Int) := by simp only [IntKind.wrap, IntKind.bits, IntKind.signed]; simp; omega
  have hm1 : IntKind.u64.wrap (n : Int) = (n : Int) := by simp only [IntKind.wrap, IntKind.bits, IntKind.signed]; simp; omega
  have HM := Lib.hid (And.intro hm8 hm1)
  clear hc hm8 hm1
  go_enter Tryd.func22, Tryd.ntmps22
  go_upto_region 2 with (at_builtin; refine wpList_append_own _ rfl (.tmp 6) (.tmp 7) 36 rfl w.heap.size 5 i0 (.int .u8 0) 1 1 Tryd.underlying36 hi hz0 hz1 hz2 rfl (by decide) _ 0 [] rfl h0.out ⟨g, 0, none⟩ n cap (cellsOf l) rfl hll.out hcl.out h1 (by unfold maxLen; omega) (by omega) (by simp) ?_; intro v1 w1 hown1 hgrow1 hnil1)
  have hW1 : Hid (w1.ownsRow w.heap.size 5 1 v1 n (cellsOf l) ∧ Below w.heap.size w w1) := by
    refine ⟨?_, hb0.out.grown hgrow1 (by simp) (fun k hk => Nat.le_of_eq (Option.some.inj (show some w.heap.size = some k from hk)))⟩
    rw [Nat.zero_add, List.nil_append] at hown1
    exact hown1
  clear hown1 hgrow1 hnil1 h0 hcl hll h1 hb0
  have hs1 : w.heap.size ≤ w1.heap.size := hW1.out.2.size
  go_upto_region 3 with (at_builtin; refine append_byte rfl (.tmp 9) (.tmp 10) rfl rfl (hW1.out.1.alloc _) 128 ⟨w1.heap.size, 0, none⟩ rfl (cells_new1 w1 128) (by omega) (by simp; omega) ?_; intro g2 cap2 w2 hown2 hgrow2)
  have hW2 : Hid (w2.ownsRow w.heap.size 5 1 (.slice (some ⟨g2, 0, none⟩) (n + 1) cap2) (n + 1 + 0) (cellsOf (zL l 0)) ∧ Below w.heap.size w w2) := by
    refine ⟨?_, (hW1.out.2.alloc hs1 _).grown hgrow2 (by simp; omega) (fun k hk => (hW1.out.1.lt k hk).1)⟩
    rw [show zL l 0 = l ++ [128] from rfl]
    exact hown2
  clear hown2 hgrow2 hW1 hs1
  go_loopw [3] (fun v wr => ∃ k g cap : Nat, k ≤ zerosN n ∧ v = .slice (some ⟨g, 0, none⟩) (n + 1 + k) cap ∧ wr.ownsRow w.heap.size 5 1 v (n + 1 + k) (cellsOf (zL l k)) ∧ Below w.heap.size w wr)
    (fun v _ => match v with | .slice _ m _ => n + 200 - m | _ => 0)
  case atStart => exact ⟨0, g2, cap2, Nat.zero_le _, rfl, hW2.out.1, hW2.out.2⟩
  case round =>
    clear hW2
    obtain ⟨k, g3, cap3, hk, rfl, hown, hbel⟩ := hrel
    have hW := Lib.hid (And.intro hown hbel)
    clear hown hbel
    unfold zerosN at hk
    have hs1 : Hid (w.heap.size ≤ wr.heap.size) := hW.out.2.size
    by_cases hlt : k < (119 - n % 64) % 64
    · have hne : ((((n : Int) + 1 + (k : Int)) % 64) != 56) = true := by rw [bne_iff_ne]; omega
      have hk2 : k + 1 ≤ (119 - n % 64) % 64 := by omega
      have hk3 : k < 64 := by omega
      clear hlt hk
      go_upto_region 4 with fail
      go_wp2_with (at_builtin; refine append_byte rfl (.tmp 16) (.tmp 17) rfl rfl (hW.out.1.alloc _) 0 ⟨wr.heap.size, 0, none⟩ rfl (cells_new1 wr 0) (by omega) (by have := hs1.out; simp; omega) ?_; intro g5 cap5 w5 hown5 hgrow5)
      have hW5 : Hid (w5.ownsRow w.heap.size 5 1 (.slice (some ⟨g5, 0, none⟩) (n + 1 + (k + 1)) cap5) (n + 1 + (k + 1)) (cellsOf (zL l (k + 1))) ∧ Below w.heap.size w w5) := by
        refine ⟨?_, (hW.out.2.alloc hs1.out _).grown hgrow5 (by have := hs1.out; simp; omega) (fun k hk => (hW.out.1.lt k hk).1)⟩
        rw [← zL_succ]
        exact hown5
      clear hown5 hgrow5 hW
      go_wp2_with fail
      go_roundw
      case rel => exact ⟨k + 1, g5, cap5, by unfold zerosN; exact hk2, rfl, hW5.out.1, hW5.out.2⟩
      case measure => simp; omega
    · have ek : k = (119 - n % 64) % 64 := by omega
      have hne : ((((n : Int) + 1 + (k : Int)) % 64) != 56) = false := by rw [bne_eq_false_iff_eq]; omega
      have hW6 : Hid (wr.ownsRow w.heap.size 5 1 (.slice (some ⟨g3, 0, none⟩) (n + 1 + k) cap3) (n + 1 + k) (cellsOf (bL l n 0)) ∧ Below w.heap.size w wr) := by
        refine ⟨?_, hW.out.2⟩
        rw [bL_zero, hn.out, show zerosN n = k from ek.symm]
        exact hW.out.1
      have hm8 := HM.out.1
      have hm1 := HM.out.2
      have hk3 : n + 1 + k ≤ 1000000100 := by omega
      have HT : Hid (n + 1 + k + 8 = (padL l).length) := by
        show _ = _
        rw [← bL_pad, bL_len _ _ _ (Nat.le_refl _), hn.out, show zerosN n = k from ek.symm]
      clear hW ek hlt hk
      go_wp2_with fail
      clear hm8 hm1 HM
      obtain ⟨m, hm⟩ : ∃ m, n + 1 + k = m := ⟨_, rfl⟩
      rw [hm] at hW6 hk3 HT
      rw [hm]
      clear hm
      go_loopw [3, 5] (fun v j wr => ∃ i g cap : Nat, i ≤ 8 ∧ j = .int .i64 (56 - 8 * (i : Int)) ∧ v = .slice (some ⟨g, 0, none⟩) (m + i) cap ∧ wr.ownsRow w.heap.size 5 1 v (m + i) (cellsOf (bL l n i)) ∧ Below w.heap.size w wr)
        (fun _ j _ => (intOf j + 8).toNat)
      case atStart => exact ⟨0, g3, cap3, Nat.zero_le _, rfl, rfl, hW6.out.1, hW6.out.2⟩
      case round =>
        clear hW6
        obtain ⟨i, g3, cap3, hi8, rfl, rfl, hown, hbel⟩ := hrel
        have hW := Lib.hid (And.intro hown hbel)
        clear hown hbel
        have hs1 : Hid (w.heap.size ≤ wr.heap.size) := hW.out.2.size
        by_cases hlt : i < 8
        · have ht : (56 - 8 * (i : Int)).toNat = 56 - 8 * i := by omega
          obtain ⟨c, hc⟩ : ∃ c, UInt8.ofNat (8 * n / 2 ^ (56 - 8 * i)) = c := ⟨_, rfl⟩
          have hx := lenByte8 n (56 - 8 * i)
          have hS : Hid (bL l n i ++ [c] = bL l n (i + 1)) := by rw [← hc]; exact bL_succ _ _ _ hlt
          rw [hc] at hx
          clear hc
          have hx' := hx
          rw [IntKind.wrap_u8] at hx'
          have hlt' : 0 ≤ 56 - 8 * (i : Int) := by omega
          go_upto_region 9 with fail
          go_upto_region 8 with (at_builtin; refine append_byte rfl (.tmp 27) (.tmp 32) rfl rfl (hW.out.1.alloc _) c ⟨wr.heap.size, 0, none⟩ rfl (cells_new1 wr c) (by omega) (by have := hs1.out; simp; omega) ?_; intro g5 cap5 w5 hown5 hgrow5)
          have hW5 : Hid (w5.ownsRow w.heap.size 5 1 (.slice (some ⟨g5, 0, none⟩) (m + (i + 1)) cap5) (m + (i + 1)) (cellsOf (bL l n (i + 1))) ∧ Below w.heap.size w w5) := by
            refine ⟨?_, (hW.out.2.alloc hs1.out _).grown hgrow5 (by have := hs1.out; simp; omega) (fun k hk => (hW.out.1.lt k hk).1)⟩
            rw [← hS.out]
            exact hown5
          clear hown5 hgrow5 hW hx hx' ht hlt'
          go_wp2_with fail
          go_roundw
          case rel => exact ⟨i + 1, g5, cap5, by omega, by go_num, rfl, hW5.out.1, hW5.out.2⟩
          case measure => simp [intOf]; omega
        · have ei : i = 8 := by omega
          have hW9 : Hid (wr.ownsRow w.heap.size 5 1 (.slice (some ⟨g3, 0, none⟩) (m + 8) cap3) (m + 8) (cellsOf (padL l)) ∧ Below w.heap.size w wr) := by
            have h := hW.out
            rw [ei] at h
            rw [← bL_pad, hn.out]
            exact h
          rw [show 56 - 8 * (i : Int) = -8 by omega, ei]
          clear hW ei hlt hi8 i
          go_wp2_with fail
          go_ret
          have h := hW9.out
          rw [HT.out] at h
          exact ⟨g3, cap3, by rw [← HT.out]; rfl, h.1, h.2⟩
end Go.Proofs.YtddcephegpmbbaaDoor
