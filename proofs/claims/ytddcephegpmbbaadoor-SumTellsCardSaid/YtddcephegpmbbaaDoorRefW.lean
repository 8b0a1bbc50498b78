/- The reference's tables and words of a block. -/
import Derived.Test.YtddcephegpmbbaaDoorRefQ
import Derived.Test.YtddcephegpmbbaaDoorSched
import Derived.Deep.RegionLaw
namespace Go.Proofs.YtddcephegpmbbaaDoor
open Go.ChangeShapes Go.WideShapes Go.ChangeAt Go.RowKit

theorem firstsR_any (w : World) : Calls Tryd.prog 23 #[] w fun e w' => e = .returned (.slice (some ⟨w.heap.size, 0, none⟩) 8 8) ∧ w' = w.alloc (.cells (wordsV (words8 sha0)).toArray 27) := by
  go_enter Tryd.func23, Tryd.ntmps23
  go_wp2
  go_ret
  exact ⟨rfl, rfl⟩
set_option maxRecDepth 100000 in
theorem addsR_any (w : World) : Calls Tryd.prog 31 #[] w fun e w' => e = .returned (.slice (some ⟨w.heap.size, 0, none⟩) 64 64) ∧ w' = w.alloc (.cells (wordsV shaK).toArray 27) := by
  go_enter Tryd.func31, Tryd.ntmps31
  go_wp2
  go_ret
  exact ⟨rfl, rfl⟩
theorem info27 : (Tryd.prog.info? 27).map (fun i => (i.zero, i.size, i.bytes)) = some (some (.int .u32 0), 1, 4) := by kernel_rfl
theorem words_len (l : List UInt32) : (wordsV l).length = l.length := List.length_map _
theorem words_one (l : List UInt32) : ∀ u ∈ wordsV l, u.oneCell' = true := by
  intro u hu
  obtain ⟨c, _, rfl⟩ := List.mem_map.1 hu
  rfl
theorem words_snoc (l : List UInt32) (x : UInt32) : wordsV l ++ [Value.int .u32 (V x)] = wordsV (l ++ [x]) := by simp [wordsV, wv]
theorem words_get (l : List UInt32) (j : Nat) (h : j < l.length) : (wordsV l)[j]? = some (.int .u32 (V (l.getD j 0))) := by
  rw [wordsV, List.getElem?_map, List.getD_eq_getElem?_getD, List.getElem?_eq_getElem h]; rfl
theorem words_new1 (w : World) (x : UInt32) : ∀ j u, ([Value.int .u32 (V x)] : List Value)[j]? = some u → (w.alloc (.cells #[.int .u32 (V x)] 27)).drew.cell? ((⟨w.heap.size, 0, none⟩ : Addr).add j) = some u := by
  intro j u hj
  cases j with
  | zero =>
    simp at hj
    subst hj
    show (w.alloc (.cells #[.int .u32 (V x)] 27)).cell? _ = _
    simp [Addr.add]
  | succ j => simp at hj
theorem below_own {w w' : World} {base : Nat} {e : TypeId} {size : Nat} {v : Value} {n : Nat} {xs : List Value} (h : w.ownsRow base e size v n xs) (hb : Below w.heap.size w w') : w'.ownsRow base e size v n xs := by
  refine ⟨h.1, ?_⟩
  rcases h.2 with h2 | ⟨g, cap, cur, hv, hg, hrow, rest⟩
  · exact Or.inl h2
  · exact Or.inr ⟨g, cap, cur, hv, hg, by rw [hb.block _ (Array.getElem?_eq_some_iff.1 hrow).1]; exact hrow, rest⟩
/-- The bytes l lie in block g from off on. -/
def BytesAt (g off : Nat) (l : List UInt8) (w : World) : Prop := ∀ j, j < 64 → w.cell? ⟨g, off + j, none⟩ = some (.int .u8 ((l.getD j 0).toNat : Int))
theorem BytesAt.lt {g off : Nat} {l : List UInt8} {w : World} (h : BytesAt g off l w) : g < w.heap.size := World.block_lt_of_cell? w _ (h 0 (by omega))
theorem BytesAt.same {g off : Nat} {l : List UInt8} {w w' : World} (h : BytesAt g off l w) (hb : w'.heap[g]? = w.heap[g]?) : BytesAt g off l w' := fun j hj => by
  rw [World.cell?_of_block (by exact hb)]; exact h j hj
theorem BytesAt.below {g off : Nat} {l : List UInt8} {w w' : World} (h : BytesAt g off l w) (hb : Below w.heap.size w w') : BytesAt g off l w' := h.same (hb.block _ h.lt)

/-- The memory while the words are made. -/
structure WdW (W : World) (g off : Nat) (l : List UInt8) (v : Value) (n : Nat) (w : World) : Prop where
  src : BytesAt g off l w
  own : w.ownsRow W.heap.size 27 1 v n (wordsV (sched l n))
  bel : Below W.heap.size W w
  far : g < W.heap.size
theorem WdW.drewN {W w : World} {g off : Nat} {l : List UInt8} {v : Value} {n : Nat} (h : WdW W g off l v n w) (k : Nat) : WdW W g off l v n (w.drewN k) := ⟨h.src, h.own, ⟨h.bel.os, h.bel.tape, h.bel.output, h.bel.size, h.bel.block⟩, h.far⟩

theorem turn2 (x : UInt32) (w : World) : Calls Tryd.prog 32 #[.int .u32 (V x), .int .i64 2] w fun e w' => e = .returned (.int .u32 (V (rotr x 2))) ∧ ∃ k, w' = w.drewN k := turnR_any x 2 (by decide) (by decide) w
theorem turn6 (x : UInt32) (w : World) : Calls Tryd.prog 32 #[.int .u32 (V x), .int .i64 6] w fun e w' => e = .returned (.int .u32 (V (rotr x 6))) ∧ ∃ k, w' = w.drewN k := turnR_any x 6 (by decide) (by decide) w
theorem turn7 (x : UInt32) (w : World) : Calls Tryd.prog 32 #[.int .u32 (V x), .int .i64 7] w fun e w' => e = .returned (.int .u32 (V (rotr x 7))) ∧ ∃ k, w' = w.drewN k := turnR_any x 7 (by decide) (by decide) w
theorem turn11 (x : UInt32) (w : World) : Calls Tryd.prog 32 #[.int .u32 (V x), .int .i64 11] w fun e w' => e = .returned (.int .u32 (V (rotr x 11))) ∧ ∃ k, w' = w.drewN k := turnR_any x 11 (by decide) (by decide) w
theorem turn13 (x : UInt32) (w : World) : Calls Tryd.prog 32 #[.int .u32 (V x), .int .i64 13] w fun e w' => e = .returned (.int .u32 (V (rotr x 13))) ∧ ∃ k, w' = w.drewN k := turnR_any x 13 (by decide) (by decide) w
theorem turn17 (x : UInt32) (w : World) : Calls Tryd.prog 32 #[.int .u32 (V x), .int .i64 17] w fun e w' => e = .returned (.int .u32 (V (rotr x 17))) ∧ ∃ k, w' = w.drewN k := turnR_any x 17 (by decide) (by decide) w
theorem turn18 (x : UInt32) (w : World) : Calls Tryd.prog 32 #[.int .u32 (V x), .int .i64 18] w fun e w' => e = .returned (.int .u32 (V (rotr x 18))) ∧ ∃ k, w' = w.drewN k := turnR_any x 18 (by decide) (by decide) w
theorem turn19 (x : UInt32) (w : World) : Calls Tryd.prog 32 #[.int .u32 (V x), .int .i64 19] w fun e w' => e = .returned (.int .u32 (V (rotr x 19))) ∧ ∃ k, w' = w.drewN k := turnR_any x 19 (by decide) (by decide) w
theorem turn22 (x : UInt32) (w : World) : Calls Tryd.prog 32 #[.int .u32 (V x), .int .i64 22] w fun e w' => e = .returned (.int .u32 (V (rotr x 22))) ∧ ∃ k, w' = w.drewN k := turnR_any x 22 (by decide) (by decide) w
theorem turn25 (x : UInt32) (w : World) : Calls Tryd.prog 32 #[.int .u32 (V x), .int .i64 25] w fun e w' => e = .returned (.int .u32 (V (rotr x 25))) ∧ ∃ k, w' = w.drewN k := turnR_any x 25 (by decide) (by decide) w
theorem sched_next (l : List UInt8) (n : Nat) (x : UInt32) (h : nextW l (sched l n) n = x) : wordsV (sched l n) ++ [Value.int .u32 (V x)] = wordsV (sched l (n + 1)) := by
  rw [words_snoc, sched, h]
theorem own_word {w : World} {base g cap n j : Nat} {l : List UInt32} (h : w.ownsRow base 27 1 (.slice (some ⟨g, 0, none⟩) n cap) n (wordsV l)) (hn : l.length = n) (hj : j < n) : w.cell? ⟨g, j, none⟩ = some (.int .u32 (V (l.getD j 0))) := by
  rw [h.cellAt j (by omega)]
  exact words_get l j (by omega)
theorem WdW.next {W w w2 : World} {g off : Nat} {l : List UInt8} {v v2 : Value} {n : Nat} {x : UInt32} {o : Obj} (h : WdW W g off l v n w) (hx : nextW l (sched l n) n = x)
    (ho : w2.ownsRow W.heap.size 27 1 v2 (n + 1) (wordsV (sched l n) ++ [Value.int .u32 (V x)])) (hg : (w.drew.alloc o).grownBy w2 v.ownBlock) : WdW W g off l v2 (n + 1) w2 := by
  have hf := h.far
  have hs := h.bel.size
  have hnb : some g ≠ v.ownBlock := fun h2 => by
    have := (h.own.lt _ h2.symm).1
    omega
  have e : w2.heap[g]? = w.heap[g]? := (hg.block _ (by simp; omega) hnb).trans (Below.heap_alloc w.drew _ _ (by show g < w.heap.size; omega))
  refine ⟨h.src.same e, ?_, ((h.bel.alloc hs o).drew).grown hg (by simp; omega) (fun k hk => (h.own.lt k hk).1), hf⟩
  rw [← sched_next l n x hx]
  exact ho

set_option maxRecDepth 100000 in
set_option maxHeartbeats 3200000 in
theorem wordsR_any (l : List UInt8) (g off cap : Nat) (w : World) (hsrc : BytesAt g off l w) :
    Calls Tryd.prog 30 #[.slice (some ⟨g, off, none⟩) 64 cap] w fun e w' => ∃ g' cap', e = .returned (.slice (some ⟨g', 0, none⟩) 64 cap') ∧ w'.ownsRow w.heap.size 27 1 (.slice (some ⟨g', 0, none⟩) 64 cap') 64 (wordsV (sched l 64)) ∧ Below w.heap.size w w' := by
  obtain ⟨i0, hi, hz0, hz1, hz2⟩ := info_parts info27
  have hS := Lib.hid hsrc
  clear hsrc
  go_enter Tryd.func30, Tryd.ntmps30
  go_wp2_with fail
  go_loopw [3, 4] (fun v i wr => ∃ k : Nat, k ≤ 16 ∧ i = .int .i64 k ∧ WdW w g off l v k wr) (fun _ i _ => 16 - (intOf i).toNat)
  case atStart => exact ⟨0, Nat.zero_le _, rfl, hS.out, World.ownsRow_nil _ _ _ _, Below.refl _ _, hS.out.lt⟩
  case round =>
    clear hS
    obtain ⟨k, hk, rfl, H⟩ := hrel
    have HH := Lib.hid H
    clear H
    by_cases hlt : k < 16
    · go_wp2_with fail
      have hx : nextW l (sched l k) k = wordAt l k := by rw [nextW, if_pos hlt]
      have h0 : wr.drew.cell? ⟨g, off + 4 * k, none⟩ = _ := HH.out.src (4 * k) (by omega)
      have h1 : wr.drew.cell? ⟨g, off + (4 * k + 1), none⟩ = _ := HH.out.src (4 * k + 1) (by omega)
      have h2 : wr.drew.cell? ⟨g, off + (4 * k + 2), none⟩ = _ := HH.out.src (4 * k + 2) (by omega)
      have h3 : wr.drew.cell? ⟨g, off + (4 * k + 3), none⟩ = _ := HH.out.src (4 * k + 3) (by omega)
      unfold wordAt at hx
      obtain ⟨b0, e0⟩ : ∃ b, l.getD (4 * k) 0 = b := ⟨_, rfl⟩
      obtain ⟨b1, e1⟩ : ∃ b, l.getD (4 * k + 1) 0 = b := ⟨_, rfl⟩
      obtain ⟨b2, e2⟩ : ∃ b, l.getD (4 * k + 2) 0 = b := ⟨_, rfl⟩
      obtain ⟨b3, e3⟩ : ∃ b, l.getD (4 * k + 3) 0 = b := ⟨_, rfl⟩
      rw [e0] at h0 hx
      rw [e1] at h1 hx
      rw [e2] at h2 hx
      rw [e3] at h3 hx
      clear e0 e1 e2 e3
      have HX := Lib.hid hx
      clear hx
      have m0 : IntKind.i64.wrap (4 * (k : Int)) = 4 * (k : Int) := IntWalk.i64_in _ (by omega)
      have m1 : IntKind.i64.wrap (4 * (k : Int) + 1) = 4 * (k : Int) + 1 := IntWalk.i64_in _ (by omega)
      have m2 : IntKind.i64.wrap (4 * (k : Int) + 2) = 4 * (k : Int) + 2 := IntWalk.i64_in _ (by omega)
      have m3 : IntKind.i64.wrap (4 * (k : Int) + 3) = 4 * (k : Int) + 3 := IntWalk.i64_in _ (by omega)
      have n0 : (4 * (k : Int)).toNat = 4 * k := by omega
      have n1 : (4 * (k : Int) + 1).toNat = 4 * k + 1 := by omega
      have n2 : (4 * (k : Int) + 2).toNat = 4 * k + 2 := by omega
      have n3 : (4 * (k : Int) + 3).toNat = 4 * k + 3 := by omega
      have p0 : 0 ≤ 4 * (k : Int) := by omega
      have p1 : 0 ≤ 4 * (k : Int) + 1 := by omega
      have p2 : 0 ≤ 4 * (k : Int) + 2 := by omega
      have p3 : 0 ≤ 4 * (k : Int) + 3 := by omega
      have q0 : 4 * (k : Int) < 64 := by omega
      have q1 : 4 * (k : Int) + 1 < 64 := by omega
      have q2 : 4 * (k : Int) + 2 < 64 := by omega
      have q3 : 4 * (k : Int) + 3 < 64 := by omega
      have c0 := conv_V b0
      have c1 := conv_V b1
      have c2 := conv_V b2
      have c3 := conv_V b3
      have s0 : IntKind.u32.wrap (V b0.toUInt32 * 16777216) = V (b0.toUInt32 <<< 24) := shl_V b0.toUInt32 24 (by decide)
      have s1 : IntKind.u32.wrap (V b1.toUInt32 * 65536) = V (b1.toUInt32 <<< 16) := shl_V b1.toUInt32 16 (by decide)
      have s2 : IntKind.u32.wrap (V b2.toUInt32 * 256) = V (b2.toUInt32 <<< 8) := shl_V b2.toUInt32 8 (by decide)
      have o := or_V
      obtain ⟨x, hxx⟩ : ∃ x, ((b0.toUInt32 <<< 24 ||| b1.toUInt32 <<< 16) ||| b2.toUInt32 <<< 8) ||| b3.toUInt32 = x := ⟨_, rfl⟩
      have hb : Hid (w.heap.size ≤ wr.heap.size) := HH.out.bel.size
      have hnb : some g ≠ u3.ownBlock := fun h => by
        have := (HH.out.own.lt _ h.symm).1
        have := HH.out.far
        omega
      go_region_held3 (fun w' => w'.cell? ⟨g, off + 4 * k, none⟩ = some (.int .u8 (b0.toNat : Int)) ∧ w'.cell? ⟨g, off + (4 * k + 1), none⟩ = some (.int .u8 (b1.toNat : Int)) ∧ w'.cell? ⟨g, off + (4 * k + 2), none⟩ = some (.int .u8 (b2.toNat : Int)) ∧ w'.cell? ⟨g, off + (4 * k + 3), none⟩ = some (.int .u8 (b3.toNat : Int)))
        (first | exact ⟨h0, h1, h2, h3⟩ | exact ⟨keep_alloc h0 _, keep_alloc h1 _, keep_alloc h2 _, keep_alloc h3 _⟩ | exact ⟨hgrow2.cell (keep_alloc h0 _) hnb, hgrow2.cell (keep_alloc h1 _) hnb, hgrow2.cell (keep_alloc h2 _) hnb, hgrow2.cell (keep_alloc h3 _) hnb⟩)
        (first | (refine step_append_own rfl (.tmp 14) (.tmp 48) 48 rfl w.heap.size 27 i0 (.int .u32 0) 1 4 Tryd.underlying48 hi hz0 hz1 hz2 rfl (by decide) _ k (wordsV (sched l k)) rfl ((HH.out.own.alloc _).drew) ⟨wr.heap.size, 0, none⟩ 1 1 [.int .u32 (V x)] rfl rfl (words_new1 _ _) (fun u hu => by simp at hu; subst hu; rfl) (by unfold maxLen; omega) (by omega) (by have := hb.out; simp; omega) ?_; intro v2 w2 hown2 hgrow2))
      all_goals go_wp2_with fail
      all_goals go_roundw
      all_goals first
        | exact ⟨k + 1, by omega, by go_num, HH.out.next (HX.out.trans hxx) hown2 hgrow2⟩
        | (simp [intOf]; omega)
    · have ek : k = 16 := by omega
      rw [ek] at HH
      rw [show (k : Int) = 16 by omega]
      clear ek hlt hk k
      obtain ⟨g3, cap3, rfl⟩ := own_form HH.out.own (by omega)
      go_wp2_with fail
      go_loopw [3, 5] (fun v i wr => ∃ u g3 cap3 : Nat, u ≤ 48 ∧ i = .int .i64 ((u : Int) + 16) ∧ v = .slice (some ⟨g3, 0, none⟩) (u + 16) cap3 ∧ WdW w g off l v (u + 16) wr) (fun _ i _ => 64 - (intOf i).toNat)
      case atStart => exact ⟨0, g3, cap3, Nat.zero_le _, rfl, rfl, HH.out⟩
      case round =>
        clear HH
        obtain ⟨u, g3, cap3, hu, rfl, rfl, H⟩ := hrel
        have HH := Lib.hid H
        clear H
        by_cases hlt : u < 48
        · have hl := sched_len l (u + 16)
          have g0 := own_word HH.out.own hl (show u < u + 16 by omega)
          have g1 := own_word HH.out.own hl (show u + 1 < u + 16 by omega)
          have g9 := own_word HH.out.own hl (show u + 9 < u + 16 by omega)
          have g14 := own_word HH.out.own hl (show u + 14 < u + 16 by omega)
          have hx : nextW l (sched l (u + 16)) (u + 16) = small1 ((sched l (u + 16)).getD (u + 14) 0) + (sched l (u + 16)).getD (u + 9) 0 + small0 ((sched l (u + 16)).getD (u + 1) 0) + (sched l (u + 16)).getD u 0 := by
            rw [nextW, if_neg (by omega)]; rfl
          obtain ⟨x0, e0⟩ : ∃ b, (sched l (u + 16)).getD u 0 = b := ⟨_, rfl⟩
          obtain ⟨x1, e1⟩ : ∃ b, (sched l (u + 16)).getD (u + 1) 0 = b := ⟨_, rfl⟩
          obtain ⟨x9, e9⟩ : ∃ b, (sched l (u + 16)).getD (u + 9) 0 = b := ⟨_, rfl⟩
          obtain ⟨x14, e14⟩ : ∃ b, (sched l (u + 16)).getD (u + 14) 0 = b := ⟨_, rfl⟩
          rw [e0] at g0 hx
          rw [e1] at g1 hx
          rw [e9] at g9 hx
          rw [e14] at g14 hx
          obtain ⟨x, hxx⟩ : ∃ x, x0 + small0 x1 + x9 + small1 x14 = x := ⟨_, rfl⟩
          have HX : Hid (nextW l (sched l (u + 16)) (u + 16) = x) := by
            show _ = _
            rw [hx, ← hxx, UInt32.add_comm (small1 x14) x9, UInt32.add_assoc, UInt32.add_comm (x9 + small1 x14), UInt32.add_comm (small0 x1) x0, UInt32.add_assoc (x0 + small0 x1)]
          have HXX := Lib.hid hxx
          clear e0 e1 e9 e14 hx hxx hl
          have e15 : IntKind.i64.wrap ((u : Int) + 16 - 15) = (u : Int) + 1 := by rw [IntWalk.i64_in _ (by omega)]; omega
          have e2 : IntKind.i64.wrap ((u : Int) + 16 - 2) = (u : Int) + 14 := by rw [IntWalk.i64_in _ (by omega)]; omega
          have n1 : ((u : Int) + 1).toNat = u + 1 := by omega
          have n14 : ((u : Int) + 14).toNat = u + 14 := by omega
          have qx := xor_V
          have q3 := shr3 x1
          have q10 := shr10 x14
          go_wp2_with fail
          refine (turn7 x1 _).mono ?_
          rintro r w1 ⟨rfl, k1, rfl⟩
          go_wp2_with fail
          refine (turn18 x1 _).mono ?_
          rintro r w1 ⟨rfl, k2, rfl⟩
          go_wp2_with fail
          refine (turn17 x14 _).mono ?_
          rintro r w1 ⟨rfl, k3, rfl⟩
          go_wp2_with fail
          refine (turn19 x14 _).mono ?_
          rintro r w1 ⟨rfl, k4, rfl⟩
          go_wp2_with fail
          rw [show rotr x1 7 ^^^ rotr x1 18 ^^^ x1 >>> 3 = small0 x1 from rfl, show rotr x14 17 ^^^ rotr x14 19 ^^^ x14 >>> 10 = small1 x14 from rfl]
          clear qx q3 q10 e15 e2 n1 n14 g1 g14
          have H5 := Lib.hid (HH.out.drewN (k1 + k2 + k3 + k4))
          replace g0 : (wr.drewN (k1 + k2 + k3 + k4)).drew.cell? ⟨g3, u, none⟩ = some (.int .u32 (V x0)) := g0
          replace g9 : (wr.drewN (k1 + k2 + k3 + k4)).drew.cell? ⟨g3, u + 9, none⟩ = some (.int .u32 (V x9)) := g9
          obtain ⟨w5, hw5⟩ : ∃ w5, wr.drewN (k1 + k2 + k3 + k4) = w5 := ⟨_, rfl⟩
          rw [hw5] at H5 g0 g9
          rw [hw5]
          clear hw5 HH
          have hv0 : IntKind.i64.wrap ((u : Int) + 16 - 7) = (u : Int) + 9 := by rw [IntWalk.i64_in _ (by omega)]; omega
          have hv1 : IntKind.i64.wrap ((u : Int) + 16 - 16) = (u : Int) := by rw [IntWalk.i64_in _ (by omega)]; omega
          have hv2 : IntKind.i64.wrap (u : Int) = (u : Int) := IntWalk.i64_in _ (by omega)
          have n9 : ((u : Int) + 9).toNat = u + 9 := by omega
          have ha := add_V
          have j0 : 0 ≤ (u : Int) + 9 := by omega
          have j1 : (u : Int) + 9 < (u : Int) + 16 := by omega
          have j2 : 0 ≤ (u : Int) := by omega
          have j3 : (u : Int) < (u : Int) + 16 := by omega
          have hb : Hid (w.heap.size ≤ w5.heap.size) := H5.out.bel.size
          have hxx := HXX.out
          go_region_law (refine step_append_own rfl (.tmp 80) (.tmp 96) 48 rfl w.heap.size 27 i0 (.int .u32 0) 1 4 Tryd.underlying48 hi hz0 hz1 hz2 rfl (by decide) _ (u + 16) (wordsV (sched l (u + 16))) rfl ((H5.out.own.alloc _).drew) ⟨w5.heap.size, 0, none⟩ 1 1 [.int .u32 (V x)] rfl rfl (words_new1 _ _) (fun u hu => by simp at hu; subst hu; rfl) (by unfold maxLen; omega) (by omega) (by have := hb.out; simp; omega) ?_; intro v2 w2 hown2 hgrow2; obtain ⟨g4, cap4, rfl⟩ := own_form hown2 (by omega))
          all_goals go_wp2_with fail
          all_goals go_roundw
          all_goals first
            | exact ⟨u + 1, g4, cap4, by omega, by go_num, rfl, by rw [show u + 1 + 16 = u + 16 + 1 by omega]; exact H5.out.next HX.out hown2 hgrow2⟩
            | (simp [intOf]; omega)
        · have eu : u = 48 := by omega
          rw [eu] at HH
          rw [show (u : Int) + 16 = 64 by omega, eu]
          clear eu hlt hu u
          go_wp2_with fail
          go_ret
          exact ⟨g3, cap3, rfl, HH.out.own, HH.out.bel⟩
end Go.Proofs.YtddcephegpmbbaaDoor
