/- SumOrder: what Hex writes Read reads, Read takes nothing else, and Less is the order of the digits. -/
import Derived.Test.YtddcephegpmbbaaDoorOrd
import Derived.Test.YtddcephegpmbbaaDoorSmall
namespace Go.Proofs.YtddcephegpmbbaaDoor
open Go.ChangeShapes Go.WideShapes Go.ChangeAt Go.RowKit

/-- Digests in blocks of their own. -/
structure OrS (W : World) (rows : List (Nat × List UInt8)) (w : World) : Prop where
  row : ∀ p ∈ rows, w.heap[p.1]? = some (.cells (cellsOf p.2).toArray 23 (0, 0))
  var : Vars w
  bel : Below W.heap.size W w
theorem OrS.below {W w w' : World} {rows : List (Nat × List UInt8)} (h : OrS W rows w) (hb : Below w.heap.size w w') : OrS W rows w' :=
  ⟨fun p hp => by rw [hb.block _ (Array.getElem?_eq_some_iff.1 (h.row p hp)).1]; exact h.row p hp, h.var.below hb, h.bel.trans (hb.mono h.bel.size)⟩
theorem OrS.drew {W w : World} {rows : List (Nat × List UInt8)} (h : OrS W rows w) : OrS W rows w.drew := ⟨h.row, ⟨h.var.st, h.var.ks⟩, h.bel.drew⟩
theorem OrS.new {W w : World} {rows : List (Nat × List UInt8)} (h : OrS W rows w) (d : List UInt8) : OrS W ((w.heap.size, d) :: rows) (w.alloc (.cells (cellsOf d).toArray 23)) := by
  have hb := (Below.refl w.heap.size w).alloc (Nat.le_refl _) (.cells (cellsOf d).toArray 23)
  refine ⟨fun p hp => ?_, h.var.below hb, (h.below hb).bel⟩
  rcases List.mem_cons.1 hp with rfl | hp
  · exact heap_alloc_new _ _
  · exact (h.below hb).row p hp
theorem OrS.start {W : World} (hv : Vars W) : OrS W [] W := ⟨fun p hp => (by cases hp), hv, Below.refl _ _⟩
theorem OrS.start3 {W : World} (hv : Vars W) (a b c : List UInt8) : OrS W [(W.heap.size + 1 + 1, c), (W.heap.size + 1, b), (W.heap.size, a)] (((W.alloc (.cells (cellsOf a).toArray 23)).alloc (.cells (cellsOf b).toArray 23)).alloc (.cells (cellsOf c).toArray 23)) := by
  have h := OrS.new (OrS.new (OrS.new (OrS.start hv) a) b) c
  have e1 : (W.alloc (.cells (cellsOf a).toArray 23)).heap.size = W.heap.size + 1 := by simp
  have e2 : ((W.alloc (.cells (cellsOf a).toArray 23)).alloc (.cells (cellsOf b).toArray 23)).heap.size = W.heap.size + 1 + 1 := by simp
  rw [e1, e2] at h
  exact h
theorem hex_S (W : World) (d : List UInt8) (hd : d.length = 32) (hx : ByteArray) (hh : ⟨(hexL d).toArray⟩ = hx) {rows : List (Nat × List UInt8)} {w : World} (h : OrS W rows w) :
    Calls Tryd.prog 14 #[.agg (cellsOf d).toArray] w fun e w' => e = .returned (.string hx) ∧ OrS W rows w' := by
  subst hh
  exact (hexD_any d hd w).mono (by rintro e w' ⟨rfl, hb⟩; exact ⟨rfl, h.below hb⟩)
theorem less_S (W : World) (x y : List UInt8) (hx : x.length = 32) (hy : y.length = 32) (v : Bool) (hv : lessL x y = v) {rows : List (Nat × List UInt8)} {w : World} (h : OrS W rows w) :
    Calls Tryd.prog 16 #[.agg (cellsOf x).toArray, .agg (cellsOf y).toArray] w fun e w' => e = .returned (.bool v) ∧ OrS W rows w' := by
  subst hv
  exact (less_any x y hx hy w).mono (by rintro e w' ⟨rfl, hb⟩; exact ⟨rfl, h.below hb⟩)
theorem read_S (W : World) (s : ByteArray) (hs : s.size ≤ 140737488351232) (d : List UInt8) (v : Bool) (hd : readL s.data.toList = d) (hv : readOk s.data.toList = v) {rows : List (Nat × List UInt8)} {w : World} (h : OrS W rows w) :
    Calls Tryd.prog 8 #[.string s] w fun e w' => e = .returned (.tuple #[.agg (cellsOf d).toArray, .bool v]) ∧ OrS W rows w' := by
  subst hd
  subst hv
  exact (read_any s hs w).mono (by rintro e w' ⟨rfl, hb⟩; exact ⟨rfl, h.below hb⟩)
theorem load_at {ops : Array Oper} {rest : List Oper} {o : Oper} {a : Act} {w : World} {Q : Exit → Act → World → Prop} {x : Operand} (ho : o.op = .load 23 x) (g : Nat) (hx : a.eval x = .pointer (some ⟨g, 0, none⟩)) {cs : Array Value}
    (hg : w.heap[g]? = some (.cells cs 23 (0, 0))) (hi : (Tryd.prog.info? 23).map (·.size) = some cs.size) (hw : Region.wanted o (yielded ops a.tmps) = true)
    (h : wpList Tryd.prog ops Q rest (a.put o.dst (.agg cs)) w) : wpList Tryd.prog ops Q (o :: rest) a w :=
  wpList_load_want hw 23 x ho g hx 23 cs (0, 0) _ hg Tryd.underlying23 rfl hi h
theorem size_hex {d : List UInt8} (hd : d.length = 32) : (⟨(hexL d).toArray⟩ : ByteArray).size = 64 := by
  show (hexL d).toArray.size = 64
  rw [List.size_toArray, hexL_length, hd]

set_option maxRecDepth 100000 in
set_option maxHeartbeats 3200000 in
theorem order_any (a b c : List UInt8) (s : ByteArray) (ha : a.length = 32) (hb : b.length = 32) (hc : c.length = 32) (hs : s.size ≤ 140737488351232) (w : World) (hv : Vars w) :
    Calls Tryd.prog 6 #[.agg (cellsOf a).toArray, .agg (cellsOf b).toArray, .agg (cellsOf c).toArray, .string s] w fun e w' => e = .returned (.bool true) ∧ Below w.heap.size w w' := by
  obtain ⟨hA, eA⟩ : ∃ x : ByteArray, ⟨(hexL a).toArray⟩ = x := ⟨_, rfl⟩
  obtain ⟨hB, eB⟩ : ∃ x : ByteArray, ⟨(hexL b).toArray⟩ = x := ⟨_, rfl⟩
  obtain ⟨e, he⟩ : ∃ x, readL s.data.toList = x := ⟨_, rfl⟩
  obtain ⟨ok, hok⟩ : ∃ x, readOk s.data.toList = x := ⟨_, rfl⟩
  obtain ⟨hE, eE⟩ : ∃ x : ByteArray, ⟨(hexL e).toArray⟩ = x := ⟨_, rfl⟩
  obtain ⟨lab, h1⟩ : ∃ x, lessL a b = x := ⟨_, rfl⟩
  obtain ⟨lbc, h2⟩ : ∃ x, lessL b c = x := ⟨_, rfl⟩
  obtain ⟨lac, h3⟩ : ∃ x, lessL a c = x := ⟨_, rfl⟩
  obtain ⟨lba, h4⟩ : ∃ x, lessL b a = x := ⟨_, rfl⟩
  have hel : e.length = 32 := by rw [← he]; exact read_len _
  have szA : hA.size = 64 := by rw [← eA]; exact size_hex ha
  have hlt : Op.bytesLess hA.toList hB.toList = lab := by
    rw [← eA, ← eB, ByteArray.toList_eq, ByteArray.toList_eq, ← h1]
    exact less_hex ha hb
  have hord : (lab = true ∧ lbc = true ∧ lac = true ∧ lba = false) ∨ (lab = true ∧ lbc = false ∧ lba = false) ∨ (lab = false ∧ lba = true) ∨ (lab = false ∧ lba = false ∧ a = b) := by
    rw [less_bl ha hb] at h1
    rw [less_bl hb hc] at h2
    rw [less_bl ha hc] at h3
    rw [less_bl hb ha] at h4
    cases lab with
    | true =>
      have k4 := bl_asymm a b h1
      rw [h4] at k4
      cases lbc with
      | true =>
        have k3 := bl_trans a b c h1 h2
        rw [h3] at k3
        exact Or.inl ⟨rfl, rfl, k3, k4⟩
      | false => exact Or.inr (Or.inl ⟨rfl, rfl, k4⟩)
    | false =>
      cases lba with
      | true => exact Or.inr (Or.inr (Or.inl ⟨rfl, rfl⟩))
      | false => exact Or.inr (Or.inr (Or.inr ⟨rfl, rfl, bl_total a b (by omega) h1 h4⟩))
  have hA2 : readL hA.data.toList = a := by
    rw [← eA]
    exact readL_hex ha
  have hA3 : readOk hA.data.toList = true := by
    rw [← eA]
    exact readOk_hex ha
  have HA := Lib.hid (fun rows u h => hex_S w a ha hA eA (rows := rows) (w := u) h)
  have HB := Lib.hid (fun rows u h => hex_S w b hb hB eB (rows := rows) (w := u) h)
  have HE := Lib.hid (fun rows u h => hex_S w e hel hE eE (rows := rows) (w := u) h)
  have L1 := Lib.hid (fun rows u h => less_S w a b ha hb lab h1 (rows := rows) (w := u) h)
  have L2 := Lib.hid (fun rows u h => less_S w b c hb hc lbc h2 (rows := rows) (w := u) h)
  have L3 := Lib.hid (fun rows u h => less_S w a c ha hc lac h3 (rows := rows) (w := u) h)
  have L4 := Lib.hid (fun rows u h => less_S w b a hb ha lba h4 (rows := rows) (w := u) h)
  have RA := Lib.hid (fun rows u h => read_S w hA (by omega) a true hA2 hA3 (rows := rows) (w := u) h)
  have RS := Lib.hid (fun rows u h => read_S w s hs e ok he hok (rows := rows) (w := u) h)
  have hEs : Hid (ok = true → hE = s) := fun h => by
    rw [h] at hok
    have := hex_readL hok
    rw [he] at this
    rw [← eE, this]
  have hEz : Hid (ok = false → e = List.replicate 32 0) := fun h => by
    rw [h] at hok
    rw [← he]
    exact readL_no hok
  have heqa := fun w => run_same a a ha ha w
  simp only [decide_true] at heqa
  have ZA := Lib.hid (cells_size ha)
  have ZB := Lib.hid (cells_size hb)
  have ZC := Lib.hid (cells_size hc)
  have ZE := Lib.hid (cells_size hel)
  have YA := Lib.hid (info23_list ha)
  have YB := Lib.hid (info23_list hb)
  have hord := Lib.hid hord
  have ha := Lib.hid ha
  have hb := Lib.hid hb
  have hel := Lib.hid hel
  have hS0 := Lib.hid (OrS.start3 hv a b c)
  clear hv hA2 hA3 h1 h2 h3 h4 eA eB eE he hok hc hs
  go_enter Tryd.func6, Tryd.ntmps6
  go_wp2_with fail
  refine (small_any _ hS0.out.var).mono ?_
  rintro r w1 ⟨rfl, hb1⟩
  have hS1 := OrS.below hS0.out hb1
  clear hb1 hS0
  go_wp2_with (first
    | refine load_at rfl w.heap.size rfl (OrS.row (by assumption) (w.heap.size, a) (by simp)) ZA.out (by rfl) ?_
    | refine load_at rfl (w.heap.size + 1) rfl (OrS.row (by assumption) (w.heap.size + 1, b) (by simp)) ZB.out (by rfl) ?_
    | refine load_at rfl (w.heap.size + 1 + 1) rfl (OrS.row (by assumption) (w.heap.size + 1 + 1, c) (by simp)) ZC.out (by rfl) ?_)
  refine (HA.out _ _ (by assumption)).mono ?_
  rintro r w2 ⟨rfl, hS2⟩
  go_wp2_with fail
  refine (RA.out _ _ (by assumption)).mono ?_
  rintro r w3 ⟨rfl, hS3⟩
  clear hS1 hS2
  have hS4 := OrS.new hS3 a
  go_upto_region 3 with (refine wpList_store_row rfl 23 _ _ rfl w3.heap.size (cellsOf a).toArray rfl rfl 23 _ (heap_alloc_new _ _) ZA.out (size32 ha.out) (cells_one _) ?_)
  rw [World.setRow_alloc_new]
  obtain ⟨D, hD⟩ : ∃ D, w3.heap.size = D := ⟨_, rfl⟩
  obtain ⟨w4, hw4⟩ : ∃ w4, w3.alloc (.cells (cellsOf a).toArray 23) = w4 := ⟨_, rfl⟩
  rw [hw4, hD] at hS4
  rw [hw4, hD]
  clear hw4 hD hS3
  go_wp2_with fail
  refine (RS.out _ _ (by assumption)).mono ?_
  rintro r w5 ⟨rfl, hS5⟩
  clear hS4
  have hS6 := OrS.new hS5 e
  go_upto_region 4 with (refine wpList_store_row rfl 23 _ _ rfl w5.heap.size (cellsOf e).toArray rfl rfl 23 _ (heap_alloc_new _ _) ZE.out (size32 hel.out) (cells_one _) ?_)
  rw [World.setRow_alloc_new]
  obtain ⟨E, hEq⟩ : ∃ E, w5.heap.size = E := ⟨_, rfl⟩
  obtain ⟨w6, hw6⟩ : ∃ w6, w5.alloc (.cells (cellsOf e).toArray 23) = w6 := ⟨_, rfl⟩
  rw [hw6, hEq] at hS6
  rw [hw6, hEq]
  clear hw6 hEq hS5
  go_cut [56] from 26 to 56 (fun s56 wx => s56 = .bool false ∧ OrS w [(E, e), (D, a), (w.heap.size + 1 + 1, c), (w.heap.size + 1, b), (w.heap.size, a)] wx)
  case first =>
    clear hord hlt
    cases ok with
    | true =>
      rw [hEs.out rfl] at HE
      clear hEs hEz
      go_wp2_with (first
        | refine load_at rfl w.heap.size rfl (OrS.row (by assumption) (w.heap.size, a) (by simp)) ZA.out (by rfl) ?_
        | refine load_at rfl D rfl (OrS.row (by assumption) (D, a) (by simp)) ZA.out (by rfl) ?_
        | refine load_at rfl E rfl (OrS.row (by assumption) (E, e) (by simp)) ZE.out (by rfl) ?_
        | (go_at_call 14; (with_reducible refine (HA.out _ _ (by assumption)).mono ?_); rintro e w' ⟨rfl, hS'⟩)
        | (go_at_call 14; (with_reducible refine (HE.out _ _ (by assumption)).mono ?_); rintro e w' ⟨rfl, hS'⟩))
      go_meet
      exact ⟨rfl, by assumption⟩
    | false =>
      have heqz := fun w => run_same e (List.replicate 32 0) hel.out (by simp) w
      simp only [decide_eq_true (hEz.out rfl)] at heqz
      rw [← zeros_cells, zeros32] at heqz
      clear hEs hEz
      go_wp2_with (first
        | refine load_at rfl w.heap.size rfl (OrS.row (by assumption) (w.heap.size, a) (by simp)) ZA.out (by rfl) ?_
        | refine load_at rfl D rfl (OrS.row (by assumption) (D, a) (by simp)) ZA.out (by rfl) ?_
        | refine load_at rfl E rfl (OrS.row (by assumption) (E, e) (by simp)) ZE.out (by rfl) ?_
        | (go_at_call 14; (with_reducible refine (HA.out _ _ (by assumption)).mono ?_); rintro e w' ⟨rfl, hS'⟩)
        | (go_at_call 14; (with_reducible refine (HE.out _ _ (by assumption)).mono ?_); rintro e w' ⟨rfl, hS'⟩))
      go_meet
      exact ⟨rfl, by assumption⟩
  case rest =>
    obtain ⟨rfl, hS7⟩ := hcut
    clear hEs hEz heqa hS6
    go_upto_region 6 with fail
    go_cut [97] from 57 to 97 (fun s97 wx => s97 = .bool false ∧ OrS w [(E, e), (D, a), (w.heap.size + 1 + 1, c), (w.heap.size + 1, b), (w.heap.size, a)] wx)
    case first =>
      rcases hord.out with ⟨h1, h2, h3, h4⟩ | ⟨h1, h2, h4⟩ | ⟨h1, h4⟩ | ⟨h1, h4, hab⟩
      · rw [h1] at L1
        rw [h2] at L2
        rw [h3] at L3
        rw [h4] at L4
        clear h1 h2 h3 h4 hord hlt
        go_wp2_with (first
          | refine load_at rfl w.heap.size rfl (OrS.row (by assumption) (w.heap.size, a) (by simp)) ZA.out (by rfl) ?_
          | refine load_at rfl (w.heap.size + 1) rfl (OrS.row (by assumption) (w.heap.size + 1, b) (by simp)) ZB.out (by rfl) ?_
          | refine load_at rfl (w.heap.size + 1 + 1) rfl (OrS.row (by assumption) (w.heap.size + 1 + 1, c) (by simp)) ZC.out (by rfl) ?_
          | (go_at_call 16; (with_reducible refine (L1.out _ _ (by assumption)).mono ?_); rintro e w' ⟨rfl, hS'⟩)
          | (go_at_call 16; (with_reducible refine (L2.out _ _ (by assumption)).mono ?_); rintro e w' ⟨rfl, hS'⟩)
          | (go_at_call 16; (with_reducible refine (L3.out _ _ (by assumption)).mono ?_); rintro e w' ⟨rfl, hS'⟩)
          | (go_at_call 16; (with_reducible refine (L4.out _ _ (by assumption)).mono ?_); rintro e w' ⟨rfl, hS'⟩))
        go_meet
        exact ⟨rfl, by assumption⟩
      · rw [h1] at L1
        rw [h2] at L2
        rw [h4] at L4
        clear h1 h2 h4 hord hlt
        go_wp2_with (first
          | refine load_at rfl w.heap.size rfl (OrS.row (by assumption) (w.heap.size, a) (by simp)) ZA.out (by rfl) ?_
          | refine load_at rfl (w.heap.size + 1) rfl (OrS.row (by assumption) (w.heap.size + 1, b) (by simp)) ZB.out (by rfl) ?_
          | refine load_at rfl (w.heap.size + 1 + 1) rfl (OrS.row (by assumption) (w.heap.size + 1 + 1, c) (by simp)) ZC.out (by rfl) ?_
          | (go_at_call 16; (with_reducible refine (L1.out _ _ (by assumption)).mono ?_); rintro e w' ⟨rfl, hS'⟩)
          | (go_at_call 16; (with_reducible refine (L2.out _ _ (by assumption)).mono ?_); rintro e w' ⟨rfl, hS'⟩)
          | (go_at_call 16; (with_reducible refine (L3.out _ _ (by assumption)).mono ?_); rintro e w' ⟨rfl, hS'⟩)
          | (go_at_call 16; (with_reducible refine (L4.out _ _ (by assumption)).mono ?_); rintro e w' ⟨rfl, hS'⟩))
        go_meet
        exact ⟨rfl, by assumption⟩
      · rw [h1] at L1
        rw [h4] at L4
        clear h1 h4 hord hlt
        go_wp2_with (first
          | refine load_at rfl w.heap.size rfl (OrS.row (by assumption) (w.heap.size, a) (by simp)) ZA.out (by rfl) ?_
          | refine load_at rfl (w.heap.size + 1) rfl (OrS.row (by assumption) (w.heap.size + 1, b) (by simp)) ZB.out (by rfl) ?_
          | refine load_at rfl (w.heap.size + 1 + 1) rfl (OrS.row (by assumption) (w.heap.size + 1 + 1, c) (by simp)) ZC.out (by rfl) ?_
          | (go_at_call 16; (with_reducible refine (L1.out _ _ (by assumption)).mono ?_); rintro e w' ⟨rfl, hS'⟩)
          | (go_at_call 16; (with_reducible refine (L2.out _ _ (by assumption)).mono ?_); rintro e w' ⟨rfl, hS'⟩)
          | (go_at_call 16; (with_reducible refine (L3.out _ _ (by assumption)).mono ?_); rintro e w' ⟨rfl, hS'⟩)
          | (go_at_call 16; (with_reducible refine (L4.out _ _ (by assumption)).mono ?_); rintro e w' ⟨rfl, hS'⟩))
        go_meet
        exact ⟨rfl, by assumption⟩
      · rw [h1] at L1
        rw [h4] at L4
        have heqab := fun w => run_same a b ha.out hb.out w
        simp only [decide_eq_true hab] at heqab
        clear h1 h4 hab hord hlt
        go_wp2_with (first
          | refine load_at rfl w.heap.size rfl (OrS.row (by assumption) (w.heap.size, a) (by simp)) ZA.out (by rfl) ?_
          | refine load_at rfl (w.heap.size + 1) rfl (OrS.row (by assumption) (w.heap.size + 1, b) (by simp)) ZB.out (by rfl) ?_
          | refine load_at rfl (w.heap.size + 1 + 1) rfl (OrS.row (by assumption) (w.heap.size + 1 + 1, c) (by simp)) ZC.out (by rfl) ?_
          | (go_at_call 16; (with_reducible refine (L1.out _ _ (by assumption)).mono ?_); rintro e w' ⟨rfl, hS'⟩)
          | (go_at_call 16; (with_reducible refine (L2.out _ _ (by assumption)).mono ?_); rintro e w' ⟨rfl, hS'⟩)
          | (go_at_call 16; (with_reducible refine (L3.out _ _ (by assumption)).mono ?_); rintro e w' ⟨rfl, hS'⟩)
          | (go_at_call 16; (with_reducible refine (L4.out _ _ (by assumption)).mono ?_); rintro e w' ⟨rfl, hS'⟩))
        go_meet
        exact ⟨rfl, by assumption⟩
    case rest =>
      obtain ⟨rfl, hS8⟩ := hcut
      clear hord hS7
      go_upto_region 8 with fail
      refine wp_region_noPanic ?_
      refine wp_region_held_drew (S := OrS w [(E, e), (D, a), (w.heap.size + 1 + 1, c), (w.heap.size + 1, b), (w.heap.size, a)]) (by kernel_rfl) (OrS.drew hS8) (fun hS => ?_)
      refine held_take (i := 0) (.bool true) rfl (by kernel_rfl) (by kernel_rfl) (by kernel_rfl) (by rfl) (fun w hSw => by go_simp) (by assumption) ?_
      simp only [Act.put, List.setIfInBounds_toArray, List.set_cons_zero, List.set_cons_succ]
      refine held_take (i := 1) (.bool true) rfl (by kernel_rfl) (by kernel_rfl) (by kernel_rfl) (by rfl) (fun w hSw => by go_simp) (by assumption) ?_
      simp only [Act.put, List.setIfInBounds_toArray, List.set_cons_zero, List.set_cons_succ]
      refine held_load (i := 2) w.heap.size (cellsOf a) rfl (by kernel_rfl) (by kernel_rfl) (by kernel_rfl) (by rfl) rfl rfl Tryd.underlying23 rfl YA.out (fun _ h => range_of_row (h.row (w.heap.size, a) (by simp))) (by assumption) ?_
      simp only [Act.put, List.setIfInBounds_toArray, List.set_cons_zero, List.set_cons_succ]
      refine held_load (i := 3) (w.heap.size + 1) (cellsOf b) rfl (by kernel_rfl) (by kernel_rfl) (by kernel_rfl) (by rfl) rfl rfl Tryd.underlying23 rfl YB.out (fun _ h => range_of_row (h.row (w.heap.size + 1, b) (by simp))) (by assumption) ?_
      simp only [Act.put, List.setIfInBounds_toArray, List.set_cons_zero, List.set_cons_succ]
      refine held_load (i := 5) w.heap.size (cellsOf a) rfl (by kernel_rfl) (by kernel_rfl) (by kernel_rfl) (by rfl) rfl rfl Tryd.underlying23 rfl YA.out (fun _ h => range_of_row (h.row (w.heap.size, a) (by simp))) (by assumption) ?_
      simp only [Act.put, List.setIfInBounds_toArray, List.set_cons_zero, List.set_cons_succ]
      refine held_load (i := 7) (w.heap.size + 1) (cellsOf b) rfl (by kernel_rfl) (by kernel_rfl) (by kernel_rfl) (by rfl) rfl rfl Tryd.underlying23 rfl YB.out (fun _ h => range_of_row (h.row (w.heap.size + 1, b) (by simp))) (by assumption) ?_
      simp only [Act.put, List.setIfInBounds_toArray, List.set_cons_zero, List.set_cons_succ]
      refine held_step (i := 4) (.bool lab) rfl (by kernel_rfl) (by rfl) (fun K hK => ?_) (fun w' hS => ?_)
      · go_simp
        refine (L1.out _ _ (by assumption)).mono ?_
        rintro e w2 ⟨rfl, hS2⟩
        exact hK _ hS2
      simp only [Act.put, List.setIfInBounds_toArray, List.set_cons_zero, List.set_cons_succ]
      refine held_step (i := 6) (.string hA) rfl (by kernel_rfl) (by rfl) (fun K hK => ?_) (fun w' hS => ?_)
      · go_simp
        refine (HA.out _ _ (by assumption)).mono ?_
        rintro e w2 ⟨rfl, hS2⟩
        exact hK _ hS2
      simp only [Act.put, List.setIfInBounds_toArray, List.set_cons_zero, List.set_cons_succ]
      refine held_step (i := 8) (.string hB) rfl (by kernel_rfl) (by rfl) (fun K hK => ?_) (fun w' hS => ?_)
      · go_simp
        refine (HB.out _ _ (by assumption)).mono ?_
        rintro e w2 ⟨rfl, hS2⟩
        exact hK _ hS2
      simp only [Act.put, List.setIfInBounds_toArray, List.set_cons_zero, List.set_cons_succ]
      refine held_take (i := 9) (.bool lab) rfl (by kernel_rfl) (by kernel_rfl) (by kernel_rfl) (by rfl) (fun w hSw => by go_simp) (by assumption) ?_
      simp only [Act.put, List.setIfInBounds_toArray, List.set_cons_zero, List.set_cons_succ]
      refine held_take (i := 10) (.bool true) rfl (by kernel_rfl) (by kernel_rfl) (by kernel_rfl) (by rfl) (fun w hSw => by go_simp) (by assumption) ?_
      simp only [Act.put, List.setIfInBounds_toArray, List.set_cons_zero, List.set_cons_succ]
      refine held_take (i := 11) (.bool true) rfl (by kernel_rfl) (by kernel_rfl) (by kernel_rfl) (by rfl) (fun w hSw => by go_simp) (by assumption) ?_
      simp only [Act.put, List.setIfInBounds_toArray, List.set_cons_zero, List.set_cons_succ]
      refine held_take (i := 12) (.bool true) rfl (by kernel_rfl) (by kernel_rfl) (by kernel_rfl) (by rfl) (fun w hSw => by go_simp) (by assumption) ?_
      simp only [Act.put, List.setIfInBounds_toArray, List.set_cons_zero, List.set_cons_succ]
      refine wpAnyH_done (by kernel_rfl) ?_ _
      refine NoPanic.normal ?_
      go_wp2_with fail
      go_ret
      exact ⟨rfl, OrS.bel (by assumption)⟩
end Go.Proofs.YtddcephegpmbbaaDoor
