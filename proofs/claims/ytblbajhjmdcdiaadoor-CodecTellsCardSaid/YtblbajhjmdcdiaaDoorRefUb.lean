/- The reference's UnB64: the values gathered. -/
import Derived.Test.YtblbajhjmdcdiaaDoorRefQp
import Derived.Deep.RegionHeld3
namespace Go.Proofs.YtblbajhjmdcdiaaDoor
open Go.ChangeShapes Go.WideShapes Go.ChangeAt Go.RowKit

theorem keep_alloc {w : World} {a : Addr} {v : Value} (h : w.cell? a = some v) (o : Obj) : (w.alloc o).cell? a = some v := by
  rw [World.cell?_alloc_lt _ _ _ (World.block_lt_of_cell? w a h)]; exact h
theorem info3 : (Tryd.prog.info? 3).map (fun i => (i.zero, i.size, i.bytes)) = some (some (.int .i64 0), 1, 8) := by kernel_rfl
def numsOf (l : List Nat) : List Value := l.map fun (n : Nat) => Value.int .i64 (n : Int)
theorem nums_one (l : List Nat) : ∀ u ∈ numsOf l, u.oneCell' = true := by
  intro u hu
  obtain ⟨c, _, rfl⟩ := List.mem_map.1 hu
  rfl
/-- The slice v of integers holds d, in a block of its own from B on. -/
def On (w : World) (B : Nat) (v : Value) (d : List Nat) : Prop := w.ownsRow B 3 1 v d.length (numsOf d)
theorem on_nil (w : World) (B : Nat) : On w B (.slice none 0 0) [] := ⟨rfl, .inl ⟨rfl, rfl⟩⟩
theorem nums_new (w : World) (l : List Nat) : ∀ j u, (numsOf l)[j]? = some u → (w.alloc (.cells (numsOf l).toArray 3)).cell? ((⟨w.heap.size, 0, none⟩ : Addr).add j) = some u := by
  intro j u h
  have := World.cell?_alloc_mark w (numsOf l).toArray 3 (0, 0) j
  have e : (⟨w.heap.size, 0, none⟩ : Addr).add j = ⟨w.heap.size, j, none⟩ := by unfold Addr.add; split <;> simp_all
  rw [e, this, List.getElem?_toArray]; exact h
theorem app_num {ops : Array Oper} {rest : List Oper} {o : Oper} {a : Act} {w : World} {Q : Exit → Act → World → Prop} (hgd : o.guard = none) (d x : Operand)
    (ho : o.op = .call { callee := .builtin .append, args := #[d, x], argTypes := #[47, 47] }) (B : Nat) (out : List Nat) (n : Nat) {v : Value} (hown : On w B v out) (hd : a.eval d = v)
    (hx : a.eval x = .slice (some ⟨w.heap.size, 0, none⟩) 1 1) (hlen : out.length + 1 ≤ 1000000000) (hB : B ≤ w.heap.size)
    (h : ∀ v' w', On w' B v' (out ++ [n]) → Below B w w' → wpList Tryd.prog ops Q rest (a.put o.dst v') w') : wpList Tryd.prog ops Q (o :: rest) a (w.alloc (.cells #[.int .i64 n] 3)) := by
  obtain ⟨i0, hi, hz0, hz1, hz2⟩ := info_parts info3
  refine wpList_append_own _ hgd d x 47 ho B 3 i0 (.int .i64 0) 1 8 Tryd.underlying47 hi hz0 hz1 hz2 rfl (by decide) v _ _ hd (World.ownsRow.alloc hown _) ⟨w.heap.size, 0, none⟩ 1 1 (numsOf [n]) hx rfl (nums_new w [n]) (nums_one _) ?_ ?_ ?_ ?_
  · unfold maxLen; omega
  · omega
  · rw [World.size_alloc]; omega
  · intro v' w' hown' hgrow _
    refine h v' w' ?_ (((Below.refl B w).alloc hB _).grown hgrow (by rw [World.size_alloc]; omega) (fun j hj => (World.ownsRow.lt hown j hj).1))
    unfold On
    rw [List.length_append]
    unfold numsOf at hown' ⊢
    rw [List.map_append]
    exact hown'
theorem On.shape {w : World} {B : Nat} {v : Value} {out : List Nat} (h : On w B v out) :
    ∃ a c, v = .slice a out.length c ∧ ∀ j (hj : j < out.length), ∃ g, a = some ⟨g, 0, none⟩ ∧ g < w.heap.size ∧ w.cell? ⟨g, j, none⟩ = some (.int .i64 (out[j] : Int)) := by
  have h0 : w.ownsRow B 3 1 v out.length (numsOf out) := h
  rcases h.2 with ⟨hv, hn⟩ | ⟨g, cap, cur, hv, _⟩
  · exact ⟨none, 0, by rw [hv, hn], fun j hj => absurd hj (by omega)⟩
  · refine ⟨some ⟨g, 0, none⟩, cap, hv, fun j hj => ⟨g, rfl, (World.ownsRow.lt h0 g (by rw [hv]; rfl)).2, ?_⟩⟩
    have hc := World.ownsRow.cells h0 (g := g) (by rw [hv]; rfl) j (.int .i64 (out[j] : Int)) (by
      unfold numsOf
      rw [List.getElem?_map, List.getElem?_eq_getElem hj]; rfl)
    have e : (⟨g, 0, none⟩ : Addr).add j = ⟨g, j, none⟩ := by unfold Addr.add; split <;> simp_all
    rw [e] at hc
    exact hc
theorem Ow.drew {w : World} {B : Nat} {v : Value} {out : List UInt8} (h : Ow w B v out) : Ow w.drew B v out := h
/-- Bytes that lie in block g, appended in a region that draws its order. -/
theorem step_app {ops : Array Oper} {o : Oper} {a : Act} {w : World} {K : Act → World → Prop} {Q : Exit → Act → World → Prop} {E : Prop} (hgd : o.guard = none) (d x : Operand)
    (ho : o.op = .call { callee := .builtin .append, args := #[d, x], argTypes := #[25, 25] }) (B g : Nat) (out news : List UInt8) (m : Nat) {v : Value} (hown : Ow w B v out) (hg : w.heap[g]? = some (.cells (cellsOf news).toArray 5 (0, 0))) (hd : a.eval d = v)
    (hx : a.eval x = .slice (some ⟨g, 0, none⟩) m m) (hm : news.length = m) (hlen : out.length + m ≤ 1000000000) (hB : B ≤ w.heap.size)
    (h : ∀ v' w', Ow w' B v' (out ++ news) → Below B w w' → K (a.put o.dst v') w') : if Region.wanted o (yielded ops a.tmps) = true then Oper.wp Tryd.prog o a w K Q else E := by
  obtain ⟨i0, hi, hz0, hz1, hz2⟩ := info_parts info5
  have hcl : (cellsOf news).length = m := by unfold cellsOf; rw [List.length_map, hm]
  have hnews : ∀ j u, (cellsOf news)[j]? = some u → w.cell? ((⟨g, 0, none⟩ : Addr).add j) = some u := fun j u hj => by
    have e : (⟨g, 0, none⟩ : Addr).add j = ⟨g, j, none⟩ := by unfold Addr.add; split <;> simp_all
    rw [e, Lib.cell_of_heap hg, List.getElem?_toArray]; exact hj
  refine step_append_own hgd d x 25 ho B 5 i0 (.int .u8 0) 1 1 Tryd.underlying25 hi hz0 hz1 hz2 rfl (by decide) v out.length (cellsOf out) hd hown ⟨g, 0, none⟩ m m (cellsOf news) hx (by omega) hnews (cellsOf_one _) (by unfold maxLen; omega) (by omega) hB ?_
  intro v' w' hown' hgrow
  refine h v' w' ?_ ((Below.refl B w).grown hgrow hB (fun j hj => (World.ownsRow.lt hown j hj).1))
  unfold Ow
  rw [List.length_append, hm]
  unfold cellsOf at hown' ⊢
  rw [List.map_append]
  exact hown'
theorem vals_lt : ∀ l : List UInt8, ∀ v ∈ vals l, v < 64
  | [], v, h => by cases h
  | c :: t, v, h => by
    unfold vals at h
    by_cases hc : c = 61
    · rw [if_pos hc] at h; cases h
    · rw [if_neg hc] at h
      by_cases h64 : val64 c.toNat < 64
      · rw [if_pos h64] at h
        rcases List.mem_cons.1 h with h | h
        · rw [h]; exact h64
        · exact vals_lt t v h
      · rw [if_neg h64] at h
        exact vals_lt t v h
theorem u8_is (n : Nat) : IntKind.u8.wrap (n : Int) = ((UInt8.ofNat n).toNat : Int) := by
  rw [UInt8.toNat_ofNat', IntKind.wrap_u8]; omega

set_option maxHeartbeats 40000000 in
set_option maxRecDepth 1000000 in
theorem unb64R_any (s : ByteArray) (hs : s.size ≤ 1000000) (w : World) :
    Calls Tryd.prog 13 #[.string s] w fun e w' => e = .returned (.string (strL (unb64L s.data.toList))) ∧ Below w.heap.size w w' := by
  obtain ⟨D, hD⟩ : ∃ D, vals s.data.toList = D := ⟨_, rfl⟩
  have hANS : unb64L s.data.toList = mach 0 0 D := by rw [← hD]; rfl
  have hDl : D.length ≤ s.size := by rw [← hD, size_list]; exact vals_length _
  have hD64 : ∀ v ∈ D, v < 64 := by rw [← hD]; exact vals_lt _
  have HD64 := Lib.hid hD64
  rw [hANS]
  clear hANS hD64
  go_enter Tryd.func13, Tryd.ntmps13
  go_wp2
  go_loopw [4, 3] (fun i v wr => ∃ (k : Nat) (out : List Nat), k ≤ s.size ∧ i = .int .i64 k ∧ Hid (On wr w.heap.size v out) ∧ Below w.heap.size w wr ∧ Hid (out ++ vals (s.data.toList.drop k) = D) ∧ out.length ≤ k)
    (fun i _ _ => s.size - (intOf i).toNat)
  case atStart => exact ⟨0, [], Nat.zero_le _, rfl, Lib.hid (on_nil _ _), Below.refl _ _, Lib.hid hD, Nat.le_refl _⟩
  case round =>
    clear hD
    obtain ⟨k, out, hk, rfl, hown, hb, hacc, hol⟩ := hrel
    have hsz := hb.size
    by_cases hlt : k < s.size
    · have hd := drop_cons s k hlt
      by_cases h61 : s[k].toNat = 61
      · have hnil : vals (s.data.toList.drop k) = [] := by rw [hd, show s[k] = 61 from UInt8.toNat_inj.1 h61]; rfl
        clear hd
        have hend : out = D := by rw [← hacc.out, hnil, List.append_nil]
        subst hend
        clear hacc hnil
        obtain ⟨WL, rfl⟩ : ∃ WL, WL = wr := ⟨_, rfl⟩
        obtain ⟨a, c, rfl, hcell⟩ := hown.out.shape
        have HCELL := Lib.hid hcell
        clear hcell hown
        go_wp2_with fail
        go_loopw [7, 6] (fun i v wq => ∃ (j : Nat) (o2 : List UInt8), j ≤ out.length + 3 ∧ i = .int .i64 j ∧ Hid (Ow wq WL.heap.size v o2) ∧ Below WL.heap.size WL wq ∧ Hid (o2 ++ mach 0 0 (out.drop j) = mach 0 0 out) ∧ o2.length ≤ j)
          (fun i _ _ => out.length + 3 - (intOf i).toNat)
        case atStart => exact ⟨0, [], Nat.zero_le _, rfl, Lib.hid (ow_nil _ _), Below.refl _ _, Lib.hid rfl, Nat.le_refl _⟩
        case round =>
          obtain ⟨j, o2, hj, rfl, hown, hb2, hacc, ho2⟩ := hrel
          have hsz2 := hb2.size
          by_cases hj1 : j + 1 < out.length
          · obtain ⟨g, rfl, hg, h0⟩ := HCELL.out j (by omega)
            have hat : ∀ i (hi : i < out.length), WL.cell? ⟨g, i, none⟩ = some (.int .i64 (out[i] : Int)) := fun i hi => by
              obtain ⟨g2, e, _, h⟩ := HCELL.out i hi
              cases e
              exact h
            have h1 := hat (j + 1) hj1
            have ha := HD64.out out[j] (List.getElem_mem _)
            have hb64 := HD64.out out[j + 1] (List.getElem_mem _)
            have hdr : out.drop j = out[j] :: out[j + 1] :: out.drop (j + 2) := by rw [List.drop_eq_getElem_cons (by omega), List.drop_eq_getElem_cons (by omega)]
            rw [hdr] at hacc
            have hbt1 := hb2
            have hst1 := hsz2
            by_cases hj2 : j + 2 < out.length
            · by_cases hj3 : j + 3 < out.length
              · have h2 := hat (j + 2) hj2
                have hc64 := HD64.out out[j + 2] (List.getElem_mem _)
                have h3 := hat (j + 3) hj3
                have hd64 := HD64.out out[j + 3] (List.getElem_mem _)
                rw [List.drop_eq_getElem_cons hj2, List.drop_eq_getElem_cons (show j + 2 + 1 < out.length from hj3), mach4] at hacc
                have HR : Hid (o2 ++ [UInt8.ofNat (out[j] * 4 + out[j + 1] / 16)] ++ [UInt8.ofNat (out[j + 1] % 16 * 16 + out[j + 2] / 4)] ++ [UInt8.ofNat (out[j + 2] % 4 * 64 + out[j + 3])] ++ mach 0 0 (out.drop (j + 4)) = mach 0 0 out) := Lib.hid (by
                  rw [← hacc.out]
                  simp)
                clear hacc hdr hat
                generalize out[j] = a at *
                generalize out[j + 1] = b at *
                generalize out[j + 2] = d2 at *
                generalize out[j + 3] = d3 at *
                have G1 : IntKind.i64.wrap ((j : Int) + 1) = (j : Int) + 1 := IntWalk.i64_in _ (by omega)
                have j0 : 0 ≤ (j : Int) := by omega
                have j1 : (j : Int) < (out.length : Int) := by omega
                have j2 : (j : Int) + 1 < (out.length : Int) := by omega
                have j3 : 0 ≤ (j : Int) + 1 := by omega
                have G2 : IntKind.i64.wrap ((j : Int) + 2) = (j : Int) + 2 := IntWalk.i64_in _ (by omega)
                have j4 : (j : Int) + 2 < (out.length : Int) := by omega
                have j5 : 0 ≤ (j : Int) + 2 := by omega
                have T2 : ((j : Int) + 2).toNat = j + 2 := by omega
                have G3 : IntKind.i64.wrap ((j : Int) + 3) = (j : Int) + 3 := IntWalk.i64_in _ (by omega)
                have j6 : (j : Int) + 3 < (out.length : Int) := by omega
                have j7 : 0 ≤ (j : Int) + 3 := by omega
                have T3 : ((j : Int) + 3).toNat = j + 3 := by omega
                have F1 : IntKind.i64.wrap ((a : Int) * 4) = ((a * 4 : Nat) : Int) := by rw [IntWalk.i64_in _ (by omega)]; omega
                have F2 : (b : Int).tdiv 16 = ((b / 16 : Nat) : Int) := by rw [Int.tdiv_eq_ediv_of_nonneg (by omega)]; omega
                have F2w : IntKind.i64.wrap ((b / 16 : Nat) : Int) = ((b / 16 : Nat) : Int) := IntWalk.i64_in _ (by omega)
                have F3 : IntKind.i64.wrap (((a * 4 : Nat) : Int) + ((b / 16 : Nat) : Int)) = ((a * 4 + b / 16 : Nat) : Int) := by rw [IntWalk.i64_in _ (by omega)]; omega
                have F4 := u8_is (a * 4 + b / 16)
                have F5 : (b : Int).tmod 16 = ((b % 16 : Nat) : Int) := by rw [Int.tmod_eq_emod_of_nonneg (by omega)]; omega
                have F6 : IntKind.i64.wrap (((b % 16 : Nat) : Int) * 16) = ((b % 16 * 16 : Nat) : Int) := by rw [IntWalk.i64_in _ (by omega)]; omega
                have F7 : (d2 : Int).tdiv 4 = ((d2 / 4 : Nat) : Int) := by rw [Int.tdiv_eq_ediv_of_nonneg (by omega)]; omega
                have F7w : IntKind.i64.wrap ((d2 / 4 : Nat) : Int) = ((d2 / 4 : Nat) : Int) := IntWalk.i64_in _ (by omega)
                have F8 : IntKind.i64.wrap (((b % 16 * 16 : Nat) : Int) + ((d2 / 4 : Nat) : Int)) = ((b % 16 * 16 + d2 / 4 : Nat) : Int) := by rw [IntWalk.i64_in _ (by omega)]; omega
                have F9 := u8_is (b % 16 * 16 + d2 / 4)
                have F10 : (d2 : Int).tmod 4 = ((d2 % 4 : Nat) : Int) := by rw [Int.tmod_eq_emod_of_nonneg (by omega)]; omega
                have F11 : IntKind.i64.wrap (((d2 % 4 : Nat) : Int) * 64) = ((d2 % 4 * 64 : Nat) : Int) := by rw [IntWalk.i64_in _ (by omega)]; omega
                have F12 : IntKind.i64.wrap (((d2 % 4 * 64 : Nat) : Int) + (d3 : Int)) = ((d2 % 4 * 64 + d3 : Nat) : Int) := by rw [IntWalk.i64_in _ (by omega)]; omega
                have F13 := u8_is (d2 % 4 * 64 + d3)
                generalize a * 4 + b / 16 = s1 at *
                generalize a * 4 = a4 at *
                generalize b / 16 = b16 at *
                generalize UInt8.ofNat s1 = q1 at *
                generalize b % 16 * 16 + d2 / 4 = s2 at *
                generalize b % 16 * 16 = b5 at *
                generalize b % 16 = b4 at *
                generalize d2 / 4 = c4 at *
                generalize UInt8.ofNat s2 = q2 at *
                generalize d2 % 4 * 64 + d3 = s3 at *
                generalize d2 % 4 * 64 = d5 at *
                generalize d2 % 4 = d4 at *
                generalize UInt8.ofNat s3 = q3 at *
                go_wp2_with fail
                have cA1 : wr.drew.cell? ⟨g, j, none⟩ = some (.int .i64 (a : Int)) := (hbt1.cell (p := ⟨g, j, none⟩) hg).trans h0
                have cB1 : wr.drew.cell? ⟨g, j + 1, none⟩ = some (.int .i64 (b : Int)) := (hbt1.cell (p := ⟨g, j + 1, none⟩) hg).trans h1
                go_region_held3 (fun w' => w'.cell? ⟨g, j, none⟩ = some (.int .i64 (a : Int)) ∧ w'.cell? ⟨g, j + 1, none⟩ = some (.int .i64 (b : Int))) (first | exact ⟨cA1, cB1⟩ | exact ⟨keep_alloc cA1 _, keep_alloc cB1 _⟩ | exact ⟨(hk1.cell (p := ⟨g, j, none⟩) hg).trans (keep_alloc cA1 _), (hk1.cell (p := ⟨g, j + 1, none⟩) hg).trans (keep_alloc cB1 _)⟩)
                  (first | (refine step_app rfl (.tmp 37) (.tmp 51) rfl WL.heap.size wr.heap.size o2 [q1] 1 (Ow.drew (Ow.alloc hown.out _)) (Go.heap_alloc_new _ _) rfl rfl rfl (by first | omega | (simp only [List.length_append, List.length_cons, List.length_nil]; omega)) (by first | omega | (simp; omega)) ?_; intro v2 w2 hown2 hk1))
                have hbt2 : Below WL.heap.size WL w2 := hbt1.trans (((Below.refl _ wr).alloc hst1 _).drew.trans hk1)
                have hst2 := hbt2.size
                clear cA1 cB1
                go_wp2_with fail
                have cA2 : w2.drew.cell? ⟨g, j + 1, none⟩ = some (.int .i64 (b : Int)) := (hbt2.cell (p := ⟨g, j + 1, none⟩) hg).trans h1
                have cB2 : w2.drew.cell? ⟨g, j + 2, none⟩ = some (.int .i64 (d2 : Int)) := (hbt2.cell (p := ⟨g, j + 2, none⟩) hg).trans h2
                go_region_held3 (fun w' => w'.cell? ⟨g, j + 1, none⟩ = some (.int .i64 (b : Int)) ∧ w'.cell? ⟨g, j + 2, none⟩ = some (.int .i64 (d2 : Int))) (first | exact ⟨cA2, cB2⟩ | exact ⟨keep_alloc cA2 _, keep_alloc cB2 _⟩ | exact ⟨(hk2.cell (p := ⟨g, j + 1, none⟩) hg).trans (keep_alloc cA2 _), (hk2.cell (p := ⟨g, j + 2, none⟩) hg).trans (keep_alloc cB2 _)⟩)
                  (first | (refine step_app rfl (.tmp 58) (.tmp 74) rfl WL.heap.size w2.heap.size (o2 ++ [q1]) [q2] 1 (Ow.drew (Ow.alloc hown2 _)) (Go.heap_alloc_new _ _) rfl rfl rfl (by first | omega | (simp only [List.length_append, List.length_cons, List.length_nil]; omega)) (by first | omega | (simp; omega)) ?_; intro v3 w3 hown3 hk2))
                have hbt3 : Below WL.heap.size WL w3 := hbt2.trans (((Below.refl _ w2).alloc hst2 _).drew.trans hk2)
                have hst3 := hbt3.size
                clear cA2 cB2
                go_wp2_with fail
                have cA3 : w3.drew.cell? ⟨g, j + 2, none⟩ = some (.int .i64 (d2 : Int)) := (hbt3.cell (p := ⟨g, j + 2, none⟩) hg).trans h2
                have cB3 : w3.drew.cell? ⟨g, j + 3, none⟩ = some (.int .i64 (d3 : Int)) := (hbt3.cell (p := ⟨g, j + 3, none⟩) hg).trans h3
                go_region_held3 (fun w' => w'.cell? ⟨g, j + 2, none⟩ = some (.int .i64 (d2 : Int)) ∧ w'.cell? ⟨g, j + 3, none⟩ = some (.int .i64 (d3 : Int))) (first | exact ⟨cA3, cB3⟩ | exact ⟨keep_alloc cA3 _, keep_alloc cB3 _⟩ | exact ⟨(hk3.cell (p := ⟨g, j + 2, none⟩) hg).trans (keep_alloc cA3 _), (hk3.cell (p := ⟨g, j + 3, none⟩) hg).trans (keep_alloc cB3 _)⟩)
                  (first | (refine step_app rfl (.tmp 81) (.tmp 96) rfl WL.heap.size w3.heap.size (o2 ++ [q1] ++ [q2]) [q3] 1 (Ow.drew (Ow.alloc hown3 _)) (Go.heap_alloc_new _ _) rfl rfl rfl (by first | omega | (simp only [List.length_append, List.length_cons, List.length_nil]; omega)) (by first | omega | (simp; omega)) ?_; intro v4 w4 hown4 hk3))
                have hbt4 : Below WL.heap.size WL w4 := hbt3.trans (((Below.refl _ w3).alloc hst3 _).drew.trans hk3)
                have hst4 := hbt4.size
                clear cA3 cB3
                go_wp2_with fail
                go_roundw
                case rel => exact ⟨j + 4, _, by omega, by go_num, Lib.hid hown4, hbt4, Lib.hid (by rw [← HR.out]), by simp only [List.length_append, List.length_cons, List.length_nil]; omega⟩
                case measure => simp [intOf]; omega
              · have h2 := hat (j + 2) hj2
                have hc64 := HD64.out out[j + 2] (List.getElem_mem _)
                rw [List.drop_eq_getElem_cons hj2, show out.drop (j + 2 + 1) = [] from List.drop_eq_nil_of_le (by omega), mach3] at hacc
                have HR : Hid (o2 ++ [UInt8.ofNat (out[j] * 4 + out[j + 1] / 16)] ++ [UInt8.ofNat (out[j + 1] % 16 * 16 + out[j + 2] / 4)] ++ mach 0 0 (out.drop (j + 4)) = mach 0 0 out) := Lib.hid (by
                  rw [← hacc.out, show out.drop (j + 4) = [] from List.drop_eq_nil_of_le (by omega), show mach 0 0 [] = [] from rfl]
                  simp)
                clear hacc hdr hat
                generalize out[j] = a at *
                generalize out[j + 1] = b at *
                generalize out[j + 2] = d2 at *
                have G1 : IntKind.i64.wrap ((j : Int) + 1) = (j : Int) + 1 := IntWalk.i64_in _ (by omega)
                have j0 : 0 ≤ (j : Int) := by omega
                have j1 : (j : Int) < (out.length : Int) := by omega
                have j2 : (j : Int) + 1 < (out.length : Int) := by omega
                have j3 : 0 ≤ (j : Int) + 1 := by omega
                have G2 : IntKind.i64.wrap ((j : Int) + 2) = (j : Int) + 2 := IntWalk.i64_in _ (by omega)
                have j4 : (j : Int) + 2 < (out.length : Int) := by omega
                have j5 : 0 ≤ (j : Int) + 2 := by omega
                have T2 : ((j : Int) + 2).toNat = j + 2 := by omega
                have F1 : IntKind.i64.wrap ((a : Int) * 4) = ((a * 4 : Nat) : Int) := by rw [IntWalk.i64_in _ (by omega)]; omega
                have F2 : (b : Int).tdiv 16 = ((b / 16 : Nat) : Int) := by rw [Int.tdiv_eq_ediv_of_nonneg (by omega)]; omega
                have F2w : IntKind.i64.wrap ((b / 16 : Nat) : Int) = ((b / 16 : Nat) : Int) := IntWalk.i64_in _ (by omega)
                have F3 : IntKind.i64.wrap (((a * 4 : Nat) : Int) + ((b / 16 : Nat) : Int)) = ((a * 4 + b / 16 : Nat) : Int) := by rw [IntWalk.i64_in _ (by omega)]; omega
                have F4 := u8_is (a * 4 + b / 16)
                have F5 : (b : Int).tmod 16 = ((b % 16 : Nat) : Int) := by rw [Int.tmod_eq_emod_of_nonneg (by omega)]; omega
                have F6 : IntKind.i64.wrap (((b % 16 : Nat) : Int) * 16) = ((b % 16 * 16 : Nat) : Int) := by rw [IntWalk.i64_in _ (by omega)]; omega
                have F7 : (d2 : Int).tdiv 4 = ((d2 / 4 : Nat) : Int) := by rw [Int.tdiv_eq_ediv_of_nonneg (by omega)]; omega
                have F7w : IntKind.i64.wrap ((d2 / 4 : Nat) : Int) = ((d2 / 4 : Nat) : Int) := IntWalk.i64_in _ (by omega)
                have F8 : IntKind.i64.wrap (((b % 16 * 16 : Nat) : Int) + ((d2 / 4 : Nat) : Int)) = ((b % 16 * 16 + d2 / 4 : Nat) : Int) := by rw [IntWalk.i64_in _ (by omega)]; omega
                have F9 := u8_is (b % 16 * 16 + d2 / 4)
                generalize a * 4 + b / 16 = s1 at *
                generalize a * 4 = a4 at *
                generalize b / 16 = b16 at *
                generalize UInt8.ofNat s1 = q1 at *
                generalize b % 16 * 16 + d2 / 4 = s2 at *
                generalize b % 16 * 16 = b5 at *
                generalize b % 16 = b4 at *
                generalize d2 / 4 = c4 at *
                generalize UInt8.ofNat s2 = q2 at *
                go_wp2_with fail
                have cA1 : wr.drew.cell? ⟨g, j, none⟩ = some (.int .i64 (a : Int)) := (hbt1.cell (p := ⟨g, j, none⟩) hg).trans h0
                have cB1 : wr.drew.cell? ⟨g, j + 1, none⟩ = some (.int .i64 (b : Int)) := (hbt1.cell (p := ⟨g, j + 1, none⟩) hg).trans h1
                go_region_held3 (fun w' => w'.cell? ⟨g, j, none⟩ = some (.int .i64 (a : Int)) ∧ w'.cell? ⟨g, j + 1, none⟩ = some (.int .i64 (b : Int))) (first | exact ⟨cA1, cB1⟩ | exact ⟨keep_alloc cA1 _, keep_alloc cB1 _⟩ | exact ⟨(hk1.cell (p := ⟨g, j, none⟩) hg).trans (keep_alloc cA1 _), (hk1.cell (p := ⟨g, j + 1, none⟩) hg).trans (keep_alloc cB1 _)⟩)
                  (first | (refine step_app rfl (.tmp 37) (.tmp 51) rfl WL.heap.size wr.heap.size o2 [q1] 1 (Ow.drew (Ow.alloc hown.out _)) (Go.heap_alloc_new _ _) rfl rfl rfl (by first | omega | (simp only [List.length_append, List.length_cons, List.length_nil]; omega)) (by first | omega | (simp; omega)) ?_; intro v2 w2 hown2 hk1))
                have hbt2 : Below WL.heap.size WL w2 := hbt1.trans (((Below.refl _ wr).alloc hst1 _).drew.trans hk1)
                have hst2 := hbt2.size
                clear cA1 cB1
                go_wp2_with fail
                have cA2 : w2.drew.cell? ⟨g, j + 1, none⟩ = some (.int .i64 (b : Int)) := (hbt2.cell (p := ⟨g, j + 1, none⟩) hg).trans h1
                have cB2 : w2.drew.cell? ⟨g, j + 2, none⟩ = some (.int .i64 (d2 : Int)) := (hbt2.cell (p := ⟨g, j + 2, none⟩) hg).trans h2
                go_region_held3 (fun w' => w'.cell? ⟨g, j + 1, none⟩ = some (.int .i64 (b : Int)) ∧ w'.cell? ⟨g, j + 2, none⟩ = some (.int .i64 (d2 : Int))) (first | exact ⟨cA2, cB2⟩ | exact ⟨keep_alloc cA2 _, keep_alloc cB2 _⟩ | exact ⟨(hk2.cell (p := ⟨g, j + 1, none⟩) hg).trans (keep_alloc cA2 _), (hk2.cell (p := ⟨g, j + 2, none⟩) hg).trans (keep_alloc cB2 _)⟩)
                  (first | (refine step_app rfl (.tmp 58) (.tmp 74) rfl WL.heap.size w2.heap.size (o2 ++ [q1]) [q2] 1 (Ow.drew (Ow.alloc hown2 _)) (Go.heap_alloc_new _ _) rfl rfl rfl (by first | omega | (simp only [List.length_append, List.length_cons, List.length_nil]; omega)) (by first | omega | (simp; omega)) ?_; intro v3 w3 hown3 hk2))
                have hbt3 : Below WL.heap.size WL w3 := hbt2.trans (((Below.refl _ w2).alloc hst2 _).drew.trans hk2)
                have hst3 := hbt3.size
                clear cA2 cB2
                go_wp2_with fail
                go_roundw
                case rel => exact ⟨j + 4, _, by omega, by go_num, Lib.hid hown3, hbt3, Lib.hid (by rw [← HR.out]), by simp only [List.length_append, List.length_cons, List.length_nil]; omega⟩
                case measure => simp [intOf]; omega
            · rw [show out.drop (j + 2) = [] from List.drop_eq_nil_of_le (by omega), mach2] at hacc
              have HR : Hid (o2 ++ [UInt8.ofNat (out[j] * 4 + out[j + 1] / 16)] ++ mach 0 0 (out.drop (j + 4)) = mach 0 0 out) := Lib.hid (by
                rw [← hacc.out, show out.drop (j + 4) = [] from List.drop_eq_nil_of_le (by omega), show mach 0 0 [] = [] from rfl]
                simp)
              clear hacc hdr hat
              generalize out[j] = a at *
              generalize out[j + 1] = b at *
              have G1 : IntKind.i64.wrap ((j : Int) + 1) = (j : Int) + 1 := IntWalk.i64_in _ (by omega)
              have j0 : 0 ≤ (j : Int) := by omega
              have j1 : (j : Int) < (out.length : Int) := by omega
              have j2 : (j : Int) + 1 < (out.length : Int) := by omega
              have j3 : 0 ≤ (j : Int) + 1 := by omega
              have F1 : IntKind.i64.wrap ((a : Int) * 4) = ((a * 4 : Nat) : Int) := by rw [IntWalk.i64_in _ (by omega)]; omega
              have F2 : (b : Int).tdiv 16 = ((b / 16 : Nat) : Int) := by rw [Int.tdiv_eq_ediv_of_nonneg (by omega)]; omega
              have F2w : IntKind.i64.wrap ((b / 16 : Nat) : Int) = ((b / 16 : Nat) : Int) := IntWalk.i64_in _ (by omega)
              have F3 : IntKind.i64.wrap (((a * 4 : Nat) : Int) + ((b / 16 : Nat) : Int)) = ((a * 4 + b / 16 : Nat) : Int) := by rw [IntWalk.i64_in _ (by omega)]; omega
              have F4 := u8_is (a * 4 + b / 16)
              generalize a * 4 + b / 16 = s1 at *
              generalize a * 4 = a4 at *
              generalize b / 16 = b16 at *
              generalize UInt8.ofNat s1 = q1 at *
              go_wp2_with fail
              have cA1 : wr.drew.cell? ⟨g, j, none⟩ = some (.int .i64 (a : Int)) := (hbt1.cell (p := ⟨g, j, none⟩) hg).trans h0
              have cB1 : wr.drew.cell? ⟨g, j + 1, none⟩ = some (.int .i64 (b : Int)) := (hbt1.cell (p := ⟨g, j + 1, none⟩) hg).trans h1
              go_region_held3 (fun w' => w'.cell? ⟨g, j, none⟩ = some (.int .i64 (a : Int)) ∧ w'.cell? ⟨g, j + 1, none⟩ = some (.int .i64 (b : Int))) (first | exact ⟨cA1, cB1⟩ | exact ⟨keep_alloc cA1 _, keep_alloc cB1 _⟩ | exact ⟨(hk1.cell (p := ⟨g, j, none⟩) hg).trans (keep_alloc cA1 _), (hk1.cell (p := ⟨g, j + 1, none⟩) hg).trans (keep_alloc cB1 _)⟩)
                (first | (refine step_app rfl (.tmp 37) (.tmp 51) rfl WL.heap.size wr.heap.size o2 [q1] 1 (Ow.drew (Ow.alloc hown.out _)) (Go.heap_alloc_new _ _) rfl rfl rfl (by first | omega | (simp only [List.length_append, List.length_cons, List.length_nil]; omega)) (by first | omega | (simp; omega)) ?_; intro v2 w2 hown2 hk1))
              have hbt2 : Below WL.heap.size WL w2 := hbt1.trans (((Below.refl _ wr).alloc hst1 _).drew.trans hk1)
              have hst2 := hbt2.size
              clear cA1 cB1
              go_wp2_with fail
              go_roundw
              case rel => exact ⟨j + 4, _, by omega, by go_num, Lib.hid hown2, hbt2, Lib.hid (by rw [← HR.out]), by simp only [List.length_append, List.length_cons, List.length_nil]; omega⟩
              case measure => simp [intOf]; omega
          · have hend2 : o2 = mach 0 0 out := by
              rw [← hacc.out]
              by_cases h : j < out.length
              · rw [List.drop_eq_getElem_cons h, show out.drop (j + 1) = [] from List.drop_eq_nil_of_le (by omega), mach1, List.append_nil]
              · rw [List.drop_eq_nil_of_le (by omega)]
                exact (List.append_nil _).symm
            have hcv := hown.out.conv
            rw [hend2] at hcv
            clear hacc
            go_wp2_with fail
            go_ret
            exact ⟨rfl, hb.trans (hb2.mono hsz)⟩
      · have hc61 : s[k] ≠ 61 := fun e => h61 (by rw [e]; rfl)
        have e61 : ((s[k].toNat : Int) != 61) = true := by rw [bne_iff_ne]; omega
        have HVR := Lib.hid (fun W => valueR_any s[k] W)
        by_cases h64 : val64 s[k].toNat < 64
        · have hvi : valI s[k].toNat = (val64 s[k].toNat : Int) := by unfold valI; rw [if_pos h64]
          rw [hvi] at HVR
          have HR : Hid (out ++ [val64 s[k].toNat] ++ vals (s.data.toList.drop (k + 1)) = D) := Lib.hid (by
            rw [← hacc.out, hd, vals_cons rfl h64 hc61, List.append_assoc]; rfl)
          clear hacc hd hc61 h61 hvi
          generalize val64 s[k].toNat = v at *
          go_wp2_with (first
            | (go_at_call 23; refine (HVR.out _).mono ?_; rintro e w' ⟨rfl, rfl⟩)
            | (at_builtin; refine app_num rfl _ _ rfl w.heap.size out v hown.out rfl rfl (by omega) hsz ?_; intro v' w2 hown2 hb2))
          go_roundw
          case rel => exact ⟨k + 1, out ++ [v], by omega, by go_num, Lib.hid hown2, hb.trans hb2, HR, by simp only [List.length_append, List.length_cons, List.length_nil]; omega⟩
          case measure => simp [intOf]; omega
        · have hvi : valI s[k].toNat = -1 := by unfold valI; rw [if_neg h64]
          rw [hvi] at HVR
          have HR : Hid (out ++ vals (s.data.toList.drop (k + 1)) = D) := Lib.hid (by
            rw [← hacc.out, hd, vals_junk ⟨hc61, h64⟩])
          clear hacc hd hc61 h61 hvi
          go_wp2_with (go_at_call 23; refine (HVR.out _).mono ?_; rintro e w' ⟨rfl, rfl⟩)
          go_roundw
          case rel => exact ⟨k + 1, out, by omega, by go_num, hown, hb, HR, by omega⟩
          case measure => simp [intOf]; omega
    · have hnil : vals (s.data.toList.drop k) = [] := by rw [List.drop_eq_nil_of_le (by rw [← size_list]; omega)]; rfl
      have hend : out = D := by rw [← hacc.out, hnil, List.append_nil]
      subst hend
      clear hacc hnil
      obtain ⟨WL, rfl⟩ : ∃ WL, WL = wr := ⟨_, rfl⟩
      obtain ⟨a, c, rfl, hcell⟩ := hown.out.shape
      have HCELL := Lib.hid hcell
      clear hcell hown
      go_wp2_with fail
      go_loopw [7, 6] (fun i v wq => ∃ (j : Nat) (o2 : List UInt8), j ≤ out.length + 3 ∧ i = .int .i64 j ∧ Hid (Ow wq WL.heap.size v o2) ∧ Below WL.heap.size WL wq ∧ Hid (o2 ++ mach 0 0 (out.drop j) = mach 0 0 out) ∧ o2.length ≤ j)
        (fun i _ _ => out.length + 3 - (intOf i).toNat)
      case atStart => exact ⟨0, [], Nat.zero_le _, rfl, Lib.hid (ow_nil _ _), Below.refl _ _, Lib.hid rfl, Nat.le_refl _⟩
      case round =>
        obtain ⟨j, o2, hj, rfl, hown, hb2, hacc, ho2⟩ := hrel
        have hsz2 := hb2.size
        by_cases hj1 : j + 1 < out.length
        · obtain ⟨g, rfl, hg, h0⟩ := HCELL.out j (by omega)
          have hat : ∀ i (hi : i < out.length), WL.cell? ⟨g, i, none⟩ = some (.int .i64 (out[i] : Int)) := fun i hi => by
            obtain ⟨g2, e, _, h⟩ := HCELL.out i hi
            cases e
            exact h
          have h1 := hat (j + 1) hj1
          have ha := HD64.out out[j] (List.getElem_mem _)
          have hb64 := HD64.out out[j + 1] (List.getElem_mem _)
          have hdr : out.drop j = out[j] :: out[j + 1] :: out.drop (j + 2) := by rw [List.drop_eq_getElem_cons (by omega), List.drop_eq_getElem_cons (by omega)]
          rw [hdr] at hacc
          have hbt1 := hb2
          have hst1 := hsz2
          by_cases hj2 : j + 2 < out.length
          · by_cases hj3 : j + 3 < out.length
            · have h2 := hat (j + 2) hj2
              have hc64 := HD64.out out[j + 2] (List.getElem_mem _)
              have h3 := hat (j + 3) hj3
              have hd64 := HD64.out out[j + 3] (List.getElem_mem _)
              rw [List.drop_eq_getElem_cons hj2, List.drop_eq_getElem_cons (show j + 2 + 1 < out.length from hj3), mach4] at hacc
              have HR : Hid (o2 ++ [UInt8.ofNat (out[j] * 4 + out[j + 1] / 16)] ++ [UInt8.ofNat (out[j + 1] % 16 * 16 + out[j + 2] / 4)] ++ [UInt8.ofNat (out[j + 2] % 4 * 64 + out[j + 3])] ++ mach 0 0 (out.drop (j + 4)) = mach 0 0 out) := Lib.hid (by
                rw [← hacc.out]
                simp)
              clear hacc hdr hat
              generalize out[j] = a at *
              generalize out[j + 1] = b at *
              generalize out[j + 2] = d2 at *
              generalize out[j + 3] = d3 at *
              have G1 : IntKind.i64.wrap ((j : Int) + 1) = (j : Int) + 1 := IntWalk.i64_in _ (by omega)
              have j0 : 0 ≤ (j : Int) := by omega
              have j1 : (j : Int) < (out.length : Int) := by omega
              have j2 : (j : Int) + 1 < (out.length : Int) := by omega
              have j3 : 0 ≤ (j : Int) + 1 := by omega
              have G2 : IntKind.i64.wrap ((j : Int) + 2) = (j : Int) + 2 := IntWalk.i64_in _ (by omega)
              have j4 : (j : Int) + 2 < (out.length : Int) := by omega
              have j5 : 0 ≤ (j : Int) + 2 := by omega
              have T2 : ((j : Int) + 2).toNat = j + 2 := by omega
              have G3 : IntKind.i64.wrap ((j : Int) + 3) = (j : Int) + 3 := IntWalk.i64_in _ (by omega)
              have j6 : (j : Int) + 3 < (out.length : Int) := by omega
              have j7 : 0 ≤ (j : Int) + 3 := by omega
              have T3 : ((j : Int) + 3).toNat = j + 3 := by omega
              have F1 : IntKind.i64.wrap ((a : Int) * 4) = ((a * 4 : Nat) : Int) := by rw [IntWalk.i64_in _ (by omega)]; omega
              have F2 : (b : Int).tdiv 16 = ((b / 16 : Nat) : Int) := by rw [Int.tdiv_eq_ediv_of_nonneg (by omega)]; omega
              have F2w : IntKind.i64.wrap ((b / 16 : Nat) : Int) = ((b / 16 : Nat) : Int) := IntWalk.i64_in _ (by omega)
              have F3 : IntKind.i64.wrap (((a * 4 : Nat) : Int) + ((b / 16 : Nat) : Int)) = ((a * 4 + b / 16 : Nat) : Int) := by rw [IntWalk.i64_in _ (by omega)]; omega
              have F4 := u8_is (a * 4 + b / 16)
              have F5 : (b : Int).tmod 16 = ((b % 16 : Nat) : Int) := by rw [Int.tmod_eq_emod_of_nonneg (by omega)]; omega
              have F6 : IntKind.i64.wrap (((b % 16 : Nat) : Int) * 16) = ((b % 16 * 16 : Nat) : Int) := by rw [IntWalk.i64_in _ (by omega)]; omega
              have F7 : (d2 : Int).tdiv 4 = ((d2 / 4 : Nat) : Int) := by rw [Int.tdiv_eq_ediv_of_nonneg (by omega)]; omega
              have F7w : IntKind.i64.wrap ((d2 / 4 : Nat) : Int) = ((d2 / 4 : Nat) : Int) := IntWalk.i64_in _ (by omega)
              have F8 : IntKind.i64.wrap (((b % 16 * 16 : Nat) : Int) + ((d2 / 4 : Nat) : Int)) = ((b % 16 * 16 + d2 / 4 : Nat) : Int) := by rw [IntWalk.i64_in _ (by omega)]; omega
              have F9 := u8_is (b % 16 * 16 + d2 / 4)
              have F10 : (d2 : Int).tmod 4 = ((d2 % 4 : Nat) : Int) := by rw [Int.tmod_eq_emod_of_nonneg (by omega)]; omega
              have F11 : IntKind.i64.wrap (((d2 % 4 : Nat) : Int) * 64) = ((d2 % 4 * 64 : Nat) : Int) := by rw [IntWalk.i64_in _ (by omega)]; omega
              have F12 : IntKind.i64.wrap (((d2 % 4 * 64 : Nat) : Int) + (d3 : Int)) = ((d2 % 4 * 64 + d3 : Nat) : Int) := by rw [IntWalk.i64_in _ (by omega)]; omega
              have F13 := u8_is (d2 % 4 * 64 + d3)
              generalize a * 4 + b / 16 = s1 at *
              generalize a * 4 = a4 at *
              generalize b / 16 = b16 at *
              generalize UInt8.ofNat s1 = q1 at *
              generalize b % 16 * 16 + d2 / 4 = s2 at *
              generalize b % 16 * 16 = b5 at *
              generalize b % 16 = b4 at *
              generalize d2 / 4 = c4 at *
              generalize UInt8.ofNat s2 = q2 at *
              generalize d2 % 4 * 64 + d3 = s3 at *
              generalize d2 % 4 * 64 = d5 at *
              generalize d2 % 4 = d4 at *
              generalize UInt8.ofNat s3 = q3 at *
              go_wp2_with fail
              have cA1 : wr.drew.cell? ⟨g, j, none⟩ = some (.int .i64 (a : Int)) := (hbt1.cell (p := ⟨g, j, none⟩) hg).trans h0
              have cB1 : wr.drew.cell? ⟨g, j + 1, none⟩ = some (.int .i64 (b : Int)) := (hbt1.cell (p := ⟨g, j + 1, none⟩) hg).trans h1
              go_region_held3 (fun w' => w'.cell? ⟨g, j, none⟩ = some (.int .i64 (a : Int)) ∧ w'.cell? ⟨g, j + 1, none⟩ = some (.int .i64 (b : Int))) (first | exact ⟨cA1, cB1⟩ | exact ⟨keep_alloc cA1 _, keep_alloc cB1 _⟩ | exact ⟨(hk1.cell (p := ⟨g, j, none⟩) hg).trans (keep_alloc cA1 _), (hk1.cell (p := ⟨g, j + 1, none⟩) hg).trans (keep_alloc cB1 _)⟩)
                (first | (refine step_app rfl (.tmp 37) (.tmp 51) rfl WL.heap.size wr.heap.size o2 [q1] 1 (Ow.drew (Ow.alloc hown.out _)) (Go.heap_alloc_new _ _) rfl rfl rfl (by first | omega | (simp only [List.length_append, List.length_cons, List.length_nil]; omega)) (by first | omega | (simp; omega)) ?_; intro v2 w2 hown2 hk1))
              have hbt2 : Below WL.heap.size WL w2 := hbt1.trans (((Below.refl _ wr).alloc hst1 _).drew.trans hk1)
              have hst2 := hbt2.size
              clear cA1 cB1
              go_wp2_with fail
              have cA2 : w2.drew.cell? ⟨g, j + 1, none⟩ = some (.int .i64 (b : Int)) := (hbt2.cell (p := ⟨g, j + 1, none⟩) hg).trans h1
              have cB2 : w2.drew.cell? ⟨g, j + 2, none⟩ = some (.int .i64 (d2 : Int)) := (hbt2.cell (p := ⟨g, j + 2, none⟩) hg).trans h2
              go_region_held3 (fun w' => w'.cell? ⟨g, j + 1, none⟩ = some (.int .i64 (b : Int)) ∧ w'.cell? ⟨g, j + 2, none⟩ = some (.int .i64 (d2 : Int))) (first | exact ⟨cA2, cB2⟩ | exact ⟨keep_alloc cA2 _, keep_alloc cB2 _⟩ | exact ⟨(hk2.cell (p := ⟨g, j + 1, none⟩) hg).trans (keep_alloc cA2 _), (hk2.cell (p := ⟨g, j + 2, none⟩) hg).trans (keep_alloc cB2 _)⟩)
                (first | (refine step_app rfl (.tmp 58) (.tmp 74) rfl WL.heap.size w2.heap.size (o2 ++ [q1]) [q2] 1 (Ow.drew (Ow.alloc hown2 _)) (Go.heap_alloc_new _ _) rfl rfl rfl (by first | omega | (simp only [List.length_append, List.length_cons, List.length_nil]; omega)) (by first | omega | (simp; omega)) ?_; intro v3 w3 hown3 hk2))
              have hbt3 : Below WL.heap.size WL w3 := hbt2.trans (((Below.refl _ w2).alloc hst2 _).drew.trans hk2)
              have hst3 := hbt3.size
              clear cA2 cB2
              go_wp2_with fail
              have cA3 : w3.drew.cell? ⟨g, j + 2, none⟩ = some (.int .i64 (d2 : Int)) := (hbt3.cell (p := ⟨g, j + 2, none⟩) hg).trans h2
              have cB3 : w3.drew.cell? ⟨g, j + 3, none⟩ = some (.int .i64 (d3 : Int)) := (hbt3.cell (p := ⟨g, j + 3, none⟩) hg).trans h3
              go_region_held3 (fun w' => w'.cell? ⟨g, j + 2, none⟩ = some (.int .i64 (d2 : Int)) ∧ w'.cell? ⟨g, j + 3, none⟩ = some (.int .i64 (d3 : Int))) (first | exact ⟨cA3, cB3⟩ | exact ⟨keep_alloc cA3 _, keep_alloc cB3 _⟩ | exact ⟨(hk3.cell (p := ⟨g, j + 2, none⟩) hg).trans (keep_alloc cA3 _), (hk3.cell (p := ⟨g, j + 3, none⟩) hg).trans (keep_alloc cB3 _)⟩)
                (first | (refine step_app rfl (.tmp 81) (.tmp 96) rfl WL.heap.size w3.heap.size (o2 ++ [q1] ++ [q2]) [q3] 1 (Ow.drew (Ow.alloc hown3 _)) (Go.heap_alloc_new _ _) rfl rfl rfl (by first | omega | (simp only [List.length_append, List.length_cons, List.length_nil]; omega)) (by first | omega | (simp; omega)) ?_; intro v4 w4 hown4 hk3))
              have hbt4 : Below WL.heap.size WL w4 := hbt3.trans (((Below.refl _ w3).alloc hst3 _).drew.trans hk3)
              have hst4 := hbt4.size
              clear cA3 cB3
              go_wp2_with fail
              go_roundw
              case rel => exact ⟨j + 4, _, by omega, by go_num, Lib.hid hown4, hbt4, Lib.hid (by rw [← HR.out]), by simp only [List.length_append, List.length_cons, List.length_nil]; omega⟩
              case measure => simp [intOf]; omega
            · have h2 := hat (j + 2) hj2
              have hc64 := HD64.out out[j + 2] (List.getElem_mem _)
              rw [List.drop_eq_getElem_cons hj2, show out.drop (j + 2 + 1) = [] from List.drop_eq_nil_of_le (by omega), mach3] at hacc
              have HR : Hid (o2 ++ [UInt8.ofNat (out[j] * 4 + out[j + 1] / 16)] ++ [UInt8.ofNat (out[j + 1] % 16 * 16 + out[j + 2] / 4)] ++ mach 0 0 (out.drop (j + 4)) = mach 0 0 out) := Lib.hid (by
                rw [← hacc.out, show out.drop (j + 4) = [] from List.drop_eq_nil_of_le (by omega), show mach 0 0 [] = [] from rfl]
                simp)
              clear hacc hdr hat
              generalize out[j] = a at *
              generalize out[j + 1] = b at *
              generalize out[j + 2] = d2 at *
              have G1 : IntKind.i64.wrap ((j : Int) + 1) = (j : Int) + 1 := IntWalk.i64_in _ (by omega)
              have j0 : 0 ≤ (j : Int) := by omega
              have j1 : (j : Int) < (out.length : Int) := by omega
              have j2 : (j : Int) + 1 < (out.length : Int) := by omega
              have j3 : 0 ≤ (j : Int) + 1 := by omega
              have G2 : IntKind.i64.wrap ((j : Int) + 2) = (j : Int) + 2 := IntWalk.i64_in _ (by omega)
              have j4 : (j : Int) + 2 < (out.length : Int) := by omega
              have j5 : 0 ≤ (j : Int) + 2 := by omega
              have T2 : ((j : Int) + 2).toNat = j + 2 := by omega
              have F1 : IntKind.i64.wrap ((a : Int) * 4) = ((a * 4 : Nat) : Int) := by rw [IntWalk.i64_in _ (by omega)]; omega
              have F2 : (b : Int).tdiv 16 = ((b / 16 : Nat) : Int) := by rw [Int.tdiv_eq_ediv_of_nonneg (by omega)]; omega
              have F2w : IntKind.i64.wrap ((b / 16 : Nat) : Int) = ((b / 16 : Nat) : Int) := IntWalk.i64_in _ (by omega)
              have F3 : IntKind.i64.wrap (((a * 4 : Nat) : Int) + ((b / 16 : Nat) : Int)) = ((a * 4 + b / 16 : Nat) : Int) := by rw [IntWalk.i64_in _ (by omega)]; omega
              have F4 := u8_is (a * 4 + b / 16)
              have F5 : (b : Int).tmod 16 = ((b % 16 : Nat) : Int) := by rw [Int.tmod_eq_emod_of_nonneg (by omega)]; omega
              have F6 : IntKind.i64.wrap (((b % 16 : Nat) : Int) * 16) = ((b % 16 * 16 : Nat) : Int) := by rw [IntWalk.i64_in _ (by omega)]; omega
              have F7 : (d2 : Int).tdiv 4 = ((d2 / 4 : Nat) : Int) := by rw [Int.tdiv_eq_ediv_of_nonneg (by omega)]; omega
              have F7w : IntKind.i64.wrap ((d2 / 4 : Nat) : Int) = ((d2 / 4 : Nat) : Int) := IntWalk.i64_in _ (by omega)
              have F8 : IntKind.i64.wrap (((b % 16 * 16 : Nat) : Int) + ((d2 / 4 : Nat) : Int)) = ((b % 16 * 16 + d2 / 4 : Nat) : Int) := by rw [IntWalk.i64_in _ (by omega)]; omega
              have F9 := u8_is (b % 16 * 16 + d2 / 4)
              generalize a * 4 + b / 16 = s1 at *
              generalize a * 4 = a4 at *
              generalize b / 16 = b16 at *
              generalize UInt8.ofNat s1 = q1 at *
              generalize b % 16 * 16 + d2 / 4 = s2 at *
              generalize b % 16 * 16 = b5 at *
              generalize b % 16 = b4 at *
              generalize d2 / 4 = c4 at *
              generalize UInt8.ofNat s2 = q2 at *
              go_wp2_with fail
              have cA1 : wr.drew.cell? ⟨g, j, none⟩ = some (.int .i64 (a : Int)) := (hbt1.cell (p := ⟨g, j, none⟩) hg).trans h0
              have cB1 : wr.drew.cell? ⟨g, j + 1, none⟩ = some (.int .i64 (b : Int)) := (hbt1.cell (p := ⟨g, j + 1, none⟩) hg).trans h1
              go_region_held3 (fun w' => w'.cell? ⟨g, j, none⟩ = some (.int .i64 (a : Int)) ∧ w'.cell? ⟨g, j + 1, none⟩ = some (.int .i64 (b : Int))) (first | exact ⟨cA1, cB1⟩ | exact ⟨keep_alloc cA1 _, keep_alloc cB1 _⟩ | exact ⟨(hk1.cell (p := ⟨g, j, none⟩) hg).trans (keep_alloc cA1 _), (hk1.cell (p := ⟨g, j + 1, none⟩) hg).trans (keep_alloc cB1 _)⟩)
                (first | (refine step_app rfl (.tmp 37) (.tmp 51) rfl WL.heap.size wr.heap.size o2 [q1] 1 (Ow.drew (Ow.alloc hown.out _)) (Go.heap_alloc_new _ _) rfl rfl rfl (by first | omega | (simp only [List.length_append, List.length_cons, List.length_nil]; omega)) (by first | omega | (simp; omega)) ?_; intro v2 w2 hown2 hk1))
              have hbt2 : Below WL.heap.size WL w2 := hbt1.trans (((Below.refl _ wr).alloc hst1 _).drew.trans hk1)
              have hst2 := hbt2.size
              clear cA1 cB1
              go_wp2_with fail
              have cA2 : w2.drew.cell? ⟨g, j + 1, none⟩ = some (.int .i64 (b : Int)) := (hbt2.cell (p := ⟨g, j + 1, none⟩) hg).trans h1
              have cB2 : w2.drew.cell? ⟨g, j + 2, none⟩ = some (.int .i64 (d2 : Int)) := (hbt2.cell (p := ⟨g, j + 2, none⟩) hg).trans h2
              go_region_held3 (fun w' => w'.cell? ⟨g, j + 1, none⟩ = some (.int .i64 (b : Int)) ∧ w'.cell? ⟨g, j + 2, none⟩ = some (.int .i64 (d2 : Int))) (first | exact ⟨cA2, cB2⟩ | exact ⟨keep_alloc cA2 _, keep_alloc cB2 _⟩ | exact ⟨(hk2.cell (p := ⟨g, j + 1, none⟩) hg).trans (keep_alloc cA2 _), (hk2.cell (p := ⟨g, j + 2, none⟩) hg).trans (keep_alloc cB2 _)⟩)
                (first | (refine step_app rfl (.tmp 58) (.tmp 74) rfl WL.heap.size w2.heap.size (o2 ++ [q1]) [q2] 1 (Ow.drew (Ow.alloc hown2 _)) (Go.heap_alloc_new _ _) rfl rfl rfl (by first | omega | (simp only [List.length_append, List.length_cons, List.length_nil]; omega)) (by first | omega | (simp; omega)) ?_; intro v3 w3 hown3 hk2))
              have hbt3 : Below WL.heap.size WL w3 := hbt2.trans (((Below.refl _ w2).alloc hst2 _).drew.trans hk2)
              have hst3 := hbt3.size
              clear cA2 cB2
              go_wp2_with fail
              go_roundw
              case rel => exact ⟨j + 4, _, by omega, by go_num, Lib.hid hown3, hbt3, Lib.hid (by rw [← HR.out]), by simp only [List.length_append, List.length_cons, List.length_nil]; omega⟩
              case measure => simp [intOf]; omega
          · rw [show out.drop (j + 2) = [] from List.drop_eq_nil_of_le (by omega), mach2] at hacc
            have HR : Hid (o2 ++ [UInt8.ofNat (out[j] * 4 + out[j + 1] / 16)] ++ mach 0 0 (out.drop (j + 4)) = mach 0 0 out) := Lib.hid (by
              rw [← hacc.out, show out.drop (j + 4) = [] from List.drop_eq_nil_of_le (by omega), show mach 0 0 [] = [] from rfl]
              simp)
            clear hacc hdr hat
            generalize out[j] = a at *
            generalize out[j + 1] = b at *
            have G1 : IntKind.i64.wrap ((j : Int) + 1) = (j : Int) + 1 := IntWalk.i64_in _ (by omega)
            have j0 : 0 ≤ (j : Int) := by omega
            have j1 : (j : Int) < (out.length : Int) := by omega
            have j2 : (j : Int) + 1 < (out.length : Int) := by omega
            have j3 : 0 ≤ (j : Int) + 1 := by omega
            have F1 : IntKind.i64.wrap ((a : Int) * 4) = ((a * 4 : Nat) : Int) := by rw [IntWalk.i64_in _ (by omega)]; omega
            have F2 : (b : Int).tdiv 16 = ((b / 16 : Nat) : Int) := by rw [Int.tdiv_eq_ediv_of_nonneg (by omega)]; omega
            have F2w : IntKind.i64.wrap ((b / 16 : Nat) : Int) = ((b / 16 : Nat) : Int) := IntWalk.i64_in _ (by omega)
            have F3 : IntKind.i64.wrap (((a * 4 : Nat) : Int) + ((b / 16 : Nat) : Int)) = ((a * 4 + b / 16 : Nat) : Int) := by rw [IntWalk.i64_in _ (by omega)]; omega
            have F4 := u8_is (a * 4 + b / 16)
            generalize a * 4 + b / 16 = s1 at *
            generalize a * 4 = a4 at *
            generalize b / 16 = b16 at *
            generalize UInt8.ofNat s1 = q1 at *
            go_wp2_with fail
            have cA1 : wr.drew.cell? ⟨g, j, none⟩ = some (.int .i64 (a : Int)) := (hbt1.cell (p := ⟨g, j, none⟩) hg).trans h0
            have cB1 : wr.drew.cell? ⟨g, j + 1, none⟩ = some (.int .i64 (b : Int)) := (hbt1.cell (p := ⟨g, j + 1, none⟩) hg).trans h1
            go_region_held3 (fun w' => w'.cell? ⟨g, j, none⟩ = some (.int .i64 (a : Int)) ∧ w'.cell? ⟨g, j + 1, none⟩ = some (.int .i64 (b : Int))) (first | exact ⟨cA1, cB1⟩ | exact ⟨keep_alloc cA1 _, keep_alloc cB1 _⟩ | exact ⟨(hk1.cell (p := ⟨g, j, none⟩) hg).trans (keep_alloc cA1 _), (hk1.cell (p := ⟨g, j + 1, none⟩) hg).trans (keep_alloc cB1 _)⟩)
              (first | (refine step_app rfl (.tmp 37) (.tmp 51) rfl WL.heap.size wr.heap.size o2 [q1] 1 (Ow.drew (Ow.alloc hown.out _)) (Go.heap_alloc_new _ _) rfl rfl rfl (by first | omega | (simp only [List.length_append, List.length_cons, List.length_nil]; omega)) (by first | omega | (simp; omega)) ?_; intro v2 w2 hown2 hk1))
            have hbt2 : Below WL.heap.size WL w2 := hbt1.trans (((Below.refl _ wr).alloc hst1 _).drew.trans hk1)
            have hst2 := hbt2.size
            clear cA1 cB1
            go_wp2_with fail
            go_roundw
            case rel => exact ⟨j + 4, _, by omega, by go_num, Lib.hid hown2, hbt2, Lib.hid (by rw [← HR.out]), by simp only [List.length_append, List.length_cons, List.length_nil]; omega⟩
            case measure => simp [intOf]; omega
        · have hend2 : o2 = mach 0 0 out := by
            rw [← hacc.out]
            by_cases h : j < out.length
            · rw [List.drop_eq_getElem_cons h, show out.drop (j + 1) = [] from List.drop_eq_nil_of_le (by omega), mach1, List.append_nil]
            · rw [List.drop_eq_nil_of_le (by omega)]
              exact (List.append_nil _).symm
          have hcv := hown.out.conv
          rw [hend2] at hcv
          clear hacc
          go_wp2_with fail
          go_ret
          exact ⟨rfl, hb.trans (hb2.mono hsz)⟩
end Go.Proofs.YtblbajhjmdcdiaaDoor
