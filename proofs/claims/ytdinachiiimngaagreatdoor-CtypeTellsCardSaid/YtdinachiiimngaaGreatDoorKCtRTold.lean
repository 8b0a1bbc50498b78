/- The reference's Told. -/
import Derived.Test.YtdinachiiimngaaGreatDoorK4
import Derived.Test.YtdinachiiimngaaGreatDoorK5
import Derived.Test.YtdinachiiimngaaGreatDoorKNuRefParse
import Derived.Laws.Rows
namespace Go.Proofs.YtdinachiiimngaaGreatDoor
open Go.ChangeShapes Go.WideShapes Go.ChangeAt Go.RowKit
open TokP AdrP CtP

theorem Ox.put {w : World} {g g' : Nat} {N V : ByteArray} {S : Int} {I : Bool} (h : Ox w g N S I V) (hg : g ≠ g') (i : Nat) (v : Value) : Ox (w.setCell ⟨g', i, none⟩ v) g N S I V :=
  (Below.heap_setCell w ⟨g', i, none⟩ v g hg).trans h
theorem Ox.set0 {w : World} {g : Nat} {N V : ByteArray} {S : Int} {I : Bool} (h : Ox w g N S I V) (M : ByteArray) : Ox (w.setCell ⟨g, 0, none⟩ (.string M)) g M S I V := by
  have h' : w.heap[g]? = some (.cells #[.string N, .int .i64 S, .bool I, .string V] 105 (0, 0)) := h
  show (w.setCell ⟨g, 0, none⟩ (.string M)).heap[g]? = _
  simp [World.setCell, Array.getElem?_modify, h']
theorem Ox.set1 {w : World} {g : Nat} {N V : ByteArray} {S : Int} {I : Bool} (h : Ox w g N S I V) (T : Int) : Ox (w.setCell ⟨g, 1, none⟩ (.int .i64 T)) g N T I V := by
  have h' : w.heap[g]? = some (.cells #[.string N, .int .i64 S, .bool I, .string V] 105 (0, 0)) := h
  show (w.setCell ⟨g, 1, none⟩ (.int .i64 T)).heap[g]? = _
  simp [World.setCell, Array.getElem?_modify, h']
theorem Ox.set2 {w : World} {g : Nat} {N V : ByteArray} {S : Int} {I : Bool} (h : Ox w g N S I V) (J : Bool) : Ox (w.setCell ⟨g, 2, none⟩ (.bool J)) g N S J V := by
  have h' : w.heap[g]? = some (.cells #[.string N, .int .i64 S, .bool I, .string V] 105 (0, 0)) := h
  show (w.setCell ⟨g, 2, none⟩ (.bool J)).heap[g]? = _
  simp [World.setCell, Array.getElem?_modify, h']
theorem Ox.all {w : World} {g : Nat} {N V : ByteArray} {S : Int} {I : Bool} (h : Ox w g N S I V) : w.cell? ⟨g, 0, none⟩ = some (.string N) ∧ w.cell? ⟨g, 1, none⟩ = some (.int .i64 S) ∧ w.cell? ⟨g, 2, none⟩ = some (.bool I) ∧ w.cell? ⟨g, 3, none⟩ = some (.string V) ∧ ∀ i, w.frozen? ⟨g, i, none⟩ = false := ⟨h.c0, h.c1, h.c2, h.c3, h.fr⟩
theorem told_box (w : World) (N V : ByteArray) (I : Bool) : Hid (Below w.heap.size w ((w.alloc (.cells #[.string ⟨#[]⟩, .int .i64 0, .bool false, .string ⟨#[]⟩] 105)).alloc (.cells #[.string N, .int .i64 (-1), .bool I, .string V] 105))) ∧
    Hid (Ox ((w.alloc (.cells #[.string ⟨#[]⟩, .int .i64 0, .bool false, .string ⟨#[]⟩] 105)).alloc (.cells #[.string N, .int .i64 (-1), .bool I, .string V] 105)) (w.heap.size + 1) N (-1) I V) ∧
    Hid (Ox ((w.alloc (.cells #[.string ⟨#[]⟩, .int .i64 0, .bool false, .string ⟨#[]⟩] 105)).alloc (.cells #[.string N, .int .i64 (-1), .bool I, .string V] 105)) w.heap.size ⟨#[]⟩ 0 false ⟨#[]⟩) := by
  have hb1 := (Below.refl w.heap.size w).alloc (Nat.le_refl _) (.cells #[.string ⟨#[]⟩, .int .i64 0, .bool false, .string ⟨#[]⟩] 105)
  have h := ox_new (w.alloc (.cells #[.string ⟨#[]⟩, .int .i64 0, .bool false, .string ⟨#[]⟩] 105)) N V (-1) I
  rw [World.size_alloc] at h
  exact ⟨Lib.hid (hb1.alloc hb1.size _), Lib.hid h, Lib.hid ((ox_new w ⟨#[]⟩ ⟨#[]⟩ 0 false).step ((Below.refl _ _).alloc (Nat.le_refl _) _))⟩
theorem one_told (p : Par) (N V : ByteArray) (S : Int) (I : Bool) (h1 : strL p.name = N) (h2 : secZ p.sec = S) (h3 : p.wide = I) (h4 : strL p.value = V) : oneA (some p) = .agg #[.string N, .int .i64 S, .bool I, .string V] := by subst h1 h2 h3 h4; rfl
set_option maxRecDepth 100000 in
set_option maxHeartbeats 8000000 in
theorem rtold_wide (s V : ByteArray) (hs : s.size ≤ 900000) (hw : wideB s.data.toList = true) (w : World) :
    Calls Tryz.prog 112 #[.string s, .string V] w fun e w' => e = .returned (oneA (some (toldP numF s.data.toList V.data.toList))) ∧ Below w.heap.size w w' := by
  have hz := size_list s
  obtain ⟨n, hn⟩ : ∃ n, (if wideB s.data.toList = true then s.data.toList.dropLast else s.data.toList) = n := ⟨_, rfl⟩
  obtain ⟨HB1, HX1, HZ1⟩ := told_box w s V false
  obtain ⟨x0, x1, x2, x3, xf⟩ := HX1.out.all
  have hw2 : 2 ≤ s.data.toList.length ∧ s.data.toList.getLast? = some 42 := by
    unfold wideB at hw
    rw [Bool.and_eq_true, decide_eq_true_eq, beq_iff_eq] at hw
    exact hw
  have hl1 : (1 : Int) < (s.size : Int) := by omega
  have hn2 : s.data.toList.dropLast = n := by rw [← hn, if_pos hw]
  have FS : IntKind.i64.wrap ((s.size : Int) - 1) = (s.size : Int) - 1 := by rw [IntKind.wrap_i64]; omega
  obtain ⟨dl, yl, hdl, hyl, _, SL⟩ := run_byte s (s.size - 1) (by omega)
  rw [show ((s.size - 1 : Nat) : Int) = (s.size : Int) - 1 by omega] at SL
  have el := byte_is dl yl hyl 42 (by decide)
  rw [show ((42 : Nat) : Int) = 42 from rfl, show decide (dl = UInt8.ofNat 42) = true from decide_eq_true (by
    have h := hw2.2
    rw [List.getLast?_eq_getElem?, ← hz, hdl] at h
    exact Option.some.inj h)] at el
  have RS := run_slice_to s (s.size - 1) ((s.size : Int) - 1) (by omega) (by omega)
  have eS : s.extract 0 (s.size - 1) = strL n := bytes_is (by rw [part_start s (s.size - 1) (by omega), strL_list, ← hn2, List.dropLast_eq_take, ← hz])
  rw [eS] at RS
  have hnz : n.length ≤ 900000 := by rw [← hn2, List.length_dropLast]; omega
  obtain ⟨HB2, HX2, HZ2⟩ := told_box w (strL n) V true
  have HN := Lib.hid hn
  have HW := Lib.hid hw
  have HS := Lib.hid (strL_list n)
  have HSZ := Lib.hid (strL_size n)
  have FM : IntKind.i64.wrap (((strL n).size : Int) - 1) = ((strL n).size : Int) - 1 := by rw [IntKind.wrap_i64, strL_size]; omega
  obtain ⟨m, hm⟩ : ∃ m, (strL n).size = m := ⟨_, rfl⟩
  rw [hm] at FM
  have HM := Lib.hid (show n.length = m by rw [← hm, strL_size])
  have hmz : m ≤ 900000 := by have := HM.out; omega
  clear hz hn hw hw2 hn2 hnz eS hdl hyl 
  have HNS := Lib.hid (show strL n = strL n from rfl)
  generalize hns : strL n = ns at RS HB2 HX2 HZ2 HS HSZ hm HNS
  replace HNS := Lib.hid hns
  clear hns
  go_enter Tryz.func112, Tryz.ntmps112
  go_wp2_with fail
  go_loopw [7] (fun i wr => ∃ (x : Int) (k : Nat), k ≤ m ∧ i = .int .i64 x ∧ Hid (x + 1 = k) ∧ Hid (Below w.heap.size w wr) ∧ Hid (Ox wr w.heap.size ⟨#[]⟩ 0 false ⟨#[]⟩) ∧ Hid (Ox wr (w.heap.size + 1) ns (-1) true V) ∧ Hid (42 ∉ n.drop k)) (fun i _ => (intOf i + 1).toNat)
  case atStart => exact ⟨(m : Int) - 1, m, Nat.le_refl _, by go_num, Lib.hid (by omega), HB2, HZ2, HX2, Lib.hid (by rw [List.drop_eq_nil_of_le (by rw [HM.out]; exact Nat.le_refl _)]; exact List.not_mem_nil)⟩
  case round =>
    obtain ⟨x, k, hk, rfl, HK, HB, HZ, HX, HD⟩ := hrel
    obtain ⟨y0, y1, y2, y3, yf⟩ := HX.out.all
    obtain ⟨z0, z1, z2, z3, zf⟩ := HZ.out.all
    cases k with
    | zero =>
      obtain rfl : x = -1 := by have := HK.out; omega
      have HA := Lib.hid (one_told (toldP numF s.data.toList V.data.toList) ns V (-1) true (by rw [told_no numF _ _ n HN.out (by have := HD.out; rwa [List.drop_zero] at this)]; exact HNS.out) (by rw [told_no numF _ _ n HN.out (by have := HD.out; rwa [List.drop_zero] at this)]; rfl) (by rw [told_no numF _ _ n HN.out (by have := HD.out; rwa [List.drop_zero] at this)]; exact HW.out) (by rw [told_no numF _ _ n HN.out (by have := HD.out; rwa [List.drop_zero] at this)]; exact strL_of V))
      go_wp2_with fail
      rw [HA.out]
      exact bodyPost_ret (results_cell_row rfl _ _ w.heap.size 105 _ _ _ rfl (set_four HZ.out) Tryz.underlying105 rfl rowsOne) rfl ⟨rfl, below_four HB.out (Nat.le_refl _) _ _ _ _⟩
    | succ j =>
      obtain rfl : x = (j : Int) := by have := HK.out; omega
      have h0 : (0 : Int) ≤ (j : Int) := by omega
      have F1 : IntKind.i64.wrap ((j : Int) - 1) = (j : Int) - 1 := by rw [IntKind.wrap_i64]; omega
      have F2 : IntKind.i64.wrap ((j : Int) + 1) = (j : Int) + 1 := by rw [IntKind.wrap_i64]; omega
      obtain ⟨d, y, hd, hy, hy2, S1⟩ := run_byte ns j (by omega)
      rw [HS.out] at hd
      have e42 := byte_is d y hy 42 (by decide)
      rw [show ((42 : Nat) : Int) = 42 from rfl] at e42
      by_cases h42 : d = 42
      · rw [show decide (d = UInt8.ofNat 42) = true from decide_eq_true h42] at e42
        have hta := told_at (num := numF) (value := V.data.toList) HN.out (h42 ▸ hd) HD.out
        have R1 := run_slice_from ns (j + 1) ((j : Int) + 1) (by omega) (by omega)
        have R2 := run_slice_to ns j (j : Int) rfl (by omega)
        have e1 : ns.extract (j + 1) ns.size = strL (n.drop (j + 1)) := bytes_is (by rw [part_rest ns (j + 1) (by omega), strL_list, HS.out])
        have e2 : ns.extract 0 j = strL (n.take j) := bytes_is (by rw [part_start ns j (by omega), strL_list, HS.out])
        rw [e1] at R1
        rw [e2] at R2
        have cP := fun W => Nu.parseR_any (strL (n.drop (j + 1))) 0 63 (by rw [strL_size, List.length_drop, HM.out]; omega) W
        rw [strL_list] at cP
        unfold Nu.Ans at cP
        cases hp : Nu.parseIn (n.drop (j + 1)) 0 63 with
        | some z =>
          have hrz := parseIn_range hp
          rw [hp] at cP
          have hq : toldP numF s.data.toList V.data.toList = ⟨n.take j, some z.toNat, true, V.data.toList⟩ := by rw [hta]; unfold numF; rw [hp, HW.out]; rfl
          have HA := Lib.hid (one_told (toldP numF s.data.toList V.data.toList) (strL (n.take j)) V z true (by rw [hq]) (by rw [hq]; unfold secZ; simp only []; omega) (by rw [hq]) (by rw [hq]; exact strL_of V))
          simp only [Option.getD_some, Option.isSome_some] at cP
          generalize strL (n.drop (j + 1)) = ys at R1 cP
          generalize strL (n.take j) = xs at R2 HA
          clear hd hy hta h42 e1 e2 hp hq hrz
          go_wp2_with (go_at_call 158; (with_reducible refine (cP _).mono ?_); rintro e w3 ⟨rfl, hb3⟩; have HB3 := Lib.hid (HB.out.trans (hb3.mono HB.out.size)); have HX3 := Lib.hid (HX.out.step hb3); have HZ3 := Lib.hid (HZ.out.step hb3); clear y0 y1 y2 y3 yf z0 z1 z2 z3 zf hb3 cP; obtain ⟨y0, y1, y2, y3, yf⟩ := HX3.out.all; obtain ⟨z0, z1, z2, z3, zf⟩ := HZ3.out.all)
          rw [HA.out]
          exact bodyPost_ret (results_cell_row rfl _ _ w.heap.size 105 _ _ _ rfl (set_four ((HZ3.out.put (g' := w.heap.size + 1) (by omega) 1 _).put (g' := w.heap.size + 1) (by omega) 0 _)) Tryz.underlying105 rfl rowsOne) rfl ⟨rfl, below_four (below_at (below_at HB3.out ⟨w.heap.size + 1, 1, none⟩ (Nat.le_succ _) _) ⟨w.heap.size + 1, 0, none⟩ (Nat.le_succ _) _) (Nat.le_refl _) _ _ _ _⟩
        | none =>
          rw [hp] at cP
          have hq : toldP numF s.data.toList V.data.toList = ⟨n, none, true, V.data.toList⟩ := by rw [hta]; unfold numF; rw [hp, HW.out]; rfl
          have HA := Lib.hid (one_told (toldP numF s.data.toList V.data.toList) ns V (-1) true (by rw [hq]; exact HNS.out) (by rw [hq]; rfl) (by rw [hq]) (by rw [hq]; exact strL_of V))
          simp only [Option.getD_none, Option.isSome_none] at cP
          generalize strL (n.drop (j + 1)) = ys at R1 cP
          clear hd hy hta h42 e1 e2 hp hq R2
          go_wp2_with (go_at_call 158; (with_reducible refine (cP _).mono ?_); rintro e w3 ⟨rfl, hb3⟩; have HB3 := Lib.hid (HB.out.trans (hb3.mono HB.out.size)); have HX3 := Lib.hid (HX.out.step hb3); have HZ3 := Lib.hid (HZ.out.step hb3); clear y0 y1 y2 y3 yf z0 z1 z2 z3 zf hb3 cP; obtain ⟨y0, y1, y2, y3, yf⟩ := HX3.out.all; obtain ⟨z0, z1, z2, z3, zf⟩ := HZ3.out.all)
          rw [HA.out]
          exact bodyPost_ret (results_cell_row rfl _ _ w.heap.size 105 _ _ _ rfl (set_four HZ3.out) Tryz.underlying105 rfl rowsOne) rfl ⟨rfl, below_four HB3.out (Nat.le_refl _) _ _ _ _⟩
      · rw [show decide (d = UInt8.ofNat 42) = false from decide_eq_false h42] at e42
        have HD2 := Lib.hid (drop_no hd h42 HD.out)
        clear hd hy h42
        go_wp2_with fail
        go_roundw
        case rel => exact ⟨(j : Int) - 1, j, by omega, by go_num, Lib.hid (by omega), HB, HZ, HX, HD2⟩
        case measure => simp [intOf] <;> omega
set_option maxRecDepth 100000 in
set_option maxHeartbeats 8000000 in
theorem rtold_plain (s V : ByteArray) (hs : s.size ≤ 900000) (hw : wideB s.data.toList = false) (w : World) :
    Calls Tryz.prog 112 #[.string s, .string V] w fun e w' => e = .returned (oneA (some (toldP numF s.data.toList V.data.toList))) ∧ Below w.heap.size w w' := by
  have hz := size_list s
  obtain ⟨n, hn⟩ : ∃ n, (if wideB s.data.toList = true then s.data.toList.dropLast else s.data.toList) = n := ⟨_, rfl⟩
  obtain ⟨HB1, HX1, HZ1⟩ := told_box w s V false
  obtain ⟨x0, x1, x2, x3, xf⟩ := HX1.out.all
  have hn2 : s.data.toList = n := by rw [← hn, if_neg (by rw [hw]; decide)]
  have hnz : n.length ≤ 900000 := by rw [← hn2]; omega
  have eS : s = strL n := by rw [← hn2, strL_of]
  have hw2 : (s.data.toList.length < 2) ∨ (s.data.toList.getLast? == some 42) = false := by
    unfold wideB at hw
    rw [Bool.and_eq_false_iff, decide_eq_false_iff_not] at hw
    exact hw.imp (fun h => by omega) id
  have HB2 := HB1
  have HX2 := Lib.hid (show Ox _ (w.heap.size + 1) (strL n) (-1) false V from eS ▸ HX1.out)
  have HZ2 := HZ1
  have HN := Lib.hid hn
  have HW := Lib.hid hw
  have HS := Lib.hid (strL_list n)
  have HSZ := Lib.hid (strL_size n)
  have FM : IntKind.i64.wrap (((strL n).size : Int) - 1) = ((strL n).size : Int) - 1 := by rw [IntKind.wrap_i64, strL_size]; omega
  obtain ⟨m, hm⟩ : ∃ m, (strL n).size = m := ⟨_, rfl⟩
  rw [hm] at FM
  have HM := Lib.hid (show n.length = m by rw [← hm, strL_size])
  have hmz : m ≤ 900000 := by have := HM.out; omega
  by_cases hl1 : (1 : Int) < (s.size : Int)
  · have FS : IntKind.i64.wrap ((s.size : Int) - 1) = (s.size : Int) - 1 := by rw [IntKind.wrap_i64]; omega
    obtain ⟨dl, yl, hdl, hyl, _, SL⟩ := run_byte s (s.size - 1) (by omega)
    rw [show ((s.size - 1 : Nat) : Int) = (s.size : Int) - 1 by omega] at SL
    have el := byte_is dl yl hyl 42 (by decide)
    rw [show ((42 : Nat) : Int) = 42 from rfl, show decide (dl = UInt8.ofNat 42) = false from decide_eq_false (fun h => by
      have h2 := hw2.resolve_left (by omega)
      rw [List.getLast?_eq_getElem?, ← hz, hdl, h] at h2
      exact absurd h2 (by decide))] at el
    have HNS := Lib.hid eS.symm
    generalize hns : strL n = ns at HB2 HX2 HZ2 HS HSZ hm HNS
    replace HNS := Lib.hid hns
    obtain rfl : s = ns := eS.trans hns
    clear hz hn hw hn2 hnz eS hns
    rw [hm] at FS SL hl1
    clear hdl hyl hw2
    go_enter Tryz.func112, Tryz.ntmps112
    go_wp2_with fail
    go_loopw [7] (fun i wr => ∃ (x : Int) (k : Nat), k ≤ m ∧ i = .int .i64 x ∧ Hid (x + 1 = k) ∧ Hid (Below w.heap.size w wr) ∧ Hid (Ox wr w.heap.size ⟨#[]⟩ 0 false ⟨#[]⟩) ∧ Hid (Ox wr (w.heap.size + 1) s (-1) false V) ∧ Hid (42 ∉ n.drop k)) (fun i _ => (intOf i + 1).toNat)
    case atStart => exact ⟨(m : Int) - 1, m, Nat.le_refl _, by go_num, Lib.hid (by omega), HB2, HZ2, HX2, Lib.hid (by rw [List.drop_eq_nil_of_le (by rw [HM.out]; exact Nat.le_refl _)]; exact List.not_mem_nil)⟩
    case round =>
      obtain ⟨x, k, hk, rfl, HK, HB, HZ, HX, HD⟩ := hrel
      obtain ⟨y0, y1, y2, y3, yf⟩ := HX.out.all
      obtain ⟨z0, z1, z2, z3, zf⟩ := HZ.out.all
      cases k with
      | zero =>
        obtain rfl : x = -1 := by have := HK.out; omega
        have HA := Lib.hid (one_told (toldP numF s.data.toList V.data.toList) s V (-1) false (by rw [told_no numF _ _ n HN.out (by have := HD.out; rwa [List.drop_zero] at this)]; exact HNS.out) (by rw [told_no numF _ _ n HN.out (by have := HD.out; rwa [List.drop_zero] at this)]; rfl) (by rw [told_no numF _ _ n HN.out (by have := HD.out; rwa [List.drop_zero] at this)]; exact HW.out) (by rw [told_no numF _ _ n HN.out (by have := HD.out; rwa [List.drop_zero] at this)]; exact strL_of V))
        go_wp2_with fail
        rw [HA.out]
        exact bodyPost_ret (results_cell_row rfl _ _ w.heap.size 105 _ _ _ rfl (set_four HZ.out) Tryz.underlying105 rfl rowsOne) rfl ⟨rfl, below_four HB.out (Nat.le_refl _) _ _ _ _⟩
      | succ j =>
        obtain rfl : x = (j : Int) := by have := HK.out; omega
        have h0 : (0 : Int) ≤ (j : Int) := by omega
        have F1 : IntKind.i64.wrap ((j : Int) - 1) = (j : Int) - 1 := by rw [IntKind.wrap_i64]; omega
        have F2 : IntKind.i64.wrap ((j : Int) + 1) = (j : Int) + 1 := by rw [IntKind.wrap_i64]; omega
        obtain ⟨d, y, hd, hy, hy2, S1⟩ := run_byte s j (by omega)
        rw [HS.out] at hd
        have e42 := byte_is d y hy 42 (by decide)
        rw [show ((42 : Nat) : Int) = 42 from rfl] at e42
        by_cases h42 : d = 42
        · rw [show decide (d = UInt8.ofNat 42) = true from decide_eq_true h42] at e42
          have hta := told_at (num := numF) (value := V.data.toList) HN.out (h42 ▸ hd) HD.out
          have R1 := run_slice_from s (j + 1) ((j : Int) + 1) (by omega) (by omega)
          have R2 := run_slice_to s j (j : Int) rfl (by omega)
          have e1 : s.extract (j + 1) s.size = strL (n.drop (j + 1)) := bytes_is (by rw [part_rest s (j + 1) (by omega), strL_list, HS.out])
          have e2 : s.extract 0 j = strL (n.take j) := bytes_is (by rw [part_start s j (by omega), strL_list, HS.out])
          rw [e1] at R1
          rw [e2] at R2
          have cP := fun W => Nu.parseR_any (strL (n.drop (j + 1))) 0 63 (by rw [strL_size, List.length_drop, HM.out]; omega) W
          rw [strL_list] at cP
          unfold Nu.Ans at cP
          cases hp : Nu.parseIn (n.drop (j + 1)) 0 63 with
          | some z =>
            have hrz := parseIn_range hp
            rw [hp] at cP
            have hq : toldP numF s.data.toList V.data.toList = ⟨n.take j, some z.toNat, false, V.data.toList⟩ := by rw [hta]; unfold numF; rw [hp, HW.out]; rfl
            have HA := Lib.hid (one_told (toldP numF s.data.toList V.data.toList) (strL (n.take j)) V z false (by rw [hq]) (by rw [hq]; unfold secZ; simp only []; omega) (by rw [hq]) (by rw [hq]; exact strL_of V))
            simp only [Option.getD_some, Option.isSome_some] at cP
            generalize strL (n.drop (j + 1)) = ys at R1 cP
            generalize strL (n.take j) = xs at R2 HA
            clear hd hy hta h42 e1 e2 hp hq hrz
            go_wp2_with (go_at_call 158; (with_reducible refine (cP _).mono ?_); rintro e w3 ⟨rfl, hb3⟩; have HB3 := Lib.hid (HB.out.trans (hb3.mono HB.out.size)); have HX3 := Lib.hid (HX.out.step hb3); have HZ3 := Lib.hid (HZ.out.step hb3); clear y0 y1 y2 y3 yf z0 z1 z2 z3 zf hb3 cP; obtain ⟨y0, y1, y2, y3, yf⟩ := HX3.out.all; obtain ⟨z0, z1, z2, z3, zf⟩ := HZ3.out.all)
            rw [HA.out]
            exact bodyPost_ret (results_cell_row rfl _ _ w.heap.size 105 _ _ _ rfl (set_four ((HZ3.out.put (g' := w.heap.size + 1) (by omega) 1 _).put (g' := w.heap.size + 1) (by omega) 0 _)) Tryz.underlying105 rfl rowsOne) rfl ⟨rfl, below_four (below_at (below_at HB3.out ⟨w.heap.size + 1, 1, none⟩ (Nat.le_succ _) _) ⟨w.heap.size + 1, 0, none⟩ (Nat.le_succ _) _) (Nat.le_refl _) _ _ _ _⟩
          | none =>
            rw [hp] at cP
            have hq : toldP numF s.data.toList V.data.toList = ⟨n, none, false, V.data.toList⟩ := by rw [hta]; unfold numF; rw [hp, HW.out]; rfl
            have HA := Lib.hid (one_told (toldP numF s.data.toList V.data.toList) s V (-1) false (by rw [hq]; exact HNS.out) (by rw [hq]; rfl) (by rw [hq]) (by rw [hq]; exact strL_of V))
            simp only [Option.getD_none, Option.isSome_none] at cP
            generalize strL (n.drop (j + 1)) = ys at R1 cP
            clear hd hy hta h42 e1 e2 hp hq R2
            go_wp2_with (go_at_call 158; (with_reducible refine (cP _).mono ?_); rintro e w3 ⟨rfl, hb3⟩; have HB3 := Lib.hid (HB.out.trans (hb3.mono HB.out.size)); have HX3 := Lib.hid (HX.out.step hb3); have HZ3 := Lib.hid (HZ.out.step hb3); clear y0 y1 y2 y3 yf z0 z1 z2 z3 zf hb3 cP; obtain ⟨y0, y1, y2, y3, yf⟩ := HX3.out.all; obtain ⟨z0, z1, z2, z3, zf⟩ := HZ3.out.all)
            rw [HA.out]
            exact bodyPost_ret (results_cell_row rfl _ _ w.heap.size 105 _ _ _ rfl (set_four HZ3.out) Tryz.underlying105 rfl rowsOne) rfl ⟨rfl, below_four HB3.out (Nat.le_refl _) _ _ _ _⟩
        · rw [show decide (d = UInt8.ofNat 42) = false from decide_eq_false h42] at e42
          have HD2 := Lib.hid (drop_no hd h42 HD.out)
          clear hd hy h42
          go_wp2_with fail
          go_roundw
          case rel => exact ⟨(j : Int) - 1, j, by omega, by go_num, Lib.hid (by omega), HB, HZ, HX, HD2⟩
          case measure => simp [intOf] <;> omega
  · have hl2 : ¬ (1 : Int) < (m : Int) := by rw [← hm, ← eS]; exact hl1
    have HNS := Lib.hid eS.symm
    generalize hns : strL n = ns at HB2 HX2 HZ2 HS HSZ hm HNS
    replace HNS := Lib.hid hns
    obtain rfl : s = ns := eS.trans hns
    clear hz hn hw hn2 hnz eS hns
    clear hw2 hl1
    go_enter Tryz.func112, Tryz.ntmps112
    go_wp2_with fail
    go_loopw [7] (fun i wr => ∃ (x : Int) (k : Nat), k ≤ m ∧ i = .int .i64 x ∧ Hid (x + 1 = k) ∧ Hid (Below w.heap.size w wr) ∧ Hid (Ox wr w.heap.size ⟨#[]⟩ 0 false ⟨#[]⟩) ∧ Hid (Ox wr (w.heap.size + 1) s (-1) false V) ∧ Hid (42 ∉ n.drop k)) (fun i _ => (intOf i + 1).toNat)
    case atStart => exact ⟨(m : Int) - 1, m, Nat.le_refl _, by go_num, Lib.hid (by omega), HB2, HZ2, HX2, Lib.hid (by rw [List.drop_eq_nil_of_le (by rw [HM.out]; exact Nat.le_refl _)]; exact List.not_mem_nil)⟩
    case round =>
      obtain ⟨x, k, hk, rfl, HK, HB, HZ, HX, HD⟩ := hrel
      obtain ⟨y0, y1, y2, y3, yf⟩ := HX.out.all
      obtain ⟨z0, z1, z2, z3, zf⟩ := HZ.out.all
      cases k with
      | zero =>
        obtain rfl : x = -1 := by have := HK.out; omega
        have HA := Lib.hid (one_told (toldP numF s.data.toList V.data.toList) s V (-1) false (by rw [told_no numF _ _ n HN.out (by have := HD.out; rwa [List.drop_zero] at this)]; exact HNS.out) (by rw [told_no numF _ _ n HN.out (by have := HD.out; rwa [List.drop_zero] at this)]; rfl) (by rw [told_no numF _ _ n HN.out (by have := HD.out; rwa [List.drop_zero] at this)]; exact HW.out) (by rw [told_no numF _ _ n HN.out (by have := HD.out; rwa [List.drop_zero] at this)]; exact strL_of V))
        go_wp2_with fail
        rw [HA.out]
        exact bodyPost_ret (results_cell_row rfl _ _ w.heap.size 105 _ _ _ rfl (set_four HZ.out) Tryz.underlying105 rfl rowsOne) rfl ⟨rfl, below_four HB.out (Nat.le_refl _) _ _ _ _⟩
      | succ j =>
        obtain rfl : x = (j : Int) := by have := HK.out; omega
        have h0 : (0 : Int) ≤ (j : Int) := by omega
        have F1 : IntKind.i64.wrap ((j : Int) - 1) = (j : Int) - 1 := by rw [IntKind.wrap_i64]; omega
        have F2 : IntKind.i64.wrap ((j : Int) + 1) = (j : Int) + 1 := by rw [IntKind.wrap_i64]; omega
        obtain ⟨d, y, hd, hy, hy2, S1⟩ := run_byte s j (by omega)
        rw [HS.out] at hd
        have e42 := byte_is d y hy 42 (by decide)
        rw [show ((42 : Nat) : Int) = 42 from rfl] at e42
        by_cases h42 : d = 42
        · rw [show decide (d = UInt8.ofNat 42) = true from decide_eq_true h42] at e42
          have hta := told_at (num := numF) (value := V.data.toList) HN.out (h42 ▸ hd) HD.out
          have R1 := run_slice_from s (j + 1) ((j : Int) + 1) (by omega) (by omega)
          have R2 := run_slice_to s j (j : Int) rfl (by omega)
          have e1 : s.extract (j + 1) s.size = strL (n.drop (j + 1)) := bytes_is (by rw [part_rest s (j + 1) (by omega), strL_list, HS.out])
          have e2 : s.extract 0 j = strL (n.take j) := bytes_is (by rw [part_start s j (by omega), strL_list, HS.out])
          rw [e1] at R1
          rw [e2] at R2
          have cP := fun W => Nu.parseR_any (strL (n.drop (j + 1))) 0 63 (by rw [strL_size, List.length_drop, HM.out]; omega) W
          rw [strL_list] at cP
          unfold Nu.Ans at cP
          cases hp : Nu.parseIn (n.drop (j + 1)) 0 63 with
          | some z =>
            have hrz := parseIn_range hp
            rw [hp] at cP
            have hq : toldP numF s.data.toList V.data.toList = ⟨n.take j, some z.toNat, false, V.data.toList⟩ := by rw [hta]; unfold numF; rw [hp, HW.out]; rfl
            have HA := Lib.hid (one_told (toldP numF s.data.toList V.data.toList) (strL (n.take j)) V z false (by rw [hq]) (by rw [hq]; unfold secZ; simp only []; omega) (by rw [hq]) (by rw [hq]; exact strL_of V))
            simp only [Option.getD_some, Option.isSome_some] at cP
            generalize strL (n.drop (j + 1)) = ys at R1 cP
            generalize strL (n.take j) = xs at R2 HA
            clear hd hy hta h42 e1 e2 hp hq hrz
            go_wp2_with (go_at_call 158; (with_reducible refine (cP _).mono ?_); rintro e w3 ⟨rfl, hb3⟩; have HB3 := Lib.hid (HB.out.trans (hb3.mono HB.out.size)); have HX3 := Lib.hid (HX.out.step hb3); have HZ3 := Lib.hid (HZ.out.step hb3); clear y0 y1 y2 y3 yf z0 z1 z2 z3 zf hb3 cP; obtain ⟨y0, y1, y2, y3, yf⟩ := HX3.out.all; obtain ⟨z0, z1, z2, z3, zf⟩ := HZ3.out.all)
            rw [HA.out]
            exact bodyPost_ret (results_cell_row rfl _ _ w.heap.size 105 _ _ _ rfl (set_four ((HZ3.out.put (g' := w.heap.size + 1) (by omega) 1 _).put (g' := w.heap.size + 1) (by omega) 0 _)) Tryz.underlying105 rfl rowsOne) rfl ⟨rfl, below_four (below_at (below_at HB3.out ⟨w.heap.size + 1, 1, none⟩ (Nat.le_succ _) _) ⟨w.heap.size + 1, 0, none⟩ (Nat.le_succ _) _) (Nat.le_refl _) _ _ _ _⟩
          | none =>
            rw [hp] at cP
            have hq : toldP numF s.data.toList V.data.toList = ⟨n, none, false, V.data.toList⟩ := by rw [hta]; unfold numF; rw [hp, HW.out]; rfl
            have HA := Lib.hid (one_told (toldP numF s.data.toList V.data.toList) s V (-1) false (by rw [hq]; exact HNS.out) (by rw [hq]; rfl) (by rw [hq]) (by rw [hq]; exact strL_of V))
            simp only [Option.getD_none, Option.isSome_none] at cP
            generalize strL (n.drop (j + 1)) = ys at R1 cP
            clear hd hy hta h42 e1 e2 hp hq R2
            go_wp2_with (go_at_call 158; (with_reducible refine (cP _).mono ?_); rintro e w3 ⟨rfl, hb3⟩; have HB3 := Lib.hid (HB.out.trans (hb3.mono HB.out.size)); have HX3 := Lib.hid (HX.out.step hb3); have HZ3 := Lib.hid (HZ.out.step hb3); clear y0 y1 y2 y3 yf z0 z1 z2 z3 zf hb3 cP; obtain ⟨y0, y1, y2, y3, yf⟩ := HX3.out.all; obtain ⟨z0, z1, z2, z3, zf⟩ := HZ3.out.all)
            rw [HA.out]
            exact bodyPost_ret (results_cell_row rfl _ _ w.heap.size 105 _ _ _ rfl (set_four HZ3.out) Tryz.underlying105 rfl rowsOne) rfl ⟨rfl, below_four HB3.out (Nat.le_refl _) _ _ _ _⟩
        · rw [show decide (d = UInt8.ofNat 42) = false from decide_eq_false h42] at e42
          have HD2 := Lib.hid (drop_no hd h42 HD.out)
          clear hd hy h42
          go_wp2_with fail
          go_roundw
          case rel => exact ⟨(j : Int) - 1, j, by omega, by go_num, Lib.hid (by omega), HB, HZ, HX, HD2⟩
          case measure => simp [intOf] <;> omega
theorem rtold_any (s V : ByteArray) (hs : s.size ≤ 900000) (w : World) :
    Calls Tryz.prog 112 #[.string s, .string V] w fun e w' => e = .returned (oneA (some (toldP numF s.data.toList V.data.toList))) ∧ Below w.heap.size w w' := by
  cases h : wideB s.data.toList with
  | true => exact rtold_wide s V hs h w
  | false => exact rtold_plain s V hs h w
end Go.Proofs.YtdinachiiimngaaGreatDoor
