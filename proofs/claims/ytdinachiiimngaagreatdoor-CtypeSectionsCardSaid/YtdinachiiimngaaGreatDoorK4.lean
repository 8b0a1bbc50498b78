/- The program's placed: the place that a name denotes. A strings.Builder that a call has made. A strings.Builder that has just been made. token.Join: the texts of the tokens in a row. The program's lower: a copy of the bytes is changed. Values and escapes, at a place of a list. unescaped: a text without its escapes and line breaks. Value: what a token says. -/
import Derived.Test.YtdinachiiimngaaGreatDoorK3
import Derived.Test.YtdinachiiimngaaGreatDoorK2
import Derived.Test.YtdinachiiimngaaGreatDoorK1
import Derived.RangeFuncRecord
import Derived.BigCall
import Derived.Lib.ConvBytes
import Derived.Lib.LazyBuf
import Derived.Lib.OthersKept
namespace Go.Proofs.YtdinachiiimngaaGreatDoor
open Go.ChangeShapes Go.WideShapes Go.ChangeAt Go.RowKit
open TokP AdrP CtP

/-- A place in the box g. -/
def Plx (w : World) (g : Nat) (N : ByteArray) (S : Int) : Prop := w.heap[g]? = some (.cells #[.string N, .int .i64 S] 94 (0, 0))
theorem Plx.lt {w : World} {g : Nat} {N : ByteArray} {S : Int} (h : Plx w g N S) : g < w.heap.size := (Array.getElem?_eq_some_iff.1 h).1
theorem Plx.step {w w' : World} {g : Nat} {N : ByteArray} {S : Int} (h : Plx w g N S) (hb : Below w.heap.size w w') : Plx w' g N S := (hb.block _ h.lt).trans h
theorem plx_new (w : World) (N : ByteArray) (S : Int) : Plx (w.alloc (.cells #[.string N, .int .i64 S] 94)) w.heap.size N S := World.alloc_heap_new w _
theorem Plx.c0 {w : World} {g : Nat} {N : ByteArray} {S : Int} (h : Plx w g N S) : w.cell? ⟨g, 0, none⟩ = some (.string N) := by rw [Lib.cell_of_heap h]; rfl
theorem Plx.c1 {w : World} {g : Nat} {N : ByteArray} {S : Int} (h : Plx w g N S) : w.cell? ⟨g, 1, none⟩ = some (.int .i64 S) := by rw [Lib.cell_of_heap h]; rfl
theorem Plx.fr {w : World} {g : Nat} {N : ByteArray} {S : Int} (h : Plx w g N S) (i : Nat) : w.frozen? ⟨g, i, none⟩ = false := Lib.frozen_of_heap h i
theorem set_two {w : World} {g : Nat} {N N' : ByteArray} {S S' : Int} (h : Plx w g N S) : Plx ((w.setCell ⟨g, 0, none⟩ (.string N')).setCell ⟨g, 1, none⟩ (.int .i64 S')) g N' S' := by
  have h' : w.heap[g]? = some (.cells #[.string N, .int .i64 S] 94 (0, 0)) := h
  show ((w.setCell ⟨g, 0, none⟩ (.string N')).setCell ⟨g, 1, none⟩ (.int .i64 S')).heap[g]? = _
  simp [World.setCell, Array.getElem?_modify, h']
theorem below_two {w W : World} {C g : Nat} (h : Below C w W) (hg : C ≤ g) (v0 v1 : Value) : Below C w ((W.setCell ⟨g, 0, none⟩ v0).setCell ⟨g, 1, none⟩ v1) :=
  below_at (below_at h _ hg _) _ hg _
theorem rowsPlc : (Tryz.prog.info? 94).map (·.size) = some 2 := by kernel_rfl
theorem results_plc {fn : Func} {p u : Tmp} (h : fn.results = #[.cell p 94, .tmp u]) (tmps : Array Value) (w : World) (g : Nat) (N : ByteArray) (S : Int) (hp : tmps.getD p undef = .pointer (some ⟨g, 0, none⟩)) (hg : Plx w g N S) :
    (results fn tmps).run Tryz.prog w = .ok (.tuple #[.agg #[.string N, .int .i64 S], tmps.getD u undef]) w := by
  rw [results_cell_tmp h, hp]
  have := run_loadVar_row (P := Tryz.prog) w g 94 94 #[.string N, .int .i64 S] (0, 0) _ hg Tryz.underlying94 rfl rowsPlc
  simp [asAddr, Result.andThen, this]
/-- The number of a section. -/
def numF (l : List UInt8) : Option Nat := (Nu.parseIn l 0 63).map Int.toNat
theorem parseIn_range {l : List UInt8} {z : Int} (h : Nu.parseIn l 0 63 = some z) : 0 ≤ z ∧ z ≤ 63 := by
  unfold Nu.parseIn at h
  split at h
  · split at h
    · obtain rfl := Option.some.inj h; assumption
    · exact absurd h (by simp)
  · exact absurd h (by simp)
theorem suffix_ast (l : List UInt8) : Lib.hasSuffix l [42] = (l.getLast? == some 42) := by
  unfold Lib.hasSuffix List.isSuffixOf
  rcases List.eq_nil_or_concat l with rfl | ⟨m, d, rfl⟩
  · rfl
  · rw [List.concat_eq_append, List.reverse_append, List.getLast?_append]
    show (42 == d && List.isPrefixOf [] m.reverse) = _
    simp only [List.isPrefixOf, Bool.and_true, List.getLast?_singleton, Option.some_or]
    rw [Bool.eq_iff_iff]
    simp only [beq_iff_eq, Option.some.injEq]
    exact ⟨fun h => h.symm, fun h => h.symm⟩
theorem told_star (num : List UInt8 → Option Nat) (name value x y : List UInt8) (n : List UInt8) (hn : (if wideB name = true then name.dropLast else name) = n) (hxy : n = x ++ 42 :: y) (hy : 42 ∉ y) :
    toldP num name value = match num y with
      | some k => ⟨x, some k, wideB name, value⟩
      | none => ⟨n, none, wideB name, value⟩ := by
  unfold toldP
  rw [hn]
  have hm : 42 ∈ n := by rw [hxy]; simp
  rw [if_pos hm]
  have hr : upC 42 n.reverse = y.reverse := by
    rw [hxy, List.reverse_append, List.reverse_cons, List.append_assoc]
    exact (upC_at (by rw [List.mem_reverse]; exact hy) x.reverse).1
  simp only [hr, List.reverse_reverse]
  have ht : n.take (n.length - y.length - 1) = x := by
    rw [hxy]
    refine List.take_left' ?_
    rw [List.length_append, List.length_cons]; omega
  rw [ht]
  cases num y <;> rfl
theorem told_no (num : List UInt8 → Option Nat) (name value : List UInt8) (n : List UInt8) (hn : (if wideB name = true then name.dropLast else name) = n) (h : 42 ∉ n) : toldP num name value = ⟨n, none, wideB name, value⟩ := by
  unfold toldP
  rw [hn, if_neg h]
/-- What placed answers: the place, and whether the value is encoded. -/
def plcV (p : Par) : Value := .tuple #[.agg #[.string (strL p.name), .int .i64 (plcZ p)], .bool p.wide]
set_option maxRecDepth 100000 in
set_option maxHeartbeats 8000000 in
theorem placed_true (s : ByteArray) (hs : s.size ≤ 4000000) (hw : wideB s.data.toList = true) (w : World) (hv : Nu.Vars w) :
    Calls Tryz.prog 69 #[.string s] w fun e w' => e = .returned (plcV (toldP numF s.data.toList [])) ∧ Below w.heap.size w w' := by
  have hz := size_list s
  have hbox := plx_new w ⟨#[]⟩ 0
  have HB0 := Lib.hid (show Below w.heap.size w (w.alloc (.cells #[.string ⟨#[]⟩, .int .i64 0] 94)) from (Below.refl _ w).alloc (Nat.le_refl _) _)
  have HV0 := Lib.hid (hv.below HB0.out)
  have HX0 := Lib.hid hbox
  have x0 := hbox.c0
  have x1 := hbox.c1
  have xf := hbox.fr
  have HBOX := Lib.hid (fun (W : World) (hb : Hid (Below (w.alloc (.cells #[.string ⟨#[]⟩, .int .i64 0] 94)).heap.size (w.alloc (.cells #[.string ⟨#[]⟩, .int .i64 0] 94)) W)) => show W.cell? ⟨w.heap.size, 0, none⟩ = some (.string ⟨#[]⟩) ∧ W.cell? ⟨w.heap.size, 1, none⟩ = some (.int .i64 0) ∧ ∀ i, W.frozen? ⟨w.heap.size, i, none⟩ = false from ⟨(hbox.step hb.out).c0, (hbox.step hb.out).c1, (hbox.step hb.out).fr⟩)
  have cH := fun W => Tryz.strings_HasSuffix s ⟨#[42]⟩ W (by omega)
  rw [show (⟨#[42]⟩ : ByteArray).data.toList = [42] from rfl, suffix_ast] at cH
  obtain ⟨n, hn⟩ : ∃ n, (if wideB s.data.toList = true then s.data.toList.dropLast else s.data.toList) = n := ⟨_, rfl⟩
  have hw2 : 2 ≤ s.data.toList.length ∧ s.data.toList.getLast? = some 42 := by
    unfold wideB at hw
    rw [Bool.and_eq_true, decide_eq_true_eq, beq_iff_eq] at hw
    exact hw
  have hl1 : (1 : Int) < (s.size : Int) := by omega
  rw [show (s.data.toList.getLast? == some 42) = true from beq_iff_eq.2 hw2.2] at cH
  have hn2 : s.data.toList.dropLast = n := by rw [← hn, if_pos hw]
  have FS : IntKind.i64.wrap ((s.size : Int) - 1) = (s.size : Int) - 1 := by rw [IntKind.wrap_i64]; omega
  have RS := run_slice_to s (s.size - 1) ((s.size : Int) - 1) (by omega) (by omega)
  have eS : s.extract 0 (s.size - 1) = strL n := bytes_is (by rw [part_start s (s.size - 1) (by omega), strL_list, ← hn2, List.dropLast_eq_take, ← hz])
  rw [eS] at RS
  have hnz : n.length ≤ 4000000 := by rw [← hn2, List.length_dropLast]; omega
  have cI := fun W => Tryz.strings_LastIndexByte (strL n) 42 (by rw [strL_size]; omega) W
  by_cases hst : 42 ∈ n
  · obtain ⟨x, y, hxy, hy, hli⟩ := last_yes n hst
    rw [hli] at cI
    have hlen : n.length = x.length + 1 + y.length := by rw [hxy, List.length_append, List.length_cons]; omega
    have hts := told_star numF s.data.toList [] x y n hn hxy hy
    have F1 : IntKind.i64.wrap ((x.length : Int) + 1) = (x.length : Int) + 1 := by rw [IntKind.wrap_i64]; omega
    have R1 := run_slice_from (strL n) (x.length + 1) ((x.length : Int) + 1) (by omega) (by rw [strL_size]; omega)
    have R2 := run_slice_to (strL n) x.length (x.length : Int) rfl (by rw [strL_size]; omega)
    have e1 : (strL n).extract (x.length + 1) (strL n).size = strL y := bytes_is (by rw [part_rest (strL n) (x.length + 1) (by rw [strL_size]; omega), strL_list, strL_list, hxy, ← List.drop_drop, List.drop_left' rfl]; rfl)
    have e2 : (strL n).extract 0 x.length = strL x := bytes_is (by rw [part_start (strL n) x.length (by rw [strL_size]; omega), strL_list, strL_list, hxy, List.take_left' rfl])
    rw [e1] at R1
    rw [e2] at R2
    have cP := fun W (hv : Hid (Nu.Vars W)) => Nu.parse_any (strL y) 0 63 (by rw [strL_size]; omega) W hv.out
    rw [strL_list] at cP
    unfold Nu.Ans at cP
    have hx0 : (0 : Int) ≤ (x.length : Int) := by omega
    cases hp : Nu.parseIn y 0 63 with
    | some z =>
      have hrz := parseIn_range hp
      rw [hp] at cP
      have hq : toldP numF s.data.toList [] = ⟨x, some z.toNat, true, []⟩ := by rw [hts]; unfold numF; rw [hp, hw]; rfl
      have HA := Lib.hid (show plcV (toldP numF s.data.toList []) = .tuple #[.agg #[.string (strL x), .int .i64 z], .bool true] by rw [hq]; unfold plcV plcZ; simp only []; rw [show ((z.toNat : Nat) : Int) = z by omega])
      simp only [Option.getD_some, Option.isSome_some] at cP
      have HN := Lib.hid hlen
      generalize strL n = ns at RS R1 R2 cI
      generalize strL y = ys at R1 cP
      generalize strL x = xs at R2 HA
      generalize (x.length : Int) = p at R1 R2 cI F1 hx0
      clear hv hbox hn hn2 hw hst hnz hz eS hw2 hxy hy hli hts e1 e2 hp hq hrz hlen
      go_enter Tryz.func69, Tryz.ntmps69
      go_wp2_with (first
        | (go_at_call 103; refine (cH _).mono ?_; rintro e w1 ⟨rfl, rfl⟩)
        | (go_at_call 104; refine (cI _).mono ?_; rintro e w2 ⟨rfl, rfl⟩)
        | (go_at_call 105; (with_reducible refine (cP _ HV0).mono ?_); rintro e w3 ⟨rfl, hb3⟩; have HB3 := Lib.hid (HB0.out.trans (hb3.mono HB0.out.size)); obtain ⟨y0, y1, yf⟩ := HBOX.out w3 (Lib.hid hb3); have HX3 := Lib.hid (HX0.out.step hb3); clear hb3 cP))
      rw [HA.out]
      exact bodyPost_ret (results_plc rfl _ _ w.heap.size _ _ rfl (set_two HX3.out)) rfl ⟨rfl, below_two HB3.out (Nat.le_refl _) _ _⟩
    | none =>
      rw [hp] at cP
      have hq : toldP numF s.data.toList [] = ⟨n, none, true, []⟩ := by rw [hts]; unfold numF; rw [hp, hw]; rfl
      have HA := Lib.hid (show plcV (toldP numF s.data.toList []) = .tuple #[.agg #[.string (strL n), .int .i64 (-1)], .bool true] by rw [hq]; rfl)
      simp only [Option.getD_none, Option.isSome_none] at cP
      generalize strL n = ns at RS R1 R2 cI HA
      generalize strL y = ys at R1 cP
      generalize (x.length : Int) = p at R1 R2 cI F1 hx0
      clear hv hbox hn hn2 hw hst hnz hz eS hw2 hxy hy hli hts e1 e2 hp hq hlen R2
      go_enter Tryz.func69, Tryz.ntmps69
      go_wp2_with (first
        | (go_at_call 103; refine (cH _).mono ?_; rintro e w1 ⟨rfl, rfl⟩)
        | (go_at_call 104; refine (cI _).mono ?_; rintro e w2 ⟨rfl, rfl⟩)
        | (go_at_call 105; (with_reducible refine (cP _ HV0).mono ?_); rintro e w3 ⟨rfl, hb3⟩; have HB3 := Lib.hid (HB0.out.trans (hb3.mono HB0.out.size)); obtain ⟨y0, y1, yf⟩ := HBOX.out w3 (Lib.hid hb3); have HX3 := Lib.hid (HX0.out.step hb3); clear hb3 cP))
      rw [HA.out]
      exact bodyPost_ret (results_plc rfl _ _ w.heap.size _ _ rfl (set_two HX3.out)) rfl ⟨rfl, below_two HB3.out (Nat.le_refl _) _ _⟩
  · rw [last_no n hst] at cI
    have hq : toldP numF s.data.toList [] = ⟨n, none, true, []⟩ := by rw [told_no numF s.data.toList [] n hn hst, hw]
    have HA := Lib.hid (show plcV (toldP numF s.data.toList []) = .tuple #[.agg #[.string (strL n), .int .i64 (-1)], .bool true] by rw [hq]; rfl)
    generalize strL n = ns at RS cI HA
    clear hv hbox hn hn2 hw hst hnz hz eS hw2 hq
    go_enter Tryz.func69, Tryz.ntmps69
    go_wp2_with (first
        | (go_at_call 103; refine (cH _).mono ?_; rintro e w1 ⟨rfl, rfl⟩)
        | (go_at_call 104; refine (cI _).mono ?_; rintro e w2 ⟨rfl, rfl⟩))
    rw [HA.out]
    exact bodyPost_ret (results_plc rfl _ _ w.heap.size _ _ rfl (plx_new w _ _)) rfl ⟨rfl, (Below.refl _ w).alloc (Nat.le_refl _) _⟩
set_option maxRecDepth 100000 in
set_option maxHeartbeats 8000000 in
theorem placed_false (s : ByteArray) (hs : s.size ≤ 4000000) (hw : wideB s.data.toList = false) (w : World) (hv : Nu.Vars w) :
    Calls Tryz.prog 69 #[.string s] w fun e w' => e = .returned (plcV (toldP numF s.data.toList [])) ∧ Below w.heap.size w w' := by
  have hz := size_list s
  have hbox := plx_new w ⟨#[]⟩ 0
  have HB0 := Lib.hid (show Below w.heap.size w (w.alloc (.cells #[.string ⟨#[]⟩, .int .i64 0] 94)) from (Below.refl _ w).alloc (Nat.le_refl _) _)
  have HV0 := Lib.hid (hv.below HB0.out)
  have HX0 := Lib.hid hbox
  have x0 := hbox.c0
  have x1 := hbox.c1
  have xf := hbox.fr
  have HBOX := Lib.hid (fun (W : World) (hb : Hid (Below (w.alloc (.cells #[.string ⟨#[]⟩, .int .i64 0] 94)).heap.size (w.alloc (.cells #[.string ⟨#[]⟩, .int .i64 0] 94)) W)) => show W.cell? ⟨w.heap.size, 0, none⟩ = some (.string ⟨#[]⟩) ∧ W.cell? ⟨w.heap.size, 1, none⟩ = some (.int .i64 0) ∧ ∀ i, W.frozen? ⟨w.heap.size, i, none⟩ = false from ⟨(hbox.step hb.out).c0, (hbox.step hb.out).c1, (hbox.step hb.out).fr⟩)
  have cH := fun W => Tryz.strings_HasSuffix s ⟨#[42]⟩ W (by omega)
  rw [show (⟨#[42]⟩ : ByteArray).data.toList = [42] from rfl, suffix_ast] at cH
  obtain ⟨n, hn⟩ : ∃ n, (if wideB s.data.toList = true then s.data.toList.dropLast else s.data.toList) = n := ⟨_, rfl⟩
  have hn2 : s.data.toList = n := by rw [← hn, if_neg (by rw [hw]; decide)]
  have hnz : n.length ≤ 4000000 := by rw [← hn2]; omega
  have eS : s = strL n := by rw [← hn2, strL_of]
  have hw2 : (s.data.toList.length < 2) ∨ (s.data.toList.getLast? == some 42) = false := by
    unfold wideB at hw
    rw [Bool.and_eq_false_iff, decide_eq_false_iff_not] at hw
    exact hw.imp (fun h => by omega) id
  by_cases hl1 : (1 : Int) < (s.size : Int)
  · rw [hw2.resolve_left (by omega)] at cH
    clear hw2
    obtain ⟨D, hD⟩ : ∃ D, plcV (toldP numF s.data.toList []) = D := ⟨_, rfl⟩
    rw [hD]
    have HD := Lib.hid hD
    clear hD
    subst eS
    have cI := fun W => Tryz.strings_LastIndexByte (strL n) 42 (by rw [strL_size]; omega) W
    by_cases hst : 42 ∈ n
    · obtain ⟨x, y, hxy, hy, hli⟩ := last_yes n hst
      rw [hli] at cI
      have hlen : n.length = x.length + 1 + y.length := by rw [hxy, List.length_append, List.length_cons]; omega
      have hts := told_star numF (strL n).data.toList [] x y n hn hxy hy
      have F1 : IntKind.i64.wrap ((x.length : Int) + 1) = (x.length : Int) + 1 := by rw [IntKind.wrap_i64]; omega
      have R1 := run_slice_from (strL n) (x.length + 1) ((x.length : Int) + 1) (by omega) (by rw [strL_size]; omega)
      have R2 := run_slice_to (strL n) x.length (x.length : Int) rfl (by rw [strL_size]; omega)
      have e1 : (strL n).extract (x.length + 1) (strL n).size = strL y := bytes_is (by rw [part_rest (strL n) (x.length + 1) (by rw [strL_size]; omega), strL_list, strL_list, hxy, ← List.drop_drop, List.drop_left' rfl]; rfl)
      have e2 : (strL n).extract 0 x.length = strL x := bytes_is (by rw [part_start (strL n) x.length (by rw [strL_size]; omega), strL_list, strL_list, hxy, List.take_left' rfl])
      rw [e1] at R1
      rw [e2] at R2
      have cP := fun W (hv : Hid (Nu.Vars W)) => Nu.parse_any (strL y) 0 63 (by rw [strL_size]; omega) W hv.out
      rw [strL_list] at cP
      unfold Nu.Ans at cP
      have hx0 : (0 : Int) ≤ (x.length : Int) := by omega
      cases hp : Nu.parseIn y 0 63 with
      | some z =>
        have hrz := parseIn_range hp
        rw [hp] at cP
        have hq : toldP numF (strL n).data.toList [] = ⟨x, some z.toNat, false, []⟩ := by rw [hts]; unfold numF; rw [hp, hw]; rfl
        have HA := Lib.hid (show plcV (toldP numF (strL n).data.toList []) = .tuple #[.agg #[.string (strL x), .int .i64 z], .bool false] by rw [hq]; unfold plcV plcZ; simp only []; rw [show ((z.toNat : Nat) : Int) = z by omega])
        simp only [Option.getD_some, Option.isSome_some] at cP
        have HN := Lib.hid hlen
        generalize strL n = ns at R1 R2 cI HA hl1 cH HD
        generalize strL y = ys at R1 cP
        generalize strL x = xs at R2 HA
        generalize (x.length : Int) = p at R1 R2 cI F1 hx0
        clear hv hbox hn hn2 hw hst hnz hz hs hxy hy hli hts e1 e2 hp hq hrz hlen
        go_enter Tryz.func69, Tryz.ntmps69
        go_wp2_with (first
          | (go_at_call 103; refine (cH _).mono ?_; rintro e w1 ⟨rfl, rfl⟩)
          | (go_at_call 104; refine (cI _).mono ?_; rintro e w2 ⟨rfl, rfl⟩)
          | (go_at_call 105; (with_reducible refine (cP _ HV0).mono ?_); rintro e w3 ⟨rfl, hb3⟩; have HB3 := Lib.hid (HB0.out.trans (hb3.mono HB0.out.size)); obtain ⟨y0, y1, yf⟩ := HBOX.out w3 (Lib.hid hb3); have HX3 := Lib.hid (HX0.out.step hb3); clear hb3 cP))
        rw [← HD.out, HA.out]
        exact bodyPost_ret (results_plc rfl _ _ w.heap.size _ _ rfl (set_two HX3.out)) rfl ⟨rfl, below_two HB3.out (Nat.le_refl _) _ _⟩
      | none =>
        rw [hp] at cP
        have hq : toldP numF (strL n).data.toList [] = ⟨n, none, false, []⟩ := by rw [hts]; unfold numF; rw [hp, hw]; rfl
        have HA := Lib.hid (show plcV (toldP numF (strL n).data.toList []) = .tuple #[.agg #[.string (strL n), .int .i64 (-2)], .bool false] by rw [hq]; rfl)
        simp only [Option.getD_none, Option.isSome_none] at cP
        generalize strL n = ns at R1 R2 cI HA hl1 cH HD
        generalize strL y = ys at R1 cP
        generalize (x.length : Int) = p at R1 R2 cI F1 hx0
        clear hv hbox hn hn2 hw hst hnz hz hs hxy hy hli hts e1 e2 hp hq hlen R2
        go_enter Tryz.func69, Tryz.ntmps69
        go_wp2_with (first
          | (go_at_call 103; refine (cH _).mono ?_; rintro e w1 ⟨rfl, rfl⟩)
          | (go_at_call 104; refine (cI _).mono ?_; rintro e w2 ⟨rfl, rfl⟩)
          | (go_at_call 105; (with_reducible refine (cP _ HV0).mono ?_); rintro e w3 ⟨rfl, hb3⟩; have HB3 := Lib.hid (HB0.out.trans (hb3.mono HB0.out.size)); obtain ⟨y0, y1, yf⟩ := HBOX.out w3 (Lib.hid hb3); have HX3 := Lib.hid (HX0.out.step hb3); clear hb3 cP))
        rw [← HD.out, HA.out]
        exact bodyPost_ret (results_plc rfl _ _ w.heap.size _ _ rfl (set_two HX3.out)) rfl ⟨rfl, below_two HB3.out (Nat.le_refl _) _ _⟩
    · rw [last_no n hst] at cI
      have hq : toldP numF (strL n).data.toList [] = ⟨n, none, false, []⟩ := by rw [told_no numF (strL n).data.toList [] n hn hst, hw]
      have HA := Lib.hid (show plcV (toldP numF (strL n).data.toList []) = .tuple #[.agg #[.string (strL n), .int .i64 (-2)], .bool false] by rw [hq]; rfl)
      generalize strL n = ns at cI HA hl1 cH HD
      clear hv hbox hn hn2 hw hst hnz hz hs hq
      go_enter Tryz.func69, Tryz.ntmps69
      go_wp2_with (first
          | (go_at_call 103; refine (cH _).mono ?_; rintro e w1 ⟨rfl, rfl⟩)
          | (go_at_call 104; refine (cI _).mono ?_; rintro e w2 ⟨rfl, rfl⟩))
      rw [← HD.out, HA.out]
      exact bodyPost_ret (results_plc rfl _ _ w.heap.size _ _ rfl (plx_new w _ _)) rfl ⟨rfl, (Below.refl _ w).alloc (Nat.le_refl _) _⟩
  · clear hw2 cH
    obtain ⟨D, hD⟩ : ∃ D, plcV (toldP numF s.data.toList []) = D := ⟨_, rfl⟩
    rw [hD]
    have HD := Lib.hid hD
    clear hD
    subst eS
    have cI := fun W => Tryz.strings_LastIndexByte (strL n) 42 (by rw [strL_size]; omega) W
    by_cases hst : 42 ∈ n
    · obtain ⟨x, y, hxy, hy, hli⟩ := last_yes n hst
      rw [hli] at cI
      have hlen : n.length = x.length + 1 + y.length := by rw [hxy, List.length_append, List.length_cons]; omega
      have hts := told_star numF (strL n).data.toList [] x y n hn hxy hy
      have F1 : IntKind.i64.wrap ((x.length : Int) + 1) = (x.length : Int) + 1 := by rw [IntKind.wrap_i64]; omega
      have R1 := run_slice_from (strL n) (x.length + 1) ((x.length : Int) + 1) (by omega) (by rw [strL_size]; omega)
      have R2 := run_slice_to (strL n) x.length (x.length : Int) rfl (by rw [strL_size]; omega)
      have e1 : (strL n).extract (x.length + 1) (strL n).size = strL y := bytes_is (by rw [part_rest (strL n) (x.length + 1) (by rw [strL_size]; omega), strL_list, strL_list, hxy, ← List.drop_drop, List.drop_left' rfl]; rfl)
      have e2 : (strL n).extract 0 x.length = strL x := bytes_is (by rw [part_start (strL n) x.length (by rw [strL_size]; omega), strL_list, strL_list, hxy, List.take_left' rfl])
      rw [e1] at R1
      rw [e2] at R2
      have cP := fun W (hv : Hid (Nu.Vars W)) => Nu.parse_any (strL y) 0 63 (by rw [strL_size]; omega) W hv.out
      rw [strL_list] at cP
      unfold Nu.Ans at cP
      have hx0 : (0 : Int) ≤ (x.length : Int) := by omega
      cases hp : Nu.parseIn y 0 63 with
      | some z =>
        have hrz := parseIn_range hp
        rw [hp] at cP
        have hq : toldP numF (strL n).data.toList [] = ⟨x, some z.toNat, false, []⟩ := by rw [hts]; unfold numF; rw [hp, hw]; rfl
        have HA := Lib.hid (show plcV (toldP numF (strL n).data.toList []) = .tuple #[.agg #[.string (strL x), .int .i64 z], .bool false] by rw [hq]; unfold plcV plcZ; simp only []; rw [show ((z.toNat : Nat) : Int) = z by omega])
        simp only [Option.getD_some, Option.isSome_some] at cP
        have HN := Lib.hid hlen
        generalize strL n = ns at R1 R2 cI HA hl1 HD
        generalize strL y = ys at R1 cP
        generalize strL x = xs at R2 HA
        generalize (x.length : Int) = p at R1 R2 cI F1 hx0
        clear hv hbox hn hn2 hw hst hnz hz hs hxy hy hli hts e1 e2 hp hq hrz hlen
        go_enter Tryz.func69, Tryz.ntmps69
        go_wp2_with (first
          | (go_at_call 103; refine (cH _).mono ?_; rintro e w1 ⟨rfl, rfl⟩)
          | (go_at_call 104; refine (cI _).mono ?_; rintro e w2 ⟨rfl, rfl⟩)
          | (go_at_call 105; (with_reducible refine (cP _ HV0).mono ?_); rintro e w3 ⟨rfl, hb3⟩; have HB3 := Lib.hid (HB0.out.trans (hb3.mono HB0.out.size)); obtain ⟨y0, y1, yf⟩ := HBOX.out w3 (Lib.hid hb3); have HX3 := Lib.hid (HX0.out.step hb3); clear hb3 cP))
        rw [← HD.out, HA.out]
        exact bodyPost_ret (results_plc rfl _ _ w.heap.size _ _ rfl (set_two HX3.out)) rfl ⟨rfl, below_two HB3.out (Nat.le_refl _) _ _⟩
      | none =>
        rw [hp] at cP
        have hq : toldP numF (strL n).data.toList [] = ⟨n, none, false, []⟩ := by rw [hts]; unfold numF; rw [hp, hw]; rfl
        have HA := Lib.hid (show plcV (toldP numF (strL n).data.toList []) = .tuple #[.agg #[.string (strL n), .int .i64 (-2)], .bool false] by rw [hq]; rfl)
        simp only [Option.getD_none, Option.isSome_none] at cP
        generalize strL n = ns at R1 R2 cI HA hl1 HD
        generalize strL y = ys at R1 cP
        generalize (x.length : Int) = p at R1 R2 cI F1 hx0
        clear hv hbox hn hn2 hw hst hnz hz hs hxy hy hli hts e1 e2 hp hq hlen R2
        go_enter Tryz.func69, Tryz.ntmps69
        go_wp2_with (first
          | (go_at_call 103; refine (cH _).mono ?_; rintro e w1 ⟨rfl, rfl⟩)
          | (go_at_call 104; refine (cI _).mono ?_; rintro e w2 ⟨rfl, rfl⟩)
          | (go_at_call 105; (with_reducible refine (cP _ HV0).mono ?_); rintro e w3 ⟨rfl, hb3⟩; have HB3 := Lib.hid (HB0.out.trans (hb3.mono HB0.out.size)); obtain ⟨y0, y1, yf⟩ := HBOX.out w3 (Lib.hid hb3); have HX3 := Lib.hid (HX0.out.step hb3); clear hb3 cP))
        rw [← HD.out, HA.out]
        exact bodyPost_ret (results_plc rfl _ _ w.heap.size _ _ rfl (set_two HX3.out)) rfl ⟨rfl, below_two HB3.out (Nat.le_refl _) _ _⟩
    · rw [last_no n hst] at cI
      have hq : toldP numF (strL n).data.toList [] = ⟨n, none, false, []⟩ := by rw [told_no numF (strL n).data.toList [] n hn hst, hw]
      have HA := Lib.hid (show plcV (toldP numF (strL n).data.toList []) = .tuple #[.agg #[.string (strL n), .int .i64 (-2)], .bool false] by rw [hq]; rfl)
      generalize strL n = ns at cI HA hl1 HD
      clear hv hbox hn hn2 hw hst hnz hz hs hq
      go_enter Tryz.func69, Tryz.ntmps69
      go_wp2_with (first
          | (go_at_call 103; refine (cH _).mono ?_; rintro e w1 ⟨rfl, rfl⟩)
          | (go_at_call 104; refine (cI _).mono ?_; rintro e w2 ⟨rfl, rfl⟩))
      rw [← HD.out, HA.out]
      exact bodyPost_ret (results_plc rfl _ _ w.heap.size _ _ rfl (plx_new w _ _)) rfl ⟨rfl, (Below.refl _ w).alloc (Nat.le_refl _) _⟩
theorem placed_any (s : ByteArray) (hs : s.size ≤ 4000000) (w : World) (hv : Nu.Vars w) :
    Calls Tryz.prog 69 #[.string s] w fun e w' => e = .returned (plcV (toldP numF s.data.toList [])) ∧ Below w.heap.size w w' := by
  cases hw : wideB s.data.toList with
  | true => exact placed_true s hs hw w hv
  | false => exact placed_false s hs hw w hv
end Go.Proofs.YtdinachiiimngaaGreatDoor
namespace Go.Proofs.YtdinachiiimngaaGreatDoor
open Go.ChangeShapes Go.WideShapes Go.ChangeAt Go.RowKit

/-! ### The builder that a call has made -/
theorem below_own {w w' : World} {base : Nat} {e : TypeId} {size : Nat} {v : Value} {n : Nat} {xs : List Value} (h : w.ownsRow base e size v n xs) (hb : Below w.heap.size w w') : w'.ownsRow base e size v n xs := by
  refine ⟨h.1, ?_⟩
  rcases h.2 with h1 | ⟨g, cap, cur, rfl, hbg, hg, rest⟩
  · exact .inl h1
  · refine .inr ⟨g, cap, cur, rfl, hbg, ?_, rest⟩
    rw [hb.block g (Array.getElem?_eq_some_iff.1 hg).1]
    exact hg
/-- The strings.Builder in block b holds l. -/
def Bd (w : World) (b : Nat) (l : List UInt8) : Prop := Lib.IsBuilder 61 5 b b (Lib.byteCells l) w
theorem Bd.lt {w : World} {b : Nat} {l : List UInt8} (h : Bd w b l) : b < w.heap.size := h.elim (fun x => x.lt) (fun x => x.lt)
theorem built_below {T e : TypeId} {B b : Nat} {p : Value} {bs : List Value} {w w' : World} (h : Lib.BuilderAt T e B b p bs w) (hb : Below w.heap.size w w') : Lib.BuilderAt T e B b p bs w' := by
  have hlt := h.lt
  obtain ⟨hB, v, hk, hown, hne⟩ := h
  exact ⟨hB, v, by rw [hb.block b hlt]; exact hk, below_own hown hb, hne⟩
theorem Bd.below {w w' : World} {b : Nat} {l : List UInt8} (h : Bd w b l) (hb : Below w.heap.size w w') : Bd w' b l := h.elim (fun x => .inl (built_below x hb)) (fun x => .inr (built_below x hb))
theorem Bd.alloc {w : World} {b : Nat} {l : List UInt8} (h : Bd w b l) (o : Obj) : Bd (w.alloc o) b l := h.below ((Below.refl _ _).alloc (Nat.le_refl _) _)
theorem Bd.drew {w : World} {b : Nat} {l : List UInt8} (h : Bd w b l) : Bd w.drew b l := h.below (Below.refl _ _).drew
theorem bd_new {w : World} {b : Nat} (h : w.heap[b]? = some (.cells #[.pointer none, .slice none 0 0] 61 (0, 0))) : Bd w b [] :=
  .inl ⟨Nat.le_refl _, .slice none 0 0, h, ⟨rfl, .inl ⟨rfl, rfl⟩⟩, by simp [Value.ownBlock]⟩
theorem byteCells_str (s : ByteArray) : Lib.strCells s = Lib.byteCells s.data.toList := rfl
theorem bd_str (s : ByteArray) (b : Nat) (l : List UInt8) (w : World) (h : Bd w b l) (hlen : l.length + s.size ≤ 140737488355328) :
    Calls Tryz.prog 42 #[.pointer (some ⟨b, 0, none⟩), .string s] w fun e w' => e = .returned (.tuple #[.int .i64 s.size, .nilIface]) ∧ Bd w' b (l ++ s.data.toList) ∧ Below b w w' := by
  refine (Tryz.Builder_WriteString b b (Lib.byteCells l) s w h (by rw [Lib.byteCells_length]; exact hlen) (Nat.le_of_lt h.lt)).mono fun e w' hh => ⟨hh.1, ?_, hh.2.2⟩
  have := hh.2.1
  rw [byteCells_str, ← Lib.byteCells_append] at this
  exact .inr this
theorem bd_byte (c : UInt8) (b : Nat) (l : List UInt8) (w : World) (h : Bd w b l) (hlen : l.length + 1 ≤ 140737488355328) :
    Calls Tryz.prog 80 #[.pointer (some ⟨b, 0, none⟩), .int .u8 c.toNat] w fun e w' => e = .returned .nilIface ∧ Bd w' b (l ++ [c]) ∧ Below b w w' := by
  refine (Tryz.Builder_WriteByte b b (Lib.byteCells l) c.toNat w h (by rw [Lib.byteCells_length]; exact hlen) (Nat.le_of_lt h.lt)).mono fun e w' hh => ⟨hh.1, ?_, hh.2.2⟩
  have := hh.2.1
  rw [show [Value.int .u8 (c.toNat : Int)] = Lib.byteCells [c] from rfl, ← Lib.byteCells_append] at this
  exact .inr this
theorem bd_out (b : Nat) (l : List UInt8) (w : World) (h : Bd w b l) :
    Calls Tryz.prog 44 #[.pointer (some ⟨b, 0, none⟩)] w fun e w' => e = .returned (.string (strL l)) ∧ Below b w w' :=
  (Tryz.Builder_String_any b b l w h (Nat.le_of_lt h.lt)).mono fun _ _ hh => ⟨hh.1, hh.2⟩
end Go.Proofs.YtdinachiiimngaaGreatDoor
namespace Go.Proofs.YtdinachiiimngaaGreatDoor
open Go.ChangeShapes Go.WideShapes Go.ChangeAt Go.RowKit
open TokP

theorem bd_first (w : World) : Bd (w.alloc (.cells #[.pointer none, .slice none 0 0] 61)) w.heap.size [] := bd_new (World.alloc_heap_new w _)
end Go.Proofs.YtdinachiiimngaaGreatDoor
namespace Go.Proofs.YtdinachiiimngaaGreatDoor
open Go.ChangeShapes Go.WideShapes Go.ChangeAt Go.RowKit
open TokP

set_option maxRecDepth 100000 in
set_option maxHeartbeats 2000000 in
theorem join_any (v : Value) (l : List Tok) (w : World) (h : HasF w v l) (hl : (joinL l).length ≤ 4000000) (hn : l.length ≤ 4000000) :
    Calls Tryz.prog 31 #[v] w fun e w' => e = .returned (.string (strL (joinL l))) ∧ Below w.heap.size w w' := by
  rcases h with ⟨rfl, rfl⟩ | ⟨g, o, c, rfl, h⟩
  · have b0 := bd_first w
    have hO := bd_out _ _ _ b0
    have hb0 := (Below.refl w.heap.size w).alloc (Nat.le_refl _) (.cells #[.pointer none, .slice none 0 0] 61)
    clear hl hn b0
    go_enter Tryz.func31, Tryz.ntmps31
    go_wp2_with fail
    go_loopw [8] (fun i wr => i = .int .i64 0 ∧ wr = w.alloc (.cells #[.pointer none, .slice none 0 0] 61)) (fun _ _ => 0)
    case atStart => exact ⟨rfl, rfl⟩
    case round =>
      obtain ⟨rfl, rfl⟩ := hrel
      go_wp2_with (go_at_call 44; refine hO.mono ?_; rintro e w3 ⟨rfl, hb3⟩)
      go_ret
      exact ⟨rfl, hb0.trans hb3⟩
  · obtain ⟨n, hnn⟩ : ∃ n, l.length = n := ⟨_, rfl⟩
    rw [hnn] at hn ⊢
    have HN := Lib.hid hnn
    have HL := Lib.hid hl
    clear hnn hl
    have HST := Lib.hid (show Bd (w.alloc (.cells #[.pointer none, .slice none 0 0] 61)) w.heap.size [] ∧ Below w.heap.size w (w.alloc (.cells #[.pointer none, .slice none 0 0] 61)) from ⟨bd_first w, (Below.refl _ w).alloc (Nat.le_refl _) _⟩)
    have H := Lib.hid h
    clear h
    go_enter Tryz.func31, Tryz.ntmps31
    go_wp2_with fail
    go_loopw [8] (fun i wr => ∃ k : Nat, k ≤ n ∧ i = .int .i64 k ∧ Hid (Bd wr w.heap.size (joinL (l.take k)) ∧ Below w.heap.size w wr)) (fun i _ => n - (intOf i).toNat)
    case atStart => exact ⟨0, Nat.zero_le _, rfl, HST⟩
    case round =>
      obtain ⟨k, hk, rfl, hst⟩ := hrel
      have F1 : IntKind.i64.wrap ((k : Int) + 1) = (k : Int) + 1 := by rw [IntKind.wrap_i64]; omega
      by_cases hlt : k < n
      · have hlt' : (k : Int) < (n : Int) := by omega
        have hkl : k < l.length := by rw [HN.out]; exact hlt
        obtain ⟨f, hf⟩ : ∃ f, l[k]? = some f := ⟨_, List.getElem?_eq_getElem hkl⟩
        obtain ⟨k0, k1⟩ := H.out.step hst.out.2 k f hf
        have hrl := text_le l k f hf
        have hL := HL.out
        have HR := Lib.hid (join_step l k f hf)
        have hbd := hst.out.1.alloc (.cells #[.int .i64 (f.kind : Nat), .string (strL f.text)] 89)
        have hwz := hst.out.2.size
        have hW := bd_str (strL f.text) _ _ _ hbd (by rw [strL_size]; omega)
        rw [strL_list] at hW
        have hb1 := hst.out.2.alloc hwz (.cells #[.int .i64 (f.kind : Nat), .string (strL f.text)] 89)
        clear hf hrl hL hkl
        go_wp2_with (go_at_call 42; refine hW.mono ?_; rintro e w3 ⟨rfl, hbd3, hb3⟩)
        go_roundw
        case rel => exact ⟨k + 1, by omega, by go_num, Lib.hid ⟨by rw [HR.out]; exact hbd3, hb1.trans hb3⟩⟩
        case measure => simp [intOf]; omega
      · obtain rfl : k = n := by omega
        have hT : l.take k = l := List.take_of_length_le (by rw [HN.out]; exact Nat.le_refl _)
        have hbd := hst.out.1
        rw [hT] at hbd
        have hO := bd_out _ _ _ hbd
        have hB := Lib.hid hst.out.2
        clear hbd hT
        go_wp2_with (go_at_call 44; refine hO.mono ?_; rintro e w3 ⟨rfl, hb3⟩)
        go_ret
        exact ⟨rfl, hB.out.trans hb3⟩
end Go.Proofs.YtdinachiiimngaaGreatDoor
namespace Go.Proofs.YtdinachiiimngaaGreatDoor
open Go.ChangeShapes Go.WideShapes Go.ChangeAt Go.RowKit
open TokP AdrP CtP


/-- Block g holds the bytes l and has room for cap of them. -/
structure Buf (base : Nat) (w : World) (g cap : Nat) (l : List UInt8) : Prop where
  le : l.length ≤ cap
  max : cap ≤ maxLen
  new : base ≤ g
  lt : g < w.heap.size
  holds : ∀ j, (h : j < l.length) → w.cell? ⟨g, j, none⟩ = some (.int .u8 (l[j].toNat : Int))
  there : ∀ j, j < cap → (w.cell? ⟨g, j, none⟩).isSome = true ∧ w.frozen? ⟨g, j, none⟩ = false
theorem Buf.block {base g cap : Nat} {w w' : World} {l : List UInt8} (h : Buf base w g cap l) (hs : w.heap.size ≤ w'.heap.size) (hb : w'.heap[g]? = w.heap[g]?) : Buf base w' g cap l :=
  ⟨h.le, h.max, h.new, Nat.lt_of_lt_of_le h.lt hs, fun j hj => by rw [World.cell?_of_block (by exact hb)]; exact h.holds j hj,
   fun j hj => by rw [World.cell?_of_block (by exact hb), World.frozen?_of_block (by exact hb)]; exact h.there j hj⟩
theorem Buf.below {base g cap : Nat} {w w' : World} {l : List UInt8} (h : Buf base w g cap l) (hb : Below w.heap.size w w') : Buf base w' g cap l :=
  h.block hb.size (hb.block g h.lt)
theorem below_bytes (w : World) (s : ByteArray) : Below w.heap.size w (Lib.bytesWorld w 5 s) :=
  ⟨rfl, rfl, rfl, by rw [Lib.bytesWorld_size]; omega, fun j hj => Lib.bytesWorld_at_old w 5 s j hj⟩
theorem buf_bytes (w : World) (s : ByteArray) (hs : s.size ≤ maxLen) : Buf w.heap.size (Lib.bytesWorld w 5 s) w.heap.size (grownCap w s.size 0 5) s.data.toList := by
  have hg := grownCap_ge w s.size 0 5
  have hc : (Lib.bytesCells w 5 s).size = grownCap w s.size 0 5 := by
    unfold Lib.bytesCells
    rw [Array.size_append, Array.size_map, Array.size_replicate]
    show s.size + _ = _
    omega
  have hl : s.data.toList.length = s.size := by rw [Array.length_toList]; rfl
  refine ⟨by rw [hl]; exact hg, grownCap_le_maxLen _ _ _ _ hs, Nat.le_refl _, by rw [Lib.bytesWorld_size]; omega, fun j hj => ?_, fun j hj => ?_⟩
  · rw [Lib.bytesWorld_cell w 5 s j (by omega), List.getD_eq_getElem?_getD, List.getElem?_eq_getElem hj]; rfl
  · have hn := Lib.bytesWorld_at_new w 5 s
    constructor
    · rw [cell_of_row _ _ j _ _ _ hn, Array.getElem?_eq_getElem (by omega)]; rfl
    · simp only [World.frozen?, hn, hc]
      simp; omega
theorem byteCells_len (l : List UInt8) : (Lib.byteCells l).length = l.length := Lib.byteCells_length l
/-- Bytes written over as many. -/
theorem Buf.put {base g cap : Nat} {w : World} {D x R : List UInt8} (h : Buf base w g cap (D ++ (x ++ R))) (y : List UInt8) (hy : y.length = x.length) :
    Buf base (w.setCells g D.length (Lib.byteCells y)) g cap (D ++ (y ++ R)) := by
  have hlen : (D ++ (y ++ R)).length = (D ++ (x ++ R)).length := by simp [hy]
  have hbl := byteCells_len y
  have hle := h.le
  simp only [List.length_append] at hle
  have hsz : (w.setCells g D.length (Lib.byteCells y)).heap.size = w.heap.size := by
    have : ∀ (vs : List Value) (o : Nat) (w : World), (w.setCells g o vs).heap.size = w.heap.size := by
      intro vs
      induction vs with
      | nil => intro o w; rfl
      | cons v r ih => intro o w; rw [World.setCells, ih]; simp [World.setCell]
    exact this _ _ _
  have hin := World.cell?_setCells_in g (Lib.byteCells y) D.length w (fun j hj => (h.there (D.length + j) (by omega)).1)
  refine ⟨by rw [hlen]; exact h.le, h.max, h.new, by rw [hsz]; exact h.lt, fun j hj => ?_, fun j hj => ?_⟩
  · by_cases c1 : j < D.length
    · rw [World.cell?_setCells_out g _ _ _ _ (fun _ _ => .inl c1), h.holds j (by rw [← hlen]; exact hj), List.getElem_append_left c1, List.getElem_append_left c1]
    · by_cases c2 : j < D.length + y.length
      · obtain ⟨k, rfl⟩ : ∃ k, j = D.length + k := ⟨j - D.length, by omega⟩
        rw [hin k (by rw [hbl]; omega), List.getElem_append_right (by omega)]
        simp only [Nat.add_sub_cancel_left]
        rw [List.getElem_append_left (by omega)]
        simp [Lib.byteCells]
      · rw [World.cell?_setCells_out g _ _ _ _ (fun _ _ => .inr (by rw [hbl]; simp only; omega)), h.holds j (by rw [← hlen]; exact hj), List.getElem_append_right (by omega), List.getElem_append_right (by omega), List.getElem_append_right (by omega), List.getElem_append_right (by omega)]
        congr 2
        simp only [hy]
  · rw [World.frozen?_setCells]
    refine ⟨?_, (h.there j hj).2⟩
    by_cases c1 : D.length ≤ j ∧ j < D.length + y.length
    · obtain ⟨k, rfl⟩ : ∃ k, j = D.length + k := ⟨j - D.length, by omega⟩
      rw [hin k (by rw [hbl]; omega)]; rfl
    · rw [World.cell?_setCells_out g _ _ _ _ (fun _ _ => by rw [hbl]; simp only; omega)]
      exact (h.there j hj).1
theorem low_big (c : UInt8) (x : Nat) (hx : c.toNat = x) (h1 : 65 ≤ x) (h2 : x ≤ 90) : (lowA c).toNat = x + 32 := by
  have : ∀ n : Fin 256, 65 ≤ n.val → n.val ≤ 90 → (lowA (UInt8.ofNat n.val)).toNat = n.val + 32 := by decide +kernel
  have h := this ⟨c.toNat, c.toNat_lt⟩ (by simp only; omega) (by simp only; omega)
  simp only [UInt8.ofNat_toNat] at h
  omega
theorem low_other (c : UInt8) (x : Nat) (hx : c.toNat = x) (h : x < 65 ∨ 90 < x) : lowA c = c := by
  have : ∀ n : Fin 256, (n.val < 65 ∨ 90 < n.val) → lowA (UInt8.ofNat n.val) = UInt8.ofNat n.val := by decide +kernel
  have h := this ⟨c.toNat, c.toNat_lt⟩ (by simp only; omega)
  simp only [UInt8.ofNat_toNat] at h
  exact h
theorem low_next (s : List UInt8) (k : Nat) (c : UInt8) (h : s[k]? = some c) : (s.take (k + 1)).map lowA = (s.take k).map lowA ++ [lowA c] := by
  rw [List.take_add_one, h, List.map_append]; rfl
theorem drop_cons' (s : List UInt8) (k : Nat) (c : UInt8) (h : s[k]? = some c) : s.drop k = c :: s.drop (k + 1) := by
  obtain ⟨hk, rfl⟩ := List.getElem?_eq_some_iff.1 h
  exact List.drop_eq_getElem_cons hk
set_option maxHeartbeats 1000000 in
theorem lower_any (D : ByteArray) (hD : D.size ≤ 4000000) (W : World) :
    Calls Tryz.prog 33 #[.string D] W fun e w' => e = .returned (.string (strL (D.data.toList.map lowA))) ∧ Below W.heap.size W w' := by
  have hcv := fun w : World => Lib.run_convert_string_bytes (P := Tryz.prog) w 9 59 5 D Tryz.underlying9 Tryz.underlying59 Tryz.underlying5
  have HLD := Lib.hid (size_list D)
  obtain ⟨ANS, hA⟩ : ∃ z, strL (D.data.toList.map lowA) = z := ⟨_, rfl⟩
  rw [hA]
  have HA := Lib.hid hA
  clear hA
  have hb0 := buf_bytes W D (by unfold maxLen; omega)
  have hbel0 := below_bytes W D
  obtain ⟨CAP, hCAP⟩ : ∃ c, grownCap W D.size 0 5 = c := ⟨_, rfl⟩
  have HB0 := Lib.hid hb0
  have HE0 := Lib.hid hbel0
  clear hb0 hbel0
  go_enter Tryz.func33, Tryz.ntmps33
  go_wp2_with fail
  have hb0 := HB0.out
  have hbel0 := HE0.out
  rw [hCAP] at hb0
  generalize Lib.bytesWorld W 5 D = W1 at hb0 hbel0 ⊢
  obtain ⟨G, hG⟩ : ∃ G, W.heap.size = G := ⟨_, rfl⟩
  rw [hG] at hb0 hbel0 ⊢
  have HGW := Lib.hid hG
  clear hG hcv
  go_loopw [10] (fun i wr => ∃ k : Nat, k ≤ D.size ∧ i = .int .i64 k ∧ Hid (Buf G wr G CAP ((D.data.toList.take k).map lowA ++ D.data.toList.drop k)) ∧ Hid (Below G W wr)) (fun i _ => D.size - (intOf i).toNat)
  case atStart => exact ⟨0, Nat.zero_le _, rfl, hb0, hbel0⟩
  case round =>
    obtain ⟨k, hk, rfl, HBf, HBe⟩ := hrel
    clear hb0 hbel0 HB0 HE0
    have F1 : IntKind.i64.wrap ((k : Int) + 1) = (k : Int) + 1 := by rw [IntKind.wrap_i64]; omega
    by_cases hlt : k < D.size
    · have hlt' : (k : Int) < (D.size : Int) := by omega
      obtain ⟨c, x, hc, hx, hx2, _⟩ := run_byte D k hlt
      have hln : ((D.data.toList.take k).map lowA).length = k := by have hlD := HLD.out; rw [List.length_map, List.length_take]; omega
      have hdr := drop_cons' D.data.toList k c hc
      have hnx := low_next D.data.toList k c hc
      have hbf := HBf.out
      rw [hdr] at hbf
      have ck : wr.cell? ⟨G, k, none⟩ = some (.int .u8 (x : Int)) := by
        have := hbf.holds k (by rw [List.length_append, hln]; simp)
        rw [List.getElem_append_right (by omega)] at this
        simp only [hln, Nat.sub_self, List.getElem_cons_zero, hx] at this
        exact this
      have cf := (hbf.there k (by have := hbf.le; rw [List.length_append, hln, List.length_cons] at this; omega)).2
      by_cases h65 : 65 ≤ x
      · have h65' : (65 : Int) ≤ (x : Int) := by omega
        by_cases h90 : x ≤ 90
        · have h90' : (x : Int) ≤ 90 := by omega
          have Fx : IntKind.u8.wrap ((x : Int) + 97) = (x : Int) + 97 := by rw [IntKind.wrap_u8]; omega
          have Fy : IntKind.u8.wrap ((x : Int) + 97 - 65) = (x : Int) + 32 := by rw [IntKind.wrap_u8]; omega
          have Fz : (x : Int) + 97 - 65 = (x : Int) + 32 := by omega
          have Fw : IntKind.u8.wrap ((x : Int) + 32) = (x : Int) + 32 := by rw [IntKind.wrap_u8]; omega
          have hput := Buf.put (D := (D.data.toList.take k).map lowA) (x := [c]) (R := D.data.toList.drop (k + 1)) hbf [lowA c] rfl
          rw [hln] at hput
          have HP : Hid (Buf G (wr.setCell ⟨G, k, none⟩ (.int .u8 ((x : Int) + 32))) G CAP ((D.data.toList.take (k + 1)).map lowA ++ D.data.toList.drop (k + 1))) := by
            show Buf G _ G CAP _
            rw [hnx, List.append_assoc]
            have e : (Lib.byteCells [lowA c]) = [.int .u8 ((x : Int) + 32)] := by
              simp [Lib.byteCells, low_big c x hx h65 h90]
            rw [e] at hput
            exact hput
          have HP2 : Hid (Below G W (wr.setCell ⟨G, k, none⟩ (.int .u8 ((x : Int) + 32)))) := Below.setCell HBe.out (by show G ≤ G; exact Nat.le_refl _) _
          clear hc hx hx2 hdr hnx hbf hput HBf HBe h65 h90
          go_wp2_with fail
          go_roundw
          case rel => exact ⟨k + 1, by omega, by go_num, HP, HP2⟩
          case measure => simp [intOf]; omega
        · have h90' : ¬ (x : Int) ≤ 90 := by omega
          have HP : Hid (Buf G wr G CAP ((D.data.toList.take (k + 1)).map lowA ++ D.data.toList.drop (k + 1))) := by
            show Buf G _ G CAP _
            rw [hnx, List.append_assoc, low_other c x hx (.inr (by omega))]
            exact hbf
          clear hc hx hx2 hdr hnx hbf HBf h65 h90
          go_wp2_with fail
          go_roundw
          case rel => exact ⟨k + 1, by omega, by go_num, HP, HBe⟩
          case measure => simp [intOf]; omega
      · have h65' : ¬ (65 : Int) ≤ (x : Int) := by omega
        have HP : Hid (Buf G wr G CAP ((D.data.toList.take (k + 1)).map lowA ++ D.data.toList.drop (k + 1))) := by
          show Buf G _ G CAP _
          rw [hnx, List.append_assoc, low_other c x hx (.inl (by omega))]
          exact hbf
        clear hc hx hx2 hdr hnx hbf HBf h65
        go_wp2_with fail
        go_roundw
        case rel => exact ⟨k + 1, by omega, by go_num, HP, HBe⟩
        case measure => simp [intOf]; omega
    · obtain rfl : k = D.size := by omega
      have hlt' : ¬ (D.size : Int) < (D.size : Int) := by omega
      have hbf := HBf.out
      rw [List.take_of_length_le (by rw [← HLD.out]; exact Nat.le_refl _), List.drop_eq_nil_of_le (by rw [← HLD.out]; exact Nat.le_refl _), List.append_nil] at hbf
      have hll : (D.data.toList.map lowA).length = D.size := by rw [List.length_map, HLD.out]
      have hcb : (convert 59 9 (.slice (some ⟨G, 0, none⟩) D.size CAP)).run Tryz.prog wr = .ok (.string (strL (D.data.toList.map lowA))) wr := by
        have := run_convert_bytes_back (P := Tryz.prog) wr 59 9 5 ⟨G, 0, none⟩ CAP (D.data.toList.map lowA) Tryz.underlying59 Tryz.underlying5 Tryz.underlying9 (fun j hj => by
          have h1 := hbf.holds j hj
          have e : (⟨G, 0, none⟩ : Addr).add j = ⟨G, j, none⟩ := by unfold Addr.add; split <;> simp_all
          rw [e]; exact h1)
        rw [hll] at this
        exact this
      have hbe := HBe.out
      rw [HA.out] at hcb
      have HBX := Lib.hid hbe
      clear hbf hbe HBf HBe
      go_wp2_with fail
      go_ret
      exact ⟨rfl, by rw [HGW.out]; exact HBX.out⟩
end Go.Proofs.YtdinachiiimngaaGreatDoor
namespace Go.Proofs.YtdinachiiimngaaGreatDoor
open Go.ChangeShapes Go.WideShapes Go.ChangeAt Go.RowKit

open TokP

theorem un_esc1 (l : List UInt8) (k : Nat) (d : UInt8) (h : l[k]? = some 92) (h2 : l[k + 1]? = some d) : unescS false (l.drop k) = d :: unescS false (l.drop (k + 2)) := by
  rw [cons_at l k 92 h, cons_at l (k + 1) d h2, unescS, if_pos rfl, unescS]
theorem un_esc0 (l : List UInt8) (k : Nat) (h : l[k]? = some 92) (h2 : l.length ≤ k + 1) : unescS false (l.drop k) = unescS false (l.drop (k + 2)) := by
  rw [cons_at l k 92 h, List.drop_eq_nil_of_le h2, List.drop_eq_nil_of_le (by omega)]; rfl
theorem un_break (l : List UInt8) (k : Nat) (c : UInt8) (h : l[k]? = some c) (h2 : c = 10 ∨ c = 13) : unescS false (l.drop k) = unescS false (l.drop (k + 1)) := by
  rw [cons_at l k c h, unescS, if_neg (by rcases h2 with rfl | rfl <;> decide), if_pos h2]
theorem un_plain (l : List UInt8) (k : Nat) (c : UInt8) (h : l[k]? = some c) (h1 : c ≠ 92) (h2 : ¬ (c = 10 ∨ c = 13)) : unescS false (l.drop k) = c :: unescS false (l.drop (k + 1)) := by
  rw [cons_at l k c h, unescS, if_neg h1, if_neg h2]
/-- The value of a token of any kind. -/
def valueI (K : Int) (l : List UInt8) : List UInt8 := if (K = 2 ∨ K = 3) ∧ 2 ≤ l.length then unescS false (l.drop 1).dropLast else l
theorem value_tok (t : Tok) : valueI (t.kind : Nat) t.text = valueL t := by
  unfold valueI valueL
  have : (((t.kind : Nat) : Int) = 2 ∨ ((t.kind : Nat) : Int) = 3) ↔ (t.kind = 2 ∨ t.kind = 3) := by omega
  simp only [this]
theorem inner_is (T : ByteArray) (h : 2 ≤ T.size) : T.extract 1 (T.size - 1) = strL (T.data.toList.drop 1).dropLast := by
  rw [part_of T 1 (T.size - 1) (by omega) (by omega), List.dropLast_eq_take, List.length_drop, ← size_list]
theorem value_yes (K : Int) (l : List UInt8) (h : K = 2 ∨ K = 3) (h2 : 2 ≤ l.length) : valueI K l = unescS false (l.drop 1).dropLast := by
  unfold valueI; rw [if_pos ⟨h, h2⟩]
theorem value_no (K : Int) (l : List UInt8) (h : ¬ ((K = 2 ∨ K = 3) ∧ 2 ≤ l.length)) : valueI K l = l := by
  unfold valueI; rw [if_neg h]
theorem esc_at (l : List UInt8) (k : Nat) (c : UInt8) (h : l[k]? = some c) : escL (l.drop k) = if held c = true then 92 :: c :: escL (l.drop (k + 1)) else c :: escL (l.drop (k + 1)) := by
  rw [cons_at l k c h, escL]
theorem esc_yes {l O R : List UInt8} {k : Nat} {c : UInt8} (h : l[k]? = some c) (hc : held c = true) (he : O ++ escL (l.drop k) = R) : (O ++ [92] ++ [c]) ++ escL (l.drop (k + 1)) = R := by
  rw [← he, esc_at l k c h, if_pos hc, List.append_assoc, List.append_assoc]; rfl
theorem esc_no {l O R : List UInt8} {k : Nat} {c : UInt8} (h : l[k]? = some c) (hc : held c = false) (he : O ++ escL (l.drop k) = R) : (O ++ [c]) ++ escL (l.drop (k + 1)) = R := by
  rw [← he, esc_at l k c h, if_neg (by rw [hc]; exact Bool.false_ne_true), List.append_assoc]; rfl
end Go.Proofs.YtdinachiiimngaaGreatDoor
namespace Go.Proofs.YtdinachiiimngaaGreatDoor
open Go.ChangeShapes Go.WideShapes Go.ChangeAt Go.RowKit
open TokP

/-- The builder in block b holds O, all older memory lies as it lay. -/
structure Ub (w0 w : World) (b : Nat) (O : List UInt8) : Prop where
  bd : Bd w b O
  bel : Below b w0 w
theorem Ub.put {w0 w w' : World} {b : Nat} {O O' : List UInt8} (h : Ub w0 w b O) (hb : Bd w' b O') (hk : Below b w w') : Ub w0 w' b O' := ⟨hb, h.bel.trans hk⟩
theorem ub_first (w : World) : Ub w (w.alloc (.cells #[.pointer none, .slice none 0 0] 61)) w.heap.size [] := ⟨bd_first w, (Below.refl _ w).alloc (Nat.le_refl _) _⟩
theorem Ub.byte {w0 w : World} {b : Nat} {O : List UInt8} (h : Ub w0 w b O) (c : UInt8) (x : Nat) (hx : c.toNat = x) (hO : O.length ≤ 4000000) :
    Calls Tryz.prog 80 #[.pointer (some ⟨b, 0, none⟩), .int .u8 x] w fun e w' => e = .returned .nilIface ∧ Ub w0 w' b (O ++ [c]) := by
  subst hx
  exact (bd_byte c b O w h.bd (by omega)).mono fun _ _ hh => ⟨hh.1, h.put hh.2.1 hh.2.2⟩
theorem Ub.out {w0 w : World} {b : Nat} {O : List UInt8} (h : Ub w0 w b O) :
    Calls Tryz.prog 44 #[.pointer (some ⟨b, 0, none⟩)] w fun e w' => e = .returned (.string (strL O)) ∧ Below b w0 w' :=
  (bd_out b O w h.bd).mono fun _ _ hh => ⟨hh.1, h.bel.trans hh.2⟩
set_option maxRecDepth 100000 in
set_option maxHeartbeats 2000000 in
theorem unesc_any (s : ByteArray) (hs : s.size ≤ 4000000) (w : World) :
    Calls Tryz.prog 146 #[.string s] w fun e w' => e = .returned (.string (strL (unescS false s.data.toList))) ∧ Below w.heap.size w w' := by
  obtain ⟨n, hn⟩ : ∃ n, s.size = n := ⟨_, rfl⟩
  have HL := Lib.hid (size_list s)
  rw [hn] at hs
  have HN := Lib.hid hn
  clear hn
  obtain ⟨R, hR⟩ : ∃ R, unescS false s.data.toList = R := ⟨_, rfl⟩
  have HR := Lib.hid hR
  rw [hR]
  clear hR
  have HST := Lib.hid (ub_first w)
  go_enter Tryz.func146, Tryz.ntmps146
  go_wp2_with fail
  go_loopw [4] (fun i wr => ∃ (k : Nat) (O : List UInt8), k ≤ n + 1 ∧ i = .int .i64 k ∧ O.length ≤ k ∧ Hid (O ++ unescS false (s.data.toList.drop k) = R) ∧ Hid (Ub w wr w.heap.size O)) (fun i _ => n + 1 - (intOf i).toNat)
  case atStart => exact ⟨0, [], by omega, rfl, Nat.le_refl _, Lib.hid HR.out, HST⟩
  case round =>
    obtain ⟨k, O, hk, rfl, hO, HE, HU⟩ := hrel
    have F1 : IntKind.i64.wrap ((k : Int) + 1) = (k : Int) + 1 := by rw [IntKind.wrap_i64]; omega
    have F2 : IntKind.i64.wrap ((k : Int) + 1 + 1) = (k : Int) + 1 + 1 := by rw [IntKind.wrap_i64]; omega
    have hn : s.size = n := HN.out
    by_cases hlt : k < n
    · have hlt' : (k : Int) < (n : Int) := by omega
      obtain ⟨c, x, hc, hx, hx2, S1⟩ := run_byte s k (by rw [hn]; exact hlt)
      have e10 := byte_is c x hx 10 (by decide)
      have e13 := byte_is c x hx 13 (by decide)
      have e92 := byte_is c x hx 92 (by decide)
      rw [show ((10 : Nat) : Int) = 10 from rfl] at e10
      rw [show ((13 : Nat) : Int) = 13 from rfl] at e13
      rw [show ((92 : Nat) : Int) = 92 from rfl] at e92
      by_cases h10 : c = 10
      · rw [show decide (c = UInt8.ofNat 10) = true from decide_eq_true h10] at e10
        have HE2 := Lib.hid ((congrArg (O ++ ·) (un_break _ k c hc (.inl h10))).symm.trans HE.out)
        clear h10 e13 e92 hc hx hx2 HE
        go_wp2_with fail
        go_roundw
        case rel => exact ⟨k + 1, O, by omega, by go_num, by omega, HE2, HU⟩
        case measure => simp [intOf]; omega
      · rw [show decide (c = UInt8.ofNat 10) = false from decide_eq_false h10] at e10
        by_cases h13 : c = 13
        · rw [show decide (c = UInt8.ofNat 13) = true from decide_eq_true h13] at e13
          have HE2 := Lib.hid ((congrArg (O ++ ·) (un_break _ k c hc (.inr h13))).symm.trans HE.out)
          clear h10 h13 e92 hc hx hx2 HE
          go_wp2_with fail
          go_roundw
          case rel => exact ⟨k + 1, O, by omega, by go_num, by omega, HE2, HU⟩
          case measure => simp [intOf]; omega
        · rw [show decide (c = UInt8.ofNat 13) = false from decide_eq_false h13] at e13
          by_cases h92 : c = 92
          · rw [show decide (c = UInt8.ofNat 92) = true from decide_eq_true h92] at e92
            rw [h92] at hc
            by_cases hl2 : k + 1 < n
            · have hl2' : (k : Int) + 1 < (n : Int) := by omega
              obtain ⟨d, y, hd, hy, hy2, S2⟩ := run_byte s (k + 1) (by rw [hn]; exact hl2)
              rw [show ((k + 1 : Nat) : Int) = (k : Int) + 1 from by omega] at S2
              have HE2 := Lib.hid (show (O ++ [d]) ++ unescS false (s.data.toList.drop (k + 2)) = R by rw [← HE.out, un_esc1 _ k d hc hd, List.append_assoc]; rfl)
              have cB := HU.out.byte d y hy (by omega)
              clear h10 h13 h92 hc hx hx2 HE hd hy hy2
              go_wp2_with (go_at_call 80; with_reducible refine cB.mono ?_; rintro e w2 ⟨rfl, hu2⟩; replace hu2 := Lib.hid hu2)
              go_roundw
              case rel => exact ⟨k + 2, O ++ [d], by omega, by go_num, by rw [List.length_append, List.length_singleton]; omega, HE2, hu2⟩
              case measure => simp [intOf]; omega
            · have hl2' : ¬ (k : Int) + 1 < (n : Int) := by omega
              have HE2 := Lib.hid ((congrArg (O ++ ·) (un_esc0 _ k hc (by rw [← HL.out, hn]; omega))).symm.trans HE.out)
              clear h10 h13 h92 hc hx hx2 HE
              go_wp2_with fail
              go_roundw
              case rel => exact ⟨k + 2, O, by omega, by go_num, by omega, HE2, HU⟩
              case measure => simp [intOf]; omega
          · rw [show decide (c = UInt8.ofNat 92) = false from decide_eq_false h92] at e92
            have HE2 := Lib.hid (show (O ++ [c]) ++ unescS false (s.data.toList.drop (k + 1)) = R by rw [← HE.out, un_plain _ k c hc h92 (fun e => e.elim h10 h13), List.append_assoc]; rfl)
            have cB := HU.out.byte c x hx (by omega)
            clear h10 h13 h92 hc hx hx2 HE
            go_wp2_with (go_at_call 80; with_reducible refine cB.mono ?_; rintro e w2 ⟨rfl, hu2⟩; replace hu2 := Lib.hid hu2)
            go_roundw
            case rel => exact ⟨k + 1, O ++ [c], by omega, by go_num, by rw [List.length_append, List.length_singleton]; omega, HE2, hu2⟩
            case measure => simp [intOf]; omega
    · have hlt' : ¬ (k : Int) < (n : Int) := by omega
      have he : O = R := by
        have h := HE.out
        rw [List.drop_eq_nil_of_le (by rw [← HL.out, hn]; omega), unescS, List.append_nil] at h
        exact h
      subst he
      have cO := HU.out.out
      clear HE
      go_wp2_with (go_at_call 44; with_reducible refine cO.mono ?_; rintro e w2 ⟨rfl, hb2⟩)
      go_ret
      exact ⟨rfl, hb2⟩
end Go.Proofs.YtdinachiiimngaaGreatDoor
namespace Go.Proofs.YtdinachiiimngaaGreatDoor
open Go.ChangeShapes Go.WideShapes Go.ChangeAt Go.RowKit
open TokP

theorem below_new (w w' : World) (o : Obj) (h : Below (w.alloc o).heap.size (w.alloc o) w') : Below w.heap.size w w' := ((Below.refl _ w).alloc (Nat.le_refl _) o).trans (h.mono (by rw [World.size_alloc]; omega))
set_option maxRecDepth 100000 in
set_option maxHeartbeats 2000000 in
theorem value_any (K : Int) (T : ByteArray) (hT : T.size ≤ 4000000) (w : World) :
    Calls Tryz.prog 102 #[.agg #[.int .i64 K, .string T]] w fun e w' => e = .returned (.string (strL (valueI K T.data.toList))) ∧ Below w.heap.size w w' := by
  have cC := fun W => clone_any T W hT
  have hsz := size_list T
  have HB := Lib.hid (below_new w)
  by_cases h2 : 2 ≤ T.size
  · have h2' : ¬ (T.size : Int) < 2 := by omega
    have F1 : IntKind.i64.wrap ((T.size : Int) - 1) = (T.size : Int) - 1 := by rw [IntKind.wrap_i64]; omega
    have R1 : ∀ W : World, (Instr.slice 9 (.string T) (some (.int .i64 1)) (some (.int .i64 ((T.size : Int) - 1))) none).run Tryz.prog W = .ok (.string (T.extract 1 (T.size - 1))) W := run_slice_str T 1 (T.size - 1) ((T.size : Int) - 1) (by omega) (by omega) (by omega)
    rw [inner_is T h2] at R1
    have cU := fun W => unesc_any (strL (T.data.toList.drop 1).dropLast) (by rw [strL_size, List.length_dropLast, List.length_drop, ← hsz]; omega) W
    rw [strL_list] at cU
    by_cases hk2 : K = 2
    · rw [value_yes K _ (.inl hk2) (by rw [← hsz]; exact h2)]
      generalize unescS false (T.data.toList.drop 1).dropLast = V at cU ⊢
      generalize strL (T.data.toList.drop 1).dropLast = U at R1 cU
      subst hk2
      clear hsz cC h2
      go_enter Tryz.func102, Tryz.ntmps102
      go_wp2_with (go_at_call 146; (with_reducible refine (cU _).mono ?_); rintro e w2 ⟨rfl, hb2⟩)
      go_ret
      exact ⟨rfl, HB.out _ _ hb2⟩
    · by_cases hk3 : K = 3
      · rw [value_yes K _ (.inr hk3) (by rw [← hsz]; exact h2)]
        generalize unescS false (T.data.toList.drop 1).dropLast = V at cU ⊢
        generalize strL (T.data.toList.drop 1).dropLast = U at R1 cU
        subst hk3
        clear hsz cC h2 hk2
        go_enter Tryz.func102, Tryz.ntmps102
        go_wp2_with (go_at_call 146; (with_reducible refine (cU _).mono ?_); rintro e w2 ⟨rfl, hb2⟩)
        go_ret
        exact ⟨rfl, HB.out _ _ hb2⟩
      · rw [value_no K _ (fun e => e.1.elim hk2 hk3), strL_of]
        have g2 : (K == 2) = false := beq_eq_false_iff_ne.2 hk2
        have g3 : (K == 3) = false := beq_eq_false_iff_ne.2 hk3
        clear hsz cU R1 h2 hk2 hk3
        go_enter Tryz.func102, Tryz.ntmps102
        go_wp2_with (go_at_call 41; (with_reducible refine (cC _).mono ?_); rintro e w2 ⟨rfl, hb2⟩)
        go_ret
        exact ⟨rfl, HB.out _ _ hb2⟩
  · have h2' : (T.size : Int) < 2 := by omega
    rw [value_no K _ (fun e => h2 (by rw [hsz]; exact e.2)), strL_of]
    clear hsz h2
    by_cases hk2 : K = 2
    · subst hk2
      go_enter Tryz.func102, Tryz.ntmps102
      go_wp2_with (go_at_call 41; (with_reducible refine (cC _).mono ?_); rintro e w2 ⟨rfl, hb2⟩)
      go_ret
      exact ⟨rfl, HB.out _ _ hb2⟩
    · have g2 : (K == 2) = false := beq_eq_false_iff_ne.2 hk2
      by_cases hk3 : K = 3
      · subst hk3
        clear g2 hk2
        go_enter Tryz.func102, Tryz.ntmps102
        go_wp2_with (go_at_call 41; (with_reducible refine (cC _).mono ?_); rintro e w2 ⟨rfl, hb2⟩)
        go_ret
        exact ⟨rfl, HB.out _ _ hb2⟩
      · have g3 : (K == 3) = false := beq_eq_false_iff_ne.2 hk3
        clear hk2 hk3
        go_enter Tryz.func102, Tryz.ntmps102
        go_wp2_with (go_at_call 41; (with_reducible refine (cC _).mono ?_); rintro e w2 ⟨rfl, hb2⟩)
        go_ret
        exact ⟨rfl, HB.out _ _ hb2⟩
end Go.Proofs.YtdinachiiimngaaGreatDoor
