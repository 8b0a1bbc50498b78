/- What the rows' list of package-level variables gives the walks, and a world in which they are laid. -/
import Derived.Test.YtnmdljadnlddeaaGreatDoorCards
import Derived.Test.YtnmdljadnlddeaaGreatDoorTie
import Derived.Test.YtnmdljadnlddeaaGreatDoorBase
import Derived.Lib.LaidU8
import Derived.Lib.LaidCase
import Derived.Shelf.Vars
import Derived.Lay
import Derived.OpenShut
import Derived.Carry
import Derived.Deep.DeepHandedRow
import Derived.Stop.LaidErr
namespace Go.Proofs.YtnmdljadnlddeaaGreatDoor
open Go.ChangeShapes Go.WideShapes Go.ChangeAt Go.RowKit

theorem own : ownKnob Tryz.prog.godebug = none := by kernel_rfl
theorem gPow : Tryz.prog.globalNamed "internal/strconv.uint64pow10" = some 8 := by kernel_rfl
theorem gPowType : (Tryz.prog.globals[8]?).map (·.type) = some 139 := by kernel_rfl
theorem cells139 : Tryz.prog.cellsOf 139 = 20 := by kernel_rfl
theorem cells85 : Tryz.prog.cellsOf 85 = 1 := by kernel_rfl
theorem gFold : Tryz.prog.globalNamed "unicode.asciiFold" = some 3 := by kernel_rfl
theorem gFoldType : (Tryz.prog.globals[3]?).map (·.type) = some 103 := by kernel_rfl
theorem cells103 : Tryz.prog.cellsOf 103 = 128 := by kernel_rfl
theorem cells102 : Tryz.prog.cellsOf 102 = 1 := by kernel_rfl
theorem gDay : Tryz.prog.globalNamed "pouch/date.weekdays" = some 0 := by kernel_rfl
theorem gDayType : (Tryz.prog.globals[0]?).map (·.type) = some 38 := by kernel_rfl
theorem gMon : Tryz.prog.globalNamed "pouch/date.months" = some 1 := by kernel_rfl
theorem gMonType : (Tryz.prog.globals[1]?).map (·.type) = some 39 := by kernel_rfl
theorem cells38 : Tryz.prog.cellsOf 38 = 7 := by kernel_rfl
theorem cells39 : Tryz.prog.cellsOf 39 = 12 := by kernel_rfl
theorem cells9 : Tryz.prog.cellsOf 9 = 1 := by kernel_rfl
theorem gOrb : Tryz.prog.globalNamed "unicode.caseOrbit" = some 4 := by kernel_rfl
theorem gOrbType : (Tryz.prog.globals[4]?).map (·.type) = some 104 := by kernel_rfl
theorem cells106 : Tryz.prog.cellsOf 106 = 2 := by kernel_rfl
theorem star : "*" ++ "errors.errorString" = "*errors.errorString" := by decide
theorem typeRow (u : TypeId) (h : Tryz.prog.typeName? 3 u = some "*errors.errorString") : u = 149 :=
  typeName_ptr_named (nm := "errors.errorString") (by rw [star]; kernel_rfl) (by kernel_rfl) (by decide) u (by rw [star]; exact h)
theorem row_of_var {W : World} {n : String} {g : Nat} {cs : Array Value} (hg : Tryz.prog.globalNamed n = some g) (h : W.var? Tryz.prog n = some cs) : ∃ T fr, W.heap[g]? = some (.cells cs T fr) := by
  unfold World.var? at h
  rw [hg] at h
  simp only [Option.bind_some] at h
  split at h
  · rename_i h2
    cases h
    exact ⟨_, _, h2⟩
  · cases h

/-- An array of strings that reads so holds these strings. -/
theorem cells_of_strs {H : Type} {enc : TypeId × Value → H} {P : Program} {w : World} {base : Nat} {sp : Nat → Bool} {held : Bool} {fuel : Nat} {t e : TypeId} {n : Nat} {cs : List Value} {ls : List (List UInt8)} {p : List MemPlace}
    (ht : P.underlying t = some (.array n e)) (he : P.underlying e = some .string) (hce : P.cellsOf e = 1) (hct : P.cellsOf t = n)
    (h : DataW.trod enc P w base sp held fuel t cs = some (.agg (ls.map fun l => .lit (.string l)), p)) : cs = ls.map strV := by
  cases fuel with
  | zero => simp [DataW.trod] at h
  | succ fuel =>
    simp only [DataW.trod, ht, hce, hct, Nat.mul_one] at h
    split at h
    · rename_i hl
      obtain ⟨xs, hm, hx⟩ := Option.map_eq_some_iff.1 h
      have hxs : xs.map (·.1) = ls.map fun l => (DataW.lit (.string l) : DataW H) := by
        have := congrArg Prod.fst hx
        simpa using this
      have hxl : xs.length = n := by simpa using Lib.mapM_length hm
      have hzl : ls.length = n := by
        have := congrArg List.length hxs
        simp at this
        omega
      apply List.ext_getElem?
      intro i
      by_cases hi : i < n
      · obtain ⟨b, hb, hf⟩ := Lib.mapM_at hm i i (by simp [hi])
        obtain ⟨s, hc, rfl, _⟩ := DataW.trod_string he hf
        have h1 : cs[i]? = some (.string s) := by
          have := congrArg (·[0]?) hc
          simpa [List.getElem?_take, List.getElem?_drop] using this
        have h2 : (xs.map (·.1))[i]? = some (DataW.lit (.string s.data.toList) : DataW H) := by simp [hb]
        rw [hxs] at h2
        simp only [List.getElem?_map, Option.map_eq_some_iff, DataW.lit.injEq, Lit.string.injEq] at h2
        obtain ⟨l, hz', rfl⟩ := h2
        rw [h1, List.getElem?_map, hz']
        show some (Value.string s) = some (strV s.data.toList)
        unfold strV
        rw [strL_of]
      · rw [List.getElem?_eq_none (by omega), List.getElem?_eq_none (by simp; omega)]
    · cases h
theorem strs_of {w : World} {n : String} {g : Nat} {t : TypeId} {k : Nat} {ls : List (List UInt8)} (h : Lib.VarReads Tryz.prog w n (.agg (ls.map fun l => .lit (.string l)))) (hgn : Tryz.prog.globalNamed n = some g) (hgt : (Tryz.prog.globals[g]?).map (·.type) = some t)
    (ht : Tryz.prog.underlying t = some (.array k 9)) (hct : Tryz.prog.cellsOf t = k) : ∃ T fr, w.heap[g]? = some (.cells (ls.map strV).toArray T fr) := by
  obtain ⟨g', t', cs, fuel, p, hg, hty, hvar, hd⟩ := h
  obtain rfl := Option.some.inj (hgn.symm.trans hg)
  obtain rfl := Option.some.inj (hgt.symm.trans hty)
  have hcs := cells_of_strs ht Tryz.underlying9 cells9 hct hd
  obtain ⟨T, fr, e⟩ := row_of_var hg hvar
  refine ⟨T, fr, ?_⟩
  rw [e, ← hcs]

/-- The fold of the letters of ASCII, as numbers. -/
def foldT : List Int := (List.range 128).map fun c => (foldA c : Int)
theorem fold_data : (Rows.laid_unicode_asciiFold : DataW Unit) = Lib.tabData .u16 foldT := by kernel_rfl
theorem foldT_at (c : Nat) (h : c < 128) : foldT.getD c 0 = (foldA c : Int) := by
  unfold foldT
  rw [List.getD_eq_getElem?_getD, List.getElem?_map, List.getElem?_range h]
  rfl

/-- The orbits that are no pairs. -/
def orbT : List (Int × Int) := [(75, 107), (83, 115), (107, 8490), (115, 383), (181, 924), (197, 229), (223, 7838), (229, 8491), (304, 304), (305, 305), (383, 83), (452, 453), (453, 454), (454, 452), (455, 456), (456, 457), (457, 455), (458, 459), (459, 460), (460, 458), (497, 498), (498, 499), (499, 497), (837, 921), (912, 8147), (914, 946), (917, 949), (920, 952), (921, 953), (922, 954), (924, 956), (928, 960), (929, 961), (931, 962), (934, 966), (937, 969), (944, 8163), (946, 976), (949, 1013), (952, 977), (953, 8126), (954, 1008), (956, 181), (960, 982), (961, 1009), (962, 963), (963, 931), (966, 981), (969, 8486), (976, 914), (977, 1012), (981, 934), (982, 928), (1008, 922), (1009, 929), (1012, 920), (1013, 917), (1042, 1074), (1044, 1076), (1054, 1086), (1057, 1089), (1058, 1090), (1066, 1098), (1074, 7296), (1076, 7297), (1086, 7298), (1089, 7299), (1090, 7300), (1098, 7302), (1122, 1123), (1123, 7303), (7296, 1042), (7297, 1044), (7298, 1054), (7299, 1057), (7300, 7301), (7301, 1058), (7302, 1066), (7303, 1122), (7304, 42570), (7776, 7777), (7777, 7835), (7835, 7776), (7838, 223), (8126, 837), (8147, 912), (8163, 944), (8486, 937), (8490, 75), (8491, 197), (42570, 42571), (42571, 7304), (64261, 64262), (64262, 64261)]
def orbD {H : Type} (x : Int × Int) : DataW H := .agg [.lit (.int .u16 x.1), .lit (.int .u16 x.2)]
theorem orb_data : (Rows.laid_unicode_caseOrbit : DataW Unit) = .slice (orbT.map orbD) [] := by kernel_rfl
theorem orbT_len : orbT.length = 94 := by decide
theorem orbT_from : ∀ i < 94, (orbT.getD i (0, 0)).1 = (orbF.getD i 0 : Nat) := by decide
theorem orbT_ten : (orbT.getD 10 (0, 0)).2 = 83 := by decide
theorem two_of {cs : List Value} {a b : Value} (hl : cs.length = 2) (h0 : cs[0]? = some a) (h1 : cs[1]? = some b) : cs = [a, b] := by
  match cs, hl, h0, h1 with
  | [c0, c1], _, h0, h1 =>
    rw [List.getElem?_cons_zero] at h0
    rw [List.getElem?_cons_succ, List.getElem?_cons_zero] at h1
    rw [Option.some.inj h0, Option.some.inj h1]
section
variable {H : Type} {enc : TypeId × Value → H} {w : World} {base : Nat} {sp : Nat → Bool} {held : Bool}
theorem orb_cells {fuel : Nat} {cs : List Value} {x : Int × Int} {p : List MemPlace}
    (h : DataW.trod enc Tryz.prog w base sp held fuel 106 cs = some (orbD x, p)) : cs = [.int .u16 x.1, .int .u16 x.2] := by
  obtain ⟨xs, n, rfl, hx, hl, hxl, hall⟩ := DataW.trod_struct Tryz.underlying106 h
  rw [cells106] at hl
  have hx3 : xs.map (·.1) = [.lit (.int .u16 x.1), .lit (.int .u16 x.2)] := by
    have := congrArg Prod.fst hx
    simpa [orbD] using this.symm
  obtain ⟨x0, x1, rfl⟩ : ∃ x0 x1, xs = [x0, x1] := by
    match xs, hx3 with
    | [x0, x1], _ => exact ⟨x0, x1, rfl⟩
  simp only [List.map_cons, List.map_nil, List.cons.injEq, and_true] at hx3
  obtain ⟨e0, e1⟩ := hx3
  have f0 := hall 0 _ rfl
  have f1 := hall 1 _ rfl
  change DataW.trod _ _ _ _ _ _ _ 102 ((cs.drop 0).take (Tryz.prog.cellsOf 102)) = some x0 at f0
  change DataW.trod _ _ _ _ _ _ _ 102 ((cs.drop 1).take (Tryz.prog.cellsOf 102)) = some x1 at f1
  rw [cells102] at f0 f1
  have g0 : cs[0]? = some (.int .u16 x.1) := by
    obtain ⟨z, hz, hx', _⟩ := DataW.trod_int Tryz.underlying102 f0
    rw [hx'] at e0
    cases e0
    exact at_of_take hz
  have g1 : cs[1]? = some (.int .u16 x.2) := by
    obtain ⟨z, hz, hx', _⟩ := DataW.trod_int Tryz.underlying102 f1
    rw [hx'] at e1
    cases e1
    exact at_of_take hz
  exact two_of hl g0 g1
end
theorem orbs_of {w : World} (h : Lib.VarReads Tryz.prog w "unicode.caseOrbit" (.slice (orbT.map orbD) [])) :
    ∃ b o c, w.cell? ⟨4, 0, none⟩ = some (.slice (some ⟨b, o, none⟩) 94 c) ∧ ∀ i, i < 94 → ∀ j, j < 2 → w.cell? ⟨b, o + i * 2 + j, none⟩ = ([.int .u16 (orbT.getD i (0, 0)).1, .int .u16 (orbT.getD i (0, 0)).2] : List Value)[j]? := by
  obtain ⟨g, t, cs, fuel, p, hg, hty, hvar, hd⟩ := h
  obtain rfl := Option.some.inj (gOrb.symm.trans hg)
  obtain rfl := Option.some.inj (gOrbType.symm.trans hty)
  rcases DataW.trod_slice Tryz.underlying104 hd with ⟨_, hx'⟩ | ⟨a', len, cap, el, rs, m, rfl, hc0, hx', _, hlc, _, hel, helem, hsp, _⟩
  · cases hx'
  have e0 := congrArg Prod.fst hx'
  simp only [DataW.slice.injEq] at e0
  obtain ⟨eE, eR⟩ := e0
  have hlen : len = 94 := by
    have := congrArg List.length eE
    rw [List.length_map, List.length_map, hel, orbT_len] at this
    exact this.symm
  subst hlen
  have hrow : ∀ i, i < 94 → ∀ j, j < 2 → w.cell? ((a'.add (i * 2)).add j) = ([.int .u16 (orbT.getD i (0, 0)).1, .int .u16 (orbT.getD i (0, 0)).2] : List Value)[j]? := by
    intro i hi j hj
    have h1 := helem i hi
    rw [cells106] at h1
    obtain ⟨b, hb⟩ : ∃ b, el[i]? = some b := ⟨el[i]'(by omega), List.getElem?_eq_getElem (by omega)⟩
    rw [hb] at h1
    obtain ⟨ce, hce, hte⟩ := Option.bind_eq_some_iff.1 h1
    have hb1 : b.1 = orbD (orbT.getD i (0, 0)) := by
      have := congrArg (·[i]?) eE
      simp only [List.getElem?_map, hb, Option.map_some] at this
      have hi' : i < orbT.length := by rw [orbT_len]; exact hi
      rw [List.getElem?_eq_getElem hi'] at this
      simp only [Option.map_some, Option.some.injEq] at this
      rw [← this, List.getD_eq_getElem?_getD, List.getElem?_eq_getElem hi']
      rfl
    have hcs := orb_cells (p := b.2) (by rw [← hb1]; exact hte)
    obtain ⟨_, _, hcc⟩ := World.cells?_some hce
    rw [hcc j hj, hcs]
  obtain ⟨R, oR, sR⟩ := a'
  obtain rfl : sR = none := by
    have h00 := hrow 0 (by omega) 0 (by omega)
    have : (Addr.add (Addr.add ⟨R, oR, sR⟩ (0 * 2)) 0) = ⟨R, oR, sR⟩ := by simp [Addr.add]
    rw [this] at h00
    exact cell_spot h00
  refine ⟨R, oR, cap, ?_, fun i hi j hj => ?_⟩
  · rw [World.var?_cell hg hvar 0, ← Array.getElem?_toList, hc0]
    rfl
  · have k0 := hrow i hi j hj
    rw [Addr.add_lit, Addr.add_lit] at k0
    exact k0
theorem vars_of {W : World} (h : laidMet Tryz.prog Rows.dateBackRow.laid W) : Vars W := by
  have hd : Lib.VarReads Tryz.prog W "pouch/date.weekdays" Rows.laid_pouch_date_weekdays := Lib.laidMet.reads h (by simp [Rows.dateBackRow])
  have hm : Lib.VarReads Tryz.prog W "pouch/date.months" Rows.laid_pouch_date_months := Lib.laidMet.reads h (by simp [Rows.dateBackRow])
  have ho : Lib.VarReads Tryz.prog W "unicode.caseOrbit" Rows.laid_unicode_caseOrbit := Lib.laidMet.reads h (by simp [Rows.dateBackRow])
  rw [orb_data] at ho
  obtain ⟨b, o, c, o1, o2⟩ := orbs_of ho
  have hf := Lib.tabIs_of_head gFold gFoldType Tryz.underlying103 Tryz.underlying102 cells102 cells103 (show laidMet Tryz.prog (("unicode.asciiFold", Lib.tabData .u16 foldT) :: _) W from fold_data ▸ h.tail.tail.tail.tail.tail.tail)
  refine ⟨Lib.tabIs_of_head gPow gPowType Tryz.underlying139 Tryz.underlying85 cells85 cells139 (show laidMet Tryz.prog (("internal/strconv.uint64pow10", Lib.tabData .u64 Lib.pow10Tab) :: _) W from h.tail.tail), ?_, ?_, ?_, ?_, ?_, ?_⟩
  · obtain ⟨a, s, hv, _⟩ := laid_sentinel (g := 9) (ti := 67) (tp := 149) (te := 151) (ts := 9) h.tail.tail.tail.tail.tail (by kernel_rfl) (by kernel_rfl) Tryz.underlying67 (fun u hu => typeRow u hu) Tryz.underlying149 Tryz.underlying151 rfl rfl Tryz.underlying9 (by kernel_rfl) (by kernel_rfl)
    exact ⟨_, _, hv⟩
  · obtain ⟨a, s, hv, _⟩ := laid_sentinel (g := 10) (ti := 67) (tp := 149) (te := 151) (ts := 9) h.tail.tail.tail.tail (by kernel_rfl) (by kernel_rfl) Tryz.underlying67 (fun u hu => typeRow u hu) Tryz.underlying149 Tryz.underlying151 rfl rfl Tryz.underlying9 (by kernel_rfl) (by kernel_rfl)
    exact ⟨_, _, hv⟩
  · exact strs_of (ls := DateP.dayNames) hd gDay gDayType Tryz.underlying38 cells38
  · exact strs_of (ls := DateP.monNames) hm gMon gMonType Tryz.underlying39 cells39
  · intro k hk
    rw [hf.cell gFold k (by unfold foldT; simpa using hk), foldT_at k hk]
  · refine ⟨b, o, c, o1, fun i hi => ?_, ?_⟩
    · have := o2 i hi 0 (by omega)
      rw [Nat.add_zero] at this
      rw [this, ← orbT_from i hi]
      rfl
    · have := o2 10 (by omega) 1 (by omega)
      rw [this, orbT_ten]
      rfl

/-- A world for the witness: the settled one, the listed variables as their initialisers lay them. -/
noncomputable def laidWorld (os : Os) : World := World.laidAll Tryz.prog os Rows.dateBackRow.laid
theorem laid_met (os : Os) (args : Array Value) : laidMet Tryz.prog Rows.dateBackRow.laid ((laidWorld os).forCall (fun _ _ => 0) ⟨#[], args, []⟩).memory :=
  laidMet_laidAll _ (by kernel_rfl) (by kernel_rfl)
theorem laid_shaped (os : Os) (args : Array Value) : ((laidWorld os).forCall (fun _ _ => 0) ⟨#[], args, []⟩).Shaped Tryz.prog :=
  World.shaped_of_ZipB (by kernel_rfl) (by kernel_rfl)
section
variable {H : Type} {enc : TypeId × Value → H}
/-- There is an input that fits. -/
theorem witness_zip {C : Checked} {os : Os} {f : FuncId} {fn : Func} {s : OpenSpec} {conds : List PathCond} {apart : Bool} {laid : List (String × DataW Unit)} (modest : Bool) (w0 : World) (args : Array Value) (hos : w0.os = os)
    (hsh : (w0.forCall (fun _ _ => 0) ⟨#[], args, []⟩).Shaped C.prog)
    (hok : Input.okWideB C.prog (w0.forCall (fun _ _ => 0) ⟨#[], args, []⟩) f ⟨#[], args, []⟩ = true)
    (hrow : s.preRow enc C.prog fn conds apart laid (w0.forCall (fun _ _ => 0) ⟨#[], args, []⟩).memory args) :
    ∃ (w : World) (tape : Tape) (i : Input), w.os = os ∧ (w.forCall tape i).Shaped C.prog ∧ i.vars = [] ∧ Input.okWide C.prog (w.forCall tape i) .any w.heap.size f i ∧
      s.preRow enc C.prog fn conds apart laid (w.forCall tape i).memory i.args ∧ ({ modest := modest } : Assume).holds C.prog (lone (Frame.enter C.prog f i.args .normal) [] (w.forCall tape i)) :=
  ⟨w0, fun _ _ => 0, ⟨#[], args, []⟩, hos, hsh, (Input.okWide_of_okWideB (base := 0) hok).1, (Input.okWide_of_okWideB hok).2, hrow, by
    simp only [Assume.holds]
    exact ⟨by simp, by simp, fun _ => Modest.zero, by simp, by simp⟩⟩
end
end Go.Proofs.YtnmdljadnlddeaaGreatDoor
