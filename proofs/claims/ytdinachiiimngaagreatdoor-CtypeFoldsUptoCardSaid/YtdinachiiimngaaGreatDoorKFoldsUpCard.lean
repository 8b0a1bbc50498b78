/- CtypeFolds holds where what comes in is of bulk at most 1048576: the law returns true, and its arguments read afterwards as before; the variables that are read are tied to the program's text. -/
import Derived.Test.YtdinachiiimngaaGreatDoorK12
import Derived.Test.YtdinachiiimngaaGreatDoorKHdLaid
import Derived.Test.YtdinachiiimngaaGreatDoorK17
import Derived.Lib.SmallJoins
namespace Go.Proofs.YtdinachiiimngaaGreatDoor
open Go.ChangeShapes Go.WideShapes Go.ChangeAt Go.RowKit
open Go.ChangeMaps (open_string shut_string)
open Go.Joins

theorem folds_laid : Rows.ctypeFoldsUptoRow.laid = Rows.ctypeTellsRow.laid := by kernel_rfl
set_option maxRecDepth 100000 in
set_option maxHeartbeats 2000000 in
theorem folds_contract (H : Type) (enc : TypeId × Value → H) (W : World) (base : Nat) (args : Array Value) (ds gs : List (DataW H)) (before : List MemPlace)
    (hval : ∀ (j : Nat) t v, Tryz.f7.params[j]? = some t → args[j]? = some v → Value.okWide Tryz.prog W .any base t v)
    (hW : DataW.Whole enc Tryz.prog Tryz.f7.params.toList Rows.ctypeFoldsSpec.vars false W args.toList ds gs before) (hk : Rows.uptoSmall H (ds ++ gs) = true) (hL : laidMet Tryz.prog Rows.ctypeFoldsUptoRow.laid W) (hS : W.ShapedOpen Tryz.prog) :
    Calls Tryz.prog 7 args W fun e W' => ∃ v, e = .returned v ∧ Rows.ctypeFoldsSpec.post enc Tryz.prog Tryz.f7 false true false false W args v W' := by
  have hW' := hW
  obtain ⟨p, q, hA0, hV, rfl, hfz, hnd⟩ := hW
  have hA : DataW.TrodAll enc Tryz.prog W 0 (fun _ => true) true Tryz.f7.params.toList args.toList ds p := hA0
  rw [Tryz.params7] at hA hval
  obtain ⟨v0, vs0, d0, ds0, p0, q0, e0, rfl, rfl, h0, r0⟩ := trodAll_cons hA
  obtain ⟨rfl, rfl, rfl⟩ := trodAll_nil r0
  obtain rfl : args = #[v0] := by cases args; simp_all
  obtain ⟨rfl, rfl⟩ := trodVars_none hV
  obtain ⟨c0, k0, m0, y0, z0, x0, n0, rfl, rfl, rfl, s0, t0, u0⟩ := open_agg3 Tryz.underlying26 (by kernel_rfl) (by kernel_rfl) (hval 0 26 v0 rfl rfl) h0
  have hlt0 : ∀ x ∈ y0.2 ++ (z0.2 ++ x0.2), x.block < W.heap.size := fun x hx => hW'.lt x (by simpa using hx)
  obtain ⟨a0, e0x, hy0, wax⟩ := DataW.trod_string Tryz.underlying9 s0
  obtain ⟨b0, e0y, hz0, way⟩ := DataW.trod_string Tryz.underlying9 t0
  obtain ⟨vz0, xa, ez0, ha, ba⟩ := pars_has u0
  obtain rfl := (List.cons.inj e0x).1
  obtain rfl := (List.cons.inj e0y).1
  obtain rfl := (List.cons.inj ez0).1
  have hbk : a0.size + b0.size + (xa.map lensP).sum ≤ 1048576 := by
    have h : Rows.uptoBulkAll ([DataW.agg [y0.1, z0.1, x0.1]] ++ []) ≤ 1048576 := of_decide_eq_true hk
    have h2 : Rows.uptoBulkAll ([DataW.agg [y0.1, z0.1, x0.1]] ++ []) = (Rows.uptoBulk y0.1 + (Rows.uptoBulk z0.1 + (Rows.uptoBulk x0.1 + 0)) + 1) + 0 := rfl
    have h3 := pars_bulk u0 ha
    rw [h2, (congrArg Prod.fst hy0 : y0.1 = DataW.lit (.string a0.data.toList)), (congrArg Prod.fst hz0 : z0.1 = DataW.lit (.string b0.data.toList)), bulk_str, bulk_str] at h
    rw [size_list, size_list]
    omega
  clear hA0
  simp only [List.append_nil] at hW'
  refine (folds_any a0 b0 m0 xa hbk W ha (vars_of (folds_laid ▸ hL)) (hd_of hS)).mono fun e W' ⟨he, hg⟩ => ?_
  subst he
  refine ⟨_, rfl, _, _, _, [], (y0.2 ++ (z0.2 ++ x0.2)) ++ [], [], hW', ?_, ?_, rfl, hg.frame _, fun h => by cases h⟩
  · exact trodAll_cons_mk (shut_bool Tryz.underlying4 _) trodAll_mk0
  · exact trodAll_cons_mk (Below.trod laidOut (by kernel_rfl) (of_decide_eq_true (by kernel_rfl)) h0 hg hlt0) trodAll_mk0

theorem folds_laid_met (os : Os) : laidMet Tryz.prog Rows.ctypeFoldsUptoRow.laid ((laidWorld os).forCall (fun _ _ => 0) ⟨#[], #[.agg #[.string ⟨#[]⟩, .string ⟨#[]⟩, .slice none 0 0]], []⟩).memory :=
  show laidMet Tryz.prog Rows.ctypeTellsRow.laid _ from laid_met os _
theorem folds_reads (os : Os) {H : Type} (enc : TypeId × Value → H) : ∃ places, DataW.whole enc Tryz.prog ((laidWorld os).forCall (fun _ _ => 0) ⟨#[], #[.agg #[.string ⟨#[]⟩, .string ⟨#[]⟩, .slice none 0 0]], []⟩).memory Tryz.f7.params.toList Rows.ctypeFoldsSpec.vars false #[Value.agg #[.string ⟨#[]⟩, .string ⟨#[]⟩, .slice none 0 0]].toList 8 = some ([.agg [.lit (.string []), .lit (.string []), .nil]], [], places) :=
  ⟨[], by kernel_rfl⟩

set_option maxRecDepth 100000 in
theorem folds_lifted (os : Os) (started : os.Started) (H : Type) (enc : TypeId × Value → H) (F : Stop.Interp) :
    ReturnsInHanded {} Tryz.checked os 7 .any ((Rows.OpenSpec.upto Rows.ctypeFoldsSpec).preRow enc Tryz.prog Tryz.f7 Rows.ctypeFoldsUptoRow.domain false Rows.ctypeFoldsUptoRow.laid) (((Rows.OpenSpec.upto Rows.ctypeFoldsSpec).at F).post enc Tryz.prog Tryz.f7 false true false false) := by
  obtain ⟨places, hx⟩ := folds_reads os enc
  refine returnsInHanded_of_row (C := Tryz.checked) (s := Rows.OpenSpec.upto Rows.ctypeFoldsSpec) own started (by kernel_rfl) Tryz.func7
    (witness_zip (enc := enc) (C := Tryz.checked) false (laidWorld os) #[.agg #[.string ⟨#[]⟩, .string ⟨#[]⟩, .slice none 0 0]] (World.laidAll_os _ _ _) (laid_shaped os _) (by kernel_rfl)
      (OpenSpec.preRow_of_cond 8 hx (by kernel_rfl) (fun k hk => by obtain rfl := Option.some.inj hk; kernel_rfl) (by kernel_rfl) (folds_laid_met os))) ?_
  intro W base args ds gs before hval hW _ hk _ hL hS _
  exact folds_contract H enc W base args ds gs before hval hW (hk _ rfl) hL hS

theorem folds_said : Rows.CtypeFoldsUptoSaid :=
  OpenClaim.holds_of_cond 7 Tryz.f7 rfl rfl rfl rfl rfl rfl rfl ⟨rfl, rfl, rfl, rfl, rfl⟩ rfl rfl rfl rfl rfl (by kernel_rfl) Tryz.func7 (by kernel_rfl)
    (of_decide_eq_true (by kernel_rfl)) (by unfold Func.isWrapper; first | (rw [if_pos (by decide +kernel)]; kernel_rfl) | (rw [if_neg (by decide +kernel)]; exact ⟨rfl, rfl⟩))
    (fun os started H enc _ F => by rw [OpenClaim.pre_eq_preRow]; exact folds_lifted os started H enc F)

theorem folds_plain (f : FuncId) (fn : Func) (hf : Tryz.pinned.checked.prog.funcNamed "pouch/pouchlaw12.CtypeFolds" = some f) (hfn : Tryz.pinned.checked.prog.funcs[f]? = some fn) :
    true = Tryz.pinned.checked.prog.looks [] ∧ ∀ (j : Nat) t, fn.params[j]? = some t → Tryz.pinned.checked.prog.wantsStandIn t = false := by
  obtain rfl : f = 7 := Option.some.inj ((show Tryz.prog.funcNamed "pouch/pouchlaw12.CtypeFolds" = some 7 by kernel_rfl).symm.trans hf) |>.symm
  obtain rfl : fn = Tryz.f7 := (Option.some.inj (Tryz.func7.symm.trans hfn)).symm
  refine ⟨by kernel_rfl, fun j t ht => ?_⟩
  rw [Tryz.params7] at ht
  have hm : t ∈ [26] := by
    have := Array.mem_of_getElem? ht
    simp at this
    simp [this]
  have hall : ([26].all fun u => !Tryz.prog.wantsStandIn u) = true := by kernel_rfl
  exact (show Tryz.prog.wantsStandIn t = false by simpa using List.all_eq_true.1 hall t hm)

theorem folds_card : Rows.CtypeFoldsUptoCardSaid :=
  Claim7.holds_tied_plain_at .later [] _ _ _ _ folds_said (fun _ h => by cases h) (by kernel_rfl) (fun _ h => by cases h) ctypeFoldsUpto_row_tie rfl ⟨rfl, rfl⟩ (by kernel_rfl) rfl folds_plain (by kernel_rfl)
#print axioms folds_card
end Go.Proofs.YtdinachiiimngaaGreatDoor
