/- NumBack holds: for every integer a and every string s the law returns true, and its arguments read afterwards as before; the library's variables are tied to the program's text. -/
import Derived.Test.YtemgjjnkdopnnaaDoorBack
import Derived.Test.YtemgjjnkdopnnaaDoorLaid
namespace Go.Proofs.YtemgjjnkdopnnaaDoor
open Go.ChangeShapes Go.WideShapes Go.ChangeAt Go.RowKit
open Go.ChangeMaps (open_string shut_string)

theorem i64_bounds {n : Int} (h : (Lit.int .i64 n).wf = true) : -9223372036854775808 ≤ n ∧ n ≤ 9223372036854775807 := by
  have e1 : IntKind.i64.min = -9223372036854775808 := rfl
  have e2 : IntKind.i64.max = 9223372036854775807 := rfl
  simpa [Lit.wf, e1, e2] using h
theorem mk_data (s : ByteArray) : (⟨s.data.toList.toArray⟩ : ByteArray) = s := by cases s; simp
theorem parseIn_all (l : List UInt8) : parseIn l (-9223372036854775808) 9223372036854775807 = parseV l := by
  cases h : parseV l with
  | none => exact parseIn_none h
  | some v =>
    obtain ⟨_, h1, h2⟩ := itoa_parseV l v h
    exact parseIn_some h h1 h2
theorem size_mk (l : List UInt8) : (⟨l.toArray⟩ : ByteArray).size = l.length := by simp [ByteArray.size]

theorem back_any (a : Int) (s : ByteArray) (h0 : -9223372036854775808 ≤ a) (h1 : a ≤ 9223372036854775807) (hmax : s.size ≤ 9223372036854775807) (w : World) (hv : Vars w) :
    Calls Tryd.prog 4 #[.int .i64 a, .string s] w fun e w' => e = .returned (.bool true) ∧ Below w.heap.size w w' := by
  by_cases hs : s.size ≤ 200
  · have hsl : s.data.toList.length = s.size := by rw [Array.length_toList]; rfl
    have hlen := Lib.itoa_length_le a h0 h1
    have H : BackHas a s ⟨(Lib.itoa a).toArray⟩ ⟨(hexL s.data.toList).toArray⟩ ((parseV s.data.toList).getD 0) (parseV s.data.toList).isSome ⟨(unhexS s.data.toList).toArray⟩ (unhexOk s.data.toList) := {
      text := fun W hW => text_any a h0 h1 W hW
      back := fun W hW => parse_is ⟨(Lib.itoa a).toArray⟩ _ _ (some a) (by rw [size_mk]; omega) (by rw [parseIn_all]; exact parseV_itoa a h0 h1) a true rfl rfl W hW
      parse := fun W hW => parse_is s _ _ _ (by omega) (parseIn_all _) _ _ rfl rfl W hW
      hex := fun W => hex_any s (by omega) W
      unhex := fun W => by
        have := unhex_is ⟨(hexL s.data.toList).toArray⟩ (by rw [size_mk, hexL_length]; omega) s.data.toList true (unhexS_hexL _) (unhexOk_hexL _) W
        rw [mk_data] at this
        exact this
      un := fun W => unhex_any s (by omega) W
      size := by rw [size_mk, hexL_length]; omega }
    refine back_walk a s _ _ _ _ _ _ H hs w hv ?_ ?_ ?_ ⟨(hexL (unhexS s.data.toList)).toArray⟩ ?_ ?_ ?_
    · intro h
      cases hp : parseV s.data.toList with
      | none => rfl
      | some v => rw [hp] at h; cases h
    · intro h W hW
      cases hp : parseV s.data.toList with
      | none => rw [hp] at h; cases h
      | some v =>
        obtain ⟨e, b0, b1⟩ := itoa_parseV _ v hp
        have := text_any v b0 b1 W hW
        rw [e, mk_data] at this
        exact this
    · intro h; rw [size_mk, unhexS_no h]; rfl
    · intro h W
      have h2 := unhexS_length h
      exact hex_any ⟨(unhexS s.data.toList).toArray⟩ (by rw [size_mk]; omega) W
    · intro h W
      have h2 := unhexS_length h
      exact unhex_is ⟨(hexL (unhexS s.data.toList)).toArray⟩ (by rw [size_mk, hexL_length]; omega) (unhexS s.data.toList) true (unhexS_hexL _) (unhexOk_hexL _) W
    · intro h
      have h2 := unhexS_length h
      rw [size_mk]; omega
  · exact back_long a s (by omega) hmax w hv

theorem back_contract (H : Type) (enc : TypeId × Value → H) (W : World) (base : Nat) (args : Array Value) (ds gs : List (DataW H)) (before : List MemPlace)
    (hval : ∀ (j : Nat) t v, Tryd.f4.params[j]? = some t → args[j]? = some v → Value.okWide Tryd.prog W .any base t v)
    (hW : DataW.Whole enc Tryd.prog Tryd.f4.params.toList Rows.numBackSpec.vars false W args.toList ds gs before) (hL : laidMetH Tryd.prog Rows.numBackRow.laid W) :
    Calls Tryd.prog 4 args W fun e W' => ∃ v, e = .returned v ∧ Rows.numBackSpec.post enc Tryd.prog Tryd.f4 false true false false W args v W' := by
  have hW' := hW
  obtain ⟨p, q, hA0, hV, rfl, hfz, hnd⟩ := hW
  have hA : DataW.TrodAll enc Tryd.prog W 0 (fun _ => true) true Tryd.f4.params.toList args.toList ds p := hA0
  rw [Tryd.params4] at hA hval
  obtain ⟨v0, vs0, d0, ds0, p0, q0, e0, rfl, rfl, h0, r0⟩ := trodAll_cons hA
  obtain ⟨v1, vs1, d1, ds1, p1, q1, rfl, rfl, rfl, h1, r1⟩ := trodAll_cons r0
  obtain ⟨rfl, rfl, rfl⟩ := trodAll_nil r1
  obtain rfl : args = #[v0, v1] := by cases args; simp_all
  obtain ⟨rfl, rfl⟩ := trodVars_none hV
  obtain ⟨a, rfl, rfl, rfl, wa⟩ := open_int Tryd.underlying3 (hval 0 3 v0 rfl rfl) h0
  obtain ⟨s, rfl, rfl, rfl, ws⟩ := open_string Tryd.underlying9 (hval 1 9 v1 rfl rfl) h1
  clear hA0
  simp only [List.append_nil] at hW'
  have hv : Vars W := vars_of (show laidMet Tryd.prog Rows.numPadsRow.laid W from hL)
  refine (back_any a s (i64_bounds wa).1 (i64_bounds wa).2 ws W hv).mono fun e W' ⟨he, hg⟩ => ?_
  subst he
  refine ⟨_, rfl, _, _, _, [], [], [], hW', ?_, ?_, rfl, hg.frame _, fun h => by cases h⟩
  · exact trodAll_cons_mk (shut_bool Tryd.underlying4 _) trodAll_mk0
  · exact trodAll_cons_mk (shut_int Tryd.underlying3 wa) (trodAll_cons_mk (shut_string Tryd.underlying9 ws) trodAll_mk0)

theorem back_laid_met (os : Os) : laidMet Tryd.prog Rows.numBackRow.laid ((laidWorld os).forCall (fun _ _ => 0) ⟨#[], #[.int .i64 0, .string ⟨#[]⟩], []⟩).memory :=
  laidMet_of_run' 8 (by kernel_rfl) (by kernel_rfl)
theorem back_reads (os : Os) {H : Type} (enc : TypeId × Value → H) : ∃ places, DataW.whole enc Tryd.prog ((laidWorld os).forCall (fun _ _ => 0) ⟨#[], #[.int .i64 0, .string ⟨#[]⟩], []⟩).memory Tryd.f4.params.toList Rows.numBackSpec.vars false #[Value.int .i64 0, Value.string ⟨#[]⟩].toList 8 = some ([.lit (.int .i64 0), .lit (.string [])], [], places) :=
  ⟨[], by kernel_rfl⟩

set_option maxRecDepth 100000 in
theorem back_lifted (os : Os) (started : os.Started) (H : Type) (enc : TypeId × Value → H) (F : Stop.Interp) :
    ReturnsInHanded {} Tryd.checked os 4 .any ((OpenSpec.ofChange Rows.numBackSpec).preRow enc Tryd.prog Tryd.f4 Rows.numBackRow.domain false Rows.numBackRow.laid) (((OpenSpec.ofChange Rows.numBackSpec).at F).post enc Tryd.prog Tryd.f4 false true false false) := by
  obtain ⟨places, hx⟩ := back_reads os enc
  refine returnsInHanded_of_row (C := Tryd.checked) (s := OpenSpec.ofChange Rows.numBackSpec) own started (by kernel_rfl) Tryd.func4
    (witness_row_at (enc := enc) (C := Tryd.checked) false (laidWorld os) #[.int .i64 0, .string ⟨#[]⟩] rfl (by kernel_rfl) (by kernel_rfl) (by kernel_rfl)
      (OpenSpec.preRow_of_cond 8 hx (by kernel_rfl) (fun k hk => by cases hk) (by kernel_rfl) (back_laid_met os))) ?_
  intro W base args ds gs before hval hW _ _ _ hL _ _
  exact back_contract H enc W base args ds gs before hval hW hL

theorem back_said : Rows.NumBackSaid :=
  OpenClaim.holds_of_cond 4 Tryd.f4 rfl rfl rfl rfl rfl rfl rfl ⟨rfl, rfl, rfl, rfl, rfl⟩ rfl rfl rfl rfl rfl (by kernel_rfl) Tryd.func4 (by kernel_rfl)
    (of_decide_eq_true (by kernel_rfl)) (by unfold Func.isWrapper; first | (rw [if_pos (by decide +kernel)]; kernel_rfl) | (rw [if_neg (by decide +kernel)]; exact ⟨rfl, rfl⟩))
    (fun os started H enc _ F => by rw [OpenClaim.pre_eq_preRow]; exact back_lifted os started H enc F)

theorem back_plain (f : FuncId) (fn : Func) (hf : Tryd.pinned.checked.prog.funcNamed "pouch/pouchlaw01.NumBack" = some f) (hfn : Tryd.pinned.checked.prog.funcs[f]? = some fn) :
    true = Tryd.pinned.checked.prog.looks [] ∧ ∀ (j : Nat) t, fn.params[j]? = some t → Tryd.pinned.checked.prog.wantsStandIn t = false := by
  obtain rfl : f = 4 := Option.some.inj ((show Tryd.prog.funcNamed "pouch/pouchlaw01.NumBack" = some 4 by kernel_rfl).symm.trans hf) |>.symm
  obtain rfl : fn = Tryd.f4 := (Option.some.inj (Tryd.func4.symm.trans hfn)).symm
  refine ⟨by kernel_rfl, fun j t ht => ?_⟩
  rw [Tryd.params4] at ht
  have hm : t ∈ [3, 9] := by
    have := Array.mem_of_getElem? ht
    simp at this
    simp [this]
  have hall : ([3, 9].all fun u => !Tryd.prog.wantsStandIn u) = true := by kernel_rfl
  exact (show Tryd.prog.wantsStandIn t = false by simpa using List.all_eq_true.1 hall t hm)

theorem back_card : Rows.NumBackCardSaid :=
  Claim7.holds_tied_plain_at .later [] _ _ _ _ back_said (fun _ h => by cases h) (by kernel_rfl) (fun _ h => by cases h) numBack_row_tie rfl ⟨rfl, rfl⟩ (by kernel_rfl) rfl back_plain (by kernel_rfl)
#print axioms back_card
end Go.Proofs.YtemgjjnkdopnnaaDoor
