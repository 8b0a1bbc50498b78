/- CodeBack holds: for all slices l of values and strings behind the law returns true, and its arguments read afterwards as before. -/
import Derived.Test.YtbaddpkeaealpaaBack
import Derived.Test.YtbaddpkeaealpaaVArgs
namespace Go.Proofs.Ytbaddpkeaealpaa
open Go.ChangeShapes Go.WideShapes Go.ChangeAt Go.RowKit
open Go.ChangeMaps (open_string shut_string)

theorem good_sizes {x : V} (h : goodV x = true) (ha : ArgV x) : OkV x ∧ Fine x ∧ (encV x).length ≤ 10909 := by
  obtain ⟨h1, h2, h3, h4, h5⟩ := good_is h
  have hr := reach_is
  obtain ⟨h6, h7⟩ := few_len h2
  have hL := listL_len x.texts ha.size.texts ha.size.many
  have hN := numsL_len x.nums (fun y hy => (ha.nums y hy).2) ha.size.nums
  refine ⟨⟨ha.n.2, by omega, by omega, by omega, by omega, fun y hy => (ha.nums y hy).2⟩, ⟨⟨h1, ha.n.2⟩, by omega, fun y hy => by have := ha.size.texts y hy; omega, h6, fun y hy => ⟨h5 y hy, by have := (ha.nums y hy).2; omega⟩, h4⟩, ?_⟩
  unfold encV
  split
  · rw [varI, if_neg (by omega)]
    have := varL_nine (n := x.n.toNat) (by have := ha.n.2; omega)
    omega
  · split
    · rw [textL, List.length_append]
      have := varL_nine (n := x.text.length) (by omega)
      omega
    · split
      · omega
      · omega
theorem flat_le (xs : List V) (h : ∀ x ∈ xs, (encV x).length ≤ 10909) : (xs.flatMap encV).length ≤ xs.length * 10909 := by
  induction xs with
  | nil => simp
  | cons x xs ih =>
    have h1 := h x List.mem_cons_self
    have h2 := ih (fun y hy => h y (List.mem_cons_of_mem _ hy))
    rw [List.flatMap_cons, List.length_append, List.length_cons]; omega
theorem back_any {v : Value} {xs : List V} {w : World} (hv : HasVs w v xs) (ha : ∀ x ∈ xs, ArgV x) (hl : xs.length ≤ reachBytes) (bh : List UInt8) :
    Calls Try.prog 5 #[v, .string ⟨bh.toArray⟩] w fun e w' => e = .returned (.bool true) ∧ Below w.heap.size w w' := by
  have hr := reach_is
  have hf := fun W (hW : Below w.heap.size w W) => valid_any (hv.below hW) (fun x hx => (ha x hx).size) (by omega)
  by_cases ho : validP xs = false ∨ 10000 < bh.length
  · exact back_out w hf ho
  · have h1 : validP xs = true := by cases h : validP xs; exact absurd (Or.inl h) ho; rfl
    have h2 : bh.length ≤ 10000 := by
      have : ¬ 10000 < bh.length := fun h => ho (Or.inr h)
      omega
    rw [h1] at hf
    obtain ⟨h20, hg⟩ := valid_is h1
    have hall := fun x hx => good_sizes (hg x hx) (ha x hx)
    have hfl := flat_le xs (fun x hx => (hall x hx).2.2)
    have hb : xs.length * 10909 ≤ 20 * 10909 := Nat.mul_le_mul_right _ h20
    exact back_in hv (fun x hx => (hall x hx).2.1) h20 h2 (by rw [rem_zero, List.length_append]; omega) hf
      (fun W hW => encoded_any (hv.below hW) (fun x hx => (hall x hx).1) (by omega) (by omega))

theorem back_contract (H : Type) (enc : TypeId × Value → H) (W : World) (base : Nat) (args : Array Value) (ds gs : List (DataW H)) (before : List MemPlace)
    (hval : ∀ (j : Nat) t v, Try.f5.params[j]? = some t → args[j]? = some v → Value.okWide Try.prog W .any base t v)
    (hW : DataW.Whole enc Try.prog Try.f5.params.toList Rows.codeBackSpec.vars false W args.toList ds gs before)
    (hsz : (DataW.weightsEach Try.prog (Try.f5.params.toList ++ Rows.codeBackSpec.plain.varTypes Try.prog) (ds ++ gs)).all (· ≤ reachBytes) = true) :
    Calls Try.prog 5 args W fun e W' => ∃ v, e = .returned v ∧ Rows.codeBackSpec.post enc Try.prog Try.f5 false true false false W args v W' := by
  have hW' := hW
  obtain ⟨p, q, hA0, hV, rfl, hfz, hnd⟩ := hW
  have hA : DataW.TrodAll enc Try.prog W 0 (fun _ => true) true Try.f5.params.toList args.toList ds p := hA0
  rw [Try.params5] at hA hval hsz
  obtain ⟨v0, vs0, d0, ds0, p0, q0, e0, rfl, rfl, h0, r0⟩ := trodAll_cons hA
  obtain ⟨v1, vs1, d1, ds1, p1, q1, rfl, rfl, rfl, h1, r1⟩ := trodAll_cons r0
  obtain ⟨rfl, rfl, rfl⟩ := trodAll_nil r1
  obtain rfl : args = #[v0, v1] := by cases args; simp_all
  obtain ⟨rfl, rfl⟩ := trodVars_none hV
  have hlt0 : ∀ x ∈ p0, x.block < W.heap.size := fun x hx => by simpa using hW'.lt x (by simp [hx])
  have f0 := fits_of hsz (j := 0) rfl rfl
  obtain ⟨s, rfl, rfl, rfl, ws⟩ := open_string Try.underlying9 (hval 1 9 v1 rfl rfl) h1
  obtain ⟨a3, l3, c3, e3⟩ := okWide_slice Try.underlying42 (hval 0 42 v0 rfl rfl)
  obtain ⟨fu, hf⟩ := id h0
  rw [e3] at hf
  obtain ⟨xs, hx, hxa, hxl⟩ := values_fuel hf f0
  rw [← e3] at hx
  clear hA0 hf
  simp only [List.append_nil] at hW'
  refine (back_any hx hxa hxl s.data.toList).mono fun e W' ⟨he, hg⟩ => ?_
  subst he
  refine ⟨_, rfl, _, _, _, [], p0 ++ [], [], hW', ?_, ?_, rfl, hg.frame _, fun h => by cases h⟩
  · exact trodAll_cons_mk (shut_bool Try.underlying4 _) trodAll_mk0
  · exact trodAll_mk2 (Below.trod laidOut (by kernel_rfl) (of_decide_eq_true (by kernel_rfl)) h0 hg hlt0) (shut_string Try.underlying9 ws)

set_option maxRecDepth 100000 in
theorem back_lifted (os : Os) (started : os.Started) (H : Type) (enc : TypeId × Value → H) :
    ReturnsInHanded {} Try.checked os 5 .any (Rows.codeBackSpec.pre6 enc Try.prog Try.f5 Rows.codeBackRow.domain false) (Rows.codeBackSpec.post enc Try.prog Try.f5 false true false false) := by
  refine returnsInHanded_of_change_sized (C := Try.checked) own started (by kernel_rfl) Try.func5
    (ChangeSpec.witness6 (enc := enc) (C := Try.checked) false ⟨#[], #[.slice none 0 0, .string ⟨#[]⟩], []⟩ 8 (by kernel_rfl) (by kernel_rfl) (by kernel_rfl) (by kernel_rfl)) ?_
  intro W base args ds gs before hval hW _ hsz _
  exact back_contract H enc W base args ds gs before hval hW hsz
theorem back_said : Rows.CodeBackSaid :=
  OpenClaim.holds_of_wide 5 Try.f5 rfl rfl rfl rfl rfl rfl rfl ⟨rfl, rfl, rfl, rfl, rfl⟩ rfl rfl rfl rfl rfl (by kernel_rfl) Try.func5 (by kernel_rfl)
    (of_decide_eq_true (by kernel_rfl)) (by unfold Func.isWrapper; first | (rw [if_pos (by decide +kernel)]; kernel_rfl) | (rw [if_neg (by decide +kernel)]; exact ⟨rfl, rfl⟩))
    (fun os started H enc _ => back_lifted os started H enc)
#print axioms back_said
end Go.Proofs.Ytbaddpkeaealpaa
