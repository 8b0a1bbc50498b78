/- CodeOrder holds: for all integers a and b the law returns true, and its arguments read afterwards as before. -/
import Derived.Test.YtbaddpkeaealpaaSmall
import Derived.Test.YtbaddpkeaealpaaRows
import Derived.OpenShut
import Derived.JoinedCond
namespace Go.Proofs.Ytbaddpkeaealpaa
open Go.ChangeShapes Go.WideShapes Go.ChangeAt Go.RowKit

theorem encI (n : Int) (h1 : n ≤ 9223372036854775807) {X : ByteArray} (hX : X = ⟨(varI n).toArray⟩) (w : World) :
    Calls Try.prog 11 #[.int .i64 n] w fun e w' => e = .returned (.string X) ∧ Below w.heap.size w w' := by
  subst hX; exact num_enc n (by omega) w
theorem order_neg (a b : Int) (h : a < 0) (h1 : b ≤ 9223372036854775807) (w : World) :
    Calls Try.prog 8 #[.int .i64 a, .int .i64 b] w fun e w' => e = .returned (.bool true) ∧ Below w.heap.size w w' := by
  have HS := Lib.hid (small_any w)
  have HA := Lib.hid (fun W => num_enc_is a (by omega) (varI_neg h) W)
  have HB := Lib.hid (fun W => encI b h1 rfl W)
  go_enter Try.func8, Try.ntmps8
  go_wp2_with fail
  refine HS.out.mono ?_
  rintro e w1 ⟨rfl, hb⟩
  go_wp2_with fail
  refine (HA.out _).mono ?_
  rintro e w2 ⟨rfl, hb'⟩
  replace hb := Qtrans hb hb'; clear hb'
  go_wp2_with fail
  refine (HB.out _).mono ?_
  rintro e w2 ⟨rfl, hb'⟩
  replace hb := Qtrans hb hb'; clear hb'
  go_wp2_with fail
  go_ret
  exact ⟨rfl, hb⟩
theorem order_out (a b : Int) (h : 0 ≤ a) (hab : b < 0 ∨ b < a) (h0 : a ≤ 9223372036854775807) (h1 : b ≤ 9223372036854775807) (w : World) :
    Calls Try.prog 8 #[.int .i64 a, .int .i64 b] w fun e w' => e = .returned (.bool true) ∧ Below w.heap.size w w' := by
  have HS := Lib.hid (small_any w)
  have HA := Lib.hid (fun W => encI a h0 rfl W)
  have HB := Lib.hid (fun W => encI b h1 rfl W)
  rcases (show b < 0 ∨ (0 ≤ b ∧ b < a) by omega) with hc | ⟨hc, hd⟩
  all_goals
    clear hab
    go_enter Try.func8, Try.ntmps8
    go_wp2_with fail
    refine HS.out.mono ?_
    rintro e w1 ⟨rfl, hb⟩
    go_wp2_with fail
    refine (HA.out _).mono ?_
    rintro e w2 ⟨rfl, hb'⟩
    replace hb := Qtrans hb hb'; clear hb'
    go_wp2_with fail
    refine (HB.out _).mono ?_
    rintro e w2 ⟨rfl, hb'⟩
    replace hb := Qtrans hb hb'; clear hb'
    go_wp2_with fail
    go_ret
    exact ⟨rfl, hb⟩
theorem order_in (a b : Nat) (hab : a ≤ b) (h1 : b ≤ 9223372036854775807) (w : World) :
    Calls Try.prog 8 #[.int .i64 a, .int .i64 b] w fun e w' => e = .returned (.bool true) ∧ Below w.heap.size w w' := by
  have HS := Lib.hid (small_any w)
  obtain ⟨X, hX⟩ : ∃ X : ByteArray, X = ⟨(varI a).toArray⟩ := ⟨_, rfl⟩
  obtain ⟨Y, hY⟩ : ∃ Y : ByteArray, Y = ⟨(varI b).toArray⟩ := ⟨_, rfl⟩
  have HA := Lib.hid (fun W => encI a (by omega) hX W)
  have HB := Lib.hid (fun W => encI b (by omega) hY W)
  rw [varI_nat] at hX hY
  have hXs : X.size = (varL a).length := by rw [hX, bytes_size]
  have hYs : Y.size = (varL b).length := by rw [hY, bytes_size]
  have s1 : X.size ≤ Y.size := by rw [hXs, hYs]; exact varL_mono a b hab
  have s2 : Y.size ≤ 9 := by rw [hYs]; exact varL_nine (by omega)
  have s3 : 1 ≤ X.size := by rw [hXs]; exact varL_pos a
  have he : ((Y.extract 0 X.size).toList == X.toList) = ((a : Int) == (b : Int)) := by
    rw [ext, Bool.eq_iff_iff, beq_iff_eq, beq_iff_eq, ByteArray.toList_eq, ByteArray.toList_eq, hXs, hX, hY]
    show List.take _ (List.drop 0 (varL b)) = varL a ↔ _
    rw [List.drop_zero, Nat.sub_zero]
    constructor
    · intro h
      have := varL_first a b (by rw [p9]; omega) (by rw [p9]; omega) h
      omega
    · intro h
      have : a = b := by omega
      subst this
      exact List.take_length
  rcases (show (a : Int) = b ∨ (a : Int) ≠ b by omega) with hc | hc
  all_goals
    first
      | (have hq : ((a : Int) == (b : Int)) = true := beq_iff_eq.2 hc
         rw [hq] at he)
      | (have hq : ((a : Int) == (b : Int)) = false := beq_eq_false_iff_ne.2 hc
         rw [hq] at he)
    clear hX hY hXs hYs hc
    go_enter Try.func8, Try.ntmps8
    go_wp2_with fail
    refine HS.out.mono ?_
    rintro e w1 ⟨rfl, hb⟩
    go_wp2_with fail
    refine (HA.out _).mono ?_
    rintro e w2 ⟨rfl, hb'⟩
    replace hb := Qtrans hb hb'; clear hb'
    go_wp2_with fail
    refine (HB.out _).mono ?_
    rintro e w2 ⟨rfl, hb'⟩
    replace hb := Qtrans hb hb'; clear hb'
    go_wp2_with fail
    go_ret
    exact ⟨rfl, hb⟩
theorem order_any (a b : Int) (h0 : a ≤ 9223372036854775807) (h1 : b ≤ 9223372036854775807) (w : World) :
    Calls Try.prog 8 #[.int .i64 a, .int .i64 b] w fun e w' => e = .returned (.bool true) ∧ Below w.heap.size w w' := by
  by_cases ha : a < 0
  · exact order_neg a b ha h1 w
  · by_cases hab : b < 0 ∨ b < a
    · exact order_out a b (by omega) hab h0 h1 w
    · obtain ⟨m, rfl⟩ : ∃ m : Nat, a = m := ⟨a.toNat, by omega⟩
      obtain ⟨n, rfl⟩ : ∃ n : Nat, b = n := ⟨b.toNat, by omega⟩
      exact order_in m n (by omega) (by omega) w

theorem own : ownKnob Try.prog.godebug = none := by kernel_rfl
theorem i64_bounds {n : Int} (h : (Lit.int .i64 n).wf = true) : -9223372036854775808 ≤ n ∧ n ≤ 9223372036854775807 := by
  have e1 : IntKind.i64.min = -9223372036854775808 := rfl
  have e2 : IntKind.i64.max = 9223372036854775807 := rfl
  simpa [Lit.wf, e1, e2] using h

theorem order_contract (H : Type) (enc : TypeId × Value → H) (W : World) (base : Nat) (args : Array Value) (ds gs : List (DataW H)) (before : List MemPlace)
    (hval : ∀ (j : Nat) t v, Try.f8.params[j]? = some t → args[j]? = some v → Value.okWide Try.prog W .any base t v)
    (hW : DataW.Whole enc Try.prog Try.f8.params.toList Rows.codeOrderSpec.vars false W args.toList ds gs before) :
    Calls Try.prog 8 args W fun e W' => ∃ v, e = .returned v ∧ Rows.codeOrderSpec.post enc Try.prog Try.f8 false true false false W args v W' := by
  have hW' := hW
  obtain ⟨p, q, hA0, hV, rfl, hfz, hnd⟩ := hW
  have hA : DataW.TrodAll enc Try.prog W 0 (fun _ => true) true Try.f8.params.toList args.toList ds p := hA0
  rw [Try.params8] at hA hval
  obtain ⟨v0, vs0, d0, ds0, p0, q0, e0, rfl, rfl, h0, r0⟩ := trodAll_cons hA
  obtain ⟨v1, vs1, d1, ds1, p1, q1, rfl, rfl, rfl, h1, r1⟩ := trodAll_cons r0
  obtain ⟨rfl, rfl, rfl⟩ := trodAll_nil r1
  obtain rfl : args = #[v0, v1] := by cases args; simp_all
  obtain ⟨rfl, rfl⟩ := trodVars_none hV
  obtain ⟨a, rfl, rfl, rfl, wa⟩ := open_int Try.underlying3 (hval 0 3 v0 rfl rfl) h0
  obtain ⟨b, rfl, rfl, rfl, wb⟩ := open_int Try.underlying3 (hval 1 3 v1 rfl rfl) h1
  clear hA0
  simp only [List.append_nil] at hW'
  refine (order_any a b (i64_bounds wa).2 (i64_bounds wb).2 W).mono fun e W' ⟨he, hg⟩ => ?_
  subst he
  refine ⟨_, rfl, _, _, _, [], [], [], hW', ?_, ?_, rfl, hg.frame _, fun h => by cases h⟩
  · exact trodAll_cons_mk (shut_bool Try.underlying4 _) trodAll_mk0
  · exact trodAll_cons_mk (shut_int Try.underlying3 wa) (trodAll_cons_mk (shut_int Try.underlying3 wb) trodAll_mk0)

set_option maxRecDepth 100000 in
theorem order_lifted (os : Os) (started : os.Started) (H : Type) (enc : TypeId × Value → H) :
    ReturnsInHanded {} Try.checked os 8 .any (Rows.codeOrderSpec.pre6 enc Try.prog Try.f8 Rows.codeOrderRow.domain false) (Rows.codeOrderSpec.post enc Try.prog Try.f8 false true false false) := by
  refine returnsInHanded_of_change (C := Try.checked) own started (by kernel_rfl) Try.func8
    (ChangeSpec.witness6 (enc := enc) (C := Try.checked) false ⟨#[], #[.int .i64 0, .int .i64 0], []⟩ 8 (by kernel_rfl) (by kernel_rfl) (by kernel_rfl) (by kernel_rfl)) ?_
  intro W base args ds gs before hval hW _ _
  exact order_contract H enc W base args ds gs before hval hW
theorem order_said : Rows.CodeOrderSaid :=
  OpenClaim.holds_of_wide 8 Try.f8 rfl rfl rfl rfl rfl rfl rfl ⟨rfl, rfl, rfl, rfl, rfl⟩ rfl rfl rfl rfl rfl (by kernel_rfl) Try.func8 (by kernel_rfl)
    (of_decide_eq_true (by kernel_rfl)) (by unfold Func.isWrapper; first | (rw [if_pos (by decide +kernel)]; kernel_rfl) | (rw [if_neg (by decide +kernel)]; exact ⟨rfl, rfl⟩))
    (fun os started H enc _ => order_lifted os started H enc)
#print axioms order_said
end Go.Proofs.Ytbaddpkeaealpaa
