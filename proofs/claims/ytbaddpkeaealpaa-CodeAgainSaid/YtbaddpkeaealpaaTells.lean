/- The law CodeTells: its walk. -/
import Derived.Test.YtbaddpkeaealpaaFew
namespace Go.Proofs.Ytbaddpkeaealpaa
open Go.ChangeShapes Go.WideShapes Go.ChangeAt Go.RowKit

/-- The package's answers and the reference's are the same. -/
structure SameEnc (W0 : World) (n : Int) (s : List UInt8) (v u : Value) (X T L M : ByteArray) : Prop where
  num : ∀ W : World, Calls Try.prog 11 #[.int .i64 n] W fun e w' => e = .returned (.string X) ∧ Below W.heap.size W w'
  numR : ∀ W : World, Calls Try.prog 12 #[.int .i64 n] W fun e w' => e = .returned (.string X) ∧ Below W.heap.size W w'
  text : ∀ W : World, Calls Try.prog 13 #[.string ⟨s.toArray⟩] W fun e w' => e = .returned (.string T) ∧ Below W.heap.size W w'
  textR : ∀ W : World, Calls Try.prog 14 #[.string ⟨s.toArray⟩] W fun e w' => e = .returned (.string T) ∧ Below W.heap.size W w'
  list : ∀ W : World, Below W0.heap.size W0 W → Calls Try.prog 15 #[v] W fun e w' => e = .returned (.string L) ∧ Below W.heap.size W w'
  listR : ∀ W : World, Below W0.heap.size W0 W → Calls Try.prog 16 #[v] W fun e w' => e = .returned (.string L) ∧ Below W.heap.size W w'
  nums : ∀ W : World, Below W0.heap.size W0 W → Calls Try.prog 17 #[u] W fun e w' => e = .returned (.string M) ∧ Below W.heap.size W w'
  numsR : ∀ W : World, Below W0.heap.size W0 W → Calls Try.prog 18 #[u] W fun e w' => e = .returned (.string M) ∧ Below W.heap.size W w'

theorem tells_out (n : Int) (s : ByteArray) {v u : Value} {b : Bool} {k c : Nat} {a : Option Addr} (hu : u = .slice a k c) (w : World) (hf : ∀ W, Below w.heap.size w W → Calls Try.prog 10 #[v] W fun e w' => e = .returned (.bool b) ∧ W = w') (ho : b = false ∨ 100 < k) :
    Calls Try.prog 3 #[.int .i64 n, .string s, v, u] w fun e w' => e = .returned (.bool true) ∧ Below w.heap.size w w' := by
  subst hu
  have HS := Lib.hid (small_any w)
  have HF := Lib.hid hf
  clear hf
  rcases (show b = false ∨ (b = true ∧ 100 < k) by cases b; exact Or.inl rfl; exact Or.inr ⟨rfl, by rcases ho with h | h; cases h; exact h⟩) with rfl | ⟨rfl, hk⟩
  all_goals
    clear ho
    go_enter Try.func3, Try.ntmps3
    go_wp2_with fail
    refine HS.out.mono ?_
    rintro e w1 ⟨rfl, hb⟩
    go_wp2_with fail
    refine (HF.out _ hb).mono ?_
    rintro e w2 ⟨rfl, rfl⟩
    go_wp2_with fail
    go_ret
    exact ⟨rfl, hb⟩

set_option maxHeartbeats 800000 in
theorem tells_in (n : Int) (s : List UInt8) {v u : Value} {k c : Nat} {a : Option Addr} (hu : u = .slice a k c) (hk : k ≤ 100) (w : World) (hf : ∀ W, Below w.heap.size w W → Calls Try.prog 10 #[v] W fun e w' => e = .returned (.bool true) ∧ W = w') {X T L M : ByteArray} (H : SameEnc w n s v u X T L M) :
    Calls Try.prog 3 #[.int .i64 n, .string ⟨s.toArray⟩, v, u] w fun e w' => e = .returned (.bool true) ∧ Below w.heap.size w w' := by
  subst hu
  have HS := Lib.hid (small_any w)
  have HF := Lib.hid hf
  have HH := Lib.hid H
  clear hf H
  go_enter Try.func3, Try.ntmps3
  go_wp2_with fail
  refine HS.out.mono ?_
  rintro e w1 ⟨rfl, hb⟩
  go_wp2_with fail
  refine (HF.out _ hb).mono ?_
  rintro e w2 ⟨rfl, rfl⟩
  go_wp2_with fail
  refine (HH.out.num _).mono ?_
  rintro e w2 ⟨rfl, hb'⟩
  replace hb := Qtrans hb hb'; clear hb'
  go_wp2_with fail
  refine (HH.out.numR _).mono ?_
  rintro e w2 ⟨rfl, hb'⟩
  replace hb := Qtrans hb hb'; clear hb'
  go_wp2_with fail
  refine (HH.out.text _).mono ?_
  rintro e w2 ⟨rfl, hb'⟩
  replace hb := Qtrans hb hb'; clear hb'
  go_wp2_with fail
  refine (HH.out.textR _).mono ?_
  rintro e w2 ⟨rfl, hb'⟩
  replace hb := Qtrans hb hb'; clear hb'
  go_wp2_with fail
  refine (HH.out.list _ hb).mono ?_
  rintro e w2 ⟨rfl, hb'⟩
  replace hb := Qtrans hb hb'; clear hb'
  go_wp2_with fail
  refine (HH.out.listR _ hb).mono ?_
  rintro e w2 ⟨rfl, hb'⟩
  replace hb := Qtrans hb hb'; clear hb'
  go_wp2_with fail
  refine (HH.out.nums _ hb).mono ?_
  rintro e w2 ⟨rfl, hb'⟩
  replace hb := Qtrans hb hb'; clear hb'
  go_wp2_with fail
  refine (HH.out.numsR _ hb).mono ?_
  rintro e w2 ⟨rfl, hb'⟩
  replace hb := Qtrans hb hb'; clear hb'
  go_wp2_with fail
  go_ret
  exact ⟨rfl, hb⟩
theorem Has.shape {A : Type} {E : A → Value} {w : World} {v : Value} {xs : List A} (h : Has E w v xs) : ∃ a c, v = .slice a xs.length c := by
  rcases h with ⟨rfl, rfl⟩ | ⟨a, c, rfl, _⟩
  · exact ⟨none, 0, rfl⟩
  · exact ⟨some a, c, rfl⟩
theorem tells_any (n : Int) (hn : n ≤ 9223372036854775807) (s : List UInt8) (hs : s.length ≤ 140737488351232) {v u : Value} {xs : List (List UInt8)} {ys : List Int} {w : World} (hv : Has strV w v xs) (hu : Has intV w u ys)
    (hb : ∀ x ∈ xs, x.length ≤ 140737488355328) (hl : xs.length ≤ 140737488355328) (hi : ∀ x ∈ ys, x ≤ 9223372036854775807) :
    Calls Try.prog 3 #[.int .i64 n, .string ⟨s.toArray⟩, v, u] w fun e w' => e = .returned (.bool true) ∧ Below w.heap.size w w' := by
  obtain ⟨a, c, hsh⟩ := hu.shape
  have hf := fun W (hW : Below w.heap.size w W) => few_any (hv.below' hW) hb hl
  by_cases ho : fewP xs = false ∨ 100 < ys.length
  · exact tells_out n _ hsh w hf ho
  · have h1 : fewP xs = true := by cases h : fewP xs; exact absurd (Or.inl h) ho; rfl
    have h2 : ys.length ≤ 100 := by
      have : ¬ 100 < ys.length := fun h => ho (Or.inr h)
      omega
    rw [h1] at hf
    have hfl := few_len h1
    have hL := listL_len xs hb hl
    have hN := numsL_len ys hi (by omega)
    refine tells_in n s hsh h2 w hf (X := ⟨(varI n).toArray⟩) (T := ⟨(textL s).toArray⟩) (L := ⟨(listL xs).toArray⟩) (M := ⟨(numsL ys).toArray⟩) ⟨fun W => num_enc n (by omega) W, fun W => numRI n (by omega) W, fun W => text_enc ⟨s.toArray⟩ (by rw [bytes_size]; omega) W, fun W => textR_enc s (by omega) W,
      fun W hW => list_enc (hv.below' hW) (by omega), fun W hW => listR_enc (hv.below' hW) (by omega) (by omega), fun W hW => nums_enc (hu.below' hW) hi (by omega) (by omega), fun W hW => numsR_enc (hu.below' hW) hi (by omega) (by omega)⟩
end Go.Proofs.Ytbaddpkeaealpaa
