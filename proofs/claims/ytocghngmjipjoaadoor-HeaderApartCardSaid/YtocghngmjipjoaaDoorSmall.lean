/- The example that every law evaluates first: it comes out true; the bound on lengths. -/
import Derived.Test.YtocghngmjipjoaaDoorParse
import Derived.Test.YtocghngmjipjoaaDoorRefW
import Derived.Test.YtocghngmjipjoaaDoorAll
namespace Go.Proofs.YtocghngmjipjoaaDoor
open Go.ChangeShapes Go.WideShapes Go.ChangeAt Go.RowKit
open LinesP HdrP

theorem few_any (s : ByteArray) (w : World) : Calls Tryd.prog 9 #[.string s] w fun e w' => e = .returned (.bool (decide (s.size ≤ 5000))) ∧ w = w' := by
  by_cases h : s.size ≤ 5000
  · have h' : (s.size : Int) ≤ 5000 := by omega
    rw [decide_eq_true h]
    clear h
    go_enter Tryd.func9, Tryd.ntmps9
    go_wp2_with fail
    go_ret
    exact ⟨by simp, rfl⟩
  · have h' : ¬ (s.size : Int) ≤ 5000 := by omega
    rw [decide_eq_false h]
    clear h
    go_enter Tryd.func9, Tryd.ntmps9
    go_wp2_with fail
    go_ret
    exact ⟨by simp, rfl⟩
/-- Parse at a string whose fields are known. -/
theorem parse_is (s : ByteArray) (l : List Fld) (n : Nat) (hs : s.size ≤ 1000000) (h1 : parseL s.data.toList = l) (h2 : atL s.data.toList = n) (w : World) (hv : Vars w) :
    Calls Tryd.prog 10 #[.string s] w fun e w' => ∃ a c, e = .returned (.tuple #[.slice a l.length c, .int .i64 n]) ∧ OwnF w' (.slice a l.length c) l ∧ Below w.heap.size w w' := by
  subst h1
  subst h2
  exact parse_any s hs w hv
theorem get_is (v : Value) (l : List Fld) (nm : ByteArray) (r : Value) (w : World) (h : HasF w v l) (hl : l.length ≤ 900000) (hsz : ∀ f ∈ l, f.name.length ≤ 1000000 ∧ f.value.length ≤ 1000000) (hr : getV (allL l nm.data.toList) = r) :
    Calls Tryd.prog 12 #[v, .string nm] w fun e w' => e = .returned r ∧ Below w.heap.size w w' := by
  subst hr; exact get_any v l nm w h hl hsz
theorem put_is (name value r : ByteArray) (hz1 : name.size ≤ 100000) (hz2 : value.size ≤ 100000) (w : World) (hv : Vars w) (h : strL (putL name.data.toList value.data.toList) = r) :
    Calls Tryd.prog 22 #[.string name, .string value] w fun e w' => e = .returned (.string r) ∧ Below w.heap.size w w' := by
  subst h; exact put_any name value hz1 hz2 w hv
theorem unfold_is (s r : ByteArray) (hs : s.size ≤ 1000000) (h : strL (unfoldL s.data.toList) = r) (w : World) : Calls Tryd.prog 17 #[.string s] w fun e w' => e = .returned (.string r) ∧ Below w.heap.size w w' := by
  subst h; exact unfold_any s hs w
/-- The example's fields. -/
def L0 : List Fld := [⟨[65], [32, 98, 13, 10, 32, 99], [65, 58, 32, 98, 13, 10, 32, 99, 13, 10], false⟩, ⟨[], [], [110, 111, 13, 10], true⟩, ⟨[84, 111], [120], [84, 111, 32, 58, 120, 10], false⟩]
def S0 : ByteArray := ⟨#[65, 58, 32, 98, 13, 10, 32, 99, 13, 10, 110, 111, 13, 10, 84, 111, 32, 58, 120, 10, 13, 10, 98, 111, 100, 121]⟩
theorem parse0 : parseL S0.data.toList = L0 ∧ atL S0.data.toList = 22 := by decide +kernel
theorem size0 : ∀ f ∈ L0, f.name.length ≤ 1000000 ∧ f.value.length ≤ 1000000 := by decide
theorem get1 : getV (allL L0 (⟨#[97]⟩ : ByteArray).data.toList) = .tuple #[.string ⟨#[98, 32, 99]⟩, .bool true] := by
  have : allL L0 (⟨#[97]⟩ : ByteArray).data.toList = [[98, 32, 99]] := by decide +kernel
  rw [this]; rfl
theorem get2 : getV (allL L0 (⟨#[84, 79]⟩ : ByteArray).data.toList) = .tuple #[.string ⟨#[120]⟩, .bool true] := by
  have : allL L0 (⟨#[84, 79]⟩ : ByteArray).data.toList = [[120]] := by decide +kernel
  rw [this]; rfl
theorem get3 : getV (allL L0 (⟨#[110, 111]⟩ : ByteArray).data.toList) = .tuple #[.string ⟨#[]⟩, .bool false] := by
  have : allL L0 (⟨#[110, 111]⟩ : ByteArray).data.toList = [] := by decide +kernel
  rw [this]; rfl
theorem put1 : strL (putL (⟨#[83]⟩ : ByteArray).data.toList (⟨#[32, 97, 10, 98, 32]⟩ : ByteArray).data.toList) = ⟨#[83, 58, 32, 97, 32, 98, 13, 10]⟩ := by
  have : putL (⟨#[83]⟩ : ByteArray).data.toList (⟨#[32, 97, 10, 98, 32]⟩ : ByteArray).data.toList = [83, 58, 32, 97, 32, 98, 13, 10] := by decide +kernel
  rw [this]; rfl
theorem put2 : strL (putL (⟨#[97, 32, 98]⟩ : ByteArray).data.toList (⟨#[]⟩ : ByteArray).data.toList) = ⟨#[]⟩ := by
  have : putL (⟨#[97, 32, 98]⟩ : ByteArray).data.toList (⟨#[]⟩ : ByteArray).data.toList = [] := by decide +kernel
  rw [this]; rfl
theorem unf1 : strL (unfoldL (⟨#[97, 13, 10, 32, 98, 10, 99, 13]⟩ : ByteArray).data.toList) = ⟨#[97, 32, 98, 99, 13]⟩ := by
  have : unfoldL (⟨#[97, 13, 10, 32, 98, 10, 99, 13]⟩ : ByteArray).data.toList = [97, 32, 98, 99, 13] := by decide +kernel
  rw [this]; rfl
/-- Older memory, and the example's fields at g. -/
structure Sg (w0 w : World) (g : Nat) : Prop where
  bel : Below w0.heap.size w0 w
  fs : FAt w g 0 L0
theorem Sg.step {w0 w w' : World} {g : Nat} (h : Sg w0 w g) (hb : Below w.heap.size w w') : Sg w0 w' g := ⟨h.bel.trans (hb.mono h.bel.size), h.fs.step hb⟩
theorem Sg.has {w0 w : World} {g : Nat} (h : Sg w0 w g) (c : Nat) : HasF w (.slice (some ⟨g, 0, none⟩) 3 c) L0 := .inr ⟨g, 0, c, rfl, h.fs⟩
theorem Sg.k6 {w0 w : World} {g : Nat} (h : Sg w0 w g) : w.cell? ⟨g, 6, none⟩ = some (.string ⟨#[110, 111, 13, 10]⟩) := (h.fs 1 _ rfl).2.2.1
theorem Sg.k7 {w0 w : World} {g : Nat} (h : Sg w0 w g) : w.cell? ⟨g, 7, none⟩ = some (.bool true) := (h.fs 1 _ rfl).2.2.2
theorem Sg.k8 {w0 w : World} {g : Nat} (h : Sg w0 w g) : w.cell? ⟨g, 8, none⟩ = some (.string ⟨#[84, 111]⟩) := (h.fs 2 _ rfl).1
set_option maxHeartbeats 4000000 in
set_option maxRecDepth 1000000 in
theorem small_any (w : World) (hv : Vars w) :
    Calls Tryd.prog 8 #[] w fun e w' => e = .returned (.bool true) ∧ Below w.heap.size w w' := by
  have hP' := parse_is S0 L0 22 (by decide) parse0.1 parse0.2 w hv
  have hP : Calls Tryd.prog 10 #[.string ⟨#[65, 58, 32, 98, 13, 10, 32, 99, 13, 10, 110, 111, 13, 10, 84, 111, 32, 58, 120, 10, 13, 10, 98, 111, 100, 121]⟩] w fun e w' => ∃ g c, e = .returned (.tuple #[.slice (some ⟨g, 0, none⟩) 3 c, .int .i64 22]) ∧ Sg w w' g := hP'.mono (by
    rintro e w' ⟨a, c, rfl, ho, hb⟩
    obtain ⟨g, rfl, hf⟩ := ho.at (show 0 < L0.length by decide)
    exact ⟨g, c, rfl, hb, hf⟩)
  clear hP'
  have hG1 : ∀ w' g c, Sg w w' g → Calls Tryd.prog 12 #[.slice (some ⟨g, 0, none⟩) 3 c, .string ⟨#[97]⟩] w' fun e w'' => e = .returned (.tuple #[.string ⟨#[98, 32, 99]⟩, .bool true]) ∧ Below w'.heap.size w' w'' := fun w' g c h => get_is _ L0 _ _ w' (h.has c) (by decide) size0 get1
  have hG2 : ∀ w' g c, Sg w w' g → Calls Tryd.prog 12 #[.slice (some ⟨g, 0, none⟩) 3 c, .string ⟨#[84, 79]⟩] w' fun e w'' => e = .returned (.tuple #[.string ⟨#[120]⟩, .bool true]) ∧ Below w'.heap.size w' w'' := fun w' g c h => get_is _ L0 _ _ w' (h.has c) (by decide) size0 get2
  have hG3 : ∀ w' g c, Sg w w' g → Calls Tryd.prog 12 #[.slice (some ⟨g, 0, none⟩) 3 c, .string ⟨#[110, 111]⟩] w' fun e w'' => e = .returned (.tuple #[.string ⟨#[]⟩, .bool false]) ∧ Below w'.heap.size w' w'' := fun w' g c h => get_is _ L0 _ _ w' (h.has c) (by decide) size0 get3
  have hQ1 : ∀ w', Vars w' → Calls Tryd.prog 22 #[.string ⟨#[83]⟩, .string ⟨#[32, 97, 10, 98, 32]⟩] w' fun e w'' => e = .returned (.string ⟨#[83, 58, 32, 97, 32, 98, 13, 10]⟩) ∧ Below w'.heap.size w' w'' := fun w' h => put_is _ _ _ (by decide) (by decide) w' h put1
  have hQ2 : ∀ w', Vars w' → Calls Tryd.prog 22 #[.string ⟨#[97, 32, 98]⟩, .string ⟨#[]⟩] w' fun e w'' => e = .returned (.string ⟨#[]⟩) ∧ Below w'.heap.size w' w'' := fun w' h => put_is _ _ _ (by decide) (by decide) w' h put2
  have hU : ∀ w', Calls Tryd.prog 17 #[.string ⟨#[97, 13, 10, 32, 98, 10, 99, 13]⟩] w' fun e w'' => e = .returned (.string ⟨#[97, 32, 98, 99, 13]⟩) ∧ Below w'.heap.size w' w'' := fun w' => unfold_is _ _ (by decide) unf1 w'
  have HG1 := Lib.hid hG1
  have HG2 := Lib.hid hG2
  have HG3 := Lib.hid hG3
  have HQ1 := Lib.hid hQ1
  have HQ2 := Lib.hid hQ2
  clear hG1 hG2 hG3 hQ1 hQ2
  go_enter Tryd.func8, Tryd.ntmps8
  go_wp2_with (first
    | (go_at_call 10; (with_reducible refine hP.mono ?_); rintro e w1 ⟨g, c, rfl, st⟩; clear hP; have c1 := HG1.out w1 g c st; clear HG1)
    | (go_at_call 12; (with_reducible refine c1.mono ?_); rintro e w2 ⟨rfl, hb2⟩; replace st := st.step hb2; have c2 := HG2.out w2 g c st; clear c1 HG2 hb2)
    | (go_at_call 12; (with_reducible refine c2.mono ?_); rintro e w3 ⟨rfl, hb3⟩; replace st := st.step hb3; have c3 := HG3.out w3 g c st; clear c2 HG3 hb3)
    | (go_at_call 12; (with_reducible refine c3.mono ?_); rintro e w4 ⟨rfl, hb4⟩; replace st := st.step hb4; have k6 := st.k6; have k7 := st.k7; have k8 := st.k8; have q1 := HQ1.out w4 (hv.keep st.bel); clear c3 HQ1 hb4)
    | (go_at_call 22; (with_reducible refine q1.mono ?_); rintro e w5 ⟨rfl, hb5⟩; replace st := st.step hb5; have q2 := HQ2.out w5 (hv.keep st.bel); clear q1 HQ2 hb5)
    | (go_at_call 22; (with_reducible refine q2.mono ?_); rintro e w6 ⟨rfl, hb6⟩; replace st := st.step hb6; clear q2 hb6)
    | (go_at_call 17; (with_reducible refine (hU _).mono ?_); rintro e w7 ⟨rfl, hb7⟩; replace st := st.step hb7; clear hU hb7))
  go_ret
  exact ⟨rfl, st.bel⟩
end Go.Proofs.YtocghngmjipjoaaDoor
