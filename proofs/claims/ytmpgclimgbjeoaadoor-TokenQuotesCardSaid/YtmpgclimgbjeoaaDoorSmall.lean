/- The example that every law evaluates first: it comes out true. -/
import Derived.Test.YtmpgclimgbjeoaaDoorSame
import Derived.Test.YtmpgclimgbjeoaaDoorQuote
import Derived.Test.YtmpgclimgbjeoaaDoorValue
namespace Go.Proofs.YtmpgclimgbjeoaaDoor
open Go.ChangeShapes Go.WideShapes Go.ChangeAt Go.RowKit
open TokP

def S0 : ByteArray := ⟨#[97, 32, 34, 98, 92, 34, 99, 34, 32, 40, 100, 40, 101, 41, 41, 60, 91, 102, 92, 93, 93, 62, 1, 34, 103]⟩
/-- The example's tokens. -/
def L0 : List Tok := [⟨1, [97]⟩, ⟨6, [32]⟩, ⟨2, [34, 98, 92, 34, 99, 34]⟩, ⟨6, [32]⟩, ⟨3, [40, 100, 40, 101, 41, 41]⟩, ⟨4, [60]⟩, ⟨5, [91, 102, 92, 93, 93]⟩, ⟨4, [62]⟩, ⟨7, [1]⟩, ⟨7, [34, 103]⟩]
def M0 : List Tok := [⟨1, [97]⟩, ⟨2, [34, 98, 92, 34, 99, 34]⟩, ⟨4, [60]⟩, ⟨5, [91, 102, 92, 93, 93]⟩, ⟨4, [62]⟩, ⟨7, [1]⟩, ⟨7, [34, 103]⟩]
theorem scan0 : scanL S0.data.toList = L0 := by decide +kernel
theorem bare0 : bareL L0 = M0 := by decide +kernel
theorem scan_is (s : ByteArray) (l : List Tok) (hs : s.size ≤ 1000000) (h : scanL s.data.toList = l) (w : World) :
    Calls Tryd.prog 9 #[.string s] w fun e w' => ∃ a c, e = .returned (.slice a l.length c) ∧ OwnF w' (.slice a l.length c) l ∧ Below w.heap.size w w' := by
  subst h; exact scan_any s hs w
theorem bare_is (v : Value) (l m : List Tok) (w : World) (h : HasF w v l) (hn : l.length ≤ 1000000) (ht : ∀ t ∈ l, t.text.length ≤ 1000000) (hm : bareL l = m) :
    Calls Tryd.prog 12 #[v] w fun e w' => ∃ a c, e = .returned (.slice a m.length c) ∧ OwnF w' (.slice a m.length c) m ∧ Below w.heap.size w w' := by
  subst hm; exact bare_any v l w h hn ht
theorem value_is (K : Int) (T r : ByteArray) (hT : T.size ≤ 1000000) (h : valueI K T.data.toList = r.data.toList) (w : World) :
    Calls Tryd.prog 18 #[.agg #[.int .i64 K, .string T]] w fun e w' => e = .returned (.string r) ∧ Below w.heap.size w w' := by
  have := value_any K T hT w
  rw [h, strL_of] at this
  exact this
theorem quote_is (s r : ByteArray) (hs : s.size ≤ 1000000) (h : quoteL s.data.toList = r.data.toList) (w : World) :
    Calls Tryd.prog 16 #[.string s] w fun e w' => e = .returned (.string r) ∧ Below w.heap.size w w' := by
  have := quote_any s hs w
  rw [h, strL_of] at this
  exact this
theorem join_is (v : Value) (l : List Tok) (r : ByteArray) (w : World) (h : HasF w v l) (hl : (joinL l).length ≤ 1000000) (hn : l.length ≤ 1000000) (hr : joinL l = r.data.toList) :
    Calls Tryd.prog 14 #[v] w fun e w' => e = .returned (.string r) ∧ Below w.heap.size w w' := by
  have := join_any v l w h hl hn
  rw [hr, strL_of] at this
  exact this
/-- Older memory, the example's tokens at g, those that Bare leaves at b. -/
structure Sg (w0 w : World) (g b : Nat) : Prop where
  bel : Below w0.heap.size w0 w
  fs : FAt w g 0 L0
  bs : FAt w b 0 M0
theorem Sg.step {w0 w w' : World} {g b : Nat} (h : Sg w0 w g b) (hb : Below w.heap.size w w') : Sg w0 w' g b := ⟨h.bel.trans (hb.mono h.bel.size), h.fs.step hb, h.bs.step hb⟩
section
variable {w0 w : World} {g b : Nat} (h : Sg w0 w g b)
include h
theorem Sg.k0 : w.cell? ⟨g, 0, none⟩ = some (.int .i64 1) := (h.fs 0 _ rfl).1
theorem Sg.k2 : w.cell? ⟨g, 2, none⟩ = some (.int .i64 6) := (h.fs 1 _ rfl).1
theorem Sg.k4 : w.cell? ⟨g, 4, none⟩ = some (.int .i64 2) := (h.fs 2 _ rfl).1
theorem Sg.k5 : w.cell? ⟨g, 5, none⟩ = some (.string ⟨#[34, 98, 92, 34, 99, 34]⟩) := (h.fs 2 _ rfl).2
theorem Sg.k6 : w.cell? ⟨g, 6, none⟩ = some (.int .i64 6) := (h.fs 3 _ rfl).1
theorem Sg.k8 : w.cell? ⟨g, 8, none⟩ = some (.int .i64 3) := (h.fs 4 _ rfl).1
theorem Sg.k9 : w.cell? ⟨g, 9, none⟩ = some (.string ⟨#[40, 100, 40, 101, 41, 41]⟩) := (h.fs 4 _ rfl).2
theorem Sg.k10 : w.cell? ⟨g, 10, none⟩ = some (.int .i64 4) := (h.fs 5 _ rfl).1
theorem Sg.k12 : w.cell? ⟨g, 12, none⟩ = some (.int .i64 5) := (h.fs 6 _ rfl).1
theorem Sg.k13 : w.cell? ⟨g, 13, none⟩ = some (.string ⟨#[91, 102, 92, 93, 93]⟩) := (h.fs 6 _ rfl).2
theorem Sg.k15 : w.cell? ⟨g, 15, none⟩ = some (.string ⟨#[62]⟩) := (h.fs 7 _ rfl).2
theorem Sg.k16 : w.cell? ⟨g, 16, none⟩ = some (.int .i64 7) := (h.fs 8 _ rfl).1
theorem Sg.k18 : w.cell? ⟨g, 18, none⟩ = some (.int .i64 7) := (h.fs 9 _ rfl).1
theorem Sg.k19 : w.cell? ⟨g, 19, none⟩ = some (.string ⟨#[34, 103]⟩) := (h.fs 9 _ rfl).2
theorem Sg.b2 : w.cell? ⟨b, 2, none⟩ = some (.int .i64 2) := (h.bs 1 _ rfl).1
theorem Sg.b3 : w.cell? ⟨b, 3, none⟩ = some (.string ⟨#[34, 98, 92, 34, 99, 34]⟩) := (h.bs 1 _ rfl).2
theorem Sg.all : Hid (Sg w0 w g b) ∧ w.cell? ⟨g, 4, none⟩ = some (.int .i64 2) ∧ w.cell? ⟨g, 5, none⟩ = some (.string ⟨#[34, 98, 92, 34, 99, 34]⟩) ∧ w.cell? ⟨g, 8, none⟩ = some (.int .i64 3) ∧ w.cell? ⟨g, 9, none⟩ = some (.string ⟨#[40, 100, 40, 101, 41, 41]⟩) ∧ w.cell? ⟨g, 12, none⟩ = some (.int .i64 5) ∧ w.cell? ⟨g, 13, none⟩ = some (.string ⟨#[91, 102, 92, 93, 93]⟩) ∧ w.cell? ⟨g, 19, none⟩ = some (.string ⟨#[34, 103]⟩) ∧ w.cell? ⟨b, 2, none⟩ = some (.int .i64 2) ∧ w.cell? ⟨b, 3, none⟩ = some (.string ⟨#[34, 98, 92, 34, 99, 34]⟩) :=
  ⟨Lib.hid h, h.k4, h.k5, h.k8, h.k9, h.k12, h.k13, h.k19, h.b2, h.b3⟩
theorem Sg.hasB (c : Nat) : HasF w (.slice (some ⟨b, 0, none⟩) 7 c) M0 := .inr ⟨b, 0, c, rfl, h.bs⟩
end
set_option maxHeartbeats 4000000 in
set_option maxRecDepth 1000000 in
theorem small_any (w : World) : Calls Tryd.prog 7 #[] w fun e w' => e = .returned (.bool true) ∧ Below w.heap.size w w' := by
  have hP : Calls Tryd.prog 9 #[.string ⟨#[97, 32, 34, 98, 92, 34, 99, 34, 32, 40, 100, 40, 101, 41, 41, 60, 91, 102, 92, 93, 93, 62, 1, 34, 103]⟩] w fun e w' => ∃ g c, e = .returned (.slice (some ⟨g, 0, none⟩) 10 c) ∧ Below w.heap.size w w' ∧ FAt w' g 0 L0 := (scan_is S0 L0 (by decide) scan0 w).mono (by
    rintro e w' ⟨a, c, rfl, ho, hb⟩
    obtain ⟨g, rfl, hf⟩ := ho.at (show 0 < L0.length by decide)
    exact ⟨g, c, rfl, hb, hf⟩)
  have HB := Lib.hid (fun (w' : World) (g c : Nat) (h1 : Below w.heap.size w w') (h2 : FAt w' g 0 L0) => show Calls Tryd.prog 12 #[.slice (some ⟨g, 0, none⟩) 10 c] w' fun e w2 => ∃ b c2, e = .returned (.slice (some ⟨b, 0, none⟩) 7 c2) ∧ Sg w w2 g b from (bare_is (.slice (some ⟨g, 0, none⟩) 10 c) L0 M0 w' (.inr ⟨g, 0, c, rfl, h2⟩) (by decide) (by decide) bare0).mono (by
    rintro e w2 ⟨a, c2, rfl, ho, hb⟩
    obtain ⟨b, rfl, hf⟩ := ho.at (show 0 < M0.length by decide)
    exact ⟨b, c2, rfl, h1.trans (hb.mono h1.size), h2.step hb, hf⟩))
  have V1 := fun (Q : World) (g b : Nat) (h : Hid (Sg w Q g b)) => (value_is 2 ⟨#[34, 98, 92, 34, 99, 34]⟩ ⟨#[98, 34, 99]⟩ (by decide) (by decide +kernel) Q).mono (fun e w' (hh : _ ∧ _) => (⟨hh.1, Lib.hid (h.out.step hh.2)⟩ : _ ∧ Hid (Sg w w' g b)))
  have V2 := fun (Q : World) (g b : Nat) (h : Hid (Sg w Q g b)) => (value_is 3 ⟨#[40, 100, 40, 101, 41, 41]⟩ ⟨#[100, 40, 101, 41]⟩ (by decide) (by decide +kernel) Q).mono (fun e w' (hh : _ ∧ _) => (⟨hh.1, Lib.hid (h.out.step hh.2)⟩ : _ ∧ Hid (Sg w w' g b)))
  have V3 := fun (Q : World) (g b : Nat) (h : Hid (Sg w Q g b)) => (value_is 5 ⟨#[91, 102, 92, 93, 93]⟩ ⟨#[91, 102, 92, 93, 93]⟩ (by decide) (by decide +kernel) Q).mono (fun e w' (hh : _ ∧ _) => (⟨hh.1, Lib.hid (h.out.step hh.2)⟩ : _ ∧ Hid (Sg w w' g b)))
  have Q1 := fun (Q : World) (g b : Nat) (h : Hid (Sg w Q g b)) => (quote_is ⟨#[97, 32, 98]⟩ ⟨#[97, 32, 98]⟩ (by decide) (by decide +kernel) Q).mono (fun e w' (hh : _ ∧ _) => (⟨hh.1, Lib.hid (h.out.step hh.2)⟩ : _ ∧ Hid (Sg w w' g b)))
  have Q2 := fun (Q : World) (g b : Nat) (h : Hid (Sg w Q g b)) => (quote_is ⟨#[97, 46, 98]⟩ ⟨#[34, 97, 46, 98, 34]⟩ (by decide) (by decide +kernel) Q).mono (fun e w' (hh : _ ∧ _) => (⟨hh.1, Lib.hid (h.out.step hh.2)⟩ : _ ∧ Hid (Sg w w' g b)))
  have Q3 := fun (Q : World) (g b : Nat) (h : Hid (Sg w Q g b)) => (quote_is ⟨#[]⟩ ⟨#[34, 34]⟩ (by decide) (by decide +kernel) Q).mono (fun e w' (hh : _ ∧ _) => (⟨hh.1, Lib.hid (h.out.step hh.2)⟩ : _ ∧ Hid (Sg w w' g b)))
  have Q4 := fun (Q : World) (g b : Nat) (h : Hid (Sg w Q g b)) => (quote_is ⟨#[32, 97]⟩ ⟨#[34, 32, 97, 34]⟩ (by decide) (by decide +kernel) Q).mono (fun e w' (hh : _ ∧ _) => (⟨hh.1, Lib.hid (h.out.step hh.2)⟩ : _ ∧ Hid (Sg w w' g b)))
  have Q5 := fun (Q : World) (g b : Nat) (h : Hid (Sg w Q g b)) => (quote_is ⟨#[34, 10]⟩ ⟨#[34, 92, 34, 92, 10, 34]⟩ (by decide) (by decide +kernel) Q).mono (fun e w' (hh : _ ∧ _) => (⟨hh.1, Lib.hid (h.out.step hh.2)⟩ : _ ∧ Hid (Sg w w' g b)))
  have HJ := fun (Q : World) (g b c : Nat) (h : Hid (Sg w Q g b)) => (join_is (.slice (some ⟨b, 0, none⟩) 7 c) M0 ⟨#[97, 34, 98, 92, 34, 99, 34, 60, 91, 102, 92, 93, 93, 62, 1, 34, 103]⟩ Q (h.out.hasB c) (by decide) (by decide) (by decide +kernel)).mono (fun e w' (hh : _ ∧ _) => (⟨hh.1, Lib.hid (h.out.step hh.2)⟩ : _ ∧ Hid (Sg w w' g b)))
  go_enter Tryd.func7, Tryd.ntmps7
  go_wp2_with (first
    | (go_at_call 9; (with_reducible refine hP.mono ?_); rintro e w1 ⟨g, c, rfl, hb1, hf1⟩; clear hP; have cB := HB.out w1 g c hb1 hf1; clear HB hb1 hf1)
    | (go_at_call 12; (with_reducible refine cB.mono ?_); rintro e w2 ⟨b, c2, rfl, st⟩; clear cB; have k0 := st.k0; have k2 := st.k2; have k4 := st.k4; have k5 := st.k5; have k6 := st.k6; have k8 := st.k8; have k10 := st.k10; have k12 := st.k12; have k15 := st.k15; have k16 := st.k16; have k18 := st.k18))
  clear k0 k2 k4 k5 k6 k8 k10 k12 k15 k16 k18
  replace st : Sg w w2.drew g b := ⟨st.bel.drew, st.fs, st.bs⟩
  replace st := Lib.hid st
  simp only [List.append_eq, List.cons_append, List.nil_append]
  go_region_held3 (fun Q => Hid (Sg w Q g b) ∧ Q.cell? ⟨g, 4, none⟩ = some (.int .i64 2) ∧ Q.cell? ⟨g, 5, none⟩ = some (.string ⟨#[34, 98, 92, 34, 99, 34]⟩) ∧ Q.cell? ⟨g, 8, none⟩ = some (.int .i64 3) ∧ Q.cell? ⟨g, 9, none⟩ = some (.string ⟨#[40, 100, 40, 101, 41, 41]⟩) ∧ Q.cell? ⟨g, 12, none⟩ = some (.int .i64 5) ∧ Q.cell? ⟨g, 13, none⟩ = some (.string ⟨#[91, 102, 92, 93, 93]⟩) ∧ Q.cell? ⟨g, 19, none⟩ = some (.string ⟨#[34, 103]⟩) ∧ Q.cell? ⟨b, 2, none⟩ = some (.int .i64 2) ∧ Q.cell? ⟨b, 3, none⟩ = some (.string ⟨#[34, 98, 92, 34, 99, 34]⟩))
    (first | exact st.out.all | exact Sg.all (Hid.out (by assumption)))
    (first
      | (go_at_call 18; (with_reducible refine (V1 _ _ _ (by assumption)).mono ?_); rintro e v0 ⟨rfl, hs0⟩; clear V1)
      | (go_at_call 18; (with_reducible refine (V2 _ _ _ (by assumption)).mono ?_); rintro e v1 ⟨rfl, hs1⟩; clear V2)
      | (go_at_call 18; (with_reducible refine (V3 _ _ _ (by assumption)).mono ?_); rintro e v2 ⟨rfl, hs2⟩; clear V3)
      | (go_at_call 16; (with_reducible refine (Q1 _ _ _ (by assumption)).mono ?_); rintro e v3 ⟨rfl, hs3⟩; clear Q1)
      | (go_at_call 16; (with_reducible refine (Q2 _ _ _ (by assumption)).mono ?_); rintro e v4 ⟨rfl, hs4⟩; clear Q2)
      | (go_at_call 16; (with_reducible refine (Q3 _ _ _ (by assumption)).mono ?_); rintro e v5 ⟨rfl, hs5⟩; clear Q3)
      | (go_at_call 16; (with_reducible refine (Q4 _ _ _ (by assumption)).mono ?_); rintro e v6 ⟨rfl, hs6⟩; clear Q4)
      | (go_at_call 16; (with_reducible refine (Q5 _ _ _ (by assumption)).mono ?_); rintro e v7 ⟨rfl, hs7⟩; clear Q5)
      | (go_at_call 14; (with_reducible refine (HJ _ _ _ _ (by assumption)).mono ?_); rintro e v9 ⟨rfl, hs9⟩; clear HJ))
  go_wp2_with fail
  go_ret
  exact ⟨rfl, hs9.out.bel⟩
end Go.Proofs.YtmpgclimgbjeoaaDoor
