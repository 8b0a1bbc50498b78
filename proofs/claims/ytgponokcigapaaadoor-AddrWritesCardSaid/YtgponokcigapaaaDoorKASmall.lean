/- The example that every law evaluates first: it comes out true. -/
import Derived.Test.YtgponokcigapaaaDoorK8
namespace Go.Proofs.YtgponokcigapaaaDoor
open Go.ChangeShapes Go.WideShapes Go.ChangeAt Go.RowKit
open TokP AdrP

def L0 : List Adr := [⟨[], [97], [98]⟩, ⟨[120, 32, 121], [99, 46, 100], [69]⟩, ⟨[74, 46, 32, 68], [107, 32, 108], [91, 49, 46, 50, 93]⟩]
def M0 : List Adr := [⟨[], [100], [101]⟩]
def I0 : List (List UInt8) := [[97, 64, 98], [99]]
theorem parse1 : parseA [103, 58, 32, 97, 64, 98, 44, 32, 34, 120, 32, 121, 34, 32, 60, 99, 46, 100, 64, 69, 62, 32, 40, 122, 41, 59, 44, 32, 74, 46, 32, 68, 32, 60, 64, 113, 58, 34, 107, 32, 108, 34, 64, 91, 49, 32, 46, 50, 93, 62] = (L0, true) := by decide +kernel
theorem parse2 : parseA [97, 64, 98, 32, 99, 44, 32, 60, 100, 64, 101, 62, 44, 32, 120] = (M0, false) := by decide +kernel
theorem ids1 : idsL [60, 97, 64, 98, 62, 32, 120, 60, 60, 99, 62, 32, 60, 100, 32, 101, 62, 32, 60, 62] = I0 := by decide +kernel
theorem write1 : writeQ [(⟨[], [97], [98]⟩ : Adr), (⟨[74, 46, 32, 68], [107, 32, 108], [91, 49, 46, 50, 93]⟩ : Adr)] = [97, 64, 98, 44, 32, 34, 74, 46, 32, 68, 34, 32, 60, 34, 107, 32, 108, 34, 64, 91, 49, 46, 50, 93, 62] := by decide +kernel
theorem right1 : rightB (⟨[74, 46, 32, 68], [107, 32, 108], [91, 49, 46, 50, 93]⟩ : Adr) = true := by decide +kernel
theorem right2 : rightB ⟨[], [97], []⟩ = false := by decide +kernel
/-- Older memory, the first list at g, the second at m, the address at b. -/
structure Sa (w0 w : World) (g m b : Nat) : Prop where
  bel : Below w0.heap.size w0 w
  al : AAt w g 0 L0
  am : AAt w m 0 M0
  bx : Bx w b ⟨#[74, 46, 32, 68]⟩ ⟨#[107, 32, 108]⟩ ⟨#[91, 49, 46, 50, 93]⟩
theorem Sa.step {w0 w w' : World} {g m b : Nat} (h : Sa w0 w g m b) (hb : Below w.heap.size w w') : Sa w0 w' g m b := ⟨h.bel.trans (hb.mono h.bel.size), h.al.step hb, h.am.step hb, h.bx.step hb⟩
theorem Sa.alloc {w0 w : World} {g m b : Nat} (h : Sa w0 w g m b) (o : Obj) : Sa w0 (w.alloc o) g m b := h.step (below_box w o)
section
variable {w0 w : World} {g m b : Nat} (h : Sa w0 w g m b)
include h
theorem Sa.all : Hid (Sa w0 w g m b) ∧ w.cell? ⟨b, 0, none⟩ = some (.string ⟨#[74, 46, 32, 68]⟩) ∧ w.cell? ⟨b, 1, none⟩ = some (.string ⟨#[107, 32, 108]⟩) ∧ w.cell? ⟨b, 2, none⟩ = some (.string ⟨#[91, 49, 46, 50, 93]⟩) ∧ w.cell? ⟨g, 0, none⟩ = some (.string ⟨#[]⟩) ∧ w.cell? ⟨g, 1, none⟩ = some (.string ⟨#[97]⟩) ∧ w.cell? ⟨g, 2, none⟩ = some (.string ⟨#[98]⟩) ∧ w.cell? ⟨g, 3, none⟩ = some (.string ⟨#[120, 32, 121]⟩) ∧ w.cell? ⟨g, 4, none⟩ = some (.string ⟨#[99, 46, 100]⟩) ∧ w.cell? ⟨g, 5, none⟩ = some (.string ⟨#[69]⟩) :=
  ⟨Lib.hid h, h.bx.c0, h.bx.c1, h.bx.c2, (h.al 0 _ rfl).1, (h.al 0 _ rfl).2.1, (h.al 0 _ rfl).2.2, (h.al 1 _ rfl).1, (h.al 1 _ rfl).2.1, (h.al 1 _ rfl).2.2⟩
theorem Sa.hasL (c : Nat) : HasA w (.slice (some ⟨g, 0, none⟩) 3 c) L0 := .inr ⟨g, 0, c, rfl, h.al⟩
theorem Sa.hasM (c : Nat) : HasA w (.slice (some ⟨m, 0, none⟩) 1 c) M0 := .inr ⟨m, 0, c, rfl, h.am⟩
end
theorem aat_new (w : World) (l : List Adr) : AAt (w.alloc (.cells (adrsV l).toArray 34)) w.heap.size 0 l := by
  intro i f hf
  have key : ∀ j u, j < 3 → (adrV f)[j]? = some u → (w.alloc (.cells (adrsV l).toArray 34)).cell? ⟨w.heap.size, 0 + i * 3 + j, none⟩ = some u := fun j u hj hu => by
    rw [World.cell?_alloc_mark w (adrsV l).toArray 34 (0, 0) (0 + i * 3 + j), Nat.zero_add, List.getElem?_toArray, adrsV_at l i f hf j hj]
    exact hu
  exact ⟨key 0 _ (by decide) rfl, key 1 _ (by decide) rfl, key 2 _ (by decide) rfl⟩
theorem has_new (w : World) (l : List Adr) (c : Nat) : HasA (w.alloc (.cells (adrsV l).toArray 34)) (.slice (some ⟨w.heap.size, 0, none⟩) l.length c) l := .inr ⟨w.heap.size, 0, c, rfl, aat_new w l⟩
theorem str_new (w : World) : Has strV (w.alloc (.cells #[.string ⟨#[97, 64, 98]⟩, .string ⟨#[99]⟩] 9)) (.slice (some ⟨w.heap.size, 0, none⟩) 2 2) I0 := Has.lit strV w 9 I0 2 rfl
set_option maxHeartbeats 4000000 in
set_option maxRecDepth 1000000 in
theorem small_ok : SmallOk := fun w => by
  have hP : Calls Tryd.prog 11 #[.string ⟨#[103, 58, 32, 97, 64, 98, 44, 32, 34, 120, 32, 121, 34, 32, 60, 99, 46, 100, 64, 69, 62, 32, 40, 122, 41, 59, 44, 32, 74, 46, 32, 68, 32, 60, 64, 113, 58, 34, 107, 32, 108, 34, 64, 91, 49, 32, 46, 50, 93, 62]⟩] w fun e w' => ∃ g c, e = .returned (.tuple #[.slice (some ⟨g, 0, none⟩) 3 c, .bool true]) ∧ Below w.heap.size w w' ∧ AAt w' g 0 L0 := (parse_p ⟨#[103, 58, 32, 97, 64, 98, 44, 32, 34, 120, 32, 121, 34, 32, 60, 99, 46, 100, 64, 69, 62, 32, 40, 122, 41, 59, 44, 32, 74, 46, 32, 68, 32, 60, 64, 113, 58, 34, 107, 32, 108, 34, 64, 91, 49, 32, 46, 50, 93, 62]⟩ (by decide) w L0 true parse1 3 rfl).mono (by
    rintro e w' ⟨a, c, rfl, ho, hb⟩
    obtain ⟨g, rfl, hf⟩ := ho.at (by decide)
    exact ⟨g, c, rfl, hb, hf⟩)
  have HP2 := Lib.hid (fun (W : World) (g : Nat) (h1 : Below w.heap.size w W) (h2 : AAt W g 0 L0) => show Calls Tryd.prog 11 #[.string ⟨#[97, 64, 98, 32, 99, 44, 32, 60, 100, 64, 101, 62, 44, 32, 120]⟩] W fun e w' => ∃ m c, e = .returned (.tuple #[.slice (some ⟨m, 0, none⟩) 1 c, .bool false]) ∧ Hid (Sa w (w'.alloc (.cells #[.string ⟨#[74, 46, 32, 68]⟩, .string ⟨#[107, 32, 108]⟩, .string ⟨#[91, 49, 46, 50, 93]⟩] 34)) g m w'.heap.size) from (parse_p ⟨#[97, 64, 98, 32, 99, 44, 32, 60, 100, 64, 101, 62, 44, 32, 120]⟩ (by decide) W M0 false parse2 1 rfl).mono (by
    rintro e w' ⟨a, c, rfl, ho, hb⟩
    obtain ⟨m, rfl, hf⟩ := ho.at (by decide)
    have hb2 := below_box w' (.cells #[.string ⟨#[74, 46, 32, 68]⟩, .string ⟨#[107, 32, 108]⟩, .string ⟨#[91, 49, 46, 50, 93]⟩] 34)
    exact ⟨m, c, rfl, Lib.hid ⟨(Qtrans h1 hb).trans (hb2.mono (Qtrans h1 hb).size), (h2.step hb).step hb2, hf.step hb2, bx_new w' _ _ _⟩⟩))
  have C1 := fun (Q : World) (g m b c : Nat) (h : Hid (Sa w Q g m b)) => (show Calls Tryd.prog 13 #[.slice (some ⟨g, 0, none⟩) 3 c, .slice (some ⟨Q.heap.size, 0, none⟩) 3 3] (Q.alloc (.cells #[.string ⟨#[]⟩, .string ⟨#[97]⟩, .string ⟨#[98]⟩, .string ⟨#[120, 32, 121]⟩, .string ⟨#[99, 46, 100]⟩, .string ⟨#[69]⟩, .string ⟨#[74, 46, 32, 68]⟩, .string ⟨#[107, 32, 108]⟩, .string ⟨#[91, 49, 46, 50, 93]⟩] 34)) fun e w' => e = .returned (.bool true) ∧ Hid (Sa w w' g m b) from (sameA_any ((h.out.alloc _).hasL c) (has_new Q L0 3) (by decide)).mono (fun e w' hh => ⟨hh.1.trans (by rw [decide_eq_true rfl]), Lib.hid ((h.out.alloc _).step hh.2)⟩))
  have C2 := fun (Q : World) (g m b c : Nat) (h : Hid (Sa w Q g m b)) => (show Calls Tryd.prog 13 #[.slice (some ⟨m, 0, none⟩) 1 c, .slice (some ⟨Q.heap.size, 0, none⟩) 1 1] (Q.alloc (.cells #[.string ⟨#[]⟩, .string ⟨#[100]⟩, .string ⟨#[101]⟩] 34)) fun e w' => e = .returned (.bool true) ∧ Hid (Sa w w' g m b) from (sameA_any ((h.out.alloc _).hasM c) (has_new Q M0 1) (by decide)).mono (fun e w' hh => ⟨hh.1.trans (by rw [decide_eq_true rfl]), Lib.hid ((h.out.alloc _).step hh.2)⟩))
  have C3 := fun (Q : World) (g m b : Nat) (h : Hid (Sa w Q g m b)) => (show Calls Tryd.prog 20 #[.agg #[.string ⟨#[120, 32, 121]⟩, .string ⟨#[99, 46, 100]⟩, .string ⟨#[69]⟩]] Q fun e w' => e = .returned (.string ⟨#[99, 46, 100, 64, 101]⟩) ∧ Hid (Sa w w' g m b) from (canon_str ⟨#[120, 32, 121]⟩ ⟨#[99, 46, 100]⟩ ⟨#[69]⟩ (by decide) (by decide) Q).mono (fun e w' hh => ⟨hh.1, Lib.hid (h.out.step hh.2)⟩))
  have C4 := fun (Q : World) (g m b : Nat) (h : Hid (Sa w Q g m b)) => (show Calls Tryd.prog 22 #[.slice (some ⟨Q.heap.size, 0, none⟩) 2 2] (Q.alloc (.cells #[.string ⟨#[]⟩, .string ⟨#[97]⟩, .string ⟨#[98]⟩, .string ⟨#[74, 46, 32, 68]⟩, .string ⟨#[107, 32, 108]⟩, .string ⟨#[91, 49, 46, 50, 93]⟩] 34)) fun e w' => e = .returned (.string ⟨#[97, 64, 98, 44, 32, 34, 74, 46, 32, 68, 34, 32, 60, 34, 107, 32, 108, 34, 64, 91, 49, 46, 50, 93, 62]⟩) ∧ Hid (Sa w w' g m b) from (write_ok (.slice (some ⟨Q.heap.size, 0, none⟩) 2 2) [(⟨[], [97], [98]⟩ : Adr), (⟨[74, 46, 32, 68], [107, 32, 108], [91, 49, 46, 50, 93]⟩ : Adr)] (Q.alloc (.cells #[.string ⟨#[]⟩, .string ⟨#[97]⟩, .string ⟨#[98]⟩, .string ⟨#[74, 46, 32, 68]⟩, .string ⟨#[107, 32, 108]⟩, .string ⟨#[91, 49, 46, 50, 93]⟩] 34)) (has_new Q [(⟨[], [97], [98]⟩ : Adr), (⟨[74, 46, 32, 68], [107, 32, 108], [91, 49, 46, 50, 93]⟩ : Adr)] 2) (by decide +kernel)).mono (fun e w' hh => ⟨hh.1.trans (by rw [write1]; rfl), Lib.hid ((h.out.alloc _).step hh.2)⟩))
  have C5 := fun (Q : World) (g m b : Nat) (h : Hid (Sa w Q g m b)) => (show Calls Tryd.prog 18 #[.agg #[.string ⟨#[74, 46, 32, 68]⟩, .string ⟨#[107, 32, 108]⟩, .string ⟨#[91, 49, 46, 50, 93]⟩]] Q fun e w' => e = .returned (.bool true) ∧ Hid (Sa w w' g m b) from (right_ok (⟨[74, 46, 32, 68], [107, 32, 108], [91, 49, 46, 50, 93]⟩ : Adr) (by decide +kernel) Q).mono (fun e w' hh => ⟨hh.1.trans (by rw [right1]), Lib.hid (h.out.step hh.2)⟩))
  have C6 := fun (Q : World) (g m b : Nat) (h : Hid (Sa w Q g m b)) => (show Calls Tryd.prog 18 #[.agg #[.string ⟨#[]⟩, .string ⟨#[97]⟩, .string ⟨#[]⟩]] Q fun e w' => e = .returned (.bool false) ∧ Hid (Sa w w' g m b) from (right_ok ⟨[], [97], []⟩ (by decide +kernel) Q).mono (fun e w' hh => ⟨hh.1.trans (by rw [right2]), Lib.hid (h.out.step hh.2)⟩))
  have C7 := fun (Q : World) (g m b : Nat) (h : Hid (Sa w Q g m b)) => (show Calls Tryd.prog 15 #[.string ⟨#[60, 97, 64, 98, 62, 32, 120, 60, 60, 99, 62, 32, 60, 100, 32, 101, 62, 32, 60, 62]⟩] Q fun e w' => ∃ a c, e = .returned (.slice a 2 c) ∧ Hid (Own w' (.slice a 2 c) I0) ∧ Hid (Sa w w' g m b) from (ids_p ⟨#[60, 97, 64, 98, 62, 32, 120, 60, 60, 99, 62, 32, 60, 100, 32, 101, 62, 32, 60, 62]⟩ (by decide) Q I0 ids1 2 rfl).mono (by
    rintro e w' ⟨a, c, rfl, ho, hb⟩
    exact ⟨a, c, rfl, Lib.hid ho, Lib.hid (h.out.step hb)⟩))
  have C8 := fun (Q : World) (g m b c : Nat) (a : Option Addr) (h : Hid (Sa w Q g m b)) (ho : Hid (Own Q (.slice a 2 c) I0)) => (show Calls Tryd.prog 14 #[.slice a 2 c, .slice (some ⟨Q.heap.size, 0, none⟩) 2 2] (Q.alloc (.cells #[.string ⟨#[97, 64, 98]⟩, .string ⟨#[99]⟩] 9)) fun e w' => e = .returned (.bool true) ∧ Hid (Sa w w' g m b) from (same_any (ho.out.step (below_box Q _)).has (str_new Q) (by decide)).mono (fun e w' hh => ⟨hh.1.trans (by rw [decide_eq_true rfl]), Lib.hid ((h.out.alloc _).step hh.2)⟩))
  have D7 := fun (Q : World) (g m b : Nat) (h : Hid (Sa w Q g m b)) => (show Calls Tryd.prog 15 #[.string ⟨#[60, 97, 64, 98, 62, 32, 120, 60, 60, 99, 62, 32, 60, 100, 32, 101, 62, 32, 60, 62]⟩] (Q.alloc (.cells #[.string ⟨#[97, 64, 98]⟩, .string ⟨#[99]⟩] 9)) fun e w' => ∃ a c, e = .returned (.slice a 2 c) ∧ Hid (Own w' (.slice a 2 c) I0) ∧ Hid (Sa w w' g m b) ∧ Hid (Has strV w' (.slice (some ⟨Q.heap.size, 0, none⟩) 2 2) I0) from (ids_p ⟨#[60, 97, 64, 98, 62, 32, 120, 60, 60, 99, 62, 32, 60, 100, 32, 101, 62, 32, 60, 62]⟩ (by decide) (Q.alloc (.cells #[.string ⟨#[97, 64, 98]⟩, .string ⟨#[99]⟩] 9)) I0 ids1 2 rfl).mono (by
    rintro e w' ⟨a, c, rfl, ho, hb⟩
    exact ⟨a, c, rfl, Lib.hid ho, Lib.hid ((h.out.alloc _).step hb), Lib.hid ((str_new Q).below' hb)⟩))
  have D8 := fun (Q : World) (g m b k c : Nat) (a : Option Addr) (h : Hid (Sa w Q g m b)) (ho : Hid (Own Q (.slice a 2 c) I0)) (hs : Hid (Has strV Q (.slice (some ⟨k, 0, none⟩) 2 2) I0)) => (show Calls Tryd.prog 14 #[.slice a 2 c, .slice (some ⟨k, 0, none⟩) 2 2] Q fun e w' => e = .returned (.bool true) ∧ Hid (Sa w w' g m b) from (same_any ho.out.has hs.out (by decide)).mono (fun e w' hh => ⟨hh.1.trans (by rw [decide_eq_true rfl]), Lib.hid (h.out.step hh.2)⟩))
  go_enter Tryd.func10, Tryd.ntmps10
  go_wp2_with (first
    | (go_at_call 11; (with_reducible refine hP.mono ?_); rintro e w1 ⟨g, c, rfl, hb1, hf1⟩; clear hP; have cB := HP2.out w1 g hb1 hf1; clear HP2 hb1 hf1)
    | (go_at_call 11; (with_reducible refine cB.mono ?_); rintro e w2 ⟨m, c2, rfl, st⟩; clear cB))
  obtain ⟨W3, hW3⟩ : ∃ W3, w2.alloc (.cells #[.string ⟨#[74, 46, 32, 68]⟩, .string ⟨#[107, 32, 108]⟩, .string ⟨#[91, 49, 46, 50, 93]⟩] 34) = W3 := ⟨_, rfl⟩
  rw [hW3] at st ⊢
  replace st : Hid (Sa w W3.drew g m w2.heap.size) := Lib.hid ⟨st.out.bel.drew, st.out.al, st.out.am, st.out.bx⟩
  clear hW3
  generalize w2.heap.size = b at st ⊢
  have C1d : Calls Tryd.prog 13 #[.slice (some ⟨g, 0, none⟩) 3 c, .slice (some ⟨W3.heap.size, 0, none⟩) 3 3] (W3.alloc (.cells #[.string ⟨#[]⟩, .string ⟨#[97]⟩, .string ⟨#[98]⟩, .string ⟨#[120, 32, 121]⟩, .string ⟨#[99, 46, 100]⟩, .string ⟨#[69]⟩, .string ⟨#[74, 46, 32, 68]⟩, .string ⟨#[107, 32, 108]⟩, .string ⟨#[91, 49, 46, 50, 93]⟩] 34)).drew fun e w' => e = .returned (.bool true) ∧ Hid (Sa w w' g m b) := C1 W3.drew g m b c st
  clear C1
  go_region_held3 (fun Q => Hid (Sa w Q g m b) ∧ Q.cell? ⟨b, 0, none⟩ = some (.string ⟨#[74, 46, 32, 68]⟩) ∧ Q.cell? ⟨b, 1, none⟩ = some (.string ⟨#[107, 32, 108]⟩) ∧ Q.cell? ⟨b, 2, none⟩ = some (.string ⟨#[91, 49, 46, 50, 93]⟩) ∧ Q.cell? ⟨g, 0, none⟩ = some (.string ⟨#[]⟩) ∧ Q.cell? ⟨g, 1, none⟩ = some (.string ⟨#[97]⟩) ∧ Q.cell? ⟨g, 2, none⟩ = some (.string ⟨#[98]⟩) ∧ Q.cell? ⟨g, 3, none⟩ = some (.string ⟨#[120, 32, 121]⟩) ∧ Q.cell? ⟨g, 4, none⟩ = some (.string ⟨#[99, 46, 100]⟩) ∧ Q.cell? ⟨g, 5, none⟩ = some (.string ⟨#[69]⟩))
    (first | exact st.out.all | exact Sa.all (Hid.out (by assumption)) | exact Sa.all (Sa.alloc (Hid.out (by assumption)) _) | exact Sa.all (Sa.alloc st.out _) | exact Sa.all (Sa.step (Sa.alloc st.out _) (drew_below _ 0)))
    (first
      | (go_at_call 13; (with_reducible refine C1d.mono ?_); rintro e v1 ⟨rfl, hs1⟩; clear C1d)
      | (go_at_call 13; (with_reducible refine (C2 _ _ _ _ _ (by first | assumption | exact st)).mono ?_); rintro e v2 ⟨rfl, hs2⟩; clear C2)
      | (go_at_call 20; (with_reducible refine (C3 _ _ _ _ (by assumption)).mono ?_); rintro e v3 ⟨rfl, hs3⟩; clear C3)
      | (go_at_call 22; (with_reducible refine (C4 _ _ _ _ (by assumption)).mono ?_); rintro e v4 ⟨rfl, hs4⟩; clear C4)
      | (go_at_call 18; (with_reducible refine (C5 _ _ _ _ (by assumption)).mono ?_); rintro e v5 ⟨rfl, hs5⟩; clear C5)
      | (go_at_call 18; (with_reducible refine (C6 _ _ _ _ (by assumption)).mono ?_); rintro e v6 ⟨rfl, hs6⟩; clear C6)
      | (go_at_call 15; (with_reducible refine (C7 v6 g m b hs6).mono ?_); intro e v7 hh; obtain ⟨a7, c7, he7, ho7, hs7⟩ := hh; subst he7; clear C7 D7 D8)
      | (go_at_call 15; (with_reducible refine (D7 v6 g m b hs6).mono ?_); intro e v7 hh; obtain ⟨a7, c7, he7, ho7, hs7, hx7⟩ := hh; subst he7; clear C7 D7 C8)
      | (go_at_call 14; (with_reducible refine (C8 v7 g m b c7 a7 hs7 ho7).mono ?_); intro e v8 hh; obtain ⟨he8, hs8⟩ := hh; subst he8; clear C8)
      | (go_at_call 14; (with_reducible refine (D8 v7 g m b _ c7 a7 hs7 ho7 hx7).mono ?_); intro e v8 hh; obtain ⟨he8, hs8⟩ := hh; subst he8; clear D8))
  all_goals go_wp2_with fail
  all_goals go_ret
  all_goals exact ⟨rfl, hs8.out.bel⟩
end Go.Proofs.YtgponokcigapaaaDoor
