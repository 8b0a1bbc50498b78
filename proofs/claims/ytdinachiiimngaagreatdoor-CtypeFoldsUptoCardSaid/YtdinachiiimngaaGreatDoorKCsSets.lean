/- The map of character sets that charset.decoders makes, and a name in lower case. -/
import Derived.Test.YtdinachiiimngaaGreatDoorKCsMaps
import Derived.Test.YtdinachiiimngaaGreatDoorK9
namespace Go.Proofs.YtdinachiiimngaaGreatDoor.Cs
open Go.ChangeShapes Go.WideShapes Go.ChangeAt Go.RowKit

def repV : Value := .func (.func 25) #[] #[]
def key0 : ByteArray := ⟨#[117, 115, 45, 97, 115, 99, 105, 105]⟩
def key1 : ByteArray := ⟨#[97, 115, 99, 105, 105]⟩
def key2 : ByteArray := ⟨#[117, 116, 102, 45, 56]⟩
def key3 : ByteArray := ⟨#[117, 116, 102, 56]⟩
def key4 : ByteArray := ⟨#[105, 115, 111, 45, 56, 56, 53, 57, 45, 49]⟩
def key5 : ByteArray := ⟨#[108, 97, 116, 105, 110, 49]⟩
def key6 : ByteArray := ⟨#[119, 105, 110, 100, 111, 119, 115, 45, 49, 50, 53, 50]⟩
def key7 : ByteArray := ⟨#[99, 112, 49, 50, 53, 50]⟩
/-- The entries: the names, with the functions that decode. -/
def setE (B : Nat) : Array MapEntry :=
  #[{ key := .string key0, val := decV B, born := 0 }, { key := .string key1, val := decV B, born := 1 }, { key := .string key2, val := repV, born := 2 }, { key := .string key3, val := repV, born := 3 }, { key := .string key4, val := decV (B + 1), born := 4 }, { key := .string key5, val := decV (B + 1), born := 5 }, { key := .string key6, val := decV (B + 2), born := 6 }, { key := .string key7, val := decV (B + 2), born := 7 }]
/-- The map lies three blocks behind the first of the captured variables. -/
structure SetsAt (B : Nat) (w : World) : Prop where
  c0 : w.cell? ⟨B, 0, none⟩ = some (.func (.func 183) #[] #[])
  c1 : w.cell? ⟨B + 1, 0, none⟩ = some (.func (.func 184) #[] #[])
  c2 : w.cell? ⟨B + 2, 0, none⟩ = some (.func (.func 185) #[] #[])
  m : w.heap[B + 3]? = some (.map (setE B) 8)
theorem SetsAt.lt {B : Nat} {w : World} (h : SetsAt B w) : B + 3 < w.heap.size := (Array.getElem?_eq_some_iff.1 h.m).1
theorem SetsAt.below {B : Nat} {w w' : World} (h : SetsAt B w) (hb : Below w.heap.size w w') : SetsAt B w' := by
  have hl := h.lt
  refine ⟨?_, ?_, ?_, ?_⟩
  · rw [hb.cell (p := ⟨B, 0, none⟩) (by simp only; omega)]; exact h.c0
  · rw [hb.cell (p := ⟨B + 1, 0, none⟩) (by simp only; omega)]; exact h.c1
  · rw [hb.cell (p := ⟨B + 2, 0, none⟩) (by simp only; omega)]; exact h.c2
  · rw [hb.block (B + 3) hl]; exact h.m

set_option maxHeartbeats 4000000 in
set_option maxRecDepth 1000000 in
theorem decoders_any (w : World) :
    Calls Tryz.prog 152 #[] w fun e w' => e = .returned (.map (some (w.heap.size + 3))) ∧ SetsAt w.heap.size w' ∧ Below w.heap.size w w' := by
  have hmm := @run_makeMap Tryz.prog
  obtain ⟨W3, hW3⟩ : ∃ W3, ((w.alloc (.cells #[.func (.func 183) #[] #[]] 169)).alloc (.cells #[.func (.func 184) #[] #[]] 169)).alloc (.cells #[.func (.func 185) #[] #[]] 169) = W3 := ⟨_, rfl⟩
  have hs3 : W3.heap.size = w.heap.size + 3 := by rw [← hW3]; simp
  have hb3 : Below w.heap.size w W3 := by
    rw [← hW3]
    exact (((Below.refl _ w).alloc (Nat.le_refl _) _).alloc (by simp) _).alloc (by simp; omega) _
  have g0 : W3.heap[w.heap.size]? = some (.cells #[.func (.func 183) #[] #[]] 169 (0, 0)) := by
    rw [← hW3, Below.heap_alloc _ _ _ (by simp; omega), Below.heap_alloc _ _ _ (by simp)]; exact Go.heap_alloc_new _ _
  have g1 : W3.heap[w.heap.size + 1]? = some (.cells #[.func (.func 184) #[] #[]] 169 (0, 0)) := by
    rw [← hW3, Below.heap_alloc _ _ _ (by simp)]
    have := Go.heap_alloc_new (w.alloc (.cells #[.func (.func 183) #[] #[]] 169)) (.cells #[.func (.func 184) #[] #[]] 169)
    simpa using this
  have g2 : W3.heap[w.heap.size + 2]? = some (.cells #[.func (.func 185) #[] #[]] 169 (0, 0)) := by
    rw [← hW3]
    have := Go.heap_alloc_new ((w.alloc (.cells #[.func (.func 183) #[] #[]] 169)).alloc (.cells #[.func (.func 184) #[] #[]] 169)) (.cells #[.func (.func 185) #[] #[]] 169)
    simpa using this
  have h0 : (W3.alloc (.map #[] 0)).heap[w.heap.size + 3]? = some (.map #[] 0) := by
    have := Go.heap_alloc_new W3 (.map #[] 0)
    rw [hs3] at this
    exact this
  go_enter Tryz.func152, Tryz.ntmps152
  go_upto_region 1 with fail
  go_wp2_with (first
    | (go_at_call 182; refine (make_any _ _).mono ?_; rintro e w1 ⟨rfl, rfl⟩)
    | (refine wpList_insert (w := (W3.alloc (.map #[] 0))) rfl (.tmp 7) (.const (.string key0)) _ 149 rfl 9 43 Tryz.underlying149 Tryz.underlying9 (w.heap.size + 3) _ 0 h0 rfl key0 _ rfl rfl rfl ?_; intro w1 h1 b1)
    | (refine wpList_insert (w := w1) rfl (.tmp 7) (.const (.string key1)) _ 149 rfl 9 43 Tryz.underlying149 Tryz.underlying9 (w.heap.size + 3) _ 1 h1 rfl key1 _ rfl rfl rfl ?_; intro w2 h2 b2)
    | (refine wpList_insert (w := w2) rfl (.tmp 7) (.const (.string key2)) _ 149 rfl 9 43 Tryz.underlying149 Tryz.underlying9 (w.heap.size + 3) _ 2 h2 rfl key2 _ rfl rfl rfl ?_; intro w3 h3 b3)
    | (refine wpList_insert (w := w3) rfl (.tmp 7) (.const (.string key3)) _ 149 rfl 9 43 Tryz.underlying149 Tryz.underlying9 (w.heap.size + 3) _ 3 h3 rfl key3 _ rfl rfl rfl ?_; intro w4 h4 b4)
    | (refine wpList_insert (w := w4) rfl (.tmp 7) (.const (.string key4)) _ 149 rfl 9 43 Tryz.underlying149 Tryz.underlying9 (w.heap.size + 3) _ 4 h4 rfl key4 _ rfl rfl rfl ?_; intro w5 h5 b5)
    | (refine wpList_insert (w := w5) rfl (.tmp 7) (.const (.string key5)) _ 149 rfl 9 43 Tryz.underlying149 Tryz.underlying9 (w.heap.size + 3) _ 5 h5 rfl key5 _ rfl rfl rfl ?_; intro w6 h6 b6)
    | (refine wpList_insert (w := w6) rfl (.tmp 7) (.const (.string key6)) _ 149 rfl 9 43 Tryz.underlying149 Tryz.underlying9 (w.heap.size + 3) _ 6 h6 rfl key6 _ rfl rfl rfl ?_; intro w7 h7 b7)
    | (refine wpList_insert (w := w7) rfl (.tmp 7) (.const (.string key7)) _ 149 rfl 9 43 Tryz.underlying149 Tryz.underlying9 (w.heap.size + 3) _ 7 h7 rfl key7 _ rfl rfl rfl ?_; intro w8 h8 b8))
  go_ret
  have hall := ((((((b1.trans b2).trans b3).trans b4).trans b5).trans b6).trans b7).trans b8
  have hl1 : (W3.alloc (.map #[] 0)).heap.size = w.heap.size + 4 := by simp; omega
  have k0 := hall.block w.heap.size (by omega)
  have k1 := hall.block (w.heap.size + 1) (by omega)
  have k2 := hall.block (w.heap.size + 2) (by omega)
  rw [Below.heap_alloc _ _ _ (by omega)] at k0 k1 k2
  refine ⟨rfl, ⟨?_, ?_, ?_, h8⟩, (hb3.alloc (by omega) (.map #[] 0)).trans (hall.mono (by omega))⟩
  · simp [World.cell?, k0, g0]
  · simp [World.cell?, k1, g1]
  · simp [World.cell?, k2, g2]

/-- The closure of lower: ASCII letters alone change. -/
theorem low_step (x : Nat) (hx : x ≤ 1114111) (w : World) :
    Calls Tryz.prog 186 #[.int .i32 (x : Int)] w fun e w' => e = .returned (.int .i32 (lowZ x)) ∧ w = w' := by
  unfold lowZ
  by_cases h1 : (65 : Int) ≤ (x : Int)
  · by_cases h2 : (x : Int) ≤ 90
    · rw [if_pos ⟨h1, h2⟩]
      go_enter Tryz.func186, Tryz.ntmps186
      go_wp2
      go_ret
      exact ⟨rfl, rfl⟩
    · rw [if_neg (by omega)]
      go_enter Tryz.func186, Tryz.ntmps186
      go_wp2
      go_ret
      exact ⟨rfl, rfl⟩
  · rw [if_neg (by omega)]
    go_enter Tryz.func186, Tryz.ntmps186
    go_wp2
    go_ret
    exact ⟨rfl, rfl⟩
theorem lower_any (s : ByteArray) (hs : s.size ≤ 4000000) (w : World) (hv : Vars w) :
    Calls Tryz.prog 153 #[.string s] w fun e w' => e = .returned (.string ⟨(Lib.mapD lowZ s.data.toList).toArray⟩) ∧ Below w.heap.size w w' := by
  have hT := Tryz.strings_Map_runes 186 #[] (enters_of Tryz.func186 (by kernel_rfl) rfl) lowZ s w (by omega) (fun W x hx _ => (low_step x hx W).mono fun e w' h => ⟨h.1, 0, by rw [← h.2]; rfl⟩) (fun x hx => by unfold lowZ; split <;> omega) hv.tabs
  generalize Lib.mapD lowZ s.data.toList = V at hT ⊢
  go_enter Tryz.func153, Tryz.ntmps153
  go_wp2_with (go_at_call 165; refine hT.mono ?_; rintro e w' ⟨rfl, hb⟩)
  go_ret
  exact ⟨rfl, hb⟩
end Go.Proofs.YtdinachiiimngaaGreatDoor.Cs
