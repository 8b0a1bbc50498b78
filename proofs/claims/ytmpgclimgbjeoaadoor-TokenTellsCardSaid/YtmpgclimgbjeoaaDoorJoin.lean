/- Join: the texts of the tokens in a row; Bare: the tokens that are neither white space nor comments. -/
import Derived.Test.YtmpgclimgbjeoaaDoorScan
import Derived.RangeFuncRecord
namespace Go.Proofs.YtmpgclimgbjeoaaDoor
open Go.ChangeShapes Go.WideShapes Go.ChangeAt Go.RowKit
open TokP

theorem join_step (l : List Tok) (k : Nat) (f : Tok) (h : l[k]? = some f) : joinL (l.take (k + 1)) = joinL (l.take k) ++ f.text := by
  unfold joinL
  rw [List.take_add_one, h]; simp
theorem join_le (l : List Tok) (k : Nat) : (joinL (l.take k)).length ≤ (joinL l).length := by
  have : joinL l = joinL (l.take k) ++ joinL (l.drop k) := by unfold joinL; rw [← List.flatten_append, ← List.map_append, List.take_append_drop]
  rw [this, List.length_append]; omega
theorem text_le (l : List Tok) (k : Nat) (f : Tok) (h : l[k]? = some f) : (joinL (l.take k)).length + f.text.length ≤ (joinL l).length := by
  rw [← List.length_append, ← join_step l k f h]; exact join_le l (k + 1)
theorem bd_first (w : World) : Bd (w.alloc (.cells #[.pointer none, .slice none 0 0] 41)) w.heap.size [] := bd_new (World.alloc_heap_new w _)
set_option maxRecDepth 100000 in
set_option maxHeartbeats 2000000 in
theorem join_any (v : Value) (l : List Tok) (w : World) (h : HasF w v l) (hl : (joinL l).length ≤ 1000000) (hn : l.length ≤ 1000000) :
    Calls Tryd.prog 14 #[v] w fun e w' => e = .returned (.string (strL (joinL l))) ∧ Below w.heap.size w w' := by
  rcases h with ⟨rfl, rfl⟩ | ⟨g, o, c, rfl, h⟩
  · have b0 := bd_first w
    have hO := bd_out _ _ _ b0
    have hb0 := (Below.refl w.heap.size w).alloc (Nat.le_refl _) (.cells #[.pointer none, .slice none 0 0] 41)
    clear hl hn b0
    go_enter Tryd.func14, Tryd.ntmps14
    go_wp2_with fail
    go_loopw [8] (fun i wr => i = .int .i64 0 ∧ wr = w.alloc (.cells #[.pointer none, .slice none 0 0] 41)) (fun _ _ => 0)
    case atStart => exact ⟨rfl, rfl⟩
    case round =>
      obtain ⟨rfl, rfl⟩ := hrel
      go_wp2_with (go_at_call 24; refine hO.mono ?_; rintro e w3 ⟨rfl, hb3⟩)
      go_ret
      exact ⟨rfl, hb0.trans hb3⟩
  · obtain ⟨n, hnn⟩ : ∃ n, l.length = n := ⟨_, rfl⟩
    rw [hnn] at hn ⊢
    have HN := Lib.hid hnn
    have HL := Lib.hid hl
    clear hnn hl
    have HST := Lib.hid (show Bd (w.alloc (.cells #[.pointer none, .slice none 0 0] 41)) w.heap.size [] ∧ Below w.heap.size w (w.alloc (.cells #[.pointer none, .slice none 0 0] 41)) from ⟨bd_first w, (Below.refl _ w).alloc (Nat.le_refl _) _⟩)
    have H := Lib.hid h
    clear h
    go_enter Tryd.func14, Tryd.ntmps14
    go_wp2_with fail
    go_loopw [8] (fun i wr => ∃ k : Nat, k ≤ n ∧ i = .int .i64 k ∧ Hid (Bd wr w.heap.size (joinL (l.take k)) ∧ Below w.heap.size w wr)) (fun i _ => n - (intOf i).toNat)
    case atStart => exact ⟨0, Nat.zero_le _, rfl, HST⟩
    case round =>
      obtain ⟨k, hk, rfl, hst⟩ := hrel
      have F1 : IntKind.i64.wrap ((k : Int) + 1) = (k : Int) + 1 := by rw [IntKind.wrap_i64]; omega
      by_cases hlt : k < n
      · have hlt' : (k : Int) < (n : Int) := by omega
        have hkl : k < l.length := by rw [HN.out]; exact hlt
        obtain ⟨f, hf⟩ : ∃ f, l[k]? = some f := ⟨_, List.getElem?_eq_getElem hkl⟩
        obtain ⟨k0, k1⟩ := H.out.step hst.out.2 k f hf
        have hrl := text_le l k f hf
        have hL := HL.out
        have HR := Lib.hid (join_step l k f hf)
        have hbd := hst.out.1.alloc (.cells #[.int .i64 (f.kind : Nat), .string (strL f.text)] 23)
        have hwz := hst.out.2.size
        have hW := bd_str (strL f.text) _ _ _ hbd (by rw [strL_size]; omega)
        rw [strL_list] at hW
        have hb1 := hst.out.2.alloc hwz (.cells #[.int .i64 (f.kind : Nat), .string (strL f.text)] 23)
        clear hf hrl hL hkl
        go_wp2_with (go_at_call 23; refine hW.mono ?_; rintro e w3 ⟨rfl, hbd3, hb3⟩)
        go_roundw
        case rel => exact ⟨k + 1, by omega, by go_num, Lib.hid ⟨by rw [HR.out]; exact hbd3, hb1.trans hb3⟩⟩
        case measure => simp [intOf]; omega
      · obtain rfl : k = n := by omega
        have hT : l.take k = l := List.take_of_length_le (by rw [HN.out]; exact Nat.le_refl _)
        have hbd := hst.out.1
        rw [hT] at hbd
        have hO := bd_out _ _ _ hbd
        have hB := Lib.hid hst.out.2
        clear hbd hT
        go_wp2_with (go_at_call 24; refine hO.mono ?_; rintro e w3 ⟨rfl, hb3⟩)
        go_ret
        exact ⟨rfl, hB.out.trans hb3⟩
end Go.Proofs.YtmpgclimgbjeoaaDoor
