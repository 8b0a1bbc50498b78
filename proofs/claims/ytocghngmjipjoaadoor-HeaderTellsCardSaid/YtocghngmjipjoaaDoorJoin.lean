/- Join: the raw bytes of the fields in a row. -/
import Derived.Test.YtocghngmjipjoaaDoorCalm
import Derived.Test.YtocghngmjipjoaaDoorOwn
import Derived.Test.YtocghngmjipjoaaDoorRead
namespace Go.Proofs.YtocghngmjipjoaaDoor
open Go.ChangeShapes Go.WideShapes Go.ChangeAt Go.RowKit
open LinesP HdrP

/-- All raw bytes. -/
def rawsL (l : List Fld) : List UInt8 := (l.map Fld.raw).flatten
theorem raws_step (l : List Fld) (k : Nat) (f : Fld) (h : l[k]? = some f) : rawsL (l.take (k + 1)) = rawsL (l.take k) ++ f.raw := by
  unfold rawsL
  rw [List.take_add_one, h]; simp
theorem raws_le (l : List Fld) (k : Nat) : (rawsL (l.take k)).length ≤ (rawsL l).length := by
  have : rawsL l = rawsL (l.take k) ++ rawsL (l.drop k) := by unfold rawsL; rw [← List.flatten_append, ← List.map_append, List.take_append_drop]
  rw [this, List.length_append]; omega
theorem raw_le (l : List Fld) (k : Nat) (f : Fld) (h : l[k]? = some f) : (rawsL (l.take k)).length + f.raw.length ≤ (rawsL l).length := by
  rw [← List.length_append, ← raws_step l k f h]; exact raws_le l (k + 1)
/-- The slice v reads as the fields l. -/
def HasF (w : World) (v : Value) (l : List Fld) : Prop := (v = .slice none 0 0 ∧ l = []) ∨ ∃ g o c, v = .slice (some ⟨g, o, none⟩) l.length c ∧ FAt w g o l
theorem OwnF.has {w : World} {v : Value} {l : List Fld} (h : OwnF w v l) : HasF w v l := by
  obtain ⟨b, ho⟩ := h
  rcases ho.2 with ⟨rfl, h0⟩ | ⟨g, cap, cur, rfl, hr⟩
  · exact .inl ⟨rfl, List.eq_nil_of_length_eq_zero h0⟩
  · refine .inr ⟨g, 0, cap, rfl, ?_⟩
    by_cases h0 : l = []
    · subst h0; intro i f hf; simp at hf
    · obtain ⟨g2, e, h2⟩ := OwnF.at (a := some ⟨g, 0, none⟩) (n := l.length) (c := cap) ⟨b, ho⟩ (List.length_pos_iff.2 h0)
      injection e with e
      injection e with e
      subst e
      exact h2
theorem HasF.step {w w' : World} {v : Value} {l : List Fld} (h : HasF w v l) (hb : Below w.heap.size w w') : HasF w' v l := by
  rcases h with h | ⟨g, o, c, e, h⟩
  · exact .inl h
  · exact .inr ⟨g, o, c, e, h.step hb⟩
set_option maxRecDepth 100000 in
set_option maxHeartbeats 4000000 in
theorem join_any (v : Value) (l : List Fld) (w : World) (h : HasF w v l) (hl : (rawsL l).length ≤ 1000000) (hn : l.length ≤ 1000000) :
    Calls Tryd.prog 15 #[v] w fun e w' => e = .returned (.string (strL (rawsL l))) ∧ Below w.heap.size w w' := by
  rcases h with ⟨rfl, rfl⟩ | ⟨g, o, c, rfl, h⟩
  · have b0 := bd_new w
    have hO := bd_out _ _ _ b0
    have hb0 := (Below.refl w.heap.size w).alloc (Nat.le_refl _) (.cells #[.pointer none, .slice none 0 0] 55)
    clear hl hn b0
    go_enter Tryd.func15, Tryd.ntmps15
    go_wp2_with fail
    go_loopw [8] (fun i wr => i = .int .i64 0 ∧ wr = w.alloc (.cells #[.pointer none, .slice none 0 0] 55)) (fun _ _ => 0)
    case atStart => exact ⟨rfl, rfl⟩
    case round =>
      obtain ⟨rfl, rfl⟩ := hrel
      go_wp2_with (go_at_call 40; refine hO.mono ?_; rintro e w3 ⟨rfl, hb3, _⟩)
      go_ret
      exact ⟨rfl, hb0.trans hb3⟩
  · obtain ⟨n, hnn⟩ : ∃ n, l.length = n := ⟨_, rfl⟩
    rw [hnn] at hn ⊢
    have HN := Lib.hid hnn
    have HL := Lib.hid hl
    clear hnn hl
    have b0 := bd_new w
    have hst : Bd (w.alloc (.cells #[.pointer none, .slice none 0 0] 55)) w.heap.size [] ∧ Below w.heap.size w (w.alloc (.cells #[.pointer none, .slice none 0 0] 55)) := ⟨b0, (Below.refl _ w).alloc (Nat.le_refl _) _⟩
    have HST := Lib.hid hst
    have H := Lib.hid h
    clear hst b0 h
    go_enter Tryd.func15, Tryd.ntmps15
    go_wp2_with fail
    go_loopw [8] (fun i wr => ∃ k : Nat, k ≤ n ∧ i = .int .i64 k ∧ Hid (Bd wr w.heap.size (rawsL (l.take k)) ∧ Below w.heap.size w wr)) (fun i _ => n - (intOf i).toNat)
    case atStart => exact ⟨0, Nat.zero_le _, rfl, HST⟩
    case round =>
      obtain ⟨k, hk, rfl, hst⟩ := hrel
      have F1 : IntKind.i64.wrap ((k : Int) + 1) = (k : Int) + 1 := by rw [IntKind.wrap_i64]; omega
      by_cases hlt : k < n
      · have hlt' : (k : Int) < (n : Int) := by omega
        have hkl : k < l.length := by rw [HN.out]; exact hlt
        obtain ⟨f, hf⟩ : ∃ f, l[k]? = some f := ⟨_, List.getElem?_eq_getElem hkl⟩
        obtain ⟨k0, k1, k2, k3⟩ := H.out.step hst.out.2 k f hf
        have hrl := raw_le l k f hf
        have hL := HL.out
        have HR := Lib.hid (raws_step l k f hf)
        have hbd := hst.out.1.alloc (.cells #[.string (strL f.name), .string (strL f.value), .string (strL f.raw), .bool f.bad] 38)
        have hwz := hst.out.2.size
        have hW := bd_str (strL f.raw) _ _ _ hbd (by rw [strL_size]; omega)
        rw [strL_list] at hW
        have hb1 := hst.out.2.alloc hwz (.cells #[.string (strL f.name), .string (strL f.value), .string (strL f.raw), .bool f.bad] 38)
        clear hf hrl hL hkl
        go_wp2_with (go_at_call 39; refine hW.mono ?_; rintro e w3 ⟨rfl, hbd3, hb3, hk3⟩)
        go_roundw
        case rel => exact ⟨k + 1, by omega, by go_num, Lib.hid ⟨by rw [HR.out]; exact hbd3, hb1.trans hb3⟩⟩
        case measure => simp [intOf]; omega
      · obtain rfl : k = n := by omega
        have hT : l.take k = l := List.take_of_length_le (by rw [HN.out]; exact Nat.le_refl _)
        have hbd := hst.out.1
        rw [hT] at hbd
        have hO := bd_out _ _ _ hbd
        have hB := Lib.hid hst.out.2
        clear hbd hT
        go_wp2_with (go_at_call 40; refine hO.mono ?_; rintro e w3 ⟨rfl, hb3, _⟩)
        go_ret
        exact ⟨rfl, hB.out.trans hb3⟩
end Go.Proofs.YtocghngmjipjoaaDoor
