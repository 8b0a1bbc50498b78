/- Arguments opened: slices of addresses, of strings; an address. -/
import Derived.Test.YtgponokcigapaaaDoorKAIdsL
import Derived.Test.YtgponokcigapaaaDoorK8
import Derived.SliceStrings
import Derived.JoinedCond
import Derived.Carry
import Derived.Lib.LaidU8
namespace Go.Proofs.YtgponokcigapaaaDoor
open Go.ChangeShapes Go.WideShapes Go.ChangeAt Go.RowKit
open Go.ChangeMaps (open_string shut_string)
open TokP AdrP

theorem cells9 : Tryd.prog.cellsOf 9 = 1 := by kernel_rfl
theorem cells34 : Tryd.prog.cellsOf 34 = 3 := by kernel_rfl
theorem strs_has {H : Type} {enc : TypeId × Value → H} {W : World} {fuel : Nat} {v : Value} {x : DataW H × List MemPlace} (h : DataW.trod enc Tryd.prog W 0 (fun _ => true) true fuel 28 [v] = some x) : ∃ xs, Has strV W v xs ∧ xs.length ≤ maxLen := by
  rcases open_strings Tryd.underlying28 Tryd.underlying9 cells9 h with ⟨hcs, hx⟩ | ⟨a, len, cap, ss, hcs, hc1, hl, hm, hz, hx, hcell, hsz⟩
  · simp only [List.cons.injEq, and_true] at hcs
    exact ⟨[], Or.inl ⟨hcs, rfl⟩, Nat.zero_le _⟩
  · simp only [List.cons.injEq, and_true] at hcs
    simp only [if_true] at hz
    have hlen : (ss.take len).length = len := by rw [List.length_take]; omega
    refine ⟨(ss.take len).map fun s => s.data.toList, Or.inr ⟨a, cap, ?_, ?_⟩, ?_⟩
    · rw [hcs, List.length_map, hlen]
    · intro j hj
      rw [List.length_map, hlen] at hj
      have hc := hcell j (by omega)
      rw [hc, List.getElem_map, List.getElem_take]
      have : ss.getD j ByteArray.empty = ss[j]'(by omega) := by
        rw [List.getD, List.getElem?_eq_getElem (by omega)]; rfl
      rw [this]; rfl
    · rw [List.length_map, hlen]; omega
set_option maxRecDepth 100000 in
/-- A struct of three strings that is read. -/
theorem adr_cells {H : Type} {enc : TypeId × Value → H} {w : World} {base : Nat} {sp : Nat → Bool} {held : Bool} {fuel : Nat} {cs : List Value} {x : DataW H × List MemPlace}
    (h : DataW.trod enc Tryd.prog w base sp held fuel 34 cs = some x) : ∃ f : Adr, cs = adrV f := by
  obtain ⟨xs, n, rfl, hx, hl, hxl, hall⟩ := DataW.trod_struct Tryd.underlying34 h
  rw [cells34] at hl
  obtain ⟨x0, x1, x2, rfl⟩ : ∃ x0 x1 x2, xs = [x0, x1, x2] := by
    match xs, hxl with
    | [x0, x1, x2], _ => exact ⟨x0, x1, x2, rfl⟩
  obtain ⟨c0, c1, c2, rfl⟩ : ∃ c0 c1 c2, cs = [c0, c1, c2] := by
    match cs, hl with
    | [c0, c1, c2], _ => exact ⟨c0, c1, c2, rfl⟩
  have f0 := hall 0 _ rfl
  have f1 := hall 1 _ rfl
  have f2 := hall 2 _ rfl
  change DataW.trod _ _ _ _ _ _ _ 9 (([c0, c1, c2].drop 0).take (Tryd.prog.cellsOf 9)) = some x0 at f0
  change DataW.trod _ _ _ _ _ _ _ 9 (([c0, c1, c2].drop 1).take (Tryd.prog.cellsOf 9)) = some x1 at f1
  change DataW.trod _ _ _ _ _ _ _ 9 (([c0, c1, c2].drop 2).take (Tryd.prog.cellsOf 9)) = some x2 at f2
  rw [cells9] at f0 f1 f2
  obtain ⟨s0, h0, _⟩ := DataW.trod_string Tryd.underlying9 f0
  obtain ⟨s1, h1, _⟩ := DataW.trod_string Tryd.underlying9 f1
  obtain ⟨s2, h2, _⟩ := DataW.trod_string Tryd.underlying9 f2
  have e0 : c0 = .string s0 := by simpa using h0
  have e1 : c1 = .string s1 := by simpa using h1
  have e2 : c2 = .string s2 := by simpa using h2
  refine ⟨⟨s0.data.toList, s1.data.toList, s2.data.toList⟩, ?_⟩
  show _ = [Value.string (strL s0.data.toList), .string (strL s1.data.toList), .string (strL s2.data.toList)]
  rw [strL_of, strL_of, strL_of, e0, e1, e2]
/-- A slice of addresses that is read. -/
theorem adrs_has {H : Type} {enc : TypeId × Value → H} {W : World} {fuel : Nat} {v : Value} {x : DataW H × List MemPlace} (h : DataW.trod enc Tryd.prog W 0 (fun _ => true) true fuel 23 [v] = some x) : ∃ l, HasA W v l ∧ l.length ≤ maxLen := by
  rcases DataW.trod_slice Tryd.underlying23 h with ⟨hcs, _⟩ | ⟨a, len, cap, el, rs, m, rfl, hcs, hx, _, hlc, hcm, hel, helem, _, _⟩
  · simp only [List.cons.injEq, and_true] at hcs
    exact ⟨[], .inl ⟨⟨none, 0, hcs⟩, rfl⟩, Nat.zero_le _⟩
  · simp only [List.cons.injEq, and_true] at hcs
    have hrow : ∀ i, i < len → ∃ f : Adr, ∀ j, j < 3 → W.cell? ((a.add (i * 3)).add j) = (adrV f)[j]? := by
      intro i hi
      have h1 := helem i hi
      rw [cells34] at h1
      obtain ⟨b, hb⟩ : ∃ b, el[i]? = some b := ⟨el[i]'(by omega), List.getElem?_eq_getElem (by omega)⟩
      rw [hb] at h1
      obtain ⟨ce, hce, hte⟩ := Option.bind_eq_some_iff.1 h1
      obtain ⟨f, hf⟩ := adr_cells hte
      obtain ⟨_, _, hcc⟩ := World.cells?_some hce
      exact ⟨f, fun j hj => by rw [hcc j hj, hf]⟩
    by_cases h0 : len = 0
    · subst h0
      exact ⟨[], .inl ⟨⟨some a, cap, hcs⟩, rfl⟩, Nat.zero_le _⟩
    · obtain ⟨R, oR, sR⟩ := a
      obtain rfl : sR = none := by
        obtain ⟨f, hf⟩ := hrow 0 (by omega)
        have h00 := hf 0 (by decide)
        have : (Addr.add (Addr.add ⟨R, oR, sR⟩ (0 * 3)) 0) = ⟨R, oR, sR⟩ := by simp [Addr.add]
        rw [this] at h00
        exact cell_spot h00
      have hch : ∃ l : List Adr, l.length = len ∧ ∀ i f, l[i]? = some f → ∀ j, j < 3 → W.cell? ⟨R, oR + i * 3 + j, none⟩ = (adrV f)[j]? := by
        have key : ∀ n, n ≤ len → ∃ l : List Adr, l.length = n ∧ ∀ i f, l[i]? = some f → ∀ j, j < 3 → W.cell? ⟨R, oR + i * 3 + j, none⟩ = (adrV f)[j]? := by
          intro n
          induction n with
          | zero => exact fun _ => ⟨[], rfl, fun i f h => by simp at h⟩
          | succ n ih =>
            intro hn
            obtain ⟨l, hl, hk⟩ := ih (by omega)
            obtain ⟨f, hf⟩ := hrow n (by omega)
            refine ⟨l ++ [f], by rw [List.length_append, hl]; rfl, fun i g hg j hj => ?_⟩
            by_cases hi : i < n
            · rw [List.getElem?_append_left (by omega)] at hg
              exact hk i g hg j hj
            · have : i = n := by
                have := (List.getElem?_eq_some_iff.1 hg).1
                rw [List.length_append, hl, List.length_singleton] at this
                omega
              subst this
              obtain rfl : f = g := by
                rw [List.getElem?_append_right (by omega), hl] at hg
                simpa using hg
              have := hf j hj
              rw [Addr.add_lit, Addr.add_lit] at this
              exact this
        exact key len (Nat.le_refl _)
      obtain ⟨l, hl, hk⟩ := hch
      refine ⟨l, .inr ⟨R, oR, cap, by rw [hcs, hl], fun i f hf => ⟨hk i f hf 0 (by decide), hk i f hf 1 (by decide), hk i f hf 2 (by decide)⟩⟩, by omega⟩
end Go.Proofs.YtgponokcigapaaaDoor
