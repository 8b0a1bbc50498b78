/- Arguments opened: slices of integers, of parameters. Of what bulk a slice of parameters is. -/
import Derived.Test.YtdinachiiimngaaGreatDoorKCtSecL
import Derived.Test.YtdinachiiimngaaGreatDoorKLaid
import Derived.SliceStrings
import Derived.JoinedCond
import Derived.Carry
namespace Go.Proofs.YtdinachiiimngaaGreatDoor
open Go.ChangeShapes Go.WideShapes Go.ChangeAt Go.RowKit
open Go.ChangeMaps (open_string shut_string)
open TokP AdrP CtP

theorem cells3 : Tryz.prog.cellsOf 3 = 1 := by kernel_rfl
theorem cells9 : Tryz.prog.cellsOf 9 = 1 := by kernel_rfl
theorem cells37 : Tryz.prog.cellsOf 37 = 2 := by kernel_rfl
def intC (x : Int) : List Value := [.int .i64 x]
def parC (p : List UInt8 × List UInt8) : List Value := [.string (strL p.1), .string (strL p.2)]
theorem int_cells {H : Type} {enc : TypeId × Value → H} {w : World} {base : Nat} {sp : Nat → Bool} {held : Bool} {fuel : Nat} {cs : List Value} {x : DataW H × List MemPlace}
    (h : DataW.trod enc Tryz.prog w base sp held fuel 3 cs = some x) : ∃ f : Int, cs = intC f := by
  obtain ⟨z, hz, _⟩ := DataW.trod_int Tryz.underlying3 h
  exact ⟨z, hz⟩
set_option maxRecDepth 100000 in
/-- A struct of two strings that is read. -/
theorem par_cells {H : Type} {enc : TypeId × Value → H} {w : World} {base : Nat} {sp : Nat → Bool} {held : Bool} {fuel : Nat} {cs : List Value} {x : DataW H × List MemPlace}
    (h : DataW.trod enc Tryz.prog w base sp held fuel 37 cs = some x) : ∃ f : List UInt8 × List UInt8, cs = parC f := by
  obtain ⟨xs, n, rfl, hx, hl, hxl, hall⟩ := DataW.trod_struct Tryz.underlying37 h
  rw [cells37] at hl
  obtain ⟨x0, x1, rfl⟩ : ∃ x0 x1, xs = [x0, x1] := by
    match xs, hxl with
    | [x0, x1], _ => exact ⟨x0, x1, rfl⟩
  obtain ⟨c0, c1, rfl⟩ : ∃ c0 c1, cs = [c0, c1] := by
    match cs, hl with
    | [c0, c1], _ => exact ⟨c0, c1, rfl⟩
  have f0 := hall 0 _ rfl
  have f1 := hall 1 _ rfl
  change DataW.trod _ _ _ _ _ _ _ 9 (([c0, c1].drop 0).take (Tryz.prog.cellsOf 9)) = some x0 at f0
  change DataW.trod _ _ _ _ _ _ _ 9 (([c0, c1].drop 1).take (Tryz.prog.cellsOf 9)) = some x1 at f1
  rw [cells9] at f0 f1
  obtain ⟨s0, h0, _⟩ := DataW.trod_string Tryz.underlying9 f0
  obtain ⟨s1, h1, _⟩ := DataW.trod_string Tryz.underlying9 f1
  have e0 : c0 = .string s0 := by simpa using h0
  have e1 : c1 = .string s1 := by simpa using h1
  refine ⟨(s0.data.toList, s1.data.toList), ?_⟩
  show _ = [Value.string (strL s0.data.toList), .string (strL s1.data.toList)]
  rw [strL_of, strL_of, e0, e1]
/-- A slice of integers that is read. -/
theorem ints_has {H : Type} {enc : TypeId × Value → H} {W : World} {fuel : Nat} {cs : List Value} {x : DataW H × List MemPlace} (h : DataW.trod enc Tryz.prog W 0 (fun _ => true) true fuel 41 cs = some x) : ∃ v l, cs = [v] ∧ HasI W v l ∧ l.length ≤ maxLen := by
  rcases DataW.trod_slice Tryz.underlying41 h with ⟨hcs, _⟩ | ⟨a, len, cap, el, rs, m, rfl, hcs, hx, _, hlc, hcm, hel, helem, _, _⟩
  · exact ⟨_, [], hcs, .inl ⟨⟨none, 0, rfl⟩, rfl⟩, Nat.zero_le _⟩
  · have hrow : ∀ i, i < len → ∃ f : Int, ∀ j, j < 1 → W.cell? ((a.add (i * 1)).add j) = (intC f)[j]? := by
      intro i hi
      have h1 := helem i hi
      rw [cells3] at h1
      obtain ⟨b, hb⟩ : ∃ b, el[i]? = some b := ⟨el[i]'(by omega), List.getElem?_eq_getElem (by omega)⟩
      rw [hb] at h1
      obtain ⟨ce, hce, hte⟩ := Option.bind_eq_some_iff.1 h1
      obtain ⟨f, hf⟩ := int_cells hte
      obtain ⟨_, _, hcc⟩ := World.cells?_some hce
      exact ⟨f, fun j hj => by rw [hcc j hj, hf]⟩
    by_cases h0 : len = 0
    · subst h0
      exact ⟨_, [], hcs, .inl ⟨⟨some a, cap, rfl⟩, rfl⟩, Nat.zero_le _⟩
    · obtain ⟨R, oR, sR⟩ := a
      obtain rfl : sR = none := by
        obtain ⟨f, hf⟩ := hrow 0 (by omega)
        have h00 := hf 0 (by decide)
        have : (Addr.add (Addr.add ⟨R, oR, sR⟩ (0 * 1)) 0) = ⟨R, oR, sR⟩ := by simp [Addr.add]
        rw [this] at h00
        exact cell_spot h00
      have hch : ∃ l : List (Int), l.length = len ∧ ∀ i f, l[i]? = some f → ∀ j, j < 1 → W.cell? ⟨R, oR + i * 1 + j, none⟩ = (intC f)[j]? := by
        have key : ∀ n, n ≤ len → ∃ l : List (Int), l.length = n ∧ ∀ i f, l[i]? = some f → ∀ j, j < 1 → W.cell? ⟨R, oR + i * 1 + j, none⟩ = (intC f)[j]? := by
          intro n
          induction n with
          | zero => exact fun _ => ⟨[], rfl, fun i f h => by simp at h⟩
          | succ n ih =>
            intro hn
            obtain ⟨l, hl, hk⟩ := ih (by omega)
            obtain ⟨f, hf⟩ := hrow n (by omega)
            refine ⟨l ++ [f], by rw [List.length_append, hl]; rfl, fun i g hg j hj => ?_⟩
            by_cases hi : i < n
            · rw [List.getElem?_append_left (by omega)] at hg
              exact hk i g hg j hj
            · have : i = n := by
                have := (List.getElem?_eq_some_iff.1 hg).1
                rw [List.length_append, hl, List.length_singleton] at this
                omega
              subst this
              obtain rfl : f = g := by
                rw [List.getElem?_append_right (by omega), hl] at hg
                simpa using hg
              have := hf j hj
              rw [Addr.add_lit, Addr.add_lit] at this
              exact this
        exact key len (Nat.le_refl _)
      obtain ⟨l, hl, hk⟩ := hch
      exact ⟨_, l, hcs, (hl ▸ .inr ⟨R, oR, cap, rfl, fun i f hf => by have := hk i f hf 0 (by decide); rw [Nat.mul_one] at this; exact this⟩), by omega⟩
/-- A slice of parameters that is read. -/
theorem pars_has {H : Type} {enc : TypeId × Value → H} {W : World} {fuel : Nat} {cs : List Value} {x : DataW H × List MemPlace} (h : DataW.trod enc Tryz.prog W 0 (fun _ => true) true fuel 24 cs = some x) : ∃ v l, cs = [v] ∧ HasP W v l ∧ l.length ≤ maxLen := by
  rcases DataW.trod_slice Tryz.underlying24 h with ⟨hcs, _⟩ | ⟨a, len, cap, el, rs, m, rfl, hcs, hx, _, hlc, hcm, hel, helem, _, _⟩
  · exact ⟨_, [], hcs, .inl ⟨⟨none, 0, rfl⟩, rfl⟩, Nat.zero_le _⟩
  · have hrow : ∀ i, i < len → ∃ f : List UInt8 × List UInt8, ∀ j, j < 2 → W.cell? ((a.add (i * 2)).add j) = (parC f)[j]? := by
      intro i hi
      have h1 := helem i hi
      rw [cells37] at h1
      obtain ⟨b, hb⟩ : ∃ b, el[i]? = some b := ⟨el[i]'(by omega), List.getElem?_eq_getElem (by omega)⟩
      rw [hb] at h1
      obtain ⟨ce, hce, hte⟩ := Option.bind_eq_some_iff.1 h1
      obtain ⟨f, hf⟩ := par_cells hte
      obtain ⟨_, _, hcc⟩ := World.cells?_some hce
      exact ⟨f, fun j hj => by rw [hcc j hj, hf]⟩
    by_cases h0 : len = 0
    · subst h0
      exact ⟨_, [], hcs, .inl ⟨⟨some a, cap, rfl⟩, rfl⟩, Nat.zero_le _⟩
    · obtain ⟨R, oR, sR⟩ := a
      obtain rfl : sR = none := by
        obtain ⟨f, hf⟩ := hrow 0 (by omega)
        have h00 := hf 0 (by decide)
        have : (Addr.add (Addr.add ⟨R, oR, sR⟩ (0 * 2)) 0) = ⟨R, oR, sR⟩ := by simp [Addr.add]
        rw [this] at h00
        exact cell_spot h00
      have hch : ∃ l : List (List UInt8 × List UInt8), l.length = len ∧ ∀ i f, l[i]? = some f → ∀ j, j < 2 → W.cell? ⟨R, oR + i * 2 + j, none⟩ = (parC f)[j]? := by
        have key : ∀ n, n ≤ len → ∃ l : List (List UInt8 × List UInt8), l.length = n ∧ ∀ i f, l[i]? = some f → ∀ j, j < 2 → W.cell? ⟨R, oR + i * 2 + j, none⟩ = (parC f)[j]? := by
          intro n
          induction n with
          | zero => exact fun _ => ⟨[], rfl, fun i f h => by simp at h⟩
          | succ n ih =>
            intro hn
            obtain ⟨l, hl, hk⟩ := ih (by omega)
            obtain ⟨f, hf⟩ := hrow n (by omega)
            refine ⟨l ++ [f], by rw [List.length_append, hl]; rfl, fun i g hg j hj => ?_⟩
            by_cases hi : i < n
            · rw [List.getElem?_append_left (by omega)] at hg
              exact hk i g hg j hj
            · have : i = n := by
                have := (List.getElem?_eq_some_iff.1 hg).1
                rw [List.length_append, hl, List.length_singleton] at this
                omega
              subst this
              obtain rfl : f = g := by
                rw [List.getElem?_append_right (by omega), hl] at hg
                simpa using hg
              have := hf j hj
              rw [Addr.add_lit, Addr.add_lit] at this
              exact this
        exact key len (Nat.le_refl _)
      obtain ⟨l, hl, hk⟩ := hch
      exact ⟨_, l, hcs, (hl ▸ .inr ⟨R, oR, cap, rfl, fun i f hf => ⟨hk i f hf 0 (by decide), hk i f hf 1 (by decide)⟩⟩), by omega⟩
end Go.Proofs.YtdinachiiimngaaGreatDoor
namespace Go.Proofs.YtdinachiiimngaaGreatDoor
open Go.ChangeShapes Go.WideShapes Go.ChangeAt Go.RowKit
open Go.ChangeMaps (open_string shut_string)
open TokP AdrP CtP

def lensP (p : List UInt8 × List UInt8) : Nat := p.1.length + p.2.length
theorem bulk_str {H : Type} (s : List UInt8) : Rows.uptoBulk (DataW.lit (H := H) (.string s)) = s.length + 1 := by rw [Rows.uptoBulk]
set_option maxRecDepth 100000 in
theorem par_bulk {H : Type} {enc : TypeId × Value → H} {w : World} {base : Nat} {sp : Nat → Bool} {held : Bool} {fuel : Nat} {cs : List Value} {x : DataW H × List MemPlace}
    (h : DataW.trod enc Tryz.prog w base sp held fuel 37 cs = some x) : ∃ f : List UInt8 × List UInt8, cs = parC f ∧ lensP f ≤ Rows.uptoBulk x.1 := by
  obtain ⟨xs, n, rfl, hx, hl, hxl, hall⟩ := DataW.trod_struct Tryz.underlying37 h
  rw [cells37] at hl
  obtain ⟨x0, x1, rfl⟩ : ∃ x0 x1, xs = [x0, x1] := by
    match xs, hxl with
    | [x0, x1], _ => exact ⟨x0, x1, rfl⟩
  obtain ⟨c0, c1, rfl⟩ : ∃ c0 c1, cs = [c0, c1] := by
    match cs, hl with
    | [c0, c1], _ => exact ⟨c0, c1, rfl⟩
  have f0 := hall 0 _ rfl
  have f1 := hall 1 _ rfl
  change DataW.trod _ _ _ _ _ _ _ 9 (([c0, c1].drop 0).take (Tryz.prog.cellsOf 9)) = some x0 at f0
  change DataW.trod _ _ _ _ _ _ _ 9 (([c0, c1].drop 1).take (Tryz.prog.cellsOf 9)) = some x1 at f1
  rw [cells9] at f0 f1
  obtain ⟨s0, h0, g0, _⟩ := DataW.trod_string Tryz.underlying9 f0
  obtain ⟨s1, h1, g1, _⟩ := DataW.trod_string Tryz.underlying9 f1
  have e0 : c0 = .string s0 := by simpa using h0
  have e1 : c1 = .string s1 := by simpa using h1
  refine ⟨(s0.data.toList, s1.data.toList), ?_, ?_⟩
  · show _ = [Value.string (strL s0.data.toList), .string (strL s1.data.toList)]
    rw [strL_of, strL_of, e0, e1]
  · have hb : Rows.uptoBulk x.1 = (Rows.uptoBulk x0.1 + (Rows.uptoBulk x1.1 + 0)) + 1 := by rw [hx]; rfl
    rw [hb, g0, g1, bulk_str, bulk_str]
    show s0.data.toList.length + s1.data.toList.length ≤ _
    omega
theorem sum_bulk {H : Type} : ∀ (l : List (List UInt8 × List UInt8)) (el : List (DataW H × List MemPlace)), l.length = el.length → (∀ (i : Nat) f b, l[i]? = some f → el[i]? = some b → lensP f ≤ Rows.uptoBulk b.1) → (l.map lensP).sum ≤ Rows.uptoBulkAll (el.map (·.1))
  | [], [], _, _ => Nat.zero_le _
  | f :: l, b :: el, hl, h => by
    have h1 := sum_bulk l el (by simpa using hl) (fun i f b hf hb => h (i + 1) f b (by simpa using hf) (by simpa using hb))
    have h0 := h 0 f b rfl rfl
    have e : Rows.uptoBulkAll ((b :: el).map (·.1)) = Rows.uptoBulk b.1 + Rows.uptoBulkAll (el.map (·.1)) := rfl
    rw [e, List.map_cons, List.sum_cons]
    omega
theorem has_in {W : World} {a : Addr} {len cap : Nat} {l : List (List UInt8 × List UInt8)} (h : HasP W (.slice (some a) len cap) l) : l.length = len := by
  obtain ⟨a', c', e⟩ := h.form
  injection e with _ e _
  exact e.symm
/-- What a slice of parameters holds is within its bulk. -/
theorem pars_bulk {H : Type} {enc : TypeId × Value → H} {W : World} {fuel : Nat} {v : Value} {x : DataW H × List MemPlace} {l : List (List UInt8 × List UInt8)} (h : DataW.trod enc Tryz.prog W 0 (fun _ => true) true fuel 24 [v] = some x) (hp : HasP W v l) : (l.map lensP).sum ≤ Rows.uptoBulk x.1 := by
  rcases DataW.trod_slice Tryz.underlying24 h with ⟨hcs, _⟩ | ⟨a, len, cap, el, rs, m, rfl, hcs, hx, _, hlc, hcm, hel, helem, _, _⟩
  · obtain rfl := (List.cons.inj hcs).1
    obtain ⟨a', c', e⟩ := hp.form
    injection e with _ e _
    rw [List.eq_nil_of_length_eq_zero e.symm]; exact Nat.zero_le _
  · obtain rfl := (List.cons.inj hcs).1
    have hlen := has_in hp
    have hb : Rows.uptoBulk x.1 = Rows.uptoBulkAll (el.map (·.1)) + Rows.uptoBulkAll (rs.map (·.1)) + 1 := by rw [hx]; rfl
    have hs := sum_bulk l el (hlen.trans hel.symm) (fun i f b hf hbb => by
      have hi : i < l.length := (List.getElem?_eq_some_iff.1 hf).1
      obtain ⟨g, o, ea, hat⟩ := hp.at (by omega)
      obtain rfl := Option.some.inj ea
      have h1 := helem i (by omega)
      rw [cells37, hbb] at h1
      obtain ⟨ce, hce, hte⟩ := Option.bind_eq_some_iff.1 h1
      obtain ⟨f', hf', hle⟩ := par_bulk hte
      obtain ⟨_, _, hcc⟩ := World.cells?_some hce
      have k0 := hcc 0 (by decide)
      have k1 := hcc 1 (by decide)
      rw [Addr.add_lit, Addr.add_lit, hf'] at k0 k1
      obtain ⟨q0, q1⟩ := hat i f hf
      have e0 : some (Value.string (strL f.1)) = some (Value.string (strL f'.1)) := q0.symm.trans k0
      have e1 : some (Value.string (strL f.2)) = some (Value.string (strL f'.2)) := q1.symm.trans k1
      injection e0 with e0
      injection e0 with e0
      injection e1 with e1
      injection e1 with e1
      have d0 : f.1 = f'.1 := congrArg (fun s : ByteArray => s.data.toList) e0
      have d1 : f.2 = f'.2 := congrArg (fun s : ByteArray => s.data.toList) e1
      unfold lensP at hle ⊢
      rw [d0, d1]
      exact hle)
    omega
end Go.Proofs.YtdinachiiimngaaGreatDoor
