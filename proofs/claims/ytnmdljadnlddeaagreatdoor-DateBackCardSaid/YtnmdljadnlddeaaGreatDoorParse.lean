/- Parsing a decimal integer: num.Parse. -/
import Derived.Test.YtnmdljadnlddeaaGreatDoorCanon
import Derived.Lib.AtoiBound
namespace Go.Proofs.YtnmdljadnlddeaaGreatDoor
open Go.ChangeShapes Go.WideShapes Go.ChangeAt Go.RowKit

/-- The integer that l spells in canonical form. -/
def parseV (l : List UInt8) : Option Int := if canL l = true then (match Lib.atoiAll l with | .ok v => some v | _ => none) else none
/-- The same, within bounds. -/
def parseIn (l : List UInt8) (lo hi : Int) : Option Int := match parseV l with | some v => if lo ≤ v ∧ v ≤ hi then some v else none | none => none
theorem parseIn_none {l : List UInt8} {lo hi : Int} (h : parseV l = none) : parseIn l lo hi = none := by rw [parseIn, h]
theorem parseIn_some {l : List UInt8} {lo hi v : Int} (h : parseV l = some v) (h1 : lo ≤ v) (h2 : v ≤ hi) : parseIn l lo hi = some v := by
  simp only [parseIn, h]; rw [if_pos ⟨h1, h2⟩]
theorem parseIn_out {l : List UInt8} {lo hi v : Int} (h : parseV l = some v) (h1 : v < lo ∨ hi < v) : parseIn l lo hi = none := by
  simp only [parseIn, h]; rw [if_neg (by omega)]

/-- What a parse answers. -/
def Ans (o : Option Int) (e : Ending) : Prop := e = .returned (.tuple #[.int .i64 (o.getD 0), .bool o.isSome])

theorem parse_no (s : ByteArray) (lo hi : Int) (hs : s.size ≤ 1000) (w : World) (hc : canL s.data.toList = false) :
    Calls Tryz.prog 55 #[.string s, .int .i64 lo, .int .i64 hi] w fun e w' => Ans (parseIn s.data.toList lo hi) e ∧ Below w.heap.size w w' := by
  have hp : parseIn s.data.toList lo hi = none := parseIn_none (by rw [parseV, hc]; rfl)
  rw [hp]
  have hT := canonical_any s hs w
  rw [hc] at hT
  have HT := Lib.hid hT
  clear hT hp hc
  go_enter Tryz.func55, Tryz.ntmps55
  go_wp2_with (go_at_call 71; refine HT.out.mono ?_; rintro e w1 ⟨rfl, hb⟩)
  go_ret2
  exact ⟨rfl, hb⟩
theorem bytes_below (w w' : World) (e : TypeId) (h : w' = w ∨ ∃ t, w' = Lib.bytesWorld w e t) : Below w.heap.size w w' := by
  rcases h with rfl | ⟨t, rfl⟩
  · exact Below.refl _ _
  · exact Lib.bytesWorld_below _ _ _
theorem parse_ok (s : ByteArray) (lo hi v : Int) (hs : s.size ≤ 1000) (w : World) (hc : canL s.data.toList = true) (ha : Lib.atoiAll s.data.toList = .ok v) :
    Calls Tryz.prog 55 #[.string s, .int .i64 lo, .int .i64 hi] w fun e w' => Ans (parseIn s.data.toList lo hi) e ∧ Below w.heap.size w w' := by
  have hV : parseV s.data.toList = some v := by simp only [parseV, hc, ha, if_true]
  have hT := canonical_any s hs w
  rw [hc] at hT
  have HT := Lib.hid hT
  have HA := Lib.hid (fun W => Tryz.strconv_Atoi_ok s (by omega) v ha W)
  have HV := Lib.hid hV
  clear hT hc ha hV
  by_cases h1 : v < lo
  · have HP := Lib.hid (parseIn_out (hi := hi) HV.out (.inl h1))
    go_enter Tryz.func55, Tryz.ntmps55
    go_wp2_with (first
      | (go_at_call 71; refine HT.out.mono ?_; rintro e w1 ⟨rfl, hb⟩)
      | (go_at_call 72; refine (HA.out _).mono ?_; rintro e w2 ⟨rfl, hb2⟩))
    go_ret2
    rw [HP.out]
    exact ⟨rfl, hb.trans ((bytes_below _ _ _ hb2).mono hb.size)⟩
  · by_cases h2 : hi < v
    · have HP := Lib.hid (parseIn_out (lo := lo) HV.out (.inr h2))
      go_enter Tryz.func55, Tryz.ntmps55
      go_wp2_with (first
        | (go_at_call 71; refine HT.out.mono ?_; rintro e w1 ⟨rfl, hb⟩)
        | (go_at_call 72; refine (HA.out _).mono ?_; rintro e w2 ⟨rfl, hb2⟩))
      go_ret2
      rw [HP.out]
      exact ⟨rfl, hb.trans ((bytes_below _ _ _ hb2).mono hb.size)⟩
    · have h1' : lo ≤ v := by omega
      have h2' : v ≤ hi := by omega
      have HP := Lib.hid (parseIn_some HV.out h1' h2')
      go_enter Tryz.func55, Tryz.ntmps55
      go_wp2_with (first
        | (go_at_call 71; refine HT.out.mono ?_; rintro e w1 ⟨rfl, hb⟩)
        | (go_at_call 72; refine (HA.out _).mono ?_; rintro e w2 ⟨rfl, hb2⟩))
      go_ret2
      rw [HP.out]
      exact ⟨rfl, hb.trans ((bytes_below _ _ _ hb2).mono hb.size)⟩
theorem parse_wrong (s : ByteArray) (lo hi : Int) (hs : s.size ≤ 1000) (w : World) (hv : Vars w) (hc : canL s.data.toList = true) (ha : Lib.atoiAll s.data.toList = Lib.atoiAll []) :
    Calls Tryz.prog 55 #[.string s, .int .i64 lo, .int .i64 hi] w fun e w' => Ans (parseIn s.data.toList lo hi) e ∧ Below w.heap.size w w' := by
  have hV : parseV s.data.toList = none := by simp only [parseV, hc, ha, if_true]; rfl
  have HP := Lib.hid (parseIn_none (lo := lo) (hi := hi) hV)
  have hT := canonical_any s hs w
  rw [hc] at hT
  have HT := Lib.hid hT
  obtain ⟨tp, p, hs2⟩ := hv.syn
  have HA := Lib.hid (fun W hW => Tryz.strconv_Atoi_syntax_var s (by omega) ha tp p W hW)
  have HS := Lib.hid hs2
  clear hT hc ha hV hs2 hv
  go_enter Tryz.func55, Tryz.ntmps55
  go_wp2_with (first
    | (go_at_call 71; refine HT.out.mono ?_; rintro e w1 ⟨rfl, hb⟩)
    | (go_at_call 72; refine (HA.out _ (var_below hb HS.out)).mono ?_; rintro e w2 ⟨N, rfl, _, _, hb2⟩))
  go_ret2
  rw [HP.out]
  exact ⟨rfl, hb.trans (hb2.mono hb.size)⟩
theorem parse_range (s : ByteArray) (lo hi : Int) (hs : s.size ≤ 1000) (w : World) (hv : Vars w) (hc : canL s.data.toList = true) (ha : Lib.atoiAll s.data.toList = .range) :
    Calls Tryz.prog 55 #[.string s, .int .i64 lo, .int .i64 hi] w fun e w' => Ans (parseIn s.data.toList lo hi) e ∧ Below w.heap.size w w' := by
  have hV : parseV s.data.toList = none := by simp only [parseV, hc, ha, if_true]
  have HP := Lib.hid (parseIn_none (lo := lo) (hi := hi) hV)
  have hT := canonical_any s hs w
  rw [hc] at hT
  have HT := Lib.hid hT
  obtain ⟨tp, p, hs2⟩ := hv.rng
  have HA := Lib.hid (fun W hW => Tryz.strconv_Atoi_range_var s (by omega) ha tp p W hW)
  have HS := Lib.hid hs2
  clear hT hc ha hV hs2 hv
  go_enter Tryz.func55, Tryz.ntmps55
  go_wp2_with (first
    | (go_at_call 71; refine HT.out.mono ?_; rintro e w1 ⟨rfl, hb⟩)
    | (go_at_call 72; refine (HA.out _ (var_below hb HS.out)).mono ?_; rintro e w2 ⟨N, rfl, _, _, hb2⟩))
  go_ret2
  rw [HP.out]
  exact ⟨rfl, hb.trans (hb2.mono hb.size)⟩
theorem parse_any (s : ByteArray) (lo hi : Int) (hs : s.size ≤ 1000) (w : World) (hv : Vars w) :
    Calls Tryz.prog 55 #[.string s, .int .i64 lo, .int .i64 hi] w fun e w' => Ans (parseIn s.data.toList lo hi) e ∧ Below w.heap.size w w' := by
  cases hc : canL s.data.toList with
  | false => exact parse_no s lo hi hs w hc
  | true =>
    cases ha : Lib.atoiAll s.data.toList with
    | ok v => exact parse_ok s lo hi v hs w hc ha
    | range => exact parse_range s lo hi hs w hv hc ha
    | _ => exact parse_wrong s lo hi hs w hv hc ha
end Go.Proofs.YtnmdljadnlddeaaGreatDoor
