/- What the rows' list of package-level variables gives the walks, a world in which they are laid, and arguments that are arrays of bytes, opened. -/
import Derived.Test.YtddcephegpmbbaaDoorCards
import Derived.Test.YtddcephegpmbbaaDoorTie
import Derived.Test.YtddcephegpmbbaaDoorComp
import Derived.Test.YtddcephegpmbbaaDoorHex
import Derived.OpenShut
import Derived.Carry
import Derived.Deep.DeepHandedRow
import Derived.Lib.LaidTab
import Derived.Stop.LaidErr
namespace Go.Proofs.YtddcephegpmbbaaDoor
open Go.ChangeShapes Go.WideShapes Go.ChangeAt Go.RowKit

theorem own : ownKnob Tryd.prog.godebug = none := by kernel_rfl
theorem laidOut : laidOutB Tryd.prog = true := by kernel_rfl
theorem gSt : Tryd.prog.globalNamed "pouch/sum.initialState" = some 0 := by kernel_rfl
theorem gStType : (Tryd.prog.globals[0]?).map (·.type) = some 43 := by kernel_rfl
theorem gKs : Tryd.prog.globalNamed "pouch/sum.roundConstants" = some 1 := by kernel_rfl
theorem gKsType : (Tryd.prog.globals[1]?).map (·.type) = some 54 := by kernel_rfl
theorem cells43 : Tryd.prog.cellsOf 43 = 8 := by kernel_rfl
theorem cells54 : Tryd.prog.cellsOf 54 = 64 := by kernel_rfl
theorem cells27 : Tryd.prog.cellsOf 27 = 1 := by kernel_rfl
theorem cells5 : Tryd.prog.cellsOf 5 = 1 := by kernel_rfl
theorem cells23 : Tryd.prog.cellsOf 23 = 32 := by kernel_rfl
theorem cells33 : Tryd.prog.cellsOf 33 = 5 := by kernel_rfl
theorem row_of_var {W : World} {n : String} {g : Nat} {cs : Array Value} (hg : Tryd.prog.globalNamed n = some g) (h : W.var? Tryd.prog n = some cs) : ∃ T fr, W.heap[g]? = some (.cells cs T fr) := by
  unfold World.var? at h
  rw [hg] at h
  simp only [Option.bind_some] at h
  split at h
  · rename_i h2
    cases h
    exact ⟨_, _, h2⟩
  · cases h
theorem vars_of {W : World} (h : laidMet Tryd.prog Rows.sumGoesRow.laid W) : Vars W := by
  have h0 := Lib.tabIs_of_head gSt gStType Tryd.underlying43 Tryd.underlying27 cells27 cells43 (show laidMet Tryd.prog (("pouch/sum.initialState", Lib.tabData .u32 [1779033703, 3144134277, 1013904242, 2773480762, 1359893119, 2600822924, 528734635, 1541459225]) :: _) W from h)
  have h1 := Lib.tabIs_of_head gKs gKsType Tryd.underlying54 Tryd.underlying27 cells27 cells54 (show laidMet Tryd.prog (("pouch/sum.roundConstants", Lib.tabData .u32 [1116352408, 1899447441, 3049323471, 3921009573, 961987163, 1508970993, 2453635748, 2870763221, 3624381080, 310598401, 607225278, 1426881987, 1925078388, 2162078206, 2614888103, 3248222580, 3835390401, 4022224774, 264347078, 604807628, 770255983, 1249150122, 1555081692, 1996064986, 2554220882, 2821834349, 2952996808, 3210313671, 3336571891, 3584528711, 113926993, 338241895, 666307205, 773529912, 1294757372, 1396182291, 1695183700, 1986661051, 2177026350, 2456956037, 2730485921, 2820302411, 3259730800, 3345764771, 3516065817, 3600352804, 4094571909, 275423344, 430227734, 506948616, 659060556, 883997877, 958139571, 1322822218, 1537002063, 1747873779, 1955562222, 2024104815, 2227730452, 2361852424, 2428436474, 2756734187, 3204031479, 3329325298]) :: _) W from laidMet.tail h)
  refine ⟨?_, ?_⟩
  · have h2 := row_of_var gSt h0
    exact h2
  · have h2 := row_of_var gKs h1
    exact h2

def put (cs : Array Value) : Obj → Obj
  | .cells _ t frozen => .cells cs t frozen
  | o => o
/-- A world for the witness: the settled one, the two variables as their initialisers lay them. -/
noncomputable def laidWorld (os : Os) : World :=
  let w0 := World.holding Tryd.prog os ⟨#[], #[], []⟩
  let h0 := (w0.heap.modify 0 (put #[.int .u32 1779033703, .int .u32 3144134277, .int .u32 1013904242, .int .u32 2773480762, .int .u32 1359893119, .int .u32 2600822924, .int .u32 528734635, .int .u32 1541459225])).modify 1 (put #[.int .u32 1116352408, .int .u32 1899447441, .int .u32 3049323471, .int .u32 3921009573, .int .u32 961987163, .int .u32 1508970993, .int .u32 2453635748, .int .u32 2870763221, .int .u32 3624381080, .int .u32 310598401, .int .u32 607225278, .int .u32 1426881987, .int .u32 1925078388, .int .u32 2162078206, .int .u32 2614888103, .int .u32 3248222580, .int .u32 3835390401, .int .u32 4022224774, .int .u32 264347078, .int .u32 604807628, .int .u32 770255983, .int .u32 1249150122, .int .u32 1555081692, .int .u32 1996064986, .int .u32 2554220882, .int .u32 2821834349, .int .u32 2952996808, .int .u32 3210313671, .int .u32 3336571891, .int .u32 3584528711, .int .u32 113926993, .int .u32 338241895, .int .u32 666307205, .int .u32 773529912, .int .u32 1294757372, .int .u32 1396182291, .int .u32 1695183700, .int .u32 1986661051, .int .u32 2177026350, .int .u32 2456956037, .int .u32 2730485921, .int .u32 2820302411, .int .u32 3259730800, .int .u32 3345764771, .int .u32 3516065817, .int .u32 3600352804, .int .u32 4094571909, .int .u32 275423344, .int .u32 430227734, .int .u32 506948616, .int .u32 659060556, .int .u32 883997877, .int .u32 958139571, .int .u32 1322822218, .int .u32 1537002063, .int .u32 1747873779, .int .u32 1955562222, .int .u32 2024104815, .int .u32 2227730452, .int .u32 2361852424, .int .u32 2428436474, .int .u32 2756734187, .int .u32 3204031479, .int .u32 3329325298])
  { w0 with heap := h0 }

/-- An array of bytes, opened. -/
theorem bytes_of_trod {H : Type} {enc : TypeId × Value → H} {w : World} {base : Nat} {sp : Nat → Bool} {held : Bool} {fuel n : Nat} {t : TypeId} {cs : List Value} {x : DataW H × List MemPlace}
    (ht : Tryd.prog.underlying t = some (.array n 5)) (hct : Tryd.prog.cellsOf t = n) (h : DataW.trod enc Tryd.prog w base sp held fuel t cs = some x) : ∃ l : List UInt8, l.length = n ∧ cs = cellsOf l := by
  obtain ⟨xs, m, rfl, rfl, hl, hx, hat⟩ := DataW.trod_array ht h
  rw [hct] at hl
  have hval : ∀ i : Nat, i < n → ∃ b : UInt8, cs[i]? = some (.int .u8 (b.toNat : Int)) := by
    intro i hi
    have h2 := hat i hi
    rw [List.getElem?_eq_getElem (show i < xs.length by omega)] at h2
    obtain ⟨z, hc, _, hwf⟩ := DataW.trod_int Tryd.underlying5 h2
    rw [cells5, Nat.mul_one] at hc
    have h3 : cs[i]? = some (.int .u8 z) := by
      have := congrArg (·[0]?) hc
      simpa [List.getElem?_take, List.getElem?_drop] using this
    have e1 : IntKind.u8.min = 0 := rfl
    have e2 : IntKind.u8.max = 255 := rfl
    have hb : 0 ≤ z ∧ z ≤ 255 := by simpa [Lit.wf, e1, e2] using hwf
    refine ⟨UInt8.ofNat z.toNat, ?_⟩
    rw [h3, UInt8.toNat_ofNat']
    congr 2
    omega
  refine ⟨(List.range n).map fun i => if h : i < n then (hval i h).choose else 0, by simp, ?_⟩
  refine List.ext_getElem? fun i => ?_
  unfold cellsOf
  by_cases hi : i < n
  · rw [(hval i hi).choose_spec]
    simp [hi]
  · rw [List.getElem?_eq_none (by omega), List.getElem?_eq_none (by simp; omega)]
theorem bytes_arg {H : Type} {enc : TypeId × Value → H} {W : World} {n base : Nat} {t : TypeId} {v : Value} {d : DataW H} {ps : List MemPlace} {r : Reach}
    (ht : Tryd.prog.underlying t = some (.array n 5)) (hct : Tryd.prog.cellsOf t = n) (hv : Value.okWide Tryd.prog W r base t v) (h : DataW.Trod enc Tryd.prog W 0 (fun _ => true) true t v d ps) : ∃ l : List UInt8, l.length = n ∧ v = .agg (cellsOf l).toArray := by
  obtain ⟨cs, rfl⟩ : ∃ cs, v = .agg cs := by
    unfold Value.okWide at hv
    rw [ht] at hv
    cases v <;> simp at hv ⊢
  obtain ⟨fu, hf⟩ := h
  obtain ⟨l, hl, e⟩ := bytes_of_trod ht hct hf
  refine ⟨l, hl, ?_⟩
  have : cs.toList = cellsOf l := e
  rw [← this]
end Go.Proofs.YtddcephegpmbbaaDoor
