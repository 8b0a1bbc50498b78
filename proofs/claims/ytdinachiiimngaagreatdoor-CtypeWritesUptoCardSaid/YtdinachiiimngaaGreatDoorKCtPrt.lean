/- The program's partsOf: the parts that make up the value of a name. -/
import Derived.Test.YtdinachiiimngaaGreatDoorK5
import Derived.Deep.RegionWith
import Derived.BigCall
namespace Go.Proofs.YtdinachiiimngaaGreatDoor
open Go.ChangeShapes Go.WideShapes Go.ChangeAt Go.RowKit
open TokP AdrP CtP

theorem orL_nilS (p : List UInt8 × Bool) : orL [] (some p) = [p] := rfl
theorem orL_none (l : List (List UInt8 × Bool)) : orL l none = l := by
  cases l with
  | nil => rfl
  | cons a b => exact orL_cons a b none
theorem orL_ne {l : List (List UInt8 × Bool)} (h : l ≠ []) (o : Option (List UInt8 × Bool)) : orL l o = l := if_neg h
theorem orL_len (l : List (List UInt8 × Bool)) (o : Option (List UInt8 × Bool)) : (orL l o).length ≤ l.length + 1 := by
  unfold orL
  split
  · cases o <;> simp
  · omega
theorem secs_len (G : Int → Option (List UInt8 × Bool)) : ∀ (f k : Nat), (secsF G f k).length ≤ f
  | 0, _ => Nat.le_refl _
  | f + 1, k => by
    rw [secsF]
    cases G k with
    | none => exact Nat.zero_le _
    | some p => have := secs_len G f (k + 1); rw [List.length_cons]; omega
theorem parts_len (G : Int → Option (List UInt8 × Bool)) : (partsL G).length ≤ 66 := by
  have h1 := secs_len G 64 0
  have h2 := orL_len (secsF G 64 0) (G (-1))
  have h3 := orL_len (orL (secsF G 64 0) (G (-1))) (G (-2))
  unfold partsL
  omega
/-- How far the list has come in the second loop. -/
def stL (G : Int → Option (List UInt8 × Bool)) : Nat → List (List UInt8 × Bool)
  | 0 => secsF G 64 0
  | 1 => orL (secsF G 64 0) (G (-1))
  | _ => partsL G
def Own0 (w : World) (B : Nat) (v : Value) (l : List (List UInt8 × Bool)) : Prop := w.ownsRow B 98 2 v l.length (ptsV l)
theorem Own0.step {w w' : World} {B : Nat} {v : Value} {l : List (List UInt8 × Bool)} (h : Own0 w B v l) (hb : Below w.heap.size w w') : Own0 w' B v l := own_below h hb
theorem wpList_apQ {ops : Array Oper} {rest : List Oper} {o : Oper} {a : Act} {w : World} {Q : Exit → Act → World → Prop} (hgd : o.guard = none) (s x : Operand)
    (ho : o.op = .call { callee := .builtin .append, args := #[s, x], argTypes := #[100, 100] }) (B : Nat) {v : Value} {xs : List (List UInt8 × Bool)} {n : Nat} (f : List UInt8 × Bool) (x0 : ByteArray) (y0 : Bool) (hxy : strL f.1 = x0 ∧ f.2 = y0) (hs : a.eval s = v) (hx : a.eval x = .slice (some ⟨w.heap.size, 0, none⟩) 1 1)
    (hown : Own0 w B v xs) (hn : xs.length = n) (hb : B ≤ w.heap.size) (hl : n ≤ 4000000)
    (h : ∀ a' c' w', Own0 w' B (.slice a' (n + 1) c') (xs ++ [f]) → (w.alloc (.cells #[.string x0, .bool y0] 98)).grownBy w' v.ownBlock → ((Value.slice a' (n + 1) c').ownBlock = v.ownBlock ∨ (Value.slice a' (n + 1) c').ownBlock = some (w.heap.size + 1)) → Below B w w' → wpList Tryz.prog ops Q rest (a.put o.dst (.slice a' (n + 1) c')) w') :
    wpList Tryz.prog ops Q (o :: rest) a (w.alloc (.cells #[.string x0, .bool y0] 98)) := by
  obtain ⟨i0, hi, hz0, hz1, hz2⟩ := info_parts infoPt
  obtain ⟨rfl, rfl⟩ := hxy
  subst hn
  refine wpList_append_own_at _ hgd s x 100 ho B 98 i0 (.agg #[.string ⟨#[]⟩, .bool false]) 2 24 Tryz.underlying100 hi hz0 hz1 hz2 rfl (by decide) v xs.length (ptsV xs) hs (World.ownsRow.alloc hown _) ⟨w.heap.size, 0, none⟩ 1 1 (ptV f) hx rfl (news_pt w f) (ptV_one f) (by unfold maxLen; omega) (by omega) (by rw [World.size_alloc]; omega) ?_
  intro v' w' e1 e2 _ e4
  rw [← ptsV_one, ptsV_app, ← List.length_singleton (a := f), ← List.length_append] at e1
  obtain ⟨a', c', rfl⟩ : ∃ a' c', v' = .slice a' (xs.length + 1) c' := by
    rcases e1.2 with ⟨rfl, h0⟩ | ⟨g, cap, cur, rfl, _⟩
    · simp at h0
    · exact ⟨_, _, by rw [List.length_append]; rfl⟩
  rw [World.size_alloc] at e4
  exact h a' c' w' e1 e2 e4 (((Below.refl B w).alloc hb _).trans (grown_below e2 (fun k e => (hown.lt k e).1) (by rw [World.size_alloc]; omega)))
/-- The two numbers of the parts that are no sections lie in block g, and the list lies elsewhere. -/
def Ng (w : World) (g : Nat) (lv : Value) : Prop := w.heap[g]? = some (.cells #[.int .i64 (-1), .int .i64 (-2)] 3 (0, 0)) ∧ lv.ownBlock ≠ some g
theorem Ng.lt {w : World} {g : Nat} {lv : Value} (h : Ng w g lv) : g < w.heap.size := (Array.getElem?_eq_some_iff.1 h.1).1
theorem Ng.step {w w' : World} {g : Nat} {lv : Value} (h : Ng w g lv) (hb : Below w.heap.size w w') : Ng w' g lv := ⟨(hb.block g h.lt).trans h.1, h.2⟩
theorem Ng.c0 {w : World} {g : Nat} {lv : Value} (h : Ng w g lv) : w.cell? ⟨g, 0, none⟩ = some (.int .i64 (-1)) := by rw [Lib.cell_of_heap h.1]; rfl
theorem Ng.c1 {w : World} {g : Nat} {lv : Value} (h : Ng w g lv) : w.cell? ⟨g, 1, none⟩ = some (.int .i64 (-2)) := by rw [Lib.cell_of_heap h.1]; rfl
theorem Ng.grown {w w' : World} {o : Obj} {g : Nat} {v v' : Value} (h : Ng w g v) (hg : (w.alloc o).grownBy w' v.ownBlock) (hb : v'.ownBlock = v.ownBlock ∨ v'.ownBlock = some (w.heap.size + 1)) : Ng w' g v' := by
  have hlt := h.lt
  refine ⟨?_, ?_⟩
  · rw [hg.block g (by rw [World.size_alloc]; omega) (fun e => h.2 e.symm), Below.heap_alloc _ _ _ hlt]
    exact h.1
  · rcases hb with hb | hb
    · rw [hb]; exact h.2
    · rw [hb]; intro e; have := Option.some.inj e; omega
set_option maxRecDepth 100000 in
set_option maxHeartbeats 16000000 in
theorem parts_of (M : Nat) (L : List Ent) (n : List UInt8) (w : World) (h : MpP w M L) :
    Calls Tryz.prog 70 #[.map (some M), .string (strL n)] w fun e w' => ∃ a c, e = .returned (.slice a (partsL (getE L n)).length c) ∧ OwnQ w' (.slice a (partsL (getE L n)).length c) (partsL (getE L n)) ∧ Below w.heap.size w w' := by
  obtain ⟨G, hG⟩ : ∃ G, getE L n = G := ⟨_, rfl⟩
  rw [hG]
  have HLK := Lib.hid (fun (W : World) (hb : Below w.heap.size w W) (z : Int) => (by
    have := look_part (h.step hb) n z
    rw [hG] at this
    exact this : (Instr.lookup 91 (.map (some M)) (.agg #[.string (strL n), .int .i64 z]) true).run Tryz.prog W = .ok (.tuple #[partA (G z), .bool (G z).isSome]) W))
  clear h hG
  generalize strL n = S at HLK ⊢
  go_enter Tryz.func70, Tryz.ntmps70
  go_wp2_with fail
  go_loopw [5, 13] (fun lv i wr => ∃ (k : Nat) (P : List (List UInt8 × Bool)) (m : Nat), k ≤ 64 ∧ i = .int .i64 k ∧ m ≤ k ∧ (∃ a c, lv = .slice a m c) ∧ Hid (P.length = m) ∧ Hid (Own0 wr w.heap.size lv P) ∧ Hid (Below w.heap.size w wr) ∧ Hid (P ++ secsF G (64 - k) k = secsF G 64 0)) (fun _ i _ => 64 - (intOf i).toNat)
  case atStart => exact ⟨0, [], 0, Nat.zero_le _, rfl, Nat.le_refl _, ⟨none, 0, rfl⟩, Lib.hid rfl, Lib.hid (World.ownsRow_nil _ _ _ _), Lib.hid (Below.refl _ _), Lib.hid rfl⟩
  case round =>
    obtain ⟨k, P, m, hk, rfl, hmk, ⟨a, c, rfl⟩, HM, HO, HB, HS⟩ := hrel
    have F1 : IntKind.i64.wrap ((k : Int) + 1) = (k : Int) + 1 := by rw [IntKind.wrap_i64]; omega
    by_cases hlt : k < 64
    · have hlt' : (k : Int) < 64 := by omega
      have hLK := HLK.out wr HB.out k
      have hbz := HB.out.size
      cases hg : G k with
      | some p =>
        rw [hg] at hLK
        have HS2 := Lib.hid (show (P ++ [p]) ++ secsF G (64 - (k + 1)) (k + 1) = secsF G 64 0 by
          rw [← HS.out, List.append_assoc, show 64 - k = (64 - (k + 1)) + 1 by omega, secsF, hg]; rfl)
        have HM2 := Lib.hid (show (P ++ [p]).length = m + 1 by rw [List.length_append, HM.out]; rfl)
        obtain ⟨x0, hx0⟩ : ∃ x, strL p.1 = x := ⟨_, rfl⟩
        obtain ⟨y0, hy0⟩ : ∃ y, p.2 = y := ⟨_, rfl⟩
        unfold partA at hLK
        simp only [hx0, hy0, Option.isSome_some] at hLK
        obtain ⟨k0, k1⟩ := ptx_new0 wr x0 y0
        have HO1 : Hid (Own0 (wr.alloc (.cells #[.string x0, .bool y0] 98)) w.heap.size (.slice a m c) P) := Lib.hid (HO.out.step ((Below.refl _ _).alloc (Nat.le_refl _) _))
        have HB1 : Hid (Below w.heap.size w (wr.alloc (.cells #[.string x0, .bool y0] 98))) := Lib.hid (HB.out.alloc hbz _)
        have HXY := Lib.hid (And.intro hx0 hy0)
        clear hg hx0 hy0
        have hm6 : m ≤ 4000000 := by omega
        go_wp2_with (at_builtin; (have e1 := HXY.out.1; have e2 := HXY.out.2; subst e1; subst e2; refine wpList_appQ (by rfl) (.tmp 26) (.tmp 28) rfl rfl w.heap.size p rfl (by rw [World.size_alloc]; rfl) HO1.out HM.out HB1.out.size hm6 ?_; intro a5 c5 w5 h5 g5; have HO5 : Hid (Own0 w5 w.heap.size (.slice a5 (m + 1) c5) (P ++ [p])) := Lib.hid h5; have HB5 := Lib.hid (HB1.out.trans ((((Below.refl w.heap.size _).alloc HB1.out.size _)).grown g5 (by rw [World.size_alloc]; have := HB1.out.size; omega) (fun j hj => (HO1.out.lt j hj).1))); clear h5 g5))
        go_roundw
        case rel => exact ⟨k + 1, _, m + 1, by omega, by go_num, by omega, ⟨_, _, rfl⟩, HM2, HO5, HB5, HS2⟩
        case measure => simp [intOf]; omega
      | none =>
        rw [hg] at hLK
        have HS2 := Lib.hid (show P = stL G 0 by
          have := HS.out
          rw [show 64 - k = (64 - (k + 1)) + 1 by omega, secsF, hg, List.append_nil] at this
          exact this)
        unfold partA at hLK
        simp only [Option.isSome_none] at hLK
        have HB1 : Hid (Below w.heap.size w (wr.alloc (.cells #[.string ⟨#[]⟩, .bool false] 98))) := Lib.hid (HB.out.alloc hbz _)
        have HO1 : Hid (Own0 (wr.alloc (.cells #[.string ⟨#[]⟩, .bool false] 98)) w.heap.size (.slice a m c) P) := Lib.hid (HO.out.step ((Below.refl _ _).alloc (Nat.le_refl _) _))
        clear hg HS
        obtain ⟨WQ, hWQ⟩ : ∃ WQ, WQ = wr := ⟨_, rfl⟩
        subst hWQ
        have hnw := World.alloc_heap_new (WQ.alloc (.cells #[.string ⟨#[]⟩, .bool false] 98)) (.cells #[.int .i64 (-1), .int .i64 (-2)] 3)
        have HNB := Lib.hid (show Ng ((WQ.alloc (.cells #[.string ⟨#[]⟩, .bool false] 98)).alloc (.cells #[.int .i64 (-1), .int .i64 (-2)] 3)) (WQ.alloc (.cells #[.string ⟨#[]⟩, .bool false] 98)).heap.size (.slice a m c) from ⟨hnw, fun e => by have := (HO1.out.lt _ e).2; omega⟩)
        have HOB : Hid (Own0 ((WQ.alloc (.cells #[.string ⟨#[]⟩, .bool false] 98)).alloc (.cells #[.int .i64 (-1), .int .i64 (-2)] 3)) w.heap.size (.slice a m c) (stL G 0)) := by rw [← HS2.out]; exact Lib.hid (HO1.out.step ((Below.refl _ _).alloc (Nat.le_refl _) _))
        have HBB : Hid (Below w.heap.size w ((WQ.alloc (.cells #[.string ⟨#[]⟩, .bool false] 98)).alloc (.cells #[.int .i64 (-1), .int .i64 (-2)] 3))) := Lib.hid (HB1.out.alloc HB1.out.size _)
        have HMB := Lib.hid (show (stL G 0).length = m by rw [← HS2.out]; exact HM.out)
        obtain ⟨GB, hGB⟩ : ∃ GB, (WQ.alloc (.cells #[.string ⟨#[]⟩, .bool false] 98)).heap.size = GB := ⟨_, rfl⟩
        rw [hGB] at HNB
        have HGB : Hid (WQ.heap.size + 1 = GB) := Lib.hid (by rw [← hGB]; exact (World.size_alloc _ _).symm)
        clear hnw hGB
        go_wp2_with fail
        rw [HGB.out]
        obtain ⟨W2, hW2⟩ : ∃ W2, (WQ.alloc (.cells #[.string ⟨#[]⟩, .bool false] 98)).alloc (.cells #[.int .i64 (-1), .int .i64 (-2)] 3) = W2 := ⟨_, rfl⟩
        rw [hW2] at HNB HOB HBB ⊢
        clear hW2 HO1 HB1
        go_loopw [5, 33] (fun lv i w2 => ∃ (j : Nat) (m2 : Nat), j ≤ 2 ∧ i = .int .i64 j ∧ m2 ≤ 66 ∧ (∃ a2 c2, lv = .slice a2 m2 c2 ∧ Hid (Ng w2 GB (.slice a2 m2 c2))) ∧ Hid ((stL G j).length = m2) ∧ Hid (Own0 w2 w.heap.size lv (stL G j)) ∧ Hid (Below w.heap.size w w2)) (fun _ i _ => 2 - (intOf i).toNat)
        case atStart => exact ⟨0, m, Nat.zero_le _, rfl, by omega, ⟨_, _, rfl, HNB⟩, HMB, HOB, HBB⟩
        case round =>
          obtain ⟨j, m2, hj, rfl, hm2, ⟨a2, c2, rfl, HN2⟩, HM2, HO2, HB2⟩ := hrel
          clear HNB HOB HBB HMB
          rcases (show j = 0 ∨ j = 1 ∨ j = 2 by omega) with rfl | rfl | rfl
          · skip
            have hLK := HLK.out wr HB2.out (-1)
            have q0 := HN2.out.c0
            have hbz := HB2.out.size
            cases hg : G (-1) with
            | some p =>
              rw [hg] at hLK
              obtain ⟨x0, hx0⟩ : ∃ x, strL p.1 = x := ⟨_, rfl⟩
              obtain ⟨y0, hy0⟩ : ∃ y, p.2 = y := ⟨_, rfl⟩
              unfold partA at hLK
              simp only [hx0, hy0, Option.isSome_some] at hLK
              obtain ⟨k0, k1⟩ := ptx_new0 wr x0 y0
              have HXY := Lib.hid (And.intro hx0 hy0)
              have HO1 : Hid (Own0 (wr.alloc (.cells #[.string x0, .bool y0] 98)) w.heap.size (.slice a2 m2 c2) (stL G 0)) := Lib.hid (HO2.out.step ((Below.refl _ _).alloc (Nat.le_refl _) _))
              have HB1 : Hid (Below w.heap.size w (wr.alloc (.cells #[.string x0, .bool y0] 98))) := Lib.hid (HB2.out.alloc hbz _)
              have HNA : Hid (Ng (wr.alloc (.cells #[.string x0, .bool y0] 98)) GB (.slice a2 m2 c2)) := Lib.hid (HN2.out.step ((Below.refl _ _).alloc (Nat.le_refl _) _))
              by_cases hm0 : m2 = 0
              · subst hm0
                have hnil : stL G 0 = [] := List.eq_nil_of_length_eq_zero HM2.out
                have HS2 := Lib.hid (show stL G 0 ++ [p] = stL G 1 by rw [show stL G 1 = orL (stL G 0) (G (-1)) from rfl, hnil, hg]; rfl)
                have HM3 := Lib.hid (show (stL G 1).length = 0 + 1 by rw [← HS2.out, hnil]; rfl)
                clear hg hx0 hy0 hnil
                go_wp2_with (at_builtin; (refine wpList_apQ rfl (.tmp 51) (.tmp 53) rfl w.heap.size p x0 y0 HXY.out rfl (by rw [World.size_alloc]; rfl) HO1.out HM2.out HB1.out.size (by omega) ?_; intro a5 c5 w5 h5 g5 e5 b5; replace h5 := Lib.hid h5; have HN5 := Lib.hid (HNA.out.grown g5 e5); have HB5 := Lib.hid (HB1.out.trans b5); clear g5 e5 b5))
                go_roundw
                case rel => exact ⟨1, 0 + 1, by omega, by go_num, by omega, ⟨_, _, rfl, HN5⟩, HM3, by rw [← HS2.out]; exact h5, HB5⟩
                case measure => simp [intOf]
              · have hm1 : ((m2 : Int) == 0) = false := beq_eq_false_iff_ne.2 (by omega)
                have hne : stL G 0 ≠ [] := fun e => hm0 (by rw [← HM2.out, e]; rfl)
                have HS2 := Lib.hid (show stL G 0 = stL G 1 by rw [show stL G 1 = orL (stL G 0) (G (-1)) from rfl, orL_ne hne])
                clear hg hx0 hy0 hne hm0
                go_wp2_with fail
                go_roundw
                case rel => exact ⟨1, m2, by omega, by go_num, by omega, ⟨_, _, rfl, HNA⟩, by rw [← HS2.out]; exact HM2, by rw [← HS2.out]; exact HO1, HB1⟩
                case measure => simp [intOf]
            | none =>
              rw [hg] at hLK
              have HS2 := Lib.hid (show stL G 0 = stL G 1 by rw [show stL G 1 = orL (stL G 0) (G (-1)) from rfl, hg, orL_none])
              unfold partA at hLK
              simp only [Option.isSome_none] at hLK
              have HO1 : Hid (Own0 (wr.alloc (.cells #[.string ⟨#[]⟩, .bool false] 98)) w.heap.size (.slice a2 m2 c2) (stL G 0)) := Lib.hid (HO2.out.step ((Below.refl _ _).alloc (Nat.le_refl _) _))
              have HB1 : Hid (Below w.heap.size w (wr.alloc (.cells #[.string ⟨#[]⟩, .bool false] 98))) := Lib.hid (HB2.out.alloc hbz _)
              have HNA : Hid (Ng (wr.alloc (.cells #[.string ⟨#[]⟩, .bool false] 98)) GB (.slice a2 m2 c2)) := Lib.hid (HN2.out.step ((Below.refl _ _).alloc (Nat.le_refl _) _))
              clear hg
              go_wp2_with fail
              go_roundw
              case rel => exact ⟨1, m2, by omega, by go_num, by omega, ⟨_, _, rfl, HNA⟩, by rw [← HS2.out]; exact HM2, by rw [← HS2.out]; exact HO1, HB1⟩
              case measure => simp [intOf]
          · skip
            have hLK := HLK.out wr HB2.out (-2)
            have q0 := HN2.out.c1
            have hbz := HB2.out.size
            cases hg : G (-2) with
            | some p =>
              rw [hg] at hLK
              obtain ⟨x0, hx0⟩ : ∃ x, strL p.1 = x := ⟨_, rfl⟩
              obtain ⟨y0, hy0⟩ : ∃ y, p.2 = y := ⟨_, rfl⟩
              unfold partA at hLK
              simp only [hx0, hy0, Option.isSome_some] at hLK
              obtain ⟨k0, k1⟩ := ptx_new0 wr x0 y0
              have HXY := Lib.hid (And.intro hx0 hy0)
              have HO1 : Hid (Own0 (wr.alloc (.cells #[.string x0, .bool y0] 98)) w.heap.size (.slice a2 m2 c2) (stL G 1)) := Lib.hid (HO2.out.step ((Below.refl _ _).alloc (Nat.le_refl _) _))
              have HB1 : Hid (Below w.heap.size w (wr.alloc (.cells #[.string x0, .bool y0] 98))) := Lib.hid (HB2.out.alloc hbz _)
              have HNA : Hid (Ng (wr.alloc (.cells #[.string x0, .bool y0] 98)) GB (.slice a2 m2 c2)) := Lib.hid (HN2.out.step ((Below.refl _ _).alloc (Nat.le_refl _) _))
              by_cases hm0 : m2 = 0
              · subst hm0
                have hnil : stL G 1 = [] := List.eq_nil_of_length_eq_zero HM2.out
                have HS2 := Lib.hid (show stL G 1 ++ [p] = stL G 2 by rw [show stL G 2 = orL (stL G 1) (G (-2)) from rfl, hnil, hg]; rfl)
                have HM3 := Lib.hid (show (stL G 2).length = 0 + 1 by rw [← HS2.out, hnil]; rfl)
                clear hg hx0 hy0 hnil
                go_wp2_with (at_builtin; (refine wpList_apQ rfl (.tmp 51) (.tmp 53) rfl w.heap.size p x0 y0 HXY.out rfl (by rw [World.size_alloc]; rfl) HO1.out HM2.out HB1.out.size (by omega) ?_; intro a5 c5 w5 h5 g5 e5 b5; replace h5 := Lib.hid h5; have HN5 := Lib.hid (HNA.out.grown g5 e5); have HB5 := Lib.hid (HB1.out.trans b5); clear g5 e5 b5))
                go_roundw
                case rel => exact ⟨2, 0 + 1, by omega, by go_num, by omega, ⟨_, _, rfl, HN5⟩, HM3, by rw [← HS2.out]; exact h5, HB5⟩
                case measure => simp [intOf]
              · have hm1 : ((m2 : Int) == 0) = false := beq_eq_false_iff_ne.2 (by omega)
                have hne : stL G 1 ≠ [] := fun e => hm0 (by rw [← HM2.out, e]; rfl)
                have HS2 := Lib.hid (show stL G 1 = stL G 2 by rw [show stL G 2 = orL (stL G 1) (G (-2)) from rfl, orL_ne hne])
                clear hg hx0 hy0 hne hm0
                go_wp2_with fail
                go_roundw
                case rel => exact ⟨2, m2, by omega, by go_num, by omega, ⟨_, _, rfl, HNA⟩, by rw [← HS2.out]; exact HM2, by rw [← HS2.out]; exact HO1, HB1⟩
                case measure => simp [intOf]
            | none =>
              rw [hg] at hLK
              have HS2 := Lib.hid (show stL G 1 = stL G 2 by rw [show stL G 2 = orL (stL G 1) (G (-2)) from rfl, hg, orL_none])
              unfold partA at hLK
              simp only [Option.isSome_none] at hLK
              have HO1 : Hid (Own0 (wr.alloc (.cells #[.string ⟨#[]⟩, .bool false] 98)) w.heap.size (.slice a2 m2 c2) (stL G 1)) := Lib.hid (HO2.out.step ((Below.refl _ _).alloc (Nat.le_refl _) _))
              have HB1 : Hid (Below w.heap.size w (wr.alloc (.cells #[.string ⟨#[]⟩, .bool false] 98))) := Lib.hid (HB2.out.alloc hbz _)
              have HNA : Hid (Ng (wr.alloc (.cells #[.string ⟨#[]⟩, .bool false] 98)) GB (.slice a2 m2 c2)) := Lib.hid (HN2.out.step ((Below.refl _ _).alloc (Nat.le_refl _) _))
              clear hg
              go_wp2_with fail
              go_roundw
              case rel => exact ⟨2, m2, by omega, by go_num, by omega, ⟨_, _, rfl, HNA⟩, by rw [← HS2.out]; exact HM2, by rw [← HS2.out]; exact HO1, HB1⟩
              case measure => simp [intOf]
          · have HF := Lib.hid (show stL G 2 = partsL G from rfl)
            go_wp2_with fail
            go_ret
            have hm3 := HM2.out
            rw [HF.out] at hm3
            subst hm3
            exact ⟨a2, c2, rfl, ⟨w.heap.size, HO2.out⟩, HB2.out⟩
    · have hk64 : k = 64 := by omega
      have hlt' : ¬ (k : Int) < 64 := by omega
      have hbz := HB.out.size
      have HS2 := Lib.hid (show P = stL G 0 by
        have := HS.out
        rw [hk64, Nat.sub_self, secsF, List.append_nil] at this
        exact this)
      clear hk64 hlt
      have HO1 := HO
      have HB1 := HB
      clear HS HO HB
      obtain ⟨WQ, hWQ⟩ : ∃ WQ, WQ = wr := ⟨_, rfl⟩
      subst hWQ
      have hnw := World.alloc_heap_new (WQ) (.cells #[.int .i64 (-1), .int .i64 (-2)] 3)
      have HNB := Lib.hid (show Ng ((WQ).alloc (.cells #[.int .i64 (-1), .int .i64 (-2)] 3)) (WQ).heap.size (.slice a m c) from ⟨hnw, fun e => by have := (HO1.out.lt _ e).2; omega⟩)
      have HOB : Hid (Own0 ((WQ).alloc (.cells #[.int .i64 (-1), .int .i64 (-2)] 3)) w.heap.size (.slice a m c) (stL G 0)) := by rw [← HS2.out]; exact Lib.hid (HO1.out.step ((Below.refl _ _).alloc (Nat.le_refl _) _))
      have HBB : Hid (Below w.heap.size w ((WQ).alloc (.cells #[.int .i64 (-1), .int .i64 (-2)] 3))) := Lib.hid (HB1.out.alloc HB1.out.size _)
      have HMB := Lib.hid (show (stL G 0).length = m by rw [← HS2.out]; exact HM.out)
      obtain ⟨GB, hGB⟩ : ∃ GB, (WQ).heap.size = GB := ⟨_, rfl⟩
      rw [hGB] at HNB
      have HGB : Hid (WQ.heap.size = GB) := Lib.hid (by rw [← hGB])
      clear hnw hGB
      go_wp2_with fail
      rw [HGB.out]
      obtain ⟨W2, hW2⟩ : ∃ W2, (WQ).alloc (.cells #[.int .i64 (-1), .int .i64 (-2)] 3) = W2 := ⟨_, rfl⟩
      rw [hW2] at HNB HOB HBB ⊢
      clear hW2 HO1 HB1
      go_loopw [5, 33] (fun lv i w2 => ∃ (j : Nat) (m2 : Nat), j ≤ 2 ∧ i = .int .i64 j ∧ m2 ≤ 66 ∧ (∃ a2 c2, lv = .slice a2 m2 c2 ∧ Hid (Ng w2 GB (.slice a2 m2 c2))) ∧ Hid ((stL G j).length = m2) ∧ Hid (Own0 w2 w.heap.size lv (stL G j)) ∧ Hid (Below w.heap.size w w2)) (fun _ i _ => 2 - (intOf i).toNat)
      case atStart => exact ⟨0, m, Nat.zero_le _, rfl, by omega, ⟨_, _, rfl, HNB⟩, HMB, HOB, HBB⟩
      case round =>
        obtain ⟨j, m2, hj, rfl, hm2, ⟨a2, c2, rfl, HN2⟩, HM2, HO2, HB2⟩ := hrel
        clear HNB HOB HBB HMB
        rcases (show j = 0 ∨ j = 1 ∨ j = 2 by omega) with rfl | rfl | rfl
        · skip
          have hLK := HLK.out wr HB2.out (-1)
          have q0 := HN2.out.c0
          have hbz := HB2.out.size
          cases hg : G (-1) with
          | some p =>
            rw [hg] at hLK
            obtain ⟨x0, hx0⟩ : ∃ x, strL p.1 = x := ⟨_, rfl⟩
            obtain ⟨y0, hy0⟩ : ∃ y, p.2 = y := ⟨_, rfl⟩
            unfold partA at hLK
            simp only [hx0, hy0, Option.isSome_some] at hLK
            obtain ⟨k0, k1⟩ := ptx_new0 wr x0 y0
            have HXY := Lib.hid (And.intro hx0 hy0)
            have HO1 : Hid (Own0 (wr.alloc (.cells #[.string x0, .bool y0] 98)) w.heap.size (.slice a2 m2 c2) (stL G 0)) := Lib.hid (HO2.out.step ((Below.refl _ _).alloc (Nat.le_refl _) _))
            have HB1 : Hid (Below w.heap.size w (wr.alloc (.cells #[.string x0, .bool y0] 98))) := Lib.hid (HB2.out.alloc hbz _)
            have HNA : Hid (Ng (wr.alloc (.cells #[.string x0, .bool y0] 98)) GB (.slice a2 m2 c2)) := Lib.hid (HN2.out.step ((Below.refl _ _).alloc (Nat.le_refl _) _))
            by_cases hm0 : m2 = 0
            · subst hm0
              have hnil : stL G 0 = [] := List.eq_nil_of_length_eq_zero HM2.out
              have HS2 := Lib.hid (show stL G 0 ++ [p] = stL G 1 by rw [show stL G 1 = orL (stL G 0) (G (-1)) from rfl, hnil, hg]; rfl)
              have HM3 := Lib.hid (show (stL G 1).length = 0 + 1 by rw [← HS2.out, hnil]; rfl)
              clear hg hx0 hy0 hnil
              go_wp2_with (at_builtin; (refine wpList_apQ rfl (.tmp 51) (.tmp 53) rfl w.heap.size p x0 y0 HXY.out rfl (by rw [World.size_alloc]; rfl) HO1.out HM2.out HB1.out.size (by omega) ?_; intro a5 c5 w5 h5 g5 e5 b5; replace h5 := Lib.hid h5; have HN5 := Lib.hid (HNA.out.grown g5 e5); have HB5 := Lib.hid (HB1.out.trans b5); clear g5 e5 b5))
              go_roundw
              case rel => exact ⟨1, 0 + 1, by omega, by go_num, by omega, ⟨_, _, rfl, HN5⟩, HM3, by rw [← HS2.out]; exact h5, HB5⟩
              case measure => simp [intOf]
            · have hm1 : ((m2 : Int) == 0) = false := beq_eq_false_iff_ne.2 (by omega)
              have hne : stL G 0 ≠ [] := fun e => hm0 (by rw [← HM2.out, e]; rfl)
              have HS2 := Lib.hid (show stL G 0 = stL G 1 by rw [show stL G 1 = orL (stL G 0) (G (-1)) from rfl, orL_ne hne])
              clear hg hx0 hy0 hne hm0
              go_wp2_with fail
              go_roundw
              case rel => exact ⟨1, m2, by omega, by go_num, by omega, ⟨_, _, rfl, HNA⟩, by rw [← HS2.out]; exact HM2, by rw [← HS2.out]; exact HO1, HB1⟩
              case measure => simp [intOf]
          | none =>
            rw [hg] at hLK
            have HS2 := Lib.hid (show stL G 0 = stL G 1 by rw [show stL G 1 = orL (stL G 0) (G (-1)) from rfl, hg, orL_none])
            unfold partA at hLK
            simp only [Option.isSome_none] at hLK
            have HO1 : Hid (Own0 (wr.alloc (.cells #[.string ⟨#[]⟩, .bool false] 98)) w.heap.size (.slice a2 m2 c2) (stL G 0)) := Lib.hid (HO2.out.step ((Below.refl _ _).alloc (Nat.le_refl _) _))
            have HB1 : Hid (Below w.heap.size w (wr.alloc (.cells #[.string ⟨#[]⟩, .bool false] 98))) := Lib.hid (HB2.out.alloc hbz _)
            have HNA : Hid (Ng (wr.alloc (.cells #[.string ⟨#[]⟩, .bool false] 98)) GB (.slice a2 m2 c2)) := Lib.hid (HN2.out.step ((Below.refl _ _).alloc (Nat.le_refl _) _))
            clear hg
            go_wp2_with fail
            go_roundw
            case rel => exact ⟨1, m2, by omega, by go_num, by omega, ⟨_, _, rfl, HNA⟩, by rw [← HS2.out]; exact HM2, by rw [← HS2.out]; exact HO1, HB1⟩
            case measure => simp [intOf]
        · skip
          have hLK := HLK.out wr HB2.out (-2)
          have q0 := HN2.out.c1
          have hbz := HB2.out.size
          cases hg : G (-2) with
          | some p =>
            rw [hg] at hLK
            obtain ⟨x0, hx0⟩ : ∃ x, strL p.1 = x := ⟨_, rfl⟩
            obtain ⟨y0, hy0⟩ : ∃ y, p.2 = y := ⟨_, rfl⟩
            unfold partA at hLK
            simp only [hx0, hy0, Option.isSome_some] at hLK
            obtain ⟨k0, k1⟩ := ptx_new0 wr x0 y0
            have HXY := Lib.hid (And.intro hx0 hy0)
            have HO1 : Hid (Own0 (wr.alloc (.cells #[.string x0, .bool y0] 98)) w.heap.size (.slice a2 m2 c2) (stL G 1)) := Lib.hid (HO2.out.step ((Below.refl _ _).alloc (Nat.le_refl _) _))
            have HB1 : Hid (Below w.heap.size w (wr.alloc (.cells #[.string x0, .bool y0] 98))) := Lib.hid (HB2.out.alloc hbz _)
            have HNA : Hid (Ng (wr.alloc (.cells #[.string x0, .bool y0] 98)) GB (.slice a2 m2 c2)) := Lib.hid (HN2.out.step ((Below.refl _ _).alloc (Nat.le_refl _) _))
            by_cases hm0 : m2 = 0
            · subst hm0
              have hnil : stL G 1 = [] := List.eq_nil_of_length_eq_zero HM2.out
              have HS2 := Lib.hid (show stL G 1 ++ [p] = stL G 2 by rw [show stL G 2 = orL (stL G 1) (G (-2)) from rfl, hnil, hg]; rfl)
              have HM3 := Lib.hid (show (stL G 2).length = 0 + 1 by rw [← HS2.out, hnil]; rfl)
              clear hg hx0 hy0 hnil
              go_wp2_with (at_builtin; (refine wpList_apQ rfl (.tmp 51) (.tmp 53) rfl w.heap.size p x0 y0 HXY.out rfl (by rw [World.size_alloc]; rfl) HO1.out HM2.out HB1.out.size (by omega) ?_; intro a5 c5 w5 h5 g5 e5 b5; replace h5 := Lib.hid h5; have HN5 := Lib.hid (HNA.out.grown g5 e5); have HB5 := Lib.hid (HB1.out.trans b5); clear g5 e5 b5))
              go_roundw
              case rel => exact ⟨2, 0 + 1, by omega, by go_num, by omega, ⟨_, _, rfl, HN5⟩, HM3, by rw [← HS2.out]; exact h5, HB5⟩
              case measure => simp [intOf]
            · have hm1 : ((m2 : Int) == 0) = false := beq_eq_false_iff_ne.2 (by omega)
              have hne : stL G 1 ≠ [] := fun e => hm0 (by rw [← HM2.out, e]; rfl)
              have HS2 := Lib.hid (show stL G 1 = stL G 2 by rw [show stL G 2 = orL (stL G 1) (G (-2)) from rfl, orL_ne hne])
              clear hg hx0 hy0 hne hm0
              go_wp2_with fail
              go_roundw
              case rel => exact ⟨2, m2, by omega, by go_num, by omega, ⟨_, _, rfl, HNA⟩, by rw [← HS2.out]; exact HM2, by rw [← HS2.out]; exact HO1, HB1⟩
              case measure => simp [intOf]
          | none =>
            rw [hg] at hLK
            have HS2 := Lib.hid (show stL G 1 = stL G 2 by rw [show stL G 2 = orL (stL G 1) (G (-2)) from rfl, hg, orL_none])
            unfold partA at hLK
            simp only [Option.isSome_none] at hLK
            have HO1 : Hid (Own0 (wr.alloc (.cells #[.string ⟨#[]⟩, .bool false] 98)) w.heap.size (.slice a2 m2 c2) (stL G 1)) := Lib.hid (HO2.out.step ((Below.refl _ _).alloc (Nat.le_refl _) _))
            have HB1 : Hid (Below w.heap.size w (wr.alloc (.cells #[.string ⟨#[]⟩, .bool false] 98))) := Lib.hid (HB2.out.alloc hbz _)
            have HNA : Hid (Ng (wr.alloc (.cells #[.string ⟨#[]⟩, .bool false] 98)) GB (.slice a2 m2 c2)) := Lib.hid (HN2.out.step ((Below.refl _ _).alloc (Nat.le_refl _) _))
            clear hg
            go_wp2_with fail
            go_roundw
            case rel => exact ⟨2, m2, by omega, by go_num, by omega, ⟨_, _, rfl, HNA⟩, by rw [← HS2.out]; exact HM2, by rw [← HS2.out]; exact HO1, HB1⟩
            case measure => simp [intOf]
        · have HF := Lib.hid (show stL G 2 = partsL G from rfl)
          go_wp2_with fail
          go_ret
          have hm3 := HM2.out
          rw [HF.out] at hm3
          subst hm3
          exact ⟨a2, c2, rfl, ⟨w.heap.size, HO2.out⟩, HB2.out⟩
end Go.Proofs.YtdinachiiimngaaGreatDoor
