/- Read: the words of a date string, read. -/
import Derived.Test.YtnmdljadnlddeaaGreatDoorSplit
import Derived.Test.YtnmdljadnlddeaaGreatDoorDateW
import Derived.Test.YtnmdljadnlddeaaGreatDoorZone2
import Derived.Test.YtnmdljadnlddeaaGreatDoorTime
import Derived.Deep.DeepCutAuto
namespace Go.Proofs.YtnmdljadnlddeaaGreatDoor
open Go.ChangeShapes Go.WideShapes Go.ChangeAt Go.RowKit
open DateP (wd nameP dayNames readP restP zone? Right)

theorem results_cell_row2 {P : Program} {fn : Func} {p u : Tmp} {ty : TypeId} (h : fn.results = #[.cell p ty, .tmp u]) (tmps : Array Value) (w : World) (g : Nat) (t : TypeId) (cs : Array Value) (fr : Nat × Nat) (d : TypeDesc) (v : Value)
    (hp : tmps.getD p undef = .pointer (some ⟨g, 0, none⟩)) (hv : tmps.getD u undef = v) (hg : w.heap[g]? = some (.cells cs t fr))
    (hu : P.underlying ty = some d) (hd : (match d with | .struct _ | .array _ _ => true | _ => false) = true) (hi : (P.info? ty).map (·.size) = some cs.size) :
    (results fn tmps).run P w = .ok (.tuple #[.agg cs, v]) w := by
  have hp' : tmps[p]?.getD undef = .pointer (some ⟨g, 0, none⟩) := by simpa using hp
  have hv' : tmps[u]?.getD undef = v := by simpa using hv
  simp [results, h, hp', hv', asAddr, run_loadVar_row w g t ty cs fr d hg hu hd hi]

/-- What Read means by a string. -/
def readV (s : ByteArray) : Option (Int × Int) := readP (wd 0 [] s.data.toList)
/-- The words without a weekday ahead. -/
def bodyW (ws : List (List UInt8)) : List (List UInt8) := if (nameP dayNames (ws.headD [])).isSome then ws.tail else ws
def codeP (W : List (List UInt8)) : Option (Int × Int) :=
  (dateV (W.headD []) (W.tail.headD []) (W.tail.tail.headD [])).bind fun D => (clockV (W.tail.tail.tail.headD [])).bind fun S => (zoneAll (W.tail.tail.tail.tail.headD [])).bind fun Z =>
    if W.tail.tail.tail.tail.tail.headD [] = [] ∧ Right (86400 * D + S - 60 * Z) Z then some (86400 * D + S - 60 * Z, Z) else none
theorem wd_ne : ∀ (n : Nat) (l : List UInt8), l.length ≤ n → ∀ (k : Nat) (cur : List UInt8), ∀ w ∈ wd k cur l, w ≠ []
  | _, [], _, 0, cur, w, h => by
    rw [wd] at h
    unfold DateP.flush at h
    split at h
    · cases h
    · rename_i hc
      obtain rfl := List.mem_singleton.1 h
      exact hc
  | _, [], _, k + 1, cur, w, h => by rw [wd_end] at h; cases h
  | n + 1, c :: t, hl, 0, cur, w, h => by
    simp only [List.length_cons] at hl
    have hf : ∀ ws : List (List UInt8), (∀ w ∈ ws, w ≠ []) → w ∈ DateP.flush cur ws → w ≠ [] := fun ws hws hw => by
      unfold DateP.flush at hw
      split at hw
      · exact hws w hw
      · rename_i hc
        rcases List.mem_cons.1 hw with rfl | hw
        · exact hc
        · exact hws w hw
    rw [wd_step] at h
    split at h
    · exact hf _ (wd_ne n t (by omega) 0 []) h
    · split at h
      · exact hf _ (wd_ne n t (by omega) 1 []) h
      · exact wd_ne n t (by omega) 0 _ w h
  | n + 1, [c], hl, k + 1, cur, w, h => by
    rw [wd_one] at h
    split at h
    · exact wd_ne n [] (Nat.zero_le _) k [] w h
    · cases h
  | n + 2, c :: x :: t, hl, k + 1, cur, w, h => by
    simp only [List.length_cons] at hl
    rw [wd_two] at h
    split at h
    · exact wd_ne n t (by omega) (k + 1) [] w h
    · split at h
      · exact wd_ne (n + 1) (x :: t) (by simp; omega) (k + 2) [] w h
      · split at h
        · exact wd_ne (n + 1) (x :: t) (by simp; omega) k [] w h
        · exact wd_ne (n + 1) (x :: t) (by simp; omega) (k + 1) [] w h
  | 0, _ :: _, hl, _, _, _, _ => by simp at hl
  | 1, _ :: _ :: _, hl, _, _, _, _ => by simp at hl
theorem date_none1 (m y : List UInt8) : dateV [] m y = none := rfl
theorem date_none2 (d y : List UInt8) : dateV d [] y = none := by
  unfold dateV
  have : nameP DateP.monNames [] = none := by decide
  rw [this]
  cases DateP.dayP d <;> rfl
theorem date_none3 (d m : List UInt8) : dateV d m [] = none := by
  unfold dateV
  have : DateP.yearP [] = none := rfl
  rw [this]
  cases DateP.dayP d
  · rfl
  · cases nameP DateP.monNames m <;> rfl
theorem rest_code (W : List (List UInt8)) (hne : ∀ w ∈ W, w ≠ []) : restP W = codeP W := by
  unfold codeP
  match W with
  | [] => rw [show ([] : List (List UInt8)).headD [] = [] from rfl, date_none1]; rfl
  | [d] => simp only [List.tail_cons, List.headD_cons, List.tail_nil, List.headD_nil]; rw [date_none2]; rfl
  | [d, m] => simp only [List.tail_cons, List.headD_cons, List.tail_nil, List.headD_nil]; rw [date_none3]; rfl
  | [d, m, y] =>
    simp only [List.tail_cons, List.headD_cons, List.tail_nil, List.headD_nil]
    have : clockV [] = none := rfl
    rw [this]
    cases dateV d m y <;> rfl
  | d :: m :: y :: h :: z =>
    simp only [List.tail_cons, List.headD_cons]
    unfold restP dateV clockV
    simp only []
    have hz : zone? z = if z.tail.headD [] = [] then zoneAll (z.headD []) else none := by
      match z with
      | [] => rfl
      | [w] =>
        have hw : w ≠ [] := hne w (by simp)
        simp only [List.tail_cons, List.headD_nil, if_true, List.headD_cons]
        unfold zone? zoneAll
        simp only []
        rw [if_neg hw]
      | w :: w2 :: r =>
        have hw : w2 ≠ [] := hne w2 (by simp)
        rw [if_neg (show ¬ (w :: w2 :: r).tail.headD [] = [] from hw)]
        rfl
    cases DateP.dayP d with
    | none => rfl
    | some dd =>
      cases nameP DateP.monNames m with
      | none => rfl
      | some mm =>
        cases DateP.yearP y with
        | none => rfl
        | some yy =>
          simp only [Option.bind_some]
          cases ht : DateP.timeP h with
          | none =>
            simp only [Option.bind_none, Option.map_none]
            split <;> rfl
          | some sec =>
            simp only [Option.bind_some, Option.map_some]
            rw [hz]
            by_cases he : z.tail.headD [] = []
            · rw [if_pos he]
              by_cases hI : DateP.Is yy (mm + 1) dd
              · rw [if_pos hI]
                simp only [Option.bind_some]
                cases zoneAll (z.headD []) with
                | none => rfl
                | some zz =>
                  simp only [Option.bind_some, he, hI, true_and]
              · rw [if_neg hI]
                cases zoneAll (z.headD []) with
                | none => rfl
                | some zz =>
                  simp only [Option.bind_some, Option.bind_none, hI, false_and, if_false]
            · rw [if_neg he]
              split
              · cases zoneAll (z.headD []) with
                | none => rfl
                | some zz => simp only [Option.bind_some, Option.bind_none, he, false_and, if_false]
              · rfl
theorem read_code (s : ByteArray) : readV s = codeP (bodyW (wd 0 [] s.data.toList)) := by
  have hne := wd_ne s.data.toList.length s.data.toList (Nat.le_refl _) 0 []
  unfold readV
  cases hw : wd 0 [] s.data.toList with
  | nil =>
    decide
  | cons w t =>
    rw [hw] at hne
    have e1 : readP (w :: t) = if (nameP dayNames w).isSome then restP t else restP (w :: t) := rfl
    have e2 : bodyW (w :: t) = if (nameP dayNames w).isSome then t else w :: t := rfl
    rw [e1, e2]
    by_cases h : (nameP dayNames w).isSome = true
    · rw [if_pos h, if_pos h]
      exact rest_code t (fun x hx => hne x (List.mem_cons_of_mem _ hx))
    · rw [if_neg h, if_neg h]
      exact rest_code (w :: t) hne
theorem wd_len : ∀ (n : Nat) (l : List UInt8), l.length ≤ n → ∀ (k : Nat) (cur : List UInt8), ∀ w ∈ wd k cur l, w.length ≤ cur.length + l.length
  | _, [], _, 0, cur, w, h => by
    rw [wd] at h
    unfold DateP.flush at h
    split at h
    · cases h
    · obtain rfl := List.mem_singleton.1 h
      simp
  | _, [], _, k + 1, cur, w, h => by rw [wd_end] at h; cases h
  | n + 1, c :: t, hl, 0, cur, w, h => by
    simp only [List.length_cons] at hl ⊢
    have hf : ∀ ws : List (List UInt8), (∀ w ∈ ws, w.length ≤ t.length) → w ∈ DateP.flush cur ws → w.length ≤ cur.length + (t.length + 1) := fun ws hws hw => by
      unfold DateP.flush at hw
      split at hw
      · have := hws w hw; omega
      · rcases List.mem_cons.1 hw with rfl | hw
        · omega
        · have := hws w hw; omega
    rw [wd_step] at h
    split at h
    · exact hf _ (fun w hw => by have := wd_len n t (by omega) 0 [] w hw; simpa using this) h
    · split at h
      · exact hf _ (fun w hw => by have := wd_len n t (by omega) 1 [] w hw; simpa using this) h
      · have := wd_len n t (by omega) 0 _ w h
        rw [List.length_append] at this
        simp only [List.length_cons, List.length_nil] at this
        omega
  | n + 1, [c], hl, k + 1, cur, w, h => by
    rw [wd_one] at h
    split at h
    · have := wd_len n [] (Nat.zero_le _) k [] w h
      simp at this
      simp [this]
    · cases h
  | n + 2, c :: x :: t, hl, k + 1, cur, w, h => by
    simp only [List.length_cons] at hl ⊢
    rw [wd_two] at h
    split at h
    · have := wd_len n t (by omega) (k + 1) [] w h; simp at this; omega
    · split at h
      · have := wd_len (n + 1) (x :: t) (by simp; omega) (k + 2) [] w h; simp at this; omega
      · split at h
        · have := wd_len (n + 1) (x :: t) (by simp; omega) k [] w h; simp at this; omega
        · have := wd_len (n + 1) (x :: t) (by simp; omega) (k + 1) [] w h; simp at this; omega
  | 0, _ :: _, hl, _, _, _, _ => by simp at hl
  | 1, _ :: _ :: _, hl, _, _, _, _ => by simp at hl

/-- While Read runs: its result's cell, the captured rest with its words, all older memory. -/
structure Rd (w0 w : World) (ws : List (List UInt8)) : Prop where
  vars : Vars w0
  bel : Below w0.heap.size w0 w
  res : Tm w w0.heap.size 0 0
  cap : ∃ r, Cap w (w0.heap.size + 1) r ∧ wd 0 [] r.data.toList = ws ∧ r.size ≤ 400
  len : ∀ x ∈ ws, x.length ≤ 400
theorem Rd.v {w0 w : World} {ws : List (List UInt8)} (h : Rd w0 w ws) : Vars w := h.vars.below h.bel
theorem Rd.low {w0 w : World} {ws : List (List UInt8)} (h : Rd w0 w ws) : w0.heap.size + 1 < w.heap.size := by
  obtain ⟨r, hc, _⟩ := h.cap
  exact (Array.getElem?_eq_some_iff.1 hc).1
theorem Rd.call {w0 w w' : World} {ws : List (List UInt8)} (h : Rd w0 w ws) (hb : Below w.heap.size w w') : Rd w0 w' ws := by
  obtain ⟨r, hc, hr⟩ := h.cap
  exact ⟨h.vars, h.bel.trans (hb.mono h.bel.size), h.res.below hb, ⟨r, block_below hc hb, hr⟩, h.len⟩
theorem below_far {w0 w w' : World} {b : Nat} (h : Below w0.heap.size w0 w) (hg : w.grownBy w' (some b)) (hb : w0.heap.size ≤ b) : Below w0.heap.size w0 w' := h.grown hg (h.size) (fun k hk => by cases hk; exact hb)
/-- The first word, as a string; and the words behind it. -/
def hdS (ws : List (List UInt8)) : ByteArray := strL (ws.headD [])
def tlW (ws : List (List UInt8)) : List (List UInt8) := ws.tail
theorem next_any {w0 w : World} {ws : List (List UInt8)} (h : Rd w0 w ws) :
    Calls Tryz.prog 29 #[.pointer (some ⟨w0.heap.size + 1, 0, none⟩)] w fun e w' => e = .returned (.string (hdS ws)) ∧ Rd w0 w' (tlW ws) := by
  obtain ⟨r, hc, hr, hz⟩ := h.cap
  subst hr
  refine (split_any r (by omega) _ w hc).mono fun e w' ⟨he, ⟨r', hc', hr', hz'⟩, hg⟩ => ⟨he, h.vars, below_far h.bel hg (by omega), ?_, ⟨r', hc', hr', by omega⟩, fun x hx => h.len x (List.mem_of_mem_tail hx)⟩
  unfold Tm
  rw [hg.block _ (h.res.lt) (by simp)]
  exact h.res
theorem Rd.head {w0 w : World} {ws : List (List UInt8)} (h : Rd w0 w ws) : (hdS ws).size ≤ 500 := by
  unfold hdS
  rw [strL_size]
  cases ws with
  | nil => simp
  | cons x t => have := h.len x List.mem_cons_self; simp only [List.headD_cons]; omega
theorem hd_size {W : List (List UInt8)} (h : ∀ x ∈ W, x.length ≤ 400) : (hdS W).size ≤ 500 := by
  unfold hdS
  rw [strL_size]
  cases W with
  | nil => simp
  | cons x t => have := h x List.mem_cons_self; simp only [List.headD_cons]; omega
theorem tl_len {W : List (List UInt8)} (h : ∀ x ∈ W, x.length ≤ 400) : ∀ x ∈ tlW W, x.length ≤ 400 := fun x hx => h x (List.mem_of_mem_tail hx)
theorem hd_empty (W : List (List UInt8)) : (hdS W).toList.isEmpty = decide (W.headD [] = []) := by
  unfold hdS
  rw [ByteArray.toList_eq, strL_list]
  cases W.headD [] <;> simp
theorem Tm.f0 {w : World} {b : Nat} {u z : Int} (h : Tm w b u z) : w.frozen? ⟨b, 0, none⟩ = false := by
  unfold World.frozen?; rw [h]; rfl
theorem Tm.f1 {w : World} {b : Nat} {u z : Int} (h : Tm w b u z) : w.frozen? ⟨b, 1, none⟩ = false := by
  unfold World.frozen?; rw [h]; rfl
theorem Tm.set2 {w : World} {b : Nat} {u z : Int} (h : Tm w b u z) (u' z' : Int) : Tm ((w.setCell ⟨b, 0, none⟩ (.int .i64 u')).setCell ⟨b, 1, none⟩ (.int .i64 z')) b u' z' := by
  have h1 := heap_setCell_same w b 0 _ _ (.int .i64 u') h
  have h2 := heap_setCell_same _ b 1 _ _ (.int .i64 z') h1
  exact h2
theorem set2_below {w0 w : World} {u z : Int} (h : Below w0.heap.size w0 w) : Below w0.heap.size w0 ((w.setCell ⟨w0.heap.size, 0, none⟩ (.int .i64 u)).setCell ⟨w0.heap.size, 1, none⟩ (.int .i64 z)) :=
  (h.setCell (p := ⟨w0.heap.size, 0, none⟩) (Nat.le_refl _) _).setCell (p := ⟨w0.heap.size, 1, none⟩) (Nat.le_refl _) _
theorem splitter_any (s : ByteArray) (w : World) :
    Calls Tryz.prog 18 #[.string s] w fun e w' => e = .returned (.func (.func 29) #[] #[.pointer (some ⟨w.heap.size, 0, none⟩)]) ∧ w' = w.alloc (.cells #[.string s] 9) := by
  go_enter Tryz.func18, Tryz.ntmps18
  go_wp2
  go_ret
  exact ⟨rfl, rfl⟩
theorem Rd.start {w : World} (hv : Vars w) (s : ByteArray) (hs : s.size ≤ 400) : Rd w ((w.alloc (.cells #[.int .i64 0, .int .i64 0] 23)).alloc (.cells #[.string s] 9)) (wd 0 [] s.data.toList) := by
  refine ⟨hv, ((Below.refl _ _).alloc (Nat.le_refl _) _).alloc (by simp) _, (tm_new w 0 0).alloc _, ⟨s, heap_alloc2_new _ _ _, rfl, hs⟩, fun x hx => ?_⟩
  have := wd_len s.data.toList.length s.data.toList (Nat.le_refl _) 0 [] x hx
  rw [← size_list] at this
  simp only [List.length_nil] at this
  omega
theorem zone_range (l : List UInt8) (z : Int) (h : zoneAll l = some z) : -1439 ≤ z ∧ z ≤ 1439 := by
  rw [← zone_is] at h
  unfold zoneC at h
  split at h
  · unfold offV at h
    split at h
    · cases h1 : numberV ((l.drop 1).take 2) 23 with
      | none => rw [h1] at h; cases h
      | some a =>
        cases h2 : numberV (l.drop 3) 59 with
        | none => rw [h1, h2] at h; cases h
        | some b =>
          rw [h1, h2] at h
          have b1 := numberV_short _ _ _ h1
          have b2 := numberV_short _ _ _ h2
          simp only [Option.bind_some, Option.some.injEq] at h
          split at h <;> omega
    · cases h
  · split at h
    · have := zoneHL_range (Lib.toUpperA l)
      simp only [Option.some.injEq] at h
      omega
    · cases h
theorem clock_range (l : List UInt8) (n : Int) (h : clockV l = some n) : 0 ≤ n ∧ n < 86400 := by
  unfold clockV at h
  cases ht : DateP.timeP l with
  | none => rw [ht] at h; cases h
  | some k =>
    rw [ht] at h
    have := DateP.timeP_lt ht
    simp only [Option.map_some, Option.some.injEq] at h
    omega
theorem date_range (d m y : List UInt8) (n : Int) (h : dateV d m y = some n) : -719162 ≤ n ∧ n ≤ 2932896 := by
  unfold dateV at h
  cases h1 : DateP.dayP d with
  | none => rw [h1] at h; cases h
  | some a =>
    cases h2 : nameP DateP.monNames m with
    | none => rw [h1, h2] at h; cases h
    | some b =>
      cases h3 : DateP.yearP y with
      | none => rw [h1, h2, h3] at h; cases h
      | some c =>
        rw [h1, h2, h3] at h
        simp only [Option.bind_some] at h
        split at h
        · rename_i hI
          cases h
          exact DateP.num_range hI
        · cases h
set_option maxHeartbeats 8000000 in
set_option maxRecDepth 1000000 in
theorem read_any (s : ByteArray) (hs : s.size ≤ 400) (w : World) (hv : Vars w) :
    Calls Tryz.prog 9 #[.string s] w fun e w' => e = .returned (.tuple #[timeV ((readV s).getD (0, 0)).1 ((readV s).getD (0, 0)).2, .bool (readV s).isSome]) ∧ Below w.heap.size w w' := by
  rw [read_code]
  obtain ⟨ws, hws⟩ : ∃ ws, wd 0 [] s.data.toList = ws := ⟨_, rfl⟩
  have hst := Rd.start hv s hs
  rw [hws] at hst ⊢
  have HST := Lib.hid hst
  obtain ⟨W, hW⟩ : ∃ W, bodyW ws = W := ⟨_, rfl⟩
  rw [hW]
  obtain ⟨o, ho⟩ : ∃ o, codeP W = o := ⟨_, rfl⟩
  rw [ho]
  have HO := Lib.hid ho
  have HWs := Lib.hid hW
  clear hst hws ho hW
  obtain ⟨b, hb⟩ : ∃ b, (nameP dayNames (ws.headD [])).isSome = b := ⟨_, rfl⟩
  have HD := Lib.hid (fun Q (hQ : Vars Q) => weekday_any (hdS ws) Q hQ)
  rw [show (hdS ws).data.toList = ws.headD [] from rfl, hb] at HD
  have HB := Lib.hid (show (b = true → W = tlW ws) ∧ (b = false → W = ws) from by
    have := HWs.out
    unfold bodyW at this
    rw [hb] at this
    constructor
    · rintro rfl; exact this.symm
    · rintro rfl; exact this.symm)
  have hbW : ∀ x ∈ W, x.length ≤ 400 := by
    have := HST.out.len
    cases b with
    | true => rw [HB.out.1 rfl]; exact fun x hx => this x (List.mem_of_mem_tail hx)
    | false => rw [HB.out.2 rfl]; exact this
  have hb1 := tl_len hbW
  have hb2 := tl_len hb1
  have hb3 := tl_len hb2
  have hb4 := tl_len hb3
  obtain ⟨oD, hoD⟩ : ∃ oD, dateV (W.headD []) (W.tail.headD []) (W.tail.tail.headD []) = oD := ⟨_, rfl⟩
  obtain ⟨oS, hoS⟩ : ∃ oS, clockV (W.tail.tail.tail.headD []) = oS := ⟨_, rfl⟩
  obtain ⟨oZ, hoZ⟩ : ∃ oZ, zoneAll (W.tail.tail.tail.tail.headD []) = oZ := ⟨_, rfl⟩
  have HDt := Lib.hid (fun Q (hQ : Vars Q) => date_any (hdS W) (hdS (tlW W)) (hdS (tlW (tlW W))) (hd_size hbW) (hd_size hb2) Q hQ)
  have HCl := Lib.hid (fun Q (hQ : Vars Q) => clock_any (hdS (tlW (tlW (tlW W)))) (hd_size hb3) Q hQ)
  have HZn := Lib.hid (fun Q (hQ : Vars Q) => zone_any (hdS (tlW (tlW (tlW (tlW W))))) (hd_size hb4) Q hQ)
  rw [show dateV (hdS W).data.toList (hdS (tlW W)).data.toList (hdS (tlW (tlW W))).data.toList = oD from hoD] at HDt
  rw [show clockV (hdS (tlW (tlW (tlW W)))).data.toList = oS from hoS] at HCl
  rw [show zoneAll (hdS (tlW (tlW (tlW (tlW W))))).data.toList = oZ from hoZ] at HZn
  have rD := date_range (W.headD []) (W.tail.headD []) (W.tail.tail.headD [])
  have rS := clock_range (W.tail.tail.tail.headD [])
  have rZ := zone_range (W.tail.tail.tail.tail.headD [])
  rw [hoD] at rD
  rw [hoS] at rS
  rw [hoZ] at rZ
  unfold codeP at HO
  rw [hoD, hoS, hoZ] at HO
  have HR := Lib.hid (And.intro rD (And.intro rS rZ))
  have HE := Lib.hid (show (hdS (tlW (tlW (tlW (tlW (tlW W)))))).toList.isEmpty = decide (W.tail.tail.tail.tail.tail.headD [] = []) from hd_empty (W.tail.tail.tail.tail.tail))
  clear hb HWs hbW hb1 hb2 hb3 hb4 hoD hoS hoZ rD rS rZ
  go_enter Tryz.func9, Tryz.ntmps9
  go_upto_if 18 with (first
    | (go_at_call 18; refine (splitter_any s _).mono ?_; rintro e w1 ⟨rfl, rfl⟩; have st := HST.out)
    | (go_at_call 29; refine (next_any st).mono ?_; rintro e w2 ⟨rfl, st⟩)
    | (go_at_call 19; refine (HD.out _ st.v).mono ?_; rintro e w3 ⟨rfl, hb⟩; have st := st.call hb))
  go_cut [5] (fun x wx => x = .string (hdS W) ∧ Rd w wx (tlW W))
  case first =>
    cases b with
    | true =>
      obtain rfl := HB.out.1 rfl
      go_wp2_with (go_at_call 29; refine (next_any st).mono ?_; rintro e w4 ⟨rfl, st⟩)
      go_meet
      exact ⟨rfl, st⟩
    | false =>
      obtain rfl := HB.out.2 rfl
      go_wp2_with fail
      go_meet
      exact ⟨rfl, st⟩
  case rest =>
    obtain ⟨rfl, st⟩ := hcut
    have hnone : Hid ((oD = none ∨ oS = none ∨ oZ = none) → o = none) := fun h => by
      rw [← HO.out]
      rcases h with rfl | rfl | rfl
      · rfl
      · cases oD <;> rfl
      · cases oD
        · rfl
        · cases oS <;> rfl
    cases oD with
    | none =>
      obtain rfl := hnone.out (.inl rfl)
      go_wp2_with (first
        | (go_at_call 29; refine (next_any st).mono ?_; rintro e w5 ⟨rfl, st⟩)
        | (go_at_call 20; refine (HDt.out _ st.v).mono ?_; rintro e w6 ⟨rfl, hb⟩; have st := st.call hb)
        | (go_at_call 21; refine (HCl.out _ st.v).mono ?_; rintro e w7 ⟨rfl, hb⟩; have st := st.call hb)
        | (go_at_call 22; refine (HZn.out _ st.v).mono ?_; rintro e w8 ⟨rfl, hb⟩; have st := st.call hb; have c0 := st.res.c0; have c1 := st.res.c1; have f0 := st.res.f0; have f1 := st.res.f1))
      exact bodyPost_ret (results_cell_row2 Tryz.results9 _ _ w.heap.size 23 #[.int .i64 0, .int .i64 0] (0, 0) _ (.bool false) rfl rfl (Tm.set2 st.res 0 0) Tryz.underlying23 rfl (by kernel_rfl)) rfl ⟨rfl, set2_below st.bel⟩
    | some D =>
      cases oS with
      | none =>
        obtain rfl := hnone.out (.inr (.inl rfl))
        go_wp2_with (first
          | (go_at_call 29; refine (next_any st).mono ?_; rintro e w5 ⟨rfl, st⟩)
          | (go_at_call 20; refine (HDt.out _ st.v).mono ?_; rintro e w6 ⟨rfl, hb⟩; have st := st.call hb)
          | (go_at_call 21; refine (HCl.out _ st.v).mono ?_; rintro e w7 ⟨rfl, hb⟩; have st := st.call hb)
          | (go_at_call 22; refine (HZn.out _ st.v).mono ?_; rintro e w8 ⟨rfl, hb⟩; have st := st.call hb; have c0 := st.res.c0; have c1 := st.res.c1; have f0 := st.res.f0; have f1 := st.res.f1))
        exact bodyPost_ret (results_cell_row2 Tryz.results9 _ _ w.heap.size 23 #[.int .i64 0, .int .i64 0] (0, 0) _ (.bool false) rfl rfl (Tm.set2 st.res 0 0) Tryz.underlying23 rfl (by kernel_rfl)) rfl ⟨rfl, set2_below st.bel⟩
      | some S =>
        cases oZ with
        | none =>
          obtain rfl := hnone.out (.inr (.inr rfl))
          go_wp2_with (first
            | (go_at_call 29; refine (next_any st).mono ?_; rintro e w5 ⟨rfl, st⟩)
            | (go_at_call 20; refine (HDt.out _ st.v).mono ?_; rintro e w6 ⟨rfl, hb⟩; have st := st.call hb)
            | (go_at_call 21; refine (HCl.out _ st.v).mono ?_; rintro e w7 ⟨rfl, hb⟩; have st := st.call hb)
            | (go_at_call 22; refine (HZn.out _ st.v).mono ?_; rintro e w8 ⟨rfl, hb⟩; have st := st.call hb; have c0 := st.res.c0; have c1 := st.res.c1; have f0 := st.res.f0; have f1 := st.res.f1))
          exact bodyPost_ret (results_cell_row2 Tryz.results9 _ _ w.heap.size 23 #[.int .i64 0, .int .i64 0] (0, 0) _ (.bool false) rfl rfl (Tm.set2 st.res 0 0) Tryz.underlying23 rfl (by kernel_rfl)) rfl ⟨rfl, set2_below st.bel⟩
        | some Z =>
          obtain ⟨h1, h2⟩ := HR.out.1 D rfl
          obtain ⟨h3, h4⟩ := HR.out.2.1 S rfl
          obtain ⟨h5, h6⟩ := HR.out.2.2 Z rfl
          by_cases hl : W.tail.tail.tail.tail.tail.headD [] = []
          · have he := HE.out
            rw [decide_eq_true hl] at he
            obtain ⟨U, hU⟩ : ∃ U, 86400 * D + S - 60 * Z = U := ⟨_, rfl⟩
            have hUU : D * 86400 + S - Z * 60 = U := by omega
            have hR := right_any (D * 86400 + S - Z * 60) Z
            unfold timeV at hR
            by_cases hr : Right U Z
            · rw [hUU, decide_eq_true hr, ← hUU] at hR
              have HRt := Lib.hid hR
              obtain rfl : o = some (U, Z) := by
                rw [← HO.out]
                simp only [Option.bind_some]
                rw [hU, if_pos ⟨hl, hr⟩]
              have HU := Lib.hid hUU
              clear hl hr hU hUU hR
              go_wp2_with (first
                | (go_at_call 29; refine (next_any st).mono ?_; rintro e w5 ⟨rfl, st⟩)
                | (go_at_call 20; refine (HDt.out _ st.v).mono ?_; rintro e w6 ⟨rfl, hb⟩; have st := st.call hb)
                | (go_at_call 21; refine (HCl.out _ st.v).mono ?_; rintro e w7 ⟨rfl, hb⟩; have st := st.call hb)
                | (go_at_call 22; refine (HZn.out _ st.v).mono ?_; rintro e w8 ⟨rfl, hb⟩; have st := st.call hb)
                | (go_at_call 10; refine (HRt.out _).mono ?_; rintro e w10 ⟨rfl, hb⟩; have tm := (tm_new w5 (D * 86400 + S - Z * 60) Z).below hb; have st := (st.call ((Below.refl _ _).alloc (Nat.le_refl _) _)).call hb; have d0 := st.res.c0; have d1 := st.res.c1; have g0 := st.res.f0; have g1 := st.res.f1; have q0 := tm.c0; have q1 := tm.c1))
              exact bodyPost_ret (results_cell_row2 Tryz.results9 _ _ w.heap.size 23 #[.int .i64 (D * 86400 + S - Z * 60), .int .i64 Z] (0, 0) _ (.bool true) rfl rfl (Tm.set2 st.res (D * 86400 + S - Z * 60) Z) Tryz.underlying23 rfl (by kernel_rfl)) rfl ⟨by rw [HU.out]; rfl, set2_below st.bel⟩
            · rw [hUU, decide_eq_false hr, ← hUU] at hR
              have HRt := Lib.hid hR
              obtain rfl : o = none := by
                rw [← HO.out]
                simp only [Option.bind_some]
                rw [hU, if_neg (fun k => hr k.2)]
              clear hl hr hU hUU hR
              go_wp2_with (first
                | (go_at_call 29; refine (next_any st).mono ?_; rintro e w5 ⟨rfl, st⟩)
                | (go_at_call 20; refine (HDt.out _ st.v).mono ?_; rintro e w6 ⟨rfl, hb⟩; have st := st.call hb)
                | (go_at_call 21; refine (HCl.out _ st.v).mono ?_; rintro e w7 ⟨rfl, hb⟩; have st := st.call hb)
                | (go_at_call 22; refine (HZn.out _ st.v).mono ?_; rintro e w8 ⟨rfl, hb⟩; have st := st.call hb)
                | (go_at_call 10; refine (HRt.out _).mono ?_; rintro e w10 ⟨rfl, hb⟩; have tm := (tm_new w5 (D * 86400 + S - Z * 60) Z).below hb; have st := (st.call ((Below.refl _ _).alloc (Nat.le_refl _) _)).call hb; have d0 := st.res.c0; have d1 := st.res.c1; have g0 := st.res.f0; have g1 := st.res.f1; have q0 := tm.c0; have q1 := tm.c1))
              exact bodyPost_ret (results_cell_row2 Tryz.results9 _ _ w.heap.size 23 #[.int .i64 0, .int .i64 0] (0, 0) _ (.bool false) rfl rfl (Tm.set2 st.res 0 0) Tryz.underlying23 rfl (by kernel_rfl)) rfl ⟨rfl, set2_below st.bel⟩
          · have he := HE.out
            rw [decide_eq_false hl] at he
            obtain rfl : o = none := by
              rw [← HO.out]
              simp only [Option.bind_some]
              rw [if_neg (fun k => hl k.1)]
            clear hl
            go_wp2_with (first
              | (go_at_call 29; refine (next_any st).mono ?_; rintro e w5 ⟨rfl, st⟩; have d0 := st.res.c0; have d1 := st.res.c1; have g0 := st.res.f0; have g1 := st.res.f1)
              | (go_at_call 20; refine (HDt.out _ st.v).mono ?_; rintro e w6 ⟨rfl, hb⟩; have st := st.call hb)
              | (go_at_call 21; refine (HCl.out _ st.v).mono ?_; rintro e w7 ⟨rfl, hb⟩; have st := st.call hb)
              | (go_at_call 22; refine (HZn.out _ st.v).mono ?_; rintro e w8 ⟨rfl, hb⟩; have st := st.call hb; have c0 := st.res.c0; have c1 := st.res.c1; have f0 := st.res.f0; have f1 := st.res.f1))
            exact bodyPost_ret (results_cell_row2 Tryz.results9 _ _ w.heap.size 23 #[.int .i64 0, .int .i64 0] (0, 0) _ (.bool false) rfl rfl (Tm.set2 st.res 0 0) Tryz.underlying23 rfl (by kernel_rfl)) rfl ⟨rfl, set2_below st.bel⟩
end Go.Proofs.YtnmdljadnlddeaaGreatDoor
