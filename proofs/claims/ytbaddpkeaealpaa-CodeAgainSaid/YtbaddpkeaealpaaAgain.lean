/- The law CodeAgain: its walk. -/
import Derived.Test.YtbaddpkeaealpaaAgain0
namespace Go.Proofs.Ytbaddpkeaealpaa
open Go.ChangeShapes Go.WideShapes Go.ChangeAt Go.RowKit

theorem again_out (S : List UInt8) {u : Value} {a : Option Addr} {k c : Nat} (hu : u = .slice a k c) (ho : 10000 < S.length ∨ 20 < k) (w : World) :
    Calls Try.prog 6 #[.string ⟨S.toArray⟩, u] w fun e w' => e = .returned (.bool true) ∧ Below w.heap.size w w' := by
  subst hu
  have HS := Lib.hid (small_any w)
  rcases (show 10000 < S.length ∨ (S.length ≤ 10000 ∧ 20 < k) by omega) with h | ⟨h, hk⟩
  all_goals
    clear ho
    go_enter Try.func6, Try.ntmps6
    go_wp2_with fail
    refine HS.out.mono ?_
    rintro e w1 ⟨rfl, hb⟩
    go_wp2_with fail
    refine (open_any _ _).mono ?_
    rintro e w2 ⟨rfl, _, g⟩
    replace hb := hb.grown g hb.size (fun k h => by cases h); clear g
    go_wp2_with fail
    go_ret
    exact ⟨rfl, hb⟩

theorem own_grown0 {w w' : World} {base e size n : Nat} {v : Value} {xs : List Value} (h : w.ownsRow base e size v n xs) (hg : w.grownBy w' none) : w'.ownsRow base e size v n xs :=
  h.kept hg (by cases hv : v.ownBlock <;> simp)
theorem grown_weak {w w' : World} (hg : w.grownBy w' none) (row : Option Nat) : w.grownBy w' row := ⟨hg.os, hg.tape, hg.output, hg.size, fun k hk _ => hg.block k hk (fun e => by cases e)⟩
theorem l0 : (listL []).length ≤ 9 := listL_len [] (fun x hx => by cases hx) (by simp)
theorem n0 : (numsL []).length ≤ 9 := numsL_len [] (fun x hx => by cases hx) (by simp)
/-- A value of a kind alone. -/
def V0 (z : Int) : V := ⟨z, 0, [], .slice none 0 0, [], .slice none 0 0, []⟩
theorem ok0 {z : Int} {s : RS} : OkV { V0 z with n := ((numP s).1 : Int) } := by
  have h1 := (numP_len s).2
  have h2 := l0
  have h3 := n0
  exact ⟨by show ((numP s).1 : Int) ≤ _; omega, by show [].length ≤ _; simp, by show (listL []).length ≤ _; omega, by show [].length ≤ _; simp, by show (numsL []).length ≤ _; omega, fun y hy => by cases hy⟩
theorem ok1 {z : Int} {s : RS} (h : s.1.length ≤ 10000) : OkV { V0 z with text := (textP s).1 } := by
  have h1 := (textP_len s).2
  have h2 := l0
  have h3 := n0
  exact ⟨by show (0 : Int) ≤ _; omega, by show (textP s).1.length ≤ _; omega, by show (listL []).length ≤ _; omega, by show [].length ≤ _; simp, by show (numsL []).length ≤ _; omega, fun y hy => by cases hy⟩
theorem ok2 {z : Int} {s : RS} {v : Value} (h : s.1.length ≤ 10000) (hg : Good s) : OkV { V0 z with tv := v, texts := (allP textP s).1 } := by
  have h2 := l0
  have h3 := n0
  have h4 : (listL (allP textP s).1).length ≤ 10000 := by
    cases hf : (allP textP s).2.2 with
    | true => rw [allP_flag hg hf]; omega
    | false =>
      have := congrArg List.length (listP_back hf).2
      rw [List.length_append] at this
      omega
  exact ⟨by show (0 : Int) ≤ _; omega, by show [].length ≤ _; simp, by show (listL (allP textP s).1).length ≤ _; omega, by show [].length ≤ _; simp, by show (numsL []).length ≤ _; omega, fun y hy => by cases hy⟩
theorem ok3 {z : Int} {s : RS} {v : Value} (h : s.1.length ≤ 10000) (hg : Good s) : OkV { V0 z with uv := v, nums := (allP intP s).1 } := by
  have h2 := l0
  have h3 := n0
  have h5 := (allP_len (f := intP) intP_len s).2
  have h4 : (numsL (allP intP s).1).length ≤ 10000 := by
    cases hf : (allP intP s).2.2 with
    | true => rw [allP_flag hg hf]; omega
    | false =>
      have := congrArg List.length (numsP_back hf).2
      rw [List.length_append] at this
      omega
  exact ⟨by show (0 : Int) ≤ _; omega, by show [].length ≤ _; simp, by show (listL []).length ≤ _; omega, by show (allP intP s).1.length ≤ _; omega, by show (numsL (allP intP s).1).length ≤ _; omega, nums_each s⟩
theorem inv_step {S : List UInt8} {acc : List V} {x : V} {s s' : RS} (h : s.2 = false → S = acc.flatMap encV ++ s.1) (hb : s'.2 = false → s.2 = false ∧ s.1 = encV x ++ s'.1) : s'.2 = false → S = (acc ++ [x]).flatMap encV ++ s'.1 := by
  intro hf
  obtain ⟨h1, h2⟩ := hb hf
  rw [h h1, h2, List.flatMap_append]; simp
set_option maxRecDepth 100000 in
set_option maxHeartbeats 3200000 in
theorem again_in (S : List UInt8) (hs : S.length ≤ 10000) {u : Value} {ys : List Int} {w : World} (hu : Has intV w u ys) (hk : ys.length ≤ 20) :
    Calls Try.prog 6 #[.string ⟨S.toArray⟩, u] w fun e w' => e = .returned (.bool true) ∧ Below w.heap.size w w' := by
  obtain ⟨i0, hi, hz0, hz1, hz2⟩ := info_parts info47
  have HSM := Lib.hid (small_any w)
  have HU := Lib.hid hu
  obtain ⟨a, c, hsh⟩ := hu.shape
  subst hsh
  obtain ⟨n, hn⟩ : ∃ n, ys.length = n := ⟨_, rfl⟩
  rw [hn] at hk HU ⊢
  have HN := Lib.hid hn
  clear hu hn
  go_enter Try.func6, Try.ntmps6
  go_wp2_with fail
  refine HSM.out.mono ?_
  rintro e w1 ⟨rfl, hb⟩
  go_wp2_with fail
  refine (open_any _ _).mono ?_
  rintro e w2 ⟨rfl, hr, g⟩
  have HRD := Lib.hid (show Rd 57 w2 w1.heap.size (S, false) from hr)
  have hlo : Hid (w.heap.size ≤ w1.heap.size) := hb.size
  have HB := Lib.hid (hb.grown g hb.size (fun k h => by cases h))
  have HG := Lib.hid g.size
  clear hr g hb
  obtain ⟨r, hr⟩ : ∃ r, w1.heap.size = r := ⟨_, rfl⟩
  rw [hr] at HRD hlo ⊢
  clear hr HG
  go_wp2_with fail
  go_loopw [7, 8] (fun l i wr => ∃ (k : Nat) (acc : List V) (st : RS), k ≤ n ∧ i = .int .i64 k ∧ acc.length = k ∧ Hid (wr.ownsRow w.heap.size 47 5 l acc.length (acc.flatMap cellsV)) ∧ Hid (l.ownBlock ≠ some r) ∧ Hid (Acc wr r l.ownBlock acc) ∧ Hid (∀ x ∈ acc, OkV x) ∧ Hid (Rd 57 wr r st) ∧ Hid (Good st) ∧ Hid (st.1.length ≤ 10000) ∧ Hid (st.2 = false → S = acc.flatMap encV ++ st.1) ∧ Hid (Below w.heap.size w wr))
    (fun _ i _ => n - (intOf i).toNat)
  case atStart => exact ⟨0, [], (S, false), Nat.zero_le _, rfl, rfl, World.ownsRow_nil _ _ _ _, (show Value.ownBlock (.slice none 0 0) ≠ some r from fun e => by cases e), Acc.nil _ _ _, (show ∀ x ∈ ([] : List V), OkV x from fun x hx => by cases hx), HRD, (show Good (S, false) from fun h => by cases h), hs, (show (S, false).2 = false → S = ([] : List V).flatMap encV ++ (S, false).1 from fun _ => rfl), HB⟩
  case round =>
    clear HRD HB
    obtain ⟨k, acc, st, hk2, rfl, hacc, hown, hlr, hAcc, hok, hrd, hgd, hsl, hinv, hbel⟩ := hrel
    by_cases hlt : k < n
    · have hcell : ∃ (a' : Addr) (z : Int), a = some a' ∧ wr.cell? (a'.add k) = some (.int .i64 z) := by
        have hjy : k < ys.length := by have := HN.out; omega
        rcases HU.out with ⟨h, h0⟩ | ⟨a', c', h, h2⟩
        · rw [h0] at hjy; simp at hjy
        · refine ⟨a', ys[k], ?_, ?_⟩
          · injection h
          · have h3 := h2 k hjy
            rw [hbel.out.cell (World.block_lt_of_cell? w _ h3)]; exact h3
      obtain ⟨a', z, rfl, hcell⟩ := hcell
      have hblk0 : Blk (wr.alloc (.cells #[.int .i64 z, .int .i64 0, .string ⟨#[]⟩, .slice none 0 0, .slice none 0 0] 47)) wr.heap.size (V0 z) := heap_alloc_new wr _
      have HBL0 := Lib.hid hblk0
      have hrlt := Lib.hid hrd.out.lt
      have holt := Lib.hid hown.out.lt
      clear hblk0
      rcases kindP_four (V0 z) with hk0 | hk0 | hk0 | hk0
      · have HKD := Lib.hid (fun W => kind_is hk0 W)
        have HK0 := Lib.hid hk0
        clear hk0
        go_wp2_with fail
        refine (HKD.out _).mono ?_
        rintro e w3 ⟨rfl, hb3⟩
        have g3 : wr.grownBy w3 none := grown_trans (World.grownBy_alloc wr _ none) (grown_below hb3)
        have hblk3 := Lib.hid (HBL0.out.kept (grown_below hb3) (fun e => by cases e))
        have hrd3 := Lib.hid (hrd.out.kept g3 (fun e => by cases e))
        have G3 := Lib.hid g3
        have S3 : Hid (wr.heap.size < w3.heap.size) := by have := hb3.size; show _ < _; simp at this; omega
        clear hb3 g3
        obtain ⟨bt, hbt⟩ : ∃ b, wr.heap.size = b := ⟨_, rfl⟩
        rw [hbt] at hblk3 S3 ⊢
        have HBT := Lib.hid hbt
        clear hbt hcell
        go_wp2_with fail
        refine (num_any hrd3.out).mono ?_
        rintro e w5 ⟨rfl, h5, g5⟩
        skip
        have hbr : bt ≠ r := by have h1 := hrlt.out; have h2 := HBT.out; omega
        have hblk5 := hblk3.out.kept g5 (fun e => hbr (by injection e))
        have hblk6 := hblk5.set1 ((numP st).1 : Int)
        have G6 : w5.grownBy ((w5.setCell ⟨bt, 1, none⟩ (.int .i64 ((numP st).1 : Int))).alloc (.cells (cellsV ({ V0 z with n := ((numP st).1 : Int) })).toArray 47)) (some bt) := grown_trans (grown_set _ _ _ _) (World.grownBy_alloc _ _ _)
        have GT := grown_far (grown_trans (grown_weak G3.out (some r)) g5) G6 (fun j hj => by injection hj with hj; have := HBT.out; omega)
        have S5 := Lib.hid (Nat.lt_of_lt_of_le S3.out g5.size)
        have hown6 := Lib.hid (hown.out.kept GT (Or.inr hlr.out))
        have hAcc6 := Lib.hid (hAcc.out.step GT (fun k _ h1 _ e => h1 (by injection e)) (fun _ _ h => h))
        have hrd6 := Lib.hid (h5.kept G6 (fun e => hbr (by injection e with e; exact e.symm)))
        have hbel6 := Lib.hid (hbel.out.grown GT hbel.out.size (fun k h => by cases h; exact Nat.le_trans hlo.out (Nat.le_refl _)))
        have hT6 : Hid (Has strV ((w5.setCell ⟨bt, 1, none⟩ (.int .i64 ((numP st).1 : Int))).alloc (.cells (cellsV ({ V0 z with n := ((numP st).1 : Int) })).toArray 47)) ({ V0 z with n := ((numP st).1 : Int) }).tv ({ V0 z with n := ((numP st).1 : Int) }).texts) := Has.nil _ _
        have hU6 : Hid (Has intV ((w5.setCell ⟨bt, 1, none⟩ (.int .i64 ((numP st).1 : Int))).alloc (.cells (cellsV ({ V0 z with n := ((numP st).1 : Int) })).toArray 47)) ({ V0 z with n := ((numP st).1 : Int) }).uv ({ V0 z with n := ((numP st).1 : Int) }).nums) := Has.nil _ _
        have hTU : Hid (∀ k, (blk ({ V0 z with n := ((numP st).1 : Int) }).tv = some k ∨ blk ({ V0 z with n := ((numP st).1 : Int) }).uv = some k) → k < w5.heap.size ∧ k ≠ r ∧ some k ≠ Value.ownBlock u7) := fun k h => by
          rcases h with h | h
          · have : blk (.slice none 0 0) = some k := h
            cases this
          · have : blk (.slice none 0 0) = some k := h
            cases this
        have W6 : ((w5.setCell ⟨bt, 1, none⟩ (.int .i64 ((numP st).1 : Int))).alloc (.cells (cellsV ({ V0 z with n := ((numP st).1 : Int) })).toArray 47)).heap.size = w5.heap.size + 1 := by simp [World.setCell]
        have W6' : (w5.setCell ⟨bt, 1, none⟩ (.int .i64 ((numP st).1 : Int))).heap.size = w5.heap.size := by simp [World.setCell]
        have HW6 := Lib.hid W6
        have HW6' := Lib.hid W6'
        have hlow := Lib.hid (show w.heap.size ≤ w5.heap.size by have h1 := hbel.out.size; have h2 := HBT.out; have h3 := S5.out; omega)
        have HBS : Hid (w.heap.size ≤ ((w5.setCell ⟨bt, 1, none⟩ (.int .i64 ((numP st).1 : Int))).alloc (.cells (cellsV ({ V0 z with n := ((numP st).1 : Int) })).toArray 47)).heap.size) := by show _ ≤ _; rw [HW6.out]; exact Nat.le_succ_of_le hlow.out
        have q0 := hblk5.c0
        have q1 := hblk5.c1
        have q2 := hblk5.c2
        have q3 := hblk5.c3
        have q4 := hblk5.c4
        have qf := hblk5.frozen 1
        have p0 := hblk6.c0
        have p1 := hblk6.c1
        have p2 := hblk6.c2
        have p3 := hblk6.c3
        have p4 := hblk6.c4
        have HG5 := Lib.hid g5
        clear h5 g5 hblk5 hblk6 G6 GT W6 W6'
        go_wp2_with (at_builtin; ((refine wpList_append_lies _ rfl (.tmp 57) (.tmp 59) 42 rfl w.heap.size 47 i0 (.agg #[.int .i64 0, .int .i64 0, .string ⟨#[]⟩, .slice none 0 0, .slice none 0 0]) 5 80 Try.underlying42 hi hz0 hz1 hz2 rfl (by decide) _ acc.length (acc.flatMap cellsV) rfl hown6.out ⟨w5.heap.size, 0, none⟩ 1 1 (cellsV ({ V0 z with n := ((numP st).1 : Int) })) rfl rfl (cells_alloc (w5.setCell ⟨bt, 1, none⟩ (.int .i64 ((numP st).1 : Int))) w5.heap.size HW6'.out (cellsV ({ V0 z with n := ((numP st).1 : Int) })) 47) (cellsV_one hT6.out hU6.out) (by decide) (by unfold maxLen; omega) (by omega) HBS.out (w5.heap.size + 1) HW6.out ?_); intro g cap w7 hown7 hgrow7 hat7 hlt7))
        go_roundw
        case rel =>
          replace hat7 : Value.ownBlock u7 = some g ∨ g = w5.heap.size + 1 := hat7
          replace hgrow7 : ((w5.setCell ⟨bt, 1, none⟩ (.int .i64 ((numP st).1 : Int))).alloc (.cells (cellsV ({ V0 z with n := ((numP st).1 : Int) })).toArray 47)).grownBy w7 (Value.ownBlock u7) := hgrow7
          have hs7 : w5.heap.size + 1 ≤ w7.heap.size := by have := hgrow7.size; rw [HW6.out] at this; exact this
          have hgr : g ≠ r := by
            rcases hat7 with h | h
            · exact fun e => hlr.out (by rw [h, e])
            · have h1 := hrlt.out; have h2 := HBT.out; have h3 := S5.out; omega
          have hkg : ∀ k, k < w5.heap.size + 1 → some k ≠ Value.ownBlock u7 → some k ≠ some g := fun k hk h e => by
            rcases hat7 with h1 | h1
            · exact h (by rw [h1, e])
            · injection e with e; omega
          refine ⟨k + 1, acc ++ [({ V0 z with n := ((numP st).1 : Int) })], (numP st).2, by omega, by go_num, by simp [hacc], ?_, (show some g ≠ some r from fun e => hgr (by injection e)), ?_, ?_, hrd6.out.kept hgrow7 (fun e => hlr.out e.symm), numP_good hgd.out, Nat.le_trans (numP_len st).1 hsl.out, inv_step hinv.out ?_, hbel6.out.grown hgrow7 hbel6.out.size (fun k h => (holt.out k h).1)⟩
          · have e1 : (acc ++ [({ V0 z with n := ((numP st).1 : Int) })]).length = acc.length + 1 := List.length_append
            have e2 : (acc ++ [({ V0 z with n := ((numP st).1 : Int) })]).flatMap cellsV = acc.flatMap cellsV ++ cellsV ({ V0 z with n := ((numP st).1 : Int) }) := by rw [List.flatMap_append]; simp
            show w7.ownsRow _ _ _ _ _ _
            rw [e1, e2, hacc]; rw [hacc] at hown7; exact hown7
          · refine (hAcc6.out.step hgrow7 (fun k _ _ h => h) (fun k hk h => hkg k (by rw [HW6.out] at hk; exact hk) h)).snoc (hT6.out.kept hgrow7 (fun k hk => (hTU.out k (Or.inl hk)).2.2)) (hU6.out.kept hgrow7 (fun k hk => (hTU.out k (Or.inr hk)).2.2)) (fun k hk => ?_)
            obtain ⟨c1, c2, c3⟩ := hTU.out k hk
            exact ⟨by omega, c2, hkg k (by omega) c3⟩
          · intro y hy
            rcases List.mem_append.1 hy with hy | hy
            · exact hok.out y hy
            · rw [List.mem_singleton] at hy; subst hy; exact ok0
          · intro hf
            have hE : encV ({ V0 z with n := ((numP st).1 : Int) }) = varI ((numP st).1 : Int) := by have : kindP ({ V0 z with n := ((numP st).1 : Int) }) = 0 := HK0.out; simp [encV, this]
            rw [hE]
            exact by rw [varI_nat]; exact numP_back hf
        case measure => simp [intOf]; omega
      · have HKD := Lib.hid (fun W => kind_is hk0 W)
        have HK0 := Lib.hid hk0
        clear hk0
        go_wp2_with fail
        refine (HKD.out _).mono ?_
        rintro e w3 ⟨rfl, hb3⟩
        have g3 : wr.grownBy w3 none := grown_trans (World.grownBy_alloc wr _ none) (grown_below hb3)
        have hblk3 := Lib.hid (HBL0.out.kept (grown_below hb3) (fun e => by cases e))
        have hrd3 := Lib.hid (hrd.out.kept g3 (fun e => by cases e))
        have G3 := Lib.hid g3
        have S3 : Hid (wr.heap.size < w3.heap.size) := by have := hb3.size; show _ < _; simp at this; omega
        clear hb3 g3
        obtain ⟨bt, hbt⟩ : ∃ b, wr.heap.size = b := ⟨_, rfl⟩
        rw [hbt] at hblk3 S3 ⊢
        have HBT := Lib.hid hbt
        clear hbt hcell
        go_wp2_with fail
        refine (text_any hrd3.out).mono ?_
        rintro e w5 ⟨rfl, h5, g5⟩
        skip
        have hbr : bt ≠ r := by have h1 := hrlt.out; have h2 := HBT.out; omega
        have hblk5 := hblk3.out.kept g5 (fun e => hbr (by injection e))
        have hblk6 := hblk5.set2 (textP st).1
        have G6 : w5.grownBy ((w5.setCell ⟨bt, 2, none⟩ (.string ⟨(textP st).1.toArray⟩)).alloc (.cells (cellsV ({ V0 z with text := (textP st).1 })).toArray 47)) (some bt) := grown_trans (grown_set _ _ _ _) (World.grownBy_alloc _ _ _)
        have GT := grown_far (grown_trans (grown_weak G3.out (some r)) g5) G6 (fun j hj => by injection hj with hj; have := HBT.out; omega)
        have S5 := Lib.hid (Nat.lt_of_lt_of_le S3.out g5.size)
        have hown6 := Lib.hid (hown.out.kept GT (Or.inr hlr.out))
        have hAcc6 := Lib.hid (hAcc.out.step GT (fun k _ h1 _ e => h1 (by injection e)) (fun _ _ h => h))
        have hrd6 := Lib.hid (h5.kept G6 (fun e => hbr (by injection e with e; exact e.symm)))
        have hbel6 := Lib.hid (hbel.out.grown GT hbel.out.size (fun k h => by cases h; exact Nat.le_trans hlo.out (Nat.le_refl _)))
        have hT6 : Hid (Has strV ((w5.setCell ⟨bt, 2, none⟩ (.string ⟨(textP st).1.toArray⟩)).alloc (.cells (cellsV ({ V0 z with text := (textP st).1 })).toArray 47)) ({ V0 z with text := (textP st).1 }).tv ({ V0 z with text := (textP st).1 }).texts) := Has.nil _ _
        have hU6 : Hid (Has intV ((w5.setCell ⟨bt, 2, none⟩ (.string ⟨(textP st).1.toArray⟩)).alloc (.cells (cellsV ({ V0 z with text := (textP st).1 })).toArray 47)) ({ V0 z with text := (textP st).1 }).uv ({ V0 z with text := (textP st).1 }).nums) := Has.nil _ _
        have hTU : Hid (∀ k, (blk ({ V0 z with text := (textP st).1 }).tv = some k ∨ blk ({ V0 z with text := (textP st).1 }).uv = some k) → k < w5.heap.size ∧ k ≠ r ∧ some k ≠ Value.ownBlock u7) := fun k h => by
          rcases h with h | h
          · have : blk (.slice none 0 0) = some k := h
            cases this
          · have : blk (.slice none 0 0) = some k := h
            cases this
        have W6 : ((w5.setCell ⟨bt, 2, none⟩ (.string ⟨(textP st).1.toArray⟩)).alloc (.cells (cellsV ({ V0 z with text := (textP st).1 })).toArray 47)).heap.size = w5.heap.size + 1 := by simp [World.setCell]
        have W6' : (w5.setCell ⟨bt, 2, none⟩ (.string ⟨(textP st).1.toArray⟩)).heap.size = w5.heap.size := by simp [World.setCell]
        have HW6 := Lib.hid W6
        have HW6' := Lib.hid W6'
        have hlow := Lib.hid (show w.heap.size ≤ w5.heap.size by have h1 := hbel.out.size; have h2 := HBT.out; have h3 := S5.out; omega)
        have HBS : Hid (w.heap.size ≤ ((w5.setCell ⟨bt, 2, none⟩ (.string ⟨(textP st).1.toArray⟩)).alloc (.cells (cellsV ({ V0 z with text := (textP st).1 })).toArray 47)).heap.size) := by show _ ≤ _; rw [HW6.out]; exact Nat.le_succ_of_le hlow.out
        have q0 := hblk5.c0
        have q1 := hblk5.c1
        have q2 := hblk5.c2
        have q3 := hblk5.c3
        have q4 := hblk5.c4
        have qf := hblk5.frozen 2
        have p0 := hblk6.c0
        have p1 := hblk6.c1
        have p2 := hblk6.c2
        have p3 := hblk6.c3
        have p4 := hblk6.c4
        have HG5 := Lib.hid g5
        clear h5 g5 hblk5 hblk6 G6 GT W6 W6'
        go_wp2_with (at_builtin; ((refine wpList_append_lies _ rfl (.tmp 57) (.tmp 59) 42 rfl w.heap.size 47 i0 (.agg #[.int .i64 0, .int .i64 0, .string ⟨#[]⟩, .slice none 0 0, .slice none 0 0]) 5 80 Try.underlying42 hi hz0 hz1 hz2 rfl (by decide) _ acc.length (acc.flatMap cellsV) rfl hown6.out ⟨w5.heap.size, 0, none⟩ 1 1 (cellsV ({ V0 z with text := (textP st).1 })) rfl rfl (cells_alloc (w5.setCell ⟨bt, 2, none⟩ (.string ⟨(textP st).1.toArray⟩)) w5.heap.size HW6'.out (cellsV ({ V0 z with text := (textP st).1 })) 47) (cellsV_one hT6.out hU6.out) (by decide) (by unfold maxLen; omega) (by omega) HBS.out (w5.heap.size + 1) HW6.out ?_); intro g cap w7 hown7 hgrow7 hat7 hlt7))
        go_roundw
        case rel =>
          replace hat7 : Value.ownBlock u7 = some g ∨ g = w5.heap.size + 1 := hat7
          replace hgrow7 : ((w5.setCell ⟨bt, 2, none⟩ (.string ⟨(textP st).1.toArray⟩)).alloc (.cells (cellsV ({ V0 z with text := (textP st).1 })).toArray 47)).grownBy w7 (Value.ownBlock u7) := hgrow7
          have hs7 : w5.heap.size + 1 ≤ w7.heap.size := by have := hgrow7.size; rw [HW6.out] at this; exact this
          have hgr : g ≠ r := by
            rcases hat7 with h | h
            · exact fun e => hlr.out (by rw [h, e])
            · have h1 := hrlt.out; have h2 := HBT.out; have h3 := S5.out; omega
          have hkg : ∀ k, k < w5.heap.size + 1 → some k ≠ Value.ownBlock u7 → some k ≠ some g := fun k hk h e => by
            rcases hat7 with h1 | h1
            · exact h (by rw [h1, e])
            · injection e with e; omega
          refine ⟨k + 1, acc ++ [({ V0 z with text := (textP st).1 })], (textP st).2, by omega, by go_num, by simp [hacc], ?_, (show some g ≠ some r from fun e => hgr (by injection e)), ?_, ?_, hrd6.out.kept hgrow7 (fun e => hlr.out e.symm), textP_good hgd.out, Nat.le_trans (textP_len st).1 hsl.out, inv_step hinv.out ?_, hbel6.out.grown hgrow7 hbel6.out.size (fun k h => (holt.out k h).1)⟩
          · have e1 : (acc ++ [({ V0 z with text := (textP st).1 })]).length = acc.length + 1 := List.length_append
            have e2 : (acc ++ [({ V0 z with text := (textP st).1 })]).flatMap cellsV = acc.flatMap cellsV ++ cellsV ({ V0 z with text := (textP st).1 }) := by rw [List.flatMap_append]; simp
            show w7.ownsRow _ _ _ _ _ _
            rw [e1, e2, hacc]; rw [hacc] at hown7; exact hown7
          · refine (hAcc6.out.step hgrow7 (fun k _ _ h => h) (fun k hk h => hkg k (by rw [HW6.out] at hk; exact hk) h)).snoc (hT6.out.kept hgrow7 (fun k hk => (hTU.out k (Or.inl hk)).2.2)) (hU6.out.kept hgrow7 (fun k hk => (hTU.out k (Or.inr hk)).2.2)) (fun k hk => ?_)
            obtain ⟨c1, c2, c3⟩ := hTU.out k hk
            exact ⟨by omega, c2, hkg k (by omega) c3⟩
          · intro y hy
            rcases List.mem_append.1 hy with hy | hy
            · exact hok.out y hy
            · rw [List.mem_singleton] at hy; subst hy; exact ok1 hsl.out
          · intro hf
            have hE : encV ({ V0 z with text := (textP st).1 }) = textL (textP st).1 := by have : kindP ({ V0 z with text := (textP st).1 }) = 1 := HK0.out; simp [encV, this]
            rw [hE]
            exact textP_back hf
        case measure => simp [intOf]; omega
      · have HKD := Lib.hid (fun W => kind_is hk0 W)
        have HK0 := Lib.hid hk0
        clear hk0
        go_wp2_with fail
        refine (HKD.out _).mono ?_
        rintro e w3 ⟨rfl, hb3⟩
        have g3 : wr.grownBy w3 none := grown_trans (World.grownBy_alloc wr _ none) (grown_below hb3)
        have hblk3 := Lib.hid (HBL0.out.kept (grown_below hb3) (fun e => by cases e))
        have hrd3 := Lib.hid (hrd.out.kept g3 (fun e => by cases e))
        have G3 := Lib.hid g3
        have S3 : Hid (wr.heap.size < w3.heap.size) := by have := hb3.size; show _ < _; simp at this; omega
        clear hb3 g3
        obtain ⟨bt, hbt⟩ : ∃ b, wr.heap.size = b := ⟨_, rfl⟩
        rw [hbt] at hblk3 S3 ⊢
        have HBT := Lib.hid hbt
        clear hbt hcell
        go_wp2_with fail
        refine (declist_two hrd3.out (by have := hsl.out; omega)).mono ?_
        rintro e w5 ⟨v1, rfl, hv1, hv1f, h5, g5⟩
        obtain ⟨av, cv, rfl⟩ := hv1.shape
        have hbr : bt ≠ r := by have h1 := hrlt.out; have h2 := HBT.out; omega
        have hblk5 := hblk3.out.kept g5 (fun e => hbr (by injection e))
        have hblk6 := hblk5.set3 (.slice av (allP textP st).1.length cv) (allP textP st).1
        have G6 : w5.grownBy ((w5.setCell ⟨bt, 3, none⟩ (.slice av (allP textP st).1.length cv)).alloc (.cells (cellsV ({ V0 z with tv := (.slice av (allP textP st).1.length cv), texts := (allP textP st).1 })).toArray 47)) (some bt) := grown_trans (grown_set _ _ _ _) (World.grownBy_alloc _ _ _)
        have GT := grown_far (grown_trans (grown_weak G3.out (some r)) g5) G6 (fun j hj => by injection hj with hj; have := HBT.out; omega)
        have S5 := Lib.hid (Nat.lt_of_lt_of_le S3.out g5.size)
        have hown6 := Lib.hid (hown.out.kept GT (Or.inr hlr.out))
        have hAcc6 := Lib.hid (hAcc.out.step GT (fun k _ h1 _ e => h1 (by injection e)) (fun _ _ h => h))
        have hrd6 := Lib.hid (h5.kept G6 (fun e => hbr (by injection e with e; exact e.symm)))
        have hbel6 := Lib.hid (hbel.out.grown GT hbel.out.size (fun k h => by cases h; exact Nat.le_trans hlo.out (Nat.le_refl _)))
        have hT6 : Hid (Has strV ((w5.setCell ⟨bt, 3, none⟩ (.slice av (allP textP st).1.length cv)).alloc (.cells (cellsV ({ V0 z with tv := (.slice av (allP textP st).1.length cv), texts := (allP textP st).1 })).toArray 47)) ({ V0 z with tv := (.slice av (allP textP st).1.length cv), texts := (allP textP st).1 }).tv ({ V0 z with tv := (.slice av (allP textP st).1.length cv), texts := (allP textP st).1 }).texts) := hv1.kept G6 (fun k hk e => by injection e with e; have h1 := (hv1f k hk).1; have h2 := S3.out; omega)
        have hU6 : Hid (Has intV ((w5.setCell ⟨bt, 3, none⟩ (.slice av (allP textP st).1.length cv)).alloc (.cells (cellsV ({ V0 z with tv := (.slice av (allP textP st).1.length cv), texts := (allP textP st).1 })).toArray 47)) ({ V0 z with tv := (.slice av (allP textP st).1.length cv), texts := (allP textP st).1 }).uv ({ V0 z with tv := (.slice av (allP textP st).1.length cv), texts := (allP textP st).1 }).nums) := Has.nil _ _
        have hTU : Hid (∀ k, (blk ({ V0 z with tv := (.slice av (allP textP st).1.length cv), texts := (allP textP st).1 }).tv = some k ∨ blk ({ V0 z with tv := (.slice av (allP textP st).1.length cv), texts := (allP textP st).1 }).uv = some k) → k < w5.heap.size ∧ k ≠ r ∧ some k ≠ Value.ownBlock u7) := fun k h => by
          rcases h with h | h
          · have hk2 : blk (.slice av (allP textP st).1.length cv) = some k := h
            obtain ⟨c1, c2⟩ := hv1f k hk2
            have h1 := hrlt.out
            have h2 := HBT.out
            have h3 := S3.out
            refine ⟨c2, by omega, fun e => ?_⟩
            have h4 := (holt.out k e.symm).2
            omega
          · have : blk (.slice none 0 0) = some k := h
            cases this
        have W6 : ((w5.setCell ⟨bt, 3, none⟩ (.slice av (allP textP st).1.length cv)).alloc (.cells (cellsV ({ V0 z with tv := (.slice av (allP textP st).1.length cv), texts := (allP textP st).1 })).toArray 47)).heap.size = w5.heap.size + 1 := by simp [World.setCell]
        have W6' : (w5.setCell ⟨bt, 3, none⟩ (.slice av (allP textP st).1.length cv)).heap.size = w5.heap.size := by simp [World.setCell]
        have HW6 := Lib.hid W6
        have HW6' := Lib.hid W6'
        have hlow := Lib.hid (show w.heap.size ≤ w5.heap.size by have h1 := hbel.out.size; have h2 := HBT.out; have h3 := S5.out; omega)
        have HBS : Hid (w.heap.size ≤ ((w5.setCell ⟨bt, 3, none⟩ (.slice av (allP textP st).1.length cv)).alloc (.cells (cellsV ({ V0 z with tv := (.slice av (allP textP st).1.length cv), texts := (allP textP st).1 })).toArray 47)).heap.size) := by show _ ≤ _; rw [HW6.out]; exact Nat.le_succ_of_le hlow.out
        have q0 := hblk5.c0
        have q1 := hblk5.c1
        have q2 := hblk5.c2
        have q3 := hblk5.c3
        have q4 := hblk5.c4
        have qf := hblk5.frozen 3
        have p0 := hblk6.c0
        have p1 := hblk6.c1
        have p2 := hblk6.c2
        have p3 := hblk6.c3
        have p4 := hblk6.c4
        have HG5 := Lib.hid g5
        clear h5 g5 hblk5 hblk6 G6 GT W6 W6'
        go_wp2_with (at_builtin; ((refine wpList_append_lies _ rfl (.tmp 57) (.tmp 59) 42 rfl w.heap.size 47 i0 (.agg #[.int .i64 0, .int .i64 0, .string ⟨#[]⟩, .slice none 0 0, .slice none 0 0]) 5 80 Try.underlying42 hi hz0 hz1 hz2 rfl (by decide) _ acc.length (acc.flatMap cellsV) rfl hown6.out ⟨w5.heap.size, 0, none⟩ 1 1 (cellsV ({ V0 z with tv := (.slice av (allP textP st).1.length cv), texts := (allP textP st).1 })) rfl rfl (cells_alloc (w5.setCell ⟨bt, 3, none⟩ (.slice av (allP textP st).1.length cv)) w5.heap.size HW6'.out (cellsV ({ V0 z with tv := (.slice av (allP textP st).1.length cv), texts := (allP textP st).1 })) 47) (cellsV_one hT6.out hU6.out) (by decide) (by unfold maxLen; omega) (by omega) HBS.out (w5.heap.size + 1) HW6.out ?_); intro g cap w7 hown7 hgrow7 hat7 hlt7))
        go_roundw
        case rel =>
          replace hat7 : Value.ownBlock u7 = some g ∨ g = w5.heap.size + 1 := hat7
          replace hgrow7 : ((w5.setCell ⟨bt, 3, none⟩ (.slice av (allP textP st).1.length cv)).alloc (.cells (cellsV ({ V0 z with tv := (.slice av (allP textP st).1.length cv), texts := (allP textP st).1 })).toArray 47)).grownBy w7 (Value.ownBlock u7) := hgrow7
          have hs7 : w5.heap.size + 1 ≤ w7.heap.size := by have := hgrow7.size; rw [HW6.out] at this; exact this
          have hgr : g ≠ r := by
            rcases hat7 with h | h
            · exact fun e => hlr.out (by rw [h, e])
            · have h1 := hrlt.out; have h2 := HBT.out; have h3 := S5.out; omega
          have hkg : ∀ k, k < w5.heap.size + 1 → some k ≠ Value.ownBlock u7 → some k ≠ some g := fun k hk h e => by
            rcases hat7 with h1 | h1
            · exact h (by rw [h1, e])
            · injection e with e; omega
          refine ⟨k + 1, acc ++ [({ V0 z with tv := (.slice av (allP textP st).1.length cv), texts := (allP textP st).1 })], (allP textP st).2, by omega, by go_num, by simp [hacc], ?_, (show some g ≠ some r from fun e => hgr (by injection e)), ?_, ?_, hrd6.out.kept hgrow7 (fun e => hlr.out e.symm), allP_good (fun s h => textP_good h) hgd.out, Nat.le_trans (allP_len (f := textP) (fun s => (textP_len s).1) st).1 hsl.out, inv_step hinv.out ?_, hbel6.out.grown hgrow7 hbel6.out.size (fun k h => (holt.out k h).1)⟩
          · have e1 : (acc ++ [({ V0 z with tv := (.slice av (allP textP st).1.length cv), texts := (allP textP st).1 })]).length = acc.length + 1 := List.length_append
            have e2 : (acc ++ [({ V0 z with tv := (.slice av (allP textP st).1.length cv), texts := (allP textP st).1 })]).flatMap cellsV = acc.flatMap cellsV ++ cellsV ({ V0 z with tv := (.slice av (allP textP st).1.length cv), texts := (allP textP st).1 }) := by rw [List.flatMap_append]; simp
            show w7.ownsRow _ _ _ _ _ _
            rw [e1, e2, hacc]; rw [hacc] at hown7; exact hown7
          · refine (hAcc6.out.step hgrow7 (fun k _ _ h => h) (fun k hk h => hkg k (by rw [HW6.out] at hk; exact hk) h)).snoc (hT6.out.kept hgrow7 (fun k hk => (hTU.out k (Or.inl hk)).2.2)) (hU6.out.kept hgrow7 (fun k hk => (hTU.out k (Or.inr hk)).2.2)) (fun k hk => ?_)
            obtain ⟨c1, c2, c3⟩ := hTU.out k hk
            exact ⟨by omega, c2, hkg k (by omega) c3⟩
          · intro y hy
            rcases List.mem_append.1 hy with hy | hy
            · exact hok.out y hy
            · rw [List.mem_singleton] at hy; subst hy; exact ok2 hsl.out hgd.out
          · intro hf
            have hE : encV ({ V0 z with tv := (.slice av (allP textP st).1.length cv), texts := (allP textP st).1 }) = listL (allP textP st).1 := by have : kindP ({ V0 z with tv := (.slice av (allP textP st).1.length cv), texts := (allP textP st).1 }) = 2 := HK0.out; simp [encV, this]
            rw [hE]
            exact listP_back hf
        case measure => simp [intOf]; omega
      · have HKD := Lib.hid (fun W => kind_is hk0 W)
        have HK0 := Lib.hid hk0
        clear hk0
        go_wp2_with fail
        refine (HKD.out _).mono ?_
        rintro e w3 ⟨rfl, hb3⟩
        have g3 : wr.grownBy w3 none := grown_trans (World.grownBy_alloc wr _ none) (grown_below hb3)
        have hblk3 := Lib.hid (HBL0.out.kept (grown_below hb3) (fun e => by cases e))
        have hrd3 := Lib.hid (hrd.out.kept g3 (fun e => by cases e))
        have G3 := Lib.hid g3
        have S3 : Hid (wr.heap.size < w3.heap.size) := by have := hb3.size; show _ < _; simp at this; omega
        clear hb3 g3
        obtain ⟨bt, hbt⟩ : ∃ b, wr.heap.size = b := ⟨_, rfl⟩
        rw [hbt] at hblk3 S3 ⊢
        have HBT := Lib.hid hbt
        clear hbt hcell
        go_wp2_with fail
        refine (decnums_two hrd3.out (by have := hsl.out; omega)).mono ?_
        rintro e w5 ⟨v1, rfl, hv1, hv1f, h5, g5⟩
        obtain ⟨av, cv, rfl⟩ := hv1.shape
        have hbr : bt ≠ r := by have h1 := hrlt.out; have h2 := HBT.out; omega
        have hblk5 := hblk3.out.kept g5 (fun e => hbr (by injection e))
        have hblk6 := hblk5.set4 (.slice av (allP intP st).1.length cv) (allP intP st).1
        have G6 : w5.grownBy ((w5.setCell ⟨bt, 4, none⟩ (.slice av (allP intP st).1.length cv)).alloc (.cells (cellsV ({ V0 z with uv := (.slice av (allP intP st).1.length cv), nums := (allP intP st).1 })).toArray 47)) (some bt) := grown_trans (grown_set _ _ _ _) (World.grownBy_alloc _ _ _)
        have GT := grown_far (grown_trans (grown_weak G3.out (some r)) g5) G6 (fun j hj => by injection hj with hj; have := HBT.out; omega)
        have S5 := Lib.hid (Nat.lt_of_lt_of_le S3.out g5.size)
        have hown6 := Lib.hid (hown.out.kept GT (Or.inr hlr.out))
        have hAcc6 := Lib.hid (hAcc.out.step GT (fun k _ h1 _ e => h1 (by injection e)) (fun _ _ h => h))
        have hrd6 := Lib.hid (h5.kept G6 (fun e => hbr (by injection e with e; exact e.symm)))
        have hbel6 := Lib.hid (hbel.out.grown GT hbel.out.size (fun k h => by cases h; exact Nat.le_trans hlo.out (Nat.le_refl _)))
        have hT6 : Hid (Has strV ((w5.setCell ⟨bt, 4, none⟩ (.slice av (allP intP st).1.length cv)).alloc (.cells (cellsV ({ V0 z with uv := (.slice av (allP intP st).1.length cv), nums := (allP intP st).1 })).toArray 47)) ({ V0 z with uv := (.slice av (allP intP st).1.length cv), nums := (allP intP st).1 }).tv ({ V0 z with uv := (.slice av (allP intP st).1.length cv), nums := (allP intP st).1 }).texts) := Has.nil _ _
        have hU6 : Hid (Has intV ((w5.setCell ⟨bt, 4, none⟩ (.slice av (allP intP st).1.length cv)).alloc (.cells (cellsV ({ V0 z with uv := (.slice av (allP intP st).1.length cv), nums := (allP intP st).1 })).toArray 47)) ({ V0 z with uv := (.slice av (allP intP st).1.length cv), nums := (allP intP st).1 }).uv ({ V0 z with uv := (.slice av (allP intP st).1.length cv), nums := (allP intP st).1 }).nums) := hv1.kept G6 (fun k hk e => by injection e with e; have h1 := (hv1f k hk).1; have h2 := S3.out; omega)
        have hTU : Hid (∀ k, (blk ({ V0 z with uv := (.slice av (allP intP st).1.length cv), nums := (allP intP st).1 }).tv = some k ∨ blk ({ V0 z with uv := (.slice av (allP intP st).1.length cv), nums := (allP intP st).1 }).uv = some k) → k < w5.heap.size ∧ k ≠ r ∧ some k ≠ Value.ownBlock u7) := fun k h => by
          rcases h with h | h
          · have : blk (.slice none 0 0) = some k := h
            cases this
          · have hk2 : blk (.slice av (allP intP st).1.length cv) = some k := h
            obtain ⟨c1, c2⟩ := hv1f k hk2
            have h1 := hrlt.out
            have h2 := HBT.out
            have h3 := S3.out
            refine ⟨c2, by omega, fun e => ?_⟩
            have h4 := (holt.out k e.symm).2
            omega
        have W6 : ((w5.setCell ⟨bt, 4, none⟩ (.slice av (allP intP st).1.length cv)).alloc (.cells (cellsV ({ V0 z with uv := (.slice av (allP intP st).1.length cv), nums := (allP intP st).1 })).toArray 47)).heap.size = w5.heap.size + 1 := by simp [World.setCell]
        have W6' : (w5.setCell ⟨bt, 4, none⟩ (.slice av (allP intP st).1.length cv)).heap.size = w5.heap.size := by simp [World.setCell]
        have HW6 := Lib.hid W6
        have HW6' := Lib.hid W6'
        have hlow := Lib.hid (show w.heap.size ≤ w5.heap.size by have h1 := hbel.out.size; have h2 := HBT.out; have h3 := S5.out; omega)
        have HBS : Hid (w.heap.size ≤ ((w5.setCell ⟨bt, 4, none⟩ (.slice av (allP intP st).1.length cv)).alloc (.cells (cellsV ({ V0 z with uv := (.slice av (allP intP st).1.length cv), nums := (allP intP st).1 })).toArray 47)).heap.size) := by show _ ≤ _; rw [HW6.out]; exact Nat.le_succ_of_le hlow.out
        have q0 := hblk5.c0
        have q1 := hblk5.c1
        have q2 := hblk5.c2
        have q3 := hblk5.c3
        have q4 := hblk5.c4
        have qf := hblk5.frozen 4
        have p0 := hblk6.c0
        have p1 := hblk6.c1
        have p2 := hblk6.c2
        have p3 := hblk6.c3
        have p4 := hblk6.c4
        have HG5 := Lib.hid g5
        clear h5 g5 hblk5 hblk6 G6 GT W6 W6'
        go_wp2_with (at_builtin; ((refine wpList_append_lies _ rfl (.tmp 57) (.tmp 59) 42 rfl w.heap.size 47 i0 (.agg #[.int .i64 0, .int .i64 0, .string ⟨#[]⟩, .slice none 0 0, .slice none 0 0]) 5 80 Try.underlying42 hi hz0 hz1 hz2 rfl (by decide) _ acc.length (acc.flatMap cellsV) rfl hown6.out ⟨w5.heap.size, 0, none⟩ 1 1 (cellsV ({ V0 z with uv := (.slice av (allP intP st).1.length cv), nums := (allP intP st).1 })) rfl rfl (cells_alloc (w5.setCell ⟨bt, 4, none⟩ (.slice av (allP intP st).1.length cv)) w5.heap.size HW6'.out (cellsV ({ V0 z with uv := (.slice av (allP intP st).1.length cv), nums := (allP intP st).1 })) 47) (cellsV_one hT6.out hU6.out) (by decide) (by unfold maxLen; omega) (by omega) HBS.out (w5.heap.size + 1) HW6.out ?_); intro g cap w7 hown7 hgrow7 hat7 hlt7))
        go_roundw
        case rel =>
          replace hat7 : Value.ownBlock u7 = some g ∨ g = w5.heap.size + 1 := hat7
          replace hgrow7 : ((w5.setCell ⟨bt, 4, none⟩ (.slice av (allP intP st).1.length cv)).alloc (.cells (cellsV ({ V0 z with uv := (.slice av (allP intP st).1.length cv), nums := (allP intP st).1 })).toArray 47)).grownBy w7 (Value.ownBlock u7) := hgrow7
          have hs7 : w5.heap.size + 1 ≤ w7.heap.size := by have := hgrow7.size; rw [HW6.out] at this; exact this
          have hgr : g ≠ r := by
            rcases hat7 with h | h
            · exact fun e => hlr.out (by rw [h, e])
            · have h1 := hrlt.out; have h2 := HBT.out; have h3 := S5.out; omega
          have hkg : ∀ k, k < w5.heap.size + 1 → some k ≠ Value.ownBlock u7 → some k ≠ some g := fun k hk h e => by
            rcases hat7 with h1 | h1
            · exact h (by rw [h1, e])
            · injection e with e; omega
          refine ⟨k + 1, acc ++ [({ V0 z with uv := (.slice av (allP intP st).1.length cv), nums := (allP intP st).1 })], (allP intP st).2, by omega, by go_num, by simp [hacc], ?_, (show some g ≠ some r from fun e => hgr (by injection e)), ?_, ?_, hrd6.out.kept hgrow7 (fun e => hlr.out e.symm), allP_good (fun s h => intP_good h) hgd.out, Nat.le_trans (allP_len (f := intP) intP_len st).1 hsl.out, inv_step hinv.out ?_, hbel6.out.grown hgrow7 hbel6.out.size (fun k h => (holt.out k h).1)⟩
          · have e1 : (acc ++ [({ V0 z with uv := (.slice av (allP intP st).1.length cv), nums := (allP intP st).1 })]).length = acc.length + 1 := List.length_append
            have e2 : (acc ++ [({ V0 z with uv := (.slice av (allP intP st).1.length cv), nums := (allP intP st).1 })]).flatMap cellsV = acc.flatMap cellsV ++ cellsV ({ V0 z with uv := (.slice av (allP intP st).1.length cv), nums := (allP intP st).1 }) := by rw [List.flatMap_append]; simp
            show w7.ownsRow _ _ _ _ _ _
            rw [e1, e2, hacc]; rw [hacc] at hown7; exact hown7
          · refine (hAcc6.out.step hgrow7 (fun k _ _ h => h) (fun k hk h => hkg k (by rw [HW6.out] at hk; exact hk) h)).snoc (hT6.out.kept hgrow7 (fun k hk => (hTU.out k (Or.inl hk)).2.2)) (hU6.out.kept hgrow7 (fun k hk => (hTU.out k (Or.inr hk)).2.2)) (fun k hk => ?_)
            obtain ⟨c1, c2, c3⟩ := hTU.out k hk
            exact ⟨by omega, c2, hkg k (by omega) c3⟩
          · intro y hy
            rcases List.mem_append.1 hy with hy | hy
            · exact hok.out y hy
            · rw [List.mem_singleton] at hy; subst hy; exact ok3 hsl.out hgd.out
          · intro hf
            have hE : encV ({ V0 z with uv := (.slice av (allP intP st).1.length cv), nums := (allP intP st).1 }) = numsL (allP intP st).1 := by have : kindP ({ V0 z with uv := (.slice av (allP intP st).1.length cv), nums := (allP intP st).1 }) = 3 := HK0.out; simp [encV, this]
            rw [hE]
            exact numsP_back hf
        case measure => simp [intOf]; omega
    · obtain rfl : k = n := by omega
      obtain ⟨sl, sf⟩ := st
      cases sf with
      | true =>
        obtain rfl : sl = [] := hgd.out rfl
        go_wp2_with fail
        refine (left_is (n := 0) rfl hrd.out).mono ?_
        rintro e w4 ⟨rfl, rfl⟩
        go_wp2_with fail
        refine (take_is (t := []) (s' := bad) (by decide) hrd.out).mono ?_
        rintro e w5 ⟨rfl, h5, g5⟩
        have h5 := Lib.hid h5
        go_wp2_with fail
        refine (done_is (f := false) rfl h5.out).mono ?_
        rintro e w6 ⟨rfl, rfl⟩
        go_wp2_with fail
        go_ret
        exact ⟨rfl, hbel.out.grown g5 hbel.out.size (fun k hk => by cases hk; exact hlo.out)⟩
      | false =>
        have hS := hinv.out rfl
        have hadd := add_lists (acc.flatMap encV) sl (by
          have := congrArg List.length hS
          rw [List.length_append] at this
          show _ ≤ _
          have h2 : (acc.flatMap encV).length + sl.length = S.length := this.symm
          omega)
        have htot : Hid ((acc.flatMap encV).length ≤ 10000) := by
          have := congrArg List.length hS
          rw [List.length_append] at this
          show _ ≤ _
          omega
        rw [show acc.flatMap encV ++ sl = S from hS.symm] at hadd
        clear hS
        go_wp2_with fail
        refine (left_is (n := sl.length) rfl hrd.out).mono ?_
        rintro e w4 ⟨rfl, rfl⟩
        go_wp2_with fail
        refine (take_is (t := sl) (s' := ([], false)) (by have := takeP_enc sl [] false; rw [List.append_nil] at this; exact this) hrd.out).mono ?_
        rintro e w5 ⟨rfl, h5, g5⟩
        have h5 := Lib.hid h5
        have hE := Lib.hid (encoded_any (own_vals (hown.out.kept g5 (Or.inr hlr.out)) (hAcc.out.step g5 (fun k _ h1 _ e => h1 (by injection e)) (fun _ _ h => h))) hok.out (by omega) (by have := htot.out; omega))
        replace hbel := Lib.hid (hbel.out.grown g5 hbel.out.size (fun k hk => by cases hk; exact hlo.out))
        clear g5
        go_wp2_with fail
        refine (done_is (f := true) rfl h5.out).mono ?_
        rintro e w6 ⟨rfl, rfl⟩
        go_wp2_with fail
        refine hE.out.mono ?_
        rintro e w7 ⟨rfl, hb7⟩
        go_wp2_with fail
        go_ret
        exact ⟨rfl, hbel.out.trans (hb7.mono hbel.out.size)⟩
end Go.Proofs.Ytbaddpkeaealpaa
