/- LinesPieces: a Feed gives the same lines however its input is cut, and they are the input where no line is too long. -/
import Derived.Test.YtpoimbhfggkiiaaFeeds
namespace Go.Proofs.Ytpoimbhfggkiiaa
open Go.ChangeShapes Go.WideShapes Go.ChangeAt Go.RowKit
open LinesP

theorem told_more (lim : Nat) (xs : List (List UInt8)) (j : Nat) (x : List UInt8) (h : xs[j]? = some x) : toldL lim (xs.take (j + 1)).flatten = toldL lim (xs.take j).flatten ++ toldL lim (begunAt xs j ++ x) := by
  unfold toldL begunAt
  rw [begun_next.flat_take' xs j x h, done_more, List.map_append]
/-- Where no line is too long, nothing is lost. -/
theorem told_all (lim : Nat) (s : List UInt8) (h : ∀ y ∈ splitL s, y.length ≤ lim) : (toldL lim s).flatten ++ (restL s).take lim = s := by
  have h1 : toldL lim s = doneL s := by
    unfold toldL
    conv => rhs; rw [← List.map_id (doneL s)]
    refine List.map_congr_left fun y hy => ?_
    have : y ∈ splitL s := (List.mem_filter.1 (show y ∈ (splitL s).filter ends from hy)).1
    exact List.take_of_length_le (h y this)
  have h2 : (restL s).take lim = restL s := by
    by_cases hr : restL s = []
    · rw [hr, List.take_nil]
    · refine List.take_of_length_le (h _ ?_)
      rw [split_rest, if_neg hr]; simp
  rw [h1, h2, done_rest]
/-- The Feed in another block stands where the Feed in block b' is pushed. -/
theorem fd_other {w w' : World} {B B' b b' lim lim' : Nat} {l l' : List UInt8} (h : Fd w B b lim l) (hF : Fr B' b' w w') (h' : Fd w B' b' lim' l') (hne : b ≠ b') (hB : w.heap.size ≤ B') : Fd w' B b lim l := by
  obtain ⟨v, h⟩ := h
  refine ⟨v, (hF.same b h.lt hne (.inl (by have := h.lt; omega))).trans h.blk, h.own.1, ?_⟩
  rcases h.own.2 with h1 | ⟨g, cap, cur, rfl, hbg, hg, rest⟩
  · exact .inl h1
  · have hgl := (Array.getElem?_eq_some_iff.1 hg).1
    exact .inr ⟨g, cap, cur, rfl, hbg, (hF.same g hgl (fd_not h' hg (by decide)) (.inl (by omega))).trans hg, rest⟩
/-- A Feed stands where a slice of strings grows. -/
theorem fd_grown {w w' : World} {B b lim base m : Nat} {l : List UInt8} {v : Value} {ys : List Value} (h : Fd w B b lim l) (ho : w.ownsRow base 9 1 v m ys) (hg : w.grownBy w' v.ownBlock) : Fd w' B b lim l := by
  obtain ⟨u, h⟩ := h
  have key : ∀ k cs e fz, w.heap[k]? = some (.cells cs e fz) → e ≠ 9 → some k ≠ v.ownBlock := fun k cs e fz hk he e' => by
    rcases ho.2 with ⟨rfl, _⟩ | ⟨g, cap, cur, rfl, _, hgb, _⟩
    · simp [Value.ownBlock] at e'
    · obtain rfl : k = g := by simpa [Value.ownBlock] using e'
      have := hk.symm.trans hgb
      simp at this
      exact he this.2.1
  refine ⟨u, (hg.block b h.lt (key b _ _ _ h.blk (by decide))).trans h.blk, h.own.kept hg ?_⟩
  rcases h.own.2 with ⟨rfl, _⟩ | ⟨g, cap, cur, rfl, _, hgb, _⟩
  · exact .inl rfl
  · exact .inr (fun e => key g _ _ _ hgb (by decide) (by rw [← e]; rfl))
/-- While f is pushed: the older memory, both Feeds, and what f has given. -/
structure Sp (w0 w : World) (B bf bg lim : Nat) (t : List UInt8) (v : Value) (ys : List (List UInt8)) : Prop where
  bel : Below w0.heap.size w0 w
  size : B ≤ w.heap.size
  fd : Fd w B bf lim (t.take lim)
  gd : ∀ B', Fd w B' bg lim []
  all : w.ownsRow B 9 1 v ys.length (ys.map strV)
theorem Sp.drew {w0 w : World} {B bf bg lim : Nat} {t : List UInt8} {v : Value} {ys : List (List UInt8)} (h : Sp w0 w B bf bg lim t v ys) : Sp w0 w.drew B bf bg lim t v ys :=
  ⟨h.bel.drew, h.size, fd_below h.fd (Below.refl _ _).drew, fun B' => fd_below (h.gd B') (Below.refl _ _).drew, h.all⟩
theorem gd_fr {w w' : World} {B b bg lim lim' : Nat} {l : List UInt8} (h : ∀ B', Fd w B' bg lim []) (hF : Fr B b w w') (_hf : Fd w B b lim' l) (hne : bg ≠ b) (hB : bg < B) : ∀ B', Fd w' B' bg lim [] := fun B' => by
  obtain ⟨v, h1⟩ := h B'
  have e : v = .slice none 0 0 ∨ ∃ g cap, v = .slice (some ⟨g, 0, none⟩) 0 cap := by
    rcases h1.own.2 with ⟨e, _⟩ | ⟨g, cap, cur, e, _⟩
    · exact .inl e
    · exact .inr ⟨g, cap, e⟩
  rcases e with rfl | ⟨g, cap, rfl⟩
  · exact ⟨_, (hF.same bg h1.lt hne (.inl hB)).trans h1.blk, rfl, .inl ⟨rfl, rfl⟩⟩
  · exfalso
    obtain ⟨v2, h2⟩ := h w.heap.size
    have hv : v2 = .slice (some ⟨g, 0, none⟩) 0 cap := by
      have := h2.blk.symm.trans h1.blk
      simp at this
      exact this
    subst hv
    rcases h2.own.2 with ⟨e, _⟩ | ⟨g2, cap2, cur, e, hb2, hg2, _⟩
    · cases e
    · have := (Array.getElem?_eq_some_iff.1 hg2).1
      omega
theorem Sp.grow {w0 w w' : World} {B bf bg lim : Nat} {t : List UInt8} {v v' : Value} {ys ys' : List (List UInt8)} (h : Sp w0 w B bf bg lim t v ys) (hg : w.grownBy w' v.ownBlock) (ho : w'.ownsRow B 9 1 v' ys'.length (ys'.map strV)) (hB : w0.heap.size ≤ B) : Sp w0 w' B bf bg lim t v' ys' :=
  ⟨h.bel.grown hg h.bel.size (fun k e => Nat.le_trans hB (h.all.lt k e).1), Nat.le_trans h.size hg.size, fd_grown h.fd h.all hg, fun B' => fd_grown (h.gd B') h.all hg, ho⟩
/-- Behind both: the older memory, both Feeds, three slices. -/
structure Sq (w0 w : World) (B B2 bf bg lim : Nat) (t : List UInt8) (v1 v2 v3 : Value) (ys ls : List (List UInt8)) : Prop where
  bel : Below w0.heap.size w0 w
  fd : Fd w B bf lim (t.take lim)
  gd : Fd w B2 bg lim (t.take lim)
  o1 : Own w v1 ys
  o2 : Own w v2 ys
  o3 : Own w v3 ls
theorem Sq.step {w0 w w' : World} {B B2 bf bg lim : Nat} {t : List UInt8} {v1 v2 v3 : Value} {ys ls : List (List UInt8)} (h : Sq w0 w B B2 bf bg lim t v1 v2 v3 ys ls) (hb : Below w.heap.size w w') : Sq w0 w' B B2 bf bg lim t v1 v2 v3 ys ls :=
  ⟨h.bel.trans (hb.mono h.bel.size), fd_below h.fd hb, fd_below h.gd hb, h.o1.step hb, h.o2.step hb, h.o3.step hb⟩
theorem Sq.third {w0 w w' : World} {B B2 bf bg lim : Nat} {t : List UInt8} {v1 v2 v3 v4 : Value} {ys ls ls' : List (List UInt8)} (h : Sq w0 w B B2 bf bg lim t v1 v2 v3 ys ls) (hb : Below w.heap.size w w') (o : Own w' v4 ls') : Sq w0 w' B B2 bf bg lim t v1 v2 v4 ys ls' :=
  ⟨(h.step hb).bel, (h.step hb).fd, (h.step hb).gd, (h.step hb).o1, (h.step hb).o2, o⟩
def longN (m : Nat) (l : List (List UInt8)) : Bool := l.any fun y => decide (m < y.length)
theorem long_snoc (m : Nat) (l : List (List UInt8)) (j : Nat) (y : List UInt8) (h : l[j]? = some y) : longN m (l.take (j + 1)) = (longN m (l.take j) || decide (m < y.length)) := by
  unfold longN
  rw [List.take_add_one, h]; simp
theorem flat_snoc (l : List (List UInt8)) (j : Nat) (y : List UInt8) (h : l[j]? = some y) : (l.take (j + 1)).flatten = (l.take j).flatten ++ y := by
  rw [List.take_add_one, h]; simp
theorem told_size (lim : Nat) (s : List UInt8) : (toldL lim s).flatten.length ≤ s.length := by
  have key : ∀ l : List (List UInt8), (l.map (·.take lim)).flatten.length ≤ l.flatten.length := by
    intro l
    induction l with
    | nil => exact Nat.le_refl _
    | cons x r ih =>
      simp only [List.map_cons, List.flatten_cons, List.length_append, List.length_take]
      omega
  have h1 := key (doneL s)
  have h2 := from_le s
  unfold fromN at h2
  unfold toldL
  omega
set_option maxRecDepth 100000 in
set_option maxHeartbeats 8000000 in
theorem pieces_any (most : Int) (hm : -9223372036854775808 ≤ most ∧ most ≤ 9223372036854775807) (v : Value) (xs : List (List UInt8)) {w : World} (h : Has strV w v xs) (hl : xs.length ≤ 140737488355328) (hx : ∀ x ∈ xs, x.length ≤ 140737488355328) :
    Calls Try.prog 5 #[.int .i64 most, v] w fun e w' => e = .returned (.bool true) ∧ Below w.heap.size w w' := by
  have hS := small_any w
  have hW : ∀ w', Below w.heap.size w w' → Calls Try.prog 21 #[v] w' fun e w'' => e = .returned (.bool (fewP xs)) ∧ w' = w'' := fun w' hb => few_any (h.below' hb) hl hx
  have hNw := fun w' => new_any most w'
  obtain ⟨lim, hlim⟩ : ∃ lim, limN most = lim := ⟨_, rfl⟩
  have hlm := limN_le most
  simp only [hlim] at hNw hlm
  by_cases hfew : fewP xs = true
  · obtain ⟨h30, hfl⟩ := few_flat xs hfew
    rw [hfew] at hW
    obtain ⟨ao, c0, rfl⟩ := h.slice
    obtain ⟨N, hN⟩ : ∃ N, xs.length = N := ⟨_, rfl⟩
    rw [hN] at h hW h30 ⊢
    have H := Lib.hid h
    have HN := Lib.hid hN
    have HB := Lib.hid (begun_len xs)
    have HFL := Lib.hid hfl
    have HXL : Hid (∀ j (x : List UInt8), xs[j]? = some x → x.length ≤ 3000) := fun j x hx => by
      have h1 := take_flat_le xs (j + 1)
      rw [begun_next.flat_take' xs j x hx, List.length_append] at h1
      omega
    have HLM : Hid (∀ y : Nat, y ≤ 3000 → (y : Int) ≤ max most 1 → y ≤ lim) := fun y h1 h2 => by
      rw [← hlim]; unfold limN; omega
    obtain ⟨mx, hmx⟩ : ∃ mx : Nat, max most 1 = (mx : Int) := ⟨(max most 1).toNat, by omega⟩
    rw [hmx] at HLM
    clear h hN hfl hx hl hfew hlim
    go_enter Try.func5, Try.ntmps5
    go_wp2_with (first
      | (go_at_call 9; refine hS.mono ?_; rintro e w1 ⟨rfl, hb⟩; clear hS)
      | (go_at_call 21; with_reducible refine (hW _ hb).mono ?_; rintro e w2 ⟨rfl, hw⟩; rw [← hw]; clear hw w2 hW)
      | (go_at_call 22; with_reducible refine (hNw _).mono ?_; rintro e w2 ⟨rfl, hw⟩; rw [hw]; clear hw w2))
    have hbs := hb.size
    obtain ⟨bf, hbf⟩ : ∃ bf, w1.heap.size = bf := ⟨_, rfl⟩
    have hst : Sp w ((w1.alloc (.cells #[.int .i64 lim, .slice none 0 0] 53)).alloc (.cells #[.int .i64 lim, .slice none 0 0] 53)) (bf + 2) bf (bf + 1) lim (begunAt xs 0) (.slice none 0 0) (toldL lim (xs.take 0).flatten) := by
      refine ⟨(hb.alloc hb.size _).alloc (by rw [World.size_alloc]; omega) _, by simp [hbf], ?_, fun B' => ?_, ?_⟩
      · rw [show (begunAt xs 0).take lim = [] by unfold begunAt; simp [restL, splitL], ← hbf]
        exact fd_below (fd_new w1 lim _) ((Below.refl _ _).alloc (Nat.le_refl _) _)
      · have := fd_new (w1.alloc (.cells #[.int .i64 lim, .slice none 0 0] 53)) lim B'
        rw [World.size_alloc, hbf] at this
        exact this
      · rw [show toldL lim (xs.take 0).flatten = [] by simp [toldL, doneL, splitL]]
        exact ⟨rfl, .inl ⟨rfl, rfl⟩⟩
    obtain ⟨bg, hbg⟩ : ∃ bg, bf + 1 = bg := ⟨_, rfl⟩
    obtain ⟨B, hB⟩ : ∃ B, bf + 2 = B := ⟨_, rfl⟩
    rw [hbg, hB] at hst
    rw [hbf, hbg]
    have hBB : w.heap.size ≤ B := by omega
    have hbfw : w.heap.size ≤ bf := by omega
    have hbgw : w.heap.size ≤ bg := by omega
    have hbfB : bf < B := by omega
    have hbgB : bg < B := by omega
    have hne : bg ≠ bf := by omega
    have HST := Lib.hid hst
    generalize ((w1.alloc (.cells #[.int .i64 lim, .slice none 0 0] 53)).alloc (.cells #[.int .i64 lim, .slice none 0 0] 53)) = W1 at HST ⊢
    clear hst hb hbs hbf hbg hB
    go_loopw [9, 10, 11] (fun s o i wr => ∃ j : Nat, j ≤ N ∧ i = .int .i64 j ∧ s = .string (strL (xs.take j).flatten) ∧ ∃ a c, o = .slice a (toldL lim (xs.take j).flatten).length c ∧ Hid (Sp w wr B bf bg lim (begunAt xs j) o (toldL lim (xs.take j).flatten))) (fun _ _ i _ => N - (intOf i).toNat)
    case atStart => exact ⟨0, Nat.zero_le _, rfl, rfl, none, 0, rfl, HST.out⟩
    case round =>
      obtain ⟨j, hj, rfl, rfl, a1, c1, rfl, hs⟩ := hrel
      have hbl := HB.out j
      have hFL := HFL.out
      have hTL := take_flat_le xs j
      by_cases hlt : j < N
      · obtain ⟨a, rfl, hc⟩ := (H.out.below' hs.out.bel).at (by rw [HN.out]; omega)
        obtain ⟨x, hxj⟩ : ∃ x, xs[j]? = some x := ⟨_, List.getElem?_eq_getElem (by rw [HN.out]; exact hlt)⟩
        have hk := hc j x hxj
        have hxs := HXL.out j x hxj
        obtain ⟨A, hA⟩ : ∃ A, strL x = A := ⟨_, rfl⟩
        have lA : A.data.toList = x := by rw [← hA]; rfl
        have cA : wr.cell? (a.add j) = some (.string A) := by rw [hk, ← hA]; rfl
        have hD := told_size lim (xs.take j).flatten
        obtain ⟨T, hT⟩ : ∃ T, strL (xs.take j).flatten = T := ⟨_, rfl⟩
        have sT : T.size ≤ 3000 := by rw [← hT, strL_size]; omega
        have sA : A.size ≤ 3000 := by rw [← hA, strL_size]; omega
        have HTA : Hid (T ++ A = strL (xs.take (j + 1)).flatten) := by
          show _ = _
          rw [begun_next.flat_take' xs j x hxj, ← hT, ← hA]
          apply ByteArray.ext
          apply Array.ext'
          simp [strL]
        have hDn : (toldL lim (xs.take j).flatten).length ≤ 3000 := by
          unfold toldL
          rw [List.length_map]
          have h1 := done_len (xs.take j).flatten
          omega
        have hUn : (toldL lim (begunAt xs j ++ x)).length ≤ 6000 := by
          unfold toldL
          rw [List.length_map]
          have h1 := done_len (begunAt xs j ++ x)
          rw [List.length_append] at h1
          omega
        have HTM := Lib.hid (told_more lim xs j x hxj)
        rw [hT]
        generalize toldL lim (xs.take j).flatten = D at hs HTM hDn ⊢
        generalize hUU : toldL lim (begunAt xs j ++ x) = U at HTM hUn
        have HS1 : Hid (Sp w wr B bf bg lim (begunAt xs j) (.slice a1 D.length c1) D) := hs.out
        have HP : Hid (∀ Q, Sp w Q B bf bg lim (begunAt xs j) (.slice a1 D.length c1) D → Calls Try.prog 24 #[.pointer (some ⟨bf, 0, none⟩), .string A] Q fun e w' => ∃ r, e = .returned r ∧ Own w' r U ∧ Sp w w' B bf bg lim (begunAt xs (j + 1)) (.slice a1 D.length c1) D) := fun Q hq => by
          refine (push_st B bf lim (begunAt xs j) A Q hq.fd (rest_no _) (by omega) hq.size (by have := hq.size; omega) hlm (by rw [size_list, lA]; omega)).mono ?_
          rintro e w' ⟨r, rfl, hr, hf', hF⟩
          rw [lA, hUU] at hr
          rw [lA, ← begun_next xs j x hxj] at hf'
          exact ⟨r, rfl, ⟨_, hr⟩, fr_low hq.bel hF hbfw hBB, Nat.le_trans hq.size hF.bel.size, hf', gd_fr hq.gd hF hq.fd hne hbgB, fr_row hF hq.all hbfB (by decide)⟩
        clear hT hk hxs lA hA hc hxj hs hbl hFL hTL hUU hD
        go_wp2_with (first
          | (go_at_call 24; with_reducible refine (HP.out _ HS1.out).mono ?_; rintro e w5 ⟨r5, rfl, q5, s5⟩; have HS5 := Lib.hid s5; clear s5)
          | (at_builtin; refine wpList_app (by rfl) (.tmp 46) (.tmp 52) rfl rfl B rfl rfl HS5.out.all q5 HS5.out.size (by omega) ?_; intro a3 c3 w3 h3 g3; have HS6 := Lib.hid (HS5.out.grow g3 h3 hBB); clear h3 g3))
        go_roundw
        case rel => exact ⟨j + 1, by omega, by go_num, by rw [HTA.out], a3, c3, by rw [HTM.out, List.length_append], by
          have h := HS6.out
          rw [List.length_append] at h
          show Sp _ _ _ _ _ _ _ _ _
          rw [HTM.out]
          exact h⟩
        case measure => simp [intOf]; omega
      · obtain rfl : j = N := by omega
        have hTk : xs.take j = xs := List.take_of_length_le (by rw [HN.out]; exact Nat.le_refl _)
        have hbe : begunAt xs j = restL xs.flatten := by unfold begunAt; rw [hTk]
        rw [hbe, hTk] at hs
        rw [hTk]
        rw [hTk] at hTL
        obtain ⟨L, hL⟩ : ∃ L, xs.flatten = L := ⟨_, rfl⟩
        obtain ⟨S, hS⟩ : ∃ S, strL L = S := ⟨_, rfl⟩
        have lS : S.data.toList = L := by rw [← hS]; rfl
        have sS : S.size ≤ 3000 := by rw [← hS, strL_size, ← hL]; omega
        rw [hL] at hs hFL ⊢
        rw [hS]
        obtain ⟨D, hD⟩ : ∃ D, toldL lim L = D := ⟨_, rfl⟩
        obtain ⟨ls, hls⟩ : ∃ ls, splitL L = ls := ⟨_, rfl⟩
        rw [hD] at hs ⊢
        have hDn : D.length ≤ 3000 := by
          rw [← hD]; unfold toldL
          rw [List.length_map]
          have h1 := done_len L
          omega
        have hDs : D.flatten.length ≤ 3000 := by
          rw [← hD]
          have h1 := told_size lim L
          omega
        have hlsn : ls.length ≤ 3000 := by
          rw [← hls]
          have h1 := split_len L
          omega
        have HLS : Hid (∀ y ∈ ls, y.length ≤ 3000) := fun y hy => by
          have h1 : y.length ≤ L.length := line_le (by rw [hls]; exact hy)
          omega
        have HALL : Hid ((∀ y ∈ ls, y.length ≤ lim) → D.flatten ++ (restL L).take lim = L) := fun h => by
          rw [← hD]; exact told_all lim L (by rw [hls]; exact h)
        have HSP : Hid (∀ w', Calls Try.prog 11 #[.string S] w' fun e w'' => ∃ a c, e = .returned (.slice a ls.length c) ∧ Own w'' (.slice a ls.length c) ls ∧ Below w'.heap.size w' w'') := fun w' => (split_is S ls (by omega) (by rw [lS]; exact hls) w').mono (by
          rintro e w'' ⟨a, c, rfl, ho, hb⟩
          exact ⟨a, c, rfl, ⟨_, ho⟩, hb⟩)
        obtain ⟨B2, hB2⟩ : ∃ B2, wr.heap.size = B2 := ⟨_, rfl⟩
        have HP : Hid (Calls Try.prog 24 #[.pointer (some ⟨bg, 0, none⟩), .string S] wr fun e w' => ∃ a c, e = .returned (.slice a D.length c) ∧ Sq w w' B B2 bf bg lim (restL L) (.slice a1 D.length c1) (.slice a D.length c) (.slice none 0 0) D []) := by
          have h0 := hs.out.gd B2
          have hsz := hs.out.size
          have hbz := hs.out.bel.size
          refine (push_is B2 bg lim [] (restL L) D S wr (by rw [List.take_nil]; exact h0) (by omega) (by omega) (by simp) (by simp) hlm (by omega) (by rw [lS, List.nil_append]; exact hD) (by rw [lS, List.nil_append])).mono ?_
          rintro e w' ⟨a, c, rfl, hr, hf', hF⟩
          exact ⟨a, c, rfl, fr_low hs.out.bel hF hbgw (by omega), fd_other hs.out.fd hF h0 (Ne.symm hne) (by omega), hf', fr_own hF h0 ⟨_, hs.out.all⟩, ⟨_, hr⟩, ⟨0, rfl, .inl ⟨rfl, rfl⟩⟩⟩
        have HSS := Lib.hid hS
        clear hs hTk hbe hTL hL hS lS hD hls hB2 hbl
        go_wp2_with (first
          | (go_at_call 24; with_reducible refine HP.out.mono ?_; rintro e w5 ⟨a5, c5, rfl, s5⟩; have HS5 := Lib.hid s5; clear s5)
          | (go_at_call 11; with_reducible refine (HSP.out _).mono ?_; rintro e w6 ⟨a6, c6, rfl, o6, b6⟩; have HS6 := Lib.hid (HS5.out.third b6 o6); clear o6 b6))
        go_loopw [14, 15] (fun bk i wr => ∃ k : Nat, k ≤ D.length ∧ i = .int .i64 k ∧ bk = .string (strL (D.take k).flatten) ∧ Hid (Sq w wr B B2 bf bg lim (restL L) (.slice a1 D.length c1) (.slice a5 D.length c5) (.slice a6 ls.length c6) D ls)) (fun _ i _ => D.length - (intOf i).toNat)
        case atStart => exact ⟨0, Nat.zero_le _, rfl, rfl, HS6⟩
        case round =>
          obtain ⟨k, hk, rfl, rfl, hq⟩ := hrel
          by_cases hkl : k < D.length
          · have o1 := hq.out.o1
            obtain ⟨g, rfl⟩ := o1.at (by omega)
            obtain ⟨y, hy⟩ : ∃ y, D[k]? = some y := ⟨_, List.getElem?_eq_getElem hkl⟩
            have hcell := o1.cell k y hy
            have hfl := take_flat_le D (k + 1)
            rw [flat_snoc D k y hy, List.length_append] at hfl
            obtain ⟨Y, hY⟩ : ∃ Y, strL y = Y := ⟨_, rfl⟩
            rw [hY] at hcell
            obtain ⟨T, hT⟩ : ∃ T, strL (D.take k).flatten = T := ⟨_, rfl⟩
            have sT : T.size ≤ 3000 := by rw [← hT, strL_size]; omega
            have sY : Y.size ≤ 3000 := by rw [← hY, strL_size]; omega
            have HTY : Hid (T ++ Y = strL (D.take (k + 1)).flatten) := by
              show _ = _
              rw [flat_snoc D k y hy, ← hT, ← hY]
              apply ByteArray.ext
              apply Array.ext'
              simp [strL]
            rw [hT]
            clear hT hY hfl hy o1
            go_wp2_with fail
            go_roundw
            case rel => exact ⟨k + 1, by omega, by go_num, by rw [HTY.out], hq⟩
            case measure => simp [intOf]; omega
          · obtain rfl : k = D.length := by omega
            rw [List.take_length]
            obtain ⟨K, hK⟩ : ∃ K, strL D.flatten = K := ⟨_, rfl⟩
            rw [hK]
            have sK : K.size ≤ 3000 := by rw [← hK, strL_size]; omega
            go_wp2_with fail
            have HQ0 := Lib.hid hq.out
            clear hq HS6
            go_loopw [16, 17] (fun lo i wr => ∃ k : Nat, k ≤ ls.length ∧ i = .int .i64 k ∧ lo = .bool (longN mx (ls.take k)) ∧ Hid (Sq w wr B B2 bf bg lim (restL L) (.slice a1 D.length c1) (.slice a5 D.length c5) (.slice a6 ls.length c6) D ls)) (fun _ i _ => ls.length - (intOf i).toNat)
            case atStart => exact ⟨0, Nat.zero_le _, rfl, rfl, HQ0⟩
            case round =>
              obtain ⟨q, hk2, rfl, rfl, hq⟩ := hrel
              by_cases hkl2 : q < ls.length
              · have o3 := hq.out.o3
                obtain ⟨g, rfl⟩ := o3.at (by omega)
                obtain ⟨y, hy⟩ : ∃ y, ls[q]? = some y := ⟨_, List.getElem?_eq_getElem hkl2⟩
                have hcell := o3.cell q y hy
                obtain ⟨Y, hY⟩ : ∃ Y, strL y = Y := ⟨_, rfl⟩
                rw [hY] at hcell
                have sY : y.length = Y.size := by rw [← hY, strL_size]
                have sY2 : Y.size ≤ 3000 := by rw [← sY]; exact HLS.out y (List.mem_of_getElem? hy)
                have hlo := long_snoc mx ls q y hy
                rw [sY] at hlo
                have HLO := Lib.hid hlo
                generalize longN mx (ls.take q) = lo at HLO ⊢
                clear hY sY hlo hy o3
                cases lo
                · go_wp2_with fail
                  go_roundw
                  case rel => exact ⟨q + 1, by omega, by go_num, by rw [HLO.out]; simp, hq⟩
                  case measure => simp [intOf]; omega
                · go_wp2_with fail
                  go_roundw
                  case rel => exact ⟨q + 1, by omega, by go_num, by rw [HLO.out]; rfl, hq⟩
                  case measure => simp [intOf]; omega
              · obtain rfl : q = ls.length := by omega
                rw [List.take_length]
                obtain ⟨R, hR⟩ : ∃ R, strL ((restL L).take lim) = R := ⟨_, rfl⟩
                have HRf : Hid (∀ Q, Sq w Q B B2 bf bg lim (restL L) (.slice a1 D.length c1) (.slice a5 D.length c5) (.slice a6 ls.length c6) D ls → Calls Try.prog 25 #[.pointer (some ⟨bf, 0, none⟩)] Q fun e w' => e = .returned (.string R) ∧ Q = w') := fun Q h => by
                  rw [← hR]; exact rest_any _ _ _ _ Q h.fd
                have HRg : Hid (∀ Q, Sq w Q B B2 bf bg lim (restL L) (.slice a1 D.length c1) (.slice a5 D.length c5) (.slice a6 ls.length c6) D ls → Calls Try.prog 25 #[.pointer (some ⟨bg, 0, none⟩)] Q fun e w' => e = .returned (.string R) ∧ Q = w') := fun Q h => by
                  rw [← hR]; exact rest_any _ _ _ _ Q h.gd
                have HLK : Hid (longN mx ls = false → S = K ++ R) := fun h => by
                  have h2 : ∀ y ∈ ls, y.length ≤ lim := fun y hy => by
                    unfold longN at h
                    have h3 := List.any_eq_false.1 h y hy
                    have h4 := HLS.out y hy
                    refine HLM.out y.length h4 ?_
                    simp at h3
                    omega
                  have h5 := HALL.out h2
                  rw [← HSS.out, ← hK, ← hR]
                  refine (congrArg strL h5.symm).trans ?_
                  apply ByteArray.ext
                  apply Array.ext'
                  simp [strL]
                have HQ1 := Lib.hid hq.out
                clear hq hK hR
                generalize longN mx ls = lo at HLK ⊢
                cases lo
                · have e := HLK.out rfl
                  subst e
                  rw [ByteArray.size_append] at sS
                  go_wp2_with (first
                    | (go_at_call 10; with_reducible refine (same_yes HQ1.out.o1 HQ1.out.o2 rfl (by omega)).mono ?_; rintro e w7 ⟨rfl, b7⟩; have HQ2 := Lib.hid (HQ1.out.step b7); clear b7)
                    | (go_at_call 25; with_reducible refine (HRf.out _ HQ2.out).mono ?_; rintro e w8 ⟨rfl, hw⟩; rw [← hw]; clear hw w8)
                    | (go_at_call 25; with_reducible refine (HRg.out _ HQ2.out).mono ?_; rintro e w8 ⟨rfl, hw⟩; rw [← hw]; clear hw w8))
                  go_ret
                  exact ⟨rfl, HQ2.out.bel⟩
                · go_wp2_with (first
                    | (go_at_call 10; with_reducible refine (same_yes HQ1.out.o1 HQ1.out.o2 rfl (by omega)).mono ?_; rintro e w7 ⟨rfl, b7⟩; have HQ2 := Lib.hid (HQ1.out.step b7); clear b7)
                    | (go_at_call 25; with_reducible refine (HRf.out _ HQ2.out).mono ?_; rintro e w8 ⟨rfl, hw⟩; rw [← hw]; clear hw w8)
                    | (go_at_call 25; with_reducible refine (HRg.out _ HQ2.out).mono ?_; rintro e w8 ⟨rfl, hw⟩; rw [← hw]; clear hw w8))
                  go_ret
                  exact ⟨rfl, HQ2.out.bel⟩
  · have hff : fewP xs = false := by simpa using hfew
    rw [hff] at hW
    go_enter Try.func5, Try.ntmps5
    go_wp2_with (first
      | (go_at_call 9; refine hS.mono ?_; rintro e w1 ⟨rfl, hb⟩; clear hS)
      | (go_at_call 21; with_reducible refine (hW _ hb).mono ?_; rintro e w2 ⟨rfl, hw⟩; rw [← hw]; clear hw w2 hW)
      | (go_at_call 22; with_reducible refine (hNw _).mono ?_; rintro e w2 ⟨rfl, hw⟩; rw [hw]; clear hw w2))
    go_ret
    exact ⟨rfl, (hb.alloc hb.size _).alloc (by have := hb.size; simp; omega) _⟩
end Go.Proofs.Ytpoimbhfggkiiaa
