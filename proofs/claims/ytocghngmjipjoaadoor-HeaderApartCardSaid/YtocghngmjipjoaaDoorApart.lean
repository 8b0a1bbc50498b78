/- HeaderApart: fields written one after another are read again, each as if it stood alone. -/
import Derived.Test.YtocghngmjipjoaaDoorApartPure
import Derived.Test.YtocghngmjipjoaaDoorGoesL
import Derived.Test.YtocghngmjipjoaaDoorWhole
import Derived.Deep.RegionHeld3
import Derived.BigQuiet
namespace Go.Proofs.YtocghngmjipjoaaDoor
open Go.ChangeShapes Go.WideShapes Go.ChangeAt Go.RowKit
open LinesP HdrP

set_option maxRecDepth 1000000 in
set_option maxHeartbeats 1000000 in
theorem apart_long (ao bo : Option Addr) (n m cn cv : Nat) (body : ByteArray) (h : ¬ (n ≤ 20 ∧ n ≤ m ∧ body.size ≤ 3000)) (w : World) (hv : Vars w) :
    Calls Tryd.prog 6 #[.slice ao n cn, .slice bo m cv, .string body] w fun e w' => e = .returned (.bool true) ∧ Below w.heap.size w w' := by
  have hS := small_any w hv
  by_cases h1 : n ≤ 20
  · have g1 : ¬ (20 : Int) < (n : Int) := by omega
    by_cases h2 : n ≤ m
    · have g2 : ¬ (m : Int) < (n : Int) := by omega
      have g3 : (3000 : Int) < (body.size : Int) := by omega
      clear h h1 h2
      go_enter Tryd.func6, Tryd.ntmps6
      go_wp2_with (go_at_call 8; (refine hS.mono ?_); rintro e w' ⟨rfl, hb⟩; clear hS)
      go_ret
      exact ⟨rfl, hb⟩
    · have g2 : (m : Int) < (n : Int) := by omega
      clear h h1 h2
      go_enter Tryd.func6, Tryd.ntmps6
      go_wp2_with (go_at_call 8; (refine hS.mono ?_); rintro e w' ⟨rfl, hb⟩; clear hS)
      go_ret
      exact ⟨rfl, hb⟩
  · have g1 : (20 : Int) < (n : Int) := by omega
    clear h h1
    go_enter Tryd.func6, Tryd.ntmps6
    go_wp2_with (go_at_call 8; (refine hS.mono ?_); rintro e w' ⟨rfl, hb⟩; clear hS)
    go_ret
    exact ⟨rfl, hb⟩
/-- What the law asks of a name and a value. -/
def OkP (p : List UInt8 × List UInt8) : Prop := rightL p.1 = true ∧ p.1.length ≤ 100 ∧ p.2.length ≤ 300
theorem ok_step {ps : List (List UInt8 × List UInt8)} {k : Nat} {x y : List UInt8} (h : ∀ p ∈ ps.take k, OkP p) (hk : ps[k]? = some (x, y)) (ho : OkP (x, y)) : ∀ p ∈ ps.take (k + 1), OkP p := by
  rw [List.take_add_one, hk]
  intro p hp
  rcases List.mem_append.1 hp with h1 | h1
  · exact h p h1
  · obtain rfl : p = (x, y) := by simpa using h1
    exact ho
set_option maxRecDepth 1000000 in
set_option maxHeartbeats 2000000 in
theorem apart_short (ao bo : Option Addr) (n m cn cv : Nat) (xs ys : List (List UInt8)) (body : ByteArray) (hxn : xs.length = n) (hym : ys.length = m) (h1 : n ≤ 20) (h2 : n ≤ m) (h3 : body.size ≤ 3000) (w : World) (hv : Vars w)
    (hX : ∀ k x, xs[k]? = some x → ∃ a, ao = some a ∧ w.cell? (a.add k) = some (strV x)) (hY : ∀ k x, ys[k]? = some x → ∃ a, bo = some a ∧ w.cell? (a.add k) = some (strV x)) :
    Calls Tryd.prog 6 #[.slice ao n cn, .slice bo m cv, .string body] w fun e w' => e = .returned (.bool true) ∧ Below w.heap.size w w' := by
  have hS := small_any w hv
  have g1 : decide ((20 : Int) < (n : Int)) = false := decide_eq_false (by omega)
  have g2 : decide (m < n) = false := decide_eq_false (by omega)
  have g3 : decide ((3000 : Int) < (body.size : Int)) = false := decide_eq_false (by omega)
  obtain ⟨ps, hps⟩ : ∃ ps, xs.zip ys = ps := ⟨_, rfl⟩
  have hpl : ps.length = n := by rw [← hps, zip_len _ _ (by omega), hxn]
  have hpf : ps.map Prod.fst = xs := by rw [← hps, zip_fst _ _ (by omega)]
  have hp : ∀ k, k < n → ∃ x y a b, ps[k]? = some (x, y) ∧ xs[k]? = some x ∧ ao = some a ∧ bo = some b ∧ w.cell? (a.add k) = some (.string (strL x)) ∧ w.cell? (b.add k) = some (.string (strL y)) := by
    intro k hk
    obtain ⟨x, e1⟩ : ∃ x, xs[k]? = some x := ⟨_, List.getElem?_eq_getElem (by omega)⟩
    obtain ⟨y, e2⟩ : ∃ y, ys[k]? = some y := ⟨_, List.getElem?_eq_getElem (by omega)⟩
    obtain ⟨a, ha, ca⟩ := hX _ _ e1
    obtain ⟨b, hb, cb⟩ := hY _ _ e2
    exact ⟨x, y, a, b, by rw [← hps]; exact zip_at _ _ _ _ _ e1 e2, e1, ha, hb, ca, cb⟩
  have HP := Lib.hid hp
  have HPL := Lib.hid hpl
  have HPF := Lib.hid hpf
  have HXN := Lib.hid hxn
  clear hp hpl hpf hX hY hps hym hxn
  go_enter Tryd.func6, Tryd.ntmps6
  go_wp2_with (go_at_call 8; (refine hS.mono ?_); rintro e w1 ⟨rfl, hb1⟩; clear hS)
  clear g1 g2 g3
  go_loopw [8, 9] (fun s i wr => ∃ (k : Nat) (S : ByteArray), s = .string S ∧ i = .int .i64 k ∧ k ≤ n ∧ S.size ≤ 1006 * k ∧ Hid (S.data.toList = putsL (ps.take k)) ∧ Hid (∀ p ∈ ps.take k, OkP p) ∧ Below w.heap.size w wr) (fun _ i _ => n - (intOf i).toNat)
  case atStart => exact ⟨0, ⟨#[]⟩, rfl, rfl, Nat.zero_le _, Nat.zero_le _, Lib.hid rfl, Lib.hid (by simp), hb1⟩
  case round =>
    clear hb1
    obtain ⟨k, S, rfl, rfl, hk, hSz, HS, HO, hbl⟩ := hrel
    by_cases hlt : k < n
    · have F1 : IntKind.i64.wrap ((k : Int) + 1) = (k : Int) + 1 := by rw [IntKind.wrap_i64]; omega
      have hlt' : (k : Int) < (n : Int) := by omega
      have hlm : (k : Int) < (m : Int) := by omega
      have j0 : (0 : Int) ≤ (k : Int) := by omega
      obtain ⟨x, y, a, b, hpk, _, rfl, rfl, c1, c2⟩ := HP.out k hlt
      have hkeep : ∀ Q, Below w.heap.size w Q → Hid (Below w.heap.size w Q) ∧ Q.cell? (a.add k) = some (.string (strL x)) ∧ Q.cell? (b.add k) = some (.string (strL y)) := fun Q hq => ⟨Lib.hid hq, cell_below c1 hq, cell_below c2 hq⟩
      have cR : ∀ Q, Calls Tryd.prog 24 #[.string (strL x)] Q fun e Q' => e = .returned (.bool (rightL x)) ∧ Below Q.heap.size Q Q' := fun Q => right_any (strL x) Q
      have cQ : x.length ≤ 100 → y.length ≤ 300 → ∀ Q, Hid (Below w.heap.size w Q) → Calls Tryd.prog 22 #[.string (strL x), .string (strL y)] Q fun e Q' => e = .returned (.string (strL (putL x y))) ∧ Below w.heap.size w Q' := fun h1 h2 Q hq =>
        (put_any (strL x) (strL y) (by rw [strL_size]; omega) (by rw [strL_size]; omega) Q (hv.keep hq.out)).mono fun e Q' h => ⟨h.1, hq.out.trans (h.2.mono hq.out.size)⟩
      have hpz := put_len x y
      obtain ⟨z, hz⟩ : ∃ z, S ++ strL (putL x y) = z := ⟨_, rfl⟩
      have zz : z.size = S.size + (putL x y).length := by rw [← hz, ByteArray.size_append, strL_size]
      have HZ : Hid (z.data.toList = putsL (ps.take (k + 1))) := Lib.hid (by rw [← hz, list_append, HS.out, puts_step ps k x y hpk]; rfl)
      have zP := strL_size (putL x y)
      have zX := strL_size x
      have zY := strL_size y
      have HOK := Lib.hid (fun (h1 : rightL x = true) (h2 : x.length ≤ 100) (h3 : y.length ≤ 300) => ok_step HO.out hpk (⟨h1, h2, h3⟩ : OkP (x, y)))
      clear c1 c2
      generalize strL x = X at zX cR cQ hkeep
      generalize strL y = Y at zY cQ hkeep
      generalize strL (putL x y) = Pk at cQ hz zP
      obtain ⟨_, l1, l2⟩ := hkeep _ hbl
      have HK := Lib.hid hkeep
      by_cases b1 : X.size ≤ 100
      · have d1 : ¬ (100 : Int) < (X.size : Int) := by omega
        by_cases b2 : Y.size ≤ 300
        · have d2 : ¬ (300 : Int) < (Y.size : Int) := by omega
          cases hr : rightL x
          · rw [hr] at cR
            clear hkeep cQ hz zz HZ hpz HOK hpk
            go_wp2_with (go_at_call 24; (with_reducible refine (cR _).mono ?_); rintro e w2 ⟨rfl, b2⟩; have hb2 := hbl.trans (b2.mono hbl.size); clear cR b2)
            go_ret
            exact ⟨rfl, hb2⟩
          · rw [hr] at cR
            have hok := HOK.out hr (by omega) (by omega)
            have cQ := cQ (by omega) (by omega)
            have hzz : z.size ≤ 1006 * (k + 1) := by omega
            have nz : ¬ 9223372036854775807 < S.size + Pk.size := by omega
            clear hkeep zP zz hpz HOK hpk hr zX zY
            have HOK := Lib.hid hok
            clear hok
            go_wp2_with (go_at_call 24; (with_reducible refine (cR _).mono ?_); rintro e w2 ⟨rfl, b2⟩; have hb2 := hbl.trans (b2.mono hbl.size); clear cR b2 l1 l2; obtain ⟨_, l1, l2⟩ := HK.out _ hb2)
            go_region_held3 (fun Q => Hid (Below w.heap.size w Q) ∧ Q.cell? (a.add k) = some (.string X) ∧ Q.cell? (b.add k) = some (.string Y))
              (first | exact HK.out _ hb2 | exact HK.out _ hb2.drew | exact HK.out _ (by assumption) | exact HK.out _ (Below.drew (by assumption)))
              (first | (go_at_call 22; refine (cQ _ (by first | assumption | exact Lib.hid hb2.drew | exact Lib.hid hb2)).mono ?_; rintro e w5 ⟨rfl, hs5⟩; obtain ⟨_, l5, l6⟩ := HK.out _ hs5))
            go_wp2_with fail
            go_roundw
            case rel => exact ⟨k + 1, z, rfl, by go_num, by omega, hzz, HZ, HOK, hs5⟩
            case measure => simp [intOf]; omega
        · have d2 : (300 : Int) < (Y.size : Int) := by omega
          clear hkeep cR cQ hz zz HZ hpz HOK hpk
          go_wp2_with fail
          go_ret
          exact ⟨rfl, hbl⟩
      · have d1 : (100 : Int) < (X.size : Int) := by omega
        clear hkeep cR cQ hz zz HZ hpz HOK hpk
        go_wp2_with fail
        go_ret
        exact ⟨rfl, hbl⟩
    · obtain rfl : n = k := by omega
      have hlt' : ¬ (n : Int) < (n : Int) := by omega
      have ho : ∀ p ∈ ps, OkP p := by have := HO.out; rwa [List.take_of_length_le (by rw [HPL.out]; exact Nat.le_refl _)] at this
      have hs : S.data.toList = putsL ps := by have := HS.out; rwa [List.take_of_length_le (by rw [HPL.out]; exact Nat.le_refl _)] at this
      have hSz2 : S.size ≤ 20120 := by omega
      obtain ⟨T1, t1⟩ : ∃ T, S ++ ⟨#[13, 10]⟩ = T := ⟨_, rfl⟩
      obtain ⟨T2, t2⟩ : ∃ T, T1 ++ body = T := ⟨_, rfl⟩
      have z1 : T1.size = S.size + 2 := by rw [← t1, ByteArray.size_append]; rfl
      have z2 : T2.size = T1.size + body.size := by rw [← t2, ByteArray.size_append]
      have l2 : T2.data.toList = putsL ps ++ [13, 10] ++ body.data.toList := by rw [← t2, ← t1, list_append, list_append, hs]
      obtain ⟨p1, p2⟩ := puts_parse ps (fun p h => (ho p h).1) body.data.toList
      rw [← l2] at p1 p2
      rw [← hs] at p2 l2
      rw [← size_list] at p2
      have R1 : T2.extract (S.size + 2) T2.size = body := bytes_is (by rw [part_rest T2 (S.size + 2) (by omega), l2, List.drop_left' (by rw [List.length_append, ← size_list]; rfl)])
      obtain ⟨P, hP⟩ : ∃ P, ps.map (fun p => fOf p.1 p.2) = P := ⟨_, rfl⟩
      rw [hP] at p1
      have hPl : P.length = n := by rw [← hP, List.length_map, HPL.out]
      have hPk : ∀ (k : Nat) (x y : List UInt8), ps[k]? = some (x, y) → P[k]? = some (fOf x y) := by intro k x y h; rw [← hP, List.getElem?_map, h]; rfl
      have hAll : ∀ (x : List UInt8), (allL P x).length = (xs.filter (sameLow x)).length := by intro x; rw [← hP, all_count ps (fun p h => (ho p h).1) x, HPF.out]
      have hfs := fields_small T2.data.toList
      rw [p1, ← size_list] at hfs
      have cP := parse_is T2 P (S.size + 2) (by omega) p1 p2 wr (hv.keep hbl)
      rw [hPl] at cP
      obtain ⟨M, hM⟩ : ∃ M, S.size + 2 = M := ⟨_, rfl⟩
      rw [hM] at cP R1
      have g4 : ((M : Int) != (S.size : Int) + 2) = false := by rw [bne, Bool.not_eq_false', beq_iff_eq]; omega
      have R2 := run_slice_from T2 M (M : Int) rfl (by omega)
      rw [R1] at R2
      have g5 : (body.toList != body.toList) = false := by simp
      have F2 : IntKind.i64.wrap ((S.size : Int) + 2) = (S.size : Int) + 2 := by rw [IntKind.wrap_i64]; omega
      have z3 : T1.size ≤ 30000 := by omega
      have z4 : T2.size ≤ 30000 := by omega
      have HFS := Lib.hid (fun (f : Fld) (hf : f ∈ P) => (⟨by have := (hfs f hf).1; omega, by have := (hfs f hf).2; omega⟩ : f.name.length ≤ 1000000 ∧ f.value.length ≤ 1000000))
      have HPK := Lib.hid hPk
      have HALL := Lib.hid hAll
      have HOK := Lib.hid ho
      have HPLn := Lib.hid hPl
      clear HS HO hk hSz z1 z2 l2 p1 p2 hP hPk hAll ho hfs R1 hM hPl hs
      go_wp2_with (go_at_call 10; (with_reducible refine cP.mono ?_); rintro e w2 ⟨a1, c1, rfl, o1, b2⟩; have hb2 := hbl.trans (b2.mono hbl.size); clear cP b2)
      have HO1 := Lib.hid o1
      clear o1 t1 t2 R2 g4 g5 F2 z3 z4 hSz2 hbl
      go_loopw [12] (fun i wr => ∃ j : Nat, j ≤ n ∧ i = .int .i64 j ∧ Below w2.heap.size w2 wr) (fun i _ => n - (intOf i).toNat)
      case atStart => exact ⟨0, Nat.zero_le _, rfl, Below.refl _ _⟩
      case round =>
        obtain ⟨j, hj, rfl, hbj⟩ := hrel
        by_cases hlt : j < n
        · have F1 : IntKind.i64.wrap ((j : Int) + 1) = (j : Int) + 1 := by rw [IntKind.wrap_i64]; omega
          have hlt' : (j : Int) < (n : Int) := by omega
          have hlm : (j : Int) < (m : Int) := by omega
          have j0 : (0 : Int) ≤ (j : Int) := by omega
          obtain ⟨x, y, a, b, hpk, hxk, rfl, rfl, e1, e2⟩ := HP.out j hlt
          obtain ⟨o1, o2, o3⟩ := HOK.out (x, y) (List.mem_of_getElem? hpk)
          obtain ⟨f1, _, _, f4⟩ := fOf_is o1 y
          obtain ⟨g, rfl, hfat⟩ := HO1.out.at (by omega)
          obtain ⟨p0, p1, p2, p3⟩ := hfat j _ (HPK.out j x y hpk)
          simp only [Nat.zero_add] at p0 p1 p2 p3
          have hkeep : ∀ Q, Below w2.heap.size w2 Q → Hid (Below w2.heap.size w2 Q) ∧ Q.cell? (a.add j) = some (.string (strL x)) ∧ Q.cell? (b.add j) = some (.string (strL y)) ∧ Q.cell? ⟨g, j * 4, none⟩ = some (.string (strL (fOf x y).name)) ∧ Q.cell? ⟨g, j * 4 + 1, none⟩ = some (.string (strL (fOf x y).value)) ∧ Q.cell? ⟨g, j * 4 + 2, none⟩ = some (.string (strL (fOf x y).raw)) ∧ Q.cell? ⟨g, j * 4 + 3, none⟩ = some (.bool (fOf x y).bad) := fun Q hq =>
            have hq2 := hb2.trans (hq.mono hb2.size)
            ⟨Lib.hid hq, cell_below e1 hq2, cell_below e2 hq2, cell_below p0 hq, cell_below p1 hq, cell_below p2 hq, cell_below p3 hq⟩
          have cQ : ∀ Q, Hid (Below w2.heap.size w2 Q) → Calls Tryd.prog 22 #[.string (strL x), .string (strL y)] Q fun e Q' => e = .returned (.string (strL (putL x y))) ∧ Below w2.heap.size w2 Q' := fun Q hq =>
            (put_any (strL x) (strL y) (by rw [strL_size]; simp only at o2; omega) (by rw [strL_size]; simp only at o3; omega) Q (hv.keep (hb2.trans (hq.out.mono hb2.size)))).mono fun e Q' h => ⟨h.1, hq.out.trans (h.2.mono hq.out.size)⟩
          have hpz := put_len x y
          have cF : ∀ Q, Hid (Below w2.heap.size w2 Q) → Calls Tryd.prog 10 #[.string (strL (putL x y))] Q fun e Q' => ∃ h c, e = .returned (.tuple #[.slice (some ⟨h, 0, none⟩) 1 c, .int .i64 ((putL x y).length : Nat)]) ∧ (Q'.cell? ⟨h, 0, none⟩ = some (.string (strL (fOf x y).name)) ∧ Q'.cell? ⟨h, 1, none⟩ = some (.string (strL (fOf x y).value)) ∧ Q'.cell? ⟨h, 2, none⟩ = some (.string (strL (fOf x y).raw)) ∧ Q'.cell? ⟨h, 3, none⟩ = some (.bool (fOf x y).bad)) ∧ Below w2.heap.size w2 Q' := fun Q hq =>
            (parse_is (strL (putL x y)) [fOf x y] (putL x y).length (by rw [strL_size]; simp only at o2 o3; omega) f1 f4 Q (hv.keep (hb2.trans (hq.out.mono hb2.size)))).mono (by
              rintro e Q' ⟨a', c', rfl, ho, hb'⟩
              obtain ⟨h, rfl, hh⟩ := one_at ho
              exact ⟨h, c', rfl, hh, hq.out.trans (hb'.mono hq.out.size)⟩)
          have hEq := run_equal_fld (fOf x y) (fOf x y)
          rw [decide_eq_true rfl] at hEq
          have hYl := HALL.out x
          have hYp := count_pos xs x (List.mem_of_getElem? hxk)
          have hFl := HPLn.out
          have hO1 := fun Q (hq : Below w2.heap.size w2 Q) => (HO1.out.step hq).has
          have cA : ∀ Q, Below w2.heap.size w2 Q → Calls Tryd.prog 20 #[.slice (some ⟨g, 0, none⟩) n c1, .string (strL x)] Q fun e Q' => ∃ u, e = .returned u ∧ Own Q' u (allL P x) ∧ Below Q.heap.size Q Q' := fun Q hq =>
            all_any _ P (strL x) Q (hO1 Q hq) (by omega) HFS.out
          have cG : ∀ Q, Below w2.heap.size w2 Q → Calls Tryd.prog 12 #[.slice (some ⟨g, 0, none⟩) n c1, .string (strL x)] Q fun e Q' => e = .returned (getV (allL P x)) ∧ Below Q.heap.size Q Q' := fun Q hq =>
            get_any _ P (strL x) Q (hO1 Q hq) (by omega) HFS.out
          obtain ⟨C, hC⟩ : ∃ C, (xs.filter (sameLow x)).length = C := ⟨_, rfl⟩
          rw [hC] at hYl hYp
          generalize allL P x = Z at hYl cA cG
          cases Z with
          | nil => rw [List.length_nil] at hYl; omega
          | cons z0 Zr =>
          have cA' : ∀ Q, Below w2.heap.size w2 Q → Calls Tryd.prog 20 #[.slice (some ⟨g, 0, none⟩) n c1, .string (strL x)] Q fun e Q' => ∃ u c, e = .returned (.slice (some ⟨u, 0, none⟩) C c) ∧ Q'.cell? ⟨u, 0, none⟩ = some (.string (strL z0)) ∧ Below Q.heap.size Q Q' := fun Q hq => (cA Q hq).mono (by
            rintro e Q' ⟨u, rfl, ho, hb'⟩
            obtain ⟨ao', c', rfl⟩ := ho.shape
            rw [hYl] at ho ⊢
            obtain ⟨u0, rfl⟩ := ho.at hYp
            exact ⟨u0, c', rfl, ho.cell 0 z0 rfl, hb'⟩)
          have cG' : ∀ Q, Below w2.heap.size w2 Q → Calls Tryd.prog 12 #[.slice (some ⟨g, 0, none⟩) n c1, .string (strL x)] Q fun e Q' => e = .returned (.tuple #[.string (strL z0), .bool true]) ∧ Below Q.heap.size Q Q' := cG
          have hAB : ∀ x', ((strL (x'.map low)).toList == (strL (x.map low)).toList) = sameLow x x' := fun x' => by rw [eq_strL]; unfold sameLow; rw [Bool.eq_iff_iff]; simp
          have cS : ∀ Q, Calls Tryd.prog 31 #[.string (strL x)] Q fun e Q' => e = .returned (.string (strL (x.map low))) ∧ Below Q.heap.size Q Q' := fun Q => small_name (strL x) (by rw [strL_size]; simp only at o2; omega) Q
          clear cA cG hpz f1 f4 o1 o2 o3 hfat hO1 hFl hYl p0 p1 p2 p3 e2
          generalize strL (putL x y) = Pk at cQ cF
          generalize (putL x y).length = pl at cF
          generalize strL x = X at hkeep cQ cA' cG' cS e1
          generalize strL y = Y at hkeep cQ
          generalize strL (x.map low) = B at hAB cS
          generalize strL z0 = Z0 at cA' cG'
          generalize strL (fOf x y).name = x1 at hEq cF hkeep
          generalize strL (fOf x y).value = x2 at hEq cF hkeep
          generalize strL (fOf x y).raw = x3 at hEq cF hkeep
          generalize (fOf x y).bad = x4 at hEq cF hkeep
          obtain ⟨_, l1, l2, l3, l4, l5, l6⟩ := hkeep _ hbj
          have HK := Lib.hid hkeep
          have HCG := Lib.hid cG'
          have HCA := Lib.hid cA'
          have HAB := Lib.hid hAB
          have HC := Lib.hid hC
          have HE1 := Lib.hid e1
          have hC0 : (0 : Int) < (C : Int) := by omega
          have n2 : (Z0.toList != Z0.toList) = false := by simp
          clear hkeep cG' cA' hAB hC e1
          go_wp2_with fail
          go_region_held3 (fun Q => Hid (Below w2.heap.size w2 Q) ∧ Q.cell? (a.add j) = some (.string X) ∧ Q.cell? (b.add j) = some (.string Y) ∧ Q.cell? ⟨g, j * 4, none⟩ = some (.string x1) ∧ Q.cell? ⟨g, j * 4 + 1, none⟩ = some (.string x2) ∧ Q.cell? ⟨g, j * 4 + 2, none⟩ = some (.string x3) ∧ Q.cell? ⟨g, j * 4 + 3, none⟩ = some (.bool x4))
            (first | exact HK.out _ hbj | exact HK.out _ hbj.drew | exact HK.out _ (by assumption) | exact HK.out _ (Below.drew (by assumption)))
            (first
              | (go_at_call 22; (with_reducible refine (cQ _ (by first | assumption | exact Lib.hid hbj.drew | exact Lib.hid hbj)).mono ?_); rintro e w5 ⟨rfl, hs5⟩; obtain ⟨_, m1, m2, m3, m4, m5, m6⟩ := HK.out _ hs5)
              | (go_at_call 10; (with_reducible refine (cF _ (by first | assumption | exact Lib.hid (by assumption))).mono ?_); rintro e w6 ⟨h, c, rfl, ⟨q0, q1, q2, q3⟩, hs6⟩; obtain ⟨_, r1, r2, r3, r4, r5, r6⟩ := HK.out _ hs6))
          go_wp2_with fail
          clear l1 l2 l3 l4 l5 l6 m1 m2 m3 m4 m5 m6 cQ cF
          go_quiet (fail)
          clear q0 q1 q2 q3 r3 r4 r5 r6 hEq
          have cA := HCA.out
          clear HCA
          go_wp2_with (first
            | (go_at_call 20; (with_reducible refine (cA _ (by first | exact hs6 | exact hs6.trans ((drew_below _ _).mono hs6.size))).mono ?_); rintro e w7 ⟨u, cu, rfl, hu, b7⟩; have hs7 : Below w2.heap.size w2 w7 := Below.trans (by first | exact hs6 | exact hs6.trans ((drew_below _ _).mono hs6.size)) (b7.mono (by first | exact hs6.size | exact (hs6.trans ((drew_below _ _).mono hs6.size)).size)); clear cA b7))
          clear r1 r2
          go_loopw [16, 17] (fun mv i wr => ∃ (D i' : Nat), mv = .int .i64 D ∧ i = .int .i64 i' ∧ i' ≤ n ∧ Hid (((xs.take i').filter (sameLow x)).length = D) ∧ Below w7.heap.size w7 wr) (fun _ i _ => n - (intOf i).toNat)
          case atStart => exact ⟨0, 0, rfl, rfl, Nat.zero_le _, Lib.hid rfl, Below.refl _ _⟩
          case round =>
            obtain ⟨D, i, rfl, rfl, hi, hD, hbi⟩ := hrel
            by_cases hlt2 : i < n
            · have hlt2' : (i : Int) < (n : Int) := by omega
              have i0 : (0 : Int) ≤ (i : Int) := by omega
              have F2 : IntKind.i64.wrap ((i : Int) + 1) = (i : Int) + 1 := by rw [IntKind.wrap_i64]; omega
              obtain ⟨x', y', a', b', hpi, hxi, e1, e9, e3, e8⟩ := HP.out i hlt2
              obtain rfl : a = a' := Option.some.inj e1
              have hst := count_step xs x i x' hxi
              have hle := count_le xs x i
              rw [hD.out] at hst hle
              have F3 : IntKind.i64.wrap ((D : Int) + 1) = (D : Int) + 1 := by rw [IntKind.wrap_i64]; omega
              have hx'z := (HOK.out (x', y') (List.mem_of_getElem? hpi)).2.1
              have hkeep : ∀ Q, Below w7.heap.size w7 Q → Hid (Below w7.heap.size w7 Q) ∧ Q.cell? (a.add i) = some (.string (strL x')) ∧ Q.cell? (a.add j) = some (.string X) := fun Q hq =>
                have hq2 := hs7.trans (hq.mono hs7.size)
                have hq3 := hb2.trans (hq2.mono hb2.size)
                ⟨Lib.hid hq, cell_below e3 hq3, cell_below HE1.out hq3⟩
              have cI : ∀ Q, Calls Tryd.prog 31 #[.string (strL x')] Q fun e Q' => e = .returned (.string (strL (x'.map low))) ∧ Below Q.heap.size Q Q' := fun Q => small_name (strL x') (by rw [strL_size]; simp only at hx'z; omega) Q
              have hEQ := HAB.out x'
              clear hx'z e3 e1 e8 e9 hxi hpi
              generalize strL x' = X' at hkeep cI
              generalize strL (x'.map low) = B' at hEQ cI
              obtain ⟨_, l1, l2⟩ := hkeep _ hbi
              have HKI := Lib.hid hkeep
              clear hkeep
              cases hsl : sameLow x x'
              · rw [hsl] at hEQ
                rw [hsl, if_neg Bool.false_ne_true, Nat.add_zero] at hst
                have HST := Lib.hid hst
                clear hst hsl
                go_wp2_with fail
                go_region_held3 (fun Q => Hid (Below w7.heap.size w7 Q) ∧ Q.cell? (a.add i) = some (.string X') ∧ Q.cell? (a.add j) = some (.string X))
                  (first | exact HKI.out _ hbi | exact HKI.out _ hbi.drew | exact HKI.out _ (by assumption) | exact HKI.out _ (Below.drew (by assumption)))
                  (first
                    | (go_at_call 31; (with_reducible refine (cI _).mono ?_); rintro e w8 ⟨rfl, b8⟩; have hs8 : Below w7.heap.size w7 w8 := Below.trans (by first | exact hbi.drew | assumption | exact Lib.Hid.out (by assumption)) (b8.mono (by first | exact hbi.drew.size | exact Below.size (by assumption))); clear b8 cI; obtain ⟨_, t1, t2⟩ := HKI.out _ hs8)
                    | (go_at_call 31; (with_reducible refine (cS _).mono ?_); rintro e w9 ⟨rfl, b9⟩; have hs9 : Below w7.heap.size w7 w9 := Below.trans (by first | exact hbi.drew | assumption | exact Lib.Hid.out (by assumption)) (b9.mono (by first | exact hbi.drew.size | exact Below.size (by assumption))); clear b9; obtain ⟨_, t3, t4⟩ := HKI.out _ hs9))
                go_wp2_with fail
                go_roundw
                case rel => exact ⟨D, i + 1, rfl, by go_num, by omega, HST, hs9⟩
                case measure => simp [intOf]; omega
              · rw [hsl] at hEQ
                rw [hsl, if_pos rfl] at hst
                have HST := Lib.hid hst
                clear hst hsl
                go_wp2_with fail
                go_region_held3 (fun Q => Hid (Below w7.heap.size w7 Q) ∧ Q.cell? (a.add i) = some (.string X') ∧ Q.cell? (a.add j) = some (.string X))
                  (first | exact HKI.out _ hbi | exact HKI.out _ hbi.drew | exact HKI.out _ (by assumption) | exact HKI.out _ (Below.drew (by assumption)))
                  (first
                    | (go_at_call 31; (with_reducible refine (cI _).mono ?_); rintro e w8 ⟨rfl, b8⟩; have hs8 : Below w7.heap.size w7 w8 := Below.trans (by first | exact hbi.drew | assumption | exact Lib.Hid.out (by assumption)) (b8.mono (by first | exact hbi.drew.size | exact Below.size (by assumption))); clear b8 cI; obtain ⟨_, t1, t2⟩ := HKI.out _ hs8)
                    | (go_at_call 31; (with_reducible refine (cS _).mono ?_); rintro e w9 ⟨rfl, b9⟩; have hs9 : Below w7.heap.size w7 w9 := Below.trans (by first | exact hbi.drew | assumption | exact Lib.Hid.out (by assumption)) (b9.mono (by first | exact hbi.drew.size | exact Below.size (by assumption))); clear b9; obtain ⟨_, t3, t4⟩ := HKI.out _ hs9))
                go_wp2_with fail
                go_roundw
                case rel => exact ⟨D + 1, i + 1, by go_num, by go_num, by omega, HST, hs9⟩
                case measure => simp [intOf]; omega
            · obtain rfl : n = i := by omega
              have hlt2' : ¬ (n : Int) < (n : Int) := by omega
              obtain rfl : C = D := by
                have := hD.out
                rw [List.take_of_length_le (by rw [HXN.out]; exact Nat.le_refl _)] at this
                rw [← HC.out, this]
              have cG := HCG.out wr (hs7.trans (hbi.mono hs7.size))
              have l9 := cell_below HE1.out (hb2.trans ((hs7.trans (hbi.mono hs7.size)).mono hb2.size))
              clear hD
              go_wp2_with (go_at_call 12; (with_reducible refine cG.mono ?_); rintro e w9 ⟨rfl, b9⟩; have hs9 := hbi.trans (b9.mono hbi.size); have k0 := cell_below hu hs9; clear cG b9 hu)
              go_roundw
              case rel => exact ⟨j + 1, by omega, by go_num, hs7.trans (hs9.mono hs7.size)⟩
              case measure => simp [intOf]; omega
        · obtain rfl : n = j := by omega
          go_wp2_with fail
          go_ret
          exact ⟨rfl, hb2.trans (hbj.mono hb2.size)⟩
theorem apart_any (ao bo : Option Addr) (n m cn cv : Nat) (xs ys : List (List UInt8)) (body : ByteArray) (hxn : xs.length = n) (hym : ys.length = m) (w : World) (hv : Vars w)
    (hX : ∀ k x, xs[k]? = some x → ∃ a, ao = some a ∧ w.cell? (a.add k) = some (strV x)) (hY : ∀ k x, ys[k]? = some x → ∃ a, bo = some a ∧ w.cell? (a.add k) = some (strV x)) :
    Calls Tryd.prog 6 #[.slice ao n cn, .slice bo m cv, .string body] w fun e w' => e = .returned (.bool true) ∧ Below w.heap.size w w' := by
  by_cases h : n ≤ 20 ∧ n ≤ m ∧ body.size ≤ 3000
  · exact apart_short ao bo n m cn cv xs ys body hxn hym h.1 h.2.1 h.2.2 w hv hX hY
  · exact apart_long ao bo n m cn cv body h w hv
/-- The same, of two slices that can be read. -/
theorem apart_has (u v : Value) (xs ys : List (List UInt8)) (body : ByteArray) (w : World) (hv : Vars w) (hX : Has strV w u xs) (hY : Has strV w v ys) :
    Calls Tryd.prog 6 #[u, v, .string body] w fun e w' => e = .returned (.bool true) ∧ Below w.heap.size w w' := by
  obtain ⟨ao, cn, rfl, h1⟩ := hX.form
  obtain ⟨bo, cv, rfl, h2⟩ := hY.form
  exact apart_any ao bo _ _ cn cv xs ys body rfl rfl w hv h1 h2
end Go.Proofs.YtocghngmjipjoaaDoor
