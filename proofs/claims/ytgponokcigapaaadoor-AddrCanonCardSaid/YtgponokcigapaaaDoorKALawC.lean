/- AddrCanon: the case of the domain's letters, the parts of the canonical form, written and read back. -/
import Derived.Test.YtgponokcigapaaaDoorKASmall
import Derived.Test.YtgponokcigapaaaDoorKHeld
namespace Go.Proofs.YtgponokcigapaaaDoor
open Go.ChangeShapes Go.WideShapes Go.ChangeAt Go.RowKit
open TokP AdrP

theorem up_letter (c : UInt8) (x : Nat) (hx : c.toNat = x) (h1 : 97 ≤ x) (h2 : x ≤ 122) : ((upA c).toNat : Int) = (x : Int) - 32 := by
  unfold upA
  rw [hx, if_pos ⟨h1, h2⟩, UInt8.toNat_sub, hx, show (32 : UInt8).toNat = 32 from rfl]
  omega
theorem low_next2 {U D : List UInt8} {k : Nat} {c d : UInt8} (h : D[k]? = some c) (hU : U.map lowA = (D.take k).map lowA) (hd : lowA d = lowA c) : (U ++ [d]).map lowA = (D.take (k + 1)).map lowA := by
  rw [low_next D k c h, List.map_append, hU]
  simp [hd]
/-- Older memory, the address at g, its neighbour at b. -/
structure Cs (w0 w : World) (g b : Nat) (N L D X B : ByteArray) : Prop where
  bel : Below w0.heap.size w0 w
  x : Bx w g N L D
  y : Bx w b X L B
theorem Cs.step {w0 w w' : World} {g b : Nat} {N L D X B : ByteArray} (h : Cs w0 w g b N L D X B) (hb : Below w.heap.size w w') : Cs w0 w' g b N L D X B := ⟨h.bel.trans (hb.mono h.bel.size), h.x.step hb, h.y.step hb⟩
theorem Cs.all {w0 w : World} {g b : Nat} {N L D X B : ByteArray} (h : Cs w0 w g b N L D X B) : Hid (Cs w0 w g b N L D X B) ∧ w.cell? ⟨g, 1, none⟩ = some (.string L) ∧ w.cell? ⟨g, 2, none⟩ = some (.string D) ∧ w.cell? ⟨b, 0, none⟩ = some (.string X) ∧ w.cell? ⟨b, 1, none⟩ = some (.string L) ∧ w.cell? ⟨b, 2, none⟩ = some (.string B) := ⟨Lib.hid h, h.x.c1, h.x.c2, h.y.c0, h.y.c1, h.y.c2⟩
/-- And the lower address at c. -/
structure Ct (w0 w : World) (g b c : Nat) (N L D X B E : ByteArray) : Prop where
  s : Cs w0 w g b N L D X B
  z : Bx w c ⟨#[]⟩ L E
theorem Ct.step {w0 w w' : World} {g b c : Nat} {N L D X B E : ByteArray} (h : Ct w0 w g b c N L D X B E) (hb : Below w.heap.size w w') : Ct w0 w' g b c N L D X B E := ⟨h.s.step hb, h.z.step hb⟩
theorem Ct.all {w0 w : World} {g b c : Nat} {N L D X B E : ByteArray} (h : Ct w0 w g b c N L D X B E) : Hid (Ct w0 w g b c N L D X B E) ∧ w.cell? ⟨g, 0, none⟩ = some (.string N) ∧ w.cell? ⟨g, 1, none⟩ = some (.string L) ∧ w.cell? ⟨g, 2, none⟩ = some (.string D) ∧ w.cell? ⟨c, 0, none⟩ = some (.string ⟨#[]⟩) ∧ w.cell? ⟨c, 1, none⟩ = some (.string L) ∧ w.cell? ⟨c, 2, none⟩ = some (.string E) :=
  ⟨Lib.hid h, h.s.x.c0, h.s.x.c1, h.s.x.c2, h.z.c0, h.z.c1, h.z.c2⟩
/-- Three strings that lie at g. -/
def Bx3 (w : World) (g : Nat) (N L D : ByteArray) : Prop := w.cell? ⟨g, 0, none⟩ = some (.string N) ∧ w.cell? ⟨g, 1, none⟩ = some (.string L) ∧ w.cell? ⟨g, 2, none⟩ = some (.string D)
theorem Bx3.step {w w' : World} {g : Nat} {N L D : ByteArray} (h : Bx3 w g N L D) (hb : Below w.heap.size w w') : Bx3 w' g N L D := ⟨cell_below h.1 hb, cell_below h.2.1 hb, cell_below h.2.2 hb⟩
theorem Ct.all3 {w0 w : World} {g b c p : Nat} {N L D X B E : ByteArray} (h : Ct w0 w g b c N L D X B E) (hp : Bx3 w p ⟨#[]⟩ L E) : Hid (Ct w0 w g b c N L D X B E) ∧ w.cell? ⟨g, 0, none⟩ = some (.string N) ∧ w.cell? ⟨g, 1, none⟩ = some (.string L) ∧ w.cell? ⟨g, 2, none⟩ = some (.string D) ∧ w.cell? ⟨c, 0, none⟩ = some (.string ⟨#[]⟩) ∧ w.cell? ⟨c, 1, none⟩ = some (.string L) ∧ w.cell? ⟨c, 2, none⟩ = some (.string E) ∧ w.cell? ⟨p, 0, none⟩ = some (.string ⟨#[]⟩) ∧ w.cell? ⟨p, 1, none⟩ = some (.string L) ∧ w.cell? ⟨p, 2, none⟩ = some (.string E) :=
  ⟨Lib.hid h, h.s.x.c0, h.s.x.c1, h.s.x.c2, h.z.c0, h.z.c1, h.z.c2, hp.1, hp.2.1, hp.2.2⟩
set_option maxRecDepth 100000 in
set_option maxHeartbeats 4000000 in
theorem canon_law (N L D : ByteArray) (q : Int) (w : World) :
    Calls Tryd.prog 9 #[.agg #[.string N, .string L, .string D], .int .i64 q] w fun e w' => e = .returned (.bool true) ∧ Below w.heap.size w w' := by
  obtain ⟨a, ha⟩ : ∃ a : Adr, (⟨N.data.toList, L.data.toList, D.data.toList⟩ : Adr) = a := ⟨_, rfl⟩
  have hNe : strL a.name = N := by rw [← ha]; exact strL_of N
  have hLe : strL a.loc = L := by rw [← ha]; exact strL_of L
  have hDe : strL a.dom = D := by rw [← ha]; exact strL_of D
  have cF := fun W => fewA_any (.slice (some ⟨W.heap.size, 0, none⟩) 1 1) [a] (W.alloc (.cells #[.string (strL a.name), .string (strL a.loc), .string (strL a.dom)] 34)) (has_new W [a] 1) (by simp)
  have hfa : fewB [a] = smallA a := by unfold fewB; simp
  rw [hfa, hNe, hLe, hDe] at cF
  have HB0 := Lib.hid (below_box w (.cells #[.string N, .string L, .string D] 34))
  have HX0 := Lib.hid (bx_new w N L D)
  have cS := small_ok (w.alloc (.cells #[.string N, .string L, .string D] 34))
  cases hsm : smallA a with
  | false =>
    rw [hsm] at cF
    clear hNe hLe hDe hfa ha hsm
    go_enter Tryd.func9, Tryd.ntmps9
    go_wp2_with (first
      | (go_at_call 10; (with_reducible refine cS.mono ?_); rintro e w1 ⟨rfl, hb1⟩; clear cS; have hx1 := HX0.out.step hb1; have k0 := hx1.c0; have k1 := hx1.c1; have k2 := hx1.c2; have HB1 := Lib.hid (Qtrans HB0.out hb1); clear hb1 hx1)
      | (go_at_call 17; (with_reducible refine (cF _).mono ?_); rintro e w2 ⟨rfl, rfl⟩; clear cF))
    go_ret
    exact ⟨rfl, HB1.out.alloc HB1.out.size _⟩
  | true =>
    rw [hsm] at cF
    obtain ⟨h1, h2, h3⟩ : N.size ≤ 300 ∧ L.size ≤ 300 ∧ D.size ≤ 300 := by
      unfold smallA at hsm
      simp only [Bool.and_eq_true, decide_eq_true_eq] at hsm
      rw [← hNe, ← hLe, ← hDe, strL_size, strL_size, strL_size]
      exact ⟨hsm.1.1, hsm.1.2, hsm.2⟩
    have hcv := fun w : World => Lib.run_convert_string_bytes (P := Tryd.prog) w 9 45 5 D Tryd.underlying9 Tryd.underlying45 Tryd.underlying5
    have HLD := Lib.hid (size_list D)
    have HBY := Lib.hid (fun W => buf_bytes W D (by unfold maxLen; omega))
    have HEY := Lib.hid (fun W => below_bytes W D)
    have HA := Lib.hid (And.intro ha hsm)
    clear hNe hLe hDe hfa ha hsm
    go_enter Tryd.func9, Tryd.ntmps9
    go_wp2_with (first
      | (go_at_call 10; (with_reducible refine cS.mono ?_); rintro e w1 ⟨rfl, hb1⟩; clear cS; have hx1 := HX0.out.step hb1; have k0 := hx1.c0; have k1 := hx1.c1; have k2 := hx1.c2; have HB1 := Lib.hid (Qtrans HB0.out hb1); have HX1 := Lib.hid hx1; clear hb1 hx1)
      | (go_at_call 17; (with_reducible refine (cF _).mono ?_); rintro e w2 ⟨rfl, rfl⟩; clear cF; clear k0 k1 k2; have HX2 := Lib.hid (HX1.out.step (below_box w1 (.cells #[.string N, .string L, .string D] 34))); have r2 := HX2.out.c2))
    have HB2 := Lib.hid (HB1.out.alloc HB1.out.size (.cells #[.string N, .string L, .string D] 34))
    obtain ⟨W2, hW2⟩ : ∃ W2, w1.alloc (.cells #[.string N, .string L, .string D] 34) = W2 := ⟨_, rfl⟩
    have hG : W2.heap.size = w1.heap.size + 1 := by rw [← hW2, World.size_alloc]
    rw [hW2] at HX2 HB2 r2 ⊢
    have hb0 := HBY.out W2
    have hbel0 := HEY.out W2
    obtain ⟨CAP, hCAP⟩ : ∃ c, grownCap W2 D.size 0 5 = c := ⟨_, rfl⟩
    rw [hCAP] at hb0 ⊢
    obtain ⟨G, hGG⟩ : ∃ G, w1.heap.size + 1 = G := ⟨_, rfl⟩
    rw [hG, hGG] at hb0
    rw [hG, hGG] at hbel0
    rw [hGG] at ⊢
    generalize Lib.bytesWorld W2 5 D = W3 at hb0 hbel0 ⊢
    have HGW := Lib.hid (hG.trans hGG)
    clear hG hGG hW2 hCAP hcv HBY HEY r2
    go_loopw [8] (fun i wr => ∃ (k : Nat) (U : List UInt8), k ≤ D.size ∧ U.length = k ∧ i = .int .i64 k ∧ Hid (U.map lowA = (D.data.toList.take k).map lowA) ∧ Hid (Buf G wr G CAP (U ++ D.data.toList.drop k)) ∧ Hid (Below G W2 wr)) (fun i _ => D.size - (intOf i).toNat)
    case atStart => exact ⟨0, [], Nat.zero_le _, rfl, rfl, rfl, hb0, hbel0⟩
    case round =>
      obtain ⟨k, U, hk, hU, rfl, HU, HBf, HBe⟩ := hrel
      clear hb0 hbel0
      have F1 : IntKind.i64.wrap ((k : Int) + 1) = (k : Int) + 1 := by rw [IntKind.wrap_i64]; omega
      by_cases hlt : k < D.size
      · have hlt' : (k : Int) < (D.size : Int) := by omega
        obtain ⟨c, x, hc, hx, hx2, _⟩ := run_byte D k hlt
        have hdr := drop_cons' D.data.toList k c hc
        have hbf := HBf.out
        rw [hdr] at hbf
        have ck : wr.cell? ⟨G, k, none⟩ = some (.int .u8 (x : Int)) := by
          have := hbf.holds k (by rw [List.length_append, hU]; simp)
          rw [List.getElem_append_right (by omega)] at this
          simp only [hU, Nat.sub_self, List.getElem_cons_zero, hx] at this
          exact this
        have cf := (hbf.there k (by have := hbf.le; rw [List.length_append, hU, List.length_cons] at this; omega)).2
        have HN0 : Hid (Buf G wr G CAP ((U ++ [c]) ++ D.data.toList.drop (k + 1))) := by
          show Buf G _ G CAP _
          rw [List.append_assoc]
          exact hbf
        have HN1 := Lib.hid (low_next2 hc HU.out (rfl : lowA c = lowA c))
        by_cases h97 : 97 ≤ x
        · have h97' : (97 : Int) ≤ (x : Int) := by omega
          by_cases h122 : x ≤ 122
          · have h122' : (x : Int) ≤ 122 := by omega
            cases hbt : (bits BinOp.and IntKind.i64 (q / 2 ^ (k % 60)) 1 == 1) with
            | true =>
              have Fx : IntKind.u8.wrap ((x : Int) - 32) = (x : Int) - 32 := by rw [IntKind.wrap_u8]; omega
              have hput := Buf.put (D := U) (x := [c]) (R := D.data.toList.drop (k + 1)) hbf [upA c] rfl
              rw [hU] at hput
              have HP : Hid (Buf G (wr.setCell ⟨G, k, none⟩ (.int .u8 ((x : Int) - 32))) G CAP ((U ++ [upA c]) ++ D.data.toList.drop (k + 1))) := by
                show Buf G _ G CAP _
                rw [List.append_assoc]
                have e : (Lib.byteCells [upA c]) = [.int .u8 ((x : Int) - 32)] := by
                  simp [Lib.byteCells, up_letter c x hx h97 h122]
                rw [e] at hput
                exact hput
              have HP2 : Hid (Below G W2 (wr.setCell ⟨G, k, none⟩ (.int .u8 ((x : Int) - 32)))) := Below.setCell HBe.out (by show G ≤ G; exact Nat.le_refl _) _
              have HP3 := Lib.hid (low_next2 hc HU.out (low_up c))
              have hU2 : Hid ((U ++ [upA c]).length = k + 1) := by show _ = _; rw [List.length_append, hU]; rfl
              clear hc hx hx2 hdr hbf hput HBf HBe h97 h122 HU hU HN0 HN1
              go_wp2_with fail
              go_roundw
              case rel => exact ⟨k + 1, _, by omega, hU2.out, by go_num, HP3, HP, HP2⟩
              case measure => simp [intOf]; omega
            | false =>
              have hU2 : Hid ((U ++ [c]).length = k + 1) := by show _ = _; rw [List.length_append, hU]; rfl
              clear hc hx hx2 hdr hbf HBf h97 h122 HU hU
              go_wp2_with fail
              go_roundw
              case rel => exact ⟨k + 1, _, by omega, hU2.out, by go_num, HN1, HN0, HBe⟩
              case measure => simp [intOf]; omega
          · have h122' : ¬ (x : Int) ≤ 122 := by omega
            have hU2 : Hid ((U ++ [c]).length = k + 1) := by show _ = _; rw [List.length_append, hU]; rfl
            clear hc hx hx2 hdr hbf HBf h97 h122 HU hU
            go_wp2_with fail
            go_roundw
            case rel => exact ⟨k + 1, _, by omega, hU2.out, by go_num, HN1, HN0, HBe⟩
            case measure => simp [intOf]; omega
        · have h97' : ¬ (97 : Int) ≤ (x : Int) := by omega
          have hU2 : Hid ((U ++ [c]).length = k + 1) := by show _ = _; rw [List.length_append, hU]; rfl
          clear hc hx hx2 hdr hbf HBf h97 HU hU
          go_wp2_with fail
          go_roundw
          case rel => exact ⟨k + 1, _, by omega, hU2.out, by go_num, HN1, HN0, HBe⟩
          case measure => simp [intOf]; omega
      · obtain rfl : k = D.size := by omega
        have hlt' : ¬ (D.size : Int) < (D.size : Int) := by omega
        have hbf := HBf.out
        rw [List.drop_eq_nil_of_le (by rw [← HLD.out]; exact Nat.le_refl _), List.append_nil] at hbf
        have hum := HU.out
        rw [List.take_of_length_le (by rw [← HLD.out]; exact Nat.le_refl _)] at hum
        have hcb : (convert 45 9 (.slice (some ⟨G, 0, none⟩) D.size CAP)).run Tryd.prog wr = .ok (.string (strL U)) wr := by
          have := run_convert_bytes_back (P := Tryd.prog) wr 45 9 5 ⟨G, 0, none⟩ CAP U Tryd.underlying45 Tryd.underlying5 Tryd.underlying9 (fun j hj => by
            have h1 := hbf.holds j hj
            have e : (⟨G, 0, none⟩ : Addr).add j = ⟨G, j, none⟩ := by unfold Addr.add; split <;> simp_all
            rw [e]; exact h1)
          rw [hU] at this
          exact this
        have hbe := HBe.out
        rw [← HGW.out] at hbe
        have HX4 := Lib.hid (HX2.out.step hbe)
        have HB4 := Lib.hid (HB2.out.trans (hbe.mono HB2.out.size))
        have m1 := HX4.out.c1
        -- the strings
        have c1 := fun W => canon_str N L D h2 h3 W
        have c2 := fun W => canon_str ⟨#[120]⟩ L (strL U) h2 (by rw [strL_size, hU]; exact h3) W
        rw [strL_list, hum] at c2
        have hEz : (strL (D.data.toList.map lowA)).size = D.size := by rw [strL_size, List.length_map, ← size_list]
        have c3 := fun W => canon_str ⟨#[]⟩ L (strL (D.data.toList.map lowA)) h2 (by rw [hEz]; exact h3) W
        rw [strL_list, low_twice] at c3
        have hCz : (strL (L.data.toList ++ 64 :: D.data.toList.map lowA)).size = L.size + 1 + D.size := by
          rw [strL_size, List.length_append, List.length_cons, List.length_map, ← size_list, ← size_list]; omega
        have R1 := run_slice_to (strL (L.data.toList ++ 64 :: D.data.toList.map lowA)) L.size L.size rfl (by omega)
        have R2 := run_slice_from (strL (L.data.toList ++ 64 :: D.data.toList.map lowA)) (L.size + 1) ((L.size : Int) + 1) (by omega) (by omega)
        have e1 : (strL (L.data.toList ++ 64 :: D.data.toList.map lowA)).extract 0 L.size = L := bytes_is (by
          rw [part_start _ _ (by omega), strL_list, size_list, List.take_left' rfl])
        have e2 : (strL (L.data.toList ++ 64 :: D.data.toList.map lowA)).extract (L.size + 1) (strL (L.data.toList ++ 64 :: D.data.toList.map lowA)).size = strL (D.data.toList.map lowA) := bytes_is (by
          rw [part_rest _ _ (by omega), strL_list, strL_list, size_list, ← List.drop_drop, List.drop_left' rfl]; rfl)
        rw [e1] at R1
        rw [e2] at R2
        have c4 := fun W => right_str N L D h1 h2 h3 W
        obtain ⟨ea, hsm⟩ := HA.out
        rw [ea] at c4
        obtain ⟨lo, hlo⟩ : ∃ lo : Adr, (⟨[], L.data.toList, D.data.toList.map lowA⟩ : Adr) = lo := ⟨_, rfl⟩
        have hlon : strL lo.name = ⟨#[]⟩ := by rw [← hlo]; rfl
        have hlol : strL lo.loc = L := by rw [← hlo]; exact strL_of L
        have hlod : strL lo.dom = strL (D.data.toList.map lowA) := by rw [← hlo]
        have hlof : fewB [lo] = true := by
          unfold fewB smallA
          rw [← hlo]
          simp
          exact ⟨h2, h3⟩
        have c5 := fun W => write_ok (.slice (some ⟨W.heap.size, 0, none⟩) 1 1) [lo] (W.alloc (.cells #[.string (strL lo.name), .string (strL lo.loc), .string (strL lo.dom)] 34)) (has_new W [lo] 1) hlof
        rw [hlon, hlol, hlod] at c5
        have hwz : (strL (writeQ [lo])).size ≤ 100000 := by
          rw [strL_size]
          have := oneQ_len lo (by unfold fewB at hlof; simp at hlof; exact hlof)
          show (oneQ lo).length ≤ _
          omega
        have c6 := fun W => parse_ok (strL (writeQ [lo])) hwz W
        rw [strL_list] at c6
        have hpw : rightB a = true → parseA (writeQ [lo]) = ([lo], true) := fun hr => by
          have hd : domOk lo.dom := by
            have := dom_low _ (right_dom hr)
            rw [← ea] at this
            rw [← hlo]
            exact this
          have hs : shown lo.loc = true := by
            have := right_loc hr
            rw [← ea] at this
            rw [← hlo]
            exact this
          rw [write_same [lo] (fun x hx => by obtain rfl := List.mem_singleton.1 hx; exact hs), parse_write [lo] (fun x hx => by obtain rfl := List.mem_singleton.1 hx; exact hd)]
        have HPW := Lib.hid hpw
        have HLO := Lib.hid (And.intro hlon (And.intro hlol hlod))
        have g1 : IntKind.i64.wrap ((L.size : Int) + 1) = (L.size : Int) + 1 := by rw [IntKind.wrap_i64]; omega
        have g2 : IntKind.i64.wrap ((L.size : Int) + 1 + (D.size : Int)) = (L.size : Int) + 1 + (D.size : Int) := by rw [IntKind.wrap_i64]; omega
        generalize strL U = B at hcb c2
        generalize strL (D.data.toList.map lowA) = E at c3 R2 c5 hEz HLO hlod e2
        generalize strL (L.data.toList ++ 64 :: D.data.toList.map lowA) = CS at c1 c2 c3 R1 R2 hCz
        clear hbf hum hbe HBf HBe HU hU HA ea hsm hlo hlof hwz hpw hlon hlol hlod HX0
        have HX5 := Lib.hid (HX4.out.step (below_box wr (.cells #[.string ⟨#[120]⟩, .string L, .string B] 34)))
        have HY5 := Lib.hid (bx_new wr ⟨#[120]⟩ L B)
        have HB5 := Lib.hid (HB4.out.alloc HB4.out.size (.cells #[.string ⟨#[120]⟩, .string L, .string B] 34))
        have p0 := HX5.out.c0
        have p1 := HX5.out.c1
        have p2 := HX5.out.c2
        clear HX4 HB4 HX2 HB2 HB1 HX1
        go_wp2_with (go_at_call 20; (with_reducible refine (c1 _).mono ?_); rintro e w5 ⟨rfl, hb5⟩; clear c1; have hz := HB5.out.trans (hb5.mono HB5.out.size); have hs5 := Lib.hid (Cs.mk hz (HX5.out.step hb5) (HY5.out.step hb5)); clear hz hb5 p0 p1 p2 m1 HX5 HY5 HB5)
        have hq2 := fun Q (h : Hid (Cs w Q w.heap.size wr.heap.size N L D ⟨#[120]⟩ B)) => (c2 Q).mono (fun e w' hh => (⟨hh.1, Lib.hid (h.out.step hh.2)⟩ : e = .returned (.string CS) ∧ Hid (Cs w w' w.heap.size wr.heap.size N L D ⟨#[120]⟩ B)))
        have hs5d : Hid (Cs w w5.drew w.heap.size wr.heap.size N L D ⟨#[120]⟩ B) := Lib.hid (hs5.out.step ⟨rfl, rfl, rfl, Nat.le_refl _, fun _ _ => rfl⟩)
        have gne : (((CS.size : Nat) : Int) != (L.size : Int) + 1 + (D.size : Int)) = false := by rw [bne_eq_false_iff_eq]; omega
        have geq : ((CS.size : Nat) : Int) = (L.size : Int) + 1 + (D.size : Int) := by omega
        clear hs5 c2 hCz
        go_region_held3 (fun Q => Hid (Cs w Q w.heap.size wr.heap.size N L D ⟨#[120]⟩ B) ∧ Q.cell? ⟨w.heap.size, 1, none⟩ = some (.string L) ∧ Q.cell? ⟨w.heap.size, 2, none⟩ = some (.string D) ∧ Q.cell? ⟨wr.heap.size, 0, none⟩ = some (.string ⟨#[120]⟩) ∧ Q.cell? ⟨wr.heap.size, 1, none⟩ = some (.string L) ∧ Q.cell? ⟨wr.heap.size, 2, none⟩ = some (.string B))
          (first | exact hs5d.out.all | exact Cs.all (Hid.out (by assumption)))
          (first
            | (go_at_call 20; (with_reducible refine (hq2 _ (by first | assumption | exact hs5d)).mono ?_); rintro e w6 ⟨rfl, hs6⟩; clear hq2))
        go_wp2_with fail
        have hs6d : Hid (Cs w w6.drew w.heap.size wr.heap.size N L D ⟨#[120]⟩ B) := Lib.hid (hs6.out.step ⟨rfl, rfl, rfl, Nat.le_refl _, fun _ _ => rfl⟩)
        have gsl : (0 : Int) ≤ (L.size : Int) + 1 := by omega
        have gsm : (L.size : Int) + 1 ≤ ((CS.size : Nat) : Int) := by omega
        go_region_held3 (fun Q => Hid (Cs w Q w.heap.size wr.heap.size N L D ⟨#[120]⟩ B) ∧ Q.cell? ⟨w.heap.size, 1, none⟩ = some (.string L) ∧ Q.cell? ⟨w.heap.size, 2, none⟩ = some (.string D) ∧ Q.cell? ⟨wr.heap.size, 0, none⟩ = some (.string ⟨#[120]⟩) ∧ Q.cell? ⟨wr.heap.size, 1, none⟩ = some (.string L) ∧ Q.cell? ⟨wr.heap.size, 2, none⟩ = some (.string B))
          (first | exact hs6d.out.all | exact Cs.all (Hid.out (by assumption)) | exact Cs.all (hs6d.out.step (below_box _ _)) | exact Cs.all (hs6.out.step (Below.drew (below_box _ _))))
          (first | fail)
        obtain ⟨W7, hW7⟩ : ∃ W7, (w6.alloc (.cells #[.string ⟨#[]⟩, .string L, .string E] 34)).drew = W7 := ⟨_, rfl⟩
        have hs7 : Hid (Ct w W7 w.heap.size wr.heap.size w6.heap.size N L D ⟨#[120]⟩ B E) := by
          rw [← hW7]
          exact Lib.hid ⟨hs6.out.step (Below.drew (below_box w6 _)), bx_new w6 ⟨#[]⟩ L E⟩
        rw [hW7]
        clear hW7
        cases hrb : rightB a with
        | true =>
          rw [hrb] at c4
          rw [HPW.out hrb] at c6
          obtain ⟨f0, f1, f2⟩ := HLO.out
          have hEq := run_equal_adr lo lo
          rw [f0, f1, f2, decide_eq_true rfl] at hEq
          have hc6 := fun W => (c6 W).mono (fun e w' hh => (show ∃ g c, e = .returned (.tuple #[.slice (some ⟨g, 0, none⟩) 1 c, .bool true]) ∧ Bx3 w' g ⟨#[]⟩ L E ∧ Below W.heap.size W w' by
            obtain ⟨a', c', rfl, ho, hb⟩ := hh
            obtain ⟨g, rfl, hf⟩ := ho.at (by simp)
            obtain ⟨k0, k1, k2⟩ := hf 0 lo rfl
            rw [f0] at k0
            rw [f1] at k1
            rw [f2] at k2
            exact ⟨g, c', rfl, ⟨k0, k1, k2⟩, hb⟩))
          clear c6 f0 f1 f2 HLO HPW
          generalize strL (writeQ [lo]) = WS at c5 hc6
          clear hs6d hs6 hs5d
          have t0 := hs7.out.z.c0
          have t1 := hs7.out.z.c1
          have t2 := hs7.out.z.c2
          go_wp2_with (first
            | (go_at_call 22; (with_reducible refine (c5 _).mono ?_); rintro e w8 ⟨rfl, hb8⟩; clear c5; have hs8 := Lib.hid (hs7.out.step ((below_box W7 _).trans (hb8.mono (below_box W7 _).size))); clear hb8 hs7)
            | (go_at_call 11; (with_reducible refine (hc6 _).mono ?_); rintro e w9 ⟨gp, cp, rfl, hp9, hb9⟩; clear hc6; have hs9 := Lib.hid (hs8.out.step hb9); have hp := Lib.hid hp9; clear hb9 hs8 hp9))
          have hq3 := fun Q (h : Hid (Ct w Q w.heap.size wr.heap.size w6.heap.size N L D ⟨#[120]⟩ B E)) (hp : Hid (Bx3 Q gp ⟨#[]⟩ L E)) => (c3 Q).mono (fun e w' hh => (⟨hh.1, Lib.hid (h.out.step hh.2), Lib.hid (hp.out.step hh.2)⟩ : e = .returned (.string CS) ∧ Hid (Ct w w' w.heap.size wr.heap.size w6.heap.size N L D ⟨#[120]⟩ B E) ∧ Hid (Bx3 w' gp ⟨#[]⟩ L E)))
          have hq4 := fun Q (h : Hid (Ct w Q w.heap.size wr.heap.size w6.heap.size N L D ⟨#[120]⟩ B E)) (hp : Hid (Bx3 Q gp ⟨#[]⟩ L E)) => (c4 Q).mono (fun e w' hh => (⟨hh.1, Lib.hid (h.out.step hh.2), Lib.hid (hp.out.step hh.2)⟩ : e = .returned (.bool true) ∧ Hid (Ct w w' w.heap.size wr.heap.size w6.heap.size N L D ⟨#[120]⟩ B E) ∧ Hid (Bx3 w' gp ⟨#[]⟩ L E)))
          have hs9d : Hid (Ct w w9.drew w.heap.size wr.heap.size w6.heap.size N L D ⟨#[120]⟩ B E) := Lib.hid (hs9.out.step ⟨rfl, rfl, rfl, Nat.le_refl _, fun _ _ => rfl⟩)
          have hpd : Hid (Bx3 w9.drew gp ⟨#[]⟩ L E) := hp
          clear hs9 c3 c4 hp
          go_region_held3 (fun Q => Hid (Ct w Q w.heap.size wr.heap.size w6.heap.size N L D ⟨#[120]⟩ B E) ∧ Q.cell? ⟨w.heap.size, 0, none⟩ = some (.string N) ∧ Q.cell? ⟨w.heap.size, 1, none⟩ = some (.string L) ∧ Q.cell? ⟨w.heap.size, 2, none⟩ = some (.string D) ∧ Q.cell? ⟨w6.heap.size, 0, none⟩ = some (.string ⟨#[]⟩) ∧ Q.cell? ⟨w6.heap.size, 1, none⟩ = some (.string L) ∧ Q.cell? ⟨w6.heap.size, 2, none⟩ = some (.string E) ∧ Q.cell? ⟨gp, 0, none⟩ = some (.string ⟨#[]⟩) ∧ Q.cell? ⟨gp, 1, none⟩ = some (.string L) ∧ Q.cell? ⟨gp, 2, none⟩ = some (.string E))
            (first | exact Ct.all3 hs9d.out hpd.out | exact Ct.all3 (Hid.out (by assumption)) (Hid.out (by assumption)))
            (first
              | (go_at_call 20; (with_reducible refine (hq3 _ hs9d hpd).mono ?_); rintro e w10 ⟨rfl, hs10, hp10⟩; clear hq3)
              | (go_at_call 18; (with_reducible refine (hq4 _ hs10 hp10).mono ?_); rintro e w11 ⟨rfl, hs11, hp11⟩; clear hq4))
          go_wp2_with fail
          go_ret
          exact ⟨rfl, hs11.out.s.bel⟩
        | false =>
          rw [hrb] at c4
          have hc6 := fun W => (c6 W).mono (fun e w' hh => (show ∃ a c k p, e = .returned (.tuple #[.slice a k c, .bool p]) ∧ Below W.heap.size W w' by
            obtain ⟨a', c', rfl, ho, hb⟩ := hh
            exact ⟨a', c', _, _, rfl, hb⟩))
          clear c6 HLO HPW
          generalize strL (writeQ [lo]) = WS at c5 hc6
          clear hs6d hs6 hs5d
          have t0 := hs7.out.z.c0
          have t1 := hs7.out.z.c1
          have t2 := hs7.out.z.c2
          go_wp2_with (first
            | (go_at_call 22; (with_reducible refine (c5 _).mono ?_); rintro e w8 ⟨rfl, hb8⟩; clear c5; have hs8 := Lib.hid (hs7.out.step ((below_box W7 _).trans (hb8.mono (below_box W7 _).size))); clear hb8 hs7)
            | (go_at_call 11; (with_reducible refine (hc6 _).mono ?_); rintro e w9 ⟨ap, cp, kp, bp, rfl, hb9⟩; clear hc6; have hs9 := Lib.hid (hs8.out.step hb9); clear hb9 hs8))
          have hq3 := fun Q (h : Hid (Ct w Q w.heap.size wr.heap.size w6.heap.size N L D ⟨#[120]⟩ B E)) => (c3 Q).mono (fun e w' hh => (⟨hh.1, Lib.hid (h.out.step hh.2)⟩ : e = .returned (.string CS) ∧ Hid (Ct w w' w.heap.size wr.heap.size w6.heap.size N L D ⟨#[120]⟩ B E)))
          have hq4 := fun Q (h : Hid (Ct w Q w.heap.size wr.heap.size w6.heap.size N L D ⟨#[120]⟩ B E)) => (c4 Q).mono (fun e w' hh => (⟨hh.1, Lib.hid (h.out.step hh.2)⟩ : e = .returned (.bool false) ∧ Hid (Ct w w' w.heap.size wr.heap.size w6.heap.size N L D ⟨#[120]⟩ B E)))
          have hs9d : Hid (Ct w w9.drew w.heap.size wr.heap.size w6.heap.size N L D ⟨#[120]⟩ B E) := Lib.hid (hs9.out.step ⟨rfl, rfl, rfl, Nat.le_refl _, fun _ _ => rfl⟩)
          clear hs9 c3 c4
          refine wp_region_noPanic ?_
          refine wp_region_held_drew (S := (fun Q => Hid (Ct w Q w.heap.size wr.heap.size w6.heap.size N L D ⟨#[120]⟩ B E) ∧ Q.cell? ⟨w.heap.size, 0, none⟩ = some (.string N) ∧ Q.cell? ⟨w.heap.size, 1, none⟩ = some (.string L) ∧ Q.cell? ⟨w.heap.size, 2, none⟩ = some (.string D) ∧ Q.cell? ⟨w6.heap.size, 0, none⟩ = some (.string ⟨#[]⟩) ∧ Q.cell? ⟨w6.heap.size, 1, none⟩ = some (.string L) ∧ Q.cell? ⟨w6.heap.size, 2, none⟩ = some (.string E))) (by kernel_rfl) hs9d.out.all (fun hH0 => ?_)
          refine held_take (i := 0) (.bool true) rfl (by kernel_rfl) (by kernel_rfl) (by kernel_rfl) (by rfl) (fun w hSw => by obtain ⟨_, k0, k1, k2, k3, k4, k5⟩ := hSw; go_simp) (by exact hH0) ?_
          simp only [Act.put, List.setIfInBounds_toArray, List.set_cons_zero, List.set_cons_succ]
          refine held_take (i := 1) (.bool true) rfl (by kernel_rfl) (by kernel_rfl) (by kernel_rfl) (by rfl) (fun w hSw => by obtain ⟨_, k0, k1, k2, k3, k4, k5⟩ := hSw; go_simp) (by exact hH0) ?_
          simp only [Act.put, List.setIfInBounds_toArray, List.set_cons_zero, List.set_cons_succ]
          refine held_take (i := 2) (.agg #[.string ⟨#[]⟩, .string L, .string E]) rfl (by kernel_rfl) (by kernel_rfl) (by kernel_rfl) (by rfl) (fun w hSw => by obtain ⟨_, k0, k1, k2, k3, k4, k5⟩ := hSw; go_simp) (by exact hH0) ?_
          simp only [Act.put, List.setIfInBounds_toArray, List.set_cons_zero, List.set_cons_succ]
          refine held_take (i := 4) (.string CS) rfl (by kernel_rfl) (by kernel_rfl) (by kernel_rfl) (by rfl) (fun w hSw => by obtain ⟨_, k0, k1, k2, k3, k4, k5⟩ := hSw; go_simp) (by exact hH0) ?_
          simp only [Act.put, List.setIfInBounds_toArray, List.set_cons_zero, List.set_cons_succ]
          refine held_step (i := 3) (.string CS) rfl (by kernel_rfl) (by rfl) (fun K hK => ?_) (fun wH1 hH1 => ?_)
          · go_simp
            refine (hq3 _ hH0.1).mono ?_
            rintro e w2 ⟨rfl, hS2⟩
            exact hK _ (Ct.all hS2.out)
          simp only [Act.put, List.setIfInBounds_toArray, List.set_cons_zero, List.set_cons_succ]
          refine held_take (i := 5) (.bool true) rfl (by kernel_rfl) (by kernel_rfl) (by kernel_rfl) (by rfl) (fun w hSw => by obtain ⟨_, k0, k1, k2, k3, k4, k5⟩ := hSw; go_simp) (by exact hH1) ?_
          simp only [Act.put, List.setIfInBounds_toArray, List.set_cons_zero, List.set_cons_succ]
          refine held_take (i := 6) (.bool true) rfl (by kernel_rfl) (by kernel_rfl) (by kernel_rfl) (by rfl) (fun w hSw => by obtain ⟨_, k0, k1, k2, k3, k4, k5⟩ := hSw; go_simp) (by exact hH1) ?_
          simp only [Act.put, List.setIfInBounds_toArray, List.set_cons_zero, List.set_cons_succ]
          refine held_take (i := 7) (.bool true) rfl (by kernel_rfl) (by kernel_rfl) (by kernel_rfl) (by rfl) (fun w hSw => by obtain ⟨_, k0, k1, k2, k3, k4, k5⟩ := hSw; go_simp) (by exact hH1) ?_
          simp only [Act.put, List.setIfInBounds_toArray, List.set_cons_zero, List.set_cons_succ]
          refine held_take (i := 8) (.agg #[.string N, .string L, .string D]) rfl (by kernel_rfl) (by kernel_rfl) (by kernel_rfl) (by rfl) (fun w hSw => by obtain ⟨_, k0, k1, k2, k3, k4, k5⟩ := hSw; go_simp) (by exact hH1) ?_
          simp only [Act.put, List.setIfInBounds_toArray, List.set_cons_zero, List.set_cons_succ]
          refine held_step (i := 9) (.bool false) rfl (by kernel_rfl) (by rfl) (fun K hK => ?_) (fun wH2 hH2 => ?_)
          · go_simp
            refine (hq4 _ hH1.1).mono ?_
            rintro e w2 ⟨rfl, hS2⟩
            exact hK _ (Ct.all hS2.out)
          simp only [Act.put, List.setIfInBounds_toArray, List.set_cons_zero, List.set_cons_succ]
          refine held_take (i := 10) (.bool true) rfl (by kernel_rfl) (by kernel_rfl) (by kernel_rfl) (by rfl) (fun w hSw => by obtain ⟨_, k0, k1, k2, k3, k4, k5⟩ := hSw; go_simp) (by exact hH2) ?_
          simp only [Act.put, List.setIfInBounds_toArray, List.set_cons_zero, List.set_cons_succ]
          refine held_take (i := 11) (.bool true) rfl (by kernel_rfl) (by kernel_rfl) (by kernel_rfl) (by rfl) (fun w hSw => by obtain ⟨_, k0, k1, k2, k3, k4, k5⟩ := hSw; go_simp) (by exact hH2) ?_
          simp only [Act.put, List.setIfInBounds_toArray, List.set_cons_zero, List.set_cons_succ]
          refine held_skip (i := 12) rfl (by kernel_rfl) (by kernel_rfl) (by kernel_rfl) (by rfl) (by exact hH2) ?_
          simp only [Act.put, List.setIfInBounds_toArray, List.set_cons_zero, List.set_cons_succ]
          refine held_skip (i := 13) rfl (by kernel_rfl) (by kernel_rfl) (by kernel_rfl) (by rfl) (by exact hH2) ?_
          simp only [Act.put, List.setIfInBounds_toArray, List.set_cons_zero, List.set_cons_succ]
          refine held_skip (i := 14) rfl (by kernel_rfl) (by kernel_rfl) (by kernel_rfl) (by rfl) (by exact hH2) ?_
          simp only [Act.put, List.setIfInBounds_toArray, List.set_cons_zero, List.set_cons_succ]
          refine held_skip (i := 15) rfl (by kernel_rfl) (by kernel_rfl) (by kernel_rfl) (by rfl) (by exact hH2) ?_
          simp only [Act.put, List.setIfInBounds_toArray, List.set_cons_zero, List.set_cons_succ]
          refine held_skip (i := 16) rfl (by kernel_rfl) (by kernel_rfl) (by kernel_rfl) (by rfl) (by exact hH2) ?_
          simp only [Act.put, List.setIfInBounds_toArray, List.set_cons_zero, List.set_cons_succ]
          refine held_skip (i := 17) rfl (by kernel_rfl) (by kernel_rfl) (by kernel_rfl) (by rfl) (by exact hH2) ?_
          simp only [Act.put, List.setIfInBounds_toArray, List.set_cons_zero, List.set_cons_succ]
          refine held_skip (i := 18) rfl (by kernel_rfl) (by kernel_rfl) (by kernel_rfl) (by rfl) (by exact hH2) ?_
          simp only [Act.put, List.setIfInBounds_toArray, List.set_cons_zero, List.set_cons_succ]
          refine held_skip (i := 19) rfl (by kernel_rfl) (by kernel_rfl) (by kernel_rfl) (by rfl) (by exact hH2) ?_
          simp only [Act.put, List.setIfInBounds_toArray, List.set_cons_zero, List.set_cons_succ]
          refine held_skip (i := 20) rfl (by kernel_rfl) (by kernel_rfl) (by kernel_rfl) (by rfl) (by exact hH2) ?_
          simp only [Act.put, List.setIfInBounds_toArray, List.set_cons_zero, List.set_cons_succ]
          refine held_skip (i := 21) rfl (by kernel_rfl) (by kernel_rfl) (by kernel_rfl) (by rfl) (by exact hH2) ?_
          simp only [Act.put, List.setIfInBounds_toArray, List.set_cons_zero, List.set_cons_succ]
          refine held_skip (i := 22) rfl (by kernel_rfl) (by kernel_rfl) (by kernel_rfl) (by rfl) (by exact hH2) ?_
          simp only [Act.put, List.setIfInBounds_toArray, List.set_cons_zero, List.set_cons_succ]
          refine held_skip (i := 23) rfl (by kernel_rfl) (by kernel_rfl) (by kernel_rfl) (by rfl) (by exact hH2) ?_
          simp only [Act.put, List.setIfInBounds_toArray, List.set_cons_zero, List.set_cons_succ]
          refine held_skip (i := 24) rfl (by kernel_rfl) (by kernel_rfl) (by kernel_rfl) (by rfl) (by exact hH2) ?_
          simp only [Act.put, List.setIfInBounds_toArray, List.set_cons_zero, List.set_cons_succ]
          refine held_take (i := 25) (.bool true) rfl (by kernel_rfl) (by kernel_rfl) (by kernel_rfl) (by rfl) (fun w hSw => by obtain ⟨_, k0, k1, k2, k3, k4, k5⟩ := hSw; go_simp) (by exact hH2) ?_
          simp only [Act.put, List.setIfInBounds_toArray, List.set_cons_zero, List.set_cons_succ]
          refine held_take (i := 26) (.bool true) rfl (by kernel_rfl) (by kernel_rfl) (by kernel_rfl) (by rfl) (fun w hSw => by obtain ⟨_, k0, k1, k2, k3, k4, k5⟩ := hSw; go_simp) (by exact hH2) ?_
          simp only [Act.put, List.setIfInBounds_toArray, List.set_cons_zero, List.set_cons_succ]
          refine held_take (i := 27) (.bool true) rfl (by kernel_rfl) (by kernel_rfl) (by kernel_rfl) (by rfl) (fun w hSw => by obtain ⟨_, k0, k1, k2, k3, k4, k5⟩ := hSw; go_simp) (by exact hH2) ?_
          simp only [Act.put, List.setIfInBounds_toArray, List.set_cons_zero, List.set_cons_succ]
          refine wpAnyH_done (by kernel_rfl) ?_ _
          refine NoPanic.normal ?_
          have hs11 := hH2.1
          go_wp2_with fail
          go_ret
          exact ⟨rfl, hs11.out.s.bel⟩
end Go.Proofs.YtgponokcigapaaaDoor
