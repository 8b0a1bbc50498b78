/- The reference's front: the first token. -/
import Derived.Test.YtdinachiiimngaaGreatDoorKRefE
import Derived.Test.YtdinachiiimngaaGreatDoorK2
import Derived.RangeFuncRecord
import Derived.Laws.Rows
namespace Go.Proofs.YtdinachiiimngaaGreatDoor
open Go.ChangeShapes Go.WideShapes Go.ChangeAt Go.RowKit
open TokP

theorem rows23 : (Tryz.prog.info? 89).map (·.size) = some 2 := by kernel_rfl
theorem front_space (c : UInt8) (t : List UInt8) (h : TokP.blank c = true) : frontL (c :: t) = ⟨6, (c :: t).takeWhile TokP.blank⟩ := by rw [frontL, if_pos h]
theorem front_none (c : UInt8) (t : List UInt8) (h : ¬ TokP.blank c = true) (ho : opens c = true) (hc : closeL c t = none) : frontL (c :: t) = ⟨7, c :: t⟩ := by rw [frontL, if_neg h, if_pos ho, hc]
theorem front_some (c : UInt8) (t : List UInt8) (m : Nat) (h : ¬ TokP.blank c = true) (ho : opens c = true) (hc : closeL c t = some m) : frontL (c :: t) = ⟨kindO c, c :: t.take m⟩ ∧ (frontL (c :: t)).text.length = m + 1 := by
  have e : frontL (c :: t) = ⟨kindO c, c :: t.take m⟩ := by rw [frontL, if_neg h, if_pos ho, hc]
  refine ⟨e, ?_⟩
  rw [e]
  show (c :: t.take m).length = m + 1
  rw [List.length_cons, List.length_take, Nat.min_eq_left (close_le _ _ t _ _ m hc).2]
theorem while_pos (p : UInt8 → Bool) (c : UInt8) (t : List UInt8) (h : 0 < ((c :: t).takeWhile p).length) : p c = true := by
  by_cases hc : p c = true
  · exact hc
  · rw [List.takeWhile_cons_of_neg hc] at h; simp at h
theorem while_zero (p : UInt8 → Bool) (c : UInt8) (t : List UInt8) (h : ((c :: t).takeWhile p).length = 0) : ¬ p c = true := fun hc => by
  rw [List.takeWhile_cons_of_pos hc] at h; simp at h
set_option maxRecDepth 100000 in
set_option maxHeartbeats 800000 in
theorem rfront_any (s : ByteArray) (hs : s.size ≤ 999999) (h0 : 0 < s.size) (w : World) :
    Calls Tryz.prog 110 #[.string s] w fun e w' => e = .returned (.agg #[.int .i64 ((frontL s.data.toList).kind : Nat), .string (strL (frontL s.data.toList).text)]) ∧ Below w.heap.size w w' := by
  obtain ⟨f, hf⟩ : ∃ f, frontL s.data.toList = f := ⟨_, rfl⟩
  have HFIN := Lib.hid (fun (K : Int) (T : ByteArray) (h1 : ((f.kind : Nat) : Int) = K) (h2 : strL f.text = T) => show Ending.returned (.agg #[.int .i64 K, .string T]) = Ending.returned (.agg #[.int .i64 ((f.kind : Nat) : Int), .string (strL f.text)]) by rw [h1, h2])
  have HF := Lib.hid hf
  rw [hf]
  obtain ⟨n, hn⟩ : ∃ n, s.size = n := ⟨_, rfl⟩
  obtain ⟨c0, x0, t, hl, hx0, hx02, S0⟩ := run_byte0 s h0
  have HL := Lib.hid (size_list s)
  have HFP := Lib.hid (show s.extract 0 f.text.length = strL f.text by rw [← hf]; exact (front_parts s).1)
  have hs' := hs
  rw [hn] at hs h0
  have HN := Lib.hid hn
  have HH := Lib.hid hl
  have HX := Lib.hid hx0
  have HS := Lib.hid hs'
  clear hn hl hx0 hx02 hs' hf
  go_enter Tryz.func110, Tryz.ntmps110
  go_wp2_with fail
  go_loopw [3] (fun i wr => ∃ k : Nat, k ≤ n ∧ i = .int .i64 k ∧ wr = w.alloc (.cells #[.int .i64 0, .string ⟨#[]⟩] 89) ∧ Hid ((s.data.toList.takeWhile TokP.blank).length = k + ((s.data.toList.drop k).takeWhile TokP.blank).length)) (fun i _ => n - (intOf i).toNat)
  case atStart => exact ⟨0, Nat.zero_le _, rfl, rfl, by show _ = _; rw [List.drop_zero, Nat.zero_add]⟩
  case round =>
    obtain ⟨k, hk, rfl, rfl, HT⟩ := hrel
    have F1 : IntKind.i64.wrap ((k : Int) + 1) = (k : Int) + 1 := by rw [IntKind.wrap_i64]; omega
    have hn : s.size = n := HN.out
    have out : 0 < k → (s.data.toList.takeWhile TokP.blank).length = k → s.extract 0 k = strL f.text ∧ ((f.kind : Nat) : Int) = 6 := fun hk0 he => by
      have hb : TokP.blank c0 = true := while_pos _ c0 t (by rw [← HH.out, he]; exact hk0)
      have hfs := front_space c0 t hb
      rw [← HH.out, HF.out] at hfs
      refine ⟨?_, by rw [hfs]; rfl⟩
      rw [← HFP.out, show f.text.length = k by rw [hfs]; exact he]
    have OUT := Lib.hid out
    clear out
    by_cases hlt : k < n
    · have hlt' : (k : Int) < (n : Int) := by omega
      obtain ⟨c, x, hc, hx, hx2, S1⟩ := run_byte s k (by rw [hn]; exact hlt)
      have cB := rblank_any c x hx
      by_cases hp : TokP.blank c = true
      · have HS2 := Lib.hid (while_more _ _ k c hc hp HT.out)
        rw [hp] at cB
        clear hp hc hx hx2 HT OUT S0
        go_wp2_with (go_at_call 154; refine (cB _).mono ?_; rintro e w' ⟨rfl, hw⟩; rw [← hw]; clear hw w')
        go_roundw
        case rel => exact ⟨k + 1, by omega, by go_num, trivial, HS2⟩
        case measure => simp [intOf]; omega
      · have hp' : TokP.blank c = false := by simpa using hp
        have hstop := while_stop _ _ k c hc hp' HT.out
        rw [hp'] at cB
        by_cases hk0 : 0 < k
        · obtain ⟨o1, o2⟩ := OUT.out hk0 hstop
          have R1 := run_slice_to s k (k : Int) rfl (by omega)
          rw [o1] at R1
          have HO := Lib.hid o2
          have hkk : decide (0 < k) = true := decide_eq_true hk0
          obtain ⟨T, hT⟩ : ∃ T, strL f.text = T := ⟨_, rfl⟩
          rw [hT] at R1 o1
          have HT2 := Lib.hid hT
          clear hT
          clear hp hp' hc hx hx2 HT OUT S0 o1 o2 hstop
          go_wp2_with (go_at_call 154; refine (cB _).mono ?_; rintro e w' ⟨rfl, hw⟩; rw [← hw]; clear hw w')
          exact bodyPost_ret (results_cell_row rfl _ _ w.heap.size 89 _ _ _ rfl (World.alloc_heap_new w _) Tryz.underlying89 rfl rows23) rfl ⟨HFIN.out _ _ HO.out HT2.out, (Below.refl _ w).alloc (Nat.le_refl _) _⟩
        · obtain rfl : k = 0 := by omega
          have hb : ¬ TokP.blank c0 = true := while_zero _ c0 t (by rw [← HH.out]; exact hstop)
          have e40 := byte_is c0 x0 HX.out 40 (by decide)
          have e34 := byte_is c0 x0 HX.out 34 (by decide)
          have e91 := byte_is c0 x0 HX.out 91 (by decide)
          rw [show ((40 : Nat) : Int) = 40 from rfl] at e40
          rw [show ((34 : Nat) : Int) = 34 from rfl] at e34
          rw [show ((91 : Nat) : Int) = 91 from rfl] at e91
          clear cB
          have cB := rblank_any c0 x0 HX.out
          rw [show TokP.blank c0 = false by simpa using hb] at cB
          clear hp hp' hc hx hx2 S1 HT OUT hstop hlt' hk0 hlt
          by_cases h40 : c0 = 40
          · rw [show decide (c0 = UInt8.ofNat 40) = true from decide_eq_true h40] at e40
            subst h40
            obtain ⟨R, hR⟩ : ∃ R, closeL 40 t = R := ⟨_, rfl⟩
            have cE := end_40 s HS.out t HH.out R (by rw [HH.out]; exact hR)
            cases R with
            | none =>
              have hfs := front_none 40 t hb rfl hR
              rw [← HH.out, HF.out] at hfs
              have HT2 : Hid (strL f.text = s) := by show _ = _; rw [hfs]; exact strL_of s
              have HO : Hid (((f.kind : Nat) : Int) = 7) := by show _ = _; rw [hfs]; rfl
              have cE' : ∀ w, Calls Tryz.prog 155 #[.string s] w fun e w' => e = .returned (.int .i64 0) ∧ w = w' := cE
              clear hR hb hfs cE e34 e91
              go_wp2_with (first
                | (go_at_call 154; refine (cB _).mono ?_; rintro e w1 ⟨rfl, hw⟩; rw [← hw]; clear hw w1 cB)
                | (go_at_call 155; refine (cE' _).mono ?_; rintro e w2 ⟨rfl, hw⟩; rw [← hw]; clear hw w2 cE'))
              exact bodyPost_ret (results_cell_row rfl _ _ w.heap.size 89 _ _ _ rfl (World.alloc_heap_new w _) Tryz.underlying89 rfl rows23) rfl ⟨HFIN.out _ _ HO.out HT2.out, (Below.refl _ w).alloc (Nat.le_refl _) _⟩
            | some m =>
              obtain ⟨hfs, hfl⟩ := front_some 40 t m hb rfl hR
              rw [← HH.out, HF.out] at hfs hfl
              have hml : m + 1 ≤ s.size := by rw [← hfl, HL.out, ← HF.out]; exact front_le _
              have R1 := run_slice_to s (m + 1) ((m + 1 : Nat) : Int) rfl hml
              have hfp := HFP.out
              rw [hfl] at hfp
              rw [hfp] at R1
              have HO : Hid (((f.kind : Nat) : Int) = 3) := by show _ = _; rw [hfs]; rfl
              have cE' : ∀ w, Calls Tryz.prog 155 #[.string s] w fun e w' => e = .returned (.int .i64 ((m + 1 : Nat) : Int)) ∧ w = w' := cE
              generalize hM : m + 1 = M at cE' R1 hml hfl hfp
              have hMz : ((M : Int) == 0) = false := by rw [beq_eq_false_iff_ne]; omega
              have hM0 : ¬ M = 0 := by omega
              obtain ⟨T, hT⟩ : ∃ T, strL f.text = T := ⟨_, rfl⟩
              rw [hT] at R1 hfp
              have HT2 := Lib.hid hT
              clear hT
              clear hR hb hfs hfl hfp hM cE e34 e91
              go_wp2_with (first
                | (go_at_call 154; refine (cB _).mono ?_; rintro e w1 ⟨rfl, hw⟩; rw [← hw]; clear hw w1 cB)
                | (go_at_call 155; refine (cE' _).mono ?_; rintro e w2 ⟨rfl, hw⟩; rw [← hw]; clear hw w2 cE'))
              exact bodyPost_ret (results_cell_row rfl _ _ w.heap.size 89 _ _ _ rfl (World.alloc_heap_new w _) Tryz.underlying89 rfl rows23) rfl ⟨HFIN.out _ _ HO.out HT2.out, (Below.refl _ w).alloc (Nat.le_refl _) _⟩
          · rw [show decide (c0 = UInt8.ofNat 40) = false from decide_eq_false h40] at e40
            by_cases h34 : c0 = 34
            · rw [show decide (c0 = UInt8.ofNat 34) = true from decide_eq_true h34] at e34
              subst h34
              obtain ⟨R, hR⟩ : ∃ R, closeL 34 t = R := ⟨_, rfl⟩
              have cE := end_34 s HS.out t HH.out R (by rw [HH.out]; exact hR)
              cases R with
              | none =>
                have hfs := front_none 34 t hb rfl hR
                rw [← HH.out, HF.out] at hfs
                have HT2 : Hid (strL f.text = s) := by show _ = _; rw [hfs]; exact strL_of s
                have HO : Hid (((f.kind : Nat) : Int) = 7) := by show _ = _; rw [hfs]; rfl
                have cE' : ∀ w, Calls Tryz.prog 155 #[.string s] w fun e w' => e = .returned (.int .i64 0) ∧ w = w' := cE
                clear hR hb hfs cE e91 h40
                go_wp2_with (first
                  | (go_at_call 154; refine (cB _).mono ?_; rintro e w1 ⟨rfl, hw⟩; rw [← hw]; clear hw w1 cB)
                  | (go_at_call 155; refine (cE' _).mono ?_; rintro e w2 ⟨rfl, hw⟩; rw [← hw]; clear hw w2 cE'))
                exact bodyPost_ret (results_cell_row rfl _ _ w.heap.size 89 _ _ _ rfl (World.alloc_heap_new w _) Tryz.underlying89 rfl rows23) rfl ⟨HFIN.out _ _ HO.out HT2.out, (Below.refl _ w).alloc (Nat.le_refl _) _⟩
              | some m =>
                obtain ⟨hfs, hfl⟩ := front_some 34 t m hb rfl hR
                rw [← HH.out, HF.out] at hfs hfl
                have hml : m + 1 ≤ s.size := by rw [← hfl, HL.out, ← HF.out]; exact front_le _
                have R1 := run_slice_to s (m + 1) ((m + 1 : Nat) : Int) rfl hml
                have hfp := HFP.out
                rw [hfl] at hfp
                rw [hfp] at R1
                have HO : Hid (((f.kind : Nat) : Int) = 2) := by show _ = _; rw [hfs]; rfl
                have cE' : ∀ w, Calls Tryz.prog 155 #[.string s] w fun e w' => e = .returned (.int .i64 ((m + 1 : Nat) : Int)) ∧ w = w' := cE
                generalize hM : m + 1 = M at cE' R1 hml hfl hfp
                have hMz : ((M : Int) == 0) = false := by rw [beq_eq_false_iff_ne]; omega
                have hM0 : ¬ M = 0 := by omega
                obtain ⟨T, hT⟩ : ∃ T, strL f.text = T := ⟨_, rfl⟩
                rw [hT] at R1 hfp
                have HT2 := Lib.hid hT
                clear hT
                clear hR hb hfs hfl hfp hM cE e91 h40
                go_wp2_with (first
                  | (go_at_call 154; refine (cB _).mono ?_; rintro e w1 ⟨rfl, hw⟩; rw [← hw]; clear hw w1 cB)
                  | (go_at_call 155; refine (cE' _).mono ?_; rintro e w2 ⟨rfl, hw⟩; rw [← hw]; clear hw w2 cE'))
                exact bodyPost_ret (results_cell_row rfl _ _ w.heap.size 89 _ _ _ rfl (World.alloc_heap_new w _) Tryz.underlying89 rfl rows23) rfl ⟨HFIN.out _ _ HO.out HT2.out, (Below.refl _ w).alloc (Nat.le_refl _) _⟩
            · rw [show decide (c0 = UInt8.ofNat 34) = false from decide_eq_false h34] at e34
              by_cases h91 : c0 = 91
              · rw [show decide (c0 = UInt8.ofNat 91) = true from decide_eq_true h91] at e91
                subst h91
                obtain ⟨R, hR⟩ : ∃ R, closeL 91 t = R := ⟨_, rfl⟩
                have cE := end_91 s HS.out t HH.out R (by rw [HH.out]; exact hR)
                cases R with
                | none =>
                  have hfs := front_none 91 t hb rfl hR
                  rw [← HH.out, HF.out] at hfs
                  have HT2 : Hid (strL f.text = s) := by show _ = _; rw [hfs]; exact strL_of s
                  have HO : Hid (((f.kind : Nat) : Int) = 7) := by show _ = _; rw [hfs]; rfl
                  have cE' : ∀ w, Calls Tryz.prog 155 #[.string s] w fun e w' => e = .returned (.int .i64 0) ∧ w = w' := cE
                  clear hR hb hfs cE h40 h34
                  go_wp2_with (first
                    | (go_at_call 154; refine (cB _).mono ?_; rintro e w1 ⟨rfl, hw⟩; rw [← hw]; clear hw w1 cB)
                    | (go_at_call 155; refine (cE' _).mono ?_; rintro e w2 ⟨rfl, hw⟩; rw [← hw]; clear hw w2 cE'))
                  exact bodyPost_ret (results_cell_row rfl _ _ w.heap.size 89 _ _ _ rfl (World.alloc_heap_new w _) Tryz.underlying89 rfl rows23) rfl ⟨HFIN.out _ _ HO.out HT2.out, (Below.refl _ w).alloc (Nat.le_refl _) _⟩
                | some m =>
                  obtain ⟨hfs, hfl⟩ := front_some 91 t m hb rfl hR
                  rw [← HH.out, HF.out] at hfs hfl
                  have hml : m + 1 ≤ s.size := by rw [← hfl, HL.out, ← HF.out]; exact front_le _
                  have R1 := run_slice_to s (m + 1) ((m + 1 : Nat) : Int) rfl hml
                  have hfp := HFP.out
                  rw [hfl] at hfp
                  rw [hfp] at R1
                  have HO : Hid (((f.kind : Nat) : Int) = 5) := by show _ = _; rw [hfs]; rfl
                  have cE' : ∀ w, Calls Tryz.prog 155 #[.string s] w fun e w' => e = .returned (.int .i64 ((m + 1 : Nat) : Int)) ∧ w = w' := cE
                  generalize hM : m + 1 = M at cE' R1 hml hfl hfp
                  have hMz : ((M : Int) == 0) = false := by rw [beq_eq_false_iff_ne]; omega
                  have hM0 : ¬ M = 0 := by omega
                  obtain ⟨T, hT⟩ : ∃ T, strL f.text = T := ⟨_, rfl⟩
                  rw [hT] at R1 hfp
                  have HT2 := Lib.hid hT
                  clear hT
                  clear hR hb hfs hfl hfp hM cE h40 h34
                  go_wp2_with (first
                    | (go_at_call 154; refine (cB _).mono ?_; rintro e w1 ⟨rfl, hw⟩; rw [← hw]; clear hw w1 cB)
                    | (go_at_call 155; refine (cE' _).mono ?_; rintro e w2 ⟨rfl, hw⟩; rw [← hw]; clear hw w2 cE'))
                  exact bodyPost_ret (results_cell_row rfl _ _ w.heap.size 89 _ _ _ rfl (World.alloc_heap_new w _) Tryz.underlying89 rfl rows23) rfl ⟨HFIN.out _ _ HO.out HT2.out, (Below.refl _ w).alloc (Nat.le_refl _) _⟩
              · rw [show decide (c0 = UInt8.ofNat 91) = false from decide_eq_false h91] at e91
                have ho : ¬ opens c0 = true := fun e => by
                  rcases opens_cases c0 e with e | e | e
                  · exact h40 e
                  · exact h34 e
                  · exact h91 e
                have cS := rspecial_any c0 x0 HX.out
                have R1 : ∀ W : World, (Instr.slice 9 (.string s) none (some (.int .i64 1)) none).run Tryz.prog W = .ok (.string (s.extract 0 1)) W := run_slice_to s 1 1 rfl (by omega)
                have h1c : s.extract 0 1 = strL [c0] := bytes_is (by rw [part_start s 1 (by omega), HH.out]; rfl)
                rw [h1c] at R1
                by_cases hsp : special c0 = true
                · have hfs : f = ⟨4, [c0]⟩ := by rw [← HF.out, HH.out, frontL, if_neg hb, if_neg ho, if_pos hsp]
                  rw [hsp] at cS
                  obtain ⟨T, hT⟩ : ∃ T, strL [c0] = T := ⟨_, rfl⟩
                  rw [hT] at R1 h1c
                  have HT2 : Hid (strL f.text = T) := by show _ = _; rw [hfs]; exact hT
                  clear hT
                  have HO : Hid (((f.kind : Nat) : Int) = 4) := by show _ = _; rw [hfs]; rfl
                  clear hb ho h40 h34 h91 hfs hsp h1c
                  go_wp2_with (first
                    | (go_at_call 154; refine (cB _).mono ?_; rintro e w1 ⟨rfl, hw⟩; rw [← hw]; clear hw w1 cB)
                    | (go_at_call 156; refine (cS _).mono ?_; rintro e w2 ⟨rfl, hw⟩; rw [← hw]; clear hw w2 cS))
                  exact bodyPost_ret (results_cell_row rfl _ _ w.heap.size 89 _ _ _ rfl (World.alloc_heap_new w _) Tryz.underlying89 rfl rows23) rfl ⟨HFIN.out _ _ HO.out HT2.out, (Below.refl _ w).alloc (Nat.le_refl _) _⟩
                · have hsp' : special c0 = false := by simpa using hsp
                  rw [hsp'] at cS
                  have HBO := Lib.hid (And.intro hb (And.intro ho hsp))
                  clear hb ho h40 h34 h91 hsp hsp'
                  go_wp2_with (first
                    | (go_at_call 154; refine (cB _).mono ?_; rintro e w1 ⟨rfl, hw⟩; rw [← hw]; clear hw w1 cB)
                    | (go_at_call 156; refine (cS _).mono ?_; rintro e w2 ⟨rfl, hw⟩; rw [← hw]; clear hw w2 cS))
                  have OUT2 := Lib.hid (show ∀ k, 0 < k → (s.data.toList.takeWhile atomB).length = k → s.extract 0 k = strL f.text ∧ ((f.kind : Nat) : Int) = 1 from fun k hk0 he => by
                    have ha : atomB c0 = true := while_pos _ c0 t (by rw [← HH.out, he]; exact hk0)
                    have hfs : frontL s.data.toList = ⟨1, s.data.toList.takeWhile atomB⟩ := by rw [HH.out, frontL, if_neg HBO.out.1, if_neg HBO.out.2.1, if_neg HBO.out.2.2, if_pos ha]
                    rw [HF.out] at hfs
                    refine ⟨?_, by rw [hfs]; rfl⟩
                    rw [← HFP.out, show f.text.length = k by rw [hfs]; exact he])
                  have BAD2 := Lib.hid (show ¬ atomB c0 = true → strL f.text = strL [c0] ∧ ((f.kind : Nat) : Int) = 7 from fun ha => by
                    have hfs : frontL s.data.toList = ⟨7, [c0]⟩ := by rw [HH.out, frontL, if_neg HBO.out.1, if_neg HBO.out.2.1, if_neg HBO.out.2.2, if_neg ha]
                    rw [HF.out] at hfs
                    exact ⟨by rw [hfs], by rw [hfs]; rfl⟩)
                  have HT1 := Lib.hid h1c
                  clear h1c
                  obtain ⟨T1, hT1⟩ : ∃ T1, strL [c0] = T1 := ⟨_, rfl⟩
                  rw [hT1] at R1 BAD2
                  clear hT1 HT1
                  go_loopw [3] (fun i wr => ∃ k : Nat, k ≤ n ∧ i = .int .i64 k ∧ wr = w.alloc (.cells #[.int .i64 0, .string ⟨#[]⟩] 89) ∧ Hid ((s.data.toList.takeWhile atomB).length = k + ((s.data.toList.drop k).takeWhile atomB).length)) (fun i _ => n - (intOf i).toNat)
                  case atStart => exact ⟨0, Nat.zero_le _, rfl, rfl, by show _ = _; rw [List.drop_zero, Nat.zero_add]⟩
                  case round =>
                    obtain ⟨k, hk, rfl, rfl, HT⟩ := hrel
                    have F1 : IntKind.i64.wrap ((k : Int) + 1) = (k : Int) + 1 := by rw [IntKind.wrap_i64]; omega
                    have hn : s.size = n := HN.out
                    by_cases hlt : k < n
                    · have hlt' : (k : Int) < (n : Int) := by omega
                      obtain ⟨c, x, hc, hx, hx2, S1⟩ := run_byte s k (by rw [hn]; exact hlt)
                      have cB := ratom_any c x hx
                      by_cases hp : atomB c = true
                      · have HS2 := Lib.hid (while_more _ _ k c hc hp HT.out)
                        rw [hp] at cB
                        clear hp hc hx hx2 HT OUT2 BAD2 S0 R1 HFIN
                        go_wp2_with (go_at_call 157; refine (cB _).mono ?_; rintro e w' ⟨rfl, hw⟩; rw [← hw]; clear hw w')
                        go_roundw
                        case rel => exact ⟨k + 1, by omega, by go_num, trivial, HS2⟩
                        case measure => simp [intOf]; omega
                      · have hp' : atomB c = false := by simpa using hp
                        have hstop := while_stop _ _ k c hc hp' HT.out
                        rw [hp'] at cB
                        by_cases hk0 : 0 < k
                        · obtain ⟨o1, o2⟩ := OUT2.out k hk0 hstop
                          have R2 := run_slice_to s k (k : Int) rfl (by omega)
                          rw [o1] at R2
                          have HO := Lib.hid o2
                          have hkk : decide (0 < k) = true := decide_eq_true hk0
                          obtain ⟨T, hT⟩ : ∃ T, strL f.text = T := ⟨_, rfl⟩
                          rw [hT] at R2 o1
                          have HT2 := Lib.hid hT
                          clear hT hp hp' hc hx hx2 HT OUT2 BAD2 S0 R1 o1 o2 hstop
                          go_wp2_with (go_at_call 157; refine (cB _).mono ?_; rintro e w' ⟨rfl, hw⟩; rw [← hw]; clear hw w')
                          exact bodyPost_ret (results_cell_row rfl _ _ w.heap.size 89 _ _ _ rfl (World.alloc_heap_new w _) Tryz.underlying89 rfl rows23) rfl ⟨HFIN.out _ _ HO.out HT2.out, (Below.refl _ w).alloc (Nat.le_refl _) _⟩
                        · obtain rfl : k = 0 := by omega
                          have ha : ¬ atomB c0 = true := while_zero _ c0 t (by rw [← HH.out]; exact hstop)
                          obtain ⟨o1, o2⟩ := BAD2.out ha
                          have HT2 := Lib.hid o1
                          have HO := Lib.hid o2
                          clear cB
                          have cB := ratom_any c0 x0 HX.out
                          rw [show atomB c0 = false by simpa using ha] at cB
                          clear hp hp' hc hx hx2 HT OUT2 BAD2 S1 o1 o2 hstop ha hk0 hlt hlt'
                          go_wp2_with (go_at_call 157; refine (cB _).mono ?_; rintro e w' ⟨rfl, hw⟩; rw [← hw]; clear hw w')
                          exact bodyPost_ret (results_cell_row rfl _ _ w.heap.size 89 _ _ _ rfl (World.alloc_heap_new w _) Tryz.underlying89 rfl rows23) rfl ⟨HFIN.out _ _ HO.out HT2.out, (Below.refl _ w).alloc (Nat.le_refl _) _⟩
                    · have hend := while_end _ _ k (by rw [← HL.out, hn]; omega) HT.out
                      obtain rfl : k = n := by omega
                      obtain ⟨o1, o2⟩ := OUT2.out k h0 hend
                      have hlt' : ¬ (k : Int) < (k : Int) := by omega
                      have R2 := run_slice_to s k (k : Int) rfl (by omega)
                      rw [o1] at R2
                      have HO := Lib.hid o2
                      have hkk : decide (0 < k) = true := decide_eq_true h0
                      obtain ⟨T, hT⟩ : ∃ T, strL f.text = T := ⟨_, rfl⟩
                      rw [hT] at R2 o1
                      have HT2 := Lib.hid hT
                      clear hT HT OUT2 BAD2 S0 R1 o1 o2 hend
                      go_wp2_with fail
                      exact bodyPost_ret (results_cell_row rfl _ _ w.heap.size 89 _ _ _ rfl (World.alloc_heap_new w _) Tryz.underlying89 rfl rows23) rfl ⟨HFIN.out _ _ HO.out HT2.out, (Below.refl _ w).alloc (Nat.le_refl _) _⟩
    · have hend := while_end _ _ k (by rw [← HL.out, hn]; omega) HT.out
      obtain rfl : k = n := by omega
      obtain ⟨o1, o2⟩ := OUT.out h0 hend
      have hlt' : ¬ (k : Int) < (k : Int) := by omega
      have R1 := run_slice_to s k (k : Int) rfl (by omega)
      rw [o1] at R1
      have HO := Lib.hid o2
      have hkk : decide (0 < k) = true := decide_eq_true h0
      obtain ⟨T, hT⟩ : ∃ T, strL f.text = T := ⟨_, rfl⟩
      rw [hT] at R1 o1
      have HT2 := Lib.hid hT
      clear hT
      clear HT OUT S0 o1 o2 hend
      go_wp2_with fail
      exact bodyPost_ret (results_cell_row rfl _ _ w.heap.size 89 _ _ _ rfl (World.alloc_heap_new w _) Tryz.underlying89 rfl rows23) rfl ⟨HFIN.out _ _ HO.out HT2.out, (Below.refl _ w).alloc (Nat.le_refl _) _⟩
end Go.Proofs.YtdinachiiimngaaGreatDoor
