/- The program's written and Write. The program's Right. The program's lower and Canon. Slices of strings; the reference's SameTexts. The reference's Ids. AddrTells, from what addr.Parse, addr.Ids and the reference's Parse answer. The program's Ids. What the rows' premises give the walks, and a world in which the listed variables are laid. -/
import Derived.Test.YtgponokcigapaaaDoorK3
import Derived.Test.YtgponokcigapaaaDoorK7
import Derived.Test.YtgponokcigapaaaDoorK6
import Derived.Test.YtgponokcigapaaaDoorKARight
import Derived.Test.YtgponokcigapaaaDoorK2
import Derived.Test.YtgponokcigapaaaDoorK4
import Derived.Test.YtgponokcigapaaaDoorK5
import Derived.Test.YtgponokcigapaaaDoorCards
import Derived.Test.YtgponokcigapaaaDoorTie
import Derived.Test.YtgponokcigapaaaDoorK1
import Derived.Lay
import Derived.OpenShut
import Derived.Carry
import Derived.Deep.DeepHandedRow
import Derived.Stop.LaidErr
namespace Go.Proofs.YtgponokcigapaaaDoor
open Go.ChangeShapes Go.WideShapes Go.ChangeAt Go.RowKit
open TokP AdrP

theorem specQ_len (a : Adr) (h : smallA a = true) : (specQ a).length ≤ 1000 := by
  unfold smallA at h
  simp only [Bool.and_eq_true, decide_eq_true_eq] at h
  have := escQ_len a.loc
  unfold specQ
  split
  · simp; omega
  · simp; omega
theorem oneQ_len (a : Adr) (h : smallA a = true) : (oneQ a).length ≤ 2000 := by
  have h1 := specQ_len a h
  unfold smallA at h
  simp only [Bool.and_eq_true, decide_eq_true_eq] at h
  have h2 := quote_len a.name
  unfold oneQ
  split
  · omega
  · simp; omega
theorem str_nonempty {l : List UInt8} (h : l ≠ []) : (strL l).toList.isEmpty = false ∧ ((strL l).toList == []) = false := by
  rw [ByteArray.toList_eq, strL_list]
  refine ⟨?_, beq_eq_false_iff_ne.2 h⟩
  rw [← Bool.not_eq_true, List.isEmpty_iff]
  exact h
set_option maxHeartbeats 2000000 in
theorem written_p (a : Adr) (h : smallA a = true) (w : World) :
    Calls Tryd.prog 40 #[.agg #[.string (strL a.name), .string (strL a.loc), .string (strL a.dom)]] w fun e w' => e = .returned (.string (strL (oneQ a))) ∧ Below w.heap.size w w' := by
  have hsl := specQ_len a h
  obtain ⟨h1, h2, h3⟩ : a.name.length ≤ 300 ∧ a.loc.length ≤ 300 ∧ a.dom.length ≤ 300 := by
    unfold smallA at h
    simp only [Bool.and_eq_true, decide_eq_true_eq] at h
    exact ⟨h.1.1, h.1.2, h.2⟩
  have HB0 := Lib.hid (below_box w (.cells #[.string (strL a.name), .string (strL a.loc), .string (strL a.dom)] 34))
  have hbx := bx_new w (strL a.name) (strL a.loc) (strL a.dom)
  have c1 := fun W => dotatom_p (strL a.loc) (by rw [strL_size]; omega) W
  have c2 := fun W => quoted_p (strL a.loc) (by rw [strL_size]; omega) W
  have c3 := fun W => quote_any (strL a.name) (by rw [strL_size]; omega) W
  have hql := quote_len a.name
  rw [strL_list] at c1 c2 c3
  have k1 := hbx.c1
  have HX := Lib.hid hbx
  have hLz := escQ_len a.loc
  have hqz := strL_size (quoteL a.name)
  have hsz := strL_size (specQ a)
  have hdz := strL_size a.dom
  have hlz := strL_size a.loc
  have hez := strL_size (34 :: (escQ a.loc ++ [34]))
  rw [List.length_cons, List.length_append, List.length_singleton] at hez
  have HN := Lib.hid (fun (hn : a.name = []) => show oneQ a = specQ a by unfold oneQ; rw [if_pos hn])
  have HY := Lib.hid (fun (hn : a.name ≠ []) => show oneQ a = quoteL a.name ++ 32 :: 60 :: (specQ a ++ [62]) by unfold oneQ; rw [if_neg hn])
  cases hd : dotA false a.loc with
  | true =>
    by_cases hn : a.name = []
    · rw [hd] at c1
      have hspec : (strL a.loc ++ (⟨#[64]⟩ : ByteArray)) ++ strL a.dom = strL (specQ a) := bytes_is (by rw [list_append, list_append, strL_list, strL_list, strL_list]; unfold specQ; rw [if_pos hd, List.append_assoc]; rfl)
      have z1 : (strL a.loc ++ (⟨#[64]⟩ : ByteArray)).size = (strL a.loc).size + 1 := by rw [ByteArray.size_append]; rfl
      have z2 : (strL a.loc).size + 1 + (strL a.dom).size ≤ 100000 := by omega
      have z2' : (strL a.loc).size + 1 ≤ 100000 := by omega
      have hone := HN.out hn
      rw [hone]
      have e0 : strL a.name = ⟨#[]⟩ := by rw [hn]; rfl
      rw [e0] at HX HB0 k1 ⊢
      generalize strL (specQ a) = S at hspec ⊢
      generalize strL a.loc = x2 at c1 c2 HX k1 HB0 hspec z1 z2 z2' ⊢
      generalize strL a.dom = x3 at hspec z2 HX k1 HB0 ⊢
      clear hsl h h1 h2 h3 hql hLz hqz hsz hdz hlz hez HN HY hbx hd hn
      go_enter Tryd.func40, Tryd.ntmps40
      go_wp2_with (first
        | (go_at_call 58; (with_reducible refine (c1 _).mono ?_); rintro e w1 ⟨rfl, hb1⟩; clear c1; have hx1 := HX.out.step hb1; have HX1 := Lib.hid hx1; have r0 := hx1.c0; have r2 := hx1.c2; have HB1 := Lib.hid (Qtrans HB0.out hb1); clear hb1 hx1))
      go_ret
      exact ⟨rfl, HB1.out⟩
    · rw [hd] at c1
      have hspec : (strL a.loc ++ (⟨#[64]⟩ : ByteArray)) ++ strL a.dom = strL (specQ a) := bytes_is (by rw [list_append, list_append, strL_list, strL_list, strL_list]; unfold specQ; rw [if_pos hd, List.append_assoc]; rfl)
      have z1 : (strL a.loc ++ (⟨#[64]⟩ : ByteArray)).size = (strL a.loc).size + 1 := by rw [ByteArray.size_append]; rfl
      have z2 : (strL a.loc).size + 1 + (strL a.dom).size ≤ 100000 := by omega
      have z2' : (strL a.loc).size + 1 ≤ 100000 := by omega
      have hone := HY.out hn
      obtain ⟨n1, n2⟩ := str_nonempty hn
      have hfin : ((strL (quoteL a.name) ++ (⟨#[32, 60]⟩ : ByteArray)) ++ strL (specQ a)) ++ (⟨#[62]⟩ : ByteArray) = strL (oneQ a) := bytes_is (by rw [list_append, list_append, list_append, strL_list, strL_list, strL_list, hone]; simp)
      have z3 : (strL (quoteL a.name) ++ (⟨#[32, 60]⟩ : ByteArray)).size = (strL (quoteL a.name)).size + 2 := by rw [ByteArray.size_append]; rfl
      have z4 : (strL (quoteL a.name)).size + 2 + (strL (specQ a)).size ≤ 100000 := by omega
      have z4' : (strL (quoteL a.name)).size + 2 ≤ 100000 := by omega
      have z5 : ((strL (quoteL a.name) ++ (⟨#[32, 60]⟩ : ByteArray)) ++ strL (specQ a)).size = (strL (quoteL a.name)).size + 2 + (strL (specQ a)).size := by rw [ByteArray.size_append, z3]
      have z6 : (strL (quoteL a.name)).size + 2 + (strL (specQ a)).size + 1 ≤ 100000 := by omega
      generalize strL (oneQ a) = ANS at hfin ⊢
      generalize strL (quoteL a.name) = Q at c3 hfin z3 z4 z4' z5 z6
      generalize strL (specQ a) = S at hspec hfin z4 z5 z6
      generalize strL a.name = x1 at c3 n1 n2 HX k1 HB0 ⊢
      generalize strL a.loc = x2 at c1 c2 HX k1 HB0 hspec z1 z2 z2' ⊢
      generalize strL a.dom = x3 at hspec z2 HX k1 HB0 ⊢
      clear hsl h h1 h2 h3 hql hLz hqz hsz hdz hlz hez HN HY hbx hd hn
      go_enter Tryd.func40, Tryd.ntmps40
      go_wp2_with (first
        | (go_at_call 58; (with_reducible refine (c1 _).mono ?_); rintro e w1 ⟨rfl, hb1⟩; clear c1; have hx1 := HX.out.step hb1; have HX1 := Lib.hid hx1; have r0 := hx1.c0; have r2 := hx1.c2; have HB1 := Lib.hid (Qtrans HB0.out hb1); clear hb1 hx1)
        | (go_at_call 63; (with_reducible refine (c3 _).mono ?_); rintro e w3 ⟨rfl, hb3⟩; clear c3; have HB3 := Lib.hid (Qtrans HB1.out hb3); clear hb3))
      go_ret
      exact ⟨rfl, HB3.out⟩
  | false =>
    by_cases hn : a.name = []
    · rw [hd] at c1
      have hspec : (strL (34 :: (escQ a.loc ++ [34])) ++ (⟨#[64]⟩ : ByteArray)) ++ strL a.dom = strL (specQ a) := bytes_is (by rw [list_append, list_append, strL_list, strL_list, strL_list]; unfold specQ; rw [if_neg (by rw [hd]; exact Bool.false_ne_true), List.append_assoc]; rfl)
      have z1 : (strL (34 :: (escQ a.loc ++ [34])) ++ (⟨#[64]⟩ : ByteArray)).size = (strL (34 :: (escQ a.loc ++ [34]))).size + 1 := by rw [ByteArray.size_append]; rfl
      have z2 : (strL (34 :: (escQ a.loc ++ [34]))).size + 1 + (strL a.dom).size ≤ 100000 := by omega
      have z2' : (strL (34 :: (escQ a.loc ++ [34]))).size + 1 ≤ 100000 := by omega
      have hone := HN.out hn
      rw [hone]
      have e0 : strL a.name = ⟨#[]⟩ := by rw [hn]; rfl
      rw [e0] at HX HB0 k1 ⊢
      generalize strL (specQ a) = S at hspec ⊢
      generalize strL (34 :: (escQ a.loc ++ [34])) = E at c2 hspec z1 z2 z2'
      generalize strL a.loc = x2 at c1 c2 HX k1 HB0 ⊢
      generalize strL a.dom = x3 at hspec z2 HX k1 HB0 ⊢
      clear hsl h h1 h2 h3 hql hLz hqz hsz hdz hlz hez HN HY hbx hd hn
      go_enter Tryd.func40, Tryd.ntmps40
      go_wp2_with (first
        | (go_at_call 58; (with_reducible refine (c1 _).mono ?_); rintro e w1 ⟨rfl, hb1⟩; clear c1; have hx1 := HX.out.step hb1; have HX1 := Lib.hid hx1; have HB1 := Lib.hid (Qtrans HB0.out hb1); clear hb1 hx1)
        | (go_at_call 62; (with_reducible refine (c2 _).mono ?_); rintro e w2 ⟨rfl, hb2⟩; clear c2; have hx2 := HX1.out.step hb2; have r0 := hx2.c0; have r2 := hx2.c2; have HB2 := Lib.hid (Qtrans HB1.out hb2); clear hb2 hx2))
      go_ret
      exact ⟨rfl, HB2.out⟩
    · rw [hd] at c1
      have hspec : (strL (34 :: (escQ a.loc ++ [34])) ++ (⟨#[64]⟩ : ByteArray)) ++ strL a.dom = strL (specQ a) := bytes_is (by rw [list_append, list_append, strL_list, strL_list, strL_list]; unfold specQ; rw [if_neg (by rw [hd]; exact Bool.false_ne_true), List.append_assoc]; rfl)
      have z1 : (strL (34 :: (escQ a.loc ++ [34])) ++ (⟨#[64]⟩ : ByteArray)).size = (strL (34 :: (escQ a.loc ++ [34]))).size + 1 := by rw [ByteArray.size_append]; rfl
      have z2 : (strL (34 :: (escQ a.loc ++ [34]))).size + 1 + (strL a.dom).size ≤ 100000 := by omega
      have z2' : (strL (34 :: (escQ a.loc ++ [34]))).size + 1 ≤ 100000 := by omega
      have hone := HY.out hn
      obtain ⟨n1, n2⟩ := str_nonempty hn
      have hfin : ((strL (quoteL a.name) ++ (⟨#[32, 60]⟩ : ByteArray)) ++ strL (specQ a)) ++ (⟨#[62]⟩ : ByteArray) = strL (oneQ a) := bytes_is (by rw [list_append, list_append, list_append, strL_list, strL_list, strL_list, hone]; simp)
      have z3 : (strL (quoteL a.name) ++ (⟨#[32, 60]⟩ : ByteArray)).size = (strL (quoteL a.name)).size + 2 := by rw [ByteArray.size_append]; rfl
      have z4 : (strL (quoteL a.name)).size + 2 + (strL (specQ a)).size ≤ 100000 := by omega
      have z4' : (strL (quoteL a.name)).size + 2 ≤ 100000 := by omega
      have z5 : ((strL (quoteL a.name) ++ (⟨#[32, 60]⟩ : ByteArray)) ++ strL (specQ a)).size = (strL (quoteL a.name)).size + 2 + (strL (specQ a)).size := by rw [ByteArray.size_append, z3]
      have z6 : (strL (quoteL a.name)).size + 2 + (strL (specQ a)).size + 1 ≤ 100000 := by omega
      generalize strL (oneQ a) = ANS at hfin ⊢
      generalize strL (quoteL a.name) = Q at c3 hfin z3 z4 z4' z5 z6
      generalize strL (specQ a) = S at hspec hfin z4 z5 z6
      generalize strL (34 :: (escQ a.loc ++ [34])) = E at c2 hspec z1 z2 z2'
      generalize strL a.name = x1 at c3 n1 n2 HX k1 HB0 ⊢
      generalize strL a.loc = x2 at c1 c2 HX k1 HB0 ⊢
      generalize strL a.dom = x3 at hspec z2 HX k1 HB0 ⊢
      clear hsl h h1 h2 h3 hql hLz hqz hsz hdz hlz hez HN HY hbx hd hn
      go_enter Tryd.func40, Tryd.ntmps40
      go_wp2_with (first
        | (go_at_call 58; (with_reducible refine (c1 _).mono ?_); rintro e w1 ⟨rfl, hb1⟩; clear c1; have hx1 := HX.out.step hb1; have HX1 := Lib.hid hx1; have HB1 := Lib.hid (Qtrans HB0.out hb1); clear hb1 hx1)
        | (go_at_call 62; (with_reducible refine (c2 _).mono ?_); rintro e w2 ⟨rfl, hb2⟩; clear c2; have hx2 := HX1.out.step hb2; have r0 := hx2.c0; have r2 := hx2.c2; have HB2 := Lib.hid (Qtrans HB1.out hb2); clear hb2 hx2)
        | (go_at_call 63; (with_reducible refine (c3 _).mono ?_); rintro e w3 ⟨rfl, hb3⟩; clear c3; have HB3 := Lib.hid (Qtrans HB2.out hb3); clear hb3))
      go_ret
      exact ⟨rfl, HB3.out⟩
/-! ### Write -/
theorem writeQ_snoc : ∀ (X : List Adr) (f : Adr), X ≠ [] → writeQ (X ++ [f]) = writeQ X ++ 44 :: 32 :: oneQ f
  | [], _, h => absurd rfl h
  | [a], f, _ => rfl
  | a :: b :: r, f, _ => by
    have ih := writeQ_snoc (b :: r) f (by simp)
    show oneQ a ++ 44 :: 32 :: writeQ ((b :: r) ++ [f]) = (oneQ a ++ 44 :: 32 :: writeQ (b :: r)) ++ _
    rw [ih, List.append_assoc]
    rfl
theorem write_step0 {l : List Adr} {f : Adr} (h : l[0]? = some f) : writeQ (l.take 1) = oneQ f := by
  rw [show l.take 1 = [f] by rw [List.take_add_one, h]; rfl]
  rfl
theorem write_step {l : List Adr} {k : Nat} {f : Adr} (h : l[k]? = some f) (hk : k ≠ 0) : writeQ (l.take (k + 1)) = (writeQ (l.take k) ++ [44, 32]) ++ oneQ f := by
  rw [List.take_add_one, h]
  have := writeQ_snoc (l.take k) f (by
    intro e
    have := congrArg List.length e
    rw [List.length_take, List.length_nil] at this
    have := (List.getElem?_eq_some_iff.1 h).1
    omega)
  rw [List.append_assoc]
  exact this
/-- The cells of an address copied into a variable. -/
theorem adr_kept {w w' : World} {N L D : ByteArray} (hb : Below (w.alloc (.cells #[.string N, .string L, .string D] 34)).heap.size (w.alloc (.cells #[.string N, .string L, .string D] 34)) w') : Bx w' w.heap.size N L D := (bx_new w N L D).step hb
theorem bx_others {w w' : World} {g b : Nat} {N L D : ByteArray} (h : Bx w g N L D) (hk : Lib.OthersKept 5 (some b) w w') (hne : g ≠ b) : Bx w' g N L D := by
  exact hk g _ h (by simp; exact hne) (fun c fz e => by injection e with _ e _; exact absurd e (by decide))
set_option maxRecDepth 100000 in
set_option maxHeartbeats 2000000 in
theorem write_ok : WriteOk := fun v l w h hf => by
  obtain ⟨hsm, hlen⟩ : l.all smallA = true ∧ l.length ≤ 20 := by
    unfold fewB at hf
    rw [Bool.and_eq_true, decide_eq_true_eq] at hf
    exact hf
  obtain ⟨a, c, rfl⟩ := h.form
  obtain ⟨n, hn⟩ : ∃ n, l.length = n := ⟨_, rfl⟩
  rw [hn] at h hlen ⊢
  have HN := Lib.hid hn
  have H := Lib.hid h
  have HSM := Lib.hid (fun (k : Nat) (f : Adr) (h : l[k]? = some f) => (List.all_eq_true.1 hsm) f (List.mem_of_getElem? h))
  have HST := Lib.hid (And.intro (bk_new w) (below_box w (.cells #[.pointer none, .slice none 0 0] 59)))
  clear hn h hsm hf
  go_enter Tryd.func22, Tryd.ntmps22
  go_wp2_with fail
  go_loopw [8] (fun i wr => ∃ (k : Nat) (T : List UInt8), k ≤ n ∧ i = .int .i64 k ∧ Hid (writeQ (l.take k) = T) ∧ Hid (T.length ≤ k * 2002) ∧ Hid (Bk wr w.heap.size T ∧ Below w.heap.size w wr)) (fun i _ => n - (intOf i).toNat)
  case atStart => exact ⟨0, [], Nat.zero_le _, rfl, rfl, Nat.zero_le _, HST⟩
  case round =>
    obtain ⟨k, T, hk, rfl, HT, HZ, HB⟩ := hrel
    have F1 : IntKind.i64.wrap ((k : Int) + 1) = (k : Int) + 1 := by rw [IntKind.wrap_i64]; omega
    by_cases hlt : k < n
    · have hlt' : (k : Int) < (n : Int) := by omega
      obtain ⟨g, o, rfl, hfa⟩ := H.out.at (by omega)
      obtain ⟨f, hf⟩ : ∃ f, l[k]? = some f := ⟨_, List.getElem?_eq_getElem (by rw [HN.out]; exact hlt)⟩
      obtain ⟨q0, q1, q2⟩ := hfa.step HB.out.2 k f hf
      have hsf := HSM.out k f hf
      have cW := written_p f hsf
      have hol := oneQ_len f hsf
      have hz := HZ.out
      have HS0 := Lib.hid (fun (h0 : k = 0) => show writeQ (l.take (k + 1)) = T ++ oneQ f by
        subst h0
        rw [write_step0 hf, ← HT.out]; rfl)
      have HS1 := Lib.hid (fun (h0 : k ≠ 0) => (write_step hf h0).trans (congrArg (fun z => (z ++ [44, 32]) ++ oneQ f) HT.out))
      have HBW := Lib.hid (fun W T' (hT' : T'.length ≤ 1000000) (h : Bk W w.heap.size T') => bk_str (strL (oneQ f)) w.heap.size T' W h (by rw [strL_size]; omega))
      rw [strL_list] at HBW
      have HBx := Lib.hid (fun o => HB.out.2.alloc HB.out.2.size o)
      have hbd := HB.out.1.alloc (.cells #[.string (strL f.name), .string (strL f.loc), .string (strL f.dom)] 34)
      have hbn := Lib.hid (bx_new wr (strL f.name) (strL f.loc) (strL f.dom))
      have hwz := Lib.hid (show wr.heap.size ≠ w.heap.size from Nat.ne_of_gt (bk_lt HB.out.1))
      have cB := bk_str ⟨#[44, 32]⟩ _ _ _ hbd (by show T.length + 2 ≤ _; omega)
      have hbd2 := Lib.hid hbd
      have HSZ := Lib.hid (strL_size (oneQ f))
      generalize strL f.name = x1 at q0 cW hbn cB hbd2
      generalize strL f.loc = x2 at q1 cW hbn cB hbd2
      generalize strL f.dom = x3 at q2 cW hbn cB hbd2
      generalize oneQ f = O at cW HS0 HS1 HBW hol HSZ
      generalize strL O = SO at cW HBW
      have hZ0 := Lib.hid (show (T ++ O).length ≤ (k + 1) * 2002 by rw [List.length_append]; omega)
      have hZ1 := Lib.hid (show ((T ++ [44, 32]) ++ O).length ≤ (k + 1) * 2002 by simp; omega)
      clear hf hfa hsf hbd hol HSZ
      by_cases h0 : k = 0
      · have HS := Lib.hid (HS0.out h0)
        have gk : ¬ (0 : Int) < (k : Int) := by omega
        have hT0 : T.length ≤ 1000000 := by omega
        clear h0 HS0 HS1 cB
        go_wp2_with (first
          | (go_at_call 40; (with_reducible refine (cW _).mono ?_); rintro e w3 ⟨rfl, hb3⟩; have HB3 := Lib.hid ((HBx.out _).trans (hb3.mono (HBx.out _).size)); have HD3 := Lib.hid (hbd2.out.below hb3); clear hb3)
          | (go_at_call 39; (with_reducible refine (HBW.out _ _ hT0 HD3.out).mono ?_); rintro e w5 ⟨rfl, hbd5, hb5, _⟩; have HD5 := Lib.hid hbd5; have HB5 := Lib.hid (HB3.out.trans hb5); clear hb5 hbd5))
        go_roundw
        case rel => exact ⟨k + 1, _, by omega, by go_num, HS, hZ0, Lib.hid ⟨HD5.out, HB5.out⟩⟩
        case measure => simp [intOf]; omega
      · have HS := Lib.hid (HS1.out h0)
        have gk : (0 : Int) < (k : Int) := by omega
        have hT0 : (T ++ [44, 32]).length ≤ 1000000 := by simp; omega
        clear h0 HS0 HS1
        go_wp2_with (first
          | (go_at_call 39; (with_reducible refine cB.mono ?_); rintro e w2 ⟨rfl, hbd1, hb1, hk1⟩; clear cB; have hx2 := bx_others hbn.out hk1 hwz.out; have r0 := hx2.c0; have r1 := hx2.c1; have r2 := hx2.c2; have HD2 := Lib.hid hbd1; have HB2 := Lib.hid ((HBx.out _).trans hb1); clear hx2 hbd1 hb1 hk1)
          | (go_at_call 40; (with_reducible refine (cW _).mono ?_); rintro e w3 ⟨rfl, hb3⟩; have HB3 := Lib.hid (HB2.out.trans (hb3.mono HB2.out.size)); have HD3 := Lib.hid (HD2.out.below hb3); clear hb3)
          | (go_at_call 39; (with_reducible refine (HBW.out _ _ hT0 HD3.out).mono ?_); rintro e w5 ⟨rfl, hbd5, hb5, _⟩; have HD5 := Lib.hid hbd5; have HB5 := Lib.hid (HB3.out.trans hb5); clear hb5 hbd5))
        go_roundw
        case rel => exact ⟨k + 1, _, by omega, by go_num, HS, hZ1, Lib.hid ⟨HD5.out, HB5.out⟩⟩
        case measure => simp [intOf]; omega
    · obtain rfl : k = n := by omega
      have hlt' : ¬ (k : Int) < (k : Int) := by omega
      have hT : l.take k = l := List.take_of_length_le (by rw [HN.out]; exact Nat.le_refl _)
      have ht := HT.out
      rw [hT] at ht
      have HTT := Lib.hid ht
      have hO := bk_out _ _ _ HB.out.1
      clear hT ht
      go_wp2_with (go_at_call 41; (with_reducible refine hO.mono ?_); rintro e w3 ⟨rfl, hb3⟩)
      go_ret
      exact ⟨by rw [HTT.out]; rfl, HB.out.2.trans hb3⟩
end Go.Proofs.YtgponokcigapaaaDoor
namespace Go.Proofs.YtgponokcigapaaaDoor
open Go.ChangeShapes Go.WideShapes Go.ChangeAt Go.RowKit
open TokP AdrP

set_option maxHeartbeats 2000000 in
theorem right_str (N L D : ByteArray) (hN : N.size ≤ 300) (hL : L.size ≤ 300) (hD : D.size ≤ 300) (w : World) :
    Calls Tryd.prog 18 #[.agg #[.string N, .string L, .string D]] w fun e w' => e = .returned (.bool (rightB ⟨N.data.toList, L.data.toList, D.data.toList⟩)) ∧ Below w.heap.size w w' := by
  have HB0 := Lib.hid (below_box w (.cells #[.string N, .string L, .string D] 34))
  have c1 := fun W => text_p L 64 64 rfl (by omega) W
  have c2 := fun W => domain_p D (by omega) W
  have c3 := fun W => text_p N 200 200 rfl (by omega) W
  have hr : rightB ⟨N.data.toList, L.data.toList, D.data.toList⟩ = (decide (0 < L.size) && (decide (L.size ≤ 64) && shown L.data.toList) && (decide (D.size ≤ 255) && domB D.data.toList) && (decide (N.size ≤ 200) && shown N.data.toList)) := by
    unfold rightB
    rw [← size_list, ← size_list, ← size_list, Bool.and_assoc (decide (0 < L.size))]
  rw [hr]
  clear hr
  generalize (decide (L.size ≤ 64) && shown L.data.toList) = b1 at c1 ⊢
  generalize (decide (D.size ≤ 255) && domB D.data.toList) = b2 at c2 ⊢
  generalize (decide (N.size ≤ 200) && shown N.data.toList) = b3 at c3 ⊢
  have hbx := bx_new w N L D
  by_cases h0 : 0 < L.size
  · rw [decide_eq_true h0, Bool.true_and]
    have hne : (L.toList != []) = true := by
      rw [ByteArray.toList_eq, bne_iff_ne]
      intro e
      have := size_list L
      rw [e, List.length_nil] at this
      omega
    have hne2 : L.toList.isEmpty = false := by
      rw [← Bool.not_eq_true, List.isEmpty_iff]
      intro e
      rw [e] at hne
      simp at hne
    have k0 := hbx.c0
    have k1 := hbx.c1
    have HX := Lib.hid hbx
    have k2 := hbx.c2
    clear h0 hN hL hD hbx
    cases b1 with
    | false =>
      clear c2 c3
      go_enter Tryd.func18, Tryd.ntmps18
      go_wp2_with (go_at_call 35; (with_reducible refine (c1 _).mono ?_); rintro e w1 ⟨rfl, rfl⟩)
      go_ret
      exact ⟨rfl, HB0.out⟩
    | true =>
      cases b2 with
      | false =>
        clear c3
        go_enter Tryd.func18, Tryd.ntmps18
        go_wp2_with (first
          | (go_at_call 35; (with_reducible refine (c1 _).mono ?_); rintro e w1 ⟨rfl, rfl⟩)
          | (go_at_call 36; (with_reducible refine (c2 _).mono ?_); rintro e w2 ⟨rfl, hb2⟩; have HB2 := Lib.hid (Qtrans HB0.out hb2); clear hb2))
        go_ret
        exact ⟨rfl, HB2.out⟩
      | true =>
        go_enter Tryd.func18, Tryd.ntmps18
        go_wp2_with (first
          | (go_at_call 35; (with_reducible refine (c1 _).mono ?_); rintro e w1 ⟨rfl, rfl⟩; clear c1)
          | (go_at_call 36; (with_reducible refine (c2 _).mono ?_); rintro e w2 ⟨rfl, hb2⟩; have q0 := (HX.out.step hb2).c0; have HB2 := Lib.hid (Qtrans HB0.out hb2); clear hb2)
          | (go_at_call 35; (with_reducible refine (c3 _).mono ?_); rintro e w3 ⟨rfl, rfl⟩))
        go_ret
        exact ⟨rfl, HB2.out⟩
  · rw [decide_eq_false h0, Bool.false_and, Bool.false_and, Bool.false_and]
    obtain rfl : L = ⟨#[]⟩ := bytes_is (by
      have := size_list L
      show _ = ([] : List UInt8)
      exact List.eq_nil_of_length_eq_zero (by omega))
    clear c1 c2 c3 h0 hN hL hD hbx
    go_enter Tryd.func18, Tryd.ntmps18
    go_wp2_with fail
    go_ret
    exact ⟨rfl, HB0.out⟩
theorem right_ok : RightOk := fun a h W => by
  unfold smallA at h
  simp only [Bool.and_eq_true, decide_eq_true_eq] at h
  have := right_str (strL a.name) (strL a.loc) (strL a.dom) (by rw [strL_size]; exact h.1.1) (by rw [strL_size]; exact h.1.2) (by rw [strL_size]; exact h.2) W
  rw [strL_list, strL_list, strL_list] at this
  exact this
end Go.Proofs.YtgponokcigapaaaDoor
namespace Go.Proofs.YtgponokcigapaaaDoor
open Go.ChangeShapes Go.WideShapes Go.ChangeAt Go.RowKit
open TokP AdrP

set_option maxHeartbeats 1000000 in
theorem lower_any (D : ByteArray) (hD : D.size ≤ 100000) (W : World) :
    Calls Tryd.prog 38 #[.string D] W fun e w' => e = .returned (.string (strL (D.data.toList.map lowA))) ∧ Below W.heap.size W w' := by
  have hcv := fun w : World => Lib.run_convert_string_bytes (P := Tryd.prog) w 9 45 5 D Tryd.underlying9 Tryd.underlying45 Tryd.underlying5
  have HLD := Lib.hid (size_list D)
  obtain ⟨ANS, hA⟩ : ∃ z, strL (D.data.toList.map lowA) = z := ⟨_, rfl⟩
  rw [hA]
  have HA := Lib.hid hA
  clear hA
  have hb0 := buf_bytes W D (by unfold maxLen; omega)
  have hbel0 := below_bytes W D
  obtain ⟨CAP, hCAP⟩ : ∃ c, grownCap W D.size 0 5 = c := ⟨_, rfl⟩
  have HB0 := Lib.hid hb0
  have HE0 := Lib.hid hbel0
  clear hb0 hbel0
  go_enter Tryd.func38, Tryd.ntmps38
  go_wp2_with fail
  have hb0 := HB0.out
  have hbel0 := HE0.out
  rw [hCAP] at hb0
  generalize Lib.bytesWorld W 5 D = W1 at hb0 hbel0 ⊢
  obtain ⟨G, hG⟩ : ∃ G, W.heap.size = G := ⟨_, rfl⟩
  rw [hG] at hb0 hbel0 ⊢
  have HGW := Lib.hid hG
  clear hG hcv
  go_loopw [10] (fun i wr => ∃ k : Nat, k ≤ D.size ∧ i = .int .i64 k ∧ Hid (Buf G wr G CAP ((D.data.toList.take k).map lowA ++ D.data.toList.drop k)) ∧ Hid (Below G W wr)) (fun i _ => D.size - (intOf i).toNat)
  case atStart => exact ⟨0, Nat.zero_le _, rfl, hb0, hbel0⟩
  case round =>
    obtain ⟨k, hk, rfl, HBf, HBe⟩ := hrel
    clear hb0 hbel0 HB0 HE0
    have F1 : IntKind.i64.wrap ((k : Int) + 1) = (k : Int) + 1 := by rw [IntKind.wrap_i64]; omega
    by_cases hlt : k < D.size
    · have hlt' : (k : Int) < (D.size : Int) := by omega
      obtain ⟨c, x, hc, hx, hx2, _⟩ := run_byte D k hlt
      have hln : ((D.data.toList.take k).map lowA).length = k := by have hlD := HLD.out; rw [List.length_map, List.length_take]; omega
      have hdr := drop_cons' D.data.toList k c hc
      have hnx := low_next D.data.toList k c hc
      have hbf := HBf.out
      rw [hdr] at hbf
      have ck : wr.cell? ⟨G, k, none⟩ = some (.int .u8 (x : Int)) := by
        have := hbf.holds k (by rw [List.length_append, hln]; simp)
        rw [List.getElem_append_right (by omega)] at this
        simp only [hln, Nat.sub_self, List.getElem_cons_zero, hx] at this
        exact this
      have cf := (hbf.there k (by have := hbf.le; rw [List.length_append, hln, List.length_cons] at this; omega)).2
      by_cases h65 : 65 ≤ x
      · have h65' : (65 : Int) ≤ (x : Int) := by omega
        by_cases h90 : x ≤ 90
        · have h90' : (x : Int) ≤ 90 := by omega
          have Fx : IntKind.u8.wrap ((x : Int) + 97) = (x : Int) + 97 := by rw [IntKind.wrap_u8]; omega
          have Fy : IntKind.u8.wrap ((x : Int) + 97 - 65) = (x : Int) + 32 := by rw [IntKind.wrap_u8]; omega
          have Fz : (x : Int) + 97 - 65 = (x : Int) + 32 := by omega
          have Fw : IntKind.u8.wrap ((x : Int) + 32) = (x : Int) + 32 := by rw [IntKind.wrap_u8]; omega
          have hput := Buf.put (D := (D.data.toList.take k).map lowA) (x := [c]) (R := D.data.toList.drop (k + 1)) hbf [lowA c] rfl
          rw [hln] at hput
          have HP : Hid (Buf G (wr.setCell ⟨G, k, none⟩ (.int .u8 ((x : Int) + 32))) G CAP ((D.data.toList.take (k + 1)).map lowA ++ D.data.toList.drop (k + 1))) := by
            show Buf G _ G CAP _
            rw [hnx, List.append_assoc]
            have e : (Lib.byteCells [lowA c]) = [.int .u8 ((x : Int) + 32)] := by
              simp [Lib.byteCells, low_big c x hx h65 h90]
            rw [e] at hput
            exact hput
          have HP2 : Hid (Below G W (wr.setCell ⟨G, k, none⟩ (.int .u8 ((x : Int) + 32)))) := Below.setCell HBe.out (by show G ≤ G; exact Nat.le_refl _) _
          clear hc hx hx2 hdr hnx hbf hput HBf HBe h65 h90
          go_wp2_with fail
          go_roundw
          case rel => exact ⟨k + 1, by omega, by go_num, HP, HP2⟩
          case measure => simp [intOf]; omega
        · have h90' : ¬ (x : Int) ≤ 90 := by omega
          have HP : Hid (Buf G wr G CAP ((D.data.toList.take (k + 1)).map lowA ++ D.data.toList.drop (k + 1))) := by
            show Buf G _ G CAP _
            rw [hnx, List.append_assoc, low_other c x hx (.inr (by omega))]
            exact hbf
          clear hc hx hx2 hdr hnx hbf HBf h65 h90
          go_wp2_with fail
          go_roundw
          case rel => exact ⟨k + 1, by omega, by go_num, HP, HBe⟩
          case measure => simp [intOf]; omega
      · have h65' : ¬ (65 : Int) ≤ (x : Int) := by omega
        have HP : Hid (Buf G wr G CAP ((D.data.toList.take (k + 1)).map lowA ++ D.data.toList.drop (k + 1))) := by
          show Buf G _ G CAP _
          rw [hnx, List.append_assoc, low_other c x hx (.inl (by omega))]
          exact hbf
        clear hc hx hx2 hdr hnx hbf HBf h65
        go_wp2_with fail
        go_roundw
        case rel => exact ⟨k + 1, by omega, by go_num, HP, HBe⟩
        case measure => simp [intOf]; omega
    · obtain rfl : k = D.size := by omega
      have hlt' : ¬ (D.size : Int) < (D.size : Int) := by omega
      have hbf := HBf.out
      rw [List.take_of_length_le (by rw [← HLD.out]; exact Nat.le_refl _), List.drop_eq_nil_of_le (by rw [← HLD.out]; exact Nat.le_refl _), List.append_nil] at hbf
      have hll : (D.data.toList.map lowA).length = D.size := by rw [List.length_map, HLD.out]
      have hcb : (convert 45 9 (.slice (some ⟨G, 0, none⟩) D.size CAP)).run Tryd.prog wr = .ok (.string (strL (D.data.toList.map lowA))) wr := by
        have := run_convert_bytes_back (P := Tryd.prog) wr 45 9 5 ⟨G, 0, none⟩ CAP (D.data.toList.map lowA) Tryd.underlying45 Tryd.underlying5 Tryd.underlying9 (fun j hj => by
          have h1 := hbf.holds j hj
          have e : (⟨G, 0, none⟩ : Addr).add j = ⟨G, j, none⟩ := by unfold Addr.add; split <;> simp_all
          rw [e]; exact h1)
        rw [hll] at this
        exact this
      have hbe := HBe.out
      rw [HA.out] at hcb
      have HBX := Lib.hid hbe
      clear hbf hbe HBf HBe
      go_wp2_with fail
      go_ret
      exact ⟨rfl, by rw [HGW.out]; exact HBX.out⟩
set_option maxHeartbeats 1000000 in
theorem canon_str (N L D : ByteArray) (hL : L.size ≤ 300) (hD : D.size ≤ 300) (w : World) :
    Calls Tryd.prog 20 #[.agg #[.string N, .string L, .string D]] w fun e w' => e = .returned (.string (strL (L.data.toList ++ 64 :: D.data.toList.map lowA))) ∧ Below w.heap.size w w' := by
  have HB0 := Lib.hid (below_box w (.cells #[.string N, .string L, .string D] 34))
  have cL := fun W => lower_any D (by omega) W
  have hEz : (strL (D.data.toList.map lowA)).size = D.size := by rw [strL_size, List.length_map, ← size_list]
  have zA : (L ++ (⟨#[64]⟩ : ByteArray)).size = L.size + 1 := by rw [ByteArray.size_append]; rfl
  have q1 : ¬ 9223372036854775807 < L.size + 1 := by omega
  have q2 : ¬ 9223372036854775807 < L.size + 1 + (strL (D.data.toList.map lowA)).size := by omega
  have HF : Hid ((L ++ (⟨#[64]⟩ : ByteArray)) ++ strL (D.data.toList.map lowA) = strL (L.data.toList ++ 64 :: D.data.toList.map lowA)) := bytes_is (by rw [list_append, list_append, strL_list, strL_list, List.append_assoc]; rfl)
  generalize strL (L.data.toList ++ 64 :: D.data.toList.map lowA) = ANS at HF ⊢
  generalize strL (D.data.toList.map lowA) = E at cL hEz HF q2
  clear hEz
  go_enter Tryd.func20, Tryd.ntmps20
  go_wp2_with fail
  obtain ⟨k0, k1, k2⟩ := box_adr w N L D
  generalize w.alloc (.cells #[.string N, .string L, .string D] 34) = W at k0 k1 k2 HB0 ⊢
  have hq := keeps W cL
  have HK := Lib.hid (fun Q (h : Hid (Below W.heap.size W Q)) => (⟨h, cell_below k1 h.out, cell_below k2 h.out⟩ : Hid (Below W.heap.size W Q) ∧ Q.cell? ⟨w.heap.size, 1, none⟩ = some (.string L) ∧ Q.cell? ⟨w.heap.size, 2, none⟩ = some (.string D)))
  have hb : Hid (Below W.heap.size W W) := Lib.hid (Below.refl _ _)
  clear cL
  go_region_held3 (fun Q => Hid (Below W.heap.size W Q) ∧ Q.cell? ⟨w.heap.size, 1, none⟩ = some (.string L) ∧ Q.cell? ⟨w.heap.size, 2, none⟩ = some (.string D))
    (first | exact HK.out _ hb | exact HK.out _ (Lib.hid hb.out.drew) | exact HK.out _ (by assumption) | exact HK.out _ (Lib.hid (Below.drew (Lib.Hid.out (by assumption)))))
    (first
      | (go_at_call 38; (with_reducible refine (hq _ (by first | assumption | exact Lib.hid hb.out.drew)).mono ?_); rintro e w3 ⟨rfl, hs3⟩; clear hq; obtain ⟨_, r1, r2⟩ := HK.out _ hs3))
  go_wp2_with fail
  go_ret
  exact ⟨congrArg (fun z => Ending.returned (Value.string z)) HF.out, Qtrans HB0.out hs3.out⟩
theorem canon_ok : CanonOk := fun a h W => by
  unfold smallA at h
  simp only [Bool.and_eq_true, decide_eq_true_eq] at h
  have := canon_str (strL a.name) (strL a.loc) (strL a.dom) (by rw [strL_size]; exact h.1.2) (by rw [strL_size]; exact h.2) W
  rw [strL_list, strL_list] at this
  exact this
end Go.Proofs.YtgponokcigapaaaDoor
namespace Go.Proofs.YtgponokcigapaaaDoor
open Go.ChangeShapes Go.WideShapes Go.ChangeAt Go.RowKit

/-! ### Slices of strings -/
/-- The slice v holds xs, in a block of its own. -/
def Own (w : World) (v : Value) (xs : List (List UInt8)) : Prop := ∃ base, w.ownsRow base 9 1 v xs.length (xs.map strV)
theorem Own.step {w w' : World} {v : Value} {xs : List (List UInt8)} (h : Own w v xs) (hb : Below w.heap.size w w') : Own w' v xs := by
  obtain ⟨b, ho⟩ := h; exact ⟨b, own_below ho hb⟩
theorem Own.has {w : World} {v : Value} {xs : List (List UInt8)} (h : Own w v xs) : Has strV w v xs := by
  obtain ⟨b, ho⟩ := h; exact (Has.of_own ho).1
theorem Own.at {w : World} {a : Option Addr} {n c : Nat} {xs : List (List UInt8)} (h : Own w (.slice a n c) xs) (hn : 0 < n) : ∃ g, a = some ⟨g, 0, none⟩ := by
  obtain ⟨b, ho⟩ := h
  rcases ho.2 with ⟨e, h0⟩ | ⟨g, cap, cur, e, _⟩
  · injection e with _ e2 _; omega
  · injection e with e1 _ _; exact ⟨g, e1⟩
theorem Own.cell {w : World} {g n c : Nat} {xs : List (List UInt8)} (h : Own w (.slice (some ⟨g, 0, none⟩) n c) xs) (j : Nat) (x : List UInt8) (hx : xs[j]? = some x) : w.cell? ⟨g, j, none⟩ = some (.string (strL x)) := by
  obtain ⟨b, ho⟩ := h
  have := ho.cells (g := g) rfl j (strV x) (by rw [List.getElem?_map, hx]; rfl)
  rw [add_none, Nat.zero_add] at this
  exact this
theorem Own.shape {w : World} {v : Value} {xs : List (List UInt8)} (h : Own w v xs) : ∃ a c, v = .slice a xs.length c := by
  obtain ⟨b, ho⟩ := h
  rcases ho.2 with ⟨rfl, h0⟩ | ⟨g, cap, cur, rfl, _⟩
  · exact ⟨none, 0, by rw [h0]⟩
  · exact ⟨_, _, rfl⟩
theorem Own.lt {w : World} {u : Value} {xs : List (List UInt8)} (h : Own w u xs) : ∀ k, u.ownBlock = some k → k < w.heap.size := by
  obtain ⟨b, ho⟩ := h
  intro k hk
  rcases ho.2 with ⟨rfl, _⟩ | ⟨g, cap, cur, rfl, _, hg, _⟩
  · simp [Value.ownBlock] at hk
  · simp [Value.ownBlock] at hk
    subst hk
    exact (Array.getElem?_eq_some_iff.1 hg).1
theorem own_one (w : World) (x : List UInt8) : Own (w.alloc (.cells #[.string (strL x)] 9)) (.slice (some ⟨w.heap.size, 0, none⟩) 1 1) [x] :=
  ⟨w.heap.size, rfl, .inr ⟨w.heap.size, 1, #[.string (strL x)], rfl, Nat.le_refl _, World.alloc_heap_new w _, Nat.le_refl _, by unfold maxLen; omega, rfl, rfl⟩⟩
theorem strs_one (l : List (List UInt8)) : ∀ u ∈ l.map strV, u.oneCell' = true := by
  intro u hu
  obtain ⟨c, _, rfl⟩ := List.mem_map.1 hu
  rfl
theorem run_app {w : World} (base : Nat) {v u : Value} {xs ys : List (List UInt8)} (hown : w.ownsRow base 9 1 v xs.length (xs.map strV)) (hu : Own w u ys) (hb : base ≤ w.heap.size) (hl : xs.length + ys.length ≤ 1000000) :
    ∃ a c w', (Builtin.append_ #[28, 28] 28 #[v, u]).run Tryd.prog w = .ok (.slice a (xs ++ ys).length c) w' ∧ w'.ownsRow base 9 1 (.slice a (xs ++ ys).length c) (xs ++ ys).length ((xs ++ ys).map strV) ∧ w.grownBy w' v.ownBlock := by
  obtain ⟨i0, hi, hz0, hz1, hz2⟩ := info_parts info9
  obtain ⟨b2, ho2⟩ := hu
  have e1 : (xs ++ ys).length = xs.length + ys.length := List.length_append
  have fin : ∀ (v' : Value) (w' : World), w'.ownsRow base 9 1 v' (xs.length + ys.length) ((xs ++ ys).map strV) → ∃ a c, v' = .slice a (xs ++ ys).length c := fun v' w' h => by
    rcases h.2 with ⟨rfl, h0⟩ | ⟨g, cap, cur, rfl, _⟩
    · exact ⟨none, 0, by rw [e1, h0]⟩
    · exact ⟨_, _, by rw [e1]⟩
  rcases ho2.2 with ⟨rfl, h0⟩ | ⟨g, cap, cur, rfl, _, hg, hrest⟩
  · obtain rfl : ys = [] := List.eq_nil_of_length_eq_zero h0
    have hr := run_append_owned_none (P := Tryd.prog) (w := w) base 28 28 9 i0 1 Tryd.underlying28 hi v _ _ hown
    rw [List.append_nil]
    obtain ⟨a, c, rfl⟩ : ∃ a c, v = .slice a xs.length c := by
      rcases hown.2 with ⟨rfl, h1⟩ | ⟨g, cap, cur, rfl, _⟩
      · exact ⟨none, 0, by rw [h1]⟩
      · exact ⟨_, _, rfl⟩
    exact ⟨a, c, w, hr, hown, World.grownBy.refl _ _⟩
  · obtain ⟨v', w', hr, h1, h2, _⟩ := run_append_own (P := Tryd.prog) w base 28 28 9 i0 (.string ⟨#[]⟩) 1 16 Tryd.underlying28 hi hz0 hz1 hz2 rfl (by decide) v xs.length _ hown ⟨g, 0, none⟩ ys.length cap (ys.map strV) (by rw [List.length_map, Nat.mul_one]) (fun j x hj => ho2.cells (g := g) rfl j x hj) (strs_one _) (by unfold maxLen; omega) (by omega) hb
    rw [← List.map_append] at h1
    obtain ⟨a, c, rfl⟩ := fin v' w' h1
    rw [e1] at hr h1 ⊢
    exact ⟨a, c, w', hr, h1, h2⟩
theorem wpList_app {ops : Array Oper} {rest : List Oper} {o : Oper} {a : Act} {w : World} {Q : Exit → Act → World → Prop} (hw : Region.wanted o (yielded ops a.tmps) = true) (s x : Operand)
    (ho : o.op = .call { callee := .builtin .append, args := #[s, x], argTypes := #[28, 28] }) (hty : o.type = 28) (base : Nat) {v u : Value} {xs ys : List (List UInt8)} (hs : a.eval s = v) (hx : a.eval x = u)
    (hown : w.ownsRow base 9 1 v xs.length (xs.map strV)) (hu : Own w u ys) (hb : base ≤ w.heap.size) (hl : xs.length + ys.length ≤ 1000000)
    (h : ∀ a' c' w', w'.ownsRow base 9 1 (.slice a' (xs ++ ys).length c') (xs ++ ys).length ((xs ++ ys).map strV) → w.grownBy w' v.ownBlock → wpList Tryd.prog ops Q rest (a.put o.dst (.slice a' (xs ++ ys).length c')) w') :
    wpList Tryd.prog ops Q (o :: rest) a w := by
  obtain ⟨a', c', w', hr, h1, h2⟩ := run_app base hown hu hb hl
  unfold wpList
  rw [if_pos hw]
  left
  unfold Oper.wp
  simp [execOp, ho, hty, resolve, invoke, builtin, hs, hx, hr, Result.andThen]
  have h3 := h a' c' w' h1 h2
  rw [List.length_append] at h3
  exact h3
/-- A new string is appended. -/
theorem wpList_app1 {ops : Array Oper} {rest : List Oper} {o : Oper} {a : Act} {w : World} {Q : Exit → Act → World → Prop} (hw : Region.wanted o (yielded ops a.tmps) = true) (s x : Operand)
    (ho : o.op = .call { callee := .builtin .append, args := #[s, x], argTypes := #[28, 28] }) (hty : o.type = 28) (base : Nat) {v : Value} {xs : List (List UInt8)} {n : Nat} (y : List UInt8) (hs : a.eval s = v) (hx : a.eval x = .slice (some ⟨w.heap.size, 0, none⟩) 1 1)
    (hown : w.ownsRow base 9 1 v xs.length (xs.map strV)) (hn : xs.length = n) (hb : base ≤ w.heap.size) (hl : n + 1 ≤ 1000000)
    (h : ∀ a' c' w', w'.ownsRow base 9 1 (.slice a' (n + 1) c') (xs ++ [y]).length ((xs ++ [y]).map strV) → (w.alloc (.cells #[.string (strL y)] 9)).grownBy w' v.ownBlock → wpList Tryd.prog ops Q rest (a.put o.dst (.slice a' (n + 1) c')) w') :
    wpList Tryd.prog ops Q (o :: rest) a (w.alloc (.cells #[.string (strL y)] 9)) := by
  subst hn
  refine wpList_app hw s x ho hty base hs hx (World.ownsRow.alloc hown _) (own_one w y) (by rw [World.size_alloc]; omega) (by simp; omega) ?_
  intro a' c' w' h1 h2
  rw [List.length_append] at h1 ⊢
  exact h a' c' w' (by rw [List.length_append]; exact h1) h2
theorem strV_ne {a b : List UInt8} : ((⟨a.toArray⟩ : ByteArray).toList != (⟨b.toArray⟩ : ByteArray).toList) = decide (a ≠ b) := by
  rw [ByteArray.toList_eq, ByteArray.toList_eq]
  show (a != b) = _
  rw [Bool.eq_iff_iff]; simp
theorem grown_drewN {w w1 : World} {row : Option Nat} (h : w.grownBy w1 row) (n : Nat) : w.grownBy (w1.drewN n) row := ⟨h.os, h.tape, h.output, h.size, h.block⟩

set_option maxRecDepth 100000 in
theorem sameT_any {v u : Value} {xs ys : List (List UInt8)} {w : World} (h : Has strV w v xs) (k : Has strV w u ys) (hx : xs.length ≤ 140737488355328) :
    Calls Tryd.prog 14 #[v, u] w fun e w' => e = .returned (.bool (decide (xs = ys))) ∧ w.grownBy w' none := by
  by_cases hl : xs.length = ys.length
  · rcases h with ⟨rfl, rfl⟩ | ⟨a, c, rfl, h2⟩
    · obtain rfl : ys = [] := List.eq_nil_of_length_eq_zero hl.symm
      rcases k with ⟨rfl, _⟩ | ⟨a', c', rfl, k2⟩
      all_goals
        go_enter Tryd.func14, Tryd.ntmps14
        go_wp2_with fail
        go_loop [5] (fun i => i = .int .i64 0) (fun _ => 0)
        case atStart => rfl
        case round =>
          subst hrel
          go_wp2_with fail
          go_ret
          exact ⟨rfl, World.grownBy.refl _ _⟩
    · rcases k with ⟨rfl, rfl⟩ | ⟨a', c', rfl, k2⟩
      · obtain rfl : xs = [] := List.eq_nil_of_length_eq_zero hl
        clear h2
        go_enter Tryd.func14, Tryd.ntmps14
        go_wp2_with fail
        go_loop [5] (fun i => i = .int .i64 0) (fun _ => 0)
        case atStart => rfl
        case round =>
          subst hrel
          go_wp2_with fail
          go_ret
          exact ⟨rfl, World.grownBy.refl _ _⟩
      · obtain ⟨n, hn⟩ : ∃ n, xs.length = n := ⟨_, rfl⟩
        have hyn : ys.length = n := by omega
        rw [hn, hyn]
        rw [hn] at hx
        have H2 := Lib.hid h2
        have K2 := Lib.hid k2
        have HN := Lib.hid hn
        have HY := Lib.hid hyn
        clear h2 k2 hn hyn hl
        go_enter Tryd.func14, Tryd.ntmps14
        go_wp2_with fail
        go_loopw [5] (fun i wr => ∃ j : Nat, j ≤ n ∧ i = .int .i64 j ∧ Hid (w.grownBy wr none) ∧ Hid (∀ i (h : i < j) (h1 : i < xs.length) (h2 : i < ys.length), xs[i] = ys[i])) (fun i _ => n - (intOf i).toNat)
        case atStart => exact ⟨0, Nat.zero_le _, rfl, World.grownBy.refl _ _, by intro i h; omega⟩
        case round =>
          obtain ⟨j, hj, rfl, hgr, heq⟩ := hrel
          by_cases hlt : j < n
          · have hjx : j < xs.length := by have := HN.out; omega
            have hjy : j < ys.length := by have := HY.out; omega
            have c1 := hgr.out.cell (H2.out j hjx) (fun h => by cases h)
            have c2 := hgr.out.cell (K2.out j hjy) (fun h => by cases h)
            obtain ⟨p, hp⟩ : ∃ p : ByteArray, strV xs[j] = Value.string p := ⟨(⟨xs[j].toArray⟩ : ByteArray), rfl⟩
            obtain ⟨q, hq⟩ : ∃ q : ByteArray, strV ys[j] = Value.string q := ⟨(⟨ys[j].toArray⟩ : ByteArray), rfl⟩
            rw [hp] at c1
            rw [hq] at c2
            by_cases he : xs[j] = ys[j]
            · have hpq : p = q := by
                rw [he, hq] at hp
                injection hp with hp
                exact hp.symm
              have HE : Hid (∀ i (h : i < j + 1) (h1 : i < xs.length) (h2 : i < ys.length), xs[i] = ys[i]) := by
                intro i h h1 h2
                rcases (show i < j ∨ i = j by omega) with h' | rfl
                · exact heq.out i h' h1 h2
                · exact he
              clear hp hq he
              subst hpq
              go_wp2_with fail
              go_quiet (fail)
              go_wp2_with fail
              go_roundw
              case rel => exact ⟨j + 1, by omega, by go_num, grown_drewN hgr.out _, HE.out⟩
              case measure => simp [intOf]; omega
            · have hpq : (p.toList == q.toList) = false := by
                rw [beq_eq_false_iff_ne]
                intro e
                apply he
                rw [ByteArray.toList_eq, ByteArray.toList_eq] at e
                injection hp with hp
                injection hq with hq
                rw [← hp, ← hq] at e
                exact e
              have HE : Hid (decide (xs = ys) = false) := by
                show _ = _
                rw [decide_eq_false_iff_not]
                rintro rfl
                exact he rfl
              clear hp hq he
              have hpq' : (p.toList != q.toList) = true := by rw [bne, hpq]; rfl
              go_wp2_with fail
              go_quiet (fail)
              go_wp2_with fail
              go_ret
              rw [HE.out]
              exact ⟨rfl, grown_drewN hgr.out _⟩
          · obtain rfl : j = n := by omega
            have HE : Hid (decide (xs = ys) = true) := by
              show _ = _
              rw [decide_eq_true_iff]
              have h1 := HN.out
              have h2 := HY.out
              exact List.ext_getElem (by omega) fun i hi1 hi2 => heq.out i (by omega) hi1 hi2
            go_wp2_with fail
            go_ret
            rw [HE.out]
            exact ⟨rfl, hgr.out⟩
  · have HE : Hid (decide (xs = ys) = false) := by
      show _ = _
      rw [decide_eq_false_iff_not]
      rintro rfl
      exact hl rfl
    obtain ⟨n, hn⟩ : ∃ n, xs.length = n := ⟨_, rfl⟩
    obtain ⟨m, hm⟩ : ∃ m, ys.length = m := ⟨_, rfl⟩
    have hnm : ((n : Int) == (m : Int)) = false := beq_eq_false_iff_ne.2 (by omega)
    have hnm' : ((n : Int) != (m : Int)) = true := by rw [bne, hnm]; rfl
    have hv : ∃ a c, v = .slice a n c := by
      rcases h with ⟨rfl, rfl⟩ | ⟨a, c, rfl, _⟩
      · exact ⟨none, 0, by rw [← hn]; rfl⟩
      · exact ⟨some a, c, by rw [hn]⟩
    have hu : ∃ a c, u = .slice a m c := by
      rcases k with ⟨rfl, rfl⟩ | ⟨a, c, rfl, _⟩
      · exact ⟨none, 0, by rw [← hm]; rfl⟩
      · exact ⟨some a, c, by rw [hm]⟩
    obtain ⟨a, c, rfl⟩ := hv
    obtain ⟨a', c', rfl⟩ := hu
    clear h k hl hn hm
    go_enter Tryd.func14, Tryd.ntmps14
    go_wp2_with fail
    go_ret
    rw [HE.out]
    exact ⟨rfl, World.grownBy.refl _ _⟩

theorem same_any {v u : Value} {xs ys : List (List UInt8)} {w : World} (h : Has strV w v xs) (k : Has strV w u ys) (hx : xs.length ≤ 1000000) :
    Calls Tryd.prog 14 #[v, u] w fun e w' => e = .returned (.bool (decide (xs = ys))) ∧ Below w.heap.size w w' :=
  (sameT_any h k (by omega)).mono fun _ _ hh => ⟨hh.1, (Below.refl _ _).grown hh.2 (Nat.le_refl _) (fun k e => by cases e)⟩
end Go.Proofs.YtgponokcigapaaaDoor
namespace Go.Proofs.YtgponokcigapaaaDoor
open Go.ChangeShapes Go.WideShapes Go.ChangeAt Go.RowKit
open TokP AdrP

/-- What the offset of an id that has begun says. -/
def fromV (l : List UInt8) (k : Nat) (v : Value) (o : Option (List UInt8)) : Prop := (v = .int .i64 (-1) ∧ o = none) ∨ ∃ j : Nat, j ≤ k ∧ v = .int .i64 j ∧ o = some ((l.drop j).take (k - j))
theorem from_more {l : List UInt8} {k j : Nat} {c : UInt8} (hc : l[k]? = some c) (hj : j ≤ k) : (l.drop j).take (k - j) ++ [c] = (l.drop j).take (k + 1 - j) := by
  rw [show k + 1 - j = (k - j) + 1 by omega, List.take_add_one, List.getElem?_drop, show j + (k - j) = k by omega, hc]
  rfl
theorem from_len {l : List UInt8} {k j : Nat} (hk : k ≤ l.length) (hj : j ≤ k) : ((l.drop j).take (k - j)).length = k - j := by
  rw [List.length_take, List.length_drop]; omega
theorem ids_open (l : List UInt8) (k : Nat) (o : Option (List UInt8)) (h : l[k]? = some 60) : idsF o (l.drop k) = idsF (some []) (l.drop (k + 1)) := by
  rw [cons_at l k 60 h]
  cases o with
  | none => rw [idsF, if_pos rfl]
  | some x => rw [idsF, if_pos rfl]
theorem ids_none (l : List UInt8) (k : Nat) (c : UInt8) (h : l[k]? = some c) (h60 : c ≠ 60) : idsF none (l.drop k) = idsF none (l.drop (k + 1)) := by
  rw [cons_at l k c h, idsF, if_neg h60]
theorem ids_shut (l : List UInt8) (k : Nat) (x : List UInt8) (h : l[k]? = some 62) : idsF (some x) (l.drop k) = (if 0 < x.length ∧ x.length ≤ 250 then [x] else []) ++ idsF none (l.drop (k + 1)) := by
  rw [cons_at l k 62 h, idsF, if_neg (by decide), if_pos rfl]
  split <;> rfl
theorem ids_bad (l : List UInt8) (k : Nat) (x : List UInt8) (c : UInt8) (h : l[k]? = some c) (h60 : c ≠ 60) (h62 : c ≠ 62) (hb : c.toNat ≤ 32 ∨ c = 127) : idsF (some x) (l.drop k) = idsF none (l.drop (k + 1)) := by
  rw [cons_at l k c h, idsF, if_neg h60, if_neg h62, if_pos hb]
theorem ids_go (l : List UInt8) (k : Nat) (x : List UInt8) (c : UInt8) (h : l[k]? = some c) (h60 : c ≠ 60) (h62 : c ≠ 62) (hb : ¬ (c.toNat ≤ 32 ∨ c = 127)) : idsF (some x) (l.drop k) = idsF (some (x ++ [c])) (l.drop (k + 1)) := by
  rw [cons_at l k c h, idsF, if_neg h60, if_neg h62, if_neg hb]
set_option maxRecDepth 100000 in
set_option maxHeartbeats 2000000 in
theorem rids_any (s : ByteArray) (hs : s.size ≤ 900000) (w : World) :
    Calls Tryd.prog 16 #[.string s] w fun e w' => ∃ a c, e = .returned (.slice a (idsL s.data.toList).length c) ∧ Own w' (.slice a (idsL s.data.toList).length c) (idsL s.data.toList) ∧ Below w.heap.size w w' := by
  obtain ⟨R, hR⟩ : ∃ R, idsL s.data.toList = R := ⟨_, rfl⟩
  have HR := Lib.hid hR
  rw [hR]
  obtain ⟨n, hn⟩ : ∃ n, s.size = n := ⟨_, rfl⟩
  have HL := Lib.hid (size_list s)
  rw [hn] at hs
  have HN := Lib.hid hn
  clear hR hn
  go_enter Tryd.func16, Tryd.ntmps16
  go_wp2_with fail
  go_loopw [3, 4, 5] (fun r f i wr => ∃ (k m : Nat) (A : List (List UInt8)) (o : Option (List UInt8)), k ≤ n ∧ m ≤ k ∧ i = .int .i64 k ∧ (∃ a c, r = .slice a m c) ∧ fromV s.data.toList k f o ∧ Hid (A.length = m) ∧ Hid (A ++ idsF o (s.data.toList.drop k) = R) ∧ Hid (wr.ownsRow w.heap.size 9 1 r A.length (A.map strV)) ∧ Hid (Below w.heap.size w wr)) (fun _ _ i _ => n - (intOf i).toNat)
  case atStart => exact ⟨0, 0, [], none, Nat.zero_le _, Nat.le_refl _, rfl, ⟨none, 0, rfl⟩, .inl ⟨rfl, rfl⟩, rfl, HR, ⟨rfl, .inl ⟨rfl, rfl⟩⟩, Below.refl _ _⟩
  case round =>
    obtain ⟨k, m, A, o, hk, hmk, rfl, ⟨a, c0, rfl⟩, hfv, hm, HE, ho, hb⟩ := hrel
    have F1 : IntKind.i64.wrap ((k : Int) + 1) = (k : Int) + 1 := by rw [IntKind.wrap_i64]; omega
    have hn : s.size = n := HN.out
    by_cases hlt : k < n
    · have hlt' : (k : Int) < (n : Int) := by omega
      obtain ⟨c, x, hc, hx, hx2, S1⟩ := run_byte s k (by rw [hn]; exact hlt)
      have e62 := byte_is c x hx 62 (by decide)
      have e60 := byte_is c x hx 60 (by decide)
      have e127 := byte_is c x hx 127 (by decide)
      rw [show ((62 : Nat) : Int) = 62 from rfl] at e62
      rw [show ((60 : Nat) : Int) = 60 from rfl] at e60
      rw [show ((127 : Nat) : Int) = 127 from rfl] at e127
      have hkl : k ≤ s.data.toList.length := by rw [← HL.out, hn]; omega
      by_cases h60 : c = 60
      · rw [show decide (c = UInt8.ofNat 60) = true from decide_eq_true h60] at e60
        rw [show decide (c = UInt8.ofNat 62) = false from decide_eq_false (fun e => absurd (h60.symm.trans e) (by decide))] at e62
        rw [h60] at hc
        have HE2 := Lib.hid (show A ++ idsF (some []) (s.data.toList.drop (k + 1)) = R by rw [← ids_open _ k o hc]; exact HE.out)
        clear h60 hc hx hx2 HE e127 hkl
        obtain ⟨rfl, rfl⟩ | ⟨j, hj, rfl, rfl⟩ := hfv
        · go_wp2_with fail
          go_roundw
          case rel => exact ⟨k + 1, m, A, some [], by omega, by omega, by go_num, ⟨a, c0, rfl⟩, .inr ⟨k + 1, Nat.le_refl _, by go_num, by rw [Nat.sub_self]; rfl⟩, hm, HE2, ho, hb⟩
          case measure => simp [intOf]; omega
        · go_wp2_with fail
          go_roundw
          case rel => exact ⟨k + 1, m, A, some [], by omega, by omega, by go_num, ⟨a, c0, rfl⟩, .inr ⟨k + 1, Nat.le_refl _, by go_num, by rw [Nat.sub_self]; rfl⟩, hm, HE2, ho, hb⟩
          case measure => simp [intOf]; omega
      · rw [show decide (c = UInt8.ofNat 60) = false from decide_eq_false h60] at e60
        by_cases h62 : c = 62
        · rw [show decide (c = UInt8.ofNat 62) = true from decide_eq_true h62] at e62
          rw [show decide (c = UInt8.ofNat 127) = false from decide_eq_false (fun e => absurd (h62.symm.trans e) (by decide))] at e127
          have x33 : ¬ (x : Int) ≤ 32 := by rw [← hx, h62]; decide
          rw [h62] at hc
          obtain ⟨rfl, rfl⟩ | ⟨j, hj, rfl, rfl⟩ := hfv
          · have HE2 := Lib.hid (show A ++ idsF none (s.data.toList.drop (k + 1)) = R by rw [← ids_none _ k 62 hc (by decide)]; exact HE.out)
            clear h60 h62 hc hx hx2 HE hkl
            go_wp2_with fail
            go_roundw
            case rel => exact ⟨k + 1, m, A, none, by omega, by omega, by go_num, ⟨a, c0, rfl⟩, .inl ⟨rfl, rfl⟩, hm, HE2, ho, hb⟩
            case measure => simp [intOf]; omega
          · have hlen := from_len hkl hj
            have hsh := ids_shut s.data.toList k ((s.data.toList.drop j).take (k - j)) hc
            rw [hlen] at hsh
            have j0 : (0 : Int) ≤ (j : Int) := by omega
            have F2 : IntKind.i64.wrap ((k : Int) - (j : Int)) = (k : Int) - (j : Int) := by rw [IntKind.wrap_i64]; omega
            by_cases hjk : j < k
            · have jk' : (j : Int) < (k : Int) := by omega
              by_cases h250 : k - j ≤ 250
              · have h250' : (k : Int) - (j : Int) ≤ 250 := by omega
                rw [if_pos ⟨by omega, h250⟩] at hsh
                have R1 := run_slice_str s j k (k : Int) rfl hj (by rw [hn]; omega)
                rw [part_of s j k hj (by rw [hn]; omega)] at R1
                have HE2 := Lib.hid (show (A ++ [(s.data.toList.drop j).take (k - j)]) ++ idsF none (s.data.toList.drop (k + 1)) = R by rw [← HE.out, hsh, List.append_assoc])
                generalize (s.data.toList.drop j).take (k - j) = y at R1 HE2
                clear h60 h62 hc hx hx2 HE hkl hlen hsh h250
                go_wp2_with (at_builtin; refine wpList_app1 (by rfl) (.tmp 31) (.tmp 36) rfl rfl w.heap.size y rfl rfl ho.out hm.out hb.out.size (by omega) ?_; intro a2 c2 w2 h2 g2; replace h2 := Lib.hid h2; replace g2 := Lib.hid g2)
                go_roundw
                case rel => exact ⟨k + 1, m + 1, A ++ [y], none, by omega, by omega, by go_num, ⟨a2, c2, rfl⟩, .inl ⟨rfl, rfl⟩, Lib.hid (by rw [List.length_append, hm.out]; rfl), HE2, h2, (hb.out.alloc hb.out.size _).grown g2.out (by have := hb.out.size; rw [World.size_alloc]; omega) (fun k e => (ho.out.lt k e).1)⟩
                case measure => simp [intOf]; omega
              · have h250' : ¬ (k : Int) - (j : Int) ≤ 250 := by omega
                rw [if_neg (fun e => h250 e.2), List.nil_append] at hsh
                have HE2 := Lib.hid (show A ++ idsF none (s.data.toList.drop (k + 1)) = R by rw [← hsh]; exact HE.out)
                clear h60 h62 hc hx hx2 HE hkl hlen hsh h250
                go_wp2_with fail
                go_roundw
                case rel => exact ⟨k + 1, m, A, none, by omega, by omega, by go_num, ⟨a, c0, rfl⟩, .inl ⟨rfl, rfl⟩, hm, HE2, ho, hb⟩
                case measure => simp [intOf]; omega
            · have jk' : ¬ (j : Int) < (k : Int) := by omega
              rw [if_neg (fun e => by have := e.1; omega), List.nil_append] at hsh
              have HE2 := Lib.hid (show A ++ idsF none (s.data.toList.drop (k + 1)) = R by rw [← hsh]; exact HE.out)
              clear h60 h62 hc hx hx2 HE hkl hlen hsh
              go_wp2_with fail
              go_roundw
              case rel => exact ⟨k + 1, m, A, none, by omega, by omega, by go_num, ⟨a, c0, rfl⟩, .inl ⟨rfl, rfl⟩, hm, HE2, ho, hb⟩
              case measure => simp [intOf]; omega
        · rw [show decide (c = UInt8.ofNat 62) = false from decide_eq_false h62] at e62
          by_cases hbad : c.toNat ≤ 32 ∨ c = 127
          · have HE2 := Lib.hid (show A ++ idsF none (s.data.toList.drop (k + 1)) = R by
              rw [← HE.out]
              obtain ⟨_, rfl⟩ | ⟨j, hj, _, rfl⟩ := hfv
              · rw [ids_none _ k c hc h60]
              · rw [ids_bad _ k _ c hc h60 h62 hbad])
            have hv : ∃ z : Int, u4 = .int .i64 z := by
              obtain ⟨rfl, _⟩ | ⟨j, _, rfl, _⟩ := hfv
              · exact ⟨_, rfl⟩
              · exact ⟨_, rfl⟩
            clear hfv
            obtain ⟨z, rfl⟩ := hv
            by_cases hx32 : x ≤ 32
            · have hx32' : (x : Int) ≤ 32 := by omega
              clear h60 h62 hc hx hx2 HE hkl hbad e127
              go_wp2_with fail
              go_roundw
              case rel => exact ⟨k + 1, m, A, none, by omega, by omega, by go_num, ⟨a, c0, rfl⟩, .inl ⟨rfl, rfl⟩, hm, HE2, ho, hb⟩
              case measure => simp [intOf]; omega
            · have hx32' : ¬ (x : Int) ≤ 32 := by omega
              have h127 : c = 127 := hbad.elim (fun e => absurd (hx ▸ e) hx32) id
              rw [show decide (c = UInt8.ofNat 127) = true from decide_eq_true h127] at e127
              clear h60 h62 hc hx hx2 HE hkl hbad h127 hx32
              go_wp2_with fail
              go_roundw
              case rel => exact ⟨k + 1, m, A, none, by omega, by omega, by go_num, ⟨a, c0, rfl⟩, .inl ⟨rfl, rfl⟩, hm, HE2, ho, hb⟩
              case measure => simp [intOf]; omega
          · have hx32' : ¬ (x : Int) ≤ 32 := fun e => hbad (.inl (by omega))
            have h127 : c ≠ 127 := fun e => hbad (.inr e)
            rw [show decide (c = UInt8.ofNat 127) = false from decide_eq_false h127] at e127
            obtain ⟨rfl, rfl⟩ | ⟨j, hj, rfl, rfl⟩ := hfv
            · have HE2 := Lib.hid (show A ++ idsF none (s.data.toList.drop (k + 1)) = R by rw [← ids_none _ k c hc h60]; exact HE.out)
              clear h60 h62 hc hx hx2 HE hkl hbad h127
              go_wp2_with fail
              go_roundw
              case rel => exact ⟨k + 1, m, A, none, by omega, by omega, by go_num, ⟨a, c0, rfl⟩, .inl ⟨rfl, rfl⟩, hm, HE2, ho, hb⟩
              case measure => simp [intOf]; omega
            · have HE2 := Lib.hid (show A ++ idsF (some ((s.data.toList.drop j).take (k + 1 - j))) (s.data.toList.drop (k + 1)) = R by rw [← from_more hc hj, ← ids_go _ k _ c hc h60 h62 hbad]; exact HE.out)
              clear h60 h62 hc hx hx2 HE hkl hbad h127
              go_wp2_with fail
              go_roundw
              case rel => exact ⟨k + 1, m, A, _, by omega, by omega, by go_num, ⟨a, c0, rfl⟩, .inr ⟨j, by omega, rfl, rfl⟩, hm, HE2, ho, hb⟩
              case measure => simp [intOf]; omega
    · obtain rfl : k = n := by omega
      have hlt' : ¬ (k : Int) < (k : Int) := by omega
      have he : A = R := by
        have h := HE.out
        rw [List.drop_eq_nil_of_le (by rw [← HL.out, hn]; exact Nat.le_refl _)] at h
        have : idsF o [] = [] := by cases o <;> rfl
        rw [this, List.append_nil] at h
        exact h
      subst he
      have hv : ∃ z : Int, u4 = .int .i64 z := by
        obtain ⟨rfl, _⟩ | ⟨j, _, rfl, _⟩ := hfv
        · exact ⟨_, rfl⟩
        · exact ⟨_, rfl⟩
      clear hfv
      obtain ⟨z, rfl⟩ := hv
      clear HE
      go_wp2_with fail
      go_ret
      have e := hm.out
      subst e
      exact ⟨a, c0, rfl, ⟨_, ho.out⟩, hb.out⟩
end Go.Proofs.YtgponokcigapaaaDoor
namespace Go.Proofs.YtgponokcigapaaaDoor
open Go.ChangeShapes Go.WideShapes Go.ChangeAt Go.RowKit
open TokP AdrP

theorem idsF_len : ∀ (s : List UInt8) (o : Option (List UInt8)), (idsF o s).length ≤ s.length
  | [], o => by cases o <;> exact Nat.le_refl _
  | c :: t, o => by
    have ih := fun o => idsF_len t o
    cases o with
    | none =>
      rw [idsF, List.length_cons]
      split
      · have := ih (some []); omega
      · have := ih none; omega
    | some x =>
      rw [idsF, List.length_cons]
      split
      · have := ih (some []); omega
      · split
        · split
          · rw [List.length_cons]; have := ih none; omega
          · have := ih none; omega
        · split
          · have := ih none; omega
          · have := ih (some (x ++ [c])); omega
/-- What the laws ask of addr.Ids and of the reference's Parse. -/
def IdsOk : Prop := ∀ (S : ByteArray) (_ : S.size ≤ 100000) (W : World), Calls Tryd.prog 15 #[.string S] W fun e w' => ∃ a c, e = .returned (.slice a (idsL S.data.toList).length c) ∧ Own w' (.slice a (idsL S.data.toList).length c) (idsL S.data.toList) ∧ Below W.heap.size W w'
def RParseOk : Prop := ∀ (S : ByteArray) (_ : S.size ≤ 100000) (W : World), Calls Tryd.prog 12 #[.string S] W fun e w' => ∃ a c, e = .returned (.tuple #[.slice a (parseA S.data.toList).1.length c, .bool (parseA S.data.toList).2]) ∧ OwnA w' (.slice a (parseA S.data.toList).1.length c) (parseA S.data.toList).1 ∧ Below W.heap.size W w'
theorem rids_rd (s : ByteArray) (hs : s.size ≤ 900000) (w : World) :
    Calls Tryd.prog 16 #[.string s] w fun e w' => ∃ a c, e = .returned (.slice a (idsL s.data.toList).length c) ∧ Own w' (.slice a (idsL s.data.toList).length c) (idsL s.data.toList) ∧ Below w.heap.size w w' := rids_any s hs w
set_option maxRecDepth 1000000 in
set_option maxHeartbeats 1000000 in
theorem tells_any (cSm : SmallOk) (cPa : ParseOk) (cRP : RParseOk) (cId : IdsOk) (s : ByteArray) (w : World) :
    Calls Tryd.prog 3 #[.string s] w fun e w' => e = .returned (.bool true) ∧ Below w.heap.size w w' := by
  have cS := cSm w
  clear cSm
  by_cases hf : s.size ≤ 1000
  · have hf' : ¬ (1000 : Int) < (s.size : Int) := by omega
    have c1 := fun W => cPa s (by omega) W
    have c2 := fun W => cRP s (by omega) W
    have c3 := fun W => cId s (by omega) W
    have c4 := fun W => rids_rd s (by omega) W
    have hl1 := parse_len s.data.toList
    have hl2 : (idsL s.data.toList).length ≤ s.data.toList.length := idsF_len _ _
    rw [← size_list] at hl1 hl2
    generalize parseA s.data.toList = P at c1 c2 hl1
    generalize idsL s.data.toList = m at c3 c4 hl2
    obtain ⟨l, b⟩ := P
    dsimp only at c1 c2 hl1
    have cX := fun W v u (h : Hid (OwnA W v l)) (k' : Hid (OwnA W u l)) => sameA_any h.out.has k'.out.has (by omega : l.length ≤ 1000000)
    rw [show decide (l = l) = true from decide_eq_true rfl] at cX
    have cY := fun W v u (h : Hid (Own W v m)) (k' : Hid (Own W u m)) => same_any h.out.has k'.out.has (by omega : m.length ≤ 1000000)
    rw [show decide (m = m) = true from decide_eq_true rfl] at cY
    obtain ⟨n, hn⟩ : ∃ n, l.length = n := ⟨_, rfl⟩
    obtain ⟨k, hk⟩ : ∃ k, m.length = k := ⟨_, rfl⟩
    rw [hn] at c1 c2
    rw [hk] at c3 c4
    have hbb : (b == b) = true := by simp
    clear cPa cRP cId hf hl1 hl2 hn hk
    go_enter Tryd.func3, Tryd.ntmps3
    go_wp2_with (first
      | (go_at_call 10; (with_reducible refine cS.mono ?_); rintro e w1 ⟨rfl, hb1⟩; clear cS; have HB := Lib.hid hb1; clear hb1)
      | (go_at_call 11; (with_reducible refine (c1 _).mono ?_); rintro e w3 ⟨a1, d1, rfl, ho, hb⟩; clear c1; have HL := Lib.hid ho; replace HB := Lib.hid (Qtrans HB.out hb); clear ho hb)
      | (go_at_call 12; (with_reducible refine (c2 _).mono ?_); rintro e w4 ⟨a2, d2, rfl, ho, hb⟩; clear c2; replace HL := Lib.hid (HL.out.step hb); have HM := Lib.hid ho; replace HB := Lib.hid (Qtrans HB.out hb); clear ho hb)
      | (go_at_call 13; (refine (cX _ _ _ HL HM).mono ?_); rintro e w5 ⟨rfl, hb⟩; replace HB := Lib.hid (Qtrans HB.out hb); clear cX HL HM hb)
      | (go_at_call 15; (with_reducible refine (c3 _).mono ?_); rintro e w6 ⟨a3, d3, rfl, ho, hb⟩; clear c3; have HI := Lib.hid ho; replace HB := Lib.hid (Qtrans HB.out hb); clear ho hb)
      | (go_at_call 16; (with_reducible refine (c4 _).mono ?_); rintro e w7 ⟨a4, d4, rfl, ho, hb⟩; clear c4; replace HI := Lib.hid (HI.out.step hb); have HJ := Lib.hid ho; replace HB := Lib.hid (Qtrans HB.out hb); clear ho hb)
      | (go_at_call 14; (refine (cY _ _ _ HI HJ).mono ?_); rintro e w8 ⟨rfl, hb⟩; replace HB := Lib.hid (Qtrans HB.out hb); clear cY HI HJ hb))
    go_ret
    exact ⟨rfl, HB.out⟩
  · have hf' : (1000 : Int) < (s.size : Int) := by omega
    clear cPa cRP cId hf
    go_enter Tryd.func3, Tryd.ntmps3
    go_wp2_with (go_at_call 10; (with_reducible refine cS.mono ?_); rintro e w1 ⟨rfl, hb1⟩)
    go_ret
    exact ⟨rfl, hb1⟩
end Go.Proofs.YtgponokcigapaaaDoor
namespace Go.Proofs.YtgponokcigapaaaDoor
open Go.ChangeShapes Go.WideShapes Go.ChangeAt Go.RowKit
open TokP AdrP

def strOf : Value → ByteArray
  | .string s => s
  | _ => ⟨#[]⟩
theorem below_rowS (w w' : World) (base : Nat) {v : Value} {n : Nat} {xs : List Value} (hown : w.ownsRow base 9 1 v n xs) (hg : w.grownBy w' v.ownBlock) (hb : base ≤ w.heap.size) : Below base w w' :=
  (Below.refl _ _).grown hg hb (fun k e => (hown.lt k e).1)
set_option maxRecDepth 100000 in
set_option maxHeartbeats 4000000 in
theorem ids_p (S : ByteArray) (hS : S.size ≤ 100000) (w : World) (R : List (List UInt8)) (hR : idsL S.data.toList = R) (K : Nat) (hK : R.length = K) :
    Calls Tryd.prog 15 #[.string S] w fun e w' => ∃ a c, e = .returned (.slice a K c) ∧ Own w' (.slice a K c) R ∧ Below w.heap.size w w' := by
  have HR := Lib.hid (show idsF none S.data.toList = R from hR)
  have HK := Lib.hid hK
  clear hR hK
  go_enter Tryd.func15, Tryd.ntmps15
  go_wp2_with fail
  go_loopw [0, 3] (fun t r wr => ∃ (T : ByteArray) (m : Nat) (A : List (List UInt8)), t = .string T ∧ m + T.size ≤ 100000 ∧ (∃ a c, r = .slice a m c) ∧ Hid (A.length = m) ∧ Hid (A ++ idsF none T.data.toList = R) ∧ Hid (wr.ownsRow w.heap.size 9 1 r A.length (A.map strV)) ∧ Hid (Below w.heap.size w wr)) (fun t _ _ => (strOf t).size)
  case atStart => exact ⟨S, 0, [], rfl, by omega, ⟨none, 0, rfl⟩, rfl, HR, ⟨rfl, .inl ⟨rfl, rfl⟩⟩, Below.refl _ _⟩
  case round =>
    obtain ⟨T, m, A, rfl, hmz, ⟨a, c0, rfl⟩, hm, HE, ho, hb⟩ := hrel
    by_cases h62 : 62 ∈ T.data.toList
    · obtain ⟨b, r, hbr, hnb⟩ := split_first _ _ h62
      have hsz := size_list T
      rw [hbr, List.length_append, List.length_cons] at hsz
      have c1 := fun W => cut_yes T b r hbr hnb (by omega) W
      have hE := HE.out
      rw [hbr] at hE
      have HRZ := Lib.hid (strL_size r)
      have hBz := strL_size b
      have cL := fun W => Tryd.strings_LastIndexByte (strL b) 60 (by omega) W
      by_cases h60 : 60 ∈ b
      · obtain ⟨x, y, hxy, hny, hli⟩ := last_yes b h60
        rw [hli] at cL
        rw [hxy] at hE hnb
        rw [ids_cut_yes x y r hnb hny] at hE
        have hbl := congrArg List.length hxy
        rw [List.length_append, List.length_cons] at hbl
        have R1 := run_slice_from (strL b) (x.length + 1) ((x.length : Int) + 1) (by omega) (by omega)
        have e1 : (strL b).extract (x.length + 1) (strL b).size = strL y := bytes_is (by rw [part_rest _ _ (by omega), strL_list, hxy, strL_list, ← List.drop_drop, List.drop_left' rfl]; rfl)
        rw [e1] at R1
        obtain ⟨p, hp⟩ : ∃ p, x.length = p := ⟨_, rfl⟩
        rw [hp] at cL R1 hbl
        have F1 : IntKind.i64.wrap ((p : Int) + 1) = (p : Int) + 1 := by rw [IntKind.wrap_i64]; omega
        have g0 : (0 : Int) ≤ (p : Int) := by omega
        have cI := fun W => isId_any y (by omega) W
        have hcand : (if solidB y = true ∧ 0 < y.length ∧ y.length ≤ 250 then [y] else []) = if idB y = true then [y] else [] := by
          unfold idB
          simp only [Bool.and_eq_true, decide_eq_true_eq]
          by_cases hc : solidB y = true ∧ 0 < y.length ∧ y.length ≤ 250
          · rw [if_pos hc, if_pos ⟨⟨hc.2.1, hc.2.2⟩, hc.1⟩]
          · rw [if_neg hc, if_neg (fun e => hc ⟨e.2, e.1.1, e.1.2⟩)]
        rw [hcand] at hE
        cases hid : idB y with
        | true =>
          rw [hid] at cI hE
          rw [if_pos rfl, ← List.append_assoc] at hE
          have HE2 := Lib.hid (show (A ++ [y]) ++ idsF none (strL r).data.toList = R from hE)
          have cC := fun W => clone_any (strL y) W (by rw [strL_size]; omega)
          have hlz : m + 1 ≤ 1000000 := by omega
          have HZ := Lib.hid (show m + 1 + (strL r).size ≤ 100000 by rw [strL_size]; omega)
          have HZ2 := Lib.hid (show (strL r).size < T.size by rw [strL_size]; omega)
          generalize hB : strL b = B at c1 cL R1
          generalize hQ : strL r = Q at c1 HZ HE2 HZ2
          clear hB hQ e1 hxy hnb hny hli h60 h62 hbr hsz HRZ hBz hbl hp hcand hid HE hE HR HK
          go_wp2_with (first
            | (go_at_call 31; (with_reducible refine (c1 _).mono ?_); rintro e w1 ⟨rfl, hb1⟩; clear c1; replace ho := Lib.hid (own_below ho.out hb1); have HB1 := Lib.hid (hb.out.trans (hb1.mono hb.out.size)); clear hb1)
            | (go_at_call 32; (with_reducible refine (cL _).mono ?_); rintro e w2 ⟨rfl, rfl⟩; clear cL)
            | (go_at_call 33; (with_reducible refine (cI _).mono ?_); rintro e w3 ⟨rfl, rfl⟩; clear cI)
            | (go_at_call 34; (with_reducible refine (cC _).mono ?_); rintro e w4 ⟨rfl, hb4⟩; clear cC; replace ho := Lib.hid (own_below ho.out hb4); have HB4 := Lib.hid (HB1.out.trans (hb4.mono HB1.out.size)); clear hb4)
            | (at_builtin; refine wpList_app1 (by rfl) (.tmp 28) (.tmp 34) rfl rfl w.heap.size y rfl rfl ho.out hm.out HB4.out.size hlz ?_; intro a6 c6 w6 h6 g6; replace h6 := Lib.hid h6; have HB6 := Lib.hid ((HB4.out.alloc HB4.out.size (.cells #[.string (strL y)] 9)).trans (below_rowS _ _ _ (World.ownsRow.alloc ho.out _) g6 (by rw [World.size_alloc]; exact Nat.le_trans HB4.out.size (Nat.le_succ _)))); clear g6))
          go_roundw
          case rel => exact ⟨Q, m + 1, A ++ [y], rfl, HZ.out, ⟨a6, c6, rfl⟩, Lib.hid (by rw [List.length_append, hm.out]; rfl), HE2, h6, HB6⟩
          case measure => exact HZ2.out
        | false =>
          rw [hid] at cI hE
          rw [if_neg Bool.false_ne_true, List.nil_append] at hE
          have HE2 := Lib.hid (show A ++ idsF none (strL r).data.toList = R from hE)
          have HZ := Lib.hid (show m + (strL r).size ≤ 100000 by rw [strL_size]; omega)
          have HZ2 := Lib.hid (show (strL r).size < T.size by rw [strL_size]; omega)
          generalize hB : strL b = B at c1 cL R1
          generalize hQ : strL r = Q at c1 HZ HE2 HZ2
          clear hB hQ e1 hxy hnb hny hli h60 h62 hbr hsz HRZ hBz hbl hp hcand hid HE hE HR HK
          go_wp2_with (first
            | (go_at_call 31; (with_reducible refine (c1 _).mono ?_); rintro e w1 ⟨rfl, hb1⟩; clear c1; replace ho := Lib.hid (own_below ho.out hb1); have HB1 := Lib.hid (hb.out.trans (hb1.mono hb.out.size)); clear hb1)
            | (go_at_call 32; (with_reducible refine (cL _).mono ?_); rintro e w2 ⟨rfl, rfl⟩; clear cL)
            | (go_at_call 33; (with_reducible refine (cI _).mono ?_); rintro e w3 ⟨rfl, rfl⟩; clear cI))
          go_roundw
          case rel => exact ⟨Q, m, A, rfl, HZ.out, ⟨a, c0, rfl⟩, hm, HE2, ho, HB1⟩
          case measure => exact HZ2.out
      · rw [last_no b h60] at cL
        rw [ids_cut_no b r hnb h60] at hE
        have HE2 := Lib.hid (show A ++ idsF none (strL r).data.toList = R from hE)
        have HZ := Lib.hid (show m + (strL r).size ≤ 100000 by rw [strL_size]; omega)
        have HZ2 := Lib.hid (show (strL r).size < T.size by rw [strL_size]; omega)
        generalize hB : strL b = B at c1 cL
        generalize hQ : strL r = Q at c1 HZ HE2 HZ2
        clear hB hQ hnb h60 h62 hbr hsz HRZ hBz HE hE HR HK
        go_wp2_with (first
          | (go_at_call 31; (with_reducible refine (c1 _).mono ?_); rintro e w1 ⟨rfl, hb1⟩; clear c1; replace ho := Lib.hid (own_below ho.out hb1); have HB1 := Lib.hid (hb.out.trans (hb1.mono hb.out.size)); clear hb1)
          | (go_at_call 32; (with_reducible refine (cL _).mono ?_); rintro e w2 ⟨rfl, rfl⟩; clear cL))
        go_roundw
        case rel => exact ⟨Q, m, A, rfl, HZ.out, ⟨a, c0, rfl⟩, hm, HE2, ho, HB1⟩
        case measure => exact HZ2.out
    · have c1 := fun W => cut_no T h62 W
      have hE := HE.out
      rw [ids_none_shut _ none h62, List.append_nil] at hE
      have HKm := Lib.hid (show m = K by rw [← hm.out, hE]; exact HK.out)
      have HA := Lib.hid hE
      clear h62 HE hE HR HK
      go_wp2_with (go_at_call 31; (with_reducible refine (c1 _).mono ?_); rintro e w1 ⟨rfl, hb1⟩; clear c1; replace ho := Lib.hid (own_below ho.out hb1); have HB1 := Lib.hid (hb.out.trans (hb1.mono hb.out.size)); clear hb1)
      go_ret
      rw [← HKm.out, ← HA.out]
      have h6 := ho.out
      rw [hm.out] at h6
      exact ⟨_, _, rfl, ⟨_, by rw [hm.out]; exact h6⟩, HB1.out⟩
theorem ids_ok : IdsOk := fun S hS W => ids_p S hS W _ rfl _ rfl
end Go.Proofs.YtgponokcigapaaaDoor
namespace Go.Proofs.YtgponokcigapaaaDoor
open Go.ChangeShapes Go.WideShapes Go.ChangeAt Go.RowKit

theorem own : ownKnob Tryd.prog.godebug = none := by kernel_rfl
theorem laidOut : laidOutB Tryd.prog = true := by kernel_rfl
/-- A world for the witness: the settled one, the listed variables as their initialisers lay them. -/
noncomputable def laidWorld (os : Os) : World := World.laidAll Tryd.prog os Rows.addrTellsRow.laid
theorem laid_met (os : Os) (args : Array Value) : laidMet Tryd.prog Rows.addrTellsRow.laid ((laidWorld os).forCall (fun _ _ => 0) ⟨#[], args, []⟩).memory :=
  laidMet_laidAll _ (by kernel_rfl) (by kernel_rfl)
theorem laid_shaped (os : Os) (args : Array Value) : ((laidWorld os).forCall (fun _ _ => 0) ⟨#[], args, []⟩).Shaped Tryd.prog :=
  World.shaped_of_ZipB (by kernel_rfl) (by kernel_rfl)
section
variable {H : Type} {enc : TypeId × Value → H}
/-- There is an input that fits. -/
theorem witness_zip {C : Checked} {os : Os} {f : FuncId} {fn : Func} {s : OpenSpec} {conds : List PathCond} {apart : Bool} {laid : List (String × DataW Unit)} (modest : Bool) (w0 : World) (args : Array Value) (hos : w0.os = os)
    (hsh : (w0.forCall (fun _ _ => 0) ⟨#[], args, []⟩).Shaped C.prog)
    (hok : Input.okWideB C.prog (w0.forCall (fun _ _ => 0) ⟨#[], args, []⟩) f ⟨#[], args, []⟩ = true)
    (hrow : s.preRow enc C.prog fn conds apart laid (w0.forCall (fun _ _ => 0) ⟨#[], args, []⟩).memory args) :
    ∃ (w : World) (tape : Tape) (i : Input), w.os = os ∧ (w.forCall tape i).Shaped C.prog ∧ i.vars = [] ∧ Input.okWide C.prog (w.forCall tape i) .any w.heap.size f i ∧
      s.preRow enc C.prog fn conds apart laid (w.forCall tape i).memory i.args ∧ ({ modest := modest } : Assume).holds C.prog (lone (Frame.enter C.prog f i.args .normal) [] (w.forCall tape i)) :=
  ⟨w0, fun _ _ => 0, ⟨#[], args, []⟩, hos, hsh, (Input.okWide_of_okWideB (base := 0) hok).1, (Input.okWide_of_okWideB hok).2, hrow, by
    simp only [Assume.holds]
    exact ⟨by simp, by simp, fun _ => Modest.zero, by simp, by simp⟩⟩
end
end Go.Proofs.YtgponokcigapaaaDoor
