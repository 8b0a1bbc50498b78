/- The reference's Scan. The reference's Rows, over its own Scan. Of no program: the reference's ways through names, rows and lists of parameters. Plain facts on numerals and hexadecimal digits, of no program. The canonical decimal form: what Text writes Parse reads, and nothing else. The reference's Text: the texts of a row, put together. -/
import Derived.Test.YtdinachiiimngaaGreatDoorKRefF
import Derived.Test.YtdinachiiimngaaGreatDoorK2
import Derived.Test.YtdinachiiimngaaGreatDoorK3
import Derived.Test.YtdinachiiimngaaGreatDoorK5
import Derived.Lib.AtoiAll
import Derived.Lib.ItoaNum
import Derived.Lib.ItoaLen
import Derived.Lib.Strings
import Derived.Laws.Concat
namespace Go.Proofs.YtdinachiiimngaaGreatDoor
open Go.ChangeShapes Go.WideShapes Go.ChangeAt Go.RowKit
open TokP

set_option maxRecDepth 100000 in
set_option maxHeartbeats 2000000 in
theorem rscan_any (s : ByteArray) (hs : s.size ≤ 999999) (w : World) :
    Calls Tryz.prog 73 #[.string s] w fun e w' => ∃ a c, e = .returned (.slice a (scanL s.data.toList).length c) ∧ OwnF w' (.slice a (scanL s.data.toList).length c) (scanL s.data.toList) ∧ Below w.heap.size w w' := by
  have HZ := Lib.hid (size_list s)
  have HST := Lib.hid (show Sc w w s.data.toList s.data.toList [] (.slice none 0 0) s.size from ⟨rfl, by rw [← HZ.out]; simp, Below.refl _ _, ⟨rfl, .inl ⟨rfl, rfl⟩⟩⟩)
  obtain ⟨L, hL⟩ : ∃ L, s.data.toList = L := ⟨_, rfl⟩
  obtain ⟨N, hN⟩ : ∃ N, s.size = N := ⟨_, rfl⟩
  rw [hL, hN] at HST HZ
  rw [hN] at hs
  rw [hL]
  have HL := Lib.hid hL
  have HN := Lib.hid hN
  clear hL hN
  go_enter Tryz.func73, Tryz.ntmps73
  go_wp2_with fail
  go_loopw [0, 3] (fun x fs wr => ∃ (d : List Tok) (A : ByteArray) (m : Nat), x = .string A ∧ d.length = m ∧ A.size ≤ N ∧ ∃ a c, fs = .slice a m c ∧ Hid (Sc w wr L A.data.toList d fs N)) (fun x _ _ => strSize x)
  case atStart => exact ⟨[], s, 0, rfl, rfl, by rw [HN.out]; exact Nat.le_refl _, none, 0, rfl, by rw [HL.out]; exact HST⟩
  case round =>
    obtain ⟨d, A, m, rfl, hm, hsz, a, c, rfl, hst⟩ := hrel
    have hA := size_list A
    by_cases h0 : A.data.toList = []
    · have hall := Lib.hid (show d = scanL L by rw [← hst.out.all, h0, scan_nil, List.append_nil])
      obtain rfl : A = ⟨#[]⟩ := bytes_is h0
      clear hA h0
      go_wp2_with fail
      go_ret
      have h := hall.out
      rw [← h]
      subst hm
      exact ⟨a, c, rfl, ⟨_, hst.out.own⟩, hst.out.bel⟩
    · have hne : A.toList.isEmpty = false := by
        rw [ByteArray.toList_eq]
        cases hl : A.data.toList with
        | nil => exact absurd hl h0
        | cons _ _ => rfl
      have hpos : 0 < A.size := by rw [hA]; exact List.length_pos_iff.2 h0
      have cF := rfront_any A (by omega) hpos
      obtain ⟨_, e2⟩ := front_parts A
      have hle := front_le A.data.toList
      have hfp := List.length_pos_iff.2 (front_pos _ h0)
      rw [← hA] at hle
      have hdm : m ≤ 4000000 := by have := hst.out.few; rw [hm] at this; omega
      have HNX := Lib.hid (fun (W : World) (v0 v' : Value) (w' : World) (h : Sc w W L A.data.toList d v0 N) => h.next (v' := v') (w' := w') h0)
      generalize hr : A.data.toList.drop (frontL A.data.toList).text.length = r at e2 HNX
      have hrl : r.length < A.size := by rw [← hr, List.length_drop, ← hA]; omega
      generalize frontL A.data.toList = f at cF e2 hle HNX hr hfp
      have hTs : (strL f.text).size = f.text.length := strL_size _
      have R2 := run_slice_from A f.text.length ((strL f.text).size : Int) (by rw [hTs]) hle
      rw [e2] at R2
      have hT : (strL r).size < A.size := by rw [strL_size]; exact hrl
      have HT : Hid ((strL r).data.toList = r) := rfl
      generalize strL r = T at R2 hT HT
      have HM := Lib.hid hm
      clear e2 hr hle hA hpos hrl h0 hfp hm hTs
      go_wp2_with (first
        | (go_at_call 110; (with_reducible refine (cF _).mono ?_); (rintro e w2 ⟨rfl, hb2⟩; clear cF; have hs2 := Lib.hid ((hst.out.step hb2).step ((Below.refl _ w2).alloc (Nat.le_refl _) (.cells #[.int .i64 (f.kind : Nat), .string (strL f.text)] 89))); have hne2 : Hid ((Value.slice a m c).ownBlock ≠ some w2.heap.size) := fun e => by (have := ((hst.out.step hb2).own.lt _ e).2; omega)))
        | (at_builtin; (refine wpList_appF (by rfl) (.tmp 9) (.tmp 11) rfl rfl w.heap.size f rfl (by rw [World.size_alloc]; rfl) hs2.out.own HM.out hs2.out.bel.size hdm ?_; intro a2 c2 w5 h2 g2; have kt := cell_grown (cell_alloc (copy_text w2 (.int .i64 (f.kind : Nat)) (.string (strL f.text)) 89) (.cells #[.int .i64 (f.kind : Nat), .string (strL f.text)] 89)) g2 hne2.out; replace h2 := Lib.hid h2; replace g2 := Lib.hid g2)))
      go_roundw
      case rel =>
        have hn := HNX.out _ _ _ _ hs2.out _ g2.out h2.out
        rw [← HT.out] at hn
        exact ⟨d ++ [f], T, m + 1, rfl, by rw [List.length_append, HM.out]; rfl, by omega, a2, c2, rfl, Lib.hid hn⟩
      case measure => exact hT
end Go.Proofs.YtdinachiiimngaaGreatDoor
namespace Go.Proofs.YtdinachiiimngaaGreatDoor
open Go.ChangeShapes Go.WideShapes Go.ChangeAt Go.RowKit
open TokP AdrP CtP

set_option maxRecDepth 100000 in
set_option maxHeartbeats 8000000 in
theorem rrows_s (S : ByteArray) (hS : S.size ≤ 99999) (ALL : List (List TokP.Tok)) (hALL : rowsT [] (bareT (scanL S.data.toList)) = ALL) (N : Nat) (hN : ALL.length = N) (w : World) :
    Calls Tryz.prog 35 #[.string S] w fun e w' => ∃ g c, e = .returned (.slice (some ⟨g, 0, none⟩) N c) ∧ PcsOf w' (.slice (some ⟨g, 0, none⟩) N c) ALL ∧ Below w.heap.size w w' := by
  have cA := fun W => rscan_any S (by omega) W
  have hln := scan_len S.data.toList
  rw [← size_list] at hln
  generalize scanL S.data.toList = q at cA hALL hln
  have cB := fun W v (h : Hid (OwnF W v q)) => rbare_any v q W h.out.has (by omega)
  have hbl := bare_len q q.length
  rw [List.take_length] at hbl
  obtain ⟨l, hl⟩ : ∃ l, bareL q = l := ⟨_, rfl⟩
  rw [show bareT q = l from hl] at hALL
  rw [hl] at cB hbl
  obtain ⟨n, hn⟩ : ∃ n, l.length = n := ⟨_, rfl⟩
  obtain ⟨nq, hnq⟩ : ∃ n, q.length = n := ⟨_, rfl⟩
  rw [hn] at cB hbl
  rw [hnq] at cA hbl hln
  have hn6 : n ≤ 4000000 := by omega
  have HL := Lib.hid hn
  have HALL := Lib.hid hALL
  have HN := Lib.hid hN
  clear hALL hN hn hl hln hbl hnq hS
  go_enter Tryz.func35, Tryz.ntmps35
  go_wp2_with (first
    | (go_at_call 73; (with_reducible refine (cA _).mono ?_); rintro e w1 ⟨a1, c1, rfl, h1, hb1⟩; replace h1 := Lib.hid h1; have HB1 := Lib.hid hb1; clear hb1 cA)
    | (go_at_call 72; (with_reducible refine (cB _ _ h1).mono ?_); rintro e w2 ⟨a2, c2, rfl, h2, hb2⟩; have HB2 := Lib.hid (HB1.out.trans (hb2.mono HB1.out.size)); clear hb2 cB))
  have HF := Lib.hid h2
  clear h1
  go_loopw [4, 5, 6] (fun pv cv x wr => ∃ (k : Nat) (P : List (List TokP.Tok)) (C : List TokP.Tok) (p m : Nat), k ≤ n ∧ p ≤ k ∧ m ≤ k ∧ (∃ a c, pv = .slice a p c) ∧ (∃ a c, cv = .slice a m c) ∧ x = .int .i64 k ∧ Hid (P.length = p ∧ C.length = m) ∧ Hid (St wr w2.heap.size pv cv P C) ∧ Hid (Below w2.heap.size w2 wr) ∧ Hid (P ++ rowsT C (l.drop k) = ALL)) (fun _ _ x _ => n - (intOf x).toNat)
  case atStart => exact ⟨0, [], [], 0, 0, Nat.zero_le _, Nat.le_refl _, Nat.le_refl _, ⟨none, 0, rfl⟩, ⟨none, 0, rfl⟩, rfl, Lib.hid ⟨rfl, rfl⟩, Lib.hid (St.first w2 _), Lib.hid (Below.refl _ _), Lib.hid (by rw [List.drop_zero, List.nil_append]; exact HALL.out)⟩
  case round =>
    obtain ⟨k, P, C, p, m, hk, hpk, hmk, ⟨pa, pc, rfl⟩, ⟨ca, cc, rfl⟩, rfl, HPC, ST0, HB3, HG⟩ := hrel
    have F1 : IntKind.i64.wrap ((k : Int) + 1) = (k : Int) + 1 := by rw [IntKind.wrap_i64]; omega
    have hpz : p ≤ 4000000 := by omega
    by_cases hlt : k < n
    · have hlt' : (k : Int) < (n : Int) := by omega
      obtain ⟨g, rfl, hfa⟩ := HF.out.at (by omega)
      obtain ⟨t, ht⟩ : ∃ t, l[k]? = some t := ⟨_, List.getElem?_eq_getElem (by rw [HL.out]; exact hlt)⟩
      obtain ⟨k0, k1⟩ := hfa.step HB3.out k t ht
      rw [Nat.zero_add] at k0 k1
      have hg := HG.out
      rw [rows_one ht] at hg
      have hPC1 : P.length = p ∧ (C ++ [t]).length = m + 1 := ⟨HPC.out.1, by rw [List.length_append, HPC.out.2]; rfl⟩
      have hPC2 : (P ++ [C]).length = p + 1 ∧ ([] : List TokP.Tok).length = 0 := ⟨by rw [List.length_append, HPC.out.1]; rfl, rfl⟩
      clear hfa
      by_cases h4 : t.kind = 4
      · have e1 : (((t.kind : Nat) : Int) == 4) = true := beq_iff_eq.2 (by omega)
        by_cases h59 : t.text = [59]
        · have e2 : ((strL t.text).toList == [59]) = true := by rw [ByteArray.toList_eq, strL_list, h59]; rfl
          have hs : isS t 59 = true := (isS_iff t 59).2 (by cases t; simp only at h4 h59; rw [h4, h59])
          rw [if_pos hs] at hg
          have HG2 := Lib.hid (show (P ++ [C]) ++ rowsT [] (l.drop (k + 1)) = ALL by rw [← hg]; simp)
          have HPC2 := Lib.hid hPC2
          clear hg ht HG h4 h59 hs hPC1 hPC2
          go_wp2_with (at_builtin; refine wpList_put rfl (.tmp 30) (.tmp 32) rfl w2.heap.size rfl rfl rfl ST0.out HPC.out.1 HB3.out.size hpz ?_; intro a5 c5 w5 st5 bl5; have ST5 := Lib.hid st5; have HB5 := Lib.hid (HB3.out.trans bl5); clear st5 bl5)
          go_roundw
          case rel => exact ⟨k + 1, P ++ [C], [], p + 1, 0, by omega, by omega, by omega, ⟨_, _, rfl⟩, ⟨none, 0, rfl⟩, by go_num, HPC2, ST5, HB5, HG2⟩
          case measure => simp [intOf]; omega
        · have e2 : ((strL t.text).toList == [59]) = false := by rw [ByteArray.toList_eq, strL_list]; exact beq_eq_false_iff_ne.2 h59
          have hs : ¬ isS t 59 = true := fun h => h59 (by rw [(isS_iff t 59).1 h])
          rw [if_neg hs] at hg
          have HG2 := Lib.hid hg
          have HPC2 := Lib.hid hPC1
          clear hg ht HG h4 h59 hs hPC1 hPC2
          go_wp2_with (at_builtin; refine wpList_cur rfl (.tmp 34) (.tmp 39) rfl w2.heap.size t rfl rfl ST0.out HPC.out.2 HB3.out.size (by omega) ?_; intro a5 c5 w5 st5 bl5; have ST5 := Lib.hid st5; have HB5 := Lib.hid (HB3.out.trans bl5); clear st5 bl5)
          go_roundw
          case rel => exact ⟨k + 1, P, C ++ [t], p, m + 1, by omega, by omega, by omega, ⟨pa, pc, rfl⟩, ⟨_, _, rfl⟩, by go_num, HPC2, ST5, HB5, HG2⟩
          case measure => simp [intOf]; omega
      · have e1 : (((t.kind : Nat) : Int) == 4) = false := beq_eq_false_iff_ne.2 (by omega)
        have hs : ¬ isS t 59 = true := fun h => h4 (by rw [(isS_iff t 59).1 h])
        rw [if_neg hs] at hg
        have HG2 := Lib.hid hg
        have HPC2 := Lib.hid hPC1
        clear hg ht HG h4 hs hPC1 hPC2
        go_wp2_with (at_builtin; refine wpList_cur rfl (.tmp 34) (.tmp 39) rfl w2.heap.size t rfl rfl ST0.out HPC.out.2 HB3.out.size (by omega) ?_; intro a5 c5 w5 st5 bl5; have ST5 := Lib.hid st5; have HB5 := Lib.hid (HB3.out.trans bl5); clear st5 bl5)
        go_roundw
        case rel => exact ⟨k + 1, P, C ++ [t], p, m + 1, by omega, by omega, by omega, ⟨pa, pc, rfl⟩, ⟨_, _, rfl⟩, by go_num, HPC2, ST5, HB5, HG2⟩
        case measure => simp [intOf]; omega
    · obtain rfl : k = n := by omega
      have hlt' : ¬ (k : Int) < (k : Int) := by omega
      have hg := HG.out
      rw [List.drop_eq_nil_of_le (by rw [HL.out]; exact Nat.le_refl _), rowsT] at hg
      have HE := Lib.hid (show P ++ [C] = ALL ∧ p + 1 = N from ⟨hg, by rw [← HN.out, ← hg, List.length_append, HPC.out.1]; rfl⟩)
      clear hg HG
      go_wp2_with (at_builtin; refine wpList_put rfl (.tmp 41) (.tmp 43) rfl w2.heap.size rfl rfl rfl ST0.out HPC.out.1 HB3.out.size hpz ?_; intro a5 c5 w5 st5 bl5; have ST5 := Lib.hid st5; have HB5 := Lib.hid (HB3.out.trans bl5); clear st5 bl5)
      go_ret
      obtain ⟨e1, e2⟩ := HE.out
      subst e1 e2
      obtain ⟨g, c, e, hcc, hpp⟩ := ST5.out.pcs (by simp)
      have e' := e
      injection e' with f1 f2 f3
      subst f1
      exact ⟨g, _, rfl, ⟨g, c, e, hcc, hpp⟩, HB2.out.trans (HB5.out.mono HB2.out.size)⟩
end Go.Proofs.YtdinachiiimngaaGreatDoor
namespace Go.Proofs.YtdinachiiimngaaGreatDoor
open TokP AdrP CtP

theorem told_at {num : List UInt8 → Option Nat} {name value n : List UInt8} {k : Nat} (hn : (if wideB name = true then name.dropLast else name) = n) (hk : n[k]? = some 42) (h : 42 ∉ n.drop (k + 1)) :
    toldP num name value = match num (n.drop (k + 1)) with
      | some j => ⟨n.take k, some j, wideB name, value⟩
      | none => ⟨n, none, wideB name, value⟩ := by
  obtain ⟨h1, h2⟩ := List.getElem?_eq_some_iff.1 hk
  refine told_star num name value (n.take k) (n.drop (k + 1)) n hn ?_ h
  rw [← h2, ← List.drop_eq_getElem_cons h1, List.take_append_drop]
theorem drop_no {n : List UInt8} {k : Nat} {d : UInt8} (hk : n[k]? = some d) (hd : ¬ d = 42) (h : 42 ∉ n.drop (k + 1)) : 42 ∉ n.drop k := by
  obtain ⟨h1, h2⟩ := List.getElem?_eq_some_iff.1 hk
  rw [List.drop_eq_getElem_cons h1, h2, List.mem_cons]
  rintro (e | e)
  · exact hd e.symm
  · exact h e
theorem pair_hit {num : List UInt8 → Option Nat} {pre : List UInt8} {l : List Tok} {k : Nat} {t : Tok} (hk : l[k]? = some t) (h1 : t.kind = 1) (h2 : 61 ∈ t.text) :
    pairP num pre (l.drop k) = if (pre ++ upC 61 t.text) = [] then none else some (toldP num ((pre ++ upC 61 t.text).map lowA) (pairV (behind 61 t.text) (l.drop (k + 1)))) := by
  obtain ⟨g1, g2⟩ := List.getElem?_eq_some_iff.1 hk
  rw [List.drop_eq_getElem_cons g1, g2, pairP, if_pos ⟨h1, h2⟩]
theorem pair_miss {num : List UInt8 → Option Nat} {pre : List UInt8} {l : List Tok} {k : Nat} {t : Tok} (hk : l[k]? = some t) (h : ¬ (t.kind = 1 ∧ 61 ∈ t.text)) :
    pairP num pre (l.drop k) = pairP num (pre ++ t.text) (l.drop (k + 1)) := by
  obtain ⟨g1, g2⟩ := List.getElem?_eq_some_iff.1 hk
  rw [List.drop_eq_getElem_cons g1, g2, pairP, if_neg h]
theorem pairV_quoted {rest : List UInt8} {l : List Tok} {k : Nat} {u : Tok} (hk : l[k]? = some u) (h1 : rest = []) (h2 : u.kind = 2) : pairV rest (l.drop k) = valueL u := by
  obtain ⟨g1, g2⟩ := List.getElem?_eq_some_iff.1 hk
  rw [List.drop_eq_getElem_cons g1, g2, pairV, if_pos ⟨h1, h2⟩]
theorem pairV_plain {rest : List UInt8} {l : List Tok} (h : ∀ u, l[0]? = some u → ¬ (rest = [] ∧ u.kind = 2)) : pairV rest l = rest ++ joinL l := by
  cases l with
  | nil => rw [pairV]; exact (List.append_nil _).symm
  | cons u r => rw [pairV, if_neg (h u rfl)]
/-- A parameter that is extended and has no section. -/
def wideF (all : List Par) (name : List UInt8) : Option Par := all.find? (fun x => x.name == name && x.sec == none && x.wide)
theorem wide_hit {l : List Par} {n : List UInt8} {k : Nat} {p : Par} (hk : l[k]? = some p) (h1 : p.name = n) (h2 : p.sec = none) (h3 : p.wide = true) (h : ∀ (i : Nat) (q : Par), i < k → l[i]? = some q → ¬ (q.name = n ∧ q.sec = none ∧ q.wide = true)) : wideF l n = some p := by
  unfold wideF
  induction l generalizing k with
  | nil => simp at hk
  | cons a r ih =>
    rw [List.find?_cons]
    cases k with
    | zero =>
      obtain rfl : a = p := by simpa using hk
      rw [show (a.name == n && a.sec == none && a.wide) = true by simp [h1, h2, h3]]
    | succ k =>
      rw [show (a.name == n && a.sec == none && a.wide) = false by
        have := h 0 a (by omega) rfl
        rw [← Bool.not_eq_true]
        intro hb
        simp only [Bool.and_eq_true, beq_iff_eq] at hb
        exact this ⟨hb.1.1, hb.1.2, hb.2⟩]
      exact ih (k := k) (by simpa using hk) (fun i q hi hq => h (i + 1) q (by omega) (by simpa using hq))
theorem wide_none {l : List Par} {n : List UInt8} (h : ∀ (i : Nat) (q : Par), l[i]? = some q → ¬ (q.name = n ∧ q.sec = none ∧ q.wide = true)) : wideF l n = none := by
  unfold wideF
  rw [List.find?_eq_none]
  intro q hq hb
  obtain ⟨i, hi, rfl⟩ := List.mem_iff_getElem.1 hq
  simp only [Bool.and_eq_true, beq_iff_eq] at hb
  exact h i _ (List.getElem?_eq_getElem hi) ⟨hb.1.1, hb.1.2, hb.2⟩
theorem value_some {rep : List UInt8 → List UInt8} {dec : List UInt8 → List UInt8 → List UInt8} {all : List Par} {n : List UInt8} {x : Par} (h : firstP all n (some 0) = some x) :
    valueP rep dec all n = some (if x.wide = true then meantP rep dec (splitQ x.value).1 (pctL (splitQ x.value).2 ++ moreP all n 63 1) else x.value ++ moreP all n 63 1) := by
  unfold valueP; rw [h]
theorem value_wide {rep : List UInt8 → List UInt8} {dec : List UInt8 → List UInt8 → List UInt8} {all : List Par} {n : List UInt8} {x : Par} (h : firstP all n (some 0) = none) (hw : wideF all n = some x) :
    valueP rep dec all n = some (meantP rep dec (splitQ x.value).1 (pctL (splitQ x.value).2)) := by
  unfold valueP; unfold wideF at hw; rw [h]; simp only [hw]
theorem value_none {rep : List UInt8 → List UInt8} {dec : List UInt8 → List UInt8 → List UInt8} {all : List Par} {n : List UInt8} (h : firstP all n (some 0) = none) (hw : wideF all n = none) :
    valueP rep dec all n = (firstP all n none).map Par.value := by
  unfold valueP; unfold wideF at hw; rw [h]; simp only [hw]
theorem more_none {all : List Par} {n : List UInt8} {f k : Nat} (h : firstP all n (some k) = none) : moreP all n (f + 1) k = [] := by rw [moreP, h]
theorem more_some {all : List Par} {n : List UInt8} {f k : Nat} {y : Par} (h : firstP all n (some k) = some y) : moreP all n (f + 1) k = (if y.wide = true then pctL y.value else y.value) ++ moreP all n f (k + 1) := by rw [moreP, h]
theorem first_in {l : List Par} {n : List UInt8} {z : Option Nat} {p : Par} (h : firstP l n z = some p) : p ∈ l := List.mem_of_find?_eq_some h
theorem pctS_le : ∀ (j : Nat) (s : List UInt8), (pctS j s).length ≤ s.length
  | j, [] => by cases j <;> simp [pctS]
  | j + 1, c :: s => by have := pctS_le j s; rw [pctS, List.length_cons]; omega
  | 0, c :: s => by
    rw [pctS]
    split
    · split
      · have := pctS_le 2 s; rw [List.length_cons, List.length_cons]; omega
      · have := pctS_le 0 s; rw [List.length_cons, List.length_cons]; omega
    · have := pctS_le 0 s; rw [List.length_cons, List.length_cons]; omega
theorem pct_le (s : List UInt8) : (pctL s).length ≤ s.length := pctS_le 0 s
theorem split_le (s : List UInt8) : (splitQ s).1.length ≤ s.length ∧ (splitQ s).2.length ≤ s.length := by
  unfold splitQ
  split
  · refine ⟨(List.takeWhile_prefix _).length_le, ?_⟩
    show (behind 39 (behind 39 s)).length ≤ _
    unfold behind
    rw [List.length_drop, List.length_drop]; omega
  · exact ⟨Nat.zero_le _, Nat.le_refl _⟩
/-- The names ahead of place k. -/
def seenP (all : List Par) (k : Nat) : List (List UInt8) := ((all.take k).map Par.name).reverse
theorem seen_succ {all : List Par} {k : Nat} {p : Par} (h : all[k]? = some p) : seenP all (k + 1) = p.name :: seenP all k := by
  unfold seenP
  obtain ⟨h1, h2⟩ := List.getElem?_eq_some_iff.1 h
  rw [List.take_add_one, h, List.map_append, List.reverse_append]; rfl
theorem seen_mem {all : List Par} {k : Nat} {n : List UInt8} : n ∈ seenP all k ↔ ∃ (i : Nat) (q : Par), i < k ∧ all[i]? = some q ∧ q.name = n := by
  unfold seenP
  rw [List.mem_reverse, List.mem_map]
  constructor
  · rintro ⟨q, hq, rfl⟩
    obtain ⟨i, hi⟩ := List.getElem?_of_mem hq
    rw [List.getElem?_take] at hi
    split at hi
    · exact ⟨i, q, by assumption, hi, rfl⟩
    · cases hi
  · rintro ⟨i, q, hi, hq, rfl⟩
    exact ⟨q, List.mem_of_getElem? (i := i) (by rw [List.getElem?_take, if_pos hi]; exact hq), rfl⟩
theorem list_step {rep : List UInt8 → List UInt8} {dec : List UInt8 → List UInt8 → List UInt8} {all : List Par} {k : Nat} {p : Par} (h : all[k]? = some p) :
    listG rep dec all (seenP all k) (all.drop k) = (if p.name ∈ seenP all k then [] else match valueP rep dec all p.name with
      | some v => [(p.name, v)]
      | none => []) ++ listG rep dec all (seenP all (k + 1)) (all.drop (k + 1)) := by
  obtain ⟨h1, h2⟩ := List.getElem?_eq_some_iff.1 h
  rw [List.drop_eq_getElem_cons h1, h2, seen_succ h, listG]
  rfl
end Go.Proofs.YtdinachiiimngaaGreatDoor
namespace Go.Proofs.YtdinachiiimngaaGreatDoor.Nu
open Go

def isDigP (c : UInt8) : Bool := decide (48 ≤ c.toNat ∧ c.toNat ≤ 57)

/-- The number that digits spell, from acc on. -/
def val (acc : Nat) : List UInt8 → Nat
  | [] => acc
  | c :: r => val (acc * 10 + (c.toNat - 48)) r
theorem val_append (l r : List UInt8) (acc : Nat) : val acc (l ++ r) = val (val acc l) r := by
  induction l generalizing acc with
  | nil => rfl
  | cons c l ih => exact ih _
theorem val_mono (l : List UInt8) : ∀ acc, acc ≤ val acc l := by
  induction l with
  | nil => intro acc; exact Nat.le_refl _
  | cons c l ih => intro acc; exact Nat.le_trans (by omega) (ih _)

theorem digit_toNat (d : Nat) (h : d < 10) : (UInt8.ofNat (48 + d)).toNat = 48 + d := by
  rw [UInt8.toNat_ofNat']; omega
theorem decDigits_val (u : Nat) : val 0 (Lib.decDigits u) = u := by
  induction u using Nat.strongRecOn with
  | _ u ih =>
    rw [Lib.decDigits]
    split
    · rename_i h
      show 0 * 10 + ((UInt8.ofNat (48 + u)).toNat - 48) = u
      rw [digit_toNat u h]; omega
    · rename_i h
      rw [val_append, ih (u / 10) (by omega)]
      show u / 10 * 10 + ((UInt8.ofNat (48 + u % 10)).toNat - 48) = u
      rw [digit_toNat _ (by omega)]; omega
theorem decDigits_dig (u : Nat) : ∀ c ∈ Lib.decDigits u, 48 ≤ c.toNat ∧ c.toNat ≤ 57 := by
  induction u using Nat.strongRecOn with
  | _ u ih =>
    intro c hc
    rw [Lib.decDigits] at hc
    split at hc
    · rename_i h
      obtain rfl : c = UInt8.ofNat (48 + u) := by simpa using hc
      rw [digit_toNat u h]; omega
    · rename_i h
      rcases List.mem_append.1 hc with h1 | h1
      · exact ih (u / 10) (by omega) c h1
      · obtain rfl : c = UInt8.ofNat (48 + u % 10) := by simpa using h1
        rw [digit_toNat _ (by omega)]; omega
theorem decDigits_ne (u : Nat) : Lib.decDigits u ≠ [] := by
  have := Lib.decDigits_length u
  have h1 := Lib.nDigits_pos u
  intro e; rw [e] at this; simp at this; omega
/-- No leading zero but of 0 itself. -/
theorem decDigits_head (u : Nat) (h : 0 < u) : ∃ c r, Lib.decDigits u = c :: r ∧ 49 ≤ c.toNat := by
  induction u using Nat.strongRecOn with
  | _ u ih =>
    rw [Lib.decDigits]
    split
    · rename_i h10
      exact ⟨_, [], rfl, by rw [digit_toNat u h10]; omega⟩
    · rename_i h10
      obtain ⟨c, r, e, hc⟩ := ih (u / 10) (by omega) (by omega)
      exact ⟨c, r ++ [_], by rw [e]; rfl, hc⟩
/-- The library's reading of digits that stay in range. -/
theorem parse_val (l : List UInt8) : ∀ acc, (∀ c ∈ l, 48 ≤ c.toNat ∧ c.toNat ≤ 57) → val acc l < 18446744073709551616 → Lib.parseUint10 acc l = .ok (val acc l) := by
  induction l with
  | nil => intro acc _ _; rfl
  | cons c l ih =>
    intro acc hd hv
    have hc := hd c (by simp)
    have hv' : val (acc * 10 + (c.toNat - 48)) l < 18446744073709551616 := hv
    have := val_mono l (acc * 10 + (c.toNat - 48))
    rw [Lib.parseUint10, if_pos hc, if_neg (by omega), if_neg (by omega)]
    exact ih _ (fun x hx => hd x (by simp [hx])) hv'
theorem val_parse (l : List UInt8) : ∀ acc u, Lib.parseUint10 acc l = .ok u → u = val acc l ∧ ∀ c ∈ l, 48 ≤ c.toNat ∧ c.toNat ≤ 57 := by
  induction l with
  | nil => intro acc u h; injection h with h; exact ⟨h.symm, by simp⟩
  | cons c l ih =>
    intro acc u h
    rw [Lib.parseUint10] at h
    split at h
    · rename_i hc
      split at h
      · cases h
      · split at h
        · cases h
        · obtain ⟨e, hd⟩ := ih _ _ h
          refine ⟨e, fun x hx => ?_⟩
          rcases List.mem_cons.1 hx with rfl | hx
          · exact hc
          · exact hd x hx
    · cases h
theorem decDigits_step (acc : Nat) (c : UInt8) (ha : 0 < acc) (hc : 48 ≤ c.toNat ∧ c.toNat ≤ 57) : Lib.decDigits (acc * 10 + (c.toNat - 48)) = Lib.decDigits acc ++ [c] := by
  generalize hd : c.toNat - 48 = d
  have hd9 : d < 10 := by omega
  have e2 : 48 + (acc * 10 + d) % 10 = c.toNat := by omega
  have e1 : (acc * 10 + d) / 10 = acc := by omega
  rw [Lib.decDigits, dif_neg (by omega), e1, e2, UInt8.ofNat_toNat]
/-- Digits without a leading zero are their number's numeral. -/
theorem decDigits_of (l : List UInt8) : (∀ c ∈ l, 48 ≤ c.toNat ∧ c.toNat ≤ 57) → ∀ acc, 0 < acc → Lib.decDigits (val acc l) = Lib.decDigits acc ++ l := by
  induction l with
  | nil => intro _ acc _; rw [List.append_nil]; rfl
  | cons c l ih =>
    intro hd acc ha
    have hc := hd c (by simp)
    have hstep := decDigits_step acc c ha hc
    have h2 := ih (fun x hx => hd x (by simp [hx])) (acc * 10 + (c.toNat - 48)) (by omega)
    rw [hstep, List.append_assoc, List.singleton_append] at h2
    exact h2
theorem numeral (c : UInt8) (l : List UInt8) (hc : 49 ≤ c.toNat ∧ c.toNat ≤ 57) (hd : ∀ x ∈ l, 48 ≤ x.toNat ∧ x.toNat ≤ 57) : Lib.decDigits (val 0 (c :: l)) = c :: l := by
  rw [show val 0 (c :: l) = val (0 * 10 + (c.toNat - 48)) l from rfl, decDigits_of l hd _ (by omega), Lib.decDigits, dif_pos (by omega)]
  have e : 48 + (0 * 10 + (c.toNat - 48)) = c.toNat := by omega
  rw [e, UInt8.ofNat_toNat, List.singleton_append]
end Go.Proofs.YtdinachiiimngaaGreatDoor.Nu
namespace Go.Proofs.YtdinachiiimngaaGreatDoor.Nu
open Go

theorem trim_minus (r : List UInt8) : Lib.trimPrefix (45 :: r) [45] = r := by simp [Lib.trimPrefix, Lib.hasPrefix]
theorem trim_other (c : UInt8) (r : List UInt8) (h : c ≠ 45) : Lib.trimPrefix (c :: r) [45] = c :: r := by
  have : ¬ (45 : UInt8) = c := fun e => h e.symm
  simp [Lib.trimPrefix, Lib.hasPrefix, this]
theorem ne_of_toNat {c : UInt8} {n : Nat} (h : c.toNat ≠ n) (hn : n < 256) : c ≠ UInt8.ofNat n := by
  intro e; rw [e, UInt8.toNat_ofNat'] at h; omega
theorem all_digs {l : List UInt8} : l.all isDig = true ↔ ∀ c ∈ l, 48 ≤ c.toNat ∧ c.toNat ≤ 57 := by
  simp [List.all_eq_true, isDig]
theorem parseMag_ne {l : List UInt8} (h : l ≠ []) : Lib.parseMag l = Lib.parseUint10 0 l := by rw [Lib.parseMag, if_neg h]

theorem atoi_of (c : UInt8) (r l : List UInt8) (u : Nat) (hl : (if c.toNat = 43 ∨ c.toNat = 45 then r else c :: r) = l) (h : Lib.parseMag l = .ok u) :
    Lib.atoiAll (c :: r) = if ¬ c.toNat = 45 ∧ 9223372036854775808 ≤ u then .range else if c.toNat = 45 ∧ 9223372036854775808 < u then .range else .ok (if c.toNat = 45 then -(u : Int) else u) := by
  simp only [Lib.atoiAll, hl, h]
theorem of_atoi (c : UInt8) (r l : List UInt8) (v : Int) (hl : (if c.toNat = 43 ∨ c.toNat = 45 then r else c :: r) = l) (h : Lib.atoiAll (c :: r) = .ok v) :
    ∃ u, Lib.parseMag l = .ok u ∧ (if ¬ c.toNat = 45 ∧ 9223372036854775808 ≤ u then Lib.NumEnd.range else if c.toNat = 45 ∧ 9223372036854775808 < u then .range else .ok (if c.toNat = 45 then -(u : Int) else u)) = .ok v := by
  cases hm : Lib.parseMag l with
  | ok u => exact ⟨u, rfl, by rw [← atoi_of c r l u hl hm]; exact h⟩
  | _ => simp only [Lib.atoiAll, hl, hm] at h; cases h

theorem parseV_neg (m : Nat) (h0 : 0 < m) (h1 : m ≤ 9223372036854775808) : parseV (45 :: Lib.decDigits m) = some (-(m : Int)) := by
  obtain ⟨c, r, e, hc⟩ := decDigits_head m h0
  have hd := decDigits_dig m
  have hcan : canL (45 :: Lib.decDigits m) = true := by
    unfold canL
    rw [trim_minus]
    simp only []
    rw [if_neg (decDigits_ne m), if_neg, all_digs]
    · exact hd
    · rw [e]; intro hh
      have : c = 48 := by simpa using hh
      rw [this] at hc; exact absurd hc (by decide)
  have hm : Lib.parseMag (Lib.decDigits m) = .ok m := by
    rw [parseMag_ne (decDigits_ne m), parse_val _ 0 hd (by rw [decDigits_val]; omega), decDigits_val]
  have ha : Lib.atoiAll (45 :: Lib.decDigits m) = .ok (-(m : Int)) := by
    rw [atoi_of 45 _ _ m (if_pos (Or.inr (by decide))) hm, if_neg (by intro h; exact h.1 (by decide)), if_neg (by intro h; omega), if_pos (by decide)]
  simp only [parseV, hcan, ha, if_true]
theorem parseV_pos (m : Nat) (h1 : m < 9223372036854775808) : parseV (Lib.decDigits m) = some (m : Int) := by
  have hd := decDigits_dig m
  have hm : Lib.parseMag (Lib.decDigits m) = .ok m := by
    rw [parseMag_ne (decDigits_ne m), parse_val _ 0 hd (by rw [decDigits_val]; omega), decDigits_val]
  obtain ⟨c, r, e⟩ : ∃ c r, Lib.decDigits m = c :: r := by
    cases h : Lib.decDigits m with
    | nil => exact absurd h (decDigits_ne m)
    | cons c r => exact ⟨c, r, rfl⟩
  have hcd := hd c (by rw [e]; simp)
  have hc45 : c ≠ 45 := ne_of_toNat (n := 45) (by omega) (by omega)
  have hcan : canL (Lib.decDigits m) = true := by
    unfold canL
    rw [e, trim_other c r hc45]
    simp only []
    rw [if_neg (by simp)]
    split
    · rename_i hh
      have h48 : c = 48 := by simpa using hh
      rw [decide_eq_true_eq]
      by_cases h0 : 0 < m
      · obtain ⟨c', r', e', hc'⟩ := decDigits_head m h0
        rw [e] at e'
        injection e' with e1 e2
        rw [← e1, h48] at hc'
        exact absurd hc' (by decide)
      · obtain rfl : m = 0 := by omega
        rw [Lib.decDigits_one (by omega)] at e
        rw [← e]; rfl
    · rw [all_digs, ← e]; exact hd
  have ha : Lib.atoiAll (Lib.decDigits m) = .ok (m : Int) := by
    rw [e] at hm ⊢
    rw [atoi_of c _ _ m (if_neg (by omega)) hm, if_neg (by intro h; omega), if_neg (by intro h; omega), if_neg (by omega)]
  simp only [parseV, hcan, ha, if_true]
/-- What Text writes Parse reads. -/
theorem parseV_itoa (n : Int) (h0 : -9223372036854775808 ≤ n) (h1 : n ≤ 9223372036854775807) : parseV (Lib.itoa n) = some n := by
  unfold Lib.itoa
  split
  · rw [parseV_neg _ (by omega) (by omega)]; congr 1; omega
  · rw [parseV_pos _ (by omega)]; congr 1; omega
/-- What Parse reads Text writes. -/
theorem itoa_parseV (l : List UInt8) (v : Int) (h : parseV l = some v) : Lib.itoa v = l ∧ -9223372036854775808 ≤ v ∧ v ≤ 9223372036854775807 := by
  unfold parseV at h
  split at h
  · rename_i hcan
    cases ha : Lib.atoiAll l with
    | ok v' =>
      rw [ha] at h
      injection h with h
      subst h
      cases l with
      | nil => exact absurd ha (by intro e; cases e)
      | cons c r =>
        by_cases h45 : c = 45
        · subst h45
          unfold canL at hcan
          rw [trim_minus] at hcan
          simp only [] at hcan
          split at hcan
          · cases hcan
          · rename_i hne
            split at hcan
            · exact absurd (of_decide_eq_true hcan) (by intro e; injection e with e1 _; exact absurd e1 (by decide))
            · rename_i hhead
              have hd := all_digs.1 hcan
              obtain ⟨u, hm, ha2⟩ := of_atoi 45 r r v' (if_pos (Or.inr (by decide))) ha
              clear ha
              have ha := ha2
              clear ha2
              · rw [if_neg (by intro h; exact h.1 (by decide))] at ha
                split at ha
                · cases ha
                · rename_i hle
                  rw [if_pos (by decide)] at ha
                  have hav : -(u : Int) = v' := by injection ha
                  rw [parseMag_ne hne] at hm
                  obtain ⟨hu, _⟩ := val_parse r 0 u hm
                  cases r with
                  | nil => exact absurd rfl hne
                  | cons x r =>
                    have hx := hd x (by simp)
                    have hx48 : x.toNat ≠ 48 := fun e => hhead (by
                      have : x = 48 := UInt8.toNat_inj.1 e
                      rw [this]; rfl)
                    have hn := numeral x r (by omega) (fun y hy => hd y (by simp [hy]))
                    have hpos : 0 < u := by
                      rcases Nat.eq_zero_or_pos u with h0 | h0
                      · rw [← hu, h0, Lib.decDigits_one (by omega)] at hn
                        injection hn with e1 _
                        rw [← e1] at hx48
                        exact absurd rfl hx48
                      · exact h0
                    have hub : u ≤ 9223372036854775808 := by
                      by_cases hh : u ≤ 9223372036854775808
                      · exact hh
                      · exact absurd ⟨by decide, by omega⟩ hle
                    refine ⟨?_, by omega, by omega⟩
                    rw [← hav]
                    unfold Lib.itoa
                    rw [if_pos (by omega), show (-(u : Int)).natAbs = u by omega, hu, hn]
        · unfold canL at hcan
          rw [trim_other c r h45] at hcan
          simp only [] at hcan
          rw [if_neg (by simp)] at hcan
          have h45n : c.toNat ≠ 45 := fun e => h45 (UInt8.toNat_inj.1 e)
          have hkey : (∀ x ∈ c :: r, 48 ≤ x.toNat ∧ x.toNat ≤ 57) ∧ Lib.decDigits (val 0 (c :: r)) = c :: r := by
            split at hcan
            · have e := of_decide_eq_true hcan
              rw [e]
              refine ⟨by decide, ?_⟩
              show Lib.decDigits 0 = [48]
              rw [Lib.decDigits_one (by omega)]; rfl
            · rename_i hhead
              have hd := all_digs.1 hcan
              have hc := hd c (by simp)
              have hc48 : c.toNat ≠ 48 := fun e => hhead (by
                have : c = 48 := UInt8.toNat_inj.1 e
                rw [this]; rfl)
              exact ⟨hd, numeral c r (by omega) (fun y hy => hd y (by simp [hy]))⟩
          have hc := hkey.1 c (by simp)
          obtain ⟨u, hm, ha⟩ := of_atoi c r (c :: r) v' (if_neg (by omega)) ha
          · split at ha
            · cases ha
            · rename_i hle
              have hav : (u : Int) = v' := by
                simp only [h45n, false_and, if_false] at ha; injection ha
              rw [parseMag_ne (by simp)] at hm
              obtain ⟨hu, _⟩ := val_parse _ 0 u hm
              have hub : u < 9223372036854775808 := by
                by_cases hh : u < 9223372036854775808
                · exact hh
                · exact absurd ⟨h45n, by omega⟩ hle
              refine ⟨?_, by omega, by omega⟩
              rw [← hav]
              unfold Lib.itoa
              rw [if_neg (by omega), show ((u : Nat) : Int).toNat = u by omega, hu, hkey.2]
    | _ => rw [ha] at h; cases h
  · cases h
end Go.Proofs.YtdinachiiimngaaGreatDoor.Nu
namespace Go.Proofs.YtdinachiiimngaaGreatDoor
open Go.ChangeShapes Go.WideShapes Go.ChangeAt Go.RowKit
open TokP

set_option maxRecDepth 100000 in
set_option maxHeartbeats 2000000 in
theorem rtext_any (v : Value) (l : List Tok) (w : World) (h : HasF w v l) (hl : (joinL l).length ≤ 4000000) (hn : l.length ≤ 4000000) :
    Calls Tryz.prog 36 #[v] w fun e w' => e = .returned (.string (strL (joinL l))) ∧ w = w' := by
  rcases h with ⟨rfl, rfl⟩ | ⟨g, o, c, rfl, h⟩
  · go_enter Tryz.func36, Tryz.ntmps36
    go_wp2_with fail
    go_loopw [3, 4] (fun r i wr => i = .int .i64 0 ∧ r = .string ⟨#[]⟩ ∧ wr = w) (fun _ _ _ => 0)
    case atStart => exact ⟨rfl, rfl, rfl⟩
    case round =>
      obtain ⟨rfl, rfl, rfl⟩ := hrel
      go_wp2_with fail
      go_ret
      exact ⟨rfl, rfl⟩
  · obtain ⟨n, hnn⟩ : ∃ n, l.length = n := ⟨_, rfl⟩
    rw [hnn] at hn ⊢
    have HN := Lib.hid hnn
    have HL := Lib.hid hl
    have H := Lib.hid h
    clear hnn hl h
    go_enter Tryz.func36, Tryz.ntmps36
    go_wp2_with fail
    go_loopw [3, 4] (fun r i wr => ∃ (k : Nat) (O : ByteArray), k ≤ n ∧ i = .int .i64 k ∧ r = .string O ∧ wr = w ∧ O.size ≤ 4000000 ∧ Hid (O.data.toList = joinL (l.take k))) (fun _ i _ => n - (intOf i).toNat)
    case atStart => exact ⟨0, ⟨#[]⟩, Nat.zero_le _, rfl, rfl, rfl, by decide, rfl⟩
    case round =>
      obtain ⟨k, O, hk, rfl, rfl, rfl, hO, HO⟩ := hrel
      have F1 : IntKind.i64.wrap ((k : Int) + 1) = (k : Int) + 1 := by rw [IntKind.wrap_i64]; omega
      by_cases hlt : k < n
      · have hlt' : (k : Int) < (n : Int) := by omega
        obtain ⟨f, hf⟩ : ∃ f, l[k]? = some f := ⟨_, List.getElem?_eq_getElem (by rw [HN.out]; exact hlt)⟩
        obtain ⟨_, k2⟩ := H.out k f hf
        have hrl := text_le l k f hf
        have hL := HL.out
        have hst := join_step l k f hf
        rw [← HO.out] at hst hrl
        rw [← size_list] at hrl
        have sR : (strL f.text).size = f.text.length := strL_size _
        have lR : (strL f.text).data.toList = f.text := rfl
        rw [← lR, ← list_append] at hst
        have hOR : O.size + (strL f.text).size ≤ 4000000 := by omega
        have hRz : (strL f.text).size ≤ 4000000 := by omega
        generalize strL f.text = R at k2 hst hOR hRz
        have HST := Lib.hid hst.symm
        clear hf hrl hL hst sR lR
        go_wp2_with fail
        go_roundw
        case rel => exact ⟨k + 1, O ++ R, by omega, by go_num, rfl, trivial, by rw [ByteArray.size_append]; exact hOR, HST⟩
        case measure => simp [intOf]; omega
      · obtain rfl : k = n := by omega
        have hT : l.take k = l := List.take_of_length_le (by rw [HN.out]; exact Nat.le_refl _)
        have hE := HO.out
        rw [hT] at hE
        have HE := Lib.hid (strL_is hE)
        have hlt' : ¬ (k : Int) < (k : Int) := by omega
        clear hE hT
        go_wp2_with fail
        go_ret
        exact ⟨by rw [← HE.out]; rfl, rfl⟩
end Go.Proofs.YtdinachiiimngaaGreatDoor
