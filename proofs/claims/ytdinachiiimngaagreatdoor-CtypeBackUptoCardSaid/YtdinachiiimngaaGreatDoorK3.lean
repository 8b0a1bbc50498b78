/- Mail addresses, of no program: lists of addresses that are written are read back. Mail addresses, of no program: valid addresses, canonical forms; dot-atoms byte by byte. Content types, of no program: rows, parameters, their decoding and their writing. The reference's Rows: slices of tokens in a slice. CtypeBack's core, of no program: a type that is written is read back; so is a disposition. Mail addresses, of no program: the program's ways: the bounds of the first piece, finds, ids by cuts, dot-atoms by tokens. Rows and the parameter of a row by indices, as the program finds them; of no program. Parts of a slice of tokens; slices.Index and slices.IndexFunc over tokens; the program's rows. Further contracts of the library, in this translation's numbers. -/
import Derived.Test.YtdinachiiimngaaGreatDoorK2
import Derived.Maps.AppendAt
import Derived.Test.YtdinachiiimngaaGreatDoorK1
import Derived.Shelf.Strings.SlTrimAscii
import Derived.Shelf.Strings.Trim
import Derived.Shelf.Utf8.RuneCount
import Derived.Shelf.LaysM
import Derived.Shelf.Strings.Search1
import Derived.Shelf.Strings.Search2
import Derived.Shelf.Strings.Search3
import Derived.Shelf.Strings.Count
import Derived.Shelf.Strings.Split
import Derived.Shelf.Strings.Replace
import Derived.Shelf.Strings.MapAny
import Derived.Test.YtdinachiiimngaaGreatDoorProg
namespace Go.Proofs.YtdinachiiimngaaGreatDoor.AdrP
open TokP

def specW (a : Adr) : List UInt8 := locW a.loc ++ 64 :: a.dom
def oneW (a : Adr) : List UInt8 := if a.name = [] then specW a else quoteL a.name ++ 32 :: 60 :: (specW a ++ [62])
def writeL : List Adr → List UInt8
  | [] => []
  | [a] => oneW a
  | a :: b :: r => oneW a ++ 44 :: 32 :: writeL (b :: r)
theorem upTo_at (c : UInt8) : ∀ (X : List Tok) (u : Tok) (D : List Tok), (∀ t ∈ X, isS t c = false) → isS u c = true → upToS c (X ++ u :: D) = X ∧ fromS c (X ++ u :: D) = u :: D
  | [], u, D, _, hu => by
    unfold upToS fromS
    rw [List.nil_append, List.takeWhile_cons_of_neg (by rw [hu]; simp), List.dropWhile_cons_of_neg (by rw [hu]; simp)]
    exact ⟨rfl, rfl⟩
  | t :: X, u, D, h, hu => by
    have ht := h t (by simp)
    obtain ⟨i1, i2⟩ := upTo_at c X u D (fun x hx => h x (by simp [hx])) hu
    unfold upToS at i1
    unfold fromS at i2
    unfold upToS fromS
    rw [List.cons_append, List.takeWhile_cons_of_pos (by rw [ht]; rfl), List.dropWhile_cons_of_pos (by rw [ht]; rfl), i1, i2]
    exact ⟨rfl, rfl⟩
theorem upTo_no (c : UInt8) : ∀ (X : List Tok), (∀ t ∈ X, isS t c = false) → fromS c X = []
  | [], _ => rfl
  | t :: X, h => by
    unfold fromS
    rw [List.dropWhile_cons_of_pos (by rw [h t (by simp)]; rfl)]
    exact upTo_no c X (fun x hx => h x (by simp [hx]))
theorem spec_scan (a : Adr) (h : domOk a.dom) : (∀ t ∈ scanL (specW a), Fine t) ∧ specT (scanL (specW a)) = some ⟨[], a.loc, a.dom⟩ ∧ (∃ t r, scanL (specW a) = t :: r ∧ isS t 64 = false) ∧ (∀ c r, specW a = c :: r → TokP.blank c = false) := by
  obtain ⟨l1, l2, l3, l4⟩ := loc_good a.loc
  obtain ⟨d1, d2, d3, d4⟩ := dom_good a.dom h
  have hs : scanL (specW a) = scanL (locW a.loc) ++ ⟨4, [64]⟩ :: scanL a.dom := by
    unfold specW
    rw [scan_app (locW a.loc) (64 :: a.dom) (fun t ht => fine_ends (l2 t (List.mem_of_getLast? ht)).1 (headNot_cons _ (by decide)))]
    rw [scan_cons (64 :: a.dom) (by simp)]
    rfl
  refine ⟨?_, ?_, ?_, ?_⟩
  · intro t ht
    rw [hs] at ht
    rcases List.mem_append.1 ht with ht | ht
    · exact (l2 t ht).1
    · rcases List.mem_cons.1 ht with rfl | ht
      · exact .inr (.inr (.inr (.inr rfl)))
      · exact d2 t ht
  · obtain ⟨u1, u2⟩ := upTo_at 64 (scanL (locW a.loc)) ⟨4, [64]⟩ (scanL a.dom) (fun t ht => (l2 t ht).2) rfl
    unfold specT
    rw [hs, u2, u1]
    dsimp only
    rw [l1, d1]
  · rw [hs]
    obtain ⟨t, r, he⟩ := List.exists_cons_of_ne_nil l4
    rw [he]
    exact ⟨t, _, rfl, (l2 t (by rw [he]; simp)).2⟩
  · intro c r hc
    unfold specW locW at hc
    split at hc
    · rename_i hd
      obtain ⟨d, t, he, ha, _⟩ := dot_head a.loc hd
      rw [he] at hc
      obtain ⟨rfl, _⟩ := List.cons.inj hc
      exact (atom_not d ha).1
    · obtain ⟨rfl, _⟩ := List.cons.inj hc
      decide
/-! ### Names -/
theorem nameR_cons (l : List Tok) (t : Tok) (h : isS t 46 = false) : nameR (t :: l) = 32 :: nameL (t :: l) := by
  rw [nameR, nameL, h]
  rfl
/-- What a name scans to. -/
def NameOk (w s : List UInt8) : Prop := nameL (bareT (scanL w)) = s ∧ (∀ t ∈ bareT (scanL w), t.kind = 1 ∨ t.kind = 2) ∧ bareT (scanL w) ≠ [] ∧ ∀ t, (scanL w).getLast? = some t → t.kind = 1 ∨ t.kind = 2
theorem kind_isS {t : Tok} (h : t.kind = 1 ∨ t.kind = 2) (c : UInt8) : isS t c = false := by
  unfold isS
  rcases h with h | h
  · rw [h]; rfl
  · rw [h]; rfl
theorem plain_name : ∀ (n : Nat) (s : List UInt8), s.length ≤ n → plainA false s = true → NameOk s s := by
  intro n
  induction n with
  | zero =>
    intro s h hp
    obtain rfl : s = [] := List.eq_nil_of_length_eq_zero (by omega)
    exact absurd hp (by decide)
  | succ n ih =>
    intro s h hp
    obtain ⟨c, t, rfl, hc, ht⟩ := plain_head s hp
    have hr := plain_skip t ht
    have hpre := front_pre (c :: t)
    unfold NameOk
    rw [scan_cons _ (by simp), front_atom c t hc] at *
    have hn : ∀ x, (t.drop (t.takeWhile atomB).length).head? = some x → atomB x = false := fun x hx => head_drop atomB t x hx
    have hl : (t.drop (t.takeWhile atomB).length).length ≤ t.length := by rw [List.length_drop]; omega
    have hd : (c :: t).drop ((c :: t).takeWhile atomB).length = t.drop (t.takeWhile atomB).length := by
      rw [List.takeWhile_cons_of_pos hc, List.length_cons, List.drop_succ_cons]
    dsimp only at hpre ⊢
    rw [hd] at hpre ⊢
    generalize (c :: t).takeWhile atomB = A at hpre ⊢
    generalize t.drop (t.takeWhile atomB).length = r at hr hn hl hpre ⊢
    have hv : valueL ⟨1, A⟩ = A := rfl
    cases r with
    | nil =>
      rw [List.append_nil] at hpre
      have e : bareT ((⟨1, A⟩ : Tok) :: scanL []) = [⟨1, A⟩] := rfl
      rw [e]
      refine ⟨?_, ?_, by simp, ?_⟩
      · rw [nameL, hv, nameR, List.append_nil, hpre]
      · intro u hu
        obtain rfl := List.mem_singleton.1 hu
        exact .inl rfl
      · intro u hu
        obtain rfl : (⟨1, A⟩ : Tok) = u := by simpa [scan_nil] using hu
        exact .inl rfl
    | cons x r =>
      have hx := hn x rfl
      rw [plainA, if_neg (by rw [hx]; exact Bool.false_ne_true)] at hr
      split at hr
      · rename_i hx2
        obtain rfl := hx2.1
        obtain ⟨y, u, hru, hy, _⟩ := plain_head r hr
        have hs : scanL (32 :: r) = ⟨6, [32]⟩ :: scanL r := by
          have hf : frontL (32 :: r) = ⟨6, [32]⟩ := by
            rw [hru, frontL, if_pos (by decide), List.takeWhile_cons_of_pos (by decide), List.takeWhile_cons_of_neg (by rw [(atom_not y hy).1]; exact Bool.false_ne_true)]
          rw [scan_cons (32 :: r) (by simp), hf]; rfl
        obtain ⟨i1, i2, i3, i4⟩ := ih r (by rw [List.length_cons] at h hl; omega) hr
        have e : bareT ((⟨1, A⟩ : Tok) :: scanL (32 :: r)) = ⟨1, A⟩ :: bareT (scanL r) := by rw [hs]; rfl
        rw [e]
        refine ⟨?_, ?_, by simp, ?_⟩
        · obtain ⟨v, q, hq⟩ := List.exists_cons_of_ne_nil i3
          rw [nameL, hv, hq, nameR_cons q v (kind_isS (i2 v (by rw [hq]; simp)) 46), ← hq, i1, hpre]
        · intro v hv'
          rcases List.mem_cons.1 hv' with rfl | hv'
          · exact .inl rfl
          · exact i2 v hv'
        · intro v hv'
          rw [hs] at hv'
          have hne : scanL r ≠ [] := by intro e'; rw [e'] at i3; exact i3 rfl
          refine i4 v ?_
          rw [List.getLast?_cons_cons, List.getLast?_cons] at hv'
          cases hlast : (scanL r).getLast? with
          | none => rw [List.getLast?_eq_none_iff] at hlast; exact absurd hlast hne
          | some z => rw [hlast] at hv'; exact hv'
      · exact absurd hr Bool.false_ne_true
theorem name_ok (s : List UInt8) : NameOk (quoteL s) s := by
  by_cases h : plainA false s = true
  · rw [(plain_alt s h).1]
    exact plain_name s.length s (Nat.le_refl _) h
  · obtain ⟨e, h1, h2, _⟩ := quote_one s (by simpa using h)
    unfold NameOk
    rw [h1]
    have eb : bareT [(⟨2, quoteL s⟩ : Tok)] = [⟨2, quoteL s⟩] := rfl
    rw [eb]
    refine ⟨?_, ?_, by simp, ?_⟩
    · rw [nameL, nameR, List.append_nil, h2]
    · intro u hu
      obtain rfl := List.mem_singleton.1 hu
      exact .inr rfl
    · intro u hu
      obtain rfl : (⟨2, quoteL s⟩ : Tok) = u := by simpa using hu
      exact .inr rfl
/-! ### One address -/
theorem pcs_plain : ∀ (T r now : List Tok), (∀ t ∈ T, isS t 44 = false ∧ isS t 59 = false ∧ isS t 58 = false ∧ isS t 60 = false) → pcs false now (T ++ r) = pcs false (now ++ T) r
  | [], r, now, _ => by rw [List.nil_append, List.append_nil]
  | t :: T, r, now, h => by
    obtain ⟨h1, h2, h3, h4⟩ := h t (by simp)
    rw [List.cons_append, pcs, if_neg (by rw [h1, h2]; simp), h4, h3, if_neg Bool.false_ne_true, pcs_plain T r (now ++ [t]) (fun x hx => h x (by simp [hx])), List.append_assoc]
    rfl
theorem pcs_in : ∀ (S r now : List Tok), (∀ t ∈ S, isS t 62 = false) → pcs true now (S ++ ⟨4, [62]⟩ :: r) = pcs false (now ++ (S ++ [⟨4, [62]⟩])) r
  | [], r, now, _ => by
    rw [List.nil_append, pcs, show isS ⟨4, [62]⟩ 62 = true from rfl]; rfl
  | t :: S, r, now, h => by
    rw [List.cons_append, pcs, h t (by simp), Bool.not_false, pcs_in S r (now ++ [t]) (fun x hx => h x (by simp [hx])), List.append_assoc]
    rfl
theorem ins_plain : ∀ (T r : List Tok), (∀ t ∈ T, isS t 60 = false) → ins false (T ++ r) = ins false r
  | [], _, _ => rfl
  | t :: T, r, h => by rw [List.cons_append, ins, h t (by simp), ins_plain T r (fun x hx => h x (by simp [hx]))]
theorem ins_in : ∀ (S r : List Tok), (∀ t ∈ S, isS t 62 = false) → ins true (S ++ ⟨4, [62]⟩ :: r) = ins false r
  | [], r, _ => by rw [List.nil_append, ins, show isS ⟨4, [62]⟩ 62 = true from rfl]; rfl
  | t :: S, r, h => by rw [List.cons_append, ins, h t (by simp), Bool.not_false, ins_in S r (fun x hx => h x (by simp [hx]))]
/-- All that is wanted of an address that is written. -/
theorem one_write (a : Adr) (h : domOk a.dom) : oneT (bareT (scanL (oneW a))) = some a ∧ pcs false [] (bareT (scanL (oneW a))) = [bareT (scanL (oneW a))] ∧ ins false (bareT (scanL (oneW a))) = false ∧ bareT (scanL (oneW a)) ≠ [] ∧
    (∀ t, (scanL (oneW a)).getLast? = some t → ∀ b, HeadNot atomB b → TokP.Ends t b) ∧ (∀ c r, oneW a = c :: r → TokP.blank c = false) ∧ oneW a ≠ [] := by
  obtain ⟨s1, s2, ⟨s3, s4, s5, s6⟩, s7⟩ := spec_scan a h
  have hsw : specW a ≠ [] := by unfold specW; simp
  by_cases hn : a.name = []
  · unfold oneW
    rw [if_pos hn, bare_fine _ s1]
    refine ⟨?_, ?_, ?_, by rw [s5]; simp, fun t ht b hb => fine_ends (s1 t (List.mem_of_getLast? ht)) hb, s7, hsw⟩
    · unfold oneT
      rw [upTo_no 60 _ (fun t ht => fine_not (s1 t ht) (by decide) (by decide))]
      show specT _ = _
      rw [s2]
      cases a
      simp only at hn ⊢
      rw [hn]
    · have := pcs_plain (scanL (specW a)) [] [] (fun t ht => ⟨fine_not (s1 t ht) (by decide) (by decide), fine_not (s1 t ht) (by decide) (by decide), fine_not (s1 t ht) (by decide) (by decide), fine_not (s1 t ht) (by decide) (by decide)⟩)
      rw [List.append_nil, List.nil_append] at this
      rw [this]; rfl
    · have := ins_plain (scanL (specW a)) [] (fun t ht => fine_not (s1 t ht) (by decide) (by decide))
      rw [List.append_nil] at this
      rw [this]; rfl
  · obtain ⟨n1, n2, n3, n4⟩ := name_ok a.name
    have hq : quoteL a.name ≠ [] := by
      intro e
      rw [e] at n3
      exact n3 rfl
    have e1 : scanL (specW a ++ [62]) = scanL (specW a) ++ [⟨4, [62]⟩] := scan_app _ _ (fun t ht => fine_ends (s1 t (List.mem_of_getLast? ht)) (headNot_cons _ (by decide)))
    have e2 : scanL (60 :: (specW a ++ [62])) = ⟨4, [60]⟩ :: (scanL (specW a) ++ [⟨4, [62]⟩]) := by
      rw [scan_cons (60 :: (specW a ++ [62])) (by simp)]
      exact congrArg (⟨4, [60]⟩ :: ·) e1
    have e3 : scanL (32 :: 60 :: (specW a ++ [62])) = ⟨6, [32]⟩ :: ⟨4, [60]⟩ :: (scanL (specW a) ++ [⟨4, [62]⟩]) := by
      rw [← e2]
      exact scan_app [32] (60 :: (specW a ++ [62])) (fun u hu => by
        obtain rfl : (⟨6, [32]⟩ : Tok) = u := by simpa [show scanL [32] = [⟨6, [32]⟩] from by decide] using hu
        exact ⟨fun _ => headNot_cons _ (by decide), fun e => absurd e (by decide), fun e => absurd e.1 (by decide)⟩)
    have e4 : scanL (quoteL a.name ++ 32 :: 60 :: (specW a ++ [62])) = scanL (quoteL a.name) ++ ⟨6, [32]⟩ :: ⟨4, [60]⟩ :: (scanL (specW a) ++ [⟨4, [62]⟩]) := by
      rw [← e3]
      refine scan_app _ _ (fun t ht => ⟨fun e => ?_, fun _ => headNot_cons _ (by decide), fun e => ?_⟩)
      · rcases n4 t ht with k | k
        · rw [k] at e; exact absurd e (by decide)
        · rw [k] at e; exact absurd e (by decide)
      · have e := e.1
        rcases n4 t ht with k | k
        · rw [k] at e; exact absurd e (by decide)
        · rw [k] at e; exact absurd e (by decide)
    have e5 : bareT (scanL (oneW a)) = bareT (scanL (quoteL a.name)) ++ ⟨4, [60]⟩ :: (scanL (specW a) ++ [⟨4, [62]⟩]) := by
      unfold oneW
      rw [if_neg hn, e4, bare_app]
      have : bareT ((⟨6, [32]⟩ : Tok) :: ⟨4, [60]⟩ :: (scanL (specW a) ++ [⟨4, [62]⟩])) = ⟨4, [60]⟩ :: (bareT (scanL (specW a)) ++ [⟨4, [62]⟩]) := by
        show ⟨4, [60]⟩ :: bareT (scanL (specW a) ++ [⟨4, [62]⟩]) = _
        rw [bare_app]; rfl
      rw [this, bare_fine _ s1]
    have k60 : ∀ t ∈ bareT (scanL (quoteL a.name)), isS t 60 = false := fun t ht => kind_isS (n2 t ht) 60
    have k62 : ∀ t ∈ scanL (specW a), isS t 62 = false := fun t ht => fine_not (s1 t ht) (by decide) (by decide)
    obtain ⟨u1, u2⟩ := upTo_at 60 _ ⟨4, [60]⟩ (scanL (specW a) ++ [⟨4, [62]⟩]) k60 rfl
    obtain ⟨v1, v2⟩ := upTo_at 62 _ ⟨4, [62]⟩ [] k62 rfl
    have hall : (bareT (scanL (quoteL a.name))).all nameT = true := by
      rw [List.all_eq_true]
      intro t ht
      unfold nameT wordT
      rcases n2 t ht with k | k
      · rw [k]; rfl
      · rw [k]; rfl
    have hro : routed (scanL (specW a)) = scanL (specW a) := by
      unfold routed
      rw [s5]
      dsimp only
      rw [s6, if_neg Bool.false_ne_true]
    refine ⟨?_, ?_, ?_, by rw [e5]; simp, ?_, ?_, ?_⟩
    · unfold oneT
      rw [e5, u2]
      dsimp only
      rw [u1, v2, v1, if_pos ⟨hall, rfl⟩, hro, s2, n1]
      rfl
    · rw [e5]
      have p1 := pcs_plain (bareT (scanL (quoteL a.name))) (⟨4, [60]⟩ :: (scanL (specW a) ++ [⟨4, [62]⟩])) [] (fun t ht => ⟨kind_isS (n2 t ht) _, kind_isS (n2 t ht) _, kind_isS (n2 t ht) _, kind_isS (n2 t ht) _⟩)
      have p2 := pcs_in (scanL (specW a)) [] (bareT (scanL (quoteL a.name)) ++ [⟨4, [60]⟩]) k62
      rw [p1, List.nil_append, pcs, if_neg (by decide), show isS ⟨4, [60]⟩ 60 = true from rfl, show isS ⟨4, [60]⟩ 58 = false from rfl, if_neg Bool.false_ne_true, p2, pcs, List.append_assoc]
      rfl
    · rw [e5, ins_plain _ _ k60, ins, show isS ⟨4, [60]⟩ 60 = true from rfl, ins_in _ _ k62]
      rfl
    · intro t ht b hb
      unfold oneW at ht
      rw [if_neg hn, e4] at ht
      have : (scanL (quoteL a.name) ++ (⟨6, [32]⟩ : Tok) :: (⟨4, [60]⟩ : Tok) :: (scanL (specW a) ++ [(⟨4, [62]⟩ : Tok)])).getLast? = some (⟨4, [62]⟩ : Tok) := by
        rw [show scanL (quoteL a.name) ++ (⟨6, [32]⟩ : Tok) :: (⟨4, [60]⟩ : Tok) :: (scanL (specW a) ++ [(⟨4, [62]⟩ : Tok)]) = (scanL (quoteL a.name) ++ (⟨6, [32]⟩ : Tok) :: (⟨4, [60]⟩ : Tok) :: scanL (specW a)) ++ [(⟨4, [62]⟩ : Tok)] by simp]
        exact List.getLast?_concat ..
      rw [this] at ht
      obtain rfl := Option.some.inj ht
      exact ⟨fun e => absurd e (by decide), fun e => absurd e (by decide), fun e => absurd e.1 (by decide)⟩
    · intro c r hc
      unfold oneW at hc
      rw [if_neg hn] at hc
      by_cases hpl : plainA false a.name = true
      · obtain ⟨d, t, he, ha, _⟩ := plain_head a.name hpl
        rw [(plain_alt _ hpl).1, he] at hc
        obtain ⟨rfl, _⟩ := List.cons.inj hc
        exact (atom_not d ha).1
      · rw [(quote_one a.name (by simpa using hpl)).1] at hc
        obtain ⟨rfl, _⟩ := List.cons.inj hc
        decide
    · unfold oneW
      rw [if_neg hn]
      simp
theorem write_head : ∀ (l : List Adr), (∀ a ∈ l, domOk a.dom) → HeadNot TokP.blank (writeL l)
  | [], _ => headNot_nil _
  | [a], h => (one_write a (h a (by simp))).2.2.2.2.2.1
  | a :: b :: r, h => by
    obtain ⟨_, _, _, _, _, h6, h7⟩ := one_write a (h a (by simp))
    intro c x hc
    obtain ⟨d, y, hd⟩ := List.exists_cons_of_ne_nil h7
    have e : writeL (a :: b :: r) = oneW a ++ 44 :: 32 :: writeL (b :: r) := rfl
    rw [e, hd, List.cons_append] at hc
    obtain ⟨rfl, _⟩ := List.cons.inj hc
    exact h6 d y hd
/-- AddrBack. -/
theorem parse_write : ∀ (l : List Adr), (∀ a ∈ l, domOk a.dom) → parseA (writeL l) = (l, true)
  | [], _ => rfl
  | [a], h => by
    obtain ⟨h1, h2, _, h4, _⟩ := one_write a (h a (by simp))
    show parseP (pcs false [] (bareT (scanL (oneW a)))) = _
    rw [h2]
    unfold parseP
    rw [List.filterMap_cons, h1]
    simp [h1]
  | a :: b :: r, h => by
    obtain ⟨h1, h2, h3, h4, h5, _⟩ := one_write a (h a (by simp))
    have ih := parse_write (b :: r) (fun x hx => h x (by simp [hx]))
    have hw := write_head (b :: r) (fun x hx => h x (by simp [hx]))
    have e1 : scanL (32 :: writeL (b :: r)) = ⟨6, [32]⟩ :: scanL (writeL (b :: r)) := scan_app [32] (writeL (b :: r)) (fun u hu => by
      obtain rfl : (⟨6, [32]⟩ : Tok) = u := by simpa [show scanL [32] = [⟨6, [32]⟩] from by decide] using hu
      exact ⟨fun _ => hw, fun e => absurd e (by decide), fun e => absurd e.1 (by decide)⟩)
    have e2 : scanL (44 :: 32 :: writeL (b :: r)) = ⟨4, [44]⟩ :: ⟨6, [32]⟩ :: scanL (writeL (b :: r)) := by
      rw [scan_cons (44 :: 32 :: writeL (b :: r)) (by simp)]
      exact congrArg (⟨4, [44]⟩ :: ·) e1
    have e3 : scanL (writeL (a :: b :: r)) = scanL (oneW a) ++ ⟨4, [44]⟩ :: ⟨6, [32]⟩ :: scanL (writeL (b :: r)) := by
      rw [← e2]
      exact scan_app (oneW a) _ (fun t ht => h5 t ht _ (headNot_cons _ (by decide)))
    have e4 : bareT (scanL (writeL (a :: b :: r))) = bareT (scanL (oneW a)) ++ ⟨4, [44]⟩ :: bareT (scanL (writeL (b :: r))) := by
      rw [e3, bare_app]; rfl
    unfold parseA at ih ⊢
    rw [e4, pcs_app _ _ _ _ _ (.inl rfl) h3, parse_app, ih, h2]
    unfold parseP
    rw [List.filterMap_cons, h1]
    simp [h1]
end Go.Proofs.YtdinachiiimngaaGreatDoor.AdrP
namespace Go.Proofs.YtdinachiiimngaaGreatDoor.AdrP
open TokP

/-- A letter in lower case. -/
def lowA (c : UInt8) : UInt8 := if 65 ≤ c.toNat ∧ c.toNat ≤ 90 then c + 32 else c
theorem byte_all {P : UInt8 → Prop} (h : ∀ n : Fin 256, P (UInt8.ofNat n.val)) (c : UInt8) : P c := by
  have := h ⟨c.toNat, c.toNat_lt⟩
  rwa [UInt8.ofNat_toNat] at this
theorem low_facts : ∀ n : Fin 256, atomB (lowA (UInt8.ofNat n.val)) = atomB (UInt8.ofNat n.val) ∧ (lowA (UInt8.ofNat n.val) = 46 ↔ UInt8.ofNat n.val = 46) ∧ lowA (lowA (UInt8.ofNat n.val)) = lowA (UInt8.ofNat n.val) ∧
    (32 < (UInt8.ofNat n.val).toNat → 32 < (lowA (UInt8.ofNat n.val)).toNat) ∧ (UInt8.ofNat n.val ≠ 127 → lowA (UInt8.ofNat n.val) ≠ 127) ∧ (UInt8.ofNat n.val ≠ 91 → lowA (UInt8.ofNat n.val) ≠ 91) ∧ (UInt8.ofNat n.val ≠ 93 → lowA (UInt8.ofNat n.val) ≠ 93) ∧ (UInt8.ofNat n.val ≠ 92 → lowA (UInt8.ofNat n.val) ≠ 92) := by decide +kernel
theorem low_all (c : UInt8) : atomB (lowA c) = atomB c ∧ (lowA c = 46 ↔ c = 46) ∧ lowA (lowA c) = lowA c ∧ (32 < c.toNat → 32 < (lowA c).toNat) ∧ (c ≠ 127 → lowA c ≠ 127) ∧ (c ≠ 91 → lowA c ≠ 91) ∧ (c ≠ 93 → lowA c ≠ 93) ∧ (c ≠ 92 → lowA c ≠ 92) :=
  byte_all (P := fun c => atomB (lowA c) = atomB c ∧ (lowA c = 46 ↔ c = 46) ∧ lowA (lowA c) = lowA c ∧ (32 < c.toNat → 32 < (lowA c).toNat) ∧ (c ≠ 127 → lowA c ≠ 127) ∧ (c ≠ 91 → lowA c ≠ 91) ∧ (c ≠ 93 → lowA c ≠ 93) ∧ (c ≠ 92 → lowA c ≠ 92)) low_facts c
theorem low_twice (s : List UInt8) : (s.map lowA).map lowA = s.map lowA := by
  rw [List.map_map]
  exact List.map_congr_left fun c _ => (low_all c).2.2.1
theorem dot_low : ∀ (s : List UInt8) (b : Bool), dotA b (s.map lowA) = dotA b s
  | [], _ => rfl
  | c :: t, b => by
    obtain ⟨h1, h2, _⟩ := low_all c
    rw [List.map_cons, dotA, dotA, h1, dot_low t true, dot_low t false]
    simp only [h2]
theorem lit_low (s : List UInt8) (h : litOk s) : litOk (s.map lowA) := by
  obtain ⟨b, rfl, hb⟩ := h
  refine ⟨b.map lowA, ?_, ?_⟩
  · rw [List.map_cons, List.map_append]; rfl
  · intro c hc
    obtain ⟨d, hd, rfl⟩ := List.mem_map.1 hc
    obtain ⟨a1, a2, a3, a4, a5⟩ := hb d hd
    obtain ⟨_, _, _, l1, l2, l3, l4, l5⟩ := low_all d
    exact ⟨l1 a1, l2 a2, l3 a3, l4 a4, l5 a5⟩
theorem dom_low (s : List UInt8) (h : domOk s) : domOk (s.map lowA) := by
  rcases h with h | h
  · exact .inl (by rw [dot_low]; exact h)
  · exact .inr (lit_low s h)
/-- The canonical form. -/
def canonL (a : Adr) : List UInt8 := a.loc ++ 64 :: a.dom.map lowA
theorem canon_len (a : Adr) : (canonL a).length = a.loc.length + 1 + a.dom.length ∧ (canonL a).take a.loc.length = a.loc ∧ (canonL a).drop (a.loc.length + 1) = a.dom.map lowA := by
  unfold canonL
  refine ⟨by rw [List.length_append, List.length_cons, List.length_map]; omega, List.take_left' rfl, ?_⟩
  rw [← List.drop_drop, List.drop_left' rfl]; rfl
/-- AddrCanon: letters of the domain in upper case, as far as f asks for it. -/
def upA (c : UInt8) : UInt8 := if 97 ≤ c.toNat ∧ c.toNat ≤ 122 then c - 32 else c
theorem up_facts : ∀ n : Fin 256, lowA (upA (UInt8.ofNat n.val)) = lowA (UInt8.ofNat n.val) := by decide +kernel
theorem low_up (c : UInt8) : lowA (upA c) = lowA c := byte_all (P := fun c => lowA (upA c) = lowA c) up_facts c
/-! ### Valid addresses -/
def litB (s : List UInt8) : Bool := decide (2 ≤ s.length) && s.head? == some 91 && s.getLast? == some 93 && ((s.drop 1).dropLast).all (fun c => decide (32 < c.toNat) && c != 127 && c != 91 && c != 93 && c != 92)
theorem lit_iff (s : List UInt8) : litB s = true ↔ litOk s := by
  unfold litB
  simp only [Bool.and_eq_true, decide_eq_true_eq, beq_iff_eq, List.all_eq_true, bne_iff_ne]
  constructor
  · rintro ⟨⟨⟨h1, h2⟩, h3⟩, h4⟩
    cases s with
    | nil => simp at h1
    | cons c t =>
      obtain rfl : c = 91 := by simpa using h2
      have ht : t ≠ [] := by rintro rfl; simp at h1
      rw [List.drop_succ_cons, List.drop_zero] at h4
      have hl : t.getLast? = some 93 := by
        obtain ⟨x, y, rfl⟩ := List.exists_cons_of_ne_nil ht
        rw [List.getLast?_cons_cons] at h3
        exact h3
      have e : t.dropLast ++ [93] = t := by
        have := List.dropLast_concat_getLast ht
        rw [List.getLast?_eq_some_getLast ht] at hl
        rw [Option.some.inj hl] at this
        exact this
      exact ⟨t.dropLast, by rw [e], fun c hc => by obtain ⟨⟨⟨⟨a1, a2⟩, a3⟩, a4⟩, a5⟩ := h4 c hc; exact ⟨a1, a2, a3, a4, a5⟩⟩
  · rintro ⟨b, rfl, hb⟩
    refine ⟨⟨⟨by simp, rfl⟩, ?_⟩, ?_⟩
    · rw [← List.cons_append]; exact List.getLast?_concat ..
    · intro c hc
      rw [List.drop_succ_cons, List.drop_zero, List.dropLast_concat] at hc
      obtain ⟨a1, a2, a3, a4, a5⟩ := hb c hc
      exact ⟨⟨⟨⟨a1, a2⟩, a3⟩, a4⟩, a5⟩
def domB (s : List UInt8) : Bool := dotA false s || litB s
theorem dom_iff (s : List UInt8) : domB s = true ↔ domOk s := by
  unfold domB domOk
  rw [Bool.or_eq_true, lit_iff]
/-- No byte below 32, none of 127. -/
def shown (s : List UInt8) : Bool := s.all (fun c => decide (32 ≤ c.toNat) && c != 127)
def rightB (a : Adr) : Bool := decide (0 < a.loc.length) && decide (a.loc.length ≤ 64) && shown a.loc && (decide (a.dom.length ≤ 255) && domB a.dom) && (decide (a.name.length ≤ 200) && shown a.name)
theorem right_dom {a : Adr} (h : rightB a = true) : domOk a.dom := by
  unfold rightB at h
  simp only [Bool.and_eq_true] at h
  exact (dom_iff _).1 h.1.2.2
theorem right_loc {a : Adr} (h : rightB a = true) : shown a.loc = true := by
  unfold rightB at h
  simp only [Bool.and_eq_true] at h
  exact h.1.1.2
/-- As the program writes a local part: a backslash before double quotes and backslashes alone. -/
def escQ : List UInt8 → List UInt8
  | [] => []
  | c :: t => if c = 34 ∨ c = 92 then 92 :: c :: escQ t else c :: escQ t
theorem esc_same : ∀ s : List UInt8, shown s = true → escQ s = escL s
  | [], _ => rfl
  | c :: t, h => by
    unfold shown at h
    rw [List.all_cons, Bool.and_eq_true, Bool.and_eq_true, decide_eq_true_eq] at h
    have ih := esc_same t h.2
    have h10 : c ≠ 10 := by rintro rfl; exact absurd h.1.1 (by decide)
    have h13 : c ≠ 13 := by rintro rfl; exact absurd h.1.1 (by decide)
    rw [escQ, escL, ih]
    unfold held
    simp only [Bool.or_eq_true, beq_iff_eq, h10, h13, or_false]
def specQ (a : Adr) : List UInt8 := (if dotA false a.loc = true then a.loc else 34 :: (escQ a.loc ++ [34])) ++ 64 :: a.dom
theorem spec_same (a : Adr) (h : shown a.loc = true) : specQ a = specW a := by
  unfold specQ specW locW
  rw [esc_same _ h]
/-! ### Dot-atoms, byte by byte -/
def dotAt (w : List UInt8) (i : Nat) : Prop := ∃ c, w[i]? = some c ∧ (atomB c = true ∨ (c = 46 ∧ 0 < i ∧ i + 1 < w.length ∧ ∃ p, w[i - 1]? = some p ∧ p ≠ 46))
theorem dot46 : atomB 46 = false := by decide
theorem dot_good : ∀ (s pre : List UInt8) (b : Bool), (b = true → ∃ p, pre.getLast? = some p ∧ p ≠ 46) → (b = false → ∀ p, pre.getLast? = some p → p = 46) →
    (dotA b s = true ↔ (s = [] → b = true) ∧ ∀ i, pre.length ≤ i → i < (pre ++ s).length → dotAt (pre ++ s) i) := by
  intro s
  induction s with
  | nil =>
    intro pre b h1 h2
    rw [List.append_nil]
    have e : dotA b [] = b := by cases b <;> rfl
    rw [e]
    exact ⟨fun h => ⟨fun _ => h, fun i hi hj => by omega⟩, fun h => h.1 rfl⟩
  | cons c t ih =>
    intro pre b h1 h2
    have hsplit : pre ++ c :: t = (pre ++ [c]) ++ t := by simp
    have hat : (pre ++ c :: t)[pre.length]? = some c := by simp
    have hlast : (pre ++ [c]).getLast? = some c := by simp
    have key : (∀ i, pre.length ≤ i → i < (pre ++ c :: t).length → dotAt (pre ++ c :: t) i) ↔ dotAt (pre ++ c :: t) pre.length ∧ ∀ i, (pre ++ [c]).length ≤ i → i < ((pre ++ [c]) ++ t).length → dotAt ((pre ++ [c]) ++ t) i := by
      rw [← hsplit, @List.length_append _ pre [c]]
      constructor
      · intro h
        exact ⟨h _ (Nat.le_refl _) (by simp), fun i hi hj => h i (by omega) hj⟩
      · rintro ⟨h3, h4⟩ i hi hj
        by_cases he : i = pre.length
        · rw [he]; exact h3
        · exact h4 i (by simp; omega) hj
    rw [key]
    by_cases hc : atomB c = true
    · have hne : c ≠ 46 := by rintro rfl; rw [dot46] at hc; exact Bool.noConfusion hc
      have hih := ih (pre ++ [c]) true (fun _ => ⟨c, hlast, hne⟩) (fun h => Bool.noConfusion h)
      rw [dotA, if_pos hc, hih]
      exact ⟨fun h => ⟨fun e => (List.cons_ne_nil _ _ e).elim, ⟨c, hat, .inl hc⟩, h.2⟩, fun h => ⟨fun _ => rfl, h.2.2⟩⟩
    · rw [dotA, if_neg hc]
      by_cases h46 : c = 46
      · subst h46
        have hih := ih (pre ++ [46]) false (fun h => Bool.noConfusion h) (fun _ p hp => by rw [hlast] at hp; exact (Option.some.inj hp).symm)
        cases b with
        | true =>
          rw [if_pos ⟨rfl, rfl⟩]
          obtain ⟨p, hp, hp2⟩ := h1 rfl
          constructor
          · intro h
            refine ⟨fun _ => rfl, ?_, (hih.1 h).2⟩
            obtain ⟨y, u, rfl, hy, _⟩ := dot_head t h
            have hpos : 0 < pre.length := by cases pre with | nil => simp at hp | cons _ _ => simp
            refine ⟨46, hat, .inr ⟨rfl, hpos, by simp, p, ?_, hp2⟩⟩
            rw [List.getElem?_append_left (by omega), ← List.getLast?_eq_getElem?]; exact hp
          · rintro ⟨_, ⟨c', hc', h3⟩, h4⟩
            rw [hat] at hc'
            obtain rfl := Option.some.inj hc'
            refine hih.2 ⟨fun e => ?_, h4⟩
            rcases h3 with h3 | ⟨_, _, h5, _⟩
            · exact absurd h3 hc
            · subst e; simp at h5
        | false =>
          rw [if_neg (by simp)]
          refine ⟨fun h => absurd h Bool.false_ne_true, ?_⟩
          rintro ⟨_, ⟨c', hc', h3⟩, _⟩
          rw [hat] at hc'
          obtain rfl := Option.some.inj hc'
          rcases h3 with h3 | ⟨_, h5, _, p, hp, hp2⟩
          · exact absurd h3 hc
          · rw [List.getElem?_append_left (by omega), ← List.getLast?_eq_getElem?] at hp
            exact absurd (h2 rfl p hp) hp2
      · rw [if_neg (fun e => h46 e.1)]
        refine ⟨fun h => absurd h Bool.false_ne_true, ?_⟩
        rintro ⟨_, ⟨c', hc', h3⟩, _⟩
        rw [hat] at hc'
        obtain rfl := Option.some.inj hc'
        rcases h3 with h3 | ⟨h5, _⟩
        · exact absurd h3 hc
        · exact absurd h5 h46
theorem dot_all (s : List UInt8) : dotA false s = true ↔ s ≠ [] ∧ ∀ i, i < s.length → dotAt s i := by
  have := dot_good s [] false (fun h => Bool.noConfusion h) (fun _ p hp => by simp at hp)
  rw [this, List.nil_append]
  exact ⟨fun h => ⟨fun e => Bool.noConfusion (h.1 e), fun i hi => h.2 i (Nat.zero_le _) hi⟩, fun h => ⟨fun e => absurd e h.1, fun i _ hi => h.2 i hi⟩⟩
end Go.Proofs.YtdinachiiimngaaGreatDoor.AdrP
namespace Go.Proofs.YtdinachiiimngaaGreatDoor.CtP
open TokP AdrP

def letterB (c : UInt8) : Bool := (decide (97 ≤ c.toNat) && decide (c.toNat ≤ 122)) || (decide (65 ≤ c.toNat) && decide (c.toNat ≤ 90)) || (decide (48 ≤ c.toNat) && decide (c.toNat ≤ 57))
def wordB (c : UInt8) : Bool := letterB c || [33, 35, 36, 38, 94, 95, 46, 43, 45].contains c
def wordW (s : List UInt8) : Bool := !s.isEmpty && s.all wordB
/-- The tokens, split at semicolons. -/
def rowsT : List Tok → List Tok → List (List Tok)
  | now, [] => [now]
  | now, t :: r => if isS t 59 = true then now :: rowsT [] r else rowsT (now ++ [t]) r
structure Par where
  name : List UInt8
  sec : Option Nat
  wide : Bool
  value : List UInt8
deriving DecidableEq
def upC (d : UInt8) (s : List UInt8) : List UInt8 := s.takeWhile (fun c => c != d)
def behind (d : UInt8) (s : List UInt8) : List UInt8 := s.drop ((upC d s).length + 1)
def wideB (name : List UInt8) : Bool := decide (2 ≤ name.length) && (name.getLast? == some 42)
/-- Decoding a name: num answers the number of a section. -/
def toldP (num : List UInt8 → Option Nat) (name value : List UInt8) : Par :=
  let n := if wideB name = true then name.dropLast else name
  if 42 ∈ n then
    let after := (upC 42 n.reverse).reverse
    match num after with
    | some k => ⟨n.take (n.length - after.length - 1), some k, wideB name, value⟩
    | none => ⟨n, none, wideB name, value⟩
  else ⟨n, none, wideB name, value⟩
def pairV (rest : List UInt8) : List Tok → List UInt8
  | [] => rest
  | u :: r => if rest = [] ∧ u.kind = 2 then valueL u else rest ++ joinL (u :: r)
/-- The parameter of a row. -/
def pairP (num : List UInt8 → Option Nat) : List UInt8 → List Tok → Option Par
  | _, [] => none
  | pre, t :: r =>
    if t.kind = 1 ∧ 61 ∈ t.text then
      (if (pre ++ upC 61 t.text) = [] then none else some (toldP num ((pre ++ upC 61 t.text).map lowA) (pairV (behind 61 t.text) r)))
    else pairP num (pre ++ t.text) r
def hexV (c : UInt8) : Option Nat := if 48 ≤ c.toNat ∧ c.toNat ≤ 57 then some (c.toNat - 48) else if 97 ≤ c.toNat ∧ c.toNat ≤ 102 then some (c.toNat - 87) else if 65 ≤ c.toNat ∧ c.toNat ≤ 70 then some (c.toNat - 55) else none
def hex2 : List UInt8 → Option UInt8
  | a :: b :: _ => match hexV a, hexV b with
    | some x, some y => some (UInt8.ofNat (16 * x + y))
    | _, _ => none
  | _ => none
/-- Percent-decoding; the first argument: how many bytes are passed over. -/
def pctS : Nat → List UInt8 → List UInt8
  | _, [] => []
  | k + 1, _ :: r => pctS k r
  | 0, c :: r => if c = 37 then (match hex2 r with
    | some b => b :: pctS 2 r
    | none => c :: pctS 0 r) else c :: pctS 0 r
def pctL (s : List UInt8) : List UInt8 := pctS 0 s
def splitQ (s : List UInt8) : List UInt8 × List UInt8 := if 39 ∈ s ∧ 39 ∈ behind 39 s then (upC 39 s, behind 39 (behind 39 s)) else ([], s)
/-- What bytes of a charset mean: rep repairs, dec decodes. -/
def meantP (rep : List UInt8 → List UInt8) (dec : List UInt8 → List UInt8 → List UInt8) (set s : List UInt8) : List UInt8 := if set = [] then rep s else dec set s
def firstP (all : List Par) (name : List UInt8) (sec : Option Nat) : Option Par := all.find? (fun x => x.name == name && x.sec == sec)
def moreP (all : List Par) (name : List UInt8) : Nat → Nat → List UInt8
  | 0, _ => []
  | f + 1, k => match firstP all name (some k) with
    | none => []
    | some y => (if y.wide = true then pctL y.value else y.value) ++ moreP all name f (k + 1)
def valueP (rep : List UInt8 → List UInt8) (dec : List UInt8 → List UInt8 → List UInt8) (all : List Par) (name : List UInt8) : Option (List UInt8) :=
  match firstP all name (some 0) with
  | some x => some (if x.wide = true then meantP rep dec (splitQ x.value).1 (pctL (splitQ x.value).2 ++ moreP all name 63 1) else x.value ++ moreP all name 63 1)
  | none => match all.find? (fun x => x.name == name && x.sec == none && x.wide) with
    | some x => some (meantP rep dec (splitQ x.value).1 (pctL (splitQ x.value).2))
    | none => (firstP all name none).map Par.value
def listG (rep : List UInt8 → List UInt8) (dec : List UInt8 → List UInt8 → List UInt8) (all : List Par) : List (List UInt8) → List Par → List (List UInt8 × List UInt8)
  | _, [] => []
  | seen, x :: r => (if x.name ∈ seen then [] else match valueP rep dec all x.name with
    | some v => [(x.name, v)]
    | none => []) ++ listG rep dec all (x.name :: seen) r
def listP (rep : List UInt8 → List UInt8) (dec : List UInt8 → List UInt8 → List UInt8) (num : List UInt8 → Option Nat) (rows : List (List Tok)) : List (List UInt8 × List UInt8) :=
  listG rep dec (rows.filterMap (pairP num [])) [] (rows.filterMap (pairP num []))
def textPlain : List UInt8 × List UInt8 × List (List UInt8 × List UInt8) := ([116, 101, 120, 116], [112, 108, 97, 105, 110], [])
def parseC (rep : List UInt8 → List UInt8) (dec : List UInt8 → List UInt8 → List UInt8) (num : List UInt8 → Option Nat) (s : List UInt8) : (List UInt8 × List UInt8 × List (List UInt8 × List UInt8)) × Bool :=
  let rows := rowsT [] (bareT (scanL s))
  let t := joinL (rows.headD [])
  if 47 ∈ t ∧ wordW (upC 47 t) = true ∧ wordW (behind 47 t) = true then (((upC 47 t).map lowA, (behind 47 t).map lowA, listP rep dec num rows.tail), true) else (textPlain, false)
def dispC (rep : List UInt8 → List UInt8) (dec : List UInt8 → List UInt8 → List UInt8) (num : List UInt8 → Option Nat) (s : List UInt8) : List UInt8 × List (List UInt8 × List UInt8) :=
  let rows := rowsT [] (bareT (scanL s))
  let t := (joinL (rows.headD [])).map lowA
  (if wordW t = true then t else [], listP rep dec num rows.tail)
/-! ### Writing -/
def plainV (v : List UInt8) : Bool := !v.isEmpty && v.all (fun c => decide (33 ≤ c.toNat) && decide (c.toNat ≤ 126) && !([40, 41, 60, 62, 64, 44, 59, 58, 92, 34, 47, 91, 93, 63, 61].contains c))
def quotedV (v : List UInt8) : Bool := v.all (fun c => decide (32 ≤ c.toNat) && decide (c.toNat ≤ 126))
def hexU (n : Nat) : UInt8 := if n < 10 then UInt8.ofNat (48 + n) else UInt8.ofNat (55 + n)
def freeB (c : UInt8) : Bool := letterB c || [45, 46, 95, 126].contains c
def pctB (c : UInt8) : List UInt8 := if freeB c = true then [c] else [37, hexU (c.toNat / 16), hexU (c.toNat % 16)]
def pctE (s : List UInt8) : List UInt8 := s.flatMap pctB
def utf8N : List UInt8 := [117, 116, 102, 45, 56]
def fmtV (v : List UInt8) : List UInt8 := if plainV v = true then 61 :: v else if quotedV v = true then 61 :: 34 :: (escQ v ++ [34]) else 42 :: 61 :: (utf8N ++ 39 :: 39 :: pctE v)
def rowW (p : List UInt8 × List UInt8) : List UInt8 := p.1 ++ fmtV p.2
def lineW (first : List UInt8) (l : List (List UInt8 × List UInt8)) : List UInt8 := first ++ l.flatMap (fun p => 59 :: 32 :: rowW p)
/-! ### Bytes -/
theorem word_facts : ∀ n : Fin 256, wordB (UInt8.ofNat n.val) = true → (atomB (UInt8.ofNat n.val) = true ∨ UInt8.ofNat n.val = 46) ∧ UInt8.ofNat n.val ≠ 61 ∧ UInt8.ofNat n.val ≠ 42 ∧ UInt8.ofNat n.val ≠ 47 ∧ 33 ≤ (UInt8.ofNat n.val).toNat ∧ (UInt8.ofNat n.val).toNat ≤ 126 := by decide +kernel
theorem word_all (c : UInt8) : wordB c = true → (atomB c = true ∨ c = 46) ∧ c ≠ 61 ∧ c ≠ 42 ∧ c ≠ 47 ∧ 33 ≤ c.toNat ∧ c.toNat ≤ 126 :=
  byte_all (P := fun c => wordB c = true → (atomB c = true ∨ c = 46) ∧ c ≠ 61 ∧ c ≠ 42 ∧ c ≠ 47 ∧ 33 ≤ c.toNat ∧ c.toNat ≤ 126) word_facts c
theorem plain_facts : ∀ n : Fin 256, (decide (33 ≤ (UInt8.ofNat n.val).toNat) && decide ((UInt8.ofNat n.val).toNat ≤ 126) && !([40, 41, 60, 62, 64, 44, 59, 58, 92, 34, 47, 91, 93, 63, 61].contains (UInt8.ofNat n.val))) = true → (atomB (UInt8.ofNat n.val) = true ∨ UInt8.ofNat n.val = 46) := by decide +kernel
theorem plain_all (c : UInt8) : (decide (33 ≤ c.toNat) && decide (c.toNat ≤ 126) && !([40, 41, 60, 62, 64, 44, 59, 58, 92, 34, 47, 91, 93, 63, 61].contains c)) = true → (atomB c = true ∨ c = 46) :=
  byte_all (P := fun c => (decide (33 ≤ c.toNat) && decide (c.toNat ≤ 126) && !([40, 41, 60, 62, 64, 44, 59, 58, 92, 34, 47, 91, 93, 63, 61].contains c)) = true → (atomB c = true ∨ c = 46)) plain_facts c
theorem pct_facts : ∀ n : Fin 256, (∀ c ∈ pctB (UInt8.ofNat n.val), (atomB c = true ∨ c = 46) ∧ 32 ≤ c.toNat ∧ c.toNat ≤ 126 ∧ c ≠ 39) := by decide +kernel
theorem pct_all (b : UInt8) : ∀ c ∈ pctB b, (atomB c = true ∨ c = 46) ∧ 32 ≤ c.toNat ∧ c.toNat ≤ 126 ∧ c ≠ 39 :=
  byte_all (P := fun b => ∀ c ∈ pctB b, (atomB c = true ∨ c = 46) ∧ 32 ≤ c.toNat ∧ c.toNat ≤ 126 ∧ c ≠ 39) pct_facts b
theorem pct_back_facts : ∀ n : Fin 256, (freeB (UInt8.ofNat n.val) = true → UInt8.ofNat n.val ≠ 37) ∧ hex2 [hexU ((UInt8.ofNat n.val).toNat / 16), hexU ((UInt8.ofNat n.val).toNat % 16)] = some (UInt8.ofNat n.val) := by decide +kernel
theorem pct_back1 (b : UInt8) : (freeB b = true → b ≠ 37) ∧ hex2 [hexU (b.toNat / 16), hexU (b.toNat % 16)] = some b :=
  byte_all (P := fun b => (freeB b = true → b ≠ 37) ∧ hex2 [hexU (b.toNat / 16), hexU (b.toNat % 16)] = some b) pct_back_facts b
theorem pct_back : ∀ s : List UInt8, pctL (pctE s) = s
  | [] => rfl
  | b :: r => by
    have ih := pct_back r
    unfold pctL pctE at ih ⊢
    rw [List.flatMap_cons]
    obtain ⟨h1, h2⟩ := pct_back1 b
    unfold pctB
    by_cases hf : freeB b = true
    · rw [if_pos hf, List.singleton_append, pctS, if_neg (h1 hf)]
      rw [show r.flatMap (fun c => pctB c) = r.flatMap pctB from rfl] at *
      exact congrArg (b :: ·) ih
    · rw [if_neg hf]
      show pctS 0 (37 :: hexU (b.toNat / 16) :: hexU (b.toNat % 16) :: r.flatMap pctB) = b :: r
      rw [pctS, if_pos rfl]
      have h3 : hex2 (hexU (b.toNat / 16) :: hexU (b.toNat % 16) :: r.flatMap pctB) = some b := h2
      rw [h3]
      show b :: pctS 0 (r.flatMap pctB) = b :: r
      rw [ih]
/-! ### Tokens of a written row -/
/-- Bytes of atoms and dots alone. -/
def Mix (s : List UInt8) : Prop := ∀ c ∈ s, atomB c = true ∨ c = 46
def Dry (t : Tok) : Prop := t.kind = 1 ∨ t = ⟨4, [46]⟩
theorem Dry.fine {t : Tok} (h : Dry t) : Fine t := by
  rcases h with h | h
  · exact .inl h
  · exact .inr (.inr (.inr (.inl h)))
theorem mix_scan (s : List UInt8) : Mix s → ∀ t ∈ scanL s, Dry t := by
  induction s using scan_ind with
  | h0 => exact fun _ t ht => absurd ht (by simp [scan_nil])
  | h1 s hs ih =>
    intro hm t ht
    rw [scan_cons s hs, List.mem_cons] at ht
    rcases ht with rfl | ht
    · cases s with
      | nil => exact absurd rfl hs
      | cons c r =>
        rcases hm c (by simp) with h | rfl
        · rw [front_atom c r h]; exact .inl rfl
        · exact .inr (by rw [frontL, if_neg (by decide), if_neg (by decide), if_pos (by decide)])
    · exact ih (fun c hc => hm c (List.mem_of_mem_drop hc)) t ht
theorem mix_app {a b : List UInt8} (ha : Mix a) (hb : Mix b) : Mix (a ++ b) := fun c hc => by
  rcases List.mem_append.1 hc with h | h
  · exact ha c h
  · exact hb c h
/-- Atoms of a name, an atom's byte d, more: the first token. -/
theorem first_tok (n : List UInt8) (d : UInt8) (v : List UInt8) (hn : ∀ c ∈ n, atomB c = true) (hd : atomB d = true) : ∃ v1 v2, v = v1 ++ v2 ∧ scanL (n ++ d :: v) = ⟨1, n ++ d :: v1⟩ :: scanL v2 ∧ v1 = v.takeWhile atomB := by
  refine ⟨v.takeWhile atomB, v.dropWhile atomB, (List.takeWhile_append_dropWhile).symm, ?_, rfl⟩
  have htw : (n ++ d :: v).takeWhile atomB = n ++ d :: v.takeWhile atomB := by
    rw [List.takeWhile_append_of_pos hn, List.takeWhile_cons_of_pos hd]
  have hne : n ++ d :: v ≠ [] := by simp
  have hf : frontL (n ++ d :: v) = ⟨1, n ++ d :: v.takeWhile atomB⟩ := by
    cases n with
    | nil => rw [List.nil_append, front_atom d v hd, List.takeWhile_cons_of_pos hd]; rfl
    | cons c r =>
      have := htw
      rw [List.cons_append] at this ⊢
      rw [front_atom c _ (hn c (by simp)), this]
  rw [scan_cons _ hne, hf]
  congr 1
  congr 1
  show (n ++ d :: v).drop (n ++ d :: v.takeWhile atomB).length = _
  conv => lhs; rw [← List.takeWhile_append_dropWhile (p := atomB) (l := v)]
  rw [show n ++ d :: (v.takeWhile atomB ++ v.dropWhile atomB) = (n ++ d :: v.takeWhile atomB) ++ v.dropWhile atomB by simp, List.takeWhile_append_dropWhile, List.drop_left' rfl]
end Go.Proofs.YtdinachiiimngaaGreatDoor.CtP
namespace Go.Proofs.YtdinachiiimngaaGreatDoor
open Go.ChangeShapes Go.WideShapes Go.ChangeAt Go.RowKit
open TokP AdrP CtP

/-- A slice of tokens whose length is within its capacity. -/
def HasT (w : World) (v : Value) (l : List TokP.Tok) : Prop := ∃ a c, v = .slice a l.length c ∧ l.length ≤ c ∧ HasF w v l
theorem HasT.step {w w' : World} {v : Value} {l : List TokP.Tok} (h : HasT w v l) (hb : Below w.heap.size w w') : HasT w' v l := by
  obtain ⟨a, c, e, h1, h2⟩ := h
  exact ⟨a, c, e, h1, h2.step hb⟩
theorem OwnF.hasT {w : World} {v : Value} {l : List TokP.Tok} (h : OwnF w v l) : HasT w v l := by
  have h2 := h.has
  obtain ⟨b, ho⟩ := h
  rcases ho.2 with ⟨rfl, h0⟩ | ⟨g, cap, cur, rfl, _, _, hc, _⟩
  · exact ⟨none, 0, by rw [h0], by omega, h2⟩
  · exact ⟨_, _, rfl, hc, h2⟩
theorem Below.grownN {w w' : World} (h : Below w.heap.size w w') : w.grownBy w' none := ⟨h.os, h.tape, h.output, h.size, fun k hk _ => h.block k hk⟩
theorem grown_below {B : Nat} {w w' : World} {row : Option Nat} (hg : w.grownBy w' row) (hr : ∀ k, row = some k → B ≤ k) (hB : B ≤ w.heap.size) : Below B w w' :=
  ⟨hg.os, hg.tape, hg.output, hg.size, fun k hk => hg.block k (by omega) (fun e => by have := hr k e.symm; omega)⟩
/-- The state of the loop: the pieces so far, the piece that grows, each in a block of its own from B on. -/
def St (w : World) (B : Nat) (pv cv : Value) (P : List (List TokP.Tok)) (C : List TokP.Tok) : Prop :=
  ∃ us : List Value, w.ownsRow B 55 1 pv P.length us ∧ w.ownsRow B 89 2 cv C.length (toksV C) ∧
    (∀ g, pv.ownBlock = some g → cv.ownBlock ≠ some g) ∧
    ∀ (i : Nat) (x : List TokP.Tok), P[i]? = some x → ∃ u, us[i]? = some u ∧ w.ownsRow B 89 2 u x.length (toksV x) ∧ ∀ g, u.ownBlock = some g → pv.ownBlock ≠ some g ∧ cv.ownBlock ≠ some g
theorem St.first (w : World) (B : Nat) : St w B (.slice none 0 0) (.slice none 0 0) [] [] :=
  ⟨[], World.ownsRow_nil _ _ _ _, World.ownsRow_nil _ _ _ _, fun g h => absurd h (by simp [Value.ownBlock]), fun i x h => absurd h (by simp)⟩
theorem St.step {w w' : World} {B : Nat} {pv cv : Value} {P : List (List TokP.Tok)} {C : List TokP.Tok} (h : St w B pv cv P C) (hb : Below w.heap.size w w') : St w' B pv cv P C := by
  obtain ⟨us, h1, h2, h3, h4⟩ := h
  have hg := Below.grownN hb
  have hn : ∀ v : Value, v.ownBlock = none ∨ v.ownBlock ≠ none := fun v => by cases v.ownBlock <;> simp
  refine ⟨us, h1.kept hg (hn _), h2.kept hg (hn _), h3, fun i x hx => ?_⟩
  obtain ⟨u, hu, ho, hne⟩ := h4 i x hx
  exact ⟨u, hu, ho.kept hg (hn _), hne⟩
theorem St.nil {w : World} {B : Nat} {pv cv : Value} {P : List (List TokP.Tok)} {C : List TokP.Tok} (h : St w B pv cv P C) : St w B pv (.slice none 0 0) P [] := by
  obtain ⟨us, h1, h2, h3, h4⟩ := h
  refine ⟨us, h1, World.ownsRow_nil _ _ _ _, fun g _ => by simp [Value.ownBlock], fun i x hx => ?_⟩
  obtain ⟨u, hu, ho, hne⟩ := h4 i x hx
  exact ⟨u, hu, ho, fun g hg => ⟨(hne g hg).1, by simp [Value.ownBlock]⟩⟩
theorem ne_row {a b : Option Nat} (h : ∀ g, a = some g → b ≠ some g) : a = none ∨ a ≠ b := by
  cases a with
  | none => exact .inl rfl
  | some g => exact .inr fun e => h g rfl e.symm
theorem St.cur {w w' : World} {o : Obj} {B : Nat} {pv cv cv' : Value} {P : List (List TokP.Tok)} {C : List TokP.Tok} {t : TokP.Tok} (h : St w B pv cv P C) (hown : w'.ownsRow B 89 2 cv' (C ++ [t]).length (toksV (C ++ [t])))
    (hg : (w.alloc o).grownBy w' cv.ownBlock) (hb : cv'.ownBlock = cv.ownBlock ∨ cv'.ownBlock = some (w.alloc o).heap.size) : St w' B pv cv' P (C ++ [t]) := by
  obtain ⟨us, h1, h2, h3, h4⟩ := h
  have hz : (w.alloc o).heap.size = w.heap.size + 1 := by rw [World.size_alloc]
  have hnew : ∀ (v : Value) g, v.ownBlock = some g → (∀ k, v.ownBlock = some k → k < w.heap.size) → cv.ownBlock ≠ some g → cv'.ownBlock ≠ some g := fun v g hv hl hne e => by
    rcases hb with hb | hb
    · exact hne (hb ▸ e)
    · rw [hb] at e
      have := hl g hv
      have := Option.some.inj e
      omega
  refine ⟨us, (World.ownsRow.alloc h1 o).kept hg (ne_row h3), hown, fun g hp => hnew pv g hp (fun k e => (h1.lt k e).2) (h3 g hp), fun i x hx => ?_⟩
  obtain ⟨u, hu, ho, hne⟩ := h4 i x hx
  refine ⟨u, hu, (World.ownsRow.alloc ho o).kept hg (ne_row fun g e => (hne g e).2), fun g e => ⟨(hne g e).1, hnew u g e (fun k e => (ho.lt k e).2) (hne g e).2⟩⟩
theorem St.put {w w' : World} {o : Obj} {B : Nat} {pv pv' cv : Value} {P : List (List TokP.Tok)} {C : List TokP.Tok} {us : List Value} (h1 : w.ownsRow B 55 1 pv P.length us) (h2 : w.ownsRow B 89 2 cv C.length (toksV C))
    (h3 : ∀ g, pv.ownBlock = some g → cv.ownBlock ≠ some g)
    (h4 : ∀ (i : Nat) (x : List TokP.Tok), P[i]? = some x → ∃ u, us[i]? = some u ∧ w.ownsRow B 89 2 u x.length (toksV x) ∧ ∀ g, u.ownBlock = some g → pv.ownBlock ≠ some g ∧ cv.ownBlock ≠ some g)
    (hown : w'.ownsRow B 55 1 pv' (P ++ [C]).length (us ++ [cv])) (hg : (w.alloc o).grownBy w' pv.ownBlock) (hb : pv'.ownBlock = pv.ownBlock ∨ pv'.ownBlock = some (w.alloc o).heap.size) :
    St w' B pv' (.slice none 0 0) (P ++ [C]) [] := by
  have hz : (w.alloc o).heap.size = w.heap.size + 1 := by rw [World.size_alloc]
  have hlen : us.length = P.length := by rw [h1.1, Nat.mul_one]
  have hnew : ∀ (v : Value) g, v.ownBlock = some g → (∀ k, v.ownBlock = some k → k < w.heap.size) → pv.ownBlock ≠ some g → pv'.ownBlock ≠ some g := fun v g hv hl hne e => by
    rcases hb with hb | hb
    · exact hne (hb ▸ e)
    · rw [hb] at e
      have := hl g hv
      have := Option.some.inj e
      omega
  refine ⟨us ++ [cv], hown, World.ownsRow_nil _ _ _ _, fun g _ => by simp [Value.ownBlock], fun i x hx => ?_⟩
  by_cases hi : i < P.length
  · rw [List.getElem?_append_left hi] at hx
    obtain ⟨u, hu, ho, hne⟩ := h4 i x hx
    exact ⟨u, by rw [List.getElem?_append_left (by omega)]; exact hu, (World.ownsRow.alloc ho o).kept hg (ne_row fun g e => (hne g e).1), fun g e => ⟨hnew u g e (fun k e => (ho.lt k e).2) (hne g e).1, by simp [Value.ownBlock]⟩⟩
  · have hi2 : i = P.length := by
      have := (List.getElem?_eq_some_iff.1 hx).1
      rw [List.length_append, List.length_singleton] at this
      omega
    subst hi2
    obtain rfl : C = x := by
      rw [List.getElem?_append_right (Nat.le_refl _), Nat.sub_self] at hx
      exact Option.some.inj hx
    have hne : ∀ g, cv.ownBlock = some g → pv.ownBlock ≠ some g := fun g e e2 => h3 g e2 e
    exact ⟨cv, by rw [List.getElem?_append_right (by omega), hlen, Nat.sub_self]; rfl, (World.ownsRow.alloc h2 o).kept hg (ne_row hne), fun g e => ⟨hnew cv g e (fun k e => (h2.lt k e).2) (hne g e), by simp [Value.ownBlock]⟩⟩
theorem info38 : (Tryz.prog.info? 55).map (fun i => (i.zero, i.size, i.bytes)) = some (some (.slice none 0 0), 1, 24) := by kernel_rfl
/-- A token is appended to the piece that grows. -/
theorem wpList_cur {ops : Array Oper} {rest : List Oper} {o : Oper} {a : Act} {w : World} {Q : Exit → Act → World → Prop} (hgd : o.guard = none) (s x : Operand)
    (ho : o.op = .call { callee := .builtin .append, args := #[s, x], argTypes := #[55, 55] }) (B : Nat) {pv v : Value} {P : List (List TokP.Tok)} {C : List TokP.Tok} {m : Nat} (f : TokP.Tok) (hs : a.eval s = v) (hx : a.eval x = .slice (some ⟨w.heap.size, 0, none⟩) 1 1)
    (hst : St w B pv v P C) (hm : C.length = m) (hb : B ≤ w.heap.size) (hl : m ≤ 4000000)
    (h : ∀ a' c' w', St w' B pv (.slice a' (m + 1) c') P (C ++ [f]) → Below B w w' → wpList Tryz.prog ops Q rest (a.put o.dst (.slice a' (m + 1) c')) w') :
    wpList Tryz.prog ops Q (o :: rest) a (w.alloc (.cells #[.int .i64 (f.kind : Nat), .string (strL f.text)] 89)) := by
  obtain ⟨i0, hi, hz0, hz1, hz2⟩ := info_parts info23
  obtain ⟨us, h1, h2, h3, h4⟩ := hst
  subst hm
  refine wpList_append_own_at _ hgd s x 55 ho B 89 i0 (.agg #[.int .i64 0, .string ⟨#[]⟩]) 2 24 Tryz.underlying55 hi hz0 hz1 hz2 rfl (by decide) v C.length (toksV C) hs (World.ownsRow.alloc h2 _) ⟨w.heap.size, 0, none⟩ 1 1 (tokV f) hx rfl (news_tok w f) (tokV_one f) (by unfold maxLen; omega) (by omega) (by rw [World.size_alloc]; omega) ?_
  intro v' w' e1 e2 _ e4
  rw [← toksV_one, toksV_app, ← List.length_singleton (a := f), ← List.length_append] at e1
  obtain ⟨a', c', rfl⟩ : ∃ a' c', v' = .slice a' (C.length + 1) c' := by
    rcases e1.2 with ⟨rfl, h0⟩ | ⟨g, cap, cur, rfl, _⟩
    · simp at h0
    · exact ⟨_, _, by rw [List.length_append]; rfl⟩
  exact h a' c' w' (St.cur ⟨us, h1, h2, h3, h4⟩ e1 e2 e4) (((Below.refl B w).alloc hb _).trans (grown_below e2 (fun k e => (h2.lt k e).1) (by rw [World.size_alloc]; omega)))
/-- The piece that has grown is put behind the others. -/
theorem wpList_put {ops : Array Oper} {rest : List Oper} {o : Oper} {a : Act} {w : World} {Q : Exit → Act → World → Prop} (hgd : o.guard = none) (s x : Operand)
    (ho : o.op = .call { callee := .builtin .append, args := #[s, x], argTypes := #[50, 50] }) (B : Nat) {v cv : Value} {P : List (List TokP.Tok)} {C : List TokP.Tok} {m p : Nat} {ca : Option Addr} {cc : Nat} (hcv : cv = .slice ca m cc) (hs : a.eval s = v) (hx : a.eval x = .slice (some ⟨w.heap.size, 0, none⟩) 1 1)
    (hst : St w B v cv P C) (hp : P.length = p) (hb : B ≤ w.heap.size) (hl : p ≤ 4000000)
    (h : ∀ a' c' w', St w' B (.slice a' (p + 1) c') (.slice none 0 0) (P ++ [C]) [] → Below B w w' → wpList Tryz.prog ops Q rest (a.put o.dst (.slice a' (p + 1) c')) w') :
    wpList Tryz.prog ops Q (o :: rest) a (w.alloc (.cells #[cv] 55)) := by
  obtain ⟨i0, hi, hz0, hz1, hz2⟩ := info_parts info38
  obtain ⟨us, h1, h2, h3, h4⟩ := hst
  subst hp
  refine wpList_append_own_at _ hgd s x 50 ho B 55 i0 (.slice none 0 0) 1 24 Tryz.underlying50 hi hz0 hz1 hz2 rfl (by decide) v P.length us hs (World.ownsRow.alloc h1 _) ⟨w.heap.size, 0, none⟩ 1 1 [cv] hx rfl (cell_one_new _ _ _) (fun u hu => by rw [List.mem_singleton.1 hu, hcv]; rfl) (by unfold maxLen; omega) (by omega) (by rw [World.size_alloc]; omega) ?_
  intro v' w' e1 e2 _ e4
  rw [← List.length_singleton (a := C), ← List.length_append] at e1
  obtain ⟨a', c', rfl⟩ : ∃ a' c', v' = .slice a' (P.length + 1) c' := by
    rcases e1.2 with ⟨rfl, h0⟩ | ⟨g, cap, cur, rfl, _⟩
    · simp at h0
    · exact ⟨_, _, by rw [List.length_append]; rfl⟩
  exact h a' c' w' (St.put h1 h2 h3 h4 e1 e2 e4) (((Below.refl B w).alloc hb _).trans (grown_below e2 (fun k e => (h1.lt k e).1) (by rw [World.size_alloc]; omega)))
/-- The slice v reads as pieces of tokens. -/
def PcsOf (w : World) (v : Value) (P : List (List TokP.Tok)) : Prop := ∃ g c, v = .slice (some ⟨g, 0, none⟩) P.length c ∧ P.length ≤ c ∧ ∀ (i : Nat) (x : List TokP.Tok), P[i]? = some x → ∃ u, w.cell? ⟨g, i, none⟩ = some u ∧ HasT w u x
theorem PcsOf.step {w w' : World} {v : Value} {P : List (List TokP.Tok)} (h : PcsOf w v P) (hb : Below w.heap.size w w') : PcsOf w' v P := by
  obtain ⟨g, c, e, hc, h⟩ := h
  refine ⟨g, c, e, hc, fun i x hx => ?_⟩
  obtain ⟨u, hu, ht⟩ := h i x hx
  exact ⟨u, cell_below hu hb, ht.step hb⟩
theorem St.pcs {w : World} {B : Nat} {pv cv : Value} {P : List (List TokP.Tok)} {C : List TokP.Tok} (h : St w B pv cv P C) (hP : P ≠ []) : PcsOf w pv P := by
  obtain ⟨us, h1, h2, h3, h4⟩ := h
  have hpos := List.length_pos_iff.2 hP
  rcases h1.2 with ⟨_, h0⟩ | ⟨g, cap, cur, rfl, _, _, hcap, _⟩
  · omega
  · refine ⟨g, cap, rfl, hcap, fun i x hx => ?_⟩
    obtain ⟨u, hu, ho, _⟩ := h4 i x hx
    have hc := h1.cells (g := g) rfl i u hu
    rw [add_none, Nat.zero_add] at hc
    exact ⟨u, hc, OwnF.hasT ⟨B, ho⟩⟩
theorem rows_one {l : List TokP.Tok} {k : Nat} {t : TokP.Tok} (h : l[k]? = some t) (C : List TokP.Tok) : rowsT C (l.drop k) = if isS t 59 = true then C :: rowsT [] (l.drop (k + 1)) else rowsT (C ++ [t]) (l.drop (k + 1)) := by
  obtain ⟨h1, h2⟩ := List.getElem?_eq_some_iff.1 h
  rw [List.drop_eq_getElem_cons h1, h2, rowsT]
/-- What is asked of the reference's Scan. -/
def RScanOk : Prop := ∀ (s : ByteArray) (_ : s.size ≤ 4000000) (W : World), Calls Tryz.prog 73 #[.string s] W fun e w' => ∃ a c, e = .returned (.slice a (scanL s.data.toList).length c) ∧ OwnF w' (.slice a (scanL s.data.toList).length c) (scanL s.data.toList) ∧ Below W.heap.size W w'
set_option maxRecDepth 100000 in
set_option maxHeartbeats 8000000 in
theorem rrows_p (cSc : RScanOk) (S : ByteArray) (hS : S.size ≤ 4000000) (ALL : List (List TokP.Tok)) (hALL : rowsT [] (bareT (scanL S.data.toList)) = ALL) (N : Nat) (hN : ALL.length = N) (w : World) :
    Calls Tryz.prog 35 #[.string S] w fun e w' => ∃ g c, e = .returned (.slice (some ⟨g, 0, none⟩) N c) ∧ PcsOf w' (.slice (some ⟨g, 0, none⟩) N c) ALL ∧ Below w.heap.size w w' := by
  have cA := fun W => cSc S (by omega) W
  have hln := scan_len S.data.toList
  rw [← size_list] at hln
  generalize scanL S.data.toList = q at cA hALL hln
  have cB := fun W v (h : Hid (OwnF W v q)) => rbare_any v q W h.out.has (by omega)
  have hbl := bare_len q q.length
  rw [List.take_length] at hbl
  obtain ⟨l, hl⟩ : ∃ l, bareL q = l := ⟨_, rfl⟩
  rw [show bareT q = l from hl] at hALL
  rw [hl] at cB hbl
  obtain ⟨n, hn⟩ : ∃ n, l.length = n := ⟨_, rfl⟩
  obtain ⟨nq, hnq⟩ : ∃ n, q.length = n := ⟨_, rfl⟩
  rw [hn] at cB hbl
  rw [hnq] at cA hbl hln
  have hn6 : n ≤ 4000000 := by omega
  have HL := Lib.hid hn
  have HALL := Lib.hid hALL
  have HN := Lib.hid hN
  clear hALL hN hn hl hln hbl hnq hS cSc
  go_enter Tryz.func35, Tryz.ntmps35
  go_wp2_with (first
    | (go_at_call 73; (with_reducible refine (cA _).mono ?_); rintro e w1 ⟨a1, c1, rfl, h1, hb1⟩; replace h1 := Lib.hid h1; have HB1 := Lib.hid hb1; clear hb1 cA)
    | (go_at_call 72; (with_reducible refine (cB _ _ h1).mono ?_); rintro e w2 ⟨a2, c2, rfl, h2, hb2⟩; have HB2 := Lib.hid (HB1.out.trans (hb2.mono HB1.out.size)); clear hb2 cB))
  have HF := Lib.hid h2
  clear h1
  go_loopw [4, 5, 6] (fun pv cv x wr => ∃ (k : Nat) (P : List (List TokP.Tok)) (C : List TokP.Tok) (p m : Nat), k ≤ n ∧ p ≤ k ∧ m ≤ k ∧ (∃ a c, pv = .slice a p c) ∧ (∃ a c, cv = .slice a m c) ∧ x = .int .i64 k ∧ Hid (P.length = p ∧ C.length = m) ∧ Hid (St wr w2.heap.size pv cv P C) ∧ Hid (Below w2.heap.size w2 wr) ∧ Hid (P ++ rowsT C (l.drop k) = ALL)) (fun _ _ x _ => n - (intOf x).toNat)
  case atStart => exact ⟨0, [], [], 0, 0, Nat.zero_le _, Nat.le_refl _, Nat.le_refl _, ⟨none, 0, rfl⟩, ⟨none, 0, rfl⟩, rfl, Lib.hid ⟨rfl, rfl⟩, Lib.hid (St.first w2 _), Lib.hid (Below.refl _ _), Lib.hid (by rw [List.drop_zero, List.nil_append]; exact HALL.out)⟩
  case round =>
    obtain ⟨k, P, C, p, m, hk, hpk, hmk, ⟨pa, pc, rfl⟩, ⟨ca, cc, rfl⟩, rfl, HPC, ST0, HB3, HG⟩ := hrel
    have F1 : IntKind.i64.wrap ((k : Int) + 1) = (k : Int) + 1 := by rw [IntKind.wrap_i64]; omega
    have hpz : p ≤ 4000000 := by omega
    by_cases hlt : k < n
    · have hlt' : (k : Int) < (n : Int) := by omega
      obtain ⟨g, rfl, hfa⟩ := HF.out.at (by omega)
      obtain ⟨t, ht⟩ : ∃ t, l[k]? = some t := ⟨_, List.getElem?_eq_getElem (by rw [HL.out]; exact hlt)⟩
      obtain ⟨k0, k1⟩ := hfa.step HB3.out k t ht
      rw [Nat.zero_add] at k0 k1
      have hg := HG.out
      rw [rows_one ht] at hg
      have hPC1 : P.length = p ∧ (C ++ [t]).length = m + 1 := ⟨HPC.out.1, by rw [List.length_append, HPC.out.2]; rfl⟩
      have hPC2 : (P ++ [C]).length = p + 1 ∧ ([] : List TokP.Tok).length = 0 := ⟨by rw [List.length_append, HPC.out.1]; rfl, rfl⟩
      clear hfa
      by_cases h4 : t.kind = 4
      · have e1 : (((t.kind : Nat) : Int) == 4) = true := beq_iff_eq.2 (by omega)
        by_cases h59 : t.text = [59]
        · have e2 : ((strL t.text).toList == [59]) = true := by rw [ByteArray.toList_eq, strL_list, h59]; rfl
          have hs : isS t 59 = true := (isS_iff t 59).2 (by cases t; simp only at h4 h59; rw [h4, h59])
          rw [if_pos hs] at hg
          have HG2 := Lib.hid (show (P ++ [C]) ++ rowsT [] (l.drop (k + 1)) = ALL by rw [← hg]; simp)
          have HPC2 := Lib.hid hPC2
          clear hg ht HG h4 h59 hs hPC1 hPC2
          go_wp2_with (at_builtin; refine wpList_put rfl (.tmp 30) (.tmp 32) rfl w2.heap.size rfl rfl rfl ST0.out HPC.out.1 HB3.out.size hpz ?_; intro a5 c5 w5 st5 bl5; have ST5 := Lib.hid st5; have HB5 := Lib.hid (HB3.out.trans bl5); clear st5 bl5)
          go_roundw
          case rel => exact ⟨k + 1, P ++ [C], [], p + 1, 0, by omega, by omega, by omega, ⟨_, _, rfl⟩, ⟨none, 0, rfl⟩, by go_num, HPC2, ST5, HB5, HG2⟩
          case measure => simp [intOf]; omega
        · have e2 : ((strL t.text).toList == [59]) = false := by rw [ByteArray.toList_eq, strL_list]; exact beq_eq_false_iff_ne.2 h59
          have hs : ¬ isS t 59 = true := fun h => h59 (by rw [(isS_iff t 59).1 h])
          rw [if_neg hs] at hg
          have HG2 := Lib.hid hg
          have HPC2 := Lib.hid hPC1
          clear hg ht HG h4 h59 hs hPC1 hPC2
          go_wp2_with (at_builtin; refine wpList_cur rfl (.tmp 34) (.tmp 39) rfl w2.heap.size t rfl rfl ST0.out HPC.out.2 HB3.out.size (by omega) ?_; intro a5 c5 w5 st5 bl5; have ST5 := Lib.hid st5; have HB5 := Lib.hid (HB3.out.trans bl5); clear st5 bl5)
          go_roundw
          case rel => exact ⟨k + 1, P, C ++ [t], p, m + 1, by omega, by omega, by omega, ⟨pa, pc, rfl⟩, ⟨_, _, rfl⟩, by go_num, HPC2, ST5, HB5, HG2⟩
          case measure => simp [intOf]; omega
      · have e1 : (((t.kind : Nat) : Int) == 4) = false := beq_eq_false_iff_ne.2 (by omega)
        have hs : ¬ isS t 59 = true := fun h => h4 (by rw [(isS_iff t 59).1 h])
        rw [if_neg hs] at hg
        have HG2 := Lib.hid hg
        have HPC2 := Lib.hid hPC1
        clear hg ht HG h4 hs hPC1 hPC2
        go_wp2_with (at_builtin; refine wpList_cur rfl (.tmp 34) (.tmp 39) rfl w2.heap.size t rfl rfl ST0.out HPC.out.2 HB3.out.size (by omega) ?_; intro a5 c5 w5 st5 bl5; have ST5 := Lib.hid st5; have HB5 := Lib.hid (HB3.out.trans bl5); clear st5 bl5)
        go_roundw
        case rel => exact ⟨k + 1, P, C ++ [t], p, m + 1, by omega, by omega, by omega, ⟨pa, pc, rfl⟩, ⟨_, _, rfl⟩, by go_num, HPC2, ST5, HB5, HG2⟩
        case measure => simp [intOf]; omega
    · obtain rfl : k = n := by omega
      have hlt' : ¬ (k : Int) < (k : Int) := by omega
      have hg := HG.out
      rw [List.drop_eq_nil_of_le (by rw [HL.out]; exact Nat.le_refl _), rowsT] at hg
      have HE := Lib.hid (show P ++ [C] = ALL ∧ p + 1 = N from ⟨hg, by rw [← HN.out, ← hg, List.length_append, HPC.out.1]; rfl⟩)
      clear hg HG
      go_wp2_with (at_builtin; refine wpList_put rfl (.tmp 41) (.tmp 43) rfl w2.heap.size rfl rfl rfl ST0.out HPC.out.1 HB3.out.size hpz ?_; intro a5 c5 w5 st5 bl5; have ST5 := Lib.hid st5; have HB5 := Lib.hid (HB3.out.trans bl5); clear st5 bl5)
      go_ret
      obtain ⟨e1, e2⟩ := HE.out
      subst e1 e2
      obtain ⟨g, c, e, hcc, hpp⟩ := ST5.out.pcs (by simp)
      have e' := e
      injection e' with f1 f2 f3
      subst f1
      exact ⟨g, _, rfl, ⟨g, c, e, hcc, hpp⟩, HB2.out.trans (HB5.out.mono HB2.out.size)⟩
end Go.Proofs.YtdinachiiimngaaGreatDoor
namespace Go.Proofs.YtdinachiiimngaaGreatDoor.CtP
open TokP AdrP

theorem upC_at {d : UInt8} {n : List UInt8} (h : d ∉ n) (r : List UInt8) : upC d (n ++ d :: r) = n ∧ behind d (n ++ d :: r) = r := by
  have h1 : upC d (n ++ d :: r) = n := by
    unfold upC
    rw [List.takeWhile_append_of_pos (fun c hc => by simp; rintro rfl; exact h hc), List.takeWhile_cons_of_neg (by simp), List.append_nil]
  refine ⟨h1, ?_⟩
  unfold behind
  rw [h1, ← List.drop_drop, List.drop_left' rfl]
  rfl
theorem pairV_mix (v1 v2 : List UInt8) (h : Mix v2) : pairV v1 (scanL v2) = v1 ++ v2 := by
  have hm := mix_scan v2 h
  have hj := join_scan v2
  generalize scanL v2 = q at hm hj
  cases q with
  | nil =>
    have : v2 = [] := hj.symm
    rw [this, List.append_nil]; rfl
  | cons u r =>
    rw [pairV, if_neg (fun e => ?_), hj]
    rcases hm u (by simp) with h | h
    · rw [h] at e; exact absurd e.2 (by decide)
    · rw [h] at e; exact absurd e.2 (by decide)
/-- A name that may be written. -/
def NameW (n : List UInt8) : Prop := wordW n = true ∧ n.map lowA = n ∧ 46 ∉ n
theorem word_mem {n : List UInt8} (h : wordW n = true) : n ≠ [] ∧ ∀ c ∈ n, wordB c = true := by
  unfold wordW at h
  rw [Bool.and_eq_true, Bool.not_eq_true', List.isEmpty_eq_false_iff, List.all_eq_true] at h
  exact h
theorem name_atoms {n : List UInt8} (h : NameW n) : n ≠ [] ∧ (∀ c ∈ n, atomB c = true) ∧ 61 ∉ n ∧ 42 ∉ n := by
  obtain ⟨h1, h2⟩ := word_mem h.1
  refine ⟨h1, fun c hc => ?_, fun hc => (word_all 61 (h2 61 hc)).2.1 rfl, fun hc => (word_all 42 (h2 42 hc)).2.2.1 rfl⟩
  rcases (word_all c (h2 c hc)).1 with h3 | rfl
  · exact h3
  · exact absurd hc h.2.2
def wideV (v : List UInt8) : Bool := !plainV v && !quotedV v
def valW (v : List UInt8) : List UInt8 := if wideV v = true then utf8N ++ 39 :: 39 :: pctE v else v
def parW (p : List UInt8 × List UInt8) : Par := ⟨p.1, none, wideV p.2, valW p.2⟩
theorem told_plain (num : List UInt8 → Option Nat) {n : List UInt8} (h : 42 ∉ n) (v : List UInt8) : toldP num n v = ⟨n, none, false, v⟩ := by
  have hw : wideB n = false := by
    unfold wideB
    rw [Bool.and_eq_false_iff]
    refine .inr ?_
    rw [beq_eq_false_iff_ne]
    intro e
    exact h (List.mem_of_getLast? e)
  unfold toldP
  rw [hw]
  simp only [Bool.false_eq_true, if_false]
  rw [if_neg h]
theorem told_wide (num : List UInt8 → Option Nat) {n : List UInt8} (hn : n ≠ []) (h : 42 ∉ n) (v : List UInt8) : toldP num (n ++ [42]) v = ⟨n, none, true, v⟩ := by
  have hw : wideB (n ++ [42]) = true := by
    unfold wideB
    have := List.length_pos_iff.2 hn
    rw [List.length_append, decide_eq_true (by rw [List.length_singleton]; omega), List.getLast?_concat]
    rfl
  unfold toldP
  rw [hw]
  simp only [if_true]
  rw [List.dropLast_concat, if_neg h]
theorem pair_named (num : List UInt8 → Option Nat) (n v1 : List UInt8) (h61 : 61 ∉ n) (hn : n ≠ []) (r : List Tok) : pairP num [] (⟨1, n ++ 61 :: v1⟩ :: r) = some (toldP num (n.map lowA) (pairV v1 r)) := by
  obtain ⟨e1, e2⟩ := upC_at h61 v1
  rw [pairP, if_pos ⟨rfl, by simp⟩, if_neg (by rw [e1]; simpa using hn), e1, e2, List.nil_append]
theorem plain_mix {v : List UInt8} (h : plainV v = true) : Mix v := fun c hc => by
  unfold plainV at h
  rw [Bool.and_eq_true, List.all_eq_true] at h
  exact plain_all c (h.2 c hc)
theorem wide_mix (v : List UInt8) : Mix (utf8N ++ 39 :: 39 :: pctE v) := by
  refine mix_app (fun c hc => ?_) (fun c hc => ?_)
  · revert c; decide
  · rw [List.mem_cons, List.mem_cons] at hc
    rcases hc with rfl | rfl | hc
    · exact .inl (by decide)
    · exact .inl (by decide)
    · unfold pctE at hc
      rw [List.mem_flatMap] at hc
      obtain ⟨b, _, hc⟩ := hc
      exact (pct_all b c hc).1
theorem quoted_shown {v : List UInt8} (h : quotedV v = true) : shown v = true := by
  unfold quotedV at h
  unfold shown
  rw [List.all_eq_true] at h ⊢
  intro c hc
  have := h c hc
  rw [Bool.and_eq_true, decide_eq_true_eq, decide_eq_true_eq] at this
  rw [Bool.and_eq_true, decide_eq_true_eq, bne_iff_ne]
  exact ⟨this.1, by rintro rfl; exact absurd this.2 (by decide)⟩
/-- A written row: its tokens and its parameter. -/
theorem pair_row (num : List UInt8 → Option Nat) (p : List UInt8 × List UInt8) (hp : NameW p.1) : pairP num [] (scanL (rowW p)) = some (parW p) ∧ (∀ t ∈ scanL (rowW p), Fine t) ∧ HeadNot TokP.blank (rowW p) := by
  obtain ⟨n, v⟩ := p
  obtain ⟨hne, hat, h61, h42⟩ := name_atoms hp
  have hlow : n.map lowA = n := hp.2.1
  have hhead : ∀ x, HeadNot TokP.blank (n ++ x) := fun x c r e => by
    cases n with
    | nil => exact absurd rfl hne
    | cons d m =>
      rw [List.cons_append] at e
      obtain ⟨rfl, _⟩ := List.cons.inj e
      exact (atom_not d (hat d (by simp))).1
  refine ⟨?_, ?_, hhead _⟩
  · show pairP num [] (scanL (n ++ fmtV v)) = some ⟨n, none, wideV v, valW v⟩
    unfold fmtV wideV valW wideV
    by_cases hpl : plainV v = true
    · rw [if_pos hpl, hpl]
      obtain ⟨v1, v2, hv, hs, _⟩ := first_tok n 61 v hat (by decide)
      have hm : Mix v2 := fun c hc => plain_mix hpl c (by rw [hv]; exact List.mem_append_right _ hc)
      rw [hs, pair_named num n v1 h61 hne, hlow, told_plain num h42, pairV_mix v1 v2 hm, ← hv]
      rfl
    · have hpf : plainV v = false := by simpa using hpl
      rw [if_neg hpl, hpf]
      by_cases hq : quotedV v = true
      · rw [if_pos hq, hq, esc_same v (quoted_shown hq)]
        obtain ⟨v1, v2, hv, hs, _⟩ := first_tok n 61 [] hat (by decide)
        obtain ⟨rfl, rfl⟩ := List.append_eq_nil_iff.1 hv.symm
        obtain ⟨q1, q2⟩ := quoted_one v
        have hsc : scanL (n ++ 61 :: 34 :: (escL v ++ [34])) = [⟨1, n ++ [61]⟩, ⟨2, 34 :: (escL v ++ [34])⟩] := by
          rw [show n ++ 61 :: 34 :: (escL v ++ [34]) = (n ++ [61]) ++ (34 :: (escL v ++ [34])) by simp, scan_app _ _ (fun t ht => ?_), hs, q1]
          · rfl
          · rw [hs] at ht
            obtain rfl : (⟨1, n ++ [61]⟩ : Tok) = t := by rw [scan_nil] at ht; simpa using ht
            exact fine_ends (.inl rfl) (headNot_cons _ (by decide))
        rw [hsc, pair_named num n [] h61 hne, hlow, told_plain num h42]
        rw [pairV, if_pos ⟨rfl, rfl⟩, q2]
        rfl
      · have hqf : quotedV v = false := by simpa using hq
        rw [if_neg hq, hqf]
        have hat2 : ∀ c ∈ n ++ [42], atomB c = true := fun c hc => by
          rw [List.mem_append, List.mem_singleton] at hc
          rcases hc with hc | rfl
          · exact hat c hc
          · decide
        obtain ⟨v1, v2, hv, hs, _⟩ := first_tok (n ++ [42]) 61 (utf8N ++ 39 :: 39 :: pctE v) hat2 (by decide)
        have hm : Mix v2 := fun c hc => wide_mix v c (by rw [hv]; exact List.mem_append_right _ hc)
        have h61b : 61 ∉ n ++ [42] := fun hc => by
          rw [List.mem_append, List.mem_singleton] at hc
          rcases hc with hc | hc
          · exact h61 hc
          · exact absurd hc (by decide)
        have hl2 : (n ++ [42]).map lowA = n ++ [42] := by rw [List.map_append, hlow]; rfl
        rw [show n ++ 42 :: 61 :: (utf8N ++ 39 :: 39 :: pctE v) = (n ++ [42]) ++ 61 :: (utf8N ++ 39 :: 39 :: pctE v) by simp, hs, pair_named num (n ++ [42]) v1 h61b (by simp), hl2, told_wide num hne h42, pairV_mix v1 v2 hm, ← hv]
        rfl
  · show ∀ t ∈ scanL (n ++ fmtV v), Fine t
    have hmn : Mix n := fun c hc => .inl (hat c hc)
    unfold fmtV
    by_cases hpl : plainV v = true
    · rw [if_pos hpl]
      exact fun t ht => (mix_scan _ (mix_app hmn (mix_app (a := [61]) (fun c hc => .inl (by rw [List.mem_singleton.1 hc]; decide)) (plain_mix hpl))) t ht).fine
    · rw [if_neg hpl]
      by_cases hq : quotedV v = true
      · rw [if_pos hq, esc_same v (quoted_shown hq)]
        intro t ht
        rw [show n ++ 61 :: 34 :: (escL v ++ [34]) = (n ++ [61]) ++ (34 :: (escL v ++ [34])) by simp] at ht
        have hm1 : Mix (n ++ [61]) := mix_app hmn (fun c hc => .inl (by rw [List.mem_singleton.1 hc]; decide))
        rw [scan_app _ _ (fun u hu => fine_ends (mix_scan _ hm1 u (List.mem_of_getLast? hu)).fine (headNot_cons _ (by decide))), List.mem_append, (quoted_one v).1, List.mem_singleton] at ht
        rcases ht with ht | rfl
        · exact (mix_scan _ hm1 t ht).fine
        · exact .inr (.inl rfl)
      · rw [if_neg hq]
        exact fun t ht => (mix_scan _ (mix_app hmn (mix_app (a := [42, 61]) (fun c hc => .inl (by revert c; decide)) (wide_mix v))) t ht).fine
/-! ### Rows of a written line -/
theorem rows_cut : ∀ (A B now : List Tok), (∀ t ∈ A, isS t 59 = false) → rowsT now (A ++ ⟨4, [59]⟩ :: B) = (now ++ A) :: rowsT [] B
  | [], B, now, _ => by rw [List.nil_append, rowsT, if_pos (by decide), List.append_nil]
  | t :: A, B, now, h => by
    rw [List.cons_append, rowsT, if_neg (by rw [h t (by simp)]; exact Bool.false_ne_true), rows_cut A B _ (fun u hu => h u (by simp [hu])), List.append_assoc]
    rfl
theorem rows_end : ∀ (A now : List Tok), (∀ t ∈ A, isS t 59 = false) → rowsT now A = [now ++ A]
  | [], now, _ => by rw [rowsT, List.append_nil]
  | t :: A, now, h => by
    rw [rowsT, if_neg (by rw [h t (by simp)]; exact Bool.false_ne_true), rows_end A _ (fun u hu => h u (by simp [hu])), List.append_assoc]
    rfl
theorem scan_semi (F X : List UInt8) (h : ∀ t ∈ scanL F, Fine t) (hX : HeadNot TokP.blank X) : scanL (F ++ 59 :: 32 :: X) = scanL F ++ ⟨4, [59]⟩ :: ⟨6, [32]⟩ :: scanL X := by
  rw [scan_app F _ (fun t ht => fine_ends (h t (List.mem_of_getLast? ht)) (headNot_cons _ (by decide)))]
  congr 1
  rw [scan_cons _ (by simp)]
  have h1 : frontL (59 :: 32 :: X) = ⟨4, [59]⟩ := by rw [frontL, if_neg (by decide), if_neg (by decide), if_pos (by decide)]
  rw [h1]
  congr 1
  show scanL (32 :: X) = _
  have h2 : frontL (32 :: X) = ⟨6, [32]⟩ := by
    rw [frontL, if_pos (by decide)]
    have := while_all (p := TokP.blank) (a := [32]) (b := X) (by decide) hX
    rw [List.singleton_append] at this
    rw [this]
  rw [scan_cons _ (by simp), h2]
  rfl
theorem line_rows (num : List UInt8 → Option Nat) : ∀ (l : List (List UInt8 × List UInt8)) (F : List UInt8), (∀ p ∈ l, NameW p.1) → (∀ t ∈ scanL F, Fine t) → rowsT [] (bareT (scanL (lineW F l))) = scanL F :: l.map (fun p => scanL (rowW p))
  | [], F, _, hF => by
    unfold lineW
    rw [List.flatMap_nil, List.append_nil, bare_fine _ hF, rows_end _ _ (fun t ht => fine_not (hF t ht) (by decide) (by decide))]
    rfl
  | p :: l, F, hl, hF => by
    obtain ⟨_, h2, h3⟩ := pair_row num p (hl p (by simp))
    have ih := line_rows num l (rowW p) (fun q hq => hl q (by simp [hq])) h2
    have hX : HeadNot TokP.blank (lineW (rowW p) l) := fun c r e => by
      have hne : rowW p ≠ [] := by
        obtain ⟨h, _⟩ := name_atoms (hl p (by simp))
        unfold rowW
        simp [h]
      unfold lineW at e
      obtain ⟨d, m, hd⟩ := List.exists_cons_of_ne_nil hne
      rw [hd, List.cons_append] at e
      obtain ⟨rfl, _⟩ := List.cons.inj e
      exact h3 d m hd
    have he : lineW F (p :: l) = F ++ 59 :: 32 :: lineW (rowW p) l := by
      unfold lineW
      rw [List.flatMap_cons]
      simp
    rw [he, scan_semi F _ hF hX, bare_app, bare_fine _ hF]
    have hb : bareT (⟨4, [59]⟩ :: ⟨6, [32]⟩ :: scanL (lineW (rowW p) l)) = ⟨4, [59]⟩ :: bareT (scanL (lineW (rowW p) l)) := rfl
    rw [hb, rows_cut _ _ _ (fun t ht => fine_not (hF t ht) (by decide) (by decide)), ih]
    rfl
/-! ### The list of parameters -/
theorem find_par (q : Par → Bool) : ∀ (l : List (List UInt8 × List UInt8)), (l.map Prod.fst).Nodup → ∀ p ∈ l, (l.map parW).find? (fun x => x.name == p.1 && q x) = if q (parW p) = true then some (parW p) else none
  | [], _, p, hp => absurd hp (by simp)
  | a :: l, hd, p, hp => by
    rw [List.map_cons, List.nodup_cons] at hd
    rw [List.map_cons, List.find?_cons]
    by_cases ha : a.1 = p.1
    · have hap : p = a := by
        rcases List.mem_cons.1 hp with rfl | hp
        · rfl
        · exact absurd (List.mem_map.2 ⟨p, hp, rfl⟩) (ha ▸ hd.1)
      subst hap
      by_cases hq : q (parW p) = true
      · rw [if_pos hq]
        simp [parW, show q ⟨p.1, none, wideV p.2, valW p.2⟩ = true from hq]
      · rw [if_neg hq]
        have hqf : q ⟨p.1, none, wideV p.2, valW p.2⟩ = false := by simpa [parW] using hq
        simp only [parW, hqf, Bool.and_false]
        rw [List.find?_eq_none]
        intro x hx
        obtain ⟨b, hb, rfl⟩ := List.mem_map.1 hx
        simp only [Bool.and_eq_true, beq_iff_eq, not_and]
        intro hn
        exact absurd (List.mem_map.2 ⟨b, hb, hn⟩) hd.1
    · have hpl : p ∈ l := by
        rcases List.mem_cons.1 hp with rfl | hp
        · exact absurd rfl ha
        · exact hp
      have : ((parW a).name == p.1) = false := beq_eq_false_iff_ne.2 ha
      rw [this, Bool.false_and]
      exact find_par q l hd.2 p hpl
theorem split_utf8 (x : List UInt8) : splitQ (utf8N ++ 39 :: 39 :: x) = (utf8N, x) := by
  obtain ⟨h1, h2⟩ := upC_at (d := 39) (n := utf8N) (by decide) (39 :: x)
  obtain ⟨h3, h4⟩ := upC_at (d := 39) (n := []) (by simp) x
  unfold splitQ
  rw [h1, h2, if_pos ⟨by simp, by simp⟩]
  exact congrArg (Prod.mk utf8N) h4
theorem value_par (rep : List UInt8 → List UInt8) (dec : List UInt8 → List UInt8 → List UInt8) (l : List (List UInt8 × List UInt8)) (hd : (l.map Prod.fst).Nodup) (p : List UInt8 × List UInt8) (hp : p ∈ l) (hv : dec utf8N p.2 = p.2) : valueP rep dec (l.map parW) p.1 = some p.2 := by
  have h0 : firstP (l.map parW) p.1 (some 0) = none := (find_par (fun x => x.sec == some 0) l hd p hp).trans (if_neg (by simp [parW]))
  have h1 := find_par (fun x => x.sec == none && x.wide) l hd p hp
  have h2 : firstP (l.map parW) p.1 none = some (parW p) := (find_par (fun x => x.sec == none) l hd p hp).trans (if_pos (by simp [parW]))
  have h1' : (l.map parW).find? (fun x => x.name == p.1 && x.sec == none && x.wide) = if wideV p.2 = true then some (parW p) else none := by
    have e : (fun x : Par => x.name == p.1 && x.sec == none && x.wide) = (fun x : Par => x.name == p.1 && (x.sec == none && x.wide)) := funext fun x => Bool.and_assoc _ _ _
    rw [e, h1]
    rfl
  unfold valueP
  rw [h0, h1', h2]
  by_cases hw : wideV p.2 = true
  · rw [if_pos hw]
    show some (meantP rep dec (splitQ (valW p.2)).1 (pctL (splitQ (valW p.2)).2)) = some p.2
    unfold valW
    rw [if_pos hw, split_utf8, pct_back]
    unfold meantP
    rw [if_neg (show ¬ utf8N = [] by decide), hv]
  · rw [if_neg hw]
    show some (valW p.2) = some p.2
    unfold valW
    rw [if_neg hw]
theorem list_pars (rep : List UInt8 → List UInt8) (dec : List UInt8 → List UInt8 → List UInt8) (all : List Par) : ∀ (l : List (List UInt8 × List UInt8)) (seen : List (List UInt8)), (l.map Prod.fst).Nodup → (∀ p ∈ l, p.1 ∉ seen) → (∀ p ∈ l, valueP rep dec all p.1 = some p.2) → listG rep dec all seen (l.map parW) = l
  | [], seen, _, _, _ => rfl
  | p :: l, seen, hd, hs, hv => by
    rw [List.map_cons, List.nodup_cons] at hd
    rw [List.map_cons, listG]
    have h1 : (parW p).name = p.1 := rfl
    rw [h1, if_neg (hs p (by simp)), hv p (by simp)]
    rw [list_pars rep dec all l (p.1 :: seen) hd.2 (fun q hq h => ?_) (fun q hq => hv q (by simp [hq]))]
    · rfl
    · rw [List.mem_cons] at h
      rcases h with h | h
      · exact hd.1 (h ▸ List.mem_map.2 ⟨q, hq, rfl⟩)
      · exact hs q (by simp [hq]) h
theorem list_back (rep : List UInt8 → List UInt8) (dec : List UInt8 → List UInt8 → List UInt8) (num : List UInt8 → Option Nat) (l : List (List UInt8 × List UInt8)) (hl : ∀ p ∈ l, NameW p.1 ∧ dec utf8N p.2 = p.2) (hd : (l.map Prod.fst).Nodup) : listP rep dec num (l.map (fun p => scanL (rowW p))) = l := by
  have hf : (l.map (fun p => scanL (rowW p))).filterMap (pairP num []) = l.map parW := by
    rw [List.filterMap_map]
    have : ∀ m : List (List UInt8 × List UInt8), (∀ p ∈ m, NameW p.1) → m.filterMap ((pairP num []) ∘ (fun p => scanL (rowW p))) = m.map parW := by
      intro m
      induction m with
      | nil => intro _; rfl
      | cons p m ih =>
        intro h
        rw [List.filterMap_cons, List.map_cons, Function.comp, (pair_row num p (h p (by simp))).1]
        exact congrArg (parW p :: ·) (ih (fun q hq => h q (by simp [hq])))
    exact this l (fun p hp => (hl p hp).1)
  unfold listP
  rw [hf]
  exact list_pars rep dec _ l [] hd (fun p _ => by simp) (fun p hp => value_par rep dec l hd p hp (hl p hp).2)
/-! ### CtypeBack -/
structure RightC (dec : List UInt8 → List UInt8 → List UInt8) (kind sub : List UInt8) (l : List (List UInt8 × List UInt8)) : Prop where
  lkind : kind.map lowA = kind
  lsub : sub.map lowA = sub
  wkind : wordW kind = true
  wsub : wordW sub = true
  each : ∀ p ∈ l, NameW p.1 ∧ dec utf8N p.2 = p.2
  apart : (l.map Prod.fst).Nodup
theorem word_mix {n : List UInt8} (h : wordW n = true) : Mix n ∧ 47 ∉ n := by
  obtain ⟨_, h2⟩ := word_mem h
  exact ⟨fun c hc => (word_all c (h2 c hc)).1, fun hc => (word_all 47 (h2 47 hc)).2.2.2.1 rfl⟩
theorem ct_back (rep : List UInt8 → List UInt8) (dec : List UInt8 → List UInt8 → List UInt8) (num : List UInt8 → Option Nat) (kind sub : List UInt8) (l : List (List UInt8 × List UInt8)) (h : RightC dec kind sub l) :
    parseC rep dec num (lineW (kind ++ 47 :: sub) l) = ((kind, sub, l), true) ∧ dispC rep dec num (lineW kind l) = (kind, l) := by
  obtain ⟨m1, n1⟩ := word_mix h.wkind
  obtain ⟨m2, _⟩ := word_mix h.wsub
  have hm : Mix (kind ++ 47 :: sub) := mix_app m1 (mix_app (a := [47]) (fun c hc => .inl (by rw [List.mem_singleton.1 hc]; decide)) m2)
  have r1 := line_rows num l (kind ++ 47 :: sub) (fun p hp => (h.each p hp).1) (fun t ht => (mix_scan _ hm t ht).fine)
  have r2 := line_rows num l kind (fun p hp => (h.each p hp).1) (fun t ht => (mix_scan _ m1 t ht).fine)
  have hL := list_back rep dec num l h.each h.apart
  obtain ⟨e1, e2⟩ := upC_at n1 sub
  constructor
  · unfold parseC
    rw [r1]
    show (if 47 ∈ joinL (scanL (kind ++ 47 :: sub)) ∧ wordW (upC 47 (joinL (scanL (kind ++ 47 :: sub)))) = true ∧ wordW (behind 47 (joinL (scanL (kind ++ 47 :: sub)))) = true then (((upC 47 (joinL (scanL (kind ++ 47 :: sub)))).map lowA, (behind 47 (joinL (scanL (kind ++ 47 :: sub)))).map lowA, listP rep dec num (l.map (fun p => scanL (rowW p)))), true) else (textPlain, false)) = _
    rw [join_scan, e1, e2, if_pos ⟨by simp, h.wkind, h.wsub⟩, h.lkind, h.lsub, hL]
  · unfold dispC
    rw [r2]
    show ((if wordW ((joinL (scanL kind)).map lowA) = true then (joinL (scanL kind)).map lowA else []), listP rep dec num (l.map (fun p => scanL (rowW p)))) = _
    rw [join_scan, h.lkind, if_pos h.wkind, hL]
end Go.Proofs.YtdinachiiimngaaGreatDoor.CtP
namespace Go.Proofs.YtdinachiiimngaaGreatDoor.AdrP
open TokP

/-! ### Finds -/
def findN (c : UInt8) (l : List Tok) : Nat := (upToS c l).length
theorem find_le (c : UInt8) (l : List Tok) : findN c l ≤ l.length := by
  unfold findN upToS
  have := congrArg List.length (List.takeWhile_append_dropWhile (p := fun t => !isS t c) (l := l))
  rw [List.length_append] at this
  omega
theorem up_take (c : UInt8) (l : List Tok) : upToS c l = l.take (findN c l) := by
  unfold findN upToS
  have h := List.takeWhile_append_dropWhile (p := fun t => !isS t c) (l := l)
  generalize l.takeWhile (fun t => !isS t c) = X at h ⊢
  rw [← h, List.take_left' rfl]
theorem from_drop (c : UInt8) (l : List Tok) : fromS c l = l.drop (findN c l) := by
  unfold findN upToS fromS
  have h := List.takeWhile_append_dropWhile (p := fun t => !isS t c) (l := l)
  generalize l.takeWhile (fun t => !isS t c) = X at h ⊢
  generalize l.dropWhile (fun t => !isS t c) = Y at h ⊢
  rw [← h, List.drop_left' rfl]
theorem find_hit {c : UInt8} {l : List Tok} {k : Nat} {t : Tok} (hk : l[k]? = some t) (ht : isS t c = true) (h : ∀ i, i < k → ∀ u, l[i]? = some u → isS u c = false) : findN c l = k := by
  obtain ⟨h1, h2⟩ := List.getElem?_eq_some_iff.1 hk
  have e : l = l.take k ++ t :: l.drop (k + 1) := by
    rw [← h2, ← List.drop_eq_getElem_cons h1, List.take_append_drop]
  have := (upTo_at c (l.take k) t (l.drop (k + 1)) (fun u hu => by
    obtain ⟨i, hi, rfl⟩ := List.mem_iff_getElem.1 hu
    have hi2 : i < k := by rw [List.length_take] at hi; omega
    refine h i hi2 _ ?_
    rw [List.getElem_take, List.getElem?_eq_getElem (by omega)]) ht).1
  rw [← e] at this
  unfold findN
  rw [this, List.length_take]; omega
theorem find_no {c : UInt8} {l : List Tok} (h : ∀ (i : Nat) (u : Tok), l[i]? = some u → isS u c = false) : findN c l = l.length := by
  have := upTo_no c l (fun t ht => by
    obtain ⟨i, hi, rfl⟩ := List.mem_iff_getElem.1 ht
    exact h i _ (List.getElem?_eq_getElem hi))
  rw [from_drop] at this
  have h1 := find_le c l
  have h2 := congrArg List.length this
  rw [List.length_drop, List.length_nil] at h2
  omega
theorem find_at {c : UInt8} {l : List Tok} (h : findN c l < l.length) : l[findN c l]? = some ⟨4, [c]⟩ := by
  induction l with
  | nil => simp at h
  | cons t r ih =>
    by_cases hc : isS t c = true
    · have e : findN c (t :: r) = 0 := by unfold findN upToS; rw [List.takeWhile_cons_of_neg (by simp [hc])]; rfl
      rw [e, (isS_iff t c).1 hc]; rfl
    · have e : findN c (t :: r) = findN c r + 1 := by unfold findN upToS; rw [List.takeWhile_cons_of_pos (by simp [hc])]; rfl
      rw [e] at h ⊢
      rw [List.getElem?_cons_succ]
      exact ih (by rw [List.length_cons] at h; omega)
/-- As the program's find answers. -/
def findI (c : UInt8) (l : List Tok) : Int := if findN c l < l.length then (findN c l : Int) else -1
theorem findI_no {c : UInt8} {l : List Tok} (h : fromS c l = []) : findI c l = -1 := by
  rw [from_drop, List.drop_eq_nil_iff] at h
  unfold findI
  rw [if_neg (by omega)]
theorem findI_yes {c : UInt8} {l : List Tok} {x : Tok} {r : List Tok} (h : fromS c l = x :: r) : ∃ k, k < l.length ∧ findI c l = k ∧ findN c l = k ∧ l.take k = upToS c l ∧ l.drop (k + 1) = r := by
  rw [from_drop] at h
  have hl : findN c l < l.length := by
    have := congrArg List.length h
    rw [List.length_drop, List.length_cons] at this
    omega
  refine ⟨findN c l, hl, by unfold findI; rw [if_pos hl], rfl, (up_take c l).symm, ?_⟩
  rw [← List.drop_drop, h]; rfl
/-! ### The first piece -/
def stF : Bool → Nat → Nat → List Tok → Nat × Nat
  | _, s, k, [] => (s, k)
  | true, s, k, t :: r => stF (!isS t 62) s (k + 1) r
  | false, s, k, t :: r => if isS t 44 = true ∨ isS t 59 = true then (s, k) else stF (isS t 60) (if isS t 58 = true then k + 1 else s) (k + 1) r
theorem cut_more (full : List Tok) (s k : Nat) (t : Tok) (hk : full[k]? = some t) (hs : s ≤ k) : (full.take k).drop s ++ [t] = (full.take (k + 1)).drop s := by
  have hl : (full.take k).length = k := by
    rw [List.length_take]
    have := (List.getElem?_eq_some_iff.1 hk).1
    omega
  rw [List.take_add_one, hk, List.drop_append_of_le_length (by rw [hl]; exact hs)]
  rfl
theorem st_spec (full : List Tok) : ∀ (l : List Tok) (b : Bool) (s k : Nat), full.drop k = l → s ≤ k → k ≤ full.length →
    (stF b s k l).1 ≤ (stF b s k l).2 ∧ (stF b s k l).2 ≤ full.length ∧
    pcs b ((full.take k).drop s) l = ((full.take (stF b s k l).2).drop (stF b s k l).1) :: (if (stF b s k l).2 < full.length then pcs false [] (full.drop ((stF b s k l).2 + 1)) else [])
  | [], b, s, k, h, hs, hk => by
    have hl : full.length ≤ k := by rw [List.drop_eq_nil_iff] at h; exact h
    have e : stF b s k [] = (s, k) := by cases b <;> rfl
    have e2 : pcs b ((full.take k).drop s) [] = [(full.take k).drop s] := by cases b <;> rfl
    rw [e, e2]
    dsimp only
    rw [if_neg (by omega)]
    exact ⟨hs, hk, rfl⟩
  | t :: r, b, s, k, h, hs, hk => by
    have hlt : k < full.length := by
      have := congrArg List.length h
      rw [List.length_drop, List.length_cons] at this
      omega
    have ht : full[k]? = some t := by
      have := congrArg (fun x => x[0]?) h
      simp only [List.getElem?_drop, List.getElem?_cons_zero, Nat.add_zero] at this
      exact this
    have hr : full.drop (k + 1) = r := by rw [← List.drop_drop, h]; rfl
    cases b with
    | true =>
      rw [stF, pcs, cut_more full s k t ht hs]
      exact st_spec full r _ s (k + 1) hr (by omega) hlt
    | false =>
      rw [stF, pcs]
      by_cases hx : isS t 44 = true ∨ isS t 59 = true
      · rw [if_pos hx, if_pos hx]
        dsimp only
        rw [if_pos hlt, hr]
        exact ⟨hs, hk, rfl⟩
      · rw [if_neg hx, if_neg hx]
        by_cases h58 : isS t 58 = true
        · rw [if_pos h58, if_pos h58]
          have := st_spec full r (isS t 60) (k + 1) (k + 1) hr (Nat.le_refl _) hlt
          rw [show (full.take (k + 1)).drop (k + 1) = [] from List.drop_eq_nil_of_le (by rw [List.length_take]; omega)] at this
          exact this
        · rw [if_neg h58, if_neg h58, cut_more full s k t ht hs]
          exact st_spec full r _ s (k + 1) hr (by omega) hlt
/-- The first piece and what is left behind it. -/
theorem st_first (l : List Tok) : ∃ p q, stF false 0 0 l = (p, q) ∧ p ≤ q ∧ q ≤ l.length ∧ pcs false [] l = ((l.take q).drop p) :: (if q < l.length then pcs false [] (l.drop (q + 1)) else []) := by
  obtain ⟨h1, h2, h3⟩ := st_spec l l false 0 0 rfl (Nat.le_refl _) (Nat.zero_le _)
  exact ⟨_, _, rfl, h1, h2, h3⟩
theorem st_in (t : Tok) (r : List Tok) (s k : Nat) : stF true s k (t :: r) = stF (!isS t 62) s (k + 1) r := by rw [stF]
theorem st_end (t : Tok) (r : List Tok) (s k : Nat) (h : isS t 44 = true ∨ isS t 59 = true) : stF false s k (t :: r) = (s, k) := by rw [stF, if_pos h]
theorem st_go (t : Tok) (r : List Tok) (s k : Nat) (h : ¬ (isS t 44 = true ∨ isS t 59 = true)) : stF false s k (t :: r) = stF (isS t 60) (if isS t 58 = true then k + 1 else s) (k + 1) r := by rw [stF, if_neg h]
theorem parse_cons (x : List Tok) (p : List (List Tok)) : parseP (x :: p) = ((oneT x).toList ++ (parseP p).1, (x.isEmpty || (oneT x).isSome) && (parseP p).2) := by
  unfold parseP
  rw [List.filterMap_cons, List.all_cons]
  cases oneT x <;> rfl
theorem one_nil : oneT [] = none := rfl
/-! ### Words between dots, at a place of a list -/
theorem dots_word {ok : Tok → Bool} {l : List Tok} {k : Nat} {t : Tok} (h : l[k]? = some t) (ht : ok t = true) : dotsT ok true (l.drop k) = (dotsT ok false (l.drop (k + 1))).map (valueL t ++ ·) := by
  obtain ⟨h1, h2⟩ := List.getElem?_eq_some_iff.1 h
  rw [List.drop_eq_getElem_cons h1, h2, dotsT, if_pos ht]
theorem dots_word_no {ok : Tok → Bool} {l : List Tok} {k : Nat} {t : Tok} (h : l[k]? = some t) (ht : ok t = false) : dotsT ok true (l.drop k) = none := by
  obtain ⟨h1, h2⟩ := List.getElem?_eq_some_iff.1 h
  rw [List.drop_eq_getElem_cons h1, h2, dotsT, if_neg (by rw [ht]; exact Bool.false_ne_true)]
theorem dots_dot {ok : Tok → Bool} {l : List Tok} {k : Nat} {t : Tok} (h : l[k]? = some t) (ht : isS t 46 = true) : dotsT ok false (l.drop k) = (dotsT ok true (l.drop (k + 1))).map (valueL t ++ ·) := by
  obtain ⟨h1, h2⟩ := List.getElem?_eq_some_iff.1 h
  rw [List.drop_eq_getElem_cons h1, h2, dotsT, if_pos ht, (isS_iff t 46).1 ht]
  rfl
theorem dots_dot_no {ok : Tok → Bool} {l : List Tok} {k : Nat} {t : Tok} (h : l[k]? = some t) (ht : isS t 46 = false) : dotsT ok false (l.drop k) = none := by
  obtain ⟨h1, h2⟩ := List.getElem?_eq_some_iff.1 h
  rw [List.drop_eq_getElem_cons h1, h2, dotsT, if_neg (by rw [ht]; exact Bool.false_ne_true)]
theorem map_map_app (o : Option (List UInt8)) (a b : List UInt8) : (o.map (b ++ ·)).map (a ++ ·) = o.map ((a ++ b) ++ ·) := by
  cases o with
  | none => rfl
  | some x => simp
/-! ### Dot-atoms by their tokens -/
theorem dot_text : ∀ (a : List UInt8) (s : List UInt8) (b : Bool), a ≠ [] → (∀ c ∈ a, atomB c = true) → dotA b (a ++ s) = dotA true s
  | [], _, _, h, _ => absurd rfl h
  | [c], s, b, _, h => by rw [List.cons_append, dotA, if_pos (h c (by simp))]; rfl
  | c :: d :: t, s, b, _, h => by
    rw [List.cons_append, dotA, if_pos (h c (by simp))]
    exact dot_text (d :: t) s true (by simp) (fun x hx => h x (by simp [hx]))
theorem take_all (p : UInt8 → Bool) (l : List UInt8) : ∀ c ∈ l.takeWhile p, p c = true := by
  intro c hc
  have := List.all_takeWhile (p := p) (l := l)
  rw [List.all_eq_true] at this
  exact this c hc
theorem front_atoms (s : List UInt8) (hs : s ≠ []) (h : (frontL s).kind = 1) : ∀ c ∈ (frontL s).text, atomB c = true := by
  obtain ⟨c, t, rfl⟩ := List.exists_cons_of_ne_nil hs
  have ha := ((front_kind c t).2.1 h).1
  rw [front_atom c t ha]
  exact take_all _ _
/-- Tokens of atoms between dots make up a dot-atom. -/
theorem dots_back : ∀ (n : Nat) (s : List UInt8), s.length ≤ n → ((dotsT atomT true (scanL s)).isSome = true → dotA false s = true) ∧ ((dotsT atomT false (scanL s)).isSome = true → dotA true s = true) := by
  intro n
  induction n with
  | zero =>
    intro s h
    obtain rfl : s = [] := List.eq_nil_of_length_eq_zero (by omega)
    exact ⟨fun h => absurd h (by decide), fun _ => rfl⟩
  | succ n ih =>
    intro s h
    by_cases hs : s = []
    · subst hs
      exact ⟨fun h => absurd h (by decide), fun _ => rfl⟩
    · have hpre := front_pre s
      have hpos := List.length_pos_iff.2 (front_pos s hs)
      have hd : (s.drop (frontL s).text.length).length ≤ n := by rw [List.length_drop]; omega
      obtain ⟨i1, i2⟩ := ih _ hd
      constructor
      · intro hp
        rw [scan_cons s hs, dotsT] at hp
        split at hp
        · rename_i hk
          rw [Option.isSome_map] at hp
          have hk1 : (frontL s).kind = 1 := by simpa [atomT] using hk
          rw [← hpre, dot_text _ _ _ (front_pos s hs) (front_atoms s hs hk1)]
          exact i2 hp
        · exact absurd hp (by decide)
      · intro hp
        rw [scan_cons s hs, dotsT] at hp
        split at hp
        · rename_i hk
          rw [Option.isSome_map] at hp
          have := (isS_iff _ _).1 hk
          have ht : (frontL s).text = [46] := by rw [this]
          rw [ht] at hpre i1 hp
          rw [← hpre]
          show dotA true (46 :: s.drop [(46 : UInt8)].length) = true
          rw [dotA, if_neg (by decide), if_pos ⟨rfl, rfl⟩]
          exact i1 hp
        · exact absurd hp (by decide)
theorem dot_tokens (s : List UInt8) : (dotsT atomT true (scanL s)).isSome = dotA false s := by
  rw [Bool.eq_iff_iff]
  constructor
  · exact (dots_back s.length s (Nat.le_refl _)).1
  · intro h
    rw [(dot_scan atomT (fun t ht => by unfold atomT; rw [ht]; rfl) s.length s (Nat.le_refl _) h).1]
    rfl
/-! ### Message ids by cuts -/
def solidB (s : List UInt8) : Bool := s.all (fun c => decide (32 < c.toNat) && c != 127)
theorem ids_none_shut : ∀ (s : List UInt8) (o : Option (List UInt8)), 62 ∉ s → idsF o s = []
  | [], o, _ => by cases o <;> rfl
  | c :: t, o, h => by
    simp only [List.mem_cons, not_or] at h
    have ih := fun o => ids_none_shut t o h.2
    cases o with
    | none =>
      rw [idsF]
      split
      · exact ih _
      · exact ih _
    | some x =>
      rw [idsF, if_neg (show ¬ c = 62 from fun e => h.1 e.symm)]
      split
      · exact ih _
      · split
        · exact ih _
        · exact ih _
theorem ids_last : ∀ (x z : List UInt8) (o : Option (List UInt8)), 62 ∉ x → idsF o (x ++ 60 :: z) = idsF (some []) z
  | [], z, o, _ => by
    cases o with
    | none => rw [List.nil_append, idsF, if_pos rfl]
    | some y => rw [List.nil_append, idsF, if_pos rfl]
  | c :: t, z, o, h => by
    simp only [List.mem_cons, not_or] at h
    have ih := fun o => ids_last t z o h.2
    cases o with
    | none =>
      rw [List.cons_append, idsF]
      split
      · exact ih _
      · exact ih _
    | some x =>
      rw [List.cons_append, idsF, if_neg (show ¬ c = 62 from fun e => h.1 e.symm)]
      split
      · exact ih _
      · split
        · exact ih _
        · exact ih _
theorem ids_tail : ∀ (y acc r : List UInt8), 60 ∉ y → 62 ∉ y → idsF (some acc) (y ++ 62 :: r) = (if solidB y = true ∧ 0 < (acc ++ y).length ∧ (acc ++ y).length ≤ 250 then [acc ++ y] else []) ++ idsF none r
  | [], acc, r, _, _ => by
    rw [List.nil_append, idsF, if_neg (by decide), if_pos rfl, List.append_nil]
    have : solidB [] = true := rfl
    rw [this]
    split
    · rename_i h; rw [if_pos ⟨rfl, h⟩]; rfl
    · rename_i h; rw [if_neg (fun e => h e.2)]; rfl
  | c :: y, acc, r, h60, h62 => by
    simp only [List.mem_cons, not_or] at h60 h62
    rw [List.cons_append, idsF, if_neg (fun e => h60.1 e.symm), if_neg (fun e => h62.1 e.symm)]
    have hs : solidB (c :: y) = ((decide (32 < c.toNat) && c != 127) && solidB y) := rfl
    by_cases hb : c.toNat ≤ 32 ∨ c = 127
    · rw [if_pos hb]
      have hs2 : solidB (c :: y) = false := by
        rw [hs]
        rcases hb with hb | hb
        · rw [decide_eq_false (by omega)]; rfl
        · rw [hb]; simp
      rw [hs2, if_neg (by simp), List.nil_append, ids_skip y _ h60.2, idsF, if_neg (by decide)]
    · rw [if_neg hb, ids_tail y (acc ++ [c]) r h60.2 h62.2]
      have hs2 : solidB (c :: y) = solidB y := by
        rw [hs, decide_eq_true (by omega), show (c != 127) = true by simp; exact fun e => hb (.inr e)]; rfl
      rw [hs2, show acc ++ [c] ++ y = acc ++ c :: y by simp]
/-- What stands behind the last angle bracket that opens, if one does. -/
def candL (b : List UInt8) : List (List UInt8) :=
  if 60 ∈ b then
    let y := (b.reverse.takeWhile (fun c => c != 60)).reverse
    if solidB y = true ∧ 0 < y.length ∧ y.length ≤ 250 then [y] else []
  else []
theorem ids_cut_no (b r : List UInt8) (_h62 : 62 ∉ b) (h : 60 ∉ b) : idsF none (b ++ 62 :: r) = idsF none r := by
  rw [ids_skip b _ h, idsF, if_neg (by decide)]
theorem ids_cut_yes (x y r : List UInt8) (h62 : 62 ∉ x ++ 60 :: y) (h : 60 ∉ y) : idsF none ((x ++ 60 :: y) ++ 62 :: r) = (if solidB y = true ∧ 0 < y.length ∧ y.length ≤ 250 then [y] else []) ++ idsF none r := by
  simp only [List.mem_append, List.mem_cons, not_or] at h62
  rw [List.append_assoc, List.cons_append, ids_last x _ none h62.1, ids_tail y [] r h h62.2.2, List.nil_append]
end Go.Proofs.YtdinachiiimngaaGreatDoor.AdrP
namespace Go.Proofs.YtdinachiiimngaaGreatDoor.CtP
open TokP AdrP

/-- Rows by the place of the first semicolon. -/
theorem rows_at {l : List Tok} {k : Nat} {t : Tok} (hk : l[k]? = some t) (ht : isS t 59 = true) (h : ∀ i u, i < k → l[i]? = some u → isS u 59 = false) : rowsT [] l = l.take k :: rowsT [] (l.drop (k + 1)) := by
  obtain ⟨h1, h2⟩ := List.getElem?_eq_some_iff.1 hk
  have e : l = l.take k ++ t :: l.drop (k + 1) := by rw [← h2, ← List.drop_eq_getElem_cons h1, List.take_append_drop]
  have ha : ∀ u ∈ l.take k, isS u 59 = false := fun u hu => by
    obtain ⟨i, hi, rfl⟩ := List.mem_iff_getElem.1 hu
    have hi2 : i < k := by rw [List.length_take] at hi; omega
    refine h i _ hi2 ?_
    rw [List.getElem_take]
    exact List.getElem?_eq_getElem (by omega)
  have hgo : ∀ (A B now : List Tok), (∀ u ∈ A, isS u 59 = false) → rowsT now (A ++ t :: B) = (now ++ A) :: rowsT [] B := by
    intro A
    induction A with
    | nil => intro B now _; rw [List.nil_append, rowsT, if_pos ht, List.append_nil]
    | cons u A ih =>
      intro B now hA
      rw [List.cons_append, rowsT, if_neg (by rw [hA u (by simp)]; exact Bool.false_ne_true), ih B _ (fun v hv => hA v (by simp [hv])), List.append_assoc]
      rfl
  conv => lhs; rw [e]
  rw [hgo _ _ [] ha, List.nil_append]
theorem rows_not {l : List Tok} (h : ∀ u ∈ l, isS u 59 = false) : rowsT [] l = [l] := by rw [rows_end l [] h, List.nil_append]
def hasEq (t : Tok) : Bool := decide (t.kind = 1) && t.text.contains 61
theorem hasEq_iff (t : Tok) : hasEq t = true ↔ t.kind = 1 ∧ 61 ∈ t.text := by
  unfold hasEq
  rw [Bool.and_eq_true, decide_eq_true_eq, List.contains_iff_mem]
theorem pair_none (num : List UInt8 → Option Nat) : ∀ (l : List Tok) (pre : List UInt8), (∀ u ∈ l, hasEq u = false) → pairP num pre l = none
  | [], _, _ => rfl
  | t :: r, pre, h => by
    rw [pairP, if_neg (fun hc => ?_)]
    · exact pair_none num r _ (fun u hu => h u (by simp [hu]))
    · have := h t (by simp)
      rw [(hasEq_iff t).2 hc] at this
      exact absurd this (by decide)
/-- What the row's name is in the program's words, and what it gives. -/
theorem pair_at (num : List UInt8 → Option Nat) {l : List Tok} {k : Nat} {t : Tok} (hk : l[k]? = some t) (ht : hasEq t = true) (h : ∀ i u, i < k → l[i]? = some u → hasEq u = false) :
    pairP num [] l = if (joinL (l.take k) ++ upC 61 t.text) = [] then none else some (toldP num ((joinL (l.take k) ++ upC 61 t.text).map lowA) (pairV (behind 61 t.text) (l.drop (k + 1)))) := by
  obtain ⟨h1, h2⟩ := List.getElem?_eq_some_iff.1 hk
  have e : l = l.take k ++ t :: l.drop (k + 1) := by rw [← h2, ← List.drop_eq_getElem_cons h1, List.take_append_drop]
  have ha : ∀ u ∈ l.take k, hasEq u = false := fun u hu => by
    obtain ⟨i, hi, rfl⟩ := List.mem_iff_getElem.1 hu
    have hi2 : i < k := by rw [List.length_take] at hi; omega
    refine h i _ hi2 ?_
    rw [List.getElem_take]
    exact List.getElem?_eq_getElem (by omega)
  have hgo : ∀ (A B : List Tok) (pre : List UInt8), (∀ u ∈ A, hasEq u = false) → pairP num pre (A ++ t :: B) = if ((pre ++ joinL A) ++ upC 61 t.text) = [] then none else some (toldP num (((pre ++ joinL A) ++ upC 61 t.text).map lowA) (pairV (behind 61 t.text) B)) := by
    intro A
    induction A with
    | nil =>
      intro B pre _
      have hj : joinL ([] : List Tok) = [] := rfl
      rw [List.nil_append, pairP, if_pos ((hasEq_iff t).1 ht), hj, List.append_nil]
    | cons u A ih =>
      intro B pre hA
      have hj : joinL (u :: A) = u.text ++ joinL A := by unfold joinL; simp
      rw [List.cons_append, pairP, if_neg (fun hc => ?_), ih B _ (fun v hv => hA v (by simp [hv])), hj, List.append_assoc pre]
      have := hA u (by simp)
      rw [(hasEq_iff u).2 hc] at this
      exact absurd this (by decide)
  conv => lhs; rw [e]
  rw [hgo _ _ [] ha, List.nil_append]
end Go.Proofs.YtdinachiiimngaaGreatDoor.CtP
namespace Go.Proofs.YtdinachiiimngaaGreatDoor
open Go.ChangeShapes Go.WideShapes Go.ChangeAt Go.RowKit
open TokP AdrP CtP

theorem HasF.at {w : World} {a : Option Addr} {n c : Nat} {l : List Tok} (h : HasF w (.slice a n c) l) (hn : 0 < n) : ∃ g o, a = some ⟨g, o, none⟩ ∧ FAt w g o l := by
  rcases h with ⟨e, _⟩ | ⟨g, o, c', e, h⟩
  · injection e with _ e _; omega
  · injection e with e _ _; exact ⟨g, o, e, h⟩
theorem HasT.cap {w : World} {a : Option Addr} {n c : Nat} {l : List Tok} (h : HasT w (.slice a n c) l) : n = l.length ∧ n ≤ c ∧ HasF w (.slice a n c) l := by
  obtain ⟨a', c', e, h1, h2⟩ := h
  injection e with _ e1 e2
  subst e2
  exact ⟨e1, by omega, h2⟩
theorem cut_at (l : List Tok) (p q i : Nat) (f : Tok) (h : ((l.take q).drop p)[i]? = some f) : l[p + i]? = some f := by
  rw [List.getElem?_drop] at h
  rw [List.getElem?_take] at h
  split at h
  · exact h
  · exact absurd h (by simp)
/-- A part of a slice of tokens. -/
theorem has_sub {a : Option Addr} {c : Nat} {l : List Tok} (p q : Nat) (hpq : p ≤ q) (hq : q ≤ l.length) (hc : l.length ≤ c) {w : World} (h : HasF w (.slice a l.length c) l) : HasT w (sliced a p q c 2) ((l.take q).drop p) := by
  have hl : ((l.take q).drop p).length = q - p := by rw [List.length_drop, List.length_take]; omega
  unfold sliced
  rcases h with ⟨e, rfl⟩ | ⟨g, o, c', e, h⟩
  · injection e with e1 e2 e3
    subst e1 e3
    obtain rfl : q = 0 := by simp at hq; exact hq
    obtain rfl : p = 0 := by omega
    exact ⟨none, 0, rfl, by simp, .inl ⟨rfl, rfl⟩⟩
  · injection e with e1 e2 e3
    subst e1 e3
    refine ⟨_, _, by rw [hl], by rw [hl]; omega, ?_⟩
    by_cases hcp : c = p
    · rw [if_pos hcp]
      refine .inr ⟨g, o, _, by rw [hl], fun i f hf => ?_⟩
      have : i < ((l.take q).drop p).length := (List.getElem?_eq_some_iff.1 hf).1
      omega
    · rw [if_neg hcp, Option.map_some, add_none]
      refine .inr ⟨g, o + p * 2, _, by rw [hl], fun i f hf => ?_⟩
      have := h (p + i) f (cut_at l p q i f hf)
      rw [show o + (p + i) * 2 = o + p * 2 + i * 2 by omega] at this
      exact this
theorem elem38 : Tryz.prog.elem 55 = 89 := by
  unfold Program.elem
  rw [Tryz.underlying55]
theorem under38 : Tryz.prog.underlying 55 = some (.slice (Tryz.prog.elem 55)) := by
  rw [elem38]
  exact Tryz.underlying55
theorem size43 (W : World) : (sizeOf (Tryz.prog.elem 55)).run Tryz.prog W = .ok 2 W := by
  rw [elem38]
  exact Tryz.sizeOf89 W
/-- How the walk takes a part of a slice of tokens. -/
theorem run_sub {w : World} {a : Option Addr} {n c : Nat} {l : List Tok} (h : HasT w (.slice a n c) l) (p q : Nat) (x y : Int) (hx : x = p) (hy : y = q) (hpq : p ≤ q) (hq : q ≤ n) :
    ∃ A C, (∀ W : World, (Instr.slice 55 (.slice a n c) (some (.int .i64 x)) (some (.int .i64 y)) none).run Tryz.prog W = .ok (.slice A (q - p) C) W) ∧ HasT w (.slice A (q - p) C) ((l.take q).drop p) := by
  subst hx hy
  obtain ⟨rfl, hc, hf⟩ := h.cap
  refine ⟨_, _, fun W => ?_, has_sub p q hpq hq hc hf⟩
  rw [run_slice_lh W 55 a l.length c under38 .i64 .i64 p q (by omega) (by omega) (by omega), size43]
  simp only [Result.andThen, Int.toNat_natCast]
  rfl
theorem run_sub_to {w : World} {a : Option Addr} {n c : Nat} {l : List Tok} (h : HasT w (.slice a n c) l) (q : Nat) (y : Int) (hy : y = q) (hq : q ≤ n) :
    ∃ A C, (∀ W : World, (Instr.slice 55 (.slice a n c) none (some (.int .i64 y)) none).run Tryz.prog W = .ok (.slice A q C) W) ∧ HasT w (.slice A q C) (l.take q) := by
  subst hy
  obtain ⟨rfl, hc, hf⟩ := h.cap
  refine ⟨_, _, fun W => ?_, has_sub 0 q (by omega) hq hc hf⟩
  rw [run_slice_h W 55 a l.length c under38 .i64 q (by omega) (by omega), size43]
  simp only [Result.andThen, Int.toNat_natCast]
  rfl
theorem run_sub_from {w : World} {a : Option Addr} {n c : Nat} {l : List Tok} (h : HasT w (.slice a n c) l) (p : Nat) (x : Int) (hx : x = p) (hp : p ≤ n) :
    ∃ A C, (∀ W : World, (Instr.slice 55 (.slice a n c) (some (.int .i64 x)) none none).run Tryz.prog W = .ok (.slice A (n - p) C) W) ∧ HasT w (.slice A (n - p) C) (l.drop p) := by
  subst hx
  obtain ⟨rfl, hc, hf⟩ := h.cap
  have h2 := has_sub p l.length hp (Nat.le_refl _) hc hf
  rw [List.take_of_length_le (Nat.le_refl _)] at h2
  refine ⟨_, _, fun W => ?_, h2⟩
  rw [run_slice_l W 55 a l.length c under38 .i64 p (by omega) (by omega), size43]
  simp only [Result.andThen, Int.toNat_natCast]
  rfl
/-- The place of the first semicolon, or -1. -/
def SemiAt (l : List TokP.Tok) (z : Int) : Prop := (z = -1 ∧ ∀ u ∈ l, isS u 59 = false) ∨ ∃ (k : Nat) (t : TokP.Tok), z = k ∧ l[k]? = some t ∧ isS t 59 = true ∧ ∀ i u, i < k → l[i]? = some u → isS u 59 = false
def EqAt (l : List TokP.Tok) (z : Int) : Prop := (z = -1 ∧ ∀ u ∈ l, hasEq u = false) ∨ ∃ (k : Nat) (t : TokP.Tok), z = k ∧ l[k]? = some t ∧ hasEq t = true ∧ ∀ i u, i < k → l[i]? = some u → hasEq u = false
theorem semi_is (t : TokP.Tok) : decide ((⟨4, [59]⟩ : TokP.Tok) = t) = isS t 59 := by
  unfold isS
  rw [Bool.eq_iff_iff, decide_eq_true_iff, Bool.and_eq_true, beq_iff_eq, beq_iff_eq]
  constructor
  · rintro rfl; exact ⟨rfl, rfl⟩
  · rintro ⟨h1, h2⟩; exact (tok_ext h1 h2).symm
theorem drew_belowT (w : World) (n : Nat) : Below w.heap.size w (w.drewN n) := ⟨rfl, rfl, rfl, Nat.le_refl _, fun _ _ => rfl⟩
set_option maxRecDepth 100000 in
set_option maxHeartbeats 2000000 in
theorem index_tok {a : Option Addr} {n c : Nat} {l : List TokP.Tok} {w : World} (h : HasT w (.slice a n c) l) (hn : n ≤ 4000000) :
    Calls Tryz.prog 64 #[.slice a n c, .agg #[.int .i64 4, .string ⟨#[59]⟩]] w fun e w' => ∃ z, e = .returned (.int .i64 z) ∧ SemiAt l z ∧ Below w.heap.size w w' := by
  obtain ⟨hl, hc, hf⟩ := h.cap
  have HL := Lib.hid hl
  have HF := Lib.hid hf
  have HB0 := Lib.hid ((Below.refl w.heap.size w).alloc (Nat.le_refl _) (.cells #[.int .i64 4, .string ⟨#[59]⟩] 89))
  have hnew := World.alloc_heap_new w (.cells #[.int .i64 4, .string ⟨#[59]⟩] 89)
  obtain ⟨W1, hW1⟩ : ∃ W1, w.alloc (.cells #[.int .i64 4, .string ⟨#[59]⟩] 89) = W1 := ⟨_, rfl⟩
  rw [hW1] at HB0 hnew
  have k0 : W1.cell? ⟨w.heap.size, 0, none⟩ = some (.int .i64 4) := by simp [World.cell?, hnew]
  have k1 : W1.cell? ⟨w.heap.size, 1, none⟩ = some (.string ⟨#[59]⟩) := by simp [World.cell?, hnew]
  have HK := Lib.hid (And.intro k0 k1)
  have HLT : Hid (W1.heap.size = w.heap.size + 1) := by rw [← hW1]; exact Lib.hid (World.size_alloc _ _)
  have HW1 := Lib.hid hW1
  clear h hl hf hnew k0 k1 hW1
  go_enter Tryz.func64, Tryz.ntmps64
  go_wp2_with fail
  rw [HW1.out]
  go_loopw [8] (fun i wr => ∃ k : Nat, k ≤ n ∧ i = .int .i64 k ∧ Hid (Below W1.heap.size W1 wr) ∧ Hid (∀ i u, i < k → l[i]? = some u → isS u 59 = false)) (fun i _ => n - (intOf i).toNat)
  case atStart => exact ⟨0, Nat.zero_le _, rfl, Lib.hid (Below.refl _ _), Lib.hid (fun i u hi => absurd hi (Nat.not_lt_zero _))⟩
  case round =>
    obtain ⟨k, hk, rfl, HD, HNO⟩ := hrel
    have F1 : IntKind.i64.wrap ((k : Int) + 1) = (k : Int) + 1 := by rw [IntKind.wrap_i64]; omega
    by_cases hlt : k < n
    · have hlt' : (k : Int) < (n : Int) := by omega
      obtain ⟨g, o, rfl, hfa⟩ := HF.out.at (by omega)
      obtain ⟨t, ht⟩ : ∃ t, l[k]? = some t := ⟨_, List.getElem?_eq_getElem (by rw [← HL.out]; exact hlt)⟩
      obtain ⟨q0, q1⟩ := (hfa.step HB0.out).step HD.out k t ht
      have p0 := cell_below HK.out.1 HD.out
      have p1 := cell_below HK.out.2 HD.out
      have hEq := run_equal_tok ⟨4, [59]⟩ t
      rw [semi_is] at hEq
      have e4 : strL [59] = (⟨#[59]⟩ : ByteArray) := rfl
      simp only [e4] at hEq
      rw [show (((4 : Nat)) : Int) = 4 from rfl] at hEq
      cases hs : isS t 59 with
      | true =>
        rw [hs] at hEq
        have HA := Lib.hid (show SemiAt l k from .inr ⟨k, t, rfl, ht, hs, HNO.out⟩)
        generalize ((t.kind : Nat) : Int) = x1 at q0 hEq
        generalize strL t.text = x2 at q1 hEq
        clear hs ht hfa HNO e4
        go_wp2_with fail
        go_quiet (fail)
        go_wp2_with fail
        go_ret
        exact ⟨_, rfl, HA.out, HB0.out.trans ((HD.out.trans ((drew_belowT wr _).mono HD.out.size)).mono HB0.out.size)⟩
      | false =>
        rw [hs] at hEq
        have HN2 := Lib.hid (fun (i : Nat) (u : TokP.Tok) (hi : i < k + 1) (hu : l[i]? = some u) => show isS u 59 = false by
          rcases (show i < k ∨ i = k by omega) with h | rfl
          · exact HNO.out i u h hu
          · rw [ht] at hu; rw [← Option.some.inj hu]; exact hs)
        generalize ((t.kind : Nat) : Int) = x1 at q0 hEq
        generalize strL t.text = x2 at q1 hEq
        clear hs ht hfa HNO e4
        go_wp2_with fail
        go_quiet (fail)
        go_wp2_with fail
        go_roundw
        case rel => exact ⟨k + 1, by omega, by go_num, Lib.hid (HD.out.trans ((drew_belowT wr _).mono HD.out.size)), HN2⟩
        case measure => simp [intOf]; omega
    · obtain rfl : k = n := by omega
      have hlt' : ¬ (k : Int) < (k : Int) := by omega
      have HA := Lib.hid (show SemiAt l (-1) from .inl ⟨rfl, fun u hu => by
        obtain ⟨i, hi, rfl⟩ := List.mem_iff_getElem.1 hu
        exact HNO.out i _ (by rw [HL.out]; exact hi) (List.getElem?_eq_getElem hi)⟩)
      clear HNO
      go_wp2_with fail
      go_ret
      exact ⟨_, rfl, HA.out, HB0.out.trans (HD.out.mono HB0.out.size)⟩
/-! ### slices.IndexFunc with the row's test -/
set_option maxRecDepth 100000 in
set_option maxHeartbeats 2000000 in
theorem test_tok (t : TokP.Tok) (b : Bool) (hb : hasEq t = b) (x : Int) (hx : (t.kind : Int) = x) (X : ByteArray) (hX : strL t.text = X) (w : World) :
    Calls Tryz.prog 100 #[.agg #[.int .i64 x, .string X]] w fun e w' => e = .returned (.bool b) ∧ Below w.heap.size w w' := by
  have cC := fun W => Tryz.strings_Contains_one X 61 W
  have hi := index_in X.data.toList 61
  rw [← hX, strL_list] at hi
  rw [show X.data.toList = t.text by rw [← hX]; rfl] at cC
  have HB0 := Lib.hid ((Below.refl w.heap.size w).alloc (Nat.le_refl _) (.cells #[.int .i64 x, .string X] 89))
  unfold hasEq at hb
  rw [← hi] at hb
  generalize decide (0 ≤ Lib.indexByte t.text 61) = d at cC hb
  by_cases h1 : t.kind = 1
  · have e1 : (x == 1) = true := by rw [← hx, h1]; rfl
    rw [decide_eq_true h1, Bool.true_and] at hb
    subst hb
    clear hi hx hX h1
    go_enter Tryz.func100, Tryz.ntmps100
    go_wp2_with (go_at_call 101; refine (cC _).mono ?_; rintro e w2 ⟨rfl, rfl⟩)
    go_ret
    exact ⟨rfl, HB0.out⟩
  · have e1 : (x == 1) = false := beq_eq_false_iff_ne.2 (by rw [← hx]; omega)
    rw [decide_eq_false h1, Bool.false_and] at hb
    subst hb
    clear hi hx hX h1 cC
    go_enter Tryz.func100, Tryz.ntmps100
    go_wp2_with fail
    go_ret
    exact ⟨rfl, HB0.out⟩
set_option maxRecDepth 100000 in
set_option maxHeartbeats 2000000 in
theorem index_eq {a : Option Addr} {n c : Nat} {l : List TokP.Tok} {w : World} (h : HasT w (.slice a n c) l) (hn : n ≤ 4000000) :
    Calls Tryz.prog 99 #[.slice a n c, .func (.func 100) #[] #[]] w fun e w' => ∃ z, e = .returned (.int .i64 z) ∧ EqAt l z ∧ Below w.heap.size w w' := by
  obtain ⟨hl, hc, hf⟩ := h.cap
  have HL := Lib.hid hl
  have HF := Lib.hid hf
  clear h hl hf
  go_enter Tryz.func99, Tryz.ntmps99
  go_wp2_with fail
  go_loopw [8] (fun i wr => ∃ k : Nat, k ≤ n ∧ i = .int .i64 k ∧ Hid (Below w.heap.size w wr) ∧ Hid (∀ i u, i < k → l[i]? = some u → hasEq u = false)) (fun i _ => n - (intOf i).toNat)
  case atStart => exact ⟨0, Nat.zero_le _, rfl, Lib.hid (Below.refl _ _), Lib.hid (fun i u hi => absurd hi (Nat.not_lt_zero _))⟩
  case round =>
    obtain ⟨k, hk, rfl, HD, HNO⟩ := hrel
    have F1 : IntKind.i64.wrap ((k : Int) + 1) = (k : Int) + 1 := by rw [IntKind.wrap_i64]; omega
    by_cases hlt : k < n
    · have hlt' : (k : Int) < (n : Int) := by omega
      obtain ⟨g, o, rfl, hfa⟩ := HF.out.at (by omega)
      obtain ⟨t, ht⟩ : ∃ t, l[k]? = some t := ⟨_, List.getElem?_eq_getElem (by rw [← HL.out]; exact hlt)⟩
      obtain ⟨q0, q1⟩ := hfa.step HD.out k t ht
      cases hs : hasEq t with
      | true =>
        have cT := fun W => test_tok t true hs _ rfl _ rfl W
        have HA := Lib.hid (show EqAt l k from .inr ⟨k, t, rfl, ht, hs, HNO.out⟩)
        generalize ((t.kind : Nat) : Int) = x1 at q0 cT
        generalize strL t.text = x2 at q1 cT
        clear hs ht hfa HNO
        go_wp2_with (go_at_call 100; (with_reducible refine (cT _).mono ?_); rintro e w2 ⟨rfl, hb2⟩; have HB2 := Lib.hid (HD.out.trans (hb2.mono HD.out.size)); clear hb2 cT)
        go_ret
        exact ⟨_, rfl, HA.out, HB2.out⟩
      | false =>
        have cT := fun W => test_tok t false hs _ rfl _ rfl W
        have HN2 := Lib.hid (fun (i : Nat) (u : TokP.Tok) (hi : i < k + 1) (hu : l[i]? = some u) => show hasEq u = false by
          rcases (show i < k ∨ i = k by omega) with h | rfl
          · exact HNO.out i u h hu
          · rw [ht] at hu; rw [← Option.some.inj hu]; exact hs)
        generalize ((t.kind : Nat) : Int) = x1 at q0 cT
        generalize strL t.text = x2 at q1 cT
        clear hs ht hfa HNO
        go_wp2_with (go_at_call 100; (with_reducible refine (cT _).mono ?_); rintro e w2 ⟨rfl, hb2⟩; have HB2 := Lib.hid (HD.out.trans (hb2.mono HD.out.size)); clear hb2 cT)
        go_roundw
        case rel => exact ⟨k + 1, by omega, by go_num, HB2, HN2⟩
        case measure => simp [intOf]; omega
    · obtain rfl : k = n := by omega
      have hlt' : ¬ (k : Int) < (k : Int) := by omega
      have HA := Lib.hid (show EqAt l (-1) from .inl ⟨rfl, fun u hu => by
        obtain ⟨i, hi, rfl⟩ := List.mem_iff_getElem.1 hu
        exact HNO.out i _ (by rw [HL.out]; exact hi) (List.getElem?_eq_getElem hi)⟩)
      clear HNO
      go_wp2_with fail
      go_ret
      exact ⟨_, rfl, HA.out, HD.out⟩
/-! ### rows -/
theorem text_mem (l : List TokP.Tok) (t : TokP.Tok) (h : t ∈ l) : t.text.length ≤ (joinL l).length := by
  obtain ⟨k, hk, rfl⟩ := List.mem_iff_getElem.1 h
  have := text_le l k _ (List.getElem?_eq_getElem hk)
  omega
theorem first_ex (p : TokP.Tok → Bool) : ∀ l : List TokP.Tok, (∀ u ∈ l, p u = false) ∨ ∃ (k : Nat) (t : TokP.Tok), l[k]? = some t ∧ p t = true ∧ ∀ i u, i < k → l[i]? = some u → p u = false
  | [] => .inl (fun u hu => absurd hu (by simp))
  | t :: l => by
    cases ht : p t with
    | true => exact .inr ⟨0, t, rfl, ht, fun i u hi => absurd hi (Nat.not_lt_zero _)⟩
    | false =>
      rcases first_ex p l with h | ⟨k, u, h1, h2, h3⟩
      · exact .inl (fun u hu => by
          rcases List.mem_cons.1 hu with rfl | hu
          · exact ht
          · exact h u hu)
      · refine .inr ⟨k + 1, u, h1, h2, fun i v hi hv => ?_⟩
        cases i with
        | zero => rw [← Option.some.inj hv]; exact ht
        | succ i => exact h3 i v (by omega) hv
theorem first_uniq {p : TokP.Tok → Bool} {l : List TokP.Tok} {z z' : Int} (h : (z = -1 ∧ ∀ u ∈ l, p u = false) ∨ ∃ (k : Nat) (t : TokP.Tok), z = k ∧ l[k]? = some t ∧ p t = true ∧ ∀ i u, i < k → l[i]? = some u → p u = false)
    (h' : (z' = -1 ∧ ∀ u ∈ l, p u = false) ∨ ∃ (k : Nat) (t : TokP.Tok), z' = k ∧ l[k]? = some t ∧ p t = true ∧ ∀ i u, i < k → l[i]? = some u → p u = false) : z = z' := by
  rcases h with ⟨rfl, h⟩ | ⟨k, t, rfl, h1, h2, h3⟩
  · rcases h' with ⟨rfl, _⟩ | ⟨k, t, rfl, h1, h2, _⟩
    · rfl
    · rw [h t (List.mem_of_getElem? h1)] at h2; exact absurd h2 (by decide)
  · rcases h' with ⟨rfl, h⟩ | ⟨k', t', rfl, h1', h2', h3'⟩
    · rw [h t (List.mem_of_getElem? h1)] at h2; exact absurd h2 (by decide)
    · rcases Nat.lt_trichotomy k k' with hl | rfl | hl
      · rw [h3' k t hl h1] at h2; exact absurd h2 (by decide)
      · rfl
      · rw [h3 k' t' hl h1'] at h2'; exact absurd h2' (by decide)
theorem index_is {a : Option Addr} {n c : Nat} {l : List TokP.Tok} {w : World} (h : HasT w (.slice a n c) l) (hn : n ≤ 4000000) (z : Int) (hz : SemiAt l z) :
    Calls Tryz.prog 64 #[.slice a n c, .agg #[.int .i64 4, .string ⟨#[59]⟩]] w fun e w' => e = .returned (.int .i64 z) ∧ Below w.heap.size w w' :=
  (index_tok h hn).mono fun _ _ ⟨z', h1, h2, h3⟩ => ⟨by rw [h1, first_uniq h2 hz], h3⟩
theorem indexE_is {a : Option Addr} {n c : Nat} {l : List TokP.Tok} {w : World} (h : HasT w (.slice a n c) l) (hn : n ≤ 4000000) (z : Int) (hz : EqAt l z) :
    Calls Tryz.prog 99 #[.slice a n c, .func (.func 100) #[] #[]] w fun e w' => e = .returned (.int .i64 z) ∧ Below w.heap.size w w' :=
  (index_eq h hn).mono fun _ _ ⟨z', h1, h2, h3⟩ => ⟨by rw [h1, first_uniq h2 hz], h3⟩
def lenS : Value → Nat
  | .slice _ n _ => n
  | _ => 0
/-- A slice of rows in a block of its own, from B on; the rows as they read in w0. -/
def Rws (w0 w : World) (B : Nat) (pv : Value) (P : List (List TokP.Tok)) : Prop := ∃ us, w.ownsRow B 55 1 pv P.length us ∧ ∀ (i : Nat) (x : List TokP.Tok), P[i]? = some x → ∃ u, us[i]? = some u ∧ HasT w0 u x
theorem Rws.first (w0 w : World) (B : Nat) : Rws w0 w B (.slice none 0 0) [] := ⟨[], World.ownsRow_nil _ _ _ _, fun i x h => absurd h (by simp)⟩
theorem Rws.step {w0 w w' : World} {B : Nat} {pv : Value} {P : List (List TokP.Tok)} (h : Rws w0 w B pv P) (hb : Below w.heap.size w w') : Rws w0 w' B pv P := by
  obtain ⟨us, h1, h2⟩ := h
  exact ⟨us, own_below h1 hb, h2⟩
theorem wpList_rw {ops : Array Oper} {rest : List Oper} {o : Oper} {a : Act} {w : World} {Q : Exit → Act → World → Prop} (hgd : o.guard = none) (s x : Operand)
    (ho : o.op = .call { callee := .builtin .append, args := #[s, x], argTypes := #[50, 50] }) (w0 : World) (B : Nat) {v cv : Value} {P : List (List TokP.Tok)} {C : List TokP.Tok} {p : Nat} (hs : a.eval s = v) (hx : a.eval x = .slice (some ⟨w.heap.size, 0, none⟩) 1 1)
    (hst : Rws w0 w B v P) (hT : HasT w0 cv C) (hp : P.length = p) (hb : B ≤ w.heap.size) (hl : p ≤ 4000000)
    (h : ∀ a' c' w', Rws w0 w' B (.slice a' (p + 1) c') (P ++ [C]) → Below B w w' → wpList Tryz.prog ops Q rest (a.put o.dst (.slice a' (p + 1) c')) w') :
    wpList Tryz.prog ops Q (o :: rest) a (w.alloc (.cells #[cv] 55)) := by
  obtain ⟨i0, hi, hz0, hz1, hz2⟩ := info_parts info38
  obtain ⟨us, h1, h2⟩ := hst
  have hT2 := hT
  obtain ⟨ca, cc, hcv, _⟩ := hT2
  subst hp
  refine wpList_append_own_at _ hgd s x 50 ho B 55 i0 (.slice none 0 0) 1 24 Tryz.underlying50 hi hz0 hz1 hz2 rfl (by decide) v P.length us hs (World.ownsRow.alloc h1 _) ⟨w.heap.size, 0, none⟩ 1 1 [cv] hx rfl (cell_one_new _ _ _) (fun u hu => by rw [List.mem_singleton.1 hu, hcv]; rfl) (by unfold maxLen; omega) (by omega) (by rw [World.size_alloc]; omega) ?_
  intro v' w' e1 e2 _ e4
  have hlen : us.length = P.length := by rw [h1.1, Nat.mul_one]
  rw [← List.length_singleton (a := C), ← List.length_append] at e1
  obtain ⟨a', c', rfl⟩ : ∃ a' c', v' = .slice a' (P.length + 1) c' := by
    rcases e1.2 with ⟨rfl, h0⟩ | ⟨g, cap, cur, rfl, _⟩
    · simp at h0
    · exact ⟨_, _, by rw [List.length_append]; rfl⟩
  refine h a' c' w' ⟨us ++ [cv], e1, fun i x hx => ?_⟩ (((Below.refl B w).alloc hb _).trans (grown_below e2 (fun k e => (h1.lt k e).1) (by rw [World.size_alloc]; omega)))
  by_cases hi : i < P.length
  · rw [List.getElem?_append_left hi] at hx
    obtain ⟨u, hu, hh⟩ := h2 i x hx
    exact ⟨u, by rw [List.getElem?_append_left (by omega)]; exact hu, hh⟩
  · have hi2 : i = P.length := by
      have := (List.getElem?_eq_some_iff.1 hx).1
      rw [List.length_append, List.length_singleton] at this
      omega
    subst hi2
    obtain rfl : C = x := by
      rw [List.getElem?_append_right (Nat.le_refl _), Nat.sub_self] at hx
      exact Option.some.inj hx
    exact ⟨cv, by rw [List.getElem?_append_right (by omega), hlen, Nat.sub_self]; rfl, hT⟩
theorem Rws.pcs {w0 w : World} {B : Nat} {pv : Value} {P : List (List TokP.Tok)} (h : Rws w0 w B pv P) (hP : P ≠ []) (hb : Below w0.heap.size w0 w) : PcsOf w pv P := by
  obtain ⟨us, h1, h2⟩ := h
  have hpos := List.length_pos_iff.2 hP
  rcases h1.2 with ⟨_, h0⟩ | ⟨g, cap, cur, rfl, _, _, hcap, _⟩
  · omega
  · refine ⟨g, cap, rfl, hcap, fun i x hx => ?_⟩
    obtain ⟨u, hu, ho⟩ := h2 i x hx
    have hc := h1.cells (g := g) rfl i u hu
    rw [add_none, Nat.zero_add] at hc
    exact ⟨u, hc, ho.step hb⟩
set_option maxRecDepth 100000 in
set_option maxHeartbeats 8000000 in
theorem rows_p (S : ByteArray) (hS : S.size ≤ 4000000) (ALL : List (List TokP.Tok)) (hALL : rowsT [] (bareT (scanL S.data.toList)) = ALL) (N : Nat) (hN : ALL.length = N) (w : World) :
    Calls Tryz.prog 29 #[.string S] w fun e w' => ∃ g c, e = .returned (.slice (some ⟨g, 0, none⟩) N c) ∧ PcsOf w' (.slice (some ⟨g, 0, none⟩) N c) ALL ∧ Below w.heap.size w w' := by
  have cA := fun W => scan_any S (by omega) W
  have hln := scan_len S.data.toList
  have htx : ∀ t ∈ scanL S.data.toList, t.text.length ≤ 4000000 := fun t ht => by
    have := text_mem _ t ht
    rw [join_scan, ← size_list] at this
    omega
  rw [← size_list] at hln
  generalize scanL S.data.toList = q at cA hALL hln htx
  have cB := fun W v (h : Hid (OwnF W v q)) => bare_any v q W h.out.has (by omega) htx
  have hbl := bare_len q q.length
  rw [List.take_length] at hbl
  obtain ⟨l, hl⟩ : ∃ l, bareL q = l := ⟨_, rfl⟩
  rw [show bareT q = l from hl] at hALL
  rw [hl] at cB hbl
  obtain ⟨n, hn⟩ : ∃ n, l.length = n := ⟨_, rfl⟩
  obtain ⟨nq, hnq⟩ : ∃ n, q.length = n := ⟨_, rfl⟩
  rw [hn] at cB hbl
  rw [hnq] at cA hbl hln
  have hn6 : n ≤ 4000000 := by omega
  have HL := Lib.hid hn
  have HALL := Lib.hid hALL
  have HN := Lib.hid hN
  clear htx
  clear hALL hN hn hl hln hbl hnq hS
  go_enter Tryz.func29, Tryz.ntmps29
  go_wp2_with (first
    | (go_at_call 63; (with_reducible refine (cA _).mono ?_); rintro e w1 ⟨a1, c1, rfl, h1, hb1⟩; replace h1 := Lib.hid h1; have HB1 := Lib.hid hb1; clear hb1 cA)
    | (go_at_call 62; (with_reducible refine (cB _ _ h1).mono ?_); rintro e w2 ⟨a2, c2, rfl, h2, hb2⟩; have HB2 := Lib.hid (HB1.out.trans (hb2.mono HB1.out.size)); clear hb2 cB))
  have HF := Lib.hid h2.hasT
  clear h1 h2
  go_loopw [3, 4] (fun rv pv wr => ∃ (P : List (List TokP.Tok)) (R : List TokP.Tok) (p m : Nat), p + m ≤ n ∧ (∃ a c, rv = .slice a m c ∧ Hid (HasT w2 (.slice a m c) R)) ∧ (∃ a c, pv = .slice a p c) ∧ Hid (P.length = p) ∧ Hid (Rws w2 wr w2.heap.size pv P) ∧ Hid (Below w2.heap.size w2 wr) ∧ Hid (P ++ rowsT [] R = ALL)) (fun rv _ _ => lenS rv)
  case atStart => exact ⟨[], l, 0, n, by omega, ⟨_, _, rfl, HF⟩, ⟨none, 0, rfl⟩, Lib.hid rfl, Lib.hid (Rws.first w2 w2 _), Lib.hid (Below.refl _ _), Lib.hid (by rw [List.nil_append]; exact HALL.out)⟩
  case round =>
    obtain ⟨P, R, p, m, hpm, ⟨ra, rc, rfl, HR⟩, ⟨pa, pc, rfl⟩, HP, ST0, HB3, HG⟩ := hrel
    have HR3 := Lib.hid (HR.out.step HB3.out)
    have hpz : p ≤ 4000000 := by omega
    obtain ⟨hm, hmc, _⟩ := HR.out.cap
    have HM := Lib.hid hm
    clear hm
    clear HF
    rcases first_ex (fun u => isS u 59) R with hno | ⟨k, t, hk, ht, hno⟩
    · have cY := index_is HR3.out (by omega) (-1) (.inl ⟨rfl, hno⟩)
      have HFIN := Lib.hid (show P ++ [R] = ALL by rw [← HG.out, rows_not hno])
      have HPN := Lib.hid (show p + 1 = N by rw [← HN.out, ← HFIN.out, List.length_append, HP.out]; rfl)
      clear hno HG
      go_wp2_with (first
        | (go_at_call 64; (with_reducible refine cY.mono ?_); rintro e w4 ⟨rfl, hb4⟩; have HB4 := Lib.hid (HB3.out.trans (hb4.mono HB3.out.size)); have ST4 := Lib.hid (ST0.out.step hb4); clear hb4 cY)
        | (at_builtin; refine wpList_rw rfl (.tmp 14) (.tmp 16) rfl w2 w2.heap.size rfl rfl ST4.out HR.out HP.out HB4.out.size hpz ?_; intro a5 c5 w5 h5 hb5; replace h5 := Lib.hid h5; have HB5 := Lib.hid (HB4.out.trans (hb5.mono (Nat.le_refl _))); clear hb5))
      go_ret
      have hpc := h5.out.pcs (by simp) HB5.out
      rw [HFIN.out] at hpc
      obtain ⟨g, c, hge, _⟩ := id hpc
      rw [HN.out] at hge
      rw [hge] at hpc ⊢
      exact ⟨g, c, rfl, hpc, HB2.out.trans (HB5.out.mono HB2.out.size)⟩
    · have hkm := (List.getElem?_eq_some_iff.1 hk).1
      rw [← HM.out] at hkm
      have cY := index_is HR3.out (by omega) k (.inr ⟨k, t, rfl, hk, ht, hno⟩)
      have hk0 : ¬ (k : Int) < 0 := by omega
      have F1 : IntKind.i64.wrap ((k : Int) + 1) = (k : Int) + 1 := by rw [IntKind.wrap_i64]; omega
      obtain ⟨A1, C1, R1, hT1⟩ := run_sub_to HR.out k (k : Int) rfl (by omega)
      obtain ⟨A2, C2, R2, hT2⟩ := run_sub_from HR.out (k + 1) ((k : Int) + 1) (by omega) (by omega)
      have HT1 := Lib.hid hT1
      have HT2 := Lib.hid hT2
      have HFIN := Lib.hid (show (P ++ [R.take k]) ++ rowsT [] (R.drop (k + 1)) = ALL by rw [← HG.out, rows_at hk ht hno, List.append_assoc]; rfl)
      have HPN := Lib.hid (show (P ++ [R.take k]).length = p + 1 by rw [List.length_append, HP.out]; rfl)
      clear hno HG hk ht hT1 hT2
      go_wp2_with (first
        | (go_at_call 64; (with_reducible refine cY.mono ?_); rintro e w4 ⟨rfl, hb4⟩; have HB4 := Lib.hid (HB3.out.trans (hb4.mono HB3.out.size)); have ST4 := Lib.hid (ST0.out.step hb4); clear hb4 cY)
        | (at_builtin; refine wpList_rw rfl (.tmp 18) (.tmp 22) rfl w2 w2.heap.size rfl rfl ST4.out HT1.out HP.out HB4.out.size hpz ?_; intro a5 c5 w5 h5 hb5; replace h5 := Lib.hid h5; have HB5 := Lib.hid (HB4.out.trans (hb5.mono (Nat.le_refl _))); clear hb5))
      go_roundw
      case rel => exact ⟨_, _, p + 1, m - (k + 1), by omega, ⟨_, _, rfl, HT2⟩, ⟨_, _, rfl⟩, HPN, h5, HB5, HFIN⟩
      case measure => simp [lenS]; omega
end Go.Proofs.YtdinachiiimngaaGreatDoor
namespace Go.Proofs
open Go.Shelf
def Tryz.lays162_ren : Go.Shelf.Ren := ⟨fun | 162 => 90 | 232 => 127 | 227 => 128 | 234 => 129 | 236 => 130 | 228 => 164 | 271 => 173 | 151 => 174 | 120 => 201 | 197 => 176 | 152 => 162 | 260 => 204 | 137 => 67 | 119 => 192 | 224 => 142 | 225 => 141 | 217 => 98 | 266 => 144 | n => n, fun | 9 => 9 | 20 => 20 | 4 => 4 | 3 => 3 | 5 => 5 | 117 => 140 | 116 => 139 | 0 => 0 | 124 => 143 | 21 => 21 | 105 => 162 | 46 => 111 | 119 => 130 | 139 => 133 | 138 => 132 | n => n, fun | 3 => 0 | 4 => 1 | n => n⟩
theorem Tryz.lays162 : Go.Proofs.Lays.n162 Tryz.prog Tryz.lays162_ren := {
  mixed := by kernel_rfl
  f119 := Tryz.func192.trans (congrArg some (by kernel_rfl))
  f120 := Tryz.func201.trans (congrArg some (by kernel_rfl))
  f137 := Tryz.func67.trans (congrArg some (by kernel_rfl))
  f151 := Tryz.func174.trans (congrArg some (by kernel_rfl))
  f152 := Tryz.func162.trans (congrArg some (by kernel_rfl))
  f162 := Tryz.func90.trans (congrArg some (by kernel_rfl))
  f197 := Tryz.func176.trans (congrArg some (by kernel_rfl))
  f217 := Tryz.func98.trans (congrArg some (by kernel_rfl))
  f224 := Tryz.func142.trans (congrArg some (by kernel_rfl))
  f225 := Tryz.func141.trans (congrArg some (by kernel_rfl))
  f227 := Tryz.func128.trans (congrArg some (by kernel_rfl))
  f228 := Tryz.func164.trans (congrArg some (by kernel_rfl))
  f232 := Tryz.func127.trans (congrArg some (by kernel_rfl))
  f234 := Tryz.func129.trans (congrArg some (by kernel_rfl))
  f236 := Tryz.func130.trans (congrArg some (by kernel_rfl))
  f260 := Tryz.func204.trans (congrArg some (by kernel_rfl))
  f266 := Tryz.func144.trans (congrArg some (by kernel_rfl))
  f271 := Tryz.func173.trans (congrArg some (by kernel_rfl))
  t0 := Tryz.underlying0
  a0 := Tryz.isAgg0
  z0 := Tryz.sizeOf0
  v0 := Tryz.zeroValue0
  t3 := Tryz.underlying3
  a3 := Tryz.isAgg3
  z3 := Tryz.sizeOf3
  v3 := Tryz.zeroValue3
  t4 := Tryz.underlying4
  a4 := Tryz.isAgg4
  z4 := Tryz.sizeOf4
  v4 := Tryz.zeroValue4
  t5 := Tryz.underlying5
  a5 := Tryz.isAgg5
  z5 := Tryz.sizeOf5
  v5 := Tryz.zeroValue5
  t9 := Tryz.underlying9
  a9 := Tryz.isAgg9
  z9 := Tryz.sizeOf9
  v9 := Tryz.zeroValue9
  t21 := Tryz.underlying21
  a21 := Tryz.isAgg21
  z21 := Tryz.sizeOf21
  v21 := Tryz.zeroValue21
  t46 := Tryz.underlying111
  a46 := Tryz.isAgg111
  z46 := Tryz.sizeOf111
  v46 := Tryz.zeroValue111
  t105 := Tryz.underlying162
  a105 := Tryz.isAgg162
  z105 := Tryz.sizeOf162
  v105 := Tryz.zeroValue162
  t116 := Tryz.underlying139
  a116 := Tryz.isAgg139
  z116 := Tryz.sizeOf139
  t117 := Tryz.underlying140
  a117 := Tryz.isAgg140
  z117 := Tryz.sizeOf140
  v117 := Tryz.zeroValue140
  t119 := Tryz.underlying130
  a119 := Tryz.isAgg130
  z119 := Tryz.sizeOf130
  t124 := Tryz.underlying143
  a124 := Tryz.isAgg143
  z124 := Tryz.sizeOf143
  v124 := Tryz.zeroValue143
  t138 := Tryz.underlying132
  a138 := Tryz.isAgg132
  z138 := Tryz.sizeOf132
  v138 := Tryz.zeroValue132
  t139 := Tryz.underlying133
  a139 := Tryz.isAgg133
  z139 := Tryz.sizeOf133
  v139 := Tryz.zeroValue133
  g3 := by kernel_rfl
  g4 := by kernel_rfl }
open Go.RowKit in
theorem Tryz.strings_TrimRight_one (s : ByteArray) (c : UInt8) (hc : c.toNat < 128) (w : World) (hs : s.size ≤ 9223372036854775807) :
    Calls Tryz.prog 90 #[.string s, .string ⟨#[c]⟩] w fun e w' => e = .returned (.string ⟨(Lib.trimRightB s.data.toList c).toArray⟩) ∧ w' = w := Any.strings_TrimRight_one Tryz.lays162 s c hc w hs
def Tryz.lays160_ren : Go.Shelf.Ren := ⟨fun | 160 => 92 | 232 => 127 | 231 => 132 | 227 => 128 | 234 => 129 | 233 => 133 | 236 => 130 | 235 => 134 | 228 => 164 | 271 => 173 | 151 => 174 | 197 => 176 | 120 => 201 | 152 => 162 | 260 => 204 | 137 => 67 | 119 => 192 | 224 => 142 | 225 => 141 | 217 => 98 | 266 => 144 | n => n, fun | 9 => 9 | 20 => 20 | 4 => 4 | 3 => 3 | 5 => 5 | 117 => 140 | 116 => 139 | 0 => 0 | 124 => 143 | 21 => 21 | 105 => 162 | 46 => 111 | 119 => 130 | 139 => 133 | 138 => 132 | n => n, fun | 3 => 0 | 4 => 1 | n => n⟩
theorem Tryz.lays160 : Go.Proofs.Lays.n160 Tryz.prog Tryz.lays160_ren := {
  mixed := by kernel_rfl
  f119 := Tryz.func192.trans (congrArg some (by kernel_rfl))
  f120 := Tryz.func201.trans (congrArg some (by kernel_rfl))
  f137 := Tryz.func67.trans (congrArg some (by kernel_rfl))
  f151 := Tryz.func174.trans (congrArg some (by kernel_rfl))
  f152 := Tryz.func162.trans (congrArg some (by kernel_rfl))
  f160 := Tryz.func92.trans (congrArg some (by kernel_rfl))
  f197 := Tryz.func176.trans (congrArg some (by kernel_rfl))
  f217 := Tryz.func98.trans (congrArg some (by kernel_rfl))
  f224 := Tryz.func142.trans (congrArg some (by kernel_rfl))
  f225 := Tryz.func141.trans (congrArg some (by kernel_rfl))
  f227 := Tryz.func128.trans (congrArg some (by kernel_rfl))
  f228 := Tryz.func164.trans (congrArg some (by kernel_rfl))
  f231 := Tryz.func132.trans (congrArg some (by kernel_rfl))
  f232 := Tryz.func127.trans (congrArg some (by kernel_rfl))
  f233 := Tryz.func133.trans (congrArg some (by kernel_rfl))
  f234 := Tryz.func129.trans (congrArg some (by kernel_rfl))
  f235 := Tryz.func134.trans (congrArg some (by kernel_rfl))
  f236 := Tryz.func130.trans (congrArg some (by kernel_rfl))
  f260 := Tryz.func204.trans (congrArg some (by kernel_rfl))
  f266 := Tryz.func144.trans (congrArg some (by kernel_rfl))
  f271 := Tryz.func173.trans (congrArg some (by kernel_rfl))
  t0 := Tryz.underlying0
  a0 := Tryz.isAgg0
  z0 := Tryz.sizeOf0
  v0 := Tryz.zeroValue0
  t3 := Tryz.underlying3
  a3 := Tryz.isAgg3
  z3 := Tryz.sizeOf3
  v3 := Tryz.zeroValue3
  t4 := Tryz.underlying4
  a4 := Tryz.isAgg4
  z4 := Tryz.sizeOf4
  v4 := Tryz.zeroValue4
  t5 := Tryz.underlying5
  a5 := Tryz.isAgg5
  z5 := Tryz.sizeOf5
  v5 := Tryz.zeroValue5
  t9 := Tryz.underlying9
  a9 := Tryz.isAgg9
  z9 := Tryz.sizeOf9
  v9 := Tryz.zeroValue9
  t21 := Tryz.underlying21
  a21 := Tryz.isAgg21
  z21 := Tryz.sizeOf21
  v21 := Tryz.zeroValue21
  t46 := Tryz.underlying111
  a46 := Tryz.isAgg111
  z46 := Tryz.sizeOf111
  v46 := Tryz.zeroValue111
  t105 := Tryz.underlying162
  a105 := Tryz.isAgg162
  z105 := Tryz.sizeOf162
  v105 := Tryz.zeroValue162
  t116 := Tryz.underlying139
  a116 := Tryz.isAgg139
  z116 := Tryz.sizeOf139
  t117 := Tryz.underlying140
  a117 := Tryz.isAgg140
  z117 := Tryz.sizeOf140
  v117 := Tryz.zeroValue140
  t119 := Tryz.underlying130
  a119 := Tryz.isAgg130
  z119 := Tryz.sizeOf130
  t124 := Tryz.underlying143
  a124 := Tryz.isAgg143
  z124 := Tryz.sizeOf143
  v124 := Tryz.zeroValue143
  t138 := Tryz.underlying132
  a138 := Tryz.isAgg132
  z138 := Tryz.sizeOf132
  v138 := Tryz.zeroValue132
  t139 := Tryz.underlying133
  a139 := Tryz.isAgg133
  z139 := Tryz.sizeOf133
  v139 := Tryz.zeroValue133
  g3 := by kernel_rfl
  g4 := by kernel_rfl }
open Go.RowKit in
theorem Tryz.strings_Trim_one (s : ByteArray) (c : UInt8) (hc : c.toNat < 128) (w : World) (hs : s.size ≤ 9223372036854775807) :
    Calls Tryz.prog 92 #[.string s, .string ⟨#[c]⟩] w fun e w' => e = .returned (.string ⟨(Lib.trimB s.data.toList c).toArray⟩) ∧ (w' = w ∨ w' = w.drew) := Any.strings_Trim_one Tryz.lays160 s c hc w hs
def Tryz.lays195_ren : Go.Shelf.Ren := ⟨fun | 195 => 202 | n => n, fun | 9 => 9 | 20 => 20 | 3 => 3 | 0 => 0 | 4 => 4 | n => n, fun | n => n⟩
theorem Tryz.lays195 : Go.Proofs.Lays.n195 Tryz.prog Tryz.lays195_ren := {
  mixed := by kernel_rfl
  f195 := Tryz.func202.trans (congrArg some (by kernel_rfl))
  t0 := Tryz.underlying0
  a0 := Tryz.isAgg0
  z0 := Tryz.sizeOf0
  v0 := Tryz.zeroValue0
  t3 := Tryz.underlying3
  a3 := Tryz.isAgg3
  z3 := Tryz.sizeOf3
  v3 := Tryz.zeroValue3
  t4 := Tryz.underlying4
  a4 := Tryz.isAgg4
  z4 := Tryz.sizeOf4
  v4 := Tryz.zeroValue4
  t9 := Tryz.underlying9
  a9 := Tryz.isAgg9
  z9 := Tryz.sizeOf9
  v9 := Tryz.zeroValue9 }
open Go.RowKit in
theorem Tryz.utf8_RuneCountInString (s : ByteArray) (w : World) (hs : s.size < 9223372036854775807) :
    Calls Tryz.prog 202 #[.string s] w fun e w' => e = .returned (.int .i64 (Lib.runeCount s)) ∧ ∃ pos, w' = w.iter s pos := Any.utf8_RuneCountInString Tryz.lays195 s w hs
def Tryz.lays155_ren : Go.Shelf.Ren := ⟨fun | 155 => 91 | 154 => 131 | 138 => 175 | 165 => 53 | 143 => 145 | 166 => 42 | 197 => 176 | 169 => 44 | 195 => 202 | 218 => 203 | 240 => 77 | 241 => 85 | 219 => 97 | 260 => 204 | 276 => 117 | 277 => 122 | 217 => 98 | 225 => 141 | 224 => 142 | 267 => 143 | 266 => 144 | 314 => 177 | n => n, fun | 9 => 9 | 20 => 20 | 3 => 3 | 4 => 4 | 72 => 61 | 0 => 0 | 76 => 64 | 105 => 162 | 21 => 21 | 5 => 5 | 70 => 58 | 37 => 59 | 75 => 63 | 127 => 110 | 164 => 127 | 46 => 111 | 119 => 130 | 139 => 133 | 138 => 132 | 146 => 165 | 51 => 136 | 80 => 67 | n => n, fun | 1 => 2 | 3 => 0 | 4 => 1 | n => n⟩
theorem Tryz.lays155 : Go.Proofs.Lays.n155 Tryz.prog Tryz.lays155_ren := {
  mixed := by kernel_rfl
  f138 := Tryz.func175.trans (congrArg some (by kernel_rfl))
  f143 := Tryz.func145.trans (congrArg some (by kernel_rfl))
  f154 := Tryz.func131.trans (congrArg some (by kernel_rfl))
  f155 := Tryz.func91.trans (congrArg some (by kernel_rfl))
  f165 := Tryz.func53.trans (congrArg some (by kernel_rfl))
  f166 := Tryz.func42.trans (congrArg some (by kernel_rfl))
  f169 := Tryz.func44.trans (congrArg some (by kernel_rfl))
  f195 := Tryz.func202.trans (congrArg some (by kernel_rfl))
  f197 := Tryz.func176.trans (congrArg some (by kernel_rfl))
  f217 := Tryz.func98.trans (congrArg some (by kernel_rfl))
  f218 := Tryz.func203.trans (congrArg some (by kernel_rfl))
  f219 := Tryz.func97.trans (congrArg some (by kernel_rfl))
  f224 := Tryz.func142.trans (congrArg some (by kernel_rfl))
  f225 := Tryz.func141.trans (congrArg some (by kernel_rfl))
  f240 := Tryz.func77.trans (congrArg some (by kernel_rfl))
  f241 := Tryz.func85.trans (congrArg some (by kernel_rfl))
  f260 := Tryz.func204.trans (congrArg some (by kernel_rfl))
  f266 := Tryz.func144.trans (congrArg some (by kernel_rfl))
  f267 := Tryz.func143.trans (congrArg some (by kernel_rfl))
  f276 := Tryz.func117.trans (congrArg some (by kernel_rfl))
  f277 := Tryz.func122.trans (congrArg some (by kernel_rfl))
  f314 := Tryz.func177.trans (congrArg some (by kernel_rfl))
  t0 := Tryz.underlying0
  a0 := Tryz.isAgg0
  z0 := Tryz.sizeOf0
  v0 := Tryz.zeroValue0
  t3 := Tryz.underlying3
  a3 := Tryz.isAgg3
  z3 := Tryz.sizeOf3
  v3 := Tryz.zeroValue3
  t4 := Tryz.underlying4
  a4 := Tryz.isAgg4
  z4 := Tryz.sizeOf4
  v4 := Tryz.zeroValue4
  t5 := Tryz.underlying5
  a5 := Tryz.isAgg5
  z5 := Tryz.sizeOf5
  v5 := Tryz.zeroValue5
  t9 := Tryz.underlying9
  a9 := Tryz.isAgg9
  z9 := Tryz.sizeOf9
  v9 := Tryz.zeroValue9
  t20 := Tryz.underlying20
  a20 := Tryz.isAgg20
  z20 := Tryz.sizeOf20
  v20 := Tryz.zeroValue20
  t21 := Tryz.underlying21
  a21 := Tryz.isAgg21
  z21 := Tryz.sizeOf21
  v21 := Tryz.zeroValue21
  t37 := Tryz.underlying59
  a37 := Tryz.isAgg59
  z37 := Tryz.sizeOf59
  v37 := Tryz.zeroValue59
  t46 := Tryz.underlying111
  a46 := Tryz.isAgg111
  z46 := Tryz.sizeOf111
  v46 := Tryz.zeroValue111
  t51 := Tryz.underlying136
  a51 := Tryz.isAgg136
  z51 := Tryz.sizeOf136
  v51 := Tryz.zeroValue136
  t70 := Tryz.underlying58
  a70 := Tryz.isAgg58
  z70 := Tryz.sizeOf58
  v70 := Tryz.zeroValue58
  t72 := Tryz.underlying61
  a72 := Tryz.isAgg61
  z72 := Tryz.sizeOf61
  v72 := Tryz.zeroValue61
  t75 := Tryz.underlying63
  a75 := Tryz.isAgg63
  z75 := Tryz.sizeOf63
  v75 := Tryz.zeroValue63
  t76 := Tryz.underlying64
  a76 := Tryz.isAgg64
  z76 := Tryz.sizeOf64
  v76 := Tryz.zeroValue64
  t105 := Tryz.underlying162
  a105 := Tryz.isAgg162
  z105 := Tryz.sizeOf162
  v105 := Tryz.zeroValue162
  t119 := Tryz.underlying130
  a119 := Tryz.isAgg130
  z119 := Tryz.sizeOf130
  t127 := Tryz.underlying110
  a127 := Tryz.isAgg110
  z127 := Tryz.sizeOf110
  v127 := Tryz.zeroValue110
  t138 := Tryz.underlying132
  a138 := Tryz.isAgg132
  z138 := Tryz.sizeOf132
  v138 := Tryz.zeroValue132
  t139 := Tryz.underlying133
  a139 := Tryz.isAgg133
  z139 := Tryz.sizeOf133
  v139 := Tryz.zeroValue133
  t146 := Tryz.underlying165
  a146 := Tryz.isAgg165
  z146 := Tryz.sizeOf165
  v146 := Tryz.zeroValue165
  t164 := Tryz.underlying127
  a164 := Tryz.isAgg127
  z164 := Tryz.sizeOf127
  v164 := Tryz.zeroValue127
  g1 := by kernel_rfl
  g3 := by kernel_rfl
  g4 := by kernel_rfl }
theorem Tryz.Builder_Extra_155 : Builder.Extra Tryz.prog Tryz.lays155_ren := {
  sizeBuilder := by kernel_rfl
  liesBuilder := by kernel_rfl
  t5 := Tryz.underlying5
  a5 := Tryz.isAgg5
  z5 := Tryz.sizeOf5
  v5 := Tryz.zeroValue5
  infoByte := by kernel_rfl
  cellsByte := by kernel_rfl
  sizeByte := by kernel_rfl
  neB5 := by decide }
open Go.RowKit Go.Lib in
theorem Tryz.strings_ReplaceAll (s old new : ByteArray) (m : Int) (w : World) (hs : s.size < 4294967281) (hm : w.cell? ⟨2, 0, none⟩ = some (.int .i64 m)) (h1 : 1 ≤ old.size) (hlen : s.size + Lib.countB s old * new.size ≤ 140737488355328) :
    Calls Tryz.prog 91 #[.string s, .string old, .string new] w fun e w' =>
      e = .returned (.string ⟨(Lib.replaceAll s.data.toList old.data.toList new.data.toList).toArray⟩) ∧ Below w.heap.size w w' := Any.strings_ReplaceAll Tryz.lays155 Tryz.Builder_Extra_155 s old new m w hs hm h1 hlen
def Tryz.lays230_ren : Go.Shelf.Ren := ⟨fun | 230 => 165 | 197 => 176 | 118 => 193 | 165 => 53 | 166 => 42 | 168 => 54 | 270 => 194 | 167 => 80 | 169 => 44 | 260 => 204 | 240 => 77 | 241 => 85 | 242 => 86 | 276 => 117 | 277 => 122 | 278 => 123 | n => n, fun | 9 => 9 | 20 => 20 | 107 => 155 | 72 => 61 | 0 => 0 | 4 => 4 | 3 => 3 | 21 => 21 | 105 => 162 | 76 => 64 | 5 => 5 | 75 => 63 | 70 => 58 | 37 => 59 | 127 => 110 | 119 => 130 | 46 => 111 | 139 => 133 | 138 => 132 | 164 => 127 | 51 => 136 | 80 => 67 | n => n, fun | 3 => 0 | 4 => 1 | n => n⟩
theorem Tryz.lays230 : Go.Proofs.Lays.n230 Tryz.prog Tryz.lays230_ren := {
  mixed := by kernel_rfl
  f118 := Tryz.func193.trans (congrArg some (by kernel_rfl))
  f165 := Tryz.func53.trans (congrArg some (by kernel_rfl))
  f166 := Tryz.func42.trans (congrArg some (by kernel_rfl))
  f167 := Tryz.func80.trans (congrArg some (by kernel_rfl))
  f168 := Tryz.func54.trans (congrArg some (by kernel_rfl))
  f169 := Tryz.func44.trans (congrArg some (by kernel_rfl))
  f197 := Tryz.func176.trans (congrArg some (by kernel_rfl))
  f230 := Tryz.func165.trans (congrArg some (by kernel_rfl))
  f240 := Tryz.func77.trans (congrArg some (by kernel_rfl))
  f241 := Tryz.func85.trans (congrArg some (by kernel_rfl))
  f242 := Tryz.func86.trans (congrArg some (by kernel_rfl))
  f260 := Tryz.func204.trans (congrArg some (by kernel_rfl))
  f270 := Tryz.func194.trans (congrArg some (by kernel_rfl))
  f276 := Tryz.func117.trans (congrArg some (by kernel_rfl))
  f277 := Tryz.func122.trans (congrArg some (by kernel_rfl))
  f278 := Tryz.func123.trans (congrArg some (by kernel_rfl))
  t0 := Tryz.underlying0
  a0 := Tryz.isAgg0
  z0 := Tryz.sizeOf0
  v0 := Tryz.zeroValue0
  t3 := Tryz.underlying3
  a3 := Tryz.isAgg3
  z3 := Tryz.sizeOf3
  v3 := Tryz.zeroValue3
  t4 := Tryz.underlying4
  a4 := Tryz.isAgg4
  z4 := Tryz.sizeOf4
  v4 := Tryz.zeroValue4
  t5 := Tryz.underlying5
  a5 := Tryz.isAgg5
  z5 := Tryz.sizeOf5
  v5 := Tryz.zeroValue5
  t9 := Tryz.underlying9
  a9 := Tryz.isAgg9
  z9 := Tryz.sizeOf9
  v9 := Tryz.zeroValue9
  t20 := Tryz.underlying20
  a20 := Tryz.isAgg20
  z20 := Tryz.sizeOf20
  v20 := Tryz.zeroValue20
  t21 := Tryz.underlying21
  a21 := Tryz.isAgg21
  z21 := Tryz.sizeOf21
  v21 := Tryz.zeroValue21
  t37 := Tryz.underlying59
  a37 := Tryz.isAgg59
  z37 := Tryz.sizeOf59
  v37 := Tryz.zeroValue59
  t46 := Tryz.underlying111
  a46 := Tryz.isAgg111
  z46 := Tryz.sizeOf111
  v46 := Tryz.zeroValue111
  t51 := Tryz.underlying136
  a51 := Tryz.isAgg136
  z51 := Tryz.sizeOf136
  v51 := Tryz.zeroValue136
  t70 := Tryz.underlying58
  a70 := Tryz.isAgg58
  z70 := Tryz.sizeOf58
  v70 := Tryz.zeroValue58
  t72 := Tryz.underlying61
  a72 := Tryz.isAgg61
  z72 := Tryz.sizeOf61
  v72 := Tryz.zeroValue61
  t75 := Tryz.underlying63
  a75 := Tryz.isAgg63
  z75 := Tryz.sizeOf63
  v75 := Tryz.zeroValue63
  t76 := Tryz.underlying64
  a76 := Tryz.isAgg64
  z76 := Tryz.sizeOf64
  v76 := Tryz.zeroValue64
  t105 := Tryz.underlying162
  a105 := Tryz.isAgg162
  z105 := Tryz.sizeOf162
  v105 := Tryz.zeroValue162
  t107 := Tryz.underlying155
  a107 := Tryz.isAgg155
  z107 := Tryz.sizeOf155
  v107 := Tryz.zeroValue155
  t119 := Tryz.underlying130
  a119 := Tryz.isAgg130
  z119 := Tryz.sizeOf130
  t127 := Tryz.underlying110
  a127 := Tryz.isAgg110
  z127 := Tryz.sizeOf110
  v127 := Tryz.zeroValue110
  t138 := Tryz.underlying132
  a138 := Tryz.isAgg132
  z138 := Tryz.sizeOf132
  v138 := Tryz.zeroValue132
  t139 := Tryz.underlying133
  a139 := Tryz.isAgg133
  z139 := Tryz.sizeOf133
  v139 := Tryz.zeroValue133
  t164 := Tryz.underlying127
  a164 := Tryz.isAgg127
  z164 := Tryz.sizeOf127
  v164 := Tryz.zeroValue127
  g3 := by kernel_rfl
  g4 := by kernel_rfl }
theorem Tryz.Builder_Extra_230 : Builder.Extra Tryz.prog Tryz.lays230_ren := {
  sizeBuilder := by kernel_rfl
  liesBuilder := by kernel_rfl
  t5 := Tryz.underlying5
  a5 := Tryz.isAgg5
  z5 := Tryz.sizeOf5
  v5 := Tryz.zeroValue5
  infoByte := by kernel_rfl
  cellsByte := by kernel_rfl
  sizeByte := by kernel_rfl
  neB5 := by decide }
open Go.RowKit Go.Lib in
theorem Tryz.strings_Map_runes (g : Nat) (lb : Array Value) (eg : ∀ args w, (callFunc g args).run Tryz.prog w = .ok (.enter g args) w) (f : Int → Int) (s : ByteArray) (w : World) (hs : s.size < 35184372088832) (hf : MapAtRunes Tryz.prog g lb f w) (hnn : ∀ x : Nat, x ≤ 1114111 → 0 ≤ f x ∧ f x ≤ 2147483647) (hT : Lib.Utf8Tabs 0 1 w) :
    Calls Tryz.prog 165 #[.func (.func g) #[] lb, .string s] w fun e w' => e = .returned (.string ⟨(Lib.mapD f s.data.toList).toArray⟩) ∧ Below w.heap.size w w' := Any.strings_Map_runes Tryz.lays230 Tryz.Builder_Extra_230 g lb eg f s w hs hf hnn hT
open Go.RowKit in
theorem Tryz.strings_TrimRight_laid (s cutset : ByteArray) (w : World) (hs : s.size ≤ 9223372036854775807) (hcs : cutset.size < 4294967281) (hascii : ∀ (j : Nat) b, cutset.data.toList[j]? = some b → b.toNat < 128) :
    Calls Tryz.prog 90 #[.string s, .string cutset] w fun e w' => e = .returned (.string ⟨(Lib.trimRightS s.data.toList cutset.data.toList).toArray⟩) ∧ Below w.heap.size w w' := Any.strings_TrimRight_laid Tryz.lays162 (by kernel_rfl) s cutset w hs hcs hascii
open Go.RowKit in
theorem Tryz.strings_Trim_laid (s cutset : ByteArray) (w : World) (hs : s.size ≤ 9223372036854775807) (hcs : cutset.size < 4294967281) (hascii : ∀ (j : Nat) b, cutset.data.toList[j]? = some b → b.toNat < 128) :
    Calls Tryz.prog 92 #[.string s, .string cutset] w fun e w' => e = .returned (.string ⟨(Lib.trimS s.data.toList cutset.data.toList).toArray⟩) ∧ Below w.heap.size w w' := Any.strings_Trim_laid Tryz.lays160 (by kernel_rfl) s cutset w hs hcs hascii
end Go.Proofs
