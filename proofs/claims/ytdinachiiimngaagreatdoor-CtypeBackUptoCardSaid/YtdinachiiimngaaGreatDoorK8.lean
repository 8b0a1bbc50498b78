/- Hexadecimal encoding. The program's writing of a value: isPrintable, writeQuoted, writeEncoded, writeValue. Parameters (two strings each) as values; slices of parameters: in a block of their own, or read at an address; the reference's Params. The program's writeValue, Line and Write. The reference's hexadecimal encoding. The reference's Param. -/
import Derived.Test.YtdinachiiimngaaGreatDoorK5
import Derived.Deep.RegionWith
import Derived.Deep.RegionLaw
import Derived.Test.YtdinachiiimngaaGreatDoorK7
import Derived.Test.YtdinachiiimngaaGreatDoorK3
import Derived.Test.YtdinachiiimngaaGreatDoorK6
import Derived.Test.YtdinachiiimngaaGreatDoorK2
import Derived.BigQuiet
namespace Go.Proofs.YtdinachiiimngaaGreatDoor.Nu
open Go.ChangeShapes Go.WideShapes Go.ChangeAt Go.RowKit

theorem step_append_fits {P : Program} {ops : Array Oper} {o : Oper} {a : Act} {w : World} {K : Act → World → Prop} {Q : Exit → Act → World → Prop} {E : Prop}
    (hg : o.guard = none) (s x : Operand) (t : TypeId) (hop : o.op = Op.call { callee := Callee.builtin Builtin.append, args := #[s, x], argTypes := #[t, t] })
    (base : Nat) (e : TypeId) (i : TypeInfo) (size : Nat) (h1 : P.underlying t = some (.slice e)) (h2 : P.info? e = some i) (h4 : i.size = size)
    (g k cap : Nat) (xs : List Value) (hs : a.eval s = .slice (some ⟨g, 0, none⟩) k cap) (hown : w.ownsRow base e size (.slice (some ⟨g, 0, none⟩) k cap) k xs) (ad : Addr) (m c : Nat) (news : List Value) (hx : a.eval x = .slice (some ad) m c) (hn : news.length = m * size)
    (hc : ∀ j u, news[j]? = some u → w.cell? (ad.add j) = some u) (h1c : ∀ u ∈ news, u.oneCell' = true) (b1 : k + m ≤ cap)
    (hK : ∀ w', w'.ownsRow base e size (.slice (some ⟨g, 0, none⟩) (k + m) cap) (k + m) (xs ++ news) → w.grownBy w' (some g) → K (a.put o.dst (.slice (some ⟨g, 0, none⟩) (k + m) cap)) w') :
    if Region.wanted o (yielded ops a.tmps) = true then Oper.wp P o a w K Q else E := by
  have hw : Region.wanted o (yielded ops a.tmps) = true := by simp [Region.wanted, hg]
  rw [if_pos hw]
  obtain ⟨w', hrun, r1, r2⟩ := run_append_fits (P := P) w base t o.type e i size h1 h2 h4 g k cap xs hown ad m c news hn hc h1c b1
  unfold Oper.wp
  simp [execOp, hop, resolve, invoke, builtin, hs, hx, hrun, Result.andThen]
  exact hK w' r1 r2
theorem step_append_own {P : Program} {ops : Array Oper} {o : Oper} {a : Act} {w : World} {K : Act → World → Prop} {Q : Exit → Act → World → Prop} {E : Prop}
    (hg : o.guard = none) (s x : Operand) (t : TypeId) (hop : o.op = Op.call { callee := Callee.builtin Builtin.append, args := #[s, x], argTypes := #[t, t] })
    (base : Nat) (e : TypeId) (i : TypeInfo) (z : Value) (size bytes : Nat) (h1 : P.underlying t = some (.slice e)) (h2 : P.info? e = some i) (h3 : i.zero = some z) (h4 : i.size = size) (h5 : i.bytes = bytes) (h6 : z.cells.size = size) (h7 : 0 < size)
    (v : Value) (n : Nat) (xs : List Value) (hs : a.eval s = v) (hown : w.ownsRow base e size v n xs) (ad : Addr) (m c : Nat) (news : List Value) (hx : a.eval x = .slice (some ad) m c) (hn : news.length = m * size)
    (hc : ∀ j u, news[j]? = some u → w.cell? (ad.add j) = some u) (h1c : ∀ u ∈ news, u.oneCell' = true) (b1 : n + m ≤ maxLen) (b2 : (n + m) * bytes ≤ 140737488355328) (hb : base ≤ w.heap.size)
    (hK : ∀ v' w', w'.ownsRow base e size v' (n + m) (xs ++ news) → w.grownBy w' v.ownBlock → K (a.put o.dst v') w') :
    if Region.wanted o (yielded ops a.tmps) = true then Oper.wp P o a w K Q else E := by
  have hw : Region.wanted o (yielded ops a.tmps) = true := by simp [Region.wanted, hg]
  rw [if_pos hw]
  obtain ⟨v', w', hrun, r1, r2, _⟩ := run_append_own (P := P) w base t o.type e i z size bytes h1 h2 h3 h4 h5 h6 h7 v n xs hown ad m c news hn hc h1c b1 b2 hb
  unfold Oper.wp
  simp [execOp, hop, resolve, invoke, builtin, hs, hx, hrun, Result.andThen]
  exact hK v' w' r1 r2

theorem info5 : (Tryz.prog.info? 5).map (fun i => (i.zero, i.size, i.bytes)) = some (some (.int .u8 0), 1, 1) := by kernel_rfl

/-- The hexadecimal digit of n. -/
def hexD (n : Nat) : UInt8 := [48, 49, 50, 51, 52, 53, 54, 55, 56, 57, 97, 98, 99, 100, 101, 102].getD n 0
/-- Two digits a byte. -/
def hexL (l : List UInt8) : List UInt8 := l.flatMap fun c => [hexD (c.toNat / 16), hexD (c.toNat % 16)]
theorem hexL_length (l : List UInt8) : (hexL l).length = 2 * l.length := by
  unfold hexL
  induction l with
  | nil => rfl
  | cons c l ih => rw [List.flatMap_cons, List.length_append, ih]; simp; omega

theorem hexD_get : ∀ n : Fin 16, (#[48, 49, 50, 51, 52, 53, 54, 55, 56, 57, 97, 98, 99, 100, 101, 102] : Array UInt8)[n.val]? = some (hexD n.val) := by decide
theorem run_digit (x : Int) (n : Nat) (hx : x = n) (h1 : n < 16) (W : World) :
    (Instr.index 9 (.string ⟨#[48, 49, 50, 51, 52, 53, 54, 55, 56, 57, 97, 98, 99, 100, 101, 102]⟩) (.int .u8 x)).run Tryz.prog W = .ok (.int .u8 ((hexD n).toNat : Int)) W := by
  subst hx
  have h : n = 0 ∨ n = 1 ∨ n = 2 ∨ n = 3 ∨ n = 4 ∨ n = 5 ∨ n = 6 ∨ n = 7 ∨ n = 8 ∨ n = 9 ∨ n = 10 ∨ n = 11 ∨ n = 12 ∨ n = 13 ∨ n = 14 ∨ n = 15 := by omega
  rcases h with rfl | rfl | rfl | rfl | rfl | rfl | rfl | rfl | rfl | rfl | rfl | rfl | rfl | rfl | rfl | rfl <;> (show _ = _; kernel_rfl)

def cellsOf (l : List UInt8) : List Value := l.map fun c => Value.int .u8 c.toNat
theorem cellsOf_one (l : List UInt8) : ∀ u ∈ cellsOf l, u.oneCell' = true := by
  intro u hu
  obtain ⟨c, _, rfl⟩ := List.mem_map.1 hu
  rfl
theorem bytes_new (w : World) (l : List UInt8) : ∀ j u, (cellsOf l)[j]? = some u → (w.alloc (.cells (cellsOf l).toArray 5)).cell? ((⟨w.heap.size, 0, none⟩ : Addr).add j) = some u := by
  intro j u h
  have := World.cell?_alloc_mark w (cellsOf l).toArray 5 (0, 0) j
  have e : (⟨w.heap.size, 0, none⟩ : Addr).add j = ⟨w.heap.size, j, none⟩ := by
    simp only [Addr.add, Nat.zero_add]
    split
    · rename_i hj; rw [hj]
    · rfl
  rw [e, this, List.getElem?_toArray]; exact h
theorem bytes_new2 (w : World) (x y : UInt8) : ∀ j u, (cellsOf [x, y])[j]? = some u → (w.alloc (.cells #[.int .u8 x.toNat, .int .u8 y.toNat] 5)).drew.cell? ((⟨w.heap.size, 0, none⟩ : Addr).add j) = some u := bytes_new w [x, y]
theorem conv_own {w : World} {base b n cap : Nat} {l : List UInt8} (hl : l.length = n) (hown : w.ownsRow base 5 1 (.slice (some ⟨b, 0, none⟩) n cap) n (cellsOf l)) :
    (convert 59 9 (.slice (some ⟨b, 0, none⟩) n cap)).run Tryz.prog w = .ok (.string ⟨l.toArray⟩) w := by
  subst hl
  refine run_convert_bytes_back w 59 9 5 ⟨b, 0, none⟩ cap l Tryz.underlying59 Tryz.underlying5 Tryz.underlying9 fun j hj => ?_
  refine hown.cells (g := b) rfl j _ ?_
  unfold cellsOf
  rw [List.getElem?_map, List.getElem?_eq_getElem hj]; rfl
theorem hexL_snoc (s : ByteArray) (k : Nat) (h : k < s.size) : hexL (s.data.toList.take (k + 1)) = hexL (s.data.toList.take k) ++ [hexD (s[k].toNat / 16), hexD (s[k].toNat % 16)] := by
  have : s.data.toList.take (k + 1) = s.data.toList.take k ++ [s[k]] := by
    rw [List.take_succ_eq_append_getElem (by simpa using h)]; rfl
  rw [this]; unfold hexL
  rw [List.flatMap_append]; rfl

theorem hex_any (s : ByteArray) (hs : s.size ≤ 1000) (w : World) :
    Calls Tryz.prog 52 #[.string s] w fun e w' => e = .returned (.string ⟨(hexL s.data.toList).toArray⟩) ∧ Below w.heap.size w w' := by
  obtain ⟨i0, hi, hz0, hz1, hz2⟩ := info_parts info5
  go_enter Tryz.func52, Tryz.ntmps52
  go_wp2_with (at_make; refine wpList_make_own _ rfl _ _ 59 rfl w.heap.size 5 i0 (.int .u8 0) 1 Tryz.underlying59 hi hz0 hz1 _ _ _ (2 * s.size) rfl rfl (by omega) ?b1 ?b2 ?b3 ?_)
  case b1 => rw [hz2]; omega
  case b2 => unfold maxLen; omega
  case b3 => exact Nat.le_refl _
  intro w1 hown hgrow
  go_wp2_with fail
  go_loopw [3, 11] (fun v i wr => ∃ k : Nat, k ≤ s.size ∧ i = .int .i64 k ∧ v = .slice (some ⟨w.heap.size, 0, none⟩) (2 * k) (2 * s.size) ∧
      wr.ownsRow w.heap.size 5 1 (.slice (some ⟨w.heap.size, 0, none⟩) (2 * k) (2 * s.size)) (2 * k) (cellsOf (hexL (s.data.toList.take k))) ∧ Below w.heap.size w wr)
    (fun _ i _ => s.size - (intOf i).toNat)
  case atStart => exact ⟨0, Nat.zero_le _, rfl, rfl, hown, (Below.refl _ _).grown hgrow (Nat.le_refl _) (fun k h => by cases h)⟩
  case round =>
    clear hown hgrow
    obtain ⟨k, hk, rfl, rfl, hown, hbel⟩ := hrel
    by_cases hlt : k < s.size
    · go_wp2_with fail
      have r0 := run_digit ((s[k].toNat : Int) / 16) (s[k].toNat / 16) (by omega) (by have := s[k].toNat_lt; omega)
      have r1 := run_digit (bits .and .u8 (s[k].toNat : Int) 15) (s[k].toNat % 16) (by rw [u8_and15 (x := (s[k].toNat : Int)) (by omega) (by have := s[k].toNat_lt; omega)]; omega) (by omega)
      go_region_law (refine step_append_fits rfl (.tmp 14) (.tmp 25) 59 rfl w.heap.size 5 i0 1 Tryz.underlying59 hi hz1 w.heap.size (2 * k) (2 * s.size) (cellsOf (hexL (s.data.toList.take k))) rfl ((hown.alloc _).drew) ⟨wr.heap.size, 0, none⟩ 2 2 (cellsOf [hexD (s[k].toNat / 16), hexD (s[k].toNat % 16)]) rfl rfl (bytes_new2 _ _ _) (cellsOf_one _) (by omega) ?_; intro w2 hown2 hgrow2)
      all_goals go_wp2_with fail
      all_goals go_roundw
      all_goals first
        | exact ⟨k + 1, by omega, by go_num, by rw [show 2 * (k + 1) = 2 * k + 2 by omega], by rw [show 2 * (k + 1) = 2 * k + 2 by omega, hexL_snoc s k hlt]; unfold cellsOf at hown2 ⊢; rw [List.map_append]; exact hown2, ((hbel.alloc (hbel.size) _).drew).grown hgrow2 (by have := hbel.size; simp; omega) (fun k h => by cases h; exact Nat.le_refl _)⟩
        | (simp [intOf]; omega)
    · obtain rfl : k = s.size := by omega
      have hcv := conv_own (l := hexL (s.data.toList.take s.size)) (by rw [hexL_length, List.take_of_length_le (by simp)]; simp) hown
      rw [List.take_of_length_le (by simp)] at hcv
      go_wp2_with fail
      go_ret
      exact ⟨rfl, hbel⟩
end Go.Proofs.YtdinachiiimngaaGreatDoor.Nu
namespace Go.Proofs.YtdinachiiimngaaGreatDoor
open Go.ChangeShapes Go.WideShapes Go.ChangeAt Go.RowKit
open TokP AdrP CtP

def esc1 (c : UInt8) : List UInt8 := if c = 34 ∨ c = 92 then [92, c] else [c]
theorem escQ_snoc : ∀ (X : List UInt8) (c : UInt8), escQ (X ++ [c]) = escQ X ++ esc1 c
  | [], c => by
    show (if c = 34 ∨ c = 92 then 92 :: c :: escQ [] else c :: escQ []) = [] ++ esc1 c
    unfold esc1
    split <;> rfl
  | d :: X, c => by
    rw [List.cons_append, escQ, escQ, escQ_snoc X c]
    split <;> rfl
theorem escQ_step {l : List UInt8} {k : Nat} {c : UInt8} (h : l[k]? = some c) : escQ (l.take (k + 1)) = escQ (l.take k) ++ esc1 c := by
  rw [List.take_add_one, h]
  exact escQ_snoc _ _
theorem escQ_len : ∀ l : List UInt8, (escQ l).length ≤ 2 * l.length
  | [] => Nat.le_refl _
  | c :: t => by
    have := escQ_len t
    rw [escQ]
    split
    · rw [List.length_cons, List.length_cons, List.length_cons]; omega
    · rw [List.length_cons, List.length_cons]; omega
theorem escQ_take (l : List UInt8) (k : Nat) : (escQ (l.take k)).length ≤ 2 * k := by
  have h1 := escQ_len (l.take k)
  have h2 := List.length_take_le k l
  omega
theorem pctE_step {l : List UInt8} {k : Nat} {c : UInt8} (h : l[k]? = some c) : pctE (l.take (k + 1)) = pctE (l.take k) ++ pctB c := by
  unfold pctE
  rw [List.take_add_one, h, List.flatMap_append]
  simp
theorem pctB_len (c : UInt8) : (pctB c).length ≤ 3 := by unfold pctB; split <;> simp
theorem pctE_len : ∀ l : List UInt8, (pctE l).length ≤ 3 * l.length
  | [] => Nat.le_refl _
  | c :: t => by
    have := pctE_len t
    have h3 := pctB_len c
    unfold pctE at this ⊢
    rw [List.flatMap_cons, List.length_append, List.length_cons]
    omega
theorem pctE_take (l : List UInt8) (k : Nat) : (pctE (l.take k)).length ≤ 3 * k := by
  have h1 := pctE_len (l.take k)
  have h2 := List.length_take_le k l
  omega
/-- The builder in block b holds L; what was there at w0 ahead of it is as it was, and so is what is no row of bytes. -/
structure Wr (b : Nat) (w0 w : World) (L : List UInt8) : Prop where
  bk : Bk w b L
  below : Below b w0 w
  kept : Lib.OthersKept 5 (some b) w0 w
theorem kept_below {w w' : World} (hb : Below w.heap.size w w') (e : TypeId) (o : Option Nat) : Lib.OthersKept e o w w' := fun g x hx _ _ => by
  rw [hb.block g (Array.getElem?_eq_some_iff.1 hx).1]; exact hx
theorem Wr.first {w : World} {b : Nat} {L : List UInt8} (h : Bk w b L) : Wr b w w L := ⟨h, Below.refl _ _, Lib.OthersKept.refl _ _ _⟩
theorem Wr.other {b : Nat} {w0 w w' : World} {L : List UInt8} (h : Wr b w0 w L) (hb : Below w.heap.size w w') : Wr b w0 w' L :=
  ⟨h.bk.below hb, h.below.trans (hb.mono (Nat.le_of_lt (bk_lt h.bk))), h.kept.trans (kept_below hb _ _)⟩
theorem wr_byte (c : UInt8) (x : Int) (hx : (c.toNat : Int) = x) {b : Nat} {w0 W : World} {L : List UInt8} (h : Wr b w0 W L) (hl : L.length + 1 ≤ 140737488355328) :
    Calls Tryz.prog 80 #[.pointer (some ⟨b, 0, none⟩), .int .u8 x] W fun e w' => e = .returned .nilIface ∧ Wr b w0 w' (L ++ [c]) :=
  (bk_byte c x hx b L W h.bk hl).mono fun _ _ ⟨h1, h2, h3, h4⟩ => ⟨h1, h2, h.below.trans h3, h.kept.trans h4⟩
theorem wr_str (s : ByteArray) {b : Nat} {w0 W : World} {L : List UInt8} (h : Wr b w0 W L) (hl : L.length + s.size ≤ 140737488355328) :
    Calls Tryz.prog 42 #[.pointer (some ⟨b, 0, none⟩), .string s] W fun e w' => e = .returned (.tuple #[.int .i64 s.size, .nilIface]) ∧ Wr b w0 w' (L ++ s.data.toList) :=
  (bk_str s b L W h.bk hl).mono fun _ _ ⟨h1, h2, h3, h4⟩ => ⟨h1, h2, h.below.trans h3, h.kept.trans h4⟩
set_option maxRecDepth 100000 in
set_option maxHeartbeats 2000000 in
theorem print_any (s : ByteArray) (hs : s.size ≤ 1000000000) (w : World) :
    Calls Tryz.prog 78 #[.string s] w fun e w' => e = .returned (.bool (quotedV s.data.toList)) ∧ w = w' := by
  obtain ⟨n, hn⟩ : ∃ n, s.size = n := ⟨_, rfl⟩
  have HN := Lib.hid hn
  have HL := Lib.hid (size_list s)
  rw [hn] at hs
  obtain ⟨r, hr⟩ : ∃ r, quotedV s.data.toList = r := ⟨_, rfl⟩
  rw [hr]
  have HR := Lib.hid hr
  clear hr
  go_enter Tryz.func78, Tryz.ntmps78
  go_wp2_with fail
  go_loopw [6] (fun i wr => ∃ k : Nat, k ≤ n ∧ i = .int .i64 k ∧ wr = w ∧ Hid (quotedV (s.data.toList.take k) = true)) (fun i _ => n - (intOf i).toNat)
  case atStart => exact ⟨0, Nat.zero_le _, rfl, rfl, rfl⟩
  case round =>
    obtain ⟨k, hk, rfl, rfl, HF⟩ := hrel
    have F1 : IntKind.i64.wrap ((k : Int) + 1) = (k : Int) + 1 := by rw [IntKind.wrap_i64]; omega
    by_cases hlt : k < n
    · have hlt' : (k : Int) < (n : Int) := by omega
      obtain ⟨d, y, hd, hy, hy2, S1⟩ := run_byte s k (by rw [hn]; exact hlt)
      have HNO := Lib.hid (fun (h : y < 32 ∨ 126 < y) => show false = r by
        rw [← HR.out]
        unfold quotedV
        symm
        rw [List.all_eq_false]
        refine ⟨d, List.mem_of_getElem? hd, ?_⟩
        rw [hy, Bool.and_eq_true, decide_eq_true_eq, decide_eq_true_eq]
        omega)
      by_cases h1 : y < 32
      · have g1 : (y : Int) < 32 := by omega
        obtain rfl := HNO.out (.inl h1)
        clear hd hy HF HR HNO
        go_wp2_with fail
        go_ret
        exact ⟨rfl, rfl⟩
      · have g1 : ¬ (y : Int) < 32 := by omega
        by_cases h2 : 126 < y
        · have g2 : (126 : Int) < (y : Int) := by omega
          obtain rfl := HNO.out (.inr h2)
          clear hd hy HF HR HNO
          go_wp2_with fail
          go_ret
          exact ⟨rfl, rfl⟩
        · have g2 : ¬ (126 : Int) < (y : Int) := by omega
          have HF2 := Lib.hid (show quotedV (s.data.toList.take (k + 1)) = true by
            have hf := HF.out
            unfold quotedV at hf ⊢
            rw [List.take_add_one, hd, List.all_append, hf]
            simp [hy]; omega)
          clear hd hy HF HR HNO
          go_wp2_with fail
          go_roundw
          case rel => exact ⟨k + 1, by omega, by go_num, trivial, HF2⟩
          case measure => simp [intOf]; omega
    · obtain rfl : k = n := by omega
      have hlt' : ¬ (k : Int) < (k : Int) := by omega
      have ha := HF.out
      rw [List.take_of_length_le (by rw [← HL.out, HN.out]; exact Nat.le_refl _)] at ha
      obtain rfl : true = r := by rw [← HR.out, ha]
      clear HF ha HR
      go_wp2_with fail
      go_ret
      exact ⟨rfl, rfl⟩
set_option maxRecDepth 100000 in
set_option maxHeartbeats 4000000 in
theorem quoted_any (s : ByteArray) (hs : s.size ≤ 4000000) (b : Nat) (L : List UInt8) (hL : L.length + 3 * s.size + 20 ≤ 140737488355328) (w : World) (hb : Bk w b L) :
    Calls Tryz.prog 81 #[.pointer (some ⟨b, 0, none⟩), .string s] w fun e w' => e = .returned (.tuple #[]) ∧ Wr b w w' (L ++ 34 :: (escQ s.data.toList ++ [34])) := by
  obtain ⟨n, hn⟩ : ∃ n, s.size = n := ⟨_, rfl⟩
  have HL := Lib.hid (size_list s)
  have HN := Lib.hid hn
  rw [hn] at hs hL
  have H0 := Lib.hid (Wr.first hb)
  have c1 := fun W (h : Hid (Wr b w W L)) => wr_byte 34 34 rfl h.out (by omega)
  clear hb
  go_enter Tryz.func81, Tryz.ntmps81
  go_wp2_with (go_at_call 80; (with_reducible refine (c1 _ H0).mono ?_); rintro e w1 ⟨rfl, hq1⟩; have H1 := Lib.hid hq1; clear hq1 c1)
  have HST : Hid (Wr b w w1 (L ++ 34 :: escQ (s.data.toList.take 0))) := H1
  clear H1 H0
  go_loopw [9] (fun i wr => ∃ k : Nat, k ≤ n ∧ i = .int .i64 k ∧ Hid (Wr b w wr (L ++ 34 :: escQ (s.data.toList.take k)))) (fun i _ => n - (intOf i).toNat)
  case atStart => exact ⟨0, Nat.zero_le _, rfl, HST⟩
  case round =>
    obtain ⟨k, hk, rfl, hst⟩ := hrel
    have F1 : IntKind.i64.wrap ((k : Int) + 1) = (k : Int) + 1 := by rw [IntKind.wrap_i64]; omega
    by_cases hlt : k < n
    · have hlt' : (k : Int) < (n : Int) := by omega
      obtain ⟨c, x, hc, hx, hx2, S1⟩ := run_byte s k (by rw [hn]; exact hlt)
      have hstep := escQ_step hc
      have hle := escQ_take s.data.toList k
      have e34 := byte_is c x hx 34 (by decide)
      have e92 := byte_is c x hx 92 (by decide)
      rw [show ((34 : Nat) : Int) = 34 from rfl] at e34
      rw [show ((92 : Nat) : Int) = 92 from rfl] at e92
      have hTl : (L ++ 34 :: escQ (s.data.toList.take k)).length ≤ L.length + 1 + 2 * k := by rw [List.length_append, List.length_cons]; omega
      have HSTEP := Lib.hid (show L ++ 34 :: escQ (s.data.toList.take (k + 1)) = (L ++ 34 :: escQ (s.data.toList.take k)) ++ esc1 c by rw [hstep]; simp)
      generalize L ++ 34 :: escQ (s.data.toList.take k) = T at hst hTl HSTEP
      have c1 := fun W (h : Hid (Wr b w W T)) => wr_byte 92 92 rfl h.out (by omega)
      have c2 := fun W (h : Hid (Wr b w W T)) => wr_byte c (x : Int) (by omega) h.out (by omega)
      have c3 := fun W (h : Hid (Wr b w W (T ++ [92]))) => wr_byte c (x : Int) (by omega) h.out (by rw [List.length_append, List.length_singleton]; omega)
      by_cases hq : c = 34 ∨ c = 92
      · have HR := Lib.hid (show (T ++ [92]) ++ [c] = L ++ 34 :: escQ (s.data.toList.take (k + 1)) by rw [HSTEP.out]; unfold esc1; rw [if_pos hq, List.append_assoc]; rfl)
        by_cases h34 : c = 34
        · rw [show decide (c = UInt8.ofNat 34) = true from decide_eq_true h34] at e34
          clear hc hx hx2 hstep hle h34 e92 hq c2 HSTEP
          go_wp2_with (first
            | (go_at_call 80; (with_reducible refine (c1 _ hst).mono ?_); rintro e w2 ⟨rfl, hq2⟩; have H2 := Lib.hid hq2; clear hq2 c1)
            | (go_at_call 80; (with_reducible refine (c3 _ H2).mono ?_); rintro e w3 ⟨rfl, hq3⟩; have H3 := Lib.hid hq3; clear hq3 c3))
          go_roundw
          case rel => exact ⟨k + 1, by omega, by go_num, by rw [← HR.out]; exact H3⟩
          case measure => simp [intOf]; omega
        · have h92 : c = 92 := hq.resolve_left h34
          rw [show decide (c = UInt8.ofNat 34) = false from decide_eq_false h34] at e34
          rw [show decide (c = UInt8.ofNat 92) = true from decide_eq_true h92] at e92
          clear hc hx hx2 hstep hle h34 h92 hq c2 HSTEP
          go_wp2_with (first
            | (go_at_call 80; (with_reducible refine (c1 _ hst).mono ?_); rintro e w2 ⟨rfl, hq2⟩; have H2 := Lib.hid hq2; clear hq2 c1)
            | (go_at_call 80; (with_reducible refine (c3 _ H2).mono ?_); rintro e w3 ⟨rfl, hq3⟩; have H3 := Lib.hid hq3; clear hq3 c3))
          go_roundw
          case rel => exact ⟨k + 1, by omega, by go_num, by rw [← HR.out]; exact H3⟩
          case measure => simp [intOf]; omega
      · have HR := Lib.hid (show T ++ [c] = L ++ 34 :: escQ (s.data.toList.take (k + 1)) by rw [HSTEP.out]; unfold esc1; rw [if_neg hq])
        rw [show decide (c = UInt8.ofNat 34) = false from decide_eq_false (fun e => hq (.inl e))] at e34
        rw [show decide (c = UInt8.ofNat 92) = false from decide_eq_false (fun e => hq (.inr e))] at e92
        clear hc hx hx2 hstep hle hq c1 c3 HSTEP
        go_wp2_with (go_at_call 80; (with_reducible refine (c2 _ hst).mono ?_); rintro e w3 ⟨rfl, hq3⟩; have H3 := Lib.hid hq3; clear hq3 c2)
        go_roundw
        case rel => exact ⟨k + 1, by omega, by go_num, by rw [← HR.out]; exact H3⟩
        case measure => simp [intOf]; omega
    · obtain rfl : k = n := by omega
      have hlt' : ¬ (k : Int) < (k : Int) := by omega
      have hT : s.data.toList.take k = s.data.toList := List.take_of_length_le (by rw [← HL.out, HN.out]; exact Nat.le_refl _)
      have hle := escQ_take s.data.toList k
      rw [hT] at hst hle
      have hTl : (L ++ 34 :: escQ s.data.toList).length ≤ L.length + 1 + 2 * k := by rw [List.length_append, List.length_cons]; omega
      have HR := Lib.hid (show (L ++ 34 :: escQ s.data.toList) ++ [34] = L ++ 34 :: (escQ s.data.toList ++ [34]) by simp)
      generalize L ++ 34 :: escQ s.data.toList = T at hst hTl HR
      have c2 := fun W (h : Hid (Wr b w W T)) => wr_byte 34 34 rfl h.out (by omega)
      clear hT hle
      go_wp2_with (go_at_call 80; (with_reducible refine (c2 _ hst).mono ?_); rintro e w3 ⟨rfl, hq3⟩; have H3 := Lib.hid hq3; clear hq3 c2)
      go_end0
      exact ⟨rfl, by rw [← HR.out]; exact H3.out⟩
theorem hex_facts : ∀ n : Fin 256, Lib.toUpperA (Nu.hexL [UInt8.ofNat n.val]) = [hexU ((UInt8.ofNat n.val).toNat / 16), hexU ((UInt8.ofNat n.val).toNat % 16)] ∧ ∀ b ∈ Nu.hexL [UInt8.ofNat n.val], b.toNat < 128 := by decide +kernel
theorem hex_all (c : UInt8) : Lib.toUpperA (Nu.hexL [c]) = [hexU (c.toNat / 16), hexU (c.toNat % 16)] ∧ ∀ b ∈ Nu.hexL [c], b.toNat < 128 :=
  byte_all (P := fun c => Lib.toUpperA (Nu.hexL [c]) = [hexU (c.toNat / 16), hexU (c.toNat % 16)] ∧ ∀ b ∈ Nu.hexL [c], b.toNat < 128) hex_facts c
theorem free_at (c : UInt8) : freeB c = (letterB c || (⟨#[45, 46, 95, 126]⟩ : ByteArray).data.toList.contains c) := rfl
set_option maxRecDepth 100000 in
set_option maxHeartbeats 4000000 in
theorem encoded_any (s : ByteArray) (hs : s.size ≤ 4000000) (b : Nat) (L : List UInt8) (hL : L.length + 3 * s.size + 20 ≤ 140737488355328) (w : World) (hb : Bk w b L) :
    Calls Tryz.prog 82 #[.pointer (some ⟨b, 0, none⟩), .string s] w fun e w' => e = .returned (.tuple #[]) ∧ Wr b w w' (L ++ pctE s.data.toList) := by
  obtain ⟨n, hn⟩ : ∃ n, s.size = n := ⟨_, rfl⟩
  have HL := Lib.hid (size_list s)
  have HN := Lib.hid hn
  rw [hn] at hs hL
  have H0 := Lib.hid (show Wr b w w (L ++ pctE (s.data.toList.take 0)) by
    have := Wr.first hb
    rw [show L ++ pctE (s.data.toList.take 0) = L by rw [List.take_zero]; exact List.append_nil _]
    exact this)
  clear hb
  go_enter Tryz.func82, Tryz.ntmps82
  go_wp2_with fail
  go_loopw [7] (fun i wr => ∃ k : Nat, k ≤ n ∧ i = .int .i64 k ∧ Hid (Wr b w wr (L ++ pctE (s.data.toList.take k)))) (fun i _ => n - (intOf i).toNat)
  case atStart => exact ⟨0, Nat.zero_le _, rfl, H0⟩
  case round =>
    obtain ⟨k, hk, rfl, hst⟩ := hrel
    have F1 : IntKind.i64.wrap ((k : Int) + 1) = (k : Int) + 1 := by rw [IntKind.wrap_i64]; omega
    by_cases hlt : k < n
    · have hlt' : (k : Int) < (n : Int) := by omega
      obtain ⟨c, x, hc, hx, hx2, S1⟩ := run_byte s k (by rw [hn]; exact hlt)
      have hstep := pctE_step hc
      have hle := pctE_take s.data.toList k
      have cH := fun W => at_byte ⟨#[45, 46, 95, 126]⟩ c x hx W
      have cL := fun W => letter_any c x hx W
      have hw := free_at c
      have hTl : (L ++ pctE (s.data.toList.take k)).length ≤ L.length + 3 * k := by rw [List.length_append]; omega
      have HSTEP := Lib.hid (show L ++ pctE (s.data.toList.take (k + 1)) = (L ++ pctE (s.data.toList.take k)) ++ pctB c by rw [hstep, List.append_assoc])
      generalize L ++ pctE (s.data.toList.take k) = T at hst hTl HSTEP
      have c2 := fun W (h : Hid (Wr b w W T)) => wr_byte c (x : Int) (by omega) h.out (by omega)
      have c1 := fun W (h : Hid (Wr b w W T)) => wr_byte 37 37 rfl h.out (by omega)
      rw [← index_in] at hw
      generalize Lib.indexByte (⟨#[45, 46, 95, 126]⟩ : ByteArray).data.toList c = z at cH hw
      generalize letterB c = b1 at cL hw
      cases hfr : freeB c with
      | true =>
        have HR := Lib.hid (show T ++ [c] = L ++ pctE (s.data.toList.take (k + 1)) by rw [HSTEP.out]; unfold pctB; rw [if_pos hfr])
        rw [hfr] at hw
        cases b1 with
        | true =>
          clear hc hx hx2 hstep hle hw c1 HSTEP hfr cH
          go_wp2_with (first
            | (go_at_call 66; (with_reducible refine (cL _).mono ?_); rintro e w5 ⟨rfl, rfl⟩)
            | (go_at_call 80; (with_reducible refine (c2 _ hst).mono ?_); rintro e w3 ⟨rfl, hq3⟩; have H3 := Lib.hid hq3; clear hq3 c2))
          go_roundw
          case rel => exact ⟨k + 1, by omega, by go_num, by rw [← HR.out]; exact H3⟩
          case measure => simp [intOf]; omega
        | false =>
          have hz : 0 ≤ z := by simpa using hw
          clear hc hx hx2 hstep hle hw c1 HSTEP hfr
          go_wp2_with (first
            | (go_at_call 66; (with_reducible refine (cL _).mono ?_); rintro e w5 ⟨rfl, rfl⟩)
            | (go_at_call 67; (with_reducible refine (cH _).mono ?_); rintro e w6 ⟨rfl, rfl⟩)
            | (go_at_call 80; (with_reducible refine (c2 _ hst).mono ?_); rintro e w3 ⟨rfl, hq3⟩; have H3 := Lib.hid hq3; clear hq3 c2))
          go_roundw
          case rel => exact ⟨k + 1, by omega, by go_num, by rw [← HR.out]; exact H3⟩
          case measure => simp [intOf]; omega
      | false =>
        have HR := Lib.hid (show (T ++ [37]) ++ [hexU (c.toNat / 16), hexU (c.toNat % 16)] = L ++ pctE (s.data.toList.take (k + 1)) by rw [HSTEP.out]; unfold pctB; rw [if_neg (by rw [hfr]; exact Bool.false_ne_true), List.append_assoc]; rfl)
        rw [hfr] at hw
        obtain ⟨rfl, hz⟩ : b1 = false ∧ z < 0 := by
          have := hw.symm
          rw [Bool.or_eq_false_iff, decide_eq_false_iff_not] at this
          exact ⟨this.1, by omega⟩
        have hz2 : ¬ 0 ≤ z := by omega
        have R1 := run_slice_str s k (k + 1) ((k : Int) + 1) (by omega) (by omega) (by omega)
        rw [show s.extract k (k + 1) = strL [c] by
          rw [part_of s k (k + 1) (by omega) (by omega), cons_at _ k c hc]
          congr 1
          rw [show k + 1 - k = 1 by omega]; rfl] at R1
        obtain ⟨hu1, hu2⟩ := hex_all c
        have cX := fun W => Nu.hex_any (strL [c]) (by rw [strL_size]; simp) W
        rw [strL_list] at cX
        have cU := fun W => Tryz.strings_ToUpper_ascii (strL (Nu.hexL [c])) W (by rw [strL_size]; unfold Nu.hexL; simp) (fun j d hd => hu2 d (List.mem_of_getElem? hd))
        rw [strL_list, hu1] at cU
        have c3 := fun W (h : Hid (Wr b w W (T ++ [37]))) => wr_str (strL [hexU (c.toNat / 16), hexU (c.toNat % 16)]) h.out (by rw [List.length_append, List.length_singleton, strL_size]; simp; omega)
        rw [strL_list] at c3
        have hsz2 : (strL [hexU (c.toNat / 16), hexU (c.toNat % 16)]).size = 2 := strL_size _
        rw [hsz2] at c3
        generalize hX1 : strL (Nu.hexL [c]) = X1 at cU
        have hX1' : (⟨(Nu.hexL [c]).toArray⟩ : ByteArray) = X1 := hX1
        rw [hX1'] at cX
        generalize hX2 : strL [hexU (c.toNat / 16), hexU (c.toNat % 16)] = X2 at c3
        have hX2' : (⟨[hexU (c.toNat / 16), hexU (c.toNat % 16)].toArray⟩ : ByteArray) = X2 := hX2
        rw [hX2'] at cU
        generalize strL [c] = X0 at R1 cX
        clear hc hx hx2 hstep hle hw c2 HSTEP hfr hu1 hu2 hX1 hX2 hX1' hX2' hsz2
        go_wp2_with (first
          | (go_at_call 66; (with_reducible refine (cL _).mono ?_); rintro e w5 ⟨rfl, rfl⟩)
          | (go_at_call 67; (with_reducible refine (cH _).mono ?_); rintro e w6 ⟨rfl, rfl⟩)
          | (go_at_call 80; (with_reducible refine (c1 _ hst).mono ?_); rintro e w2 ⟨rfl, hq2⟩; have H2 := Lib.hid hq2; clear hq2 c1)
          | (go_at_call 52; (with_reducible refine (cX _).mono ?_); rintro e w7 ⟨rfl, hq7⟩; have H7 := Lib.hid (H2.out.other hq7); clear hq7 cX)
          | (go_at_call 119; (with_reducible refine (cU _).mono ?_); rintro e w8 ⟨rfl, hq8⟩; have H8 := Lib.hid (H7.out.other hq8); clear hq8 cU)
          | (go_at_call 42; (with_reducible refine (c3 _ H8).mono ?_); rintro e w9 ⟨rfl, hq9⟩; have H9 := Lib.hid hq9; clear hq9 c3))
        go_roundw
        case rel => exact ⟨k + 1, by omega, by go_num, by rw [← HR.out]; exact H9⟩
        case measure => simp [intOf]; omega
    · obtain rfl : k = n := by omega
      have hlt' : ¬ (k : Int) < (k : Int) := by omega
      have hT : s.data.toList.take k = s.data.toList := List.take_of_length_le (by rw [← HL.out, HN.out]; exact Nat.le_refl _)
      rw [hT] at hst
      clear hT
      go_wp2_with fail
      go_end0
      exact ⟨rfl, hst.out⟩
end Go.Proofs.YtdinachiiimngaaGreatDoor
namespace Go.Proofs.YtdinachiiimngaaGreatDoor
open Go.ChangeShapes Go.WideShapes Go.ChangeAt Go.RowKit
open TokP AdrP CtP

def pmV (t : (List UInt8 × List UInt8)) : List Value := [.string (strL t.1), .string (strL t.2)]
def pmsV (l : List (List UInt8 × List UInt8)) : List Value := l.flatMap pmV
theorem pmsV_len (l : List (List UInt8 × List UInt8)) : (pmsV l).length = l.length * 2 := by
  unfold pmsV
  induction l with
  | nil => rfl
  | cons m l ih => rw [List.flatMap_cons, List.length_append, ih, List.length_cons]; simp [pmV]; omega
theorem pmsV_app (a b : List (List UInt8 × List UInt8)) : pmsV a ++ pmsV b = pmsV (a ++ b) := by unfold pmsV; rw [List.flatMap_append]
theorem pmsV_one (f : (List UInt8 × List UInt8)) : pmsV [f] = pmV f := by unfold pmsV; simp
theorem pmsV_at : ∀ (l : List (List UInt8 × List UInt8)) (i : Nat) (f : (List UInt8 × List UInt8)), l[i]? = some f → ∀ j, j < 2 → (pmsV l)[i * 2 + j]? = (pmV f)[j]?
  | [], i, m, h => by simp at h
  | x :: l, 0, m, h => by
    simp at h
    subst h
    intro j hj
    rw [show pmsV (x :: l) = pmV x ++ pmsV l by unfold pmsV; rw [List.flatMap_cons], Nat.zero_mul, Nat.zero_add, List.getElem?_append_left (by simp [pmV]; exact hj)]
  | x :: l, i + 1, m, h => by
    intro j hj
    have ih := pmsV_at l i m (by simpa using h) j hj
    rw [show pmsV (x :: l) = pmV x ++ pmsV l by unfold pmsV; rw [List.flatMap_cons], List.getElem?_append_right (by simp [pmV]; omega)]
    have e1 : (i + 1) * 2 + j - (pmV x).length = i * 2 + j := by simp [pmV]; omega
    rw [e1]
    exact ih
theorem pmV_one (f : (List UInt8 × List UInt8)) : ∀ u ∈ pmV f, u.oneCell' = true := by
  intro u hu
  simp [pmV] at hu
  rcases hu with rfl | rfl <;> rfl
theorem pmsV_ones (l : List (List UInt8 × List UInt8)) : ∀ u ∈ pmsV l, u.oneCell' = true := by
  intro u hu
  obtain ⟨f, _, hf⟩ := List.mem_flatMap.1 hu
  exact pmV_one f u hf
/-- The addresses l lie at g, from cell o on. -/
def PAt (w : World) (g o : Nat) (l : List (List UInt8 × List UInt8)) : Prop := ∀ i f, l[i]? = some f → w.cell? ⟨g, o + i * 2, none⟩ = some (.string (strL f.1)) ∧ w.cell? ⟨g, o + i * 2 + 1, none⟩ = some (.string (strL f.2))
def OwnP (w : World) (v : Value) (l : List (List UInt8 × List UInt8)) : Prop := ∃ base, w.ownsRow base 37 2 v l.length (pmsV l)
/-- The slice v reads as l. -/
def HasP (w : World) (v : Value) (l : List (List UInt8 × List UInt8)) : Prop := ((∃ a c, v = .slice a 0 c) ∧ l = []) ∨ ∃ g o c, v = .slice (some ⟨g, o, none⟩) l.length c ∧ PAt w g o l
theorem OwnP.step {w w' : World} {v : Value} {xs : List (List UInt8 × List UInt8)} (h : OwnP w v xs) (hb : Below w.heap.size w w') : OwnP w' v xs := by
  obtain ⟨b, ho⟩ := h; exact ⟨b, own_below ho hb⟩
theorem OwnP.shape {w : World} {v : Value} {xs : List (List UInt8 × List UInt8)} (h : OwnP w v xs) : ∃ a c, v = .slice a xs.length c := by
  obtain ⟨b, ho⟩ := h
  rcases ho.2 with ⟨rfl, h0⟩ | ⟨g, cap, cur, rfl, _⟩
  · exact ⟨none, 0, by rw [h0]⟩
  · exact ⟨_, _, rfl⟩
theorem OwnP.at {w : World} {a : Option Addr} {n c : Nat} {xs : List (List UInt8 × List UInt8)} (h : OwnP w (.slice a n c) xs) (hn : 0 < n) : ∃ g, a = some ⟨g, 0, none⟩ ∧ PAt w g 0 xs := by
  obtain ⟨b, ho⟩ := h
  rcases ho.2 with ⟨e, h0⟩ | ⟨g, cap, cur, e, _⟩
  · injection e with _ e2 _; omega
  · have e' := e
    injection e with e1 _ _
    subst e1
    refine ⟨g, rfl, fun i f hf => ?_⟩
    have key : ∀ j u, j < 2 → (pmV f)[j]? = some u → w.cell? ⟨g, 0 + i * 2 + j, none⟩ = some u := fun j u hj hu => by
      have := ho.cells (g := g) rfl (i * 2 + j) u (by rw [pmsV_at xs i f hf j hj]; exact hu)
      rwa [add_none, ← Nat.add_assoc] at this
    exact ⟨key 0 _ (by decide) rfl, key 1 _ (by decide) rfl⟩
theorem OwnP.has {w : World} {v : Value} {xs : List (List UInt8 × List UInt8)} (h : OwnP w v xs) : HasP w v xs := by
  obtain ⟨a, c, rfl⟩ := h.shape
  by_cases hn : 0 < xs.length
  · obtain ⟨g, rfl, hf⟩ := h.at hn
    exact .inr ⟨g, 0, c, rfl, hf⟩
  · obtain rfl : xs = [] := List.eq_nil_of_length_eq_zero (by omega)
    obtain ⟨b, ho⟩ := h
    rcases ho.2 with ⟨e, _⟩ | ⟨g, cap, cur, e, _⟩
    · exact .inl ⟨⟨_, _, e⟩, rfl⟩
    · exact .inr ⟨g, 0, _, e, fun i f hf => by simp at hf⟩
theorem PAt.lt {w : World} {g o : Nat} {l : List (List UInt8 × List UInt8)} (h : PAt w g o l) (hl : l ≠ []) : g < w.heap.size := by
  cases l with
  | nil => exact absurd rfl hl
  | cons f r => exact World.block_lt_of_cell? w _ (h 0 f rfl).1
theorem PAt.keep {w w' : World} {g o : Nat} {l : List (List UInt8 × List UInt8)} (h : PAt w g o l) (hk : w'.heap[g]? = w.heap[g]?) : PAt w' g o l := by
  intro i f hf
  obtain ⟨h1, h2⟩ := h i f hf
  exact ⟨by rw [World.cell?_of_block (by exact hk)]; exact h1, by rw [World.cell?_of_block (by exact hk)]; exact h2⟩
theorem PAt.step {w w' : World} {g o : Nat} {l : List (List UInt8 × List UInt8)} (h : PAt w g o l) (hb : Below w.heap.size w w') : PAt w' g o l := by
  by_cases hl : l = []
  · subst hl; intro i f hf; simp at hf
  · exact h.keep (hb.block g (h.lt hl))
theorem HasP.step {w w' : World} {v : Value} {l : List (List UInt8 × List UInt8)} (h : HasP w v l) (hb : Below w.heap.size w w') : HasP w' v l := by
  rcases h with h | ⟨g, o, c, rfl, h⟩
  · exact .inl h
  · exact .inr ⟨g, o, c, rfl, h.step hb⟩
theorem HasP.form {w : World} {v : Value} {l : List (List UInt8 × List UInt8)} (h : HasP w v l) : ∃ a c, v = .slice a l.length c := by
  rcases h with ⟨⟨a, c, rfl⟩, rfl⟩ | ⟨g, o, c, rfl, _⟩
  · exact ⟨a, c, rfl⟩
  · exact ⟨_, _, rfl⟩
theorem HasP.at {w : World} {a : Option Addr} {n c : Nat} {l : List (List UInt8 × List UInt8)} (h : HasP w (.slice a n c) l) (hn : 0 < n) : ∃ g o, a = some ⟨g, o, none⟩ ∧ PAt w g o l := by
  rcases h with ⟨⟨a', c', e⟩, _⟩ | ⟨g, o, c', e, h⟩
  · injection e with _ e _; omega
  · injection e with e _ _; exact ⟨g, o, e, h⟩
theorem news_pm (w : World) (f : (List UInt8 × List UInt8)) : ∀ j u, (pmV f)[j]? = some u → (w.alloc (.cells (pmV f).toArray 37)).cell? ((⟨w.heap.size, 0, none⟩ : Addr).add j) = some u := by
  intro j u h
  have := World.cell?_alloc_mark w (pmV f).toArray 37 (0, 0) j
  rw [add_none, Nat.zero_add, this, List.getElem?_toArray]; exact h
theorem infoPm : (Tryz.prog.info? 37).map (fun i => (i.zero, i.size, i.bytes)) = some (some (.agg #[.string ⟨#[]⟩, .string ⟨#[]⟩]), 2, 32) := by kernel_rfl
/-- An address is appended. -/
theorem run_appP {w : World} (base : Nat) {v : Value} {xs : List (List UInt8 × List UInt8)} (f : (List UInt8 × List UInt8)) (hown : w.ownsRow base 37 2 v xs.length (pmsV xs)) (hb : base ≤ w.heap.size) (hl : xs.length ≤ 4000000) :
    ∃ a c w', (Builtin.append_ #[24, 24] 24 #[v, .slice (some ⟨w.heap.size, 0, none⟩) 1 1]).run Tryz.prog (w.alloc (.cells #[.string (strL f.1), .string (strL f.2)] 37)) = .ok (.slice a (xs.length + 1) c) w' ∧
      w'.ownsRow base 37 2 (.slice a (xs.length + 1) c) (xs ++ [f]).length (pmsV (xs ++ [f])) ∧ (w.alloc (.cells #[.string (strL f.1), .string (strL f.2)] 37)).grownBy w' v.ownBlock := by
  obtain ⟨i0, hi, hz0, hz1, hz2⟩ := info_parts infoPm
  obtain ⟨v', w', hr, h1, h2, _⟩ := run_append_own (P := Tryz.prog) (w.alloc (.cells (pmV f).toArray 37)) base 24 24 37 i0 _ 2 32 Tryz.underlying24 hi hz0 hz1 hz2 rfl (by decide) v xs.length _ (World.ownsRow.alloc hown _) ⟨w.heap.size, 0, none⟩ 1 1 (pmV f) rfl (news_pm w f) (pmV_one f) (by unfold maxLen; omega) (by omega) (by rw [World.size_alloc]; omega)
  rw [← pmsV_one, pmsV_app, ← List.length_singleton (a := f), ← List.length_append] at h1
  obtain ⟨a, c, rfl⟩ : ∃ a c, v' = .slice a (xs.length + 1) c := by
    rcases h1.2 with ⟨rfl, h0⟩ | ⟨g, cap, cur, rfl, _⟩
    · simp at h0
    · exact ⟨_, _, by rw [List.length_append]; rfl⟩
  exact ⟨a, c, w', hr, h1, h2⟩
theorem wpList_appP {ops : Array Oper} {rest : List Oper} {o : Oper} {a : Act} {w : World} {Q : Exit → Act → World → Prop} (hw : Region.wanted o (yielded ops a.tmps) = true) (s x : Operand)
    (ho : o.op = .call { callee := .builtin .append, args := #[s, x], argTypes := #[24, 24] }) (hty : o.type = 24) (base : Nat) {v : Value} {xs : List (List UInt8 × List UInt8)} {n : Nat} (f : (List UInt8 × List UInt8)) (hs : a.eval s = v) (hx : a.eval x = .slice (some ⟨w.heap.size, 0, none⟩) 1 1)
    (hown : w.ownsRow base 37 2 v xs.length (pmsV xs)) (hn : xs.length = n) (hb : base ≤ w.heap.size) (hl : n ≤ 4000000)
    (h : ∀ a' c' w', w'.ownsRow base 37 2 (.slice a' (n + 1) c') (xs ++ [f]).length (pmsV (xs ++ [f])) → (w.alloc (.cells #[.string (strL f.1), .string (strL f.2)] 37)).grownBy w' v.ownBlock → wpList Tryz.prog ops Q rest (a.put o.dst (.slice a' (n + 1) c')) w') :
    wpList Tryz.prog ops Q (o :: rest) a (w.alloc (.cells #[.string (strL f.1), .string (strL f.2)] 37)) := by
  subst hn
  obtain ⟨a', c', w', hr, h1, h2⟩ := run_appP base f hown hb hl
  unfold wpList
  rw [if_pos hw]
  left
  unfold Oper.wp
  simp [execOp, ho, hty, resolve, invoke, builtin, hs, hx, hr, Result.andThen]
  exact h a' c' w' h1 h2
/-- Addresses are compared part by part. -/
theorem pm_iff (f g : (List UInt8 × List UInt8)) : (decide (f = g)) = ((strL f.1).toList == (strL g.1).toList && (strL f.2).toList == (strL g.2).toList) := by
  rw [eq_strL, eq_strL, Bool.eq_iff_iff]
  simp only [Bool.and_eq_true, decide_eq_true_iff]
  constructor
  · intro h; rw [h]; exact ⟨rfl, rfl⟩
  · intro h; cases f; cases g; simp_all
theorem run_equal_pm (f g : (List UInt8 × List UInt8)) (W : World) : (Op.equalIn 10000 37 (.agg #[.string (strL f.1), .string (strL f.2)]) (.agg #[.string (strL g.1), .string (strL g.2)])).run Tryz.prog W = .ok (decide (f = g)) W := by
  rw [pm_iff]
  generalize strL f.1 = a1
  generalize strL g.1 = b1
  generalize strL f.2 = a2
  generalize strL g.2 = b2
  go_simp
  cases h1 : (a1.toList == b1.toList) <;> cases h2 : (a2.toList == b2.toList) <;> simp_all
theorem drew_belowP (w : World) (n : Nat) : Below w.heap.size w (w.drewN n) := ⟨rfl, rfl, rfl, Nat.le_refl _, fun _ _ => rfl⟩
set_option maxRecDepth 100000 in
set_option maxHeartbeats 2000000 in
theorem rparams_any {v u : Value} {xs ys : List (List UInt8 × List UInt8)} {w : World} (h : HasP w v xs) (k : HasP w u ys) (hx : xs.length ≤ 4000000) :
    Calls Tryz.prog 17 #[v, u] w fun e w' => e = .returned (.bool (decide (xs = ys))) ∧ Below w.heap.size w w' := by
  obtain ⟨a1, c1, rfl⟩ := h.form
  obtain ⟨a2, c2, rfl⟩ := k.form
  obtain ⟨n, hn⟩ : ∃ n, xs.length = n := ⟨_, rfl⟩
  obtain ⟨m, hm⟩ : ∃ m, ys.length = m := ⟨_, rfl⟩
  rw [hn] at h hx
  rw [hm] at k
  rw [hn, hm]
  have HN := Lib.hid hn
  have HM := Lib.hid hm
  have H := Lib.hid h
  have K := Lib.hid k
  clear hn hm h k
  by_cases hl : n = m
  · subst hl
    have hne : ((n : Int) != (n : Int)) = false := by simp
    go_enter Tryz.func17, Tryz.ntmps17
    go_wp2_with fail
    go_loopw [5] (fun i wr => ∃ j : Nat, j ≤ n ∧ i = .int .i64 j ∧ Hid (Below w.heap.size w wr) ∧ Hid (∀ i (_ : i < j) (f g : (List UInt8 × List UInt8)), xs[i]? = some f → ys[i]? = some g → f = g)) (fun i _ => n - (intOf i).toNat)
    case atStart => exact ⟨0, Nat.zero_le _, rfl, Below.refl _ _, by intro i h; omega⟩
    case round =>
      obtain ⟨j, hj, rfl, hgr, heq⟩ := hrel
      have F1 : IntKind.i64.wrap ((j : Int) + 1) = (j : Int) + 1 := by rw [IntKind.wrap_i64]; omega
      by_cases hlt : j < n
      · have hlt' : (j : Int) < (n : Int) := by omega
        obtain ⟨g1, o1, rfl, f1⟩ := H.out.at (by omega)
        obtain ⟨g2, o2, rfl, f2⟩ := K.out.at (by omega)
        obtain ⟨f, hf⟩ : ∃ f, xs[j]? = some f := ⟨_, List.getElem?_eq_getElem (by rw [HN.out]; exact hlt)⟩
        obtain ⟨g, hg⟩ : ∃ g, ys[j]? = some g := ⟨_, List.getElem?_eq_getElem (by rw [HM.out]; exact hlt)⟩
        obtain ⟨p0, p1⟩ := f1.step hgr.out j f hf
        obtain ⟨q0, q1⟩ := f2.step hgr.out j g hg
        have hEq := run_equal_pm f g
        by_cases he : f = g
        · rw [decide_eq_true he] at hEq
          have HE : Hid (∀ i (_ : i < j + 1) (f g : (List UInt8 × List UInt8)), xs[i]? = some f → ys[i]? = some g → f = g) := by
            intro i h f' g' h1 h2
            rcases (show i < j ∨ i = j by omega) with h' | rfl
            · exact heq.out i h' f' g' h1 h2
            · rw [hf] at h1; rw [hg] at h2
              cases h1; cases h2; exact he
          generalize strL f.1 = x1 at p0 hEq
          generalize strL f.2 = x2 at p1 hEq
          generalize strL g.1 = y1 at q0 hEq
          generalize strL g.2 = y2 at q1 hEq
          clear hf hg he f1 f2
          go_wp2_with fail
          go_quiet (fail)
          go_wp2_with fail
          go_roundw
          case rel => exact ⟨j + 1, by omega, by go_num, hgr.out.trans (drew_belowP _ _ |>.mono hgr.out.size), HE⟩
          case measure => simp [intOf]; omega
        · rw [decide_eq_false he] at hEq
          have HE : Hid (decide (xs = ys) = false) := by
            show _ = _
            rw [decide_eq_false_iff_not]
            rintro rfl
            rw [hf] at hg; cases hg; exact he rfl
          generalize strL f.1 = x1 at p0 hEq
          generalize strL f.2 = x2 at p1 hEq
          generalize strL g.1 = y1 at q0 hEq
          generalize strL g.2 = y2 at q1 hEq
          clear hf hg he f1 f2
          go_wp2_with fail
          go_quiet (fail)
          go_wp2_with fail
          go_ret
          rw [HE.out]
          exact ⟨rfl, hgr.out.trans (drew_belowP _ _ |>.mono hgr.out.size)⟩
      · obtain rfl : j = n := by omega
        have hlt' : ¬ (j : Int) < (j : Int) := by omega
        have HE : Hid (decide (xs = ys) = true) := by
          show _ = _
          rw [decide_eq_true_iff]
          have h1 := HN.out
          have h2 := HM.out
          exact List.ext_getElem (by omega) fun i hi1 hi2 => heq.out i (by omega) _ _ (List.getElem?_eq_getElem hi1) (List.getElem?_eq_getElem hi2)
        go_wp2_with fail
        go_ret
        rw [HE.out]
        exact ⟨rfl, hgr.out⟩
  · have HE : Hid (decide (xs = ys) = false) := by
      show _ = _
      rw [decide_eq_false_iff_not]
      rintro rfl
      exact hl (HN.out.symm.trans HM.out)
    have hne : ((n : Int) == (m : Int)) = false := beq_eq_false_iff_ne.2 (by omega)
    have hne' : ((n : Int) != (m : Int)) = true := by rw [bne, hne]; rfl
    clear hl
    go_enter Tryz.func17, Tryz.ntmps17
    go_wp2_with fail
    go_ret
    rw [HE.out]
    exact ⟨rfl, Below.refl _ _⟩
end Go.Proofs.YtdinachiiimngaaGreatDoor
namespace Go.Proofs.YtdinachiiimngaaGreatDoor
open Go.ChangeShapes Go.WideShapes Go.ChangeAt Go.RowKit
open TokP AdrP CtP

theorem any_in (chars : List UInt8) : ∀ l : List UInt8, Lib.containsAny l chars = l.any (fun b => chars.contains b)
  | [] => rfl
  | b :: l => by
    have ih := any_in chars l
    have hg := Lib.indexAny_ge chars l
    unfold Lib.containsAny at ih ⊢
    rw [Lib.indexAny, List.any_cons]
    cases h : chars.contains b with
    | true => rfl
    | false =>
      rw [if_neg Bool.false_ne_true, Bool.false_or, ← ih]
      by_cases h3 : Lib.indexAny l chars = -1
      · rw [h3]; rfl
      · rw [if_neg (by rw [beq_iff_eq]; exact h3), Bool.eq_iff_iff, decide_eq_true_eq, decide_eq_true_eq]
        omega
def stopB : List UInt8 := [32, 40, 41, 60, 62, 64, 44, 59, 58, 92, 34, 47, 91, 93, 63, 61]
theorem plain_fact : ∀ n : Fin 256, ((decide (32 ≤ (UInt8.ofNat n.val).toNat) && decide ((UInt8.ofNat n.val).toNat ≤ 126)) && !stopB.contains (UInt8.ofNat n.val)) = (decide (33 ≤ (UInt8.ofNat n.val).toNat) && decide ((UInt8.ofNat n.val).toNat ≤ 126) && !([40, 41, 60, 62, 64, 44, 59, 58, 92, 34, 47, 91, 93, 63, 61].contains (UInt8.ofNat n.val))) := by decide +kernel
theorem plain_is (v : List UInt8) : plainV v = (!v.isEmpty && (quotedV v && !v.any (fun b => stopB.contains b))) := by
  unfold plainV quotedV
  congr 1
  have hb : ∀ c : UInt8, ((decide (32 ≤ c.toNat) && decide (c.toNat ≤ 126)) && !stopB.contains c) = (decide (33 ≤ c.toNat) && decide (c.toNat ≤ 126) && !([40, 41, 60, 62, 64, 44, 59, 58, 92, 34, 47, 91, 93, 63, 61].contains c)) :=
    fun c => byte_all (P := fun c => ((decide (32 ≤ c.toNat) && decide (c.toNat ≤ 126)) && !stopB.contains c) = (decide (33 ≤ c.toNat) && decide (c.toNat ≤ 126) && !([40, 41, 60, 62, 64, 44, 59, 58, 92, 34, 47, 91, 93, 63, 61].contains c))) plain_fact c
  induction v with
  | nil => rfl
  | cons c v ih =>
    rw [List.all_cons, List.all_cons, List.any_cons, ih, ← hb c, Bool.not_or]
    generalize (decide (32 ≤ c.toNat) && decide (c.toNat ≤ 126)) = a
    generalize stopB.contains c = d
    generalize v.all _ = e
    generalize v.any _ = f
    cases a <;> cases d <;> cases e <;> cases f <;> rfl
theorem Wr.trans {b : Nat} {w0 w1 w2 : World} {L1 L2 : List UInt8} (h : Wr b w0 w1 L1) (k : Wr b w1 w2 L2) : Wr b w0 w2 L2 := ⟨k.bk, h.below.trans k.below, h.kept.trans k.kept⟩
theorem ascii_quoted {v : List UInt8} (h : quotedV v = true) : ∀ (j : Nat) (b : UInt8), v[j]? = some b → b.toNat < 128 := fun j b hb => by
  unfold quotedV at h
  rw [List.all_eq_true] at h
  have := h b (List.mem_of_getElem? hb)
  rw [Bool.and_eq_true, decide_eq_true_eq, decide_eq_true_eq] at this
  omega
theorem stop_ascii : ∀ (j : Nat) (b : UInt8), stopB[j]? = some b → b.toNat < 128 := fun j b hb => by
  have : stopB.all (fun b => decide (b.toNat < 128)) = true := by decide
  rw [List.all_eq_true] at this
  have := this b (List.mem_of_getElem? hb)
  rwa [decide_eq_true_eq] at this
theorem fmt_len (v : List UInt8) : (fmtV v).length ≤ 3 * v.length + 10 := by
  have h1 := escQ_len v
  have h2 := pctE_len v
  unfold fmtV utf8N
  split
  · simp; omega
  · split
    · simp; omega
    · simp; omega
set_option maxRecDepth 100000 in
set_option maxHeartbeats 4000000 in
theorem value_w (s : ByteArray) (hs : s.size ≤ 4000000) (b : Nat) (L : List UInt8) (hL : L.length + 3 * s.size + 100 ≤ 140737488355328) (w : World) (hb : Bk w b L) :
    Calls Tryz.prog 43 #[.pointer (some ⟨b, 0, none⟩), .string s] w fun e w' => e = .returned (.tuple #[]) ∧ Wr b w w' (L ++ fmtV s.data.toList) := by
  have hz := size_list s
  have H0 := Lib.hid (Wr.first hb)
  have cP := fun W => print_any s (by omega) W
  have hpl := plain_is s.data.toList
  have cA := fun (h : quotedV s.data.toList = true) W => Tryz.strings_ContainsAny_laid s (strL stopB) W (by omega) (by rw [strL_size]; decide) (ascii_quoted h) (by rw [strL_list]; exact stop_ascii)
  rw [strL_list, any_in] at cA
  have c0 : ∀ W (_ : Hid (Wr b w W L)), _ := fun W h => wr_byte 61 61 rfl h.out (by omega)
  have cQ : ∀ W (_ : Hid (Wr b w W (L ++ [61]))), _ := fun W h => quoted_any s hs b (L ++ [61]) (by rw [List.length_append, List.length_singleton]; omega) W h.out.bk
  have cV : ∀ W (_ : Hid (Wr b w W (L ++ [61]))), _ := fun W h => wr_str s h.out (by rw [List.length_append, List.length_singleton]; omega)
  have cS : ∀ W (_ : Hid (Wr b w W L)), Calls Tryz.prog 42 #[.pointer (some ⟨b, 0, none⟩), .string ⟨#[42, 61, 117, 116, 102, 45, 56, 39, 39]⟩] W fun e w' => (∃ z, e = .returned (.tuple #[.int .i64 z, .nilIface])) ∧ Wr b w w' (L ++ [42, 61, 117, 116, 102, 45, 56, 39, 39]) := fun W h => (wr_str ⟨#[42, 61, 117, 116, 102, 45, 56, 39, 39]⟩ h.out (by show L.length + 9 ≤ _; omega)).mono fun _ _ h => ⟨⟨_, h.1⟩, h.2⟩
  have cE : ∀ W (_ : Hid (Wr b w W (L ++ [42, 61, 117, 116, 102, 45, 56, 39, 39]))), _ := fun W h => encoded_any s hs b (L ++ [42, 61, 117, 116, 102, 45, 56, 39, 39]) (by rw [List.length_append]; simp; omega) W h.out.bk
  have hem : s.toList.isEmpty = s.data.toList.isEmpty := by rw [ByteArray.toList_eq]
  have HT1 := Lib.hid (fun (h : plainV s.data.toList = true) => show (L ++ [61]) ++ s.data.toList = L ++ fmtV s.data.toList by unfold fmtV; rw [if_pos h, List.append_assoc]; rfl)
  have HT2 := Lib.hid (fun (h : ¬ plainV s.data.toList = true) (h2 : quotedV s.data.toList = true) => show (L ++ [61]) ++ 34 :: (escQ s.data.toList ++ [34]) = L ++ fmtV s.data.toList by unfold fmtV; rw [if_neg h, if_pos h2, List.append_assoc]; rfl)
  have HT3 := Lib.hid (fun (h : ¬ plainV s.data.toList = true) (h2 : ¬ quotedV s.data.toList = true) => show (L ++ [42, 61, 117, 116, 102, 45, 56, 39, 39]) ++ pctE s.data.toList = L ++ fmtV s.data.toList by unfold fmtV utf8N; rw [if_neg h, if_neg h2, List.append_assoc]; rfl)
  have he1 : (s.toList != []) = !s.data.toList.isEmpty := by rw [ByteArray.toList_eq]; cases s.data.toList <;> rfl
  rw [← hem] at hpl
  generalize hee : s.toList.isEmpty = e0 at hpl
  clear hb hL hz he1
  cases hq : quotedV s.data.toList with
  | true =>
    rw [hq] at cP hpl
    cases e0 with
    | true =>
      have HR := Lib.hid (HT2.out (by rw [hpl]; simp) hq)
      clear hq hem hpl HT1 HT2 HT3 cA
      go_enter Tryz.func43, Tryz.ntmps43
      go_wp2_with (first
        | (go_at_call 78; (with_reducible refine (cP _).mono ?_); rintro e w5 ⟨rfl, rfl⟩)
        | (go_at_call 80; (with_reducible refine (c0 _ H0).mono ?_); rintro e w1 ⟨rfl, hq1⟩; have H1 := Lib.hid hq1; clear hq1 c0)
        | (go_at_call 81; (with_reducible refine (cQ _ H1).mono ?_); rintro e w2 ⟨rfl, hq2⟩; have H2 := Lib.hid (H1.out.trans hq2); clear hq2 cQ))
      go_end0
      exact ⟨rfl, by rw [← HR.out]; exact H2.out⟩
    | false =>
      replace cA := cA hq
      cases hy : s.data.toList.any (fun b => stopB.contains b) with
      | true =>
        rw [hy] at cA hpl
        have HR := Lib.hid (HT2.out (by rw [hpl]; simp) hq)
        clear hy
        have hstop : strL stopB = ⟨#[32, 40, 41, 60, 62, 64, 44, 59, 58, 92, 34, 47, 91, 93, 63, 61]⟩ := rfl
        rw [hstop] at cA
        clear hq hem hpl HT1 HT2 HT3 hstop
        go_enter Tryz.func43, Tryz.ntmps43
        go_wp2_with (first
          | (go_at_call 78; (with_reducible refine (cP _).mono ?_); rintro e w5 ⟨rfl, rfl⟩)
          | (go_at_call 79; (with_reducible refine (cA _).mono ?_); rintro e w6 ⟨rfl, hq6⟩; have H6 := Lib.hid (H0.out.other hq6); clear hq6 cA)
          | (go_at_call 80; (with_reducible refine (c0 _ H6).mono ?_); rintro e w1 ⟨rfl, hq1⟩; have H1 := Lib.hid hq1; clear hq1 c0)
          | (go_at_call 81; (with_reducible refine (cQ _ H1).mono ?_); rintro e w2 ⟨rfl, hq2⟩; have H2 := Lib.hid (H1.out.trans hq2); clear hq2 cQ))
        go_end0
        exact ⟨rfl, by rw [← HR.out]; exact H2.out⟩
      | false =>
        rw [hy] at cA hpl
        have HR := Lib.hid (HT1.out hpl)
        clear hy
        have hstop : strL stopB = ⟨#[32, 40, 41, 60, 62, 64, 44, 59, 58, 92, 34, 47, 91, 93, 63, 61]⟩ := rfl
        rw [hstop] at cA
        clear hq hem hpl HT1 HT2 HT3 hstop
        go_enter Tryz.func43, Tryz.ntmps43
        go_wp2_with (first
          | (go_at_call 78; (with_reducible refine (cP _).mono ?_); rintro e w5 ⟨rfl, rfl⟩)
          | (go_at_call 79; (with_reducible refine (cA _).mono ?_); rintro e w6 ⟨rfl, hq6⟩; have H6 := Lib.hid (H0.out.other hq6); clear hq6 cA)
          | (go_at_call 80; (with_reducible refine (c0 _ H6).mono ?_); rintro e w1 ⟨rfl, hq1⟩; have H1 := Lib.hid hq1; clear hq1 c0)
          | (go_at_call 42; (with_reducible refine (cV _ H1).mono ?_); rintro e w2 ⟨rfl, hq2⟩; have H2 := Lib.hid hq2; clear hq2 cV))
        go_end0
        exact ⟨rfl, by rw [← HR.out]; exact H2.out⟩
  | false =>
    rw [hq] at cP hpl
    have hp : ¬ plainV s.data.toList = true := by rw [hpl]; simp
    have HR := Lib.hid (HT3.out hp (by rw [hq]; decide))
    clear hp
    cases e0 with
    | true =>
      clear hq hem hpl HT1 HT2 HT3 cA
      go_enter Tryz.func43, Tryz.ntmps43
      go_wp2_with (first
        | (go_at_call 78; (with_reducible refine (cP _).mono ?_); rintro e w5 ⟨rfl, rfl⟩)
        | (go_at_call 42; (with_reducible refine (cS _ H0).mono ?_); rintro e w1 ⟨⟨z1, rfl⟩, hq1⟩; have H1 := Lib.hid hq1; clear hq1 cS)
        | (go_at_call 82; (with_reducible refine (cE _ H1).mono ?_); rintro e w2 ⟨rfl, hq2⟩; have H2 := Lib.hid (H1.out.trans hq2); clear hq2 cE))
      go_end0
      exact ⟨rfl, by rw [← HR.out]; exact H2.out⟩
    | false =>
      clear hq hem hpl HT1 HT2 HT3 cA
      go_enter Tryz.func43, Tryz.ntmps43
      go_wp2_with (first
        | (go_at_call 78; (with_reducible refine (cP _).mono ?_); rintro e w5 ⟨rfl, rfl⟩)
        | (go_at_call 42; (with_reducible refine (cS _ H0).mono ?_); rintro e w1 ⟨⟨z1, rfl⟩, hq1⟩; have H1 := Lib.hid hq1; clear hq1 cS)
        | (go_at_call 82; (with_reducible refine (cE _ H1).mono ?_); rintro e w2 ⟨rfl, hq2⟩; have H2 := Lib.hid (H1.out.trans hq2); clear hq2 cE))
      go_end0
      exact ⟨rfl, by rw [← HR.out]; exact H2.out⟩
theorem lineW_step (F : List UInt8) (l : List (List UInt8 × List UInt8)) (k : Nat) (p : List UInt8 × List UInt8) (h : l[k]? = some p) : lineW F (l.take (k + 1)) = ((lineW F (l.take k) ++ [59, 32]) ++ p.1) ++ fmtV p.2 := by
  unfold lineW
  rw [List.take_add_one, h, Option.toList_some, List.flatMap_append, List.flatMap_singleton]
  unfold rowW
  simp
theorem lineW_le (F : List UInt8) (l : List (List UInt8 × List UInt8)) (k : Nat) : (lineW F (l.take k)).length ≤ (lineW F l).length := by
  have e : l = l.take k ++ l.drop k := (List.take_append_drop k l).symm
  conv => rhs; rw [e]
  unfold lineW
  rw [List.length_append, List.length_append, List.flatMap_append, List.length_append]
  omega
set_option maxRecDepth 100000 in
set_option maxHeartbeats 4000000 in
theorem line_w (F : ByteArray) (v : Value) (l : List (List UInt8 × List UInt8)) (hv : ∀ p ∈ l, p.2.length ≤ 4000000) (hl : l.length ≤ 4000000) (hz : (lineW F.data.toList l).length + 20000000 ≤ 140737488355328) (w : World) (h : Hid (HasP w v l)) :
    Calls Tryz.prog 20 #[.string F, v] w fun e w' => e = .returned (.string (strL (lineW F.data.toList l))) ∧ Below w.heap.size w w' := by
  obtain ⟨a, c, rfl⟩ := h.out.form
  obtain ⟨n, hn⟩ : ∃ n, l.length = n := ⟨_, rfl⟩
  rw [hn] at h hl ⊢
  have HN := Lib.hid hn
  have HVL := Lib.hid hv
  have HZ := Lib.hid hz
  have hF : F.size ≤ 140737488351328 := by
    have := lineW_le F.data.toList l 0
    rw [List.take_zero] at this
    have h0 : lineW F.data.toList [] = F.data.toList := by unfold lineW; simp
    rw [h0, ← size_list] at this
    omega
  have H0 : Hid (Wr w.heap.size (w.alloc (.cells #[.pointer none, .slice none 0 0] 61)) (w.alloc (.cells #[.pointer none, .slice none 0 0] 61)) []) := Lib.hid (Wr.first (bk_new w))
  have HB0 := Lib.hid ((Below.refl w.heap.size w).alloc (Nat.le_refl _) (.cells #[.pointer none, .slice none 0 0] 61))
  have c0 : ∀ W (_ : Hid (Wr w.heap.size (w.alloc (.cells #[.pointer none, .slice none 0 0] 61)) W [])), _ := fun W h => wr_str F h.out (by show 0 + F.size ≤ _; omega)
  clear hn hv hz
  go_enter Tryz.func20, Tryz.ntmps20
  go_wp2_with (go_at_call 42; (with_reducible refine (c0 _ H0).mono ?_); rintro e w1 ⟨rfl, hq1⟩; have H1 := Lib.hid (And.intro hq1.bk (HB0.out.trans hq1.below)); clear hq1 c0)
  go_loopw [12] (fun i wr => ∃ k : Nat, k ≤ n ∧ i = .int .i64 k ∧ Hid (Bk wr w.heap.size (lineW F.data.toList (l.take k)) ∧ Below w.heap.size w wr)) (fun i _ => n - (intOf i).toNat)
  case atStart => exact ⟨0, Nat.zero_le _, rfl, by
    have h0 : lineW F.data.toList (l.take 0) = [] ++ F.data.toList := by unfold lineW; simp
    rw [h0]; exact H1⟩
  case round =>
    obtain ⟨k, hk, rfl, HST⟩ := hrel
    have F1 : IntKind.i64.wrap ((k : Int) + 1) = (k : Int) + 1 := by rw [IntKind.wrap_i64]; omega
    clear H1 H0
    by_cases hlt : k < n
    · have hlt' : (k : Int) < (n : Int) := by omega
      obtain ⟨g, o, rfl, hfa⟩ := h.out.at (by omega)
      obtain ⟨p, hp⟩ : ∃ p, l[k]? = some p := ⟨_, List.getElem?_eq_getElem (by rw [HN.out]; exact hlt)⟩
      obtain ⟨p0, p1⟩ := hfa.step HST.out.2 k p hp
      have hle := lineW_le F.data.toList l (k + 1)
      have hstep := lineW_step F.data.toList l k p hp
      have hv2 := HVL.out p (List.mem_of_getElem? hp)
      have hf3 := fmt_len p.2
      have hz := HZ.out
      rw [hstep, List.length_append, List.length_append, List.length_append] at hle
      have HSTEP := Lib.hid hstep
      generalize lineW F.data.toList (l.take k) = T at HST hle HSTEP
      have s1 : (strL p.1).size = p.1.length := strL_size _
      have s2 : (strL p.2).size = p.2.length := strL_size _
      have l1 : (strL p.1).data.toList = p.1 := rfl
      have l2 : (strL p.2).data.toList = p.2 := rfl
      have hT1 : T.length + 2 ≤ 140737488355328 := by simp at hle; omega
      have hT2 : (T ++ [59, 32]).length + (strL p.1).size ≤ 140737488355328 := by rw [List.length_append, s1]; simp at hle ⊢; omega
      have hT3 : ((T ++ [59, 32]) ++ p.1).length + 3 * (strL p.2).size + 100 ≤ 140737488355328 := by rw [List.length_append, List.length_append, s2]; simp at hle ⊢; omega
      have hnew := World.alloc_heap_new wr (.cells #[.string (strL p.1), .string (strL p.2)] 37)
      have hne : wr.heap.size ≠ w.heap.size := by have := bk_lt HST.out.1; omega
      obtain ⟨W1, hW1⟩ : ∃ W1, wr.alloc (.cells #[.string (strL p.1), .string (strL p.2)] 37) = W1 := ⟨_, rfl⟩
      rw [hW1] at hnew
      have HW := Lib.hid (show Wr w.heap.size W1 W1 T ∧ Below w.heap.size w W1 by rw [← hW1]; exact ⟨Wr.first (HST.out.1.alloc _), HST.out.2.alloc HST.out.2.size _⟩)
      have k0 : W1.cell? ⟨wr.heap.size, 0, none⟩ = some (.string (strL p.1)) := by simp [World.cell?, hnew]
      have k1 : W1.cell? ⟨wr.heap.size, 1, none⟩ = some (.string (strL p.2)) := by simp [World.cell?, hnew]
      have HG := Lib.hid hnew
      have HK := Lib.hid (fun (W : World) (L : List UInt8) (h : Wr w.heap.size W1 W L) => show W.cell? ⟨wr.heap.size, 0, none⟩ = some (.string (strL p.1)) ∧ W.cell? ⟨wr.heap.size, 1, none⟩ = some (.string (strL p.2)) from ⟨cell_others HG.out h.kept hne (by decide) k0, cell_others HG.out h.kept hne (by decide) k1⟩)
      have c1 : ∀ W (_ : Hid (Wr w.heap.size W1 W T)), Calls Tryz.prog 42 #[.pointer (some ⟨w.heap.size, 0, none⟩), .string ⟨#[59, 32]⟩] W fun e w' => (∃ z, e = .returned (.tuple #[.int .i64 z, .nilIface])) ∧ Wr w.heap.size W1 w' (T ++ [59, 32]) := fun W h => (wr_str ⟨#[59, 32]⟩ h.out hT1).mono fun _ _ h => ⟨⟨_, h.1⟩, h.2⟩
      have c2 := fun W (h : Hid (Wr w.heap.size W1 W (T ++ [59, 32]))) => wr_str (strL p.1) h.out hT2
      have c3 := fun W (h : Hid (Wr w.heap.size W1 W ((T ++ [59, 32]) ++ p.1))) => value_w (strL p.2) (by rw [s2]; exact hv2) w.heap.size ((T ++ [59, 32]) ++ p.1) hT3 W h.out.bk
      rw [l1] at c2
      rw [l2] at c3
      have HW1 := Lib.hid hW1
      generalize strL p.1 = x1 at p0 c2 k0 k1 HK HG hW1 HW1 s1 hT2
      generalize strL p.2 = x2 at p1 c3 k0 k1 HK HG hW1 HW1 s2 hT3
      clear hle hstep hv2 hf3 hz s1 s2 l1 l2 hT1 hT2 hT3 hnew hfa hp k0 k1 HG hW1
      go_wp2_with fail
      rw [HW1.out]
      have HH := HW.out.1
      obtain ⟨j0, j1⟩ := HK.out W1 T HH
      clear HH
      go_wp2_with (first
        | (go_at_call 42; (with_reducible refine (c1 _ (Lib.hid HW.out.1)).mono ?_); rintro e w2 ⟨⟨z2, rfl⟩, hq2⟩; have H2 := Lib.hid hq2; obtain ⟨i0, i1⟩ := HK.out w2 _ hq2; clear hq2 c1)
        | (go_at_call 42; (with_reducible refine (c2 _ H2).mono ?_); rintro e w3 ⟨rfl, hq3⟩; have H3 := Lib.hid hq3; obtain ⟨f0, f1⟩ := HK.out w3 _ hq3; clear hq3 c2)
        | (go_at_call 43; (with_reducible refine (c3 _ H3).mono ?_); rintro e w4 ⟨rfl, hq4⟩; have H4 := Lib.hid (H3.out.trans hq4); clear hq4 c3))
      go_roundw
      case rel => exact ⟨k + 1, by omega, by go_num, Lib.hid ⟨by rw [HSTEP.out]; exact H4.out.bk, HW.out.2.trans H4.out.below⟩⟩
      case measure => simp [intOf]; omega
    · obtain rfl : k = n := by omega
      have hlt' : ¬ (k : Int) < (k : Int) := by omega
      have hT : l.take k = l := List.take_of_length_le (by rw [HN.out]; exact Nat.le_refl _)
      rw [hT] at HST
      have cO := fun W (h : Hid (Bk W w.heap.size (lineW F.data.toList l) ∧ Below w.heap.size w W)) => bk_out _ _ W h.out.1
      obtain ⟨X, hX⟩ : ∃ X, lineW F.data.toList l = X := ⟨_, rfl⟩
      rw [hX] at HST cO
      have HX := Lib.hid hX
      clear hT hX
      go_wp2_with (go_at_call 44; (with_reducible refine (cO _ HST).mono ?_); rintro e w3 ⟨rfl, hb3⟩)
      go_ret
      rw [HX.out]
      exact ⟨rfl, HST.out.2.trans hb3⟩
set_option maxRecDepth 100000 in
set_option maxHeartbeats 4000000 in
theorem write_w (K S : ByteArray) (v : Value) (l : List (List UInt8 × List UInt8)) (hv : ∀ p ∈ l, p.2.length ≤ 4000000) (hl : l.length ≤ 4000000) (hz : (lineW (K.data.toList ++ 47 :: S.data.toList) l).length + 20000000 ≤ 140737488355328) (w : World) (h : Hid (HasP w v l)) :
    Calls Tryz.prog 18 #[.agg #[.string K, .string S, v]] w fun e w' => e = .returned (.string (strL (lineW (K.data.toList ++ 47 :: S.data.toList) l))) ∧ Below w.heap.size w w' := by
  have hle := lineW_le (K.data.toList ++ 47 :: S.data.toList) l 0
  have h0 : lineW (K.data.toList ++ 47 :: S.data.toList) [] = K.data.toList ++ 47 :: S.data.toList := by unfold lineW; simp
  rw [List.take_zero, h0, List.length_append, List.length_cons, ← size_list, ← size_list] at hle
  have hz1 : K.size + (⟨#[47]⟩ : ByteArray).size ≤ 140737488355328 := by show K.size + 1 ≤ _; omega
  have hz2 : (K ++ (⟨#[47]⟩ : ByteArray)).size + S.size ≤ 140737488355328 := by rw [ByteArray.size_append]; show K.size + 1 + S.size ≤ _; omega
  have hFL : ((K ++ (⟨#[47]⟩ : ByteArray)) ++ S).data.toList = K.data.toList ++ 47 :: S.data.toList := by rw [list_append, list_append, List.append_assoc]; rfl
  have HB0 := Lib.hid ((Below.refl w.heap.size w).alloc (Nat.le_refl _) (.cells #[.string K, .string S, v] 26))
  obtain ⟨FF, hFF⟩ : ∃ FF, (K ++ (⟨#[47]⟩ : ByteArray)) ++ S = FF := ⟨_, rfl⟩
  rw [hFF] at hFL
  have cL := fun W (h : Hid (HasP W v l)) => line_w FF v l hv hl (by rw [hFL]; exact hz) W h
  rw [hFL] at cL
  have H1 : Hid (HasP (w.alloc (.cells #[.string K, .string S, v] 26)) v l) := Lib.hid (h.out.step HB0.out)
  have HH := Lib.hid h.out.form
  clear hle h0 hFL hz hv hl h
  obtain ⟨pa, pc, rfl⟩ := HH.out
  obtain ⟨X, hX⟩ : ∃ X, strL (lineW (K.data.toList ++ 47 :: S.data.toList) l) = X := ⟨_, rfl⟩
  rw [hX] at cL ⊢
  clear hX
  go_enter Tryz.func18, Tryz.ntmps18
  go_wp2_with (go_at_call 20; (with_reducible refine (cL _ H1).mono ?_); rintro e w3 ⟨rfl, hb3⟩)
  go_ret
  exact ⟨rfl, HB0.out.trans (hb3.mono HB0.out.size)⟩
end Go.Proofs.YtdinachiiimngaaGreatDoor
namespace Go.Proofs.YtdinachiiimngaaGreatDoor.Nu
open Go.ChangeShapes Go.WideShapes Go.ChangeAt Go.RowKit

/-- The conversion to a string of a slice that the call made itself, nil or not. -/
theorem conv_any {w : World} {base n : Nat} {v : Value} {l : List UInt8} (hl : l.length = n) (hown : w.ownsRow base 5 1 v n (cellsOf l)) :
    (convert 59 9 v).run Tryz.prog w = .ok (.string ⟨l.toArray⟩) w := by
  rcases hown.2 with ⟨rfl, h⟩ | ⟨g, cap, cur, rfl, _⟩
  · obtain rfl : l = [] := List.eq_nil_of_length_eq_zero (by rw [hl, h])
    kernel_rfl
  · exact conv_own hl hown

end Go.Proofs.YtdinachiiimngaaGreatDoor.Nu
namespace Go.Proofs.YtdinachiiimngaaGreatDoor
open Go.ChangeShapes Go.WideShapes Go.ChangeAt Go.RowKit
open TokP AdrP CtP

def paramV (l : List (List UInt8 × List UInt8)) (n : List UInt8) : Option (List UInt8) := (l.find? (fun p => decide (p.1.map lowA = n.map lowA))).map Prod.snd
theorem param_hit {l : List (List UInt8 × List UInt8)} {n : List UInt8} {k : Nat} {p : List UInt8 × List UInt8} (hk : l[k]? = some p) (hp : p.1.map lowA = n.map lowA) (h : ∀ (i : Nat) (q : List UInt8 × List UInt8), i < k → l[i]? = some q → ¬ q.1.map lowA = n.map lowA) : paramV l n = some p.2 := by
  unfold paramV
  induction l generalizing k with
  | nil => simp at hk
  | cons a r ih =>
    rw [List.find?_cons]
    cases k with
    | zero =>
      obtain rfl : a = p := by simpa using hk
      rw [decide_eq_true hp]; rfl
    | succ k =>
      rw [decide_eq_false (h 0 a (by omega) rfl)]
      exact ih (k := k) (by simpa using hk) (fun i q hi hq => h (i + 1) q (by omega) (by simpa using hq))
theorem param_none {l : List (List UInt8 × List UInt8)} {n : List UInt8} (h : ∀ (i : Nat) (q : List UInt8 × List UInt8), l[i]? = some q → ¬ q.1.map lowA = n.map lowA) : paramV l n = none := by
  unfold paramV
  rw [Option.map_eq_none_iff, List.find?_eq_none]
  intro q hq
  obtain ⟨i, hi, rfl⟩ := List.mem_iff_getElem.1 hq
  simpa using h i _ (List.getElem?_eq_getElem hi)
set_option maxRecDepth 100000 in
set_option maxHeartbeats 2000000 in
theorem rparam_any (v : Value) (l : List (List UInt8 × List UInt8)) (nm : ByteArray) (hn : nm.size ≤ 4000000) (hT : ∀ p ∈ l, p.1.length ≤ 4000000) (hl : l.length ≤ 4000000) (R : Option (List UInt8)) (hR : paramV l nm.data.toList = R) (w : World) (h : Hid (HasP w v l)) :
    Calls Tryz.prog 15 #[v, .string nm] w fun e w' => e = .returned (.tuple #[.string (strL (R.getD [])), .bool R.isSome]) ∧ Below w.heap.size w w' := by
  obtain ⟨a, c, rfl⟩ := h.out.form
  obtain ⟨n, hnn⟩ : ∃ n, l.length = n := ⟨_, rfl⟩
  rw [hnn] at h hl ⊢
  have HN := Lib.hid hnn
  have HT := Lib.hid (fun (k : Nat) (f : List UInt8 × List UInt8) (h : l[k]? = some f) => hT f (List.mem_of_getElem? h))
  have HR := Lib.hid hR
  have c2 := fun W => rsmall_any nm hn W
  obtain ⟨M, hM⟩ : ∃ M, nm.data.toList.map lowA = M := ⟨_, rfl⟩
  rw [hM] at c2
  have HM := Lib.hid hM
  clear hnn hT hR hn hM
  go_enter Tryz.func15, Tryz.ntmps15
  go_wp2_with fail
  go_loopw [6] (fun i wr => ∃ k : Nat, k ≤ n ∧ i = .int .i64 k ∧ Hid (Below w.heap.size w wr) ∧ Hid (∀ (i : Nat) (q : List UInt8 × List UInt8), i < k → l[i]? = some q → ¬ q.1.map lowA = M)) (fun i _ => n - (intOf i).toNat)
  case atStart => exact ⟨0, Nat.zero_le _, rfl, Below.refl _ _, fun i _ hi => absurd hi (Nat.not_lt_zero _)⟩
  case round =>
    obtain ⟨k, hk, rfl, HB, HF⟩ := hrel
    have F1 : IntKind.i64.wrap ((k : Int) + 1) = (k : Int) + 1 := by rw [IntKind.wrap_i64]; omega
    by_cases hlt : k < n
    · have hlt' : (k : Int) < (n : Int) := by omega
      obtain ⟨g, o, rfl, hfa⟩ := h.out.at (by omega)
      obtain ⟨p, hp⟩ : ∃ p, l[k]? = some p := ⟨_, List.getElem?_eq_getElem (by rw [HN.out]; exact hlt)⟩
      obtain ⟨p0, p1⟩ := hfa.step HB.out k p hp
      have c1 := fun W => rsmall_any (strL p.1) (by rw [strL_size]; exact HT.out k p hp) W
      rw [strL_list] at c1
      have heq := eq_strL (p.1.map lowA) M
      by_cases hm : p.1.map lowA = M
      · rw [decide_eq_true hm] at heq
        obtain rfl : some p.2 = R := by rw [← HR.out]; exact (param_hit hp (hm.trans HM.out.symm) (fun i q hi hq => HM.out ▸ HF.out i q hi hq)).symm
        have HV := Lib.hid (show strL ((some p.2).getD []) = strL p.2 from rfl)
        generalize strL (p.1.map lowA) = X1 at c1 heq
        generalize strL M = X2 at c2 heq
        generalize strL p.1 = X3 at p0 c1
        generalize strL p.2 = X4 at p1 HV
        clear hp hm HF HR hfa
        go_wp2_with (first
          | (go_at_call 39; (with_reducible refine (c1 _).mono ?_); rintro e w2 ⟨rfl, hb2⟩; have HB2 := Lib.hid (HB.out.trans (hb2.mono HB.out.size)); have p1b := cell_below p1 hb2; clear hb2 c1)
          | (go_at_call 39; (with_reducible refine (c2 _).mono ?_); rintro e w3 ⟨rfl, hb3⟩; have HB3 := Lib.hid (HB2.out.trans (hb3.mono HB2.out.size)); have p1c := cell_below p1b hb3; clear hb3 c2))
        go_ret2
        exact ⟨congrArg (fun z => Ending.returned (Value.tuple #[Value.string z, Value.bool true])) HV.out.symm, HB3.out⟩
      · rw [decide_eq_false hm] at heq
        have HF2 := Lib.hid (fun (i : Nat) (q : List UInt8 × List UInt8) (hi : i < k + 1) (hq : l[i]? = some q) => show ¬ q.1.map lowA = M by
          rcases (show i < k ∨ i = k by omega) with h | rfl
          · exact HF.out i q h hq
          · rw [hp] at hq; rw [← Option.some.inj hq]; exact hm)
        generalize strL (p.1.map lowA) = X1 at c1 heq
        generalize strL M = X2 at c2 heq
        generalize strL p.1 = X3 at p0 c1
        clear hp hm HF HR hfa
        go_wp2_with (first
          | (go_at_call 39; (with_reducible refine (c1 _).mono ?_); rintro e w2 ⟨rfl, hb2⟩; have HB2 := Lib.hid (HB.out.trans (hb2.mono HB.out.size)); clear hb2 c1)
          | (go_at_call 39; (with_reducible refine (c2 _).mono ?_); rintro e w3 ⟨rfl, hb3⟩; have HB3 := Lib.hid (HB2.out.trans (hb3.mono HB2.out.size)); clear hb3))
        go_roundw
        case rel => exact ⟨k + 1, by omega, by go_num, HB3, HF2⟩
        case measure => simp [intOf]; omega
    · obtain rfl : k = n := by omega
      have hlt' : ¬ (k : Int) < (k : Int) := by omega
      obtain rfl : none = R := by
        rw [← HR.out]
        exact (param_none (fun i q hq => HM.out ▸ HF.out i q (by have := (List.getElem?_eq_some_iff.1 hq).1; rw [HN.out] at this; exact this) hq)).symm
      clear HF HR
      go_wp2_with fail
      go_ret2
      exact ⟨rfl, HB.out⟩
end Go.Proofs.YtdinachiiimngaaGreatDoor
