/- Rows of bytes that a call has made, appended to. -/
import Derived.Test.YtblbajhjmdcdiaaDoorPlain
import Derived.Test.YtblbajhjmdcdiaaDoorRefV
namespace Go.Proofs.YtblbajhjmdcdiaaDoor
open Go.ChangeShapes Go.WideShapes Go.ChangeAt Go.RowKit

/-- The slice v holds out, in a block of its own from B on. -/
def Ow (w : World) (B : Nat) (v : Value) (out : List UInt8) : Prop := w.ownsRow B 5 1 v out.length (cellsOf out)
theorem ow_nil (w : World) (B : Nat) : Ow w B (.slice none 0 0) [] := own_nil w B
theorem Ow.below {w w' : World} {B : Nat} {v : Value} {out : List UInt8} (h : Ow w B v out) (hb : Below w.heap.size w w') : Ow w' B v out := below_own h hb
theorem Ow.drewN {w : World} {B : Nat} {v : Value} {out : List UInt8} (h : Ow w B v out) (n : Nat) : Ow (w.drewN n) B v out := h
theorem Ow.conv {w : World} {B : Nat} {v : Value} {out : List UInt8} (h : Ow w B v out) : (convert 25 9 v).run Tryd.prog w = .ok (.string (strL out)) w := conv_any rfl h
/-- Bytes of a new slice, appended. -/
theorem app_law {ops : Array Oper} {rest : List Oper} {o : Oper} {a : Act} {w : World} {Q : Exit → Act → World → Prop} (hgd : o.guard = none) (d x : Operand)
    (ho : o.op = .call { callee := .builtin .append, args := #[d, x], argTypes := #[25, 25] }) (B : Nat) (out news : List UInt8) (m : Nat) {v : Value} (hown : Ow w B v out) (hd : a.eval d = v)
    (hx : a.eval x = .slice (some ⟨w.heap.size, 0, none⟩) m m) (hm : news.length = m) (hlen : out.length + m ≤ 1000000000) (hB : B ≤ w.heap.size)
    (h : ∀ v' w', Ow w' B v' (out ++ news) → Below B w w' → wpList Tryd.prog ops Q rest (a.put o.dst v') w') : wpList Tryd.prog ops Q (o :: rest) a (w.alloc (.cells (cellsOf news).toArray 5)) := by
  obtain ⟨i0, hi, hz0, hz1, hz2⟩ := info_parts info5
  have hcl : (cellsOf news).length = m := by unfold cellsOf; rw [List.length_map, hm]
  refine wpList_append_own _ hgd d x 25 ho B 5 i0 (.int .u8 0) 1 1 Tryd.underlying25 hi hz0 hz1 hz2 rfl (by decide) v _ _ hd (World.ownsRow.alloc hown _) ⟨w.heap.size, 0, none⟩ m m (cellsOf news) hx (by omega) (bytes_new w news) (cellsOf_one _) ?_ ?_ ?_ ?_
  · unfold maxLen; omega
  · omega
  · rw [World.size_alloc]; omega
  · intro v' w' hown' hgrow _
    refine h v' w' ?_ (((Below.refl B w).alloc hB _).grown hgrow (by rw [World.size_alloc]; omega) (fun j hj => (hown.lt j hj).1))
    unfold Ow
    rw [List.length_append, hm]
    unfold cellsOf at hown' ⊢
    rw [List.map_append]
    exact hown'

/-! ### The reference's digits -/
theorem hexU_is : ∀ n : Fin 16, (hexU n.val).toNat = if n.val < 10 then 48 + n.val else 65 + n.val - 10 := by decide
theorem hexR_any (n : Nat) (h : n < 16) (w : World) : Calls Tryd.prog 33 #[.int .u8 n] w fun e w' => e = .returned (.int .u8 ((hexU n).toNat : Int)) ∧ w = w' := by
  have hh := hexU_is ⟨n, h⟩
  simp only [] at hh
  rw [hh]
  clear hh
  by_cases h1 : n < 10
  · rw [if_pos h1]
    have e1 : IntKind.u8.wrap (48 + (n : Int)) = 48 + (n : Int) := IntWalk.u8_in _ (by omega)
    go_enter Tryd.func33, Tryd.ntmps33
    go_wp2
    go_ret
    exact ⟨by rw [show ((48 + n : Nat) : Int) = 48 + (n : Int) by omega]; rfl, rfl⟩
  · rw [if_neg h1]
    have e1 : IntKind.u8.wrap (65 + (n : Int)) = 65 + (n : Int) := IntWalk.u8_in _ (by omega)
    have e2 : IntKind.u8.wrap (65 + (n : Int) - 10) = 65 + (n : Int) - 10 := IntWalk.u8_in _ (by omega)
    go_enter Tryd.func33, Tryd.ntmps33
    go_wp2
    go_ret
    exact ⟨by rw [show ((65 + n - 10 : Nat) : Int) = 65 + (n : Int) - 10 by omega]; rfl, rfl⟩
def hxI (c : Nat) : Int := if hx c < 16 then (hx c : Int) else -1
theorem unhexD_any (x : Nat) (hx' : x < 256) (w : World) : Calls Tryd.prog 53 #[.int .u8 x] w fun e w' => e = .returned (.int .i64 (hxI x)) ∧ w = w' := by
  rcases (show x < 48 ∨ (48 ≤ x ∧ x ≤ 57) ∨ (57 < x ∧ x < 65) ∨ (65 ≤ x ∧ x ≤ 70) ∨ (70 < x ∧ x < 97) ∨ (97 ≤ x ∧ x ≤ 102) ∨ 102 < x by omega) with h | h | h | h | h | h | h
  · have hv : hxI x = -1 := by unfold hxI hx; rw [if_neg (by omega : ¬ (48 ≤ x ∧ x ≤ 57)), if_neg (by omega : ¬ (97 ≤ x ∧ x ≤ 102)), if_neg (by omega : ¬ (65 ≤ x ∧ x ≤ 70))]; rfl
    rw [hv]
    clear hv
    go_enter Tryd.func53, Tryd.ntmps53
    go_wp2
    go_ret
    exact ⟨rfl, rfl⟩
  · have hv : hxI x = (x : Int) - 48 := by unfold hxI hx; rw [if_pos h, if_pos (by omega)]; omega
    rw [hv]
    clear hv
    have e1 : IntKind.u8.wrap ((x : Int) - 48) = (x : Int) - 48 := IntWalk.u8_in _ (by omega)
    have e2 : IntKind.i64.wrap ((x : Int) - 48) = (x : Int) - 48 := IntWalk.i64_in _ (by omega)
    go_enter Tryd.func53, Tryd.ntmps53
    go_wp2
    go_ret
    exact ⟨rfl, rfl⟩
  · have hv : hxI x = -1 := by unfold hxI hx; rw [if_neg (by omega : ¬ (48 ≤ x ∧ x ≤ 57)), if_neg (by omega : ¬ (97 ≤ x ∧ x ≤ 102)), if_neg (by omega : ¬ (65 ≤ x ∧ x ≤ 70))]; rfl
    rw [hv]
    clear hv
    go_enter Tryd.func53, Tryd.ntmps53
    go_wp2
    go_ret
    exact ⟨rfl, rfl⟩
  · have hv : hxI x = (x : Int) - 65 + 10 := by unfold hxI hx; rw [if_neg (by omega : ¬ (48 ≤ x ∧ x ≤ 57)), if_neg (by omega : ¬ (97 ≤ x ∧ x ≤ 102)), if_pos h, if_pos (by omega)]; omega
    rw [hv]
    clear hv
    have e1 : IntKind.u8.wrap ((x : Int) - 65) = (x : Int) - 65 := IntWalk.u8_in _ (by omega)
    have e2 : IntKind.i64.wrap ((x : Int) - 65) = (x : Int) - 65 := IntWalk.i64_in _ (by omega)
    go_enter Tryd.func53, Tryd.ntmps53
    go_wp2
    go_ret
    exact ⟨rfl, rfl⟩
  · have hv : hxI x = -1 := by unfold hxI hx; rw [if_neg (by omega : ¬ (48 ≤ x ∧ x ≤ 57)), if_neg (by omega : ¬ (97 ≤ x ∧ x ≤ 102)), if_neg (by omega : ¬ (65 ≤ x ∧ x ≤ 70))]; rfl
    rw [hv]
    clear hv
    go_enter Tryd.func53, Tryd.ntmps53
    go_wp2
    go_ret
    exact ⟨rfl, rfl⟩
  · have hv : hxI x = (x : Int) - 97 + 10 := by unfold hxI hx; rw [if_neg (by omega : ¬ (48 ≤ x ∧ x ≤ 57)), if_pos h, if_pos (by omega)]; omega
    rw [hv]
    clear hv
    have e1 : IntKind.u8.wrap ((x : Int) - 97) = (x : Int) - 97 := IntWalk.u8_in _ (by omega)
    have e2 : IntKind.i64.wrap ((x : Int) - 97) = (x : Int) - 97 := IntWalk.i64_in _ (by omega)
    go_enter Tryd.func53, Tryd.ntmps53
    go_wp2
    go_ret
    exact ⟨rfl, rfl⟩
  · have hv : hxI x = -1 := by unfold hxI hx; rw [if_neg (by omega : ¬ (48 ≤ x ∧ x ≤ 57)), if_neg (by omega : ¬ (97 ≤ x ∧ x ≤ 102)), if_neg (by omega : ¬ (65 ≤ x ∧ x ≤ 70))]; rfl
    rw [hv]
    clear hv
    go_enter Tryd.func53, Tryd.ntmps53
    go_wp2
    go_ret
    exact ⟨rfl, rfl⟩

set_option maxHeartbeats 4000000 in
set_option maxRecDepth 1000000 in
theorem escR_any (s : ByteArray) (hs : s.size ≤ 1000000) (w : World) :
    Calls Tryd.prog 38 #[.string s] w fun e w' => e = .returned (.string (strL (escapes s.data.toList))) ∧ Below w.heap.size w w' := by
  obtain ⟨ANS, hANS⟩ : ∃ ANS, escapes s.data.toList = ANS := ⟨_, rfl⟩
  rw [hANS]
  go_enter Tryd.func38, Tryd.ntmps38
  go_wp2
  go_loopw [4, 3] (fun i v wr => ∃ (k : Nat) (out : List UInt8), k ≤ s.size ∧ i = .int .i64 k ∧ Hid (Ow wr w.heap.size v out) ∧ Below w.heap.size w wr ∧ Hid (out ++ escG 0 (s.data.toList.drop k) = ANS) ∧ out.length ≤ k)
    (fun i _ _ => s.size - (intOf i).toNat)
  case atStart => exact ⟨0, [], Nat.zero_le _, rfl, Lib.hid (ow_nil _ _), Below.refl _ _, Lib.hid hANS, Nat.le_refl _⟩
  case round =>
    clear hANS
    obtain ⟨k, out, hk, rfl, hown, hb, hacc, hol⟩ := hrel
    have hsz := hb.size
    by_cases hlt : k < s.size
    · have hd := drop_cons s k hlt
      cases hh : escHead (s[k] :: s.data.toList.drop (k + 1)) with
      | some b =>
        obtain ⟨x, y, r, h61, ht, hx16, hy16, hbv⟩ := escHead_long hh
        have hes := esc_some hh
        rw [← hd, List.drop_drop] at hes
        have hlt2 : k + 2 < s.size := by
          have := congrArg List.length ht
          rw [List.length_drop, ← size_list, List.length_cons, List.length_cons] at this
          omega
        have hd1 := drop_cons s (k + 1) (by omega)
        have hd2 := drop_cons s (k + 1 + 1) (by omega)
        rw [hd1, hd2] at ht
        obtain ⟨ex, ht2⟩ := List.cons.inj ht
        obtain ⟨ey, _⟩ := List.cons.inj ht2
        rw [← ex] at hx16 hbv
        rw [← ey] at hy16 hbv
        have e61 : s[k].toNat = 61 := by rw [h61]; rfl
        have hu1 := fun W => unhexD_any s[k + 1].toNat s[k + 1].toNat_lt W
        have hu2 := fun W => unhexD_any s[k + 1 + 1].toNat s[k + 1 + 1].toNat_lt W
        have hi1 : hxI s[k + 1].toNat = (hx s[k + 1].toNat : Int) := by unfold hxI; rw [if_pos hx16]
        have hi2 : hxI s[k + 1 + 1].toNat = (hx s[k + 1 + 1].toNat : Int) := by unfold hxI; rw [if_pos hy16]
        rw [hi1] at hu1
        rw [hi2] at hu2
        have hbq : IntKind.u8.wrap (16 * (hx s[k + 1].toNat : Int) + (hx s[k + 1 + 1].toNat : Int)) = (b.toNat : Int) := by
          rw [hbv, UInt8.toNat_ofNat', IntKind.wrap_u8]
          omega
        have hr2 := fun W => run_index_str s ((k : Int) + 2) (k + 1 + 1) (by omega) (by omega) W
        have HE := Lib.hid hes.1
        have HU1 := Lib.hid hu1
        have HU2 := Lib.hid hu2
        clear hes ht2 ht ex ey hd1 hd2 h61 hh hd hbv hu1 hu2 hi1 hi2
        generalize hx s[k + 1].toNat = p at *
        generalize hx s[k + 1 + 1].toNat = q at *
        go_wp2_with (first
          | (go_at_call 53; with_reducible refine (HU1.out _).mono ?_; rintro e w' ⟨rfl, rfl⟩)
          | (go_at_call 53; with_reducible refine (HU2.out _).mono ?_; rintro e w' ⟨rfl, rfl⟩)
          | (at_builtin; refine app_law rfl _ _ rfl w.heap.size out [b] 1 hown.out rfl rfl rfl (by omega) hsz ?_; intro v' w2 hown2 hb2))
        go_roundw
        case rel =>
          refine ⟨k + 3, out ++ [b], by omega, by go_num, Lib.hid hown2, hb.trans hb2, Lib.hid ?_, by simp only [List.length_append, List.length_cons, List.length_nil]; omega⟩
          rw [← hacc.out, HE.out, List.append_assoc]
          rfl
        case measure => simp [intOf]; omega
      | none =>
        have HE := Lib.hid (esc_none hh)
        have HD := Lib.hid hd
        have hrel2 : ∀ (v' : Value) (w2 : World), Ow w2 w.heap.size v' (out ++ [s[k]]) → Below w.heap.size wr w2 → Hid (out ++ [s[k]] ++ escG 0 (s.data.toList.drop (k + 1)) = ANS) := fun _ _ _ _ => Lib.hid (by
          rw [← hacc.out, HD.out, HE.out, List.append_assoc]; rfl)
        have HR := Lib.hid hrel2
        clear hrel2 hacc
        by_cases h61 : s[k].toNat = 61
        · have hc61 : s[k] = 61 := UInt8.toNat_inj.1 h61
          rw [hc61] at HR
          by_cases h2 : k + 2 < s.size
          · have hd1 := drop_cons s (k + 1) (by omega)
            have hd2 := drop_cons s (k + 1 + 1) (by omega)
            have hnot : ¬ (hx s[k + 1].toNat < 16 ∧ hx s[k + 1 + 1].toNat < 16) := by
              intro hb2
              rw [hd1, hd2] at hh
              have : escHead (s[k] :: s[k + 1] :: s[k + 1 + 1] :: s.data.toList.drop (k + 1 + 1 + 1)) = some (UInt8.ofNat (16 * hx s[k + 1].toNat + hx s[k + 1 + 1].toNat)) := by
                show (if _ then _ else _) = _
                rw [if_pos ⟨hc61, hb2⟩]
              rw [this] at hh
              cases hh
            have hu1 := fun W => unhexD_any s[k + 1].toNat s[k + 1].toNat_lt W
            have hu2 := fun W => unhexD_any s[k + 1 + 1].toNat s[k + 1 + 1].toNat_lt W
            have hr2 := fun W => run_index_str s ((k : Int) + 2) (k + 1 + 1) (by omega) (by omega) W
            have hab : hxI s[k + 1].toNat < 0 ∨ (0 ≤ hxI s[k + 1].toNat ∧ hxI s[k + 1 + 1].toNat < 0) := by
              unfold hxI
              by_cases e1 : hx s[k + 1].toNat < 16
              · by_cases e2 : hx s[k + 1 + 1].toNat < 16
                · exact absurd ⟨e1, e2⟩ hnot
                · rw [if_pos e1, if_neg e2]; omega
              · rw [if_neg e1]; omega
            have HU1 := Lib.hid hu1
            have HU2 := Lib.hid hu2
            clear hd1 hd2 hnot hu1 hu2 hc61 hh hd
            generalize hxI s[k + 1].toNat = p at *
            generalize hxI s[k + 1 + 1].toNat = q at *
            rcases hab with hab | ⟨ha0, hab⟩
            · go_wp2_with (first
                | (go_at_call 53; with_reducible refine (HU1.out _).mono ?_; rintro e w' ⟨rfl, rfl⟩)
                | (go_at_call 53; with_reducible refine (HU2.out _).mono ?_; rintro e w' ⟨rfl, rfl⟩)
                | (at_builtin; refine app_law rfl _ _ rfl w.heap.size out [61] 1 hown.out rfl rfl rfl (by omega) hsz ?_; intro v' w2 hown2 hb2))
              go_roundw
              case rel => exact ⟨k + 1, out ++ [61], by omega, by go_num, Lib.hid hown2, hb.trans hb2, HR.out _ _ hown2 hb2, by simp only [List.length_append, List.length_cons, List.length_nil]; omega⟩
              case measure => simp [intOf]; omega
            · go_wp2_with (first
                | (go_at_call 53; with_reducible refine (HU1.out _).mono ?_; rintro e w' ⟨rfl, rfl⟩)
                | (go_at_call 53; with_reducible refine (HU2.out _).mono ?_; rintro e w' ⟨rfl, rfl⟩)
                | (at_builtin; refine app_law rfl _ _ rfl w.heap.size out [61] 1 hown.out rfl rfl rfl (by omega) hsz ?_; intro v' w2 hown2 hb2))
              go_roundw
              case rel => exact ⟨k + 1, out ++ [61], by omega, by go_num, Lib.hid hown2, hb.trans hb2, HR.out _ _ hown2 hb2, by simp only [List.length_append, List.length_cons, List.length_nil]; omega⟩
              case measure => simp [intOf]; omega
          · clear hh hd hc61
            go_wp2_with (at_builtin; refine app_law rfl _ _ rfl w.heap.size out [61] 1 hown.out rfl rfl rfl (by omega) hsz ?_; intro v' w2 hown2 hb2)
            go_roundw
            case rel => exact ⟨k + 1, out ++ [61], by omega, by go_num, Lib.hid hown2, hb.trans hb2, HR.out _ _ hown2 hb2, by simp only [List.length_append, List.length_cons, List.length_nil]; omega⟩
            case measure => simp [intOf]; omega
        · have e1 : ((s[k].toNat : Int) == 61) = false := by rw [beq_eq_false_iff_ne]; omega
          clear hh hd
          go_wp2_with (at_builtin; refine app_law rfl _ _ rfl w.heap.size out [s[k]] 1 hown.out rfl rfl rfl (by omega) hsz ?_; intro v' w2 hown2 hb2)
          go_roundw
          case rel => exact ⟨k + 1, out ++ [s[k]], by omega, by go_num, Lib.hid hown2, hb.trans hb2, HR.out _ _ hown2 hb2, by simp only [List.length_append, List.length_cons, List.length_nil]; omega⟩
          case measure => simp [intOf]; omega
    · have hend : out = ANS := by
        rw [← hacc.out, List.drop_eq_nil_of_le (by rw [← size_list]; omega)]
        simp [escG]
      subst hend
      have hcv := hown.out.conv
      clear hacc
      go_wp2_with fail
      go_ret
      exact ⟨rfl, hb⟩
end Go.Proofs.YtblbajhjmdcdiaaDoor
