/- The canonical decimal form: num.canonical, by a range over a string. -/
import Derived.Test.YtnmdljadnlddeaaGreatDoorBase
import Derived.Laws.RangeString
namespace Go.Proofs.YtnmdljadnlddeaaGreatDoor
open Go.ChangeShapes Go.WideShapes Go.ChangeAt Go.RowKit

def isDig (c : UInt8) : Bool := decide (48 ≤ c.toNat ∧ c.toNat ≤ 57)
/-- Is l the canonical decimal form of an integer of any size? -/
def canL (l : List UInt8) : Bool :=
  let d := Lib.trimPrefix l [45]
  if d = [] then false else if d.head? = some 48 then decide (l = [48]) else d.all isDig

theorem run_next_any {P : Program} (w : World) (s : ByteArray) (pos : Nat) (ty : TypeId) (h : pos < s.size) :
    (Instr.next (.pointer (some ⟨w.heap.size, 0, none⟩)) true ty).run P (w.iter s pos) =
      .ok (.tuple #[.bool true, .int .i64 pos, .int .i32 ((Utf8.decode s pos).1 : Int)]) (w.iter s (pos + (Utf8.decode s pos).2)) := by
  simp only [Instr.next, getObj, setObj, Sem.run_bind, Sem.run, World.iter_heap, Result.andThen, h, if_true, World.iter_set]
  simp [goInt]

theorem decode_big (s : ByteArray) (pos : Nat) (h : pos < s.size) (ha : ¬ (s[pos]'h).toNat < 128) : 128 ≤ (Utf8.decode s pos).1 := by
  have e : s.get! (pos + 0) = s[pos]'h := by
    show s.get! pos = _
    simp [ByteArray.get!, getElem!_pos, h]
    rfl
  simp only [Utf8.decode, e, ha, if_false]
  (repeat' split) <;> first | (simp only [Utf8.runeError]; omega) | (dsimp only; omega) | (rename_i h1; simp only [Bool.and_eq_true, decide_eq_true_eq] at h1; dsimp only; omega)

/-- Where an iterator stands. -/
def iterPos (w : World) (b : Nat) : Nat := match w.heap[b]? with | some (.stringIter _ p) => p | _ => 0
theorem iterPos_iter (w : World) (s : ByteArray) (p : Nat) : iterPos (w.iter s p) w.heap.size = p := by
  unfold iterPos; rw [World.iter_heap]
theorem below_iter (w : World) (s : ByteArray) (p : Nat) : Below w.heap.size w (w.iter s p) := (Below.refl _ _).alloc (Nat.le_refl _) _
theorem mem_byte (s : ByteArray) (k : Nat) (h : k < s.size) : s[k] ∈ s.data.toList := by
  have := List.getElem_mem (l := s.data.toList) (n := k) (by simpa using h)
  exact this

theorem NH {d : ByteArray} (hpos : 0 < d.size) (hh : d.data.toList.head? = some d[0]) (h : ¬ d[0].toNat = 48) : ¬ d.data.toList.head? = some 48 := by
  rw [hh]; intro e; injection e with e; rw [e] at h; exact h rfl
theorem all_false {d : ByteArray} {p : Nat} (h : p < d.size) (hb : isDig d[p] = false) : d.data.toList.all isDig = false := by
  rw [Bool.eq_false_iff]
  intro hh
  have := List.all_eq_true.1 hh _ (mem_byte d p h)
  rw [hb] at this; cases this
theorem all_true {d : ByteArray} (hb : ∀ k (_ : k < d.size) (h : k < d.size), isDig d[k] = true) : d.data.toList.all isDig = true := by
  rw [List.all_eq_true]
  intro x hx
  obtain ⟨k, hk, rfl⟩ := List.getElem_of_mem hx
  have hk' : k < d.size := by rw [Array.length_toList] at hk; exact hk
  exact hb k hk' hk'

theorem canonical_any (s : ByteArray) (_hs : s.size ≤ 1000) (w : World) :
    Calls Tryz.prog 71 #[.string s] w fun e w' => e = .returned (.bool (canL s.data.toList)) ∧ Below w.heap.size w w' := by
  obtain ⟨d, hd⟩ : ∃ d : ByteArray, d = ⟨(Lib.trimPrefix s.data.toList [45]).toArray⟩ := ⟨_, rfl⟩
  have hT := Tryz.strings_TrimPrefix s ⟨#[45]⟩ w
  rw [show ((⟨#[45]⟩ : ByteArray).data.toList) = [45] from rfl, ← hd] at hT
  have HT := Lib.hid hT
  have HD := Lib.hid hd
  clear hT hd
  have hcan : canL s.data.toList = if d.data.toList = [] then false else if d.data.toList.head? = some 48 then decide (s.data.toList = [48]) else d.data.toList.all isDig := by
    rw [HD.out]; rfl
  have HC := Lib.hid hcan
  clear hcan
  by_cases h0 : d.size = 0
  · have e0 : d.data.toList = [] := List.eq_nil_of_length_eq_zero (by rw [Array.length_toList]; exact h0)
    have e1 : d.toList.isEmpty = true := by rw [ByteArray.toList_eq, e0]; rfl
    have HE := Lib.hid e0
    clear e0 h0
    go_enter Tryz.func71, Tryz.ntmps71
    go_wp2_with (go_at_call 87; refine HT.out.mono ?_; rintro e w1 ⟨rfl, rfl⟩)
    go_ret
    exact ⟨by rw [HC.out, if_pos HE.out]; rfl, Below.refl _ _⟩
  · have hpos : 0 < d.size := by omega
    have hne : d.data.toList ≠ [] := List.ne_nil_of_length_pos (by rw [Array.length_toList]; exact hpos)
    have e1 : d.toList.isEmpty = false := by rw [ByteArray.toList_eq, List.isEmpty_eq_false_iff]; exact hne
    have hhd : d.data.toList.head? = some d[0] := by
      rw [List.head?_eq_getElem?, List.getElem?_eq_getElem (by rw [Array.length_toList]; exact hpos)]; rfl
    have HN := Lib.hid hne
    have HH := Lib.hid hhd
    clear hne hhd
    by_cases h48 : d[0].toNat = 48
    · have e2 : ((d[0].toNat : Int) == 48) = true := beq_iff_eq.2 (by omega)
      have H48 := Lib.hid h48
      clear h48
      go_enter Tryz.func71, Tryz.ntmps71
      go_wp2_with (go_at_call 87; refine HT.out.mono ?_; rintro e w1 ⟨rfl, rfl⟩)
      go_ret
      refine ⟨?_, Below.refl _ _⟩
      rw [HC.out, if_neg HN.out, if_pos (by rw [HH.out]; congr 1; exact UInt8.toNat_inj.1 H48.out)]
      refine congrArg (fun b => Ending.returned (.bool b)) ?_
      show (s.toList == [48]) = _
      rw [ByteArray.toList_eq, Bool.eq_iff_iff]; simp
    · have e2 : ((d[0].toNat : Int) == 48) = false := beq_eq_false_iff_ne.2 (by omega)
      have H48 := Lib.hid h48
      clear h48
      go_enter Tryz.func71, Tryz.ntmps71
      go_wp2_with (go_at_call 87; refine HT.out.mono ?_; rintro e w1 ⟨rfl, rfl⟩)
      go_loopw [5] (fun c wr => ∃ p : Nat, p ≤ d.size ∧ wr = w1.iter d p ∧ Hid (∀ k (hk : k < p) (h : k < d.size), isDig d[k] = true)) (fun c wr => d.size - iterPos wr w1.heap.size)
      case atStart => exact ⟨0, Nat.zero_le _, rfl, fun k hk => by omega⟩
      case round =>
        obtain ⟨p, hp, rfl, hall⟩ := hrel
        by_cases hlt : p < d.size
        · by_cases h128 : d[p].toNat < 128
          · have hnx := fun ty => run_next_ascii (P := Tryz.prog) w1 d p ty hlt h128
            by_cases hdig : 48 ≤ (d[p].toNat : Int) ∧ (d[p].toNat : Int) ≤ 57
            · obtain ⟨ha, hb⟩ := hdig
              go_wp2_with fail
              refine ⟨⟨p + 1, by omega, rfl, ?_⟩, by rw [iterPos_iter, iterPos_iter]; omega⟩
              intro k hk h
              by_cases he : k = p
              · subst he; simp only [isDig, decide_eq_true_eq]; omega
              · exact hall.out k (by omega) h
            · have hbad : isDig d[p] = false := by simp only [isDig, decide_eq_false_iff_not]; omega
              have HB := Lib.hid (all_false hlt hbad)
              clear hbad
              rcases (show (d[p].toNat : Int) < 48 ∨ (48 ≤ (d[p].toNat : Int) ∧ 57 < (d[p].toNat : Int)) by omega) with hx | ⟨hx, hy⟩
              all_goals
                go_wp2_with fail
                go_ret
                exact ⟨by rw [HC.out, if_neg HN.out, if_neg (NH hpos HH.out H48.out), HB.out]; rfl, below_iter _ _ _⟩
          · have hnx := fun ty => run_next_any (P := Tryz.prog) w1 d p ty hlt
            have h57 : 57 < ((Utf8.decode d p).1 : Int) := by have := decode_big d p hlt h128; omega
            have HB := Lib.hid (all_false hlt (by simp only [isDig, decide_eq_false_iff_not]; omega))
            go_wp2_with fail
            go_ret
            exact ⟨by rw [HC.out, if_neg HN.out, if_neg (NH hpos HH.out H48.out), HB.out]; rfl, below_iter _ _ _⟩
        · have hnx := fun ty => run_next_end (P := Tryz.prog) w1 d p ty hlt
          have HB := Lib.hid (all_true (d := d) (fun k _ h => hall.out k (by omega) h))
          go_wp2_with fail
          go_ret
          exact ⟨by rw [HC.out, if_neg HN.out, if_neg (NH hpos HH.out H48.out), HB.out]; rfl, below_iter _ _ _⟩
end Go.Proofs.YtnmdljadnlddeaaGreatDoor
