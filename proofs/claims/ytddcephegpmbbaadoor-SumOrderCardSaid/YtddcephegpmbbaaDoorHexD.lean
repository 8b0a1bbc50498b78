/- Hex, Read and Less of package sum. -/
import Derived.Test.YtddcephegpmbbaaDoorSha
import Derived.Test.YtddcephegpmbbaaDoorHexFacts
import Derived.Lib.BufferWrite
import Derived.Deep.DeepCutAuto
namespace Go.Proofs.YtddcephegpmbbaaDoor
open Go.ChangeShapes Go.WideShapes Go.ChangeAt Go.RowKit

theorem run_copy_str (w : World) (s : ByteArray) (g : Nat) (cur : Array Value) (t ty : TypeId) (hg : w.heap[g]? = some (.cells cur t (0, 0))) (hsz : cur.size = 32) :
    (Builtin.copy_ #[36, 9] ty #[.slice (some ⟨g, 0, none⟩) 32 32, .string s]).run Tryd.prog w =
      .ok (goInt (min s.size 32)) (w.setRow g (cellsOf (s.data.toList.take 32) ++ cur.toList.drop (min s.size 32)).toArray) := by
  have hlen : (cellsOf (s.data.toList.take 32)).length = min s.size 32 := by
    unfold cellsOf
    rw [List.length_map, List.length_take, size_list]; omega
  have hst := run_storeCells_at Tryd.prog g 0 t (cellsOf (s.data.toList.take 32)) 0 cur w hg (by rw [hlen]; omega) (cellsOf_one _)
  have hmin : Nat.min s.size 32 = min s.size 32 := rfl
  have htk : List.take (min s.size 32) (List.map (fun b : UInt8 => Value.int IntKind.u8 (b.toNat : Int)) s.data.toList) = cellsOf (s.data.toList.take 32) := by
    unfold cellsOf
    rw [← List.map_take]
    congr 1
    by_cases h : s.size ≤ 32
    · rw [Nat.min_eq_left h, List.take_of_length_le (by rw [size_list]; exact Nat.le_refl _), List.take_of_length_le (by rw [size_list]; exact h)]
    · rw [Nat.min_eq_right (by omega)]
  rw [hlen] at hst
  simp only [Nat.add_zero, Nat.zero_add, List.take_zero, List.nil_append] at hst
  obtain ⟨i0, hi, hz0, hz1, hz2⟩ := info_parts info5
  simp [Builtin.copy_, run_underlying Tryd.underlying36, Builtin.lenOf, Builtin.firstCells, sizeOf, typeInfo, hi, hmin]
  rw [htk, hst]
  simp [Result.andThen]
  exact congrArg goInt (by omega)
theorem wpList_copy_str {w : World} {ops : Array Oper} {rest : List Oper} {o : Oper} {a : Act} {Q : Exit → Act → World → Prop} (hgd : o.guard = none) (d s : Operand)
    (ho : o.op = .call { callee := .builtin .copy, args := #[d, s], argTypes := #[36, 9] }) (g : Nat) (u : ByteArray) (hd : a.eval d = .slice (some ⟨g, 0, none⟩) 32 32) (hs : a.eval s = .string u)
    (cur : Array Value) (t : TypeId) (hg : w.heap[g]? = some (.cells cur t (0, 0))) (hsz : cur.size = 32)
    (h : wpList Tryd.prog ops Q rest (a.put o.dst (goInt (min u.size 32))) (w.setRow g (cellsOf (u.data.toList.take 32) ++ cur.toList.drop (min u.size 32)).toArray)) : wpList Tryd.prog ops Q (o :: rest) a w := by
  refine wpList_plain hgd fun K hK => ?_
  have hr := run_copy_str w u g cur t o.type hg hsz
  unfold Oper.wp execOp
  simp only [ho, resolve, invoke, builtin, Sem.run_bind, Sem.run_pure, Result.andThen_ok, List.map_toArray, List.map_cons, List.map_nil, hd, hs, hr]
  exact hK _ _ h

theorem cellsOf_len (l : List UInt8) : (cellsOf l).length = l.length := List.length_map _
theorem conv_row {w : World} {g : Nat} {d : List UInt8} {t : TypeId} (hd : d.length = 32) (h : w.heap[g]? = some (.cells (cellsOf d).toArray t (0, 0))) :
    (convert 36 9 (.slice (some ⟨g, 0, none⟩) 32 32)).run Tryd.prog w = .ok (.string ⟨d.toArray⟩) w := by
  rw [← hd]
  refine run_convert_bytes_back w 36 9 5 ⟨g, 0, none⟩ d.length d Tryd.underlying36 Tryd.underlying5 Tryd.underlying9 fun j hj => ?_
  have e : (⟨g, 0, none⟩ : Addr).add j = ⟨g, j, none⟩ := by unfold Addr.add; split <;> simp_all
  rw [e, cell_of_row _ _ _ _ _ _ h, List.getElem?_toArray, cellsOf, List.getElem?_map, List.getElem?_eq_getElem hj]; rfl

theorem hexD_any (d : List UInt8) (hd : d.length = 32) (w : World) :
    Calls Tryd.prog 14 #[.agg (cellsOf d).toArray] w fun e w' => e = .returned (.string ⟨(hexL d).toArray⟩) ∧ Below w.heap.size w w' := by
  have hc := conv_row hd (heap_alloc_new w (.cells (cellsOf d).toArray 23))
  have H := Lib.hid (hex_any ⟨d.toArray⟩ (by show d.toArray.size ≤ _; rw [List.size_toArray]; omega))
  go_enter Tryd.func14, Tryd.ntmps14
  go_wp2_with fail
  refine (H.out _).mono ?_
  rintro e w1 ⟨rfl, hb⟩
  go_wp2_with fail
  go_ret
  exact ⟨rfl, ((Below.refl _ _).alloc (Nat.le_refl _) _).trans (hb.mono (by simp))⟩

theorem toList_inj {a b : ByteArray} (h : a.toList = b.toList) : a = b := by
  rw [ByteArray.toList_eq, ByteArray.toList_eq] at h
  cases a
  cases b
  simpa using h
/-- What Read lays down: the decoded bytes, thirty-two of them. -/
def copyL (u : List UInt8) : List UInt8 := u.take 32 ++ List.replicate (32 - u.length) 0
theorem copy_len (u : List UInt8) : (copyL u).length = 32 := by unfold copyL; simp; omega
def readOk (l : List UInt8) : Bool := unhexOk l && decide (hexL (copyL (unhexS l)) = l)
def readL (l : List UInt8) : List UInt8 := if readOk l = true then copyL (unhexS l) else List.replicate 32 0
theorem read_len (l : List UInt8) : (readL l).length = 32 := by
  unfold readL
  split
  · exact copy_len _
  · simp

theorem zeros_cells : zeros32 = (cellsOf (List.replicate 32 0)).toArray := rfl
theorem copy_cells (u : List UInt8) : (cellsOf (u.take 32) ++ zeros32.toList.drop (min u.length 32)).toArray = (cellsOf (copyL u)).toArray := by
  rw [zeros_cells, List.toList_toArray]
  unfold copyL cellsOf
  rw [List.map_append, ← List.map_drop, List.drop_replicate]
  congr 4
  omega

theorem wpList_copy32 {w : World} {ops : Array Oper} {rest : List Oper} {o : Oper} {a : Act} {Q : Exit → Act → World → Prop} (hgd : o.guard = none) (d s : Operand)
    (ho : o.op = .call { callee := .builtin .copy, args := #[d, s], argTypes := #[36, 9] }) (g : Nat) (u : List UInt8) (hd : a.eval d = .slice (some ⟨g, 0, none⟩) 32 32) (hs : a.eval s = .string ⟨u.toArray⟩)
    (t : TypeId) (hg : w.heap[g]? = some (.cells zeros32 t (0, 0)))
    (h : wpList Tryd.prog ops Q rest (a.put o.dst (goInt (min u.length 32))) (w.setRow g (cellsOf (copyL u)).toArray)) : wpList Tryd.prog ops Q (o :: rest) a w := by
  refine wpList_copy_str hgd d s ho g ⟨u.toArray⟩ hd hs zeros32 t hg rfl ?_
  have e : (cellsOf ((⟨u.toArray⟩ : ByteArray).data.toList.take 32) ++ zeros32.toList.drop (min (⟨u.toArray⟩ : ByteArray).size 32)).toArray = (cellsOf (copyL u)).toArray := copy_cells u
  rw [e]
  exact h
theorem zeros_size : (Tryd.prog.info? 23).map (·.size) = some zeros32.size := by kernel_rfl
theorem results_cell_row2 {P : Program} {fn : Func} {p u : Tmp} {ty : TypeId} (h : fn.results = #[.cell p ty, .tmp u]) (tmps : Array Value) (w : World) (g : Nat) (t : TypeId) (cs : Array Value) (fr : Nat × Nat) (d : TypeDesc) (v : Value)
    (hp : tmps.getD p undef = .pointer (some ⟨g, 0, none⟩)) (hu2 : tmps.getD u undef = v) (hg : w.heap[g]? = some (.cells cs t fr))
    (hu : P.underlying ty = some d) (hd : (match d with | .struct _ | .array _ _ => true | _ => false) = true) (hi : (P.info? ty).map (·.size) = some cs.size) :
    (results fn tmps).run P w = .ok (.tuple #[.agg cs, v]) w := by
  rw [results_cell_tmp h, hp, hu2]
  simp [asAddr, run_loadVar_row w g t ty cs fr d hg hu hd hi, Result.andThen]
theorem wpList_load_want {P : Program} {ops : Array Oper} {rest : List Oper} {o : Oper} {a : Act} {w : World} {Q : Exit → Act → World → Prop} (hw : Region.wanted o (yielded ops a.tmps) = true) (ty : TypeId) (x : Operand) (ho : o.op = .load ty x)
    (g : Nat) (hx : a.eval x = .pointer (some ⟨g, 0, none⟩)) (t : TypeId) (cs : Array Value) (fr : Nat × Nat) (d : TypeDesc) (hg : w.heap[g]? = some (.cells cs t fr))
    (hu : P.underlying ty = some d) (hd : (match d with | .struct _ | .array _ _ => true | _ => false) = true) (hi : (P.info? ty).map (·.size) = some cs.size)
    (h : wpList P ops Q rest (a.put o.dst (.agg cs)) w) : wpList P ops Q (o :: rest) a w :=
  BigFrame.wpList_want hw fun _ hK => wp_load_row ty x ho g hx t cs fr d hg hu hd hi (hK _ _ h)
theorem cells_size {d : List UInt8} (hd : d.length = 32) : (Tryd.prog.info? 23).map (·.size) = some (cellsOf d).toArray.size := by
  rw [List.size_toArray, cellsOf_len, hd]; kernel_rfl
theorem cells_one (d : List UInt8) : (cellsOf d).toArray.all (·.oneCell') = true := by
  rw [Array.all_eq_true_iff_forall_mem]
  intro x hx
  rw [List.mem_toArray] at hx
  exact cellsOf_one d x hx
theorem zeros_one : zeros32.all (·.oneCell') = true := by rw [zeros_cells]; exact cells_one _
theorem same_size (u : List UInt8) : zeros32.size = (cellsOf (copyL u)).toArray.size := by
  show 32 = _
  rw [List.size_toArray, cellsOf_len, copy_len]
/-- Read's memory: what is handed back, and the digest that is filled. -/
structure RdW (W : World) (a d : Array Value) (w : World) : Prop where
  out : w.heap[W.heap.size]? = some (.cells a 23 (0, 0))
  tmp : w.heap[W.heap.size + 1]? = some (.cells d 23 (0, 0))
  bel : Below W.heap.size W w
theorem RdW.start (W w1 : World) (hb : Below ((W.alloc (.cells zeros32 23)).alloc (.cells zeros32 23)).heap.size ((W.alloc (.cells zeros32 23)).alloc (.cells zeros32 23)) w1) : RdW W zeros32 zeros32 w1 := by
  refine ⟨?_, ?_, (((Below.refl _ _).alloc (Nat.le_refl _) _).alloc (by simp) _).trans (hb.mono (by simp; omega))⟩
  · rw [hb.block _ (by simp; omega)]; exact heap_alloc2_old _ _ _
  · rw [hb.block _ (by simp)]; exact heap_alloc2_new _ _ _
theorem RdW.below {W w w' : World} {a d : Array Value} (h : RdW W a d w) (hb : Below w.heap.size w w') : RdW W a d w' := by
  have hlt : W.heap.size + 1 < w.heap.size := (Array.getElem?_eq_some_iff.1 h.tmp).1
  exact ⟨by rw [hb.block _ (by omega)]; exact h.out, by rw [hb.block _ hlt]; exact h.tmp, h.bel.trans (hb.mono h.bel.size)⟩
theorem RdW.setTmp {W w : World} {a d : Array Value} (h : RdW W a d w) (d2 : Array Value) : RdW W a d2 (w.setRow (W.heap.size + 1) d2) :=
  ⟨by rw [setRow_other _ _ _ _ (by omega)]; exact h.out, setRow_heap _ _ _ _ _ _ h.tmp, below_setRow h.bel (by omega) _⟩
theorem RdW.setOut {W w : World} {a d : Array Value} (h : RdW W a d w) (a2 : Array Value) : RdW W a2 d (w.setRow W.heap.size a2) :=
  ⟨setRow_heap _ _ _ _ _ _ h.out, by rw [setRow_other _ _ _ _ (by omega)]; exact h.tmp, below_setRow h.bel (Nat.le_refl _) _⟩

set_option maxHeartbeats 1600000 in
theorem read_any (s : ByteArray) (hs : s.size ≤ 140737488351232) (w : World) :
    Calls Tryd.prog 8 #[.string s] w fun e w' => e = .returned (.tuple #[.agg (cellsOf (readL s.data.toList)).toArray, .bool (readOk s.data.toList)]) ∧ Below w.heap.size w w' := by
  have HU := Lib.hid (unhex_any s hs)
  obtain ⟨u, hu⟩ : ∃ u, unhexS s.data.toList = u := ⟨_, rfl⟩
  obtain ⟨ok, hok⟩ : ∃ ok, unhexOk s.data.toList = ok := ⟨_, rfl⟩
  rw [hu, hok] at HU
  have HE : Hid (unhexS s.data.toList = u ∧ unhexOk s.data.toList = ok) := ⟨hu, hok⟩
  clear hu hok
  go_enter Tryd.func8, Tryd.ntmps8
  go_wp2_with fail
  refine (HU.out _).mono ?_
  rintro e w1 ⟨rfl, hb⟩
  have hR := Lib.hid (RdW.start w w1 hb)
  clear hb
  go_upto_region 4 with (refine wpList_copy32 rfl (.tmp 12) (.tmp 13) rfl (w.heap.size + 1) u rfl rfl 23 hR.out.tmp ?_)
  replace hR := Lib.hid (hR.out.setTmp (cellsOf (copyL u)).toArray)
  obtain ⟨w2, hw2⟩ : ∃ w2, w1.setRow (w.heap.size + 1) (cellsOf (copyL u)).toArray = w2 := ⟨_, rfl⟩
  rw [hw2] at hR
  rw [hw2]
  clear hw2
  have HX := Lib.hid (hexD_any (copyL u) (copy_len u))
  have hnot : ∀ (x : Bool) (w : World), (Op.unary .not (.bool x)).run Tryd.prog w = .ok (.bool (!x)) w := fun _ _ => rfl
  have hsz := Lib.hid (cells_size (copy_len u))
  obtain ⟨hx, hhx⟩ : ∃ hx : ByteArray, ⟨(hexL (copyL u)).toArray⟩ = hx := ⟨_, rfl⟩
  rw [hhx] at HX
  have HH := Lib.hid hhx
  clear hhx
  cases ok with
  | false =>
    have hRd : Hid (readOk s.data.toList = false ∧ readL s.data.toList = List.replicate 32 0) := by
      have h : readOk s.data.toList = false := by unfold readOk; rw [HE.out.2]; rfl
      exact ⟨h, by unfold readL; rw [h]; rfl⟩
    go_wp2_with (first
      | refine wpList_store_row rfl 23 _ _ rfl w.heap.size zeros32 rfl rfl 23 _ hR.out.out zeros_size rfl zeros_one ?_)
    exact bodyPost_ret (results_cell_row2 Tryd.results8 _ _ w.heap.size 23 zeros32 (0, 0) _ (.bool false) rfl rfl (setRow_heap _ _ _ _ _ _ hR.out.out) Tryd.underlying23 rfl zeros_size) rfl ⟨by rw [hRd.out.1, hRd.out.2]; rfl, below_setRow hR.out.bel (Nat.le_refl _) _⟩
  | true =>
    by_cases e : hx = s
    · have hne : (hx.toList == s.toList) = true := by rw [e]; simp
      have hRd : Hid (readOk s.data.toList = true ∧ readL s.data.toList = copyL u) := by
        have h : readOk s.data.toList = true := by
          unfold readOk
          rw [HE.out.2, HE.out.1]
          simp only [Bool.true_and, decide_eq_true_eq]
          have h2 := HH.out
          rw [e] at h2
          rw [← h2]
        exact ⟨h, by unfold readL; rw [h, HE.out.1]; rfl⟩
      clear e
      go_wp2_with (first
        | refine wpList_load_want rfl 23 _ rfl (w.heap.size + 1) rfl 23 _ (0, 0) _ hR.out.tmp Tryd.underlying23 rfl hsz.out ?_)
      refine (HX.out _).mono ?_
      rintro e w3 ⟨rfl, hb3⟩
      have hR3 := Lib.hid (hR.out.below hb3)
      clear hb3
      go_wp2_with (first
        | refine wpList_load_row rfl 23 _ rfl (w.heap.size + 1) rfl 23 _ (0, 0) _ hR3.out.tmp Tryd.underlying23 rfl hsz.out ?_
        | refine wpList_store_row rfl 23 _ _ rfl w.heap.size (cellsOf (copyL u)).toArray rfl rfl 23 _ hR3.out.out hsz.out (same_size u) (cells_one _) ?_)
      exact bodyPost_ret (results_cell_row2 Tryd.results8 _ _ w.heap.size 23 (cellsOf (copyL u)).toArray (0, 0) _ (.bool true) rfl rfl (setRow_heap _ _ _ _ _ _ hR3.out.out) Tryd.underlying23 rfl hsz.out) rfl ⟨by rw [hRd.out.1, hRd.out.2], below_setRow hR3.out.bel (Nat.le_refl _) _⟩
    · have hne : (hx.toList == s.toList) = false := by
        rw [beq_eq_false_iff_ne]
        intro h
        exact e (toList_inj h)
      have hRd : Hid (readOk s.data.toList = false ∧ readL s.data.toList = List.replicate 32 0) := by
        have h : readOk s.data.toList = false := by
          unfold readOk
          rw [HE.out.2, HE.out.1]
          simp only [Bool.true_and, decide_eq_false_iff_not]
          intro h2
          exact e (by rw [← HH.out, h2])
        exact ⟨h, by unfold readL; rw [h]; rfl⟩
      clear e
      go_wp2_with (first
        | refine wpList_load_want rfl 23 _ rfl (w.heap.size + 1) rfl 23 _ (0, 0) _ hR.out.tmp Tryd.underlying23 rfl hsz.out ?_)
      refine (HX.out _).mono ?_
      rintro e w3 ⟨rfl, hb3⟩
      have hR3 := Lib.hid (hR.out.below hb3)
      clear hb3
      go_wp2_with (first
        | refine wpList_store_row rfl 23 _ _ rfl w.heap.size zeros32 rfl rfl 23 _ hR3.out.out zeros_size rfl zeros_one ?_)
      exact bodyPost_ret (results_cell_row2 Tryd.results8 _ _ w.heap.size 23 zeros32 (0, 0) _ (.bool false) rfl rfl (setRow_heap _ _ _ _ _ _ hR3.out.out) Tryd.underlying23 rfl zeros_size) rfl ⟨by rw [hRd.out.1, hRd.out.2]; rfl, below_setRow hR3.out.bel (Nat.le_refl _) _⟩
end Go.Proofs.YtddcephegpmbbaaDoor
