/- What Hex writes Unhex reads. -/
import Derived.Test.YtblbajhjmdcdiaaDoorUnhex
namespace Go.Proofs.YtblbajhjmdcdiaaDoor
open Go

theorem dig_hexD : ∀ n : Fin 16, dig (hexD n.val).toNat = n.val := by decide
theorem hexL_cons (c : UInt8) (l : List UInt8) : hexL (c :: l) = hexD (c.toNat / 16) :: hexD (c.toNat % 16) :: hexL l := rfl
theorem hexL_at (l : List UInt8) : ∀ t, (h : t < l.length) → (hexL l).getD (2 * t) 0 = hexD (l[t].toNat / 16) ∧ (hexL l).getD (2 * t + 1) 0 = hexD (l[t].toNat % 16) := by
  induction l with
  | nil => intro t h; exact absurd h (by simp)
  | cons c l ih =>
    intro t h
    rw [hexL_cons]
    cases t with
    | zero => exact ⟨rfl, rfl⟩
    | succ t =>
      have := ih t (by simpa using h)
      rw [show 2 * (t + 1) = 2 * t + 1 + 1 by omega]
      exact this
theorem byteAt_hexL (l : List UInt8) (t : Nat) (h : t < l.length) : byteAt (hexL l) t = l[t] := by
  obtain ⟨e1, e2⟩ := hexL_at l t h
  have hc := l[t].toNat_lt
  have d1 : dig (hexD (l[t].toNat / 16)).toNat = l[t].toNat / 16 := dig_hexD ⟨l[t].toNat / 16, by omega⟩
  have d2 : dig (hexD (l[t].toNat % 16)).toNat = l[t].toNat % 16 := dig_hexD ⟨l[t].toNat % 16, by omega⟩
  unfold byteAt
  rw [e1, e2, d1, d2, show 16 * (l[t].toNat / 16) + l[t].toNat % 16 = l[t].toNat by omega, UInt8.ofNat_toNat]
theorem digs_hexL (l : List UInt8) : digsTo (hexL l) (hexL l).length := by
  intro t ht
  rw [hexL_length] at ht
  obtain ⟨e1, e2⟩ := hexL_at l (t / 2) (by omega)
  have hc := l[t / 2].toNat_lt
  have d1 : dig (hexD (l[t / 2].toNat / 16)).toNat = l[t / 2].toNat / 16 := dig_hexD ⟨l[t / 2].toNat / 16, by omega⟩
  have d2 : dig (hexD (l[t / 2].toNat % 16)).toNat = l[t / 2].toNat % 16 := dig_hexD ⟨l[t / 2].toNat % 16, by omega⟩
  rcases (show t = 2 * (t / 2) ∨ t = 2 * (t / 2) + 1 by omega) with h | h
  · rw [h, e1, d1]; omega
  · rw [h, e2, d2]; omega
theorem unhexOk_hexL (l : List UInt8) : unhexOk (hexL l) = true := unhexOk_all (by rw [hexL_length]; omega) (digs_hexL l)
theorem unhexS_hexL (l : List UInt8) : unhexS (hexL l) = l := by
  rw [unhexS, if_pos (unhexOk_hexL l), hexL_length, show 2 * l.length / 2 = l.length by omega]
  unfold bytesTo
  refine List.ext_getElem (by simp) fun t h1 h2 => ?_
  rw [List.getElem_map, List.getElem_range]
  exact byteAt_hexL l t h2
theorem unhexS_length {l : List UInt8} (h : unhexOk l = true) : 2 * (unhexS l).length = l.length := by
  have h2 : l.length % 2 = 0 := by
    simp only [unhexOk, Bool.and_eq_true, decide_eq_true_eq] at h; exact h.1
  rw [unhexS, if_pos h, bytesTo_length]; omega
theorem unhexS_no {l : List UInt8} (h : unhexOk l = false) : unhexS l = [] := by simp [unhexS, h]
end Go.Proofs.YtblbajhjmdcdiaaDoor
