/- CRC-32C as a function of natural numbers: linear, one to one in the register, and what a burst of bits does to it; of no program. -/
import GoSem.Claim
import Derived.KernelRfl
namespace Go.Proofs.YtddcephegpmbbaaDoor

/-- One bit. -/
def crcStep (c : Nat) : Nat := if c % 2 = 1 then (c / 2) ^^^ 2197175160 else c / 2
def crcSteps : Nat → Nat → Nat
  | 0, c => c
  | k + 1, c => crcSteps k (crcStep c)
/-- One byte. -/
def crcByte (c b : Nat) : Nat := crcSteps 8 (c ^^^ b)
def crcFold (c : Nat) : List Nat → Nat
  | [] => c
  | b :: l => crcFold (crcByte c b) l
def crcL (l : List Nat) : Nat := crcFold 4294967295 l ^^^ 4294967295

theorem xor_half (a b : Nat) : (a ^^^ b) / 2 = a / 2 ^^^ b / 2 := by
  apply Nat.eq_of_testBit_eq
  intro i
  simp [Nat.testBit_div_two, Nat.testBit_xor]
theorem xor_odd (a b : Nat) : (a ^^^ b) % 2 = (a % 2 + b % 2) % 2 := by
  have h := Nat.testBit_xor a b 0
  simp only [Nat.testBit_zero] at h
  rcases Nat.mod_two_eq_zero_or_one a with ha | ha <;> rcases Nat.mod_two_eq_zero_or_one b with hb | hb <;> rcases Nat.mod_two_eq_zero_or_one (a ^^^ b) with hc | hc <;> simp [ha, hb, hc] at h ⊢
theorem xor_swap4 (a b c d : Nat) : (a ^^^ b) ^^^ (c ^^^ d) = (a ^^^ c) ^^^ (b ^^^ d) := by
  rw [Nat.xor_assoc, ← Nat.xor_assoc b c d, Nat.xor_comm b c, Nat.xor_assoc c b d, ← Nat.xor_assoc]
theorem step_xor (a b : Nat) : crcStep (a ^^^ b) = crcStep a ^^^ crcStep b := by
  unfold crcStep
  rw [xor_half, xor_odd]
  rcases Nat.mod_two_eq_zero_or_one a with ha | ha <;> rcases Nat.mod_two_eq_zero_or_one b with hb | hb <;> simp only [ha, hb]
  · rfl
  · show (a / 2 ^^^ b / 2) ^^^ _ = a / 2 ^^^ (b / 2 ^^^ _)
    rw [Nat.xor_assoc]
  · show (a / 2 ^^^ b / 2) ^^^ _ = (a / 2 ^^^ _) ^^^ b / 2
    rw [Nat.xor_assoc, Nat.xor_comm (b / 2), ← Nat.xor_assoc]
  · show a / 2 ^^^ b / 2 = (a / 2 ^^^ _) ^^^ (b / 2 ^^^ _)
    rw [xor_swap4, Nat.xor_self, Nat.xor_zero]
theorem step_zero : crcStep 0 = 0 := rfl
theorem step_two (m : Nat) : crcStep (m * 2) = m := by
  unfold crcStep
  rw [if_neg (by omega)]; omega
theorem step_lt {c : Nat} (h : c < 4294967296) : crcStep c < 4294967296 := by
  unfold crcStep
  split
  · exact Nat.xor_lt_two_pow (n := 32) (by show _ < 4294967296; omega) (by decide)
  · omega
theorem step_eq_zero {c : Nat} (h : c < 4294967296) (hz : crcStep c = 0) : c = 0 := by
  unfold crcStep at hz
  split at hz
  · have h2 : c / 2 = 2197175160 := by
      have h3 := congrArg (· ^^^ 2197175160) hz
      simp only [Nat.xor_assoc, Nat.xor_self, Nat.xor_zero, Nat.zero_xor] at h3
      exact h3
    omega
  · omega
theorem steps_xor (k : Nat) : ∀ a b, crcSteps k (a ^^^ b) = crcSteps k a ^^^ crcSteps k b := by
  induction k with
  | zero => intro a b; rfl
  | succ k ih => intro a b; rw [crcSteps, step_xor, ih]; rfl
theorem steps_zero (k : Nat) : crcSteps k 0 = 0 := by
  induction k with
  | zero => rfl
  | succ k ih => rw [crcSteps, step_zero, ih]
theorem steps_lt (k : Nat) : ∀ c, c < 4294967296 → crcSteps k c < 4294967296 := by
  induction k with
  | zero => intro c h; exact h
  | succ k ih => intro c h; exact ih _ (step_lt h)
theorem steps_eq_zero (k : Nat) : ∀ c, c < 4294967296 → crcSteps k c = 0 → c = 0 := by
  induction k with
  | zero => intro c _ h; exact h
  | succ k ih => intro c h hz; exact step_eq_zero h (ih _ (step_lt h) hz)
theorem steps_add (a : Nat) : ∀ b c, crcSteps (a + b) c = crcSteps b (crcSteps a c) := by
  induction a with
  | zero => intro b c; rw [Nat.zero_add]; rfl
  | succ a ih => intro b c; rw [Nat.succ_add, crcSteps, ih]; rfl
theorem steps_shift (k : Nat) : ∀ v, crcSteps k (v * 2 ^ k) = v := by
  induction k with
  | zero => intro v; rw [Nat.pow_zero, Nat.mul_one]; rfl
  | succ k ih => intro v; rw [crcSteps, Nat.pow_succ, ← Nat.mul_assoc, step_two, ih]
theorem xor_lt32 {a b : Nat} (ha : a < 4294967296) (hb : b < 4294967296) : a ^^^ b < 4294967296 := Nat.xor_lt_two_pow (n := 32) ha hb
theorem xor_cancel {a b : Nat} (h : a ^^^ b = 0) : a = b := by
  have h3 := congrArg (· ^^^ b) h
  simp only [Nat.xor_assoc, Nat.xor_self, Nat.xor_zero, Nat.zero_xor] at h3
  exact h3
theorem byte_lt {c b : Nat} (hc : c < 4294967296) (hb : b < 256) : crcByte c b < 4294967296 := by
  unfold crcByte
  exact steps_lt 8 _ (xor_lt32 hc (by omega))
theorem fold_cons (c b : Nat) (l : List Nat) : crcFold c (b :: l) = crcFold (crcByte c b) l := rfl
theorem fold_lt (l : List Nat) : ∀ (c : Nat), c < 4294967296 → (∀ b ∈ l, b < 256) → crcFold c l < 4294967296 := by
  induction l with
  | nil =>
    intro c h hl
    have e : crcFold c [] = c := rfl
    rw [e]
    exact h
  | cons b l ih =>
    intro c h hl
    rw [fold_cons]
    have hb : b < 256 := hl b List.mem_cons_self
    have h2 := byte_lt h hb
    exact ih (crcByte c b) h2 (fun x hx => hl x (List.mem_cons_of_mem _ hx))
theorem fold_append (a : List Nat) : ∀ (b : List Nat) (c : Nat), crcFold c (a ++ b) = crcFold (crcFold c a) b := by
  induction a with
  | nil => intro b c; rfl
  | cons x a ih => intro b c; rw [List.cons_append, fold_cons, fold_cons, ih]
/-- Two registers and two strings of one length: their difference goes its own way. -/
theorem fold_xor : ∀ (a b : List Nat) (c d : Nat), a.length = b.length → crcFold c a ^^^ crcFold d b = crcFold (c ^^^ d) (List.zipWith (· ^^^ ·) a b) := by
  intro a
  induction a with
  | nil => intro b c d h; cases b with
    | nil => rfl
    | cons _ _ => simp at h
  | cons x a ih => intro b c d h; cases b with
    | nil => simp at h
    | cons y b =>
      rw [fold_cons, fold_cons, List.zipWith_cons_cons, fold_cons, ih b _ _ (by simpa using h)]
      unfold crcByte
      rw [← steps_xor, xor_swap4]
theorem fold_inj : ∀ (l : List Nat) (c d : Nat), c < 4294967296 → d < 4294967296 → (∀ b ∈ l, b < 256) → crcFold c l = crcFold d l → c = d := by
  intro l
  induction l with
  | nil => intro c d _ _ _ h; exact h
  | cons b l ih =>
    intro c d hc hd hl h
    have hb := hl b List.mem_cons_self
    rw [fold_cons, fold_cons] at h
    have h1 := ih _ _ (byte_lt hc hb) (byte_lt hd hb) (fun x hx => hl x (List.mem_cons_of_mem _ hx)) h
    unfold crcByte at h1
    have h2 : crcSteps 8 ((c ^^^ b) ^^^ (d ^^^ b)) = 0 := by rw [steps_xor, h1, Nat.xor_self]
    rw [xor_swap4, Nat.xor_self, Nat.xor_zero] at h2
    exact xor_cancel (steps_eq_zero 8 _ (xor_lt32 hc hd) h2)
theorem crcL_eq (a b : List Nat) : crcL a = crcL b ↔ crcFold 4294967295 a = crcFold 4294967295 b := by
  unfold crcL
  constructor
  · intro h
    have h3 := congrArg (· ^^^ 4294967295) h
    simp only [Nat.xor_assoc, Nat.xor_self, Nat.xor_zero] at h3
    exact h3
  · intro h; rw [h]
/-- Equal sums stay equal behind the same bytes, and only they. -/
theorem crc_goes (a b t : List Nat) (ha : ∀ x ∈ a, x < 256) (hb : ∀ x ∈ b, x < 256) (ht : ∀ x ∈ t, x < 256) : crcL a = crcL b ↔ crcL (a ++ t) = crcL (b ++ t) := by
  rw [crcL_eq, crcL_eq, fold_append, fold_append]
  constructor
  · intro h; rw [h]
  · exact fold_inj t _ _ (fold_lt a _ (by decide) ha) (fold_lt b _ (by decide) hb) ht
/-- Byte number i of x. -/
def byteN (x i : Nat) : Nat := x / 2 ^ (8 * i) % 256
theorem mod_xor_div (x k : Nat) : x = (x % 2 ^ k) ^^^ (x / 2 ^ k * 2 ^ k) := by
  rw [Nat.xor_comm]
  apply Nat.eq_of_testBit_eq
  intro i
  rw [Nat.testBit_xor, Nat.testBit_mul_two_pow, Nat.testBit_mod_two_pow, Nat.testBit_div_two_pow]
  by_cases h : i < k
  · have h2 : ¬ k ≤ i := by omega
    simp [h, h2]
  · have : k ≤ i := by omega
    simp [h, this, Nat.sub_add_cancel this]
/-- The first byte in, then k bits more. -/
theorem low_first (v k : Nat) : crcSteps k v = crcSteps k (v % 2 ^ k) ^^^ v / 2 ^ k := by
  conv => lhs; rw [mod_xor_div v k]
  rw [steps_xor, steps_shift]
theorem xor_zero' (a : Nat) : 0 ^^^ a = a := Nat.zero_xor a
/-- Bytes from an empty register: the low bits go their steps, what is above them waits. -/
theorem byte_more (w b : Nat) (n : Nat) : crcByte (crcSteps n w) b = crcSteps (n + 8) (w ^^^ b * 2 ^ n) := by
  unfold crcByte
  rw [steps_add, steps_xor n w, steps_shift]
theorem five_bytes (x : Nat) : crcFold 0 [byteN x 0, byteN x 1, byteN x 2, byteN x 3, byteN x 4] = crcSteps 40 (byteN x 0 ^^^ byteN x 1 * 2 ^ 8 ^^^ byteN x 2 * 2 ^ 16 ^^^ byteN x 3 * 2 ^ 24 ^^^ byteN x 4 * 2 ^ 32) := by
  have h0 : crcByte 0 (byteN x 0) = crcSteps 8 (byteN x 0) := by unfold crcByte; rw [Nat.zero_xor]
  show crcByte (crcByte (crcByte (crcByte (crcByte 0 (byteN x 0)) (byteN x 1)) (byteN x 2)) (byteN x 3)) (byteN x 4) = _
  rw [h0, byte_more, byte_more, byte_more, byte_more]
theorem bytes_join (x k : Nat) : x % 2 ^ (8 * k) ^^^ byteN x k * 2 ^ (8 * k) = x % 2 ^ (8 * (k + 1)) := by
  apply Nat.eq_of_testBit_eq
  intro i
  unfold byteN
  rw [show (256 : Nat) = 2 ^ 8 from rfl, Nat.testBit_xor, Nat.testBit_mul_two_pow, Nat.testBit_mod_two_pow, Nat.testBit_mod_two_pow, Nat.testBit_mod_two_pow, Nat.testBit_div_two_pow]
  by_cases h : i < 8 * k
  · have h2 : ¬ 8 * k ≤ i := by omega
    have h3 : i < 8 * (k + 1) := by omega
    simp [h, h2, h3]
  · have h2 : 8 * k ≤ i := by omega
    by_cases h3 : i < 8 * (k + 1)
    · have h4 : i - 8 * k < 8 := by omega
      simp [h, h2, h3, h4, Nat.sub_add_cancel h2]
    · have h4 : ¬ i - 8 * k < 8 := by omega
      simp [h, h2, h3, h4]
theorem five_all (x : Nat) (h : x < 1099511627776) : crcFold 0 [byteN x 0, byteN x 1, byteN x 2, byteN x 3, byteN x 4] = crcSteps 40 x := by
  rw [five_bytes]
  have e0 : byteN x 0 = x % 2 ^ (8 * 1) := by unfold byteN; simp
  have e1 := bytes_join x 1
  have e2 := bytes_join x 2
  have e3 := bytes_join x 3
  have e4 := bytes_join x 4
  simp only [Nat.reduceMul, Nat.reduceAdd] at e0 e1 e2 e3 e4
  rw [e0, e1, e2, e3, e4, Nat.mod_eq_of_lt h]
/-- A burst of at most 32 bits, wherever it begins in the first byte, is seen. -/
theorem burst_ne (x s : Nat) (h0 : x ≠ 0) (hx : x < 4294967296) (hs : s ≤ 8) : crcFold 0 [byteN (x * 2 ^ s) 0, byteN (x * 2 ^ s) 1, byteN (x * 2 ^ s) 2, byteN (x * 2 ^ s) 3, byteN (x * 2 ^ s) 4] ≠ 0 := by
  have hlt : x * 2 ^ s < 1099511627776 := by
    have h1 : 2 ^ s ≤ 2 ^ 8 := Nat.pow_le_pow_right (by decide) hs
    have h2 : x * 2 ^ s ≤ x * 2 ^ 8 := Nat.mul_le_mul_left _ h1
    omega
  rw [five_all _ hlt, show 40 = s + (40 - s) by omega, steps_add, steps_shift]
  exact fun h => h0 (steps_eq_zero _ _ hx h)
/-- Changing a burst within five bytes changes the sum. -/
theorem crc_burst (a b five : List Nat) (x s : Nat) (ha : ∀ y ∈ a, y < 256) (hb : ∀ y ∈ b, y < 256) (h5 : ∀ y ∈ five, y < 256) (hl : five.length = 5) (h0 : x ≠ 0) (hx : x < 4294967296) (hs : s ≤ 8) :
    crcL (a ++ five ++ b) ≠ crcL (a ++ List.zipWith (· ^^^ ·) five [byteN (x * 2 ^ s) 0, byteN (x * 2 ^ s) 1, byteN (x * 2 ^ s) 2, byteN (x * 2 ^ s) 3, byteN (x * 2 ^ s) 4] ++ b) := by
  have hbyte : ∀ i, byteN (x * 2 ^ s) i < 256 := fun i => Nat.mod_lt _ (by decide)
  intro h
  rw [crcL_eq, fold_append, fold_append, fold_append, fold_append] at h
  match five, hl with
  | [f0, f1, f2, f3, f4], _ =>
    simp only [List.zipWith_cons_cons, List.zipWith_nil_left] at h
    have hA := fold_lt a 4294967295 (by decide) ha
    have hq : ∀ y ∈ [f0 ^^^ byteN (x * 2 ^ s) 0, f1 ^^^ byteN (x * 2 ^ s) 1, f2 ^^^ byteN (x * 2 ^ s) 2, f3 ^^^ byteN (x * 2 ^ s) 3, f4 ^^^ byteN (x * 2 ^ s) 4], y < 256 := by
      have hf : ∀ (u v : Nat), u < 256 → v < 256 → u ^^^ v < 256 := fun u v hu hv => Nat.xor_lt_two_pow (n := 8) hu hv
      intro y hy
      simp only [List.mem_cons, List.not_mem_nil, or_false] at hy
      rcases hy with rfl | rfl | rfl | rfl | rfl
      · exact hf _ _ (h5 f0 (by simp)) (hbyte _)
      · exact hf _ _ (h5 f1 (by simp)) (hbyte _)
      · exact hf _ _ (h5 f2 (by simp)) (hbyte _)
      · exact hf _ _ (h5 f3 (by simp)) (hbyte _)
      · exact hf _ _ (h5 f4 (by simp)) (hbyte _)
    have h1 := fold_inj b _ _ (fold_lt _ _ hA h5) (fold_lt _ _ hA hq) hb h
    have h2 := fold_xor [f0, f1, f2, f3, f4] [f0 ^^^ byteN (x * 2 ^ s) 0, f1 ^^^ byteN (x * 2 ^ s) 1, f2 ^^^ byteN (x * 2 ^ s) 2, f3 ^^^ byteN (x * 2 ^ s) 3, f4 ^^^ byteN (x * 2 ^ s) 4] (crcFold 4294967295 a) (crcFold 4294967295 a) rfl
    rw [h1, Nat.xor_self, Nat.xor_self] at h2
    simp only [List.zipWith_cons_cons, List.zipWith_nil_left, ← Nat.xor_assoc, Nat.xor_self, Nat.zero_xor] at h2
    exact burst_ne x s h0 hx hs h2.symm
end Go.Proofs.YtddcephegpmbbaaDoor
