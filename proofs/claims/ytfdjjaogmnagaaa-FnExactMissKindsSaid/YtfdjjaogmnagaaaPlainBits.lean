/- Plain facts on numbers: the sum of a number's bits, that adding bits side by side (pairs, fours, bytes) gives it, and its parity under exclusive or. No program. -/
import Derived.PlainAid
namespace Go.Proofs.Ytfdjjaogmnagaaa.Bt
/-- The sum of the low k bits of n. -/
def pc : Nat → Nat → Nat
  | 0, _ => 0
  | k + 1, n => n % 2 + pc k (n / 2)
theorem pc_stable (k n : Nat) (h : n < 2 ^ k) : pc (k + 1) n = pc k n := by
  induction k generalizing n with
  | zero => simp [pc]; omega
  | succ k ih =>
    have h2 : n / 2 < 2 ^ k := by rw [Nat.pow_succ] at h; omega
    rw [pc, ih _ h2]; rfl
theorem pc_up (k d n : Nat) (h : n < 2 ^ k) : pc (k + d) n = pc k n := by
  induction d with
  | zero => rfl
  | succ d ih => rw [← Nat.add_assoc, pc_stable _ _ (Nat.lt_of_lt_of_le h (Nat.pow_le_pow_right (by omega) (by omega))), ih]
theorem pc_step (n : Nat) (h : n < 2 ^ 32) : pc 32 n = n % 2 + pc 32 (n / 2) := by
  have e : pc 32 (n / 2) = pc 31 (n / 2) := pc_up 31 1 _ (by omega)
  rw [e]; rfl
theorem pc_zero (k : Nat) : pc k 0 = 0 := by
  induction k with
  | zero => rfl
  | succ k ih => simp [pc, ih]
theorem pc_xor (k a b : Nat) : pc k (a ^^^ b) % 2 = (pc k a + pc k b) % 2 := by
  induction k generalizing a b with
  | zero => rfl
  | succ k ih =>
    have h0 : (a ^^^ b) % 2 ^ 1 = a % 2 ^ 1 ^^^ b % 2 ^ 1 := Nat.xor_mod_two_pow
    have h1 : (a ^^^ b) % 2 = (a + b) % 2 := by
      have h4 : (a ^^^ b) % 2 = a % 2 ^^^ b % 2 := h0
      have c00 : (0 ^^^ 0 : Nat) = 0 := rfl
      have c01 : (0 ^^^ 1 : Nat) = 1 := rfl
      have c10 : (1 ^^^ 0 : Nat) = 1 := rfl
      have c11 : (1 ^^^ 1 : Nat) = 0 := rfl
      rcases Nat.mod_two_eq_zero_or_one a with ha | ha <;> rcases Nat.mod_two_eq_zero_or_one b with hb | hb <;> rw [ha, hb] at h4 <;> omega
    have h2 : (a ^^^ b) / 2 = a / 2 ^^^ b / 2 := Nat.xor_div_two
    have h3 := ih (a / 2) (b / 2)
    simp only [pc, h2]
    omega
theorem pc_byte (k l h : Nat) (hl : l < 256) : pc (k + 8) (l + 256 * h) = pc 8 l + pc k h := by
  have e : (l + 256 * h) / 2 / 2 / 2 / 2 / 2 / 2 / 2 / 2 = h := by omega
  simp only [pc, e]
  omega
theorem pc_four (a b c d : Nat) (ha : a < 256) (hb : b < 256) (hc : c < 256) (_hd : d < 256) :
    pc 32 (a + 256 * (b + 256 * (c + 256 * d))) = pc 8 a + pc 8 b + pc 8 c + pc 8 d := by
  rw [show 32 = 24 + 8 from rfl, pc_byte 24 _ _ ha, show 24 = 16 + 8 from rfl, pc_byte 16 _ _ hb, show 16 = 8 + 8 from rfl, pc_byte 8 _ _ hc]
  have e : pc 8 d = pc 8 d := rfl
  omega
theorem and_byte (l h k m : Nat) (hl : l < 256) (hk : k < 256) : (l + 256 * h) &&& (k + 256 * m) = (l &&& k) + 256 * (h &&& m) := by
  have h1 : ((l + 256 * h) &&& (k + 256 * m)) / 2 ^ 8 = (l + 256 * h) / 2 ^ 8 &&& (k + 256 * m) / 2 ^ 8 := Nat.and_div_two_pow
  have h2 : ((l + 256 * h) &&& (k + 256 * m)) % 2 ^ 8 = (l + 256 * h) % 2 ^ 8 &&& (k + 256 * m) % 2 ^ 8 := Nat.and_mod_two_pow
  have e1 : (l + 256 * h) / 2 ^ 8 = h := by omega
  have e2 : (k + 256 * m) / 2 ^ 8 = m := by omega
  have e3 : (l + 256 * h) % 2 ^ 8 = l := by omega
  have e4 : (k + 256 * m) % 2 ^ 8 = k := by omega
  rw [e1, e2] at h1
  rw [e3, e4] at h2
  omega
theorem and_four (a b c d k m : Nat) (ha : a < 256) (hb : b < 256) (hc : c < 256) (hd : d < 256) (hk : k < 256) (_hm : m < 4294967296) :
    (a + 256 * (b + 256 * (c + 256 * d))) &&& (k + 256 * (k + 256 * (k + 256 * (k + 256 * m)))) = (a &&& k) + 256 * ((b &&& k) + 256 * ((c &&& k) + 256 * (d &&& k))) := by
  rw [and_byte _ _ _ _ ha hk, and_byte _ _ _ _ hb hk, and_byte _ _ _ _ hc hk]
  have := and_byte d 0 k m hd hk
  simp only [Nat.mul_zero, Nat.add_zero, Nat.zero_and] at this
  rw [this]
def q1 (l : Nat) : Nat := (l / 2 &&& 85) + (l &&& 85)
def q2 (l : Nat) : Nat := (l / 4 &&& 51) + (l &&& 51)
def q3 (l : Nat) : Nat := (l / 16 + l) &&& 15
theorem f1 : ∀ l, l < 256 → ∀ t, t < 2 → (l / 2 + 128 * t) &&& 85 = l / 2 &&& 85 := by decide +kernel
theorem f2 : ∀ l, l < 256 → ∀ t, t < 4 → (l / 4 + 64 * t) &&& 51 = l / 4 &&& 51 := by decide +kernel
theorem b1 : ∀ l, l < 256 → q1 l < 256 := by decide +kernel
theorem b2 : ∀ l, l < 256 → q2 (q1 l) < 256 ∧ q2 (q1 l) % 16 ≤ 4 ∧ q2 (q1 l) / 16 ≤ 4 := by decide +kernel
theorem f3 : ∀ l, l < 256 → ∀ t, t < 5 → (q2 (q1 l) / 16 + 16 * t + q2 (q1 l)) &&& 15 = q3 (q2 (q1 l)) := by decide +kernel
theorem f4 : ∀ l, l < 256 → q3 (q2 (q1 l)) = pc 8 l := by decide +kernel
theorem f5 : ∀ l, l < 256 → pc 8 l ≤ 8 := by decide +kernel
theorem step1 (a b c d : Nat) (ha : a < 256) (hb : b < 256) (hc : c < 256) (hd : d < 256) :
    ((a + 256 * (b + 256 * (c + 256 * d))) / 2 &&& 6148914691236517205) + ((a + 256 * (b + 256 * (c + 256 * d))) &&& 6148914691236517205) = q1 a + 256 * (q1 b + 256 * (q1 c + 256 * q1 d)) := by
  have e : (a + 256 * (b + 256 * (c + 256 * d))) / 2 = (a / 2 + 128 * (b % 2)) + 256 * ((b / 2 + 128 * (c % 2)) + 256 * ((c / 2 + 128 * (d % 2)) + 256 * (d / 2))) := by omega
  have g1 := and_four (a / 2 + 128 * (b % 2)) (b / 2 + 128 * (c % 2)) (c / 2 + 128 * (d % 2)) (d / 2) 85 1431655765 (by omega) (by omega) (by omega) (by omega) (by omega) (by omega)
  have g2 := and_four a b c d 85 1431655765 ha hb hc hd (by omega) (by omega)
  rw [f1 a ha _ (by omega), f1 b hb _ (by omega), f1 c hc _ (by omega)] at g1
  rw [e]
  simp only [q1]
  simp only [show (85 + 256 * (85 + 256 * (85 + 256 * (85 + 256 * 1431655765)))) = 6148914691236517205 from rfl] at g1 g2
  omega
theorem step2 (a b c d : Nat) (ha : a < 256) (hb : b < 256) (hc : c < 256) (hd : d < 256) :
    ((a + 256 * (b + 256 * (c + 256 * d))) / 4 &&& 3689348814741910323) + ((a + 256 * (b + 256 * (c + 256 * d))) &&& 3689348814741910323) = q2 a + 256 * (q2 b + 256 * (q2 c + 256 * q2 d)) := by
  have e : (a + 256 * (b + 256 * (c + 256 * d))) / 4 = (a / 4 + 64 * (b % 4)) + 256 * ((b / 4 + 64 * (c % 4)) + 256 * ((c / 4 + 64 * (d % 4)) + 256 * (d / 4))) := by omega
  have g1 := and_four (a / 4 + 64 * (b % 4)) (b / 4 + 64 * (c % 4)) (c / 4 + 64 * (d % 4)) (d / 4) 51 858993459 (by omega) (by omega) (by omega) (by omega) (by omega) (by omega)
  have g2 := and_four a b c d 51 858993459 ha hb hc hd (by omega) (by omega)
  rw [f2 a ha _ (by omega), f2 b hb _ (by omega), f2 c hc _ (by omega)] at g1
  rw [e]
  simp only [q2]
  simp only [show (51 + 256 * (51 + 256 * (51 + 256 * (51 + 256 * 858993459)))) = 3689348814741910323 from rfl] at g1 g2
  omega
theorem step3 (a b c d : Nat) (ha : a < 256) (hb : b < 256) (hc : c < 256) (hd : d < 256) :
    (((q2 (q1 a) + 256 * (q2 (q1 b) + 256 * (q2 (q1 c) + 256 * q2 (q1 d)))) / 16 + (q2 (q1 a) + 256 * (q2 (q1 b) + 256 * (q2 (q1 c) + 256 * q2 (q1 d))))) &&& 1085102592571150095) = pc 8 a + 256 * (pc 8 b + 256 * (pc 8 c + 256 * pc 8 d)) := by
  have ba := b2 a ha; have bb := b2 b hb; have bc := b2 c hc; have bd := b2 d hd
  have fa := f3 a ha (q2 (q1 b) % 16) (by omega); have fb := f3 b hb (q2 (q1 c) % 16) (by omega); have fc := f3 c hc (q2 (q1 d) % 16) (by omega); have fd := f3 d hd 0 (by omega)
  rw [f4 a ha] at fa; rw [f4 b hb] at fb; rw [f4 c hc] at fc; rw [f4 d hd] at fd
  generalize q2 (q1 a) = A at *; generalize q2 (q1 b) = B at *; generalize q2 (q1 c) = C at *; generalize q2 (q1 d) = D at *
  have e : (A + 256 * (B + 256 * (C + 256 * D))) / 16 + (A + 256 * (B + 256 * (C + 256 * D))) = (A / 16 + 16 * (B % 16) + A) + 256 * ((B / 16 + 16 * (C % 16) + B) + 256 * ((C / 16 + 16 * (D % 16) + C) + 256 * (D / 16 + 16 * 0 + D))) := by omega
  have g1 := and_four (A / 16 + 16 * (B % 16) + A) (B / 16 + 16 * (C % 16) + B) (C / 16 + 16 * (D % 16) + C) (D / 16 + 16 * 0 + D) 15 252645135 (by omega) (by omega) (by omega) (by omega) (by omega) (by omega)
  rw [e]
  simp only [show (15 + 256 * (15 + 256 * (15 + 256 * (15 + 256 * 252645135)))) = 1085102592571150095 from rfl] at g1
  rw [g1, fa, fb, fc, fd]
theorem tail (A B C D : Nat) (ha : A ≤ 8) (hb : B ≤ 8) (hc : C ≤ 8) (hd : D ≤ 8) (s3 s4 s5 s6 : Nat) (h3 : s3 = A + 256 * (B + 256 * (C + 256 * D))) (h4 : s4 = s3 + s3 / 256) (h5 : s5 = s4 + s4 / 65536) (h6 : s6 = s5 + s5 / 4294967296) :
    s6 < 18446744073709551616 ∧ s6 % 128 = A + B + C + D := by
  have e1 : s3 / 256 = B + 256 * (C + 256 * D) := by omega
  have e2 : s4 = (A + B) + 256 * ((B + C) + 256 * ((C + D) + 256 * D)) := by omega
  have e3 : s4 / 65536 = (C + D) + 256 * D := by omega
  have e4 : s5 = (A + B + C + D) + 256 * ((B + C + D) + 256 * ((C + D) + 256 * D)) := by omega
  have e5 : s5 / 4294967296 = 0 := by omega
  omega
/-- The chain of OnesCount64, at numbers below 2^32: the sum of the bits. -/
theorem chain (x : Nat) (hx : x < 4294967296) :
    ∃ s1 s2 s3 s4 s5 s6 : Nat, s1 = (x / 2 &&& 6148914691236517205) + (x &&& 6148914691236517205) ∧ s1 < 4294967296 ∧ s2 = (s1 / 4 &&& 3689348814741910323) + (s1 &&& 3689348814741910323) ∧ s2 < 4294967296 ∧
      s3 = (s2 / 16 + s2 &&& 1085102592571150095) ∧ s3 < 4294967296 ∧ s4 = s3 + s3 / 256 ∧ s5 = s4 + s4 / 65536 ∧ s6 = s5 + s5 / 4294967296 ∧ s6 < 18446744073709551616 ∧ s6 &&& 127 = pc 32 x := by
  have ha : x % 256 < 256 := Nat.mod_lt _ (by omega)
  have hb : x / 256 % 256 < 256 := Nat.mod_lt _ (by omega)
  have hc : x / 65536 % 256 < 256 := Nat.mod_lt _ (by omega)
  have hd : x / 16777216 < 256 := by omega
  have hx4 : x = x % 256 + 256 * (x / 256 % 256 + 256 * (x / 65536 % 256 + 256 * (x / 16777216))) := by omega
  generalize x % 256 = a at *; generalize x / 256 % 256 = b at *; generalize x / 65536 % 256 = c at *; generalize x / 16777216 = d at *
  subst hx4
  have e1 := step1 a b c d ha hb hc hd
  have e2 := step2 (q1 a) (q1 b) (q1 c) (q1 d) (b1 a ha) (b1 b hb) (b1 c hc) (b1 d hd)
  have e3 := step3 a b c d ha hb hc hd
  have e4 := pc_four a b c d ha hb hc hd
  have ba := b2 a ha; have bb := b2 b hb; have bc := b2 c hc; have bd := b2 d hd
  have pa := b1 a ha; have pb := b1 b hb; have pc' := b1 c hc; have pd := b1 d hd
  have ua := f5 a ha; have ub := f5 b hb; have uc := f5 c hc; have ud := f5 d hd
  have tl := tail (pc 8 a) (pc 8 b) (pc 8 c) (pc 8 d) ua ub uc ud _ _ _ _ rfl rfl rfl rfl
  refine ⟨_, _, _, _, _, _, e1.symm, by omega, e2.symm, by omega, e3.symm, by omega, rfl, rfl, rfl, tl.1, ?_⟩
  rw [show (127 : Nat) = 2 ^ 7 - 1 from rfl, Nat.and_two_pow_sub_one_eq_mod, e4]
  exact tl.2
end Go.Proofs.Ytfdjjaogmnagaaa.Bt
