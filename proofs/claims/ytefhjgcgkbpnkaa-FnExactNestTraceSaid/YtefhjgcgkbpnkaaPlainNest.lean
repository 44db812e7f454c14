/- The places to which loops come. No program. -/
import Derived.Test.YtefhjgcgkbpnkaaPlainSets
import Derived.Test.YtefhjgcgkbpnkaaCvt
namespace Go.Proofs.Ytefhjgcgkbpnkaa.Nst
open Tr Ac
def okC (x : Int) : Bool := decide (1 ≤ x) && decide (x ≤ 60)
def okSt (x : Int) : Bool := decide (-1000 ≤ x) && decide (x ≤ 1000)
def loopB (cs ss : List Int) (j : Nat) : Bool := (List.range j).all fun i => okC (cs.getD i 0) && okSt (ss.getD i 0)
theorem loopB_succ (cs ss : List Int) (j : Nat) : loopB cs ss (j + 1) = (loopB cs ss j && (okC (cs.getD j 0) && okSt (ss.getD j 0))) := by simp [loopB, List.range_succ]
theorem loopB_no (cs ss : List Int) (j n : Nat) (hj : j < n) (h : (okC (cs.getD j 0) && okSt (ss.getD j 0)) = false) : loopB cs ss n = false := by
  unfold loopB
  rw [List.all_eq_false]
  exact ⟨j, by simpa using hj, by simpa using h⟩
theorem loopB_at {cs ss : List Int} {n : Nat} (h : loopB cs ss n = true) (j : Nat) (hj : j < n) : (1 ≤ cs.getD j 0 ∧ cs.getD j 0 ≤ 60) ∧ -1000 ≤ ss.getD j 0 ∧ ss.getD j 0 ≤ 1000 := by
  unfold loopB at h
  have := List.all_eq_true.1 h j (by simpa using hj)
  simpa [okC, okSt] using this
def nestB (kind base : Int) (cs ss : List Int) : Bool := isK kind && isA base && decide (cs.length ≤ 3) && decide (cs.length = ss.length) && loopB cs ss cs.length
def cN (cs : List Int) (d : Nat) : Nat := (cs.getD d 0).toNat
def prodK (cs : List Int) : Nat → Nat
  | 0 => 1
  | d + 1 => prodK cs d * cN cs d
/-- Where the k-th access of the first d loops is. -/
def plcAt (cs ss : List Int) (base : Int) : Nat → Nat → Int
  | 0, _ => base
  | d + 1, k => plcAt cs ss base d (k / cN cs d) + ((k % cN cs d : Nat) : Int) * ss.getD d 0
/-- The same from the last loop on, as digits. -/
def lpA (cs ss : List Int) : Nat → Nat → Int → Int
  | 0, _, at' => at'
  | d + 1, k, at' => lpA cs ss d (k / cN cs d) (at' + ((k % cN cs d : Nat) : Int) * ss.getD d 0)
theorem lpA_eq (cs ss : List Int) (base : Int) (d : Nat) : ∀ (k : Nat) (x : Int), lpA cs ss d k x = x + (plcAt cs ss base d k - base) := by
  induction d with
  | zero => intro k x; simp [lpA, plcAt]
  | succ d ih => intro k x; rw [lpA, plcAt, ih]; omega
theorem lpA_base (cs ss : List Int) (base : Int) (d k : Nat) : lpA cs ss d k base = plcAt cs ss base d k := by rw [lpA_eq cs ss base]; omega
theorem mul_rng (i : Nat) (s : Int) (hi : i ≤ 60) (h0 : -1000 ≤ s) (h1 : s ≤ 1000) : -60000 ≤ (i : Int) * s ∧ (i : Int) * s ≤ 60000 := by
  have a1 := Int.mul_le_mul_of_nonneg_left h1 (Int.natCast_nonneg i)
  have a2 := Int.mul_le_mul_of_nonneg_left h0 (Int.natCast_nonneg i)
  omega
theorem plcAt_rng (cs ss : List Int) (base : Int) (hb : 0 ≤ base ∧ base ≤ 63) (n : Nat) (h : loopB cs ss n = true) : ∀ d, d ≤ n → ∀ k, -60000 * (d : Int) ≤ plcAt cs ss base d k ∧ plcAt cs ss base d k ≤ 63 + 60000 * (d : Int)
  | 0, _, k => by simp [plcAt]; omega
  | d + 1, hd, k => by
    obtain ⟨⟨c1, c2⟩, s1, s2⟩ := loopB_at h d (by omega)
    have hc : 0 < cN cs d := by unfold cN; omega
    have hc2 : cN cs d ≤ 60 := by unfold cN; omega
    have hm : k % cN cs d < cN cs d := Nat.mod_lt _ hc
    have h1 := mul_rng (k % cN cs d) (ss.getD d 0) (by omega) s1 s2
    have h2 := plcAt_rng cs ss base hb n h d (by omega) (k / cN cs d)
    rw [plcAt]
    generalize plcAt cs ss base d (k / cN cs d) = p at *
    generalize ((k % cN cs d : Nat) : Int) * ss.getD d 0 = m at *
    omega
/-- The number of accesses that the model counts. -/
def manyK (cs : List Int) : Nat → Nat
  | 0 => 1
  | d + 1 => min (manyK cs d * cN cs d) 61
theorem manyK_eq (cs ss : List Int) (n : Nat) (h : loopB cs ss n = true) : ∀ d, d ≤ n → manyK cs d = min (prodK cs d) 61
  | 0, _ => rfl
  | d + 1, hd => by
    obtain ⟨⟨c1, c2⟩, _⟩ := loopB_at h d (by omega)
    have hc : 1 ≤ cN cs d := by unfold cN; omega
    rw [manyK, prodK, manyK_eq cs ss n h d (by omega)]
    by_cases hp : prodK cs d ≤ 61
    · rw [Nat.min_eq_left hp]
    · have h1 : 61 ≤ 61 * cN cs d := Nat.le_mul_of_pos_right _ hc
      have h2 : prodK cs d ≤ prodK cs d * cN cs d := Nat.le_mul_of_pos_right _ hc
      rw [Nat.min_eq_right (by omega : 61 ≤ prodK cs d), Nat.min_eq_right h1, Nat.min_eq_right (by omega)]
theorem prodK_mono (cs ss : List Int) (n : Nat) (h : loopB cs ss n = true) (d : Nat) : ∀ e, d ≤ e → e ≤ n → prodK cs d ≤ prodK cs e
  | 0, hd, _ => by have : d = 0 := by omega
                   subst this; exact Nat.le_refl _
  | e + 1, hd, he => by
    rcases Nat.lt_or_eq_of_le hd with h1 | h1
    · obtain ⟨⟨c1, c2⟩, _⟩ := loopB_at h e (by omega)
      have hc : 1 ≤ cN cs e := by unfold cN; omega
      have h2 := prodK_mono cs ss n h d e (by omega) (by omega)
      rw [prodK]
      exact Nat.le_trans h2 (Nat.le_mul_of_pos_right _ hc)
    · rw [h1]; exact Nat.le_refl _
def wrA (p : Int) : Int := (Int.tmod p 64 + 64) % 64
theorem wrA_rng (p : Int) : 0 ≤ wrA p ∧ wrA p < 64 := by unfold wrA; omega
def nestY (kind base : Int) (cs ss : List Int) : Bool := nestB kind base cs ss && decide (prodK cs cs.length ≤ 60)
def nestL (kind base : Int) (cs ss : List Int) (n : Nat) : List (Int × Int) := (List.range n).map fun k => (kind, wrA (plcAt cs ss base cs.length k))
def nestV (kind base : Int) (cs ss : List Int) : List (Int × Int) := if nestY kind base cs ss then nestL kind base cs ss (prodK cs cs.length) else []
theorem nestL_succ (kind base : Int) (cs ss : List Int) (n : Nat) : nestL kind base cs ss (n + 1) = nestL kind base cs ss n ++ [(kind, wrA (plcAt cs ss base cs.length n))] := by simp [nestL, List.range_succ]
theorem nestL_len (kind base : Int) (cs ss : List Int) (n : Nat) : (nestL kind base cs ss n).length = n := by simp [nestL]
theorem told_congr {f g : Nat → Int} {n : Nat} (h : ∀ k, k < n → f k = g k) : told f n = told g n := by
  unfold told
  apply List.map_congr_left
  intro k hk
  exact h k (by simpa using hk)
theorem told_getD (f : Nat → Int) (n j : Nat) (h : j < n) : (told f n).getD j 0 = f j := by
  unfold told
  rw [List.getD_eq_getElem?_getD, List.getElem?_map, List.getElem?_eq_getElem (by simpa using h)]; simp
/-- One loop more. -/
def lf (xs : List Int) (c : Nat) (s : Int) (k : Nat) : Int := xs.getD (k / c) 0 + ((k % c : Nat) : Int) * s
theorem lf_at (xs : List Int) (c : Nat) (s : Int) (j i : Nat) (hi : i < c) : lf xs c s (j * c + i) = xs.getD j 0 + (i : Int) * s := by
  unfold lf
  have hc : 0 < c := by omega
  have h1 : (j * c + i) / c = j := by rw [Nat.mul_comm, Nat.mul_add_div hc, Nat.div_eq_of_lt hi, Nat.add_zero]
  have h2 : (j * c + i) % c = i := by rw [Nat.mul_comm, Nat.mul_add_mod, Nat.mod_eq_of_lt hi]
  rw [h1, h2]
theorem lf_plc (cs ss : List Int) (base : Int) (d : Nat) (hc : 0 < cN cs d) : told (lf (told (plcAt cs ss base d) (prodK cs d)) (cN cs d) (ss.getD d 0)) (prodK cs d * cN cs d) = told (plcAt cs ss base (d + 1)) (prodK cs (d + 1)) := by
  rw [prodK]
  refine told_congr fun k hk => ?_
  unfold lf
  rw [told_getD _ _ _ ((Nat.div_lt_iff_lt_mul hc).2 hk), plcAt]
end Go.Proofs.Ytefhjgcgkbpnkaa.Nst
