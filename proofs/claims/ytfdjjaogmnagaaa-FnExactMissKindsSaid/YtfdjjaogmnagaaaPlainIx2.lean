/- Index functions: the set of an address, the span as a rising list, and that the model's way to the reduced rows gives the reduced rows. No program. -/
import Derived.Test.YtfdjjaogmnagaaaPlainIxB
import Derived.Test.YtfdjjaogmnagaaaPlainBits
import Derived.Test.YtfdjjaogmnagaaaPlainSets
namespace Go.Proofs.Ytfdjjaogmnagaaa.Ix
open Tr Bt
/-- Numbers that are not negative, as the program has them. -/
def castL (l : List Nat) : List Int := l.map (fun n : Nat => (n : Int))
theorem castL_len (l : List Nat) : (castL l).length = l.length := by simp [castL]
theorem mem_castL {l : List Nat} {y : Int} : y ∈ castL l ↔ ∃ n ∈ l, (n : Int) = y := by simp [castL]
theorem castL_get (l : List Nat) (i : Nat) : (castL l).getD i 0 = ((l.getD i 0 : Nat) : Int) := by
  simp only [castL, List.getD_eq_getElem?_getD, List.getElem?_map]
  cases l[i]? <;> rfl
/-- The set of the eight numbers that three rows span. -/
def spanS (r : Nat → Nat) : List Int := setP (castL (spanL (r 0) (r 1) (r 2)))
theorem spanS_congr {r q : Nat → Nat} (h : ∀ x, SpF r x ↔ SpF q x) : spanS r = spanS q :=
  setP_congr fun y => by
    rw [mem_castL, mem_castL]
    constructor
    · rintro ⟨n, hn, e⟩; exact ⟨n, (h n).1 hn, e⟩
    · rintro ⟨n, hn, e⟩; exact ⟨n, (h n).2 hn, e⟩
theorem castL_up {l : List Nat} (h : l.Pairwise (· < ·)) : Up (castL l) := by
  unfold Up castL
  rw [List.pairwise_map]
  exact h.imp fun h => by omega
theorem sorted_up (a b c : Nat) : (sortedS a b c).Pairwise (· < ·) := List.Pairwise.filter _ List.pairwise_lt_range
theorem spanS_eq (r : Nat → Nat) (h : ∀ i, i < 3 → r i < 64) : spanS r = castL (sortedS (r 0) (r 1) (r 2)) :=
  up_ext (setP_up _) (castL_up (sorted_up _ _ _)) fun y => by
    rw [spanS, mem_setP, mem_castL, mem_castL]
    constructor
    · rintro ⟨n, hn, e⟩
      exact ⟨n, List.mem_filter.2 ⟨List.mem_range.2 (ins_lt (h 0 (by omega)) (h 1 (by omega)) (h 2 (by omega)) hn), (has_iff _ _ _ _).2 hn⟩, e⟩
    · rintro ⟨n, hn, e⟩
      exact ⟨n, (has_iff _ _ _ _).1 (List.mem_filter.1 hn).2, e⟩
def topI (x : Int) : Int := ((topOf x.toNat : Nat) : Int)
def isTop (t : Nat) (x : Int) : Bool := decide (0 < x) && decide (topI x = (t : Int))
/-- What the model puts together: for each power of two the first number of a list with it as the greatest bit. -/
def redL (L : List Int) (ts : List Nat) : List Int := ts.filterMap (fun t => L.find? (isTop t))
theorem redL_snoc (L : List Int) (ts : List Nat) (t : Nat) : redL L (ts ++ [t]) = redL L ts ++ (L.find? (isTop t)).toList := by
  simp only [redL, List.filterMap_append, List.filterMap_cons, List.filterMap_nil]
  cases L.find? (isTop t) <;> rfl
theorem redL_len (L : List Int) (ts : List Nat) : (redL L ts).length ≤ ts.length := List.length_filterMap_le _ _
theorem isTop_cast (t x : Nat) : isTop t (x : Int) = (Nat.blt 0 x && Nat.beq (topOf x) t) := by
  unfold isTop topI
  have e1 : decide ((0 : Int) < (x : Int)) = Nat.blt 0 x := by
    cases x with
    | zero => rfl
    | succ x => rw [decide_eq_true (by omega)]; rfl
  have e2 : decide (((topOf ((x : Int)).toNat : Nat) : Int) = (t : Int)) = Nat.beq (topOf x) t := by
    rw [Int.toNat_natCast]
    cases hb : Nat.beq (topOf x) t
    · exact decide_eq_false fun h => by
        have h2 : topOf x = t := by omega
        rw [h2, Nat.beq_refl] at hb; cases hb
    · exact decide_eq_true (by rw [Nat.eq_of_beq_eq_true hb])
  rw [e1, e2]
theorem redL_cast (L : List Nat) : redL (castL L) tops = castL (redN L) := by
  unfold redL redN castL
  rw [List.map_filterMap]
  refine congrArg (fun f => List.filterMap f tops) (funext fun t => ?_)
  rw [List.find?_map]
  refine congrArg _ (congrArg (fun f => List.find? f L) (funext fun x => ?_))
  exact isTop_cast t x
theorem Inv.red {k : Nat} {r p : Nat → Nat} (h : Inv 0 k r p) : redL (spanS r) tops = castL (nz (r 0) (r 1) (r 2)) ∧ (spanS r).length = 2 ^ (nz (r 0) (r 1) (r 2)).length := by
  have hc : (eqL (redN (sortedS (r 0) (r 1) (r 2))) (nz (r 0) (r 1) (r 2)) && Nat.beq (sortedS (r 0) (r 1) (r 2)).length (2 ^ (nz (r 0) (r 1) (r 2)).length)) = true := h.chk
  rw [Bool.and_eq_true] at hc
  rw [spanS_eq r h.lt, redL_cast, eqL_eq hc.1, castL_len]
  exact ⟨rfl, Nat.eq_of_beq_eq_true hc.2⟩
theorem nz_len (a b c : Nat) : (nz a b c).length ≤ 3 := List.length_filter_le _ _
/-! ### Rows that come in -/
def okX (xs : List Int) : Bool := decide (xs.length ≤ 3) && xs.all isA
theorem okX_len {xs : List Int} (h : okX xs = true) : xs.length ≤ 3 := by simp only [okX, Bool.and_eq_true, decide_eq_true_eq] at h; exact h.1
theorem okX_nat {xs : List Int} (h : okX xs = true) : ∃ ns : List Nat, xs = castL ns ∧ ns.length ≤ 3 ∧ ∀ i, ns.getD i 0 < 64 := by
  have hl := okX_len h
  have ha : xs.all isA = true := by simp only [okX, Bool.and_eq_true] at h; exact h.2
  have hm : ∀ x ∈ xs, 0 ≤ x ∧ x ≤ 63 := fun x hx => by have := List.all_eq_true.1 ha x hx; simpa [isA] using this
  have e : castL (xs.map Int.toNat) = xs := by
    unfold castL
    rw [List.map_map]
    conv => rhs; rw [← List.map_id xs]
    refine List.map_congr_left fun x hx => ?_
    have := hm x hx
    show ((x.toNat : Nat) : Int) = x
    omega
  refine ⟨xs.map Int.toNat, e.symm, by simpa using hl, fun i => ?_⟩
  rw [List.getD_eq_getElem?_getD, List.getElem?_map]
  cases hx : xs[i]? with
  | none => simp
  | some x => have := hm x (List.mem_of_getElem? hx); show x.toNat < 64; omega
/-- Rows with noughts behind them. -/
def pad (ns : List Nat) : Nat → Nat := fun i => ns.getD i 0
/-! ### The set of an address -/
def par (n : Nat) : Nat := pc 32 n % 2
def setF (r : Nat → Nat) (x : Nat) : Nat → Nat
  | 0 => 0
  | i + 1 => setF r x i + 2 ^ i * par (r i &&& x)
theorem par_lt (n : Nat) : par n < 2 := Nat.mod_lt _ (by omega)
theorem setF_lt (r : Nat → Nat) (x i : Nat) : setF r x i < 2 ^ i := by
  induction i with
  | zero => simp [setF]
  | succ i ih =>
    have := par_lt (r i &&& x)
    have h2 : 2 ^ i * par (r i &&& x) ≤ 2 ^ i * 1 := Nat.mul_le_mul_left _ (by omega)
    rw [setF, Nat.pow_succ]
    omega
theorem setF_up (r : Nat → Nat) (x i d : Nat) (h : ∀ j, i ≤ j → r j = 0) : setF r x (i + d) = setF r x i := by
  induction d with
  | zero => rfl
  | succ d ih =>
    rw [← Nat.add_assoc, setF, ih, h (i + d) (by omega), Nat.zero_and]
    simp [par, pc_zero]
theorem setF_pad (ns : List Nat) (x : Nat) (h : ns.length ≤ 3) : setF (pad ns) x ns.length = setF (pad ns) x 3 := by
  have := setF_up (pad ns) x ns.length (3 - ns.length) (fun j hj => by simp [pad, List.getD_eq_getElem?_getD, List.getElem?_eq_none hj])
  rw [← this]
  congr 1
  omega
theorem or_all : ∀ i, i < 3 → ∀ o, o < 4 → ∀ p, p < 2 → o < 2 ^ i → (o ||| p <<< i) = o + 2 ^ i * p := by decide +kernel
/-- The step of both loops: a bit more. -/
theorem or_step (o p i : Nat) (hi : i < 3) (ho : o < 2 ^ i) (hp : p < 2) : (o ||| p <<< i) = o + 2 ^ i * p :=
  or_all i hi o (Nat.lt_of_lt_of_le ho (by have : 2 ^ i ≤ 2 ^ 2 := Nat.pow_le_pow_right (by omega) (by omega); simpa using this)) p hp ho
end Go.Proofs.Ytfdjjaogmnagaaa.Ix
