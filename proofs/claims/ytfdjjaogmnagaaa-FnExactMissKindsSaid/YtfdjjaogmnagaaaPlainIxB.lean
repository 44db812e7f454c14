/- Rows in the reduced form, looked through one by one by the kernel: of their span, the least number with each greatest bit is a row, and the span has as many elements as a power of two. No program. -/
import Derived.Test.YtfdjjaogmnagaaaPlainIx
namespace Go.Proofs.Ytfdjjaogmnagaaa.Ix
/-! ### The reduced rows are those that the model finds -/
def topOf (n : Nat) : Nat := bif Nat.ble 32 n then 32 else bif Nat.ble 16 n then 16 else bif Nat.ble 8 n then 8 else bif Nat.ble 4 n then 4 else bif Nat.ble 2 n then 2 else n
def spanHas (a b c x : Nat) : Bool := Nat.beq x 0 || Nat.beq x a || Nat.beq x b || Nat.beq x (a ^^^ b) || Nat.beq x c || Nat.beq x (a ^^^ c) || Nat.beq x (b ^^^ c) || Nat.beq x (a ^^^ b ^^^ c)
def tops : List Nat := [32, 16, 8, 4, 2, 1]
def redN (L : List Nat) : List Nat := tops.filterMap (fun t => L.find? (fun x => Nat.blt 0 x && Nat.beq (topOf x) t))
def red2 (a b : Nat) : Bool := bif Nat.beq b 0 then true else Nat.blt b a && Nat.beq (b &&& topOf a) 0 && Nat.beq (a &&& topOf b) 0
def red3 (a b c : Nat) : Bool := bif Nat.beq c 0 then true else Nat.ble 1 b && Nat.blt c b && Nat.beq (c &&& topOf a) 0 && Nat.beq (c &&& topOf b) 0 && Nat.beq (a &&& topOf c) 0 && Nat.beq (b &&& topOf c) 0
def nz (a b c : Nat) : List Nat := [a, b, c].filter (fun x => Nat.ble 1 x)
def eqL : List Nat → List Nat → Bool
  | [], [] => true
  | a :: l, b :: m => Nat.beq a b && eqL l m
  | _, _ => false
def sortedS (a b c : Nat) : List Nat := (List.range 64).filter (spanHas a b c)
def chk (a b c : Nat) : Bool := (fun L => eqL (redN L) (nz a b c) && Nat.beq L.length (2 ^ (nz a b c).length)) (sortedS a b c)
def allB (n : Nat) (p : Nat → Bool) : Bool := Nat.rec true (fun k r => r && p k) n
theorem allB_get {n : Nat} {p : Nat → Bool} (h : allB n p = true) : ∀ k, k < n → p k = true := by
  induction n with
  | zero => intro k hk; omega
  | succ n ih =>
    have h2 : (allB n p && p n) = true := h
    rw [Bool.and_eq_true] at h2
    intro k hk
    by_cases e : k = n
    · rw [e]; exact h2.2
    · exact ih h2.1 k (by omega)
theorem big : allB 64 (fun a => allB 64 fun b => bif red2 a b then allB 64 (fun c => bif red3 a b c then chk a b c else true) else true) = true := by decide +kernel
theorem big_at {a b c : Nat} (ha : a < 64) (hb : b < 64) (hc : c < 64) (h2 : red2 a b = true) (h3 : red3 a b c = true) : chk a b c = true := by
  have h := allB_get (allB_get big a ha) b hb
  rw [h2] at h
  have h' := allB_get (show allB 64 (fun c => bif red3 a b c then chk a b c else true) = true from h) c hc
  rw [h3] at h'
  exact h'
theorem eqL_eq : ∀ {l m : List Nat}, eqL l m = true → l = m
  | [], [], _ => rfl
  | a :: l, b :: m, h => by
    simp only [eqL, Bool.and_eq_true] at h
    rw [Nat.eq_of_beq_eq_true h.1, eqL_eq h.2]
  | [], _ :: _, h => by simp [eqL] at h
  | _ :: _, [], h => by simp [eqL] at h
theorem top_eq {n p : Nat} (hp : p < 6) (h1 : 2 ^ p ≤ n) (h2 : n < 2 ^ (p + 1)) : topOf n = 2 ^ p := by
  have f : ∀ m, m ≤ n → Nat.ble m n = true := fun m hm => Nat.ble_eq_true_of_le hm
  have g : ∀ m, n < m → Nat.ble m n = false := fun m hm => by cases h : Nat.ble m n; rfl; exact absurd (Nat.le_of_ble_eq_true h) (by omega)
  unfold topOf
  obtain rfl | rfl | rfl | rfl | rfl | rfl : p = 0 ∨ p = 1 ∨ p = 2 ∨ p = 3 ∨ p = 4 ∨ p = 5 := by omega
  · simp only [Nat.reducePow, Nat.reduceAdd] at h1 h2 ⊢
    rw [g 32 (by omega), g 16 (by omega), g 8 (by omega), g 4 (by omega), g 2 (by omega)]; simp; omega
  · simp only [Nat.reducePow, Nat.reduceAdd] at h1 h2 ⊢
    rw [g 32 (by omega), g 16 (by omega), g 8 (by omega), g 4 (by omega), f 2 (by omega)]; rfl
  · simp only [Nat.reducePow, Nat.reduceAdd] at h1 h2 ⊢
    rw [g 32 (by omega), g 16 (by omega), g 8 (by omega), f 4 (by omega)]; rfl
  · simp only [Nat.reducePow, Nat.reduceAdd] at h1 h2 ⊢
    rw [g 32 (by omega), g 16 (by omega), f 8 (by omega)]; rfl
  · simp only [Nat.reducePow, Nat.reduceAdd] at h1 h2 ⊢
    rw [g 32 (by omega), f 16 (by omega)]; rfl
  · simp only [Nat.reducePow, Nat.reduceAdd] at h1 h2 ⊢
    rw [f 32 (by omega)]; rfl
theorem and_bit (n t : Nat) : n &&& 2 ^ t = bif n.testBit t then 2 ^ t else 0 := by
  refine Nat.eq_of_testBit_eq fun i => ?_
  rw [Nat.testBit_and, Nat.testBit_two_pow]
  by_cases e : t = i
  · subst e; cases n.testBit t <;> simp [Nat.testBit_two_pow_self]
  · cases n.testBit t <;> simp [e]
theorem Inv.chk {k : Nat} {r p : Nat → Nat} (h : Inv 0 k r p) : chk (r 0) (r 1) (r 2) = true := by
  have hz : ∀ i, k ≤ i → i < 3 → r i = 0 := fun i h1 h2 => by have := h.rest i h1 h2; simp at this; omega
  have hge : ∀ j, j < k → 2 ^ (p j) ≤ r j := fun j hj => Nat.ge_two_pow_of_testBit (h.piv j hj).2.2.1
  have ht : ∀ j, j < k → topOf (r j) = 2 ^ (p j) := fun j hj => top_eq (h.piv j hj).2.1 (hge j hj) (h.piv j hj).2.2.2
  have hpos : ∀ j, j < k → 1 ≤ r j := fun j hj => Nat.le_trans (Nat.two_pow_pos _) (hge j hj)
  have hand : ∀ j i, j < k → i < 3 → i ≠ j → r i &&& topOf (r j) = 0 := fun j i hj hi hne => by rw [ht j hj, and_bit, h.alone j hj i hi hne]; rfl
  have hlt : ∀ j, j + 1 < k → r (j + 1) < r j := fun j hj => by
    have h1 := (h.piv (j + 1) hj).2.2.2
    have h2 := hge j (by omega)
    have h3 : 2 ^ (p (j + 1) + 1) ≤ 2 ^ (p j) := Nat.pow_le_pow_right (by omega) (by have := h.dec j hj; omega)
    omega
  have h0 := h.lt 0 (by omega); have h1 := h.lt 1 (by omega); have h2 := h.lt 2 (by omega)
  have b0 : ∀ n : Nat, n = 0 → Nat.beq n 0 = true := fun n e => by rw [e]; rfl
  have bf : ∀ n : Nat, 1 ≤ n → Nat.beq n 0 = false := fun n e => by cases n with | zero => omega | succ n => rfl
  have bl : ∀ a b : Nat, a < b → Nat.blt a b = true := fun a b e => Nat.ble_eq_true_of_le e
  have b1 : ∀ a b : Nat, a ≤ b → Nat.ble a b = true := fun a b e => Nat.ble_eq_true_of_le e
  have hk := h.k3
  refine big_at h0 h1 h2 ?_ ?_
  · unfold red2
    by_cases hk2 : 2 ≤ k
    · rw [bf _ (hpos 1 hk2), bl _ _ (hlt 0 hk2), b0 _ (hand 0 1 (by omega) (by omega) (by omega)), b0 _ (hand 1 0 (by omega) (by omega) (by omega))]; rfl
    · rw [b0 _ (hz 1 (by omega) (by omega))]; rfl
  · unfold red3
    by_cases hk3 : 3 ≤ k
    · rw [bf _ (hpos 2 hk3), b1 _ _ (hpos 1 (by omega)), bl _ _ (hlt 1 hk3), b0 _ (hand 0 2 (by omega) (by omega) (by omega)), b0 _ (hand 1 2 (by omega) (by omega) (by omega)), b0 _ (hand 2 0 (by omega) (by omega) (by omega)), b0 _ (hand 2 1 (by omega) (by omega) (by omega))]; rfl
    · rw [b0 _ (hz 2 (by omega) (by omega))]; rfl
theorem has_iff (a b c x : Nat) : spanHas a b c x = true ↔ InS a b c x := by
  have e : ∀ y, Nat.beq x y = true ↔ x = y := fun y => ⟨Nat.eq_of_beq_eq_true, fun h => by rw [h]; exact Nat.beq_refl y⟩
  simp only [spanHas, Bool.or_eq_true, e, InS, spanL, List.mem_cons, List.not_mem_nil, or_false, or_assoc]
end Go.Proofs.Ytfdjjaogmnagaaa.Ix
