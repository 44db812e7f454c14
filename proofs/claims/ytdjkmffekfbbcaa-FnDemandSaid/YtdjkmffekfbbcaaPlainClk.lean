/- A memory with a clock: frames with their page, mark and whether it was written. No program. -/
import Derived.Test.YtdjkmffekfbbcaaPlainSets
namespace Go.Proofs.Ytdjkmffekfbbcaa.Ck
abbrev Pf := Int × Bool × Bool
def f0 : Pf := (0, false, false)
def mkd (p : List Pf) (h : Nat) : Bool := (p.getD h f0).2.1
def wrt (p : List Pf) (h : Nat) : Bool := (p.getD h f0).2.2
def pgA (p : List Pf) (h : Nat) : Int := (p.getD h f0).1
def clr (p : List Pf) (h : Nat) : List Pf := p.set h (pgA p h, false, wrt p h)
def cnt (p : List Pf) : Nat := p.countP (fun f => f.2.1)
def vic : Nat → List Pf → Nat → List Pf × Nat
  | 0, p, h => (p, h)
  | f + 1, p, h => if mkd p h then vic f (clr p h) ((h + 1) % p.length) else (p, h)
/-- The frames and the hand where the hand finds no mark. -/
def V (p : List Pf) (h : Nat) : List Pf × Nat := vic (cnt p) p h
theorem clr_length (p : List Pf) (h : Nat) : (clr p h).length = p.length := List.length_set
theorem cnt_clr : ∀ (p : List Pf) (h : Nat), h < p.length → mkd p h = true → cnt (clr p h) + 1 = cnt p
  | [], h, hl, _ => by simp at hl
  | f :: p, 0, _, hm => by
    have hm' : f.2.1 = true := hm
    show cnt ((f.1, false, f.2.2) :: p) + 1 = cnt (f :: p)
    unfold cnt
    rw [List.countP_cons, List.countP_cons, hm']
    simp
  | f :: p, h + 1, hl, hm => by
    have ih := cnt_clr p h (by simpa using hl) hm
    show cnt (f :: clr p h) + 1 = cnt (f :: p)
    unfold cnt at ih ⊢
    rw [List.countP_cons, List.countP_cons]
    omega
theorem V_yes (p : List Pf) (h : Nat) (hl : h < p.length) (hm : mkd p h = true) : V p h = V (clr p h) ((h + 1) % p.length) := by
  have hc := cnt_clr p h hl hm
  show vic (cnt p) p h = vic (cnt (clr p h)) (clr p h) ((h + 1) % p.length)
  rw [← hc, vic, if_pos hm]
theorem V_no (p : List Pf) (h : Nat) (hm : mkd p h = false) : V p h = (p, h) := by
  unfold V
  cases cnt p with
  | zero => rfl
  | succ n => rw [vic, if_neg (by rw [hm]; decide)]
theorem V_spec : ∀ (n : Nat) (p : List Pf) (h : Nat), cnt p = n → h < p.length → (V p h).1.length = p.length ∧ (V p h).2 < p.length ∧ mkd (V p h).1 (V p h).2 = false
  | n, p, h, hn, hl => by
    cases hm : mkd p h
    · rw [V_no p h hm]; exact ⟨rfl, hl, hm⟩
    · have hc := cnt_clr p h hl hm
      rw [V_yes p h hl hm]
      cases n with
      | zero => omega
      | succ n =>
        have ih := V_spec n (clr p h) ((h + 1) % p.length) (by omega) (by rw [clr_length]; exact Nat.mod_lt _ (by omega))
        rw [clr_length] at ih
        exact ih
theorem V_len (p : List Pf) (h : Nat) (hl : h < p.length) : (V p h).1.length = p.length := (V_spec _ p h rfl hl).1
theorem V_lt (p : List Pf) (h : Nat) (hl : h < p.length) : (V p h).2 < p.length := (V_spec _ p h rfl hl).2.1
/-- A frame is used. -/
def tch (p : List Pf) (h : Nat) (w : Bool) : List Pf := p.set h (pgA p h, true, wrt p h || w)
theorem tch_length (p : List Pf) (h : Nat) (w : Bool) : (tch p h w).length = p.length := List.length_set
def fi (p : List Pf) (x : Int) : Nat := (p.map Prod.fst).idxOf x
structure CkS where
  p : List Pf
  h : Nat
  fl : List Int
  b : Nat
def ckStep (n : Nat) (S : CkS) (w : Bool) (x : Int) : CkS :=
  if fi S.p x < S.p.length then { S with p := tch S.p (fi S.p x) w, fl := S.fl ++ [0] }
  else if S.p.length < n then { S with p := tch (S.p ++ [(x, false, false)]) S.p.length w, fl := S.fl ++ [1] }
  else ⟨tch ((V S.p S.h).1.set (V S.p S.h).2 (x, false, false)) (V S.p S.h).2 w, ((V S.p S.h).2 + 1) % S.p.length, S.fl ++ [1], S.b + if wrt (V S.p S.h).1 (V S.p S.h).2 then 1 else 0⟩
def ck0 : CkS := ⟨[], 0, [], 0⟩
def ckR (n : Nat) (xs : List (Int × Int)) : Nat → CkS
  | 0 => ck0
  | j + 1 => ckStep n (ckR n xs j) (decide ((xs.getD j (0, 0)).1 = 1)) (xs.getD j (0, 0)).2
structure CkW (n : Nat) (S : CkS) : Prop where
  p : S.p.length ≤ n
  h : S.h < n
theorem step_wf {n : Nat} {S : CkS} (hS : CkW n S) (w : Bool) (x : Int) : CkW n (ckStep n S w x) := by
  have h1 := hS.p
  have h2 := hS.h
  unfold ckStep
  split
  · exact ⟨by show (tch _ _ _).length ≤ n; rw [tch_length]; exact h1, h2⟩
  · split
    · exact ⟨by show (tch _ _ _).length ≤ n; rw [tch_length, List.length_append, List.length_singleton]; omega, h2⟩
    · have hl : S.h < S.p.length := by omega
      refine ⟨?_, ?_⟩
      · show (tch _ _ _).length ≤ n
        rw [tch_length, List.length_set, V_len _ _ hl]; exact h1
      · show (_ + 1) % S.p.length < n
        have := Nat.mod_lt ((V S.p S.h).2 + 1) (show S.p.length > 0 by omega)
        omega
theorem ckR_wf (n : Nat) (hn : 1 ≤ n) (xs : List (Int × Int)) : ∀ j, CkW n (ckR n xs j)
  | 0 => ⟨Nat.zero_le _, hn⟩
  | j + 1 => step_wf (ckR_wf n hn xs j) _ _
theorem step_fl (n : Nat) (S : CkS) (w : Bool) (x : Int) : (ckStep n S w x).fl.length = S.fl.length + 1 := by
  unfold ckStep
  split
  · simp
  · split <;> simp
theorem ckR_fl (n : Nat) (xs : List (Int × Int)) : ∀ j, (ckR n xs j).fl.length = j
  | 0 => rfl
  | j + 1 => by rw [ckR, step_fl, ckR_fl n xs j]
theorem step_b (n : Nat) (S : CkS) (w : Bool) (x : Int) : (ckStep n S w x).b ≤ S.b + 1 := by
  unfold ckStep
  split
  · show S.b ≤ S.b + 1; omega
  · split
    · show S.b ≤ S.b + 1; omega
    · show S.b + _ ≤ S.b + 1; split <;> omega
theorem ckR_b (n : Nat) (xs : List (Int × Int)) : ∀ j, (ckR n xs j).b ≤ j
  | 0 => Nat.le_refl _
  | j + 1 => by have h1 := step_b n (ckR n xs j) (decide ((xs.getD j (0, 0)).1 = 1)) (xs.getD j (0, 0)).2; have h2 := ckR_b n xs j; rw [ckR]; omega
end Go.Proofs.Ytdjkmffekfbbcaa.Ck
