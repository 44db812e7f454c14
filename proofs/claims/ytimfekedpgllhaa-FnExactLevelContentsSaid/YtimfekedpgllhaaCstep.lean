/- One use under a policy: the program's. -/
import Derived.Test.YtimfekedpgllhaaCstepS
import Derived.Test.YtimfekedpgllhaaCuseh
import Derived.Test.YtimfekedpgllhaaCconI
namespace Go.Proofs.Ytimfekedpgllhaa.Pv
open Go.RowKit
theorem rowC_six {xs : List Int} (h : ordB xs.length xs = true) (hl : xs.length ≤ 6) : rowC xs = six6 fun i => ((ordN xs i : Nat) : Int) := by
  show _ = [Value.int .i64 ((ordN xs 0 : Nat) : Int), .int .i64 ((ordN xs 1 : Nat) : Int), .int .i64 ((ordN xs 2 : Nat) : Int), .int .i64 ((ordN xs 3 : Nat) : Int), .int .i64 ((ordN xs 4 : Nat) : Int), .int .i64 ((ordN xs 5 : Nat) : Int)]
  unfold rowC
  rw [(ordN_lt h hl 0 (by omega)).2, (ordN_lt h hl 1 (by omega)).2, (ordN_lt h hl 2 (by omega)).2, (ordN_lt h hl 3 (by omega)).2, (ordN_lt h hl 4 (by omega)).2, (ordN_lt h hl 5 (by omega)).2]
theorem use_any (hs : List (List Int)) (ms : List Int) (hok : isP hs ms = true) (k : Nat → Int) (x : Int) (w : World) :
    Calls Try.prog 59 #[.agg (rulC true ms.length hs ms).toArray, six (k 0) (k 1) (k 2) (k 3) (k 4) (k 5), .int .i64 x] w
      (RetB (.tuple #[six (stN hs ms k x 0) (stN hs ms k x 1) (stN hs ms k x 2) (stN hs ms k x 3) (stN hs ms k x 4) (stN hs ms k x 5), .bool (hitB ms.length k x)]) w) := by
  obtain ⟨ho, h6, hlen⟩ := isP_miss_ord hok
  have h1M : 1 ≤ ms.length := by unfold isP at hok; simp only [Bool.and_eq_true, decide_eq_true_eq] at hok; omega
  by_cases hit : (rowL ms.length k).idxOf x < ms.length
  · have hJh : (rowL ms.length k).idxOf x < hs.length := by omega
    have hoj := isP_hit_ord hok _ hJh
    have hol := ordB_len hoj
    have hb : hitB ms.length k x = true := decide_eq_true hit
    have hst : ∀ i, stN hs ms k x i = k (ordN (hs.getD ((rowL ms.length k).idxOf x) []) i) := fun i => if_pos hit
    rw [hb, hst, hst, hst, hst, hst, hst]
    obtain ⟨e1, e2⟩ := idx_hit _ _ _ hit
    exact use_hit ((rowL ms.length k).idxOf x) ms.length hit h6 _ _ rfl (ordN (hs.getD ((rowL ms.length k).idxOf x) [])) (fun i hi => (ordN_lt (by rw [hol]; exact hoj) (by omega) i hi).1)
      ((rules_hit ms.length h6 hs ms _ hit).trans (rowC_six (by rw [hol]; exact hoj) (by omega))) k x e1 e2 w
  · have hb : hitB ms.length k x = false := decide_eq_false hit
    have hst : ∀ i, stN hs ms k x i = putA k (ms.length - 1) x (ordN ms i) := fun i => if_neg hit
    rw [hb, hst, hst, hst, hst, hst, hst]
    exact use_miss (ms.length - 1) ms.length (by omega) (by omega) _ _ rfl (rulC_len true _ _ _) (ordN ms) (fun i hi => (ordN_lt ho h6 i hi).1)
      ((rules_miss ms.length h6 hs ms).trans (rowC_six ho h6)) k x (idx_miss _ _ _ hit) w
/-- The contents as a row of six. -/
def conK (cs : List Int) (i : Nat) : Int := cs.getD i 0
theorem rowL_con (cs : List Int) : rowL cs.length (conK cs) = cs := by
  apply List.ext_getElem?
  intro i
  by_cases hi : i < cs.length
  · simp [rowL, hi, conK]
  · rw [List.getElem?_eq_none (by rw [rowL_len]; omega), List.getElem?_eq_none (by omega)]
theorem con_cells (cs : List Int) (h : cs.length ≤ 6) : Go.splice z6l 0 (cs.map (Value.int .i64)) = six6 (conK cs) := by
  unfold conK
  match cs, h with
  | [], _ => rfl
  | [a], _ => rfl
  | [a, b], _ => rfl
  | [a, b, c], _ => rfl
  | [a, b, c, d], _ => rfl
  | [a, b, c, d, e], _ => rfl
  | [a, b, c, d, e, f], _ => rfl
  | a :: b :: c :: d :: e :: f :: g :: r, h => simp at h
/-- What the step leaves that a law sees. -/
def stepOk (hs : List (List Int)) (ms cs : List Int) (x : Int) : Bool := isP hs ms && conB ms.length cs && Tr.isA x
def stepV (hs : List (List Int)) (ms cs : List Int) (x : Int) : List Int := if stepOk hs ms cs x then rowL ms.length (stN hs ms (conK cs) x) else []
def stepH (hs : List (List Int)) (ms cs : List Int) (x : Int) : Bool := stepOk hs ms cs x && hitB ms.length (conK cs) x
theorem stepV_no {hs : List (List Int)} {ms cs : List Int} {x : Int} (h : stepOk hs ms cs x = false) : stepV hs ms cs x = [] ∧ stepH hs ms cs x = false := by
  unfold stepV stepH; rw [h]; exact ⟨rfl, rfl⟩
theorem stepV_yes {hs : List (List Int)} {ms cs : List Int} {x : Int} (h : stepOk hs ms cs x = true) : stepV hs ms cs x = rowL ms.length (stN hs ms (conK cs) x) ∧ stepH hs ms cs x = hitB ms.length (conK cs) x := by
  unfold stepV stepH; rw [h]; exact ⟨rfl, rfl⟩
/-- What a function leaves that returns a list and two flags. -/
def ResH (xs : List Int) (hit ok : Bool) (w : World) (e : Ending) (w' : World) : Prop := ∃ v, e = .returned (.tuple #[v, .bool hit, .bool ok]) ∧ OwnW w' w.heap.size v xs ∧ Below w.heap.size w w'
theorem con_len {n : Nat} {xs : List Int} (h : conB n xs = true) : xs.length = n := by unfold conB at h; rw [Bool.and_eq_true] at h; exact of_decide_eq_true h.1
end Go.Proofs.Ytimfekedpgllhaa.Pv
