/- Functions of a graph, by both sides: whether it is valid, its sources and outputs, a bound of transfers. -/
import Derived.Test.YtepobkflahjldaaCgml
import Derived.Test.YtepobkflahjldaaCgam2
namespace Go.Proofs.Ytepobkflahjldaa.Pb
open Go.RowKit Pv
def srcV (bs : List (List Int)) : Nat := if okG bs then src bs bs.length else 0
def outV (bs : List (List Int)) : Nat := if okG bs then out bs bs.length else 0
theorem srcV_lt (bs : List (List Int)) : srcV bs < 64 := by
  unfold srcV
  split
  · exact src_lt _ _ (okG_len (by assumption)).2
  · omega
theorem outV_lt (bs : List (List Int)) : outV bs < 64 := by
  unfold outV
  split
  · exact out_lt _ _ (okG_len (by assumption)).2
  · omega
theorem bitL_zero : bitL 0 6 = [] := by decide
/-- A game as gameOf leaves it with all places. -/
theorem gmB_form (bs : List (List Int)) : ∃ n q f, gmB (okG bs && inP 6) bs 6 = gm n q f (srcV bs) (outV bs) ∧ (okG bs && inP 6) = okG bs ∧ n ≤ 6 ∧ (okG bs = true → n = bs.length ∧ f = ndF bs bs.length) := by
  have h6 : inP 6 = true := by decide
  rw [h6, Bool.and_true]
  unfold gmB srcV outV
  cases h : okG bs
  · exact ⟨0, 0, fun _ => 0, rfl, rfl, by omega, fun e => by cases e⟩
  · exact ⟨bs.length, 6, ndF bs bs.length, rfl, rfl, (okG_len h).2, fun _ => ⟨rfl, rfl⟩⟩
def ResG (xs : List Int) (ok : Bool) (w : World) (e : Ending) (w' : World) : Prop := ∃ v, e = .returned (.tuple #[v, .bool ok]) ∧ OwnW w' w.heap.size v xs ∧ Below w.heap.size w w'
def IbG (n : Int) (ok : Bool) (w : World) (e : Ending) (w' : World) : Prop := e = .returned (.tuple #[.int .i64 n, .bool ok]) ∧ Below w.heap.size w w'
theorem RdG.boxed {w : World} {a : Option Addr} {c : Nat} {bs : List (List Int)} (h : RdR w a bs) (t : TypeId) :
    ((w.alloc (.cells #[.slice a bs.length c] t)).cell? ⟨w.heap.size, 0, none⟩ = some (.slice a bs.length c) ∧ RdR (w.alloc (.cells #[.slice a bs.length c] t)) a bs ∧ w.heap.size < (w.alloc (.cells #[.slice a bs.length c] t)).heap.size) ∧ Below w.heap.size w (w.alloc (.cells #[.slice a bs.length c] t)) := by
  have b0 : Below w.heap.size w (w.alloc (.cells #[.slice a bs.length c] t)) := (Below.refl _ w).alloc (Nat.le_refl _) _
  exact ⟨⟨(Blk.newAt w _ [.slice a bs.length c] t rfl).cell 0, RdR.below h b0, by simp⟩, b0⟩
/-- The program's call of gameOf with all places, its result stored. -/
theorem game6 (a : Option Addr) (c : Nat) (bs : List (List Int)) (w : World) (hh : RdR w a bs) (hl : bs.length ≤ 1048576) : ∃ n q f, n ≤ 6 ∧ (okG bs = true → n = bs.length ∧ f = ndF bs bs.length) ∧
    Calls Try.prog 27 #[.agg #[.slice a bs.length c], .int .i64 6] w (fun e w' => e = .returned (.tuple #[.agg (gm n q f (srcV bs) (outV bs)).toArray, .bool (okG bs)]) ∧ Below w.heap.size w w') := by
  obtain ⟨n, q, f, h1, h2, h3, h4⟩ := gmB_form bs
  refine ⟨n, q, f, h3, h4, ?_⟩
  have := game_i a c bs 6 w hh hl
  unfold GamP at this
  rw [h1, h2] at this
  exact this

end Go.Proofs.Ytepobkflahjldaa.Pb
