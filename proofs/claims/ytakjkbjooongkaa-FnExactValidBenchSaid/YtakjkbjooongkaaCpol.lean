/- Policies of the call's own, as values: the law's comparison, marks and look-through. -/
import Derived.Test.YtakjkbjooongkaaCow2
namespace Go.Proofs.Ytakjkbjooongkaa
open Go.RowKit
/-- Only blocks from B to T have been written, and new ones made. -/
structure Wr (B T : Nat) (w w' : World) : Prop where
  os : w'.os = w.os
  tape : w'.tape = w.tape
  output : w'.output = w.output
  size : w.heap.size ≤ w'.heap.size
  block : ∀ b, b < w.heap.size → b < B ∨ T ≤ b → w'.heap[b]? = w.heap[b]?
theorem Wr.below {B T : Nat} {w w' : World} (h : Wr B T w w') (hB : B ≤ w.heap.size) : Below B w w' := ⟨h.os, h.tape, h.output, h.size, fun b hb => h.block b (by omega) (.inl hb)⟩
theorem Wr.belowT {B T C : Nat} {w0 w w' : World} (h : Wr B T w w') (hb : Below C w0 w) (hC : C ≤ B) (hw : C ≤ w.heap.size) : Below C w0 w' :=
  hb.trans ⟨h.os, h.tape, h.output, h.size, fun b hb => h.block b (by omega) (.inl (by omega))⟩
theorem Wr.trans {B T : Nat} {a b c : World} (h : Wr B T a b) (k : Wr B T b c) : Wr B T a c :=
  ⟨k.os.trans h.os, k.tape.trans h.tape, k.output.trans h.output, Nat.le_trans h.size k.size, fun i hi hr => (k.block i (Nat.lt_of_lt_of_le hi h.size) hr).trans (h.block i hi hr)⟩
theorem Wr.alloc (B T : Nat) (w : World) (o : Obj) : Wr B T w (w.alloc o) := ⟨rfl, rfl, rfl, by simp, fun b hb _ => Below.heap_alloc w o b hb⟩
theorem OwnW.wr {w w' : World} {B T C U : Nat} {v : Value} {xs : List Int} (h : OwnW w C v xs) (hW : Wr B T w w') (hU : ∀ k, v.ownBlock = some k → k < U) (hd : U ≤ B ∨ T ≤ C) : OwnW w' C v xs :=
  h.same fun b hb hlt => hW.block b hlt (by have h1 := h.block b hb; have h2 := hU b hb; omega)
theorem Own2W.wr {w w' : World} {B T C U : Nat} {v : Value} {vs : List Value} {xss : List (List Int)} (h : Own2W w C v vs xss) (hW : Wr B T w w') (hU : ∀ k, v.ownBlock = some k → k < U) (hV : ∀ i k, i < xss.length → (vs.getD i s0).ownBlock = some k → k < U) (hd : U ≤ B ∨ T ≤ C) : Own2W w' C v vs xss := by
  obtain ⟨hl, h0, h1, h2, h3⟩ := h
  refine ⟨hl, ⟨h0.1, ?_⟩, fun i hi => (h1 i hi).wr hW (fun k hk => hV i k hi hk) hd, h2, h3⟩
  rcases h0.2 with hn | ⟨g, cap, cur, hv, hg, hh, r⟩
  · exact .inl hn
  · refine .inr ⟨g, cap, cur, hv, hg, ?_, r⟩
    have := hU g (by rw [hv]; rfl)
    rw [hW.block g (Array.getElem?_eq_some_iff.1 hh).1 (by omega)]
    exact hh
/-- v is a policy of the call's own, in blocks from B to T. -/
def OwnP (w : World) (B T : Nat) (v : Value) (hs : List (List Int)) (ms : List Int) : Prop :=
  ∃ h m vs, v = .agg #[h, m] ∧ Own2W w B h vs hs ∧ OwnW w B m ms ∧ (∀ b, m.ownBlock = some b → h.ownBlock ≠ some b ∧ ∀ i, i < hs.length → (vs.getD i s0).ownBlock ≠ some b) ∧
    (∀ k, m.ownBlock = some k → k < T) ∧ (∀ k, h.ownBlock = some k → k < T) ∧ ∀ i k, i < hs.length → (vs.getD i s0).ownBlock = some k → k < T
theorem OwnP.wr {w w' : World} {B T C U : Nat} {v : Value} {hs : List (List Int)} {ms : List Int} (h : OwnP w C U v hs ms) (hW : Wr B T w w') (hd : U ≤ B ∨ T ≤ C) : OwnP w' C U v hs ms := by
  obtain ⟨hh, m, vs, e, h1, h2, h3, h4, h5, h6⟩ := h
  exact ⟨hh, m, vs, e, h1.wr hW h5 h6 hd, h2.wr hW h4 hd, h3, h4, h5, h6⟩
theorem OwnP.below {w w' : World} {B T C : Nat} {v : Value} {hs : List (List Int)} {ms : List Int} (h : OwnP w B T v hs ms) (hb : Below C w w') (hC : w.heap.size ≤ C) : OwnP w' B T v hs ms := by
  obtain ⟨hh, m, vs, e, h1, h2, h3, h4⟩ := h
  exact ⟨hh, m, vs, e, Own2W.below h1 hb hC, h2.below hb hC, h3, h4⟩
theorem OwnP.form {w : World} {B T : Nat} {v : Value} {hs : List (List Int)} {ms : List Int} (h : OwnP w B T v hs ms) : ∃ a n c a' n' c', v = .agg #[.slice a n c, .slice a' n' c'] := by
  obtain ⟨hh, m, vs, e, h1, h2, _⟩ := h
  obtain ⟨a, n, c, e1⟩ : ∃ a n c, hh = .slice a n c := by
    rcases h1.cases with ⟨rfl, _⟩ | ⟨g, cap, rfl, _⟩ <;> exact ⟨_, _, _, rfl⟩
  obtain ⟨a', n', c', e2⟩ : ∃ a n c, m = .slice a n c := by
    rcases h2.cases with ⟨rfl, _⟩ | ⟨g, cap, rfl, _⟩ <;> exact ⟨_, _, _, rfl⟩
  exact ⟨a, n, c, a', n', c', by rw [e, e1, e2]⟩
/-- What a function leaves that returns a policy of its own and whether it succeeded. -/
def ResP (hs : List (List Int)) (ms : List Int) (ok : Bool) (w : World) (e : Ending) (w' : World) : Prop := ∃ v, e = .returned (.tuple #[v, .bool ok]) ∧ OwnP w' w.heap.size w'.heap.size v hs ms ∧ Below w.heap.size w w'
theorem OwnP.nil (w : World) (B T : Nat) : OwnP w B T (.agg #[.slice none 0 0, .slice none 0 0]) [] [] :=
  ⟨_, _, [], rfl, Own2W.nil w B, OwnW.nil w B, fun b h => by simp [Value.ownBlock] at h, fun k h => by simp [Value.ownBlock] at h, fun k h => by simp [Value.ownBlock] at h, fun i k h => by simp at h⟩
def BbP (b : Bool) (w : World) (e : Ending) (w' : World) : Prop := e = .returned (.bool b) ∧ Below w.heap.size w w'
theorem eqP_own {w : World} {B1 T1 B2 T2 : Nat} {v1 v2 : Value} {hs : List (List Int)} {ms : List Int} (o1 : OwnP w B1 T1 v1 hs ms) (o2 : OwnP w B2 T2 v2 hs ms) :
    Calls Try.prog 17 #[v1, v2] w (BbP true w) := by
  obtain ⟨h1, m1, vs1, rfl, p1, q1, _⟩ := o1
  obtain ⟨h2, m2, vs2, rfl, p2, q2, _⟩ := o2
  have HH := Lib.hid (fun (w' : World) (hb : Below w.heap.size w w') => eq2_ownW (Own2W.below p1 hb (Nat.le_refl _)) (Own2W.below p2 hb (Nat.le_refl _)))
  have HM := Lib.hid (fun (w' : World) (hb : Below w.heap.size w w') => eq_ownW (q1.below hb (Nat.le_refl _)) (q2.below hb (Nat.le_refl _)))
  have b0 : Below w.heap.size w ((w.alloc (.cells #[h1, m1] 32)).alloc (.cells #[h2, m2] 32)) := ((Below.refl _ _).alloc (Nat.le_refl _) _).alloc (by simp) _
  clear p1 q1 p2 q2
  go_enter Try.func17, Try.ntmps17
  go_wp2_with fail
  refine (HH.out _ b0).mono ?_; rintro e w1 ⟨k1, rfl, rfl⟩
  have b1 := below_drewN k1 b0
  go_wp2_with fail
  refine (HM.out _ b1).mono ?_; rintro e w2 ⟨k2, rfl, rfl⟩
  have b2 := below_drewN k2 b1
  go_wp2
  go_ret
  exact ⟨rfl, by first | exact b2 | (rw [← World.drewN_drewN]; exact b2)⟩
/-- The marks that a policy holds when it has been marked from 1 on. -/
def mkH (hs : List (List Int)) : List (List Int) := mk2 1 (hs.map List.length)
def mkN (hs : List (List Int)) : Nat := 1 + (hs.map List.length).sum
theorem mkH_length (hs : List (List Int)) : (mkH hs).length = hs.length := by unfold mkH; rw [mk2_length, List.length_map]
def MarkedP (B T : Nat) (v : Value) (hs : List (List Int)) (ms : List Int) (K : Nat) (w : World) (e : Ending) (w' : World) : Prop :=
  e = .returned (.int .i64 ((K : Nat) + (ms.length : Int))) ∧ OwnP w' B T v (mkH hs) (marks K ms.length) ∧ Wr B T w w'
end Go.Proofs.Ytakjkbjooongkaa
