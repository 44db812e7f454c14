/- The program's clock: its block, the hand, the victim. -/
import Derived.Test.YtdjkmffekfbbcaaCclf
import Derived.Test.YtdjkmffekfbbcaaCblk
import Derived.Defers
import Derived.IntWalk
import Derived.Deep.RegionLaw
namespace Go.Proofs.Ytdjkmffekfbbcaa.Ck
open Go.RowKit
theorem blk_setk {w : World} {b j : Nat} {cs : List Value} {t : TypeId} (h : Blk w b cs t) (v : Value) : Blk (w.setCell ⟨b, j, none⟩ v) b (cs.set j v) t := by
  have := Go.heap_setCell_same w b j cs.toArray t v h
  unfold Blk
  rw [this]; simp
/-- The program's memory with a clock. -/
structure Ckm (xo : Option (Nat × Option Obj)) (n B r : Nat) (fv lv : Value) (S : CkS) (w0 w : World) : Prop where
  blk : Blk w r [fv, .int .i64 (n : Int), .int .i64 (S.h : Int), lv, .int .i64 (S.b : Int)] 57
  fs : OwnF w B fv S.p
  ol : Own w B lv S.fl
  ne1 : fv.ownBlock ≠ some r
  ne2 : lv.ownBlock ≠ some r
  sep : ∀ k, fv.ownBlock = some k → lv.ownBlock ≠ some k
  hB : B ≤ r
  bl : Below B w0 w
  x : ∀ q, xo = some q → w.heap[q.1]? = q.2 ∧ q.1 < w.heap.size ∧ q.1 ≠ r ∧ fv.ownBlock ≠ some q.1 ∧ lv.ownBlock ≠ some q.1
theorem Ckm.drewN {xo : Option (Nat × Option Obj)} {n B r : Nat} {fv lv : Value} {S : CkS} {w0 w : World} (h : Ckm xo n B r fv lv S w0 w) (q : Nat) : Ckm xo n B r fv lv S w0 (w.drewN q) := ⟨h.blk, h.fs.same fun _ _ => rfl, own_same1 h.ol fun _ _ => rfl, h.ne1, h.ne2, h.sep, h.hB, h.bl.trans (below_drewN q (Below.refl _ _)), h.x⟩
theorem Ckm.drew {xo : Option (Nat × Option Obj)} {n B r : Nat} {fv lv : Value} {S : CkS} {w0 w : World} (h : Ckm xo n B r fv lv S w0 w) : Ckm xo n B r fv lv S w0 w.drew := ⟨h.blk, h.fs.same fun _ _ => rfl, own_same1 h.ol fun _ _ => rfl, h.ne1, h.ne2, h.sep, h.hB, h.bl.trans (Below.refl _ _).drew, h.x⟩
theorem Ckm.below {xo : Option (Nat × Option Obj)} {n B r : Nat} {fv lv : Value} {S : CkS} {w0 w : World} (h : Ckm xo n B r fv lv S w0 w) {w' : World} (hb : Below w.heap.size w w') : Ckm xo n B r fv lv S w0 w' :=
  ⟨h.blk.below hb h.blk.lt, h.fs.same fun k hk => hb.block k (h.fs.block k hk).2, own_same1 h.ol fun k hk => hb.block k (h.ol.block k hk).2, h.ne1, h.ne2, h.sep, h.hB, h.bl.trans (hb.mono (by have := h.blk.lt; have := h.hB; omega)), fun q hq => by obtain ⟨a1, a2, a3⟩ := h.x q hq; exact ⟨(hb.block q.1 a2).trans a1, Nat.lt_of_lt_of_le a2 hb.size, a3⟩⟩
theorem Ckm.cell {xo : Option (Nat × Option Obj)} {n B r : Nat} {fv lv : Value} {S : CkS} {w0 w : World} (h : Ckm xo n B r fv lv S w0 w) : w.cell? ⟨r, 0, none⟩ = some fv ∧ w.cell? ⟨r, 1, none⟩ = some (.int .i64 (n : Int)) ∧ w.cell? ⟨r, 2, none⟩ = some (.int .i64 (S.h : Int)) ∧ w.cell? ⟨r, 3, none⟩ = some lv ∧ w.cell? ⟨r, 4, none⟩ = some (.int .i64 (S.b : Int)) :=
  ⟨h.blk.cell 0, h.blk.cell 1, h.blk.cell 2, h.blk.cell 3, h.blk.cell 4⟩
theorem Ckm.own {xo : Option (Nat × Option Obj)} {n B r : Nat} {fv lv : Value} {S : CkS} {w0 w : World} (h : Ckm xo n B r fv lv S w0 w) {j : Nat} {u v1 v2 v3 v4 v5 : Value} {S' : CkS} (e : [fv, .int .i64 (n : Int), .int .i64 (S.h : Int), lv, .int .i64 (S.b : Int)].set j u = [fv, .int .i64 (n : Int), .int .i64 (S'.h : Int), lv, .int .i64 (S'.b : Int)]) (e1 : S'.p = S.p) (e2 : S'.fl = S.fl) : Ckm xo n B r fv lv S' w0 (w.setCell ⟨r, j, none⟩ u) := by
  have hkp : Keep r w (w.setCell ⟨r, j, none⟩ u) := keep_set r [u] j w
  refine ⟨?_, ?_, ?_, h.ne1, h.ne2, h.sep, h.hB, h.bl.trans (hkp.below h.hB), fun q hq => by obtain ⟨a1, a2, a3, a4⟩ := h.x q hq; exact ⟨(hkp.block q.1 a3).trans a1, by rw [hkp.size]; exact a2, a3, a4⟩⟩
  · have := blk_setk (j := j) h.blk u
    rw [e] at this
    exact this
  · rw [e1]; exact h.fs.same fun k hk => hkp.block k (fun e => h.ne1 (by rw [hk, e]))
  · rw [e2]; exact own_same1 h.ol fun k hk => hkp.block k (fun e => h.ne2 (by rw [hk, e]))
theorem Ckm.setH {xo : Option (Nat × Option Obj)} {n B r : Nat} {fv lv : Value} {S : CkS} {w0 w : World} (h : Ckm xo n B r fv lv S w0 w) (m : Nat) : Ckm xo n B r fv lv { S with h := m } w0 (w.setCell ⟨r, 2, none⟩ (.int .i64 (m : Int))) :=
  h.own (v1 := undef) (v2 := undef) (v3 := undef) (v4 := undef) (v5 := undef) rfl rfl rfl
theorem Ckm.setB {xo : Option (Nat × Option Obj)} {n B r : Nat} {fv lv : Value} {S : CkS} {w0 w : World} (h : Ckm xo n B r fv lv S w0 w) (m : Nat) : Ckm xo n B r fv lv { S with b := m } w0 (w.setCell ⟨r, 4, none⟩ (.int .i64 (m : Int))) :=
  h.own (v1 := undef) (v2 := undef) (v3 := undef) (v4 := undef) (v5 := undef) rfl rfl rfl
theorem Ckm.stF {xo : Option (Nat × Option Obj)} {n B r : Nat} {fv lv : Value} {S : CkS} {w0 w : World} (h : Ckm xo n B r fv lv S w0 w) {w' : World} {p' : List Pf} {fv' : Value} (hst : ∀ b, b < w.heap.size → fv.ownBlock ≠ some b → w'.heap[b]? = w.heap[b]?) (hbl : Below B w w') (_hof : OwnF w' B fv' p') (hk : ∀ k, fv'.ownBlock = some k → fv.ownBlock = some k ∨ w.heap.size ≤ k) :
    Blk w' r [fv, .int .i64 (n : Int), .int .i64 (S.h : Int), lv, .int .i64 (S.b : Int)] 57 ∧ Own w' B lv S.fl ∧ fv'.ownBlock ≠ some r ∧ (∀ k, fv'.ownBlock = some k → lv.ownBlock ≠ some k) ∧ Below B w0 w' ∧ (∀ q, xo = some q → w'.heap[q.1]? = q.2 ∧ q.1 < w'.heap.size ∧ q.1 ≠ r ∧ fv'.ownBlock ≠ some q.1 ∧ lv.ownBlock ≠ some q.1) := by
  refine ⟨(hst r h.blk.lt h.ne1).trans h.blk, own_same1 h.ol fun k hk2 => hst k (h.ol.block k hk2).2 (fun e => h.sep k e hk2), fun e => ?_, fun k hk1 hk2 => ?_, h.bl.trans hbl, fun q hq => by
    obtain ⟨a1, a2, a3, a4, a5⟩ := h.x q hq
    refine ⟨(hst q.1 a2 a4).trans a1, Nat.lt_of_lt_of_le a2 hbl.size, a3, fun e => ?_, a5⟩
    rcases hk q.1 e with h1 | h1
    · exact a4 h1
    · omega⟩
  · rcases hk r e with h1 | h1
    · exact h.ne1 h1
    · have := h.blk.lt; omega
  · rcases hk k hk1 with h1 | h1
    · exact h.sep k h1 hk2
    · have := (h.ol.block k hk2).2; omega
theorem Ckm.elemF {xo : Option (Nat × Option Obj)} {n B r : Nat} {fv lv : Value} {S : CkS} {w0 w : World} (h : Ckm xo n B r fv lv S w0 w) {g a : Nat} {u : Value} {p' : List Pf} (hx : fv.ownBlock = some g) (hBg : B ≤ g) (hv : OwnF (w.setCell ⟨g, a, none⟩ u) B fv p') : Ckm xo n B r fv lv { S with p := p' } w0 (w.setCell ⟨g, a, none⟩ u) := by
  have hkp : Keep g w (w.setCell ⟨g, a, none⟩ u) := keep_set g [u] a w
  obtain ⟨h1, h2, h3, h4, h5, h6⟩ := h.stF (w' := w.setCell ⟨g, a, none⟩ u) (fun b _ hb => hkp.block b (fun e => hb (by rw [hx, e]))) (hkp.below hBg) hv (fun k hk => .inl hk)
  exact ⟨h1, hv, h2, h3, h.ne2, h4, h.hB, h5, h6⟩
theorem Ckm.replF {xo : Option (Nat × Option Obj)} {n B r : Nat} {fv lv : Value} {S : CkS} {w0 w : World} (h : Ckm xo n B r fv lv S w0 w) {w' : World} {p' : List Pf} {fv' : Value} (hst : ∀ b, b < w.heap.size → fv.ownBlock ≠ some b → w'.heap[b]? = w.heap[b]?) (hbl : Below B w w') (hof : OwnF w' B fv' p') (hk : ∀ k, fv'.ownBlock = some k → fv.ownBlock = some k ∨ w.heap.size ≤ k) :
    w'.cell? ⟨r, 0, none⟩ = some fv ∧ w'.frozen? ⟨r, 0, none⟩ = false ∧ Ckm xo n B r fv' lv { S with p := p' } w0 (w'.setCell ⟨r, 0, none⟩ fv') := by
  obtain ⟨h1, h2, h3, h4, h5, h6⟩ := h.stF hst hbl hof hk
  have hkp : Keep r w' (w'.setCell ⟨r, 0, none⟩ fv') := keep_set r [fv'] 0 w'
  exact ⟨h1.cell 0, h1.froz 0, blk_setk (j := 0) h1 fv', hof.same fun k hk => hkp.block k (fun e => h3 (by rw [hk, e])), own_same1 h2 fun k hk => hkp.block k (fun e => h.ne2 (by rw [hk, e])), h3, h.ne2, h4, h.hB, h5.trans (hkp.below h.hB), fun q hq => by obtain ⟨a1, a2, a3, a4⟩ := h6 q hq; exact ⟨(hkp.block q.1 a3).trans a1, by rw [hkp.size]; exact a2, a3, a4⟩⟩
theorem Ckm.replL {xo : Option (Nat × Option Obj)} {n B r : Nat} {fv lv : Value} {S : CkS} {w0 w : World} (h : Ckm xo n B r fv lv S w0 w) {w' : World} {fl' : List Int} {lv' : Value} (hst : ∀ b, b < w.heap.size → lv.ownBlock ≠ some b → w'.heap[b]? = w.heap[b]?) (hbl : Below B w w') (hol : Own w' B lv' fl') (hk : ∀ k, lv'.ownBlock = some k → lv.ownBlock = some k ∨ w.heap.size ≤ k) :
    w'.cell? ⟨r, 3, none⟩ = some lv ∧ w'.frozen? ⟨r, 3, none⟩ = false ∧ Ckm xo n B r fv lv' { S with fl := fl' } w0 (w'.setCell ⟨r, 3, none⟩ lv') := by
  have h1 : Blk w' r _ 57 := (hst r h.blk.lt h.ne2).trans h.blk
  have h2 := h.fs.same (w' := w') fun k hk2 => hst k (h.fs.block k hk2).2 (fun e => h.sep k hk2 e)
  have hn : lv'.ownBlock ≠ some r := fun e => by
    rcases hk r e with h1 | h1
    · exact h.ne2 h1
    · have := h.blk.lt; omega
  have hkp : Keep r w' (w'.setCell ⟨r, 3, none⟩ lv') := keep_set r [lv'] 3 w'
  refine ⟨h1.cell 3, h1.froz 3, blk_setk (j := 3) h1 lv', h2.same fun k hk => hkp.block k (fun e => h.ne1 (by rw [hk, e])), own_same1 hol fun k hk => hkp.block k (fun e => hn (by rw [hk, e])), h.ne1, hn, fun k hk1 hk2 => ?_, h.hB, (h.bl.trans hbl).trans (hkp.below h.hB), fun q hq => by
    obtain ⟨a1, a2, a3, a4, a5⟩ := h.x q hq
    refine ⟨((hkp.block q.1 a3).trans (hst q.1 a2 a5)).trans a1, by rw [hkp.size]; exact Nat.lt_of_lt_of_le a2 hbl.size, a3, a4, fun e => ?_⟩
    rcases hk q.1 e with h1 | h1
    · exact a5 h1
    · omega⟩
  rcases hk k hk2 with h3 | h3
  · exact h.sep k hk1 h3
  · have := (h.fs.block k hk1).2; omega
/-- A frame, wherever it is: cells and stores. -/
theorem Ckm.fr {xo : Option (Nat × Option Obj)} {n B r : Nat} {fv lv : Value} {S : CkS} {w0 w : World} (h : Ckm xo n B r fv lv S w0 w) (j : Nat) (hj : j < S.p.length) : ∃ g c, fv = .slice (some ⟨g, 0, none⟩) S.p.length c ∧ g ≠ r ∧
      (w.cell? ⟨g, j * 3, none⟩ = some (.int .i64 (pgA S.p j)) ∧ w.cell? ⟨g, j * 3 + 1, none⟩ = some (.bool (mkd S.p j)) ∧ w.cell? ⟨g, j * 3 + 2, none⟩ = some (.bool (wrt S.p j))) ∧ (∀ i, w.frozen? ⟨g, i, none⟩ = false) ∧
      (∀ x, Ckm xo n B r fv lv { S with p := S.p.set j (x, mkd S.p j, wrt S.p j) } w0 (w.setCell ⟨g, j * 3, none⟩ (.int .i64 x))) ∧
      (∀ b, Ckm xo n B r fv lv { S with p := S.p.set j (pgA S.p j, b, wrt S.p j) } w0 (w.setCell ⟨g, j * 3 + 1, none⟩ (.bool b))) ∧
      (∀ b, Ckm xo n B r fv lv { S with p := S.p.set j (pgA S.p j, mkd S.p j, b) } w0 (w.setCell ⟨g, j * 3 + 2, none⟩ (.bool b))) := by
  obtain ⟨g, c, hv, hBg, hg, h1, h2, h3, h4, h5⟩ := h.fs.elem j hj
  exact ⟨g, c, hv, fun e => h.ne1 (by rw [hv, ← e]; rfl), h1, h2, fun x => h.elemF (by rw [hv]; rfl) hBg (h3 x), fun x => h.elemF (by rw [hv]; rfl) hBg (h4 x), fun x => h.elemF (by rw [hv]; rfl) hBg (h5 x)⟩
theorem tmod_nat (a b : Nat) : ((a : Int) + 1).tmod (b : Int) = (((a + 1) % b : Nat) : Int) := by
  rw [show (a : Int) + 1 = ((a + 1 : Nat) : Int) by omega]
  exact (Int.ofNat_tmod _ _).symm

theorem move_i {xo : Option (Nat × Option Obj)} {n B r : Nat} {fv lv : Value} {S : CkS} {w0 w : World} (h : Ckm xo n B r fv lv S w0 w) (hp : 0 < S.p.length) (hp2 : S.p.length ≤ 16) (hh : S.h ≤ 16) :
    Calls Try.prog 72 #[.pointer (some ⟨r, 0, none⟩)] w (fun e w2 => e = .returned (.tuple #[]) ∧ Ckm xo n B r fv lv { S with h := (S.h + 1) % S.p.length } w0 w2) := by
  obtain ⟨c0, _, c2, _, _⟩ := h.cell
  have f2 := h.blk.froz 2
  obtain ⟨a, c, e⟩ := h.fs.form
  have HM := Lib.hid (h.drew.setH ((S.h + 1) % S.p.length))
  have HN := Lib.hid ((h.setH ((S.h + 1) % S.p.length)).drew)
  rw [e] at c0
  clear h e
  generalize hl : S.p.length = L at *
  clear hl
  have e1 : IntKind.i64.wrap ((S.h : Int) + 1) = (S.h : Int) + 1 := IntWalk.i64_in _ (by omega)
  have e2 := tmod_nat S.h L
  have hlt := Nat.mod_lt (S.h + 1) hp
  have e3 : IntKind.i64.wrap (((S.h + 1) % L : Nat) : Int) = (((S.h + 1) % L : Nat) : Int) := IntWalk.i64_in _ (by omega)
  have hL0 : ¬ ((L : Int) = 0) := by omega
  have hL1 : ((L : Int) == 0) = false := by simp; omega
  have hL2 : 0 < (L : Int) := by omega
  generalize (S.h + 1) % L = m at *
  generalize S.h = hh0 at *
  go_enter Try.func72, Try.ntmps72
  go_wp2
  go_region
  all_goals
    go_wp2
    go_end0
    exact ⟨rfl, HM.out⟩
theorem moveD_i {xo : Option (Nat × Option Obj)} {n B r : Nat} {fv lv : Value} {S : CkS} {w0 w : World} (h : Ckm xo n B r fv lv S w0 w) (u : FrameMode) (hp : 0 < S.p.length) (hp2 : S.p.length ≤ 16) (hh : S.h ≤ 16) :
    CallsD Try.prog 72 #[.pointer (some ⟨r, 0, none⟩)] u w (fun e u2 w2 => u2 = u ∧ (e = .returned (.tuple #[]) ∧ Ckm xo n B r fv lv { S with h := (S.h + 1) % S.p.length } w0 w2)) := by
  obtain ⟨c0, _, c2, _, _⟩ := h.cell
  have f2 := h.blk.froz 2
  obtain ⟨a, c, e⟩ := h.fs.form
  have HM := Lib.hid (h.drew.setH ((S.h + 1) % S.p.length))
  have HN := Lib.hid ((h.setH ((S.h + 1) % S.p.length)).drew)
  rw [e] at c0
  clear h e
  generalize hl : S.p.length = L at *
  clear hl
  have e1 : IntKind.i64.wrap ((S.h : Int) + 1) = (S.h : Int) + 1 := IntWalk.i64_in _ (by omega)
  have e2 := tmod_nat S.h L
  have hlt := Nat.mod_lt (S.h + 1) hp
  have e3 : IntKind.i64.wrap (((S.h + 1) % L : Nat) : Int) = (((S.h + 1) % L : Nat) : Int) := IntWalk.i64_in _ (by omega)
  have hL0 : ¬ ((L : Int) = 0) := by omega
  have hL1 : ((L : Int) == 0) = false := by simp; omega
  have hL2 : 0 < (L : Int) := by omega
  generalize (S.h + 1) % L = m at *
  generalize S.h = hh0 at *
  go_enter_d Try.func72, Try.ntmps72
  go_wp2
  go_region
  all_goals
    go_wp2
    go_end0
    first | exact ⟨rfl, rfl, HM.out⟩ | exact HM.out | exact ⟨rfl, rfl, HN.out⟩ | exact ⟨rfl, HN.out⟩ | exact HN.out
theorem Ckm.frg {xo : Option (Nat × Option Obj)} {n B r : Nat} {fv lv : Value} {S : CkS} {w0 w : World} (h : Ckm xo n B r fv lv S w0 w) {g m c : Nat} (e : fv = .slice (some ⟨g, 0, none⟩) m c) (j : Nat) (hj : j < S.p.length) : g ≠ r ∧
      (w.cell? ⟨g, j * 3, none⟩ = some (.int .i64 (pgA S.p j)) ∧ w.cell? ⟨g, j * 3 + 1, none⟩ = some (.bool (mkd S.p j)) ∧ w.cell? ⟨g, j * 3 + 2, none⟩ = some (.bool (wrt S.p j))) ∧ (∀ i, w.frozen? ⟨g, i, none⟩ = false) ∧
      (∀ x, Ckm xo n B r fv lv { S with p := S.p.set j (x, mkd S.p j, wrt S.p j) } w0 (w.setCell ⟨g, j * 3, none⟩ (.int .i64 x))) ∧
      (∀ b, Ckm xo n B r fv lv { S with p := S.p.set j (pgA S.p j, b, wrt S.p j) } w0 (w.setCell ⟨g, j * 3 + 1, none⟩ (.bool b))) ∧
      (∀ b, Ckm xo n B r fv lv { S with p := S.p.set j (pgA S.p j, mkd S.p j, b) } w0 (w.setCell ⟨g, j * 3 + 2, none⟩ (.bool b))) := by
  obtain ⟨g', c', e', h1⟩ := h.fr j hj
  rw [e] at e'
  injection e' with e1
  injection e1 with e1
  injection e1 with e1
  subst e1
  exact h1
/-- How many marks there are, as the memory tells. -/
def mW (g : Nat) (w : World) : Nat → Nat
  | 0 => 0
  | j + 1 => mW g w j + (match w.cell? ⟨g, j * 3 + 1, none⟩ with | some (.bool true) => 1 | _ => 0)
theorem mW_cnt (g : Nat) (w : World) (p : List Pf) (h : ∀ j, j < p.length → w.cell? ⟨g, j * 3 + 1, none⟩ = some (.bool (mkd p j))) : mW g w p.length = cnt p := by
  have key : ∀ j, j ≤ p.length → mW g w j = (p.take j).countP (fun f => f.2.1) := fun j => by
    induction j with
    | zero => intro _; rfl
    | succ j ih =>
      intro hj
      rw [mW, ih (by omega), h j (by omega), List.take_succ_eq_append_getElem (by omega), List.countP_append]
      have e : mkd p j = (p[j]).2.1 := by unfold mkd; rw [List.getD_eq_getElem?_getD, List.getElem?_eq_getElem (by omega)]; rfl
      rw [e]
      cases hq : (p[j]).2.1 <;> simp [List.countP_cons, hq]
  rw [key p.length (Nat.le_refl _), List.take_length]; rfl
theorem Ckm.cnt {xo : Option (Nat × Option Obj)} {n B r : Nat} {fv lv : Value} {S : CkS} {w0 w : World} (h : Ckm xo n B r fv lv S w0 w) {g m c : Nat} (e : fv = .slice (some ⟨g, 0, none⟩) m c) : mW g w S.p.length = cnt S.p := mW_cnt g w S.p fun j hj => (h.frg e j hj).2.1.2.1
set_option maxRecDepth 100000 in
set_option maxHeartbeats 4000000 in
theorem victim_i {xo : Option (Nat × Option Obj)} {n B r : Nat} {fv lv : Value} {S : CkS} {w0 w : World} (h : Ckm xo n B r fv lv S w0 w) (hp2 : S.p.length ≤ 16) (hh : S.h < S.p.length) :
    Calls Try.prog 68 #[.pointer (some ⟨r, 0, none⟩)] w (fun e w2 => e = .returned (.int .i64 ((V S.p S.h).2 : Int)) ∧ Ckm xo n B r fv lv { S with p := (V S.p S.h).1, h := ((V S.p S.h).2 + 1) % S.p.length } w0 w2) := by
  obtain ⟨g, c, ev, _⟩ := h.fr S.h hh
  have HV := Lib.hid ev
  have H0 : Hid (Ckm xo n B r fv lv { S with p := S.p, h := S.h } w0 w) := h
  obtain ⟨VV, hVV⟩ : ∃ VV, V S.p S.h = VV := ⟨_, rfl⟩
  have HG := Lib.hid hVV
  rw [hVV]
  clear hVV
  have hp0 : 0 < S.p.length := by omega
  clear h
  generalize hL : S.p.length = L at *
  have HL0 := Lib.hid hL
  clear hL
  go_enter_defers Try.func68, Try.ntmps68
  go_wp2
  go_loopw [4] (fun _ wr => ∃ (p : List Pf) (hd : Nat), Hid (Ckm xo n B r fv lv { S with p := p, h := hd } w0 wr) ∧ Hid (V p hd = VV) ∧ Hid (p.length = L) ∧ hd < L) (fun _ wr => mW g wr L)
  case atStart => exact ⟨S.p, S.h, H0, HG, HL0, hh⟩
  case round =>
    obtain ⟨p, hd, hI, hVV, hpl, hdl⟩ := hrel
    have hdp : hd < p.length := by rw [hpl.out]; exact hdl
    obtain ⟨c0, _, c2, _, _⟩ := hI.out.cell
    rw [HV.out] at c0
    obtain ⟨ngr, ⟨k0, k1, k2⟩, fz, _, sm, _⟩ := hI.out.drew.drew.frg HV.out hd hdp
    have k1' : wr.cell? ⟨g, hd * 3 + 1, none⟩ = some (.bool (mkd p hd)) := k1
    have fz1 : wr.frozen? ⟨g, hd * 3 + 1, none⟩ = false := fz (hd * 3 + 1)
    have hdi : (hd : Int) < (L : Int) := by omega
    cases hm : mkd p hd
    · rw [hm] at k1'
      have hV2 := V_no p hd hm
      rw [hVV.out] at hV2
      have HV2 := Lib.hid hV2
      have HMD := Lib.hid (fun q => (moveD_i (hI.out.drewN q) .returning (by show 0 < p.length; omega) (by show p.length ≤ 16; rw [hpl.out]; exact hp2) (by show hd ≤ 16; omega)))
      clear sm hV2 hm k1 k2 k0
      go_wp2
      go_quiet (fail)
      go_wp2
      rename_i nq
      refine leaves_cons (f := 72) (args := #[.pointer (some ⟨r, 0, none⟩)]) (by simp) (by simp [go_sem]) ?_
      refine (HMD.out nq).mono ?_
      rintro e u' w'' ⟨rfl, rfl, hM⟩
      refine ⟨_, results_tmp rfl _ _ _, ?_⟩
      have hM2 : Ckm xo n B r fv lv { S with p := p, h := (hd + 1) % p.length } w0 w'' := hM
      rw [hpl.out] at hM2
      rw [HV2.out]
      exact ⟨rfl, hM2⟩
    · rw [hm] at k1'
      have hst := sm false
      have hct := hI.out.cnt HV.out
      have hcl := cnt_clr p hd hdp hm
      have hV2 := V_yes p hd hdp hm
      rw [hVV.out] at hV2
      have HV2 := Lib.hid hV2
      have HMV := Lib.hid (fun (w5 : World) (h5 : Ckm xo n B r fv lv { S with p := clr p hd, h := hd } w0 w5) => move_i h5 (by show 0 < (clr p hd).length; rw [clr_length]; omega) (by show (clr p hd).length ≤ 16; rw [clr_length, hpl.out]; exact hp2) (by show hd ≤ 16; omega))
      have HST := Lib.hid (fun q => ((hI.out.drewN (q + 1)).frg HV.out hd hdp).2.2.2.2.1 false)
      have HCT := Lib.hid (And.intro hct hcl)
      have c2b : wr.cell? ⟨r, 2, none⟩ = some (.int .i64 (hd : Int)) := c2
      clear sm hV2 hm k1 k2 k0 hst hct hcl
      go_wp2
      go_quiet (fail)
      rename_i nq
      go_wp2
      go_region
      all_goals
        have HM5 := Lib.hid (HMV.out _ (HST.out nq))
        go_wp2_with fail
        refine HM5.out.mono ?_; rintro e w6 ⟨rfl, hM6⟩
        have hM7 : Ckm xo n B r fv lv { S with p := clr p hd, h := (hd + 1) % (clr p hd).length } w0 w6 := hM6
        have hct6 := hM7.cnt HV.out
        rw [clr_length, hpl.out] at hM7
        have hM7' : Ckm xo n B r fv lv { S with p := clr p hd, h := (hd + 1) % L } w0 w6 := hM7
        have HM7 := Lib.hid hM7'
        have hms : mW g w6 L < mW g wr L := by
          have h1 : mW g w6 (clr p hd).length = cnt (clr p hd) := hct6
          have h2 : mW g wr p.length = cnt p := HCT.out.1
          have h3 := HCT.out.2
          rw [clr_length, hpl.out] at h1
          rw [hpl.out] at h2
          omega
        have HMS := Lib.hid hms
        clear hM6 hM7 hM7' hct6 hms HM5 HMV HST
        go_wp2
        go_roundw
        case rel => exact ⟨clr p hd, (hd + 1) % L, HM7, Lib.hid (by rw [← hpl.out]; exact HV2.out.symm), Lib.hid (by rw [clr_length]; exact hpl.out), Nat.mod_lt _ hp0⟩
        case measure => exact HMS.out
end Go.Proofs.Ytdjkmffekfbbcaa.Ck
