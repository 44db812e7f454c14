/- The listed error of pages, and a world in which it lies as its initialiser lays it; a space that comes in, opened. -/
import Derived.Test.YtifjkjcgpghmhaaDoorCards
import Derived.Test.YtifjkjcgpghmhaaDoorTie
import Derived.Test.YtifjkjcgpghmhaaDoorCspx
import Derived.Stop.LaidErr
import Derived.Deep.DeepHandedRow
import Derived.Deep.DeepWitnessRowRef
import Derived.Deep.Slices
import Derived.Lib.SmallJoins
import Derived.OpenShut
namespace Go.Proofs.YtifjkjcgpghmhaaDoor.Tb
open Go.RowKit Go.ChangeShapes Go.WideShapes Go.ChangeAt
theorem own : ownKnob Tryd.prog.godebug = none := by kernel_rfl
theorem laidOut : laidOutB Tryd.prog = true := by kernel_rfl
theorem star : "*" ++ "errors.errorString" = "*errors.errorString" := by decide
theorem rowP (u : TypeId) (h : Tryd.prog.typeName? 3 u = some "*errors.errorString") : u = 105 :=
  typeName_ptr_named (nm := "errors.errorString") (by rw [star]; kernel_rfl) (by kernel_rfl) (by decide) u (by rw [star]; exact h)
theorem gNm : Tryd.prog.globalNamed "loop.example/g01112/impl.errNoPage" = some 0 := by kernel_rfl
theorem gTy : (Tryd.prog.globals[0]?).map (·.type) = some 68 := by kernel_rfl
theorem cellsES : Tryd.prog.cellsOf 125 = 1 := by kernel_rfl
theorem cellsT : Tryd.prog.cellsOf 9 = 1 := by kernel_rfl
theorem table_of {W : World} {r : List (String × DataW Unit)} (h : laidMet Tryd.prog (("loop.example/g01112/impl.errNoPage", Rows.laid_loop_example_g01112_impl_errNoPage) :: r) W) : Sp.Er W := by
  obtain ⟨a0, s0, hv0, -, -, -⟩ := laid_sentinel h gNm gTy Tryd.underlying68 rowP Tryd.underlying105 Tryd.underlying125 rfl rfl Tryd.underlying9 cellsES cellsT
  exact ⟨a0, by simpa using World.var?_cell gNm hv0 0⟩
theorem sent_of {W : World} {r : List (String × DataW Unit)} (h : laidMet Tryd.prog (("loop.example/g01112/impl.errNoPage", Rows.laid_loop_example_g01112_impl_errNoPage) :: r) W) : ∃ a, W.var? Tryd.prog "loop.example/g01112/impl.errNoPage" = some #[.iface 105 (.pointer (some a))] := by
  obtain ⟨a0, s0, hv0, -, -, -⟩ := laid_sentinel h gNm gTy Tryd.underlying68 rowP Tryd.underlying105 Tryd.underlying125 rfl rfl Tryd.underlying9 cellsES cellsT
  exact ⟨a0, hv0⟩
theorem var_below {w w' : World} {x : Value} (h : w.var? Tryd.prog "loop.example/g01112/impl.errNoPage" = some #[x]) (hb : Below w.heap.size w w') : w'.var? Tryd.prog "loop.example/g01112/impl.errNoPage" = some #[x] := by
  have hc := World.var?_cell gNm h 0
  have hs : 0 < w.heap.size := World.block_lt_of_cell? w _ (by simpa using hc)
  have e : w'.var? Tryd.prog "loop.example/g01112/impl.errNoPage" = w.var? Tryd.prog "loop.example/g01112/impl.errNoPage" := by
    simp only [World.var?, gNm, Option.bind_some, hb.block _ hs]
  rw [e, h]
abbrev msg : ByteArray := { data := #[116, 104, 101, 32, 112, 97, 103, 101, 32, 105, 115, 32, 110, 111, 116, 32, 109, 97, 112, 112, 101, 100] }
/-- A variable's cells, laid anew. -/
def put (cs : Array Value) : Obj → Obj
  | .cells _ t frozen => .cells cs t frozen
  | o => o
/-- So many blocks has the settled world. -/
noncomputable def low : Nat := (World.holding Tryd.prog default ⟨#[], #[], []⟩).heap.size
noncomputable def laidWorld (os : Os) : World :=
  let w0 := World.holding Tryd.prog os ⟨#[.cells #[.string msg] 125], #[], []⟩
  { w0 with heap := w0.heap.modify 0 (put #[.iface 105 (.pointer (some ⟨low, 0, none⟩))]) }
theorem openedI {H : Type} {enc : TypeId × Value → H} {W : World} {fuel : Nat} {a0 : Option Addr} {len0 cap0 : Nat} {x : DataW H × List MemPlace}
    (hf : DataW.trod enc Tryd.prog W 0 (fun _ => true) true fuel 22 [Value.slice a0 len0 cap0] = some x) : ∃ zs, IsRow .i64 W a0 len0 cap0 zs := by
  rcases open_ints Tryd.underlying22 Tryd.underlying2 (by kernel_rfl) hf with ⟨hcs, _⟩ | ⟨x, l, c, zs, hcs, _, hl, hm, hz, _, hcell, hwz⟩
  · simp at hcs
    obtain ⟨rfl, rfl, rfl⟩ := hcs
    exact ⟨[], .inl ⟨rfl, rfl, rfl, rfl⟩⟩
  · simp at hcs
    obtain ⟨rfl, rfl, rfl⟩ := hcs
    exact ⟨zs, .inr ⟨_, rfl, hl, hm, by simpa using hz, hcell, hwz⟩⟩

theorem fieldsEn : Tryd.prog.underlying 100 = some (.struct #[⟨"Frame", 2, 0, false, "", "", 0⟩, ⟨"Writes", 4, 1, false, "", "", 8⟩, ⟨"Used", 4, 2, false, "", "", 9⟩, ⟨"Dirty", 4, 3, false, "", "", 10⟩]) ∧ True := ⟨by kernel_rfl, trivial⟩
theorem cellsEn : Tryd.prog.cellsOf 100 = 4 := by kernel_rfl
theorem cellsIEn : Tryd.prog.cellsOf 2 = 1 := by kernel_rfl
theorem cellsBEn : Tryd.prog.cellsOf 4 = 1 := by kernel_rfl
open Go.Deep in
set_option maxRecDepth 100000 in
theorem openedEn {H : Type} {enc : TypeId × Value → H} {W : World} {fuel : Nat} {a0 : Option Addr} {len0 cap0 : Nat} {x : DataW H × List MemPlace}
    (hf : DataW.trod enc Tryd.prog W 0 (fun _ => true) true fuel 77 [Value.slice a0 len0 cap0] = some x) : len0 ≤ 9223372036854775807 ∧ ∃ xs : List En.R, xs.length = len0 ∧ En.RdR W a0 xs := by
  rcases open_slice (e := 100) (by kernel_rfl) hf with ⟨hcs, _⟩ | ⟨a, len, cap, m, n, D, Pl, hcs, _, hlc, hcm, hmm, _, hx⟩
  · simp at hcs
    obtain ⟨rfl, rfl, rfl⟩ := hcs
    exact ⟨by omega, [], rfl, fun i hi => by simp at hi⟩
  · simp at hcs
    obtain ⟨rfl, rfl, rfl⟩ := hcs
    have hlm : len0 ≤ m := by rw [hmm]; split <;> omega
    have hex : ∀ i, i < len0 → ∃ q : En.R, W.cell? (a.add (i * 4)) = some (.int .i64 q.1) ∧ W.cell? (a.add (i * 4 + 1)) = some (.bool q.2.1) ∧ W.cell? (a.add (i * 4 + 2)) = some (.bool q.2.2.1) ∧ W.cell? (a.add (i * 4 + 3)) = some (.bool q.2.2.2) := fun i hi => by
      obtain ⟨cs', h1, h2⟩ := hx i (by omega)
      rw [cellsEn] at h1
      obtain ⟨_, hlen, hcell⟩ := World.cells?_some h1
      obtain ⟨xs, k, hk, hxy, _, hxl, hfl⟩ := DataW.trod_struct fieldsEn.1 h2
      match xs, hxl, cs', hlen with
      | [y0, y1, y2, y3], _, [v0, v1, v2, v3], _ =>
        have g0 := hfl 0 _ rfl
        simp [cellsIEn, cellsBEn] at g0
        have g1 := hfl 1 _ rfl
        simp [cellsIEn, cellsBEn] at g1
        have g2 := hfl 2 _ rfl
        simp [cellsIEn, cellsBEn] at g2
        have g3 := hfl 3 _ rfl
        simp [cellsIEn, cellsBEn] at g3
        obtain ⟨u0, hu0, _⟩ := DataW.trod_int (k := .i64) Tryd.underlying2 g0
        simp at hu0
        subst hu0
        have e0 := hcell 0 (by omega)
        rw [add_add] at e0
        obtain ⟨u1, hu1, _⟩ := DataW.trod_bool Tryd.underlying4 g1
        simp at hu1
        subst hu1
        have e1 := hcell 1 (by omega)
        rw [add_add] at e1
        obtain ⟨u2, hu2, _⟩ := DataW.trod_bool Tryd.underlying4 g2
        simp at hu2
        subst hu2
        have e2 := hcell 2 (by omega)
        rw [add_add] at e2
        obtain ⟨u3, hu3, _⟩ := DataW.trod_bool Tryd.underlying4 g3
        simp at hu3
        subst hu3
        have e3 := hcell 3 (by omega)
        rw [add_add] at e3
        exact ⟨(u0, u1, u2, u3), by simpa using e0, by simpa using e1, by simpa using e2, by simpa using e3⟩
    refine ⟨by unfold maxLen at hcm; omega, (List.range len0).map (fun i => if h : i < len0 then Classical.choose (hex i h) else En.dR), by simp, fun i hi => ?_⟩
    have hi' : i < len0 := by simpa using hi
    obtain ⟨c0, c1, c2, c3⟩ := Classical.choose_spec (hex i hi')
    have e : ((List.range len0).map (fun i => if h : i < len0 then Classical.choose (hex i h) else En.dR)).getD i En.dR = Classical.choose (hex i hi') := by
      rw [List.getD_eq_getElem?_getD, List.getElem?_eq_getElem hi]
      simp [hi']
    rw [e]
    clear e
    generalize Classical.choose (hex i hi') = q at c0 c1 c2 c3 ⊢
    obtain ⟨q0, d1, _⟩ := hex 0 (by omega)
    clear hi hex hx
    obtain ⟨b, off, spot⟩ := a
    have hspot : spot = none := by simpa [Addr.add] using World.cell?_spot d1
    subst hspot
    rw [Go.WideShapes.add_plain] at c0 c1 c2 c3
    exact ⟨b, off, rfl, c0, c1, c2, c3, World.block_lt_of_cell? W _ c0⟩

theorem fieldsCh : Tryd.prog.underlying 84 = some (.struct #[⟨"Page", 2, 0, false, "", "", 0⟩, ⟨"Frame", 2, 1, false, "", "", 8⟩, ⟨"Writes", 4, 2, false, "", "", 16⟩]) ∧ True := ⟨by kernel_rfl, trivial⟩
theorem cellsCh : Tryd.prog.cellsOf 84 = 3 := by kernel_rfl
theorem cellsICh : Tryd.prog.cellsOf 2 = 1 := by kernel_rfl
theorem cellsBCh : Tryd.prog.cellsOf 4 = 1 := by kernel_rfl
open Go.Deep in
set_option maxRecDepth 100000 in
theorem openedCh {H : Type} {enc : TypeId × Value → H} {W : World} {fuel : Nat} {a0 : Option Addr} {len0 cap0 : Nat} {x : DataW H × List MemPlace}
    (hf : DataW.trod enc Tryd.prog W 0 (fun _ => true) true fuel 24 [Value.slice a0 len0 cap0] = some x) : len0 ≤ 9223372036854775807 ∧ ∃ xs : List Ch.R, xs.length = len0 ∧ Ch.RdR W a0 xs := by
  rcases open_slice (e := 84) (by kernel_rfl) hf with ⟨hcs, _⟩ | ⟨a, len, cap, m, n, D, Pl, hcs, _, hlc, hcm, hmm, _, hx⟩
  · simp at hcs
    obtain ⟨rfl, rfl, rfl⟩ := hcs
    exact ⟨by omega, [], rfl, fun i hi => by simp at hi⟩
  · simp at hcs
    obtain ⟨rfl, rfl, rfl⟩ := hcs
    have hlm : len0 ≤ m := by rw [hmm]; split <;> omega
    have hex : ∀ i, i < len0 → ∃ q : Ch.R, W.cell? (a.add (i * 3)) = some (.int .i64 q.1) ∧ W.cell? (a.add (i * 3 + 1)) = some (.int .i64 q.2.1) ∧ W.cell? (a.add (i * 3 + 2)) = some (.bool q.2.2) := fun i hi => by
      obtain ⟨cs', h1, h2⟩ := hx i (by omega)
      rw [cellsCh] at h1
      obtain ⟨_, hlen, hcell⟩ := World.cells?_some h1
      obtain ⟨xs, k, hk, hxy, _, hxl, hfl⟩ := DataW.trod_struct fieldsCh.1 h2
      match xs, hxl, cs', hlen with
      | [y0, y1, y2], _, [v0, v1, v2], _ =>
        have g0 := hfl 0 _ rfl
        simp [cellsICh, cellsBCh] at g0
        have g1 := hfl 1 _ rfl
        simp [cellsICh, cellsBCh] at g1
        have g2 := hfl 2 _ rfl
        simp [cellsICh, cellsBCh] at g2
        obtain ⟨u0, hu0, _⟩ := DataW.trod_int (k := .i64) Tryd.underlying2 g0
        simp at hu0
        subst hu0
        have e0 := hcell 0 (by omega)
        rw [add_add] at e0
        obtain ⟨u1, hu1, _⟩ := DataW.trod_int (k := .i64) Tryd.underlying2 g1
        simp at hu1
        subst hu1
        have e1 := hcell 1 (by omega)
        rw [add_add] at e1
        obtain ⟨u2, hu2, _⟩ := DataW.trod_bool Tryd.underlying4 g2
        simp at hu2
        subst hu2
        have e2 := hcell 2 (by omega)
        rw [add_add] at e2
        exact ⟨(u0, u1, u2), by simpa using e0, by simpa using e1, by simpa using e2⟩
    refine ⟨by unfold maxLen at hcm; omega, (List.range len0).map (fun i => if h : i < len0 then Classical.choose (hex i h) else Ch.dR), by simp, fun i hi => ?_⟩
    have hi' : i < len0 := by simpa using hi
    obtain ⟨c0, c1, c2⟩ := Classical.choose_spec (hex i hi')
    have e : ((List.range len0).map (fun i => if h : i < len0 then Classical.choose (hex i h) else Ch.dR)).getD i Ch.dR = Classical.choose (hex i hi') := by
      rw [List.getD_eq_getElem?_getD, List.getElem?_eq_getElem hi]
      simp [hi']
    rw [e]
    clear e
    generalize Classical.choose (hex i hi') = q at c0 c1 c2 ⊢
    obtain ⟨q0, d1, _⟩ := hex 0 (by omega)
    clear hi hex hx
    obtain ⟨b, off, spot⟩ := a
    have hspot : spot = none := by simpa [Addr.add] using World.cell?_spot d1
    subst hspot
    rw [Go.WideShapes.add_plain] at c0 c1 c2
    exact ⟨b, off, rfl, c0, c1, c2, World.block_lt_of_cell? W _ c0⟩

open Go.Deep in
theorem openedT {H : Type} {enc : TypeId × Value → H} {W : World} {fuel : Nat} {a0 : Option Addr} {len0 cap0 : Nat} {x : DataW H × List MemPlace}
    (hf : DataW.trod enc Tryd.prog W 0 (fun _ => true) true fuel 23 [Value.slice a0 len0 cap0] = some x) : ∃ xss : List (List En.R), xss.length = len0 ∧ En.RdT W a0 xss := by
  rcases open_slice1 (e := 77) (by kernel_rfl) (by kernel_rfl) hf with ⟨hcs, _⟩ | ⟨a, len, cap, m, n, V, D, Pl, hcs, _, hlc, hcm, hmm, _, hx⟩
  · simp at hcs
    obtain ⟨rfl, rfl, rfl⟩ := hcs
    exact ⟨[], rfl, by simp, fun i hi => by simp at hi⟩
  · simp at hcs
    obtain ⟨rfl, rfl, rfl⟩ := hcs
    have hlm : len0 ≤ m := by rw [hmm]; split <;> omega
    have hex : ∀ i, i < len0 → ∃ q : List En.R, ∃ A C, W.cell? (a.add i) = some (.slice A q.length C) ∧ En.RdR W A q ∧ q.length ≤ 9223372036854775807 := fun i hi => by
      obtain ⟨h1, h2⟩ := hx i (by omega)
      obtain ⟨A, L, C, e⟩ : ∃ A L C, V i = Value.slice A L C := by simpa using Go.Joins.slice_form (show Tryd.prog.underlying 77 = some (.slice 100) by kernel_rfl) h2
      rw [e] at h1 h2
      obtain ⟨hL, q, hq, hr⟩ := openedEn h2
      exact ⟨q, A, C, by rw [hq]; exact h1, hr, by omega⟩
    refine ⟨(List.range len0).map (fun i => if h : i < len0 then Classical.choose (hex i h) else []), by simp, by simp; unfold maxLen at hcm; omega, fun i hi => ?_⟩
    have hi' : i < len0 := by simpa using hi
    obtain ⟨A, C, c0, c1, c2⟩ := Classical.choose_spec (hex i hi')
    have e : ((List.range len0).map (fun i => if h : i < len0 then Classical.choose (hex i h) else [])).getD i [] = Classical.choose (hex i hi') := by
      rw [List.getD_eq_getElem?_getD, List.getElem?_eq_getElem hi]
      simp [hi']
    rw [e]
    clear e
    generalize Classical.choose (hex i hi') = q at c0 c1 c2 ⊢
    obtain ⟨q0, A0, C0, d1, _⟩ := hex 0 (by omega)
    clear hi hex hx
    obtain ⟨b, off, spot⟩ := a
    have hspot : spot = none := by simpa [Addr.add] using World.cell?_spot d1
    subst hspot
    rw [Go.WideShapes.add_plain] at c0
    exact ⟨b, off, A, C, rfl, c0, c1, c2, World.block_lt_of_cell? W _ c0⟩
theorem fieldsS : Tryd.prog.underlying 26 = some (.struct #[⟨"Root", 22, 0, false, "", "", 0⟩, ⟨"Tables", 23, 1, false, "", "", 24⟩, ⟨"Buffer", 24, 2, false, "", "", 48⟩]) ∧ True := ⟨by kernel_rfl, trivial⟩
theorem cellsS : Tryd.prog.cellsOf 26 = 3 := by kernel_rfl
theorem cellsS0 : Tryd.prog.cellsOf 22 = 1 := by kernel_rfl
theorem cellsS1 : Tryd.prog.cellsOf 23 = 1 := by kernel_rfl
theorem cellsS2 : Tryd.prog.cellsOf 24 = 1 := by kernel_rfl
theorem array3 {α : Type} {cs : Array α} (h : cs.size = 3) : ∃ c0 c1 c2, cs = #[c0, c1, c2] := by
  obtain ⟨l⟩ := cs
  match l, h with
  | [c0, c1, c2], _ => exact ⟨c0, c1, c2, rfl⟩
set_option maxRecDepth 100000 in
theorem openedS {H : Type} {enc : TypeId × Value → H} {W : World} {v : Value} {d : DataW H} {p : List MemPlace} {base : Nat}
    (hv : Value.okWide Tryd.prog W .any base 26 v) (h : DataW.Trod enc Tryd.prog W 0 (fun _ => true) true 26 v d p) :
    ∃ a1 n1 k1 zs a2 n2 k2 a3 n3 k3, v = .agg #[.slice a1 n1 k1, .slice a2 n2 k2, .slice a3 n3 k3] ∧ IsRow .i64 W a1 n1 k1 zs ∧ (∃ tss : List (List En.R), tss.length = n2 ∧ En.RdT W a2 tss) ∧ (n3 ≤ 9223372036854775807 ∧ ∃ buf : List Ch.R, buf.length = n3 ∧ Ch.RdR W a3 buf) := by
  obtain ⟨cs, rfl, hsz⟩ := okWide_struct fieldsS.1 hv
  obtain ⟨c0, c1, c2, rfl⟩ := array3 (hsz.trans cellsS)
  obtain ⟨fuel, hf⟩ := h
  obtain ⟨xs, n, _, _, _, hlen, hfld⟩ := DataW.trod_struct fieldsS.1 hf
  match xs, hlen with
  | [y0, y1, y2], _ =>
    have h0 : DataW.trod enc Tryd.prog W 0 (fun _ => true) true n 22 [c0] = some y0 := by simpa [cellsS0, Value.cells] using hfld 0 _ rfl
    have h1 : DataW.trod enc Tryd.prog W 0 (fun _ => true) true n 23 [c1] = some y1 := by simpa [cellsS1, Value.cells] using hfld 1 _ rfl
    have h2 : DataW.trod enc Tryd.prog W 0 (fun _ => true) true n 24 [c2] = some y2 := by simpa [cellsS2, Value.cells] using hfld 2 _ rfl
    obtain ⟨a1, n1, k1, e0⟩ : ∃ a len cap, c0 = Value.slice a len cap := by simpa using Go.Joins.slice_form Tryd.underlying22 h0
    obtain ⟨a2, n2, k2, e1⟩ : ∃ a len cap, c1 = Value.slice a len cap := by simpa using Go.Joins.slice_form (show Tryd.prog.underlying 23 = some (.slice 77) by kernel_rfl) h1
    obtain ⟨a3, n3, k3, e2⟩ : ∃ a len cap, c2 = Value.slice a len cap := by simpa using Go.Joins.slice_form (show Tryd.prog.underlying 24 = some (.slice 84) by kernel_rfl) h2
    subst e0 e1 e2
    obtain ⟨zs, hI⟩ := openedI h0
    exact ⟨a1, n1, k1, zs, a2, n2, k2, a3, n3, k3, rfl, hI, openedT h1, openedCh h2⟩


end Go.Proofs.YtifjkjcgpghmhaaDoor.Tb
