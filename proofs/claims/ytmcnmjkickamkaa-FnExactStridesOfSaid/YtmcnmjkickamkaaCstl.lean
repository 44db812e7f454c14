/- The program's chains of strides: learn, stride. -/
import Derived.Test.YtmcnmjkickamkaaPlainStr
import Derived.Test.YtmcnmjkickamkaaCblk
import Derived.Test.YtmcnmjkickamkaaCrd
import Derived.IntWalk
import Derived.Deep.RegionLaw
import Derived.Laws.CopyRow
namespace Go.Proofs.Ytmcnmjkickamkaa.St
open Go.RowKit
theorem blk_setRow {w : World} {b : Nat} {cs : List Value} {t : TypeId} (h : Blk w b cs t) (ds : List Value) : Blk (w.setRow b ds.toArray) b ds t ∧ Keep b w (w.setRow b ds.toArray) :=
  ⟨setRow_heap w b _ _ t _ h, ⟨rfl, rfl, rfl, by simp [World.setRow], fun i hi => setRow_other w b i _ hi⟩⟩
theorem step_copyK {P : Program} {ops : Array Oper} {o : Oper} {a : Act} {w : World} {K : Act → World → Prop} {Q : Exit → Act → World → Prop} {E : Prop} (hgd : o.guard = none) (d s : Operand) (dT sT : TypeId)
    (ho : o.op = .call { callee := .builtin .copy, args := #[d, s], argTypes := #[dT, sT] }) (elem : TypeId) (hu : P.underlying dT = some (.slice elem)) (hsz : (P.info? elem).map (·.size) = some 1)
    (ad : Addr) (g off dLen dCap sLen sCap : Nat) (hd : a.eval d = .slice (some ⟨g, off, none⟩) dLen dCap) (hs : a.eval s = .slice (some ad) sLen sCap)
    (cur : List Value) (t : TypeId) (hg : Blk w g cur t) (cs : List Value) (hn : cs.length = Nat.min sLen dLen)
    (hsrc : ∀ j v, cs[j]? = some v → w.cell? (ad.add j) = some v)
    (hfit : off + cs.length ≤ cur.length) (h1 : ∀ v ∈ cs, v.oneCell' = true)
    (h : ∀ w', Hid (Blk w' g (Go.splice cur off cs) t) → Hid (Keep g w w') → K (a.put o.dst (goInt cs.length)) w') :
    if Region.wanted o (yielded ops a.tmps) = true then Oper.wp P o a w K Q else E := by
  have hw : Region.wanted o (yielded ops a.tmps) = true := by simp [Region.wanted, hgd]
  rw [if_pos hw]
  have hrun := Go.run_copy_row (P := P) w dT sT o.type elem g off dLen dCap ad sLen sCap cur.toArray t cs hu hsz hg hn hsrc (by simpa using hfit) h1
  unfold Oper.wp
  simp [execOp, ho, resolve, invoke, builtin, hd, hs, hrun, Result.andThen]
  obtain ⟨k1, k2⟩ := blk_setRow hg (Go.splice cur off cs)
  refine h _ ?_ ?_
  · show Blk _ _ _ _; simpa [Go.splice] using k1
  · show Keep _ _ _; simpa [Go.splice] using k2
theorem isz1 : (Try.prog.info? 2).map (·.size) = some 1 := by kernel_rfl
theorem _root_.Go.Proofs.Ytmcnmjkickamkaa.Keep.tr {b : Nat} {x y z : World} (h : Keep b x y) (k : Keep b y z) : Keep b x z := ⟨k.os.trans h.os, k.tape.trans h.tape, k.output.trans h.output, k.size.trans h.size, fun i hi => (k.block i hi).trans (h.block i hi)⟩
theorem _root_.Go.Proofs.Ytmcnmjkickamkaa.Keep.dr (b : Nat) (w : World) : Keep b w w.drew := ⟨rfl, rfl, rfl, rfl, fun _ _ => rfl⟩
/-- The cells of a chain. -/
def qc (q : C4) : List Value := [.int .i64 q.1, .int .i64 q.2.1, .int .i64 q.2.2.1, .int .i64 (q.2.2.2 : Nat)]
theorem spl (P S xs ys : List Value) (h : xs.length = ys.length) : Go.splice (P ++ (xs ++ S)) P.length ys = P ++ (ys ++ S) := by
  unfold Go.splice
  rw [List.take_left', ← h, ← List.drop_drop, List.drop_left', List.drop_left']
  all_goals rfl
theorem atP (P S : List Value) (a b c d : Value) : (P ++ ([a, b, c, d] ++ S))[P.length]? = some a ∧ (P ++ ([a, b, c, d] ++ S))[P.length + 1]? = some b ∧ (P ++ ([a, b, c, d] ++ S))[P.length + 2]? = some c ∧ (P ++ ([a, b, c, d] ++ S))[P.length + 3]? = some d := by
  refine ⟨?_, ?_, ?_, ?_⟩
  all_goals (rw [List.getElem?_append_right (by omega)]; simp)
theorem blkSet {w : World} {Z o : Nat} {cs : List Value} {t : TypeId} (h : Blk w Z cs t) (v : Value) (ho : o < cs.length) : Blk (w.setCell ⟨Z, o, none⟩ v) Z (Go.splice cs o [v]) t ∧ Keep Z w (w.setCell ⟨Z, o, none⟩ v) :=
  ⟨blk_set Z t [v] o cs w h (by simp; omega), keep_set Z [v] o w⟩
set_option maxRecDepth 100000 in
set_option maxHeartbeats 2000000 in
theorem learn_i (Z : Nat) (P S : List Value) (t : TypeId) (o : Nat) (q : C4) (x : Int) (w : World) (hP : P.length = o) (h : Blk w Z (P ++ (qc q ++ S)) t) (hn : q.2.2.2 ≤ 60) :
    Calls Try.prog 37 #[.pointer (some ⟨Z, o, none⟩), .int .i64 x] w (fun e w' => e = .returned (.tuple #[]) ∧ Blk w' Z (P ++ (qc (stp q x) ++ S)) t ∧ Keep Z w w') := by
  obtain ⟨a, b, c, n⟩ := q
  have hl : o + 4 ≤ (P ++ (qc (a, b, c, n) ++ S)).length := by simp [qc, hP]
  have HSRC := Lib.hid (fun (j : Nat) (v : Value) (hv : ([Value.int .i64 b, .int .i64 c] : List Value)[j]? = some v) => show w.drew.cell? ((⟨Z, o + 1, none⟩ : Addr).add j) = some v from by
    obtain ⟨_, p1, p2, _⟩ := atP P S (.int .i64 a) (.int .i64 b) (.int .i64 c) (.int .i64 (n : Nat))
    rw [hP] at p1 p2
    match j with
    | 0 => injection hv with hv; subst hv; exact (h.cell (o + 1)).trans p1
    | 1 => injection hv with hv; subst hv; exact (h.cell (o + 2)).trans p2
    | j + 2 => cases hv)
  have HB := Lib.hid (show Blk w.drew Z (P ++ (qc (a, b, c, n) ++ S)) t from h)
  have HT := Lib.hid (fun (w4 : World) (hb : Blk w4 Z (Go.splice (P ++ (qc (a, b, c, n) ++ S)) o [.int .i64 b, .int .i64 c]) t) => (show Blk w4 Z (P ++ (qc (b, c, c, n) ++ S)) t from by
    rw [← hP, show qc (a, b, c, n) ++ S = [.int .i64 a, .int .i64 b] ++ ([.int .i64 c, .int .i64 (n : Nat)] ++ S) from rfl, spl P _ [.int .i64 a, .int .i64 b] [.int .i64 b, .int .i64 c] rfl] at hb
    exact hb))
  have HF := Lib.hid (fun (w4 : World) (hb : Blk w4 Z (P ++ (qc (b, c, c, n) ++ S)) t) => (show Blk ((w4.setCell ⟨Z, o + 2, none⟩ (.int .i64 x)).setCell ⟨Z, o + 3, none⟩ (.int .i64 ((n : Int) + 1))) Z (P ++ (qc (b, c, x, n + 1) ++ S)) t ∧ Keep Z w4 ((w4.setCell ⟨Z, o + 2, none⟩ (.int .i64 x)).setCell ⟨Z, o + 3, none⟩ (.int .i64 ((n : Int) + 1))) from by
    obtain ⟨b1, k1⟩ := blkSet (o := o + 2) hb (.int .i64 x) (by simp [qc, hP])
    rw [show P ++ (qc (b, c, c, n) ++ S) = (P ++ [.int .i64 b, .int .i64 c]) ++ ([.int .i64 c] ++ ([.int .i64 (n : Nat)] ++ S)) by simp [qc], show o + 2 = (P ++ [Value.int .i64 b, .int .i64 c]).length by simp [hP], spl _ _ [.int .i64 c] [.int .i64 x] rfl] at b1
    obtain ⟨b2, k2⟩ := blkSet (o := o + 3) b1 (.int .i64 ((n : Int) + 1)) (by simp [hP])
    rw [show (P ++ [Value.int .i64 b, .int .i64 c]) ++ ([.int .i64 x] ++ ([.int .i64 (n : Nat)] ++ S)) = (P ++ [Value.int .i64 b, .int .i64 c, .int .i64 x]) ++ ([.int .i64 (n : Nat)] ++ S) by simp, show o + 3 = (P ++ [Value.int .i64 b, .int .i64 c, .int .i64 x]).length by simp [hP], spl _ _ [.int .i64 (n : Nat)] [.int .i64 ((n : Int) + 1)] rfl] at b2
    rw [show (P ++ [Value.int .i64 b, .int .i64 c]).length = o + 2 by simp [hP]] at b2 k2
    rw [show (P ++ [Value.int .i64 b, .int .i64 c, .int .i64 x]).length = o + 3 by simp [hP]] at b2
    refine ⟨?_, k1.tr k2⟩
    rw [show P ++ (qc (b, c, x, n + 1) ++ S) = (P ++ [Value.int .i64 b, .int .i64 c, .int .i64 x]) ++ ([.int .i64 ((n : Int) + 1)] ++ S) by simp [qc]]
    exact b2))
  have HC := Lib.hid (fun (w4 : World) (hb : Blk w4 Z (P ++ (qc (b, c, c, n) ++ S)) t) => (show w4.cell? ⟨Z, o + 2, none⟩ = some (.int .i64 c) ∧ w4.cell? ⟨Z, o + 3, none⟩ = some (.int .i64 (n : Nat)) ∧ w4.frozen? ⟨Z, o + 2, none⟩ = false ∧ w4.frozen? ⟨Z, o + 3, none⟩ = false from by
    obtain ⟨_, _, p2, p3⟩ := atP P S (.int .i64 b) (.int .i64 c) (.int .i64 c) (.int .i64 (n : Nat))
    rw [hP] at p2 p3
    exact ⟨(hb.cell (o + 2)).trans p2, (hb.cell (o + 3)).trans p3, hb.froz _, hb.froz _⟩))
  have e7 : IntKind.i64.wrap ((n : Int) + 1) = (n : Int) + 1 := IntWalk.i64_in _ (by simp at hn; omega)
  have HL := Lib.hid hl
  clear h hn hl hP
  generalize hcs : P ++ (qc (a, b, c, n) ++ S) = cs at *
  go_enter Try.func37, Try.ntmps37
  go_wp2
  go_region_law (refine step_copyK rfl (.tmp 7) (.tmp 11) 35 35 rfl 2 Try.underlying35 isz1 ⟨Z, o + 1, none⟩ Z o 3 3 2 2 (by simp [Act.eval, Act.put]) (by simp [Act.eval, Act.put]) cs t HB.out [.int .i64 b, .int .i64 c] rfl HSRC.out (by have := HL.out; simp; omega) (by intro v hv; simp at hv; rcases hv with rfl | rfl <;> rfl) ?_; intro w4 hG4 hK4)
  all_goals
    have hG := HT.out w4 hG4.out
    obtain ⟨f1, f2⟩ := HF.out w4 hG
    obtain ⟨c2, c3, z2, z3⟩ := HC.out w4 hG
    have F1 := Lib.hid f1
    have F2 := Lib.hid ((Keep.dr Z w).tr (hK4.out.tr f2))
    clear f1 f2 hG HT HF HC
    go_wp2
    go_end0
    exact ⟨rfl, F1.out, F2.out⟩
theorem dec3 (n : Nat) (h : ¬ n < 3) : decide ((n : Int) < 3) = false := decide_eq_false (by omega)
set_option maxRecDepth 100000 in
set_option maxHeartbeats 2000000 in
theorem stride_i (Z : Nat) (P S : List Value) (t : TypeId) (o m : Nat) (q : C4) (w : World) (hP : P.length = o) (h : Blk w Z (P ++ (qc q ++ S)) t) (hq : In3 q m) :
    Calls Try.prog 38 #[.pointer (some ⟨Z, o, none⟩)] w (Nb (prS q) w) := by
  obtain ⟨a, b, c, n⟩ := q
  obtain ⟨i0, i1, i2, _⟩ := hq
  obtain ⟨p0, p1, p2, p3⟩ := atP P S (.int .i64 a) (.int .i64 b) (.int .i64 c) (.int .i64 (n : Nat))
  rw [hP] at p0 p1 p2 p3
  have c0 : w.cell? ⟨Z, o, none⟩ = some (.int .i64 a) := (h.cell o).trans p0
  have c1 : w.cell? ⟨Z, o + 1, none⟩ = some (.int .i64 b) := (h.cell (o + 1)).trans p1
  have c2 : w.cell? ⟨Z, o + 2, none⟩ = some (.int .i64 c) := (h.cell (o + 2)).trans p2
  have c3 : w.cell? ⟨Z, o + 3, none⟩ = some (.int .i64 (n : Nat)) := (h.cell (o + 3)).trans p3
  have d1 : IntKind.i64.wrap (c - b) = c - b := IntWalk.i64_in _ (by simp at i1 i2; omega)
  have d2 : IntKind.i64.wrap (b - a) = b - a := IntWalk.i64_in _ (by simp at i0 i1; omega)
  have HZ := Lib.hid (show prS (a, b, c, n) = if n < 3 then 0 else if c - b = b - a then c - b else 0 from rfl)
  have HB := Lib.hid (Below.refl w.heap.size w)
  generalize prS (a, b, c, n) = sd at *
  clear h hP p0 p1 p2 p3 i0 i1 i2
  by_cases h3 : n < 3
  · rw [if_pos h3] at HZ
    have h3' : (n : Int) < 3 := by omega
    have h3b : decide ((n : Int) < 3) = true := decide_eq_true h3'
    go_enter Try.func38, Try.ntmps38
    go_wp2
    go_region
    go_wp2
    go_region
    go_wp2
    go_ret
    exact ⟨by simp [go_sem, HZ.out], HB.out.drew.drew⟩
  · rw [if_neg h3] at HZ
    have n3b := dec3 n h3
    have n3 : ¬ (n : Int) < 3 := by omega
    have n3c : (3 : Int) ≤ (n : Int) := by omega
    by_cases he : c - b = b - a
    · rw [if_pos he] at HZ
      have hx : (c - b != b - a) = false := by simp [he]
      clear he
      go_enter Try.func38, Try.ntmps38
      go_wp2
      go_region
      go_wp2
      go_region
      go_wp2
      go_ret
      exact ⟨by simp [go_sem, HZ.out], HB.out.drew.drew⟩
    · rw [if_neg he] at HZ
      have hx : (c - b != b - a) = true := by simp [he]
      clear he
      go_enter Try.func38, Try.ntmps38
      go_wp2
      go_region
      go_wp2
      go_region
      go_wp2
      go_ret
      exact ⟨by simp [go_sem, HZ.out], HB.out.drew.drew⟩
end Go.Proofs.Ytmcnmjkickamkaa.St
