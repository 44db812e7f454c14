/- The rules of two policies: bothRules. The trial of no uses. A trial after one more use: what its walk needs. The size of a policy by value, what is left being any number. -/
import Derived.Test.YtbjgfbhfmaddgaaCvp
import Derived.Great.BuildSlice
import Derived.Great.FillDense
import Derived.Test.YtbjgfbhfmaddgaaCstep
import Derived.Laws.Append
import Derived.Lib.AppendZeros
import Derived.Test.YtbjgfbhfmaddgaaCpolV
namespace Go.Proofs.Ytbjgfbhfmaddgaa.Pv
open Go.RowKit
theorem inf86 : (Try.prog.info? 70).map (fun i => (i.zero.map (·.cells.size), i.size)) = some (some 86, 86) := by kernel_rfl
theorem isz86 : (Try.prog.info? 70).map (·.size) = some 86 := by kernel_rfl
theorem und86' : Try.prog.underlying 70 = some (.array 2 69) := by kernel_rfl
theorem und86 : ∃ d, Try.prog.underlying 70 = some d ∧ d.isRow = true := ⟨_, und86', rfl⟩
/-- Two parts of an array of arrays, side by side. -/
theorem built2 (P : Program) (t e : TypeId) (s : Nat) (hs : 0 < s) (hu : P.underlying t = some (.array 2 e)) (hi : (P.info? t).map (fun i => (i.zero.map (·.cells.size), i.size)) = some (some (2 * s), 2 * s)) (he : (P.info? e).map (·.size) = some s)
    (r1 r2 : List Value) (h1 : r1.length = s) (h2 : r2.length = s) : P.built t [(0, .agg r1.toArray), (1, .agg r2.toArray)] = some (r1 ++ r2).toArray := by
  unfold Program.built
  cases hit : P.info? t with
  | none => rw [hit] at hi; simp at hi
  | some it =>
    rw [hit] at hi
    simp only [Option.map_some, Option.some.injEq, Prod.mk.injEq] at hi
    obtain ⟨hz, _⟩ := hi
    cases hie : P.info? e with
    | none => rw [hie] at he; simp at he
    | some ie =>
      rw [hie] at he
      simp only [Option.map_some, Option.some.injEq] at he
      cases hzz : it.zero with
      | none => rw [hzz] at hz; simp at hz
      | some z =>
        rw [hzz] at hz
        simp only [Option.map_some, Option.some.injEq] at hz
        rw [hu]
        simp only [hie, hzz, he]
        have h := Great.fill_whole hs [Value.agg r1.toArray, Value.agg r2.toArray] z.cells (by
          intro v hv
          rcases List.mem_cons.1 hv with rfl | hv
          · simpa [Value.cells] using h1
          · rcases List.mem_cons.1 hv with rfl | hv
            · simpa [Value.cells] using h2
            · cases hv) (by rw [hz]; rfl)
        have e1 : (([Value.agg r1.toArray, Value.agg r2.toArray].zipIdx 0).map fun x => (x.2, x.1)) = [(0, Value.agg r1.toArray), (1, Value.agg r2.toArray)] := rfl
        rw [e1] at h
        rw [h]
        simp [Value.cells]
theorem rdp_below {v : Value} {hs : List (List Int)} {ms : List Int} {w w' : World} (h : RdP w v hs ms) (hb : Below w.heap.size w w') : RdP w' v hs ms := by
  obtain ⟨a, c, a', c', e, h1, h2, h3, h4, h5⟩ := h
  exact ⟨a, c, a', c', e, h1.below hb, h2, h3.below hb, h4, h5⟩
def z86 : List Value := z43 ++ z43
/-- What bothRules leaves. -/
def RulR2 (b c : Bool) (n m : Nat) (hs hs' : List (List Int)) (ms ms' : List Int) (w : World) (e : Ending) (w' : World) : Prop :=
  e = .returned (.tuple #[.agg (rulC b n hs ms ++ rulC c m hs' ms').toArray, .bool (b && c)]) ∧ Below w.heap.size w w'
set_option maxHeartbeats 4000000 in
set_option maxRecDepth 100000 in
theorem both_i {v v' : Value} {hs hs' : List (List Int)} {ms ms' : List Int} {w : World} (h : RdP w v hs ms) (h' : RdP w v' hs' ms') :
    Calls Try.prog 39 #[v, v'] w (RulR2 (isP hs ms) (isP hs' ms') ms.length ms'.length hs hs' ms ms' w) := by
  obtain ⟨d43, hu43, hd43⟩ := und43
  have HU := Lib.hid (And.intro hu43 hd43)
  clear hu43 hd43
  obtain ⟨d86, hu86, hd86⟩ := und86
  have HL86 := Lib.hid (fun (w' : World) (b : Nat) (cs : List Value) (h : Blk w' b cs 70) (hc : cs.length = 86) => Blk.loadVar h 70 d86 hu86 hd86 (by rw [hc]; exact isz86))
  clear hu86 hd86
  have HR := Lib.hid (fun (w1 : World) (hb : Below w.heap.size w w1) => rules_any (rdp_below h hb))
  have HR' := Lib.hid (fun (w1 : World) (hb : Below w.heap.size w w1) => rules_any (rdp_below h' hb))
  obtain ⟨a, c, a', c', rfl, h1, h2, h3, h4, h5⟩ := h
  obtain ⟨p, k, p', k', rfl, g1, g2, g3, g4, g5⟩ := h'
  unfold RulR at HR HR'
  unfold RulR2
  have HL := Lib.hid (rulC_len (isP hs ms) ms.length hs ms)
  have H1 := Lib.hid (one_rulC (isP hs ms) ms.length hs ms)
  have HL' := Lib.hid (rulC_len (isP hs' ms') ms'.length hs' ms')
  have H1' := Lib.hid (one_rulC (isP hs' ms') ms'.length hs' ms')
  clear h1 h2 h3 h4 h5 g1 g2 g3 g4 g5
  generalize rulC (isP hs ms) ms.length hs ms = rc at *
  generalize rulC (isP hs' ms') ms'.length hs' ms' = rd at *
  generalize isP hs ms = r at *
  generalize isP hs' ms' = r' at *
  generalize hs.length = N at *
  generalize ms.length = M at *
  generalize hs'.length = N' at *
  generalize ms'.length = M' at *
  have HBU := Lib.hid (built2 Try.prog 70 69 43 (by decide) und86' inf86 isz43 rc rd HL.out HL'.out)
  have hW : ∃ W, W = (((w.alloc (.cells #[.slice a N c, .slice a' M c'] 29)).alloc (.cells #[.slice p N' k, .slice p' M' k'] 29)).alloc (.cells Try.zeroCells70 70)) := ⟨_, rfl⟩
  obtain ⟨W, hW⟩ := hW
  have hb0 : Below w.heap.size w W := by rw [hW]; exact (((Below.refl _ w).alloc (Nat.le_refl _) _).alloc (by simp) _).alloc (by simp; omega) _
  have hz0 : W.heap.size = w.heap.size + 1 + 1 + 1 := by rw [hW]; simp
  have hZ : Blk W (w.heap.size + 1 + 1) z86 70 := by rw [hW]; exact Blk.newAt _ _ z86 _ (by simp)
  have hP : Blk W (w.heap.size + 1) [.slice p N' k, .slice p' M' k'] 29 := by rw [hW]; exact Blk.alloc (Blk.newAt _ _ [.slice p N' k, .slice p' M' k'] _ (by simp)) _
  have HRa := Lib.hid (HR.out W hb0)
  have HB0 := Lib.hid hb0
  have HZ := Lib.hid hZ
  have HP := Lib.hid hP
  have HW := Lib.hid hW
  clear hb0 hZ hP HR hW
  go_enter Try.func39, Try.ntmps39
  go_wp2_with fail
  rw [← HW.out]
  refine HRa.out.mono ?_; rintro e w1 ⟨rfl, b1⟩
  have hsz1 := b1.size
  have B1 := Lib.hid b1
  have HB1 := Lib.hid (bt HB0.out b1)
  clear b1 HRa
  go_wp2_with (with_reducible refine wpList_storeB rfl 69 (.tmp 6) (.tmp 13) rfl w1.heap.size 0 rc ?_ ?_ z43 69 ?_ ?_ ?_ ?_ ?_)
  · rfl
  · rfl
  · exact Blk.newAt _ _ _ _ rfl
  · rw [HL.out]; decide
  · rw [HL.out]; exact isz43
  · exact H1.out
  intro w2 hR hK
  rw [splice_all _ _ HL.out] at hR
  have hz2 : w2.heap.size = w1.heap.size + 1 := by rw [hK.out.size]; simp
  have hK1 : Below w1.heap.size w1 w2 := ((Below.refl w1.heap.size w1).alloc (Nat.le_refl _) _).trans (hK.out.below (Nat.le_refl _))
  have HB2 := Lib.hid (bt HB1.out hK1)
  have HZ2 := Lib.hid ((HZ.out.below B1.out HZ.out.lt).below hK1 (by omega))
  have HP2 := (HP.out.below B1.out HP.out.lt).below hK1 (by omega)
  have p0 : w2.cell? ⟨w.heap.size + 1, 0, none⟩ = some (.slice p N' k) := HP2.cell 0
  have p1 : w2.cell? ⟨w.heap.size + 1, 1, none⟩ = some (.slice p' M' k') := HP2.cell 1
  have HRb := Lib.hid (HR'.out w2 HB2.out)
  have hXw : w1.heap.size < w2.heap.size := by omega
  clear HP2 hK1 hK HR'
  generalize w1.heap.size = X at *
  go_wp2_with fail
  refine HRb.out.mono ?_; rintro e w3 ⟨rfl, b3⟩
  have hsz3 := b3.size
  have HB3 := Lib.hid (bt HB2.out b3)
  have HR3 := Lib.hid (hR.out.below b3 hR.out.lt)
  have HZ3 := Lib.hid (HZ2.out.below b3 HZ2.out.lt)
  clear b3 HRb hR HZ2
  go_wp2_with (with_reducible refine wpList_storeB rfl 69 (.tmp 8) (.tmp 18) rfl w3.heap.size 0 rd ?_ ?_ z43 69 ?_ ?_ ?_ ?_ ?_)
  · rfl
  · rfl
  · exact Blk.newAt _ _ _ _ rfl
  · rw [HL'.out]; decide
  · rw [HL'.out]; exact isz43
  · exact H1'.out
  intro w4 hR' hK4
  rw [splice_all _ _ HL'.out] at hR'
  have hz4 : w4.heap.size = w3.heap.size + 1 := by rw [hK4.out.size]; simp
  have hK5 : Below w3.heap.size w3 w4 := ((Below.refl w3.heap.size w3).alloc (Nat.le_refl _) _).trans (hK4.out.below (Nat.le_refl _))
  have HB4 := Lib.hid (bt HB3.out hK5)
  have HR4 := Lib.hid (HR3.out.below hK5 HR3.out.lt)
  have HZ4 := Lib.hid (HZ3.out.below hK5 HZ3.out.lt)
  have hXne : w.heap.size + 1 + 1 < w4.heap.size := HZ4.out.lt
  clear hK4 hK5 HR3 HZ3
  generalize w3.heap.size = X3 at *
  have HFIN : Hid (∀ w5, Hid (Blk w5 (w.heap.size + 1 + 1) (Go.splice z86 0 (rc ++ rd)) 70) → Hid (Keep (w.heap.size + 1 + 1) w4 w5) → Blk w5 (w.heap.size + 1 + 1) (rc ++ rd) 70 ∧ Below w.heap.size w w5) := Lib.hid (fun w5 h1 h2 => by
    have h3 := h1.out
    rw [splice_all _ _ (by rw [List.length_append, HL.out, HL'.out]; rfl)] at h3
    exact ⟨h3, HB4.out.trans (h2.out.below (by omega))⟩)
  have HLL := Lib.hid (show (rc ++ rd).length = 86 by rw [List.length_append, HL.out, HL'.out])
  have HOO : Hid (∀ v ∈ rc ++ rd, v.oneCell' = true) := Lib.hid (fun v hv => by
    rcases List.mem_append.1 hv with hv | hv
    · exact H1.out v hv
    · exact H1'.out v hv)
  cases r <;> cases r' <;>
  (go_wp2_with (first | (with_reducible refine wpList_loadB rfl 69 (.tmp 6) rfl X ?_ rc 69 HR4.out d43 HU.out.1 HU.out.2 ?_ ?_) | (with_reducible refine wpList_loadB rfl 69 (.tmp 8) rfl X3 ?_ rd 69 hR'.out d43 HU.out.1 HU.out.2 ?_ ?_) | (with_reducible refine wpList_buildTo rfl 70 #[(0, .tmp 20), (1, .tmp 21)] rfl (some 22) rfl (rc ++ rd).toArray ?_ ?_) | (with_reducible refine wpList_storeB rfl 70 (.tmp 4) (.tmp 22) rfl (w.heap.size + 1 + 1) 0 (rc ++ rd) ?_ ?_ z86 70 HZ4.out ?_ ?_ ?_ ?_))
   all_goals first | rfl | (rw [HL.out]; exact isz43) | (rw [HL'.out]; exact isz43) | exact HBU.out | (rw [HLL.out]; decide) | (rw [HLL.out]; exact isz86) | exact HOO.out | skip
   intro w5 q1 q2
   obtain ⟨f1, f2⟩ := HFIN.out w5 q1 q2
   go_wp2
   refine bodyPost_ret (results2 (a := 4) (k := 5) (t := 70) (p := ⟨w.heap.size + 1 + 1, 0, none⟩) (by kernel_rfl) rfl (HL86.out _ _ _ f1 HLL.out) rfl) rfl ⟨rfl, f2⟩)
end Go.Proofs.Ytbjgfbhfmaddgaa.Pv
namespace Go.Proofs.Ytbjgfbhfmaddgaa.Pv
open Go.RowKit
/-- The cells of a trial. -/
def triC (u : Value) (k l : Nat → Int) (g h : Bool) : List Value := u :: (six6 k ++ six6 l ++ [.bool g, .bool h])
theorem isz15 : (Try.prog.info? 77).map (·.size) = some 15 := by kernel_rfl
theorem und15 : ∃ d, Try.prog.underlying 77 = some d ∧ d.isRow = true := by
  cases h : Try.prog.underlying 77 with
  | none => exact absurd h (by decide +kernel)
  | some d =>
    refine ⟨d, rfl, ?_⟩
    have e : (Try.prog.underlying 77).map (fun d => d.isRow) = some true := by kernel_rfl
    rw [h] at e
    simpa using e
theorem results1 {P : Program} {fn : Func} {tmps : Array Value} {w : World} {a : Nat} {t : TypeId} (hr : fn.results = #[.cell a t]) {p : Addr} (hp : tmps.getD a undef = .pointer (some p)) {v : Value}
    (hl : (loadVar t p).run P w = .ok v w) : (results fn tmps).run P w = .ok v w := by
  unfold results
  rw [hr]
  have hp' : tmps[a]?.getD undef = .pointer (some p) := by simpa using hp
  simp [asAddr, hp', hl]
def z15 : List Value := triC (.slice none 0 0) (fun _ => 0) (fun _ => 0) false false
theorem one_triC (u : Value) (k l : Nat → Int) (g h : Bool) (hu : u.oneCell' = true) : ∀ v ∈ triC u k l g h, v.oneCell' = true := fun v hv => by
  simp [triC, six6] at hv
  rcases hv with rfl | rfl | rfl | rfl | rfl | rfl | rfl | rfl | rfl | rfl | rfl | rfl | rfl | rfl | rfl <;> first | rfl | exact hu
theorem triC_len (u : Value) (k l : Nat → Int) (g h : Bool) : (triC u k l g h).length = 15 := rfl
set_option maxHeartbeats 2000000 in
set_option maxRecDepth 100000 in
theorem tri0_i (w : World) : Calls Try.prog 41 #[] w (RetB (.agg (triC (.slice none 0 0) (fun _ => -1) (fun _ => -1) false false).toArray) w) := by
  obtain ⟨d15, hu15, hd15⟩ := und15
  have HL15 := Lib.hid (fun (w' : World) (b : Nat) (cs : List Value) (h : Blk w' b cs 77) (hc : cs.length = 15) => Blk.loadVar h 77 d15 hu15 hd15 (by rw [hc]; exact isz15))
  clear hu15 hd15
  have HE := Lib.hid (fun w' => empty6_i w')
  unfold six at HE
  go_enter Try.func41, Try.ntmps41
  go_wp2_with fail
  refine (HE.out _).mono ?_; rintro e w1 ⟨rfl, b1⟩
  have b0 : Below w.heap.size w (w.alloc (.cells z15.toArray 77)) := (Below.refl _ w).alloc (Nat.le_refl _) _
  have k0 : Blk (w.alloc (.cells z15.toArray 77)) w.heap.size z15 77 := Blk.newAt _ _ z15 _ rfl
  have K1 := k0.below b1 k0.lt
  have B1 := Lib.hid (bt b0 b1)
  clear b0 k0 b1
  go_wp2_with fail
  refine (HE.out _).mono ?_; rintro e w2 ⟨rfl, b2⟩
  have K2 := Lib.hid (K1.below b2 K1.lt)
  have B2 := Lib.hid (bt B1.out b2)
  clear K1 b2 B1 HE
  go_wp2_with (with_reducible refine wpList_storeB rfl 77 (.tmp 0) (.tmp 4) rfl w.heap.size 0 (triC (.slice none 0 0) (fun _ => -1) (fun _ => -1) false false) ?_ ?_ z15 77 K2.out ?_ ?_ ?_ ?_)
  · rfl
  · rfl
  · decide
  · exact isz15
  · exact one_triC _ _ _ _ _ rfl
  intro w3 h3 k3
  rw [splice_all _ _ (by rfl)] at h3
  go_wp2
  refine bodyPost_ret (results1 (a := 0) (t := 77) (p := ⟨w.heap.size, 0, none⟩) (by kernel_rfl) rfl (HL15.out _ _ _ h3.out rfl)) rfl ⟨rfl, B2.out.trans (k3.out.below (Nat.le_refl _))⟩
end Go.Proofs.Ytbjgfbhfmaddgaa.Pv
namespace Go.Proofs.Ytbjgfbhfmaddgaa.Pv
open Go.RowKit
/-- append of one number to a list without room behind it: a new row. -/
theorem wpList_appN {ops : Array Oper} {rest : List Oper} {o : Oper} {a : Act} {Q : Exit → Act → World → Prop} (wr : World) (hgd : o.guard = none) (s x : Operand)
    (ho : o.op = .call { callee := .builtin .append, args := #[s, x], argTypes := #[23, 23] })
    (ar : Option Addr) (n : Nat) (xs : List Int) (u : Int) (hs : a.eval s = .slice ar n n) (hx : a.eval x = .slice (some ⟨wr.heap.size, 0, none⟩) 1 1) (hr : Row wr ar xs) (hn : xs.length = n) (hform : ar = none ∨ ∃ b off, ar = some ⟨b, off, none⟩) (hnil : ar = none → n = 0)
    (hlen : n ≤ 1000) (h : ∀ v' w', Own w' wr.heap.size v' (xs ++ [u]) → Below wr.heap.size wr w' → wpList Try.prog ops Q rest (a.put o.dst v') w') :
    wpList Try.prog ops Q (o :: rest) a (wr.alloc (.cells #[.int .i64 u] 2)) := by
  rcases hform with rfl | ⟨b, off, rfl⟩
  · have e := hnil rfl
    subst e
    have e : xs = [] := List.eq_nil_of_length_eq_zero hn
    subst e
    exact wpList_app wr hgd s x ho wr.heap.size (.slice none 0 0) [] u hs hx (Own.nil _ _) (by simp) (Nat.le_refl _) h
  · obtain ⟨i0, hi, hz0, hz1, hz2⟩ := info_parts infoI
    obtain ⟨W, hW⟩ : ∃ W, W = wr.alloc (.cells #[.int .i64 u] 2) := ⟨_, rfl⟩
    have hWz : W.heap.size = wr.heap.size + 1 := by rw [hW]; simp
    have hbW : Below wr.heap.size wr W := by rw [hW]; exact (Below.refl _ _).alloc (Nat.le_refl _) _
    have hV : W.heap[wr.heap.size]? = some (.cells #[.int .i64 u] 2 (0, 0)) := by rw [hW]; exact heap_alloc_new wr _
    have hrr : ∀ j, j < xs.length → wr.cell? ⟨b, off + j, none⟩ = some (.int .i64 (xs.getD j 0)) ∧ b < wr.heap.size := fun j hj => by
      obtain ⟨b5, off5, e5, d5, hb5⟩ := hr j hj
      cases e5
      exact ⟨d5, hb5⟩
    have hrun := run_append_grow (P := Try.prog) (w := W) 23 o.type 2 i0 _ Try.underlying23 hi hz0 ⟨b, off, none⟩ n n (xs.map (Value.int .i64)) (by rw [hz1]; simp [hn]) (fun j v hj => by
        rw [Addr.add_lit]
        rw [List.getElem?_map] at hj
        obtain ⟨y, hy, rfl⟩ := Option.map_eq_some_iff.1 hj
        have hlt : j < xs.length := (List.getElem?_eq_some_iff.1 hy).1
        obtain ⟨d5, hb5⟩ := hrr j hlt
        have q : xs.getD j 0 = y := by rw [List.getD_eq_getElem?_getD, hy]; rfl
        rw [q] at d5
        exact (hbW.cell (p := ⟨b, off + j, none⟩) hb5).trans d5)
      ⟨wr.heap.size, 0, none⟩ 1 1 [.int .i64 u] (by rw [hz1]; rfl) (fun j v hj => by rw [Addr.add_lit, cell_of_row W _ _ _ _ _ hV, ← hj]; simp) (by omega) (by omega) (by rw [hz2]; exact growslice_fits (by omega) (by omega))
    have hG := grownCap_ge W (n + 1) n 2
    have hGm := grownCap_le_maxLen W (n + 1) n 2 (by unfold maxLen; omega)
    rw [← hW]
    generalize grownCap W (n + 1) n 2 = G at *
    refine Lib.wpList_append_run W hgd s x 23 23 ho _ _ hs hx _ _ hrun (h _ _ ?_ ?_)
    · have hll : (xs ++ [u]).length = n + 1 := by simp [hn]
      show World.ownsRow _ _ _ _ _ (xs ++ [u]).length _
      rw [hll]
      refine ⟨by rw [List.length_map, hll, Nat.mul_one], .inr ⟨W.heap.size, G, _, rfl, by omega, heap_alloc_new W.drew _, hG, hGm, ?_, ?_⟩⟩
      · simp [Builtin.zeroCells, Value.cells, hn]; omega
      · rw [Nat.mul_one]
        simp [Builtin.zeroCells, Value.cells, hn, List.take_append]
        exact List.take_of_length_le (by simp [hn])
    · exact (hbW.drew).alloc (by show wr.heap.size ≤ W.heap.size; omega) _
theorem run_index2 (w : World) (i : Nat) (hi : i < 2) (r1 r2 : List Value) (h1 : r1.length = 43) (h2 : r2.length = 43) :
    (Instr.index 70 (.agg (r1 ++ r2).toArray) (.int .i64 (i : Nat))).run Try.prog w = .ok (.agg (if i = 0 then r1 else r2).toArray) w := by
  have hu := run_underlying und86' w
  have hz := Try.sizeOf69 w
  have ha := Try.isAgg69 w
  match i, hi with
  | 0, _ =>
    simp [Instr.index, asIntOf, hu, hz, part, ha, Result.andThen]
    exact List.take_left' h1
  | 1, _ =>
    simp [Instr.index, asIntOf, hu, hz, part, ha, Result.andThen]
    rw [List.drop_left' h1, List.take_of_length_le (by omega)]
end Go.Proofs.Ytbjgfbhfmaddgaa.Pv
namespace Go.Proofs.Ytbjgfbhfmaddgaa
open Go.RowKit
theorem szPG_yes (a a' : Option Addr) (c c' len' : Nat) (hs : List (List Int)) (left : Int) (w : World) (hleft : left ≤ 1048576) (hm : IsMatL w a hs) (h : (hs.length : Int) + ((lens hs).sum : Nat) + (len' : Int) ≤ left) :
    Calls Try.prog 6 #[.agg #[.slice a hs.length c, .slice a' len' c'], .int .i64 left] w (NbI (left - hs.length - ((lens hs).sum : Nat) - len') w) := by
  have b0 := (Below.refl w.heap.size w).alloc (Nat.le_refl _) (.cells #[.slice a hs.length c, .slice a' len' c'] 25)
  have H1 := Lib.hid (szM_yes a c hs left _ (hm.below b0) (by omega) (by omega))
  have H2 := Lib.hid (szI_yes a' len' c' (left - hs.length - ((lens hs).sum : Nat)) (w.alloc (.cells #[.slice a hs.length c, .slice a' len' c'] 25)) (by omega) (by omega))
  have n1 : ¬ (left - (hs.length : Int) - ((lens hs).sum : Nat)) < 0 := by omega
  have n2 : ¬ (left - (hs.length : Int) - ((lens hs).sum : Nat) - (len' : Int)) < 0 := by omega
  clear hm h
  generalize (lens hs).sum = T at *
  generalize hs.length = N at *
  go_enter Try.func6, Try.ntmps6
  go_wp2_with fail
  refine H1.out.mono ?_; rintro e w' ⟨rfl, rfl⟩
  go_wp2_with fail
  refine H2.out.mono ?_; rintro e w' ⟨rfl, rfl⟩
  go_wp2
  go_ret
  exact ⟨rfl, b0⟩
theorem szPG_no (a a' : Option Addr) (c c' len' : Nat) (hs : List (List Int)) (left : Int) (w : World) (hleft0 : 0 ≤ left) (hleft : left ≤ 1048576) (hm : IsMatL w a hs) (hl : len' ≤ 9223372036854775807) (h : ¬ (hs.length : Int) + ((lens hs).sum : Nat) + (len' : Int) ≤ left) :
    Calls Try.prog 6 #[.agg #[.slice a hs.length c, .slice a' len' c'], .int .i64 left] w (NbI (-1) w) := by
  have b0 := (Below.refl w.heap.size w).alloc (Nat.le_refl _) (.cells #[.slice a hs.length c, .slice a' len' c'] 25)
  by_cases h1 : (hs.length : Int) + ((lens hs).sum : Nat) ≤ left
  · have H1 := Lib.hid (szM_yes a c hs left _ (hm.below b0) (by omega) (by omega))
    have H2 := Lib.hid (szI_no a' len' c' (left - hs.length - ((lens hs).sum : Nat)) (w.alloc (.cells #[.slice a hs.length c, .slice a' len' c'] 25)) (by omega) (by omega) (by omega) hl)
    have n1 : ¬ (left - (hs.length : Int) - ((lens hs).sum : Nat)) < 0 := by omega
    clear hm h h1
    generalize (lens hs).sum = T at *
    generalize hs.length = N at *
    go_enter Try.func6, Try.ntmps6
    go_wp2_with fail
    refine H1.out.mono ?_; rintro e w' ⟨rfl, rfl⟩
    go_wp2_with fail
    refine H2.out.mono ?_; rintro e w' ⟨rfl, rfl⟩
    go_wp2
    go_ret
    exact ⟨rfl, b0⟩
  · have H1 := Lib.hid (szM_no a c hs left _ (hm.below b0) (by omega) (by omega) (by omega))
    clear hm h h1
    generalize hs.length = N at *
    go_enter Try.func6, Try.ntmps6
    go_wp2_with fail
    refine H1.out.mono ?_; rintro e w' ⟨rfl, rfl⟩
    go_wp2
    go_ret
    exact ⟨rfl, b0⟩
end Go.Proofs.Ytbjgfbhfmaddgaa
