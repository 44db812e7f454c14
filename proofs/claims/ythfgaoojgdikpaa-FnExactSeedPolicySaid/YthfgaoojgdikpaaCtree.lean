/- Both TreePolicy. -/
import Derived.Test.YthfgaoojgdikpaaCpof
import Derived.Test.YthfgaoojgdikpaaCappg
namespace Go.Proofs.Ythfgaoojgdikpaa
open Go.RowKit
theorem OwnW.lit (w : World) (xs : List Int) (T : TypeId) (hl : xs.length ≤ 1000) : OwnW (w.alloc (.cells (xs.map (Value.int .i64)).toArray T)) w.heap.size (.slice (some ⟨w.heap.size, 0, none⟩) xs.length xs.length) xs := by
  refine ⟨by rw [List.length_map], .inr ⟨w.heap.size, xs.length, _, T, rfl, Nat.le_refl _, heap_alloc_new w _, Nat.le_refl _, by unfold maxLen; omega, by simp, ?_⟩⟩
  rw [← List.length_map (f := Value.int .i64)]
  exact List.take_length
/-- append of two numbers to a list of the call's own. -/
theorem wpList_appT {ops : Array Oper} {rest : List Oper} {o : Oper} {a : Act} {Q : Exit → Act → World → Prop} (wr : World) (hgd : o.guard = none) (s x : Operand)
    (ho : o.op = .call { callee := .builtin .append, args := #[s, x], argTypes := #[23, 23] })
    (B : Nat) (v : Value) (xs : List Int) (u1 u2 : Int) (hs : a.eval s = v) (hx : a.eval x = .slice (some ⟨wr.heap.size, 0, none⟩) 2 2) (hown : Own wr B v xs)
    (hlen : xs.length + 2 ≤ 1000000000) (hB : B ≤ wr.heap.size)
    (h : ∀ v' w', Own w' B v' (xs ++ [u1, u2]) → Below B wr w' → wpList Try.prog ops Q rest (a.put o.dst v') w') :
    wpList Try.prog ops Q (o :: rest) a (wr.alloc (.cells #[.int .i64 u1, .int .i64 u2] 2)) := by
  obtain ⟨i0, hi, hz0, hz1, hz2⟩ := info_parts infoI
  refine wpList_append_own _ hgd s x 23 ho B 2 i0 (.int .i64 0) 1 8 Try.underlying23 hi hz0 hz1 hz2 rfl (by decide) v xs.length (xs.map (Value.int .i64)) hs (World.ownsRow.alloc hown _)
    ⟨wr.heap.size, 0, none⟩ 2 2 [.int .i64 u1, .int .i64 u2] hx rfl ?_ ?_ ?_ ?_ ?_ ?_
  · intro j u' hj
    match j, hj with
    | 0, hj => simp at hj; subst hj; simp [Addr.add]
    | 1, hj => simp at hj; subst hj; simp [Addr.add]
  · intro u' hu; simp at hu; rcases hu with rfl | rfl <;> rfl
  · unfold maxLen; omega
  · omega
  · simp; omega
  · intro v' w' hown' hgrow _
    refine h v' w' ?_ ?_
    · show World.ownsRow _ _ _ _ _ (xs ++ [u1, u2]).length _
      rw [List.length_append, List.map_append]
      exact hown'
    · exact ((Below.refl B wr).alloc hB _).grown hgrow (by simp; omega) (fun k hk => (Own.block hown k hk).1)
/-- A list, copied behind an empty one. -/
theorem own_s (b c : Nat) (xs : List Int) (w : World) (h0 : 0 < xs.length) (hn : xs.length ≤ 1000) (hc : ∀ i, i < xs.length → w.cell? ⟨b, i, none⟩ = some (.int .i64 (xs.getD i 0))) :
    Calls Try.prog 58 #[.slice (some ⟨b, 0, none⟩) xs.length c] w (Lb xs w) := by
  obtain ⟨i0, hi, hz0, hz1, hz2⟩ := info_parts infoI
  have HC := Lib.hid (fun j u (h : (xs.map (Value.int .i64))[j]? = some u) => (show (w.alloc (.cells #[] 2)).cell? ((⟨b, 0, none⟩ : Addr).add j) = some u by
    have e : (⟨b, 0, none⟩ : Addr).add j = ⟨b, j, none⟩ := by unfold Addr.add; split <;> simp_all
    rw [List.getElem?_map] at h
    cases hx : xs[j]? with
    | none => rw [hx] at h; cases h
    | some y =>
      rw [hx] at h
      have hj : j < xs.length := (List.getElem?_eq_some_iff.1 hx).1
      have h1 := hc j hj
      rw [List.getD_eq_getElem?_getD, hx] at h1
      rw [e, World.cell?_of_block (w := w) (a := ⟨b, j, none⟩) (Below.heap_alloc w _ b (World.block_lt_of_cell? w _ h1)), h1]
      exact h))
  have HO := Lib.hid (Own.lit0 w)
  have HL := Lib.hid (fun (v' : Value) (w' : World) (hown' : w'.ownsRow w.heap.size 2 1 v' xs.length (xs.map (Value.int .i64))) => (show Own w' w.heap.size v' xs from hown'))
  have hl : (xs.map (Value.int .i64)).length = xs.length * 1 := by simp
  have h1 : ∀ u ∈ xs.map (Value.int .i64), u.oneCell' = true := fun u hu => by
    obtain ⟨y, _, rfl⟩ := List.mem_map.1 hu
    rfl
  have hz : (w.alloc (.cells #[] 2)).heap.size = w.heap.size + 1 := Array.size_push _
  have HB := Lib.hid ((Below.refl w.heap.size w).alloc (Nat.le_refl _) (.cells #[] 2))
  have H1 := Lib.hid h1
  have Hl := Lib.hid hl
  clear hc hl h1
  generalize hN : xs.length = N at *
  clear hN
  go_enter Try.func58, Try.ntmps58
  go_wp2_with (at_builtin; refine wpList_append_own _ rfl _ _ 23 rfl w.heap.size 2 i0 (.int .i64 0) 1 8 Try.underlying23 hi hz0 hz1 hz2 rfl (by decide) (.slice (some ⟨w.heap.size, 0, none⟩) 0 0) 0 (([] : List Int).map (Value.int .i64)) rfl HO.out ⟨b, 0, none⟩ N c (xs.map (Value.int .i64)) rfl Hl.out HC.out H1.out (by unfold maxLen; omega) (by omega) (by omega) ?_)
  intro v' w' hown' hgrow _
  have ho := Lib.hid (HL.out v' w' hown')
  have hb := Lib.hid (HB.out.grown hgrow (by omega) (fun k hk => by injection hk with hk; have hk : w.heap.size = k := hk; omega))
  clear hown' hgrow
  go_wp2
  go_ret
  exact ⟨_, rfl, ho.out, hb.out⟩
theorem treO_two (j : Nat) (h : j < 4) : bits BinOp.xor IntKind.i64 (j : Int) 1 = treO j 1 ∧ 2 - (j : Int) / 2 * 2 = treO j 2 ∧ 3 - (j : Int) / 2 * 2 = treO j 3 ∧ treO j 0 = (j : Int) := by
  have : j = 0 ∨ j = 1 ∨ j = 2 ∨ j = 3 := by omega
  rcases this with rfl | rfl | rfl | rfl <;> decide
theorem row2 (j : Nat) : [(j : Int), treO j 1] = rowL 2 (treO j) := rfl
theorem row4 (j : Nat) : [(j : Int), treO j 1] ++ [treO j 2, treO j 3] = rowL 4 (treO j) := rfl
/-- The results' variable lies below the policy. -/
theorem ret_pol (Z : Nat) (w' : World) (T : Nat) (v : Value) (hs : List (List Int)) (ms : List Int) (h : OwnP w' (Z + 1) T v hs ms) (u u' : Value) :
    OwnP ((w'.setCell ⟨Z, 0, none⟩ u).setCell ⟨Z, 1, none⟩ u') Z T v hs ms := by
  have hW : ∀ (w : World) (off : Nat) (u : Value), Wr Z (Z + 1) w (w.setCell ⟨Z, off, none⟩ u) := fun w off u => ⟨rfl, rfl, rfl, by simp [World.setCell], fun b hb hr => Below.heap_setCell _ _ _ _ (by show b ≠ Z; omega)⟩
  exact ((h.wr (hW _ 0 u) (.inr (by omega))).wr (hW _ 1 u') (.inr (by omega))).mono (by omega)

/-- A policy that is being made in a variable: its rows so far, and Miss. -/
def PolInv (Z : Nat) (W0 wr : World) (v : Value) (vs : List Value) (hs : List (List Int)) (m : Value) : Prop :=
  Own2W wr (Z + 2) v vs hs ∧ (wr.cell? ⟨Z + 1, 0, none⟩ = some v ∧ wr.cell? ⟨Z + 1, 1, none⟩ = some m ∧ wr.frozen? ⟨Z + 1, 0, none⟩ = false ∧ wr.frozen? ⟨Z + 1, 1, none⟩ = false) ∧ Below (Z + 1) W0 wr ∧ Z + 2 ≤ wr.heap.size
theorem PolInv.cells {Z : Nat} {W0 wr w1 : World} {v m : Value} {vs : List Value} {hs : List (List Int)} (h : PolInv Z W0 wr v vs hs m) (bb : Below wr.heap.size wr w1) :
    w1.cell? ⟨Z + 1, 0, none⟩ = some v ∧ w1.cell? ⟨Z + 1, 1, none⟩ = some m ∧ w1.frozen? ⟨Z + 1, 0, none⟩ = false ∧ w1.frozen? ⟨Z + 1, 1, none⟩ = false ∧ Z + 1 < w1.heap.size := by
  obtain ⟨_, ⟨c0, c1, f0, f1⟩, _, hz⟩ := h
  have hl : Z + 1 < wr.heap.size := by omega
  exact ⟨(bb.cell (p := ⟨Z + 1, 0, none⟩) hl).trans c0, (bb.cell (p := ⟨Z + 1, 1, none⟩) hl).trans c1, (bb.frozen (p := ⟨Z + 1, 0, none⟩) hl).trans f0, (bb.frozen (p := ⟨Z + 1, 1, none⟩) hl).trans f1, Nat.lt_of_lt_of_le hl bb.size⟩
theorem PolInv.app {Z : Nat} {W0 wr w1 : World} {v m u : Value} {vs : List Value} {hs : List (List Int)} {zs : List Int} (h : PolInv Z W0 wr v vs hs m) (bb : Below wr.heap.size wr w1) (hu : OwnW w1 wr.heap.size u zs) :
    Own2W w1 (Z + 2) v vs hs ∧ OwnW w1 (Z + 2) u zs ∧ (∀ i k, i < hs.length → (vs.getD i s0).ownBlock = some k → u.ownBlock ≠ some k) ∧ (∀ k, u.ownBlock = some k → v.ownBlock ≠ some k) ∧ Z + 2 ≤ w1.heap.size := by
  obtain ⟨hO, _, _, hz⟩ := h
  refine ⟨Own2W.below hO bb (Nat.le_refl _), hu.mono hz, fun i k hi hk e => ?_, fun k hk e => ?_, Nat.le_trans hz bb.size⟩
  · have h1 := ((hO.2.2.1 i hi).block k hk).2
    have h2 := (hu.block k e).1
    omega
  · have h1 := (World.ownsRow.lt hO.2.1 k e).2
    have h2 := (hu.block k hk).1
    omega
theorem PolInv.store {Z : Nat} {W0 wr w1 w3 : World} {v v' m : Value} {vs vs' : List Value} {hs hs' : List (List Int)} (h : PolInv Z W0 wr v vs hs m) (bb : Below wr.heap.size wr w1) (ho3 : Own2W w3 (Z + 2) v' vs' hs') (hb3 : Below (Z + 2) w1 w3) :
    (w3.cell? ⟨Z + 1, 0, none⟩ = some v ∧ w3.frozen? ⟨Z + 1, 0, none⟩ = false) ∧ PolInv Z W0 (w3.setCell ⟨Z + 1, 0, none⟩ v') v' vs' hs' m := by
  obtain ⟨c0, c1, f0, f1, hl⟩ := h.cells bb
  have d0 := (hb3.cell (p := ⟨Z + 1, 0, none⟩) (Nat.lt_succ_self (Z + 1))).trans c0
  have d1 := (hb3.cell (p := ⟨Z + 1, 1, none⟩) (Nat.lt_succ_self (Z + 1))).trans c1
  have g0 := (hb3.frozen (p := ⟨Z + 1, 0, none⟩) (Nat.lt_succ_self (Z + 1))).trans f0
  have g1 := (hb3.frozen (p := ⟨Z + 1, 1, none⟩) (Nat.lt_succ_self (Z + 1))).trans f1
  have hW4 : Wr (Z + 1) (Z + 2) w3 (w3.setCell ⟨Z + 1, 0, none⟩ v') := ⟨rfl, rfl, rfl, by simp [World.setCell], fun b hb hr => Below.heap_setCell _ _ _ _ (by show b ≠ Z + 1; omega)⟩
  refine ⟨⟨d0, g0⟩, Own2W.wr ho3 hW4 (fun k hk => (World.ownsRow.lt ho3.2.1 k hk).2) (fun i k hi hk => ((ho3.2.2.1 i hi).block k hk).2) (.inr (Nat.le_refl _)),
    ⟨World.cell?_setCell_same _ _ _ d0, (World.cell?_setCell_other _ _ _ _ (by simp)).trans d1, by simpa using g0, by simpa using g1⟩, ?_, ?_⟩
  · have h2 := h.2.2.1
    have h3 := h.2.2.2
    exact ((h2.trans (bb.mono (by omega))).trans (hb3.mono (by omega))).setCell (p := ⟨Z + 1, 0, none⟩) (Nat.le_refl _) v'
  · have k1 : (w3.setCell ⟨Z + 1, 0, none⟩ v').heap.size = w3.heap.size := by simp [World.setCell]
    have k2 := h.2.2.2
    have k3 := bb.size
    have k4 := hb3.size
    rw [k1]
    omega
/-- The start of a policy in a variable. -/
theorem PolInv.start (Z : Nat) (w : World) (m : Value) (hZ : w.heap.size = Z) (o : Obj) : PolInv Z ((w.alloc o).alloc (.cells #[.slice none 0 0, m] 25)) ((w.alloc o).alloc (.cells #[.slice none 0 0, m] 25)) (.slice none 0 0) [] [] m := by
  subst hZ
  refine ⟨Own2W.nil _ _, ⟨by simp [go_sem], by simp [go_sem], by simp [go_sem], by simp [go_sem]⟩, Below.refl _ _, by simp⟩
/-- The variable of the result. -/
theorem PolInv.res {Z : Nat} {w W0 wr : World} (hZ : w.heap.size = Z) (hb : Below (Z + 1) W0 wr) (hW : Below (Z + 1) (w.alloc (.cells #[.slice none 0 0, .slice none 0 0] 25)) W0) :
    wr.cell? ⟨Z, 0, none⟩ = some (.slice none 0 0) ∧ wr.cell? ⟨Z, 1, none⟩ = some (.slice none 0 0) ∧ wr.frozen? ⟨Z, 0, none⟩ = false ∧ wr.frozen? ⟨Z, 1, none⟩ = false := by
  subst hZ
  have h := hW.trans hb
  have c : ∀ off, wr.cell? ⟨w.heap.size, off, none⟩ = _ := fun off => h.cell (p := ⟨w.heap.size, off, none⟩) (Nat.lt_succ_self _)
  have f : ∀ off, wr.frozen? ⟨w.heap.size, off, none⟩ = _ := fun off => h.frozen (p := ⟨w.heap.size, off, none⟩) (Nat.lt_succ_self _)
  rw [c 0, c 1, f 0, f 1]
  simp [go_sem]
/-- A policy out of its variable: Miss has been stored there, and it goes to the variable of the result. -/
theorem PolInv.done {Z : Nat} {W0 wr w1 : World} {v m u : Value} {vs : List Value} {hs : List (List Int)} {ms : List Int} (h : PolInv Z W0 wr v vs hs m) (bb : Below wr.heap.size wr w1) (hu : OwnW w1 wr.heap.size u ms) (u1 u2 : Value) :
    OwnP (((w1.setCell ⟨Z + 1, 1, none⟩ u).setCell ⟨Z, 0, none⟩ u1).setCell ⟨Z, 1, none⟩ u2) Z (((w1.setCell ⟨Z + 1, 1, none⟩ u).setCell ⟨Z, 0, none⟩ u1).setCell ⟨Z, 1, none⟩ u2).heap.size (.agg #[v, u]) hs ms := by
  obtain ⟨hO, hu2, hfar, hfar2, hz⟩ := h.app bb hu
  have hs1 : (((w1.setCell ⟨Z + 1, 1, none⟩ u).setCell ⟨Z, 0, none⟩ u1).setCell ⟨Z, 1, none⟩ u2).heap.size = w1.heap.size := by simp [World.setCell]
  rw [hs1]
  have hW : ∀ (w : World) (b off : Nat) (u : Value) (_ : Z ≤ b) (_ : b < Z + 2), Wr Z (Z + 2) w (w.setCell ⟨b, off, none⟩ u) := fun w b off u h1 h2 => ⟨rfl, rfl, rfl, by simp [World.setCell], fun b' hb hr => Below.heap_setCell _ _ _ _ (by show b' ≠ b; omega)⟩
  have W1 := ((hW w1 (Z + 1) 1 u (by omega) (by omega)).trans (hW _ Z 0 u1 (by omega) (by omega))).trans (hW _ Z 1 u2 (by omega) (by omega))
  have hv : ∀ k, v.ownBlock = some k → k < w1.heap.size := fun k hk => (World.ownsRow.lt hO.2.1 k hk).2
  have hvs : ∀ i k, i < hs.length → (vs.getD i s0).ownBlock = some k → k < w1.heap.size := fun i k hi hk => ((hO.2.2.1 i hi).block k hk).2
  have hm : ∀ k, u.ownBlock = some k → k < w1.heap.size := fun k hk => (hu2.block k hk).2
  exact OwnP.mono (B := Z + 2) ⟨v, u, vs, rfl, hO.wr W1 hv hvs (.inr (by omega)), hu2.wr W1 hm (.inr (by omega)), fun b hb => ⟨fun e => hfar2 b hb e, fun i hi e => hfar i b hi e hb⟩, hm, hv, hvs⟩ (by omega)

set_option maxHeartbeats 4000000 in
set_option maxRecDepth 100000 in
theorem tree_s2 (w : World) : Calls Try.prog 31 #[.int .i64 2] w (RetP (polP 2 treO 2) (rowL 2 (treO 1)) w) := by
  have HP := Lib.hid (fun j => polP_succ 2 treO j)
  have HPL := Lib.hid (fun j => polP_len 2 treO j)
  have HFM := Lib.hid (fun (wr : World) (B : Nat) (v : Value) (vs : List Value) (j : Nat) (h : Own2W wr B v vs (polP 2 treO j)) => Own2W.form h)
  have H0 := Lib.hid (fun (W : World) (B : Nat) => (show Own2W W B (.slice none 0 0) [] (polP 2 treO 0) from Own2W.nil W B))
  go_enter Try.func31, Try.ntmps31
  go_wp2
  generalize hZ : w.heap.size = Z at *
  have hW0 : ∃ W0 : World, W0 = (w.alloc (.cells #[.slice none 0 0, .slice none 0 0] 25)).alloc (.cells #[.slice none 0 0, .slice none 0 0] 25) := ⟨_, rfl⟩
  obtain ⟨W0, hW0⟩ := hW0
  have hI0 := Lib.hid (PolInv.start Z w (.slice none 0 0) hZ (.cells #[.slice none 0 0, .slice none 0 0] 25))
  have hR0 := Lib.hid (fun (wr : World) (hb : Below (Z + 1) W0 wr) => PolInv.res hZ hb (by rw [hW0]; exact (Below.refl _ _).alloc (by rw [← hZ]; simp) _))
  have hB0 := Lib.hid (show Below Z w W0 by rw [hW0, ← hZ]; exact ((Below.refl _ _).alloc (Nat.le_refl _) _).alloc (by simp) _)
  rw [← hW0] at hI0 ⊢
  clear hW0
  have HZ := Lib.hid hZ
  go_loopw [4, 5] (fun i _ wr => ∃ (j : Nat) (v : Value) (vs : List Value), j ≤ 2 ∧ i = .int .i64 (j : Nat) ∧ Hid (PolInv Z W0 wr v vs (polP 2 treO j) (.slice none 0 0))) (fun i _ _ => 2 - (intOf i).toNat)
  case atStart => exact ⟨0, _, [], Nat.zero_le _, rfl, hI0⟩
  case round =>
    obtain ⟨j, v, vs, hj, rfl, hI⟩ := hrel
    by_cases hlt : j < 2
    · obtain ⟨a, c, hv⟩ := HFM.out _ _ _ _ _ hI.out.1
      rw [HPL.out] at hv
      subst hv
      obtain ⟨hx, hy1, hy2, _⟩ := treO_two j (by omega)
      have HPJ := Lib.hid (HP.out j)
      have HROW := Lib.hid (row2 j)
      have hjj : (j : Int) < 2 := by omega

      have bb := (Below.refl wr.heap.size wr).alloc (Nat.le_refl _) (.cells #[.int .i64 (j : Int), .int .i64 (treO j 1)] 2)
      have hu : OwnW (wr.alloc (.cells #[.int .i64 (j : Int), .int .i64 (treO j 1)] 2)) wr.heap.size (.slice (some ⟨wr.heap.size, 0, none⟩) 2 2) (rowL 2 (treO j)) := OwnW.lit wr [(j : Int), treO j 1] 2 (by simp)
      obtain ⟨c0, c1, f0, f1, hlZ⟩ := hI.out.cells bb
      obtain ⟨p1, p2, p3, p4, p5⟩ := hI.out.app bb hu
      have hlen9 : (polP 2 treO j).length + 1 ≤ 1000000000 := by rw [HPL.out]; omega
      have HST := Lib.hid (fun (w3 : World) (v' : Value) (vs' : List Value) (o3 : Own2W w3 (Z + 2) v' vs' (polP 2 treO j ++ [rowL 2 (treO j)])) (b3 : Below (Z + 2) (wr.alloc (.cells #[.int .i64 (j : Int), .int .i64 (treO j 1)] 2)) w3) => hI.out.store bb o3 b3)
      have HFV := Lib.hid (fun (w3 : World) (v' : Value) (vs' : List Value) (o3 : Own2W w3 (Z + 2) v' vs' (polP 2 treO j ++ [rowL 2 (treO j)])) => Own2W.form o3)
      go_wp2_with (at_builtin; refine wpList_app2W _ rfl _ _ rfl (Z + 2) _ vs (polP 2 treO j) _ (rowL 2 (treO j)) ?_ ?_ p1 p2 p3 p4 hlen9 p5 ?_; rfl; first | rfl | exact (show Value.slice (some ⟨wr.heap.size + 1, 0, none⟩) 1 1 = Value.slice (some ⟨(wr.alloc _).heap.size, 0, none⟩) 1 1 from by simp))
      intro v6 w6 ho6 hb6 _ _
      obtain ⟨a6, n6, e6⟩ := HFV.out w6 v6 _ ho6
      have e7 : v6 = .slice a6 (j + 1) n6 := by rw [e6, List.length_append, HPL.out]; rfl
      clear e6
      subst e7
      obtain ⟨⟨d0, g0⟩, hI6⟩ := HST.out w6 _ _ ho6 hb6
      rw [← HPJ.out] at hI6
      have HI6 := Lib.hid hI6
      clear hI6 ho6 hb6 p1 p2 p3 p4 p5 c0 c1 f0 f1 hu
      go_wp2
      go_roundw
      case rel => exact ⟨j + 1, _, _, by omega, by go_num, HI6⟩
      case measure => simp [intOf]; omega
    · have e : j = 2 := by omega
      subst e
      obtain ⟨c0, c1, f0, f1, hlZ⟩ := hI.out.cells (Below.refl _ wr)
      obtain ⟨g, cp, gv⟩ : ∃ g cp, v = .slice (some ⟨g, 0, none⟩) 2 cp := by
        rcases hI.out.1.cases with ⟨_, h⟩ | ⟨g, cp, h, _⟩
        · have := HPL.out 2; rw [h] at this; simp at this
        · exact ⟨g, cp, by rw [h, HPL.out]⟩
      subst gv
      have hrow := row_cellW hI.out.1 (HPL.out 2) (show 1 < 2 by omega)
      have hor := hI.out.1.2.2.1 1 (by rw [HPL.out]; omega)
      have erow : (polP 2 treO 2).getD 1 [] = rowL 2 (treO 1) := rfl
      rw [erow] at hor
      obtain ⟨gr, cr, hvr, hgc⟩ : ∃ gr cr, vs.getD 1 s0 = .slice (some ⟨gr, 0, none⟩) 2 cr ∧ ∀ i, i < 2 → wr.cell? ⟨gr, i, none⟩ = some (.int .i64 ((rowL 2 (treO 1)).getD i 0)) := by
        rcases hor.cases with ⟨_, h⟩ | ⟨g, cp, h, _, _, _, hc, _⟩
        · cases h
        · exact ⟨g, cp, h, hc⟩
      rw [hvr] at hrow
      have HOWN := Lib.hid (own_s gr cr (rowL 2 (treO 1)) wr (by decide) (by decide) hgc)
      have HID := Lib.hid hI.out
      clear hvr hor hgc erow
      go_wp2_with fail
      refine HOWN.out.mono ?_
      rintro e w1 ⟨v1, rfl, o1, b1⟩
      obtain ⟨a1, k1, e1⟩ := Own.form o1
      subst e1
      obtain ⟨d0, d1, g0, g1, hl1⟩ := HID.out.cells b1
      obtain ⟨r0, r1, q0, q1⟩ := hR0.out w1 (HID.out.2.2.1.trans (b1.mono (by have := HID.out.2.2.2; omega)))
      have HD := Lib.hid (fun u1 u2 => HID.out.done b1 o1.weak u1 u2)
      have HBZ := Lib.hid (show Below Z w w1 from (hB0.out.trans (HID.out.2.2.1.mono (by omega))).trans (b1.mono (by have := HID.out.2.2.2; omega)))
      clear o1 b1 c0 c1 f0 f1 hrow
      go_wp2
      refine bodyPost_ret (v := .agg #[.slice (some ⟨g, 0, none⟩) 2 cp, .slice a1 _ k1]) (by simp [results, Try.results31, go_sem, d0, d1, g0, g1, r0, r1, q0, q1]; rfl) rfl ⟨_, rfl, ?_, ?_⟩
      · rw [HZ.out]
        exact HD.out _ _
      · rw [HZ.out]
        exact ((HBZ.out.setCell (p := ⟨Z + 1, 1, none⟩) (show Z ≤ Z + 1 by omega) _).setCell (p := ⟨Z, 0, none⟩) (Nat.le_refl _) _).setCell (p := ⟨Z, 1, none⟩) (Nat.le_refl _) _

set_option maxHeartbeats 4000000 in
set_option maxRecDepth 100000 in
theorem tree_s4 (w : World) : Calls Try.prog 31 #[.int .i64 4] w (RetP (polP 4 treO 4) (rowL 4 (treO 3)) w) := by
  have HP := Lib.hid (fun j => polP_succ 4 treO j)
  have HPL := Lib.hid (fun j => polP_len 4 treO j)
  have HFM := Lib.hid (fun (wr : World) (B : Nat) (v : Value) (vs : List Value) (j : Nat) (h : Own2W wr B v vs (polP 4 treO j)) => Own2W.form h)
  have H0 := Lib.hid (fun (W : World) (B : Nat) => (show Own2W W B (.slice none 0 0) [] (polP 4 treO 0) from Own2W.nil W B))
  go_enter Try.func31, Try.ntmps31
  go_wp2
  generalize hZ : w.heap.size = Z at *
  have hW0 : ∃ W0 : World, W0 = (w.alloc (.cells #[.slice none 0 0, .slice none 0 0] 25)).alloc (.cells #[.slice none 0 0, .slice none 0 0] 25) := ⟨_, rfl⟩
  obtain ⟨W0, hW0⟩ := hW0
  have hI0 := Lib.hid (PolInv.start Z w (.slice none 0 0) hZ (.cells #[.slice none 0 0, .slice none 0 0] 25))
  have hR0 := Lib.hid (fun (wr : World) (hb : Below (Z + 1) W0 wr) => PolInv.res hZ hb (by rw [hW0]; exact (Below.refl _ _).alloc (by rw [← hZ]; simp) _))
  have hB0 := Lib.hid (show Below Z w W0 by rw [hW0, ← hZ]; exact ((Below.refl _ _).alloc (Nat.le_refl _) _).alloc (by simp) _)
  rw [← hW0] at hI0 ⊢
  clear hW0
  have HZ := Lib.hid hZ
  go_loopw [4, 5] (fun i _ wr => ∃ (j : Nat) (v : Value) (vs : List Value), j ≤ 4 ∧ i = .int .i64 (j : Nat) ∧ Hid (PolInv Z W0 wr v vs (polP 4 treO j) (.slice none 0 0))) (fun i _ _ => 4 - (intOf i).toNat)
  case atStart => exact ⟨0, _, [], Nat.zero_le _, rfl, hI0⟩
  case round =>
    obtain ⟨j, v, vs, hj, rfl, hI⟩ := hrel
    by_cases hlt : j < 4
    · obtain ⟨a, c, hv⟩ := HFM.out _ _ _ _ _ hI.out.1
      rw [HPL.out] at hv
      subst hv
      obtain ⟨hx, hy1, hy2, _⟩ := treO_two j (by omega)
      have HPJ := Lib.hid (HP.out j)
      have HROW := Lib.hid (row4 j)
      have hjj : (j : Int) < 4 := by omega

      have hrl : Own (wr.alloc (.cells #[.int .i64 (j : Int), .int .i64 (treO j 1)] 2)) wr.heap.size (.slice (some ⟨wr.heap.size, 0, none⟩) 2 2) [(j : Int), treO j 1] := World.ownsRow_lit wr #[.int .i64 (j : Int), .int .i64 (treO j 1)] 2 (Nat.le_refl _) (by unfold maxLen; omega) rfl
      have hzz : wr.heap.size ≤ (wr.alloc (.cells #[.int .i64 (j : Int), .int .i64 (treO j 1)] 2)).heap.size := by simp
      have hBL := Lib.hid ((Below.refl wr.heap.size wr).alloc (Nat.le_refl _) (.cells #[.int .i64 (j : Int), .int .i64 (treO j 1)] 2))
      go_wp2_with (at_builtin; refine wpList_appT _ rfl _ _ rfl wr.heap.size _ [(j : Int), treO j 1] _ _ ?_ ?_ hrl (by simp) hzz ?_; rfl; exact (show Value.slice (some ⟨wr.heap.size + 1, 0, none⟩) 2 2 = Value.slice (some ⟨(wr.alloc _).heap.size, 0, none⟩) 2 2 from by simp))
      intro v5 w5 ho5 hb5
      obtain ⟨a5, n5, e5⟩ := Own.form ho5
      have e5 : v5 = .slice a5 4 n5 := e5
      subst e5
      have bb := hBL.out.trans hb5
      have hu : OwnW w5 wr.heap.size (.slice a5 4 n5) (rowL 4 (treO j)) := ho5.weak
      clear ho5 hb5 hrl hzz hBL
      obtain ⟨c0, c1, f0, f1, hlZ⟩ := hI.out.cells bb
      obtain ⟨p1, p2, p3, p4, p5⟩ := hI.out.app bb hu
      have hlen9 : (polP 4 treO j).length + 1 ≤ 1000000000 := by rw [HPL.out]; omega
      have HST := Lib.hid (fun (w3 : World) (v' : Value) (vs' : List Value) (o3 : Own2W w3 (Z + 2) v' vs' (polP 4 treO j ++ [rowL 4 (treO j)])) (b3 : Below (Z + 2) w5 w3) => hI.out.store bb o3 b3)
      have HFV := Lib.hid (fun (w3 : World) (v' : Value) (vs' : List Value) (o3 : Own2W w3 (Z + 2) v' vs' (polP 4 treO j ++ [rowL 4 (treO j)])) => Own2W.form o3)
      go_wp2_with (at_builtin; refine wpList_app2W _ rfl _ _ rfl (Z + 2) _ vs (polP 4 treO j) _ (rowL 4 (treO j)) ?_ ?_ p1 p2 p3 p4 hlen9 p5 ?_; rfl; first | rfl | exact (show Value.slice (some ⟨wr.heap.size + 1, 0, none⟩) 1 1 = Value.slice (some ⟨(wr.alloc _).heap.size, 0, none⟩) 1 1 from by simp))
      intro v6 w6 ho6 hb6 _ _
      obtain ⟨a6, n6, e6⟩ := HFV.out w6 v6 _ ho6
      have e7 : v6 = .slice a6 (j + 1) n6 := by rw [e6, List.length_append, HPL.out]; rfl
      clear e6
      subst e7
      obtain ⟨⟨d0, g0⟩, hI6⟩ := HST.out w6 _ _ ho6 hb6
      rw [← HPJ.out] at hI6
      have HI6 := Lib.hid hI6
      clear hI6 ho6 hb6 p1 p2 p3 p4 p5 c0 c1 f0 f1 hu
      go_wp2
      go_roundw
      case rel => exact ⟨j + 1, _, _, by omega, by go_num, HI6⟩
      case measure => simp [intOf]; omega
    · have e : j = 4 := by omega
      subst e
      obtain ⟨c0, c1, f0, f1, hlZ⟩ := hI.out.cells (Below.refl _ wr)
      obtain ⟨g, cp, gv⟩ : ∃ g cp, v = .slice (some ⟨g, 0, none⟩) 4 cp := by
        rcases hI.out.1.cases with ⟨_, h⟩ | ⟨g, cp, h, _⟩
        · have := HPL.out 4; rw [h] at this; simp at this
        · exact ⟨g, cp, by rw [h, HPL.out]⟩
      subst gv
      have hrow := row_cellW hI.out.1 (HPL.out 4) (show 3 < 4 by omega)
      have hor := hI.out.1.2.2.1 3 (by rw [HPL.out]; omega)
      have erow : (polP 4 treO 4).getD 3 [] = rowL 4 (treO 3) := rfl
      rw [erow] at hor
      obtain ⟨gr, cr, hvr, hgc⟩ : ∃ gr cr, vs.getD 3 s0 = .slice (some ⟨gr, 0, none⟩) 4 cr ∧ ∀ i, i < 4 → wr.cell? ⟨gr, i, none⟩ = some (.int .i64 ((rowL 4 (treO 3)).getD i 0)) := by
        rcases hor.cases with ⟨_, h⟩ | ⟨g, cp, h, _, _, _, hc, _⟩
        · cases h
        · exact ⟨g, cp, h, hc⟩
      rw [hvr] at hrow
      have HOWN := Lib.hid (own_s gr cr (rowL 4 (treO 3)) wr (by decide) (by decide) hgc)
      have HID := Lib.hid hI.out
      clear hvr hor hgc erow
      go_wp2_with fail
      refine HOWN.out.mono ?_
      rintro e w1 ⟨v1, rfl, o1, b1⟩
      obtain ⟨a1, k1, e1⟩ := Own.form o1
      subst e1
      obtain ⟨d0, d1, g0, g1, hl1⟩ := HID.out.cells b1
      obtain ⟨r0, r1, q0, q1⟩ := hR0.out w1 (HID.out.2.2.1.trans (b1.mono (by have := HID.out.2.2.2; omega)))
      have HD := Lib.hid (fun u1 u2 => HID.out.done b1 o1.weak u1 u2)
      have HBZ := Lib.hid (show Below Z w w1 from (hB0.out.trans (HID.out.2.2.1.mono (by omega))).trans (b1.mono (by have := HID.out.2.2.2; omega)))
      clear o1 b1 c0 c1 f0 f1 hrow
      go_wp2
      refine bodyPost_ret (v := .agg #[.slice (some ⟨g, 0, none⟩) 4 cp, .slice a1 _ k1]) (by simp [results, Try.results31, go_sem, d0, d1, g0, g1, r0, r1, q0, q1]; rfl) rfl ⟨_, rfl, ?_, ?_⟩
      · rw [HZ.out]
        exact HD.out _ _
      · rw [HZ.out]
        exact ((HBZ.out.setCell (p := ⟨Z + 1, 1, none⟩) (show Z ≤ Z + 1 by omega) _).setCell (p := ⟨Z, 0, none⟩) (Nat.le_refl _) _).setCell (p := ⟨Z, 1, none⟩) (Nat.le_refl _) _

end Go.Proofs.Ythfgaoojgdikpaa
