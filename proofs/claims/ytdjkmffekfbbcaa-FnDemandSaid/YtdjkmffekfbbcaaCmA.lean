/- Marks in lists of accesses, from any number on; append of an access. -/
import Derived.Test.YtdjkmffekfbbcaaCvt
import Derived.Maps.AppendAt
namespace Go.Proofs.Ytdjkmffekfbbcaa.Ac
open Go.RowKit Tr
/-- The list that marks leave, from K on. -/
def mkG (K : Int) (n : Nat) : List (Int × Int) := (List.range n).map fun j : Nat => (K + 2 * (j : Int), K + 2 * (j : Int) + 1)
theorem mkG_length (K : Int) (n : Nat) : (mkG K n).length = n := by simp [mkG]
theorem mkG_get (K : Int) (n j : Nat) (h : j < n) : (mkG K n).getD j (0, 0) = (K + 2 * (j : Int), K + 2 * (j : Int) + 1) := by
  rw [List.getD_eq_getElem?_getD, List.getElem?_eq_getElem (by rw [mkG_length]; exact h)]
  simp [mkG]
theorem ext_getDA (xs ys : List (Int × Int)) (hl : xs.length = ys.length) (h : ∀ i, i < xs.length → xs.getD i (0, 0) = ys.getD i (0, 0)) : xs = ys := by
  refine List.ext_getElem hl fun i h1 h2 => ?_
  have := h i h1
  rwa [List.getD_eq_getElem?_getD, List.getElem?_eq_getElem h1, List.getD_eq_getElem?_getD, List.getElem?_eq_getElem h2] at this
def MarkedG (B : Nat) (v : Value) (K : Int) (n : Nat) (w : World) (e : Ending) (w' : World) : Prop := e = .returned (.int .i64 (K + 2 * (n : Int))) ∧ OwnA w' B v (mkG K n) ∧ w.grownBy w' v.ownBlock
set_option maxHeartbeats 2000000 in
theorem markG {w : World} {B : Nat} {v : Value} {xs : List (Int × Int)} (K : Int) (hK0 : 0 ≤ K) (hK1 : K ≤ 100000000) (h : OwnA w B v xs) (hn : xs.length ≤ 1048576) :
    Calls Try.prog 13 #[v, .int .i64 K] w (MarkedG B v K xs.length w) := by
  rcases h.2 with ⟨rfl, h0⟩ | ⟨g, cap, cur, rfl, _⟩
  · rw [h0]
    go_enter Try.func13, Try.ntmps13
    go_wp2
    refine wp_loop_rounds 1 ?_
    rw [rounds_succ]
    go_wp2
    go_ret
    exact ⟨ret_i64 (by simp), World.ownsRow_nil _ _ _ _, ⟨rfl, rfl, rfl, Nat.le_refl _, fun _ _ _ => rfl⟩⟩
  · have h0 : w.ownsRow B 49 2 (.slice (some ⟨g, 0, none⟩) xs.length cap) xs.length (acells xs) := h
    generalize hN : xs.length = N at *
    have HN := Lib.hid hN
    have H0 := Lib.hid h0
    clear hN h0 h
    go_enter Try.func13, Try.ntmps13
    go_wp2
    go_loopw [1, 5] (fun k i wr => ∃ j : Nat, j ≤ N ∧ i = .int .i64 j ∧ k = .int .i64 (K + 2 * (j : Int)) ∧ ∃ ys : List (Int × Int), Hid (ys.length = N) ∧ Hid (wr.ownsRow B 49 2 (.slice (some ⟨g, 0, none⟩) N cap) N (acells ys)) ∧ Hid (w.grownBy wr (some g)) ∧
        Hid (∀ i, i < j → ys.getD i (0, 0) = (K + 2 * (i : Int), K + 2 * (i : Int) + 1))) (fun _ i _ => N - (intOf i).toNat)
    case atStart => exact ⟨0, Nat.zero_le _, rfl, by simp, xs, HN, H0, ⟨rfl, rfl, rfl, Nat.le_refl _, fun _ _ _ => rfl⟩, fun i h => by omega⟩
    case round =>
      obtain ⟨j, hj, rfl, rfl, ys, hy, ho, hg, hm⟩ := hrel
      by_cases hlt : j < N
      · have hl := acells_length ys
        rw [hy.out] at hl
        have s1 := World.ownsRow.stored ho.out (j * 2) (.int .i64 (K + 2 * (j : Int)))
        have s2 := World.ownsRow.stored s1.1 (j * 2 + 1) (.int .i64 (K + 2 * (j : Int) + 1))
        rw [acells_set ys j _ _ (by rw [hy.out]; exact hlt)] at s2
        have S2 := Lib.hid s2.1
        have G2 := Lib.hid (grownBy_trans hg.out (grownBy_trans s1.2 s2.2))
        have k1 : ∃ old, wr.cell? ⟨g, j * 2, none⟩ = some old := ⟨_, by rw [ho.out.cellAt (j * 2) (by omega), List.getElem?_eq_getElem (by omega)]⟩
        have k2 : ∃ old, wr.cell? ⟨g, j * 2 + 1, none⟩ = some old := ⟨_, by rw [ho.out.cellAt (j * 2 + 1) (by omega), List.getElem?_eq_getElem (by omega)]⟩
        obtain ⟨o1, k1⟩ := k1
        obtain ⟨o2, k2⟩ := k2
        have f1 := ho.out.frozenAt (j * 2)
        have f2 := ho.out.frozenAt (j * 2 + 1)
        have HY := Lib.hid (show (ys.set j (K + 2 * (j : Int), K + 2 * (j : Int) + 1)).length = N by rw [List.length_set]; exact hy.out)
        have HM := Lib.hid (show ∀ i, i < j + 1 → (ys.set j (K + 2 * (j : Int), K + 2 * (j : Int) + 1)).getD i (0, 0) = (K + 2 * (i : Int), K + 2 * (i : Int) + 1) from fun i hi => by
          by_cases e : i = j
          · subst e
            rw [List.getD_eq_getElem?_getD, List.getElem?_set_self (by rw [hy.out]; exact hlt)]
            rfl
          · rw [List.getD_eq_getElem?_getD, List.getElem?_set_ne (fun h => e h.symm), ← List.getD_eq_getElem?_getD]
            exact hm.out i (by omega))
        clear s1 s2 hl ho hg hy hm
        go_wp2
        go_roundw
        case rel => exact ⟨j + 1, by omega, by go_num, by go_num, _, HY, S2, G2, HM⟩
        case measure => simp [intOf]; omega
      · have e : j = N := by omega
        subst e
        go_wp2
        go_ret
        refine ⟨rfl, ?_, hg.out⟩
        have he : ys = mkG K j := ext_getDA _ _ (by rw [mkG_length]; exact hy.out) fun i hi => by rw [mkG_get K j i (by rw [← hy.out]; exact hi)]; exact hm.out i (by rw [← hy.out]; exact hi)
        have h5 := ho.out
        rw [he] at h5
        show World.ownsRow _ _ _ _ _ (mkG K j).length _
        rw [mkG_length]
        exact h5
theorem OwnA.row2 {w : World} {B : Nat} {v : Value} {rs : List (Int × Int)} (h : OwnA w B v rs) : ∃ a c, v = .slice a rs.length c ∧ rs.length ≤ c ∧ c ≤ 9223372036854775807 ∧ RowA w a rs := by
  have h0 := h
  rcases h.2 with ⟨rfl, hn⟩ | ⟨g, cap, cur, rfl, hB, hg, hnc, hcm, _⟩
  · exact ⟨none, 0, by rw [hn], by omega, by omega, fun i hi => by omega⟩
  · obtain ⟨a, c, e, hr⟩ := h0.row
    injection e with e1 e2 e3
    subst e1 e3
    exact ⟨_, cap, rfl, hnc, by unfold maxLen at hcm; omega, hr⟩
theorem OwnA.nil (w : World) (B : Nat) : OwnA w B (.slice none 0 0) [] := World.ownsRow_nil _ _ _ _
theorem OwnA.mono {w : World} {B B' : Nat} {v : Value} {xs : List (Int × Int)} (h : OwnA w B v xs) (hB : B' ≤ B) : OwnA w B' v xs := by
  refine ⟨h.1, ?_⟩
  rcases h.2 with hn | ⟨g, cap, cur, hv, hg, r⟩
  · exact .inl hn
  · exact .inr ⟨g, cap, cur, hv, by omega, r⟩
theorem OwnA.kept {w w' : World} {B : Nat} {v : Value} {xs : List (Int × Int)} {row : Option Nat} (h : OwnA w B v xs) (hg : w.grownBy w' row) (hne : ∀ k, v.ownBlock = some k → some k ≠ row) : OwnA w' B v xs := by
  refine World.ownsRow.kept h hg ?_
  cases hv : v.ownBlock with
  | none => exact .inl rfl
  | some k => exact .inr (hne k hv)
theorem OwnA.drewN {w : World} {B : Nat} {v : Value} {xs : List (Int × Int)} (h : OwnA w B v xs) (k : Nat) : OwnA (w.drewN k) B v xs := h
theorem wpList_appA {ops : Array Oper} {rest : List Oper} {o : Oper} {a : Act} {Q : Exit → Act → World → Prop} (wr : World) (hgd : o.guard = none) (s x : Operand)
    (ho : o.op = .call { callee := .builtin .append, args := #[s, x], argTypes := #[27, 27] })
    (B : Nat) (v : Value) (rs : List (Int × Int)) (k ad : Int) (hs : a.eval s = v) (hx : a.eval x = .slice (some ⟨wr.heap.size, 0, none⟩) 1 1) (hown : OwnA wr B v rs)
    (hlen : rs.length + 1 ≤ 100000000) (hB : B ≤ wr.heap.size)
    (h : ∀ v' w', OwnA w' B v' (rs ++ [(k, ad)]) → Below B wr w' → (∀ p : Addr, p.block < wr.heap.size → v.ownBlock ≠ some p.block → w'.cell? p = wr.cell? p ∧ w'.frozen? p = wr.frozen? p) → (∀ q, v'.ownBlock = some q → v.ownBlock = some q ∨ wr.heap.size ≤ q) → wpList Try.prog ops Q rest (a.put o.dst v') w') :
    wpList Try.prog ops Q (o :: rest) a (wr.alloc (.cells #[.int .i64 k, .int .i64 ad] 49)) := by
  obtain ⟨i0, hi, hz0, hz1, hz2⟩ := info_parts infoA
  have hsz : (wr.alloc (.cells #[.int .i64 k, .int .i64 ad] 49)).heap.size = wr.heap.size + 1 := Array.size_push _
  refine wpList_append_own_at _ hgd s x 27 ho B 49 i0 (.agg #[.int .i64 0, .int .i64 0]) 2 16 Try.underlying27 hi hz0 hz1 hz2 rfl (by decide) v rs.length (acells rs) hs (World.ownsRow.alloc hown _)
    ⟨wr.heap.size, 0, none⟩ 1 1 [.int .i64 k, .int .i64 ad] hx rfl ?_ ?_ ?_ ?_ ?_ ?_
  · intro j u' hj
    match j, hj with
    | 0, hj => simp at hj; subst hj; simp [Addr.add]
    | 1, hj => simp at hj; subst hj; simp [Addr.add]
  · intro u' hu; simp at hu; rcases hu with hu | hu <;> subst hu <;> rfl
  · unfold maxLen; omega
  · omega
  · simp; omega
  · intro v' w' hown' hgrow _ hblk
    refine h v' w' ?_ ?_ ?_ ?_
    · show World.ownsRow _ _ _ _ _ (rs ++ [(k, ad)]).length _
      rw [List.length_append, acells_app]
      exact hown'
    · exact ((Below.refl B wr).alloc hB _).grown hgrow (by omega) (fun k hk => (OwnA.block hown k hk).1)
    · intro p hp hne
      have hb := hgrow.block p.block (by omega) (fun e => hne e.symm)
      have hb2 := Below.heap_alloc wr (.cells #[.int .i64 k, .int .i64 ad] 49) p.block hp
      exact ⟨World.cell?_of_block (w := wr) (hb.trans hb2), World.frozen?_of_block (w := wr) (hb.trans hb2)⟩
    · intro q hq
      rcases hblk with hb | hb
      · exact .inl (hb ▸ hq)
      · rw [hb] at hq; injection hq with hq; right; omega
end Go.Proofs.Ytdjkmffekfbbcaa.Ac
