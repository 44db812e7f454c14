/- append of a list that is read; the model's copy of a list. -/
import Derived.Test.YtimfekedpgllhaaCappg
import Derived.Test.YtimfekedpgllhaaCrd
import Derived.Maps.AppendAt
namespace Go.Proofs.Ytimfekedpgllhaa
open Go.RowKit
/-- append of a list that is read. -/
theorem wpList_appL {ops : Array Oper} {rest : List Oper} {o : Oper} {a : Act} {Q : Exit → Act → World → Prop} (wr : World) (hgd : o.guard = none) (s x : Operand)
    (ho : o.op = .call { callee := .builtin .append, args := #[s, x], argTypes := #[23, 23] })
    (B : Nat) (v : Value) (xs ys : List Int) (b off m c : Nat) (hs : a.eval s = v) (hx : a.eval x = .slice (some ⟨b, off, none⟩) m c) (hown : Own wr B v xs) (hm : ys.length = m)
    (hc : ∀ j, j < m → wr.cell? ⟨b, off + j, none⟩ = some (.int .i64 (ys.getD j 0)))
    (hlen : xs.length + ys.length ≤ 1000000000) (hB : B ≤ wr.heap.size)
    (h : ∀ v' w', Own w' B v' (xs ++ ys) → Below B wr w' → wpList Try.prog ops Q rest (a.put o.dst v') w') :
    wpList Try.prog ops Q (o :: rest) a wr := by
  obtain ⟨i0, hi, hz0, hz1, hz2⟩ := info_parts infoI
  refine wpList_append_own_at _ hgd s x 23 ho B 2 i0 (.int .i64 0) 1 8 Try.underlying23 hi hz0 hz1 hz2 rfl (by decide) v xs.length (xs.map (Value.int .i64)) hs hown
    ⟨b, off, none⟩ m c (ys.map (Value.int .i64)) hx (by simp [hm]) ?_ ?_ ?_ ?_ ?_ ?_
  · intro j u hj
    rw [List.getElem?_map, Option.map_eq_some_iff] at hj
    obtain ⟨y, hy, rfl⟩ := hj
    obtain ⟨hjl, ey⟩ := List.getElem?_eq_some_iff.1 hy
    have h1 := hc j (by omega)
    have e : (⟨b, off, none⟩ : Addr).add j = ⟨b, off + j, none⟩ := by unfold Addr.add; by_cases h : j = 0 <;> simp [h]
    rw [e, h1, List.getD_eq_getElem?_getD, hy]; rfl
  · intro u hu
    obtain ⟨y, _, rfl⟩ := List.mem_map.1 hu
    rfl
  · unfold maxLen; omega
  · omega
  · omega
  · intro v' w' hown' hgrow _ _
    refine h v' w' ?_ ?_
    · show World.ownsRow _ _ _ _ _ (xs ++ ys).length _
      rw [List.length_append, List.map_append, hm]
      exact hown'
    · exact (Below.refl B wr).grown hgrow hB (fun k hk => (Own.block hown k hk).1)
theorem Own.cellAt {w : World} {B : Nat} {sa : Option Addr} {N cap : Nat} {L : List Int} (h : Own w B (.slice sa N cap) L) (hl : L.length = N) (j : Nat) (hj : j < N) :
    ∃ g, sa = some ⟨g, 0, none⟩ ∧ B ≤ g ∧ g < w.heap.size ∧ w.cell? ⟨g, j, none⟩ = some (.int .i64 (L.getD j 0)) ∧ w.frozen? ⟨g, j, none⟩ = false ∧
      ∀ u, Own (w.setCell ⟨g, j, none⟩ (.int .i64 u)) B (.slice sa N cap) (L.set j u) ∧ w.grownBy (w.setCell ⟨g, j, none⟩ (.int .i64 u)) (some g) := by
  rcases h.cases with ⟨hv, hx⟩ | ⟨g, c, hv, h1, h2, h3, h4, h5⟩
  · subst hx; simp at hl; omega
  · injection hv with e1 e2 e3
    subst e1 e3
    refine ⟨g, rfl, h1, h2, h4 j (by omega), h5 j, fun u => ?_⟩
    have h0 : w.ownsRow B 2 1 (.slice (some ⟨g, 0, none⟩) N cap) L.length (L.map (Value.int .i64)) := h
    rw [hl] at h0
    have hst := World.ownsRow.stored h0 j (.int .i64 u)
    rw [← List.map_set] at hst
    refine ⟨?_, hst.2⟩
    show World.ownsRow _ _ _ _ _ (L.set j u).length _
    rw [List.length_set, hl]
    exact hst.1
set_option maxHeartbeats 1000000 in
theorem own_any (b off c : Nat) (xs : List Int) (w : World) (hn : xs.length ≤ 1000) (hr : Row w (some ⟨b, off, none⟩) xs) :
    Calls Try.prog 55 #[.slice (some ⟨b, off, none⟩) xs.length c] w (Lb xs w) := by
  have HC := Lib.hid (fun j (hj : j < xs.length) => show (w.alloc (.cells #[] 2)).cell? ⟨b, off + j, none⟩ = some (.int .i64 (xs.getD j 0)) from by
    obtain ⟨b', off', e, h1, h2⟩ := hr j hj
    injection e with e
    injection e with e1 e2
    subst e1 e2
    rw [World.cell?_of_block (w := w) (a := ⟨b, off + j, none⟩) (Below.heap_alloc w _ b h2), h1])
  have HO := Lib.hid ((Own.lit0 w).mono (Nat.le_refl _))
  have hz : (w.alloc (.cells #[] 2)).heap.size = w.heap.size + 1 := Array.size_push _
  have HB := Lib.hid ((Below.refl w.heap.size w).alloc (Nat.le_refl _) (.cells #[] 2))
  have hq : ([] : List Int).length + xs.length ≤ 1000000000 := by simp; omega
  clear hr
  generalize hN : xs.length = N at *
  have HN := Lib.hid hN
  clear hN
  go_enter Try.func55, Try.ntmps55
  go_wp2_with (at_builtin; refine wpList_appL _ rfl _ _ rfl w.heap.size _ [] xs b off N c ?_ ?_ HO.out HN.out HC.out (by rw [HN.out]; exact hq) (by rw [hz]; omega) ?_; rfl; rfl)
  intro v' w' ho hb
  go_wp2
  go_ret
  exact ⟨_, rfl, by simpa using ho, HB.out.trans hb⟩
end Go.Proofs.Ytimfekedpgllhaa
