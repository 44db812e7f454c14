/- append of one number to a list of the call's own: what was in its row before stays readable, also where the row moves. -/
import Derived.Test.YtfdjjaogmnagaaaCappg
import Derived.Test.YtfdjjaogmnagaaaCrd
namespace Go.Proofs.Ytfdjjaogmnagaaa
open Go.RowKit
/-- Cells that an append to v leaves: all of other blocks, and the first n of its own. -/
def KeptTo (w w' : World) (v : Value) (n : Nat) : Prop := ∀ b j, b < w.heap.size → (v.ownBlock = some b → j < n) → w'.cell? ⟨b, j, none⟩ = w.cell? ⟨b, j, none⟩
theorem Row.keptTo {w w' : World} {v : Value} {b n : Nat} {ys : List Int} (h : Row w (some ⟨b, 0, none⟩) ys) (hk : KeptTo w w' v n) (hn : ys.length ≤ n) (hs : w.heap.size ≤ w'.heap.size) : Row w' (some ⟨b, 0, none⟩) ys := fun i hi => by
  obtain ⟨b', off, ha, hc, hlt⟩ := h i hi
  injection ha with ha
  injection ha with e1 e2
  subst e1 e2
  exact ⟨b, 0, rfl, (hk b (0 + i) hlt (fun _ => by omega)).trans hc, by omega⟩
theorem wpList_appK {ops : Array Oper} {rest : List Oper} {o : Oper} {a : Act} {Q : Exit → Act → World → Prop} (wr : World) (hgd : o.guard = none) (s x : Operand)
    (ho : o.op = .call { callee := .builtin .append, args := #[s, x], argTypes := #[22, 22] })
    (B : Nat) (v : Value) (xs : List Int) (u : Int) (hs : a.eval s = v) (hx : a.eval x = .slice (some ⟨wr.heap.size, 0, none⟩) 1 1) (hown : Own wr B v xs)
    (hlen : xs.length + 1 ≤ 1000000000) (hB : B ≤ wr.heap.size)
    (h : ∀ v' w', Own w' B v' (xs ++ [u]) → Below B wr w' → Hid (KeptTo wr w' v xs.length) → wpList Try.prog ops Q rest (a.put o.dst v') w') :
    wpList Try.prog ops Q (o :: rest) a (wr.alloc (.cells #[.int .i64 u] 2)) := by
  obtain ⟨i0, hi, hz0, hz1, hz2⟩ := info_parts infoI
  have hsz : (wr.alloc (.cells #[.int .i64 u] 2)).heap.size = wr.heap.size + 1 := Array.size_push _
  have hown1 : (wr.alloc (.cells #[.int .i64 u] 2)).ownsRow B 2 1 v xs.length (xs.map (Value.int .i64)) := World.ownsRow.alloc hown _
  refine wpList_plain hgd fun K hK => ?_
  obtain ⟨v', w', hr, h2, h3, _, h5⟩ := run_append_own_at (P := Try.prog) (wr.alloc (.cells #[.int .i64 u] 2)) B 22 o.type 2 i0 (.int .i64 0) 1 8 Try.underlying22 hi hz0 hz1 hz2 rfl (by decide) v xs.length (xs.map (Value.int .i64)) hown1
    ⟨wr.heap.size, 0, none⟩ 1 1 [.int .i64 u] rfl (cell_one_new _ _ _) (fun u' hu => by simp at hu; subst hu; rfl) (by unfold maxLen; omega) (by omega) (by omega)
  have hOwn : Own w' B v' (xs ++ [u]) := by
    show World.ownsRow _ _ _ _ _ (xs ++ [u]).length _
    rw [List.length_append, List.map_append]
    exact h2
  have hkeep : KeptTo wr w' v xs.length := fun b j hb hj => by
    have e0 : (wr.alloc (.cells #[.int .i64 u] 2)).cell? ⟨b, j, none⟩ = wr.cell? ⟨b, j, none⟩ := ((Below.refl wr.heap.size wr).alloc (Nat.le_refl _) _).cell (p := ⟨b, j, none⟩) hb
    by_cases hvb : v.ownBlock = some b
    · have hj' := hj hvb
      rcases hown1.2 with ⟨rfl, hn⟩ | ⟨g, cap, cur, rfl, _, hg, hnc, _, hcs, _⟩
      · omega
      · obtain rfl : g = b := by injection hvb
        by_cases hroom : xs.length + 1 ≤ cap
        · have hr2 := run_append_room (P := Try.prog) (wr.alloc (.cells #[.int .i64 u] 2)) 22 o.type 2 i0 Try.underlying22 hi g xs.length cap cur hg ⟨wr.heap.size, 0, none⟩ 1 1 [.int .i64 u] (by rw [hz1]; rfl) (cell_one_new _ _ _) (fun u' hu => by simp at hu; subst hu; rfl) hroom (by rw [hz1]; simp; omega)
          rw [hr2] at hr
          injection hr with hv' _
          subst hv'
          have c1 := h2.cellAt j (by omega)
          have c0 := World.ownsRow.cellAt hown j (by omega)
          rw [c1, c0, List.getElem?_append_left (by rw [List.length_map]; exact hj')]
        · have holds : ∀ j u', (xs.map (Value.int .i64))[j]? = some u' → (wr.alloc (.cells #[.int .i64 u] 2)).cell? ((⟨g, 0, none⟩ : Addr).add j) = some u' := hown1.cells (g := g) rfl
          have hr2 := run_append_grow (P := Try.prog) (wr.alloc (.cells #[.int .i64 u] 2)) 22 o.type 2 i0 (.int .i64 0) Try.underlying22 hi hz0 ⟨g, 0, none⟩ xs.length cap (xs.map (Value.int .i64)) (by rw [hz1]; simp) holds ⟨wr.heap.size, 0, none⟩ 1 1 [.int .i64 u] (by rw [hz1]; rfl) (cell_one_new _ _ _) (by omega) (by omega) (growslice_fits (by omega) (by rw [hz2]; omega))
          rw [hr2] at hr
          injection hr with _ hw'
          subst hw'
          have hb2 : Below wr.heap.size wr (((wr.alloc (.cells #[.int .i64 u] 2)).drew).alloc (.cells ((xs.map (Value.int .i64)).toArray ++ [Value.int .i64 u].toArray ++ Builtin.zeroCells (Value.int IntKind.i64 0).cells (grownCap (wr.alloc (.cells #[.int .i64 u] 2)) (xs.length + 1) cap 2 - (xs.length + 1))) 2)) :=
            (((Below.refl _ _).alloc (Nat.le_refl _) _).drew).alloc (by rw [show (World.drew _).heap.size = (wr.alloc (.cells #[.int .i64 u] 2)).heap.size from rfl, hsz]; omega) _
          exact hb2.cell (p := ⟨g, j, none⟩) hb
    · have hblk := h3.block b (by omega) (fun e => hvb e.symm)
      rw [← e0]
      unfold World.cell?
      simp only [hblk]
  unfold Oper.wp execOp
  simp only [ho, resolve, invoke, builtin, Sem.run_bind, Sem.run_pure, Result.andThen_ok, List.map_toArray, List.map_cons, List.map_nil, hs, hx, hr]
  refine hK _ _ (h v' w' hOwn ?_ hkeep)
  exact ((Below.refl B wr).alloc hB _).grown h3 (by omega) (fun k hk => (Own.block hown k hk).1)
end Go.Proofs.Ytfdjjaogmnagaaa
