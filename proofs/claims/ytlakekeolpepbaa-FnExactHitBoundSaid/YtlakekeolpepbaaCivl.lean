/- Lists of intervals of the call's own, and sort.Slice over one. -/
import Derived.Test.YtlakekeolpepbaaPlainIv
import Derived.Test.YtlakekeolpepbaaCgaps
import Derived.Test.YtlakekeolpepbaaCappg
import Derived.Test.YtlakekeolpepbaaCshelf
import Derived.Laws.OwnMore
import Derived.Shelf.SlSortFuncK.WholeK
import Derived.Shelf.GgSortFunc.Tiny
import Derived.Deep.QuietTactic
namespace Go.Proofs.Ytlakekeolpepbaa.Tr
open Go.RowKit
def encI (p : Int × Int) : List Value := [.int .i64 p.1, .int .i64 p.2]
def icells : List (Int × Int) → List Value
  | [] => []
  | p :: ps => .int .i64 p.1 :: .int .i64 p.2 :: icells ps
theorem icells_app (a b : List (Int × Int)) : icells (a ++ b) = icells a ++ icells b := by
  induction a with
  | nil => rfl
  | cons r a ih => simp [icells, ih]
theorem icells_length (a : List (Int × Int)) : (icells a).length = a.length * 2 := by
  induction a with
  | nil => rfl
  | cons r a ih => simp [icells, ih]; omega
theorem icells_get : ∀ (ps : List (Int × Int)) (t : Nat), t < ps.length * 2 → (icells ps)[t]? = some (encI (ps.getD (t / 2) (0, 0)))[t % 2]!
  | [], t, h => by simp at h
  | p :: ps, 0, _ => rfl
  | p :: ps, 1, _ => rfl
  | p :: ps, t + 2, h => by
    have h1 : (t + 2) / 2 = t / 2 + 1 := by omega
    have h2 : (t + 2) % 2 = t % 2 := by omega
    rw [h1, h2]
    show (icells ps)[t]? = _
    rw [icells_get ps t (by simp at h; omega)]
    rfl
theorem icells_at (ps : List (Int × Int)) (j : Nat) (h : j < ps.length) : (icells ps)[j * 2]? = some (.int .i64 (ps.getD j (0, 0)).1) ∧ (icells ps)[j * 2 + 1]? = some (.int .i64 (ps.getD j (0, 0)).2) := by
  have h0 := icells_get ps (j * 2) (by omega)
  have h1 := icells_get ps (j * 2 + 1) (by omega)
  rw [show j * 2 / 2 = j by omega, show j * 2 % 2 = 0 by omega] at h0
  rw [show (j * 2 + 1) / 2 = j by omega, show (j * 2 + 1) % 2 = 1 by omega] at h1
  exact ⟨h0, h1⟩
theorem arr_get {α : Type} [Inhabited α] (l : List α) (d : α) (t : Nat) (h : t < l.length) : l.toArray[t]! = l.getD t d := by
  rw [getElem!_pos _ t (by simpa using h), List.getElem_toArray, List.getD_eq_getElem?_getD, List.getElem?_eq_getElem h]; rfl
theorem flat_ic (ps : List (Int × Int)) : Sort.flatK encI 2 ps.toArray = (icells ps).toArray := by
  refine Sort.ext_get! (by simp [icells_length]) fun t ht => ?_
  have ht' : t < ps.length * 2 := by simpa using ht
  rw [Sort.get_flatK _ _ _ t (by simpa using ht'), arr_get ps (0, 0) (t / 2) (by omega)]
  have h := icells_get ps t ht'
  have hl : t < (icells ps).length := by rw [icells_length]; exact ht'
  have e : (icells ps).getD t undef = (encI (ps.getD (t / 2) (0, 0)))[t % 2]! := by rw [List.getD_eq_getElem?_getD, h]; rfl
  rw [arr_get (icells ps) undef t hl, e]
/-- v is a list of intervals of the call's own. -/
def OwnI (w : World) (B : Nat) (v : Value) (ps : List (Int × Int)) : Prop := w.ownsRow B 42 2 v ps.length (icells ps)
theorem OwnI.nil (w : World) (B : Nat) : OwnI w B (.slice none 0 0) [] := World.ownsRow_nil _ _ _ _
theorem OwnI.block {w : World} {B : Nat} {v : Value} {ps : List (Int × Int)} (h : OwnI w B v ps) : ∀ k, v.ownBlock = some k → B ≤ k ∧ k < w.heap.size := World.ownsRow.lt h
theorem infoIv : (Try.prog.info? 42).map (fun i => (i.zero, i.size, i.bytes)) = some (some (.agg #[.int .i64 0, .int .i64 0]), 2, 16) := by kernel_rfl
theorem OwnI.form {w : World} {B : Nat} {v : Value} {ps : List (Int × Int)} (h : OwnI w B v ps) : ∃ a cap, v = .slice a ps.length cap := by
  rcases h.2 with ⟨h0, h1⟩ | ⟨g, cap, cur, hv, _⟩
  · exact ⟨none, 0, by rw [h0, h1]⟩
  · exact ⟨_, cap, hv⟩
theorem OwnI.cases {w : World} {B : Nat} {v : Value} {ps : List (Int × Int)} (h : OwnI w B v ps) :
    (v = .slice none 0 0 ∧ ps = []) ∨ ∃ g cap, v = .slice (some ⟨g, 0, none⟩) ps.length cap ∧ B ≤ g ∧ g < w.heap.size ∧ ps.length ≤ cap ∧ cap ≤ 9223372036854775807 ∧
      ∀ j, j < ps.length → w.cell? ⟨g, j * 2, none⟩ = some (.int .i64 (ps.getD j (0, 0)).1) ∧ w.cell? ⟨g, j * 2 + 1, none⟩ = some (.int .i64 (ps.getD j (0, 0)).2) := by
  have h0 : w.ownsRow B 42 2 v ps.length (icells ps) := h
  rcases h0.2 with ⟨rfl, hn⟩ | ⟨g, cap, cur, rfl, hB, hg, hnc, hcm, _, _⟩
  · exact .inl ⟨rfl, List.eq_nil_of_length_eq_zero hn⟩
  · refine .inr ⟨g, cap, rfl, hB, (Array.getElem?_eq_some_iff.1 hg).1, hnc, by unfold maxLen at hcm; omega, fun j hj => ?_⟩
    rw [World.ownsRow.cellAt h0 (j * 2) (by omega), World.ownsRow.cellAt h0 (j * 2 + 1) (by omega)]
    exact icells_at ps j hj
theorem OwnI.below {w w' : World} {B C : Nat} {v : Value} {ps : List (Int × Int)} (h : OwnI w B v ps) (hb : Below C w w') (hC : w.heap.size ≤ C) : OwnI w' B v ps := by
  refine ⟨h.1, ?_⟩
  rcases h.2 with hn | ⟨g, cap, cur, hv, hg, hh, r⟩
  · exact .inl hn
  · exact .inr ⟨g, cap, cur, hv, hg, by rw [hb.block g (Nat.lt_of_lt_of_le (Array.getElem?_eq_some_iff.1 hh).1 hC)]; exact hh, r⟩
theorem OwnI.mono {w : World} {B B' : Nat} {v : Value} {ps : List (Int × Int)} (h : OwnI w B v ps) (hB : B' ≤ B) : OwnI w B' v ps := by
  refine ⟨h.1, ?_⟩
  rcases h.2 with hn | ⟨g, cap, cur, hv, hg, r⟩
  · exact .inl hn
  · exact .inr ⟨g, cap, cur, hv, by omega, r⟩
theorem OwnI.kept {w w' : World} {B : Nat} {v : Value} {ps : List (Int × Int)} {row : Option Nat} (h : OwnI w B v ps) (hg : w.grownBy w' row) (hne : ∀ k, v.ownBlock = some k → some k ≠ row) : OwnI w' B v ps := by
  refine World.ownsRow.kept h hg ?_
  cases hv : v.ownBlock with
  | none => exact .inl rfl
  | some k => exact .inr (hne k hv)
theorem wpList_appI {ops : Array Oper} {rest : List Oper} {o : Oper} {a : Act} {Q : Exit → Act → World → Prop} (wr : World) (hgd : o.guard = none) (s x : Operand)
    (ho : o.op = .call { callee := .builtin .append, args := #[s, x], argTypes := #[39, 39] })
    (B : Nat) (v : Value) (ps : List (Int × Int)) (u z : Int) (hs : a.eval s = v) (hx : a.eval x = .slice (some ⟨wr.heap.size, 0, none⟩) 1 1) (hown : OwnI wr B v ps)
    (hlen : ps.length + 1 ≤ 1000000000) (hB : B ≤ wr.heap.size)
    (h : ∀ v' w', OwnI w' B v' (ps ++ [(u, z)]) → Below B wr w' → wpList Try.prog ops Q rest (a.put o.dst v') w') :
    wpList Try.prog ops Q (o :: rest) a (wr.alloc (.cells #[.int .i64 u, .int .i64 z] 42)) := by
  obtain ⟨i0, hi, hz0, hz1, hz2⟩ := info_parts infoIv
  refine wpList_append_own _ hgd s x 39 ho B 42 i0 (.agg #[.int .i64 0, .int .i64 0]) 2 16 Try.underlying39 hi hz0 hz1 hz2 rfl (by decide) v ps.length (icells ps) hs (World.ownsRow.alloc hown _)
    ⟨wr.heap.size, 0, none⟩ 1 1 [.int .i64 u, .int .i64 z] hx rfl ?_ ?_ ?_ ?_ ?_ ?_
  · intro j u' hj
    match j, hj with
    | 0, hj => simp at hj; subst hj; simp [Addr.add]
    | 1, hj => simp at hj; subst hj; simp [Addr.add]
  · intro u' hu; simp at hu; rcases hu with hu | hu <;> subst hu <;> rfl
  · unfold maxLen; omega
  · omega
  · simp; omega
  · intro v' w' hown' hgrow _
    refine h v' w' ?_ ?_
    · show World.ownsRow _ _ _ _ _ (ps ++ [(u, z)]).length _
      rw [List.length_append, icells_app]
      exact hown'
    · exact ((Below.refl B wr).alloc hB _).grown hgrow (by simp; omega) (fun k hk => (OwnI.block hown k hk).1)
/-- A list of intervals, as the sort holds it, and laid anew. -/
theorem OwnI.holds {w : World} {B g cap : Nat} {ps : List (Int × Int)} (h : OwnI w B (.slice (some ⟨g, 0, none⟩) ps.length cap) ps) : Sort.HoldsK encI 2 w g 0 ps.toArray := by
  have h0 : w.ownsRow B 42 2 (.slice (some ⟨g, 0, none⟩) ps.length cap) ps.length (icells ps) := h
  intro j hj
  have hj' : j < ps.length * 2 := by simpa using hj
  rw [Nat.zero_add]
  refine ⟨?_, World.ownsRow.frozenAt h0 j⟩
  rw [World.ownsRow.cellAt h0 j hj', flat_ic]
  have hl : j < (icells ps).length := by rw [icells_length]; exact hj'
  rw [arr_get (icells ps) undef j hl, List.getD_eq_getElem?_getD, List.getElem?_eq_getElem hl]; rfl
theorem OwnI.put {w : World} {B g cap : Nat} {ps l : List (Int × Int)} (h : OwnI w B (.slice (some ⟨g, 0, none⟩) ps.length cap) ps) (hl : l.length = ps.length) (q : Nat) (os : Array Obj) :
    OwnI (Sort.grow (Sort.putRowK encI 2 (Sort.ahead w q) g 0 l.toArray) os) B (.slice (some ⟨g, 0, none⟩) ps.length cap) l ∧ w.grownBy (Sort.grow (Sort.putRowK encI 2 (Sort.ahead w q) g 0 l.toArray) os) (some g) := by
  rcases h.2 with ⟨h', _⟩ | ⟨g', cap', cur, h', hb, hg, hnc, hcm, hcs, htake⟩
  · simp at h'
  · simp only [Value.slice.injEq, Option.some.injEq, Addr.mk.injEq, and_true, true_and] at h'
    obtain ⟨rfl, rfl⟩ := h'
    have hlt := (Array.getElem?_eq_some_iff.1 hg).1
    have hsz : (Sort.putRowK encI 2 (Sort.ahead w q) g 0 l.toArray).heap.size = w.heap.size := by
      unfold Sort.putRowK; rw [Sort.size_putRow]; rfl
    have hblk : (Sort.putRowK encI 2 (Sort.ahead w q) g 0 l.toArray).heap[g]? = some (.cells (Sort.putCells id 0 (Sort.flatK encI 2 l.toArray) cur) 42 (0, 0)) := by
      show (w.heap.modify g _)[g]? = _
      rw [Array.getElem?_modify, if_pos rfl, hg]; rfl
    have hoth : ∀ k, k ≠ g → (Sort.putRowK encI 2 (Sort.ahead w q) g 0 l.toArray).heap[k]? = w.heap[k]? := fun k hk => by
      show (w.heap.modify g _)[k]? = _
      rw [Array.getElem?_modify, if_neg (fun e => hk e.symm)]
    generalize hW : Sort.putRowK encI 2 (Sort.ahead w q) g 0 l.toArray = W at *
    have hgr : ∀ k, k < w.heap.size → (Sort.grow W os).heap[k]? = W.heap[k]? := fun k hk => by
      show (W.heap ++ os)[k]? = _
      rw [Array.getElem?_append_left (by omega)]
    refine ⟨⟨by rw [icells_length, hl], .inr ⟨g, cap, Sort.putCells id 0 (Sort.flatK encI 2 l.toArray) cur, by rw [hl], hb, by rw [hgr g hlt, hblk], by omega, hcm, by simp [Sort.putCells, hcs], ?_⟩⟩, ?_⟩
    · apply List.ext_getElem?
      intro t
      rw [List.getElem?_take]
      by_cases ht : t < l.length * 2
      · have hlt2 : t < (icells l).length := by rw [icells_length]; exact ht
        have hlt3 : t < cur.size := by
          have := Nat.mul_le_mul_right 2 hnc
          omega
        rw [if_pos ht, flat_ic]
        simp only [Sort.putCells, Array.getElem?_toList, Array.getElem?_mapIdx, Array.getElem?_eq_getElem hlt3, Option.map_some]
        rw [if_pos ⟨Nat.zero_le _, by simp; omega⟩, Nat.sub_zero, arr_get (icells l) undef t hlt2, List.getD_eq_getElem?_getD, List.getElem?_eq_getElem hlt2]; rfl
      · rw [if_neg ht, List.getElem?_eq_none (by rw [icells_length]; omega)]
    · refine ⟨?_, ?_, ?_, ?_, fun k hk hne => ?_⟩
      · rw [← hW]; rfl
      · rw [← hW]; rfl
      · rw [← hW]; rfl
      · show _ ≤ (W.heap ++ os).size
        rw [Array.size_append]; omega
      · rw [hgr k hk]; exact hoth k (fun e => hne (by rw [e]))
def ltI (a b : Int × Int) : Bool := decide (a.1 < b.1)
theorem swo_ltI : Sort.SWO ltI where
  irrefl := fun x => by simp [ltI]
  trans := fun x y z h1 h2 => by simp [ltI] at *; omega
  ntrans := fun x y z h1 h2 => by simp [ltI] at *; omega
set_option maxHeartbeats 2000000 in
theorem less_iv (blk c Bs size : Nat) (W : World) (G : Nat → Int) (hs : W.cell? ⟨Bs, 0, none⟩ = some (.slice (some ⟨blk, 0, none⟩) size c))
    (hc : ∀ t, t < size → W.cell? ⟨blk, t * 2, none⟩ = some (.int .i64 (G t))) (i j : Nat) (hi : i < size) (hj : j < size) (_hsz : size < 4611686018427387904) :
    Calls Try.prog 41 #[.int .i64 i, .int .i64 j, .pointer (some ⟨Bs, 0, none⟩)] W fun e w' => e = .returned (.bool (decide (G i < G j))) ∧ ∃ q, w' = W.drewN q := by
  have ci := hc i hi
  have cj := hc j hj
  clear hc
  generalize G i = gi at *
  generalize G j = gj at *
  go_enter Try.func41, Try.ntmps41
  go_wp2
  go_quiet (fail)
  go_wp2
  go_ret
  exact ⟨rfl, nq, rfl⟩
noncomputable def svT : TypeInfo := (Try.prog.info? 39).get (by kernel_rfl)
noncomputable def svE : TypeInfo := (Try.prog.info? 42).get (by kernel_rfl)
theorem svK (n : Nat) (h2 : 2 ≤ n) : Lib.swapperK n svE 25 = 9 := by
  have a : svE.hasPointers = false := by kernel_rfl
  have b : svE.bytes = 16 := by kernel_rfl
  have c : (n == 0) = false := by simp; omega
  have d : (n == 1) = false := by simp; omega
  simp [Lib.swapperK, a, b, c, d]
theorem sort_big (B g c Z : Nat) (ps : List (Int × Int)) (w : World) (h2 : 2 ≤ ps.length) (hsz : ps.length < 4611686018427387904) (ho : OwnI w B (.slice (some ⟨g, 0, none⟩) ps.length c) ps)
    (hZ : w.cell? ⟨Z, 0, none⟩ = some (.slice (some ⟨g, 0, none⟩) ps.length c)) (hZ1 : Z < w.heap.size) (hZ2 : Z ≠ g) :
    Calls Try.prog 40 #[.iface 39 (.slice (some ⟨g, 0, none⟩) ps.length c), .func (.func 41) #[] #[.pointer (some ⟨Z, 0, none⟩)]] w fun e w' =>
      e = .returned (.tuple #[]) ∧ ∃ l, l.Perm ps ∧ l.Pairwise (fun a b => a.1 ≤ b.1) ∧ OwnI w' B (.slice (some ⟨g, 0, none⟩) ps.length c) l ∧ w.grownBy w' (some g) := by
  have hH := ho.holds
  have hg := (ho.block g rfl).2
  have hless : LessReadsK Try.prog 41 #[.pointer (some ⟨Z, 0, none⟩)] encI 2 ltI g 0 ps.toArray.size w := by
    intro m os dk hs i j hi hj
    have e : sortWorldK encI 2 w g 0 m dk os = Sort.putRowK encI 2 (Sort.grow (Sort.ahead w m) os) g 0 dk := by
      unfold sortWorldK; rw [Sort.putRowK_grow _ _ (Sort.ahead w m) _ g 0 _ hg]
    have hHg : Sort.HoldsK encI 2 (Sort.grow (Sort.ahead w m) os) g 0 ps.toArray := Sort.holdsK_grow _ _ _ _ g 0 ps.toArray hg (Sort.holdsK_ahead _ _ _ _ _ _ _ hH)
    refine less_iv g c Z ps.length _ (fun t => dk[t]!.1) ?_ (fun t ht => ?_) i j (by simpa using hi) (by simpa using hj) hsz
    · rw [e, Sort.cell?_putRowK_other _ _ _ g 0 dk _ (by exact hZ2), Sort.cell?_grow _ _ _ (by exact hZ1)]; exact hZ
    · rw [e]
      have h5 := ((Sort.holdsK_putRowK encI 2 _ g 0 ps.toArray dk hHg hs).cell (i := t) (c := 0) (by rw [hs]; simpa using ht) (by omega)).1
      simp only [Nat.zero_add, Nat.add_zero] at h5
      exact h5
  have hx := Any.sort_Slice_cells_sorted Try.laysSlice 39 42 svT svE (by kernel_rfl) (by kernel_rfl) (by kernel_rfl) (by kernel_rfl) 25 (fun _ => by kernel_rfl) encI 2 (fun _ => rfl) (by kernel_rfl) (fun _ => by kernel_rfl)
    (fun x v hv => by simp [encI] at hv; rcases hv with rfl | rfl <;> rfl) ltI swo_ltI 41 _
    (enters_of Try.func41 (by kernel_rfl) rfl) g 0 c ps.toArray (by simpa using h2) (by simpa using hsz) 67 (by rw [svK _ (by simpa using h2)]; kernel_rfl) false
    (fun args W => run_callFunc_extern Try.func67 (by kernel_rfl) (by kernel_rfl) (by kernel_rfl) (e := Extern.ReflectliteSwapper.swap false) (by kernel_rfl) args W) w hless hH hg
  simp only [List.size_toArray] at hx
  refine (show Calls Try.prog 40 _ _ _ from hx).mono ?_
  rintro e w' ⟨rfl, d', n, os, hp, hs, rfl⟩
  obtain ⟨h1, _, h3⟩ := hp
  have hl : d'.toList.length = ps.length := by rw [Array.length_toList, h1]; simp
  have hd : d' = d'.toList.toArray := by simp
  have hput := ho.put hl n os
  rw [← hd] at hput
  refine ⟨rfl, d'.toList, ?_, ?_, hput.1, hput.2⟩
  · have h1' : d'.size = ps.length := by rw [h1]; simp
    have e1 : d'.extract 0 ps.length = d' := by rw [← h1']; exact Array.extract_size
    have e2 : ps.toArray.extract 0 ps.length = ps.toArray := by
      have : ps.length = ps.toArray.size := by simp
      rw [this]; exact Array.extract_size
    rw [e1, e2] at h3
    simpa using h3
  · rw [List.pairwise_iff_getElem]
    intro i j hi hj hij
    have hi' : i < d'.size := by simpa using hi
    have hj' : j < d'.size := by simpa using hj
    have := hs i j (Nat.zero_le _) hij (by have : d'.size = ps.length := (by rw [h1]; simp)
                                           omega)
    rw [getElem!_pos d' j hj', getElem!_pos d' i hi'] at this
    simp only [ltI, decide_eq_false_iff_not] at this
    simp only [Array.getElem_toList]
    omega
theorem sort_tiny (a : Option Addr) (n c : Nat) (h1 : n ≤ 1) (la : Array Value) (w : World) :
    Calls Try.prog 40 #[.iface 39 (.slice a n c), .func (.func 41) #[] la] w fun e w' => e = .returned (.tuple #[]) ∧ ∃ os, w' = Sort.grow w os := by
  match n, h1 with
  | 0, _ => exact Any.sort_Slice_tiny Try.laysSlice 39 42 svT svE (by kernel_rfl) (by kernel_rfl) (by kernel_rfl) (by kernel_rfl) 25 (fun _ => by kernel_rfl) a 0 c (by omega) 59 (by kernel_rfl) _ _ _ w
  | 1, _ => exact Any.sort_Slice_tiny Try.laysSlice 39 42 svT svE (by kernel_rfl) (by kernel_rfl) (by kernel_rfl) (by kernel_rfl) 25 (fun _ => by kernel_rfl) a 1 c (by omega) 60 (by kernel_rfl) _ _ _ w
/-- sort.Slice over a list of intervals: in the order of their starts. -/
theorem sort_iv {B Z : Nat} {v : Value} {ps : List (Int × Int)} {w : World} (hsz : ps.length < 4611686018427387904) (ho : OwnI w B v ps) (hZ : w.cell? ⟨Z, 0, none⟩ = some v) (hZ1 : Z < w.heap.size) (hZB : Z < B) (hB : B ≤ w.heap.size) :
    Calls Try.prog 40 #[.iface 39 v, .func (.func 41) #[] #[.pointer (some ⟨Z, 0, none⟩)]] w fun e w' =>
      e = .returned (.tuple #[]) ∧ ∃ l, l.Perm ps ∧ l.Pairwise (fun a b => a.1 ≤ b.1) ∧ OwnI w' B v l ∧ Below B w w' := by
  have grow_below : ∀ os, Below w.heap.size w (Sort.grow w os) := fun os => ⟨rfl, rfl, rfl, by show _ ≤ (w.heap ++ os).size; rw [Array.size_append]; omega, fun k hk => by show (w.heap ++ os)[k]? = _; rw [Array.getElem?_append_left hk]⟩
  by_cases h2 : 2 ≤ ps.length
  · rcases ho.cases with ⟨_, rfl⟩ | ⟨g, cap, rfl, hg, _⟩
    · simp at h2
    · refine (sort_big B g cap Z ps w h2 hsz ho hZ hZ1 (by omega)).mono ?_
      rintro e w' ⟨he, l, h3, h4, h5, h6⟩
      exact ⟨he, l, h3, h4, h5, (Below.refl B w).grown h6 hB (fun k hk => by injection hk with hk; omega)⟩
  · obtain ⟨a, cap, rfl⟩ := ho.form
    refine (sort_tiny a ps.length cap (by omega) _ w).mono ?_
    rintro e w' ⟨he, os, rfl⟩
    refine ⟨he, ps, List.Perm.refl _, ?_, ho.below (grow_below os) (Nat.le_refl _), (grow_below os).mono hB⟩
    match ps, h2 with
    | [], _ => simp
    | [_], _ => simp
    | _ :: _ :: _, h => simp at h
end Go.Proofs.Ytlakekeolpepbaa.Tr
