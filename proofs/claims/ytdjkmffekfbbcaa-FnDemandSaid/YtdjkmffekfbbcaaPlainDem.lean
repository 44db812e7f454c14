/- A memory with a clock: what its faults and its pages written back come to. No program. -/
import Derived.Test.YtdjkmffekfbbcaaPlainClk
import Derived.Test.YtdjkmffekfbbcaaPlainUses
namespace Go.Proofs.Ytdjkmffekfbbcaa.Ck
open Tr
def adr (xs : List (Int × Int)) : List Int := xs.map fun r => r.2
theorem adr_get (xs : List (Int × Int)) (j : Nat) : (adr xs).getD j 0 = (xs.getD j (0, 0)).2 := by
  unfold adr
  rw [List.getD_eq_getElem?_getD, List.getElem?_map, List.getD_eq_getElem?_getD]
  cases xs[j]? <;> rfl
/-- How many of the first accesses are writes. -/
def wrN (xs : List (Int × Int)) : Nat → Nat
  | 0 => 0
  | j + 1 => wrN xs j + if decide ((xs.getD j (0, 0)).1 = 1) = true then 1 else 0
def pgl (p : List Pf) : List Int := p.map Prod.fst
def wct (p : List Pf) : Nat := p.countP fun f => f.2.2
theorem pgl_len (p : List Pf) : (pgl p).length = p.length := List.length_map _
theorem fi_mem (p : List Pf) (x : Int) : fi p x < p.length ↔ x ∈ pgl p := by
  have h := List.idxOf_lt_length_iff (a := x) (l := p.map Prod.fst)
  rw [List.length_map] at h
  exact h
theorem wct_set : ∀ (p : List Pf) (h : Nat) (f : Pf), h < p.length → wct (p.set h f) + (if wrt p h = true then 1 else 0) = wct p + (if f.2.2 = true then 1 else 0)
  | [], h, f, hl => by simp at hl
  | g :: p, 0, f, _ => by
    show wct (f :: p) + (if g.2.2 = true then 1 else 0) = wct (g :: p) + _
    unfold wct
    rw [List.countP_cons, List.countP_cons]
    omega
  | g :: p, h + 1, f, hl => by
    have ih := wct_set p h f (by simpa using hl)
    show wct (g :: p.set h f) + (if wrt p h = true then 1 else 0) = wct (g :: p) + _
    unfold wct at ih ⊢
    rw [List.countP_cons, List.countP_cons]
    omega
theorem pgl_self (p : List Pf) (h : Nat) (m v : Bool) : pgl (p.set h (pgA p h, m, v)) = pgl p := by
  unfold pgl
  refine List.ext_getElem (by simp) fun j h1 h2 => ?_
  rw [List.getElem_map, List.getElem_map, List.getElem_set]
  split
  · rename_i e
    subst e
    show pgA p h = _
    unfold pgA
    rw [List.getD_eq_getElem?_getD, List.getElem?_eq_getElem (by simpa using h2)]
    rfl
  · rfl
theorem pgl_tch (p : List Pf) (h : Nat) (w : Bool) : pgl (tch p h w) = pgl p := pgl_self p h _ _
theorem wct_tch (p : List Pf) (h : Nat) (w : Bool) (hh : h < p.length) : wct (tch p h w) ≤ wct p + if w = true then 1 else 0 := by
  have e := wct_set p h (pgA p h, true, wrt p h || w) hh
  unfold tch
  cases hw : wrt p h <;> cases w <;> simp [hw] at e ⊢ <;> omega
theorem V_keep : ∀ (n : Nat) (p : List Pf) (h : Nat), cnt p = n → h < p.length → pgl (V p h).1 = pgl p ∧ wct (V p h).1 = wct p
  | n, p, h, hn, hl => by
    cases hm : mkd p h
    · rw [V_no p h hm]; exact ⟨rfl, rfl⟩
    · have hc := cnt_clr p h hl hm
      rw [V_yes p h hl hm]
      cases n with
      | zero => omega
      | succ n =>
        obtain ⟨i1, i2⟩ := V_keep n (clr p h) ((h + 1) % p.length) (by omega) (by rw [clr_length]; exact Nat.mod_lt _ (by omega))
        have e1 : pgl (clr p h) = pgl p := pgl_self p h _ _
        have e2 : wct (clr p h) = wct p := Nat.add_right_cancel (wct_set p h (pgA p h, false, wrt p h) hl)
        exact ⟨i1.trans e1, i2.trans e2⟩
theorem sum_snoc (l : List Int) (a : Int) : (l ++ [a]).sum = l.sum + a := by simp [List.sum_append]
/-- What holds after j uses, W of them writes. -/
structure Dm (n : Nat) (us : List Int) (j W : Nat) (S : CkS) : Prop where
  sub : ∀ y ∈ pgl S.p, y ∈ seenK us j
  low : ((seenK us j).length : Int) ≤ S.fl.sum
  wr : S.b + wct S.p ≤ W
  bk : (S.b : Int) + S.p.length ≤ S.fl.sum
  all : S.p.length < n ∨ (seenK us j).length ≤ n → (pgl S.p).Nodup ∧ (∀ y ∈ seenK us j, y ∈ pgl S.p) ∧ S.fl.sum = S.p.length ∧ S.b = 0
theorem Dm.step {n : Nat} {us : List Int} {j W : Nat} {S : CkS} (hW : CkW n S) (h : Dm n us j W S) (x : Int) (hx : us.getD j 0 = x) (w : Bool) :
    Dm n us (j + 1) (W + if w = true then 1 else 0) (ckStep n S w x) := by
  have h1 := hW.p
  have h2 := hW.h
  have es : seenK us (j + 1) = if x ∈ seenK us j then seenK us j else seenK us j ++ [x] := by rw [seenK, hx]
  have hmono : ∀ y, y ∈ seenK us j → y ∈ seenK us (j + 1) := fun y hy => by
    rw [es]; split
    · exact hy
    · exact List.mem_append_left _ hy
  have hxin : x ∈ seenK us (j + 1) := by
    rw [es]; split
    · assumption
    · simp
  have hle : (seenK us (j + 1)).length ≤ (seenK us j).length + 1 := by rw [es]; split <;> simp
  have hle2 : (seenK us j).length ≤ (seenK us (j + 1)).length := by rw [es]; split <;> simp
  have q1 := h.low
  have q2 := h.wr
  have q3 := h.bk
  unfold ckStep
  by_cases hf : fi S.p x < S.p.length
  · rw [if_pos hf]
    have hx1 : x ∈ seenK us j := h.sub x ((fi_mem _ _).1 hf)
    have e0 : seenK us (j + 1) = seenK us j := by rw [es, if_pos hx1]
    have et : pgl (tch S.p (fi S.p x) w) = pgl S.p := pgl_tch _ _ _
    have ew := wct_tch S.p (fi S.p x) w hf
    have e3 : (S.fl ++ [(0 : Int)]).sum = S.fl.sum := by rw [sum_snoc]; omega
    refine ⟨?_, ?_, ?_, ?_, ?_⟩
    · rw [e0]; show ∀ y ∈ pgl (tch S.p (fi S.p x) w), _; rw [et]; exact h.sub
    · rw [e0]; show _ ≤ (S.fl ++ [(0 : Int)]).sum; rw [e3]; exact q1
    · show S.b + wct (tch S.p (fi S.p x) w) ≤ _; omega
    · show (S.b : Int) + ((tch S.p (fi S.p x) w).length : Int) ≤ (S.fl ++ [(0 : Int)]).sum; rw [tch_length, e3]; exact q3
    · rw [e0]
      show (tch S.p (fi S.p x) w).length < n ∨ _ → (pgl (tch S.p (fi S.p x) w)).Nodup ∧ (∀ y ∈ seenK us j, y ∈ pgl (tch S.p (fi S.p x) w)) ∧ (S.fl ++ [(0 : Int)]).sum = ((tch S.p (fi S.p x) w).length : Int) ∧ S.b = 0
      rw [tch_length, et, e3]
      exact h.all
  · rw [if_neg hf]
    have hx1 : x ∉ pgl S.p := fun e => hf ((fi_mem _ _).2 e)
    by_cases hl : S.p.length < n
    · rw [if_pos hl]
      obtain ⟨a1, a2, a3, a4⟩ := h.all (.inl hl)
      have hx2 : x ∉ seenK us j := fun e => hx1 (a2 x e)
      have e0 : seenK us (j + 1) = seenK us j ++ [x] := by rw [es, if_neg hx2]
      have et : pgl (tch (S.p ++ [(x, false, false)]) S.p.length w) = pgl S.p ++ [x] := (pgl_tch _ _ _).trans (by unfold pgl; rw [List.map_append]; rfl)
      have ew := wct_tch (S.p ++ [(x, false, false)]) S.p.length w (by simp)
      have ew2 : wct (S.p ++ [(x, false, false)]) = wct S.p := by unfold wct; rw [List.countP_append]; rfl
      have e3 : (S.fl ++ [(1 : Int)]).sum = S.fl.sum + 1 := sum_snoc _ _
      have e4 : (tch (S.p ++ [(x, false, false)]) S.p.length w).length = S.p.length + 1 := by rw [tch_length, List.length_append]; rfl
      refine ⟨?_, ?_, ?_, ?_, fun _ => ?_⟩
      · show ∀ y ∈ pgl (tch (S.p ++ [(x, false, false)]) S.p.length w), _
        rw [et]
        intro y hy
        rcases List.mem_append.1 hy with hy | hy
        · exact hmono y (h.sub y hy)
        · rw [List.mem_singleton.1 hy]; exact hxin
      · show _ ≤ (S.fl ++ [(1 : Int)]).sum; rw [e3]; omega
      · show S.b + wct (tch (S.p ++ [(x, false, false)]) S.p.length w) ≤ _; omega
      · show (S.b : Int) + ((tch (S.p ++ [(x, false, false)]) S.p.length w).length : Int) ≤ (S.fl ++ [(1 : Int)]).sum; rw [e4, e3]; omega
      · show (pgl (tch (S.p ++ [(x, false, false)]) S.p.length w)).Nodup ∧ (∀ y ∈ seenK us (j + 1), y ∈ pgl (tch (S.p ++ [(x, false, false)]) S.p.length w)) ∧ (S.fl ++ [(1 : Int)]).sum = ((tch (S.p ++ [(x, false, false)]) S.p.length w).length : Int) ∧ S.b = 0
        rw [et, e3, e4]
        refine ⟨?_, fun y hy => ?_, by omega, a4⟩
        · rw [List.nodup_append]
          exact ⟨a1, by simp, fun a ha b hb => by simp at hb; subst hb; intro e; subst e; exact hx1 ha⟩
        · rw [e0] at hy
          rcases List.mem_append.1 hy with hy | hy
          · exact List.mem_append_left _ (a2 y hy)
          · exact List.mem_append_right _ hy
    · rw [if_neg hl]
      have hS : S.h < S.p.length := by omega
      obtain ⟨k1, k2⟩ := V_keep _ S.p S.h rfl hS
      have k3 := V_len S.p S.h hS
      have k4 := V_lt S.p S.h hS
      generalize V S.p S.h = q at *
      obtain ⟨p', h'⟩ := q
      have k1 : pgl p' = pgl S.p := k1
      have k2 : wct p' = wct S.p := k2
      have k3 : p'.length = S.p.length := k3
      have k4 : h' < S.p.length := k4
      have et : pgl (tch (p'.set h' (x, false, false)) h' w) = (pgl S.p).set h' x := (pgl_tch _ _ _).trans (by rw [← k1]; unfold pgl; rw [List.map_set])
      have ew := wct_tch (p'.set h' (x, false, false)) h' w (by rw [List.length_set]; omega)
      have ew2 := wct_set p' h' (x, false, false) (by omega)
      have ew3 : wct (p'.set h' (x, false, false)) + (if wrt p' h' = true then 1 else 0) = wct p' := ew2
      have e3 : (S.fl ++ [(1 : Int)]).sum = S.fl.sum + 1 := sum_snoc _ _
      have e4 : (tch (p'.set h' (x, false, false)) h' w).length = S.p.length := by rw [tch_length, List.length_set, k3]
      have hbig : ¬ (seenK us (j + 1)).length ≤ n := fun hc => by
        obtain ⟨a1, a2, a3, a4⟩ := h.all (.inr (by omega))
        have hx2 : x ∉ seenK us j := fun e => hx1 (a2 x e)
        have e0 : seenK us (j + 1) = seenK us j ++ [x] := by rw [es, if_neg hx2]
        have hp : (seenK us j).Perm (pgl S.p) := (List.perm_ext_iff_of_nodup (seenK_nodup us j) a1).2 fun y => ⟨a2 y, h.sub y⟩
        have hpl := hp.length_eq
        rw [pgl_len] at hpl
        rw [e0, List.length_append, List.length_singleton] at hc
        omega
      refine ⟨?_, ?_, ?_, ?_, fun hc => ?_⟩
      · show ∀ y ∈ pgl (tch (p'.set h' (x, false, false)) h' w), _
        rw [et]
        intro y hy
        rcases List.mem_or_eq_of_mem_set hy with hy | hy
        · exact hmono y (h.sub y hy)
        · rw [hy]; exact hxin
      · show _ ≤ (S.fl ++ [(1 : Int)]).sum; rw [e3]; omega
      · show (S.b + if wrt p' h' = true then 1 else 0) + wct (tch (p'.set h' (x, false, false)) h' w) ≤ _; omega
      · show ((S.b + if wrt p' h' = true then 1 else 0 : Nat) : Int) + ((tch (p'.set h' (x, false, false)) h' w).length : Int) ≤ (S.fl ++ [(1 : Int)]).sum
        rw [e4, e3]
        split <;> omega
      · rcases hc with hc | hc
        · have hc : (tch (p'.set h' (x, false, false)) h' w).length < n := hc
          rw [e4] at hc
          exact absurd hc hl
        · exact absurd hc hbig
theorem ckR_dm (n : Nat) (hn : 1 ≤ n) (xs : List (Int × Int)) : ∀ j, Dm n (adr xs) j (wrN xs j) (ckR n xs j)
  | 0 => ⟨fun y hy => (by cases hy), Int.le_refl _, Nat.le_refl _, Int.le_refl _, fun _ => ⟨List.nodup_nil, fun y hy => (by cases hy), rfl, rfl⟩⟩
  | j + 1 => (ckR_dm n hn xs j).step (ckR_wf n hn xs j) _ (adr_get xs j) _
def flt (n : Nat) (xs : List (Int × Int)) (i : Nat) : Int := if fi (ckR n xs i).p (xs.getD i (0, 0)).2 < (ckR n xs i).p.length then 0 else 1
theorem ckR_told (n : Nat) (xs : List (Int × Int)) : ∀ j, (ckR n xs j).fl = told (flt n xs) j
  | 0 => rfl
  | j + 1 => by
    rw [told_succ, ← ckR_told n xs j, ckR]
    unfold flt ckStep
    split
    · rfl
    · split <;> rfl
theorem told_get (f : Nat → Int) (n j : Nat) (h : j < n) : (told f n).getD j 0 = f j := by simp [told, List.getD_eq_getElem?_getD, h]
/-- A use that was not there before faults. -/
theorem dem_new (n : Nat) (hn : 1 ≤ n) (xs : List (Int × Int)) (j : Nat) (hj : j < xs.length) (hx : (adr xs).getD j 0 ∉ (adr xs).take j) : (ckR n xs xs.length).fl.getD j 0 = 1 := by
  rw [ckR_told, told_get _ _ _ hj]
  unfold flt
  rw [if_neg]
  intro hf
  have h1 := (ckR_dm n hn xs j).sub _ ((fi_mem _ _).1 hf)
  rw [mem_seenK _ _ (by unfold adr; rw [List.length_map]; omega)] at h1
  rw [adr_get] at hx
  exact hx h1
theorem seen_all (xs : List (Int × Int)) : (seenK (adr xs) xs.length).length = (setP (adr xs)).length := by
  have hl : (adr xs).length = xs.length := List.length_map _
  have h := seenK_set (adr xs) xs.length (by omega)
  rw [← hl, List.take_length, hl] at h
  exact h
theorem dem_low (n : Nat) (hn : 1 ≤ n) (xs : List (Int × Int)) : ((setP (adr xs)).length : Int) ≤ (ckR n xs xs.length).fl.sum := by
  rw [← seen_all]; exact (ckR_dm n hn xs _).low
theorem dem_len {n : Nat} {us : List Int} {j W : Nat} {S : CkS} (h : Dm n us j W S) (hc : S.p.length < n ∨ (seenK us j).length ≤ n) : (seenK us j).length = S.p.length := by
  obtain ⟨a1, a2, _, _⟩ := h.all hc
  have hp : (seenK us j).Perm (pgl S.p) := (List.perm_ext_iff_of_nodup (seenK_nodup us j) a1).2 fun y => ⟨a2 y, h.sub y⟩
  rw [hp.length_eq, pgl_len]
theorem dem_few (n : Nat) (hn : 1 ≤ n) (xs : List (Int × Int)) (h : (setP (adr xs)).length ≤ n) : (ckR n xs xs.length).fl.sum = ((setP (adr xs)).length : Int) ∧ (ckR n xs xs.length).b = 0 := by
  rw [← seen_all] at h ⊢
  have hd := ckR_dm n hn xs xs.length
  obtain ⟨_, _, a3, a4⟩ := hd.all (.inr h)
  rw [a3, dem_len hd (.inr h)]
  exact ⟨rfl, a4⟩
theorem dem_many (n : Nat) (hn : 1 ≤ n) (xs : List (Int × Int)) (h : n < (setP (adr xs)).length) : (ckR n xs xs.length).b ≤ wrN xs xs.length ∧ ((ckR n xs xs.length).b : Int) ≤ (ckR n xs xs.length).fl.sum - n := by
  rw [← seen_all] at h
  have hd := ckR_dm n hn xs xs.length
  have hp := (ckR_wf n hn xs xs.length).p
  have q2 := hd.wr
  have q3 := hd.bk
  have hpn : (ckR n xs xs.length).p.length = n := by
    by_cases hl : (ckR n xs xs.length).p.length < n
    · have := dem_len hd (.inl hl); omega
    · omega
  omega
end Go.Proofs.Ytdjkmffekfbbcaa.Ck
