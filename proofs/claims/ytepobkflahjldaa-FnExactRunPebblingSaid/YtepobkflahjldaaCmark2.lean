/- The law's marks in a list of lists. -/
import Derived.Test.YtepobkflahjldaaCheld2
namespace Go.Proofs.Ytepobkflahjldaa
open Go.RowKit
theorem Own2.marked {w w' : World} {B j : Nat} {v : Value} {vs : List Value} {ys : List (List Int)} {zs : List Int} (h : Own2 w B v vs ys) (hj : j < ys.length) (ho : Own w' B (vs.getD j s0) zs)
    (hg : w.grownBy w' (vs.getD j s0).ownBlock) : Own2 w' B v vs (ys.set j zs) := by
  obtain ⟨hl, h0, h1, h2, h3⟩ := h
  refine ⟨by rw [List.length_set]; exact hl, ?_, fun i hi => ?_, fun i i' k hii hi' => h2 i i' k hii (by simpa using hi'), fun i k hi => h3 i k (by simpa using hi)⟩
  · refine World.ownsRow.kept h0 hg ?_
    cases hv : (vs.getD j s0).ownBlock with
    | none =>
      cases hv2 : v.ownBlock with
      | none => exact .inl rfl
      | some k => exact .inr (fun e => by cases e)
    | some k =>
      cases hv2 : v.ownBlock with
      | none => exact .inl rfl
      | some k2 => exact .inr (fun e => h3 j k hj hv (by rw [hv2]; exact e))
  · rw [List.length_set] at hi
    by_cases e : i = j
    · subst e
      have e2 : (ys.set i zs).getD i [] = zs := by rw [List.getD_eq_getElem?_getD, List.getElem?_set_self hi]; rfl
      rw [e2]
      exact ho
    · have e2 : (ys.set j zs).getD i [] = ys.getD i [] := by rw [List.getD_eq_getElem?_getD, List.getElem?_set_ne (fun h => e h.symm), ← List.getD_eq_getElem?_getD]
      rw [e2]
      refine (h1 i hi).kept hg fun k hk hne => ?_
      rcases Nat.lt_or_gt_of_ne e with hlt | hlt
      · exact h2 i j k hlt hj hk hne.symm
      · exact h2 j i k hlt hi hne.symm hk
theorem ext_getD (xs ys : List (List Int)) (hl : xs.length = ys.length) (h : ∀ i, i < xs.length → xs.getD i [] = ys.getD i []) : xs = ys := by
  refine List.ext_getElem hl fun i h1 h2 => ?_
  have := h i h1
  rwa [List.getD_eq_getElem?_getD, List.getElem?_eq_getElem h1, List.getD_eq_getElem?_getD, List.getElem?_eq_getElem h2] at this
/-- Some of the lists hold marks by now. -/
def Mid (k j : Nat) (ns : List Nat) (xss ys : List (List Int)) : Prop := ys.length = xss.length ∧ (∀ i, i < j → ys.getD i [] = (mk2 k ns).getD i []) ∧ ∀ i, j ≤ i → ys.getD i [] = xss.getD i []
theorem Mid.start (k : Nat) (ns : List Nat) (xss : List (List Int)) : Mid k 0 ns xss xss := ⟨rfl, fun i h => by omega, fun i _ => rfl⟩
theorem Mid.step {k j : Nat} {ns : List Nat} {xss ys : List (List Int)} (h : Mid k j ns xss ys) (hj : j < xss.length) (hn : ns.length = xss.length) :
    Mid k (j + 1) ns xss (ys.set j (marks (k + (ns.take j).sum) (ns.getD j 0))) := by
  obtain ⟨h0, h1, h2⟩ := h
  refine ⟨by rw [List.length_set]; exact h0, fun i hi => ?_, fun i hi => ?_⟩
  · by_cases e : i = j
    · subst e
      rw [List.getD_eq_getElem?_getD, List.getElem?_set_self (by omega), mk2_get k ns i (by omega)]
      rfl
    · rw [List.getD_eq_getElem?_getD, List.getElem?_set_ne (fun h => e h.symm), ← List.getD_eq_getElem?_getD]
      exact h1 i (by omega)
  · rw [List.getD_eq_getElem?_getD, List.getElem?_set_ne (by omega), ← List.getD_eq_getElem?_getD]
    exact h2 i (by omega)
theorem Mid.stop {k : Nat} {ns : List Nat} {xss ys : List (List Int)} (h : Mid k xss.length ns xss ys) (hn : ns.length = xss.length) : ys = mk2 k ns :=
  ext_getD _ _ (by rw [h.1, mk2_length, hn]) fun i hi => h.2.1 i (by rw [← h.1]; exact hi)
def Marked2 (B : Nat) (v : Value) (vs : List Value) (k : Nat) (ns : List Nat) (w : World) (e : Ending) (w' : World) : Prop := e = .returned (.int .i64 ((k + ns.sum : Nat) : Int)) ∧ Own2 w' B v vs (mk2 k ns) ∧ Below B w w' ∧ w.heap.size ≤ w'.heap.size
theorem mark2_zero (a : Option Addr) (c : Nat) (k : Int) (w : World) : Calls Try.prog 32 #[.slice a 0 c, .int .i64 k] w (Count k w) := by
  go_enter Try.func32, Try.ntmps32
  go_wp2
  refine wp_loop_rounds 1 ?_
  rw [rounds_succ]
  go_wp2
  go_ret
  exact ⟨rfl, rfl⟩
theorem row_cell {w : World} {B b N c j : Nat} {vs : List Value} {ys : List (List Int)} (h : Own2 w B (.slice (some ⟨b, 0, none⟩) N c) vs ys) (hl : ys.length = N) (hj : j < N) : w.cell? ⟨b, j, none⟩ = some (vs.getD j s0) := by
  rcases h.cases with ⟨h, _⟩ | ⟨g, cap, he, _, _, _, hc, _⟩
  · cases h
  · injection he with h1 h2 h3
    injection h1 with h1
    injection h1 with h1
    subst h1
    exact hc j (by omega)
set_option maxHeartbeats 800000 in
theorem mark2_cells (B b c k : Nat) (vs : List Value) (xss : List (List Int)) (w : World) (hk : k + (xss.map List.length).sum ≤ 9223372036854775807) (hB : B ≤ w.heap.size)
    (h : Own2 w B (.slice (some ⟨b, 0, none⟩) xss.length c) vs xss) (hm : xss.length ≤ 9223372036854775807) :
    Calls Try.prog 32 #[.slice (some ⟨b, 0, none⟩) xss.length c, .int .i64 k] w (Marked2 B (.slice (some ⟨b, 0, none⟩) xss.length c) vs k (xss.map List.length) w) := by
  have HH := Lib.hid h
  have hnl : (xss.map List.length).length = xss.length := by simp
  have HX := Lib.hid (show ∀ j, j < xss.length → (xss.map List.length).getD j 0 = (xss.getD j []).length from fun j hj => by
    rw [List.getD_eq_getElem?_getD, List.getElem?_map, List.getElem?_eq_getElem hj, List.getD_eq_getElem?_getD, List.getElem?_eq_getElem hj]; rfl)
  clear h
  generalize hns : xss.map List.length = ns at *
  clear hns
  have HS := Lib.hid (fun j (h : j < xss.length) => sum_step ns j (by omega))
  have HT := Lib.hid (fun j => sum_take_le ns j)
  have HA := Lib.hid (show (ns.take xss.length).sum = ns.sum by rw [List.take_of_length_le (by omega)])
  have HM := Lib.hid (fun j ys (h : Mid k j ns xss ys) (hj : j < xss.length) => h.step hj hnl)
  have HE := Lib.hid (fun ys (h : Mid k xss.length ns xss ys) => h.stop hnl)
  have H0 := Lib.hid (Mid.start k ns xss)
  go_enter Try.func32, Try.ntmps32
  go_wp2
  go_loopw [1, 5] (fun m i wr => ∃ (j r : Nat) (ys : List (List Int)), j ≤ xss.length ∧ i = .int .i64 j ∧ m = .int .i64 ((k + r : Nat) : Int) ∧ Hid (r = (ns.take j).sum) ∧ Hid (Mid k j ns xss ys) ∧ Hid (Own2 wr B (.slice (some ⟨b, 0, none⟩) xss.length c) vs ys) ∧ Below B w wr ∧ w.heap.size ≤ wr.heap.size) (fun _ i _ => xss.length - (intOf i).toNat)
  case atStart => exact ⟨0, 0, xss, Nat.zero_le _, rfl, rfl, Lib.hid (by simp), H0, HH, Below.refl _ _, Nat.le_refl _⟩
  case round =>
    obtain ⟨j, r, ys, hj, rfl, rfl, hr, hmid, how, hbw, hsz⟩ := hrel
    by_cases hlt : j < xss.length
    · have g1 : wr.cell? ⟨b, j, none⟩ = some (vs.getD j s0) := row_cell how.out hmid.out.1 hlt
      have ho : Own wr B (vs.getD j s0) (xss.getD j []) := by
        have := how.out.2.2.1 j (by rw [hmid.out.1]; exact hlt)
        rwa [hmid.out.2.2 j (Nat.le_refl _)] at this
      have hs := HS.out j hlt
      have hb := HT.out (j + 1)
      have hx := HX.out j hlt
      have hms := Lib.hid (HM.out j ys hmid.out hlt)
      have hjy : j < ys.length := by rw [hmid.out.1]; exact hlt
      have ge := Lib.hid (mark_own (k + r) ho (by have := hr.out; omega))
      have hwd := Lib.hid (fun w' zs (o : Own w' B (vs.getD j s0) zs) (g : wr.grownBy w' (vs.getD j s0).ownBlock) => how.out.marked hjy o g)
      have hbk := Lib.hid (ho.block)
      rw [← hx] at ge
      rw [← hr.out] at hms hs
      clear ho hx hjy
      generalize vs.getD j s0 = u1 at *
      generalize ns.getD j 0 = d at *
      go_wp2_with (go_at_call 16; refine ge.out.mono ?_; rintro e w' ⟨rfl, o1, gr⟩)
      go_roundw
      case rel => exact ⟨j + 1, r + d, _, by omega, by go_num, by rw [← Nat.add_assoc]; rfl, Lib.hid hs.symm, hms, Lib.hid (hwd.out _ _ o1 gr), hbw.grown gr (Nat.le_trans hB hsz) (fun q hq => (hbk.out q hq).1), Nat.le_trans hsz gr.size⟩
      case measure => simp [intOf]; omega
    · have ej : j = xss.length := by omega
      subst ej
      have hx := HA.out
      rw [← hr.out] at hx
      subst hx
      have hy := HE.out ys hmid.out
      subst hy
      have hw2 := how.out
      go_wp2
      go_ret
      exact ⟨rfl, how.out, hbw, hsz⟩
theorem mark2_own {w : World} {B : Nat} {v : Value} {vs : List Value} {xss : List (List Int)} (k : Nat) (h : Own2 w B v vs xss) (hk : k + (xss.map List.length).sum ≤ 9223372036854775807) (hB : B ≤ w.heap.size) :
    Calls Try.prog 32 #[v, .int .i64 k] w (Marked2 B v vs k (xss.map List.length) w) := by
  rcases h.cases with ⟨rfl, rfl⟩ | ⟨g, c, rfl, _, _, hm, _, _⟩
  · exact (mark2_zero none 0 k w).mono fun e w' ⟨he, hw⟩ => ⟨by rw [he]; simp, by rw [← hw]; exact h, by rw [← hw]; exact Below.refl _ _, by rw [← hw]; exact Nat.le_refl _⟩
  · exact mark2_cells B g c k vs xss w hk hB h hm
end Go.Proofs.Ytepobkflahjldaa
