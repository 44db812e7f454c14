/- Rows of Bool: cells, what the call owns, what is read, and the law's helpers. -/
import Derived.Test.YtmmjdmgnmlhjeaaCappg
import Derived.Test.YtmmjdmgnmlhjeaaCrd
import Derived.Test.YtmmjdmgnmlhjeaaCbt
import Derived.Laws.OwnMore
import Derived.Maps.AppendAt
import Derived.Deep.RegionHeld3
import Derived.Handy
namespace Go.Proofs.Ytmmjdmgnmlhjeaa.Bo
open Go.RowKit
abbrev R := Bool
abbrev dR : R := (false)
def cl : List R → List Value
  | [] => []
  | r :: rs => .bool r :: cl rs
theorem cl_app (a b : List R) : cl (a ++ b) = cl a ++ cl b := by
  induction a with
  | nil => rfl
  | cons r a ih => simp [cl, ih]
theorem cl_length (a : List R) : (cl a).length = a.length * 1 := by
  induction a with
  | nil => rfl
  | cons r a ih => simp [cl, ih]
theorem cl_get : ∀ (rs : List R) (j : Nat), j < rs.length → (cl rs)[j]? = some (.bool (rs.getD j dR))
  | r :: rs, 0, _ => rfl
  | r :: rs, j + 1, h => by
    have ih := cl_get rs j (by simpa using h)
    exact ih
theorem cl_set : ∀ (rs : List R) (j : Nat) (x0 : Bool), j < rs.length → ((cl rs).set (j) (.bool x0)) = cl (rs.set j (x0))
  | r :: rs, 0, _, _ => rfl
  | r :: rs, j + 1, x0, h => by
    have ih := cl_set rs j x0 (by simpa using h)
    show Value.bool r :: ((cl rs).set (j) (.bool x0)) = _
    rw [ih]; rfl
/-- v is a row of the call's own. -/
def OwnR (w : World) (B : Nat) (v : Value) (rs : List R) : Prop := w.ownsRow B 4 1 v rs.length (cl rs)
theorem OwnR.block {w : World} {B : Nat} {v : Value} {rs : List R} (h : OwnR w B v rs) : ∀ k, v.ownBlock = some k → B ≤ k ∧ k < w.heap.size := World.ownsRow.lt h
theorem OwnR.nil (w : World) (B : Nat) : OwnR w B (.slice none 0 0) [] := World.ownsRow_nil _ _ _ _
theorem OwnR.below {w w' : World} {B C : Nat} {v : Value} {rs : List R} (h : OwnR w B v rs) (hb : Below C w w') (hC : w.heap.size ≤ C) : OwnR w' B v rs := by
  refine ⟨h.1, ?_⟩
  rcases h.2 with hn | ⟨g, cap, cur, hv, hg, hh, r⟩
  · exact .inl hn
  · exact .inr ⟨g, cap, cur, hv, hg, by rw [hb.block g (Nat.lt_of_lt_of_le (Array.getElem?_eq_some_iff.1 hh).1 hC)]; exact hh, r⟩
theorem OwnR.same {w w' : World} {B : Nat} {v : Value} {rs : List R} (h : OwnR w B v rs) (hb : ∀ b, v.ownBlock = some b → b < w.heap.size → w'.heap[b]? = w.heap[b]?) : OwnR w' B v rs := by
  refine ⟨h.1, ?_⟩
  rcases h.2 with hn | ⟨g, cap, cur, rfl, hg, hh, r⟩
  · exact .inl hn
  · exact .inr ⟨g, cap, cur, rfl, hg, by rw [hb g rfl (Array.getElem?_eq_some_iff.1 hh).1]; exact hh, r⟩
theorem OwnR.kept {w w' : World} {B : Nat} {v : Value} {rs : List R} {row : Option Nat} (h : OwnR w B v rs) (hg : w.grownBy w' row) (hne : ∀ k, v.ownBlock = some k → some k ≠ row) : OwnR w' B v rs := by
  refine World.ownsRow.kept h hg ?_
  cases hv : v.ownBlock with
  | none => exact .inl rfl
  | some k => exact .inr (hne k hv)
theorem OwnR.mono {w : World} {B B' : Nat} {v : Value} {rs : List R} (h : OwnR w B v rs) (hB : B' ≤ B) : OwnR w B' v rs := by
  refine ⟨h.1, ?_⟩
  rcases h.2 with hn | ⟨g, cap, cur, hv, hg, r⟩
  · exact .inl hn
  · exact .inr ⟨g, cap, cur, hv, by omega, r⟩
theorem OwnR.drewN {w : World} {B : Nat} {v : Value} {rs : List R} (h : OwnR w B v rs) (k : Nat) : OwnR (w.drewN k) B v rs := h
/-- Rows that are read, wherever they lie. -/
def RdR (w : World) (a : Option Addr) (rs : List R) : Prop :=
  ∀ i, i < rs.length → ∃ b off, a = some ⟨b, off, none⟩ ∧ w.cell? ⟨b, off + i, none⟩ = some (.bool (rs.getD i dR)) ∧ b < w.heap.size
theorem RdR.below {w w' : World} {a : Option Addr} {rs : List R} (h : RdR w a rs) (hb : Below w.heap.size w w') : RdR w' a rs := fun i hi => by
  obtain ⟨b, off, ha, h0, hlt⟩ := h i hi
  exact ⟨b, off, ha, (hb.cell (p := ⟨b, off + i, none⟩) hlt).trans h0, Nat.lt_of_lt_of_le hlt hb.size⟩
theorem RdR.take {w : World} {a : Option Addr} {rs : List R} (h : RdR w a rs) (n : Nat) : RdR w a (rs.take n) := fun i hi => by
  rw [List.length_take] at hi
  obtain ⟨b, off, ha, r⟩ := h i (by omega)
  have e : (rs.take n).getD i dR = rs.getD i dR := by
    rw [List.getD_eq_getElem?_getD, List.getElem?_take, if_pos (by omega), ← List.getD_eq_getElem?_getD]
  rw [e]
  exact ⟨b, off, ha, r⟩
theorem OwnR.row {w : World} {B : Nat} {v : Value} {rs : List R} (h : OwnR w B v rs) : ∃ a c, v = .slice a rs.length c ∧ RdR w a rs := by
  have h0 := h
  rcases h.2 with ⟨rfl, hn⟩ | ⟨g, cap, cur, rfl, _⟩
  · exact ⟨none, 0, by rw [hn], fun i hi => by omega⟩
  · refine ⟨_, cap, rfl, fun i hi => ?_⟩
    have e0 := cl_get rs i hi
    have hr : w.ownsRow B 4 1 (.slice (some ⟨g, 0, none⟩) rs.length cap) rs.length (cl rs) := h0
    refine ⟨g, 0, rfl, ?_, (OwnR.block h0 g rfl).2⟩
    · rw [Nat.zero_add, World.ownsRow.cellAt hr (i) (by omega), e0]
theorem OwnR.le {w : World} {B : Nat} {v : Value} {rs : List R} (h : OwnR w B v rs) : rs.length ≤ 9223372036854775807 := by
  rcases h.2 with ⟨_, hn⟩ | ⟨g, cap, cur, _, _, _, h1, h2, _⟩
  · omega
  · unfold maxLen at h2; omega
theorem sz_yes (a : Option Addr) (len cap : Nat) (left : Int) (w : World) (h : (len : Int) ≤ left) (hl : left ≤ 1048576) :
    Calls Try.prog 51 #[.slice a len cap, .int .i64 left] w (Count (left - (len : Int)) w) := by
  have h1 : ¬ (left - (len : Int)) < 0 := by omega
  go_enter Try.func51, Try.ntmps51
  go_wp2
  go_ret
  exact ⟨rfl, rfl⟩
theorem sz_no (a : Option Addr) (len cap : Nat) (left : Int) (w : World) (h0 : 0 ≤ left) (h : left < (len : Int)) (hl : left ≤ 1048576) (hm : len ≤ 9223372036854775807) :
    Calls Try.prog 51 #[.slice a len cap, .int .i64 left] w (Count (-1) w) := by
  have h1 : (left - (len : Int)) < 0 := by omega
  go_enter Try.func51, Try.ntmps51
  go_wp2
  go_ret
  exact ⟨rfl, rfl⟩
theorem infoA : (Try.prog.info? 4).map (fun i => (i.zero, i.size, i.bytes)) = some (some (.bool false), 1, 1) := by kernel_rfl
theorem cl_zero (N : Nat) : cl (List.replicate (N + 1) dR) = Value.bool false :: cl (List.replicate N dR) := by rw [List.replicate_succ]; rfl
theorem madeA (N : Nat) : (madeCells #[Value.bool false] (N * 1)).toList = cl (List.replicate N dR) := by
  refine List.ext_getElem? fun i => ?_
  by_cases hi : i < N
  · have h := cl_get (List.replicate N dR) i (by simpa using hi)
    have hg : (List.replicate N dR).getD i dR = false := by
      rw [List.getD_eq_getElem?_getD, List.getElem?_replicate, if_pos hi]; rfl
    rw [h, hg]
    unfold madeCells
    rw [Array.toList_map, List.getElem?_map]
    simp [List.getElem?_range, hi, Nat.mod_one]
  · rw [List.getElem?_eq_none, List.getElem?_eq_none]
    · rw [cl_length, List.length_replicate]; omega
    · rw [Array.length_toList, size_madeCells]; omega
def tkA (xs : List R) (n j : Nat) : List R := xs.take j ++ List.replicate (n - j) dR
theorem tkA_length (xs : List R) (n j : Nat) (hj : j ≤ n) (hn : n = xs.length) : (tkA xs n j).length = n := by simp [tkA]; omega
theorem tkA_step (xs : List R) (n j : Nat) (hj : j < n) (hn : n = xs.length) : (tkA xs n j).set j (xs.getD j dR) = tkA xs n (j + 1) := by
  have hl : (xs.take j).length = j := by simp; omega
  unfold tkA
  rw [List.set_append_right _ _ (by omega), hl, Nat.sub_self, show n - j = (n - (j + 1)) + 1 by omega, List.replicate_succ, List.set_cons_zero,
    List.take_succ_eq_append_getElem (by omega), List.append_assoc, List.getD_eq_getElem?_getD, List.getElem?_eq_getElem (by omega)]
  rfl
def CopyA (g n : Nat) (xs : List R) (w0 : World) (j : Nat) (wr : World) : Prop :=
  wr.ownsRow g 4 1 (.slice (some ⟨g, 0, none⟩) n n) n (cl (tkA xs n j)) ∧ Below g w0 wr
theorem stores {B g n cap : Nat} {ys : List R} {wr : World} {j : Nat} (h : wr.ownsRow B 4 1 (.slice (some ⟨g, 0, none⟩) n cap) n (cl ys)) (hn : ys.length = n) (hj : j < n) (x0 : Bool) :
    (∃ old, wr.cell? ⟨g, j, none⟩ = some old) ∧ wr.frozen? ⟨g, j, none⟩ = false ∧
      World.ownsRow (wr.setCell ⟨g, j, none⟩ (.bool x0)) B 4 1 (.slice (some ⟨g, 0, none⟩) n cap) n (cl (ys.set j (x0))) ∧ wr.grownBy (wr.setCell ⟨g, j, none⟩ (.bool x0)) (some g) := by
  have hl := cl_length ys
  rw [hn] at hl
  have s0 := World.ownsRow.stored h (j) (.bool x0)
  rw [cl_set ys j _ (by rw [hn]; exact hj)] at s0
  exact ⟨⟨_, by rw [h.cellAt (j) (by omega), List.getElem?_eq_getElem (by omega)]⟩, h.frozenAt _, s0.1, s0.2⟩
theorem CopyA.step {g n : Nat} {xs : List R} {w0 : World} {j : Nat} {wr : World} (h : CopyA g n xs w0 j wr) (hn : n = xs.length) (hj : j < n) :
    (∃ old, wr.cell? ⟨g, j, none⟩ = some old) ∧ wr.frozen? ⟨g, j, none⟩ = false ∧
      CopyA g n xs w0 (j + 1) (wr.setCell ⟨g, j, none⟩ (.bool (xs.getD j dR))) := by
  obtain ⟨a0, f0, hs, _⟩ := stores h.1 (tkA_length xs n j (by omega) hn) hj (xs.getD j dR)
  have e : (tkA xs n j).set j ((xs.getD j dR)) = tkA xs n (j + 1) := tkA_step xs n j hj hn
  rw [e] at hs
  exact ⟨a0, f0, hs, h.2.setCell (Nat.le_refl _) _⟩
theorem CopyA.below {g n : Nat} {xs : List R} {w0 : World} {j : Nat} {wr w' : World} (h : CopyA g n xs w0 j wr) (hb : Below wr.heap.size wr w') (hg : g ≤ wr.heap.size) : CopyA g n xs w0 j w' := by
  refine ⟨⟨h.1.1, ?_⟩, h.2.trans (hb.mono hg)⟩
  rcases h.1.2 with hn | ⟨g', cap, cur, hv, hgg, hh, r⟩
  · exact .inl hn
  · exact .inr ⟨g', cap, cur, hv, hgg, by rw [hb.block g' (Array.getElem?_eq_some_iff.1 hh).1]; exact hh, r⟩
def CopiedA (xs : List R) (w : World) (e : Ending) (w' : World) : Prop := ∃ v, e = .returned v ∧ OwnR w' w.heap.size v xs ∧ Below w.heap.size w w'
set_option maxHeartbeats 2000000 in
theorem to_any (a : Option Addr) (cap : Nat) (xs : List R) (w : World) (h : RdR w a xs) (hn : xs.length ≤ 1048576) :
    Calls Try.prog 54 #[.slice a xs.length cap] w (CopiedA xs w) := by
  have HC := Lib.hid h
  clear h
  obtain ⟨i0, hi, hz0, hz1, hz2⟩ := info_parts infoA
  have HST := Lib.hid (fun (g j : Nat) (wr : World) (hr : CopyA g xs.length xs w j wr) (hj : j < xs.length) => CopyA.step hr rfl hj)
  have HEND : Hid (tkA xs xs.length xs.length = xs) := by show _ = _; simp [tkA]
  unfold RdR at HC
  generalize hN : xs.length = n at *
  have HN := Lib.hid hN
  clear hN
  go_enter Try.func54, Try.ntmps54
  go_wp2_with (at_make; refine wpList_make_full _ rfl _ _ 44 rfl w.heap.size 4 i0 (.bool false) 1 Try.underlying44 hi hz0 hz1 .i64 .i64 (n : Int) (n : Int) n ?_ ?_ rfl rfl ?_ ?_ ?_ ?_; rfl; rfl)
  · rw [hz2]; omega
  · unfold maxLen; omega
  · exact Nat.le_refl _
  intro w1 hown hgr
  have hr : CopyA w.heap.size n xs w 0 w1 := ⟨by
    have h3 : w1.ownsRow w.heap.size 4 1 (.slice (some ⟨w.heap.size, 0, none⟩) n n) n (madeCells #[Value.bool false] (n * 1)).toList := by rw [Nat.mul_one]; exact hown
    rw [madeA] at h3
    simpa [tkA] using h3, (Below.refl _ _).grown hgr (Nat.le_refl _) (by simp)⟩
  clear hown hgr
  go_wp2
  go_loopw [4] (fun i wr => ∃ j : Nat, j ≤ n ∧ i = .int .i64 j ∧ CopyA w.heap.size n xs w j wr) (fun i _ => n - (intOf i).toNat)
  case atStart => exact ⟨0, Nat.zero_le _, rfl, hr⟩
  case round =>
    obtain ⟨j, hj, rfl, hr⟩ := hrel
    by_cases hlt : j < n
    · obtain ⟨b, off, rfl, hc0, hb⟩ := HC.out j hlt
      have c0 := (hr.2.cell (p := ⟨b, off + j, none⟩) hb).trans hc0
      have HR := Lib.hid hr
      have hsz := hr.2.size
      have HST2 := Lib.hid (fun (w' : World) (hb : Below wr.heap.size wr w') => HST.out _ j w' (CopyA.below hr hb hsz) hlt)
      clear hc0 hr
      generalize xs.getD j dR = r at *
      obtain ⟨⟨o0, h0⟩, f0, h9⟩ := HST2.out wr (Below.refl _ _)
      have H5 := Lib.hid h9
      clear h9
      go_wp2
      go_roundw
      case rel => exact ⟨j + 1, by omega, by go_num, H5.out⟩
      case measure => simp [intOf]; omega
    · have e : j = n := by omega
      subst e
      obtain ⟨h1, h2⟩ := hr
      have h3 : OwnR wr w.heap.size (.slice (some ⟨w.heap.size, 0, none⟩) j j) xs := by
        unfold OwnR
        rw [HN.out]
        rw [HEND.out] at h1
        exact h1
      go_wp2
      go_ret
      exact ⟨_, rfl, h3, h2⟩
theorem drew_below {w w' : World} (h : Below w.drew.heap.size w.drew w') : Below w.heap.size w w' := (Below.refl _ w).drew.trans h
def BbA (b : Bool) (w : World) (e : Ending) (w' : World) : Prop := e = .returned (.bool b) ∧ Below w.heap.size w w'
set_option maxHeartbeats 1000000 in
theorem eq_any (a1 a2 : Option Addr) (c1 c2 : Nat) (xs : List R) (w : World) (hn : xs.length ≤ 1048576) (h1 : RdR w a1 xs) (h2 : RdR w a2 xs) :
    Calls Try.prog 57 #[.slice a1 xs.length c1, .slice a2 xs.length c2] w (BbA true w) := by
  have H1 := Lib.hid h1
  have H2 := Lib.hid h2
  clear h1 h2
  unfold RdR at H1 H2
  generalize hN : xs.length = N at *
  clear hN
  go_enter Try.func57, Try.ntmps57
  go_wp2
  go_loopw [5] (fun i wr => ∃ k : Nat, k ≤ N ∧ i = .int .i64 k ∧ Hid (Below w.heap.size w wr)) (fun i _ => N - (intOf i).toNat)
  case atStart => exact ⟨0, Nat.zero_le _, rfl, Below.refl _ _⟩
  case round =>
    obtain ⟨k, hk, rfl, hb⟩ := hrel
    by_cases hlt : k < N
    · obtain ⟨p1, off1, rfl, g10, l1⟩ := H1.out k hlt
      obtain ⟨p2, off2, rfl, g20, l2⟩ := H2.out k hlt
      have q10 := (hb.out.cell (p := ⟨p1, off1 + k, none⟩) l1).trans g10
      have q20 := (hb.out.cell (p := ⟨p2, off2 + k, none⟩) l2).trans g20
      have m1 : p1 < wr.heap.size := Nat.lt_of_lt_of_le l1 hb.out.size
      have m2 : p2 < wr.heap.size := Nat.lt_of_lt_of_le l2 hb.out.size
      clear g10 g20
      generalize xs.getD k dR = r at *
      have hrr : (r != r) = false := by simp
      have HD := Lib.hid hb.out.drew
      go_wp2
      go_region
      all_goals
        go_wp2
        go_roundw
        case rel => exact ⟨k + 1, by omega, by go_num, HD⟩
      case measure => simp [intOf]; omega
    · go_wp2
      go_ret
      exact ⟨rfl, hb.out⟩
/-- The row that marks leave, from K on. -/
def mkG (K : Int) (n : Nat) : List R := (List.range n).map fun j : Nat => (((K + (j : Int)) % 3 == 0))
theorem mkG_length (K : Int) (n : Nat) : (mkG K n).length = n := by simp [mkG]
theorem mkG_get (K : Int) (n j : Nat) (h : j < n) : (mkG K n).getD j dR = (((K + (j : Int)) % 3 == 0)) := by
  rw [List.getD_eq_getElem?_getD, List.getElem?_eq_getElem (by rw [mkG_length]; exact h)]
  simp [mkG]
theorem ext_getDA (xs ys : List R) (hl : xs.length = ys.length) (h : ∀ i, i < xs.length → xs.getD i dR = ys.getD i dR) : xs = ys := by
  refine List.ext_getElem hl fun i h1 h2 => ?_
  have := h i h1
  rwa [List.getD_eq_getElem?_getD, List.getElem?_eq_getElem h1, List.getD_eq_getElem?_getD, List.getElem?_eq_getElem h2] at this
def MarkedG (B : Nat) (v : Value) (K : Int) (n : Nat) (w : World) (e : Ending) (w' : World) : Prop := e = .returned (.int .i64 (K + (n : Int))) ∧ OwnR w' B v (mkG K n) ∧ w.grownBy w' v.ownBlock
end Go.Proofs.Ytmmjdmgnmlhjeaa.Bo
