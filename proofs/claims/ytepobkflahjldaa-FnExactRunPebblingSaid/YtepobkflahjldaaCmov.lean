/- Rows of Move: cells, what the call owns, what is read, and the law's helpers. -/
import Derived.Test.YtepobkflahjldaaCappg
import Derived.Test.YtepobkflahjldaaCrd
import Derived.Test.YtepobkflahjldaaCbt
import Derived.Laws.OwnMore
import Derived.Maps.AppendAt
import Derived.Deep.RegionHeld3
import Derived.Handy
namespace Go.Proofs.Ytepobkflahjldaa.Mo
open Go.RowKit
abbrev R := Int × Int
abbrev dR : R := (0, 0)
def cl : List R → List Value
  | [] => []
  | r :: rs => .int .i64 r.1 :: .int .i64 r.2 :: cl rs
theorem cl_app (a b : List R) : cl (a ++ b) = cl a ++ cl b := by
  induction a with
  | nil => rfl
  | cons r a ih => simp [cl, ih]
theorem cl_length (a : List R) : (cl a).length = a.length * 2 := by
  induction a with
  | nil => rfl
  | cons r a ih => simp [cl, ih]; omega
theorem cl_get : ∀ (rs : List R) (j : Nat), j < rs.length → (cl rs)[j * 2]? = some (.int .i64 (rs.getD j dR).1) ∧ (cl rs)[j * 2 + 1]? = some (.int .i64 (rs.getD j dR).2)
  | r :: rs, 0, _ => ⟨rfl, rfl⟩
  | r :: rs, j + 1, h => by
    have ih := cl_get rs j (by simpa using h)
    have e : (j + 1) * 2 = j * 2 + 1 + 1 := by omega
    rw [e]
    exact ih
theorem cl_set : ∀ (rs : List R) (j : Nat) (x0 : Int) (x1 : Int), j < rs.length → (((cl rs).set (j * 2) (.int .i64 x0)).set (j * 2 + 1) (.int .i64 x1)) = cl (rs.set j (x0, x1))
  | r :: rs, 0, _, _, _ => rfl
  | r :: rs, j + 1, x0, x1, h => by
    have ih := cl_set rs j x0 x1 (by simpa using h)
    have e : (j + 1) * 2 = j * 2 + 1 + 1 := by omega
    rw [e]
    show Value.int .i64 r.1 :: Value.int .i64 r.2 :: (((cl rs).set (j * 2) (.int .i64 x0)).set (j * 2 + 1) (.int .i64 x1)) = _
    rw [ih]; rfl
/-- v is a row of the call's own. -/
def OwnR (w : World) (B : Nat) (v : Value) (rs : List R) : Prop := w.ownsRow B 52 2 v rs.length (cl rs)
theorem OwnR.block {w : World} {B : Nat} {v : Value} {rs : List R} (h : OwnR w B v rs) : ∀ k, v.ownBlock = some k → B ≤ k ∧ k < w.heap.size := World.ownsRow.lt h
theorem OwnR.nil (w : World) (B : Nat) : OwnR w B (.slice none 0 0) [] := World.ownsRow_nil _ _ _ _
theorem OwnR.below {w w' : World} {B C : Nat} {v : Value} {rs : List R} (h : OwnR w B v rs) (hb : Below C w w') (hC : w.heap.size ≤ C) : OwnR w' B v rs := by
  refine ⟨h.1, ?_⟩
  rcases h.2 with hn | ⟨g, cap, cur, hv, hg, hh, r⟩
  · exact .inl hn
  · exact .inr ⟨g, cap, cur, hv, hg, by rw [hb.block g (Nat.lt_of_lt_of_le (Array.getElem?_eq_some_iff.1 hh).1 hC)]; exact hh, r⟩
theorem OwnR.same {w w' : World} {B : Nat} {v : Value} {rs : List R} (h : OwnR w B v rs) (hb : ∀ b, v.ownBlock = some b → b < w.heap.size → w'.heap[b]? = w.heap[b]?) : OwnR w' B v rs := by
  refine ⟨h.1, ?_⟩
  rcases h.2 with hn | ⟨g, cap, cur, rfl, hg, hh, r⟩
  · exact .inl hn
  · exact .inr ⟨g, cap, cur, rfl, hg, by rw [hb g rfl (Array.getElem?_eq_some_iff.1 hh).1]; exact hh, r⟩
theorem OwnR.kept {w w' : World} {B : Nat} {v : Value} {rs : List R} {row : Option Nat} (h : OwnR w B v rs) (hg : w.grownBy w' row) (hne : ∀ k, v.ownBlock = some k → some k ≠ row) : OwnR w' B v rs := by
  refine World.ownsRow.kept h hg ?_
  cases hv : v.ownBlock with
  | none => exact .inl rfl
  | some k => exact .inr (hne k hv)
theorem OwnR.mono {w : World} {B B' : Nat} {v : Value} {rs : List R} (h : OwnR w B v rs) (hB : B' ≤ B) : OwnR w B' v rs := by
  refine ⟨h.1, ?_⟩
  rcases h.2 with hn | ⟨g, cap, cur, hv, hg, r⟩
  · exact .inl hn
  · exact .inr ⟨g, cap, cur, hv, by omega, r⟩
theorem OwnR.drewN {w : World} {B : Nat} {v : Value} {rs : List R} (h : OwnR w B v rs) (k : Nat) : OwnR (w.drewN k) B v rs := h
/-- Rows that are read, wherever they lie. -/
def RdR (w : World) (a : Option Addr) (rs : List R) : Prop :=
  ∀ i, i < rs.length → ∃ b off, a = some ⟨b, off, none⟩ ∧ w.cell? ⟨b, off + i * 2, none⟩ = some (.int .i64 (rs.getD i dR).1) ∧ w.cell? ⟨b, off + i * 2 + 1, none⟩ = some (.int .i64 (rs.getD i dR).2) ∧ b < w.heap.size
theorem RdR.below {w w' : World} {a : Option Addr} {rs : List R} (h : RdR w a rs) (hb : Below w.heap.size w w') : RdR w' a rs := fun i hi => by
  obtain ⟨b, off, ha, h0, h1, hlt⟩ := h i hi
  exact ⟨b, off, ha, (hb.cell (p := ⟨b, off + i * 2, none⟩) hlt).trans h0, (hb.cell (p := ⟨b, off + i * 2 + 1, none⟩) hlt).trans h1, Nat.lt_of_lt_of_le hlt hb.size⟩
theorem RdR.take {w : World} {a : Option Addr} {rs : List R} (h : RdR w a rs) (n : Nat) : RdR w a (rs.take n) := fun i hi => by
  rw [List.length_take] at hi
  obtain ⟨b, off, ha, r⟩ := h i (by omega)
  have e : (rs.take n).getD i dR = rs.getD i dR := by
    rw [List.getD_eq_getElem?_getD, List.getElem?_take, if_pos (by omega), ← List.getD_eq_getElem?_getD]
  rw [e]
  exact ⟨b, off, ha, r⟩
theorem OwnR.row {w : World} {B : Nat} {v : Value} {rs : List R} (h : OwnR w B v rs) : ∃ a c, v = .slice a rs.length c ∧ RdR w a rs := by
  have h0 := h
  rcases h.2 with ⟨rfl, hn⟩ | ⟨g, cap, cur, rfl, _⟩
  · exact ⟨none, 0, by rw [hn], fun i hi => by omega⟩
  · refine ⟨_, cap, rfl, fun i hi => ?_⟩
    obtain ⟨e0, e1⟩ := cl_get rs i hi
    have hr : w.ownsRow B 52 2 (.slice (some ⟨g, 0, none⟩) rs.length cap) rs.length (cl rs) := h0
    refine ⟨g, 0, rfl, ?_, ?_, (OwnR.block h0 g rfl).2⟩
    · rw [Nat.zero_add, World.ownsRow.cellAt hr (i * 2) (by omega), e0]
    · rw [Nat.zero_add, World.ownsRow.cellAt hr (i * 2 + 1) (by omega), e1]
theorem OwnR.le {w : World} {B : Nat} {v : Value} {rs : List R} (h : OwnR w B v rs) : rs.length ≤ 9223372036854775807 := by
  rcases h.2 with ⟨_, hn⟩ | ⟨g, cap, cur, _, _, _, h1, h2, _⟩
  · omega
  · unfold maxLen at h2; omega
set_option maxRecDepth 100000 in
theorem to1 (x0 : Int) (x1 : Int) (w : World) : Calls Try.prog 26 #[.agg #[.int .i64 x0, .int .i64 x1]] w fun e w' => e = .returned (.agg #[.int .i64 x0, .int .i64 x1]) ∧ Below w.heap.size w w' := by
  go_enter Try.func26, Try.ntmps26
  go_wp2
  refine bodyPost_ret (v := .agg #[.int .i64 x0, .int .i64 x1]) (by simp [results, Try.results26, go_sem]) rfl ?_
  refine ⟨rfl, ?_⟩
  first
    | exact (((Below.refl _ _).alloc (Nat.le_refl _) _).alloc (by simp) _).alloc (by simp; omega) _
    | go_grown
theorem eq1 (x0 : Int) (x1 : Int) (w : World) : Calls Try.prog 31 #[.agg #[.int .i64 x0, .int .i64 x1], .agg #[.int .i64 x0, .int .i64 x1]] w fun e w' => e = .returned (.bool true) ∧ Below w.heap.size w w' := by
  go_enter Try.func31, Try.ntmps31
  go_wp2
  go_ret
  exact ⟨rfl, ((Below.refl _ _).alloc (Nat.le_refl _) _).alloc (by simp) _⟩
theorem sz_yes (a : Option Addr) (len cap : Nat) (left : Int) (w : World) (h : (len : Int) ≤ left) (hl : left ≤ 1048576) :
    Calls Try.prog 6 #[.slice a len cap, .int .i64 left] w (Count (left - (len : Int)) w) := by
  have h1 : ¬ (left - (len : Int)) < 0 := by omega
  go_enter Try.func6, Try.ntmps6
  go_wp2
  go_ret
  exact ⟨rfl, rfl⟩
theorem sz_no (a : Option Addr) (len cap : Nat) (left : Int) (w : World) (h0 : 0 ≤ left) (h : left < (len : Int)) (hl : left ≤ 1048576) (hm : len ≤ 9223372036854775807) :
    Calls Try.prog 6 #[.slice a len cap, .int .i64 left] w (Count (-1) w) := by
  have h1 : (left - (len : Int)) < 0 := by omega
  go_enter Try.func6, Try.ntmps6
  go_wp2
  go_ret
  exact ⟨rfl, rfl⟩
theorem infoA : (Try.prog.info? 52).map (fun i => (i.zero, i.size, i.bytes)) = some (some (.agg #[.int .i64 0, .int .i64 0]), 2, 16) := by kernel_rfl
theorem cl_zero (N : Nat) : cl (List.replicate (N + 1) dR) = Value.int .i64 0 :: Value.int .i64 0 :: cl (List.replicate N dR) := by rw [List.replicate_succ]; rfl
theorem madeA (N : Nat) : (madeCells #[Value.int .i64 0, .int .i64 0] (N * 2)).toList = cl (List.replicate N dR) := by
  refine List.ext_getElem? fun i => ?_
  by_cases hi : i < N * 2
  · have hd : i = i / 2 * 2 + i % 2 := by omega
    have hj : i / 2 < (List.replicate N dR).length := by rw [List.length_replicate]; omega
    have hg : (List.replicate N dR).getD (i / 2) dR = dR := by
      rw [List.length_replicate] at hj
      rw [List.getD_eq_getElem?_getD, List.getElem?_replicate, if_pos hj]; rfl
    obtain ⟨e0, e1⟩ := cl_get (List.replicate N dR) (i / 2) hj
    rw [hg] at e0 e1
    have h3 : i % 2 = 0 ∨ i % 2 = 1 := by omega
    have hL : (madeCells #[Value.int .i64 0, .int .i64 0] (N * 2)).toList[i]? = some (#[Value.int .i64 0, .int .i64 0][i % 2]!) := by
      unfold madeCells
      rw [Array.toList_map, List.getElem?_map]
      simp [List.getElem?_range, hi]
    rw [hL]
    rcases h3 with h | h
    · rw [h]; rw [h, Nat.add_zero] at hd; rw [hd]; exact (e0).symm
    · rw [h]; rw [h] at hd; rw [hd]; exact (e1).symm
  · rw [List.getElem?_eq_none, List.getElem?_eq_none]
    · rw [cl_length, List.length_replicate]; omega
    · rw [Array.length_toList, size_madeCells]; omega
def tkA (xs : List R) (n j : Nat) : List R := xs.take j ++ List.replicate (n - j) dR
theorem tkA_length (xs : List R) (n j : Nat) (hj : j ≤ n) (hn : n = xs.length) : (tkA xs n j).length = n := by simp [tkA]; omega
theorem tkA_step (xs : List R) (n j : Nat) (hj : j < n) (hn : n = xs.length) : (tkA xs n j).set j (xs.getD j dR) = tkA xs n (j + 1) := by
  have hl : (xs.take j).length = j := by simp; omega
  unfold tkA
  rw [List.set_append_right _ _ (by omega), hl, Nat.sub_self, show n - j = (n - (j + 1)) + 1 by omega, List.replicate_succ, List.set_cons_zero,
    List.take_succ_eq_append_getElem (by omega), List.append_assoc, List.getD_eq_getElem?_getD, List.getElem?_eq_getElem (by omega)]
  rfl
def CopyA (g n : Nat) (xs : List R) (w0 : World) (j : Nat) (wr : World) : Prop :=
  wr.ownsRow g 52 2 (.slice (some ⟨g, 0, none⟩) n n) n (cl (tkA xs n j)) ∧ Below g w0 wr
theorem stores {B g n cap : Nat} {ys : List R} {wr : World} {j : Nat} (h : wr.ownsRow B 52 2 (.slice (some ⟨g, 0, none⟩) n cap) n (cl ys)) (hn : ys.length = n) (hj : j < n) (x0 : Int) (x1 : Int) :
    (∃ old, wr.cell? ⟨g, j * 2, none⟩ = some old) ∧ (∃ old, wr.cell? ⟨g, j * 2 + 1, none⟩ = some old) ∧ wr.frozen? ⟨g, j * 2, none⟩ = false ∧ wr.frozen? ⟨g, j * 2 + 1, none⟩ = false ∧
      World.ownsRow ((wr.setCell ⟨g, j * 2, none⟩ (.int .i64 x0)).setCell ⟨g, j * 2 + 1, none⟩ (.int .i64 x1)) B 52 2 (.slice (some ⟨g, 0, none⟩) n cap) n (cl (ys.set j (x0, x1))) ∧ wr.grownBy ((wr.setCell ⟨g, j * 2, none⟩ (.int .i64 x0)).setCell ⟨g, j * 2 + 1, none⟩ (.int .i64 x1)) (some g) := by
  have hl := cl_length ys
  rw [hn] at hl
  have s0 := World.ownsRow.stored h (j * 2) (.int .i64 x0)
  have s1 := World.ownsRow.stored s0.1 (j * 2 + 1) (.int .i64 x1)
  rw [cl_set ys j _ _ (by rw [hn]; exact hj)] at s1
  exact ⟨⟨_, by rw [h.cellAt (j * 2) (by omega), List.getElem?_eq_getElem (by omega)]⟩, ⟨_, by rw [h.cellAt (j * 2 + 1) (by omega), List.getElem?_eq_getElem (by omega)]⟩, h.frozenAt _, h.frozenAt _, s1.1, grownBy_trans (s0.2) s1.2⟩
theorem CopyA.step {g n : Nat} {xs : List R} {w0 : World} {j : Nat} {wr : World} (h : CopyA g n xs w0 j wr) (hn : n = xs.length) (hj : j < n) :
    (∃ old, wr.cell? ⟨g, j * 2, none⟩ = some old) ∧ (∃ old, wr.cell? ⟨g, j * 2 + 1, none⟩ = some old) ∧ wr.frozen? ⟨g, j * 2, none⟩ = false ∧ wr.frozen? ⟨g, j * 2 + 1, none⟩ = false ∧
      CopyA g n xs w0 (j + 1) ((wr.setCell ⟨g, j * 2, none⟩ (.int .i64 (xs.getD j dR).1)).setCell ⟨g, j * 2 + 1, none⟩ (.int .i64 (xs.getD j dR).2)) := by
  obtain ⟨a0, a1, f0, f1, hs, _⟩ := stores h.1 (tkA_length xs n j (by omega) hn) hj (xs.getD j dR).1 (xs.getD j dR).2
  have e : (tkA xs n j).set j ((xs.getD j dR).1, (xs.getD j dR).2) = tkA xs n (j + 1) := tkA_step xs n j hj hn
  rw [e] at hs
  exact ⟨a0, a1, f0, f1, hs, (h.2.setCell (Nat.le_refl _) _).setCell (Nat.le_refl _) _⟩
theorem CopyA.below {g n : Nat} {xs : List R} {w0 : World} {j : Nat} {wr w' : World} (h : CopyA g n xs w0 j wr) (hb : Below wr.heap.size wr w') (hg : g ≤ wr.heap.size) : CopyA g n xs w0 j w' := by
  refine ⟨⟨h.1.1, ?_⟩, h.2.trans (hb.mono hg)⟩
  rcases h.1.2 with hn | ⟨g', cap, cur, hv, hgg, hh, r⟩
  · exact .inl hn
  · exact .inr ⟨g', cap, cur, hv, hgg, by rw [hb.block g' (Array.getElem?_eq_some_iff.1 hh).1]; exact hh, r⟩
def CopiedA (xs : List R) (w : World) (e : Ending) (w' : World) : Prop := ∃ v, e = .returned v ∧ OwnR w' w.heap.size v xs ∧ Below w.heap.size w w'
set_option maxHeartbeats 2000000 in
theorem to_any (a : Option Addr) (cap : Nat) (xs : List R) (w : World) (h : RdR w a xs) (hn : xs.length ≤ 1048576) :
    Calls Try.prog 9 #[.slice a xs.length cap] w (CopiedA xs w) := by
  have HC := Lib.hid h
  clear h
  obtain ⟨i0, hi, hz0, hz1, hz2⟩ := info_parts infoA
  have HST := Lib.hid (fun (g j : Nat) (wr : World) (hr : CopyA g xs.length xs w j wr) (hj : j < xs.length) => CopyA.step hr rfl hj)
  have HEND : Hid (tkA xs xs.length xs.length = xs) := by show _ = _; simp [tkA]
  unfold RdR at HC
  generalize hN : xs.length = n at *
  have HN := Lib.hid hN
  clear hN
  go_enter Try.func9, Try.ntmps9
  go_wp2_with (at_make; refine wpList_make_full _ rfl _ _ 33 rfl w.heap.size 52 i0 (.agg #[.int .i64 0, .int .i64 0]) 2 Try.underlying33 hi hz0 hz1 .i64 .i64 (n : Int) (n : Int) n ?_ ?_ rfl rfl ?_ ?_ ?_ ?_; rfl; rfl)
  · rw [hz2]; omega
  · unfold maxLen; omega
  · exact Nat.le_refl _
  intro w1 hown hgr
  have hr : CopyA w.heap.size n xs w 0 w1 := ⟨by
    have h3 : w1.ownsRow w.heap.size 52 2 (.slice (some ⟨w.heap.size, 0, none⟩) n n) n (madeCells #[Value.int .i64 0, .int .i64 0] (n * 2)).toList := hown
    rw [madeA] at h3
    simpa [tkA] using h3, (Below.refl _ _).grown hgr (Nat.le_refl _) (by simp)⟩
  clear hown hgr
  go_wp2
  go_loopw [4] (fun i wr => ∃ j : Nat, j ≤ n ∧ i = .int .i64 j ∧ CopyA w.heap.size n xs w j wr) (fun i _ => n - (intOf i).toNat)
  case atStart => exact ⟨0, Nat.zero_le _, rfl, hr⟩
  case round =>
    obtain ⟨j, hj, rfl, hr⟩ := hrel
    by_cases hlt : j < n
    · obtain ⟨b, off, rfl, hc0, hc1, hb⟩ := HC.out j hlt
      have c0 := (hr.2.cell (p := ⟨b, off + j * 2, none⟩) hb).trans hc0
      have c1 := (hr.2.cell (p := ⟨b, off + j * 2 + 1, none⟩) hb).trans hc1
      have HR := Lib.hid hr
      have hsz := hr.2.size
      have HST2 := Lib.hid (fun (w' : World) (hb : Below wr.heap.size wr w') => HST.out _ j w' (CopyA.below hr hb hsz) hlt)
      clear hc0 hc1 hr
      generalize xs.getD j dR = r at *
      obtain ⟨x0, x1⟩ := r
      go_wp2_with fail
      refine (to1 x0 x1 wr).mono ?_
      rintro e w2 ⟨rfl, b2⟩
      obtain ⟨⟨o0, h0⟩, ⟨o1, h1⟩, f0, f1, h9⟩ := HST2.out w2 b2
      have H5 := Lib.hid h9
      clear h9
      go_wp2
      go_roundw
      case rel => exact ⟨j + 1, by omega, by go_num, H5.out⟩
      case measure => simp [intOf]; omega
    · have e : j = n := by omega
      subst e
      obtain ⟨h1, h2⟩ := hr
      have h3 : OwnR wr w.heap.size (.slice (some ⟨w.heap.size, 0, none⟩) j j) xs := by
        unfold OwnR
        rw [HN.out]
        rw [HEND.out] at h1
        exact h1
      go_wp2
      go_ret
      exact ⟨_, rfl, h3, h2⟩
theorem drew_below {w w' : World} (h : Below w.drew.heap.size w.drew w') : Below w.heap.size w w' := (Below.refl _ w).drew.trans h
def BbA (b : Bool) (w : World) (e : Ending) (w' : World) : Prop := e = .returned (.bool b) ∧ Below w.heap.size w w'
set_option maxHeartbeats 1000000 in
theorem eq_any (a1 a2 : Option Addr) (c1 c2 : Nat) (xs : List R) (w : World) (hn : xs.length ≤ 1048576) (h1 : RdR w a1 xs) (h2 : RdR w a2 xs) :
    Calls Try.prog 13 #[.slice a1 xs.length c1, .slice a2 xs.length c2] w (BbA true w) := by
  have H1 := Lib.hid h1
  have H2 := Lib.hid h2
  clear h1 h2
  unfold RdR at H1 H2
  generalize hN : xs.length = N at *
  clear hN
  go_enter Try.func13, Try.ntmps13
  go_wp2
  go_loopw [5] (fun i wr => ∃ k : Nat, k ≤ N ∧ i = .int .i64 k ∧ Hid (Below w.heap.size w wr)) (fun i _ => N - (intOf i).toNat)
  case atStart => exact ⟨0, Nat.zero_le _, rfl, Below.refl _ _⟩
  case round =>
    obtain ⟨k, hk, rfl, hb⟩ := hrel
    by_cases hlt : k < N
    · obtain ⟨p1, off1, rfl, g10, g11, l1⟩ := H1.out k hlt
      obtain ⟨p2, off2, rfl, g20, g21, l2⟩ := H2.out k hlt
      have q10 := (hb.out.cell (p := ⟨p1, off1 + k * 2, none⟩) l1).trans g10
      have q11 := (hb.out.cell (p := ⟨p1, off1 + k * 2 + 1, none⟩) l1).trans g11
      have q20 := (hb.out.cell (p := ⟨p2, off2 + k * 2, none⟩) l2).trans g20
      have q21 := (hb.out.cell (p := ⟨p2, off2 + k * 2 + 1, none⟩) l2).trans g21
      have m1 : p1 < wr.heap.size := Nat.lt_of_lt_of_le l1 hb.out.size
      have m2 : p2 < wr.heap.size := Nat.lt_of_lt_of_le l2 hb.out.size
      clear g10 g11 g20 g21
      generalize xs.getD k dR = r at *
      obtain ⟨x0, x1⟩ := r
      have HE := Lib.hid (fun w => eq1 x0 x1 w)
      have HK := Lib.hid (fun (w' : World) (bb : Below wr.heap.size wr w') => (show w'.cell? ⟨p1, off1 + k * 2, none⟩ = some (.int .i64 x0) ∧ w'.cell? ⟨p1, off1 + k * 2 + 1, none⟩ = some (.int .i64 x1) ∧ w'.cell? ⟨p2, off2 + k * 2, none⟩ = some (.int .i64 x0) ∧ w'.cell? ⟨p2, off2 + k * 2 + 1, none⟩ = some (.int .i64 x1) from
        ⟨(bb.cell (p := ⟨p1, off1 + k * 2, none⟩) m1).trans q10, (bb.cell (p := ⟨p1, off1 + k * 2 + 1, none⟩) m1).trans q11, (bb.cell (p := ⟨p2, off2 + k * 2, none⟩) m2).trans q20, (bb.cell (p := ⟨p2, off2 + k * 2 + 1, none⟩) m2).trans q21⟩))
      have HB := Lib.hid (fun (w' : World) (bb : Below wr.heap.size wr w') => hb.out.trans (bb.mono hb.out.size))
      go_wp2
      go_region_held3 (fun w' => w'.cell? ⟨p1, off1 + k * 2, none⟩ = some (.int .i64 x0) ∧ w'.cell? ⟨p1, off1 + k * 2 + 1, none⟩ = some (.int .i64 x1) ∧ w'.cell? ⟨p2, off2 + k * 2, none⟩ = some (.int .i64 x0) ∧ w'.cell? ⟨p2, off2 + k * 2 + 1, none⟩ = some (.int .i64 x1)) (first | exact ⟨q10, q11, q20, q21⟩ | exact HK.out _ (drew_below bb)) (first | (go_at_call 31; (with_reducible refine (HE.out _).mono ?_); rintro e w1 ⟨rfl, bb⟩))
      go_wp2
      go_roundw
      case rel => exact ⟨k + 1, by omega, by go_num, HB.out _ (drew_below bb)⟩
      case measure => simp [intOf]; omega
    · go_wp2
      go_ret
      exact ⟨rfl, hb.out⟩
/-- The row that marks leave, from K on. -/
def mkG (K : Int) (n : Nat) : List R := (List.range n).map fun j : Nat => (K + 2 * (j : Int), K + 2 * (j : Int) + 1)
theorem mkG_length (K : Int) (n : Nat) : (mkG K n).length = n := by simp [mkG]
theorem mkG_get (K : Int) (n j : Nat) (h : j < n) : (mkG K n).getD j dR = (K + 2 * (j : Int), K + 2 * (j : Int) + 1) := by
  rw [List.getD_eq_getElem?_getD, List.getElem?_eq_getElem (by rw [mkG_length]; exact h)]
  simp [mkG]
theorem ext_getDA (xs ys : List R) (hl : xs.length = ys.length) (h : ∀ i, i < xs.length → xs.getD i dR = ys.getD i dR) : xs = ys := by
  refine List.ext_getElem hl fun i h1 h2 => ?_
  have := h i h1
  rwa [List.getD_eq_getElem?_getD, List.getElem?_eq_getElem h1, List.getD_eq_getElem?_getD, List.getElem?_eq_getElem h2] at this
def MarkedG (B : Nat) (v : Value) (K : Int) (n : Nat) (w : World) (e : Ending) (w' : World) : Prop := e = .returned (.int .i64 (K + 2 * (n : Int))) ∧ OwnR w' B v (mkG K n) ∧ w.grownBy w' v.ownBlock
set_option maxHeartbeats 2000000 in
theorem markG {w : World} {B : Nat} {v : Value} {xs : List R} (K : Int) (hK0 : 0 ≤ K) (hK1 : K ≤ 100000000) (h : OwnR w B v xs) (hn : xs.length ≤ 1048576) :
    Calls Try.prog 15 #[v, .int .i64 K] w (MarkedG B v K xs.length w) := by
  rcases h.2 with ⟨rfl, h0⟩ | ⟨g, cap, cur, rfl, _⟩
  · rw [h0]
    go_enter Try.func15, Try.ntmps15
    go_wp2
    refine wp_loop_rounds 1 ?_
    rw [rounds_succ]
    go_wp2
    go_ret
    exact ⟨ret_i64 (by simp), World.ownsRow_nil _ _ _ _, ⟨rfl, rfl, rfl, Nat.le_refl _, fun _ _ _ => rfl⟩⟩
  · have h0 : w.ownsRow B 52 2 (.slice (some ⟨g, 0, none⟩) xs.length cap) xs.length (cl xs) := h
    generalize hN : xs.length = N at *
    have HN := Lib.hid hN
    have H0 := Lib.hid h0
    clear hN h0 h
    go_enter Try.func15, Try.ntmps15
    go_wp2
    go_loopw [1, 5] (fun k i wr => ∃ j : Nat, j ≤ N ∧ i = .int .i64 j ∧ k = .int .i64 (K + 2 * (j : Int)) ∧ ∃ ys : List R, Hid (ys.length = N) ∧ Hid (wr.ownsRow B 52 2 (.slice (some ⟨g, 0, none⟩) N cap) N (cl ys)) ∧ Hid (w.grownBy wr (some g)) ∧
        Hid (∀ i, i < j → ys.getD i dR = (K + 2 * (i : Int), K + 2 * (i : Int) + 1))) (fun _ i _ => N - (intOf i).toNat)
    case atStart => exact ⟨0, Nat.zero_le _, rfl, by simp, xs, HN, H0, ⟨rfl, rfl, rfl, Nat.le_refl _, fun _ _ _ => rfl⟩, fun i h => by omega⟩
    case round =>
      obtain ⟨j, hj, rfl, rfl, ys, hy, ho, hg, hm⟩ := hrel
      by_cases hlt : j < N
      · obtain ⟨⟨u0, a0⟩, ⟨u1, a1⟩, f0, f1, hs, hgs⟩ := stores ho.out hy.out hlt (K + 2 * (j : Int)) (K + 2 * (j : Int) + 1)
        have S2 := Lib.hid hs
        have G2 := Lib.hid (grownBy_trans hg.out hgs)
        have HY := Lib.hid (show (ys.set j (K + 2 * (j : Int), K + 2 * (j : Int) + 1)).length = N by rw [List.length_set]; exact hy.out)
        have HM := Lib.hid (show ∀ i, i < j + 1 → (ys.set j (K + 2 * (j : Int), K + 2 * (j : Int) + 1)).getD i dR = (K + 2 * (i : Int), K + 2 * (i : Int) + 1) from fun i hi => by
          by_cases e : i = j
          · subst e
            rw [List.getD_eq_getElem?_getD, List.getElem?_set_self (by rw [hy.out]; exact hlt)]
            rfl
          · rw [List.getD_eq_getElem?_getD, List.getElem?_set_ne (fun h => e h.symm), ← List.getD_eq_getElem?_getD]
            exact hm.out i (by omega))
        clear hs hgs ho hg hy hm
        go_wp2
        go_roundw
        case rel => exact ⟨j + 1, by omega, by go_num, by go_num, _, HY, S2, G2, HM⟩
        case measure => simp [intOf]; omega
      · have e : j = N := by omega
        subst e
        have hE : ys = mkG K j := ext_getDA _ _ (by rw [mkG_length]; exact hy.out) fun i hi => by
          rw [hy.out] at hi
          rw [mkG_get K j i hi]
          exact hm.out i hi
        subst hE
        have hO : OwnR wr B (.slice (some ⟨g, 0, none⟩) j cap) (mkG K j) := by
          unfold OwnR
          rw [mkG_length]
          exact ho.out
        have HO := Lib.hid hO
        clear hO
        go_wp2
        go_ret
        exact ⟨rfl, HO.out, hg.out⟩
end Go.Proofs.Ytepobkflahjldaa.Mo
