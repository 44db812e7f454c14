/- Lists of accesses: what came in, what the call owns; toAccess, toAccessS, szAccessS, eqAccess, eqAccessS. -/
import Derived.Test.YtakjkbjooongkaaCappg
import Derived.Test.YtakjkbjooongkaaCrd
import Derived.Laws.OwnMore
import Derived.Deep.RegionHeld3
namespace Go.Proofs.Ytakjkbjooongkaa.Ac
open Go.RowKit
def acells : List (Int × Int) → List Value
  | [] => []
  | r :: rs => .int .i64 r.1 :: .int .i64 r.2 :: acells rs
theorem acells_app (a b : List (Int × Int)) : acells (a ++ b) = acells a ++ acells b := by
  induction a with
  | nil => rfl
  | cons r a ih => simp [acells, ih]
theorem acells_length (a : List (Int × Int)) : (acells a).length = a.length * 2 := by
  induction a with
  | nil => rfl
  | cons r a ih => simp [acells, ih]; omega
theorem acells_get : ∀ (rs : List (Int × Int)) (j : Nat), j < rs.length → (acells rs)[j * 2]? = some (.int .i64 (rs.getD j (0, 0)).1) ∧ (acells rs)[j * 2 + 1]? = some (.int .i64 (rs.getD j (0, 0)).2)
  | r :: rs, 0, _ => ⟨rfl, rfl⟩
  | r :: rs, j + 1, h => by
    have ih := acells_get rs j (by simpa using h)
    have e : (j + 1) * 2 = j * 2 + 1 + 1 := by omega
    rw [e]
    exact ih
theorem acells_set : ∀ (rs : List (Int × Int)) (j : Nat) (k a : Int), j < rs.length → ((acells rs).set (j * 2) (.int .i64 k)).set (j * 2 + 1) (.int .i64 a) = acells (rs.set j (k, a))
  | r :: rs, 0, _, _, _ => rfl
  | r :: rs, j + 1, k, a, h => by
    have ih := acells_set rs j k a (by simpa using h)
    have e : (j + 1) * 2 = j * 2 + 1 + 1 := by omega
    rw [e]
    show Value.int .i64 r.1 :: Value.int .i64 r.2 :: ((acells rs).set (j * 2) (.int .i64 k)).set (j * 2 + 1) (.int .i64 a) = _
    rw [ih]; rfl
/-- v is a list of accesses of the call's own. -/
def OwnA (w : World) (B : Nat) (v : Value) (rs : List (Int × Int)) : Prop := w.ownsRow B 53 2 v rs.length (acells rs)
theorem OwnA.block {w : World} {B : Nat} {v : Value} {rs : List (Int × Int)} (h : OwnA w B v rs) : ∀ k, v.ownBlock = some k → B ≤ k ∧ k < w.heap.size := World.ownsRow.lt h
theorem OwnA.below {w w' : World} {B C : Nat} {v : Value} {rs : List (Int × Int)} (h : OwnA w B v rs) (hb : Below C w w') (hC : w.heap.size ≤ C) : OwnA w' B v rs := by
  refine ⟨h.1, ?_⟩
  rcases h.2 with hn | ⟨g, cap, cur, hv, hg, hh, r⟩
  · exact .inl hn
  · exact .inr ⟨g, cap, cur, hv, hg, by rw [hb.block g (Nat.lt_of_lt_of_le (Array.getElem?_eq_some_iff.1 hh).1 hC)]; exact hh, r⟩
/-- Accesses that are read, wherever they lie. -/
def RowA (w : World) (a : Option Addr) (rs : List (Int × Int)) : Prop :=
  ∀ i, i < rs.length → ∃ b off, a = some ⟨b, off, none⟩ ∧ w.cell? ⟨b, off + i * 2, none⟩ = some (.int .i64 (rs.getD i (0, 0)).1) ∧ w.cell? ⟨b, off + i * 2 + 1, none⟩ = some (.int .i64 (rs.getD i (0, 0)).2) ∧ b < w.heap.size
theorem RowA.below {w w' : World} {a : Option Addr} {rs : List (Int × Int)} (h : RowA w a rs) (hb : Below w.heap.size w w') : RowA w' a rs := fun i hi => by
  obtain ⟨b, off, ha, h1, h2, hlt⟩ := h i hi
  exact ⟨b, off, ha, (hb.cell (p := ⟨b, off + i * 2, none⟩) hlt).trans h1, (hb.cell (p := ⟨b, off + i * 2 + 1, none⟩) hlt).trans h2, Nat.lt_of_lt_of_le hlt hb.size⟩
theorem OwnA.row {w : World} {B : Nat} {v : Value} {rs : List (Int × Int)} (h : OwnA w B v rs) : ∃ a c, v = .slice a rs.length c ∧ RowA w a rs := by
  have h0 := h
  rcases h.2 with ⟨rfl, hn⟩ | ⟨g, cap, cur, rfl, _⟩
  · exact ⟨none, 0, by rw [hn], fun i hi => by omega⟩
  · refine ⟨_, cap, rfl, fun i hi => ?_⟩
    obtain ⟨e1, e2⟩ := acells_get rs i hi
    have hr : w.ownsRow B 53 2 (.slice (some ⟨g, 0, none⟩) rs.length cap) rs.length (acells rs) := h0
    refine ⟨g, 0, rfl, ?_, ?_, (OwnA.block h0 g rfl).2⟩
    · rw [Nat.zero_add, World.ownsRow.cellAt hr (i * 2) (by omega), e1]
    · rw [Nat.zero_add, World.ownsRow.cellAt hr (i * 2 + 1) (by omega), e2]
set_option maxRecDepth 100000 in
/-- The structure of the law's type is turned into the program's. -/
theorem to1 (k ad : Int) (w : World) : Calls Try.prog 22 #[.agg #[.int .i64 k, .int .i64 ad]] w fun e w' => e = .returned (.agg #[.int .i64 k, .int .i64 ad]) ∧ Below w.heap.size w w' := by
  go_enter Try.func22, Try.ntmps22
  go_wp2
  refine bodyPost_ret (v := .agg #[.int .i64 k, .int .i64 ad]) (by simp [results, Try.results22, go_sem]) rfl ?_
  exact ⟨rfl, (((Below.refl _ _).alloc (Nat.le_refl _) _).alloc (by simp) _).alloc (by simp; omega) _⟩
/-- Two structures are equal. -/
theorem eq1 (k ad : Int) (w : World) : Calls Try.prog 28 #[.agg #[.int .i64 k, .int .i64 ad], .agg #[.int .i64 k, .int .i64 ad]] w fun e w' => e = .returned (.bool true) ∧ Below w.heap.size w w' := by
  go_enter Try.func28, Try.ntmps28
  go_wp2
  go_ret
  exact ⟨rfl, ((Below.refl _ _).alloc (Nat.le_refl _) _).alloc (by simp) _⟩
theorem sz_any (a : Option Addr) (len cap : Nat) (left : Nat) (w : World) (h : len ≤ left) (hl : left ≤ 1048576) :
    Calls Try.prog 9 #[.slice a len cap, .int .i64 (left : Nat)] w fun e w' => e = .returned (.int .i64 ((left : Int) - (len : Int))) ∧ w = w' := by
  have h1 : ¬ ((left : Int) - (len : Int)) < 0 := by omega
  go_enter Try.func9, Try.ntmps9
  go_wp2
  go_ret
  exact ⟨rfl, rfl⟩
theorem sz_long (a : Option Addr) (len cap : Nat) (left : Nat) (w : World) (h : left < len) (hl : left ≤ 1048576) (hm : len ≤ 9223372036854775807) :
    Calls Try.prog 9 #[.slice a len cap, .int .i64 (left : Nat)] w fun e w' => e = .returned (.int .i64 (-1)) ∧ w = w' := by
  have h1 : ((left : Int) - (len : Int)) < 0 := by omega
  go_enter Try.func9, Try.ntmps9
  go_wp2
  go_ret
  exact ⟨rfl, rfl⟩
theorem infoA : (Try.prog.info? 53).map (fun i => (i.zero, i.size, i.bytes)) = some (some (.agg #[.int .i64 0, .int .i64 0]), 2, 16) := by kernel_rfl
theorem acells_zero (N : Nat) : acells (List.replicate N ((0 : Int), (0 : Int))) = List.replicate (N * 2) (Value.int .i64 0) := by
  induction N with
  | zero => rfl
  | succ n ih =>
    rw [List.replicate_succ, show (n + 1) * 2 = n * 2 + 1 + 1 from by omega, List.replicate_succ, List.replicate_succ, ← ih]
    rfl
theorem madeA (N : Nat) : (madeCells #[Value.int .i64 0, Value.int .i64 0] (N * 2)).toList = acells (List.replicate N ((0 : Int), (0 : Int))) := by
  rw [acells_zero, List.eq_replicate_iff]
  refine ⟨by rw [Array.length_toList, size_madeCells], fun b hb => ?_⟩
  unfold madeCells at hb
  rw [Array.toList_map, List.mem_map] at hb
  obtain ⟨i, _, rfl⟩ := hb
  have h2 : i % 2 = 0 ∨ i % 2 = 1 := by omega
  show #[Value.int .i64 0, Value.int .i64 0][i % 2]! = _
  rcases h2 with h | h <;> rw [h] <;> rfl
def tkA (xs : List (Int × Int)) (n j : Nat) : List (Int × Int) := xs.take j ++ List.replicate (n - j) (0, 0)
theorem tkA_length (xs : List (Int × Int)) (n j : Nat) (hj : j ≤ n) (hn : n = xs.length) : (tkA xs n j).length = n := by simp [tkA]; omega
theorem tkA_step (xs : List (Int × Int)) (n j : Nat) (hj : j < n) (hn : n = xs.length) : (tkA xs n j).set j (xs.getD j (0, 0)) = tkA xs n (j + 1) := by
  have hl : (xs.take j).length = j := by simp; omega
  unfold tkA
  rw [List.set_append_right _ _ (by omega), hl, Nat.sub_self, show n - j = (n - (j + 1)) + 1 by omega, List.replicate_succ, List.set_cons_zero,
    List.take_succ_eq_append_getElem (by omega), List.append_assoc, List.getD_eq_getElem?_getD, List.getElem?_eq_getElem (by omega)]
  rfl
def CopyA (g n : Nat) (xs : List (Int × Int)) (w0 : World) (j : Nat) (wr : World) : Prop :=
  wr.ownsRow g 53 2 (.slice (some ⟨g, 0, none⟩) n n) n (acells (tkA xs n j)) ∧ Below g w0 wr
theorem CopyA.step {g n : Nat} {xs : List (Int × Int)} {w0 : World} {j : Nat} {wr : World} (h : CopyA g n xs w0 j wr) (hn : n = xs.length) (hj : j < n) :
    (∃ old, wr.cell? ⟨g, j * 2, none⟩ = some old) ∧ (∃ old, wr.cell? ⟨g, j * 2 + 1, none⟩ = some old) ∧ wr.frozen? ⟨g, j * 2, none⟩ = false ∧ wr.frozen? ⟨g, j * 2 + 1, none⟩ = false ∧
      CopyA g n xs w0 (j + 1) ((wr.setCell ⟨g, j * 2, none⟩ (.int .i64 (xs.getD j (0, 0)).1)).setCell ⟨g, j * 2 + 1, none⟩ (.int .i64 (xs.getD j (0, 0)).2)) := by
  have hl := acells_length (tkA xs n j)
  rw [tkA_length xs n j (by omega) hn] at hl
  have s1 := World.ownsRow.stored h.1 (j * 2) (.int .i64 (xs.getD j (0, 0)).1)
  have s2 := World.ownsRow.stored s1.1 (j * 2 + 1) (.int .i64 (xs.getD j (0, 0)).2)
  rw [acells_set _ j _ _ (by rw [tkA_length xs n j (by omega) hn]; exact hj)] at s2
  have e : (tkA xs n j).set j ((xs.getD j (0, 0)).1, (xs.getD j (0, 0)).2) = tkA xs n (j + 1) := tkA_step xs n j hj hn
  rw [e] at s2
  refine ⟨⟨_, by rw [h.1.cellAt (j * 2) (by omega), List.getElem?_eq_getElem (by omega)]⟩, ⟨_, by rw [h.1.cellAt (j * 2 + 1) (by omega), List.getElem?_eq_getElem (by omega)]⟩, h.1.frozenAt _, h.1.frozenAt _, s2.1, (h.2.setCell (Nat.le_refl _) _).setCell (Nat.le_refl _) _⟩
theorem CopyA.below {g n : Nat} {xs : List (Int × Int)} {w0 : World} {j : Nat} {wr w' : World} (h : CopyA g n xs w0 j wr) (hb : Below wr.heap.size wr w') (hg : g ≤ wr.heap.size) : CopyA g n xs w0 j w' := by
  refine ⟨⟨h.1.1, ?_⟩, h.2.trans (hb.mono hg)⟩
  rcases h.1.2 with hn | ⟨g', cap, cur, hv, hgg, hh, r⟩
  · exact .inl hn
  · exact .inr ⟨g', cap, cur, hv, hgg, by rw [hb.block g' (Array.getElem?_eq_some_iff.1 hh).1]; exact hh, r⟩
def CopiedA (xs : List (Int × Int)) (w : World) (e : Ending) (w' : World) : Prop := ∃ v, e = .returned v ∧ OwnA w' w.heap.size v xs ∧ Below w.heap.size w w'
set_option maxHeartbeats 2000000 in
theorem to_any (a : Option Addr) (cap : Nat) (xs : List (Int × Int)) (w : World) (h : RowA w a xs) (hn : xs.length ≤ 1048576) :
    Calls Try.prog 12 #[.slice a xs.length cap] w (CopiedA xs w) := by
  have HC := Lib.hid h
  clear h
  obtain ⟨i0, hi, hz0, hz1, hz2⟩ := info_parts infoA
  have HST := Lib.hid (fun (g j : Nat) (wr : World) (hr : CopyA g xs.length xs w j wr) (hj : j < xs.length) => CopyA.step hr rfl hj)
  have HEND : Hid (tkA xs xs.length xs.length = xs) := by show _ = _; simp [tkA]
  unfold RowA at HC
  generalize hN : xs.length = n at *
  have HN := Lib.hid hN
  clear hN
  go_enter Try.func12, Try.ntmps12
  go_wp2_with (at_make; refine wpList_make_full _ rfl _ _ 31 rfl w.heap.size 53 i0 (.agg #[.int .i64 0, .int .i64 0]) 2 Try.underlying31 hi hz0 hz1 .i64 .i64 (n : Int) (n : Int) n ?_ ?_ rfl rfl ?_ ?_ ?_ ?_; rfl; rfl)
  · rw [hz2]; omega
  · unfold maxLen; omega
  · exact Nat.le_refl _
  intro w1 hown hgr
  have hr : CopyA w.heap.size n xs w 0 w1 := ⟨by
    have h3 : w1.ownsRow w.heap.size 53 2 (.slice (some ⟨w.heap.size, 0, none⟩) n n) n (madeCells #[Value.int .i64 0, Value.int .i64 0] (n * 2)).toList := hown
    rw [madeA] at h3
    simpa [tkA] using h3, (Below.refl _ _).grown hgr (Nat.le_refl _) (by simp)⟩
  clear hown hgr
  go_wp2
  go_loopw [4] (fun i wr => ∃ j : Nat, j ≤ n ∧ i = .int .i64 j ∧ CopyA w.heap.size n xs w j wr) (fun i _ => n - (intOf i).toNat)
  case atStart => exact ⟨0, Nat.zero_le _, rfl, hr⟩
  case round =>
    obtain ⟨j, hj, rfl, hr⟩ := hrel
    by_cases hlt : j < n
    · obtain ⟨b, off, rfl, hc1, hc2, hb⟩ := HC.out j hlt
      have c1 := (hr.2.cell (p := ⟨b, off + j * 2, none⟩) hb).trans hc1
      have c2 := (hr.2.cell (p := ⟨b, off + j * 2 + 1, none⟩) hb).trans hc2
      have HR := Lib.hid hr
      have hsz := hr.2.size
      have HST2 := Lib.hid (fun (w' : World) (hb : Below wr.heap.size wr w') => HST.out _ j w' (CopyA.below hr hb hsz) hlt)
      clear hc1 hc2 hr
      generalize xs.getD j (0, 0) = r at *
      obtain ⟨k, ad⟩ := r
      go_wp2_with fail
      refine (to1 k ad wr).mono ?_
      rintro e w2 ⟨rfl, b2⟩
      obtain ⟨⟨o1, h1⟩, ⟨o2, h2⟩, h3, h4, h5⟩ := HST2.out w2 b2
      have H5 := Lib.hid h5
      clear h5
      go_wp2
      go_roundw
      case rel => exact ⟨j + 1, by omega, by go_num, H5.out⟩
      case measure => simp [intOf]; omega
    · have e : j = n := by omega
      subst e
      obtain ⟨h1, h2⟩ := hr
      have h3 : OwnA wr w.heap.size (.slice (some ⟨w.heap.size, 0, none⟩) j j) xs := by
        unfold OwnA
        rw [HN.out]
        rw [HEND.out] at h1
        exact h1
      go_wp2
      go_ret
      exact ⟨_, rfl, h3, h2⟩
theorem drew_below {w w' : World} (h : Below w.drew.heap.size w.drew w') : Below w.heap.size w w' := (Below.refl _ w).drew.trans h
def BbA (b : Bool) (w : World) (e : Ending) (w' : World) : Prop := e = .returned (.bool b) ∧ Below w.heap.size w w'
set_option maxHeartbeats 1000000 in
theorem eq_any (a1 a2 : Option Addr) (c1 c2 : Nat) (xs : List (Int × Int)) (w : World) (hn : xs.length ≤ 1048576) (h1 : RowA w a1 xs) (h2 : RowA w a2 xs) :
    Calls Try.prog 16 #[.slice a1 xs.length c1, .slice a2 xs.length c2] w (BbA true w) := by
  have H1 := Lib.hid h1
  have H2 := Lib.hid h2
  clear h1 h2
  unfold RowA at H1 H2
  generalize hN : xs.length = N at *
  clear hN
  go_enter Try.func16, Try.ntmps16
  go_wp2
  go_loopw [5] (fun i wr => ∃ k : Nat, k ≤ N ∧ i = .int .i64 k ∧ Hid (Below w.heap.size w wr)) (fun i _ => N - (intOf i).toNat)
  case atStart => exact ⟨0, Nat.zero_le _, rfl, Below.refl _ _⟩
  case round =>
    obtain ⟨k, hk, rfl, hb⟩ := hrel
    by_cases hlt : k < N
    · obtain ⟨p1, off1, rfl, g1, g1', l1⟩ := H1.out k hlt
      obtain ⟨p2, off2, rfl, g2, g2', l2⟩ := H2.out k hlt
      have q1 := (hb.out.cell (p := ⟨p1, off1 + k * 2, none⟩) l1).trans g1
      have q1' := (hb.out.cell (p := ⟨p1, off1 + k * 2 + 1, none⟩) l1).trans g1'
      have q2 := (hb.out.cell (p := ⟨p2, off2 + k * 2, none⟩) l2).trans g2
      have q2' := (hb.out.cell (p := ⟨p2, off2 + k * 2 + 1, none⟩) l2).trans g2'
      have m1 : p1 < wr.heap.size := Nat.lt_of_lt_of_le l1 hb.out.size
      have m2 : p2 < wr.heap.size := Nat.lt_of_lt_of_le l2 hb.out.size
      clear g1 g1' g2 g2'
      generalize xs.getD k (0, 0) = r at *
      obtain ⟨x, y⟩ := r
      have HE := Lib.hid (fun w => eq1 x y w)
      have HK := Lib.hid (fun (w' : World) (bb : Below wr.heap.size wr w') => (show w'.cell? ⟨p1, off1 + k * 2, none⟩ = some (.int .i64 x) ∧ w'.cell? ⟨p1, off1 + k * 2 + 1, none⟩ = some (.int .i64 y) ∧ w'.cell? ⟨p2, off2 + k * 2, none⟩ = some (.int .i64 x) ∧ w'.cell? ⟨p2, off2 + k * 2 + 1, none⟩ = some (.int .i64 y) from
        ⟨(bb.cell (p := ⟨p1, off1 + k * 2, none⟩) m1).trans q1, (bb.cell (p := ⟨p1, off1 + k * 2 + 1, none⟩) m1).trans q1', (bb.cell (p := ⟨p2, off2 + k * 2, none⟩) m2).trans q2, (bb.cell (p := ⟨p2, off2 + k * 2 + 1, none⟩) m2).trans q2'⟩))
      have HB := Lib.hid (fun (w' : World) (bb : Below wr.heap.size wr w') => hb.out.trans (bb.mono hb.out.size))
      go_wp2
      go_region_held3 (fun w' => w'.cell? ⟨p1, off1 + k * 2, none⟩ = some (.int .i64 x) ∧ w'.cell? ⟨p1, off1 + k * 2 + 1, none⟩ = some (.int .i64 y) ∧ w'.cell? ⟨p2, off2 + k * 2, none⟩ = some (.int .i64 x) ∧ w'.cell? ⟨p2, off2 + k * 2 + 1, none⟩ = some (.int .i64 y)) (first | exact ⟨q1, q1', q2, q2'⟩ | exact HK.out _ (drew_below bb)) (first | (go_at_call 28; (with_reducible refine (HE.out _).mono ?_); rintro e w1 ⟨rfl, bb⟩))
      go_wp2
      go_roundw
      case rel => exact ⟨k + 1, by omega, by go_num, HB.out _ (drew_below bb)⟩
      case measure => simp [intOf]; omega
    · go_wp2
      go_ret
      exact ⟨rfl, hb.out⟩
end Go.Proofs.Ytakjkbjooongkaa.Ac
