/- Benches by value: their size, copy and comparison; both ValidBench. -/
import Derived.Test.YtakjkbjooongkaaCvp
import Derived.Test.YtakjkbjooongkaaCvt
import Derived.Test.YtakjkbjooongkaaCata
namespace Go.Proofs.Ytakjkbjooongkaa.Be
open Go.RowKit Pv
theorem ownA_keepB {w w' : World} {B : Nat} {v : Value} {rs : List (Int × Int)} (h : Ac.OwnA w B v rs) (hk : ∀ b, B ≤ b → b < w.heap.size → w'.heap[b]? = w.heap[b]?) : Ac.OwnA w' B v rs := by
  refine ⟨h.1, ?_⟩
  rcases h.2 with hn | ⟨g, cap, cur, hv, hg, hh, r⟩
  · exact .inl hn
  · exact .inr ⟨g, cap, cur, hv, hg, (hk g hg (Array.getElem?_eq_some_iff.1 hh).1).trans hh, r⟩
theorem ownA_mono {w : World} {B B' : Nat} {v : Value} {rs : List (Int × Int)} (h : Ac.OwnA w B v rs) (hB : B' ≤ B) : Ac.OwnA w B' v rs := by
  refine ⟨h.1, ?_⟩
  rcases h.2 with hn | ⟨g, cap, cur, hv, hg, hh, r⟩
  · exact .inl hn
  · exact .inr ⟨g, cap, cur, hv, by omega, hh, r⟩
/-- A bench of the call's own. -/
def OwnE (w : World) (B : Nat) (v : Value) (xs : List (Int × Int)) (hs : List (List Int)) (ms : List Int) : Prop :=
  ∃ t h m C T, v = .agg #[t, h, m] ∧ Ac.OwnA w B t xs ∧ OwnP w C T (.agg #[h, m]) hs ms ∧ B ≤ C
theorem OwnE.below {w w' : World} {B C : Nat} {v : Value} {xs : List (Int × Int)} {hs : List (List Int)} {ms : List Int} (h : OwnE w B v xs hs ms) (hb : Below C w w') (hC : w.heap.size ≤ C) : OwnE w' B v xs hs ms := by
  obtain ⟨t, hh, m, D, T, e, h1, h2, h3⟩ := h
  exact ⟨t, hh, m, D, T, e, h1.below hb hC, h2.below hb hC, h3⟩
theorem OwnE.form {w : World} {B : Nat} {v : Value} {xs : List (Int × Int)} {hs : List (List Int)} {ms : List Int} (h : OwnE w B v xs hs ms) :
    ∃ a c a2 n2 c2 a3 n3 c3, v = .agg #[.slice a xs.length c, .slice a2 n2 c2, .slice a3 n3 c3] := by
  obtain ⟨t, hh, m, D, T, e, h1, h2, h3⟩ := h
  obtain ⟨a, c, rfl, _⟩ := h1.row
  obtain ⟨a2, n2, c2, a3, n3, c3, e2⟩ := h2.form
  injection e2 with e2
  injection e2 with e2
  injection e2 with e3 e4
  injection e4 with e4 _
  subst e3 e4
  exact ⟨a, c, a2, n2, c2, a3, n3, c3, e⟩
/-- A bench that is read. -/
def RdE (w : World) (v : Value) (xs : List (Int × Int)) (hs : List (List Int)) (ms : List Int) : Prop :=
  ∃ a c h m, v = .agg #[.slice a xs.length c, h, m] ∧ Ac.RowA w a xs ∧ RdP w (.agg #[h, m]) hs ms
theorem OwnE.rd {w : World} {B : Nat} {v : Value} {xs : List (Int × Int)} {hs : List (List Int)} {ms : List Int} (h : OwnE w B v xs hs ms) (hl : hs.length ≤ 1048576) (hx : ∀ i, i < hs.length → (hs.getD i []).length ≤ 1048576) (hm : ms.length ≤ 1048576) : RdE w v xs hs ms := by
  obtain ⟨t, hh, m, D, T, e, h1, h2, h3⟩ := h
  obtain ⟨a, c, rfl, hr⟩ := h1.row
  exact ⟨a, c, hh, m, e, hr, RdP.of h2 hl hx hm⟩
def NbE (n : Int) (w : World) (e : Ending) (w' : World) : Prop := e = .returned (.int .i64 n) ∧ Below w.heap.size w w'
theorem szPg_yes (a a' : Option Addr) (c c' len' : Nat) (hs : List (List Int)) (left : Int) (w : World) (hm : IsMatL w a hs) (hl : left ≤ 1048576) (h : (hs.length : Int) + ((lens hs).sum : Nat) + len' ≤ left) :
    Calls Try.prog 10 #[.agg #[.slice a hs.length c, .slice a' len' c'], .int .i64 left] w (NbE (left - hs.length - ((lens hs).sum : Nat) - len') w) := by
  have b0 := (Below.refl w.heap.size w).alloc (Nat.le_refl _) (.cells #[.slice a hs.length c, .slice a' len' c'] 26)
  have H1 := Lib.hid (szM_yes a c hs left _ (hm.below b0) hl (by omega))
  have H2 := Lib.hid (szI_yes a' len' c' (left - hs.length - ((lens hs).sum : Nat)) (w.alloc (.cells #[.slice a hs.length c, .slice a' len' c'] 26)) (by omega) (by omega))
  have n1 : ¬ (left - (hs.length : Int) - ((lens hs).sum : Nat)) < 0 := by omega
  have n2 : ¬ (left - (hs.length : Int) - ((lens hs).sum : Nat) - (len' : Int)) < 0 := by omega
  clear hm h
  generalize (lens hs).sum = T at *
  generalize hs.length = N at *
  go_enter Try.func10, Try.ntmps10
  go_wp2_with fail
  refine H1.out.mono ?_; rintro e w' ⟨rfl, rfl⟩
  go_wp2_with fail
  refine H2.out.mono ?_; rintro e w' ⟨rfl, rfl⟩
  go_wp2
  go_ret
  exact ⟨rfl, b0⟩
theorem szPg_no (a a' : Option Addr) (c c' len' : Nat) (hs : List (List Int)) (left : Int) (w : World) (hm : IsMatL w a hs) (hl0 : 0 ≤ left) (hl : left ≤ 1048576) (hm' : len' ≤ 9223372036854775807) (h : ¬ (hs.length : Int) + ((lens hs).sum : Nat) + len' ≤ left) :
    Calls Try.prog 10 #[.agg #[.slice a hs.length c, .slice a' len' c'], .int .i64 left] w (NbE (-1) w) := by
  have b0 := (Below.refl w.heap.size w).alloc (Nat.le_refl _) (.cells #[.slice a hs.length c, .slice a' len' c'] 26)
  by_cases h1 : (hs.length : Int) + ((lens hs).sum : Nat) ≤ left
  · have H1 := Lib.hid (szM_yes a c hs left _ (hm.below b0) hl h1)
    have H2 := Lib.hid (szI_no a' len' c' (left - hs.length - ((lens hs).sum : Nat)) (w.alloc (.cells #[.slice a hs.length c, .slice a' len' c'] 26)) (by omega) (by omega) (by omega) hm')
    have n1 : ¬ (left - (hs.length : Int) - ((lens hs).sum : Nat)) < 0 := by omega
    clear hm h h1
    generalize (lens hs).sum = T at *
    generalize hs.length = N at *
    go_enter Try.func10, Try.ntmps10
    go_wp2_with fail
    refine H1.out.mono ?_; rintro e w' ⟨rfl, rfl⟩
    go_wp2_with fail
    refine H2.out.mono ?_; rintro e w' ⟨rfl, rfl⟩
    go_wp2
    go_ret
    exact ⟨rfl, b0⟩
  · have H1 := Lib.hid (szM_no a c hs left _ (hm.below b0) hl0 hl (by omega))
    clear hm h h1
    generalize hs.length = N at *
    go_enter Try.func10, Try.ntmps10
    go_wp2_with fail
    refine H1.out.mono ?_; rintro e w' ⟨rfl, rfl⟩
    go_wp2
    go_ret
    exact ⟨rfl, b0⟩
theorem szB_yes (at_ a a' : Option Addr) (ct c c' len' L : Nat) (hs : List (List Int)) (w : World) (hm : IsMatL w a hs) (h : L + hs.length + (lens hs).sum + len' ≤ 1048576) :
    Calls Try.prog 4 #[.agg #[.slice at_ L ct, .slice a hs.length c, .slice a' len' c'], .int .i64 1048576] w (fun e w' => ∃ n : Int, 0 ≤ n ∧ e = .returned (.int .i64 n) ∧ Below w.heap.size w w') := by
  have b0 := (Below.refl w.heap.size w).alloc (Nat.le_refl _) (.cells #[.slice at_ L ct, .slice a hs.length c, .slice a' len' c'] 28)
  have H1 := Lib.hid (fun w9 => Ac.sz_any at_ L ct 1048576 w9 (by omega) (Nat.le_refl _))
  have H2 := Lib.hid (szPg_yes a a' c c' len' hs ((1048576 : Int) - (L : Int)) _ (hm.below b0) (by omega) (by omega))
  have n1 : ¬ ((1048576 : Int) - (L : Int)) < 0 := by omega
  have n2 : ¬ ((1048576 : Int) - (L : Int) - (hs.length : Int) - ((lens hs).sum : Nat) - (len' : Int)) < 0 := by omega
  have n3 : 0 ≤ ((1048576 : Int) - (L : Int) - (hs.length : Int) - ((lens hs).sum : Nat) - (len' : Int)) := by omega
  clear hm h
  generalize (lens hs).sum = T at *
  generalize hs.length = N at *
  go_enter Try.func4, Try.ntmps4
  go_wp2_with fail
  refine (H1.out _).mono ?_; rintro e w' ⟨rfl, rfl⟩
  go_wp2_with fail
  refine H2.out.mono ?_; rintro e w1 ⟨rfl, b1⟩
  have B1 := bt b0 b1
  clear b1 b0
  go_wp2
  go_ret
  exact ⟨_, n3, rfl, B1⟩
theorem szB_no (at_ a a' : Option Addr) (ct c c' len' L : Nat) (hs : List (List Int)) (w : World) (hm : IsMatL w a hs) (hL : L ≤ 9223372036854775807) (hm' : len' ≤ 9223372036854775807) (h : ¬ L + hs.length + (lens hs).sum + len' ≤ 1048576) :
    Calls Try.prog 4 #[.agg #[.slice at_ L ct, .slice a hs.length c, .slice a' len' c'], .int .i64 1048576] w (NbE (-1) w) := by
  have b0 := (Below.refl w.heap.size w).alloc (Nat.le_refl _) (.cells #[.slice at_ L ct, .slice a hs.length c, .slice a' len' c'] 28)
  by_cases h1 : L ≤ 1048576
  · have H1 := Lib.hid (fun w9 => Ac.sz_any at_ L ct 1048576 w9 h1 (Nat.le_refl _))
    have H2 := Lib.hid (szPg_no a a' c c' len' hs ((1048576 : Int) - (L : Int)) _ (hm.below b0) (by omega) (by omega) hm' (by omega))
    have n1 : ¬ ((1048576 : Int) - (L : Int)) < 0 := by omega
    clear hm h h1
    generalize hs.length = N at *
    go_enter Try.func4, Try.ntmps4
    go_wp2_with fail
    refine (H1.out _).mono ?_; rintro e w' ⟨rfl, rfl⟩
    go_wp2_with fail
    refine H2.out.mono ?_; rintro e w1 ⟨rfl, b1⟩
    have B1 := bt b0 b1
    clear b1 b0
    go_wp2
    go_ret
    exact ⟨rfl, B1⟩
  · have H1 := Lib.hid (fun w9 => Ac.sz_long at_ L ct 1048576 w9 (by omega) (Nat.le_refl _) hL)
    clear hm h h1
    generalize hs.length = N at *
    go_enter Try.func4, Try.ntmps4
    go_wp2_with fail
    refine (H1.out _).mono ?_; rintro e w' ⟨rfl, rfl⟩
    go_wp2
    go_ret
    exact ⟨rfl, b0⟩
theorem Wr.set (B T : Nat) (w : World) (b o : Nat) (v : Value) (h : B ≤ b ∧ b < T) : Wr B T w (w.setCell ⟨b, o, none⟩ v) :=
  ⟨rfl, rfl, rfl, by simp, fun i _ hi => Go.heap_setCell_other w ⟨b, o, none⟩ i v (fun e => by simp at e; omega)⟩
def CopE (xs : List (Int × Int)) (hs : List (List Int)) (ms : List Int) (w : World) (e : Ending) (w' : World) : Prop := ∃ u, e = .returned u ∧ OwnE w' w.heap.size u xs hs ms ∧ Below w.heap.size w w'
set_option maxHeartbeats 4000000 in
theorem toB_any (at_ a a' : Option Addr) (ct c c' len' : Nat) (xs : List (Int × Int)) (hs : List (List Int)) (zs : List Int) (w : World) (hx : Ac.RowA w at_ xs) (hm : IsMatL w a hs) (hr : IsRow .i64 w a' len' c' zs) (h : xs.length + hs.length + (lens hs).sum + len' ≤ 1048576) :
    Calls Try.prog 6 #[.agg #[.slice at_ xs.length ct, .slice a hs.length c, .slice a' len' c']] w (CopE xs hs (zs.take len') w) := by
  have HA := Lib.hid (fun (w' : World) (hb : Below w.heap.size w w') => Ac.to_any at_ ct xs w' (hx.below hb) (by omega))
  have HP := Lib.hid (fun (w' : World) (hb : Below w.heap.size w w') => toP_any a a' c c' len' hs zs w' (hm.below hb) (isRow_below hr hb) (by omega))
  clear hx hm hr h
  generalize zs.take len' = ms at *
  generalize hN : hs.length = N at *
  generalize hL : xs.length = L at *
  have hLL := Lib.hid hL
  clear hN hL
  go_enter Try.func6, Try.ntmps6
  go_wp2_with fail
  have b0 : Below w.heap.size w (((w.alloc (.cells #[.slice at_ L ct, .slice a N c, .slice a' len' c'] 28)).alloc (.cells #[.slice none 0 0, .slice none 0 0, .slice none 0 0] 34)).alloc (.cells #[.slice none 0 0, .slice none 0 0, .slice none 0 0] 34)) :=
    (((Below.refl _ w).alloc (Nat.le_refl _) _).alloc (by simp) _).alloc (by simp; omega) _
  have BZ : Blk (((w.alloc (.cells #[.slice at_ L ct, .slice a N c, .slice a' len' c'] 28)).alloc (.cells #[.slice none 0 0, .slice none 0 0, .slice none 0 0] 34)).alloc (.cells #[.slice none 0 0, .slice none 0 0, .slice none 0 0] 34)) w.heap.size [.slice at_ L ct, .slice a N c, .slice a' len' c'] 28 := Blk.alloc (Blk.alloc (Blk.newAt w _ _ _ rfl) _) _
  have BZ1 : Blk (((w.alloc (.cells #[.slice at_ L ct, .slice a N c, .slice a' len' c'] 28)).alloc (.cells #[.slice none 0 0, .slice none 0 0, .slice none 0 0] 34)).alloc (.cells #[.slice none 0 0, .slice none 0 0, .slice none 0 0] 34)) (w.heap.size + 1) [.slice none 0 0, .slice none 0 0, .slice none 0 0] 34 := Blk.alloc (Blk.newAt _ _ _ _ (by simp)) _
  have BZ2 : Blk (((w.alloc (.cells #[.slice at_ L ct, .slice a N c, .slice a' len' c'] 28)).alloc (.cells #[.slice none 0 0, .slice none 0 0, .slice none 0 0] 34)).alloc (.cells #[.slice none 0 0, .slice none 0 0, .slice none 0 0] 34)) (w.heap.size + 1 + 1) [.slice none 0 0, .slice none 0 0, .slice none 0 0] 34 := Blk.newAt _ _ _ _ (by simp)
  have hz0 : (((w.alloc (.cells #[.slice at_ L ct, .slice a N c, .slice a' len' c'] 28)).alloc (.cells #[.slice none 0 0, .slice none 0 0, .slice none 0 0] 34)).alloc (.cells #[.slice none 0 0, .slice none 0 0, .slice none 0 0] 34)).heap.size = w.heap.size + 3 := by simp
  generalize (((w.alloc (.cells #[.slice at_ L ct, .slice a N c, .slice a' len' c'] 28)).alloc (.cells #[.slice none 0 0, .slice none 0 0, .slice none 0 0] 34)).alloc (.cells #[.slice none 0 0, .slice none 0 0, .slice none 0 0] 34)) = W0 at *
  refine (HA.out W0 b0).mono ?_; rintro e w1 ⟨v1, rfl, o1, b1⟩
  obtain ⟨A1, C1, e1, _⟩ := o1.row
  rw [hLL.out] at e1
  subst e1
  have kz := BZ.below b1 (by omega)
  have kz1 := BZ1.below b1 (by omega)
  have kz2 := BZ2.below b1 (by omega)
  have B1 := bt b0 b1
  have s1 := b1.size
  clear b1 b0 BZ BZ1 BZ2
  have q0 : w1.cell? ⟨w.heap.size + 1 + 1, 0, none⟩ = some (.slice none 0 0) := kz2.cell 0
  have f0 := kz2.froz 0
  have p1 : w1.cell? ⟨w.heap.size, 1, none⟩ = some (.slice a N c) := kz.cell 1
  have p2 : w1.cell? ⟨w.heap.size, 2, none⟩ = some (.slice a' len' c') := kz.cell 2
  go_wp2_with fail
  have kS : Keep (w.heap.size + 1 + 1) w1 (w1.setCell ⟨w.heap.size + 1 + 1, 0, none⟩ (.slice A1 L C1)) := keep_set (w.heap.size + 1 + 1) [.slice A1 L C1] 0 w1
  have bS : Blk (w1.setCell ⟨w.heap.size + 1 + 1, 0, none⟩ (.slice A1 L C1)) (w.heap.size + 1 + 1) [.slice A1 L C1, .slice none 0 0, .slice none 0 0] 34 := blk_set (w.heap.size + 1 + 1) _ [.slice A1 L C1] 0 _ w1 kz2 (by simp)
  have bS1 := kS.blk kz1 (by omega)
  have wS : Wr (w.heap.size + 1) (w.heap.size + 3) w1 (w1.setCell ⟨w.heap.size + 1 + 1, 0, none⟩ (.slice A1 L C1)) := Wr.set _ _ w1 _ 0 _ (by omega)
  generalize w1.setCell ⟨w.heap.size + 1 + 1, 0, none⟩ (.slice A1 L C1) = S1 at *
  rw [hz0] at o1
  have oS : Ac.OwnA S1 (w.heap.size + 3) (.slice A1 L C1) xs := ownA_keepB o1 fun b hb hlt => wS.block b hlt (.inr hb)
  have BS : Below w.heap.size w S1 := B1.trans (kS.below (by omega))
  have sS := kS.size
  clear o1 kz kz1 kz2 q0 f0 p1 p2 kS wS B1
  refine (HP.out S1 BS).mono ?_; rintro e w2 ⟨u, rfl, ou, b2⟩
  obtain ⟨A2, n2, C2, A3, n3, C3, eu⟩ := ou.form
  subst eu
  have oA := oS.below b2 (Nat.le_refl _)
  have r0' := bS.below b2 bS.lt
  have r1' := bS1.below b2 bS1.lt
  have B2 := bt BS b2
  have s2 := b2.size
  have c0 : w2.cell? ⟨w.heap.size + 1 + 1, 0, none⟩ = some (.slice A1 L C1) := r0'.cell 0
  have c1 : w2.cell? ⟨w.heap.size + 1 + 1, 1, none⟩ = some (.slice none 0 0) := r0'.cell 1
  have c2 : w2.cell? ⟨w.heap.size + 1 + 1, 2, none⟩ = some (.slice none 0 0) := r0'.cell 2
  have f1 := r0'.froz 1
  have f2 := r0'.froz 2
  have z0 : w2.cell? ⟨w.heap.size + 1, 0, none⟩ = some (.slice none 0 0) := r1'.cell 0
  have z1 : w2.cell? ⟨w.heap.size + 1, 1, none⟩ = some (.slice none 0 0) := r1'.cell 1
  have z2 : w2.cell? ⟨w.heap.size + 1, 2, none⟩ = some (.slice none 0 0) := r1'.cell 2
  have g0 := r1'.froz 0
  have g1 := r1'.froz 1
  have g2 := r1'.froz 2
  have HO := Lib.hid (And.intro oA ou)
  have HWr := Lib.hid (fun (w3 : World) (v3 v4 v5 v6 v7 : Value) (e : w3 = ((((w2.setCell ⟨w.heap.size + 1 + 1, 1, none⟩ v3).setCell ⟨w.heap.size + 1 + 1, 2, none⟩ v4).setCell ⟨w.heap.size + 1, 0, none⟩ v5).setCell ⟨w.heap.size + 1, 1, none⟩ v6).setCell ⟨w.heap.size + 1, 2, none⟩ v7) => (show Wr (w.heap.size + 1) (w.heap.size + 3) w2 w3 ∧ w3.heap.size = w2.heap.size from by
    subst e
    exact ⟨((((Wr.set _ _ w2 _ 1 v3 (by omega)).trans (Wr.set _ _ _ _ 2 v4 (by omega))).trans (Wr.set _ _ _ _ 0 v5 (by omega))).trans (Wr.set _ _ _ _ 1 v6 (by omega))).trans (Wr.set _ _ _ _ 2 v7 (by omega)), by simp⟩))
  have HB := Lib.hid B2
  clear oS oA ou b2 r0' r1' bS bS1 B2 BS
  go_wp2
  refine bodyPost_ret (v := .agg #[.slice A1 L C1, .slice A2 n2 C2, .slice A3 n3 C3]) (by simp [results, Try.results6, go_sem, c0, c1, c2, z0, z1, z2, f1, f2, g0, g1, g2]) rfl ?_
  obtain ⟨hw, hsz⟩ := HWr.out _ _ _ _ _ _ rfl
  obtain ⟨oA, ou⟩ := HO.out
  refine ⟨_, rfl, ⟨_, _, _, _, _, rfl, ?_, ou.wr hw (.inr (by omega)), ?_⟩, hw.belowT HB.out (by omega) (by omega)⟩
  · exact ownA_mono (ownA_keepB oA fun b hb hlt => hw.block b hlt (.inr hb)) (by omega)
  · omega
theorem eqB_own {w : World} {B1 B2 : Nat} {v1 v2 : Value} {xs : List (Int × Int)} {hs : List (List Int)} {ms : List Int} (o1 : OwnE w B1 v1 xs hs ms) (o2 : OwnE w B2 v2 xs hs ms) (hn : xs.length ≤ 1048576) :
    Calls Try.prog 8 #[v1, v2] w (BbP true w) := by
  obtain ⟨t1, h1, m1, C1, T1, rfl, a1, p1, _⟩ := o1
  obtain ⟨t2, h2, m2, C2, T2, rfl, a2, p2, _⟩ := o2
  obtain ⟨ad1, c1, rfl, r1⟩ := a1.row
  obtain ⟨ad2, c2, rfl, r2⟩ := a2.row
  obtain ⟨g1, n1, k1, g1', n1', k1', e1⟩ := p1.form
  obtain ⟨g2, n2, k2, g2', n2', k2', e2⟩ := p2.form
  injection e1 with e1; injection e1 with e1; injection e1 with e3 e4; injection e4 with e4 _
  subst e3 e4
  injection e2 with e2; injection e2 with e2; injection e2 with e3 e4; injection e4 with e4 _
  subst e3 e4
  have b0 : Below w.heap.size w ((w.alloc (.cells #[.slice ad1 xs.length c1, .slice g1 n1 k1, .slice g1' n1' k1'] 34)).alloc (.cells #[.slice ad2 xs.length c2, .slice g2 n2 k2, .slice g2' n2' k2'] 34)) := ((Below.refl _ _).alloc (Nat.le_refl _) _).alloc (by simp) _
  have Z1 : Blk ((w.alloc (.cells #[.slice ad1 xs.length c1, .slice g1 n1 k1, .slice g1' n1' k1'] 34)).alloc (.cells #[.slice ad2 xs.length c2, .slice g2 n2 k2, .slice g2' n2' k2'] 34)) w.heap.size [.slice ad1 xs.length c1, .slice g1 n1 k1, .slice g1' n1' k1'] 34 := Blk.alloc (Blk.newAt w _ _ _ rfl) _
  have Z2 : Blk ((w.alloc (.cells #[.slice ad1 xs.length c1, .slice g1 n1 k1, .slice g1' n1' k1'] 34)).alloc (.cells #[.slice ad2 xs.length c2, .slice g2 n2 k2, .slice g2' n2' k2'] 34)) (w.heap.size + 1) [.slice ad2 xs.length c2, .slice g2 n2 k2, .slice g2' n2' k2'] 34 := Blk.newAt _ _ _ _ (by simp)
  have HE := Lib.hid (Ac.eq_any ad1 ad2 c1 c2 xs _ hn (r1.below b0) (r2.below b0))
  have HP := Lib.hid (fun (w' : World) (hb : Below w.heap.size w w') => eqP_own (p1.below hb (Nat.le_refl _)) (p2.below hb (Nat.le_refl _)))
  clear a1 a2 p1 p2 r1 r2
  generalize xs.length = L at *
  have HW : ∃ W, W = ((w.alloc (.cells #[.slice ad1 L c1, .slice g1 n1 k1, .slice g1' n1' k1'] 34)).alloc (.cells #[.slice ad2 L c2, .slice g2 n2 k2, .slice g2' n2' k2'] 34)) := ⟨_, rfl⟩
  obtain ⟨W, hW⟩ := HW
  rw [← hW] at b0 Z1 Z2 HE
  have HWW := Lib.hid hW
  clear hW
  go_enter Try.func8, Try.ntmps8
  go_wp2_with fail
  rw [← HWW.out]
  clear HWW
  refine HE.out.mono ?_; rintro e w1 ⟨rfl, b1⟩
  have B1 := bt b0 b1
  have y1 := Z1.below b1 Z1.lt
  have y2 := Z2.below b1 Z2.lt
  have x1 : w1.cell? ⟨w.heap.size, 1, none⟩ = some (.slice g1 n1 k1) := y1.cell 1
  have x2 : w1.cell? ⟨w.heap.size, 2, none⟩ = some (.slice g1' n1' k1') := y1.cell 2
  have x3 : w1.cell? ⟨w.heap.size + 1, 1, none⟩ = some (.slice g2 n2 k2) := y2.cell 1
  have x4 : w1.cell? ⟨w.heap.size + 1, 2, none⟩ = some (.slice g2' n2' k2') := y2.cell 2
  clear y1 y2 Z1 Z2 b1 b0
  go_wp2_with fail
  refine (HP.out w1 B1).mono ?_; rintro e w2 ⟨rfl, b2⟩
  have B2 := bt B1 b2
  clear b2
  go_wp2
  go_ret
  exact ⟨rfl, B2⟩
/-- Whether a bench is valid. -/
def okE (xs : List (Int × Int)) (hs : List (List Int)) (ms : List Int) : Bool := Ac.okT xs && isP hs ms
end Go.Proofs.Ytakjkbjooongkaa.Be
