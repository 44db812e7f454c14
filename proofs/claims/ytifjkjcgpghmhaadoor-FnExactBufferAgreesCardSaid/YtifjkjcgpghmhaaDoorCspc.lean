/- Spaces by value: their size, copies, comparison. -/
import Derived.Test.YtifjkjcgpghmhaaDoorCtab
import Derived.Test.YtifjkjcgpghmhaaDoorCchd
import Derived.Test.YtifjkjcgpghmhaaDoorCto
import Derived.Test.YtifjkjcgpghmhaaDoorCblk
import Derived.Test.YtifjkjcgpghmhaaDoorCrd
namespace Go.Proofs.YtifjkjcgpghmhaaDoor.Sp
open Go.RowKit
abbrev RE := En.R
abbrev RC := Ch.R
def NbI (n : Int) (w : World) (e : Ending) (w' : World) : Prop := e = .returned (.int .i64 n) ∧ Below w.heap.size w w'
theorem szI_yes (a : Option Addr) (len cap : Nat) (left : Int) (w : World) (h : (len : Int) ≤ left) (hl : left ≤ 1048576) :
    Calls Tryd.prog 26 #[.slice a len cap, .int .i64 left] w (Count (left - (len : Int)) w) := by
  have h1 : ¬ (left - (len : Int)) < 0 := by omega
  go_enter Tryd.func26, Tryd.ntmps26
  go_wp2
  go_ret
  exact ⟨rfl, rfl⟩
theorem szI_no (a : Option Addr) (len cap : Nat) (left : Int) (w : World) (h0 : 0 ≤ left) (h : left < (len : Int)) (hl : left ≤ 1048576) (hm : len ≤ 9223372036854775807) :
    Calls Tryd.prog 26 #[.slice a len cap, .int .i64 left] w (Count (-1) w) := by
  have h1 : (left - (len : Int)) < 0 := by omega
  go_enter Tryd.func26, Tryd.ntmps26
  go_wp2
  go_ret
  exact ⟨rfl, rfl⟩
abbrev agg3 (a1 : Option Addr) (n1 c1 : Nat) (a2 : Option Addr) (n2 c2 : Nat) (a3 : Option Addr) (n3 c3 : Nat) : Value := .agg #[.slice a1 n1 c1, .slice a2 n2 c2, .slice a3 n3 c3]
def tot (n1 : Nat) (tss : List (List RE)) (n3 : Nat) : Nat := n1 + tss.length + (En.lensT tss).sum + n3
theorem szS_yes (a1 a2 a3 : Option Addr) (n1 c1 c2 n3 c3 : Nat) (tss : List (List RE)) (w : World) (hm : En.RdT w a2 tss) (h : tot n1 tss n3 ≤ 1048576) :
    Calls Tryd.prog 8 #[.agg #[.slice a1 n1 c1, .slice a2 tss.length c2, .slice a3 n3 c3], .int .i64 1048576] w (NbI (1048576 - (tot n1 tss n3 : Nat)) w) := by
  unfold tot at h
  have b0 := (Below.refl w.heap.size w).alloc (Nat.le_refl _) (.cells #[.slice a1 n1 c1, .slice a2 tss.length c2, .slice a3 n3 c3] 26)
  have H1 := Lib.hid (szI_yes a1 n1 c1 1048576 (w.alloc (.cells #[.slice a1 n1 c1, .slice a2 tss.length c2, .slice a3 n3 c3] 26)) (by omega) (by omega))
  have H2 := Lib.hid (En.szT_yes a2 c2 tss (1048576 - (n1 : Int)) _ (hm.below b0) (by omega) (by omega))
  have H3 := Lib.hid (Ch.sz_yes a3 n3 c3 (1048576 - (n1 : Int) - tss.length - ((En.lensT tss).sum : Nat)) (w.alloc (.cells #[.slice a1 n1 c1, .slice a2 tss.length c2, .slice a3 n3 c3] 26)) (by omega) (by omega))
  have n1' : ¬ ((1048576 : Int) - (n1 : Int)) < 0 := by omega
  have n2' : ¬ ((1048576 : Int) - (n1 : Int) - (tss.length : Int) - ((En.lensT tss).sum : Nat)) < 0 := by omega
  have n3' : ¬ ((1048576 : Int) - (n1 : Int) - (tss.length : Int) - ((En.lensT tss).sum : Nat) - (n3 : Int)) < 0 := by omega
  have HT : Hid ((1048576 : Int) - (n1 : Int) - (tss.length : Int) - ((En.lensT tss).sum : Nat) - (n3 : Int) = 1048576 - (tot n1 tss n3 : Nat)) := by show _ = _; unfold tot; omega
  clear hm h
  generalize 1048576 - ((tot n1 tss n3 : Nat) : Int) = Z at *
  generalize (En.lensT tss).sum = T at *
  generalize tss.length = N at *
  go_enter Tryd.func8, Tryd.ntmps8
  go_wp2_with fail
  refine H1.out.mono ?_; rintro e w' ⟨rfl, rfl⟩
  go_wp2_with fail
  refine H2.out.mono ?_; rintro e w' ⟨rfl, rfl⟩
  go_wp2_with fail
  refine H3.out.mono ?_; rintro e w' ⟨rfl, rfl⟩
  go_wp2
  go_ret
  exact ⟨ret_i64 HT.out, b0⟩
set_option maxHeartbeats 1000000 in
theorem szS_no (a1 a2 a3 : Option Addr) (n1 c1 c2 n3 c3 : Nat) (tss : List (List RE)) (w : World) (hm : En.RdT w a2 tss) (l1 : n1 ≤ 9223372036854775807) (l3 : n3 ≤ 9223372036854775807) (h : ¬ tot n1 tss n3 ≤ 1048576) :
    Calls Tryd.prog 8 #[.agg #[.slice a1 n1 c1, .slice a2 tss.length c2, .slice a3 n3 c3], .int .i64 1048576] w (NbI (-1) w) := by
  unfold tot at h
  have b0 := (Below.refl w.heap.size w).alloc (Nat.le_refl _) (.cells #[.slice a1 n1 c1, .slice a2 tss.length c2, .slice a3 n3 c3] 26)
  by_cases k1 : n1 ≤ 1048576
  · have H1 := Lib.hid (szI_yes a1 n1 c1 1048576 (w.alloc (.cells #[.slice a1 n1 c1, .slice a2 tss.length c2, .slice a3 n3 c3] 26)) (by omega) (by omega))
    have n1' : ¬ ((1048576 : Int) - (n1 : Int)) < 0 := by omega
    by_cases k2 : n1 + tss.length + (En.lensT tss).sum ≤ 1048576
    · have H2 := Lib.hid (En.szT_yes a2 c2 tss (1048576 - (n1 : Int)) _ (hm.below b0) (by omega) (by omega))
      have H3 := Lib.hid (Ch.sz_no a3 n3 c3 (1048576 - (n1 : Int) - tss.length - ((En.lensT tss).sum : Nat)) (w.alloc (.cells #[.slice a1 n1 c1, .slice a2 tss.length c2, .slice a3 n3 c3] 26)) (by omega) (by omega) (by omega) l3)
      have n2' : ¬ ((1048576 : Int) - (n1 : Int) - (tss.length : Int) - ((En.lensT tss).sum : Nat)) < 0 := by omega
      clear hm h k1 k2
      generalize (En.lensT tss).sum = T at *
      generalize tss.length = N at *
      go_enter Tryd.func8, Tryd.ntmps8
      go_wp2_with fail
      refine H1.out.mono ?_; rintro e w' ⟨rfl, rfl⟩
      go_wp2_with fail
      refine H2.out.mono ?_; rintro e w' ⟨rfl, rfl⟩
      go_wp2_with fail
      refine H3.out.mono ?_; rintro e w' ⟨rfl, rfl⟩
      go_wp2
      go_ret
      exact ⟨rfl, b0⟩
    · have H2 := Lib.hid (En.szT_no a2 c2 tss (1048576 - (n1 : Int)) _ (hm.below b0) (by omega) (by omega) (by omega))
      clear hm h k1 k2
      generalize tss.length = N at *
      go_enter Tryd.func8, Tryd.ntmps8
      go_wp2_with fail
      refine H1.out.mono ?_; rintro e w' ⟨rfl, rfl⟩
      go_wp2_with fail
      refine H2.out.mono ?_; rintro e w' ⟨rfl, rfl⟩
      go_wp2
      go_ret
      exact ⟨rfl, b0⟩
  · have H1 := Lib.hid (szI_no a1 n1 c1 1048576 (w.alloc (.cells #[.slice a1 n1 c1, .slice a2 tss.length c2, .slice a3 n3 c3] 26)) (by omega) (by omega) (by omega) l1)
    clear hm h k1
    generalize tss.length = N at *
    go_enter Tryd.func8, Tryd.ntmps8
    go_wp2_with fail
    refine H1.out.mono ?_; rintro e w' ⟨rfl, rfl⟩
    go_wp2
    go_ret
    exact ⟨rfl, b0⟩
/-- A space of the call's own. -/
def OwnS (w : World) (B : Nat) (v : Value) (root : List Int) (tss : List (List RE)) (buf : List RC) : Prop :=
  ∃ a1 c1 a2 c2 a3 c3 vs h1 h2, v = agg3 a1 root.length c1 a2 tss.length c2 a3 buf.length c3 ∧ B ≤ h1 ∧ h1 ≤ h2 ∧ h2 ≤ w.heap.size ∧ Own w B (.slice a1 root.length c1) root ∧ (∀ k, (Value.slice a1 root.length c1).ownBlock = some k → k < h1) ∧
    En.Own2E w h1 (.slice a2 tss.length c2) vs tss ∧ (∀ k, (Value.slice a2 tss.length c2).ownBlock = some k → k < h2) ∧ (∀ i k, i < tss.length → (vs.getD i s0).ownBlock = some k → k < h2) ∧ Ch.OwnR w h2 (.slice a3 buf.length c3) buf
theorem OwnS.below {w w' : World} {B C : Nat} {v : Value} {root : List Int} {tss : List (List RE)} {buf : List RC} (h : OwnS w B v root tss buf) (hb : Below C w w') (hC : w.heap.size ≤ C) : OwnS w' B v root tss buf := by
  obtain ⟨a1, c1, a2, c2, a3, c3, vs, h1, h2, e, l1, l2, l3, o1, k1, o2, k2, k3, o3⟩ := h
  exact ⟨a1, c1, a2, c2, a3, c3, vs, h1, h2, e, l1, l2, Nat.le_trans l3 hb.size, o1.below hb hC, k1, o2.below hb hC, k2, k3, o3.below hb hC⟩
/-- A space that is read, wherever it lies. -/
def RdS (w : World) (v : Value) (root : List Int) (tss : List (List RE)) (buf : List RC) : Prop :=
  ∃ a1 c1 a2 c2 a3 c3, v = agg3 a1 root.length c1 a2 tss.length c2 a3 buf.length c3 ∧ Rd w (.slice a1 root.length c1) root ∧ En.RdT w a2 tss ∧ Ch.RdR w a3 buf ∧ (buf.length ≤ c3 ∧ c3 ≤ 9223372036854775807)
theorem RdS.below {w w' : World} {v : Value} {root : List Int} {tss : List (List RE)} {buf : List RC} (h : RdS w v root tss buf) (hb : Below w.heap.size w w') : RdS w' v root tss buf := by
  obtain ⟨a1, c1, a2, c2, a3, c3, e, r1, r2, r3, l⟩ := h
  exact ⟨a1, c1, a2, c2, a3, c3, e, r1.below hb, r2.below hb, r3.below hb, l⟩
theorem Own2E.rdAt {w : World} {B n c : Nat} {a : Option Addr} {vs : List Value} {xss : List (List RE)} (h : En.Own2E w B (.slice a n c) vs xss) : En.RdT w a xss := by
  obtain ⟨a', c', e, hr⟩ := h.rd
  injection e with e1 e2 e3
  subst e1
  exact hr
theorem OwnR.rdAt {w : World} {B n c : Nat} {a : Option Addr} {xs : List RC} (h : Ch.OwnR w B (.slice a n c) xs) : Ch.RdR w a xs := by
  obtain ⟨a', c', e, hr⟩ := h.row
  injection e with e1 e2 e3
  subst e1
  exact hr
theorem OwnR.capAt {w : World} {B n c : Nat} {a : Option Addr} {xs : List RC} (h : Ch.OwnR w B (.slice a n c) xs) : xs.length ≤ c ∧ c ≤ 9223372036854775807 := by
  rcases h.2 with ⟨hv, hn⟩ | ⟨g, cap, cur, hv, _, _, h1, h2, _⟩
  · injection hv with _ _ e3; omega
  · injection hv with _ _ e3; unfold maxLen at h2; omega
theorem OwnS.rd {w : World} {B : Nat} {v : Value} {root : List Int} {tss : List (List RE)} {buf : List RC} (h : OwnS w B v root tss buf) : RdS w v root tss buf := by
  obtain ⟨a1, c1, a2, c2, a3, c3, vs, h1, h2, e, l1, l2, l3, o1, k1, o2, k2, k3, o3⟩ := h
  exact ⟨a1, c1, a2, c2, a3, c3, e, o1.rd, Own2E.rdAt o2, OwnR.rdAt o3, OwnR.capAt o3⟩
theorem Own.same {w w' : World} {B : Nat} {v : Value} {xs : List Int} (h : Own w B v xs) (hb : ∀ b, v.ownBlock = some b → b < w.heap.size → w'.heap[b]? = w.heap[b]?) : Own w' B v xs := by
  refine ⟨h.1, ?_⟩
  rcases h.2 with hn | ⟨g, cap, cur, rfl, hg, hh, r⟩
  · exact .inl hn
  · exact .inr ⟨g, cap, cur, rfl, hg, by rw [hb g rfl (Array.getElem?_eq_some_iff.1 hh).1]; exact hh, r⟩
theorem Own2E.same {w w' : World} {B : Nat} {v : Value} {vs : List Value} {xss : List (List RE)} (h : En.Own2E w B v vs xss) (hb : ∀ b, B ≤ b → b < w.heap.size → w'.heap[b]? = w.heap[b]?) : En.Own2E w' B v vs xss := by
  obtain ⟨hl, h0, h1, h2⟩ := h
  refine ⟨hl, ⟨h0.1, ?_⟩, fun i hi => En.OwnR.same (h1 i hi) fun b hk hlt => hb b ((En.OwnR.block (h1 i hi)) b hk).1 hlt, h2⟩
  rcases h0.2 with hn | ⟨g, cap, cur, hv, hg, hh, r⟩
  · exact .inl hn
  · exact .inr ⟨g, cap, cur, hv, hg, by rw [hb g hg (Array.getElem?_eq_some_iff.1 hh).1]; exact hh, r⟩
def CopS (root : List Int) (tss : List (List RE)) (buf : List RC) (w : World) (e : Ending) (w' : World) : Prop := ∃ v, e = .returned v ∧ OwnS w' w.heap.size v root tss buf ∧ Below w.heap.size w w'
theorem Own.bk {w : World} {B B' : Nat} {v : Value} {xs : List Int} (h : Own w B v xs) (hk : ∀ k, v.ownBlock = some k → B' ≤ k) : Own w B' v xs := by
  refine ⟨h.1, ?_⟩
  rcases h.2 with hn | ⟨g, cap, cur, hv, hg, r⟩
  · exact .inl hn
  · exact .inr ⟨g, cap, cur, hv, hk g (by rw [hv]; rfl), r⟩
theorem heap_set (w : World) (b o : Nat) (v : Value) (i : Nat) (h : i ≠ b) : (w.setCell ⟨b, o, none⟩ v).heap[i]? = w.heap[i]? := Go.heap_setCell_other w ⟨b, o, none⟩ i v (fun e => h (by simpa using e))
set_option maxHeartbeats 4000000 in
set_option maxRecDepth 100000 in
theorem toS_any (a1 a2 a3 : Option Addr) (n1 c1 c2 c3 : Nat) (zs : List Int) (tss : List (List RE)) (buf : List RC) (w : World) (h1 : IsRow .i64 w a1 n1 c1 zs) (h2 : En.RdT w a2 tss) (h3 : Ch.RdR w a3 buf) (h : tot n1 tss buf.length ≤ 1048576) :
    Calls Tryd.prog 10 #[.agg #[.slice a1 n1 c1, .slice a2 tss.length c2, .slice a3 buf.length c3]] w (CopS (zs.take n1) tss buf w) := by
  unfold tot at h
  have HR := Lib.hid (fun (w' : World) (hb : Below w.heap.size w w') => to_any a1 n1 c1 zs w' (isRow_below h1 hb) (by omega))
  have HT := Lib.hid (fun (w' : World) (hb : Below w.heap.size w w') => En.toT_any a2 c2 tss w' (h2.below hb) (by omega))
  have HB := Lib.hid (fun (w' : World) (hb : Below w.heap.size w w') => Ch.to_any a3 c3 buf w' (h3.below hb) (by omega))
  clear h1 h2 h3 h
  generalize zs.take n1 = root at *
  generalize hN : tss.length = N at *
  generalize hM : buf.length = M at *
  have HN := Lib.hid hN
  have HM := Lib.hid hM
  clear hN hM
  go_enter Tryd.func10, Tryd.ntmps10
  go_wp2_with fail
  obtain ⟨W0, hW0⟩ : ∃ W0, W0 = (((w.alloc (.cells #[.slice a1 n1 c1, .slice a2 N c2, .slice a3 M c3] 26)).alloc (.cells #[.slice none 0 0, .slice none 0 0, .slice none 0 0] 32)).alloc (.cells #[.slice none 0 0, .slice none 0 0, .slice none 0 0] 32)) := ⟨_, rfl⟩
  have b0 : Below w.heap.size w W0 := by rw [hW0]; exact (((Below.refl _ w).alloc (Nat.le_refl _) _).alloc (by simp) _).alloc (by simp; omega) _
  have BZ : Blk W0 w.heap.size [.slice a1 n1 c1, .slice a2 N c2, .slice a3 M c3] 26 := by rw [hW0]; exact Blk.alloc (Blk.alloc (Blk.newAt w _ _ _ rfl) _) _
  have BZ1 : Blk W0 (w.heap.size + 1) [.slice none 0 0, .slice none 0 0, .slice none 0 0] 32 := by rw [hW0]; exact Blk.alloc (Blk.newAt _ _ _ _ (by simp)) _
  have BZ2 : Blk W0 (w.heap.size + 1 + 1) [.slice none 0 0, .slice none 0 0, .slice none 0 0] 32 := by rw [hW0]; exact Blk.newAt _ _ _ _ (by simp)
  have hz0 : W0.heap.size = w.heap.size + 3 := by rw [hW0]; simp
  rw [← hW0]
  clear hW0
  refine (HR.out W0 b0).mono ?_; rintro e w1 ⟨v1, rfl, o1, b1⟩
  have O1b := Lib.hid o1.block
  have O1 := Lib.hid o1
  obtain ⟨A1, C1, e1⟩ := o1.form
  subst e1
  have kz := BZ.below b1 BZ.lt
  have kz1 := BZ1.below b1 BZ1.lt
  have kz2 := BZ2.below b1 BZ2.lt
  have B1 := Lib.hid (bt b0 b1)
  have s1 := b1.size
  clear o1 b1 b0 BZ BZ1 BZ2 HR
  have p1 : w1.cell? ⟨w.heap.size, 1, none⟩ = some (.slice a2 N c2) := kz.cell 1
  have q0 : w1.cell? ⟨w.heap.size + 1 + 1, 0, none⟩ = some (.slice none 0 0) := kz2.cell 0
  have f0 := kz2.froz 0
  go_wp2_with fail
  have kS : Keep (w.heap.size + 1 + 1) w1 (w1.setCell ⟨w.heap.size + 1 + 1, 0, none⟩ (.slice A1 root.length C1)) := keep_set (w.heap.size + 1 + 1) [.slice A1 root.length C1] 0 w1
  have bS : Blk (w1.setCell ⟨w.heap.size + 1 + 1, 0, none⟩ (.slice A1 root.length C1)) (w.heap.size + 1 + 1) [.slice A1 root.length C1, .slice none 0 0, .slice none 0 0] 32 := blk_set (w.heap.size + 1 + 1) _ [.slice A1 root.length C1] 0 _ w1 kz2 (by simp)
  have bS1 := kS.blk kz1 (by omega)
  have bS0 := kS.blk kz (by omega)
  have O2 := Lib.hid (Own.same O1.out (w' := w1.setCell ⟨w.heap.size + 1 + 1, 0, none⟩ (.slice A1 root.length C1)) fun b hb _ => heap_set _ _ _ _ b (by have := (O1b.out b hb).1; omega))
  generalize w1.setCell ⟨w.heap.size + 1 + 1, 0, none⟩ (.slice A1 root.length C1) = S1 at *
  have BS := Lib.hid (B1.out.trans (kS.below (by omega)))
  have sS := kS.size
  clear O1 kz kz1 kz2 p1 q0 f0 kS B1
  refine (HT.out S1 BS.out).mono ?_; rintro e w2 ⟨v2, vs, rfl, o2, b2⟩
  have O3 := Lib.hid (O2.out.below b2 (Nat.le_refl _))
  have E2 := Lib.hid o2
  obtain ⟨A2, C2, e2, _⟩ := o2.rd
  rw [HN.out] at e2
  subst e2
  have r0' := bS.below b2 bS.lt
  have r1' := bS1.below b2 bS1.lt
  have r2' := bS0.below b2 bS0.lt
  have B2 := Lib.hid (bt BS.out b2)
  have s2 := b2.size
  clear o2 b2 bS bS1 bS0 BS O2 HT
  have p2 : w2.cell? ⟨w.heap.size, 2, none⟩ = some (.slice a3 M c3) := r2'.cell 2
  have q1 : w2.cell? ⟨w.heap.size + 1 + 1, 1, none⟩ = some (.slice none 0 0) := r0'.cell 1
  have f1 := r0'.froz 1
  go_wp2_with fail
  have kS : Keep (w.heap.size + 1 + 1) w2 (w2.setCell ⟨w.heap.size + 1 + 1, 1, none⟩ (.slice A2 N C2)) := keep_set (w.heap.size + 1 + 1) [.slice A2 N C2] 1 w2
  have bS : Blk (w2.setCell ⟨w.heap.size + 1 + 1, 1, none⟩ (.slice A2 N C2)) (w.heap.size + 1 + 1) [.slice A1 root.length C1, .slice A2 N C2, .slice none 0 0] 32 := blk_set (w.heap.size + 1 + 1) _ [.slice A2 N C2] 1 _ w2 r0' (by simp)
  have bS1 := kS.blk r1' (by omega)
  have O4 := Lib.hid (Own.same O3.out (w' := w2.setCell ⟨w.heap.size + 1 + 1, 1, none⟩ (.slice A2 N C2)) fun b hb _ => heap_set _ _ _ _ b (by have := (O1b.out b hb).1; omega))
  have E3 := Lib.hid (Own2E.same E2.out (w' := w2.setCell ⟨w.heap.size + 1 + 1, 1, none⟩ (.slice A2 N C2)) fun b hb _ => heap_set _ _ _ _ b (by omega))
  generalize w2.setCell ⟨w.heap.size + 1 + 1, 1, none⟩ (.slice A2 N C2) = S2 at *
  have BS := Lib.hid (B2.out.trans (kS.below (by omega)))
  have sS2 := kS.size
  clear O3 r0' r1' r2' p2 q1 f1 kS B2
  refine (HB.out S2 BS.out).mono ?_; rintro e w3 ⟨v3, rfl, o3, b3⟩
  have O5 := Lib.hid (O4.out.below b3 (Nat.le_refl _))
  have E4 := Lib.hid (E3.out.below b3 (Nat.le_refl _))
  have F3 := Lib.hid o3
  obtain ⟨A3, C3, e3, _⟩ := o3.row
  rw [HM.out] at e3
  subst e3
  have r0' := bS.below b3 bS.lt
  have r1' := bS1.below b3 bS1.lt
  have B3 := Lib.hid (bt BS.out b3)
  have s3 := b3.size
  clear o3 b3 bS bS1 BS O4 E3 HB
  have c0 : w3.cell? ⟨w.heap.size + 1 + 1, 0, none⟩ = some (.slice A1 root.length C1) := r0'.cell 0
  have c1 : w3.cell? ⟨w.heap.size + 1 + 1, 1, none⟩ = some (.slice A2 N C2) := r0'.cell 1
  have c2 : w3.cell? ⟨w.heap.size + 1 + 1, 2, none⟩ = some (.slice none 0 0) := r0'.cell 2
  have f2 := r0'.froz 2
  have z0 : w3.cell? ⟨w.heap.size + 1, 0, none⟩ = some (.slice none 0 0) := r1'.cell 0
  have z1 : w3.cell? ⟨w.heap.size + 1, 1, none⟩ = some (.slice none 0 0) := r1'.cell 1
  have z2 : w3.cell? ⟨w.heap.size + 1, 2, none⟩ = some (.slice none 0 0) := r1'.cell 2
  have g0 := r1'.froz 0
  have g1 := r1'.froz 1
  have g2 := r1'.froz 2
  have HP := Lib.hid (fun (w4 : World) (x0 x1 x2 x3 : Value) (e : w4 = (((w3.setCell ⟨w.heap.size + 1 + 1, 2, none⟩ x0).setCell ⟨w.heap.size + 1, 0, none⟩ x1).setCell ⟨w.heap.size + 1, 1, none⟩ x2).setCell ⟨w.heap.size + 1, 2, none⟩ x3) => (show OwnS w4 w.heap.size (.agg #[.slice A1 root.length C1, .slice A2 N C2, .slice A3 M C3]) root tss buf ∧ Below w.heap.size w w4 from by
    have hh : ∀ i, w.heap.size + 3 ≤ i → w4.heap[i]? = w3.heap[i]? := fun i hi => by
      rw [e, heap_set _ _ _ _ i (by omega), heap_set _ _ _ _ i (by omega), heap_set _ _ _ _ i (by omega), heap_set _ _ _ _ i (by omega)]
    have hz : w4.heap.size = w3.heap.size := by rw [e]; simp
    have e1 := HN.out
    have e2 := HM.out
    subst e1 e2
    refine ⟨⟨A1, C1, A2, C2, A3, C3, vs, w1.heap.size, w2.heap.size, rfl, by omega, by omega, by omega, (Own.same O5.out fun b hb _ => hh b (by have := (O1b.out b hb).1; omega)).mono (by omega), fun k hk => (O1b.out k hk).2, ?_, fun k hk => ?_, fun i k hi hk => ?_, ?_⟩, ?_⟩
    · have h5 := Own2E.same E4.out fun b hb _ => hh b (by omega)
      rw [sS] at h5
      exact h5
    · exact (World.ownsRow.lt E2.out.2.1 k hk).2
    · exact (En.OwnR.block (E2.out.2.2.1 i hi) k hk).2
    · have h6 : Ch.OwnR w4 _ _ buf := Ch.OwnR.same F3.out fun b hb _ => hh b (by have := (Ch.OwnR.block F3.out b hb).1; omega)
      rw [sS2] at h6
      exact h6
    · rw [e]
      exact (((B3.out.setCell (p := ⟨_, 2, none⟩) (by simp; omega) _).setCell (p := ⟨_, 0, none⟩) (by simp) _).setCell (p := ⟨_, 1, none⟩) (by simp) _).setCell (p := ⟨_, 2, none⟩) (by simp) _))
  clear O5 E4 E2 F3 B3 r0' r1' O1b
  go_wp2
  refine bodyPost_ret (v := .agg #[.slice A1 root.length C1, .slice A2 N C2, .slice A3 M C3]) (by simp [results, Tryd.results10, go_sem, c0, c1, c2, z0, z1, z2, f2, g0, g1, g2]) rfl ?_
  obtain ⟨h1, h2⟩ := HP.out _ _ _ _ _ rfl
  exact ⟨_, rfl, h1, h2⟩
theorem eqS_any {w : World} {v1 v2 : Value} {root : List Int} {tss : List (List RE)} {buf : List RC} {B1 B2 : Nat} (h : tot root.length tss buf.length ≤ 1048576) (o1 : OwnS w B1 v1 root tss buf) (o2 : OwnS w B2 v2 root tss buf) :
    Calls Tryd.prog 12 #[v1, v2] w (Bb true w) := by
  unfold tot at h
  obtain ⟨a1, c1, a2, c2, a3, c3, vs, h1, h2, rfl, l1, l2, l3, x1, k1, x2, k2, k3, x3⟩ := o1
  obtain ⟨b1, d1, b2, d2, b3, d3, us, g1, g2, rfl, m1, m2, m3, y1, q1, y2, q2, q3, y3⟩ := o2
  obtain ⟨W0, hW0⟩ : ∃ W0, W0 = (w.alloc (.cells #[.slice a1 root.length c1, .slice a2 tss.length c2, .slice a3 buf.length c3] 32)).alloc (.cells #[.slice b1 root.length d1, .slice b2 tss.length d2, .slice b3 buf.length d3] 32) := ⟨_, rfl⟩
  have bw : Below w.heap.size w W0 := by rw [hW0]; exact ((Below.refl _ _).alloc (Nat.le_refl _) _).alloc (by simp) _
  have e1 : Blk W0 w.heap.size [.slice a1 root.length c1, .slice a2 tss.length c2, .slice a3 buf.length c3] 32 := by rw [hW0]; exact Blk.alloc (Blk.newAt w _ _ _ rfl) _
  have e2 : Blk W0 (w.heap.size + 1) [.slice b1 root.length d1, .slice b2 tss.length d2, .slice b3 buf.length d3] 32 := by rw [hW0]; exact Blk.newAt _ _ _ _ (by simp)
  have H1 := Lib.hid (eq_below (x1.below bw (Nat.le_refl _)) (y1.below bw (Nat.le_refl _)))
  have H2 := Lib.hid (fun (w' : World) (hb : Below w.heap.size w w') => En.eqT_any a2 b2 c2 d2 tss w' (by omega) ((Own2E.rdAt x2).below hb) ((Own2E.rdAt y2).below hb))
  have H3 := Lib.hid (fun (w' : World) (hb : Below w.heap.size w w') => Ch.eq_any a3 b3 c3 d3 buf w' (by omega) ((OwnR.rdAt x3).below hb) ((OwnR.rdAt y3).below hb))
  clear x1 x2 x3 y1 y2 y3 h k1 k2 k3 q1 q2 q3
  generalize root.length = n1 at *
  generalize tss.length = n2 at *
  generalize buf.length = n3 at *
  go_enter Tryd.func12, Tryd.ntmps12
  go_wp2_with fail
  rw [← hW0]
  clear hW0
  refine H1.out.mono ?_; rintro e w1 ⟨rfl, b1'⟩
  have f1 := e1.below b1' e1.lt
  have f2 := e2.below b1' e2.lt
  have B1' := Lib.hid (bt bw b1')
  have p1 : w1.cell? ⟨w.heap.size, 1, none⟩ = some (.slice a2 n2 c2) := f1.cell 1
  have p2 : w1.cell? ⟨w.heap.size + 1, 1, none⟩ = some (.slice b2 n2 d2) := f2.cell 1
  clear e1 e2 bw b1'
  go_wp2_with fail
  refine (H2.out w1 B1'.out).mono ?_; rintro e w2 ⟨rfl, b2'⟩
  have e1 := f1.below b2' f1.lt
  have e2 := f2.below b2' f2.lt
  have B2' := Lib.hid (bt B1'.out b2')
  clear f1 f2 p1 p2 b2'
  have p1 : w2.cell? ⟨w.heap.size, 2, none⟩ = some (.slice a3 n3 c3) := e1.cell 2
  have p2 : w2.cell? ⟨w.heap.size + 1, 2, none⟩ = some (.slice b3 n3 d3) := e2.cell 2
  clear e1 e2
  go_wp2_with fail
  refine (H3.out w2 B2'.out).mono ?_; rintro e w3 ⟨rfl, b3'⟩
  have B3' := Lib.hid (bt B2'.out b3')
  clear b3'
  go_wp2
  go_ret
  exact ⟨rfl, B3'.out⟩
end Go.Proofs.YtifjkjcgpghmhaaDoor.Sp
