/- bring, read and write of a cache's run. Lists of accesses: what came in, what the call owns; toAccess, toAccessS, szAccessS, eqAccess, eqAccessS. -/
import Derived.Test.YtngbddmbmkphcaaG10
import Derived.Test.YtngbddmbmkphcaaG6
import Derived.Test.YtngbddmbmkphcaaG1
import Derived.Laws.OwnMore
import Derived.Deep.RegionHeld3
namespace Go.Proofs.Ytngbddmbmkphcaa.Pv
open Go.RowKit
def bring1 (hs : List (List Int)) (ms : List Int) (S : CaS) (L : Nat) : CaS := { S with m := S.m + 1, cs := lineTo S.cs S.ws L, i := S.i + 4, k := stN hs ms S.k (L : Int) }
def bringS (hs : List (List Int)) (ms : List Int) (S : CaS) (L : Nat) : CaS :=
  if hitB ms.length S.k (L : Int) then { S with h := S.h + 1, k := stN hs ms S.k (L : Int) }
  else if gonB ms.length S.k (L : Int) then { cleanS (bring1 hs ms S L) (gonV ms.length S.k (L : Int)).toNat with o := S.o + cleanN (bring1 hs ms S L) (gonV ms.length S.k (L : Int)).toNat }
  else bring1 hs ms S L
theorem cleanS_o (S : CaS) (L : Nat) : (cleanS S L).o = S.o := by unfold cleanS; split <;> rfl
theorem cleanS_rs (S : CaS) (L : Nat) : (cleanS S L).rs = S.rs := by unfold cleanS; split <;> rfl
theorem bringS_rs (hs : List (List Int)) (ms : List Int) (S : CaS) (L : Nat) : (bringS hs ms S L).rs = S.rs := by
  unfold bringS
  split
  · rfl
  · split
    · exact cleanS_rs _ _
    · rfl
theorem cleanN_le (S : CaS) (L : Nat) : cleanN S L ≤ 4 := by unfold cleanN; split <;> decide
/-- Bounds of the traffic. -/
def CaS.bd (S : CaS) (n : Nat) : Prop := S.h ≤ n ∧ S.m ≤ n ∧ S.i ≤ n ∧ S.o ≤ n
theorem bringS_bd {hs : List (List Int)} {ms : List Int} {S : CaS} {n : Nat} (h : S.bd n) (L : Nat) : (bringS hs ms S L).bd (n + 4) := by
  obtain ⟨h1, h2, h3, h4⟩ := h
  have hc := cleanN_le (bring1 hs ms S L) (gonV ms.length S.k (L : Int)).toNat
  unfold bringS
  split
  · exact ⟨by show S.h + 1 ≤ n + 4; omega, by show S.m ≤ n + 4; omega, by show S.i ≤ n + 4; omega, by show S.o ≤ n + 4; omega⟩
  · split
    · refine ⟨?_, ?_, ?_, by show S.o + cleanN _ _ ≤ n + 4; omega⟩
      · show (cleanS _ _).h ≤ n + 4
        unfold cleanS; split
        · show S.h ≤ n + 4; omega
        · show S.h ≤ n + 4; omega
      · show (cleanS _ _).m ≤ n + 4
        unfold cleanS; split
        · show S.m + 1 ≤ n + 4; omega
        · show S.m + 1 ≤ n + 4; omega
      · show (cleanS _ _).i ≤ n + 4
        unfold cleanS; split
        · show S.i + 4 ≤ n + 4; omega
        · show S.i + 4 ≤ n + 4; omega
    · exact ⟨by show S.h ≤ n + 4; omega, by show S.m + 1 ≤ n + 4; omega, by show S.i + 4 ≤ n + 4; omega, by show S.o ≤ n + 4; omega⟩
theorem gonB_hit {M : Nat} {k : Nat → Int} {x : Int} (h : hitB M k x = true) : gonB M k x = false := by unfold gonB; rw [h]; rfl
theorem gonV_nat {M : Nat} {k : Nat → Int} {x : Int} (hk : ∀ i, -1 ≤ k i ∧ k i ≤ 15) (h : gonB M k x = true) : gonV M k x = (((gonV M k x).toNat : Nat) : Int) ∧ (gonV M k x).toNat < 16 := by
  have e : gonV M k x = k (M - 1) := if_pos h
  have h1 := hk (M - 1)
  have h2 : k (M - 1) ≠ -1 := fun hh => by unfold gonB at h; rw [hh] at h; simp at h
  rw [e]
  omega
set_option maxRecDepth 100000 in
set_option maxHeartbeats 4000000 in
theorem bring_i {b : Nat} {pv : List Value} {hs : List (List Int)} {ms : List Int} {S : CaS} {v : Value} {w0 w : World} (hok : isP hs ms = true) (h : CaB b pv hs ms S v w0 w) (hv : v.oneCell' = true) (ho : ∀ u ∈ pv, u.oneCell' = true) (L : Nat) (hL : L < 16) (hbd : S.bd 1000000) :
    Calls Try.prog 67 #[.pointer (some ⟨b, 0, none⟩), .int .i64 L] w (fun e w' => e = .returned (.tuple #[]) ∧ CaB b pv hs ms (bringS hs ms S L) v w0 w') := by
  obtain ⟨bh, bm, bi, bo⟩ := hbd
  have hp : 1 ≤ ms.length ∧ ms.length ≤ 6 := by unfold isP at hok; simp only [Bool.and_eq_true, decide_eq_true_eq] at hok; omega
  have HA := Lib.hid (chas_i hp.1 hp.2 h (L : Int))
  have HH := Lib.hid h
  have hx : (0 : Int) ≤ (L : Int) ∧ (L : Int) ≤ 15 := by omega
  clear h
  cases hr : hitB ms.length S.k (L : Int)
  · have hbr0 : bringS hs ms S L = if gonB ms.length S.k (L : Int) then { cleanS (bring1 hs ms S L) (gonV ms.length S.k (L : Int)).toNat with o := S.o + cleanN (bring1 hs ms S L) (gonV ms.length S.k (L : Int)).toNat } else bring1 hs ms S L := if_neg (by rw [hr]; exact Bool.false_ne_true)
    have H3 := Lib.hid (fun (w3 : World) (h3 : CaB b pv hs ms { S with m := S.m + 1 } v w0 w3) => cin_i h3.drew hv ho L hL)
    have H4 := Lib.hid (fun (w4 : World) (h4 : CaB b pv hs ms { S with m := S.m + 1, cs := lineTo S.cs S.ws L, i := S.i + 4 } v w0 w4) => (show Calls _ _ _ w4 (fun e w' => e = .returned (.tuple #[.int .i64 (gonV ms.length S.k (L : Int)), .bool (gonB ms.length S.k (L : Int))]) ∧ CaB b pv hs ms (bring1 hs ms S L) v w0 w') from cuse_i hok h4 (L : Int) hx))
    have em : ((S.m + 1 : Nat) : Int) = (S.m : Int) + 1 := by omega
    have ei : ((S.i + 4 : Nat) : Int) = (S.i : Int) + 4 := by omega
    rw [hr] at HA
    cases hg : gonB ms.length S.k (L : Int)
    · have hbr : bringS hs ms S L = bring1 hs ms S L := hbr0.trans (if_neg (by rw [hg]; exact Bool.false_ne_true))
      rw [hbr]
      rw [hg] at H4
      clear hbr hbr0
      go_enter Try.func67, Try.ntmps67
      go_wp2_with fail
      refine HA.out.mono ?_; rintro e w1 ⟨rfl, q, rfl⟩
      obtain ⟨c1, f1, s1⟩ := (HH.out.drewN q).t1
      have hB2 := s1 (S.m + 1)
      rw [em] at hB2
      have G3 := Lib.hid (H3.out _ hB2)
      clear s1 hB2
      go_wp2
      go_region_law (first | (go_simp; go_at_call 72; (with_reducible refine G3.out.mono ?_); rintro e w3 ⟨rfl, hB3⟩))
      all_goals
        obtain ⟨c2, f2, s2⟩ := hB3.t2
        have hB4 := s2 (S.i + 4)
        have c2' : w3.cell? ⟨b, 116, none⟩ = some (.int .i64 (S.i : Int)) := c2
        rw [ei] at hB4
        have G4 := Lib.hid (H4.out _ hB4)
        clear s2 hB3 hB4 c2
        go_wp2_with fail
        refine G4.out.mono ?_; rintro e w5 ⟨rfl, hB5⟩
        have HB5 := Lib.hid hB5
        clear hB5
        go_wp2
        go_end0
        exact ⟨rfl, HB5.out⟩
    · have hbr : bringS hs ms S L = { cleanS (bring1 hs ms S L) (gonV ms.length S.k (L : Int)).toNat with o := S.o + cleanN (bring1 hs ms S L) (gonV ms.length S.k (L : Int)).toNat } := hbr0.trans (if_pos hg)
      rw [hbr]
      rw [hg] at H4
      obtain ⟨gv1, gv2⟩ := gonV_nat HH.out.wf.k hg
      rw [gv1] at H4
      have hcn := cleanN_le (bring1 hs ms S L) (gonV ms.length S.k (L : Int)).toNat
      have H7 := Lib.hid (fun (w5 : World) (h5 : CaB b pv hs ms (bring1 hs ms S L) v w0 w5) => (clean_i h5.drew hv ho (gonV ms.length S.k (L : Int)).toNat gv2).mono (R' := fun e w6 => e = .returned (.int .i64 (cleanN (bring1 hs ms S L) (gonV ms.length S.k (L : Int)).toNat : Int)) ∧ (w6.cell? ⟨b, 117, none⟩ = some (.int .i64 (S.o : Int)) ∧ w6.frozen? ⟨b, 117, none⟩ = false) ∧ Hid (CaB b pv hs ms { cleanS (bring1 hs ms S L) (gonV ms.length S.k (L : Int)).toNat with o := S.o + cleanN (bring1 hs ms S L) (gonV ms.length S.k (L : Int)).toNat } v w0 (w6.setCell ⟨b, 117, none⟩ (.int .i64 ((S.o : Int) + (cleanN (bring1 hs ms S L) (gonV ms.length S.k (L : Int)).toNat : Int)))))) fun e w6 ⟨he, hB⟩ => by
        obtain ⟨c6, f6, s6⟩ := hB.t3
        rw [cleanS_o] at c6
        have hB7 := s6 (S.o + cleanN (bring1 hs ms S L) (gonV ms.length S.k (L : Int)).toNat)
        rw [Int.natCast_add] at hB7
        exact ⟨he, ⟨c6, f6⟩, Lib.hid hB7⟩)
      clear hbr hbr0 gv1 gv2
      generalize cleanN (bring1 hs ms S L) (gonV ms.length S.k (L : Int)).toNat = cn at *
      generalize (gonV ms.length S.k (L : Int)).toNat = gg at *
      have e9 : IntKind.i64.wrap ((S.o : Int) + (cn : Int)) = (S.o : Int) + (cn : Int) := IntWalk.i64_in _ (by omega)
      go_enter Try.func67, Try.ntmps67
      go_wp2_with fail
      refine HA.out.mono ?_; rintro e w1 ⟨rfl, q, rfl⟩
      obtain ⟨c1, f1, s1⟩ := (HH.out.drewN q).t1
      have hB2 := s1 (S.m + 1)
      rw [em] at hB2
      have G3 := Lib.hid (H3.out _ hB2)
      clear s1 hB2
      go_wp2
      go_region_law (first | (go_simp; go_at_call 72; (with_reducible refine G3.out.mono ?_); rintro e w3 ⟨rfl, hB3⟩))
      all_goals
        obtain ⟨c2, f2, s2⟩ := hB3.t2
        have hB4 := s2 (S.i + 4)
        have c2' : w3.cell? ⟨b, 116, none⟩ = some (.int .i64 (S.i : Int)) := c2
        rw [ei] at hB4
        have G4 := Lib.hid (H4.out _ hB4)
        clear s2 hB3 hB4 c2
        go_wp2_with fail
        refine G4.out.mono ?_; rintro e w5 ⟨rfl, hB5⟩
        have c5 : w5.cell? ⟨b, 117, none⟩ = some (.int .i64 (S.o : Int)) := hB5.t3.1
        have G7 := Lib.hid (H7.out _ hB5)
        clear hB5
        go_wp2
        go_region_law (first | (go_simp; go_at_call 57; (with_reducible refine G7.out.mono ?_); rintro e w6 ⟨rfl, ⟨c6, f6⟩, hB6⟩))
        all_goals
          go_wp2
          go_end0
          exact ⟨rfl, hB6.out⟩
  · have hbr : bringS hs ms S L = { S with h := S.h + 1, k := stN hs ms S.k (L : Int) } := if_pos hr
    have hgf := gonB_hit hr
    have eh : ((S.h + 1 : Nat) : Int) = (S.h : Int) + 1 := by omega
    rw [hbr]
    clear hbr
    have H4 := Lib.hid (fun (w4 : World) (h4 : CaB b pv hs ms { S with h := S.h + 1 } v w0 w4) => (show Calls _ _ _ w4 (fun e w' => e = .returned (.tuple #[.int .i64 (gonV ms.length S.k (L : Int)), .bool (gonB ms.length S.k (L : Int))]) ∧ CaB b pv hs ms { S with h := S.h + 1, k := stN hs ms S.k (L : Int) } v w0 w') from cuse_i hok h4 (L : Int) hx))
    rw [hgf] at H4
    rw [hr] at HA
    go_enter Try.func67, Try.ntmps67
    go_wp2_with fail
    refine HA.out.mono ?_; rintro e w1 ⟨rfl, q, rfl⟩
    obtain ⟨c1, f1, s1⟩ := (HH.out.drewN q).t0
    have hB2 := s1 (S.h + 1)
    rw [eh] at hB2
    have G4 := Lib.hid (H4.out _ hB2)
    clear s1 hB2
    go_wp2_with fail
    refine G4.out.mono ?_; rintro e w5 ⟨rfl, hB5⟩
    have HB5 := Lib.hid hB5
    clear hB5
    go_wp2
    go_end0
    exact ⟨rfl, HB5.out⟩
/-- The state with the reads, a list of the call's own. -/
def CaI (b : Nat) (pv : List Value) (hs : List (List Int)) (ms : List Int) (S : CaS) (w0 w : World) : Prop := ∃ v, CaB b pv hs ms S v w0 w ∧ Own w (b + 1) v S.rs
theorem kept_own {w w' : World} {b B : Nat} {v : Value} {xs : List Int} (h : Own w B v xs) (k : Kept b w w') (hb : b < B) : Own w' B v xs := by
  refine ⟨h.1, ?_⟩
  rcases h.2 with hn | ⟨g, cap, cur, hv, hg, hh, r⟩
  · exact .inl hn
  · exact .inr ⟨g, cap, cur, hv, hg, by rw [k.block g (Array.getElem?_eq_some_iff.1 hh).1 (by omega)]; exact hh, r⟩
theorem kept_later {b : Nat} {w w' w2 : World} (h : Kept b w w') (hb : Below (b + 1) w' w2) (hs : w.heap.size ≤ b + 1) : Kept b w w2 :=
  ⟨hb.os.trans h.os, hb.tape.trans h.tape, hb.output.trans h.output, Nat.le_trans h.size hb.size, fun i hi hne => (hb.block i (by omega)).trans (h.block i hi hne)⟩
theorem CaB.later {b : Nat} {pv : List Value} {hs : List (List Int)} {ms : List Int} {S : CaS} {v : Value} {w0 w : World} {w2 : World} (h : CaB b pv hs ms S v w0 w) (hb : Below (b + 1) w w2) (hz : w0.heap.size ≤ b + 1) : CaB b pv hs ms S v w0 w2 := ⟨h.blk.below hb (by omega), h.wf, h.p4, kept_later h.kept hb hz⟩
theorem CaI.fin {b : Nat} {pv : List Value} {hs : List (List Int)} {ms : List Int} {S : CaS} {v : Value} {rs : List Int} {w0 w w9 : World} (k : Kept b w0 w) (o : Own w (b + 1) v rs) (e : S.rs = rs) (h : CaB b pv hs ms S v w w9) : CaI b pv hs ms S w0 w9 :=
  ⟨v, ⟨h.blk, h.wf, h.p4, k.trans h.kept⟩, by rw [e]; exact kept_own o h.kept (by omega)⟩
def readS (hs : List (List Int)) (ms : List Int) (S : CaS) (a : Nat) : CaS := { bringS hs ms S (a / 4) with rs := S.rs ++ [(bringS hs ms S (a / 4)).cs.getD a 0] }
def writeS (hs : List (List Int)) (ms : List Int) (bk al : Bool) (S : CaS) (a : Nat) (u : Int) : CaS :=
  if !hitB ms.length S.k ((a / 4 : Nat) : Int) && !al then sendS { S with m := S.m + 1 } a u
  else if bk then { bringS hs ms S (a / 4) with cs := (bringS hs ms S (a / 4)).cs.set a u, ds := (bringS hs ms S (a / 4)).ds.set (a / 4) true }
  else sendS { bringS hs ms S (a / 4) with cs := (bringS hs ms S (a / 4)).cs.set a u } a u
set_option maxRecDepth 100000 in
set_option maxHeartbeats 4000000 in
theorem cread_i {b : Nat} {pv : List Value} {hs : List (List Int)} {ms : List Int} {S : CaS} {w0 w : World} (hok : isP hs ms = true) (h : CaI b pv hs ms S w0 w) (ho : ∀ u ∈ pv, u.oneCell' = true) (a : Nat) (ha : a < 64) (hbd : S.bd 1000000) (hrs : S.rs.length ≤ 1000000) (hz : w0.heap.size ≤ b + 1) :
    Calls Try.prog 52 #[.pointer (some ⟨b, 0, none⟩), .int .i64 a] w (fun e w' => e = .returned (.tuple #[]) ∧ CaI b pv hs ms (readS hs ms S a) w0 w') := by
  obtain ⟨v, hB, hO⟩ := h
  obtain ⟨fa, fc, hf⟩ := Own.form hO
  have hone : v.oneCell' = true := by rw [hf]; rfl
  have HL := Lib.hid (lineOf_i a ha)
  have HB := Lib.hid (bring_i hok hB.self hone ho (a / 4) (by omega) hbd)
  have hk := hB.kept
  have hlt : b + 1 ≤ w.heap.size := hB.blk.lt
  have HK := Lib.hid (fun (w1 : World) (h1 : CaB b pv hs ms (bringS hs ms S (a / 4)) v w w1) => show CaB b pv hs ms (bringS hs ms S (a / 4)) v w0 w1 ∧ Own w1 (b + 1) v S.rs ∧ b + 1 ≤ w1.heap.size from ⟨h1.from hk, kept_own hO h1.kept (by omega), Nat.le_trans hlt h1.kept.size⟩)
  unfold readS
  generalize hS1 : bringS hs ms S (a / 4) = S1 at *
  clear hS1 hB hO hk
  have HE := Lib.hid (fun (w1 w2 : World) (g cap : Nat) (hB1 : CaB b pv hs ms S1 v w0 w1) (ho1 : Own w2 (b + 1) (.slice (some ⟨g, 0, none⟩) (S.rs.length + 1) cap) (S.rs ++ [S1.cs.getD a 0])) (hb : Below (b + 1) w1.drew w2) => (show (∃ o, w2.cell? ⟨b, 64, none⟩ = some o) ∧ w2.frozen? ⟨b, 64, none⟩ = false ∧ CaI b pv hs ms { S1 with rs := S.rs ++ [S1.cs.getD a 0] } w0 (w2.setCell ⟨b, 64, none⟩ (.slice (some ⟨g, 0, none⟩) (S.rs.length + 1) cap)) from by
    have h2 := hB1.drew.later hb hz
    obtain ⟨c, f, s⟩ := h2.v64
    have h3 := s (.slice (some ⟨g, 0, none⟩) (S.rs.length + 1) cap)
    refine ⟨⟨_, c⟩, f, _, ⟨h3.blk, ⟨h3.wf.ws, h3.wf.cs, h3.wf.ds, h3.wf.k⟩, h3.p4, h3.kept⟩, ?_⟩
    exact kept_own ho1 (Keep.kept (keep_set b [.slice (some ⟨g, 0, none⟩) (S.rs.length + 1) cap] 64 w2)) (by omega)))
  have hai : (a : Int) < 64 := by omega
  have hrl : S.rs.length + 1 ≤ 1000000000 := by omega
  subst hf
  generalize hu : S1.cs.getD a 0 = u at *
  generalize a / 4 = q4 at *
  go_enter Try.func52, Try.ntmps52
  go_wp2_with fail
  refine (HL.out w).mono ?_; rintro e w1 ⟨rfl, rfl⟩
  go_wp2_with fail
  refine HB.out.mono ?_; rintro e w2 ⟨rfl, hB2⟩
  obtain ⟨hB3, hO3, hz3⟩ := HK.out w2 hB2
  have c0 : w2.cell? ⟨b, 123 + a, none⟩ = some (.int .i64 u) := by rw [← hu]; exact (hB3.c a ha).1
  have c1 : w2.cell? ⟨b, 64, none⟩ = some (.slice fa S.rs.length fc) := hB3.v64.1
  have c1a : (w2.alloc (.cells #[.int .i64 u] 2)).cell? ⟨b, 64, none⟩ = some (.slice fa S.rs.length fc) := (World.cell?_of_block (w := w2) (a := ⟨b, 64, none⟩) (Below.heap_alloc w2 _ b hz3)).trans c1
  have h2d : Own w2.drew (b + 1) (.slice fa S.rs.length fc) S.rs := hO3.below (Below.refl _ w2).drew (Nat.le_refl _)
  have hzd : b + 1 ≤ w2.drew.heap.size := hz3
  have HE2 := Lib.hid (fun (w3 : World) (g cap : Nat) => HE.out w2 w3 g cap hB3)
  clear hB2 hB3 hO3 HK HB HL HE
  generalize hM : S.rs.length = M at *
  go_wp2
  go_region_law (refine step_appI w2.drew rfl (.tmp 13) (.tmp 20) rfl (b + 1) (.slice fa M fc) S.rs u (by first | rfl | simp [Act.eval, Act.put]) (by first | rfl | simp [Act.eval, Act.put]) h2d (by omega) hzd ?_; intro g cap w3 ho3 hb3 hfr3 hg3; rw [hM] at ho3 ⊢; obtain ⟨⟨old3, hc3⟩, hf3, hE3⟩ := HE2.out w3 g cap ho3 hb3)
  all_goals
    go_wp2
    go_end0
    exact ⟨rfl, hE3⟩
set_option maxRecDepth 100000 in
set_option maxHeartbeats 4000000 in
theorem cwrite_b {b : Nat} {pv : List Value} {hs : List (List Int)} {ms : List Int} {S : CaS} {v : Value} {w0 w : World} {p1 p2 : Value} {bk al : Bool} (hok : isP hs ms = true) (h : CaB b pv hs ms S v w0 w) (hpv : pv = [p1, p2, .bool bk, .bool al]) (hv : v.oneCell' = true) (ho : ∀ u ∈ pv, u.oneCell' = true) (a : Nat) (ha : a < 64) (u : Int) (hbd : S.bd 900000) :
    Calls Try.prog 53 #[.pointer (some ⟨b, 0, none⟩), .int .i64 a, .int .i64 u] w (fun e w' => e = .returned (.tuple #[]) ∧ CaB b pv hs ms (writeS hs ms bk al S a u) v w0 w') := by
  have hp : 1 ≤ ms.length ∧ ms.length ≤ 6 := by unfold isP at hok; simp only [Bool.and_eq_true, decide_eq_true_eq] at hok; omega
  have HL := Lib.hid (lineOf_i a ha)
  have HA := Lib.hid (chas_i hp.1 hp.2 h ((a / 4 : Nat) : Int))
  have HH := Lib.hid h
  obtain ⟨bh, bm, bi, bo⟩ := hbd
  have hq16 : a / 4 < 16 := by omega
  have HBR := Lib.hid (fun q => bring_i hok (h.drewN q) hv ho (a / 4) hq16 ⟨by omega, by omega, by omega, by omega⟩)
  have hbd1 := bringS_bd (hs := hs) (ms := ms) (S := S) (n := 900000) ⟨bh, bm, bi, bo⟩ (a / 4)
  have HSD := Lib.hid (fun (S1 : CaS) (w1 : World) (hB : CaB b pv hs ms S1 v w0 w1) (hO : S1.o ≤ 1000000) => send_i hB a ha u hO)
  have HP := Lib.hid (fun (S1 : CaS) (w1 : World) (hB : CaB b pv hs ms S1 v w0 w1) => (show w1.cell? ⟨b, 121, none⟩ = some (.bool bk) ∧ w1.cell? ⟨b, 122, none⟩ = some (.bool al) from
    ⟨(hB.pol 2 (by decide)).trans (by rw [hpv]; rfl), (hB.pol 3 (by decide)).trans (by rw [hpv]; rfl)⟩))
  have em : ((S.m + 1 : Nat) : Int) = (S.m : Int) + 1 := by omega
  have hai : (a : Int) < 64 := by omega
  have hqi : ((a / 4 : Nat) : Int) < 16 := by omega
  obtain ⟨_, _, _, hO1⟩ := hbd1
  have hW1 : writeS hs ms bk al S a u = if !hitB ms.length S.k ((a / 4 : Nat) : Int) && !al then sendS { S with m := S.m + 1 } a u
    else if bk then { bringS hs ms S (a / 4) with cs := (bringS hs ms S (a / 4)).cs.set a u, ds := (bringS hs ms S (a / 4)).ds.set (a / 4) true }
    else sendS { bringS hs ms S (a / 4) with cs := (bringS hs ms S (a / 4)).cs.set a u } a u := rfl
  rw [hW1]
  clear h hW1
  generalize hitB ms.length S.k ((a / 4 : Nat) : Int) = r at *
  generalize bringS hs ms S (a / 4) = S1 at *
  generalize a / 4 = q4 at *
  have HIT : Hid (∀ (w2 : World), CaB b pv hs ms S1 v w0 w2 → True) := Lib.hid (fun _ _ => trivial)
  clear HIT
  cases r
  · cases al
    · rw [if_pos (show ((!false && !false) = true) from rfl)]
      go_enter Try.func53, Try.ntmps53
      go_wp2_with fail
      refine (HL.out w).mono ?_; rintro e w1 ⟨rfl, rfl⟩
      go_wp2_with fail
      refine HA.out.mono ?_; rintro e w1 ⟨rfl, q, rfl⟩
      have c22 := (HP.out _ _ (HH.out.drewN q)).2
      obtain ⟨c1, f1, s1⟩ := (HH.out.drewN q).t1
      have hB2 := s1 (S.m + 1)
      rw [em] at hB2
      have G3 := Lib.hid (HSD.out _ _ hB2 (by show S.o ≤ 1000000; omega))
      clear s1 hB2
      go_wp2_with fail
      refine G3.out.mono ?_; rintro e w3 ⟨rfl, hB3⟩
      have HB3 := Lib.hid hB3
      clear hB3
      go_wp2
      (first | go_end0 | refine bodyPost_ret (results_none rfl _ _ _) rfl ?_)
      exact ⟨rfl, HB3.out⟩
    · rw [if_neg (show ¬ ((!false && !true) = true) from by decide)]
      cases bk
      · rw [if_neg Bool.false_ne_true]
        go_enter Try.func53, Try.ntmps53
        go_wp2_with fail
        refine (HL.out w).mono ?_; rintro e w1 ⟨rfl, rfl⟩
        go_wp2_with fail
        refine HA.out.mono ?_; rintro e w1 ⟨rfl, q, rfl⟩
        have c22 := (HP.out _ _ (HH.out.drewN q)).2
        go_wp2_with fail
        refine (HBR.out q).mono ?_; rintro e w3 ⟨rfl, hB3⟩
        obtain ⟨c3, f3, s3⟩ := hB3.c a ha
        have hB4 := s3 u
        have c21 := (HP.out _ _ hB4).1
        have G5 := Lib.hid (HSD.out _ _ hB4 (by show S1.o ≤ 1000000; omega))
        clear s3 hB3 hB4
        go_wp2_with fail
        refine G5.out.mono ?_; rintro e w6 ⟨rfl, hB6⟩
        have HB6 := Lib.hid hB6
        clear hB6
        go_wp2
        go_end0
        exact ⟨rfl, HB6.out⟩
      · rw [if_pos rfl]
        go_enter Try.func53, Try.ntmps53
        go_wp2_with fail
        refine (HL.out w).mono ?_; rintro e w1 ⟨rfl, rfl⟩
        go_wp2_with fail
        refine HA.out.mono ?_; rintro e w1 ⟨rfl, q, rfl⟩
        have c22 := (HP.out _ _ (HH.out.drewN q)).2
        go_wp2_with fail
        refine (HBR.out q).mono ?_; rintro e w3 ⟨rfl, hB3⟩
        obtain ⟨c3, f3, s3⟩ := hB3.c a ha
        have hB4 := s3 u
        have c21 := (HP.out _ _ hB4).1
        obtain ⟨c5, f5, s5⟩ := hB4.d q4 hq16
        have HB5 := Lib.hid (s5 true)
        clear s3 s5 hB3 hB4
        go_wp2
        go_end0
        exact ⟨rfl, HB5.out⟩
  · rw [if_neg (show ¬ ((!true && !al) = true) from by simp)]
    cases bk
    · rw [if_neg Bool.false_ne_true]
      go_enter Try.func53, Try.ntmps53
      go_wp2_with fail
      refine (HL.out w).mono ?_; rintro e w1 ⟨rfl, rfl⟩
      go_wp2_with fail
      refine HA.out.mono ?_; rintro e w1 ⟨rfl, q, rfl⟩
      go_wp2_with fail
      refine (HBR.out q).mono ?_; rintro e w3 ⟨rfl, hB3⟩
      obtain ⟨c3, f3, s3⟩ := hB3.c a ha
      have hB4 := s3 u
      have c21 := (HP.out _ _ hB4).1
      have G5 := Lib.hid (HSD.out _ _ hB4 (by show S1.o ≤ 1000000; omega))
      clear s3 hB3 hB4
      go_wp2_with fail
      refine G5.out.mono ?_; rintro e w6 ⟨rfl, hB6⟩
      have HB6 := Lib.hid hB6
      clear hB6
      go_wp2
      go_end0
      exact ⟨rfl, HB6.out⟩
    · rw [if_pos rfl]
      go_enter Try.func53, Try.ntmps53
      go_wp2_with fail
      refine (HL.out w).mono ?_; rintro e w1 ⟨rfl, rfl⟩
      go_wp2_with fail
      refine HA.out.mono ?_; rintro e w1 ⟨rfl, q, rfl⟩
      go_wp2_with fail
      refine (HBR.out q).mono ?_; rintro e w3 ⟨rfl, hB3⟩
      obtain ⟨c3, f3, s3⟩ := hB3.c a ha
      have hB4 := s3 u
      have c21 := (HP.out _ _ hB4).1
      obtain ⟨c5, f5, s5⟩ := hB4.d q4 hq16
      have HB5 := Lib.hid (s5 true)
      clear s3 s5 hB3 hB4
      go_wp2
      go_end0
      exact ⟨rfl, HB5.out⟩
theorem writeS_rs (hs : List (List Int)) (ms : List Int) (bk al : Bool) (S : CaS) (a : Nat) (u : Int) : (writeS hs ms bk al S a u).rs = S.rs := by
  unfold writeS
  split
  · rfl
  · split
    · exact bringS_rs _ _ _ _
    · exact bringS_rs _ _ _ _
theorem cwrite_i {b : Nat} {pv : List Value} {hs : List (List Int)} {ms : List Int} {S : CaS} {w0 w : World} {p1 p2 : Value} {bk al : Bool} (hok : isP hs ms = true) (h : CaI b pv hs ms S w0 w) (hpv : pv = [p1, p2, .bool bk, .bool al]) (ho : ∀ u ∈ pv, u.oneCell' = true) (a : Nat) (ha : a < 64) (u : Int) (hbd : S.bd 900000) :
    Calls Try.prog 53 #[.pointer (some ⟨b, 0, none⟩), .int .i64 a, .int .i64 u] w (fun e w' => e = .returned (.tuple #[]) ∧ CaI b pv hs ms (writeS hs ms bk al S a u) w0 w') := by
  obtain ⟨v, hB, hO⟩ := h
  obtain ⟨fa, fc, hf⟩ := Own.form hO
  exact (cwrite_b hok hB.self hpv (by rw [hf]; rfl) ho a ha u hbd).mono fun e w' ⟨he, h2⟩ => ⟨he, CaI.fin hB.kept hO (writeS_rs _ _ _ _ _ _ _) h2⟩
end Go.Proofs.Ytngbddmbmkphcaa.Pv
namespace Go.Proofs.Ytngbddmbmkphcaa.Ac
open Go.RowKit
def acells : List (Int × Int) → List Value
  | [] => []
  | r :: rs => .int .i64 r.1 :: .int .i64 r.2 :: acells rs
theorem acells_app (a b : List (Int × Int)) : acells (a ++ b) = acells a ++ acells b := by
  induction a with
  | nil => rfl
  | cons r a ih => simp [acells, ih]
theorem acells_length (a : List (Int × Int)) : (acells a).length = a.length * 2 := by
  induction a with
  | nil => rfl
  | cons r a ih => simp [acells, ih]; omega
theorem acells_get : ∀ (rs : List (Int × Int)) (j : Nat), j < rs.length → (acells rs)[j * 2]? = some (.int .i64 (rs.getD j (0, 0)).1) ∧ (acells rs)[j * 2 + 1]? = some (.int .i64 (rs.getD j (0, 0)).2)
  | r :: rs, 0, _ => ⟨rfl, rfl⟩
  | r :: rs, j + 1, h => by
    have ih := acells_get rs j (by simpa using h)
    have e : (j + 1) * 2 = j * 2 + 1 + 1 := by omega
    rw [e]
    exact ih
theorem acells_set : ∀ (rs : List (Int × Int)) (j : Nat) (k a : Int), j < rs.length → ((acells rs).set (j * 2) (.int .i64 k)).set (j * 2 + 1) (.int .i64 a) = acells (rs.set j (k, a))
  | r :: rs, 0, _, _, _ => rfl
  | r :: rs, j + 1, k, a, h => by
    have ih := acells_set rs j k a (by simpa using h)
    have e : (j + 1) * 2 = j * 2 + 1 + 1 := by omega
    rw [e]
    show Value.int .i64 r.1 :: Value.int .i64 r.2 :: ((acells rs).set (j * 2) (.int .i64 k)).set (j * 2 + 1) (.int .i64 a) = _
    rw [ih]; rfl
/-- v is a list of accesses of the call's own. -/
def OwnA (w : World) (B : Nat) (v : Value) (rs : List (Int × Int)) : Prop := w.ownsRow B 61 2 v rs.length (acells rs)
theorem OwnA.block {w : World} {B : Nat} {v : Value} {rs : List (Int × Int)} (h : OwnA w B v rs) : ∀ k, v.ownBlock = some k → B ≤ k ∧ k < w.heap.size := World.ownsRow.lt h
theorem OwnA.below {w w' : World} {B C : Nat} {v : Value} {rs : List (Int × Int)} (h : OwnA w B v rs) (hb : Below C w w') (hC : w.heap.size ≤ C) : OwnA w' B v rs := by
  refine ⟨h.1, ?_⟩
  rcases h.2 with hn | ⟨g, cap, cur, hv, hg, hh, r⟩
  · exact .inl hn
  · exact .inr ⟨g, cap, cur, hv, hg, by rw [hb.block g (Nat.lt_of_lt_of_le (Array.getElem?_eq_some_iff.1 hh).1 hC)]; exact hh, r⟩
/-- Accesses that are read, wherever they lie. -/
def RowA (w : World) (a : Option Addr) (rs : List (Int × Int)) : Prop :=
  ∀ i, i < rs.length → ∃ b off, a = some ⟨b, off, none⟩ ∧ w.cell? ⟨b, off + i * 2, none⟩ = some (.int .i64 (rs.getD i (0, 0)).1) ∧ w.cell? ⟨b, off + i * 2 + 1, none⟩ = some (.int .i64 (rs.getD i (0, 0)).2) ∧ b < w.heap.size
theorem RowA.below {w w' : World} {a : Option Addr} {rs : List (Int × Int)} (h : RowA w a rs) (hb : Below w.heap.size w w') : RowA w' a rs := fun i hi => by
  obtain ⟨b, off, ha, h1, h2, hlt⟩ := h i hi
  exact ⟨b, off, ha, (hb.cell (p := ⟨b, off + i * 2, none⟩) hlt).trans h1, (hb.cell (p := ⟨b, off + i * 2 + 1, none⟩) hlt).trans h2, Nat.lt_of_lt_of_le hlt hb.size⟩
theorem OwnA.row {w : World} {B : Nat} {v : Value} {rs : List (Int × Int)} (h : OwnA w B v rs) : ∃ a c, v = .slice a rs.length c ∧ RowA w a rs := by
  have h0 := h
  rcases h.2 with ⟨rfl, hn⟩ | ⟨g, cap, cur, rfl, _⟩
  · exact ⟨none, 0, by rw [hn], fun i hi => by omega⟩
  · refine ⟨_, cap, rfl, fun i hi => ?_⟩
    obtain ⟨e1, e2⟩ := acells_get rs i hi
    have hr : w.ownsRow B 61 2 (.slice (some ⟨g, 0, none⟩) rs.length cap) rs.length (acells rs) := h0
    refine ⟨g, 0, rfl, ?_, ?_, (OwnA.block h0 g rfl).2⟩
    · rw [Nat.zero_add, World.ownsRow.cellAt hr (i * 2) (by omega), e1]
    · rw [Nat.zero_add, World.ownsRow.cellAt hr (i * 2 + 1) (by omega), e2]
set_option maxRecDepth 100000 in
/-- The structure of the law's type is turned into the program's. -/
theorem to1 (k ad : Int) (w : World) : Calls Try.prog 31 #[.agg #[.int .i64 k, .int .i64 ad]] w fun e w' => e = .returned (.agg #[.int .i64 k, .int .i64 ad]) ∧ Below w.heap.size w w' := by
  go_enter Try.func31, Try.ntmps31
  go_wp2
  refine bodyPost_ret (v := .agg #[.int .i64 k, .int .i64 ad]) (by simp [results, Try.results31, go_sem]) rfl ?_
  exact ⟨rfl, (((Below.refl _ _).alloc (Nat.le_refl _) _).alloc (by simp) _).alloc (by simp; omega) _⟩
/-- Two structures are equal. -/
theorem eq1 (k ad : Int) (w : World) : Calls Try.prog 34 #[.agg #[.int .i64 k, .int .i64 ad], .agg #[.int .i64 k, .int .i64 ad]] w fun e w' => e = .returned (.bool true) ∧ Below w.heap.size w w' := by
  go_enter Try.func34, Try.ntmps34
  go_wp2
  go_ret
  exact ⟨rfl, ((Below.refl _ _).alloc (Nat.le_refl _) _).alloc (by simp) _⟩
theorem sz_any (a : Option Addr) (len cap : Nat) (left : Nat) (w : World) (h : len ≤ left) (hl : left ≤ 1048576) :
    Calls Try.prog 8 #[.slice a len cap, .int .i64 (left : Nat)] w fun e w' => e = .returned (.int .i64 ((left : Int) - (len : Int))) ∧ w = w' := by
  have h1 : ¬ ((left : Int) - (len : Int)) < 0 := by omega
  go_enter Try.func8, Try.ntmps8
  go_wp2
  go_ret
  exact ⟨rfl, rfl⟩
theorem sz_long (a : Option Addr) (len cap : Nat) (left : Nat) (w : World) (h : left < len) (hl : left ≤ 1048576) (hm : len ≤ 9223372036854775807) :
    Calls Try.prog 8 #[.slice a len cap, .int .i64 (left : Nat)] w fun e w' => e = .returned (.int .i64 (-1)) ∧ w = w' := by
  have h1 : ((left : Int) - (len : Int)) < 0 := by omega
  go_enter Try.func8, Try.ntmps8
  go_wp2
  go_ret
  exact ⟨rfl, rfl⟩
theorem infoA : (Try.prog.info? 61).map (fun i => (i.zero, i.size, i.bytes)) = some (some (.agg #[.int .i64 0, .int .i64 0]), 2, 16) := by kernel_rfl
theorem acells_zero (N : Nat) : acells (List.replicate N ((0 : Int), (0 : Int))) = List.replicate (N * 2) (Value.int .i64 0) := by
  induction N with
  | zero => rfl
  | succ n ih =>
    rw [List.replicate_succ, show (n + 1) * 2 = n * 2 + 1 + 1 from by omega, List.replicate_succ, List.replicate_succ, ← ih]
    rfl
theorem madeA (N : Nat) : (madeCells #[Value.int .i64 0, Value.int .i64 0] (N * 2)).toList = acells (List.replicate N ((0 : Int), (0 : Int))) := by
  rw [acells_zero, List.eq_replicate_iff]
  refine ⟨by rw [Array.length_toList, size_madeCells], fun b hb => ?_⟩
  unfold madeCells at hb
  rw [Array.toList_map, List.mem_map] at hb
  obtain ⟨i, _, rfl⟩ := hb
  have h2 : i % 2 = 0 ∨ i % 2 = 1 := by omega
  show #[Value.int .i64 0, Value.int .i64 0][i % 2]! = _
  rcases h2 with h | h <;> rw [h] <;> rfl
def tkA (xs : List (Int × Int)) (n j : Nat) : List (Int × Int) := xs.take j ++ List.replicate (n - j) (0, 0)
theorem tkA_length (xs : List (Int × Int)) (n j : Nat) (hj : j ≤ n) (hn : n = xs.length) : (tkA xs n j).length = n := by simp [tkA]; omega
theorem tkA_step (xs : List (Int × Int)) (n j : Nat) (hj : j < n) (hn : n = xs.length) : (tkA xs n j).set j (xs.getD j (0, 0)) = tkA xs n (j + 1) := by
  have hl : (xs.take j).length = j := by simp; omega
  unfold tkA
  rw [List.set_append_right _ _ (by omega), hl, Nat.sub_self, show n - j = (n - (j + 1)) + 1 by omega, List.replicate_succ, List.set_cons_zero,
    List.take_succ_eq_append_getElem (by omega), List.append_assoc, List.getD_eq_getElem?_getD, List.getElem?_eq_getElem (by omega)]
  rfl
def CopyA (g n : Nat) (xs : List (Int × Int)) (w0 : World) (j : Nat) (wr : World) : Prop :=
  wr.ownsRow g 61 2 (.slice (some ⟨g, 0, none⟩) n n) n (acells (tkA xs n j)) ∧ Below g w0 wr
theorem CopyA.step {g n : Nat} {xs : List (Int × Int)} {w0 : World} {j : Nat} {wr : World} (h : CopyA g n xs w0 j wr) (hn : n = xs.length) (hj : j < n) :
    (∃ old, wr.cell? ⟨g, j * 2, none⟩ = some old) ∧ (∃ old, wr.cell? ⟨g, j * 2 + 1, none⟩ = some old) ∧ wr.frozen? ⟨g, j * 2, none⟩ = false ∧ wr.frozen? ⟨g, j * 2 + 1, none⟩ = false ∧
      CopyA g n xs w0 (j + 1) ((wr.setCell ⟨g, j * 2, none⟩ (.int .i64 (xs.getD j (0, 0)).1)).setCell ⟨g, j * 2 + 1, none⟩ (.int .i64 (xs.getD j (0, 0)).2)) := by
  have hl := acells_length (tkA xs n j)
  rw [tkA_length xs n j (by omega) hn] at hl
  have s1 := World.ownsRow.stored h.1 (j * 2) (.int .i64 (xs.getD j (0, 0)).1)
  have s2 := World.ownsRow.stored s1.1 (j * 2 + 1) (.int .i64 (xs.getD j (0, 0)).2)
  rw [acells_set _ j _ _ (by rw [tkA_length xs n j (by omega) hn]; exact hj)] at s2
  have e : (tkA xs n j).set j ((xs.getD j (0, 0)).1, (xs.getD j (0, 0)).2) = tkA xs n (j + 1) := tkA_step xs n j hj hn
  rw [e] at s2
  refine ⟨⟨_, by rw [h.1.cellAt (j * 2) (by omega), List.getElem?_eq_getElem (by omega)]⟩, ⟨_, by rw [h.1.cellAt (j * 2 + 1) (by omega), List.getElem?_eq_getElem (by omega)]⟩, h.1.frozenAt _, h.1.frozenAt _, s2.1, (h.2.setCell (Nat.le_refl _) _).setCell (Nat.le_refl _) _⟩
theorem CopyA.below {g n : Nat} {xs : List (Int × Int)} {w0 : World} {j : Nat} {wr w' : World} (h : CopyA g n xs w0 j wr) (hb : Below wr.heap.size wr w') (hg : g ≤ wr.heap.size) : CopyA g n xs w0 j w' := by
  refine ⟨⟨h.1.1, ?_⟩, h.2.trans (hb.mono hg)⟩
  rcases h.1.2 with hn | ⟨g', cap, cur, hv, hgg, hh, r⟩
  · exact .inl hn
  · exact .inr ⟨g', cap, cur, hv, hgg, by rw [hb.block g' (Array.getElem?_eq_some_iff.1 hh).1]; exact hh, r⟩
def CopiedA (xs : List (Int × Int)) (w : World) (e : Ending) (w' : World) : Prop := ∃ v, e = .returned v ∧ OwnA w' w.heap.size v xs ∧ Below w.heap.size w w'
set_option maxHeartbeats 2000000 in
theorem to_any (a : Option Addr) (cap : Nat) (xs : List (Int × Int)) (w : World) (h : RowA w a xs) (hn : xs.length ≤ 1048576) :
    Calls Try.prog 11 #[.slice a xs.length cap] w (CopiedA xs w) := by
  have HC := Lib.hid h
  clear h
  obtain ⟨i0, hi, hz0, hz1, hz2⟩ := info_parts infoA
  have HST := Lib.hid (fun (g j : Nat) (wr : World) (hr : CopyA g xs.length xs w j wr) (hj : j < xs.length) => CopyA.step hr rfl hj)
  have HEND : Hid (tkA xs xs.length xs.length = xs) := by show _ = _; simp [tkA]
  unfold RowA at HC
  generalize hN : xs.length = n at *
  have HN := Lib.hid hN
  clear hN
  go_enter Try.func11, Try.ntmps11
  go_wp2_with (at_make; refine wpList_make_full _ rfl _ _ 37 rfl w.heap.size 61 i0 (.agg #[.int .i64 0, .int .i64 0]) 2 Try.underlying37 hi hz0 hz1 .i64 .i64 (n : Int) (n : Int) n ?_ ?_ rfl rfl ?_ ?_ ?_ ?_; rfl; rfl)
  · rw [hz2]; omega
  · unfold maxLen; omega
  · exact Nat.le_refl _
  intro w1 hown hgr
  have hr : CopyA w.heap.size n xs w 0 w1 := ⟨by
    have h3 : w1.ownsRow w.heap.size 61 2 (.slice (some ⟨w.heap.size, 0, none⟩) n n) n (madeCells #[Value.int .i64 0, Value.int .i64 0] (n * 2)).toList := hown
    rw [madeA] at h3
    simpa [tkA] using h3, (Below.refl _ _).grown hgr (Nat.le_refl _) (by simp)⟩
  clear hown hgr
  go_wp2
  go_loopw [4] (fun i wr => ∃ j : Nat, j ≤ n ∧ i = .int .i64 j ∧ CopyA w.heap.size n xs w j wr) (fun i _ => n - (intOf i).toNat)
  case atStart => exact ⟨0, Nat.zero_le _, rfl, hr⟩
  case round =>
    obtain ⟨j, hj, rfl, hr⟩ := hrel
    by_cases hlt : j < n
    · obtain ⟨b, off, rfl, hc1, hc2, hb⟩ := HC.out j hlt
      have c1 := (hr.2.cell (p := ⟨b, off + j * 2, none⟩) hb).trans hc1
      have c2 := (hr.2.cell (p := ⟨b, off + j * 2 + 1, none⟩) hb).trans hc2
      have HR := Lib.hid hr
      have hsz := hr.2.size
      have HST2 := Lib.hid (fun (w' : World) (hb : Below wr.heap.size wr w') => HST.out _ j w' (CopyA.below hr hb hsz) hlt)
      clear hc1 hc2 hr
      generalize xs.getD j (0, 0) = r at *
      obtain ⟨k, ad⟩ := r
      go_wp2_with fail
      refine (to1 k ad wr).mono ?_
      rintro e w2 ⟨rfl, b2⟩
      obtain ⟨⟨o1, h1⟩, ⟨o2, h2⟩, h3, h4, h5⟩ := HST2.out w2 b2
      have H5 := Lib.hid h5
      clear h5
      go_wp2
      go_roundw
      case rel => exact ⟨j + 1, by omega, by go_num, H5.out⟩
      case measure => simp [intOf]; omega
    · have e : j = n := by omega
      subst e
      obtain ⟨h1, h2⟩ := hr
      have h3 : OwnA wr w.heap.size (.slice (some ⟨w.heap.size, 0, none⟩) j j) xs := by
        unfold OwnA
        rw [HN.out]
        rw [HEND.out] at h1
        exact h1
      go_wp2
      go_ret
      exact ⟨_, rfl, h3, h2⟩
theorem drew_below {w w' : World} (h : Below w.drew.heap.size w.drew w') : Below w.heap.size w w' := (Below.refl _ w).drew.trans h
def BbA (b : Bool) (w : World) (e : Ending) (w' : World) : Prop := e = .returned (.bool b) ∧ Below w.heap.size w w'
set_option maxHeartbeats 1000000 in
theorem eq_any (a1 a2 : Option Addr) (c1 c2 : Nat) (xs : List (Int × Int)) (w : World) (hn : xs.length ≤ 1048576) (h1 : RowA w a1 xs) (h2 : RowA w a2 xs) :
    Calls Try.prog 15 #[.slice a1 xs.length c1, .slice a2 xs.length c2] w (BbA true w) := by
  have H1 := Lib.hid h1
  have H2 := Lib.hid h2
  clear h1 h2
  unfold RowA at H1 H2
  generalize hN : xs.length = N at *
  clear hN
  go_enter Try.func15, Try.ntmps15
  go_wp2
  go_loopw [5] (fun i wr => ∃ k : Nat, k ≤ N ∧ i = .int .i64 k ∧ Hid (Below w.heap.size w wr)) (fun i _ => N - (intOf i).toNat)
  case atStart => exact ⟨0, Nat.zero_le _, rfl, Below.refl _ _⟩
  case round =>
    obtain ⟨k, hk, rfl, hb⟩ := hrel
    by_cases hlt : k < N
    · obtain ⟨p1, off1, rfl, g1, g1', l1⟩ := H1.out k hlt
      obtain ⟨p2, off2, rfl, g2, g2', l2⟩ := H2.out k hlt
      have q1 := (hb.out.cell (p := ⟨p1, off1 + k * 2, none⟩) l1).trans g1
      have q1' := (hb.out.cell (p := ⟨p1, off1 + k * 2 + 1, none⟩) l1).trans g1'
      have q2 := (hb.out.cell (p := ⟨p2, off2 + k * 2, none⟩) l2).trans g2
      have q2' := (hb.out.cell (p := ⟨p2, off2 + k * 2 + 1, none⟩) l2).trans g2'
      have m1 : p1 < wr.heap.size := Nat.lt_of_lt_of_le l1 hb.out.size
      have m2 : p2 < wr.heap.size := Nat.lt_of_lt_of_le l2 hb.out.size
      clear g1 g1' g2 g2'
      generalize xs.getD k (0, 0) = r at *
      obtain ⟨x, y⟩ := r
      have HE := Lib.hid (fun w => eq1 x y w)
      have HK := Lib.hid (fun (w' : World) (bb : Below wr.heap.size wr w') => (show w'.cell? ⟨p1, off1 + k * 2, none⟩ = some (.int .i64 x) ∧ w'.cell? ⟨p1, off1 + k * 2 + 1, none⟩ = some (.int .i64 y) ∧ w'.cell? ⟨p2, off2 + k * 2, none⟩ = some (.int .i64 x) ∧ w'.cell? ⟨p2, off2 + k * 2 + 1, none⟩ = some (.int .i64 y) from
        ⟨(bb.cell (p := ⟨p1, off1 + k * 2, none⟩) m1).trans q1, (bb.cell (p := ⟨p1, off1 + k * 2 + 1, none⟩) m1).trans q1', (bb.cell (p := ⟨p2, off2 + k * 2, none⟩) m2).trans q2, (bb.cell (p := ⟨p2, off2 + k * 2 + 1, none⟩) m2).trans q2'⟩))
      have HB := Lib.hid (fun (w' : World) (bb : Below wr.heap.size wr w') => hb.out.trans (bb.mono hb.out.size))
      go_wp2
      go_region_held3 (fun w' => w'.cell? ⟨p1, off1 + k * 2, none⟩ = some (.int .i64 x) ∧ w'.cell? ⟨p1, off1 + k * 2 + 1, none⟩ = some (.int .i64 y) ∧ w'.cell? ⟨p2, off2 + k * 2, none⟩ = some (.int .i64 x) ∧ w'.cell? ⟨p2, off2 + k * 2 + 1, none⟩ = some (.int .i64 y)) (first | exact ⟨q1, q1', q2, q2'⟩ | exact HK.out _ (drew_below bb)) (first | (go_at_call 34; (with_reducible refine (HE.out _).mono ?_); rintro e w1 ⟨rfl, bb⟩))
      go_wp2
      go_roundw
      case rel => exact ⟨k + 1, by omega, by go_num, HB.out _ (drew_below bb)⟩
      case measure => simp [intOf]; omega
    · go_wp2
      go_ret
      exact ⟨rfl, hb.out⟩
end Go.Proofs.Ytngbddmbmkphcaa.Ac
