/- The law's marks in caches. -/
import Derived.Test.YtngbddmbmkphcaaG17
namespace Go.Proofs.Ytngbddmbmkphcaa.Pv
open Go.RowKit
def mkHK (K0 : Nat) (hs : List (List Int)) : List (List Int) := mk2 K0 (hs.map List.length)
def mkNK (K0 : Nat) (hs : List (List Int)) : Nat := K0 + (hs.map List.length).sum
theorem mkHK_length (K0 : Nat) (hs : List (List Int)) : (mkHK K0 hs).length = hs.length := by unfold mkHK; rw [mk2_length, List.length_map]
def MarkedPK (B T : Nat) (v : Value) (hs : List (List Int)) (ms : List Int) (K0 : Nat) (K : Nat) (w : World) (e : Ending) (w' : World) : Prop :=
  e = .returned (.int .i64 ((K : Nat) + (ms.length : Int))) ∧ OwnP w' B T v (mkHK K0 hs) (marks K ms.length) ∧ Wr B T w w'
theorem markPK_own (K0 : Nat) (hK0 : K0 ≤ 4000000) {w : World} {B T : Nat} {v : Value} {hs : List (List Int)} {ms : List Int} (o : OwnP w B T v hs ms) (hs1 : (hs.map List.length).sum ≤ 1048576) (hs2 : ms.length ≤ 1048576) (hB : B ≤ w.heap.size) :
    Calls Try.prog 35 #[v, .int .i64 (K0 : Int)] w (MarkedPK B T v hs ms K0 (mkNK K0 hs) w) := by
  obtain ⟨h, m, vs, rfl, p, q, ha, hm, hh, hv⟩ := o
  have p0 := Own2W.below p ((Below.refl w.heap.size w).alloc (Nat.le_refl _) (.cells #[h, m] 33)) (Nat.le_refl _)
  have q0 := q.below ((Below.refl w.heap.size w).alloc (Nat.le_refl _) (.cells #[h, m] 33)) (Nat.le_refl _)
  have W0 := Wr.alloc B T w (.cells #[h, m] 33)
  have hsz : (w.alloc (.cells #[h, m] 33)).heap.size = w.heap.size + 1 := Array.size_push _
  have HH := Lib.hid (mark2_ownW K0 p0 (by omega) (by omega))
  have hcell : ∀ w', Below (w.heap.size + 1) (w.alloc (.cells #[h, m] 33)) w' → w'.cell? ⟨w.heap.size, 1, none⟩ = some m := fun w' hb => by
    rw [hb.cell (p := ⟨w.heap.size, 1, none⟩) (by simp)]; simp [go_sem]
  have HF := Lib.hid (fun (w1 : World) (hf : Frm vs (hs.map List.length).length (w.alloc (.cells #[h, m] 33)) w1) => (show w1.cell? ⟨w.heap.size, 1, none⟩ = some m ∧ OwnW w1 B m ms by
    rw [List.length_map] at hf
    refine ⟨?_, q0.same fun b hb hlt => hf b hlt fun i hi => (ha b hb).2 i hi⟩
    have h1 := World.cell?_of_block (a := ⟨w.heap.size, 1, none⟩) (hf w.heap.size (by omega) fun i hi e => by have := (p.2.2.1 i hi).block _ e; omega)
    rw [h1]; simp [go_sem]))
  have HR := Lib.hid (fun (w1 : World) (B1 : Below B (w.alloc (.cells #[h, m] 33)) w1) (hf : Frm vs (hs.map List.length).length (w.alloc (.cells #[h, m] 33)) w1) => (show Wr B T w w1 from by
    rw [List.length_map] at hf
    refine W0.trans ⟨B1.os, B1.tape, B1.output, B1.size, fun b hb hr => hf b hb fun i hi e => ?_⟩
    have h1 := (p.2.2.1 i hi).block _ e
    have h2 := hv i b hi e
    omega))
  have HQ := Lib.hid (fun (w1 w2 : World) (o : Own2W w1 B h vs (mkHK K0 hs)) (g : w1.grownBy w2 m.ownBlock) => (show Own2W w2 B h vs (mkHK K0 hs) from by
    obtain ⟨g1, g2, g3, g4, g5⟩ := o
    have hne : ∀ k, m.ownBlock = some k → h.ownBlock ≠ some k := fun k hk => (ha k hk).1
    refine ⟨g1, World.ownsRow.kept g2 g ?_, fun i hi => (g3 i hi).kept g (fun k hk e => ?_), g4, g5⟩
    · cases hv : h.ownBlock with
      | none => exact .inl rfl
      | some k => exact .inr (fun e => hne k e.symm hv)
    · rw [mkHK_length] at hi
      exact (ha k e.symm).2 i hi hk))
  have HW := Lib.hid (fun (w1 w2 : World) (h1 : Wr B T w w1) (o : OwnW w1 B m ms) (g : w1.grownBy w2 m.ownBlock) => (show Wr B T w w2 from
    h1.trans ⟨g.os, g.tape, g.output, g.size, fun b hb hr => g.block b hb fun e => by
      have h1 := (o.block b e.symm).1
      have h2 := hm b e.symm
      omega⟩))
  have hk2 : ((mkNK K0 hs : Nat) : Int) ≤ 6000000 := by unfold mkNK; omega
  have HMK := Lib.hid (fun (w1 : World) (o : OwnW w1 B m ms) => mark_ownW (mkNK K0 hs) o (by omega))
  have HEND := Lib.hid (fun (w2 : World) (o1 : Own2W w2 B h vs (mkHK K0 hs)) (o2 : OwnW w2 B m (marks (mkNK K0 hs) ms.length)) => (show OwnP w2 B T (.agg #[h, m]) (mkHK K0 hs) (marks (mkNK K0 hs) ms.length) from
    ⟨h, m, vs, rfl, o1, o2, fun b hb => ⟨(ha b hb).1, fun i hi => (ha b hb).2 i (by rwa [mkHK_length] at hi)⟩, hm, hh, fun i k hi hk => hv i k (by rwa [mkHK_length] at hi) hk⟩))
  have HH2 : Hid (Calls Try.prog 55 #[h, .int .i64 (K0 : Int)] (w.alloc (.cells #[h, m] 33)) fun e w1 => e = .returned (.int .i64 ((mkNK K0 hs : Nat) : Int)) ∧ Own2W w1 B h vs (mkHK K0 hs) ∧ Below B (w.alloc (.cells #[h, m] 33)) w1 ∧ Frm vs (hs.map List.length).length (w.alloc (.cells #[h, m] 33)) w1) :=
    HH.out.mono fun e w1 ⟨h1, h2, h3, h4, h5⟩ => ⟨h1, h2, h3, h5⟩
  clear HH p q p0 q0 ha hm hh hv hcell W0 hs1
  generalize mkNK K0 hs = K at *
  go_enter Try.func35, Try.ntmps35
  go_wp2_with fail
  refine HH2.out.mono ?_; rintro e w1 ⟨rfl, o1, b1, f1⟩
  obtain ⟨hc, om⟩ := HF.out w1 f1
  have W1 := HR.out w1 b1 f1
  clear b1 f1
  go_wp2_with fail
  refine (HMK.out w1 om).mono ?_; rintro e w2 ⟨rfl, o2, g2⟩
  have E2 := HEND.out w2 (HQ.out w1 w2 o1 g2) o2
  have W2 := HW.out w1 w2 W1 om g2
  go_wp2
  go_ret
  exact ⟨rfl, E2, W2⟩
theorem wr_widen {B T B' T' : Nat} {w w' : World} (h : Wr B T w w') (hB : B' ≤ B) (hT : T ≤ T') : Wr B' T' w w' :=
  ⟨h.os, h.tape, h.output, h.size, fun b hb hr => h.block b hb (by omega)⟩
def MarkCR (B T : Nat) (w : World) (e : Ending) (w2 : World) : Prop := ∃ k : Int, e = .returned (.int .i64 k) ∧ (0 ≤ k ∧ k ≤ 100000000) ∧ Wr B T w w2
theorem markC_own {w : World} {B T : Nat} {a a' : Option Addr} {n c n' c' : Nat} {bk al : Bool} {hs : List (List Int)} {ms : List Int} (o1 : OwnP w B T (.agg #[.slice a n c, .slice a' n' c']) hs ms) (s1 : (hs.map List.length).sum ≤ 1048576) (s2 : ms.length ≤ 1048576) (hB : B ≤ w.heap.size) :
    Calls Try.prog 16 #[.agg #[.slice a n c, .slice a' n' c', .bool bk, .bool al], .int .i64 1] w (MarkCR B T w) := by
  have b0 := (Below.refl w.heap.size w).alloc (Nat.le_refl _) (.cells #[.slice a n c, .slice a' n' c', .bool bk, .bool al] 35)
  have W0 := Wr.alloc B T w (.cells #[.slice a n c, .slice a' n' c', .bool bk, .bool al] 35)
  have hsz : (w.alloc (.cells #[.slice a n c, .slice a' n' c', .bool bk, .bool al] 35)).heap.size = w.heap.size + 1 := Array.size_push _
  have H1 := Lib.hid (markPK_own 1 (by decide) (o1.below b0 (Nat.le_refl _)) s1 s2 (by omega))
  have hk : 0 ≤ ((mkNK 1 hs : Nat) : Int) + (ms.length : Int) ∧ ((mkNK 1 hs : Nat) : Int) + (ms.length : Int) ≤ 100000000 := by unfold mkNK; omega
  have HK := Lib.hid hk
  have HW := Lib.hid W0
  unfold MarkedPK at H1
  clear o1 b0 W0 s1 s2 hk
  generalize ((mkNK 1 hs : Nat) : Int) + (ms.length : Int) = k at *
  go_enter Try.func16, Try.ntmps16
  go_wp2_with fail
  refine H1.out.mono ?_; rintro e w1 ⟨rfl, _, wr⟩
  have HR := Lib.hid (HW.out.trans wr)
  clear wr
  go_wp2
  go_ret
  exact ⟨_, rfl, HK.out, HR.out⟩
end Go.Proofs.Ytngbddmbmkphcaa.Pv
