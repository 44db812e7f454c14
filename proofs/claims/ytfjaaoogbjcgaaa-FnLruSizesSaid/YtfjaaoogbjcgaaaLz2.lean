/- The set that the program makes of what an iterator yields, whatever iterator; the library's and the program's own iterators. The contracts of both AddressesOf. The model's source of choices: what the next choice and a pick are, and that only the source's own block changes. Contracts of laws.r8Long, laws.r8At and of the model's drawn uses. Contracts of the laws' own helpers: the lesser of two, membership, sums, equality of lists. -/
import Derived.Test.YtfjaaoogbjcgaaaCwide
import Derived.Test.YtfjaaoogbjcgaaaCappg
import Derived.RangeFuncBox
import Derived.RangeFuncCalls
import Derived.RangeFuncNested
import Derived.RangeFuncBound
import Derived.Shelf.RegionOpen
import Derived.RangeFuncLeaves
import Derived.Shelf.Abstract
import Derived.OwnWalkIn
import Derived.TacticsInMore
import Derived.LoopNIn
import Derived.LoopIn
import Derived.Test.YtfjaaoogbjcgaaaCrd
import Derived.Laws.ShiftsVarLaws
import Derived.Laws.BitsAllLaws
import Derived.IntWalk
import Derived.Test.YtfjaaoogbjcgaaaCRow
import Derived.Test.YtfjaaoogbjcgaaaCuses
import Derived.Test.YtfjaaoogbjcgaaaPlainUses
namespace Go.Proofs.Ytfjaaoogbjcgaaa.Tr
open Go.RowKit Go.Shelf
attribute [local go_sem] Oper.semAt_some
theorem keeps_below {W W1 : World} (h : Below W.heap.size W W1) : KeepsOthers W W1 := ⟨h.size, fun k o hk _ => (h.block k (Array.getElem?_eq_some_iff.1 hk).1).trans hk⟩
abbrev encI : Int → Array Value := fun x => #[.int .i64 x]
set_option maxRecDepth 100000 in
set_option maxHeartbeats 2000000 in
theorem set_i (g : Nat) (lb : Array Value) (eg : ∀ args w, (callFunc g args).run Try.prog w = .ok (.enter g args) w) (xs : List Int) (Sp : List Int → Prop) (N : Nat) (hN : N ≤ 900) (w : World)
    (hseq : SeqStopsK Fence.wide 5 Try.prog g lb encI (Below w.heap.size) (fun ys => ys = xs) Sp N w) :
    Calls Try.prog 22 #[.func (.func g) #[] lb] w (Lb (setP xs) w) := by
  refine (callsIn_wide (n := 6)).1 ?_
  refine callsIn_of_wp_marks Try.func22 rfl trivial ?_ rfl
  simp only [Try.ntmps22, List.size_toArray, List.length_cons, List.length_nil, Nat.reduceAdd, Nat.reduceSub, Array.replicate_succ, Array.replicate_zero, List.push_toArray, List.append_toArray, List.nil_append, List.cons_append]
  gi_wp2
  have bS := Boxed.new w 24 (.slice none 0 0)
  have hB0 : Below w.heap.size w (w.alloc (.cells #[.slice none 0 0] 24)) := (Below.refl _ w).alloc (Nat.le_refl _) _
  refine wpIn_rangeFunc_ownG rfl (by omega) (gf := g) (lb := lb) rfl trivial eg hseq belowK_t (belowK_b (by simp)) hB0 (fun _ => rfl)
    (fun pre W => (∃ v, Boxed W w.heap.size 24 v ∧ W.ownsRow w.heap.size 2 1 v (setP pre).length ((setP pre).map (Value.int .i64)) ∧ True) ∧ Below w.heap.size w W)
    (fun _ _ _ => False)
    (OwnFrom.and (Own.from (holdsRow_own w.heap.size w.heap.size 24 2 1 (fun pre : List Int => (setP pre).length) (fun pre => (setP pre).map (Value.int .i64)) (fun _ _ => True)) _) (ownFrom_below (Nat.le_refl _) (by simp)))
    (fun _ _ _ _ _ hs _ _ => hs)
    ⟨⟨_, bS, World.ownsRow_nil _ _ _ _, trivial⟩, hB0⟩
    (fun x => { tmps := #[.func (.func g) #[] lb, undef, .slice none 0 0, .pointer (some ⟨w.heap.size, 0, none⟩), .int .i64 x, .func (.func g) #[] lb, .int .i64 x, undef, undef, undef, undef], defers := [] }) ?assign ?body ?done ?stop
  case assign =>
    intro l x W K hK
    gi_wp2
    exact hK
  case body =>
    rintro l pre x W ⟨⟨v, hbx, hrow, _⟩, hB⟩ hlen
    have hcell := hbx.cell
    have hlt := hbx.lt
    have hown : Go.Proofs.Ytfjaaoogbjcgaaa.Own W w.heap.size v (setP pre) := hrow
    have hsl := setP_length pre
    have hw := Lib.hid (wide_R x hown.rd (setP_up pre) (by omega))
    have HP := Lib.hid (setP_snoc pre x)
    obtain ⟨zs, hzs⟩ : ∃ zs, put (setP pre) x = zs := ⟨_, rfl⟩
    rw [hzs] at hw HP
    clear hzs
    have hfr := hbx.frozen
    gi_wp2
    refine ⟨trivial, ?_⟩
    refine (CallsIn.inRound l (callsIn_wide.2 hw.out)).mono ?_
    rintro e W1 ⟨v1, rfl, ho1, hb1⟩
    obtain ⟨a1, c1, hv1⟩ := ho1.form
    subst hv1
    have hc1 : W1.cell? ⟨w.heap.size, 0, none⟩ = some v := (hb1.cell (p := ⟨w.heap.size, 0, none⟩) hlt).trans hcell
    have hf1 : W1.frozen? ⟨w.heap.size, 0, none⟩ = false := (hb1.frozen (p := ⟨w.heap.size, 0, none⟩) hlt).trans hbx.frozen
    gi_wp2
    have hbx1 : Boxed W1 w.heap.size 24 v := (hb1.block w.heap.size hlt).trans hbx
    have hsz : w.heap.size ≤ W.heap.size := hB.size
    have hro : (W1.setCell ⟨w.heap.size, 0, none⟩ (.slice a1 zs.length c1)).ownsRow W.heap.size 2 1 (.slice a1 zs.length c1) zs.length (zs.map (Value.int .i64)) := ownsRow_setCell_below (show W1.ownsRow W.heap.size 2 1 _ _ _ from ho1) hlt _
    refine ⟨((keeps_below hb1).trans (KeepsOthers.setCell _ _ _)).from _, (hb1.mono hsz).setCell (p := ⟨w.heap.size, 0, none⟩) (Nat.le_refl _) _, ⟨_, hbx1.set _, ?_, trivial⟩, (hB.trans (hb1.mono hsz)).setCell (p := ⟨w.heap.size, 0, none⟩) (Nat.le_refl _) _⟩
    rw [HP.out]
    exact (show Go.Proofs.Ytfjaaoogbjcgaaa.Own _ W.heap.size _ zs from hro).mono hsz
  case done =>
    rintro D ys W hD rfl ⟨⟨v, hbx, hrow, _⟩, hB⟩ hK
    have hcell := hbx.cell
    have hown : Go.Proofs.Ytfjaaoogbjcgaaa.Own W w.heap.size v (setP ys) := hrow
    obtain ⟨a, c, hv⟩ := hown.form
    subst hv
    gi_wp2
    refine ⟨by simp, .inl ⟨_, _, rfl, run_takeDeferred hK, ?_⟩⟩
    refine ⟨_, results_tmp rfl _ _ _, _, rfl, ?_, ?_⟩
    · exact (ownsRow_putObj hrow _ hK rfl : World.ownsRow _ _ _ _ (.slice a (setP ys).length c) _ _)
    · exact hB.trans (belowK_b (w := w) (Nat.le_refl _) W D _ _ (by simp at hD; omega) hK rfl rfl)
  case stop =>
    rintro D c pre W _ _ h _
    exact h.elim
set_option maxRecDepth 100000 in
set_option maxHeartbeats 2000000 in
theorem vals_stops (n Bs : Nat) (hn : 1 ≤ n) (a : Option Addr) (c : Nat) (zs : List Int) (hl : zs.length ≤ 1000) (w : World) (hBs : Bs < w.heap.size) (hc : w.cell? ⟨Bs, 0, none⟩ = some (.slice a zs.length c)) (hr : Row w a zs) :
    SeqStopsK Fence.wide n Try.prog 39 #[.pointer (some ⟨Bs, 0, none⟩)] encI (Below w.heap.size) (fun ys => ys = zs) (fun _ => True) zs.length w := fun l J Jx W hW _ _ hY h0 => by
  have hc' := (hW.cell (p := ⟨Bs, 0, none⟩) hBs).trans hc
  have HC : ∀ (wr : World), Below w.heap.size W wr → ∀ i, i < zs.length → ∃ b off, a = some ⟨b, off, none⟩ ∧ wr.cell? ⟨b, off + i, none⟩ = some (.int .i64 (zs.getD i 0)) := fun wr hb i hi => by
    obtain ⟨b, off, ha, h1, h2⟩ := hr i hi
    exact ⟨b, off, ha, (hb.cell (p := ⟨b, off + i, none⟩) h2).trans ((hW.cell (p := ⟨b, off + i, none⟩) h2).trans h1)⟩
  have HCH := Lib.hid HC
  have HE := Lib.hid (show zs.take zs.length = zs by rw [List.take_length])
  have HT := Lib.hid (fun k (h : k < zs.length) => (show zs.take (k + 1) = zs.take k ++ [zs.getD k 0] by rw [List.take_succ_eq_append_getElem h, getD_get' zs k h]))
  have HL := Lib.hid (fun k (h : k ≤ zs.length) => (show (zs.take k).length = k by rw [List.length_take]; omega))
  have HY := Lib.hid hY
  clear HC hr hY hc hW
  refine callsIn_of_wp Try.func39 rfl trivial ?_ rfl
  simp only [Try.ntmps39, List.size_toArray, List.length_cons, List.length_nil, Nat.reduceAdd, Nat.reduceSub, Array.replicate_succ, Array.replicate_zero, List.push_toArray, List.append_toArray, List.nil_append, List.cons_append]
  gi_wp2
  gi_loopw [7] (fun i wr => ∃ k : Nat, k ≤ zs.length ∧ i = .int .i64 k ∧ J (zs.take k) wr ∧ Below w.heap.size W wr) (fun i _ => zs.length - (intOf i).toNat)
  case atStart => exact ⟨0, Nat.zero_le _, rfl, h0, Below.refl _ _⟩
  case round =>
    obtain ⟨k, hk, rfl, hJs, hnx⟩ := hrel
    by_cases hlt : k < zs.length
    · obtain ⟨b, off, rfl, hcx⟩ := HCH.out wr hnx k hlt
      obtain ⟨fn, tmps, assign, body, hy, hR⟩ := HY.out _ (zs.getD k 0) wr hJs (by rw [HL.out k hk]; exact hlt)
      dsimp only [encI] at hy
      have ht := Lib.hid (HT.out k hlt)
      generalize zs.getD k 0 = u at *
      gi_wp2
      refine hR.mono ?_
      rintro e W3 (⟨rfl, hJ3, hk3⟩ | ⟨rfl, hJx3⟩)
      · gi_wp2
        go_roundw
        case rel => exact ⟨k + 1, by omega, by go_num, by rw [ht.out]; exact hJ3, hnx.trans hk3⟩
        case measure => simp [intOf]; omega
      · gi_wp2
        refine bodyPost_ret (results_none rfl _ _ _) rfl ?_
        exact ⟨⟨_, rfl⟩, .inr ⟨_, trivial, hJx3⟩⟩
    · have e : k = zs.length := by omega
      subst e
      rw [HE.out] at hJs
      gi_wp2
      go_end0
      exact ⟨⟨_, rfl⟩, .inl ⟨_, rfl, hJs⟩⟩
theorem vals_value (a : Option Addr) (n c : Nat) (w : World) :
    Calls Try.prog 23 #[.slice a n c] w fun e w' => e = .returned (.func (.func 39) #[] #[.pointer (some ⟨w.heap.size, 0, none⟩)]) ∧ w' = w.alloc (.cells #[.slice a n c] 24) := by
  go_enter Try.func23, Try.ntmps23
  go_wp2
  go_ret
  exact ⟨rfl, rfl⟩
/-- The set of a list by the library's iterator over it. -/
theorem vals_set (a : Option Addr) (c : Nat) (zs : List Int) (hl : zs.length ≤ 900) (w : World) (hr : Row w a zs) :
    Calls Try.prog 22 #[.func (.func 39) #[] #[.pointer (some ⟨w.heap.size, 0, none⟩)]] (w.alloc (.cells #[.slice a zs.length c] 24)) (Lb (setP zs) (w.alloc (.cells #[.slice a zs.length c] 24))) := by
  have hb : Below w.heap.size w (w.alloc (.cells #[.slice a zs.length c] 24)) := (Below.refl _ _).alloc (Nat.le_refl _) _
  exact set_i _ _ (enters_of Try.func39 (by kernel_rfl) rfl) zs (fun _ => True) zs.length hl _ (vals_stops 5 w.heap.size (by omega) a c zs (by omega) _ (by simp) (by simp) (hr.below hb))
end Go.Proofs.Ytfjaaoogbjcgaaa.Tr
namespace Go.Proofs.Ytfjaaoogbjcgaaa.Tr
open Go.RowKit
theorem addr_no_i {v : Value} {xs : List Int} {w : World} (h : Rd w v xs) (hn : xs.length ≤ 1048576) (hok : okU xs = false) :
    Calls Try.prog 7 #[v] w (Res [] false w) := by
  have hU := Lib.hid (uses_iR h hn)
  rw [hok] at hU
  go_enter Try.func7, Try.ntmps7
  go_wp2_with (go_at_call 17; refine hU.out.mono ?_; rintro e w' ⟨rfl, rfl⟩)
  go_ret2
  exact ⟨_, rfl, Own.nil _ _, Below.refl _ _⟩
theorem addr_yes_i {v : Value} {xs : List Int} {w : World} (h : Rd w v xs) (hok : okU xs = true) :
    Calls Try.prog 7 #[v] w (Res (setP xs) true w) := by
  have hn := okU_len hok
  have hU := Lib.hid (uses_iR h (by omega))
  rw [hok] at hU
  obtain ⟨a, c, rfl, _, _, hr⟩ := h
  have hV := Lib.hid (vals_value a xs.length c w)
  have hS := Lib.hid (vals_set a c xs (by omega) w hr)
  have hb0 : Below w.heap.size w (w.alloc (.cells #[.slice a xs.length c] 24)) := (Below.refl _ _).alloc (Nat.le_refl _) _
  generalize setP xs = ys at *
  generalize xs.length = N at *
  go_enter Try.func7, Try.ntmps7
  go_wp2_with (first | (go_at_call 17; refine hU.out.mono ?_; rintro e w' ⟨rfl, rfl⟩) | (go_at_call 23; refine hV.out.mono ?_; rintro e w0 ⟨rfl, rfl⟩) | (go_at_call 22; refine hS.out.mono ?_; rintro e w1 ⟨v1, rfl, ho, hb⟩))
  go_ret2
  exact ⟨_, rfl, ho.mono (by simp), hb0.trans (hb.mono (by simp))⟩
end Go.Proofs.Ytfjaaoogbjcgaaa.Tr
namespace Go.Proofs.Ytfjaaoogbjcgaaa.Sr
open Go.RowKit
/-- Behind a lie n bytes, below B. -/
def Byt (w : World) (B : Nat) (a : Option Addr) (n : Nat) : Prop :=
  ∀ i, i < n → ∃ b off, a = some ⟨b, off, none⟩ ∧ b < B ∧ ∃ x : Int, w.cell? ⟨b, off + i, none⟩ = some (.int .u8 x) ∧ 0 ≤ x ∧ x ≤ 255
theorem Byt.below {w w' : World} {B : Nat} {a : Option Addr} {n : Nat} (h : Byt w B a n) (hb : Below B w w') : Byt w' B a n := fun i hi => by
  obtain ⟨b, off, ha, hlt, x, hc, hx⟩ := h i hi
  exact ⟨b, off, ha, hlt, x, (hb.cell (p := ⟨b, off + i, none⟩) hlt).trans hc, hx⟩
/-- The source lies in block g, at most K choices having been read. -/
def Src (w : World) (B g : Nat) (a : Option Addr) (n c K : Nat) : Prop :=
  B ≤ g ∧ Byt w B a n ∧ ∃ (k : Nat) (seed : Int), k ≤ K ∧ 0 ≤ seed ∧ seed ≤ 18446744073709551615 ∧ w.heap[g]? = some (.cells #[.slice a n c, .int .i64 (k : Int), .int .u64 seed] 66 (0, 0))
/-- What a step of the source leaves: a number of a range, and the source. -/
def Pk (lo hi : Int) (B g : Nat) (a : Option Addr) (n c K : Nat) (w : World) (e : Ending) (w' : World) : Prop :=
  ∃ r : Int, lo ≤ r ∧ r ≤ hi ∧ e = .returned (.int .i64 r) ∧ Src w' B g a n c K ∧ w.grownBy w' (some g)
theorem grown_set (w : World) (g i : Nat) (v : Value) : w.grownBy (w.setCell ⟨g, i, none⟩ v) (some g) :=
  ⟨rfl, rfl, rfl, ((Below.refl 0 w).setCell (p := ⟨g, i, none⟩) (Nat.zero_le _) v).size, fun k _ hk => Below.heap_setCell _ _ _ k (fun e => hk (by rw [e]))⟩
theorem grown_drewN (w w' : World) (r : Option Nat) (n : Nat) (h : w.grownBy w' r) : w.grownBy (w'.drewN n) r := ⟨h.os, h.tape, h.output, h.size, h.block⟩
theorem trans_g {a b c : World} {r : Option Nat} (h : a.grownBy b r) (k : b.grownBy c r) : a.grownBy c r := grownBy_trans h k
theorem Src.below {w w' : World} {B g n c K : Nat} {a : Option Addr} (h : Src w B g a n c K) (hb : Below w.heap.size w w') : Src w' B g a n c K := by
  obtain ⟨h1, h2, k, seed, h3, h4, h5, h6⟩ := h
  have hlt := (Array.getElem?_eq_some_iff.1 h6).1
  exact ⟨h1, h2.below (hb.mono (by omega)), k, seed, h3, h4, h5, by rw [hb.block g hlt]; exact h6⟩
theorem Src.mono {w : World} {B g n c K K' : Nat} {a : Option Addr} (h : Src w B g a n c K) (hK : K ≤ K') : Src w B g a n c K' := by
  obtain ⟨h1, h2, k, seed, h3, h⟩ := h
  exact ⟨h1, h2, k, seed, Nat.le_trans h3 hK, h⟩
theorem Src.lt {w : World} {B g n c K : Nat} {a : Option Addr} (h : Src w B g a n c K) : g < w.heap.size := by
  obtain ⟨_, _, k, seed, _, _, _, h6⟩ := h
  exact (Array.getElem?_eq_some_iff.1 h6).1
theorem and255 (v : Int) (h0 : 0 ≤ v) (h1 : v ≤ 18446744073709551615) : 0 ≤ wrap64 (bits .and .u64 (v / 1099511627776) 255) ∧ wrap64 (bits .and .u64 (v / 1099511627776) 255) ≤ 255 := by
  rw [u64_and _ _ (by omega) (by omega) (by omega) (by omega)]
  have h := Nat.and_le_right (n := (v / 1099511627776).toNat) (m := (255 : Int).toNat)
  have e : (255 : Int).toNat = 255 := rfl
  rw [e] at h ⊢
  generalize ((v / 1099511627776).toNat &&& 255) = y at *
  unfold wrap64
  omega
theorem nil63 : ∀ y ∈ ([] : List Int), 0 ≤ y ∧ y ≤ 63 := fun _ hy => absurd hy List.not_mem_nil
theorem app63 {l : List Int} {r : Int} (h : ∀ y ∈ l, 0 ≤ y ∧ y ≤ 63) (h0 : 0 ≤ r) (h1 : r ≤ 63) : ∀ y ∈ l ++ [r], 0 ≤ y ∧ y ≤ 63 := fun y hy => by
  rcases List.mem_append.1 hy with hy | hy
  · exact h y hy
  · rw [List.mem_singleton] at hy
    subst hy
    exact ⟨h0, h1⟩
set_option maxHeartbeats 2000000 in
set_option maxRecDepth 100000 in
theorem next_s (B g n c K : Nat) (a : Option Addr) (w : World) (hn : n ≤ 2000000) (hK : K ≤ 1000000) (h : Src w B g a n c K) :
    Calls Try.prog 34 #[.pointer (some ⟨g, 0, none⟩)] w (Pk 0 255 B g a n c (K + 1) w) := by
  obtain ⟨hB, hby, k, seed, hk, hs0, hs1, hh⟩ := h
  have c0 : w.cell? ⟨g, 0, none⟩ = some (.slice a n c) := by simp [World.cell?, hh]
  have c1 : w.cell? ⟨g, 1, none⟩ = some (.int .i64 (k : Int)) := by simp [World.cell?, hh]
  have c2 : w.cell? ⟨g, 2, none⟩ = some (.int .u64 seed) := by simp [World.cell?, hh]
  have f1 : w.frozen? ⟨g, 1, none⟩ = false := by simp [World.frozen?, hh]
  have f2 : w.frozen? ⟨g, 2, none⟩ = false := by simp [World.frozen?, hh]
  have key : ∀ (m : Nat) (v : Int), (((w.drewN m).setCell ⟨g, 1, none⟩ (.int .i64 ((k : Int) + 1))).setCell ⟨g, 2, none⟩ (.int .u64 v)).heap[g]? = some (.cells #[.slice a n c, .int .i64 (((k + 1 : Nat)) : Int), .int .u64 v] 66 (0, 0)) ∧
      w.grownBy (((w.drewN m).setCell ⟨g, 1, none⟩ (.int .i64 ((k : Int) + 1))).setCell ⟨g, 2, none⟩ (.int .u64 v)) (some g) ∧ Byt (((w.drewN m).setCell ⟨g, 1, none⟩ (.int .i64 ((k : Int) + 1))).setCell ⟨g, 2, none⟩ (.int .u64 v)) B a n := fun m v => by
    have g1 := trans_g (grown_set (w.drewN m) g 1 (.int .i64 ((k : Int) + 1))) (grown_set _ g 2 (.int .u64 v))
    have g2 : w.grownBy (((w.drewN m).setCell ⟨g, 1, none⟩ (.int .i64 ((k : Int) + 1))).setCell ⟨g, 2, none⟩ (.int .u64 v)) (some g) := ⟨g1.os, g1.tape, g1.output, g1.size, g1.block⟩
    refine ⟨?_, g2, hby.below ((Below.refl B w).grown g2 (by have := (Array.getElem?_eq_some_iff.1 hh).1; omega) (fun q hq => by injection hq with hq; omega))⟩
    rw [heap_setCell_same _ g 2 _ _ _ (heap_setCell_same (w.drewN m) g 1 _ _ _ hh)]
    rfl
  have KEY := Lib.hid key
  have HBY := Lib.hid hby
  clear key hh hby
  by_cases hat : k < n
  · obtain ⟨b, off, rfl, hlt, x, hc, hx0, hx1⟩ := HBY.out k hat
    have h2 : (k : Int) < (n : Int) := by omega
    go_enter Try.func34, Try.ntmps34
    go_wp2
    go_quiet (fail)
    go_wp2
    go_quiet (fail)
    go_wp2
    rename_i nq
    generalize hv : IntKind.u64.wrap (IntKind.u64.wrap (IntKind.u64.wrap (seed * 6364136223846793005) + x) + 1442695040888963407) = v at *
    have hv2 : 0 ≤ v ∧ v ≤ 18446744073709551615 := by rw [IntKind.wrap_u64] at hv; omega
    clear hv
    obtain ⟨hh2, gr2, by2⟩ := KEY.out _ v
    generalize World.setCell (World.setCell (World.drewN w _) ⟨g, 1, none⟩ _) ⟨g, 2, none⟩ _ = w2 at *
    have d0 : w2.cell? ⟨g, 0, none⟩ = some (.slice (some ⟨b, off, none⟩) n c) := by simp [World.cell?, hh2]
    have d1 : w2.cell? ⟨g, 1, none⟩ = some (.int .i64 (((k + 1 : Nat)) : Int)) := by simp [World.cell?, hh2]
    have h3 : (((k + 1 : Nat)) : Int) ≤ (n : Int) := by omega
    have HH := Lib.hid hh2
    clear hh2
    go_quiet (fail)
    go_wp2
    go_ret
    exact ⟨x, hx0, hx1, rfl, ⟨hB, by2, k + 1, v, by omega, hv2.1, hv2.2, HH.out⟩, grown_drewN _ _ _ _ gr2⟩
  · have h2 : ¬ (k : Int) < (n : Int) := by omega
    go_enter Try.func34, Try.ntmps34
    go_wp2
    go_quiet (fail)
    go_wp2
    generalize hv : IntKind.u64.wrap (IntKind.u64.wrap (IntKind.u64.wrap (seed * 6364136223846793005)) + 1442695040888963407) = v at *
    have hv2 : 0 ≤ v ∧ v ≤ 18446744073709551615 := by rw [IntKind.wrap_u64] at hv; omega
    clear hv
    obtain ⟨hh2, gr2, by2⟩ := KEY.out _ v
    generalize World.setCell (World.setCell (World.drewN w _) ⟨g, 1, none⟩ _) ⟨g, 2, none⟩ _ = w2 at *
    have d0 : w2.cell? ⟨g, 0, none⟩ = some (.slice a n c) := by simp [World.cell?, hh2]
    have d1 : w2.cell? ⟨g, 1, none⟩ = some (.int .i64 (((k + 1 : Nat)) : Int)) := by simp [World.cell?, hh2]
    have d2 : w2.cell? ⟨g, 2, none⟩ = some (.int .u64 v) := by simp [World.cell?, hh2]
    have h3 : ¬ (((k + 1 : Nat)) : Int) ≤ (n : Int) := by omega
    have HH := Lib.hid hh2
    clear hh2
    go_quiet (fail)
    go_wp2
    go_ret
    obtain ⟨e0, e1⟩ := and255 v hv2.1 hv2.2
    exact ⟨_, e0, e1, rfl, ⟨hB, by2, k + 1, v, by omega, hv2.1, hv2.2, HH.out⟩, grown_drewN _ _ _ _ gr2⟩
/-- pick of at most 200. -/
theorem pick_s (B g n c K m : Nat) (a : Option Addr) (w : World) (hn : n ≤ 2000000) (hK : K ≤ 1000000) (hm1 : 1 ≤ m) (hm : m ≤ 200) (h : Src w B g a n c K) :
    Calls Try.prog 15 #[.pointer (some ⟨g, 0, none⟩), .int .i64 (m : Int)] w (Pk 0 ((m : Int) - 1) B g a n c (K + 1) w) := by
  by_cases hm2 : m = 1
  · subst hm2
    have H := Lib.hid h
    go_enter Try.func15, Try.ntmps15
    go_wp2
    go_ret
    exact ⟨0, by omega, by omega, rfl, H.out.mono (by omega), ⟨rfl, rfl, rfl, Nat.le_refl _, fun _ _ _ => rfl⟩⟩
  · have hN := Lib.hid (next_s B g n c K a w hn hK h)
    clear h
    have h1 : ¬ (m : Int) ≤ 1 := by omega
    have h2 : ¬ (200 : Int) < (m : Int) := by omega
    go_enter Try.func15, Try.ntmps15
    go_wp2_with (go_at_call 34; refine hN.out.mono ?_; rintro e w1 ⟨r, hr0, hr1, rfl, hs, hg⟩)
    go_ret
    refine ⟨_, ?_, ?_, rfl, hs, hg⟩
    · exact Int.emod_nonneg _ (by omega)
    · have := Int.emod_lt_of_pos r (show (0 : Int) < (m : Int) by omega); omega
def Am (ys : List Int) (B g : Nat) (a : Option Addr) (n c K : Nat) (w : World) (e : Ending) (w' : World) : Prop :=
  ∃ r : Int, r ∈ ys ∧ e = .returned (.int .i64 r) ∧ Src w' B g a n c K ∧ w.grownBy w' (some g)
theorem among_s (B C g n c K : Nat) (a : Option Addr) (v : Value) (ys : List Int) (w : World) (hn : n ≤ 2000000) (hK : K ≤ 1000000) (h1 : 0 < ys.length) (h2 : ys.length ≤ 200) (hy : Own w C v ys) (hne : ∀ k, v.ownBlock = some k → k ≠ g) (h : Src w B g a n c K) :
    Calls Try.prog 35 #[.pointer (some ⟨g, 0, none⟩), v] w (Am ys B g a n c (K + 1) w) := by
  have hP := Lib.hid (pick_s B g n c K ys.length a w hn hK h1 h2 h)
  have HK := Lib.hid (fun (w' : World) (hg : w.grownBy w' (some g)) => (Own.kept hy hg fun k hk e => hne k hk (by injection e)))
  have hv : ∃ b cap, v = .slice (some ⟨b, 0, none⟩) ys.length cap := by
    rcases hy.cases with ⟨_, e⟩ | ⟨b, cap, e, _⟩
    · rw [e] at h1; simp at h1
    · exact ⟨b, cap, e⟩
  obtain ⟨b, cap, rfl⟩ := hv
  clear hy hne h
  have HM := Lib.hid (fun i (hi : i < ys.length) => (show ys.getD i 0 ∈ ys by rw [List.getD_eq_getElem?_getD, List.getElem?_eq_getElem hi]; exact List.getElem_mem hi))
  generalize hL : ys.length = L at *
  go_enter Try.func35, Try.ntmps35
  go_wp2_with fail
  refine hP.out.mono ?_
  rintro e w1 ⟨r, hr0, hr1, rfl, hs, hg⟩
  obtain ⟨i, rfl⟩ := Int.eq_ofNat_of_zero_le hr0
  have hi : i < L := by omega
  have ho := HK.out w1 hg
  have hc : w1.cell? ⟨b, i, none⟩ = some (.int .i64 (ys.getD i 0)) := by
    rcases ho.cases with ⟨e, _⟩ | ⟨b', cap', e, _, _, _, hc, _⟩
    · cases e
    · injection e with e1 e2 e3
      injection e1 with e1
      injection e1 with e1
      subst e1
      exact hc i (by omega)
  have hm := HM.out i hi
  clear ho
  generalize ys.getD i 0 = u at *
  have hi2 : (i : Int) < (L : Int) := by omega
  go_wp2
  go_ret
  exact ⟨u, hm, rfl, hs, hg⟩
theorem Src.keep {w w' : World} {B C g n c K : Nat} {a : Option Addr} (h : Src w B g a n c K) (hb : Below C w w') (hg : g < C) : Src w' B g a n c K := by
  obtain ⟨h1, h2, k, seed, h3, h4, h5, h6⟩ := h
  exact ⟨h1, h2.below (hb.mono (by omega)), k, seed, h3, h4, h5, by rw [hb.block g hg]; exact h6⟩
def Few (N : Nat) (B : Nat) (w : World) (e : Ending) (w' : World) : Prop :=
  ∃ v l, e = .returned v ∧ l.length = N ∧ (∀ y ∈ l, 0 ≤ y ∧ y ≤ 63) ∧ Own w' w.heap.size v l ∧ Below B w w'
def F1 (w : World) (B g : Nat) (a : Option Addr) (n c K j : Nat) (v : Value) (wr : World) : Prop :=
  ∃ l : List Int, l.length = j ∧ (∀ y ∈ l, 0 ≤ y ∧ y ≤ 63) ∧ Own wr w.heap.size v l ∧ Src wr B g a n c (K + j) ∧ Below B w wr
def F2 (w : World) (B g : Nat) (a : Option Addr) (n c K M j : Nat) (v v2 : Value) (wr : World) : Prop :=
  ∃ l l2 : List Int, l.length = M ∧ (∀ y ∈ l, 0 ≤ y ∧ y ≤ 63) ∧ l2.length = j ∧ (∀ y ∈ l2, 0 ≤ y ∧ y ≤ 63) ∧ Own wr w.heap.size v l ∧ Own wr w.heap.size v2 l2 ∧ Apart v2 v ∧ Src wr B g a n c (K + M + j) ∧ Below B w wr
set_option maxHeartbeats 1500000 in
theorem few_s (B g n c K N M : Nat) (a : Option Addr) (w : World) (hn : n ≤ 2000000) (hK : K ≤ 1000) (hN : N ≤ 60) (hM1 : 1 ≤ M) (hM : M ≤ 60) (h : Src w B g a n c K) :
    Calls Try.prog 16 #[.pointer (some ⟨g, 0, none⟩), .int .i64 (N : Int), .int .i64 (M : Int)] w (Few N B w) := by
  have hlt := h.lt
  have hBg := h.1
  have H := Lib.hid h
  clear h
  go_enter Try.func16, Try.ntmps16
  go_wp2
  go_loopw [7, 8] (fun v i wr => ∃ j : Nat, j ≤ M ∧ i = .int .i64 j ∧ Hid (F1 w B g a n c K j v wr)) (fun _ i _ => M - (intOf i).toNat)
  case atStart => exact ⟨0, Nat.zero_le _, rfl, (show F1 _ _ _ _ _ _ _ _ _ _ from ⟨[], rfl, nil63, Own.lit0 w, H.out.below (Below.alloc (Below.refl _ _) (Nat.le_refl _) _), (Below.refl _ _).alloc (by omega) _⟩)⟩
  case round =>
    obtain ⟨j, hj, rfl, hf⟩ := hrel
    obtain ⟨l, hl, hmem, ho, hs, hb⟩ := hf.out
    have hsz : w.heap.size ≤ wr.heap.size := hb.size
    by_cases hlt2 : j < M
    · have hP := Lib.hid (pick_s B g n c (K + j) 64 a wr hn (by omega) (by omega) (by omega) hs)
      have hq : l.length + 1 ≤ 1000000000 := by omega
      have hvb := ho.block
      clear hf hs
      go_wp2_with fail
      refine hP.out.mono ?_
      rintro e w1 ⟨r, hr0, hr1, rfl, hs1, hg1⟩
      have ho1 := ho.kept hg1 (fun k hk e => by have := (hvb k hk).1; injection e with e; omega)
      have hsz1 : w.heap.size ≤ w1.heap.size := Nat.le_trans hsz hg1.size
      have hb1 : Below B w w1 := hb.grown hg1 (by omega) (fun k hk => by injection hk with hk; omega)
      go_wp2_with (at_builtin; refine wpList_app _ rfl _ _ rfl w.heap.size _ l _ ?_ ?_ ho1 hq hsz1 ?_; rfl; rfl)
      intro v' w2 ho2 hb2
      have hs2 := hs1.keep hb2 hlt
      go_wp2
      go_roundw
      case rel => exact ⟨j + 1, by omega, by go_num, ⟨l ++ [r], by simp [hl], app63 hmem hr0 (by omega), ho2, hs2.mono (by omega), hb1.trans (hb2.mono (by omega))⟩⟩
      case measure => simp [intOf]; omega
    · have e : j = M := by omega
      subst e
      obtain ⟨av, cv, hvv⟩ := ho.form
      rw [hl] at hvv
      subst hvv
      go_wp2
      go_loopw [1, 9] (fun i v2 wr2 => ∃ p : Nat, p ≤ N ∧ i = .int .i64 ((N : Int) - p) ∧ Hid (F2 w B g a n c K j p (.slice av j cv) v2 wr2)) (fun i _ _ => (intOf i).toNat)
      case atStart => exact ⟨0, Nat.zero_le _, by simp, (show F2 _ _ _ _ _ _ _ _ _ _ _ _ from ⟨l, [], hl, hmem, rfl, nil63, ho.below (Below.alloc (Below.refl _ _) (Nat.le_refl _) _) (Nat.le_refl _), (Own.lit0 wr).mono hsz, Apart.symm (Apart.new ho (fun q hq => ((Own.lit0 wr).block q hq).1) (Nat.le_refl _)), (hs.below (Below.alloc (Below.refl _ _) (Nat.le_refl _) _)), hb.trans ((Below.refl _ _).alloc (by omega) _)⟩)⟩
      case round =>
        obtain ⟨p, hp, rfl, hf2⟩ := hrel
        obtain ⟨l1, l2, g1, g2, g3, g4, g5, g6, g7, g8, g9⟩ := hf2.out
        have hsz2 : w.heap.size ≤ wr.heap.size := g9.size
        by_cases hlt3 : p < N
        · have hA := Lib.hid (among_s B w.heap.size g n c (K + j + p) a (.slice av j cv) l1 wr hn (by omega) (by omega) (by omega) g5 (fun k hk e => by have := (g5.block k hk).1; omega) g8)
          have hq : l2.length + 1 ≤ 1000000000 := by omega
          have hpos : (0 : Int) < (N : Int) - p := by omega
          clear hf2
          go_wp2_with fail
          refine hA.out.mono ?_
          rintro e w1 ⟨r, hr, rfl, hs1, hg1⟩
          have o5 := g5.kept hg1 (fun k hk e => by have := (g5.block k hk).1; injection e with e; omega)
          have o6 := g6.kept hg1 (fun k hk e => by have := (g6.block k hk).1; injection e with e; omega)
          have hsz3 : w.heap.size ≤ w1.heap.size := Nat.le_trans hsz2 hg1.size
          have hb1 : Below B w w1 := g9.grown hg1 (by omega) (fun k hk => by injection hk with hk; omega)
          go_wp2_with (at_builtin; refine wpList_appG _ rfl _ _ rfl w.heap.size _ l2 _ ?_ ?_ o6 hq hsz3 ?_; rfl; rfl)
          intro v' w2 ho2 hb2 hother
          obtain ⟨o7, ap⟩ := hother _ _ _ o5 g7
          have hs2 := hs1.keep hb2 hlt
          go_wp2
          go_roundw
          case rel => exact ⟨p + 1, by omega, by go_num, ⟨l1, l2 ++ [r], g1, g2, by simp [g3], app63 g4 (g2 _ hr).1 (g2 _ hr).2, o7, ho2, ap, hs2.mono (by omega), hb1.trans (hb2.mono (by omega))⟩⟩
          case measure => simp [intOf]; omega
        · have hneg : ¬ (0 : Int) < (N : Int) - p := by omega
          go_wp2
          go_ret
          exact ⟨_, l2, rfl, by omega, g4, g6, g9⟩
end Go.Proofs.Ytfjaaoogbjcgaaa.Sr
namespace Go.Proofs.Ytfjaaoogbjcgaaa.R8
open Go.RowKit
def Under (n : Int) (w : World) (e : Ending) (w' : World) : Prop := ∃ r : Int, 0 ≤ r ∧ r < n ∧ e = .returned (.int .i64 r) ∧ w = w'
theorem under_mk {n r : Int} {w : World} {v : Value} (h0 : 0 ≤ r) (h1 : r < n) (hv : v = .int .i64 r) : Under n w (.returned v) w := ⟨r, h0, h1, by rw [hv], rfl⟩
theorem at_any (a : Option Addr) (len cap : Nat) (zs : List Int) (w : World) (h : IsRow .u8 w a len cap zs) (i n : Int) (hi0 : 0 ≤ i) (hi1 : i ≤ 1000) (hn0 : 1 ≤ n) (hn1 : n ≤ 1000000000) :
    Calls Try.prog 12 #[.slice a len cap, .int .i64 i, .int .i64 n] w (Under n w) := by
  by_cases hn : n ≤ 1
  · go_enter Try.func12, Try.ntmps12
    go_wp2
    go_ret
    exact under_mk (by omega) (by omega) rfl
  · by_cases hl : i < len
    · obtain ⟨b, off, rfl, hlc, hcm, hz, hc, hwz⟩ := h.at (by omega)
      obtain ⟨k, rfl⟩ := Int.eq_ofNat_of_zero_le hi0
      have hc0 := hc k (by omega)
      have hu := bounds_u8 (hwz k (by omega))
      have hk : k < zs.length := by omega
      clear hc hwz h
      generalize zs.getD k 0 = u at *
      have hu2 : u % n < n := Int.emod_lt_of_pos _ (by omega)
      have hu3 : 0 ≤ u % n := Int.emod_nonneg _ (by omega)
      have hge : ¬ (len : Int) ≤ (k : Int) := by omega
      go_enter Try.func12, Try.ntmps12
      go_wp2
      go_ret
      exact under_mk hu3 hu2 rfl
    · have hge : (len : Int) ≤ i := by omega
      go_enter Try.func12, Try.ntmps12
      go_wp2
      go_ret
      exact under_mk (by omega) (by omega) rfl
theorem long_no (a0 : Option Addr) (len0 cap0 : Nat) (a1 : Option Addr) (len1 cap1 : Nat) (w : World) (h0 : len0 ≤ 48) (h1 : len1 ≤ 48) :
    Calls Try.prog 4 #[.slice a0 len0 cap0, .slice a1 len1 cap1] w fun e w' => e = .returned (.bool false) ∧ w = w' := by
  have g0 : ¬ (48 : Int) < len0 := by omega
  have g1 : ¬ (48 : Int) < len1 := by omega
  go_enter Try.func4, Try.ntmps4
  go_wp2
  go_ret
  exact ⟨rfl, rfl⟩
theorem long_yes (a0 : Option Addr) (len0 cap0 : Nat) (a1 : Option Addr) (len1 cap1 : Nat) (w : World) (h : 48 < len0 ∨ 48 < len1) :
    Calls Try.prog 4 #[.slice a0 len0 cap0, .slice a1 len1 cap1] w fun e w' => e = .returned (.bool true) ∧ w = w' := by
  by_cases g0 : (48 : Int) < len0
  · go_enter Try.func4, Try.ntmps4
    go_wp2
    go_ret
    exact ⟨rfl, rfl⟩
  · have g1 : (48 : Int) < len1 := by omega
    go_enter Try.func4, Try.ntmps4
    go_wp2
    go_ret
    exact ⟨rfl, rfl⟩
/-- The bytes of a list that came in. -/
theorem byt_of {a : Option Addr} {len cap : Nat} {zs : List Int} {w : World} (h : IsRow .u8 w a len cap zs) : Sr.Byt w w.heap.size a len := fun i hi => by
  obtain ⟨b, off, ha, _, _, _, hc, hw⟩ := h.at (by omega)
  have := bounds_u8 (hw i hi)
  exact ⟨b, off, ha, World.block_lt_of_cell? w _ (hc i hi), _, hc i hi, by omega, by omega⟩
/-- What drawn uses are. -/
def Us (w : World) (e : Ending) (w' : World) : Prop := ∃ v l, e = .returned v ∧ Tr.okU l = true ∧ l.length ≤ 13 ∧ Own w' w.heap.size v l ∧ Below w.heap.size w w'
theorem okU_of (l : List Int) (h : l.length ≤ 60) (hm : ∀ y ∈ l, 0 ≤ y ∧ y ≤ 63) : Tr.okU l = true := by
  unfold Tr.okU
  rw [decide_eq_true h, Bool.true_and, List.all_eq_true]
  intro y hy
  obtain ⟨h0, h1⟩ := hm y hy
  exact Tr.isA_yes h0 h1
set_option maxHeartbeats 1000000 in
theorem uses_any (a : Option Addr) (len cap : Nat) (zs : List Int) (w : World) (hl : len ≤ 48) (h : IsRow .u8 w a len cap zs) :
    Calls Try.prog 5 #[.slice a len cap] w (Us w) := by
  have hby := byt_of h
  have h0 : Sr.Src (w.alloc (.cells #[.slice a len cap, .int .i64 0, .int .u64 0] 66)) w.heap.size w.heap.size a len cap 0 :=
    ⟨Nat.le_refl _, hby.below ((Below.refl _ _).alloc (Nat.le_refl _) _), 0, 0, Nat.le_refl _, by omega, by omega, by unfold World.alloc; exact Array.getElem?_push_size⟩
  have hb0 : Below w.heap.size w (w.alloc (.cells #[.slice a len cap, .int .i64 0, .int .u64 0] 66)) := (Below.refl _ _).alloc (Nat.le_refl _) _
  have hF : Hid (Calls Try.prog 14 #[.slice a len cap] w fun e w' => e = .returned (.pointer (some ⟨w.heap.size, 0, none⟩)) ∧ Sr.Src w' w.heap.size w.heap.size a len cap 0 ∧ Below w.heap.size w w') := by
    have H0 := Lib.hid h0
    have HB := Lib.hid hb0
    clear h0 hb0 hby h
    show Calls _ _ _ _ _
    go_enter Try.func14, Try.ntmps14
    go_wp2
    go_ret
    exact ⟨rfl, H0.out, HB.out⟩
  clear h0 hb0 hby h
  go_enter Try.func5, Try.ntmps5
  go_wp2_with fail
  refine hF.out.mono ?_
  rintro e w1 ⟨rfl, s1, b1⟩
  go_wp2_with fail
  refine (Sr.pick_s w.heap.size w.heap.size len cap 0 14 a w1 (by omega) (by omega) (by omega) (by omega) s1).mono ?_
  rintro e w2 ⟨r, hr0, hr1, rfl, s2, g2⟩
  have b2 : Below w.heap.size w w2 := b1.grown g2 b1.size (fun k hk => by injection hk with hk; omega)
  go_wp2_with fail
  refine (Sr.pick_s w.heap.size w.heap.size len cap 1 5 a w2 (by omega) (by omega) (by omega) (by omega) s2).mono ?_
  rintro e w3 ⟨q, hq0, hq1, rfl, s3, g3⟩
  have b3 : Below w.heap.size w w3 := b2.grown g3 b2.size (fun k hk => by injection hk with hk; omega)
  obtain ⟨N, rfl⟩ := Int.eq_ofNat_of_zero_le hr0
  obtain ⟨M, rfl⟩ := Int.eq_ofNat_of_zero_le hq0
  have hf := Sr.few_s w.heap.size w.heap.size len cap 2 N (1 + M) a w3 (by omega) (by omega) (by omega) (by omega) (by omega) s3
  have e1 : (((1 + M : Nat)) : Int) = 1 + (M : Int) := by omega
  rw [e1] at hf
  have HF := Lib.hid hf
  clear hf e1
  go_wp2_with fail
  refine HF.out.mono ?_
  rintro e w4 ⟨v, l, rfl, h1, h2, h3, h4⟩
  go_wp2
  go_ret
  exact ⟨v, l, rfl, okU_of l (by omega) h2, by omega, h3.mono b3.size, b3.trans h4⟩
end Go.Proofs.Ytfjaaoogbjcgaaa.R8
namespace Go.Proofs.Ytfjaaoogbjcgaaa.Tr
open Go.RowKit
theorem has8_step (xs : List Int) (n : Int) (j : Nat) (h : j < xs.length) : (xs.take (j + 1)).contains n = ((xs.take j).contains n || decide (xs.getD j 0 = n)) := by
  rw [List.take_succ_eq_append_getElem h, getD_get' xs j h, List.contains_eq_mem, List.contains_eq_mem, ← Bool.decide_or]
  congr 1
  simp only [List.mem_append, List.mem_singleton, eq_comm]
def psum (xs : List Int) : Nat → Int
  | 0 => 0
  | j + 1 => psum xs j + xs.getD j 0
set_option maxHeartbeats 1000000 in
theorem sum8 (a : Option Addr) (c : Nat) (xs : List Int) (w : World) (hn : xs.length ≤ 1000) (hb : ∀ j, j ≤ xs.length → -1000000 ≤ psum xs j ∧ psum xs j ≤ 1000000) (hr : Row w a xs) :
    Calls Try.prog 9 #[.slice a xs.length c] w (fun e w' => e = .returned (.int .i64 (psum xs xs.length)) ∧ w = w') := by
  have HC := Lib.hid hr
  have HB := Lib.hid hb
  have HS := Lib.hid (fun j => (show psum xs (j + 1) = psum xs j + xs.getD j 0 from rfl))
  clear hr hb
  unfold Row at HC
  generalize hN : xs.length = N at *
  go_enter Try.func9, Try.ntmps9
  go_wp2
  go_loop [3, 4] (fun s i => ∃ (j : Nat) (t : Int), j ≤ N ∧ i = .int .i64 j ∧ s = .int .i64 t ∧ Hid (t = psum xs j)) (fun _ i => N - (intOf i).toNat)
  case atStart => exact ⟨0, 0, Nat.zero_le _, rfl, rfl, Lib.hid rfl⟩
  case round =>
    obtain ⟨j, t, hj, rfl, rfl, ht⟩ := hrel
    by_cases hlt : j < N
    · obtain ⟨b, off, rfl, c1, _⟩ := HC.out j hlt
      have hs := HS.out j
      have b1 := HB.out j hj
      have b2 := HB.out (j + 1) (by omega)
      rw [← ht.out] at hs b1
      have HS2 := Lib.hid hs
      rw [hs] at b2
      clear hs
      generalize xs.getD j 0 = u at *
      go_wp2
      go_round
      case rel => exact ⟨j + 1, t + u, by omega, by go_num, rfl, Lib.hid HS2.out.symm⟩
      case measure => simp [intOf]; omega
    · have e : j = N := by omega
      subst e
      go_wp2
      go_ret
      exact ⟨by rw [← ht.out]; rfl, rfl⟩
end Go.Proofs.Ytfjaaoogbjcgaaa.Tr
