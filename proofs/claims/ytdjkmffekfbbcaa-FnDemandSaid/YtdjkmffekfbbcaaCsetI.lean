/- The set that the program makes of what an iterator yields, whatever iterator; the library's and the program's own iterators. -/
import Derived.Test.YtdjkmffekfbbcaaCwide
import Derived.Test.YtdjkmffekfbbcaaCappg
import Derived.RangeFuncBox
import Derived.RangeFuncCalls
import Derived.RangeFuncNested
import Derived.RangeFuncBound
import Derived.Shelf.RegionOpen
import Derived.RangeFuncLeaves
import Derived.Shelf.Abstract
import Derived.OwnWalkIn
import Derived.TacticsInMore
import Derived.LoopNIn
import Derived.LoopIn
namespace Go.Proofs.Ytdjkmffekfbbcaa.Tr
open Go.RowKit Go.Shelf
attribute [local go_sem] Oper.semAt_some
theorem keeps_below {W W1 : World} (h : Below W.heap.size W W1) : KeepsOthers W W1 := ⟨h.size, fun k o hk _ => (h.block k (Array.getElem?_eq_some_iff.1 hk).1).trans hk⟩
abbrev encI : Int → Array Value := fun x => #[.int .i64 x]
set_option maxRecDepth 100000 in
set_option maxHeartbeats 2000000 in
theorem set_i (g : Nat) (lb : Array Value) (eg : ∀ args w, (callFunc g args).run Try.prog w = .ok (.enter g args) w) (xs : List Int) (Sp : List Int → Prop) (N : Nat) (hN : N ≤ 900) (w : World)
    (hseq : SeqStopsK Fence.wide 5 Try.prog g lb encI (Below w.heap.size) (fun ys => ys = xs) Sp N w) :
    Calls Try.prog 46 #[.func (.func g) #[] lb] w (Lb (setP xs) w) := by
  refine (callsIn_wide (n := 6)).1 ?_
  refine callsIn_of_wp_marks Try.func46 rfl trivial ?_ rfl
  simp only [Try.ntmps46, List.size_toArray, List.length_cons, List.length_nil, Nat.reduceAdd, Nat.reduceSub, Array.replicate_succ, Array.replicate_zero, List.push_toArray, List.append_toArray, List.nil_append, List.cons_append]
  gi_wp2
  have bS := Boxed.new w 24 (.slice none 0 0)
  have hB0 : Below w.heap.size w (w.alloc (.cells #[.slice none 0 0] 24)) := (Below.refl _ w).alloc (Nat.le_refl _) _
  refine wpIn_rangeFunc_ownG rfl (by omega) (gf := g) (lb := lb) rfl trivial eg hseq belowK_t (belowK_b (by simp)) hB0 (fun _ => rfl)
    (fun pre W => (∃ v, Boxed W w.heap.size 24 v ∧ W.ownsRow w.heap.size 2 1 v (setP pre).length ((setP pre).map (Value.int .i64)) ∧ True) ∧ Below w.heap.size w W)
    (fun _ _ _ => False)
    (OwnFrom.and (Own.from (holdsRow_own w.heap.size w.heap.size 24 2 1 (fun pre : List Int => (setP pre).length) (fun pre => (setP pre).map (Value.int .i64)) (fun _ _ => True)) _) (ownFrom_below (Nat.le_refl _) (by simp)))
    (fun _ _ _ _ _ hs _ _ => hs)
    ⟨⟨_, bS, World.ownsRow_nil _ _ _ _, trivial⟩, hB0⟩
    (fun x => { tmps := #[.func (.func g) #[] lb, undef, .slice none 0 0, .pointer (some ⟨w.heap.size, 0, none⟩), .int .i64 x, .func (.func g) #[] lb, .int .i64 x, undef, undef, undef, undef], defers := [] }) ?assign ?body ?done ?stop
  case assign =>
    intro l x W K hK
    gi_wp2
    exact hK
  case body =>
    rintro l pre x W ⟨⟨v, hbx, hrow, _⟩, hB⟩ hlen
    have hcell := hbx.cell
    have hlt := hbx.lt
    have hown : Go.Proofs.Ytdjkmffekfbbcaa.Own W w.heap.size v (setP pre) := hrow
    have hsl := setP_length pre
    have hw := Lib.hid (wide_R x hown.rd (setP_up pre) (by omega))
    have HP := Lib.hid (setP_snoc pre x)
    obtain ⟨zs, hzs⟩ : ∃ zs, put (setP pre) x = zs := ⟨_, rfl⟩
    rw [hzs] at hw HP
    clear hzs
    have hfr := hbx.frozen
    gi_wp2
    refine ⟨trivial, ?_⟩
    refine (CallsIn.inRound l (callsIn_wide.2 hw.out)).mono ?_
    rintro e W1 ⟨v1, rfl, ho1, hb1⟩
    obtain ⟨a1, c1, hv1⟩ := ho1.form
    subst hv1
    have hc1 : W1.cell? ⟨w.heap.size, 0, none⟩ = some v := (hb1.cell (p := ⟨w.heap.size, 0, none⟩) hlt).trans hcell
    have hf1 : W1.frozen? ⟨w.heap.size, 0, none⟩ = false := (hb1.frozen (p := ⟨w.heap.size, 0, none⟩) hlt).trans hbx.frozen
    gi_wp2
    have hbx1 : Boxed W1 w.heap.size 24 v := (hb1.block w.heap.size hlt).trans hbx
    have hsz : w.heap.size ≤ W.heap.size := hB.size
    have hro : (W1.setCell ⟨w.heap.size, 0, none⟩ (.slice a1 zs.length c1)).ownsRow W.heap.size 2 1 (.slice a1 zs.length c1) zs.length (zs.map (Value.int .i64)) := ownsRow_setCell_below (show W1.ownsRow W.heap.size 2 1 _ _ _ from ho1) hlt _
    refine ⟨((keeps_below hb1).trans (KeepsOthers.setCell _ _ _)).from _, (hb1.mono hsz).setCell (p := ⟨w.heap.size, 0, none⟩) (Nat.le_refl _) _, ⟨_, hbx1.set _, ?_, trivial⟩, (hB.trans (hb1.mono hsz)).setCell (p := ⟨w.heap.size, 0, none⟩) (Nat.le_refl _) _⟩
    rw [HP.out]
    exact (show Go.Proofs.Ytdjkmffekfbbcaa.Own _ W.heap.size _ zs from hro).mono hsz
  case done =>
    rintro D ys W hD rfl ⟨⟨v, hbx, hrow, _⟩, hB⟩ hK
    have hcell := hbx.cell
    have hown : Go.Proofs.Ytdjkmffekfbbcaa.Own W w.heap.size v (setP ys) := hrow
    obtain ⟨a, c, hv⟩ := hown.form
    subst hv
    gi_wp2
    refine ⟨by simp, .inl ⟨_, _, rfl, run_takeDeferred hK, ?_⟩⟩
    refine ⟨_, results_tmp rfl _ _ _, _, rfl, ?_, ?_⟩
    · exact (ownsRow_putObj hrow _ hK rfl : World.ownsRow _ _ _ _ (.slice a (setP ys).length c) _ _)
    · exact hB.trans (belowK_b (w := w) (Nat.le_refl _) W D _ _ (by simp at hD; omega) hK rfl rfl)
  case stop =>
    rintro D c pre W _ _ h _
    exact h.elim
set_option maxRecDepth 100000 in
set_option maxHeartbeats 2000000 in
theorem vals_stops (n Bs : Nat) (hn : 1 ≤ n) (a : Option Addr) (c : Nat) (zs : List Int) (hl : zs.length ≤ 1000) (w : World) (hBs : Bs < w.heap.size) (hc : w.cell? ⟨Bs, 0, none⟩ = some (.slice a zs.length c)) (hr : Row w a zs) :
    SeqStopsK Fence.wide n Try.prog 67 #[.pointer (some ⟨Bs, 0, none⟩)] encI (Below w.heap.size) (fun ys => ys = zs) (fun _ => True) zs.length w := fun l J Jx W hW _ _ hY h0 => by
  have hc' := (hW.cell (p := ⟨Bs, 0, none⟩) hBs).trans hc
  have HC : ∀ (wr : World), Below w.heap.size W wr → ∀ i, i < zs.length → ∃ b off, a = some ⟨b, off, none⟩ ∧ wr.cell? ⟨b, off + i, none⟩ = some (.int .i64 (zs.getD i 0)) := fun wr hb i hi => by
    obtain ⟨b, off, ha, h1, h2⟩ := hr i hi
    exact ⟨b, off, ha, (hb.cell (p := ⟨b, off + i, none⟩) h2).trans ((hW.cell (p := ⟨b, off + i, none⟩) h2).trans h1)⟩
  have HCH := Lib.hid HC
  have HE := Lib.hid (show zs.take zs.length = zs by rw [List.take_length])
  have HT := Lib.hid (fun k (h : k < zs.length) => (show zs.take (k + 1) = zs.take k ++ [zs.getD k 0] by rw [List.take_succ_eq_append_getElem h, getD_get' zs k h]))
  have HL := Lib.hid (fun k (h : k ≤ zs.length) => (show (zs.take k).length = k by rw [List.length_take]; omega))
  have HY := Lib.hid hY
  clear HC hr hY hc hW
  refine callsIn_of_wp Try.func67 rfl trivial ?_ rfl
  simp only [Try.ntmps67, List.size_toArray, List.length_cons, List.length_nil, Nat.reduceAdd, Nat.reduceSub, Array.replicate_succ, Array.replicate_zero, List.push_toArray, List.append_toArray, List.nil_append, List.cons_append]
  gi_wp2
  gi_loopw [7] (fun i wr => ∃ k : Nat, k ≤ zs.length ∧ i = .int .i64 k ∧ J (zs.take k) wr ∧ Below w.heap.size W wr) (fun i _ => zs.length - (intOf i).toNat)
  case atStart => exact ⟨0, Nat.zero_le _, rfl, h0, Below.refl _ _⟩
  case round =>
    obtain ⟨k, hk, rfl, hJs, hnx⟩ := hrel
    by_cases hlt : k < zs.length
    · obtain ⟨b, off, rfl, hcx⟩ := HCH.out wr hnx k hlt
      obtain ⟨fn, tmps, assign, body, hy, hR⟩ := HY.out _ (zs.getD k 0) wr hJs (by rw [HL.out k hk]; exact hlt)
      dsimp only [encI] at hy
      have ht := Lib.hid (HT.out k hlt)
      generalize zs.getD k 0 = u at *
      gi_wp2
      refine hR.mono ?_
      rintro e W3 (⟨rfl, hJ3, hk3⟩ | ⟨rfl, hJx3⟩)
      · gi_wp2
        go_roundw
        case rel => exact ⟨k + 1, by omega, by go_num, by rw [ht.out]; exact hJ3, hnx.trans hk3⟩
        case measure => simp [intOf]; omega
      · gi_wp2
        refine bodyPost_ret (results_none rfl _ _ _) rfl ?_
        exact ⟨⟨_, rfl⟩, .inr ⟨_, trivial, hJx3⟩⟩
    · have e : k = zs.length := by omega
      subst e
      rw [HE.out] at hJs
      gi_wp2
      go_end0
      exact ⟨⟨_, rfl⟩, .inl ⟨_, rfl, hJs⟩⟩
theorem vals_value (a : Option Addr) (n c : Nat) (w : World) :
    Calls Try.prog 50 #[.slice a n c] w fun e w' => e = .returned (.func (.func 67) #[] #[.pointer (some ⟨w.heap.size, 0, none⟩)]) ∧ w' = w.alloc (.cells #[.slice a n c] 24) := by
  go_enter Try.func50, Try.ntmps50
  go_wp2
  go_ret
  exact ⟨rfl, rfl⟩
/-- The set of a list by the library's iterator over it. -/
theorem vals_set (a : Option Addr) (c : Nat) (zs : List Int) (hl : zs.length ≤ 900) (w : World) (hr : Row w a zs) :
    Calls Try.prog 46 #[.func (.func 67) #[] #[.pointer (some ⟨w.heap.size, 0, none⟩)]] (w.alloc (.cells #[.slice a zs.length c] 24)) (Lb (setP zs) (w.alloc (.cells #[.slice a zs.length c] 24))) := by
  have hb : Below w.heap.size w (w.alloc (.cells #[.slice a zs.length c] 24)) := (Below.refl _ _).alloc (Nat.le_refl _) _
  exact set_i _ _ (enters_of Try.func67 (by kernel_rfl) rfl) zs (fun _ => True) zs.length hl _ (vals_stops 5 w.heap.size (by omega) a c zs (by omega) _ (by simp) (by simp) (hr.below hb))
end Go.Proofs.Ytdjkmffekfbbcaa.Tr
