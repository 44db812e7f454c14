/- The game of a graph: the program's bits of nodes, and its nodes one after another. -/
import Derived.Test.YtepobkflahjldaaCbit8
import Derived.Test.YtepobkflahjldaaCgrv
import Derived.Test.YtepobkflahjldaaCblk
import Derived.Deep.RegionLaw
namespace Go.Proofs.Ytepobkflahjldaa.Pb
open Go.RowKit Pv
theorem shl8 (k : Nat) (hk : k < 6) : IntKind.u8.wrap ((2 : Int) ^ k) = ((2 ^ k : Nat) : Int) := by
  obtain rfl | rfl | rfl | rfl | rfl | rfl : k = 0 ∨ k = 1 ∨ k = 2 ∨ k = 3 ∨ k = 4 ∨ k = 5 := by omega
  all_goals decide
theorem mask_i (k : Nat) (hk : k < 6) (w : World) : Calls Try.prog 44 #[.int .i64 (k : Int)] w (fun e w' => e = .returned (.int .u8 ((2 ^ k : Nat) : Int)) ∧ w = w') := by
  have hsh := shl8 k hk
  have h8 : k < 8 := by omega
  generalize 2 ^ k = m at *
  go_enter Try.func44, Try.ntmps44
  go_wp2
  go_ret
  exact ⟨by first | rfl | simp [hsh], rfl⟩
/-- The cells of a game. -/
def gm (n : Nat) (p : Int) (f : Nat → Nat) (s o : Nat) : List Value :=
  [.int .i64 (n : Int), .int .i64 p, .int .u8 ((f 0 : Nat) : Int), .int .u8 ((f 1 : Nat) : Int), .int .u8 ((f 2 : Nat) : Int), .int .u8 ((f 3 : Nat) : Int), .int .u8 ((f 4 : Nat) : Int), .int .u8 ((f 5 : Nat) : Int), .int .u8 (s : Int), .int .u8 (o : Int)]
theorem gm_f (n : Nat) (p : Int) (f : Nat → Nat) (s o : Nat) (i : Nat) (hi : i < 6) : (gm n p f s o)[2 + i]? = some (.int .u8 ((f i : Nat) : Int)) := by
  match i, hi with
  | 0, _ => rfl
  | 1, _ => rfl
  | 2, _ => rfl
  | 3, _ => rfl
  | 4, _ => rfl
  | 5, _ => rfl
def upn (f : Nat → Nat) (i v : Nat) : Nat → Nat := fun j => if j = i then v else f j
theorem gm_set (n : Nat) (p : Int) (f : Nat → Nat) (s o : Nat) (i : Nat) (hi : i < 6) (v : Nat) : (gm n p f s o).set (2 + i) (.int .u8 (v : Int)) = gm n p (upn f i v) s o := by
  match i, hi with
  | 0, _ => simp [gm, upn]
  | 1, _ => simp [gm, upn]
  | 2, _ => simp [gm, upn]
  | 3, _ => simp [gm, upn]
  | 4, _ => simp [gm, upn]
  | 5, _ => simp [gm, upn]
theorem blk1 {w : World} {b : Nat} {cs : List Value} {t : TypeId} (h : Blk w b cs t) (j : Nat) (v : Value) (hj : j < cs.length) : Blk (w.setCell ⟨b, j, none⟩ v) b (cs.set j v) t := by
  have k := blk_set b t [v] j cs w h (by simp; omega)
  have e : Go.splice cs j [v] = cs.set j v := by
    rw [← splice_cons cs j v [] hj]
    simp [Go.splice]
  rw [e] at k
  exact k
theorem keep1 (b j : Nat) (v : Value) (w : World) : Keep b w (w.setCell ⟨b, j, none⟩ v) := keep_set b [v] j w
theorem Keep.trans' {b : Nat} {w1 w2 w3 : World} (h : Keep b w1 w2) (k : Keep b w2 w3) : Keep b w1 w3 :=
  ⟨k.os.trans h.os, k.tape.trans h.tape, k.output.trans h.output, k.size.trans h.size, fun i hi => (k.block i hi).trans (h.block i hi)⟩
theorem _root_.Go.Proofs.Ytepobkflahjldaa.Keep.dr {b : Nat} {w w' : World} (h : Keep b w w') : Keep b w w'.drew := ⟨h.os, h.tape, h.output, h.size, h.block⟩
theorem isn_i (n : Nat) (p x : Int) (f : Nat → Nat) (s o : Nat) (hn : n ≤ 6) (w : World) :
    Calls Try.prog 43 #[.agg (gm n p f s o).toArray, .int .i64 x] w (Bb (decide (0 ≤ x) && decide (x < (n : Int))) w) := by
  have b0 : Below w.heap.size w (w.alloc (.cells (gm n p f s o).toArray 58)) := (Below.refl _ w).alloc (Nat.le_refl _) _
  have e : decide (x < (n : Int)) = decide (x ≤ (n : Int) - 1) := by
    by_cases h : x < (n : Int)
    · rw [decide_eq_true h, decide_eq_true (by omega)]
    · rw [decide_eq_false h, decide_eq_false (by omega)]
  rw [e]
  have H := Lib.hid (fun w9 => Tr.btw_g x 0 ((n : Int) - 1) w9)
  have B0 := Lib.hid b0
  clear b0 e
  unfold gm at *
  generalize (decide (0 ≤ x) && decide (x ≤ (n : Int) - 1)) = r at *
  go_enter Try.func43, Try.ntmps43
  go_wp2_with (go_at_call 41; refine (H.out _).mono ?_; rintro e w1 ⟨rfl, rfl⟩)
  go_ret
  exact ⟨rfl, B0.out⟩
set_option maxHeartbeats 1000000 in
theorem add_i (g n : Nat) (p : Int) (f : Nat → Nat) (s o m : Nat) (hn : n < 6) (hm : m < 64) (hs : s < 64) (ho : o < 64) (w : World) (hB : Blk w g (gm n p f s o) 58) :
    Calls Try.prog 45 #[.pointer (some ⟨g, 0, none⟩), .int .u8 (m : Int)] w (fun e w' => e = .returned (.tuple #[]) ∧ Blk w' g (gm (n + 1) p f (if m = 0 then s ||| 2 ^ n else s) (adn o m ||| 2 ^ n)) 58 ∧ Keep g w w') := by
  have x0 : w.cell? ⟨g, 0, none⟩ = some (.int .i64 (n : Int)) := hB.cell 0
  have x8 : w.cell? ⟨g, 8, none⟩ = some (.int .u8 (s : Int)) := hB.cell 8
  have x9 : w.cell? ⟨g, 9, none⟩ = some (.int .u8 (o : Int)) := hB.cell 9
  have f0 := hB.froz 0
  have f8 := hB.froz 8
  have f9 := hB.froz 9
  have h1 := or8 s (2 ^ n) hs (pow_lt n hn)
  have h2 := adn8 o m ho hm
  have h3 := or8 (adn o m) (2 ^ n) (adn_lt o m ho) (pow_lt n hn)
  have HM := Lib.hid (fun w9 => mask_i n hn w9)
  have K0 : Hid (Blk (((w.setCell ⟨g, 8, none⟩ (.int .u8 ((s ||| 2 ^ n : Nat) : Int))).setCell ⟨g, 9, none⟩ (.int .u8 ((adn o m ||| 2 ^ n : Nat) : Int))).setCell ⟨g, 0, none⟩ (.int .i64 ((n : Int) + 1))) g (gm (n + 1) p f (s ||| 2 ^ n) (adn o m ||| 2 ^ n)) 58 ∧ Keep g w (((w.setCell ⟨g, 8, none⟩ (.int .u8 ((s ||| 2 ^ n : Nat) : Int))).setCell ⟨g, 9, none⟩ (.int .u8 ((adn o m ||| 2 ^ n : Nat) : Int))).setCell ⟨g, 0, none⟩ (.int .i64 ((n : Int) + 1)))) :=
    ⟨blk1 (blk1 (blk1 hB 8 _ (by simp [gm])) 9 _ (by simp [gm])) 0 _ (by simp [gm]), Keep.trans' (Keep.trans' (keep1 _ _ _ _) (keep1 _ _ _ _)) (keep1 _ _ _ _)⟩
  have K1 : Hid (Blk ((w.setCell ⟨g, 9, none⟩ (.int .u8 ((adn o m ||| 2 ^ n : Nat) : Int))).setCell ⟨g, 0, none⟩ (.int .i64 ((n : Int) + 1))) g (gm (n + 1) p f s (adn o m ||| 2 ^ n)) 58 ∧ Keep g w ((w.setCell ⟨g, 9, none⟩ (.int .u8 ((adn o m ||| 2 ^ n : Nat) : Int))).setCell ⟨g, 0, none⟩ (.int .i64 ((n : Int) + 1)))) :=
    ⟨blk1 (blk1 hB 9 _ (by simp [gm])) 0 _ (by simp [gm]), Keep.trans' (keep1 _ _ _ _) (keep1 _ _ _ _)⟩
  clear hB
  by_cases hz : m = 0
  · have e0 : ((m : Int) == 0) = true := by subst hz; rfl
    rw [if_pos hz]
    clear hz
    generalize adn o m ||| 2 ^ n = o2 at *
    generalize s ||| 2 ^ n = s2 at *
    generalize adn o m = o1 at *
    generalize 2 ^ n = q at *
    go_enter Try.func45, Try.ntmps45
    go_wp2
    go_region_law (go_simp; go_at_call 44; (with_reducible refine (HM.out _).mono ?_); rintro e w9 ⟨rfl, rfl⟩)
    all_goals
      go_wp2
      go_region_law (go_simp; go_at_call 44; (with_reducible refine (HM.out _).mono ?_); rintro e w9 ⟨rfl, rfl⟩)
      all_goals
        go_wp2
        refine bodyPost_end (v := .tuple #[]) (by simp [results, Try.results45, go_sem]) rfl ?_
        exact ⟨rfl, K0.out.1, K0.out.2.dr.dr⟩
  · have e0 : ((m : Int) == 0) = false := by simp; omega
    rw [if_neg hz]
    clear hz
    generalize adn o m ||| 2 ^ n = o2 at *
    generalize adn o m = o1 at *
    generalize 2 ^ n = q at *
    go_enter Try.func45, Try.ntmps45
    go_wp2
    go_region_law (go_simp; go_at_call 44; (with_reducible refine (HM.out _).mono ?_); rintro e w9 ⟨rfl, rfl⟩)
    all_goals
      go_wp2
      refine bodyPost_end (v := .tuple #[]) (by simp [results, Try.results45, go_sem]) rfl ?_
      exact ⟨rfl, K1.out.1, K1.out.2.dr⟩
end Go.Proofs.Ytepobkflahjldaa.Pb
