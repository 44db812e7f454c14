/- Functions of a graph, by both sides: whether it is valid, its sources and outputs, a bound of transfers. -/
import Derived.Test.YtplflbgopjmgdaaCgml
import Derived.Test.YtplflbgopjmgdaaCgam2
namespace Go.Proofs.Ytplflbgopjmgdaa.Pb
open Go.RowKit Pv
def srcV (bs : List (List Int)) : Nat := if okG bs then src bs bs.length else 0
def outV (bs : List (List Int)) : Nat := if okG bs then out bs bs.length else 0
theorem srcV_lt (bs : List (List Int)) : srcV bs < 64 := by
  unfold srcV
  split
  · exact src_lt _ _ (okG_len (by assumption)).2
  · omega
theorem outV_lt (bs : List (List Int)) : outV bs < 64 := by
  unfold outV
  split
  · exact out_lt _ _ (okG_len (by assumption)).2
  · omega
theorem bitL_zero : bitL 0 6 = [] := by decide
/-- A game as gameOf leaves it with all places. -/
theorem gmB_form (bs : List (List Int)) : ∃ n q f, gmB (okG bs && inP 6) bs 6 = gm n q f (srcV bs) (outV bs) ∧ (okG bs && inP 6) = okG bs ∧ n ≤ 6 ∧ (okG bs = true → n = bs.length ∧ f = ndF bs bs.length) := by
  have h6 : inP 6 = true := by decide
  rw [h6, Bool.and_true]
  unfold gmB srcV outV
  cases h : okG bs
  · exact ⟨0, 0, fun _ => 0, rfl, rfl, by omega, fun e => by cases e⟩
  · exact ⟨bs.length, 6, ndF bs bs.length, rfl, rfl, (okG_len h).2, fun _ => ⟨rfl, rfl⟩⟩
def ResG (xs : List Int) (ok : Bool) (w : World) (e : Ending) (w' : World) : Prop := ∃ v, e = .returned (.tuple #[v, .bool ok]) ∧ OwnW w' w.heap.size v xs ∧ Below w.heap.size w w'
def IbG (n : Int) (ok : Bool) (w : World) (e : Ending) (w' : World) : Prop := e = .returned (.tuple #[.int .i64 n, .bool ok]) ∧ Below w.heap.size w w'
theorem RdG.boxed {w : World} {a : Option Addr} {c : Nat} {bs : List (List Int)} (h : RdR w a bs) (t : TypeId) :
    ((w.alloc (.cells #[.slice a bs.length c] t)).cell? ⟨w.heap.size, 0, none⟩ = some (.slice a bs.length c) ∧ RdR (w.alloc (.cells #[.slice a bs.length c] t)) a bs ∧ w.heap.size < (w.alloc (.cells #[.slice a bs.length c] t)).heap.size) ∧ Below w.heap.size w (w.alloc (.cells #[.slice a bs.length c] t)) := by
  have b0 : Below w.heap.size w (w.alloc (.cells #[.slice a bs.length c] t)) := (Below.refl _ w).alloc (Nat.le_refl _) _
  exact ⟨⟨(Blk.newAt w _ [.slice a bs.length c] t rfl).cell 0, RdR.below h b0, by simp⟩, b0⟩
/-- The program's call of gameOf with all places, its result stored. -/
theorem game6 (a : Option Addr) (c : Nat) (bs : List (List Int)) (w : World) (hh : RdR w a bs) (hl : bs.length ≤ 1048576) : ∃ n q f, n ≤ 6 ∧ (okG bs = true → n = bs.length ∧ f = ndF bs bs.length) ∧
    Calls Try.prog 28 #[.agg #[.slice a bs.length c], .int .i64 6] w (fun e w' => e = .returned (.tuple #[.agg (gm n q f (srcV bs) (outV bs)).toArray, .bool (okG bs)]) ∧ Below w.heap.size w w') := by
  obtain ⟨n, q, f, h1, h2, h3, h4⟩ := gmB_form bs
  refine ⟨n, q, f, h3, h4, ?_⟩
  have := game_i a c bs 6 w hh hl
  unfold GamP at this
  rw [h1, h2] at this
  exact this

set_option maxHeartbeats 1000000 in
theorem vg_s {v : Value} {bs : List (List Int)} {w : World} (h : RdG w v bs) : Calls Try.prog 9 #[v] w (Bb (okG bs) w) := by
  obtain ⟨a, c, rfl, h1, hl⟩ := h
  obtain ⟨⟨b0, b1, b2⟩, bb⟩ := RdG.boxed (c := c) h1 27
  have HG := Lib.hid (isg_s w.heap.size a c bs _ b2 b0 b1 hl)
  clear b0 b1 b2 h1
  generalize okG bs = r at *
  generalize bs.length = N at *
  go_enter Try.func9, Try.ntmps9
  go_wp2_with fail
  refine HG.out.mono ?_; rintro e w1 ⟨rfl, b1⟩
  have B1 := Lib.hid (bt bb b1)
  clear b1 bb
  go_wp2
  go_ret
  exact ⟨rfl, B1.out⟩
set_option maxHeartbeats 1000000 in
theorem so_s {v : Value} {bs : List (List Int)} {w : World} (h : RdG w v bs) : Calls Try.prog 13 #[v] w (ResG (bitL (srcV bs) 6) (okG bs) w) := by
  obtain ⟨a, c, rfl, h1, hl⟩ := h
  obtain ⟨⟨b0, b1, b2⟩, bb⟩ := RdG.boxed (c := c) h1 27
  have HG := Lib.hid (isg_s w.heap.size a c bs _ b2 b0 b1 hl)
  have HR := Lib.hid (fun (w' : World) (hb : Below (w.alloc (.cells #[.slice a bs.length c] 27)).heap.size (w.alloc (.cells #[.slice a bs.length c] 27)) w') => And.intro ((hb.cell (p := ⟨w.heap.size, 0, none⟩) b2).trans b0) (RdR.below b1 hb))
  clear b0 b1 b2 h1
  cases hr : okG bs
  · rw [hr] at HG
    have hz : srcV bs = 0 := by unfold srcV; rw [hr]; rfl
    rw [hz, bitL_zero]
    clear HR hz hr hl
    generalize bs.length = N at *
    go_enter Try.func13, Try.ntmps13
    go_wp2_with (first | (go_at_call 26; (with_reducible refine HG.out.mono ?_); rintro e w1 ⟨rfl, b1⟩; have B1 := Lib.hid (bt bb b1); clear b1 bb))
    go_ret2
    exact ⟨_, rfl, OwnW.nil _ _, B1.out⟩
  · rw [hr] at HG
    have hz : srcV bs = src bs bs.length := by unfold srcV; rw [hr]; rfl
    have hlt := srcV_lt bs
    have hlen := (okG_len hr).2
    have HX := Lib.hid (fun (w' : World) (hb : Below (w.alloc (.cells #[.slice a bs.length c] 27)).heap.size (w.alloc (.cells #[.slice a bs.length c] 27)) w') => (show Calls Try.prog 31 #[.pointer (some ⟨w.heap.size, 0, none⟩)] w' (NwG ((srcV bs : Nat) : Int) w') from by
      obtain ⟨x1, x2⟩ := HR.out w' hb
      rw [hz]
      exact src_s w.heap.size a c bs w' x1 x2 hlen))
    clear HR hr hz hlen hl
    have HT := Lib.hid (fun w9 => set_s _ hlt w9)
    generalize srcV bs = m at *
    generalize bs.length = N at *
    go_enter Try.func13, Try.ntmps13
    go_wp2_with (first | (go_at_call 26; (with_reducible refine HG.out.mono ?_); rintro e w1 ⟨rfl, b1⟩; have B1 := Lib.hid (bt bb b1); have HX1 := Lib.hid (HX.out w1 b1); clear b1 bb HX) | (go_at_call 31; (with_reducible refine HX1.out.mono ?_); rintro e w2 ⟨rfl, rfl⟩) | (go_at_call 30; (with_reducible refine (HT.out _).mono ?_); rintro e w3 ⟨v3, rfl, o3, b3⟩; have B3 := Lib.hid (bt B1.out b3)))
    go_ret2
    exact ⟨_, rfl, (o3.mono (B1.out.size)).weak, B3.out⟩
set_option maxHeartbeats 1000000 in
theorem ou_s {v : Value} {bs : List (List Int)} {w : World} (h : RdG w v bs) : Calls Try.prog 19 #[v] w (ResG (bitL (outV bs) 6) (okG bs) w) := by
  obtain ⟨a, c, rfl, h1, hl⟩ := h
  obtain ⟨⟨b0, b1, b2⟩, bb⟩ := RdG.boxed (c := c) h1 27
  have HG := Lib.hid (isg_s w.heap.size a c bs _ b2 b0 b1 hl)
  have HR := Lib.hid (fun (w' : World) (hb : Below (w.alloc (.cells #[.slice a bs.length c] 27)).heap.size (w.alloc (.cells #[.slice a bs.length c] 27)) w') => And.intro ((hb.cell (p := ⟨w.heap.size, 0, none⟩) b2).trans b0) (RdR.below b1 hb))
  clear b0 b1 b2 h1
  cases hr : okG bs
  · rw [hr] at HG
    have hz : outV bs = 0 := by unfold outV; rw [hr]; rfl
    rw [hz, bitL_zero]
    clear HR hz hr hl
    generalize bs.length = N at *
    go_enter Try.func19, Try.ntmps19
    go_wp2_with (first | (go_at_call 26; (with_reducible refine HG.out.mono ?_); rintro e w1 ⟨rfl, b1⟩; have B1 := Lib.hid (bt bb b1); clear b1 bb))
    go_ret2
    exact ⟨_, rfl, OwnW.nil _ _, B1.out⟩
  · rw [hr] at HG
    have hz : outV bs = out bs bs.length := by unfold outV; rw [hr]; rfl
    have hlt := outV_lt bs
    have hlen := (okG_len hr).2
    have HX := Lib.hid (fun (w' : World) (hb : Below (w.alloc (.cells #[.slice a bs.length c] 27)).heap.size (w.alloc (.cells #[.slice a bs.length c] 27)) w') => (show Calls Try.prog 34 #[.pointer (some ⟨w.heap.size, 0, none⟩)] w' (NwG ((outV bs : Nat) : Int) w') from by
      obtain ⟨x1, x2⟩ := HR.out w' hb
      rw [hz, ← out_same hr]
      exact out_s w.heap.size a c bs w' x1 x2 hlen fun j hj => okG_row hr j hj))
    clear HR hr hz hlen hl
    have HT := Lib.hid (fun w9 => set_s _ hlt w9)
    generalize outV bs = m at *
    generalize bs.length = N at *
    go_enter Try.func19, Try.ntmps19
    go_wp2_with (first | (go_at_call 26; (with_reducible refine HG.out.mono ?_); rintro e w1 ⟨rfl, b1⟩; have B1 := Lib.hid (bt bb b1); have HX1 := Lib.hid (HX.out w1 b1); clear b1 bb HX) | (go_at_call 34; (with_reducible refine HX1.out.mono ?_); rintro e w2 ⟨rfl, rfl⟩) | (go_at_call 30; (with_reducible refine (HT.out _).mono ?_); rintro e w3 ⟨v3, rfl, o3, b3⟩; have B3 := Lib.hid (bt B1.out b3)))
    go_ret2
    exact ⟨_, rfl, (o3.mono (B1.out.size)).weak, B3.out⟩
set_option maxHeartbeats 2000000 in
theorem vg_i {v : Value} {bs : List (List Int)} {w : World} (h : RdG w v bs) : Calls Try.prog 11 #[v] w (Bb (okG bs) w) := by
  obtain ⟨a, c, rfl, h1, hl⟩ := h
  obtain ⟨⟨b0, b1, b2⟩, bb⟩ := RdG.boxed (c := c) h1 27
  obtain ⟨n, q, f, hn, hnf, HG0⟩ := game6 a c bs _ b1 hl
  have HG := Lib.hid HG0
  have hs := srcV_lt bs
  have ho := outV_lt bs
  clear HG0 b0 b1 b2 h1
  generalize srcV bs = s at *
  generalize outV bs = o at *
  generalize bs.length = N at *
  go_enter Try.func11, Try.ntmps11
  go_wp2_with (first | (go_at_call 28; (with_reducible refine HG.out.mono ?_); rintro e w1 ⟨rfl, b1⟩; have B1 := Lib.hid (bt bb b1); clear b1 bb) | (with_reducible refine wpList_storeB rfl 46 (.tmp 3) (.tmp 8) rfl w1.heap.size 0 (gm n q f s o) ?_ ?_ (gm 0 0 (fun _ => 0) 0 0) 46 ?_ ?_ ?_ ?_ ?_))
  · rfl
  · rfl
  · exact Blk.newAt _ _ _ _ rfl
  · exact Nat.le_refl _
  · kernel_rfl
  · exact one_gm _ _ _ _ _
  intro w2 k2 q2
  rw [splice_all _ _ (by rfl)] at k2
  have B2 : Hid (Below w.heap.size w w2) := (B1.out.alloc B1.out.size _).trans (q2.out.below B1.out.size)
  have x8 : w2.cell? ⟨w1.heap.size, 8, none⟩ = some (.int .u8 (s : Int)) := k2.out.cell 8
  have x9 : w2.cell? ⟨w1.heap.size, 9, none⟩ = some (.int .u8 (o : Int)) := k2.out.cell 9
  generalize okG bs = r at *
  clear k2 q2 HG
  go_wp2
  go_ret
  exact ⟨rfl, B2.out⟩
set_option maxHeartbeats 2000000 in
theorem so_i {v : Value} {bs : List (List Int)} {w : World} (h : RdG w v bs) : Calls Try.prog 14 #[v] w (ResG (bitL (srcV bs) 6) (okG bs) w) := by
  obtain ⟨a, c, rfl, h1, hl⟩ := h
  obtain ⟨⟨b0, b1, b2⟩, bb⟩ := RdG.boxed (c := c) h1 27
  obtain ⟨n, q, f, hn, hnf, HG0⟩ := game6 a c bs _ b1 hl
  have HG := Lib.hid HG0
  have hs := srcV_lt bs
  have ho := outV_lt bs
  clear HG0 b0 b1 b2 h1
  generalize srcV bs = s at *
  generalize outV bs = o at *
  generalize bs.length = N at *
  go_enter Try.func14, Try.ntmps14
  go_wp2_with (first | (go_at_call 28; (with_reducible refine HG.out.mono ?_); rintro e w1 ⟨rfl, b1⟩; have B1 := Lib.hid (bt bb b1); clear b1 bb) | (with_reducible refine wpList_storeB rfl 46 (.tmp 4) (.tmp 9) rfl w1.heap.size 0 (gm n q f s o) ?_ ?_ (gm 0 0 (fun _ => 0) 0 0) 46 ?_ ?_ ?_ ?_ ?_))
  · rfl
  · rfl
  · exact Blk.newAt _ _ _ _ rfl
  · exact Nat.le_refl _
  · kernel_rfl
  · exact one_gm _ _ _ _ _
  intro w2 k2 q2
  rw [splice_all _ _ (by rfl)] at k2
  have B2 : Hid (Below w.heap.size w w2) := (B1.out.alloc B1.out.size _).trans (q2.out.below B1.out.size)
  have x8 : w2.cell? ⟨w1.heap.size, 8, none⟩ = some (.int .u8 (s : Int)) := k2.out.cell 8
  have x9 : w2.cell? ⟨w1.heap.size, 9, none⟩ = some (.int .u8 (o : Int)) := k2.out.cell 9
  have HT := Lib.hid (fun w9 => list_i s hs w9)
  generalize okG bs = r at *
  clear k2 q2 HG
  go_wp2_with (first | (go_at_call 32; (with_reducible refine (HT.out _).mono ?_); rintro e w3 ⟨v3, rfl, o3, b3⟩; have B3 := Lib.hid (bt B2.out b3)))
  go_ret2
  exact ⟨_, rfl, (o3.mono (B2.out.size)).weak, B3.out⟩
set_option maxHeartbeats 2000000 in
theorem ou_i {v : Value} {bs : List (List Int)} {w : World} (h : RdG w v bs) : Calls Try.prog 20 #[v] w (ResG (bitL (outV bs) 6) (okG bs) w) := by
  obtain ⟨a, c, rfl, h1, hl⟩ := h
  obtain ⟨⟨b0, b1, b2⟩, bb⟩ := RdG.boxed (c := c) h1 27
  obtain ⟨n, q, f, hn, hnf, HG0⟩ := game6 a c bs _ b1 hl
  have HG := Lib.hid HG0
  have hs := srcV_lt bs
  have ho := outV_lt bs
  clear HG0 b0 b1 b2 h1
  generalize srcV bs = s at *
  generalize outV bs = o at *
  generalize bs.length = N at *
  go_enter Try.func20, Try.ntmps20
  go_wp2_with (first | (go_at_call 28; (with_reducible refine HG.out.mono ?_); rintro e w1 ⟨rfl, b1⟩; have B1 := Lib.hid (bt bb b1); clear b1 bb) | (with_reducible refine wpList_storeB rfl 46 (.tmp 4) (.tmp 9) rfl w1.heap.size 0 (gm n q f s o) ?_ ?_ (gm 0 0 (fun _ => 0) 0 0) 46 ?_ ?_ ?_ ?_ ?_))
  · rfl
  · rfl
  · exact Blk.newAt _ _ _ _ rfl
  · exact Nat.le_refl _
  · kernel_rfl
  · exact one_gm _ _ _ _ _
  intro w2 k2 q2
  rw [splice_all _ _ (by rfl)] at k2
  have B2 : Hid (Below w.heap.size w w2) := (B1.out.alloc B1.out.size _).trans (q2.out.below B1.out.size)
  have x8 : w2.cell? ⟨w1.heap.size, 8, none⟩ = some (.int .u8 (s : Int)) := k2.out.cell 8
  have x9 : w2.cell? ⟨w1.heap.size, 9, none⟩ = some (.int .u8 (o : Int)) := k2.out.cell 9
  have HT := Lib.hid (fun w9 => list_i o ho w9)
  generalize okG bs = r at *
  clear k2 q2 HG
  go_wp2_with (first | (go_at_call 32; (with_reducible refine (HT.out _).mono ?_); rintro e w3 ⟨v3, rfl, o3, b3⟩; have B3 := Lib.hid (bt B2.out b3)))
  go_ret2
  exact ⟨_, rfl, (o3.mono (B2.out.size)).weak, B3.out⟩
end Go.Proofs.Ytplflbgopjmgdaa.Pb
