/- append of one number to a list of the call's own, inside a region that draws its order. Uses through two levels: what the contents, the places and the back invalidations are. The program's runLevels. The model's taking out of contents; its run through two levels. RunLevels, LevelContents and BackInvalidations: both sides. The law's marks in levels. -/
import Derived.Test.YtimfekedpgllhaaCappg
import Derived.Deep.AppendLies
import Derived.Test.YtimfekedpgllhaaLv1
import Derived.Test.YtimfekedpgllhaaConlyS
namespace Go.Proofs.Ytimfekedpgllhaa
open Go.RowKit
theorem step_appI {ops : Array Oper} {o : Oper} {a : Act} {K : Act → World → Prop} {Q : Exit → Act → World → Prop} {E : Prop} (wr : World) (hgd : o.guard = none) (s x : Operand)
    (ho : o.op = .call { callee := .builtin .append, args := #[s, x], argTypes := #[23, 23] })
    (B : Nat) (v : Value) (xs : List Int) (u : Int) (hs : a.eval s = v) (hx : a.eval x = .slice (some ⟨wr.heap.size, 0, none⟩) 1 1) (hown : Own wr B v xs)
    (hlen : xs.length + 1 ≤ 1000000000) (hB : B ≤ wr.heap.size)
    (h : ∀ g cap w', Own w' B (.slice (some ⟨g, 0, none⟩) (xs.length + 1) cap) (xs ++ [u]) → Below B wr w' → (∀ b, b < wr.heap.size → v.ownBlock ≠ some b → w'.heap[b]? = wr.heap[b]?) → B ≤ g → K (a.put o.dst (.slice (some ⟨g, 0, none⟩) (xs.length + 1) cap)) w') :
    if Region.wanted o (yielded ops a.tmps) = true then Oper.wp Try.prog o a (wr.alloc (.cells #[.int .i64 u] 2)) K Q else E := by
  obtain ⟨i0, hi, hz0, hz1, hz2⟩ := info_parts infoI
  have hsz : (wr.alloc (.cells #[.int .i64 u] 2)).heap.size = wr.heap.size + 1 := Array.size_push _
  refine step_append_lies _ hgd s x 23 ho B 2 i0 (.int .i64 0) 1 8 Try.underlying23 hi hz0 hz1 hz2 rfl (by decide) v xs.length (xs.map (Value.int .i64)) hs (World.ownsRow.alloc hown _)
    ⟨wr.heap.size, 0, none⟩ 1 1 [.int .i64 u] hx rfl (cell_one_new _ _ _) ?_ (by decide) ?_ ?_ ?_ _ rfl ?_
  · intro u' hu'; simp at hu'; subst hu'; rfl
  · unfold maxLen; omega
  · omega
  · omega
  · intro g cap w' hrow hgrow hat _
    have hO : Own w' B (.slice (some ⟨g, 0, none⟩) (xs.length + 1) cap) (xs ++ [u]) := by
      show World.ownsRow _ _ _ _ _ (xs ++ [u]).length _
      rw [List.length_append, List.map_append]
      exact hrow
    refine h g cap w' hO (((Below.refl B wr).alloc hB _).grown hgrow (by omega) (fun k hk => (Own.block hown k hk).1)) (fun b hb hne => (hgrow.block b (by omega) (fun e => hne e.symm)).trans (Below.heap_alloc wr _ b hb)) ?_
    exact (Own.block hO g rfl).1
end Go.Proofs.Ytimfekedpgllhaa
namespace Go.Proofs.Ytimfekedpgllhaa.Pv
open Go.RowKit
/-- Two levels after some uses. -/
structure LvS where
  k1 : Nat → Int
  k2 : Nat → Int
  fs : List Int
  bk : Nat
/-- Where an address is found. -/
def findV (M1 M2 : Nat) (k1 k2 : Nat → Int) (x : Int) : Int := if hitB M1 k1 x then 1 else if hitB M2 k2 x then 2 else 3
/-- What the modes do for an address that is not in the first level: both contents, and whether there is a back invalidation. -/
def fetK1 (hs _hq : List (List Int)) (ms mq : List Int) (md : Int) (k1 k2 : Nat → Int) (x : Int) : Nat → Int :=
  if md = 1 then stN hs ms (if gonB mq.length k2 x then outK ms.length k1 (gonV mq.length k2 x) else k1) x else stN hs ms k1 x
def fetK2 (_hs hq : List (List Int)) (ms mq : List Int) (md : Int) (k1 k2 : Nat → Int) (x : Int) : Nat → Int :=
  if md = 2 then (if gonB ms.length k1 x then stN hq mq (outK mq.length k2 x) (gonV ms.length k1 x) else outK mq.length k2 x) else stN hq mq k2 x
def fetB (_hs _hq : List (List Int)) (ms mq : List Int) (md : Int) (k1 k2 : Nat → Int) (x : Int) : Nat :=
  if md = 1 then (if gonB mq.length k2 x && hitB ms.length k1 (gonV mq.length k2 x) then 1 else 0) else 0
def lvStep (hs hq : List (List Int)) (ms mq : List Int) (md : Int) (s : LvS) (x : Int) : LvS :=
  if hitB ms.length s.k1 x then ⟨stN hs ms s.k1 x, s.k2, s.fs ++ [findV ms.length mq.length s.k1 s.k2 x], s.bk⟩
  else ⟨fetK1 hs hq ms mq md s.k1 s.k2 x, fetK2 hs hq ms mq md s.k1 s.k2 x, s.fs ++ [findV ms.length mq.length s.k1 s.k2 x], s.bk + fetB hs hq ms mq md s.k1 s.k2 x⟩
def lvRun (hs hq : List (List Int)) (ms mq : List Int) (md : Int) (xs : List Int) : Nat → LvS
  | 0 => ⟨fun _ => -1, fun _ => -1, [], 0⟩
  | j + 1 => lvStep hs hq ms mq md (lvRun hs hq ms mq md xs j) (xs.getD j 0)
theorem lvStep_fs (hs hq : List (List Int)) (ms mq : List Int) (md : Int) (s : LvS) (x : Int) : (lvStep hs hq ms mq md s x).fs = s.fs ++ [findV ms.length mq.length s.k1 s.k2 x] := by
  unfold lvStep; split <;> rfl
theorem lvRun_len (hs hq : List (List Int)) (ms mq : List Int) (md : Int) (xs : List Int) (j : Nat) : (lvRun hs hq ms mq md xs j).fs.length = j := by
  induction j with
  | zero => rfl
  | succ j ih => rw [lvRun, lvStep_fs, List.length_append, ih]; rfl
theorem lvRun_bk (hs hq : List (List Int)) (ms mq : List Int) (md : Int) (xs : List Int) (j : Nat) : (lvRun hs hq ms mq md xs j).bk ≤ j := by
  induction j with
  | zero => exact Nat.le_refl 0
  | succ j ih =>
    rw [lvRun]
    unfold lvStep
    split
    · show (lvRun hs hq ms mq md xs j).bk ≤ j + 1; omega
    · have h : fetB hs hq ms mq md (lvRun hs hq ms mq md xs j).k1 (lvRun hs hq ms mq md xs j).k2 (xs.getD j 0) ≤ 1 := by
        unfold fetB
        split
        · split <;> decide
        · decide
      show (lvRun hs hq ms mq md xs j).bk + _ ≤ j + 1
      omega
theorem isP_len6 {hs : List (List Int)} {ms : List Int} (h : isP hs ms = true) : 1 ≤ ms.length ∧ ms.length ≤ 6 := by
  unfold isP at h; simp only [Bool.and_eq_true, decide_eq_true_eq] at h; omega
/-- The block of two levels. -/
structure LvB (b : Nat) (mv : Value) (hs hq : List (List Int)) (ms mq : List Int) (k1 k2 : Nat → Int) (f : Value) (bk : Nat) (w0 w : World) : Prop where
  blk : Blk w b (lvC mv (rulC true ms.length hs ms) k1 (rulC true mq.length hq mq) k2 f (bk : Int)) 62
  kept : Kept b w0 w
theorem LvB.fm1 {mv : Value} {hs hq : List (List Int)} {ms mq : List Int} {k1 k2 : Nat → Int} {f : Value} {bk : Nat} : FmA (lvC mv (rulC true ms.length hs ms) k1 (rulC true mq.length hq mq) k2 f (bk : Int)) 1 (rulC true ms.length hs ms) k1 :=
  lvC_fm1 _ _ _ _ _ _ _ (rulC_len _ _ _ _) (rulC_len _ _ _ _)
theorem LvB.fm2 {mv : Value} {hs hq : List (List Int)} {ms mq : List Int} {k1 k2 : Nat → Int} {f : Value} {bk : Nat} : FmA (lvC mv (rulC true ms.length hs ms) k1 (rulC true mq.length hq mq) k2 f (bk : Int)) 50 (rulC true mq.length hq mq) k2 :=
  lvC_fm2 _ _ _ _ _ _ _ (rulC_len _ _ _ _) (rulC_len _ _ _ _)
/-- The two steps, over such a block. -/
theorem use1_i {b : Nat} {mv : Value} {hs hq : List (List Int)} {ms mq : List Int} {k1 k2 : Nat → Int} {f : Value} {bk : Nat} {w0 w : World} (hok : isP hs ms = true) (h : LvB b mv hs hq ms mq k1 k2 f bk w0 w) (x : Int) :
    Calls Try.prog 49 #[.pointer (some ⟨b, 1, none⟩), .int .i64 x] w (fun e w' => e = .returned (.tuple #[.int .i64 (gonV ms.length k1 x), .bool (gonB ms.length k1 x)]) ∧ LvB b mv hs hq ms mq (stN hs ms k1 x) k2 f bk w0 w') :=
  (fuse_i hs ms hok b 1 _ _ k1 x w h.blk (LvB.fm1)).mono fun e w' ⟨he, hb, hk⟩ => ⟨he, ⟨by rw [lvC_put1 _ _ _ _ _ _ _ _ (rulC_len _ _ _ _)] at hb; exact hb, h.kept.trans hk⟩⟩
theorem use2_i {b : Nat} {mv : Value} {hs hq : List (List Int)} {ms mq : List Int} {k1 k2 : Nat → Int} {f : Value} {bk : Nat} {w0 w : World} (hok : isP hq mq = true) (h : LvB b mv hs hq ms mq k1 k2 f bk w0 w) (x : Int) :
    Calls Try.prog 49 #[.pointer (some ⟨b, 50, none⟩), .int .i64 x] w (fun e w' => e = .returned (.tuple #[.int .i64 (gonV mq.length k2 x), .bool (gonB mq.length k2 x)]) ∧ LvB b mv hs hq ms mq k1 (stN hq mq k2 x) f bk w0 w') :=
  (fuse_i hq mq hok b 50 _ _ k2 x w h.blk (LvB.fm2)).mono fun e w' ⟨he, hb, hk⟩ => ⟨he, ⟨by rw [lvC_put2 _ _ _ _ _ _ _ _ (rulC_len _ _ _ _) (rulC_len _ _ _ _)] at hb; exact hb, h.kept.trans hk⟩⟩
theorem take1_i {b : Nat} {mv : Value} {hs hq : List (List Int)} {ms mq : List Int} {k1 k2 : Nat → Int} {f : Value} {bk : Nat} {w0 w : World} (hok : isP hs ms = true) (h : LvB b mv hs hq ms mq k1 k2 f bk w0 w) (x : Int) :
    Calls Try.prog 107 #[.pointer (some ⟨b, 1, none⟩), .int .i64 x] w (fun e w' => e = .returned (.bool (hitB ms.length k1 x)) ∧ LvB b mv hs hq ms mq (outK ms.length k1 x) k2 f bk w0 w') :=
  (ftake_i ms.length (isP_len6 hok).1 (isP_len6 hok).2 b 1 _ _ _ k1 x w rfl h.blk (LvB.fm1)).mono fun e w' ⟨he, hb, hk⟩ => ⟨he, ⟨by rw [lvC_put1 _ _ _ _ _ _ _ _ (rulC_len _ _ _ _)] at hb; exact hb, h.kept.trans hk⟩⟩
theorem take2_i {b : Nat} {mv : Value} {hs hq : List (List Int)} {ms mq : List Int} {k1 k2 : Nat → Int} {f : Value} {bk : Nat} {w0 w : World} (hok : isP hq mq = true) (h : LvB b mv hs hq ms mq k1 k2 f bk w0 w) (x : Int) :
    Calls Try.prog 107 #[.pointer (some ⟨b, 50, none⟩), .int .i64 x] w (fun e w' => e = .returned (.bool (hitB mq.length k2 x)) ∧ LvB b mv hs hq ms mq k1 (outK mq.length k2 x) f bk w0 w') :=
  (ftake_i mq.length (isP_len6 hok).1 (isP_len6 hok).2 b 50 _ _ _ k2 x w rfl h.blk (LvB.fm2)).mono fun e w' ⟨he, hb, hk⟩ => ⟨he, ⟨by rw [lvC_put2 _ _ _ _ _ _ _ _ (rulC_len _ _ _ _) (rulC_len _ _ _ _)] at hb; exact hb, h.kept.trans hk⟩⟩
theorem has1_i {b : Nat} {mv : Value} {hs hq : List (List Int)} {ms mq : List Int} {k1 k2 : Nat → Int} {f : Value} {bk : Nat} {w0 w : World} (hok : isP hs ms = true) (h : LvB b mv hs hq ms mq k1 k2 f bk w0 w) (x : Int) :
    Calls Try.prog 48 #[.pointer (some ⟨b, 1, none⟩), .int .i64 x] w (fun e w' => e = .returned (.bool (hitB ms.length k1 x)) ∧ ∃ q, w' = w.drewN q) :=
  fhas_i ms.length (isP_len6 hok).1 (isP_len6 hok).2 b 1 _ _ _ k1 x w rfl h.blk (LvB.fm1)
theorem has2_i {b : Nat} {mv : Value} {hs hq : List (List Int)} {ms mq : List Int} {k1 k2 : Nat → Int} {f : Value} {bk : Nat} {w0 w : World} (hok : isP hq mq = true) (h : LvB b mv hs hq ms mq k1 k2 f bk w0 w) (x : Int) :
    Calls Try.prog 48 #[.pointer (some ⟨b, 50, none⟩), .int .i64 x] w (fun e w' => e = .returned (.bool (hitB mq.length k2 x)) ∧ ∃ q, w' = w.drewN q) :=
  fhas_i mq.length (isP_len6 hok).1 (isP_len6 hok).2 b 50 _ _ _ k2 x w rfl h.blk (LvB.fm2)
theorem LvB.drewN {b : Nat} {mv : Value} {hs hq : List (List Int)} {ms mq : List Int} {k1 k2 : Nat → Int} {f : Value} {bk : Nat} {w0 w : World} (h : LvB b mv hs hq ms mq k1 k2 f bk w0 w) (q : Nat) : LvB b mv hs hq ms mq k1 k2 f bk w0 (w.drewN q) :=
  ⟨h.blk, h.kept.trans (Kept.of (below_drewN q (Below.refl _ w)))⟩
theorem LvB.alloc {b : Nat} {mv : Value} {hs hq : List (List Int)} {ms mq : List Int} {k1 k2 : Nat → Int} {f : Value} {bk : Nat} {w0 w : World} (h : LvB b mv hs hq ms mq k1 k2 f bk w0 w) (o : Obj) : LvB b mv hs hq ms mq k1 k2 f bk w0 (w.alloc o) :=
  ⟨h.blk.alloc o, h.kept.trans (Kept.of ((Below.refl _ w).alloc (Nat.le_refl _) o))⟩
set_option maxRecDepth 100000 in
set_option maxHeartbeats 4000000 in
theorem find_i {b : Nat} {mv : Value} {hs hq : List (List Int)} {ms mq : List Int} {k1 k2 : Nat → Int} {f : Value} {bk : Nat} {w0 w : World} (hok : isP hs ms = true) (hok2 : isP hq mq = true) (h : LvB b mv hs hq ms mq k1 k2 f bk w0 w) (x : Int) :
    Calls Try.prog 47 #[.pointer (some ⟨b, 0, none⟩), .int .i64 x] w (fun e w' => e = .returned (.int .i64 (findV ms.length mq.length k1 k2 x)) ∧ ∃ q, w' = w.drewN q) := by
  have H1 := Lib.hid (has1_i hok h x)
  have H2 := Lib.hid (fun q => has2_i hok2 (h.drewN q) x)
  unfold findV
  clear h hok hok2
  generalize hitB ms.length k1 x = r1 at *
  generalize hitB mq.length k2 x = r2 at *
  cases r1
  · cases r2
    · go_enter Try.func47, Try.ntmps47
      go_wp2_with fail
      refine H1.out.mono ?_; rintro e w1 ⟨rfl, q, rfl⟩
      go_wp2_with fail
      refine (H2.out q).mono ?_; rintro e w2 ⟨rfl, q2, rfl⟩
      go_wp2
      go_ret
      exact ⟨rfl, _, by first | rfl | (rw [World.drewN_drewN])⟩
    · go_enter Try.func47, Try.ntmps47
      go_wp2_with fail
      refine H1.out.mono ?_; rintro e w1 ⟨rfl, q, rfl⟩
      go_wp2_with fail
      refine (H2.out q).mono ?_; rintro e w2 ⟨rfl, q2, rfl⟩
      go_wp2
      go_ret
      exact ⟨rfl, _, by first | rfl | (rw [World.drewN_drewN])⟩
  · go_enter Try.func47, Try.ntmps47
    go_wp2_with fail
    refine H1.out.mono ?_; rintro e w1 ⟨rfl, q, rfl⟩
    go_wp2
    go_ret
    exact ⟨rfl, q, rfl⟩
/-- What a mode's fetch leaves. -/
def FetR (b : Nat) (mv : Value) (hs hq : List (List Int)) (ms mq : List Int) (md : Int) (k1 k2 : Nat → Int) (f : Value) (bk : Nat) (x : Int) (w0 : World) (e : Ending) (w' : World) : Prop :=
  e = .returned (.tuple #[]) ∧ LvB b mv hs hq ms mq (fetK1 hs hq ms mq md k1 k2 x) (fetK2 hs hq ms mq md k1 k2 x) f (bk + fetB hs hq ms mq md k1 k2 x) w0 w'
set_option maxRecDepth 100000 in
set_option maxHeartbeats 4000000 in
theorem free_i {b : Nat} {mv : Value} {hs hq : List (List Int)} {ms mq : List Int} {k1 k2 : Nat → Int} {f : Value} {bk : Nat} {w0 w : World} (hok : isP hs ms = true) (hok2 : isP hq mq = true) (h : LvB b mv hs hq ms mq k1 k2 f bk w0 w) (x : Int) :
    Calls Try.prog 105 #[.agg #[], .pointer (some ⟨b, 0, none⟩), .int .i64 x] w (FetR b mv hs hq ms mq 0 k1 k2 f bk x w0) := by
  have H2 := Lib.hid (fun o => use2_i hok2 (h.alloc o) x)
  have H1 := Lib.hid (fun (w' : World) (h' : LvB b mv hs hq ms mq k1 (stN hq mq k2 x) f bk w0 w') => use1_i hok h' x)
  clear h hok hok2
  go_enter Try.func105, Try.ntmps105
  go_wp2_with fail
  refine (H2.out _).mono ?_; rintro e w1 ⟨rfl, h1⟩
  have G1 := Lib.hid (H1.out w1 h1)
  clear h1
  go_wp2_with fail
  refine G1.out.mono ?_; rintro e w2 ⟨rfl, h2⟩
  go_wp2
  go_end0
  exact ⟨rfl, h2⟩
set_option maxRecDepth 100000 in
set_option maxHeartbeats 4000000 in
theorem excl_i {b : Nat} {mv : Value} {hs hq : List (List Int)} {ms mq : List Int} {k1 k2 : Nat → Int} {f : Value} {bk : Nat} {w0 w : World} (hok : isP hs ms = true) (hok2 : isP hq mq = true) (h : LvB b mv hs hq ms mq k1 k2 f bk w0 w) (x : Int) :
    Calls Try.prog 108 #[.agg #[], .pointer (some ⟨b, 0, none⟩), .int .i64 x] w (FetR b mv hs hq ms mq 2 k1 k2 f bk x w0) := by
  have H0 := Lib.hid (fun o => take2_i hok2 (h.alloc o) x)
  have H1 := Lib.hid (fun (w' : World) (h' : LvB b mv hs hq ms mq k1 (outK mq.length k2 x) f bk w0 w') => use1_i hok h' x)
  have H2 := Lib.hid (fun (w' : World) (h' : LvB b mv hs hq ms mq (stN hs ms k1 x) (outK mq.length k2 x) f bk w0 w') => use2_i hok2 h' (gonV ms.length k1 x))
  have e1 : fetK1 hs hq ms mq 2 k1 k2 x = stN hs ms k1 x := if_neg (by decide)
  have e2 : fetK2 hs hq ms mq 2 k1 k2 x = if gonB ms.length k1 x then stN hq mq (outK mq.length k2 x) (gonV ms.length k1 x) else outK mq.length k2 x := if_pos rfl
  have e3 : fetB hs hq ms mq 2 k1 k2 x = 0 := if_neg (by decide)
  unfold FetR
  rw [e1, e2, e3]
  clear h hok hok2 e1 e2 e3
  generalize gonB ms.length k1 x = g at *
  generalize gonV ms.length k1 x = v at *
  generalize hitB mq.length k2 x = r at *
  cases g
  · go_enter Try.func108, Try.ntmps108
    go_wp2_with fail
    refine (H0.out _).mono ?_; rintro e w1 ⟨rfl, h1⟩
    have G1 := Lib.hid (H1.out w1 h1)
    clear h1
    go_wp2_with fail
    refine G1.out.mono ?_; rintro e w2 ⟨rfl, h2⟩
    have G2 := Lib.hid h2
    clear h2
    go_wp2
    go_end0
    exact ⟨rfl, G2.out⟩
  · go_enter Try.func108, Try.ntmps108
    go_wp2_with fail
    refine (H0.out _).mono ?_; rintro e w1 ⟨rfl, h1⟩
    have G1 := Lib.hid (H1.out w1 h1)
    clear h1
    go_wp2_with fail
    refine G1.out.mono ?_; rintro e w2 ⟨rfl, h2⟩
    have G2 := Lib.hid (H2.out w2 h2)
    clear h2
    go_wp2_with fail
    refine G2.out.mono ?_; rintro e w3 ⟨rfl, h3⟩
    have G3 := Lib.hid h3
    clear h3
    go_wp2
    go_end0
    exact ⟨rfl, G3.out⟩
set_option maxRecDepth 100000 in
set_option maxHeartbeats 4000000 in
theorem incl_i {b : Nat} {mv : Value} {hs hq : List (List Int)} {ms mq : List Int} {k1 k2 : Nat → Int} {f : Value} {bk : Nat} {w0 w : World} (hok : isP hs ms = true) (hok2 : isP hq mq = true) (hbk : bk ≤ 100) (h : LvB b mv hs hq ms mq k1 k2 f bk w0 w) (x : Int) :
    Calls Try.prog 106 #[.agg #[], .pointer (some ⟨b, 0, none⟩), .int .i64 x] w (FetR b mv hs hq ms mq 1 k1 k2 f bk x w0) := by
  have H0 := Lib.hid (fun o => use2_i hok2 (h.alloc o) x)
  have HT := Lib.hid (fun (w' : World) (h' : LvB b mv hs hq ms mq k1 (stN hq mq k2 x) f bk w0 w') => take1_i hok h' (gonV mq.length k2 x))
  have H1 := Lib.hid (fun (w' : World) (k : Nat → Int) (n : Nat) (h' : LvB b mv hs hq ms mq k (stN hq mq k2 x) f n w0 w') => use1_i hok h' x)
  have HB := Lib.hid (fun (w' : World) (k : Nat → Int) (h' : LvB b mv hs hq ms mq k (stN hq mq k2 x) f bk w0 w') => (show w'.cell? ⟨b, 100, none⟩ = some (.int .i64 (bk : Int)) ∧ w'.frozen? ⟨b, 100, none⟩ = false ∧ LvB b mv hs hq ms mq k (stN hq mq k2 x) f (bk + 1) w0 (w'.setCell ⟨b, 100, none⟩ (.int .i64 ((bk : Int) + 1))) from by
    obtain ⟨a0, a1, a2, a3, a4⟩ := lvC_at mv (rulC true ms.length hs ms) k (rulC true mq.length hq mq) (stN hq mq k2 x) f (bk : Int) (rulC_len _ _ _ _) (rulC_len _ _ _ _)
    refine ⟨(h'.blk.cell 100).trans a2, h'.blk.froz 100, ⟨?_, h'.kept.trans (Keep.kept (keep_set b [.int .i64 ((bk : Int) + 1)] 100 w'))⟩⟩
    have := blk_set1 (j := 100) h'.blk (.int .i64 ((bk : Int) + 1))
    rw [a4] at this
    exact this))
  have e1 : fetK1 hs hq ms mq 1 k1 k2 x = stN hs ms (if gonB mq.length k2 x then outK ms.length k1 (gonV mq.length k2 x) else k1) x := if_pos rfl
  have e2 : fetK2 hs hq ms mq 1 k1 k2 x = stN hq mq k2 x := if_neg (by decide)
  have e3 : fetB hs hq ms mq 1 k1 k2 x = if gonB mq.length k2 x && hitB ms.length k1 (gonV mq.length k2 x) then 1 else 0 := if_pos rfl
  unfold FetR
  rw [e1, e2, e3]
  clear h hok hok2 e1 e2 e3
  generalize gonB mq.length k2 x = g at *
  generalize gonV mq.length k2 x = v at *
  generalize hitB ms.length k1 v = r at *
  generalize stN hq mq k2 x = kk2 at *
  cases g
  · go_enter Try.func106, Try.ntmps106
    go_wp2_with fail
    refine (H0.out _).mono ?_; rintro e w1 ⟨rfl, h1⟩
    have G1 := Lib.hid (H1.out w1 k1 bk h1)
    clear h1
    go_wp2_with fail
    refine G1.out.mono ?_; rintro e w2 ⟨rfl, h2⟩
    have G2 := Lib.hid h2
    clear h2
    go_wp2
    go_end0
    exact ⟨rfl, G2.out⟩
  · cases r
    · go_enter Try.func106, Try.ntmps106
      go_wp2_with fail
      refine (H0.out _).mono ?_; rintro e w1 ⟨rfl, h1⟩
      have G1 := Lib.hid (HT.out w1 h1)
      clear h1
      go_wp2_with fail
      refine G1.out.mono ?_; rintro e w2 ⟨rfl, h2⟩
      have G2 := Lib.hid (H1.out w2 _ bk h2)
      clear h2
      go_wp2_with fail
      refine G2.out.mono ?_; rintro e w3 ⟨rfl, h3⟩
      have G3 := Lib.hid h3
      clear h3
      go_wp2
      go_end0
      exact ⟨rfl, G3.out⟩
    · go_enter Try.func106, Try.ntmps106
      go_wp2_with fail
      refine (H0.out _).mono ?_; rintro e w1 ⟨rfl, h1⟩
      have G1 := Lib.hid (HT.out w1 h1)
      clear h1
      go_wp2_with fail
      refine G1.out.mono ?_; rintro e w2 ⟨rfl, h2⟩
      obtain ⟨c0, f0, hset⟩ := HB.out w2 _ h2
      have G2 := Lib.hid (H1.out _ _ (bk + 1) hset)
      clear h2 hset
      go_wp2_with fail
      refine G2.out.mono ?_; rintro e w3 ⟨rfl, h3⟩
      have G3 := Lib.hid h3
      clear h3
      go_wp2
      go_end0
      exact ⟨rfl, G3.out⟩
end Go.Proofs.Ytimfekedpgllhaa.Pv
namespace Go.Proofs.Ytimfekedpgllhaa.Pv
open Go.RowKit Tr
/-- What runLevels leaves. -/
def RunL (ok : Bool) (mv : Value) (hs hq : List (List Int)) (ms mq : List Int) (S : LvS) (w : World) (e : Ending) (w' : World) : Prop :=
  (ok = false ∧ e = .returned (.tuple #[.agg z101.toArray, .bool false]) ∧ Below w.heap.size w w') ∨
  (ok = true ∧ ∃ f, e = .returned (.tuple #[.agg (lvC mv (rulC true ms.length hs ms) S.k1 (rulC true mq.length hq mq) S.k2 f (S.bk : Int)).toArray, .bool true]) ∧ Own w' w.heap.size f S.fs ∧ Below w.heap.size w w')
/-- The state in the loop. -/
def LvI (b : Nat) (mv : Value) (hs hq : List (List Int)) (ms mq : List Int) (S : LvS) (w0 w : World) : Prop :=
  ∃ f, LvB b mv hs hq ms mq S.k1 S.k2 f S.bk w0 w ∧ Own w (b + 1) f S.fs
theorem Kept.own {b B : Nat} {w w' : World} {v : Value} {xs : List Int} (h : Own w B v xs) (k : Kept b w w') (hb : b < B) : Own w' B v xs := by
  refine ⟨h.1, ?_⟩
  rcases h.2 with hn | ⟨g, cap, cur, hv, hg, hh, r⟩
  · exact .inl hn
  · exact .inr ⟨g, cap, cur, hv, hg, by rw [k.block g (Array.getElem?_eq_some_iff.1 hh).1 (by omega)]; exact hh, r⟩
theorem Kept.later {b : Nat} {w w' w2 : World} (h : Kept b w w') (hb : Below (b + 1) w' w2) (hs : w.heap.size ≤ b + 1) : Kept b w w2 :=
  ⟨hb.os.trans h.os, hb.tape.trans h.tape, hb.output.trans h.output, Nat.le_trans h.size hb.size, fun i hi hne => (hb.block i (by omega)).trans (h.block i hi hne)⟩
theorem LvB.drew {b : Nat} {mv : Value} {hs hq : List (List Int)} {ms mq : List Int} {k1 k2 : Nat → Int} {f : Value} {bk : Nat} {w0 w : World} (h : LvB b mv hs hq ms mq k1 k2 f bk w0 w) : LvB b mv hs hq ms mq k1 k2 f bk w0 w.drew :=
  ⟨h.blk, h.kept.trans (Kept.of (Below.refl _ w).drew)⟩
theorem LvB.at {b : Nat} {mv : Value} {hs hq : List (List Int)} {ms mq : List Int} {k1 k2 : Nat → Int} {f : Value} {bk : Nat} {w0 w : World} (h : LvB b mv hs hq ms mq k1 k2 f bk w0 w) :
    w.cell? ⟨b, 0, none⟩ = some mv ∧ w.cell? ⟨b, 99, none⟩ = some f ∧ w.cell? ⟨b, 100, none⟩ = some (.int .i64 (bk : Int)) ∧ w.frozen? ⟨b, 99, none⟩ = false := by
  obtain ⟨a0, a1, a2, _, _⟩ := lvC_at mv (rulC true ms.length hs ms) k1 (rulC true mq.length hq mq) k2 f (bk : Int) (rulC_len _ _ _ _) (rulC_len _ _ _ _)
  exact ⟨(h.blk.cell 0).trans a0, (h.blk.cell 99).trans a1, (h.blk.cell 100).trans a2, h.blk.froz 99⟩
theorem LvB.put {b : Nat} {mv : Value} {hs hq : List (List Int)} {ms mq : List Int} {k1 k2 : Nat → Int} {f : Value} {bk : Nat} {w0 w : World} (h : LvB b mv hs hq ms mq k1 k2 f bk w0 w) (u : Value) : LvB b mv hs hq ms mq k1 k2 u bk w0 (w.setCell ⟨b, 99, none⟩ u) := by
  obtain ⟨_, _, _, a3, _⟩ := lvC_at mv (rulC true ms.length hs ms) k1 (rulC true mq.length hq mq) k2 f (bk : Int) (rulC_len _ _ _ _) (rulC_len _ _ _ _)
  refine ⟨?_, h.kept.trans (Keep.kept (keep_set b [u] 99 w))⟩
  have := blk_set1 (j := 99) h.blk u
  rw [a3] at this
  exact this
theorem LvB.later {b : Nat} {mv : Value} {hs hq : List (List Int)} {ms mq : List Int} {k1 k2 : Nat → Int} {f : Value} {bk : Nat} {w0 w w2 : World} (h : LvB b mv hs hq ms mq k1 k2 f bk w0 w) (hb : Below (b + 1) w w2) (hz : w0.heap.size ≤ b + 1) : LvB b mv hs hq ms mq k1 k2 f bk w0 w2 :=
  ⟨h.blk.below hb (by omega), h.kept.later hb hz⟩
theorem own_put {w : World} {b j : Nat} {v : Value} {xs : List Int} (h : Own w (b + 1) v xs) (u : Value) : Own (w.setCell ⟨b, j, none⟩ u) (b + 1) v xs := Kept.own h (Keep.kept (keep_set b [u] j w)) (by omega)
theorem LvB.self {b : Nat} {mv : Value} {hs hq : List (List Int)} {ms mq : List Int} {k1 k2 : Nat → Int} {f : Value} {bk : Nat} {w0 w : World} (h : LvB b mv hs hq ms mq k1 k2 f bk w0 w) : LvB b mv hs hq ms mq k1 k2 f bk w w := ⟨h.blk, Kept.refl _ _⟩
theorem LvI.fin {b : Nat} {mv : Value} {hs hq : List (List Int)} {ms mq : List Int} {k1 k2 : Nat → Int} {f : Value} {bk : Nat} {fs : List Int} {w0 w w9 : World} (k : Kept b w0 w) (o : Own w (b + 1) f fs) (h : LvB b mv hs hq ms mq k1 k2 f bk w w9) : LvI b mv hs hq ms mq ⟨k1, k2, fs, bk⟩ w0 w9 :=
  ⟨f, ⟨h.blk, k.trans h.kept⟩, Kept.own o h.kept (by omega)⟩
theorem okL_parts {hs hq : List (List Int)} {ms mq : List Int} {md : Int} (h : okL hs hq ms mq md = true) : isP hs ms = true ∧ isP hq mq = true ∧ (md = 0 ∨ md = 1 ∨ md = 2) := by
  unfold okL at h
  rw [Bool.and_eq_true, Bool.and_eq_true, Bool.and_eq_true, decide_eq_true_eq, decide_eq_true_eq] at h
  exact ⟨h.1.1, h.1.2, by omega⟩
set_option maxRecDepth 100000 in
set_option maxHeartbeats 8000000 in
/-- A run that fails. -/
theorem runL_no {a a' b b' : Option Addr} {n c n' c' m d m' d' : Nat} {md : Int} {hs hq : List (List Int)} {ms mq xs : List Int} {w : World} {a2 : Option Addr} {c2 : Nat} (h : RdP w (.agg #[.slice a n c, .slice a' n' c']) hs ms) (k : RdP w (.agg #[.slice b m d, .slice b' m' d']) hq mq)
    (hx : Row w a2 xs) (hxl : xs.length ≤ 1048576) (hno : (okL hs hq ms mq md && okU xs) = false) :
    Calls Try.prog 30 #[lvV a a' b b' n c n' c' m d m' d' md, .slice a2 xs.length c2] w (RetB (.tuple #[.agg z101.toArray, .bool false]) w) := by
  obtain ⟨d101, hu101, hd101⟩ := und101
  have HL101 := Lib.hid (fun (w' : World) (b : Nat) (cs : List Value) (h : Blk w' b cs 62) (hc : cs.length = 101) => Blk.loadVar h 62 d101 hu101 hd101 (by rw [hc]; exact isz101))
  clear hu101 hd101
  obtain ⟨W0, hW0⟩ : ∃ W0, W0 = (w.alloc (.cells #[.slice a n c, .slice a' n' c', .slice b m d, .slice b' m' d', .int .i64 md] 32)).alloc (.cells Try.zeroCells62 62) := ⟨_, rfl⟩
  have b0 : Below w.heap.size w W0 := by rw [hW0]; exact ((Below.refl _ w).alloc (Nat.le_refl _) _).alloc (by simp) _
  have kR : Blk W0 (w.heap.size + 1) z101 62 := by rw [hW0]; exact Blk.newAt _ _ z101 _ (by simp)
  have HE := Lib.hid (elev_i (md := md) (w := W0) (RdP.belowL h b0) (RdP.belowL k b0))
  have HF := Lib.hid (elC_form hs hq ms mq md)
  have HV := Lib.hid (fun (w' : World) (hb : Below w.heap.size w w') => uses_i a2 c2 xs w' hxl (hx.below hb))
  unfold RetB lvV at HE
  unfold lvV
  clear h k hx
  have HNO := Lib.hid hno
  clear hno
  generalize elC hs hq ms mq md = EL at *
  generalize okL hs hq ms mq md = ok at *
  generalize okU xs = ru at *
  generalize xs.length = N at *
  go_enter Try.func30, Try.ntmps30
  go_wp2_with fail
  rw [← hW0]
  clear hW0
  refine HE.out.mono ?_; rintro e w1 ⟨rfl, b1⟩
  have kR1 := kR.below b1 kR.lt
  have B1 := Lib.hid (bt b0 b1)
  have hs1 : w.heap.size + 1 < w1.heap.size := kR1.lt
  clear b0 b1 kR HE
  go_wp2_with (with_reducible refine wpList_storeB rfl 62 (.tmp 6) (.tmp 13) rfl w1.heap.size 0 EL ?_ ?_ z101 62 ?_ ?_ ?_ ?_ ?_)
  all_goals (first | exact Blk.newAt w1 _ z101 _ rfl | (rw [HF.out.1]; exact (show 0 + 101 ≤ 101 by decide)) | (rw [HF.out.1]; exact isz101) | exact HF.out.2 | rfl | skip)
  intro w2 hB2 hK2
  have b12 : Below w1.heap.size w1 w2 := ((Below.refl _ w1).alloc (Nat.le_refl _) _).trans (hK2.out.below (Nat.le_refl _))
  have kR2 := Lib.hid (kR1.below b12 hs1)
  have B2 := Lib.hid (bt B1.out b12)
  clear hB2 hK2 b12 kR1 B1 HF
  generalize w1.heap.size = X at *
  cases ok
  · go_wp2_with (with_reducible refine wpList_storeB rfl 62 (.tmp 4) (.tmp 22) rfl (w.heap.size + 1) 0 z101 ?_ ?_ z101 62 kR2.out ?_ ?_ ?_ ?_)
    all_goals (first | exact (show 0 + z101.length ≤ z101.length by rw [Nat.zero_add]; exact Nat.le_refl _) | exact isz101 | exact one_z101 | rfl | skip)
    intro w6 hB6 hK6
    rw [splice_all _ _ rfl] at hB6
    have B6 := Lib.hid (B2.out.trans (hK6.out.below (by omega)))
    go_wp2
    refine bodyPost_ret (results2 (a := 4) (k := 5) (t := 62) (p := ⟨w.heap.size + 1, 0, none⟩) (by kernel_rfl) rfl (HL101.out _ _ _ hB6.out rfl) rfl) rfl ⟨rfl, B6.out⟩
  · cases ru
    · have HV2 := Lib.hid (HV.out w2 B2.out)
      clear HV
      go_wp2_with (first | (go_at_call 46; (with_reducible refine HV2.out.mono ?_); rintro e w3 ⟨rfl, rfl⟩) | (with_reducible refine wpList_storeB rfl 62 (.tmp 4) (.tmp 22) rfl (w.heap.size + 1) 0 z101 ?_ ?_ z101 62 kR2.out ?_ ?_ ?_ ?_))
      all_goals (first | exact (show 0 + z101.length ≤ z101.length by rw [Nat.zero_add]; exact Nat.le_refl _) | exact isz101 | exact one_z101 | rfl | skip)
      intro w6 hB6 hK6
      rw [splice_all _ _ rfl] at hB6
      have B6 := Lib.hid (B2.out.trans (hK6.out.below (by omega)))
      go_wp2
      refine bodyPost_ret (results2 (a := 4) (k := 5) (t := 62) (p := ⟨w.heap.size + 1, 0, none⟩) (by kernel_rfl) rfl (HL101.out _ _ _ hB6.out rfl) rfl) rfl ⟨rfl, B6.out⟩
    · exact absurd HNO.out (by decide)
set_option maxRecDepth 100000 in
set_option maxHeartbeats 8000000 in
theorem runL_i {a a' b b' : Option Addr} {n c n' c' m d m' d' : Nat} {md : Int} {hs hq : List (List Int)} {ms mq xs : List Int} {w : World} {a2 : Option Addr} {c2 : Nat} (h : RdP w (.agg #[.slice a n c, .slice a' n' c']) hs ms) (k : RdP w (.agg #[.slice b m d, .slice b' m' d']) hq mq)
    (hx : Row w a2 xs) (hxl : xs.length ≤ 1048576) :
    Calls Try.prog 30 #[lvV a a' b b' n c n' c' m d m' d' md, .slice a2 xs.length c2] w (RunL (okL hs hq ms mq md && okU xs) (mdV md) hs hq ms mq (lvRun hs hq ms mq md xs xs.length) w) := by
  cases hall : (okL hs hq ms mq md && okU xs)
  · exact (runL_no h k hx hxl hall).mono fun e w' he => .inl ⟨rfl, he.1, he.2⟩
  obtain ⟨hok, hu⟩ := Bool.and_eq_true_iff.1 hall
  obtain ⟨hp1, hp2, hmd⟩ := okL_parts hok
  have h60 := okU_len hu
  obtain ⟨d101, hu101, hd101⟩ := und101
  have HL101 := Lib.hid (fun (w' : World) (b : Nat) (cs : List Value) (h : Blk w' b cs 62) (hc : cs.length = 101) => Blk.loadVar h 62 d101 hu101 hd101 (by rw [hc]; exact isz101))
  have HU := Lib.hid (And.intro hu101 hd101)
  clear hu101 hd101
  obtain ⟨W0, hW0⟩ : ∃ W0, W0 = (w.alloc (.cells #[.slice a n c, .slice a' n' c', .slice b m d, .slice b' m' d', .int .i64 md] 32)).alloc (.cells Try.zeroCells62 62) := ⟨_, rfl⟩
  have b0 : Below w.heap.size w W0 := by rw [hW0]; exact ((Below.refl _ w).alloc (Nat.le_refl _) _).alloc (by simp) _
  have kR : Blk W0 (w.heap.size + 1) z101 62 := by rw [hW0]; exact Blk.newAt _ _ z101 _ (by simp)
  have HE := Lib.hid (elev_i (md := md) (w := W0) (RdP.belowL h b0) (RdP.belowL k b0))
  rw [hok] at HE
  have HV := Lib.hid (fun (w' : World) (hb : Below w.heap.size w w') => (show Calls Try.prog 46 #[.slice a2 xs.length c2] w' (Bl true w') by rw [← hu]; exact uses_i a2 c2 xs w' hxl (hx.below hb)))
  have HX := Lib.hid (fun (w' : World) (hb : Below w.heap.size w w') => hx.below hb)
  have HEL := Lib.hid (show elC hs hq ms mq md = lvC (mdV md) (rulC true ms.length hs ms) (fun _ => -1) (rulC true mq.length hq mq) (fun _ => -1) (.slice none 0 0) ((0 : Nat) : Int) by unfold elC; rw [if_pos hok]; rfl)
  have HF := Lib.hid (elC_form hs hq ms mq md)
  have HST := Lib.hid (fun j => (show lvRun hs hq ms mq md xs (j + 1) = lvStep hs hq ms mq md (lvRun hs hq ms mq md xs j) (xs.getD j 0) from rfl))
  have HLN := Lib.hid (lvRun_len hs hq ms mq md xs)
  have HBK := Lib.hid (lvRun_bk hs hq ms mq md xs)
  have H0 := Lib.hid (show lvRun hs hq ms mq md xs 0 = ⟨fun _ => -1, fun _ => -1, [], 0⟩ from rfl)
  unfold RetB lvV at HE
  unfold lvV
  clear h k hx hall hu hok
  unfold Row at HX
  generalize elC hs hq ms mq md = EL at *
  generalize lvRun hs hq ms mq md xs = LR at *
  generalize hNN : xs.length = N at *
  clear hNN
  go_enter Try.func30, Try.ntmps30
  go_wp2_with fail
  rw [← hW0]
  clear hW0
  refine HE.out.mono ?_; rintro e w1 ⟨rfl, b1⟩
  have kR1 := kR.below b1 kR.lt
  have B1 := Lib.hid (bt b0 b1)
  have hs1 : w.heap.size + 1 < w1.heap.size := kR1.lt
  clear b0 b1 kR HE
  go_wp2_with (with_reducible refine wpList_storeB rfl 62 (.tmp 6) (.tmp 13) rfl w1.heap.size 0 EL ?_ ?_ z101 62 ?_ ?_ ?_ ?_ ?_)
  all_goals (first | exact Blk.newAt w1 _ z101 _ rfl | (rw [HF.out.1]; exact (show 0 + 101 ≤ 101 by decide)) | (rw [HF.out.1]; exact isz101) | exact HF.out.2 | rfl | skip)
  intro w2 hB2 hK2
  rw [splice_all _ _ (by rw [HF.out.1]; rfl), HEL.out] at hB2
  have b12 : Below w1.heap.size w1 w2 := ((Below.refl _ w1).alloc (Nat.le_refl _) _).trans (hK2.out.below (Nat.le_refl _))
  have hz2 : w2.heap.size = w1.heap.size + 1 := by rw [hK2.out.size]; exact Array.size_push _
  have kR2 := Lib.hid (kR1.below b12 hs1)
  have B2 := Lib.hid (bt B1.out b12)
  have hLI : LvI w1.heap.size (mdV md) hs hq ms mq (LR 0) w2 w2 := by
    rw [H0.out]
    exact ⟨.slice none 0 0, ⟨hB2.out, Kept.refl _ _⟩, Own.nil _ _⟩
  clear hB2 hK2 b12 kR1 B1 HF HEL
  generalize w1.heap.size = X at *
  have HZ2 := Lib.hid hz2
  have hLI2 := Lib.hid hLI
  have HV2 := Lib.hid (HV.out w2 B2.out)
  clear hz2 hLI HV H0
  go_wp2_with (go_at_call 46; (with_reducible refine HV2.out.mono ?_); rintro e w3 ⟨rfl, rfl⟩)
  go_loopw [9, 25] (fun _ i wr => ∃ j : Nat, j ≤ N ∧ i = .int .i64 j ∧ Hid (LvI X (mdV md) hs hq ms mq (LR j) w2 wr)) (fun _ i _ => N - (intOf i).toNat)
  case atStart => exact ⟨0, Nat.zero_le _, rfl, hLI2⟩
  case round =>
    obtain ⟨j, hj, rfl, hI⟩ := hrel
    by_cases hlt : j < N
    · obtain ⟨f, hB, hO⟩ := hI.out
      have hBr : Below w.heap.size w wr := B2.out.trans (hB.kept.below (by omega) (by have := HZ2.out; omega))
      obtain ⟨xb, xo, rfl, cx, _⟩ := HX.out wr hBr j hlt
      have hst := Lib.hid (HST.out j)
      have hfl := HLN.out j
      have hbk := HBK.out j
      have hlt1 : X < wr.heap.size := hB.blk.lt
      obtain ⟨fa, fc, hf⟩ := Own.form hO
      rw [hfl] at hf
      subst hf
      generalize xs.getD j 0 = x at *
      have hfs := Lib.hid (lvStep_fs hs hq ms mq md (LR j) x)
      have hz9 : w2.heap.size ≤ X + 1 := by have := HZ2.out; omega
      generalize LR j = S at *
      have HFI := Lib.hid ((find_i hp1 hp2 hB.drew x).mono (R' := fun e w5 => e = .returned (.int .i64 (findV ms.length mq.length S.k1 S.k2 x)) ∧ (w5.cell? ⟨X, 99, none⟩ = some (.slice fa j fc) ∧ (w5.alloc (.cells #[.int .i64 (findV ms.length mq.length S.k1 S.k2 x)] 2)).cell? ⟨X, 99, none⟩ = some (.slice fa j fc) ∧ X + 1 ≤ w5.heap.size) ∧ Hid (LvB X (mdV md) hs hq ms mq S.k1 S.k2 (.slice fa j fc) S.bk w2 w5) ∧ Own w5 (X + 1) (.slice fa j fc) S.fs) fun e w5 ⟨he, q, hw⟩ => by
        subst hw
        exact ⟨he, ⟨(hB.drew.drewN q).at.2.1, ((hB.drew.drewN q).alloc _).at.2.1, hlt1⟩, Lib.hid (hB.drew.drewN q), (hO.below (Below.refl _ wr).drew (Nat.le_refl _)).below (below_drewN q (Below.refl _ wr.drew)) (Nat.le_refl _)⟩)
      have c99 : wr.cell? ⟨X, 99, none⟩ = some (.slice fa j fc) := hB.at.2.1
      have H8 := Lib.hid (fun (f : Value) (w' : World) (h' : LvB X (mdV md) hs hq ms mq S.k1 S.k2 f S.bk w2 w') => has1_i hp1 h' x)
      have H9 := Lib.hid (fun (f : Value) (w' : World) (h' : LvB X (mdV md) hs hq ms mq S.k1 S.k2 f S.bk w2 w') => use1_i hp1 h'.self x)
      have HFR := Lib.hid (fun (f : Value) (w' : World) (h' : LvB X (mdV md) hs hq ms mq S.k1 S.k2 f S.bk w2 w') => free_i hp1 hp2 h'.self x)
      have HIC := Lib.hid (fun (f : Value) (w' : World) (h' : LvB X (mdV md) hs hq ms mq S.k1 S.k2 f S.bk w2 w') => incl_i hp1 hp2 (by omega) h'.self x)
      have HEX := Lib.hid (fun (f : Value) (w' : World) (h' : LvB X (mdV md) hs hq ms mq S.k1 S.k2 f S.bk w2 w') => excl_i hp1 hp2 h'.self x)
      have hs1 := Lib.hid (fun (h : hitB ms.length S.k1 x = true) => (show lvStep hs hq ms mq md S x = ⟨stN hs ms S.k1 x, S.k2, S.fs ++ [findV ms.length mq.length S.k1 S.k2 x], S.bk⟩ from if_pos h))
      have hs2 := Lib.hid (fun (h : hitB ms.length S.k1 x = false) => (show lvStep hs hq ms mq md S x = ⟨fetK1 hs hq ms mq md S.k1 S.k2 x, fetK2 hs hq ms mq md S.k1 S.k2 x, S.fs ++ [findV ms.length mq.length S.k1 S.k2 x], S.bk + fetB hs hq ms mq md S.k1 S.k2 x⟩ from if_neg (by rw [h]; exact Bool.false_ne_true)))
      have hq9 : S.fs.length + 1 ≤ 1000000000 := by omega
      generalize findV ms.length mq.length S.k1 S.k2 x = fnd at *
      have HE := Lib.hid (fun (w5 w6 : World) (g cap : Nat) (hB5 : LvB X (mdV md) hs hq ms mq S.k1 S.k2 (.slice fa j fc) S.bk w2 w5) (hb : Below (X + 1) w5 w6) (ho : Own w6 (X + 1) (.slice (some ⟨g, 0, none⟩) (j + 1) cap) (S.fs ++ [fnd])) =>
        (show (w6.cell? ⟨X, 99, none⟩ = some (.slice fa j fc) ∧ w6.frozen? ⟨X, 99, none⟩ = false) ∧ Hid (LvB X (mdV md) hs hq ms mq S.k1 S.k2 (.slice (some ⟨g, 0, none⟩) (j + 1) cap) S.bk w2 (w6.setCell ⟨X, 99, none⟩ (.slice (some ⟨g, 0, none⟩) (j + 1) cap))) ∧ Hid (Own (w6.setCell ⟨X, 99, none⟩ (.slice (some ⟨g, 0, none⟩) (j + 1) cap)) (X + 1) (.slice (some ⟨g, 0, none⟩) (j + 1) cap) (S.fs ++ [fnd])) from
          have h6 := hB5.later hb hz9
          ⟨⟨h6.at.2.1, h6.at.2.2.2⟩, Lib.hid (h6.put _), Lib.hid (own_put ho _)⟩))
      clear hB hO hfs hI hLI2 HLN HBK HST HX
      have hnx : (j : Int) < N := by omega
      go_wp2
      go_region_law (first | (refine step_appI w5 rfl (.tmp 30) (.tmp 33) rfl (X + 1) (.slice fa j fc) S.fs fnd (by first | rfl | simp [Act.eval, Act.put]) (by first | rfl | simp [Act.eval, Act.put]) ho5 hq9 hz5 ?_; intro g cap w6 ho6 hb6 hfr6 hg6; rw [hfl] at ho6 ⊢; obtain ⟨⟨hc6, hf6⟩, hE6, hO6⟩ := HE.out w5 w6 g cap hB5.out hb6 ho6) | (go_simp; go_at_call 47; (with_reducible refine HFI.out.mono ?_); rintro e w5 ⟨rfl, ⟨hc5, hc5a, hz5⟩, hB5, ho5⟩))
      all_goals
        generalize w6.setCell ⟨X, 99, none⟩ (.slice (some ⟨g, 0, none⟩) (j + 1) cap) = w7 at *
        generalize (Value.slice (some ⟨g, 0, none⟩) (j + 1) cap) = f7 at *
        clear hc6 hf6 ho6 hb6 hfr6 hg6 hB5 ho5 hz5 hc5 hc5a HE HFI c99
        go_wp2_with fail
        refine (H8.out _ _ hE6.out).mono ?_; rintro e w8 ⟨rfl, q, rfl⟩
        have hE8 := Lib.hid (hE6.out.drewN q)
        have hO8 := Lib.hid (show Own (w7.drewN q) (X + 1) f7 (S.fs ++ [fnd]) from hO6.out.below (below_drewN q (Below.refl _ w7)) (Nat.le_refl _))
        clear hE6 hO6
        generalize w7.drewN q = w8 at *
        cases r1 : hitB ms.length S.k1 x
        · have hst2 := hst.out.trans (hs2.out r1)
          have c0 := hE8.out.at.1
          rcases hmd with rfl | rfl | rfl
          · have G := Lib.hid (HFR.out _ _ hE8.out)
            unfold FetR at G
            have e0 : mdV 0 = .iface 95 (.agg #[]) := rfl
            rw [e0] at c0
            have HK8 := Lib.hid hE8.out.kept
            go_wp2_with fail
            refine G.out.mono ?_; rintro e w9 ⟨rfl, h9⟩
            have hI9 := Lib.hid (LvI.fin HK8.out hO8.out h9)
            rw [← hst2] at hI9
            clear h9 G
            go_wp2
            go_roundw
            case rel => exact ⟨j + 1, by omega, by go_num, hI9⟩
            case measure => simp [intOf]; omega
          · have G := Lib.hid (HIC.out _ _ hE8.out)
            unfold FetR at G
            have e0 : mdV 1 = .iface 96 (.agg #[]) := rfl
            rw [e0] at c0
            have HK8 := Lib.hid hE8.out.kept
            go_wp2_with fail
            refine G.out.mono ?_; rintro e w9 ⟨rfl, h9⟩
            have hI9 := Lib.hid (LvI.fin HK8.out hO8.out h9)
            rw [← hst2] at hI9
            clear h9 G
            go_wp2
            go_roundw
            case rel => exact ⟨j + 1, by omega, by go_num, hI9⟩
            case measure => simp [intOf]; omega
          · have G := Lib.hid (HEX.out _ _ hE8.out)
            unfold FetR at G
            have e0 : mdV 2 = .iface 97 (.agg #[]) := rfl
            rw [e0] at c0
            have HK8 := Lib.hid hE8.out.kept
            go_wp2_with fail
            refine G.out.mono ?_; rintro e w9 ⟨rfl, h9⟩
            have hI9 := Lib.hid (LvI.fin HK8.out hO8.out h9)
            rw [← hst2] at hI9
            clear h9 G
            go_wp2
            go_roundw
            case rel => exact ⟨j + 1, by omega, by go_num, hI9⟩
            case measure => simp [intOf]; omega
        · have hst1 := hst.out.trans (hs1.out r1)
          go_wp2_with fail
          refine (H9.out _ _ hE8.out).mono ?_; rintro e w9 ⟨rfl, h9⟩
          have hI9 := Lib.hid (LvI.fin hE8.out.kept hO8.out h9)
          rw [← hst1] at hI9
          clear h9
          go_wp2
          go_roundw
          case rel => exact ⟨j + 1, by omega, by go_num, hI9⟩
          case measure => simp [intOf]; omega
    · have e : j = N := by omega
      subst e
      obtain ⟨f, hB, hO⟩ := hI.out
      have hBr : Below X w2 wr := hB.kept.below (Nat.le_refl _) (by have := HZ2.out; omega)
      have kR9 := kR2.out.below hBr (by omega)
      have hb9 := hB.blk
      obtain ⟨fa, fc, hf⟩ := Own.form hO
      have hone : f.oneCell' = true := by rw [hf]; rfl
      have hlv := lvC_len (mdV md) (rulC true ms.length hs ms) (LR j).k1 (rulC true mq.length hq mq) (LR j).k2 f (((LR j).bk : Nat) : Int) (rulC_len _ _ _ _) (rulC_len _ _ _ _)
      have hlo := one_lvC (mdV md) (rulC true ms.length hs ms) (LR j).k1 (rulC true mq.length hq mq) (LR j).k2 f (((LR j).bk : Nat) : Int) (mdV_form md).2 (one_rulC _ _ _ _) (one_rulC _ _ _ _) hone
      have B9 := Lib.hid (B2.out.trans (hBr.mono (by omega)))
      have hO9 := Lib.hid (show Own wr (w.heap.size + 2) f (LR j).fs from hO.mono (by omega))
      unfold RunL
      generalize hLV : lvC (mdV md) (rulC true ms.length hs ms) (LR j).k1 (rulC true mq.length hq mq) (LR j).k2 f (((LR j).bk : Nat) : Int) = LV at *
      have HLV := Lib.hid hLV
      clear hLV hf hB hO hI hBr
      go_wp2_with (first | (with_reducible refine wpList_loadB rfl 62 (.tmp 6) rfl X ?_ LV 62 hb9 d101 HU.out.1 HU.out.2 ?_ ?_) | (with_reducible refine wpList_storeB rfl 62 (.tmp 4) (.tmp 47) rfl (w.heap.size + 1) 0 LV ?_ ?_ z101 62 kR9 ?_ ?_ ?_ ?_))
      all_goals (first | (rw [hlv]; exact isz101) | (rw [hlv]; exact (show 0 + 101 ≤ 101 by decide)) | exact hlo | rfl | skip)
      intro w10 hB10 hK10
      rw [splice_all _ _ (by rw [hlv]; rfl)] at hB10
      have B10 := Lib.hid (B9.out.trans (hK10.out.below (by omega)))
      have hO10 := Lib.hid (Kept.own hO9.out (Keep.kept hK10.out) (by omega))
      go_wp2
      refine bodyPost_ret (results2 (a := 4) (k := 5) (t := 62) (p := ⟨w.heap.size + 1, 0, none⟩) (by kernel_rfl) rfl (HL101.out _ _ _ hB10.out hlv) rfl) rfl (.inr ⟨rfl, f, by rw [HLV.out]; rfl, hO10.out.mono (by omega), B10.out⟩)
end Go.Proofs.Ytimfekedpgllhaa.Pv
namespace Go.Proofs.Ytimfekedpgllhaa.Pv
open Go.RowKit
/-- Whether contents lose an address, and what they are then. -/
def tkB (M : Nat) (k : Nat → Int) (x : Int) : Bool := !decide (x < 0) && hitB M k x
def tkK (M : Nat) (k : Nat → Int) (x : Int) : Nat → Int := if tkB M k x then putA k ((rowL M k).idxOf x) (-1) else k
theorem tkB_out {M : Nat} {k : Nat → Int} {x : Int} (h : 0 ≤ x) : tkB M k x = hitB M k x ∧ tkK M k x = outK M k x := by
  have e : tkB M k x = hitB M k x := by unfold tkB; rw [decide_eq_false (by omega)]; rfl
  exact ⟨e, by unfold tkK outK; rw [e]⟩
theorem tkB_neg {M : Nat} {k : Nat → Int} {x : Int} (h : x < 0) : tkB M k x = false ∧ tkK M k x = k := by
  have e : tkB M k x = false := by unfold tkB; rw [decide_eq_true h]; rfl
  exact ⟨e, by unfold tkK; rw [e]; rfl⟩
theorem has_hit (M : Nat) (k : Nat → Int) (x : Int) : (rowL M k).contains x = hitB M k x := by
  rw [List.contains_eq_mem]
  unfold hitB
  refine decide_eq_decide.2 ?_
  rw [← List.idxOf_lt_length_iff, rowL_len]
set_option maxRecDepth 100000 in
set_option maxHeartbeats 4000000 in
theorem take_s (M : Nat) (hM1 : 1 ≤ M) (hM6 : M ≤ 6) (k : Nat → Int) (x : Int) (v : Value) (w : World) (hv : Rd w v (rowL M k)) :
    Calls Try.prog 45 #[v, .int .i64 x] w (Sh (rowL M (tkK M k x)) (tkB M k x) w) := by
  obtain ⟨va, vc, rfl, hvc, hvm, hvr⟩ := hv
  rw [rowL_len] at hvc ⊢
  obtain ⟨vb, voff, rfl, _, _⟩ := hvr 0 (by rw [rowL_len]; omega)
  have HOW := Lib.hid (by have := own_any vb voff vc (rowL M k) w (by rw [rowL_len]; omega) hvr; rwa [rowL_len] at this)
  have HAG := Lib.hid (fun (w1 : World) (B : Nat) (v1 : Value) (o1 : Own w1 B v1 (rowL M k)) => show ∃ a1 c1, v1 = .slice a1 M c1 ∧ Calls Try.prog 56 #[.slice a1 M c1, .int .i64 x] w1 (fun e w' => e = .returned (.int .i64 (ageI (rowL M k) x)) ∧ w1 = w') from by
    obtain ⟨a1, c1, e1, _, _, hr1⟩ := o1.rd
    rw [rowL_len] at e1
    have := age_s a1 c1 (rowL M k) x w1 (by rw [rowL_len]; omega) hr1
    rw [rowL_len] at this
    exact ⟨a1, c1, e1, this⟩)
  have hAI : ageI (rowL M k) x = if (rowL M k).idxOf x < M then (((rowL M k).idxOf x : Nat) : Int) else -1 := by unfold ageI; rw [rowL_len]
  have hHB : hitB M k x = decide ((rowL M k).idxOf x < M) := rfl
  rw [hAI] at HAG
  clear hAI hvr
  have hK := Lib.hid (show tkB M k x = true → tkK M k x = putA k ((rowL M k).idxOf x) (-1) from fun h => if_pos h)
  have hK0 := Lib.hid (show tkB M k x = false → tkK M k x = k from fun h => if_neg (by rw [h]; decide))
  have hB : tkB M k x = (!decide (x < 0) && decide ((rowL M k).idxOf x < M)) := rfl
  generalize tkB M k x = r at *
  generalize tkK M k x = K at *
  generalize (rowL M k).idxOf x = J at *
  clear hHB
  by_cases hx : x < 0
  · have hr : r = false := by rw [hB, decide_eq_true hx]; rfl
    subst hr
    have e := hK0.out rfl
    subst e
    clear hB hK hK0
    generalize (if J < M then (J : Int) else -1) = ag at *
    go_enter Try.func45, Try.ntmps45
    go_wp2_with fail
    refine HOW.out.mono ?_; rintro e w1 ⟨v1, rfl, o1, b1⟩
    obtain ⟨a1, c1, rfl, hA1⟩ := HAG.out w1 _ v1 o1
    go_wp2_with fail
    refine hA1.mono ?_; rintro e w2 ⟨rfl, rfl⟩
    go_wp2
    go_ret2
    exact ⟨_, rfl, o1, b1⟩
  · have dx : decide (x < 0) = false := decide_eq_false hx
    by_cases hit : J < M
    · rw [if_pos hit] at HAG
      have hr : r = true := by rw [hB, dx, decide_eq_true hit]; rfl
      subst hr
      have e := hK.out rfl
      subst e
      clear hB hK hK0
      have hJM : (J : Int) < M := by omega
      go_enter Try.func45, Try.ntmps45
      go_wp2_with fail
      refine HOW.out.mono ?_; rintro e w1 ⟨v1, rfl, o1, b1⟩
      obtain ⟨a1, c1, rfl, hA1⟩ := HAG.out w1 _ v1 o1
      obtain ⟨og, e1, hBg, hgw, hcell, hfz, hset⟩ := Own.cellAt o1 (rowL_len M k) J hit
      subst e1
      obtain ⟨hO2, hG2⟩ := hset (-1)
      rw [rowL_set M k J (-1) hit] at hO2
      have hbw : Below w.heap.size w (w1.setCell ⟨og, J, none⟩ (.int .i64 (-1))) := b1.setCell (p := ⟨og, J, none⟩) hBg _
      have BW := Lib.hid hbw
      have HO2 := Lib.hid hO2
      clear b1 HAG HOW o1 hset hbw hO2 hG2
      go_wp2_with fail
      refine hA1.mono ?_; rintro e w2 ⟨rfl, rfl⟩
      go_wp2
      go_ret2
      exact ⟨_, rfl, HO2.out, BW.out⟩
    · rw [if_neg hit] at HAG
      have hr : r = false := by rw [hB, decide_eq_false hit, Bool.and_false]
      subst hr
      have e := hK0.out rfl
      subst e
      clear hB hK hK0
      go_enter Try.func45, Try.ntmps45
      go_wp2_with fail
      refine HOW.out.mono ?_; rintro e w1 ⟨v1, rfl, o1, b1⟩
      obtain ⟨a1, c1, rfl, hA1⟩ := HAG.out w1 _ v1 o1
      go_wp2_with fail
      refine hA1.mono ?_; rintro e w2 ⟨rfl, rfl⟩
      go_wp2
      go_ret2
      exact ⟨_, rfl, o1, b1⟩
/-- What the model has in a round. -/
structure St (w wr : World) (M1 M2 : Nat) (k1 k2 : Nat → Int) (fs : List Int) (v1 v2 v3 : Value) : Prop where
  o1 : Own wr w.heap.size v1 (rowL M1 k1)
  o2 : Own wr w.heap.size v2 (rowL M2 k2)
  o3 : Own wr w.heap.size v3 fs
  a1 : Apart v3 v1
  a2 : Apart v3 v2
  a12 : Apart v1 v2
  bl : Below w.heap.size w wr
theorem St.app {w wr : World} {M1 M2 : Nat} {k1 k2 : Nat → Int} {fs : List Int} {v1 v2 v3 : Value} (h : St w wr M1 M2 k1 k2 fs v1 v2 v3) {v' : Value} {w3 : World} {fs' : List Int} (ho : Own w3 w.heap.size v' fs') (hb : Below w.heap.size wr w3)
    (hk : ∀ y C ys, Own wr C y ys → Apart v3 y → Own w3 C y ys ∧ Apart v' y) : St w w3 M1 M2 k1 k2 fs' v1 v2 v' :=
  ⟨(hk v1 _ _ h.o1 h.a1).1, (hk v2 _ _ h.o2 h.a2).1, ho, (hk v1 _ _ h.o1 h.a1).2, (hk v2 _ _ h.o2 h.a2).2, h.a12, h.bl.trans hb⟩
theorem St.one {w wr : World} {M1 M2 : Nat} {k1 k2 : Nat → Int} {fs : List Int} {v1 v2 v3 : Value} (h : St w wr M1 M2 k1 k2 fs v1 v2 v3) {v' : Value} {w4 : World} {k' : Nat → Int} (ho : Own w4 wr.heap.size v' (rowL M1 k')) (hb : Below wr.heap.size wr w4) : St w w4 M1 M2 k' k2 fs v' v2 v3 :=
  ⟨ho.mono h.bl.size, h.o2.below hb (Nat.le_refl _), h.o3.below hb (Nat.le_refl _), Apart.new h.o3 (fun k hk => (ho.block k hk).1) (Nat.le_refl _), h.a2, (Apart.new h.o2 (fun k hk => (ho.block k hk).1) (Nat.le_refl _)).symm, h.bl.trans (hb.mono h.bl.size)⟩
theorem St.two {w wr : World} {M1 M2 : Nat} {k1 k2 : Nat → Int} {fs : List Int} {v1 v2 v3 : Value} (h : St w wr M1 M2 k1 k2 fs v1 v2 v3) {v' : Value} {w4 : World} {k' : Nat → Int} (ho : Own w4 wr.heap.size v' (rowL M2 k')) (hb : Below wr.heap.size wr w4) : St w w4 M1 M2 k1 k' fs v1 v' v3 :=
  ⟨h.o1.below hb (Nat.le_refl _), ho.mono h.bl.size, h.o3.below hb (Nat.le_refl _), h.a1, Apart.new h.o3 (fun k hk => (ho.block k hk).1) (Nat.le_refl _), Apart.new h.o1 (fun k hk => (ho.block k hk).1) (Nat.le_refl _), h.bl.trans (hb.mono h.bl.size)⟩
/-- The last place of owned contents. -/
theorem own_last {w : World} {B M : Nat} {k : Nat → Int} {v : Value} (h : Own w B v (rowL M k)) (hM : 1 ≤ M) : ∃ og c, v = .slice (some ⟨og, 0, none⟩) M c ∧ w.cell? ⟨og, M - 1, none⟩ = some (.int .i64 (k (M - 1))) := by
  obtain ⟨a, c, e⟩ := Own.form h
  rw [rowL_len] at e
  subst e
  obtain ⟨og, rfl, _, _, hc, _⟩ := Own.cellAt h (rowL_len M k) (M - 1) (by omega)
  rw [rowL_get M k (M - 1) (by omega)] at hc
  exact ⟨og, c, rfl, hc⟩
theorem has_own2 {w : World} {B M : Nat} {k : Nat → Int} {v : Value} (h : Own w B v (rowL M k)) (hM : M ≤ 6) (x : Int) : Calls Try.prog 43 #[v, .int .i64 x] w (Bl (hitB M k x) w) := by
  obtain ⟨a, c, rfl, _, _, hr⟩ := h.rd
  rw [← has_hit]
  exact Tr.has_s a c _ x w (by rw [rowL_len]; omega) hr
/-- The steps of two levels, as the model takes them. -/
theorem lvStep_hit {hs hq : List (List Int)} {ms mq : List Int} {md : Int} {s : LvS} {x : Int} (h : hitB ms.length s.k1 x = true) : lvStep hs hq ms mq md s x = ⟨stN hs ms s.k1 x, s.k2, s.fs ++ [1], s.bk⟩ := by
  unfold lvStep findV
  rw [if_pos h, if_pos h]
theorem lvStep_ex {hs hq : List (List Int)} {ms mq : List Int} {s : LvS} {x : Int} (h : hitB ms.length s.k1 x = false) (hx : 0 ≤ x) (g : -1 ≤ s.k1 (ms.length - 1)) :
    lvStep hs hq ms mq 2 s x = ⟨stN hs ms s.k1 x, if s.k1 (ms.length - 1) < 0 then tkK mq.length s.k2 x else stN hq mq (tkK mq.length s.k2 x) (s.k1 (ms.length - 1)), s.fs ++ [if hitB mq.length s.k2 x then 2 else 3], s.bk⟩ := by
  have hn : ¬ hitB ms.length s.k1 x = true := by rw [h]; decide
  have e1 : fetK1 hs hq ms mq 2 s.k1 s.k2 x = stN hs ms s.k1 x := if_neg (by decide)
  have e3 : fetB hs hq ms mq 2 s.k1 s.k2 x = 0 := if_neg (by decide)
  have e2 : fetK2 hs hq ms mq 2 s.k1 s.k2 x = if gonB ms.length s.k1 x then stN hq mq (outK mq.length s.k2 x) (gonV ms.length s.k1 x) else outK mq.length s.k2 x := if_pos rfl
  have eg : gonB ms.length s.k1 x = !decide (s.k1 (ms.length - 1) = -1) := by unfold gonB; rw [h]; rfl
  unfold lvStep findV
  rw [if_neg hn, if_neg hn, e1, e2, e3, (tkB_out hx).2]
  congr 1
  by_cases hg : s.k1 (ms.length - 1) < 0
  · have : s.k1 (ms.length - 1) = -1 := by omega
    rw [if_pos hg, if_neg (by rw [eg, decide_eq_true this]; decide)]
  · have hne : ¬ s.k1 (ms.length - 1) = -1 := by omega
    have hgt : gonB ms.length s.k1 x = true := by rw [eg, decide_eq_false hne]; rfl
    rw [if_neg hg, if_pos hgt]
    unfold gonV
    rw [if_pos hgt]
theorem lvStep_fr {hs hq : List (List Int)} {ms mq : List Int} {md : Int} {s : LvS} {x : Int} (h : hitB ms.length s.k1 x = false) (h1 : md ≠ 1) (h2 : md ≠ 2) :
    lvStep hs hq ms mq md s x = ⟨stN hs ms s.k1 x, stN hq mq s.k2 x, s.fs ++ [if hitB mq.length s.k2 x then 2 else 3], s.bk⟩ := by
  have hn : ¬ hitB ms.length s.k1 x = true := by rw [h]; decide
  have e1 : fetK1 hs hq ms mq md s.k1 s.k2 x = stN hs ms s.k1 x := if_neg h1
  have e2 : fetK2 hs hq ms mq md s.k1 s.k2 x = stN hq mq s.k2 x := if_neg h2
  have e3 : fetB hs hq ms mq md s.k1 s.k2 x = 0 := if_neg h1
  unfold lvStep findV
  rw [if_neg hn, if_neg hn, e1, e2, e3]
  rfl
theorem lvStep_in {hs hq : List (List Int)} {ms mq : List Int} {s : LvS} {x : Int} (h : hitB ms.length s.k1 x = false) (g : -1 ≤ s.k2 (mq.length - 1)) :
    lvStep hs hq ms mq 1 s x = if hitB mq.length s.k2 x then ⟨stN hs ms s.k1 x, stN hq mq s.k2 x, s.fs ++ [2], s.bk⟩
      else ⟨stN hs ms (tkK ms.length s.k1 (s.k2 (mq.length - 1))) x, stN hq mq s.k2 x, s.fs ++ [3], s.bk + if tkB ms.length s.k1 (s.k2 (mq.length - 1)) then 1 else 0⟩ := by
  have hn : ¬ hitB ms.length s.k1 x = true := by rw [h]; decide
  have e1 : fetK1 hs hq ms mq 1 s.k1 s.k2 x = stN hs ms (if gonB mq.length s.k2 x then outK ms.length s.k1 (gonV mq.length s.k2 x) else s.k1) x := if_pos rfl
  have e2 : fetK2 hs hq ms mq 1 s.k1 s.k2 x = stN hq mq s.k2 x := if_neg (by decide)
  have e3 : fetB hs hq ms mq 1 s.k1 s.k2 x = if gonB mq.length s.k2 x && hitB ms.length s.k1 (gonV mq.length s.k2 x) then 1 else 0 := if_pos rfl
  have eg : gonB mq.length s.k2 x = !(hitB mq.length s.k2 x || decide (s.k2 (mq.length - 1) = -1)) := rfl
  unfold lvStep findV
  rw [if_neg hn, if_neg hn, e1, e2, e3]
  cases hh : hitB mq.length s.k2 x
  · rw [hh] at eg
    by_cases hg : s.k2 (mq.length - 1) < 0
    · have h1 : s.k2 (mq.length - 1) = -1 := by omega
      have hgf : gonB mq.length s.k2 x = false := by rw [eg, decide_eq_true h1]; rfl
      rw [hgf, (tkB_neg hg).1, (tkB_neg hg).2]
      rfl
    · have hne : ¬ s.k2 (mq.length - 1) = -1 := by omega
      have hgt : gonB mq.length s.k2 x = true := by rw [eg, decide_eq_false hne]; rfl
      have hv : gonV mq.length s.k2 x = s.k2 (mq.length - 1) := by unfold gonV; rw [if_pos hgt]
      have h0 : 0 ≤ s.k2 (mq.length - 1) := by omega
      rw [hv, hgt, (tkB_out h0).1, (tkB_out h0).2]; rfl
  · rw [hh] at eg
    have hgf : gonB mq.length s.k2 x = false := by rw [eg]; rfl
    rw [hgf]
    rfl
/-- All contents are at least -1. -/
theorem stN_ge {hs : List (List Int)} {ms : List Int} {k : Nat → Int} {x : Int} (h : ∀ i, -1 ≤ k i) (hx : -1 ≤ x) (i : Nat) : -1 ≤ stN hs ms k x i := by
  unfold stN
  split
  · exact h _
  · unfold putA; split
    · exact hx
    · exact h _
theorem outK_ge {M : Nat} {k : Nat → Int} {x : Int} (h : ∀ i, -1 ≤ k i) (i : Nat) : -1 ≤ outK M k x i := by
  unfold outK
  split
  · unfold putA; split
    · exact Int.le_refl _
    · exact h _
  · exact h _
theorem gonV_ge {M : Nat} {k : Nat → Int} {x : Int} (h : ∀ i, -1 ≤ k i) : -1 ≤ gonV M k x := by
  unfold gonV
  split
  · exact h _
  · decide
theorem lvRun_ge {hs hq : List (List Int)} {ms mq : List Int} {md : Int} {xs : List Int} (hx : ∀ j, 0 ≤ xs.getD j 0) (j : Nat) : (∀ i, -1 ≤ (lvRun hs hq ms mq md xs j).k1 i) ∧ (∀ i, -1 ≤ (lvRun hs hq ms mq md xs j).k2 i) := by
  induction j with
  | zero => exact ⟨fun _ => Int.le_refl _, fun _ => Int.le_refl _⟩
  | succ j ih =>
    have h0 : -1 ≤ xs.getD j 0 := by have := hx j; omega
    rw [lvRun]
    unfold lvStep
    split
    · exact ⟨stN_ge ih.1 h0, ih.2⟩
    · refine ⟨fun i => ?_, fun i => ?_⟩
      · show -1 ≤ fetK1 hs hq ms mq md _ _ _ i
        unfold fetK1
        split
        · refine stN_ge (fun i => ?_) h0 i
          split
          · exact outK_ge ih.1 i
          · exact ih.1 i
        · exact stN_ge ih.1 h0 i
      · show -1 ≤ fetK2 hs hq ms mq md _ _ _ i
        unfold fetK2
        split
        · split
          · exact stN_ge (outK_ge ih.2) (gonV_ge ih.1) i
          · exact outK_ge ih.2 i
        · exact stN_ge ih.2 h0 i

theorem results_tmp4 {fn : Func} {t u v x : Tmp} (h : fn.results = #[.tmp t, .tmp u, .tmp v, .tmp x]) (tmps : Array Value) (P : Program) (w : World) :
    (results fn tmps).run P w = .ok (.tuple #[tmps.getD t undef, tmps.getD u undef, tmps.getD v undef, tmps.getD x undef]) w := by
  simp [results, h]
set_option maxRecDepth 100000 in
set_option maxHeartbeats 16000000 in
theorem stack_s (g : Nat) (a a' b b' : Option Addr) (c c' d d' : Nat) (hs hq : List (List Int)) (ms mq xs : List Int) (md : Int) (sl : Option Addr) (sc : Nat) (w : World) (hp1 : isP hs ms = true) (hp2 : isP hq mq = true) (hmd : md = 0 ∨ md = 1 ∨ md = 2) (hl : xs.length ≤ 60) (hx0 : ∀ j, 0 ≤ xs.getD j 0) (hg : g < w.heap.size)
    (h0 : w.cell? ⟨g, 0, none⟩ = some (.slice a hs.length c)) (h1 : w.cell? ⟨g, 1, none⟩ = some (.slice a' ms.length c')) (h2 : w.cell? ⟨g, 2, none⟩ = some (.slice b hq.length d)) (h3 : w.cell? ⟨g, 3, none⟩ = some (.slice b' mq.length d')) (h4 : w.cell? ⟨g, 4, none⟩ = some (.int .i64 md))
    (hr : RdR w a hs) (hm : Row w a' ms) (hr2 : RdR w b hq) (hm2 : Row w b' mq) (hx : Row w sl xs) :
    Calls Try.prog 29 #[.pointer (some ⟨g, 0, none⟩), .slice sl xs.length sc] w (fun e w' => ∃ v1 v2 v3, e = .returned (.tuple #[v3, v1, v2, .int .i64 ((lvRun hs hq ms mq md xs xs.length).bk : Int)]) ∧
      St w w' ms.length mq.length (lvRun hs hq ms mq md xs xs.length).k1 (lvRun hs hq ms mq md xs xs.length).k2 (lvRun hs hq ms mq md xs xs.length).fs v1 v2 v3) := by
  obtain ⟨hp11, hp16⟩ := isP_len6 hp1
  obtain ⟨hp21, hp26⟩ := isP_len6 hp2
  have HS1 := Lib.hid (fun (k : Nat → Int) (x : Int) (v : Value) (w' : World) (hb : Below w.heap.size w w') (hv : Rd w' v (rowL ms.length k)) => stepAt_s g 0 a a' c c' hs ms k x v w' hp1 (Nat.lt_of_lt_of_le hg hb.size) ((hb.cell (p := ⟨g, 0, none⟩) hg).trans h0) ((hb.cell (p := ⟨g, 0 + 1, none⟩) hg).trans h1) (hr.below hb) (hm.below hb) hv)
  have HS2 := Lib.hid (fun (k : Nat → Int) (x : Int) (v : Value) (w' : World) (hb : Below w.heap.size w w') (hv : Rd w' v (rowL mq.length k)) => stepAt_s g 2 b b' d d' hq mq k x v w' hp2 (Nat.lt_of_lt_of_le hg hb.size) ((hb.cell (p := ⟨g, 2, none⟩) hg).trans h2) ((hb.cell (p := ⟨g, 2 + 1, none⟩) hg).trans h3) (hr2.below hb) (hm2.below hb) hv)
  have HE1 := Lib.hid (emptyAt_s g 0 ms.length c' a' w hg h1 (by omega))
  have HE2 := Lib.hid (fun (w' : World) (hb : Below w.heap.size w w') => emptyAt_s g 2 mq.length d' b' w' (Nat.lt_of_lt_of_le hg hb.size) ((hb.cell (p := ⟨g, 3, none⟩) hg).trans h3) (by omega))
  have H4 := Lib.hid (fun (w' : World) (hb : Below w.heap.size w w') => (hb.cell (p := ⟨g, 4, none⟩) hg).trans h4)
  have HT1 := Lib.hid (take_s ms.length hp11 hp16)
  have HT2 := Lib.hid (take_s mq.length hp21 hp26)
  have HC := Lib.hid hx
  have HK1 := Lib.hid (show emptyL ms.length = rowL ms.length (fun _ => -1) from (rowL_empty _).symm)
  have HK2 := Lib.hid (show emptyL mq.length = rowL mq.length (fun _ => -1) from (rowL_empty _).symm)
  have HST := Lib.hid (fun j => (show lvRun hs hq ms mq md xs (j + 1) = lvStep hs hq ms mq md (lvRun hs hq ms mq md xs j) (xs.getD j 0) from rfl))
  have HLN := Lib.hid (lvRun_len hs hq ms mq md xs)
  have HBK := Lib.hid (lvRun_bk hs hq ms mq md xs)
  have HGE := Lib.hid (lvRun_ge (hs := hs) (hq := hq) (ms := ms) (mq := mq) (md := md) hx0)
  have HX0 := Lib.hid hx0
  have HLO := Lib.hid (fun (S : LvS) (x : Int) => lvStep_hit (hs := hs) (hq := hq) (ms := ms) (mq := mq) (md := md) (s := S) (x := x))
  have HEX := Lib.hid (fun (S : LvS) (x : Int) => lvStep_ex (hs := hs) (hq := hq) (ms := ms) (mq := mq) (s := S) (x := x))
  have HFR := Lib.hid (fun (S : LvS) (x : Int) => lvStep_fr (hs := hs) (hq := hq) (ms := ms) (mq := mq) (md := md) (s := S) (x := x))
  have HIN := Lib.hid (fun (S : LvS) (x : Int) => lvStep_in (hs := hs) (hq := hq) (ms := ms) (mq := mq) (s := S) (x := x))
  have H0 := Lib.hid (show lvRun hs hq ms mq md xs 0 = ⟨fun _ => -1, fun _ => -1, [], 0⟩ from rfl)
  clear hp1 hp2 h0 h1 h2 h3 h4 hr hm hr2 hm2 hx hx0
  unfold Row at HC
  generalize hLS : lvStep hs hq ms mq = LS at *
  clear hLS
  generalize hLR : lvRun hs hq ms mq md xs = LR at *
  clear hLR
  generalize hSN1 : stN hs ms = SN1 at *
  clear hSN1
  generalize hSN2 : stN hq mq = SN2 at *
  clear hSN2
  generalize ms.length = M1 at *
  generalize mq.length = M2 at *
  generalize hN : xs.length = N at *
  clear hN
  go_enter Try.func29, Try.ntmps29
  go_wp2_with fail
  refine HE1.out.mono ?_; rintro e w1 ⟨v1, rfl, o1, b1⟩
  rw [HK1.out] at o1
  go_wp2_with fail
  refine (HE2.out w1 b1).mono ?_; rintro e w2 ⟨v2, rfl, o2, b2⟩
  rw [HK2.out] at o2
  have hst0 := Lib.hid (show St w (w2.alloc (.cells #[] 2)) M1 M2 (LR 0).k1 (LR 0).k2 (LR 0).fs v1 v2 (.slice (some ⟨w2.heap.size, 0, none⟩) 0 0) from by
    rw [H0.out]
    exact ⟨(o1.below b2 (Nat.le_refl _)).below ((Below.refl _ w2).alloc (Nat.le_refl _) _) (Nat.le_refl _), (o2.mono b1.size).below ((Below.refl _ w2).alloc (Nat.le_refl _) _) (Nat.le_refl _), (Own.lit0 w2).mono (Nat.le_trans b1.size b2.size),
      (Apart.new (o1.below b2 (Nat.le_refl _)) (C := w2.heap.size) (fun k hk => by injection hk with hk; exact Nat.le_of_eq hk) (Nat.le_refl _)).symm, (Apart.new o2 (C := w2.heap.size) (fun k hk => by injection hk with hk; exact Nat.le_of_eq hk) (Nat.le_refl _)).symm, Apart.new o1 (fun k hk => (o2.block k hk).1) (Nat.le_refl _),
      (b1.trans (b2.mono b1.size)).alloc (Nat.le_trans b1.size b2.size) _⟩)
  have hb0 : (0 : Int) = ((LR 0).bk : Int) := by rw [H0.out]; rfl
  clear o1 o2 b1 b2 HE1 HE2 HK1 HK2 H0
  go_wp2
  go_loopw [8, 9, 10, 11, 12, 13, 14, 15, 16, 17, 18, 19] (fun y1 y2 y3 bk i _ _ _ _ _ _ _ wr => ∃ (j : Nat) (x1 x2 x3 : Value), x1 = y1 ∧ x2 = y2 ∧ x3 = y3 ∧ j ≤ N ∧ bk = .int .i64 ((LR j).bk : Int) ∧ i = .int .i64 j ∧ Hid (St w wr M1 M2 (LR j).k1 (LR j).k2 (LR j).fs x1 x2 x3)) (fun _ _ _ _ i _ _ _ _ _ _ _ _ => N - (intOf i).toNat)
  case atStart => exact ⟨0, _, _, _, rfl, rfl, rfl, Nat.zero_le _, by rw [← hb0], rfl, hst0⟩
  case round =>
    obtain ⟨j, x1, x2, x3, e1, e2, e3, hj, rfl, rfl, hS⟩ := hrel
    subst e1 e2 e3
    clear hst0 hb0
    by_cases hlt : j < N
    · obtain ⟨b9, off9, rfl, k1, k2⟩ := HC.out j hlt
      have k3 : wr.cell? ⟨b9, off9 + j, none⟩ = some (.int .i64 (xs.getD j 0)) := (hS.out.bl.cell (p := ⟨b9, off9 + j, none⟩) k2).trans k1
      have hst := HST.out j
      have hfl := HLN.out j
      have hbk := HBK.out j
      obtain ⟨hg1, hg2⟩ := HGE.out j
      have hxx := HX0.out j
      have hq : (LR j).fs.length + 1 ≤ 1000000000 := by rw [hfl]; omega
      have hq9 : w.heap.size ≤ wr.heap.size := hS.out.bl.size
      generalize xs.getD j 0 = x at *
      have hnx : (j : Int) < N := by omega
      have HR1 := Lib.hid (has_own2 hS.out.o1 hp16 x)
      have HN : ∀ S' : LvS, S' = LR (j + 1) → ∀ (y1 y2 y3 : Value) (w9 : World), St w w9 M1 M2 S'.k1 S'.k2 S'.fs y1 y2 y3 → Hid (St w w9 M1 M2 (LR (j + 1)).k1 (LR (j + 1)).k2 (LR (j + 1)).fs y1 y2 y3) := fun S' e y1 y2 y3 w9 h => by subst e; exact Lib.hid h
      have HNX := Lib.hid HN
      clear k1 HST HLN HBK HGE HX0 HC HN
      generalize LR j = S at *
      obtain ⟨og1, cc1, rfl, lc1⟩ := own_last hS.out.o1 hp11
      obtain ⟨og2, cc2, rfl, lc2⟩ := own_last hS.out.o2 hp21
      cases r1 : hitB M1 S.k1 x
      rotate_left
      · rw [r1] at HR1
        go_wp2_with fail
        refine HR1.out.mono ?_; rintro e w9 ⟨rfl, rfl⟩
        go_wp2_with (at_builtin; refine wpList_appG wr rfl _ _ rfl w.heap.size x3 S.fs 1 ?_ ?_ hS.out.o3 hq hq9 ?_; rfl; rfl)
        intro y3 w3 ho3 hb3 hk3
        have T3 := Lib.hid (hS.out.app ho3 hb3 hk3)
        clear ho3 hb3 hk3
        have Gw4 := Lib.hid (HS1.out S.k1 x _ w3 T3.out.bl T3.out.o1.rd)
        unfold Sh at Gw4
        go_wp2_with fail
        refine Gw4.out.mono ?_; rintro e w4 ⟨v4, rfl, o9, b9⟩
        have T9 := Lib.hid (T3.out.one o9 b9)
        clear o9 b9 Gw4
        have hnx9 : LR (j + 1) = ⟨SN1 S.k1 x, S.k2, S.fs ++ [1], S.bk⟩ := hst.trans (HLO.out S x r1)
        go_wp2
        go_roundw
        case rel => exact ⟨j + 1, _, _, _, rfl, rfl, rfl, by omega, by rw [hnx9], by go_num, HNX.out _ hnx9.symm _ _ _ _ T9.out⟩
        case measure => simp [intOf]; omega
      · rw [r1] at HR1
        have HR2 := Lib.hid (has_own2 hS.out.o2 hp26 x)
        cases r2 : hitB M2 S.k2 x
        · rw [r2] at HR2
          rcases hmd with rfl | rfl | rfl
          · have d1 : (1 : Int) ≤ M1 := by omega
            have d2 : (1 : Int) ≤ M2 := by omega
            go_wp2_with fail
            refine HR1.out.mono ?_; rintro e w9 ⟨rfl, rfl⟩
            go_wp2_with fail
            refine HR2.out.mono ?_; rintro e w9 ⟨rfl, rfl⟩
            go_wp2_with (at_builtin; refine wpList_appG wr rfl _ _ rfl w.heap.size x3 S.fs 3 ?_ ?_ hS.out.o3 hq hq9 ?_; rfl; rfl)
            intro y3 w3 ho3 hb3 hk3
            have T3 := Lib.hid (hS.out.app ho3 hb3 hk3)
            clear ho3 hb3 hk3
            have c4 := H4.out w3 T3.out.bl
            have lc4 := (own_last T3.out.o2 hp21)
            obtain ⟨og4, cc4, e4, lc4⟩ := lc4
            injection e4 with e4 e5 e6; injection e4 with e4; injection e4 with e4; subst e4 e6
            have hz1 : ((M2 : Int) - 1).toNat = M2 - 1 := by omega
            have hz2 : (0 : Int) ≤ (M2 : Int) - 1 := by omega
            have hz3 : (M2 : Int) - 1 = ((M2 - 1 : Nat) : Int) := by omega
            have hz4 : ((M2 - 1 : Nat) : Int) < M2 := by omega
            have hgg := hg2 (M2 - 1)
            have hFR := HFR.out S x r1 (by decide) (by decide)
            rw [r2] at hFR
            generalize S.k2 (M2 - 1) = gn at *
            have HR3 := Lib.hid (HS2.out S.k2 x _ w3 T3.out.bl T3.out.o2.rd)
            rw [r2] at HR3
            have Gw4 := Lib.hid (HR3.out)
            unfold Sh at Gw4
            go_wp2_with fail
            refine Gw4.out.mono ?_; rintro e w4 ⟨v4, rfl, o9, b9⟩
            have T4 := Lib.hid (T3.out.two o9 b9)
            clear o9 b9 Gw4
            clear HR3
            have c44 := H4.out w4 T4.out.bl
            have Gw5 := Lib.hid (HS1.out S.k1 x _ w4 T4.out.bl T4.out.o1.rd)
            unfold Sh at Gw5
            go_wp2_with fail
            refine Gw5.out.mono ?_; rintro e w5 ⟨v5, rfl, o9, b9⟩
            have T9 := Lib.hid (T4.out.one o9 b9)
            clear o9 b9 Gw5
            have hnx9 : LR (j + 1) = ⟨SN1 S.k1 x, SN2 S.k2 x, S.fs ++ [3], S.bk⟩ := hst.trans hFR
            go_wp2
            go_roundw
            case rel => exact ⟨j + 1, _, _, _, rfl, rfl, rfl, by omega, by rw [hnx9], by go_num, HNX.out _ hnx9.symm _ _ _ _ T9.out⟩
            case measure => simp [intOf]; omega
          · have d1 : (1 : Int) ≤ M1 := by omega
            have d2 : (1 : Int) ≤ M2 := by omega
            go_wp2_with fail
            refine HR1.out.mono ?_; rintro e w9 ⟨rfl, rfl⟩
            go_wp2_with fail
            refine HR2.out.mono ?_; rintro e w9 ⟨rfl, rfl⟩
            go_wp2_with (at_builtin; refine wpList_appG wr rfl _ _ rfl w.heap.size x3 S.fs 3 ?_ ?_ hS.out.o3 hq hq9 ?_; rfl; rfl)
            intro y3 w3 ho3 hb3 hk3
            have T3 := Lib.hid (hS.out.app ho3 hb3 hk3)
            clear ho3 hb3 hk3
            have c4 := H4.out w3 T3.out.bl
            have lc4 := (own_last T3.out.o2 hp21)
            obtain ⟨og4, cc4, e4, lc4⟩ := lc4
            injection e4 with e4 e5 e6; injection e4 with e4; injection e4 with e4; subst e4 e6
            have hz1 : ((M2 : Int) - 1).toNat = M2 - 1 := by omega
            have hz2 : (0 : Int) ≤ (M2 : Int) - 1 := by omega
            have hz3 : (M2 : Int) - 1 = ((M2 - 1 : Nat) : Int) := by omega
            have hz4 : ((M2 - 1 : Nat) : Int) < M2 := by omega
            have hgg := hg2 (M2 - 1)
            have hIN := HIN.out S x r1 hgg
            rw [r2] at hIN
            generalize S.k2 (M2 - 1) = gn at *
            have HR3 := Lib.hid (HS2.out S.k2 x _ w3 T3.out.bl T3.out.o2.rd)
            rw [r2] at HR3
            have Gw4 := Lib.hid (HR3.out)
            unfold Sh at Gw4
            go_wp2_with fail
            refine Gw4.out.mono ?_; rintro e w4 ⟨v4, rfl, o9, b9⟩
            have T4 := Lib.hid (T3.out.two o9 b9)
            clear o9 b9 Gw4
            clear HR3
            have c44 := H4.out w4 T4.out.bl
            have HR5 := Lib.hid (HT1.out S.k1 gn _ w4 T4.out.o1.rd)
            cases tb : tkB M1 S.k1 gn
            · rw [tb] at HR5 hIN
              have Gw5 := Lib.hid (HR5.out)
              unfold Sh at Gw5
              go_wp2_with fail
              refine Gw5.out.mono ?_; rintro e w5 ⟨v5, rfl, o9, b9⟩
              have T5 := Lib.hid (T4.out.one o9 b9)
              clear o9 b9 Gw5
              have Gw6 := Lib.hid (HS1.out (tkK M1 S.k1 gn) x _ w5 T5.out.bl T5.out.o1.rd)
              unfold Sh at Gw6
              go_wp2_with fail
              refine Gw6.out.mono ?_; rintro e w6 ⟨v6, rfl, o9, b9⟩
              have T9 := Lib.hid (T5.out.one o9 b9)
              clear o9 b9 Gw6
              have hnx9 : LR (j + 1) = ⟨SN1 (tkK M1 S.k1 gn) x, SN2 S.k2 x, S.fs ++ [3], S.bk⟩ := hst.trans hIN
              go_wp2
              go_roundw
              case rel => exact ⟨j + 1, _, _, _, rfl, rfl, rfl, by omega, by rw [hnx9], by go_num, HNX.out _ hnx9.symm _ _ _ _ T9.out⟩
              case measure => simp [intOf]; omega
            · rw [tb] at HR5 hIN
              have Gw5 := Lib.hid (HR5.out)
              unfold Sh at Gw5
              go_wp2_with fail
              refine Gw5.out.mono ?_; rintro e w5 ⟨v5, rfl, o9, b9⟩
              have T5 := Lib.hid (T4.out.one o9 b9)
              clear o9 b9 Gw5
              have Gw6 := Lib.hid (HS1.out (tkK M1 S.k1 gn) x _ w5 T5.out.bl T5.out.o1.rd)
              unfold Sh at Gw6
              go_wp2_with fail
              refine Gw6.out.mono ?_; rintro e w6 ⟨v6, rfl, o9, b9⟩
              have T9 := Lib.hid (T5.out.one o9 b9)
              clear o9 b9 Gw6
              have hnx9 : LR (j + 1) = ⟨SN1 (tkK M1 S.k1 gn) x, SN2 S.k2 x, S.fs ++ [3], S.bk + 1⟩ := hst.trans hIN
              go_wp2
              go_roundw
              case rel => exact ⟨j + 1, _, _, _, rfl, rfl, rfl, by omega, by rw [hnx9]; show Value.int .i64 ((S.bk : Int) + 1) = .int .i64 ((S.bk + 1 : Nat) : Int); rw [Int.natCast_add]; rfl, by go_num, HNX.out _ hnx9.symm _ _ _ _ T9.out⟩
              case measure => simp [intOf]; omega
          · have d1 : (1 : Int) ≤ M1 := by omega
            have d2 : (1 : Int) ≤ M2 := by omega
            go_wp2_with fail
            refine HR1.out.mono ?_; rintro e w9 ⟨rfl, rfl⟩
            go_wp2_with fail
            refine HR2.out.mono ?_; rintro e w9 ⟨rfl, rfl⟩
            go_wp2_with (at_builtin; refine wpList_appG wr rfl _ _ rfl w.heap.size x3 S.fs 3 ?_ ?_ hS.out.o3 hq hq9 ?_; rfl; rfl)
            intro y3 w3 ho3 hb3 hk3
            have T3 := Lib.hid (hS.out.app ho3 hb3 hk3)
            clear ho3 hb3 hk3
            have c4 := H4.out w3 T3.out.bl
            have Gw4 := Lib.hid (HT2.out S.k2 x _ w3 T3.out.o2.rd)
            unfold Sh at Gw4
            go_wp2_with fail
            refine Gw4.out.mono ?_; rintro e w4 ⟨v4, rfl, o9, b9⟩
            have T4 := Lib.hid (T3.out.two o9 b9)
            clear o9 b9 Gw4
            have lc4 := (own_last T4.out.o1 hp11)
            obtain ⟨og4, cc4, e4, lc4⟩ := lc4
            injection e4 with e4 e5 e6; injection e4 with e4; injection e4 with e4; subst e4 e6
            have hz1 : ((M1 : Int) - 1).toNat = M1 - 1 := by omega
            have hz2 : (0 : Int) ≤ (M1 : Int) - 1 := by omega
            have hz3 : (M1 : Int) - 1 = ((M1 - 1 : Nat) : Int) := by omega
            have hz4 : ((M1 - 1 : Nat) : Int) < M1 := by omega
            have hgg := hg1 (M1 - 1)
            have hEX := HEX.out S x r1 hxx hgg
            rw [r2] at hEX
            generalize S.k1 (M1 - 1) = gn at *
            by_cases hgn : gn < 0
            · rw [if_pos hgn] at hEX
              have dg : decide ((0 : Int) ≤ gn) = false := decide_eq_false (by omega)
              have Gw5 := Lib.hid (HS1.out S.k1 x _ w4 T4.out.bl T4.out.o1.rd)
              unfold Sh at Gw5
              go_wp2_with fail
              refine Gw5.out.mono ?_; rintro e w5 ⟨v5, rfl, o9, b9⟩
              have T9 := Lib.hid (T4.out.one o9 b9)
              clear o9 b9 Gw5
              have hnx9 : LR (j + 1) = ⟨SN1 S.k1 x, tkK M2 S.k2 x, S.fs ++ [3], S.bk⟩ := hst.trans (hEX)
              go_wp2
              go_roundw
              case rel => exact ⟨j + 1, _, _, _, rfl, rfl, rfl, by omega, by rw [hnx9], by go_num, HNX.out _ hnx9.symm _ _ _ _ T9.out⟩
              case measure => simp [intOf]; omega
            · rw [if_neg hgn] at hEX
              have dg : decide ((0 : Int) ≤ gn) = true := decide_eq_true (by omega)
              have Gw5 := Lib.hid (HS1.out S.k1 x _ w4 T4.out.bl T4.out.o1.rd)
              unfold Sh at Gw5
              go_wp2_with fail
              refine Gw5.out.mono ?_; rintro e w5 ⟨v5, rfl, o9, b9⟩
              have T5 := Lib.hid (T4.out.one o9 b9)
              clear o9 b9 Gw5
              have Gw6 := Lib.hid (HS2.out (tkK M2 S.k2 x) gn _ w5 T5.out.bl T5.out.o2.rd)
              unfold Sh at Gw6
              go_wp2_with fail
              refine Gw6.out.mono ?_; rintro e w6 ⟨v6, rfl, o9, b9⟩
              have T9 := Lib.hid (T5.out.two o9 b9)
              clear o9 b9 Gw6
              have hnx9 : LR (j + 1) = ⟨SN1 S.k1 x, SN2 (tkK M2 S.k2 x) gn, S.fs ++ [3], S.bk⟩ := hst.trans (hEX)
              go_wp2
              go_roundw
              case rel => exact ⟨j + 1, _, _, _, rfl, rfl, rfl, by omega, by rw [hnx9], by go_num, HNX.out _ hnx9.symm _ _ _ _ T9.out⟩
              case measure => simp [intOf]; omega
        · rw [r2] at HR2
          rcases hmd with rfl | rfl | rfl
          · have d1 : (1 : Int) ≤ M1 := by omega
            have d2 : (1 : Int) ≤ M2 := by omega
            go_wp2_with fail
            refine HR1.out.mono ?_; rintro e w9 ⟨rfl, rfl⟩
            go_wp2_with fail
            refine HR2.out.mono ?_; rintro e w9 ⟨rfl, rfl⟩
            go_wp2_with (at_builtin; refine wpList_appG wr rfl _ _ rfl w.heap.size x3 S.fs 2 ?_ ?_ hS.out.o3 hq hq9 ?_; rfl; rfl)
            intro y3 w3 ho3 hb3 hk3
            have T3 := Lib.hid (hS.out.app ho3 hb3 hk3)
            clear ho3 hb3 hk3
            have c4 := H4.out w3 T3.out.bl
            have lc4 := (own_last T3.out.o2 hp21)
            obtain ⟨og4, cc4, e4, lc4⟩ := lc4
            injection e4 with e4 e5 e6; injection e4 with e4; injection e4 with e4; subst e4 e6
            have hz1 : ((M2 : Int) - 1).toNat = M2 - 1 := by omega
            have hz2 : (0 : Int) ≤ (M2 : Int) - 1 := by omega
            have hz3 : (M2 : Int) - 1 = ((M2 - 1 : Nat) : Int) := by omega
            have hz4 : ((M2 - 1 : Nat) : Int) < M2 := by omega
            have hgg := hg2 (M2 - 1)
            have hFR := HFR.out S x r1 (by decide) (by decide)
            rw [r2] at hFR
            generalize S.k2 (M2 - 1) = gn at *
            have HR3 := Lib.hid (HS2.out S.k2 x _ w3 T3.out.bl T3.out.o2.rd)
            rw [r2] at HR3
            have Gw4 := Lib.hid (HR3.out)
            unfold Sh at Gw4
            go_wp2_with fail
            refine Gw4.out.mono ?_; rintro e w4 ⟨v4, rfl, o9, b9⟩
            have T4 := Lib.hid (T3.out.two o9 b9)
            clear o9 b9 Gw4
            clear HR3
            have c44 := H4.out w4 T4.out.bl
            have Gw5 := Lib.hid (HS1.out S.k1 x _ w4 T4.out.bl T4.out.o1.rd)
            unfold Sh at Gw5
            go_wp2_with fail
            refine Gw5.out.mono ?_; rintro e w5 ⟨v5, rfl, o9, b9⟩
            have T9 := Lib.hid (T4.out.one o9 b9)
            clear o9 b9 Gw5
            have hnx9 : LR (j + 1) = ⟨SN1 S.k1 x, SN2 S.k2 x, S.fs ++ [2], S.bk⟩ := hst.trans hFR
            go_wp2
            go_roundw
            case rel => exact ⟨j + 1, _, _, _, rfl, rfl, rfl, by omega, by rw [hnx9], by go_num, HNX.out _ hnx9.symm _ _ _ _ T9.out⟩
            case measure => simp [intOf]; omega
          · have d1 : (1 : Int) ≤ M1 := by omega
            have d2 : (1 : Int) ≤ M2 := by omega
            go_wp2_with fail
            refine HR1.out.mono ?_; rintro e w9 ⟨rfl, rfl⟩
            go_wp2_with fail
            refine HR2.out.mono ?_; rintro e w9 ⟨rfl, rfl⟩
            go_wp2_with (at_builtin; refine wpList_appG wr rfl _ _ rfl w.heap.size x3 S.fs 2 ?_ ?_ hS.out.o3 hq hq9 ?_; rfl; rfl)
            intro y3 w3 ho3 hb3 hk3
            have T3 := Lib.hid (hS.out.app ho3 hb3 hk3)
            clear ho3 hb3 hk3
            have c4 := H4.out w3 T3.out.bl
            have lc4 := (own_last T3.out.o2 hp21)
            obtain ⟨og4, cc4, e4, lc4⟩ := lc4
            injection e4 with e4 e5 e6; injection e4 with e4; injection e4 with e4; subst e4 e6
            have hz1 : ((M2 : Int) - 1).toNat = M2 - 1 := by omega
            have hz2 : (0 : Int) ≤ (M2 : Int) - 1 := by omega
            have hz3 : (M2 : Int) - 1 = ((M2 - 1 : Nat) : Int) := by omega
            have hz4 : ((M2 - 1 : Nat) : Int) < M2 := by omega
            have hgg := hg2 (M2 - 1)
            have hIN := HIN.out S x r1 hgg
            rw [r2] at hIN
            generalize S.k2 (M2 - 1) = gn at *
            have HR3 := Lib.hid (HS2.out S.k2 x _ w3 T3.out.bl T3.out.o2.rd)
            rw [r2] at HR3
            have Gw4 := Lib.hid (HR3.out)
            unfold Sh at Gw4
            go_wp2_with fail
            refine Gw4.out.mono ?_; rintro e w4 ⟨v4, rfl, o9, b9⟩
            have T4 := Lib.hid (T3.out.two o9 b9)
            clear o9 b9 Gw4
            clear HR3
            have c44 := H4.out w4 T4.out.bl
            have Gw5 := Lib.hid (HS1.out S.k1 x _ w4 T4.out.bl T4.out.o1.rd)
            unfold Sh at Gw5
            go_wp2_with fail
            refine Gw5.out.mono ?_; rintro e w5 ⟨v5, rfl, o9, b9⟩
            have T9 := Lib.hid (T4.out.one o9 b9)
            clear o9 b9 Gw5
            have hnx9 : LR (j + 1) = ⟨SN1 S.k1 x, SN2 S.k2 x, S.fs ++ [2], S.bk⟩ := hst.trans hIN
            go_wp2
            go_roundw
            case rel => exact ⟨j + 1, _, _, _, rfl, rfl, rfl, by omega, by rw [hnx9], by go_num, HNX.out _ hnx9.symm _ _ _ _ T9.out⟩
            case measure => simp [intOf]; omega
          · have d1 : (1 : Int) ≤ M1 := by omega
            have d2 : (1 : Int) ≤ M2 := by omega
            go_wp2_with fail
            refine HR1.out.mono ?_; rintro e w9 ⟨rfl, rfl⟩
            go_wp2_with fail
            refine HR2.out.mono ?_; rintro e w9 ⟨rfl, rfl⟩
            go_wp2_with (at_builtin; refine wpList_appG wr rfl _ _ rfl w.heap.size x3 S.fs 2 ?_ ?_ hS.out.o3 hq hq9 ?_; rfl; rfl)
            intro y3 w3 ho3 hb3 hk3
            have T3 := Lib.hid (hS.out.app ho3 hb3 hk3)
            clear ho3 hb3 hk3
            have c4 := H4.out w3 T3.out.bl
            have Gw4 := Lib.hid (HT2.out S.k2 x _ w3 T3.out.o2.rd)
            unfold Sh at Gw4
            go_wp2_with fail
            refine Gw4.out.mono ?_; rintro e w4 ⟨v4, rfl, o9, b9⟩
            have T4 := Lib.hid (T3.out.two o9 b9)
            clear o9 b9 Gw4
            have lc4 := (own_last T4.out.o1 hp11)
            obtain ⟨og4, cc4, e4, lc4⟩ := lc4
            injection e4 with e4 e5 e6; injection e4 with e4; injection e4 with e4; subst e4 e6
            have hz1 : ((M1 : Int) - 1).toNat = M1 - 1 := by omega
            have hz2 : (0 : Int) ≤ (M1 : Int) - 1 := by omega
            have hz3 : (M1 : Int) - 1 = ((M1 - 1 : Nat) : Int) := by omega
            have hz4 : ((M1 - 1 : Nat) : Int) < M1 := by omega
            have hgg := hg1 (M1 - 1)
            have hEX := HEX.out S x r1 hxx hgg
            rw [r2] at hEX
            generalize S.k1 (M1 - 1) = gn at *
            by_cases hgn : gn < 0
            · rw [if_pos hgn] at hEX
              have dg : decide ((0 : Int) ≤ gn) = false := decide_eq_false (by omega)
              have Gw5 := Lib.hid (HS1.out S.k1 x _ w4 T4.out.bl T4.out.o1.rd)
              unfold Sh at Gw5
              go_wp2_with fail
              refine Gw5.out.mono ?_; rintro e w5 ⟨v5, rfl, o9, b9⟩
              have T9 := Lib.hid (T4.out.one o9 b9)
              clear o9 b9 Gw5
              have hnx9 : LR (j + 1) = ⟨SN1 S.k1 x, tkK M2 S.k2 x, S.fs ++ [2], S.bk⟩ := hst.trans (hEX)
              go_wp2
              go_roundw
              case rel => exact ⟨j + 1, _, _, _, rfl, rfl, rfl, by omega, by rw [hnx9], by go_num, HNX.out _ hnx9.symm _ _ _ _ T9.out⟩
              case measure => simp [intOf]; omega
            · rw [if_neg hgn] at hEX
              have dg : decide ((0 : Int) ≤ gn) = true := decide_eq_true (by omega)
              have Gw5 := Lib.hid (HS1.out S.k1 x _ w4 T4.out.bl T4.out.o1.rd)
              unfold Sh at Gw5
              go_wp2_with fail
              refine Gw5.out.mono ?_; rintro e w5 ⟨v5, rfl, o9, b9⟩
              have T5 := Lib.hid (T4.out.one o9 b9)
              clear o9 b9 Gw5
              have Gw6 := Lib.hid (HS2.out (tkK M2 S.k2 x) gn _ w5 T5.out.bl T5.out.o2.rd)
              unfold Sh at Gw6
              go_wp2_with fail
              refine Gw6.out.mono ?_; rintro e w6 ⟨v6, rfl, o9, b9⟩
              have T9 := Lib.hid (T5.out.two o9 b9)
              clear o9 b9 Gw6
              have hnx9 : LR (j + 1) = ⟨SN1 S.k1 x, SN2 (tkK M2 S.k2 x) gn, S.fs ++ [2], S.bk⟩ := hst.trans (hEX)
              go_wp2
              go_roundw
              case rel => exact ⟨j + 1, _, _, _, rfl, rfl, rfl, by omega, by rw [hnx9], by go_num, HNX.out _ hnx9.symm _ _ _ _ T9.out⟩
              case measure => simp [intOf]; omega
    · have e : j = N := by omega
      subst e
      go_wp2
      refine bodyPost_ret (results_tmp4 rfl _ _ _) rfl ?_
      exact ⟨_, _, _, rfl, hS.out⟩
end Go.Proofs.Ytimfekedpgllhaa.Pv
namespace Go.Proofs.Ytimfekedpgllhaa.Pv
open Go.RowKit Tr
def lvO (hs hq : List (List Int)) (ms mq : List Int) (md : Int) (xs : List Int) : Bool := okL hs hq ms mq md && okU xs
def lvF (hs hq : List (List Int)) (ms mq : List Int) (md : Int) (xs : List Int) : List Int := if lvO hs hq ms mq md xs then (lvRun hs hq ms mq md xs xs.length).fs else []
def lvL1 (hs hq : List (List Int)) (ms mq : List Int) (md : Int) (xs : List Int) : List Int := if lvO hs hq ms mq md xs then rowL ms.length (lvRun hs hq ms mq md xs xs.length).k1 else []
def lvL2 (hs hq : List (List Int)) (ms mq : List Int) (md : Int) (xs : List Int) : List Int := if lvO hs hq ms mq md xs then rowL mq.length (lvRun hs hq ms mq md xs xs.length).k2 else []
def lvN (hs hq : List (List Int)) (ms mq : List Int) (md : Int) (xs : List Int) : Int := if lvO hs hq ms mq md xs then ((lvRun hs hq ms mq md xs xs.length).bk : Int) else 0
theorem lvO_parts {hs hq : List (List Int)} {ms mq : List Int} {md : Int} {xs : List Int} (h : lvO hs hq ms mq md xs = true) : isP hs ms = true ∧ isP hq mq = true ∧ (md = 0 ∨ md = 1 ∨ md = 2) ∧ xs.length ≤ 60 ∧ ∀ j, 0 ≤ xs.getD j 0 := by
  obtain ⟨h1, h2⟩ := Bool.and_eq_true_iff.1 h
  obtain ⟨p1, p2, p3⟩ := okL_parts h1
  refine ⟨p1, p2, p3, okU_len h2, fun j => ?_⟩
  by_cases hj : j < xs.length
  · exact (okU_at h2 j hj).1
  · rw [List.getD_eq_getElem?_getD, List.getElem?_eq_none (by omega)]; exact Int.le_refl _
theorem lvF_len (hs hq : List (List Int)) (ms mq : List Int) (md : Int) (xs : List Int) : (lvF hs hq ms mq md xs).length ≤ 1000000 := by
  unfold lvF; split
  · rename_i h
    rw [lvRun_len]; have := (lvO_parts h).2.2.2.1; omega
  · simp
theorem lvL1_len (hs hq : List (List Int)) (ms mq : List Int) (md : Int) (xs : List Int) : (lvL1 hs hq ms mq md xs).length ≤ 1000000 := by
  unfold lvL1; split
  · rename_i h
    rw [rowL_len]; have := (isP_len6 (lvO_parts h).1).2; omega
  · simp
theorem lvL2_len (hs hq : List (List Int)) (ms mq : List Int) (md : Int) (xs : List Int) : (lvL2 hs hq ms mq md xs).length ≤ 1000000 := by
  unfold lvL2; split
  · rename_i h
    rw [rowL_len]; have := (isP_len6 (lvO_parts h).2.1).2; omega
  · simp
def ResLW (xs : List Int) (ok : Bool) (w : World) (e : Ending) (w' : World) : Prop := ∃ v, e = .returned (.tuple #[v, .bool ok]) ∧ OwnW w' w.heap.size v xs ∧ Below w.heap.size w w'
def ResLWW (xs ys : List Int) (ok : Bool) (w : World) (e : Ending) (w' : World) : Prop := ∃ v1 v2, e = .returned (.tuple #[v1, v2, .bool ok]) ∧ OwnW w' w.heap.size v1 xs ∧ OwnW w' w.heap.size v2 ys ∧ (∀ k, v2.ownBlock = some k → v1.ownBlock ≠ some k) ∧ Below w.heap.size w w'
def ResLN (n : Int) (ok : Bool) (w : World) (e : Ending) (w' : World) : Prop := e = .returned (.tuple #[.int .i64 n, .bool ok]) ∧ Below w.heap.size w w'
/-- What the program's run leaves, cell by cell. -/
def RunF (ok : Bool) (hs hq : List (List Int)) (ms mq : List Int) (S : LvS) (w : World) (e : Ending) (w' : World) : Prop :=
  ∃ (EL : List Value) (f : Value), e = .returned (.tuple #[.agg EL.toArray, .bool ok]) ∧ EL.length = 101 ∧ (∀ v ∈ EL, v.oneCell' = true) ∧ EL[99]? = some f ∧ EL[100]? = some (.int .i64 (if ok then (S.bk : Int) else 0)) ∧ Own w' w.heap.size f (if ok then S.fs else []) ∧ Below w.heap.size w w' ∧
    (ok = true → FmA EL 1 (rulC true ms.length hs ms) S.k1 ∧ FmA EL 50 (rulC true mq.length hq mq) S.k2)
theorem RunL.form {ok : Bool} {mv : Value} {hs hq : List (List Int)} {ms mq : List Int} {S : LvS} {w w' : World} {e : Ending} (h : RunL ok mv hs hq ms mq S w e w') (h0 : mv.oneCell' = true) : RunF ok hs hq ms mq S w e w' := by
  rcases h with ⟨rfl, he, hb⟩ | ⟨rfl, f, he, ho, hb⟩
  · exact ⟨z101, .slice none 0 0, he, rfl, one_z101, rfl, rfl, Own.nil _ _, hb, fun h => by cases h⟩
  · obtain ⟨fa, fc, hf⟩ := Own.form ho
    obtain ⟨_, a1, a2, _, _⟩ := lvC_at mv (rulC true ms.length hs ms) S.k1 (rulC true mq.length hq mq) S.k2 f (S.bk : Int) (rulC_len _ _ _ _) (rulC_len _ _ _ _)
    exact ⟨_, f, he, lvC_len _ _ _ _ _ _ _ (rulC_len _ _ _ _) (rulC_len _ _ _ _), one_lvC _ _ _ _ _ _ _ h0 (one_rulC _ _ _ _) (one_rulC _ _ _ _) (by rw [hf]; rfl), a1, a2, ho, hb, fun _ => ⟨lvC_fm1 _ _ _ _ _ _ _ (rulC_len _ _ _ _) (rulC_len _ _ _ _), lvC_fm2 _ _ _ _ _ _ _ (rulC_len _ _ _ _) (rulC_len _ _ _ _)⟩⟩
set_option maxRecDepth 100000 in
set_option maxHeartbeats 4000000 in
theorem RunLevels_i {a a' b b' : Option Addr} {n c n' c' m d m' d' : Nat} {md : Int} {hs hq : List (List Int)} {ms mq xs : List Int} {w : World} {a2 : Option Addr} {c2 : Nat} (h : RdP w (.agg #[.slice a n c, .slice a' n' c']) hs ms) (k : RdP w (.agg #[.slice b m d, .slice b' m' d']) hq mq)
    (hx : Row w a2 xs) (hxl : xs.length ≤ 1048576) :
    Calls Try.prog 14 #[lvV a a' b b' n c n' c' m d m' d' md, .slice a2 xs.length c2] w (ResLW (lvF hs hq ms mq md xs) (lvO hs hq ms mq md xs) w) := by
  have b0 := (Below.refl w.heap.size w).alloc (Nat.le_refl _) (.cells #[.slice a n c, .slice a' n' c', .slice b m d, .slice b' m' d', .int .i64 md] 32)
  have hsz : (w.alloc (.cells #[.slice a n c, .slice a' n' c', .slice b m d, .slice b' m' d', .int .i64 md] 32)).heap.size = w.heap.size + 1 := Array.size_push _
  have HR := Lib.hid ((runL_i (md := md) (c2 := c2) (RdP.belowL h b0) (RdP.belowL k b0) (hx.below b0) hxl).mono (R' := RunF (lvO hs hq ms mq md xs) hs hq ms mq (lvRun hs hq ms mq md xs xs.length) (w.alloc (.cells #[.slice a n c, .slice a' n' c', .slice b m d, .slice b' m' d', .int .i64 md] 32))) fun e w' hh => RunL.form hh (mdV_form md).2)
  have hLO := Lib.hid (fun (hh : lvO hs hq ms mq md xs = true) => lvO_parts hh)
  unfold RunF lvV at HR
  unfold lvF ResLW lvV
  clear h k hx
  generalize lvRun hs hq ms mq md xs xs.length = S at *
  generalize lvO hs hq ms mq md xs = ok at *
  generalize xs.length = N at *
  generalize (if ok = true then S.fs else []) = FS at *
  go_enter Try.func14, Try.ntmps14
  go_wp2_with fail
  refine HR.out.mono ?_; rintro e w1 ⟨EL, f, rfl, hl, ho, h99, h100, hO, hB, hF⟩
  have B1 := Lib.hid (b0.trans (hB.mono (by omega)))
  have hs1 := hB.size
  have HO := Lib.hid hO
  have HF := Lib.hid hF
  clear hB b0 HR hO hF
  go_wp2_with (with_reducible refine wpList_storeB rfl 62 (.tmp 6) (.tmp 12) rfl w1.heap.size 0 EL ?_ ?_ z101 62 ?_ ?_ ?_ ?_ ?_)
  all_goals (first | exact Blk.newAt w1 _ z101 _ rfl | (rw [hl]; exact (show 0 + 101 ≤ 101 by decide)) | (rw [hl]; exact isz101) | exact ho | rfl | skip)
  intro w2 hB2 hK2
  rw [splice_all _ _ (by rw [hl]; rfl)] at hB2
  have b12 : Below w1.heap.size w1 w2 := ((Below.refl w1.heap.size w1).alloc (Nat.le_refl _) _).trans (hK2.out.below (Nat.le_refl _))
  have hO2 := HO.out.below b12 (Nat.le_refl _)
  have B2 := Lib.hid (B1.out.trans (b12.mono (by omega)))
  have c99 : w2.cell? ⟨w1.heap.size, 99, none⟩ = some f := (hB2.out.cell 99).trans h99
  have c100 : w2.cell? ⟨w1.heap.size, 100, none⟩ = _ := (hB2.out.cell 100).trans h100
  clear b12 h99 h100 hK2 B1 HO
  obtain ⟨fa, fc, hf⟩ := Own.form hO2
  have HO2 := Lib.hid (hO2.mono (B' := w.heap.size) (by omega))
  clear hO2 c100
  subst hf
  go_wp2
  go_ret2
  exact ⟨_, rfl, HO2.out.weak, B2.out⟩
set_option maxRecDepth 100000 in
set_option maxHeartbeats 4000000 in
theorem BackInvalidations_i {a a' b b' : Option Addr} {n c n' c' m d m' d' : Nat} {md : Int} {hs hq : List (List Int)} {ms mq xs : List Int} {w : World} {a2 : Option Addr} {c2 : Nat} (h : RdP w (.agg #[.slice a n c, .slice a' n' c']) hs ms) (k : RdP w (.agg #[.slice b m d, .slice b' m' d']) hq mq)
    (hx : Row w a2 xs) (hxl : xs.length ≤ 1048576) :
    Calls Try.prog 22 #[lvV a a' b b' n c n' c' m d m' d' md, .slice a2 xs.length c2] w (ResLN (lvN hs hq ms mq md xs) (lvO hs hq ms mq md xs) w) := by
  have b0 := (Below.refl w.heap.size w).alloc (Nat.le_refl _) (.cells #[.slice a n c, .slice a' n' c', .slice b m d, .slice b' m' d', .int .i64 md] 32)
  have hsz : (w.alloc (.cells #[.slice a n c, .slice a' n' c', .slice b m d, .slice b' m' d', .int .i64 md] 32)).heap.size = w.heap.size + 1 := Array.size_push _
  have HR := Lib.hid ((runL_i (md := md) (c2 := c2) (RdP.belowL h b0) (RdP.belowL k b0) (hx.below b0) hxl).mono (R' := RunF (lvO hs hq ms mq md xs) hs hq ms mq (lvRun hs hq ms mq md xs xs.length) (w.alloc (.cells #[.slice a n c, .slice a' n' c', .slice b m d, .slice b' m' d', .int .i64 md] 32))) fun e w' hh => RunL.form hh (mdV_form md).2)
  have hLO := Lib.hid (fun (hh : lvO hs hq ms mq md xs = true) => lvO_parts hh)
  unfold RunF lvV at HR
  unfold lvN ResLN lvV
  clear h k hx
  generalize lvRun hs hq ms mq md xs xs.length = S at *
  generalize lvO hs hq ms mq md xs = ok at *
  generalize xs.length = N at *
  generalize (if ok = true then (S.bk : Int) else 0) = nn at *
  go_enter Try.func22, Try.ntmps22
  go_wp2_with fail
  refine HR.out.mono ?_; rintro e w1 ⟨EL, f, rfl, hl, ho, h99, h100, hO, hB, hF⟩
  have B1 := Lib.hid (b0.trans (hB.mono (by omega)))
  have hs1 := hB.size
  have HO := Lib.hid hO
  have HF := Lib.hid hF
  clear hB b0 HR hO hF
  go_wp2_with (with_reducible refine wpList_storeB rfl 62 (.tmp 6) (.tmp 12) rfl w1.heap.size 0 EL ?_ ?_ z101 62 ?_ ?_ ?_ ?_ ?_)
  all_goals (first | exact Blk.newAt w1 _ z101 _ rfl | (rw [hl]; exact (show 0 + 101 ≤ 101 by decide)) | (rw [hl]; exact isz101) | exact ho | rfl | skip)
  intro w2 hB2 hK2
  rw [splice_all _ _ (by rw [hl]; rfl)] at hB2
  have b12 : Below w1.heap.size w1 w2 := ((Below.refl w1.heap.size w1).alloc (Nat.le_refl _) _).trans (hK2.out.below (Nat.le_refl _))
  have hO2 := HO.out.below b12 (Nat.le_refl _)
  have B2 := Lib.hid (B1.out.trans (b12.mono (by omega)))
  have c99 : w2.cell? ⟨w1.heap.size, 99, none⟩ = some f := (hB2.out.cell 99).trans h99
  have c100 : w2.cell? ⟨w1.heap.size, 100, none⟩ = _ := (hB2.out.cell 100).trans h100
  clear b12 h99 h100 hK2 B1 HO
  clear c99 hO2
  go_wp2
  go_ret2
  exact ⟨rfl, B2.out⟩
set_option maxRecDepth 100000 in
set_option maxHeartbeats 4000000 in
theorem LevelContents_i {a a' b b' : Option Addr} {n c n' c' m d m' d' : Nat} {md : Int} {hs hq : List (List Int)} {ms mq xs : List Int} {w : World} {a2 : Option Addr} {c2 : Nat} (h : RdP w (.agg #[.slice a n c, .slice a' n' c']) hs ms) (k : RdP w (.agg #[.slice b m d, .slice b' m' d']) hq mq)
    (hx : Row w a2 xs) (hxl : xs.length ≤ 1048576) :
    Calls Try.prog 20 #[lvV a a' b b' n c n' c' m d m' d' md, .slice a2 xs.length c2] w (ResLWW (lvL1 hs hq ms mq md xs) (lvL2 hs hq ms mq md xs) (lvO hs hq ms mq md xs) w) := by
  have b0 := (Below.refl w.heap.size w).alloc (Nat.le_refl _) (.cells #[.slice a n c, .slice a' n' c', .slice b m d, .slice b' m' d', .int .i64 md] 32)
  have hsz : (w.alloc (.cells #[.slice a n c, .slice a' n' c', .slice b m d, .slice b' m' d', .int .i64 md] 32)).heap.size = w.heap.size + 1 := Array.size_push _
  have HR := Lib.hid ((runL_i (md := md) (c2 := c2) (RdP.belowL h b0) (RdP.belowL k b0) (hx.below b0) hxl).mono (R' := RunF (lvO hs hq ms mq md xs) hs hq ms mq (lvRun hs hq ms mq md xs xs.length) (w.alloc (.cells #[.slice a n c, .slice a' n' c', .slice b m d, .slice b' m' d', .int .i64 md] 32))) fun e w' hh => RunL.form hh (mdV_form md).2)
  have hLO := Lib.hid (fun (hh : lvO hs hq ms mq md xs = true) => lvO_parts hh)
  unfold RunF lvV at HR
  unfold lvL1 lvL2 ResLWW lvV
  clear h k hx
  generalize lvRun hs hq ms mq md xs xs.length = S at *
  generalize lvO hs hq ms mq md xs = ok at *
  generalize xs.length = N at *
  go_enter Try.func20, Try.ntmps20
  go_wp2_with fail
  refine HR.out.mono ?_; rintro e w1 ⟨EL, f, rfl, hl, ho, h99, h100, hO, hB, hF⟩
  have B1 := Lib.hid (b0.trans (hB.mono (by omega)))
  have hs1 := hB.size
  have HO := Lib.hid hO
  have HF := Lib.hid hF
  clear hB b0 HR hO hF
  go_wp2_with (with_reducible refine wpList_storeB rfl 62 (.tmp 7) (.tmp 13) rfl w1.heap.size 0 EL ?_ ?_ z101 62 ?_ ?_ ?_ ?_ ?_)
  all_goals (first | exact Blk.newAt w1 _ z101 _ rfl | (rw [hl]; exact (show 0 + 101 ≤ 101 by decide)) | (rw [hl]; exact isz101) | exact ho | rfl | skip)
  intro w2 hB2 hK2
  rw [splice_all _ _ (by rw [hl]; rfl)] at hB2
  have b12 : Below w1.heap.size w1 w2 := ((Below.refl w1.heap.size w1).alloc (Nat.le_refl _) _).trans (hK2.out.below (Nat.le_refl _))
  have hO2 := HO.out.below b12 (Nat.le_refl _)
  have B2 := Lib.hid (B1.out.trans (b12.mono (by omega)))
  have c99 : w2.cell? ⟨w1.heap.size, 99, none⟩ = some f := (hB2.out.cell 99).trans h99
  have c100 : w2.cell? ⟨w1.heap.size, 100, none⟩ = _ := (hB2.out.cell 100).trans h100
  clear b12 h99 h100 hK2 B1 HO
  clear c99 c100 hO2
  cases ok
  · go_wp2
    refine bodyPost_ret (results_tmp3 rfl _ _ _) rfl ?_
    exact ⟨_, _, rfl, OwnW.nil _ _, OwnW.nil _ _, fun k hk => by simp [Value.ownBlock] at hk, B2.out⟩
  · obtain ⟨hf1, hf2⟩ := HF.out rfl
    obtain ⟨p1, p2, _⟩ := hLO.out rfl
    have H1 := Lib.hid (flist_i ms.length (isP_len6 p1).1 (isP_len6 p1).2 w1.heap.size 1 EL _ _ S.k1 w2 rfl hB2.out hf1)
    have H2 := Lib.hid (fun (w' : World) (hb : Below w2.heap.size w2 w') => flist_i mq.length (isP_len6 p2).1 (isP_len6 p2).2 w1.heap.size 50 EL _ _ S.k2 w' rfl (hB2.out.below hb hB2.out.lt) hf2)
    have hs2 := B2.out.size
    clear hf1 hf2 p1 p2 hB2 HF hLO
    go_wp2_with fail
    refine H1.out.mono ?_; rintro e w3 ⟨v1, rfl, o1, b1⟩
    go_wp2_with fail
    refine (H2.out w3 b1).mono ?_; rintro e w4 ⟨v2, rfl, o2, b2⟩
    have s3 := b1.size
    have HA := Lib.hid (show ∀ k, v2.ownBlock = some k → v1.ownBlock ≠ some k from fun k hk hk1 => by
      have h1 := (o2.block k hk).1; have h2 := (o1.block k hk1).2; omega)
    have O1 := Lib.hid ((o1.below b2 (Nat.le_refl _)).mono hs2)
    have O2 := Lib.hid (o2.mono (Nat.le_trans hs2 s3))
    have B4 := Lib.hid (B2.out.trans ((b1.mono hs2).trans (b2.mono (Nat.le_trans hs2 s3))))
    clear o1 o2 b1 b2
    go_wp2
    refine bodyPost_ret (results_tmp3 rfl _ _ _) rfl ?_
    exact ⟨_, _, rfl, O1.out, O2.out, HA.out, B4.out⟩
set_option maxRecDepth 100000 in
set_option maxHeartbeats 4000000 in
theorem RunLevels_s {a a' b b' : Option Addr} {n c n' c' m d m' d' : Nat} {md : Int} {hs hq : List (List Int)} {ms mq xs : List Int} {w : World} {a2 : Option Addr} {c2 : Nat} (h : RdP w (.agg #[.slice a n c, .slice a' n' c']) hs ms) (k : RdP w (.agg #[.slice b m d, .slice b' m' d']) hq mq)
    (hx : Row w a2 xs) (hxl : xs.length ≤ 1048576) :
    Calls Try.prog 12 #[lvV a a' b b' n c n' c' m d m' d' md, .slice a2 xs.length c2] w (ResLW (lvF hs hq ms mq md xs) (lvO hs hq ms mq md xs) w) := by
  obtain ⟨x1, x2, x3, x4, e, h1, h2, h3, h4, h5⟩ := h
  obtain ⟨y1, y2, y3, y4, e', k1, k2, k3, k4, k5⟩ := k
  obtain ⟨e1, e2⟩ := agg2_inj e
  obtain ⟨e3, e4⟩ := agg2_inj e'
  injection e1 with i1 i2 i3
  injection e2 with j1 j2 j3
  injection e3 with l1 l2 l3
  injection e4 with m1 m2 m3
  subst i1 i2 i3 j1 j2 j3 l1 l2 l3 m1 m2 m3
  have b0 := (Below.refl w.heap.size w).alloc (Nat.le_refl _) (.cells #[.slice a hs.length c, .slice a' ms.length c', .slice b hq.length d, .slice b' mq.length d', .int .i64 md] 32)
  have bk1 := Blk.newAt w w.heap.size [.slice a hs.length c, .slice a' ms.length c', .slice b hq.length d, .slice b' mq.length d', .int .i64 md] 32 rfl
  obtain ⟨W0, hW0⟩ : ∃ W0, W0 = w.alloc (.cells #[.slice a hs.length c, .slice a' ms.length c', .slice b hq.length d, .slice b' mq.length d', .int .i64 md] 32) := ⟨_, rfl⟩
  have eL : W0 = w.alloc (.cells [.slice a hs.length c, .slice a' ms.length c', .slice b hq.length d, .slice b' mq.length d', .int .i64 md].toArray 32) := hW0
  rw [← hW0] at b0
  rw [← eL] at bk1
  have HS := Lib.hid (levels_s w.heap.size a a' b b' c c' d d' hs hq ms mq md W0 bk1.lt (bk1.cell 0) (bk1.cell 1) (bk1.cell 2) (bk1.cell 3) (bk1.cell 4) (h3.below b0) h5 h4 (h1.below b0) h2 (k3.below b0) k5 k4 (k1.below b0) k2)
  have HU := Lib.hid (fun q => uses_s a2 c2 xs (W0.drewN q) hxl (hx.below (below_drewN q b0)))
  have HT := Lib.hid (fun (q : Nat) (hh : lvO hs hq ms mq md xs = true) => (show Calls _ _ _ _ _ from by
    obtain ⟨p1, p2, p3, p4, p5⟩ := lvO_parts hh
    have bq := below_drewN q b0
    have kq := bk1.below (below_drewN q (Below.refl W0.heap.size W0)) bk1.lt
    exact stack_s w.heap.size a a' b b' c c' d d' hs hq ms mq xs md a2 c2 (W0.drewN q) p1 p2 p3 p4 p5 kq.lt (kq.cell 0) (kq.cell 1) (kq.cell 2) (kq.cell 3) (kq.cell 4) (h1.below bq) (h3.below bq) (k1.below bq) (k3.below bq) (hx.below bq)))
  have hOE : lvO hs hq ms mq md xs = (okL hs hq ms mq md && okU xs) := rfl
  have hz1 : w.heap.size ≤ W0.heap.size := b0.size
  have HB0 := Lib.hid b0
  unfold lvF ResLW lvV
  clear h1 h3 bk1 h5 k1 k3 k5 hx b0 eL
  rw [hOE] at HT ⊢
  clear hOE
  generalize okL hs hq ms mq md = r1 at *
  generalize okU xs = r2 at *
  generalize lvRun hs hq ms mq md xs xs.length = S at *
  cases r1
  · clear HT HU
    generalize hs.length = N at *
    generalize ms.length = M at *
    generalize hq.length = N2 at *
    generalize mq.length = M2 at *
    generalize xs.length = X at *
    go_enter Try.func12, Try.ntmps12
    go_wp2_with fail
    rw [← hW0]
    clear hW0
    refine HS.out.mono ?_; rintro e w1 ⟨rfl, q, rfl⟩
    go_wp2
    go_ret2
    exact ⟨_, rfl, OwnW.nil _ _, below_drewN q HB0.out⟩
  · cases r2
    · clear HT
      generalize hs.length = N at *
      generalize ms.length = M at *
      generalize hq.length = N2 at *
      generalize mq.length = M2 at *
      generalize xs.length = X at *
      go_enter Try.func12, Try.ntmps12
      go_wp2_with fail
      rw [← hW0]
      clear hW0
      refine HS.out.mono ?_; rintro e w1 ⟨rfl, q, rfl⟩
      go_wp2_with fail
      refine (HU.out q).mono ?_; rintro e w1 ⟨rfl, rfl⟩
      go_wp2
      go_ret2
      exact ⟨_, rfl, OwnW.nil _ _, below_drewN q HB0.out⟩
    · have HT2 := Lib.hid (fun q => HT.out q rfl)
      clear HT
      have hz2 := Lib.hid (fun q => (show w.heap.size ≤ (W0.drewN q).heap.size from (below_drewN q HB0.out).size))
      generalize hs.length = N at *
      generalize ms.length = M at *
      generalize hq.length = N2 at *
      generalize mq.length = M2 at *
      generalize xs.length = X at *
      go_enter Try.func12, Try.ntmps12
      go_wp2_with fail
      rw [← hW0]
      clear hW0
      refine HS.out.mono ?_; rintro e w1 ⟨rfl, q, rfl⟩
      go_wp2_with fail
      refine (HU.out q).mono ?_; rintro e w1 ⟨rfl, rfl⟩
      go_wp2_with fail
      refine (HT2.out q).mono ?_; rintro e w2 ⟨v1, v2, v3, rfl, hst⟩
      have HST := Lib.hid hst
      have hq2 := hz2.out q
      have HB := Lib.hid ((below_drewN q HB0.out).trans (hst.bl.mono hq2))
      clear hst
      go_wp2
      go_ret2
      exact ⟨_, rfl, (HST.out.o3.mono hq2).weak, HB.out⟩
set_option maxRecDepth 100000 in
set_option maxHeartbeats 4000000 in
theorem BackInvalidations_s {a a' b b' : Option Addr} {n c n' c' m d m' d' : Nat} {md : Int} {hs hq : List (List Int)} {ms mq xs : List Int} {w : World} {a2 : Option Addr} {c2 : Nat} (h : RdP w (.agg #[.slice a n c, .slice a' n' c']) hs ms) (k : RdP w (.agg #[.slice b m d, .slice b' m' d']) hq mq)
    (hx : Row w a2 xs) (hxl : xs.length ≤ 1048576) :
    Calls Try.prog 21 #[lvV a a' b b' n c n' c' m d m' d' md, .slice a2 xs.length c2] w (ResLN (lvN hs hq ms mq md xs) (lvO hs hq ms mq md xs) w) := by
  obtain ⟨x1, x2, x3, x4, e, h1, h2, h3, h4, h5⟩ := h
  obtain ⟨y1, y2, y3, y4, e', k1, k2, k3, k4, k5⟩ := k
  obtain ⟨e1, e2⟩ := agg2_inj e
  obtain ⟨e3, e4⟩ := agg2_inj e'
  injection e1 with i1 i2 i3
  injection e2 with j1 j2 j3
  injection e3 with l1 l2 l3
  injection e4 with m1 m2 m3
  subst i1 i2 i3 j1 j2 j3 l1 l2 l3 m1 m2 m3
  have b0 := (Below.refl w.heap.size w).alloc (Nat.le_refl _) (.cells #[.slice a hs.length c, .slice a' ms.length c', .slice b hq.length d, .slice b' mq.length d', .int .i64 md] 32)
  have bk1 := Blk.newAt w w.heap.size [.slice a hs.length c, .slice a' ms.length c', .slice b hq.length d, .slice b' mq.length d', .int .i64 md] 32 rfl
  obtain ⟨W0, hW0⟩ : ∃ W0, W0 = w.alloc (.cells #[.slice a hs.length c, .slice a' ms.length c', .slice b hq.length d, .slice b' mq.length d', .int .i64 md] 32) := ⟨_, rfl⟩
  have eL : W0 = w.alloc (.cells [.slice a hs.length c, .slice a' ms.length c', .slice b hq.length d, .slice b' mq.length d', .int .i64 md].toArray 32) := hW0
  rw [← hW0] at b0
  rw [← eL] at bk1
  have HS := Lib.hid (levels_s w.heap.size a a' b b' c c' d d' hs hq ms mq md W0 bk1.lt (bk1.cell 0) (bk1.cell 1) (bk1.cell 2) (bk1.cell 3) (bk1.cell 4) (h3.below b0) h5 h4 (h1.below b0) h2 (k3.below b0) k5 k4 (k1.below b0) k2)
  have HU := Lib.hid (fun q => uses_s a2 c2 xs (W0.drewN q) hxl (hx.below (below_drewN q b0)))
  have HT := Lib.hid (fun (q : Nat) (hh : lvO hs hq ms mq md xs = true) => (show Calls _ _ _ _ _ from by
    obtain ⟨p1, p2, p3, p4, p5⟩ := lvO_parts hh
    have bq := below_drewN q b0
    have kq := bk1.below (below_drewN q (Below.refl W0.heap.size W0)) bk1.lt
    exact stack_s w.heap.size a a' b b' c c' d d' hs hq ms mq xs md a2 c2 (W0.drewN q) p1 p2 p3 p4 p5 kq.lt (kq.cell 0) (kq.cell 1) (kq.cell 2) (kq.cell 3) (kq.cell 4) (h1.below bq) (h3.below bq) (k1.below bq) (k3.below bq) (hx.below bq)))
  have hOE : lvO hs hq ms mq md xs = (okL hs hq ms mq md && okU xs) := rfl
  have hz1 : w.heap.size ≤ W0.heap.size := b0.size
  have HB0 := Lib.hid b0
  unfold lvN ResLN lvV
  clear h1 h3 bk1 h5 k1 k3 k5 hx b0 eL
  rw [hOE] at HT ⊢
  clear hOE
  generalize okL hs hq ms mq md = r1 at *
  generalize okU xs = r2 at *
  generalize lvRun hs hq ms mq md xs xs.length = S at *
  cases r1
  · clear HT HU
    generalize hs.length = N at *
    generalize ms.length = M at *
    generalize hq.length = N2 at *
    generalize mq.length = M2 at *
    generalize xs.length = X at *
    go_enter Try.func21, Try.ntmps21
    go_wp2_with fail
    rw [← hW0]
    clear hW0
    refine HS.out.mono ?_; rintro e w1 ⟨rfl, q, rfl⟩
    go_wp2
    go_ret2
    exact ⟨rfl, below_drewN q HB0.out⟩
  · cases r2
    · clear HT
      generalize hs.length = N at *
      generalize ms.length = M at *
      generalize hq.length = N2 at *
      generalize mq.length = M2 at *
      generalize xs.length = X at *
      go_enter Try.func21, Try.ntmps21
      go_wp2_with fail
      rw [← hW0]
      clear hW0
      refine HS.out.mono ?_; rintro e w1 ⟨rfl, q, rfl⟩
      go_wp2_with fail
      refine (HU.out q).mono ?_; rintro e w1 ⟨rfl, rfl⟩
      go_wp2
      go_ret2
      exact ⟨rfl, below_drewN q HB0.out⟩
    · have HT2 := Lib.hid (fun q => HT.out q rfl)
      clear HT
      have hz2 := Lib.hid (fun q => (show w.heap.size ≤ (W0.drewN q).heap.size from (below_drewN q HB0.out).size))
      generalize hs.length = N at *
      generalize ms.length = M at *
      generalize hq.length = N2 at *
      generalize mq.length = M2 at *
      generalize xs.length = X at *
      go_enter Try.func21, Try.ntmps21
      go_wp2_with fail
      rw [← hW0]
      clear hW0
      refine HS.out.mono ?_; rintro e w1 ⟨rfl, q, rfl⟩
      go_wp2_with fail
      refine (HU.out q).mono ?_; rintro e w1 ⟨rfl, rfl⟩
      go_wp2_with fail
      refine (HT2.out q).mono ?_; rintro e w2 ⟨v1, v2, v3, rfl, hst⟩
      have HST := Lib.hid hst
      have hq2 := hz2.out q
      have HB := Lib.hid ((below_drewN q HB0.out).trans (hst.bl.mono hq2))
      clear hst
      go_wp2
      go_ret2
      exact ⟨rfl, HB.out⟩
set_option maxRecDepth 100000 in
set_option maxHeartbeats 4000000 in
theorem LevelContents_s {a a' b b' : Option Addr} {n c n' c' m d m' d' : Nat} {md : Int} {hs hq : List (List Int)} {ms mq xs : List Int} {w : World} {a2 : Option Addr} {c2 : Nat} (h : RdP w (.agg #[.slice a n c, .slice a' n' c']) hs ms) (k : RdP w (.agg #[.slice b m d, .slice b' m' d']) hq mq)
    (hx : Row w a2 xs) (hxl : xs.length ≤ 1048576) :
    Calls Try.prog 19 #[lvV a a' b b' n c n' c' m d m' d' md, .slice a2 xs.length c2] w (ResLWW (lvL1 hs hq ms mq md xs) (lvL2 hs hq ms mq md xs) (lvO hs hq ms mq md xs) w) := by
  obtain ⟨x1, x2, x3, x4, e, h1, h2, h3, h4, h5⟩ := h
  obtain ⟨y1, y2, y3, y4, e', k1, k2, k3, k4, k5⟩ := k
  obtain ⟨e1, e2⟩ := agg2_inj e
  obtain ⟨e3, e4⟩ := agg2_inj e'
  injection e1 with i1 i2 i3
  injection e2 with j1 j2 j3
  injection e3 with l1 l2 l3
  injection e4 with m1 m2 m3
  subst i1 i2 i3 j1 j2 j3 l1 l2 l3 m1 m2 m3
  have b0 := (Below.refl w.heap.size w).alloc (Nat.le_refl _) (.cells #[.slice a hs.length c, .slice a' ms.length c', .slice b hq.length d, .slice b' mq.length d', .int .i64 md] 32)
  have bk1 := Blk.newAt w w.heap.size [.slice a hs.length c, .slice a' ms.length c', .slice b hq.length d, .slice b' mq.length d', .int .i64 md] 32 rfl
  obtain ⟨W0, hW0⟩ : ∃ W0, W0 = w.alloc (.cells #[.slice a hs.length c, .slice a' ms.length c', .slice b hq.length d, .slice b' mq.length d', .int .i64 md] 32) := ⟨_, rfl⟩
  have eL : W0 = w.alloc (.cells [.slice a hs.length c, .slice a' ms.length c', .slice b hq.length d, .slice b' mq.length d', .int .i64 md].toArray 32) := hW0
  rw [← hW0] at b0
  rw [← eL] at bk1
  have HS := Lib.hid (levels_s w.heap.size a a' b b' c c' d d' hs hq ms mq md W0 bk1.lt (bk1.cell 0) (bk1.cell 1) (bk1.cell 2) (bk1.cell 3) (bk1.cell 4) (h3.below b0) h5 h4 (h1.below b0) h2 (k3.below b0) k5 k4 (k1.below b0) k2)
  have HU := Lib.hid (fun q => uses_s a2 c2 xs (W0.drewN q) hxl (hx.below (below_drewN q b0)))
  have HT := Lib.hid (fun (q : Nat) (hh : lvO hs hq ms mq md xs = true) => (show Calls _ _ _ _ _ from by
    obtain ⟨p1, p2, p3, p4, p5⟩ := lvO_parts hh
    have bq := below_drewN q b0
    have kq := bk1.below (below_drewN q (Below.refl W0.heap.size W0)) bk1.lt
    exact stack_s w.heap.size a a' b b' c c' d d' hs hq ms mq xs md a2 c2 (W0.drewN q) p1 p2 p3 p4 p5 kq.lt (kq.cell 0) (kq.cell 1) (kq.cell 2) (kq.cell 3) (kq.cell 4) (h1.below bq) (h3.below bq) (k1.below bq) (k3.below bq) (hx.below bq)))
  have hOE : lvO hs hq ms mq md xs = (okL hs hq ms mq md && okU xs) := rfl
  have hz1 : w.heap.size ≤ W0.heap.size := b0.size
  have HB0 := Lib.hid b0
  unfold lvL1 lvL2 ResLWW lvV
  clear h1 h3 bk1 h5 k1 k3 k5 hx b0 eL
  rw [hOE] at HT ⊢
  clear hOE
  generalize okL hs hq ms mq md = r1 at *
  generalize okU xs = r2 at *
  generalize lvRun hs hq ms mq md xs xs.length = S at *
  cases r1
  · clear HT HU
    generalize hs.length = N at *
    generalize ms.length = M at *
    generalize hq.length = N2 at *
    generalize mq.length = M2 at *
    generalize xs.length = X at *
    go_enter Try.func19, Try.ntmps19
    go_wp2_with fail
    rw [← hW0]
    clear hW0
    refine HS.out.mono ?_; rintro e w1 ⟨rfl, q, rfl⟩
    go_wp2
    refine bodyPost_ret (results_tmp3 rfl _ _ _) rfl ?_
    exact ⟨_, _, rfl, OwnW.nil _ _, OwnW.nil _ _, fun k hk => by simp [Value.ownBlock] at hk, below_drewN q HB0.out⟩
  · cases r2
    · clear HT
      generalize hs.length = N at *
      generalize ms.length = M at *
      generalize hq.length = N2 at *
      generalize mq.length = M2 at *
      generalize xs.length = X at *
      go_enter Try.func19, Try.ntmps19
      go_wp2_with fail
      rw [← hW0]
      clear hW0
      refine HS.out.mono ?_; rintro e w1 ⟨rfl, q, rfl⟩
      go_wp2_with fail
      refine (HU.out q).mono ?_; rintro e w1 ⟨rfl, rfl⟩
      go_wp2
      refine bodyPost_ret (results_tmp3 rfl _ _ _) rfl ?_
      exact ⟨_, _, rfl, OwnW.nil _ _, OwnW.nil _ _, fun k hk => by simp [Value.ownBlock] at hk, below_drewN q HB0.out⟩
    · have HT2 := Lib.hid (fun q => HT.out q rfl)
      clear HT
      have hz2 := Lib.hid (fun q => (show w.heap.size ≤ (W0.drewN q).heap.size from (below_drewN q HB0.out).size))
      generalize hs.length = N at *
      generalize ms.length = M at *
      generalize hq.length = N2 at *
      generalize mq.length = M2 at *
      generalize xs.length = X at *
      go_enter Try.func19, Try.ntmps19
      go_wp2_with fail
      rw [← hW0]
      clear hW0
      refine HS.out.mono ?_; rintro e w1 ⟨rfl, q, rfl⟩
      go_wp2_with fail
      refine (HU.out q).mono ?_; rintro e w1 ⟨rfl, rfl⟩
      go_wp2_with fail
      refine (HT2.out q).mono ?_; rintro e w2 ⟨v1, v2, v3, rfl, hst⟩
      have HST := Lib.hid hst
      have hq2 := hz2.out q
      have HB := Lib.hid ((below_drewN q HB0.out).trans (hst.bl.mono hq2))
      clear hst
      go_wp2
      refine bodyPost_ret (results_tmp3 rfl _ _ _) rfl ?_
      exact ⟨_, _, rfl, (HST.out.o1.mono hq2).weak, (HST.out.o2.mono hq2).weak, HST.out.a12, HB.out⟩
end Go.Proofs.Ytimfekedpgllhaa.Pv
namespace Go.Proofs.Ytimfekedpgllhaa.Pv
open Go.RowKit
def mkHK (K0 : Nat) (hs : List (List Int)) : List (List Int) := mk2 K0 (hs.map List.length)
def mkNK (K0 : Nat) (hs : List (List Int)) : Nat := K0 + (hs.map List.length).sum
theorem mkHK_length (K0 : Nat) (hs : List (List Int)) : (mkHK K0 hs).length = hs.length := by unfold mkHK; rw [mk2_length, List.length_map]
def MarkedPK (B T : Nat) (v : Value) (hs : List (List Int)) (ms : List Int) (K0 : Nat) (K : Nat) (w : World) (e : Ending) (w' : World) : Prop :=
  e = .returned (.int .i64 ((K : Nat) + (ms.length : Int))) ∧ OwnP w' B T v (mkHK K0 hs) (marks K ms.length) ∧ Wr B T w w'
theorem markPK_own (K0 : Nat) (hK0 : K0 ≤ 4000000) {w : World} {B T : Nat} {v : Value} {hs : List (List Int)} {ms : List Int} (o : OwnP w B T v hs ms) (hs1 : (hs.map List.length).sum ≤ 1048576) (hs2 : ms.length ≤ 1048576) (hB : B ≤ w.heap.size) :
    Calls Try.prog 31 #[v, .int .i64 (K0 : Int)] w (MarkedPK B T v hs ms K0 (mkNK K0 hs) w) := by
  obtain ⟨h, m, vs, rfl, p, q, ha, hm, hh, hv⟩ := o
  have p0 := Own2W.below p ((Below.refl w.heap.size w).alloc (Nat.le_refl _) (.cells #[h, m] 30)) (Nat.le_refl _)
  have q0 := q.below ((Below.refl w.heap.size w).alloc (Nat.le_refl _) (.cells #[h, m] 30)) (Nat.le_refl _)
  have W0 := Wr.alloc B T w (.cells #[h, m] 30)
  have hsz : (w.alloc (.cells #[h, m] 30)).heap.size = w.heap.size + 1 := Array.size_push _
  have HH := Lib.hid (mark2_ownW K0 p0 (by omega) (by omega))
  have hcell : ∀ w', Below (w.heap.size + 1) (w.alloc (.cells #[h, m] 30)) w' → w'.cell? ⟨w.heap.size, 1, none⟩ = some m := fun w' hb => by
    rw [hb.cell (p := ⟨w.heap.size, 1, none⟩) (by simp)]; simp [go_sem]
  have HF := Lib.hid (fun (w1 : World) (hf : Frm vs (hs.map List.length).length (w.alloc (.cells #[h, m] 30)) w1) => (show w1.cell? ⟨w.heap.size, 1, none⟩ = some m ∧ OwnW w1 B m ms by
    rw [List.length_map] at hf
    refine ⟨?_, q0.same fun b hb hlt => hf b hlt fun i hi => (ha b hb).2 i hi⟩
    have h1 := World.cell?_of_block (a := ⟨w.heap.size, 1, none⟩) (hf w.heap.size (by omega) fun i hi e => by have := (p.2.2.1 i hi).block _ e; omega)
    rw [h1]; simp [go_sem]))
  have HR := Lib.hid (fun (w1 : World) (B1 : Below B (w.alloc (.cells #[h, m] 30)) w1) (hf : Frm vs (hs.map List.length).length (w.alloc (.cells #[h, m] 30)) w1) => (show Wr B T w w1 from by
    rw [List.length_map] at hf
    refine W0.trans ⟨B1.os, B1.tape, B1.output, B1.size, fun b hb hr => hf b hb fun i hi e => ?_⟩
    have h1 := (p.2.2.1 i hi).block _ e
    have h2 := hv i b hi e
    omega))
  have HQ := Lib.hid (fun (w1 w2 : World) (o : Own2W w1 B h vs (mkHK K0 hs)) (g : w1.grownBy w2 m.ownBlock) => (show Own2W w2 B h vs (mkHK K0 hs) from by
    obtain ⟨g1, g2, g3, g4, g5⟩ := o
    have hne : ∀ k, m.ownBlock = some k → h.ownBlock ≠ some k := fun k hk => (ha k hk).1
    refine ⟨g1, World.ownsRow.kept g2 g ?_, fun i hi => (g3 i hi).kept g (fun k hk e => ?_), g4, g5⟩
    · cases hv : h.ownBlock with
      | none => exact .inl rfl
      | some k => exact .inr (fun e => hne k e.symm hv)
    · rw [mkHK_length] at hi
      exact (ha k e.symm).2 i hi hk))
  have HW := Lib.hid (fun (w1 w2 : World) (h1 : Wr B T w w1) (o : OwnW w1 B m ms) (g : w1.grownBy w2 m.ownBlock) => (show Wr B T w w2 from
    h1.trans ⟨g.os, g.tape, g.output, g.size, fun b hb hr => g.block b hb fun e => by
      have h1 := (o.block b e.symm).1
      have h2 := hm b e.symm
      omega⟩))
  have hk2 : ((mkNK K0 hs : Nat) : Int) ≤ 6000000 := by unfold mkNK; omega
  have HMK := Lib.hid (fun (w1 : World) (o : OwnW w1 B m ms) => mark_ownW (mkNK K0 hs) o (by omega))
  have HEND := Lib.hid (fun (w2 : World) (o1 : Own2W w2 B h vs (mkHK K0 hs)) (o2 : OwnW w2 B m (marks (mkNK K0 hs) ms.length)) => (show OwnP w2 B T (.agg #[h, m]) (mkHK K0 hs) (marks (mkNK K0 hs) ms.length) from
    ⟨h, m, vs, rfl, o1, o2, fun b hb => ⟨(ha b hb).1, fun i hi => (ha b hb).2 i (by rwa [mkHK_length] at hi)⟩, hm, hh, fun i k hi hk => hv i k (by rwa [mkHK_length] at hi) hk⟩))
  have HH2 : Hid (Calls Try.prog 50 #[h, .int .i64 (K0 : Int)] (w.alloc (.cells #[h, m] 30)) fun e w1 => e = .returned (.int .i64 ((mkNK K0 hs : Nat) : Int)) ∧ Own2W w1 B h vs (mkHK K0 hs) ∧ Below B (w.alloc (.cells #[h, m] 30)) w1 ∧ Frm vs (hs.map List.length).length (w.alloc (.cells #[h, m] 30)) w1) :=
    HH.out.mono fun e w1 ⟨h1, h2, h3, h4, h5⟩ => ⟨h1, h2, h3, h5⟩
  clear HH p q p0 q0 ha hm hh hv hcell W0 hs1
  generalize mkNK K0 hs = K at *
  go_enter Try.func31, Try.ntmps31
  go_wp2_with fail
  refine HH2.out.mono ?_; rintro e w1 ⟨rfl, o1, b1, f1⟩
  obtain ⟨hc, om⟩ := HF.out w1 f1
  have W1 := HR.out w1 b1 f1
  clear b1 f1
  go_wp2_with fail
  refine (HMK.out w1 om).mono ?_; rintro e w2 ⟨rfl, o2, g2⟩
  have E2 := HEND.out w2 (HQ.out w1 w2 o1 g2) o2
  have W2 := HW.out w1 w2 W1 om g2
  go_wp2
  go_ret
  exact ⟨rfl, E2, W2⟩
theorem wr_widen {B T B' T' : Nat} {w w' : World} (h : Wr B T w w') (hB : B' ≤ B) (hT : T ≤ T') : Wr B' T' w w' :=
  ⟨h.os, h.tape, h.output, h.size, fun b hb hr => h.block b hb (by omega)⟩
theorem markL_own {w : World} {B T1 T2 : Nat} {a a' b b' : Option Addr} {n c n' c' m d m' d' : Nat} {md : Int} {hs hq : List (List Int)} {ms mq : List Int} (o1 : OwnP w B T1 (.agg #[.slice a n c, .slice a' n' c']) hs ms) (o2 : OwnP w T1 T2 (.agg #[.slice b m d, .slice b' m' d']) hq mq)
    (s1 : (hs.map List.length).sum ≤ 1048576) (s2 : ms.length ≤ 1048576) (s3 : (hq.map List.length).sum ≤ 1048576) (s4 : mq.length ≤ 1048576) (hB : B ≤ T1 ∧ T1 ≤ T2 ∧ T2 ≤ w.heap.size) :
    Calls Try.prog 16 #[lvV a a' b b' n c n' c' m d m' d' md, .int .i64 1] w fun e w2 => ∃ k : Int, e = .returned (.int .i64 k) ∧ (0 ≤ k ∧ k ≤ 100000000) ∧ Wr B T2 w w2 := by
  have b0 := (Below.refl w.heap.size w).alloc (Nat.le_refl _) (.cells #[.slice a n c, .slice a' n' c', .slice b m d, .slice b' m' d', .int .i64 md] 32)
  have W0 := Wr.alloc B T2 w (.cells #[.slice a n c, .slice a' n' c', .slice b m d, .slice b' m' d', .int .i64 md] 32)
  have BZ := Blk.newAt w w.heap.size [.slice a n c, .slice a' n' c', .slice b m d, .slice b' m' d', .int .i64 md] 32 rfl
  have hsz : (w.alloc (.cells #[.slice a n c, .slice a' n' c', .slice b m d, .slice b' m' d', .int .i64 md] 32)).heap.size = w.heap.size + 1 := Array.size_push _
  have H1 := Lib.hid (markPK_own 1 (by decide) (o1.below b0 (Nat.le_refl _)) s1 s2 (by omega))
  have q2 := o2.below b0 (Nat.le_refl _)
  have eL : (w.alloc (.cells #[.slice a n c, .slice a' n' c', .slice b m d, .slice b' m' d', .int .i64 md] 32)) = w.alloc (.cells [.slice a n c, .slice a' n' c', .slice b m d, .slice b' m' d', .int .i64 md].toArray 32) := rfl
  have hk1 : mkNK 1 hs + ms.length ≤ 3000000 := by unfold mkNK; omega
  have H2 := Lib.hid (fun (w1 : World) (W1 : Wr B T1 (w.alloc (.cells #[.slice a n c, .slice a' n' c', .slice b m d, .slice b' m' d', .int .i64 md] 32)) w1) => markPK_own (mkNK 1 hs + ms.length) (by omega) (q2.wr W1 (.inr (Nat.le_refl _))) s3 s4 (by have := W1.size; omega))
  have HC := Lib.hid (fun (w1 : World) (W1 : Wr B T1 (w.alloc (.cells #[.slice a n c, .slice a' n' c', .slice b m d, .slice b' m' d', .int .i64 md] 32)) w1) => (show w1.cell? ⟨w.heap.size, 2, none⟩ = some (.slice b m d) ∧ w1.cell? ⟨w.heap.size, 3, none⟩ = some (.slice b' m' d') from by
    have h1 := W1.block w.heap.size (by omega) (.inr (by omega))
    exact ⟨(World.cell?_of_block (a := ⟨w.heap.size, 2, none⟩) h1).trans (BZ.cell 2), (World.cell?_of_block (a := ⟨w.heap.size, 3, none⟩) h1).trans (BZ.cell 3)⟩))
  have hk2 : mkNK (mkNK 1 hs + ms.length) hq + mq.length ≤ 6000000 := by
    have : mkNK (mkNK 1 hs + ms.length) hq = mkNK 1 hs + ms.length + (hq.map List.length).sum := rfl
    omega
  have e1 : (((mkNK 1 hs : Nat) : Int) + (ms.length : Int)) = ((mkNK 1 hs + ms.length : Nat) : Int) := by omega
  unfold MarkedPK at H1 H2
  rw [e1] at H1
  unfold lvV
  clear o1 o2 q2 b0 s1 s2 s3 s4 BZ eL e1
  generalize mkNK (mkNK 1 hs + ms.length) hq = K2 at *
  generalize mkNK 1 hs + ms.length = K1 at *
  go_enter Try.func16, Try.ntmps16
  go_wp2_with fail
  refine H1.out.mono ?_; rintro e w1 ⟨rfl, _, W1⟩
  obtain ⟨c2, c3⟩ := HC.out w1 W1
  go_wp2_with fail
  refine (H2.out w1 W1).mono ?_; rintro e w2 ⟨rfl, _, W2⟩
  have WW := Lib.hid (W0.trans ((wr_widen W1 (Nat.le_refl _) hB.2.1).trans (wr_widen W2 hB.1 (Nat.le_refl _))))
  clear W0 W1 W2
  go_wp2
  go_ret
  exact ⟨_, rfl, by omega, WW.out⟩
end Go.Proofs.Ytimfekedpgllhaa.Pv
