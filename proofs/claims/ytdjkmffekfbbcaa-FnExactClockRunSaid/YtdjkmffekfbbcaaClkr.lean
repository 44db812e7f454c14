/- The model's ClockRun. -/
import Derived.Test.YtdjkmffekfbbcaaClks
import Derived.Deep.QuietTactic
namespace Go.Proofs.Ytdjkmffekfbbcaa.Ck
open Go.RowKit
theorem infoB : (Try.prog.info? 4).map (fun i => (i.zero, i.size, i.bytes)) = some (some (.bool false), 1, 1) := by kernel_rfl
theorem madeB (n : Nat) : (madeCells #[Value.bool false] n).toList = (List.replicate n false).map Value.bool := by
  rw [toList_madeCells_one, List.map_replicate]
theorem neB (s : List Int) (x : Int) : ∀ k, k < s.idxOf x → s.getD k 0 ≠ x := by
  induction s with
  | nil => intro k h; simp at h
  | cons y s ih =>
    intro k h
    rw [List.idxOf_cons] at h
    by_cases e : y = x
    · have : (y == x) = true := by simpa using e
      rw [this] at h; simp at h
    · have : (y == x) = false := by simpa using e
      rw [this] at h
      cases k with
      | zero => simpa using e
      | succ k => have := ih k (by simpa using h); simpa using this
theorem atI (s : List Int) (x : Int) (h : s.idxOf x < s.length) : s.getD (s.idxOf x) 0 = x := by
  rw [List.getD_eq_getElem?_getD, List.getElem?_eq_getElem h]; exact List.getElem_idxOf h
theorem Cs.other {n B : Nat} {x : Nat → Value} {S : CkS} {w0 w : World} (h : Cs n B x S w0 w) (m b : Nat) : Cs n B x ⟨S.p, m, S.fl, b⟩ w0 w :=
  ⟨fun j hj => by
    have h1 := h.own j hj
    rcases below4 hj with rfl | rfl | rfl | rfl <;> exact h1, h.sep, h.bl, h.sz⟩
theorem set_two (p : List Pf) (h : Nat) (hh : h < p.length) (x : Int) (hm : mkd p h = false) : (p.set h (x, mkd p h, wrt p h)).set h (pgA (p.set h (x, mkd p h, wrt p h)) h, mkd (p.set h (x, mkd p h, wrt p h)) h, false) = p.set h (x, false, false) := by
  obtain ⟨q1, q2, q3⟩ := pgA_set p h hh (x, mkd p h, wrt p h)
  rw [q1, q2, List.set_set, hm]
theorem fi_le (p : List Pf) (x : Int) : fi p x ≤ p.length := by
  have h := List.idxOf_le_length (a := x) (l := p.map Prod.fst)
  rw [List.length_map] at h
  exact h
theorem fi_ne (p : List Pf) (x : Int) (k : Nat) (h : k < fi p x) : pgA p k ≠ x := by
  have hk : k < p.length := Nat.lt_of_lt_of_le h (fi_le p x)
  have h1 := neB (pgs p) x k h
  rw [pgs_get p k hk] at h1
  exact h1
theorem fi_atL (p : List Pf) (x : Int) (h : fi p x < p.length) : pgA p (fi p x) = x := by
  rw [← pgs_get p _ h]
  exact atI (pgs p) x (by rw [show (pgs p).length = p.length from List.length_map _]; exact h)
theorem ownB_mono {w : World} {B B' : Nat} {v : Value} {ds : List Bool} (h : OwnB w B v ds) (hB : B' ≤ B) : OwnB w B' v ds := by
  refine ⟨h.1, ?_⟩
  rcases h.2 with hn | ⟨g, cap, cur, hv, hg, r⟩
  · exact .inl hn
  · exact .inr ⟨g, cap, cur, hv, Nat.le_trans hB hg, r⟩
theorem mks_nil (n : Nat) : mks n [] = List.replicate n false := by
  refine List.ext_getElem (by rw [mks_len, List.length_replicate]) fun j h1 h2 => ?_
  simp [mks, mkd, f0]
theorem wts_nil (n : Nat) : wts n [] = List.replicate n false := by
  refine List.ext_getElem (by rw [wts_len, List.length_replicate]) fun j h1 h2 => ?_
  simp [wts, wrt, f0]

set_option maxRecDepth 100000 in
set_option maxHeartbeats 8000000 in
theorem run_yes_s (n : Nat) (hn1 : 1 ≤ n) (hn : n ≤ 16) (a : Option Addr) (c : Nat) (xs : List (Int × Int)) (w : World) (hok : Ac.okT xs = true) (hr : Ac.RowA w a xs) :
    Calls Try.prog 8 #[.int .i64 (n : Int), .slice a xs.length c] w (ResLI (ckR n xs xs.length).fl (ckR n xs xs.length).b true w) := by
  have hl := Ac.okT_len hok
  have HB := Lib.hid (Tr.in_yes (n : Int) 1 16 w (by omega) (by omega))
  have HV := Lib.hid (Ac.is_s a c xs w (by omega) hr)
  rw [hok] at HV
  have HR := Lib.hid (fun (j : Nat) (hj : j < xs.length) => (show ∃ b off, a = some ⟨b, off, none⟩ ∧ b < w.heap.size ∧ ∀ w', Below w.heap.size w w' → w'.cell? ⟨b, off + j * 2, none⟩ = some (.int .i64 (xs.getD j (0, 0)).1) ∧ w'.cell? ⟨b, off + j * 2 + 1, none⟩ = some (.int .i64 (xs.getD j (0, 0)).2) from by
    obtain ⟨b, off, ha, h1, h2, hb⟩ := hr j hj
    exact ⟨b, off, ha, hb, fun w' hw => ⟨(hw.cell (p := ⟨b, off + j * 2, none⟩) hb).trans h1, (hw.cell (p := ⟨b, off + j * 2 + 1, none⟩) hb).trans h2⟩⟩))
  have HK := Lib.hid (fun j hj => okT_kind hok j hj)
  have HW := Lib.hid (ckR_wf n hn1 xs)
  have HFL := Lib.hid (ckR_fl n xs)
  have HBK := Lib.hid (ckR_b n xs)
  have HS := Lib.hid (fun j => (show ckR n xs (j + 1) = ckStep n (ckR n xs j) (decide ((xs.getD j (0, 0)).1 = 1)) (xs.getD j (0, 0)).2 from rfl))
  have H0 := Lib.hid (fun (W : World) (x : Nat → Value) (h0 : Own W w.heap.size (x 0) []) (h1 : OwnB W w.heap.size (x 1) (List.replicate n false)) (h2 : OwnB W w.heap.size (x 2) (List.replicate n false)) (h3 : Own W w.heap.size (x 3) []) (hsep : ∀ i j, i < 4 → j < 4 → i ≠ j → ∀ k, (x i).ownBlock = some k → (x j).ownBlock ≠ some k) (hb : Below w.heap.size w W) => (show Cs n w.heap.size x (ckR n xs 0) w W from
    ⟨fun j hj => by
      rcases below4 hj with rfl | rfl | rfl | rfl
      · exact h0
      · show OwnB _ _ _ (mks n []); rw [mks_nil]; exact h1
      · show OwnB _ _ _ (wts n []); rw [wts_nil]; exact h2
      · exact h3, hsep, hb, hb.size⟩))
  clear hr hok
  generalize hN : xs.length = N at *
  clear hN
  obtain ⟨i0, hi0, hz0, hz1, hz2⟩ := info_parts infoB
  have hu52 : Try.prog.underlying 52 = some (TypeDesc.slice 4) := by kernel_rfl
  have b0 : Below w.heap.size w (w.alloc (.cells #[] 2)) := (Below.refl _ _).alloc (Nat.le_refl _) _
  have o0 := Own.lit0 w
  have s0 : (w.alloc (.cells #[] 2)).heap.size = w.heap.size + 1 := Array.size_push _
  obtain ⟨W0, hW0⟩ : ∃ W0, W0 = w.alloc (.cells #[] 2) := ⟨_, rfl⟩
  rw [← hW0] at b0 o0 s0
  have HW0 := Lib.hid hW0
  have HS0 := Lib.hid s0
  clear hW0 s0
  go_enter Try.func8, Try.ntmps8
  go_wp2_with (first | (go_at_call 29; (with_reducible refine HB.out.mono ?_); rintro e w' ⟨rfl, rfl⟩) | (go_at_call 30; (with_reducible refine HV.out.mono ?_); rintro e w' ⟨rfl, rfl⟩) | (at_make; rw [← HW0.out]; refine wpList_make_full _ rfl _ _ 52 rfl W0.heap.size 4 i0 (.bool false) 1 hu52 hi0 hz0 hz1 .i64 .i64 (n : Int) (n : Int) n ?_ ?_ rfl rfl ?_ ?_ ?_ ?_; rfl; rfl))
  · rw [hz2]; omega
  · unfold maxLen; omega
  · exact Nat.le_refl _
  intro w1 hown1 hgr1
  have o1 : OwnB w1 W0.heap.size (.slice (some ⟨W0.heap.size, 0, none⟩) n n) (List.replicate n false) := by
    have h3 : w1.ownsRow W0.heap.size 4 1 (.slice (some ⟨W0.heap.size, 0, none⟩) n n) n (madeCells #[Value.bool false] n).toList := by first | exact hown1 | simpa using hown1
    rw [madeB] at h3
    show World.ownsRow _ _ _ _ _ (List.replicate n false).length _
    rw [List.length_replicate]; exact h3
  have b1 : Below W0.heap.size W0 w1 := (Below.refl _ W0).grown hgr1 (Nat.le_refl _) (by simp)
  clear hown1 hgr1
  go_wp2_with (at_make; refine wpList_make_full _ rfl _ _ 52 rfl w1.heap.size 4 i0 (.bool false) 1 hu52 hi0 hz0 hz1 .i64 .i64 (n : Int) (n : Int) n ?_ ?_ rfl rfl ?_ ?_ ?_ ?_; rfl; rfl)
  · rw [hz2]; omega
  · unfold maxLen; omega
  · exact Nat.le_refl _
  intro w2 hown2 hgr2
  have o2 : OwnB w2 w1.heap.size (.slice (some ⟨w1.heap.size, 0, none⟩) n n) (List.replicate n false) := by
    have h3 : w2.ownsRow w1.heap.size 4 1 (.slice (some ⟨w1.heap.size, 0, none⟩) n n) n (madeCells #[Value.bool false] n).toList := by first | exact hown2 | simpa using hown2
    rw [madeB] at h3
    show World.ownsRow _ _ _ _ _ (List.replicate n false).length _
    rw [List.length_replicate]; exact h3
  have b2 : Below w1.heap.size w1 w2 := (Below.refl _ w1).grown hgr2 (Nat.le_refl _) (by simp)
  clear hown2 hgr2
  have b3 : Below w2.heap.size w2 (w2.alloc (.cells #[] 2)) := (Below.refl _ _).alloc (Nat.le_refl _) _
  have o3 := Own.lit0 w2
  have s0 := HS0.out
  have s1 := (ownB_block o1 _ rfl).2
  have s2 := (ownB_block o2 _ rfl).2
  have s3 := b1.size
  have s4 := b2.size
  obtain ⟨x, hx⟩ : ∃ x : Nat → Value, x = fun i => match i with | 0 => .slice (some ⟨w.heap.size, 0, none⟩) 0 0 | 1 => .slice (some ⟨W0.heap.size, 0, none⟩) n n | 2 => .slice (some ⟨w1.heap.size, 0, none⟩) n n | _ => .slice (some ⟨w2.heap.size, 0, none⟩) 0 0 := ⟨_, rfl⟩
  have HI0 := Lib.hid (H0.out (w2.alloc (.cells #[] 2)) x (by rw [hx]; exact (((o0.below b1 (Nat.le_refl _)).below b2 (Nat.le_refl _)).below b3 (Nat.le_refl _)))
    (by rw [hx]; exact ownB_mono (ownB_same (ownB_same o1 fun k hk => b2.block k (ownB_block o1 k hk).2) fun k hk => b3.block k (Nat.lt_of_lt_of_le (ownB_block o1 k hk).2 b2.size)) (by omega))
    (by rw [hx]; exact ownB_mono (ownB_same o2 fun k hk => b3.block k (ownB_block o2 k hk).2) (by omega))
    (by rw [hx]; exact o3.mono (by omega))
    (fun i j hi hj hne k h1 h2 => by
      have y0 : x 0 = .slice (some ⟨w.heap.size, 0, none⟩) 0 0 := congrFun hx 0
      have y1 : x 1 = .slice (some ⟨W0.heap.size, 0, none⟩) n n := congrFun hx 1
      have y2 : x 2 = .slice (some ⟨w1.heap.size, 0, none⟩) n n := congrFun hx 2
      have y3 : x 3 = .slice (some ⟨w2.heap.size, 0, none⟩) 0 0 := congrFun hx 3
      have z0 : ∀ k, (x 0).ownBlock = some k → w.heap.size = k := fun k h => by rw [y0] at h; injection h
      have z1 : ∀ k, (x 1).ownBlock = some k → W0.heap.size = k := fun k h => by rw [y1] at h; injection h
      have z2 : ∀ k, (x 2).ownBlock = some k → w1.heap.size = k := fun k h => by rw [y2] at h; injection h
      have z3 : ∀ k, (x 3).ownBlock = some k → w2.heap.size = k := fun k h => by rw [y3] at h; injection h
      clear hx y0 y1 y2 y3
      have l1 : w.heap.size < W0.heap.size := by omega
      have l2 : W0.heap.size < w1.heap.size := s1
      have l3 : w1.heap.size < w2.heap.size := s2
      clear s0 s1 s2 s3 s4
      rcases below4 hi with rfl | rfl | rfl | rfl <;> rcases below4 hj with rfl | rfl | rfl | rfl <;> (try exact absurd rfl hne) <;> (try have a0 := z0 k h1) <;> (try have a1 := z1 k h1) <;> (try have a2 := z2 k h1) <;> (try have a3 := z3 k h1) <;> (try have b0 := z0 k h2) <;> (try have b1 := z1 k h2) <;> (try have b2 := z2 k h2) <;> (try have b3 := z3 k h2) <;> omega)
    (b0.trans ((b1.trans ((b2.trans (b3.mono b2.size)).mono b1.size)).mono b0.size)))
  have HX0 := Lib.hid (show x 0 = .slice (some ⟨w.heap.size, 0, none⟩) 0 0 ∧ x 1 = .slice (some ⟨W0.heap.size, 0, none⟩) n n ∧ x 2 = .slice (some ⟨w1.heap.size, 0, none⟩) n n ∧ x 3 = .slice (some ⟨w2.heap.size, 0, none⟩) 0 0 from ⟨congrFun hx 0, congrFun hx 1, congrFun hx 2, congrFun hx 3⟩)
  clear hx o0 o1 o2 o3 b0 b1 b2 b3 H0 HB HV HW0 HS0 hu52 hi0 hz0 hz1 hz2 s0 s1 s2 s3 s4
  go_wp2
  go_loopw [7, 10, 11, 12, 13, 14, 15] (fun v7 vh v11 vb vi _ _ wr => ∃ (j : Nat) (x' : Nat → Value), j ≤ N ∧ vi = .int .i64 (j : Int) ∧ v7 = x' 0 ∧ x' 1 = .slice (some ⟨W0.heap.size, 0, none⟩) n n ∧ x' 2 = .slice (some ⟨w1.heap.size, 0, none⟩) n n ∧ v11 = x' 3 ∧ vh = .int .i64 ((ckR n xs j).h : Int) ∧ vb = .int .i64 ((ckR n xs j).b : Int) ∧ Hid (Cs n w.heap.size x' (ckR n xs j) w wr)) (fun _ _ _ _ vi _ _ _ => N - (intOf vi).toNat)
  case atStart =>
    obtain ⟨y0, y1, y2, y3⟩ := HX0.out
    exact ⟨0, x, Nat.zero_le _, rfl, y0.symm, y1, y2, y3.symm, rfl, rfl, HI0⟩
  case round =>
    obtain ⟨j, x', hj, rfl, rfl, e1, e2, rfl, rfl, rfl, hI⟩ := hrel
    have E1 := Lib.hid e1
    have E2 := Lib.hid e2
    have HG := Lib.hid (show (¬ W0.heap.size = w1.heap.size ∧ ¬ w1.heap.size = W0.heap.size) ∧ w.heap.size ≤ W0.heap.size ∧ w.heap.size ≤ w1.heap.size from by
      refine ⟨?_, ((hI.out.own 1 (by decide)).lt _ (by rw [e1]; rfl)).1, ((hI.out.own 2 (by decide)).lt _ (by rw [e2]; rfl)).1⟩
      have h1 := hI.out.sep 1 2 (by decide) (by decide) (by decide) W0.heap.size (by rw [e1]; rfl)
      rw [e2] at h1
      exact ⟨fun e => h1 (by rw [e]; rfl), fun e => h1 (by rw [← e]; rfl)⟩)
    clear e1 e2
    generalize W0.heap.size = g1 at *
    generalize w1.heap.size = g2 at *
    clear HI0 HX0
    by_cases hlt : j < N
    · obtain ⟨b, off, rfl, hbs, hcell⟩ := HR.out j hlt
      obtain ⟨k0, k1⟩ := hcell wr hI.out.bl
      have hk := HK.out j hlt
      have HSJ := Lib.hid (HS.out j)
      have hW := HW.out j
      have hfl := HFL.out j
      have hbk := HBK.out j
      have hp := hW.p
      have hh := hW.h
      obtain ⟨a0, c0, e0⟩ := Own.form (show Own wr w.heap.size (x' 0) (pgs (ckR n xs j).p) from hI.out.own 0 (by decide))
      rw [show (pgs (ckR n xs j).p).length = (ckR n xs j).p.length from List.length_map _] at e0
      obtain ⟨a3, c3, e3⟩ := Own.form (show Own wr w.heap.size (x' 3) (ckR n xs j).fl from hI.out.own 3 (by decide))
      rw [hfl] at e3
      rw [e0, e3]
      have HE0 := Lib.hid e0
      have HE3 := Lib.hid e3
      have HCL := Lib.hid hcell
      clear hcell e0 e3 hW
      generalize (xs.getD j (0, 0)).1 = kd at *
      generalize (xs.getD j (0, 0)).2 = ad at *
      have hbk16 : (ckR n xs j).b ≤ 64 := by omega
      have hNE := Lib.hid (fi_ne (ckR n xs j).p ad)
      have hAT := Lib.hid (fi_atL (ckR n xs j).p ad)
      have hle := fi_le (ckR n xs j).p ad
      have HSJa := Lib.hid (fun (h : ¬ fi (ckR n xs j).p ad < (ckR n xs j).p.length) (h2 : (ckR n xs j).p.length < n) => HSJ.out.trans ((if_neg h).trans (if_pos h2)))
      have HSJv := Lib.hid (fun (h : ¬ fi (ckR n xs j).p ad < (ckR n xs j).p.length) (h2 : ¬ (ckR n xs j).p.length < n) => HSJ.out.trans ((if_neg h).trans (if_neg h2)))
      have HSJf := Lib.hid (fun (h : fi (ckR n xs j).p ad < (ckR n xs j).p.length) => HSJ.out.trans (if_pos h))
      generalize hS : ckR n xs j = S at *
      have HSS := Lib.hid hS
      clear hS
      generalize hF : fi S.p ad = f at *
      have HFF := Lib.hid hF
      clear hF
      generalize hL : S.p.length = L at *
      have HLL := Lib.hid hL
      clear hL
      go_wp2
      go_loopw [14] (fun p wr2 => ∃ k q : Nat, k ≤ f ∧ p = .int .i64 k ∧ wr2 = wr.drewN q) (fun p _ => f - (intOf p).toNat)
      case atStart => exact ⟨0, 0, Nat.zero_le _, rfl, rfl⟩
      case round =>
        obtain ⟨k, q, hkb, rfl, rfl⟩ := hrel
        by_cases hkf : k < f
        · obtain ⟨g, c, ev, hc, fz, _⟩ := hI.out.pg k (by rw [HLL.out]; omega) (by omega)
          rw [HE0.out, HLL.out] at ev
          injection ev with ea _ ec
          subst ea ec
          have hne := hNE.out k hkf
          have hkM : (k : Int) < (L : Int) := by omega
          generalize pgA S.p k = t at *
          clear fz
          go_wp2
          go_quiet (fail)
          go_wp2
          go_roundw
          case rel => exact ⟨k + 1, _, by omega, by go_num, rfl⟩
          case measure => simp [intOf] <;> omega
        · have e : k = f := by omega
          subst e
          by_cases hkM : k < L
          · have HN := Lib.hid (HSJf.out hkM)
            have hat0 := hAT.out hkM
            obtain ⟨g, c, ev, hc, fz, _⟩ := hI.out.pg k (by rw [HLL.out]; exact hkM) (by omega)
            rw [HE0.out, HLL.out] at ev
            injection ev with ea _ ec
            subst ea ec
            rw [hat0] at hc
            have hkM2 : (k : Int) < (L : Int) := by omega
            go_wp2
            go_quiet (fail)
            rename_i nq
            rw [World.drewN_drewN]
            have HM := Lib.hid (hI.out.drewN (q + nq))
            generalize wr.drewN (q + nq) = w3 at *
            have hkM3 : ((k : Int) == (L : Int)) = false := by simp; omega
            have hat : k < S.p.length := by rw [HLL.out]; exact hkM
            have hatn : k < n := by omega
            obtain ⟨⟨g12, g21⟩, gB1, gB2⟩ := HG.out
            have b1n : ¬ b = g1 := by omega
            have b2n : ¬ b = g2 := by omega
            have n1b : ¬ g1 = b := by omega
            have n2b : ¬ g2 = b := by omega
            clear hc fz k0 k1 hbs
            obtain ⟨k0, k1⟩ := HCL.out w3 HM.out.bl
            obtain ⟨m0, mz, mM⟩ := HM.out.mkg E1.out k hatn
            have M1 := mM true hat
            obtain ⟨r0, rz, _⟩ := HM.out.wrg E2.out k hatn
            have HM2 := Lib.hid (fun (v : Bool) (e : (wrt (S).p k || decide (kd = 1)) = v) => (show Cs n w.heap.size x' { S with p := tch (S).p k (decide (kd = 1)) } w ((w3.setCell ⟨g1, k, none⟩ (.bool true)).setCell ⟨g2, k, none⟩ (.bool v)) from by
              have e2 := (M1.wrg E2.out k hatn).2.2 v (by show k < ((S).p.set _ _).length; rw [List.length_set]; exact hat)
              have e3 := tch_of (S).p k hat (decide (kd = 1))
              show Cs _ _ _ ⟨tch (S).p k (decide (kd = 1)), _, _, _⟩ _ _
              rw [← e3, e]
              exact e2))
            clear mM M1 HM
            generalize wrt (S).p k = ww at *
            generalize mkd (S).p k = mm at *
            have hnl : (S).fl.length = j := hfl
            rcases hk with rfl | rfl <;> cases ww
            all_goals
              first | (have HM3 := Lib.hid (HM2.out false (by decide))) | (have HM3 := Lib.hid (HM2.out true (by decide)))
              clear HM2
              have oL : Own _ w.heap.size (x' 3) (S).fl := HM3.out.own 3 (by decide)
              rw [HE3.out] at oL
              have hsz := HM3.out.sz
              go_wp2_with (at_builtin; refine wpList_appL _ rfl _ _ rfl w.heap.size (.slice a3 j c3) (S).fl 0 ?_ ?_ oL (by rw [hnl]; omega) hsz ?_; rfl; (first | rfl | exact Eq.trans (b := Value.slice (some ⟨w3.heap.size, 0, none⟩) 1 1) rfl (by simp)))
              intro v' w6 ho6 hb6 hfr6 hat6
              have HM5 := Lib.hid (HM3.out.app (w' := w6) (v' := v') (u := 0) (fun q hq hne => hfr6 q (by simpa using hq) (by rw [← HE3.out]; exact hne)) hb6 ho6 (fun q hq => by rw [HE3.out]; exact (hat6 q hq).imp id (fun h => by simpa using h)))
              clear ho6 hb6 hfr6 hat6 oL hsz HM3 m0 mz r0 rz k0 k1
              go_wp2
              go_roundw
              case rel => exact ⟨j + 1, upF x' 3 v', by omega, by go_num, by show _ = x' 0; rw [HE0.out], E1.out, E2.out, rfl, by rw [HN.out]; first | done | (show _ = Value.int .i64 ((S).h : Int); skip), by rw [HN.out]; first | done | (show _ = Value.int .i64 ((S).b : Int); skip), by rw [HN.out]; exact HM5⟩
              case measure => simp [intOf]; omega
          · by_cases hLn : L < n
            · have e : L = k := by omega
              subst e
              have HN := Lib.hid (HSJa.out hkM hLn)
              have hLi : (L : Int) < (n : Int) := by omega
              obtain ⟨⟨g12, g21⟩, gB1, gB2⟩ := HG.out
              go_wp2
              go_quiet (fail)
              rename_i nq
              rw [World.drewN_drewN]
              have HM := Lib.hid (hI.out.drewN (q + nq))
              generalize wr.drewN (q + nq) = w3 at *
              obtain ⟨k0, k1⟩ := HCL.out w3 HM.out.bl
              have oP : Own w3 w.heap.size (x' 0) (pgs S.p) := HM.out.own 0 (by decide)
              rw [HE0.out] at oP
              have hsz := HM.out.sz
              have hpl : (pgs S.p).length = L := by rw [show (pgs S.p).length = S.p.length from List.length_map _]; exact HLL.out
              go_wp2_with (at_builtin; refine wpList_appL _ rfl _ _ rfl w.heap.size (.slice a0 L c0) (pgs S.p) ad ?_ ?_ oP (by rw [hpl]; omega) hsz ?_; rfl; rfl)
              intro v7 w5 ho hb hfr hat
              have HM2 := Lib.hid (HM.out.grow (w' := w5) (v' := v7) (u := ad) (by rw [HE0.out]; exact hfr) hb ho (fun k hk => by rw [HE0.out]; exact hat k hk))
              clear ho hb hfr hat oP hsz k0 k1 HM
              have HM := HM2
              clear HM2
              have F1 := Lib.hid (show upF x' 0 v7 1 = .slice (some ⟨g1, 0, none⟩) n n from E1.out)
              have F2 := Lib.hid (show upF x' 0 v7 2 = .slice (some ⟨g2, 0, none⟩) n n from E2.out)
              have hat : L < (S.p ++ [(ad, false, false)]).length := by rw [List.length_append, List.length_singleton, HLL.out]; omega
              have hatn := hLn
              have F3 := Lib.hid (show upF x' 0 v7 3 = .slice a3 j c3 from HE3.out)
              obtain ⟨T, hT⟩ : ∃ T : CkS, T = { S with p := S.p ++ [(ad, false, false)] } := ⟨_, rfl⟩
              have HN0 := HN
              have HN : Hid (ckR n xs (j + 1) = { T with p := tch T.p L (decide (kd = 1)), fl := T.fl ++ [1] }) := by rw [hT]; exact HN0
              rw [← hT] at HM
              have hat : L < T.p.length := by rw [hT]; exact hat
              have hfl : T.fl.length = j := by rw [hT]; exact hfl
              have hTh : T.h = S.h := by rw [hT]
              have hTb : T.b = S.b := by rw [hT]
              have HTT := Lib.hid (And.intro hTh hTb)
              clear HN0 hT hTh hTb
              have b1n : ¬ b = g1 := by omega
              have b2n : ¬ b = g2 := by omega
              have n1b : ¬ g1 = b := by omega
              have n2b : ¬ g2 = b := by omega
              obtain ⟨k0, k1⟩ := HCL.out w5 HM.out.bl
              obtain ⟨m0, mz, mM⟩ := HM.out.mkg F1.out L hatn
              have M1 := mM true hat
              obtain ⟨r0, rz, _⟩ := HM.out.wrg F2.out L hatn
              have HM2 := Lib.hid (fun (v : Bool) (e : (wrt (T).p L || decide (kd = 1)) = v) => (show Cs n w.heap.size (upF x' 0 v7) { T with p := tch (T).p L (decide (kd = 1)) } w ((w5.setCell ⟨g1, L, none⟩ (.bool true)).setCell ⟨g2, L, none⟩ (.bool v)) from by
                have e2 := (M1.wrg F2.out L hatn).2.2 v (by show L < ((T).p.set _ _).length; rw [List.length_set]; exact hat)
                have e3 := tch_of (T).p L hat (decide (kd = 1))
                show Cs _ _ _ ⟨tch (T).p L (decide (kd = 1)), _, _, _⟩ _ _
                rw [← e3, e]
                exact e2))
              clear mM M1 HM
              generalize wrt (T).p L = ww at *
              generalize mkd (T).p L = mm at *
              have hnl : (T).fl.length = j := hfl
              rcases hk with rfl | rfl <;> cases ww
              all_goals
                first | (have HM3 := Lib.hid (HM2.out false (by decide))) | (have HM3 := Lib.hid (HM2.out true (by decide)))
                clear HM2
                have oL : Own _ w.heap.size ((upF x' 0 v7) 3) (T).fl := HM3.out.own 3 (by decide)
                rw [F3.out] at oL
                have hsz := HM3.out.sz
                go_wp2_with (at_builtin; refine wpList_appL _ rfl _ _ rfl w.heap.size (.slice a3 j c3) (T).fl 1 ?_ ?_ oL (by rw [hnl]; omega) hsz ?_; rfl; (first | rfl | exact Eq.trans (b := Value.slice (some ⟨w5.heap.size, 0, none⟩) 1 1) rfl (by simp)))
                intro v' w6 ho6 hb6 hfr6 hat6
                have HM5 := Lib.hid (HM3.out.app (w' := w6) (v' := v') (u := 1) (fun q hq hne => hfr6 q (by simpa using hq) (by rw [← F3.out]; exact hne)) hb6 ho6 (fun q hq => by rw [F3.out]; exact (hat6 q hq).imp id (fun h => by simpa using h)))
                clear ho6 hb6 hfr6 hat6 oL hsz HM3 m0 mz r0 rz k0 k1
                go_wp2
                go_roundw
                case rel => exact ⟨j + 1, upF (upF x' 0 v7) 3 v', by omega, by go_num, by show _ = (upF x' 0 v7) 0; rfl, F1.out, F2.out, rfl, by rw [HN.out]; first | done | (show _ = Value.int .i64 ((T).h : Int); rw [HTT.out.1]), by rw [HN.out]; first | done | (show _ = Value.int .i64 ((T).b : Int); rw [HTT.out.2]), by rw [HN.out]; exact HM5⟩
                case measure => simp [intOf]; omega
            · have e : L = k := by omega
              subst e
              have HV := Lib.hid (HSJv.out hkM hLn)
              have hLi : ¬ ((L : Int) < (n : Int)) := by omega
              obtain ⟨⟨g12, g21⟩, gB1, gB2⟩ := HG.out
              obtain ⟨g, c, ev, _, _, _⟩ := hI.out.pg 0 (by rw [HLL.out]; omega) (by omega)
              rw [HE0.out, HLL.out] at ev
              injection ev with ea _ ec
              subst ea ec
              clear HSJa HSJv HSJf HSJ hNE hAT
              go_wp2
              go_quiet (fail)
              rename_i nq
              rw [World.drewN_drewN]
              have HM := Lib.hid (hI.out.drewN (q + nq))
              generalize wr.drewN (q + nq) = w3 at *
              clear hI
              go_wp2
              go_loopw [10] (fun vh wr3 => ∃ (hd : Nat) (p : List Pf), hd < n ∧ vh = .int .i64 (hd : Int) ∧ Hid (p.length = L) ∧ Hid (V p hd = V S.p S.h) ∧ Hid (Cs n w.heap.size x' ⟨p, hd, S.fl, S.b⟩ w wr3)) (fun _ wr3 => mB g1 wr3 n)
              case atStart => exact ⟨S.h, S.p, hh, rfl, HLL, by show _ = _; rfl, HM⟩
              case round =>
                obtain ⟨hd, p, hhd, rfl, hpl, hVV, hI⟩ := hrel
                clear HM
                have hdp : hd < p.length := by rw [hpl.out]; omega
                have e1 : IntKind.i64.wrap ((hd : Int) + 1) = (hd : Int) + 1 := IntWalk.i64_in _ (by omega)
                have e2 := tmod_nat hd L
                have HMOD := Lib.hid (show ((hd : Int) + 1) % (L : Int) = (((hd + 1) % L : Nat) : Int) from by rw [show (hd : Int) + 1 = ((hd + 1 : Nat) : Int) by omega]; exact (Int.natCast_emod _ _).symm)
                have hlt5 := Nat.mod_lt (hd + 1) (show L > 0 by omega)
                have e3 : IntKind.i64.wrap (((hd + 1) % L : Nat) : Int) = (((hd + 1) % L : Nat) : Int) := IntWalk.i64_in _ (by omega)
                have hL0 : ¬ ((L : Int) = 0) := by omega
                have hL1 : ((L : Int) == 0) = false := by simp; omega
                have hL2 : 0 < (L : Int) := by omega
                obtain ⟨m0, mz, mS⟩ := hI.out.mkg E1.out hd hhd
                cases hm : mkd p hd with
                | true =>
                  rw [show mkd (CkS.mk p hd S.fl S.b).p hd = mkd p hd from rfl, hm] at m0
                  have HDEC := Lib.hid (mB_dec g1 wr (wr.setCell ⟨g1, hd, none⟩ (.bool false)) hd (fun i hi => World.cell?_setCell_other _ _ _ _ (by intro e; injection e with _ e; exact hi e.symm)) m0 (World.cell?_setCell_same _ _ _ m0) n)
                  have HN4 := Lib.hid ((mS false hdp).other ((hd + 1) % L) S.b)
                  have HV4 := Lib.hid (V_yes p hd hdp hm)
                  rw [hpl.out] at HV4
                  have HL4 := Lib.hid (clr_length p hd)
                  clear mS hm
                  generalize (hd + 1) % L = m at *
                  go_wp2
                  go_roundw
                  case rel => exact ⟨m, clr p hd, by omega, by first | rfl | rw [HMOD.out], by show _ = _; rw [HL4.out, hpl.out], by show _ = _; rw [← HV4.out, hVV.out], HN4⟩
                  case measure =>
                    have := HDEC.out
                    rw [if_pos hhd] at this
                    omega
                | false =>
                  rw [show mkd (CkS.mk p hd S.fl S.b).p hd = mkd p hd from rfl, hm] at m0
                  have hVn := V_no p hd hm
                  have HVn := Lib.hid (hVV.out.symm.trans hVn)
                  clear mS hVV hVn
                  obtain ⟨k0, k1⟩ := HCL.out wr hI.out.bl
                  obtain ⟨r0, rz, _⟩ := hI.out.wrg E2.out hd hhd
                  obtain ⟨p0, pz, pS⟩ := hI.out.pgg HE0.out hd hdp hhd
                  have r0 : wr.cell? ⟨g2, hd, none⟩ = some (.bool (wrt p hd)) := r0
                  have p0 : wr.cell? ⟨g, hd, none⟩ = some (.int .i64 (pgA p hd)) := p0
                  have HN := Lib.hid (show ckR n xs (j + 1) = ⟨tch (p.set hd (ad, false, false)) hd (decide (kd = 1)), (hd + 1) % L, S.fl ++ [1], S.b + if wrt p hd then 1 else 0⟩ from by have h := HV.out; rw [HVn.out] at h; exact h)
                  have HT5 := Lib.hid (fun (v : Bool) (e : decide (kd = 1) = v) => (show Cs n w.heap.size x' ⟨tch (p.set hd (ad, false, false)) hd (decide (kd = 1)), (hd + 1) % L, S.fl, S.b + if wrt p hd then 1 else 0⟩ w ((((wr.setCell ⟨g, hd, none⟩ (.int .i64 ad)).setCell ⟨g2, hd, none⟩ (.bool false)).setCell ⟨g1, hd, none⟩ (.bool true)).setCell ⟨g2, hd, none⟩ (.bool v)) from by
                    have M1 := pS ad
                    have M2 := (M1.wrg E2.out hd hhd).2.2 false (by show hd < (p.set _ _).length; rw [List.length_set]; exact hdp)
                    have M2' : Cs n w.heap.size x' ⟨p.set hd (ad, false, false), hd, S.fl, S.b⟩ w ((wr.setCell ⟨g, hd, none⟩ (.int .i64 ad)).setCell ⟨g2, hd, none⟩ (.bool false)) := by
                      rw [← set_two p hd hdp ad hm]
                      exact M2
                    have hql : hd < (p.set hd (ad, false, false)).length := by rw [List.length_set]; exact hdp
                    have M3 := (M2'.mkg E1.out hd hhd).2.2 true hql
                    have M4 := ((M3.wrg E2.out hd hhd).2.2 v (by show hd < ((p.set _ _).set _ _).length; rw [List.length_set]; exact hql)).other ((hd + 1) % L) (S.b + if wrt p hd then 1 else 0)
                    have e3 := tch_of (p.set hd (ad, false, false)) hd hql (decide (kd = 1))
                    have hq : (wrt (p.set hd (ad, false, false)) hd || decide (kd = 1)) = v := by rw [(pgA_set p hd hdp (ad, false, false)).2.2, Bool.false_or, e]
                    rw [hq] at e3
                    rw [← e3]
                    exact M4))
                  have gB0 := ((hI.out.own 0 (by decide)).lt g (by rw [HE0.out]; rfl)).1
                  have gs1 := hI.out.sep 0 1 (by decide) (by decide) (by decide) g (by rw [HE0.out]; rfl)
                  have gs2 := hI.out.sep 0 2 (by decide) (by decide) (by decide) g (by rw [HE0.out]; rfl)
                  rw [E1.out] at gs1
                  rw [E2.out] at gs2
                  have g01 : ¬ g = g1 := fun e => gs1 (by rw [e]; rfl)
                  have g10 : ¬ g1 = g := fun e => g01 e.symm
                  have g02 : ¬ g = g2 := fun e => gs2 (by rw [e]; rfl)
                  have g20 : ¬ g2 = g := fun e => g02 e.symm
                  have b0n : ¬ b = g := by omega
                  have n0b : ¬ g = b := by omega
                  have b1n : ¬ b = g1 := by omega
                  have b2n : ¬ b = g2 := by omega
                  have n1b : ¬ g1 = b := by omega
                  have n2b : ¬ g2 = b := by omega
                  have hnl : S.fl.length = j := hfl
                  clear pS hm gs1 gs2 HV HVn hI HW HFL HBK HS HR HK
                  generalize (hd + 1) % L = m at *
                  generalize wrt p hd = ww at *
                  generalize pgA p hd = pg at *
                  rcases hk with rfl | rfl <;> cases ww
                  all_goals
                    first | (have HM3 := Lib.hid (HT5.out false (by decide))) | (have HM3 := Lib.hid (HT5.out true (by decide)))
                    clear HT5
                    have oL : Own _ w.heap.size (x' 3) S.fl := HM3.out.own 3 (by decide)
                    rw [HE3.out] at oL
                    have hsz := HM3.out.sz
                    go_wp2_with (at_builtin; refine wpList_appL _ rfl _ _ rfl w.heap.size (.slice a3 j c3) S.fl 1 ?_ ?_ oL (by rw [hnl]; omega) hsz ?_; rfl; (first | rfl | exact Eq.trans (b := Value.slice (some ⟨wr.heap.size, 0, none⟩) 1 1) rfl (by simp)))
                    intro v' w6 ho6 hb6 hfr6 hat6
                    have HM5 := Lib.hid (HM3.out.app (w' := w6) (v' := v') (u := 1) (fun q hq hne => hfr6 q (by simpa using hq) (by rw [← HE3.out]; exact hne)) hb6 ho6 (fun q hq => by rw [HE3.out]; exact (hat6 q hq).imp id (fun h => by simpa using h)))
                    clear ho6 hb6 hfr6 hat6 oL hsz HM3 m0 mz r0 rz k0 k1 p0 pz
                    go_wp2
                    go_roundw
                    case rel => exact ⟨j + 1, upF x' 3 v', by omega, by go_num, by show _ = x' 0; rw [HE0.out], E1.out, E2.out, rfl, by rw [HN.out]; all_goals (first | rfl | rw [HMOD.out]), by rw [HN.out]; all_goals (first | rfl | simp), by rw [HN.out]; exact HM5⟩
                    case measure => simp [intOf]; omega
    · have e : j = N := by omega
      subst e
      have o3 : Own wr w.heap.size (x' 3) (ckR n xs j).fl := hI.out.own 3 (by decide)
      obtain ⟨a3, c3, e3⟩ := Own.form o3
      have HO := Lib.hid o3
      have HBL := Lib.hid hI.out.bl
      rw [e3]
      have HE3 := Lib.hid e3
      clear o3 e3 hI
      go_wp2
      go_ret3
      exact ⟨_, rfl, by rw [← HE3.out]; exact HO.out, HBL.out⟩

end Go.Proofs.Ytdjkmffekfbbcaa.Ck
