/- Both BufferAgrees. -/
import Derived.Test.YtifjkjcgpghmhaaDoorCspz
import Derived.Deep.QuietTactic
namespace Go.Proofs.YtifjkjcgpghmhaaDoor.Sp
open Go.RowKit

theorem any_not (l : List TC) (p : TC → Bool) : (!(l.any fun c => !p c)) = l.all p := by
  induction l with
  | nil => rfl
  | cons c r ih => rw [List.any_cons, List.all_cons, ← ih]; cases p c <;> simp
set_option maxRecDepth 100000 in
set_option maxHeartbeats 4000000 in
theorem ag_i {w : World} {v : Value} {root : List Int} {tss : List (List TE)} {buf : List TC} (h : RdS w v root tss buf) (hl : tot root.length tss buf.length ≤ 1048576) (her : Er w) :
    Calls Tryd.prog 11 #[v] w (Bb (agS root tss buf) w) := by
  obtain ⟨a1, c1, a2, c2, a3, c3, rfl, r1, r2, r3, hcap⟩ := h
  have hRd : RdS w (agg3 a1 root.length c1 a2 tss.length c2 a3 buf.length c3) root tss buf := ⟨a1, c1, a2, c2, a3, c3, rfl, r1, r2, r3, hcap⟩
  have b0 := (Below.refl w.heap.size w).alloc (Nat.le_refl _) (.cells #[.slice a1 root.length c1, .slice a2 tss.length c2, .slice a3 buf.length c3] 32)
  have HP := Lib.hid (pso_i (hRd.below b0) hl)
  have B0 := Lib.hid b0
  have hbl : buf.length ≤ 1048576 := by unfold tot at hl; omega
  have HER := Lib.hid (fun (w' : World) (bb : Below w.heap.size w w') => her.below bb)
  unfold agS
  clear r1 r2 r3 hcap hl b0 hRd her
  cases hok : okSpace root tss buf
  case false =>
    rw [hok] at HP
    rw [Bool.false_and]
    clear hok hbl HER
    generalize root.length = n1 at *
    generalize tss.length = n2 at *
    generalize buf.length = n3 at *
    go_enter Tryd.func11, Tryd.ntmps11
    go_wp2_with fail
    refine HP.out.mono ?_; rintro e w1 ⟨v, rfl, b1, h1, _⟩
    have hv := h1 rfl
    subst hv
    have B1 := Lib.hid (fun (o : Obj) => (bt B0.out b1).alloc (bt B0.out b1).size o)
    clear b1 h1
    go_wp2
    go_ret
    exact ⟨rfl, B1.out _⟩
  rw [hok] at HP
  rw [Bool.true_and]
  obtain ⟨kT, kE, kB⟩ := okSpace_parts hok
  have HPX := Lib.hid (fun (w' : World) (v : Value) (B : Nat) (h2 : PsV w' B v root tss buf) => h2.parts)
  have HCO := Lib.hid (fun (w' : World) (X : Nat) (a1 a2 a3 : Option Addr) (c1 c2 c3 : Nat) (h0 : w'.cell? ⟨X, 1, none⟩ = some (.slice a1 root.length c1)) (h1 : w'.cell? ⟨X, 2, none⟩ = some (.slice a2 tss.length c2)) (g1 : Row w' a1 root) (g2 : En.RdT w' a2 tss) (g3 : Ch.RdR w' a3 buf) (ge : Er w') =>
    cont_i a3 c3 buf.length buf (fun c => !agr root tss c) X w' rfl hbl g3 (fun w'' bb j hj => by
      have hX : X < w'.heap.size := World.block_lt_of_cell? w' _ h0
      exact contr_i X tss.length a1 a2 c1 c2 root tss (buf.getD j dC) w'' rfl (by rw [kT.1] at h0; exact (bb.cell (p := ⟨X, 1, none⟩) hX).trans h0) ((bb.cell (p := ⟨X, 2, none⟩) hX).trans h1) (g1.below bb) (g2.below bb) kT kE (ge.below bb) (okBuf_at kB j hj)))
  have HAN := Lib.hid (any_not buf (agr root tss))
  clear hok kT kE kB hbl
  generalize (buf.any fun c => !agr root tss c) = k at *
  generalize buf.all (agr root tss) = r at *
  generalize root.length = n1 at *
  generalize tss.length = n2 at *
  generalize buf.length = n3 at *
  go_enter Tryd.func11, Tryd.ntmps11
  go_wp2_with fail
  refine HP.out.mono ?_; rintro e w1 ⟨v, rfl, b1, _, h2⟩
  obtain ⟨A1, C1, A2, C2, A3, C3, rfl, q1, q2, q3⟩ := HPX.out _ _ _ (h2 rfl)
  have ba := (Below.refl w1.heap.size w1).alloc (Nat.le_refl _) (.cells #[.slice A3 n3 C3, .slice A1 n1 C1, .slice A2 n2 C2] 59)
  have ka := Blk.newAt w1 w1.heap.size [.slice A3 n3 C3, .slice A1 n1 C1, .slice A2 n2 C2] 59 rfl
  have HC := Lib.hid (HCO.out _ w1.heap.size A1 A2 A3 C1 C2 C3 (ka.cell 1) (ka.cell 2) (q1.below ba) (q2.below ba) (q3.below ba) (HER.out _ (bt (bt B0.out b1) ba)))
  have B1 := Lib.hid (bt (bt B0.out b1) ba)
  clear q1 q2 q3 ba ka h2 b1 HCO HPX HER HP
  go_wp2_with fail
  refine HC.out.mono ?_; rintro e w2 ⟨rfl, b2⟩
  have B2 := Lib.hid (bt B1.out b2)
  have hr := HAN.out
  clear b2 HC HAN
  subst hr
  cases k
  all_goals
    go_wp2
    go_ret
    exact ⟨rfl, B2.out⟩
theorem all_take (buf : List TC) (p : TC → Bool) (j : Nat) (h : j < buf.length) : (buf.take (j + 1)).all p = ((buf.take j).all p && p (buf.getD j dC)) := by
  rw [List.take_succ_eq_append_getElem h, List.all_append, List.getD_eq_getElem?_getD, List.getElem?_eq_getElem h]
  simp
theorem all_no (buf : List TC) (p : TC → Bool) (j : Nat) (h : j < buf.length) (hp : p (buf.getD j dC) = false) : buf.all p = false := by
  rw [List.all_eq_false]
  refine ⟨buf[j], List.getElem_mem h, ?_⟩
  rw [List.getD_eq_getElem?_getD, List.getElem?_eq_getElem h] at hp
  simpa using hp
set_option maxRecDepth 100000 in
set_option maxHeartbeats 4000000 in
theorem ag_s {w : World} {v : Value} {root : List Int} {tss : List (List TE)} {buf : List TC} (h : RdS w v root tss buf) (hl : tot root.length tss buf.length ≤ 1048576) :
    Calls Tryd.prog 9 #[v] w (Bb (agS root tss buf) w) := by
  obtain ⟨a1, c1, a2, c2, a3, c3, rfl, r1, r2, r3, hcap⟩ := h
  unfold tot at hl
  have hb64 : buf.length ≤ 1048576 := by omega
  obtain ⟨W1, hW1⟩ : ∃ W1, W1 = w.alloc (.cells #[.slice a1 root.length c1, .slice a2 tss.length c2, .slice a3 buf.length c3] 32) := ⟨_, rfl⟩
  have b0 : Below w.heap.size w W1 := by rw [hW1]; exact (Below.refl _ w).alloc (Nat.le_refl _) _
  have bk : Blk W1 w.heap.size [.slice a1 root.length c1, .slice a2 tss.length c2, .slice a3 buf.length c3] 32 := by rw [hW1]; exact Blk.newAt w _ _ _ rfl
  have HS := Lib.hid (is_s w.heap.size a1 a2 a3 c1 c2 c3 root tss buf W1 bk.lt (by omega) (by omega) (by omega) (bk.cell 0) (bk.cell 1) (bk.cell 2) ((Rd.row' r1).below b0) (r2.below b0) (r3.below b0) hcap)
  unfold agS
  cases hok : okSpace root tss buf
  case false =>
    rw [hok] at HS
    rw [Bool.false_and]
    have B0 := Lib.hid b0
    clear hok hl r1 r2 r3 hcap b0 bk
    generalize root.length = n1 at *
    generalize tss.length = n2 at *
    generalize buf.length = n3 at *
    go_enter Tryd.func9, Tryd.ntmps9
    go_wp2_with fail
    rw [← hW1]
    clear hW1
    refine HS.out.mono ?_; rintro e w1 ⟨rfl, b1⟩
    have B1 := Lib.hid (bt B0.out b1)
    clear b1
    go_wp2
    go_ret
    exact ⟨rfl, B1.out⟩
  rw [hok] at HS
  rw [Bool.true_and]
  obtain ⟨kT, kE, kB⟩ := okSpace_parts hok
  have HW := Lib.hid (fun (w' : World) (bb : Below W1.heap.size W1 w') j (hj : j < buf.length) => (show w'.cell? ⟨w.heap.size, 2, none⟩ = some (.slice a3 buf.length c3) ∧ Below w.heap.size w w' ∧ w.heap.size < w'.heap.size ∧ (∃ b off, a3 = some ⟨b, off, none⟩ ∧ b < w'.heap.size ∧ w'.cell? ⟨b, off + j * 3, none⟩ = some (.int .i64 (buf.getD j dC).1) ∧ w'.cell? ⟨b, off + j * 3 + 1, none⟩ = some (.int .i64 (buf.getD j dC).2.1) ∧ w'.cell? ⟨b, off + j * 3 + 2, none⟩ = some (.bool (buf.getD j dC).2.2)) ∧
      ∃ P : Nat, (buf.getD j dC).1 = (P : Int) ∧ Calls Tryd.prog 30 #[.pointer (some ⟨w.heap.size, 0, none⟩), .int .i64 (P : Nat)] w' (EnP (entAt root tss P) w') ∧ agr root tss (buf.getD j dC) = (decide ((entAt root tss P).1 = (buf.getD j dC).2.1) && decide ((entAt root tss P).2.1 = (buf.getD j dC).2.2)) from by
    have y := bk.below bb bk.lt
    have bw := bt b0 bb
    obtain ⟨⟨P, hP, hP64⟩, _⟩ := okBuf_at kB j hj
    obtain ⟨b, off, e, d0, d1, d2, hlt⟩ := (r3.below bw) j hj
    refine ⟨y.cell 2, bw, y.lt, ⟨b, off, e, hlt, d0, d1, d2⟩, P, hP, ?_, by unfold agr; rw [hP]; rfl⟩
    exact walk_s w.heap.size tss.length a1 a2 c1 c2 root tss w' rfl (by have h := y.cell 0; rw [kT.1] at h; exact h) (y.cell 1) P hP64 (entC ((Rd.row' r1).below bw) (r2.below bw) kT P hP64) kT.2.2.2))
  have HW0 := Lib.hid (fun (w' : World) (bb : Below W1.heap.size W1 w') => (⟨(bk.below bb bk.lt).cell 2, bt b0 bb⟩ : w'.cell? ⟨w.heap.size, 2, none⟩ = some (.slice a3 buf.length c3) ∧ Below w.heap.size w w'))
  have HT := Lib.hid (all_take buf (agr root tss))
  have HN := Lib.hid (all_no buf (agr root tss))
  have HA := Lib.hid (show (buf.take buf.length).all (agr root tss) = buf.all (agr root tss) by rw [List.take_length])
  clear hok hl r1 r2 r3 hcap b0 bk kT kE kB
  generalize buf.all (agr root tss) = r at *
  generalize root.length = n1 at *
  generalize tss.length = n2 at *
  generalize buf.length = n3 at *
  go_enter Tryd.func9, Tryd.ntmps9
  go_wp2_with fail
  rw [← hW1]
  clear hW1
  refine HS.out.mono ?_; rintro e w1 ⟨rfl, b1⟩
  have B1 := Lib.hid b1
  clear b1 HS
  go_wp2
  go_loopw [3, 4] (fun i _ wr => ∃ j : Nat, j ≤ n3 ∧ i = .int .i64 (j : Nat) ∧ Hid ((buf.take j).all (agr root tss) = true) ∧ Hid (Below W1.heap.size W1 wr)) (fun i _ _ => n3 - (intOf i).toNat)
  case atStart => exact ⟨0, Nat.zero_le _, rfl, Lib.hid rfl, B1⟩
  case round =>
    obtain ⟨j, hj, rfl, hx, hbw⟩ := hrel
    obtain ⟨wz, rfl⟩ : ∃ wz, wz = wr := ⟨_, rfl⟩
    obtain ⟨p2, bw⟩ := HW0.out wz hbw.out
    by_cases hlt : j < n3
    · obtain ⟨_, _, hsl, ⟨b, off, rfl, hbl, d0, d1, d2⟩, P, hP, hcall, hag⟩ := HW.out wz hbw.out j hlt
      have hs := Lib.hid (HT.out j hlt)
      have hno := Lib.hid (HN.out j hlt)
      have HC := Lib.hid hcall
      have HAG := Lib.hid hag
      clear hcall hag HT HN
      rw [hP] at d0
      have HWN := Lib.hid (fun (w' : World) (bb : Below wz.heap.size wz w') => (⟨(bb.cell (p := ⟨w.heap.size, 2, none⟩) hsl).trans p2, (bb.cell (p := ⟨b, off + j * 3 + 1, none⟩) hbl).trans d1, (bb.cell (p := ⟨b, off + j * 3 + 2, none⟩) hbl).trans d2, Nat.lt_of_lt_of_le hsl bb.size, Nat.lt_of_lt_of_le hbl bb.size, hbw.out.trans (bb.mono hbw.out.size), bt bw bb⟩ : w'.cell? ⟨w.heap.size, 2, none⟩ = some (.slice (some ⟨b, off, none⟩) n3 c3) ∧ w'.cell? ⟨b, off + j * 3 + 1, none⟩ = some (.int .i64 (buf.getD j dC).2.1) ∧ w'.cell? ⟨b, off + j * 3 + 2, none⟩ = some (.bool (buf.getD j dC).2.2) ∧ w.heap.size < w'.heap.size ∧ b < w'.heap.size ∧ Below W1.heap.size W1 w' ∧ Below w.heap.size w w'))
      generalize buf.getD j dC = u at *
      obtain ⟨x0, x1, x2⟩ := u
      simp only at d1 d2 HWN HAG
      generalize entAt root tss P = e at *
      obtain ⟨f, wt, us, di⟩ := e
      go_wp2_with fail
      refine HC.out.mono ?_; rintro e w2 ⟨rfl, b2⟩
      have ba := (Below.refl w2.heap.size w2).alloc (Nat.le_refl _) (.cells #[.int .i64 f, .bool wt, .bool us, .bool di] 37)
      obtain ⟨s2, t1, t2, u1, u2, V1, V2⟩ := HWN.out _ (bt b2 ba)
      have H1 := Lib.hid V1
      have H2 := Lib.hid V2
      clear V1 V2 b2 ba HWN HC p2 d1 d2 d0 hbw
      by_cases e1 : f = x1
      · subst e1
        by_cases e2 : wt = x2
        · subst e2
          have hx' := Lib.hid (show (buf.take (j + 1)).all (agr root tss) = true by rw [hs.out, hx.out, HAG.out]; show (true && (decide (f = f) && decide (wt = wt))) = true; simp)
          have HQ := Lib.hid (fun m => below_drewN m H1.out)
          clear hno hs HAG HW HW0
          go_wp2
          go_quiet (fail)
          go_wp2
          go_roundw
          case rel => exact ⟨j + 1, by omega, by go_num, hx', Lib.hid (HQ.out _)⟩
          case measure => simp [intOf]; omega
        · cases wt <;> cases x2
          case false.false => exact absurd rfl e2
          case true.true => exact absurd rfl e2
          all_goals
            have hr := hno.out (by rw [HAG.out]; show (decide (f = f) && decide (_ = _)) = false; rw [decide_eq_false e2]; simp)
            have HQ := Lib.hid (fun m => below_drewN m H2.out)
            clear hno hs HAG HW HW0 HA
            subst hr
            go_wp2
            go_quiet (fail)
            go_wp2
            go_ret
            exact ⟨rfl, HQ.out _⟩
      · have hb1 : (f != x1) = true := by simp [e1]
        have hr := hno.out (by rw [HAG.out]; show (decide (f = x1) && decide (wt = x2)) = false; rw [decide_eq_false e1]; rfl)
        have HQ := Lib.hid (fun m => below_drewN m H2.out)
        clear hno hs HAG HW HW0 HA
        subst hr
        go_wp2
        go_quiet (fail)
        go_wp2
        go_ret
        exact ⟨rfl, HQ.out _⟩
    · have e : j = n3 := by omega
      subst e
      have hr := HA.out
      rw [hx.out] at hr
      clear HA HW HW0 HT HN
      subst hr
      go_wp2
      go_ret
      exact ⟨rfl, bw⟩
end Go.Proofs.YtifjkjcgpghmhaaDoor.Sp
