/- The model's loops: l02Nest, NestTrace. -/
import Derived.Test.YtefhjgcgkbpnkaaCnestJ
import Derived.Deep.QuietTactic
namespace Go.Proofs.Ytefhjgcgkbpnkaa.Nst
open Go.RowKit Tr Ac
theorem min_s (x y : Nat) (w : World) : Calls Try.prog 30 #[.int .i64 ((x : Nat) : Int), .int .i64 ((y : Nat) : Int)] w (fun e w' => e = .returned (.int .i64 ((min x y : Nat) : Int)) ∧ w = w') := by
  by_cases h : x < y
  · have h' : (x : Int) < (y : Int) := by omega
    rw [Nat.min_eq_left (by omega)]
    go_enter Try.func30, Try.ntmps30
    go_wp2
    go_ret
    exact ⟨rfl, rfl⟩
  · have h' : ¬ (x : Int) < (y : Int) := by omega
    rw [Nat.min_eq_right (by omega)]
    go_enter Try.func30, Try.ntmps30
    go_wp2
    go_ret
    exact ⟨rfl, rfl⟩
def manyB (kind base : Int) (cs ss : List Int) : Nat := if nestB kind base cs ss then manyK cs cs.length else 0
set_option maxHeartbeats 4000000 in
set_option maxRecDepth 100000 in
theorem l02nest_s (g : Nat) (kind base : Int) (a a' : Option Addr) (c c' : Nat) (cs ss : List Int) (w : World) (k0 : w.cell? ⟨g, 0, none⟩ = some (.int .i64 kind)) (k1 : w.cell? ⟨g, 1, none⟩ = some (.int .i64 base)) (k2 : w.cell? ⟨g, 2, none⟩ = some (.slice a cs.length c)) (k3 : w.cell? ⟨g, 3, none⟩ = some (.slice a' ss.length c'))
    (h1 : Row w a cs) (h2 : Row w a' ss) (h3 : cs.length ≤ 1048576) (h4 : ss.length ≤ 1048576) :
    Calls Try.prog 17 #[.pointer (some ⟨g, 0, none⟩)] w (fun e w' => e = .returned (.tuple #[.int .i64 ((manyB kind base cs ss : Nat) : Int), .bool (nestB kind base cs ss)]) ∧ ∃ q, w' = w.drewN q) := by
  have HK := Lib.hid (fun n => (kind_s kind (w.drewN n)).mono (R' := fun e w' => e = .returned (.bool (isK kind)) ∧ ∃ m, w' = w.drewN m) fun e w' ⟨he, hw⟩ => ⟨he, n, hw.symm⟩)
  have HA := Lib.hid (fun n => (addr_s base (w.drewN n)).mono (R' := fun e w' => e = .returned (.bool (isA base)) ∧ ∃ m, w' = w.drewN m) fun e w' ⟨he, hw⟩ => ⟨he, n, hw.symm⟩)
  have HC1 := Lib.hid (fun (j : Nat) (hj : j < cs.length) => h1 j hj)
  have HC2 := Lib.hid (fun (j : Nat) (hj : j < ss.length) => h2 j hj)
  have HS := Lib.hid (fun j => loopB_succ cs ss j)
  have HNO := Lib.hid (fun j hj => loopB_no cs ss j cs.length hj)
  have H0 := Lib.hid (show loopB cs ss 0 = true from rfl)
  have HW1 := Lib.hid (fun x w9 => (show Calls Try.prog 29 #[.int .i64 x, .int .i64 1, .int .i64 60] w9 (Bl (okC x) w9) from in_g x 1 60 w9))
  have HW2 := Lib.hid (fun x w9 => (show Calls Try.prog 29 #[.int .i64 x, .int .i64 (-1000), .int .i64 1000] w9 (Bl (okSt x) w9) from in_g x (-1000) 1000 w9))
  have HM0 := Lib.hid (show manyK cs 0 = 1 from rfl)
  have HMS := Lib.hid (fun d => show manyK cs (d + 1) = min (manyK cs d * cN cs d) 61 from rfl)
  have HML := Lib.hid (fun d => (show manyK cs d ≤ 61 from by cases d <;> simp [manyK] <;> omega))
  have HCN := Lib.hid (fun (d : Nat) (h : okC (cs.getD d 0) = true) => (show cs.getD d 0 = ((cN cs d : Nat) : Int) ∧ cN cs d ≤ 60 from by unfold okC at h; rw [Bool.and_eq_true, decide_eq_true_eq, decide_eq_true_eq] at h; unfold cN; omega))
  obtain ⟨r, hrr⟩ : ∃ r, nestB kind base cs ss = r := ⟨_, rfl⟩
  have hdef : nestB kind base cs ss = (isK kind && isA base && decide (cs.length ≤ 3) && decide (cs.length = ss.length) && loopB cs ss cs.length) := rfl
  have hmd : manyB kind base cs ss = if r then manyK cs cs.length else 0 := by unfold manyB; rw [hrr]
  rw [hdef] at hrr
  rw [show nestB kind base cs ss = r from hdef.trans hrr, hmd]
  have HR := Lib.hid hrr
  clear hrr hdef hmd h1 h2
  obtain ⟨rl, hrl⟩ : ∃ rl, loopB cs ss cs.length = rl := ⟨_, rfl⟩
  rw [hrl] at HR HNO
  have HRL := Lib.hid hrl
  clear hrl
  generalize hLB : loopB cs ss = LB at *
  clear hLB
  generalize hMK : manyK cs = MK at *
  generalize hCN : cN cs = CN at *
  clear hMK hCN
  generalize hN : cs.length = N at *
  generalize hM : ss.length = M at *
  clear hN hM
  cases hk : isK kind
  · have e : r = false := by rw [← HR.out, hk]; rfl
    rw [hk] at HK
    clear HR
    subst e
    go_enter Try.func17, Try.ntmps17
    go_wp2
    go_quiet (exact HK.out _)
    go_wp2
    go_ret2
    exact ⟨rfl, nq, rfl⟩
  · rw [hk] at HK
    cases ha : isA base
    · have e : r = false := by rw [← HR.out, hk, ha]; rfl
      rw [ha] at HA
      clear HR
      subst e
      go_enter Try.func17, Try.ntmps17
      go_wp2
      go_quiet (first | exact HK.out _ | exact HA.out _)
      go_wp2
      go_ret2
      exact ⟨rfl, nq, rfl⟩
    · rw [ha] at HA
      by_cases h3 : N ≤ 3
      · have h3i : ¬ (3 : Int) < (N : Int) := by omega
        have h3d : decide ((3 : Int) < (N : Int)) = false := decide_eq_false h3i
        by_cases hl : N = M
        · subst hl
          have hne : ((N : Int) != (N : Int)) = false := by simp
          have e : r = rl := by rw [← HR.out, hk, ha, decide_eq_true h3, decide_eq_true rfl]; rfl
          clear HR
          subst e
          go_enter Try.func17, Try.ntmps17
          go_wp2
          go_quiet (first | exact HK.out _ | exact HA.out _)
          have HWQ := Lib.hid (show ∃ q, w.drewN nq = w.drewN q from ⟨nq, rfl⟩)
          have q2 : (w.drewN nq).cell? ⟨g, 2, none⟩ = some (.slice a N c) := k2
          have q3 : (w.drewN nq).cell? ⟨g, 3, none⟩ = some (.slice a' N c') := k3
          have HD1 := Lib.hid (fun (j : Nat) (hj : j < N) => (show ∃ b off, a = some ⟨b, off, none⟩ ∧ (w.drewN nq).cell? ⟨b, off + j, none⟩ = some (.int .i64 (cs.getD j 0)) from by
            obtain ⟨b, off, e1, e2, _⟩ := HC1.out j hj
            exact ⟨b, off, e1, e2⟩))
          have HD2 := Lib.hid (fun (j : Nat) (hj : j < N) => (show ∃ b off, a' = some ⟨b, off, none⟩ ∧ (w.drewN nq).cell? ⟨b, off + j, none⟩ = some (.int .i64 (ss.getD j 0)) from by
            obtain ⟨b, off, e1, e2, _⟩ := HC2.out j hj
            exact ⟨b, off, e1, e2⟩))
          clear k0 k1 k2 k3 HC1 HC2 HK HA
          generalize w.drewN nq = W at *
          go_wp2
          go_loopw [4, 5] (fun m i wr => ∃ j : Nat, j ≤ N ∧ i = .int .i64 j ∧ m = .int .i64 ((MK j : Nat) : Int) ∧ wr = W ∧ Hid (LB j = true)) (fun _ i _ => N - (intOf i).toNat)
          case atStart => exact ⟨0, Nat.zero_le _, rfl, (by rw [HM0.out]; rfl), rfl, H0⟩
          case round =>
            obtain ⟨j, hj, rfl, rfl, rfl, hx⟩ := hrel
            by_cases hlt : j < N
            · obtain ⟨b, off, rfl, c1⟩ := HD1.out j hlt
              obtain ⟨b', off', rfl, c2⟩ := HD2.out j hlt
              have hs := Lib.hid (HS.out j)
              have hno := Lib.hid (HNO.out j hlt)
              have hw1 := Lib.hid (HW1.out (cs.getD j 0))
              have hw2 := Lib.hid (HW2.out (ss.getD j 0))
              have hcn := Lib.hid (HCN.out j)
              have hms := HMS.out j
              have hml := HML.out j
              generalize cs.getD j 0 = x at *
              generalize ss.getD j 0 = y at *
              cases hc : okC x
              · have e : r = false := hno.out (by rw [hc]; rfl)
                rw [hc] at hw1
                clear hs hno hx HRL HNO HS H0 hcn
                subst e
                go_wp2_with (go_at_call 29; (with_reducible refine (hw1.out _).mono ?_); rintro e w' ⟨rfl, rfl⟩)
                go_ret2
                exact ⟨rfl, HWQ.out⟩
              · rw [hc] at hw1
                obtain ⟨hcx, hc60⟩ := hcn.out hc
                cases hd : okSt y
                · have e : r = false := hno.out (by rw [hc, hd]; rfl)
                  rw [hd] at hw2
                  clear hs hno hx HRL HNO HS H0 hcx
                  subst e
                  go_wp2_with (first | (go_at_call 29; (with_reducible refine (hw1.out _).mono ?_); rintro e w' ⟨rfl, rfl⟩) | (go_at_call 29; (with_reducible refine (hw2.out _).mono ?_); rintro e w' ⟨rfl, rfl⟩))
                  go_ret2
                  exact ⟨rfl, HWQ.out⟩
                · have hnew : Hid (LB (j + 1) = true) := by show _ = _; rw [hs.out, hx.out, hc, hd]; rfl
                  rw [hd] at hw2
                  have hmin := Lib.hid (fun w9 => min_s (MK j * CN j) 61 w9)
                  rw [← hms] at hmin
                  clear hs hno hc hd hms hcn
                  subst hcx
                  have hb3 : MK j * CN j ≤ 3660 := Nat.le_trans (Nat.mul_le_mul hml hc60) (by decide)
                  have e9 : IntKind.i64.wrap ((MK j : Int) * (CN j : Int)) = ((MK j * CN j : Nat) : Int) := by
                    have : ((MK j * CN j : Nat) : Int) = (MK j : Int) * (CN j : Int) := Int.natCast_mul _ _
                    rw [← this]
                    exact IntWalk.i64_in _ (by omega)
                  have HM1 := Lib.hid (show ((61 : Nat) : Int) = 61 from rfl)
                  rw [HM1.out] at hmin
                  generalize MK j * CN j = P at *
                  go_wp2_with (first | (go_at_call 29; (with_reducible refine (hw1.out _).mono ?_); rintro e w' ⟨rfl, rfl⟩) | (go_at_call 29; (with_reducible refine (hw2.out _).mono ?_); rintro e w' ⟨rfl, rfl⟩) | (go_at_call 30; (with_reducible refine (hmin.out _).mono ?_); rintro e w' ⟨rfl, rfl⟩))
                  go_roundw
                  case rel => exact ⟨j + 1, by omega, by go_num, by trivial, by trivial, hnew⟩
                  case measure => simp [intOf] <;> omega
            · have e : j = N := by omega
              subst e
              have e : r = true := HRL.out.symm.trans hx.out
              clear HRL HNO HS hx H0
              subst e
              go_wp2
              go_ret2
              exact ⟨rfl, HWQ.out⟩
        · have hne : ((M : Int) != (N : Int)) = true := by simp; omega
          have e : r = false := by rw [← HR.out, hk, ha, decide_eq_true h3, decide_eq_false hl]; rfl
          clear HR
          subst e
          go_enter Try.func17, Try.ntmps17
          go_wp2
          go_quiet (first | exact HK.out _ | exact HA.out _)
          go_wp2
          go_ret2
          exact ⟨rfl, nq, rfl⟩
      · have h3i : (3 : Int) < (N : Int) := by omega
        have h3d : decide ((3 : Int) < (N : Int)) = true := decide_eq_true h3i
        have e : r = false := by rw [← HR.out, hk, ha, decide_eq_false h3]; rfl
        clear HR
        subst e
        go_enter Try.func17, Try.ntmps17
        go_wp2
        go_quiet (first | exact HK.out _ | exact HA.out _)
        go_wp2
        go_ret2
        exact ⟨rfl, nq, rfl⟩
theorem many_iff (kind base : Int) (cs ss : List Int) : nestY kind base cs ss = (nestB kind base cs ss && decide (manyB kind base cs ss ≤ 60)) := by
  unfold nestY manyB
  cases h : nestB kind base cs ss
  · rfl
  · unfold nestB at h
    simp only [Bool.and_eq_true, decide_eq_true_eq] at h
    rw [if_pos rfl, manyK_eq cs ss cs.length h.2 cs.length (Nat.le_refl _)]
    congr 1
    exact decide_eq_decide.2 (by omega)
theorem many_yes {kind base : Int} {cs ss : List Int} (h : nestY kind base cs ss = true) : manyB kind base cs ss = prodK cs cs.length ∧ prodK cs cs.length ≤ 60 := by
  have h2 := h
  unfold nestY at h
  rw [Bool.and_eq_true, decide_eq_true_eq] at h
  unfold manyB
  rw [if_pos h.1]
  have h1 := h.1
  unfold nestB at h1
  simp only [Bool.and_eq_true, decide_eq_true_eq] at h1
  rw [manyK_eq cs ss cs.length h1.2 cs.length (Nat.le_refl _)]
  omega
set_option maxHeartbeats 8000000 in
set_option maxRecDepth 100000 in
theorem nest_s {v : Value} {kind base : Int} {cs ss : List Int} {w : World} (h : RdN w v kind base cs ss) :
    Calls Try.prog 6 #[v] w (ResN (nestV kind base cs ss) (nestY kind base cs ss) w) := by
  obtain ⟨a, c, a', c', rfl, h1, h2, h3, h4, h5, h6⟩ := h
  have HB := Lib.hid (box4 w 29 (.int .i64 kind) (.int .i64 base) (.slice a cs.length c) (.slice a' ss.length c'))
  obtain ⟨⟨k0, k1, k2, k3⟩, hb0, _⟩ := HB.out _ (Below.refl _ _)
  have hz : (w.alloc (.cells #[.int .i64 kind, .int .i64 base, .slice a cs.length c, .slice a' ss.length c'] 29)).heap.size = w.heap.size + 1 := Array.size_push _
  have HIN := Lib.hid (l02nest_s w.heap.size kind base a a' c c' cs ss _ k0 k1 k2 k3 (h1.below hb0) (h2.below hb0) h3 h4)
  have HBB := Lib.hid hb0
  cases hy : nestY kind base cs ss
  · rw [nestV_no hy]
    rw [many_iff] at hy
    cases hn : nestB kind base cs ss
    · rw [hn] at HIN
      clear h1 h2 hn hy HB hb0 hz k0 k1 k2 k3
      generalize manyB kind base cs ss = mb at *
      generalize cs.length = N at *
      generalize ss.length = M at *
      go_enter Try.func6, Try.ntmps6
      go_wp2_with fail
      refine HIN.out.mono ?_; rintro e w1 ⟨rfl, q, rfl⟩
      go_wp2
      go_ret2
      exact ⟨_, rfl, OwnA.nil _ _, below_drewN q HBB.out⟩
    · rw [hn] at HIN hy
      have hm : (60 : Int) < ((manyB kind base cs ss : Nat) : Int) := Int.ofNat_lt.2 (show 60 < manyB kind base cs ss by simpa using hy)
      clear h1 h2 hn hy HB hb0 hz k0 k1 k2 k3
      generalize manyB kind base cs ss = mb at *
      generalize cs.length = N at *
      generalize ss.length = M at *
      go_enter Try.func6, Try.ntmps6
      go_wp2_with fail
      refine HIN.out.mono ?_; rintro e w1 ⟨rfl, q, rfl⟩
      go_wp2
      go_ret2
      exact ⟨_, rfl, OwnA.nil _ _, below_drewN q HBB.out⟩
  · obtain ⟨e1, hp60⟩ := many_yes hy
    have hV : nestV kind base cs ss = nestL kind base cs ss (prodK cs cs.length) := by unfold nestV; rw [hy]; rfl
    rw [hV]
    have hnn := hy
    unfold nestY at hnn
    rw [Bool.and_eq_true] at hnn
    rw [e1, hnn.1] at HIN
    have hnb := hnn.1
    unfold nestB at hnb
    simp only [Bool.and_eq_true, decide_eq_true_eq] at hnb
    obtain ⟨⟨⟨⟨_, hba⟩, hn3⟩, hlen⟩, hlb⟩ := hnb
    have hbase := isA_of hba
    have HLA := Lib.hid (fun (j : Nat) (hj : j < cs.length) => loopB_at hlb j hj)
    have HCN := Lib.hid (fun (j : Nat) (hj : j < cs.length) => (show cs.getD j 0 = ((cN cs j : Nat) : Int) ∧ 1 ≤ cN cs j ∧ cN cs j ≤ 60 from by have := (loopB_at hlb j hj).1; unfold cN; omega))
    have HLP := Lib.hid (fun d k (x : Int) => show lpA cs ss (d + 1) k x = lpA cs ss d (k / cN cs d) (x + ((k % cN cs d : Nat) : Int) * ss.getD d 0) from rfl)
    have HLP0 := Lib.hid (fun k (x : Int) => show lpA cs ss 0 k x = x from rfl)
    have HLB := Lib.hid (fun k => lpA_base cs ss base cs.length k)
    have HMR := Lib.hid (fun (d : Nat) (hd : d < cs.length) (k : Nat) => (show -60000 ≤ ((k % cN cs d : Nat) : Int) * ss.getD d 0 ∧ ((k % cN cs d : Nat) : Int) * ss.getD d 0 ≤ 60000 from by
      obtain ⟨⟨c1, c2⟩, s1, s2⟩ := loopB_at hlb d hd
      have hc : 0 < cN cs d := by unfold cN; omega
      have hc2 : cN cs d ≤ 60 := by unfold cN; omega
      have hm : k % cN cs d < cN cs d := Nat.mod_lt _ hc
      exact mul_rng _ _ (by omega) s1 s2))
    have HLS := Lib.hid (fun k => nestL_succ kind base cs ss k)
    have HLL := Lib.hid (fun k => nestL_len kind base cs ss k)
    have HL0 := Lib.hid (show nestL kind base cs ss 0 = [] from rfl)
    have HC1 := Lib.hid (fun (j : Nat) (hj : j < cs.length) => h1 j hj)
    have HC2 := Lib.hid (fun (j : Nat) (hj : j < cs.length) => h2 j (by omega))
    clear h1 h2 hb0 hlb hba k0 k1 k2 k3 hy hnn e1 hV
    generalize nestY kind base cs ss = ok at *
    generalize hNL : nestL kind base cs ss = NL at *
    clear hNL
    generalize prodK cs cs.length = P at *
    generalize hCN : cN cs = CN at *
    generalize hLP : lpA cs ss = LP at *
    clear hCN hLP
    generalize hNN : cs.length = N at *
    generalize hPF : plcAt cs ss base N = F at *
    clear hPF
    generalize hMM : ss.length = M at *
    clear hNN hMM
    subst hlen
    go_enter Try.func6, Try.ntmps6
    go_wp2_with fail
    refine HIN.out.mono ?_; rintro e w1 ⟨rfl, q, rfl⟩
    have hpi : ¬ (60 : Int) < (P : Int) := by omega
    generalize hW : w.alloc (.cells #[.int .i64 kind, .int .i64 base, .slice a N c, .slice a' N c'] 29) = W at *
    have hzq : (W.drewN q).heap.size = w.heap.size + 1 := hz
    have HBQ := Lib.hid (show Below (w.heap.size + 1) W (W.drewN q) from below_drewN q (Below.refl _ _))
    generalize W.drewN q = W1 at *
    have O1 := Lib.hid (ownA_lit0 W1)
    have HB2 := Lib.hid (HBQ.out.trans (((Below.refl _ W1).alloc (Nat.le_refl _) (.cells #[] 40)).mono (by omega)))
    rw [hzq] at O1
    clear hz HIN HBB HBQ hW
    go_wp2
    try rw [hzq]
    generalize hW2 : W1.alloc (.cells #[] 40) = W2 at *
    clear hW2 hzq
    go_loopw [6, 7, 8, 9, 10] (fun v i _ _ _ wr => ∃ k : Nat, k ≤ P ∧ i = .int .i64 k ∧ Hid (OwnA wr (w.heap.size + 1) v (NL k)) ∧ Hid (Below (w.heap.size + 1) W wr)) (fun _ i _ _ _ _ => P - (intOf i).toNat)
    case atStart => exact ⟨0, Nat.zero_le _, rfl, (by rw [HL0.out]; exact O1), HB2⟩
    case round =>
      obtain ⟨k, hk, rfl, ho, hb⟩ := hrel
      obtain ⟨⟨k0, k1, k2, k3⟩, hbel, hs⟩ := HB.out wr hb.out
      by_cases hlt : k < P
      · obtain ⟨wq, rfl⟩ : ∃ wq, wq = wr := ⟨_, rfl⟩
        have hlb := Lib.hid (HLB.out k)
        go_wp2
        go_loopw [8, 9, 10] (fun rv av iv wr2 => ∃ (d x : Nat) (y : Int) (q : Nat), d ≤ N ∧ rv = .int .i64 x ∧ av = .int .i64 y ∧ iv = .int .i64 ((d : Int) - 1) ∧ x ≤ 60 ∧ -60000 * ((N - d : Nat) : Int) ≤ y ∧ y ≤ 63 + 60000 * ((N - d : Nat) : Int) ∧ wr2 = wq.drewN q ∧ Hid (LP d x y = F k)) (fun _ _ iv _ => (intOf iv + 1).toNat)
        case atStart => exact ⟨N, k, base, 0, Nat.le_refl _, rfl, rfl, by go_num, by omega, by omega, by omega, rfl, hlb⟩
        case round =>
          obtain ⟨d, x, y, q, hd, rfl, rfl, rfl, hx60, hy0, hy1, rfl, hlp⟩ := hrel
          cases d with
          | zero =>
            have hF := hlp.out
            rw [HLP0.out] at hF
            have ho2 := Lib.hid (OwnA.drewN ho.out q)
            have hk0 : (wq.drewN q).cell? ⟨w.heap.size, 0, none⟩ = some (.int .i64 kind) := k0
            have hlen2 : (NL k).length + 1 ≤ 100000000 := by rw [HLL.out]; omega
            have hls := HLS.out k
            rw [← hF] at hls
            have hls2 := Lib.hid hls
            have hsz : w.heap.size + 1 ≤ (wq.drewN q).heap.size := hs
            have hB9 := Lib.hid (show Below (w.heap.size + 1) W (wq.drewN q) from below_drewN q hb.out)
            have t1 := Int.lt_tmod_of_pos y (show (0 : Int) < 64 by decide)
            have t2 := Int.tmod_lt_of_pos y (show (0 : Int) < 64 by decide)
            have hoo := ho2.out
            unfold wrA at hls2
            clear hF hls hlp ho k1 k2 k3 hbel hb
            generalize NL k = l at *
            generalize wq.drewN q = w9 at *
            go_wp2_with (at_builtin; refine wpList_appA _ rfl _ _ rfl (w.heap.size + 1) _ l _ _ ?_ ?_ hoo hlen2 hsz ?_; rfl; rfl)
            intro v' w10 ho10 hb10 _ _
            go_wp2
            go_roundw
            case rel => exact ⟨k + 1, by omega, by go_num, (by rw [hls2.out, show (Int.tmod y 64 + 64) % 64 = Int.tmod y 64 % 64 by omega]; exact ho10), hB9.out.trans hb10⟩
            case measure => simp [intOf] <;> omega
          | succ d =>
            rw [show (((d + 1 : Nat) : Int) - 1) = (d : Int) by omega]
            obtain ⟨b, off, ha, c1, hbw⟩ := HC1.out d hd
            obtain ⟨b', off', ha', c2, hbw'⟩ := HC2.out d hd
            obtain ⟨hcn, hc1, hc60⟩ := HCN.out d hd
            have hlp2 := hlp.out
            rw [HLP.out] at hlp2
            obtain ⟨m0, m1⟩ := HMR.out d hd x
            have q2 : wq.cell? ⟨w.heap.size, 2, none⟩ = some (.slice (some ⟨b, off, none⟩) N c) := by rw [← ha]; exact k2
            have q3 : wq.cell? ⟨w.heap.size, 3, none⟩ = some (.slice (some ⟨b', off', none⟩) N c') := by rw [← ha']; exact k3
            have d1 : wq.cell? ⟨b, off + d, none⟩ = some (.int .i64 (CN d : Nat)) := by rw [← hcn]; exact (hbel.cell (p := ⟨b, off + d, none⟩) hbw).trans c1
            have d2 : wq.cell? ⟨b', off' + d, none⟩ = some (.int .i64 (ss.getD d 0)) := (hbel.cell (p := ⟨b', off' + d, none⟩) hbw').trans c2
            have hlp3 := Lib.hid hlp2
            have hdN : N - d = (N - (d + 1)) + 1 := by omega
            clear c1 c2 hlp hlp2 k0 k1 k2 k3 hcn
            generalize ss.getD d 0 = s at *
            generalize hcc : CN d = cc at *
            clear hcc
            have hne : ¬ ((cc : Int) = 0) := by omega
            have hpos : (1 : Int) ≤ (cc : Int) := by omega
            have et : Int.tmod (x : Int) (cc : Int) = ((x % cc : Nat) : Int) := (Int.ofNat_tmod x cc).symm
            have ed : Int.tdiv (x : Int) (cc : Int) = ((x / cc : Nat) : Int) := (Int.ofNat_tdiv x cc).symm
            have hx2 : x / cc ≤ 60 := Nat.le_trans (Nat.div_le_self _ _) hx60
            have hmod : x % cc ≤ x := Nat.mod_le _ _
            obtain ⟨m, hm⟩ : ∃ m, ((x % cc : Nat) : Int) * s = m := ⟨_, rfl⟩
            rw [hm] at m0 m1 hlp3
            have em : (x : Int) % (cc : Int) = ((x % cc : Nat) : Int) := by simp
            have ed2 : (x : Int) / (cc : Int) = ((x / cc : Nat) : Int) := by simp
            have e9 : IntKind.i64.wrap ((x : Int) % (cc : Int) * s) = m := by rw [em, hm]; exact IntWalk.i64_in _ (by omega)
            have hd0 : 0 ≤ (x : Int) / (cc : Int) := by rw [ed2]; exact Int.natCast_nonneg _
            have hd1 : (x : Int) / (cc : Int) ≤ 60 := by rw [ed2]; omega
            have hED := Lib.hid ed2
            clear hm em ed2 et ed
            go_wp2
            go_quiet (fail)
            go_wp2
            go_roundw
            case rel => exact ⟨d, x / cc, y + m, q + nq, by omega, (by rw [← hED.out]), by go_num, by go_num, hx2, by omega, by omega, by first | rfl | (rw [World.drewN_drewN]), hlp3⟩
            case measure => simp [intOf] <;> omega
      · have e : k = P := by omega
        subst e
        have hoo := ho.out
        go_wp2
        go_ret2
        exact ⟨_, rfl, OwnA.mono hoo (Nat.le_succ _), hbel⟩
end Go.Proofs.Ytefhjgcgkbpnkaa.Nst
