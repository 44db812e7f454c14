/- The program's NestTrace. -/
import Derived.Test.YtefhjgcgkbpnkaaCnestI
namespace Go.Proofs.Ytefhjgcgkbpnkaa.Nst
open Go.RowKit Tr Ac
/-- What a function leaves that returns accesses of its own and whether it succeeded. -/
def ResN (rs : List (Int × Int)) (ok : Bool) (w : World) (e : Ending) (w' : World) : Prop := ∃ v, e = .returned (.tuple #[v, .bool ok]) ∧ OwnA w' w.heap.size v rs ∧ Below w.heap.size w w'
theorem nestV_no {kind base : Int} {cs ss : List Int} (h : nestY kind base cs ss = false) : nestV kind base cs ss = [] := by unfold nestV; rw [h]; rfl
set_option maxHeartbeats 8000000 in
set_option maxRecDepth 100000 in
theorem nest_i {v : Value} {kind base : Int} {cs ss : List Int} {w : World} (h : RdN w v kind base cs ss) :
    Calls Try.prog 8 #[v] w (ResN (nestV kind base cs ss) (nestY kind base cs ss) w) := by
  obtain ⟨a, c, a', c', rfl, h1, h2, h3, h4, h5, h6⟩ := h
  have HB := Lib.hid (box4 w 29 (.int .i64 kind) (.int .i64 base) (.slice a cs.length c) (.slice a' ss.length c'))
  have hb0 := (HB.out _ (Below.refl _ _)).2.1
  have HIN := Lib.hid (isnest_i (kind := kind) (base := base) (cs := cs) (ss := ss) (w := w.alloc (.cells #[.int .i64 kind, .int .i64 base, .slice a cs.length c, .slice a' ss.length c'] 29)) ⟨a, c, a', c', rfl, h1.below hb0, h2.below hb0, h3, h4, h5, h6⟩)
  have hz : (w.alloc (.cells #[.int .i64 kind, .int .i64 base, .slice a cs.length c, .slice a' ss.length c'] 29)).heap.size = w.heap.size + 1 := Array.size_push _
  cases hn : nestB kind base cs ss
  · have e : nestY kind base cs ss = false := by unfold nestY; rw [hn]; rfl
    rw [e, nestV_no e]
    rw [hn] at HIN
    have HEND := Lib.hid (fun (w1 : World) (b : Below (w.alloc (.cells #[.int .i64 kind, .int .i64 base, .slice a cs.length c, .slice a' ss.length c'] 29)).heap.size (w.alloc (.cells #[.int .i64 kind, .int .i64 base, .slice a cs.length c, .slice a' ss.length c'] 29)) w1) => hb0.trans (b.mono (by omega)))
    clear h1 h2 hn e HB hb0 hz
    generalize cs.length = N at *
    generalize ss.length = M at *
    go_enter Try.func8, Try.ntmps8
    go_wp2_with fail
    refine HIN.out.mono ?_; rintro e w1 ⟨rfl, b1⟩
    have HBE := Lib.hid (HEND.out w1 b1)
    clear b1
    go_wp2
    go_ret2
    exact ⟨_, rfl, OwnA.nil _ _, HBE.out⟩
  · rw [hn] at HIN
    have hnb := hn
    unfold nestB at hnb
    simp only [Bool.and_eq_true, decide_eq_true_eq] at hnb
    obtain ⟨⟨⟨⟨_, hba⟩, hn3⟩, hlen⟩, hlb⟩ := hnb
    have hbase := isA_of hba
    have HLA := Lib.hid (fun (j : Nat) (hj : j < cs.length) => loopB_at hlb j hj)
    have HCN := Lib.hid (fun (j : Nat) (hj : j < cs.length) => (show cs.getD j 0 = ((cN cs j : Nat) : Int) from by have := (loopB_at hlb j hj).1; unfold cN; omega))
    have HPM := Lib.hid (fun (d : Nat) (hd : d ≤ cs.length) => prodK_mono cs ss cs.length hlb d cs.length hd (Nat.le_refl _))
    have HPR := Lib.hid (fun d => show prodK cs (d + 1) = prodK cs d * cN cs d from rfl)
    have HRG := Lib.hid (fun (d : Nat) (hd : d ≤ cs.length) (k : Nat) => plcAt_rng cs ss base hbase cs.length hlb d hd k)
    have HLF := Lib.hid (fun (d : Nat) (hd : d < cs.length) => lf_plc cs ss base d (by have := (loopB_at hlb d hd).1; unfold cN; omega))
    have HGD := Lib.hid (fun d k (hk : k < prodK cs d) => told_getD (plcAt cs ss base d) (prodK cs d) k hk)
    have HLN := Lib.hid (fun d => told_length (plcAt cs ss base d) (prodK cs d))
    have HFR := Lib.hid (fun (d : Nat) (hd : d < cs.length) (a4 : Option Addr) (c4 : Nat) (w9 : World) (hP : prodK cs d * cN cs d ≤ 60) (hr : Row w9 a4 (told (plcAt cs ss base d) (prodK cs d))) => (show Calls Try.prog 20 #[.slice a4 (prodK cs d) c4, .int .i64 ((cN cs d : Nat) : Int), .int .i64 (ss.getD d 0)] w9 (Lb (told (plcAt cs ss base (d + 1)) (prodK cs (d + 1))) w9) from by
      obtain ⟨⟨k1, k2⟩, s1, s2⟩ := loopB_at hlb d hd
      have hc1 : 1 ≤ cN cs d := by unfold cN; omega
      have hc2 : cN cs d ≤ 60 := by unfold cN; omega
      have h := loopfrom_i a4 c4 (told (plcAt cs ss base d) (prodK cs d)) (cN cs d) (ss.getD d 0) w9 hc1 hc2 s1 s2 (by rw [told_length]; exact hP) (fun j hj => by
        rw [told_length] at hj
        rw [told_getD _ _ _ hj]
        have := plcAt_rng cs ss base hbase cs.length hlb d (by omega) j
        omega) hr
      rw [told_length, lf_plc cs ss base d (by omega)] at h
      exact h))
    have HYES := Lib.hid (fun (hp : prodK cs cs.length ≤ 60) => (show nestY kind base cs ss = true ∧ nestV kind base cs ss = nestL kind base cs ss (prodK cs cs.length) from by
      have e : nestY kind base cs ss = true := by unfold nestY; rw [hn, decide_eq_true hp]; rfl
      exact ⟨e, by unfold nestV; rw [e]; rfl⟩))
    have HNO := Lib.hid (fun (hp : ¬ prodK cs cs.length ≤ 60) => (show nestY kind base cs ss = false ∧ nestV kind base cs ss = [] from by
      have e : nestY kind base cs ss = false := by unfold nestY; rw [decide_eq_false hp, Bool.and_false]
      exact ⟨e, nestV_no e⟩))
    have HLS := Lib.hid (fun k => nestL_succ kind base cs ss k)
    have HLL := Lib.hid (fun k => nestL_len kind base cs ss k)
    have HL0 := Lib.hid (show nestL kind base cs ss 0 = [] from rfl)
    have HP0 := Lib.hid (show prodK cs 0 = 1 from rfl)
    have HT0 := Lib.hid (show told (plcAt cs ss base 0) 1 = [base] from rfl)
    have HC1 := Lib.hid (fun (j : Nat) (hj : j < cs.length) => h1 j hj)
    have HC2 := Lib.hid (fun (j : Nat) (hj : j < cs.length) => h2 j (by omega))
    have HEND := Lib.hid (fun (w1 : World) (b : Below (w.alloc (.cells #[.int .i64 kind, .int .i64 base, .slice a cs.length c, .slice a' ss.length c'] 29)).heap.size (w.alloc (.cells #[.int .i64 kind, .int .i64 base, .slice a cs.length c, .slice a' ss.length c'] 29)) w1) => (show Below (w.heap.size + 1) (w.alloc (.cells #[.int .i64 kind, .int .i64 base, .slice a cs.length c, .slice a' ss.length c'] 29)) w1 from b.mono (by omega)))
    clear h1 h2 hn hb0 hz hlb hba
    generalize nestY kind base cs ss = ok at *
    generalize nestV kind base cs ss = V at *
    generalize hNL : nestL kind base cs ss = NL at *
    clear hNL
    generalize hPK : prodK cs = PK at *
    generalize hCN : cN cs = CN at *
    generalize hPL : plcAt cs ss base = PL at *
    clear hPK hCN hPL
    generalize hNN : cs.length = N at *
    generalize hMM : ss.length = M at *
    clear hNN hMM
    subst hlen
    generalize hW : w.alloc (.cells #[.int .i64 kind, .int .i64 base, .slice a N c, .slice a' N c'] 29) = W at *
    have HW := Lib.hid hW
    clear hW
    go_enter Try.func8, Try.ntmps8
    go_wp2_with fail
    rw [HW.out]
    refine HIN.out.mono ?_; rintro e w1 ⟨rfl, b1⟩
    have HB1 := Lib.hid (HEND.out w1 b1)
    obtain ⟨⟨k0, k1, k2, k3⟩, hbel, hs1⟩ := HB.out w1 HB1.out
    have O1 := Lib.hid ((Own.lit w1 base).mono (B' := w.heap.size + 1) hs1)
    have HB2 := Lib.hid (HB1.out.trans (((Below.refl _ w1).alloc (Nat.le_refl _) (.cells #[.int .i64 base] 2)).mono hs1))
    have HCL := Lib.hid (fun (wr : World) (hb : Below (w.heap.size + 1) W wr) => HB.out wr hb)
    clear b1 HEND HIN hbel HB
    obtain ⟨⟨q0, q1, q2, q3⟩, _, _⟩ := HCL.out _ HB2.out
    go_wp2
    generalize hW2 : w1.alloc (.cells #[.int .i64 base] 2) = W2 at *
    have hsz2 : w1.heap.size + 1 = W2.heap.size := by rw [← hW2]; exact (Array.size_push _).symm
    clear hW2 k0 k1 k2 k3 q0 q1 q2 q3
    go_loopw [4, 5, 6, 19] (fun v4 _ _ i wr => ∃ (d : Nat), d ≤ N ∧ i = .int .i64 d ∧ Hid (Own wr (w.heap.size + 1) v4 (told (PL d) (PK d))) ∧ PK d ≤ 60 ∧ Hid (Below (w.heap.size + 1) W wr)) (fun _ _ _ i _ => N - (intOf i).toNat)
    case atStart => exact ⟨0, Nat.zero_le _, rfl, (by rw [HP0.out, HT0.out]; exact O1.out), (by rw [HP0.out]; decide), HB2⟩
    case round =>
      obtain ⟨d, hd, rfl, ho, hp60, hb⟩ := hrel
      obtain ⟨⟨k0, k1, k2, k3⟩, hbel, hs⟩ := HCL.out wr hb.out
      obtain ⟨a4, c4, hv4⟩ := ho.out.form
      have hln := HLN.out d
      rw [hln] at hv4
      subst hv4
      by_cases hlt : d < N
      · obtain ⟨b, off, rfl, c1, hbw⟩ := HC1.out d hlt
        obtain ⟨b', off', rfl, c2, hbw'⟩ := HC2.out d hlt
        have c3 := (hbel.cell (p := ⟨b, off + d, none⟩) hbw).trans c1
        have c4' := (hbel.cell (p := ⟨b', off' + d, none⟩) hbw').trans c2
        have hcn := HCN.out d hlt
        obtain ⟨⟨g1, g2⟩, g3, g4⟩ := HLA.out d hlt
        rw [hcn] at c3 g1 g2
        have hpr := HPR.out d
        have hpm := HPM.out (d + 1) (by omega)
        have hp3600 : PK d * CN d ≤ 3600 := by
          have h1 : CN d ≤ 60 := by omega
          exact Nat.le_trans (Nat.mul_le_mul hp60 h1) (by decide)
        have e9 : IntKind.i64.wrap ((PK d : Int) * (CN d : Int)) = ((PK (d + 1) : Nat) : Int) := by
          rw [hpr]
          have : ((PK d * CN d : Nat) : Int) = (PK d : Int) * (CN d : Int) := Int.natCast_mul _ _
          rw [← this]
          exact IntWalk.i64_in _ (by omega)
        by_cases hp : PK (d + 1) ≤ 60
        · have hpi : ¬ (60 : Int) < ((PK (d + 1) : Nat) : Int) := by omega
          have hrow := ho.out.rd
          have HFD := Lib.hid (HFR.out d hlt a4 c4 wr (by rw [← hpr]; exact hp) (by
            obtain ⟨ax, cx, ex, _, _, hr⟩ := hrow
            rw [hln] at ex
            injection ex with e1 e2 e3
            subst e1
            exact hr))
          clear hrow c1 c2 hpr hp3600 hpm ho
          generalize ss.getD d 0 = sd at *
          generalize hCND : CN d = cd at *
          generalize hPD : PK d = pd at *
          clear hPD hCND
          go_wp2_with fail
          refine HFD.out.mono ?_; rintro e w5 ⟨v5, rfl, o5, b5⟩
          go_wp2
          go_roundw
          case rel => exact ⟨d + 1, by omega, by go_num, Lib.hid (o5.mono hs), hp, Lib.hid (hb.out.trans (b5.mono hs))⟩
          case measure => simp [intOf] <;> omega
        · have hpi : (60 : Int) < ((PK (d + 1) : Nat) : Int) := by omega
          obtain ⟨e1, e2⟩ := HNO.out (by omega)
          clear HNO HYES
          subst e1 e2
          go_wp2
          go_ret2
          exact ⟨_, rfl, OwnA.nil _ _, hbel⟩
      · have e : d = N := by omega
        subst e
        obtain ⟨e1, e2⟩ := HYES.out hp60
        clear HNO HYES
        subst e1
        have HV := Lib.hid e2
        clear e2
        obtain ⟨wq, rfl⟩ : ∃ wq, wq = wr := ⟨_, rfl⟩
        have hgd := Lib.hid (HGD.out d)
        have hrg := Lib.hid (fun k => HRG.out d (Nat.le_refl _) k)
        have hrow := ho.out.rd
        have HR4 := Lib.hid (fun (w9 : World) (hb9 : Below wq.heap.size wq w9) (k : Nat) (hk : k < PK d) => (show ∃ b off, a4 = some ⟨b, off, none⟩ ∧ w9.cell? ⟨b, off + k, none⟩ = some (.int .i64 (PL d k)) ∧ b < wq.heap.size from by
          obtain ⟨ax, cx, ex, _, _, hr⟩ := hrow
          rw [hln] at ex
          injection ex with e1 e2 e3
          subst e1
          obtain ⟨b, off, h1, h2, h3⟩ := hr k (by rw [hln]; exact hk)
          rw [hgd.out k hk] at h2
          exact ⟨b, off, h1, (hb9.cell (p := ⟨b, off + k, none⟩) h3).trans h2, h3⟩))
        have HB9 := Lib.hid (fun (w9 : World) (hb9 : Below wq.heap.size wq w9) => HCL.out w9 (hb.out.trans (hb9.mono hs)))
        clear hrow ho HCL k0 k1 k2 k3
        generalize PK d = P at *
        generalize PL d = F at *
        go_wp2
        go_loopw [7, 9, 40] (fun v7 _ i w5 => ∃ k : Nat, k ≤ P ∧ i = .int .i64 k ∧ Hid (OwnA w5 wq.heap.size v7 (NL k)) ∧ Hid (Below wq.heap.size wq w5)) (fun _ _ i _ => P - (intOf i).toNat)
        case atStart => exact ⟨0, Nat.zero_le _, rfl, (by rw [HL0.out]; exact OwnA.nil _ _), Lib.hid (Below.refl _ _)⟩
        case round =>
          obtain ⟨k, hk, rfl, ho5, hb5⟩ := hrel
          by_cases hlt2 : k < P
          · obtain ⟨b, off, rfl, c1, _⟩ := HR4.out wr hb5.out k hlt2
            obtain ⟨⟨k0, _, _, _⟩, _, _⟩ := HB9.out wr hb5.out
            obtain ⟨r0, r1⟩ := hrg.out k
            have hwr := Lib.hid (fun w9 => (wrap_i (F k) w9 (by omega) (by omega)).mono (R' := fun e w' => e = .returned (.int .i64 (wrA (F k))) ∧ Below w9.heap.size w9 w') fun e w' ⟨he, hw⟩ => ⟨he, by rw [← hw]; exact Below.refl _ _⟩)
            have hls := Lib.hid (HLS.out k)
            have hlen2 : (NL k).length + 1 ≤ 100000000 := by rw [HLL.out]; omega
            have hll := HLL.out k
            have hK9 := Lib.hid (fun (w9 : World) (b9 : Below wr.heap.size wr w9) => (show w9.cell? ⟨w.heap.size, 0, none⟩ = some (.int .i64 kind) ∧ OwnA w9 wq.heap.size u7 (NL k) ∧ wq.heap.size ≤ w9.heap.size ∧ Below wq.heap.size wq w9 from
              ⟨(HB9.out w9 (hb5.out.trans (b9.mono hb5.out.size))).1.1, OwnA.below ho5.out b9 (Nat.le_refl _), Nat.le_trans hb5.out.size b9.size, hb5.out.trans (b9.mono hb5.out.size)⟩))
            clear hb5
            generalize hNk : NL k = l at *
            clear hNk
            generalize wrA (F k) = ad at *
            go_wp2
            go_region_law (first | (refine step_appA w9 rfl (.tmp 44) (.tmp 50) rfl wq.heap.size _ l kind ad (by first | rfl | simp [Act.eval, Act.put]) (by first | rfl | simp [Act.eval, Act.put]) (hK9.out w9 (drew_below bb)).2.1 hlen2 (hK9.out w9 (drew_below bb)).2.2.1 ?_; intro g cap w10 ho10 hb10) | (go_simp; go_at_call 21; (with_reducible refine (hwr.out _).mono ?_); rintro e w9 ⟨rfl, bb⟩; have hk9 := (hK9.out w9 (drew_below bb)).1))
            all_goals
              have HB10 := Lib.hid ((hK9.out w9 (drew_below bb)).2.2.2.trans hb10)
              rw [hll] at ho10
              have HO10 := Lib.hid ho10
              clear bb hb10 ho10
              go_wp2
              go_roundw
              case rel => exact ⟨k + 1, by omega, by go_num, (by rw [hls.out]; exact HO10), HB10⟩
              case measure => simp [intOf] <;> omega
          · have e : k = P := by omega
            subst e
            have hoo := ho5.out
            rw [← HV.out] at hoo
            go_wp2
            go_ret2
            exact ⟨_, rfl, OwnA.mono hoo (Nat.le_of_lt hs), (HB9.out _ hb5.out).2.1⟩
end Go.Proofs.Ytefhjgcgkbpnkaa.Nst
