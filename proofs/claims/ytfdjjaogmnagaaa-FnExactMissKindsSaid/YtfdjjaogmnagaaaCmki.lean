/- Contract of the program's MissKinds. -/
import Derived.Test.YtfdjjaogmnagaaaCmkd
import Derived.Deep.CutRange
import Derived.Deep.RegionHeld3
namespace Go.Proofs.Ytfdjjaogmnagaaa.Ix
open Go.RowKit Tr Bt
theorem kindN_mis (ns : List Nat) (hl : ns.length ≤ 3) (pl : Nat) (un : List Nat) (h64 : ∀ i, un.getD i 0 < 64) :
    kindN ns pl (castL un) = [((frst un un.length : Nat) : Int), ((frst un un.length + sumM (pad []) (wholeP ns pl) (reus un un.length) (reus un un.length).length : Nat) : Int) - ((frst un un.length : Nat) : Int), ((frst un un.length + sumM (pad ns) pl (reus un un.length) (reus un un.length).length : Nat) : Int) - ((frst un un.length + sumM (pad []) (wholeP ns pl) (reus un un.length) (reus un un.length).length : Nat) : Int)] := by
  have h1 := mis_eq (pad ns) ns.length pl (fun y => setF_pad ns y hl) un h64 un.length (Nat.le_refl _)
  have h2 := mis_eq (pad []) 0 (wholeP ns pl) (fun y => setF_pad [] y (by simp)) un h64 un.length (Nat.le_refl _)
  unfold kindN sumM
  rw [castL_len, h1, h2, ← frst_all, List.take_length]
set_option maxHeartbeats 4000000 in
theorem kind_i {v vu : Value} {xs us : List Int} {w : World} (h : RdX w v xs) (hu : Rd w vu us) (hul : us.length ≤ 1048576) (n : Int) :
    Calls Try.prog 8 #[v, .int .i64 n, vu] w (Res (kindV xs n us) (okX xs && (okPl n && okU us)) w) := by
  have HP := Lib.hid (fun w9 => places_i n w9)
  have HU := Lib.hid (fun w9 (hb : Below w.heap.size w w9) => uses_iR (hu.below hb) hul)
  cases hb : (okX xs && (okPl n && okU us))
  · rw [kindV_no hb]
    cases ho : okX xs
    · have HR := Lib.hid (fun w9 (hb : Below w.heap.size w w9) => rows_no (h.below hb) ho)
      obtain ⟨a, c, rfl, _, _, _⟩ := h
      obtain ⟨ua, uc, rfl, _, _, _⟩ := hu
      have b0 : Below w.heap.size w (w.alloc (.cells #[.slice a xs.length c] 28)) := (Below.refl _ w).alloc (Nat.le_refl _) _
      have H := Lib.hid (HR.out _ b0)
      unfold RowsR aggR at H
      have B0 := Lib.hid b0
      clear b0 HR ho hb hul HU HP
      generalize xs.length = N at *
      generalize us.length = M at *
      go_enter Try.func8, Try.ntmps8
      go_wp2_with (go_at_call 21; refine H.out.mono ?_; rintro e w1 ⟨rfl, b1⟩)
      go_ret2
      exact ⟨_, rfl, Own.nil _ _, (bt B0.out b1).alloc (by have := B0.out.size; have := b1.size; omega) _⟩
    · obtain ⟨ns, rfl, hl, h64⟩ := okX_nat ho
      have HR := Lib.hid (fun w9 (hb : Below w.heap.size w w9) => rows_yes (h.below hb) hl ho)
      obtain ⟨a, c, rfl, _, _, _⟩ := h
      have b0 : Below w.heap.size w (w.alloc (.cells #[.slice a (castL ns).length c] 28)) := (Below.refl _ w).alloc (Nat.le_refl _) _
      have H := Lib.hid (HR.out _ b0)
      have HUW := Lib.hid (fun (w1 : World) (b1 : Below (w.alloc (.cells #[.slice a (castL ns).length c] 28)).heap.size (w.alloc (.cells #[.slice a (castL ns).length c] 28)) w1) (o : Obj) => HU.out (w1.alloc o) ((bt b0 b1).alloc (by have := b0.size; have := b1.size; omega) _))
      obtain ⟨ua, uc, rfl, _, _, _⟩ := hu
      unfold RowsR aggR at H
      have B0 := Lib.hid b0
      rw [ho, Bool.true_and] at hb
      clear b0 HR ho hul HU h64 hl
      generalize pad ns 0 = r0 at *
      generalize pad ns 1 = r1 at *
      generalize pad ns 2 = r2 at *
      generalize (castL ns).length = N at *
      generalize us.length = M at *
      generalize okPl n = op at *
      generalize okU us = ou at *
      cases op <;> cases ou <;> first | (exact absurd hb (by decide)) | skip
      all_goals
        clear hb
        go_enter Try.func8, Try.ntmps8
        go_wp2_with (first | (go_at_call 21; refine H.out.mono ?_; rintro e w1 ⟨rfl, b1⟩) | (go_at_call 22; refine (HP.out _).mono ?_; rintro e w' ⟨rfl, rfl⟩) | (go_at_call 23; refine (HUW.out w1 b1 _).mono ?_; rintro e w' ⟨rfl, rfl⟩))
        go_ret2
        exact ⟨_, rfl, Own.nil _ _, (bt B0.out b1).alloc (by have := B0.out.size; have := b1.size; omega) _⟩
  · have hb' := hb
    rw [Bool.and_eq_true, Bool.and_eq_true] at hb'
    obtain ⟨hx, hp, ho⟩ := hb'
    obtain ⟨ns, rfl, hl, h64⟩ := okX_nat hx
    obtain ⟨un, rfl, hu64⟩ := okU_nat ho
    have hp' := hp
    unfold okPl at hp'
    rw [Bool.and_eq_true, decide_eq_true_eq, decide_eq_true_eq] at hp'
    obtain ⟨pl, rfl⟩ := Int.eq_ofNat_of_zero_le (show 0 ≤ n by omega)
    have hlen : un.length ≤ 60 := by have := okU_len ho; rwa [castL_len] at this
    rw [kindV_yes hb, kindN_mis ns hl pl un hu64]
    have hrk := rk_three _ (spanS_len (pad ns))
    obtain ⟨hsh, hwp⟩ := shlP pl (rk 8 (spanS (pad ns)).length) (by omega) hrk
    have HRK := Lib.hid (fun w9 => rank_i (pad ns) w9 (fun i _ => h64 i))
    have hfr := frst_le un un.length
    have hs0 := sumM_le (pad []) (wholeP ns pl) (reus un un.length) (reus un un.length).length
    have hs1 := sumM_le (pad ns) pl (reus un un.length) (reus un un.length).length
    have hrl := reus_len un un.length
    have hq0 : frst un un.length + sumM (pad []) (wholeP ns pl) (reus un un.length) (reus un un.length).length ≤ 120 := by omega
    have hq1 : frst un un.length + sumM (pad ns) pl (reus un un.length) (reus un un.length).length ≤ 120 := by omega
    clear hs0 hs1
    have HMJ := Lib.hid (fun (w9 : World) (B : Nat) (v9 : Value) (ho9 : OwnU w9 B v9 (reus un un.length)) => (show Calls Try.prog 25 #[.agg #[.int .i64 (frst un un.length : Int), v9], .agg #[.int .i64 0, .int .i64 0, .int .i64 0], .int .i64 (wholeP ns pl : Int)] w9 _ from misses_i (frst un un.length) (wholeP ns pl) B (pad []) v9 (reus un un.length) w9 ho9 (by omega) (by unfold wholeP; omega) (by omega) (reus_mem hu64 un.length) (fun i hi => by show 0 < 64; decide)))
    have HR := Lib.hid (fun w9 (hb : Below w.heap.size w w9) => rows_yes (h.below hb) hl hx)
    obtain ⟨a, c, rfl, _, _, _⟩ := h
    have b0 : Below w.heap.size w (w.alloc (.cells #[.slice a (castL ns).length c] 28)) := (Below.refl _ w).alloc (Nat.le_refl _) _
    have H := Lib.hid (HR.out _ b0)
    have HUW := Lib.hid (fun (w1 : World) (b1 : Below (w.alloc (.cells #[.slice a (castL ns).length c] 28)).heap.size (w.alloc (.cells #[.slice a (castL ns).length c] 28)) w1) (o : Obj) => HU.out (w1.alloc o) ((bt b0 b1).alloc (by have := b0.size; have := b1.size; omega) _))
    obtain ⟨ua, uc, rfl, _, _, hur⟩ := hu
    have HH := Lib.hid (fun (w9 : World) (hb : Below w.heap.size w w9) => hist_i ua uc un w9 hlen hu64 (hur.below hb))
    have HMI := Lib.hid (fun (w9 : World) (B : Nat) (v9 : Value) (ho9 : OwnU w9 B v9 (reus un un.length)) => misses_i (frst un un.length) pl B (pad ns) v9 (reus un un.length) w9 ho9 (by have := frst_le un un.length; omega) (by omega) (by have := reus_len un un.length; omega) (reus_mem hu64 un.length) (fun i hi => h64 i))
    unfold RowsR aggR at H
    unfold aggR at HMI
    have B0 := Lib.hid b0
    have hNN := castL_len un
    rw [hp] at HP
    rw [ho] at HUW
    clear b0 HR ho hul HU h64 hl hb hx hp hp' hu64 hur
    unfold aggR at HRK
    unfold wholeP at *
    generalize frst un un.length + sumM (pad ns) pl (reus un un.length) (reus un un.length).length = q1 at *
    generalize rk 8 (spanS (pad ns)).length = k at *
    generalize pl * 2 ^ k = P at *
    generalize frst un un.length + sumM (pad []) P (reus un un.length) (reus un un.length).length = q0 at *
    generalize frst un un.length = F at *
    generalize reus un un.length = R at *
    generalize pad ns 0 = r0 at *
    generalize pad ns 1 = r1 at *
    generalize pad ns 2 = r2 at *
    generalize (castL ns).length = N at *
    generalize (castL un).length = M' at *
    generalize un.length = M at *
    subst hNN
    go_enter Try.func8, Try.ntmps8
    go_wp2_with (first | (go_at_call 21; refine H.out.mono ?_; rintro e w1 ⟨rfl, b1⟩) | (go_at_call 22; refine (HP.out _).mono ?_; rintro e w' ⟨rfl, rfl⟩) | (go_at_call 23; refine (HUW.out w1 b1 _).mono ?_; rintro e w' ⟨rfl, rfl⟩))
    have KW := Kb.new w1 w1.heap.size [.int .i64 (r0 : Int), .int .i64 (r1 : Int), .int .i64 (r2 : Int)] 44 rfl
    have BW := Lib.hid ((bt B0.out b1).alloc (by have := B0.out.size; have := b1.size; omega) (.cells #[.int .i64 (r0 : Int), .int .i64 (r1 : Int), .int .i64 (r2 : Int)] 44))
    generalize w1.heap.size = b8 at *
    generalize w1.alloc (.cells #[.int .i64 (r0 : Int), .int .i64 (r1 : Int), .int .i64 (r2 : Int)] 44) = W at *
    refine (HH.out _ BW.out).mono ?_; rintro e w3 ⟨v3, rfl, ho3, b3⟩
    obtain ⟨va, vc, rfl⟩ := ho3.form
    have K3 := KW.below b3 KW.lt
    have K8 := K3.alloc (.cells [.int .i64 (F : Int), .slice va R.length vc].toArray 49)
    have K9 := Kb.new w3 w3.heap.size [.int .i64 (F : Int), .slice va R.length vc] 49 rfl
    have OU : OwnU (w3.alloc (.cells [.int .i64 (F : Int), .slice va R.length vc].toArray 49)) W.heap.size (.slice va R.length vc) R := ho3.below ((Below.refl _ w3).alloc (Nat.le_refl _) _) (Nat.le_refl _)
    have BV := Lib.hid ((bt BW.out b3).alloc (by have := BW.out.size; have := b3.size; omega) (.cells [.int .i64 (F : Int), .slice va R.length vc].toArray 49))
    clear KW K3 b1 H HP HUW HH b3 ho3
    go_upto_region 5 with fail
    generalize w3.heap.size = b9 at *
    generalize hVV : w3.alloc (.cells [.int .i64 (F : Int), .slice va R.length vc].toArray 49) = V at *
    have HC5 := Lib.hid (fun (w9 : World) (bb : Below V.heap.size V w9) => (show (w9.cell? ⟨b8, 0, none⟩ = some (.int .i64 (r0 : Int)) ∧ w9.cell? ⟨b8, 1, none⟩ = some (.int .i64 (r1 : Int)) ∧ w9.cell? ⟨b8, 2, none⟩ = some (.int .i64 (r2 : Int))) ∧ (w9.cell? ⟨b9, 0, none⟩ = some (.int .i64 (F : Int)) ∧ w9.cell? ⟨b9, 1, none⟩ = some (.slice va R.length vc)) ∧ Hid (OwnU w9 W.heap.size (.slice va R.length vc) R) ∧ Hid (Below w.heap.size w w9) from
      ⟨⟨(K8.below bb K8.lt).cell 0, (K8.below bb K8.lt).cell 1, (K8.below bb K8.lt).cell 2⟩, ⟨(K9.below bb K9.lt).cell 0, (K9.below bb K9.lt).cell 1⟩, Lib.hid (OU.below bb (Nat.le_refl _)), Lib.hid (bt BV.out bb)⟩))
    obtain ⟨⟨c0, c1, c2⟩, ⟨d0, d1⟩, _, _⟩ := HC5.out V (Below.refl _ V)
    clear K8 K9 OU hVV
    go_cut [11] from 31 (fun q wx => q = .int .i64 (q0 : Int) ∧ Hid (Below V.heap.size V wx))
    case first =>
      go_region_law (first
        | (go_simp; go_at_call 26; (with_reducible refine (HRK.out _).mono ?_); rintro e w6 ⟨rfl, b6⟩; have B56 : Below V.heap.size V w6 := (Below.refl _ V).drew.trans b6; obtain ⟨⟨p0, p1, p2⟩, ⟨e0, e1⟩, o6, _⟩ := HC5.out w6 B56; clear b6)
        | (go_simp; go_at_call 25; (with_reducible refine (HMJ.out _ _ _ o6.out).mono ?_); rintro e w7 ⟨rfl, b7⟩; have B57 : Below V.heap.size V w7 := bt B56 b7; clear b7))
      all_goals
        have hB57 := Lib.hid B57
        clear B57
        go_step
        go_step
        go_meet
        exact ⟨rfl, hB57⟩
    case rest =>
      obtain ⟨rfl, hBc⟩ := hcut
      clear c0 c1 c2 d0 d1 HMJ HRK
      obtain ⟨⟨c0, c1, c2⟩, ⟨d0, d1⟩, o7, B7⟩ := HC5.out wc hBc.out
      have o7d := Lib.hid (OwnU.below o7.out (Below.refl wc.heap.size wc).drew (Nat.le_refl _))
      have HK := Lib.hid (fun (w9 : World) (bb : Below wc.drew.heap.size wc.drew w9) => (show (w9.cell? ⟨b8, 0, none⟩ = some (.int .i64 (r0 : Int)) ∧ w9.cell? ⟨b8, 1, none⟩ = some (.int .i64 (r1 : Int)) ∧ w9.cell? ⟨b8, 2, none⟩ = some (.int .i64 (r2 : Int)) ∧ w9.cell? ⟨b9, 0, none⟩ = some (.int .i64 (F : Int)) ∧ w9.cell? ⟨b9, 1, none⟩ = some (.slice va R.length vc)) ∧ Hid (Below w.heap.size w w9) from by
        obtain ⟨⟨x0, x1, x2⟩, ⟨y0, y1⟩, _, y3⟩ := HC5.out w9 (bt hBc.out ((Below.refl _ wc).drew.trans bb))
        exact ⟨⟨x0, x1, x2, y0, y1⟩, y3⟩))
      have hwa : IntKind.i64.wrap ((q0 : Int) - (F : Int)) = (q0 : Int) - (F : Int) := by rw [IntKind.wrap_i64]; omega
      have hwb : IntKind.i64.wrap ((q1 : Int) - (q0 : Int)) = (q1 : Int) - (q0 : Int) := by rw [IntKind.wrap_i64]; omega
      go_wp2
      go_region_held3 (fun w' => w'.cell? ⟨b8, 0, none⟩ = some (.int .i64 (r0 : Int)) ∧ w'.cell? ⟨b8, 1, none⟩ = some (.int .i64 (r1 : Int)) ∧ w'.cell? ⟨b8, 2, none⟩ = some (.int .i64 (r2 : Int)) ∧ w'.cell? ⟨b9, 0, none⟩ = some (.int .i64 (F : Int)) ∧ w'.cell? ⟨b9, 1, none⟩ = some (.slice va R.length vc)) (first | exact ⟨c0, c1, c2, d0, d1⟩ | exact (HK.out _ (by assumption)).1 | exact (HK.out _ (Below.alloc (by assumption) (by have := b8'.size; omega) _)).1) (first | (go_at_call 25; (with_reducible refine (HMI.out _ _ _ o7d.out).mono ?_); rintro e w8 ⟨rfl, b8'⟩; have hF8 := (HK.out _ b8').2))
      all_goals
        go_wp2
        go_ret2
        exact ⟨_, rfl, (Own.lit3 _ _ _ _).mono hF8.out.size, hF8.out.alloc hF8.out.size _⟩
end Go.Proofs.Ytfdjjaogmnagaaa.Ix
