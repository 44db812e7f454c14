/- The walk of laws.FnPhased: the call returns true and writes nothing that was there. -/
import Derived.Test.YtepgbnhmobhmfaaCr8
import Derived.Test.YtepgbnhmobhmfaaCphase
import Derived.Test.YtepgbnhmobhmfaaCaddr
import Derived.Test.YtepgbnhmobhmfaaPlainCanon
namespace Go.Proofs.Ytepgbnhmobhmfaa.fnPhased
open Go.RowKit Tr
theorem rd_at {w : World} {a : Option Addr} {n c : Nat} {xs : List Int} (h : Rd w (.slice a n c) xs) (i : Nat) (hi : i < n) :
    ∃ b off, a = some ⟨b, off, none⟩ ∧ w.cell? ⟨b, off + i, none⟩ = some (.int .i64 (xs.getD i 0)) := by
  obtain ⟨a', c', e, _, _, hr⟩ := h
  injection e with e1 e2 e3
  subst e1
  obtain ⟨b, off, ha, hc, _⟩ := hr i (by omega)
  exact ⟨b, off, ha, hc⟩
theorem okU_sub (l : List Int) (s e : Nat) (h : okU l = true) : okU ((l.take e).drop s) = true := by
  unfold okU at h ⊢
  rw [Bool.and_eq_true, decide_eq_true_eq, List.all_eq_true] at h ⊢
  exact ⟨by have := h.1; simp; omega, fun y hy => h.2 y (List.mem_of_mem_take (List.mem_of_mem_drop hy))⟩
/-- A part of a list that is read. -/
theorem rd_sub {w : World} {b off n c : Nat} {l : List Int} (h : Rd w (.slice (some ⟨b, off, none⟩) n c) l) (s e : Nat) (hse : s ≤ e) (he : e ≤ n) :
    Rd w (.slice (some ⟨b, off + s, none⟩) (e - s) (c - s)) ((l.take e).drop s) := by
  obtain ⟨a', c', e0, h1, h2, hr⟩ := h
  injection e0 with e1 e2 e3
  subst e1 e3
  have hlen : ((l.take e).drop s).length = e - s := by simp; omega
  refine ⟨_, c - s, by rw [hlen], by rw [hlen]; omega, ⟨by omega, .inr ⟨b, off + s, rfl⟩⟩, Row.sub hr s e hse (by omega)⟩
/-- All that the law asks of the phases: where each begins and ends. -/
def All (l : List Int) (k : Nat) (ns : List Nat) : Prop :=
  (l.length = 0 → ns.length = 0) ∧ (1 ≤ l.length → 0 < ns.length ∧ ns.getD 0 0 = 0) ∧ ns.length ≤ l.length ∧ (∀ i, i < ns.length → ns.getD i 0 < l.length) ∧
    (∀ i, i + 1 < ns.length → ns.getD i 0 < ns.getD (i + 1) 0 ∧ (segP l (ns.getD i 0) (ns.getD (i + 1) 0)).length ≤ k ∧ (segP l (ns.getD i 0) (ns.getD (i + 1) 0 + 1)).length = k + 1) ∧
    (∀ i, i + 1 = ns.length → (segP l (ns.getD i 0) l.length).length ≤ k)
theorem all_of (l : List Int) (k : Nat) (hk : 1 ≤ k) : ∃ ns : List Nat, (phK l k l.length).1 = ns.map (fun m : Nat => (m : Int)) ∧ All l k ns := by
  obtain ⟨ns, h1, h2, h3⟩ := phases_of l k hk l.length (Nat.le_refl _)
  have hlen := (phK_up l k l.length).2.1
  rw [h1, List.length_map] at hlen
  refine ⟨ns, h1, fun h => by rw [(h2 h).1]; rfl, fun h => ⟨(h3 h).1, (h3 h).2.1⟩, hlen, fun i hi => ?_, fun i hi => ?_, fun i hi => ?_⟩
  · exact (h3 (by omega)).2.2.1 i hi
  · exact (h3 (by omega)).2.2.2.1 i hi
  · obtain ⟨_, _, _, _, g4, g5⟩ := h3 (by omega)
    rw [g4, show ns.length - 1 = i from by omega] at g5
    exact g5
theorem map_get (ns : List Nat) (i : Nat) : (ns.map (fun m : Nat => (m : Int))).getD i 0 = (ns.getD i 0 : Nat) := by
  rw [List.getD_eq_getElem?_getD, List.getD_eq_getElem?_getD, List.getElem?_map]
  cases ns[i]? <;> rfl
set_option maxHeartbeats 4000000 in
set_option maxRecDepth 100000 in
theorem walk (a0 : Option Addr) (len0 cap0 : Nat) (z0 : List Int) (a1 : Option Addr) (len1 cap1 : Nat) (z1 : List Int) (w : World) (w0 : IsRow .u8 w a0 len0 cap0 z0) (w1 : IsRow .u8 w a1 len1 cap1 z1) :
    Calls Try.prog 4 #[.slice a0 len0 cap0, .slice a1 len1 cap1] w fun e w' => e = .returned (.bool true) ∧ Below w.heap.size w w' := by
  by_cases hl : 48 < len0 ∨ 48 < len1
  · go_enter Try.func4, Try.ntmps4
    go_wp2_with (go_at_call 6; refine (R8.long_yes _ _ _ _ _ _ _ hl).mono ?_; rintro e w' ⟨rfl, rfl⟩)
    go_ret
    exact ⟨rfl, Below.refl _ _⟩
  · have l0 : len0 ≤ 48 := by omega
    have l1 : len1 ≤ 48 := by omega
    clear hl
    have HU := Lib.hid (R8.uses_any a0 len0 cap0 z0 w l0 w0)
    have HA := Lib.hid (fun (w' : World) (hb : Below w.heap.size w w') => R8.at_any a1 len1 cap1 z1 w' (isRow_below w1 hb) 0 6 (by omega) (by omega) (by omega) (by omega))
    clear w0 w1
    go_enter Try.func4, Try.ntmps4
    go_wp2_with (go_at_call 6; refine (R8.long_no _ _ _ _ _ _ _ l0 l1).mono ?_; rintro e w' ⟨rfl, rfl⟩)
    refine HU.out.mono ?_
    rintro e w1 ⟨v, l, rfl, hok, hl13, o1, b1⟩
    have HA1 := Lib.hid (HA.out w1 b1)
    go_wp2_with fail
    refine HA1.out.mono ?_
    rintro e w1' ⟨r0, r0a, r0b, rfl, rfl⟩
    obtain ⟨x0, rfl⟩ := Int.eq_ofNat_of_zero_le r0a
    obtain ⟨av, cv, hvv⟩ := o1.form
    have HPH := Lib.hid (fun (k : Nat) (h1 : 1 ≤ k) (h2 : k ≤ 64) => phases_yes_i (k : Int) o1.rd hok (by omega) (by omega))
    have HALL := Lib.hid (all_of l)
    have HRU := Lib.hid (fun (w' : World) (hb : Below w1.heap.size w1 w') => (o1.below hb (Nat.le_refl _)).rd)
    have HSUB := Lib.hid (fun (s e : Nat) => okU_sub l s e hok)
    have hcap : l.length ≤ cv ∧ cv ≤ 9223372036854775807 := by
      obtain ⟨a', c', e, h1, h2, _⟩ := o1.rd
      rw [hvv] at e
      injection e with e1 e2 e3
      omega
    clear HU HA HA1 o1 hok l0 l1 r0a
    subst hvv
    unfold All at HALL
    generalize hN : l.length = N at *
    clear hN
    have HB1 := Lib.hid b1
    clear b1
    go_wp2_with fail
    obtain ⟨k, hk⟩ : ∃ k : Nat, (1 : Int) + (x0 : Int) = (k : Int) := ⟨1 + x0, by simp⟩
    rw [hk]
    have k1 : 1 ≤ k := by omega
    have k2 : k ≤ 6 := by omega
    clear hk r0b
    have HP := HPH.out k k1 (by omega)
    obtain ⟨ns, hns, hz, hf, hle, hlt0, hstep, hlast⟩ := HALL.out k k1
    rw [hns] at HP
    have HP2 := Lib.hid HP
    have HSTEP := Lib.hid hstep
    have HLAST := Lib.hid hlast
    have HLT := Lib.hid hlt0
    clear HPH HALL HP hns hstep hlast hlt0
    refine HP2.out.mono ?_
    rintro e w2 ⟨v2, rfl, o2, b2⟩
    obtain ⟨a2, c2, hv2⟩ := o2.form
    rw [List.length_map] at hv2
    subst hv2
    have HR2 := Lib.hid (fun (w' : World) (hb : Below w2.heap.size w2 w') => (o2.below hb (Nat.le_refl _)).rd)
    have HCELL := Lib.hid (fun (w' : World) (hb : Below w2.heap.size w2 w') (i : Nat) (hi : i < ns.length) => rd_at (HR2.out w' hb) i hi)
    have HBU := Lib.hid (fun (w' : World) (hb : Below w2.heap.size w2 w') => HRU.out w' (b2.trans (hb.mono b2.size)))
    have HB := Lib.hid (fun (w' : World) (hb : Below w2.heap.size w2 w') => HB1.out.trans ((b2.trans (hb.mono b2.size)).mono HB1.out.size))
    simp only [map_get] at HCELL
    clear HR2 HB1 o2 b2 HRU HP2
    have hM : ns.length ≤ 13 := by omega
    by_cases h0 : N = 0
    · have hM0 := hz h0
      clear hz hf HCELL HSTEP HLAST HLT HSUB HBU
      rw [hM0]
      subst h0
      have HB2 := Lib.hid (HB.out w2 (Below.refl _ _))
      clear HB
      go_wp2
      refine wp_loop_rounds 1 ?_
      rw [rounds_succ]
      go_wp2
      go_ret
      exact ⟨rfl, HB2.out⟩
    · obtain ⟨hm1, hm2⟩ := hf (by omega)
      obtain ⟨b, off, e1, hc0⟩ := HCELL.out w2 (Below.refl _ _) 0 hm1
      rw [hm2, Nat.add_zero] at hc0
      subst e1
      clear hz hf hm2
      generalize hMM : ns.length = M at *
      have g1 : ((M : Int) == 0) = false := by simp; omega
      have g2 : ((N : Int) == 0) = false := by simp; omega
      go_wp2
      go_loopw [9, 10, 11, 12, 13, 14] (fun i _ _ _ _ _ wr => ∃ j : Nat, j ≤ M ∧ i = .int .i64 j ∧ Hid (Below w2.heap.size w2 wr)) (fun i _ _ _ _ _ _ => M - (intOf i).toNat)
      case atStart => exact ⟨0, Nat.zero_le _, rfl, Lib.hid (Below.refl _ _)⟩
      case round =>
        obtain ⟨j, hj, rfl, hbr⟩ := hrel
        by_cases hlt : j < M
        · obtain ⟨bu, offu, eu, _⟩ := rd_at (HBU.out wr hbr.out) 0 (by omega)
          subst eu
          obtain ⟨b', off', e1, hcj⟩ := HCELL.out wr hbr.out j hlt
          injection e1 with e1
          injection e1 with e1 e2
          subst e1 e2
          have hsN := HLT.out j hlt
          by_cases hnx : j + 1 < M
          · obtain ⟨b', off', e1, hcn⟩ := HCELL.out wr hbr.out (j + 1) hnx
            injection e1 with e1
            injection e1 with e1 e2
            subst e1 e2
            have heN := HLT.out (j + 1) hnx
            obtain ⟨s1, s2, s3⟩ := HSTEP.out j hnx
            have HA1 := Lib.hid (fun (s e : Nat) (hse : s ≤ e) (he : e ≤ N) (w' : World) (hb : Below w2.heap.size w2 w') => addr_yes_i (rd_sub (HBU.out w' hb) s e hse he) (HSUB.out s e))
            have S2 := Lib.hid s2
            have S3 := Lib.hid s3
            have HCJ := Lib.hid (fun (w' : World) (hb : Below w2.heap.size w2 w') => HCELL.out w' hb j hlt)
            clear s2 s3
            generalize ns.getD j 0 = s at *
            generalize ns.getD (j + 1) 0 = e at *
            have hnx2 : ((j : Int) + 1) < (M : Int) := by omega
            have hee : ¬ (e : Int) = (N : Int) := by omega
            go_wp2_with fail
            refine (HA1.out s e (by omega) (by omega) wr hbr.out).mono ?_
            rintro x w3 ⟨v3, rfl, o3, b3⟩
            obtain ⟨a3, c3, hv3⟩ := o3.form
            have hd : (setP ((l.take e).drop s)).length ≤ k := S2.out
            clear o3
            generalize (setP ((l.take e).drop s)).length = d at *
            subst hv3
            have hb3 := hbr.out.trans (b3.mono hbr.out.size)
            obtain ⟨b', off', e1, hcj3⟩ := HCJ.out w3 hb3
            injection e1 with e1
            injection e1 with e1 e2
            subst e1 e2
            have HA2 := Lib.hid (HA1.out s (e + 1) (by omega) (by omega) w3 hb3)
            have HB3 := Lib.hid hb3
            clear hb3 b3
            go_wp2_with fail
            refine HA2.out.mono ?_
            rintro x w4 ⟨v4, rfl, o4, b4⟩
            obtain ⟨a4, c4, hv4⟩ := o4.form
            have hd4 : (setP ((l.take (e + 1)).drop s)).length = k + 1 := S3.out
            rw [hd4] at hv4
            clear o4 hd4
            subst hv4
            have hb4 := HB3.out.trans (b4.mono HB3.out.size)
            have HB4 := Lib.hid hb4
            clear hb4 b4
            go_wp2
            go_roundw
            case rel => exact ⟨j + 1, by omega, by go_num, HB4⟩
            case measure => simp [intOf]; omega
          · have HA1 := Lib.hid (fun (s : Nat) (he : s ≤ N) => addr_yes_i (rd_sub (HBU.out wr hbr.out) s N he (Nat.le_refl _)) (HSUB.out s N))
            have S2 := Lib.hid (HLAST.out j (by omega))
            generalize ns.getD j 0 = s at *
            have hnx2 : ¬ ((j : Int) + 1) < (M : Int) := by omega
            go_wp2_with fail
            refine (HA1.out s (by omega)).mono ?_
            rintro x w3 ⟨v3, rfl, o3, b3⟩
            obtain ⟨a3, c3, hv3⟩ := o3.form
            have hd : (setP ((l.take N).drop s)).length ≤ k := S2.out
            clear o3
            generalize (setP ((l.take N).drop s)).length = d at *
            subst hv3
            have hb3 := hbr.out.trans (b3.mono hbr.out.size)
            have HB3 := Lib.hid hb3
            clear hb3 b3
            go_wp2
            go_roundw
            case rel => exact ⟨j + 1, by omega, by go_num, HB3⟩
            case measure => simp [intOf]; omega
        · have e : j = M := by omega
          subst e
          go_wp2
          go_ret
          exact ⟨rfl, HB.out wr hbr.out⟩
end Go.Proofs.Ytepgbnhmobhmfaa.fnPhased
