/- The model's counts of distances. -/
import Derived.Test.YtamlbonkppajbaaCcurveS
namespace Go.Proofs.Ytamlbonkppajbaa.Tr
open Go.RowKit
theorem told_get (f : Nat → Int) (n j : Nat) (h : j < n) : (told f n).getD j 0 = f j := by simp [told, List.getD_eq_getElem?_getD, h]
theorem stood_told (f : Int → Int → Bool) (xs : List Int) (hn : xs.length ≤ 60) : ∀ j, j < (told (stoodAt f xs) xs.length).length → -1 ≤ (told (stoodAt f xs) xs.length).getD j 0 ∧ (told (stoodAt f xs) xs.length).getD j 0 < 60 := fun j hj => by
  rw [told_length] at hj
  rw [told_get _ _ _ hj]
  have h := stood_rng f xs j
  generalize stoodAt f xs j = z at *
  omega
set_option maxHeartbeats 2000000 in
theorem dcounts_s {v : Value} {xs : List Int} {w : World} (h : Rd w v xs) (hok : okU xs = true) :
    Calls Try.prog 19 #[v] w (Res (bumps (told (stoodAt always xs) xs.length) xs.length) true w) := by
  have hn : xs.length ≤ 60 := okU_len hok
  have hU := Lib.hid (uses_sR h (by omega))
  rw [hok] at hU
  obtain ⟨a, c, rfl, hcc, hcm, hr⟩ := h
  have HDI := Lib.hid (dist_s a c xs w hn hcc hcm.1 hr)
  have htl := told_length (stoodAt always xs) xs.length
  have hd := stood_told always xs hn
  clear hr hok hcm
  generalize told (stoodAt always xs) xs.length = ds at *
  have HD := Lib.hid (fun j (hj : j < xs.length) => hd j (by rw [htl]; exact hj))
  have HB := Lib.hid (fun j => show bumps ds (j + 1) = bump (bumps ds j) (ds.getD j 0) from rfl)
  have HL := Lib.hid (fun j (hj : j ≤ xs.length) => bumps_len ds 60 (fun i hi => (hd i hi).2) j (by rw [htl]; exact hj))
  have HG := Lib.hid (fun j q (hj : j ≤ xs.length) => bumps_rng ds j q (by rw [htl]; exact hj))
  have HTL := Lib.hid htl
  have HB0 := Lib.hid (show bumps ds 0 = [] from rfl)
  clear hd htl
  generalize hS : bumps ds = BS at *
  clear hS
  generalize xs.length = N at *
  go_enter Try.func19, Try.ntmps19
  go_wp2_with (first | (go_at_call 36; refine hU.out.mono ?_; rintro e w' ⟨rfl, rfl⟩) | (go_at_call 37; (with_reducible refine HDI.out.mono ?_); rintro e w1 ⟨v1, rfl, o1, b1⟩))
  obtain ⟨a1, c1, ev1, _, _, hrow⟩ := o1.rd
  rw [HTL.out] at ev1
  subst ev1
  have HC := Lib.hid hrow
  unfold Row at HC
  rw [HTL.out] at HC
  have B1 := Lib.hid b1
  have hs1 := b1.size
  clear hrow b1 o1 HDI HTL
  go_loopw [5, 6] (fun v i wr => ∃ j : Nat, j ≤ N ∧ i = .int .i64 j ∧ Own wr w1.heap.size v (BS j) ∧ Below w1.heap.size w1 wr) (fun _ i _ => N - (intOf i).toNat)
  case atStart => exact ⟨0, Nat.zero_le _, rfl, by rw [HB0.out]; exact Own.lit0 w1, (Below.refl _ _).alloc (Nat.le_refl _) _⟩
  case round =>
    obtain ⟨j, hj, rfl, ho, hb⟩ := hrel
    have hsz := hb.size
    by_cases hlt : j < N
    · obtain ⟨b0, off, rfl, c1, hb0⟩ := HC.out j hlt
      have HCB := Lib.hid (fun (w9 : World) (h9 : Below w1.heap.size w1 w9) => show w9.cell? ⟨b0, off + j, none⟩ = some (.int .i64 (ds.getD j 0)) from (h9.cell (p := ⟨b0, off + j, none⟩) hb0).trans c1)
      have hbl := Lib.hid hb0
      have hbb := Lib.hid (HB.out j)
      have hdj := HD.out j hlt
      have hlj := HL.out j hj
      have hgj := Lib.hid (fun q => HG.out j q hj)
      clear c1 HB HL HG
      generalize BS j = cs at *
      generalize ds.getD j 0 = p at *
      obtain ⟨p1, p2⟩ := hdj
      have hBo := Lib.hid (show Own wr w1.heap.size _ (cs ++ List.replicate 0 0) by rw [List.replicate_zero, List.append_nil]; exact ho)
      have HPN := Lib.hid (bump_neg cs p)
      have HPP := Lib.hid (fun (q m : Nat) => bump_pos cs q m)
      have HRS := Lib.hid (rep_snoc cs)
      have HRL := Lib.hid (rep_len cs)
      generalize hK : cs.length = K at *
      clear hK ho
      go_wp2
      go_loopw [5] (fun v2 wr2 => ∃ (m : Nat) (sa : Option Addr) (cap : Nat), v2 = .slice sa (K + m) cap ∧ (m = 0 ∨ (K : Int) + m ≤ p + 1) ∧ Hid (Own wr2 w1.heap.size (.slice sa (K + m) cap) (cs ++ List.replicate m 0)) ∧ Hid (Below w1.heap.size w1 wr2)) (fun v2 _ => (p + 1 - K).toNat + 1 - (match v2 with | .slice _ n _ => n - K | _ => 0))
      case atStart =>
        obtain ⟨x, y, z⟩ := hBo.out.form
        rw [HRL.out] at z
        exact ⟨0, x, y, z, .inl rfl, Lib.hid (by rw [← z]; exact hBo.out), Lib.hid hb⟩
      case round =>
        obtain ⟨m, sa, cap, rfl, hm, hO, hB2⟩ := hrel
        have hsz2 : w1.heap.size ≤ wr.heap.size := hB2.out.size
        have c3 : wr.cell? ⟨b0, off + j, none⟩ = some (.int .i64 p) := HCB.out wr hB2.out
        have hOO := hO.out
        have hq : (cs ++ List.replicate m (0 : Int)).length + 1 ≤ 1000000000 := by rw [HRL.out]; omega
        have hlen := HRL.out m
        by_cases hle : (K : Int) + m ≤ p
        · have hle2 : ((K + m : Nat) : Int) ≤ p := by omega
          have hrs := Lib.hid (HRS.out m)
          generalize (cs ++ List.replicate m (0 : Int)) = L at *
          go_wp2_with (at_builtin; refine wpList_app _ rfl _ _ rfl w1.heap.size _ L _ ?_ ?_ hOO hq hsz2 ?_; rfl; rfl)
          intro v' w2 ho3 hb3
          obtain ⟨x, y, z⟩ := ho3.form
          have hz : (L ++ [0]).length = K + (m + 1) := by rw [List.length_append, hlen]; rfl
          rw [hz] at z
          subst z
          go_wp2
          go_roundw
          case rel => exact ⟨m + 1, x, y, rfl, .inr (by omega), Lib.hid (by rw [← hrs.out]; exact ho3), Lib.hid (hB2.out.trans hb3)⟩
          case measure => simp; omega
        · have hle2 : ¬ ((K + m : Nat) : Int) ≤ p := by omega
          by_cases hp : p = -1
          · subst hp
            have hm0 : m = 0 := by omega
            subst hm0
            have hbb2 := hbb.out
            rw [HPN.out (by omega)] at hbb2
            have HBB := Lib.hid hbb2
            clear hbb hbb2
            go_wp2
            go_roundw
            case rel => exact ⟨j + 1, by omega, by go_num, by rw [HBB.out]; simpa using hO.out, hB2.out⟩
            case measure => simp [intOf]; omega
          · obtain ⟨q, rfl⟩ := Int.eq_ofNat_of_zero_le (show 0 ≤ p by omega)
            have hqi : q < K + m := by omega
            have hbb2 := hbb.out
            rw [HPP.out q m hqi (by omega)] at hbb2
            have HBB := Lib.hid hbb2
            obtain ⟨g, hsa, hBg, hgw, hcell, hfz, hset⟩ := Own.at hOO hlen q hqi
            have HSET := Lib.hid hset
            have hu := hgj.out q
            rw [← rep_get cs m q] at hu
            clear hbb hbb2 hset
            subst hsa
            generalize (cs ++ List.replicate m (0 : Int)) = L at *
            generalize L.getD q 0 = u at *
            have hpi : ((K + m : Nat) : Int) = (K : Int) + m := by omega
            obtain ⟨hO2, hG2⟩ := HSET.out (u + 1)
            have HB3 := Lib.hid ((hB2.out.setCell (p := ⟨g, q, none⟩) hBg (.int .i64 (u + 1))))
            clear HSET
            have hpg : ¬ b0 = g := by have := hbl.out; omega
            go_wp2
            go_roundw
            case rel => exact ⟨j + 1, by omega, by go_num, by rw [HBB.out]; exact hO2, HB3.out⟩
            case measure => simp [intOf]; omega
    · have e : j = N := by omega
      subst e
      go_wp2
      go_ret2
      exact ⟨_, rfl, ho.mono hs1, B1.out.trans (hb.mono hs1)⟩
end Go.Proofs.Ytamlbonkppajbaa.Tr
