/- The program's counts of places. -/
import Derived.Test.YtaeaffddmohjgaaCstk0
namespace Go.Proofs.Ytaeaffddmohjgaa.Tr
open Go.RowKit
theorem bump_neg (cs : List Int) (p : Int) (h : p < 0) : bump cs p = cs := by unfold bump; rw [if_pos h]
theorem bump_pos (cs : List Int) (p : Nat) (m : Nat) (h1 : p < cs.length + m) (h2 : m = 0 ∨ cs.length + m ≤ p + 1) :
    bump cs (p : Int) = (cs ++ List.replicate m 0).set p ((cs ++ List.replicate m 0).getD p 0 + 1) := by
  have e : m = p + 1 - cs.length := by omega
  unfold bump
  rw [if_neg (by omega), Int.toNat_natCast, ← e]
theorem rep_snoc (cs : List Int) (m : Nat) : (cs ++ List.replicate m (0 : Int)) ++ [0] = cs ++ List.replicate (m + 1) 0 := by
  rw [List.append_assoc, List.replicate_succ']
theorem rep_len (cs : List Int) (m : Nat) : (cs ++ List.replicate m (0 : Int)).length = cs.length + m := by simp
theorem rep_get (cs : List Int) (m q : Nat) : (cs ++ List.replicate m (0 : Int)).getD q 0 = cs.getD q 0 := by
  simp only [List.getD_eq_getElem?_getD]
  by_cases hj : q < cs.length
  · rw [List.getElem?_append_left hj]
  · rw [List.getElem?_append_right (by omega), List.getElem?_eq_none (l := cs) (by omega), List.getElem?_replicate]
    split <;> rfl
theorem bumps_rng (ds : List Int) (j q : Nat) (hj : j ≤ ds.length) : 0 ≤ (bumps ds j).getD q 0 ∧ (bumps ds j).getD q 0 ≤ j := by
  rw [bumps_get ds j hj]
  have h1 : (ds.take j).countP (fun d => d == (q : Int)) ≤ (ds.take j).length := List.countP_le_length
  rw [List.length_take] at h1
  omega
set_option maxHeartbeats 2000000 in
theorem places_i (a : Option Addr) (c : Nat) (ds : List Int) (w : World) (hn : ds.length ≤ 60) (hd : ∀ j, j < ds.length → -1 ≤ ds.getD j 0 ∧ ds.getD j 0 < 60) (hr : Row w a ds) :
    Calls Try.prog 63 #[.slice a ds.length c] w (Lb (bumps ds ds.length) w) := by
  have HC := Lib.hid hr
  have HD := Lib.hid hd
  have HB := Lib.hid (fun j => show bumps ds (j + 1) = bump (bumps ds j) (ds.getD j 0) from rfl)
  have HL := Lib.hid (fun j (hj : j ≤ ds.length) => bumps_len ds 60 (fun i hi => (hd i hi).2) j hj)
  have HG := Lib.hid (fun j q (hj : j ≤ ds.length) => bumps_rng ds j q hj)
  have HB0 := Lib.hid (show bumps ds 0 = [] from rfl)
  clear hr hd
  unfold Row at HC
  generalize hS : bumps ds = BS at *
  clear hS
  generalize hN : ds.length = N at *
  clear hN
  go_enter Try.func63, Try.ntmps63
  go_wp2
  go_loopw [3, 8] (fun v i wr => ∃ j : Nat, j ≤ N ∧ i = .int .i64 j ∧ Own wr w.heap.size v (BS j) ∧ Below w.heap.size w wr) (fun _ i _ => N - (intOf i).toNat)
  case atStart => exact ⟨0, Nat.zero_le _, rfl, by rw [HB0.out]; exact Own.nil _ _, Below.refl _ _⟩
  case round =>
    obtain ⟨j, hj, rfl, ho, hb⟩ := hrel
    have hsz := hb.size
    by_cases hlt : j < N
    · obtain ⟨b0, off, rfl, c1, hb0⟩ := HC.out j hlt
      have c2 : wr.cell? ⟨b0, off + j, none⟩ = some (.int .i64 (ds.getD j 0)) := (hb.cell (p := ⟨b0, off + j, none⟩) hb0).trans c1
      have hbb := Lib.hid (HB.out j)
      have hdj := HD.out j hlt
      have hlj := HL.out j hj
      have hgj := Lib.hid (fun q => HG.out j q hj)
      clear c1 HB HL HG
      generalize BS j = cs at *
      generalize ds.getD j 0 = p at *
      obtain ⟨p1, p2⟩ := hdj
      have hBo := Lib.hid (show Own wr w.heap.size _ (cs ++ List.replicate 0 0) by rw [List.replicate_zero, List.append_nil]; exact ho)
      have HPN := Lib.hid (bump_neg cs p)
      have HPP := Lib.hid (fun (q m : Nat) => bump_pos cs q m)
      have HRS := Lib.hid (rep_snoc cs)
      have HRL := Lib.hid (rep_len cs)
      generalize hK : cs.length = K at *
      clear hK ho
      go_wp2
      go_loopw [3] (fun v2 wr2 => ∃ (m : Nat) (sa : Option Addr) (cap : Nat), v2 = .slice sa (K + m) cap ∧ (m = 0 ∨ (K : Int) + m ≤ p + 1) ∧ Hid (Own wr2 w.heap.size (.slice sa (K + m) cap) (cs ++ List.replicate m 0)) ∧ Hid (Below w.heap.size w wr2)) (fun v2 _ => (p + 1 - K).toNat + 1 - (match v2 with | .slice _ n _ => n - K | _ => 0))
      case atStart =>
        obtain ⟨x, y, z⟩ := hBo.out.form
        rw [HRL.out] at z
        exact ⟨0, x, y, z, .inl rfl, Lib.hid (by rw [← z]; exact hBo.out), Lib.hid hb⟩
      case round =>
        obtain ⟨m, sa, cap, rfl, hm, hO, hB2⟩ := hrel
        have hsz2 : w.heap.size ≤ wr.heap.size := hB2.out.size
        have hOO := hO.out
        have hq : (cs ++ List.replicate m (0 : Int)).length + 1 ≤ 1000000000 := by rw [HRL.out]; omega
        have hlen := HRL.out m
        by_cases hle : (K : Int) + m ≤ p
        · have hle2 : ((K + m : Nat) : Int) ≤ p := by omega
          have hrs := Lib.hid (HRS.out m)
          generalize (cs ++ List.replicate m (0 : Int)) = L at *
          go_wp2_with (at_builtin; refine wpList_app _ rfl _ _ rfl w.heap.size _ L _ ?_ ?_ hOO hq hsz2 ?_; rfl; rfl)
          intro v' w2 ho3 hb3
          obtain ⟨x, y, z⟩ := ho3.form
          have hz : (L ++ [0]).length = K + (m + 1) := by rw [List.length_append, hlen]; rfl
          rw [hz] at z
          subst z
          go_wp2
          go_roundw
          case rel => exact ⟨m + 1, x, y, rfl, .inr (by omega), Lib.hid (by rw [← hrs.out]; exact ho3), Lib.hid (hB2.out.trans hb3)⟩
          case measure => simp; omega
        · have hle2 : ¬ ((K + m : Nat) : Int) ≤ p := by omega
          by_cases hp : p = -1
          · subst hp
            have hm0 : m = 0 := by omega
            subst hm0
            have hbb2 := hbb.out
            rw [HPN.out (by omega)] at hbb2
            have HBB := Lib.hid hbb2
            clear hbb hbb2
            go_wp2
            go_roundw
            case rel => exact ⟨j + 1, by omega, by go_num, by rw [HBB.out]; simpa using hO.out, hB2.out⟩
            case measure => simp [intOf]; omega
          · obtain ⟨q, rfl⟩ := Int.eq_ofNat_of_zero_le (show 0 ≤ p by omega)
            have hqi : q < K + m := by omega
            have hbb2 := hbb.out
            rw [HPP.out q m hqi (by omega)] at hbb2
            have HBB := Lib.hid hbb2
            obtain ⟨g, hsa, hBg, hgw, hcell, hfz, hset⟩ := Own.at hOO hlen q hqi
            have HSET := Lib.hid hset
            have hu := hgj.out q
            rw [← rep_get cs m q] at hu
            clear hbb hbb2 hset
            subst hsa
            generalize (cs ++ List.replicate m (0 : Int)) = L at *
            generalize L.getD q 0 = u at *
            have hpi : ((K + m : Nat) : Int) = (K : Int) + m := by omega
            obtain ⟨hO2, hG2⟩ := HSET.out (u + 1)
            have HB3 := Lib.hid ((hB2.out.setCell (p := ⟨g, q, none⟩) hBg (.int .i64 (u + 1))))
            clear HSET
            go_wp2
            go_roundw
            case rel => exact ⟨j + 1, by omega, by go_num, by rw [HBB.out]; exact hO2, HB3.out⟩
            case measure => simp [intOf]; omega
    · have e : j = N := by omega
      subst e
      go_wp2
      go_ret
      exact ⟨_, rfl, ho, hb⟩
end Go.Proofs.Ytaeaffddmohjgaa.Tr
