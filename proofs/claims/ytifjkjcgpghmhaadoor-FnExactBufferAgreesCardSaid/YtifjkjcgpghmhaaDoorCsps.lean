/- The model's spaces: when one is valid. -/
import Derived.Test.YtifjkjcgpghmhaaDoorCspc
import Derived.Test.YtifjkjcgpghmhaaDoorPlainSp
import Derived.Test.YtifjkjcgpghmhaaDoorCbtg
import Derived.WalkMore
import Derived.IntWalk
namespace Go.Proofs.YtifjkjcgpghmhaaDoor.Sp
open Go.RowKit
def Bq (b : Bool) (w : World) (e : Ending) (w' : World) : Prop := e = .returned (.bool b) ∧ ∃ q, w' = w.drewN q
theorem frame_s (x : Int) (w : World) : Calls Tryd.prog 52 #[.int .i64 x] w (Bl (isF x) w) := by
  have hI := Lib.hid (show Calls Tryd.prog 67 #[.int .i64 x, .int .i64 0, .int .i64 15] w (Bl (isF x) w) from Tr.in_g x 0 15 w)
  generalize isF x = b at *
  go_enter Tryd.func52, Tryd.ntmps52
  go_wp2_with (go_at_call 67; refine hI.out.mono ?_; rintro e w' ⟨rfl, rfl⟩)
  go_ret
  exact ⟨rfl, rfl⟩
theorem page_s (x : Int) (w : World) : Calls Tryd.prog 39 #[.int .i64 x] w (Bl (isPg x) w) := by
  have hI := Lib.hid (show Calls Tryd.prog 67 #[.int .i64 x, .int .i64 0, .int .i64 63] w (Bl (isPg x) w) from Tr.in_g x 0 63 w)
  generalize isPg x = b at *
  go_enter Tryd.func39, Tryd.ntmps39
  go_wp2_with (go_at_call 67; refine hI.out.mono ?_; rintro e w' ⟨rfl, rfl⟩)
  go_ret
  exact ⟨rfl, rfl⟩
theorem find_s (a : Option Addr) (c n : Nat) (buf : List TC) (p : Int) (w : World) (hl : buf.length = n) (hn : n ≤ 1048576) (hr : Ch.RdR w a buf) :
    Calls Tryd.prog 53 #[.slice a n c, .int .i64 p] w (Count (pos p buf 0) w) := by
  have HC := Lib.hid (fun j (h : j < n) => (show ∃ b off, a = some ⟨b, off, none⟩ ∧ w.cell? ⟨b, off + j * 3, none⟩ = some (.int .i64 (buf.getD j dC).1) from by
    obtain ⟨b, off, e, h1, _⟩ := hr j (by omega)
    exact ⟨b, off, e, h1⟩))
  have HY := Lib.hid (fun j (h : j < n) (hn : ∀ t, t < j → (buf.getD t dC).1 ≠ p) (e : (buf.getD j dC).1 = p) => (show pos p buf 0 = (j : Int) by rw [pos_at p buf 0 j (by omega) hn e]; simp))
  have HE := Lib.hid (fun (hn : ∀ t, t < n → (buf.getD t dC).1 ≠ p) => pos_end p buf 0 (by rw [hl]; exact hn))
  clear hr
  generalize pos p buf 0 = r at *
  go_enter Tryd.func53, Tryd.ntmps53
  go_wp2
  go_loop [5] (fun i => ∃ j : Nat, j ≤ n ∧ i = .int .i64 j ∧ Hid (∀ t, t < j → (buf.getD t dC).1 ≠ p)) (fun i => n - (intOf i).toNat)
  case atStart => exact ⟨0, Nat.zero_le _, rfl, Lib.hid (fun t h => by omega)⟩
  case round =>
    obtain ⟨j, hj, rfl, hx⟩ := hrel
    by_cases hlt : j < n
    · obtain ⟨b, off, rfl, h0⟩ := HC.out j hlt
      have hy := Lib.hid (HY.out j hlt hx.out)
      have hs := Lib.hid (fun (e : (buf.getD j dC).1 ≠ p) => (show ∀ t, t < j + 1 → (buf.getD t dC).1 ≠ p from fun t ht => by
        by_cases e2 : t = j
        · rw [e2]; exact e
        · exact hx.out t (by omega)))
      generalize (buf.getD j dC).1 = u at *
      by_cases e : u = p
      · have hr := hy.out e
        clear hs hy
        subst e
        subst hr
        go_wp2
        go_ret
        exact ⟨rfl, rfl⟩
      · have hb : (u == p) = false := by simp [e]
        have hs' := Lib.hid (hs.out e)
        clear hs hy
        go_wp2
        go_round
        case rel => exact ⟨j + 1, by omega, by go_num, hs'⟩
        case measure => simp [intOf]; omega
    · have e : j = n := by omega
      subst e
      have hr := HE.out hx.out
      subst hr
      go_wp2
      go_ret
      exact ⟨rfl, rfl⟩
set_option maxHeartbeats 4000000 in
theorem tabs_s (p : Nat) (a1 a2 : Option Addr) (c1 c2 : Nat) (root : List Int) (tss : List (List TE)) (w : World) (hl1 : root.length ≤ 1048576) (hl2 : tss.length ≤ 1048576) (h0 : w.cell? ⟨p, 0, none⟩ = some (.slice a1 root.length c1)) (h1 : w.cell? ⟨p, 1, none⟩ = some (.slice a2 tss.length c2)) (hr : Row w a1 root) (ht : En.RdT w a2 tss) :
    Calls Tryd.prog 51 #[.pointer (some ⟨p, 0, none⟩)] w (Bq (okTab root tss) w) := by
  by_cases k1 : root.length = 8
  case neg =>
    have e : okTab root tss = false := by unfold okTab; rw [decide_eq_false k1]; rfl
    rw [e]
    clear hr ht e
    generalize root.length = n at *
    generalize tss.length = m at *
    have hne : ((n : Int) != 8) = true := by simp; omega
    go_enter Tryd.func51, Tryd.ntmps51
    go_wp2
    go_ret
    exact ⟨rfl, 0, rfl⟩
  by_cases k2 : tss.length ≤ 8
  case neg =>
    have e : okTab root tss = false := by unfold okTab; rw [decide_eq_false k2]; simp
    rw [e]
    rw [k1] at h0
    clear hr ht e
    generalize tss.length = m at *
    have hne : (8 : Int) < (m : Int) := by omega
    go_enter Tryd.func51, Tryd.ntmps51
    go_wp2
    go_ret
    exact ⟨rfl, 0, rfl⟩
  have HC := Lib.hid hr
  have HT := Lib.hid ht.2
  have HS := Lib.hid (fun (k : Int) j (hj : j < 8) => count_succ root j k (by omega))
  have HA := Lib.hid (fun (k : Int) => (show (root.take 8).count k = root.count k by rw [List.take_of_length_le (by omega)]))
  have HAL := Lib.hid (show root.take 8 = root by rw [List.take_of_length_le (by omega)])
  have hok : okTab root tss = ((List.range tss.length).all (kOk root tss) && root.all (inR tss.length)) := by unfold okTab; rw [decide_eq_true k1, decide_eq_true k2]; rfl
  have HN := Lib.hid (fun k (hk : k < tss.length) (h : kOk root tss k = false) => (show okTab root tss = false by rw [hok, range_all_no _ k _ hk h]; rfl))
  have HY := Lib.hid (fun (h : (List.range tss.length).all (kOk root tss) = true) => (show okTab root tss = root.all (inR tss.length) by rw [hok, h]; rfl))
  have HK := Lib.hid (fun k => (show kOk root tss k = (decide (root.count (k : Int) = 1) && decide ((tss.getD k []).length = 8)) from rfl))
  have HR := Lib.hid (fun k => range_all_succ k (kOk root tss))
  have HTA := Lib.hid (fun j (hj : j < 8) => (show (root.take (j + 1)).all (inR tss.length) = ((root.take j).all (inR tss.length) && inR tss.length (root.getD j 0)) by rw [take_succ_getD root j (by omega), List.all_append]; simp))
  have HNA := Lib.hid (fun j (hj : j < 8) (h : inR tss.length (root.getD j 0) = false) => (show root.all (inR tss.length) = false by rw [List.all_eq_false]; exact ⟨_, mem_getD root j (by omega), by rw [h]; simp⟩))
  rw [k1] at h0
  unfold Row at HC
  have k2' : (tss.length : Int) ≤ 8 := by omega
  clear hr ht hok
  generalize okTab root tss = ok at *
  rw [k1] at HC
  have HNN := Lib.hid (rfl : tss.length = tss.length)
  generalize tss.length = N at *
  clear HNN k1 hl1
  go_enter Tryd.func51, Tryd.ntmps51
  go_wp2
  go_loop [3, 4, 5] (fun k _ _ => ∃ K : Nat, K ≤ N ∧ k = .int .i64 K ∧ Hid ((List.range K).all (kOk root tss) = true)) (fun k _ _ => N - (intOf k).toNat)
  case atStart => exact ⟨0, Nat.zero_le _, rfl, Lib.hid rfl⟩
  case round =>
    obtain ⟨K, hK, rfl, hx⟩ := hrel
    by_cases hlt : K < N
    · obtain ⟨bt, offt, A, C, rfl, ct, _, hLm, _⟩ := HT.out K hlt
      have hno := Lib.hid (HN.out K hlt)
      have hk := Lib.hid (HK.out K)
      have hsu := Lib.hid (HR.out K)
      have hct := Lib.hid (HA.out (K : Int))
      have hst := Lib.hid (HS.out (K : Int))
      generalize (tss.getD K []).length = L at *
      go_wp2
      go_loop [4, 5] (fun m i => ∃ j c : Nat, j ≤ 8 ∧ c ≤ j ∧ i = .int .i64 (j : Nat) ∧ m = .int .i64 (c : Nat) ∧ Hid (c = (root.take j).count (K : Int))) (fun _ i => 8 - (intOf i).toNat)
      case atStart => exact ⟨0, 0, Nat.zero_le _, Nat.zero_le _, rfl, rfl, Lib.hid (by simp)⟩
      case round =>
        obtain ⟨j, c, hj, hcj, rfl, rfl, hc⟩ := hrel
        by_cases hj8 : j < 8
        · obtain ⟨b, off, rfl, c1', _⟩ := HC.out j hj8
          have hs := hst.out j hj8
          rw [← hc.out] at hs
          have HSS := Lib.hid hs
          clear hs
          generalize root.getD j 0 = u at *
          by_cases e : u = (K : Int)
          · have hs' := Lib.hid (show c + 1 = (root.take (j + 1)).count (K : Int) by rw [HSS.out, if_pos e])
            clear HSS
            subst e
            go_wp2
            go_round
            case rel => exact ⟨j + 1, c + 1, by omega, by omega, by go_num, by go_num, hs'⟩
            case measure => simp [intOf]; omega
          · have hs' := Lib.hid (show c = (root.take (j + 1)).count (K : Int) by rw [HSS.out, if_neg e]; rfl)
            have hb : (u == (K : Int)) = false := by simp [e]
            clear HSS
            go_wp2
            go_round
            case rel => exact ⟨j + 1, c, by omega, by omega, by go_num, rfl, hs'⟩
            case measure => simp [intOf]; omega
        · have e : j = 8 := by omega
          subst e
          have hc' := hc.out
          rw [hct.out] at hc'
          have HC' := Lib.hid hc'
          clear hc' hc hct hst
          by_cases e1 : c = 1
          · subst e1
            by_cases e2 : L = 8
            · have hx' := Lib.hid (show (List.range (K + 1)).all (kOk root tss) = true by rw [hsu.out, hx.out, hk.out, ← HC'.out, decide_eq_true e2]; rfl)
              clear hno hk hsu HC'
              subst e2
              go_wp2
              go_round
              case rel => exact ⟨K + 1, by omega, by go_num, hx'⟩
              case measure => simp [intOf]; omega
            · have hok := hno.out (by rw [hk.out, ← HC'.out, decide_eq_false e2]; rfl)
              have hne : ((L : Int) != 8) = true := by simp; omega
              clear hno hk hsu HC'
              subst hok
              go_wp2
              go_ret
              exact ⟨rfl, 0, rfl⟩
          · have hok := hno.out (by rw [hk.out, ← HC'.out, decide_eq_false e1]; rfl)
            have hne : ((c : Int) != 1) = true := by simp; omega
            clear hno hk hsu HC'
            subst hok
            go_wp2
            go_ret
            exact ⟨rfl, 0, rfl⟩
    · have e : K = N := by omega
      subst e
      have hok := HY.out hx.out
      have HOK := Lib.hid hok
      clear hok HY HN HK HR HS HA HT
      go_wp2
      go_loopw [6] (fun i wr => ∃ j q : Nat, j ≤ 8 ∧ i = .int .i64 j ∧ wr = w.drewN q ∧ Hid ((root.take j).all (inR K) = true)) (fun i _ => 8 - (intOf i).toNat)
      case atStart => exact ⟨0, 0, Nat.zero_le _, rfl, rfl, Lib.hid rfl⟩
      case round =>
        obtain ⟨j, q, hj, rfl, rfl, hx2⟩ := hrel
        by_cases hj8 : j < 8
        · obtain ⟨b, off, rfl, c1', _⟩ := HC.out j hj8
          have hs := Lib.hid (HTA.out j hj8)
          have hno := Lib.hid (HNA.out j hj8)
          have hI := Lib.hid (fun n => (Tr.in_g (root.getD j 0) (-1) ((K : Int) - 1) (w.drewN (q + n))).mono (R' := fun e w' => e = .returned (.bool (inR K (root.getD j 0))) ∧ ∃ m, w' = w.drewN (q + m)) fun e w' ⟨he, hw⟩ => ⟨he, n, hw.symm⟩)
          generalize root.getD j 0 = u at *
          cases hin : inR K u
          · rw [hin] at hI
            have hf := HOK.out
            rw [hno.out hin] at hf
            clear hno hs HOK
            subst hf
            go_wp2
            go_quiet (exact hI.out _)
            go_wp2
            go_ret
            exact ⟨rfl, _, World.drewN_drewN ..⟩
          · rw [hin] at hI
            have hx' := Lib.hid (show (root.take (j + 1)).all (inR K) = true by rw [hs.out, hx2.out, hin]; rfl)
            clear hno hs
            go_wp2
            go_quiet (exact hI.out _)
            go_wp2
            go_roundw
            case rel => exact ⟨j + 1, _, by omega, by go_num, rfl, hx'⟩
            case measure => simp [intOf]; omega
        · have e : j = 8 := by omega
          subst e
          have hx3 := hx2.out
          rw [HAL.out] at hx3
          have hf := HOK.out
          rw [hx3] at hf
          clear HOK hx3
          subst hf
          go_wp2
          go_ret
          exact ⟨rfl, q, rfl⟩
end Go.Proofs.YtifjkjcgpghmhaaDoor.Sp
