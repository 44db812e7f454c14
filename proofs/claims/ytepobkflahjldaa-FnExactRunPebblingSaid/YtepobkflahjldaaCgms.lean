/- The model's graphs: whether one is valid, its sources and outputs as bits; sets of nodes as lists, how many there are. -/
import Derived.Test.YtepobkflahjldaaCbit8
import Derived.Test.YtepobkflahjldaaCgrv
import Derived.IntWalk
namespace Go.Proofs.Ytepobkflahjldaa.Pb
open Go.RowKit Pv
/-- A number, and nothing written. -/
def NwG (n : Int) (w : World) (e : Ending) (w' : World) : Prop := e = .returned (.int .i64 n) ∧ w = w'
theorem shl64 (k : Nat) (hk : k < 7) : IntKind.i64.wrap ((2 : Int) ^ k) = ((2 ^ k : Nat) : Int) := by
  obtain rfl | rfl | rfl | rfl | rfl | rfl | rfl : k = 0 ∨ k = 1 ∨ k = 2 ∨ k = 3 ∨ k = 4 ∨ k = 5 ∨ k = 6 := by omega
  all_goals decide
theorem u64_in (k : Nat) (hk : k < 1000) : IntKind.u64.wrap (k : Int) = (k : Int) := by rw [IntKind.wrap_u64]; omega
set_option maxHeartbeats 1000000 in
theorem isg_s (g : Nat) (a : Option Addr) (c : Nat) (bs : List (List Int)) (w : World) (hg : g < w.heap.size) (h0 : w.cell? ⟨g, 0, none⟩ = some (.slice a bs.length c)) (hh : RdR w a bs) (hl : bs.length ≤ 1048576) :
    Calls Try.prog 21 #[.pointer (some ⟨g, 0, none⟩)] w (Bb (okG bs) w) := by
  have HJ := Lib.hid (fun j (hj : j < bs.length) => (show ∃ b off A C, a = some ⟨b, off, none⟩ ∧ w.cell? ⟨b, off + j, none⟩ = some (.slice A (bs.getD j []).length C) ∧ b < w.heap.size ∧
      ∀ (w' : World), Below w.heap.size w w' → Calls Try.prog 36 #[.slice A (bs.getD j []).length C, .int .i64 0, .int .i64 ((j : Int) - 1)] w' (Bb (okRow j (bs.getD j [])) w') from by
    obtain ⟨b, off, A, C, e1, e2, e3, e4, e5, e6, e7, _⟩ := hh j hj
    exact ⟨b, off, A, C, e1, e2, e4, fun w' hq => Tr.riseH_s ((j : Int) - 1) A C _ w' e5 (e3.below hq)⟩))
  have HNO := Lib.hid (fun j (hj : j < bs.length) h => okG_no (bs := bs) j hj h)
  have HLO := Lib.hid (fun h => okG_low (bs := bs) h)
  have HHI := Lib.hid (fun h => okG_high (bs := bs) h)
  have HYE := Lib.hid (fun h1 h2 h3 => okG_yes (bs := bs) h1 h2 h3)
  have HSU := Lib.hid (fun j => okTo_succ bs j)
  clear hh
  generalize okG bs = r at *
  generalize hN : bs.length = N at *
  clear hN
  go_enter Try.func21, Try.ntmps21
  by_cases h1 : 1 ≤ N
  · have d1 : decide ((N : Int) < 1) = false := by simp; omega
    by_cases h6 : N ≤ 6
    · have d6 : decide ((6 : Int) < (N : Int)) = false := by simp; omega
      have d7 : decide ((N : Int) > 6) = false := by simp; omega
      clear HLO HHI
      go_wp2
      go_loopw [4] (fun i wr => ∃ j : Nat, j ≤ N ∧ i = .int .i64 (j : Nat) ∧ Hid (Below w.heap.size w wr) ∧ Hid (okTo bs j = true)) (fun i _ => N - (intOf i).toNat)
      case atStart => exact ⟨0, Nat.zero_le _, rfl, Below.refl _ _, Lib.hid rfl⟩
      case round =>
        obtain ⟨j, hj, rfl, hb, hx⟩ := hrel
        by_cases hlt : j < N
        · obtain ⟨b, off, A, C, rfl, c1, hbl, HC⟩ := HJ.out j hlt
          have c2 : wr.cell? ⟨b, off + j, none⟩ = some (.slice A (bs.getD j []).length C) := (hb.out.cell (p := ⟨b, off + j, none⟩) hbl).trans c1
          have e0 : wr.cell? ⟨g, 0, none⟩ = some (.slice (some ⟨b, off, none⟩) N c) := (hb.out.cell (p := ⟨g, 0, none⟩) hg).trans h0
          have HCH := Lib.hid (HC wr hb.out)
          have hw : IntKind.i64.wrap ((j : Int) - 1) = (j : Int) - 1 := IntWalk.i64_in _ (by omega)
          have hno := HNO.out j hlt
          have hsu := HSU.out j
          rw [hx.out, Bool.true_and] at hsu
          clear c1 HC HJ HNO HSU
          generalize (bs.getD j []).length = L at *
          cases hr : okRow j (bs.getD j [])
          · have e := hno hr
            rw [hr] at HCH
            clear hno hsu hr HYE
            subst e
            go_wp2_with (go_at_call 36; refine HCH.out.mono ?_; rintro e w1 ⟨rfl, b1⟩)
            go_ret
            exact ⟨rfl, hb.out.trans (b1.mono hb.out.size)⟩
          · rw [hr] at HCH hsu
            have hS := Lib.hid hsu
            clear hno hsu hr HYE
            go_wp2_with (go_at_call 36; refine HCH.out.mono ?_; rintro e w1 ⟨rfl, b1⟩)
            go_roundw
            case rel => exact ⟨j + 1, by omega, by go_num, Lib.hid (hb.out.trans (b1.mono hb.out.size)), hS⟩
            case measure => simp [intOf]; omega
        · have e : j = N := by omega
          subst e
          have e := HYE.out h1 h6 hx.out
          have e0 : wr.cell? ⟨g, 0, none⟩ = some (.slice a j c) := (hb.out.cell (p := ⟨g, 0, none⟩) hg).trans h0
          clear HYE HNO HJ HSU
          subst e
          go_wp2
          go_ret
          exact ⟨rfl, hb.out⟩
    · have d6 : decide ((6 : Int) < (N : Int)) = true := by simp; omega
      have e := HHI.out h6
      clear HLO HHI HYE HNO HJ HSU
      subst e
      go_wp2
      go_ret
      exact ⟨rfl, Below.refl _ _⟩
  · have d1 : decide ((N : Int) < 1) = true := by simp; omega
    have e := HLO.out h1
    clear HLO HHI HYE HNO HJ HSU
    subst e
    go_wp2
    go_ret
    exact ⟨rfl, Below.refl _ _⟩
set_option maxHeartbeats 1000000 in
theorem src_s (g : Nat) (a : Option Addr) (c : Nat) (bs : List (List Int)) (w : World) (h0 : w.cell? ⟨g, 0, none⟩ = some (.slice a bs.length c)) (hh : RdR w a bs) (h6 : bs.length ≤ 6) :
    Calls Try.prog 38 #[.pointer (some ⟨g, 0, none⟩)] w (NwG ((src bs bs.length : Nat) : Int) w) := by
  have HJ := Lib.hid (fun j (hj : j < bs.length) => (show ∃ b off A C, a = some ⟨b, off, none⟩ ∧ w.cell? ⟨b, off + j, none⟩ = some (.slice A (bs.getD j []).length C) from by
    obtain ⟨b, off, A, C, e1, e2, _⟩ := hh j hj
    exact ⟨b, off, A, C, e1, e2⟩))
  have HY := Lib.hid (fun j (h : (bs.getD j []).length = 0) => (show src bs (j + 1) = src bs j ||| 2 ^ j from by rw [src, if_pos ((nd_zero bs j).2 (List.eq_nil_of_length_eq_zero h))]))
  have HN := Lib.hid (fun j (h : ¬ (bs.getD j []).length = 0) => (show src bs (j + 1) = src bs j from by
    rw [src, if_neg (fun e => h (by rw [(nd_zero bs j).1 e]; rfl))]))
  have HLT := Lib.hid (fun j hj => src_lt bs j hj)
  clear hh
  generalize hN : bs.length = N at *
  clear hN
  go_enter Try.func38, Try.ntmps38
  go_wp2
  go_loop [3, 4] (fun o i => ∃ j : Nat, j ≤ N ∧ i = .int .i64 (j : Nat) ∧ o = .int .i64 ((src bs j : Nat) : Int)) (fun _ i => N - (intOf i).toNat)
  case atStart => exact ⟨0, Nat.zero_le _, rfl, rfl⟩
  case round =>
    obtain ⟨j, hj, rfl, rfl⟩ := hrel
    by_cases hlt : j < N
    · obtain ⟨b, off, A, C, rfl, c1⟩ := HJ.out j hlt
      have hsh := shl64 j (by omega)
      have hu := u64_in j (by omega)
      have hj64 : j < 64 := by omega
      have hor := or64 (src bs j) (2 ^ j) (HLT.out j (by omega)) (pow_lt j (by omega))
      have hy := HY.out j
      have hn := HN.out j
      clear HJ HY HN HLT
      generalize (bs.getD j []).length = L at *
      by_cases hz : L = 0
      · have e := Lib.hid (hy hz)
        have d : ((L : Int) == 0) = true := by subst hz; rfl
        clear hy hn hz
        generalize src bs j ||| 2 ^ j = s' at *
        generalize src bs j = sv at *
        generalize 2 ^ j = pw at *
        go_wp2
        go_round
        case rel => exact ⟨j + 1, by omega, by go_num, by rw [e.out]⟩
        case measure => simp [intOf]; omega
      · have e := Lib.hid (hn hz)
        have d : ((L : Int) == 0) = false := by simp; omega
        clear hy hn hz hor hsh
        generalize src bs j = sv at *
        go_wp2
        go_round
        case rel => exact ⟨j + 1, by omega, by go_num, by rw [e.out]⟩
        case measure => simp [intOf]; omega
    · have e : j = N := by omega
      subst e
      go_wp2
      go_ret
      exact ⟨rfl, rfl⟩
set_option maxHeartbeats 2000000 in
theorem out_s (g : Nat) (a : Option Addr) (c : Nat) (bs : List (List Int)) (w : World) (h0 : w.cell? ⟨g, 0, none⟩ = some (.slice a bs.length c)) (hh : RdR w a bs) (h6 : bs.length ≤ 6) (hok : ∀ j, j < bs.length → okRow j (bs.getD j []) = true) :
    Calls Try.prog 33 #[.pointer (some ⟨g, 0, none⟩)] w (NwG ((outS bs bs.length : Nat) : Int) w) := by
  have HJ := Lib.hid (fun j (hj : j < bs.length) => (show ∃ b off A C, a = some ⟨b, off, none⟩ ∧ w.cell? ⟨b, off + j, none⟩ = some (.slice A (bs.getD j []).length C) ∧ Row w A (bs.getD j []) from by
    obtain ⟨b, off, A, C, e1, e2, e3, _⟩ := hh j hj
    exact ⟨b, off, A, C, e1, e2, e3⟩))
  have HA := Lib.hid (fun j (hj : j < bs.length) k (hk : k < (bs.getD j []).length) => okRow_at (hok j hj) k hk)
  have HL0 := Lib.hid (fun j (hj : j < bs.length) => okRow_len (hok j hj))
  have HT := Lib.hid (fun j k hk => offL_take (bs.getD j []) (outS bs j) k hk)
  have HE := Lib.hid (fun j => (show offL ((bs.getD j []).take (bs.getD j []).length) (outS bs j) = outS bs (j + 1) from by rw [List.take_length]; rfl))
  have HLT := Lib.hid (fun j k => offL_lt ((bs.getD j []).take k) _ (outS_lt bs h6 j))
  have HP := shl64 bs.length (by omega)
  have HU := u64_in bs.length (by omega)
  have H1 : ((2 ^ bs.length : Nat) : Int) - 1 = ((outS bs 0 : Nat) : Int) := by
    have := Nat.two_pow_pos bs.length
    unfold outS
    omega
  have H2 : ((outS bs 0 : Nat) : Int) < 64 := by have := outS_lt bs h6 0; omega
  clear hh hok
  generalize hN : bs.length = N at *
  clear hN
  have h64 : N < 64 := by omega
  generalize 2 ^ N = pN at *
  generalize hout : outS bs = ou at *
  clear hout
  go_enter Try.func33, Try.ntmps33
  go_wp2
  go_loop [3, 4, 5] (fun o i _ => ∃ j : Nat, j ≤ N ∧ i = .int .i64 (j : Nat) ∧ o = .int .i64 ((ou j : Nat) : Int)) (fun _ i _ => N - (intOf i).toNat)
  case atStart => exact ⟨0, Nat.zero_le _, rfl, by first | rw [← H1] | simp [H1]⟩
  case round =>
    obtain ⟨j, hj, rfl, rfl⟩ := hrel
    by_cases hlt : j < N
    · obtain ⟨b, off, A, C, rfl, c1, hrow⟩ := HJ.out j hlt
      have hrow' := Lib.hid hrow
      have hL5 := HL0.out j hlt
      have hA := Lib.hid (HA.out j hlt)
      have hT := Lib.hid (HT.out j)
      have hE := Lib.hid (HE.out j)
      have hLT := Lib.hid (HLT.out j)
      clear HJ HA HL0 HT HE HLT hrow HP HU H1 H2
      generalize hLL : (bs.getD j []).length = L at *
      have hL1 : Hid (L = (bs.getD j []).length) := hLL.symm
      clear hLL
      go_wp2
      go_loop [3, 5] (fun o i => ∃ k : Nat, k ≤ L ∧ i = .int .i64 (k : Nat) ∧ o = .int .i64 ((offL ((bs.getD j []).take k) (ou j) : Nat) : Int)) (fun _ i => L - (intOf i).toNat)
      case atStart => exact ⟨0, Nat.zero_le _, rfl, rfl⟩
      case round =>
        obtain ⟨k, hk, rfl, rfl⟩ := hrel
        by_cases hkt : k < L
        · obtain ⟨b1, off1, eA, c3, _⟩ := hrow'.out k (by have := hL1.out; omega)
          subst eA
          obtain ⟨hx0, hxj⟩ := hA.out k hkt
          obtain ⟨m, hm⟩ : ∃ n : Nat, (bs.getD j []).getD k 0 = (n : Int) := ⟨_, (Int.toNat_of_nonneg hx0).symm⟩
          have ht := hT.out k hkt
          rw [hm] at c3 ht hxj
          rw [show ((m : Int)).toNat = m from rfl] at ht
          have hT' := Lib.hid ht
          have hsh := shl64 m (by omega)
          have hu := u64_in m (by omega)
          have hm64 : m < 64 := by omega
          have han := adn64 _ (2 ^ m) (hLT.out k) (pow_lt m (by omega))
          clear hm hx0 ht hA hT hE hLT hrow'
          generalize hq : adn (offL ((bs.getD j []).take k) (ou j)) (2 ^ m) = q at *
          generalize offL ((bs.getD j []).take k) (ou j) = ov at *
          generalize 2 ^ m = pw at *
          clear hq
          go_wp2
          go_round
          case rel => exact ⟨k + 1, by omega, by go_num, by rw [hT'.out]⟩
          case measure => simp [intOf]; omega
        · have e : k = L := by omega
          subst e
          have hE' := Lib.hid hE.out
          clear hA hT hE hLT hrow'
          generalize offL ((bs.getD j []).take k) (ou j) = ov at *
          go_wp2
          go_round
          case rel => exact ⟨j + 1, by omega, by go_num, by rw [← hE'.out]⟩
          case measure => simp [intOf]; omega
    · have e : j = N := by omega
      subst e
      go_wp2
      go_ret
      exact ⟨rfl, rfl⟩
/-- How many nodes a set has. -/
def cnt (m : Nat) : Nat := (bitL m 6).length
theorem cnt_step' : ∀ m : Fin 64, m.val ≠ 0 → bits .and .i64 (m.val : Int) ((m.val : Int) - 1) = ((m.val &&& (m.val - 1) : Nat) : Int) ∧ m.val &&& (m.val - 1) < m.val ∧ cnt m.val = cnt (m.val &&& (m.val - 1)) + 1 := by decide +kernel
theorem cnt_le (m : Nat) : cnt m ≤ 6 := bitL_len m 6
theorem cnt_zero : cnt 0 = 0 := by decide
set_option maxHeartbeats 1000000 in
theorem count_s (m : Nat) (hm : m < 64) (w : World) : Calls Try.prog 50 #[.int .i64 (m : Int)] w (NwG ((cnt m : Nat) : Int) w) := by
  have HS := Lib.hid (fun k (hk : k < 64) h => cnt_step' ⟨k, hk⟩ h)
  have HZ := Lib.hid cnt_zero
  have HL := cnt_le m
  generalize hc : cnt = f at *
  clear hc
  go_enter Try.func50, Try.ntmps50
  go_wp2
  go_loop [0, 3] (fun b n => ∃ k q : Nat, k < 64 ∧ q ≤ 6 ∧ b = .int .i64 (k : Nat) ∧ n = .int .i64 (q : Nat) ∧ Hid (q + f k = f m)) (fun b _ => (intOf b).toNat)
  case atStart => exact ⟨m, 0, hm, by omega, rfl, rfl, Lib.hid (by omega)⟩
  case round =>
    obtain ⟨k, q, hk, hq, rfl, rfl, hx⟩ := hrel
    by_cases hz : k = 0
    · have e : f m = q := by have := hx.out; rw [hz, HZ.out] at this; omega
      rw [e]
      subst hz
      go_wp2
      go_ret
      exact ⟨rfl, rfl⟩
    · obtain ⟨h1, h2, h3⟩ := HS.out k hk hz
      have h1' : bits .and .i64 (k : Int) ((k : Int) - 1) = ((k &&& (k - 1) : Nat) : Int) := h1
      have h2' : k &&& (k - 1) < k := h2
      have h3' : f k = f (k &&& (k - 1)) + 1 := h3
      have hx2 : Hid (q + 1 + f (k &&& (k - 1)) = f m) := by have := hx.out; show _ = _; omega
      have hpos : (0 : Int) < (k : Int) := by omega
      have hq6 : q + 1 ≤ 6 := by have := hx2.out; omega
      clear h1 h2 h3 h3' HS HZ hx
      generalize k &&& (k - 1) = k' at *
      go_wp2
      go_round
      case rel => exact ⟨k', q + 1, by omega, hq6, rfl, by go_num, hx2⟩
      case measure => simp [intOf]; omega
end Go.Proofs.Ytepobkflahjldaa.Pb
