/- Orders that follow from a seed, one behind the other: the model's and the program's SeedPolicy. -/
import Derived.Test.YthfgaoojgdikpaaCord
import Derived.Test.YthfgaoojgdikpaaCways
import Derived.Test.YthfgaoojgdikpaaCspol2
namespace Go.Proofs.Ythfgaoojgdikpaa.Sd
open Go.RowKit
theorem nx_pos' (s : Nat) (h1 : 1 ≤ s) (h2 : s ≤ 2147483646) : 1 ≤ nx s := by
  unfold nx
  have h3 : 48271 * s % 2147483647 ≠ 0 := by
    intro h
    have hd : 2147483647 ∣ 48271 * s := Nat.dvd_of_mod_eq_zero h
    have hc : Nat.Coprime 2147483647 48271 := by decide
    have := Nat.le_of_dvd (by omega) (hc.dvd_of_dvd_mul_left hd)
    omega
  omega
theorem at_pos' (s n : Nat) (h1 : 1 ≤ s) (h2 : s ≤ 2147483646) : 1 ≤ at_ s n ∧ at_ s n ≤ 2147483646 := by
  induction n with
  | zero => exact ⟨h1, h2⟩
  | succ n ih => exact ⟨nx_pos' _ ih.1 ih.2, by have := nx_lt (at_ s n); show nx (at_ s n) ≤ _; omega⟩
theorem at_add (s a : Nat) : ∀ b, at_ (at_ s a) b = at_ s (a + b)
  | 0 => rfl
  | b + 1 => by rw [at_, at_add s a b]; rfl
def Ord3 (xs : List Int) (sd : Nat) (w : World) (e : Ending) (w' : World) : Prop := ∃ v, e = .returned (.tuple #[v, .int .i64 (sd : Nat)]) ∧ Own w' w.heap.size v xs ∧ Below w.heap.size w w'
set_option maxHeartbeats 1600000 in
theorem l01Order_at (s n : Nat) (w : World) (h1 : 1 ≤ n) (h2 : s ≤ 2147483646) (h3 : n ≤ 80) :
    Calls Try.prog 63 #[.int .i64 s, .int .i64 n] w (Ord3 (ord s n) (at_ s (n - 1)) w) := by
  go_enter Try.func63, Try.ntmps63
  go_wp2
  go_loopw [6, 7] (fun v ct wr => ∃ j : Nat, j ≤ n ∧ ct = .int .i64 j ∧ Own wr w.heap.size v (iota j) ∧ Below w.heap.size w wr) (fun _ ct _ => n - (intOf ct).toNat)
  case atStart => exact ⟨0, Nat.zero_le _, rfl, World.ownsRow_lit w #[] 0 (Nat.le_refl _) (by unfold maxLen; omega) rfl, (Below.refl _ _).alloc (Nat.le_refl _) _⟩
  case round =>
    obtain ⟨j, hj, rfl, ho, hb⟩ := hrel
    have hsz := hb.size
    have HL := Lib.hid (iota_length j)
    by_cases hlt : j < n
    · go_wp2_with (at_builtin; refine wpList_app _ rfl _ _ rfl w.heap.size _ (iota j) _ ?_ ?_ ho ?_ ?_ ?_; rfl; rfl)
      · rw [HL.out]; omega
      · exact hsz
      intro v' w1 ho1 hb1
      go_wp2
      go_roundw
      case rel => exact ⟨j + 1, by omega, by go_num, ho1, hb.trans hb1⟩
      case measure => simp [intOf]; omega
    · have e : j = n := by omega
      subst e
      by_cases h0 : 0 < j
      · obtain ⟨g, cap, hv, hg, hat⟩ := own_atN ho HL.out h0
        clear ho
        subst hv
        have hd : Down s j w.heap.size g cap w (j - 1) wr := ⟨by rw [show j - 1 - (j - 1) = 0 by omega]; exact hat, hb⟩
        clear hat hb
        go_wp2
        go_loopw [0, 8] (fun sd ct wr => ∃ i : Nat, i < j ∧ sd = .int .i64 (at_ s (j - 1 - i) : Nat) ∧ ct = .int .i64 i ∧ Down s j w.heap.size g cap w i wr) (fun _ ct _ => (intOf ct).toNat)
        case atStart => exact ⟨j - 1, by omega, by rw [show j - 1 - (j - 1) = 0 by omega]; rfl, by go_num, hd⟩
        case round =>
          obtain ⟨i, hi, rfl, rfl, hd⟩ := hrel
          have hsl := at_lt s (j - 1 - i) (by omega)
          by_cases hpos : 0 < i
          · obtain ⟨k, x, y, hk, hkk, c1, c2, f1, f2, ⟨v3, c3⟩, hnx⟩ := hd.facts hg hpos hi
            have hmod : ((nx (at_ s (j - 1 - i)) : Nat) : Int) % ((i : Int) + 1) = (k : Int) := by
              rw [hkk.out, show j - i = j - 1 - i + 1 by omega]
              rfl
            clear hd
            go_wp2_with (go_at_call 64; refine (next_s _ _ hsl).mono ?_; rintro e w' ⟨rfl, rfl⟩)
            go_roundw
            case rel => exact ⟨i - 1, by omega, by rw [show j - 1 - (i - 1) = j - 1 - i + 1 by omega]; rfl, by go_num, hnx⟩
            case measure => simp [intOf]; omega
          · have hi0 : i = 0 := by omega
            subst hi0
            have hd1 := hd.1
            have hd2 := hd.2
            go_wp2
            go_ret2
            exact ⟨_, rfl, at_own hd1 (ordF_length s j _), hd2⟩
      · omega
/-- The rows of the policy: one order behind the other. -/
def rowS (n s i : Nat) : List Int := ord (at_ s (i * (n - 1))) n
def polS (n s j : Nat) : List (List Int) := (List.range j).map (rowS n s)
theorem polS_succ (n s j : Nat) : polS n s (j + 1) = polS n s j ++ [rowS n s j] := by
  unfold polS; rw [List.range_succ, List.map_append]; rfl
theorem polS_len (n s j : Nat) : (polS n s j).length = j := by simp [polS]
theorem rowS_len (n s i : Nat) : (rowS n s i).length = n := ord_length _ _
theorem seed_next (n s j : Nat) : at_ (at_ s (j * (n - 1))) (n - 1) = at_ s ((j + 1) * (n - 1)) := by
  rw [at_add, Nat.add_mul, Nat.one_mul]
set_option maxHeartbeats 4000000 in
set_option maxRecDepth 100000 in
theorem seed_s (n s : Nat) (h1 : 1 ≤ n) (h6 : n ≤ 6) (hs1 : 1 ≤ s) (hs2 : s ≤ 2147483646) (w : World) : Calls Try.prog 46 #[.int .i64 (n : Nat), .int .i64 (s : Nat)] w (RetP (polS n s n) (rowS n s n) w) := by
  have HP := Lib.hid (fun j => polS_succ n s j)
  have HPL := Lib.hid (fun j => polS_len n s j)
  have HFM := Lib.hid (fun (wr : World) (B : Nat) (v : Value) (vs : List Value) (j : Nat) (h : Own2W wr B v vs (polS n s j)) => Own2W.form h)
  have HO := Lib.hid (fun (j : Nat) (w' : World) => (show Calls Try.prog 63 #[.int .i64 (at_ s (j * (n - 1)) : Nat), .int .i64 (n : Nat)] w' (Ord3 (rowS n s j) (at_ s ((j + 1) * (n - 1))) w') by
    have h := l01Order_at (at_ s (j * (n - 1))) n w' h1 (at_pos' s _ hs1 hs2).2 (by omega)
    rw [seed_next] at h
    exact h))
  have hat0 : at_ s (0 * (n - 1)) = s := by simp [at_]
  have HAT0 := Lib.hid hat0
  clear hat0
  have hn6 : (n : Int) ≤ 6 := by omega
  go_enter Try.func46, Try.ntmps46
  go_wp2
  generalize hZ : w.heap.size = Z at *
  have hW0 : ∃ W0 : World, W0 = (w.alloc (.cells #[.slice none 0 0, .slice none 0 0] 25)).alloc (.cells #[.slice none 0 0, .slice none 0 0] 25) := ⟨_, rfl⟩
  obtain ⟨W0, hW0⟩ := hW0
  have hI0 := Lib.hid (PolInv.start Z w (.slice none 0 0) hZ (.cells #[.slice none 0 0, .slice none 0 0] 25))
  have hR0 := Lib.hid (fun (wr : World) (hb : Below (Z + 1) W0 wr) => PolInv.res hZ hb (by rw [hW0]; exact (Below.refl _ _).alloc (by rw [← hZ]; simp) _))
  have hB0 := Lib.hid (show Below Z w W0 by rw [hW0, ← hZ]; exact ((Below.refl _ _).alloc (Nat.le_refl _) _).alloc (by simp) _)
  rw [← hW0] at hI0 ⊢
  clear hW0
  have HZ := Lib.hid hZ
  go_loopw [1, 6, 7, 8] (fun sd i _ _ wr => ∃ (j : Nat) (v : Value) (vs : List Value), j ≤ n ∧ i = .int .i64 (j : Nat) ∧ sd = .int .i64 (at_ s (j * (n - 1)) : Nat) ∧ Hid (PolInv Z W0 wr v vs (polS n s j) (.slice none 0 0))) (fun _ i _ _ _ => n - (intOf i).toNat)
  case atStart => exact ⟨0, _, [], Nat.zero_le _, rfl, (by rw [HAT0.out]), hI0⟩
  case round =>
    obtain ⟨j, v, vs, hj, rfl, rfl, hI⟩ := hrel
    by_cases hlt : j < n
    · obtain ⟨a, c, hv⟩ := HFM.out _ _ _ _ _ hI.out.1
      rw [HPL.out] at hv
      subst hv
      have HPJ := Lib.hid (HP.out j)
      have HOJ := Lib.hid (HO.out j wr)
      generalize at_ s (j * (n - 1)) = sj at *
      generalize hsj : at_ s ((j + 1) * (n - 1)) = sj1 at *
      have HSJ := Lib.hid hsj
      clear hsj
      go_wp2_with fail
      refine HOJ.out.mono ?_
      rintro e w5 ⟨u, rfl, hu5, bb⟩
      obtain ⟨au, nu, cu, eu⟩ := Own.form3 hu5
      subst eu
      have hu := hu5.weak
      obtain ⟨c0, c1, f0, f1, hlZ⟩ := hI.out.cells bb
      obtain ⟨p1, p2, p3, p4, p5⟩ := hI.out.app bb hu
      have hlen9 : (polS n s j).length + 1 ≤ 1000000000 := by rw [HPL.out]; omega
      have HST := Lib.hid (fun (w3 : World) (v' : Value) (vs' : List Value) (o3 : Own2W w3 (Z + 2) v' vs' (polS n s j ++ [rowS n s j])) (b3 : Below (Z + 2) w5 w3) => hI.out.store bb o3 b3)
      have HFV := Lib.hid (fun (w3 : World) (v' : Value) (vs' : List Value) (o3 : Own2W w3 (Z + 2) v' vs' (polS n s j ++ [rowS n s j])) => Own2W.form o3)
      go_wp2_with (at_builtin; refine wpList_app2W _ rfl _ _ rfl (Z + 2) _ vs (polS n s j) _ (rowS n s j) ?_ ?_ p1 p2 p3 p4 hlen9 p5 ?_; rfl; rfl)
      intro v6 w6 ho6 hb6 _ _
      obtain ⟨a6, n6, e6⟩ := HFV.out w6 v6 _ ho6
      have e7 : v6 = .slice a6 (j + 1) n6 := by rw [e6, List.length_append, HPL.out]; rfl
      clear e6
      subst e7
      obtain ⟨⟨d0, g0⟩, hI6⟩ := HST.out w6 _ _ ho6 hb6
      rw [← HPJ.out] at hI6
      have HI6 := Lib.hid hI6
      clear hI6 ho6 hb6 p1 p2 p3 p4 p5 c0 c1 f0 f1 hu hu5
      go_wp2
      go_roundw
      case rel => exact ⟨j + 1, _, _, by omega, by go_num, (by rw [HSJ.out]), HI6⟩
      case measure => simp [intOf]; omega
    · have e : j = n := by omega
      subst e
      obtain ⟨a, c, hv⟩ := HFM.out _ _ _ _ _ hI.out.1
      rw [HPL.out] at hv
      subst hv
      obtain ⟨c0, c1, f0, f1, hlZ⟩ := hI.out.cells (Below.refl _ wr)
      have HOWN := Lib.hid (HO.out j wr)
      have HID := Lib.hid hI.out
      generalize at_ s (j * (j - 1)) = sj at *
      generalize at_ s ((j + 1) * (j - 1)) = sj1 at *
      go_wp2_with fail
      refine HOWN.out.mono ?_
      rintro e w1 ⟨v1, rfl, o1, b1⟩
      obtain ⟨a1, n1, k1, e1⟩ := Own.form3 o1
      subst e1
      obtain ⟨d0, d1, g0, g1, hl1⟩ := HID.out.cells b1
      obtain ⟨r0, r1, q0, q1⟩ := hR0.out w1 (HID.out.2.2.1.trans (b1.mono (by have := HID.out.2.2.2; omega)))
      have HD := Lib.hid (fun u1 u2 => HID.out.done b1 o1.weak u1 u2)
      have HBZ := Lib.hid (show Below Z w w1 from (hB0.out.trans (HID.out.2.2.1.mono (by omega))).trans (b1.mono (by have := HID.out.2.2.2; omega)))
      clear o1 b1 c0 c1 f0 f1
      go_wp2
      refine bodyPost_ret (v := .agg #[.slice a j c, .slice a1 n1 k1]) (by simp [results, Try.results46, go_sem, d0, d1, g0, g1, r0, r1, q0, q1]) rfl ⟨_, rfl, ?_, ?_⟩
      · rw [HZ.out]
        exact HD.out _ _
      · rw [HZ.out]
        exact ((HBZ.out.setCell (p := ⟨Z + 1, 1, none⟩) (show Z ≤ Z + 1 by omega) _).setCell (p := ⟨Z, 0, none⟩) (Nat.le_refl _) _).setCell (p := ⟨Z, 1, none⟩) (Nat.le_refl _) _
end Go.Proofs.Ythfgaoojgdikpaa.Sd
