/- The program's loops: isNest, loopFrom, wrappedAddress, NestTrace. -/
import Derived.Test.YtefhjgcgkbpnkaaPlainNest
import Derived.Test.YtefhjgcgkbpnkaaCmA
import Derived.Test.YtefhjgcgkbpnkaaCappg
import Derived.Test.YtefhjgcgkbpnkaaCbtg
import Derived.Test.YtefhjgcgkbpnkaaCbt
import Derived.Deep.RegionLaw
import Derived.Deep.AppendLies
import Derived.IntWalk
namespace Go.Proofs.Ytefhjgcgkbpnkaa.Nst
open Go.RowKit Tr Ac
/-- A nest that is read. -/
def RdN (w : World) (v : Value) (kind base : Int) (cs ss : List Int) : Prop :=
  ∃ a c a' c', v = .agg #[.int .i64 kind, .int .i64 base, .slice a cs.length c, .slice a' ss.length c'] ∧ Row w a cs ∧ Row w a' ss ∧ cs.length ≤ 1048576 ∧ ss.length ≤ 1048576 ∧ cs.length ≤ c ∧ ss.length ≤ c'
theorem RdN.below {w w' : World} {v : Value} {kind base : Int} {cs ss : List Int} (h : RdN w v kind base cs ss) (hb : Below w.heap.size w w') : RdN w' v kind base cs ss := by
  obtain ⟨a, c, a', c', e, h1, h2, h3⟩ := h
  exact ⟨a, c, a', c', e, h1.below hb, h2.below hb, h3⟩
/-- What a box of four cells holds. -/
theorem box4 (w : World) (t : TypeId) (x y z u : Value) : ∀ w', Below (w.heap.size + 1) (w.alloc (.cells #[x, y, z, u] t)) w' → (w'.cell? ⟨w.heap.size, 0, none⟩ = some x ∧ w'.cell? ⟨w.heap.size, 1, none⟩ = some y ∧ w'.cell? ⟨w.heap.size, 2, none⟩ = some z ∧ w'.cell? ⟨w.heap.size, 3, none⟩ = some u) ∧ Below w.heap.size w w' ∧ w.heap.size + 1 ≤ w'.heap.size := by
  intro w' hb
  have hz : (w.alloc (.cells #[x, y, z, u] t)).heap.size = w.heap.size + 1 := Array.size_push _
  have hbk : (w.alloc (.cells #[x, y, z, u] t)).heap[w.heap.size]? = some (.cells #[x, y, z, u] t (0, 0)) := heap_alloc_new w _
  have h := (hb.block w.heap.size (by omega)).trans hbk
  refine ⟨⟨?_, ?_, ?_, ?_⟩, ((Below.refl _ w).alloc (Nat.le_refl _) _).trans (hb.mono (by omega)), by have := hb.size; omega⟩
  · rw [cell_of_row w' w.heap.size 0 _ _ (0, 0) h]; rfl
  · rw [cell_of_row w' w.heap.size 1 _ _ (0, 0) h]; rfl
  · rw [cell_of_row w' w.heap.size 2 _ _ (0, 0) h]; rfl
  · rw [cell_of_row w' w.heap.size 3 _ _ (0, 0) h]; rfl
set_option maxHeartbeats 2000000 in
theorem isnest_i {v : Value} {kind base : Int} {cs ss : List Int} {w : World} (h : RdN w v kind base cs ss) :
    Calls Try.prog 19 #[v] w (Bb (nestB kind base cs ss) w) := by
  obtain ⟨a, c, a', c', rfl, h1, h2, h3, h4, _, _⟩ := h
  have HK := Lib.hid (fun w9 => kind_i kind w9)
  have HA := Lib.hid (fun w9 => addr_ii base w9)
  have HB := Lib.hid (box4 w 29 (.int .i64 kind) (.int .i64 base) (.slice a cs.length c) (.slice a' ss.length c') _ (Below.refl _ _))
  have HC1 := Lib.hid (fun (j : Nat) (hj : j < cs.length) => (show ∃ b off, a = some ⟨b, off, none⟩ ∧ (w.alloc (.cells #[.int .i64 kind, .int .i64 base, .slice a cs.length c, .slice a' ss.length c'] 29)).cell? ⟨b, off + j, none⟩ = some (.int .i64 (cs.getD j 0)) from by
    obtain ⟨b, off, e, hc, hb⟩ := h1 j hj
    exact ⟨b, off, e, (HB.out.2.1.cell (p := ⟨b, off + j, none⟩) hb).trans hc⟩))
  have HC2 := Lib.hid (fun (j : Nat) (hj : j < ss.length) => (show ∃ b off, a' = some ⟨b, off, none⟩ ∧ (w.alloc (.cells #[.int .i64 kind, .int .i64 base, .slice a cs.length c, .slice a' ss.length c'] 29)).cell? ⟨b, off + j, none⟩ = some (.int .i64 (ss.getD j 0)) from by
    obtain ⟨b, off, e, hc, hb⟩ := h2 j hj
    exact ⟨b, off, e, (HB.out.2.1.cell (p := ⟨b, off + j, none⟩) hb).trans hc⟩))
  have HS := Lib.hid (fun j => loopB_succ cs ss j)
  have HNO := Lib.hid (fun j hj => loopB_no cs ss j cs.length hj)
  have H0 := Lib.hid (show loopB cs ss 0 = true from rfl)
  have HW1 := Lib.hid (fun x w9 => (show Calls Try.prog 33 #[.int .i64 x, .int .i64 1, .int .i64 60] w9 (Bl (okC x) w9) from btw_g x 1 60 w9))
  have HW2 := Lib.hid (fun x w9 => (show Calls Try.prog 33 #[.int .i64 x, .int .i64 (-1000), .int .i64 1000] w9 (Bl (okSt x) w9) from btw_g x (-1000) 1000 w9))
  obtain ⟨r, hrr⟩ : ∃ r, nestB kind base cs ss = r := ⟨_, rfl⟩
  have hdef : nestB kind base cs ss = (isK kind && isA base && decide (cs.length ≤ 3) && decide (cs.length = ss.length) && loopB cs ss cs.length) := rfl
  rw [hdef] at hrr
  rw [show nestB kind base cs ss = r from hdef.trans hrr]
  have HR := Lib.hid hrr
  clear hrr hdef h1 h2
  obtain ⟨⟨k0, k1, k2, k3⟩, hbel, _⟩ := HB.out
  have HBEL := Lib.hid hbel
  clear HB hbel
  obtain ⟨rl, hrl⟩ : ∃ rl, loopB cs ss cs.length = rl := ⟨_, rfl⟩
  rw [hrl] at HR HNO
  have HRL := Lib.hid hrl
  clear hrl
  generalize hLB : loopB cs ss = LB at *
  clear hLB
  generalize hN : cs.length = N at *
  generalize hM : ss.length = M at *
  clear hN hM
  generalize hW : (w.alloc (.cells #[.int .i64 kind, .int .i64 base, .slice a N c, .slice a' M c'] 29)) = W at *
  have HW := Lib.hid hW
  clear hW
  cases hk : isK kind
  · have e : r = false := by rw [← HR.out, hk]; rfl
    rw [hk] at HK
    clear HR
    subst e
    go_enter Try.func19, Try.ntmps19
    go_wp2_with fail
    rw [HW.out]
    refine (HK.out W).mono ?_; rintro e w1 ⟨rfl, rfl⟩
    go_wp2
    go_ret
    exact ⟨rfl, HBEL.out⟩
  · rw [hk] at HK
    cases ha : isA base
    · have e : r = false := by rw [← HR.out, hk, ha]; rfl
      rw [ha] at HA
      clear HR
      subst e
      go_enter Try.func19, Try.ntmps19
      go_wp2_with fail
      rw [HW.out]
      refine (HK.out W).mono ?_; rintro e w1 ⟨rfl, rfl⟩
      go_wp2_with (go_at_call 32; (with_reducible refine (HA.out _).mono ?_); rintro e w' ⟨rfl, rfl⟩)
      go_ret
      exact ⟨rfl, HBEL.out⟩
    · rw [ha] at HA
      by_cases h3 : N ≤ 3
      · have h3i : ¬ (3 : Int) < (N : Int) := by omega
        by_cases hl : N = M
        · subst hl
          have hne : ((N : Int) != (N : Int)) = false := by simp
          have e : r = rl := by rw [← HR.out, hk, ha, decide_eq_true h3, decide_eq_true rfl]; rfl
          clear HR
          subst e
          go_enter Try.func19, Try.ntmps19
          go_wp2_with fail
          rw [HW.out]
          refine (HK.out W).mono ?_; rintro e w1 ⟨rfl, rfl⟩
          go_wp2_with (go_at_call 32; (with_reducible refine (HA.out _).mono ?_); rintro e w' ⟨rfl, rfl⟩)
          go_loop [3, 4, 33] (fun _ _ i => ∃ j : Nat, j ≤ N ∧ i = .int .i64 j ∧ Hid (LB j = true)) (fun _ _ i => N - (intOf i).toNat)
          case atStart => exact ⟨0, Nat.zero_le _, rfl, H0⟩
          case round =>
            obtain ⟨j, hj, rfl, hx⟩ := hrel
            by_cases hlt : j < N
            · obtain ⟨b, off, rfl, c1⟩ := HC1.out j hlt
              obtain ⟨b', off', rfl, c2⟩ := HC2.out j hlt
              have hs := Lib.hid (HS.out j)
              have hno := Lib.hid (HNO.out j hlt)
              have hw1 := Lib.hid (HW1.out (cs.getD j 0))
              have hw2 := Lib.hid (HW2.out (ss.getD j 0))
              generalize cs.getD j 0 = x at *
              generalize ss.getD j 0 = y at *
              cases hc : okC x
              · have e : r = false := hno.out (by rw [hc]; rfl)
                rw [hc] at hw1
                clear hs hno hx HRL HNO HS H0
                subst e
                go_wp2_with (go_at_call 33; (with_reducible refine (hw1.out _).mono ?_); rintro e w' ⟨rfl, rfl⟩)
                go_ret
                exact ⟨rfl, HBEL.out⟩
              · rw [hc] at hw1
                cases hd : okSt y
                · have e : r = false := hno.out (by rw [hc, hd]; rfl)
                  rw [hd] at hw2
                  clear hs hno hx HRL HNO HS H0
                  subst e
                  go_wp2_with (first | (go_at_call 33; (with_reducible refine (hw1.out _).mono ?_); rintro e w' ⟨rfl, rfl⟩) | (go_at_call 33; (with_reducible refine (hw2.out _).mono ?_); rintro e w' ⟨rfl, rfl⟩))
                  go_ret
                  exact ⟨rfl, HBEL.out⟩
                · have hnew : Hid (LB (j + 1) = true) := by show _ = _; rw [hs.out, hx.out, hc, hd]; rfl
                  rw [hd] at hw2
                  clear hs hno
                  go_wp2_with (first | (go_at_call 33; (with_reducible refine (hw1.out _).mono ?_); rintro e w' ⟨rfl, rfl⟩) | (go_at_call 33; (with_reducible refine (hw2.out _).mono ?_); rintro e w' ⟨rfl, rfl⟩))
                  go_round
                  case rel => exact ⟨j + 1, by omega, by go_num, hnew⟩
                  case measure => simp [intOf] <;> omega
            · have e : j = N := by omega
              subst e
              have e : r = true := HRL.out.symm.trans hx.out
              clear HRL HNO HS hx H0
              subst e
              go_wp2
              go_ret
              exact ⟨rfl, HBEL.out⟩
        · have hne : ((N : Int) != (M : Int)) = true := by simp; omega
          have e : r = false := by rw [← HR.out, hk, ha, decide_eq_true h3, decide_eq_false hl]; rfl
          clear HR
          subst e
          go_enter Try.func19, Try.ntmps19
          go_wp2_with fail
          rw [HW.out]
          refine (HK.out W).mono ?_; rintro e w1 ⟨rfl, rfl⟩
          go_wp2_with (go_at_call 32; (with_reducible refine (HA.out _).mono ?_); rintro e w' ⟨rfl, rfl⟩)
          go_ret
          exact ⟨rfl, HBEL.out⟩
      · have h3i : (3 : Int) < (N : Int) := by omega
        have e : r = false := by rw [← HR.out, hk, ha, decide_eq_false h3]; rfl
        clear HR
        subst e
        go_enter Try.func19, Try.ntmps19
        go_wp2_with fail
        rw [HW.out]
        refine (HK.out W).mono ?_; rintro e w1 ⟨rfl, rfl⟩
        go_wp2_with (go_at_call 32; (with_reducible refine (HA.out _).mono ?_); rintro e w' ⟨rfl, rfl⟩)
        go_ret
        exact ⟨rfl, HBEL.out⟩
theorem wrap_i (p : Int) (w : World) (h0 : -1000000 ≤ p) (h1 : p ≤ 1000000) : Calls Try.prog 21 #[.int .i64 p] w (fun e w' => e = .returned (.int .i64 (wrA p)) ∧ w = w') := by
  unfold wrA
  have h2 := Int.lt_tmod_of_pos p (show (0 : Int) < 64 by decide)
  have h3 := Int.tmod_lt_of_pos p (show (0 : Int) < 64 by decide)
  go_enter Try.func21, Try.ntmps21
  go_wp2
  go_ret
  exact ⟨rfl, rfl⟩
set_option maxHeartbeats 2000000 in
theorem loopfrom_i (a : Option Addr) (ca : Nat) (xs : List Int) (c : Nat) (s : Int) (w : World) (hc0 : 1 ≤ c) (hc : c ≤ 60) (hs0 : -1000 ≤ s) (hs1 : s ≤ 1000) (hl : xs.length * c ≤ 60) (hb : ∀ j, j < xs.length → -1000000 ≤ xs.getD j 0 ∧ xs.getD j 0 ≤ 1000000) (hr : Row w a xs) :
    Calls Try.prog 20 #[.slice a xs.length ca, .int .i64 (c : Nat), .int .i64 s] w (Lb (told (lf xs c s) (xs.length * c)) w) := by
  have hN : xs.length ≤ 60 := Nat.le_trans (Nat.le_mul_of_pos_right _ hc0) hl
  have HC := Lib.hid (fun (j : Nat) (hj : j < xs.length) => hr j hj)
  have HB := Lib.hid hb
  have HM := Lib.hid (fun (i : Nat) (hi : i < c) => mul_rng i s (by omega) hs0 hs1)
  have HT := Lib.hid (fun (j i : Nat) (hj : j < xs.length) (hi : i < c) => (show told (lf xs c s) (j * c + (i + 1)) = told (lf xs c s) (j * c + i) ++ [xs.getD j 0 + (i : Int) * s] from by
    rw [← Nat.add_assoc, told_succ, lf_at xs c s j i hi]))
  have HTL := Lib.hid (fun k => told_length (lf xs c s) k)
  have HJ := Lib.hid (fun (j i : Nat) (hj : j < xs.length) (hi : i ≤ c) => (show j * c + i ≤ 60 from by
    have h1 : (j + 1) * c ≤ xs.length * c := Nat.mul_le_mul_right c hj
    rw [Nat.add_mul] at h1
    omega))
  have HE := Lib.hid (fun j => show (j + 1) * c = j * c + c by rw [Nat.add_mul]; omega)
  have H0 := Lib.hid (show told (lf xs c s) (0 * c) = [] by rw [Nat.zero_mul]; rfl)
  clear hb hr hl
  generalize hTD : told (lf xs c s) = TD at *
  clear hTD
  generalize hNN : xs.length = N at *
  clear hNN
  go_enter Try.func20, Try.ntmps20
  go_wp2
  go_loopw [7, 9, 10, 13, 18] (fun v _ _ i _ wr => ∃ j : Nat, j ≤ N ∧ i = .int .i64 j ∧ Hid (Own wr w.heap.size v (TD (j * c))) ∧ Hid (Below w.heap.size w wr)) (fun _ _ _ i _ _ => N - (intOf i).toNat)
  case atStart => exact ⟨0, Nat.zero_le _, rfl, (by rw [H0.out]; exact Own.nil _ _), Lib.hid (Below.refl _ _)⟩
  case round =>
    obtain ⟨j, hj, rfl, ho, hb⟩ := hrel
    by_cases hlt : j < N
    · obtain ⟨b, off, rfl, c1, hbw⟩ := HC.out j hlt
      have c2 := (hb.out.cell (p := ⟨b, off + j, none⟩) hbw).trans c1
      have ht := Lib.hid (fun i hi => HT.out j i hlt hi)
      have hj2 := Lib.hid (fun i hi => HJ.out j i hlt hi)
      have he := Lib.hid (HE.out j)
      obtain ⟨p0, p1⟩ := HB.out j hlt
      clear c1
      generalize xs.getD j 0 = p at *
      generalize hJC : j * c = JC at *
      clear hJC
      go_wp2
      go_loopw [7, 10, 18] (fun v _ i wr2 => ∃ k : Nat, k ≤ c ∧ i = .int .i64 k ∧ Hid (Own wr2 w.heap.size v (TD (JC + k))) ∧ Hid (Below w.heap.size w wr2)) (fun _ _ i _ => c - (intOf i).toNat)
      case atStart => exact ⟨0, Nat.zero_le _, rfl, ho, hb⟩
      case round =>
        obtain ⟨k, hk, rfl, ho2, hb2⟩ := hrel
        by_cases hlt2 : k < c
        · have htt := ht.out k hlt2
          have hjj := hj2.out k (by omega)
          have hm := HM.out k hlt2
          obtain ⟨m, hmm⟩ : ∃ m, (k : Int) * s = m := ⟨_, rfl⟩
          rw [hmm] at htt hm
          have e9 : IntKind.i64.wrap ((k : Int) * s) = m := by rw [hmm]; exact IntWalk.i64_in _ (by omega)
          clear hmm
          obtain ⟨hm0, hm1⟩ := hm
          have hq : (TD (JC + k)).length + 1 ≤ 1000000000 := by rw [HTL.out]; omega
          have hsz := hb2.out.size
          have hoo := ho2.out
          have HTT := Lib.hid htt
          clear htt
          go_wp2_with (at_builtin; refine wpList_app _ rfl _ _ rfl w.heap.size _ (TD (JC + k)) _ ?_ ?_ hoo hq hsz ?_; rfl; rfl)
          intro v' w2 ho3 hb3
          go_wp2
          go_roundw
          case rel => exact ⟨k + 1, by omega, by go_num, (by rw [HTT.out]; exact ho3), hb2.out.trans hb3⟩
          case measure => simp [intOf] <;> omega
        · have e : k = c := by omega
          subst e
          go_wp2
          go_roundw
          case rel => exact ⟨j + 1, by omega, by go_num, (by rw [he.out]; exact ho2), hb2⟩
          case measure => simp [intOf] <;> omega
    · have e : j = N := by omega
      subst e
      go_wp2
      go_ret
      exact ⟨_, rfl, ho.out, hb.out⟩
theorem step_appA {ops : Array Oper} {o : Oper} {a : Act} {K : Act → World → Prop} {Q : Exit → Act → World → Prop} {E : Prop} (wr : World) (hgd : o.guard = none) (s x : Operand)
    (ho : o.op = .call { callee := .builtin .append, args := #[s, x], argTypes := #[26, 26] })
    (B : Nat) (v : Value) (rs : List (Int × Int)) (k ad : Int) (hs : a.eval s = v) (hx : a.eval x = .slice (some ⟨wr.heap.size, 0, none⟩) 1 1) (hown : OwnA wr B v rs) (hlen : rs.length + 1 ≤ 100000000) (hB : B ≤ wr.heap.size)
    (h : ∀ g cap w', OwnA w' B (.slice (some ⟨g, 0, none⟩) (rs.length + 1) cap) (rs ++ [(k, ad)]) → Below B wr w' → K (a.put o.dst (.slice (some ⟨g, 0, none⟩) (rs.length + 1) cap)) w') :
    if Region.wanted o (yielded ops a.tmps) = true then Oper.wp Try.prog o a (wr.alloc (.cells #[.int .i64 k, .int .i64 ad] 40)) K Q else E := by
  obtain ⟨i0, hi, hz0, hz1, hz2⟩ := info_parts infoA
  have hsz : (wr.alloc (.cells #[.int .i64 k, .int .i64 ad] 40)).heap.size = wr.heap.size + 1 := Array.size_push _
  refine step_append_lies _ hgd s x 26 ho B 40 i0 (.agg #[.int .i64 0, .int .i64 0]) 2 16 Try.underlying26 hi hz0 hz1 hz2 rfl (by decide) v rs.length (acells rs) hs (World.ownsRow.alloc hown _)
    ⟨wr.heap.size, 0, none⟩ 1 1 [.int .i64 k, .int .i64 ad] hx rfl ?_ ?_ (by decide) ?_ ?_ ?_ _ rfl ?_
  · intro j u' hj
    match j, hj with
    | 0, hj => simp at hj; subst hj; simp [Addr.add]
    | 1, hj => simp at hj; subst hj; simp [Addr.add]
  · intro u' hu; simp at hu; rcases hu with hu | hu <;> subst hu <;> rfl
  · unfold maxLen; omega
  · omega
  · simp; omega
  · intro g cap w' hrow hgrow _ _
    refine h g cap w' ?_ ?_
    · show World.ownsRow _ _ _ _ _ (rs ++ [(k, ad)]).length _
      rw [List.length_append, acells_app]
      exact hrow
    · exact ((Below.refl B wr).alloc hB _).grown hgrow (by omega) (fun k hk => (OwnA.block hown k hk).1)
theorem ownA_lit0 (w : World) : OwnA (w.alloc (.cells #[] 40)) w.heap.size (.slice (some ⟨w.heap.size, 0, none⟩) 0 0) [] :=
  World.ownsRow_lit w #[] 0 (Nat.le_refl _) (by unfold maxLen; omega) rfl
end Go.Proofs.Ytefhjgcgkbpnkaa.Nst
