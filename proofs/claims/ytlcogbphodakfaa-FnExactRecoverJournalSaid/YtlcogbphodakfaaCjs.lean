/- The model's lines of a text, and its RecoverJournal. -/
import Derived.Test.YtlcogbphodakfaaCji
import Derived.Deep.RegionHeld3
import Derived.Laws.Concat
namespace Go.Proofs.Ytlcogbphodakfaa.Jn
open Go.RowKit Sj
theorem litS (w : World) : OwnS (w.alloc (.cells #[] 9)) w.heap.size (.slice (some ⟨w.heap.size, 0, none⟩) 0 0) [] :=
  World.ownsRow_lit w #[] 0 (Nat.le_refl _) (Nat.zero_le _) rfl
/-- The lines and something left. -/
def Rl (xs : List ByteArray) (w : World) (e : Ending) (w' : World) : Prop := ∃ v r, e = .returned (.tuple #[v, .string r]) ∧ OwnS w' w.heap.size v xs ∧ Below w.heap.size w w'
theorem lst_le : ∀ (l : List UInt8) (k f : Nat), lst f (nl l k) ≤ max f (k + l.length)
  | [], k, f => by simp [nl, lst]; omega
  | a :: l, k, f => by
    rw [nl]
    by_cases h : a = 10
    · rw [if_pos h]
      have := lst_le l (k + 1) (k + 1)
      show lst (k + 1) (nl l (k + 1)) ≤ _
      simp only [List.length_cons]
      omega
    · rw [if_neg h]
      have := lst_le l (k + 1) f
      simp only [List.length_cons]
      omega
theorem nl_yes (s : ByteArray) (k : Nat) (h : k < s.size) (hc : s[k] = 10) : nl (s.data.toList.take (k + 1)) 0 = nl (s.data.toList.take k) 0 ++ [k] := by
  rw [Ck.take_snoc s k h, nl_snoc, if_pos hc, List.length_take]
  congr 2
  simp; omega
theorem nl_no (s : ByteArray) (k : Nat) (h : k < s.size) (hc : ¬ s[k] = 10) : nl (s.data.toList.take (k + 1)) 0 = nl (s.data.toList.take k) 0 := by
  rw [Ck.take_snoc s k h, nl_snoc, if_neg hc, List.append_nil]
theorem fr_le (s : ByteArray) (k : Nat) (h : k ≤ s.size) : lst 0 (nl (s.data.toList.take k) 0) ≤ k := by
  have := lst_le (s.data.toList.take k) 0 0
  rw [List.length_take] at this
  simp at this
  omega
theorem cl_le (s : ByteArray) (k : Nat) (h : k ≤ s.size) : (cut s 0 (nl (s.data.toList.take k) 0)).length ≤ k := by
  rw [cut_len]
  have := nl_len (s.data.toList.take k) 0
  rw [List.length_take] at this
  omega
set_option maxHeartbeats 1000000 in
theorem lines_s (s : ByteArray) (hs : s.size ≤ 4000) (w : World) : Calls Try.prog 20 #[.string s] w (Rl (cut s 0 (nl s.data.toList 0)) w) := by
  have HE := Lib.hid (show s.data.toList.take s.size = s.data.toList from List.take_of_length_le (by simp))
  go_enter Try.func20, Try.ntmps20
  go_wp2
  go_loopw [4, 5, 6] (fun vo vf vi wr => ∃ (k f : Nat) (out : List ByteArray), k ≤ s.size ∧ f ≤ k ∧ out.length ≤ k ∧ vf = .int .i64 (f : Nat) ∧ vi = .int .i64 (k : Nat) ∧ Hid (f = lst 0 (nl (s.data.toList.take k) 0)) ∧ Hid (out = cut s 0 (nl (s.data.toList.take k) 0)) ∧ Hid (OwnS wr w.heap.size vo out) ∧ Hid (Below w.heap.size w wr)) (fun _ _ vi _ => s.size - (intOf vi).toNat)
  case atStart => exact ⟨0, 0, [], Nat.zero_le _, Nat.le_refl _, Nat.le_refl _, rfl, rfl, Lib.hid rfl, Lib.hid rfl, Lib.hid (litS w), Lib.hid ((Below.refl _ _).alloc (Nat.le_refl _) _)⟩
  case round =>
    obtain ⟨k, f, out, hk, hf, hol, rfl, rfl, hfe, hoe, ho, hb⟩ := hrel
    by_cases hlt : k < s.size
    · by_cases hc : s[k] = 10
      · have HN := Lib.hid (nl_yes s k hlt hc)
        have hcn : (s[k].toNat : Int) = 10 := by rw [hc]; rfl
        have hsl : ∀ wx, (Instr.slice 9 (.string s) (some (.int .i64 (f : Int))) (some (.int .i64 (k : Int))) none).run Try.prog wx = .ok (.string (s.extract f k)) wx := fun wx => by
          have := run_slice_string (P := Try.prog) wx 9 s .i64 .i64 (f : Int) (k : Int) Try.underlying9 (by omega) (by omega) (by omega)
          rw [show (f : Int).toNat = f by omega, show (k : Int).toNat = k by omega] at this
          exact this
        have ho3 := ho.out
        have hsz := hb.out.size
        have hq2 : out.length + 1 ≤ 1000000 := by omega
        have HO := Lib.hid (show out ++ [s.extract f k] = cut s 0 (nl (s.data.toList.take (k + 1)) 0) by rw [HN.out, cut_snoc, ← hoe.out, ← hfe.out])
        have HF := Lib.hid (show k + 1 = lst 0 (nl (s.data.toList.take (k + 1)) 0) by rw [HN.out, lst_snoc])
        generalize s.extract f k = X at *
        clear hc
        go_wp2_with (at_builtin; refine wpList_appS _ rfl _ _ rfl w.heap.size _ out _ ?_ ?_ ho3 hq2 hsz ?_; rfl; rfl)
        intro v' w6 ho6 hb6
        go_wp2
        go_roundw
        case rel => exact ⟨k + 1, k + 1, out ++ [X], by omega, by omega, by simp; omega, by go_num, by go_num, HF, HO, Lib.hid ho6, Lib.hid (hb.out.trans hb6)⟩
        case measure => simp [intOf]; omega
      · have HN := Lib.hid (nl_no s k hlt hc)
        have hcn : ¬ (s[k].toNat : Int) = 10 := fun h => hc (UInt8.toNat_inj.1 (by rw [show s[k].toNat = 10 by omega]; rfl))
        clear hc
        go_wp2
        go_roundw
        case rel => exact ⟨k + 1, f, out, by omega, by omega, by omega, rfl, by go_num, Lib.hid (by rw [HN.out]; exact hfe.out), Lib.hid (by rw [HN.out]; exact hoe.out), ho, hb⟩
        case measure => simp [intOf]; omega
    · have e : k = s.size := by omega
      subst e
      rw [HE.out] at hoe
      have hsl3 : ∀ wx, (Instr.slice 9 (.string s) (some (.int .i64 (f : Int))) none none).run Try.prog wx = .ok (.string (s.extract f s.size)) wx := fun wx => by
        have := run_slice_string_from_if (P := Try.prog) wx 9 s .i64 (f : Int) Try.underlying9
        rw [if_pos (by omega), show (f : Int).toNat = f by omega] at this
        exact this
      generalize s.extract f s.size = X at *
      go_wp2
      go_quiet (fail)
      go_wp2
      go_ret2
      exact ⟨_, _, rfl, by rw [← hoe.out]; exact ho.out, below_drewN _ hb.out⟩
theorem long_s (s : ByteArray) (hs : (4000 : Int) < s.size) (w : World) : Calls Try.prog 10 #[.string s] w (Rj [] 0 false w) := by
  go_enter Try.func10, Try.ntmps10
  go_wp2
  go_ret3
  exact ⟨_, rfl, OwnS.nil _ _, Below.refl _ _⟩
theorem ext_split (s : ByteArray) (a d : Nat) (h3 : 3 ≤ d) (hd : a + d ≤ s.size) (hx : 2 < (s.extract a (a + d)).size) : s.extract a (a + 3) = (s.extract a (a + d)).extract 0 2 ++ ⟨#[(s.extract a (a + d))[2]]⟩ := by
  have hl : 2 < (s.data.toList.drop a).length := by simp; omega
  apply ByteArray.ext
  apply Array.toList_inj.1
  have e2 : (s.extract a (a + d))[2] = (s.data.toList.drop a)[2] := by
    have : (s.extract a (a + d)).data.toList[2]'(by have := hx; rw [ByteArray.size_extract] at this; simp; omega) = (s.data.toList.drop a)[2] := by
      simp only [Lib.extract_data, List.getElem_take]
    rw [← this]
    rfl
  rw [e2, ByteArray.data_append, Array.toList_append, Lib.extract_data, Lib.extract_data, Lib.extract_data, List.drop_zero, List.take_take, show a + 3 - a = 3 by omega, show min (2 - 0) (a + d - a) = 2 by omega, List.take_succ_eq_append_getElem hl]
theorem ext_iff {F Y M : ByteArray} {c : UInt8} (h : F = Y ++ ⟨#[c]⟩) (hy : Y.size = 2) (hm : M.size = 2) : F = M ++ ⟨#[32]⟩ ↔ c = 32 ∧ Y = M := by
  rw [h]
  constructor
  · intro e
    have e1 : Y.data.toList ++ [c] = M.data.toList ++ [32] := by
      have := congrArg (fun t : ByteArray => t.data.toList) e
      simpa [ByteArray.data_append] using this
    have e2 := List.append_inj e1 (by simp; omega)
    exact ⟨by simpa using e2.2, ByteArray.ext (Array.toList_inj.1 e2.1)⟩
  · rintro ⟨rfl, rfl⟩; rfl
theorem ext_ext (s : ByteArray) (a d : Nat) (h3 : 3 ≤ d) (hd : a + d ≤ s.size) : (s.extract a (a + d)).extract 3 d = s.extract (a + 3) (a + d) := by
  apply ByteArray.ext
  apply Array.toList_inj.1
  rw [Lib.extract_data, Lib.extract_data, Lib.extract_data, List.drop_take, List.drop_drop, List.take_take]
  congr 1
  omega
set_option maxHeartbeats 6000000 in
theorem rec_s (s : ByteArray) (hs : ¬ (4000 : Int) < s.size) (w : World) : Calls Try.prog 10 #[.string s] w (Rj (rc s (nl s.data.toList 0) 0 ByteArray.empty).1 (rc s (nl s.data.toList 0) 0 ByteArray.empty).2 true w) := by
  have h0 : Hid (nl (s.data.toList.drop 0) 0 = nl s.data.toList 0) := Lib.hid (by rw [List.drop_zero])
  have HL := Lib.hid (lines_s s (by omega) w)
  have hcl := cut_len s 0 (nl s.data.toList 0)
  generalize hR : rc s (nl s.data.toList 0) 0 ByteArray.empty = R at *
  have HR := Lib.hid hR
  clear hR
  generalize hP : nl s.data.toList 0 = P at *
  have hpl : P.length ≤ 4000 := by rw [← hP]; have := nl_len s.data.toList 0; simp at this; omega
  clear hP
  have HC := Lib.hid (fun (t : ByteArray) (w9 : World) (ht : t.size ≤ 5000) => Ck.spec_any t w9 (by omega))
  go_enter Try.func10, Try.ntmps10
  go_wp2_with fail
  refine HL.out.mono ?_; rintro e w1 ⟨v0, r0, rfl, o0, b0⟩
  obtain ⟨a0, c0, rfl, rd⟩ := o0.row
  rw [hcl]
  have RD := Lib.hid rd
  clear rd o0 HL
  generalize hN : P.length = N at *
  have HN := Lib.hid hN
  clear hN hcl
  go_wp2
  go_loopw [7, 8, 9, 10] (fun vo vl vn vi wr => ∃ (out : List ByteArray) (le : ByteArray) (a n : Nat) (pre post : List Nat), vl = .string le ∧ vn = .int .i64 (a : Nat) ∧ vi = .int .i64 (n : Nat) ∧ Hid (n = pre.length) ∧ n + post.length = N ∧ a ≤ s.size ∧ le.size ≤ 2 ∧ out.length ≤ n ∧ Hid (P = pre ++ post) ∧ Hid (a = lst 0 pre) ∧ Hid (OwnS wr w1.heap.size vo out) ∧ Hid (Below w1.heap.size w1 wr) ∧ Hid (nl (s.data.toList.drop a) a = post) ∧ Hid (out ++ (rc s post a le).1 = R.1 ∧ (rc s post a le).2 = R.2)) (fun _ _ _ vi _ => N - (intOf vi).toNat)
  case atStart => exact ⟨[], ByteArray.empty, 0, 0, [], P, rfl, rfl, rfl, Lib.hid rfl, by rw [HN.out]; simp, Nat.zero_le _, by decide, Nat.le_refl _, Lib.hid rfl, Lib.hid rfl, Lib.hid (litS w1), Lib.hid ((Below.refl _ _).alloc (Nat.le_refl _) _), h0, Lib.hid (by rw [HR.out]; exact ⟨rfl, rfl⟩)⟩
  case round =>
    obtain ⟨out, le, a, n, pre, post, rfl, rfl, rfl, hnp, hN2, ha, hle, hol, hP, haL, ho, hb, hn, hr⟩ := hrel
    cases post with
    | nil =>
      have e : n = N := by simpa using hN2
      subst e
      have h1 := hr.out.1
      have h2 := hr.out.2
      rw [rc] at h1 h2
      go_wp2
      go_ret3
      exact ⟨_, by rw [← h2]; rfl, by rw [← h1, List.append_nil]; exact ho.out.mono b0.size, bt b0 hb.out⟩
    | cons p ps =>
      obtain ⟨hp1, hp2, hp3⟩ := nl_head _ _ _ _ hn.out
      obtain ⟨d, rfl⟩ : ∃ d, p = a + d := ⟨p - a, by omega⟩
      have hd : a + d < s.size := by simp at hp2; omega
      clear hp1 hp2
      have HP3c : Hid (nl (s.data.toList.drop (a + d + 1)) (a + d + 1) = ps) := by
        show _ = _
        rw [List.drop_drop, show a + d - a + 1 = d + 1 by omega, show a + (d + 1) = a + d + 1 by omega] at hp3
        exact hp3
      clear hp3
      have hlt : n < N := by simp at hN2; omega
      obtain ⟨b, off, rfl, g, _, hl⟩ := RD.out n (by rw [cut_len, HN.out]; exact hlt)
      have gw := (hb.out.cell (p := ⟨b, off + n, none⟩) hl).trans g
      rw [hP.out, hnp.out, cut_get, ← haL.out, ← hnp.out] at gw
      have hX0 : (s.extract a (a + d)).size = d := by rw [ByteArray.size_extract]; omega
      by_cases h3 : d < 3
      · have h1 := hr.out.1
        have h2 := hr.out.2
        rw [rc_short (by omega)] at h1 h2
        have H1 := Lib.hid h1
        have H2 := Lib.hid h2
        clear h1 h2
        have hgi : (d : Int) < 3 := by omega
        have hgb : decide ((d : Int) < 3) = true := decide_eq_true hgi
        generalize s.extract a (a + d) = X0 at *
        go_wp2
        go_quiet (fail)
        go_wp2
        go_ret3
        exact ⟨_, by rw [← H2.out]; rfl, by rw [← H1.out, List.append_nil]; exact ho.out.mono b0.size, below_drewN _ (bt b0 hb.out)⟩
      · have hx2 : 2 < (s.extract a (a + d)).size := by omega
        have hgi : (3 : Int) ≤ (d : Int) := by omega
        have hgb : decide ((d : Int) < 3) = false := decide_eq_false (by omega)
        have KS := ext_split s a d (by omega) (by omega) hx2
        have HRY := Lib.hid (rc_yes (s := s) (p := a + d) (a := a) (ps := ps) (le := le) (by omega))
        have HRN := Lib.hid (rc_no (s := s) (p := a + d) (a := a) (ps := ps) (le := le) (by omega))
        have hy : ((s.extract a (a + d)).extract 0 2).size = 2 := by rw [ByteArray.size_extract]; omega
        have hns := nx_size s a (a + d) le
        have IFF := Lib.hid (ext_iff KS hy hns)
        clear KS
        have HK := Lib.hid (fun w9 => HC.out (le ++ s.extract (a + 3) (a + d)) w9 (by rw [ByteArray.size_append, ByteArray.size_extract]; omega))
        have HNX := Lib.hid (show Ck.letters (Ck.chk (le ++ s.extract (a + 3) (a + d)).data.toList) = nx s a (a + d) le from rfl)
        rw [HNX.out] at HK
        have EE := Lib.hid (ext_ext s a d (by omega) (by omega))
        have hxs : (s.extract (a + 3) (a + d)).size ≤ 4000 := by rw [ByteArray.size_extract]; omega
        generalize nx s a (a + d) le = M at *
        generalize s.extract a (a + 3) = F at *
        generalize s.extract a (a + d) = X0 at *
        have hsl : ∀ wx, (Instr.slice 9 (.string X0) (some (.int .i64 3)) none none).run Try.prog wx = .ok (.string (s.extract (a + 3) (a + d))) wx := fun wx => by
          have := run_slice_string_from_if (P := Try.prog) wx 9 X0 .i64 3 Try.underlying9
          rw [if_pos (by omega), show (3 : Int).toNat = 3 from rfl, hX0, EE.out] at this
          exact this
        generalize s.extract (a + 3) (a + d) = X at *
        have hsl2 : ∀ wx, (Instr.slice 9 (.string X0) none (some (.int .i64 2)) none).run Try.prog wx = .ok (.string (X0.extract 0 2)) wx := fun wx => by
          have := run_slice_string_to_if (P := Try.prog) wx 9 X0 .i64 2 Try.underlying9
          rw [if_pos (by omega)] at this
          exact this
        generalize X0.extract 0 2 = Y at *
        clear HNX EE
        have hcat : ¬ 9223372036854775807 < le.size + X.size := by omega
        have hcat2 : ∀ wx, (Op.stringOp .add le X).run Try.prog wx = .ok (.string (le ++ X)) wx := fun wx => run_string_add_sum wx le X (by omega)
        have hix : ∀ wx, (Instr.index 9 (.string X0) (.int .i64 2)).run Try.prog wx = .ok (.int .u8 (X0[2].toNat : Int)) wx := fun wx => by
          rw [run_index_string (P := Try.prog) wx 9 X0 .i64 2 Try.underlying9, dif_pos ⟨by omega, by omega⟩]
          rfl
        by_cases hc : X0[2] = 32
        · have hcn : (X0[2].toNat : Int) = 32 := by rw [hc]; rfl
          rw [hcn] at hix
          have hnb : (!decide ((32 : Int) = 32)) = false := rfl
          by_cases hq : Y = M
          · have e1 := hr.out.1
            have e2 := hr.out.2
            rw [HRY.out (IFF.out.2 ⟨hc, hq⟩)] at e1 e2
            have E1 := Lib.hid e1
            have E2 := Lib.hid e2
            clear e1 e2 HRY HRN IFF hc hcn
            subst hq
            go_wp2
            go_region_held3 (fun _ => True) (trivial) (first | (go_at_call 21; (with_reducible refine (HK.out _).mono ?_); rintro e w3 ⟨rfl, b3⟩))
            all_goals
              have ho3 := OwnS.below (w := wr.drew) ho.out b3 (Nat.le_refl _)
              have hb3 := bt hb.out.drew b3
              have hsz := hb3.size
              have hq2 : out.length + 1 ≤ 1000000 := by omega
              go_wp2_with (at_builtin; refine wpList_appS _ rfl _ _ rfl w1.heap.size _ out _ ?_ ?_ ho3 hq2 hsz ?_; rfl; rfl)
              intro v' w6 ho6 hb6
              go_wp2
              go_roundw
              case rel => exact ⟨out ++ [X], _, a + d + 1, n + 1, pre ++ [a + d], ps, rfl, by go_num, by go_num, Lib.hid (by simp; exact hnp.out), by simp at hN2; omega, by omega, by omega, by simp; omega, Lib.hid (by rw [hP.out]; simp), Lib.hid (by rw [lst_snoc]), Lib.hid ho6, Lib.hid (hb3.trans hb6), HP3c, Lib.hid ⟨by rw [← E1.out, List.append_assoc]; rfl, E2.out⟩⟩
              case measure => simp [intOf]; omega
          · have e1 := hr.out.1
            have e2 := hr.out.2
            rw [HRN.out (fun h => hq (IFF.out.1 h).2)] at e1 e2
            have hqb : (M.toList == Y.toList) = false := neqb fun h => hq h.symm
            have E1 := Lib.hid e1
            have E2 := Lib.hid e2
            clear e1 e2 HRY HRN IFF hc hcn
            go_wp2
            go_region_held3 (fun _ => True) (trivial) (first | (go_at_call 21; (with_reducible refine (HK.out _).mono ?_); rintro e w3 ⟨rfl, b3⟩))
            all_goals
              go_wp2
              go_ret3
              exact ⟨_, by rw [← E2.out]; rfl, by rw [← E1.out, List.append_nil]; exact (OwnS.below (w := wr.drew) ho.out b3 (Nat.le_refl _)).mono b0.size, bt (bt b0 hb.out).drew b3⟩
        · have hcn : ¬ (X0[2].toNat : Int) = 32 := fun h => hc (UInt8.toNat_inj.1 (by rw [show X0[2].toNat = 32 by omega]; rfl))
          have e1 := hr.out.1
          have e2 := hr.out.2
          rw [HRN.out (fun h => hc (IFF.out.1 h).1)] at e1 e2
          have E1 := Lib.hid e1
          have E2 := Lib.hid e2
          clear e1 e2 HRY HRN IFF hc
          go_wp2
          generalize (X0[2].toNat : Int) = C at *
          have hcb : decide (C = 32) = false := decide_eq_false hcn
          go_quiet (fail)
          go_wp2
          go_ret3
          exact ⟨_, by rw [← E2.out]; rfl, by rw [← E1.out, List.append_nil]; exact ho.out.mono b0.size, below_drewN _ (bt b0 hb.out)⟩
end Go.Proofs.Ytlcogbphodakfaa.Jn
