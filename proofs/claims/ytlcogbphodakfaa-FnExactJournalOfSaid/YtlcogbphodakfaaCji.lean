/- The program's RecoverJournal. -/
import Derived.Test.YtlcogbphodakfaaCstr
import Derived.Test.YtlcogbphodakfaaPlainJrn
import Derived.Test.YtlcogbphodakfaaShelf
import Derived.Laws.Strings
namespace Go.Proofs.Ytlcogbphodakfaa.Jn
open Go.RowKit Sj
/-- append of one string to a list of the call's own. -/
theorem wpList_appS {ops : Array Oper} {rest : List Oper} {o : Oper} {a : Act} {Q : Exit → Act → World → Prop} (wr : World) (hgd : o.guard = none) (s x : Operand)
    (ho : o.op = .call { callee := .builtin .append, args := #[s, x], argTypes := #[22, 22] })
    (B : Nat) (v : Value) (xs : List ByteArray) (u : ByteArray) (hs : a.eval s = v) (hx : a.eval x = .slice (some ⟨wr.heap.size, 0, none⟩) 1 1) (hown : OwnS wr B v xs)
    (hlen : xs.length + 1 ≤ 1000000) (hB : B ≤ wr.heap.size)
    (h : ∀ v' w', OwnS w' B v' (xs ++ [u]) → Below B wr w' → wpList Try.prog ops Q rest (a.put o.dst v') w') :
    wpList Try.prog ops Q (o :: rest) a (wr.alloc (.cells #[.string u] 9)) := by
  obtain ⟨i0, hi, hz0, hz1, hz2⟩ := info_parts infoS
  refine wpList_append_own _ hgd s x 22 ho B 9 i0 (.string ByteArray.empty) 1 16 Try.underlying22 hi hz0 hz1 hz2 rfl (by decide) v xs.length (xs.map Value.string) hs (World.ownsRow.alloc hown _)
    ⟨wr.heap.size, 0, none⟩ 1 1 [.string u] hx rfl ?_ ?_ ?_ ?_ ?_ ?_
  · intro j u' hj
    match j, hj with
    | 0, hj => simp at hj; subst hj; simp [Addr.add]
  · intro u' hu; simp at hu; subst hu; rfl
  · unfold maxLen; omega
  · omega
  · simp; omega
  · intro v' w' hown' hgrow _
    refine h v' w' ?_ ?_
    · show World.ownsRow _ _ _ _ _ (xs ++ [u]).length _
      rw [List.length_append, List.map_append]
      exact hown'
    · exact ((Below.refl B wr).alloc hB _).grown hgrow (by simp; omega) (fun k hk => (OwnS.block hown k hk).1)
def Rj (xs : List ByteArray) (n : Nat) (ok : Bool) (w : World) (e : Ending) (w' : World) : Prop := ∃ v, e = .returned (.tuple #[v, .int .i64 (n : Int), .bool ok]) ∧ OwnS w' w.heap.size v xs ∧ Below w.heap.size w w'
theorem ext_drop (s : ByteArray) (a : Nat) : (s.extract a s.size).data.toList = s.data.toList.drop a := by
  rw [Lib.extract_data]
  exact List.take_of_length_le (by simp)
theorem neqb {a b : ByteArray} (h : ¬ a = b) : (a.toList == b.toList) = false := by
  rw [ByteArray.toList_eq, ByteArray.toList_eq, beq_eq_false_iff_ne]
  intro e
  exact h (ByteArray.ext (Array.toList_inj.mp e))
theorem long_i (s : ByteArray) (hs : (4000 : Int) < s.size) (w : World) : Calls Try.prog 11 #[.string s] w (Rj [] 0 false w) := by
  go_enter Try.func11, Try.ntmps11
  go_wp2
  go_ret3
  exact ⟨_, rfl, OwnS.nil _ _, Below.refl _ _⟩
set_option maxHeartbeats 1000000 in
theorem rec_i (s : ByteArray) (hs : ¬ (4000 : Int) < s.size) (w : World) : Calls Try.prog 11 #[.string s] w (Rj (rc s (nl s.data.toList 0) 0 ByteArray.empty).1 (rc s (nl s.data.toList 0) 0 ByteArray.empty).2 true w) := by
  have h0 : Hid (nl (s.data.toList.drop 0) 0 = nl s.data.toList 0) := Lib.hid (by rw [List.drop_zero])
  generalize hR : rc s (nl s.data.toList 0) 0 ByteArray.empty = R at *
  have HR := Lib.hid hR
  clear hR
  generalize hP : nl s.data.toList 0 = P at *
  have hpl : P.length ≤ 4000 := by rw [← hP]; have := nl_len s.data.toList 0; simp at this; omega
  clear hP
  have HI := Lib.hid Try.strings_Index_one
  have HC := Lib.hid (fun (t : ByteArray) (w9 : World) (ht : t.size ≤ 5000) => Ck.impl_any t w9 (by omega))
  go_enter Try.func11, Try.ntmps11
  go_wp2
  go_loopw [5, 6, 7] (fun vo vl va wr => ∃ (v : Value) (out : List ByteArray) (le : ByteArray) (a : Nat) (post : List Nat), vo = v ∧ vl = .string le ∧ va = .int .i64 (a : Nat) ∧ a ≤ s.size ∧ le.size ≤ 2 ∧ out.length + post.length ≤ 4000 ∧ Hid (OwnS wr w.heap.size v out) ∧ Hid (Below w.heap.size w wr) ∧ Hid (nl (s.data.toList.drop a) a = post) ∧ Hid (out ++ (rc s post a le).1 = R.1 ∧ (rc s post a le).2 = R.2)) (fun _ _ va _ => s.size - (intOf va).toNat)
  case atStart => exact ⟨_, [], ByteArray.empty, 0, P, rfl, rfl, rfl, Nat.zero_le _, by decide, by simpa using hpl, Lib.hid (OwnS.nil _ _), Lib.hid (Below.refl _ _), h0, Lib.hid (by rw [HR.out]; exact ⟨rfl, rfl⟩)⟩
  case round =>
    obtain ⟨v, out, le, a, post, rfl, rfl, rfl, ha, hle, hln, ho, hb, hn, hr⟩ := hrel
    cases post with
    | nil =>
      have HX := Lib.hid (HI.out (s.extract a s.size) 10 wr)
      rw [ext_drop, ix_nil _ _ hn.out] at HX
      go_wp2_with fail
      refine HX.out.mono ?_; rintro e w2 ⟨rfl, rfl⟩
      go_wp2
      go_ret3
      have h1 := hr.out.1
      have h2 := hr.out.2
      rw [rc] at h1 h2
      exact ⟨_, by rw [← h2]; rfl, by rw [← h1, List.append_nil]; exact ho.out, hb.out⟩
    | cons p ps =>
      obtain ⟨hp1, hp2, hp3⟩ := nl_head _ _ _ _ hn.out
      obtain ⟨d, rfl⟩ : ∃ d, p = a + d := ⟨p - a, by omega⟩
      have hd : a + d < s.size := by simp at hp2; omega
      have HX := Lib.hid (HI.out (s.extract a s.size) 10 wr)
      rw [ext_drop, ix_cons _ _ _ _ hn.out] at HX
      clear hp1 hp2
      have HP3c : Hid (nl (s.data.toList.drop (a + d + 1)) (a + d + 1) = ps) := by
        show _ = _
        rw [List.drop_drop, show a + d - a + 1 = d + 1 by omega, show a + (d + 1) = a + d + 1 by omega] at hp3
        exact hp3
      clear hp3
      by_cases h3 : d < 3
      · go_wp2_with fail
        refine HX.out.mono ?_; rintro e w2 ⟨rfl, rfl⟩
        go_wp2
        go_ret3
        have h1 := hr.out.1
        have h2 := hr.out.2
        rw [rc_short (by omega)] at h1 h2
        exact ⟨_, by rw [← h2]; rfl, by rw [← h1, List.append_nil]; exact ho.out, hb.out⟩
      · have hsl : ∀ wx, (Instr.slice 9 (.string s) (some (.int .i64 ((a : Int) + 3))) (some (.int .i64 ((a : Int) + (d : Int)))) none).run Try.prog wx = .ok (.string (s.extract (a + 3) (a + d))) wx := fun wx => by
          have := run_slice_string (P := Try.prog) wx 9 s .i64 .i64 ((a : Int) + 3) ((a : Int) + (d : Int)) Try.underlying9 (by omega) (by omega) (by omega)
          rw [show ((a : Int) + 3).toNat = a + 3 by omega, show ((a : Int) + (d : Int)).toNat = a + d by omega] at this
          exact this
        have hsl2 : ∀ wx, (Instr.slice 9 (.string s) (some (.int .i64 (a : Int))) (some (.int .i64 ((a : Int) + 3))) none).run Try.prog wx = .ok (.string (s.extract a (a + 3))) wx := fun wx => by
          have := run_slice_string (P := Try.prog) wx 9 s .i64 .i64 (a : Int) ((a : Int) + 3) Try.underlying9 (by omega) (by omega) (by omega)
          rw [show ((a : Int) + 3).toNat = a + 3 by omega, show (a : Int).toNat = a by omega] at this
          exact this
        have HK := Lib.hid (HC.out (le ++ s.extract (a + 3) (a + d)) wr (by rw [ByteArray.size_append, ByteArray.size_extract]; omega))
        have HRY := Lib.hid (rc_yes (s := s) (p := a + d) (a := a) (ps := ps) (le := le) (by omega))
        have HRN := Lib.hid (rc_no (s := s) (p := a + d) (a := a) (ps := ps) (le := le) (by omega))
        have hns := nx_size s a (a + d) le
        have hxs : (s.extract (a + 3) (a + d)).size ≤ 4000 := by rw [ByteArray.size_extract]; omega
        have HNX := Lib.hid (show Ck.letters (Ck.chk (le ++ s.extract (a + 3) (a + d)).data.toList) = nx s a (a + d) le from rfl)
        rw [HNX.out] at HK
        generalize nx s a (a + d) le = M at *
        generalize s.extract a (a + 3) = F at *
        generalize s.extract (a + 3) (a + d) = X at *
        clear HNX
        by_cases hq : F = M ++ ⟨#[32]⟩
        · go_wp2_with fail
          refine HX.out.mono ?_; rintro e w2 ⟨rfl, rfl⟩
          go_wp2_with fail
          refine HK.out.mono ?_; rintro e w3 ⟨rfl, b3⟩
          have ho3 := ho.out.below b3 (Nat.le_refl _)
          have hb3 := bt hb.out b3
          have hsz := hb3.size
          have hq2 : out.length + 1 ≤ 1000000 := by simp at hln; omega
          have e1 := hr.out.1
          have e2 := hr.out.2
          rw [HRY.out hq] at e1 e2
          have E1 := Lib.hid e1
          have E2 := Lib.hid e2
          clear e1 e2 HRY HRN
          go_wp2_with (at_builtin; refine wpList_appS _ rfl _ _ rfl w.heap.size _ out _ ?_ ?_ ho3 hq2 hsz ?_; rfl; rfl)
          intro v' w6 ho6 hb6
          go_wp2
          go_roundw
          case rel => exact ⟨_, out ++ [X], M, a + d + 1, ps, rfl, rfl, by go_num, by omega, by omega, by simp at hln ⊢; omega, Lib.hid ho6, Lib.hid (hb3.trans hb6), HP3c, Lib.hid ⟨by rw [← E1.out, List.append_assoc]; rfl, E2.out⟩⟩
          case measure => simp [intOf]; omega
        · have hqb : (F.toList == (M ++ ⟨#[32]⟩).toList) = false := neqb hq
          go_wp2_with fail
          refine HX.out.mono ?_; rintro e w2 ⟨rfl, rfl⟩
          go_wp2_with fail
          refine HK.out.mono ?_; rintro e w3 ⟨rfl, b3⟩
          go_wp2
          go_ret3
          have h1 := hr.out.1
          have h2 := hr.out.2
          rw [HRN.out hq] at h1 h2
          exact ⟨_, by rw [← h2]; rfl, by rw [← h1, List.append_nil]; exact ho.out.below b3 (Nat.le_refl _), bt hb.out b3⟩
end Go.Proofs.Ytlcogbphodakfaa.Jn
