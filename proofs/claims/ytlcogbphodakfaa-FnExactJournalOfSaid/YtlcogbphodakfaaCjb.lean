/- A builder of the call's own at this program's copyCheck (whose refused way the loader cut off): it is taken, and a string is written to it. -/
import Derived.Test.YtlcogbphodakfaaCjm
import Derived.Lib.Builder
import Derived.Lib.AppendStr
import Derived.Lib.UnsafeStr
import Derived.Laws.Externs
import Derived.Lib.Walk
import Derived.Deep.RegionHeld3
namespace Go.Proofs.Ytlcogbphodakfaa.Jn
open Go.RowKit
theorem sizeB : (Try.prog.info? 36).map (·.size) = some 2 := by kernel_rfl
theorem liesB : liesAt Try.prog Try.prog.depth 36 (2 / Try.prog.cellsOf 36) 0 36 1 = true := by kernel_rfl
theorem infoU : (Try.prog.info? 5).map (fun i => (i.zero, i.size, i.bytes)) = some (some (.int .u8 0), 1, 1) := by kernel_rfl
abbrev IsB (B b : Nat) (bs : List Value) (w : World) : Prop := Lib.IsBuilder 36 5 B b bs w
abbrev AtB (B b : Nat) (bs : List Value) (w : World) : Prop := Lib.BuilderAt 36 5 B b (.pointer (some ⟨b, 0, none⟩)) bs w
theorem cc_used (b : Nat) (w : World) (h0 : w.cell? ⟨b, 0, none⟩ = some (.pointer (some ⟨b, 0, none⟩))) :
    Calls Try.prog 24 #[.pointer (some ⟨b, 0, none⟩)] w fun e w' => e = .returned (.tuple #[]) ∧ w' = w := by
  obtain ⟨j, hj, _⟩ := Option.map_eq_some_iff.1 sizeB
  have hne := fun wx : World => Lib.run_neq_ptr_same (P := Try.prog) wx ⟨b, 0, none⟩ Try.underlying33 hj
  go_enter Try.func24, Try.ntmps24
  go_wp2
  go_end0
  exact ⟨rfl, rfl⟩
theorem cc_fresh (b : Nat) (w : World) (h0 : w.cell? ⟨b, 0, none⟩ = some (.pointer none)) (hsh : w.shape? b = some (36, 2)) (hfz : w.frozen? ⟨b, 0, none⟩ = false) :
    Calls Try.prog 24 #[.pointer (some ⟨b, 0, none⟩)] w fun e w' => e = .returned (.tuple #[]) ∧ w' = w.setCell ⟨b, 0, none⟩ (.pointer (some ⟨b, 0, none⟩)) := by
  obtain ⟨j, hj, hjs⟩ := Option.map_eq_some_iff.1 sizeB
  have HT := Lib.run_to_unsafe (P := Try.prog) w ⟨b, 0, none⟩ Try.underlying33 Try.underlying50 hj (by rw [hjs]; decide) hsh (Nat.zero_lt_succ 1)
  have HF := Lib.run_from_unsafe (P := Try.prog) w ⟨b, 0, none⟩ Try.underlying50 Try.underlying33 hj hsh liesB
  go_enter Try.func24, Try.ntmps24
  go_wp2
  rw [run_callFunc_extern Try.func26 (by kernel_rfl) (by kernel_rfl) (by kernel_rfl) (e := Extern.AbiNoEscape.same) (by kernel_rfl)]
  rw [Lib.run_noEscape]
  simp only [Result.andThen]
  rw [Oper.upon_value]
  go_wp2
  go_end0
  exact ⟨rfl, rfl⟩
theorem cc_any (B b : Nat) (bs : List Value) (w : World) (h : IsB B b bs w) :
    Calls Try.prog 24 #[.pointer (some ⟨b, 0, none⟩)] w fun e w' => e = .returned (.tuple #[]) ∧ AtB B b bs w' ∧ Below B w w' := by
  rcases h with h | h
  · refine (cc_fresh b w h.cell0 h.shape h.frozen0).mono ?_
    rintro e w' ⟨rfl, rfl⟩
    exact ⟨rfl, h.used _, (Below.refl B w).setCell (p := ⟨b, 0, none⟩) h.1 _⟩
  · refine (cc_used b w h.cell0).mono ?_
    rintro e w' ⟨rfl, rfl⟩
    exact ⟨rfl, h, Below.refl B _⟩
theorem ws_any (B b : Nat) (bs : List Value) (s : ByteArray) (w : World) (h : IsB B b bs w) (hlen : bs.length + s.size ≤ 1000000) (hBw : B ≤ w.heap.size) :
    Calls Try.prog 18 #[.pointer (some ⟨b, 0, none⟩), .string s] w fun e w' => e = .returned (.tuple #[.int .i64 s.size, .nilIface]) ∧ AtB B b (bs ++ Lib.strCells s) w' ∧ Below B w w' := by
  obtain ⟨i0, hi, hz0, hz1, hz2⟩ := info_parts infoU
  have HK := Lib.hid (cc_any B b bs w h)
  clear h
  go_enter Try.func18, Try.ntmps18
  go_wp2_with fail
  refine HK.out.mono ?_; rintro e w1 ⟨rfl, h1, b1⟩
  have s1 := b1.size
  obtain ⟨hB, v, hbk, hown, hne⟩ := h1
  have c0 : w1.cell? ⟨b, 0, none⟩ = some (.pointer (some ⟨b, 0, none⟩)) := by rw [Lib.cell_of_heap hbk]; rfl
  have c1 : w1.cell? ⟨b, 1, none⟩ = some v := by rw [Lib.cell_of_heap hbk]; rfl
  have hlt : b < w1.heap.size := (Array.getElem?_eq_some_iff.1 hbk).1
  go_wp2_with (at_builtin; refine Lib.wpList_append_own_string _ rfl _ _ 34 9 rfl B 5 i0 Try.underlying34 Try.underlying9 hi hz0 hz1 hz2 _ _ _ rfl hown s rfl ?c3 ?c4 ?c5 ?_)
  case c3 => unfold maxLen; omega
  case c4 => omega
  case c5 => omega
  intro v2 w2 o2 gr _
  have hk2 : w2.heap[b]? = some (.cells #[.pointer (some ⟨b, 0, none⟩), v] 36 (0, 0)) := (gr.block b hlt (fun e => hne e.symm)).trans hbk
  have d0 : w2.cell? ⟨b, 0, none⟩ = some (.pointer (some ⟨b, 0, none⟩)) := by rw [Lib.cell_of_heap hk2]; rfl
  have d1 : w2.cell? ⟨b, 1, none⟩ = some v := by rw [Lib.cell_of_heap hk2]; rfl
  have f1 : w2.frozen? ⟨b, 1, none⟩ = false := Lib.frozen_of_heap hk2 1
  obtain ⟨a2, n2, p2, rfl⟩ : ∃ a2 n2 p2, v2 = .slice a2 n2 p2 := by
    rcases o2.2 with ⟨e, _⟩ | ⟨g, cap, cur, e, _⟩
    · exact ⟨_, _, _, e⟩
    · exact ⟨_, _, _, e⟩
  go_wp2
  go_ret2
  exact ⟨rfl, Lib.BuilderAt.put (T := 36) (e := 5) hB hk2 (bs' := bs ++ Lib.strCells s) (by simpa [Lib.strCells_length] using o2) (by decide), (b1.grown gr (by omega) (fun k hk => (hown.lt k hk).1)).setCell (p := ⟨b, 1, none⟩) hB _⟩
theorem isB_below {B b : Nat} {bs : List Value} {w w' : World} (h : IsB B b bs w) (hb : Below w.heap.size w w') : IsB B b bs w' := by
  have key : ∀ p, Lib.BuilderAt 36 5 B b p bs w → Lib.BuilderAt 36 5 B b p bs w' := fun p ⟨hB, v, hk, ho, hne⟩ => by
    refine ⟨hB, v, (hb.block b (Array.getElem?_eq_some_iff.1 hk).1).trans hk, ⟨ho.1, ?_⟩, hne⟩
    rcases ho.2 with hn | ⟨g, cap, cur, hv, hg, hh, r⟩
    · exact .inl hn
    · exact .inr ⟨g, cap, cur, hv, hg, by rw [hb.block g (Array.getElem?_eq_some_iff.1 hh).1]; exact hh, r⟩
  rcases h with h | h
  · exact .inl (key _ h)
  · exact .inr (key _ h)
theorem cells_app (l : List UInt8) (s : ByteArray) : Lib.byteCells l ++ Lib.strCells s = Lib.byteCells (l ++ s.data.toList) := by simp [Lib.byteCells, Lib.strCells]
theorem len_i (B b : Nat) (l : List UInt8) (w : World) (h : IsB B b (Lib.byteCells l) w) :
    Calls Try.prog 15 #[.pointer (some ⟨b, 0, none⟩)] w fun e w' => e = .returned (.int .i64 (l.length : Nat)) ∧ w' = w := by
  have := Try.Builder_Len B b (Lib.byteCells l) w h
  rw [Lib.byteCells_length] at this
  exact this
set_option maxHeartbeats 1000000 in
theorem jof_i (a : Option Addr) (c : Nat) (xs : List ByteArray) (w : World) (h : RdC w a xs) (hn : xs.length ≤ 1048576) (hx : ∀ i, i < xs.length → (xs.getD i ByteArray.empty).size ≤ 1048576) :
    Calls Try.prog 8 #[.slice a xs.length c] w (Js (jo xs) (okJ 0 xs) w) := by
  have HD := Lib.hid (dropC xs)
  have HDE := Lib.hid (show xs.drop xs.length = [] from List.drop_length)
  have H0 := Lib.hid (show okJ 0 (xs.drop 0) = okJ 0 xs by rw [List.drop_zero])
  have H1 := Lib.hid (show ([] : List UInt8) ++ (jt ByteArray.empty (xs.drop 0)).data.toList = (jt ByteArray.empty xs).data.toList by rw [List.drop_zero, List.nil_append])
  have HC := Lib.hid (fun (w9 : World) (hb : Below w.heap.size w w9) => h.below hb (Nat.le_refl _))
  have HX := Lib.hid hx
  have HYO := Lib.hid (show okJ 0 xs = true → ∀ l : List UInt8, l = (jt ByteArray.empty xs).data.toList → (⟨l.toArray⟩ : ByteArray) = jo xs from fun ho l e => by
    unfold jo
    rw [if_pos ho, e])
  have HNO := Lib.hid (show ¬ okJ 0 xs = true → jo xs = ByteArray.empty from fun ho => if_neg ho)
  clear h hx
  generalize jo xs = J at *
  generalize okJ 0 xs = ok at *
  generalize (jt ByteArray.empty xs).data.toList = JL at *
  generalize hN : xs.length = n at *
  have HN := Lib.hid hN
  clear hN
  have HK := Lib.hid (fun (t : ByteArray) (w9 : World) (ht : t.size ≤ 5000) => Ck.impl_any t w9 (by omega))
  have HB0 := Lib.hid (Lib.fresh_isBuilder 36 5 w)
  go_enter Try.func8, Try.ntmps8
  go_wp2
  go_loopw [5, 10] (fun vl vi wr => ∃ (le : ByteArray) (k : Nat) (l : List UInt8), k ≤ n ∧ le.size ≤ 2 ∧ l.length ≤ 4000 ∧ vl = .string le ∧ vi = .int .i64 (k : Nat) ∧ Hid (IsB w.heap.size w.heap.size (Lib.byteCells l) wr) ∧ Hid (Below w.heap.size w wr) ∧ Hid (okJ l.length (xs.drop k) = ok) ∧ Hid (l ++ (jt le (xs.drop k)).data.toList = JL)) (fun _ vi _ => n - (intOf vi).toNat)
  case atStart => exact ⟨ByteArray.empty, 0, [], Nat.zero_le _, by decide, by simp, rfl, rfl, Lib.hid HB0.out, Lib.hid ((Below.refl _ _).alloc (Nat.le_refl _) _), H0, H1⟩
  case round =>
    obtain ⟨le, k, l, hk, hle, hll, rfl, rfl, hB, hb, ho, hj⟩ := hrel
    by_cases hlt : k < n
    · obtain ⟨b, off, rfl, g, hl⟩ := HC.out wr hb.out k (by rw [HN.out]; exact hlt)
      have hX := HX.out k hlt
      have ho2 := ho.out
      have hj2 := hj.out
      rw [HD.out k hlt, okJ] at ho2
      rw [HD.out k hlt, jt] at hj2
      clear ho hj
      generalize xs.getD k ByteArray.empty = X at *
      have HL := Lib.hid (len_i _ _ l wr hB.out)
      by_cases h4 : 4000 < l.length + (X.size + 4)
      · have e1 : ok = false := by
          rw [← ho2]
          by_cases hh : hasN X = true
          · rw [if_pos hh]
          · rw [if_neg hh, if_pos h4]
        have E1 := Lib.hid e1
        have h4i : (4000 : Int) < (l.length : Int) + 3 + (X.size : Int) + 1 := by omega
        clear e1 h4 ho2 hj2
        generalize l.length = t at *
        go_wp2_with fail
        refine HL.out.mono ?_; rintro e w2 ⟨rfl, rfl⟩
        go_wp2
        go_ret2
        rw [HNO.out (by rw [E1.out]; decide), E1.out]
        exact ⟨rfl, hb.out⟩
      · have HQ := Lib.hid (Try.strings_Contains_one X 10 wr)
        have h4b : decide ((4000 : Int) < (l.length : Int) + 3 + (X.size : Int) + 1) = false := decide_eq_false (by omega)
        by_cases hh : hasN X = true
        · have e1 : ok = false := by rw [← ho2, if_pos hh]
          have E1 := Lib.hid e1
          rw [show decide (0 ≤ Lib.indexByte X.data.toList 10) = true from hh] at HQ
          clear e1 ho2 hj2 hh
          have h4i : ¬ (4000 : Int) < (l.length : Int) + 3 + (X.size : Int) + 1 := by omega
          clear h4
          generalize l.length = t at *
          go_wp2_with fail
          refine HL.out.mono ?_; rintro e w2 ⟨rfl, rfl⟩
          go_wp2_with fail
          refine HQ.out.mono ?_; rintro e w2 ⟨rfl, rfl⟩
          go_wp2
          go_ret2
          rw [HNO.out (by rw [E1.out]; decide), E1.out]
          exact ⟨rfl, hb.out⟩
        · have hh2 : hasN X = false := by simpa using hh
          rw [if_neg hh, if_neg h4] at ho2
          rw [show decide (0 ≤ Lib.indexByte X.data.toList 10) = false from hh2] at HQ
          have HCK := Lib.hid (HK.out (le ++ X) wr (by rw [ByteArray.size_append]; omega))
          have HNW := Lib.hid (show Ck.letters (Ck.chk (le ++ X).data.toList) = nw le X from rfl)
          rw [HNW.out] at HCK
          have hms := nw_size le X
          have HR := Lib.hid (r1_size (nw le X) X hms)
          clear HNW hh hh2
          generalize nw le X = M at *
          have HL4 := Lib.hid (show (l ++ (r1 M X).data.toList).length = l.length + (X.size + 4) by rw [List.length_append]; have := HR.out; simp at this ⊢; omega)
          have hL4 : l.length + (X.size + 4) ≤ 4000 := by omega
          have HO := Lib.hid (show okJ (l ++ (r1 M X).data.toList).length (xs.drop (k + 1)) = ok by rw [HL4.out]; exact ho2)
          have HJ := Lib.hid (show (l ++ (r1 M X).data.toList) ++ (jt M (xs.drop (k + 1))).data.toList = JL by rw [← hj2, ByteArray.data_append, Array.toList_append, List.append_assoc])
          have HW := Lib.hid (fun (w9 : World) (hB9 : IsB w.heap.size w.heap.size (Lib.byteCells l) w9) (hs9 : w.heap.size ≤ w9.heap.size) => ws_any w.heap.size w.heap.size (Lib.byteCells l) (r1 M X) w9 hB9 (by rw [Lib.byteCells_length, HR.out]; omega) hs9)
          rw [cells_app] at HW
          have c1 : ∀ wx, (Op.stringOp .add le X).run Try.prog wx = .ok (.string (le ++ X)) wx := fun wx => run_string_add_sum wx le X (by omega)
          have c2 : ∀ wx, (Op.stringOp .add M ⟨#[32]⟩).run Try.prog wx = .ok (.string (M ++ ⟨#[32]⟩)) wx := fun wx => run_string_add_sum wx M ⟨#[32]⟩ (by show M.size + 1 ≤ _; omega)
          have c3 : ∀ wx, (Op.stringOp .add (M ++ ⟨#[32]⟩) X).run Try.prog wx = .ok (.string ((M ++ ⟨#[32]⟩) ++ X)) wx := fun wx => run_string_add_sum wx _ X (by rw [ByteArray.size_append]; show M.size + 1 + _ ≤ _; omega)
          have c4 : ∀ wx, (Op.stringOp .add ((M ++ ⟨#[32]⟩) ++ X) ⟨#[10]⟩).run Try.prog wx = .ok (.string (r1 M X)) wx := fun wx => run_string_add_sum wx _ ⟨#[10]⟩ (by rw [ByteArray.size_append, ByteArray.size_append]; show M.size + 1 + _ + 1 ≤ _; omega)
          clear ho2 hj2
          generalize r1 M X = RR at *
          have h4i : ¬ (4000 : Int) < (l.length : Int) + 3 + (X.size : Int) + 1 := by omega
          clear h4
          go_wp2_with fail
          refine HL.out.mono ?_; rintro e w2 ⟨rfl, rfl⟩
          go_wp2_with fail
          refine HQ.out.mono ?_; rintro e w2 ⟨rfl, rfl⟩
          go_wp2_with fail
          refine HCK.out.mono ?_; rintro e w3 ⟨rfl, b3⟩
          have i3 := isB_below hB.out b3
          have s3 := (bt hb.out b3).size
          go_wp2_with fail
          refine (HW.out w3 i3 s3).mono ?_; rintro e w4 ⟨rfl, hA, b4⟩
          go_wp2
          go_roundw
          case rel => exact ⟨M, k + 1, l ++ RR.data.toList, by omega, by omega, by rw [HL4.out]; exact hL4, rfl, by go_num, Lib.hid (Or.inr hA), Lib.hid ((bt hb.out b3).trans b4), HO, HJ⟩
          case measure => simp [intOf]; omega
    · have e : k = n := by omega
      subst e
      have ho2 := ho.out
      have hj2 := hj.out
      rw [HDE.out, okJ] at ho2
      rw [HDE.out, jt] at hj2
      have HS := Lib.hid (Try.Builder_String_any _ _ l wr hB.out hb.out.size)
      have HE := Lib.hid (HYO.out ho2.symm l (by rw [← hj2]; simp))
      clear hj2
      subst ho2
      go_wp2_with fail
      refine HS.out.mono ?_; rintro e w2 ⟨rfl, b2⟩
      go_wp2
      go_ret2
      exact ⟨by rw [← HE.out]; rfl, hb.out.trans b2⟩
end Go.Proofs.Ytlcogbphodakfaa.Jn
