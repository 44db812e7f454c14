/- Contract of the program's reader of a decimal number, and of both ReadDecimal. -/
import Derived.Test.YtdilbogjihafoaaDoorTab
import Derived.Test.YtdilbogjihafoaaDoorCread
import Derived.Test.YtdilbogjihafoaaDoorWFnExactDecimal
import Derived.Lib.AtoiErrMem
namespace Go.Proofs.YtdilbogjihafoaaDoor.Rd
open Go.RowKit
/-- The two sentinels hold values of an interface type. -/
structure Sent (w : World) : Prop where
  syn : ∃ tp p, w.var? Tryd.prog "strconv.ErrSyntax" = some #[.iface tp p]
  ran : ∃ tp p, w.var? Tryd.prog "strconv.ErrRange" = some #[.iface tp p]
theorem gSyn : Tryd.prog.globalNamed "strconv.ErrSyntax" = some 1 := by kernel_rfl
theorem gRan : Tryd.prog.globalNamed "strconv.ErrRange" = some 2 := by kernel_rfl
theorem var_below {n : String} {g : Nat} {cs : Array Value} {w w' : World} (hn : Tryd.prog.globalNamed n = some g) (h : w.var? Tryd.prog n = some cs) (hb : Below w.heap.size w w') : w'.var? Tryd.prog n = some cs := by
  have hlt : g < w.heap.size := by
    simp only [World.var?, hn, Option.bind_some] at h
    split at h
    · rename_i hh; exact (Array.getElem?_eq_some_iff.1 hh).1
    · cases h
  simp only [World.var?, hn, Option.bind_some] at h ⊢
  rw [hb.block _ hlt]
  exact h
theorem Sent.below {w w' : World} (h : Sent w) (hb : Below w.heap.size w w') : Sent w' := by
  obtain ⟨⟨t1, p1, h1⟩, ⟨t2, p2, h2⟩⟩ := h
  exact ⟨⟨t1, p1, var_below gSyn h1 hb⟩, ⟨t2, p2, var_below gRan h2 hb⟩⟩
def Ok (v : Int) (w : World) (e : Ending) (w' : World) : Prop := e = .returned (.tuple #[.int .i64 v, .nilIface]) ∧ Below w.heap.size w w'
def Bad (w : World) (e : Ending) (w' : World) : Prop := ∃ (v : Int) (t : TypeId) (N : Nat), e = .returned (.tuple #[.int .i64 v, .iface t (.pointer (some ⟨N, 0, none⟩))]) ∧ Below w.heap.size w w'
theorem parse_ok (s : ByteArray) (v : Int) (w : World) (hs : s.size ≤ 1048576) (h : Lib.parseIntB 64 s.data.toList = .ok v) :
    Calls Tryd.prog 49 #[.string s, .int .i64 10, .int .i64 64] w (Ok v w) :=
  (Tryd.strconv_ParseInt_10_at64_ok s (by omega) v h w).mono fun e w' ⟨he, hw⟩ => ⟨he, by
    rcases hw with rfl | ⟨t, rfl⟩
    · exact Below.refl _ _
    · exact Lib.bytesWorld_below _ _ _⟩
theorem parse_bad (s : ByteArray) (w : World) (hs : s.size ≤ 1048576) (h : ∀ v, Lib.parseIntB 64 s.data.toList ≠ .ok v) (hS : Sent w) :
    Calls Tryd.prog 49 #[.string s, .int .i64 10, .int .i64 64] w (Bad w) := by
  obtain ⟨⟨t1, p1, h1⟩, ⟨t2, p2, h2⟩⟩ := hS
  cases hp : Lib.parseIntB 64 s.data.toList
  · rename_i v; exact absurd hp (h v)
  · exact (Any.strconv_ParseInt_10_at64_syntax_var Tryd.laysC174 s (by omega) hp t1 p1 w h1).mono fun e w' ⟨N, he, _, _, hb⟩ => ⟨_, _, N, he, hb⟩
  · exact (Tryd.strconv_ParseInt_10_at64_range_var s (by omega) hp t2 p2 w h2).mono fun e w' ⟨N, he, _, _, hb⟩ => ⟨_, _, N, he, hb⟩
theorem rd_none_of_bad (s : ByteArray) (h : ∀ v, Lib.parseIntB 64 s.data.toList ≠ .ok v) : rd s.data.toList = none := by
  cases hr : rd s.data.toList with
  | none => rfl
  | some n =>
    obtain ⟨h1, h2, h3⟩ := rd_some hr
    exact absurd (h1 ▸ parse_itoa n h2 h3) (h n)
theorem rd_ok_case (s : ByteArray) (v : Int) (h : Lib.parseIntB 64 s.data.toList = .ok v) :
    (Ls.inR v = true ∧ Lib.itoa v = s.data.toList ∧ rd s.data.toList = some v) ∨ (Ls.inR v = true ∧ Lib.itoa v ≠ s.data.toList ∧ rd s.data.toList = none) ∨ (Ls.inR v = false ∧ rd s.data.toList = none) := by
  have key : ∀ n, rd s.data.toList = some n → n = v ∧ Lib.itoa v = s.data.toList ∧ -1000000000 ≤ v ∧ v ≤ 1000000000 := fun n hr => by
    obtain ⟨h1, h2, h3⟩ := rd_some hr
    have h4 := parse_itoa n h2 h3
    rw [h1, h] at h4
    obtain rfl : v = n := by injection h4
    exact ⟨rfl, h1, h2, h3⟩
  by_cases h0 : -1000000000 ≤ v
  · by_cases h1 : v ≤ 1000000000
    · by_cases h2 : Lib.itoa v = s.data.toList
      · exact .inl ⟨Ls.inR_yes h0 h1, h2, rd_of h2 h0 h1⟩
      · refine .inr (.inl ⟨Ls.inR_yes h0 h1, h2, ?_⟩)
        cases hr : rd s.data.toList with
        | none => rfl
        | some n => exact absurd (key n hr).2.1 h2
    · refine .inr (.inr ⟨Ls.inR_high h1, ?_⟩)
      cases hr : rd s.data.toList with
      | none => rfl
      | some n => exact absurd (key n hr).2.2.2 h1
  · refine .inr (.inr ⟨Ls.inR_low h0, ?_⟩)
    cases hr : rd s.data.toList with
    | none => rfl
    | some n => exact absurd (key n hr).2.2.1 h0
theorem inR_bd {v : Int} (h : Ls.inR v = true) : -1000000000 ≤ v ∧ v ≤ 1000000000 := by
  unfold Ls.inR at h
  rw [Bool.and_eq_true] at h
  exact ⟨of_decide_eq_true h.1, of_decide_eq_true h.2⟩
set_option maxRecDepth 100000 in
set_option maxHeartbeats 2000000 in
theorem impl_any (s : ByteArray) (w : World) (hs : s.size ≤ 1048576) (hS : Sent w) (htab : Lib.TabIs Tryd.prog w "internal/strconv.uint64pow10" .u64 Lib.pow10Tab) :
    Calls Tryd.prog 25 #[.string s] w (Got (rd s.data.toList) w) := by
  have HT := Lib.hid htab
  have hlt := Tb.tab_lt htab
  clear htab
  by_cases hp : ∃ v, Lib.parseIntB 64 s.data.toList = .ok v
  · obtain ⟨v, hv⟩ := hp
    have HP := Lib.hid (fun w => parse_ok s v w hs hv)
    rcases rd_ok_case s v hv with ⟨r1, r2, r3⟩ | ⟨r1, r2, r3⟩ | ⟨r1, r3⟩
    · rw [r3]
      obtain ⟨q1, q2⟩ := inR_bd r1
      have hI := Lib.hid (fun w => Ls.in_any v w)
      rw [r1] at hI
      have HD := Lib.hid (fun w => fnExactDecimal.impl_dec v w (by omega) (by omega))
      have q : (Lib.itoa v == s.toList) = true := by rw [r2, toList_eq]; simp
      clear r1 r2 r3 hv hS q1 q2
      go_enter Tryd.func25, Tryd.ntmps25
      go_wp2_with (first | (go_at_call 49; refine (HP.out _).mono ?_; rintro e w1 ⟨rfl, b1⟩) | (go_at_call 41; refine (hI.out _).mono ?_; rintro e w' ⟨rfl, rfl⟩) | (go_at_call 23; refine (HD.out _ (Tb.tab_below HT.out b1 hlt)).mono ?_; rintro e w2 ⟨rfl, b2⟩))
      go_ret2
      exact ⟨rfl, b1.trans (b2.mono b1.size)⟩
    · rw [r3]
      obtain ⟨q1, q2⟩ := inR_bd r1
      have hI := Lib.hid (fun w => Ls.in_any v w)
      rw [r1] at hI
      have HD := Lib.hid (fun w => fnExactDecimal.impl_dec v w (by omega) (by omega))
      have q : (Lib.itoa v == s.toList) = false := by rw [toList_eq, beq_eq_false_iff_ne]; exact r2
      clear r1 r2 r3 hv hS q1 q2
      go_enter Tryd.func25, Tryd.ntmps25
      go_wp2_with (first | (go_at_call 49; refine (HP.out _).mono ?_; rintro e w1 ⟨rfl, b1⟩) | (go_at_call 41; refine (hI.out _).mono ?_; rintro e w' ⟨rfl, rfl⟩) | (go_at_call 23; refine (HD.out _ (Tb.tab_below HT.out b1 hlt)).mono ?_; rintro e w2 ⟨rfl, b2⟩))
      go_ret2
      exact ⟨rfl, b1.trans (b2.mono b1.size)⟩
    · rw [r3]
      have hI := Lib.hid (fun w => Ls.in_any v w)
      rw [r1] at hI
      clear r1 r3 hv hS
      go_enter Tryd.func25, Tryd.ntmps25
      go_wp2_with (first | (go_at_call 49; refine (HP.out _).mono ?_; rintro e w1 ⟨rfl, b1⟩) | (go_at_call 41; refine (hI.out _).mono ?_; rintro e w' ⟨rfl, rfl⟩))
      go_ret2
      exact ⟨rfl, b1⟩
  · have hno : ∀ v, Lib.parseIntB 64 s.data.toList ≠ .ok v := fun v h => hp ⟨v, h⟩
    rw [rd_none_of_bad s hno]
    have HP := Lib.hid (parse_bad s w hs hno hS)
    clear hp hno hS
    go_enter Tryd.func25, Tryd.ntmps25
    go_wp2_with (go_at_call 49; refine HP.out.mono ?_; rintro e w1 ⟨v, t, N, rfl, b1⟩)
    go_ret2
    exact ⟨rfl, b1⟩
theorem spec_rd (s : ByteArray) (w : World) (hs : s.size ≤ 1048576) : Calls Tryd.prog 24 #[.string s] w (Got (rd s.data.toList) w) := by
  have H := Lib.hid (spec_any s w hs)
  generalize rd s.data.toList = o at *
  go_enter Tryd.func24, Tryd.ntmps24
  go_wp2_with (go_at_call 48; refine H.out.mono ?_; rintro e w1 ⟨rfl, b1⟩)
  go_ret2
  exact ⟨rfl, b1⟩
end Go.Proofs.YtdilbogjihafoaaDoor.Rd
