/- The model's CacheReads, CacheMemory, DirtyLines and TrafficOf. Caches by value: their size, copies, comparison; the contracts of both ValidCache. Marks in lists of accesses, from any number on; append of an access. -/
import Derived.Test.YtngbddmbmkphcaaG16
import Derived.Test.YtngbddmbmkphcaaG6
import Derived.Test.YtngbddmbmkphcaaG12
import Derived.Maps.AppendAt
namespace Go.Proofs.Ytngbddmbmkphcaa.Pv
open Go.RowKit Ac Tr
theorem both_s {q1 q2 : Option Addr} {n1 c1 n2 c2 : Nat} {bk al : Bool} {hs : List (List Int)} {ms : List Int} {w : World} {xs : List (Int × Int)} {a : Option Addr} {c : Nat} {g : Nat} (h : RdP w (.agg #[.slice q1 n1 c1, .slice q2 n2 c2]) hs ms) (hx : RowA w a xs) (hxl : xs.length ≤ 1048576) (hb : Blk w g [.slice q1 n1 c1, .slice q2 n2 c2, .bool bk, .bool al] 35) :
    Calls Try.prog 28 #[.pointer (some ⟨g, 0, none⟩), .slice a xs.length c] w (fun e w' => e = .returned (.bool (caO hs ms xs)) ∧ ∃ q, w' = w.drewN q) := by
  obtain ⟨a9, c9, a', c', e, h1, h2, h3, h4, h5⟩ := h
  simp at e
  obtain ⟨⟨rfl, rfl, rfl⟩, rfl, rfl, rfl⟩ := e
  have HS := Lib.hid (Pv.is_s g q1 q2 c1 c2 hs ms w hb.lt (hb.cell 0) (hb.cell 1) h3 h5 h4 h1 h2)
  have HT := Lib.hid (fun q => Ac.is_s a c xs (w.drewN q) hxl hx)
  unfold caO
  clear h1 h3 hb h5 hx
  generalize isP hs ms = r at *
  generalize okT xs = t at *
  generalize hs.length = N at *
  generalize ms.length = M at *
  generalize xs.length = X at *
  cases r
  · go_enter Try.func28, Try.ntmps28
    go_wp2_with fail
    refine HS.out.mono ?_; rintro e w1 ⟨rfl, q, rfl⟩
    go_wp2
    go_ret
    exact ⟨rfl, q, rfl⟩
  · go_enter Try.func28, Try.ntmps28
    go_wp2_with fail
    refine HS.out.mono ?_; rintro e w1 ⟨rfl, q, rfl⟩
    go_wp2_with fail
    refine (HT.out q).mono ?_; rintro e w1 ⟨rfl, rfl⟩
    go_wp2
    go_ret
    exact ⟨by first | rfl | simp, q, rfl⟩
theorem do_c {q1 q2 : Option Addr} {n1 c1 n2 c2 : Nat} {bk al : Bool} {hs : List (List Int)} {ms : List Int} {w : World} {xs : List (Int × Int)} {a : Option Addr} {c : Nat} {g : Nat} (h : RdP w (.agg #[.slice q1 n1 c1, .slice q2 n2 c2]) hs ms) (hx : RowA w a xs) (hO : caO hs ms xs = true) (hb : Blk w g [.slice q1 n1 c1, .slice q2 n2 c2, .bool bk, .bool al] 35) :
    Calls Try.prog 29 #[.pointer (some ⟨g, 0, none⟩), .slice a xs.length c] w (DoR ms.length w.heap.size (flF (caR hs ms bk al xs xs.length) ms.length) (dirL (caR hs ms bk al xs xs.length).ds 16) w) := by
  obtain ⟨a9, c9, a', c', e, h1, h2, h3, h4, h5⟩ := h
  simp at e
  obtain ⟨⟨rfl, rfl, rfl⟩, rfl, rfl, rfl⟩ := e
  obtain ⟨hok, hxo⟩ := Bool.and_eq_true_iff.1 hO
  have hp := lt_len hok
  refine do_s hok hxo hb.lt (Lib.hid fun w' hw => ?_) (Lib.hid fun w' k v y hw hv => ?_) (hb.cell 2) (hb.cell 3) hx
  · exact emptyAt_s g 0 ms.length c2 q2 w' (Nat.lt_of_lt_of_le hb.lt hw.size) ((hb.below hw hb.lt).cell 1) (by omega)
  · exact stepAt_s g 0 q1 q2 c1 c2 hs ms k y v w' hok (Nat.lt_of_lt_of_le hb.lt hw.size) ((hb.below hw hb.lt).cell 0) ((hb.below hw hb.lt).cell 1) (h1.below hw) (h3.below hw) hv

theorem PRs.form {M B : Nat} {S : CaS} {ls : List Int} {j : Nat} {w : World} {v : Value} (h : PRs M B S ls j w v) : ∃ a n c, v = .slice a n c := by
  unfold PRs at h
  split at h
  · obtain ⟨a, c, e⟩ := Own.form h; exact ⟨a, _, c, e⟩
  · obtain ⟨a, c, e⟩ := Own.form h; exact ⟨a, _, c, e⟩
  · rcases h.2 with ⟨h0, h1⟩ | ⟨g, cap, cur, hv, _⟩
    · exact ⟨none, 0, 0, h0⟩
    · exact ⟨_, _, _, hv⟩
  · obtain ⟨a, c, e⟩ := Own.form h; exact ⟨a, _, c, e⟩
  · obtain ⟨a, c, e⟩ := Own.form h; exact ⟨a, _, c, e⟩
  · obtain ⟨a, c, e⟩ := Own.form h; exact ⟨a, _, c, e⟩
set_option maxRecDepth 100000 in
set_option maxHeartbeats 4000000 in
theorem CacheReads_s {q1 q2 : Option Addr} {n1 c1 n2 c2 : Nat} {bk al : Bool} {hs : List (List Int)} {ms : List Int} {w : World} {xs : List (Int × Int)} {a : Option Addr} {c : Nat} (h : RdP w (.agg #[.slice q1 n1 c1, .slice q2 n2 c2]) hs ms) (hx : RowA w a xs) (hxl : xs.length ≤ 1048576) :
    Calls Try.prog 9 #[.agg #[Value.slice q1 n1 c1, Value.slice q2 n2 c2, Value.bool bk, Value.bool al], .slice a xs.length c] w (ResCW (caReads hs ms bk al xs) (caO hs ms xs) w) := by
  have b0 := (Below.refl w.heap.size w).alloc (Nat.le_refl _) (.cells #[Value.slice q1 n1 c1, Value.slice q2 n2 c2, Value.bool bk, Value.bool al] 35)
  have hsz : (w.alloc (.cells #[Value.slice q1 n1 c1, Value.slice q2 n2 c2, Value.bool bk, Value.bool al] 35)).heap.size = w.heap.size + 1 := Array.size_push _
  have BZ : Blk (w.alloc (.cells #[Value.slice q1 n1 c1, Value.slice q2 n2 c2, Value.bool bk, Value.bool al] 35)) w.heap.size [Value.slice q1 n1 c1, Value.slice q2 n2 c2, Value.bool bk, Value.bool al] 35 := Blk.newAt w _ _ _ rfl
  have HB := Lib.hid (both_s (c := c) (rdP_below h b0) (hx.below b0) hxl BZ)
  have HD := Lib.hid (fun (q : Nat) (hO : caO hs ms xs = true) => do_c (w := (w.alloc (.cells #[Value.slice q1 n1 c1, Value.slice q2 n2 c2, Value.bool bk, Value.bool al] 35)).drewN q) (c := c) (rdP_below h (below_drewN q b0)) (hx.below (below_drewN q b0)) hO (show Blk ((w.alloc (.cells #[Value.slice q1 n1 c1, Value.slice q2 n2 c2, Value.bool bk, Value.bool al] 35)).drewN q) _ _ _ from BZ))
  have B0 := Lib.hid b0
  have HV := Lib.hid (show caReads hs ms bk al xs = if caO hs ms xs then (caR hs ms bk al xs xs.length).rs else [] from rfl)
  clear h hx BZ b0
  generalize caReads hs ms bk al xs = VS at *
  generalize caO hs ms xs = ok at *
  have HEQ := Lib.hid (flF_rs (caR hs ms bk al xs xs.length) ms.length)
  generalize caR hs ms bk al xs xs.length = S at *
  generalize flF S ms.length = S9 at *
  generalize xs.length = N at *
  generalize hW : w.alloc (.cells #[Value.slice q1 n1 c1, Value.slice q2 n2 c2, Value.bool bk, Value.bool al] 35) = W0 at *
  go_enter Try.func9, Try.ntmps9
  go_wp2_with fail
  try rw [hW]
  clear hW
  refine HB.out.mono ?_; rintro e w1 ⟨rfl, q, rfl⟩
  cases ok
  · have e : VS = [] := HV.out
    subst e
    clear HD HB HV
    go_wp2
    go_ret2
    exact ⟨_, rfl, OwnW.nil _ _, below_drewN q B0.out⟩
  · have HVE := Lib.hid (show VS = _ from HV.out)
    have HD2 := Lib.hid (HD.out q rfl)
    clear HD HB HV
    go_wp2_with fail
    refine HD2.out.mono ?_; rintro e w2 ⟨r, x, rfl, hM⟩
    have h4 := (hM.hd 4 (by decide)).1
    have o4 := hM.own 4 (by decide)
    obtain ⟨fa, fn, fc, hf⟩ := PRs.form o4
    have HO : Hid (OwnW w2 w.heap.size (x 4) VS) := by
      show OwnW _ _ _ _
      have o5 : Own w2 ((W0.drewN q).heap.size) (x 4) _ := o4
      rw [HVE.out, if_pos (by first | trivial | rfl)]
      have o6 := o5.mono (B' := w.heap.size) (by show _ ≤ W0.heap.size; omega)
      first | exact o6.weak | (rw [← HEQ.out]; exact o6.weak)
    have HBB := Lib.hid (show Below w.heap.size w w2 from B0.out.trans ((below_drewN q (Below.refl _ W0)).trans (hM.bl.mono (by show _ ≤ W0.heap.size; omega))))
    clear hM o4
    rw [hf] at h4 HO
    go_wp2
    go_ret2
    exact ⟨_, rfl, HO.out, HBB.out⟩
set_option maxRecDepth 100000 in
set_option maxHeartbeats 4000000 in
theorem CacheMemory_s {q1 q2 : Option Addr} {n1 c1 n2 c2 : Nat} {bk al : Bool} {hs : List (List Int)} {ms : List Int} {w : World} {xs : List (Int × Int)} {a : Option Addr} {c : Nat} (h : RdP w (.agg #[.slice q1 n1 c1, .slice q2 n2 c2]) hs ms) (hx : RowA w a xs) (hxl : xs.length ≤ 1048576) :
    Calls Try.prog 20 #[.agg #[Value.slice q1 n1 c1, Value.slice q2 n2 c2, Value.bool bk, Value.bool al], .slice a xs.length c] w (ResCW (caMem hs ms bk al xs) (caO hs ms xs) w) := by
  have b0 := (Below.refl w.heap.size w).alloc (Nat.le_refl _) (.cells #[Value.slice q1 n1 c1, Value.slice q2 n2 c2, Value.bool bk, Value.bool al] 35)
  have hsz : (w.alloc (.cells #[Value.slice q1 n1 c1, Value.slice q2 n2 c2, Value.bool bk, Value.bool al] 35)).heap.size = w.heap.size + 1 := Array.size_push _
  have BZ : Blk (w.alloc (.cells #[Value.slice q1 n1 c1, Value.slice q2 n2 c2, Value.bool bk, Value.bool al] 35)) w.heap.size [Value.slice q1 n1 c1, Value.slice q2 n2 c2, Value.bool bk, Value.bool al] 35 := Blk.newAt w _ _ _ rfl
  have HB := Lib.hid (both_s (c := c) (rdP_below h b0) (hx.below b0) hxl BZ)
  have HD := Lib.hid (fun (q : Nat) (hO : caO hs ms xs = true) => do_c (w := (w.alloc (.cells #[Value.slice q1 n1 c1, Value.slice q2 n2 c2, Value.bool bk, Value.bool al] 35)).drewN q) (c := c) (rdP_below h (below_drewN q b0)) (hx.below (below_drewN q b0)) hO (show Blk ((w.alloc (.cells #[Value.slice q1 n1 c1, Value.slice q2 n2 c2, Value.bool bk, Value.bool al] 35)).drewN q) _ _ _ from BZ))
  have B0 := Lib.hid b0
  have HV := Lib.hid (show caMem hs ms bk al xs = if caO hs ms xs then (flF (caR hs ms bk al xs xs.length) ms.length).ws else [] from rfl)
  clear h hx BZ b0
  generalize caMem hs ms bk al xs = VS at *
  generalize caO hs ms xs = ok at *
  have HEQ := Lib.hid (flF_rs (caR hs ms bk al xs xs.length) ms.length)
  generalize caR hs ms bk al xs xs.length = S at *
  generalize flF S ms.length = S9 at *
  generalize xs.length = N at *
  generalize hW : w.alloc (.cells #[Value.slice q1 n1 c1, Value.slice q2 n2 c2, Value.bool bk, Value.bool al] 35) = W0 at *
  go_enter Try.func20, Try.ntmps20
  go_wp2_with fail
  try rw [hW]
  clear hW
  refine HB.out.mono ?_; rintro e w1 ⟨rfl, q, rfl⟩
  cases ok
  · have e : VS = [] := HV.out
    subst e
    clear HD HB HV
    go_wp2
    go_ret2
    exact ⟨_, rfl, OwnW.nil _ _, below_drewN q B0.out⟩
  · have HVE := Lib.hid (show VS = _ from HV.out)
    have HD2 := Lib.hid (HD.out q rfl)
    clear HD HB HV
    go_wp2_with fail
    refine HD2.out.mono ?_; rintro e w2 ⟨r, x, rfl, hM⟩
    have h4 := (hM.hd 0 (by decide)).1
    have o4 := hM.own 0 (by decide)
    obtain ⟨fa, fn, fc, hf⟩ := PRs.form o4
    have HO : Hid (OwnW w2 w.heap.size (x 0) VS) := by
      show OwnW _ _ _ _
      have o5 : Own w2 ((W0.drewN q).heap.size) (x 0) _ := o4
      rw [HVE.out, if_pos (by first | trivial | rfl)]
      have o6 := o5.mono (B' := w.heap.size) (by show _ ≤ W0.heap.size; omega)
      first | exact o6.weak | (rw [← HEQ.out]; exact o6.weak)
    have HBB := Lib.hid (show Below w.heap.size w w2 from B0.out.trans ((below_drewN q (Below.refl _ W0)).trans (hM.bl.mono (by show _ ≤ W0.heap.size; omega))))
    clear hM o4
    rw [hf] at h4 HO
    go_wp2
    go_ret2
    exact ⟨_, rfl, HO.out, HBB.out⟩
set_option maxRecDepth 100000 in
set_option maxHeartbeats 4000000 in
theorem DirtyLines_s {q1 q2 : Option Addr} {n1 c1 n2 c2 : Nat} {bk al : Bool} {hs : List (List Int)} {ms : List Int} {w : World} {xs : List (Int × Int)} {a : Option Addr} {c : Nat} (h : RdP w (.agg #[.slice q1 n1 c1, .slice q2 n2 c2]) hs ms) (hx : RowA w a xs) (hxl : xs.length ≤ 1048576) :
    Calls Try.prog 22 #[.agg #[Value.slice q1 n1 c1, Value.slice q2 n2 c2, Value.bool bk, Value.bool al], .slice a xs.length c] w (ResCW (caDirty hs ms bk al xs) (caO hs ms xs) w) := by
  have b0 := (Below.refl w.heap.size w).alloc (Nat.le_refl _) (.cells #[Value.slice q1 n1 c1, Value.slice q2 n2 c2, Value.bool bk, Value.bool al] 35)
  have hsz : (w.alloc (.cells #[Value.slice q1 n1 c1, Value.slice q2 n2 c2, Value.bool bk, Value.bool al] 35)).heap.size = w.heap.size + 1 := Array.size_push _
  have BZ : Blk (w.alloc (.cells #[Value.slice q1 n1 c1, Value.slice q2 n2 c2, Value.bool bk, Value.bool al] 35)) w.heap.size [Value.slice q1 n1 c1, Value.slice q2 n2 c2, Value.bool bk, Value.bool al] 35 := Blk.newAt w _ _ _ rfl
  have HB := Lib.hid (both_s (c := c) (rdP_below h b0) (hx.below b0) hxl BZ)
  have HD := Lib.hid (fun (q : Nat) (hO : caO hs ms xs = true) => do_c (w := (w.alloc (.cells #[Value.slice q1 n1 c1, Value.slice q2 n2 c2, Value.bool bk, Value.bool al] 35)).drewN q) (c := c) (rdP_below h (below_drewN q b0)) (hx.below (below_drewN q b0)) hO (show Blk ((w.alloc (.cells #[Value.slice q1 n1 c1, Value.slice q2 n2 c2, Value.bool bk, Value.bool al] 35)).drewN q) _ _ _ from BZ))
  have B0 := Lib.hid b0
  have HV := Lib.hid (show caDirty hs ms bk al xs = if caO hs ms xs then dirL (caR hs ms bk al xs xs.length).ds 16 else [] from rfl)
  clear h hx BZ b0
  generalize caDirty hs ms bk al xs = VS at *
  generalize caO hs ms xs = ok at *
  have HEQ := Lib.hid (flF_rs (caR hs ms bk al xs xs.length) ms.length)
  generalize caR hs ms bk al xs xs.length = S at *
  generalize flF S ms.length = S9 at *
  generalize xs.length = N at *
  generalize hW : w.alloc (.cells #[Value.slice q1 n1 c1, Value.slice q2 n2 c2, Value.bool bk, Value.bool al] 35) = W0 at *
  go_enter Try.func22, Try.ntmps22
  go_wp2_with fail
  try rw [hW]
  clear hW
  refine HB.out.mono ?_; rintro e w1 ⟨rfl, q, rfl⟩
  cases ok
  · have e : VS = [] := HV.out
    subst e
    clear HD HB HV
    go_wp2
    go_ret2
    exact ⟨_, rfl, OwnW.nil _ _, below_drewN q B0.out⟩
  · have HVE := Lib.hid (show VS = _ from HV.out)
    have HD2 := Lib.hid (HD.out q rfl)
    clear HD HB HV
    go_wp2_with fail
    refine HD2.out.mono ?_; rintro e w2 ⟨r, x, rfl, hM⟩
    have h4 := (hM.hd 5 (by decide)).1
    have o4 := hM.own 5 (by decide)
    obtain ⟨fa, fn, fc, hf⟩ := PRs.form o4
    have HO : Hid (OwnW w2 w.heap.size (x 5) VS) := by
      show OwnW _ _ _ _
      have o5 : Own w2 ((W0.drewN q).heap.size) (x 5) _ := o4
      rw [HVE.out, if_pos (by first | trivial | rfl)]
      have o6 := o5.mono (B' := w.heap.size) (by show _ ≤ W0.heap.size; omega)
      first | exact o6.weak | (rw [← HEQ.out]; exact o6.weak)
    have HBB := Lib.hid (show Below w.heap.size w w2 from B0.out.trans ((below_drewN q (Below.refl _ W0)).trans (hM.bl.mono (by show _ ≤ W0.heap.size; omega))))
    clear hM o4
    rw [hf] at h4 HO
    go_wp2
    go_ret2
    exact ⟨_, rfl, HO.out, HBB.out⟩
theorem lineTo_grow (ws cs : List Int) (L : Nat) : (lineTo ws cs L).length ≤ ws.length + 4 := by
  unfold lineTo
  simp only [List.length_append, List.length_take, List.length_drop]
  omega
theorem cleanS_grow (S : CaS) (L : Nat) : (cleanS S L).ws.length ≤ S.ws.length + 4 := by
  unfold cleanS; split
  · exact lineTo_grow _ _ _
  · omega
theorem bringS_grow (hs : List (List Int)) (ms : List Int) (S : CaS) (L : Nat) : (bringS hs ms S L).ws.length ≤ S.ws.length + 4 := by
  unfold bringS; split
  · show S.ws.length ≤ _; omega
  · split
    · exact cleanS_grow _ _
    · show S.ws.length ≤ _; omega
theorem writeS_grow (hs : List (List Int)) (ms : List Int) (bk al : Bool) (S : CaS) (a : Nat) (u : Int) : (writeS hs ms bk al S a u).ws.length ≤ S.ws.length + 4 := by
  have h := bringS_grow hs ms S (a / 4)
  unfold writeS; split
  · show (S.ws.set a u).length ≤ _; rw [List.length_set]; omega
  · split
    · exact h
    · show ((bringS hs ms S (a / 4)).ws.set a u).length ≤ _; rw [List.length_set]; exact h
theorem caR_grow (hs : List (List Int)) (ms : List Int) (bk al : Bool) (xs : List (Int × Int)) (j : Nat) : (caR hs ms bk al xs j).ws.length ≤ 64 + 4 * j := by
  induction j with
  | zero => show (List.replicate 64 (0 : Int)).length ≤ _; rw [List.length_replicate]; omega
  | succ j ih =>
    rw [caR]; split
    · have := writeS_grow hs ms bk al (caR hs ms bk al xs j) (xs.getD j (0, 0)).2.toNat ((j : Int) + 1); omega
    · have := bringS_grow hs ms (caR hs ms bk al xs j) ((xs.getD j (0, 0)).2.toNat / 4)
      show (bringS hs ms _ _).ws.length ≤ _; omega
theorem flF_grow (S : CaS) (j : Nat) : (flF S j).ws.length ≤ S.ws.length + 4 * j := by
  induction j with
  | zero => exact Nat.le_refl _
  | succ j ih =>
    rw [flF]; split
    · omega
    · have := cleanS_grow (flF S j) (S.k j).toNat
      show (cleanS _ _).ws.length ≤ _; omega
theorem caReads_len (hs : List (List Int)) (ms : List Int) (bk al : Bool) (xs : List (Int × Int)) : (caReads hs ms bk al xs).length ≤ 1000000 := by
  unfold caReads; split
  · rename_i h; have h1 := (caO_parts h).2; have := caR_rs hs ms bk al xs xs.length; omega
  · exact Nat.zero_le _
theorem caMem_len (hs : List (List Int)) (ms : List Int) (bk al : Bool) (xs : List (Int × Int)) : (caMem hs ms bk al xs).length ≤ 1000000 := by
  unfold caMem; split
  · rename_i h; have h1 := caO_parts h; have h2 := caR_grow hs ms bk al xs xs.length; have h3 := flF_grow (caR hs ms bk al xs xs.length) ms.length; omega
  · exact Nat.zero_le _
theorem caDirty_len (hs : List (List Int)) (ms : List Int) (bk al : Bool) (xs : List (Int × Int)) : (caDirty hs ms bk al xs).length ≤ 1000000 := by
  unfold caDirty; split
  · have := dirL_len (caR hs ms bk al xs xs.length).ds 16; omega
  · exact Nat.zero_le _
theorem caTr_five (hs : List (List Int)) (ms : List Int) (bk al : Bool) (xs : List (Int × Int)) : ∃ i0 i1 i2 i3 i4 : Int, caTr hs ms bk al xs = [.int .i64 i0, .int .i64 i1, .int .i64 i2, .int .i64 i3, .int .i64 i4] := by
  unfold caTr; split
  · exact ⟨_, _, _, _, _, rfl⟩
  · exact ⟨_, _, _, _, _, rfl⟩
theorem ownA_same {w w' : World} {B : Nat} {v : Value} {xs : List (Int × Int)} (h : OwnA w B v xs) (he : ∀ k, v.ownBlock = some k → w'.heap[k]? = w.heap[k]?) : OwnA w' B v xs := by
  refine ⟨h.1, ?_⟩
  rcases h.2 with hn | ⟨g, cap, cur, hv, hg, hh, r⟩
  · exact .inl hn
  · exact .inr ⟨g, cap, cur, hv, hg, by rw [he g (by rw [hv]; rfl)]; exact hh, r⟩
set_option maxRecDepth 100000 in
set_option maxHeartbeats 4000000 in
theorem TrafficOf_s {q1 q2 : Option Addr} {n1 c1 n2 c2 : Nat} {bk al : Bool} {hs : List (List Int)} {ms : List Int} {w : World} {xs : List (Int × Int)} {a : Option Addr} {c : Nat} (h : RdP w (.agg #[.slice q1 n1 c1, .slice q2 n2 c2]) hs ms) (hx : RowA w a xs) (hxl : xs.length ≤ 1048576) :
    Calls Try.prog 24 #[.agg #[Value.slice q1 n1 c1, Value.slice q2 n2 c2, Value.bool bk, Value.bool al], .slice a xs.length c] w (ResCT (caTr hs ms bk al xs) (caO hs ms xs) w) := by
  obtain ⟨d5, hu5, hd5⟩ := und5t
  have HU5 := Lib.hid (And.intro hu5 hd5)
  have HL5 := Lib.hid (fun (w' : World) (b : Nat) (cs : List Value) (h : Blk w' b cs 47) (hc : cs.length = 5) => Blk.loadVar h 47 d5 hu5 hd5 (by rw [hc]; exact isz5t))
  clear hu5 hd5
  obtain ⟨W0, hW0⟩ : ∃ W0, W0 = (w.alloc (.cells #[Value.slice q1 n1 c1, Value.slice q2 n2 c2, Value.bool bk, Value.bool al] 35)).alloc (.cells #[.int .i64 0, .int .i64 0, .int .i64 0, .int .i64 0, .int .i64 0] 47) := ⟨_, rfl⟩
  have b0 : Below w.heap.size w W0 := by rw [hW0]; exact ((Below.refl _ w).alloc (Nat.le_refl _) _).alloc (by simp) _
  have BZ : Blk W0 w.heap.size [Value.slice q1 n1 c1, Value.slice q2 n2 c2, Value.bool bk, Value.bool al] 35 := by rw [hW0]; exact Blk.alloc (Blk.newAt w _ _ _ rfl) _
  have kT : Blk W0 (w.heap.size + 1) tr0 47 := by rw [hW0]; exact Blk.newAt _ _ tr0 _ (by simp)
  have HB := Lib.hid (both_s (c := c) (rdP_below h b0) (hx.below b0) hxl BZ)
  have HD := Lib.hid (fun (q : Nat) (hO : caO hs ms xs = true) => do_c (w := W0.drewN q) (c := c) (rdP_below h (below_drewN q b0)) (hx.below (below_drewN q b0)) hO (show Blk (W0.drewN q) _ _ _ from BZ))
  have B0 := Lib.hid b0
  unfold caTr ResCT
  clear h hx BZ b0
  generalize caO hs ms xs = ok at *
  generalize caR hs ms bk al xs xs.length = S at *
  generalize hS9 : flF S ms.length = S9 at *
  clear hS9
  generalize xs.length = N at *
  have hzW := kT.lt
  go_enter Try.func24, Try.ntmps24
  go_wp2_with fail
  rw [← hW0]
  clear hW0
  refine HB.out.mono ?_; rintro e w1 ⟨rfl, q, rfl⟩
  have kT1 : Blk (W0.drewN q) (w.heap.size + 1) tr0 47 := kT
  cases ok
  · have hbd := fun w9 => run_build (P := Try.prog) w9 47 #[] tr0.toArray built5t
    clear HD HB kT
    go_wp2_with (with_reducible refine wpList_storeB rfl 47 (.tmp 4) (.tmp 9) rfl (w.heap.size + 1) 0 tr0 ?_ ?_ tr0 47 kT1 ?_ ?_ ?_ ?_)
    all_goals (first | exact (show 0 + tr0.length ≤ tr0.length from Nat.le_refl _) | exact isz5t | exact one_tr0 | rfl | skip)
    intro w6 hB6 hK6
    rw [splice_all _ _ rfl] at hB6
    have B6 := Lib.hid ((below_drewN q B0.out).trans (hK6.out.below (by omega)))
    go_wp2
    refine bodyPost_ret (results2 (a := 4) (k := 5) (t := 47) (p := ⟨w.heap.size + 1, 0, none⟩) (by kernel_rfl) rfl (HL5.out _ _ _ hB6.out rfl) rfl) rfl ⟨rfl, B6.out⟩
  · have HD2 := Lib.hid (HD.out q rfl)
    clear HD HB
    go_wp2_with fail
    refine HD2.out.mono ?_; rintro e w3 ⟨r, x, rfl, hM⟩
    have hrg : w3.rangeAt r 6 (trC S9) := by
      have h1 := hM.blk.range 6 5
      exact h1
    have B3 := Lib.hid (show Below w.heap.size w w3 from B0.out.trans ((below_drewN q (Below.refl _ W0)).trans (hM.bl.mono (by show _ ≤ W0.heap.size; omega))))
    have kT3 := kT1.below hM.bl hzW
    have hrw := hM.hB
    clear hM kT1 kT
    go_wp2_with (first | (with_reducible refine wpList_load_mid rfl 47 (.tmp 13) rfl r 6 ?_ (trC S9) d5 hrg HU5.out.1 HU5.out.2 ?_ ?_) | (with_reducible refine wpList_storeB rfl 47 (.tmp 4) (.tmp 14) rfl (w.heap.size + 1) 0 (trC S9) ?_ ?_ tr0 47 kT3 ?_ ?_ ?_ ?_))
    all_goals (first | exact (show 0 + (trC S9).length ≤ tr0.length from Nat.le_refl _) | exact isz5t | exact one_tr S9 | rfl | skip)
    intro w6 hB6 hK6
    rw [splice_all tr0 (trC S9) (show (trC S9).length = tr0.length from rfl)] at hB6
    have B6 := Lib.hid (B3.out.trans (hK6.out.below (by omega)))
    go_wp2
    refine bodyPost_ret (results2 (a := 4) (k := 5) (t := 47) (p := ⟨w.heap.size + 1, 0, none⟩) (by kernel_rfl) rfl (HL5.out _ _ _ hB6.out rfl) rfl) rfl ⟨?_, B6.out⟩
    show _ = Ending.returned (.tuple #[.agg (if true = true then trC S9 else tr0).toArray, .bool true])
    rw [if_pos rfl]
    rfl
end Go.Proofs.Ytngbddmbmkphcaa.Pv
namespace Go.Proofs.Ytngbddmbmkphcaa.Pv
open Go.RowKit
theorem szC_yes (a a' : Option Addr) (c c' len' : Nat) (hs : List (List Int)) (bk al : Bool) (w : World) (hm : IsMatL w a hs) (h : hs.length + (lens hs).sum + len' ≤ 1048576) :
    Calls Try.prog 7 #[.agg #[.slice a hs.length c, .slice a' len' c', .bool bk, .bool al], .int .i64 1048576] w (NbI (1048576 - hs.length - ((lens hs).sum : Nat) - len') w) := by
  have b0 := (Below.refl w.heap.size w).alloc (Nat.le_refl _) (.cells #[.slice a hs.length c, .slice a' len' c', .bool bk, .bool al] 27)
  have H1 := Lib.hid (szP_yes a a' c c' len' hs _ (hm.below b0) h)
  have n2 : ¬ ((1048576 : Int) - (hs.length : Int) - ((lens hs).sum : Nat) - (len' : Int)) < 0 := by omega
  have B0 := Lib.hid b0
  clear hm h b0
  generalize (lens hs).sum = T at *
  generalize hs.length = N at *
  go_enter Try.func7, Try.ntmps7
  go_wp2_with fail
  refine H1.out.mono ?_; rintro e w' ⟨rfl, b1⟩
  have B1 := Lib.hid (bt B0.out b1)
  clear b1
  go_wp2
  go_ret
  exact ⟨rfl, B1.out⟩
theorem szC_no (a a' : Option Addr) (c c' len' : Nat) (hs : List (List Int)) (bk al : Bool) (w : World) (hm : IsMatL w a hs) (hl : len' ≤ 9223372036854775807) (h : ¬ hs.length + (lens hs).sum + len' ≤ 1048576) :
    Calls Try.prog 7 #[.agg #[.slice a hs.length c, .slice a' len' c', .bool bk, .bool al], .int .i64 1048576] w (NbI (-1) w) := by
  have b0 := (Below.refl w.heap.size w).alloc (Nat.le_refl _) (.cells #[.slice a hs.length c, .slice a' len' c', .bool bk, .bool al] 27)
  have H1 := Lib.hid (szP_no a a' c c' len' hs _ (hm.below b0) hl h)
  have B0 := Lib.hid b0
  clear hm h b0
  generalize hs.length = N at *
  go_enter Try.func7, Try.ntmps7
  go_wp2_with fail
  refine H1.out.mono ?_; rintro e w' ⟨rfl, b1⟩
  have B1 := Lib.hid (bt B0.out b1)
  clear b1
  go_wp2
  go_ret
  exact ⟨rfl, B1.out⟩
theorem RdP.belowC {w w' : World} {v : Value} {hs : List (List Int)} {ms : List Int} (h : RdP w v hs ms) (hb : Below w.heap.size w w') : RdP w' v hs ms := by
  obtain ⟨a, c, a', c', e, h1, h2, h3, h4, h5⟩ := h
  exact ⟨a, c, a', c', e, h1.below hb, h2, h3.below hb, h4, h5⟩
/-- A copy of a cache: its policy is the call's own. -/
def CopC (hs : List (List Int)) (ms : List Int) (bk al : Bool) (w : World) (e : Ending) (w' : World) : Prop :=
  ∃ a n c a' n' c', e = .returned (.agg #[.slice a n c, .slice a' n' c', .bool bk, .bool al]) ∧ OwnP w' (w.heap.size + 6) w'.heap.size (.agg #[.slice a n c, .slice a' n' c']) hs ms ∧ Below w.heap.size w w' ∧ w.heap.size + 6 ≤ w'.heap.size
theorem wr4 (B T : Nat) (w : World) (b o : Nat) (v0 v1 v2 v3 : Value) (h : B ≤ b ∧ b < T) : Wr B T w ((((w.setCell ⟨b, o, none⟩ v0).setCell ⟨b, o + 1, none⟩ v1).setCell ⟨b, o + 2, none⟩ v2).setCell ⟨b, o + 3, none⟩ v3) :=
  (((Wr.set B T w b o v0 h).trans (Wr.set B T _ b (o + 1) v1 h)).trans (Wr.set B T _ b (o + 2) v2 h)).trans (Wr.set B T _ b (o + 3) v3 h)
theorem Keep.wr {b B T : Nat} {w w' : World} (h : Keep b w w') (hB : B ≤ b ∧ b < T) : Wr B T w w' := ⟨h.os, h.tape, h.output, Nat.le_of_eq h.size.symm, fun i _ hi => h.block i (by omega)⟩
set_option maxRecDepth 100000 in
set_option maxHeartbeats 4000000 in
theorem toC_any (a a' : Option Addr) (c c' len' : Nat) (hs : List (List Int)) (zs : List Int) (bk al : Bool) (w : World) (hm : IsMatL w a hs) (hr : IsRow .i64 w a' len' c' zs) (h : hs.length + (lens hs).sum + len' ≤ 1048576) :
    Calls Try.prog 10 #[.agg #[.slice a hs.length c, .slice a' len' c', .bool bk, .bool al]] w (CopC hs (zs.take len') bk al w) := by
  have HP := Lib.hid (fun (w' : World) (hb : Below w.heap.size w w') => toP_big a a' c c' len' hs zs w' (hm.below hb) (isRow_below hr hb) h)
  clear hm hr h
  generalize zs.take len' = ms at *
  generalize hN : hs.length = N at *
  have hNN := Lib.hid hN
  clear hN
  go_enter Try.func10, Try.ntmps10
  go_wp2_with fail
  obtain ⟨W0, hW0⟩ : ∃ W0, W0 = (((w.alloc (.cells #[.slice a N c, .slice a' len' c', .bool bk, .bool al] 27)).alloc (.cells #[.slice none 0 0, .slice none 0 0, .bool false, .bool false] 35)).alloc (.cells #[.slice none 0 0, .slice none 0 0, .bool false, .bool false] 35)) := ⟨_, rfl⟩
  have b0 : Below w.heap.size w W0 := by rw [hW0]; exact (((Below.refl _ w).alloc (Nat.le_refl _) _).alloc (by simp) _).alloc (by simp; omega) _
  have BZ : Blk W0 w.heap.size [.slice a N c, .slice a' len' c', .bool bk, .bool al] 27 := by rw [hW0]; exact Blk.alloc (Blk.alloc (Blk.newAt w _ _ _ rfl) _) _
  have BZ1 : Blk W0 (w.heap.size + 1) [.slice none 0 0, .slice none 0 0, .bool false, .bool false] 35 := by rw [hW0]; exact Blk.alloc (Blk.newAt _ _ _ _ (by simp)) _
  have BZ2 : Blk W0 (w.heap.size + 1 + 1) [.slice none 0 0, .slice none 0 0, .bool false, .bool false] 35 := by rw [hW0]; exact Blk.newAt _ _ _ _ (by simp)
  have hz0 : W0.heap.size = w.heap.size + 3 := by rw [hW0]; simp
  rw [← hW0]
  clear hW0
  refine (HP.out W0 b0).mono ?_; rintro e w1 ⟨v1, rfl, o1, b1, hs1⟩
  obtain ⟨A1, n1, C1, A2, n2, C2, rfl⟩ := o1.form
  have kz := BZ.below b1 BZ.lt
  have kz1 := BZ1.below b1 BZ1.lt
  have kz2 := BZ2.below b1 BZ2.lt
  have B1 := Lib.hid (bt b0 b1)
  have O1 := Lib.hid o1
  clear b1 b0 BZ BZ1 BZ2 o1 HP
  go_wp2_with (with_reducible refine wpList_storeB rfl 33 (.tmp 7) (.tmp 6) rfl (w.heap.size + 1 + 1) 0 [.slice A1 n1 C1, .slice A2 n2 C2] ?_ ?_ [.slice none 0 0, .slice none 0 0, .bool false, .bool false] 35 kz2 ?_ ?_ ?_ ?_)
  all_goals (first | rfl | (simp; done) | kernel_rfl | (intro v hv; simp at hv; rcases hv with rfl | rfl <;> rfl) | skip)
  intro w2 hB2 hK2
  have r2 : Blk w2 (w.heap.size + 1 + 1) [.slice A1 n1 C1, .slice A2 n2 C2, .bool false, .bool false] 35 := hB2.out
  have r1 := hK2.out.blk kz1 (by omega)
  have r0 := hK2.out.blk kz (by omega)
  have W2 : Wr (w.heap.size + 1) (w.heap.size + 3) w1 w2 := Keep.wr hK2.out (by omega)
  have e2 : w2.heap.size = w1.heap.size := hK2.out.size
  clear hB2 hK2 kz kz1 kz2
  have p1 : w2.cell? ⟨w.heap.size, 1, none⟩ = some (.slice a' len' c') := r0.cell 1
  have p2 : w2.cell? ⟨w.heap.size, 2, none⟩ = some (.bool bk) := r0.cell 2
  have p3 : w2.cell? ⟨w.heap.size, 3, none⟩ = some (.bool al) := r0.cell 3
  have q0 : w2.cell? ⟨w.heap.size + 1 + 1, 0, none⟩ = some (.slice A1 n1 C1) := r2.cell 0
  have q1 : w2.cell? ⟨w.heap.size + 1 + 1, 1, none⟩ = some (.slice A2 n2 C2) := r2.cell 1
  have q2 : w2.cell? ⟨w.heap.size + 1 + 1, 2, none⟩ = some (.bool false) := r2.cell 2
  have q3 : w2.cell? ⟨w.heap.size + 1 + 1, 3, none⟩ = some (.bool false) := r2.cell 3
  have f2 := r2.froz 2
  have f3 := r2.froz 3
  have z0 : w2.cell? ⟨w.heap.size + 1, 0, none⟩ = some (.slice none 0 0) := r1.cell 0
  have z1 : w2.cell? ⟨w.heap.size + 1, 1, none⟩ = some (.slice none 0 0) := r1.cell 1
  have z2 : w2.cell? ⟨w.heap.size + 1, 2, none⟩ = some (.bool false) := r1.cell 2
  have z3 : w2.cell? ⟨w.heap.size + 1, 3, none⟩ = some (.bool false) := r1.cell 3
  have g0 := r1.froz 0
  have g1 := r1.froz 1
  have g2 := r1.froz 2
  have g3 := r1.froz 3
  have HWr := Lib.hid (fun (w3 : World) (e : w3 = (((((w2.setCell ⟨w.heap.size + 1 + 1, 2, none⟩ (.bool bk)).setCell ⟨w.heap.size + 1 + 1, 3, none⟩ (.bool al)).setCell ⟨w.heap.size + 1, 0, none⟩ (.slice A1 n1 C1)).setCell ⟨w.heap.size + 1, 1, none⟩ (.slice A2 n2 C2)).setCell ⟨w.heap.size + 1, 2, none⟩ (.bool bk)).setCell ⟨w.heap.size + 1, 3, none⟩ (.bool al)) => (show Wr (w.heap.size + 1) (w.heap.size + 3) w1 w3 ∧ w3.heap.size = w1.heap.size from by
    subst e
    exact ⟨W2.trans (((Wr.set _ _ w2 _ 2 _ (by omega)).trans (Wr.set _ _ _ _ 3 _ (by omega))).trans (wr4 _ _ _ _ 0 _ _ _ _ (by omega))), by simp [e2]⟩))
  clear r0 r1 r2 W2
  go_wp2
  refine bodyPost_ret (v := .agg #[.slice A1 n1 C1, .slice A2 n2 C2, .bool bk, .bool al]) (by simp [results, Try.results10, go_sem, p2, p3, q0, q1, q2, q3, z0, z1, z2, z3, f2, f3, g0, g1, g2, g3]) rfl ?_
  obtain ⟨hw, hsz⟩ := HWr.out _ rfl
  have hs1' := B1.out.size
  have O3 := O1.out
  rw [hz0] at O3 hs1
  refine ⟨_, _, _, _, _, _, rfl, ?_, hw.belowT B1.out (by omega) (by omega), by rw [hsz]; omega⟩
  rw [hsz]
  exact O3.wr hw (.inr (by omega))
def BbP2 (b : Bool) (w : World) (e : Ending) (w' : World) : Prop := e = .returned (.bool b) ∧ Below w.heap.size w w'
theorem eqC_own {w : World} {B1 T1 B2 T2 : Nat} {a a1 b b1 : Option Addr} {n c n1 c1 m d m1 d1 : Nat} {bk al : Bool} {hs : List (List Int)} {ms : List Int} (o1 : OwnP w B1 T1 (.agg #[.slice a n c, .slice a1 n1 c1]) hs ms) (o2 : OwnP w B2 T2 (.agg #[.slice b m d, .slice b1 m1 d1]) hs ms) :
    Calls Try.prog 14 #[.agg #[.slice a n c, .slice a1 n1 c1, .bool bk, .bool al], .agg #[.slice b m d, .slice b1 m1 d1, .bool bk, .bool al]] w (BbP true w) := by
  obtain ⟨W0, hW0⟩ : ∃ W0, W0 = (w.alloc (.cells #[.slice a n c, .slice a1 n1 c1, .bool bk, .bool al] 35)).alloc (.cells #[.slice b m d, .slice b1 m1 d1, .bool bk, .bool al] 35) := ⟨_, rfl⟩
  have b0 : Below w.heap.size w W0 := by rw [hW0]; exact ((Below.refl _ _).alloc (Nat.le_refl _) _).alloc (by simp) _
  have k1 : Blk W0 w.heap.size [.slice a n c, .slice a1 n1 c1, .bool bk, .bool al] 35 := by rw [hW0]; exact Blk.alloc (Blk.newAt w _ _ _ rfl) _
  have k2 : Blk W0 (w.heap.size + 1) [.slice b m d, .slice b1 m1 d1, .bool bk, .bool al] 35 := by rw [hW0]; exact Blk.newAt _ _ _ _ (by simp)
  have HQ := Lib.hid (eqP_own (OwnP.below o1 b0 (Nat.le_refl _)) (OwnP.below o2 b0 (Nat.le_refl _)))
  clear o1 o2
  go_enter Try.func14, Try.ntmps14
  go_wp2_with fail
  rw [← hW0]
  clear hW0
  refine HQ.out.mono ?_; rintro e w1 ⟨rfl, b1⟩
  have l1 := k1.below b1 k1.lt
  have l2 := k2.below b1 k2.lt
  have B1 := Lib.hid (bt b0 b1)
  have p2 : w1.cell? ⟨w.heap.size, 2, none⟩ = some (.bool bk) := l1.cell 2
  have p3 : w1.cell? ⟨w.heap.size, 3, none⟩ = some (.bool al) := l1.cell 3
  have q2 : w1.cell? ⟨w.heap.size + 1, 2, none⟩ = some (.bool bk) := l2.cell 2
  have q3 : w1.cell? ⟨w.heap.size + 1, 3, none⟩ = some (.bool al) := l2.cell 3
  clear l1 l2 k1 k2 b0 b1
  go_wp2
  go_ret
  exact ⟨rfl, B1.out⟩
end Go.Proofs.Ytngbddmbmkphcaa.Pv
namespace Go.Proofs.Ytngbddmbmkphcaa.Ac
open Go.RowKit Tr
/-- The list that marks leave, from K on. -/
def mkG (K : Int) (n : Nat) : List (Int × Int) := (List.range n).map fun j : Nat => (K + 2 * (j : Int), K + 2 * (j : Int) + 1)
theorem mkG_length (K : Int) (n : Nat) : (mkG K n).length = n := by simp [mkG]
theorem mkG_get (K : Int) (n j : Nat) (h : j < n) : (mkG K n).getD j (0, 0) = (K + 2 * (j : Int), K + 2 * (j : Int) + 1) := by
  rw [List.getD_eq_getElem?_getD, List.getElem?_eq_getElem (by rw [mkG_length]; exact h)]
  simp [mkG]
theorem ext_getDA (xs ys : List (Int × Int)) (hl : xs.length = ys.length) (h : ∀ i, i < xs.length → xs.getD i (0, 0) = ys.getD i (0, 0)) : xs = ys := by
  refine List.ext_getElem hl fun i h1 h2 => ?_
  have := h i h1
  rwa [List.getD_eq_getElem?_getD, List.getElem?_eq_getElem h1, List.getD_eq_getElem?_getD, List.getElem?_eq_getElem h2] at this
def MarkedG (B : Nat) (v : Value) (K : Int) (n : Nat) (w : World) (e : Ending) (w' : World) : Prop := e = .returned (.int .i64 (K + 2 * (n : Int))) ∧ OwnA w' B v (mkG K n) ∧ w.grownBy w' v.ownBlock
set_option maxHeartbeats 2000000 in
theorem markG {w : World} {B : Nat} {v : Value} {xs : List (Int × Int)} (K : Int) (hK0 : 0 ≤ K) (hK1 : K ≤ 100000000) (h : OwnA w B v xs) (hn : xs.length ≤ 1048576) :
    Calls Try.prog 17 #[v, .int .i64 K] w (MarkedG B v K xs.length w) := by
  rcases h.2 with ⟨rfl, h0⟩ | ⟨g, cap, cur, rfl, _⟩
  · rw [h0]
    go_enter Try.func17, Try.ntmps17
    go_wp2
    refine wp_loop_rounds 1 ?_
    rw [rounds_succ]
    go_wp2
    go_ret
    exact ⟨ret_i64 (by simp), World.ownsRow_nil _ _ _ _, ⟨rfl, rfl, rfl, Nat.le_refl _, fun _ _ _ => rfl⟩⟩
  · have h0 : w.ownsRow B 61 2 (.slice (some ⟨g, 0, none⟩) xs.length cap) xs.length (acells xs) := h
    generalize hN : xs.length = N at *
    have HN := Lib.hid hN
    have H0 := Lib.hid h0
    clear hN h0 h
    go_enter Try.func17, Try.ntmps17
    go_wp2
    go_loopw [1, 5] (fun k i wr => ∃ j : Nat, j ≤ N ∧ i = .int .i64 j ∧ k = .int .i64 (K + 2 * (j : Int)) ∧ ∃ ys : List (Int × Int), Hid (ys.length = N) ∧ Hid (wr.ownsRow B 61 2 (.slice (some ⟨g, 0, none⟩) N cap) N (acells ys)) ∧ Hid (w.grownBy wr (some g)) ∧
        Hid (∀ i, i < j → ys.getD i (0, 0) = (K + 2 * (i : Int), K + 2 * (i : Int) + 1))) (fun _ i _ => N - (intOf i).toNat)
    case atStart => exact ⟨0, Nat.zero_le _, rfl, by simp, xs, HN, H0, ⟨rfl, rfl, rfl, Nat.le_refl _, fun _ _ _ => rfl⟩, fun i h => by omega⟩
    case round =>
      obtain ⟨j, hj, rfl, rfl, ys, hy, ho, hg, hm⟩ := hrel
      by_cases hlt : j < N
      · have hl := acells_length ys
        rw [hy.out] at hl
        have s1 := World.ownsRow.stored ho.out (j * 2) (.int .i64 (K + 2 * (j : Int)))
        have s2 := World.ownsRow.stored s1.1 (j * 2 + 1) (.int .i64 (K + 2 * (j : Int) + 1))
        rw [acells_set ys j _ _ (by rw [hy.out]; exact hlt)] at s2
        have S2 := Lib.hid s2.1
        have G2 := Lib.hid (grownBy_trans hg.out (grownBy_trans s1.2 s2.2))
        have k1 : ∃ old, wr.cell? ⟨g, j * 2, none⟩ = some old := ⟨_, by rw [ho.out.cellAt (j * 2) (by omega), List.getElem?_eq_getElem (by omega)]⟩
        have k2 : ∃ old, wr.cell? ⟨g, j * 2 + 1, none⟩ = some old := ⟨_, by rw [ho.out.cellAt (j * 2 + 1) (by omega), List.getElem?_eq_getElem (by omega)]⟩
        obtain ⟨o1, k1⟩ := k1
        obtain ⟨o2, k2⟩ := k2
        have f1 := ho.out.frozenAt (j * 2)
        have f2 := ho.out.frozenAt (j * 2 + 1)
        have HY := Lib.hid (show (ys.set j (K + 2 * (j : Int), K + 2 * (j : Int) + 1)).length = N by rw [List.length_set]; exact hy.out)
        have HM := Lib.hid (show ∀ i, i < j + 1 → (ys.set j (K + 2 * (j : Int), K + 2 * (j : Int) + 1)).getD i (0, 0) = (K + 2 * (i : Int), K + 2 * (i : Int) + 1) from fun i hi => by
          by_cases e : i = j
          · subst e
            rw [List.getD_eq_getElem?_getD, List.getElem?_set_self (by rw [hy.out]; exact hlt)]
            rfl
          · rw [List.getD_eq_getElem?_getD, List.getElem?_set_ne (fun h => e h.symm), ← List.getD_eq_getElem?_getD]
            exact hm.out i (by omega))
        clear s1 s2 hl ho hg hy hm
        go_wp2
        go_roundw
        case rel => exact ⟨j + 1, by omega, by go_num, by go_num, _, HY, S2, G2, HM⟩
        case measure => simp [intOf]; omega
      · have e : j = N := by omega
        subst e
        go_wp2
        go_ret
        refine ⟨rfl, ?_, hg.out⟩
        have he : ys = mkG K j := ext_getDA _ _ (by rw [mkG_length]; exact hy.out) fun i hi => by rw [mkG_get K j i (by rw [← hy.out]; exact hi)]; exact hm.out i (by rw [← hy.out]; exact hi)
        have h5 := ho.out
        rw [he] at h5
        show World.ownsRow _ _ _ _ _ (mkG K j).length _
        rw [mkG_length]
        exact h5
theorem OwnA.row2 {w : World} {B : Nat} {v : Value} {rs : List (Int × Int)} (h : OwnA w B v rs) : ∃ a c, v = .slice a rs.length c ∧ rs.length ≤ c ∧ c ≤ 9223372036854775807 ∧ RowA w a rs := by
  have h0 := h
  rcases h.2 with ⟨rfl, hn⟩ | ⟨g, cap, cur, rfl, hB, hg, hnc, hcm, _⟩
  · exact ⟨none, 0, by rw [hn], by omega, by omega, fun i hi => by omega⟩
  · obtain ⟨a, c, e, hr⟩ := h0.row
    injection e with e1 e2 e3
    subst e1 e3
    exact ⟨_, cap, rfl, hnc, by unfold maxLen at hcm; omega, hr⟩
theorem OwnA.nil (w : World) (B : Nat) : OwnA w B (.slice none 0 0) [] := World.ownsRow_nil _ _ _ _
theorem OwnA.mono {w : World} {B B' : Nat} {v : Value} {xs : List (Int × Int)} (h : OwnA w B v xs) (hB : B' ≤ B) : OwnA w B' v xs := by
  refine ⟨h.1, ?_⟩
  rcases h.2 with hn | ⟨g, cap, cur, hv, hg, r⟩
  · exact .inl hn
  · exact .inr ⟨g, cap, cur, hv, by omega, r⟩
theorem OwnA.kept {w w' : World} {B : Nat} {v : Value} {xs : List (Int × Int)} {row : Option Nat} (h : OwnA w B v xs) (hg : w.grownBy w' row) (hne : ∀ k, v.ownBlock = some k → some k ≠ row) : OwnA w' B v xs := by
  refine World.ownsRow.kept h hg ?_
  cases hv : v.ownBlock with
  | none => exact .inl rfl
  | some k => exact .inr (hne k hv)
theorem OwnA.drewN {w : World} {B : Nat} {v : Value} {xs : List (Int × Int)} (h : OwnA w B v xs) (k : Nat) : OwnA (w.drewN k) B v xs := h
theorem wpList_appA {ops : Array Oper} {rest : List Oper} {o : Oper} {a : Act} {Q : Exit → Act → World → Prop} (wr : World) (hgd : o.guard = none) (s x : Operand)
    (ho : o.op = .call { callee := .builtin .append, args := #[s, x], argTypes := #[37, 37] })
    (B : Nat) (v : Value) (rs : List (Int × Int)) (k ad : Int) (hs : a.eval s = v) (hx : a.eval x = .slice (some ⟨wr.heap.size, 0, none⟩) 1 1) (hown : OwnA wr B v rs)
    (hlen : rs.length + 1 ≤ 100000000) (hB : B ≤ wr.heap.size)
    (h : ∀ v' w', OwnA w' B v' (rs ++ [(k, ad)]) → Below B wr w' → (∀ p : Addr, p.block < wr.heap.size → v.ownBlock ≠ some p.block → w'.cell? p = wr.cell? p ∧ w'.frozen? p = wr.frozen? p) → (∀ q, v'.ownBlock = some q → v.ownBlock = some q ∨ wr.heap.size ≤ q) → wpList Try.prog ops Q rest (a.put o.dst v') w') :
    wpList Try.prog ops Q (o :: rest) a (wr.alloc (.cells #[.int .i64 k, .int .i64 ad] 61)) := by
  obtain ⟨i0, hi, hz0, hz1, hz2⟩ := info_parts infoA
  have hsz : (wr.alloc (.cells #[.int .i64 k, .int .i64 ad] 61)).heap.size = wr.heap.size + 1 := Array.size_push _
  refine wpList_append_own_at _ hgd s x 37 ho B 61 i0 (.agg #[.int .i64 0, .int .i64 0]) 2 16 Try.underlying37 hi hz0 hz1 hz2 rfl (by decide) v rs.length (acells rs) hs (World.ownsRow.alloc hown _)
    ⟨wr.heap.size, 0, none⟩ 1 1 [.int .i64 k, .int .i64 ad] hx rfl ?_ ?_ ?_ ?_ ?_ ?_
  · intro j u' hj
    match j, hj with
    | 0, hj => simp at hj; subst hj; simp [Addr.add]
    | 1, hj => simp at hj; subst hj; simp [Addr.add]
  · intro u' hu; simp at hu; rcases hu with hu | hu <;> subst hu <;> rfl
  · unfold maxLen; omega
  · omega
  · simp; omega
  · intro v' w' hown' hgrow _ hblk
    refine h v' w' ?_ ?_ ?_ ?_
    · show World.ownsRow _ _ _ _ _ (rs ++ [(k, ad)]).length _
      rw [List.length_append, acells_app]
      exact hown'
    · exact ((Below.refl B wr).alloc hB _).grown hgrow (by omega) (fun k hk => (OwnA.block hown k hk).1)
    · intro p hp hne
      have hb := hgrow.block p.block (by omega) (fun e => hne e.symm)
      have hb2 := Below.heap_alloc wr (.cells #[.int .i64 k, .int .i64 ad] 61) p.block hp
      exact ⟨World.cell?_of_block (w := wr) (hb.trans hb2), World.frozen?_of_block (w := wr) (hb.trans hb2)⟩
    · intro q hq
      rcases hblk with hb | hb
      · exact .inl (hb ▸ hq)
      · rw [hb] at hq; injection hq with hq; right; omega
end Go.Proofs.Ytngbddmbmkphcaa.Ac
