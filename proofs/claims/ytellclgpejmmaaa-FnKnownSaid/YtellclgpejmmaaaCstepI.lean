/- The program's StepPolicy. -/
import Derived.Test.YtellclgpejmmaaaCstep
namespace Go.Proofs.Ytellclgpejmmaaa.Pv
open Go.RowKit
theorem one_map (xs : List Int) : ∀ v ∈ xs.map (Value.int .i64), v.oneCell' = true := fun v hv => by
  obtain ⟨x, _, rfl⟩ := List.mem_map.1 hv
  rfl
theorem stepV_len (hs : List (List Int)) (ms xs : List Int) (x : Int) : (stepV hs ms xs x).length ≤ 1000000 := by
  cases h : stepOk hs ms xs x
  · rw [(stepV_no h).1]; simp
  · rw [(stepV_yes h).1, rowL_len]
    have hp : isP hs ms = true := by unfold stepOk at h; simp only [Bool.and_eq_true] at h; exact h.1.1
    unfold isP at hp; simp only [Bool.and_eq_true, decide_eq_true_eq] at hp; omega
set_option maxHeartbeats 4000000 in
set_option maxRecDepth 100000 in
theorem stp_i {v : Value} {hs : List (List Int)} {ms xs : List Int} {w : World} {a2 : Option Addr} {c2 : Nat} (x : Int) (h : RdP w v hs ms) (hx : Rd w (.slice a2 xs.length c2) xs) (hxl : xs.length ≤ 1048576) :
    Calls Try.prog 18 #[v, .slice a2 xs.length c2, .int .i64 x] w (ResH (stepV hs ms xs x) (stepH hs ms xs x) (stepOk hs ms xs x) w) := by
  have h' := h
  obtain ⟨a, c, a', c', rfl, h1, h2, h3, h4, h5⟩ := h'
  obtain ⟨a3, c3, e3, hxc, hxm, hxr⟩ := hx
  injection e3 with e4 e5 e6
  subst e4 e6
  have b0 := (Below.refl w.heap.size w).alloc (Nat.le_refl _) (.cells #[.slice a hs.length c, .slice a' ms.length c'] 29)
  have HR := Lib.hid (rules_any (w := w.alloc (.cells #[.slice a hs.length c, .slice a' ms.length c'] 29)) ⟨a, c, a', c', rfl, h1.below b0, h2, h3.below b0, h4, h5⟩)
  unfold RulR at HR
  have HL := Lib.hid (rulC_len (isP hs ms) ms.length hs ms)
  have H1 := Lib.hid (one_rulC (isP hs ms) ms.length hs ms)
  have HC := Lib.hid (fun h : isP hs ms = true => (show (rulC (isP hs ms) ms.length hs ms)[0]? = some (.int .i64 ms.length) by rw [h]; rfl))
  have HA := Lib.hid (fun (w' : World) (hb : Below w.heap.size w w') => are_i a2 c2 xs w' hxl ⟨hxc, hxm.1⟩ (hxr.below hb))
  have HAD := Lib.hid (fun (w' : World) => adr_i x w')
  have HB1 := Lib.hid (fun (h : xs.length = ms.length) => (show conB ms.length xs = conTo xs xs.length by unfold conB; rw [decide_eq_true h]; rfl))
  have HB2 := Lib.hid (fun (h : ¬ xs.length = ms.length) => (show conB ms.length xs = false by unfold conB; rw [decide_eq_false h]; rfl))
  have HUSE := Lib.hid (fun (hp : isP hs ms = true) (w' : World) => (show Calls Try.prog 37 #[.agg (rulC (isP hs ms) ms.length hs ms).toArray, .agg (six6 (conK xs)).toArray, .int .i64 x] w' (RetB (.tuple #[.agg #[.int .i64 (stN hs ms (conK xs) x 0), .int .i64 (stN hs ms (conK xs) x 1), .int .i64 (stN hs ms (conK xs) x 2), .int .i64 (stN hs ms (conK xs) x 3), .int .i64 (stN hs ms (conK xs) x 4), .int .i64 (stN hs ms (conK xs) x 5)], .bool (hitB ms.length (conK xs) x)]) w') from by rw [hp]; exact use_any hs ms hp (conK xs) x w'))
  have HP6 := Lib.hid (fun (hp : isP hs ms = true) => (show 1 ≤ ms.length ∧ ms.length ≤ 6 from by unfold isP at hp; simp only [Bool.and_eq_true, decide_eq_true_eq] at hp; omega))
  have HNO := Lib.hid (@stepV_no hs ms xs x)
  have HYES := Lib.hid (@stepV_yes hs ms xs x)
  have HOK := Lib.hid (show stepOk hs ms xs x = (isP hs ms && conB ms.length xs && Tr.isA x) from rfl)
  have HFI := Lib.hid (fun (h1 : 1 ≤ ms.length) (h6 : ms.length ≤ 6) (w' : World) => (show Calls Try.prog 33 #[.agg #[.int .i64 (stN hs ms (conK xs) x 0), .int .i64 (stN hs ms (conK xs) x 1), .int .i64 (stN hs ms (conK xs) x 2), .int .i64 (stN hs ms (conK xs) x 3), .int .i64 (stN hs ms (conK xs) x 4), .int .i64 (stN hs ms (conK xs) x 5)], .int .i64 ((ms.length : Nat) : Int)] w' (fun e' w9 => ∃ v', e' = .returned v' ∧ OwnW w9 w'.heap.size v' (rowL ms.length (stN hs ms (conK xs) x)) ∧ Below w'.heap.size w' w9) from
    (first_i ms.length h1 h6 _ _ _ _ _ _ w').mono fun e w9 ⟨he, hw⟩ => ⟨_, he, by rw [← hw]; exact first_row ms.length h6 _ w' 52, by rw [← hw]; exact (Below.refl _ _).alloc (Nat.le_refl _) _⟩))
  have HCC := Lib.hid (fun (h6 : xs.length ≤ 6) => con_cells xs h6)
  have HM1 := Lib.hid (one_map xs)
  have HML := Lib.hid (show (xs.map (Value.int .i64)).length = xs.length from by simp)
  have HSRC := Lib.hid (fun (hp : 0 < xs.length) => show ∃ ad, a2 = some ad ∧ ∀ (w' : World), Below w.heap.size w w' → ∀ (j : Nat) (u : Value), (xs.map (Value.int .i64))[j]? = some u → w'.cell? (ad.add j) = some u from by
    obtain ⟨b, off, rfl, _, _⟩ := hxr 0 hp
    refine ⟨_, rfl, fun w' hb j u hu => ?_⟩
    rw [List.getElem?_map, Option.map_eq_some_iff] at hu
    obtain ⟨y, hy, rfl⟩ := hu
    obtain ⟨hj, ey⟩ := List.getElem?_eq_some_iff.1 hy
    obtain ⟨b', off', e, k1, k2⟩ := hxr j hj
    injection e with e
    injection e with e1 e2
    subst e1 e2
    have := (hb.cell (p := ⟨b, off + j, none⟩) k2).trans k1
    rw [getDg xs j hj, ey] at this
    have ea : (⟨b, off, none⟩ : Addr).add j = ⟨b, off + j, none⟩ := by unfold Addr.add; by_cases h : j = 0 <;> simp [h]
    rw [ea]
    exact this)
  obtain ⟨d43, hu43, hd43⟩ := und43
  have HU4 := Lib.hid (And.intro hu43 hd43)
  obtain ⟨d6, hu6, hd6⟩ := und6
  have HU6 := Lib.hid (And.intro hu6 hd6)
  clear h h1 h3 h5 hxc hxm hxr hu43 hd43 hu6 hd6
  generalize stepV hs ms xs x = V at *
  generalize stepH hs ms xs x = H at *
  generalize rowL ms.length (stN hs ms (conK xs) x) = R at *
  generalize hitB ms.length (conK xs) x = HB at *
  generalize stN hs ms (conK xs) x = S at *
  generalize stepOk hs ms xs x = ok at *
  generalize rulC (isP hs ms) ms.length hs ms = rc at *
  generalize conB ms.length xs = rb at *
  generalize isP hs ms = r at *
  generalize Tr.isA x = ra at *
  generalize conTo xs xs.length = rt at *
  obtain ⟨X1, hX1⟩ : ∃ X1, X1 = xs.map (Value.int .i64) := ⟨_, rfl⟩
  rw [← hX1] at HM1 HML HSRC HCC
  clear hX1
  have HCKL := Lib.hid (show (six6 (conK xs)).length = 6 from rfl)
  generalize six6 (conK xs) = CK at *
  generalize xs.length = L at *
  generalize hs.length = N at *
  generalize ms.length = M at *
  go_enter Try.func18, Try.ntmps18
  go_wp2_with fail
  refine HR.out.mono ?_; rintro e w1 ⟨rfl, b1⟩
  have B1 := Lib.hid (bt b0 b1)
  clear b0 b1
  go_wp2_with (with_reducible refine wpList_storeB rfl 60 (.tmp 9) (.tmp 17) rfl w1.heap.size 0 rc ?_ ?_ z43 60 ?_ ?_ ?_ ?_ ?_)
  · rfl
  · rfl
  · exact Blk.newAt _ _ _ _ rfl
  · rw [HL.out]; decide
  · rw [HL.out]; exact isz43
  · exact H1.out
  intro w2 hB2 hK
  rw [splice_all _ _ HL.out] at hB2
  have hb2 : Below w.heap.size w w2 := (B1.out.alloc (B1.out.size) _).trans (hK.out.below B1.out.size)
  have HBW := Lib.hid hb2
  have HX := Lib.hid hB2
  clear hb2 hK HR
  cases r
  · have e : ok = false := HOK.out
    subst e
    obtain ⟨rfl, rfl⟩ := HNO.out rfl
    go_wp2
    go_ret3
    exact ⟨_, rfl, OwnW.nil _ _, HBW.out⟩
  · have c0 : w2.cell? ⟨w1.heap.size, 0, none⟩ = some (.int .i64 M) := (hB2.cell 0).trans (HC.out rfl)
    have HC0 := Lib.hid (HC.out rfl)
    have HAW := Lib.hid (HA.out w2 HBW.out)
    by_cases hLM : L = M
    · have d : ((L : Int) != (M : Int)) = false := by simp; omega
      have e := HB1.out hLM
      subst e
      obtain ⟨hp1, hp6⟩ := HP6.out rfl
      have HADW := Lib.hid (HAD.out w2)
      cases rb
      · have e : ok = false := HOK.out
        subst e
        obtain ⟨rfl, rfl⟩ := HNO.out rfl
        clear HB1 HB2 hLM HUSE HFI HSRC HCC HM1 HML HL H1 HC hB2 HX HA
        go_wp2_with (first | (go_at_call 35; (with_reducible refine HAW.out.mono ?_); rintro e w3 ⟨rfl, rfl⟩))
        go_ret3
        exact ⟨_, rfl, OwnW.nil _ _, HBW.out⟩
      · cases ra
        · have e : ok = false := HOK.out
          subst e
          obtain ⟨rfl, rfl⟩ := HNO.out rfl
          clear HB1 HB2 hLM HUSE HFI HSRC HCC HM1 HML HL H1 HC hB2 HX HA
          go_wp2_with (first | (go_at_call 35; (with_reducible refine HAW.out.mono ?_); rintro e w3 ⟨rfl, rfl⟩) | (go_at_call 36; (with_reducible refine HADW.out.mono ?_); rintro e w3 ⟨rfl, rfl⟩))
          go_ret3
          exact ⟨_, rfl, OwnW.nil _ _, HBW.out⟩
        · have e : ok = true := HOK.out
          subst e
          obtain ⟨rfl, rfl⟩ := HYES.out rfl
          subst hLM
          have HCK := Lib.hid (HCC.out hp6)
          have HUS := Lib.hid (fun w' => HUSE.out rfl w')
          have HFS := Lib.hid (fun w' => HFI.out hp1 hp6 w')
          obtain ⟨ad, rfl, hsrc⟩ := HSRC.out (by omega)
          have hz3 : (w2.alloc (.cells #[.int .i64 0, .int .i64 0, .int .i64 0, .int .i64 0, .int .i64 0, .int .i64 0] 64)).heap.size = w2.heap.size + 1 := Array.size_push _
          have hG3 : Hid ((w2.alloc (.cells #[.int .i64 0, .int .i64 0, .int .i64 0, .int .i64 0, .int .i64 0, .int .i64 0] 64)).heap[w2.heap.size]? = some (.cells #[.int .i64 0, .int .i64 0, .int .i64 0, .int .i64 0, .int .i64 0, .int .i64 0] 64 (0, 0))) := heap_alloc_new w2 _
          have hB3 : Below w2.heap.size w2 (w2.alloc (.cells #[.int .i64 0, .int .i64 0, .int .i64 0, .int .i64 0, .int .i64 0, .int .i64 0] 64)) := (Below.refl _ w2).alloc (Nat.le_refl _) _
          have HS3 := Lib.hid (hsrc _ (bt HBW.out hB3))
          have n6 : (L : Int) ≤ 6 := by omega
          clear HB1 HB2 HUSE HFI HSRC HCC HA hsrc HOK HYES HNO HP6 hB2
          go_wp2_with (first | (go_at_call 35; (with_reducible refine HAW.out.mono ?_); rintro e w3 ⟨rfl, rfl⟩) | (go_at_call 36; (with_reducible refine HADW.out.mono ?_); rintro e w3 ⟨rfl, rfl⟩) | (with_reducible refine wpList_copy_splice rfl (.tmp 38) (.tmp 39) 24 24 rfl 2 Try.underlying24 isz _ _ _ _ _ _ rfl rfl w2.heap.size 0 [Value.int .i64 0, .int .i64 0, .int .i64 0, .int .i64 0, .int .i64 0, .int .i64 0] 64 hG3.out X1 ?_ ?_ ?_ HM1.out w2.heap.size _ hB3 (Nat.le_refl _) ?_))
          · rw [HML.out]; exact (Nat.min_eq_left hp6).symm
          · exact fun _ => HS3.out
          · rw [HML.out]; show 0 + L ≤ 6; omega
          intro w4 hG4 hB4
          have BK4 := Lib.hid (show Blk w4 w2.heap.size CK 64 from by
            have h := hG4.out
            have e : Go.splice [Value.int .i64 0, .int .i64 0, .int .i64 0, .int .i64 0, .int .i64 0, .int .i64 0] 0 X1 = CK := HCK.out
            rw [e] at h
            exact h)
          have BX4 := Lib.hid (HX.out.below hB4 HX.out.lt)
          have c4 : w4.cell? ⟨w1.heap.size, 0, none⟩ = some (.int .i64 L) := (BX4.out.cell 0).trans HC0.out
          have B4 := Lib.hid (bt HBW.out hB4)
          clear hG4 hB4 hG3 hB3 HS3 HX c0
          go_wp2_with (first | (with_reducible refine wpList_loadB rfl 60 (.tmp 9) rfl w1.heap.size ?_ rc 60 BX4.out d43 HU4.out.1 HU4.out.2 ?_ ?_) | (with_reducible refine wpList_loadB rfl 64 (.tmp 11) rfl w2.heap.size ?_ CK 64 BK4.out d6 HU6.out.1 HU6.out.2 ?_ ?_))
          · rfl
          · rw [HL.out]; exact isz43
          · rw [HCKL.out]; exact isz6c
          refine (HUS.out w4).mono ?_; rintro e w5 ⟨rfl, b5⟩
          have BX5 := Lib.hid (BX4.out.below b5 BX4.out.lt)
          have c5 : w5.cell? ⟨w1.heap.size, 0, none⟩ = some (.int .i64 L) := (BX5.out.cell 0).trans HC0.out
          have B5 := Lib.hid (bt B4.out b5)
          have hl5 : w1.heap.size < w5.heap.size := BX5.out.lt
          clear b5 c4
          go_wp2_with fail
          have hb6 := Lib.hid (bt B5.out ((Below.refl w5.heap.size w5).alloc (Nat.le_refl _) (.cells #[.int .i64 (S 0), .int .i64 (S 1), .int .i64 (S 2), .int .i64 (S 3), .int .i64 (S 4), .int .i64 (S 5)] 64)))
          refine (HFS.out _).mono ?_; rintro e w6 ⟨v6, rfl, o6, b6⟩
          have hb7 := Lib.hid (bt hb6.out b6)
          have ho6 := Lib.hid (OwnW.mono o6 (show w.heap.size ≤ _ from hb6.out.size))
          clear o6 b6
          go_wp2
          go_ret3
          exact ⟨_, rfl, ho6.out, hb7.out⟩
    · have d : ((L : Int) != (M : Int)) = true := by simp; omega
      have e := HB2.out hLM
      subst e
      have e : ok = false := HOK.out
      subst e
      obtain ⟨rfl, rfl⟩ := HNO.out rfl
      clear HB1 HB2 hLM HUSE HFI HSRC HCC HM1 HML HL H1 HC hB2 HX HA
      go_wp2
      go_ret3
      exact ⟨_, rfl, OwnW.nil _ _, HBW.out⟩
end Go.Proofs.Ytellclgpejmmaaa.Pv
