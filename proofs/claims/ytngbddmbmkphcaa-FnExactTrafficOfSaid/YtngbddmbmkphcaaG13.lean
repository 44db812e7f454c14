/- The program's CacheReads, CacheMemory and TrafficOf. A region that draws its order, by an invariant: one proof an operation, whatever has been done ahead of it. No program. The model's run of a cache: what its first region makes. -/
import Derived.Test.YtngbddmbmkphcaaG12
import Derived.RegionTactic
import Derived.Laws.OwnMore
namespace Go.Proofs.Ytngbddmbmkphcaa.Pv
open Go.RowKit Ac Tr
theorem und64 : ∃ d, Try.prog.underlying 65 = some d ∧ d.isRow = true := by
  cases h : Try.prog.underlying 65 with
  | none => exact absurd h (by decide +kernel)
  | some d =>
    refine ⟨d, rfl, ?_⟩
    have e : (Try.prog.underlying 65).map (fun d => d.isRow) = some true := by kernel_rfl
    rw [h] at e
    simpa using e
theorem isz64 : (Try.prog.info? 65).map (·.size) = some 64 := by kernel_rfl
theorem blk_ownW {w : World} {b B : Nat} {ws : List Int} {t : TypeId} (h : Blk w b (ws.map (Value.int .i64)) t) (hB : B ≤ b) (hl : ws.length ≤ 1000) : OwnW w B (.slice (some ⟨b, 0, none⟩) ws.length ws.length) ws :=
  ⟨by simp, .inr ⟨b, ws.length, (ws.map (Value.int .i64)).toArray, t, rfl, hB, h, Nat.le_refl _, by unfold maxLen; omega, by simp, List.take_of_length_le (by simp)⟩⟩
set_option maxRecDepth 100000 in
set_option maxHeartbeats 4000000 in
theorem list_i (ws : List Int) (w : World) (h : ws.length = 64) :
    Calls Try.prog 37 #[.agg (ws.map (Value.int .i64)).toArray] w fun e w' => ∃ v, e = .returned v ∧ OwnW w' w.heap.size v ws ∧ Below w.heap.size w w' := by
  have BZ := Blk.newAt w w.heap.size (ws.map (Value.int .i64)) 65 rfl
  have HO := Lib.hid (blk_ownW BZ (Nat.le_refl _) (by omega))
  have b0 : Below w.heap.size w (w.alloc (.cells (ws.map (Value.int .i64)).toArray 65)) := (Below.refl _ w).alloc (Nat.le_refl _) _
  have hz : (ws.map (Value.int .i64)).length = 64 := by simp [h]
  rw [h] at HO
  clear BZ
  generalize ws.map (Value.int .i64) = L at *
  go_enter Try.func37, Try.ntmps37
  go_wp2
  go_ret
  exact ⟨_, rfl, HO.out, b0⟩
theorem bringS_f (hs : List (List Int)) (ms : List Int) (S : CaS) (L : Nat) : (bringS hs ms S L).f = S.f := by
  unfold bringS
  split
  · rfl
  · split
    · exact cleanS_f _ _
    · rfl
theorem writeS_f (hs : List (List Int)) (ms : List Int) (bk al : Bool) (S : CaS) (a : Nat) (u : Int) : (writeS hs ms bk al S a u).f = S.f := by
  unfold writeS
  split
  · rfl
  · split
    · exact bringS_f _ _ _ _
    · exact bringS_f _ _ _ _
theorem caR_f (hs : List (List Int)) (ms : List Int) (bk al : Bool) (xs : List (Int × Int)) (j : Nat) : (caR hs ms bk al xs j).f = 0 := by
  induction j with
  | zero => rfl
  | succ j ih =>
    rw [caR]
    split
    · rw [writeS_f]; exact ih
    · exact (bringS_f _ _ _ _).trans ih
/-- Whether a cache and accesses are valid, and what their run gives. -/
def caO (hs : List (List Int)) (ms : List Int) (xs : List (Int × Int)) : Bool := isP hs ms && okT xs
theorem caO_parts {hs : List (List Int)} {ms : List Int} {xs : List (Int × Int)} (h : caO hs ms xs = true) : (1 ≤ ms.length ∧ ms.length ≤ 6) ∧ xs.length ≤ 60 := by
  obtain ⟨h1, h2⟩ := Bool.and_eq_true_iff.1 h
  unfold isP at h1
  simp only [Bool.and_eq_true, decide_eq_true_eq] at h1
  exact ⟨by omega, okT_len h2⟩
def caReads (hs : List (List Int)) (ms : List Int) (bk al : Bool) (xs : List (Int × Int)) : List Int := if caO hs ms xs then (caR hs ms bk al xs xs.length).rs else []
def caMem (hs : List (List Int)) (ms : List Int) (bk al : Bool) (xs : List (Int × Int)) : List Int := if caO hs ms xs then (flF (caR hs ms bk al xs xs.length) ms.length).ws else []
def ResCW (xs : List Int) (ok : Bool) (w : World) (e : Ending) (w' : World) : Prop := ∃ v, e = .returned (.tuple #[v, .bool ok]) ∧ OwnW w' w.heap.size v xs ∧ Below w.heap.size w w'
/-- What a run leaves, cell by cell. -/
def RunCF (ok : Bool) (pv : List Value) (hs : List (List Int)) (ms : List Int) (S : CaS) (w : World) (e : Ending) (w' : World) : Prop :=
  ∃ (EL : List Value) (v : Value), e = .returned (.tuple #[.agg EL.toArray, .bool ok]) ∧ EL.length = 203 ∧ (∀ u ∈ EL, u.oneCell' = true) ∧ EL[64]? = some v ∧ Own w' w.heap.size v (if ok then S.rs else []) ∧ Below w.heap.size w w' ∧ (ok = true → EL = caC v (rulC true ms.length hs ms) pv S ∧ CaW S)
theorem RunC.form {ok : Bool} {pv : List Value} {hs : List (List Int)} {ms : List Int} {S : CaS} {w w' : World} {e : Ending} (h : RunC ok pv hs ms S w e w') (h4 : pv.length = 4) (ho : ∀ u ∈ pv, u.oneCell' = true) : RunCF ok pv hs ms S w e w' := by
  rcases h with ⟨rfl, he, hb⟩ | ⟨rfl, v, he, hO, hb, hW⟩
  · exact ⟨z203, .slice none 0 0, he, z203_len, one_z203, by kernel_rfl, Own.nil _ _, hb, fun h => by cases h⟩
  · obtain ⟨fa, fc, hf⟩ := Own.form hO
    exact ⟨_, v, he, caC_len hW (rulC_len _ _ _ _) h4, one_caC hW (rulC_len _ _ _ _) h4 (by rw [hf]; rfl) (one_rulC _ _ _ _) ho, (ca_v hW (rulC_len _ _ _ _) h4).1, hO, hb, fun _ => ⟨rfl, hW⟩⟩
set_option maxRecDepth 100000 in
set_option maxHeartbeats 8000000 in
theorem CacheReads_i {q1 q2 : Option Addr} {n1 c1 n2 c2 : Nat} {bk al : Bool} {hs : List (List Int)} {ms : List Int} {w : World} {xs : List (Int × Int)} {a : Option Addr} {c : Nat} (h : RdP w (.agg #[.slice q1 n1 c1, .slice q2 n2 c2]) hs ms) (hx : RowA w a xs) (hxl : xs.length ≤ 1048576) :
    Calls Try.prog 12 #[.agg #[Value.slice q1 n1 c1, Value.slice q2 n2 c2, Value.bool bk, Value.bool al], .slice a xs.length c] w (ResCW (caReads hs ms bk al xs) (caO hs ms xs) w) := by
  have hpo : ∀ u ∈ [Value.slice q1 n1 c1, Value.slice q2 n2 c2, Value.bool bk, Value.bool al], u.oneCell' = true := fun u hu => by
    simp only [List.mem_cons, List.not_mem_nil, or_false] at hu
    rcases hu with rfl | rfl | rfl | rfl <;> rfl
  have b0 := (Below.refl w.heap.size w).alloc (Nat.le_refl _) (.cells #[Value.slice q1 n1 c1, Value.slice q2 n2 c2, Value.bool bk, Value.bool al] 35)
  have hsz : (w.alloc (.cells #[Value.slice q1 n1 c1, Value.slice q2 n2 c2, Value.bool bk, Value.bool al] 35)).heap.size = w.heap.size + 1 := Array.size_push _
  have HR := Lib.hid ((runC_i (bk := bk) (al := al) (c := c) (rdP_below h b0) (hx.below b0) hxl).mono (R' := RunCF (caO hs ms xs) [Value.slice q1 n1 c1, Value.slice q2 n2 c2, Value.bool bk, Value.bool al] hs ms (caR hs ms bk al xs xs.length) (w.alloc (.cells #[Value.slice q1 n1 c1, Value.slice q2 n2 c2, Value.bool bk, Value.bool al] 35))) fun e w' hh => RunC.form hh rfl hpo)
  have HPA := Lib.hid (fun (hh : caO hs ms xs = true) => caO_parts hh)
  have hS0 := caR_f hs ms bk al xs xs.length
  unfold RunCF at HR
  unfold caReads ResCW
  have HPO := Lib.hid hpo
  clear h hx hpo
  generalize caR hs ms bk al xs xs.length = S at *
  generalize caO hs ms xs = ok at *
  generalize xs.length = N at *
  generalize (if ok = true then S.rs else []) = FS at *
  go_enter Try.func12, Try.ntmps12
  go_wp2_with fail
  refine HR.out.mono ?_; rintro e w1 ⟨EL, f, rfl, hl, ho, h64, hO, hB, hF⟩
  have B1 := Lib.hid (b0.trans (hB.mono (by omega)))
  have hs1 := hB.size
  have HO := Lib.hid hO
  have HF := Lib.hid hF
  clear hB b0 HR hO hF
  go_wp2_with (with_reducible refine wpList_storeB rfl 78 (.tmp 6) (.tmp 12) rfl w1.heap.size 0 EL ?_ ?_ z203 78 ?_ ?_ ?_ ?_ ?_)
  all_goals (first | exact Blk.newAt w1 _ z203 _ rfl | (rw [hl, z203_len]; decide) | (rw [hl]; exact isz203) | exact ho | rfl | skip)
  intro w2 hB2 hK2
  rw [splice_all _ _ (by rw [hl, z203_len])] at hB2
  have b12 : Below w1.heap.size w1 w2 := ((Below.refl w1.heap.size w1).alloc (Nat.le_refl _) _).trans (hK2.out.below (Nat.le_refl _))
  have hz2 : w2.heap.size = w1.heap.size + 1 := by rw [hK2.out.size]; exact Array.size_push _
  have hO2 := HO.out.below b12 (Nat.le_refl _)
  have B2 := Lib.hid (B1.out.trans (b12.mono (by omega)))
  have c64 : w2.cell? ⟨w1.heap.size, 64, none⟩ = some f := (hB2.out.cell 64).trans h64
  clear b12 h64 hK2 B1 HO
  obtain ⟨fa, fc, hf⟩ := Own.form hO2
  have HO2 := Lib.hid (hO2.mono (B' := w.heap.size) (by omega))
  clear hO2
  subst hf
  go_wp2
  go_ret2
  exact ⟨_, rfl, HO2.out.weak, B2.out⟩
set_option maxRecDepth 100000 in
set_option maxHeartbeats 8000000 in
theorem CacheMemory_i {q1 q2 : Option Addr} {n1 c1 n2 c2 : Nat} {bk al : Bool} {hs : List (List Int)} {ms : List Int} {w : World} {xs : List (Int × Int)} {a : Option Addr} {c : Nat} (h : RdP w (.agg #[.slice q1 n1 c1, .slice q2 n2 c2]) hs ms) (hx : RowA w a xs) (hxl : xs.length ≤ 1048576) :
    Calls Try.prog 21 #[.agg #[Value.slice q1 n1 c1, Value.slice q2 n2 c2, Value.bool bk, Value.bool al], .slice a xs.length c] w (ResCW (caMem hs ms bk al xs) (caO hs ms xs) w) := by
  have hpo : ∀ u ∈ [Value.slice q1 n1 c1, Value.slice q2 n2 c2, Value.bool bk, Value.bool al], u.oneCell' = true := fun u hu => by
    simp only [List.mem_cons, List.not_mem_nil, or_false] at hu
    rcases hu with rfl | rfl | rfl | rfl <;> rfl
  have b0 := (Below.refl w.heap.size w).alloc (Nat.le_refl _) (.cells #[Value.slice q1 n1 c1, Value.slice q2 n2 c2, Value.bool bk, Value.bool al] 35)
  have hsz : (w.alloc (.cells #[Value.slice q1 n1 c1, Value.slice q2 n2 c2, Value.bool bk, Value.bool al] 35)).heap.size = w.heap.size + 1 := Array.size_push _
  have HR := Lib.hid ((runC_i (bk := bk) (al := al) (c := c) (rdP_below h b0) (hx.below b0) hxl).mono (R' := RunCF (caO hs ms xs) [Value.slice q1 n1 c1, Value.slice q2 n2 c2, Value.bool bk, Value.bool al] hs ms (caR hs ms bk al xs xs.length) (w.alloc (.cells #[Value.slice q1 n1 c1, Value.slice q2 n2 c2, Value.bool bk, Value.bool al] 35))) fun e w' hh => RunC.form hh rfl hpo)
  have HPA := Lib.hid (fun (hh : caO hs ms xs = true) => caO_parts hh)
  have hS0 := caR_f hs ms bk al xs xs.length
  unfold RunCF at HR
  unfold caMem ResCW
  have HPO := Lib.hid hpo
  clear h hx hpo
  generalize caR hs ms bk al xs xs.length = S at *
  generalize caO hs ms xs = ok at *
  generalize xs.length = N at *
  go_enter Try.func21, Try.ntmps21
  go_wp2_with fail
  refine HR.out.mono ?_; rintro e w1 ⟨EL, f, rfl, hl, ho, h64, hO, hB, hF⟩
  have B1 := Lib.hid (b0.trans (hB.mono (by omega)))
  have hs1 := hB.size
  have HO := Lib.hid hO
  have HF := Lib.hid hF
  clear hB b0 HR hO hF
  go_wp2_with (with_reducible refine wpList_storeB rfl 78 (.tmp 6) (.tmp 12) rfl w1.heap.size 0 EL ?_ ?_ z203 78 ?_ ?_ ?_ ?_ ?_)
  all_goals (first | exact Blk.newAt w1 _ z203 _ rfl | (rw [hl, z203_len]; decide) | (rw [hl]; exact isz203) | exact ho | rfl | skip)
  intro w2 hB2 hK2
  rw [splice_all _ _ (by rw [hl, z203_len])] at hB2
  have b12 : Below w1.heap.size w1 w2 := ((Below.refl w1.heap.size w1).alloc (Nat.le_refl _) _).trans (hK2.out.below (Nat.le_refl _))
  have hz2 : w2.heap.size = w1.heap.size + 1 := by rw [hK2.out.size]; exact Array.size_push _
  have hO2 := HO.out.below b12 (Nat.le_refl _)
  have B2 := Lib.hid (B1.out.trans (b12.mono (by omega)))
  have c64 : w2.cell? ⟨w1.heap.size, 64, none⟩ = some f := (hB2.out.cell 64).trans h64
  clear b12 h64 hK2 B1 HO
  cases ok
  · clear c64 hO2 HF
    go_wp2
    go_ret2
    exact ⟨_, rfl, OwnW.nil _ _, B2.out⟩
  · obtain ⟨hE, hW⟩ := HF.out rfl
    obtain ⟨⟨p1, p6⟩, _⟩ := HPA.out rfl
    obtain ⟨fa, fc, hf⟩ := Own.form hO2
    have hone : f.oneCell' = true := by rw [hf]; rfl
    have hCB : CaB w1.heap.size [Value.slice q1 n1 c1, Value.slice q2 n2 c2, Value.bool bk, Value.bool al] hs ms S f w2 w2 := ⟨by rw [hE] at hB2; exact hB2.out, hW, rfl, Kept.refl _ _⟩
    have HFL := Lib.hid (flush_i p1 p6 hCB hone HPO.out (by omega) (by omega))
    obtain ⟨d64, hu64, hd64⟩ := und64
    clear hf hCB hO2 hE hW c64 HF hB2 hl ho
    generalize hS9 : flF S ms.length = S9 at *
    have HS9 := Lib.hid hS9
    clear hS9
    generalize w1.heap.size = X at *
    go_wp2_with fail
    refine HFL.out.mono ?_; rintro e w3 ⟨rfl, hB3⟩
    have b23 : Below X w2 w3 := hB3.kept.below (Nat.le_refl _) (by omega)
    have hrg : w3.rangeAt X 0 (wI S9.ws) := by
      have h1 := hB3.blk.range 0 64
      have h2 : ((caC f (rulC true ms.length hs ms) [Value.slice q1 n1 c1, Value.slice q2 n2 c2, Value.bool bk, Value.bool al] S9).drop 0).take 64 = wI S9.ws := by
        unfold caC
        rw [List.drop_zero, List.take_append_of_le_length (by rw [wI_len, hB3.wf.ws]; decide), List.take_of_length_le (by rw [wI_len, hB3.wf.ws]; decide)]
      rwa [h2] at h1
    have hz : (wI S9.ws).length = 64 := by rw [wI_len, hB3.wf.ws]
    have HLI := Lib.hid (show Calls Try.prog 37 #[.agg (wI S9.ws).toArray] w3 _ from list_i S9.ws w3 hB3.wf.ws)
    have B3 := Lib.hid (B2.out.trans (b23.mono (by omega)))
    clear hB3 b23
    go_wp2_with (first | (with_reducible refine wpList_load_mid rfl 65 (.tmp 18) rfl X 0 ?_ (wI S9.ws) d64 hrg hu64 hd64 ?_ ?_) | (go_at_call 37; (with_reducible refine HLI.out.mono ?_); rintro e w6 ⟨v6, rfl, o6, b6⟩))
    · rfl
    · rw [hz]; exact isz64
    have B6 := Lib.hid (bt B3.out b6)
    have o7 := Lib.hid (o6.mono (B' := w.heap.size) B3.out.size)
    clear b6 o6
    go_wp2
    go_ret2
    refine ⟨_, rfl, ?_, B6.out⟩
    show OwnW w6 _ _ (if true = true then (flF S ms.length).ws else [])
    rw [if_pos rfl, HS9.out]
    exact o7.out
def tr0 : List Value := [.int .i64 0, .int .i64 0, .int .i64 0, .int .i64 0, .int .i64 0]
def caTr (hs : List (List Int)) (ms : List Int) (bk al : Bool) (xs : List (Int × Int)) : List Value := if caO hs ms xs then trC (flF (caR hs ms bk al xs xs.length) ms.length) else tr0
def ResCT (vs : List Value) (ok : Bool) (w : World) (e : Ending) (w' : World) : Prop := e = .returned (.tuple #[.agg vs.toArray, .bool ok]) ∧ Below w.heap.size w w'
theorem isz5t : (Try.prog.info? 47).map (·.size) = some 5 := by kernel_rfl
theorem und5t : ∃ d, Try.prog.underlying 47 = some d ∧ d.isRow = true := by
  cases h : Try.prog.underlying 47 with
  | none => exact absurd h (by decide +kernel)
  | some d =>
    refine ⟨d, rfl, ?_⟩
    have e : (Try.prog.underlying 47).map (fun d => d.isRow) = some true := by kernel_rfl
    rw [h] at e
    simpa using e
theorem built5t : Try.prog.built 47 [] = some tr0.toArray := by kernel_rfl
theorem one_tr (S : CaS) : ∀ u ∈ trC S, u.oneCell' = true := fun u hu => by
  unfold trC at hu; simp only [List.mem_cons, List.not_mem_nil, or_false] at hu; rcases hu with rfl | rfl | rfl | rfl | rfl <;> rfl
theorem one_tr0 : ∀ u ∈ tr0, u.oneCell' = true := fun u hu => by
  unfold tr0 at hu; simp only [List.mem_cons, List.not_mem_nil, or_false] at hu; rcases hu with rfl | rfl | rfl | rfl | rfl <;> rfl
set_option maxRecDepth 100000 in
set_option maxHeartbeats 8000000 in
theorem TrafficOf_i {q1 q2 : Option Addr} {n1 c1 n2 c2 : Nat} {bk al : Bool} {hs : List (List Int)} {ms : List Int} {w : World} {xs : List (Int × Int)} {a : Option Addr} {c : Nat} (h : RdP w (.agg #[.slice q1 n1 c1, .slice q2 n2 c2]) hs ms) (hx : RowA w a xs) (hxl : xs.length ≤ 1048576) :
    Calls Try.prog 25 #[.agg #[Value.slice q1 n1 c1, Value.slice q2 n2 c2, Value.bool bk, Value.bool al], .slice a xs.length c] w (ResCT (caTr hs ms bk al xs) (caO hs ms xs) w) := by
  have hpo : ∀ u ∈ [Value.slice q1 n1 c1, Value.slice q2 n2 c2, Value.bool bk, Value.bool al], u.oneCell' = true := fun u hu => by
    simp only [List.mem_cons, List.not_mem_nil, or_false] at hu
    rcases hu with rfl | rfl | rfl | rfl <;> rfl
  obtain ⟨d5, hu5, hd5⟩ := und5t
  have HU5 := Lib.hid (And.intro hu5 hd5)
  have HL5 := Lib.hid (fun (w' : World) (b : Nat) (cs : List Value) (h : Blk w' b cs 47) (hc : cs.length = 5) => Blk.loadVar h 47 d5 hu5 hd5 (by rw [hc]; exact isz5t))
  clear hu5 hd5
  obtain ⟨W0, hW0⟩ : ∃ W0, W0 = (w.alloc (.cells #[Value.slice q1 n1 c1, Value.slice q2 n2 c2, Value.bool bk, Value.bool al] 35)).alloc (.cells #[.int .i64 0, .int .i64 0, .int .i64 0, .int .i64 0, .int .i64 0] 47) := ⟨_, rfl⟩
  have b0 : Below w.heap.size w W0 := by rw [hW0]; exact ((Below.refl _ w).alloc (Nat.le_refl _) _).alloc (by simp) _
  have kT : Blk W0 (w.heap.size + 1) tr0 47 := by rw [hW0]; exact Blk.newAt _ _ tr0 _ (by simp)
  have HR := Lib.hid ((runC_i (bk := bk) (al := al) (c := c) (rdP_below h b0) (hx.below b0) hxl).mono (R' := RunCF (caO hs ms xs) [Value.slice q1 n1 c1, Value.slice q2 n2 c2, Value.bool bk, Value.bool al] hs ms (caR hs ms bk al xs xs.length) W0) fun e w' hh => RunC.form hh rfl hpo)
  have HPA := Lib.hid (fun (hh : caO hs ms xs = true) => caO_parts hh)
  have hS0 := caR_f hs ms bk al xs xs.length
  unfold RunCF at HR
  unfold caTr ResCT
  have HPO := Lib.hid hpo
  clear h hx hpo
  generalize caR hs ms bk al xs xs.length = S at *
  generalize caO hs ms xs = ok at *
  generalize xs.length = N at *
  go_enter Try.func25, Try.ntmps25
  go_wp2_with fail
  rw [← hW0]
  clear hW0
  refine HR.out.mono ?_; rintro e w1 ⟨EL, f, rfl, hl, ho, h64, hO, hB, hF⟩
  have hzW : w.heap.size + 1 < W0.heap.size := kT.lt
  have B1 := Lib.hid (b0.trans (hB.mono (by omega)))
  have kT1 := kT.below hB hzW
  have hs1 : w.heap.size + 1 < w1.heap.size := kT1.lt
  have HO := Lib.hid hO
  have HF := Lib.hid hF
  clear hB b0 HR hO hF kT
  go_wp2_with (with_reducible refine wpList_storeB rfl 78 (.tmp 6) (.tmp 12) rfl w1.heap.size 0 EL ?_ ?_ z203 78 ?_ ?_ ?_ ?_ ?_)
  all_goals (first | exact Blk.newAt w1 _ z203 _ rfl | (rw [hl, z203_len]; decide) | (rw [hl]; exact isz203) | exact ho | rfl | skip)
  intro w2 hB2 hK2
  rw [splice_all _ _ (by rw [hl, z203_len])] at hB2
  have b12 : Below w1.heap.size w1 w2 := ((Below.refl w1.heap.size w1).alloc (Nat.le_refl _) _).trans (hK2.out.below (Nat.le_refl _))
  have hz2 : w2.heap.size = w1.heap.size + 1 := by rw [hK2.out.size]; exact Array.size_push _
  have kT2 := kT1.below b12 hs1
  have B2 := Lib.hid (B1.out.trans (b12.mono (by omega)))
  clear b12 h64 hK2 B1 kT1
  cases ok
  · have hbd := fun w9 => run_build (P := Try.prog) w9 47 #[] tr0.toArray built5t
    clear HF HO hB2
    go_wp2_with (with_reducible refine wpList_storeB rfl 47 (.tmp 4) (.tmp 16) rfl (w.heap.size + 1) 0 tr0 ?_ ?_ tr0 47 kT2 ?_ ?_ ?_ ?_)
    all_goals (first | exact (show 0 + tr0.length ≤ tr0.length from Nat.le_refl _) | exact isz5t | exact one_tr0 | rfl | skip)
    intro w6 hB6 hK6
    rw [splice_all _ _ rfl] at hB6
    have B6 := Lib.hid (B2.out.trans (hK6.out.below (by omega)))
    go_wp2
    refine bodyPost_ret (results2 (a := 4) (k := 5) (t := 47) (p := ⟨w.heap.size + 1, 0, none⟩) (by kernel_rfl) rfl (HL5.out _ _ _ hB6.out rfl) rfl) rfl ⟨rfl, B6.out⟩
  · obtain ⟨hE, hW⟩ := HF.out rfl
    obtain ⟨⟨p1, p6⟩, _⟩ := HPA.out rfl
    obtain ⟨fa, fc, hf⟩ := Own.form HO.out
    have hone : f.oneCell' = true := by rw [hf]; rfl
    have hCB : CaB w1.heap.size [Value.slice q1 n1 c1, Value.slice q2 n2 c2, Value.bool bk, Value.bool al] hs ms S f w2 w2 := ⟨by rw [hE] at hB2; exact hB2.out, hW, rfl, Kept.refl _ _⟩
    have HFL := Lib.hid (flush_i p1 p6 hCB hone HPO.out (by omega) (by omega))
    clear hf hCB hE hW HF HO hB2 hl ho
    generalize hS9 : flF S ms.length = S9 at *
    have HS9 := Lib.hid hS9
    clear hS9
    generalize w1.heap.size = X at *
    have kT9 := Lib.hid kT2
    clear kT2
    go_wp2_with fail
    refine HFL.out.mono ?_; rintro e w3 ⟨rfl, hB3⟩
    have b23 : Below X w2 w3 := hB3.kept.below (Nat.le_refl _) (by omega)
    have hrg : w3.rangeAt X 114 (trC S9) := by
      have h1 := hB3.blk.range (114 + 0) 5
      have h2 := seg_part _ (trC S9) ([Value.slice q1 n1 c1, Value.slice q2 n2 c2, Value.bool bk, Value.bool al] ++ (wI S9.cs ++ dI S9.ds)) 114 0 5 (caA_t (v := f) hB3.wf (rulC_len true ms.length hs ms) hB3.p4) (Nat.le_refl _)
      rw [← caC_t] at h2
      rw [h2] at h1
      exact h1
    have hd5 := HU5.out
    have B3 := Lib.hid (B2.out.trans (b23.mono (by omega)))
    have kT3 := kT9.out.below b23 hs1
    clear hB3 b23
    go_wp2_with (first | (with_reducible refine wpList_load_mid rfl 47 (.tmp 18) rfl X 114 ?_ (trC S9) d5 hrg HU5.out.1 HU5.out.2 ?_ ?_) | (with_reducible refine wpList_storeB rfl 47 (.tmp 4) (.tmp 19) rfl (w.heap.size + 1) 0 (trC S9) ?_ ?_ tr0 47 kT3 ?_ ?_ ?_ ?_))
    all_goals (first | exact (show 0 + (trC S9).length ≤ tr0.length from Nat.le_refl _) | exact isz5t | exact one_tr S9 | rfl | skip)
    intro w6 hB6 hK6
    rw [splice_all tr0 (trC S9) (show (trC S9).length = tr0.length from rfl)] at hB6
    have B6 := Lib.hid (B3.out.trans (hK6.out.below (by omega)))
    go_wp2
    refine bodyPost_ret (results2 (a := 4) (k := 5) (t := 47) (p := ⟨w.heap.size + 1, 0, none⟩) (by kernel_rfl) rfl (HL5.out _ _ _ hB6.out rfl) rfl) rfl ⟨?_, B6.out⟩
    show _ = Ending.returned (.tuple #[.agg (if true = true then trC (flF S ms.length) else tr0).toArray, .bool true])
    rw [if_pos rfl, HS9.out]
    rfl
/-- The dirty lines among the first ones. -/
def dirL (ds : List Bool) : Nat → List Int
  | 0 => []
  | j + 1 => if ds.getD j false then dirL ds j ++ [(j : Int)] else dirL ds j
theorem dirL_len (ds : List Bool) (j : Nat) : (dirL ds j).length ≤ j := by
  induction j with
  | zero => exact Nat.le_refl 0
  | succ j ih =>
    rw [dirL]; split
    · rw [List.length_append, List.length_singleton]; omega
    · omega
def caDirty (hs : List (List Int)) (ms : List Int) (bk al : Bool) (xs : List (Int × Int)) : List Int := if caO hs ms xs then dirL (caR hs ms bk al xs xs.length).ds 16 else []
theorem und16 : Try.prog.underlying 76 = some (.array 16 4) := by kernel_rfl
theorem isz16 : (Try.prog.info? 76).map (·.size) = some 16 := by kernel_rfl
theorem run_index16 (w : World) (j : Nat) (hj : j < 16) (ds : List Bool) (hd : ds.length = 16) :
    (Instr.index 76 (.agg (dI ds).toArray) (.int .i64 (j : Nat))).run Try.prog w = .ok (.bool (ds.getD j false)) w := by
  have hu := run_underlying und16 w
  have hz := Try.sizeOf4 w
  have ha := Try.isAgg4 w
  have hc : (dI ds)[j]? = some (.bool (ds[j]?.getD false)) := by
    unfold dI
    rw [List.getElem?_map, List.getElem?_eq_getElem (by omega)]
    rfl
  simp [Instr.index, asIntOf, hu, hz, part, ha, Result.andThen, hc, hj]
theorem wpList_index16 {ops : Array Oper} {rest : List Oper} {op : Oper} {a : Act} {w : World} {Q : Exit → Act → World → Prop} (hgd : op.guard = none) (x y : Operand) (ho : op.op = .index 76 x y)
    (j : Nat) (hj : j < 16) (ds : List Bool) (hd : ds.length = 16) (hx : a.eval x = .agg (dI ds).toArray) (hy : a.eval y = .int .i64 (j : Nat))
    (h : wpList Try.prog ops Q rest (a.put op.dst (.bool (ds.getD j false))) w) : wpList Try.prog ops Q (op :: rest) a w := by
  refine wpList_plain hgd fun K hK => ?_
  have hr := run_index16 w j hj ds hd
  unfold Oper.wp
  simp [execOp, ho, hx, hy, hr, Result.andThen]
  exact hK _ _ h
set_option maxRecDepth 100000 in
set_option maxHeartbeats 8000000 in
theorem DirtyLines_i {q1 q2 : Option Addr} {n1 c1 n2 c2 : Nat} {bk al : Bool} {hs : List (List Int)} {ms : List Int} {w : World} {xs : List (Int × Int)} {a : Option Addr} {c : Nat} (h : RdP w (.agg #[.slice q1 n1 c1, .slice q2 n2 c2]) hs ms) (hx : RowA w a xs) (hxl : xs.length ≤ 1048576) :
    Calls Try.prog 23 #[.agg #[Value.slice q1 n1 c1, Value.slice q2 n2 c2, Value.bool bk, Value.bool al], .slice a xs.length c] w (ResCW (caDirty hs ms bk al xs) (caO hs ms xs) w) := by
  have hpo : ∀ u ∈ [Value.slice q1 n1 c1, Value.slice q2 n2 c2, Value.bool bk, Value.bool al], u.oneCell' = true := fun u hu => by
    simp only [List.mem_cons, List.not_mem_nil, or_false] at hu
    rcases hu with rfl | rfl | rfl | rfl <;> rfl
  have b0 := (Below.refl w.heap.size w).alloc (Nat.le_refl _) (.cells #[Value.slice q1 n1 c1, Value.slice q2 n2 c2, Value.bool bk, Value.bool al] 35)
  have hsz : (w.alloc (.cells #[Value.slice q1 n1 c1, Value.slice q2 n2 c2, Value.bool bk, Value.bool al] 35)).heap.size = w.heap.size + 1 := Array.size_push _
  have HR := Lib.hid ((runC_i (bk := bk) (al := al) (c := c) (rdP_below h b0) (hx.below b0) hxl).mono (R' := RunCF (caO hs ms xs) [Value.slice q1 n1 c1, Value.slice q2 n2 c2, Value.bool bk, Value.bool al] hs ms (caR hs ms bk al xs xs.length) (w.alloc (.cells #[Value.slice q1 n1 c1, Value.slice q2 n2 c2, Value.bool bk, Value.bool al] 35))) fun e w' hh => RunC.form hh rfl hpo)
  have HPA := Lib.hid (fun (hh : caO hs ms xs = true) => caO_parts hh)
  have hS0 := caR_f hs ms bk al xs xs.length
  unfold RunCF at HR
  unfold caDirty ResCW
  have HPO := Lib.hid hpo
  clear h hx hpo
  generalize caR hs ms bk al xs xs.length = S at *
  generalize caO hs ms xs = ok at *
  generalize xs.length = N at *
  go_enter Try.func23, Try.ntmps23
  go_wp2_with fail
  refine HR.out.mono ?_; rintro e w1 ⟨EL, f, rfl, hl, ho, h64, hO, hB, hF⟩
  have B1 := Lib.hid (b0.trans (hB.mono (by omega)))
  have hs1 := hB.size
  have HO := Lib.hid hO
  have HF := Lib.hid hF
  clear hB b0 HR hO hF
  go_wp2_with (with_reducible refine wpList_storeB rfl 78 (.tmp 6) (.tmp 15) rfl w1.heap.size 0 EL ?_ ?_ z203 78 ?_ ?_ ?_ ?_ ?_)
  all_goals (first | exact Blk.newAt w1 _ z203 _ rfl | (rw [hl, z203_len]; decide) | (rw [hl]; exact isz203) | exact ho | rfl | skip)
  intro w2 hB2 hK2
  rw [splice_all _ _ (by rw [hl, z203_len])] at hB2
  have b12 : Below w1.heap.size w1 w2 := ((Below.refl w1.heap.size w1).alloc (Nat.le_refl _) _).trans (hK2.out.below (Nat.le_refl _))
  have hz2 : w2.heap.size = w1.heap.size + 1 := by rw [hK2.out.size]; exact Array.size_push _
  have hO2 := HO.out.below b12 (Nat.le_refl _)
  have B2 := Lib.hid (B1.out.trans (b12.mono (by omega)))
  have c64 : w2.cell? ⟨w1.heap.size, 64, none⟩ = some f := (hB2.out.cell 64).trans h64
  clear b12 h64 hK2 B1 HO
  cases ok
  · clear c64 hO2 HF
    go_wp2
    go_ret2
    exact ⟨_, rfl, OwnW.nil _ _, B2.out⟩
  · obtain ⟨hE, hW⟩ := HF.out rfl
    have hrg : w2.rangeAt w1.heap.size 187 (dI S.ds) := by
      have h1 := hB2.out.range (187 + 0) 16
      have h2 := seg_part _ (dI S.ds) [] 187 0 16 (caA_d (v := f) (pv := [Value.slice q1 n1 c1, Value.slice q2 n2 c2, Value.bool bk, Value.bool al]) hW (rulC_len true ms.length hs ms) rfl) (by rw [dI_len, hW.ds]; decide)
      have h3 : (dI S.ds).take 16 = dI S.ds := List.take_of_length_le (by rw [dI_len, hW.ds]; decide)
      rw [← caC_d, List.drop_zero, h3] at h2
      rw [hE] at h1
      rw [h2] at h1
      exact h1
    have hds := hW.ds
    have hdl : (dI S.ds).length = 16 := by rw [dI_len]; exact hds
    have hs2 := B2.out.size
    have HST := Lib.hid (fun j => (show dirL S.ds (j + 1) = if S.ds.getD j false then dirL S.ds j ++ [(j : Int)] else dirL S.ds j from rfl))
    have HDL := Lib.hid (dirL_len S.ds)
    have H0 := Lib.hid (show dirL S.ds 0 = [] from rfl)
    have HEND := Lib.hid (fun (v : Value) (wr : World) (h : Own wr w.heap.size v (dirL S.ds 16)) (hb : Below w.heap.size w wr) => (show ∃ v', Ending.returned (.tuple #[v, .bool true]) = Ending.returned (.tuple #[v', .bool true]) ∧ OwnW wr w.heap.size v' (if true = true then dirL S.ds 16 else []) ∧ Below w.heap.size w wr from ⟨v, rfl, h.weak, hb⟩))
    have hu16 : Try.prog.underlying 76 = _ := und16
    have HDS := Lib.hid hds
    have HN0 := Lib.hid (Own.nil w2 w.heap.size)
    clear hE hW c64 HF hB2 hl ho hO2 HPA HPO
    generalize hDL : dirL S.ds = DL at *
    have HDE := Lib.hid hDL
    clear hDL
    generalize w1.heap.size = X at *
    go_wp2_with (with_reducible refine wpList_load_mid rfl 76 (.tmp 19) rfl X 187 ?_ (dI S.ds) _ hrg und16 ?_ ?_ ?_)
    all_goals (first | rfl | (rw [hdl]; exact isz16) | (have := isz16; simpa [hdl] using this) | skip)
    go_wp2
    go_loopw [8, 9, 10, 21] (fun y _ _ i wr => ∃ (j : Nat) (yv : Value), yv = y ∧ j ≤ 16 ∧ i = .int .i64 j ∧ Hid (Own wr w.heap.size yv (DL j)) ∧ Hid (Below w.heap.size w wr)) (fun _ _ _ i _ => 16 - (intOf i).toNat)
    case atStart => exact ⟨0, _, rfl, Nat.zero_le _, rfl, Lib.hid (by rw [H0.out]; exact HN0.out), B2⟩
    case round =>
      obtain ⟨j, yv, ey, hj, rfl, hoy, hB⟩ := hrel
      subst ey
      have hsz := hB.out.size
      by_cases hlt : j < 16
      · have hji : (j : Int) < 16 := by omega
        have hst := HST.out j
        have hdl2 := HDL.out j
        have hq : (DL j).length + 1 ≤ 1000000000 := by omega
        cases hr : S.ds.getD j false
        · rw [hr, if_neg Bool.false_ne_true] at hst
          have hO2 := Lib.hid (show Own wr w.heap.size yv (DL (j + 1)) from by rw [hst]; exact hoy.out)
          go_wp2_with (refine wpList_index16 rfl (.tmp 20) (.tmp 21) rfl j hlt S.ds HDS.out rfl rfl ?_; rw [hr])
          go_roundw
          case rel => exact ⟨j + 1, _, rfl, by omega, by go_num, hO2, hB⟩
          case measure => simp [intOf]; omega
        · rw [hr, if_pos rfl] at hst
          have hown := hoy.out
          go_wp2_with (first | (refine wpList_index16 rfl (.tmp 20) (.tmp 21) rfl j hlt S.ds HDS.out rfl rfl ?_; rw [hr]) | (at_builtin; refine wpList_app _ rfl _ _ rfl w.heap.size yv (DL j) (j : Int) ?_ ?_ hown hq hsz ?_; rfl; rfl))
          intro v' w3 ho3 hb3
          have hO2 := Lib.hid (show Own w3 w.heap.size v' (DL (j + 1)) from by rw [hst]; exact ho3)
          have hB2 := Lib.hid (hB.out.trans hb3)
          clear ho3 hb3 hown
          go_wp2
          go_roundw
          case rel => exact ⟨j + 1, _, rfl, by omega, by go_num, hO2, hB2⟩
          case measure => simp [intOf]; omega
      · have e : j = 16 := by omega
        subst e
        go_wp2
        go_ret2
        refine ⟨_, rfl, ?_, hB.out⟩
        show OwnW wr _ _ (if true = true then dirL S.ds 16 else [])
        rw [if_pos rfl, HDE.out]
        exact hoy.out.weak
end Go.Proofs.Ytngbddmbmkphcaa.Pv
namespace Go.Proofs.Ytngbddmbmkphcaa
open Go
theorem wpAny_inv {P : Program} {md : Region.Mode} {ops : Array Oper} {Q : Exit → Act → World → Prop} (I : Array Bool → Act → World → Prop) (m : Array Bool → Nat)
    (hm : ∀ listed i, i ∈ Region.ready md ops listed → m (listed.setIfInBounds i true) < m listed)
    (h0 : ∀ listed, m listed = 0 → Region.ready md ops listed = [])
    (hstep : ∀ listed a w, I listed a w → ∀ i ∈ Region.ready md ops listed, wpOp P ops Q i (I (listed.setIfInBounds i true)) a w)
    (hdone : ∀ listed a w, I listed a w → Region.ready md ops listed = [] → Q .normal a w) :
    ∀ (fuel : Nat) (listed : Array Bool) (a : Act) (w : World), m listed ≤ fuel → I listed a w → wpAny P md ops Q fuel listed a w := by
  intro fuel
  induction fuel with
  | zero =>
    intro listed a w hf hI
    have hr := h0 listed (by omega)
    exact ⟨hr, hdone listed a w hI hr⟩
  | succ fuel ih =>
    intro listed a w hf hI
    refine ⟨fun hr => hdone listed a w hI hr, fun i hi => ?_⟩
    exact wpOp_mono (fun a' w' h' => ih _ a' w' (by have := hm listed i hi; omega) h') (hstep listed a w hI i hi)
/-- How many are still to be done. -/
def undone (listed : Array Bool) : Nat := (listed.toList.filter (fun b => !b)).length
theorem count_set : ∀ (l : List Bool) (i : Nat), l.getD i true = false → ((l.set i true).filter (fun b => !b)).length < (l.filter (fun b => !b)).length
  | [], i, h => by simp at h
  | b :: r, 0, h => by
    have : b = false := by simpa using h
    subst this
    simp
  | b :: r, i + 1, h => by
    have ih := count_set r i (by simpa using h)
    cases b
    · simp only [List.set_cons_succ, List.filter_cons, Bool.not_false, if_true, List.length_cons]; omega
    · simpa using ih
theorem ready_undone {md : Region.Mode} {ops : Array Oper} {listed : Array Bool} {i : Nat} (h : i ∈ Region.ready md ops listed) : undone (listed.setIfInBounds i true) < undone listed := by
  unfold Region.ready at h
  rw [List.mem_filter] at h
  have h2 := h.2
  rw [Bool.and_eq_true] at h2
  have h3 : listed.getD i true = false := by simpa using h2.1
  unfold undone
  rw [Array.toList_setIfInBounds]
  refine count_set _ _ ?_
  rw [List.getD_eq_getElem?_getD, Array.getElem?_toList, ← Array.getD_eq_getD_getElem?]
  exact h3
theorem undone_none {md : Region.Mode} {ops : Array Oper} {listed : Array Bool} (h : undone listed = 0) : Region.ready md ops listed = [] := by
  refine List.eq_nil_iff_forall_not_mem.2 fun i hi => ?_
  have := ready_undone hi
  omega
/-- The region's rule. -/
theorem wp_region_inv {P : Program} {ops : Array Oper} {Q : Exit → Act → World → Prop} {id : Nat} {a : Act} {w : World} (hmx : P.follows .mixedOrders = true) (I : Array Bool → Act → World → Prop)
    (hI : I (Array.replicate ops.size false) a w.drew)
    (hstep : ∀ listed a w, I listed a w → ∀ i ∈ Region.ready .any ops listed, wpOp P ops Q i (I (listed.setIfInBounds i true)) a w)
    (hdone : ∀ listed a w, I listed a w → Region.ready .any ops listed = [] → Q .normal a w) : (Code.region id ops true).wp P Q a w :=
  wp_region_any hmx (wpAny_inv I undone (fun _ _ h => ready_undone h) (fun _ h => undone_none h) hstep hdone _ _ _ _ (by
    unfold undone
    refine Nat.le_trans (List.length_filter_le _ _) ?_
    simp) hI)
end Go.Proofs.Ytngbddmbmkphcaa
namespace Go.Proofs.Ytngbddmbmkphcaa.Pv
open Go.RowKit Ac Tr
def OwnB (w : World) (B : Nat) (v : Value) (ds : List Bool) : Prop := w.ownsRow B 4 1 v ds.length (ds.map Value.bool)
def updF {α : Type} (f : Nat → α) (j : Nat) (v : α) (i : Nat) : α := if i = j then v else f i
/-- What the six slices are. -/
def PRm (M B : Nat) (j : Nat) (w : World) (v : Value) : Prop :=
  match j with
  | 0 => Own w B v (List.replicate 64 0)
  | 1 => Own w B v (List.replicate 64 0)
  | 2 => OwnB w B v (List.replicate 16 false)
  | 3 => Own w B v (emptyL M)
  | _ => Own w B v []
theorem OwnB.below {w w' : World} {B : Nat} {v : Value} {ds : List Bool} (h : OwnB w B v ds) {C : Nat} (hb : Below C w w') (hC : w.heap.size ≤ C) : OwnB w' B v ds := by
  refine ⟨h.1, ?_⟩
  rcases h.2 with hn | ⟨g, cap, cur, hv, hg, hh, r⟩
  · exact .inl hn
  · exact .inr ⟨g, cap, cur, hv, hg, by rw [hb.block g (by have := (Array.getElem?_eq_some_iff.1 hh).1; omega)]; exact hh, r⟩
theorem OwnB.mono {w : World} {B B' : Nat} {v : Value} {ds : List Bool} (h : OwnB w B v ds) (hB : B' ≤ B) : OwnB w B' v ds := by
  refine ⟨h.1, ?_⟩
  rcases h.2 with hn | ⟨g, cap, cur, hv, hg, r⟩
  · exact .inl hn
  · exact .inr ⟨g, cap, cur, hv, Nat.le_trans hB hg, r⟩
theorem PRm.below {M B j : Nat} {w w' : World} {v : Value} (h : PRm M B j w v) (hb : Below w.heap.size w w') : PRm M B j w' v := by
  unfold PRm at h ⊢
  split at h
  · exact Own.below h hb (Nat.le_refl _)
  · exact Own.below h hb (Nat.le_refl _)
  · exact OwnB.below h hb (Nat.le_refl _)
  · exact Own.below h hb (Nat.le_refl _)
  · exact Own.below h hb (Nat.le_refl _)
/-- The region's state. -/
structure RegJ (M B : Nat) (d : Nat → Bool) (x : Nat → Value) (w0 w : World) : Prop where
  bl : Below B w0 w
  own : ∀ j, j < 6 → d j = true → PRm M B j w (x j)
  no : ∀ j, j < 6 → d j = false → x j = undef
  lt : ∀ j, j < 6 → ∀ k, (x j).ownBlock = some k → B ≤ k ∧ k < w.heap.size
  sep : ∀ i j, i < 6 → j < 6 → i ≠ j → ∀ k, (x i).ownBlock = some k → (x j).ownBlock ≠ some k
theorem RegJ.put {M B : Nat} {d : Nat → Bool} {x : Nat → Value} {w0 w w' : World} (h : RegJ M B d x w0 w) (hB : B ≤ w.heap.size) (j : Nat) (hb : Below w.heap.size w w') (v : Value) (hv : PRm M B j w' v) (hl : ∀ k, v.ownBlock = some k → w.heap.size ≤ k ∧ k < w'.heap.size) :
    RegJ M B (updF d j true) (updF x j v) w0 w' := by
  have hs := hb.size
  refine ⟨h.bl.trans (hb.mono hB), fun i hi hd => ?_, fun i hi hd => ?_, fun i hi k hk => ?_, fun i i' hi hi' hne k hk hk' => ?_⟩
  · by_cases e : i = j
    · subst e; unfold updF; rw [if_pos rfl]; exact hv
    · unfold updF at hd ⊢
      rw [if_neg e] at hd ⊢
      exact (h.own i hi hd).below hb
  · by_cases e : i = j
    · subst e; unfold updF at hd; rw [if_pos rfl] at hd; cases hd
    · unfold updF at hd ⊢
      rw [if_neg e] at hd ⊢
      exact h.no i hi hd
  · by_cases e : i = j
    · subst e; unfold updF at hk; rw [if_pos rfl] at hk; have := hl k hk; omega
    · unfold updF at hk; rw [if_neg e] at hk; have := h.lt i hi k hk; omega
  · unfold updF at hk hk'
    by_cases e : i = j
    · rw [if_pos e] at hk
      rw [if_neg (by omega)] at hk'
      have h1 := hl k hk; have h2 := h.lt i' hi' k hk'; omega
    · rw [if_neg e] at hk
      by_cases e' : i' = j
      · rw [if_pos e'] at hk'
        have h1 := hl k hk'; have h2 := h.lt i hi k hk; omega
      · rw [if_neg e'] at hk'
        exact h.sep i i' hi hi' hne k hk hk'
def RegX (g : Nat) (d : Nat → Bool) (x : Nat → Value) (b3 b4 b5 b9 b10 b11 : Bool) (v5 v15 v16 v17 v21 v22 : Value) (B : Nat) (w : World) : Prop :=
  (b3 = true → v15 = .pointer (some ⟨g, 0, none⟩)) ∧ (b4 = true → v16 = .pointer (some ⟨g, 0, none⟩)) ∧ (b5 = true → v17 = .pointer (some ⟨g, 0, none⟩)) ∧
  (b9 = true → (∀ j, j < 6 → d j = true) ∧ v21 = .agg #[x 0, x 1, x 2, x 3, x 4, x 5, .int .i64 0, .int .i64 0, .int .i64 0, .int .i64 0, .int .i64 0]) ∧
  (b10 = true → b9 = true ∧ ∃ r, v22 = .pointer (some ⟨r, 0, none⟩) ∧ Blk w r [x 0, x 1, x 2, x 3, x 4, x 5, .int .i64 0, .int .i64 0, .int .i64 0, .int .i64 0, .int .i64 0] 56 ∧ B ≤ r ∧ ∀ j, j < 6 → (x j).ownBlock ≠ some r) ∧
  (b11 = true → b10 = true ∧ v5 = v22)
theorem RegX.put {g : Nat} {d : Nat → Bool} {x : Nat → Value} {b3 b4 b5 b9 b10 b11 : Bool} {v5 v15 v16 v17 v21 v22 : Value} {B : Nat} {w : World} (h : RegX g d x b3 b4 b5 b9 b10 b11 v5 v15 v16 v17 v21 v22 B w) (j : Nat) (hj : j < 6) (hd : d j = false) (v : Value) (w' : World) :
    RegX g (updF d j true) (updF x j v) b3 b4 b5 b9 b10 b11 v5 v15 v16 v17 v21 v22 B w' :=
  have h9 : b9 = true → False := fun e => by have := (h.2.2.2.1 e).1 j hj; rw [hd] at this; cases this
  have h10 : b10 = true → False := fun e => h9 (h.2.2.2.2.1 e).1
  ⟨h.1, h.2.1, h.2.2.1, fun e => (h9 e).elim, fun e => (h10 e).elim, fun e => (h10 (h.2.2.2.2.2 e).1).elim⟩
theorem RegJ.step {M B : Nat} {d : Nat → Bool} {x : Nat → Value} {w0 w w' : World} (h : RegJ M B d x w0 w) (hB : B ≤ w.heap.size) (hb : Below w.heap.size w w') : RegJ M B d x w0 w' :=
  ⟨h.bl.trans (hb.mono hB), fun j hj hd => (h.own j hj hd).below hb, h.no, fun j hj k hk => ⟨(h.lt j hj k hk).1, Nat.lt_of_lt_of_le (h.lt j hj k hk).2 hb.size⟩, h.sep⟩
theorem PRm.form {M B j : Nat} {w : World} {v : Value} (h : PRm M B j w v) : ∃ a n c, v = .slice a n c := by
  unfold PRm at h
  split at h
  · obtain ⟨a, c, e⟩ := Own.form h; exact ⟨a, _, c, e⟩
  · obtain ⟨a, c, e⟩ := Own.form h; exact ⟨a, _, c, e⟩
  · rcases h.2 with ⟨h0, h1⟩ | ⟨g, cap, cur, hv, _⟩
    · exact ⟨none, 0, 0, h0⟩
    · exact ⟨_, _, _, hv⟩
  · obtain ⟨a, c, e⟩ := Own.form h; exact ⟨a, _, c, e⟩
  · obtain ⟨a, c, e⟩ := Own.form h; exact ⟨a, _, c, e⟩
theorem built11 (u0 u1 u2 u3 u4 u5 : Value) (h0 : ∃ a n c, u0 = .slice a n c) (h1 : ∃ a n c, u1 = .slice a n c) (h2 : ∃ a n c, u2 = .slice a n c) (h3 : ∃ a n c, u3 = .slice a n c) (h4 : ∃ a n c, u4 = .slice a n c) (h5 : ∃ a n c, u5 = .slice a n c) :
    Try.prog.built 56 [(0, u0), (1, u1), (2, u2), (3, u3), (4, u4), (5, u5)] = some #[u0, u1, u2, u3, u4, u5, .int .i64 0, .int .i64 0, .int .i64 0, .int .i64 0, .int .i64 0] := by
  obtain ⟨a0, n0, c0, rfl⟩ := h0
  obtain ⟨a1, n1, c1, rfl⟩ := h1
  obtain ⟨a2, n2, c2, rfl⟩ := h2
  obtain ⟨a3, n3, c3, rfl⟩ := h3
  obtain ⟨a4, n4, c4, rfl⟩ := h4
  obtain ⟨a5, n5, c5, rfl⟩ := h5
  kernel_rfl
theorem infoB : (Try.prog.info? 4).map (fun i => (i.zero, i.size, i.bytes)) = some (some (.bool false), 1, 1) := by kernel_rfl
theorem infoB_parts : ∃ i, Try.prog.info? 4 = some i ∧ i.zero = some (.bool false) ∧ i.size = 1 ∧ i.bytes = 1 := by
  have h := infoB
  cases e : Try.prog.info? 4 with
  | none => rw [e] at h; cases h
  | some i =>
    rw [e] at h
    simp at h
    exact ⟨i, rfl, h.1, h.2.1, h.2.2⟩
theorem mk64 (w : World) : ∃ w', (Instr.makeSlice 23 (.int .i64 64) (.int .i64 64)).run Try.prog w = .ok (.slice (some ⟨w.heap.size, 0, none⟩) 64 64) w' ∧ Own w' w.heap.size (.slice (some ⟨w.heap.size, 0, none⟩) 64 64) (List.replicate 64 0) ∧ Below w.heap.size w w' := by
  obtain ⟨i0, hi, hz0, hz1, hz2⟩ := info_parts infoI
  obtain ⟨w', h1, h2, h3⟩ := run_makeSlice_full (P := Try.prog) w w.heap.size 23 2 i0 (.int .i64 0) 1 Try.underlying23 hi hz0 hz1 .i64 .i64 64 (by decide) (by rw [hz2]; decide) (by decide) (Nat.le_refl _)
  have e : (madeCells (Value.int .i64 0).cells (64 * 1)).toList = (List.replicate 64 (0 : Int)).map (Value.int .i64) := by kernel_rfl
  rw [e] at h2
  exact ⟨w', h1, h2, (Below.refl _ w).grown h3 (Nat.le_refl _) (fun k hk => by cases hk)⟩
theorem mkB16 (w : World) : ∃ w', (Instr.makeSlice 54 (.int .i64 16) (.int .i64 16)).run Try.prog w = .ok (.slice (some ⟨w.heap.size, 0, none⟩) 16 16) w' ∧ OwnB w' w.heap.size (.slice (some ⟨w.heap.size, 0, none⟩) 16 16) (List.replicate 16 false) ∧ Below w.heap.size w w' := by
  obtain ⟨i0, hi, hz0, hz1, hz2⟩ := infoB_parts
  obtain ⟨w', h1, h2, h3⟩ := run_makeSlice_full (P := Try.prog) w w.heap.size 54 4 i0 (.bool false) 1 (show Try.prog.underlying 54 = some (TypeDesc.slice 4) by kernel_rfl) hi hz0 hz1 .i64 .i64 16 (by decide) (by rw [hz2]; decide) (by decide) (Nat.le_refl _)
  have e : (madeCells (Value.bool false).cells (16 * 1)).toList = (List.replicate 16 false).map Value.bool := by kernel_rfl
  rw [e] at h2
  exact ⟨w', h1, h2, (Below.refl _ w).grown h3 (Nat.le_refl _) (fun k hk => by cases hk)⟩
end Go.Proofs.Ytngbddmbmkphcaa.Pv
