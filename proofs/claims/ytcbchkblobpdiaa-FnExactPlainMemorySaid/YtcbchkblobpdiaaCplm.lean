/- The program's makeAccesses with the steps of a plain run; runPlain. -/
import Derived.Test.YtcbchkblobpdiaaCplr
import Derived.Test.YtcbchkblobpdiaaCpls
namespace Go.Proofs.Ytcbchkblobpdiaa.Pl
open Go.RowKit Ac Tr
set_option maxRecDepth 100000 in
set_option maxHeartbeats 4000000 in
theorem make_i (Z : Nat) (P : Nat → World → Prop) (a : Option Addr) (c : Nat) (xs : List (Int × Int)) (w : World) (hok : okT xs = true)
    (hrow : ∀ j w', P j w' → RowA w' a xs) (hal : ∀ j w' o, P j w' → P j (w'.alloc o))
    (hrd : ∀ (j : Nat) (w' : World) (ad : Nat), j < xs.length → ad < 64 → (xs.getD j (0, 0)).2 = ad → ¬ (xs.getD j (0, 0)).1 = 1 → P j w' → Calls Try.prog 44 #[.pointer (some ⟨Z, 0, none⟩), .int .i64 ad] w' fun e w2 => e = .returned (.tuple #[]) ∧ P (j + 1) w2)
    (hwr : ∀ (j : Nat) (w' : World) (ad : Nat), j < xs.length → ad < 64 → (xs.getD j (0, 0)).2 = ad → (xs.getD j (0, 0)).1 = 1 → P j w' → Calls Try.prog 45 #[.pointer (some ⟨Z, 0, none⟩), .int .i64 ad, .int .i64 ((j : Int) + 1)] w' fun e w2 => e = .returned (.tuple #[]) ∧ P (j + 1) w2)
    (h0 : P 0 w) :
    Calls Try.prog 43 #[.slice a xs.length c, .func (.func 44) #[.pointer (some ⟨Z, 0, none⟩)] #[], .func (.func 45) #[.pointer (some ⟨Z, 0, none⟩)] #[]] w
      fun e w2 => e = .returned (.tuple #[]) ∧ P xs.length w2 := by
  have hn : xs.length ≤ 60 := okT_len hok
  have HA := Lib.hid (okT_at hok)
  have HRW := Lib.hid hrow
  have HAL := Lib.hid hal
  have HRD := Lib.hid hrd
  have HWR := Lib.hid hwr
  have H0 := Lib.hid h0
  clear hrow hal hrd hwr h0 hok
  unfold RowA at HRW
  generalize hN : xs.length = N at *
  clear hN
  go_enter Try.func43, Try.ntmps43
  go_wp2
  go_loopw [6, 7, 10] (fun _ _ i wr => ∃ j : Nat, j ≤ N ∧ i = .int .i64 j ∧ Hid (P j wr)) (fun _ _ i _ => N - (intOf i).toNat)
  case atStart => exact ⟨0, Nat.zero_le _, rfl, H0⟩
  case round =>
    obtain ⟨j, hj, rfl, hP⟩ := hrel
    by_cases hlt : j < N
    · obtain ⟨b, off, rfl, c1, c2, hbl⟩ := HRW.out j wr hP.out j hlt
      obtain ⟨ad, had, e2⟩ := HA.out j hlt
      have hP2 := Lib.hid (HAL.out j wr (.cells #[.int .i64 (xs.getD j (0, 0)).1, .int .i64 ad] 57) hP.out)
      have hr := Lib.hid (fun h => HRD.out j _ ad hlt had e2 h hP2.out)
      have hw := Lib.hid (fun h => HWR.out j _ ad hlt had e2 h hP2.out)
      rw [e2] at c2
      clear e2
      generalize (xs.getD j (0, 0)).1 = k at *
      by_cases hk : k = 1
      · have hw1 := Lib.hid (hw.out hk)
        clear hr hw hP2
        subst hk
        go_wp2_with (go_at_call 45; (with_reducible refine hw1.out.mono ?_); rintro e w2 ⟨rfl, hP3⟩)
        go_roundw
        case rel => exact ⟨j + 1, by omega, by go_num, hP3⟩
        case measure => simp [intOf]; omega
      · have hr1 := Lib.hid (hr.out hk)
        have hk' : (k == 1) = false := by simp [hk]
        clear hr hw hP2
        go_wp2_with (go_at_call 44; (with_reducible refine hr1.out.mono ?_); rintro e w2 ⟨rfl, hP3⟩)
        go_roundw
        case rel => exact ⟨j + 1, by omega, by go_num, hP3⟩
        case measure => simp [intOf]; omega
    · have e : j = N := by omega
      subst e
      go_wp2
      go_end0
      exact ⟨rfl, hP.out⟩
def z65 : List Value := [.int .i64 0, .int .i64 0, .int .i64 0, .int .i64 0, .int .i64 0, .int .i64 0, .int .i64 0, .int .i64 0, .int .i64 0, .int .i64 0, .int .i64 0, .int .i64 0, .int .i64 0, .int .i64 0, .int .i64 0, .int .i64 0, .int .i64 0, .int .i64 0, .int .i64 0, .int .i64 0, .int .i64 0, .int .i64 0, .int .i64 0, .int .i64 0, .int .i64 0, .int .i64 0, .int .i64 0, .int .i64 0, .int .i64 0, .int .i64 0, .int .i64 0, .int .i64 0, .int .i64 0, .int .i64 0, .int .i64 0, .int .i64 0, .int .i64 0, .int .i64 0, .int .i64 0, .int .i64 0, .int .i64 0, .int .i64 0, .int .i64 0, .int .i64 0, .int .i64 0, .int .i64 0, .int .i64 0, .int .i64 0, .int .i64 0, .int .i64 0, .int .i64 0, .int .i64 0, .int .i64 0, .int .i64 0, .int .i64 0, .int .i64 0, .int .i64 0, .int .i64 0, .int .i64 0, .int .i64 0, .int .i64 0, .int .i64 0, .int .i64 0, .int .i64 0, .slice none 0 0]
theorem z65_pl : z65 = plC (List.replicate 64 0) (.slice none 0 0) := rfl
theorem isz65 : (Try.prog.info? 63).map (·.size) = some 65 := by kernel_rfl
theorem und65 : ∃ d, Try.prog.underlying 63 = some d ∧ d.isRow = true := by
  cases h : Try.prog.underlying 63 with
  | none => exact absurd h (by decide +kernel)
  | some d =>
    refine ⟨d, rfl, ?_⟩
    have e : (Try.prog.underlying 63).map (fun d => d.isRow) = some true := by kernel_rfl
    rw [h] at e
    simpa using e
theorem plC_len (ws : List Int) (v : Value) (h : ws.length = 64) : (plC ws v).length = 65 := by simp [plC, h]
theorem one_plC (ws : List Int) (v : Value) (hv : v.oneCell' = true) : ∀ x ∈ plC ws v, x.oneCell' = true := fun x hx => by
  unfold plC at hx
  rw [List.mem_append] at hx
  rcases hx with h | h
  · obtain ⟨y, _, rfl⟩ := List.mem_map.1 h
    rfl
  · rw [List.mem_singleton] at h; rw [h]; exact hv
theorem splice65 (cs ds : List Value) (h : ds.length = cs.length) : Go.splice cs 0 ds = ds := by
  unfold Go.splice
  rw [Nat.zero_add, h, List.drop_length]; simp
theorem built65 : Try.prog.built 63 [] = some z65.toArray := by kernel_rfl
/-- What runPlain leaves: the cells of a run, and whether the accesses are a trace. -/
def RunR (ok : Bool) (ws rs : List Int) (w : World) (e : Ending) (w' : World) : Prop :=
  (ok = false ∧ e = .returned (.tuple #[.agg z65.toArray, .bool false]) ∧ Below w.heap.size w w') ∨
  (ok = true ∧ ∃ v, e = .returned (.tuple #[.agg (plC ws v).toArray, .bool true]) ∧ Own w' w.heap.size v rs ∧ Below w.heap.size w w' ∧ ws.length = 64)
set_option maxRecDepth 100000 in
set_option maxHeartbeats 8000000 in
theorem run_i (a : Option Addr) (c : Nat) (xs : List (Int × Int)) (w : World) (hn : xs.length ≤ 1048576) (hr : RowA w a xs) :
    Calls Try.prog 30 #[.slice a xs.length c] w (RunR (okT xs) (plW xs xs.length) (plR xs xs.length) w) := by
  obtain ⟨d65, hu65, hd65⟩ := und65
  have HL65 := Lib.hid (fun (w' : World) (b : Nat) (cs : List Value) (h : Blk w' b cs 63) (hc : cs.length = 65) => Blk.loadVar h 63 d65 hu65 hd65 (by rw [hc]; exact isz65))
  have HU := Lib.hid (And.intro hu65 hd65)
  clear hu65 hd65
  have b0 : Below w.heap.size w (w.alloc (.cells z65.toArray 63)) := (Below.refl _ w).alloc (Nat.le_refl _) _
  have BR := Blk.newAt w w.heap.size z65 63 rfl
  have HV := Lib.hid (valid_i a c xs (w.alloc (.cells z65.toArray 63)) hn (hr.below b0))
  cases hok : okT xs
  · rw [hok] at HV
    clear hr
    generalize plW xs xs.length = WS at *
    generalize plR xs xs.length = RS at *
    generalize xs.length = N at *
    go_enter Try.func30, Try.ntmps30
    go_wp2_with fail
    refine HV.out.mono ?_; rintro e w1 ⟨rfl, b1⟩
    have B1 := Lib.hid (bt b0 b1)
    have BR1 := BR.below b1 BR.lt
    clear b0 b1
    have hbd := fun w => run_build (P := Try.prog) w 63 #[] z65.toArray built65
    go_wp2_with (with_reducible refine wpList_storeB rfl 63 (.tmp 2) (.tmp 8) rfl w.heap.size 0 z65 ?_ ?_ z65 63 BR1 ?_ ?_ ?_ ?_)
    · rfl
    · rfl
    · decide
    · exact isz65
    · rw [z65_pl]; exact one_plC _ _ rfl
    intro w5 hBx hKx
    rw [splice65 _ _ rfl] at hBx
    go_wp2
    refine bodyPost_ret (results2 (a := 2) (k := 3) (t := 63) (p := ⟨w.heap.size, 0, none⟩) (by kernel_rfl) rfl (HL65.out _ _ _ hBx.out rfl) rfl) rfl (.inl ⟨rfl, rfl, B1.out.trans (hKx.out.below (Nat.le_refl _))⟩)
  · rw [hok] at HV
    go_enter Try.func30, Try.ntmps30
    go_wp2_with fail
    refine HV.out.mono ?_; rintro e w1 ⟨rfl, b1⟩
    have B1 := Lib.hid (bt b0 b1)
    have BR1 := BR.below b1 BR.lt
    have hs1 : w.heap.size < w1.heap.size := BR1.lt
    have hmf : ∀ (fn : Fn) (first cap : Array Value) (w : World), (Instr.makeFunc fn first cap).run Try.prog w = .ok (.func fn first cap) w := fun _ _ _ _ => rfl
    have HM := Lib.hid (make_i w1.heap.size (fun j w' => PlI w1.heap.size (plW xs j) (plR xs j) w1 w') a c xs (w1.alloc (.cells z65.toArray 63)) hok
      (fun j w' hp => by obtain ⟨v, _, _, h3, _⟩ := hp; exact (hr.below B1.out).below h3)
      (fun j w' o hp => hp.alloc (Nat.le_of_lt hp.lt) o)
      (fun j w' ad hj had e hk hp => by
        have := read_i w1.heap.size (plW xs j) (plR xs j) w1 w' ad hp had (by have := plR_len xs j; omega)
        have e1 : plR xs (j + 1) = plR xs j ++ [(plW xs j).getD ad 0] := by show (if _ then _ else _) = _; rw [if_neg hk, e]; rfl
        have e2 : plW xs (j + 1) = plW xs j := by show (if _ then _ else _) = _; rw [if_neg hk]
        rw [e1, e2]; exact this)
      (fun j w' ad hj had e hk hp => by
        have := write_i w1.heap.size (plW xs j) (plR xs j) w1 w' ad ((j : Int) + 1) hp had
        have e1 : plR xs (j + 1) = plR xs j := by show (if _ then _ else _) = _; rw [if_pos hk]
        have e2 : plW xs (j + 1) = (plW xs j).set ad ((j : Int) + 1) := by show (if _ then _ else _) = _; rw [if_pos hk, e]; rfl
        rw [e1, e2]; exact this)
      ⟨.slice none 0 0, Blk.newAt _ _ _ _ rfl, Own.nil _ _, (Below.refl _ w1).alloc (Nat.le_refl _) _, by simp [plW]⟩)
    have HPL := plW_len xs xs.length
    clear b0 b1 hr
    generalize plW xs xs.length = WS at *
    generalize plR xs xs.length = RS at *
    generalize xs.length = N at *
    go_wp2_with fail
    refine HM.out.mono ?_; rintro e w2 ⟨rfl, v, k1, k2, k3, _⟩
    obtain ⟨va, vc, hv⟩ := Own.form k2
    have hone : v.oneCell' = true := by rw [hv]; rfl
    have BR2 := BR1.below k3 hs1
    have B2 := Lib.hid (bt B1.out k3)
    have o2 := Lib.hid (k2.mono (B' := w.heap.size) (by omega))
    have hne : ∀ k, v.ownBlock = some k → k ≠ w.heap.size := fun k hk => by have := (Own.block k2 k hk).1; omega
    clear hv k2 HM
    go_wp2_with (first | (with_reducible refine wpList_loadB rfl 63 (.tmp 4) rfl w1.heap.size ?_ (plC WS v) 63 k1 d65 HU.out.1 HU.out.2 ?_ ?_) | (with_reducible refine wpList_storeB rfl 63 (.tmp 2) (.tmp 13) rfl w.heap.size 0 (plC WS v) ?_ ?_ z65 63 BR2 ?_ ?_ ?_ ?_))
    · rfl
    · rw [plC_len _ _ HPL]; exact isz65
    · rw [plC_len _ _ HPL]; decide
    · rw [plC_len _ _ HPL]; exact isz65
    · exact one_plC _ _ hone
    intro w5 hBx hKx
    rw [splice65 _ _ (by rw [plC_len _ _ HPL]; rfl)] at hBx
    have ox := Lib.hid (o2.out.kept (row := some w.heap.size) ⟨hKx.out.os, hKx.out.tape, hKx.out.output, Nat.le_of_eq hKx.out.size.symm, fun k _ hk => hKx.out.block k (fun e => hk (by rw [e]))⟩ (fun k hk e => hne k hk (by injection e)))
    go_wp2
    refine bodyPost_ret (results2 (a := 2) (k := 3) (t := 63) (p := ⟨w.heap.size, 0, none⟩) (by kernel_rfl) rfl (HL65.out _ _ _ hBx.out (plC_len _ _ HPL)) rfl) rfl (.inr ⟨rfl, v, rfl, ox.out, B2.out.trans (hKx.out.below (Nat.le_refl _)), HPL⟩)
end Go.Proofs.Ytcbchkblobpdiaa.Pl
