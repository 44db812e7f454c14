/- Runs of a policy: what is at each age after the uses so far. The program's runUses, with the closure of MissesOf$1. The program's MissesOf. Both TreePolicy. Numbers of ways; the variable of a result that is a policy. The program's policyOf with one more function value. The program's policyOf with one more function value. Two known policies that the program returns. -/
import Derived.Test.YtfjaaoogbjcgaaaCstepI
import Derived.Test.YtfjaaoogbjcgaaaCpof
import Derived.Test.YtfjaaoogbjcgaaaCappg
namespace Go.Proofs.Ytfjaaoogbjcgaaa.Pv
open Go.RowKit
/-- What is at each age after j uses. -/
def kK (hs : List (List Int)) (ms xs : List Int) : Nat → Nat → Int
  | 0 => fun _ => -1
  | j + 1 => stN hs ms (kK hs ms xs j) (xs.getD j 0)
def oldK (hs : List (List Int)) (ms xs : List Int) (j : Nat) : Int := kK hs ms xs j (ms.length - 1)
def hitK (hs : List (List Int)) (ms xs : List Int) (j : Nat) : Bool := hitB ms.length (kK hs ms xs j) (xs.getD j 0)
/-- What a call of the closure leaves. -/
def Told (Val : Nat → Value → World → Prop) (T : TypeId) (Z bq j : Nat) (y : Value) (w : World) (e : Ending) (w' : World) : Prop :=
  e = .returned (.tuple #[]) ∧ ∃ y', Blk w' bq [y'] T ∧ Val (j + 1) y' w' ∧ y'.ownBlock ≠ some bq ∧ Below Z w w' ∧ (∀ k, k < w.heap.size → k ≠ bq → y.ownBlock ≠ some k → w'.heap[k]? = w.heap[k]?) ∧ (∀ k, y'.ownBlock = some k → y.ownBlock = some k ∨ w.heap.size ≤ k)
/-- What the run leaves. -/
def RanP (Val : Nat → Value → World → Prop) (T : TypeId) (Z bq N : Nat) (xs : List Int) (w : World) (e : Ending) (w' : World) : Prop :=
  ∃ v y, e = .returned (.tuple #[v, .bool true]) ∧ OwnW w' Z v xs ∧ Blk w' bq [y] T ∧ Val N y w' ∧ y.ownBlock ≠ some bq ∧ (∀ k, v.ownBlock = some k → w.heap.size ≤ k ∧ y.ownBlock ≠ some k) ∧ Below Z w w'
theorem Blk.sameB {w w' : World} {b : Nat} {cs : List Value} {t : TypeId} (h : Blk w b cs t) (he : w'.heap[b]? = w.heap[b]?) : Blk w' b cs t := he.trans h
theorem one_six (k : Nat → Int) : ∀ v ∈ six6 k, v.oneCell' = true := fun v hv => by
  unfold six6 at hv
  simp at hv
  rcases hv with rfl | rfl | rfl | rfl | rfl | rfl <;> rfl
end Go.Proofs.Ytfjaaoogbjcgaaa.Pv
namespace Go.Proofs.Ytfjaaoogbjcgaaa.Pv
open Go.RowKit
set_option maxHeartbeats 4000000 in
set_option maxRecDepth 100000 in
theorem run_M {v : Value} {hs : List (List Int)} {ms xs : List Int} (Val : Nat → Value → World → Prop) (w0 w : World) (bq : Nat) (y0 : Value) (sl : Option Addr) (sc : Nat) (h : RdP w0 v hs ms) (hx : Rd w0 (.slice sl xs.length sc) xs) (hb0 : Below w0.heap.size w0 w) (hok : isP hs ms = true) (hu : Tr.okU xs = true)
    (hV : ∀ j y w w', Val j y w → (∀ k, y.ownBlock = some k → w'.heap[k]? = w.heap[k]?) → Val j y w') (hVb : ∀ j y w, Val j y w → ∀ k, y.ownBlock = some k → k < w.heap.size)
    (hbq : w0.heap.size ≤ bq) (hq0 : Blk w bq [y0] 2) (hv0 : Val 0 y0 w) (hy0 : y0.ownBlock ≠ some bq)
    (HT : ∀ j w' y, j < xs.length → Blk w' bq [y] 2 → Val j y w' → y.ownBlock ≠ some bq → w0.heap.size ≤ w'.heap.size → Calls Try.prog 29 #[.int .i64 (oldK hs ms xs j), .bool (hitK hs ms xs j), .pointer (some ⟨bq, 0, none⟩)] w' (Told Val 2 w0.heap.size bq j y w')) :
    Calls Try.prog 28 #[v, .slice sl xs.length sc, .func (.func 29) #[] #[.pointer (some ⟨bq, 0, none⟩)]] w (RanP Val 2 w0.heap.size bq xs.length (rowL ms.length (kK hs ms xs xs.length)) w) := by
  obtain ⟨a, c, a', c', rfl, h1, h2, h3, h4, h5⟩ := h
  obtain ⟨a3, c3, e3, hxc, hxm, hxr⟩ := hx
  injection e3 with e4 e5 e6
  subst e4 e6
  have hn := Tr.okU_len hu
  have hw0 := hb0.size
  have b0 := (Below.refl w.heap.size w).alloc (Nat.le_refl _) (.cells #[.slice a hs.length c, .slice a' ms.length c'] 32)
  have HR := Lib.hid (rules_any (w := w.alloc (.cells #[.slice a hs.length c, .slice a' ms.length c'] 32)) ⟨a, c, a', c', rfl, (h1.below hb0).below b0, h2, (h3.below hb0).below b0, h4, h5⟩)
  unfold RulR at HR
  have HL := Lib.hid (rulC_len (isP hs ms) ms.length hs ms)
  have H1 := Lib.hid (one_rulC (isP hs ms) ms.length hs ms)
  have HC := Lib.hid (show (rulC (isP hs ms) ms.length hs ms)[0]? = some (.int .i64 ms.length) by rw [hok]; rfl)
  have HU := Lib.hid (fun (w' : World) (hb : Below w0.heap.size w0 w') => show Calls Try.prog 17 #[.slice sl xs.length sc] w' (Bl true w') from hu ▸ Tr.uses_i sl sc xs w' (by omega) (hxr.below hb))
  have HUSE := Lib.hid (fun (k : Nat → Int) (x : Int) (w' : World) => (show Calls Try.prog 44 #[.agg (rulC (isP hs ms) ms.length hs ms).toArray, .agg (six6 k).toArray, .int .i64 x] w' (RetB (.tuple #[.agg #[.int .i64 (stN hs ms k x 0), .int .i64 (stN hs ms k x 1), .int .i64 (stN hs ms k x 2), .int .i64 (stN hs ms k x 3), .int .i64 (stN hs ms k x 4), .int .i64 (stN hs ms k x 5)], .bool (hitB ms.length k x)]) w') from by rw [hok]; exact use_any hs ms hok k x w'))
  obtain ⟨hp1, hp6⟩ : 1 ≤ ms.length ∧ ms.length ≤ 6 := by unfold isP at hok; simp only [Bool.and_eq_true, decide_eq_true_eq] at hok; omega
  have HK0 := Lib.hid (show kK hs ms xs 0 = fun _ => -1 from rfl)
  have HKS := Lib.hid (fun j => show kK hs ms xs (j + 1) = stN hs ms (kK hs ms xs j) (xs.getD j 0) from rfl)
  have HOL := Lib.hid (fun j => show oldK hs ms xs j = kK hs ms xs j (ms.length - 1) from rfl)
  have HHI := Lib.hid (fun j => show hitK hs ms xs j = hitB ms.length (kK hs ms xs j) (xs.getD j 0) from rfl)
  have HFI := Lib.hid (fun (k : Nat → Int) (w' : World) => (show Calls Try.prog 40 #[.agg (six6 k).toArray, .int .i64 ((ms.length : Nat) : Int)] w' (fun e' w9 => ∃ v', e' = .returned v' ∧ OwnW w9 w'.heap.size v' (rowL ms.length k) ∧ (∀ q, v'.ownBlock = some q → q = w'.heap.size) ∧ w'.alloc (.cells (c6 (k 0) (k 1) (k 2) (k 3) (k 4) (k 5)) 56) = w9) from
    (first_i ms.length hp1 hp6 _ _ _ _ _ _ w').mono fun e w9 ⟨he, hw⟩ => ⟨_, he, by rw [← hw]; exact first_row ms.length hp6 _ w' 56, fun q hq => by injection hq with hq; exact hq.symm, hw⟩))
  have HE6 := Lib.hid (fun (w' : World) => empty6_i w')
  unfold six at HE6
  have HHV := Lib.hid hV
  have HHB := Lib.hid hVb
  have HTT := Lib.hid HT
  have HXR := Lib.hid hxr
  unfold Row at HXR
  obtain ⟨d43, hu43, hd43⟩ := und43
  have HU4 := Lib.hid (And.intro hu43 hd43)
  obtain ⟨d6, hu6, hd6⟩ := und6
  have HU6 := Lib.hid (And.intro hu6 hd6)
  have HB0 := Lib.hid hb0
  have HQ0 := Lib.hid hq0
  have HV0 := Lib.hid hv0
  clear h1 h3 h5 hxc hxm hxr hu43 hd43 hu6 hd6 hu hV hVb HT hb0 hq0 hv0 b0
  generalize hKK : kK hs ms xs = KK at *
  generalize hOK : oldK hs ms xs = OK at *
  generalize hHK : hitK hs ms xs = HK at *
  clear hKK hOK hHK
  generalize rulC (isP hs ms) ms.length hs ms = rc at *
  rw [hok] at HR
  clear hok
  generalize hs.length = NH at *
  generalize hM : ms.length = M at *
  clear hM
  generalize hN : xs.length = N at *
  clear hN
  go_enter Try.func28, Try.ntmps28
  go_wp2_with fail
  refine HR.out.mono ?_; rintro e w1 ⟨rfl, b1⟩
  have B1 := Lib.hid (show Below w.heap.size w w1 from bt ((Below.refl w.heap.size w).alloc (Nat.le_refl _) _) b1)
  have sw1 : w.heap.size < w1.heap.size := Nat.lt_of_lt_of_le (by simp) b1.size
  clear b1
  go_wp2_with (with_reducible refine wpList_storeB rfl 74 (.tmp 8) (.tmp 18) rfl w1.heap.size 0 rc ?_ ?_ z43 74 ?_ ?_ ?_ ?_ ?_)
  · rfl
  · rfl
  · exact Blk.newAt _ _ _ _ rfl
  · rw [HL.out]; decide
  · rw [HL.out]; exact isz43
  · exact H1.out
  intro w2 hB2 hK
  rw [splice_all _ _ HL.out] at hB2
  have hb2 : Below w.heap.size w w2 := (B1.out.alloc (B1.out.size) _).trans (hK.out.below B1.out.size)
  have HBW := Lib.hid hb2
  have HX := Lib.hid hB2
  clear hb2 hK HR B1
  have HUW := Lib.hid (HU.out w2 (HB0.out.trans (HBW.out.mono hw0)))
  go_wp2_with (first | (go_at_call 17; (with_reducible refine HUW.out.mono ?_); rintro e w3 ⟨rfl, rfl⟩))
  refine (HE6.out w2).mono ?_; rintro e w3 ⟨rfl, b3⟩
  have HX3 := Lib.hid (HX.out.below b3 HX.out.lt)
  have HBW3 := Lib.hid (bt HBW.out b3)
  have hB2 := HX.out.lt
  have s3 := b3.size
  clear b3 HX HBW HUW
  have hX4 := HX3.out.alloc (.cells #[.int .i64 (-1), .int .i64 (-1), .int .i64 (-1), .int .i64 (-1), .int .i64 (-1), .int .i64 (-1)] 77)
  have hC4 : Blk (w3.alloc (.cells #[.int .i64 (-1), .int .i64 (-1), .int .i64 (-1), .int .i64 (-1), .int .i64 (-1), .int .i64 (-1)] 77)) w3.heap.size (six6 (fun _ => -1)) 77 := Blk.newAt w3 _ (six6 (fun _ => -1)) _ rfl
  have hW4 := bt HBW3.out ((Below.refl w3.heap.size w3).alloc (Nat.le_refl _) (.cells #[.int .i64 (-1), .int .i64 (-1), .int .i64 (-1), .int .i64 (-1), .int .i64 (-1), .int .i64 (-1)] 77))
  have hz4 : (w3.alloc (.cells #[.int .i64 (-1), .int .i64 (-1), .int .i64 (-1), .int .i64 (-1), .int .i64 (-1), .int .i64 (-1)] 77)).heap.size = w3.heap.size + 1 := Array.size_push _
  have HX4 := Lib.hid hX4
  have HC4 := Lib.hid hC4
  have HW4 := Lib.hid hW4
  clear hX4 hC4 hW4 HX3 HBW3
  go_wp2_with fail
  have hXlt : w1.heap.size < w3.heap.size := Nat.lt_of_lt_of_le hB2 s3
  have hqw := HQ0.out.lt
  generalize (w3.alloc (.cells #[.int .i64 (-1), .int .i64 (-1), .int .i64 (-1), .int .i64 (-1), .int .i64 (-1), .int .i64 (-1)] 77)) = w4 at *
  clear hz4
  go_loopw [30] (fun i wr => ∃ (j : Nat) (y : Value), j ≤ N ∧ i = .int .i64 j ∧ Hid (Blk wr w1.heap.size rc 74) ∧ Hid (Blk wr w3.heap.size (six6 (KK j)) 77) ∧ Hid (Blk wr bq [y] 2) ∧ Hid (Val j y wr) ∧ Hid (y.ownBlock ≠ some bq ∧ y.ownBlock ≠ some w1.heap.size ∧ y.ownBlock ≠ some w3.heap.size) ∧ Hid (Below w0.heap.size w0 wr) ∧ Hid (w.heap.size ≤ wr.heap.size) ∧ Hid (Below w0.heap.size w wr)) (fun i _ => N - (intOf i).toNat)
  case atStart =>
    refine ⟨0, y0, Nat.zero_le _, rfl, HX4, ?_, Lib.hid (HQ0.out.below HW4.out hqw), Lib.hid (HHV.out 0 y0 w w4 HV0.out fun k hk => HW4.out.block k (HHB.out 0 y0 w HV0.out k hk)), Lib.hid ⟨hy0, fun e => ?_, fun e => ?_⟩, Lib.hid (HB0.out.trans (HW4.out.mono hw0)), Lib.hid HW4.out.size, Lib.hid (HW4.out.mono hw0)⟩
    · rw [HK0.out]; exact HC4
    · have := HHB.out 0 y0 w HV0.out _ e; omega
    · have := HHB.out 0 y0 w HV0.out _ e; omega
  case round =>
    obtain ⟨j, y, hj, rfl, hX, hCb, hQ, hVl, hny, hBB, hsw, hBz⟩ := hrel
    clear HX4 HC4 HW4 HQ0 HV0 HK0
    by_cases hlt : j < N
    · obtain ⟨b9, off9, rfl, k1, k2⟩ := HXR.out j hlt
      have k3 : wr.cell? ⟨b9, off9 + j, none⟩ = some (.int .i64 (xs.getD j 0)) := (hBB.out.cell (p := ⟨b9, off9 + j, none⟩) k2).trans k1
      have hks := Lib.hid (HKS.out j)
      have hol := Lib.hid (HOL.out j)
      have hhi := Lib.hid (HHI.out j)
      have HTj := Lib.hid (fun w' y' h1 h2 h3 h4 => HTT.out j w' y' hlt h1 h2 h3 h4)
      have hM5 : (M : Int) - 1 < 6 := by omega
      have hM0 : (0 : Int) ≤ (M : Int) - 1 := by omega
      have hM1 : ((M : Int) - 1).toNat = M - 1 := by omega
      clear k1 HKS HOL HHI HTT
      rw [hol.out, hhi.out] at HTj
      obtain ⟨K2, hK2⟩ : ∃ K2, KK (j + 1) = K2 := ⟨_, rfl⟩
      rw [hK2] at hks
      have HK2 := Lib.hid hK2
      clear hK2
      generalize xs.getD j 0 = x at *
      have HUX := Lib.hid (HUSE.out (KK j) x wr)
      have hck := Lib.hid (six6_get (KK j) (M - 1) (by omega))
      rw [← hks.out] at HUX
      have HC6 := Lib.hid (show (six6 (KK j)).length = 6 from rfl)
      have HC62 := Lib.hid (show (six6 K2).length = 6 from rfl)
      generalize hitB M (KK j) x = hb at *
      generalize KK j (M - 1) = old at *
      generalize six6 (KK j) = CK at *
      go_wp2_with (first | (with_reducible refine wpList_loadB rfl 74 (.tmp 8) rfl w1.heap.size ?_ rc 74 hX.out d43 HU4.out.1 HU4.out.2 ?_ ?_) | (with_reducible refine wpList_loadB rfl 77 (.tmp 10) rfl w3.heap.size ?_ CK 77 hCb.out d6 HU6.out.1 HU6.out.2 ?_ ?_))
      · rfl
      · rw [HL.out]; exact isz43
      · rw [HC6.out]; exact isz6c
      refine HUX.out.mono ?_; rintro e w5 ⟨rfl, b5⟩
      have hX5 := hX.out.below b5 hX.out.lt
      have hC5 := hCb.out.below b5 hCb.out.lt
      have d0 : w5.cell? ⟨w1.heap.size, 0, none⟩ = some (.int .i64 M) := (hX5.cell 0).trans HC.out
      have d1 : w5.cell? ⟨w3.heap.size, M - 1, none⟩ = some (.int .i64 old) := (hC5.cell (M - 1)).trans hck.out
      have l0 := hX5.lt
      have l1 := hC5.lt
      have BQ5 := Lib.hid (hQ.out.below b5 hQ.out.lt)
      have BV5 := Lib.hid (HHV.out j y wr w5 hVl.out fun k hk => b5.block k (HHB.out j y wr hVl.out k hk))
      have BX5 := Lib.hid hX5
      have BC5 := Lib.hid hC5
      have ly := Lib.hid (fun k hk => HHB.out j y wr hVl.out k hk)
      have B5 := Lib.hid (hBB.out.trans (b5.mono hBB.out.size))
      have Bz5 := Lib.hid (hBz.out.trans (b5.mono hBB.out.size))
      have sw5 := Lib.hid (Nat.le_trans hsw.out b5.size)
      have s5 := Lib.hid b5.size
      clear hX5 hC5 hX hCb hQ hVl hBz hsw b5 HUX
      go_wp2_with fail
      have w6z : (w5.alloc (.cells #[.int .i64 (K2 0), .int .i64 (K2 1), .int .i64 (K2 2), .int .i64 (K2 3), .int .i64 (K2 4), .int .i64 (K2 5)] 77)).heap.size = w5.heap.size + 1 := Array.size_push _
      have hA6 : Blk (w5.alloc (.cells #[.int .i64 (K2 0), .int .i64 (K2 1), .int .i64 (K2 2), .int .i64 (K2 3), .int .i64 (K2 4), .int .i64 (K2 5)] 77)) w5.heap.size (six6 K2) 77 := Blk.newAt w5 _ (six6 K2) _ rfl
      have hX6 := BX5.out.alloc (.cells #[.int .i64 (K2 0), .int .i64 (K2 1), .int .i64 (K2 2), .int .i64 (K2 3), .int .i64 (K2 4), .int .i64 (K2 5)] 77)
      have hC6 := BC5.out.alloc (.cells #[.int .i64 (K2 0), .int .i64 (K2 1), .int .i64 (K2 2), .int .i64 (K2 3), .int .i64 (K2 4), .int .i64 (K2 5)] 77)
      have hQ6 := BQ5.out.alloc (.cells #[.int .i64 (K2 0), .int .i64 (K2 1), .int .i64 (K2 2), .int .i64 (K2 3), .int .i64 (K2 4), .int .i64 (K2 5)] 77)
      have b6 : Below w5.heap.size w5 (w5.alloc (.cells #[.int .i64 (K2 0), .int .i64 (K2 1), .int .i64 (K2 2), .int .i64 (K2 3), .int .i64 (K2 4), .int .i64 (K2 5)] 77)) := (Below.refl _ w5).alloc (Nat.le_refl _) _
      have hyl5 := fun k hk => Nat.lt_of_lt_of_le (ly.out k hk) s5.out
      have hV6 := HHV.out j y w5 _ BV5.out fun k hk => b6.block k (hyl5 k hk)
      have hB6 := B5.out.trans (b6.mono (Nat.le_trans (Nat.le_trans hw0 sw5.out) (Nat.le_refl _)))
      have hBz6 := Bz5.out.trans (b6.mono (Nat.le_trans (Nat.le_trans hw0 sw5.out) (Nat.le_refl _)))
      clear d0 d1 hck hol hhi
      generalize (w5.alloc (.cells #[.int .i64 (K2 0), .int .i64 (K2 1), .int .i64 (K2 2), .int .i64 (K2 3), .int .i64 (K2 4), .int .i64 (K2 5)] 77)) = w6 at *
      refine (HTj.out w6 y hQ6 hV6 hny.out.1 (by have := sw5.out; omega)).mono ?_
      rintro e w7 ⟨rfl, y', hQ7, hV7, hy7, hB7, hk7, hn7⟩
      have hX7 := Blk.sameB hX6 (hk7 _ (by omega) (fun e => by omega) hny.out.2.1)
      have hC7 := Blk.sameB hC6 (hk7 _ (by omega) (fun e => by omega) hny.out.2.2)
      have hA7 := Blk.sameB hA6 (hk7 _ (by omega) (fun e => by have := hqw; have := sw5.out; omega) (fun e => by have := hyl5 _ e; omega))
      have HX7 := Lib.hid hX7
      have HC7 := Lib.hid hC7
      have HA7 := Lib.hid hA7
      have HQ7 := Lib.hid hQ7
      have HV7 := Lib.hid hV7
      have HB7 := Lib.hid (hB6.trans hB7)
      have HBz7 := Lib.hid (hBz6.trans hB7)
      have HN7 := Lib.hid hn7
      have HY7 := Lib.hid hy7
      have s7 := Lib.hid hB7.size
      have hAC : w5.heap.size ≠ w3.heap.size := by omega
      clear hX7 hC7 hA7 hQ7 hV7 hB7 hk7 hn7 hy7 hX6 hC6 hA6 hQ6 hV6 hB6 hBz6 b6 BX5 BC5 BQ5 BV5 B5 Bz5 HTj
      go_wp2_with (first | (with_reducible refine wpList_loadB rfl 77 (.tmp 13) rfl w5.heap.size ?_ (six6 K2) 77 HA7.out d6 HU6.out.1 HU6.out.2 ?_ ?_) | (with_reducible refine wpList_storeB rfl 77 (.tmp 10) (.tmp 49) rfl w3.heap.size 0 (six6 K2) ?_ ?_ CK 77 HC7.out ?_ ?_ ?_ ?_))
      · rfl
      · rw [HC62.out]; exact isz6c
      · rw [HC62.out, HC6.out]; decide
      · rw [HC62.out]; exact isz6c
      · exact one_six K2
      intro w8 hB8 hK8
      have hB8' := hB8.out
      rw [splice_all _ _ (by rw [HC62.out, HC6.out])] at hB8'
      have HR1 := Lib.hid hB8'
      have HR2 := Lib.hid (hK8.out.blk HX7.out (by omega))
      have hyX : y'.ownBlock ≠ some w1.heap.size := fun e => by
        rcases HN7.out _ e with h | h
        · exact hny.out.2.1 h
        · omega
      have hyC : y'.ownBlock ≠ some w3.heap.size := fun e => by
        rcases HN7.out _ e with h | h
        · exact hny.out.2.2 h
        · omega
      have HR3 := Lib.hid (hK8.out.blk HQ7.out (by have := sw5.out; omega))
      have HR4 := Lib.hid (HHV.out (j + 1) y' w7 w8 HV7.out fun k hk => hK8.out.block k (fun e => hyC (by rw [hk, e])))
      have HR5 := Lib.hid (show y'.ownBlock ≠ some bq ∧ y'.ownBlock ≠ some w1.heap.size ∧ y'.ownBlock ≠ some w3.heap.size from ⟨HY7.out, hyX, hyC⟩)
      have hz0 : w0.heap.size ≤ w3.heap.size := by have := Nat.le_trans hw0 (Nat.le_of_lt sw1); omega
      have HR6 := Lib.hid (HB7.out.trans (hK8.out.below hz0))
      have HR7 := Lib.hid (show w.heap.size ≤ w8.heap.size from by have h1 := hK8.out.size; have h2 := s7.out; have h3 := sw5.out; omega)
      have HR8 := Lib.hid (HBz7.out.trans (hK8.out.below hz0))
      clear hB8 hB8' hK8 HX7 HC7 HA7 HQ7 HV7 HB7 HBz7 HN7 HY7 s7
      go_wp2
      go_roundw
      case rel => exact ⟨j + 1, y', by omega, by go_num, HR2, (by rw [HK2.out]; exact HR1), HR3, HR4, HR5, HR6, HR7, HR8⟩
      case measure => simp [intOf]; omega
    · have e : j = N := by omega
      subst e
      have HC6 := Lib.hid (show (six6 (KK j)).length = 6 from rfl)
      have d0 : wr.cell? ⟨w1.heap.size, 0, none⟩ = some (.int .i64 M) := (hX.out.cell 0).trans HC.out
      have HFK := Lib.hid (HFI.out (KK j) wr)
      have hcw := Lib.hid hCb.out.lt
      generalize six6 (KK j) = CK at *
      clear HTT HKS HOL HHI HUSE
      go_wp2_with (first | (with_reducible refine wpList_loadB rfl 77 (.tmp 10) rfl w3.heap.size ?_ CK 77 hCb.out d6 HU6.out.1 HU6.out.2 ?_ ?_))
      · rfl
      · rw [HC6.out]; exact isz6c
      refine HFK.out.mono ?_; rintro e w5 ⟨v5, rfl, o5, hq5, hw5⟩
      have b5 : Below wr.heap.size wr w5 := by rw [← hw5]; exact (Below.refl _ _).alloc (Nat.le_refl _) _
      have ly := fun k hk => HHB.out j y wr hVl.out k hk
      have R1 := Lib.hid (OwnW.mono o5 hBB.out.size)
      have R2 := Lib.hid (hQ.out.below b5 hQ.out.lt)
      have R3 := Lib.hid (HHV.out j y wr w5 hVl.out fun k hk => b5.block k (ly k hk))
      have R4 := Lib.hid (show ∀ k, v5.ownBlock = some k → w.heap.size ≤ k ∧ y.ownBlock ≠ some k from fun k hk => ⟨by have := hq5 k hk; have := hsw.out; omega, fun e => by have h1 := ly k e; have h2 := hq5 k hk; omega⟩)
      have R5 := Lib.hid (hBz.out.trans (b5.mono hBB.out.size))
      clear b5 hw5 o5 hq5 ly
      go_wp2
      go_ret2
      exact ⟨_, y, rfl, R1.out, R2.out, R3.out, hny.out.1, R4.out, R5.out⟩
end Go.Proofs.Ytfjaaoogbjcgaaa.Pv
namespace Go.Proofs.Ytfjaaoogbjcgaaa.Pv
open Go.RowKit
/-- How many of the first j uses missed. -/
def missN (hs : List (List Int)) (ms xs : List Int) : Nat → Nat
  | 0 => 0
  | j + 1 => missN hs ms xs j + if hitK hs ms xs j then 0 else 1
theorem missN_le (hs : List (List Int)) (ms xs : List Int) (j : Nat) : missN hs ms xs j ≤ j := by
  induction j with
  | zero => simp [missN]
  | succ j ih => rw [missN]; split <;> omega
def valM (hs : List (List Int)) (ms xs : List Int) (j : Nat) (y : Value) (_w : World) : Prop := y = .int .i64 ((missN hs ms xs j : Nat) : Int)
theorem clo_M (hs : List (List Int)) (ms xs : List Int) (Z bq j : Nat) (y : Value) (w : World) (hj : j < 60) (hq : Blk w bq [y] 2) (hv : valM hs ms xs j y w) (hZ : Z ≤ bq) :
    Calls Try.prog 29 #[.int .i64 (oldK hs ms xs j), .bool (hitK hs ms xs j), .pointer (some ⟨bq, 0, none⟩)] w (Told (valM hs ms xs) 2 Z bq j y w) := by
  have hv' : y = .int .i64 ((missN hs ms xs j : Nat) : Int) := hv
  subst hv'
  have hl := missN_le hs ms xs j
  have HS := Lib.hid (show missN hs ms xs (j + 1) = missN hs ms xs j + if hitK hs ms xs j then 0 else 1 from rfl)
  have HQ := Lib.hid hq
  have hc : w.cell? ⟨bq, 0, none⟩ = some (.int .i64 ((missN hs ms xs j : Nat) : Int)) := hq.cell 0
  have hf := hq.froz 0
  have HVD := Lib.hid (fun (w' : World) => show valM hs ms xs (j + 1) (.int .i64 ((missN hs ms xs (j + 1) : Nat) : Int)) w' from rfl)
  unfold Told
  generalize valM hs ms xs = Val at *
  clear hq hv
  generalize missN hs ms xs (j + 1) = K2 at *
  generalize missN hs ms xs j = K at *
  generalize oldK hs ms xs j = o at *
  cases hh : hitK hs ms xs j
  · have e : K2 = K + 1 := by rw [HS.out, hh]; rfl
    subst e
    have HB : Hid (Blk (w.setCell ⟨bq, 0, none⟩ (.int .i64 ((K : Int) + 1))) bq [.int .i64 (((K + 1 : Nat)) : Int)] 2) := by
      show Blk _ _ _ _
      have h := Go.heap_setCell_same w bq 0 _ _ (.int .i64 ((K : Int) + 1)) HQ.out
      unfold Blk
      rw [h]; rfl
    clear HS hh
    go_enter Try.func29, Try.ntmps29
    go_wp2
    go_end0
    refine ⟨rfl, _, HB.out, HVD.out _, (fun e => by cases e), (Below.refl _ _).setCell (p := ⟨bq, 0, none⟩) hZ _, (fun k hk hne _ => Go.heap_setCell_other w ⟨bq, 0, none⟩ k _ hne), (fun k hk => by cases hk)⟩
  · have e : K2 = K := by rw [HS.out, hh]; rfl
    subst e
    clear HS hh
    go_enter Try.func29, Try.ntmps29
    go_wp2
    go_end0
    exact ⟨rfl, _, HQ.out, HVD.out _, (fun e => by cases e), Below.refl _ _, (fun k hk _ _ => rfl), (fun k hk => by cases hk)⟩
/-- What a function leaves that returns a number and whether it succeeded. -/
def IbP (n : Int) (ok : Bool) (w : World) (e : Ending) (w' : World) : Prop := e = .returned (.tuple #[.int .i64 n, .bool ok]) ∧ Below w.heap.size w w'
theorem RdP.below {w w' : World} {v : Value} {hs : List (List Int)} {ms : List Int} (h : RdP w v hs ms) (hb : Below w.heap.size w w') : RdP w' v hs ms := by
  obtain ⟨a, c, a', c', e, h1, h2, h3, h4, h5⟩ := h
  exact ⟨a, c, a', c', e, h1.below hb, h2, h3.below hb, h4, h5⟩
set_option maxHeartbeats 4000000 in
set_option maxRecDepth 100000 in
/-- A run that fails. -/
theorem run_no {v : Value} {hs : List (List Int)} {ms xs : List Int} (w : World) (fv : Value) (sl : Option Addr) (sc : Nat) (h : RdP w v hs ms) (hx : Rd w (.slice sl xs.length sc) xs) (hxl : xs.length ≤ 1048576) (hno : ¬ (isP hs ms = true ∧ Tr.okU xs = true)) :
    Calls Try.prog 28 #[v, .slice sl xs.length sc, fv] w (fun e w' => e = .returned (.tuple #[.slice none 0 0, .bool false]) ∧ Below w.heap.size w w') := by
  obtain ⟨a, c, a', c', rfl, h1, h2, h3, h4, h5⟩ := h
  obtain ⟨a3, c3, e3, hxc, hxm, hxr⟩ := hx
  injection e3 with e4 e5 e6
  subst e4 e6
  have b0 := (Below.refl w.heap.size w).alloc (Nat.le_refl _) (.cells #[.slice a hs.length c, .slice a' ms.length c'] 32)
  have HR := Lib.hid (rules_any (w := w.alloc (.cells #[.slice a hs.length c, .slice a' ms.length c'] 32)) ⟨a, c, a', c', rfl, h1.below b0, h2, h3.below b0, h4, h5⟩)
  unfold RulR at HR
  have HL := Lib.hid (rulC_len (isP hs ms) ms.length hs ms)
  have H1 := Lib.hid (one_rulC (isP hs ms) ms.length hs ms)
  have HU := Lib.hid (fun (w' : World) (hb : Below w.heap.size w w') => Tr.uses_i sl sc xs w' hxl (hxr.below hb))
  have HNO := Lib.hid hno
  clear h1 h3 h5 hxc hxm hxr hno
  generalize rulC (isP hs ms) ms.length hs ms = rc at *
  generalize isP hs ms = r at *
  generalize Tr.okU xs = ru at *
  generalize hs.length = NH at *
  generalize ms.length = M at *
  generalize xs.length = N at *
  go_enter Try.func28, Try.ntmps28
  go_wp2_with fail
  refine HR.out.mono ?_; rintro e w1 ⟨rfl, b1⟩
  have B1 := Lib.hid (bt b0 b1)
  clear b0 b1
  go_wp2_with (with_reducible refine wpList_storeB rfl 74 (.tmp 8) (.tmp 18) rfl w1.heap.size 0 rc ?_ ?_ z43 74 ?_ ?_ ?_ ?_ ?_)
  · rfl
  · rfl
  · exact Blk.newAt _ _ _ _ rfl
  · rw [HL.out]; decide
  · rw [HL.out]; exact isz43
  · exact H1.out
  intro w2 hB2 hK
  have HBW := Lib.hid ((B1.out.alloc (B1.out.size) _).trans (hK.out.below B1.out.size))
  clear hB2 hK HR B1
  cases r
  · go_wp2
    go_ret2
    exact ⟨rfl, HBW.out⟩
  · have HUW := Lib.hid (HU.out w2 HBW.out)
    cases ru
    · go_wp2_with (go_at_call 17; (with_reducible refine HUW.out.mono ?_); rintro e w3 ⟨rfl, rfl⟩)
      go_ret2
      exact ⟨rfl, HBW.out⟩
    · exact absurd ⟨rfl, rfl⟩ HNO.out
def misOk (hs : List (List Int)) (ms xs : List Int) : Bool := isP hs ms && Tr.okU xs
def misV (hs : List (List Int)) (ms xs : List Int) : Int := if misOk hs ms xs then ((missN hs ms xs xs.length : Nat) : Int) else 0
set_option maxHeartbeats 2000000 in
theorem mis_i {v : Value} {hs : List (List Int)} {ms xs : List Int} {w : World} {a2 : Option Addr} {c2 : Nat} (h : RdP w v hs ms) (hx : Rd w (.slice a2 xs.length c2) xs) (hxl : xs.length ≤ 1048576) :
    Calls Try.prog 11 #[v, .slice a2 xs.length c2] w (IbP (misV hs ms xs) (misOk hs ms xs) w) := by
  have h' := h
  obtain ⟨a, c, a', c', rfl, h1, h2, h3, h4, h5⟩ := h'
  have b1 := ((Below.refl w.heap.size w).alloc (Nat.le_refl _) (.cells #[.slice a hs.length c, .slice a' ms.length c'] 32)).alloc (by simp) (.cells #[.int .i64 0] 2)
  have hz : (w.alloc (.cells #[.slice a hs.length c, .slice a' ms.length c'] 32)).heap.size = w.heap.size + 1 := Array.size_push _
  have bk : Blk ((w.alloc (.cells #[.slice a hs.length c, .slice a' ms.length c'] 32)).alloc (.cells #[.int .i64 0] 2)) (w.heap.size + 1) [.int .i64 0] 2 := Blk.newAt _ _ [.int .i64 0] _ hz.symm
  cases hok : misOk hs ms xs
  · have hno : ¬ (isP hs ms = true ∧ Tr.okU xs = true) := fun hh => by unfold misOk at hok; rw [hh.1, hh.2] at hok; cases hok
    have HRN := Lib.hid (run_no ((w.alloc (.cells #[.slice a hs.length c, .slice a' ms.length c'] 32)).alloc (.cells #[.int .i64 0] 2)) (.func (.func 29) #[] #[.pointer (some ⟨w.heap.size + 1, 0, none⟩)]) a2 c2 (h.below b1) (hx.below b1) hxl hno)
    have e : misV hs ms xs = 0 := by unfold misV; rw [hok]; rfl
    rw [e]
    have HB1 := Lib.hid b1
    have HBK := Lib.hid bk
    clear h h1 h3 h5 hx hno hok e b1 bk hz
    generalize hs.length = NH at *
    generalize ms.length = M at *
    generalize xs.length = N at *
    go_enter Try.func11, Try.ntmps11
    go_wp2_with fail
    refine HRN.out.mono ?_; rintro e w2 ⟨rfl, b2⟩
    have c0 : w2.cell? ⟨w.heap.size + 1, 0, none⟩ = some (.int .i64 0) := (HBK.out.below b2 HBK.out.lt).cell 0
    have HB2 := Lib.hid (bt HB1.out b2)
    clear b2
    go_wp2
    go_ret2
    exact ⟨rfl, HB2.out⟩
  · have hh : isP hs ms = true ∧ Tr.okU xs = true := by unfold misOk at hok; rw [Bool.and_eq_true] at hok; exact hok
    have hn := Tr.okU_len hh.2
    have HRY := Lib.hid (run_M (valM hs ms xs) w ((w.alloc (.cells #[.slice a hs.length c, .slice a' ms.length c'] 32)).alloc (.cells #[.int .i64 0] 2)) (w.heap.size + 1) (.int .i64 0) a2 c2 h hx b1 hh.1 hh.2
      (fun j y w w' hv _ => hv) (fun j y w hv k hk => by have hv' : y = _ := hv; subst hv'; cases hk) (Nat.le_succ _) bk rfl (fun e => by cases e)
      (fun j w' y hj hq hv _ _ => clo_M hs ms xs w.heap.size (w.heap.size + 1) j y w' (by omega) hq hv (Nat.le_succ _)))
    have e : misV hs ms xs = ((missN hs ms xs xs.length : Nat) : Int) := by unfold misV; rw [hok]; rfl
    rw [e]
    have HVE := Lib.hid (fun (y : Value) (w' : World) (hv : valM hs ms xs xs.length y w') => show y = .int .i64 ((missN hs ms xs xs.length : Nat) : Int) from hv)
    unfold RanP at HRY
    clear h h1 h3 h5 hx hh hok e b1 bk hz
    generalize valM hs ms xs = Val at *
    generalize missN hs ms xs xs.length = R at *
    generalize rowL ms.length (kK hs ms xs xs.length) = RW at *
    generalize hs.length = NH at *
    generalize ms.length = M at *
    generalize xs.length = N at *
    go_enter Try.func11, Try.ntmps11
    go_wp2_with fail
    refine HRY.out.mono ?_; rintro e w2 ⟨v2, y2, rfl, _, q2, hv2, _, _, b2⟩
    have ey := HVE.out y2 w2 hv2
    subst ey
    have c0 : w2.cell? ⟨w.heap.size + 1, 0, none⟩ = some (.int .i64 ((R : Nat) : Int)) := q2.cell 0
    have HB2 := Lib.hid (((((Below.refl w.heap.size w).alloc (Nat.le_refl _) (.cells #[.slice a NH c, .slice a' M c'] 32)).alloc (by simp) (.cells #[.int .i64 0] 2))).trans b2)
    clear b2 hv2 q2
    go_wp2
    go_ret2
    exact ⟨rfl, HB2.out⟩
end Go.Proofs.Ytfjaaoogbjcgaaa.Pv
namespace Go.Proofs.Ytfjaaoogbjcgaaa
open Go.RowKit
theorem OwnW.lit (w : World) (xs : List Int) (T : TypeId) (hl : xs.length ≤ 1000) : OwnW (w.alloc (.cells (xs.map (Value.int .i64)).toArray T)) w.heap.size (.slice (some ⟨w.heap.size, 0, none⟩) xs.length xs.length) xs := by
  refine ⟨by rw [List.length_map], .inr ⟨w.heap.size, xs.length, _, T, rfl, Nat.le_refl _, heap_alloc_new w _, Nat.le_refl _, by unfold maxLen; omega, by simp, ?_⟩⟩
  rw [← List.length_map (f := Value.int .i64)]
  exact List.take_length
/-- append of two numbers to a list of the call's own. -/
theorem wpList_appT {ops : Array Oper} {rest : List Oper} {o : Oper} {a : Act} {Q : Exit → Act → World → Prop} (wr : World) (hgd : o.guard = none) (s x : Operand)
    (ho : o.op = .call { callee := .builtin .append, args := #[s, x], argTypes := #[24, 24] })
    (B : Nat) (v : Value) (xs : List Int) (u1 u2 : Int) (hs : a.eval s = v) (hx : a.eval x = .slice (some ⟨wr.heap.size, 0, none⟩) 2 2) (hown : Own wr B v xs)
    (hlen : xs.length + 2 ≤ 1000000000) (hB : B ≤ wr.heap.size)
    (h : ∀ v' w', Own w' B v' (xs ++ [u1, u2]) → Below B wr w' → wpList Try.prog ops Q rest (a.put o.dst v') w') :
    wpList Try.prog ops Q (o :: rest) a (wr.alloc (.cells #[.int .i64 u1, .int .i64 u2] 2)) := by
  obtain ⟨i0, hi, hz0, hz1, hz2⟩ := info_parts infoI
  refine wpList_append_own _ hgd s x 24 ho B 2 i0 (.int .i64 0) 1 8 Try.underlying24 hi hz0 hz1 hz2 rfl (by decide) v xs.length (xs.map (Value.int .i64)) hs (World.ownsRow.alloc hown _)
    ⟨wr.heap.size, 0, none⟩ 2 2 [.int .i64 u1, .int .i64 u2] hx rfl ?_ ?_ ?_ ?_ ?_ ?_
  · intro j u' hj
    match j, hj with
    | 0, hj => simp at hj; subst hj; simp [Addr.add]
    | 1, hj => simp at hj; subst hj; simp [Addr.add]
  · intro u' hu; simp at hu; rcases hu with rfl | rfl <;> rfl
  · unfold maxLen; omega
  · omega
  · simp; omega
  · intro v' w' hown' hgrow _
    refine h v' w' ?_ ?_
    · show World.ownsRow _ _ _ _ _ (xs ++ [u1, u2]).length _
      rw [List.length_append, List.map_append]
      exact hown'
    · exact ((Below.refl B wr).alloc hB _).grown hgrow (by simp; omega) (fun k hk => (Own.block hown k hk).1)
theorem treO_two (j : Nat) (h : j < 4) : bits BinOp.xor IntKind.i64 (j : Int) 1 = treO j 1 ∧ 2 - (j : Int) / 2 * 2 = treO j 2 ∧ 3 - (j : Int) / 2 * 2 = treO j 3 ∧ treO j 0 = (j : Int) := by
  have : j = 0 ∨ j = 1 ∨ j = 2 ∨ j = 3 := by omega
  rcases this with rfl | rfl | rfl | rfl <;> decide
theorem row2 (j : Nat) : [(j : Int), treO j 1] = rowL 2 (treO j) := rfl
theorem row4 (j : Nat) : [(j : Int), treO j 1] ++ [treO j 2, treO j 3] = rowL 4 (treO j) := rfl
/-- The results' variable lies below the policy. -/
theorem ret_pol (Z : Nat) (w' : World) (T : Nat) (v : Value) (hs : List (List Int)) (ms : List Int) (h : OwnP w' (Z + 1) T v hs ms) (u u' : Value) :
    OwnP ((w'.setCell ⟨Z, 0, none⟩ u).setCell ⟨Z, 1, none⟩ u') Z T v hs ms := by
  have hW : ∀ (w : World) (off : Nat) (u : Value), Wr Z (Z + 1) w (w.setCell ⟨Z, off, none⟩ u) := fun w off u => ⟨rfl, rfl, rfl, by simp [World.setCell], fun b hb hr => Below.heap_setCell _ _ _ _ (by show b ≠ Z; omega)⟩
  exact ((h.wr (hW _ 0 u) (.inr (by omega))).wr (hW _ 1 u') (.inr (by omega))).mono (by omega)

/-- A policy that is being made in a variable: its rows so far, and Miss. -/
def PolInv (Z : Nat) (W0 wr : World) (v : Value) (vs : List Value) (hs : List (List Int)) (m : Value) : Prop :=
  Own2W wr (Z + 2) v vs hs ∧ (wr.cell? ⟨Z + 1, 0, none⟩ = some v ∧ wr.cell? ⟨Z + 1, 1, none⟩ = some m ∧ wr.frozen? ⟨Z + 1, 0, none⟩ = false ∧ wr.frozen? ⟨Z + 1, 1, none⟩ = false) ∧ Below (Z + 1) W0 wr ∧ Z + 2 ≤ wr.heap.size
theorem PolInv.cells {Z : Nat} {W0 wr w1 : World} {v m : Value} {vs : List Value} {hs : List (List Int)} (h : PolInv Z W0 wr v vs hs m) (bb : Below wr.heap.size wr w1) :
    w1.cell? ⟨Z + 1, 0, none⟩ = some v ∧ w1.cell? ⟨Z + 1, 1, none⟩ = some m ∧ w1.frozen? ⟨Z + 1, 0, none⟩ = false ∧ w1.frozen? ⟨Z + 1, 1, none⟩ = false ∧ Z + 1 < w1.heap.size := by
  obtain ⟨_, ⟨c0, c1, f0, f1⟩, _, hz⟩ := h
  have hl : Z + 1 < wr.heap.size := by omega
  exact ⟨(bb.cell (p := ⟨Z + 1, 0, none⟩) hl).trans c0, (bb.cell (p := ⟨Z + 1, 1, none⟩) hl).trans c1, (bb.frozen (p := ⟨Z + 1, 0, none⟩) hl).trans f0, (bb.frozen (p := ⟨Z + 1, 1, none⟩) hl).trans f1, Nat.lt_of_lt_of_le hl bb.size⟩
theorem PolInv.app {Z : Nat} {W0 wr w1 : World} {v m u : Value} {vs : List Value} {hs : List (List Int)} {zs : List Int} (h : PolInv Z W0 wr v vs hs m) (bb : Below wr.heap.size wr w1) (hu : OwnW w1 wr.heap.size u zs) :
    Own2W w1 (Z + 2) v vs hs ∧ OwnW w1 (Z + 2) u zs ∧ (∀ i k, i < hs.length → (vs.getD i s0).ownBlock = some k → u.ownBlock ≠ some k) ∧ (∀ k, u.ownBlock = some k → v.ownBlock ≠ some k) ∧ Z + 2 ≤ w1.heap.size := by
  obtain ⟨hO, _, _, hz⟩ := h
  refine ⟨Own2W.below hO bb (Nat.le_refl _), hu.mono hz, fun i k hi hk e => ?_, fun k hk e => ?_, Nat.le_trans hz bb.size⟩
  · have h1 := ((hO.2.2.1 i hi).block k hk).2
    have h2 := (hu.block k e).1
    omega
  · have h1 := (World.ownsRow.lt hO.2.1 k e).2
    have h2 := (hu.block k hk).1
    omega
theorem PolInv.store {Z : Nat} {W0 wr w1 w3 : World} {v v' m : Value} {vs vs' : List Value} {hs hs' : List (List Int)} (h : PolInv Z W0 wr v vs hs m) (bb : Below wr.heap.size wr w1) (ho3 : Own2W w3 (Z + 2) v' vs' hs') (hb3 : Below (Z + 2) w1 w3) :
    (w3.cell? ⟨Z + 1, 0, none⟩ = some v ∧ w3.frozen? ⟨Z + 1, 0, none⟩ = false) ∧ PolInv Z W0 (w3.setCell ⟨Z + 1, 0, none⟩ v') v' vs' hs' m := by
  obtain ⟨c0, c1, f0, f1, hl⟩ := h.cells bb
  have d0 := (hb3.cell (p := ⟨Z + 1, 0, none⟩) (Nat.lt_succ_self (Z + 1))).trans c0
  have d1 := (hb3.cell (p := ⟨Z + 1, 1, none⟩) (Nat.lt_succ_self (Z + 1))).trans c1
  have g0 := (hb3.frozen (p := ⟨Z + 1, 0, none⟩) (Nat.lt_succ_self (Z + 1))).trans f0
  have g1 := (hb3.frozen (p := ⟨Z + 1, 1, none⟩) (Nat.lt_succ_self (Z + 1))).trans f1
  have hW4 : Wr (Z + 1) (Z + 2) w3 (w3.setCell ⟨Z + 1, 0, none⟩ v') := ⟨rfl, rfl, rfl, by simp [World.setCell], fun b hb hr => Below.heap_setCell _ _ _ _ (by show b ≠ Z + 1; omega)⟩
  refine ⟨⟨d0, g0⟩, Own2W.wr ho3 hW4 (fun k hk => (World.ownsRow.lt ho3.2.1 k hk).2) (fun i k hi hk => ((ho3.2.2.1 i hi).block k hk).2) (.inr (Nat.le_refl _)),
    ⟨World.cell?_setCell_same _ _ _ d0, (World.cell?_setCell_other _ _ _ _ (by simp)).trans d1, by simpa using g0, by simpa using g1⟩, ?_, ?_⟩
  · have h2 := h.2.2.1
    have h3 := h.2.2.2
    exact ((h2.trans (bb.mono (by omega))).trans (hb3.mono (by omega))).setCell (p := ⟨Z + 1, 0, none⟩) (Nat.le_refl _) v'
  · have k1 : (w3.setCell ⟨Z + 1, 0, none⟩ v').heap.size = w3.heap.size := by simp [World.setCell]
    have k2 := h.2.2.2
    have k3 := bb.size
    have k4 := hb3.size
    rw [k1]
    omega
/-- The start of a policy in a variable. -/
theorem PolInv.start (Z : Nat) (w : World) (m : Value) (hZ : w.heap.size = Z) (o : Obj) : PolInv Z ((w.alloc o).alloc (.cells #[.slice none 0 0, m] 32)) ((w.alloc o).alloc (.cells #[.slice none 0 0, m] 32)) (.slice none 0 0) [] [] m := by
  subst hZ
  refine ⟨Own2W.nil _ _, ⟨by simp [go_sem], by simp [go_sem], by simp [go_sem], by simp [go_sem]⟩, Below.refl _ _, by simp⟩
/-- The variable of the result. -/
theorem PolInv.res {Z : Nat} {w W0 wr : World} (hZ : w.heap.size = Z) (hb : Below (Z + 1) W0 wr) (hW : Below (Z + 1) (w.alloc (.cells #[.slice none 0 0, .slice none 0 0] 32)) W0) :
    wr.cell? ⟨Z, 0, none⟩ = some (.slice none 0 0) ∧ wr.cell? ⟨Z, 1, none⟩ = some (.slice none 0 0) ∧ wr.frozen? ⟨Z, 0, none⟩ = false ∧ wr.frozen? ⟨Z, 1, none⟩ = false := by
  subst hZ
  have h := hW.trans hb
  have c : ∀ off, wr.cell? ⟨w.heap.size, off, none⟩ = _ := fun off => h.cell (p := ⟨w.heap.size, off, none⟩) (Nat.lt_succ_self _)
  have f : ∀ off, wr.frozen? ⟨w.heap.size, off, none⟩ = _ := fun off => h.frozen (p := ⟨w.heap.size, off, none⟩) (Nat.lt_succ_self _)
  rw [c 0, c 1, f 0, f 1]
  simp [go_sem]
/-- A policy out of its variable: Miss has been stored there, and it goes to the variable of the result. -/
theorem PolInv.done {Z : Nat} {W0 wr w1 : World} {v m u : Value} {vs : List Value} {hs : List (List Int)} {ms : List Int} (h : PolInv Z W0 wr v vs hs m) (bb : Below wr.heap.size wr w1) (hu : OwnW w1 wr.heap.size u ms) (u1 u2 : Value) :
    OwnP (((w1.setCell ⟨Z + 1, 1, none⟩ u).setCell ⟨Z, 0, none⟩ u1).setCell ⟨Z, 1, none⟩ u2) Z (((w1.setCell ⟨Z + 1, 1, none⟩ u).setCell ⟨Z, 0, none⟩ u1).setCell ⟨Z, 1, none⟩ u2).heap.size (.agg #[v, u]) hs ms := by
  obtain ⟨hO, hu2, hfar, hfar2, hz⟩ := h.app bb hu
  have hs1 : (((w1.setCell ⟨Z + 1, 1, none⟩ u).setCell ⟨Z, 0, none⟩ u1).setCell ⟨Z, 1, none⟩ u2).heap.size = w1.heap.size := by simp [World.setCell]
  rw [hs1]
  have hW : ∀ (w : World) (b off : Nat) (u : Value) (_ : Z ≤ b) (_ : b < Z + 2), Wr Z (Z + 2) w (w.setCell ⟨b, off, none⟩ u) := fun w b off u h1 h2 => ⟨rfl, rfl, rfl, by simp [World.setCell], fun b' hb hr => Below.heap_setCell _ _ _ _ (by show b' ≠ b; omega)⟩
  have W1 := ((hW w1 (Z + 1) 1 u (by omega) (by omega)).trans (hW _ Z 0 u1 (by omega) (by omega))).trans (hW _ Z 1 u2 (by omega) (by omega))
  have hv : ∀ k, v.ownBlock = some k → k < w1.heap.size := fun k hk => (World.ownsRow.lt hO.2.1 k hk).2
  have hvs : ∀ i k, i < hs.length → (vs.getD i s0).ownBlock = some k → k < w1.heap.size := fun i k hi hk => ((hO.2.2.1 i hi).block k hk).2
  have hm : ∀ k, u.ownBlock = some k → k < w1.heap.size := fun k hk => (hu2.block k hk).2
  exact OwnP.mono (B := Z + 2) ⟨v, u, vs, rfl, hO.wr W1 hv hvs (.inr (by omega)), hu2.wr W1 hm (.inr (by omega)), fun b hb => ⟨fun e => hfar2 b hb e, fun i hi e => hfar i b hi e hb⟩, hm, hv, hvs⟩ (by omega)

end Go.Proofs.Ytfjaaoogbjcgaaa
namespace Go.Proofs.Ytfjaaoogbjcgaaa
open Go.RowKit
def isW (n : Int) : Bool := decide (1 ≤ n) && decide (n ≤ 6)
theorem between_w (n : Int) (w : World) : Calls Try.prog 30 #[.int .i64 n, .int .i64 1, .int .i64 6] w (Bl (isW n) w) := by
  unfold isW
  by_cases h : 1 ≤ n
  · go_enter Try.func30, Try.ntmps30
    go_wp2
    go_ret
    exact ⟨ret_bool (by simp [h]), rfl⟩
  · go_enter Try.func30, Try.ntmps30
    go_wp2
    go_ret
    exact ⟨ret_bool (by simp; omega), rfl⟩
theorem ways_i (n : Int) (w : World) : Calls Try.prog 25 #[.int .i64 n] w (Bl (isW n) w) := by
  have hI := Lib.hid (between_w n w)
  generalize isW n = b at *
  go_enter Try.func25, Try.ntmps25
  go_wp2_with (go_at_call 30; refine hI.out.mono ?_; rintro e w' ⟨rfl, rfl⟩)
  go_ret
  exact ⟨rfl, rfl⟩
theorem isW_nat {n : Int} (h : isW n = true) : ∃ k : Nat, n = (k : Nat) ∧ 1 ≤ k ∧ k ≤ 6 := by
  unfold isW at h
  simp only [Bool.and_eq_true, decide_eq_true_eq] at h
  exact ⟨n.toNat, by omega, by omega, by omega⟩
theorem resP {w w1 : World} (b1 : Below (w.alloc (.cells #[.slice none 0 0, .slice none 0 0] 32)).heap.size (w.alloc (.cells #[.slice none 0 0, .slice none 0 0] 32)) w1) :
    w1.cell? ⟨w.heap.size, 0, none⟩ = some (.slice none 0 0) ∧ w1.cell? ⟨w.heap.size, 1, none⟩ = some (.slice none 0 0) ∧ w1.frozen? ⟨w.heap.size, 0, none⟩ = false ∧ w1.frozen? ⟨w.heap.size, 1, none⟩ = false :=
  PolInv.res rfl (b1.mono (by simp)) (Below.refl _ _)
theorem belP {w w1 : World} (b1 : Below (w.alloc (.cells #[.slice none 0 0, .slice none 0 0] 32)).heap.size (w.alloc (.cells #[.slice none 0 0, .slice none 0 0] 32)) w1) (u u' : Value) :
    Below w.heap.size w ((w1.setCell ⟨w.heap.size, 0, none⟩ u).setCell ⟨w.heap.size, 1, none⟩ u') :=
  ((((Below.refl w.heap.size w).alloc (Nat.le_refl _) _).trans (b1.mono (by simp))).setCell (p := ⟨w.heap.size, 0, none⟩) (Nat.le_refl _) u).setCell (p := ⟨w.heap.size, 1, none⟩) (Nat.le_refl _) u'
theorem outP {w w1 : World} {v : Value} {hs : List (List Int)} {ms : List Int} (h : OwnP w1 (w.alloc (.cells #[.slice none 0 0, .slice none 0 0] 32)).heap.size w1.heap.size v hs ms) (u u' : Value) :
    OwnP ((w1.setCell ⟨w.heap.size, 0, none⟩ u).setCell ⟨w.heap.size, 1, none⟩ u') w.heap.size ((w1.setCell ⟨w.heap.size, 0, none⟩ u).setCell ⟨w.heap.size, 1, none⟩ u').heap.size v hs ms := by
  have e : ((w1.setCell ⟨w.heap.size, 0, none⟩ u).setCell ⟨w.heap.size, 1, none⟩ u').heap.size = w1.heap.size := by simp [World.setCell]
  rw [e]
  exact ret_pol w.heap.size w1 w1.heap.size v hs ms (h.mono (by simp)) u u'
theorem polP_sum (n : Nat) (o : Nat → Nat → Int) : ∀ j, ((polP n o j).map List.length).sum = j * n
  | 0 => by simp [polP]
  | j + 1 => by
    rw [polP_succ, List.map_append, List.sum_append, polP_sum n o j]
    simp [rowL_len, Nat.add_mul]
theorem pol_bd (n : Nat) (h6 : n ≤ 6) (o : Nat → Nat → Int) (m : Nat → Int) : ((polP n o n).map List.length).sum ≤ 1000 ∧ (rowL n m).length ≤ 1000 := by
  rw [polP_sum, rowL_len]
  have : n = 0 ∨ n = 1 ∨ n = 2 ∨ n = 3 ∨ n = 4 ∨ n = 5 ∨ n = 6 := by omega
  refine ⟨?_, by omega⟩
  rcases this with rfl | rfl | rfl | rfl | rfl | rfl | rfl <;> decide
end Go.Proofs.Ytfjaaoogbjcgaaa
namespace Go.Proofs.Ytfjaaoogbjcgaaa
open Go.RowKit
set_option maxHeartbeats 4000000 in
set_option maxRecDepth 100000 in
theorem policyOf_young (n : Nat) (h1 : 1 ≤ n) (h6 : n ≤ 6) (o : Nat → Nat → Int) (m0 m1 m2 m3 m4 m5 : Int) (hF : ∀ age : Nat, age < n → ∀ w', Calls Try.prog 27 #[.int .i64 (age : Nat)] w' (RetB (sixf (o age)) w')) (ms : List Int)
    (hM : ∀ w' : World, OwnW (w'.alloc (.cells (c6 m0 m1 m2 m3 m4 m5) 56)) w'.heap.size (.slice (some ⟨w'.heap.size, 0, none⟩) n n) ms) (w : World) :
    Calls Try.prog 26 #[.int .i64 (n : Nat), .func (.func 27) #[] #[], six m0 m1 m2 m3 m4 m5] w (RetP (polP n o n) ms w) := by
  have HF := Lib.hid hF
  have HFI := Lib.hid (fun (a b c d e f : Int) (w' : World) => first_i n h1 h6 a b c d e f w')
  have HST := Lib.hid (fun (B : Nat) (j : Nat) (wr : World) (v : Value) (vs : List Value) (hj : j < n) (hO : Own2W wr B v vs (polP n o j)) (hB : B ≤ wr.heap.size) => pol_step n o B j wr v vs hj h6 hO hB)
  have HMM := Lib.hid hM
  have HP := Lib.hid (fun j => polP_succ n o j)
  have HPL := Lib.hid (fun j => polP_len n o j)
  have HFM := Lib.hid (fun (wr : World) (B : Nat) (v : Value) (vs : List Value) (j : Nat) (h : Own2W wr B v vs (polP n o j)) => Own2W.form h)
  have H0 := Lib.hid (fun (W : World) (B : Nat) => (show Own2W W B (.slice none 0 0) [] (polP n o 0) from Own2W.nil W B))
  have HEND := Lib.hid (fun (Z : Nat) (wr : World) (v : Value) (vs : List Value) (hO : Own2W wr (Z + 3) v vs (polP n o n)) (hB : Z + 3 ≤ wr.heap.size) (u0 u1 u2 : Value) => pol_end n o m0 m1 m2 m3 m4 m5 ms hM Z wr v vs hO hB u0 u1 u2)
  have hn1 : (1 : Int) ≤ (n : Int) := by omega
  have hn6 : (n : Int) ≤ 6 := by omega
  have hn7 : n ≤ 6 := h6
  clear hF hM
  unfold six
  go_enter Try.func26, Try.ntmps26
  go_wp2
  generalize hZ : w.heap.size = Z at *
  have hW0 : ∃ W0 : World, W0 = ((w.alloc (.cells (c6 m0 m1 m2 m3 m4 m5) 57)).alloc (.cells #[.slice none 0 0, .slice none 0 0] 32)).alloc (.cells #[.slice none 0 0, .slice none 0 0] 32) := ⟨_, rfl⟩
  obtain ⟨W0, hW0⟩ := hW0
  have hz0 : W0.heap.size = Z + 3 := by rw [hW0, ← hZ]; simp
  have HB0 := Lib.hid (show Below Z w W0 by
    rw [hW0, ← hZ]
    exact (((Below.refl _ _).alloc (Nat.le_refl _) _).alloc (by simp) _).alloc (by simp; omega) _)
  have HP0 := Lib.hid (show W0.cell? ⟨Z + 2, 0, none⟩ = some (.slice none 0 0) ∧ W0.cell? ⟨Z + 2, 1, none⟩ = some (.slice none 0 0) ∧ W0.frozen? ⟨Z + 2, 0, none⟩ = false ∧ W0.frozen? ⟨Z + 2, 1, none⟩ = false by
    rw [hW0, ← hZ]
    exact ⟨by simp [go_sem], by simp [go_sem], by simp [go_sem], by simp [go_sem]⟩)
  have HR0 := Lib.hid (fun (w' : World) (hb : Below (Z + 2) W0 w') => (show (w'.cell? ⟨Z, 0, none⟩ = some (.int .i64 m0) ∧ w'.cell? ⟨Z, 1, none⟩ = some (.int .i64 m1) ∧ w'.cell? ⟨Z, 2, none⟩ = some (.int .i64 m2) ∧ w'.cell? ⟨Z, 3, none⟩ = some (.int .i64 m3) ∧ w'.cell? ⟨Z, 4, none⟩ = some (.int .i64 m4) ∧ w'.cell? ⟨Z, 5, none⟩ = some (.int .i64 m5)) ∧
      w'.cell? ⟨Z + 1, 0, none⟩ = some (.slice none 0 0) ∧ w'.cell? ⟨Z + 1, 1, none⟩ = some (.slice none 0 0) ∧ w'.frozen? ⟨Z + 1, 0, none⟩ = false ∧ w'.frozen? ⟨Z + 1, 1, none⟩ = false by
    have c : ∀ b off, b < Z + 2 → w'.cell? ⟨b, off, none⟩ = W0.cell? ⟨b, off, none⟩ := fun b off h => hb.cell (p := ⟨b, off, none⟩) h
    have f : ∀ b off, b < Z + 2 → w'.frozen? ⟨b, off, none⟩ = W0.frozen? ⟨b, off, none⟩ := fun b off h => hb.frozen (p := ⟨b, off, none⟩) h
    rw [c Z 0 (by omega), c Z 1 (by omega), c Z 2 (by omega), c Z 3 (by omega), c Z 4 (by omega), c Z 5 (by omega), c (Z + 1) 0 (by omega), c (Z + 1) 1 (by omega), f (Z + 1) 0 (by omega), f (Z + 1) 1 (by omega), hW0, ← hZ]
    simp [go_sem]))
  rw [show (w.alloc (.cells #[.int .i64 m0, .int .i64 m1, .int .i64 m2, .int .i64 m3, .int .i64 m4, .int .i64 m5] 57)) = w.alloc (.cells (c6 m0 m1 m2 m3 m4 m5) 57) from rfl, ← hW0]
  clear hW0
  rw [show Z + 1 + 1 = Z + 2 from rfl]
  go_loopw [8, 10] (fun _ i wr => ∃ (j : Nat) (v : Value) (vs : List Value), j ≤ n ∧ i = .int .i64 (j : Nat) ∧ Hid (Own2W wr (Z + 3) v vs (polP n o j)) ∧ Hid (wr.cell? ⟨Z + 2, 0, none⟩ = some v ∧ wr.cell? ⟨Z + 2, 1, none⟩ = some (.slice none 0 0) ∧ wr.frozen? ⟨Z + 2, 0, none⟩ = false ∧ wr.frozen? ⟨Z + 2, 1, none⟩ = false) ∧ Hid (Below (Z + 2) W0 wr) ∧ Hid (Z + 3 ≤ wr.heap.size)) (fun _ i _ => n - (intOf i).toNat)
  case atStart => exact ⟨0, _, [], Nat.zero_le _, rfl, H0.out _ _, HP0, Below.refl _ _, Nat.le_of_eq hz0.symm⟩
  case round =>
    obtain ⟨j, v, vs, hj, rfl, hO, hcc, hb, hsz⟩ := hrel
    by_cases hlt : j < n
    · obtain ⟨a, c, hv⟩ := HFM.out _ _ _ _ _ hO.out
      rw [HPL.out] at hv
      subst hv
      have HA := Lib.hid (HST.out (Z + 3) j wr _ vs hlt hO.out hsz.out)
      have HPJ := Lib.hid (HP.out j)
      have HFJ := Lib.hid (fun w' => HF.out j hlt w')
      obtain ⟨c0, c1, f0, f1⟩ := hcc.out
      have HK := Lib.hid (fun (w' : World) (bb : Below wr.heap.size wr w') => (show w'.cell? ⟨Z + 2, 0, none⟩ = some (.slice a j c) from (bb.cell (p := ⟨Z + 2, 0, none⟩) (by have := hsz.out; show Z + 2 < wr.heap.size; omega)).trans c0))
      have HK2 := Lib.hid (fun (w' : World) (bb : Below wr.heap.size wr w') (o1 o2 : Obj) => (show ((w'.alloc o1).alloc o2).cell? ⟨Z + 2, 0, none⟩ = some (.slice a j c) from
        HK.out _ ((bb.alloc bb.size o1).alloc (by have := bb.size; simp; omega) o2)))
      have HK3 := Lib.hid (fun (w1 w3 : World) (bb : Below wr.heap.size wr w1) (o1 : Obj) (hfr : ∀ b, b < (w1.alloc o1).heap.size → (Value.slice a j c).ownBlock ≠ some b → w3.heap[b]? = (w1.alloc o1).heap[b]?) => (show w3.heap[Z + 2]? = wr.heap[Z + 2]? from by
        have h2 := hsz.out
        have h3 := bb.size
        have h4 : (w1.alloc o1).heap.size = w1.heap.size + 1 := Array.size_push _
        refine (hfr (Z + 2) (by omega) fun e => ?_).trans ((Below.heap_alloc w1 o1 (Z + 2) (by omega)).trans (bb.block (Z + 2) (by omega)))
        have := (World.ownsRow.lt hO.out.2.1 (Z + 2) e).1
        omega))
      unfold sixf at HFJ
      go_wp2
      go_region_law (first | (refine step_app2W (w1.alloc _) rfl (.tmp 14) (.tmp 20) rfl (Z + 3) (.slice a j c) vs (polP n o j) (.slice (some ⟨w1.heap.size, 0, none⟩) n n) (rowL n (o j)) (by first | rfl | simp [Act.eval, Act.put]) (by first | rfl | simp [Act.eval, Act.put]) (HA.out w1 (drewB bb)).1 (HA.out w1 (drewB bb)).2.1 (HA.out w1 (drewB bb)).2.2.1 (HA.out w1 (drewB bb)).2.2.2.1 (HA.out w1 (drewB bb)).2.2.2.2.1 (HA.out w1 (drewB bb)).2.2.2.2.2 ?_; intro g cap w3 ho3 hb3 hfr3 hg3; have e3 := HK3.out w1 w3 (drewB bb) _ hfr3; have hc3 : w3.cell? ⟨Z + 2, 0, none⟩ = some (.slice a j c) := (World.cell?_of_block (w := wr) (a := ⟨Z + 2, 0, none⟩) e3).trans c0; have hf3 : w3.frozen? ⟨Z + 2, 0, none⟩ = false := (World.frozen?_of_block (w := wr) (a := ⟨Z + 2, 0, none⟩) e3).trans f0) | (go_simp; go_at_call 27; (with_reducible refine (HFJ.out _).mono ?_); rintro e w1 ⟨rfl, bb⟩; have hw1 := HK.out _ (drewB bb); have hl1 : Z + 2 < w1.heap.size := Nat.lt_of_lt_of_le (Nat.lt_of_lt_of_le (Nat.lt_succ_self _) hsz.out) (drewB bb).size; have hl2 : Z + 2 < w1.heap.size + 1 := Nat.lt_succ_of_lt hl1) | (go_simp; go_at_call 40; (with_reducible refine (HFI.out _ _ _ _ _ _ _).mono ?_); rintro e w2 ⟨rfl, rfl⟩))
      all_goals
        rw [HPL.out] at *
        have hW4 : ∀ u, Wr (Z + 2) (Z + 3) w3 (w3.setCell ⟨Z + 2, 0, none⟩ u) := fun u => ⟨rfl, rfl, rfl, by simp [World.setCell], fun b hb hr => Below.heap_setCell _ _ _ _ (by show b ≠ Z + 2; omega)⟩
        have hO4 := Lib.hid (fun u => Own2W.wr ho3 (hW4 u) (fun k hk => (World.ownsRow.lt ho3.2.1 k hk).2) (fun i k hi hk => ((ho3.2.2.1 i hi).block k hk).2) (.inr (Nat.le_refl _)))
        have hc4 := Lib.hid (fun u => (show (w3.setCell ⟨Z + 2, 0, none⟩ u).cell? ⟨Z + 2, 0, none⟩ = some u ∧ (w3.setCell ⟨Z + 2, 0, none⟩ u).cell? ⟨Z + 2, 1, none⟩ = some (.slice none 0 0) ∧ (w3.setCell ⟨Z + 2, 0, none⟩ u).frozen? ⟨Z + 2, 0, none⟩ = false ∧ (w3.setCell ⟨Z + 2, 0, none⟩ u).frozen? ⟨Z + 2, 1, none⟩ = false from
          ⟨World.cell?_setCell_same _ _ _ hc3, (World.cell?_setCell_other _ _ _ _ (by simp)).trans ((World.cell?_of_block (w := wr) (a := ⟨Z + 2, 1, none⟩) e3).trans c1), by simpa using hf3, by simpa using (World.frozen?_of_block (w := wr) (a := ⟨Z + 2, 1, none⟩) e3).trans f1⟩))
        have hz1 : (w1.alloc (.cells (c6 (o j 0) (o j 1) (o j 2) (o j 3) (o j 4) (o j 5)) 56)).heap.size = w1.heap.size + 1 := Array.size_push _
        have hb4 := Lib.hid (fun u => (show Below (Z + 2) W0 (w3.setCell ⟨Z + 2, 0, none⟩ u) from
          ((hb.out.trans ((drewB bb).mono (by have := hsz.out; omega))).alloc (by omega) (.cells (c6 (o j 0) (o j 1) (o j 2) (o j 3) (o j 4) (o j 5)) 56)).trans ((show Below (Z + 2) _ w3 from hb3.mono (Nat.le_succ (Z + 2))).setCell (p := ⟨Z + 2, 0, none⟩) (Nat.le_refl _) u)))
        have hs4 := Lib.hid (fun u => (show Z + 3 ≤ (w3.setCell ⟨Z + 2, 0, none⟩ u).heap.size by
          have k1 : w1.heap.size + 1 ≤ w3.heap.size := by rw [← hz1]; exact hb3.size
          have k2 : (w3.setCell ⟨Z + 2, 0, none⟩ u).heap.size = w3.heap.size := by simp [World.setCell]
          rw [k2]; omega))
        clear hW4 ho3 hb3 hfr3 hg3 hc3 hf3 e3 bb hz1 hl1 hl2 hw1
        go_wp2
        go_roundw
        case rel => exact ⟨j + 1, _, _, by omega, by go_num, (by rw [HPJ.out]; exact hO4.out _), hc4.out _, hb4.out _, hs4.out _⟩
        case measure => simp [intOf]; omega
    · have e : j = n := by omega
      subst e
      obtain ⟨a, c, hv⟩ := HFM.out _ _ _ _ _ hO.out
      rw [HPL.out] at hv
      subst hv
      obtain ⟨c0, c1, f0, f1⟩ := hcc.out
      obtain ⟨⟨x0, x1, x2, x3, x4, x5⟩, r0, r1, q0, q1⟩ := HR0.out wr hb.out
      have hlt2 : Z + 2 < wr.heap.size := hsz.out
      have hlt3 : Z + 1 < wr.heap.size := by omega
      have hlt4 : Z < wr.heap.size := by omega
      go_wp2_with fail
      refine (HFI.out _ _ _ _ _ _ _).mono ?_
      rintro e w2 ⟨rfl, rfl⟩
      have hE2 := Lib.hid (fun u0 u1 u2 => HEND.out Z wr _ vs hO.out hsz.out u0 u1 u2)
      have hBE := Lib.hid (show Below Z w wr from HB0.out.trans (hb.out.mono (by omega)))
      have hwZ := Lib.hid hZ
      go_wp2
      refine bodyPost_ret (v := .agg #[.slice a j c, .slice (some ⟨wr.heap.size, 0, none⟩) j j]) (by simp [results, Try.results26, go_sem, c0, c1, r0, r1, f0, f1, q0, q1, hlt2, hlt3]) rfl ⟨_, rfl, ?_, ?_⟩
      · rw [hwZ.out]
        exact hE2.out _ _ _
      · rw [hwZ.out]
        have hb5 := hBE.out
        have hz6 : Z ≤ wr.heap.size := by omega
        have h1 := hb5.setCell (p := ⟨Z + 2, 1, none⟩) (show Z ≤ Z + 2 by omega)
        refine (((h1 _).setCell (p := ⟨Z + 1, 0, none⟩) (show Z ≤ Z + 1 by omega) _).setCell (p := ⟨Z + 1, 1, none⟩) (show Z ≤ Z + 1 by omega) _).alloc ?_ _
        simp [World.setCell]; omega

end Go.Proofs.Ytfjaaoogbjcgaaa
namespace Go.Proofs.Ytfjaaoogbjcgaaa
open Go.RowKit
end Go.Proofs.Ytfjaaoogbjcgaaa
namespace Go.Proofs.Ytfjaaoogbjcgaaa.Pv
open Go.RowKit
theorem isW_of {n : Nat} (h1 : 1 ≤ n) (h6 : n ≤ 6) : isW (n : Int) = true := by
  unfold isW
  rw [decide_eq_true (by omega), decide_eq_true (by omega)]; rfl
theorem lru_pol (n : Nat) (h1 : 1 ≤ n) (h6 : n ≤ 6) (w : World) : Calls Try.prog 26 #[.int .i64 (n : Nat), .func (.func 27) #[] #[], sixf (yng (n - 1))] w (RetP (polP n yng n) (rowL n (yng (n - 1))) w) :=
  policyOf_young n h1 h6 yng _ _ _ _ _ _ (fun age ha w' => young_i age (by omega) w') (rowL n (yng (n - 1))) (fun w' => first_row n h6 (yng (n - 1)) w' _) w
set_option maxHeartbeats 1000000 in
set_option maxRecDepth 100000 in
theorem lru_yes (n : Nat) (h1 : 1 ≤ n) (h6 : n ≤ 6) (w : World) : Calls Try.prog 10 #[.int .i64 (n : Nat)] w (ResP (polP n yng n) (rowL n (yng (n - 1))) true w) := by
  have hw := isW_of h1 h6
  have HT := Lib.hid (fun w => young_i (n - 1) (by omega) w)
  have HP := Lib.hid (fun w => lru_pol n h1 h6 w)
  have HW := Lib.hid (fun w => Go.Proofs.Ytfjaaoogbjcgaaa.ways_i (n : Int) w)
  have e1 : ((n - 1 : Nat) : Int) = (n : Int) - 1 := by omega
  rw [hw] at HW
  rw [e1] at HT
  have hn1 : (1 : Int) ≤ (n : Int) := by omega
  have hn6 : (n : Int) ≤ 6 := by omega
  clear hw e1
  unfold sixf six at HT HP
  go_enter Try.func10, Try.ntmps10
  go_wp2_with (go_at_call 25; refine (HW.out _).mono ?_; rintro e w' ⟨rfl, rfl⟩)
  refine (HT.out _).mono ?_
  rintro e w0 ⟨rfl, b0⟩
  go_wp2_with fail
  refine (HP.out _).mono ?_
  rintro e w1 ⟨v, rfl, ov, b01⟩
  have b1 := bt b0 b01
  have ov := ov.mono (B' := (w.alloc (.cells #[.slice none 0 0, .slice none 0 0] 32)).heap.size) b0.size
  clear b0 b01
  obtain ⟨a1, n1, c1, a2, n2, c2, fv⟩ := ov.form
  subst fv
  obtain ⟨r0, r1, q0, q1⟩ := resP b1
  have HB := Lib.hid (fun u u' => belP b1 u u')
  have HO := Lib.hid (fun u u' => outP ov u u')
  clear ov b1
  go_wp2
  refine bodyPost_ret (v := .tuple #[.agg #[.slice a1 n1 c1, .slice a2 n2 c2], .bool true]) (by simp [results, Try.results10, go_sem, r0, r1, q0, q1]) rfl ⟨_, rfl, HO.out _ _, HB.out _ _⟩
end Go.Proofs.Ytfjaaoogbjcgaaa.Pv
