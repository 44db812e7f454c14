/- Runs of a policy: what is at each age after the uses so far. The program's runUses, with the closure of MissesOf$1. The program's MissesOf. The model's runs: hits and contents, misses. append of one number to a list of the call's own: which blocks stay. The program's runUses, with the closure of RunPolicy$1. The closure of RunPolicy$1: one number more in its list. The program's RunPolicy. -/
import Derived.Test.YtellclgpejmmaaaCstepI
import Derived.Test.YtellclgpejmmaaaCappg
import Derived.Laws.Rows
namespace Go.Proofs.Ytellclgpejmmaaa.Pv
open Go.RowKit
/-- What is at each age after j uses. -/
def kK (hs : List (List Int)) (ms xs : List Int) : Nat → Nat → Int
  | 0 => fun _ => -1
  | j + 1 => stN hs ms (kK hs ms xs j) (xs.getD j 0)
def oldK (hs : List (List Int)) (ms xs : List Int) (j : Nat) : Int := kK hs ms xs j (ms.length - 1)
def hitK (hs : List (List Int)) (ms xs : List Int) (j : Nat) : Bool := hitB ms.length (kK hs ms xs j) (xs.getD j 0)
/-- What a call of the closure leaves. -/
def Told (Val : Nat → Value → World → Prop) (T : TypeId) (Z bq j : Nat) (y : Value) (w : World) (e : Ending) (w' : World) : Prop :=
  e = .returned (.tuple #[]) ∧ ∃ y', Blk w' bq [y'] T ∧ Val (j + 1) y' w' ∧ y'.ownBlock ≠ some bq ∧ Below Z w w' ∧ (∀ k, k < w.heap.size → k ≠ bq → y.ownBlock ≠ some k → w'.heap[k]? = w.heap[k]?) ∧ (∀ k, y'.ownBlock = some k → y.ownBlock = some k ∨ w.heap.size ≤ k)
/-- What the run leaves. -/
def RanP (Val : Nat → Value → World → Prop) (T : TypeId) (Z bq N : Nat) (xs : List Int) (w : World) (e : Ending) (w' : World) : Prop :=
  ∃ v y, e = .returned (.tuple #[v, .bool true]) ∧ OwnW w' Z v xs ∧ Blk w' bq [y] T ∧ Val N y w' ∧ y.ownBlock ≠ some bq ∧ (∀ k, v.ownBlock = some k → w.heap.size ≤ k ∧ y.ownBlock ≠ some k) ∧ Below Z w w'
theorem Blk.sameB {w w' : World} {b : Nat} {cs : List Value} {t : TypeId} (h : Blk w b cs t) (he : w'.heap[b]? = w.heap[b]?) : Blk w' b cs t := he.trans h
theorem one_six (k : Nat → Int) : ∀ v ∈ six6 k, v.oneCell' = true := fun v hv => by
  unfold six6 at hv
  simp at hv
  rcases hv with rfl | rfl | rfl | rfl | rfl | rfl <;> rfl
end Go.Proofs.Ytellclgpejmmaaa.Pv
namespace Go.Proofs.Ytellclgpejmmaaa.Pv
open Go.RowKit
set_option maxHeartbeats 4000000 in
set_option maxRecDepth 100000 in
theorem run_M {v : Value} {hs : List (List Int)} {ms xs : List Int} (Val : Nat → Value → World → Prop) (w0 w : World) (bq : Nat) (y0 : Value) (sl : Option Addr) (sc : Nat) (h : RdP w0 v hs ms) (hx : Rd w0 (.slice sl xs.length sc) xs) (hb0 : Below w0.heap.size w0 w) (hok : isP hs ms = true) (hu : Tr.okU xs = true)
    (hV : ∀ j y w w', Val j y w → (∀ k, y.ownBlock = some k → w'.heap[k]? = w.heap[k]?) → Val j y w') (hVb : ∀ j y w, Val j y w → ∀ k, y.ownBlock = some k → k < w.heap.size)
    (hbq : w0.heap.size ≤ bq) (hq0 : Blk w bq [y0] 2) (hv0 : Val 0 y0 w) (hy0 : y0.ownBlock ≠ some bq)
    (HT : ∀ j w' y, j < xs.length → Blk w' bq [y] 2 → Val j y w' → y.ownBlock ≠ some bq → w0.heap.size ≤ w'.heap.size → Calls Try.prog 30 #[.int .i64 (oldK hs ms xs j), .bool (hitK hs ms xs j), .pointer (some ⟨bq, 0, none⟩)] w' (Told Val 2 w0.heap.size bq j y w')) :
    Calls Try.prog 27 #[v, .slice sl xs.length sc, .func (.func 30) #[] #[.pointer (some ⟨bq, 0, none⟩)]] w (RanP Val 2 w0.heap.size bq xs.length (rowL ms.length (kK hs ms xs xs.length)) w) := by
  obtain ⟨a, c, a', c', rfl, h1, h2, h3, h4, h5⟩ := h
  obtain ⟨a3, c3, e3, hxc, hxm, hxr⟩ := hx
  injection e3 with e4 e5 e6
  subst e4 e6
  have hn := Tr.okU_len hu
  have hw0 := hb0.size
  have b0 := (Below.refl w.heap.size w).alloc (Nat.le_refl _) (.cells #[.slice a hs.length c, .slice a' ms.length c'] 29)
  have HR := Lib.hid (rules_any (w := w.alloc (.cells #[.slice a hs.length c, .slice a' ms.length c'] 29)) ⟨a, c, a', c', rfl, (h1.below hb0).below b0, h2, (h3.below hb0).below b0, h4, h5⟩)
  unfold RulR at HR
  have HL := Lib.hid (rulC_len (isP hs ms) ms.length hs ms)
  have H1 := Lib.hid (one_rulC (isP hs ms) ms.length hs ms)
  have HC := Lib.hid (show (rulC (isP hs ms) ms.length hs ms)[0]? = some (.int .i64 ms.length) by rw [hok]; rfl)
  have HU := Lib.hid (fun (w' : World) (hb : Below w0.heap.size w0 w') => show Calls Try.prog 40 #[.slice sl xs.length sc] w' (Bl true w') from hu ▸ Tr.uses_i sl sc xs w' (by omega) (hxr.below hb))
  have HUSE := Lib.hid (fun (k : Nat → Int) (x : Int) (w' : World) => (show Calls Try.prog 37 #[.agg (rulC (isP hs ms) ms.length hs ms).toArray, .agg (six6 k).toArray, .int .i64 x] w' (RetB (.tuple #[.agg #[.int .i64 (stN hs ms k x 0), .int .i64 (stN hs ms k x 1), .int .i64 (stN hs ms k x 2), .int .i64 (stN hs ms k x 3), .int .i64 (stN hs ms k x 4), .int .i64 (stN hs ms k x 5)], .bool (hitB ms.length k x)]) w') from by rw [hok]; exact use_any hs ms hok k x w'))
  obtain ⟨hp1, hp6⟩ : 1 ≤ ms.length ∧ ms.length ≤ 6 := by unfold isP at hok; simp only [Bool.and_eq_true, decide_eq_true_eq] at hok; omega
  have HK0 := Lib.hid (show kK hs ms xs 0 = fun _ => -1 from rfl)
  have HKS := Lib.hid (fun j => show kK hs ms xs (j + 1) = stN hs ms (kK hs ms xs j) (xs.getD j 0) from rfl)
  have HOL := Lib.hid (fun j => show oldK hs ms xs j = kK hs ms xs j (ms.length - 1) from rfl)
  have HHI := Lib.hid (fun j => show hitK hs ms xs j = hitB ms.length (kK hs ms xs j) (xs.getD j 0) from rfl)
  have HFI := Lib.hid (fun (k : Nat → Int) (w' : World) => (show Calls Try.prog 33 #[.agg (six6 k).toArray, .int .i64 ((ms.length : Nat) : Int)] w' (fun e' w9 => ∃ v', e' = .returned v' ∧ OwnW w9 w'.heap.size v' (rowL ms.length k) ∧ (∀ q, v'.ownBlock = some q → q = w'.heap.size) ∧ w'.alloc (.cells (c6 (k 0) (k 1) (k 2) (k 3) (k 4) (k 5)) 52) = w9) from
    (first_i ms.length hp1 hp6 _ _ _ _ _ _ w').mono fun e w9 ⟨he, hw⟩ => ⟨_, he, by rw [← hw]; exact first_row ms.length hp6 _ w' 52, fun q hq => by injection hq with hq; exact hq.symm, hw⟩))
  have HE6 := Lib.hid (fun (w' : World) => empty6_i w')
  unfold six at HE6
  have HHV := Lib.hid hV
  have HHB := Lib.hid hVb
  have HTT := Lib.hid HT
  have HXR := Lib.hid hxr
  unfold Row at HXR
  obtain ⟨d43, hu43, hd43⟩ := und43
  have HU4 := Lib.hid (And.intro hu43 hd43)
  obtain ⟨d6, hu6, hd6⟩ := und6
  have HU6 := Lib.hid (And.intro hu6 hd6)
  have HB0 := Lib.hid hb0
  have HQ0 := Lib.hid hq0
  have HV0 := Lib.hid hv0
  clear h1 h3 h5 hxc hxm hxr hu43 hd43 hu6 hd6 hu hV hVb HT hb0 hq0 hv0 b0
  generalize hKK : kK hs ms xs = KK at *
  generalize hOK : oldK hs ms xs = OK at *
  generalize hHK : hitK hs ms xs = HK at *
  clear hKK hOK hHK
  generalize rulC (isP hs ms) ms.length hs ms = rc at *
  rw [hok] at HR
  clear hok
  generalize hs.length = NH at *
  generalize hM : ms.length = M at *
  clear hM
  generalize hN : xs.length = N at *
  clear hN
  go_enter Try.func27, Try.ntmps27
  go_wp2_with fail
  refine HR.out.mono ?_; rintro e w1 ⟨rfl, b1⟩
  have B1 := Lib.hid (show Below w.heap.size w w1 from bt ((Below.refl w.heap.size w).alloc (Nat.le_refl _) _) b1)
  have sw1 : w.heap.size < w1.heap.size := Nat.lt_of_lt_of_le (by simp) b1.size
  clear b1
  go_wp2_with (with_reducible refine wpList_storeB rfl 60 (.tmp 8) (.tmp 18) rfl w1.heap.size 0 rc ?_ ?_ z43 60 ?_ ?_ ?_ ?_ ?_)
  · rfl
  · rfl
  · exact Blk.newAt _ _ _ _ rfl
  · rw [HL.out]; decide
  · rw [HL.out]; exact isz43
  · exact H1.out
  intro w2 hB2 hK
  rw [splice_all _ _ HL.out] at hB2
  have hb2 : Below w.heap.size w w2 := (B1.out.alloc (B1.out.size) _).trans (hK.out.below B1.out.size)
  have HBW := Lib.hid hb2
  have HX := Lib.hid hB2
  clear hb2 hK HR B1
  have HUW := Lib.hid (HU.out w2 (HB0.out.trans (HBW.out.mono hw0)))
  go_wp2_with (first | (go_at_call 40; (with_reducible refine HUW.out.mono ?_); rintro e w3 ⟨rfl, rfl⟩))
  refine (HE6.out w2).mono ?_; rintro e w3 ⟨rfl, b3⟩
  have HX3 := Lib.hid (HX.out.below b3 HX.out.lt)
  have HBW3 := Lib.hid (bt HBW.out b3)
  have hB2 := HX.out.lt
  have s3 := b3.size
  clear b3 HX HBW HUW
  have hX4 := HX3.out.alloc (.cells #[.int .i64 (-1), .int .i64 (-1), .int .i64 (-1), .int .i64 (-1), .int .i64 (-1), .int .i64 (-1)] 64)
  have hC4 : Blk (w3.alloc (.cells #[.int .i64 (-1), .int .i64 (-1), .int .i64 (-1), .int .i64 (-1), .int .i64 (-1), .int .i64 (-1)] 64)) w3.heap.size (six6 (fun _ => -1)) 64 := Blk.newAt w3 _ (six6 (fun _ => -1)) _ rfl
  have hW4 := bt HBW3.out ((Below.refl w3.heap.size w3).alloc (Nat.le_refl _) (.cells #[.int .i64 (-1), .int .i64 (-1), .int .i64 (-1), .int .i64 (-1), .int .i64 (-1), .int .i64 (-1)] 64))
  have hz4 : (w3.alloc (.cells #[.int .i64 (-1), .int .i64 (-1), .int .i64 (-1), .int .i64 (-1), .int .i64 (-1), .int .i64 (-1)] 64)).heap.size = w3.heap.size + 1 := Array.size_push _
  have HX4 := Lib.hid hX4
  have HC4 := Lib.hid hC4
  have HW4 := Lib.hid hW4
  clear hX4 hC4 hW4 HX3 HBW3
  go_wp2_with fail
  have hXlt : w1.heap.size < w3.heap.size := Nat.lt_of_lt_of_le hB2 s3
  have hqw := HQ0.out.lt
  generalize (w3.alloc (.cells #[.int .i64 (-1), .int .i64 (-1), .int .i64 (-1), .int .i64 (-1), .int .i64 (-1), .int .i64 (-1)] 64)) = w4 at *
  clear hz4
  go_loopw [30] (fun i wr => ∃ (j : Nat) (y : Value), j ≤ N ∧ i = .int .i64 j ∧ Hid (Blk wr w1.heap.size rc 60) ∧ Hid (Blk wr w3.heap.size (six6 (KK j)) 64) ∧ Hid (Blk wr bq [y] 2) ∧ Hid (Val j y wr) ∧ Hid (y.ownBlock ≠ some bq ∧ y.ownBlock ≠ some w1.heap.size ∧ y.ownBlock ≠ some w3.heap.size) ∧ Hid (Below w0.heap.size w0 wr) ∧ Hid (w.heap.size ≤ wr.heap.size) ∧ Hid (Below w0.heap.size w wr)) (fun i _ => N - (intOf i).toNat)
  case atStart =>
    refine ⟨0, y0, Nat.zero_le _, rfl, HX4, ?_, Lib.hid (HQ0.out.below HW4.out hqw), Lib.hid (HHV.out 0 y0 w w4 HV0.out fun k hk => HW4.out.block k (HHB.out 0 y0 w HV0.out k hk)), Lib.hid ⟨hy0, fun e => ?_, fun e => ?_⟩, Lib.hid (HB0.out.trans (HW4.out.mono hw0)), Lib.hid HW4.out.size, Lib.hid (HW4.out.mono hw0)⟩
    · rw [HK0.out]; exact HC4
    · have := HHB.out 0 y0 w HV0.out _ e; omega
    · have := HHB.out 0 y0 w HV0.out _ e; omega
  case round =>
    obtain ⟨j, y, hj, rfl, hX, hCb, hQ, hVl, hny, hBB, hsw, hBz⟩ := hrel
    clear HX4 HC4 HW4 HQ0 HV0 HK0
    by_cases hlt : j < N
    · obtain ⟨b9, off9, rfl, k1, k2⟩ := HXR.out j hlt
      have k3 : wr.cell? ⟨b9, off9 + j, none⟩ = some (.int .i64 (xs.getD j 0)) := (hBB.out.cell (p := ⟨b9, off9 + j, none⟩) k2).trans k1
      have hks := Lib.hid (HKS.out j)
      have hol := Lib.hid (HOL.out j)
      have hhi := Lib.hid (HHI.out j)
      have HTj := Lib.hid (fun w' y' h1 h2 h3 h4 => HTT.out j w' y' hlt h1 h2 h3 h4)
      have hM5 : (M : Int) - 1 < 6 := by omega
      have hM0 : (0 : Int) ≤ (M : Int) - 1 := by omega
      have hM1 : ((M : Int) - 1).toNat = M - 1 := by omega
      clear k1 HKS HOL HHI HTT
      rw [hol.out, hhi.out] at HTj
      obtain ⟨K2, hK2⟩ : ∃ K2, KK (j + 1) = K2 := ⟨_, rfl⟩
      rw [hK2] at hks
      have HK2 := Lib.hid hK2
      clear hK2
      generalize xs.getD j 0 = x at *
      have HUX := Lib.hid (HUSE.out (KK j) x wr)
      have hck := Lib.hid (six6_get (KK j) (M - 1) (by omega))
      rw [← hks.out] at HUX
      have HC6 := Lib.hid (show (six6 (KK j)).length = 6 from rfl)
      have HC62 := Lib.hid (show (six6 K2).length = 6 from rfl)
      generalize hitB M (KK j) x = hb at *
      generalize KK j (M - 1) = old at *
      generalize six6 (KK j) = CK at *
      go_wp2_with (first | (with_reducible refine wpList_loadB rfl 60 (.tmp 8) rfl w1.heap.size ?_ rc 60 hX.out d43 HU4.out.1 HU4.out.2 ?_ ?_) | (with_reducible refine wpList_loadB rfl 64 (.tmp 10) rfl w3.heap.size ?_ CK 64 hCb.out d6 HU6.out.1 HU6.out.2 ?_ ?_))
      · rfl
      · rw [HL.out]; exact isz43
      · rw [HC6.out]; exact isz6c
      refine HUX.out.mono ?_; rintro e w5 ⟨rfl, b5⟩
      have hX5 := hX.out.below b5 hX.out.lt
      have hC5 := hCb.out.below b5 hCb.out.lt
      have d0 : w5.cell? ⟨w1.heap.size, 0, none⟩ = some (.int .i64 M) := (hX5.cell 0).trans HC.out
      have d1 : w5.cell? ⟨w3.heap.size, M - 1, none⟩ = some (.int .i64 old) := (hC5.cell (M - 1)).trans hck.out
      have l0 := hX5.lt
      have l1 := hC5.lt
      have BQ5 := Lib.hid (hQ.out.below b5 hQ.out.lt)
      have BV5 := Lib.hid (HHV.out j y wr w5 hVl.out fun k hk => b5.block k (HHB.out j y wr hVl.out k hk))
      have BX5 := Lib.hid hX5
      have BC5 := Lib.hid hC5
      have ly := Lib.hid (fun k hk => HHB.out j y wr hVl.out k hk)
      have B5 := Lib.hid (hBB.out.trans (b5.mono hBB.out.size))
      have Bz5 := Lib.hid (hBz.out.trans (b5.mono hBB.out.size))
      have sw5 := Lib.hid (Nat.le_trans hsw.out b5.size)
      have s5 := Lib.hid b5.size
      clear hX5 hC5 hX hCb hQ hVl hBz hsw b5 HUX
      go_wp2_with fail
      have w6z : (w5.alloc (.cells #[.int .i64 (K2 0), .int .i64 (K2 1), .int .i64 (K2 2), .int .i64 (K2 3), .int .i64 (K2 4), .int .i64 (K2 5)] 64)).heap.size = w5.heap.size + 1 := Array.size_push _
      have hA6 : Blk (w5.alloc (.cells #[.int .i64 (K2 0), .int .i64 (K2 1), .int .i64 (K2 2), .int .i64 (K2 3), .int .i64 (K2 4), .int .i64 (K2 5)] 64)) w5.heap.size (six6 K2) 64 := Blk.newAt w5 _ (six6 K2) _ rfl
      have hX6 := BX5.out.alloc (.cells #[.int .i64 (K2 0), .int .i64 (K2 1), .int .i64 (K2 2), .int .i64 (K2 3), .int .i64 (K2 4), .int .i64 (K2 5)] 64)
      have hC6 := BC5.out.alloc (.cells #[.int .i64 (K2 0), .int .i64 (K2 1), .int .i64 (K2 2), .int .i64 (K2 3), .int .i64 (K2 4), .int .i64 (K2 5)] 64)
      have hQ6 := BQ5.out.alloc (.cells #[.int .i64 (K2 0), .int .i64 (K2 1), .int .i64 (K2 2), .int .i64 (K2 3), .int .i64 (K2 4), .int .i64 (K2 5)] 64)
      have b6 : Below w5.heap.size w5 (w5.alloc (.cells #[.int .i64 (K2 0), .int .i64 (K2 1), .int .i64 (K2 2), .int .i64 (K2 3), .int .i64 (K2 4), .int .i64 (K2 5)] 64)) := (Below.refl _ w5).alloc (Nat.le_refl _) _
      have hyl5 := fun k hk => Nat.lt_of_lt_of_le (ly.out k hk) s5.out
      have hV6 := HHV.out j y w5 _ BV5.out fun k hk => b6.block k (hyl5 k hk)
      have hB6 := B5.out.trans (b6.mono (Nat.le_trans (Nat.le_trans hw0 sw5.out) (Nat.le_refl _)))
      have hBz6 := Bz5.out.trans (b6.mono (Nat.le_trans (Nat.le_trans hw0 sw5.out) (Nat.le_refl _)))
      clear d0 d1 hck hol hhi
      generalize (w5.alloc (.cells #[.int .i64 (K2 0), .int .i64 (K2 1), .int .i64 (K2 2), .int .i64 (K2 3), .int .i64 (K2 4), .int .i64 (K2 5)] 64)) = w6 at *
      refine (HTj.out w6 y hQ6 hV6 hny.out.1 (by have := sw5.out; omega)).mono ?_
      rintro e w7 ⟨rfl, y', hQ7, hV7, hy7, hB7, hk7, hn7⟩
      have hX7 := Blk.sameB hX6 (hk7 _ (by omega) (fun e => by omega) hny.out.2.1)
      have hC7 := Blk.sameB hC6 (hk7 _ (by omega) (fun e => by omega) hny.out.2.2)
      have hA7 := Blk.sameB hA6 (hk7 _ (by omega) (fun e => by have := hqw; have := sw5.out; omega) (fun e => by have := hyl5 _ e; omega))
      have HX7 := Lib.hid hX7
      have HC7 := Lib.hid hC7
      have HA7 := Lib.hid hA7
      have HQ7 := Lib.hid hQ7
      have HV7 := Lib.hid hV7
      have HB7 := Lib.hid (hB6.trans hB7)
      have HBz7 := Lib.hid (hBz6.trans hB7)
      have HN7 := Lib.hid hn7
      have HY7 := Lib.hid hy7
      have s7 := Lib.hid hB7.size
      have hAC : w5.heap.size ≠ w3.heap.size := by omega
      clear hX7 hC7 hA7 hQ7 hV7 hB7 hk7 hn7 hy7 hX6 hC6 hA6 hQ6 hV6 hB6 hBz6 b6 BX5 BC5 BQ5 BV5 B5 Bz5 HTj
      go_wp2_with (first | (with_reducible refine wpList_loadB rfl 64 (.tmp 13) rfl w5.heap.size ?_ (six6 K2) 64 HA7.out d6 HU6.out.1 HU6.out.2 ?_ ?_) | (with_reducible refine wpList_storeB rfl 64 (.tmp 10) (.tmp 49) rfl w3.heap.size 0 (six6 K2) ?_ ?_ CK 64 HC7.out ?_ ?_ ?_ ?_))
      · rfl
      · rw [HC62.out]; exact isz6c
      · rw [HC62.out, HC6.out]; decide
      · rw [HC62.out]; exact isz6c
      · exact one_six K2
      intro w8 hB8 hK8
      have hB8' := hB8.out
      rw [splice_all _ _ (by rw [HC62.out, HC6.out])] at hB8'
      have HR1 := Lib.hid hB8'
      have HR2 := Lib.hid (hK8.out.blk HX7.out (by omega))
      have hyX : y'.ownBlock ≠ some w1.heap.size := fun e => by
        rcases HN7.out _ e with h | h
        · exact hny.out.2.1 h
        · omega
      have hyC : y'.ownBlock ≠ some w3.heap.size := fun e => by
        rcases HN7.out _ e with h | h
        · exact hny.out.2.2 h
        · omega
      have HR3 := Lib.hid (hK8.out.blk HQ7.out (by have := sw5.out; omega))
      have HR4 := Lib.hid (HHV.out (j + 1) y' w7 w8 HV7.out fun k hk => hK8.out.block k (fun e => hyC (by rw [hk, e])))
      have HR5 := Lib.hid (show y'.ownBlock ≠ some bq ∧ y'.ownBlock ≠ some w1.heap.size ∧ y'.ownBlock ≠ some w3.heap.size from ⟨HY7.out, hyX, hyC⟩)
      have hz0 : w0.heap.size ≤ w3.heap.size := by have := Nat.le_trans hw0 (Nat.le_of_lt sw1); omega
      have HR6 := Lib.hid (HB7.out.trans (hK8.out.below hz0))
      have HR7 := Lib.hid (show w.heap.size ≤ w8.heap.size from by have h1 := hK8.out.size; have h2 := s7.out; have h3 := sw5.out; omega)
      have HR8 := Lib.hid (HBz7.out.trans (hK8.out.below hz0))
      clear hB8 hB8' hK8 HX7 HC7 HA7 HQ7 HV7 HB7 HBz7 HN7 HY7 s7
      go_wp2
      go_roundw
      case rel => exact ⟨j + 1, y', by omega, by go_num, HR2, (by rw [HK2.out]; exact HR1), HR3, HR4, HR5, HR6, HR7, HR8⟩
      case measure => simp [intOf]; omega
    · have e : j = N := by omega
      subst e
      have HC6 := Lib.hid (show (six6 (KK j)).length = 6 from rfl)
      have d0 : wr.cell? ⟨w1.heap.size, 0, none⟩ = some (.int .i64 M) := (hX.out.cell 0).trans HC.out
      have HFK := Lib.hid (HFI.out (KK j) wr)
      have hcw := Lib.hid hCb.out.lt
      generalize six6 (KK j) = CK at *
      clear HTT HKS HOL HHI HUSE
      go_wp2_with (first | (with_reducible refine wpList_loadB rfl 64 (.tmp 10) rfl w3.heap.size ?_ CK 64 hCb.out d6 HU6.out.1 HU6.out.2 ?_ ?_))
      · rfl
      · rw [HC6.out]; exact isz6c
      refine HFK.out.mono ?_; rintro e w5 ⟨v5, rfl, o5, hq5, hw5⟩
      have b5 : Below wr.heap.size wr w5 := by rw [← hw5]; exact (Below.refl _ _).alloc (Nat.le_refl _) _
      have ly := fun k hk => HHB.out j y wr hVl.out k hk
      have R1 := Lib.hid (OwnW.mono o5 hBB.out.size)
      have R2 := Lib.hid (hQ.out.below b5 hQ.out.lt)
      have R3 := Lib.hid (HHV.out j y wr w5 hVl.out fun k hk => b5.block k (ly k hk))
      have R4 := Lib.hid (show ∀ k, v5.ownBlock = some k → w.heap.size ≤ k ∧ y.ownBlock ≠ some k from fun k hk => ⟨by have := hq5 k hk; have := hsw.out; omega, fun e => by have h1 := ly k e; have h2 := hq5 k hk; omega⟩)
      have R5 := Lib.hid (hBz.out.trans (b5.mono hBB.out.size))
      clear b5 hw5 o5 hq5 ly
      go_wp2
      go_ret2
      exact ⟨_, y, rfl, R1.out, R2.out, R3.out, hny.out.1, R4.out, R5.out⟩
end Go.Proofs.Ytellclgpejmmaaa.Pv
namespace Go.Proofs.Ytellclgpejmmaaa.Pv
open Go.RowKit
/-- How many of the first j uses missed. -/
def missN (hs : List (List Int)) (ms xs : List Int) : Nat → Nat
  | 0 => 0
  | j + 1 => missN hs ms xs j + if hitK hs ms xs j then 0 else 1
theorem missN_le (hs : List (List Int)) (ms xs : List Int) (j : Nat) : missN hs ms xs j ≤ j := by
  induction j with
  | zero => simp [missN]
  | succ j ih => rw [missN]; split <;> omega
def valM (hs : List (List Int)) (ms xs : List Int) (j : Nat) (y : Value) (_w : World) : Prop := y = .int .i64 ((missN hs ms xs j : Nat) : Int)
theorem clo_M (hs : List (List Int)) (ms xs : List Int) (Z bq j : Nat) (y : Value) (w : World) (hj : j < 60) (hq : Blk w bq [y] 2) (hv : valM hs ms xs j y w) (hZ : Z ≤ bq) :
    Calls Try.prog 30 #[.int .i64 (oldK hs ms xs j), .bool (hitK hs ms xs j), .pointer (some ⟨bq, 0, none⟩)] w (Told (valM hs ms xs) 2 Z bq j y w) := by
  have hv' : y = .int .i64 ((missN hs ms xs j : Nat) : Int) := hv
  subst hv'
  have hl := missN_le hs ms xs j
  have HS := Lib.hid (show missN hs ms xs (j + 1) = missN hs ms xs j + if hitK hs ms xs j then 0 else 1 from rfl)
  have HQ := Lib.hid hq
  have hc : w.cell? ⟨bq, 0, none⟩ = some (.int .i64 ((missN hs ms xs j : Nat) : Int)) := hq.cell 0
  have hf := hq.froz 0
  have HVD := Lib.hid (fun (w' : World) => show valM hs ms xs (j + 1) (.int .i64 ((missN hs ms xs (j + 1) : Nat) : Int)) w' from rfl)
  unfold Told
  generalize valM hs ms xs = Val at *
  clear hq hv
  generalize missN hs ms xs (j + 1) = K2 at *
  generalize missN hs ms xs j = K at *
  generalize oldK hs ms xs j = o at *
  cases hh : hitK hs ms xs j
  · have e : K2 = K + 1 := by rw [HS.out, hh]; rfl
    subst e
    have HB : Hid (Blk (w.setCell ⟨bq, 0, none⟩ (.int .i64 ((K : Int) + 1))) bq [.int .i64 (((K + 1 : Nat)) : Int)] 2) := by
      show Blk _ _ _ _
      have h := Go.heap_setCell_same w bq 0 _ _ (.int .i64 ((K : Int) + 1)) HQ.out
      unfold Blk
      rw [h]; rfl
    clear HS hh
    go_enter Try.func30, Try.ntmps30
    go_wp2
    go_end0
    refine ⟨rfl, _, HB.out, HVD.out _, (fun e => by cases e), (Below.refl _ _).setCell (p := ⟨bq, 0, none⟩) hZ _, (fun k hk hne _ => Go.heap_setCell_other w ⟨bq, 0, none⟩ k _ hne), (fun k hk => by cases hk)⟩
  · have e : K2 = K := by rw [HS.out, hh]; rfl
    subst e
    clear HS hh
    go_enter Try.func30, Try.ntmps30
    go_wp2
    go_end0
    exact ⟨rfl, _, HQ.out, HVD.out _, (fun e => by cases e), Below.refl _ _, (fun k hk _ _ => rfl), (fun k hk => by cases hk)⟩
/-- What a function leaves that returns a number and whether it succeeded. -/
def IbP (n : Int) (ok : Bool) (w : World) (e : Ending) (w' : World) : Prop := e = .returned (.tuple #[.int .i64 n, .bool ok]) ∧ Below w.heap.size w w'
theorem RdP.below {w w' : World} {v : Value} {hs : List (List Int)} {ms : List Int} (h : RdP w v hs ms) (hb : Below w.heap.size w w') : RdP w' v hs ms := by
  obtain ⟨a, c, a', c', e, h1, h2, h3, h4, h5⟩ := h
  exact ⟨a, c, a', c', e, h1.below hb, h2, h3.below hb, h4, h5⟩
set_option maxHeartbeats 4000000 in
set_option maxRecDepth 100000 in
/-- A run that fails. -/
theorem run_no {v : Value} {hs : List (List Int)} {ms xs : List Int} (w : World) (fv : Value) (sl : Option Addr) (sc : Nat) (h : RdP w v hs ms) (hx : Rd w (.slice sl xs.length sc) xs) (hxl : xs.length ≤ 1048576) (hno : ¬ (isP hs ms = true ∧ Tr.okU xs = true)) :
    Calls Try.prog 27 #[v, .slice sl xs.length sc, fv] w (fun e w' => e = .returned (.tuple #[.slice none 0 0, .bool false]) ∧ Below w.heap.size w w') := by
  obtain ⟨a, c, a', c', rfl, h1, h2, h3, h4, h5⟩ := h
  obtain ⟨a3, c3, e3, hxc, hxm, hxr⟩ := hx
  injection e3 with e4 e5 e6
  subst e4 e6
  have b0 := (Below.refl w.heap.size w).alloc (Nat.le_refl _) (.cells #[.slice a hs.length c, .slice a' ms.length c'] 29)
  have HR := Lib.hid (rules_any (w := w.alloc (.cells #[.slice a hs.length c, .slice a' ms.length c'] 29)) ⟨a, c, a', c', rfl, h1.below b0, h2, h3.below b0, h4, h5⟩)
  unfold RulR at HR
  have HL := Lib.hid (rulC_len (isP hs ms) ms.length hs ms)
  have H1 := Lib.hid (one_rulC (isP hs ms) ms.length hs ms)
  have HU := Lib.hid (fun (w' : World) (hb : Below w.heap.size w w') => Tr.uses_i sl sc xs w' hxl (hxr.below hb))
  have HNO := Lib.hid hno
  clear h1 h3 h5 hxc hxm hxr hno
  generalize rulC (isP hs ms) ms.length hs ms = rc at *
  generalize isP hs ms = r at *
  generalize Tr.okU xs = ru at *
  generalize hs.length = NH at *
  generalize ms.length = M at *
  generalize xs.length = N at *
  go_enter Try.func27, Try.ntmps27
  go_wp2_with fail
  refine HR.out.mono ?_; rintro e w1 ⟨rfl, b1⟩
  have B1 := Lib.hid (bt b0 b1)
  clear b0 b1
  go_wp2_with (with_reducible refine wpList_storeB rfl 60 (.tmp 8) (.tmp 18) rfl w1.heap.size 0 rc ?_ ?_ z43 60 ?_ ?_ ?_ ?_ ?_)
  · rfl
  · rfl
  · exact Blk.newAt _ _ _ _ rfl
  · rw [HL.out]; decide
  · rw [HL.out]; exact isz43
  · exact H1.out
  intro w2 hB2 hK
  have HBW := Lib.hid ((B1.out.alloc (B1.out.size) _).trans (hK.out.below B1.out.size))
  clear hB2 hK HR B1
  cases r
  · go_wp2
    go_ret2
    exact ⟨rfl, HBW.out⟩
  · have HUW := Lib.hid (HU.out w2 HBW.out)
    cases ru
    · go_wp2_with (go_at_call 40; (with_reducible refine HUW.out.mono ?_); rintro e w3 ⟨rfl, rfl⟩)
      go_ret2
      exact ⟨rfl, HBW.out⟩
    · exact absurd ⟨rfl, rfl⟩ HNO.out
def misOk (hs : List (List Int)) (ms xs : List Int) : Bool := isP hs ms && Tr.okU xs
def misV (hs : List (List Int)) (ms xs : List Int) : Int := if misOk hs ms xs then ((missN hs ms xs xs.length : Nat) : Int) else 0
set_option maxHeartbeats 2000000 in
theorem mis_i {v : Value} {hs : List (List Int)} {ms xs : List Int} {w : World} {a2 : Option Addr} {c2 : Nat} (h : RdP w v hs ms) (hx : Rd w (.slice a2 xs.length c2) xs) (hxl : xs.length ≤ 1048576) :
    Calls Try.prog 14 #[v, .slice a2 xs.length c2] w (IbP (misV hs ms xs) (misOk hs ms xs) w) := by
  have h' := h
  obtain ⟨a, c, a', c', rfl, h1, h2, h3, h4, h5⟩ := h'
  have b1 := ((Below.refl w.heap.size w).alloc (Nat.le_refl _) (.cells #[.slice a hs.length c, .slice a' ms.length c'] 29)).alloc (by simp) (.cells #[.int .i64 0] 2)
  have hz : (w.alloc (.cells #[.slice a hs.length c, .slice a' ms.length c'] 29)).heap.size = w.heap.size + 1 := Array.size_push _
  have bk : Blk ((w.alloc (.cells #[.slice a hs.length c, .slice a' ms.length c'] 29)).alloc (.cells #[.int .i64 0] 2)) (w.heap.size + 1) [.int .i64 0] 2 := Blk.newAt _ _ [.int .i64 0] _ hz.symm
  cases hok : misOk hs ms xs
  · have hno : ¬ (isP hs ms = true ∧ Tr.okU xs = true) := fun hh => by unfold misOk at hok; rw [hh.1, hh.2] at hok; cases hok
    have HRN := Lib.hid (run_no ((w.alloc (.cells #[.slice a hs.length c, .slice a' ms.length c'] 29)).alloc (.cells #[.int .i64 0] 2)) (.func (.func 30) #[] #[.pointer (some ⟨w.heap.size + 1, 0, none⟩)]) a2 c2 (h.below b1) (hx.below b1) hxl hno)
    have e : misV hs ms xs = 0 := by unfold misV; rw [hok]; rfl
    rw [e]
    have HB1 := Lib.hid b1
    have HBK := Lib.hid bk
    clear h h1 h3 h5 hx hno hok e b1 bk hz
    generalize hs.length = NH at *
    generalize ms.length = M at *
    generalize xs.length = N at *
    go_enter Try.func14, Try.ntmps14
    go_wp2_with fail
    refine HRN.out.mono ?_; rintro e w2 ⟨rfl, b2⟩
    have c0 : w2.cell? ⟨w.heap.size + 1, 0, none⟩ = some (.int .i64 0) := (HBK.out.below b2 HBK.out.lt).cell 0
    have HB2 := Lib.hid (bt HB1.out b2)
    clear b2
    go_wp2
    go_ret2
    exact ⟨rfl, HB2.out⟩
  · have hh : isP hs ms = true ∧ Tr.okU xs = true := by unfold misOk at hok; rw [Bool.and_eq_true] at hok; exact hok
    have hn := Tr.okU_len hh.2
    have HRY := Lib.hid (run_M (valM hs ms xs) w ((w.alloc (.cells #[.slice a hs.length c, .slice a' ms.length c'] 29)).alloc (.cells #[.int .i64 0] 2)) (w.heap.size + 1) (.int .i64 0) a2 c2 h hx b1 hh.1 hh.2
      (fun j y w w' hv _ => hv) (fun j y w hv k hk => by have hv' : y = _ := hv; subst hv'; cases hk) (Nat.le_succ _) bk rfl (fun e => by cases e)
      (fun j w' y hj hq hv _ _ => clo_M hs ms xs w.heap.size (w.heap.size + 1) j y w' (by omega) hq hv (Nat.le_succ _)))
    have e : misV hs ms xs = ((missN hs ms xs xs.length : Nat) : Int) := by unfold misV; rw [hok]; rfl
    rw [e]
    have HVE := Lib.hid (fun (y : Value) (w' : World) (hv : valM hs ms xs xs.length y w') => show y = .int .i64 ((missN hs ms xs xs.length : Nat) : Int) from hv)
    unfold RanP at HRY
    clear h h1 h3 h5 hx hh hok e b1 bk hz
    generalize valM hs ms xs = Val at *
    generalize missN hs ms xs xs.length = R at *
    generalize rowL ms.length (kK hs ms xs xs.length) = RW at *
    generalize hs.length = NH at *
    generalize ms.length = M at *
    generalize xs.length = N at *
    go_enter Try.func14, Try.ntmps14
    go_wp2_with fail
    refine HRY.out.mono ?_; rintro e w2 ⟨v2, y2, rfl, _, q2, hv2, _, _, b2⟩
    have ey := HVE.out y2 w2 hv2
    subst ey
    have c0 : w2.cell? ⟨w.heap.size + 1, 0, none⟩ = some (.int .i64 ((R : Nat) : Int)) := q2.cell 0
    have HB2 := Lib.hid (((((Below.refl w.heap.size w).alloc (Nat.le_refl _) (.cells #[.slice a NH c, .slice a' M c'] 29)).alloc (by simp) (.cells #[.int .i64 0] 2))).trans b2)
    clear b2 hv2 q2
    go_wp2
    go_ret2
    exact ⟨rfl, HB2.out⟩
end Go.Proofs.Ytellclgpejmmaaa.Pv
namespace Go.Proofs.Ytellclgpejmmaaa.Pv
open Go.RowKit
def hitF (hs : List (List Int)) (ms xs : List Int) (i : Nat) : Int := if hitK hs ms xs i then 1 else 0
end Go.Proofs.Ytellclgpejmmaaa.Pv
namespace Go.Proofs.Ytellclgpejmmaaa
open Go.RowKit
theorem Own.keepB {w w' : World} {B : Nat} {v : Value} {xs : List Int} (h : Own w B v xs) (he : ∀ k, v.ownBlock = some k → w'.heap[k]? = w.heap[k]?) : Own w' B v xs := by
  refine ⟨h.1, ?_⟩
  rcases h.2 with hn | ⟨g, cap, cur, hv, hg, hh, r⟩
  · exact .inl hn
  · exact .inr ⟨g, cap, cur, hv, hg, by rw [he g (by rw [hv]; rfl)]; exact hh, r⟩
theorem set_oth {w : World} {b : Nat} {a : Addr} (u : Value) (h : b ≠ a.block) : (w.setCell a u).heap[b]? = w.heap[b]? := heap_setCell_other w a b u h
theorem wpList_appK {ops : Array Oper} {rest : List Oper} {o : Oper} {a : Act} {Q : Exit → Act → World → Prop} (wr : World) (hgd : o.guard = none) (s x : Operand)
    (ho : o.op = .call { callee := .builtin .append, args := #[s, x], argTypes := #[24, 24] })
    (B : Nat) (v : Value) (xs : List Int) (u : Int) (hs : a.eval s = v) (hx : a.eval x = .slice (some ⟨wr.heap.size, 0, none⟩) 1 1) (hown : Own wr B v xs)
    (hlen : xs.length + 1 ≤ 1000000000) (hB : B ≤ wr.heap.size)
    (h : ∀ v' w', Own w' B v' (xs ++ [u]) → Below B wr w' → (∀ k, k < wr.heap.size → v.ownBlock ≠ some k → w'.heap[k]? = wr.heap[k]?) → (∀ k, v'.ownBlock = some k → v.ownBlock = some k ∨ wr.heap.size ≤ k) → wpList Try.prog ops Q rest (a.put o.dst v') w') :
    wpList Try.prog ops Q (o :: rest) a (wr.alloc (.cells #[.int .i64 u] 2)) := by
  obtain ⟨i0, hi, hz0, hz1, hz2⟩ := info_parts infoI
  refine wpList_append_own_at _ hgd s x 24 ho B 2 i0 (.int .i64 0) 1 8 Try.underlying24 hi hz0 hz1 hz2 rfl (by decide) v xs.length (xs.map (Value.int .i64)) hs (World.ownsRow.alloc hown _)
    ⟨wr.heap.size, 0, none⟩ 1 1 [.int .i64 u] hx rfl (cell_one_new _ _ _) ?_ ?_ ?_ ?_ ?_
  · intro u' hu; simp at hu; subst hu; rfl
  · unfold maxLen; omega
  · omega
  · simp; omega
  · intro v' w' hown' hgrow _ hblk
    have hsz : (wr.alloc (.cells #[.int .i64 u] 2)).heap.size = wr.heap.size + 1 := Array.size_push _
    refine h v' w' ?_ ?_ ?_ ?_
    · show World.ownsRow _ _ _ _ _ (xs ++ [u]).length _
      rw [List.length_append, List.map_append]
      exact hown'
    · exact ((Below.refl B wr).alloc hB _).grown hgrow (by omega) (fun k hk => (Own.block hown k hk).1)
    · intro k hk hne
      rw [hgrow.block k (by omega) (fun e => hne e.symm)]
      exact Below.heap_alloc wr _ k hk
    · intro k hk
      rcases hblk with hb | hb
      · exact .inl (hb ▸ hk)
      · right; rw [hb, hsz] at hk; injection hk with hk; omega
end Go.Proofs.Ytellclgpejmmaaa
namespace Go.Proofs.Ytellclgpejmmaaa.Pv
open Go.RowKit
set_option maxHeartbeats 4000000 in
set_option maxRecDepth 100000 in
theorem run_R {v : Value} {hs : List (List Int)} {ms xs : List Int} (Val : Nat → Value → World → Prop) (w0 w : World) (bq : Nat) (y0 : Value) (sl : Option Addr) (sc : Nat) (h : RdP w0 v hs ms) (hx : Rd w0 (.slice sl xs.length sc) xs) (hb0 : Below w0.heap.size w0 w) (hok : isP hs ms = true) (hu : Tr.okU xs = true)
    (hV : ∀ j y w w', Val j y w → (∀ k, y.ownBlock = some k → w'.heap[k]? = w.heap[k]?) → Val j y w') (hVb : ∀ j y w, Val j y w → ∀ k, y.ownBlock = some k → k < w.heap.size)
    (hbq : w0.heap.size ≤ bq) (hq0 : Blk w bq [y0] 24) (hv0 : Val 0 y0 w) (hy0 : y0.ownBlock ≠ some bq)
    (HT : ∀ j w' y, j < xs.length → Blk w' bq [y] 24 → Val j y w' → y.ownBlock ≠ some bq → w0.heap.size ≤ w'.heap.size → Calls Try.prog 28 #[.int .i64 (oldK hs ms xs j), .bool (hitK hs ms xs j), .pointer (some ⟨bq, 0, none⟩)] w' (Told Val 24 w0.heap.size bq j y w')) :
    Calls Try.prog 27 #[v, .slice sl xs.length sc, .func (.func 28) #[] #[.pointer (some ⟨bq, 0, none⟩)]] w (RanP Val 24 w0.heap.size bq xs.length (rowL ms.length (kK hs ms xs xs.length)) w) := by
  obtain ⟨a, c, a', c', rfl, h1, h2, h3, h4, h5⟩ := h
  obtain ⟨a3, c3, e3, hxc, hxm, hxr⟩ := hx
  injection e3 with e4 e5 e6
  subst e4 e6
  have hn := Tr.okU_len hu
  have hw0 := hb0.size
  have b0 := (Below.refl w.heap.size w).alloc (Nat.le_refl _) (.cells #[.slice a hs.length c, .slice a' ms.length c'] 29)
  have HR := Lib.hid (rules_any (w := w.alloc (.cells #[.slice a hs.length c, .slice a' ms.length c'] 29)) ⟨a, c, a', c', rfl, (h1.below hb0).below b0, h2, (h3.below hb0).below b0, h4, h5⟩)
  unfold RulR at HR
  have HL := Lib.hid (rulC_len (isP hs ms) ms.length hs ms)
  have H1 := Lib.hid (one_rulC (isP hs ms) ms.length hs ms)
  have HC := Lib.hid (show (rulC (isP hs ms) ms.length hs ms)[0]? = some (.int .i64 ms.length) by rw [hok]; rfl)
  have HU := Lib.hid (fun (w' : World) (hb : Below w0.heap.size w0 w') => show Calls Try.prog 40 #[.slice sl xs.length sc] w' (Bl true w') from hu ▸ Tr.uses_i sl sc xs w' (by omega) (hxr.below hb))
  have HUSE := Lib.hid (fun (k : Nat → Int) (x : Int) (w' : World) => (show Calls Try.prog 37 #[.agg (rulC (isP hs ms) ms.length hs ms).toArray, .agg (six6 k).toArray, .int .i64 x] w' (RetB (.tuple #[.agg #[.int .i64 (stN hs ms k x 0), .int .i64 (stN hs ms k x 1), .int .i64 (stN hs ms k x 2), .int .i64 (stN hs ms k x 3), .int .i64 (stN hs ms k x 4), .int .i64 (stN hs ms k x 5)], .bool (hitB ms.length k x)]) w') from by rw [hok]; exact use_any hs ms hok k x w'))
  obtain ⟨hp1, hp6⟩ : 1 ≤ ms.length ∧ ms.length ≤ 6 := by unfold isP at hok; simp only [Bool.and_eq_true, decide_eq_true_eq] at hok; omega
  have HK0 := Lib.hid (show kK hs ms xs 0 = fun _ => -1 from rfl)
  have HKS := Lib.hid (fun j => show kK hs ms xs (j + 1) = stN hs ms (kK hs ms xs j) (xs.getD j 0) from rfl)
  have HOL := Lib.hid (fun j => show oldK hs ms xs j = kK hs ms xs j (ms.length - 1) from rfl)
  have HHI := Lib.hid (fun j => show hitK hs ms xs j = hitB ms.length (kK hs ms xs j) (xs.getD j 0) from rfl)
  have HFI := Lib.hid (fun (k : Nat → Int) (w' : World) => (show Calls Try.prog 33 #[.agg (six6 k).toArray, .int .i64 ((ms.length : Nat) : Int)] w' (fun e' w9 => ∃ v', e' = .returned v' ∧ OwnW w9 w'.heap.size v' (rowL ms.length k) ∧ (∀ q, v'.ownBlock = some q → q = w'.heap.size) ∧ w'.alloc (.cells (c6 (k 0) (k 1) (k 2) (k 3) (k 4) (k 5)) 52) = w9) from
    (first_i ms.length hp1 hp6 _ _ _ _ _ _ w').mono fun e w9 ⟨he, hw⟩ => ⟨_, he, by rw [← hw]; exact first_row ms.length hp6 _ w' 52, fun q hq => by injection hq with hq; exact hq.symm, hw⟩))
  have HE6 := Lib.hid (fun (w' : World) => empty6_i w')
  unfold six at HE6
  have HHV := Lib.hid hV
  have HHB := Lib.hid hVb
  have HTT := Lib.hid HT
  have HXR := Lib.hid hxr
  unfold Row at HXR
  obtain ⟨d43, hu43, hd43⟩ := und43
  have HU4 := Lib.hid (And.intro hu43 hd43)
  obtain ⟨d6, hu6, hd6⟩ := und6
  have HU6 := Lib.hid (And.intro hu6 hd6)
  have HB0 := Lib.hid hb0
  have HQ0 := Lib.hid hq0
  have HV0 := Lib.hid hv0
  clear h1 h3 h5 hxc hxm hxr hu43 hd43 hu6 hd6 hu hV hVb HT hb0 hq0 hv0 b0
  generalize hKK : kK hs ms xs = KK at *
  generalize hOK : oldK hs ms xs = OK at *
  generalize hHK : hitK hs ms xs = HK at *
  clear hKK hOK hHK
  generalize rulC (isP hs ms) ms.length hs ms = rc at *
  rw [hok] at HR
  clear hok
  generalize hs.length = NH at *
  generalize hM : ms.length = M at *
  clear hM
  generalize hN : xs.length = N at *
  clear hN
  go_enter Try.func27, Try.ntmps27
  go_wp2_with fail
  refine HR.out.mono ?_; rintro e w1 ⟨rfl, b1⟩
  have B1 := Lib.hid (show Below w.heap.size w w1 from bt ((Below.refl w.heap.size w).alloc (Nat.le_refl _) _) b1)
  have sw1 : w.heap.size < w1.heap.size := Nat.lt_of_lt_of_le (by simp) b1.size
  clear b1
  go_wp2_with (with_reducible refine wpList_storeB rfl 60 (.tmp 8) (.tmp 18) rfl w1.heap.size 0 rc ?_ ?_ z43 60 ?_ ?_ ?_ ?_ ?_)
  · rfl
  · rfl
  · exact Blk.newAt _ _ _ _ rfl
  · rw [HL.out]; decide
  · rw [HL.out]; exact isz43
  · exact H1.out
  intro w2 hB2 hK
  rw [splice_all _ _ HL.out] at hB2
  have hb2 : Below w.heap.size w w2 := (B1.out.alloc (B1.out.size) _).trans (hK.out.below B1.out.size)
  have HBW := Lib.hid hb2
  have HX := Lib.hid hB2
  clear hb2 hK HR B1
  have HUW := Lib.hid (HU.out w2 (HB0.out.trans (HBW.out.mono hw0)))
  go_wp2_with (first | (go_at_call 40; (with_reducible refine HUW.out.mono ?_); rintro e w3 ⟨rfl, rfl⟩))
  refine (HE6.out w2).mono ?_; rintro e w3 ⟨rfl, b3⟩
  have HX3 := Lib.hid (HX.out.below b3 HX.out.lt)
  have HBW3 := Lib.hid (bt HBW.out b3)
  have hB2 := HX.out.lt
  have s3 := b3.size
  clear b3 HX HBW HUW
  have hX4 := HX3.out.alloc (.cells #[.int .i64 (-1), .int .i64 (-1), .int .i64 (-1), .int .i64 (-1), .int .i64 (-1), .int .i64 (-1)] 64)
  have hC4 : Blk (w3.alloc (.cells #[.int .i64 (-1), .int .i64 (-1), .int .i64 (-1), .int .i64 (-1), .int .i64 (-1), .int .i64 (-1)] 64)) w3.heap.size (six6 (fun _ => -1)) 64 := Blk.newAt w3 _ (six6 (fun _ => -1)) _ rfl
  have hW4 := bt HBW3.out ((Below.refl w3.heap.size w3).alloc (Nat.le_refl _) (.cells #[.int .i64 (-1), .int .i64 (-1), .int .i64 (-1), .int .i64 (-1), .int .i64 (-1), .int .i64 (-1)] 64))
  have hz4 : (w3.alloc (.cells #[.int .i64 (-1), .int .i64 (-1), .int .i64 (-1), .int .i64 (-1), .int .i64 (-1), .int .i64 (-1)] 64)).heap.size = w3.heap.size + 1 := Array.size_push _
  have HX4 := Lib.hid hX4
  have HC4 := Lib.hid hC4
  have HW4 := Lib.hid hW4
  clear hX4 hC4 hW4 HX3 HBW3
  go_wp2_with fail
  have hXlt : w1.heap.size < w3.heap.size := Nat.lt_of_lt_of_le hB2 s3
  have hqw := HQ0.out.lt
  generalize (w3.alloc (.cells #[.int .i64 (-1), .int .i64 (-1), .int .i64 (-1), .int .i64 (-1), .int .i64 (-1), .int .i64 (-1)] 64)) = w4 at *
  clear hz4
  go_loopw [30] (fun i wr => ∃ (j : Nat) (y : Value), j ≤ N ∧ i = .int .i64 j ∧ Hid (Blk wr w1.heap.size rc 60) ∧ Hid (Blk wr w3.heap.size (six6 (KK j)) 64) ∧ Hid (Blk wr bq [y] 24) ∧ Hid (Val j y wr) ∧ Hid (y.ownBlock ≠ some bq ∧ y.ownBlock ≠ some w1.heap.size ∧ y.ownBlock ≠ some w3.heap.size) ∧ Hid (Below w0.heap.size w0 wr) ∧ Hid (w.heap.size ≤ wr.heap.size) ∧ Hid (Below w0.heap.size w wr)) (fun i _ => N - (intOf i).toNat)
  case atStart =>
    refine ⟨0, y0, Nat.zero_le _, rfl, HX4, ?_, Lib.hid (HQ0.out.below HW4.out hqw), Lib.hid (HHV.out 0 y0 w w4 HV0.out fun k hk => HW4.out.block k (HHB.out 0 y0 w HV0.out k hk)), Lib.hid ⟨hy0, fun e => ?_, fun e => ?_⟩, Lib.hid (HB0.out.trans (HW4.out.mono hw0)), Lib.hid HW4.out.size, Lib.hid (HW4.out.mono hw0)⟩
    · rw [HK0.out]; exact HC4
    · have := HHB.out 0 y0 w HV0.out _ e; omega
    · have := HHB.out 0 y0 w HV0.out _ e; omega
  case round =>
    obtain ⟨j, y, hj, rfl, hX, hCb, hQ, hVl, hny, hBB, hsw, hBz⟩ := hrel
    clear HX4 HC4 HW4 HQ0 HV0 HK0
    by_cases hlt : j < N
    · obtain ⟨b9, off9, rfl, k1, k2⟩ := HXR.out j hlt
      have k3 : wr.cell? ⟨b9, off9 + j, none⟩ = some (.int .i64 (xs.getD j 0)) := (hBB.out.cell (p := ⟨b9, off9 + j, none⟩) k2).trans k1
      have hks := Lib.hid (HKS.out j)
      have hol := Lib.hid (HOL.out j)
      have hhi := Lib.hid (HHI.out j)
      have HTj := Lib.hid (fun w' y' h1 h2 h3 h4 => HTT.out j w' y' hlt h1 h2 h3 h4)
      have hM5 : (M : Int) - 1 < 6 := by omega
      have hM0 : (0 : Int) ≤ (M : Int) - 1 := by omega
      have hM1 : ((M : Int) - 1).toNat = M - 1 := by omega
      clear k1 HKS HOL HHI HTT
      rw [hol.out, hhi.out] at HTj
      obtain ⟨K2, hK2⟩ : ∃ K2, KK (j + 1) = K2 := ⟨_, rfl⟩
      rw [hK2] at hks
      have HK2 := Lib.hid hK2
      clear hK2
      generalize xs.getD j 0 = x at *
      have HUX := Lib.hid (HUSE.out (KK j) x wr)
      have hck := Lib.hid (six6_get (KK j) (M - 1) (by omega))
      rw [← hks.out] at HUX
      have HC6 := Lib.hid (show (six6 (KK j)).length = 6 from rfl)
      have HC62 := Lib.hid (show (six6 K2).length = 6 from rfl)
      generalize hitB M (KK j) x = hb at *
      generalize KK j (M - 1) = old at *
      generalize six6 (KK j) = CK at *
      go_wp2_with (first | (with_reducible refine wpList_loadB rfl 60 (.tmp 8) rfl w1.heap.size ?_ rc 60 hX.out d43 HU4.out.1 HU4.out.2 ?_ ?_) | (with_reducible refine wpList_loadB rfl 64 (.tmp 10) rfl w3.heap.size ?_ CK 64 hCb.out d6 HU6.out.1 HU6.out.2 ?_ ?_))
      · rfl
      · rw [HL.out]; exact isz43
      · rw [HC6.out]; exact isz6c
      refine HUX.out.mono ?_; rintro e w5 ⟨rfl, b5⟩
      have hX5 := hX.out.below b5 hX.out.lt
      have hC5 := hCb.out.below b5 hCb.out.lt
      have d0 : w5.cell? ⟨w1.heap.size, 0, none⟩ = some (.int .i64 M) := (hX5.cell 0).trans HC.out
      have d1 : w5.cell? ⟨w3.heap.size, M - 1, none⟩ = some (.int .i64 old) := (hC5.cell (M - 1)).trans hck.out
      have l0 := hX5.lt
      have l1 := hC5.lt
      have BQ5 := Lib.hid (hQ.out.below b5 hQ.out.lt)
      have BV5 := Lib.hid (HHV.out j y wr w5 hVl.out fun k hk => b5.block k (HHB.out j y wr hVl.out k hk))
      have BX5 := Lib.hid hX5
      have BC5 := Lib.hid hC5
      have ly := Lib.hid (fun k hk => HHB.out j y wr hVl.out k hk)
      have B5 := Lib.hid (hBB.out.trans (b5.mono hBB.out.size))
      have Bz5 := Lib.hid (hBz.out.trans (b5.mono hBB.out.size))
      have sw5 := Lib.hid (Nat.le_trans hsw.out b5.size)
      have s5 := Lib.hid b5.size
      clear hX5 hC5 hX hCb hQ hVl hBz hsw b5 HUX
      go_wp2_with fail
      have w6z : (w5.alloc (.cells #[.int .i64 (K2 0), .int .i64 (K2 1), .int .i64 (K2 2), .int .i64 (K2 3), .int .i64 (K2 4), .int .i64 (K2 5)] 64)).heap.size = w5.heap.size + 1 := Array.size_push _
      have hA6 : Blk (w5.alloc (.cells #[.int .i64 (K2 0), .int .i64 (K2 1), .int .i64 (K2 2), .int .i64 (K2 3), .int .i64 (K2 4), .int .i64 (K2 5)] 64)) w5.heap.size (six6 K2) 64 := Blk.newAt w5 _ (six6 K2) _ rfl
      have hX6 := BX5.out.alloc (.cells #[.int .i64 (K2 0), .int .i64 (K2 1), .int .i64 (K2 2), .int .i64 (K2 3), .int .i64 (K2 4), .int .i64 (K2 5)] 64)
      have hC6 := BC5.out.alloc (.cells #[.int .i64 (K2 0), .int .i64 (K2 1), .int .i64 (K2 2), .int .i64 (K2 3), .int .i64 (K2 4), .int .i64 (K2 5)] 64)
      have hQ6 := BQ5.out.alloc (.cells #[.int .i64 (K2 0), .int .i64 (K2 1), .int .i64 (K2 2), .int .i64 (K2 3), .int .i64 (K2 4), .int .i64 (K2 5)] 64)
      have b6 : Below w5.heap.size w5 (w5.alloc (.cells #[.int .i64 (K2 0), .int .i64 (K2 1), .int .i64 (K2 2), .int .i64 (K2 3), .int .i64 (K2 4), .int .i64 (K2 5)] 64)) := (Below.refl _ w5).alloc (Nat.le_refl _) _
      have hyl5 := fun k hk => Nat.lt_of_lt_of_le (ly.out k hk) s5.out
      have hV6 := HHV.out j y w5 _ BV5.out fun k hk => b6.block k (hyl5 k hk)
      have hB6 := B5.out.trans (b6.mono (Nat.le_trans (Nat.le_trans hw0 sw5.out) (Nat.le_refl _)))
      have hBz6 := Bz5.out.trans (b6.mono (Nat.le_trans (Nat.le_trans hw0 sw5.out) (Nat.le_refl _)))
      clear d0 d1 hck hol hhi
      generalize (w5.alloc (.cells #[.int .i64 (K2 0), .int .i64 (K2 1), .int .i64 (K2 2), .int .i64 (K2 3), .int .i64 (K2 4), .int .i64 (K2 5)] 64)) = w6 at *
      refine (HTj.out w6 y hQ6 hV6 hny.out.1 (by have := sw5.out; omega)).mono ?_
      rintro e w7 ⟨rfl, y', hQ7, hV7, hy7, hB7, hk7, hn7⟩
      have hX7 := Blk.sameB hX6 (hk7 _ (by omega) (fun e => by omega) hny.out.2.1)
      have hC7 := Blk.sameB hC6 (hk7 _ (by omega) (fun e => by omega) hny.out.2.2)
      have hA7 := Blk.sameB hA6 (hk7 _ (by omega) (fun e => by have := hqw; have := sw5.out; omega) (fun e => by have := hyl5 _ e; omega))
      have HX7 := Lib.hid hX7
      have HC7 := Lib.hid hC7
      have HA7 := Lib.hid hA7
      have HQ7 := Lib.hid hQ7
      have HV7 := Lib.hid hV7
      have HB7 := Lib.hid (hB6.trans hB7)
      have HBz7 := Lib.hid (hBz6.trans hB7)
      have HN7 := Lib.hid hn7
      have HY7 := Lib.hid hy7
      have s7 := Lib.hid hB7.size
      have hAC : w5.heap.size ≠ w3.heap.size := by omega
      clear hX7 hC7 hA7 hQ7 hV7 hB7 hk7 hn7 hy7 hX6 hC6 hA6 hQ6 hV6 hB6 hBz6 b6 BX5 BC5 BQ5 BV5 B5 Bz5 HTj
      go_wp2_with (first | (with_reducible refine wpList_loadB rfl 64 (.tmp 13) rfl w5.heap.size ?_ (six6 K2) 64 HA7.out d6 HU6.out.1 HU6.out.2 ?_ ?_) | (with_reducible refine wpList_storeB rfl 64 (.tmp 10) (.tmp 49) rfl w3.heap.size 0 (six6 K2) ?_ ?_ CK 64 HC7.out ?_ ?_ ?_ ?_))
      · rfl
      · rw [HC62.out]; exact isz6c
      · rw [HC62.out, HC6.out]; decide
      · rw [HC62.out]; exact isz6c
      · exact one_six K2
      intro w8 hB8 hK8
      have hB8' := hB8.out
      rw [splice_all _ _ (by rw [HC62.out, HC6.out])] at hB8'
      have HR1 := Lib.hid hB8'
      have HR2 := Lib.hid (hK8.out.blk HX7.out (by omega))
      have hyX : y'.ownBlock ≠ some w1.heap.size := fun e => by
        rcases HN7.out _ e with h | h
        · exact hny.out.2.1 h
        · omega
      have hyC : y'.ownBlock ≠ some w3.heap.size := fun e => by
        rcases HN7.out _ e with h | h
        · exact hny.out.2.2 h
        · omega
      have HR3 := Lib.hid (hK8.out.blk HQ7.out (by have := sw5.out; omega))
      have HR4 := Lib.hid (HHV.out (j + 1) y' w7 w8 HV7.out fun k hk => hK8.out.block k (fun e => hyC (by rw [hk, e])))
      have HR5 := Lib.hid (show y'.ownBlock ≠ some bq ∧ y'.ownBlock ≠ some w1.heap.size ∧ y'.ownBlock ≠ some w3.heap.size from ⟨HY7.out, hyX, hyC⟩)
      have hz0 : w0.heap.size ≤ w3.heap.size := by have := Nat.le_trans hw0 (Nat.le_of_lt sw1); omega
      have HR6 := Lib.hid (HB7.out.trans (hK8.out.below hz0))
      have HR7 := Lib.hid (show w.heap.size ≤ w8.heap.size from by have h1 := hK8.out.size; have h2 := s7.out; have h3 := sw5.out; omega)
      have HR8 := Lib.hid (HBz7.out.trans (hK8.out.below hz0))
      clear hB8 hB8' hK8 HX7 HC7 HA7 HQ7 HV7 HB7 HBz7 HN7 HY7 s7
      go_wp2
      go_roundw
      case rel => exact ⟨j + 1, y', by omega, by go_num, HR2, (by rw [HK2.out]; exact HR1), HR3, HR4, HR5, HR6, HR7, HR8⟩
      case measure => simp [intOf]; omega
    · have e : j = N := by omega
      subst e
      have HC6 := Lib.hid (show (six6 (KK j)).length = 6 from rfl)
      have d0 : wr.cell? ⟨w1.heap.size, 0, none⟩ = some (.int .i64 M) := (hX.out.cell 0).trans HC.out
      have HFK := Lib.hid (HFI.out (KK j) wr)
      have hcw := Lib.hid hCb.out.lt
      generalize six6 (KK j) = CK at *
      clear HTT HKS HOL HHI HUSE
      go_wp2_with (first | (with_reducible refine wpList_loadB rfl 64 (.tmp 10) rfl w3.heap.size ?_ CK 64 hCb.out d6 HU6.out.1 HU6.out.2 ?_ ?_))
      · rfl
      · rw [HC6.out]; exact isz6c
      refine HFK.out.mono ?_; rintro e w5 ⟨v5, rfl, o5, hq5, hw5⟩
      have b5 : Below wr.heap.size wr w5 := by rw [← hw5]; exact (Below.refl _ _).alloc (Nat.le_refl _) _
      have ly := fun k hk => HHB.out j y wr hVl.out k hk
      have R1 := Lib.hid (OwnW.mono o5 hBB.out.size)
      have R2 := Lib.hid (hQ.out.below b5 hQ.out.lt)
      have R3 := Lib.hid (HHV.out j y wr w5 hVl.out fun k hk => b5.block k (ly k hk))
      have R4 := Lib.hid (show ∀ k, v5.ownBlock = some k → w.heap.size ≤ k ∧ y.ownBlock ≠ some k from fun k hk => ⟨by have := hq5 k hk; have := hsw.out; omega, fun e => by have h1 := ly k e; have h2 := hq5 k hk; omega⟩)
      have R5 := Lib.hid (hBz.out.trans (b5.mono hBB.out.size))
      clear b5 hw5 o5 hq5 ly
      go_wp2
      go_ret2
      exact ⟨_, y, rfl, R1.out, R2.out, R3.out, hny.out.1, R4.out, R5.out⟩
end Go.Proofs.Ytellclgpejmmaaa.Pv
namespace Go.Proofs.Ytellclgpejmmaaa.Pv
open Go.RowKit
def valR (hs : List (List Int)) (ms xs : List Int) (Z j : Nat) (y : Value) (w : World) : Prop := Own w Z y (Tr.told (hitF hs ms xs) j)
set_option maxHeartbeats 1000000 in
theorem clo_R (hs : List (List Int)) (ms xs : List Int) (Z bq j : Nat) (y : Value) (w : World) (hj : j < 60) (hq : Blk w bq [y] 24) (hv : valR hs ms xs Z j y w) (hZ : Z ≤ bq) (hy : y.ownBlock ≠ some bq) (hZw : Z ≤ w.heap.size) :
    Calls Try.prog 28 #[.int .i64 (oldK hs ms xs j), .bool (hitK hs ms xs j), .pointer (some ⟨bq, 0, none⟩)] w (Told (valR hs ms xs Z) 24 Z bq j y w) := by
  have ho : Own w Z y (Tr.told (hitF hs ms xs) j) := hv
  obtain ⟨ya, yc, ey⟩ := ho.form
  have HS := Tr.told_succ (hitF hs ms xs) j
  have hfd : hitF hs ms xs j = if hitK hs ms xs j then 1 else 0 := rfl
  rw [hfd] at HS
  have hq1 : (Tr.told (hitF hs ms xs) j).length + 1 ≤ 1000000000 := by rw [Tr.told_length]; omega
  have HVD := Lib.hid (fun (w' : World) (y' : Value) (h : Own w' Z y' (Tr.told (hitF hs ms xs) (j + 1))) => show valR hs ms xs Z (j + 1) y' w' from h)
  have hc : w.cell? ⟨bq, 0, none⟩ = some y := hq.cell 0
  have HQ := Lib.hid hq
  unfold Told
  generalize valR hs ms xs Z = Val at *
  rw [Tr.told_length] at ey
  clear hq hv hfd
  have HFIN := Lib.hid (fun (u : Int) (hu : Tr.told (hitF hs ms xs) (j + 1) = Tr.told (hitF hs ms xs) j ++ [u]) (v' : Value) (w1 : World) (ho1 : Own w1 Z v' (Tr.told (hitF hs ms xs) j ++ [u])) (hb1 : Below Z w w1) (hk1 : ∀ k, k < w.heap.size → y.ownBlock ≠ some k → w1.heap[k]? = w.heap[k]?) (hv1 : ∀ k, v'.ownBlock = some k → y.ownBlock = some k ∨ w.heap.size ≤ k) =>
    show (w1.cell? ⟨bq, 0, none⟩ = some y ∧ w1.frozen? ⟨bq, 0, none⟩ = false) ∧ ∃ y', Blk (w1.setCell ⟨bq, 0, none⟩ v') bq [y'] 24 ∧ Val (j + 1) y' (w1.setCell ⟨bq, 0, none⟩ v') ∧ y'.ownBlock ≠ some bq ∧ Below Z w (w1.setCell ⟨bq, 0, none⟩ v') ∧ (∀ k, k < w.heap.size → k ≠ bq → y.ownBlock ≠ some k → (w1.setCell ⟨bq, 0, none⟩ v').heap[k]? = w.heap[k]?) ∧ (∀ k, y'.ownBlock = some k → y.ownBlock = some k ∨ w.heap.size ≤ k) from by
      have hbl := HQ.out.lt
      have hq2 : Blk w1 bq [y] 24 := (hk1 bq hbl hy).trans HQ.out
      have hv'q : v'.ownBlock ≠ some bq := fun e => by
        rcases hv1 _ e with h | h
        · exact hy h
        · omega
      refine ⟨⟨hq2.cell 0, hq2.froz 0⟩, v', ?_, HVD.out _ _ (by rw [hu]; exact ho1.keepB fun k hk => set_oth _ (fun e => hv'q (by rw [hk]; exact congrArg some e))), hv'q, hb1.setCell (p := ⟨bq, 0, none⟩) hZ _, fun k hk hne hky => ?_, hv1⟩
      · have h := Go.heap_setCell_same w1 bq 0 _ _ v' hq2
        unfold Blk; rw [h]; rfl
      · rw [set_oth _ hne, hk1 k hk hky])
  generalize Tr.told (hitF hs ms xs) j = L at *
  generalize oldK hs ms xs j = o at *
  subst ey
  cases hh : hitK hs ms xs j
  · rw [hh] at HS
    have hF := Lib.hid (HFIN.out _ HS)
    clear HS hh HFIN
    go_enter Try.func28, Try.ntmps28
    go_wp2_with (at_builtin; refine wpList_appK w rfl _ _ rfl Z _ L _ ?_ ?_ ho hq1 hZw ?_; rfl; rfl)
    intro v' w1 ho1 hb1 hk1 hv1
    obtain ⟨⟨c1, f1⟩, hfin⟩ := hF.out v' w1 ho1 hb1 hk1 hv1
    obtain ⟨a3, n3, c3, e3⟩ : ∃ a n c, v' = Value.slice a n c := by obtain ⟨a3, c3, e3⟩ := ho1.form; exact ⟨a3, _, c3, e3⟩
    subst e3
    have HFN := Lib.hid hfin
    clear hfin hF ho1 hb1 hk1 hv1
    go_wp2
    go_end0
    exact ⟨rfl, HFN.out⟩
  · rw [hh] at HS
    have hF := Lib.hid (HFIN.out _ HS)
    clear HS hh HFIN
    go_enter Try.func28, Try.ntmps28
    go_wp2_with (at_builtin; refine wpList_appK w rfl _ _ rfl Z _ L _ ?_ ?_ ho hq1 hZw ?_; rfl; rfl)
    intro v' w1 ho1 hb1 hk1 hv1
    obtain ⟨⟨c1, f1⟩, hfin⟩ := hF.out v' w1 ho1 hb1 hk1 hv1
    obtain ⟨a3, n3, c3, e3⟩ : ∃ a n c, v' = Value.slice a n c := by obtain ⟨a3, c3, e3⟩ := ho1.form; exact ⟨a3, _, c3, e3⟩
    subst e3
    have HFN := Lib.hid hfin
    clear hfin hF ho1 hb1 hk1 hv1
    go_wp2
    go_end0
    exact ⟨rfl, HFN.out⟩
end Go.Proofs.Ytellclgpejmmaaa.Pv
namespace Go.Proofs.Ytellclgpejmmaaa.Pv
open Go.RowKit
/-- The contents at the end. -/
def rncV (hs : List (List Int)) (ms xs : List Int) : List Int := if misOk hs ms xs then rowL ms.length (kK hs ms xs xs.length) else []
/-- What a function leaves that returns two lists and whether it succeeded. -/
def ResRR (xs ys : List Int) (ok : Bool) (w : World) (e : Ending) (w' : World) : Prop := ∃ v1 v2, e = .returned (.tuple #[v1, v2, .bool ok]) ∧ OwnW w' w.heap.size v1 xs ∧ OwnW w' w.heap.size v2 ys ∧ (∀ k, v2.ownBlock = some k → v1.ownBlock ≠ some k) ∧ Below w.heap.size w w'
def rnpV (hs : List (List Int)) (ms xs : List Int) : List Int := if misOk hs ms xs then Tr.told (hitF hs ms xs) xs.length else []
set_option maxHeartbeats 2000000 in
theorem rnp_i {v : Value} {hs : List (List Int)} {ms xs : List Int} {w : World} {a2 : Option Addr} {c2 : Nat} (h : RdP w v hs ms) (hx : Rd w (.slice a2 xs.length c2) xs) (hxl : xs.length ≤ 1048576) :
    Calls Try.prog 10 #[v, .slice a2 xs.length c2] w (ResRR (rnpV hs ms xs) (rncV hs ms xs) (misOk hs ms xs) w) := by
  have h' := h
  obtain ⟨a, c, a', c', rfl, h1, h2, h3, h4, h5⟩ := h'
  have b1 := ((Below.refl w.heap.size w).alloc (Nat.le_refl _) (.cells #[.slice a hs.length c, .slice a' ms.length c'] 29)).alloc (by simp) (.cells #[.slice none 0 0] 24)
  have hz : (w.alloc (.cells #[.slice a hs.length c, .slice a' ms.length c'] 29)).heap.size = w.heap.size + 1 := Array.size_push _
  have bk : Blk ((w.alloc (.cells #[.slice a hs.length c, .slice a' ms.length c'] 29)).alloc (.cells #[.slice none 0 0] 24)) (w.heap.size + 1) [.slice none 0 0] 24 := Blk.newAt _ _ [.slice none 0 0] _ hz.symm
  cases hok : misOk hs ms xs
  · have hno : ¬ (isP hs ms = true ∧ Tr.okU xs = true) := fun hh => by unfold misOk at hok; rw [hh.1, hh.2] at hok; cases hok
    have HRN := Lib.hid (run_no ((w.alloc (.cells #[.slice a hs.length c, .slice a' ms.length c'] 29)).alloc (.cells #[.slice none 0 0] 24)) (.func (.func 28) #[] #[.pointer (some ⟨w.heap.size + 1, 0, none⟩)]) a2 c2 (h.below b1) (hx.below b1) hxl hno)
    have e : rnpV hs ms xs = [] := by unfold rnpV; rw [hok]; rfl
    have e2 : rncV hs ms xs = [] := by unfold rncV; rw [hok]; rfl
    rw [e, e2]
    clear e2
    have HB1 := Lib.hid b1
    have HBK := Lib.hid bk
    clear h h1 h3 h5 hx hno hok e b1 bk hz
    generalize hs.length = NH at *
    generalize ms.length = M at *
    generalize xs.length = N at *
    go_enter Try.func10, Try.ntmps10
    go_wp2_with fail
    refine HRN.out.mono ?_; rintro e w2 ⟨rfl, b2⟩
    have c0 : w2.cell? ⟨w.heap.size + 1, 0, none⟩ = some (.slice none 0 0) := (HBK.out.below b2 HBK.out.lt).cell 0
    have HB2 := Lib.hid (bt HB1.out b2)
    clear b2
    go_wp2
    go_ret3
    exact ⟨_, _, rfl, OwnW.nil _ _, OwnW.nil _ _, (fun k hk => by cases hk), HB2.out⟩
  · have hh : isP hs ms = true ∧ Tr.okU xs = true := by unfold misOk at hok; rw [Bool.and_eq_true] at hok; exact hok
    have hn := Tr.okU_len hh.2
    have HRY := Lib.hid (run_R (valR hs ms xs w.heap.size) w ((w.alloc (.cells #[.slice a hs.length c, .slice a' ms.length c'] 29)).alloc (.cells #[.slice none 0 0] 24)) (w.heap.size + 1) (.slice none 0 0) a2 c2 h hx b1 hh.1 hh.2
      (fun j y w1 w' hv hk => Own.keepB (show Own w1 w.heap.size y _ from hv) hk) (fun j y w1 hv k hk => (Own.block (show Own w1 w.heap.size y _ from hv) k hk).2) (Nat.le_succ _) bk (show Own _ _ _ [] from Own.nil _ _) (fun e => by cases e)
      (fun j w' y hj hq hv hy hw => clo_R hs ms xs w.heap.size (w.heap.size + 1) j y w' (by omega) hq hv (Nat.le_succ _) hy hw))
    have e : rnpV hs ms xs = Tr.told (hitF hs ms xs) xs.length := by unfold rnpV; rw [hok]; rfl
    have e2 : rncV hs ms xs = rowL ms.length (kK hs ms xs xs.length) := by unfold rncV; rw [hok]; rfl
    rw [e, e2]
    clear e2
    have HVE := Lib.hid (fun (y : Value) (w' : World) (hv : valR hs ms xs w.heap.size xs.length y w') => show Own w' w.heap.size y (Tr.told (hitF hs ms xs) xs.length) from hv)
    unfold RanP at HRY
    clear h h1 h3 h5 hx hh hok e b1 bk hz
    generalize valR hs ms xs w.heap.size = Val at *
    generalize Tr.told (hitF hs ms xs) xs.length = R at *
    generalize rowL ms.length (kK hs ms xs xs.length) = RW at *
    generalize hs.length = NH at *
    generalize ms.length = M at *
    generalize xs.length = N at *
    go_enter Try.func10, Try.ntmps10
    go_wp2_with fail
    refine HRY.out.mono ?_; rintro e w2 ⟨v2, y2, rfl, oc2, q2, hv2, _, hap2, b2⟩
    have ho2 := HVE.out y2 w2 hv2
    have c0 : w2.cell? ⟨w.heap.size + 1, 0, none⟩ = some y2 := q2.cell 0
    have HB2 := Lib.hid (((((Below.refl w.heap.size w).alloc (Nat.le_refl _) (.cells #[.slice a NH c, .slice a' M c'] 29)).alloc (by simp) (.cells #[.slice none 0 0] 24))).trans b2)
    have HO2 := Lib.hid ho2.weak
    have HC2 := Lib.hid oc2
    have HA2 := Lib.hid (show ∀ k, v2.ownBlock = some k → y2.ownBlock ≠ some k from fun k hk => (hap2 k hk).2)
    clear oc2 hap2
    clear b2 hv2 q2 ho2
    go_wp2
    go_ret3
    exact ⟨_, _, rfl, HO2.out, HC2.out, HA2.out, HB2.out⟩
end Go.Proofs.Ytellclgpejmmaaa.Pv
