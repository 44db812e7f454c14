/- The program's runUses, with the closure of MissesOf$1. -/
import Derived.Test.YtdclcdokdkeimaaCrunP
namespace Go.Proofs.Ytdclcdokdkeimaa.Pv
open Go.RowKit
set_option maxHeartbeats 4000000 in
set_option maxRecDepth 100000 in
theorem run_M {v : Value} {hs : List (List Int)} {ms xs : List Int} (Val : Nat → Value → World → Prop) (w0 w : World) (bq : Nat) (y0 : Value) (sl : Option Addr) (sc : Nat) (h : RdP w0 v hs ms) (hx : Rd w0 (.slice sl xs.length sc) xs) (hb0 : Below w0.heap.size w0 w) (hok : isP hs ms = true) (hu : Tr.okU xs = true)
    (hV : ∀ j y w w', Val j y w → (∀ k, y.ownBlock = some k → w'.heap[k]? = w.heap[k]?) → Val j y w') (hVb : ∀ j y w, Val j y w → ∀ k, y.ownBlock = some k → k < w.heap.size)
    (hbq : w0.heap.size ≤ bq) (hq0 : Blk w bq [y0] 2) (hv0 : Val 0 y0 w) (hy0 : y0.ownBlock ≠ some bq)
    (HT : ∀ j w' y, j < xs.length → Blk w' bq [y] 2 → Val j y w' → y.ownBlock ≠ some bq → w0.heap.size ≤ w'.heap.size → Calls Try.prog 48 #[.int .i64 (oldK hs ms xs j), .bool (hitK hs ms xs j), .pointer (some ⟨bq, 0, none⟩)] w' (Told Val 2 w0.heap.size bq j y w')) :
    Calls Try.prog 45 #[v, .slice sl xs.length sc, .func (.func 48) #[] #[.pointer (some ⟨bq, 0, none⟩)]] w (RanP Val 2 w0.heap.size bq xs.length (rowL ms.length (kK hs ms xs xs.length)) w) := by
  obtain ⟨a, c, a', c', rfl, h1, h2, h3, h4, h5⟩ := h
  obtain ⟨a3, c3, e3, hxc, hxm, hxr⟩ := hx
  injection e3 with e4 e5 e6
  subst e4 e6
  have hn := Tr.okU_len hu
  have hw0 := hb0.size
  have b0 := (Below.refl w.heap.size w).alloc (Nat.le_refl _) (.cells #[.slice a hs.length c, .slice a' ms.length c'] 29)
  have HR := Lib.hid (rules_any (w := w.alloc (.cells #[.slice a hs.length c, .slice a' ms.length c'] 29)) ⟨a, c, a', c', rfl, (h1.below hb0).below b0, h2, (h3.below hb0).below b0, h4, h5⟩)
  unfold RulR at HR
  have HL := Lib.hid (rulC_len (isP hs ms) ms.length hs ms)
  have H1 := Lib.hid (one_rulC (isP hs ms) ms.length hs ms)
  have HC := Lib.hid (show (rulC (isP hs ms) ms.length hs ms)[0]? = some (.int .i64 ms.length) by rw [hok]; rfl)
  have HU := Lib.hid (fun (w' : World) (hb : Below w0.heap.size w0 w') => show Calls Try.prog 67 #[.slice sl xs.length sc] w' (Bl true w') from hu ▸ Tr.uses_i sl sc xs w' (by omega) (hxr.below hb))
  have HUSE := Lib.hid (fun (k : Nat → Int) (x : Int) (w' : World) => (show Calls Try.prog 39 #[.agg (rulC (isP hs ms) ms.length hs ms).toArray, .agg (six6 k).toArray, .int .i64 x] w' (RetB (.tuple #[.agg #[.int .i64 (stN hs ms k x 0), .int .i64 (stN hs ms k x 1), .int .i64 (stN hs ms k x 2), .int .i64 (stN hs ms k x 3), .int .i64 (stN hs ms k x 4), .int .i64 (stN hs ms k x 5)], .bool (hitB ms.length k x)]) w') from by rw [hok]; exact use_any hs ms hok k x w'))
  obtain ⟨hp1, hp6⟩ : 1 ≤ ms.length ∧ ms.length ≤ 6 := by unfold isP at hok; simp only [Bool.and_eq_true, decide_eq_true_eq] at hok; omega
  have HK0 := Lib.hid (show kK hs ms xs 0 = fun _ => -1 from rfl)
  have HKS := Lib.hid (fun j => show kK hs ms xs (j + 1) = stN hs ms (kK hs ms xs j) (xs.getD j 0) from rfl)
  have HOL := Lib.hid (fun j => show oldK hs ms xs j = kK hs ms xs j (ms.length - 1) from rfl)
  have HHI := Lib.hid (fun j => show hitK hs ms xs j = hitB ms.length (kK hs ms xs j) (xs.getD j 0) from rfl)
  have HFI := Lib.hid (fun (k : Nat → Int) (w' : World) => (show Calls Try.prog 40 #[.agg (six6 k).toArray, .int .i64 ((ms.length : Nat) : Int)] w' (fun e' w9 => ∃ v', e' = .returned v' ∧ OwnW w9 w'.heap.size v' (rowL ms.length k) ∧ (∀ q, v'.ownBlock = some q → q = w'.heap.size) ∧ w'.alloc (.cells (c6 (k 0) (k 1) (k 2) (k 3) (k 4) (k 5)) 55) = w9) from
    (first_i ms.length hp1 hp6 _ _ _ _ _ _ w').mono fun e w9 ⟨he, hw⟩ => ⟨_, he, by rw [← hw]; exact first_row ms.length hp6 _ w' 55, fun q hq => by injection hq with hq; exact hq.symm, hw⟩))
  have HE6 := Lib.hid (fun (w' : World) => empty6_i w')
  unfold six at HE6
  have HHV := Lib.hid hV
  have HHB := Lib.hid hVb
  have HTT := Lib.hid HT
  have HXR := Lib.hid hxr
  unfold Row at HXR
  obtain ⟨d43, hu43, hd43⟩ := und43
  have HU4 := Lib.hid (And.intro hu43 hd43)
  obtain ⟨d6, hu6, hd6⟩ := und6
  have HU6 := Lib.hid (And.intro hu6 hd6)
  have HB0 := Lib.hid hb0
  have HQ0 := Lib.hid hq0
  have HV0 := Lib.hid hv0
  clear h1 h3 h5 hxc hxm hxr hu43 hd43 hu6 hd6 hu hV hVb HT hb0 hq0 hv0 b0
  generalize hKK : kK hs ms xs = KK at *
  generalize hOK : oldK hs ms xs = OK at *
  generalize hHK : hitK hs ms xs = HK at *
  clear hKK hOK hHK
  generalize rulC (isP hs ms) ms.length hs ms = rc at *
  rw [hok] at HR
  clear hok
  generalize hs.length = NH at *
  generalize hM : ms.length = M at *
  clear hM
  generalize hN : xs.length = N at *
  clear hN
  go_enter Try.func45, Try.ntmps45
  go_wp2_with fail
  refine HR.out.mono ?_; rintro e w1 ⟨rfl, b1⟩
  have B1 := Lib.hid (show Below w.heap.size w w1 from bt ((Below.refl w.heap.size w).alloc (Nat.le_refl _) _) b1)
  have sw1 : w.heap.size < w1.heap.size := Nat.lt_of_lt_of_le (by simp) b1.size
  clear b1
  go_wp2_with (with_reducible refine wpList_storeB rfl 59 (.tmp 8) (.tmp 18) rfl w1.heap.size 0 rc ?_ ?_ z43 59 ?_ ?_ ?_ ?_ ?_)
  · rfl
  · rfl
  · exact Blk.newAt _ _ _ _ rfl
  · rw [HL.out]; decide
  · rw [HL.out]; exact isz43
  · exact H1.out
  intro w2 hB2 hK
  rw [splice_all _ _ HL.out] at hB2
  have hb2 : Below w.heap.size w w2 := (B1.out.alloc (B1.out.size) _).trans (hK.out.below B1.out.size)
  have HBW := Lib.hid hb2
  have HX := Lib.hid hB2
  clear hb2 hK HR B1
  have HUW := Lib.hid (HU.out w2 (HB0.out.trans (HBW.out.mono hw0)))
  go_wp2_with (first | (go_at_call 67; (with_reducible refine HUW.out.mono ?_); rintro e w3 ⟨rfl, rfl⟩))
  refine (HE6.out w2).mono ?_; rintro e w3 ⟨rfl, b3⟩
  have HX3 := Lib.hid (HX.out.below b3 HX.out.lt)
  have HBW3 := Lib.hid (bt HBW.out b3)
  have hB2 := HX.out.lt
  have s3 := b3.size
  clear b3 HX HBW HUW
  have hX4 := HX3.out.alloc (.cells #[.int .i64 (-1), .int .i64 (-1), .int .i64 (-1), .int .i64 (-1), .int .i64 (-1), .int .i64 (-1)] 63)
  have hC4 : Blk (w3.alloc (.cells #[.int .i64 (-1), .int .i64 (-1), .int .i64 (-1), .int .i64 (-1), .int .i64 (-1), .int .i64 (-1)] 63)) w3.heap.size (six6 (fun _ => -1)) 63 := Blk.newAt w3 _ (six6 (fun _ => -1)) _ rfl
  have hW4 := bt HBW3.out ((Below.refl w3.heap.size w3).alloc (Nat.le_refl _) (.cells #[.int .i64 (-1), .int .i64 (-1), .int .i64 (-1), .int .i64 (-1), .int .i64 (-1), .int .i64 (-1)] 63))
  have hz4 : (w3.alloc (.cells #[.int .i64 (-1), .int .i64 (-1), .int .i64 (-1), .int .i64 (-1), .int .i64 (-1), .int .i64 (-1)] 63)).heap.size = w3.heap.size + 1 := Array.size_push _
  have HX4 := Lib.hid hX4
  have HC4 := Lib.hid hC4
  have HW4 := Lib.hid hW4
  clear hX4 hC4 hW4 HX3 HBW3
  go_wp2_with fail
  have hXlt : w1.heap.size < w3.heap.size := Nat.lt_of_lt_of_le hB2 s3
  have hqw := HQ0.out.lt
  generalize (w3.alloc (.cells #[.int .i64 (-1), .int .i64 (-1), .int .i64 (-1), .int .i64 (-1), .int .i64 (-1), .int .i64 (-1)] 63)) = w4 at *
  clear hz4
  go_loopw [30] (fun i wr => ∃ (j : Nat) (y : Value), j ≤ N ∧ i = .int .i64 j ∧ Hid (Blk wr w1.heap.size rc 59) ∧ Hid (Blk wr w3.heap.size (six6 (KK j)) 63) ∧ Hid (Blk wr bq [y] 2) ∧ Hid (Val j y wr) ∧ Hid (y.ownBlock ≠ some bq ∧ y.ownBlock ≠ some w1.heap.size ∧ y.ownBlock ≠ some w3.heap.size) ∧ Hid (Below w0.heap.size w0 wr) ∧ Hid (w.heap.size ≤ wr.heap.size) ∧ Hid (Below w0.heap.size w wr)) (fun i _ => N - (intOf i).toNat)
  case atStart =>
    refine ⟨0, y0, Nat.zero_le _, rfl, HX4, ?_, Lib.hid (HQ0.out.below HW4.out hqw), Lib.hid (HHV.out 0 y0 w w4 HV0.out fun k hk => HW4.out.block k (HHB.out 0 y0 w HV0.out k hk)), Lib.hid ⟨hy0, fun e => ?_, fun e => ?_⟩, Lib.hid (HB0.out.trans (HW4.out.mono hw0)), Lib.hid HW4.out.size, Lib.hid (HW4.out.mono hw0)⟩
    · rw [HK0.out]; exact HC4
    · have := HHB.out 0 y0 w HV0.out _ e; omega
    · have := HHB.out 0 y0 w HV0.out _ e; omega
  case round =>
    obtain ⟨j, y, hj, rfl, hX, hCb, hQ, hVl, hny, hBB, hsw, hBz⟩ := hrel
    clear HX4 HC4 HW4 HQ0 HV0 HK0
    by_cases hlt : j < N
    · obtain ⟨b9, off9, rfl, k1, k2⟩ := HXR.out j hlt
      have k3 : wr.cell? ⟨b9, off9 + j, none⟩ = some (.int .i64 (xs.getD j 0)) := (hBB.out.cell (p := ⟨b9, off9 + j, none⟩) k2).trans k1
      have hks := Lib.hid (HKS.out j)
      have hol := Lib.hid (HOL.out j)
      have hhi := Lib.hid (HHI.out j)
      have HTj := Lib.hid (fun w' y' h1 h2 h3 h4 => HTT.out j w' y' hlt h1 h2 h3 h4)
      have hM5 : (M : Int) - 1 < 6 := by omega
      have hM0 : (0 : Int) ≤ (M : Int) - 1 := by omega
      have hM1 : ((M : Int) - 1).toNat = M - 1 := by omega
      clear k1 HKS HOL HHI HTT
      rw [hol.out, hhi.out] at HTj
      obtain ⟨K2, hK2⟩ : ∃ K2, KK (j + 1) = K2 := ⟨_, rfl⟩
      rw [hK2] at hks
      have HK2 := Lib.hid hK2
      clear hK2
      generalize xs.getD j 0 = x at *
      have HUX := Lib.hid (HUSE.out (KK j) x wr)
      have hck := Lib.hid (six6_get (KK j) (M - 1) (by omega))
      rw [← hks.out] at HUX
      have HC6 := Lib.hid (show (six6 (KK j)).length = 6 from rfl)
      have HC62 := Lib.hid (show (six6 K2).length = 6 from rfl)
      generalize hitB M (KK j) x = hb at *
      generalize KK j (M - 1) = old at *
      generalize six6 (KK j) = CK at *
      go_wp2_with (first | (with_reducible refine wpList_loadB rfl 59 (.tmp 8) rfl w1.heap.size ?_ rc 59 hX.out d43 HU4.out.1 HU4.out.2 ?_ ?_) | (with_reducible refine wpList_loadB rfl 63 (.tmp 10) rfl w3.heap.size ?_ CK 63 hCb.out d6 HU6.out.1 HU6.out.2 ?_ ?_))
      · rfl
      · rw [HL.out]; exact isz43
      · rw [HC6.out]; exact isz6c
      refine HUX.out.mono ?_; rintro e w5 ⟨rfl, b5⟩
      have hX5 := hX.out.below b5 hX.out.lt
      have hC5 := hCb.out.below b5 hCb.out.lt
      have d0 : w5.cell? ⟨w1.heap.size, 0, none⟩ = some (.int .i64 M) := (hX5.cell 0).trans HC.out
      have d1 : w5.cell? ⟨w3.heap.size, M - 1, none⟩ = some (.int .i64 old) := (hC5.cell (M - 1)).trans hck.out
      have l0 := hX5.lt
      have l1 := hC5.lt
      have BQ5 := Lib.hid (hQ.out.below b5 hQ.out.lt)
      have BV5 := Lib.hid (HHV.out j y wr w5 hVl.out fun k hk => b5.block k (HHB.out j y wr hVl.out k hk))
      have BX5 := Lib.hid hX5
      have BC5 := Lib.hid hC5
      have ly := Lib.hid (fun k hk => HHB.out j y wr hVl.out k hk)
      have B5 := Lib.hid (hBB.out.trans (b5.mono hBB.out.size))
      have Bz5 := Lib.hid (hBz.out.trans (b5.mono hBB.out.size))
      have sw5 := Lib.hid (Nat.le_trans hsw.out b5.size)
      have s5 := Lib.hid b5.size
      clear hX5 hC5 hX hCb hQ hVl hBz hsw b5 HUX
      go_wp2_with fail
      have w6z : (w5.alloc (.cells #[.int .i64 (K2 0), .int .i64 (K2 1), .int .i64 (K2 2), .int .i64 (K2 3), .int .i64 (K2 4), .int .i64 (K2 5)] 63)).heap.size = w5.heap.size + 1 := Array.size_push _
      have hA6 : Blk (w5.alloc (.cells #[.int .i64 (K2 0), .int .i64 (K2 1), .int .i64 (K2 2), .int .i64 (K2 3), .int .i64 (K2 4), .int .i64 (K2 5)] 63)) w5.heap.size (six6 K2) 63 := Blk.newAt w5 _ (six6 K2) _ rfl
      have hX6 := BX5.out.alloc (.cells #[.int .i64 (K2 0), .int .i64 (K2 1), .int .i64 (K2 2), .int .i64 (K2 3), .int .i64 (K2 4), .int .i64 (K2 5)] 63)
      have hC6 := BC5.out.alloc (.cells #[.int .i64 (K2 0), .int .i64 (K2 1), .int .i64 (K2 2), .int .i64 (K2 3), .int .i64 (K2 4), .int .i64 (K2 5)] 63)
      have hQ6 := BQ5.out.alloc (.cells #[.int .i64 (K2 0), .int .i64 (K2 1), .int .i64 (K2 2), .int .i64 (K2 3), .int .i64 (K2 4), .int .i64 (K2 5)] 63)
      have b6 : Below w5.heap.size w5 (w5.alloc (.cells #[.int .i64 (K2 0), .int .i64 (K2 1), .int .i64 (K2 2), .int .i64 (K2 3), .int .i64 (K2 4), .int .i64 (K2 5)] 63)) := (Below.refl _ w5).alloc (Nat.le_refl _) _
      have hyl5 := fun k hk => Nat.lt_of_lt_of_le (ly.out k hk) s5.out
      have hV6 := HHV.out j y w5 _ BV5.out fun k hk => b6.block k (hyl5 k hk)
      have hB6 := B5.out.trans (b6.mono (Nat.le_trans (Nat.le_trans hw0 sw5.out) (Nat.le_refl _)))
      have hBz6 := Bz5.out.trans (b6.mono (Nat.le_trans (Nat.le_trans hw0 sw5.out) (Nat.le_refl _)))
      clear d0 d1 hck hol hhi
      generalize (w5.alloc (.cells #[.int .i64 (K2 0), .int .i64 (K2 1), .int .i64 (K2 2), .int .i64 (K2 3), .int .i64 (K2 4), .int .i64 (K2 5)] 63)) = w6 at *
      refine (HTj.out w6 y hQ6 hV6 hny.out.1 (by have := sw5.out; omega)).mono ?_
      rintro e w7 ⟨rfl, y', hQ7, hV7, hy7, hB7, hk7, hn7⟩
      have hX7 := Blk.sameB hX6 (hk7 _ (by omega) (fun e => by omega) hny.out.2.1)
      have hC7 := Blk.sameB hC6 (hk7 _ (by omega) (fun e => by omega) hny.out.2.2)
      have hA7 := Blk.sameB hA6 (hk7 _ (by omega) (fun e => by have := hqw; have := sw5.out; omega) (fun e => by have := hyl5 _ e; omega))
      have HX7 := Lib.hid hX7
      have HC7 := Lib.hid hC7
      have HA7 := Lib.hid hA7
      have HQ7 := Lib.hid hQ7
      have HV7 := Lib.hid hV7
      have HB7 := Lib.hid (hB6.trans hB7)
      have HBz7 := Lib.hid (hBz6.trans hB7)
      have HN7 := Lib.hid hn7
      have HY7 := Lib.hid hy7
      have s7 := Lib.hid hB7.size
      have hAC : w5.heap.size ≠ w3.heap.size := by omega
      clear hX7 hC7 hA7 hQ7 hV7 hB7 hk7 hn7 hy7 hX6 hC6 hA6 hQ6 hV6 hB6 hBz6 b6 BX5 BC5 BQ5 BV5 B5 Bz5 HTj
      go_wp2_with (first | (with_reducible refine wpList_loadB rfl 63 (.tmp 13) rfl w5.heap.size ?_ (six6 K2) 63 HA7.out d6 HU6.out.1 HU6.out.2 ?_ ?_) | (with_reducible refine wpList_storeB rfl 63 (.tmp 10) (.tmp 49) rfl w3.heap.size 0 (six6 K2) ?_ ?_ CK 63 HC7.out ?_ ?_ ?_ ?_))
      · rfl
      · rw [HC62.out]; exact isz6c
      · rw [HC62.out, HC6.out]; decide
      · rw [HC62.out]; exact isz6c
      · exact one_six K2
      intro w8 hB8 hK8
      have hB8' := hB8.out
      rw [splice_all _ _ (by rw [HC62.out, HC6.out])] at hB8'
      have HR1 := Lib.hid hB8'
      have HR2 := Lib.hid (hK8.out.blk HX7.out (by omega))
      have hyX : y'.ownBlock ≠ some w1.heap.size := fun e => by
        rcases HN7.out _ e with h | h
        · exact hny.out.2.1 h
        · omega
      have hyC : y'.ownBlock ≠ some w3.heap.size := fun e => by
        rcases HN7.out _ e with h | h
        · exact hny.out.2.2 h
        · omega
      have HR3 := Lib.hid (hK8.out.blk HQ7.out (by have := sw5.out; omega))
      have HR4 := Lib.hid (HHV.out (j + 1) y' w7 w8 HV7.out fun k hk => hK8.out.block k (fun e => hyC (by rw [hk, e])))
      have HR5 := Lib.hid (show y'.ownBlock ≠ some bq ∧ y'.ownBlock ≠ some w1.heap.size ∧ y'.ownBlock ≠ some w3.heap.size from ⟨HY7.out, hyX, hyC⟩)
      have hz0 : w0.heap.size ≤ w3.heap.size := by have := Nat.le_trans hw0 (Nat.le_of_lt sw1); omega
      have HR6 := Lib.hid (HB7.out.trans (hK8.out.below hz0))
      have HR7 := Lib.hid (show w.heap.size ≤ w8.heap.size from by have h1 := hK8.out.size; have h2 := s7.out; have h3 := sw5.out; omega)
      have HR8 := Lib.hid (HBz7.out.trans (hK8.out.below hz0))
      clear hB8 hB8' hK8 HX7 HC7 HA7 HQ7 HV7 HB7 HBz7 HN7 HY7 s7
      go_wp2
      go_roundw
      case rel => exact ⟨j + 1, y', by omega, by go_num, HR2, (by rw [HK2.out]; exact HR1), HR3, HR4, HR5, HR6, HR7, HR8⟩
      case measure => simp [intOf]; omega
    · have e : j = N := by omega
      subst e
      have HC6 := Lib.hid (show (six6 (KK j)).length = 6 from rfl)
      have d0 : wr.cell? ⟨w1.heap.size, 0, none⟩ = some (.int .i64 M) := (hX.out.cell 0).trans HC.out
      have HFK := Lib.hid (HFI.out (KK j) wr)
      have hcw := Lib.hid hCb.out.lt
      generalize six6 (KK j) = CK at *
      clear HTT HKS HOL HHI HUSE
      go_wp2_with (first | (with_reducible refine wpList_loadB rfl 63 (.tmp 10) rfl w3.heap.size ?_ CK 63 hCb.out d6 HU6.out.1 HU6.out.2 ?_ ?_))
      · rfl
      · rw [HC6.out]; exact isz6c
      refine HFK.out.mono ?_; rintro e w5 ⟨v5, rfl, o5, hq5, hw5⟩
      have b5 : Below wr.heap.size wr w5 := by rw [← hw5]; exact (Below.refl _ _).alloc (Nat.le_refl _) _
      have ly := fun k hk => HHB.out j y wr hVl.out k hk
      have R1 := Lib.hid (OwnW.mono o5 hBB.out.size)
      have R2 := Lib.hid (hQ.out.below b5 hQ.out.lt)
      have R3 := Lib.hid (HHV.out j y wr w5 hVl.out fun k hk => b5.block k (ly k hk))
      have R4 := Lib.hid (show ∀ k, v5.ownBlock = some k → w.heap.size ≤ k ∧ y.ownBlock ≠ some k from fun k hk => ⟨by have := hq5 k hk; have := hsw.out; omega, fun e => by have h1 := ly k e; have h2 := hq5 k hk; omega⟩)
      have R5 := Lib.hid (hBz.out.trans (b5.mono hBB.out.size))
      clear b5 hw5 o5 hq5 ly
      go_wp2
      go_ret2
      exact ⟨_, y, rfl, R1.out, R2.out, R3.out, hny.out.1, R4.out, R5.out⟩
end Go.Proofs.Ytdclcdokdkeimaa.Pv
