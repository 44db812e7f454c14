/- The model's follower of a line, and its PairsOf. -/
import Derived.Test.YtmcnmjkickamkaaPlainFol
import Derived.Test.YtmcnmjkickamkaaCsts
import Derived.Test.YtmcnmjkickamkaaCo2
namespace Go.Proofs.Ytmcnmjkickamkaa.St
open Go.RowKit Ld Tr
set_option maxHeartbeats 2000000 in
theorem fol_s (a : Option Addr) (c : Nat) (L : List Int) (x : Int) (w : World) (hn : L.length ≤ 1048576) (hr : Row w a L) :
    Calls Try.prog 41 #[.slice a L.length c, .int .i64 x] w (Count (fol L x) w) := by
  have HC := Lib.hid (fun i (hi : i < L.length) => (show ∃ b off, a = some ⟨b, off, none⟩ ∧ w.cell? ⟨b, off + i, none⟩ = some (.int .i64 (L.getD i 0)) from by
    obtain ⟨b, off, e, h1, _⟩ := hr i hi
    exact ⟨b, off, e, h1⟩))
  have HS := Lib.hid (fdn_succ L x)
  have HF := Lib.hid (show fol L x = fdn L x (L.length - 1) from rfl)
  clear hr
  generalize fol L x = F at *
  generalize L.length = n at *
  have e2 : IntKind.i64.wrap ((n : Int) - 2) = (n : Int) - 2 := IntWalk.i64_in _ (by omega)
  go_enter Try.func41, Try.ntmps41
  go_wp2
  by_cases h0 : n = 0
  · subst h0
    have hF : F = -1 := HF.out
    subst hF
    refine wp_loop_rounds 1 ?_
    rw [rounds_succ]
    go_wp2
    go_ret
    exact ⟨rfl, rfl⟩
  · go_loop [5] (fun i => ∃ k : Nat, k + 1 ≤ n ∧ i = .int .i64 ((k : Int) - 1) ∧ Hid (F = fdn L x k)) (fun i => (intOf i + 1).toNat)
    case atStart => exact ⟨n - 1, by omega, by congr 1; omega, HF⟩
    case round =>
      obtain ⟨k, hk, rfl, hx⟩ := hrel
      cases k with
      | zero =>
        have hF : F = -1 := hx.out
        subst hF
        go_wp2
        go_ret
        exact ⟨rfl, rfl⟩
      | succ k =>
        obtain ⟨b, off, rfl, g0⟩ := HC.out k (by omega)
        obtain ⟨b', off', e', g1⟩ := HC.out (k + 1) (by omega)
        cases e'
        have hs := hx.out
        rw [HS.out k] at hs
        have d0 : (((k + 1 : Nat) : Int) - 1) = (k : Int) := by omega
        rw [d0]
        have k1 : (k : Int) < (n : Int) := by omega
        have k2 : (k : Int) + 1 < (n : Int) := by omega
        have e1 : IntKind.i64.wrap ((k : Int) + 1) = ((k + 1 : Nat) : Int) := by rw [IntWalk.i64_in _ (by omega)]; omega
        have e3 : IntKind.i64.wrap ((k : Int) - 1) = (k : Int) - 1 := IntWalk.i64_in _ (by omega)
        have k3 : ((k + 1 : Nat) : Int) < (n : Int) := by omega
        have HX := Lib.hid (show k + 1 ≤ n by omega)
        clear hx HF
        generalize L.getD k 0 = u at *
        generalize L.getD (k + 1) 0 = t at *
        by_cases he : u = x
        · rw [if_pos he] at hs
          subst hs
          subst he
          generalize k + 1 = k' at *
          go_wp2
          go_ret
          exact ⟨rfl, rfl⟩
        · rw [if_neg he] at hs
          have HH := Lib.hid hs
          clear hs e1 g1 k3 k2
          go_wp2
          go_round
          case rel => exact ⟨k, HX.out, rfl, HH⟩
          case measure => simp [intOf]
theorem okL_in {xs : List (Int × Int)} (h : okT xs = true) (s : Int) : ∀ v ∈ lst xs s xs.length, 0 ≤ v ∧ v ≤ 63 := lst_in xs (fun v => 0 ≤ v ∧ v ≤ 63) (okT_in h) s xs.length (Nat.le_refl _)
def okP (xs : List (Int × Int)) (s : Int) : Bool := okT xs && isK s
def prsV (xs : List (Int × Int)) (s : Int) : List (List Int) := prw (lst xs s xs.length) 64
set_option maxRecDepth 100000 in
set_option maxHeartbeats 4000000 in
theorem pairs_s (a : Option Addr) (c : Nat) (xs : List (Int × Int)) (s : Int) (w : World) (hn : xs.length ≤ 1048576) (hr : RowA w a xs) :
    Calls Try.prog 22 #[.slice a xs.length c, .int .i64 s] w (Res2 (if okP xs s then prsV xs s else []) (okP xs s) w) := by
  have hI := Lib.hid (is_s a c xs w hn hr)
  have hK := Lib.hid (fun w => kind_s s w)
  unfold okP
  cases hok : okT xs
  · rw [hok] at hI
    clear hr
    generalize xs.length = N at *
    go_enter Try.func22, Try.ntmps22
    go_wp2_with (go_at_call 29; refine hI.out.mono ?_; rintro e w' ⟨rfl, rfl⟩)
    go_ret2
    exact ⟨_, [], rfl, Own2.nil _ _, Below.refl _ _⟩
  · rw [hok] at hI
    cases hks : isK s
    · rw [hks] at hK
      clear hr
      generalize xs.length = N at *
      go_enter Try.func22, Try.ntmps22
      go_wp2_with (first | (go_at_call 29; refine hI.out.mono ?_; rintro e w' ⟨rfl, rfl⟩) | (go_at_call 39; refine (hK.out _).mono ?_; rintro e w' ⟨rfl, rfl⟩))
      go_ret2
      exact ⟨_, [], rfl, Own2.nil _ _, Below.refl _ _⟩
    · rw [hks] at hK
      show Calls _ _ _ w (Res2 (prsV xs s) true w)
      unfold prsV
      have HO := Lib.hid (of_s a c xs.length xs s w hn (Nat.le_refl _) hr)
      have HL := Lib.hid (lst_len xs s xs.length)
      have HV := Lib.hid (okL_in hok s)
      have h60 := okT_len hok
      clear hr hks hok
      generalize lst xs s xs.length = L at *
      generalize xs.length = N at *
      go_enter Try.func22, Try.ntmps22
      go_wp2_with (first | (go_at_call 29; refine hI.out.mono ?_; rintro e w' ⟨rfl, rfl⟩) | (go_at_call 39; refine (hK.out _).mono ?_; rintro e w' ⟨rfl, rfl⟩) | (go_at_call 40; refine HO.out.mono ?_; rintro e w1 ⟨v1, rfl, o1, b1⟩))
      obtain ⟨a1, c1, rfl, _, _, hr1⟩ := o1.rd
      have HLn : L.length ≤ 60 := Nat.le_trans HL.out h60
      have HF := Lib.hid (fun (w' : World) (bb : Below w1.heap.size w1 w') (x : Int) => fol_s a1 c1 L x w' (by omega) (hr1.below bb))
      have HB1 := Lib.hid b1
      have HIN := Lib.hid (fun x => fol_in L x HV.out)
      have HS := Lib.hid (prw_succ L)
      have HPL := Lib.hid (prw_len L)
      clear o1 b1 hr1 HL HV HO hI hK HLn
      generalize L.length = n at *
      go_loopw [7, 8, 9] (fun v i _ wr => ∃ j : Nat, j ≤ 64 ∧ i = .int .i64 j ∧ ∃ vs, Hid (Own2 wr w1.heap.size v vs (prw L j)) ∧ Hid (Below w1.heap.size w1 wr)) (fun _ i _ _ => 64 - (intOf i).toNat)
      case atStart => exact ⟨0, Nat.zero_le _, rfl, [], Own2.lit0 w1, (Below.refl _ _).alloc (Nat.le_refl _) _⟩
      case round =>
        obtain ⟨j, hj, rfl, vs, ho, hb⟩ := hrel
        by_cases hlt : j < 64
        · have HFJ := Lib.hid (HF.out wr hb.out (j : Int))
          have hin := HIN.out (j : Int)
          have hs := HS.out j
          have hq : (prw L j).length + 1 ≤ 1000000000 := by have := HPL.out j; omega
          generalize fol L (j : Int) = u at *
          by_cases h0 : 0 ≤ u
          · rw [if_pos h0] at hs
            have HS2 := Lib.hid hs
            have bI : Below wr.heap.size wr (wr.alloc (.cells #[.int .i64 (j : Nat), .int .i64 u] 2)) := (Below.refl _ _).alloc (Nat.le_refl _) _
            have hI2 := (Own.lit2 wr (j : Nat) u).mono (B' := w1.heap.size) hb.out.size
            have ho5 := Own2.below ho.out bI (Nat.le_refl _)
            obtain ⟨hf1, hf2⟩ := Own2.new (w' := wr) (g := wr.heap.size) (n := 2) (c := 2) ho.out (Nat.le_refl _)
            have HB5 := Lib.hid (hb.out.trans (bI.mono hb.out.size))
            have hsz := HB5.out.size
            have HO5 := Lib.hid ho5
            clear hs ho hb bI ho5
            generalize prw L j = l at *
            go_wp2_with (first | (go_at_call 41; refine HFJ.out.mono ?_; rintro e w' ⟨rfl, rfl⟩) | (at_builtin; refine wpList_app2 _ rfl _ _ rfl w1.heap.size _ vs l _ [(j : Nat), u] ?_ ?_ HO5.out hI2 hf1 hf2 hq hsz ?_; rfl; exact (show Value.slice (some ⟨wr.heap.size + 1, 0, none⟩) 1 1 = Value.slice (some ⟨(wr.alloc _).heap.size, 0, none⟩) 1 1 from by simp)))
            intro v' w6 ho6 hb6
            go_wp2
            go_roundw
            case rel => exact ⟨j + 1, by omega, by go_num, _, (by rw [HS2.out]; exact ho6), HB5.out.trans hb6⟩
            case measure => simp [intOf]; omega
          · rw [if_neg h0] at hs
            have HS2 := Lib.hid hs
            clear hs
            go_wp2_with (go_at_call 41; refine HFJ.out.mono ?_; rintro e w' ⟨rfl, rfl⟩)
            go_roundw
            case rel => exact ⟨j + 1, by omega, by go_num, _, (by rw [HS2.out]; exact ho), hb⟩
            case measure => simp [intOf]; omega
        · have e : j = 64 := by omega
          subst e
          go_wp2
          go_ret2
          exact ⟨_, _, rfl, Own2.mono ho.out HB1.out.size, HB1.out.trans (hb.out.mono HB1.out.size)⟩
end Go.Proofs.Ytmcnmjkickamkaa.St
