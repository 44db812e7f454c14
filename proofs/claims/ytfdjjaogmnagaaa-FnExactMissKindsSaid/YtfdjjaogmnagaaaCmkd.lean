/- Contract of the model's MissKinds. -/
import Derived.Test.YtfdjjaogmnagaaaCsmi
import Derived.Test.YtfdjjaogmnagaaaCixq
import Derived.Test.YtfdjjaogmnagaaaPlainFst
namespace Go.Proofs.Ytfdjjaogmnagaaa.Ix
open Go.RowKit Tr Bt
/-- The places of the whole: those of a set times the sets. -/
def wholeP (ns : List Nat) (pl : Nat) : Nat := pl * 2 ^ rk 8 (spanS (pad ns)).length
def kindN (ns : List Nat) (pl : Nat) (us : List Int) : List Int :=
  [((setP us).length : Int), (misS (pad []) 0 ((wholeP ns pl : Nat) : Int) us us.length : Int) - ((setP us).length : Int), (misS (pad ns) ns.length (pl : Int) us us.length : Int) - (misS (pad []) 0 ((wholeP ns pl : Nat) : Int) us us.length : Int)]
theorem rk_three (n : Nat) (h : n ≤ 8) : rk 8 n ≤ 3 := by
  have : ∀ m, m < 9 → rk 8 m ≤ 3 := by decide
  exact this n (by omega)
theorem i64_wrapN (q : Nat) (h : q < 9223372036854775808) : IntKind.i64.wrap (q : Int) = (q : Int) := IntWalk.i64_in _ (by omega)
theorem shlP (pl k : Nat) (hp : pl ≤ 4) (hk : k ≤ 3) : IntKind.i64.wrap ((pl : Int) * 2 ^ k) = ((pl * 2 ^ k : Nat) : Int) ∧ pl * 2 ^ k ≤ 32 := by
  have e : k = 0 ∨ k = 1 ∨ k = 2 ∨ k = 3 := by omega
  have h : pl * 2 ^ k ≤ 32 := by rcases e with rfl | rfl | rfl | rfl <;> omega
  refine ⟨?_, h⟩
  rw [show ((pl : Int) * 2 ^ k) = ((pl * 2 ^ k : Nat) : Int) by simp]
  generalize pl * 2 ^ k = q at *
  rw [i64_wrapN q (by omega)]
def kindV (xs : List Int) (n : Int) (us : List Int) : List Int := if (okX xs && (okPl n && okU us)) = true then kindN (xs.map Int.toNat) n.toNat us else []
theorem kindV_no {xs : List Int} {n : Int} {us : List Int} (h : (okX xs && (okPl n && okU us)) = false) : kindV xs n us = [] := by unfold kindV; rw [h]; rfl
theorem castL_toNat (ns : List Nat) : (castL ns).map Int.toNat = ns := by
  unfold castL
  rw [List.map_map]
  refine (List.map_congr_left fun x _ => ?_).trans (List.map_id ns)
  show ((x : Int)).toNat = x
  omega
theorem kindV_yes {ns : List Nat} {pl : Nat} {us : List Int} (h : (okX (castL ns) && (okPl (pl : Int) && okU us)) = true) : kindV (castL ns) (pl : Int) us = kindN ns pl us := by
  unfold kindV; rw [if_pos h, castL_toNat]; rfl
theorem Own.lit3 (w : World) (u0 u1 u2 : Int) : Own (w.alloc (.cells #[.int .i64 u0, .int .i64 u1, .int .i64 u2] 2)) w.heap.size (.slice (some ⟨w.heap.size, 0, none⟩) 3 3) [u0, u1, u2] :=
  World.ownsRow_lit w #[.int .i64 u0, .int .i64 u1, .int .i64 u2] 3 (Nat.le_refl _) (by unfold maxLen; omega) rfl
set_option maxHeartbeats 2000000 in
theorem kind_s {v vu : Value} {xs us : List Int} {w : World} (h : RdX w v xs) (hu : Rd w vu us) (hul : us.length ≤ 1048576) (n : Int) :
    Calls Try.prog 5 #[v, .int .i64 n, vu] w (Res (kindV xs n us) (okX xs && (okPl n && okU us)) w) := by
  have HP := Lib.hid (fun w9 => places_s n w9)
  have HU := Lib.hid (fun w9 (hb : Below w.heap.size w w9) => uses_sR (hu.below hb) hul)
  have HST := Lib.hid (fun w9 (hb : Below w.heap.size w w9) (hl9 : us.length ≤ 1000) => set_sR (hu.below hb) hl9)
  cases hb : (okX xs && (okPl n && okU us))
  · rw [kindV_no hb]
    clear HST
    obtain ⟨a, c, rfl, hr, hn, _⟩ := h
    obtain ⟨ua, uc, rfl, _, _, _⟩ := hu
    have b0 : Below w.heap.size w (w.alloc (.cells #[.slice a xs.length c] 28)) := (Below.refl _ w).alloc (Nat.le_refl _) _
    have H := Lib.hid (is_s w.heap.size a c xs _ hn (by simp) (hr.below b0))
    have HU2 := Lib.hid (HU.out _ b0)
    have B0 := Lib.hid b0
    clear hr b0 hn HU hul
    generalize xs.length = N at *
    generalize us.length = M at *
    generalize okX xs = ox at *
    generalize okPl n = op at *
    generalize okU us = ou at *
    cases ox <;> cases op <;> cases ou <;> first | (exact absurd hb (by decide)) | skip
    all_goals
      clear hb
      go_enter Try.func5, Try.ntmps5
      go_wp2_with (first | (go_at_call 15; refine H.out.mono ?_; rintro e w' ⟨rfl, rfl⟩) | (go_at_call 16; refine (HP.out _).mono ?_; rintro e w' ⟨rfl, rfl⟩) | (go_at_call 17; refine HU2.out.mono ?_; rintro e w' ⟨rfl, rfl⟩))
      go_ret2
      exact ⟨_, rfl, Own.nil _ _, B0.out⟩
  · have hb' := hb
    rw [Bool.and_eq_true, Bool.and_eq_true] at hb'
    obtain ⟨hx, hp, ho⟩ := hb'
    obtain ⟨ns, rfl, hl, h64⟩ := okX_nat hx
    have hp' := hp
    unfold okPl at hp'
    rw [Bool.and_eq_true, decide_eq_true_eq, decide_eq_true_eq] at hp'
    obtain ⟨pl, rfl⟩ := Int.eq_ofNat_of_zero_le (show 0 ≤ n by omega)
    rw [kindV_yes hb]
    have hlen := okU_len ho
    have hrk := rk_three _ (spanS_len (pad ns))
    obtain ⟨hsh, hwp⟩ := shlP pl (rk 8 (spanS (pad ns)).length) (by omega) hrk
    have hset := setP_length us
    have hm1 := misS_le (pad []) 0 ((wholeP ns pl : Nat) : Int) us us.length
    have hm2 := misS_le (pad ns) ns.length (pl : Int) us us.length
    have HKN := Lib.hid (show kindN ns pl us = [((setP us).length : Int), (misS (pad []) 0 ((wholeP ns pl : Nat) : Int) us us.length : Int) - ((setP us).length : Int), (misS (pad ns) ns.length (pl : Int) us us.length : Int) - (misS (pad []) 0 ((wholeP ns pl : Nat) : Int) us us.length : Int)] from rfl)
    obtain ⟨a, c, rfl, hr, hn, _⟩ := h
    obtain ⟨ua, uc, rfl, hu1, ⟨hu2, _⟩, hur⟩ := hu
    have b0 : Below w.heap.size w (w.alloc (.cells #[.slice a (castL ns).length c] 28)) := (Below.refl _ w).alloc (Nat.le_refl _) _
    have H := Lib.hid (is_s w.heap.size a c (castL ns) _ hn (by simp) (hr.below b0))
    have HM := Lib.hid (fun (w9 : World) (hb : Below w.heap.size w w9) => misses_s a c ns (pl : Int) ua uc us w9 hl h64 (hr.below hb) hlen (fun j hj => okU_at ho j hj) hu1 hu2 (hur.below hb))
    have HM0 := Lib.hid (fun (a0 : Option Addr) (c0 : Nat) (w9 : World) (hb : Below w.heap.size w w9) => misses_s a0 c0 [] ((wholeP ns pl : Nat) : Int) ua uc us w9 (by simp) (fun i => by simp) (fun i hi => absurd hi (by simp [castL])) hlen (fun j hj => okU_at ho j hj) hu1 hu2 (hur.below hb))
    have HRK := Lib.hid (fun (w9 : World) (hb : Below w.heap.size w w9) => rank_s a c ns w9 hl h64 (hr.below hb))
    have HU2 := Lib.hid (HU.out _ b0)
    rw [hx] at H
    rw [hp] at HP
    rw [ho] at HU2
    have B0 := Lib.hid b0
    have hNN := castL_len ns
    have hcell : (w.alloc (.cells #[.slice a (castL ns).length c] 28)).cell? ⟨w.heap.size, 0, none⟩ = some (.slice a (castL ns).length c) := by simp
    have hz0 : (w.alloc (.cells #[.slice a (castL ns).length c] 28)).heap.size = w.heap.size + 1 := Array.size_push _
    unfold wholeP at *
    clear hr b0 hn hb hx hp ho h64 HU hul hur hu1 hp'
    generalize rk 8 (spanS (pad ns)).length = k at *
    generalize hww : pl * 2 ^ k = W at *
    generalize misS (pad []) 0 (W : Int) us us.length = m0 at *
    generalize misS (pad ns) ns.length (pl : Int) us us.length = m1 at *
    generalize setP us = S at *
    have hl9 : us.length ≤ 1000 := by omega
    have HM00 := Lib.hid (fun (a0 : Option Addr) (c0 : Nat) (w9 : World) (hb : Below w.heap.size w w9) => (show Calls Try.prog 19 #[.slice a0 0 c0, .int .i64 (W : Int), .slice ua us.length uc] w9 (Nb (m0 : Int) w9) from HM0.out a0 c0 w9 hb))
    have HST9 := Lib.hid (fun w9 hb => HST.out w9 hb hl9)
    clear HM0 HST hl9
    rw [HKN.out]
    clear HKN hww
    generalize (castL ns).length = N' at *
    generalize ns.length = N at *
    generalize us.length = M at *
    subst hNN
    have HZ := Lib.hid (fun (w9 : World) (bb : Below (w.alloc (.cells #[.slice a N' c] 28)).heap.size (w.alloc (.cells #[.slice a N' c] 28)) w9) => (show w9.cell? ⟨w.heap.size, 0, none⟩ = some (.slice a N' c) ∧ w.heap.size < w9.heap.size from
      ⟨(bb.cell (p := ⟨w.heap.size, 0, none⟩) (by rw [hz0]; exact Nat.lt_succ_self _)).trans hcell, by have := bb.size; omega⟩))
    go_enter Try.func5, Try.ntmps5
    go_wp2_with (first
      | (go_at_call 15; refine H.out.mono ?_; rintro e w' ⟨rfl, rfl⟩)
      | (go_at_call 16; refine (HP.out _).mono ?_; rintro e w' ⟨rfl, rfl⟩)
      | (go_at_call 17; refine HU2.out.mono ?_; rintro e w' ⟨rfl, rfl⟩)
      | (go_at_call 18; refine (HST9.out _ B0.out).mono ?_; rintro e w3 ⟨v3, rfl, o3, b3⟩; obtain ⟨a3, c3, rfl⟩ := o3.form; obtain ⟨z3, l3⟩ := HZ.out w3 b3)
      | (go_at_call 20; refine (HRK.out _ ((bt B0.out b3).alloc (by have := B0.out.size; have := b3.size; omega) _)).mono ?_; rintro e w4 ⟨rfl, b4⟩; have b34 : Below w3.heap.size w3 w4 := ((Below.refl _ w3).alloc (Nat.le_refl _) _).trans (b4.mono (by show _ ≤ (w3.heap.push _).size; rw [Array.size_push]; exact Nat.le_succ _)); have B4 := Lib.hid (bt (bt B0.out b3) b34); obtain ⟨z4, l4⟩ := HZ.out w4 (bt b3 b34))
      | (go_at_call 19; (with_reducible refine (HM00.out _ _ _ B4.out).mono ?_); rintro e w5 ⟨rfl, b5⟩; have B5 := Lib.hid (bt B4.out b5); obtain ⟨z5, l5⟩ := HZ.out w5 (bt (bt b3 b34) b5); clear z3 l3 z4 l4 b4)
      | (go_at_call 19; (with_reducible refine (HM.out _ B5.out).mono ?_); rintro e w6 ⟨rfl, b6⟩; have B6 := Lib.hid (bt B5.out b6); clear b6)
      | fail)
    go_ret2
    exact ⟨_, rfl, (Own.lit3 _ _ _ _).mono B6.out.size, B6.out.alloc B6.out.size _⟩

end Go.Proofs.Ytfdjjaogmnagaaa.Ix
