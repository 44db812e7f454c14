/- Contracts of the model's and the program's SetMisses. -/
import Derived.Test.YtbigielgkkijoaaCmisE
import Derived.Test.YtbigielgkkijoaaCixr
import Derived.Test.YtbigielgkkijoaaCbtg
import Derived.Test.YtbigielgkkijoaaCuses
namespace Go.Proofs.Ytbigielgkkijoaa.Ix
open Go.RowKit Tr Bt
def okPl (n : Int) : Bool := decide (1 ≤ n) && decide (n ≤ 4)
def misV (xs : List Int) (n : Int) (us : List Int) : Int := if (okX xs && (okPl n && okU us)) = true then ((misS (fun i => (xs.getD i 0).toNat) xs.length n us us.length : Nat) : Int) else 0
theorem misV_no {xs : List Int} {n : Int} {us : List Int} (h : (okX xs && (okPl n && okU us)) = false) : misV xs n us = 0 := by unfold misV; rw [h]; rfl
theorem misV_yes {ns : List Nat} {n : Int} {us : List Int} (h : (okX (castL ns) && (okPl n && okU us)) = true) : misV (castL ns) n us = ((misS (pad ns) ns.length n us us.length : Nat) : Int) := by
  unfold misV; rw [if_pos h, pad_fun, castL_len]
theorem places_s (n : Int) (w : World) : Calls Try.prog 19 #[.int .i64 n] w (Bl (okPl n) w) := by
  have H := Lib.hid (in_g n 1 4 w)
  unfold okPl
  generalize (decide (1 ≤ n) && decide (n ≤ 4)) = b at *
  go_enter Try.func19, Try.ntmps19
  go_wp2_with (go_at_call 31; refine H.out.mono ?_; rintro e w' ⟨rfl, rfl⟩)
  go_ret
  exact ⟨rfl, rfl⟩
theorem places_i (n : Int) (w : World) : Calls Try.prog 23 #[.int .i64 n] w (Bl (okPl n) w) := by
  have H := Lib.hid (btw_g n 1 4 w)
  unfold okPl
  generalize (decide (1 ≤ n) && decide (n ≤ 4)) = b at *
  go_enter Try.func23, Try.ntmps23
  go_wp2_with (go_at_call 35; refine H.out.mono ?_; rintro e w' ⟨rfl, rfl⟩)
  go_ret
  exact ⟨rfl, rfl⟩
set_option maxHeartbeats 2000000 in
theorem smis_s {v vu : Value} {xs us : List Int} {w : World} (h : RdX w v xs) (hu : Rd w vu us) (hul : us.length ≤ 1048576) (n : Int) :
    Calls Try.prog 6 #[v, .int .i64 n, vu] w (IbX (misV xs n us) (okX xs && (okPl n && okU us)) w) := by
  have HP := Lib.hid (fun w9 => places_s n w9)
  have HU := Lib.hid (fun w9 (hb : Below w.heap.size w w9) => uses_sR (hu.below hb) hul)
  cases hb : (okX xs && (okPl n && okU us))
  · rw [misV_no hb]
    obtain ⟨a, c, rfl, hr, hn, _⟩ := h
    obtain ⟨ua, uc, rfl, _, _, _⟩ := hu
    have b0 : Below w.heap.size w (w.alloc (.cells #[.slice a xs.length c] 28)) := (Below.refl _ w).alloc (Nat.le_refl _) _
    have H := Lib.hid (is_s w.heap.size a c xs _ hn (by simp) (hr.below b0))
    have HU2 := Lib.hid (HU.out _ b0)
    have B0 := Lib.hid b0
    clear hr b0 hn HU hul
    generalize xs.length = N at *
    generalize us.length = M at *
    generalize okX xs = ox at *
    generalize okPl n = op at *
    generalize okU us = ou at *
    cases ox <;> cases op <;> cases ou <;> first | (exact absurd hb (by decide)) | skip
    all_goals
      clear hb
      go_enter Try.func6, Try.ntmps6
      go_wp2_with (first | (go_at_call 18; refine H.out.mono ?_; rintro e w' ⟨rfl, rfl⟩) | (go_at_call 19; refine (HP.out _).mono ?_; rintro e w' ⟨rfl, rfl⟩) | (go_at_call 20; refine HU2.out.mono ?_; rintro e w' ⟨rfl, rfl⟩))
      go_ret2
      exact ⟨rfl, B0.out⟩
  · have hb' := hb
    rw [Bool.and_eq_true, Bool.and_eq_true] at hb'
    obtain ⟨hx, hp, ho⟩ := hb'
    obtain ⟨ns, rfl, hl, h64⟩ := okX_nat hx
    rw [misV_yes hb]
    obtain ⟨a, c, rfl, hr, hn, _⟩ := h
    obtain ⟨ua, uc, rfl, hu1, ⟨hu2, _⟩, hur⟩ := hu
    have b0 : Below w.heap.size w (w.alloc (.cells #[.slice a (castL ns).length c] 28)) := (Below.refl _ w).alloc (Nat.le_refl _) _
    have H := Lib.hid (is_s w.heap.size a c (castL ns) _ hn (by simp) (hr.below b0))
    have HM := Lib.hid (misses_s a c ns n ua uc us _ hl h64 (hr.below b0) (okU_len ho) (fun j hj => okU_at ho j hj) hu1 hu2 (hur.below b0))
    have HU2 := Lib.hid (HU.out _ b0)
    rw [hx] at H
    rw [hp] at HP
    rw [ho] at HU2
    have B0 := Lib.hid b0
    have hNN := castL_len ns
    clear hr b0 hn hb hx hp ho h64 HU hul hur hu1
    generalize misS (pad ns) ns.length n us us.length = q at *
    generalize (castL ns).length = N' at *
    generalize ns.length = N at *
    generalize us.length = M at *
    subst hNN
    go_enter Try.func6, Try.ntmps6
    go_wp2_with (first | (go_at_call 18; refine H.out.mono ?_; rintro e w' ⟨rfl, rfl⟩) | (go_at_call 19; refine (HP.out _).mono ?_; rintro e w' ⟨rfl, rfl⟩) | (go_at_call 20; refine HU2.out.mono ?_; rintro e w' ⟨rfl, rfl⟩) | (go_at_call 21; refine HM.out.mono ?_; rintro e w3 ⟨rfl, b3⟩))
    go_ret2
    exact ⟨rfl, bt B0.out b3⟩
theorem okU_nat {us : List Int} (h : okU us = true) : ∃ un : List Nat, us = castL un ∧ ∀ i, un.getD i 0 < 64 := by
  have hm : ∀ x ∈ us, 0 ≤ x ∧ x ≤ 63 := fun x hx => by
    obtain ⟨j, hj, e⟩ := List.getElem_of_mem hx
    have := okU_at h j hj
    rw [List.getD_eq_getElem?_getD, List.getElem?_eq_getElem hj, Option.getD_some, e] at this
    exact this
  have e : us = castL (us.map Int.toNat) := by
    unfold castL
    rw [List.map_map]
    refine (List.map_id us).symm.trans (List.map_congr_left fun x hx => ?_)
    have := (hm x hx).1
    show x = ((x.toNat : Nat) : Int)
    omega
  refine ⟨us.map Int.toNat, e, fun i => ?_⟩
  by_cases hi : i < us.length
  · have h1 := okU_at h i hi
    have h2 := castL_get (us.map Int.toNat) i
    rw [← e] at h2
    omega
  · rw [List.getD_eq_getElem?_getD, List.getElem?_eq_none (by simpa using hi)]; decide
set_option maxHeartbeats 4000000 in
theorem smis_i {v vu : Value} {xs us : List Int} {w : World} (h : RdX w v xs) (hu : Rd w vu us) (hul : us.length ≤ 1048576) (n : Int) :
    Calls Try.prog 9 #[v, .int .i64 n, vu] w (IbX (misV xs n us) (okX xs && (okPl n && okU us)) w) := by
  have HP := Lib.hid (fun w9 => places_i n w9)
  have HU := Lib.hid (fun w9 (hb : Below w.heap.size w w9) => uses_iR (hu.below hb) hul)
  cases hb : (okX xs && (okPl n && okU us))
  · rw [misV_no hb]
    cases ho : okX xs
    · have HR := Lib.hid (fun w9 (hb : Below w.heap.size w w9) => rows_no (h.below hb) ho)
      obtain ⟨a, c, rfl, _, _, _⟩ := h
      obtain ⟨ua, uc, rfl, _, _, _⟩ := hu
      have b0 : Below w.heap.size w (w.alloc (.cells #[.slice a xs.length c] 28)) := (Below.refl _ w).alloc (Nat.le_refl _) _
      have H := Lib.hid (HR.out _ b0)
      unfold RowsR aggR at H
      have B0 := Lib.hid b0
      clear b0 HR ho hb hul HU HP
      generalize xs.length = N at *
      generalize us.length = M at *
      go_enter Try.func9, Try.ntmps9
      go_wp2_with (go_at_call 22; refine H.out.mono ?_; rintro e w1 ⟨rfl, b1⟩)
      go_ret2
      exact ⟨rfl, (bt B0.out b1).alloc (by have := B0.out.size; have := b1.size; omega) _⟩
    · obtain ⟨ns, rfl, hl, h64⟩ := okX_nat ho
      have HR := Lib.hid (fun w9 (hb : Below w.heap.size w w9) => rows_yes (h.below hb) hl ho)
      obtain ⟨a, c, rfl, _, _, _⟩ := h
      have b0 : Below w.heap.size w (w.alloc (.cells #[.slice a (castL ns).length c] 28)) := (Below.refl _ w).alloc (Nat.le_refl _) _
      have H := Lib.hid (HR.out _ b0)
      have HUW := Lib.hid (fun (w1 : World) (b1 : Below (w.alloc (.cells #[.slice a (castL ns).length c] 28)).heap.size (w.alloc (.cells #[.slice a (castL ns).length c] 28)) w1) (o : Obj) => HU.out (w1.alloc o) ((bt b0 b1).alloc (by have := b0.size; have := b1.size; omega) _))
      obtain ⟨ua, uc, rfl, _, _, _⟩ := hu
      unfold RowsR aggR at H
      have B0 := Lib.hid b0
      rw [ho, Bool.true_and] at hb
      clear b0 HR ho hul HU h64 hl
      generalize pad ns 0 = r0 at *
      generalize pad ns 1 = r1 at *
      generalize pad ns 2 = r2 at *
      generalize (castL ns).length = N at *
      generalize us.length = M at *
      generalize okPl n = op at *
      generalize okU us = ou at *
      cases op <;> cases ou <;> first | (exact absurd hb (by decide)) | skip
      all_goals
        clear hb
        go_enter Try.func9, Try.ntmps9
        go_wp2_with (first | (go_at_call 22; refine H.out.mono ?_; rintro e w1 ⟨rfl, b1⟩) | (go_at_call 23; refine (HP.out _).mono ?_; rintro e w' ⟨rfl, rfl⟩) | (go_at_call 24; refine (HUW.out w1 b1 _).mono ?_; rintro e w' ⟨rfl, rfl⟩))
        go_ret2
        exact ⟨rfl, (bt B0.out b1).alloc (by have := B0.out.size; have := b1.size; omega) _⟩
  · have hb' := hb
    rw [Bool.and_eq_true, Bool.and_eq_true] at hb'
    obtain ⟨hx, hp, ho⟩ := hb'
    obtain ⟨ns, rfl, hl, h64⟩ := okX_nat hx
    obtain ⟨un, rfl, hu64⟩ := okU_nat ho
    rw [misV_yes hb]
    have hp' := hp
    unfold okPl at hp'
    rw [Bool.and_eq_true, decide_eq_true_eq, decide_eq_true_eq] at hp'
    obtain ⟨pl, rfl⟩ := Int.eq_ofNat_of_zero_le (show 0 ≤ n by omega)
    have hlen : un.length ≤ 60 := by have := okU_len ho; rwa [castL_len] at this
    have hq : ((misS (pad ns) ns.length (pl : Int) (castL un) (castL un).length : Nat) : Int) = ((frst un un.length + sumM (pad ns) pl (reus un un.length) (reus un un.length).length : Nat) : Int) := by
      rw [castL_len, mis_eq (pad ns) ns.length pl (fun y => setF_pad ns y hl) un hu64 un.length (Nat.le_refl _)]
      unfold sumM
      rw [List.take_length]
    rw [hq]
    have HR := Lib.hid (fun w9 (hb : Below w.heap.size w w9) => rows_yes (h.below hb) hl hx)
    obtain ⟨a, c, rfl, _, _, _⟩ := h
    have b0 : Below w.heap.size w (w.alloc (.cells #[.slice a (castL ns).length c] 28)) := (Below.refl _ w).alloc (Nat.le_refl _) _
    have H := Lib.hid (HR.out _ b0)
    have HUW := Lib.hid (fun (w1 : World) (b1 : Below (w.alloc (.cells #[.slice a (castL ns).length c] 28)).heap.size (w.alloc (.cells #[.slice a (castL ns).length c] 28)) w1) (o : Obj) => HU.out (w1.alloc o) ((bt b0 b1).alloc (by have := b0.size; have := b1.size; omega) _))
    obtain ⟨ua, uc, rfl, _, _, hur⟩ := hu
    have HH := Lib.hid (fun (w9 : World) (hb : Below w.heap.size w w9) => hist_i ua uc un w9 hlen hu64 (hur.below hb))
    have HMI := Lib.hid (fun (w9 : World) (B : Nat) (v9 : Value) (ho9 : OwnU w9 B v9 (reus un un.length)) => misses_i (frst un un.length) pl B (pad ns) v9 (reus un un.length) w9 ho9 (by have := frst_le un un.length; omega) (by omega) (by have := reus_len un un.length; omega) (reus_mem hu64 un.length) (fun i hi => h64 i))
    unfold RowsR aggR at H
    unfold aggR at HMI
    have B0 := Lib.hid b0
    have hNN := castL_len un
    rw [hp] at HP
    rw [ho] at HUW
    clear b0 HR ho hul HU h64 hl hb hx hp hp' hq hu64 hur
    generalize frst un un.length + sumM (pad ns) pl (reus un un.length) (reus un un.length).length = q at *
    generalize frst un un.length = F at *
    generalize reus un un.length = R at *
    generalize pad ns 0 = r0 at *
    generalize pad ns 1 = r1 at *
    generalize pad ns 2 = r2 at *
    generalize (castL ns).length = N at *
    generalize (castL un).length = M' at *
    generalize un.length = M at *
    subst hNN
    go_enter Try.func9, Try.ntmps9
    go_wp2_with (first | (go_at_call 22; refine H.out.mono ?_; rintro e w1 ⟨rfl, b1⟩) | (go_at_call 23; refine (HP.out _).mono ?_; rintro e w' ⟨rfl, rfl⟩) | (go_at_call 24; refine (HUW.out w1 b1 _).mono ?_; rintro e w' ⟨rfl, rfl⟩))
    have KW := Kb.new w1 w1.heap.size [.int .i64 (r0 : Int), .int .i64 (r1 : Int), .int .i64 (r2 : Int)] 44 rfl
    have BW := Lib.hid ((bt B0.out b1).alloc (by have := B0.out.size; have := b1.size; omega) (.cells #[.int .i64 (r0 : Int), .int .i64 (r1 : Int), .int .i64 (r2 : Int)] 44))
    generalize w1.heap.size = b8 at *
    generalize w1.alloc (.cells #[.int .i64 (r0 : Int), .int .i64 (r1 : Int), .int .i64 (r2 : Int)] 44) = W at *
    have c0 : W.cell? ⟨b8, 0, none⟩ = some (.int .i64 (r0 : Int)) := KW.cell 0
    have c1 : W.cell? ⟨b8, 1, none⟩ = some (.int .i64 (r1 : Int)) := KW.cell 1
    have c2 : W.cell? ⟨b8, 2, none⟩ = some (.int .i64 (r2 : Int)) := KW.cell 2
    have HC9 := Lib.hid (fun (w9 : World) (bb : Below W.heap.size W w9) => (show w9.cell? ⟨b8, 0, none⟩ = some (.int .i64 (r0 : Int)) ∧ w9.cell? ⟨b8, 1, none⟩ = some (.int .i64 (r1 : Int)) ∧ w9.cell? ⟨b8, 2, none⟩ = some (.int .i64 (r2 : Int)) from
      have k9 := KW.below bb KW.lt
      ⟨k9.cell 0, k9.cell 1, k9.cell 2⟩))
    clear KW b1 H HP HUW
    go_region_law (first
      | (go_simp; go_at_call 25; (with_reducible refine (HH.out _ BW.out.drew).mono ?_); rintro e w3 ⟨v3, rfl, ho3, bb⟩; obtain ⟨d0, d1, d2⟩ := HC9.out w3 ((Below.refl _ W).drew.trans bb); have B3 := Lib.hid (bt BW.out ((Below.refl _ W).drew.trans bb)); clear bb)
      | (go_simp; go_at_call 26; (with_reducible refine (HMI.out _ _ _ ho3).mono ?_); rintro e w5 ⟨rfl, b5⟩; have B5 := Lib.hid (bt B3.out b5); clear b5))
    all_goals
      go_wp2
      go_ret2
      exact ⟨rfl, B5.out⟩
end Go.Proofs.Ytbigielgkkijoaa.Ix
