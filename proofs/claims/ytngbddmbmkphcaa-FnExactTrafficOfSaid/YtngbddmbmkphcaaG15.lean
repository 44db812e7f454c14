/- The model's run of a cache: fill. -/
import Derived.Test.YtngbddmbmkphcaaG14
namespace Go.Proofs.Ytngbddmbmkphcaa.Pv
open Go.RowKit Ac Tr
/-- What fill leaves ahead of its loop, and in the end. -/
def fill0 (M : Nat) (S : CaS) : CaS := { outS S (S.k (M - 1)) with o := S.o + outN S (S.k (M - 1)) }
def fillS (hs : List (List Int)) (ms : List Int) (S : CaS) (L : Nat) : CaS := { fill0 ms.length S with cs := lineTo S.cs (fill0 ms.length S).ws L, i := S.i + 4, k := stN hs ms S.k (L : Int) }
theorem lt_len {hs : List (List Int)} {ms : List Int} (hok : isP hs ms = true) : 1 ≤ ms.length ∧ ms.length ≤ 6 := by unfold isP at hok; simp only [Bool.and_eq_true, decide_eq_true_eq] at hok; omega
theorem hitB_ne {M : Nat} {k : Nat → Int} {x : Int} (h : hitB M k x = false) (j : Nat) (hj : j < M) : k j ≠ x := fun e => by
  unfold hitB at h
  have hm : x ∈ rowL M k := by rw [← e]; exact List.mem_map_of_mem (List.mem_range.2 hj)
  have h1 := List.idxOf_lt_length_of_mem hm
  rw [rowL_len] at h1
  rw [decide_eq_true h1] at h
  cases h
/-- At a miss, fill does what bring does. -/
theorem fill_eq (hs : List (List Int)) (ms : List Int) (S : CaS) (L : Nat) (hw : CaW S) (hM : 1 ≤ ms.length) (hL : L < 16) (hh : hitB ms.length S.k (L : Int) = false) : fillS hs ms { S with m := S.m + 1 } L = bringS hs ms S L := by
  have hne := hitB_ne hh (ms.length - 1) (by omega)
  have hkr := hw.k (ms.length - 1)
  have hb0 : bringS hs ms S L = if gonB ms.length S.k (L : Int) then { cleanS (bring1 hs ms S L) (gonV ms.length S.k (L : Int)).toNat with o := S.o + cleanN (bring1 hs ms S L) (gonV ms.length S.k (L : Int)).toNat } else bring1 hs ms S L := if_neg (by rw [hh]; exact Bool.false_ne_true)
  have hg : gonB ms.length S.k (L : Int) = !decide (S.k (ms.length - 1) = -1) := by unfold gonB; rw [hh]; rfl
  rw [hb0]
  unfold fillS fill0 outS outN
  dsimp only
  by_cases e : S.k (ms.length - 1) = -1
  · have hg0 : gonB ms.length S.k (L : Int) = false := by rw [hg, decide_eq_true e]; rfl
    have hlt : S.k (ms.length - 1) < 0 := by omega
    simp only [hg0, Bool.false_eq_true, if_false, hlt, if_true]
    rfl
  · have hg1 : gonB ms.length S.k (L : Int) = true := by rw [hg, decide_eq_false e]; rfl
    have hgv : gonV ms.length S.k (L : Int) = S.k (ms.length - 1) := if_pos hg1
    have hlt : ¬ S.k (ms.length - 1) < 0 := by omega
    simp only [hg1, hgv, if_true, hlt, if_false]
    obtain ⟨G, hG⟩ : ∃ G : Nat, S.k (ms.length - 1) = (G : Int) := ⟨(S.k (ms.length - 1)).toNat, by omega⟩
    rw [hG, Int.toNat_natCast]
    have hG16 : G < 16 := by omega
    have hGL : G ≠ L := fun e2 => hne (by rw [hG, e2])
    unfold cleanS cleanN
    cases hd : S.ds.getD G false
    · have hd' : (bring1 hs ms S L).ds.getD G false = false := hd
      simp only [hd', Bool.false_eq_true, if_false]
      rfl
    · have hd' : (bring1 hs ms S L).ds.getD G false = true := hd
      have e1 : lineTo S.cs (lineTo S.ws S.cs G) L = lineTo S.cs S.ws L := lineTo_apart S.cs S.ws S.cs G L hw.cs hw.ws hw.cs hG16 hL (fun e2 => hGL e2.symm)
      have e2 : lineTo S.ws (lineTo S.cs S.ws L) G = lineTo S.ws S.cs G := lineTo_apart S.ws S.cs S.ws L G hw.ws hw.cs hw.ws hL hG16 hGL
      simp only [hd', if_true]
      unfold bring1
      simp only [e1, e2]
set_option maxRecDepth 100000 in
set_option maxHeartbeats 4000000 in
theorem fill_s {B r g : Nat} {x : Nat → Value} {S : CaS} {ls : List Int} {w0 w : World} {hs : List (List Int)} {ms : List Int} (hok : isP hs ms = true) (h : Md ms.length B r x S ls w0 w) (L : Nat) (hL : L < 16) (hbd : S.i ≤ 1000000 ∧ S.o ≤ 1000000)
    (HSTEP : Hid (∀ (w' : World) (k : Nat → Int) (v : Value) (y : Int), Below B w0 w' → Rd w' v (rowL ms.length k) → Calls Try.prog 44 #[.pointer (some ⟨g, 0, none⟩), v, .int .i64 y] w' (Sh (rowL ms.length (stN hs ms k y)) (hitB ms.length k y) w'))) :
    Calls Try.prog 45 #[.pointer (some ⟨r, 0, none⟩), .pointer (some ⟨g, 0, none⟩), .int .i64 L] w (fun e w' => e = .returned (.tuple #[]) ∧ ∃ x', Md ms.length B r x' (fillS hs ms S L) ls w0 w' ∧ ∀ j, j ≠ 3 → x' j = x j) := by
  obtain ⟨p1, p6⟩ := lt_len hok
  have hkr := h.wf.k (ms.length - 1)
  obtain ⟨c9, f9, _⟩ := h.n3
  obtain ⟨h3, f3⟩ := h.hd 3 (by decide)
  have o3 : Own w B (x 3) (rowL ms.length S.k) := h.own 3 (by decide)
  obtain ⟨g3, c3, e3, _, hg3, k3, _, _⟩ := own_elem o3 (ms.length - 1) (by rw [rowL_len]; omega)
  rw [rowL_len] at e3
  rw [rowL_get _ _ _ (by omega)] at k3
  rw [e3] at h3
  have hon := outN_le S (S.k (ms.length - 1))
  have hoo := outS_o S (S.k (ms.length - 1))
  have HOUT := Lib.hid ((out_s h.drew (S.k (ms.length - 1)) hkr).mono (R' := fun e w6 => e = .returned (.int .i64 (outN S (S.k (ms.length - 1)) : Int)) ∧ (w6.cell? ⟨r, 9, none⟩ = some (.int .i64 (S.o : Int)) ∧ w6.frozen? ⟨r, 9, none⟩ = false) ∧ Hid (Md ms.length B r x (fill0 ms.length S) ls w0 (w6.setCell ⟨r, 9, none⟩ (.int .i64 ((S.o : Int) + (outN S (S.k (ms.length - 1)) : Int)))))) fun e w6 ⟨he, hB⟩ => by
    obtain ⟨c6, f6, s6⟩ := hB.n3
    rw [hoo] at c6
    have hB7 := s6 (S.o + outN S (S.k (ms.length - 1)))
    rw [Int.natCast_add] at hB7
    exact ⟨he, ⟨c6, f6⟩, Lib.hid hB7⟩)
  have HF := Lib.hid (show fillS hs ms S L = { fill0 ms.length S with cs := lineTo S.cs (fill0 ms.length S).ws L, i := S.i + 4, k := stN hs ms S.k (L : Int) } from rfl)
  have HFI := Lib.hid (show (fill0 ms.length S).i = S.i from outS_i _ _)
  have HFK := Lib.hid (show (fill0 ms.length S).k = S.k from outS_k _ _)
  have hfc : (fill0 ms.length S).cs = S.cs := outS_cs _ _
  have HFC := Lib.hid hfc
  have hw0 : (fill0 ms.length S).ws.length = 64 := by
    show (outS S _).ws.length = 64
    unfold outS cleanS
    split
    · exact h.wf.ws
    · split
      · exact lineTo_len h.wf.ws h.wf.cs (by omega)
      · exact h.wf.ws
  have HLK := Lib.hid (fun j (hj : j < 4) => lineK_step S.cs (fill0 ms.length S).ws L j h.wf.cs hw0 hL hj)
  have HL0 := Lib.hid (lineK_zero S.cs (fill0 ms.length S).ws L)
  have HL4 := Lib.hid (lineK_end S.cs (fill0 ms.length S).ws L)
  have hst := fun i => stN_rng (hs := hs) (ms := ms) (x := (L : Int)) h.wf.k (by omega) i
  have HST := Lib.hid hst
  have hbo := hbd.2
  have e9 : IntKind.i64.wrap ((S.o : Int) + (outN S (S.k (ms.length - 1)) : Int)) = (S.o : Int) + (outN S (S.k (ms.length - 1)) : Int) := IntWalk.i64_in _ (by omega)
  have ei : ((S.i + 4 : Nat) : Int) = (S.i : Int) + 4 := by omega
  have EI := Lib.hid ei
  have hbi := hbd.1
  clear h o3 hoo hst ei hbd hw0 hfc
  generalize lineTo S.cs (fill0 ms.length S).ws L = LT at *
  generalize hlk9 : lineK S.cs (fill0 ms.length S).ws L = LK at *
  clear hlk9
  generalize fillS hs ms S L = FS at *
  generalize outN S (S.k (ms.length - 1)) = on at *
  generalize S.k (ms.length - 1) = kl at *
  generalize fill0 ms.length S = S0 at *
  generalize hM : ms.length = M at *
  have hMi : (1 : Int) ≤ (M : Int) := by omega
  have hMt : ((M : Int) - 1).toNat = M - 1 := by omega
  have hMl : (M : Int) - 1 < (M : Int) := by omega
  have e10 : IntKind.i64.wrap ((M : Int) - 1) = (M : Int) - 1 := IntWalk.i64_in _ (by omega)
  go_enter Try.func45, Try.ntmps45
  go_upto_region 0 with fail
  rename_i K hK
  have HKK : Hid (∀ w6 : World, Hid (Md M B r x S0 ls w0 (w6.setCell ⟨r, 9, none⟩ (.int .i64 ((S.o : Int) + (on : Int))))) → K ({ tmps := #[.pointer (some ⟨r, 0, none⟩), .pointer (some ⟨g, 0, none⟩), .int .i64 (L : Int), undef, undef, undef, undef, .pointer (some ⟨r, 0, none⟩), .pointer (some ⟨r, 0, none⟩), .pointer (some ⟨r, 6, none⟩), .pointer (some ⟨r, 9, none⟩), .int .i64 (S.o : Int), .pointer (some ⟨r, 0, none⟩), .pointer (some ⟨r, 0, none⟩), .pointer (some ⟨r, 0, none⟩), .pointer (some ⟨r, 3, none⟩), .slice (some ⟨g3, 0, none⟩) M c3, .pointer (some ⟨r, 0, none⟩), .pointer (some ⟨r, 0, none⟩), .pointer (some ⟨r, 3, none⟩), .slice (some ⟨g3, 0, none⟩) M c3, .int .i64 (M : Int), .int .i64 ((M : Int) - 1), .pointer (some ⟨g3, M - 1, none⟩), .int .i64 kl, .int .i64 (on : Int), .int .i64 ((S.o : Int) + (on : Int)), .pointer (some ⟨r, 0, none⟩), .pointer (some ⟨r, 6, none⟩), .pointer (some ⟨r, 9, none⟩), undef, undef, undef, undef, undef, undef, undef, undef, undef, undef, undef, undef, undef, undef, undef, undef, undef, undef, undef, undef, undef, undef, undef, undef, undef, undef, undef, undef, undef, undef, undef, undef, undef, undef, undef, undef, undef, undef, undef, undef, undef, undef, undef, undef], defers := [] } : Act) (w6.setCell ⟨r, 9, none⟩ (.int .i64 ((S.o : Int) + (on : Int))))) := by
    show ∀ w6 : World, _ → _
    intro w6 hB6
    generalize (w6.setCell ⟨r, 9, none⟩ (.int .i64 ((S.o : Int) + (on : Int)))) = w7 at *
    clear HOUT c9 f9 h3 f3 k3
    show K _ _
    apply hK
    clear hK K
    have HI0 : Hid (Md M B r x { S0 with cs := LK 0 } ls w0 w7) := by
      show Md _ _ _ _ _ _ _ _
      rw [HL0.out, ← HFC.out]
      exact hB6.out
    go_wp2
    go_loopw [6] (fun k wr => ∃ j p : Nat, j ≤ 4 ∧ Hid (p = L * 4 + j) ∧ k = .int .i64 (p : Int) ∧ p ≤ L * 4 + 4 ∧ Hid (Md M B r x { S0 with cs := LK j } ls w0 wr)) (fun k _ => L * 4 + 4 - (intOf k).toNat)
    case atStart => exact ⟨0, L * 4, by omega, Lib.hid rfl, by go_num, by omega, HI0⟩
    case round =>
      obtain ⟨j, p, hj, hp, rfl, hp4, hI⟩ := hrel
      by_cases hlt : j < 4
      · have hpo := hp.out
        have hlt2 : p < L * 4 + 4 := by omega
        have hp64 : p < 64 := by omega
        have hpi : (p : Int) < ((L : Int) + 1) * 4 := by omega
        have h0 := (hI.out.hd 0 (by decide)).1
        have h1 := (hI.out.hd 1 (by decide)).1
        obtain ⟨gw, cw, ew, hgw, kw, _, _⟩ := hI.out.w p hp64
        obtain ⟨gc, cc, ec, hgc, kc, fc, sc⟩ := hI.out.drew.c p hp64
        rw [ec] at h1
        rw [ew] at h0
        have hs := sc (S0.ws.getD p 0)
        have hlk := HLK.out j hlt
        rw [← hpo] at hlk
        have hs2 := Lib.hid (show Md M B r x { S0 with cs := LK (j + 1) } ls w0 _ by rw [← hlk]; exact hs)
        clear hs sc hlk
        generalize S0.ws.getD p 0 = u at *
        generalize (LK j).getD p 0 = u0 at *
        clear hpo
        go_wp2
        go_region
        all_goals
          go_wp2
          go_roundw
          case rel => exact ⟨j + 1, p + 1, by omega, Lib.hid (by have := hp.out; omega), by go_num, by omega, hs2⟩
          case measure => simp [intOf]; omega
      · have e : j = 4 := by omega
        subst e
        have hpo := hp.out
        have hpi : ¬ (p : Int) < ((L : Int) + 1) * 4 := by omega
        obtain ⟨c8, f8, s8⟩ := hI.out.n2
        have c8' : wr.cell? ⟨r, 8, none⟩ = some (.int .i64 (S.i : Int)) := by rw [← HFI.out]; exact c8
        have hM8 := s8 (S.i + 4)
        rw [EI.out, HL4.out] at hM8
        have HM8 := Lib.hid hM8
        clear c8 s8 hM8 hpo
        obtain ⟨w8, hw8⟩ : ∃ w8, w8 = wr.setCell ⟨r, 8, none⟩ (.int .i64 ((S.i : Int) + 4)) := ⟨_, rfl⟩
        rw [← hw8] at HM8
        have h38 := (hI.out.hd 3 (by decide)).1
        rw [e3] at h38
        have o38 : Own w8 B (x 3) (rowL M S.k) := by rw [← HFK.out]; exact HM8.out.own 3 (by decide)
        rw [e3] at o38
        have HS := Lib.hid (HSTEP.out w8 S.k _ (L : Int) HM8.out.bl o38.rd)
        have HW8 := Lib.hid hw8
        clear hw8 o38
        go_wp2_with fail
        rw [← HW8.out]
        refine HS.out.mono ?_; rintro e w9 ⟨v', rfl, o', b'⟩
        have hB8 : B ≤ w8.heap.size := by have := HM8.out.blk.lt; have := HM8.out.hB; omega
        have hR := HM8.out.repl 3 (by decide) (w' := w9) (v' := v') (S' := FS) (ls' := ls) (fun b hb _ => b'.block b hb) (b'.mono hB8) (by rw [HF.out]; exact o'.mono hB8) (fun k hk => .inr (o'.block k hk).1) (fun i hi hne w v hp => by rw [HF.out]; rcases below6 hi with rfl | rfl | rfl | rfl | rfl | rfl <;> first | exact hp | exact absurd rfl hne) (fun y => by rw [HF.out]; rfl) (by rw [HF.out]; exact ⟨HM8.out.wf.ws, HM8.out.wf.cs, HM8.out.wf.ds, HST.out⟩)
        obtain ⟨⟨o9, k9⟩, f9', hMF⟩ := hR
        have HMF := Lib.hid hMF
        obtain ⟨a', c', hv'⟩ := Own.form o'
        rw [rowL_len] at hv'
        clear hMF b' o'
        subst hv'
        go_wp2
        go_end0
        exact ⟨rfl, _, HMF.out, fun j hj => upd_ne _ _ _ _ hj⟩
  clear hK
  go_region_law (first | (go_simp; go_at_call 46; (with_reducible refine HOUT.out.mono ?_); rintro e w6 ⟨rfl, ⟨c6, f6⟩, hB6⟩))
  all_goals exact HKK.out _ hB6
end Go.Proofs.Ytngbddmbmkphcaa.Pv
