/- The model's MissesOf. -/
import Derived.Test.YtdclcdokdkeimaaCrunS
namespace Go.Proofs.Ytdclcdokdkeimaa.Pv
open Go.RowKit
theorem miss_hit (hs : List (List Int)) (ms xs : List Int) (j : Nat) : ((missN hs ms xs (j + 1) : Nat) : Int) = (missN hs ms xs j : Nat) + 1 - hitF hs ms xs j ∧ 0 ≤ hitF hs ms xs j ∧ hitF hs ms xs j ≤ 1 := by
  rw [missN]; unfold hitF
  cases hitK hs ms xs j <;> simp
set_option maxHeartbeats 2000000 in
theorem misses_s (g : Nat) (a a' : Option Addr) (c c' : Nat) (hs : List (List Int)) (ms xs : List Int) (sl : Option Addr) (sc : Nat) (w : World) (hok : isP hs ms = true) (hl : xs.length ≤ 60) (hg : g < w.heap.size) (h0 : w.cell? ⟨g, 0, none⟩ = some (.slice a hs.length c)) (h1 : w.cell? ⟨g, 1, none⟩ = some (.slice a' ms.length c'))
    (hr : RdR w a hs) (hm : Row w a' ms) (hx : Row w sl xs) :
    Calls Try.prog 47 #[.pointer (some ⟨g, 0, none⟩), .slice sl xs.length sc] w (Nb ((missN hs ms xs xs.length : Nat) : Int) w) := by
  have HR := Lib.hid (run_s g a a' c c' hs ms xs sl sc w hok hl hg h0 h1 hr hm hx)
  have HML := Lib.hid (fun j => missN_le hs ms xs j)
  have HMH := Lib.hid (fun j => miss_hit hs ms xs j)
  have HTL := Lib.hid (Tr.told_length (hitF hs ms xs) xs.length)
  have HTG := Lib.hid (fun j (hj : j < xs.length) => show (Tr.told (hitF hs ms xs) xs.length).getD j 0 = hitF hs ms xs j by simp [Tr.told, List.getD_eq_getElem?_getD, hj])
  have HM0 := Lib.hid (show missN hs ms xs 0 = 0 from rfl)
  clear hok hg h0 h1 hr hm hx
  generalize missN hs ms xs = MN at *
  generalize hitF hs ms xs = HF at *
  generalize rowL ms.length (kK hs ms xs xs.length) = RW at *
  generalize hN : xs.length = N at *
  clear hN
  go_enter Try.func47, Try.ntmps47
  go_wp2_with fail
  refine HR.out.mono ?_; rintro e w1 ⟨v1, v2, rfl, o1, _, _, b1⟩
  obtain ⟨a1, c1, ev, _, _, hrow⟩ := o1.rd
  rw [HTL.out] at ev
  subst ev
  have HC := Lib.hid hrow
  unfold Row at HC
  rw [HTL.out] at HC
  have HB1 := Lib.hid b1
  clear hrow o1 b1 HR
  go_wp2
  go_loopw [7, 8] (fun n i wr => ∃ j : Nat, j ≤ N ∧ i = .int .i64 j ∧ n = .int .i64 ((N : Int) - j + (MN j : Nat)) ∧ wr = w1) (fun _ i _ => N - (intOf i).toNat)
  case atStart => exact ⟨0, Nat.zero_le _, rfl, by rw [HM0.out]; simp, rfl⟩
  case round =>
    obtain ⟨j, hj, rfl, rfl, rfl⟩ := hrel
    by_cases hlt : j < N
    · obtain ⟨b, off, rfl, k1, _⟩ := HC.out j hlt
      rw [HTG.out j hlt] at k1
      obtain ⟨m1, m2, m3⟩ := HMH.out j
      have hml := HML.out j
      have HM1 := Lib.hid m1
      clear m1
      generalize HF j = u at *
      generalize MN j = q at *
      have hw : IntKind.i64.wrap ((N : Int) - j + (q : Nat) - u) = (N : Int) - j + (q : Nat) - u := by
        unfold IntKind.wrap IntKind.signed IntKind.bits; simp; omega
      go_wp2
      go_roundw
      case rel => exact ⟨j + 1, by omega, by go_num, by rw [HM1.out]; first | (congr 1; omega) | congr 1, by first | rfl | trivial⟩
      case measure => simp [intOf]; omega
    · have e : j = N := by omega
      subst e
      go_wp2
      go_ret
      exact ⟨ret_i64 (by omega), HB1.out⟩
set_option maxHeartbeats 2000000 in
theorem mis_s {v : Value} {hs : List (List Int)} {ms xs : List Int} {w : World} {a2 : Option Addr} {c2 : Nat} (h : RdP w v hs ms) (hx : Rd w (.slice a2 xs.length c2) xs) (hxl : xs.length ≤ 1048576) :
    Calls Try.prog 21 #[v, .slice a2 xs.length c2] w (IbP (misV hs ms xs) (misOk hs ms xs) w) := by
  obtain ⟨a, c, a', c', rfl, h1, h2, h3, h4, h5⟩ := h
  obtain ⟨a3, c3, e3, hxc, hxm, hxr⟩ := hx
  injection e3 with e4 e5 e6
  subst e4 e6
  have b0 := (Below.refl w.heap.size w).alloc (Nat.le_refl _) (.cells #[.slice a hs.length c, .slice a' ms.length c'] 29)
  have bk := Blk.newAt w w.heap.size [.slice a hs.length c, .slice a' ms.length c'] 29 rfl
  have HS := Lib.hid (is_s w.heap.size a a' c c' hs ms (w.alloc (.cells #[.slice a hs.length c, .slice a' ms.length c'] 29)) bk.lt (bk.cell 0) (bk.cell 1) (h3.below b0) h5 h4 (h1.below b0) h2)
  have HU := Lib.hid (fun (q : Nat) => Tr.uses_s a2 c2 xs ((w.alloc (.cells #[.slice a hs.length c, .slice a' ms.length c'] 29)).drewN q) hxl (hxr.below (below_drewN q b0)))
  have HT := Lib.hid (fun (hp : isP hs ms = true) (hu : Tr.okU xs = true) (q : Nat) => misses_s w.heap.size a a' c c' hs ms xs a2 c2 ((w.alloc (.cells #[.slice a hs.length c, .slice a' ms.length c'] 29)).drewN q) hp (Tr.okU_len hu) bk.lt (bk.cell 0) (bk.cell 1) (h1.below (below_drewN q b0)) (h3.below (below_drewN q b0)) (hxr.below (below_drewN q b0)))
  have HOK := Lib.hid (show misOk hs ms xs = (isP hs ms && Tr.okU xs) from rfl)
  have HV := Lib.hid (show misV hs ms xs = if misOk hs ms xs then ((missN hs ms xs xs.length : Nat) : Int) else 0 from rfl)
  have HB0 := Lib.hid b0
  clear h1 h3 bk h5 hxc hxm hxr b0
  generalize misV hs ms xs = V at *
  generalize missN hs ms xs xs.length = R at *
  generalize misOk hs ms xs = ok at *
  generalize isP hs ms = r at *
  generalize Tr.okU xs = ra at *
  generalize xs.length = L at *
  generalize hs.length = N at *
  generalize ms.length = M at *
  cases r
  · have e : ok = false := HOK.out
    subst e
    have e : V = 0 := HV.out
    subst e
    go_enter Try.func21, Try.ntmps21
    go_wp2_with (go_at_call 31; refine HS.out.mono ?_; rintro e w1 ⟨rfl, q, rfl⟩)
    go_ret2
    exact ⟨rfl, below_drewN _ HB0.out⟩
  · cases ra
    · have e : ok = false := HOK.out
      subst e
      have e : V = 0 := HV.out
      subst e
      go_enter Try.func21, Try.ntmps21
      go_wp2_with (first | (go_at_call 31; refine HS.out.mono ?_; rintro e w1 ⟨rfl, q, rfl⟩) | (go_at_call 43; refine (HU.out _).mono ?_; rintro e w1 ⟨rfl, rfl⟩))
      go_ret2
      exact ⟨rfl, below_drewN _ HB0.out⟩
    · have e : ok = true := HOK.out
      subst e
      have e : V = ((R : Nat) : Int) := HV.out
      subst e
      have HT2 := Lib.hid (fun q => HT.out rfl rfl q)
      clear HT HV
      go_enter Try.func21, Try.ntmps21
      go_wp2_with (first | (go_at_call 31; refine HS.out.mono ?_; rintro e w1 ⟨rfl, q, rfl⟩) | (go_at_call 43; refine (HU.out _).mono ?_; rintro e w1 ⟨rfl, rfl⟩) | (go_at_call 47; refine (HT2.out _).mono ?_; rintro e w2 ⟨rfl, b2⟩))
      go_ret2
      exact ⟨rfl, (below_drewN _ HB0.out).trans (b2.mono HB0.out.size)⟩
end Go.Proofs.Ytdclcdokdkeimaa.Pv
