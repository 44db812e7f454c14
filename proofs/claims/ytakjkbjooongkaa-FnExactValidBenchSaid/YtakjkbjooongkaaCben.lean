/- Both ValidBench. -/
import Derived.Test.YtakjkbjooongkaaCbev
namespace Go.Proofs.Ytakjkbjooongkaa.Be
open Go.RowKit Pv
theorem valid_s {v : Value} {xs : List (Int × Int)} {hs : List (List Int)} {ms : List Int} {w : World} (h : RdE w v xs hs ms) (hn : xs.length ≤ 1048576) : Calls Try.prog 5 #[v] w (Bb (okE xs hs ms) w) := by
  obtain ⟨a, c, hh, m, rfl, hr, hp⟩ := h
  obtain ⟨a2, c2, a3, c3, e, h1, h2, h3, h4, h5⟩ := hp
  injection e with e; injection e with e; injection e with e3 e4; injection e4 with e4 _
  subst e3 e4
  have b0 := (Below.refl w.heap.size w).alloc (Nat.le_refl _) (.cells #[.slice a xs.length c, .slice a2 hs.length c2, .slice a3 ms.length c3] 34)
  have bk := Blk.newAt w w.heap.size [.slice a xs.length c, .slice a2 hs.length c2, .slice a3 ms.length c3] 34 rfl
  have HS := Lib.hid (isAt_s w.heap.size 1 a2 a3 c2 c3 hs ms (w.alloc (.cells #[.slice a xs.length c, .slice a2 hs.length c2, .slice a3 ms.length c3] 34)) bk.lt (bk.cell 1) (bk.cell 2) (h3.below b0) h5 h4 (RdR.below h1 b0) h2)
  have HT := Lib.hid (fun (w' : World) (hb : Below w.heap.size w w') => Ac.is_s a c xs w' hn (hr.below hb))
  have z0 : (w.alloc (.cells #[.slice a xs.length c, .slice a2 hs.length c2, .slice a3 ms.length c3] 34)).cell? ⟨w.heap.size, 0, none⟩ = some (.slice a xs.length c) := bk.cell 0
  have HL : Hid (Calls Try.prog 11 #[.pointer (some ⟨w.heap.size, 0, none⟩)] (w.alloc (.cells #[.slice a xs.length c, .slice a2 hs.length c2, .slice a3 ms.length c3] 34)) (fun e w' => e = .returned (.bool (okE xs hs ms)) ∧ Below w.heap.size w w')) := by
    have HT0 := Lib.hid (HT.out _ b0)
    unfold okE
    clear bk h1 h3 h5 hr HT
    have hdr : ∀ q, Below w.heap.size w ((w.alloc (.cells #[.slice a xs.length c, .slice a2 hs.length c2, .slice a3 ms.length c3] 34)).drewN q) := fun q => below_drewN q b0
    have HD := Lib.hid hdr
    have B0 := Lib.hid b0
    clear hdr b0
    generalize (w.alloc (.cells #[.slice a xs.length c, .slice a2 hs.length c2, .slice a3 ms.length c3] 34)) = W at *
    generalize Ac.okT xs = t at *
    generalize isP hs ms = r at *
    generalize xs.length = L at *
    generalize hs.length = N at *
    generalize ms.length = M at *
    generalize w.heap.size = Z at *
    cases t
    · go_enter Try.func11, Try.ntmps11
      go_wp2_with (first | (go_at_call 20; (with_reducible refine HT0.out.mono ?_); rintro e w1 ⟨rfl, rfl⟩))
      go_ret
      exact ⟨rfl, B0.out⟩
    · go_enter Try.func11, Try.ntmps11
      go_wp2_with (first | (go_at_call 20; (with_reducible refine HT0.out.mono ?_); rintro e w1 ⟨rfl, rfl⟩) | (go_at_call 21; (with_reducible refine HS.out.mono ?_); rintro e w2 ⟨rfl, q, rfl⟩))
      go_ret
      exact ⟨rfl, HD.out q⟩
  clear bk h1 h3 h5 hr HT HS z0 b0
  generalize okE xs hs ms = r at *
  generalize xs.length = L at *
  generalize hs.length = N at *
  generalize ms.length = M at *
  go_enter Try.func5, Try.ntmps5
  go_wp2_with (first | (go_at_call 11; (with_reducible refine HL.out.mono ?_); rintro e w1 ⟨rfl, b1⟩; have B1 := Lib.hid b1; clear b1))
  go_ret
  exact ⟨rfl, B1.out⟩
theorem valid_i {v : Value} {xs : List (Int × Int)} {hs : List (List Int)} {ms : List Int} {w : World} (h : RdE w v xs hs ms) (hn : xs.length ≤ 1048576) : Calls Try.prog 7 #[v] w (Bb (okE xs hs ms) w) := by
  obtain ⟨a, c, hh, m, rfl, hr, hp⟩ := h
  obtain ⟨a2, c2, a3, c3, e, h1, h2, h3, h4, h5⟩ := hp
  injection e with e; injection e with e; injection e with e3 e4; injection e4 with e4 _
  subst e3 e4
  have b0 := (Below.refl w.heap.size w).alloc (Nat.le_refl _) (.cells #[.slice a xs.length c, .slice a2 hs.length c2, .slice a3 ms.length c3] 34)
  have bk := Blk.newAt w w.heap.size [.slice a xs.length c, .slice a2 hs.length c2, .slice a3 ms.length c3] 34 rfl
  have HT := Lib.hid (Ac.valid_i a c xs _ hn (hr.below b0))
  have HP := Lib.hid (fun (w' : World) (hb : Below (w.alloc (.cells #[.slice a xs.length c, .slice a2 hs.length c2, .slice a3 ms.length c3] 34)).heap.size (w.alloc (.cells #[.slice a xs.length c, .slice a2 hs.length c2, .slice a3 ms.length c3] 34)) w') => (show (w'.cell? ⟨w.heap.size, 1, none⟩ = some (.slice a2 hs.length c2) ∧ w'.cell? ⟨w.heap.size, 2, none⟩ = some (.slice a3 ms.length c3)) ∧ Calls Try.prog 15 #[.agg #[.slice a2 hs.length c2, .slice a3 ms.length c3]] w' (Bb (isP hs ms) w') from
    ⟨⟨(bk.below hb bk.lt).cell 1, (bk.below hb bk.lt).cell 2⟩, Pv.valid_i ⟨a2, c2, a3, c3, rfl, RdR.below h1 (bt b0 hb), h2, h3.below (bt b0 hb), h4, h5⟩⟩))
  have B0 := Lib.hid b0
  unfold okE
  clear bk h1 h3 h5 hr b0
  generalize Ac.okT xs = t at *
  generalize isP hs ms = r at *
  generalize xs.length = L at *
  generalize hs.length = N at *
  generalize ms.length = M at *
  cases t
  · go_enter Try.func7, Try.ntmps7
    go_wp2_with (first | (go_at_call 14; (with_reducible refine HT.out.mono ?_); rintro e w1 ⟨rfl, b1⟩; have B1 := Lib.hid (bt B0.out b1); clear b1))
    go_ret
    exact ⟨rfl, B1.out⟩
  · go_enter Try.func7, Try.ntmps7
    go_wp2_with (first | (go_at_call 14; (with_reducible refine HT.out.mono ?_); rintro e w1 ⟨rfl, b1⟩; have B1 := Lib.hid (bt B0.out b1); obtain ⟨⟨x1, x2⟩, HP1'⟩ := HP.out w1 b1; have HP1 := Lib.hid HP1'; clear HP1' b1) | (go_at_call 15; (with_reducible refine HP1.out.mono ?_); rintro e w2 ⟨rfl, b2⟩; have B2 := Lib.hid (bt B1.out b2); clear b2))
    go_ret
    exact ⟨rfl, B2.out⟩
end Go.Proofs.Ytakjkbjooongkaa.Be
