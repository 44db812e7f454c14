/- Drawn traces: l02DrawTrace and R8Trace. -/
import Derived.Test.YtdjkmffekfbbcaaCdrt
import Derived.Deep.AppendLies
import Derived.Deep.RegionLaw
namespace Go.Proofs.Ytdjkmffekfbbcaa.Sr
open Go.RowKit Ac
theorem step_appA {ops : Array Oper} {o : Oper} {a : Act} {K : Act → World → Prop} {Q : Exit → Act → World → Prop} {E : Prop} (wr : World) (hgd : o.guard = none) (s x : Operand)
    (ho : o.op = .call { callee := .builtin .append, args := #[s, x], argTypes := #[27, 27] })
    (B : Nat) (v : Value) (rs : List (Int × Int)) (k ad : Int) (hs : a.eval s = v) (hx : a.eval x = .slice (some ⟨wr.heap.size, 0, none⟩) 1 1) (hown : OwnA wr B v rs)
    (hlen : rs.length + 1 ≤ 100000000) (hB : B ≤ wr.heap.size)
    (h : ∀ g cap w', OwnA w' B (.slice (some ⟨g, 0, none⟩) (rs.length + 1) cap) (rs ++ [(k, ad)]) → Below B wr w' → (∀ b, b < wr.heap.size → v.ownBlock ≠ some b → w'.heap[b]? = wr.heap[b]?) → (v.ownBlock = some g ∨ wr.heap.size ≤ g) → K (a.put o.dst (.slice (some ⟨g, 0, none⟩) (rs.length + 1) cap)) w') :
    if Region.wanted o (yielded ops a.tmps) = true then Oper.wp Try.prog o a (wr.alloc (.cells #[.int .i64 k, .int .i64 ad] 49)) K Q else E := by
  obtain ⟨i0, hi, hz0, hz1, hz2⟩ := info_parts infoA
  have hsz : (wr.alloc (.cells #[.int .i64 k, .int .i64 ad] 49)).heap.size = wr.heap.size + 1 := Array.size_push _
  refine step_append_lies _ hgd s x 27 ho B 49 i0 (.agg #[.int .i64 0, .int .i64 0]) 2 16 Try.underlying27 hi hz0 hz1 hz2 rfl (by decide) v rs.length (acells rs) hs (World.ownsRow.alloc hown _)
    ⟨wr.heap.size, 0, none⟩ 1 1 [.int .i64 k, .int .i64 ad] hx rfl ?_ ?_ (by decide) ?_ ?_ ?_ _ rfl ?_
  · intro j u' hj
    match j, hj with
    | 0, hj => simp at hj; subst hj; simp [Addr.add]
    | 1, hj => simp at hj; subst hj; simp [Addr.add]
  · intro u' hu'; simp at hu'; rcases hu' with hu' | hu' <;> subst hu' <;> rfl
  · unfold maxLen; omega
  · omega
  · omega
  · intro g cap w' hrow hgrow hat hblk
    have hO : OwnA w' B (.slice (some ⟨g, 0, none⟩) (rs.length + 1) cap) (rs ++ [(k, ad)]) := by
      show World.ownsRow _ _ _ _ _ (rs ++ [(k, ad)]).length _
      rw [List.length_append, acells_app]
      exact hrow
    refine h g cap w' hO (((Below.refl B wr).alloc hB _).grown hgrow (by omega) (fun k hk => (OwnA.block hown k hk).1)) (fun b hb hne => (hgrow.block b (by omega) (fun e => hne e.symm)).trans (Below.heap_alloc wr _ b hb)) ?_
    exact hat.imp id fun e => by omega
theorem wpList_appB {ops : Array Oper} {rest : List Oper} {o : Oper} {a : Act} {Q : Exit → Act → World → Prop} (wr : World) (hgd : o.guard = none) (s x : Operand)
    (ho : o.op = .call { callee := .builtin .append, args := #[s, x], argTypes := #[27, 27] })
    (B : Nat) (v : Value) (rs : List (Int × Int)) (k ad : Int) (hs : a.eval s = v) (hx : a.eval x = .slice (some ⟨wr.heap.size, 0, none⟩) 1 1) (hown : OwnA wr B v rs)
    (hlen : rs.length + 1 ≤ 100000000) (hB : B ≤ wr.heap.size)
    (h : ∀ v' w', OwnA w' B v' (rs ++ [(k, ad)]) → Below B wr w' → (∀ b, b < wr.heap.size → v.ownBlock ≠ some b → w'.heap[b]? = wr.heap[b]?) → (∀ q, v'.ownBlock = some q → v.ownBlock = some q ∨ wr.heap.size ≤ q) → wpList Try.prog ops Q rest (a.put o.dst v') w') :
    wpList Try.prog ops Q (o :: rest) a (wr.alloc (.cells #[.int .i64 k, .int .i64 ad] 49)) := by
  obtain ⟨i0, hi, hz0, hz1, hz2⟩ := info_parts infoA
  have hsz : (wr.alloc (.cells #[.int .i64 k, .int .i64 ad] 49)).heap.size = wr.heap.size + 1 := Array.size_push _
  refine wpList_append_own_at _ hgd s x 27 ho B 49 i0 (.agg #[.int .i64 0, .int .i64 0]) 2 16 Try.underlying27 hi hz0 hz1 hz2 rfl (by decide) v rs.length (acells rs) hs (World.ownsRow.alloc hown _)
    ⟨wr.heap.size, 0, none⟩ 1 1 [.int .i64 k, .int .i64 ad] hx rfl ?_ ?_ ?_ ?_ ?_ ?_
  · intro j u' hj
    match j, hj with
    | 0, hj => simp at hj; subst hj; simp [Addr.add]
    | 1, hj => simp at hj; subst hj; simp [Addr.add]
  · intro u' hu; simp at hu; rcases hu with hu | hu <;> subst hu <;> rfl
  · unfold maxLen; omega
  · omega
  · simp; omega
  · intro v' w' hown' hgrow _ hblk
    refine h v' w' ?_ ?_ ?_ ?_
    · show World.ownsRow _ _ _ _ _ (rs ++ [(k, ad)]).length _
      rw [List.length_append, acells_app]
      exact hown'
    · exact ((Below.refl B wr).alloc hB _).grown hgrow (by omega) (fun k hk => (OwnA.block hown k hk).1)
    · exact fun b hb hne => (hgrow.block b (by omega) (fun e => hne e.symm)).trans (Below.heap_alloc wr _ b hb)
    · intro q hq
      rcases hblk with hb | hb
      · exact .inl (hb ▸ hq)
      · rw [hb] at hq; injection hq with hq; right; omega
theorem own_sameD {w w' : World} {B : Nat} {v : Value} {xs : List Int} (h : Own w B v xs) (he : ∀ k, v.ownBlock = some k → w'.heap[k]? = w.heap[k]?) : Own w' B v xs := by
  refine ⟨h.1, ?_⟩
  rcases h.2 with hn | ⟨g, cap, cur, hv, hg, hh, r⟩
  · exact .inl hn
  · exact .inr ⟨g, cap, cur, hv, hg, by rw [he g (by rw [hv]; rfl)]; exact hh, r⟩
/-- What is drawn of a trace, of U uses after j. -/
def okD (xs : List (Int × Int)) : Prop := ∀ p ∈ xs, okE p = true
theorem okD_nil : okD [] := fun p h => by cases h
theorem okE_of {k u : Int} (h0 : 0 ≤ k) (h1 : k ≤ 1) (h2 : 0 ≤ u ∧ u ≤ 63) : okE (k, u) = true := by
  unfold okE isK
  rw [Tr.isA_yes h2.1 h2.2]
  have : k = 0 ∨ k = 1 := by omega
  rcases this with rfl | rfl <;> rfl
theorem okD_app {xs : List (Int × Int)} {p : Int × Int} (h : okD xs) (hp : okE p = true) : okD (xs ++ [p]) := fun q hq => by
  rcases List.mem_append.1 hq with hq | hq
  · exact h q hq
  · rw [List.mem_singleton.1 hq]; exact hp
theorem okT_of {xs : List (Int × Int)} (h : okD xs) (hl : xs.length ≤ 60) : okT xs = true := by
  unfold okT
  rw [decide_eq_true hl, Bool.true_and, List.all_eq_true]
  exact h
structure Dt (w : World) (B g : Nat) (a : Option Addr) (n c K U j : Nat) (us : List Int) (uv v : Value) (xs : List (Int × Int)) (wr : World) : Prop where
  o : OwnA wr w.heap.size v xs
  ok : okD xs
  len : xs.length + U ≤ 60 + j
  u : Own wr w.heap.size uv us
  ap : ∀ k, v.ownBlock = some k → uv.ownBlock ≠ some k
  s : Src wr B g a n c K
  bl : Below B w wr
  sz : w.heap.size ≤ wr.heap.size
theorem Dt.drew {w : World} {B g : Nat} {a : Option Addr} {n c K U j : Nat} {us : List Int} {uv v : Value} {xs : List (Int × Int)} {wr : World} (h : Dt w B g a n c K U j us uv v xs wr) : Dt w B g a n c K U j us uv v xs wr.drew :=
  ⟨h.o, h.ok, h.len, h.u, h.ap, h.s, h.bl.drew, h.sz⟩
theorem Dt.call {w : World} {B g : Nat} {a : Option Addr} {n c K K' U j : Nat} {us : List Int} {uv v : Value} {xs : List (Int × Int)} {wr w2 : World} (h : Dt w B g a n c K U j us uv v xs wr) (hlt : g < w.heap.size) (hBg : B ≤ g) (hs : Src w2 B g a n c K') (hg : wr.grownBy w2 (some g)) : Dt w B g a n c K' U j us uv v xs w2 :=
  ⟨h.o.kept hg (fun k hk e => by have := (h.o.block k hk).1; injection e with e; omega), h.ok, h.len, h.u.kept hg (fun k hk e => by have := (h.u.block k hk).1; injection e with e; omega), h.ap, hs,
    h.bl.grown hg (by have := h.bl.size; have := h.sz; omega) (fun k hk => by injection hk with hk; omega), Nat.le_trans h.sz hg.size⟩
theorem Dt.app {w : World} {B g : Nat} {a : Option Addr} {n c K U j j' : Nat} {us : List Int} {uv v v' : Value} {xs : List (Int × Int)} {p : Int × Int} {w2 w9 : World} (h : Dt w B g a n c K U j us uv v xs w2) (hlt : g < w.heap.size) (hBg : B ≤ g)
    (o9 : OwnA w9 w.heap.size v' (xs ++ [p])) (b9 : Below w.heap.size w2 w9) (f9 : ∀ b, b < w2.heap.size → v.ownBlock ≠ some b → w9.heap[b]? = w2.heap[b]?) (k9 : ∀ k, v'.ownBlock = some k → v.ownBlock = some k ∨ w2.heap.size ≤ k) (hok : okE p = true) (hlen : xs.length + 1 + U ≤ 60 + j') :
    Dt w B g a n c K U j' us uv v' (xs ++ [p]) w9 := by
  refine ⟨o9, okD_app h.ok hok, by rw [List.length_append, List.length_singleton]; exact hlen, own_sameD h.u fun k hk => f9 k (h.u.block k hk).2 fun e => h.ap k e hk, fun k hk e => ?_, h.s.keep b9 hlt, h.bl.trans (b9.mono (by omega)), Nat.le_trans h.sz b9.size⟩
  rcases k9 k hk with h1 | h1
  · exact h.ap k h1 e
  · have := (h.u.block k e).2; omega
theorem mem_at (us : List Int) (j : Nat) (h : j < us.length) : us.getD j 0 ∈ us := by
  rw [List.getD_eq_getElem?_getD, List.getElem?_eq_getElem h]; exact List.getElem_mem h
def DrT (B : Nat) (w : World) (e : Ending) (w' : World) : Prop := ∃ v xs, e = .returned v ∧ okT xs = true ∧ OwnA w' w.heap.size v xs ∧ Below B w w'
set_option maxRecDepth 100000 in
set_option maxHeartbeats 8000000 in
theorem dtr_s (B g n c K : Nat) (a : Option Addr) (w : World) (hn : n ≤ 2000000) (hK : K ≤ 100) (h : Src w B g a n c K) :
    Calls Try.prog 48 #[.pointer (some ⟨g, 0, none⟩)] w (DrT B w) := by
  have HU := Lib.hid (du_s B g n c K a w hn hK h)
  have hBg := h.1
  have hlt := h.lt
  clear h
  go_enter Try.func48, Try.ntmps48
  go_wp2_with fail
  refine HU.out.mono ?_; rintro e w1 ⟨uv, us, rfl, hul, hum, ou, s1, b1⟩
  obtain ⟨au, cu, eu⟩ := ou.form
  have hsz1 : w.heap.size ≤ w1.heap.size := b1.size
  have bA : Below w1.heap.size w1 (w1.alloc (.cells #[] 49)) := (Below.refl _ _).alloc (Nat.le_refl _) _
  have oA : OwnA (w1.alloc (.cells #[] 49)) w1.heap.size (.slice (some ⟨w1.heap.size, 0, none⟩) 0 0) [] := World.ownsRow_lit w1 #[] 0 (Nat.le_refl _) (by unfold maxLen; omega) rfl
  have H0 := Lib.hid (show Dt w B g a n c (K + 200 + 2 * 0) us.length 0 us uv (.slice (some ⟨w1.heap.size, 0, none⟩) 0 0) [] (w1.alloc (.cells #[] 49)) from
    ⟨OwnA.mono oA hsz1, okD_nil, by simp; omega, ou.below bA (Nat.le_refl _), fun k hk e => by have h1 := (oA.block k hk).1; have h2 := (ou.block k e).2; omega, s1.below bA, b1.trans (bA.mono (by omega)), Nat.le_trans hsz1 bA.size⟩)
  have HUM := Lib.hid hum
  have HEU := Lib.hid eu
  clear ou s1 b1 bA oA hum HU
  rw [eu] at H0 ⊢
  clear eu HEU
  generalize hUL : us.length = U at *
  have HUL := Lib.hid hUL
  clear hUL
  go_wp2
  go_loopw [4, 5] (fun v i wr => ∃ (j : Nat) (xs : List (Int × Int)) (V : Value), j ≤ U ∧ i = .int .i64 j ∧ V = v ∧ Hid (Dt w B g a n c (K + 200 + 2 * j) U j us (.slice au U cu) V xs wr)) (fun _ i _ => U - (intOf i).toNat)
  case atStart => exact ⟨0, [], _, Nat.zero_le _, rfl, rfl, H0⟩
  case round =>
    obtain ⟨j, xs, v, hj, rfl, rfl, hD⟩ := hrel
    by_cases hlt2 : j < U
    · have hP := Lib.hid (pick_s B g n c (K + 200 + 2 * j) 2 a wr hn (by omega) (by omega) (by omega) hD.out.s)
      have HU2 := Lib.hid (HUM.out _ (mem_at us j (by rw [HUL.out]; exact hlt2)))
      have HCL := Lib.hid (fun (w' : World) (o : Own w' w.heap.size (.slice au U cu) us) => (show ∃ g', au = some ⟨g', 0, none⟩ ∧ w'.cell? ⟨g', j, none⟩ = some (.int .i64 (us.getD j 0)) from by
        rcases o.cases with ⟨_, hx⟩ | ⟨g', c', hv, _, _, _, h4, _⟩
        · rw [← HUL.out, hx] at hlt2; simp at hlt2
        · injection hv with hv _ _
          exact ⟨g', hv, h4 j (by rw [HUL.out]; exact hlt2)⟩))
      obtain ⟨gu, rfl, cu0⟩ := HCL.out wr hD.out.u
      have hjU : (j : Int) < (U : Int) := by omega
      generalize us.getD j 0 = u at *
      have HPd := Lib.hid (show Calls Try.prog 41 #[.pointer (some ⟨g, 0, none⟩), .int .i64 2] wr.drew (Pk 0 (((2 : Nat) : Int) - 1) B g a n c (K + 200 + 2 * j + 1) wr.drew) from pick_s B g n c (K + 200 + 2 * j) 2 a wr.drew hn (by omega) (by omega) (by omega) hD.out.s)
      clear hP
      have cud : wr.drew.cell? ⟨gu, j, none⟩ = some (.int .i64 u) := cu0
      have HLN := Lib.hid hD.out.len
      have hlen := hD.out.len
      go_wp2
      go_region_law (first | (go_simp; go_at_call 41; (with_reducible refine HPd.out.mono ?_); rintro e w2 ⟨r, hr0, hr1, rfl, hs2, hg2⟩; have D2 := Lib.hid (hD.out.drew.call hlt hBg hs2 hg2); have o2 := D2.out.o; have z2 := D2.out.sz; obtain ⟨gx, ex, cu2⟩ := HCL.out w2 D2.out.u; injection ex with ex; injection ex with ex; subst ex; clear hs2 hg2) | (refine step_appA w2 rfl (.tmp 15) (.tmp 23) rfl w.heap.size v xs r u (by first | rfl | simp [Act.eval, Act.put]) (by first | rfl | simp [Act.eval, Act.put]) o2 (by omega) z2 ?_; intro g9 cap9 w9 o9 b9 f9 k9))
      all_goals
        have D9 := Lib.hid (D2.out.app (j' := j + 1) hlt hBg o9 b9 f9 (fun k hk => by injection hk with hk; exact hk ▸ k9) (okE_of hr0 (by omega) HU2.out) (by omega))
        have HO := Lib.hid (one_s B g n c (K + 200 + 2 * j + 1) 4 a w9 hn (by omega) (by omega) (by omega) D9.out.s)
        clear D2 o2 z2 o9 b9 f9 k9 cu2 hD HPd
        by_cases hg : ((xs.length : Int) + 1) < 60 - (U : Int)
        · go_wp2_with fail
          refine HO.out.mono ?_; rintro e w10 ⟨bo, rfl, s10, g10⟩
          have DA := Lib.hid (D9.out.call hlt hBg s10 g10)
          clear s10 g10 HO D9
          cases bo
          · go_wp2
            go_roundw
            case rel => exact ⟨j + 1, _, _, by omega, by go_num, rfl, ⟨DA.out.o, DA.out.ok, DA.out.len, DA.out.u, DA.out.ap, DA.out.s.mono (by omega), DA.out.bl, DA.out.sz⟩⟩
            case measure => simp [intOf]; omega
          · have oA := DA.out.o
            have zA := DA.out.sz
            obtain ⟨aq, cq, eq, hlq, hcq, hrow⟩ := oA.row2
            injection eq with eq1 eq2 eq3
            subst eq1 eq3
            obtain ⟨bq, oq, eb, k0, k1, _⟩ := hrow xs.length (by simp)
            injection eb with eb
            injection eb with eb1 eb2
            subst eb1 eb2
            have hgd : (xs ++ [(r, u)]).getD xs.length (0, 0) = (r, u) := by simp [List.getD_eq_getElem?_getD]
            rw [hgd] at k0 k1
            simp only [Nat.zero_add] at k0 k1
            have hl1 : (xs ++ [(r, u)]).length = xs.length + 1 := by simp
            have HOK := Lib.hid (okE_of hr0 (show r ≤ 1 by omega) HU2.out)
            clear hrow hgd hlq hcq eq2
            generalize xs ++ [(r, u)] = X1 at *
            go_wp2_with (at_builtin; refine wpList_appB _ rfl _ _ rfl w.heap.size _ X1 r u ?_ ?_ oA (by omega) zA ?_; rfl; rfl)
            intro v3 w11 o11 b11 f11 k11
            have DB := Lib.hid (DA.out.app (j' := j + 1) hlt hBg o11 b11 f11 k11 HOK.out (by rw [hl1]; omega))
            clear DA o11 b11 f11 k11 oA zA k0 k1
            go_wp2
            go_roundw
            case rel => exact ⟨j + 1, _, _, by omega, by go_num, rfl, ⟨DB.out.o, DB.out.ok, DB.out.len, DB.out.u, DB.out.ap, DB.out.s.mono (by omega), DB.out.bl, DB.out.sz⟩⟩
            case measure => simp [intOf]; omega
        · go_wp2
          go_roundw
          case rel => exact ⟨j + 1, _, _, by omega, by go_num, rfl, ⟨D9.out.o, D9.out.ok, D9.out.len, D9.out.u, D9.out.ap, D9.out.s.mono (by omega), D9.out.bl, D9.out.sz⟩⟩
          case measure => simp [intOf]; omega
    · have e : j = U := by omega
      subst e
      go_wp2
      go_ret
      exact ⟨_, xs, rfl, okT_of hD.out.ok (by have := hD.out.len; omega), hD.out.o, hD.out.bl⟩
set_option maxHeartbeats 1000000 in
theorem r8tr_any (a : Option Addr) (len cap : Nat) (zs : List Int) (w : World) (hl : len ≤ 48) (h : IsRow .u8 w a len cap zs) :
    Calls Try.prog 25 #[.slice a len cap] w (DrT w.heap.size w) := by
  have hby := R8.byt_of h
  have h0 : Src (w.alloc (.cells #[.slice a len cap, .int .i64 0, .int .u64 0] 86)) w.heap.size w.heap.size a len cap 0 :=
    ⟨Nat.le_refl _, hby.below ((Below.refl _ _).alloc (Nat.le_refl _) _), 0, 0, Nat.le_refl _, by omega, by omega, by unfold World.alloc; exact Array.getElem?_push_size⟩
  have hb0 : Below w.heap.size w (w.alloc (.cells #[.slice a len cap, .int .i64 0, .int .u64 0] 86)) := (Below.refl _ _).alloc (Nat.le_refl _) _
  have hF : Hid (Calls Try.prog 40 #[.slice a len cap] w fun e w' => e = .returned (.pointer (some ⟨w.heap.size, 0, none⟩)) ∧ Src w' w.heap.size w.heap.size a len cap 0 ∧ Below w.heap.size w w') := by
    have H0 := Lib.hid h0
    have HB := Lib.hid hb0
    clear h0 hb0 hby h
    show Calls _ _ _ _ _
    go_enter Try.func40, Try.ntmps40
    go_wp2
    go_ret
    exact ⟨rfl, H0.out, HB.out⟩
  clear h0 hb0 hby h
  go_enter Try.func25, Try.ntmps25
  go_wp2_with fail
  refine hF.out.mono ?_
  rintro e w1 ⟨rfl, s1, b1⟩
  go_wp2_with fail
  refine (dtr_s w.heap.size w.heap.size len cap 0 a w1 (by omega) (by omega) s1).mono ?_
  rintro e w2 ⟨v, xs, rfl, hok, ho, hb⟩
  go_wp2
  go_ret
  exact ⟨v, xs, rfl, hok, ho.mono b1.size, b1.trans hb⟩
end Go.Proofs.Ytdjkmffekfbbcaa.Sr
