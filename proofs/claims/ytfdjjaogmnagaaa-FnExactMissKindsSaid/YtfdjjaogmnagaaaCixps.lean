/- The model's span: its list without doubles and its set; the model's SpanOf. -/
import Derived.Test.YtfdjjaogmnagaaaCixp
import Derived.Test.YtfdjjaogmnagaaaConlyS
import Derived.Deep.AppendLies
namespace Go.Proofs.Ytfdjjaogmnagaaa.Ix
open Go.RowKit Tr Bt
theorem step_appI {ops : Array Oper} {o : Oper} {a : Act} {K : Act → World → Prop} {Q : Exit → Act → World → Prop} {E : Prop} (wr : World) (hgd : o.guard = none) (s x : Operand)
    (ho : o.op = .call { callee := .builtin .append, args := #[s, x], argTypes := #[22, 22] })
    (B : Nat) (v : Value) (xs : List Int) (u : Int) (hs : a.eval s = v) (hx : a.eval x = .slice (some ⟨wr.heap.size, 0, none⟩) 1 1) (hown : Own wr B v xs) (hlen : xs.length + 1 ≤ 100000000) (hB : B ≤ wr.heap.size)
    (h : ∀ g cap w', Own w' B (.slice (some ⟨g, 0, none⟩) (xs.length + 1) cap) (xs ++ [u]) → Below B wr w' → K (a.put o.dst (.slice (some ⟨g, 0, none⟩) (xs.length + 1) cap)) w') :
    if Region.wanted o (yielded ops a.tmps) = true then Oper.wp Try.prog o a (wr.alloc (.cells #[.int .i64 u] 2)) K Q else E := by
  obtain ⟨i0, hi, hz0, hz1, hz2⟩ := info_parts infoI
  have hsz : (wr.alloc (.cells #[.int .i64 u] 2)).heap.size = wr.heap.size + 1 := Array.size_push _
  refine step_append_lies _ hgd s x 22 ho B 2 i0 (.int .i64 0) 1 8 Try.underlying22 hi hz0 hz1 hz2 rfl (by decide) v xs.length (xs.map (Value.int .i64)) hs (World.ownsRow.alloc hown _)
    ⟨wr.heap.size, 0, none⟩ 1 1 [.int .i64 u] hx rfl ?_ ?_ (by decide) ?_ ?_ ?_ _ rfl ?_
  · intro j u' hj
    match j, hj with
    | 0, hj => simp at hj; subst hj; simp [Addr.add]
  · intro u' hu; simp at hu; subst hu; rfl
  · unfold maxLen; omega
  · omega
  · simp; omega
  · intro g cap w' hrow hgrow _ _
    refine h g cap w' ?_ ?_
    · show World.ownsRow _ _ _ _ _ (xs ++ [u]).length _
      rw [List.length_append, List.map_append]
      exact hrow
    · exact ((Below.refl B wr).alloc hB _).grown hgrow (by omega) (fun k hk => (Own.block hown k hk).1)
theorem drewN_below {B : Nat} {w w' : World} {q : Nat} (h : Below B (w.drewN q).drew w') : Below B w w' := (below_drewN q (Below.refl B w)).drew.trans h
set_option maxHeartbeats 400000 in
theorem span_s (a : Option Addr) (c : Nat) (ns : List Nat) (w : World) (hl : ns.length ≤ 3) (h64 : ∀ i, ns.getD i 0 < 64) (hr : Row w a (castL ns)) :
    Calls Try.prog 32 #[.slice a ns.length c] w (Lb (spanS (pad ns)) w) := by
  have HC := Lib.hid (fun (j : Nat) (hj : j < ns.length) (w' : World) (hb : Below w.heap.size w w') => (show ∃ b off, a = some ⟨b, off, none⟩ ∧ w'.cell? ⟨b, off + j, none⟩ = some (.int .i64 ((pad ns j : Nat) : Int)) from by
    obtain ⟨b, off, e, h1, hlt⟩ := hr j (by rw [castL_len]; exact hj)
    exact ⟨b, off, e, by rw [hb.cell (p := ⟨b, off + j, none⟩) hlt, h1, castL_get]; rfl⟩))
  have HL := Lib.hid (spL_len (pad ns))
  have H64 := Lib.hid (fun j x hx => spL_lt (r := pad ns) h64 j x hx)
  have HP64 := Lib.hid (show ∀ j, pad ns j < 64 from h64)
  have HF := Lib.hid (fun (S : List Nat) (h : ∀ x, x ∈ S ↔ x ∈ spL (pad ns) ns.length) => (show setP (castL S) = spanS (pad ns) from (setP_cast fun x => (h x).trans ((spL_pad ns hl x).trans (spL_three (pad ns) x).symm)).trans (spanS_i (pad ns))))
  clear hr h64
  generalize spanS (pad ns) = ys at *
  generalize pad ns = r at *
  generalize ns.length = N at *
  go_enter Try.func32, Try.ntmps32
  go_wp2
  go_loopw [3, 4] (fun v i wr => ∃ (j : Nat) (S : List Nat), j ≤ N ∧ i = .int .i64 j ∧ Own wr w.heap.size v (castL S) ∧ Hid ((∀ x, x ∈ S ↔ x ∈ spL r j) ∧ 0 < S.length ∧ S.length ≤ 2 ^ j) ∧ Below w.heap.size w wr) (fun _ i _ => N - (intOf i).toNat)
  case atStart => exact ⟨0, [0], Nat.zero_le _, rfl, lit0 w, Lib.hid ⟨fun x => Iff.rfl, by simp, by simp⟩, (Below.refl _ w).alloc (Nat.le_refl _) _⟩
  case round =>
    obtain ⟨j, S0, hj, rfl, hown, hS0, hb⟩ := hrel
    have hd0 := hS0.out
    have hp8 : 2 ^ j ≤ 8 := by have : 2 ^ j ≤ 2 ^ 3 := Nat.pow_le_pow_right (by omega) (by omega); simpa using this
    have hlen8 : S0.length ≤ 8 := by omega
    have hcl : (castL S0).length = S0.length := castL_len S0
    by_cases hlt : j < N
    · have hd : decide ((j : Int) < (N : Int)) = true := decide_eq_true (by omega)
      obtain ⟨g, cp, rfl, hg, _⟩ := own_some hown (by rw [hcl]; exact hd0.2.1)
      have HD0 := Lib.hid (Dup.start hd0.1)
      have HSTEP := Lib.hid (fun k S (h : Dup r j k S0 S) (hk : k < S0.length) => And.intro (h.get hk) (h.step hk))
      have HEND := Lib.hid (fun S (h : Dup r j S0.length S0 S) => h.done)
      have HPRE := Lib.hid (fun k S (h : Dup r j k S0 S) => (show S0.length ≤ S.length ∧ S.length ≤ S0.length + k from by obtain ⟨t, e, ht⟩ := h.pre; rw [e, List.length_append]; omega))
      have HU := Lib.hid (fun k (hk : k < S0.length) => (show S0.getD k 0 < 64 from H64.out j _ ((hd0.1 _).1 (by rw [List.getD_eq_getElem?_getD, List.getElem?_eq_getElem hk]; exact List.getElem_mem _))))
      have hrj := HP64.out j
      have HROWJ := Lib.hid (fun w' hb' => HC.out j hlt w' hb')
      have HOWN := Lib.hid hown
      have HB := Lib.hid hb
      have HPW := Lib.hid (show 2 ^ (j + 1) = 2 * 2 ^ j by rw [Nat.pow_succ]; omega)
      have HL0 := Lib.hid hd0.2
      clear hown hb hd0 hS0
      generalize hrr : r j = rj at hrj HSTEP HROWJ
      clear hrr
      generalize hML : (castL S0).length = M' at *
      generalize hMN : S0.length = M at *
      subst hcl
      have HMN := Lib.hid hMN
      clear hMN hML
      obtain ⟨wo, hwo⟩ : ∃ wo, wo = wr := ⟨_, rfl⟩
      subst hwo
      go_wp2
      go_loopw [3, 6] (fun v i wr => ∃ (k : Nat) (S : List Nat), k ≤ M' ∧ i = .int .i64 k ∧ Own wr w.heap.size v (castL S) ∧ Hid (Dup r j k S0 S) ∧ Below w.heap.size w wr) (fun _ i _ => M' - (intOf i).toNat)
      case atStart => exact ⟨0, S0, Nat.zero_le _, rfl, HOWN.out, HD0, HB.out⟩
      case round =>
        obtain ⟨k, S, hk, rfl, hown, hD, hb⟩ := hrel
        have hpre := HPRE.out k S hD.out
        have hcl : (castL S).length = S.length := castL_len S
        by_cases hkl : k < M'
        · have hdk : decide ((k : Int) < (M' : Int)) = true := decide_eq_true (by omega)
          obtain ⟨hget, hyes, hno⟩ := HSTEP.out k S hD.out hkl
          have hu := HU.out k hkl
          obtain ⟨ga, gc, rfl, hga, hrow⟩ := own_some hown (by omega)
          obtain ⟨b', off', ha', hc', hlt'⟩ := hrow k (by omega)
          injection ha' with ha'
          injection ha' with e1 e2
          subst e1 e2
          rw [Nat.zero_add, castL_get, hget] at hc'
          obtain ⟨br, offr, rfl, hcr⟩ := HROWJ.out wr hb
          have hcon := castL_contains S (S0.getD k 0 ^^^ rj)
          generalize S0.getD k 0 = u at *
          have hx : bits .xor .i64 (u : Int) (rj : Int) = ((u ^^^ rj : Nat) : Int) := i64_xor _ _ (by omega) (by omega)
          generalize u ^^^ rj = x at *
          have HY := Lib.hid hyes
          have HNO := Lib.hid hno
          have hI := Lib.hid (fun n => (has_s (some ⟨ga, 0, none⟩) gc (castL S) (x : Int) (wr.drewN n) (by omega) hrow).mono (R' := fun e w' => e = .returned (.bool (S.contains x)) ∧ ∃ m, w' = wr.drewN m) fun e w' ⟨he, hw⟩ => ⟨by rw [he, hcon], n, hw.symm⟩)
          have HB1 := Lib.hid hb
          have hsz := hb.size
          have HOWN1 := Lib.hid hown
          clear hyes hno hget hcon hrow hlt' hown hb hD
          have hpre1 := hpre.1
          have hpre2 := hpre.2
          have HLS := Lib.hid hcl
          clear hcl hpre
          generalize hSL : (castL S).length = L at *
          have HSL := Lib.hid hSL
          clear hSL
          have hL16 : L ≤ 16 := by have := HLS.out; omega
          have hkL : k < L := by have := HLS.out; omega
          have hkL' : (k : Int) < (L : Int) := by omega
          have hjN' : (j : Int) < (N : Int) := by omega
          clear hpre1 hpre2
          cases hct : S.contains x
          · rw [hct] at hI
            have hdup := Lib.hid (HNO.out hct)
            clear HNO HY hct
            go_wp2
            go_quiet (exact hI.out _)
            go_wp2
            go_region_law (refine step_appI _ rfl (.tmp 33) (.tmp 43) rfl w.heap.size (.slice (some ⟨ga, 0, none⟩) L gc) (castL S) (x : Int) (by first | rfl | simp [Act.eval, Act.put]) (by first | rfl | simp [Act.eval, Act.put]) HOWN1.out (by rw [HSL.out]; omega) hsz ?_; intro g9 cap9 w9 ho9 hb9)
            all_goals
              go_wp2
              refine ⟨⟨k + 1, S ++ [x], by omega, by go_num, by rw [castL_snoc]; exact ho9, hdup, HB1.out.trans ((below_drewN _ (Below.refl _ _)).trans hb9)⟩, by simp [intOf]; omega⟩
          · rw [hct] at hI
            have hdup := Lib.hid (HY.out hct)
            clear HNO HY hct
            go_wp2
            go_quiet (exact hI.out _)
            go_wp2
            go_roundw
            case rel => exact ⟨k + 1, S, by omega, by go_num, HOWN1.out, hdup, below_drewN _ HB1.out⟩
            case measure => simp [intOf]; omega
        · obtain rfl : k = M' := by omega
          have hdk : decide ((k : Int) < (k : Int)) = false := decide_eq_false (by omega)
          have hlast := HEND.out S hD.out
          have hl0 := HL0.out
          have hpw := HPW.out
          go_wp2
          go_roundw
          case rel => exact ⟨j + 1, S, by omega, by go_num, hown, Lib.hid ⟨hlast, by omega, by omega⟩, hb⟩
          case measure => simp [intOf]; omega
    · obtain rfl : j = N := by omega
      have hset := HF.out S0 hd0.1
      have hS := Lib.hid (set_sR hown.rd (by omega))
      rw [hset] at hS
      have HB := Lib.hid hb
      have hsz := hb.size
      clear hset hown hb hS0 hd0
      go_wp2_with (go_at_call 18; refine hS.out.mono ?_; rintro e w3 ⟨v3, rfl, ho3, hb3⟩)
      go_ret
      exact ⟨_, rfl, ho3.mono hsz, HB.out.trans (hb3.mono hsz)⟩
end Go.Proofs.Ytfdjjaogmnagaaa.Ix
