/- The program's iterator over the last uses; the working set of a use by it. -/
import Derived.Test.YtdjkmffekfbbcaaCsetI
namespace Go.Proofs.Ytdjkmffekfbbcaa.Tr
open Go.RowKit Go.Shelf
attribute [local go_sem] Oper.semAt_some
/-- The latest k uses up to i, the latest first. -/
def lat (zs : List Int) (i k : Nat) : List Int := (List.range k).map fun j => zs.getD (i - j) 0
theorem lat_succ (zs : List Int) (i k : Nat) : lat zs i (k + 1) = lat zs i k ++ [zs.getD (i - k) 0] := by simp [lat, List.range_succ]
theorem lat_length (zs : List Int) (i k : Nat) : (lat zs i k).length = k := by simp [lat]
theorem lat_set (zs : List Int) (i q : Nat) (hi : i < zs.length) : setP (lat zs i (min (i + 1) q)) = setP ((zs.take (i + 1)).drop (i + 1 - q)) := by
  refine setP_congr fun y => ?_
  unfold lat
  rw [List.mem_map]
  constructor
  · rintro ⟨j, hj, rfl⟩
    have hj' : j < min (i + 1) q := by simpa using hj
    refine List.mem_iff_getElem.2 ⟨(i - j) - (i + 1 - q), by simp; omega, ?_⟩
    rw [List.getElem_drop, List.getElem_take, getD_get' zs (i - j) (by omega)]
    congr 1
    omega
  · intro h
    obtain ⟨p, hp, e⟩ := List.mem_iff_getElem.1 h
    have hp' : p < i + 1 - (i + 1 - q) := by simp at hp; omega
    rw [List.getElem_drop, List.getElem_take] at e
    refine ⟨i - (i + 1 - q + p), by simp; omega, ?_⟩
    rw [← e, show i - (i - (i + 1 - q + p)) = i + 1 - q + p by omega, getD_get' zs _ (by omega)]
set_option maxRecDepth 100000 in
set_option maxHeartbeats 2000000 in
theorem last_stops (n Ba Bq Bu : Nat) (hn : 1 ≤ n) (a : Option Addr) (c i q : Nat) (zs : List Int) (hl : zs.length ≤ 60) (hi : i < zs.length) (hq1 : 1 ≤ q) (hq : q ≤ 60) (w : World) (hBa : Ba < w.heap.size) (hBq : Bq < w.heap.size) (hBu : Bu < w.heap.size)
    (hca : w.cell? ⟨Ba, 0, none⟩ = some (.int .i64 (i : Int))) (hcq : w.cell? ⟨Bq, 0, none⟩ = some (.int .i64 (q : Int))) (hcu : w.cell? ⟨Bu, 0, none⟩ = some (.slice a zs.length c)) (hr : Row w a zs) :
    SeqStopsK Fence.wide n Try.prog 63 #[.pointer (some ⟨Ba, 0, none⟩), .pointer (some ⟨Bq, 0, none⟩), .pointer (some ⟨Bu, 0, none⟩)] encI (Below w.heap.size) (fun ys => ys = lat zs i (min (i + 1) q)) (fun _ => True) (min (i + 1) q) w := fun l J Jx W hW _ _ hY h0 => by
  have HA := Lib.hid (fun (wr : World) (hb : Below w.heap.size W wr) => (hb.cell (p := ⟨Ba, 0, none⟩) hBa).trans ((hW.cell (p := ⟨Ba, 0, none⟩) hBa).trans hca))
  have HQ := Lib.hid (fun (wr : World) (hb : Below w.heap.size W wr) => (hb.cell (p := ⟨Bq, 0, none⟩) hBq).trans ((hW.cell (p := ⟨Bq, 0, none⟩) hBq).trans hcq))
  have HU := Lib.hid (fun (wr : World) (hb : Below w.heap.size W wr) => (hb.cell (p := ⟨Bu, 0, none⟩) hBu).trans ((hW.cell (p := ⟨Bu, 0, none⟩) hBu).trans hcu))
  have HC : ∀ (wr : World), Below w.heap.size W wr → ∀ i, i < zs.length → ∃ b off, a = some ⟨b, off, none⟩ ∧ wr.cell? ⟨b, off + i, none⟩ = some (.int .i64 (zs.getD i 0)) := fun wr hb i hi => by
    obtain ⟨b, off, ha, h1, h2⟩ := hr i hi
    exact ⟨b, off, ha, (hb.cell (p := ⟨b, off + i, none⟩) h2).trans ((hW.cell (p := ⟨b, off + i, none⟩) h2).trans h1)⟩
  have HCH := Lib.hid HC
  have HT := Lib.hid (lat_succ zs i)
  have HL := Lib.hid (lat_length zs i)
  have HY := Lib.hid hY
  clear HC hr hY hW hca hcq hcu
  obtain ⟨m, hm⟩ : ∃ m, min (i + 1) q = m := ⟨_, rfl⟩
  have hm1 : m ≤ i + 1 ∧ m ≤ q ∧ (m = i + 1 ∨ m = q) := by omega
  rw [hm] at HY ⊢
  clear hm
  have ca0 := HA.out W (Below.refl _ _)
  refine callsIn_of_wp Try.func63 rfl trivial ?_ rfl
  simp only [Try.ntmps63, List.size_toArray, List.length_cons, List.length_nil, Nat.reduceAdd, Nat.reduceSub, Array.replicate_succ, Array.replicate_zero, List.push_toArray, List.append_toArray, List.nil_append, List.cons_append]
  gi_wp2
  gi_loopw [5] (fun p wr => ∃ k : Nat, k ≤ m ∧ p = .int .i64 ((i : Int) - k) ∧ J (lat zs i k) wr ∧ Below w.heap.size W wr) (fun p _ => (intOf p + 1).toNat)
  case atStart => exact ⟨0, Nat.zero_le _, by simp, h0, Below.refl _ _⟩
  case round =>
    obtain ⟨k, hk, rfl, hJs, hnx⟩ := hrel
    have ca := HA.out wr hnx
    have cq := HQ.out wr hnx
    have cu := HU.out wr hnx
    by_cases hlt : k < m
    · obtain ⟨b, off, rfl, hcx⟩ := HCH.out wr hnx (i - k) (by omega)
      obtain ⟨fn, tmps, assign, body, hy, hR⟩ := HY.out _ (zs.getD (i - k) 0) wr hJs (by rw [HL.out k]; exact hlt)
      dsimp only [encI] at hy
      have ht := Lib.hid (HT.out k)
      generalize zs.getD (i - k) 0 = u at *
      have e1 : (0 : Int) ≤ (i : Int) - k := by omega
      have e2 : (i : Int) - q < (i : Int) - k := by omega
      have e3 : ((i : Int) - k).toNat = i - k := by omega
      have e4 : (i : Int) - k < (zs.length : Int) := by omega
      gi_wp2
      refine hR.mono ?_
      rintro e W3 (⟨rfl, hJ3, hk3⟩ | ⟨rfl, hJx3⟩)
      · gi_wp2
        go_roundw
        case rel => exact ⟨k + 1, by omega, by go_num, by rw [ht.out]; exact hJ3, hnx.trans hk3⟩
        case measure => simp [intOf]; omega
      · gi_wp2
        refine bodyPost_ret (results_none rfl _ _ _) rfl ?_
        exact ⟨⟨_, rfl⟩, .inr ⟨_, trivial, hJx3⟩⟩
    · have e : k = m := by omega
      subst e
      by_cases hki : k = i + 1
      · have e1 : ¬ (0 : Int) ≤ (i : Int) - k := by omega
        gi_wp2
        go_end0
        have hJ2 := hJs
        rw [hki] at hJ2
        first | exact ⟨⟨_, rfl⟩, .inl hJ2⟩ | exact ⟨⟨_, rfl⟩, .inl ⟨_, rfl, hJs⟩⟩ | exact ⟨⟨_, rfl⟩, .inl hJs⟩
      · have hkq : k = q := by omega
        subst hkq
        have e1 : (0 : Int) ≤ (i : Int) - k := by omega
        gi_wp2
        go_end0
        first | exact ⟨⟨_, rfl⟩, .inl ⟨_, rfl, hJs⟩⟩ | exact ⟨⟨_, rfl⟩, .inl hJs⟩
def w3 (w : World) (a : Option Addr) (n c i q : Nat) : World :=
  ((w.alloc (.cells #[.slice a n c] 62)).alloc (.cells #[.int .i64 (i : Int)] 3)).alloc (.cells #[.int .i64 (q : Int)] 3)
theorem w3_below (w : World) (a : Option Addr) (n c i q : Nat) : Below w.heap.size w (w3 w a n c i q) :=
  (((Below.refl _ w).alloc (Nat.le_refl _) _).alloc (by simp) _).alloc (by simp; omega) _
abbrev lastV (w : World) : Value := .func (.func 63) #[] #[.pointer (some ⟨w.heap.size + 1, 0, none⟩), .pointer (some ⟨w.heap.size + 2, 0, none⟩), .pointer (some ⟨w.heap.size, 0, none⟩)]
theorem last_value (a : Option Addr) (n c i q : Nat) (w : World) :
    Calls Try.prog 47 #[.slice a n c, .int .i64 (i : Int), .int .i64 (q : Int)] w fun e w' => e = .returned (lastV w) ∧ w' = w3 w a n c i q := by
  go_enter Try.func47, Try.ntmps47
  go_wp2
  go_ret
  exact ⟨rfl, rfl⟩
theorem last_set (a : Option Addr) (c i q : Nat) (zs : List Int) (hl : zs.length ≤ 60) (hi : i < zs.length) (hq1 : 1 ≤ q) (hq : q ≤ 60) (w : World) (hr : Row w a zs) :
    Calls Try.prog 46 #[lastV w] (w3 w a zs.length c i q) (Lb (setP ((zs.take (i + 1)).drop (i + 1 - q))) (w3 w a zs.length c i q)) := by
  rw [← lat_set zs i q hi]
  have hsz : (w3 w a zs.length c i q).heap.size = w.heap.size + 3 := by simp [w3]
  refine set_i _ _ (enters_of Try.func63 (by kernel_rfl) rfl) (lat zs i (min (i + 1) q)) (fun _ => True) (min (i + 1) q) (by omega) _
    (last_stops 5 (w.heap.size + 1) (w.heap.size + 2) w.heap.size (by omega) a c i q zs hl hi hq1 hq _ (by rw [hsz]; omega) (by rw [hsz]; omega) (by rw [hsz]; omega) ?_ ?_ ?_ (hr.below (w3_below w a zs.length c i q)))
  · have h1 : ((w.alloc (.cells #[.slice a zs.length c] 62)).alloc (.cells #[.int .i64 (i : Int)] 3)).cell? ⟨w.heap.size + 1, 0, none⟩ = some (.int .i64 (i : Int)) := by
      have := (Boxed.new (w.alloc (.cells #[.slice a zs.length c] 62)) 3 (.int .i64 (i : Int))).cell
      rwa [World.size_alloc] at this
    exact (((Below.refl _ _).alloc (Nat.le_refl _) _).cell (p := ⟨w.heap.size + 1, 0, none⟩) (by simp)).trans h1
  · have := (Boxed.new ((w.alloc (.cells #[.slice a zs.length c] 62)).alloc (.cells #[.int .i64 (i : Int)] 3)) 3 (.int .i64 (q : Int))).cell
    rwa [World.size_alloc, World.size_alloc] at this
  · have h1 := (Boxed.new w 62 (.slice a zs.length c)).cell
    exact (((((Below.refl _ (w.alloc (.cells #[.slice a zs.length c] 62))).alloc (Nat.le_refl _) _).alloc (by simp) _)).cell (p := ⟨w.heap.size, 0, none⟩) (by simp)).trans h1
end Go.Proofs.Ytdjkmffekfbbcaa.Tr
