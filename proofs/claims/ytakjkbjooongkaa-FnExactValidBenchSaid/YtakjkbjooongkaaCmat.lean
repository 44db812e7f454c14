/- Lists of lists of integers that came in: their size, and a copy of the call's own. -/
import Derived.Test.YtakjkbjooongkaaCow2
import Derived.Test.YtakjkbjooongkaaCto
namespace Go.Proofs.Ytakjkbjooongkaa
open Go.RowKit
/-- What the walk is told of a slice of slices of integers that came in. -/
def IsMatL (w : World) (a : Option Addr) (xss : List (List Int)) : Prop :=
  xss.length ≤ 9223372036854775807 ∧ ∀ i, i < xss.length → ∃ b off A C zs, a = some ⟨b, off, none⟩ ∧ w.cell? ⟨b, off + i, none⟩ = some (.slice A (xss.getD i []).length C) ∧ IsRow .i64 w A (xss.getD i []).length C zs ∧ zs.take (xss.getD i []).length = xss.getD i []
/-- As the shell tells it. -/
def IsMat (w : World) (a : Option Addr) (len : Nat) : Prop :=
  len ≤ 9223372036854775807 ∧ ∀ i, i < len → ∃ b off A L C zs, a = some ⟨b, off, none⟩ ∧ w.cell? ⟨b, off + i, none⟩ = some (.slice A L C) ∧ IsRow .i64 w A L C zs
theorem IsMat.list {w : World} {a : Option Addr} {len : Nat} (h : IsMat w a len) : ∃ xss : List (List Int), xss.length = len ∧ IsMatL w a xss := by
  obtain ⟨hl, h⟩ := h
  have hex : ∀ i, ∃ xs : List Int, i < len → ∃ b off A C zs, a = some ⟨b, off, none⟩ ∧ w.cell? ⟨b, off + i, none⟩ = some (.slice A xs.length C) ∧ IsRow .i64 w A xs.length C zs ∧ zs.take xs.length = xs := fun i => by
    by_cases hi : i < len
    · obtain ⟨b, off, A, L, C, zs, h1, h2, h3⟩ := h i hi
      have hle := (h3.le).2
      have e : (zs.take L).length = L := by rw [List.length_take]; omega
      exact ⟨zs.take L, fun _ => ⟨b, off, A, C, zs, h1, by rw [e]; exact h2, by rw [e]; exact h3, by rw [e]⟩⟩
    · exact ⟨[], fun h => absurd h hi⟩
  refine ⟨(List.range len).map fun i => Classical.choose (hex i), by simp, by simpa using hl, fun i hi => ?_⟩
  have hi' : i < len := by simpa using hi
  have e : ((List.range len).map fun i => Classical.choose (hex i)).getD i [] = Classical.choose (hex i) := by
    rw [List.getD_eq_getElem?_getD, List.getElem?_eq_getElem hi]; simp
  rw [e]
  exact Classical.choose_spec (hex i) hi'
theorem IsMatL.below {w w' : World} {a : Option Addr} {xss : List (List Int)} (h : IsMatL w a xss) (hb : Below w.heap.size w w') : IsMatL w' a xss :=
  ⟨h.1, fun i hi => by
    obtain ⟨b, off, A, C, zs, h1, h2, h3, h4⟩ := h.2 i hi
    exact ⟨b, off, A, C, zs, h1, (hb.cell (p := ⟨b, off + i, none⟩) (World.block_lt_of_cell? w _ h2)).trans h2, isRow_below h3 hb, h4⟩⟩
/-- How much is left of a size when lists have been counted, or -1. -/
def lens (xss : List (List Int)) : List Nat := xss.map List.length
theorem lens_length (xss : List (List Int)) : (lens xss).length = xss.length := by simp [lens]
theorem lens_get (xss : List (List Int)) (j : Nat) (h : j < xss.length) : (lens xss).getD j 0 = (xss.getD j []).length := by
  unfold lens
  rw [List.getD_eq_getElem?_getD, List.getElem?_map, List.getElem?_eq_getElem h, List.getD_eq_getElem?_getD, List.getElem?_eq_getElem h]; rfl
theorem szI_yes (a : Option Addr) (len cap : Nat) (left : Int) (w : World) (h : (len : Int) ≤ left) (hl : left ≤ 1048576) :
    Calls Try.prog 19 #[.slice a len cap, .int .i64 left] w (Count (left - (len : Int)) w) := by
  have h1 : ¬ (left - (len : Int)) < 0 := by omega
  go_enter Try.func19, Try.ntmps19
  go_wp2
  go_ret
  exact ⟨rfl, rfl⟩
theorem szI_no (a : Option Addr) (len cap : Nat) (left : Int) (w : World) (h0 : 0 ≤ left) (h : left < (len : Int)) (hl : left ≤ 1048576) (hm : len ≤ 9223372036854775807) :
    Calls Try.prog 19 #[.slice a len cap, .int .i64 left] w (Count (-1) w) := by
  have h1 : (left - (len : Int)) < 0 := by omega
  go_enter Try.func19, Try.ntmps19
  go_wp2
  go_ret
  exact ⟨rfl, rfl⟩
/-- What szInt64SS answers. -/
def szV (left : Int) (xss : List (List Int)) : Int := if (xss.length : Int) + ((lens xss).sum : Nat) ≤ left then left - xss.length - ((lens xss).sum : Nat) else -1
set_option maxHeartbeats 2000000 in
theorem szM_yes (a : Option Addr) (cap : Nat) (xss : List (List Int)) (left : Int) (w : World) (hm : IsMatL w a xss) (hl : left ≤ 1048576) (h : (xss.length : Int) + ((lens xss).sum : Nat) ≤ left) :
    Calls Try.prog 18 #[.slice a xss.length cap, .int .i64 left] w (Count (left - xss.length - ((lens xss).sum : Nat)) w) := by
  have HC := Lib.hid hm.2
  have HS := Lib.hid (fun j (hj : j < xss.length) => sum_step (lens xss) j (by rw [lens_length]; exact hj))
  have HG := Lib.hid (fun j (hj : j < xss.length) => lens_get xss j hj)
  have HT := Lib.hid (fun j => sum_take_le (lens xss) j)
  have HE := Lib.hid (show ((lens xss).take xss.length).sum = (lens xss).sum by rw [List.take_of_length_le (by rw [lens_length]; exact Nat.le_refl _)])
  clear hm
  generalize (lens xss).sum = T at *
  generalize hN : xss.length = N at *
  clear hN
  have h0 : ¬ (left - (N : Int)) < 0 := by omega
  go_enter Try.func18, Try.ntmps18
  go_wp2
  go_loop [1, 5] (fun m i => ∃ j r : Nat, j ≤ N ∧ i = .int .i64 (j : Nat) ∧ m = .int .i64 (left - (N : Int) - (r : Nat)) ∧ r ≤ T ∧ Hid (r = ((lens xss).take j).sum)) (fun _ i => N - (intOf i).toNat)
  case atStart => exact ⟨0, 0, Nat.zero_le _, rfl, by simp, Nat.zero_le _, Lib.hid (by simp)⟩
  case round =>
    obtain ⟨j, r, hj, rfl, rfl, hrT, hr⟩ := hrel
    by_cases hlt : j < N
    · obtain ⟨b, off, A, C, zs, rfl, hc, _, _⟩ := HC.out j hlt
      have hs := HS.out j hlt
      have hg := HG.out j hlt
      have ht := HT.out (j + 1)
      rw [← hr.out, hg] at hs
      rw [hs] at ht
      have HR := Lib.hid hs.symm
      clear hs hg
      generalize (xss.getD j []).length = d at *
      have HZ := Lib.hid (szI_yes A d C (left - (N : Int) - (r : Nat)) w (by omega) (by omega))
      have hneg : ¬ (left - (N : Int) - (r : Nat) - (d : Nat)) < 0 := by omega
      go_wp2_with (go_at_call 19; refine HZ.out.mono ?_; rintro e w' ⟨rfl, rfl⟩)
      go_round
      case rel => exact ⟨j + 1, r + d, by omega, by go_num, by go_num, ht, HR⟩
      case measure => simp [intOf]; omega
    · have e : j = N := by omega
      subst e
      have hrE : r = T := by rw [hr.out, HE.out]
      subst hrE
      go_wp2
      go_ret
      exact ⟨rfl, rfl⟩
set_option maxHeartbeats 2000000 in
theorem szM_no (a : Option Addr) (cap : Nat) (xss : List (List Int)) (left : Int) (w : World) (hm : IsMatL w a xss) (hl0 : 0 ≤ left) (hl : left ≤ 1048576) (h : left < (xss.length : Int) + ((lens xss).sum : Nat)) :
    Calls Try.prog 18 #[.slice a xss.length cap, .int .i64 left] w (Count (-1) w) := by
  have HC := Lib.hid hm.2
  have hNm := hm.1
  have HS := Lib.hid (fun j (hj : j < xss.length) => sum_step (lens xss) j (by rw [lens_length]; exact hj))
  have HG := Lib.hid (fun j (hj : j < xss.length) => lens_get xss j hj)
  have HE := Lib.hid (show ((lens xss).take xss.length).sum = (lens xss).sum by rw [List.take_of_length_le (by rw [lens_length]; exact Nat.le_refl _)])
  clear hm
  generalize (lens xss).sum = T at *
  generalize hN : xss.length = N at *
  clear hN
  by_cases h0 : (left - (N : Int)) < 0
  · go_enter Try.func18, Try.ntmps18
    go_wp2
    go_ret
    exact ⟨rfl, rfl⟩
  go_enter Try.func18, Try.ntmps18
  go_wp2
  go_loop [1, 5] (fun m i => ∃ j r : Nat, j ≤ N ∧ i = .int .i64 (j : Nat) ∧ m = .int .i64 (left - (N : Int) - (r : Nat)) ∧ ((N : Int) + (r : Nat) ≤ left) ∧ Hid (r = ((lens xss).take j).sum)) (fun _ i => N - (intOf i).toNat)
  case atStart => exact ⟨0, 0, Nat.zero_le _, rfl, by simp, by omega, Lib.hid (by simp)⟩
  case round =>
    obtain ⟨j, r, hj, rfl, rfl, hrT, hr⟩ := hrel
    by_cases hlt : j < N
    · obtain ⟨b, off, A, C, zs, rfl, hc, hrow, _⟩ := HC.out j hlt
      have hdm := (hrow.le).1
      have hs := HS.out j hlt
      have hg := HG.out j hlt
      rw [← hr.out, hg] at hs
      have HR := Lib.hid hs.symm
      clear hs hg hrow
      generalize (xss.getD j []).length = d at *
      by_cases hd : (d : Int) ≤ left - (N : Int) - (r : Nat)
      · have HZ := Lib.hid (szI_yes A d C (left - (N : Int) - (r : Nat)) w hd (by omega))
        have hneg : ¬ (left - (N : Int) - (r : Nat) - (d : Nat)) < 0 := by omega
        go_wp2_with (go_at_call 19; refine HZ.out.mono ?_; rintro e w' ⟨rfl, rfl⟩)
        go_round
        case rel => exact ⟨j + 1, r + d, by omega, by go_num, by go_num, by omega, HR⟩
        case measure => simp [intOf]; omega
      · have HZ := Lib.hid (szI_no A d C (left - (N : Int) - (r : Nat)) w (by omega) (by omega) (by omega) hdm)
        clear hd
        go_wp2_with (go_at_call 19; refine HZ.out.mono ?_; rintro e w' ⟨rfl, rfl⟩)
        go_ret
        exact ⟨rfl, rfl⟩
    · have e : j = N := by omega
      subst e
      have hrE : r = T := by rw [hr.out, HE.out]
      omega
end Go.Proofs.Ytakjkbjooongkaa
