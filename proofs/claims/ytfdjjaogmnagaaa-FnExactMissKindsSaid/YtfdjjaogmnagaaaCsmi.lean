/- Contracts of the model's and the program's SetMisses. -/
import Derived.Test.YtfdjjaogmnagaaaCmisE
import Derived.Test.YtfdjjaogmnagaaaCixr
import Derived.Test.YtfdjjaogmnagaaaCbtg
import Derived.Test.YtfdjjaogmnagaaaCuses
namespace Go.Proofs.Ytfdjjaogmnagaaa.Ix
open Go.RowKit Tr Bt
def okPl (n : Int) : Bool := decide (1 ≤ n) && decide (n ≤ 4)
def misV (xs : List Int) (n : Int) (us : List Int) : Int := if (okX xs && (okPl n && okU us)) = true then ((misS (fun i => (xs.getD i 0).toNat) xs.length n us us.length : Nat) : Int) else 0
theorem misV_no {xs : List Int} {n : Int} {us : List Int} (h : (okX xs && (okPl n && okU us)) = false) : misV xs n us = 0 := by unfold misV; rw [h]; rfl
theorem misV_yes {ns : List Nat} {n : Int} {us : List Int} (h : (okX (castL ns) && (okPl n && okU us)) = true) : misV (castL ns) n us = ((misS (pad ns) ns.length n us us.length : Nat) : Int) := by
  unfold misV; rw [if_pos h, pad_fun, castL_len]
theorem places_s (n : Int) (w : World) : Calls Try.prog 16 #[.int .i64 n] w (Bl (okPl n) w) := by
  have H := Lib.hid (in_g n 1 4 w)
  unfold okPl
  generalize (decide (1 ≤ n) && decide (n ≤ 4)) = b at *
  go_enter Try.func16, Try.ntmps16
  go_wp2_with (go_at_call 28; refine H.out.mono ?_; rintro e w' ⟨rfl, rfl⟩)
  go_ret
  exact ⟨rfl, rfl⟩
theorem places_i (n : Int) (w : World) : Calls Try.prog 22 #[.int .i64 n] w (Bl (okPl n) w) := by
  have H := Lib.hid (btw_g n 1 4 w)
  unfold okPl
  generalize (decide (1 ≤ n) && decide (n ≤ 4)) = b at *
  go_enter Try.func22, Try.ntmps22
  go_wp2_with (go_at_call 34; refine H.out.mono ?_; rintro e w' ⟨rfl, rfl⟩)
  go_ret
  exact ⟨rfl, rfl⟩
theorem okU_nat {us : List Int} (h : okU us = true) : ∃ un : List Nat, us = castL un ∧ ∀ i, un.getD i 0 < 64 := by
  have hm : ∀ x ∈ us, 0 ≤ x ∧ x ≤ 63 := fun x hx => by
    obtain ⟨j, hj, e⟩ := List.getElem_of_mem hx
    have := okU_at h j hj
    rw [List.getD_eq_getElem?_getD, List.getElem?_eq_getElem hj, Option.getD_some, e] at this
    exact this
  have e : us = castL (us.map Int.toNat) := by
    unfold castL
    rw [List.map_map]
    refine (List.map_id us).symm.trans (List.map_congr_left fun x hx => ?_)
    have := (hm x hx).1
    show x = ((x.toNat : Nat) : Int)
    omega
  refine ⟨us.map Int.toNat, e, fun i => ?_⟩
  by_cases hi : i < us.length
  · have h1 := okU_at h i hi
    have h2 := castL_get (us.map Int.toNat) i
    rw [← e] at h2
    omega
  · rw [List.getD_eq_getElem?_getD, List.getElem?_eq_none (by simpa using hi)]; decide
end Go.Proofs.Ytfdjjaogmnagaaa.Ix
