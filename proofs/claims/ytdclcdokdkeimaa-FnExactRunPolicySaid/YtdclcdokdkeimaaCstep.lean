/- One use under a policy: the program's. -/
import Derived.Test.YtdclcdokdkeimaaCstepS
import Derived.Test.YtdclcdokdkeimaaCuseh
import Derived.Test.YtdclcdokdkeimaaCconI
namespace Go.Proofs.Ytdclcdokdkeimaa.Pv
open Go.RowKit
theorem rowC_six {xs : List Int} (h : ordB xs.length xs = true) (hl : xs.length ≤ 6) : rowC xs = six6 fun i => ((ordN xs i : Nat) : Int) := by
  show _ = [Value.int .i64 ((ordN xs 0 : Nat) : Int), .int .i64 ((ordN xs 1 : Nat) : Int), .int .i64 ((ordN xs 2 : Nat) : Int), .int .i64 ((ordN xs 3 : Nat) : Int), .int .i64 ((ordN xs 4 : Nat) : Int), .int .i64 ((ordN xs 5 : Nat) : Int)]
  unfold rowC
  rw [(ordN_lt h hl 0 (by omega)).2, (ordN_lt h hl 1 (by omega)).2, (ordN_lt h hl 2 (by omega)).2, (ordN_lt h hl 3 (by omega)).2, (ordN_lt h hl 4 (by omega)).2, (ordN_lt h hl 5 (by omega)).2]
theorem use_any (hs : List (List Int)) (ms : List Int) (hok : isP hs ms = true) (k : Nat → Int) (x : Int) (w : World) :
    Calls Try.prog 39 #[.agg (rulC true ms.length hs ms).toArray, six (k 0) (k 1) (k 2) (k 3) (k 4) (k 5), .int .i64 x] w
      (RetB (.tuple #[six (stN hs ms k x 0) (stN hs ms k x 1) (stN hs ms k x 2) (stN hs ms k x 3) (stN hs ms k x 4) (stN hs ms k x 5), .bool (hitB ms.length k x)]) w) := by
  obtain ⟨ho, h6, hlen⟩ := isP_miss_ord hok
  have h1M : 1 ≤ ms.length := by unfold isP at hok; simp only [Bool.and_eq_true, decide_eq_true_eq] at hok; omega
  by_cases hit : (rowL ms.length k).idxOf x < ms.length
  · have hJh : (rowL ms.length k).idxOf x < hs.length := by omega
    have hoj := isP_hit_ord hok _ hJh
    have hol := ordB_len hoj
    have hb : hitB ms.length k x = true := decide_eq_true hit
    have hst : ∀ i, stN hs ms k x i = k (ordN (hs.getD ((rowL ms.length k).idxOf x) []) i) := fun i => if_pos hit
    rw [hb, hst, hst, hst, hst, hst, hst]
    obtain ⟨e1, e2⟩ := idx_hit _ _ _ hit
    exact use_hit ((rowL ms.length k).idxOf x) ms.length hit h6 _ _ rfl (ordN (hs.getD ((rowL ms.length k).idxOf x) [])) (fun i hi => (ordN_lt (by rw [hol]; exact hoj) (by omega) i hi).1)
      ((rules_hit ms.length h6 hs ms _ hit).trans (rowC_six (by rw [hol]; exact hoj) (by omega))) k x e1 e2 w
  · have hb : hitB ms.length k x = false := decide_eq_false hit
    have hst : ∀ i, stN hs ms k x i = putA k (ms.length - 1) x (ordN ms i) := fun i => if_neg hit
    rw [hb, hst, hst, hst, hst, hst, hst]
    exact use_miss (ms.length - 1) ms.length (by omega) (by omega) _ _ rfl (rulC_len true _ _ _) (ordN ms) (fun i hi => (ordN_lt ho h6 i hi).1)
      ((rules_miss ms.length h6 hs ms).trans (rowC_six ho h6)) k x (idx_miss _ _ _ hit) w
/-- The contents as a row of six. -/
def conK (cs : List Int) (i : Nat) : Int := cs.getD i 0
theorem rowL_con (cs : List Int) : rowL cs.length (conK cs) = cs := by
  apply List.ext_getElem?
  intro i
  by_cases hi : i < cs.length
  · simp [rowL, hi, conK]
  · rw [List.getElem?_eq_none (by rw [rowL_len]; omega), List.getElem?_eq_none (by omega)]
theorem con_cells (cs : List Int) (h : cs.length ≤ 6) : Go.splice z6l 0 (cs.map (Value.int .i64)) = six6 (conK cs) := by
  unfold conK
  match cs, h with
  | [], _ => rfl
  | [a], _ => rfl
  | [a, b], _ => rfl
  | [a, b, c], _ => rfl
  | [a, b, c, d], _ => rfl
  | [a, b, c, d, e], _ => rfl
  | [a, b, c, d, e, f], _ => rfl
  | a :: b :: c :: d :: e :: f :: g :: r, h => simp at h
/-- What the step leaves that a law sees. -/
def stepOk (hs : List (List Int)) (ms cs : List Int) (x : Int) : Bool := isP hs ms && conB ms.length cs && Tr.isA x
def stepV (hs : List (List Int)) (ms cs : List Int) (x : Int) : List Int := if stepOk hs ms cs x then rowL ms.length (stN hs ms (conK cs) x) else []
def stepH (hs : List (List Int)) (ms cs : List Int) (x : Int) : Bool := stepOk hs ms cs x && hitB ms.length (conK cs) x
theorem stepV_no {hs : List (List Int)} {ms cs : List Int} {x : Int} (h : stepOk hs ms cs x = false) : stepV hs ms cs x = [] ∧ stepH hs ms cs x = false := by
  unfold stepV stepH; rw [h]; exact ⟨rfl, rfl⟩
theorem stepV_yes {hs : List (List Int)} {ms cs : List Int} {x : Int} (h : stepOk hs ms cs x = true) : stepV hs ms cs x = rowL ms.length (stN hs ms (conK cs) x) ∧ stepH hs ms cs x = hitB ms.length (conK cs) x := by
  unfold stepV stepH; rw [h]; exact ⟨rfl, rfl⟩
/-- What a function leaves that returns a list and two flags. -/
def ResH (xs : List Int) (hit ok : Bool) (w : World) (e : Ending) (w' : World) : Prop := ∃ v, e = .returned (.tuple #[v, .bool hit, .bool ok]) ∧ OwnW w' w.heap.size v xs ∧ Below w.heap.size w w'
theorem adr_s (x : Int) (w : World) : Calls Try.prog 33 #[.int .i64 x] w (Bl (Tr.isA x) w) := by
  have HI := Lib.hid (Tr.in_a x w)
  generalize Tr.isA x = b at *
  go_enter Try.func33, Try.ntmps33
  go_wp2_with (go_at_call 55; refine HI.out.mono ?_; rintro e w' ⟨rfl, rfl⟩)
  go_ret
  exact ⟨rfl, rfl⟩
theorem con_len {n : Nat} {xs : List Int} (h : conB n xs = true) : xs.length = n := by unfold conB at h; rw [Bool.and_eq_true] at h; exact of_decide_eq_true h.1
set_option maxHeartbeats 2000000 in
theorem stp_s {v : Value} {hs : List (List Int)} {ms xs : List Int} {w : World} {a2 : Option Addr} {c2 : Nat} (x : Int) (h : RdP w v hs ms) (hx : Rd w (.slice a2 xs.length c2) xs) (hxl : xs.length ≤ 1048576) :
    Calls Try.prog 10 #[v, .slice a2 xs.length c2, .int .i64 x] w (ResH (stepV hs ms xs x) (stepH hs ms xs x) (stepOk hs ms xs x) w) := by
  obtain ⟨a, c, a', c', rfl, h1, h2, h3, h4, h5⟩ := h
  obtain ⟨a3, c3, e3, hxc, hxm, hxr⟩ := hx
  injection e3 with e4 e5 e6
  subst e4 e6
  have b0 := (Below.refl w.heap.size w).alloc (Nat.le_refl _) (.cells #[.slice a hs.length c, .slice a' ms.length c'] 29)
  have bk := Blk.newAt w w.heap.size [.slice a hs.length c, .slice a' ms.length c'] 29 rfl
  have HS := Lib.hid (is_s w.heap.size a a' c c' hs ms (w.alloc (.cells #[.slice a hs.length c, .slice a' ms.length c'] 29)) bk.lt (bk.cell 0) (bk.cell 1) (h3.below b0) h5 h4 (h1.below b0) h2)
  have HL := Lib.hid (fun (q : Nat) => con_s w.heap.size a' c' ms.length a2 c2 xs ((w.alloc (.cells #[.slice a hs.length c, .slice a' ms.length c'] 29)).drewN q) hxl ⟨hxc, hxm.1⟩ h4 (bk.cell 1) (hxr.below (below_drewN q b0)))
  have HA := Lib.hid (fun (w' : World) => adr_s x w')
  have HT := Lib.hid (fun (hp : isP hs ms = true) (hc : conB ms.length xs = true) (q : Nat) => step_s w.heap.size a a' c c' hs ms (conK xs) x (.slice a2 xs.length c2) ((w.alloc (.cells #[.slice a hs.length c, .slice a' ms.length c'] 29)).drewN q) hp bk.lt (bk.cell 0) (bk.cell 1) (h1.below (below_drewN q b0)) (h3.below (below_drewN q b0)) (by
    have e : rowL ms.length (conK xs) = xs := by rw [← con_len hc]; exact rowL_con xs
    rw [e]
    exact ⟨a2, c2, rfl, hxc, hxm, hxr.below (below_drewN q b0)⟩))
  have HNO := Lib.hid (@stepV_no hs ms xs x)
  have HYES := Lib.hid (@stepV_yes hs ms xs x)
  have HOK := Lib.hid (show stepOk hs ms xs x = (isP hs ms && conB ms.length xs && Tr.isA x) from rfl)
  have HB0 := Lib.hid b0
  have hz : (w.alloc (.cells #[.slice a hs.length c, .slice a' ms.length c'] 29)).heap.size = w.heap.size + 1 := Array.size_push _
  clear h1 h3 bk h5 hxc hxm hxr b0
  generalize stepV hs ms xs x = V at *
  generalize stepH hs ms xs x = H at *
  generalize rowL ms.length (stN hs ms (conK xs) x) = R at *
  generalize hitB ms.length (conK xs) x = HB at *
  generalize stepOk hs ms xs x = ok at *
  generalize conB ms.length xs = rc at *
  generalize isP hs ms = r at *
  generalize Tr.isA x = ra at *
  generalize xs.length = L at *
  generalize hs.length = N at *
  generalize ms.length = M at *
  cases r
  · have e : ok = false := HOK.out
    subst e
    obtain ⟨rfl, rfl⟩ := HNO.out rfl
    go_enter Try.func10, Try.ntmps10
    go_wp2_with (go_at_call 31; refine HS.out.mono ?_; rintro e w1 ⟨rfl, q, rfl⟩)
    go_ret3
    exact ⟨_, rfl, OwnW.nil _ _, below_drewN _ HB0.out⟩
  · cases rc
    · have e : ok = false := HOK.out
      subst e
      obtain ⟨rfl, rfl⟩ := HNO.out rfl
      go_enter Try.func10, Try.ntmps10
      go_wp2_with (first | (go_at_call 31; refine HS.out.mono ?_; rintro e w1 ⟨rfl, q, rfl⟩) | (go_at_call 32; refine (HL.out _).mono ?_; rintro e w1 ⟨rfl, q2, rfl⟩))
      go_ret3
      exact ⟨_, rfl, OwnW.nil _ _, by first | exact below_drewN _ (below_drewN _ HB0.out) | (rw [World.drewN_drewN]; exact below_drewN _ HB0.out) | exact below_drewN _ HB0.out⟩
    · cases ra
      · have e : ok = false := HOK.out
        subst e
        obtain ⟨rfl, rfl⟩ := HNO.out rfl
        go_enter Try.func10, Try.ntmps10
        go_wp2_with (first | (go_at_call 31; refine HS.out.mono ?_; rintro e w1 ⟨rfl, q, rfl⟩) | (go_at_call 32; refine (HL.out _).mono ?_; rintro e w1 ⟨rfl, q2, rfl⟩) | (go_at_call 33; (with_reducible refine (HA.out _).mono ?_); rintro e w1 ⟨rfl, rfl⟩))
        go_ret3
        exact ⟨_, rfl, OwnW.nil _ _, by first | exact below_drewN _ (below_drewN _ HB0.out) | (rw [World.drewN_drewN]; exact below_drewN _ HB0.out) | exact below_drewN _ HB0.out⟩
      · have e : ok = true := HOK.out
        subst e
        obtain ⟨rfl, rfl⟩ := HYES.out rfl
        have HT2 := Lib.hid (fun q => HT.out rfl rfl q)
        clear HT
        go_enter Try.func10, Try.ntmps10
        go_wp2_with (first | (go_at_call 31; refine HS.out.mono ?_; rintro e w1 ⟨rfl, q, rfl⟩) | (go_at_call 32; refine (HL.out _).mono ?_; rintro e w1 ⟨rfl, q2, rfl⟩) | (go_at_call 33; (with_reducible refine (HA.out _).mono ?_); rintro e w1 ⟨rfl, rfl⟩) | (go_at_call 34; (try rw [World.drewN_drewN]); refine (HT2.out _).mono ?_; rintro e w2 ⟨v2, rfl, o2, b2⟩))
        go_ret3
        exact ⟨_, rfl, OwnW.mono (Own.weak o2) (by show w.heap.size ≤ _; exact HB0.out.size), (below_drewN _ HB0.out).trans (b2.mono HB0.out.size)⟩
end Go.Proofs.Ytdclcdokdkeimaa.Pv
