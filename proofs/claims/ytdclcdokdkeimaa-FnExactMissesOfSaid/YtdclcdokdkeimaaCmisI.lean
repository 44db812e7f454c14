/- The program's MissesOf. -/
import Derived.Test.YtdclcdokdkeimaaCrunM
namespace Go.Proofs.Ytdclcdokdkeimaa.Pv
open Go.RowKit
/-- How many of the first j uses missed. -/
def missN (hs : List (List Int)) (ms xs : List Int) : Nat → Nat
  | 0 => 0
  | j + 1 => missN hs ms xs j + if hitK hs ms xs j then 0 else 1
theorem missN_le (hs : List (List Int)) (ms xs : List Int) (j : Nat) : missN hs ms xs j ≤ j := by
  induction j with
  | zero => simp [missN]
  | succ j ih => rw [missN]; split <;> omega
def valM (hs : List (List Int)) (ms xs : List Int) (j : Nat) (y : Value) (_w : World) : Prop := y = .int .i64 ((missN hs ms xs j : Nat) : Int)
theorem clo_M (hs : List (List Int)) (ms xs : List Int) (Z bq j : Nat) (y : Value) (w : World) (hj : j < 60) (hq : Blk w bq [y] 2) (hv : valM hs ms xs j y w) (hZ : Z ≤ bq) :
    Calls Try.prog 48 #[.int .i64 (oldK hs ms xs j), .bool (hitK hs ms xs j), .pointer (some ⟨bq, 0, none⟩)] w (Told (valM hs ms xs) 2 Z bq j y w) := by
  have hv' : y = .int .i64 ((missN hs ms xs j : Nat) : Int) := hv
  subst hv'
  have hl := missN_le hs ms xs j
  have HS := Lib.hid (show missN hs ms xs (j + 1) = missN hs ms xs j + if hitK hs ms xs j then 0 else 1 from rfl)
  have HQ := Lib.hid hq
  have hc : w.cell? ⟨bq, 0, none⟩ = some (.int .i64 ((missN hs ms xs j : Nat) : Int)) := hq.cell 0
  have hf := hq.froz 0
  have HVD := Lib.hid (fun (w' : World) => show valM hs ms xs (j + 1) (.int .i64 ((missN hs ms xs (j + 1) : Nat) : Int)) w' from rfl)
  unfold Told
  generalize valM hs ms xs = Val at *
  clear hq hv
  generalize missN hs ms xs (j + 1) = K2 at *
  generalize missN hs ms xs j = K at *
  generalize oldK hs ms xs j = o at *
  cases hh : hitK hs ms xs j
  · have e : K2 = K + 1 := by rw [HS.out, hh]; rfl
    subst e
    have HB : Hid (Blk (w.setCell ⟨bq, 0, none⟩ (.int .i64 ((K : Int) + 1))) bq [.int .i64 (((K + 1 : Nat)) : Int)] 2) := by
      show Blk _ _ _ _
      have h := Go.heap_setCell_same w bq 0 _ _ (.int .i64 ((K : Int) + 1)) HQ.out
      unfold Blk
      rw [h]; rfl
    clear HS hh
    go_enter Try.func48, Try.ntmps48
    go_wp2
    go_end0
    refine ⟨rfl, _, HB.out, HVD.out _, (fun e => by cases e), (Below.refl _ _).setCell (p := ⟨bq, 0, none⟩) hZ _, (fun k hk hne _ => Go.heap_setCell_other w ⟨bq, 0, none⟩ k _ hne), (fun k hk => by cases hk)⟩
  · have e : K2 = K := by rw [HS.out, hh]; rfl
    subst e
    clear HS hh
    go_enter Try.func48, Try.ntmps48
    go_wp2
    go_end0
    exact ⟨rfl, _, HQ.out, HVD.out _, (fun e => by cases e), Below.refl _ _, (fun k hk _ _ => rfl), (fun k hk => by cases hk)⟩
/-- What a function leaves that returns a number and whether it succeeded. -/
def IbP (n : Int) (ok : Bool) (w : World) (e : Ending) (w' : World) : Prop := e = .returned (.tuple #[.int .i64 n, .bool ok]) ∧ Below w.heap.size w w'
theorem RdP.below {w w' : World} {v : Value} {hs : List (List Int)} {ms : List Int} (h : RdP w v hs ms) (hb : Below w.heap.size w w') : RdP w' v hs ms := by
  obtain ⟨a, c, a', c', e, h1, h2, h3, h4, h5⟩ := h
  exact ⟨a, c, a', c', e, h1.below hb, h2, h3.below hb, h4, h5⟩
set_option maxHeartbeats 4000000 in
set_option maxRecDepth 100000 in
/-- A run that fails. -/
theorem run_no {v : Value} {hs : List (List Int)} {ms xs : List Int} (w : World) (fv : Value) (sl : Option Addr) (sc : Nat) (h : RdP w v hs ms) (hx : Rd w (.slice sl xs.length sc) xs) (hxl : xs.length ≤ 1048576) (hno : ¬ (isP hs ms = true ∧ Tr.okU xs = true)) :
    Calls Try.prog 45 #[v, .slice sl xs.length sc, fv] w (fun e w' => e = .returned (.tuple #[.slice none 0 0, .bool false]) ∧ Below w.heap.size w w') := by
  obtain ⟨a, c, a', c', rfl, h1, h2, h3, h4, h5⟩ := h
  obtain ⟨a3, c3, e3, hxc, hxm, hxr⟩ := hx
  injection e3 with e4 e5 e6
  subst e4 e6
  have b0 := (Below.refl w.heap.size w).alloc (Nat.le_refl _) (.cells #[.slice a hs.length c, .slice a' ms.length c'] 29)
  have HR := Lib.hid (rules_any (w := w.alloc (.cells #[.slice a hs.length c, .slice a' ms.length c'] 29)) ⟨a, c, a', c', rfl, h1.below b0, h2, h3.below b0, h4, h5⟩)
  unfold RulR at HR
  have HL := Lib.hid (rulC_len (isP hs ms) ms.length hs ms)
  have H1 := Lib.hid (one_rulC (isP hs ms) ms.length hs ms)
  have HU := Lib.hid (fun (w' : World) (hb : Below w.heap.size w w') => Tr.uses_i sl sc xs w' hxl (hxr.below hb))
  have HNO := Lib.hid hno
  clear h1 h3 h5 hxc hxm hxr hno
  generalize rulC (isP hs ms) ms.length hs ms = rc at *
  generalize isP hs ms = r at *
  generalize Tr.okU xs = ru at *
  generalize hs.length = NH at *
  generalize ms.length = M at *
  generalize xs.length = N at *
  go_enter Try.func45, Try.ntmps45
  go_wp2_with fail
  refine HR.out.mono ?_; rintro e w1 ⟨rfl, b1⟩
  have B1 := Lib.hid (bt b0 b1)
  clear b0 b1
  go_wp2_with (with_reducible refine wpList_storeB rfl 59 (.tmp 8) (.tmp 18) rfl w1.heap.size 0 rc ?_ ?_ z43 59 ?_ ?_ ?_ ?_ ?_)
  · rfl
  · rfl
  · exact Blk.newAt _ _ _ _ rfl
  · rw [HL.out]; decide
  · rw [HL.out]; exact isz43
  · exact H1.out
  intro w2 hB2 hK
  have HBW := Lib.hid ((B1.out.alloc (B1.out.size) _).trans (hK.out.below B1.out.size))
  clear hB2 hK HR B1
  cases r
  · go_wp2
    go_ret2
    exact ⟨rfl, HBW.out⟩
  · have HUW := Lib.hid (HU.out w2 HBW.out)
    cases ru
    · go_wp2_with (go_at_call 67; (with_reducible refine HUW.out.mono ?_); rintro e w3 ⟨rfl, rfl⟩)
      go_ret2
      exact ⟨rfl, HBW.out⟩
    · exact absurd ⟨rfl, rfl⟩ HNO.out
def misOk (hs : List (List Int)) (ms xs : List Int) : Bool := isP hs ms && Tr.okU xs
def misV (hs : List (List Int)) (ms xs : List Int) : Int := if misOk hs ms xs then ((missN hs ms xs xs.length : Nat) : Int) else 0
set_option maxHeartbeats 2000000 in
theorem mis_i {v : Value} {hs : List (List Int)} {ms xs : List Int} {w : World} {a2 : Option Addr} {c2 : Nat} (h : RdP w v hs ms) (hx : Rd w (.slice a2 xs.length c2) xs) (hxl : xs.length ≤ 1048576) :
    Calls Try.prog 22 #[v, .slice a2 xs.length c2] w (IbP (misV hs ms xs) (misOk hs ms xs) w) := by
  have h' := h
  obtain ⟨a, c, a', c', rfl, h1, h2, h3, h4, h5⟩ := h'
  have b1 := ((Below.refl w.heap.size w).alloc (Nat.le_refl _) (.cells #[.slice a hs.length c, .slice a' ms.length c'] 29)).alloc (by simp) (.cells #[.int .i64 0] 2)
  have hz : (w.alloc (.cells #[.slice a hs.length c, .slice a' ms.length c'] 29)).heap.size = w.heap.size + 1 := Array.size_push _
  have bk : Blk ((w.alloc (.cells #[.slice a hs.length c, .slice a' ms.length c'] 29)).alloc (.cells #[.int .i64 0] 2)) (w.heap.size + 1) [.int .i64 0] 2 := Blk.newAt _ _ [.int .i64 0] _ hz.symm
  cases hok : misOk hs ms xs
  · have hno : ¬ (isP hs ms = true ∧ Tr.okU xs = true) := fun hh => by unfold misOk at hok; rw [hh.1, hh.2] at hok; cases hok
    have HRN := Lib.hid (run_no ((w.alloc (.cells #[.slice a hs.length c, .slice a' ms.length c'] 29)).alloc (.cells #[.int .i64 0] 2)) (.func (.func 48) #[] #[.pointer (some ⟨w.heap.size + 1, 0, none⟩)]) a2 c2 (h.below b1) (hx.below b1) hxl hno)
    have e : misV hs ms xs = 0 := by unfold misV; rw [hok]; rfl
    rw [e]
    have HB1 := Lib.hid b1
    have HBK := Lib.hid bk
    clear h h1 h3 h5 hx hno hok e b1 bk hz
    generalize hs.length = NH at *
    generalize ms.length = M at *
    generalize xs.length = N at *
    go_enter Try.func22, Try.ntmps22
    go_wp2_with fail
    refine HRN.out.mono ?_; rintro e w2 ⟨rfl, b2⟩
    have c0 : w2.cell? ⟨w.heap.size + 1, 0, none⟩ = some (.int .i64 0) := (HBK.out.below b2 HBK.out.lt).cell 0
    have HB2 := Lib.hid (bt HB1.out b2)
    clear b2
    go_wp2
    go_ret2
    exact ⟨rfl, HB2.out⟩
  · have hh : isP hs ms = true ∧ Tr.okU xs = true := by unfold misOk at hok; rw [Bool.and_eq_true] at hok; exact hok
    have hn := Tr.okU_len hh.2
    have HRY := Lib.hid (run_M (valM hs ms xs) w ((w.alloc (.cells #[.slice a hs.length c, .slice a' ms.length c'] 29)).alloc (.cells #[.int .i64 0] 2)) (w.heap.size + 1) (.int .i64 0) a2 c2 h hx b1 hh.1 hh.2
      (fun j y w w' hv _ => hv) (fun j y w hv k hk => by have hv' : y = _ := hv; subst hv'; cases hk) (Nat.le_succ _) bk rfl (fun e => by cases e)
      (fun j w' y hj hq hv _ _ => clo_M hs ms xs w.heap.size (w.heap.size + 1) j y w' (by omega) hq hv (Nat.le_succ _)))
    have e : misV hs ms xs = ((missN hs ms xs xs.length : Nat) : Int) := by unfold misV; rw [hok]; rfl
    rw [e]
    have HVE := Lib.hid (fun (y : Value) (w' : World) (hv : valM hs ms xs xs.length y w') => show y = .int .i64 ((missN hs ms xs xs.length : Nat) : Int) from hv)
    unfold RanP at HRY
    clear h h1 h3 h5 hx hh hok e b1 bk hz
    generalize valM hs ms xs = Val at *
    generalize missN hs ms xs xs.length = R at *
    generalize rowL ms.length (kK hs ms xs xs.length) = RW at *
    generalize hs.length = NH at *
    generalize ms.length = M at *
    generalize xs.length = N at *
    go_enter Try.func22, Try.ntmps22
    go_wp2_with fail
    refine HRY.out.mono ?_; rintro e w2 ⟨v2, y2, rfl, _, q2, hv2, _, _, b2⟩
    have ey := HVE.out y2 w2 hv2
    subst ey
    have c0 : w2.cell? ⟨w.heap.size + 1, 0, none⟩ = some (.int .i64 ((R : Nat) : Int)) := q2.cell 0
    have HB2 := Lib.hid (((((Below.refl w.heap.size w).alloc (Nat.le_refl _) (.cells #[.slice a NH c, .slice a' M c'] 29)).alloc (by simp) (.cells #[.int .i64 0] 2))).trans b2)
    clear b2 hv2 q2
    go_wp2
    go_ret2
    exact ⟨rfl, HB2.out⟩
end Go.Proofs.Ytdclcdokdkeimaa.Pv
