/- Lists of strings of the call's own: append, the law's comparison, marks and look-through. -/
import Derived.Test.YtlcogbphodakfaaCBase
import Derived.Test.YtlcogbphodakfaaCchk
import Derived.Test.YtlcogbphodakfaaCbt
import Derived.Laws.OwnMore
import Derived.Deep.RegionLaw
import Derived.Deep.QuietTactic
import Derived.BigQuiet
namespace Go.Proofs.Ytlcogbphodakfaa.Sj
open Go.RowKit
/-- A list of strings of the call's own. -/
def OwnS (w : World) (B : Nat) (v : Value) (xs : List ByteArray) : Prop := w.ownsRow B 9 1 v xs.length (xs.map Value.string)
theorem infoS : (Try.prog.info? 9).map (fun i => (i.zero, i.size, i.bytes)) = some (some (.string ByteArray.empty), 1, 16) := by kernel_rfl
theorem OwnS.below {w w' : World} {B : Nat} {v : Value} {xs : List ByteArray} (h : OwnS w B v xs) {C : Nat} (hb : Below C w w') (hC : w.heap.size ≤ C) : OwnS w' B v xs := by
  refine ⟨h.1, ?_⟩
  rcases h.2 with hn | ⟨g, cap, cur, hv, hg, hh, r⟩
  · exact .inl hn
  · exact .inr ⟨g, cap, cur, hv, hg, by rw [hb.block g (Nat.lt_of_lt_of_le (Array.getElem?_eq_some_iff.1 hh).1 hC)]; exact hh, r⟩
theorem OwnS.block {w : World} {B : Nat} {v : Value} {xs : List ByteArray} (h : OwnS w B v xs) : ∀ k, v.ownBlock = some k → B ≤ k ∧ k < w.heap.size := World.ownsRow.lt h
theorem OwnS.nil (w : World) (B : Nat) : OwnS w B (.slice none 0 0) [] := World.ownsRow_nil _ _ _ _
theorem OwnS.mono {w : World} {B B' : Nat} {v : Value} {xs : List ByteArray} (h : OwnS w B v xs) (hB : B' ≤ B) : OwnS w B' v xs := by
  refine ⟨h.1, ?_⟩
  rcases h.2 with hn | ⟨g, cap, cur, hv, hg, hh, r⟩
  · exact .inl hn
  · exact .inr ⟨g, cap, cur, hv, by omega, hh, r⟩
/-- Its cells, wherever it lies. -/
def RdS (w : World) (a : Option Addr) (xs : List ByteArray) : Prop := ∀ i, i < xs.length → ∃ b off, a = some ⟨b, off, none⟩ ∧ w.cell? ⟨b, off + i, none⟩ = some (.string (xs.getD i ByteArray.empty)) ∧ w.frozen? ⟨b, off + i, none⟩ = false ∧ b < w.heap.size
theorem OwnS.row {w : World} {B : Nat} {v : Value} {xs : List ByteArray} (h : OwnS w B v xs) : ∃ a c, v = .slice a xs.length c ∧ RdS w a xs := by
  have h0 : w.ownsRow B 9 1 v xs.length (xs.map Value.string) := h
  rcases h0.2 with ⟨rfl, hn⟩ | ⟨g, cap, cur, rfl, hB, hg, hnc, hcm, hcs, htake⟩
  · have e : xs = [] := List.eq_nil_of_length_eq_zero (by simpa using hn)
    subst e
    exact ⟨none, 0, rfl, fun i hi => by simp at hi⟩
  · refine ⟨_, cap, rfl, fun i hi => ⟨g, 0, rfl, ?_, h0.frozenAt _, (Array.getElem?_eq_some_iff.1 hg).1⟩⟩
    rw [Nat.zero_add, h0.cellAt i (by omega), List.getElem?_map, List.getElem?_eq_getElem hi, List.getD_eq_getElem?_getD, List.getElem?_eq_getElem hi]
    rfl
theorem RdS.below {w w' : World} {a : Option Addr} {xs : List ByteArray} (h : ∀ i, i < xs.length → ∃ b off, a = some ⟨b, off, none⟩ ∧ w.cell? ⟨b, off + i, none⟩ = some (.string (xs.getD i ByteArray.empty)) ∧ b < w.heap.size) (hb : Below w.heap.size w w') : ∀ i, i < xs.length → ∃ b off, a = some ⟨b, off, none⟩ ∧ w'.cell? ⟨b, off + i, none⟩ = some (.string (xs.getD i ByteArray.empty)) ∧ b < w'.heap.size := fun i hi => by
  obtain ⟨b, off, e, c, hl⟩ := h i hi
  exact ⟨b, off, e, (hb.cell (p := ⟨b, off + i, none⟩) hl).trans c, Nat.lt_of_lt_of_le hl hb.size⟩
/-! ### The text of a mark -/
def tx : Nat → Nat → List UInt8
  | 0, _ => []
  | f + 1, k => if k = 0 then [] else tx f (k / 10) ++ [UInt8.ofNat (48 + k % 10)]
theorem tx_zero : ∀ f, tx f 0 = []
  | 0 => rfl
  | f + 1 => if_pos rfl
theorem tx_step (f k : Nat) (h : k ≠ 0) : tx (f + 1) k = tx f (k / 10) ++ [UInt8.ofNat (48 + k % 10)] := if_neg h
def mt (k : Nat) : ByteArray := ⟨(109 :: tx k k).toArray⟩
theorem one_byte (w : World) (x : Int) (hx : 0 ≤ x ∧ x ≤ 255) :
    (convert 34 9 (.slice (some ⟨w.heap.size, 0, none⟩) 1 1)).run Try.prog (w.alloc (.cells #[.int .u8 x] 5)) =
      .ok (.string ⟨#[UInt8.ofNat x.toNat]⟩) (w.alloc (.cells #[.int .u8 x] 5)) := by
  obtain ⟨a, rfl⟩ := Int.eq_ofNat_of_zero_le hx.1
  refine run_convert_bytes_back (P := Try.prog) (w.alloc (.cells #[.int .u8 (a : Int)] 5)) 34 9 5 ⟨w.heap.size, 0, none⟩ 1 [UInt8.ofNat a] Try.underlying34 Try.underlying5 Try.underlying9 ?_
  intro j hj
  match j, hj with
  | 0, _ =>
    rw [show (⟨w.heap.size, 0, none⟩ : Addr).add 0 = ⟨w.heap.size, 0, none⟩ from rfl, World.cell?_alloc_mark]
    simp; omega
def Str (t : ByteArray) (w : World) (e : Ending) (w' : World) : Prop := e = .returned (.string t) ∧ Below w.heap.size w w'
theorem app_data (a : UInt8) (o : ByteArray) : ((⟨#[a]⟩ : ByteArray) ++ o).data.toList = a :: o.data.toList := by simp
set_option maxHeartbeats 1000000 in
theorem mark_text (k : Nat) (hk : 1 ≤ k) (hk2 : k ≤ 1048577) (w : World) : Calls Try.prog 23 #[.int .i64 (k : Int)] w (Str (mt k) w) := by
  have hk0 : ¬ (k : Int) ≤ 0 := by omega
  have HM := Lib.hid (show ∀ o : ByteArray, o.data.toList = tx k k → (⟨#[109]⟩ : ByteArray) ++ o = mt k from fun o h => by
    apply ByteArray.ext
    apply Array.ext'
    rw [app_data, h]
    rfl)
  go_enter Try.func23, Try.ntmps23
  go_wp2
  go_loopw [0, 3] (fun vk vo wr => ∃ (j f : Nat) (o : ByteArray), j ≤ f ∧ j + o.size ≤ 1048577 ∧ vk = .int .i64 (j : Nat) ∧ vo = .string o ∧ Hid (tx f j ++ o.data.toList = tx k k) ∧ Hid (Below w.heap.size w wr)) (fun vk _ _ => (intOf vk).toNat)
  case atStart => exact ⟨k, k, ByteArray.empty, Nat.le_refl _, (by simpa using hk2), rfl, rfl, Lib.hid (by simp), Below.refl _ _⟩
  case round =>
    obtain ⟨j, f, o, hjf, hj2, rfl, rfl, hx, hb⟩ := hrel
    by_cases hj0 : j = 0
    · have e := HM.out o (by have := hx.out; rw [hj0, tx_zero, List.nil_append] at this; exact this)
      have HE := Lib.hid e
      subst hj0
      clear e hx
      go_wp2
      go_ret
      exact ⟨by rw [← HE.out]; rfl, hb.out⟩
    · have hjp : (0 : Int) < (j : Int) := by omega
      obtain ⟨f', rfl⟩ : ∃ f', f = f' + 1 := ⟨f - 1, by omega⟩
      have hx2 : Hid (tx f' (j / 10) ++ (UInt8.ofNat (48 + j % 10) :: o.data.toList) = tx k k) := by
        show _ = _
        have := hx.out
        rw [tx_step f' j hj0, List.append_assoc] at this
        exact this
      have kc := one_byte wr (48 + (j : Int) % 10) (by omega)
      have HO := Lib.hid (show (48 + (j : Int) % 10).toNat = 48 + j % 10 by omega)
      have HS := Lib.hid (show ((⟨#[UInt8.ofNat (48 + (j : Int) % 10).toNat]⟩ : ByteArray) ++ o).data.toList = UInt8.ofNat (48 + j % 10) :: o.data.toList by rw [app_data, HO.out])
      generalize hC : UInt8.ofNat (48 + (j : Int) % 10).toNat = C at *
      clear hC
      go_wp2
      go_roundw
      case rel => exact ⟨j / 10, f', (⟨#[C]⟩ : ByteArray) ++ o, by omega, by rw [ByteArray.size_append, show (⟨#[C]⟩ : ByteArray).size = 1 from rfl]; omega, by go_num, rfl, Lib.hid (by rw [HS.out]; exact hx2.out), Lib.hid (hb.out.trans (Below.alloc (Below.refl _ _) (Nat.le_refl _) _ |>.mono hb.out.size))⟩
      case measure => simp [intOf]; omega
/-- Marks of strings. -/
def mks (k n : Nat) : List ByteArray := (List.range n).map fun i => mt (k + i)
theorem mks_len (k n : Nat) : (mks k n).length = n := by simp [mks]
theorem mks_get (k n i : Nat) (h : i < n) : (mks k n).getD i ByteArray.empty = mt (k + i) := by
  rw [List.getD_eq_getElem?_getD, List.getElem?_eq_getElem (by rw [mks_len]; exact h)]
  simp [mks]
theorem mks_snoc (k n : Nat) : mks k (n + 1) = mks k n ++ [mt (k + n)] := by simp [mks, List.range_succ]
set_option maxHeartbeats 400000 in
theorem eq_s {w : World} {B1 B2 : Nat} {v1 v2 : Value} {xs : List ByteArray} (o1 : OwnS w B1 v1 xs) (o2 : OwnS w B2 v2 xs) (hn : xs.length ≤ 1048576) :
    Calls Try.prog 9 #[v1, v2] w (Drew w) := by
  obtain ⟨a1, c1, rfl, r1⟩ := o1.row
  obtain ⟨a2, c2, rfl, r2⟩ := o2.row
  clear o1 o2
  have H1 := Lib.hid r1
  have H2 := Lib.hid r2
  clear r1 r2
  generalize hN : xs.length = N at *
  have HN := Lib.hid hN
  clear hN
  go_enter Try.func9, Try.ntmps9
  go_wp2
  go_loopw [5] (fun i wr => ∃ k q : Nat, k ≤ N ∧ i = .int .i64 k ∧ wr = w.drewN q) (fun i _ => N - (intOf i).toNat)
  case atStart => exact ⟨0, 0, Nat.zero_le _, rfl, rfl⟩
  case round =>
    obtain ⟨k, q, hk, rfl, rfl⟩ := hrel
    by_cases hlt : k < N
    · obtain ⟨b1, f1, rfl, g1, _, _⟩ := H1.out k (by rw [HN.out]; exact hlt)
      obtain ⟨b2, f2, rfl, g2, _, _⟩ := H2.out k (by rw [HN.out]; exact hlt)
      generalize xs.getD k ByteArray.empty = u at *
      go_wp2
      go_quiet (fail)
      go_wp2
      go_roundw
      case rel => exact ⟨k + 1, _, by omega, by go_num, rfl⟩
      case measure => simp [intOf]; omega
    · go_wp2
      go_ret
      exact ⟨q, rfl, rfl⟩
def MarkedS (B : Nat) (v : Value) (k N : Nat) (w : World) (e : Ending) (w' : World) : Prop := e = .returned (.int .i64 ((k : Int) + N)) ∧ OwnS w' B v (mks k N) ∧ w.grownBy w' v.ownBlock
def HeldS (k N : Nat) (w : World) (e : Ending) (w' : World) : Prop := e = .returned (.int .i64 ((k : Int) + N)) ∧ Below w.heap.size w w'
set_option maxHeartbeats 400000 in
theorem held_s {w : World} {B : Nat} {v : Value} (k N : Nat) (o : OwnS w B v (mks k N)) (hk : 1 ≤ k) (hn : N + k ≤ 1048577) :
    Calls Try.prog 13 #[v, .int .i64 k] w (HeldS k N w) := by
  obtain ⟨a, c, rfl, r⟩ := o.row
  rw [mks_len]
  have H1 := Lib.hid r
  clear r o
  have HM := Lib.hid mark_text
  go_enter Try.func13, Try.ntmps13
  go_wp2
  go_loopw [1, 5] (fun m i wr => ∃ j : Nat, j ≤ N ∧ i = .int .i64 j ∧ m = .int .i64 ((k : Int) + j) ∧ Hid (Below w.heap.size w wr)) (fun _ i _ => N - (intOf i).toNat)
  case atStart => exact ⟨0, Nat.zero_le _, rfl, by simp, Lib.hid (Below.refl _ _)⟩
  case round =>
    obtain ⟨j, hj, rfl, rfl, hb⟩ := hrel
    by_cases hlt : j < N
    · obtain ⟨b, f, rfl, g, _, hl⟩ := H1.out j (by rw [mks_len]; exact hlt)
      rw [mks_get k N j hlt] at g
      have g1 := (hb.out.cell (p := ⟨b, f + j, none⟩) hl).trans g
      clear g
      have gd : wr.drew.cell? ⟨b, f + j, none⟩ = some (.string (mt (k + j))) := g1
      have HK := Lib.hid (HM.out (k + j) (by omega) (by omega) wr.drew)
      rw [show ((k + j : Nat) : Int) = (k : Int) + j by simp] at HK
      have hbd := Lib.hid (hb.out.drew)
      clear hb
      clear hl
      generalize mt (k + j) = M at *
      go_wp2
      go_region_law (first | (go_simp; go_at_call 23; (with_reducible refine HK.out.mono ?_); rintro e w2 ⟨rfl, b2⟩; have g2 := (b2.cell (p := ⟨b, f + j, none⟩) (World.block_lt_of_cell? wr.drew _ gd)).trans gd))
      all_goals
        go_wp2
        go_roundw
        case rel => exact ⟨j + 1, by omega, by go_num, by go_num, Lib.hid (bt hbd.out b2)⟩
        case measure => simp [intOf]; omega
    · go_wp2
      go_ret
      have e : j = N := by omega
      exact ⟨ret_i64 (by rw [e]), hb.out⟩
/-- After j rounds: the first j strings are marks, the others as they were. -/
def mixS (k j : Nat) (xs : List ByteArray) : List ByteArray := mks k j ++ xs.drop j
theorem mixS_len (k j : Nat) (xs : List ByteArray) (h : j ≤ xs.length) : (mixS k j xs).length = xs.length := by simp [mixS, mks_len]; omega
theorem mixS_step (k j : Nat) (xs : List ByteArray) (h : j < xs.length) : ((mixS k j xs).map Value.string).set j (.string (mt (k + j))) = (mixS k (j + 1) xs).map Value.string := by
  rw [← List.map_set]
  congr 1
  unfold mixS
  rw [mks_snoc, List.set_append_right _ _ (by rw [mks_len]; exact Nat.le_refl _), mks_len, Nat.sub_self, List.drop_eq_getElem_cons h, List.set_cons_zero, List.append_assoc]
  rfl
theorem mixS_end (k : Nat) (xs : List ByteArray) : mixS k xs.length xs = mks k xs.length := by simp [mixS]
theorem grownBy_tr {a b c : World} {r : Option Nat} (h : a.grownBy b r) (k : b.grownBy c r) : a.grownBy c r :=
  ⟨k.os.trans h.os, k.tape.trans h.tape, k.output.trans h.output, Nat.le_trans h.size k.size, fun i hi hr => (k.block i (Nat.lt_of_lt_of_le hi h.size) hr).trans (h.block i hi hr)⟩
def MkRel (B g c k N : Nat) (xs : List ByteArray) (w : World) (j : Nat) (wr : World) : Prop := wr.ownsRow B 9 1 (.slice (some ⟨g, 0, none⟩) N c) N ((mixS k j xs).map Value.string) ∧ w.grownBy wr (some g)
theorem MkRel.step {B g c k N : Nat} {xs : List ByteArray} {w : World} {j : Nat} {wr w2 : World} (h : MkRel B g c k N xs w j wr) (hx : xs.length = N) (hj : j < N) (hb : Below wr.heap.size wr w2) :
    (∃ old, w2.cell? ⟨g, j, none⟩ = some old) ∧ w2.frozen? ⟨g, j, none⟩ = false ∧ MkRel B g c k N xs w (j + 1) (w2.setCell ⟨g, j, none⟩ (.string (mt (k + j)))) := by
  subst hx
  have o2 : w2.ownsRow B 9 1 (.slice (some ⟨g, 0, none⟩) xs.length c) xs.length ((mixS k j xs).map Value.string) := by
    refine ⟨h.1.1, ?_⟩
    rcases h.1.2 with hn | ⟨g', cap, cur, hv, hg, hh, r⟩
    · exact .inl hn
    · exact .inr ⟨g', cap, cur, hv, hg, by rw [hb.block g' (Array.getElem?_eq_some_iff.1 hh).1]; exact hh, r⟩
  have hst := World.ownsRow.stored o2 j (.string (mt (k + j)))
  rw [mixS_step k j xs hj] at hst
  refine ⟨?_, o2.frozenAt j, hst.1, grownBy_tr h.2 (grownBy_tr ⟨hb.os, hb.tape, hb.output, hb.size, fun i hi _ => hb.block i hi⟩ hst.2)⟩
  rw [o2.cellAt j (by omega), List.getElem?_eq_getElem (by simp [mixS_len k j xs (by omega)]; exact hj)]
  exact ⟨_, rfl⟩
theorem mark_zeroS (a : Option Addr) (c : Nat) (k : Int) (w : World) : Calls Try.prog 12 #[.slice a 0 c, .int .i64 k] w (Count k w) := by
  go_enter Try.func12, Try.ntmps12
  go_wp2
  refine wp_loop_rounds 1 ?_
  rw [rounds_succ]
  go_wp2
  go_ret
  exact ⟨rfl, rfl⟩
set_option maxHeartbeats 400000 in
theorem mark_cellsS (B g c k : Nat) (xs : List ByteArray) (w : World) (hk : 1 ≤ k) (hn : xs.length + k ≤ 1048577) (h : OwnS w B (.slice (some ⟨g, 0, none⟩) xs.length c) xs) :
    Calls Try.prog 12 #[.slice (some ⟨g, 0, none⟩) xs.length c, .int .i64 k] w (MarkedS B (.slice (some ⟨g, 0, none⟩) xs.length c) k xs.length w) := by
  have HE := Lib.hid (mixS_end k xs)
  have H0 : MkRel B g c k xs.length xs w 0 w := ⟨by simpa [mixS, mks] using (show w.ownsRow B 9 1 _ _ _ from h), ⟨rfl, rfl, rfl, Nat.le_refl _, fun _ _ _ => rfl⟩⟩
  clear h
  have HM := Lib.hid mark_text
  generalize hN : xs.length = N at *
  have HN := Lib.hid hN
  clear hN
  go_enter Try.func12, Try.ntmps12
  go_wp2
  go_loopw [1, 5] (fun m i wr => ∃ j : Nat, j ≤ N ∧ i = .int .i64 j ∧ m = .int .i64 ((k : Int) + j) ∧ MkRel B g c k N xs w j wr) (fun _ i _ => N - (intOf i).toNat)
  case atStart => exact ⟨0, Nat.zero_le _, rfl, by simp, H0⟩
  case round =>
    obtain ⟨j, hj, rfl, rfl, ho⟩ := hrel
    by_cases hlt : j < N
    · have HK := Lib.hid (HM.out (k + j) (by omega) (by omega) wr)
      rw [show ((k + j : Nat) : Int) = (k : Int) + j by simp] at HK
      go_wp2_with fail
      refine HK.out.mono ?_; rintro e w2 ⟨rfl, b2⟩
      obtain ⟨⟨old, h1⟩, h2, h3⟩ := ho.step HN.out hlt b2
      go_wp2
      go_roundw
      case rel => exact ⟨j + 1, by omega, by go_num, by go_num, h3⟩
      case measure => simp [intOf]; omega
    · go_wp2
      go_ret
      have e : j = N := by omega
      subst e
      refine ⟨rfl, ?_, ho.2⟩
      have h5 := ho.1
      rw [HE.out] at h5
      show World.ownsRow _ _ _ _ _ (mks k j).length _
      rw [mks_len]
      exact h5
theorem mark_s {w : World} {B : Nat} {v : Value} {xs : List ByteArray} (k : Nat) (h : OwnS w B v xs) (hk : 1 ≤ k) (hn : xs.length + k ≤ 1048577) :
    Calls Try.prog 12 #[v, .int .i64 k] w (MarkedS B v k xs.length w) := by
  have h0 : w.ownsRow B 9 1 v xs.length (xs.map Value.string) := h
  rcases h0.2 with ⟨rfl, hn⟩ | ⟨g, cap, cur, rfl, hB, hg, hnc, hcm, hcs, htake⟩
  · have e : xs = [] := List.eq_nil_of_length_eq_zero (by simpa using hn)
    subst e
    exact (mark_zeroS none 0 k w).mono fun e w' ⟨he, hw⟩ => ⟨by rw [he]; simp, by rw [← hw]; exact h, by rw [← hw]; exact ⟨rfl, rfl, rfl, Nat.le_refl _, fun _ _ _ => rfl⟩⟩
  · exact mark_cellsS B g cap k xs w hk (by omega) h
end Go.Proofs.Ytlcogbphodakfaa.Sj
