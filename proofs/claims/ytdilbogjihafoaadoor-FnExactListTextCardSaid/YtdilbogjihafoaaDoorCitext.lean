/- Contract of the program's text of a list, and of both ListText. -/
import Derived.Test.YtdilbogjihafoaaDoorTab
import Derived.Test.YtdilbogjihafoaaDoorCtext
import Derived.Test.YtdilbogjihafoaaDoorClst
import Derived.Test.YtdilbogjihafoaaDoorWFnExactDecimal
namespace Go.Proofs.YtdilbogjihafoaaDoor.Tx
open Go.RowKit
/-- A list of strings of the call's own. -/
def OwnS (w : World) (B : Nat) (v : Value) (xs : List ByteArray) : Prop := w.ownsRow B 9 1 v xs.length (xs.map Value.string)
theorem infoS : (Tryd.prog.info? 9).map (fun i => (i.zero, i.size, i.bytes)) = some (some (.string ByteArray.empty), 1, 16) := by kernel_rfl
theorem OwnS.below {w w' : World} {B : Nat} {v : Value} {xs : List ByteArray} (h : OwnS w B v xs) {C : Nat} (hb : Below C w w') (hC : w.heap.size ≤ C) : OwnS w' B v xs := by
  refine ⟨h.1, ?_⟩
  rcases h.2 with hn | ⟨g, cap, cur, hv, hg, hh, r⟩
  · exact .inl hn
  · exact .inr ⟨g, cap, cur, hv, hg, by rw [hb.block g (Nat.lt_of_lt_of_le (Array.getElem?_eq_some_iff.1 hh).1 hC)]; exact hh, r⟩
theorem wpList_appS {ops : Array Oper} {rest : List Oper} {o : Oper} {a : Act} {Q : Exit → Act → World → Prop} (wr : World) (hgd : o.guard = none) (s x : Operand)
    (ho : o.op = .call { callee := .builtin .append, args := #[s, x], argTypes := #[61, 61] })
    (B : Nat) (v : Value) (xs : List ByteArray) (u : ByteArray) (hs : a.eval s = v) (hx : a.eval x = .slice (some ⟨wr.heap.size, 0, none⟩) 1 1) (hown : OwnS wr B v xs)
    (hlen : xs.length + 1 ≤ 1000000000) (hB : B ≤ wr.heap.size)
    (h : ∀ v' w', OwnS w' B v' (xs ++ [u]) → Below B wr w' → wpList Tryd.prog ops Q rest (a.put o.dst v') w') :
    wpList Tryd.prog ops Q (o :: rest) a (wr.alloc (.cells #[.string u] 9)) := by
  obtain ⟨i0, hi, hz0, hz1, hz2⟩ := info_parts infoS
  refine wpList_append_own _ hgd s x 61 ho B 9 i0 (.string ByteArray.empty) 1 16 Tryd.underlying61 hi hz0 hz1 hz2 rfl (by decide) v xs.length (xs.map Value.string) hs (World.ownsRow.alloc hown _)
    ⟨wr.heap.size, 0, none⟩ 1 1 [.string u] hx rfl ?_ ?_ ?_ ?_ ?_ ?_
  · intro j u' hj
    match j, hj with
    | 0, hj => simp at hj; subst hj; simp [Addr.add]
  · intro u' hu; simp at hu; subst hu; rfl
  · unfold maxLen; omega
  · omega
  · simp; omega
  · intro v' w' hown' hgrow _
    refine h v' w' ?_ ?_
    · show World.ownsRow _ _ _ _ _ (xs ++ [u]).length _
      rw [List.length_append, List.map_append]
      exact hown'
    · exact ((Below.refl B wr).alloc hB _).grown hgrow (by simp; omega) (fun k hk => (World.ownsRow.lt hown k hk).1)
/-- The words after j numbers. -/
def wd (xs : List Int) (j : Nat) : List ByteArray := (xs.take j).map fun n => ⟨(Lib.itoa n).toArray⟩
theorem wd_length (xs : List Int) (j : Nat) (h : j ≤ xs.length) : (wd xs j).length = j := by simp [wd]; omega
theorem wd_step (xs : List Int) (j : Nat) (h : j < xs.length) : wd xs (j + 1) = wd xs j ++ [⟨(Lib.itoa (xs.getD j 0)).toArray⟩] := by
  unfold wd
  rw [List.take_succ_eq_append_getElem h, List.map_append, List.getD_eq_getElem?_getD, List.getElem?_eq_getElem h]
  rfl
theorem wd_lists (xs : List Int) : (wd xs xs.length).map (·.data.toList) = xs.map Lib.itoa := by
  unfold wd
  rw [List.take_length, List.map_map]
  exact List.map_congr_left fun _ _ => rfl
/-- strings.Join over the words of the call's own. -/
theorem join_own {w : World} {B : Nat} {v : Value} (xs : List Int) (h : OwnS w B v (wd xs xs.length)) (hr : Rng xs) (h0 : 0 < xs.length) :
    Calls Tryd.prog 44 #[v, .string ⟨#[32]⟩] w (Dc.Str ⟨(text xs).toArray⟩ w) := by
  have hne : xs ≠ [] := by intro e; subst e; simp at h0
  have hl := wd_length xs xs.length (Nat.le_refl _)
  have h1 : w.ownsRow B 9 1 v (wd xs xs.length).length ((wd xs xs.length).map Value.string) := h
  rcases h1.2 with ⟨_, hn⟩ | ⟨g, cap, cur, rfl, _, hg, hnc, _, _, _⟩
  · omega
  · have ht : text xs = Lib.join ((wd xs xs.length).map (·.data.toList)) (⟨#[32]⟩ : ByteArray).data.toList := by rw [wd_lists, text, if_neg hne]
    have hlen : (text xs).length ≤ 1680 := by
      have := sp_len xs hr.2 xs.length (Nat.le_refl _)
      have := hr.1
      rw [text_sp xs hne]; omega
    have hj := Tryd.strings_Join g 0 cap (wd xs xs.length) ⟨#[32]⟩ w (fun j x hx => by
        have hjl : j < (wd xs xs.length).length := (List.getElem?_eq_some_iff.1 hx).1
        rw [Nat.zero_add, h1.cellAt j (by omega), List.getElem?_map, hx]; rfl)
      (Array.getElem?_eq_some_iff.1 hg).1 (by have := hr.1; omega) hnc (by rw [← ht]; omega)
    rw [← ht] at hj
    exact hj
theorem zero_i (a : Option Addr) (c : Nat) (w : World) : Calls Tryd.prog 18 #[.slice a 0 c] w fun e w' => e = .returned (.tuple #[.string ⟨#[110, 111, 110, 101]⟩, .bool true]) ∧ w = w' := by
  go_enter Tryd.func18, Tryd.ntmps18
  go_wp2_with (go_at_call 39; refine (Ls.impl_zero _ _ _).mono ?_; rintro e w' ⟨rfl, rfl⟩)
  go_ret2
  exact ⟨rfl, rfl⟩
def Str2 (t : List UInt8) (ok : Bool) (w : World) (e : Ending) (w' : World) : Prop := e = .returned (.tuple #[.string ⟨t.toArray⟩, .bool ok]) ∧ Below w.heap.size w w'
set_option maxRecDepth 100000 in
set_option maxHeartbeats 2000000 in
theorem cells_i (g c : Nat) (xs : List Int) (w : World) (hok : Ls.okL xs = true) (hr : Rng xs) (h0 : 0 < xs.length) (hg : g < w.heap.size) (hc : ∀ i, i < xs.length → w.cell? ⟨g, i, none⟩ = some (.int .i64 (xs.getD i 0)))
    (htab : Lib.TabIs Tryd.prog w "internal/strconv.uint64pow10" .u64 Lib.pow10Tab) :
    Calls Tryd.prog 18 #[.slice (some ⟨g, 0, none⟩) xs.length c] w (Str2 (text xs) true w) := by
  have hn := hr.1
  have HO := Lib.hid (Ls.impl_cells g c xs w (by omega) hc)
  rw [hok] at HO
  have HC := Lib.hid hc
  have HR := Lib.hid hr
  have HT := Lib.hid htab
  have hlt0 := Tb.tab_lt htab
  have HW := Lib.hid (fun j => wd_step xs j)
  have HWL := Lib.hid (fun j => wd_length xs j)
  have HJ := Lib.hid (fun (w' : World) (v : Value) (h : OwnS w' w.heap.size v (wd xs xs.length)) => join_own xs h hr h0)
  clear hc hr htab hok
  generalize hN : xs.length = N at *
  have HN := Lib.hid hN
  clear hN
  have hz : ((N : Int) == 0) = false := by simp; omega
  go_enter Tryd.func18, Tryd.ntmps18
  go_wp2_with (go_at_call 39; refine HO.out.mono ?_; rintro e w' ⟨rfl, rfl⟩)
  go_loopw [4, 6, 15] (fun v _ i wr => ∃ j : Nat, j ≤ N ∧ i = .int .i64 j ∧ OwnS wr w.heap.size v (wd xs j) ∧ Below w.heap.size w wr) (fun _ _ i _ => N - (intOf i).toNat)
  case atStart => exact ⟨0, Nat.zero_le _, rfl, World.ownsRow_nil _ _ _ _, Below.refl _ _⟩
  case round =>
    obtain ⟨j, hj, rfl, ho, hb⟩ := hrel
    have hsz := hb.size
    by_cases hlt : j < N
    · have c1 : wr.cell? ⟨g, j, none⟩ = some (.int .i64 (xs.getD j 0)) := (hb.cell (p := ⟨g, j, none⟩) hg).trans (HC.out j hlt)
      have hb2 := HR.out.2 j (by rw [HN.out]; exact hlt)
      have hnew := Lib.hid (HW.out j hlt)
      have hwl := Lib.hid (HWL.out j (by omega))
      generalize xs.getD j 0 = u at *
      have HD := Lib.hid (fun w => fnExactDecimal.impl_dec u w (by omega) (by omega))
      have HT2 := Lib.hid (Tb.tab_below HT.out hb hlt0)
      go_wp2_with (first | (go_at_call 23; refine (HD.out _ HT2.out).mono ?_; rintro e w1 ⟨rfl, b1⟩; have o1 := ho.below b1 (Nat.le_refl _); clear ho) | (at_builtin; refine wpList_appS _ rfl _ _ rfl w.heap.size _ (wd xs j) _ ?_ ?_ o1 ?_ ?_ ?_; rfl; rfl))
      · rw [hwl.out]; omega
      · exact Nat.le_trans hsz b1.size
      intro v' w2 ho2 hb2'
      rw [← hnew.out] at ho2
      have hbb : Below w.heap.size w w2 := (hb.trans (b1.mono hsz)).trans hb2'
      clear hb2' o1 b1
      go_wp2
      go_roundw
      case rel => exact ⟨j + 1, by omega, by go_num, ho2, hbb⟩
      case measure => simp [intOf]; omega
    · have e : j = N := by omega
      subst e
      go_wp2_with (go_at_call 44; refine (HJ.out _ _ ho).mono ?_; rintro e w1 ⟨rfl, b1⟩)
      go_ret2
      exact ⟨rfl, hb.trans (b1.mono hsz)⟩
theorem impl_yes {w : World} {B : Nat} {v : Value} {xs : List Int} (h : Own w B v xs) (hok : Ls.okL xs = true) (hr : Rng xs) (htab : Lib.TabIs Tryd.prog w "internal/strconv.uint64pow10" .u64 Lib.pow10Tab) :
    Calls Tryd.prog 18 #[v] w (Str2 (text xs) true w) := by
  rcases h.cases with ⟨rfl, rfl⟩ | ⟨g, c, rfl, _, hg, _, hc, _⟩
  · exact (zero_i none 0 w).mono fun e w' ⟨he, hw⟩ => ⟨he, by rw [← hw]; exact Below.refl _ _⟩
  · by_cases h0 : 0 < xs.length
    · exact cells_i g c xs w hok hr h0 hg hc htab
    · have : xs = [] := List.eq_nil_of_length_eq_zero (by omega)
      subst this
      exact (zero_i _ c w).mono fun e w' ⟨he, hw⟩ => ⟨he, by rw [← hw]; exact Below.refl _ _⟩
theorem impl_no {w : World} {B : Nat} {v : Value} {xs : List Int} (h : Own w B v xs) (hn : xs.length ≤ 1048576) (hok : Ls.okL xs = false) :
    Calls Tryd.prog 18 #[v] w (Str2 [] false w) := by
  have HO := Lib.hid (Ls.impl_own h hn)
  rw [hok] at HO
  clear hok h
  go_enter Tryd.func18, Tryd.ntmps18
  go_wp2_with (go_at_call 39; refine HO.out.mono ?_; rintro e w' ⟨rfl, rfl⟩)
  go_ret2
  exact ⟨rfl, Below.refl _ _⟩
theorem spec_yes {w : World} {B : Nat} {v : Value} {xs : List Int} (h : Own w B v xs) (hok : Ls.okL xs = true) (hr : Rng xs) :
    Calls Tryd.prog 27 #[v] w (Str2 (text xs) true w) := by
  have HO := Lib.hid (Ls.spec_own h (by have := hr.1; omega))
  rw [hok] at HO
  have HX := Lib.hid (own_text h hr)
  clear hok h hr
  go_enter Tryd.func27, Tryd.ntmps27
  go_wp2_with (first | (go_at_call 52; refine HO.out.mono ?_; rintro e w' ⟨rfl, rfl⟩) | (go_at_call 53; refine HX.out.mono ?_; rintro e w1 ⟨rfl, b1⟩))
  go_ret2
  exact ⟨rfl, b1⟩
theorem spec_no {w : World} {B : Nat} {v : Value} {xs : List Int} (h : Own w B v xs) (hn : xs.length ≤ 1048576) (hok : Ls.okL xs = false) :
    Calls Tryd.prog 27 #[v] w (Str2 [] false w) := by
  have HO := Lib.hid (Ls.spec_own h hn)
  rw [hok] at HO
  clear hok h
  go_enter Tryd.func27, Tryd.ntmps27
  go_wp2_with (go_at_call 52; refine HO.out.mono ?_; rintro e w' ⟨rfl, rfl⟩)
  go_ret2
  exact ⟨rfl, Below.refl _ _⟩
theorem rng_of {xs : List Int} (h : Ls.okL xs = true) : Rng xs := by
  unfold Ls.okL at h
  rw [Bool.and_eq_true] at h
  refine ⟨of_decide_eq_true h.1, fun i hi => ?_⟩
  have h2 := List.all_eq_true.1 h.2 (xs.getD i 0) (by rw [List.getD_eq_getElem?_getD, List.getElem?_eq_getElem hi]; exact List.getElem_mem hi)
  unfold Ls.inR at h2
  rw [Bool.and_eq_true] at h2
  exact ⟨of_decide_eq_true h2.1, of_decide_eq_true h2.2⟩
end Go.Proofs.YtdilbogjihafoaaDoor.Tx
