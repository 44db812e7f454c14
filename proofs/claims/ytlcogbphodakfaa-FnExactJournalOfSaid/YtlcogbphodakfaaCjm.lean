/- The model's JournalOf. -/
import Derived.Test.YtlcogbphodakfaaCjo
import Derived.Laws.Concat
namespace Go.Proofs.Ytlcogbphodakfaa.Jn
open Go.RowKit Sj
def nw (le x : ByteArray) : ByteArray := Ck.letters (Ck.chk (le ++ x).data.toList)
def r1 (l x : ByteArray) : ByteArray := ((l ++ ⟨#[32]⟩) ++ x) ++ ⟨#[10]⟩
/-- The journal of lines. -/
def jt : ByteArray → List ByteArray → ByteArray
  | _, [] => ByteArray.empty
  | le, x :: xs => r1 (nw le x) x ++ jt (nw le x) xs
def hasN (x : ByteArray) : Bool := decide (0 ≤ Lib.indexByte x.data.toList 10)
def okJ : Nat → List ByteArray → Bool
  | _, [] => true
  | t, x :: xs => if hasN x = true then false else if 4000 < t + (x.size + 4) then false else okJ (t + (x.size + 4)) xs
theorem nw_size (le x : ByteArray) : (nw le x).size = 2 := rfl
theorem r1_size (l x : ByteArray) (h : l.size = 2) : (r1 l x).size = x.size + 4 := by
  unfold r1
  rw [ByteArray.size_append, ByteArray.size_append, ByteArray.size_append, h]
  show 2 + 1 + x.size + 1 = _
  omega
theorem jt_size : ∀ (xs : List ByteArray) (t : Nat) (le : ByteArray), t ≤ 4000 → okJ t xs = true → t + (jt le xs).size ≤ 4000
  | [], t, le, h, _ => h
  | x :: xs, t, le, h, ho => by
    rw [okJ] at ho
    by_cases h1 : hasN x = true
    · rw [if_pos h1] at ho; cases ho
    · rw [if_neg h1] at ho
      by_cases h2 : 4000 < t + (x.size + 4)
      · rw [if_pos h2] at ho; cases ho
      · rw [if_neg h2] at ho
        have := jt_size xs _ (nw le x) (by omega) ho
        rw [jt, ByteArray.size_append, r1_size _ _ (nw_size le x)]
        omega
theorem ix_mem : ∀ (l : List UInt8), (10 : UInt8) ∈ l → 0 ≤ Lib.indexByte l 10
  | [], h => by cases h
  | b :: l, h => by
    rw [Lib.indexByte]
    by_cases hb : (b == 10) = true
    · rw [if_pos hb]; omega
    · rw [if_neg hb]
      have hm : (10 : UInt8) ∈ l := by
        rcases List.mem_cons.1 h with h | h
        · exact absurd (by simp [← h]) hb
        · exact h
      have := ix_mem l hm
      rw [if_neg (by simp; omega)]
      omega
theorem ix_not : ∀ (l : List UInt8), ¬ (10 : UInt8) ∈ l → Lib.indexByte l 10 = -1
  | [], _ => rfl
  | b :: l, h => by
    rw [Lib.indexByte, if_neg (by intro hb; exact h (by simp at hb; simp [hb])), ix_not l (fun h1 => h (List.mem_cons_of_mem _ h1))]
    rfl
theorem hasN_yes (x : ByteArray) (j : Nat) (hj : j < x.size) (h : x[j] = 10) : hasN x = true := by
  unfold hasN
  rw [decide_eq_true_eq]
  refine ix_mem _ ?_
  rw [← h]
  exact List.getElem_mem (l := x.data.toList) (by simpa using hj)
theorem hasN_no (x : ByteArray) (h : ∀ j (hj : j < x.size), ¬ x[j] = 10) : hasN x = false := by
  unfold hasN
  rw [decide_eq_false_iff_not, ix_not]
  · omega
  · intro hm
    obtain ⟨j, hj, e⟩ := List.getElem_of_mem hm
    exact h j (by simpa using hj) e
theorem dropC (xs : List ByteArray) (k : Nat) (h : k < xs.length) : xs.drop k = xs.getD k ByteArray.empty :: xs.drop (k + 1) := by
  rw [List.drop_eq_getElem_cons h, List.getD_eq_getElem?_getD, List.getElem?_eq_getElem h]; rfl
set_option maxHeartbeats 1000000 in
theorem journal_s (a : Option Addr) (c : Nat) (xs : List ByteArray) (w : World) (h : RdC w a xs) (hn : xs.length ≤ 1048576) (hJ : (jt ByteArray.empty xs).size ≤ 4000) :
    Calls Try.prog 14 #[.slice a xs.length c] w (Ck.Str (jt ByteArray.empty xs) w) := by
  have HD := Lib.hid (dropC xs)
  have HDE := Lib.hid (show xs.drop xs.length = [] from List.drop_length)
  have H0 := Lib.hid (show ByteArray.empty ++ jt ByteArray.empty (xs.drop 0) = jt ByteArray.empty xs by rw [List.drop_zero, ByteArray.empty_append])
  have HC := Lib.hid (fun (w9 : World) (hb : Below w.heap.size w w9) => h.below hb (Nat.le_refl _))
  clear h
  generalize jt ByteArray.empty xs = J at *
  generalize hN : xs.length = n at *
  have HN := Lib.hid hN
  clear hN
  have HK := Lib.hid (fun (t : ByteArray) (w9 : World) (ht : t.size ≤ 5000) => Ck.spec_any t w9 (by omega))
  go_enter Try.func14, Try.ntmps14
  go_wp2
  go_loopw [3, 4, 5] (fun vo vl vi wr => ∃ (out le : ByteArray) (k : Nat), k ≤ n ∧ le.size ≤ 2 ∧ out.size ≤ 4000 ∧ vo = .string out ∧ vl = .string le ∧ vi = .int .i64 (k : Nat) ∧ Hid (Below w.heap.size w wr) ∧ Hid (out ++ jt le (xs.drop k) = J)) (fun _ _ vi _ => n - (intOf vi).toNat)
  case atStart => exact ⟨ByteArray.empty, ByteArray.empty, 0, Nat.zero_le _, by decide, by decide, rfl, rfl, rfl, Lib.hid (Below.refl _ _), H0⟩
  case round =>
    obtain ⟨out, le, k, hk, hle, hos, rfl, rfl, rfl, hb, hj⟩ := hrel
    by_cases hlt : k < n
    · obtain ⟨b, off, rfl, g, hl⟩ := HC.out wr hb.out k (by rw [HN.out]; exact hlt)
      have hj2 := hj.out
      rw [HD.out k hlt, jt] at hj2
      generalize xs.getD k ByteArray.empty = X at *
      have hsz := congrArg ByteArray.size hj2
      rw [ByteArray.size_append, ByteArray.size_append, r1_size _ _ (nw_size le X)] at hsz
      have hX : X.size ≤ 4000 := by omega
      have HX := Lib.hid (HK.out (le ++ X) wr (by rw [ByteArray.size_append]; omega))
      have HNW := Lib.hid (show Ck.letters (Ck.chk (le ++ X).data.toList) = nw le X from rfl)
      rw [HNW.out] at HX
      have hms := nw_size le X
      have HR := Lib.hid (r1_size (nw le X) X hms)
      clear HNW
      generalize nw le X = M at *
      have hso : out.size + (X.size + 4) ≤ 4000 := by omega
      have HJ := Lib.hid (show (out ++ r1 M X) ++ jt M (xs.drop (k + 1)) = J by rw [ByteArray.append_assoc]; exact hj2)
      clear hsz hj2 hj
      have c1 : ∀ wx, (Op.stringOp .add le X).run Try.prog wx = .ok (.string (le ++ X)) wx := fun wx => run_string_add_sum wx le X (by omega)
      have c2 : ∀ wx, (Op.stringOp .add M ⟨#[32]⟩).run Try.prog wx = .ok (.string (M ++ ⟨#[32]⟩)) wx := fun wx => run_string_add_sum wx M ⟨#[32]⟩ (by show M.size + 1 ≤ _; omega)
      have c3 : ∀ wx, (Op.stringOp .add (M ++ ⟨#[32]⟩) X).run Try.prog wx = .ok (.string ((M ++ ⟨#[32]⟩) ++ X)) wx := fun wx => run_string_add_sum wx _ X (by rw [ByteArray.size_append]; show M.size + 1 + _ ≤ _; omega)
      have c4 : ∀ wx, (Op.stringOp .add ((M ++ ⟨#[32]⟩) ++ X) ⟨#[10]⟩).run Try.prog wx = .ok (.string (r1 M X)) wx := fun wx => run_string_add_sum wx _ ⟨#[10]⟩ (by rw [ByteArray.size_append, ByteArray.size_append]; show M.size + 1 + _ + 1 ≤ _; omega)
      have c5 : ∀ wx, (Op.stringOp .add out (r1 M X)).run Try.prog wx = .ok (.string (out ++ r1 M X)) wx := fun wx => run_string_add_sum wx _ _ (by rw [HR.out]; omega)
      go_wp2_with fail
      refine HX.out.mono ?_; rintro e w2 ⟨rfl, b2⟩
      have g2 := (b2.cell (p := ⟨b, off + k, none⟩) hl).trans g
      go_wp2
      go_roundw
      case rel => exact ⟨out ++ r1 M X, M, k + 1, by omega, by omega, by rw [ByteArray.size_append, HR.out]; omega, rfl, rfl, by go_num, Lib.hid (bt hb.out b2), HJ⟩
      case measure => simp [intOf]; omega
    · have e : k = n := by omega
      subst e
      have hj2 := hj.out
      rw [HDE.out, jt, ByteArray.append_empty] at hj2
      have HJ := Lib.hid hj2
      go_wp2
      go_ret
      exact ⟨by rw [← HJ.out]; rfl, hb.out⟩
def Js (t : ByteArray) (ok : Bool) (w : World) (e : Ending) (w' : World) : Prop := e = .returned (.tuple #[.string t, .bool ok]) ∧ Below w.heap.size w w'
def jo (xs : List ByteArray) : ByteArray := if okJ 0 xs = true then jt ByteArray.empty xs else ByteArray.empty
set_option maxRecDepth 8000 in
set_option maxHeartbeats 1000000 in
theorem jof_s (a : Option Addr) (c : Nat) (xs : List ByteArray) (w : World) (h : RdC w a xs) (hn : xs.length ≤ 1048576) (hx : ∀ i, i < xs.length → (xs.getD i ByteArray.empty).size ≤ 1048576) :
    Calls Try.prog 6 #[.slice a xs.length c] w (Js (jo xs) (okJ 0 xs) w) := by
  have HD := Lib.hid (dropC xs)
  have HDE := Lib.hid (show xs.drop xs.length = [] from List.drop_length)
  have H0 := Lib.hid (show okJ 0 (xs.drop 0) = okJ 0 xs by rw [List.drop_zero])
  have HC := Lib.hid h
  have HX := Lib.hid hx
  have HJS := Lib.hid (show okJ 0 xs = true → Calls Try.prog 14 #[.slice a xs.length c] w (Ck.Str (jo xs) w) from fun ho => by
    have := journal_s a c xs w h hn (by have := jt_size xs 0 ByteArray.empty (by omega) ho; omega)
    unfold jo
    rw [if_pos ho]
    exact this)
  have HNO := Lib.hid (show ¬ okJ 0 xs = true → jo xs = ByteArray.empty from fun ho => if_neg ho)
  clear h hx
  generalize jo xs = J at *
  generalize okJ 0 xs = ok at *
  generalize hN : xs.length = n at *
  have HN := Lib.hid hN
  clear hN
  go_enter Try.func6, Try.ntmps6
  go_wp2
  go_loop [4, 5] (fun vt vi => ∃ (t k : Nat), k ≤ n ∧ t ≤ 4000 ∧ vt = .int .i64 (t : Nat) ∧ vi = .int .i64 (k : Nat) ∧ Hid (okJ t (xs.drop k) = ok)) (fun _ vi => n - (intOf vi).toNat)
  case atStart => exact ⟨0, 0, Nat.zero_le _, Nat.zero_le _, rfl, rfl, H0⟩
  case round =>
    obtain ⟨t, k, hk, ht, rfl, rfl, ho⟩ := hrel
    by_cases hlt : k < n
    · obtain ⟨b, off, rfl, g, hl⟩ := HC.out k (by rw [HN.out]; exact hlt)
      have hX := HX.out k hlt
      have ho2 := ho.out
      rw [HD.out k hlt, okJ] at ho2
      generalize xs.getD k ByteArray.empty = X at *
      have HY := Lib.hid (hasN_yes X)
      have HZ := Lib.hid (hasN_no X)
      have HO := Lib.hid ho2
      clear ho2 ho
      go_wp2
      go_loop [6] (fun vj => ∃ j : Nat, j ≤ X.size ∧ vj = .int .i64 (j : Nat) ∧ Hid (∀ i (hi : i < X.size), i < j → ¬ X[i] = 10)) (fun vj => X.size - (intOf vj).toNat)
      case atStart => exact ⟨0, Nat.zero_le _, rfl, Lib.hid (fun i hi h0 => absurd h0 (Nat.not_lt_zero _))⟩
      case round =>
        obtain ⟨j, hj, rfl, hq⟩ := hrel
        by_cases hjl : j < X.size
        · by_cases hc : X[j] = 10
          · have hcn : (X[j].toNat : Int) = 10 := by rw [hc]; rfl
            have e1 := HO.out
            rw [if_pos (HY.out j hjl hc)] at e1
            have E1 := Lib.hid e1.symm
            clear e1
            go_wp2
            go_ret2
            rw [HNO.out (by rw [E1.out]; decide), E1.out]
            exact ⟨rfl, Below.refl _ _⟩
          · have hcn : ¬ (X[j].toNat : Int) = 10 := fun h => hc (UInt8.toNat_inj.1 (by rw [show X[j].toNat = 10 by omega]; rfl))
            have HQ := Lib.hid (show ∀ i (hi : i < X.size), i < j + 1 → ¬ X[i] = 10 from fun i hi h1 => by
              rcases Nat.lt_or_ge i j with h2 | h2
              · exact hq.out i hi h2
              · have : i = j := by omega
                subst this; exact hc)
            clear hc
            go_wp2
            go_round
            case rel => exact ⟨j + 1, by omega, by go_num, HQ⟩
            case measure => simp [intOf]; omega
        · have e1 := HO.out
          rw [if_neg (by rw [HZ.out (fun i hi => hq.out i hi (by omega))]; decide)] at e1
          by_cases h4 : 4000 < t + (X.size + 4)
          · rw [if_pos h4] at e1
            have E1 := Lib.hid e1.symm
            have h4i : (4000 : Int) < (t : Int) + ((X.size : Int) + 4) := by omega
            clear e1 h4
            go_wp2
            go_ret2
            rw [HNO.out (by rw [E1.out]; decide), E1.out]
            exact ⟨rfl, Below.refl _ _⟩
          · rw [if_neg h4] at e1
            have E1 := Lib.hid e1
            have h4i : ¬ (4000 : Int) < (t : Int) + ((X.size : Int) + 4) := by omega
            clear e1 h4
            go_wp2
            go_round
            case rel => exact ⟨t + (X.size + 4), k + 1, by omega, by omega, by go_num, by go_num, E1⟩
            case measure => simp [intOf]; omega
    · have e : k = n := by omega
      subst e
      have ho2 := ho.out
      rw [HDE.out, okJ] at ho2
      have HK := Lib.hid (HJS.out ho2.symm)
      subst ho2
      go_wp2_with fail
      refine HK.out.mono ?_; rintro e w2 ⟨rfl, b2⟩
      go_wp2
      go_ret2
      exact ⟨rfl, b2⟩
end Go.Proofs.Ytlcogbphodakfaa.Jn
