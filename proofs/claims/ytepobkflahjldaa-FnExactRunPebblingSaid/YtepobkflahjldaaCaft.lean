/- One move of a pebbling: the program. -/
import Derived.Test.YtepobkflahjldaaPlainMov
import Derived.Test.YtepobkflahjldaaCgml
import Derived.Test.YtepobkflahjldaaCgam2
import Derived.Deep.QuietTactic
import Derived.BigQuiet
namespace Go.Proofs.Ytepobkflahjldaa.Pb
open Go.RowKit Pv
theorem drewBB {w w' : World} {B : Nat} (h : Below B w.drew w') : Below B w w' := (Below.refl _ w).drew.trans h
theorem step_u (d : Nat) (xs ys : Array Value) (f : Field) (fs : List Field) (x y : Int) (w : World) (hn : (f.name == "_") = false) (ht : f.type = 55) (hx : xs[f.offset]? = some (.int .u8 x)) (hy : ys[f.offset]? = some (.int .u8 y)) :
    (Op.eqFields (d + 1) xs ys (f :: fs)).run Try.prog w = if x = y then (Op.eqFields (d + 1) xs ys fs).run Try.prog w else .ok false w := by
  have hp : Try.prog.plainKey 55 = true := by kernel_rfl
  have p1 := run_part_plain (P := Try.prog) w hp hx
  have p2 := run_part_plain (P := Try.prog) w hp hy
  have p3 := run_equalIn_int (P := Try.prog) w d 55 .u8 .u8 x y Try.underlying55
  have hn' : ¬ f.name = "_" := by simpa using hn
  simp only [Op.eqFields, ht, Sem.run_bind, Sem.run_ite, p1, p2, p3, Result.andThen_ok]
  by_cases h : x = y
  · subst h; simp [hn']
  · simp [h, hn']
theorem fieldsU : Try.prog.fieldsOf 62 = #[⟨"fast", 55, 0, false, "", "loop.example/g01112/impl", 0⟩, ⟨"slow", 55, 1, false, "", "loop.example/g01112/impl", 1⟩] := by kernel_rfl
theorem underU : Try.prog.underlying 62 = some (.struct (Try.prog.fieldsOf 62)) := by kernel_rfl
theorem stoodU : Try.prog.stoodInHeld 62 = false := by kernel_rfl
theorem eqU (a b c d : Nat) (w : World) :
    (Op.equalIn 10000 62 (.agg #[.int .u8 (a : Int), .int .u8 (b : Int)]) (.agg #[.int .u8 (c : Int), .int .u8 (d : Int)])).run Try.prog w = .ok (decide ((a, b) = (c, d))) w := by
  rw [run_equalIn_struct w 9999 62 _ _ underU stoodU, fieldsU]
  show (Op.eqFields 9999 _ _ [_, _]).run _ w = _
  rw [step_u 9998 _ _ _ _ a c w rfl rfl rfl rfl, step_u 9998 _ _ _ _ b d w rfl rfl rfl rfl]
  by_cases h0 : (a : Int) = (c : Int)
  · have h0' : a = c := by omega
    by_cases h1 : (b : Int) = (d : Int)
    · have h1' : b = d := by omega
      simp [h0', h1', Op.eqFields]
    · have h1' : b ≠ d := by omega
      rw [if_pos h0, if_neg h1]
      simp [h1']
  · have h0' : a ≠ c := by omega
    rw [if_neg h0]
    simp [h0']
theorem guardU : Try.prog.eqGuardType Try.prog.depth 62 = false := by kernel_rfl
theorem fits_i (n : Nat) (p : Int) (g : Nat → Nat) (s0 o0 F S : Nat) (hF : F < 64) (w : World) :
    Calls Try.prog 51 #[.agg (gm n p g s0 o0).toArray, .agg #[.int .u8 (F : Int), .int .u8 (S : Int)]] w (Bb (decide ((cnt F : Int) ≤ p)) w) := by
  have H := Lib.hid (fun w9 => cnt_i F hF w9)
  have b0 : Below w.heap.size w ((w.alloc (.cells (gm n p g s0 o0).toArray 58)).alloc (.cells #[.int .u8 (F : Int), .int .u8 (S : Int)] 62)) := ((Below.refl _ w).alloc (Nat.le_refl _) _).alloc (by simp) _
  have B0 := Lib.hid b0
  unfold gm at *
  clear b0
  generalize cnt F = q at *
  go_enter Try.func51, Try.ntmps51
  go_wp2
  go_region_law (go_simp; go_at_call 52; (with_reducible refine (H.out _).mono ?_); rintro e w1 ⟨rfl, rfl⟩)
  all_goals
    go_wp2
    go_ret
    exact ⟨rfl, B0.out.drew⟩
end Go.Proofs.Ytepobkflahjldaa.Pb
