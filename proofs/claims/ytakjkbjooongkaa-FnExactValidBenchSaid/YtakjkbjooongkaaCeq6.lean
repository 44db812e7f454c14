/- Two arrays of six numbers compared. -/
import Derived.Test.YtakjkbjooongkaaCage
import Derived.Laws.StructEq
import Derived.ChangeKeysEq
namespace Go.Proofs.Ytakjkbjooongkaa
open Go.RowKit
theorem items_step (d : Nat) (xs ys : Array Value) (i : Nat) (is : List Nat) (x y : Int) (w : World) (hx : xs[i]? = some (.int .i64 x)) (hy : ys[i]? = some (.int .i64 y)) :
    (Op.eqItems (d + 1) 2 1 xs ys (i :: is)).run Try.prog w = if x = y then (Op.eqItems (d + 1) 2 1 xs ys is).run Try.prog w else .ok false w := by
  have hp : Try.prog.plainKey 2 = true := by kernel_rfl
  have p1 := run_part_plain (P := Try.prog) w hp (off := i * 1) (by rw [Nat.mul_one]; exact hx)
  have p2 := run_part_plain (P := Try.prog) w hp (off := i * 1) (by rw [Nat.mul_one]; exact hy)
  have p3 := run_equalIn_int (P := Try.prog) w d 2 .i64 .i64 x y Try.underlying2
  simp only [Op.eqItems, Sem.run_bind, p1, p2, p3, Result.andThen_ok]
  by_cases h : x = y
  · subst h; simp
  · simp [h]
theorem eq6 (x0 x1 x2 x3 x4 x5 y0 y1 y2 y3 y4 y5 : Int) (w : World) :
    (Op.equalIn 10000 60 (.agg #[.int .i64 x0, .int .i64 x1, .int .i64 x2, .int .i64 x3, .int .i64 x4, .int .i64 x5]) (.agg #[.int .i64 y0, .int .i64 y1, .int .i64 y2, .int .i64 y3, .int .i64 y4, .int .i64 y5])).run Try.prog w =
      .ok (decide (x0 = y0 ∧ x1 = y1 ∧ x2 = y2 ∧ x3 = y3 ∧ x4 = y4 ∧ x5 = y5)) w := by
  obtain ⟨i, hi⟩ : ∃ i, Try.prog.info? 2 = some i := by
    cases h : Try.prog.info? 2 with
    | none => exact absurd h (by decide +kernel)
    | some i => exact ⟨i, rfl⟩
  have hc : Try.prog.cellsOf 2 = 1 := by kernel_rfl
  have h0 := run_equalIn_array (P := Try.prog) w 9999 (t := 60) #[.int .i64 x0, .int .i64 x1, .int .i64 x2, .int .i64 x3, .int .i64 x4, .int .i64 x5] #[.int .i64 y0, .int .i64 y1, .int .i64 y2, .int .i64 y3, .int .i64 y4, .int .i64 y5] (n := 6) (by kernel_rfl) hi
  refine h0.trans ?_
  rw [hc, show List.range 6 = [0, 1, 2, 3, 4, 5] from rfl]
  rw [items_step 9998 _ _ 0 _ x0 y0 w rfl rfl, items_step 9998 _ _ 1 _ x1 y1 w rfl rfl, items_step 9998 _ _ 2 _ x2 y2 w rfl rfl, items_step 9998 _ _ 3 _ x3 y3 w rfl rfl, items_step 9998 _ _ 4 _ x4 y4 w rfl rfl, items_step 9998 _ _ 5 _ x5 y5 w rfl rfl]
  by_cases h0 : x0 = y0
  · by_cases h1 : x1 = y1
    · by_cases h2 : x2 = y2
      · by_cases h3 : x3 = y3
        · by_cases h4 : x4 = y4
          · by_cases h5 : x5 = y5
            · simp [h0, h1, h2, h3, h4, h5, Op.eqItems]
            · simp [h0, h1, h2, h3, h4, h5]
          · simp [h0, h1, h2, h3, h4]
        · simp [h0, h1, h2, h3]
      · simp [h0, h1, h2]
    · simp [h0, h1]
  · simp [h0]
theorem guard6 : Try.prog.eqGuardType Try.prog.depth 60 = false := by kernel_rfl
end Go.Proofs.Ytakjkbjooongkaa
