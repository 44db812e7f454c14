/- DERIVED: THE SHELF's CONTRACTS AT THIS DUMP, IN PLAIN WORDS (tools/lay-plain.mjs out of 'TryShelf.lean', which tools/lay-shelf.mjs wrote): THE SAME DECLARATIONS UNDER THE SAME NAMES: 'import', 'namespace', 'open', 'def', 'theorem' AND NOTHING ELSE: no command of the shelf's: FOR A HAND-IN. Each laying: the table of numbers ('.._ren') and one theorem, a field a fact of the dump's own or the kernel's comparison; each contract: ONE APPLICATION. Two arrays of six numbers compared. Sets as rising lists: a number put in, the set of a list; the uses before and behind a use. No program. Contracts of the model's and the program's test of uses: at most 60 addresses. append of one number to a list of the call's own; make of an empty list with room. Runs of a list: they give the list back, are not empty, and neighbours differ. No program. The counts of a sorted list; the order of first uses; phases; the uses of a set. No program. -/
import Derived.Ground.SlgnProg
import Derived.Shelf.SlicesG.SearchI
import Derived.Shelf.SlicesG.Turned
import Derived.Shelf.SlicesG.Clone
import Derived.Ground.SlgmProg
import Derived.Shelf.SortM.Plain
import Derived.Shelf.SortM.SortNone
import Derived.Test.YtngbddmbmkphcaaProg
import Derived.Test.YtngbddmbmkphcaaG1
import Derived.Laws.StructEq
import Derived.ChangeKeysEq
import Derived.PlainAid
namespace Go.Proofs
open Go.Shelf
def Try.laysHas_ren : Go.Shelf.Ren := ⟨fun | 31 => 78 | 29 => 83 | n => n, fun | 22 => 23 | 23 => 2 | 4 => 4 | 3 => 3 | 0 => 0 | n => n, fun | n => n⟩
theorem Try.laysHas : Go.Proofs.SlLaysN.n31 Try.prog Try.laysHas_ren := {
  mixed := by kernel_rfl
  f29 := ⟨Try.f83.name, by decide, Try.func83.trans (congrArg some (by kernel_rfl))⟩
  f31 := ⟨Try.f78.name, by decide, Try.func78.trans (congrArg some (by kernel_rfl))⟩
  t0 := Try.underlying0
  a0 := Try.isAgg0
  z0 := Try.sizeOf0
  v0 := Try.zeroValue0
  t3 := Try.underlying3
  a3 := Try.isAgg3
  z3 := Try.sizeOf3
  v3 := Try.zeroValue3
  t4 := Try.underlying4
  a4 := Try.isAgg4
  z4 := Try.sizeOf4
  v4 := Try.zeroValue4
  t22 := Try.underlying23
  a22 := Try.isAgg23
  z22 := Try.sizeOf23
  v22 := Try.zeroValue23
  t23 := Try.underlying2
  a23 := Try.isAgg2
  z23 := Try.sizeOf2
  v23 := Try.zeroValue2 }
def Try.laysIdi_ren : Go.Shelf.Ren := ⟨fun | 29 => 83 | n => n, fun | 22 => 23 | 23 => 2 | 3 => 3 | 0 => 0 | 4 => 4 | n => n, fun | n => n⟩
theorem Try.laysIdi : Go.Proofs.SlLaysN.n29 Try.prog Try.laysIdi_ren := {
  mixed := by kernel_rfl
  f29 := ⟨Try.f83.name, by decide, Try.func83.trans (congrArg some (by kernel_rfl))⟩
  t0 := Try.underlying0
  a0 := Try.isAgg0
  z0 := Try.sizeOf0
  v0 := Try.zeroValue0
  t3 := Try.underlying3
  a3 := Try.isAgg3
  z3 := Try.sizeOf3
  v3 := Try.zeroValue3
  t4 := Try.underlying4
  a4 := Try.isAgg4
  z4 := Try.sizeOf4
  v4 := Try.zeroValue4
  t22 := Try.underlying23
  a22 := Try.isAgg23
  z22 := Try.sizeOf23
  v22 := Try.zeroValue23
  t23 := Try.underlying2
  a23 := Try.isAgg2
  z23 := Try.sizeOf2
  v23 := Try.zeroValue2 }
def Try.laysSort_ren : Go.Shelf.Ren := ⟨fun | 5 => 81 | 8 => 85 | 7 => 84 | 19 => 97 | 20 => 98 | 10 => 88 | 11 => 89 | 12 => 90 | 13 => 91 | 14 => 92 | 15 => 93 | 16 => 94 | 17 => 95 | 18 => 96 | 30 => 99 | 31 => 100 | 32 => 101 | 33 => 102 | 34 => 103 | 35 => 104 | 40 => 105 | n => n, fun | 23 => 23 | 25 => 2 | 3 => 3 | 32 => 126 | 22 => 23 | 0 => 0 | 44 => 139 | 46 => 141 | 4 => 4 | 36 => 131 | 35 => 130 | 41 => 136 | 5 => 5 | 9 => 9 | 53 => 142 | 57 => 146 | 63 => 148 | 64 => 149 | n => n, fun | n => n⟩
theorem Try.laysSort : Go.Proofs.SlLaysM.n5 Try.prog Try.laysSort_ren := {
  mixed := by kernel_rfl
  f5 := ⟨Try.f81.name, by decide, Try.func81.trans (congrArg some (by kernel_rfl))⟩
  f7 := ⟨Try.f84.name, by decide, Try.func84.trans (congrArg some (by kernel_rfl))⟩
  f8 := Try.func85.trans (congrArg some (by kernel_rfl))
  f10 := ⟨Try.f88.name, by decide, Try.func88.trans (congrArg some (by kernel_rfl))⟩
  f11 := ⟨Try.f89.name, by decide, Try.func89.trans (congrArg some (by kernel_rfl))⟩
  f12 := ⟨Try.f90.name, by decide, Try.func90.trans (congrArg some (by kernel_rfl))⟩
  f13 := ⟨Try.f91.name, by decide, Try.func91.trans (congrArg some (by kernel_rfl))⟩
  f14 := ⟨Try.f92.name, by decide, Try.func92.trans (congrArg some (by kernel_rfl))⟩
  f15 := ⟨Try.f93.name, by decide, Try.func93.trans (congrArg some (by kernel_rfl))⟩
  f16 := ⟨Try.f94.name, by decide, Try.func94.trans (congrArg some (by kernel_rfl))⟩
  f17 := ⟨Try.f95.name, by decide, Try.func95.trans (congrArg some (by kernel_rfl))⟩
  f18 := ⟨Try.f96.name, by decide, Try.func96.trans (congrArg some (by kernel_rfl))⟩
  f19 := Try.func97.trans (congrArg some (by kernel_rfl))
  f20 := Try.func98.trans (congrArg some (by kernel_rfl))
  f30 := ⟨Try.f99.name, by decide, Try.func99.trans (congrArg some (by kernel_rfl))⟩
  f31 := Try.func100.trans (congrArg some (by kernel_rfl))
  f32 := Try.func101.trans (congrArg some (by kernel_rfl))
  f33 := ⟨Try.f102.name, by decide, Try.func102.trans (congrArg some (by kernel_rfl))⟩
  f34 := ⟨Try.f103.name, by decide, Try.func103.trans (congrArg some (by kernel_rfl))⟩
  f35 := ⟨Try.f104.name, by decide, Try.func104.trans (congrArg some (by kernel_rfl))⟩
  f40 := ⟨Try.f105.name, by decide, Try.func105.trans (congrArg some (by kernel_rfl))⟩
  t0 := Try.underlying0
  a0 := Try.isAgg0
  z0 := Try.sizeOf0
  v0 := Try.zeroValue0
  t3 := Try.underlying3
  a3 := Try.isAgg3
  z3 := Try.sizeOf3
  v3 := Try.zeroValue3
  t4 := Try.underlying4
  a4 := Try.isAgg4
  z4 := Try.sizeOf4
  v4 := Try.zeroValue4
  t5 := Try.underlying5
  a5 := Try.isAgg5
  z5 := Try.sizeOf5
  v5 := Try.zeroValue5
  t9 := Try.underlying9
  a9 := Try.isAgg9
  z9 := Try.sizeOf9
  v9 := Try.zeroValue9
  t22 := Try.underlying23
  a22 := Try.isAgg23
  z22 := Try.sizeOf23
  v22 := Try.zeroValue23
  t23 := Try.underlying23
  a23 := Try.isAgg23
  z23 := Try.sizeOf23
  v23 := Try.zeroValue23
  t25 := Try.underlying2
  a25 := Try.isAgg2
  z25 := Try.sizeOf2
  v25 := Try.zeroValue2
  t32 := Try.underlying126
  a32 := Try.isAgg126
  z32 := Try.sizeOf126
  v32 := Try.zeroValue126
  t35 := Try.underlying130
  a35 := Try.isAgg130
  z35 := Try.sizeOf130
  v35 := Try.zeroValue130
  t36 := Try.underlying131
  a36 := Try.isAgg131
  z36 := Try.sizeOf131
  v36 := Try.zeroValue131
  t41 := Try.underlying136
  a41 := Try.isAgg136
  z41 := Try.sizeOf136
  v41 := Try.zeroValue136
  t44 := Try.underlying139
  a44 := Try.isAgg139
  z44 := Try.sizeOf139
  v44 := Try.zeroValue139
  t46 := Try.underlying141
  a46 := Try.isAgg141
  z46 := Try.sizeOf141
  v46 := Try.zeroValue141
  t53 := Try.underlying142
  a53 := Try.isAgg142
  z53 := Try.sizeOf142
  v53 := Try.zeroValue142
  t57 := Try.underlying146
  a57 := Try.isAgg146
  z57 := Try.sizeOf146
  v57 := Try.zeroValue146
  t63 := Try.underlying148
  a63 := Try.isAgg148
  z63 := Try.sizeOf148
  v63 := Try.zeroValue148
  t64 := Try.underlying149
  a64 := Try.isAgg149
  z64 := Try.sizeOf149
  v64 := Try.zeroValue149 }
open Go.RowKit Go.Lib in
theorem Try.slices_has (b off n c : Nat) (zs : List Int) (x : Int) (w : World) (hz : n ≤ zs.length) (hbig : n ≤ 9223372036854775807) (hc : ∀ j, j < zs.length → w.cell? ⟨b, off + j, none⟩ = some (.int .i64 (zs.getD j 0))) :
    Calls Try.prog 78 #[.slice (some ⟨b, off, none⟩) n c, .int .i64 x] w fun e w' => e = .returned (.bool ((zs.take n).contains x)) ∧ w' = w := AnyG.slices_Contains_int Try.laysHas b off n c zs x w hz hbig hc
open Go.RowKit Go.Lib in
theorem Try.slices_has_empty (a : Option Addr) (c : Nat) (x : Int) (w : World) :
    Calls Try.prog 78 #[.slice a 0 c, .int .i64 x] w fun e w' => e = .returned (.bool false) ∧ w' = w := AnyG.slices_Contains_int_empty Try.laysHas a c x w
open Go.RowKit Go.Lib in
theorem Try.slices_idi (b off n c : Nat) (zs : List Int) (x : Int) (w : World) (hz : n ≤ zs.length) (hbig : n ≤ 9223372036854775807) (hc : ∀ j, j < zs.length → w.cell? ⟨b, off + j, none⟩ = some (.int .i64 (zs.getD j 0))) :
    Calls Try.prog 83 #[.slice (some ⟨b, off, none⟩) n c, .int .i64 x] w fun e w' => e = .returned (.int .i64 (Lib.idxOf (zs.take n) x)) ∧ w' = w := AnyG.slices_Index_int Try.laysIdi b off n c zs x w hz hbig hc
open Go.Shelf Go.Sort Go.RowKit in
theorem Try.slices_sort (blk off cap : Nat) (zs : List Int) (w : World) (hH : Holds (Value.int .i64) w blk off zs.toArray) (hblk : blk < w.heap.size) (hsz : zs.length < 4611686018427387904) :
    Calls Try.prog 81 #[.slice (some ⟨blk, off, none⟩) zs.length cap] w fun e w' => e = .returned (.tuple #[]) ∧ ∃ n os, w' = grow (putRow (Value.int .i64) (Sort.ahead w n) blk off (zs.mergeSort fun x y => decide (x ≤ y)).toArray) os := AnyM.slices_Sort_int Try.laysSort blk off cap zs w hH hblk hsz
open Go.Shelf Go.Sort Go.RowKit in
theorem Try.slices_sort_none (p : Option Addr) (cap : Nat) (w : World) :
    Calls Try.prog 81 #[.slice p 0 cap] w fun e w' => e = .returned (.tuple #[]) ∧ w' = w := AnyM.slices_Sort_int_none Try.laysSort p cap w
end Go.Proofs
namespace Go.Proofs.Ytngbddmbmkphcaa
open Go.RowKit
theorem items_step (d : Nat) (xs ys : Array Value) (i : Nat) (is : List Nat) (x y : Int) (w : World) (hx : xs[i]? = some (.int .i64 x)) (hy : ys[i]? = some (.int .i64 y)) :
    (Op.eqItems (d + 1) 2 1 xs ys (i :: is)).run Try.prog w = if x = y then (Op.eqItems (d + 1) 2 1 xs ys is).run Try.prog w else .ok false w := by
  have hp : Try.prog.plainKey 2 = true := by kernel_rfl
  have p1 := run_part_plain (P := Try.prog) w hp (off := i * 1) (by rw [Nat.mul_one]; exact hx)
  have p2 := run_part_plain (P := Try.prog) w hp (off := i * 1) (by rw [Nat.mul_one]; exact hy)
  have p3 := run_equalIn_int (P := Try.prog) w d 2 .i64 .i64 x y Try.underlying2
  simp only [Op.eqItems, Sem.run_bind, p1, p2, p3, Result.andThen_ok]
  by_cases h : x = y
  · subst h; simp
  · simp [h]
theorem eq6 (x0 x1 x2 x3 x4 x5 y0 y1 y2 y3 y4 y5 : Int) (w : World) :
    (Op.equalIn 10000 69 (.agg #[.int .i64 x0, .int .i64 x1, .int .i64 x2, .int .i64 x3, .int .i64 x4, .int .i64 x5]) (.agg #[.int .i64 y0, .int .i64 y1, .int .i64 y2, .int .i64 y3, .int .i64 y4, .int .i64 y5])).run Try.prog w =
      .ok (decide (x0 = y0 ∧ x1 = y1 ∧ x2 = y2 ∧ x3 = y3 ∧ x4 = y4 ∧ x5 = y5)) w := by
  obtain ⟨i, hi⟩ : ∃ i, Try.prog.info? 2 = some i := by
    cases h : Try.prog.info? 2 with
    | none => exact absurd h (by decide +kernel)
    | some i => exact ⟨i, rfl⟩
  have hc : Try.prog.cellsOf 2 = 1 := by kernel_rfl
  have h0 := run_equalIn_array (P := Try.prog) w 9999 (t := 69) #[.int .i64 x0, .int .i64 x1, .int .i64 x2, .int .i64 x3, .int .i64 x4, .int .i64 x5] #[.int .i64 y0, .int .i64 y1, .int .i64 y2, .int .i64 y3, .int .i64 y4, .int .i64 y5] (n := 6) (by kernel_rfl) hi
  refine h0.trans ?_
  rw [hc, show List.range 6 = [0, 1, 2, 3, 4, 5] from rfl]
  rw [items_step 9998 _ _ 0 _ x0 y0 w rfl rfl, items_step 9998 _ _ 1 _ x1 y1 w rfl rfl, items_step 9998 _ _ 2 _ x2 y2 w rfl rfl, items_step 9998 _ _ 3 _ x3 y3 w rfl rfl, items_step 9998 _ _ 4 _ x4 y4 w rfl rfl, items_step 9998 _ _ 5 _ x5 y5 w rfl rfl]
  by_cases h0 : x0 = y0
  · by_cases h1 : x1 = y1
    · by_cases h2 : x2 = y2
      · by_cases h3 : x3 = y3
        · by_cases h4 : x4 = y4
          · by_cases h5 : x5 = y5
            · simp [h0, h1, h2, h3, h4, h5, Op.eqItems]
            · simp [h0, h1, h2, h3, h4, h5]
          · simp [h0, h1, h2, h3, h4]
        · simp [h0, h1, h2, h3]
      · simp [h0, h1, h2]
    · simp [h0, h1]
  · simp [h0]
theorem guard6 : Try.prog.eqGuardType Try.prog.depth 69 = false := by kernel_rfl
end Go.Proofs.Ytngbddmbmkphcaa
namespace Go.Proofs.Ytngbddmbmkphcaa.Tr
theorem getD_get' (xs : List Int) (j : Nat) (h : j < xs.length) : xs.getD j 0 = xs[j] := by simp [List.getD_eq_getElem?_getD, List.getElem?_eq_getElem h]
def isA (x : Int) : Bool := decide (0 ≤ x) && decide (x ≤ 63)
def okU (xs : List Int) : Bool := decide (xs.length ≤ 60) && xs.all isA
/-- the index of the last use of a below n, or -1 -/
def lastAt (xs : List Int) (a : Int) : Nat → Int
  | 0 => -1
  | n + 1 => if xs.getD n 0 = a then (n : Int) else lastAt xs a n
def gapAt (xs : List Int) (i : Nat) : Int := let l := lastAt xs (xs.getD i 0) i; if l < 0 then 0 else (i : Int) - l
/-- the index of the next use from k on, m places being left, or -1 -/
def nextFrom (xs : List Int) (a : Int) : Nat → Nat → Int
  | _, 0 => -1
  | k, m + 1 => if xs.getD k 0 = a then (k : Int) else nextFrom xs a (k + 1) m
def nextAt (xs : List Int) (i : Nat) : Int := nextFrom xs (xs.getD i 0) (i + 1) (xs.length - (i + 1))
/-- what f tells of the first n places -/
def told (f : Nat → Int) (n : Nat) : List Int := (List.range n).map f
theorem told_length (f : Nat → Int) (n : Nat) : (told f n).length = n := by simp [told]
theorem told_succ (f : Nat → Int) (n : Nat) : told f (n + 1) = told f n ++ [f n] := by simp [told, List.range_succ]
/-- a number into a rising list -/
def put : List Int → Int → List Int
  | [], n => [n]
  | x :: s, n => if x < n then x :: put s n else if x = n then x :: s else n :: x :: s
def Up (s : List Int) : Prop := s.Pairwise (· < ·)
theorem mem_put (s : List Int) (n y : Int) : y ∈ put s n ↔ y = n ∨ y ∈ s := by
  induction s with
  | nil => simp [put]
  | cons x s ih =>
    unfold put
    split
    · simp [ih]; constructor <;> (intro h; rcases h with h | h | h <;> simp [h])
    · split
      · rename_i h; subst h; simp
      · simp
theorem put_up {s : List Int} (n : Int) (h : Up s) : Up (put s n) := by
  induction s with
  | nil => simp [put, Up]
  | cons x s ih =>
    have h' := List.pairwise_cons.1 h
    unfold put
    split
    · rename_i hx
      refine List.pairwise_cons.2 ⟨fun y hy => ?_, ih h'.2⟩
      rcases (mem_put s n y).1 hy with rfl | hy
      · exact hx
      · exact h'.1 y hy
    · split
      · exact h
      · refine List.pairwise_cons.2 ⟨fun y hy => ?_, h⟩
        rcases List.mem_cons.1 hy with rfl | hy
        · omega
        · have := h'.1 y hy; omega
theorem up_ext {s t : List Int} (hs : Up s) (ht : Up t) (h : ∀ y, y ∈ s ↔ y ∈ t) : s = t := by
  induction s generalizing t with
  | nil =>
    cases t with
    | nil => rfl
    | cons b t => exact absurd ((h b).2 (by simp)) (by simp)
  | cons a s ih =>
    cases t with
    | nil => exact absurd ((h a).1 (by simp)) (by simp)
    | cons b t =>
      have hs' := List.pairwise_cons.1 hs
      have ht' := List.pairwise_cons.1 ht
      have e : a = b := by
        have h1 := (h a).1 (by simp)
        have h2 := (h b).2 (by simp)
        rcases List.mem_cons.1 h1 with h1 | h1
        · exact h1
        · rcases List.mem_cons.1 h2 with h2 | h2
          · exact h2.symm
          · have := hs'.1 b h2; have := ht'.1 a h1; omega
      subst e
      rw [ih hs'.2 ht'.2 fun y => ?_]
      constructor
      · intro hy
        have := hs'.1 y hy
        rcases List.mem_cons.1 ((h y).1 (by simp [hy])) with h3 | h3
        · omega
        · exact h3
      · intro hy
        have := ht'.1 y hy
        rcases List.mem_cons.1 ((h y).2 (by simp [hy])) with h3 | h3
        · omega
        · exact h3
def setP (xs : List Int) : List Int := xs.foldl put []
theorem setP_snoc (xs : List Int) (a : Int) : setP (xs ++ [a]) = put (setP xs) a := by simp [setP]
theorem foldl_put_up (xs s : List Int) (h : Up s) : Up (xs.foldl put s) := by
  induction xs generalizing s with
  | nil => exact h
  | cons x xs ih => exact ih _ (put_up x h)
theorem setP_up (xs : List Int) : Up (setP xs) := foldl_put_up xs [] (by simp [Up])
theorem mem_foldl_put (xs s : List Int) (y : Int) : y ∈ xs.foldl put s ↔ y ∈ xs ∨ y ∈ s := by
  induction xs generalizing s with
  | nil => simp
  | cons x xs ih =>
    rw [List.foldl_cons, ih, mem_put, List.mem_cons]
    constructor
    · rintro (h | h | h) <;> simp [h]
    · rintro ((h | h) | h) <;> simp [h]
theorem mem_setP (xs : List Int) (y : Int) : y ∈ setP xs ↔ y ∈ xs := by simp [setP, mem_foldl_put]
theorem setP_congr {xs ys : List Int} (h : ∀ y, y ∈ xs ↔ y ∈ ys) : setP xs = setP ys :=
  up_ext (setP_up _) (setP_up _) fun y => by rw [mem_setP, mem_setP, h]
theorem put_length (s : List Int) (n : Int) : (put s n).length ≤ s.length + 1 := by
  induction s with
  | nil => simp [put]
  | cons x s ih => unfold put; split <;> (try split) <;> simp <;> omega
theorem foldl_put_length (xs s : List Int) : (xs.foldl put s).length ≤ s.length + xs.length := by
  induction xs generalizing s with
  | nil => simp
  | cons x xs ih => have := ih (put s x); have := put_length s x; simp only [List.foldl_cons, List.length_cons]; omega
theorem setP_length (xs : List Int) : (setP xs).length ≤ xs.length := by have := foldl_put_length xs []; simpa [setP] using this
/-- how many are less -/
def below (s : List Int) (n : Int) : Nat := s.countP (fun x => decide (x < n))
theorem below_le (s : List Int) (n : Int) : below s n ≤ s.length := List.countP_le_length
theorem below_cons (x : Int) (s : List Int) (n : Int) : below (x :: s) n = below s n + if x < n then 1 else 0 := by simp [below, List.countP_cons]
theorem below_zero {s : List Int} {n : Int} (h : ∀ y ∈ s, ¬ y < n) : below s n = 0 := by
  unfold below; rw [List.countP_eq_zero]; intro y hy; simpa using h y hy
theorem put_new {s : List Int} {n : Int} (h : Up s) (hn : n ∉ s) : put s n = s.take (below s n) ++ n :: s.drop (below s n) := by
  induction s with
  | nil => simp [put, below]
  | cons x s ih =>
    have h' := List.pairwise_cons.1 h
    rw [below_cons]
    unfold put
    split
    · rw [ih h'.2 (fun h => hn (by simp [h]))]; simp
    · split
      · rename_i e; exact absurd (by simp [e]) hn
      · rw [below_zero fun y hy => by have := h'.1 y hy; omega]; simp
theorem put_old {s : List Int} {n : Int} (h : Up s) (hn : n ∈ s) : put s n = s :=
  up_ext (put_up n h) h fun y => by rw [mem_put]; constructor; (intro h; rcases h with rfl | h; exact hn; exact h); (intro h; exact .inr h)
/-- what the model's insertion holds after j elements, and whether the number is placed -/
def putK (s : List Int) (n : Int) : Nat → List Int × Bool
  | 0 => ([], false)
  | j + 1 =>
    let p := putK s n j
    let x := s.getD j 0
    if p.2 = false ∧ n ≤ x then (if n < x then p.1 ++ [n, x] else p.1 ++ [x], true) else (p.1 ++ [x], p.2)
theorem putK_false (s : List Int) (n : Int) (j : Nat) (hj : j ≤ s.length) (h : (putK s n j).2 = false) : (putK s n j).1 = s.take j ∧ ∀ y ∈ s.take j, y < n := by
  induction j with
  | zero => simp [putK]
  | succ j ih =>
    simp only [putK] at h ⊢
    split at h
    · simp at h
    · rename_i hc
      rw [if_neg hc]
      have ih := ih (by omega) h
      have hx : s.getD j 0 = s[j] := by simp [List.getD_eq_getElem?_getD, List.getElem?_eq_getElem (show j < s.length by omega)]
      rw [List.take_succ_eq_append_getElem (by omega), ih.1, hx]
      refine ⟨rfl, fun y hy => ?_⟩
      rcases List.mem_append.1 hy with hy | hy
      · exact ih.2 y hy
      · simp at hy; subst hy; rw [hx] at hc
        have : ¬ (n ≤ s[j]) := fun hle => hc ⟨h, hle⟩
        omega
theorem put_append_lt (a b : List Int) (n : Int) (h : ∀ y ∈ a, y < n) : put (a ++ b) n = a ++ put b n := by
  induction a with
  | nil => rfl
  | cons x a ih =>
    rw [List.cons_append, put, if_pos (h x (by simp)), ih fun y hy => h y (by simp [hy])]; rfl
theorem putK_true (s : List Int) (n : Int) (j : Nat) (hj : j ≤ s.length) (h : (putK s n j).2 = true) : (putK s n j).1 = put (s.take j) n := by
  induction j with
  | zero => simp [putK] at h
  | succ j ih =>
    have hx : s.getD j 0 = s[j] := by simp [List.getD_eq_getElem?_getD, List.getElem?_eq_getElem (show j < s.length by omega)]
    simp only [putK] at h ⊢
    rw [List.take_succ_eq_append_getElem (show j < s.length by omega)]
    by_cases hc : (putK s n j).2 = false ∧ n ≤ s.getD j 0
    · rw [if_pos hc]
      have hf := putK_false s n j (by omega) hc.1
      rw [put_append_lt _ _ _ hf.2, hf.1]
      rw [hx] at hc ⊢
      have hp : put [s[j]] n = if n < s[j] then [n, s[j]] else [s[j]] := by
        have h0 : put [s[j]] n = if s[j] < n then s[j] :: put [] n else if s[j] = n then s[j] :: [] else n :: s[j] :: [] := rfl
        rw [h0, if_neg (by omega)]
        by_cases e : s[j] = n
        · rw [if_pos e, if_neg (by omega)]
        · rw [if_neg e, if_pos (by omega)]
      rw [hp]
      show (if n < s[j] then s.take j ++ [n, s[j]] else s.take j ++ [s[j]]) = _
      split <;> rfl
    · rw [if_neg hc] at h ⊢
      have ih := ih (by omega) h
      rw [ih, hx]
      have key : ∀ (a : List Int) (x : Int), (∃ y ∈ a, n ≤ y) → put (a ++ [x]) n = put a n ++ [x] := by
        intro a x ⟨y, hy, hny⟩
        induction a with
        | nil => simp at hy
        | cons z a iha =>
          rw [List.cons_append]
          unfold put
          split
          · rename_i hz
            have hy' : y ∈ a := by rcases List.mem_cons.1 hy with rfl | hy; omega; exact hy
            rw [iha hy']; rfl
          · split <;> rfl
      refine (key _ _ ?_).symm
      exact Classical.byContradiction fun hno => by
        have hall : ∀ y ∈ s.take j, y < n := fun y hy => by
          apply Classical.byContradiction; intro hlt; exact hno ⟨y, hy, by omega⟩
        have : put (s.take j) n = s.take j ++ [n] := by
          have := put_append_lt (s.take j) [] n hall
          simpa [put] using this
        -- the placed number came behind an element that is not less
        have hex : ∀ k, k ≤ s.length → (putK s n k).2 = true → ∃ y ∈ s.take k, n ≤ y := by
          intro k
          induction k with
          | zero => intro _ h0; simp [putK] at h0
          | succ k ihk =>
            intro hk h0
            have hxk : s.getD k 0 = s[k] := by simp [List.getD_eq_getElem?_getD, List.getElem?_eq_getElem (show k < s.length by omega)]
            simp only [putK] at h0
            rw [List.take_succ_eq_append_getElem (show k < s.length by omega)]
            by_cases hck : (putK s n k).2 = false ∧ n ≤ s.getD k 0
            · exact ⟨s[k], List.mem_append_right _ (by simp), by rw [hxk] at hck; exact hck.2⟩
            · rw [if_neg hck] at h0
              obtain ⟨y, hy, hn⟩ := ihk (by omega) h0
              exact ⟨y, List.mem_append_left _ hy, hn⟩
        exact hno (hex j (by omega) h)
theorem putK_end (s : List Int) (n : Int) : (if (putK s n s.length).2 then (putK s n s.length).1 else (putK s n s.length).1 ++ [n]) = put s n := by
  cases h : (putK s n s.length).2
  · have hf := putK_false s n s.length (Nat.le_refl _) h
    rw [List.take_length] at hf
    have := put_append_lt s [] n hf.2
    simp only [List.append_nil] at this
    rw [this, hf.1]; simp [put]
  · have ht := putK_true s n s.length (Nat.le_refl _) h
    rw [List.take_length] at ht
    simpa using ht
theorem putK_length (s : List Int) (n : Int) (j : Nat) : (putK s n j).1.length ≤ j + 1 ∧ ((putK s n j).2 = false → (putK s n j).1.length = j) := by
  induction j with
  | zero => simp [putK]
  | succ j ih =>
    simp only [putK]
    split
    · rename_i hc; have := ih.2 hc.1; split <;> simp <;> omega
    · simp; refine ⟨by omega, fun h => by have := ih.2 h; omega⟩
end Go.Proofs.Ytngbddmbmkphcaa.Tr
namespace Go.Proofs.Ytngbddmbmkphcaa.Tr
open Go.RowKit
theorem isA_yes {x : Int} (h0 : 0 ≤ x) (h1 : x ≤ 63) : isA x = true := by simp only [isA, decide_eq_true h0, decide_eq_true h1]; rfl
theorem isA_low {x : Int} (h0 : ¬ 0 ≤ x) : isA x = false := by simp only [isA, decide_eq_false h0]; rfl
theorem isA_high {x : Int} (h1 : ¬ x ≤ 63) : isA x = false := by simp only [isA, decide_eq_false h1, Bool.and_false]
theorem isA_of {x : Int} (h : isA x = true) : 0 ≤ x ∧ x ≤ 63 := by simpa [isA] using h
theorem all_step (xs : List Int) (j : Nat) (h : j < xs.length) : (xs.take (j + 1)).all isA = ((xs.take j).all isA && isA (xs.getD j 0)) := by
  rw [List.take_succ_eq_append_getElem h, List.all_append, List.getD_eq_getElem?_getD, List.getElem?_eq_getElem h]
  simp
theorem all_no (xs : List Int) (j : Nat) (h : j < xs.length) (hn : isA (xs.getD j 0) = false) : xs.all isA = false := by
  rw [List.all_eq_false]
  refine ⟨xs[j], List.getElem_mem h, ?_⟩
  rw [List.getD_eq_getElem?_getD, List.getElem?_eq_getElem h] at hn
  simpa using hn
theorem okU_no (xs : List Int) (j : Nat) (h : j < xs.length) (hn : isA (xs.getD j 0) = false) : okU xs = false := by
  unfold okU; rw [all_no xs j h hn, Bool.and_false]
theorem okU_end (xs : List Int) (h : (xs.take xs.length).all isA = true) : okU xs = decide (xs.length ≤ 60) := by
  unfold okU
  rw [List.take_length] at h
  rw [h, Bool.and_true]
theorem okU_len {xs : List Int} (h : okU xs = true) : xs.length ≤ 60 := by
  unfold okU at h; rw [Bool.and_eq_true] at h; exact of_decide_eq_true h.1
theorem okU_at {xs : List Int} (h : okU xs = true) (j : Nat) (hj : j < xs.length) : 0 ≤ xs.getD j 0 ∧ xs.getD j 0 ≤ 63 := by
  unfold okU at h
  rw [Bool.and_eq_true] at h
  have := List.all_eq_true.1 h.2 _ (List.getElem_mem hj)
  rw [List.getD_eq_getElem?_getD, List.getElem?_eq_getElem hj]
  exact isA_of this
theorem between_a (x : Int) (w : World) : Calls Try.prog 76 #[.int .i64 x, .int .i64 0, .int .i64 63] w (Bl (isA x) w) := by
  by_cases h0 : 0 ≤ x
  · by_cases h1 : x ≤ 63
    · rw [isA_yes h0 h1]
      go_enter Try.func76, Try.ntmps76
      go_wp2
      go_ret
      exact ⟨rfl, rfl⟩
    · rw [isA_high h1]
      go_enter Try.func76, Try.ntmps76
      go_wp2
      go_ret
      exact ⟨rfl, rfl⟩
  · rw [isA_low h0]
    go_enter Try.func76, Try.ntmps76
    go_wp2
    go_ret
    exact ⟨rfl, rfl⟩
theorem in_a (x : Int) (w : World) : Calls Try.prog 73 #[.int .i64 x, .int .i64 0, .int .i64 63] w (Bl (isA x) w) := by
  by_cases h0 : 0 ≤ x
  · by_cases h1 : x ≤ 63
    · rw [isA_yes h0 h1]
      go_enter Try.func73, Try.ntmps73
      go_wp2
      go_ret
      exact ⟨rfl, rfl⟩
    · rw [isA_high h1]
      go_enter Try.func73, Try.ntmps73
      go_wp2
      go_ret
      exact ⟨rfl, rfl⟩
  · rw [isA_low h0]
    go_enter Try.func73, Try.ntmps73
    go_wp2
    go_ret
    exact ⟨rfl, rfl⟩
theorem addr_i (x : Int) (w : World) : Calls Try.prog 66 #[.int .i64 x] w (Bl (isA x) w) := by
  have hI := Lib.hid (between_a x w)
  generalize isA x = b at *
  go_enter Try.func66, Try.ntmps66
  go_wp2_with (go_at_call 76; refine hI.out.mono ?_; rintro e w' ⟨rfl, rfl⟩)
  go_ret
  exact ⟨rfl, rfl⟩
theorem addr_s (x : Int) (w : World) : Calls Try.prog 60 #[.int .i64 x] w (Bl (isA x) w) := by
  have hI := Lib.hid (in_a x w)
  generalize isA x = b at *
  go_enter Try.func60, Try.ntmps60
  go_wp2_with (go_at_call 73; refine hI.out.mono ?_; rintro e w' ⟨rfl, rfl⟩)
  go_ret
  exact ⟨rfl, rfl⟩
end Go.Proofs.Ytngbddmbmkphcaa.Tr
namespace Go.Proofs.Ytngbddmbmkphcaa
open Go.RowKit
theorem infoI : (Try.prog.info? 2).map (fun i => (i.zero, i.size, i.bytes)) = some (some (.int .i64 0), 1, 8) := by kernel_rfl
theorem wpList_app {ops : Array Oper} {rest : List Oper} {o : Oper} {a : Act} {Q : Exit → Act → World → Prop} (wr : World) (hgd : o.guard = none) (s x : Operand)
    (ho : o.op = .call { callee := .builtin .append, args := #[s, x], argTypes := #[23, 23] })
    (B : Nat) (v : Value) (xs : List Int) (u : Int) (hs : a.eval s = v) (hx : a.eval x = .slice (some ⟨wr.heap.size, 0, none⟩) 1 1) (hown : Own wr B v xs)
    (hlen : xs.length + 1 ≤ 1000000000) (hB : B ≤ wr.heap.size)
    (h : ∀ v' w', Own w' B v' (xs ++ [u]) → Below B wr w' → wpList Try.prog ops Q rest (a.put o.dst v') w') :
    wpList Try.prog ops Q (o :: rest) a (wr.alloc (.cells #[.int .i64 u] 2)) := by
  obtain ⟨i0, hi, hz0, hz1, hz2⟩ := info_parts infoI
  refine wpList_append_own _ hgd s x 23 ho B 2 i0 (.int .i64 0) 1 8 Try.underlying23 hi hz0 hz1 hz2 rfl (by decide) v xs.length (xs.map (Value.int .i64)) hs (World.ownsRow.alloc hown _)
    ⟨wr.heap.size, 0, none⟩ 1 1 [.int .i64 u] hx rfl ?_ ?_ ?_ ?_ ?_ ?_
  · intro j u' hj
    match j, hj with
    | 0, hj => simp at hj; subst hj; simp [Addr.add]
  · intro u' hu; simp at hu; subst hu; rfl
  · unfold maxLen; omega
  · omega
  · simp; omega
  · intro v' w' hown' hgrow _
    refine h v' w' ?_ ?_
    · show World.ownsRow _ _ _ _ _ (xs ++ [u]).length _
      rw [List.length_append, List.map_append]
      exact hown'
    · exact ((Below.refl B wr).alloc hB _).grown hgrow (by simp; omega) (fun k hk => (Own.block hown k hk).1)
theorem wpList_make0 {ops : Array Oper} {rest : List Oper} {o : Oper} {a : Act} {Q : Exit → Act → World → Prop} (w : World) (hgd : o.guard = none) (l c : Operand)
    (ho : o.op = Op.makeSlice 23 l c) (n : Nat) (kl kc : IntKind) (C : Int) (hl : a.eval l = .int kl 0) (hc : a.eval c = .int kc C) (hC : C = (n : Int)) (hn : n ≤ 1000000000)
    (h : ∀ v' w', Own w' w.heap.size v' [] → Below w.heap.size w w' → w.heap.size ≤ w'.heap.size → wpList Try.prog ops Q rest (a.put o.dst v') w') :
    wpList Try.prog ops Q (o :: rest) a w := by
  obtain ⟨i0, hi, hz0, hz1, hz2⟩ := info_parts infoI
  refine wpList_make_own w hgd l c 23 ho w.heap.size 2 i0 (.int .i64 0) 1 Try.underlying23 hi hz0 hz1 kl kc C n hl hc hC (by rw [hz2]; omega) (by unfold maxLen; omega) (Nat.le_refl _) ?_
  intro w' hown hgrow
  exact h _ w' hown ((Below.refl _ _).grown hgrow (Nat.le_refl _) (by simp)) hgrow.size
end Go.Proofs.Ytngbddmbmkphcaa
namespace Go.Proofs.Ytngbddmbmkphcaa.Tr
/-- Runs: one more item. -/
def rstep (acc : List (Int × Nat)) (x : Int) : List (Int × Nat) :=
  match acc.getLast? with
  | none => [(x, 1)]
  | some (y, c) => if y = x then acc.dropLast ++ [(y, c + 1)] else acc ++ [(x, 1)]
def runsP (xs : List Int) : List (Int × Nat) := xs.foldl rstep []
theorem runsP_snoc (xs : List Int) (x : Int) : runsP (xs ++ [x]) = rstep (runsP xs) x := by simp [runsP]
theorem rstep_nil (x : Int) : rstep [] x = [(x, 1)] := rfl
theorem rstep_same (acc : List (Int × Nat)) (x : Int) (c : Nat) : rstep (acc ++ [(x, c)]) x = acc ++ [(x, c + 1)] := by simp [rstep]
theorem rstep_new (acc : List (Int × Nat)) (x y : Int) (c : Nat) (h : y ≠ x) : rstep (acc ++ [(y, c)]) x = acc ++ [(y, c), (x, 1)] := by simp [rstep, h]
theorem snoc_cases {α} (l : List α) : l = [] ∨ ∃ a b, l = a ++ [b] := by
  rcases List.eq_nil_or_concat l with h | ⟨a, b, h⟩
  · exact .inl h
  · exact .inr ⟨a, b, by simpa using h⟩
/-- all that is known of runs -/
def Runs (xs : List Int) (rs : List (Int × Nat)) : Prop :=
  rs.flatMap (fun r => List.replicate r.2 r.1) = xs ∧ (∀ r ∈ rs, 1 ≤ r.2) ∧ ∀ a y c, rs = a ++ [(y, c)] → xs.getLast? = some y
theorem Runs.flat {xs : List Int} {rs : List (Int × Nat)} (h : Runs xs rs) : rs.flatMap (fun r => List.replicate r.2 r.1) = xs := h.1
theorem Runs.pos {xs : List Int} {rs : List (Int × Nat)} (h : Runs xs rs) : ∀ r ∈ rs, 1 ≤ r.2 := h.2.1
theorem Runs.last {xs : List Int} {rs : List (Int × Nat)} (h : Runs xs rs) : ∀ a y c, rs = a ++ [(y, c)] → xs.getLast? = some y := h.2.2
theorem runs_of (xs : List Int) : Runs xs (runsP xs) := by
  have : ∀ n, ∀ xs : List Int, xs.length = n → Runs xs (runsP xs) := by
    intro n
    induction n with
    | zero => intro xs h; obtain rfl := List.eq_nil_of_length_eq_zero h; exact ⟨rfl, by simp [runsP], by simp [runsP]⟩
    | succ n ih =>
      intro xs h
      rcases snoc_cases xs with rfl | ⟨ys, x, rfl⟩
      · simp at h
      · have h1 := ih ys (by simpa using h)
        rw [runsP_snoc]
        rcases snoc_cases (runsP ys) with h2 | ⟨a, ⟨y, c⟩, h2⟩
        · rw [h2] at h1 ⊢
          have : ys = [] := by simpa using h1.flat.symm
          subst this
          exact ⟨by simp [rstep_nil], by simp [rstep_nil], by
            intro a y c h; rw [rstep_nil] at h
            cases a with
            | nil => simp at h; simp [h.1]
            | cons b a => simp at h⟩
        · rw [h2] at h1 ⊢
          by_cases e : y = x
          · subst e
            rw [rstep_same]
            refine ⟨?_, ?_, ?_⟩
            · have := h1.flat
              simp only [List.flatMap_append, List.flatMap_cons, List.flatMap_nil, List.append_nil] at this ⊢
              rw [← this, List.replicate_succ', List.append_assoc]
            · intro r hr
              rcases List.mem_append.1 hr with hr | hr
              · exact h1.pos r (by simp [hr])
              · simp at hr; subst hr; simp
            · intro a' y' c' h
              have := List.append_inj_right' h rfl
              simp at this; simp [this.1]
          · rw [rstep_new _ _ _ _ e]
            refine ⟨?_, ?_, ?_⟩
            · have := h1.flat
              simp only [List.flatMap_append, List.flatMap_cons, List.flatMap_nil, List.append_nil] at this ⊢
              rw [← this]; simp
            · intro r hr
              rcases List.mem_append.1 hr with hr | hr
              · exact h1.pos r (by simp [hr])
              · simp at hr
                rcases hr with rfl | rfl
                · exact h1.pos _ (by simp)
                · simp
            · intro a' y' c' h
              have h' : (a ++ [(y, c)]) ++ [(x, 1)] = a' ++ [(y', c')] := by simpa using h
              have := List.append_inj_right' h' rfl
              simp at this; simp [this.1]
  exact this _ xs rfl
/-- neighbours part -/
theorem runs_part (xs : List Int) : ∀ a r1 r2 b, runsP xs = a ++ r1 :: r2 :: b → r1.1 ≠ r2.1 := by
  have : ∀ n, ∀ xs : List Int, xs.length = n → ∀ a r1 r2 b, runsP xs = a ++ r1 :: r2 :: b → r1.1 ≠ r2.1 := by
    intro n
    induction n with
    | zero => intro xs h a r1 r2 b; obtain rfl := List.eq_nil_of_length_eq_zero h; simp [runsP]
    | succ n ih =>
      intro xs h a r1 r2 b hr
      rcases snoc_cases xs with rfl | ⟨ys, x, rfl⟩
      · simp at h
      · have h1 := ih ys (by simpa using h)
        rw [runsP_snoc] at hr
        rcases snoc_cases (runsP ys) with h2 | ⟨p, ⟨y, c⟩, h2⟩
        · rw [h2, rstep_nil] at hr
          have := congrArg List.length hr; simp at this; omega
        · rw [h2] at hr h1
          by_cases e : y = x
          · subst e
            rw [rstep_same] at hr
            rcases snoc_cases b with rfl | ⟨b', rl, rfl⟩
            · have h' : p ++ [(y, c + 1)] = (a ++ [r1]) ++ [r2] := by simpa using hr
              have h3 := List.append_inj_right' h' rfl
              have h4 := List.append_inj_left' h' rfl
              simp at h3
              have := h1 a r1 (y, c) [] (by rw [h4]; simp)
              rw [← h3]; exact this
            · have h' : p ++ [(y, c + 1)] = (a ++ r1 :: r2 :: b') ++ [rl] := by simpa using hr
              have h4 := List.append_inj_left' h' rfl
              exact h1 a r1 r2 (b' ++ [(y, c)]) (by rw [h4]; simp)
          · rw [rstep_new _ _ _ _ e] at hr
            rcases snoc_cases b with rfl | ⟨b', rl, rfl⟩
            · have h' : (p ++ [(y, c)]) ++ [(x, 1)] = (a ++ [r1]) ++ [r2] := by simpa using hr
              have h3 := List.append_inj_right' h' rfl
              have h4 := List.append_inj_left' h' rfl
              have h5 := List.append_inj_right' h4 rfl
              simp at h3 h5
              rw [← h3, ← h5]; exact e
            · have h' : (p ++ [(y, c)]) ++ [(x, 1)] = (a ++ r1 :: r2 :: b') ++ [rl] := by simpa using hr
              have h4 := List.append_inj_left' h' rfl
              exact h1 a r1 r2 b' h4
  exact this _ xs rfl
end Go.Proofs.Ytngbddmbmkphcaa.Tr
namespace Go.Proofs.Ytngbddmbmkphcaa.Tr
theorem runs_sorted : ∀ n, ∀ xs : List Int, xs.length = n → xs.Pairwise (· ≤ ·) →
    Up ((runsP xs).map (·.1)) ∧ (∀ r ∈ runsP xs, r.2 = xs.count r.1) ∧ ∀ y, y ∈ (runsP xs).map (·.1) ↔ y ∈ xs := by
  intro n
  induction n with
  | zero => intro xs h _; obtain rfl := List.eq_nil_of_length_eq_zero h; simp [runsP, Up]
  | succ n ih =>
    intro xs h hp
    rcases snoc_cases xs with rfl | ⟨ys, x, rfl⟩
    · simp at h
    · have hp' := List.pairwise_append.1 hp
      obtain ⟨h1, h2, h3⟩ := ih ys (by simpa using h) hp'.1
      have hle : ∀ y ∈ ys, y ≤ x := fun y hy => hp'.2.2 y hy x (by simp)
      have hl := (runs_of ys).last
      rw [runsP_snoc]
      rcases snoc_cases (runsP ys) with h4 | ⟨p, ⟨y, c⟩, h4⟩
      · rw [h4] at h3 ⊢
        have : ys = [] := by
          cases ys with
          | nil => rfl
          | cons a t => have := (h3 a).2 (by simp); simp at this
        subst this
        simp [rstep_nil, Up]
      · rw [h4] at h1 h2 h3 ⊢
        by_cases e : y = x
        · subst e
          rw [rstep_same]
          rw [List.map_append] at h1 h3 ⊢
          refine ⟨h1, fun r hr => ?_, fun z => ?_⟩
          · rcases List.mem_append.1 hr with hr | hr
            · have h5 := h2 r (by simp [hr])
              have : r.1 < y := (List.pairwise_append.1 h1).2.2 r.1 (List.mem_map_of_mem hr) y (by simp)
              rw [List.count_append, h5, List.count_cons, List.count_nil]
              have hne : (y == r.1) = false := by simp; omega
              rw [hne]; simp
            · simp at hr; subst hr
              have h5 := h2 (y, c) (by simp)
              rw [List.count_append]; simp at h5 ⊢; exact h5
          · rw [List.mem_append, List.mem_append, ← h3 z, List.mem_append]; simp
        · rw [rstep_new _ _ _ _ e]
          have hyx : y < x := by
            have := hle y ((h3 y).1 (by simp)); omega
          have hnx : ∀ z ∈ ys, z < x := by
            intro z hz
            have hz' := (h3 z).2 hz
            rw [List.map_append, List.mem_append] at hz'
            rcases hz' with hz' | hz'
            · rw [List.map_append] at h1
              have := (List.pairwise_append.1 h1).2.2 z hz' y (by simp); omega
            · simp at hz'; omega
          have e2 : p ++ [(y, c), (x, 1)] = (p ++ [(y, c)]) ++ [(x, 1)] := by simp
          rw [e2]
          refine ⟨?_, fun r hr => ?_, fun z => ?_⟩
          · rw [List.map_append]
            refine List.pairwise_append.2 ⟨h1, by simp, fun a ha b hb => ?_⟩
            simp at hb; subst hb
            exact hnx a ((h3 a).1 ha)
          · rcases List.mem_append.1 hr with hr | hr
            · rw [List.count_append, h2 r hr, List.count_cons, List.count_nil]
              have := hnx r.1 ((h3 r.1).1 (List.mem_map_of_mem hr))
              have hne : (x == r.1) = false := by simp; omega
              rw [hne]; simp
            · simp at hr; subst hr
              rw [List.count_append]
              have : ys.count x = 0 := List.count_eq_zero.2 fun hx => by have := hnx x hx; omega
              simp [this]
          · rw [List.map_append, List.mem_append, h3 z]; simp
def countsP (xs : List Int) : List Int := (setP xs).map fun a => (xs.count a : Int)
theorem counts_runs (xs ys : List Int) (hp : ys.Perm xs) (hs : ys.Pairwise (· ≤ ·)) : (runsP ys).map (fun r => (r.2 : Int)) = countsP xs := by
  obtain ⟨h1, h2, h3⟩ := runs_sorted _ ys rfl hs
  have e : (runsP ys).map (·.1) = setP xs := up_ext h1 (setP_up xs) fun y => by rw [h3, mem_setP, hp.mem_iff]
  unfold countsP
  rw [← e, List.map_map]
  refine List.map_congr_left fun r hr => ?_
  show ((r.2 : Nat) : Int) = ((xs.count r.1 : Nat) : Int)
  rw [h2 r hr, hp.count_eq]
/-- The different addresses in the order of their first uses, after j uses. -/
def seenK (xs : List Int) : Nat → List Int
  | 0 => []
  | j + 1 => if xs.getD j 0 ∈ seenK xs j then seenK xs j else seenK xs j ++ [xs.getD j 0]
def canonAt (xs : List Int) (i : Nat) : Int := ((seenK xs i).idxOf (xs.getD i 0) : Nat)
theorem getD_get (xs : List Int) (j : Nat) (h : j < xs.length) : xs.getD j 0 = xs[j] := by simp [List.getD_eq_getElem?_getD, List.getElem?_eq_getElem h]
theorem mem_seenK (xs : List Int) (j : Nat) (hj : j ≤ xs.length) (y : Int) : y ∈ seenK xs j ↔ y ∈ xs.take j := by
  induction j with
  | zero => simp [seenK]
  | succ j ih =>
    have ih := ih (by omega)
    rw [List.take_succ_eq_append_getElem (by omega), List.mem_append, ← ih, seenK, getD_get xs j (by omega)]
    split
    · rename_i h
      constructor
      · intro h; exact .inl h
      · rintro (h' | h')
        · exact h'
        · simp at h'; rw [h']; exact h
    · simp
theorem seenK_nodup (xs : List Int) (j : Nat) : (seenK xs j).Nodup := by
  induction j with
  | zero => exact List.nodup_nil
  | succ j ih =>
    rw [seenK]; split
    · exact ih
    · rename_i h
      rw [List.nodup_append]
      exact ⟨ih, by simp, fun a ha b hb => by simp at hb; subst hb; intro e; subst e; exact h ha⟩
theorem seenK_length (xs : List Int) (j : Nat) : (seenK xs j).length ≤ j := by
  induction j with
  | zero => simp [seenK]
  | succ j ih =>
    rw [seenK]; split
    · omega
    · rw [List.length_append]; simp; omega
theorem up_nodup {s : List Int} (h : Up s) : s.Nodup := by
  refine List.Pairwise.imp (fun {a b} hab => ?_) h
  omega
theorem seenK_set (xs : List Int) (j : Nat) (hj : j ≤ xs.length) : (seenK xs j).length = (setP (xs.take j)).length := by
  have hp : (seenK xs j).Perm (setP (xs.take j)) := by
    refine (List.perm_ext_iff_of_nodup (seenK_nodup xs j) (up_nodup (setP_up _))).2 fun a => ?_
    rw [mem_seenK xs j hj, mem_setP]
  exact hp.length_eq
theorem seenK_prefix (xs : List Int) (i j : Nat) (h : i ≤ j) : ∃ t, seenK xs j = seenK xs i ++ t := by
  induction j with
  | zero => obtain rfl : i = 0 := by omega
            exact ⟨[], by simp⟩
  | succ j ih =>
    by_cases e : i = j + 1
    · subst e; exact ⟨[], by simp⟩
    · obtain ⟨t, ht⟩ := ih (by omega)
      rw [seenK]
      split
      · exact ⟨t, ht⟩
      · exact ⟨t ++ [xs.getD j 0], by rw [ht, List.append_assoc]⟩
theorem idxOf_app (a b : List Int) (x : Int) (h : x ∉ a) : (a ++ x :: b).idxOf x = a.length := by
  induction a with
  | nil => simp
  | cons y a ih =>
    have hy : ¬ (y = x) := fun e => h (by simp [e])
    rw [List.cons_append, List.idxOf_cons, ih fun hm => h (by simp [hm])]
    have : (y == x) = false := by simpa using hy
    rw [this]; rfl
/-- The index of an address in the order of first uses is how many different ones were used before its first use. -/
theorem canon_rank (xs : List Int) (i f : Nat) (hi : i < xs.length) (hf : f ≤ i) (hfx : xs.getD f 0 = xs.getD i 0) (hmin : ∀ k, k < f → xs.getD k 0 ≠ xs.getD i 0) :
    canonAt xs i = ((setP (xs.take f)).length : Nat) := by
  unfold canonAt
  rw [← seenK_set xs f (by omega)]
  have hnot : xs.getD i 0 ∉ seenK xs f := by
    rw [mem_seenK xs f (by omega)]
    intro hm
    obtain ⟨k, hk, e⟩ := List.mem_iff_getElem.1 hm
    have hk' : k < f := by simp at hk; omega
    refine hmin k hk' ?_
    rw [getD_get xs k (by omega), ← e, List.getElem_take]
  by_cases e : f = i
  · subst e
    congr 1
    exact List.idxOf_eq_length hnot
  · obtain ⟨t, ht⟩ := seenK_prefix xs (f + 1) i (by omega)
    rw [seenK, hfx, if_neg hnot] at ht
    rw [ht, List.append_assoc]
    congr 1
    exact idxOf_app _ _ _ hnot
/-- The phases after j uses: where they begin, and what the last one has. -/
def phK (xs : List Int) (k : Int) : Nat → List Int × List Int
  | 0 => ([], [])
  | j + 1 =>
    let p := phK xs k j
    let a := xs.getD j 0
    if j = 0 ∨ k < ((put p.2 a).length : Nat) then (p.1 ++ [(j : Int)], [a]) else (p.1, put p.2 a)
theorem phK_up (xs : List Int) (k : Int) (j : Nat) : Up (phK xs k j).2 ∧ (phK xs k j).1.length ≤ j ∧ (phK xs k j).2.length ≤ j := by
  induction j with
  | zero => simp [phK, Up]
  | succ j ih =>
    simp only [phK]
    split
    · refine ⟨by simp [Up], by simp; omega, by simp⟩
    · have := put_length (phK xs k j).2 (xs.getD j 0)
      exact ⟨put_up _ ih.1, by show (phK xs k j).1.length ≤ j + 1; omega, by show (put (phK xs k j).2 (xs.getD j 0)).length ≤ j + 1; omega⟩
def onlyP (xs set : List Int) : List Int := xs.filter fun a => set.contains a
theorem only_snoc (xs set : List Int) (a : Int) : onlyP (xs ++ [a]) set = onlyP xs set ++ if set.contains a then [a] else [] := by
  unfold onlyP; rw [List.filter_append]; congr 1; rw [List.filter_cons]; cases set.contains a <;> rfl
/-- rises within addresses, the first j -/
def risesK (s : List Int) (j : Nat) : Bool := (List.range j).all fun i => isA (s.getD i 0) && (decide (i = 0) || decide (s.getD (i - 1) 0 < s.getD i 0))
theorem rises_succ (s : List Int) (j : Nat) : risesK s (j + 1) = (risesK s j && (isA (s.getD j 0) && (decide (j = 0) || decide (s.getD (j - 1) 0 < s.getD j 0)))) := by
  simp [risesK, List.range_succ]
end Go.Proofs.Ytngbddmbmkphcaa.Tr
