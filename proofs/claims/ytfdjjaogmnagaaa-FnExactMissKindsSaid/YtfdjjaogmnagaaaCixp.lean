/- Both SpanOf: the program's list of all exclusive ors and its set, the model's list without doubles. -/
import Derived.Test.YtfdjjaogmnagaaaCixr
import Derived.Test.YtfdjjaogmnagaaaPlainIx3
import Derived.Test.YtfdjjaogmnagaaaCapkp
import Derived.Test.YtfdjjaogmnagaaaCsetI
import Derived.WalkMore
namespace Go.Proofs.Ytfdjjaogmnagaaa.Ix
open Go.RowKit Tr Bt
theorem own_some {w : World} {B : Nat} {v : Value} {xs : List Int} (h : Own w B v xs) (h0 : 0 < xs.length) : ∃ g c, v = .slice (some ⟨g, 0, none⟩) xs.length c ∧ B ≤ g ∧ Row w (some ⟨g, 0, none⟩) xs := by
  rcases h.cases with ⟨_, rfl⟩ | ⟨g, c, rfl, hB, hg, _, hc, _⟩
  · simp at h0
  · exact ⟨g, c, rfl, hB, fun i hi => ⟨g, 0, rfl, by rw [Nat.zero_add]; exact hc i hi, hg⟩⟩
theorem spanV_no {xs : List Int} (h : okX xs = false) : spanV xs = [] := by unfold spanV; rw [h]; rfl
theorem spanV_yes {ns : List Nat} (h : okX (castL ns) = true) : spanV (castL ns) = spanS (pad ns) := by unfold spanV; rw [h, pad_fun]; rfl
theorem alloc_le (w : World) (o : Obj) : w.heap.size ≤ (w.alloc o).heap.size := by
  show _ ≤ (w.heap.push o).size
  rw [Array.size_push]; omega
theorem lit0 (w : World) : Own (w.alloc (.cells #[.int .i64 0] 2)) w.heap.size (.slice (some ⟨w.heap.size, 0, none⟩) 1 1) [0] := Own.lit w 0
end Go.Proofs.Ytfdjjaogmnagaaa.Ix
