/- A store at a key that is there, into the very map that a loop ranges over: the loop stays where it is. -/
import Derived.Test.YtfdjjaogmnagaaaCBase
import Derived.Maps.RangeWalk
import Derived.Maps.OwnOps
import Derived.Deep.RegionLaw
namespace Go.Proofs.Ytfdjjaogmnagaaa.Mp
open Go.ChangeMaps Go.MapKept Go.WideShapes
open Go.WideElems (Fit rd rg pl rd_key rd_val rg_of other_key rd_mk)
open Go.Maps (Keyed)
theorem count_born (q : Nat → Bool) (l : List MapEntry) (j : Nat) (e0 e1 : MapEntry) (hj : l[j]? = some e0) (hb : e1.born = e0.born) : ((l.set j e1).filter (fun e => q e.born)).length = (l.filter (fun e => q e.born)).length := by
  have h : ∀ m : List MapEntry, (m.filter (fun e => q e.born)).length = (m.map (·.born)).countP q := fun m => by rw [← List.countP_eq_length_filter, List.countP_map]; rfl
  rw [h, h, List.map_set]
  congr 1
  refine List.ext_getElem? fun i => ?_
  rw [List.getElem?_set]
  split
  · rename_i hij
    subst hij
    have hl : j < (l.map (·.born)).length := by simpa using (List.getElem?_eq_some_iff.1 hj).1
    rw [if_pos hl, List.getElem?_map, hj, hb]; rfl
  · rfl
section
variable {H : Type} {P : Program} {k : TypeId} {R : Value → Option (DataW H × List MemPlace)} {w : World} {b r n : Nat} {D : DataW H} {left : Lit → Bool} {cnt : Nat}
theorem ranges_store {t e : TypeId} (h : w.ranges P k R b r n D left cnt) (K : Keyed P k) (ht : P.underlying t = some (.map k e)) (hn : n < maxLen) {key val : Value} {kl : Lit} {d : DataW H} {ps : List MemPlace}
    (hkey : keyOf P k key = some kl) (hv : R val = some (d, ps)) (hin : Maps.has D kl = true) :
    ∃ w', (Instr.mapUpdate t (.map (some b)) key val).run P w = .ok () w' ∧ w'.ranges P k R b r n (D.put kl d) left cnt ∧ w.grownBy w' (some b) ∧ w'.heap.size = w.heap.size := by
  have hne := h.ne
  obtain ⟨es, clock, since, seen, c0, hb, F, hs, rfl, hr, hold, rfl, hl1, hl2, hsc, hsk⟩ := h
  obtain ⟨es', clock', hrun, F', hput, _⟩ := Maps.fit_store (R' := R) K ht hb F (Nat.lt_of_le_of_lt hs hn) (fun _ _ _ _ hz => hz) hkey hv
  rcases K.find w hkey es.toList F.keys with ⟨h1, h2⟩ | ⟨j, e0, h1, h2, h3⟩
  · exfalso
    obtain ⟨p, hp, hpk⟩ := List.any_eq_true.1 hin
    obtain ⟨x, hx, rfl⟩ := List.mem_map.1 (mem_sorted.1 hp)
    obtain ⟨y, hy⟩ := F.reads x hx
    rw [rg_of hy] at hpk
    exact h2 x hx (K.inj ((WideAt.sameKey_eq hpk) ▸ rd_key hy) hkey)
  · have hj : es[j]? = some e0 := by simpa using h2
    have hjl : j < es.toList.length := (List.getElem?_eq_some_iff.1 h2).1
    have hrun2 : (Instr.mapUpdate t (.map (some b)) key val).run P w = .ok () (setBlock w b (.map (es.modify j (fun e' => { e' with key := key, val := val })) clock)) := by
      simp [Instr.mapUpdate, run_underlying ht, MapKept.run_getObj_map hb, K.check w false hkey, h1, hj, h3, K.stays w hkey, MapKept.run_setObj_map _ hb, Result.andThen, setBlock]
    have heq := hrun.symm.trans hrun2
    injection heq with _ hw
    have hblk : (setBlock w b (.map es' clock')).heap[b]? = (setBlock w b (.map (es.modify j (fun e' => { e' with key := key, val := val })) clock)).heap[b]? := by rw [hw]
    rw [heap_setBlock_same hb, heap_setBlock_same hb] at hblk
    injection hblk with hblk
    injection hblk with hes hcl
    have hlist : es'.toList = es.toList.set j { e0 with key := key, val := val } := by rw [hes, Array.toList_modify, modify_eq_set _ _ _ _ h2]
    have who : ∀ x ∈ es'.toList, x = { e0 with key := key, val := val } ∨ x ∈ es.toList := by
      intro x hx
      rw [hlist] at hx
      rcases List.mem_or_eq_of_mem_set hx with h | h
      · exact .inr h
      · exact .inl h
    have he0 : e0 ∈ es.toList := List.mem_of_getElem? h2
    have hk0 : (rg P k R e0).1 = kl := by
      obtain ⟨y, hy⟩ := F.reads e0 he0
      rw [rg_of hy]
      have m1 := rd_key hy
      rw [h3, hkey] at m1
      exact (Option.some.inj m1).symm
    have hk1 : (rg P k R { e0 with key := key, val := val }).1 = kl := by rw [rg_of (rd_mk hkey hv)]
    refine ⟨_, hrun, ⟨es', clock', since, seen, c0, heap_setBlock_same hb _, F', ?_, ?_, (heap_setBlock_other hb _ hne).trans hr, ?_, ?_, ?_, ?_, hsc, by rw [hcl]; exact hsk⟩, ⟨rfl, rfl, rfl, by simp [setBlock], fun i _ hi => heap_setBlock_other hb _ (fun e => hi (by rw [e]))⟩, by simp [setBlock]⟩
    · have e1 : es'.size = es.size := by
        rw [← Array.length_toList, hlist, List.length_set, Array.length_toList]
      omega
    · rw [DataW.put_eq, hput]
    · intro x hx
      rcases who x hx with rfl | hx'
      · exact hold e0 he0
      · exact hold x hx'
    · have e1 : ∀ a : Array MapEntry, (leftOf a seen).size = (a.toList.filter (fun e => !seen.contains e.born)).length := fun a => by
        unfold leftOf
        rw [← Array.length_toList, Array.toList_filter]
      rw [e1, e1, hlist]
      exact count_born (fun c => !seen.contains c) es.toList j e0 _ h2 rfl
    · intro x hx
      rcases who x hx with rfl | hx'
      · rw [hk1, ← hk0, hl1 e0 he0]
      · exact hl1 x hx'
    · intro kl' hkl'
      obtain ⟨x, hx, hxk⟩ := hl2 kl' hkl'
      by_cases hxe : x = e0
      · subst hxe
        refine ⟨{ x with key := key, val := val }, ?_, by rw [hk1, ← hk0]; exact hxk⟩
        rw [hlist]
        exact List.mem_iff_getElem.2 ⟨j, by simpa using hjl, by simp⟩
      · refine ⟨x, ?_, hxk⟩
        rw [hlist]
        obtain ⟨i, hi, ex⟩ := List.getElem_of_mem hx
        refine List.mem_iff_getElem.2 ⟨i, by simpa using hi, ?_⟩
        rw [List.getElem_set]
        split
        · rename_i hij
          subst hij
          exfalso
          refine hxe ?_
          rw [List.getElem?_eq_getElem hi] at h2
          injection h2 with h2
          rw [← ex, h2]
        · exact ex
theorem step_store {ops : Array Oper} {o : Oper} {a : Act} {K' : Act → World → Prop} {Q : Exit → Act → World → Prop} {E : Prop} {t e : TypeId} (hgd : o.guard = none) (m x v : Operand) (hop : o.op = Op.mapUpdate t m x v)
    (h : w.ranges P k R b r n D left cnt) (K : Keyed P k) (ht : P.underlying t = some (.map k e)) (hn : n < maxLen) (key val : Value) (kl : Lit) (d : DataW H) (ps : List MemPlace)
    (hm : a.eval m = .map (some b)) (hx : a.eval x = key) (hv' : a.eval v = val) (hkey : keyOf P k key = some kl) (hv : R val = some (d, ps)) (hin : Maps.has D kl = true)
    (hK : ∀ w', w'.ranges P k R b r n (D.put kl d) left cnt → w.grownBy w' (some b) → w'.heap.size = w.heap.size → K' (a.put o.dst undef) w') :
    if Region.wanted o (yielded ops a.tmps) = true then Oper.wp P o a w K' Q else E := by
  have hw : Region.wanted o (yielded ops a.tmps) = true := by simp [Region.wanted, hgd]
  rw [if_pos hw]
  obtain ⟨w', hrun, r1, r2, r3⟩ := ranges_store h K ht hn hkey hv hin
  unfold Oper.wp
  simp [execOp, hop, hm, hx, hv', hrun, Result.andThen]
  exact hK w' r1 r2 r3
end
end Go.Proofs.Ytfdjjaogmnagaaa.Mp
