/- Plain facts on numbers of 64 bits: adding bits side by side (pairs, fours, bytes) gives the sum of all bits. No program. -/
import Derived.Test.YtfdjjaogmnagaaaPlainBits
namespace Go.Proofs.Ytfdjjaogmnagaaa.Bt
def val : List Nat → Nat
  | [] => 0
  | a :: l => a + 256 * val l
def hd : List Nat → Nat
  | [] => 0
  | a :: _ => a
theorem val_and (k : Nat) (hk : k < 256) : ∀ l : List Nat, (∀ a ∈ l, a < 256) → val l &&& val (List.replicate l.length k) = val (l.map (fun a => a &&& k))
  | [], _ => by simp [val]
  | a :: l, h => by
    rw [List.length_cons, List.replicate_succ, val, val, List.map_cons, val, and_byte _ _ _ _ (h a (by simp)) hk, val_and k hk l (fun b hb => h b (by simp [hb]))]
theorem val_add (f g : Nat → Nat) : ∀ l : List Nat, val (l.map f) + val (l.map g) = val (l.map (fun a => f a + g a))
  | [] => rfl
  | a :: l => by simp only [List.map_cons, val]; have := val_add f g l; omega
/-- What lies in the bytes of a number shifted right by s bits, 2^s and 2^(8-s) being given. -/
def shl' (p q : Nat) : List Nat → List Nat
  | [] => []
  | a :: l => (a / p + q * (hd l % p)) :: shl' p q l
theorem shl_len (p q : Nat) : ∀ l, (shl' p q l).length = l.length
  | [] => rfl
  | a :: l => by simp [shl', shl_len p q l]
theorem val_mod2 (l : List Nat) : val l % 2 = hd l % 2 := by cases l with | nil => rfl | cons a l => simp only [val, hd]; omega
theorem val_mod4 (l : List Nat) : val l % 4 = hd l % 4 := by cases l with | nil => rfl | cons a l => simp only [val, hd]; omega
theorem val_mod16 (l : List Nat) : val l % 16 = hd l % 16 := by cases l with | nil => rfl | cons a l => simp only [val, hd]; omega
theorem val_half : ∀ l, val l / 2 = val (shl' 2 128 l)
  | [] => rfl
  | a :: l => by have h := val_half l; have m := val_mod2 l; simp only [val, shl']; omega
theorem val_quarter : ∀ l, val l / 4 = val (shl' 4 64 l)
  | [] => rfl
  | a :: l => by have h := val_quarter l; have m := val_mod4 l; simp only [val, shl']; omega
theorem val_sixteenth : ∀ l, val l / 16 = val (shl' 16 16 l)
  | [] => rfl
  | a :: l => by have h := val_sixteenth l; have m := val_mod16 l; simp only [val, shl']; omega
theorem hd_lt {l : List Nat} {n : Nat} (hn : 0 < n) (h : ∀ a ∈ l, a < n) : hd l < n := by cases l with | nil => exact hn | cons a l => exact h a (by simp)
theorem shl_map1 : ∀ l : List Nat, (∀ a ∈ l, a < 256) → (shl' 2 128 l).map (fun a => a &&& 85) = l.map (fun a => a / 2 &&& 85) ∧ ∀ a ∈ shl' 2 128 l, a < 256
  | [], _ => ⟨rfl, by simp [shl']⟩
  | a :: l, h => by
    have ha := h a (by simp)
    obtain ⟨h1, h2⟩ := shl_map1 l (fun b hb => h b (by simp [hb]))
    refine ⟨?_, fun b hb => ?_⟩
    · rw [shl', List.map_cons, List.map_cons, h1, f1 a ha _ (Nat.mod_lt _ (by omega))]
    · rcases List.mem_cons.1 hb with rfl | hb
      · have := Nat.mod_lt (hd l) (show 0 < 2 by omega); omega
      · exact h2 b hb
theorem shl_map2 : ∀ l : List Nat, (∀ a ∈ l, a < 256) → (shl' 4 64 l).map (fun a => a &&& 51) = l.map (fun a => a / 4 &&& 51) ∧ ∀ a ∈ shl' 4 64 l, a < 256
  | [], _ => ⟨rfl, by simp [shl']⟩
  | a :: l, h => by
    have ha := h a (by simp)
    obtain ⟨h1, h2⟩ := shl_map2 l (fun b hb => h b (by simp [hb]))
    refine ⟨?_, fun b hb => ?_⟩
    · rw [shl', List.map_cons, List.map_cons, h1, f2 a ha _ (Nat.mod_lt _ (by omega))]
    · rcases List.mem_cons.1 hb with rfl | hb
      · have := Nat.mod_lt (hd l) (show 0 < 4 by omega); omega
      · exact h2 b hb
theorem sum16 : ∀ l : List Nat, val (shl' 16 16 l) + val l = val (List.zipWith (fun a b => a + b) (shl' 16 16 l) l)
  | [] => rfl
  | a :: l => by simp only [shl', List.zipWith_cons_cons, val]; have := sum16 l; omega
/-- The third step, of bytes whose nibbles are at most 4. -/
theorem shl_map3 : ∀ l : List Nat, (∀ a ∈ l, a < 256) →
    (List.zipWith (fun a b => a + b) (shl' 16 16 (l.map (fun a => q2 (q1 a)))) (l.map (fun a => q2 (q1 a)))).map (fun a => a &&& 15) = l.map (pc 8) ∧ ∀ a ∈ List.zipWith (fun a b => a + b) (shl' 16 16 (l.map (fun a => q2 (q1 a)))) (l.map (fun a => q2 (q1 a))), a < 256
  | [], _ => ⟨rfl, by simp [shl']⟩
  | a :: l, h => by
    have ha := h a (by simp)
    obtain ⟨h1, h2⟩ := shl_map3 l (fun b hb => h b (by simp [hb]))
    have hb2 := b2 a ha
    have ht : hd (l.map (fun a => q2 (q1 a))) % 16 < 5 := by
      cases l with
      | nil => simp [hd]
      | cons b l => have := b2 b (h b (by simp)); simp only [List.map_cons, hd]; omega
    refine ⟨?_, fun b hb => ?_⟩
    · simp only [List.map_cons, shl', List.zipWith_cons_cons]
      rw [f3 a ha _ ht, f4 a ha]
      rw [h1]
    · simp only [List.map_cons, shl', List.zipWith_cons_cons, List.mem_cons] at hb
      rcases hb with rfl | hb
      · omega
      · exact h2 b hb
theorem zip_len : ∀ l : List Nat, (List.zipWith (fun a b => a + b) (shl' 16 16 l) l).length = l.length := fun l => by simp [shl_len]
theorem m55 : (6148914691236517205 : Nat) = val (List.replicate 8 85) := by decide +kernel
theorem m33 : (3689348814741910323 : Nat) = val (List.replicate 8 51) := by decide +kernel
theorem m0f : (1085102592571150095 : Nat) = val (List.replicate 8 15) := by decide +kernel
theorem bytes8 (x : Nat) (hx : x < 18446744073709551616) : ∃ l : List Nat, l.length = 8 ∧ (∀ a ∈ l, a < 256) ∧ val l = x := by
  refine ⟨[x % 256, x / 256 % 256, x / 65536 % 256, x / 16777216 % 256, x / 4294967296 % 256, x / 1099511627776 % 256, x / 281474976710656 % 256, x / 72057594037927936 % 256], rfl, ?_, ?_⟩
  · intro a ha
    simp only [List.mem_cons, List.not_mem_nil, or_false] at ha
    rcases ha with rfl | rfl | rfl | rfl | rfl | rfl | rfl | rfl <;> exact Nat.mod_lt _ (by omega)
  · simp only [val]; omega
theorem pc_val : ∀ l : List Nat, (∀ a ∈ l, a < 256) → pc (8 * l.length) (val l) = (l.map (pc 8)).sum
  | [], _ => rfl
  | a :: l, h => by
    have ih := pc_val l (fun b hb => h b (by simp [hb]))
    rw [List.length_cons, Nat.mul_add, Nat.mul_one, val, pc_byte _ _ _ (h a (by simp)), ih, List.map_cons, List.sum_cons]
theorem tl1 (A B C D E F G H s : Nat) (ha : A ≤ 8) (h3 : s = A + 256 * (B + 256 * (C + 256 * (D + 256 * (E + 256 * (F + 256 * (G + 256 * H))))))) :
    s / 256 = B + 256 * (C + 256 * (D + 256 * (E + 256 * (F + 256 * (G + 256 * H))))) := by omega
theorem tl2 (A B C D E F G H s t : Nat) (h3 : s = A + 256 * (B + 256 * (C + 256 * (D + 256 * (E + 256 * (F + 256 * (G + 256 * H)))))))
    (e1 : t = B + 256 * (C + 256 * (D + 256 * (E + 256 * (F + 256 * (G + 256 * H)))))) :
    s + t = (A + B) + 256 * ((B + C) + 256 * ((C + D) + 256 * ((D + E) + 256 * ((E + F) + 256 * ((F + G) + 256 * ((G + H) + 256 * H)))))) := by omega
theorem tl3 (A B C D E F G H s : Nat) (ha : A ≤ 8) (hb : B ≤ 8) (hc : C ≤ 8) (h : s = (A + B) + 256 * ((B + C) + 256 * ((C + D) + 256 * ((D + E) + 256 * ((E + F) + 256 * ((F + G) + 256 * ((G + H) + 256 * H))))))) :
    s / 65536 = (C + D) + 256 * ((D + E) + 256 * ((E + F) + 256 * ((F + G) + 256 * ((G + H) + 256 * H)))) := by omega
theorem tl4 (A B C D E F G H s t : Nat) (h : s = (A + B) + 256 * ((B + C) + 256 * ((C + D) + 256 * ((D + E) + 256 * ((E + F) + 256 * ((F + G) + 256 * ((G + H) + 256 * H)))))))
    (e : t = (C + D) + 256 * ((D + E) + 256 * ((E + F) + 256 * ((F + G) + 256 * ((G + H) + 256 * H))))) :
    s + t = (A + B + C + D) + 256 * ((B + C + D + E) + 256 * ((C + D + E + F) + 256 * ((D + E + F + G) + 256 * ((E + F + G + H) + 256 * ((F + G + H) + 256 * ((G + H) + 256 * H)))))) := by omega
theorem tl5 (A B C D E F G H s : Nat) (ha : A ≤ 8) (hb : B ≤ 8) (hc : C ≤ 8) (hd : D ≤ 8) (he : E ≤ 8) (hf : F ≤ 8) (hg : G ≤ 8)
    (h : s = (A + B + C + D) + 256 * ((B + C + D + E) + 256 * ((C + D + E + F) + 256 * ((D + E + F + G) + 256 * ((E + F + G + H) + 256 * ((F + G + H) + 256 * ((G + H) + 256 * H))))))) :
    s / 4294967296 = (E + F + G + H) + 256 * ((F + G + H) + 256 * ((G + H) + 256 * H)) := by omega
theorem tl6 (A B C D E F G H s t : Nat) (h : s = (A + B + C + D) + 256 * ((B + C + D + E) + 256 * ((C + D + E + F) + 256 * ((D + E + F + G) + 256 * ((E + F + G + H) + 256 * ((F + G + H) + 256 * ((G + H) + 256 * H)))))))
    (e : t = (E + F + G + H) + 256 * ((F + G + H) + 256 * ((G + H) + 256 * H))) :
    s + t = (A + B + C + D + E + F + G + H) + 256 * ((B + C + D + E) + (F + G + H) + 256 * ((C + D + E + F) + (G + H) + 256 * ((D + E + F + G) + H + 256 * ((E + F + G + H) + 256 * ((F + G + H) + 256 * ((G + H) + 256 * H)))))) := by omega
theorem tl7 (A B C D E F G H s : Nat) (ha : A ≤ 8) (hb : B ≤ 8) (hc : C ≤ 8) (hd : D ≤ 8) (he : E ≤ 8) (hf : F ≤ 8) (hg : G ≤ 8) (hh : H ≤ 8)
    (h : s = (A + B + C + D + E + F + G + H) + 256 * ((B + C + D + E) + (F + G + H) + 256 * ((C + D + E + F) + (G + H) + 256 * ((D + E + F + G) + H + 256 * ((E + F + G + H) + 256 * ((F + G + H) + 256 * ((G + H) + 256 * H))))))) :
    s < 9223372036854775808 ∧ s % 128 = A + B + C + D + E + F + G + H := by omega
theorem tail8 (A B C D E F G H : Nat) (ha : A ≤ 8) (hb : B ≤ 8) (hc : C ≤ 8) (hd : D ≤ 8) (he : E ≤ 8) (hf : F ≤ 8) (hg : G ≤ 8) (hh : H ≤ 8) (s3 s4 s5 s6 : Nat)
    (h3 : s3 = A + 256 * (B + 256 * (C + 256 * (D + 256 * (E + 256 * (F + 256 * (G + 256 * H))))))) (h4 : s4 = s3 + s3 / 256) (h5 : s5 = s4 + s4 / 65536) (h6 : s6 = s5 + s5 / 4294967296) :
    s4 < 18446744073709551616 ∧ s5 < 18446744073709551616 ∧ s6 < 9223372036854775808 ∧ s6 % 128 = A + B + C + D + E + F + G + H := by
  have e2 := h4.trans (tl2 A B C D E F G H s3 _ h3 (tl1 A B C D E F G H s3 ha h3))
  have e4 := h5.trans (tl4 A B C D E F G H s4 _ e2 (tl3 A B C D E F G H s4 ha hb hc e2))
  have e6 := h6.trans (tl6 A B C D E F G H s5 _ e4 (tl5 A B C D E F G H s5 ha hb hc hd he hf hg e4))
  have t := tl7 A B C D E F G H s6 ha hb hc hd he hf hg hh e6
  clear e6 e4 e2 h3
  have h54 : s4 ≤ s5 := by rw [h5]; exact Nat.le_add_right _ _
  have h65 : s5 ≤ s6 := by rw [h6]; exact Nat.le_add_right _ _
  clear h4 h5 h6
  exact ⟨by omega, by omega, t.1, t.2⟩
theorem val_lt : ∀ l : List Nat, (∀ a ∈ l, a < 256) → val l < 256 ^ l.length
  | [], _ => by simp [val]
  | a :: l, h => by
    have h1 := val_lt l (fun b hb => h b (by simp [hb]))
    have h2 := h a (by simp)
    rw [val, List.length_cons, Nat.pow_succ]
    omega
theorem list8 (l : List Nat) (hl : l.length = 8) : ∃ A B C D E F G H, l = [A, B, C, D, E, F, G, H] := by
  match l, hl with
  | [A, B, C, D, E, F, G, H], _ => exact ⟨A, B, C, D, E, F, G, H, rfl⟩
theorem tail_list (l : List Nat) (hl : l.length = 8) (hb : ∀ a ∈ l, a < 256) (s3 s4 s5 s6 : Nat) (h3 : s3 = val (l.map (pc 8))) (h4 : s4 = s3 + s3 / 256) (h5 : s5 = s4 + s4 / 65536) (h6 : s6 = s5 + s5 / 4294967296) :
    s4 < 18446744073709551616 ∧ s5 < 18446744073709551616 ∧ s6 < 9223372036854775808 ∧ s6 % 128 = (l.map (pc 8)).sum := by
  obtain ⟨A, B, C, D, E, F, G, H, rfl⟩ := list8 l hl
  · have fA := f5 A (hb A (by simp)); have fB := f5 B (hb B (by simp)); have fC := f5 C (hb C (by simp)); have fD := f5 D (hb D (by simp))
    have fE := f5 E (hb E (by simp)); have fF := f5 F (hb F (by simp)); have fG := f5 G (hb G (by simp)); have fH := f5 H (hb H (by simp))
    simp only [List.map_cons, List.map_nil, val, List.sum_cons, List.sum_nil, Nat.mul_zero, Nat.add_zero] at h3 ⊢
    generalize pc 8 A = a at *; generalize pc 8 B = b at *; generalize pc 8 C = c at *; generalize pc 8 D = d at *
    generalize pc 8 E = e at *; generalize pc 8 F = f at *; generalize pc 8 G = g at *; generalize pc 8 H = h at *
    obtain ⟨t1, t2, t3, t4⟩ := tail8 a b c d e f g h fA fB fC fD fE fF fG fH s3 s4 s5 s6 h3 h4 h5 h6
    refine ⟨t1, t2, t3, t4.trans ?_⟩
    simp only [Nat.add_assoc]
/-- The chain of OnesCount64, at every number of 64 bits. -/
theorem chain64 (x : Nat) (hx : x < 18446744073709551616) :
    ∃ s1 s2 s3 s4 s5 s6 : Nat, s1 = (x / 2 &&& 6148914691236517205) + (x &&& 6148914691236517205) ∧ s1 < 18446744073709551616 ∧ s2 = (s1 / 4 &&& 3689348814741910323) + (s1 &&& 3689348814741910323) ∧ s2 < 18446744073709551616 ∧
      s2 / 16 + s2 < 18446744073709551616 ∧ s3 = (s2 / 16 + s2 &&& 1085102592571150095) ∧ s3 < 18446744073709551616 ∧ s4 = s3 + s3 / 256 ∧ s4 < 18446744073709551616 ∧ s5 = s4 + s4 / 65536 ∧ s5 < 18446744073709551616 ∧ s6 = s5 + s5 / 4294967296 ∧ s6 < 9223372036854775808 ∧ s6 &&& 127 = pc 64 x := by
  obtain ⟨l, hl, hb, rfl⟩ := bytes8 x hx
  have p8 : ∀ m : List Nat, m.length = 8 → (∀ a ∈ m, a < 256) → val m < 18446744073709551616 := fun m h1 h2 => by have := val_lt m h2; rw [h1] at this; simpa using this
  have q1b : ∀ a ∈ l.map q1, a < 256 := fun a ha => by obtain ⟨c, hc, rfl⟩ := List.mem_map.1 ha; exact b1 c (hb c hc)
  have q2b : ∀ a ∈ l.map (fun a => q2 (q1 a)), a < 256 := fun a ha => by obtain ⟨c, hc, rfl⟩ := List.mem_map.1 ha; exact (b2 c (hb c hc)).1
  have e1 : (val l / 2 &&& 6148914691236517205) + (val l &&& 6148914691236517205) = val (l.map q1) := by
    obtain ⟨h1, h2⟩ := shl_map1 l hb
    have a1 := val_and 85 (by omega) (shl' 2 128 l) h2
    have a2 := val_and 85 (by omega) l hb
    rw [shl_len, hl, ← m55, h1] at a1
    rw [hl, ← m55] at a2
    rw [val_half, a1, a2, val_add]
    rfl
  have e2 : (val (l.map q1) / 4 &&& 3689348814741910323) + (val (l.map q1) &&& 3689348814741910323) = val (l.map (fun a => q2 (q1 a))) := by
    obtain ⟨h1, h2⟩ := shl_map2 (l.map q1) q1b
    have a1 := val_and 51 (by omega) (shl' 4 64 (l.map q1)) h2
    have a2 := val_and 51 (by omega) (l.map q1) q1b
    rw [shl_len, List.length_map, hl, ← m33, h1] at a1
    rw [List.length_map, hl, ← m33] at a2
    rw [val_quarter, a1, a2, val_add, List.map_map]
    rfl
  obtain ⟨z1, z2⟩ := shl_map3 l hb
  have zl : (List.zipWith (fun a b => a + b) (shl' 16 16 (l.map (fun a => q2 (q1 a)))) (l.map (fun a => q2 (q1 a)))).length = 8 := by rw [zip_len, List.length_map, hl]
  have e3s : val (l.map (fun a => q2 (q1 a))) / 16 + val (l.map (fun a => q2 (q1 a))) = val (List.zipWith (fun a b => a + b) (shl' 16 16 (l.map (fun a => q2 (q1 a)))) (l.map (fun a => q2 (q1 a)))) := by rw [val_sixteenth, sum16]
  have e3 : (val (l.map (fun a => q2 (q1 a))) / 16 + val (l.map (fun a => q2 (q1 a))) &&& 1085102592571150095) = val (l.map (pc 8)) := by
    have a1 := val_and 15 (by omega) _ z2
    rw [zl, ← m0f, z1] at a1
    rw [e3s, a1]
  have hp : pc 64 (val l) = (l.map (pc 8)).sum := by have := pc_val l hb; rw [hl] at this; exact this
  have F1 := p8 _ (by rw [List.length_map]; exact hl) q1b
  have F2 := p8 _ (by rw [List.length_map]; exact hl) q2b
  have F3 := p8 _ zl z2
  rw [← e3s] at F3
  obtain ⟨s3, hs3⟩ : ∃ s, s = val (l.map (pc 8)) := ⟨_, rfl⟩
  have tl := tail_list l hl hb s3 _ _ _ hs3 rfl rfl rfl
  rw [← hs3] at e3
  rw [← hp] at tl
  clear p8 q1b q2b z1 z2 zl e3s hs3 hp
  generalize val (l.map q1) = s1 at *
  generalize val (l.map (fun a => q2 (q1 a))) = s2 at *
  generalize val l = x at *
  refine ⟨s1, s2, s3, _, _, _, e1.symm, F1, e2.symm, F2, F3, e3.symm, ?_, rfl, tl.1, rfl, tl.2.1, rfl, tl.2.2.1, ?_⟩
  · exact Nat.lt_of_le_of_lt (Nat.le_add_right _ _) tl.1
  · rw [show (127 : Nat) = 2 ^ 7 - 1 from rfl, Nat.and_two_pow_sub_one_eq_mod]
    exact tl.2.2.2
end Go.Proofs.Ytfdjjaogmnagaaa.Bt
