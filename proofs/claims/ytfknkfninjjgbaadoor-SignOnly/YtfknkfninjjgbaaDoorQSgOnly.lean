/- SignOnly, out of what package sign must keep. -/
import Derived.Test.YtfknkfninjjgbaaDoorQCOwnToSgLaw
import Derived.Test.YtfknkfninjjgbaaDoorQHLaidToSDig
import Derived.Test.YtfknkfninjjgbaaDoorQBKToHCut
import Derived.Test.YtfknkfninjjgbaaDoorQUpV
namespace Go.Proofs.YtfknkfninjjgbaaDoor
open Go.RowKit
attribute [local go_sem] World.cell?_alloc_some cell_alloc2 cell_alloc3 cell_alloc4 frozen?_alloc_cells frozen_out
set_option linter.unusedSimpArgs false
set_option maxRecDepth 20000 in
set_option maxHeartbeats 2000000 in
theorem signOnly_1 (A f a b : Nat) (c : Int) (hc : ¬ c = 0) (v : Value) (p : List Nat)
    (VX : Hid (∀ u w, By w v p → By w u (S.by f ++ S.by a) → KTab w → Calls Tryd.prog 9 #[bV A, v, u] w fun e w' => e = .returned (.int .i64 c) ∧ Below w.heap.size w w'))
    (w : World) (hv : By w v p) (hT : KTab w) :
    Calls Tryd.prog 4 #[bV A, v, bV f, bV a, bV b] w fun e w' => e = .returned (.bool true) ∧ Below w.heap.size w w' := by
  have n1 : (c != 0) = true := by simp [hc]
  clear hc
  have HV : Hid (By w v p) := hv
  have HT : Hid (KTab w) := hT
  obtain ⟨fS, hfs⟩ : ∃ fS, Hid (S.by f = fS) := ⟨_, rfl⟩
  obtain ⟨aS, has⟩ : ∃ aS, Hid (S.by a = aS) := ⟨_, rfl⟩
  obtain ⟨bS, hbs⟩ : ∃ bS, Hid (S.by b = bS) := ⟨_, rfl⟩
  have LF : Hid (fS.length = 32) := by rw [← hfs.out]; exact S.by_length f
  have LA : Hid (aS.length = 32) := by rw [← has.out]; exact S.by_length a
  have LB : Hid (bS.length = 32) := by rw [← hbs.out]; exact S.by_length b
  clear hv hT
  go_enter Tryd.func4, Tryd.ntmps4
  have s0 : Hid (Kn ((((w.alloc (.cells (bR (A)).toArray 22)).alloc (.cells (bR (f)).toArray 22)).alloc (.cells (bR (a)).toArray 22)).alloc (.cells (bR (b)).toArray 22)) [(w.heap.size + 1 + 1 + 1, (bR (b))), (w.heap.size + 1 + 1, (bR (a))), (w.heap.size + 1, (bR (f))), (w.heap.size, (bR (A)))]) := (((((Kn.nil w).al (bR (A)) 22 rfl).al (bR (f)) 22 (by simp)).al (bR (a)) 22 (by simp)).al (bR (b)) 22 (by simp))
  have b0 : Hid (Below w.heap.size w ((((w.alloc (.cells (bR (A)).toArray 22)).alloc (.cells (bR (f)).toArray 22)).alloc (.cells (bR (a)).toArray 22)).alloc (.cells (bR (b)).toArray 22))) := (((((Below.refl _ _).alloc (Nat.le_refl _) _).alloc (by simp <;> omega) _).alloc (by simp <;> omega) _).alloc (by simp <;> omega) _)
  go_wp2_with fail
  refine wp_region_two 0 2 [1, 3, 4] [_, _, _] (.slice (some ⟨w.heap.size + 1, 0, none⟩) 32 32) (.slice (some ⟨w.heap.size + 1 + 1, 0, none⟩) 32 32) (by kernel_rfl) (by kernel_rfl) (fun _ _ d _ _ h => by cases d <;> exact h) rfl rfl (by kernel_rfl) (by kernel_rfl) rfl rfl (by kernel_rfl) (.inl ⟨rfl, exec_all32 _ rfl _ rfl⟩) (.inl ⟨rfl, exec_all32 _ rfl _ rfl⟩) ?_
  intro w1 hb1 hh1
  clear hh1
  simp only [Act.put, List.setIfInBounds_toArray, List.set_cons_succ, List.set_cons_zero, List.getElem_toArray, List.getElem_cons_zero, List.getElem_cons_succ]
  have s1 : Hid (Kn w1 [(w.heap.size + 1 + 1 + 1, bR b), (w.heap.size + 1 + 1, bR a), (w.heap.size + 1, bR f), (w.heap.size, bR A)]) := s0.out.up hb1.out
  have b1 : Hid (Below w.heap.size w w1) := b0.out.trans (hb1.out.mono b0.out.size)
  clear s0 b0 hb1
  have YX := Kn.by32 s1.out 2 rfl
  rw [hfs.out] at YX
  go_wp2_with (refine wp_appB rfl _ _ rfl w1.heap.size (.slice none 0 0) _ [] fS w1 rfl (Ob.nil _ _) (Below.refl _ _) rfl YX (by rw [LF.out]; decide) (Nat.le_refl _) ?_)
  intro v2 w2 o2 _ hb2
  have s2 : Hid (Kn w2 [(w.heap.size + 1 + 1 + 1, bR b), (w.heap.size + 1 + 1, bR a), (w.heap.size + 1, bR f), (w.heap.size, bR A)]) := s1.out.up hb2
  have YY := Kn.by32 s2.out 1 rfl
  rw [has.out] at YY
  have O2 : Hid (Ob w2 w1.heap.size v2 fS) := o2
  have G2 : Hid (w1.heap.size ≤ w2.heap.size) := hb2.size
  have G1 : Hid (w.heap.size ≤ w1.heap.size) := b1.out.size
  have H2 : Hid (Below w1.heap.size w1 w2) := hb2
  clear YX o2 hb2 s2
  go_wp2_with (refine wp_appB rfl _ _ rfl w1.heap.size v2 _ fS aS w2 rfl O2.out (Below.refl _ _) rfl YY (by rw [LF.out, LA.out]; decide) G2.out ?_)
  intro v3 w3 o3 _ hb3
  have X3 : Hid (By w3 v3 (S.by f ++ S.by a)) := by rw [hfs.out, has.out]; exact o3.by
  have s3 : Hid (Kn w3 [(w.heap.size + 1 + 1 + 1, bR b), (w.heap.size + 1 + 1, bR a), (w.heap.size + 1, bR f), (w.heap.size, bR A)]) := s1.out.up (H2.out.trans hb3)
  have b3 : Hid (Below w.heap.size w w3) := b1.out.trans ((H2.out.trans hb3).mono G1.out)
  clear YY O2 o3 hb3 b1 G2 G1 H2 s1
  go_wp2_with fail
  refine wp_region_two 0 2 [1, 3, 4] [_, _, _] (.slice (some ⟨w.heap.size + 1, 0, none⟩) 32 32) (.slice (some ⟨w.heap.size + 1 + 1 + 1, 0, none⟩) 32 32) (by kernel_rfl) (by kernel_rfl) (fun _ _ d _ _ h => by cases d <;> exact h) rfl rfl (by kernel_rfl) (by kernel_rfl) rfl rfl (by kernel_rfl) (.inl ⟨rfl, exec_all32 _ rfl _ rfl⟩) (.inl ⟨rfl, exec_all32 _ rfl _ rfl⟩) ?_
  intro w4 hb4 hh4
  clear hh4
  simp only [Act.put, List.setIfInBounds_toArray, List.set_cons_succ, List.set_cons_zero, List.getElem_toArray, List.getElem_cons_zero, List.getElem_cons_succ]
  have s4 : Hid (Kn w4 [(w.heap.size + 1 + 1 + 1, bR b), (w.heap.size + 1 + 1, bR a), (w.heap.size + 1, bR f), (w.heap.size, bR A)]) := s3.out.up hb4.out
  have b4 : Hid (Below w.heap.size w w4) := b3.out.trans (hb4.out.mono b3.out.size)
  have X4 : Hid (By w4 v3 (S.by f ++ S.by a)) := X3.out.up hb4.out (Nat.le_refl _)
  clear s3 b3 hb4 X3
  have YX := Kn.by32 s4.out 2 rfl
  rw [hfs.out] at YX
  go_wp2_with (refine wp_appB rfl _ _ rfl w4.heap.size (.slice none 0 0) _ [] fS w4 rfl (Ob.nil _ _) (Below.refl _ _) rfl YX (by rw [LF.out]; decide) (Nat.le_refl _) ?_)
  intro v5 w5 o5 _ hb5
  have s5 : Hid (Kn w5 [(w.heap.size + 1 + 1 + 1, bR b), (w.heap.size + 1 + 1, bR a), (w.heap.size + 1, bR f), (w.heap.size, bR A)]) := s4.out.up hb5
  have YY := Kn.by32 s5.out 0 rfl
  rw [hbs.out] at YY
  have O5 : Hid (Ob w5 w4.heap.size v5 fS) := o5
  have G5 : Hid (w4.heap.size ≤ w5.heap.size) := hb5.size
  have G4 : Hid (w.heap.size ≤ w4.heap.size) := b4.out.size
  have H5 : Hid (Below w4.heap.size w4 w5) := hb5
  clear YX o5 hb5 s5
  go_wp2_with (refine wp_appB rfl _ _ rfl w4.heap.size v5 _ fS bS w5 rfl O5.out (Below.refl _ _) rfl YY (by rw [LF.out, LB.out]; decide) G5.out ?_)
  intro v6 w6 o6 _ hb6
  have Y6 : Hid (By w6 v6 (S.by f ++ S.by b)) := by rw [hfs.out, hbs.out]; exact o6.by
  have X6 : Hid (By w6 v3 (S.by f ++ S.by a)) := X4.out.up (H5.out.trans hb6) (Nat.le_refl _)
  have s6 : Hid (Kn w6 [(w.heap.size + 1 + 1 + 1, bR b), (w.heap.size + 1 + 1, bR a), (w.heap.size + 1, bR f), (w.heap.size, bR A)]) := s4.out.up (H5.out.trans hb6)
  have b6 : Hid (Below w.heap.size w w6) := b4.out.trans ((H5.out.trans hb6).mono G4.out)
  clear YY O5 o6 hb6 b4 G5 G4 H5 s4 X4 LF LA LB hfs has hbs
  go_wp2_with (first | refine wp_ldW rfl 22 _ rfl (w.heap.size) 0 rfl (bR (A)) _ (Kn.rng s6.out 3 rfl) Tryd.underlying22 rfl (info_bR (A)) ?_)
  refine (VX.out _ _ (HV.out.up b6.out (Nat.le_refl _)) X6.out (HT.out.up b6.out HT.out.pos)).mono ?_
  rintro e w7 ⟨rfl, hb7⟩
  replace X6 : Hid (By w7 v3 (S.by f ++ S.by a)) := By.up (xs := S.by f ++ S.by a) X6.out hb7 (Nat.le_refl _)
  replace Y6 : Hid (By w7 v6 (S.by f ++ S.by b)) := By.up (xs := S.by f ++ S.by b) Y6.out hb7 (Nat.le_refl _)
  have s7 : Hid (Kn w7 [(w.heap.size + 1 + 1 + 1, (bR (b))), (w.heap.size + 1 + 1, (bR (a))), (w.heap.size + 1, (bR (f))), (w.heap.size, (bR (A)))]) := s6.out.up hb7
  have b7 : Hid (Below w.heap.size w w7) := b6.out.trans (hb7.mono b6.out.size)
  have z7 := b7.out.size
  clear hb7 s6 b6
  go_wp2_with fail
  go_ret
  exact ⟨rfl, b7.out⟩
set_option maxRecDepth 20000 in
set_option maxHeartbeats 2000000 in
theorem signOnly_2 (A f a b : Nat) (c : Int) (hc : ¬ c = 0) (v : Value) (p : List Nat)
    (VX : Hid (∀ u w, By w v p → By w u (S.by f ++ S.by a) → KTab w → Calls Tryd.prog 9 #[bV A, v, u] w fun e w' => e = .returned (.int .i64 0) ∧ Below w.heap.size w w'))
    (VY : Hid (∀ u w, By w v p → By w u (S.by f ++ S.by b) → KTab w → Calls Tryd.prog 9 #[bV A, v, u] w fun e w' => e = .returned (.int .i64 c) ∧ Below w.heap.size w w'))
    (w : World) (hv : By w v p) (hT : KTab w) :
    Calls Tryd.prog 4 #[bV A, v, bV f, bV a, bV b] w fun e w' => e = .returned (.bool true) ∧ Below w.heap.size w w' := by
  have n1 : (c != 0) = true := by simp [hc]
  clear hc
  have HV : Hid (By w v p) := hv
  have HT : Hid (KTab w) := hT
  obtain ⟨fS, hfs⟩ : ∃ fS, Hid (S.by f = fS) := ⟨_, rfl⟩
  obtain ⟨aS, has⟩ : ∃ aS, Hid (S.by a = aS) := ⟨_, rfl⟩
  obtain ⟨bS, hbs⟩ : ∃ bS, Hid (S.by b = bS) := ⟨_, rfl⟩
  have LF : Hid (fS.length = 32) := by rw [← hfs.out]; exact S.by_length f
  have LA : Hid (aS.length = 32) := by rw [← has.out]; exact S.by_length a
  have LB : Hid (bS.length = 32) := by rw [← hbs.out]; exact S.by_length b
  clear hv hT
  go_enter Tryd.func4, Tryd.ntmps4
  have s0 : Hid (Kn ((((w.alloc (.cells (bR (A)).toArray 22)).alloc (.cells (bR (f)).toArray 22)).alloc (.cells (bR (a)).toArray 22)).alloc (.cells (bR (b)).toArray 22)) [(w.heap.size + 1 + 1 + 1, (bR (b))), (w.heap.size + 1 + 1, (bR (a))), (w.heap.size + 1, (bR (f))), (w.heap.size, (bR (A)))]) := (((((Kn.nil w).al (bR (A)) 22 rfl).al (bR (f)) 22 (by simp)).al (bR (a)) 22 (by simp)).al (bR (b)) 22 (by simp))
  have b0 : Hid (Below w.heap.size w ((((w.alloc (.cells (bR (A)).toArray 22)).alloc (.cells (bR (f)).toArray 22)).alloc (.cells (bR (a)).toArray 22)).alloc (.cells (bR (b)).toArray 22))) := (((((Below.refl _ _).alloc (Nat.le_refl _) _).alloc (by simp <;> omega) _).alloc (by simp <;> omega) _).alloc (by simp <;> omega) _)
  go_wp2_with fail
  refine wp_region_two 0 2 [1, 3, 4] [_, _, _] (.slice (some ⟨w.heap.size + 1, 0, none⟩) 32 32) (.slice (some ⟨w.heap.size + 1 + 1, 0, none⟩) 32 32) (by kernel_rfl) (by kernel_rfl) (fun _ _ d _ _ h => by cases d <;> exact h) rfl rfl (by kernel_rfl) (by kernel_rfl) rfl rfl (by kernel_rfl) (.inl ⟨rfl, exec_all32 _ rfl _ rfl⟩) (.inl ⟨rfl, exec_all32 _ rfl _ rfl⟩) ?_
  intro w1 hb1 hh1
  clear hh1
  simp only [Act.put, List.setIfInBounds_toArray, List.set_cons_succ, List.set_cons_zero, List.getElem_toArray, List.getElem_cons_zero, List.getElem_cons_succ]
  have s1 : Hid (Kn w1 [(w.heap.size + 1 + 1 + 1, bR b), (w.heap.size + 1 + 1, bR a), (w.heap.size + 1, bR f), (w.heap.size, bR A)]) := s0.out.up hb1.out
  have b1 : Hid (Below w.heap.size w w1) := b0.out.trans (hb1.out.mono b0.out.size)
  clear s0 b0 hb1
  have YX := Kn.by32 s1.out 2 rfl
  rw [hfs.out] at YX
  go_wp2_with (refine wp_appB rfl _ _ rfl w1.heap.size (.slice none 0 0) _ [] fS w1 rfl (Ob.nil _ _) (Below.refl _ _) rfl YX (by rw [LF.out]; decide) (Nat.le_refl _) ?_)
  intro v2 w2 o2 _ hb2
  have s2 : Hid (Kn w2 [(w.heap.size + 1 + 1 + 1, bR b), (w.heap.size + 1 + 1, bR a), (w.heap.size + 1, bR f), (w.heap.size, bR A)]) := s1.out.up hb2
  have YY := Kn.by32 s2.out 1 rfl
  rw [has.out] at YY
  have O2 : Hid (Ob w2 w1.heap.size v2 fS) := o2
  have G2 : Hid (w1.heap.size ≤ w2.heap.size) := hb2.size
  have G1 : Hid (w.heap.size ≤ w1.heap.size) := b1.out.size
  have H2 : Hid (Below w1.heap.size w1 w2) := hb2
  clear YX o2 hb2 s2
  go_wp2_with (refine wp_appB rfl _ _ rfl w1.heap.size v2 _ fS aS w2 rfl O2.out (Below.refl _ _) rfl YY (by rw [LF.out, LA.out]; decide) G2.out ?_)
  intro v3 w3 o3 _ hb3
  have X3 : Hid (By w3 v3 (S.by f ++ S.by a)) := by rw [hfs.out, has.out]; exact o3.by
  have s3 : Hid (Kn w3 [(w.heap.size + 1 + 1 + 1, bR b), (w.heap.size + 1 + 1, bR a), (w.heap.size + 1, bR f), (w.heap.size, bR A)]) := s1.out.up (H2.out.trans hb3)
  have b3 : Hid (Below w.heap.size w w3) := b1.out.trans ((H2.out.trans hb3).mono G1.out)
  clear YY O2 o3 hb3 b1 G2 G1 H2 s1
  go_wp2_with fail
  refine wp_region_two 0 2 [1, 3, 4] [_, _, _] (.slice (some ⟨w.heap.size + 1, 0, none⟩) 32 32) (.slice (some ⟨w.heap.size + 1 + 1 + 1, 0, none⟩) 32 32) (by kernel_rfl) (by kernel_rfl) (fun _ _ d _ _ h => by cases d <;> exact h) rfl rfl (by kernel_rfl) (by kernel_rfl) rfl rfl (by kernel_rfl) (.inl ⟨rfl, exec_all32 _ rfl _ rfl⟩) (.inl ⟨rfl, exec_all32 _ rfl _ rfl⟩) ?_
  intro w4 hb4 hh4
  clear hh4
  simp only [Act.put, List.setIfInBounds_toArray, List.set_cons_succ, List.set_cons_zero, List.getElem_toArray, List.getElem_cons_zero, List.getElem_cons_succ]
  have s4 : Hid (Kn w4 [(w.heap.size + 1 + 1 + 1, bR b), (w.heap.size + 1 + 1, bR a), (w.heap.size + 1, bR f), (w.heap.size, bR A)]) := s3.out.up hb4.out
  have b4 : Hid (Below w.heap.size w w4) := b3.out.trans (hb4.out.mono b3.out.size)
  have X4 : Hid (By w4 v3 (S.by f ++ S.by a)) := X3.out.up hb4.out (Nat.le_refl _)
  clear s3 b3 hb4 X3
  have YX := Kn.by32 s4.out 2 rfl
  rw [hfs.out] at YX
  go_wp2_with (refine wp_appB rfl _ _ rfl w4.heap.size (.slice none 0 0) _ [] fS w4 rfl (Ob.nil _ _) (Below.refl _ _) rfl YX (by rw [LF.out]; decide) (Nat.le_refl _) ?_)
  intro v5 w5 o5 _ hb5
  have s5 : Hid (Kn w5 [(w.heap.size + 1 + 1 + 1, bR b), (w.heap.size + 1 + 1, bR a), (w.heap.size + 1, bR f), (w.heap.size, bR A)]) := s4.out.up hb5
  have YY := Kn.by32 s5.out 0 rfl
  rw [hbs.out] at YY
  have O5 : Hid (Ob w5 w4.heap.size v5 fS) := o5
  have G5 : Hid (w4.heap.size ≤ w5.heap.size) := hb5.size
  have G4 : Hid (w.heap.size ≤ w4.heap.size) := b4.out.size
  have H5 : Hid (Below w4.heap.size w4 w5) := hb5
  clear YX o5 hb5 s5
  go_wp2_with (refine wp_appB rfl _ _ rfl w4.heap.size v5 _ fS bS w5 rfl O5.out (Below.refl _ _) rfl YY (by rw [LF.out, LB.out]; decide) G5.out ?_)
  intro v6 w6 o6 _ hb6
  have Y6 : Hid (By w6 v6 (S.by f ++ S.by b)) := by rw [hfs.out, hbs.out]; exact o6.by
  have X6 : Hid (By w6 v3 (S.by f ++ S.by a)) := X4.out.up (H5.out.trans hb6) (Nat.le_refl _)
  have s6 : Hid (Kn w6 [(w.heap.size + 1 + 1 + 1, bR b), (w.heap.size + 1 + 1, bR a), (w.heap.size + 1, bR f), (w.heap.size, bR A)]) := s4.out.up (H5.out.trans hb6)
  have b6 : Hid (Below w.heap.size w w6) := b4.out.trans ((H5.out.trans hb6).mono G4.out)
  clear YY O5 o6 hb6 b4 G5 G4 H5 s4 X4 LF LA LB hfs has hbs
  go_wp2_with (first | refine wp_ldW rfl 22 _ rfl (w.heap.size) 0 rfl (bR (A)) _ (Kn.rng s6.out 3 rfl) Tryd.underlying22 rfl (info_bR (A)) ?_)
  refine (VX.out _ _ (HV.out.up b6.out (Nat.le_refl _)) X6.out (HT.out.up b6.out HT.out.pos)).mono ?_
  rintro e w7 ⟨rfl, hb7⟩
  replace X6 : Hid (By w7 v3 (S.by f ++ S.by a)) := By.up (xs := S.by f ++ S.by a) X6.out hb7 (Nat.le_refl _)
  replace Y6 : Hid (By w7 v6 (S.by f ++ S.by b)) := By.up (xs := S.by f ++ S.by b) Y6.out hb7 (Nat.le_refl _)
  have s7 : Hid (Kn w7 [(w.heap.size + 1 + 1 + 1, (bR (b))), (w.heap.size + 1 + 1, (bR (a))), (w.heap.size + 1, (bR (f))), (w.heap.size, (bR (A)))]) := s6.out.up hb7
  have b7 : Hid (Below w.heap.size w w7) := b6.out.trans (hb7.mono b6.out.size)
  have z7 := b7.out.size
  clear hb7 s6 b6
  go_wp2_with (first | refine wp_ldW rfl 22 _ rfl (w.heap.size) 0 rfl (bR (A)) _ (Kn.rng s7.out 3 rfl) Tryd.underlying22 rfl (info_bR (A)) ?_)
  refine (VY.out _ _ (HV.out.up b7.out (Nat.le_refl _)) Y6.out (HT.out.up b7.out HT.out.pos)).mono ?_
  rintro e w8 ⟨rfl, hb8⟩
  replace X6 : Hid (By w8 v3 (S.by f ++ S.by a)) := By.up (xs := S.by f ++ S.by a) X6.out hb8 (Nat.le_refl _)
  replace Y6 : Hid (By w8 v6 (S.by f ++ S.by b)) := By.up (xs := S.by f ++ S.by b) Y6.out hb8 (Nat.le_refl _)
  have s8 : Hid (Kn w8 [(w.heap.size + 1 + 1 + 1, (bR (b))), (w.heap.size + 1 + 1, (bR (a))), (w.heap.size + 1, (bR (f))), (w.heap.size, (bR (A)))]) := s7.out.up hb8
  have b8 : Hid (Below w.heap.size w w8) := b7.out.trans (hb8.mono b7.out.size)
  have z8 := b8.out.size
  clear hb8 s7 b7
  go_wp2_with fail
  go_ret
  exact ⟨rfl, b8.out⟩
set_option maxRecDepth 20000 in
set_option maxHeartbeats 2000000 in
theorem signOnly_3 (A f a b : Nat) (v : Value) (p : List Nat) (eb : ∀ w, (binOp .eql 22 (bV a) (bV b)).run Tryd.prog w = .ok (.bool true) w)
    (VX : Hid (∀ u w, By w v p → By w u (S.by f ++ S.by a) → KTab w → Calls Tryd.prog 9 #[bV A, v, u] w fun e w' => e = .returned (.int .i64 0) ∧ Below w.heap.size w w'))
    (VY : Hid (∀ u w, By w v p → By w u (S.by f ++ S.by b) → KTab w → Calls Tryd.prog 9 #[bV A, v, u] w fun e w' => e = .returned (.int .i64 0) ∧ Below w.heap.size w w'))
    (w : World) (hv : By w v p) (hT : KTab w) :
    Calls Tryd.prog 4 #[bV A, v, bV f, bV a, bV b] w fun e w' => e = .returned (.bool true) ∧ Below w.heap.size w w' := by
  have HV : Hid (By w v p) := hv
  have HT : Hid (KTab w) := hT
  obtain ⟨fS, hfs⟩ : ∃ fS, Hid (S.by f = fS) := ⟨_, rfl⟩
  obtain ⟨aS, has⟩ : ∃ aS, Hid (S.by a = aS) := ⟨_, rfl⟩
  obtain ⟨bS, hbs⟩ : ∃ bS, Hid (S.by b = bS) := ⟨_, rfl⟩
  have LF : Hid (fS.length = 32) := by rw [← hfs.out]; exact S.by_length f
  have LA : Hid (aS.length = 32) := by rw [← has.out]; exact S.by_length a
  have LB : Hid (bS.length = 32) := by rw [← hbs.out]; exact S.by_length b
  clear hv hT
  go_enter Tryd.func4, Tryd.ntmps4
  have s0 : Hid (Kn ((((w.alloc (.cells (bR (A)).toArray 22)).alloc (.cells (bR (f)).toArray 22)).alloc (.cells (bR (a)).toArray 22)).alloc (.cells (bR (b)).toArray 22)) [(w.heap.size + 1 + 1 + 1, (bR (b))), (w.heap.size + 1 + 1, (bR (a))), (w.heap.size + 1, (bR (f))), (w.heap.size, (bR (A)))]) := (((((Kn.nil w).al (bR (A)) 22 rfl).al (bR (f)) 22 (by simp)).al (bR (a)) 22 (by simp)).al (bR (b)) 22 (by simp))
  have b0 : Hid (Below w.heap.size w ((((w.alloc (.cells (bR (A)).toArray 22)).alloc (.cells (bR (f)).toArray 22)).alloc (.cells (bR (a)).toArray 22)).alloc (.cells (bR (b)).toArray 22))) := (((((Below.refl _ _).alloc (Nat.le_refl _) _).alloc (by simp <;> omega) _).alloc (by simp <;> omega) _).alloc (by simp <;> omega) _)
  go_wp2_with fail
  refine wp_region_two 0 2 [1, 3, 4] [_, _, _] (.slice (some ⟨w.heap.size + 1, 0, none⟩) 32 32) (.slice (some ⟨w.heap.size + 1 + 1, 0, none⟩) 32 32) (by kernel_rfl) (by kernel_rfl) (fun _ _ d _ _ h => by cases d <;> exact h) rfl rfl (by kernel_rfl) (by kernel_rfl) rfl rfl (by kernel_rfl) (.inl ⟨rfl, exec_all32 _ rfl _ rfl⟩) (.inl ⟨rfl, exec_all32 _ rfl _ rfl⟩) ?_
  intro w1 hb1 hh1
  clear hh1
  simp only [Act.put, List.setIfInBounds_toArray, List.set_cons_succ, List.set_cons_zero, List.getElem_toArray, List.getElem_cons_zero, List.getElem_cons_succ]
  have s1 : Hid (Kn w1 [(w.heap.size + 1 + 1 + 1, bR b), (w.heap.size + 1 + 1, bR a), (w.heap.size + 1, bR f), (w.heap.size, bR A)]) := s0.out.up hb1.out
  have b1 : Hid (Below w.heap.size w w1) := b0.out.trans (hb1.out.mono b0.out.size)
  clear s0 b0 hb1
  have YX := Kn.by32 s1.out 2 rfl
  rw [hfs.out] at YX
  go_wp2_with (refine wp_appB rfl _ _ rfl w1.heap.size (.slice none 0 0) _ [] fS w1 rfl (Ob.nil _ _) (Below.refl _ _) rfl YX (by rw [LF.out]; decide) (Nat.le_refl _) ?_)
  intro v2 w2 o2 _ hb2
  have s2 : Hid (Kn w2 [(w.heap.size + 1 + 1 + 1, bR b), (w.heap.size + 1 + 1, bR a), (w.heap.size + 1, bR f), (w.heap.size, bR A)]) := s1.out.up hb2
  have YY := Kn.by32 s2.out 1 rfl
  rw [has.out] at YY
  have O2 : Hid (Ob w2 w1.heap.size v2 fS) := o2
  have G2 : Hid (w1.heap.size ≤ w2.heap.size) := hb2.size
  have G1 : Hid (w.heap.size ≤ w1.heap.size) := b1.out.size
  have H2 : Hid (Below w1.heap.size w1 w2) := hb2
  clear YX o2 hb2 s2
  go_wp2_with (refine wp_appB rfl _ _ rfl w1.heap.size v2 _ fS aS w2 rfl O2.out (Below.refl _ _) rfl YY (by rw [LF.out, LA.out]; decide) G2.out ?_)
  intro v3 w3 o3 _ hb3
  have X3 : Hid (By w3 v3 (S.by f ++ S.by a)) := by rw [hfs.out, has.out]; exact o3.by
  have s3 : Hid (Kn w3 [(w.heap.size + 1 + 1 + 1, bR b), (w.heap.size + 1 + 1, bR a), (w.heap.size + 1, bR f), (w.heap.size, bR A)]) := s1.out.up (H2.out.trans hb3)
  have b3 : Hid (Below w.heap.size w w3) := b1.out.trans ((H2.out.trans hb3).mono G1.out)
  clear YY O2 o3 hb3 b1 G2 G1 H2 s1
  go_wp2_with fail
  refine wp_region_two 0 2 [1, 3, 4] [_, _, _] (.slice (some ⟨w.heap.size + 1, 0, none⟩) 32 32) (.slice (some ⟨w.heap.size + 1 + 1 + 1, 0, none⟩) 32 32) (by kernel_rfl) (by kernel_rfl) (fun _ _ d _ _ h => by cases d <;> exact h) rfl rfl (by kernel_rfl) (by kernel_rfl) rfl rfl (by kernel_rfl) (.inl ⟨rfl, exec_all32 _ rfl _ rfl⟩) (.inl ⟨rfl, exec_all32 _ rfl _ rfl⟩) ?_
  intro w4 hb4 hh4
  clear hh4
  simp only [Act.put, List.setIfInBounds_toArray, List.set_cons_succ, List.set_cons_zero, List.getElem_toArray, List.getElem_cons_zero, List.getElem_cons_succ]
  have s4 : Hid (Kn w4 [(w.heap.size + 1 + 1 + 1, bR b), (w.heap.size + 1 + 1, bR a), (w.heap.size + 1, bR f), (w.heap.size, bR A)]) := s3.out.up hb4.out
  have b4 : Hid (Below w.heap.size w w4) := b3.out.trans (hb4.out.mono b3.out.size)
  have X4 : Hid (By w4 v3 (S.by f ++ S.by a)) := X3.out.up hb4.out (Nat.le_refl _)
  clear s3 b3 hb4 X3
  have YX := Kn.by32 s4.out 2 rfl
  rw [hfs.out] at YX
  go_wp2_with (refine wp_appB rfl _ _ rfl w4.heap.size (.slice none 0 0) _ [] fS w4 rfl (Ob.nil _ _) (Below.refl _ _) rfl YX (by rw [LF.out]; decide) (Nat.le_refl _) ?_)
  intro v5 w5 o5 _ hb5
  have s5 : Hid (Kn w5 [(w.heap.size + 1 + 1 + 1, bR b), (w.heap.size + 1 + 1, bR a), (w.heap.size + 1, bR f), (w.heap.size, bR A)]) := s4.out.up hb5
  have YY := Kn.by32 s5.out 0 rfl
  rw [hbs.out] at YY
  have O5 : Hid (Ob w5 w4.heap.size v5 fS) := o5
  have G5 : Hid (w4.heap.size ≤ w5.heap.size) := hb5.size
  have G4 : Hid (w.heap.size ≤ w4.heap.size) := b4.out.size
  have H5 : Hid (Below w4.heap.size w4 w5) := hb5
  clear YX o5 hb5 s5
  go_wp2_with (refine wp_appB rfl _ _ rfl w4.heap.size v5 _ fS bS w5 rfl O5.out (Below.refl _ _) rfl YY (by rw [LF.out, LB.out]; decide) G5.out ?_)
  intro v6 w6 o6 _ hb6
  have Y6 : Hid (By w6 v6 (S.by f ++ S.by b)) := by rw [hfs.out, hbs.out]; exact o6.by
  have X6 : Hid (By w6 v3 (S.by f ++ S.by a)) := X4.out.up (H5.out.trans hb6) (Nat.le_refl _)
  have s6 : Hid (Kn w6 [(w.heap.size + 1 + 1 + 1, bR b), (w.heap.size + 1 + 1, bR a), (w.heap.size + 1, bR f), (w.heap.size, bR A)]) := s4.out.up (H5.out.trans hb6)
  have b6 : Hid (Below w.heap.size w w6) := b4.out.trans ((H5.out.trans hb6).mono G4.out)
  clear YY O5 o6 hb6 b4 G5 G4 H5 s4 X4 LF LA LB hfs has hbs
  go_wp2_with (first | refine wp_ldW rfl 22 _ rfl (w.heap.size) 0 rfl (bR (A)) _ (Kn.rng s6.out 3 rfl) Tryd.underlying22 rfl (info_bR (A)) ?_)
  refine (VX.out _ _ (HV.out.up b6.out (Nat.le_refl _)) X6.out (HT.out.up b6.out HT.out.pos)).mono ?_
  rintro e w7 ⟨rfl, hb7⟩
  replace X6 : Hid (By w7 v3 (S.by f ++ S.by a)) := By.up (xs := S.by f ++ S.by a) X6.out hb7 (Nat.le_refl _)
  replace Y6 : Hid (By w7 v6 (S.by f ++ S.by b)) := By.up (xs := S.by f ++ S.by b) Y6.out hb7 (Nat.le_refl _)
  have s7 : Hid (Kn w7 [(w.heap.size + 1 + 1 + 1, (bR (b))), (w.heap.size + 1 + 1, (bR (a))), (w.heap.size + 1, (bR (f))), (w.heap.size, (bR (A)))]) := s6.out.up hb7
  have b7 : Hid (Below w.heap.size w w7) := b6.out.trans (hb7.mono b6.out.size)
  have z7 := b7.out.size
  clear hb7 s6 b6
  go_wp2_with (first | refine wp_ldW rfl 22 _ rfl (w.heap.size) 0 rfl (bR (A)) _ (Kn.rng s7.out 3 rfl) Tryd.underlying22 rfl (info_bR (A)) ?_)
  refine (VY.out _ _ (HV.out.up b7.out (Nat.le_refl _)) Y6.out (HT.out.up b7.out HT.out.pos)).mono ?_
  rintro e w8 ⟨rfl, hb8⟩
  replace X6 : Hid (By w8 v3 (S.by f ++ S.by a)) := By.up (xs := S.by f ++ S.by a) X6.out hb8 (Nat.le_refl _)
  replace Y6 : Hid (By w8 v6 (S.by f ++ S.by b)) := By.up (xs := S.by f ++ S.by b) Y6.out hb8 (Nat.le_refl _)
  have s8 : Hid (Kn w8 [(w.heap.size + 1 + 1 + 1, (bR (b))), (w.heap.size + 1 + 1, (bR (a))), (w.heap.size + 1, (bR (f))), (w.heap.size, (bR (A)))]) := s7.out.up hb8
  have b8 : Hid (Below w.heap.size w w8) := b7.out.trans (hb8.mono b7.out.size)
  have z8 := b8.out.size
  clear hb8 s7 b7
  go_wp2_with (first | refine wp_ldW rfl 22 _ rfl (w.heap.size + 1 + 1) 0 rfl (bR (a)) _ (Kn.rng s8.out 1 rfl) Tryd.underlying22 rfl (info_bR (a)) ?_ | refine wp_ldW rfl 22 _ rfl (w.heap.size + 1 + 1 + 1) 0 rfl (bR (b)) _ (Kn.rng s8.out 0 rfl) Tryd.underlying22 rfl (info_bR (b)) ?_)
  go_ret
  exact ⟨rfl, b8.out⟩
set_option maxRecDepth 100000 in
theorem sgEq_self (n : Nat) (w : World) : (binOp .eql 22 (bV n) (bV n)).run Tryd.prog w = .ok (.bool true) w := by
  have hg : ∀ j, j < 32 → (bR n).toArray[j]? = some (.int .u8 ((n / 256 ^ j % 256 : Nat) : Int)) := fun j hj => by simp [bR, hj]
  rw [run_eql_ints (P := Tryd.prog) (t := 22) (e := 5) (n := 32) (k := .u8) Tryd.underlying22 rfl Tryd.underlying5 (by kernel_rfl) (by kernel_rfl) (fun j => ((n / 256 ^ j % 256 : Nat) : Int)) (fun j => ((n / 256 ^ j % 256 : Nat) : Int)) _ _ hg hg]
  simp
theorem signOnly_of (VC : SgVerC) (A f a b : Nat) (hA : A < 2 ^ 256) (hf : f < 2 ^ 256) (ha : a < 2 ^ 256) (hb : b < 2 ^ 256) (p : List Nat) (lp : lowP p) (v : Value) (w : World) (hv : By w v p) (hT : KTab w) :
    Calls Tryd.prog 4 #[bV A, v, bV f, bV a, bV b] w fun e w' => e = .returned (.bool true) ∧ Below w.heap.size w w' := by
  have V : ∀ s, s < 2 ^ 256 → ∀ u w, By w v p → By w u (S.by f ++ S.by s) → KTab w → Calls Tryd.prog 9 #[bV A, v, u] w fun e w' => e = .returned (.int .i64 ((Sg.ver chN A p f s : Nat) : Int)) ∧ Below w.heap.size w w' := fun s hs u w hv hu hT => by
    have := VC A hA p _ lp (low_sig f s) v u w hv hu hT
    rwa [vr_two A p hf hs] at this
  have VX := V a ha
  have VY := V b hb
  by_cases h1 : Sg.ver chN A p f a = 0
  · by_cases h2 : Sg.ver chN A p f b = 0
    · obtain rfl := Sg.ver_only h1 h2
      rw [h1] at VX
      exact signOnly_3 A f a a v p (sgEq_self a) VX VX w hv hT
    · rw [h1] at VX
      exact signOnly_2 A f a b _ (by omega) v p VX VY w hv hT
  · exact signOnly_1 A f a b _ (by omega) v p VX w hv hT
end Go.Proofs.YtfknkfninjjgbaaDoor
