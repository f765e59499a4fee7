/- The document's card of attributes: Upon. -/
import Derived.Test.YtepaapiflkkghaaQAtCw
namespace Go.Proofs.Ytepaapiflkkghaa
open Go.RowKit
attribute [local go_sem] World.cell?_alloc_some cell_alloc2 cell_alloc3 cell_alloc4 frozen?_alloc_cells frozen_out
set_option linter.unusedSimpArgs false
/-- Another's kinds over a card's, below a kind. -/
def upF (f g : Nat → Option (List Nat)) (j : Nat) : Nat → Option (List Nat) := fun i => if i < j then (g i).or (f i) else f i
theorem upF_zero (f g : Nat → Option (List Nat)) : upF f g 0 = f := by
  funext i
  unfold upF
  rw [if_neg (Nat.not_lt_zero i)]
theorem upF_put {f g : Nat → Option (List Nat)} {j : Nat} {v : List Nat} (h : g j = some v) : upF f g (j + 1) = putF (upF f g j) j v := by
  funext i
  show (if i < j + 1 then (g i).or (f i) else f i) = if i = j then some v else (if i < j then (g i).or (f i) else f i)
  by_cases e : i = j
  · subst e
    rw [if_pos (by omega), if_pos rfl, h]
    rfl
  · rw [if_neg e]
    by_cases hi : i < j
    · rw [if_pos (by omega), if_pos hi]
    · rw [if_neg (by omega), if_neg hi]
theorem upF_skip {f g : Nat → Option (List Nat)} {j : Nat} (h : g j = none) : upF f g (j + 1) = upF f g j := by
  funext i
  unfold upF
  by_cases e : i = j
  · subst e
    rw [if_pos (by omega), if_neg (by omega), h]
    rfl
  · by_cases hi : i < j
    · rw [if_pos (by omega), if_pos hi]
    · rw [if_neg (by omega), if_neg hi]
theorem crdC_congr {f g : Nat → Option (List Nat)} (h : ∀ i, i < 19 → f i = g i) : crdC f = crdC g := by
  have e : ∀ (F : Option (List Nat) → Value), (List.range 19).map (fun i => F (f i)) = (List.range 19).map fun i => F (g i) := fun F => List.map_congr_left fun i hi => by rw [h i (List.mem_range.1 hi)]
  unfold crdC
  rw [e fun o => .bool o.isSome, e fun o => .string (sOf (o.getD []))]
theorem upF_all (f g : Nat → Option (List Nat)) : crdC (upF f g 19) = crdC (ovF f g) := crdC_congr fun i hi => by
  unfold upF ovF
  rw [if_pos hi]
set_option maxRecDepth 20000 in
set_option maxHeartbeats 8000000 in
theorem upon_walk (f g : Nat → Option (List Nat)) (w : World) :
    Calls Try.prog 46 #[.agg (crdC f).toArray, .agg (crdC g).toArray] w fun e w' => e = .returned (.agg (crdC (ovF f g)).toArray) ∧ Below w.heap.size w w' := by
  have s0 : Hid (Kn (((w.alloc (.cells (crdC f).toArray 31)).alloc (.cells (crdC g).toArray 31)).alloc (.cells (crdC fun _ => none).toArray 31)) [(w.heap.size + 2, crdC fun _ => none), (w.heap.size + 1, crdC g), (w.heap.size, crdC (upF f g 0))]) := by
    rw [upF_zero]
    exact (((Kn.nil w).al (crdC f) 31 rfl).al (crdC g) 31 (by simp)).al (crdC fun _ => none) 31 (by simp)
  have b0 : Hid (Below w.heap.size w (((w.alloc (.cells (crdC f).toArray 31)).alloc (.cells (crdC g).toArray 31)).alloc (.cells (crdC fun _ => none).toArray 31))) := (((Below.refl _ _).alloc (Nat.le_refl _) _).alloc (by simp) _).alloc (by simp; omega) _
  go_enter Try.func46, Try.ntmps46
  go_wp2_with (simp only [zero_card])
  go_loopw [6] (fun i wr => ∃ j : Nat, j ≤ 19 ∧ i = .int .i64 (j : Int) ∧ Hid (Kn wr [(w.heap.size + 2, crdC fun _ => none), (w.heap.size + 1, crdC g), (w.heap.size, crdC (upF f g j))]) ∧ Hid (Below w.heap.size w wr)) (fun i _ => 19 - (intOf i).toNat)
  case atStart => exact ⟨0, Nat.zero_le _, rfl, s0, b0⟩
  case round =>
    clear s0 b0
    obtain ⟨j, hj, rfl, sk, bk⟩ := hrel
    by_cases hlt : j < 19
    · have i1 : (j : Int) < 19 := by omega
      have i0 : (0 : Int) ≤ (j : Int) := by omega
      have HJ : Hid (j < 19) := hlt
      have hc := Kn.get sk.out 1 j rfl (crdC_has g hlt)
      clear hlt hj
      cases hg : g j with
      | none =>
        rw [hg] at hc
        have s3 : Hid (Kn wr [(w.heap.size + 2, crdC fun _ => none), (w.heap.size + 1, crdC g), (w.heap.size, crdC (upF f g (j + 1)))]) := by rw [upF_skip hg]; exact sk.out
        clear sk hg
        go_wp2_with fail
        clear hc
        go_roundw
        case rel => exact ⟨j + 1, HJ.out, by go_num, s3, bk⟩
        case measure => simp [intOf]; have := HJ.out; omega
      | some v =>
        rw [hg] at hc
        have hE : Hid (crdC (upF f g (j + 1)) = crdC (putF (upF f g j) j v)) := congrArg crdC (upF_put hg)
        have HV : Hid ((crdC g)[19 + j]? = some (.string (sOf v))) := by
          have := crdC_val g HJ.out
          rw [hg] at this
          exact this
        clear hg
        go_wp2_with fail
        have W0 : Kn { wr with drawn := wr.drawn + 1 } _ := sk.out.up (Below.refl _ _).drew
        have B0 : Below w.heap.size w { wr with drawn := wr.drawn + 1 } := bk.out.drew
        have S0 : Hid (({ wr with drawn := wr.drawn + 1 } : World).cell? ⟨w.heap.size + 1, 19 + j, none⟩ = some (.string (sOf v))) := Kn.get W0 1 (19 + j) rfl HV.out
        clear hc
        refine wp_region_held (S := fun W => W.cell? ⟨w.heap.size + 1, 19 + j, none⟩ = some (.string (sOf v))) (by kernel_rfl) ?_
        refine wpAnyH_take (i := 0) (v := (.int .i64 (j : Int))) (fuel := 11) rfl (by kernel_rfl) (by kernel_rfl) (by kernel_rfl) (fun _ _ _ h => h) (.inl ⟨wanted_none rfl, fun W _ => exec_mvM (.tmp 5) rfl (by kernel_rfl) W⟩) S0.out ?_
        simp only [List.getElem_toArray, List.getElem_cons_succ, List.getElem_cons_zero, Act.put, List.setIfInBounds_toArray, List.set_cons_succ, List.set_cons_zero]
        refine wpAnyH_take (i := 1) (v := (.int .i64 (j : Int))) rfl (by kernel_rfl) (by kernel_rfl) (by kernel_rfl) (fun _ _ _ h => h) (.inl ⟨wanted_none rfl, fun W hW => exec_mvM (.tmp 5) rfl (by kernel_rfl) W⟩) S0.out ?_
        simp only [List.getElem_toArray, List.getElem_cons_succ, List.getElem_cons_zero, Act.put, List.setIfInBounds_toArray, List.set_cons_succ, List.set_cons_zero]
        refine wpAnyH_take (i := 2) (v := (.int .i64 (j : Int))) rfl (by kernel_rfl) (by kernel_rfl) (by kernel_rfl) (fun _ _ _ h => h) (.inl ⟨wanted_none rfl, fun W hW => exec_mvM (.tmp 5) rfl (by kernel_rfl) W⟩) S0.out ?_
        simp only [List.getElem_toArray, List.getElem_cons_succ, List.getElem_cons_zero, Act.put, List.setIfInBounds_toArray, List.set_cons_succ, List.set_cons_zero]
        refine wpAnyH_take (i := 3) (v := (.pointer (some ⟨w.heap.size + 1, 19, none⟩))) rfl (by kernel_rfl) (by kernel_rfl) (by kernel_rfl) (fun _ _ _ h => h) (.inl ⟨wanted_none rfl, fun W hW => exec_faC (f := 1) (.tmp 3) rfl (by decide) (by kernel_rfl) W⟩) S0.out ?_
        simp only [List.getElem_toArray, List.getElem_cons_succ, List.getElem_cons_zero, Act.put, List.setIfInBounds_toArray, List.set_cons_succ, List.set_cons_zero]
        refine wpAnyH_take (i := 4) (v := (.pointer (some ⟨w.heap.size + 1, 19 + j, none⟩))) rfl (by kernel_rfl) (by kernel_rfl) (by kernel_rfl) (fun _ _ _ h => h) (.inl ⟨wanted_none rfl, fun W hW => exec_ixS (.tmp 16) (.tmp 15) rfl (by kernel_rfl) (by kernel_rfl) HJ.out rfl W⟩) S0.out ?_
        simp only [List.getElem_toArray, List.getElem_cons_succ, List.getElem_cons_zero, Act.put, List.setIfInBounds_toArray, List.set_cons_succ, List.set_cons_zero]
        refine wpAnyH_take (i := 5) (v := (.string (sOf v))) rfl (by kernel_rfl) (by kernel_rfl) (by kernel_rfl) (fun _ _ _ h => h) (.inl ⟨wanted_none rfl, fun W hW => exec_lds (.tmp 17) rfl (by kernel_rfl) W hW⟩) S0.out ?_
        simp only [List.getElem_toArray, List.getElem_cons_succ, List.getElem_cons_zero, Act.put, List.setIfInBounds_toArray, List.set_cons_succ, List.set_cons_zero]
        refine wpAnyH_take (i := 6) (v := (.pointer (some ⟨w.heap.size, 0, none⟩))) rfl (by kernel_rfl) (by kernel_rfl) (by kernel_rfl) (fun _ _ _ h => h) (.inl ⟨wanted_none rfl, fun W hW => exec_faC (f := 0) (.tmp 2) rfl (by decide) (by kernel_rfl) W⟩) S0.out ?_
        simp only [List.getElem_toArray, List.getElem_cons_succ, List.getElem_cons_zero, Act.put, List.setIfInBounds_toArray, List.set_cons_succ, List.set_cons_zero]
        refine wpAnyH_take (i := 7) (v := (.pointer (some ⟨w.heap.size, j, none⟩))) rfl (by kernel_rfl) (by kernel_rfl) (by kernel_rfl) (fun _ _ _ h => h) (.inl ⟨wanted_none rfl, fun W hW => exec_ixB (.tmp 19) (.tmp 13) rfl (by kernel_rfl) (by kernel_rfl) HJ.out (Nat.zero_add j) W⟩) S0.out ?_
        simp only [List.getElem_toArray, List.getElem_cons_succ, List.getElem_cons_zero, Act.put, List.setIfInBounds_toArray, List.set_cons_succ, List.set_cons_zero]
        refine wpAnyH_take (i := 9) (v := (.pointer (some ⟨w.heap.size, 19, none⟩))) rfl (by kernel_rfl) (by kernel_rfl) (by kernel_rfl) (fun _ _ _ h => h) (.inl ⟨wanted_none rfl, fun W hW => exec_faC (f := 1) (.tmp 2) rfl (by decide) (by kernel_rfl) W⟩) S0.out ?_
        simp only [List.getElem_toArray, List.getElem_cons_succ, List.getElem_cons_zero, Act.put, List.setIfInBounds_toArray, List.set_cons_succ, List.set_cons_zero]
        refine anyH_one (i := 8) (by kernel_rfl) ?_
        refine anyH_l rfl (wp_stb rfl (.tmp 20) (.const (.bool true)) rfl w.heap.size j true _ (by kernel_rfl) rfl (Kn.get W0 2 j rfl (crdC_has _ HJ.out)) (Kn.fz W0 2 rfl j) ?_)
        have W1 := Kn.set (W0.front 2 rfl) j (.bool true) (by rw [crdC_length]; have := HJ.out; omega)
        have B1 := B0.setCell (p := ⟨w.heap.size, j, none⟩) (Nat.le_refl _) (.bool true)
        have S1 : Hid _ := Kn.get W1 2 (19 + j) rfl HV.out
        clear W0 B0 S0
        refine anyH_end ⟨S1.out, ?_⟩
        simp only [List.getElem_toArray, List.getElem_cons_succ, List.getElem_cons_zero, Act.put, List.setIfInBounds_toArray, List.set_cons_succ, List.set_cons_zero]
        refine wpAnyH_take (i := 10) (v := (.pointer (some ⟨w.heap.size, 19 + j, none⟩))) rfl (by kernel_rfl) (by kernel_rfl) (by kernel_rfl) (fun _ _ _ h => h) (.inl ⟨wanted_none rfl, fun W hW => exec_ixS (.tmp 21) (.tmp 14) rfl (by kernel_rfl) (by kernel_rfl) HJ.out rfl W⟩) S1.out ?_
        simp only [List.getElem_toArray, List.getElem_cons_succ, List.getElem_cons_zero, Act.put, List.setIfInBounds_toArray, List.set_cons_succ, List.set_cons_zero]
        refine anyH_one (i := 11) (by kernel_rfl) ?_
        refine anyH_l rfl (wp_sts rfl (.tmp 22) (.tmp 18) rfl w.heap.size (19 + j) (sOf v) _ (by kernel_rfl) (by kernel_rfl) (Kn.get W1 0 (19 + j) rfl (by rw [List.getElem?_set_ne (by have := HJ.out; omega)]; exact crdC_val _ HJ.out)) (Kn.fz W1 0 rfl _) ?_)
        have W2 := Kn.set W1 (19 + j) (.string (sOf v)) (by rw [List.length_set, crdC_length]; have := HJ.out; omega)
        have B2 := B1.setCell (p := ⟨w.heap.size, 19 + j, none⟩) (Nat.le_refl _) (.string (sOf v))
        rw [crdC_put _ HJ.out, ← hE.out] at W2
        have S2 : Hid _ := Kn.get W2 2 (19 + j) rfl HV.out
        refine anyH_end ⟨S2.out, ?_⟩
        simp only [List.getElem_toArray, List.getElem_cons_succ, List.getElem_cons_zero, Act.put, List.setIfInBounds_toArray, List.set_cons_succ, List.set_cons_zero]
        refine wpAnyH_done (by kernel_rfl) ?_ _
        have s3 : Hid (Kn _ [(w.heap.size + 2, crdC fun _ => none), (w.heap.size + 1, crdC g), (w.heap.size, crdC (upF f g (j + 1)))]) := (W2.front 2 rfl).front 2 rfl
        have b3 : Hid _ := B2
        clear W1 W2 B1 B2 S1 S2 hE HV sk bk
        go_wp2_with fail
        go_roundw
        case rel => exact ⟨j + 1, HJ.out, by go_num, s3, b3⟩
        case measure => simp [intOf]; have := HJ.out; omega
    · have i1 : ¬ (j : Int) < 19 := by omega
      obtain rfl : j = 19 := by omega
      rw [upF_all] at sk
      clear hlt hj
      have TT : Hid (wr.there (w.heap.size + 2) 0 (crdC (ovF f g)).length) := Kn.there sk.out 0 rfl (by rw [crdC_length, crdC_length])
      go_wp2_with (first | refine wp_ldW rfl 31 _ rfl w.heap.size 0 rfl (crdC (ovF f g)) _ (Kn.rng sk.out 2 rfl) u_card rfl (info_card _) ?_ | refine I.wp_store_eq rfl 31 _ _ rfl (w.heap.size + 2) 0 (crdC (ovF f g)) rfl rfl TT.out (info_card _) (one_crd _) ?_)
      intro w9 hw9
      have s9 : Hid (Kn w9 [(w.heap.size + 2, crdC (ovF f g)), (w.heap.size + 1, crdC g), (w.heap.size, crdC (ovF f g))]) := by
        rw [hw9.out]
        exact Kn.put sk.out (by rw [crdC_length, crdC_length])
      have b9 : Hid (Below w.heap.size w w9) := by
        rw [hw9.out]
        exact I.below_setCells _ _ _ bk.out (by omega)
      clear hw9 sk bk TT
      go_wp2_with fail
      exact bodyPost_ret (v := .agg (crdC (ovF f g)).toArray) (I.results_cell (b := w.heap.size + 2) rfl rfl (Kn.rng s9.out 0 rfl) u_card rfl (info_card _)) rfl ⟨rfl, b9.out⟩
end Go.Proofs.Ytepaapiflkkghaa
