/- The contract of slices.Equal of two rows of words. -/
import Derived.Test.YtnmkgddphcfajaaGrp10
import Derived.Test.YtnmkgddphcfajaaAMath
import Derived.Test.YtnmkgddphcfajaaRCol
namespace Go.Proofs.Ytnmkgddphcfajaa
open Go.RowKit
set_option linter.unusedSimpArgs false
theorem guardQ : Try.prog.eqGuardType Try.prog.depth 24 = false := by kernel_rfl
theorem ne_at {ws vs : List (List Nat)} {k : Nat} (h : ws.getD k [] ≠ vs.getD k []) : ¬ ws = vs := fun e => h (by rw [e])
theorem all_at {ws vs : List (List Nat)} (hl : ws.length = vs.length) (h : ∀ i, i < ws.length → ws.getD i [] = vs.getD i []) : ws = vs := by
  apply List.ext_getElem hl
  intro i h1 h2
  have := h i h1
  rwa [List.getD_eq_getElem?_getD, List.getD_eq_getElem?_getD, List.getElem?_eq_getElem h1, List.getElem?_eq_getElem h2] at this
set_option maxRecDepth 20000 in
set_option maxHeartbeats 2000000 in
theorem equalQ_fun (ws vs : List (List Nat)) (hw : A.okW ws) (hv : A.okW vs) (zw : ws.length ≤ 1000000) (v1 v2 : Value) (w : World) (h1 : Qs w v1 ws) (h2 : Qs w v2 vs) :
    Calls Try.prog 9 #[v1, v2] w fun e w' => e = .returned (.bool (decide (ws = vs))) ∧ Below w.heap.size w w' := by
  obtain ⟨a1, c1, rfl, hc1, r1⟩ := id h1
  obtain ⟨a2, c2, rfl, hc2, r2⟩ := id h2
  by_cases hl : ws.length = vs.length
  · have LW : Hid (∀ k, k < ws.length → (ws.getD k []).length = 4) := fun k hk => by
      rw [List.getD_eq_getElem?_getD, List.getElem?_eq_getElem hk]
      exact (hw _ (List.getElem_mem hk)).1
    have LV : Hid (∀ k, k < ws.length → (vs.getD k []).length = 4) := fun k hk => by
      rw [List.getD_eq_getElem?_getD, List.getElem?_eq_getElem (by omega)]
      exact (hv _ (List.getElem_mem _)).1
    have ALL : Hid ((∀ i, i < ws.length → ws.getD i [] = vs.getD i []) → decide (ws = vs) = true) := fun h => decide_eq_true (all_at hl h)
    have NOT : Hid (∀ k, ws.getD k [] ≠ vs.getD k [] → decide (ws = vs) = false) := fun k h => decide_eq_false (ne_at h)
    rw [← hl] at r2 ⊢
    have R1 : Hid _ := r1
    have R2 : Hid _ := r2
    generalize decide (ws = vs) = ans at *
    generalize ws.length = m at *
    clear h1 h2 r1 r2 hw hv hc1 hc2 hl
    go_enter Try.func9, Try.ntmps9
    go_wp2_with fail
    go_loopw [13] (fun i wr => ∃ k : Nat, k ≤ m ∧ i = .int .i64 (k : Int) ∧ Hid (∀ i, i < k → ws.getD i [] = vs.getD i []) ∧ Hid (Below w.heap.size w wr)) (fun i _ => m - (intOf i).toNat)
    case atStart => exact ⟨0, by omega, rfl, fun i hi => absurd hi (Nat.not_lt_zero _), Below.refl _ _⟩
    case round =>
      obtain ⟨k, hk, rfl, same, hb⟩ := hrel
      by_cases hlt : k < m
      · have i1 : (k : Int) < (m : Int) := by omega
        have i0 : (0 : Int) ≤ (k : Int) := by omega
        obtain ⟨b1, o1, rfl, q1⟩ := R1.out (by omega)
        obtain ⟨b2, o2, rfl, q2⟩ := R2.out (by omega)
        have K1 : Hid (wr.rangeAt b1 (o1 + k * 4) ((ws.getD k []).map b8)) := range_upq (q1 k hlt) hb.out (Nat.le_refl _)
        have K2 : Hid (wr.rangeAt b2 (o2 + k * 4) ((vs.getD k []).map b8)) := range_upq (q2 k hlt) hb.out (Nat.le_refl _)
        have A1 : Hid _ := LW.out k hlt
        have A2 : Hid _ := LV.out k hlt
        have NK : Hid _ := NOT.out k
        obtain ⟨dk, hdk⟩ : ∃ d, ws.getD k [] = d := ⟨_, rfl⟩
        obtain ⟨ek, hek⟩ : ∃ d, vs.getD k [] = d := ⟨_, rfl⟩
        rw [hdk] at K1 A1 NK
        rw [hek] at K2 A2 NK
        have HS : Hid (dk = ek → ∀ i, i < k + 1 → ws.getD i [] = vs.getD i []) := fun e i hi => by
          rcases Nat.lt_succ_iff_lt_or_eq.1 hi with h | rfl
          · exact same.out i h
          · rw [hdk, hek, e]
        have K3 : Hid (k < m) := hlt
        clear q1 q2 hdk hek same hk hlt
        by_cases he : dk = ek
        · have EB : (!decide (dk = ek)) = false := by rw [decide_eq_true he]; rfl
          have HS2 : Hid _ := HS.out he
          have HEB : Hid ((!decide (dk = ek)) = false) := EB
          clear he HS NK EB
          go_wp2_with fail
          refine wp_region_up (by kernel_rfl) (by kernel_rfl) (fun U hU f hf hcl => ?_)
          have N1 : Hid (∀ n, (f n).rangeAt b1 (o1 + k * 4) (dk.map b8)) := fun n => range_upq K1.out (hf n).out (Nat.le_refl _)
          have N2 : Hid (∀ n, (f n).rangeAt b2 (o2 + k * 4) (ek.map b8)) := fun n => range_upq K2.out (hf n).out (Nat.le_refl _)
          repeat (first | (refine quietA_ld rfl u_a4 info_a4 (.tmp 18) rfl b1 (o1 + k * 4) rfl dk A1.out (fun W hW => by obtain ⟨n, rfl⟩ := hW; exact N1.out n) ?_; simp only [Act.put, List.setIfInBounds_toArray, List.set_cons_succ, List.set_cons_zero]) | (refine quietA_ld rfl u_a4 info_a4 (.tmp 22) rfl b2 (o2 + k * 4) rfl ek A2.out (fun W hW => by obtain ⟨n, rfl⟩ := hW; exact N2.out n) ?_; simp only [Act.put, List.setIfInBounds_toArray, List.set_cons_succ, List.set_cons_zero]) | (refine quietA_ne rfl u_a4 guardQ (.tmp 19) (.tmp 23) _ rfl dk ek A1.out A2.out rfl rfl false HEB.out ?_; simp only [Act.put, List.setIfInBounds_toArray, List.set_cons_succ, List.set_cons_zero]) | go_big_quiet_step (fail))
          refine wpQuiet_nil ?_
          intro nn
          have hb3 := (hf nn).out
          generalize f nn = w3 at hb3 ⊢
          have D3 : Hid (Below w.heap.size w w3) := hb.out.trans (hb3.mono hb.out.size)
          clear hf hcl hb3 N1 N2 K1 K2
          go_wp2_with fail
          go_roundw
          case rel => exact ⟨k + 1, K3.out, by go_num, HS2, D3⟩
          case measure => have := K3.out; simp [intOf]; omega
        · have EB : (!decide (dk = ek)) = true := by rw [decide_eq_false he]; rfl
          have AN : Hid (ans = false) := NK.out he
          have HEB : Hid ((!decide (dk = ek)) = true) := EB
          clear he HS NK EB
          go_wp2_with fail
          refine wp_region_up (by kernel_rfl) (by kernel_rfl) (fun U hU f hf hcl => ?_)
          have N1 : Hid (∀ n, (f n).rangeAt b1 (o1 + k * 4) (dk.map b8)) := fun n => range_upq K1.out (hf n).out (Nat.le_refl _)
          have N2 : Hid (∀ n, (f n).rangeAt b2 (o2 + k * 4) (ek.map b8)) := fun n => range_upq K2.out (hf n).out (Nat.le_refl _)
          repeat (first | (refine quietA_ld rfl u_a4 info_a4 (.tmp 18) rfl b1 (o1 + k * 4) rfl dk A1.out (fun W hW => by obtain ⟨n, rfl⟩ := hW; exact N1.out n) ?_; simp only [Act.put, List.setIfInBounds_toArray, List.set_cons_succ, List.set_cons_zero]) | (refine quietA_ld rfl u_a4 info_a4 (.tmp 22) rfl b2 (o2 + k * 4) rfl ek A2.out (fun W hW => by obtain ⟨n, rfl⟩ := hW; exact N2.out n) ?_; simp only [Act.put, List.setIfInBounds_toArray, List.set_cons_succ, List.set_cons_zero]) | (refine quietA_ne rfl u_a4 guardQ (.tmp 19) (.tmp 23) _ rfl dk ek A1.out A2.out rfl rfl true HEB.out ?_; simp only [Act.put, List.setIfInBounds_toArray, List.set_cons_succ, List.set_cons_zero]) | go_big_quiet_step (fail))
          refine wpQuiet_nil ?_
          intro nn
          have hb3 := (hf nn).out
          generalize f nn = w3 at hb3 ⊢
          have D3 : Hid (Below w.heap.size w w3) := hb.out.trans (hb3.mono hb.out.size)
          clear hf hcl hb3 N1 N2 K1 K2
          go_wp2_with fail
          go_ret
          exact ⟨by rw [AN.out]; rfl, D3.out⟩
      · obtain rfl : k = m := by omega
        have AN : Hid (ans = true) := ALL.out same.out
        go_wp2_with fail
        go_ret
        exact ⟨by rw [AN.out]; rfl, hb.out⟩
  · have nl : ¬ (ws.length : Int) = (vs.length : Int) := by omega
    have AN : Hid (decide (ws = vs) = false) := decide_eq_false fun e => hl (by rw [e])
    rw [AN.out]
    generalize ws.length = m1 at *
    generalize vs.length = m2 at *
    clear h1 h2 r1 r2 hw hv hc1 hc2 hl
    go_enter Try.func9, Try.ntmps9
    go_wp2_with fail
    go_ret
    exact ⟨rfl, Below.refl _ _⟩
end Go.Proofs.Ytnmkgddphcfajaa
