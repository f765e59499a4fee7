/- The contract of slices.Equal of two rows of digests that are one. -/
import Derived.Test.YtmpniingbioggaaDoorTClm
namespace Go.Proofs.YtmpniingbioggaaDoor
open Go.RowKit
open Go.BigFrame
set_option linter.unusedSimpArgs false
section
variable {ops : Array Oper} {rest : List Oper} {o : Oper} {a : Act} {C : World → Prop} {Q : Act → Prop}
theorem quiet_neD (hgd : Region.wanted o (yielded ops a.tmps) = true) (x y : Operand) (u : TypeId) (ho : o.op = .binOp .neq 24 x y u) (xs : List Nat) (hl : xs.length = 32) (hx : a.eval x = vB xs) (hy : a.eval y = vB xs) (h : wpQuiet Tryd.prog ops C Q rest (a.put o.dst (.bool false))) : wpQuiet Tryd.prog ops C Q (o :: rest) a := by
  refine wpQuiet_want hgd fun K hK => ⟨.bool false, fun w hw => ?_, hK _ h⟩
  have e : (execOp a.eval o).run Tryd.prog w = .ok (.value (.bool false)) w := by
    have e1 := neq_self xs hl w
    unfold execOp
    simp [ho, hx, hy, e1, eqGuard]
  unfold Oper.quietAt
  rw [e]
  exact ⟨rfl, rfl⟩
theorem quiet_eqD (hgd : Region.wanted o (yielded ops a.tmps) = true) (x y : Operand) (u : TypeId) (ho : o.op = .binOp .eql 24 x y u) (xs : List Nat) (hl : xs.length = 32) (hx : a.eval x = vB xs) (hy : a.eval y = vB xs) (h : wpQuiet Tryd.prog ops C Q rest (a.put o.dst (.bool true))) : wpQuiet Tryd.prog ops C Q (o :: rest) a := by
  refine wpQuiet_want hgd fun K hK => ⟨.bool true, fun w hw => ?_, hK _ h⟩
  have e : (execOp a.eval o).run Tryd.prog w = .ok (.value (.bool true)) w := by
    have e1 := eql_self xs hl w
    unfold execOp
    simp [ho, hx, hy, e1, eqGuard]
  unfold Oper.quietAt
  rw [e]
  exact ⟨rfl, rfl⟩
end
set_option maxRecDepth 20000 in
set_option maxHeartbeats 2000000 in
theorem equalD_fun (ds : List (List Nat)) (low : Dlow ds) (zd : ds.length ≤ 1000000) (v1 v2 : Value) (w : World) (h1 : Ds w v1 ds) (h2 : Ds w v2 ds) :
    Calls Tryd.prog 17 #[v1, v2] w fun e w' => e = .returned (.bool true) ∧ Below w.heap.size w w' := by
  obtain ⟨a1, c1, rfl, hc1, r1⟩ := id h1
  obtain ⟨a2, c2, rfl, hc2, r2⟩ := id h2
  have R1 : Hid _ := r1
  have R2 : Hid _ := r2
  have LO : Hid (Dlow ds) := low
  generalize hm : ds.length = m at *
  have HM : Hid (ds.length = m) := hm
  clear h1 h2 r1 r2 low hc1 hc2 hm
  go_enter Tryd.func17, Tryd.ntmps17
  go_wp2_with fail
  go_loopw [13] (fun i wr => ∃ k : Nat, k ≤ m ∧ i = .int .i64 (k : Int) ∧ Hid (Below w.heap.size w wr)) (fun i _ => m - (intOf i).toNat)
  case atStart => exact ⟨0, by omega, rfl, Below.refl _ _⟩
  case round =>
    obtain ⟨k, hk, rfl, hb⟩ := hrel
    by_cases hlt : k < m
    · have i1 : (k : Int) < (m : Int) := by omega
      have i0 : (0 : Int) ≤ (k : Int) := by omega
      obtain ⟨b1, o1, rfl, q1⟩ := R1.out (by omega)
      obtain ⟨b2, o2, rfl, q2⟩ := R2.out (by omega)
      have A0 : Hid _ := (LO.out.at (j := k) (by rw [HM.out]; exact hlt)).1
      have K1 : Hid (wr.rangeAt b1 (o1 + k * 32) ((ds.getD k []).map b8)) := range_up (q1 k hlt) hb.out (Nat.le_refl _)
      have K2 : Hid (wr.rangeAt b2 (o2 + k * 32) ((ds.getD k []).map b8)) := range_up (q2 k hlt) hb.out (Nat.le_refl _)
      generalize ds.getD k [] = dk at *
      clear q1 q2 R1 R2
      go_wp2_with fail
      refine wp_region_up (by kernel_rfl) (by kernel_rfl) (fun U hU f hf hcl => ?_)
      have N1 : Hid (∀ n, (f n).rangeAt b1 (o1 + k * 32) (dk.map b8)) := fun n => range_up K1.out (hf n).out (Nat.le_refl _)
      have N2 : Hid (∀ n, (f n).rangeAt b2 (o2 + k * 32) (dk.map b8)) := fun n => range_up K2.out (hf n).out (Nat.le_refl _)
      repeat (first | (refine quiet_ld rfl (.tmp 18) rfl b1 (o1 + k * 32) rfl dk A0.out (fun W hW => by obtain ⟨n, rfl⟩ := hW; exact N1.out n) ?_; simp only [Act.put, List.setIfInBounds_toArray, List.set_cons_succ, List.set_cons_zero]) | (refine quiet_ld rfl (.tmp 22) rfl b2 (o2 + k * 32) rfl dk A0.out (fun W hW => by obtain ⟨n, rfl⟩ := hW; exact N2.out n) ?_; simp only [Act.put, List.setIfInBounds_toArray, List.set_cons_succ, List.set_cons_zero]) | (refine quiet_neD rfl (.tmp 19) (.tmp 23) _ rfl dk A0.out rfl rfl ?_; simp only [Act.put, List.setIfInBounds_toArray, List.set_cons_succ, List.set_cons_zero]) | go_big_quiet_step (fail))
      refine wpQuiet_nil ?_
      intro nn
      have hb3 := (hf nn).out
      generalize f nn = w3 at hb3 ⊢
      have D3 : Hid (Below w.heap.size w w3) := hb.out.trans (hb3.mono hb.out.size)
      clear hf hcl hb3 N1 N2 K1 K2
      go_wp2_with fail
      go_roundw
      case rel => exact ⟨k + 1, by omega, by go_num, D3⟩
      case measure => simp [intOf]; omega
    · obtain rfl : k = m := by omega
      go_wp2_with fail
      go_ret
      exact ⟨rfl, hb.out⟩
end Go.Proofs.YtmpniingbioggaaDoor
