/- The contracts of sealringkeep.trees and of slices.Clone of a row of digests. -/
import Derived.Test.YtmpniingbioggaaDoorTBeside
namespace Go.Proofs.YtmpniingbioggaaDoor
open Go.RowKit
set_option linter.unusedSimpArgs false
theorem neq_apart (xs ys : List Nat) (hl : xs.length = 32) (hl' : ys.length = 32) (h0 : xs.getD 0 0 ≠ ys.getD 0 0) (w : World) : (binOp .neq 24 (vB xs) (vB ys)).run Tryd.prog w = .ok (.bool true) w := by
  obtain ⟨i0, hi, _⟩ := info_parts Tryd.iU8
  have hg : ∀ (xs : List Nat), xs.length = 32 → ∀ j, j < 32 → (xs.map b8).toArray[j]? = some (.int .u8 ((xs.getD j 0 : Nat) : Int)) := fun xs hl j hj => by
    have : j < xs.length := by omega
    simp [List.getD_eq_getElem?_getD, this]
  rw [run_neq_ints (P := Tryd.prog) (t := 24) (e := 5) (n := 32) (k := .u8) u_d32 hi Tryd.uU8 plain_u8 cells_u8 (fun j => ((xs.getD j 0 : Nat) : Int)) (fun j => ((ys.getD j 0 : Nat) : Int)) _ _ (hg xs hl) (hg ys hl')]
  have : ((List.range 32).all fun j => ((xs.getD j 0 : Nat) : Int) == ((ys.getD j 0 : Nat) : Int)) = false := by
    rw [List.all_eq_false]
    refine ⟨0, by simp, ?_⟩
    intro h
    apply h0
    have := eq_of_beq h
    omega
  rw [this]
  rfl
theorem wp_neA {ops : Array Oper} {rest : List Oper} {o : Oper} {a : Act} {Q : Exit → Act → World → Prop} {w : World} (hgd : Region.wanted o (yielded ops a.tmps) = true) (x y : Operand) (u : TypeId)
    (ho : o.op = .binOp .neq 24 x y u) (xs ys : List Nat) (hl : xs.length = 32) (hl' : ys.length = 32) (h0 : xs.getD 0 0 ≠ ys.getD 0 0) (hx : a.eval x = vB xs) (hy : a.eval y = vB ys) (h : wpList Tryd.prog ops Q rest (a.put o.dst (.bool true)) w) : wpList Tryd.prog ops Q (o :: rest) a w := by
  refine wpList_wanted hgd fun K hK => ?_
  have e := neq_apart xs ys hl hl' h0 w
  unfold Oper.wp
  simp [execOp, ho, hx, hy, e, eqGuard, Result.andThen]
  exact hK _ _ h
theorem root_empty : (rootS []).getD 0 0 ≠ 0 := by
  obtain ⟨l, h, _⟩ := sum_empty
  rw [rootS_nil, h]
  simp
set_option maxRecDepth 20000 in
set_option maxHeartbeats 2000000 in
theorem trees_fun (w : World) (hT : KTab w) : Calls Tryd.prog 25 #[] w fun e w' => e = .returned (.bool true) ∧ Below w.heap.size w w' := by
  have S1 : Hid _ := troot_fun 0 [] (by simp) (fun p hp => by cases hp) (by simp) (.slice none 0 0) w ⟨none, 0, rfl, Nat.le_refl _, fun h => absurd h (Nat.lt_irrefl _)⟩ hT
  have E1 : Hid _ := root_empty
  have SL : Hid ((rootS []).length = 32) := rootS_length _
  clear hT
  generalize rootS [] = dd at *
  go_enter Tryd.func25, Tryd.ntmps25
  go_wp2_with fail
  refine Calls.mono S1.out ?_
  rintro e w1 ⟨rfl, hb1⟩
  have D1 : Hid (Below w.heap.size w w1) := hb1
  clear hb1 S1
  go_wp2_with (refine wp_neA rfl (.tmp 1) (.tmp 2) _ rfl dd (List.replicate 32 0) SL.out rfl E1.out rfl rfl ?_)
  go_ret
  exact ⟨rfl, D1.out⟩
theorem eql_nilD (w : World) (a : Option Addr) (l c : Nat) : (binOp .eql 25 (.slice a l c) (.slice none 0 0)).run Tryd.prog w = .ok (.bool a.isNone) w := by
  have h : ∀ d : Nat, (Op.equalIn (d + 1) 25 (.slice a l c) (.slice none 0 0)).run Tryd.prog w = .ok a.isNone w := fun d => by
    cases a <;> simp [Op.equalIn, run_underlying uDss]
  have h2 : (Op.equal 25 (.slice a l c) (.slice none 0 0)).run Tryd.prog w = .ok a.isNone w := h 9999
  simp [binOp, h2]
attribute [local go_sem] eql_nilD
set_option maxRecDepth 20000 in
set_option maxHeartbeats 2000000 in
theorem clone_fun (ds : List (List Nat)) (zd : ds.length ≤ 1000000) (v : Value) (B : Nat) (w : World) (hv : Od w B v ds) :
    Calls Tryd.prog 26 #[v] w fun e w' => (∃ v', e = .returned v' ∧ Od w' w.heap.size v' ds) ∧ Below w.heap.size w w' := by
  rcases id hv.2.2 with ⟨rfl, e2⟩ | ⟨g, cap, cur, rfl, hB, hg, hn, rest⟩
  · obtain rfl : ds = [] := List.length_eq_zero_iff.1 e2
    go_enter Tryd.func26, Tryd.ntmps26
    go_wp2_with fail
    go_ret
    exact ⟨⟨_, rfl, Od.nil _ _⟩, Below.refl _ _⟩
  · have HV : Hid (Od w B (.slice (some ⟨g, 0, none⟩) ds.length cap) ds) := hv
    obtain ⟨z0, z1⟩ := al1 w #[] 24
    have Z1 : Hid (Below _ _ _) := z1
    have O1 : Hid (World.ownsRow (w.alloc (.cells #[] 24)) w.heap.size 24 32 (.slice (some ⟨w.heap.size, 0, none⟩) 0 0) 0 []) := ⟨by simp, .inr ⟨w.heap.size, 0, #[], rfl, Nat.le_refl _, heap_alloc_new w _, Nat.le_refl _, by unfold maxLen; omega, by simp, by simp⟩⟩
    have HN : Hid (ds.length ≤ 1000000) := zd
    have DK : Hid (Dok ds) := hv.1
    clear hv rest hg hB hn z0 z1 zd
    obtain ⟨m, hm⟩ : ∃ m, m = ds.length := ⟨_, rfl⟩
    have HM : Hid (m = ds.length) := hm
    rw [← hm] at HV ⊢
    clear hm
    go_enter Tryd.func26, Tryd.ntmps26
    obtain ⟨i0, hi, hz0, hz1, hz2⟩ := info_parts iD32
    have NC : Hid (∀ j u, (ds.flatten.map b8)[j]? = some u → World.cell? (w.alloc (.cells #[] 24)) (Addr.add ⟨g, 0, none⟩ j) = some u) := fun j u hj => by
      have h2 : w.ownsRow B 24 32 (.slice (some ⟨g, 0, none⟩) ds.length cap) ds.length (ds.flatten.map b8) := by rw [← HM.out]; exact HM.out ▸ HV.out.2
      have hc := h2.cells (g := g) rfl j u hj
      rw [Addr.add_lit] at hc ⊢
      exact (Z1.out.cell (p := ⟨g, 0 + j, none⟩) (lt_of_cellB hc)).trans hc
    have NL : Hid ((ds.flatten.map b8).length = m * 32) := by
      have := HV.out.2.1
      rw [HM.out]
      exact this
    go_wp2_with (refine wpList_append_own _ rfl (.tmp 5) (.tmp 6) 25 rfl w.heap.size 24 i0 (vB (List.replicate 32 0)) 32 32 uDss hi hz0 hz1 hz2 rfl (by decide) _ 0 [] rfl O1.out ⟨g, 0, none⟩ m cap (ds.flatten.map b8) rfl NL.out NC.out (one_b8 _) (by unfold maxLen; have := HN.out; have := HM.out; omega) (by have := HN.out; have := HM.out; omega) (by simp) ?_)
    intro v' w' hown' hgr _
    have OW : Hid (Od w' w.heap.size v' ds) := ⟨DK.out, by
      have := hown'
      rw [HM.out, ← List.map_flatten] at this
      exact this⟩
    have DW : Hid (Below w.heap.size w w') := Below.grown Z1.out hgr (by simp) (fun k hk => by cases hk; exact Nat.le_refl _)
    clear hown' hgr
    go_wp2_with fail
    go_ret
    exact ⟨⟨_, rfl, OW.out⟩, DW.out⟩
end Go.Proofs.YtmpniingbioggaaDoor
