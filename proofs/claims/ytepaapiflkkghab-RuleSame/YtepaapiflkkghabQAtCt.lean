/- slices.Grow, slices.Concat of two slices of attributes. -/
import Derived.Test.YtepaapiflkkghabQDerWToAtA
import Derived.Test.YtepaapiflkkghabQRuGToRuI
namespace Go.Proofs.Ytepaapiflkkghab
open Go.RowKit
attribute [local go_sem] World.cell?_alloc_some cell_alloc2 cell_alloc3 cell_alloc4 frozen?_alloc_cells frozen_out
set_option linter.unusedSimpArgs false
theorem elem_atts : Try.prog.elem 22 = 38 := by kernel_rfl
theorem selem_atts : Try.prog.underlying 22 = some (.slice (Try.prog.elem 22)) := by kernel_rfl
theorem run_size_attr (w : World) : (sizeOf 38).run Try.prog w = .ok 2 w := by kernel_rfl
/-- No element of a slice. -/
theorem wp_front0 {ops : Array Oper} {rest : List Oper} {o : Oper} {act : Act} {Q : Exit → Act → World → Prop} {w : World} (hgd : o.guard = none) (x l : Operand)
    (ho : o.op = .slice 22 x none (some l) none) (A : Option Addr) (n c : Nat) (hA : A = none → c = 0) (hx : act.eval x = .slice A n c) (hl : act.eval l = .int .i64 0)
    (h : wpList Try.prog ops Q rest (act.put o.dst (.slice A 0 c)) w) : wpList Try.prog ops Q (o :: rest) act w := by
  refine wpList_plain hgd fun K hK2 => ?_
  have e : (Instr.sliceAt 22 (.slice A n c) none (some (.int .i64 0)) none).run Try.prog w = .ok (.slice A 0 c) w := by
    rw [run_sliceAt_slice (h := selem_atts), run_slice_h (ht := selem_atts) (h0 := by omega) (h2 := by omega), elem_atts, run_size_attr]
    cases A with
    | none => simp [sliced, hA rfl]
    | some p => simp [sliced, Addr.add_zero']
  unfold Oper.wp
  simp [execOp, ho, hx, hl, e, Result.andThen]
  exact hK2 _ _ h
theorem run_app0 (w : World) (B n : Nat) (ty : TypeId) (h0 : 0 < n) (hn : n ≤ 1000) (hB : B ≤ w.heap.size) :
    ∃ c w', (Builtin.append_ #[22, 3] ty #[.slice none 0 0, .int .i64 (n : Int)]).run Try.prog w = .ok (.slice (some ⟨w.heap.size, 0, none⟩) n c) w' ∧ Oa w' B (.slice (some ⟨w.heap.size, 0, none⟩) 0 c) [] ∧ Below w.heap.size w w' := by
  obtain ⟨i0, hi, hz0, hz1, hz2⟩ := info_parts iAttr
  have hr := Lib.run_append_nil_zeros (P := Try.prog) w 22 3 ty 38 i0 _ .i64 .i64 Try.uAttrs uInt_ hi hz0 n h0 (by rw [hz1]; decide) (by omega) (by rw [hz2]; omega)
  refine ⟨_, _, hr, ⟨[], rfl, ⟨rfl, .inr ⟨w.heap.size, _, _, rfl, hB, heap_alloc_new w.drew _, Nat.zero_le _, grownCap_le_maxLen w n 0 38 (by unfold maxLen; omega), ?_, by simp [flatA]⟩⟩, by simp⟩, ((Below.refl _ _).drew).alloc (Nat.le_refl _) _⟩
  have := grownCap_ge w n 0 38
  simp [size_zeroCells, Value.cells, atZ]
  omega
theorem wp_app0 {ops : Array Oper} {rest : List Oper} {o : Oper} {a : Act} {Q : Exit → Act → World → Prop} {w : World} (hgd : o.guard = none) (s x : Operand)
    (ho : o.op = .call { callee := .builtin .append, args := #[s, x], argTypes := #[22, 3] }) (B n : Nat) (h0 : 0 < n) (hn : n ≤ 1000) (hB : B ≤ w.heap.size) (hs : a.eval s = .slice none 0 0) (hx : a.eval x = .int .i64 (n : Int))
    (h : ∀ c w', Oa w' B (.slice (some ⟨w.heap.size, 0, none⟩) 0 c) [] → Below w.heap.size w w' → wpList Try.prog ops Q rest (a.put o.dst (.slice (some ⟨w.heap.size, 0, none⟩) n c)) w') : wpList Try.prog ops Q (o :: rest) a w := by
  obtain ⟨c, w', hr, h1, h2⟩ := run_app0 w B n o.type h0 hn hB
  exact Lib.wpList_append_run w hgd s x _ _ ho _ _ hs hx _ w' hr (h c w' h1 h2)
set_option maxHeartbeats 2000000 in
/-- slices.Grow of no slice: room for so many. -/
theorem grow_fun (n : Nat) (hn : n ≤ 1000) (B : Nat) (w : World) (hB : B ≤ w.heap.size) :
    Calls Try.prog 51 #[.slice none 0 0, .int .i64 (n : Int)] w fun e w' => (∃ u, e = .returned u ∧ Oa w' B u []) ∧ Below w.heap.size w w' := by
  have n0 : ¬ (n : Int) < 0 := by omega
  have HN : Hid (n ≤ 1000) := hn
  have HB : Hid (B ≤ w.heap.size) := hB
  have n1000 : (n : Int) ≤ 1000 := by omega
  clear hn hB
  by_cases h0 : n = 0
  · subst h0
    have o0 : Hid (Oa w B (.slice none 0 0) []) := Oa.nil _ _
    go_enter Try.func51, Try.ntmps51
    go_wp2_with fail
    go_ret
    exact ⟨⟨_, rfl, o0.out⟩, Below.refl _ _⟩
  · have n1 : (n : Int) > 0 := by omega
    have H0 : Hid (0 < n) := by show 0 < n; omega
    clear h0
    go_enter Try.func51, Try.ntmps51
    go_wp2_with (first | refine wp_front0 rfl _ _ rfl none 0 0 (fun _ => rfl) rfl rfl ?_ | refine wp_app0 rfl _ _ rfl B n H0.out HN.out HB.out rfl rfl ?_)
    intro c w1 ho hb
    have O1 : Hid (Oa w1 B (.slice (some ⟨w.heap.size, 0, none⟩) 0 c) []) := ho
    have B1 : Hid (Below w.heap.size w w1) := hb
    clear ho hb
    go_wp2_with (refine wp_front0 rfl _ _ rfl (some ⟨w.heap.size, 0, none⟩) n c (fun h => by cases h) rfl rfl ?_)
    go_ret
    exact ⟨⟨_, rfl, O1.out⟩, B1.out⟩
set_option maxRecDepth 20000 in
set_option maxHeartbeats 4000000 in
theorem concat_walk (b : Nat) (a1 a2 : Option Addr) (n1 n2 c1 c2 : Nat) (t l : List Ar) (h1 : n1 ≤ 24) (h2 : n2 ≤ 24) (e1 : t.length = n1) (e2 : l.length = n2) (w : World)
    (HK : Hid (Kn w [(b, [.slice a1 n1 c1, .slice a2 n2 c2])])) (HT : Hid (Ats w (.slice a1 n1 c1) t)) (HL : Hid (Ats w (.slice a2 n2 c2) l))
    (G1 : ∀ W, Below w.heap.size w W → Calls Try.prog 51 #[.slice none 0 0, .int .i64 ((n1 : Int) + (n2 : Int))] W fun e w' => (∃ u, e = .returned u ∧ Oa w' w.heap.size u []) ∧ Below W.heap.size W w') :
    Calls Try.prog 45 #[.slice (some ⟨b, 0, none⟩) 2 2] w fun e w' => (∃ u, e = .returned u ∧ Oa w' w.heap.size u (t ++ l)) ∧ Below w.heap.size w w' := by
  have HN : Hid (t.length = n1 ∧ l.length = n2 ∧ n1 ≤ 24 ∧ n2 ≤ 24) := ⟨e1, e2, h1, h2⟩
  have z1 : (n1 : Int) ≤ 24 := by omega
  have z2 : (n2 : Int) ≤ 24 := by omega
  have y1 : (0 : Int) ≤ (n1 : Int) := by omega
  have y2 : (0 : Int) ≤ (n2 : Int) := by omega
  have g1 : ¬ (n1 : Int) < 0 := by omega
  have g2 : ¬ (n1 : Int) + (n2 : Int) < 0 := by omega
  have u0 := Kn.get HK.out 0 0 rfl rfl
  have u1 := Kn.get HK.out 0 1 rfl rfl
  clear h1 h2 e1 e2
  go_enter Try.func45, Try.ntmps45
  go_wp2_with fail
  refine wp_loop_rounds 3 ?_
  rw [rounds_succ]
  go_wp2_with fail
  rw [rounds_succ]
  go_wp2_with fail
  rw [rounds_succ]
  go_wp2_with fail
  clear g1 g2 u0 u1
  refine (G1 w (Below.refl _ _)).mono ?_
  rintro e w1 ⟨⟨v, rfl, hv⟩, hb⟩
  have b1 : Hid (Below w.heap.size w w1) := hb
  have o1 : Hid (Oa w1 w.heap.size v []) := hv
  have T1 : Hid (As w1 w.heap.size (.slice a1 n1 c1) t) := HT.out.as.up hb
  have L1 : Hid (As w1 w.heap.size (.slice a2 n2 c2) l) := HL.out.as.up hb
  have k1 := HK.out.up hb
  have u0 := Kn.get k1 0 0 rfl rfl
  have u1 := Kn.get k1 0 1 rfl rfl
  clear hv hb G1 k1
  clear y1 y2
  go_wp2_with fail
  refine wp_loop_rounds 3 ?_
  rw [rounds_succ]
  go_wp2_with (refine wp_appA rfl _ _ rfl w.heap.size _ _ [] t rfl o1.out rfl T1.out (by have := HN.out; simp only [List.length_nil]; omega) b1.out.size ?_)
  intro v2 w2 ho2 hg2
  have b2 : Hid (Below w.heap.size w w2) := Below.grown b1.out hg2 b1.out.size fun g hg => o1.out.ge g hg
  have o2 : Hid (Oa w2 w.heap.size v2 t) := ho2
  have L2 : Hid (As w2 w.heap.size (.slice a2 n2 c2) l) := HL.out.as.up b2.out
  have u2 := Kn.get (HK.out.up b2.out) 0 1 rfl rfl
  clear ho2 hg2 b1 o1 T1 L1 u0 u1
  go_wp2_with fail
  rw [rounds_succ]
  go_wp2_with (refine wp_appA rfl _ _ rfl w.heap.size _ _ t l rfl o2.out rfl L2.out (by have := HN.out; omega) b2.out.size ?_)
  intro v3 w3 ho3 hg3
  have b3 : Hid (Below w.heap.size w w3) := Below.grown b2.out hg3 b2.out.size fun g hg => o2.out.ge g hg
  have o3 : Hid (Oa w3 w.heap.size v3 (t ++ l)) := ho3
  clear ho3 hg3 b2 o2 L2 u2
  go_wp2_with fail
  rw [rounds_succ]
  go_wp2_with fail
  go_ret
  exact ⟨⟨_, rfl, o3.out⟩, b3.out⟩
/-- slices.Concat of two slices, each of few attributes. -/
theorem concat_fun (b : Nat) (t l : List Ar) (ht : t.length ≤ 24) (hl : l.length ≤ 24) (u v : Value) (w : World) (hk : Kn w [(b, [u, v])]) (hu : Ats w u t) (hv : Ats w v l) :
    Calls Try.prog 45 #[.slice (some ⟨b, 0, none⟩) 2 2] w fun e w' => (∃ u, e = .returned u ∧ Ats w' u (t ++ l)) ∧ Below w.heap.size w w' := by
  obtain ⟨a1, c1, rfl⟩ := ats_parts hu
  obtain ⟨a2, c2, rfl⟩ := ats_parts hv
  refine (concat_walk b a1 a2 _ _ c1 c2 t l ht hl rfl rfl w hk hu hv fun W hW => ?_).mono fun e w' ⟨⟨u, he, ho⟩, hb⟩ => ⟨⟨u, he, ho.ats⟩, hb⟩
  rw [← Int.natCast_add]
  exact grow_fun _ (by omega) _ W hW.size
end Go.Proofs.Ytepaapiflkkghab
