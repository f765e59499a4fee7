/- Package attr, as it landed: Over; its contracts together. -/
import Derived.Test.YtepaapiflkkghabQAtLm
import Derived.Test.YtepaapiflkkghabQAtRs
import Derived.Test.YtepaapiflkkghabQAtCt
namespace Go.Proofs.Ytepaapiflkkghab
open Go.RowKit
attribute [local go_sem] World.cell?_alloc_some cell_alloc2 cell_alloc3 cell_alloc4 frozen?_alloc_cells frozen_out
set_option linter.unusedSimpArgs false
theorem run_bs2A (a1 a2 : Option Addr) (n1 n2 c1 c2 : Nat) (w : World) : (Instr.buildSlice 75 2 #[(0, .slice a1 n1 c1), (1, .slice a2 n2 c2)]).run Try.prog w = .ok (.slice (some ⟨w.heap.size, 0, none⟩) 2 2) (w.alloc (.cells #[.slice a1 n1 c1, .slice a2 n2 c2] 22)) := by kernel_rfl
theorem wp_bs2A {ops : Array Oper} {rest : List Oper} {o : Oper} {a : Act} {Q : Exit → Act → World → Prop} {w : World} (hgd : o.guard = none) (x y : Operand) (ho : o.op = .buildSlice 75 2 #[(0, x), (1, y)]) (a1 a2 : Option Addr) (n1 n2 c1 c2 : Nat) (hx : a.eval x = .slice a1 n1 c1) (hy : a.eval y = .slice a2 n2 c2)
    (h : wpList Try.prog ops Q rest (a.put o.dst (.slice (some ⟨w.heap.size, 0, none⟩) 2 2)) (w.alloc (.cells #[.slice a1 n1 c1, .slice a2 n2 c2] 22))) : wpList Try.prog ops Q (o :: rest) a w := by
  refine wpList_plain hgd fun K hK => ?_
  have e := run_bs2A a1 a2 n1 n2 c1 c2 w
  unfold Oper.wp
  simp only [execOp, ho, Sem.run_bind, Array.map]
  simp [hx, hy, e]
  exact hK _ _ h
set_option maxRecDepth 20000 in
set_option maxHeartbeats 2000000 in
theorem over_walk (a1 a2 : Option Addr) (n1 n2 c1 c2 : Nat) (l t m : List Ar) (w : World)
    (HL : Hid (Ats w (.slice a1 n1 c1) l)) (HT : Hid (Ats w (.slice a2 n2 c2) t))
    (C1 : ∀ W, Ats W (.slice a1 n1 c1) l → Calls Try.prog 13 #[.slice a1 n1 c1] W fun e w' => e = .returned (.int .i64 0) ∧ Below W.heap.size W w')
    (C2 : ∀ W, Ats W (.slice a2 n2 c2) t → Calls Try.prog 13 #[.slice a2 n2 c2] W fun e w' => e = .returned (.int .i64 0) ∧ Below W.heap.size W w')
    (K1 : ∀ b W, Kn W [(b, [.slice a2 n2 c2, .slice a1 n1 c1])] → Ats W (.slice a2 n2 c2) t → Ats W (.slice a1 n1 c1) l → Calls Try.prog 45 #[.slice (some ⟨b, 0, none⟩) 2 2] W fun e w' => (∃ u, e = .returned u ∧ Ats w' u (t ++ l)) ∧ Below W.heap.size W w')
    (R1 : ∀ u W, Ats W u (t ++ l) → Calls Try.prog 44 #[u] W fun e w' => (∃ u, e = .returned u ∧ Ats w' u m) ∧ Below W.heap.size W w') :
    Calls Try.prog 34 #[.slice a1 n1 c1, .slice a2 n2 c2] w fun e w' => (∃ u, e = .returned (.tuple #[u, .int .i64 0]) ∧ Ats w' u m) ∧ Below w.heap.size w w' := by
  have C1' := C1 w HL.out
  clear C1
  go_enter Try.func34, Try.ntmps34
  go_wp2_with fail
  refine C1'.mono ?_
  rintro e w1 ⟨rfl, hb⟩
  have b1 : Hid (Below w.heap.size w w1) := hb
  have C2' := C2 w1 (HT.out.up hb (Nat.le_refl _))
  clear hb C1' C2
  go_wp2_with fail
  refine C2'.mono ?_
  rintro e w2 ⟨rfl, hb⟩
  have b2 : Hid (Below w.heap.size w w2) := b1.out.trans (hb.mono b1.out.size)
  have kn := (Kn.nil w2).al [.slice a2 n2 c2, .slice a1 n1 c1] 22 rfl
  have b3 : Hid (Below w.heap.size w (w2.alloc (.cells #[.slice a2 n2 c2, .slice a1 n1 c1] 22))) := b2.out.alloc b2.out.size _
  have K2 := K1 w2.heap.size _ kn (HT.out.up b3.out (Nat.le_refl _)) (HL.out.up b3.out (Nat.le_refl _))
  clear hb C2' b1 b2 kn K1
  go_wp2_with (refine wp_bs2A rfl _ _ rfl _ _ _ _ _ _ rfl rfl ?_)
  refine K2.mono ?_
  rintro e w4 ⟨⟨u, rfl, hu⟩, hb⟩
  have b4 : Hid (Below w.heap.size w w4) := b3.out.trans (hb.mono b3.out.size)
  have R2 := R1 u w4 hu
  clear hb hu K2 b3 R1
  go_wp2_with fail
  refine R2.mono ?_
  rintro e w5 ⟨⟨r, rfl, hr⟩, hb⟩
  have b5 : Hid (Below w.heap.size w w5) := b4.out.trans (hb.mono b4.out.size)
  have R5 : Hid (Ats w5 r m) := hr
  clear hb hr R2 b4
  go_wp2_with fail
  go_ret2
  exact ⟨⟨_, rfl, R5.out⟩, b5.out⟩
set_option maxHeartbeats 1000000 in
theorem over_bad1 (u v : Value) (f : Nat) (hf : ¬ f = 0) (w : World)
    (C1 : Calls Try.prog 13 #[v] w fun e w' => e = .returned (.int .i64 (f : Int)) ∧ Below w.heap.size w w') :
    Calls Try.prog 34 #[v, u] w fun e w' => e = .returned (.tuple #[.slice none 0 0, .int .i64 (f : Int)]) ∧ Below w.heap.size w w' := by
  have hn : ((f : Int) != 0) = true := bne_iff_ne.2 (by omega)
  go_enter Try.func34, Try.ntmps34
  go_wp2_with fail
  refine C1.mono ?_
  rintro e w1 ⟨rfl, hb⟩
  have b1 : Hid (Below w.heap.size w w1) := hb
  clear hb C1
  go_wp2_with fail
  go_ret2
  exact ⟨rfl, b1.out⟩
set_option maxHeartbeats 1000000 in
theorem over_bad2 (u v : Value) (f : Nat) (hf : ¬ f = 0) (t : List Ar) (w : World) (HT : Hid (Ats w u t))
    (C1 : Calls Try.prog 13 #[v] w fun e w' => e = .returned (.int .i64 0) ∧ Below w.heap.size w w')
    (C2 : ∀ W, Ats W u t → Calls Try.prog 13 #[u] W fun e w' => e = .returned (.int .i64 (f : Int)) ∧ Below W.heap.size W w') :
    Calls Try.prog 34 #[v, u] w fun e w' => e = .returned (.tuple #[.slice none 0 0, .int .i64 (f : Int)]) ∧ Below w.heap.size w w' := by
  have hn : ((f : Int) != 0) = true := bne_iff_ne.2 (by omega)
  go_enter Try.func34, Try.ntmps34
  go_wp2_with fail
  refine C1.mono ?_
  rintro e w1 ⟨rfl, hb⟩
  have b1 : Hid (Below w.heap.size w w1) := hb
  have C3 := C2 w1 (HT.out.up hb (Nat.le_refl _))
  clear hb C1 C2
  go_wp2_with fail
  refine C3.mono ?_
  rintro e w2 ⟨rfl, hb⟩
  have b2 : Hid (Below w.heap.size w w2) := b1.out.trans (hb.mono b1.out.size)
  clear hb C3 b1
  go_wp2_with fail
  go_ret2
  exact ⟨rfl, b2.out⟩
/-- Over. -/
theorem atOverC : AtOverC := fun v u l t w ll lt hv hu => by -- function 34
  by_cases h1 : fltA l = 0
  · have C1 : ∀ W, Ats W v l → Calls Try.prog 13 #[v] W fun e w' => e = .returned (.int .i64 0) ∧ Below W.heap.size W w' := fun W h => by
      have := atCheckC v l W ll h
      rw [h1] at this
      exact this
    have e0 : fltO l t = fltA t := if_pos h1
    rw [e0]
    by_cases h2 : fltA t = 0
    · have C2 : ∀ W, Ats W u t → Calls Try.prog 13 #[u] W fun e w' => e = .returned (.int .i64 0) ∧ Below W.heap.size W w' := fun W h => by
        have := atCheckC u t W lt h
        rw [h2] at this
        exact this
      rw [h2, if_pos rfl]
      obtain ⟨a1, c1, rfl⟩ := ats_parts hv
      obtain ⟨a2, c2, rfl⟩ := ats_parts hu
      have s1 := good_small h1
      have s2 := good_small h2
      refine over_walk a1 a2 _ _ c1 c2 l t _ w hv hu C1 C2 (fun b W hk p q => concat_fun b t l s2.1 s1.1 _ _ W hk p q) (fun r W h => rising_fun (t ++ l) (by rw [List.length_append]; have := s1.1; have := s2.1; omega) (fun x hx => ?_) r W h)
      rcases List.mem_append.1 hx with hx | hx
      · exact s2.2 x hx
      · exact s1.2 x hx
    · rw [if_neg h2]
      exact (over_bad2 u v _ h2 t w hu (C1 w hv) fun W h => atCheckC u t W lt h).mono fun _ _ ⟨he, hb⟩ => ⟨⟨_, he, Ats.nil _⟩, hb⟩
  · have e0 : fltO l t = fltA l := if_neg h1
    rw [e0, if_neg h1]
    exact (over_bad1 u v _ h1 w (atCheckC v l w ll hv)).mono fun _ _ ⟨he, hb⟩ => ⟨⟨_, he, Ats.nil _⟩, hb⟩
end Go.Proofs.Ytepaapiflkkghab
