/- AttrBack, out of what package attr must keep. -/
import Derived.Test.YtohliojdmmbcdaaQAtL
import Derived.Test.YtohliojdmmbcdaaQUpSToAtA
namespace Go.Proofs.Ytohliojdmmbcdaa
open Go.RowKit
attribute [local go_sem] World.cell?_alloc_some cell_alloc2 cell_alloc3 cell_alloc4 frozen?_alloc_cells frozen_out
set_option linter.unusedSimpArgs false
theorem ats_one {W : World} {b : Nat} {x : Ar} {u : Value} (c0 : W.cell? ⟨b, 0, none⟩ = some (.int .i64 x.k)) (c1 : W.cell? ⟨b, 1, none⟩ = some u) (hu : By W u x.v) : Ats W (.slice (some ⟨b, 0, none⟩) 1 1) [x] :=
  ⟨_, 1, rfl, Nat.le_refl _, (fun h => by cases h), fun _ => ⟨b, 0, rfl, fun j y hy => by
    have hj := (List.getElem?_eq_some_iff.1 hy).1
    obtain rfl : j = 0 := by simp only [List.length_cons, List.length_nil] at hj; omega
    obtain rfl := Option.some.inj hy
    exact ⟨c0, u, c1, hu⟩⟩⟩
set_option maxHeartbeats 1000000 in
theorem attrs_alive (IC : AtIsC) (w : World) : Calls Try.prog 27 #[] w fun e w' => e = .returned (.bool true) ∧ Below w.heap.size w w' := by
  have s1 := by_one w 1
  have b1 : Hid (Below w.heap.size w (w.alloc (.cells #[.int .u8 1] 5))) := (Below.refl _ _).alloc (Nat.le_refl _) _
  have k2 : Hid (Kn ((w.alloc (.cells #[.int .u8 1] 5)).alloc (.cells #[.int .i64 5, .slice (some ⟨w.heap.size, 0, none⟩) 1 1] 50)) [((w.alloc (.cells #[.int .u8 1] 5)).heap.size, [.int .i64 5, .slice (some ⟨w.heap.size, 0, none⟩) 1 1])]) := (Kn.nil _).al [.int .i64 5, .slice (some ⟨w.heap.size, 0, none⟩) 1 1] 50 rfl
  have A : Hid (Ats ((w.alloc (.cells #[.int .u8 1] 5)).alloc (.cells #[.int .i64 5, .slice (some ⟨w.heap.size, 0, none⟩) 1 1] 50)) (.slice (some ⟨(w.alloc (.cells #[.int .u8 1] 5)).heap.size, 0, none⟩) 1 1) [⟨5, [1]⟩]) :=
    ats_one (x := ⟨5, [1]⟩) (Kn.get k2.out 0 0 rfl rfl) (Kn.get k2.out 0 1 rfl rfl) (s1.up ((Below.refl _ _).alloc (Nat.le_refl _) _) (Nat.le_refl _))
  have b2 : Hid (Below w.heap.size w ((w.alloc (.cells #[.int .u8 1] 5)).alloc (.cells #[.int .i64 5, .slice (some ⟨w.heap.size, 0, none⟩) 1 1] 50))) := b1.out.alloc b1.out.size _
  have I := IC _ [⟨5, [1]⟩] 5 _ (fun x hx => by
    obtain rfl := List.mem_singleton.1 hx
    exact ⟨⟨by simp only; omega, by simp only; omega⟩, fun y hy => by obtain rfl := List.mem_singleton.1 hy; omega⟩) (by simp only [List.length_cons, List.length_nil]; omega) (by omega) (by omega) A.out
  rw [show getA [⟨5, [1]⟩] 5 = some [1] from if_pos rfl, Option.getD_some, decide_eq_true rfl, show (w.alloc (.cells #[.int .u8 1] 5)).heap.size = w.heap.size + 1 from by simp] at I
  clear s1 b1 k2 A IC
  go_enter Try.func27, Try.ntmps27
  go_wp2_with (first | refine wp_bs1 rfl _ rfl 1 rfl ?_)
  refine I.mono ?_
  rintro e w3 ⟨rfl, hb⟩
  have b3 : Hid (Below w.heap.size w w3) := b2.out.trans (hb.mono b2.out.size)
  clear hb
  go_wp2_with fail
  go_ret
  exact ⟨rfl, b3.out⟩
theorem packA_low {l : List Ar} (h : goodA l) (lo : lowA l) : lowB (packA l) := by
  have hg : ∀ x ∈ risA l, x.v.length ≤ 64 ∧ x.k ≤ 18 := fun x hx => by
    have := good_of_get h.1 (risA_mem.1 hx).2
    exact ⟨fit_len this.2.2, this.2.1⟩
  refine texts_low (fun x hx => ?_) fun x hx => ?_
  · obtain ⟨y, hy, rfl⟩ := List.mem_map.1 hx
    exact Nat.le_trans (hg y hy).1 (by decide)
  · obtain ⟨y, hy, rfl⟩ := List.mem_map.1 hx
    refine ⟨?_, (risA_low lo y hy).2⟩
    show y.k.toNat < 256
    have := (hg y hy).2
    omega
set_option maxRecDepth 20000 in
set_option maxHeartbeats 2000000 in
theorem attrBack_of (IC : AtIsC) (NC : AtNormC) (CC : AtCheckC) (PC : AtPackC) (UC : AtUnpC) (v : Value) (l : List Ar) (lo : lowA l) (w : World) (h : Ats w v l) :
    Calls Try.prog 8 #[v] w fun e w' => e = .returned (.bool true) ∧ Below w.heap.size w w' := by
  have A := attrs_alive IC
  have H : Hid (Ats w v l) := h
  clear h IC
  have P1 := fun W h => PC v l W lo h
  have C1 := fun W h => CC v l W lo h
  clear PC CC
  by_cases hf : fltA l = 0
  · have G := (fltA_zero l).1 hf
    have N1 := fun W h => NC v l W lo h
    rw [hf] at P1 N1
    simp only [if_pos] at P1 N1
    have U1 : ∀ u W, By W u (packA l) → Calls Try.prog 22 #[u] W fun e w' => (∃ u, e = .returned (.tuple #[u, .int .i64 0]) ∧ Ats w' u (risA l)) ∧ Below W.heap.size W w' := fun u W h => by
      have := UC u (packA l) W (packA_low G.2 lo) h
      rw [unp_pack G.2] at this
      exact this
    have LM : Hid (lowA (risA l)) := risA_low lo
    have RL := risA_len l
    generalize risA l = m at *
    generalize packA l = b at *
    have HN : Hid (m.length ≤ 18) := RL
    clear RL G hf NC UC lo C1
    go_enter Try.func8, Try.ntmps8
    go_wp2_with fail
    refine (A w).mono ?_
    rintro e w1 ⟨rfl, hb⟩
    have b1 : Hid (Below w.heap.size w w1) := hb
    have H1 : Hid (Ats w1 v l) := H.out.up hb (Nat.le_refl _)
    clear hb H A
    go_wp2_with fail
    refine (P1 w1 H1.out).mono ?_
    rintro e w2 ⟨⟨u, rfl, hu⟩, hb⟩
    have b2 : Hid (Below w.heap.size w w2) := b1.out.trans (hb.mono b1.out.size)
    have H2 : Hid (Ats w2 v l) := H1.out.up hb (Nat.le_refl _)
    have P2 : Hid (By w2 u b) := hu
    clear hb hu H1 b1 P1
    go_wp2_with fail
    refine (U1 u w2 P2.out).mono ?_
    rintro e w3 ⟨⟨r, rfl, hr⟩, hb⟩
    have b3 : Hid (Below w.heap.size w w3) := b2.out.trans (hb.mono b2.out.size)
    have H3 : Hid (Ats w3 v l) := H2.out.up hb (Nat.le_refl _)
    have R3 : Hid (Ats w3 r m) := hr
    clear hb hr H2 b2 U1 P2
    go_wp2_with fail
    refine (N1 w3 H3.out).mono ?_
    rintro e w4 ⟨⟨s, rfl, hs⟩, hb⟩
    have b4 : Hid (Below w.heap.size w w4) := b3.out.trans (hb.mono b3.out.size)
    have R4 : Hid (Ats w4 r m) := R3.out.up hb (Nat.le_refl _)
    have S4 : Hid (Ats w4 s m) := hs
    clear hb hs H3 b3 N1 R3
    go_wp2_with fail
    refine (sameK_fun m (by have := HN.out; omega) LM.out r s w4 R4.out S4.out).mono ?_
    rintro e w5 ⟨rfl, hb⟩
    have b5 : Hid (Below w.heap.size w w5) := b4.out.trans (hb.mono b4.out.size)
    clear hb b4 R4 S4
    go_wp2_with fail
    go_ret
    exact ⟨rfl, b5.out⟩
  · simp only [if_neg hf] at P1
    generalize ef : fltA l = f at *
    have f1 : ((f : Int) != 0) = true := bne_iff_ne.2 (by omega)
    clear ef hf NC UC lo
    go_enter Try.func8, Try.ntmps8
    go_wp2_with fail
    refine (A w).mono ?_
    rintro e w1 ⟨rfl, hb⟩
    have b1 : Hid (Below w.heap.size w w1) := hb
    have H1 : Hid (Ats w1 v l) := H.out.up hb (Nat.le_refl _)
    clear hb H A
    go_wp2_with fail
    refine (P1 w1 H1.out).mono ?_
    rintro e w2 ⟨⟨u, rfl, hu⟩, hb⟩
    have b2 : Hid (Below w.heap.size w w2) := b1.out.trans (hb.mono b1.out.size)
    have H2 : Hid (Ats w2 v l) := H1.out.up hb (Nat.le_refl _)
    obtain ⟨ua, uc, rfl⟩ := hu.len
    clear hb hu H1 b1 P1
    go_wp2_with fail
    refine (C1 w2 H2.out).mono ?_
    rintro e w3 ⟨rfl, hb⟩
    have b3 : Hid (Below w.heap.size w w3) := b2.out.trans (hb.mono b2.out.size)
    clear hb b2 H2 C1
    go_wp2_with fail
    go_ret
    exact ⟨rfl, b3.out⟩
end Go.Proofs.Ytohliojdmmbcdaa
