/- FieldLaws, out of what package field must keep. -/
import Derived.Test.YtmajielbbajdhaaFldC
import Derived.Test.YtmajielbbajdhaaAl
import Derived.Test.YtmajielbbajdhaaCmp
import Derived.Test.YtmajielbbajdhaaUpB
namespace Go.Proofs.Ytmajielbbajdhaa
open Go.RowKit
attribute [local go_sem] World.cell?_alloc_some cell_alloc2 cell_alloc3 cell_alloc4 frozen?_alloc_cells frozen_out YieldsP execOp
set_option linter.unusedSimpArgs false
set_option maxRecDepth 20000 in
set_option maxHeartbeats 8000000 in
theorem fieldLaws_walk (a b c lo pm s sc bc p pc qc d ac dab : Nm) (lt : Int) (hlt : lt < 0)
    (L1 : ∀ w, Calls Try.prog 15 #[N a] w fun e w' => e = .returned (N lo) ∧ Below w.heap.size w w')
    (PM : ∀ w, Calls Try.prog 12 #[] w fun e w' => e = .returned (N pm) ∧ Below w.heap.size w w')
    (CM : ∀ w, Calls Try.prog 25 #[N lo, N pm] w fun e w' => e = .returned (.int .i64 lt) ∧ Below w.heap.size w w')
    (A1 : ∀ w, Calls Try.prog 17 #[N a, N b] w fun e w' => e = .returned (N s) ∧ Below w.heap.size w w')
    (A2 : ∀ w, Calls Try.prog 17 #[N b, N a] w fun e w' => e = .returned (N s) ∧ Below w.heap.size w w')
    (A3 : ∀ w, Calls Try.prog 17 #[N s, N c] w fun e w' => e = .returned (N sc) ∧ Below w.heap.size w w')
    (A4 : ∀ w, Calls Try.prog 17 #[N b, N c] w fun e w' => e = .returned (N bc) ∧ Below w.heap.size w w')
    (A5 : ∀ w, Calls Try.prog 17 #[N a, N bc] w fun e w' => e = .returned (N sc) ∧ Below w.heap.size w w')
    (T1 : ∀ w, Calls Try.prog 21 #[N a, N b] w fun e w' => e = .returned (N p) ∧ Below w.heap.size w w')
    (T2 : ∀ w, Calls Try.prog 21 #[N b, N a] w fun e w' => e = .returned (N p) ∧ Below w.heap.size w w')
    (T3 : ∀ w, Calls Try.prog 21 #[N p, N c] w fun e w' => e = .returned (N pc) ∧ Below w.heap.size w w')
    (T4 : ∀ w, Calls Try.prog 21 #[N b, N c] w fun e w' => e = .returned (N qc) ∧ Below w.heap.size w w')
    (T5 : ∀ w, Calls Try.prog 21 #[N a, N qc] w fun e w' => e = .returned (N pc) ∧ Below w.heap.size w w')
    (T6 : ∀ w, Calls Try.prog 21 #[N a, N bc] w fun e w' => e = .returned (N d) ∧ Below w.heap.size w w')
    (T7 : ∀ w, Calls Try.prog 21 #[N a, N c] w fun e w' => e = .returned (N ac) ∧ Below w.heap.size w w')
    (A6 : ∀ w, Calls Try.prog 17 #[N p, N ac] w fun e w' => e = .returned (N d) ∧ Below w.heap.size w w')
    (T8 : ∀ w, Calls Try.prog 21 #[N a, N ⟨1, 0, 0, 0⟩] w fun e w' => e = .returned (N lo) ∧ Below w.heap.size w w')
    (S1 : ∀ w, Calls Try.prog 19 #[N a, N b] w fun e w' => e = .returned (N dab) ∧ Below w.heap.size w w')
    (A7 : ∀ w, Calls Try.prog 17 #[N dab, N b] w fun e w' => e = .returned (N lo) ∧ Below w.heap.size w w')
    (S2 : ∀ w, Calls Try.prog 19 #[N a, N a] w fun e w' => e = .returned (N ⟨0, 0, 0, 0⟩) ∧ Below w.heap.size w w')
    (w : World) :
    Calls Try.prog 4 #[N a, N b, N c] w fun e w' => e = .returned (.bool true) ∧ Below w.heap.size w w' := by
  have e2 := eqN s s
  have e3 := eqN sc sc
  have e4 := eqN p p
  have e5 := eqN pc pc
  have e6 := eqN d d
  have e7 := eqN lo lo
  have e8 := eqN ⟨0, 0, 0, 0⟩ ⟨0, 0, 0, 0⟩
  rw [Nm.beq_self] at e2 e3 e4 e5 e6 e7 e8
  go_enter Try.func4, Try.ntmps4
  have s0 : Hid (Kn (kal4 (kal4 (kal4 w (a)) (b)) (c)) [(w.heap.size + 1 + 1, (c4 (c))), (w.heap.size + 1, (c4 (b))), (w.heap.size, (c4 (a)))]) := ((((Kn.nil w).al (c4 (a)) 24 rfl).al (c4 (b)) 24 (by simp)).al (c4 (c)) 24 (by simp))
  have b0 : Hid (Below w.heap.size w (kal4 (kal4 (kal4 w (a)) (b)) (c))) := ((((Below.refl _ _).alloc (Nat.le_refl _) _).alloc (by simp <;> omega) _).alloc (by simp <;> omega) _)
  have ua_0 : (kal4 (kal4 (kal4 w (a)) (b)) (c)).cell? ⟨w.heap.size, 0, none⟩ = some (.int .u64 (a).a) := Kn.get s0.out 2 0 rfl rfl
  have ua_1 : (kal4 (kal4 (kal4 w (a)) (b)) (c)).cell? ⟨w.heap.size, 1, none⟩ = some (.int .u64 (a).b) := Kn.get s0.out 2 1 rfl rfl
  have ua_2 : (kal4 (kal4 (kal4 w (a)) (b)) (c)).cell? ⟨w.heap.size, 2, none⟩ = some (.int .u64 (a).c) := Kn.get s0.out 2 2 rfl rfl
  have ua_3 : (kal4 (kal4 (kal4 w (a)) (b)) (c)).cell? ⟨w.heap.size, 3, none⟩ = some (.int .u64 (a).d) := Kn.get s0.out 2 3 rfl rfl
  go_wp2_with fail
  clear ua_0 ua_1 ua_2 ua_3
  refine (L1 _).mono ?_
  rintro e w1 ⟨rfl, hb1⟩
  have s1 : Hid (Kn w1 [(w.heap.size + 1 + 1, (c4 (c))), (w.heap.size + 1, (c4 (b))), (w.heap.size, (c4 (a)))]) := s0.out.up hb1
  have b1 : Hid (Below w.heap.size w w1) := b0.out.trans (hb1.mono b0.out.size)
  have z1 := b1.out.size
  clear hb1 s0 b0
  have s2 : Hid (Kn (kal4 w1 (lo)) [(w1.heap.size, (c4 (lo))), (w.heap.size + 1 + 1, (c4 (c))), (w.heap.size + 1, (c4 (b))), (w.heap.size, (c4 (a)))]) := s1.out.al (c4 (lo)) 24 rfl
  have b2 : Hid (Below w.heap.size w (kal4 w1 (lo))) := b1.out.alloc b1.out.size _
  have z2 := b1.out.size
  clear s1 b1
  go_wp2_with fail
  have o3 : ([some 10, some 11, some 12, some 13, some 14, some 15, some 16, some 17, some 18, some 19, some 20, some 21, some 22, some 23, some 24, some 25, some 26, some 27, some 28, some 29, some 30, some 31, some 32, some 33, some 34, some 35, some 36, some 37, some 38, some 39, some 40, some 41, some 42, some 43, some 44, some 45, some 46, some 47, some 48, some 49, some 50, some 51, some 52, some 53, some 54, some 55, some 56, some 57, some 58, some 59, some 60, some 61, some 62, some 63, some 64, some 65, some 66, some 67, some 68, some 69, some 70, some 71, some 72, some 73, some 74, some 75, some 76, some 77, some 78, some 79, some 80, some 81, some 82, some 83, some 84, some 85, some 86, some 87, some 88, some 89, some 90, some 91, some 92, some 93, some 94, some 95, some 6] : List (Option Tmp)).all (· != some 3) = true := by kernel_rfl
  have o4 : ([some 10, some 11, some 12, some 13, some 14, some 15, some 16, some 17, some 18, some 19, some 20, some 21, some 22, some 23, some 24, some 25, some 26, some 27, some 28, some 29, some 30, some 31, some 32, some 33, some 34, some 35, some 36, some 37, some 38, some 39, some 40, some 41, some 42, some 43, some 44, some 45, some 46, some 47, some 48, some 49, some 50, some 51, some 52, some 53, some 54, some 55, some 56, some 57, some 58, some 59, some 60, some 61, some 62, some 63, some 64, some 65, some 66, some 67, some 68, some 69, some 70, some 71, some 72, some 73, some 74, some 75, some 76, some 77, some 78, some 79, some 80, some 81, some 82, some 83, some 84, some 85, some 86, some 87, some 88, some 89, some 90, some 91, some 92, some 93, some 94, some 95, some 6] : List (Option Tmp)).all (· != some 4) = true := by kernel_rfl
  have o5 : ([some 10, some 11, some 12, some 13, some 14, some 15, some 16, some 17, some 18, some 19, some 20, some 21, some 22, some 23, some 24, some 25, some 26, some 27, some 28, some 29, some 30, some 31, some 32, some 33, some 34, some 35, some 36, some 37, some 38, some 39, some 40, some 41, some 42, some 43, some 44, some 45, some 46, some 47, some 48, some 49, some 50, some 51, some 52, some 53, some 54, some 55, some 56, some 57, some 58, some 59, some 60, some 61, some 62, some 63, some 64, some 65, some 66, some 67, some 68, some 69, some 70, some 71, some 72, some 73, some 74, some 75, some 76, some 77, some 78, some 79, some 80, some 81, some 82, some 83, some 84, some 85, some 86, some 87, some 88, some 89, some 90, some 91, some 92, some 93, some 94, some 95, some 6] : List (Option Tmp)).all (· != some 5) = true := by kernel_rfl
  have o7 : ([some 10, some 11, some 12, some 13, some 14, some 15, some 16, some 17, some 18, some 19, some 20, some 21, some 22, some 23, some 24, some 25, some 26, some 27, some 28, some 29, some 30, some 31, some 32, some 33, some 34, some 35, some 36, some 37, some 38, some 39, some 40, some 41, some 42, some 43, some 44, some 45, some 46, some 47, some 48, some 49, some 50, some 51, some 52, some 53, some 54, some 55, some 56, some 57, some 58, some 59, some 60, some 61, some 62, some 63, some 64, some 65, some 66, some 67, some 68, some 69, some 70, some 71, some 72, some 73, some 74, some 75, some 76, some 77, some 78, some 79, some 80, some 81, some 82, some 83, some 84, some 85, some 86, some 87, some 88, some 89, some 90, some 91, some 92, some 93, some 94, some 95, some 6] : List (Option Tmp)).all (· != some 7) = true := by kernel_rfl
  refine wp_region_big [MP.eq (N (lo)), MP.eq (N pm), MP.eq (.int .i64 lt), MP.eq (.bool true), MP.eq (.bool true), MP.eq (N (a)), MP.eq (N (b)), MP.eq (N s), MP.eq (N (b)), MP.eq (N (a)), MP.eq (N s), MP.eq (.bool true), MP.eq (.bool true), MP.eq (.bool true), MP.eq (N (a)), MP.eq (N (b)), MP.eq (N s), MP.eq (N (c)), MP.eq (N sc), MP.eq (N (a)), MP.eq (N (b)), MP.eq (N (c)), MP.eq (N bc), MP.eq (N sc), MP.eq (.bool true), MP.eq (.bool true), MP.eq (.bool true), MP.eq (N (a)), MP.eq (N (b)), MP.eq (N p), MP.eq (N (b)), MP.eq (N (a)), MP.eq (N p), MP.eq (.bool true), MP.eq (.bool true), MP.eq (.bool true), MP.eq (N (a)), MP.eq (N (b)), MP.eq (N p), MP.eq (N (c)), MP.eq (N pc), MP.eq (N (a)), MP.eq (N (b)), MP.eq (N (c)), MP.eq (N qc), MP.eq (N pc), MP.eq (.bool true), MP.eq (.bool true), MP.eq (.bool true), MP.eq (N (a)), MP.eq (N (b)), MP.eq (N (c)), MP.eq (N bc), MP.eq (N d), MP.eq (N (a)), MP.eq (N (b)), MP.eq (N p), MP.eq (N (a)), MP.eq (N (c)), MP.eq (N ac), MP.eq (N d), MP.eq (.bool true), MP.eq (.bool true), MP.eq (.bool true), MP.eq (N (a)), MP.eq (N ⟨1, 0, 0, 0⟩), MP.eq (N lo), MP.eq (N (lo)), MP.eq (.bool true), MP.eq (.bool true), MP.eq (.bool true), MP.eq (N (a)), MP.eq (N (b)), MP.eq (N dab), MP.eq (N (b)), MP.eq (N lo), MP.eq (N (lo)), MP.eq (.bool true), MP.eq (.bool true), MP.eq (.bool true), MP.eq (N (a)), MP.eq (N (a)), MP.eq (N ⟨0, 0, 0, 0⟩), MP.eq (N ⟨0, 0, 0, 0⟩), MP.eq (.bool true), MP.eq (.bool true), MP.eq (.bool true)] [some 10, some 11, some 12, some 13, some 14, some 15, some 16, some 17, some 18, some 19, some 20, some 21, some 22, some 23, some 24, some 25, some 26, some 27, some 28, some 29, some 30, some 31, some 32, some 33, some 34, some 35, some 36, some 37, some 38, some 39, some 40, some 41, some 42, some 43, some 44, some 45, some 46, some 47, some 48, some 49, some 50, some 51, some 52, some 53, some 54, some 55, some 56, some 57, some 58, some 59, some 60, some 61, some 62, some 63, some 64, some 65, some 66, some 67, some 68, some 69, some 70, some 71, some 72, some 73, some 74, some 75, some 76, some 77, some 78, some 79, some 80, some 81, some 82, some 83, some 84, some 85, some 86, some 87, some 88, some 89, some 90, some 91, some 92, some 93, some 94, some 95, some 6] (by kernel_rfl) (by kernel_rfl) rfl (by kernel_rfl) (by kernel_rfl) ?_ ?_
  · refine ⟨?_, ?_, ?_, ?_, ?_, ?_, ?_, ?_, ?_, ?_, ?_, ?_, ?_, ?_, ?_, ?_, ?_, ?_, ?_, ?_, ?_, ?_, ?_, ?_, ?_, ?_, ?_, ?_, ?_, ?_, ?_, ?_, ?_, ?_, ?_, ?_, ?_, ?_, ?_, ?_, ?_, ?_, ?_, ?_, ?_, ?_, ?_, ?_, ?_, ?_, ?_, ?_, ?_, ?_, ?_, ?_, ?_, ?_, ?_, ?_, ?_, ?_, ?_, ?_, ?_, ?_, ?_, ?_, ?_, ?_, ?_, ?_, ?_, ?_, ?_, ?_, ?_, ?_, ?_, ?_, ?_, ?_, ?_, ?_, ?_, ?_, ?_, trivial⟩
    · as_aux_lemma =>
      intro ev vals W ev_c ev_f hW new old hd
      have n7 : ev (.tmp 7) = .pointer (some ⟨w1.heap.size, 0, none⟩) := old 7 o7
      have u0 := Kn.get (s2.out.up hW.out) 0 0 rfl rfl
      have u1 := Kn.get (s2.out.up hW.out) 0 1 rfl rfl
      have u2 := Kn.get (s2.out.up hW.out) 0 2 rfl rfl
      have u3 := Kn.get (s2.out.up hW.out) 0 3 rfl rfl
      refine ⟨trivial, ?_⟩
      simp [YieldsV, go_sem, ev_c, ev_f, MP.eq, n7, u0, u1, u2, u3]
      exact Below.refl _ _
    · as_aux_lemma =>
      intro ev vals W ev_c ev_f hW new old hd
      refine ⟨trivial, ?_⟩
      simp [YieldsV, go_sem, ev_c, ev_f, MP.eq]
      exact (PM _).mono fun e w' ⟨he, hb⟩ => ⟨_, he, rfl, hb⟩
    · as_aux_lemma =>
      intro ev vals W ev_c ev_f hW new old hd
      have n10 : ev (.tmp 10) = N (lo) := (new 10 0 rfl).trans (hd 0 (by kernel_rfl))
      have n11 : ev (.tmp 11) = N pm := (new 11 1 rfl).trans (hd 1 (by kernel_rfl))
      refine ⟨trivial, ?_⟩
      simp [YieldsV, go_sem, ev_c, ev_f, MP.eq, n10, n11]
      exact (CM _).mono fun e w' ⟨he, hb⟩ => ⟨_, he, rfl, hb⟩
    · as_aux_lemma =>
      intro ev vals W ev_c ev_f hW new old hd
      have n12 : ev (.tmp 12) = .int .i64 lt := (new 12 2 rfl).trans (hd 2 (by kernel_rfl))
      refine ⟨trivial, ?_⟩
      simp [YieldsV, go_sem, ev_c, ev_f, MP.eq, n12, hlt]
      exact Below.refl _ _
    · as_aux_lemma =>
      intro ev vals W ev_c ev_f hW new old hd
      have n13 : ev (.tmp 13) = .bool true := (new 13 3 rfl).trans (hd 3 (by kernel_rfl))
      refine ⟨trivial, ?_⟩
      simp [YieldsV, go_sem, ev_c, ev_f, MP.eq, n13]
      exact Below.refl _ _
    · as_aux_lemma =>
      intro ev vals W ev_c ev_f hW new old hd
      have n3 : ev (.tmp 3) = .pointer (some ⟨w.heap.size, 0, none⟩) := old 3 o3
      have u0 := Kn.get (s2.out.up hW.out) 3 0 rfl rfl
      have u1 := Kn.get (s2.out.up hW.out) 3 1 rfl rfl
      have u2 := Kn.get (s2.out.up hW.out) 3 2 rfl rfl
      have u3 := Kn.get (s2.out.up hW.out) 3 3 rfl rfl
      refine ⟨⟨hd 4 (by kernel_rfl), rfl⟩, ?_⟩
      simp [YieldsV, go_sem, ev_c, ev_f, MP.eq, n3, u0, u1, u2, u3]
      exact Below.refl _ _
    · as_aux_lemma =>
      intro ev vals W ev_c ev_f hW new old hd
      have n4 : ev (.tmp 4) = .pointer (some ⟨w.heap.size + 1, 0, none⟩) := old 4 o4
      have u0 := Kn.get (s2.out.up hW.out) 2 0 rfl rfl
      have u1 := Kn.get (s2.out.up hW.out) 2 1 rfl rfl
      have u2 := Kn.get (s2.out.up hW.out) 2 2 rfl rfl
      have u3 := Kn.get (s2.out.up hW.out) 2 3 rfl rfl
      refine ⟨⟨hd 4 (by kernel_rfl), rfl⟩, ?_⟩
      simp [YieldsV, go_sem, ev_c, ev_f, MP.eq, n4, u0, u1, u2, u3]
      exact Below.refl _ _
    · as_aux_lemma =>
      intro ev vals W ev_c ev_f hW new old hd
      have n15 : ev (.tmp 15) = N (a) := (new 15 5 rfl).trans (hd 5 (by kernel_rfl))
      have n16 : ev (.tmp 16) = N (b) := (new 16 6 rfl).trans (hd 6 (by kernel_rfl))
      refine ⟨⟨hd 4 (by kernel_rfl), rfl⟩, ?_⟩
      simp [YieldsV, go_sem, ev_c, ev_f, MP.eq, n15, n16]
      exact (A1 _).mono fun e w' ⟨he, hb⟩ => ⟨_, he, rfl, hb⟩
    · as_aux_lemma =>
      intro ev vals W ev_c ev_f hW new old hd
      have n4 : ev (.tmp 4) = .pointer (some ⟨w.heap.size + 1, 0, none⟩) := old 4 o4
      have u0 := Kn.get (s2.out.up hW.out) 2 0 rfl rfl
      have u1 := Kn.get (s2.out.up hW.out) 2 1 rfl rfl
      have u2 := Kn.get (s2.out.up hW.out) 2 2 rfl rfl
      have u3 := Kn.get (s2.out.up hW.out) 2 3 rfl rfl
      refine ⟨⟨hd 4 (by kernel_rfl), rfl⟩, ?_⟩
      simp [YieldsV, go_sem, ev_c, ev_f, MP.eq, n4, u0, u1, u2, u3]
      exact Below.refl _ _
    · as_aux_lemma =>
      intro ev vals W ev_c ev_f hW new old hd
      have n3 : ev (.tmp 3) = .pointer (some ⟨w.heap.size, 0, none⟩) := old 3 o3
      have u0 := Kn.get (s2.out.up hW.out) 3 0 rfl rfl
      have u1 := Kn.get (s2.out.up hW.out) 3 1 rfl rfl
      have u2 := Kn.get (s2.out.up hW.out) 3 2 rfl rfl
      have u3 := Kn.get (s2.out.up hW.out) 3 3 rfl rfl
      refine ⟨⟨hd 4 (by kernel_rfl), rfl⟩, ?_⟩
      simp [YieldsV, go_sem, ev_c, ev_f, MP.eq, n3, u0, u1, u2, u3]
      exact Below.refl _ _
    · as_aux_lemma =>
      intro ev vals W ev_c ev_f hW new old hd
      have n18 : ev (.tmp 18) = N (b) := (new 18 8 rfl).trans (hd 8 (by kernel_rfl))
      have n19 : ev (.tmp 19) = N (a) := (new 19 9 rfl).trans (hd 9 (by kernel_rfl))
      refine ⟨⟨hd 4 (by kernel_rfl), rfl⟩, ?_⟩
      simp [YieldsV, go_sem, ev_c, ev_f, MP.eq, n18, n19]
      exact (A2 _).mono fun e w' ⟨he, hb⟩ => ⟨_, he, rfl, hb⟩
    · as_aux_lemma =>
      intro ev vals W ev_c ev_f hW new old hd
      have n17 : ev (.tmp 17) = N s := (new 17 7 rfl).trans (hd 7 (by kernel_rfl))
      have n20 : ev (.tmp 20) = N s := (new 20 10 rfl).trans (hd 10 (by kernel_rfl))
      refine ⟨⟨hd 4 (by kernel_rfl), rfl⟩, ?_⟩
      simp [YieldsV, go_sem, ev_c, ev_f, MP.eq, n17, n20, e2]
      exact Below.refl _ _
    · as_aux_lemma =>
      intro ev vals W ev_c ev_f hW new old hd
      have n14 : ev (.tmp 14) = .bool true := (new 14 4 rfl).trans (hd 4 (by kernel_rfl))
      have n21 : ev (.tmp 21) = .bool true := (new 21 11 rfl).trans (hd 11 (by kernel_rfl))
      refine ⟨trivial, ?_⟩
      simp [YieldsV, go_sem, ev_c, ev_f, MP.eq, n14, n21]
      exact Below.refl _ _
    · as_aux_lemma =>
      intro ev vals W ev_c ev_f hW new old hd
      have n22 : ev (.tmp 22) = .bool true := (new 22 12 rfl).trans (hd 12 (by kernel_rfl))
      refine ⟨trivial, ?_⟩
      simp [YieldsV, go_sem, ev_c, ev_f, MP.eq, n22]
      exact Below.refl _ _
    · as_aux_lemma =>
      intro ev vals W ev_c ev_f hW new old hd
      have n3 : ev (.tmp 3) = .pointer (some ⟨w.heap.size, 0, none⟩) := old 3 o3
      have u0 := Kn.get (s2.out.up hW.out) 3 0 rfl rfl
      have u1 := Kn.get (s2.out.up hW.out) 3 1 rfl rfl
      have u2 := Kn.get (s2.out.up hW.out) 3 2 rfl rfl
      have u3 := Kn.get (s2.out.up hW.out) 3 3 rfl rfl
      refine ⟨⟨hd 13 (by kernel_rfl), rfl⟩, ?_⟩
      simp [YieldsV, go_sem, ev_c, ev_f, MP.eq, n3, u0, u1, u2, u3]
      exact Below.refl _ _
    · as_aux_lemma =>
      intro ev vals W ev_c ev_f hW new old hd
      have n4 : ev (.tmp 4) = .pointer (some ⟨w.heap.size + 1, 0, none⟩) := old 4 o4
      have u0 := Kn.get (s2.out.up hW.out) 2 0 rfl rfl
      have u1 := Kn.get (s2.out.up hW.out) 2 1 rfl rfl
      have u2 := Kn.get (s2.out.up hW.out) 2 2 rfl rfl
      have u3 := Kn.get (s2.out.up hW.out) 2 3 rfl rfl
      refine ⟨⟨hd 13 (by kernel_rfl), rfl⟩, ?_⟩
      simp [YieldsV, go_sem, ev_c, ev_f, MP.eq, n4, u0, u1, u2, u3]
      exact Below.refl _ _
    · as_aux_lemma =>
      intro ev vals W ev_c ev_f hW new old hd
      have n24 : ev (.tmp 24) = N (a) := (new 24 14 rfl).trans (hd 14 (by kernel_rfl))
      have n25 : ev (.tmp 25) = N (b) := (new 25 15 rfl).trans (hd 15 (by kernel_rfl))
      refine ⟨⟨hd 13 (by kernel_rfl), rfl⟩, ?_⟩
      simp [YieldsV, go_sem, ev_c, ev_f, MP.eq, n24, n25]
      exact (A1 _).mono fun e w' ⟨he, hb⟩ => ⟨_, he, rfl, hb⟩
    · as_aux_lemma =>
      intro ev vals W ev_c ev_f hW new old hd
      have n5 : ev (.tmp 5) = .pointer (some ⟨w.heap.size + 1 + 1, 0, none⟩) := old 5 o5
      have u0 := Kn.get (s2.out.up hW.out) 1 0 rfl rfl
      have u1 := Kn.get (s2.out.up hW.out) 1 1 rfl rfl
      have u2 := Kn.get (s2.out.up hW.out) 1 2 rfl rfl
      have u3 := Kn.get (s2.out.up hW.out) 1 3 rfl rfl
      refine ⟨⟨hd 13 (by kernel_rfl), rfl⟩, ?_⟩
      simp [YieldsV, go_sem, ev_c, ev_f, MP.eq, n5, u0, u1, u2, u3]
      exact Below.refl _ _
    · as_aux_lemma =>
      intro ev vals W ev_c ev_f hW new old hd
      have n26 : ev (.tmp 26) = N s := (new 26 16 rfl).trans (hd 16 (by kernel_rfl))
      have n27 : ev (.tmp 27) = N (c) := (new 27 17 rfl).trans (hd 17 (by kernel_rfl))
      refine ⟨⟨hd 13 (by kernel_rfl), rfl⟩, ?_⟩
      simp [YieldsV, go_sem, ev_c, ev_f, MP.eq, n26, n27]
      exact (A3 _).mono fun e w' ⟨he, hb⟩ => ⟨_, he, rfl, hb⟩
    · as_aux_lemma =>
      intro ev vals W ev_c ev_f hW new old hd
      have n3 : ev (.tmp 3) = .pointer (some ⟨w.heap.size, 0, none⟩) := old 3 o3
      have u0 := Kn.get (s2.out.up hW.out) 3 0 rfl rfl
      have u1 := Kn.get (s2.out.up hW.out) 3 1 rfl rfl
      have u2 := Kn.get (s2.out.up hW.out) 3 2 rfl rfl
      have u3 := Kn.get (s2.out.up hW.out) 3 3 rfl rfl
      refine ⟨⟨hd 13 (by kernel_rfl), rfl⟩, ?_⟩
      simp [YieldsV, go_sem, ev_c, ev_f, MP.eq, n3, u0, u1, u2, u3]
      exact Below.refl _ _
    · as_aux_lemma =>
      intro ev vals W ev_c ev_f hW new old hd
      have n4 : ev (.tmp 4) = .pointer (some ⟨w.heap.size + 1, 0, none⟩) := old 4 o4
      have u0 := Kn.get (s2.out.up hW.out) 2 0 rfl rfl
      have u1 := Kn.get (s2.out.up hW.out) 2 1 rfl rfl
      have u2 := Kn.get (s2.out.up hW.out) 2 2 rfl rfl
      have u3 := Kn.get (s2.out.up hW.out) 2 3 rfl rfl
      refine ⟨⟨hd 13 (by kernel_rfl), rfl⟩, ?_⟩
      simp [YieldsV, go_sem, ev_c, ev_f, MP.eq, n4, u0, u1, u2, u3]
      exact Below.refl _ _
    · as_aux_lemma =>
      intro ev vals W ev_c ev_f hW new old hd
      have n5 : ev (.tmp 5) = .pointer (some ⟨w.heap.size + 1 + 1, 0, none⟩) := old 5 o5
      have u0 := Kn.get (s2.out.up hW.out) 1 0 rfl rfl
      have u1 := Kn.get (s2.out.up hW.out) 1 1 rfl rfl
      have u2 := Kn.get (s2.out.up hW.out) 1 2 rfl rfl
      have u3 := Kn.get (s2.out.up hW.out) 1 3 rfl rfl
      refine ⟨⟨hd 13 (by kernel_rfl), rfl⟩, ?_⟩
      simp [YieldsV, go_sem, ev_c, ev_f, MP.eq, n5, u0, u1, u2, u3]
      exact Below.refl _ _
    · as_aux_lemma =>
      intro ev vals W ev_c ev_f hW new old hd
      have n30 : ev (.tmp 30) = N (b) := (new 30 20 rfl).trans (hd 20 (by kernel_rfl))
      have n31 : ev (.tmp 31) = N (c) := (new 31 21 rfl).trans (hd 21 (by kernel_rfl))
      refine ⟨⟨hd 13 (by kernel_rfl), rfl⟩, ?_⟩
      simp [YieldsV, go_sem, ev_c, ev_f, MP.eq, n30, n31]
      exact (A4 _).mono fun e w' ⟨he, hb⟩ => ⟨_, he, rfl, hb⟩
    · as_aux_lemma =>
      intro ev vals W ev_c ev_f hW new old hd
      have n29 : ev (.tmp 29) = N (a) := (new 29 19 rfl).trans (hd 19 (by kernel_rfl))
      have n32 : ev (.tmp 32) = N bc := (new 32 22 rfl).trans (hd 22 (by kernel_rfl))
      refine ⟨⟨hd 13 (by kernel_rfl), rfl⟩, ?_⟩
      simp [YieldsV, go_sem, ev_c, ev_f, MP.eq, n29, n32]
      exact (A5 _).mono fun e w' ⟨he, hb⟩ => ⟨_, he, rfl, hb⟩
    · as_aux_lemma =>
      intro ev vals W ev_c ev_f hW new old hd
      have n28 : ev (.tmp 28) = N sc := (new 28 18 rfl).trans (hd 18 (by kernel_rfl))
      have n33 : ev (.tmp 33) = N sc := (new 33 23 rfl).trans (hd 23 (by kernel_rfl))
      refine ⟨⟨hd 13 (by kernel_rfl), rfl⟩, ?_⟩
      simp [YieldsV, go_sem, ev_c, ev_f, MP.eq, n28, n33, e3]
      exact Below.refl _ _
    · as_aux_lemma =>
      intro ev vals W ev_c ev_f hW new old hd
      have n23 : ev (.tmp 23) = .bool true := (new 23 13 rfl).trans (hd 13 (by kernel_rfl))
      have n34 : ev (.tmp 34) = .bool true := (new 34 24 rfl).trans (hd 24 (by kernel_rfl))
      refine ⟨trivial, ?_⟩
      simp [YieldsV, go_sem, ev_c, ev_f, MP.eq, n23, n34]
      exact Below.refl _ _
    · as_aux_lemma =>
      intro ev vals W ev_c ev_f hW new old hd
      have n35 : ev (.tmp 35) = .bool true := (new 35 25 rfl).trans (hd 25 (by kernel_rfl))
      refine ⟨trivial, ?_⟩
      simp [YieldsV, go_sem, ev_c, ev_f, MP.eq, n35]
      exact Below.refl _ _
    · as_aux_lemma =>
      intro ev vals W ev_c ev_f hW new old hd
      have n3 : ev (.tmp 3) = .pointer (some ⟨w.heap.size, 0, none⟩) := old 3 o3
      have u0 := Kn.get (s2.out.up hW.out) 3 0 rfl rfl
      have u1 := Kn.get (s2.out.up hW.out) 3 1 rfl rfl
      have u2 := Kn.get (s2.out.up hW.out) 3 2 rfl rfl
      have u3 := Kn.get (s2.out.up hW.out) 3 3 rfl rfl
      refine ⟨⟨hd 26 (by kernel_rfl), rfl⟩, ?_⟩
      simp [YieldsV, go_sem, ev_c, ev_f, MP.eq, n3, u0, u1, u2, u3]
      exact Below.refl _ _
    · as_aux_lemma =>
      intro ev vals W ev_c ev_f hW new old hd
      have n4 : ev (.tmp 4) = .pointer (some ⟨w.heap.size + 1, 0, none⟩) := old 4 o4
      have u0 := Kn.get (s2.out.up hW.out) 2 0 rfl rfl
      have u1 := Kn.get (s2.out.up hW.out) 2 1 rfl rfl
      have u2 := Kn.get (s2.out.up hW.out) 2 2 rfl rfl
      have u3 := Kn.get (s2.out.up hW.out) 2 3 rfl rfl
      refine ⟨⟨hd 26 (by kernel_rfl), rfl⟩, ?_⟩
      simp [YieldsV, go_sem, ev_c, ev_f, MP.eq, n4, u0, u1, u2, u3]
      exact Below.refl _ _
    · as_aux_lemma =>
      intro ev vals W ev_c ev_f hW new old hd
      have n37 : ev (.tmp 37) = N (a) := (new 37 27 rfl).trans (hd 27 (by kernel_rfl))
      have n38 : ev (.tmp 38) = N (b) := (new 38 28 rfl).trans (hd 28 (by kernel_rfl))
      refine ⟨⟨hd 26 (by kernel_rfl), rfl⟩, ?_⟩
      simp [YieldsV, go_sem, ev_c, ev_f, MP.eq, n37, n38]
      exact (T1 _).mono fun e w' ⟨he, hb⟩ => ⟨_, he, rfl, hb⟩
    · as_aux_lemma =>
      intro ev vals W ev_c ev_f hW new old hd
      have n4 : ev (.tmp 4) = .pointer (some ⟨w.heap.size + 1, 0, none⟩) := old 4 o4
      have u0 := Kn.get (s2.out.up hW.out) 2 0 rfl rfl
      have u1 := Kn.get (s2.out.up hW.out) 2 1 rfl rfl
      have u2 := Kn.get (s2.out.up hW.out) 2 2 rfl rfl
      have u3 := Kn.get (s2.out.up hW.out) 2 3 rfl rfl
      refine ⟨⟨hd 26 (by kernel_rfl), rfl⟩, ?_⟩
      simp [YieldsV, go_sem, ev_c, ev_f, MP.eq, n4, u0, u1, u2, u3]
      exact Below.refl _ _
    · as_aux_lemma =>
      intro ev vals W ev_c ev_f hW new old hd
      have n3 : ev (.tmp 3) = .pointer (some ⟨w.heap.size, 0, none⟩) := old 3 o3
      have u0 := Kn.get (s2.out.up hW.out) 3 0 rfl rfl
      have u1 := Kn.get (s2.out.up hW.out) 3 1 rfl rfl
      have u2 := Kn.get (s2.out.up hW.out) 3 2 rfl rfl
      have u3 := Kn.get (s2.out.up hW.out) 3 3 rfl rfl
      refine ⟨⟨hd 26 (by kernel_rfl), rfl⟩, ?_⟩
      simp [YieldsV, go_sem, ev_c, ev_f, MP.eq, n3, u0, u1, u2, u3]
      exact Below.refl _ _
    · as_aux_lemma =>
      intro ev vals W ev_c ev_f hW new old hd
      have n40 : ev (.tmp 40) = N (b) := (new 40 30 rfl).trans (hd 30 (by kernel_rfl))
      have n41 : ev (.tmp 41) = N (a) := (new 41 31 rfl).trans (hd 31 (by kernel_rfl))
      refine ⟨⟨hd 26 (by kernel_rfl), rfl⟩, ?_⟩
      simp [YieldsV, go_sem, ev_c, ev_f, MP.eq, n40, n41]
      exact (T2 _).mono fun e w' ⟨he, hb⟩ => ⟨_, he, rfl, hb⟩
    · as_aux_lemma =>
      intro ev vals W ev_c ev_f hW new old hd
      have n39 : ev (.tmp 39) = N p := (new 39 29 rfl).trans (hd 29 (by kernel_rfl))
      have n42 : ev (.tmp 42) = N p := (new 42 32 rfl).trans (hd 32 (by kernel_rfl))
      refine ⟨⟨hd 26 (by kernel_rfl), rfl⟩, ?_⟩
      simp [YieldsV, go_sem, ev_c, ev_f, MP.eq, n39, n42, e4]
      exact Below.refl _ _
    · as_aux_lemma =>
      intro ev vals W ev_c ev_f hW new old hd
      have n36 : ev (.tmp 36) = .bool true := (new 36 26 rfl).trans (hd 26 (by kernel_rfl))
      have n43 : ev (.tmp 43) = .bool true := (new 43 33 rfl).trans (hd 33 (by kernel_rfl))
      refine ⟨trivial, ?_⟩
      simp [YieldsV, go_sem, ev_c, ev_f, MP.eq, n36, n43]
      exact Below.refl _ _
    · as_aux_lemma =>
      intro ev vals W ev_c ev_f hW new old hd
      have n44 : ev (.tmp 44) = .bool true := (new 44 34 rfl).trans (hd 34 (by kernel_rfl))
      refine ⟨trivial, ?_⟩
      simp [YieldsV, go_sem, ev_c, ev_f, MP.eq, n44]
      exact Below.refl _ _
    · as_aux_lemma =>
      intro ev vals W ev_c ev_f hW new old hd
      have n3 : ev (.tmp 3) = .pointer (some ⟨w.heap.size, 0, none⟩) := old 3 o3
      have u0 := Kn.get (s2.out.up hW.out) 3 0 rfl rfl
      have u1 := Kn.get (s2.out.up hW.out) 3 1 rfl rfl
      have u2 := Kn.get (s2.out.up hW.out) 3 2 rfl rfl
      have u3 := Kn.get (s2.out.up hW.out) 3 3 rfl rfl
      refine ⟨⟨hd 35 (by kernel_rfl), rfl⟩, ?_⟩
      simp [YieldsV, go_sem, ev_c, ev_f, MP.eq, n3, u0, u1, u2, u3]
      exact Below.refl _ _
    · as_aux_lemma =>
      intro ev vals W ev_c ev_f hW new old hd
      have n4 : ev (.tmp 4) = .pointer (some ⟨w.heap.size + 1, 0, none⟩) := old 4 o4
      have u0 := Kn.get (s2.out.up hW.out) 2 0 rfl rfl
      have u1 := Kn.get (s2.out.up hW.out) 2 1 rfl rfl
      have u2 := Kn.get (s2.out.up hW.out) 2 2 rfl rfl
      have u3 := Kn.get (s2.out.up hW.out) 2 3 rfl rfl
      refine ⟨⟨hd 35 (by kernel_rfl), rfl⟩, ?_⟩
      simp [YieldsV, go_sem, ev_c, ev_f, MP.eq, n4, u0, u1, u2, u3]
      exact Below.refl _ _
    · as_aux_lemma =>
      intro ev vals W ev_c ev_f hW new old hd
      have n46 : ev (.tmp 46) = N (a) := (new 46 36 rfl).trans (hd 36 (by kernel_rfl))
      have n47 : ev (.tmp 47) = N (b) := (new 47 37 rfl).trans (hd 37 (by kernel_rfl))
      refine ⟨⟨hd 35 (by kernel_rfl), rfl⟩, ?_⟩
      simp [YieldsV, go_sem, ev_c, ev_f, MP.eq, n46, n47]
      exact (T1 _).mono fun e w' ⟨he, hb⟩ => ⟨_, he, rfl, hb⟩
    · as_aux_lemma =>
      intro ev vals W ev_c ev_f hW new old hd
      have n5 : ev (.tmp 5) = .pointer (some ⟨w.heap.size + 1 + 1, 0, none⟩) := old 5 o5
      have u0 := Kn.get (s2.out.up hW.out) 1 0 rfl rfl
      have u1 := Kn.get (s2.out.up hW.out) 1 1 rfl rfl
      have u2 := Kn.get (s2.out.up hW.out) 1 2 rfl rfl
      have u3 := Kn.get (s2.out.up hW.out) 1 3 rfl rfl
      refine ⟨⟨hd 35 (by kernel_rfl), rfl⟩, ?_⟩
      simp [YieldsV, go_sem, ev_c, ev_f, MP.eq, n5, u0, u1, u2, u3]
      exact Below.refl _ _
    · as_aux_lemma =>
      intro ev vals W ev_c ev_f hW new old hd
      have n48 : ev (.tmp 48) = N p := (new 48 38 rfl).trans (hd 38 (by kernel_rfl))
      have n49 : ev (.tmp 49) = N (c) := (new 49 39 rfl).trans (hd 39 (by kernel_rfl))
      refine ⟨⟨hd 35 (by kernel_rfl), rfl⟩, ?_⟩
      simp [YieldsV, go_sem, ev_c, ev_f, MP.eq, n48, n49]
      exact (T3 _).mono fun e w' ⟨he, hb⟩ => ⟨_, he, rfl, hb⟩
    · as_aux_lemma =>
      intro ev vals W ev_c ev_f hW new old hd
      have n3 : ev (.tmp 3) = .pointer (some ⟨w.heap.size, 0, none⟩) := old 3 o3
      have u0 := Kn.get (s2.out.up hW.out) 3 0 rfl rfl
      have u1 := Kn.get (s2.out.up hW.out) 3 1 rfl rfl
      have u2 := Kn.get (s2.out.up hW.out) 3 2 rfl rfl
      have u3 := Kn.get (s2.out.up hW.out) 3 3 rfl rfl
      refine ⟨⟨hd 35 (by kernel_rfl), rfl⟩, ?_⟩
      simp [YieldsV, go_sem, ev_c, ev_f, MP.eq, n3, u0, u1, u2, u3]
      exact Below.refl _ _
    · as_aux_lemma =>
      intro ev vals W ev_c ev_f hW new old hd
      have n4 : ev (.tmp 4) = .pointer (some ⟨w.heap.size + 1, 0, none⟩) := old 4 o4
      have u0 := Kn.get (s2.out.up hW.out) 2 0 rfl rfl
      have u1 := Kn.get (s2.out.up hW.out) 2 1 rfl rfl
      have u2 := Kn.get (s2.out.up hW.out) 2 2 rfl rfl
      have u3 := Kn.get (s2.out.up hW.out) 2 3 rfl rfl
      refine ⟨⟨hd 35 (by kernel_rfl), rfl⟩, ?_⟩
      simp [YieldsV, go_sem, ev_c, ev_f, MP.eq, n4, u0, u1, u2, u3]
      exact Below.refl _ _
    · as_aux_lemma =>
      intro ev vals W ev_c ev_f hW new old hd
      have n5 : ev (.tmp 5) = .pointer (some ⟨w.heap.size + 1 + 1, 0, none⟩) := old 5 o5
      have u0 := Kn.get (s2.out.up hW.out) 1 0 rfl rfl
      have u1 := Kn.get (s2.out.up hW.out) 1 1 rfl rfl
      have u2 := Kn.get (s2.out.up hW.out) 1 2 rfl rfl
      have u3 := Kn.get (s2.out.up hW.out) 1 3 rfl rfl
      refine ⟨⟨hd 35 (by kernel_rfl), rfl⟩, ?_⟩
      simp [YieldsV, go_sem, ev_c, ev_f, MP.eq, n5, u0, u1, u2, u3]
      exact Below.refl _ _
    · as_aux_lemma =>
      intro ev vals W ev_c ev_f hW new old hd
      have n52 : ev (.tmp 52) = N (b) := (new 52 42 rfl).trans (hd 42 (by kernel_rfl))
      have n53 : ev (.tmp 53) = N (c) := (new 53 43 rfl).trans (hd 43 (by kernel_rfl))
      refine ⟨⟨hd 35 (by kernel_rfl), rfl⟩, ?_⟩
      simp [YieldsV, go_sem, ev_c, ev_f, MP.eq, n52, n53]
      exact (T4 _).mono fun e w' ⟨he, hb⟩ => ⟨_, he, rfl, hb⟩
    · as_aux_lemma =>
      intro ev vals W ev_c ev_f hW new old hd
      have n51 : ev (.tmp 51) = N (a) := (new 51 41 rfl).trans (hd 41 (by kernel_rfl))
      have n54 : ev (.tmp 54) = N qc := (new 54 44 rfl).trans (hd 44 (by kernel_rfl))
      refine ⟨⟨hd 35 (by kernel_rfl), rfl⟩, ?_⟩
      simp [YieldsV, go_sem, ev_c, ev_f, MP.eq, n51, n54]
      exact (T5 _).mono fun e w' ⟨he, hb⟩ => ⟨_, he, rfl, hb⟩
    · as_aux_lemma =>
      intro ev vals W ev_c ev_f hW new old hd
      have n50 : ev (.tmp 50) = N pc := (new 50 40 rfl).trans (hd 40 (by kernel_rfl))
      have n55 : ev (.tmp 55) = N pc := (new 55 45 rfl).trans (hd 45 (by kernel_rfl))
      refine ⟨⟨hd 35 (by kernel_rfl), rfl⟩, ?_⟩
      simp [YieldsV, go_sem, ev_c, ev_f, MP.eq, n50, n55, e5]
      exact Below.refl _ _
    · as_aux_lemma =>
      intro ev vals W ev_c ev_f hW new old hd
      have n45 : ev (.tmp 45) = .bool true := (new 45 35 rfl).trans (hd 35 (by kernel_rfl))
      have n56 : ev (.tmp 56) = .bool true := (new 56 46 rfl).trans (hd 46 (by kernel_rfl))
      refine ⟨trivial, ?_⟩
      simp [YieldsV, go_sem, ev_c, ev_f, MP.eq, n45, n56]
      exact Below.refl _ _
    · as_aux_lemma =>
      intro ev vals W ev_c ev_f hW new old hd
      have n57 : ev (.tmp 57) = .bool true := (new 57 47 rfl).trans (hd 47 (by kernel_rfl))
      refine ⟨trivial, ?_⟩
      simp [YieldsV, go_sem, ev_c, ev_f, MP.eq, n57]
      exact Below.refl _ _
    · as_aux_lemma =>
      intro ev vals W ev_c ev_f hW new old hd
      have n3 : ev (.tmp 3) = .pointer (some ⟨w.heap.size, 0, none⟩) := old 3 o3
      have u0 := Kn.get (s2.out.up hW.out) 3 0 rfl rfl
      have u1 := Kn.get (s2.out.up hW.out) 3 1 rfl rfl
      have u2 := Kn.get (s2.out.up hW.out) 3 2 rfl rfl
      have u3 := Kn.get (s2.out.up hW.out) 3 3 rfl rfl
      refine ⟨⟨hd 48 (by kernel_rfl), rfl⟩, ?_⟩
      simp [YieldsV, go_sem, ev_c, ev_f, MP.eq, n3, u0, u1, u2, u3]
      exact Below.refl _ _
    · as_aux_lemma =>
      intro ev vals W ev_c ev_f hW new old hd
      have n4 : ev (.tmp 4) = .pointer (some ⟨w.heap.size + 1, 0, none⟩) := old 4 o4
      have u0 := Kn.get (s2.out.up hW.out) 2 0 rfl rfl
      have u1 := Kn.get (s2.out.up hW.out) 2 1 rfl rfl
      have u2 := Kn.get (s2.out.up hW.out) 2 2 rfl rfl
      have u3 := Kn.get (s2.out.up hW.out) 2 3 rfl rfl
      refine ⟨⟨hd 48 (by kernel_rfl), rfl⟩, ?_⟩
      simp [YieldsV, go_sem, ev_c, ev_f, MP.eq, n4, u0, u1, u2, u3]
      exact Below.refl _ _
    · as_aux_lemma =>
      intro ev vals W ev_c ev_f hW new old hd
      have n5 : ev (.tmp 5) = .pointer (some ⟨w.heap.size + 1 + 1, 0, none⟩) := old 5 o5
      have u0 := Kn.get (s2.out.up hW.out) 1 0 rfl rfl
      have u1 := Kn.get (s2.out.up hW.out) 1 1 rfl rfl
      have u2 := Kn.get (s2.out.up hW.out) 1 2 rfl rfl
      have u3 := Kn.get (s2.out.up hW.out) 1 3 rfl rfl
      refine ⟨⟨hd 48 (by kernel_rfl), rfl⟩, ?_⟩
      simp [YieldsV, go_sem, ev_c, ev_f, MP.eq, n5, u0, u1, u2, u3]
      exact Below.refl _ _
    · as_aux_lemma =>
      intro ev vals W ev_c ev_f hW new old hd
      have n60 : ev (.tmp 60) = N (b) := (new 60 50 rfl).trans (hd 50 (by kernel_rfl))
      have n61 : ev (.tmp 61) = N (c) := (new 61 51 rfl).trans (hd 51 (by kernel_rfl))
      refine ⟨⟨hd 48 (by kernel_rfl), rfl⟩, ?_⟩
      simp [YieldsV, go_sem, ev_c, ev_f, MP.eq, n60, n61]
      exact (A4 _).mono fun e w' ⟨he, hb⟩ => ⟨_, he, rfl, hb⟩
    · as_aux_lemma =>
      intro ev vals W ev_c ev_f hW new old hd
      have n59 : ev (.tmp 59) = N (a) := (new 59 49 rfl).trans (hd 49 (by kernel_rfl))
      have n62 : ev (.tmp 62) = N bc := (new 62 52 rfl).trans (hd 52 (by kernel_rfl))
      refine ⟨⟨hd 48 (by kernel_rfl), rfl⟩, ?_⟩
      simp [YieldsV, go_sem, ev_c, ev_f, MP.eq, n59, n62]
      exact (T6 _).mono fun e w' ⟨he, hb⟩ => ⟨_, he, rfl, hb⟩
    · as_aux_lemma =>
      intro ev vals W ev_c ev_f hW new old hd
      have n3 : ev (.tmp 3) = .pointer (some ⟨w.heap.size, 0, none⟩) := old 3 o3
      have u0 := Kn.get (s2.out.up hW.out) 3 0 rfl rfl
      have u1 := Kn.get (s2.out.up hW.out) 3 1 rfl rfl
      have u2 := Kn.get (s2.out.up hW.out) 3 2 rfl rfl
      have u3 := Kn.get (s2.out.up hW.out) 3 3 rfl rfl
      refine ⟨⟨hd 48 (by kernel_rfl), rfl⟩, ?_⟩
      simp [YieldsV, go_sem, ev_c, ev_f, MP.eq, n3, u0, u1, u2, u3]
      exact Below.refl _ _
    · as_aux_lemma =>
      intro ev vals W ev_c ev_f hW new old hd
      have n4 : ev (.tmp 4) = .pointer (some ⟨w.heap.size + 1, 0, none⟩) := old 4 o4
      have u0 := Kn.get (s2.out.up hW.out) 2 0 rfl rfl
      have u1 := Kn.get (s2.out.up hW.out) 2 1 rfl rfl
      have u2 := Kn.get (s2.out.up hW.out) 2 2 rfl rfl
      have u3 := Kn.get (s2.out.up hW.out) 2 3 rfl rfl
      refine ⟨⟨hd 48 (by kernel_rfl), rfl⟩, ?_⟩
      simp [YieldsV, go_sem, ev_c, ev_f, MP.eq, n4, u0, u1, u2, u3]
      exact Below.refl _ _
    · as_aux_lemma =>
      intro ev vals W ev_c ev_f hW new old hd
      have n64 : ev (.tmp 64) = N (a) := (new 64 54 rfl).trans (hd 54 (by kernel_rfl))
      have n65 : ev (.tmp 65) = N (b) := (new 65 55 rfl).trans (hd 55 (by kernel_rfl))
      refine ⟨⟨hd 48 (by kernel_rfl), rfl⟩, ?_⟩
      simp [YieldsV, go_sem, ev_c, ev_f, MP.eq, n64, n65]
      exact (T1 _).mono fun e w' ⟨he, hb⟩ => ⟨_, he, rfl, hb⟩
    · as_aux_lemma =>
      intro ev vals W ev_c ev_f hW new old hd
      have n3 : ev (.tmp 3) = .pointer (some ⟨w.heap.size, 0, none⟩) := old 3 o3
      have u0 := Kn.get (s2.out.up hW.out) 3 0 rfl rfl
      have u1 := Kn.get (s2.out.up hW.out) 3 1 rfl rfl
      have u2 := Kn.get (s2.out.up hW.out) 3 2 rfl rfl
      have u3 := Kn.get (s2.out.up hW.out) 3 3 rfl rfl
      refine ⟨⟨hd 48 (by kernel_rfl), rfl⟩, ?_⟩
      simp [YieldsV, go_sem, ev_c, ev_f, MP.eq, n3, u0, u1, u2, u3]
      exact Below.refl _ _
    · as_aux_lemma =>
      intro ev vals W ev_c ev_f hW new old hd
      have n5 : ev (.tmp 5) = .pointer (some ⟨w.heap.size + 1 + 1, 0, none⟩) := old 5 o5
      have u0 := Kn.get (s2.out.up hW.out) 1 0 rfl rfl
      have u1 := Kn.get (s2.out.up hW.out) 1 1 rfl rfl
      have u2 := Kn.get (s2.out.up hW.out) 1 2 rfl rfl
      have u3 := Kn.get (s2.out.up hW.out) 1 3 rfl rfl
      refine ⟨⟨hd 48 (by kernel_rfl), rfl⟩, ?_⟩
      simp [YieldsV, go_sem, ev_c, ev_f, MP.eq, n5, u0, u1, u2, u3]
      exact Below.refl _ _
    · as_aux_lemma =>
      intro ev vals W ev_c ev_f hW new old hd
      have n67 : ev (.tmp 67) = N (a) := (new 67 57 rfl).trans (hd 57 (by kernel_rfl))
      have n68 : ev (.tmp 68) = N (c) := (new 68 58 rfl).trans (hd 58 (by kernel_rfl))
      refine ⟨⟨hd 48 (by kernel_rfl), rfl⟩, ?_⟩
      simp [YieldsV, go_sem, ev_c, ev_f, MP.eq, n67, n68]
      exact (T7 _).mono fun e w' ⟨he, hb⟩ => ⟨_, he, rfl, hb⟩
    · as_aux_lemma =>
      intro ev vals W ev_c ev_f hW new old hd
      have n66 : ev (.tmp 66) = N p := (new 66 56 rfl).trans (hd 56 (by kernel_rfl))
      have n69 : ev (.tmp 69) = N ac := (new 69 59 rfl).trans (hd 59 (by kernel_rfl))
      refine ⟨⟨hd 48 (by kernel_rfl), rfl⟩, ?_⟩
      simp [YieldsV, go_sem, ev_c, ev_f, MP.eq, n66, n69]
      exact (A6 _).mono fun e w' ⟨he, hb⟩ => ⟨_, he, rfl, hb⟩
    · as_aux_lemma =>
      intro ev vals W ev_c ev_f hW new old hd
      have n63 : ev (.tmp 63) = N d := (new 63 53 rfl).trans (hd 53 (by kernel_rfl))
      have n70 : ev (.tmp 70) = N d := (new 70 60 rfl).trans (hd 60 (by kernel_rfl))
      refine ⟨⟨hd 48 (by kernel_rfl), rfl⟩, ?_⟩
      simp [YieldsV, go_sem, ev_c, ev_f, MP.eq, n63, n70, e6]
      exact Below.refl _ _
    · as_aux_lemma =>
      intro ev vals W ev_c ev_f hW new old hd
      have n58 : ev (.tmp 58) = .bool true := (new 58 48 rfl).trans (hd 48 (by kernel_rfl))
      have n71 : ev (.tmp 71) = .bool true := (new 71 61 rfl).trans (hd 61 (by kernel_rfl))
      refine ⟨trivial, ?_⟩
      simp [YieldsV, go_sem, ev_c, ev_f, MP.eq, n58, n71]
      exact Below.refl _ _
    · as_aux_lemma =>
      intro ev vals W ev_c ev_f hW new old hd
      have n72 : ev (.tmp 72) = .bool true := (new 72 62 rfl).trans (hd 62 (by kernel_rfl))
      refine ⟨trivial, ?_⟩
      simp [YieldsV, go_sem, ev_c, ev_f, MP.eq, n72]
      exact Below.refl _ _
    · as_aux_lemma =>
      intro ev vals W ev_c ev_f hW new old hd
      have n3 : ev (.tmp 3) = .pointer (some ⟨w.heap.size, 0, none⟩) := old 3 o3
      have u0 := Kn.get (s2.out.up hW.out) 3 0 rfl rfl
      have u1 := Kn.get (s2.out.up hW.out) 3 1 rfl rfl
      have u2 := Kn.get (s2.out.up hW.out) 3 2 rfl rfl
      have u3 := Kn.get (s2.out.up hW.out) 3 3 rfl rfl
      refine ⟨⟨hd 63 (by kernel_rfl), rfl⟩, ?_⟩
      simp [YieldsV, go_sem, ev_c, ev_f, MP.eq, n3, u0, u1, u2, u3]
      exact Below.refl _ _
    · as_aux_lemma =>
      intro ev vals W ev_c ev_f hW new old hd
      refine ⟨⟨hd 63 (by kernel_rfl), rfl⟩, ?_⟩
      simp [YieldsV, go_sem, ev_c, ev_f, MP.eq]
      exact Below.refl _ _
    · as_aux_lemma =>
      intro ev vals W ev_c ev_f hW new old hd
      have n74 : ev (.tmp 74) = N (a) := (new 74 64 rfl).trans (hd 64 (by kernel_rfl))
      have n75 : ev (.tmp 75) = N ⟨1, 0, 0, 0⟩ := (new 75 65 rfl).trans (hd 65 (by kernel_rfl))
      refine ⟨⟨hd 63 (by kernel_rfl), rfl⟩, ?_⟩
      simp [YieldsV, go_sem, ev_c, ev_f, MP.eq, n74, n75]
      exact (T8 _).mono fun e w' ⟨he, hb⟩ => ⟨_, he, rfl, hb⟩
    · as_aux_lemma =>
      intro ev vals W ev_c ev_f hW new old hd
      have n7 : ev (.tmp 7) = .pointer (some ⟨w1.heap.size, 0, none⟩) := old 7 o7
      have u0 := Kn.get (s2.out.up hW.out) 0 0 rfl rfl
      have u1 := Kn.get (s2.out.up hW.out) 0 1 rfl rfl
      have u2 := Kn.get (s2.out.up hW.out) 0 2 rfl rfl
      have u3 := Kn.get (s2.out.up hW.out) 0 3 rfl rfl
      refine ⟨⟨hd 63 (by kernel_rfl), rfl⟩, ?_⟩
      simp [YieldsV, go_sem, ev_c, ev_f, MP.eq, n7, u0, u1, u2, u3]
      exact Below.refl _ _
    · as_aux_lemma =>
      intro ev vals W ev_c ev_f hW new old hd
      have n76 : ev (.tmp 76) = N lo := (new 76 66 rfl).trans (hd 66 (by kernel_rfl))
      have n77 : ev (.tmp 77) = N (lo) := (new 77 67 rfl).trans (hd 67 (by kernel_rfl))
      refine ⟨⟨hd 63 (by kernel_rfl), rfl⟩, ?_⟩
      simp [YieldsV, go_sem, ev_c, ev_f, MP.eq, n76, n77, e7]
      exact Below.refl _ _
    · as_aux_lemma =>
      intro ev vals W ev_c ev_f hW new old hd
      have n73 : ev (.tmp 73) = .bool true := (new 73 63 rfl).trans (hd 63 (by kernel_rfl))
      have n78 : ev (.tmp 78) = .bool true := (new 78 68 rfl).trans (hd 68 (by kernel_rfl))
      refine ⟨trivial, ?_⟩
      simp [YieldsV, go_sem, ev_c, ev_f, MP.eq, n73, n78]
      exact Below.refl _ _
    · as_aux_lemma =>
      intro ev vals W ev_c ev_f hW new old hd
      have n79 : ev (.tmp 79) = .bool true := (new 79 69 rfl).trans (hd 69 (by kernel_rfl))
      refine ⟨trivial, ?_⟩
      simp [YieldsV, go_sem, ev_c, ev_f, MP.eq, n79]
      exact Below.refl _ _
    · as_aux_lemma =>
      intro ev vals W ev_c ev_f hW new old hd
      have n3 : ev (.tmp 3) = .pointer (some ⟨w.heap.size, 0, none⟩) := old 3 o3
      have u0 := Kn.get (s2.out.up hW.out) 3 0 rfl rfl
      have u1 := Kn.get (s2.out.up hW.out) 3 1 rfl rfl
      have u2 := Kn.get (s2.out.up hW.out) 3 2 rfl rfl
      have u3 := Kn.get (s2.out.up hW.out) 3 3 rfl rfl
      refine ⟨⟨hd 70 (by kernel_rfl), rfl⟩, ?_⟩
      simp [YieldsV, go_sem, ev_c, ev_f, MP.eq, n3, u0, u1, u2, u3]
      exact Below.refl _ _
    · as_aux_lemma =>
      intro ev vals W ev_c ev_f hW new old hd
      have n4 : ev (.tmp 4) = .pointer (some ⟨w.heap.size + 1, 0, none⟩) := old 4 o4
      have u0 := Kn.get (s2.out.up hW.out) 2 0 rfl rfl
      have u1 := Kn.get (s2.out.up hW.out) 2 1 rfl rfl
      have u2 := Kn.get (s2.out.up hW.out) 2 2 rfl rfl
      have u3 := Kn.get (s2.out.up hW.out) 2 3 rfl rfl
      refine ⟨⟨hd 70 (by kernel_rfl), rfl⟩, ?_⟩
      simp [YieldsV, go_sem, ev_c, ev_f, MP.eq, n4, u0, u1, u2, u3]
      exact Below.refl _ _
    · as_aux_lemma =>
      intro ev vals W ev_c ev_f hW new old hd
      have n81 : ev (.tmp 81) = N (a) := (new 81 71 rfl).trans (hd 71 (by kernel_rfl))
      have n82 : ev (.tmp 82) = N (b) := (new 82 72 rfl).trans (hd 72 (by kernel_rfl))
      refine ⟨⟨hd 70 (by kernel_rfl), rfl⟩, ?_⟩
      simp [YieldsV, go_sem, ev_c, ev_f, MP.eq, n81, n82]
      exact (S1 _).mono fun e w' ⟨he, hb⟩ => ⟨_, he, rfl, hb⟩
    · as_aux_lemma =>
      intro ev vals W ev_c ev_f hW new old hd
      have n4 : ev (.tmp 4) = .pointer (some ⟨w.heap.size + 1, 0, none⟩) := old 4 o4
      have u0 := Kn.get (s2.out.up hW.out) 2 0 rfl rfl
      have u1 := Kn.get (s2.out.up hW.out) 2 1 rfl rfl
      have u2 := Kn.get (s2.out.up hW.out) 2 2 rfl rfl
      have u3 := Kn.get (s2.out.up hW.out) 2 3 rfl rfl
      refine ⟨⟨hd 70 (by kernel_rfl), rfl⟩, ?_⟩
      simp [YieldsV, go_sem, ev_c, ev_f, MP.eq, n4, u0, u1, u2, u3]
      exact Below.refl _ _
    · as_aux_lemma =>
      intro ev vals W ev_c ev_f hW new old hd
      have n83 : ev (.tmp 83) = N dab := (new 83 73 rfl).trans (hd 73 (by kernel_rfl))
      have n84 : ev (.tmp 84) = N (b) := (new 84 74 rfl).trans (hd 74 (by kernel_rfl))
      refine ⟨⟨hd 70 (by kernel_rfl), rfl⟩, ?_⟩
      simp [YieldsV, go_sem, ev_c, ev_f, MP.eq, n83, n84]
      exact (A7 _).mono fun e w' ⟨he, hb⟩ => ⟨_, he, rfl, hb⟩
    · as_aux_lemma =>
      intro ev vals W ev_c ev_f hW new old hd
      have n7 : ev (.tmp 7) = .pointer (some ⟨w1.heap.size, 0, none⟩) := old 7 o7
      have u0 := Kn.get (s2.out.up hW.out) 0 0 rfl rfl
      have u1 := Kn.get (s2.out.up hW.out) 0 1 rfl rfl
      have u2 := Kn.get (s2.out.up hW.out) 0 2 rfl rfl
      have u3 := Kn.get (s2.out.up hW.out) 0 3 rfl rfl
      refine ⟨⟨hd 70 (by kernel_rfl), rfl⟩, ?_⟩
      simp [YieldsV, go_sem, ev_c, ev_f, MP.eq, n7, u0, u1, u2, u3]
      exact Below.refl _ _
    · as_aux_lemma =>
      intro ev vals W ev_c ev_f hW new old hd
      have n85 : ev (.tmp 85) = N lo := (new 85 75 rfl).trans (hd 75 (by kernel_rfl))
      have n86 : ev (.tmp 86) = N (lo) := (new 86 76 rfl).trans (hd 76 (by kernel_rfl))
      refine ⟨⟨hd 70 (by kernel_rfl), rfl⟩, ?_⟩
      simp [YieldsV, go_sem, ev_c, ev_f, MP.eq, n85, n86, e7]
      exact Below.refl _ _
    · as_aux_lemma =>
      intro ev vals W ev_c ev_f hW new old hd
      have n80 : ev (.tmp 80) = .bool true := (new 80 70 rfl).trans (hd 70 (by kernel_rfl))
      have n87 : ev (.tmp 87) = .bool true := (new 87 77 rfl).trans (hd 77 (by kernel_rfl))
      refine ⟨trivial, ?_⟩
      simp [YieldsV, go_sem, ev_c, ev_f, MP.eq, n80, n87]
      exact Below.refl _ _
    · as_aux_lemma =>
      intro ev vals W ev_c ev_f hW new old hd
      have n88 : ev (.tmp 88) = .bool true := (new 88 78 rfl).trans (hd 78 (by kernel_rfl))
      refine ⟨trivial, ?_⟩
      simp [YieldsV, go_sem, ev_c, ev_f, MP.eq, n88]
      exact Below.refl _ _
    · as_aux_lemma =>
      intro ev vals W ev_c ev_f hW new old hd
      have n3 : ev (.tmp 3) = .pointer (some ⟨w.heap.size, 0, none⟩) := old 3 o3
      have u0 := Kn.get (s2.out.up hW.out) 3 0 rfl rfl
      have u1 := Kn.get (s2.out.up hW.out) 3 1 rfl rfl
      have u2 := Kn.get (s2.out.up hW.out) 3 2 rfl rfl
      have u3 := Kn.get (s2.out.up hW.out) 3 3 rfl rfl
      refine ⟨⟨hd 79 (by kernel_rfl), rfl⟩, ?_⟩
      simp [YieldsV, go_sem, ev_c, ev_f, MP.eq, n3, u0, u1, u2, u3]
      exact Below.refl _ _
    · as_aux_lemma =>
      intro ev vals W ev_c ev_f hW new old hd
      have n3 : ev (.tmp 3) = .pointer (some ⟨w.heap.size, 0, none⟩) := old 3 o3
      have u0 := Kn.get (s2.out.up hW.out) 3 0 rfl rfl
      have u1 := Kn.get (s2.out.up hW.out) 3 1 rfl rfl
      have u2 := Kn.get (s2.out.up hW.out) 3 2 rfl rfl
      have u3 := Kn.get (s2.out.up hW.out) 3 3 rfl rfl
      refine ⟨⟨hd 79 (by kernel_rfl), rfl⟩, ?_⟩
      simp [YieldsV, go_sem, ev_c, ev_f, MP.eq, n3, u0, u1, u2, u3]
      exact Below.refl _ _
    · as_aux_lemma =>
      intro ev vals W ev_c ev_f hW new old hd
      have n90 : ev (.tmp 90) = N (a) := (new 90 80 rfl).trans (hd 80 (by kernel_rfl))
      have n91 : ev (.tmp 91) = N (a) := (new 91 81 rfl).trans (hd 81 (by kernel_rfl))
      refine ⟨⟨hd 79 (by kernel_rfl), rfl⟩, ?_⟩
      simp [YieldsV, go_sem, ev_c, ev_f, MP.eq, n90, n91]
      exact (S2 _).mono fun e w' ⟨he, hb⟩ => ⟨_, he, rfl, hb⟩
    · as_aux_lemma =>
      intro ev vals W ev_c ev_f hW new old hd
      refine ⟨⟨hd 79 (by kernel_rfl), rfl⟩, ?_⟩
      simp [YieldsV, go_sem, ev_c, ev_f, MP.eq]
      exact Below.refl _ _
    · as_aux_lemma =>
      intro ev vals W ev_c ev_f hW new old hd
      have n92 : ev (.tmp 92) = N ⟨0, 0, 0, 0⟩ := (new 92 82 rfl).trans (hd 82 (by kernel_rfl))
      have n93 : ev (.tmp 93) = N ⟨0, 0, 0, 0⟩ := (new 93 83 rfl).trans (hd 83 (by kernel_rfl))
      refine ⟨⟨hd 79 (by kernel_rfl), rfl⟩, ?_⟩
      simp [YieldsV, go_sem, ev_c, ev_f, MP.eq, n92, n93, e8]
      exact Below.refl _ _
    · as_aux_lemma =>
      intro ev vals W ev_c ev_f hW new old hd
      have n89 : ev (.tmp 89) = .bool true := (new 89 79 rfl).trans (hd 79 (by kernel_rfl))
      have n94 : ev (.tmp 94) = .bool true := (new 94 84 rfl).trans (hd 84 (by kernel_rfl))
      refine ⟨trivial, ?_⟩
      simp [YieldsV, go_sem, ev_c, ev_f, MP.eq, n89, n94]
      exact Below.refl _ _
    · as_aux_lemma =>
      intro ev vals W ev_c ev_f hW new old hd
      have n95 : ev (.tmp 95) = .bool true := (new 95 85 rfl).trans (hd 85 (by kernel_rfl))
      refine ⟨trivial, ?_⟩
      simp [YieldsV, go_sem, ev_c, ev_f, MP.eq, n95]
      exact Below.refl _ _
  intro vals3 w3 hb3 hF B hBd hB
  have e86 : vals3 86 = .bool true := by simpa [MP.eq] using FinAll.get 0 _ hF 86 (by simp)
  have h6 := hB 6 86 rfl
  rw [e86] at h6
  clear hF hB
  obtain ⟨tmB, dfB⟩ := B
  simp only at hBd
  subst hBd
  have s3 : Hid (Kn w3 [(w1.heap.size, (c4 (lo))), (w.heap.size + 1 + 1, (c4 (c))), (w.heap.size + 1, (c4 (b))), (w.heap.size, (c4 (a)))]) := s2.out.up hb3.out
  have b3 : Hid (Below w.heap.size w w3) := b2.out.trans (hb3.out.mono b2.out.size)
  have z3 := b3.out.size
  clear hb3 s2 b2
  go_wp2_with fail
  go_ret
  exact ⟨by simp only [Array.getD_eq_getD_getElem?, h6, Option.getD_some], b3.out⟩
theorem fieldLaws_of (FP : FPC) (FA : FAddC) (FM : FMulC) (FL : FLowC) (FB : FSubC) (a b c : Nm) (oa : a.ok) (ob : b.ok) (oc : c.ok) (w : World) :
    Calls Try.prog 4 #[N a, N b, N c] w fun e w' => e = .returned (.bool true) ∧ Below w.heap.size w w' := by
  have A2 := FA b a ob oa
  rw [F.add_comm] at A2
  have A3 := FA (nm (F.add a.nat b.nat)) c (nm_ok _) oc
  rw [f_nat (F.add_lt _ _), F.add_assoc] at A3
  have A5 := FA a (nm (F.add b.nat c.nat)) oa (nm_ok _)
  rw [f_nat (F.add_lt _ _)] at A5
  have T2 := FM b a ob oa
  rw [F.mul_comm] at T2
  have T3 := FM (nm (F.mul a.nat b.nat)) c (nm_ok _) oc
  rw [f_nat (F.mul_lt _ _), F.mul_assoc] at T3
  have T5 := FM a (nm (F.mul b.nat c.nat)) oa (nm_ok _)
  rw [f_nat (F.mul_lt _ _)] at T5
  have T6 := FM a (nm (F.add b.nat c.nat)) oa (nm_ok _)
  rw [f_nat (F.add_lt _ _), F.mul_add] at T6
  have A6 := FA (nm (F.mul a.nat b.nat)) (nm (F.mul a.nat c.nat)) (nm_ok _) (nm_ok _)
  rw [f_nat (F.mul_lt _ _), f_nat (F.mul_lt _ _)] at A6
  have T8 := FM a ⟨1, 0, 0, 0⟩ oa fo_ok
  rw [show (⟨1, 0, 0, 0⟩ : Nm).nat = 1 from rfl, F.mul_one] at T8
  have A7 := FA (nm (F.sub a.nat b.nat)) b (nm_ok _) ob
  rw [f_nat (F.sub_lt _ _), F.sub_add] at A7
  have S2 := FB a a oa oa
  rw [F.sub_self] at S2
  refine fieldLaws_walk a b c (nm (a.nat % F.p)) (nm F.p) _ _ _ _ _ _ _ _ _ (cmpV (nm (a.nat % F.p)) (nm F.p)) ?_ (FL a oa) FP (cmp_fun _ _ (nm_ok _) (nm_ok _)) (FA a b oa ob) A2 A3 (FA b c ob oc) A5 (FM a b oa ob) T2 T3 (FM b c ob oc) T5 T6 (FM a c oa oc) A6 T8 (FB a b oa ob) A7 S2 w
  unfold cmpV
  rw [if_pos (by rw [← Nm.nat_cast (nm_ok _), ← Nm.nat_cast (nm_ok _), f_nat (F.mod_lt _), nm_nat F.p_lt]; exact Int.ofNat_lt.2 (F.mod_lt _))]
  decide
end Go.Proofs.Ytmajielbbajdhaa
