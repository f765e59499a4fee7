/- ShareFew, out of contracts. -/
import Derived.Test.YtdcpicbkemmakaaDoorQShFwMToShFw
namespace Go.Proofs.YtdcpicbkemmakaaDoor
open Go.RowKit
attribute [local go_sem] World.cell?_alloc_some cell_alloc2 cell_alloc3 cell_alloc4 frozen?_alloc_cells frozen_out
attribute [local simp] MP.eq_p
set_option linter.unusedSimpArgs false
set_option maxRecDepth 20000 in
set_option maxHeartbeats 2000000 in
theorem few_many (a : Option Addr) (n cp : Nat) (hn : 5 < n) (x : Int) (s : Nm) (w : World)
    (AL : ∀ W, Below w.heap.size w W → Calls Tryd.prog 12 #[] W fun e w' => e = .returned (.bool true) ∧ Below W.heap.size W w') :
    Calls Tryd.prog 5 #[.slice a n cp, .int .i64 x, N s] w fun e w' => e = .returned (.bool true) ∧ Below w.heap.size w w' := by
  have g5 : (n : Int) > 5 := by omega
  clear hn
  have s0 : Hid (Kn (((w.alloc (.cells [.slice a n cp].toArray 26)).alloc (.cells [.int .i64 x].toArray 3)).alloc (.cells (c4 s).toArray 24)) [(w.heap.size + 1 + 1, c4 s), (w.heap.size + 1, [.int .i64 x]), (w.heap.size, [.slice a n cp])]) := (((Kn.nil w).al _ 26 rfl).al _ 3 (by simp)).al _ 24 (by simp)
  have b0 : Hid (Below w.heap.size w (((w.alloc (.cells [.slice a n cp].toArray 26)).alloc (.cells [.int .i64 x].toArray 3)).alloc (.cells (c4 s).toArray 24))) := (((Below.refl _ _).alloc (Nat.le_refl _) _).alloc (by simp) _).alloc (by simp <;> omega) _
  go_enter Tryd.func5, Tryd.ntmps5
  go_wp2_with fail
  refine (AL _ b0.out).mono ?_
  rintro e w1 ⟨rfl, hb1⟩
  have s1 : Hid (Kn w1 [(w.heap.size + 1 + 1, c4 s), (w.heap.size + 1, [.int .i64 x]), (w.heap.size, [.slice a n cp])]) := s0.out.up hb1
  have b1 : Hid (Below w.heap.size w w1) := b0.out.trans (hb1.mono b0.out.size)
  clear s0 b0 hb1
  have cl : Hid (∀ W, Kn W [(w.heap.size + 1 + 1, c4 s), (w.heap.size + 1, [.int .i64 x]), (w.heap.size, [.slice a n cp])] → W.cell? ⟨w.heap.size, 0, none⟩ = some (.slice a n cp)) := fun W h => Kn.get h 2 0 rfl rfl
  go_wp2_with fail
  refine wp_region_up (by kernel_rfl) (by kernel_rfl) (fun U hU f hf hcl => ?_)
  have us_0 := fun nx => (Kn.get (s1.out.up (hf nx).out) 0 0 rfl rfl : (f nx).cell? ⟨w.heap.size + 1 + 1, 0, none⟩ = some (.int .u64 (s).a))
  have us_1 := fun nx => (Kn.get (s1.out.up (hf nx).out) 0 1 rfl rfl : (f nx).cell? ⟨w.heap.size + 1 + 1, 1, none⟩ = some (.int .u64 (s).b))
  have us_2 := fun nx => (Kn.get (s1.out.up (hf nx).out) 0 2 rfl rfl : (f nx).cell? ⟨w.heap.size + 1 + 1, 2, none⟩ = some (.int .u64 (s).c))
  have us_3 := fun nx => (Kn.get (s1.out.up (hf nx).out) 0 3 rfl rfl : (f nx).cell? ⟨w.heap.size + 1 + 1, 3, none⟩ = some (.int .u64 (s).d))
  have cx := fun nx => cl.out (f nx) (s1.out.up (hf nx).out)
  try simp only [List.append_eq, List.cons_append, List.nil_append]
  repeat (go_big_quiet_step (first | fail))
  refine wpQuiet_nil ?_
  intro nx
  have hb2 := (hf nx).out
  clear hf hcl us_0 us_1 us_2 us_3
  generalize f nx = w2 at hb2 ⊢
  have s2 : Hid (Kn w2 [(w.heap.size + 1 + 1, (c4 (s))), (w.heap.size + 1, [.int .i64 x]), (w.heap.size, [.slice a n cp])]) := s1.out.up hb2
  have b2 : Hid (Below w.heap.size w w2) := b1.out.trans (hb2.mono b1.out.size)
  have z2 := b2.out.size
  clear hb2 s1 b1
  go_wp2_with fail
  go_ret
  exact ⟨rfl, b2.out⟩
set_option maxRecDepth 20000 in
set_option maxHeartbeats 2000000 in
theorem few_high (a : Option Addr) (n cp : Nat) (h5 : n ≤ 5) (x : Int) (s o : Nm) (q : Int) (hq : q ≥ 0) (w : World) (AL : ∀ W, Below w.heap.size w W → Calls Tryd.prog 12 #[] W fun e w' => e = .returned (.bool true) ∧ Below W.heap.size W w')
    (SL : ∀ W, Calls Tryd.prog 14 #[] W fun e w' => e = .returned (N o) ∧ Below W.heap.size W w')
    (CM : ∀ W, Calls Tryd.prog 13 #[N s, N o] W fun e w' => e = .returned (.int .i64 q) ∧ Below W.heap.size W w') :
    Calls Tryd.prog 5 #[.slice a n cp, .int .i64 x, N s] w fun e w' => e = .returned (.bool true) ∧ Below w.heap.size w w' := by
  have g5 : ¬ (n : Int) > 5 := by omega
  have g5' : ((5 : Int) < (n : Int)) = False := by rw [eq_iff_iff, iff_false]; omega
  clear h5
  have s0 : Hid (Kn (((w.alloc (.cells [.slice a n cp].toArray 26)).alloc (.cells [.int .i64 x].toArray 3)).alloc (.cells (c4 s).toArray 24)) [(w.heap.size + 1 + 1, c4 s), (w.heap.size + 1, [.int .i64 x]), (w.heap.size, [.slice a n cp])]) := (((Kn.nil w).al _ 26 rfl).al _ 3 (by simp)).al _ 24 (by simp)
  have b0 : Hid (Below w.heap.size w (((w.alloc (.cells [.slice a n cp].toArray 26)).alloc (.cells [.int .i64 x].toArray 3)).alloc (.cells (c4 s).toArray 24))) := (((Below.refl _ _).alloc (Nat.le_refl _) _).alloc (by simp) _).alloc (by simp <;> omega) _
  go_enter Tryd.func5, Tryd.ntmps5
  go_wp2_with fail
  refine (AL _ b0.out).mono ?_
  rintro e w1 ⟨rfl, hb1⟩
  have s1 : Hid (Kn w1 [(w.heap.size + 1 + 1, c4 s), (w.heap.size + 1, [.int .i64 x]), (w.heap.size, [.slice a n cp])]) := s0.out.up hb1
  have b1 : Hid (Below w.heap.size w w1) := b0.out.trans (hb1.mono b0.out.size)
  clear s0 b0 hb1
  have cl : Hid (∀ W, Kn W [(w.heap.size + 1 + 1, c4 s), (w.heap.size + 1, [.int .i64 x]), (w.heap.size, [.slice a n cp])] → W.cell? ⟨w.heap.size, 0, none⟩ = some (.slice a n cp)) := fun W h => Kn.get h 2 0 rfl rfl
  go_wp2_with fail
  refine wp_region_up (by kernel_rfl) (by kernel_rfl) (fun U hU f hf hcl => ?_)
  have us_0 := fun nx => (Kn.get (s1.out.up (hf nx).out) 0 0 rfl rfl : (f nx).cell? ⟨w.heap.size + 1 + 1, 0, none⟩ = some (.int .u64 (s).a))
  have us_1 := fun nx => (Kn.get (s1.out.up (hf nx).out) 0 1 rfl rfl : (f nx).cell? ⟨w.heap.size + 1 + 1, 1, none⟩ = some (.int .u64 (s).b))
  have us_2 := fun nx => (Kn.get (s1.out.up (hf nx).out) 0 2 rfl rfl : (f nx).cell? ⟨w.heap.size + 1 + 1, 2, none⟩ = some (.int .u64 (s).c))
  have us_3 := fun nx => (Kn.get (s1.out.up (hf nx).out) 0 3 rfl rfl : (f nx).cell? ⟨w.heap.size + 1 + 1, 3, none⟩ = some (.int .u64 (s).d))
  have cx := fun nx => cl.out (f nx) (s1.out.up (hf nx).out)
  try simp only [List.append_eq, List.cons_append, List.nil_append]
  repeat (go_big_quiet_step (first | (go_at_call 14; exact (SL _).mono fun e w'' ⟨he, hb⟩ => ⟨he, hcl.out _ _ hb⟩) | (go_at_call 13; exact (CM _).mono fun e w'' ⟨he, hb⟩ => ⟨he, hcl.out _ _ hb⟩)))
  refine wpQuiet_nil ?_
  intro nx
  have hb2 := (hf nx).out
  clear hf hcl us_0 us_1 us_2 us_3
  generalize f nx = w2 at hb2 ⊢
  have s2 : Hid (Kn w2 [(w.heap.size + 1 + 1, (c4 (s))), (w.heap.size + 1, [.int .i64 x]), (w.heap.size, [.slice a n cp])]) := s1.out.up hb2
  have b2 : Hid (Below w.heap.size w w2) := b1.out.trans (hb2.mono b1.out.size)
  have z2 := b2.out.size
  clear hb2 s1 b1
  go_wp2_with fail
  go_ret
  exact ⟨rfl, b2.out⟩
set_option maxRecDepth 20000 in
set_option maxHeartbeats 2000000 in
theorem few_bad (a : Option Addr) (n cp : Nat) (h5 : n ≤ 5) (l : List Shr) (x E : Int) (hE : (E != 0) = true) (s o r0 r1 : Nm) (q : Int) (hq : ¬ q ≥ 0) (w : World) (HV : Hid (Shs w (.slice a n cp) l)) (AL : ∀ W, Below w.heap.size w W → Calls Tryd.prog 12 #[] W fun e w' => e = .returned (.bool true) ∧ Below W.heap.size W w')
    (SL : ∀ W, Calls Tryd.prog 14 #[] W fun e w' => e = .returned (N o) ∧ Below W.heap.size W w')
    (CM : ∀ W, Calls Tryd.prog 13 #[N s, N o] W fun e w' => e = .returned (.int .i64 q) ∧ Below W.heap.size W w')
    (W0 : ∀ W, Shs W (.slice a n cp) l → W.cell? ⟨w.heap.size, 0, none⟩ = some (.slice a n cp) → W.cell? ⟨w.heap.size + 1, 0, none⟩ = some (.int .i64 x) → Calls Tryd.prog 15 #[N ⟨0, 0, 0, 0⟩, .pointer (some ⟨w.heap.size, 0, none⟩), .pointer (some ⟨w.heap.size + 1, 0, none⟩)] W fun e w' => e = .returned (.tuple #[N r0, .int .i64 E]) ∧ Below W.heap.size W w')
    (W1 : ∀ W, Shs W (.slice a n cp) l → W.cell? ⟨w.heap.size, 0, none⟩ = some (.slice a n cp) → W.cell? ⟨w.heap.size + 1, 0, none⟩ = some (.int .i64 x) → Calls Tryd.prog 15 #[N ⟨1, 0, 0, 0⟩, .pointer (some ⟨w.heap.size, 0, none⟩), .pointer (some ⟨w.heap.size + 1, 0, none⟩)] W fun e w' => e = .returned (.tuple #[N r1, .int .i64 E]) ∧ Below W.heap.size W w') :
    Calls Tryd.prog 5 #[.slice a n cp, .int .i64 x, N s] w fun e w' => e = .returned (.bool true) ∧ Below w.heap.size w w' := by
  have g5 : ¬ (n : Int) > 5 := by omega
  have g5' : ((5 : Int) < (n : Int)) = False := by rw [eq_iff_iff, iff_false]; omega
  clear h5
  have s0 : Hid (Kn (((w.alloc (.cells [.slice a n cp].toArray 26)).alloc (.cells [.int .i64 x].toArray 3)).alloc (.cells (c4 s).toArray 24)) [(w.heap.size + 1 + 1, c4 s), (w.heap.size + 1, [.int .i64 x]), (w.heap.size, [.slice a n cp])]) := (((Kn.nil w).al _ 26 rfl).al _ 3 (by simp)).al _ 24 (by simp)
  have b0 : Hid (Below w.heap.size w (((w.alloc (.cells [.slice a n cp].toArray 26)).alloc (.cells [.int .i64 x].toArray 3)).alloc (.cells (c4 s).toArray 24))) := (((Below.refl _ _).alloc (Nat.le_refl _) _).alloc (by simp) _).alloc (by simp <;> omega) _
  go_enter Tryd.func5, Tryd.ntmps5
  go_wp2_with fail
  refine (AL _ b0.out).mono ?_
  rintro e w1 ⟨rfl, hb1⟩
  have s1 : Hid (Kn w1 [(w.heap.size + 1 + 1, c4 s), (w.heap.size + 1, [.int .i64 x]), (w.heap.size, [.slice a n cp])]) := s0.out.up hb1
  have b1 : Hid (Below w.heap.size w w1) := b0.out.trans (hb1.mono b0.out.size)
  clear s0 b0 hb1
  have cl : Hid (∀ W, Kn W [(w.heap.size + 1 + 1, c4 s), (w.heap.size + 1, [.int .i64 x]), (w.heap.size, [.slice a n cp])] → W.cell? ⟨w.heap.size, 0, none⟩ = some (.slice a n cp)) := fun W h => Kn.get h 2 0 rfl rfl
  go_wp2_with fail
  refine wp_region_up (by kernel_rfl) (by kernel_rfl) (fun U hU f hf hcl => ?_)
  have us_0 := fun nx => (Kn.get (s1.out.up (hf nx).out) 0 0 rfl rfl : (f nx).cell? ⟨w.heap.size + 1 + 1, 0, none⟩ = some (.int .u64 (s).a))
  have us_1 := fun nx => (Kn.get (s1.out.up (hf nx).out) 0 1 rfl rfl : (f nx).cell? ⟨w.heap.size + 1 + 1, 1, none⟩ = some (.int .u64 (s).b))
  have us_2 := fun nx => (Kn.get (s1.out.up (hf nx).out) 0 2 rfl rfl : (f nx).cell? ⟨w.heap.size + 1 + 1, 2, none⟩ = some (.int .u64 (s).c))
  have us_3 := fun nx => (Kn.get (s1.out.up (hf nx).out) 0 3 rfl rfl : (f nx).cell? ⟨w.heap.size + 1 + 1, 3, none⟩ = some (.int .u64 (s).d))
  have cx := fun nx => cl.out (f nx) (s1.out.up (hf nx).out)
  try simp only [List.append_eq, List.cons_append, List.nil_append]
  repeat (go_big_quiet_step (first | (go_at_call 14; exact (SL _).mono fun e w'' ⟨he, hb⟩ => ⟨he, hcl.out _ _ hb⟩) | (go_at_call 13; exact (CM _).mono fun e w'' ⟨he, hb⟩ => ⟨he, hcl.out _ _ hb⟩)))
  refine wpQuiet_nil ?_
  intro nx
  have hb2 := (hf nx).out
  clear hf hcl us_0 us_1 us_2 us_3
  generalize f nx = w2 at hb2 ⊢
  have s2 : Hid (Kn w2 [(w.heap.size + 1 + 1, (c4 (s))), (w.heap.size + 1, [.int .i64 x]), (w.heap.size, [.slice a n cp])]) := s1.out.up hb2
  have b2 : Hid (Below w.heap.size w w2) := b1.out.trans (hb2.mono b1.out.size)
  have z2 := b2.out.size
  clear hb2 s1 b1
  go_wp2_with fail
  refine (W0 _ (HV.out.up b2.out) (Kn.get s2.out 2 0 rfl rfl) (Kn.get s2.out 1 0 rfl rfl)).mono ?_
  rintro e w3 ⟨rfl, hb3⟩
  have s3 : Hid (Kn w3 [(w.heap.size + 1 + 1, (c4 (s))), (w.heap.size + 1, [.int .i64 x]), (w.heap.size, [.slice a n cp])]) := s2.out.up hb3
  have b3 : Hid (Below w.heap.size w w3) := b2.out.trans (hb3.mono b2.out.size)
  have z3 := b3.out.size
  clear hb3 s2 b2
  have s4 : Hid (Kn (kal4 w3 (r0)) [(w3.heap.size, (c4 (r0))), (w.heap.size + 1 + 1, (c4 (s))), (w.heap.size + 1, [.int .i64 x]), (w.heap.size, [.slice a n cp])]) := s3.out.al (c4 (r0)) 24 rfl
  have b4 : Hid (Below w.heap.size w (kal4 w3 (r0))) := b3.out.alloc b3.out.size _
  have z4 := b3.out.size
  clear s3 b3
  go_wp2_with fail
  refine (W1 _ (HV.out.up b4.out) (Kn.get s4.out 3 0 rfl rfl) (Kn.get s4.out 2 0 rfl rfl)).mono ?_
  rintro e w5 ⟨rfl, hb5⟩
  have s5 : Hid (Kn w5 [(w3.heap.size, (c4 (r0))), (w.heap.size + 1 + 1, (c4 (s))), (w.heap.size + 1, [.int .i64 x]), (w.heap.size, [.slice a n cp])]) := s4.out.up hb5
  have b5 : Hid (Below w.heap.size w w5) := b4.out.trans (hb5.mono b4.out.size)
  have z5 := b5.out.size
  clear hb5 s4 b4
  have s6 : Hid (Kn (kal4 w5 (r1)) [(w5.heap.size, (c4 (r1))), (w3.heap.size, (c4 (r0))), (w.heap.size + 1 + 1, (c4 (s))), (w.heap.size + 1, [.int .i64 x]), (w.heap.size, [.slice a n cp])]) := s5.out.al (c4 (r1)) 24 rfl
  have b6 : Hid (Below w.heap.size w (kal4 w5 (r1))) := b5.out.alloc b5.out.size _
  have z6 := b5.out.size
  clear s5 b5
  go_wp2_with fail
  go_ret
  exact ⟨rfl, b6.out⟩
set_option maxRecDepth 20000 in
set_option maxHeartbeats 4000000 in
theorem few_good (a : Option Addr) (n cp : Nat) (h5 : n ≤ 5) (l : List Shr) (x : Int) (s o r0 r1 m d u v y : Nm) (q : Int) (hq : ¬ q ≥ 0) (w : World) (HV : Hid (Shs w (.slice a n cp) l)) (AL : ∀ W, Below w.heap.size w W → Calls Tryd.prog 12 #[] W fun e w' => e = .returned (.bool true) ∧ Below W.heap.size W w')
    (SL : ∀ W, Calls Tryd.prog 14 #[] W fun e w' => e = .returned (N o) ∧ Below W.heap.size W w')
    (CM : ∀ W, Calls Tryd.prog 13 #[N s, N o] W fun e w' => e = .returned (.int .i64 q) ∧ Below W.heap.size W w')
    (W0 : ∀ W, Shs W (.slice a n cp) l → W.cell? ⟨w.heap.size, 0, none⟩ = some (.slice a n cp) → W.cell? ⟨w.heap.size + 1, 0, none⟩ = some (.int .i64 x) → Calls Tryd.prog 15 #[N ⟨0, 0, 0, 0⟩, .pointer (some ⟨w.heap.size, 0, none⟩), .pointer (some ⟨w.heap.size + 1, 0, none⟩)] W fun e w' => e = .returned (.tuple #[N r0, .int .i64 0]) ∧ Below W.heap.size W w')
    (W1 : ∀ W, Shs W (.slice a n cp) l → W.cell? ⟨w.heap.size, 0, none⟩ = some (.slice a n cp) → W.cell? ⟨w.heap.size + 1, 0, none⟩ = some (.int .i64 x) → Calls Tryd.prog 15 #[N ⟨1, 0, 0, 0⟩, .pointer (some ⟨w.heap.size, 0, none⟩), .pointer (some ⟨w.heap.size + 1, 0, none⟩)] W fun e w' => e = .returned (.tuple #[N r1, .int .i64 0]) ∧ Below W.heap.size W w')
    (W2 : ∀ W, Shs W (.slice a n cp) l → W.cell? ⟨w.heap.size, 0, none⟩ = some (.slice a n cp) → W.cell? ⟨w.heap.size + 1, 0, none⟩ = some (.int .i64 x) → Calls Tryd.prog 15 #[N y, .pointer (some ⟨w.heap.size, 0, none⟩), .pointer (some ⟨w.heap.size + 1, 0, none⟩)] W fun e w' => e = .returned (.tuple #[N s, .int .i64 0]) ∧ Below W.heap.size W w')
    (NG : ∀ W, Calls Tryd.prog 18 #[N r0] W fun e w' => e = .returned (N m) ∧ Below W.heap.size W w')
    (A1 : ∀ W, Calls Tryd.prog 17 #[N r1, N m] W fun e w' => e = .returned (N d) ∧ Below W.heap.size W w')
    (A2 : ∀ W, Calls Tryd.prog 17 #[N s, N m] W fun e w' => e = .returned (N u) ∧ Below W.heap.size W w')
    (IV : ∀ W, Calls Tryd.prog 20 #[N d] W fun e w' => e = .returned (N v) ∧ Below W.heap.size W w')
    (ML : ∀ W, Calls Tryd.prog 19 #[N u, N v] W fun e w' => e = .returned (N y) ∧ Below W.heap.size W w')
    (nd : ∀ w, (binOp .neq 24 (N d) (N ⟨0, 0, 0, 0⟩)).run Tryd.prog w = .ok (.bool true) w)
    (es : ∀ w, (binOp .eql 24 (N s) (N s)).run Tryd.prog w = .ok (.bool true) w) :
    Calls Tryd.prog 5 #[.slice a n cp, .int .i64 x, N s] w fun e w' => e = .returned (.bool true) ∧ Below w.heap.size w w' := by
  have g5 : ¬ (n : Int) > 5 := by omega
  have g5' : ((5 : Int) < (n : Int)) = False := by rw [eq_iff_iff, iff_false]; omega
  clear h5
  have s0 : Hid (Kn (((w.alloc (.cells [.slice a n cp].toArray 26)).alloc (.cells [.int .i64 x].toArray 3)).alloc (.cells (c4 s).toArray 24)) [(w.heap.size + 1 + 1, c4 s), (w.heap.size + 1, [.int .i64 x]), (w.heap.size, [.slice a n cp])]) := (((Kn.nil w).al _ 26 rfl).al _ 3 (by simp)).al _ 24 (by simp)
  have b0 : Hid (Below w.heap.size w (((w.alloc (.cells [.slice a n cp].toArray 26)).alloc (.cells [.int .i64 x].toArray 3)).alloc (.cells (c4 s).toArray 24))) := (((Below.refl _ _).alloc (Nat.le_refl _) _).alloc (by simp) _).alloc (by simp <;> omega) _
  go_enter Tryd.func5, Tryd.ntmps5
  go_wp2_with fail
  refine (AL _ b0.out).mono ?_
  rintro e w1 ⟨rfl, hb1⟩
  have s1 : Hid (Kn w1 [(w.heap.size + 1 + 1, c4 s), (w.heap.size + 1, [.int .i64 x]), (w.heap.size, [.slice a n cp])]) := s0.out.up hb1
  have b1 : Hid (Below w.heap.size w w1) := b0.out.trans (hb1.mono b0.out.size)
  clear s0 b0 hb1
  have cl : Hid (∀ W, Kn W [(w.heap.size + 1 + 1, c4 s), (w.heap.size + 1, [.int .i64 x]), (w.heap.size, [.slice a n cp])] → W.cell? ⟨w.heap.size, 0, none⟩ = some (.slice a n cp)) := fun W h => Kn.get h 2 0 rfl rfl
  go_wp2_with fail
  refine wp_region_up (by kernel_rfl) (by kernel_rfl) (fun U hU f hf hcl => ?_)
  have us_0 := fun nx => (Kn.get (s1.out.up (hf nx).out) 0 0 rfl rfl : (f nx).cell? ⟨w.heap.size + 1 + 1, 0, none⟩ = some (.int .u64 (s).a))
  have us_1 := fun nx => (Kn.get (s1.out.up (hf nx).out) 0 1 rfl rfl : (f nx).cell? ⟨w.heap.size + 1 + 1, 1, none⟩ = some (.int .u64 (s).b))
  have us_2 := fun nx => (Kn.get (s1.out.up (hf nx).out) 0 2 rfl rfl : (f nx).cell? ⟨w.heap.size + 1 + 1, 2, none⟩ = some (.int .u64 (s).c))
  have us_3 := fun nx => (Kn.get (s1.out.up (hf nx).out) 0 3 rfl rfl : (f nx).cell? ⟨w.heap.size + 1 + 1, 3, none⟩ = some (.int .u64 (s).d))
  have cx := fun nx => cl.out (f nx) (s1.out.up (hf nx).out)
  try simp only [List.append_eq, List.cons_append, List.nil_append]
  repeat (go_big_quiet_step (first | (go_at_call 14; exact (SL _).mono fun e w'' ⟨he, hb⟩ => ⟨he, hcl.out _ _ hb⟩) | (go_at_call 13; exact (CM _).mono fun e w'' ⟨he, hb⟩ => ⟨he, hcl.out _ _ hb⟩)))
  refine wpQuiet_nil ?_
  intro nx
  have hb2 := (hf nx).out
  clear hf hcl us_0 us_1 us_2 us_3
  generalize f nx = w2 at hb2 ⊢
  have s2 : Hid (Kn w2 [(w.heap.size + 1 + 1, (c4 (s))), (w.heap.size + 1, [.int .i64 x]), (w.heap.size, [.slice a n cp])]) := s1.out.up hb2
  have b2 : Hid (Below w.heap.size w w2) := b1.out.trans (hb2.mono b1.out.size)
  have z2 := b2.out.size
  clear hb2 s1 b1
  go_wp2_with fail
  refine (W0 _ (HV.out.up b2.out) (Kn.get s2.out 2 0 rfl rfl) (Kn.get s2.out 1 0 rfl rfl)).mono ?_
  rintro e w3 ⟨rfl, hb3⟩
  have s3 : Hid (Kn w3 [(w.heap.size + 1 + 1, (c4 (s))), (w.heap.size + 1, [.int .i64 x]), (w.heap.size, [.slice a n cp])]) := s2.out.up hb3
  have b3 : Hid (Below w.heap.size w w3) := b2.out.trans (hb3.mono b2.out.size)
  have z3 := b3.out.size
  clear hb3 s2 b2
  have s4 : Hid (Kn (kal4 w3 (r0)) [(w3.heap.size, (c4 (r0))), (w.heap.size + 1 + 1, (c4 (s))), (w.heap.size + 1, [.int .i64 x]), (w.heap.size, [.slice a n cp])]) := s3.out.al (c4 (r0)) 24 rfl
  have b4 : Hid (Below w.heap.size w (kal4 w3 (r0))) := b3.out.alloc b3.out.size _
  have z4 := b3.out.size
  clear s3 b3
  go_wp2_with fail
  refine (W1 _ (HV.out.up b4.out) (Kn.get s4.out 3 0 rfl rfl) (Kn.get s4.out 2 0 rfl rfl)).mono ?_
  rintro e w5 ⟨rfl, hb5⟩
  have s5 : Hid (Kn w5 [(w3.heap.size, (c4 (r0))), (w.heap.size + 1 + 1, (c4 (s))), (w.heap.size + 1, [.int .i64 x]), (w.heap.size, [.slice a n cp])]) := s4.out.up hb5
  have b5 : Hid (Below w.heap.size w w5) := b4.out.trans (hb5.mono b4.out.size)
  have z5 := b5.out.size
  clear hb5 s4 b4
  have s6 : Hid (Kn (kal4 w5 (r1)) [(w5.heap.size, (c4 (r1))), (w3.heap.size, (c4 (r0))), (w.heap.size + 1 + 1, (c4 (s))), (w.heap.size + 1, [.int .i64 x]), (w.heap.size, [.slice a n cp])]) := s5.out.al (c4 (r1)) 24 rfl
  have b6 : Hid (Below w.heap.size w (kal4 w5 (r1))) := b5.out.alloc b5.out.size _
  have z6 := b5.out.size
  clear s5 b5
  go_wp2_with fail
  refine wp_region_alloc1 4 (.cells #[.int .u64 0, .int .u64 0, .int .u64 0, .int .u64 0] 24) (by kernel_rfl) (by kernel_rfl) (by kernel_rfl) (by kernel_rfl) (by decide) (fun _ _ d _ _ h => by cases d <;> exact h) rfl rfl (fun _ _ => by kernel_rfl) ?_
  apply Exists.intro
  refine ⟨fun U hU f hf hcl => ?_, fun k7 w7 hb7 hk7 hc7 => ?_⟩
  · skip
    have ua0_0 := fun nx => (Kn.get (s6.out.up (hf nx).out) 1 0 rfl rfl : (f nx).cell? ⟨w3.heap.size, 0, none⟩ = some (.int .u64 (r0).a))
    have ua0_1 := fun nx => (Kn.get (s6.out.up (hf nx).out) 1 1 rfl rfl : (f nx).cell? ⟨w3.heap.size, 1, none⟩ = some (.int .u64 (r0).b))
    have ua0_2 := fun nx => (Kn.get (s6.out.up (hf nx).out) 1 2 rfl rfl : (f nx).cell? ⟨w3.heap.size, 2, none⟩ = some (.int .u64 (r0).c))
    have ua0_3 := fun nx => (Kn.get (s6.out.up (hf nx).out) 1 3 rfl rfl : (f nx).cell? ⟨w3.heap.size, 3, none⟩ = some (.int .u64 (r0).d))
    have ua1_0 := fun nx => (Kn.get (s6.out.up (hf nx).out) 0 0 rfl rfl : (f nx).cell? ⟨w5.heap.size, 0, none⟩ = some (.int .u64 (r1).a))
    have ua1_1 := fun nx => (Kn.get (s6.out.up (hf nx).out) 0 1 rfl rfl : (f nx).cell? ⟨w5.heap.size, 1, none⟩ = some (.int .u64 (r1).b))
    have ua1_2 := fun nx => (Kn.get (s6.out.up (hf nx).out) 0 2 rfl rfl : (f nx).cell? ⟨w5.heap.size, 2, none⟩ = some (.int .u64 (r1).c))
    have ua1_3 := fun nx => (Kn.get (s6.out.up (hf nx).out) 0 3 rfl rfl : (f nx).cell? ⟨w5.heap.size, 3, none⟩ = some (.int .u64 (r1).d))
    clear hf
    simp only [List.take_succ_cons, List.take_zero]
    repeat (go_big_quiet_step (first | (go_at_call 18; exact (NG _).mono fun e w'' ⟨he, hb⟩ => ⟨he, hcl.out _ _ hb⟩) | (go_at_call 17; exact (A1 _).mono fun e w'' ⟨he, hb⟩ => ⟨he, hcl.out _ _ hb⟩)))
    exact wpQuiet_nil rfl
  simp only [List.drop_succ_cons, List.drop_zero]
  have z7 := b6.out.size
  have s7x : Hid (Kn w7 [(k7, zz4), (w5.heap.size, (c4 (r1))), (w3.heap.size, (c4 (r0))), (w.heap.size + 1 + 1, (c4 (s))), (w.heap.size + 1, [.int .i64 x]), (w.heap.size, [.slice a n cp])]) := s6.out.fresh hb7.out hk7 hc7.out
  have g7 : w.heap.size ≤ k7 := Nat.le_trans b6.out.size hk7
  have cz7_0 : w7.cell? ⟨k7, 0, none⟩ = some (.int .u64 0) := Kn.get s7x.out 0 0 rfl rfl
  have cz7_1 : w7.cell? ⟨k7, 1, none⟩ = some (.int .u64 0) := Kn.get s7x.out 0 1 rfl rfl
  have cz7_2 : w7.cell? ⟨k7, 2, none⟩ = some (.int .u64 0) := Kn.get s7x.out 0 2 rfl rfl
  have cz7_3 : w7.cell? ⟨k7, 3, none⟩ = some (.int .u64 0) := Kn.get s7x.out 0 3 rfl rfl
  have cz7 : ∀ j, w7.frozen? ⟨k7, j, none⟩ = false := Kn.fz s7x.out 0 rfl
  have s7 : Hid (Kn (st4 w7 k7 (d)) [(k7, (c4 (d))), (w5.heap.size, (c4 (r1))), (w3.heap.size, (c4 (r0))), (w.heap.size + 1 + 1, (c4 (s))), (w.heap.size + 1, [.int .i64 x]), (w.heap.size, [.slice a n cp])]) := s7x.out.st4 (d)
  have b7 : Hid (Below w.heap.size w (st4 w7 k7 (d))) := below_st4 (b6.out.trans (hb7.out.mono b6.out.size)) g7
  clear s7x s6 b6 hb7 hc7 hk7
  go_wp2_with fail
  clear cz7_0 cz7_1 cz7_2 cz7_3 cz7
  refine wp_region_alloc1 7 (.cells #[.int .u64 0, .int .u64 0, .int .u64 0, .int .u64 0] 24) (by kernel_rfl) (by kernel_rfl) (by kernel_rfl) (by kernel_rfl) (by decide) (fun _ _ d _ _ h => by cases d <;> exact h) rfl rfl (fun _ _ => by kernel_rfl) ?_
  apply Exists.intro
  refine ⟨fun U hU f hf hcl => ?_, fun k8 w8 hb8 hk8 hc8 => ?_⟩
  · skip
    have us_0 := fun nx => (Kn.get (s7.out.up (hf nx).out) 3 0 rfl rfl : (f nx).cell? ⟨w.heap.size + 1 + 1, 0, none⟩ = some (.int .u64 (s).a))
    have us_1 := fun nx => (Kn.get (s7.out.up (hf nx).out) 3 1 rfl rfl : (f nx).cell? ⟨w.heap.size + 1 + 1, 1, none⟩ = some (.int .u64 (s).b))
    have us_2 := fun nx => (Kn.get (s7.out.up (hf nx).out) 3 2 rfl rfl : (f nx).cell? ⟨w.heap.size + 1 + 1, 2, none⟩ = some (.int .u64 (s).c))
    have us_3 := fun nx => (Kn.get (s7.out.up (hf nx).out) 3 3 rfl rfl : (f nx).cell? ⟨w.heap.size + 1 + 1, 3, none⟩ = some (.int .u64 (s).d))
    have ua0_0 := fun nx => (Kn.get (s7.out.up (hf nx).out) 2 0 rfl rfl : (f nx).cell? ⟨w3.heap.size, 0, none⟩ = some (.int .u64 (r0).a))
    have ua0_1 := fun nx => (Kn.get (s7.out.up (hf nx).out) 2 1 rfl rfl : (f nx).cell? ⟨w3.heap.size, 1, none⟩ = some (.int .u64 (r0).b))
    have ua0_2 := fun nx => (Kn.get (s7.out.up (hf nx).out) 2 2 rfl rfl : (f nx).cell? ⟨w3.heap.size, 2, none⟩ = some (.int .u64 (r0).c))
    have ua0_3 := fun nx => (Kn.get (s7.out.up (hf nx).out) 2 3 rfl rfl : (f nx).cell? ⟨w3.heap.size, 3, none⟩ = some (.int .u64 (r0).d))
    have ud_0 := fun nx => (Kn.get (s7.out.up (hf nx).out) 0 0 rfl rfl : (f nx).cell? ⟨k7, 0, none⟩ = some (.int .u64 (d).a))
    have ud_1 := fun nx => (Kn.get (s7.out.up (hf nx).out) 0 1 rfl rfl : (f nx).cell? ⟨k7, 1, none⟩ = some (.int .u64 (d).b))
    have ud_2 := fun nx => (Kn.get (s7.out.up (hf nx).out) 0 2 rfl rfl : (f nx).cell? ⟨k7, 2, none⟩ = some (.int .u64 (d).c))
    have ud_3 := fun nx => (Kn.get (s7.out.up (hf nx).out) 0 3 rfl rfl : (f nx).cell? ⟨k7, 3, none⟩ = some (.int .u64 (d).d))
    clear hf
    simp only [List.take_succ_cons, List.take_zero]
    repeat (go_big_quiet_step (first | (go_at_call 18; exact (NG _).mono fun e w'' ⟨he, hb⟩ => ⟨he, hcl.out _ _ hb⟩) | (go_at_call 17; exact (A2 _).mono fun e w'' ⟨he, hb⟩ => ⟨he, hcl.out _ _ hb⟩) | (go_at_call 20; exact (IV _).mono fun e w'' ⟨he, hb⟩ => ⟨he, hcl.out _ _ hb⟩) | (go_at_call 19; exact (ML _).mono fun e w'' ⟨he, hb⟩ => ⟨he, hcl.out _ _ hb⟩)))
    exact wpQuiet_nil rfl
  simp only [List.drop_succ_cons, List.drop_zero]
  have z8 := b7.out.size
  have s8x : Hid (Kn w8 [(k8, zz4), (k7, (c4 (d))), (w5.heap.size, (c4 (r1))), (w3.heap.size, (c4 (r0))), (w.heap.size + 1 + 1, (c4 (s))), (w.heap.size + 1, [.int .i64 x]), (w.heap.size, [.slice a n cp])]) := s7.out.fresh hb8.out hk8 hc8.out
  have g8 : w.heap.size ≤ k8 := Nat.le_trans b7.out.size hk8
  have cz8_0 : w8.cell? ⟨k8, 0, none⟩ = some (.int .u64 0) := Kn.get s8x.out 0 0 rfl rfl
  have cz8_1 : w8.cell? ⟨k8, 1, none⟩ = some (.int .u64 0) := Kn.get s8x.out 0 1 rfl rfl
  have cz8_2 : w8.cell? ⟨k8, 2, none⟩ = some (.int .u64 0) := Kn.get s8x.out 0 2 rfl rfl
  have cz8_3 : w8.cell? ⟨k8, 3, none⟩ = some (.int .u64 0) := Kn.get s8x.out 0 3 rfl rfl
  have cz8 : ∀ j, w8.frozen? ⟨k8, j, none⟩ = false := Kn.fz s8x.out 0 rfl
  have s8 : Hid (Kn (st4 w8 k8 (y)) [(k8, (c4 (y))), (k7, (c4 (d))), (w5.heap.size, (c4 (r1))), (w3.heap.size, (c4 (r0))), (w.heap.size + 1 + 1, (c4 (s))), (w.heap.size + 1, [.int .i64 x]), (w.heap.size, [.slice a n cp])]) := s8x.out.st4 (y)
  have b8 : Hid (Below w.heap.size w (st4 w8 k8 (y))) := below_st4 (b7.out.trans (hb8.out.mono b7.out.size)) g8
  clear s8x s7 b7 hb8 hc8 hk8
  have uy_0 : (st4 w8 k8 (y)).cell? ⟨k8, 0, none⟩ = some (.int .u64 (y).a) := Kn.get s8.out 0 0 rfl rfl
  have uy_1 : (st4 w8 k8 (y)).cell? ⟨k8, 1, none⟩ = some (.int .u64 (y).b) := Kn.get s8.out 0 1 rfl rfl
  have uy_2 : (st4 w8 k8 (y)).cell? ⟨k8, 2, none⟩ = some (.int .u64 (y).c) := Kn.get s8.out 0 2 rfl rfl
  have uy_3 : (st4 w8 k8 (y)).cell? ⟨k8, 3, none⟩ = some (.int .u64 (y).d) := Kn.get s8.out 0 3 rfl rfl
  go_wp2_with fail
  clear cz8_0 cz8_1 cz8_2 cz8_3 cz8 uy_0 uy_1 uy_2 uy_3
  refine (W2 _ (HV.out.up b8.out) (Kn.get s8.out 6 0 rfl rfl) (Kn.get s8.out 5 0 rfl rfl)).mono ?_
  rintro e w9 ⟨rfl, hb9⟩
  have s9 : Hid (Kn w9 [(k8, (c4 (y))), (k7, (c4 (d))), (w5.heap.size, (c4 (r1))), (w3.heap.size, (c4 (r0))), (w.heap.size + 1 + 1, (c4 (s))), (w.heap.size + 1, [.int .i64 x]), (w.heap.size, [.slice a n cp])]) := s8.out.up hb9
  have b9 : Hid (Below w.heap.size w w9) := b8.out.trans (hb9.mono b8.out.size)
  have z9 := b9.out.size
  clear hb9 s8 b8
  have s10 : Hid (Kn (kal4 w9 (s)) [(w9.heap.size, (c4 (s))), (k8, (c4 (y))), (k7, (c4 (d))), (w5.heap.size, (c4 (r1))), (w3.heap.size, (c4 (r0))), (w.heap.size + 1 + 1, (c4 (s))), (w.heap.size + 1, [.int .i64 x]), (w.heap.size, [.slice a n cp])]) := s9.out.al (c4 (s)) 24 rfl
  have b10 : Hid (Below w.heap.size w (kal4 w9 (s))) := b9.out.alloc b9.out.size _
  have z10 := b9.out.size
  clear s9 b9
  have ud_0 : (kal4 w9 (s)).cell? ⟨k7, 0, none⟩ = some (.int .u64 (d).a) := Kn.get s10.out 2 0 rfl rfl
  have ud_1 : (kal4 w9 (s)).cell? ⟨k7, 1, none⟩ = some (.int .u64 (d).b) := Kn.get s10.out 2 1 rfl rfl
  have ud_2 : (kal4 w9 (s)).cell? ⟨k7, 2, none⟩ = some (.int .u64 (d).c) := Kn.get s10.out 2 2 rfl rfl
  have ud_3 : (kal4 w9 (s)).cell? ⟨k7, 3, none⟩ = some (.int .u64 (d).d) := Kn.get s10.out 2 3 rfl rfl
  have uf_0 : (kal4 w9 (s)).cell? ⟨w9.heap.size, 0, none⟩ = some (.int .u64 (s).a) := Kn.get s10.out 0 0 rfl rfl
  have uf_1 : (kal4 w9 (s)).cell? ⟨w9.heap.size, 1, none⟩ = some (.int .u64 (s).b) := Kn.get s10.out 0 1 rfl rfl
  have uf_2 : (kal4 w9 (s)).cell? ⟨w9.heap.size, 2, none⟩ = some (.int .u64 (s).c) := Kn.get s10.out 0 2 rfl rfl
  have uf_3 : (kal4 w9 (s)).cell? ⟨w9.heap.size, 3, none⟩ = some (.int .u64 (s).d) := Kn.get s10.out 0 3 rfl rfl
  have us_0 : (kal4 w9 (s)).cell? ⟨w.heap.size + 1 + 1, 0, none⟩ = some (.int .u64 (s).a) := Kn.get s10.out 5 0 rfl rfl
  have us_1 : (kal4 w9 (s)).cell? ⟨w.heap.size + 1 + 1, 1, none⟩ = some (.int .u64 (s).b) := Kn.get s10.out 5 1 rfl rfl
  have us_2 : (kal4 w9 (s)).cell? ⟨w.heap.size + 1 + 1, 2, none⟩ = some (.int .u64 (s).c) := Kn.get s10.out 5 2 rfl rfl
  have us_3 : (kal4 w9 (s)).cell? ⟨w.heap.size + 1 + 1, 3, none⟩ = some (.int .u64 (s).d) := Kn.get s10.out 5 3 rfl rfl
  go_wp2_with fail
  clear ud_0 ud_1 ud_2 ud_3 uf_0 uf_1 uf_2 uf_3 us_0 us_1 us_2 us_3
  go_ret
  exact ⟨rfl, b10.out⟩
theorem shareFew_of (SP : SplitC) (AT : AtC) (SLo : SLC) (CMo : ∀ x y : Nm, x.ok → y.ok → ∃ q : Int, (q ≥ 0 ↔ y.nat ≤ x.nat) ∧ ∀ w, Calls Tryd.prog 13 #[N x, N y] w fun e w' => e = .returned (.int .i64 q) ∧ Below w.heap.size w w') (AD : SAddC) (NGo : SNegC) (MLo : SMulC) (IVo : SInvC) (l : List Shr) (hl : ∀ s ∈ l, s.ok) (x : Int) (hx : -9223372036854775808 ≤ x ∧ x ≤ 9223372036854775807) (s : Nm) (os : s.ok) (v : Value) (w : World) (hv : Shs w v l) (hK : KTab w) :
    Calls Tryd.prog 5 #[v, .int .i64 x, N s] w fun e w' => e = .returned (.bool true) ∧ Below w.heap.size w w' := by
  have AL : ∀ W, Below w.heap.size w W → Calls Tryd.prog 12 #[] W fun e w' => e = .returned (.bool true) ∧ Below W.heap.size W w' := fun W hW => shares_alive SP W (hK.up hW hK.pos)
  obtain ⟨a, cp, rfl⟩ := shs_parts hv
  by_cases h5 : 5 < l.length
  · exact few_many a _ cp h5 x s w AL
  obtain ⟨q, hq, CM⟩ := CMo s (nm Cv.ord) os (nm_ok _)
  rw [nm_nat (by decide)] at hq
  by_cases hS : Cv.ord ≤ s.nat
  · exact few_high a _ cp (by omega) x s _ q (hq.2 hS) w AL SLo CM
  have hq' : ¬ q ≥ 0 := fun h => hS (hq.1 h)
  have o0 : (⟨0, 0, 0, 0⟩ : Nm).ok := by refine ⟨?_, ?_, ?_, ?_⟩ <;> exact ⟨by decide, by decide⟩
  have o1 : (⟨1, 0, 0, 0⟩ : Nm).ok := by refine ⟨?_, ?_, ?_, ?_⟩ <;> exact ⟨by decide, by decide⟩
  have z0 : (⟨0, 0, 0, 0⟩ : Nm).nat = 0 := by decide
  have z1 : (⟨1, 0, 0, 0⟩ : Nm).nat = 1 := by decide
  have p0 : (0 : Nat) < Cv.ord := by decide
  have p1 : (1 : Nat) < Cv.ord := by decide
  have WI := fun (y : Nm) (oy : y.ok) W (h1 : Shs W (.slice a l.length cp) l) h2 h3 => with_walk l l.length rfl (by omega) a cp x ((fltN (l ++ [⟨x, y⟩]) 0 : Nat) : Int) y (atM (l ++ [⟨x, y⟩]) 0) w.heap.size (w.heap.size + 1) W h2 h3 h1 (fun W v h => AT (l ++ [⟨x, y⟩]) (fun u hu => by
    rcases List.mem_append.1 hu with hu | hu
    · exact hl u hu
    · obtain rfl := List.mem_singleton.1 hu
      exact ⟨hx, oy⟩) 0 (by decide) v W h)
  by_cases hf : fltN (l ++ [⟨x, ⟨0, 0, 0, 0⟩⟩]) 0 = 0
  · have hg := ((flt_zero _ _).1 hf).2.2.2.2
    obtain ⟨A, D, hD, hat⟩ := few_at l x hg (by omega)
    have nr : ∀ z, (nm (So.rd z)).nat = So.rd z := fun z => nm_nat (Nat.lt_trans (So.rd_lt z) (by decide))
    have h0 := hat ⟨0, 0, 0, 0⟩ (by rw [z0]; exact p0)
    have h1 := hat ⟨1, 0, 0, 0⟩ (by rw [z1]; exact p1)
    rw [z0, show A + ((0 : Nat) : Int) * D = A by simp] at h0
    rw [z1, show A + ((1 : Nat) : Int) * D = A + D by simp] at h1
    have W0 := WI _ o0
    have W1 := WI _ o1
    rw [h0.1, h0.2] at W0
    rw [h1.1, h1.2] at W1
    have NG := NGo (nm (So.rd A)) (nm_ok _)
    rw [nr] at NG
    have A1 := AD (nm (So.rd (A + D))) (nm ((Cv.ord - So.rd A % Cv.ord) % Cv.ord)) (nm_ok _) (nm_ok _)
    rw [nr, s_nat] at A1
    have A2 := AD s (nm ((Cv.ord - So.rd A % Cv.ord) % Cv.ord)) os (nm_ok _)
    rw [s_nat] at A2
    have IV := IVo (nm ((So.rd (A + D) + (Cv.ord - So.rd A % Cv.ord) % Cv.ord) % Cv.ord)) (nm_ok _)
    rw [s_nat] at IV
    have ML := MLo (nm ((s.nat + (Cv.ord - So.rd A % Cv.ord) % Cv.ord) % Cv.ord)) (nm (((So.rd (A + D) + (Cv.ord - So.rd A % Cv.ord) % Cv.ord) % Cv.ord) ^ (Cv.ord - 2) % Cv.ord)) (nm_ok _) (nm_ok _)
    rw [s_nat, s_nat] at ML
    have hend := few_end A D hD s.nat _ _ _ _ (by omega) rfl rfl rfl rfl
    generalize hY : ((s.nat + (Cv.ord - So.rd A % Cv.ord) % Cv.ord) % Cv.ord) * (((So.rd (A + D) + (Cv.ord - So.rd A % Cv.ord) % Cv.ord) % Cv.ord) ^ (Cv.ord - 2) % Cv.ord) % Cv.ord = Y at ML hend
    have hYl : Y < Cv.ord := by rw [← hY]; exact Nat.mod_lt _ p0
    have nY : (nm Y).nat = Y := nm_nat (Nat.lt_trans hYl (by decide))
    have h2 := hat (nm Y) (by rw [nY]; exact hYl)
    rw [nY, hend.2] at h2
    have es : nm s.nat = s := (Nm.eq_nm os rfl).symm
    rw [es] at h2
    have W2 := WI (nm Y) (nm_ok _)
    rw [h2.1, h2.2] at W2
    refine few_good a _ cp (by omega) l x s _ _ _ _ _ _ _ (nm Y) q hq' w hv AL SLo CM W0 W1 W2 NG A1 A2 IV ML (fun w => ?_) (fun w => by rw [eqN, Nm.beq_self])
    rw [neN]
    have hne : Nm.beq (nm ((So.rd (A + D) + (Cv.ord - So.rd A % Cv.ord) % Cv.ord) % Cv.ord)) ⟨0, 0, 0, 0⟩ = false := by
      rw [Bool.eq_false_iff]
      intro hb
      have e := congrArg Nm.nat (Nm.beq_iff.1 hb)
      rw [s_nat, z0] at e
      exact hend.1 e
    rw [hne]
    rfl
  · have e1 := flt_last l x ⟨0, 0, 0, 0⟩ ⟨1, 0, 0, 0⟩ (by rw [z0]; exact p0) (by rw [z1]; exact p1) (by omega)
    have W0 := WI _ o0
    have W1 := WI _ o1
    rw [← e1] at W1
    exact few_bad a _ cp (by omega) l x _ (by rw [bne_iff_ne]; omega) s _ _ _ q hq' w hv AL SLo CM W0 W1
end Go.Proofs.YtdcpicbkemmakaaDoor
