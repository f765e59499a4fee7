/- A ring in memory: four numbers in one block; and the contract of its method less. -/
import Derived.Test.YtkgfeacednomfaaAddSub
import Derived.Test.YtkgfeacednomfaaPick
import Derived.Test.YtkgfeacednomfaaUpA
import Derived.Test.YtkgfeacednomfaaStore
import Derived.Test.YtkgfeacednomfaaMulV
import Derived.Test.YtkgfeacednomfaaKn
import Derived.Test.YtkgfeacednomfaaAl
import Derived.Deep.RegionHeld
namespace Go.Proofs.Ytkgfeacednomfaa
open Go.RowKit
attribute [local go_sem] World.cell?_alloc_some frozen?_alloc_cells frozen_out
/-- The number x lies in block k at these places. -/
structure LiesO (w : World) (k i0 i1 i2 i3 : Nat) (x : Nm) : Prop where
  a : w.cell? ⟨k, i0, none⟩ = some (.int .u64 x.a)
  b : w.cell? ⟨k, i1, none⟩ = some (.int .u64 x.b)
  c : w.cell? ⟨k, i2, none⟩ = some (.int .u64 x.c)
  d : w.cell? ⟨k, i3, none⟩ = some (.int .u64 x.d)
theorem LiesO.up {W w1 : World} {k i0 i1 i2 i3 : Nat} {x : Nm} (h : LiesO W k i0 i1 i2 i3 x) (hb : Below W.heap.size W w1) : LiesO w1 k i0 i1 i2 i3 x :=
  ⟨((bcell hb).1 _ _ (lt_of_cell h.a)).trans h.a, ((bcell hb).1 _ _ (lt_of_cell h.b)).trans h.b, ((bcell hb).1 _ _ (lt_of_cell h.c)).trans h.c, ((bcell hb).1 _ _ (lt_of_cell h.d)).trans h.d⟩
/-- A ring lies in block k: m, what it has as its inverse, and 2^256, 2^512 modulo m. -/
structure RingAt (w : World) (k : Nat) (m iv on tw : Nm) : Prop where
  m : LiesO w k 0 1 2 3 m
  iv : LiesO w k 4 5 6 7 iv
  on : LiesO w k 8 9 10 11 on
  tw : LiesO w k 12 13 14 15 tw
theorem RingAt.up {W w1 : World} {k : Nat} {m iv on tw : Nm} (h : RingAt W k m iv on tw) (hb : Below W.heap.size W w1) : RingAt w1 k m iv on tw :=
  ⟨h.m.up hb, h.iv.up hb, h.on.up hb, h.tw.up hb⟩
/-- The cells of a ring. -/
abbrev c16 (m iv on tw : Nm) : List Value := [.int .u64 m.a, .int .u64 m.b, .int .u64 m.c, .int .u64 m.d, .int .u64 iv.a, .int .u64 iv.b, .int .u64 iv.c, .int .u64 iv.d, .int .u64 on.a, .int .u64 on.b, .int .u64 on.c, .int .u64 on.d, .int .u64 tw.a, .int .u64 tw.b, .int .u64 tw.c, .int .u64 tw.d]
theorem RingAt.ofKn {w : World} {L : List (Nat × List Value)} {k : Nat} {m iv on tw : Nm} (h : Kn w L) (i : Nat) (hp : L[i]? = some (k, c16 m iv on tw)) : RingAt w k m iv on tw :=
  ⟨⟨h.get i 0 hp rfl, h.get i 1 hp rfl, h.get i 2 hp rfl, h.get i 3 hp rfl⟩, ⟨h.get i 4 hp rfl, h.get i 5 hp rfl, h.get i 6 hp rfl, h.get i 7 hp rfl⟩,
   ⟨h.get i 8 hp rfl, h.get i 9 hp rfl, h.get i 10 hp rfl, h.get i 11 hp rfl⟩, ⟨h.get i 12 hp rfl, h.get i 13 hp rfl, h.get i 14 hp rfl, h.get i 15 hp rfl⟩⟩
/-- A number as Go has it. -/
abbrev nm (n : Nat) : Nm := Nm.of ((n : Nat) : Int)
abbrev rp (k : Nat) : Value := .pointer (some ⟨k, 0, none⟩)
set_option maxHeartbeats 1000000 in
theorem less_walk (k : Nat) (m iv on tw a b d s p : Nm) (c e : Int)
    (SS : ∀ w, Calls Try.prog 14 #[N a, N b] w fun e w' => e = .returned (.tuple #[N d, .int .u64 c]) ∧ Below w.heap.size w w')
    (SA : ∀ w, Calls Try.prog 13 #[N d, N m] w fun e' w' => e' = .returned (.tuple #[N s, .int .u64 e]) ∧ Below w.heap.size w w')
    (SP : ∀ w, Calls Try.prog 26 #[.int .u64 c, N d, N s] w fun e w' => e = .returned (N p) ∧ Below w.heap.size w w')
    (w : World) (hR : Hid (RingAt w k m iv on tw)) :
    Calls Try.prog 70 #[rp k, N a, N b] w fun e w' => e = .returned (N p) ∧ Below w.heap.size w w' := by
  go_enter Try.func70, Try.ntmps70
  have s0 : Hid (Kn (kz4 (kal4 (kal4 w (a)) (b))) [(w.heap.size + 1 + 1, zz4), (w.heap.size + 1, (c4 (b))), (w.heap.size, (c4 (a)))]) := ((((Kn.nil w).al (c4 (a)) 24 rfl).al (c4 (b)) 24 (by simp)).al zz4 24 (by simp))
  have b0 : Hid (Below w.heap.size w (kz4 (kal4 (kal4 w (a)) (b)))) := ((((Below.refl _ _).alloc (Nat.le_refl _) _).alloc (by simp <;> omega) _).alloc (by simp <;> omega) _)
  go_wp2_with fail
  refine (SS _).mono ?_
  rintro e w1 ⟨rfl, hb1⟩
  have s1 : Hid (Kn w1 [(w.heap.size + 1 + 1, zz4), (w.heap.size + 1, (c4 (b))), (w.heap.size, (c4 (a)))]) := s0.out.up hb1
  have b1 : Hid (Below w.heap.size w w1) := b0.out.trans (hb1.mono b0.out.size)
  have z1 := b1.out.size
  clear hb1 s0 b0
  have s2 : Hid (Kn (kal4 w1 (d)) [(w1.heap.size, (c4 (d))), (w.heap.size + 1 + 1, zz4), (w.heap.size + 1, (c4 (b))), (w.heap.size, (c4 (a)))]) := s1.out.al (c4 (d)) 24 rfl
  have b2 : Hid (Below w.heap.size w (kal4 w1 (d))) := b1.out.alloc b1.out.size _
  have z2 := b1.out.size
  clear s1 b1
  go_wp2_with fail
  refine wp_region_alloc1 9 (.cells #[.int .u64 0, .int .u64 0, .int .u64 0, .int .u64 0] 24) (by kernel_rfl) (by kernel_rfl) (by kernel_rfl) (by kernel_rfl) (by decide) (fun _ _ d _ _ h => by cases d <;> exact h) rfl rfl (fun _ _ => by kernel_rfl) ?_
  apply Exists.intro
  refine ⟨fun U hU f hf hcl => ?_, fun k3 w3 hb3 hk3 hc3 => ?_⟩
  · skip
    have ud_0 := fun nx => (Kn.get (s2.out.up (hf nx).out) 0 0 rfl rfl : (f nx).cell? ⟨w1.heap.size, 0, none⟩ = some (.int .u64 (d).a))
    have ud_1 := fun nx => (Kn.get (s2.out.up (hf nx).out) 0 1 rfl rfl : (f nx).cell? ⟨w1.heap.size, 1, none⟩ = some (.int .u64 (d).b))
    have ud_2 := fun nx => (Kn.get (s2.out.up (hf nx).out) 0 2 rfl rfl : (f nx).cell? ⟨w1.heap.size, 2, none⟩ = some (.int .u64 (d).c))
    have ud_3 := fun nx => (Kn.get (s2.out.up (hf nx).out) 0 3 rfl rfl : (f nx).cell? ⟨w1.heap.size, 3, none⟩ = some (.int .u64 (d).d))
    have RR := fun nx => (hR.out.up ((b2.out).trans ((hf nx).out.mono b2.out.size)) : RingAt (f nx) _ _ _ _ _)
    have rm_a := fun nx => (RR nx).m.a
    have rm_b := fun nx => (RR nx).m.b
    have rm_c := fun nx => (RR nx).m.c
    have rm_d := fun nx => (RR nx).m.d
    clear hf
    simp only [List.take_succ_cons, List.take_zero]
    repeat (go_big_quiet_step (first | (go_at_call 13; exact (SA _).mono fun e w'' ⟨he, hb⟩ => ⟨he, hcl.out _ _ hb⟩)))
    exact wpQuiet_nil rfl
  simp only [List.drop_succ_cons, List.drop_zero]
  have z3 := b2.out.size
  have s3x : Hid (Kn w3 [(k3, zz4), (w1.heap.size, (c4 (d))), (w.heap.size + 1 + 1, zz4), (w.heap.size + 1, (c4 (b))), (w.heap.size, (c4 (a)))]) := s2.out.fresh hb3.out hk3 hc3.out
  have g3 : w.heap.size ≤ k3 := Nat.le_trans b2.out.size hk3
  have cz3_0 : w3.cell? ⟨k3, 0, none⟩ = some (.int .u64 0) := Kn.get s3x.out 0 0 rfl rfl
  have cz3_1 : w3.cell? ⟨k3, 1, none⟩ = some (.int .u64 0) := Kn.get s3x.out 0 1 rfl rfl
  have cz3_2 : w3.cell? ⟨k3, 2, none⟩ = some (.int .u64 0) := Kn.get s3x.out 0 2 rfl rfl
  have cz3_3 : w3.cell? ⟨k3, 3, none⟩ = some (.int .u64 0) := Kn.get s3x.out 0 3 rfl rfl
  have cz3 : ∀ j, w3.frozen? ⟨k3, j, none⟩ = false := Kn.fz s3x.out 0 rfl
  have s3 : Hid (Kn (st4 w3 k3 (s)) [(k3, (c4 (s))), (w1.heap.size, (c4 (d))), (w.heap.size + 1 + 1, zz4), (w.heap.size + 1, (c4 (b))), (w.heap.size, (c4 (a)))]) := s3x.out.st4 (s)
  have b3 : Hid (Below w.heap.size w (st4 w3 k3 (s))) := below_st4 (b2.out.trans (hb3.out.mono b2.out.size)) g3
  clear s3x s2 b2 hb3 hc3 hk3
  have ud_0 : (st4 w3 k3 (s)).cell? ⟨w1.heap.size, 0, none⟩ = some (.int .u64 (d).a) := Kn.get s3.out 1 0 rfl rfl
  have ud_1 : (st4 w3 k3 (s)).cell? ⟨w1.heap.size, 1, none⟩ = some (.int .u64 (d).b) := Kn.get s3.out 1 1 rfl rfl
  have ud_2 : (st4 w3 k3 (s)).cell? ⟨w1.heap.size, 2, none⟩ = some (.int .u64 (d).c) := Kn.get s3.out 1 2 rfl rfl
  have ud_3 : (st4 w3 k3 (s)).cell? ⟨w1.heap.size, 3, none⟩ = some (.int .u64 (d).d) := Kn.get s3.out 1 3 rfl rfl
  have us_0 : (st4 w3 k3 (s)).cell? ⟨k3, 0, none⟩ = some (.int .u64 (s).a) := Kn.get s3.out 0 0 rfl rfl
  have us_1 : (st4 w3 k3 (s)).cell? ⟨k3, 1, none⟩ = some (.int .u64 (s).b) := Kn.get s3.out 0 1 rfl rfl
  have us_2 : (st4 w3 k3 (s)).cell? ⟨k3, 2, none⟩ = some (.int .u64 (s).c) := Kn.get s3.out 0 2 rfl rfl
  have us_3 : (st4 w3 k3 (s)).cell? ⟨k3, 3, none⟩ = some (.int .u64 (s).d) := Kn.get s3.out 0 3 rfl rfl
  go_wp2_with fail
  clear cz3_0 cz3_1 cz3_2 cz3_3 cz3 ud_0 ud_1 ud_2 ud_3 us_0 us_1 us_2 us_3
  refine (SP _).mono ?_
  rintro e w4 ⟨rfl, hb4⟩
  have s4 : Hid (Kn w4 [(k3, (c4 (s))), (w1.heap.size, (c4 (d))), (w.heap.size + 1 + 1, zz4), (w.heap.size + 1, (c4 (b))), (w.heap.size, (c4 (a)))]) := s3.out.up hb4
  have b4 : Hid (Below w.heap.size w w4) := b3.out.trans (hb4.mono b3.out.size)
  have z4 := b4.out.size
  clear hb4 s3 b3
  have uro_0 : w4.cell? ⟨w.heap.size + 1 + 1, 0, none⟩ = some (.int .u64 0) := Kn.get s4.out 2 0 rfl rfl
  have uro_1 : w4.cell? ⟨w.heap.size + 1 + 1, 1, none⟩ = some (.int .u64 0) := Kn.get s4.out 2 1 rfl rfl
  have uro_2 : w4.cell? ⟨w.heap.size + 1 + 1, 2, none⟩ = some (.int .u64 0) := Kn.get s4.out 2 2 rfl rfl
  have uro_3 : w4.cell? ⟨w.heap.size + 1 + 1, 3, none⟩ = some (.int .u64 0) := Kn.get s4.out 2 3 rfl rfl
  have uro_z : ∀ j, w4.frozen? ⟨w.heap.size + 1 + 1, j, none⟩ = false := Kn.fz s4.out 2 rfl
  have s5 : Hid (Kn (st4 w4 (w.heap.size + 1 + 1) (p)) [(w.heap.size + 1 + 1, (c4 (p))), (k3, (c4 (s))), (w1.heap.size, (c4 (d))), (w.heap.size + 1, (c4 (b))), (w.heap.size, (c4 (a)))]) := Kn.st4 (L := [(k3, (c4 (s))), (w1.heap.size, (c4 (d))), (w.heap.size + 1, (c4 (b))), (w.heap.size, (c4 (a)))]) (s4.out.front 2 rfl) (p)
  have b5 : Hid (Below w.heap.size w (st4 w4 (w.heap.size + 1 + 1) (p))) := below_st4 b4.out (by omega)
  clear s4 b4
  go_wp2_with fail
  clear uro_0 uro_1 uro_2 uro_3 uro_z
  have urr_0 : (st4 w4 (w.heap.size + 1 + 1) (p)).cell? ⟨w.heap.size + 1 + 1, 0, none⟩ = some (.int .u64 (p).a) := Kn.get s5.out 0 0 rfl rfl
  have urr_1 : (st4 w4 (w.heap.size + 1 + 1) (p)).cell? ⟨w.heap.size + 1 + 1, 1, none⟩ = some (.int .u64 (p).b) := Kn.get s5.out 0 1 rfl rfl
  have urr_2 : (st4 w4 (w.heap.size + 1 + 1) (p)).cell? ⟨w.heap.size + 1 + 1, 2, none⟩ = some (.int .u64 (p).c) := Kn.get s5.out 0 2 rfl rfl
  have urr_3 : (st4 w4 (w.heap.size + 1 + 1) (p)).cell? ⟨w.heap.size + 1 + 1, 3, none⟩ = some (.int .u64 (p).d) := Kn.get s5.out 0 3 rfl rfl
  refine bodyPost_ret (v := N p) ?_ rfl ⟨rfl, b5.out⟩
  show (results Try.f70 _).run Try.prog (st4 w4 (w.heap.size + 1 + 1) (p)) = .ok _ (st4 w4 (w.heap.size + 1 + 1) (p))
  clear s5 b5
  generalize (st4 w4 (w.heap.size + 1 + 1) (p)) = W9 at *
  simp [results, Try.results70, go_sem, urr_0, urr_1, urr_2, urr_3]
end Go.Proofs.Ytkgfeacednomfaa
