/- Texts that were joined: Shl, ShMath, Sh, Bit, CvPk. -/
import Derived.Test.YtfknkfninjjgbabDoorRows
import Derived.Test.YtfknkfninjjgbabDoorQNumToMul
import Derived.WalkKit
import Derived.WalkSpells
import Derived.WalkLawsBesides
import Derived.LoopN
import Derived.Laws.Bits64b
import Derived.Test.YtfknkfninjjgbabDoorQStoreToKn
import Derived.Deep.RegionHeld
import Derived.Test.YtfknkfninjjgbabDoorQPick
import Derived.Test.YtfknkfninjjgbabDoorQCvFr
import Derived.Test.YtfknkfninjjgbabDoorQEqPToCrvB
import Derived.Test.YtfknkfninjjgbabDoorQUpV3ToOfB
/- The walks of limb.shiftLeft and limb.shiftRight, word by word. -/
namespace Go.Proofs.YtfknkfninjjgbabDoor
open Go.RowKit

end Go.Proofs.YtfknkfninjjgbabDoor

/- Shifts of numbers of four words, as plain mathematics. -/
namespace Go.Proofs.YtfknkfninjjgbabDoor
open Go.RowKit

end Go.Proofs.YtfknkfninjjgbabDoor

/- The contracts of limb.shiftLeft, limb.shiftRight and limb.Shift, by what they are worth. -/
namespace Go.Proofs.YtfknkfninjjgbabDoor
open Go.RowKit
attribute [local go_sem] World.cell?_alloc_some

theorem zw : Word 0 := ⟨by decide, by decide⟩
end Go.Proofs.YtfknkfninjjgbabDoor

/- The contract of limb.Bit. -/
namespace Go.Proofs.YtfknkfninjjgbabDoor
open Go.RowKit

/-- The bit s of a word, with whatever stands above the word. -/
theorem bit_word {v l a g q : Int} {s k n : Nat} (hs : s < 64) (hn : n = k + s) (hq : q = 2 ^ k) (hv : v = l + q * (a + 18446744073709551616 * g)) (l0 : 0 ≤ l) (l1 : l < q) : v / 2 ^ n % 2 = a / 2 ^ s % 2 := by
  have q0 : 0 < q := by omega
  have e1 : v / q = a + 18446744073709551616 * g := by
    rw [hv, Int.add_mul_ediv_left _ _ (by omega), Int.ediv_eq_zero_of_lt l0 l1, Int.zero_add]
  have e2 : v / 2 ^ n = v / q / 2 ^ s := by
    rw [hn, Int.pow_add, ← hq, Int.ediv_ediv_of_nonneg (by omega)]
  have p : (18446744073709551616 : Int) = 2 ^ s * (2 ^ (63 - s) * 2) := by
    rw [← Int.mul_assoc, ← Int.pow_add, show s + (63 - s) = 63 by omega]; rfl
  have ps : (0 : Int) < 2 ^ s := Int.pow_pos (by omega)
  rw [e2, e1, p, Int.mul_assoc, Int.add_mul_ediv_left _ _ (by omega), Int.mul_comm (2 ^ (63 - s)) 2, Int.mul_assoc]
  omega
set_option maxHeartbeats 1000000 in
theorem bit_walk0 (x : Nm) (hx : x.ok) (n s : Nat) (h1 : n / 64 = 0) (h2 : n % 64 = s) (hs : s < 64) (w : World) :
    Calls Tryd.prog 49 #[N x, .int .i64 n] w fun e w' => e = .returned (.int .u64 (x.val / 2 ^ n % 2)) ∧ Below w.heap.size w w' := by
  have h3 : (n : Int) / 64 = 0 := by omega
  have h4 : (n : Int) % 64 = s := by omega
  have h5 : ¬ ((n : Int) < 0) := by omega
  have h6 : ¬ ((n : Int) ≥ 256) := by omega
  obtain ⟨⟨a0, a1⟩, ⟨b0, b1⟩, ⟨c0, c1⟩, ⟨d0, d1⟩⟩ := hx
  have e := bit_word (v := x.val) (l := 0) (a := x.a) (g := x.b + 18446744073709551616 * x.c + 340282366920938463463374607431768211456 * x.d) (q := 1) (s := s) (k := 0) (n := n) hs (by omega) rfl (by simp only [Nm.val] <;> omega) (by omega) (by omega)
  have e' : bits .and .u64 (x.a / 2 ^ s) 1 = x.val / 2 ^ n % 2 := by
    have ps : (0 : Int) < 2 ^ s := Int.pow_pos (by omega)
    have v0 : 0 ≤ x.a / 2 ^ s := Int.ediv_nonneg a0 (by omega)
    have v1 : x.a / 2 ^ s ≤ x.a := Int.ediv_le_self _ a0
    rw [e]
    exact and_one_u64 _ v0 (by omega)
  have E : Hid _ := e'
  clear e e'
  go_enter Tryd.func49, Tryd.ntmps49
  go_wp2_with fail
  go_ret
  exact ⟨by rw [E.out]; rfl, (Below.refl _ _).alloc (by simp) _⟩
set_option maxHeartbeats 1000000 in
theorem bit_walk1 (x : Nm) (hx : x.ok) (n s : Nat) (h1 : n / 64 = 1) (h2 : n % 64 = s) (hs : s < 64) (w : World) :
    Calls Tryd.prog 49 #[N x, .int .i64 n] w fun e w' => e = .returned (.int .u64 (x.val / 2 ^ n % 2)) ∧ Below w.heap.size w w' := by
  have h3 : (n : Int) / 64 = 1 := by omega
  have h4 : (n : Int) % 64 = s := by omega
  have h5 : ¬ ((n : Int) < 0) := by omega
  have h6 : ¬ ((n : Int) ≥ 256) := by omega
  obtain ⟨⟨a0, a1⟩, ⟨b0, b1⟩, ⟨c0, c1⟩, ⟨d0, d1⟩⟩ := hx
  have e := bit_word (v := x.val) (l := x.a) (a := x.b) (g := x.c + 18446744073709551616 * x.d) (q := 18446744073709551616) (s := s) (k := 64) (n := n) hs (by omega) rfl (by simp only [Nm.val] <;> omega) (by omega) (by omega)
  have e' : bits .and .u64 (x.b / 2 ^ s) 1 = x.val / 2 ^ n % 2 := by
    have ps : (0 : Int) < 2 ^ s := Int.pow_pos (by omega)
    have v0 : 0 ≤ x.b / 2 ^ s := Int.ediv_nonneg b0 (by omega)
    have v1 : x.b / 2 ^ s ≤ x.b := Int.ediv_le_self _ b0
    rw [e]
    exact and_one_u64 _ v0 (by omega)
  have E : Hid _ := e'
  clear e e'
  go_enter Tryd.func49, Tryd.ntmps49
  go_wp2_with fail
  go_ret
  exact ⟨by rw [E.out]; rfl, (Below.refl _ _).alloc (by simp) _⟩
set_option maxHeartbeats 1000000 in
theorem bit_walk2 (x : Nm) (hx : x.ok) (n s : Nat) (h1 : n / 64 = 2) (h2 : n % 64 = s) (hs : s < 64) (w : World) :
    Calls Tryd.prog 49 #[N x, .int .i64 n] w fun e w' => e = .returned (.int .u64 (x.val / 2 ^ n % 2)) ∧ Below w.heap.size w w' := by
  have h3 : (n : Int) / 64 = 2 := by omega
  have h4 : (n : Int) % 64 = s := by omega
  have h5 : ¬ ((n : Int) < 0) := by omega
  have h6 : ¬ ((n : Int) ≥ 256) := by omega
  obtain ⟨⟨a0, a1⟩, ⟨b0, b1⟩, ⟨c0, c1⟩, ⟨d0, d1⟩⟩ := hx
  have e := bit_word (v := x.val) (l := x.a + 18446744073709551616 * x.b) (a := x.c) (g := x.d) (q := 340282366920938463463374607431768211456) (s := s) (k := 128) (n := n) hs (by omega) rfl (by simp only [Nm.val] <;> omega) (by omega) (by omega)
  have e' : bits .and .u64 (x.c / 2 ^ s) 1 = x.val / 2 ^ n % 2 := by
    have ps : (0 : Int) < 2 ^ s := Int.pow_pos (by omega)
    have v0 : 0 ≤ x.c / 2 ^ s := Int.ediv_nonneg c0 (by omega)
    have v1 : x.c / 2 ^ s ≤ x.c := Int.ediv_le_self _ c0
    rw [e]
    exact and_one_u64 _ v0 (by omega)
  have E : Hid _ := e'
  clear e e'
  go_enter Tryd.func49, Tryd.ntmps49
  go_wp2_with fail
  go_ret
  exact ⟨by rw [E.out]; rfl, (Below.refl _ _).alloc (by simp) _⟩
set_option maxHeartbeats 1000000 in
theorem bit_walk3 (x : Nm) (hx : x.ok) (n s : Nat) (h1 : n / 64 = 3) (h2 : n % 64 = s) (hs : s < 64) (w : World) :
    Calls Tryd.prog 49 #[N x, .int .i64 n] w fun e w' => e = .returned (.int .u64 (x.val / 2 ^ n % 2)) ∧ Below w.heap.size w w' := by
  have h3 : (n : Int) / 64 = 3 := by omega
  have h4 : (n : Int) % 64 = s := by omega
  have h5 : ¬ ((n : Int) < 0) := by omega
  have h6 : ¬ ((n : Int) ≥ 256) := by omega
  obtain ⟨⟨a0, a1⟩, ⟨b0, b1⟩, ⟨c0, c1⟩, ⟨d0, d1⟩⟩ := hx
  have e := bit_word (v := x.val) (l := x.a + 18446744073709551616 * x.b + 340282366920938463463374607431768211456 * x.c) (a := x.d) (g := 0) (q := 6277101735386680763835789423207666416102355444464034512896) (s := s) (k := 192) (n := n) hs (by omega) rfl (by simp only [Nm.val] <;> omega) (by omega) (by omega)
  have e' : bits .and .u64 (x.d / 2 ^ s) 1 = x.val / 2 ^ n % 2 := by
    have ps : (0 : Int) < 2 ^ s := Int.pow_pos (by omega)
    have v0 : 0 ≤ x.d / 2 ^ s := Int.ediv_nonneg d0 (by omega)
    have v1 : x.d / 2 ^ s ≤ x.d := Int.ediv_le_self _ d0
    rw [e]
    exact and_one_u64 _ v0 (by omega)
  have E : Hid _ := e'
  clear e e'
  go_enter Tryd.func49, Tryd.ntmps49
  go_wp2_with fail
  go_ret
  exact ⟨by rw [E.out]; rfl, (Below.refl _ _).alloc (by simp) _⟩
theorem bit_fun (x : Nm) (hx : x.ok) (n : Nat) (hn : n < 256) (w : World) :
    Calls Tryd.prog 49 #[N x, .int .i64 n] w fun e w' => e = .returned (.int .u64 (x.val / 2 ^ n % 2)) ∧ Below w.heap.size w w' := by
  have hq : n / 64 = 0 ∨ n / 64 = 1 ∨ n / 64 = 2 ∨ n / 64 = 3 := by omega
  rcases hq with h | h | h | h
  · exact bit_walk0 x hx n _ h rfl (by omega) w
  · exact bit_walk1 x hx n _ h rfl (by omega) w
  · exact bit_walk2 x hx n _ h rfl (by omega) w
  · exact bit_walk3 x hx n _ h rfl (by omega) w
end Go.Proofs.YtfknkfninjjgbabDoor

/- Package curve, as it landed: evenX, packed, Pack. -/
namespace Go.Proofs.YtfknkfninjjgbabDoor
open Go.RowKit
attribute [local go_sem] World.cell?_alloc_some cell_alloc2 cell_alloc3 cell_alloc4 frozen?_alloc_cells frozen_out
set_option linter.unusedSimpArgs false
set_option maxHeartbeats 1000000 in
theorem evenX_walk (ya aa ma ua sa ia xa ra : Nm) (ok : Bool)
    (M1 : ∀ w, Calls Tryd.prog 41 #[N ya, N ya] w fun e w' => e = .returned (N aa) ∧ Below w.heap.size w w')
    (M2 : ∀ w, Calls Tryd.prog 41 #[N dN, N aa] w fun e w' => e = .returned (N ma) ∧ Below w.heap.size w w')
    (A1 : ∀ w, Calls Tryd.prog 43 #[N nI, N ma] w fun e w' => e = .returned (N ua) ∧ Below w.heap.size w w')
    (S1 : ∀ w, Calls Tryd.prog 42 #[N aa, N nI] w fun e w' => e = .returned (N sa) ∧ Below w.heap.size w w')
    (I1 : ∀ w, Calls Tryd.prog 68 #[N ua] w fun e w' => e = .returned (N ia) ∧ Below w.heap.size w w')
    (M3 : ∀ w, Calls Tryd.prog 41 #[N sa, N ia] w fun e w' => e = .returned (N xa) ∧ Below w.heap.size w w')
    (Q1 : ∀ w, Calls Tryd.prog 80 #[N xa] w fun e w' => e = .returned (.tuple #[N ra, .bool ok]) ∧ Below w.heap.size w w')
    (w : World) :
    Calls Tryd.prog 69 #[N ya] w fun e w' => e = .returned (.tuple #[N ra, .bool ok]) ∧ Below w.heap.size w w' := by
  go_enter Tryd.func69, Tryd.ntmps69
  have s0 : Hid (Kn (kz4 (kal4 w (ya))) [(w.heap.size + 1, zz4), (w.heap.size, (c4 (ya)))]) := (((Kn.nil w).al (c4 (ya)) 26 rfl).al zz4 26 (by simp))
  have b0 : Hid (Below w.heap.size w (kz4 (kal4 w (ya)))) := (((Below.refl _ _).alloc (Nat.le_refl _) _).alloc (by simp <;> omega) _)
  have uy_0 : (kz4 (kal4 w (ya))).cell? ⟨w.heap.size, 0, none⟩ = some (.int .u64 (ya).a) := Kn.get s0.out 1 0 rfl rfl
  have uy_1 : (kz4 (kal4 w (ya))).cell? ⟨w.heap.size, 1, none⟩ = some (.int .u64 (ya).b) := Kn.get s0.out 1 1 rfl rfl
  have uy_2 : (kz4 (kal4 w (ya))).cell? ⟨w.heap.size, 2, none⟩ = some (.int .u64 (ya).c) := Kn.get s0.out 1 2 rfl rfl
  have uy_3 : (kz4 (kal4 w (ya))).cell? ⟨w.heap.size, 3, none⟩ = some (.int .u64 (ya).d) := Kn.get s0.out 1 3 rfl rfl
  go_wp2_with fail
  clear uy_0 uy_1 uy_2 uy_3
  refine (M1 _).mono ?_
  rintro e w1 ⟨rfl, hb1⟩
  have s1 : Hid (Kn w1 [(w.heap.size + 1, zz4), (w.heap.size, (c4 (ya)))]) := s0.out.up hb1
  have b1 : Hid (Below w.heap.size w w1) := b0.out.trans (hb1.mono b0.out.size)
  have z1 := b1.out.size
  clear hb1 s0 b0
  have s2 : Hid (Kn (kal4 w1 (aa)) [(w1.heap.size, (c4 (aa))), (w.heap.size + 1, zz4), (w.heap.size, (c4 (ya)))]) := s1.out.al (c4 (aa)) 26 rfl
  have b2 : Hid (Below w.heap.size w (kal4 w1 (aa))) := b1.out.alloc b1.out.size _
  have z2 := b1.out.size
  clear s1 b1
  go_wp2_with fail
  refine wp_region_alloc1 5 (.cells #[.int .u64 0, .int .u64 0, .int .u64 0, .int .u64 0] 26) (by kernel_rfl) (by kernel_rfl) (by kernel_rfl) (by kernel_rfl) (by decide) (fun _ _ d _ _ h => by cases d <;> exact h) rfl rfl (fun _ _ => by kernel_rfl) ?_
  apply Exists.intro
  refine ⟨fun U hU f hf hcl => ?_, fun k3 w3 hb3 hk3 hc3 => ?_⟩
  · skip
    have uyy_0 := fun nx => (Kn.get (s2.out.up (hf nx).out) 0 0 rfl rfl : (f nx).cell? ⟨w1.heap.size, 0, none⟩ = some (.int .u64 (aa).a))
    have uyy_1 := fun nx => (Kn.get (s2.out.up (hf nx).out) 0 1 rfl rfl : (f nx).cell? ⟨w1.heap.size, 1, none⟩ = some (.int .u64 (aa).b))
    have uyy_2 := fun nx => (Kn.get (s2.out.up (hf nx).out) 0 2 rfl rfl : (f nx).cell? ⟨w1.heap.size, 2, none⟩ = some (.int .u64 (aa).c))
    have uyy_3 := fun nx => (Kn.get (s2.out.up (hf nx).out) 0 3 rfl rfl : (f nx).cell? ⟨w1.heap.size, 3, none⟩ = some (.int .u64 (aa).d))
    clear hf
    simp only [List.take_succ_cons, List.take_zero]
    repeat (go_big_quiet_step (first | (go_at_call 44; exact (cone_walk _).mono fun e w'' ⟨he, hb⟩ => ⟨he, hcl.out _ _ hb⟩) | (go_at_call 45; exact (cD_walk _).mono fun e w'' ⟨he, hb⟩ => ⟨he, hcl.out _ _ hb⟩) | (go_at_call 41; exact (M2 _).mono fun e w'' ⟨he, hb⟩ => ⟨he, hcl.out _ _ hb⟩) | (go_at_call 43; exact (A1 _).mono fun e w'' ⟨he, hb⟩ => ⟨he, hcl.out _ _ hb⟩)))
    exact wpQuiet_nil rfl
  simp only [List.drop_succ_cons, List.drop_zero]
  have z3 := b2.out.size
  have s3x : Hid (Kn w3 [(k3, zz4), (w1.heap.size, (c4 (aa))), (w.heap.size + 1, zz4), (w.heap.size, (c4 (ya)))]) := s2.out.fresh hb3.out hk3 hc3.out
  have g3 : w.heap.size ≤ k3 := Nat.le_trans b2.out.size hk3
  have cz3_0 : w3.cell? ⟨k3, 0, none⟩ = some (.int .u64 0) := Kn.get s3x.out 0 0 rfl rfl
  have cz3_1 : w3.cell? ⟨k3, 1, none⟩ = some (.int .u64 0) := Kn.get s3x.out 0 1 rfl rfl
  have cz3_2 : w3.cell? ⟨k3, 2, none⟩ = some (.int .u64 0) := Kn.get s3x.out 0 2 rfl rfl
  have cz3_3 : w3.cell? ⟨k3, 3, none⟩ = some (.int .u64 0) := Kn.get s3x.out 0 3 rfl rfl
  have cz3 : ∀ j, w3.frozen? ⟨k3, j, none⟩ = false := Kn.fz s3x.out 0 rfl
  have s3 : Hid (Kn (st4 w3 k3 (ua)) [(k3, (c4 (ua))), (w1.heap.size, (c4 (aa))), (w.heap.size + 1, zz4), (w.heap.size, (c4 (ya)))]) := s3x.out.st4 (ua)
  have b3 : Hid (Below w.heap.size w (st4 w3 k3 (ua))) := below_st4 (b2.out.trans (hb3.out.mono b2.out.size)) g3
  clear s3x s2 b2 hb3 hc3 hk3
  go_wp2_with fail
  clear cz3_0 cz3_1 cz3_2 cz3_3 cz3
  refine wp_region_up_then 9 (by kernel_rfl) (by kernel_rfl) (by kernel_rfl) (by kernel_rfl) (by decide) (fun _ _ d _ _ h => by cases d <;> exact h) (fun U hU f hf hcl => ?_)
  have uyy_0 := fun nx => (Kn.get (s3.out.up (hf nx).out) 1 0 rfl rfl : (f nx).cell? ⟨w1.heap.size, 0, none⟩ = some (.int .u64 (aa).a))
  have uyy_1 := fun nx => (Kn.get (s3.out.up (hf nx).out) 1 1 rfl rfl : (f nx).cell? ⟨w1.heap.size, 1, none⟩ = some (.int .u64 (aa).b))
  have uyy_2 := fun nx => (Kn.get (s3.out.up (hf nx).out) 1 2 rfl rfl : (f nx).cell? ⟨w1.heap.size, 2, none⟩ = some (.int .u64 (aa).c))
  have uyy_3 := fun nx => (Kn.get (s3.out.up (hf nx).out) 1 3 rfl rfl : (f nx).cell? ⟨w1.heap.size, 3, none⟩ = some (.int .u64 (aa).d))
  have uunder_0 := fun nx => (Kn.get (s3.out.up (hf nx).out) 0 0 rfl rfl : (f nx).cell? ⟨k3, 0, none⟩ = some (.int .u64 (ua).a))
  have uunder_1 := fun nx => (Kn.get (s3.out.up (hf nx).out) 0 1 rfl rfl : (f nx).cell? ⟨k3, 1, none⟩ = some (.int .u64 (ua).b))
  have uunder_2 := fun nx => (Kn.get (s3.out.up (hf nx).out) 0 2 rfl rfl : (f nx).cell? ⟨k3, 2, none⟩ = some (.int .u64 (ua).c))
  have uunder_3 := fun nx => (Kn.get (s3.out.up (hf nx).out) 0 3 rfl rfl : (f nx).cell? ⟨k3, 3, none⟩ = some (.int .u64 (ua).d))
  simp only [List.take_succ_cons, List.take_zero, List.drop_succ_cons, List.drop_zero]
  repeat (go_big_quiet_step (first | (go_at_call 44; exact (cone_walk _).mono fun e w'' ⟨he, hb⟩ => ⟨he, hcl.out _ _ hb⟩) | (go_at_call 42; exact (S1 _).mono fun e w'' ⟨he, hb⟩ => ⟨he, hcl.out _ _ hb⟩) | (go_at_call 68; exact (I1 _).mono fun e w'' ⟨he, hb⟩ => ⟨he, hcl.out _ _ hb⟩) | (go_at_call 41; exact (M3 _).mono fun e w'' ⟨he, hb⟩ => ⟨he, hcl.out _ _ hb⟩) | (go_at_call 80; exact (Q1 _).mono fun e w'' ⟨he, hb⟩ => ⟨he, hcl.out _ _ hb⟩)))
  refine wpQuiet_nil ?_
  intro nx
  have hb4 := (hf nx).out
  clear hf hcl uyy_0 uyy_1 uyy_2 uyy_3 uunder_0 uunder_1 uunder_2 uunder_3
  generalize f nx = w4 at hb4 ⊢
  have s4 : Hid (Kn w4 [(k3, (c4 (ua))), (w1.heap.size, (c4 (aa))), (w.heap.size + 1, zz4), (w.heap.size, (c4 (ya)))]) := s3.out.up hb4
  have b4 : Hid (Below w.heap.size w w4) := b3.out.trans (hb4.mono b3.out.size)
  have z4 := b4.out.size
  clear hb4 s3 b3
  have uro_0 : w4.cell? ⟨w.heap.size + 1, 0, none⟩ = some (.int .u64 0) := Kn.get s4.out 2 0 rfl rfl
  have uro_1 : w4.cell? ⟨w.heap.size + 1, 1, none⟩ = some (.int .u64 0) := Kn.get s4.out 2 1 rfl rfl
  have uro_2 : w4.cell? ⟨w.heap.size + 1, 2, none⟩ = some (.int .u64 0) := Kn.get s4.out 2 2 rfl rfl
  have uro_3 : w4.cell? ⟨w.heap.size + 1, 3, none⟩ = some (.int .u64 0) := Kn.get s4.out 2 3 rfl rfl
  have uro_z : ∀ j, w4.frozen? ⟨w.heap.size + 1, j, none⟩ = false := Kn.fz s4.out 2 rfl
  have s5 : Hid (Kn (st4 w4 (w.heap.size + 1) (ra)) [(w.heap.size + 1, (c4 (ra))), (k3, (c4 (ua))), (w1.heap.size, (c4 (aa))), (w.heap.size, (c4 (ya)))]) := Kn.st4 (L := [(k3, (c4 (ua))), (w1.heap.size, (c4 (aa))), (w.heap.size, (c4 (ya)))]) (s4.out.front 2 rfl) (ra)
  have b5 : Hid (Below w.heap.size w (st4 w4 (w.heap.size + 1) (ra))) := below_st4 b4.out (by omega)
  clear s4 b4
  go_wp2_with fail
  clear uro_0 uro_1 uro_2 uro_3 uro_z
  have urr_0 : (st4 w4 (w.heap.size + 1) (ra)).cell? ⟨w.heap.size + 1, 0, none⟩ = some (.int .u64 (ra).a) := Kn.get s5.out 0 0 rfl rfl
  have urr_1 : (st4 w4 (w.heap.size + 1) (ra)).cell? ⟨w.heap.size + 1, 1, none⟩ = some (.int .u64 (ra).b) := Kn.get s5.out 0 1 rfl rfl
  have urr_2 : (st4 w4 (w.heap.size + 1) (ra)).cell? ⟨w.heap.size + 1, 2, none⟩ = some (.int .u64 (ra).c) := Kn.get s5.out 0 2 rfl rfl
  have urr_3 : (st4 w4 (w.heap.size + 1) (ra)).cell? ⟨w.heap.size + 1, 3, none⟩ = some (.int .u64 (ra).d) := Kn.get s5.out 0 3 rfl rfl
  refine bodyPost_ret (v := .tuple #[N ra, .bool ok]) ?_ rfl ⟨rfl, b5.out⟩
  show (results Tryd.f69 _).run Tryd.prog (st4 w4 (w.heap.size + 1) (ra)) = .ok _ (st4 w4 (w.heap.size + 1) (ra))
  clear s5 b5
  generalize (st4 w4 (w.heap.size + 1) (ra)) = W9 at *
  simp [results, Tryd.results69, go_sem, urr_0, urr_1, urr_2, urr_3]
theorem xx_is (y : Nat) : F.mul (F.sub (F.mul y y) 1) (F.inv (F.add 1 (F.mul Cv.d (F.mul y y)))) = Cv.xx y := by
  unfold Cv.xx
  rw [F.add_comm 1]
theorem evenX_fun (y : Nat) (hy : y < F.p) (w : World) : Calls Tryd.prog 69 #[N (nm y)] w fun e w' => e = .returned (.tuple #[N (nm (F.root (Cv.xx y))), .bool (F.ok (Cv.xx y))]) ∧ Below w.heap.size w w' := by
  have m := F.mul_lt
  have Q1 := fSqrtC (nm (Cv.xx y)) (nm_ok _)
  rw [f_nat (Cv.xx_lt y)] at Q1
  have M3 := fMul_n (F.sub_lt (F.mul y y) 1) (F.inv_lt (F.add 1 (F.mul Cv.d (F.mul y y))))
  rw [xx_is] at M3
  have M2 := fMul_n Cv.d_lt (m y y)
  rw [← dN_nm] at M2
  have A1 := fAdd_n (show 1 < F.p by decide) (m Cv.d (F.mul y y))
  rw [← nI_nm] at A1
  have S1 := fSub_n (m y y) (show 1 < F.p by decide)
  rw [← nI_nm] at S1
  exact evenX_walk _ _ _ _ _ _ _ _ _ (fMul_n hy hy) M2 A1 S1 (fInv_n (F.add_lt _ _)) M3 Q1 w
/-- The bytes of a number, as limb.Bytes and limb.Of have them. -/
theorem results_row2 {P : Program} {fn : Func} {tmps : Array Value} {s s2 : Tmp} {t : TypeId} {b : Nat} {cs : List Value} {d : TypeDesc} {W : World} {v : Value} (hr : fn.results = #[.cell s t, .tmp s2]) (ht : tmps[s]?.getD undef = .pointer (some ⟨b, 0, none⟩)) (ht2 : tmps[s2]?.getD undef = v) (hc : W.rangeAt b 0 cs)
    (hu : P.underlying t = some d) (hd : d.isRow = true) (hi : (P.info? t).map (·.size) = some cs.length) : (results fn tmps).run P W = .ok (.tuple #[.agg cs.toArray, v]) W := by
  have h1 := run_loadVar_mid (P := P) W b 0 t cs d hc hu hd hi
  simp [results, hr, ht, ht2, asAddr, h1]
theorem wp_buildZ {t : TypeId} {cs : Array Value} {ops : Array Oper} {rest : List Oper} {o : Oper} {a : Act} {Q : Exit → Act → World → Prop} {w : World} (hgd : o.guard = none) (ho : o.op = .build t #[]) (hb : Tryd.prog.built t [] = some cs)
    (h : wpList Tryd.prog ops Q rest (a.put o.dst (.agg cs)) w) : wpList Tryd.prog ops Q (o :: rest) a w := by
  refine wpList_plain hgd fun K hK => ?_
  have e : (Instr.build t ((#[] : Array (Nat × Operand)).map fun x => (x.fst, a.eval x.snd))).run Tryd.prog w = .ok (.agg cs) w := run_build w t _ _ (by simpa using hb)
  unfold Oper.wp
  simp only [execOp, ho, Sem.run_bind, e, Result.andThen_ok, Sem.run_pure]
  exact hK _ _ h
theorem b32_zero : Tryd.prog.built 22 [] = some (bR 0).toArray := by kernel_rfl
set_option maxRecDepth 20000 in
set_option maxHeartbeats 1000000 in
theorem packed_walk (px py : Nm) (n m x y : Nat) (hx : Hid (x = n / 256 ^ 31 % 256)) (hy : Hid (y = m / 256 ^ 31 % 256)) (hxy : bits .or .u8 (x : Int) (bits .and .u64 px.a 1 % 256 * 128 % 256) = (y : Int)) (hr : Hid ((bR n).set 31 (.int .u8 ((m / 256 ^ 31 % 256 : Nat) : Int)) = bR m))
    (B1 : ∀ w, Calls Tryd.prog 28 #[N py] w fun e w' => e = .returned (.agg (bR (n)).toArray) ∧ Below w.heap.size w w')
    (w : World) :
    Calls Tryd.prog 23 #[Wv px py] w fun e w' => e = .returned (bV m) ∧ Below w.heap.size w w' := by
  go_enter Tryd.func23, Tryd.ntmps23
  have s0 : Hid (Kn ((kalP w (px) (py)).alloc (.cells #[Value.int IntKind.u8 0, Value.int IntKind.u8 0, Value.int IntKind.u8 0, Value.int IntKind.u8 0, Value.int IntKind.u8 0, Value.int IntKind.u8 0, Value.int IntKind.u8 0, Value.int IntKind.u8 0, Value.int IntKind.u8 0, Value.int IntKind.u8 0, Value.int IntKind.u8 0, Value.int IntKind.u8 0, Value.int IntKind.u8 0, Value.int IntKind.u8 0, Value.int IntKind.u8 0, Value.int IntKind.u8 0, Value.int IntKind.u8 0, Value.int IntKind.u8 0, Value.int IntKind.u8 0, Value.int IntKind.u8 0, Value.int IntKind.u8 0, Value.int IntKind.u8 0, Value.int IntKind.u8 0, Value.int IntKind.u8 0, Value.int IntKind.u8 0, Value.int IntKind.u8 0, Value.int IntKind.u8 0, Value.int IntKind.u8 0, Value.int IntKind.u8 0, Value.int IntKind.u8 0, Value.int IntKind.u8 0, Value.int IntKind.u8 0] 22)) [(w.heap.size + 1, bZ), (w.heap.size, (c8 (px) (py)))]) := (((Kn.nil w).al (c8 (px) (py)) 34 rfl).al bZ 22 (by simp))
  have b0 : Hid (Below w.heap.size w ((kalP w (px) (py)).alloc (.cells #[Value.int IntKind.u8 0, Value.int IntKind.u8 0, Value.int IntKind.u8 0, Value.int IntKind.u8 0, Value.int IntKind.u8 0, Value.int IntKind.u8 0, Value.int IntKind.u8 0, Value.int IntKind.u8 0, Value.int IntKind.u8 0, Value.int IntKind.u8 0, Value.int IntKind.u8 0, Value.int IntKind.u8 0, Value.int IntKind.u8 0, Value.int IntKind.u8 0, Value.int IntKind.u8 0, Value.int IntKind.u8 0, Value.int IntKind.u8 0, Value.int IntKind.u8 0, Value.int IntKind.u8 0, Value.int IntKind.u8 0, Value.int IntKind.u8 0, Value.int IntKind.u8 0, Value.int IntKind.u8 0, Value.int IntKind.u8 0, Value.int IntKind.u8 0, Value.int IntKind.u8 0, Value.int IntKind.u8 0, Value.int IntKind.u8 0, Value.int IntKind.u8 0, Value.int IntKind.u8 0, Value.int IntKind.u8 0, Value.int IntKind.u8 0] 22))) := (((Below.refl _ _).alloc (Nat.le_refl _) _).alloc (by simp <;> omega) _)
  have up_0 : ((kalP w (px) (py)).alloc (.cells #[Value.int IntKind.u8 0, Value.int IntKind.u8 0, Value.int IntKind.u8 0, Value.int IntKind.u8 0, Value.int IntKind.u8 0, Value.int IntKind.u8 0, Value.int IntKind.u8 0, Value.int IntKind.u8 0, Value.int IntKind.u8 0, Value.int IntKind.u8 0, Value.int IntKind.u8 0, Value.int IntKind.u8 0, Value.int IntKind.u8 0, Value.int IntKind.u8 0, Value.int IntKind.u8 0, Value.int IntKind.u8 0, Value.int IntKind.u8 0, Value.int IntKind.u8 0, Value.int IntKind.u8 0, Value.int IntKind.u8 0, Value.int IntKind.u8 0, Value.int IntKind.u8 0, Value.int IntKind.u8 0, Value.int IntKind.u8 0, Value.int IntKind.u8 0, Value.int IntKind.u8 0, Value.int IntKind.u8 0, Value.int IntKind.u8 0, Value.int IntKind.u8 0, Value.int IntKind.u8 0, Value.int IntKind.u8 0, Value.int IntKind.u8 0] 22)).cell? ⟨w.heap.size, 0, none⟩ = some (.int .u64 (px).a) := Kn.get s0.out 1 0 rfl rfl
  have up_1 : ((kalP w (px) (py)).alloc (.cells #[Value.int IntKind.u8 0, Value.int IntKind.u8 0, Value.int IntKind.u8 0, Value.int IntKind.u8 0, Value.int IntKind.u8 0, Value.int IntKind.u8 0, Value.int IntKind.u8 0, Value.int IntKind.u8 0, Value.int IntKind.u8 0, Value.int IntKind.u8 0, Value.int IntKind.u8 0, Value.int IntKind.u8 0, Value.int IntKind.u8 0, Value.int IntKind.u8 0, Value.int IntKind.u8 0, Value.int IntKind.u8 0, Value.int IntKind.u8 0, Value.int IntKind.u8 0, Value.int IntKind.u8 0, Value.int IntKind.u8 0, Value.int IntKind.u8 0, Value.int IntKind.u8 0, Value.int IntKind.u8 0, Value.int IntKind.u8 0, Value.int IntKind.u8 0, Value.int IntKind.u8 0, Value.int IntKind.u8 0, Value.int IntKind.u8 0, Value.int IntKind.u8 0, Value.int IntKind.u8 0, Value.int IntKind.u8 0, Value.int IntKind.u8 0] 22)).cell? ⟨w.heap.size, 1, none⟩ = some (.int .u64 (px).b) := Kn.get s0.out 1 1 rfl rfl
  have up_2 : ((kalP w (px) (py)).alloc (.cells #[Value.int IntKind.u8 0, Value.int IntKind.u8 0, Value.int IntKind.u8 0, Value.int IntKind.u8 0, Value.int IntKind.u8 0, Value.int IntKind.u8 0, Value.int IntKind.u8 0, Value.int IntKind.u8 0, Value.int IntKind.u8 0, Value.int IntKind.u8 0, Value.int IntKind.u8 0, Value.int IntKind.u8 0, Value.int IntKind.u8 0, Value.int IntKind.u8 0, Value.int IntKind.u8 0, Value.int IntKind.u8 0, Value.int IntKind.u8 0, Value.int IntKind.u8 0, Value.int IntKind.u8 0, Value.int IntKind.u8 0, Value.int IntKind.u8 0, Value.int IntKind.u8 0, Value.int IntKind.u8 0, Value.int IntKind.u8 0, Value.int IntKind.u8 0, Value.int IntKind.u8 0, Value.int IntKind.u8 0, Value.int IntKind.u8 0, Value.int IntKind.u8 0, Value.int IntKind.u8 0, Value.int IntKind.u8 0, Value.int IntKind.u8 0] 22)).cell? ⟨w.heap.size, 2, none⟩ = some (.int .u64 (px).c) := Kn.get s0.out 1 2 rfl rfl
  have up_3 : ((kalP w (px) (py)).alloc (.cells #[Value.int IntKind.u8 0, Value.int IntKind.u8 0, Value.int IntKind.u8 0, Value.int IntKind.u8 0, Value.int IntKind.u8 0, Value.int IntKind.u8 0, Value.int IntKind.u8 0, Value.int IntKind.u8 0, Value.int IntKind.u8 0, Value.int IntKind.u8 0, Value.int IntKind.u8 0, Value.int IntKind.u8 0, Value.int IntKind.u8 0, Value.int IntKind.u8 0, Value.int IntKind.u8 0, Value.int IntKind.u8 0, Value.int IntKind.u8 0, Value.int IntKind.u8 0, Value.int IntKind.u8 0, Value.int IntKind.u8 0, Value.int IntKind.u8 0, Value.int IntKind.u8 0, Value.int IntKind.u8 0, Value.int IntKind.u8 0, Value.int IntKind.u8 0, Value.int IntKind.u8 0, Value.int IntKind.u8 0, Value.int IntKind.u8 0, Value.int IntKind.u8 0, Value.int IntKind.u8 0, Value.int IntKind.u8 0, Value.int IntKind.u8 0] 22)).cell? ⟨w.heap.size, 3, none⟩ = some (.int .u64 (px).d) := Kn.get s0.out 1 3 rfl rfl
  have up_4 : ((kalP w (px) (py)).alloc (.cells #[Value.int IntKind.u8 0, Value.int IntKind.u8 0, Value.int IntKind.u8 0, Value.int IntKind.u8 0, Value.int IntKind.u8 0, Value.int IntKind.u8 0, Value.int IntKind.u8 0, Value.int IntKind.u8 0, Value.int IntKind.u8 0, Value.int IntKind.u8 0, Value.int IntKind.u8 0, Value.int IntKind.u8 0, Value.int IntKind.u8 0, Value.int IntKind.u8 0, Value.int IntKind.u8 0, Value.int IntKind.u8 0, Value.int IntKind.u8 0, Value.int IntKind.u8 0, Value.int IntKind.u8 0, Value.int IntKind.u8 0, Value.int IntKind.u8 0, Value.int IntKind.u8 0, Value.int IntKind.u8 0, Value.int IntKind.u8 0, Value.int IntKind.u8 0, Value.int IntKind.u8 0, Value.int IntKind.u8 0, Value.int IntKind.u8 0, Value.int IntKind.u8 0, Value.int IntKind.u8 0, Value.int IntKind.u8 0, Value.int IntKind.u8 0] 22)).cell? ⟨w.heap.size, 4, none⟩ = some (.int .u64 (py).a) := Kn.get s0.out 1 4 rfl rfl
  have up_5 : ((kalP w (px) (py)).alloc (.cells #[Value.int IntKind.u8 0, Value.int IntKind.u8 0, Value.int IntKind.u8 0, Value.int IntKind.u8 0, Value.int IntKind.u8 0, Value.int IntKind.u8 0, Value.int IntKind.u8 0, Value.int IntKind.u8 0, Value.int IntKind.u8 0, Value.int IntKind.u8 0, Value.int IntKind.u8 0, Value.int IntKind.u8 0, Value.int IntKind.u8 0, Value.int IntKind.u8 0, Value.int IntKind.u8 0, Value.int IntKind.u8 0, Value.int IntKind.u8 0, Value.int IntKind.u8 0, Value.int IntKind.u8 0, Value.int IntKind.u8 0, Value.int IntKind.u8 0, Value.int IntKind.u8 0, Value.int IntKind.u8 0, Value.int IntKind.u8 0, Value.int IntKind.u8 0, Value.int IntKind.u8 0, Value.int IntKind.u8 0, Value.int IntKind.u8 0, Value.int IntKind.u8 0, Value.int IntKind.u8 0, Value.int IntKind.u8 0, Value.int IntKind.u8 0] 22)).cell? ⟨w.heap.size, 5, none⟩ = some (.int .u64 (py).b) := Kn.get s0.out 1 5 rfl rfl
  have up_6 : ((kalP w (px) (py)).alloc (.cells #[Value.int IntKind.u8 0, Value.int IntKind.u8 0, Value.int IntKind.u8 0, Value.int IntKind.u8 0, Value.int IntKind.u8 0, Value.int IntKind.u8 0, Value.int IntKind.u8 0, Value.int IntKind.u8 0, Value.int IntKind.u8 0, Value.int IntKind.u8 0, Value.int IntKind.u8 0, Value.int IntKind.u8 0, Value.int IntKind.u8 0, Value.int IntKind.u8 0, Value.int IntKind.u8 0, Value.int IntKind.u8 0, Value.int IntKind.u8 0, Value.int IntKind.u8 0, Value.int IntKind.u8 0, Value.int IntKind.u8 0, Value.int IntKind.u8 0, Value.int IntKind.u8 0, Value.int IntKind.u8 0, Value.int IntKind.u8 0, Value.int IntKind.u8 0, Value.int IntKind.u8 0, Value.int IntKind.u8 0, Value.int IntKind.u8 0, Value.int IntKind.u8 0, Value.int IntKind.u8 0, Value.int IntKind.u8 0, Value.int IntKind.u8 0] 22)).cell? ⟨w.heap.size, 6, none⟩ = some (.int .u64 (py).c) := Kn.get s0.out 1 6 rfl rfl
  have up_7 : ((kalP w (px) (py)).alloc (.cells #[Value.int IntKind.u8 0, Value.int IntKind.u8 0, Value.int IntKind.u8 0, Value.int IntKind.u8 0, Value.int IntKind.u8 0, Value.int IntKind.u8 0, Value.int IntKind.u8 0, Value.int IntKind.u8 0, Value.int IntKind.u8 0, Value.int IntKind.u8 0, Value.int IntKind.u8 0, Value.int IntKind.u8 0, Value.int IntKind.u8 0, Value.int IntKind.u8 0, Value.int IntKind.u8 0, Value.int IntKind.u8 0, Value.int IntKind.u8 0, Value.int IntKind.u8 0, Value.int IntKind.u8 0, Value.int IntKind.u8 0, Value.int IntKind.u8 0, Value.int IntKind.u8 0, Value.int IntKind.u8 0, Value.int IntKind.u8 0, Value.int IntKind.u8 0, Value.int IntKind.u8 0, Value.int IntKind.u8 0, Value.int IntKind.u8 0, Value.int IntKind.u8 0, Value.int IntKind.u8 0, Value.int IntKind.u8 0, Value.int IntKind.u8 0] 22)).cell? ⟨w.heap.size, 7, none⟩ = some (.int .u64 (py).d) := Kn.get s0.out 1 7 rfl rfl
  go_wp2_with (first | simp only [zero_b32])
  clear up_0 up_1 up_2 up_3 up_4 up_5 up_6 up_7
  refine (B1 _).mono ?_
  rintro e w1 ⟨rfl, hb1⟩
  have s1 : Hid (Kn w1 [(w.heap.size + 1, bZ), (w.heap.size, (c8 (px) (py)))]) := s0.out.up hb1
  have b1 : Hid (Below w.heap.size w w1) := b0.out.trans (hb1.mono b0.out.size)
  have z1 := b1.out.size
  clear hb1 s0 b0
  have s2x : Hid (Kn (w1.alloc (.cells #[Value.int IntKind.u8 0, Value.int IntKind.u8 0, Value.int IntKind.u8 0, Value.int IntKind.u8 0, Value.int IntKind.u8 0, Value.int IntKind.u8 0, Value.int IntKind.u8 0, Value.int IntKind.u8 0, Value.int IntKind.u8 0, Value.int IntKind.u8 0, Value.int IntKind.u8 0, Value.int IntKind.u8 0, Value.int IntKind.u8 0, Value.int IntKind.u8 0, Value.int IntKind.u8 0, Value.int IntKind.u8 0, Value.int IntKind.u8 0, Value.int IntKind.u8 0, Value.int IntKind.u8 0, Value.int IntKind.u8 0, Value.int IntKind.u8 0, Value.int IntKind.u8 0, Value.int IntKind.u8 0, Value.int IntKind.u8 0, Value.int IntKind.u8 0, Value.int IntKind.u8 0, Value.int IntKind.u8 0, Value.int IntKind.u8 0, Value.int IntKind.u8 0, Value.int IntKind.u8 0, Value.int IntKind.u8 0, Value.int IntKind.u8 0] 22)) [(w1.heap.size, bZ), (w.heap.size + 1, bZ), (w.heap.size, (c8 (px) (py)))]) := s1.out.al bZ 22 rfl
  have b2x : Hid (Below w.heap.size w (w1.alloc (.cells #[Value.int IntKind.u8 0, Value.int IntKind.u8 0, Value.int IntKind.u8 0, Value.int IntKind.u8 0, Value.int IntKind.u8 0, Value.int IntKind.u8 0, Value.int IntKind.u8 0, Value.int IntKind.u8 0, Value.int IntKind.u8 0, Value.int IntKind.u8 0, Value.int IntKind.u8 0, Value.int IntKind.u8 0, Value.int IntKind.u8 0, Value.int IntKind.u8 0, Value.int IntKind.u8 0, Value.int IntKind.u8 0, Value.int IntKind.u8 0, Value.int IntKind.u8 0, Value.int IntKind.u8 0, Value.int IntKind.u8 0, Value.int IntKind.u8 0, Value.int IntKind.u8 0, Value.int IntKind.u8 0, Value.int IntKind.u8 0, Value.int IntKind.u8 0, Value.int IntKind.u8 0, Value.int IntKind.u8 0, Value.int IntKind.u8 0, Value.int IntKind.u8 0, Value.int IntKind.u8 0, Value.int IntKind.u8 0, Value.int IntKind.u8 0] 22))) := b1.out.alloc b1.out.size _
  have g2 : w.heap.size ≤ w1.heap.size := b1.out.size
  have TT2 : Hid ((w1.alloc (.cells #[Value.int IntKind.u8 0, Value.int IntKind.u8 0, Value.int IntKind.u8 0, Value.int IntKind.u8 0, Value.int IntKind.u8 0, Value.int IntKind.u8 0, Value.int IntKind.u8 0, Value.int IntKind.u8 0, Value.int IntKind.u8 0, Value.int IntKind.u8 0, Value.int IntKind.u8 0, Value.int IntKind.u8 0, Value.int IntKind.u8 0, Value.int IntKind.u8 0, Value.int IntKind.u8 0, Value.int IntKind.u8 0, Value.int IntKind.u8 0, Value.int IntKind.u8 0, Value.int IntKind.u8 0, Value.int IntKind.u8 0, Value.int IntKind.u8 0, Value.int IntKind.u8 0, Value.int IntKind.u8 0, Value.int IntKind.u8 0, Value.int IntKind.u8 0, Value.int IntKind.u8 0, Value.int IntKind.u8 0, Value.int IntKind.u8 0, Value.int IntKind.u8 0, Value.int IntKind.u8 0, Value.int IntKind.u8 0, Value.int IntKind.u8 0] 22)).there (w1.heap.size) 0 (bR (n)).length) := Kn.there s2x.out 0 rfl (by rw [(bR_length (n)), bZ_length])
  go_wp2_with (first | simp only [zero_b32] | refine I.wp_store_eq rfl 22 _ _ rfl (w1.heap.size) 0 (bR (n)) rfl rfl TT2.out (info_bR (n)) (bR_one (n)) ?_)
  intro w2 hw2
  try simp only [Act.put, List.setIfInBounds_toArray, List.set_cons_succ, List.set_cons_zero]
  have s2 : Hid (Kn w2 [(w1.heap.size, (bR (n))), (w.heap.size + 1, bZ), (w.heap.size, (c8 (px) (py)))]) := by rw [hw2.out]; exact Kn.put s2x.out (by rw [(bR_length (n)), bZ_length])
  have b2 : Hid (Below w.heap.size w w2) := by rw [hw2.out]; exact I.below_setCells _ _ _ b2x.out g2
  have z2 := b2.out.size
  clear hw2 s2x b2x TT2 s1 b1
  replace s2 : Hid (Kn w2 [(w.heap.size + 1, bZ), (w1.heap.size, (bR (n))), (w.heap.size, (c8 (px) (py)))]) := s2.out.front 1 rfl
  replace s2 : Hid (Kn w2 [(w.heap.size, (c8 (px) (py))), (w.heap.size + 1, bZ), (w1.heap.size, (bR (n)))]) := s2.out.front 2 rfl
  replace s2 : Hid (Kn w2 [(w1.heap.size, (bR (n))), (w.heap.size, (c8 (px) (py))), (w.heap.size + 1, bZ)]) := s2.out.front 2 rfl
  have c31 : w2.cell? ⟨w1.heap.size, 31, none⟩ = some (.int .u8 (x : Int)) := by
    have := Kn.get s2.out 0 31 (v := .int .u8 ((n / 256 ^ 31 % 256 : Nat) : Int)) rfl (by unfold bR; rw [List.getElem?_map, List.getElem?_range (by decide)]; rfl)
    rw [hx.out]
    exact this
  have z31 := Kn.fz s2.out 0 rfl
  have up_0 : w2.cell? ⟨w.heap.size, 0, none⟩ = some (.int .u64 (px).a) := Kn.get s2.out 1 0 rfl rfl
  have up_1 : w2.cell? ⟨w.heap.size, 1, none⟩ = some (.int .u64 (px).b) := Kn.get s2.out 1 1 rfl rfl
  have up_2 : w2.cell? ⟨w.heap.size, 2, none⟩ = some (.int .u64 (px).c) := Kn.get s2.out 1 2 rfl rfl
  have up_3 : w2.cell? ⟨w.heap.size, 3, none⟩ = some (.int .u64 (px).d) := Kn.get s2.out 1 3 rfl rfl
  have up_4 : w2.cell? ⟨w.heap.size, 4, none⟩ = some (.int .u64 (py).a) := Kn.get s2.out 1 4 rfl rfl
  have up_5 : w2.cell? ⟨w.heap.size, 5, none⟩ = some (.int .u64 (py).b) := Kn.get s2.out 1 5 rfl rfl
  have up_6 : w2.cell? ⟨w.heap.size, 6, none⟩ = some (.int .u64 (py).c) := Kn.get s2.out 1 6 rfl rfl
  have up_7 : w2.cell? ⟨w.heap.size, 7, none⟩ = some (.int .u64 (py).d) := Kn.get s2.out 1 7 rfl rfl
  have s3 : Hid (Kn (w2.setCell ⟨w1.heap.size, 31, none⟩ (.int .u8 (y : Int))) [(w1.heap.size, bR (m)), (w.heap.size, c8 px py), (w.heap.size + 1, bZ)]) := by
    have := Kn.set s2.out 31 (.int .u8 (y : Int)) (by rw [bR_length]; decide)
    rw [hy.out, hr.out] at this
    rw [hy.out]
    exact this
  have b3 : Hid (Below w.heap.size w (w2.setCell ⟨w1.heap.size, 31, none⟩ (.int .u8 (y : Int)))) := b2.out.setCell (p := ⟨w1.heap.size, 31, none⟩) (by omega) _
  clear s2 b2
  have s4x : Hid (Kn (w2.setCell ⟨w1.heap.size, 31, none⟩ (.int .u8 (y : Int))) [(w.heap.size + 1, bZ), (w1.heap.size, (bR (m))), (w.heap.size, (c8 (px) (py)))]) := s3.out.front 2 rfl
  have b4x : Hid (Below w.heap.size w (w2.setCell ⟨w1.heap.size, 31, none⟩ (.int .u8 (y : Int)))) := b3.out
  have TT4 : Hid ((w2.setCell ⟨w1.heap.size, 31, none⟩ (.int .u8 (y : Int))).there (w.heap.size + 1) 0 (bR (m)).length) := Kn.there s4x.out 0 rfl (by rw [(bR_length (m)), bZ_length])
  go_wp2_with (first | refine wp_ldW rfl 22 _ rfl (w1.heap.size) 0 rfl (bR (m)) _ (Kn.rng s3.out 0 rfl) Tryd.underlying22 rfl (info_bR (m)) ?_ | refine I.wp_store_eq rfl 22 _ _ rfl (w.heap.size + 1) 0 (bR (m)) rfl rfl TT4.out (info_bR (m)) (bR_one (m)) ?_)
  intro w4 hw4
  try simp only [Act.put, List.setIfInBounds_toArray, List.set_cons_succ, List.set_cons_zero]
  have s4 : Hid (Kn w4 [(w.heap.size + 1, (bR (m))), (w1.heap.size, (bR (m))), (w.heap.size, (c8 (px) (py)))]) := by rw [hw4.out]; exact Kn.put s4x.out (by rw [(bR_length (m)), bZ_length])
  have b4 : Hid (Below w.heap.size w w4) := by rw [hw4.out]; exact I.below_setCells _ _ _ b4x.out (by omega)
  have z4 := b4.out.size
  clear hw4 s4x b4x TT4 s3 b3
  go_wp2_with fail
  exact bodyPost_ret (v := bV m) (I.results_cell (b := w.heap.size + 1) rfl rfl (Kn.rng s4.out 0 rfl) Tryd.underlying22 rfl (info_bR (m))) rfl ⟨rfl, b4.out⟩
theorem and_1 {a : Int} (h : Word a) : bits .and .u64 a 1 = a % 2 := by
  obtain ⟨a, rfl⟩ := Int.eq_ofNat_of_zero_le h.1
  have ha : a < 18446744073709551616 := by have := h.2; omega
  have := bits_and_u64_nat a 1 ha (by decide)
  rw [show ((1 : Nat) : Int) = 1 from rfl] at this
  rw [this, show (1 : Nat) = 2 ^ 1 - 1 from rfl, Nat.and_two_pow_sub_one_eq_mod]
  rfl
theorem or_128 : ∀ (x : Fin 128) (b : Fin 2), bits .or .u8 ((x.val : Nat) : Int) (((b.val : Nat) : Int) % 256 * 128 % 256) = ((x.val + 128 * b.val : Nat) : Int) := by decide +kernel
/-- A bit above all others. -/
theorem top_row {n b : Nat} (hn : n < 2 ^ 255) (hb : b < 2) : (n + 2 ^ 255 * b) / 256 ^ 31 % 256 = n / 256 ^ 31 % 256 + 128 * b ∧ n / 256 ^ 31 % 256 < 128 ∧ (bR n).set 31 (.int .u8 (((n + 2 ^ 255 * b) / 256 ^ 31 % 256 : Nat) : Int)) = bR (n + 2 ^ 255 * b) := by
  have p31 : (256 : Nat) ^ 31 = 452312848583266388373324160190187140051835877600158453279131187530910662656 := by decide
  have p255 : (2 : Nat) ^ 255 = 57896044618658097711785492504343953926634992332820282019728792003956564819968 := by decide
  refine ⟨?_, ?_, ?_⟩
  · rw [p31, p255] at *
    omega
  · rw [p31]
    rw [p255] at hn
    omega
  · apply List.ext_getElem?
    intro i
    by_cases hi : i < 32
    · by_cases h31 : i = 31
      · subst h31
        rw [List.getElem?_set_self (by rw [bR_length]; decide)]
        simp [bR]
      · rw [List.getElem?_set_ne (Ne.symm h31)]
        have e : n / 256 ^ i % 256 = (n + 2 ^ 255 * b) / 256 ^ i % 256 := by
          have hs : (2 : Nat) ^ 255 = 256 ^ i * (256 * 2 ^ (247 - 8 * i)) := by
            rw [show (256 : Nat) = 2 ^ 8 from rfl, ← Nat.pow_mul, ← Nat.pow_add, ← Nat.pow_add]
            congr 1
            omega
          rw [hs, Nat.mul_assoc, Nat.mul_assoc, Nat.add_mul_div_left _ _ (Nat.pow_pos (by decide)), Nat.add_mul_mod_self_left]
        unfold bR
        rw [List.getElem?_map, List.getElem?_map, List.getElem?_range hi]
        simp only [Option.map_some, e]
    · rw [List.getElem?_eq_none (by rw [List.length_set, bR_length]; omega), List.getElem?_eq_none (by rw [bR_length]; omega)]
theorem nm_a (n : Nat) : (nm n).a % 2 = ((n % 2 : Nat) : Int) := by
  show ((n : Int) % 18446744073709551616) % 2 = _
  omega
theorem packed_fun {P : Cv.Pt} (h2 : P.2 < F.p) (w : World) : Calls Tryd.prog 23 #[pv P] w fun e w' => e = .returned (bV (Cv.pk P)) ∧ Below w.heap.size w w' := by
  have hy : P.2 < 2 ^ 255 := Nat.lt_trans h2 Cv.p_255
  obtain ⟨t1, t2, t3⟩ := top_row hy (Nat.mod_lt P.1 (show 2 > 0 by decide))
  refine packed_walk (nm P.1) (nm P.2) P.2 (Cv.pk P) _ _ rfl rfl ?_ t3 (bytes_n P.2 (Nat.lt_trans h2 F.p_lt)) w
  have := or_128 ⟨_, t2⟩ ⟨P.1 % 2, Nat.mod_lt _ (by decide)⟩
  rw [and_1 (nm_ok P.1).a, nm_a]
  show _ = (((P.2 + 2 ^ 255 * (P.1 % 2)) / 256 ^ 31 % 256 : Nat) : Int)
  rw [t1]
  exact this
set_option maxRecDepth 20000 in
set_option maxHeartbeats 1000000 in
theorem cPack_walk (px py : Nm) (m : Nat)
    (O1 : ∀ w, Calls Tryd.prog 22 #[Wv px py] w fun e w' => e = .returned (.bool true) ∧ Below w.heap.size w w')
    (K1 : ∀ w, Calls Tryd.prog 23 #[Wv px py] w fun e w' => e = .returned (.agg (bR (m)).toArray) ∧ Below w.heap.size w w')
    (w : World) :
    Calls Tryd.prog 7 #[Wv px py] w fun e w' => e = .returned (.tuple #[bV m, .int .i64 0]) ∧ Below w.heap.size w w' := by
  go_enter Tryd.func7, Tryd.ntmps7
  have s0 : Hid (Kn ((kalP w (px) (py)).alloc (.cells #[Value.int IntKind.u8 0, Value.int IntKind.u8 0, Value.int IntKind.u8 0, Value.int IntKind.u8 0, Value.int IntKind.u8 0, Value.int IntKind.u8 0, Value.int IntKind.u8 0, Value.int IntKind.u8 0, Value.int IntKind.u8 0, Value.int IntKind.u8 0, Value.int IntKind.u8 0, Value.int IntKind.u8 0, Value.int IntKind.u8 0, Value.int IntKind.u8 0, Value.int IntKind.u8 0, Value.int IntKind.u8 0, Value.int IntKind.u8 0, Value.int IntKind.u8 0, Value.int IntKind.u8 0, Value.int IntKind.u8 0, Value.int IntKind.u8 0, Value.int IntKind.u8 0, Value.int IntKind.u8 0, Value.int IntKind.u8 0, Value.int IntKind.u8 0, Value.int IntKind.u8 0, Value.int IntKind.u8 0, Value.int IntKind.u8 0, Value.int IntKind.u8 0, Value.int IntKind.u8 0, Value.int IntKind.u8 0, Value.int IntKind.u8 0] 22)) [(w.heap.size + 1, bZ), (w.heap.size, (c8 (px) (py)))]) := (((Kn.nil w).al (c8 (px) (py)) 34 rfl).al bZ 22 (by simp))
  have b0 : Hid (Below w.heap.size w ((kalP w (px) (py)).alloc (.cells #[Value.int IntKind.u8 0, Value.int IntKind.u8 0, Value.int IntKind.u8 0, Value.int IntKind.u8 0, Value.int IntKind.u8 0, Value.int IntKind.u8 0, Value.int IntKind.u8 0, Value.int IntKind.u8 0, Value.int IntKind.u8 0, Value.int IntKind.u8 0, Value.int IntKind.u8 0, Value.int IntKind.u8 0, Value.int IntKind.u8 0, Value.int IntKind.u8 0, Value.int IntKind.u8 0, Value.int IntKind.u8 0, Value.int IntKind.u8 0, Value.int IntKind.u8 0, Value.int IntKind.u8 0, Value.int IntKind.u8 0, Value.int IntKind.u8 0, Value.int IntKind.u8 0, Value.int IntKind.u8 0, Value.int IntKind.u8 0, Value.int IntKind.u8 0, Value.int IntKind.u8 0, Value.int IntKind.u8 0, Value.int IntKind.u8 0, Value.int IntKind.u8 0, Value.int IntKind.u8 0, Value.int IntKind.u8 0, Value.int IntKind.u8 0] 22))) := (((Below.refl _ _).alloc (Nat.le_refl _) _).alloc (by simp <;> omega) _)
  have up_0 : ((kalP w (px) (py)).alloc (.cells #[Value.int IntKind.u8 0, Value.int IntKind.u8 0, Value.int IntKind.u8 0, Value.int IntKind.u8 0, Value.int IntKind.u8 0, Value.int IntKind.u8 0, Value.int IntKind.u8 0, Value.int IntKind.u8 0, Value.int IntKind.u8 0, Value.int IntKind.u8 0, Value.int IntKind.u8 0, Value.int IntKind.u8 0, Value.int IntKind.u8 0, Value.int IntKind.u8 0, Value.int IntKind.u8 0, Value.int IntKind.u8 0, Value.int IntKind.u8 0, Value.int IntKind.u8 0, Value.int IntKind.u8 0, Value.int IntKind.u8 0, Value.int IntKind.u8 0, Value.int IntKind.u8 0, Value.int IntKind.u8 0, Value.int IntKind.u8 0, Value.int IntKind.u8 0, Value.int IntKind.u8 0, Value.int IntKind.u8 0, Value.int IntKind.u8 0, Value.int IntKind.u8 0, Value.int IntKind.u8 0, Value.int IntKind.u8 0, Value.int IntKind.u8 0] 22)).cell? ⟨w.heap.size, 0, none⟩ = some (.int .u64 (px).a) := Kn.get s0.out 1 0 rfl rfl
  have up_1 : ((kalP w (px) (py)).alloc (.cells #[Value.int IntKind.u8 0, Value.int IntKind.u8 0, Value.int IntKind.u8 0, Value.int IntKind.u8 0, Value.int IntKind.u8 0, Value.int IntKind.u8 0, Value.int IntKind.u8 0, Value.int IntKind.u8 0, Value.int IntKind.u8 0, Value.int IntKind.u8 0, Value.int IntKind.u8 0, Value.int IntKind.u8 0, Value.int IntKind.u8 0, Value.int IntKind.u8 0, Value.int IntKind.u8 0, Value.int IntKind.u8 0, Value.int IntKind.u8 0, Value.int IntKind.u8 0, Value.int IntKind.u8 0, Value.int IntKind.u8 0, Value.int IntKind.u8 0, Value.int IntKind.u8 0, Value.int IntKind.u8 0, Value.int IntKind.u8 0, Value.int IntKind.u8 0, Value.int IntKind.u8 0, Value.int IntKind.u8 0, Value.int IntKind.u8 0, Value.int IntKind.u8 0, Value.int IntKind.u8 0, Value.int IntKind.u8 0, Value.int IntKind.u8 0] 22)).cell? ⟨w.heap.size, 1, none⟩ = some (.int .u64 (px).b) := Kn.get s0.out 1 1 rfl rfl
  have up_2 : ((kalP w (px) (py)).alloc (.cells #[Value.int IntKind.u8 0, Value.int IntKind.u8 0, Value.int IntKind.u8 0, Value.int IntKind.u8 0, Value.int IntKind.u8 0, Value.int IntKind.u8 0, Value.int IntKind.u8 0, Value.int IntKind.u8 0, Value.int IntKind.u8 0, Value.int IntKind.u8 0, Value.int IntKind.u8 0, Value.int IntKind.u8 0, Value.int IntKind.u8 0, Value.int IntKind.u8 0, Value.int IntKind.u8 0, Value.int IntKind.u8 0, Value.int IntKind.u8 0, Value.int IntKind.u8 0, Value.int IntKind.u8 0, Value.int IntKind.u8 0, Value.int IntKind.u8 0, Value.int IntKind.u8 0, Value.int IntKind.u8 0, Value.int IntKind.u8 0, Value.int IntKind.u8 0, Value.int IntKind.u8 0, Value.int IntKind.u8 0, Value.int IntKind.u8 0, Value.int IntKind.u8 0, Value.int IntKind.u8 0, Value.int IntKind.u8 0, Value.int IntKind.u8 0] 22)).cell? ⟨w.heap.size, 2, none⟩ = some (.int .u64 (px).c) := Kn.get s0.out 1 2 rfl rfl
  have up_3 : ((kalP w (px) (py)).alloc (.cells #[Value.int IntKind.u8 0, Value.int IntKind.u8 0, Value.int IntKind.u8 0, Value.int IntKind.u8 0, Value.int IntKind.u8 0, Value.int IntKind.u8 0, Value.int IntKind.u8 0, Value.int IntKind.u8 0, Value.int IntKind.u8 0, Value.int IntKind.u8 0, Value.int IntKind.u8 0, Value.int IntKind.u8 0, Value.int IntKind.u8 0, Value.int IntKind.u8 0, Value.int IntKind.u8 0, Value.int IntKind.u8 0, Value.int IntKind.u8 0, Value.int IntKind.u8 0, Value.int IntKind.u8 0, Value.int IntKind.u8 0, Value.int IntKind.u8 0, Value.int IntKind.u8 0, Value.int IntKind.u8 0, Value.int IntKind.u8 0, Value.int IntKind.u8 0, Value.int IntKind.u8 0, Value.int IntKind.u8 0, Value.int IntKind.u8 0, Value.int IntKind.u8 0, Value.int IntKind.u8 0, Value.int IntKind.u8 0, Value.int IntKind.u8 0] 22)).cell? ⟨w.heap.size, 3, none⟩ = some (.int .u64 (px).d) := Kn.get s0.out 1 3 rfl rfl
  have up_4 : ((kalP w (px) (py)).alloc (.cells #[Value.int IntKind.u8 0, Value.int IntKind.u8 0, Value.int IntKind.u8 0, Value.int IntKind.u8 0, Value.int IntKind.u8 0, Value.int IntKind.u8 0, Value.int IntKind.u8 0, Value.int IntKind.u8 0, Value.int IntKind.u8 0, Value.int IntKind.u8 0, Value.int IntKind.u8 0, Value.int IntKind.u8 0, Value.int IntKind.u8 0, Value.int IntKind.u8 0, Value.int IntKind.u8 0, Value.int IntKind.u8 0, Value.int IntKind.u8 0, Value.int IntKind.u8 0, Value.int IntKind.u8 0, Value.int IntKind.u8 0, Value.int IntKind.u8 0, Value.int IntKind.u8 0, Value.int IntKind.u8 0, Value.int IntKind.u8 0, Value.int IntKind.u8 0, Value.int IntKind.u8 0, Value.int IntKind.u8 0, Value.int IntKind.u8 0, Value.int IntKind.u8 0, Value.int IntKind.u8 0, Value.int IntKind.u8 0, Value.int IntKind.u8 0] 22)).cell? ⟨w.heap.size, 4, none⟩ = some (.int .u64 (py).a) := Kn.get s0.out 1 4 rfl rfl
  have up_5 : ((kalP w (px) (py)).alloc (.cells #[Value.int IntKind.u8 0, Value.int IntKind.u8 0, Value.int IntKind.u8 0, Value.int IntKind.u8 0, Value.int IntKind.u8 0, Value.int IntKind.u8 0, Value.int IntKind.u8 0, Value.int IntKind.u8 0, Value.int IntKind.u8 0, Value.int IntKind.u8 0, Value.int IntKind.u8 0, Value.int IntKind.u8 0, Value.int IntKind.u8 0, Value.int IntKind.u8 0, Value.int IntKind.u8 0, Value.int IntKind.u8 0, Value.int IntKind.u8 0, Value.int IntKind.u8 0, Value.int IntKind.u8 0, Value.int IntKind.u8 0, Value.int IntKind.u8 0, Value.int IntKind.u8 0, Value.int IntKind.u8 0, Value.int IntKind.u8 0, Value.int IntKind.u8 0, Value.int IntKind.u8 0, Value.int IntKind.u8 0, Value.int IntKind.u8 0, Value.int IntKind.u8 0, Value.int IntKind.u8 0, Value.int IntKind.u8 0, Value.int IntKind.u8 0] 22)).cell? ⟨w.heap.size, 5, none⟩ = some (.int .u64 (py).b) := Kn.get s0.out 1 5 rfl rfl
  have up_6 : ((kalP w (px) (py)).alloc (.cells #[Value.int IntKind.u8 0, Value.int IntKind.u8 0, Value.int IntKind.u8 0, Value.int IntKind.u8 0, Value.int IntKind.u8 0, Value.int IntKind.u8 0, Value.int IntKind.u8 0, Value.int IntKind.u8 0, Value.int IntKind.u8 0, Value.int IntKind.u8 0, Value.int IntKind.u8 0, Value.int IntKind.u8 0, Value.int IntKind.u8 0, Value.int IntKind.u8 0, Value.int IntKind.u8 0, Value.int IntKind.u8 0, Value.int IntKind.u8 0, Value.int IntKind.u8 0, Value.int IntKind.u8 0, Value.int IntKind.u8 0, Value.int IntKind.u8 0, Value.int IntKind.u8 0, Value.int IntKind.u8 0, Value.int IntKind.u8 0, Value.int IntKind.u8 0, Value.int IntKind.u8 0, Value.int IntKind.u8 0, Value.int IntKind.u8 0, Value.int IntKind.u8 0, Value.int IntKind.u8 0, Value.int IntKind.u8 0, Value.int IntKind.u8 0] 22)).cell? ⟨w.heap.size, 6, none⟩ = some (.int .u64 (py).c) := Kn.get s0.out 1 6 rfl rfl
  have up_7 : ((kalP w (px) (py)).alloc (.cells #[Value.int IntKind.u8 0, Value.int IntKind.u8 0, Value.int IntKind.u8 0, Value.int IntKind.u8 0, Value.int IntKind.u8 0, Value.int IntKind.u8 0, Value.int IntKind.u8 0, Value.int IntKind.u8 0, Value.int IntKind.u8 0, Value.int IntKind.u8 0, Value.int IntKind.u8 0, Value.int IntKind.u8 0, Value.int IntKind.u8 0, Value.int IntKind.u8 0, Value.int IntKind.u8 0, Value.int IntKind.u8 0, Value.int IntKind.u8 0, Value.int IntKind.u8 0, Value.int IntKind.u8 0, Value.int IntKind.u8 0, Value.int IntKind.u8 0, Value.int IntKind.u8 0, Value.int IntKind.u8 0, Value.int IntKind.u8 0, Value.int IntKind.u8 0, Value.int IntKind.u8 0, Value.int IntKind.u8 0, Value.int IntKind.u8 0, Value.int IntKind.u8 0, Value.int IntKind.u8 0, Value.int IntKind.u8 0, Value.int IntKind.u8 0] 22)).cell? ⟨w.heap.size, 7, none⟩ = some (.int .u64 (py).d) := Kn.get s0.out 1 7 rfl rfl
  go_wp2_with (first | simp only [zero_b32])
  clear up_0 up_1 up_2 up_3 up_4 up_5 up_6 up_7
  refine (O1 _).mono ?_
  rintro e w1 ⟨rfl, hb1⟩
  have s1 : Hid (Kn w1 [(w.heap.size + 1, bZ), (w.heap.size, (c8 (px) (py)))]) := s0.out.up hb1
  have b1 : Hid (Below w.heap.size w w1) := b0.out.trans (hb1.mono b0.out.size)
  have z1 := b1.out.size
  clear hb1 s0 b0
  have up_0 : w1.cell? ⟨w.heap.size, 0, none⟩ = some (.int .u64 (px).a) := Kn.get s1.out 1 0 rfl rfl
  have up_1 : w1.cell? ⟨w.heap.size, 1, none⟩ = some (.int .u64 (px).b) := Kn.get s1.out 1 1 rfl rfl
  have up_2 : w1.cell? ⟨w.heap.size, 2, none⟩ = some (.int .u64 (px).c) := Kn.get s1.out 1 2 rfl rfl
  have up_3 : w1.cell? ⟨w.heap.size, 3, none⟩ = some (.int .u64 (px).d) := Kn.get s1.out 1 3 rfl rfl
  have up_4 : w1.cell? ⟨w.heap.size, 4, none⟩ = some (.int .u64 (py).a) := Kn.get s1.out 1 4 rfl rfl
  have up_5 : w1.cell? ⟨w.heap.size, 5, none⟩ = some (.int .u64 (py).b) := Kn.get s1.out 1 5 rfl rfl
  have up_6 : w1.cell? ⟨w.heap.size, 6, none⟩ = some (.int .u64 (py).c) := Kn.get s1.out 1 6 rfl rfl
  have up_7 : w1.cell? ⟨w.heap.size, 7, none⟩ = some (.int .u64 (py).d) := Kn.get s1.out 1 7 rfl rfl
  go_wp2_with fail
  clear up_0 up_1 up_2 up_3 up_4 up_5 up_6 up_7
  refine (K1 _).mono ?_
  rintro e w2 ⟨rfl, hb2⟩
  have s2 : Hid (Kn w2 [(w.heap.size + 1, bZ), (w.heap.size, (c8 (px) (py)))]) := s1.out.up hb2
  have b2 : Hid (Below w.heap.size w w2) := b1.out.trans (hb2.mono b1.out.size)
  have z2 := b2.out.size
  clear hb2 s1 b1
  have s3x : Hid (Kn w2 [(w.heap.size + 1, bZ), (w.heap.size, (c8 (px) (py)))]) := s2.out.front 0 rfl
  have b3x : Hid (Below w.heap.size w w2) := b2.out
  have TT3 : Hid (w2.there (w.heap.size + 1) 0 (bR (m)).length) := Kn.there s3x.out 0 rfl (by rw [(bR_length (m)), bZ_length])
  go_wp2_with (first | refine I.wp_store_eq rfl 22 _ _ rfl (w.heap.size + 1) 0 (bR (m)) rfl rfl TT3.out (info_bR (m)) (bR_one (m)) ?_)
  intro w3 hw3
  try simp only [Act.put, List.setIfInBounds_toArray, List.set_cons_succ, List.set_cons_zero]
  have s3 : Hid (Kn w3 [(w.heap.size + 1, (bR (m))), (w.heap.size, (c8 (px) (py)))]) := by rw [hw3.out]; exact Kn.put s3x.out (by rw [(bR_length (m)), bZ_length])
  have b3 : Hid (Below w.heap.size w w3) := by rw [hw3.out]; exact I.below_setCells _ _ _ b3x.out (by omega)
  have z3 := b3.out.size
  clear hw3 s3x b3x TT3 s2 b2
  go_wp2_with fail
  exact bodyPost_ret (v := .tuple #[bV m, .int .i64 0]) (results_row2 (b := w.heap.size + 1) rfl rfl rfl (Kn.rng s3.out 0 rfl) Tryd.underlying22 rfl (info_bR (m))) rfl ⟨rfl, b3.out⟩
theorem cPackC : CPackC := fun P hP w => cPack_walk _ _ _ (cOnC.1 P hP) (packed_fun hP.2.1) w
end Go.Proofs.YtfknkfninjjgbabDoor
