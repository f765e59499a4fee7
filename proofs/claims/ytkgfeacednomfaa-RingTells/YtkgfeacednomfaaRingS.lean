/- The contracts of a ring's Mod and Sub. -/
import Derived.Test.YtkgfeacednomfaaRingV
namespace Go.Proofs.Ytkgfeacednomfaa
open Go.RowKit
attribute [local go_sem] World.cell?_alloc_some frozen?_alloc_cells frozen_out
set_option maxHeartbeats 1000000 in
theorem ringMod_fun (k : Nat) (m iv on tw : Nm) (w : World) (hR : RingAt w k m iv on tw) :
    Calls Try.prog 30 #[rp k] w fun e w' => e = .returned (N m) ∧ Below w.heap.size w w' := by
  have r0 := hR.m.a
  have r1 := hR.m.b
  have r2 := hR.m.c
  have r3 := hR.m.d
  clear hR
  go_enter Try.func30, Try.ntmps30
  have s0 : Hid (Kn (kal4 w (m)) [(w.heap.size, (c4 (m)))]) := ((Kn.nil w).al (c4 (m)) 24 rfl)
  have b0 : Hid (Below w.heap.size w (kal4 w (m))) := ((Below.refl _ _).alloc (Nat.le_refl _) _)
  go_wp2_with fail
  have urr_0 : (kal4 w (m)).cell? ⟨w.heap.size, 0, none⟩ = some (.int .u64 (m).a) := Kn.get s0.out 0 0 rfl rfl
  have urr_1 : (kal4 w (m)).cell? ⟨w.heap.size, 1, none⟩ = some (.int .u64 (m).b) := Kn.get s0.out 0 1 rfl rfl
  have urr_2 : (kal4 w (m)).cell? ⟨w.heap.size, 2, none⟩ = some (.int .u64 (m).c) := Kn.get s0.out 0 2 rfl rfl
  have urr_3 : (kal4 w (m)).cell? ⟨w.heap.size, 3, none⟩ = some (.int .u64 (m).d) := Kn.get s0.out 0 3 rfl rfl
  refine bodyPost_ret (v := N m) ?_ rfl ⟨rfl, b0.out⟩
  show (results Try.f30 _).run Try.prog (kal4 w (m)) = .ok _ (kal4 w (m))
  clear s0 b0
  generalize (kal4 w (m)) = W9 at *
  simp [results, Try.results30, go_sem, urr_0, urr_1, urr_2, urr_3]
set_option maxHeartbeats 1000000 in
theorem ringSub_walk (k : Nat) (m iv on tw a b x y p : Nm)
    (SA : ∀ w, RingAt w k m iv on tw → Calls Try.prog 69 #[rp k, N a] w fun e w' => e = .returned (N x) ∧ Below w.heap.size w w')
    (SB : ∀ w, RingAt w k m iv on tw → Calls Try.prog 69 #[rp k, N b] w fun e w' => e = .returned (N y) ∧ Below w.heap.size w w')
    (SL : ∀ w, RingAt w k m iv on tw → Calls Try.prog 70 #[rp k, N x, N y] w fun e w' => e = .returned (N p) ∧ Below w.heap.size w w')
    (w : World) (hR : Hid (RingAt w k m iv on tw)) :
    Calls Try.prog 32 #[rp k, N a, N b] w fun e w' => e = .returned (N p) ∧ Below w.heap.size w w' := by
  go_enter Try.func32, Try.ntmps32
  have s0 : Hid (Kn (kz4 (kal4 (kal4 w (a)) (b))) [(w.heap.size + 1 + 1, zz4), (w.heap.size + 1, (c4 (b))), (w.heap.size, (c4 (a)))]) := ((((Kn.nil w).al (c4 (a)) 24 rfl).al (c4 (b)) 24 (by simp)).al zz4 24 (by simp))
  have b0 : Hid (Below w.heap.size w (kz4 (kal4 (kal4 w (a)) (b)))) := ((((Below.refl _ _).alloc (Nat.le_refl _) _).alloc (by simp <;> omega) _).alloc (by simp <;> omega) _)
  go_wp2_with fail
  refine wp_region_up_then 8 (by kernel_rfl) (by kernel_rfl) (by kernel_rfl) (by kernel_rfl) (by decide) (fun _ _ d _ _ h => by cases d <;> exact h) (fun U hU f hf hcl => ?_)
  have ua_0 := fun nx => (Kn.get (s0.out.up (hf nx).out) 2 0 rfl rfl : (f nx).cell? ⟨w.heap.size, 0, none⟩ = some (.int .u64 (a).a))
  have ua_1 := fun nx => (Kn.get (s0.out.up (hf nx).out) 2 1 rfl rfl : (f nx).cell? ⟨w.heap.size, 1, none⟩ = some (.int .u64 (a).b))
  have ua_2 := fun nx => (Kn.get (s0.out.up (hf nx).out) 2 2 rfl rfl : (f nx).cell? ⟨w.heap.size, 2, none⟩ = some (.int .u64 (a).c))
  have ua_3 := fun nx => (Kn.get (s0.out.up (hf nx).out) 2 3 rfl rfl : (f nx).cell? ⟨w.heap.size, 3, none⟩ = some (.int .u64 (a).d))
  have ub_0 := fun nx => (Kn.get (s0.out.up (hf nx).out) 1 0 rfl rfl : (f nx).cell? ⟨w.heap.size + 1, 0, none⟩ = some (.int .u64 (b).a))
  have ub_1 := fun nx => (Kn.get (s0.out.up (hf nx).out) 1 1 rfl rfl : (f nx).cell? ⟨w.heap.size + 1, 1, none⟩ = some (.int .u64 (b).b))
  have ub_2 := fun nx => (Kn.get (s0.out.up (hf nx).out) 1 2 rfl rfl : (f nx).cell? ⟨w.heap.size + 1, 2, none⟩ = some (.int .u64 (b).c))
  have ub_3 := fun nx => (Kn.get (s0.out.up (hf nx).out) 1 3 rfl rfl : (f nx).cell? ⟨w.heap.size + 1, 3, none⟩ = some (.int .u64 (b).d))
  have RR := fun nx => (hR.out.up ((b0.out).trans ((hf nx).out.mono b0.out.size)) : RingAt (f nx) _ _ _ _ _)
  simp only [List.take_succ_cons, List.take_zero, List.drop_succ_cons, List.drop_zero]
  repeat (go_big_quiet_step (first | (go_at_call_of 69 a.a; exact (SA _ (RR _)).mono fun e w'' ⟨he, hb⟩ => ⟨he, hcl.out _ _ hb⟩) | (go_at_call_of 69 b.a; exact (SB _ (RR _)).mono fun e w'' ⟨he, hb⟩ => ⟨he, hcl.out _ _ hb⟩) | (go_at_call 70; exact (SL _ (RR _)).mono fun e w'' ⟨he, hb⟩ => ⟨he, hcl.out _ _ hb⟩)))
  refine wpQuiet_nil ?_
  intro nx
  have hb1 := (hf nx).out
  clear hf hcl ua_0 ua_1 ua_2 ua_3 ub_0 ub_1 ub_2 ub_3 RR
  generalize f nx = w1 at hb1 ⊢
  have s1 : Hid (Kn w1 [(w.heap.size + 1 + 1, zz4), (w.heap.size + 1, (c4 (b))), (w.heap.size, (c4 (a)))]) := s0.out.up hb1
  have b1 : Hid (Below w.heap.size w w1) := b0.out.trans (hb1.mono b0.out.size)
  have z1 := b1.out.size
  clear hb1 s0 b0
  have uro_0 : w1.cell? ⟨w.heap.size + 1 + 1, 0, none⟩ = some (.int .u64 0) := Kn.get s1.out 0 0 rfl rfl
  have uro_1 : w1.cell? ⟨w.heap.size + 1 + 1, 1, none⟩ = some (.int .u64 0) := Kn.get s1.out 0 1 rfl rfl
  have uro_2 : w1.cell? ⟨w.heap.size + 1 + 1, 2, none⟩ = some (.int .u64 0) := Kn.get s1.out 0 2 rfl rfl
  have uro_3 : w1.cell? ⟨w.heap.size + 1 + 1, 3, none⟩ = some (.int .u64 0) := Kn.get s1.out 0 3 rfl rfl
  have uro_z : ∀ j, w1.frozen? ⟨w.heap.size + 1 + 1, j, none⟩ = false := Kn.fz s1.out 0 rfl
  have s2 : Hid (Kn (st4 w1 (w.heap.size + 1 + 1) (p)) [(w.heap.size + 1 + 1, (c4 (p))), (w.heap.size + 1, (c4 (b))), (w.heap.size, (c4 (a)))]) := Kn.st4 (L := [(w.heap.size + 1, (c4 (b))), (w.heap.size, (c4 (a)))]) (s1.out.front 0 rfl) (p)
  have b2 : Hid (Below w.heap.size w (st4 w1 (w.heap.size + 1 + 1) (p))) := below_st4 b1.out (by omega)
  clear s1 b1
  go_wp2_with fail
  clear uro_0 uro_1 uro_2 uro_3 uro_z
  have urr_0 : (st4 w1 (w.heap.size + 1 + 1) (p)).cell? ⟨w.heap.size + 1 + 1, 0, none⟩ = some (.int .u64 (p).a) := Kn.get s2.out 0 0 rfl rfl
  have urr_1 : (st4 w1 (w.heap.size + 1 + 1) (p)).cell? ⟨w.heap.size + 1 + 1, 1, none⟩ = some (.int .u64 (p).b) := Kn.get s2.out 0 1 rfl rfl
  have urr_2 : (st4 w1 (w.heap.size + 1 + 1) (p)).cell? ⟨w.heap.size + 1 + 1, 2, none⟩ = some (.int .u64 (p).c) := Kn.get s2.out 0 2 rfl rfl
  have urr_3 : (st4 w1 (w.heap.size + 1 + 1) (p)).cell? ⟨w.heap.size + 1 + 1, 3, none⟩ = some (.int .u64 (p).d) := Kn.get s2.out 0 3 rfl rfl
  refine bodyPost_ret (v := N p) ?_ rfl ⟨rfl, b2.out⟩
  show (results Try.f32 _).run Try.prog (st4 w1 (w.heap.size + 1 + 1) (p)) = .ok _ (st4 w1 (w.heap.size + 1 + 1) (p))
  clear s2 b2
  generalize (st4 w1 (w.heap.size + 1 + 1) (p)) = W9 at *
  simp [results, Try.results32, go_sem, urr_0, urr_1, urr_2, urr_3]
theorem ringSub_fun {k : Nat} {m iv : Nm} (R : RingOK m iv) (a b : Nm) (oa : a.ok) (ob : b.ok) (w : World) (hR : Rg w k m iv) :
    Calls Try.prog 32 #[rp k, N a, N b] w fun e w' => e = .returned (N (nm ((a.nat + (m.nat - b.nat % m.nat)) % m.nat))) ∧ Below w.heap.size w w' := by
  have hm : 0 < m.nat := by have := R.big; omega
  have ea : (nm (a.nat % m.nat)).nat = a.nat % m.nat := nm_nat (mod_ok R.om hm _)
  have eb : (nm (b.nat % m.nat)).nat = b.nat % m.nat := nm_nat (mod_ok R.om hm _)
  have la := Nat.mod_lt a.nat hm
  have lb := Nat.mod_lt b.nat hm
  have L := fun w hR => less_fun (k := k) R (nm (2 ^ 256 % m.nat)) (nm (2 ^ 256 * 2 ^ 256 % m.nat)) (nm (a.nat % m.nat)) (nm (b.nat % m.nat)) (nm_ok _) (nm_ok _) (by rw [ea]; exact la) (by rw [eb]; omega) w hR
  have e : ((nm (a.nat % m.nat)).nat + m.nat - (nm (b.nat % m.nat)).nat) % m.nat = (a.nat + (m.nat - b.nat % m.nat)) % m.nat := by
    rw [ea, eb, show a.nat % m.nat + m.nat - b.nat % m.nat = a.nat % m.nat + (m.nat - b.nat % m.nat) by omega]
    rw [Nat.add_mod, Nat.mod_mod, ← Nat.add_mod]
  rw [e] at L
  exact ringSub_walk k m iv _ _ a b _ _ _ (below_fun R a oa) (below_fun R b ob) L w hR
end Go.Proofs.Ytkgfeacednomfaa
