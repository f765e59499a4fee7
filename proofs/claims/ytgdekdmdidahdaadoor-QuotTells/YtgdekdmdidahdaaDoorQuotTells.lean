/- QuotTells returns true for every a, m and b, where math/bits's table lies as the program's text lays it. No other condition. -/
import Derived.Test.YtgdekdmdidahdaaDoorDCommon
import Derived.Test.YtgdekdmdidahdaaDoorDWords
import Derived.Test.YtgdekdmdidahdaaDoorDDig
import Derived.Test.YtgdekdmdidahdaaDoorUpMS
import Derived.Test.YtgdekdmdidahdaaDoorGcd
import Derived.Test.YtgdekdmdidahdaaDoorMod
import Derived.Test.YtgdekdmdidahdaaDoorKn
import Derived.Test.YtgdekdmdidahdaaDoorAl
import Derived.Test.YtgdekdmdidahdaaDoorLaid
import Derived.Test.YtgdekdmdidahdaaDoorCards
namespace Go.Proofs.YtgdekdmdidahdaaDoor
open Go.RowKit
open Go.ChangeShapes Go.WideShapes Go.ChangeAt
attribute [local go_sem] World.cell?_alloc_some cell_alloc2 cell_alloc3 cell_alloc4 frozen?_alloc_cells frozen_out YieldsP execOp
attribute [local simp] MP.eq_p MP.sl_p MP.sl2_p
set_option maxRecDepth 20000 in
set_option maxHeartbeats 2000000 in
theorem quotTells_zero (l h b : Nm)
    (G : ∀ w, Tab w → Calls Tryd.prog 6 #[N ⟨0, 0, 0, 0⟩, N b] w fun e w' => e = .returned (N b) ∧ Below w.heap.size w w')
    (w : World) (hT : Hid (Tab w)) :
    Calls Tryd.prog 3 #[Wv l h, N ⟨0, 0, 0, 0⟩, N b] w fun e w' => e = .returned (.bool true) ∧ Below w.heap.size w w' := by
  have e1 := eqN ⟨0, 0, 0, 0⟩ ⟨0, 0, 0, 0⟩
  have e2 := eqN b b
  rw [Nm.beq_self] at e1 e2
  have e3 := eqW ⟨0, 0, 0, 0⟩ ⟨0, 0, 0, 0⟩ ⟨0, 0, 0, 0⟩ ⟨0, 0, 0, 0⟩
  rw [Nm.beq_self] at e3
  go_enter Tryd.func3, Tryd.ntmps3
  have s0 : Hid (Kn (kal4 (kal4 (kal8 w (l) (h)) ((⟨0, 0, 0, 0⟩ : Nm))) (b)) [(w.heap.size + 1 + 1, (c4 (b))), (w.heap.size + 1, (c4 ((⟨0, 0, 0, 0⟩ : Nm)))), (w.heap.size, (c8 (l) (h)))]) := ((((Kn.nil w).al (c8 (l) (h)) 24 rfl).al (c4 ((⟨0, 0, 0, 0⟩ : Nm))) 26 (by simp)).al (c4 (b)) 26 (by simp))
  have b0 : Hid (Below w.heap.size w (kal4 (kal4 (kal8 w (l) (h)) ((⟨0, 0, 0, 0⟩ : Nm))) (b))) := ((((Below.refl _ _).alloc (Nat.le_refl _) _).alloc (by simp <;> omega) _).alloc (by simp <;> omega) _)
  go_wp2_with fail
  refine (divmod_zero l h _).mono ?_
  rintro e w1 ⟨rfl, hb1⟩
  have s1 : Hid (Kn w1 [(w.heap.size + 1 + 1, (c4 (b))), (w.heap.size + 1, (c4 ((⟨0, 0, 0, 0⟩ : Nm)))), (w.heap.size, (c8 (l) (h)))]) := s0.out.up hb1
  have b1 : Hid (Below w.heap.size w w1) := b0.out.trans (hb1.mono b0.out.size)
  have z1 := b1.out.size
  clear hb1 s0 b0
  have s2 : Hid (Kn (kal8 w1 ((⟨0, 0, 0, 0⟩ : Nm)) ((⟨0, 0, 0, 0⟩ : Nm))) [(w1.heap.size, (c8 ((⟨0, 0, 0, 0⟩ : Nm)) ((⟨0, 0, 0, 0⟩ : Nm)))), (w.heap.size + 1 + 1, (c4 (b))), (w.heap.size + 1, (c4 ((⟨0, 0, 0, 0⟩ : Nm)))), (w.heap.size, (c8 (l) (h)))]) := s1.out.al (c8 ((⟨0, 0, 0, 0⟩ : Nm)) ((⟨0, 0, 0, 0⟩ : Nm))) 24 rfl
  have b2 : Hid (Below w.heap.size w (kal8 w1 ((⟨0, 0, 0, 0⟩ : Nm)) ((⟨0, 0, 0, 0⟩ : Nm)))) := b1.out.alloc b1.out.size _
  have z2 := b1.out.size
  clear s1 b1
  have s3 : Hid (Kn (kal4 (kal8 w1 ((⟨0, 0, 0, 0⟩ : Nm)) ((⟨0, 0, 0, 0⟩ : Nm))) ((⟨0, 0, 0, 0⟩ : Nm))) [(w1.heap.size + 1, (c4 ((⟨0, 0, 0, 0⟩ : Nm)))), (w1.heap.size, (c8 ((⟨0, 0, 0, 0⟩ : Nm)) ((⟨0, 0, 0, 0⟩ : Nm)))), (w.heap.size + 1 + 1, (c4 (b))), (w.heap.size + 1, (c4 ((⟨0, 0, 0, 0⟩ : Nm)))), (w.heap.size, (c8 (l) (h)))]) := s2.out.al (c4 ((⟨0, 0, 0, 0⟩ : Nm))) 26 (by simp)
  have b3 : Hid (Below w.heap.size w (kal4 (kal8 w1 ((⟨0, 0, 0, 0⟩ : Nm)) ((⟨0, 0, 0, 0⟩ : Nm))) ((⟨0, 0, 0, 0⟩ : Nm)))) := b2.out.alloc b2.out.size _
  have z3 := b2.out.size
  clear s2 b2
  have ua_0 : (kal4 (kal8 w1 ((⟨0, 0, 0, 0⟩ : Nm)) ((⟨0, 0, 0, 0⟩ : Nm))) ((⟨0, 0, 0, 0⟩ : Nm))).cell? ⟨w.heap.size, 0, none⟩ = some (.int .u64 (l).a) := Kn.get s3.out 4 0 rfl rfl
  have ua_1 : (kal4 (kal8 w1 ((⟨0, 0, 0, 0⟩ : Nm)) ((⟨0, 0, 0, 0⟩ : Nm))) ((⟨0, 0, 0, 0⟩ : Nm))).cell? ⟨w.heap.size, 1, none⟩ = some (.int .u64 (l).b) := Kn.get s3.out 4 1 rfl rfl
  have ua_2 : (kal4 (kal8 w1 ((⟨0, 0, 0, 0⟩ : Nm)) ((⟨0, 0, 0, 0⟩ : Nm))) ((⟨0, 0, 0, 0⟩ : Nm))).cell? ⟨w.heap.size, 2, none⟩ = some (.int .u64 (l).c) := Kn.get s3.out 4 2 rfl rfl
  have ua_3 : (kal4 (kal8 w1 ((⟨0, 0, 0, 0⟩ : Nm)) ((⟨0, 0, 0, 0⟩ : Nm))) ((⟨0, 0, 0, 0⟩ : Nm))).cell? ⟨w.heap.size, 3, none⟩ = some (.int .u64 (l).d) := Kn.get s3.out 4 3 rfl rfl
  have ua_4 : (kal4 (kal8 w1 ((⟨0, 0, 0, 0⟩ : Nm)) ((⟨0, 0, 0, 0⟩ : Nm))) ((⟨0, 0, 0, 0⟩ : Nm))).cell? ⟨w.heap.size, 4, none⟩ = some (.int .u64 (h).a) := Kn.get s3.out 4 4 rfl rfl
  have ua_5 : (kal4 (kal8 w1 ((⟨0, 0, 0, 0⟩ : Nm)) ((⟨0, 0, 0, 0⟩ : Nm))) ((⟨0, 0, 0, 0⟩ : Nm))).cell? ⟨w.heap.size, 5, none⟩ = some (.int .u64 (h).b) := Kn.get s3.out 4 5 rfl rfl
  have ua_6 : (kal4 (kal8 w1 ((⟨0, 0, 0, 0⟩ : Nm)) ((⟨0, 0, 0, 0⟩ : Nm))) ((⟨0, 0, 0, 0⟩ : Nm))).cell? ⟨w.heap.size, 6, none⟩ = some (.int .u64 (h).c) := Kn.get s3.out 4 6 rfl rfl
  have ua_7 : (kal4 (kal8 w1 ((⟨0, 0, 0, 0⟩ : Nm)) ((⟨0, 0, 0, 0⟩ : Nm))) ((⟨0, 0, 0, 0⟩ : Nm))).cell? ⟨w.heap.size, 7, none⟩ = some (.int .u64 (h).d) := Kn.get s3.out 4 7 rfl rfl
  have um_0 : (kal4 (kal8 w1 ((⟨0, 0, 0, 0⟩ : Nm)) ((⟨0, 0, 0, 0⟩ : Nm))) ((⟨0, 0, 0, 0⟩ : Nm))).cell? ⟨w.heap.size + 1, 0, none⟩ = some (.int .u64 ((⟨0, 0, 0, 0⟩ : Nm)).a) := Kn.get s3.out 3 0 rfl rfl
  have um_1 : (kal4 (kal8 w1 ((⟨0, 0, 0, 0⟩ : Nm)) ((⟨0, 0, 0, 0⟩ : Nm))) ((⟨0, 0, 0, 0⟩ : Nm))).cell? ⟨w.heap.size + 1, 1, none⟩ = some (.int .u64 ((⟨0, 0, 0, 0⟩ : Nm)).b) := Kn.get s3.out 3 1 rfl rfl
  have um_2 : (kal4 (kal8 w1 ((⟨0, 0, 0, 0⟩ : Nm)) ((⟨0, 0, 0, 0⟩ : Nm))) ((⟨0, 0, 0, 0⟩ : Nm))).cell? ⟨w.heap.size + 1, 2, none⟩ = some (.int .u64 ((⟨0, 0, 0, 0⟩ : Nm)).c) := Kn.get s3.out 3 2 rfl rfl
  have um_3 : (kal4 (kal8 w1 ((⟨0, 0, 0, 0⟩ : Nm)) ((⟨0, 0, 0, 0⟩ : Nm))) ((⟨0, 0, 0, 0⟩ : Nm))).cell? ⟨w.heap.size + 1, 3, none⟩ = some (.int .u64 ((⟨0, 0, 0, 0⟩ : Nm)).d) := Kn.get s3.out 3 3 rfl rfl
  go_wp2_with fail
  clear ua_0 ua_1 ua_2 ua_3 ua_4 ua_5 ua_6 ua_7 um_0 um_1 um_2 um_3
  refine (mod_zero l h _).mono ?_
  rintro e w4 ⟨rfl, hb4⟩
  have s4 : Hid (Kn w4 [(w1.heap.size + 1, (c4 ((⟨0, 0, 0, 0⟩ : Nm)))), (w1.heap.size, (c8 ((⟨0, 0, 0, 0⟩ : Nm)) ((⟨0, 0, 0, 0⟩ : Nm)))), (w.heap.size + 1 + 1, (c4 (b))), (w.heap.size + 1, (c4 ((⟨0, 0, 0, 0⟩ : Nm)))), (w.heap.size, (c8 (l) (h)))]) := s3.out.up hb4
  have b4 : Hid (Below w.heap.size w w4) := b3.out.trans (hb4.mono b3.out.size)
  have z4 := b4.out.size
  clear hb4 s3 b3
  have s5 : Hid (Kn (kal4 w4 ((⟨0, 0, 0, 0⟩ : Nm))) [(w4.heap.size, (c4 ((⟨0, 0, 0, 0⟩ : Nm)))), (w1.heap.size + 1, (c4 ((⟨0, 0, 0, 0⟩ : Nm)))), (w1.heap.size, (c8 ((⟨0, 0, 0, 0⟩ : Nm)) ((⟨0, 0, 0, 0⟩ : Nm)))), (w.heap.size + 1 + 1, (c4 (b))), (w.heap.size + 1, (c4 ((⟨0, 0, 0, 0⟩ : Nm)))), (w.heap.size, (c8 (l) (h)))]) := s4.out.al (c4 ((⟨0, 0, 0, 0⟩ : Nm))) 26 rfl
  have b5 : Hid (Below w.heap.size w (kal4 w4 ((⟨0, 0, 0, 0⟩ : Nm)))) := b4.out.alloc b4.out.size _
  have z5 := b4.out.size
  clear s4 b4
  have um_0 : (kal4 w4 ((⟨0, 0, 0, 0⟩ : Nm))).cell? ⟨w.heap.size + 1, 0, none⟩ = some (.int .u64 ((⟨0, 0, 0, 0⟩ : Nm)).a) := Kn.get s5.out 4 0 rfl rfl
  have um_1 : (kal4 w4 ((⟨0, 0, 0, 0⟩ : Nm))).cell? ⟨w.heap.size + 1, 1, none⟩ = some (.int .u64 ((⟨0, 0, 0, 0⟩ : Nm)).b) := Kn.get s5.out 4 1 rfl rfl
  have um_2 : (kal4 w4 ((⟨0, 0, 0, 0⟩ : Nm))).cell? ⟨w.heap.size + 1, 2, none⟩ = some (.int .u64 ((⟨0, 0, 0, 0⟩ : Nm)).c) := Kn.get s5.out 4 2 rfl rfl
  have um_3 : (kal4 w4 ((⟨0, 0, 0, 0⟩ : Nm))).cell? ⟨w.heap.size + 1, 3, none⟩ = some (.int .u64 ((⟨0, 0, 0, 0⟩ : Nm)).d) := Kn.get s5.out 4 3 rfl rfl
  go_wp2_with fail
  clear um_0 um_1 um_2 um_3
  refine wp_region_up (by kernel_rfl) (by kernel_rfl) (fun U hU f hf hcl => ?_)
  have uq_0 := fun nx => (Kn.get (s5.out.up (hf nx).out) 2 0 rfl rfl : (f nx).cell? ⟨w1.heap.size, 0, none⟩ = some (.int .u64 ((⟨0, 0, 0, 0⟩ : Nm)).a))
  have uq_1 := fun nx => (Kn.get (s5.out.up (hf nx).out) 2 1 rfl rfl : (f nx).cell? ⟨w1.heap.size, 1, none⟩ = some (.int .u64 ((⟨0, 0, 0, 0⟩ : Nm)).b))
  have uq_2 := fun nx => (Kn.get (s5.out.up (hf nx).out) 2 2 rfl rfl : (f nx).cell? ⟨w1.heap.size, 2, none⟩ = some (.int .u64 ((⟨0, 0, 0, 0⟩ : Nm)).c))
  have uq_3 := fun nx => (Kn.get (s5.out.up (hf nx).out) 2 3 rfl rfl : (f nx).cell? ⟨w1.heap.size, 3, none⟩ = some (.int .u64 ((⟨0, 0, 0, 0⟩ : Nm)).d))
  have uq_4 := fun nx => (Kn.get (s5.out.up (hf nx).out) 2 4 rfl rfl : (f nx).cell? ⟨w1.heap.size, 4, none⟩ = some (.int .u64 ((⟨0, 0, 0, 0⟩ : Nm)).a))
  have uq_5 := fun nx => (Kn.get (s5.out.up (hf nx).out) 2 5 rfl rfl : (f nx).cell? ⟨w1.heap.size, 5, none⟩ = some (.int .u64 ((⟨0, 0, 0, 0⟩ : Nm)).b))
  have uq_6 := fun nx => (Kn.get (s5.out.up (hf nx).out) 2 6 rfl rfl : (f nx).cell? ⟨w1.heap.size, 6, none⟩ = some (.int .u64 ((⟨0, 0, 0, 0⟩ : Nm)).c))
  have uq_7 := fun nx => (Kn.get (s5.out.up (hf nx).out) 2 7 rfl rfl : (f nx).cell? ⟨w1.heap.size, 7, none⟩ = some (.int .u64 ((⟨0, 0, 0, 0⟩ : Nm)).d))
  have ur_0 := fun nx => (Kn.get (s5.out.up (hf nx).out) 1 0 rfl rfl : (f nx).cell? ⟨w1.heap.size + 1, 0, none⟩ = some (.int .u64 ((⟨0, 0, 0, 0⟩ : Nm)).a))
  have ur_1 := fun nx => (Kn.get (s5.out.up (hf nx).out) 1 1 rfl rfl : (f nx).cell? ⟨w1.heap.size + 1, 1, none⟩ = some (.int .u64 ((⟨0, 0, 0, 0⟩ : Nm)).b))
  have ur_2 := fun nx => (Kn.get (s5.out.up (hf nx).out) 1 2 rfl rfl : (f nx).cell? ⟨w1.heap.size + 1, 2, none⟩ = some (.int .u64 ((⟨0, 0, 0, 0⟩ : Nm)).c))
  have ur_3 := fun nx => (Kn.get (s5.out.up (hf nx).out) 1 3 rfl rfl : (f nx).cell? ⟨w1.heap.size + 1, 3, none⟩ = some (.int .u64 ((⟨0, 0, 0, 0⟩ : Nm)).d))
  have us_0 := fun nx => (Kn.get (s5.out.up (hf nx).out) 0 0 rfl rfl : (f nx).cell? ⟨w4.heap.size, 0, none⟩ = some (.int .u64 ((⟨0, 0, 0, 0⟩ : Nm)).a))
  have us_1 := fun nx => (Kn.get (s5.out.up (hf nx).out) 0 1 rfl rfl : (f nx).cell? ⟨w4.heap.size, 1, none⟩ = some (.int .u64 ((⟨0, 0, 0, 0⟩ : Nm)).b))
  have us_2 := fun nx => (Kn.get (s5.out.up (hf nx).out) 0 2 rfl rfl : (f nx).cell? ⟨w4.heap.size, 2, none⟩ = some (.int .u64 ((⟨0, 0, 0, 0⟩ : Nm)).c))
  have us_3 := fun nx => (Kn.get (s5.out.up (hf nx).out) 0 3 rfl rfl : (f nx).cell? ⟨w4.heap.size, 3, none⟩ = some (.int .u64 ((⟨0, 0, 0, 0⟩ : Nm)).d))
  have um_0 := fun nx => (Kn.get (s5.out.up (hf nx).out) 4 0 rfl rfl : (f nx).cell? ⟨w.heap.size + 1, 0, none⟩ = some (.int .u64 ((⟨0, 0, 0, 0⟩ : Nm)).a))
  have um_1 := fun nx => (Kn.get (s5.out.up (hf nx).out) 4 1 rfl rfl : (f nx).cell? ⟨w.heap.size + 1, 1, none⟩ = some (.int .u64 ((⟨0, 0, 0, 0⟩ : Nm)).b))
  have um_2 := fun nx => (Kn.get (s5.out.up (hf nx).out) 4 2 rfl rfl : (f nx).cell? ⟨w.heap.size + 1, 2, none⟩ = some (.int .u64 ((⟨0, 0, 0, 0⟩ : Nm)).c))
  have um_3 := fun nx => (Kn.get (s5.out.up (hf nx).out) 4 3 rfl rfl : (f nx).cell? ⟨w.heap.size + 1, 3, none⟩ = some (.int .u64 ((⟨0, 0, 0, 0⟩ : Nm)).d))
  have ub_0 := fun nx => (Kn.get (s5.out.up (hf nx).out) 3 0 rfl rfl : (f nx).cell? ⟨w.heap.size + 1 + 1, 0, none⟩ = some (.int .u64 (b).a))
  have ub_1 := fun nx => (Kn.get (s5.out.up (hf nx).out) 3 1 rfl rfl : (f nx).cell? ⟨w.heap.size + 1 + 1, 1, none⟩ = some (.int .u64 (b).b))
  have ub_2 := fun nx => (Kn.get (s5.out.up (hf nx).out) 3 2 rfl rfl : (f nx).cell? ⟨w.heap.size + 1 + 1, 2, none⟩ = some (.int .u64 (b).c))
  have ub_3 := fun nx => (Kn.get (s5.out.up (hf nx).out) 3 3 rfl rfl : (f nx).cell? ⟨w.heap.size + 1 + 1, 3, none⟩ = some (.int .u64 (b).d))
  have TB := fun nx => hT.out.up ((b5.out).trans ((hf nx).out.mono b5.out.size))
  try simp only [List.append_eq, List.cons_append, List.nil_append]
  repeat (go_big_quiet_step (first | (go_at_call 6; exact (G _ (TB _)).mono fun e w'' ⟨he, hb⟩ => ⟨he, hcl.out _ _ hb⟩)))
  refine wpQuiet_nil ?_
  intro nx
  have hb6 := (hf nx).out
  clear hf hcl uq_0 uq_1 uq_2 uq_3 uq_4 uq_5 uq_6 uq_7 ur_0 ur_1 ur_2 ur_3 us_0 us_1 us_2 us_3 um_0 um_1 um_2 um_3 ub_0 ub_1 ub_2 ub_3
  generalize f nx = w6 at hb6 ⊢
  have s6 : Hid (Kn w6 [(w4.heap.size, (c4 ((⟨0, 0, 0, 0⟩ : Nm)))), (w1.heap.size + 1, (c4 ((⟨0, 0, 0, 0⟩ : Nm)))), (w1.heap.size, (c8 ((⟨0, 0, 0, 0⟩ : Nm)) ((⟨0, 0, 0, 0⟩ : Nm)))), (w.heap.size + 1 + 1, (c4 (b))), (w.heap.size + 1, (c4 ((⟨0, 0, 0, 0⟩ : Nm)))), (w.heap.size, (c8 (l) (h)))]) := s5.out.up hb6
  have b6 : Hid (Below w.heap.size w w6) := b5.out.trans (hb6.mono b5.out.size)
  have z6 := b6.out.size
  clear hb6 s5 b5
  go_wp2_with fail
  go_ret
  exact ⟨rfl, b6.out⟩
set_option maxRecDepth 20000 in
set_option maxHeartbeats 4000000 in
theorem quotTells_good (l h m b ql qh r g : Nm) (Q R G X : Nat) (nz : m ≠ ⟨0, 0, 0, 0⟩)
    (SD : ∀ w, Calls Tryd.prog 4 #[Wv l h, N m] w fun e w' => e = .returned (.tuple #[Wv ql qh, N r, .int .i64 0]) ∧ Below w.heap.size w w')
    (SM : ∀ w, Calls Tryd.prog 5 #[Wv l h, N m] w fun e w' => e = .returned (.tuple #[N r, .int .i64 0]) ∧ Below w.heap.size w w')
    (GC : ∀ w, Tab w → Calls Tryd.prog 6 #[N m, N b] w fun e w' => e = .returned (N g) ∧ Below w.heap.size w w')
    (OW : Hid (∀ w, Calls Tryd.prog 8 #[Wv l h] w fun e w' => (∃ v', e = .returned v' ∧ Sl w' v' (P.dg X)) ∧ Below w.heap.size w w'))
    (OM : Hid (∀ w, Calls Tryd.prog 9 #[N m] w fun e w' => (∃ v', e = .returned v' ∧ Sl w' v' (P.dg m.nat)) ∧ Below w.heap.size w w'))
    (OB : Hid (∀ w, Calls Tryd.prog 9 #[N b] w fun e w' => (∃ v', e = .returned v' ∧ Sl w' v' (P.dg b.nat)) ∧ Below w.heap.size w w'))
    (PA : Hid (∀ u v w, Sl w u (P.dg X) → Sl w v (P.dg m.nat) → Calls Tryd.prog 7 #[u, v] w fun e w' => (∃ v1 v2, e = .returned (.tuple #[v1, v2]) ∧ Sl w' v1 (P.dg Q) ∧ Sl w' v2 (P.dg R)) ∧ Below w.heap.size w w'))
    (TW : Hid (∀ u w, Sl w u (P.dg Q) → Calls Tryd.prog 10 #[u] w fun e w' => e = .returned (Wv ql qh) ∧ Below w.heap.size w w'))
    (TN : Hid (∀ u w, Sl w u (P.dg R) → Calls Tryd.prog 11 #[u] w fun e w' => e = .returned (N r) ∧ Below w.heap.size w w'))
    (CM : Hid (∀ u v w, Sl w u (P.dg m.nat) → Sl w v (P.dg b.nat) → Calls Tryd.prog 12 #[u, v] w fun e w' => (∃ v', e = .returned v' ∧ Sl w' v' (P.dg G)) ∧ Below w.heap.size w w'))
    (TG : Hid (∀ u w, Sl w u (P.dg G) → Calls Tryd.prog 11 #[u] w fun e w' => e = .returned (N g) ∧ Below w.heap.size w w'))
    (w : World) (hT : Hid (Tab w)) :
    Calls Tryd.prog 3 #[Wv l h, N m, N b] w fun e w' => e = .returned (.bool true) ∧ Below w.heap.size w w' := by
  have e1 := eqN m ⟨0, 0, 0, 0⟩
  rw [Nm.beq_ne nz] at e1
  have e2 := eqN r r
  have e3 := eqN g g
  rw [Nm.beq_self] at e2 e3
  have e4 := eqW ql qh ql qh
  rw [Nm.beq_self, Nm.beq_self] at e4
  go_enter Tryd.func3, Tryd.ntmps3
  have s0 : Hid (Kn (kal4 (kal4 (kal8 w (l) (h)) (m)) (b)) [(w.heap.size + 1 + 1, (c4 (b))), (w.heap.size + 1, (c4 (m))), (w.heap.size, (c8 (l) (h)))]) := ((((Kn.nil w).al (c8 (l) (h)) 24 rfl).al (c4 (m)) 26 (by simp)).al (c4 (b)) 26 (by simp))
  have b0 : Hid (Below w.heap.size w (kal4 (kal4 (kal8 w (l) (h)) (m)) (b))) := ((((Below.refl _ _).alloc (Nat.le_refl _) _).alloc (by simp <;> omega) _).alloc (by simp <;> omega) _)
  go_wp2_with fail
  refine (SD _).mono ?_
  rintro e w1 ⟨rfl, hb1⟩
  have s1 : Hid (Kn w1 [(w.heap.size + 1 + 1, (c4 (b))), (w.heap.size + 1, (c4 (m))), (w.heap.size, (c8 (l) (h)))]) := s0.out.up hb1
  have b1 : Hid (Below w.heap.size w w1) := b0.out.trans (hb1.mono b0.out.size)
  have z1 := b1.out.size
  clear hb1 s0 b0
  have s2 : Hid (Kn (kal8 w1 (ql) (qh)) [(w1.heap.size, (c8 (ql) (qh))), (w.heap.size + 1 + 1, (c4 (b))), (w.heap.size + 1, (c4 (m))), (w.heap.size, (c8 (l) (h)))]) := s1.out.al (c8 (ql) (qh)) 24 rfl
  have b2 : Hid (Below w.heap.size w (kal8 w1 (ql) (qh))) := b1.out.alloc b1.out.size _
  have z2 := b1.out.size
  clear s1 b1
  have s3 : Hid (Kn (kal4 (kal8 w1 (ql) (qh)) (r)) [(w1.heap.size + 1, (c4 (r))), (w1.heap.size, (c8 (ql) (qh))), (w.heap.size + 1 + 1, (c4 (b))), (w.heap.size + 1, (c4 (m))), (w.heap.size, (c8 (l) (h)))]) := s2.out.al (c4 (r)) 26 (by simp)
  have b3 : Hid (Below w.heap.size w (kal4 (kal8 w1 (ql) (qh)) (r))) := b2.out.alloc b2.out.size _
  have z3 := b2.out.size
  clear s2 b2
  have ua_0 : (kal4 (kal8 w1 (ql) (qh)) (r)).cell? ⟨w.heap.size, 0, none⟩ = some (.int .u64 (l).a) := Kn.get s3.out 4 0 rfl rfl
  have ua_1 : (kal4 (kal8 w1 (ql) (qh)) (r)).cell? ⟨w.heap.size, 1, none⟩ = some (.int .u64 (l).b) := Kn.get s3.out 4 1 rfl rfl
  have ua_2 : (kal4 (kal8 w1 (ql) (qh)) (r)).cell? ⟨w.heap.size, 2, none⟩ = some (.int .u64 (l).c) := Kn.get s3.out 4 2 rfl rfl
  have ua_3 : (kal4 (kal8 w1 (ql) (qh)) (r)).cell? ⟨w.heap.size, 3, none⟩ = some (.int .u64 (l).d) := Kn.get s3.out 4 3 rfl rfl
  have ua_4 : (kal4 (kal8 w1 (ql) (qh)) (r)).cell? ⟨w.heap.size, 4, none⟩ = some (.int .u64 (h).a) := Kn.get s3.out 4 4 rfl rfl
  have ua_5 : (kal4 (kal8 w1 (ql) (qh)) (r)).cell? ⟨w.heap.size, 5, none⟩ = some (.int .u64 (h).b) := Kn.get s3.out 4 5 rfl rfl
  have ua_6 : (kal4 (kal8 w1 (ql) (qh)) (r)).cell? ⟨w.heap.size, 6, none⟩ = some (.int .u64 (h).c) := Kn.get s3.out 4 6 rfl rfl
  have ua_7 : (kal4 (kal8 w1 (ql) (qh)) (r)).cell? ⟨w.heap.size, 7, none⟩ = some (.int .u64 (h).d) := Kn.get s3.out 4 7 rfl rfl
  have um_0 : (kal4 (kal8 w1 (ql) (qh)) (r)).cell? ⟨w.heap.size + 1, 0, none⟩ = some (.int .u64 (m).a) := Kn.get s3.out 3 0 rfl rfl
  have um_1 : (kal4 (kal8 w1 (ql) (qh)) (r)).cell? ⟨w.heap.size + 1, 1, none⟩ = some (.int .u64 (m).b) := Kn.get s3.out 3 1 rfl rfl
  have um_2 : (kal4 (kal8 w1 (ql) (qh)) (r)).cell? ⟨w.heap.size + 1, 2, none⟩ = some (.int .u64 (m).c) := Kn.get s3.out 3 2 rfl rfl
  have um_3 : (kal4 (kal8 w1 (ql) (qh)) (r)).cell? ⟨w.heap.size + 1, 3, none⟩ = some (.int .u64 (m).d) := Kn.get s3.out 3 3 rfl rfl
  go_wp2_with fail
  clear ua_0 ua_1 ua_2 ua_3 ua_4 ua_5 ua_6 ua_7 um_0 um_1 um_2 um_3
  refine (SM _).mono ?_
  rintro e w4 ⟨rfl, hb4⟩
  have s4 : Hid (Kn w4 [(w1.heap.size + 1, (c4 (r))), (w1.heap.size, (c8 (ql) (qh))), (w.heap.size + 1 + 1, (c4 (b))), (w.heap.size + 1, (c4 (m))), (w.heap.size, (c8 (l) (h)))]) := s3.out.up hb4
  have b4 : Hid (Below w.heap.size w w4) := b3.out.trans (hb4.mono b3.out.size)
  have z4 := b4.out.size
  clear hb4 s3 b3
  have s5 : Hid (Kn (kal4 w4 (r)) [(w4.heap.size, (c4 (r))), (w1.heap.size + 1, (c4 (r))), (w1.heap.size, (c8 (ql) (qh))), (w.heap.size + 1 + 1, (c4 (b))), (w.heap.size + 1, (c4 (m))), (w.heap.size, (c8 (l) (h)))]) := s4.out.al (c4 (r)) 26 rfl
  have b5 : Hid (Below w.heap.size w (kal4 w4 (r))) := b4.out.alloc b4.out.size _
  have z5 := b4.out.size
  clear s4 b4
  have um_0 : (kal4 w4 (r)).cell? ⟨w.heap.size + 1, 0, none⟩ = some (.int .u64 (m).a) := Kn.get s5.out 4 0 rfl rfl
  have um_1 : (kal4 w4 (r)).cell? ⟨w.heap.size + 1, 1, none⟩ = some (.int .u64 (m).b) := Kn.get s5.out 4 1 rfl rfl
  have um_2 : (kal4 w4 (r)).cell? ⟨w.heap.size + 1, 2, none⟩ = some (.int .u64 (m).c) := Kn.get s5.out 4 2 rfl rfl
  have um_3 : (kal4 w4 (r)).cell? ⟨w.heap.size + 1, 3, none⟩ = some (.int .u64 (m).d) := Kn.get s5.out 4 3 rfl rfl
  go_wp2_with fail
  clear um_0 um_1 um_2 um_3
  refine wp_region_monoE [MP.eq (Wv (l) (h)), MP.sl (P.dg X), MP.eq (N (m)), MP.sl (P.dg m.nat), MP.sl2 (P.dg Q) (P.dg R), MP.sl2 (P.dg Q) (P.dg R), MP.sl (P.dg Q), MP.sl (P.dg R), MP.sl (P.dg Q), MP.sl (P.dg R)] (by kernel_rfl) (by kernel_rfl) rfl ?_
  apply Exists.intro
  refine ⟨fun vals => ?_, ?_, fun vals6 w6 hb6 hF => ?_⟩
  · simp only [putsV, dstL, List.length_cons, List.length_nil, Nat.zero_add, Nat.reduceAdd, List.getElem?_cons_zero, List.getElem?_cons_succ, Option.bind_some, Act.put, List.setIfInBounds_toArray, List.set_cons_succ, List.set_cons_zero]
    rfl
  · refine ⟨?_, ?_, ?_, ?_, ?_, ?_, ?_, ?_, ?_, ?_, trivial⟩
    · intro vals W hW hd
      simp [Region.binds] at hd
      have u0 := Kn.get (s5.out.up hW.out) 5 0 rfl rfl
      have u1 := Kn.get (s5.out.up hW.out) 5 1 rfl rfl
      have u2 := Kn.get (s5.out.up hW.out) 5 2 rfl rfl
      have u3 := Kn.get (s5.out.up hW.out) 5 3 rfl rfl
      have u4 := Kn.get (s5.out.up hW.out) 5 4 rfl rfl
      have u5 := Kn.get (s5.out.up hW.out) 5 5 rfl rfl
      have u6 := Kn.get (s5.out.up hW.out) 5 6 rfl rfl
      have u7 := Kn.get (s5.out.up hW.out) 5 7 rfl rfl
      refine ⟨by first | rfl | simp [Region.wanted, yielded, hd], ?_⟩
      simp [go_sem, u0, u1, u2, u3, u4, u5, u6, u7]
      exact Below.refl _ _
    · intro vals W hW hd
      simp [Region.binds] at hd
      refine ⟨by first | rfl | simp [Region.wanted, yielded, hd], ?_⟩
      simp [go_sem, hd]
      exact (OW.out _).mono fun e w' ⟨⟨v', he, hs⟩, hb⟩ => ⟨v', he, hs, hb⟩
    · intro vals W hW hd
      simp [Region.binds] at hd
      have u0 := Kn.get (s5.out.up hW.out) 4 0 rfl rfl
      have u1 := Kn.get (s5.out.up hW.out) 4 1 rfl rfl
      have u2 := Kn.get (s5.out.up hW.out) 4 2 rfl rfl
      have u3 := Kn.get (s5.out.up hW.out) 4 3 rfl rfl
      refine ⟨by first | rfl | simp [Region.wanted, yielded, hd], ?_⟩
      simp [go_sem, u0, u1, u2, u3]
      exact Below.refl _ _
    · intro vals W hW hd
      simp [Region.binds] at hd
      refine ⟨by first | rfl | simp [Region.wanted, yielded, hd], ?_⟩
      simp [go_sem, hd]
      exact (OM.out _).mono fun e w' ⟨⟨v', he, hs⟩, hb⟩ => ⟨v', he, hs, hb⟩
    · intro vals W hW hd
      simp [Region.binds] at hd
      refine ⟨by first | rfl | simp [Region.wanted, yielded, hd], ?_⟩
      simp [go_sem]
      exact (PA.out _ _ _ (by simp [hd]) (by simp [hd])).mono fun e w' ⟨⟨v1, v2, he, h1, h2⟩, hb⟩ => ⟨_, he, ⟨v1, v2, rfl, h1, h2⟩, hb⟩
    · intro vals W hW hd
      simp [Region.binds] at hd
      refine ⟨by first | rfl | simp [Region.wanted, yielded, hd], ?_⟩
      simp [go_sem]
      exact ⟨by simp [hd], Below.refl _ _⟩
    · intro vals W hW hd
      simp [Region.binds] at hd
      refine ⟨by first | rfl | simp [Region.wanted, yielded, hd], ?_⟩
      obtain ⟨x, y, e, h1, h2⟩ := hd
      simp [go_sem, e]
      exact ⟨h1, Below.refl _ _⟩
    · intro vals W hW hd
      simp [Region.binds] at hd
      refine ⟨by first | rfl | simp [Region.wanted, yielded, hd], ?_⟩
      obtain ⟨x, y, e, h1, h2⟩ := hd
      simp [go_sem, e]
      exact ⟨h2, Below.refl _ _⟩
    · intro vals W hW hd
      simp [Region.binds] at hd
      refine ⟨by first | rfl | simp [Region.wanted, yielded, hd], ?_⟩
      simp [go_sem]
      exact ⟨by simp [hd], Below.refl _ _⟩
    · intro vals W hW hd
      simp [Region.binds] at hd
      refine ⟨by first | rfl | simp [Region.wanted, yielded, hd], ?_⟩
      simp [go_sem]
      exact ⟨by simp [hd], Below.refl _ _⟩
  obtain ⟨f0, f1, f2, f3, f4, f5, f6, f7, f8, f9, _⟩ := hF
  have s6 : Hid (Kn w6 [(w4.heap.size, (c4 (r))), (w1.heap.size + 1, (c4 (r))), (w1.heap.size, (c8 (ql) (qh))), (w.heap.size + 1 + 1, (c4 (b))), (w.heap.size + 1, (c4 (m))), (w.heap.size, (c8 (l) (h)))]) := s5.out.up hb6.out
  have b6 : Hid (Below w.heap.size w w6) := b5.out.trans (hb6.out.mono b5.out.size)
  have z6 := b6.out.size
  clear hb6 s5 b5
  have Sx : Hid (Sl w6 (vals6 8) (P.dg Q)) := f8
  have Sy : Hid (Sl w6 (vals6 9) (P.dg R)) := f9
  clear f0 f1 f2 f3 f4 f5 f6 f7 f8 f9
  go_wp2_with fail
  refine wp_region_monoE [MP.eq (Wv (ql) (qh)), MP.sl (P.dg Q), MP.eq (Wv ql qh), MP.eq (.bool true), MP.eq (.bool true), MP.eq (N (r)), MP.sl (P.dg R), MP.eq (N r), MP.eq (.bool true), MP.eq (.bool true), MP.eq (.bool true), MP.eq (.int .i64 0), MP.eq (.bool true), MP.eq (.bool true), MP.eq (.bool true), MP.eq (N (r)), MP.eq (N (r)), MP.eq (.bool true), MP.eq (.bool true), MP.eq (.bool true), MP.eq (.int .i64 0), MP.eq (.bool true), MP.eq (.bool true), MP.eq (.bool true), MP.eq (N (m)), MP.eq (N (b)), MP.eq (N g), MP.eq (N (m)), MP.sl (P.dg m.nat), MP.eq (N (b)), MP.sl (P.dg b.nat), MP.sl (P.dg G), MP.eq (N g), MP.eq (.bool true), MP.eq (.bool true), MP.eq (.bool true)] (by kernel_rfl) (by kernel_rfl) rfl ?_
  apply Exists.intro
  refine ⟨fun vals => ?_, ?_, fun vals7 w7 hb7 hF => ?_⟩
  · simp only [putsV, dstL, List.length_cons, List.length_nil, Nat.zero_add, Nat.reduceAdd, List.getElem?_cons_zero, List.getElem?_cons_succ, Option.bind_some, Act.put, List.setIfInBounds_toArray, List.set_cons_succ, List.set_cons_zero]
    rfl
  · refine ⟨?_, ?_, ?_, ?_, ?_, ?_, ?_, ?_, ?_, ?_, ?_, ?_, ?_, ?_, ?_, ?_, ?_, ?_, ?_, ?_, ?_, ?_, ?_, ?_, ?_, ?_, ?_, ?_, ?_, ?_, ?_, ?_, ?_, ?_, ?_, ?_, trivial⟩
    · intro vals W hW hd
      simp [Region.binds] at hd
      have u0 := Kn.get (s6.out.up hW.out) 2 0 rfl rfl
      have u1 := Kn.get (s6.out.up hW.out) 2 1 rfl rfl
      have u2 := Kn.get (s6.out.up hW.out) 2 2 rfl rfl
      have u3 := Kn.get (s6.out.up hW.out) 2 3 rfl rfl
      have u4 := Kn.get (s6.out.up hW.out) 2 4 rfl rfl
      have u5 := Kn.get (s6.out.up hW.out) 2 5 rfl rfl
      have u6 := Kn.get (s6.out.up hW.out) 2 6 rfl rfl
      have u7 := Kn.get (s6.out.up hW.out) 2 7 rfl rfl
      refine ⟨by first | rfl | simp [Region.wanted, yielded, hd], ?_⟩
      simp [go_sem, u0, u1, u2, u3, u4, u5, u6, u7]
      exact Below.refl _ _
    · intro vals W hW hd
      simp [Region.binds] at hd
      refine ⟨by first | rfl | simp [Region.wanted, yielded, hd], ?_⟩
      simp [go_sem]
      exact ⟨Sl.up (xs := (P.dg Q)) Sx.out hW.out, Below.refl _ _⟩
    · intro vals W hW hd
      simp [Region.binds] at hd
      refine ⟨by first | rfl | simp [Region.wanted, yielded, hd], ?_⟩
      simp [go_sem]
      exact (TW.out _ _ (by simp [hd])).mono fun e w' ⟨he, hb⟩ => ⟨_, he, rfl, hb⟩
    · intro vals W hW hd
      simp [Region.binds] at hd
      refine ⟨by first | rfl | simp [Region.wanted, yielded, hd], ?_⟩
      simp [go_sem, hd, e4]
      exact Below.refl _ _
    · intro vals W hW hd
      simp [Region.binds] at hd
      refine ⟨by first | rfl | simp [Region.wanted, yielded, hd], ?_⟩
      simp [go_sem, hd]
      exact Below.refl _ _
    · intro vals W hW hd
      simp [Region.binds] at hd
      have u0 := Kn.get (s6.out.up hW.out) 1 0 rfl rfl
      have u1 := Kn.get (s6.out.up hW.out) 1 1 rfl rfl
      have u2 := Kn.get (s6.out.up hW.out) 1 2 rfl rfl
      have u3 := Kn.get (s6.out.up hW.out) 1 3 rfl rfl
      refine ⟨by first | rfl | simp [Region.wanted, yielded, hd], ?_⟩
      simp [go_sem, u0, u1, u2, u3]
      exact Below.refl _ _
    · intro vals W hW hd
      simp [Region.binds] at hd
      refine ⟨by first | rfl | simp [Region.wanted, yielded, hd], ?_⟩
      simp [go_sem]
      exact ⟨Sl.up (xs := (P.dg R)) Sy.out hW.out, Below.refl _ _⟩
    · intro vals W hW hd
      simp [Region.binds] at hd
      refine ⟨by first | rfl | simp [Region.wanted, yielded, hd], ?_⟩
      simp [go_sem]
      exact (TN.out _ _ (by simp [hd])).mono fun e w' ⟨he, hb⟩ => ⟨_, he, rfl, hb⟩
    · intro vals W hW hd
      simp [Region.binds] at hd
      refine ⟨by first | rfl | simp [Region.wanted, yielded, hd], ?_⟩
      simp [go_sem, hd, e2]
      exact Below.refl _ _
    · intro vals W hW hd
      simp [Region.binds] at hd
      refine ⟨by first | rfl | simp [Region.wanted, yielded, hd], ?_⟩
      simp [go_sem, hd]
      exact Below.refl _ _
    · intro vals W hW hd
      simp [Region.binds] at hd
      refine ⟨by first | rfl | simp [Region.wanted, yielded, hd], ?_⟩
      simp [go_sem, hd]
      exact Below.refl _ _
    · intro vals W hW hd
      simp [Region.binds] at hd
      refine ⟨by first | rfl | simp [Region.wanted, yielded, hd], ?_⟩
      simp [go_sem]
      exact Below.refl _ _
    · intro vals W hW hd
      simp [Region.binds] at hd
      refine ⟨by first | rfl | simp [Region.wanted, yielded, hd], ?_⟩
      simp [go_sem, hd]
      exact Below.refl _ _
    · intro vals W hW hd
      simp [Region.binds] at hd
      refine ⟨by first | rfl | simp [Region.wanted, yielded, hd], ?_⟩
      simp [go_sem, hd]
      exact Below.refl _ _
    · intro vals W hW hd
      simp [Region.binds] at hd
      refine ⟨by first | rfl | simp [Region.wanted, yielded, hd], ?_⟩
      simp [go_sem, hd]
      exact Below.refl _ _
    · intro vals W hW hd
      simp [Region.binds] at hd
      have u0 := Kn.get (s6.out.up hW.out) 0 0 rfl rfl
      have u1 := Kn.get (s6.out.up hW.out) 0 1 rfl rfl
      have u2 := Kn.get (s6.out.up hW.out) 0 2 rfl rfl
      have u3 := Kn.get (s6.out.up hW.out) 0 3 rfl rfl
      refine ⟨by first | rfl | simp [Region.wanted, yielded, hd], ?_⟩
      simp [go_sem, u0, u1, u2, u3]
      exact Below.refl _ _
    · intro vals W hW hd
      simp [Region.binds] at hd
      have u0 := Kn.get (s6.out.up hW.out) 1 0 rfl rfl
      have u1 := Kn.get (s6.out.up hW.out) 1 1 rfl rfl
      have u2 := Kn.get (s6.out.up hW.out) 1 2 rfl rfl
      have u3 := Kn.get (s6.out.up hW.out) 1 3 rfl rfl
      refine ⟨by first | rfl | simp [Region.wanted, yielded, hd], ?_⟩
      simp [go_sem, u0, u1, u2, u3]
      exact Below.refl _ _
    · intro vals W hW hd
      simp [Region.binds] at hd
      refine ⟨by first | rfl | simp [Region.wanted, yielded, hd], ?_⟩
      simp [go_sem, hd, e2]
      exact Below.refl _ _
    · intro vals W hW hd
      simp [Region.binds] at hd
      refine ⟨by first | rfl | simp [Region.wanted, yielded, hd], ?_⟩
      simp [go_sem, hd]
      exact Below.refl _ _
    · intro vals W hW hd
      simp [Region.binds] at hd
      refine ⟨by first | rfl | simp [Region.wanted, yielded, hd], ?_⟩
      simp [go_sem, hd]
      exact Below.refl _ _
    · intro vals W hW hd
      simp [Region.binds] at hd
      refine ⟨by first | rfl | simp [Region.wanted, yielded, hd], ?_⟩
      simp [go_sem]
      exact Below.refl _ _
    · intro vals W hW hd
      simp [Region.binds] at hd
      refine ⟨by first | rfl | simp [Region.wanted, yielded, hd], ?_⟩
      simp [go_sem, hd]
      exact Below.refl _ _
    · intro vals W hW hd
      simp [Region.binds] at hd
      refine ⟨by first | rfl | simp [Region.wanted, yielded, hd], ?_⟩
      simp [go_sem, hd]
      exact Below.refl _ _
    · intro vals W hW hd
      simp [Region.binds] at hd
      refine ⟨by first | rfl | simp [Region.wanted, yielded, hd], ?_⟩
      simp [go_sem, hd]
      exact Below.refl _ _
    · intro vals W hW hd
      simp [Region.binds] at hd
      have u0 := Kn.get (s6.out.up hW.out) 4 0 rfl rfl
      have u1 := Kn.get (s6.out.up hW.out) 4 1 rfl rfl
      have u2 := Kn.get (s6.out.up hW.out) 4 2 rfl rfl
      have u3 := Kn.get (s6.out.up hW.out) 4 3 rfl rfl
      refine ⟨by first | rfl | simp [Region.wanted, yielded, hd], ?_⟩
      simp [go_sem, u0, u1, u2, u3]
      exact Below.refl _ _
    · intro vals W hW hd
      simp [Region.binds] at hd
      have u0 := Kn.get (s6.out.up hW.out) 3 0 rfl rfl
      have u1 := Kn.get (s6.out.up hW.out) 3 1 rfl rfl
      have u2 := Kn.get (s6.out.up hW.out) 3 2 rfl rfl
      have u3 := Kn.get (s6.out.up hW.out) 3 3 rfl rfl
      refine ⟨by first | rfl | simp [Region.wanted, yielded, hd], ?_⟩
      simp [go_sem, u0, u1, u2, u3]
      exact Below.refl _ _
    · intro vals W hW hd
      simp [Region.binds] at hd
      refine ⟨by first | rfl | simp [Region.wanted, yielded, hd], ?_⟩
      simp [go_sem, hd]
      exact (GC _ (hT.out.up (b6.out.trans (hW.out.mono b6.out.size)))).mono fun e w' ⟨he, hb⟩ => ⟨_, he, rfl, hb⟩
    · intro vals W hW hd
      simp [Region.binds] at hd
      have u0 := Kn.get (s6.out.up hW.out) 4 0 rfl rfl
      have u1 := Kn.get (s6.out.up hW.out) 4 1 rfl rfl
      have u2 := Kn.get (s6.out.up hW.out) 4 2 rfl rfl
      have u3 := Kn.get (s6.out.up hW.out) 4 3 rfl rfl
      refine ⟨by first | rfl | simp [Region.wanted, yielded, hd], ?_⟩
      simp [go_sem, u0, u1, u2, u3]
      exact Below.refl _ _
    · intro vals W hW hd
      simp [Region.binds] at hd
      refine ⟨by first | rfl | simp [Region.wanted, yielded, hd], ?_⟩
      simp [go_sem, hd]
      exact (OM.out _).mono fun e w' ⟨⟨v', he, hs⟩, hb⟩ => ⟨v', he, hs, hb⟩
    · intro vals W hW hd
      simp [Region.binds] at hd
      have u0 := Kn.get (s6.out.up hW.out) 3 0 rfl rfl
      have u1 := Kn.get (s6.out.up hW.out) 3 1 rfl rfl
      have u2 := Kn.get (s6.out.up hW.out) 3 2 rfl rfl
      have u3 := Kn.get (s6.out.up hW.out) 3 3 rfl rfl
      refine ⟨by first | rfl | simp [Region.wanted, yielded, hd], ?_⟩
      simp [go_sem, u0, u1, u2, u3]
      exact Below.refl _ _
    · intro vals W hW hd
      simp [Region.binds] at hd
      refine ⟨by first | rfl | simp [Region.wanted, yielded, hd], ?_⟩
      simp [go_sem, hd]
      exact (OB.out _).mono fun e w' ⟨⟨v', he, hs⟩, hb⟩ => ⟨v', he, hs, hb⟩
    · intro vals W hW hd
      simp [Region.binds] at hd
      refine ⟨by first | rfl | simp [Region.wanted, yielded, hd], ?_⟩
      simp [go_sem]
      exact (CM.out _ _ _ (by simp [hd]) (by simp [hd])).mono fun e w' ⟨⟨v', he, hs⟩, hb⟩ => ⟨v', he, hs, hb⟩
    · intro vals W hW hd
      simp [Region.binds] at hd
      refine ⟨by first | rfl | simp [Region.wanted, yielded, hd], ?_⟩
      simp [go_sem]
      exact (TG.out _ _ (by simp [hd])).mono fun e w' ⟨he, hb⟩ => ⟨_, he, rfl, hb⟩
    · intro vals W hW hd
      simp [Region.binds] at hd
      refine ⟨by first | rfl | simp [Region.wanted, yielded, hd], ?_⟩
      simp [go_sem, hd, e3]
      exact Below.refl _ _
    · intro vals W hW hd
      simp [Region.binds] at hd
      refine ⟨by first | rfl | simp [Region.wanted, yielded, hd], ?_⟩
      simp [go_sem, hd]
      exact Below.refl _ _
    · intro vals W hW hd
      simp [Region.binds] at hd
      refine ⟨by first | rfl | simp [Region.wanted, yielded, hd], ?_⟩
      simp [go_sem, hd]
      exact Below.refl _ _
  obtain ⟨f0, f1, f2, f3, f4, f5, f6, f7, f8, f9, f10, f11, f12, f13, f14, f15, f16, f17, f18, f19, f20, f21, f22, f23, f24, f25, f26, f27, f28, f29, f30, f31, f32, f33, f34, f35, _⟩ := hF
  have s7 : Hid (Kn w7 [(w4.heap.size, (c4 (r))), (w1.heap.size + 1, (c4 (r))), (w1.heap.size, (c8 (ql) (qh))), (w.heap.size + 1 + 1, (c4 (b))), (w.heap.size + 1, (c4 (m))), (w.heap.size, (c8 (l) (h)))]) := s6.out.up hb7.out
  have b7 : Hid (Below w.heap.size w w7) := b6.out.trans (hb7.out.mono b6.out.size)
  have z7 := b7.out.size
  replace Sx : Hid (Sl w7 (vals6 8) (P.dg Q)) := Sl.up (xs := (P.dg Q)) Sx.out hb7.out
  replace Sy : Hid (Sl w7 (vals6 9) (P.dg R)) := Sl.up (xs := (P.dg R)) Sy.out hb7.out
  clear hb7 s6 b6
  have e35 := f35
  simp only [MP.eq_p] at e35
  clear f0 f1 f2 f3 f4 f5 f6 f7 f8 f9 f10 f11 f12 f13 f14 f15 f16 f17 f18 f19 f20 f21 f22 f23 f24 f25 f26 f27 f28 f29 f30 f31 f32 f33 f34 f35
  go_wp2_with fail
  go_ret
  exact ⟨by rw [e35]; rfl, b7.out⟩
theorem lt16 {n : Nat} (h : n < 2 ^ 256) : (P.dg n).length ≤ 16 := P.dg_len 16 (Nat.lt_of_lt_of_le h (by decide))
theorem lt32 {n : Nat} (h : n < 2 ^ 512) : (P.dg n).length ≤ 32 := P.dg_len 32 (by rw [show (65536 : Nat) ^ 32 = 2 ^ 256 * 2 ^ 256 by decide, ← pow512']; exact h)
theorem quotTells_law (l h m b : Nm) (ol : l.ok) (oh : h.ok) (om : m.ok) (ob : b.ok) (w : World) (hT : Tab w) :
    Calls Tryd.prog 3 #[Wv l h, N m, N b] w fun e w' => e = .returned (.bool true) ∧ Below w.heap.size w w' := by
  by_cases nz : m = ⟨0, 0, 0, 0⟩
  · subst nz
    refine quotTells_zero l h b (fun w hT => ?_) w hT
    have := gcd_fun ⟨0, 0, 0, 0⟩ b zero_ok ob w hT
    rwa [show (⟨0, 0, 0, 0⟩ : Nm).nat = 0 from rfl, Nat.gcd_zero_left, ← Nm.eq_of_nat ob] at this
  have mp : 0 < m.nat := Nat.pos_of_ne_zero fun e => nz (Nm.ext_nat om zero_ok (by rw [e]; rfl))
  have lX := V_lt ol oh
  have lQ : V l h / m.nat < 2 ^ 512 := Nat.lt_of_le_of_lt (Nat.div_le_self _ _) lX
  have lR : V l h % m.nat < 2 ^ 256 := Nat.lt_trans (Nat.mod_lt _ mp) (Nm.nat_lt om)
  have lG : Nat.gcd m.nat b.nat < 2 ^ 256 := Nat.lt_of_le_of_lt (Nat.gcd_le_left _ mp) (Nm.nat_lt om)
  refine quotTells_good l h m b _ _ _ _ (V l h / m.nat) (V l h % m.nat) (Nat.gcd m.nat b.nat) (V l h) nz (divmod_fun l h m ol oh om nz) (mod_fun l h m ol oh om nz) (fun w hT => gcd_fun m b om ob w hT)
    (fun w => ofWide_fun l h ol oh w) (fun w => ofNum_fun m om w) (fun w => ofNum_fun b ob w) (fun u v w h1 h2 => ?_) (fun u w h1 => ?_) (fun u w h1 => ?_) (fun u v w h1 h2 => ?_) (fun u w h1 => ?_) w hT
  · have := dparts_fun u v _ _ (P.dg_Dg (V l h)) (P.dg_Dg m.nat) (by rw [P.dv_dg]; exact mp) (by have := lt32 lX; omega) (by have := lt16 (Nm.nat_lt om); omega) w h1 h2
    rwa [P.dv_dg, P.dv_dg] at this
  · have := toWide_fun u _ (P.dg_Dg (V l h / m.nat)) (by have := lt32 lQ; omega) (by rw [P.dv_dg]; exact lQ) w h1
    rwa [P.dv_dg] at this
  · have := toNum_fun u _ (P.dg_Dg (V l h % m.nat)) (by have := lt16 lR; omega) w h1
    rwa [P.dv_dg, Nat.mod_eq_of_lt lR] at this
  · exact dcommon_fun u v m.nat b.nat 16 (by decide) (Nat.lt_of_lt_of_le (Nm.nat_lt om) (by decide)) (Nat.lt_of_lt_of_le (Nm.nat_lt ob) (by decide)) w h1 h2
  · have := toNum_fun u _ (P.dg_Dg (Nat.gcd m.nat b.nat)) (by have := lt16 lG; omega) w h1
    rwa [P.dv_dg, Nat.mod_eq_of_lt lG] at this

set_option maxRecDepth 100000 in
theorem quotTells_lifted (os : Os) (started : os.Started) (H : Type) (enc : TypeId × Value → H) :
    ReturnsInHanded {} Tryd.checked os 3 .any (fun w args => (Rows.quotTellsSpec.pre enc Tryd.prog Tryd.f3 [] false w args ∧ laidMetH Tryd.prog Rows.quotTellsRow.laid w) ∧ sizedMet enc Tryd.prog Tryd.f3 (OpenSpec.ofChange Rows.quotTellsSpec) false w args) (Rows.quotTellsSpec.post enc Tryd.prog Tryd.f3 false true false false) := by
  refine returnsInHanded_of_change_and (C := Tryd.checked) (X := fun w _ => laidMetH Tryd.prog Rows.quotTellsRow.laid w) (fun _ _ _ hh h => h.of_heap hh) Tryd.own started (by kernel_rfl) Tryd.func3
    (ChangeSpec.witness_shaped (enc := enc) (C := Tryd.checked) (os := os) (X := fun w _ => laidMetH Tryd.prog Rows.quotTellsRow.laid w) false (World.doorLaid Tryd.prog 14 os) #[.agg #[.int .u64 0, .int .u64 0, .int .u64 0, .int .u64 0, .int .u64 0, .int .u64 0, .int .u64 0, .int .u64 0], .agg #[.int .u64 0, .int .u64 0, .int .u64 0, .int .u64 0], .agg #[.int .u64 0, .int .u64 0, .int .u64 0, .int .u64 0]] 8 rfl (World.shaped_of_RefB (by kernel_rfl) (by kernel_rfl)) (by kernel_rfl) (by kernel_rfl) (by kernel_rfl) (door_met os _)) ?_
  intro W base args ds gs before hval0 hW _ _ hL _
  have hval : ∀ (j : Nat) t v, Tryd.f3.params[j]? = some t → args[j]? = some v → Value.okWide Tryd.prog W .any base t v := hval0
  have hW' := hW
  obtain ⟨p, q, hA0, hV, rfl, hfz, hnd⟩ := hW
  have hA : DataW.TrodAll enc Tryd.prog W 0 (fun _ => true) true Tryd.f3.params.toList args.toList ds p := hA0
  rw [Tryd.params3] at hA hval
  obtain ⟨v0, v1, v2, d0, d1, d2, p0, p1, p2, rfl, rfl, rfl, h0, h1, h2⟩ := trodAll_three hA
  obtain ⟨rfl, rfl⟩ := trodVars_none hV
  obtain ⟨xs0, l0, rfl, rfl, rfl, w0⟩ := open_arr Tryd.underlying24 Tryd.underlying22 Tryd.cellsU64 Tryd.cellsWide (hval 0 24 v0 rfl rfl) h0
  obtain ⟨xs1, l1, rfl, rfl, rfl, w1⟩ := open_arr Tryd.underlying26 Tryd.underlying22 Tryd.cellsU64 Tryd.cellsNum (hval 1 26 v1 rfl rfl) h1
  obtain ⟨xs2, l2, rfl, rfl, rfl, w2⟩ := open_arr Tryd.underlying26 Tryd.underlying22 Tryd.cellsU64 Tryd.cellsNum (hval 2 26 v2 rfl rfl) h2
  clear hA0 hval0 hval hA h0 h1 h2
  obtain ⟨a0, b0, c0, d0, e0, f0, g0, i0, rfl⟩ := list8 xs0 l0
  have ok0 : (⟨a0, b0, c0, d0⟩ : Nm).ok := ⟨word_of_wf (w0 _ (by simp)), word_of_wf (w0 _ (by simp)), word_of_wf (w0 _ (by simp)), word_of_wf (w0 _ (by simp))⟩
  have okk0 : (⟨e0, f0, g0, i0⟩ : Nm).ok := ⟨word_of_wf (w0 _ (by simp)), word_of_wf (w0 _ (by simp)), word_of_wf (w0 _ (by simp)), word_of_wf (w0 _ (by simp))⟩
  obtain ⟨a1, b1, c1, d1, rfl⟩ := list4 xs1 l1
  have ok1 : (⟨a1, b1, c1, d1⟩ : Nm).ok := ⟨word_of_wf (w1 _ (by simp)), word_of_wf (w1 _ (by simp)), word_of_wf (w1 _ (by simp)), word_of_wf (w1 _ (by simp))⟩
  obtain ⟨a2, b2, c2, d2, rfl⟩ := list4 xs2 l2
  have ok2 : (⟨a2, b2, c2, d2⟩ : Nm).ok := ⟨word_of_wf (w2 _ (by simp)), word_of_wf (w2 _ (by simp)), word_of_wf (w2 _ (by simp)), word_of_wf (w2 _ (by simp))⟩
  simp only [List.append_nil] at hW'
  refine (quotTells_law ⟨a0, b0, c0, d0⟩ ⟨e0, f0, g0, i0⟩ ⟨a1, b1, c1, d1⟩ ⟨a2, b2, c2, d2⟩ ok0 okk0 ok1 ok2 W (tab_of_laid hL)).mono fun e W' ⟨he, hg⟩ => ?_
  subst he
  exact ⟨_, rfl, _, _, _, [], [], [], hW', trodAll_mk1 (shut_bool Tryd.underlying4 _), trodAll_mk3 (shut_arr Tryd.underlying24 Tryd.underlying22 Tryd.cellsU64 Tryd.cellsWide l0 w0) (shut_arr Tryd.underlying26 Tryd.underlying22 Tryd.cellsU64 Tryd.cellsNum l1 w1) (shut_arr Tryd.underlying26 Tryd.underlying22 Tryd.cellsU64 Tryd.cellsNum l2 w2), rfl, hg.frame _, fun h => by cases h⟩

theorem quotTells_holds : Rows.QuotTellsSaid :=
  OpenClaim.holds_of_wide 3 Tryd.f3 rfl rfl rfl rfl rfl rfl rfl ⟨rfl, rfl, rfl, rfl, rfl⟩ rfl rfl rfl rfl rfl (by kernel_rfl) Tryd.func3 (by kernel_rfl)
    (of_decide_eq_true (by kernel_rfl)) (by unfold Func.isWrapper; first | (rw [if_pos (by decide +kernel)]; kernel_rfl) | (rw [if_neg (by decide +kernel)]; exact ⟨rfl, rfl⟩))
    (fun os started H enc _ => quotTells_lifted os started H enc)

theorem quotTells_card : Rows.QuotTellsCardSaid :=
  Claim7.holds_tied_plain_at .later [] [.data] true Rows.quotTellsCard.stood.harness false
    quotTells_holds (fun _ h => by cases h) (by kernel_rfl) (fun _ h => by cases h) quotTells_row_tie rfl ⟨rfl, rfl⟩ (by kernel_rfl) rfl
    (fun f fn hf hfn => by
      obtain rfl : f = 3 := Option.some.inj ((show Tryd.prog.funcNamed "sealring/sealringlaw.QuotTells" = some 3 by kernel_rfl).symm.trans hf) |>.symm
      obtain rfl : fn = Tryd.f3 := (Option.some.inj (Tryd.func3.symm.trans hfn)).symm
      exact ⟨by kernel_rfl, fun j t ht => by
        rw [Tryd.params3] at ht
        have hm : t ∈ [24, 26, 26] := by simpa using Array.mem_of_getElem? ht
        have hall : ([24, 26, 26].all fun u => !Tryd.prog.wantsStandIn u) = true := by kernel_rfl
        exact (show Tryd.prog.wantsStandIn t = false by simpa using List.all_eq_true.1 hall t hm)⟩)
    (by kernel_rfl)
#print axioms quotTells_card
end Go.Proofs.YtgdekdmdidahdaaDoor
