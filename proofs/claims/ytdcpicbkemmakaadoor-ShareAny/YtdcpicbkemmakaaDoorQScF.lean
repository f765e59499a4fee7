/- Package scalar, as it landed: L, less, Low, Reduce, Add, Neg, Mul. -/
import Derived.Test.YtdcpicbkemmakaaDoorQPrimeToAdN
import Derived.Test.YtdcpicbkemmakaaDoorQKnToDNum
import Derived.Test.YtdcpicbkemmakaaDoorQAl
import Derived.Test.YtdcpicbkemmakaaDoorQUpAToUp3
import Derived.Test.YtdcpicbkemmakaaDoorQPick
import Derived.Test.YtdcpicbkemmakaaDoorQHalf
namespace Go.Proofs.YtdcpicbkemmakaaDoor
open Go.RowKit
attribute [local go_sem] World.cell?_alloc_some cell_alloc2 cell_alloc3 cell_alloc4 frozen?_alloc_cells frozen_out
set_option linter.unusedSimpArgs false
abbrev lN : Nm := ⟨6346243789798364141, 1503914060200516822, 0, 1152921504606846976⟩
abbrev lackN : Nm := ⟨6346243789798364141, 1503914060200516822, 0, 0⟩
abbrev wlN : Nm := ⟨9306180268226068176, 5615880889498717541, 1, 0⟩
theorem lN_nm : lN = nm Cv.ord := by unfold nm Nm.of; congr 1
set_option maxHeartbeats 1000000 in
theorem sL_walk (w : World) : Calls Tryd.prog 14 #[] w fun e w' => e = .returned (N lN) ∧ Below w.heap.size w w' := by
  go_enter Tryd.func14, Tryd.ntmps14
  have s0 : Hid (Kn (kal4 w (lN)) [(w.heap.size, (c4 (lN)))]) := ((Kn.nil w).al (c4 (lN)) 24 rfl)
  have b0 : Hid (Below w.heap.size w (kal4 w (lN))) := ((Below.refl _ _).alloc (Nat.le_refl _) _)
  go_wp2_with fail
  have urr_0 : (kal4 w (lN)).cell? ⟨w.heap.size, 0, none⟩ = some (.int .u64 (lN).a) := Kn.get s0.out 0 0 rfl rfl
  have urr_1 : (kal4 w (lN)).cell? ⟨w.heap.size, 1, none⟩ = some (.int .u64 (lN).b) := Kn.get s0.out 0 1 rfl rfl
  have urr_2 : (kal4 w (lN)).cell? ⟨w.heap.size, 2, none⟩ = some (.int .u64 (lN).c) := Kn.get s0.out 0 2 rfl rfl
  have urr_3 : (kal4 w (lN)).cell? ⟨w.heap.size, 3, none⟩ = some (.int .u64 (lN).d) := Kn.get s0.out 0 3 rfl rfl
  refine bodyPost_ret (v := N lN) ?_ rfl ⟨rfl, b0.out⟩
  show (results Tryd.f14 _).run Tryd.prog (kal4 w (lN)) = .ok _ (kal4 w (lN))
  clear s0 b0
  generalize (kal4 w (lN)) = W9 at *
  simp [results, Tryd.results14, go_sem, urr_0, urr_1, urr_2, urr_3]
theorem sLC : SLC := fun w => by rw [← lN_nm]; exact sL_walk w
set_option maxHeartbeats 1000000 in
theorem slack_walk (w : World) : Calls Tryd.prog 61 #[] w fun e w' => e = .returned (N lackN) ∧ Below w.heap.size w w' := by
  go_enter Tryd.func61, Tryd.ntmps61
  have s0 : Hid (Kn (kal4 w (lackN)) [(w.heap.size, (c4 (lackN)))]) := ((Kn.nil w).al (c4 (lackN)) 24 rfl)
  have b0 : Hid (Below w.heap.size w (kal4 w (lackN))) := ((Below.refl _ _).alloc (Nat.le_refl _) _)
  go_wp2_with fail
  have urr_0 : (kal4 w (lackN)).cell? ⟨w.heap.size, 0, none⟩ = some (.int .u64 (lackN).a) := Kn.get s0.out 0 0 rfl rfl
  have urr_1 : (kal4 w (lackN)).cell? ⟨w.heap.size, 1, none⟩ = some (.int .u64 (lackN).b) := Kn.get s0.out 0 1 rfl rfl
  have urr_2 : (kal4 w (lackN)).cell? ⟨w.heap.size, 2, none⟩ = some (.int .u64 (lackN).c) := Kn.get s0.out 0 2 rfl rfl
  have urr_3 : (kal4 w (lackN)).cell? ⟨w.heap.size, 3, none⟩ = some (.int .u64 (lackN).d) := Kn.get s0.out 0 3 rfl rfl
  refine bodyPost_ret (v := N lackN) ?_ rfl ⟨rfl, b0.out⟩
  show (results Tryd.f61 _).run Tryd.prog (kal4 w (lackN)) = .ok _ (kal4 w (lackN))
  clear s0 b0
  generalize (kal4 w (lackN)) = W9 at *
  simp [results, Tryd.results61, go_sem, urr_0, urr_1, urr_2, urr_3]
set_option maxHeartbeats 1000000 in
theorem swl_walk (w : World) : Calls Tryd.prog 64 #[] w fun e w' => e = .returned (N wlN) ∧ Below w.heap.size w w' := by
  go_enter Tryd.func64, Tryd.ntmps64
  have s0 : Hid (Kn (kal4 w (wlN)) [(w.heap.size, (c4 (wlN)))]) := ((Kn.nil w).al (c4 (wlN)) 24 rfl)
  have b0 : Hid (Below w.heap.size w (kal4 w (wlN))) := ((Below.refl _ _).alloc (Nat.le_refl _) _)
  go_wp2_with fail
  have urr_0 : (kal4 w (wlN)).cell? ⟨w.heap.size, 0, none⟩ = some (.int .u64 (wlN).a) := Kn.get s0.out 0 0 rfl rfl
  have urr_1 : (kal4 w (wlN)).cell? ⟨w.heap.size, 1, none⟩ = some (.int .u64 (wlN).b) := Kn.get s0.out 0 1 rfl rfl
  have urr_2 : (kal4 w (wlN)).cell? ⟨w.heap.size, 2, none⟩ = some (.int .u64 (wlN).c) := Kn.get s0.out 0 2 rfl rfl
  have urr_3 : (kal4 w (wlN)).cell? ⟨w.heap.size, 3, none⟩ = some (.int .u64 (wlN).d) := Kn.get s0.out 0 3 rfl rfl
  refine bodyPost_ret (v := N wlN) ?_ rfl ⟨rfl, b0.out⟩
  show (results Tryd.f64 _).run Tryd.prog (kal4 w (wlN)) = .ok _ (kal4 w (wlN))
  clear s0 b0
  generalize (kal4 w (wlN)) = W9 at *
  simp [results, Tryd.results64, go_sem, urr_0, urr_1, urr_2, urr_3]
set_option maxHeartbeats 1000000 in
theorem sless_walk (x y d m p : Nm) (u c : Int)
    (SS : ∀ w, Calls Tryd.prog 44 #[N x, N y] w fun e w' => e = .returned (.tuple #[N d, .int .u64 u]) ∧ Below w.heap.size w w')
    (SA : ∀ w, Calls Tryd.prog 39 #[N d, N lN] w fun e w' => e = .returned (.tuple #[N m, .int .u64 c]) ∧ Below w.heap.size w w')
    (SP : ∀ w, Calls Tryd.prog 62 #[.int .u64 u, N d, N m] w fun e w' => e = .returned (N p) ∧ Below w.heap.size w w')
    (w : World) :
    Calls Tryd.prog 41 #[N x, N y] w fun e w' => e = .returned (N p) ∧ Below w.heap.size w w' := by
  go_enter Tryd.func41, Tryd.ntmps41
  have s0 : Hid (Kn (kz4 (kal4 (kal4 w (x)) (y))) [(w.heap.size + 1 + 1, zz4), (w.heap.size + 1, (c4 (y))), (w.heap.size, (c4 (x)))]) := ((((Kn.nil w).al (c4 (x)) 24 rfl).al (c4 (y)) 24 (by simp)).al zz4 24 (by simp))
  have b0 : Hid (Below w.heap.size w (kz4 (kal4 (kal4 w (x)) (y)))) := ((((Below.refl _ _).alloc (Nat.le_refl _) _).alloc (by simp <;> omega) _).alloc (by simp <;> omega) _)
  go_wp2_with fail
  refine (SS _).mono ?_
  rintro e w1 ⟨rfl, hb1⟩
  have s1 : Hid (Kn w1 [(w.heap.size + 1 + 1, zz4), (w.heap.size + 1, (c4 (y))), (w.heap.size, (c4 (x)))]) := s0.out.up hb1
  have b1 : Hid (Below w.heap.size w w1) := b0.out.trans (hb1.mono b0.out.size)
  have z1 := b1.out.size
  clear hb1 s0 b0
  have s2 : Hid (Kn (kal4 w1 (d)) [(w1.heap.size, (c4 (d))), (w.heap.size + 1 + 1, zz4), (w.heap.size + 1, (c4 (y))), (w.heap.size, (c4 (x)))]) := s1.out.al (c4 (d)) 24 rfl
  have b2 : Hid (Below w.heap.size w (kal4 w1 (d))) := b1.out.alloc b1.out.size _
  have z2 := b1.out.size
  clear s1 b1
  go_wp2_with fail
  refine wp_region_alloc1 6 (.cells #[.int .u64 0, .int .u64 0, .int .u64 0, .int .u64 0] 24) (by kernel_rfl) (by kernel_rfl) (by kernel_rfl) (by kernel_rfl) (by decide) (fun _ _ d _ _ h => by cases d <;> exact h) rfl rfl (fun _ _ => by kernel_rfl) ?_
  apply Exists.intro
  refine ⟨fun U hU f hf hcl => ?_, fun k3 w3 hb3 hk3 hc3 => ?_⟩
  · skip
    have udiff_0 := fun nx => (Kn.get (s2.out.up (hf nx).out) 0 0 rfl rfl : (f nx).cell? ⟨w1.heap.size, 0, none⟩ = some (.int .u64 (d).a))
    have udiff_1 := fun nx => (Kn.get (s2.out.up (hf nx).out) 0 1 rfl rfl : (f nx).cell? ⟨w1.heap.size, 1, none⟩ = some (.int .u64 (d).b))
    have udiff_2 := fun nx => (Kn.get (s2.out.up (hf nx).out) 0 2 rfl rfl : (f nx).cell? ⟨w1.heap.size, 2, none⟩ = some (.int .u64 (d).c))
    have udiff_3 := fun nx => (Kn.get (s2.out.up (hf nx).out) 0 3 rfl rfl : (f nx).cell? ⟨w1.heap.size, 3, none⟩ = some (.int .u64 (d).d))
    clear hf
    simp only [List.take_succ_cons, List.take_zero]
    repeat (go_big_quiet_step (first | (go_at_call 14; exact (sL_walk _).mono fun e w'' ⟨he, hb⟩ => ⟨he, hcl.out _ _ hb⟩) | (go_at_call 39; exact (SA _).mono fun e w'' ⟨he, hb⟩ => ⟨he, hcl.out _ _ hb⟩)))
    exact wpQuiet_nil rfl
  simp only [List.drop_succ_cons, List.drop_zero]
  have z3 := b2.out.size
  have s3x : Hid (Kn w3 [(k3, zz4), (w1.heap.size, (c4 (d))), (w.heap.size + 1 + 1, zz4), (w.heap.size + 1, (c4 (y))), (w.heap.size, (c4 (x)))]) := s2.out.fresh hb3.out hk3 hc3.out
  have g3 : w.heap.size ≤ k3 := Nat.le_trans b2.out.size hk3
  have cz3_0 : w3.cell? ⟨k3, 0, none⟩ = some (.int .u64 0) := Kn.get s3x.out 0 0 rfl rfl
  have cz3_1 : w3.cell? ⟨k3, 1, none⟩ = some (.int .u64 0) := Kn.get s3x.out 0 1 rfl rfl
  have cz3_2 : w3.cell? ⟨k3, 2, none⟩ = some (.int .u64 0) := Kn.get s3x.out 0 2 rfl rfl
  have cz3_3 : w3.cell? ⟨k3, 3, none⟩ = some (.int .u64 0) := Kn.get s3x.out 0 3 rfl rfl
  have cz3 : ∀ j, w3.frozen? ⟨k3, j, none⟩ = false := Kn.fz s3x.out 0 rfl
  have s3 : Hid (Kn (st4 w3 k3 (m)) [(k3, (c4 (m))), (w1.heap.size, (c4 (d))), (w.heap.size + 1 + 1, zz4), (w.heap.size + 1, (c4 (y))), (w.heap.size, (c4 (x)))]) := s3x.out.st4 (m)
  have b3 : Hid (Below w.heap.size w (st4 w3 k3 (m))) := below_st4 (b2.out.trans (hb3.out.mono b2.out.size)) g3
  clear s3x s2 b2 hb3 hc3 hk3
  have udiff_0 : (st4 w3 k3 (m)).cell? ⟨w1.heap.size, 0, none⟩ = some (.int .u64 (d).a) := Kn.get s3.out 1 0 rfl rfl
  have udiff_1 : (st4 w3 k3 (m)).cell? ⟨w1.heap.size, 1, none⟩ = some (.int .u64 (d).b) := Kn.get s3.out 1 1 rfl rfl
  have udiff_2 : (st4 w3 k3 (m)).cell? ⟨w1.heap.size, 2, none⟩ = some (.int .u64 (d).c) := Kn.get s3.out 1 2 rfl rfl
  have udiff_3 : (st4 w3 k3 (m)).cell? ⟨w1.heap.size, 3, none⟩ = some (.int .u64 (d).d) := Kn.get s3.out 1 3 rfl rfl
  have umore_0 : (st4 w3 k3 (m)).cell? ⟨k3, 0, none⟩ = some (.int .u64 (m).a) := Kn.get s3.out 0 0 rfl rfl
  have umore_1 : (st4 w3 k3 (m)).cell? ⟨k3, 1, none⟩ = some (.int .u64 (m).b) := Kn.get s3.out 0 1 rfl rfl
  have umore_2 : (st4 w3 k3 (m)).cell? ⟨k3, 2, none⟩ = some (.int .u64 (m).c) := Kn.get s3.out 0 2 rfl rfl
  have umore_3 : (st4 w3 k3 (m)).cell? ⟨k3, 3, none⟩ = some (.int .u64 (m).d) := Kn.get s3.out 0 3 rfl rfl
  go_wp2_with fail
  clear cz3_0 cz3_1 cz3_2 cz3_3 cz3 udiff_0 udiff_1 udiff_2 udiff_3 umore_0 umore_1 umore_2 umore_3
  refine (SP _).mono ?_
  rintro e w4 ⟨rfl, hb4⟩
  have s4 : Hid (Kn w4 [(k3, (c4 (m))), (w1.heap.size, (c4 (d))), (w.heap.size + 1 + 1, zz4), (w.heap.size + 1, (c4 (y))), (w.heap.size, (c4 (x)))]) := s3.out.up hb4
  have b4 : Hid (Below w.heap.size w w4) := b3.out.trans (hb4.mono b3.out.size)
  have z4 := b4.out.size
  clear hb4 s3 b3
  have uro_0 : w4.cell? ⟨w.heap.size + 1 + 1, 0, none⟩ = some (.int .u64 0) := Kn.get s4.out 2 0 rfl rfl
  have uro_1 : w4.cell? ⟨w.heap.size + 1 + 1, 1, none⟩ = some (.int .u64 0) := Kn.get s4.out 2 1 rfl rfl
  have uro_2 : w4.cell? ⟨w.heap.size + 1 + 1, 2, none⟩ = some (.int .u64 0) := Kn.get s4.out 2 2 rfl rfl
  have uro_3 : w4.cell? ⟨w.heap.size + 1 + 1, 3, none⟩ = some (.int .u64 0) := Kn.get s4.out 2 3 rfl rfl
  have uro_z : ∀ j, w4.frozen? ⟨w.heap.size + 1 + 1, j, none⟩ = false := Kn.fz s4.out 2 rfl
  have s5 : Hid (Kn (st4 w4 (w.heap.size + 1 + 1) (p)) [(w.heap.size + 1 + 1, (c4 (p))), (k3, (c4 (m))), (w1.heap.size, (c4 (d))), (w.heap.size + 1, (c4 (y))), (w.heap.size, (c4 (x)))]) := Kn.st4 (L := [(k3, (c4 (m))), (w1.heap.size, (c4 (d))), (w.heap.size + 1, (c4 (y))), (w.heap.size, (c4 (x)))]) (s4.out.front 2 rfl) (p)
  have b5 : Hid (Below w.heap.size w (st4 w4 (w.heap.size + 1 + 1) (p))) := below_st4 b4.out (by omega)
  clear s4 b4
  go_wp2_with fail
  clear uro_0 uro_1 uro_2 uro_3 uro_z
  have urr_0 : (st4 w4 (w.heap.size + 1 + 1) (p)).cell? ⟨w.heap.size + 1 + 1, 0, none⟩ = some (.int .u64 (p).a) := Kn.get s5.out 0 0 rfl rfl
  have urr_1 : (st4 w4 (w.heap.size + 1 + 1) (p)).cell? ⟨w.heap.size + 1 + 1, 1, none⟩ = some (.int .u64 (p).b) := Kn.get s5.out 0 1 rfl rfl
  have urr_2 : (st4 w4 (w.heap.size + 1 + 1) (p)).cell? ⟨w.heap.size + 1 + 1, 2, none⟩ = some (.int .u64 (p).c) := Kn.get s5.out 0 2 rfl rfl
  have urr_3 : (st4 w4 (w.heap.size + 1 + 1) (p)).cell? ⟨w.heap.size + 1 + 1, 3, none⟩ = some (.int .u64 (p).d) := Kn.get s5.out 0 3 rfl rfl
  refine bodyPost_ret (v := N p) ?_ rfl ⟨rfl, b5.out⟩
  show (results Tryd.f41 _).run Tryd.prog (st4 w4 (w.heap.size + 1 + 1) (p)) = .ok _ (st4 w4 (w.heap.size + 1 + 1) (p))
  clear s5 b5
  generalize (st4 w4 (w.heap.size + 1 + 1) (p)) = W9 at *
  simp [results, Tryd.results41, go_sem, urr_0, urr_1, urr_2, urr_3]
theorem lN_nat : lN.nat = Cv.ord := by rw [lN_nm]; exact nm_nat ord_lt
theorem lN_ok : lN.ok := by rw [lN_nm]; exact nm_ok _
theorem sless_fun (x y : Nm) (ox : x.ok) (oy : y.ok) (h1 : x.nat < y.nat + Cv.ord) (h2 : y.nat ≤ x.nat + Cv.ord) (w : World) :
    Calls Tryd.prog 41 #[N x, N y] w fun e w' => e = .returned (N (nm ((x.nat + Cv.ord - y.nat) % Cv.ord))) ∧ Below w.heap.size w w' := by
  have lx := Nm.nat_lt ox; have ly := Nm.nat_lt oy; have lo := ord_lt
  have SS := sub_nat x y ox oy
  have SA := add_nat (nm ((x.nat + 2 ^ 256 - y.nat) % 2 ^ 256)) lN (nm_ok _) lN_ok
  rw [nm_nat (Nat.mod_lt _ (by decide)), lN_nat] at SA
  have SP := pick_fun (if x.nat < y.nat then 1 else 0) (nm ((x.nat + 2 ^ 256 - y.nat) % 2 ^ 256)) (nm (((x.nat + 2 ^ 256 - y.nat) % 2 ^ 256 + Cv.ord) % 2 ^ 256)) (by split <;> constructor <;> decide) (nm_ok _) (nm_ok _)
  have e : pick (if x.nat < y.nat then 1 else 0) (nm ((x.nat + 2 ^ 256 - y.nat) % 2 ^ 256)) (nm (((x.nat + 2 ^ 256 - y.nat) % 2 ^ 256 + Cv.ord) % 2 ^ 256)) = nm ((x.nat + Cv.ord - y.nat) % Cv.ord) := by
    unfold pick
    generalize x.nat = a at *
    generalize y.nat = b at *
    generalize hL : Cv.ord = L at *
    have p2 : (2 : Nat) ^ 256 = 115792089237316195423570985008687907853269984665640564039457584007913129639936 := by decide
    rw [p2] at *
    by_cases h0 : a < b
    · rw [if_pos h0, if_neg (by decide)]
      congr 1
      rw [Nat.mod_eq_of_lt (show a + L - b < L by omega)]
      omega
    · rw [if_neg h0, if_pos (by decide)]
      congr 1
      rw [show a + L - b = (a - b) + L by omega, Nat.add_mod_right, Nat.mod_eq_of_lt (show a - b < L by omega)]
      omega
  rw [e] at SP
  exact sless_walk x y _ _ _ _ _ SS SA SP w
/-- What is below 2^252. -/
abbrev loA (x : Nm) : Nm := ⟨x.a, x.b, x.c, bits .and .u64 x.d 1152921504606846975⟩
abbrev loB (x : Nm) : Nm := ⟨x.d / 1152921504606846976, 0, 0, 0⟩
set_option maxHeartbeats 1000000 in
theorem sLow_walk (x l h p : Nm)
    (M1 : ∀ w, Calls Tryd.prog 43 #[N (loB x), N lackN] w fun e w' => e = .returned (Wv l h) ∧ Below w.heap.size w w')
    (SL : ∀ w, Calls Tryd.prog 41 #[N (loA x), N l] w fun e w' => e = .returned (N p) ∧ Below w.heap.size w w')
    (w : World) :
    Calls Tryd.prog 40 #[N x] w fun e w' => e = .returned (N p) ∧ Below w.heap.size w w' := by
  go_enter Tryd.func40, Tryd.ntmps40
  have s0 : Hid (Kn (kz4 (kal4 w (loA x))) [(w.heap.size + 1, zz4), (w.heap.size, (c4 (loA x)))]) := (((Kn.nil w).al (c4 (loA x)) 24 rfl).al zz4 24 (by simp))
  have b0 : Hid (Below w.heap.size w (kz4 (kal4 w (loA x)))) := (((Below.refl _ _).alloc (Nat.le_refl _) _).alloc (by simp <;> omega) _)
  go_wp2_with fail
  refine wp_region_up_then 7 (by kernel_rfl) (by kernel_rfl) (by kernel_rfl) (by kernel_rfl) (by decide) (fun _ _ d _ _ h => by cases d <;> exact h) (fun U hU f hf hcl => ?_)
  have ua_0 := fun nx => (Kn.get (s0.out.up (hf nx).out) 1 0 rfl rfl : (f nx).cell? ⟨w.heap.size, 0, none⟩ = some (.int .u64 (loA x).a))
  have ua_1 := fun nx => (Kn.get (s0.out.up (hf nx).out) 1 1 rfl rfl : (f nx).cell? ⟨w.heap.size, 1, none⟩ = some (.int .u64 (loA x).b))
  have ua_2 := fun nx => (Kn.get (s0.out.up (hf nx).out) 1 2 rfl rfl : (f nx).cell? ⟨w.heap.size, 2, none⟩ = some (.int .u64 (loA x).c))
  have ua_3 := fun nx => (Kn.get (s0.out.up (hf nx).out) 1 3 rfl rfl : (f nx).cell? ⟨w.heap.size, 3, none⟩ = some (.int .u64 (loA x).d))
  simp only [List.take_succ_cons, List.take_zero, List.drop_succ_cons, List.drop_zero]
  repeat (go_big_quiet_step (first | (go_at_call 61; exact (slack_walk _).mono fun e w'' ⟨he, hb⟩ => ⟨he, hcl.out _ _ hb⟩) | (go_at_call 43; exact (M1 _).mono fun e w'' ⟨he, hb⟩ => ⟨he, hcl.out _ _ hb⟩) | (go_at_call 60; exact (low_fun l h _).mono fun e w'' ⟨he, hb⟩ => ⟨he, hcl.out _ _ hb⟩) | (go_at_call 41; exact (SL _).mono fun e w'' ⟨he, hb⟩ => ⟨he, hcl.out _ _ hb⟩)))
  refine wpQuiet_nil ?_
  intro nx
  have hb1 := (hf nx).out
  clear hf hcl ua_0 ua_1 ua_2 ua_3
  generalize f nx = w1 at hb1 ⊢
  have s1 : Hid (Kn w1 [(w.heap.size + 1, zz4), (w.heap.size, (c4 (loA x)))]) := s0.out.up hb1
  have b1 : Hid (Below w.heap.size w w1) := b0.out.trans (hb1.mono b0.out.size)
  have z1 := b1.out.size
  clear hb1 s0 b0
  have uro_0 : w1.cell? ⟨w.heap.size + 1, 0, none⟩ = some (.int .u64 0) := Kn.get s1.out 0 0 rfl rfl
  have uro_1 : w1.cell? ⟨w.heap.size + 1, 1, none⟩ = some (.int .u64 0) := Kn.get s1.out 0 1 rfl rfl
  have uro_2 : w1.cell? ⟨w.heap.size + 1, 2, none⟩ = some (.int .u64 0) := Kn.get s1.out 0 2 rfl rfl
  have uro_3 : w1.cell? ⟨w.heap.size + 1, 3, none⟩ = some (.int .u64 0) := Kn.get s1.out 0 3 rfl rfl
  have uro_z : ∀ j, w1.frozen? ⟨w.heap.size + 1, j, none⟩ = false := Kn.fz s1.out 0 rfl
  have s2 : Hid (Kn (st4 w1 (w.heap.size + 1) (p)) [(w.heap.size + 1, (c4 (p))), (w.heap.size, (c4 (loA x)))]) := Kn.st4 (L := [(w.heap.size, (c4 (loA x)))]) (s1.out.front 0 rfl) (p)
  have b2 : Hid (Below w.heap.size w (st4 w1 (w.heap.size + 1) (p))) := below_st4 b1.out (by omega)
  clear s1 b1
  go_wp2_with fail
  clear uro_0 uro_1 uro_2 uro_3 uro_z
  have urr_0 : (st4 w1 (w.heap.size + 1) (p)).cell? ⟨w.heap.size + 1, 0, none⟩ = some (.int .u64 (p).a) := Kn.get s2.out 0 0 rfl rfl
  have urr_1 : (st4 w1 (w.heap.size + 1) (p)).cell? ⟨w.heap.size + 1, 1, none⟩ = some (.int .u64 (p).b) := Kn.get s2.out 0 1 rfl rfl
  have urr_2 : (st4 w1 (w.heap.size + 1) (p)).cell? ⟨w.heap.size + 1, 2, none⟩ = some (.int .u64 (p).c) := Kn.get s2.out 0 2 rfl rfl
  have urr_3 : (st4 w1 (w.heap.size + 1) (p)).cell? ⟨w.heap.size + 1, 3, none⟩ = some (.int .u64 (p).d) := Kn.get s2.out 0 3 rfl rfl
  refine bodyPost_ret (v := N p) ?_ rfl ⟨rfl, b2.out⟩
  show (results Tryd.f40 _).run Tryd.prog (st4 w1 (w.heap.size + 1) (p)) = .ok _ (st4 w1 (w.heap.size + 1) (p))
  clear s2 b2
  generalize (st4 w1 (w.heap.size + 1) (p)) = W9 at *
  simp [results, Tryd.results40, go_sem, urr_0, urr_1, urr_2, urr_3]
theorem and_60 {d : Int} (h : Word d) : bits .and .u64 d 1152921504606846975 = d % 1152921504606846976 := by
  obtain ⟨d, rfl⟩ := Int.eq_ofNat_of_zero_le h.1
  have hd : d < 18446744073709551616 := by have := h.2; omega
  have := bits_and_u64_nat d 1152921504606846975 hd (by decide)
  rw [show ((1152921504606846975 : Nat) : Int) = 1152921504606846975 from rfl] at this
  rw [this, show (1152921504606846975 : Nat) = 2 ^ 60 - 1 from rfl, Nat.and_two_pow_sub_one_eq_mod]
  rfl
theorem sLowC : SLowC := fun x ox w => by
  -- function 40
  have hd := and_60 ox.d
  obtain ⟨b, hb⟩ := Int.eq_ofNat_of_zero_le (show 0 ≤ x.d / 1152921504606846976 by have := ox.d.1; omega)
  have hb2 : b < 16 := by have := ox.d.2; omega
  have oA : (loA x).ok := ⟨ox.a, ox.b, ox.c, by show Word (bits .and .u64 x.d 1152921504606846975); rw [hd]; constructor <;> omega⟩
  have oB : (loB x).ok := by show (⟨_, 0, 0, 0⟩ : Nm).ok; rw [hb]; exact one_ok ⟨by omega, by omega⟩
  have nB : (loB x).nat = b := by
    show (⟨_, 0, 0, 0⟩ : Nm).nat = b
    rw [hb]
    unfold Nm.nat Nm.val
    simp only []
    omega
  have nA : (loA x).nat + 7237005577332262213973186563042994240829374041602535252466099000494570602496 * b = x.nat := by
    have e1 := Nm.nat_cast oA
    have e0 := Nm.nat_cast ox
    have e2 : (loA x).val = x.val - 7237005577332262213973186563042994240829374041602535252466099000494570602496 * (b : Int) := by
      show x.a + _ * (x.b + _ * (x.c + _ * (bits .and .u64 x.d 1152921504606846975))) = x.a + _ * (x.b + _ * (x.c + _ * x.d)) - _
      rw [hd]
      omega
    omega
  have lA : (loA x).nat < 7237005577332262213973186563042994240829374041602535252466099000494570602496 := by
    have e1 := Nm.nat_cast oA
    have : (loA x).val < 7237005577332262213973186563042994240829374041602535252466099000494570602496 := by
      show x.a + _ * (x.b + _ * (x.c + _ * (bits .and .u64 x.d 1152921504606846975))) < _
      rw [hd]
      obtain ⟨⟨_, _⟩, ⟨_, _⟩, ⟨_, _⟩, ⟨_, _⟩⟩ := ox
      omega
    omega
  have hk : lackN.nat = 27742317777372353535851937790883648493 := by decide
  have hL : Cv.ord = 7237005577332262213973186563042994240857116359379907606001950938285454250989 := rfl
  have p2 : (2 : Nat) ^ 256 = 115792089237316195423570985008687907853269984665640564039457584007913129639936 := by decide
  have M1 := mul_V (loB x) lackN oB (by constructor <;> (constructor <;> decide))
  rw [nB, hk, WL_nm, WH_nm] at M1
  have hs : b * 27742317777372353535851937790883648493 < 2 ^ 256 := by rw [p2]; omega
  rw [Nat.mod_eq_of_lt hs] at M1
  have SL := sless_fun (loA x) (nm (b * 27742317777372353535851937790883648493)) oA (nm_ok _) (by rw [nm_nat hs, hL]; omega) (by rw [nm_nat hs, hL]; omega)
  have e : ((loA x).nat + Cv.ord - (nm (b * 27742317777372353535851937790883648493)).nat) % Cv.ord = x.nat % Cv.ord := by
    rw [nm_nat hs]
    have e1 : x.nat + Cv.ord = ((loA x).nat + Cv.ord - b * 27742317777372353535851937790883648493) + Cv.ord * b := by
      rw [hL, ← nA]
      omega
    rw [← Nat.add_mod_right x.nat, e1, Nat.add_mul_mod_self_left]
  rw [e] at SL
  exact sLow_walk x _ _ _ M1 SL w
set_option maxHeartbeats 1000000 in
theorem sAdd_walk (x y a b s p : Nm) (c : Int)
    (L1 : ∀ w, Calls Tryd.prog 40 #[N x] w fun e w' => e = .returned (N a) ∧ Below w.heap.size w w')
    (L2 : ∀ w, Calls Tryd.prog 40 #[N y] w fun e w' => e = .returned (N b) ∧ Below w.heap.size w w')
    (SA : ∀ w, Calls Tryd.prog 39 #[N a, N b] w fun e w' => e = .returned (.tuple #[N s, .int .u64 c]) ∧ Below w.heap.size w w')
    (SL : ∀ w, Calls Tryd.prog 41 #[N s, N lN] w fun e w' => e = .returned (N p) ∧ Below w.heap.size w w')
    (w : World) :
    Calls Tryd.prog 17 #[N x, N y] w fun e w' => e = .returned (N p) ∧ Below w.heap.size w w' := by
  go_enter Tryd.func17, Tryd.ntmps17
  have s0 : Hid (Kn (kz4 (kal4 (kal4 w (x)) (y))) [(w.heap.size + 1 + 1, zz4), (w.heap.size + 1, (c4 (y))), (w.heap.size, (c4 (x)))]) := ((((Kn.nil w).al (c4 (x)) 24 rfl).al (c4 (y)) 24 (by simp)).al zz4 24 (by simp))
  have b0 : Hid (Below w.heap.size w (kz4 (kal4 (kal4 w (x)) (y)))) := ((((Below.refl _ _).alloc (Nat.le_refl _) _).alloc (by simp <;> omega) _).alloc (by simp <;> omega) _)
  go_wp2_with fail
  refine wp_region_alloc1 8 (.cells #[.int .u64 0, .int .u64 0, .int .u64 0, .int .u64 0] 24) (by kernel_rfl) (by kernel_rfl) (by kernel_rfl) (by kernel_rfl) (by decide) (fun _ _ d _ _ h => by cases d <;> exact h) rfl rfl (fun _ _ => by kernel_rfl) ?_
  apply Exists.intro
  refine ⟨fun U hU f hf hcl => ?_, fun k1 w1 hb1 hk1 hc1 => ?_⟩
  · skip
    have ua_0 := fun nx => (Kn.get (s0.out.up (hf nx).out) 2 0 rfl rfl : (f nx).cell? ⟨w.heap.size, 0, none⟩ = some (.int .u64 (x).a))
    have ua_1 := fun nx => (Kn.get (s0.out.up (hf nx).out) 2 1 rfl rfl : (f nx).cell? ⟨w.heap.size, 1, none⟩ = some (.int .u64 (x).b))
    have ua_2 := fun nx => (Kn.get (s0.out.up (hf nx).out) 2 2 rfl rfl : (f nx).cell? ⟨w.heap.size, 2, none⟩ = some (.int .u64 (x).c))
    have ua_3 := fun nx => (Kn.get (s0.out.up (hf nx).out) 2 3 rfl rfl : (f nx).cell? ⟨w.heap.size, 3, none⟩ = some (.int .u64 (x).d))
    have ub_0 := fun nx => (Kn.get (s0.out.up (hf nx).out) 1 0 rfl rfl : (f nx).cell? ⟨w.heap.size + 1, 0, none⟩ = some (.int .u64 (y).a))
    have ub_1 := fun nx => (Kn.get (s0.out.up (hf nx).out) 1 1 rfl rfl : (f nx).cell? ⟨w.heap.size + 1, 1, none⟩ = some (.int .u64 (y).b))
    have ub_2 := fun nx => (Kn.get (s0.out.up (hf nx).out) 1 2 rfl rfl : (f nx).cell? ⟨w.heap.size + 1, 2, none⟩ = some (.int .u64 (y).c))
    have ub_3 := fun nx => (Kn.get (s0.out.up (hf nx).out) 1 3 rfl rfl : (f nx).cell? ⟨w.heap.size + 1, 3, none⟩ = some (.int .u64 (y).d))
    clear hf
    simp only [List.take_succ_cons, List.take_zero]
    repeat (go_big_quiet_step (first | (go_at_call_of 40 [Value.agg #[Value.int IntKind.u64 x.a, Value.int IntKind.u64 x.b, Value.int IntKind.u64 x.c, Value.int IntKind.u64 x.d]]; exact (L1 _).mono fun e w'' ⟨he, hb⟩ => ⟨he, hcl.out _ _ hb⟩) | (go_at_call_of 40 [Value.agg #[Value.int IntKind.u64 y.a, Value.int IntKind.u64 y.b, Value.int IntKind.u64 y.c, Value.int IntKind.u64 y.d]]; exact (L2 _).mono fun e w'' ⟨he, hb⟩ => ⟨he, hcl.out _ _ hb⟩) | (go_at_call 39; exact (SA _).mono fun e w'' ⟨he, hb⟩ => ⟨he, hcl.out _ _ hb⟩)))
    exact wpQuiet_nil rfl
  simp only [List.drop_succ_cons, List.drop_zero]
  have z1 := b0.out.size
  have s1x : Hid (Kn w1 [(k1, zz4), (w.heap.size + 1 + 1, zz4), (w.heap.size + 1, (c4 (y))), (w.heap.size, (c4 (x)))]) := s0.out.fresh hb1.out hk1 hc1.out
  have g1 : w.heap.size ≤ k1 := Nat.le_trans b0.out.size hk1
  have cz1_0 : w1.cell? ⟨k1, 0, none⟩ = some (.int .u64 0) := Kn.get s1x.out 0 0 rfl rfl
  have cz1_1 : w1.cell? ⟨k1, 1, none⟩ = some (.int .u64 0) := Kn.get s1x.out 0 1 rfl rfl
  have cz1_2 : w1.cell? ⟨k1, 2, none⟩ = some (.int .u64 0) := Kn.get s1x.out 0 2 rfl rfl
  have cz1_3 : w1.cell? ⟨k1, 3, none⟩ = some (.int .u64 0) := Kn.get s1x.out 0 3 rfl rfl
  have cz1 : ∀ j, w1.frozen? ⟨k1, j, none⟩ = false := Kn.fz s1x.out 0 rfl
  have s1 : Hid (Kn (st4 w1 k1 (s)) [(k1, (c4 (s))), (w.heap.size + 1 + 1, zz4), (w.heap.size + 1, (c4 (y))), (w.heap.size, (c4 (x)))]) := s1x.out.st4 (s)
  have b1 : Hid (Below w.heap.size w (st4 w1 k1 (s))) := below_st4 (b0.out.trans (hb1.out.mono b0.out.size)) g1
  clear s1x s0 b0 hb1 hc1 hk1
  go_wp2_with fail
  clear cz1_0 cz1_1 cz1_2 cz1_3 cz1
  refine wp_region_up_then 3 (by kernel_rfl) (by kernel_rfl) (by kernel_rfl) (by kernel_rfl) (by decide) (fun _ _ d _ _ h => by cases d <;> exact h) (fun U hU f hf hcl => ?_)
  have us_0 := fun nx => (Kn.get (s1.out.up (hf nx).out) 0 0 rfl rfl : (f nx).cell? ⟨k1, 0, none⟩ = some (.int .u64 (s).a))
  have us_1 := fun nx => (Kn.get (s1.out.up (hf nx).out) 0 1 rfl rfl : (f nx).cell? ⟨k1, 1, none⟩ = some (.int .u64 (s).b))
  have us_2 := fun nx => (Kn.get (s1.out.up (hf nx).out) 0 2 rfl rfl : (f nx).cell? ⟨k1, 2, none⟩ = some (.int .u64 (s).c))
  have us_3 := fun nx => (Kn.get (s1.out.up (hf nx).out) 0 3 rfl rfl : (f nx).cell? ⟨k1, 3, none⟩ = some (.int .u64 (s).d))
  simp only [List.take_succ_cons, List.take_zero, List.drop_succ_cons, List.drop_zero]
  repeat (go_big_quiet_step (first | (go_at_call 14; exact (sL_walk _).mono fun e w'' ⟨he, hb⟩ => ⟨he, hcl.out _ _ hb⟩) | (go_at_call 41; exact (SL _).mono fun e w'' ⟨he, hb⟩ => ⟨he, hcl.out _ _ hb⟩)))
  refine wpQuiet_nil ?_
  intro nx
  have hb2 := (hf nx).out
  clear hf hcl us_0 us_1 us_2 us_3
  generalize f nx = w2 at hb2 ⊢
  have s2 : Hid (Kn w2 [(k1, (c4 (s))), (w.heap.size + 1 + 1, zz4), (w.heap.size + 1, (c4 (y))), (w.heap.size, (c4 (x)))]) := s1.out.up hb2
  have b2 : Hid (Below w.heap.size w w2) := b1.out.trans (hb2.mono b1.out.size)
  have z2 := b2.out.size
  clear hb2 s1 b1
  have uro_0 : w2.cell? ⟨w.heap.size + 1 + 1, 0, none⟩ = some (.int .u64 0) := Kn.get s2.out 1 0 rfl rfl
  have uro_1 : w2.cell? ⟨w.heap.size + 1 + 1, 1, none⟩ = some (.int .u64 0) := Kn.get s2.out 1 1 rfl rfl
  have uro_2 : w2.cell? ⟨w.heap.size + 1 + 1, 2, none⟩ = some (.int .u64 0) := Kn.get s2.out 1 2 rfl rfl
  have uro_3 : w2.cell? ⟨w.heap.size + 1 + 1, 3, none⟩ = some (.int .u64 0) := Kn.get s2.out 1 3 rfl rfl
  have uro_z : ∀ j, w2.frozen? ⟨w.heap.size + 1 + 1, j, none⟩ = false := Kn.fz s2.out 1 rfl
  have s3 : Hid (Kn (st4 w2 (w.heap.size + 1 + 1) (p)) [(w.heap.size + 1 + 1, (c4 (p))), (k1, (c4 (s))), (w.heap.size + 1, (c4 (y))), (w.heap.size, (c4 (x)))]) := Kn.st4 (L := [(k1, (c4 (s))), (w.heap.size + 1, (c4 (y))), (w.heap.size, (c4 (x)))]) (s2.out.front 1 rfl) (p)
  have b3 : Hid (Below w.heap.size w (st4 w2 (w.heap.size + 1 + 1) (p))) := below_st4 b2.out (by omega)
  clear s2 b2
  go_wp2_with fail
  clear uro_0 uro_1 uro_2 uro_3 uro_z
  have urr_0 : (st4 w2 (w.heap.size + 1 + 1) (p)).cell? ⟨w.heap.size + 1 + 1, 0, none⟩ = some (.int .u64 (p).a) := Kn.get s3.out 0 0 rfl rfl
  have urr_1 : (st4 w2 (w.heap.size + 1 + 1) (p)).cell? ⟨w.heap.size + 1 + 1, 1, none⟩ = some (.int .u64 (p).b) := Kn.get s3.out 0 1 rfl rfl
  have urr_2 : (st4 w2 (w.heap.size + 1 + 1) (p)).cell? ⟨w.heap.size + 1 + 1, 2, none⟩ = some (.int .u64 (p).c) := Kn.get s3.out 0 2 rfl rfl
  have urr_3 : (st4 w2 (w.heap.size + 1 + 1) (p)).cell? ⟨w.heap.size + 1 + 1, 3, none⟩ = some (.int .u64 (p).d) := Kn.get s3.out 0 3 rfl rfl
  refine bodyPost_ret (v := N p) ?_ rfl ⟨rfl, b3.out⟩
  show (results Tryd.f17 _).run Tryd.prog (st4 w2 (w.heap.size + 1 + 1) (p)) = .ok _ (st4 w2 (w.heap.size + 1 + 1) (p))
  clear s3 b3
  generalize (st4 w2 (w.heap.size + 1 + 1) (p)) = W9 at *
  simp [results, Tryd.results17, go_sem, urr_0, urr_1, urr_2, urr_3]
theorem sAddC : SAddC := fun x y ox oy w => by
  -- function 17
  have hx := Nat.mod_lt x.nat ord_pos
  have hy := Nat.mod_lt y.nat ord_pos
  have hl := ord_lt
  have hh : Cv.ord + Cv.ord < 2 ^ 256 := by decide
  have SA := add_nat (nm (x.nat % Cv.ord)) (nm (y.nat % Cv.ord)) (nm_ok _) (nm_ok _)
  rw [s_nat, s_nat, Nat.mod_eq_of_lt (show x.nat % Cv.ord + y.nat % Cv.ord < 2 ^ 256 by omega)] at SA
  have ns : (nm (x.nat % Cv.ord + y.nat % Cv.ord)).nat = x.nat % Cv.ord + y.nat % Cv.ord := nm_nat (by omega)
  have SL := sless_fun (nm (x.nat % Cv.ord + y.nat % Cv.ord)) lN (nm_ok _) lN_ok (by rw [ns, lN_nat]; omega) (by rw [ns, lN_nat]; omega)
  rw [ns, lN_nat, Nat.add_sub_cancel, ← Nat.add_mod] at SL
  exact sAdd_walk x y _ _ _ _ _ (sLowC x ox) (sLowC y oy) SA SL w
set_option maxHeartbeats 1000000 in
theorem sNeg_walk (x a p : Nm)
    (L1 : ∀ w, Calls Tryd.prog 40 #[N x] w fun e w' => e = .returned (N a) ∧ Below w.heap.size w w')
    (SL : ∀ w, Calls Tryd.prog 41 #[N ⟨0,0,0,0⟩, N a] w fun e w' => e = .returned (N p) ∧ Below w.heap.size w w')
    (w : World) :
    Calls Tryd.prog 18 #[N x] w fun e w' => e = .returned (N p) ∧ Below w.heap.size w w' := by
  go_enter Tryd.func18, Tryd.ntmps18
  have s0 : Hid (Kn (kz4 (kal4 w (x))) [(w.heap.size + 1, zz4), (w.heap.size, (c4 (x)))]) := (((Kn.nil w).al (c4 (x)) 24 rfl).al zz4 24 (by simp))
  have b0 : Hid (Below w.heap.size w (kz4 (kal4 w (x)))) := (((Below.refl _ _).alloc (Nat.le_refl _) _).alloc (by simp <;> omega) _)
  go_wp2_with fail
  refine (L1 _).mono ?_
  rintro e w1 ⟨rfl, hb1⟩
  have s1 : Hid (Kn w1 [(w.heap.size + 1, zz4), (w.heap.size, (c4 (x)))]) := s0.out.up hb1
  have b1 : Hid (Below w.heap.size w w1) := b0.out.trans (hb1.mono b0.out.size)
  have z1 := b1.out.size
  clear hb1 s0 b0
  go_wp2_with fail
  refine (SL _).mono ?_
  rintro e w2 ⟨rfl, hb2⟩
  have s2 : Hid (Kn w2 [(w.heap.size + 1, zz4), (w.heap.size, (c4 (x)))]) := s1.out.up hb2
  have b2 : Hid (Below w.heap.size w w2) := b1.out.trans (hb2.mono b1.out.size)
  have z2 := b2.out.size
  clear hb2 s1 b1
  have uro_0 : w2.cell? ⟨w.heap.size + 1, 0, none⟩ = some (.int .u64 0) := Kn.get s2.out 0 0 rfl rfl
  have uro_1 : w2.cell? ⟨w.heap.size + 1, 1, none⟩ = some (.int .u64 0) := Kn.get s2.out 0 1 rfl rfl
  have uro_2 : w2.cell? ⟨w.heap.size + 1, 2, none⟩ = some (.int .u64 0) := Kn.get s2.out 0 2 rfl rfl
  have uro_3 : w2.cell? ⟨w.heap.size + 1, 3, none⟩ = some (.int .u64 0) := Kn.get s2.out 0 3 rfl rfl
  have uro_z : ∀ j, w2.frozen? ⟨w.heap.size + 1, j, none⟩ = false := Kn.fz s2.out 0 rfl
  have s3 : Hid (Kn (st4 w2 (w.heap.size + 1) (p)) [(w.heap.size + 1, (c4 (p))), (w.heap.size, (c4 (x)))]) := Kn.st4 (L := [(w.heap.size, (c4 (x)))]) (s2.out.front 0 rfl) (p)
  have b3 : Hid (Below w.heap.size w (st4 w2 (w.heap.size + 1) (p))) := below_st4 b2.out (by omega)
  clear s2 b2
  go_wp2_with fail
  clear uro_0 uro_1 uro_2 uro_3 uro_z
  have urr_0 : (st4 w2 (w.heap.size + 1) (p)).cell? ⟨w.heap.size + 1, 0, none⟩ = some (.int .u64 (p).a) := Kn.get s3.out 0 0 rfl rfl
  have urr_1 : (st4 w2 (w.heap.size + 1) (p)).cell? ⟨w.heap.size + 1, 1, none⟩ = some (.int .u64 (p).b) := Kn.get s3.out 0 1 rfl rfl
  have urr_2 : (st4 w2 (w.heap.size + 1) (p)).cell? ⟨w.heap.size + 1, 2, none⟩ = some (.int .u64 (p).c) := Kn.get s3.out 0 2 rfl rfl
  have urr_3 : (st4 w2 (w.heap.size + 1) (p)).cell? ⟨w.heap.size + 1, 3, none⟩ = some (.int .u64 (p).d) := Kn.get s3.out 0 3 rfl rfl
  refine bodyPost_ret (v := N p) ?_ rfl ⟨rfl, b3.out⟩
  show (results Tryd.f18 _).run Tryd.prog (st4 w2 (w.heap.size + 1) (p)) = .ok _ (st4 w2 (w.heap.size + 1) (p))
  clear s3 b3
  generalize (st4 w2 (w.heap.size + 1) (p)) = W9 at *
  simp [results, Tryd.results18, go_sem, urr_0, urr_1, urr_2, urr_3]
theorem sNegC : SNegC := fun x ox w => by
  -- function 18
  have hx := Nat.mod_lt x.nat ord_pos
  have z0 : (⟨0, 0, 0, 0⟩ : Nm).nat = 0 := rfl
  have SL := sless_fun ⟨0, 0, 0, 0⟩ (nm (x.nat % Cv.ord)) (by constructor <;> (constructor <;> decide)) (nm_ok _) (by rw [s_nat, z0]; have := ord_pos; omega) (by rw [s_nat, z0]; omega)
  rw [s_nat, z0, Nat.zero_add] at SL
  exact sNeg_walk x _ _ (sLowC x ox) SL w
set_option maxHeartbeats 1000000 in
theorem sRed_walk (l h l1 h1 l2 h2 l3 h3 ps ms p : Nm)
    (M1 : ∀ w, Calls Tryd.prog 43 #[N h, N wlN] w fun e w' => e = .returned (Wv l1 h1) ∧ Below w.heap.size w w')
    (M2 : ∀ w, Calls Tryd.prog 43 #[N h1, N wlN] w fun e w' => e = .returned (Wv l2 h2) ∧ Below w.heap.size w w')
    (M3 : ∀ w, Calls Tryd.prog 43 #[N h2, N wlN] w fun e w' => e = .returned (Wv l3 h3) ∧ Below w.heap.size w w')
    (A1 : ∀ w, Calls Tryd.prog 17 #[N l, N l2] w fun e w' => e = .returned (N ps) ∧ Below w.heap.size w w')
    (A2 : ∀ w, Calls Tryd.prog 17 #[N l1, N l3] w fun e w' => e = .returned (N ms) ∧ Below w.heap.size w w')
    (SL : ∀ w, Calls Tryd.prog 41 #[N ps, N ms] w fun e w' => e = .returned (N p) ∧ Below w.heap.size w w')
    (w : World) :
    Calls Tryd.prog 42 #[Wv l h] w fun e w' => e = .returned (N p) ∧ Below w.heap.size w w' := by
  go_enter Tryd.func42, Tryd.ntmps42
  have s0 : Hid (Kn (kz4 (kal8 w (l) (h))) [(w.heap.size + 1, zz4), (w.heap.size, (c8 (l) (h)))]) := (((Kn.nil w).al (c8 (l) (h)) 74 rfl).al zz4 24 (by simp))
  have b0 : Hid (Below w.heap.size w (kz4 (kal8 w (l) (h)))) := (((Below.refl _ _).alloc (Nat.le_refl _) _).alloc (by simp <;> omega) _)
  go_wp2_with fail
  refine (high_fun l h _).mono ?_
  rintro e w1 ⟨rfl, hb1⟩
  have s1 : Hid (Kn w1 [(w.heap.size + 1, zz4), (w.heap.size, (c8 (l) (h)))]) := s0.out.up hb1
  have b1 : Hid (Below w.heap.size w w1) := b0.out.trans (hb1.mono b0.out.size)
  have z1 := b1.out.size
  clear hb1 s0 b0
  go_wp2_with fail
  refine (swl_walk _).mono ?_
  rintro e w2 ⟨rfl, hb2⟩
  have s2 : Hid (Kn w2 [(w.heap.size + 1, zz4), (w.heap.size, (c8 (l) (h)))]) := s1.out.up hb2
  have b2 : Hid (Below w.heap.size w w2) := b1.out.trans (hb2.mono b1.out.size)
  have z2 := b2.out.size
  clear hb2 s1 b1
  go_wp2_with fail
  refine (M1 _).mono ?_
  rintro e w3 ⟨rfl, hb3⟩
  have s3 : Hid (Kn w3 [(w.heap.size + 1, zz4), (w.heap.size, (c8 (l) (h)))]) := s2.out.up hb3
  have b3 : Hid (Below w.heap.size w w3) := b2.out.trans (hb3.mono b2.out.size)
  have z3 := b3.out.size
  clear hb3 s2 b2
  have s4 : Hid (Kn (kal8 w3 (l1) (h1)) [(w3.heap.size, (c8 (l1) (h1))), (w.heap.size + 1, zz4), (w.heap.size, (c8 (l) (h)))]) := s3.out.al (c8 (l1) (h1)) 74 rfl
  have b4 : Hid (Below w.heap.size w (kal8 w3 (l1) (h1))) := b3.out.alloc b3.out.size _
  have z4 := b3.out.size
  clear s3 b3
  go_wp2_with fail
  refine (high_fun l1 h1 _).mono ?_
  rintro e w5 ⟨rfl, hb5⟩
  have s5 : Hid (Kn w5 [(w3.heap.size, (c8 (l1) (h1))), (w.heap.size + 1, zz4), (w.heap.size, (c8 (l) (h)))]) := s4.out.up hb5
  have b5 : Hid (Below w.heap.size w w5) := b4.out.trans (hb5.mono b4.out.size)
  have z5 := b5.out.size
  clear hb5 s4 b4
  go_wp2_with fail
  refine (swl_walk _).mono ?_
  rintro e w6 ⟨rfl, hb6⟩
  have s6 : Hid (Kn w6 [(w3.heap.size, (c8 (l1) (h1))), (w.heap.size + 1, zz4), (w.heap.size, (c8 (l) (h)))]) := s5.out.up hb6
  have b6 : Hid (Below w.heap.size w w6) := b5.out.trans (hb6.mono b5.out.size)
  have z6 := b6.out.size
  clear hb6 s5 b5
  go_wp2_with fail
  refine (M2 _).mono ?_
  rintro e w7 ⟨rfl, hb7⟩
  have s7 : Hid (Kn w7 [(w3.heap.size, (c8 (l1) (h1))), (w.heap.size + 1, zz4), (w.heap.size, (c8 (l) (h)))]) := s6.out.up hb7
  have b7 : Hid (Below w.heap.size w w7) := b6.out.trans (hb7.mono b6.out.size)
  have z7 := b7.out.size
  clear hb7 s6 b6
  have s8 : Hid (Kn (kal8 w7 (l2) (h2)) [(w7.heap.size, (c8 (l2) (h2))), (w3.heap.size, (c8 (l1) (h1))), (w.heap.size + 1, zz4), (w.heap.size, (c8 (l) (h)))]) := s7.out.al (c8 (l2) (h2)) 74 rfl
  have b8 : Hid (Below w.heap.size w (kal8 w7 (l2) (h2))) := b7.out.alloc b7.out.size _
  have z8 := b7.out.size
  clear s7 b7
  go_wp2_with fail
  refine (high_fun l2 h2 _).mono ?_
  rintro e w9 ⟨rfl, hb9⟩
  have s9 : Hid (Kn w9 [(w7.heap.size, (c8 (l2) (h2))), (w3.heap.size, (c8 (l1) (h1))), (w.heap.size + 1, zz4), (w.heap.size, (c8 (l) (h)))]) := s8.out.up hb9
  have b9 : Hid (Below w.heap.size w w9) := b8.out.trans (hb9.mono b8.out.size)
  have z9 := b9.out.size
  clear hb9 s8 b8
  go_wp2_with fail
  refine (swl_walk _).mono ?_
  rintro e w10 ⟨rfl, hb10⟩
  have s10 : Hid (Kn w10 [(w7.heap.size, (c8 (l2) (h2))), (w3.heap.size, (c8 (l1) (h1))), (w.heap.size + 1, zz4), (w.heap.size, (c8 (l) (h)))]) := s9.out.up hb10
  have b10 : Hid (Below w.heap.size w w10) := b9.out.trans (hb10.mono b9.out.size)
  have z10 := b10.out.size
  clear hb10 s9 b9
  go_wp2_with fail
  refine (M3 _).mono ?_
  rintro e w11 ⟨rfl, hb11⟩
  have s11 : Hid (Kn w11 [(w7.heap.size, (c8 (l2) (h2))), (w3.heap.size, (c8 (l1) (h1))), (w.heap.size + 1, zz4), (w.heap.size, (c8 (l) (h)))]) := s10.out.up hb11
  have b11 : Hid (Below w.heap.size w w11) := b10.out.trans (hb11.mono b10.out.size)
  have z11 := b11.out.size
  clear hb11 s10 b10
  have s12 : Hid (Kn (kal8 w11 (l3) (h3)) [(w11.heap.size, (c8 (l3) (h3))), (w7.heap.size, (c8 (l2) (h2))), (w3.heap.size, (c8 (l1) (h1))), (w.heap.size + 1, zz4), (w.heap.size, (c8 (l) (h)))]) := s11.out.al (c8 (l3) (h3)) 74 rfl
  have b12 : Hid (Below w.heap.size w (kal8 w11 (l3) (h3))) := b11.out.alloc b11.out.size _
  have z12 := b11.out.size
  clear s11 b11
  go_wp2_with fail
  refine wp_region_alloc1 5 (.cells #[.int .u64 0, .int .u64 0, .int .u64 0, .int .u64 0] 24) (by kernel_rfl) (by kernel_rfl) (by kernel_rfl) (by kernel_rfl) (by decide) (fun _ _ d _ _ h => by cases d <;> exact h) rfl rfl (fun _ _ => by kernel_rfl) ?_
  apply Exists.intro
  refine ⟨fun U hU f hf hcl => ?_, fun k13 w13 hb13 hk13 hc13 => ?_⟩
  · skip
    have uwd_0 := fun nx => (Kn.get (s12.out.up (hf nx).out) 4 0 rfl rfl : (f nx).cell? ⟨w.heap.size, 0, none⟩ = some (.int .u64 (l).a))
    have uwd_1 := fun nx => (Kn.get (s12.out.up (hf nx).out) 4 1 rfl rfl : (f nx).cell? ⟨w.heap.size, 1, none⟩ = some (.int .u64 (l).b))
    have uwd_2 := fun nx => (Kn.get (s12.out.up (hf nx).out) 4 2 rfl rfl : (f nx).cell? ⟨w.heap.size, 2, none⟩ = some (.int .u64 (l).c))
    have uwd_3 := fun nx => (Kn.get (s12.out.up (hf nx).out) 4 3 rfl rfl : (f nx).cell? ⟨w.heap.size, 3, none⟩ = some (.int .u64 (l).d))
    have uwd_4 := fun nx => (Kn.get (s12.out.up (hf nx).out) 4 4 rfl rfl : (f nx).cell? ⟨w.heap.size, 4, none⟩ = some (.int .u64 (h).a))
    have uwd_5 := fun nx => (Kn.get (s12.out.up (hf nx).out) 4 5 rfl rfl : (f nx).cell? ⟨w.heap.size, 5, none⟩ = some (.int .u64 (h).b))
    have uwd_6 := fun nx => (Kn.get (s12.out.up (hf nx).out) 4 6 rfl rfl : (f nx).cell? ⟨w.heap.size, 6, none⟩ = some (.int .u64 (h).c))
    have uwd_7 := fun nx => (Kn.get (s12.out.up (hf nx).out) 4 7 rfl rfl : (f nx).cell? ⟨w.heap.size, 7, none⟩ = some (.int .u64 (h).d))
    have usecond_0 := fun nx => (Kn.get (s12.out.up (hf nx).out) 1 0 rfl rfl : (f nx).cell? ⟨w7.heap.size, 0, none⟩ = some (.int .u64 (l2).a))
    have usecond_1 := fun nx => (Kn.get (s12.out.up (hf nx).out) 1 1 rfl rfl : (f nx).cell? ⟨w7.heap.size, 1, none⟩ = some (.int .u64 (l2).b))
    have usecond_2 := fun nx => (Kn.get (s12.out.up (hf nx).out) 1 2 rfl rfl : (f nx).cell? ⟨w7.heap.size, 2, none⟩ = some (.int .u64 (l2).c))
    have usecond_3 := fun nx => (Kn.get (s12.out.up (hf nx).out) 1 3 rfl rfl : (f nx).cell? ⟨w7.heap.size, 3, none⟩ = some (.int .u64 (l2).d))
    have usecond_4 := fun nx => (Kn.get (s12.out.up (hf nx).out) 1 4 rfl rfl : (f nx).cell? ⟨w7.heap.size, 4, none⟩ = some (.int .u64 (h2).a))
    have usecond_5 := fun nx => (Kn.get (s12.out.up (hf nx).out) 1 5 rfl rfl : (f nx).cell? ⟨w7.heap.size, 5, none⟩ = some (.int .u64 (h2).b))
    have usecond_6 := fun nx => (Kn.get (s12.out.up (hf nx).out) 1 6 rfl rfl : (f nx).cell? ⟨w7.heap.size, 6, none⟩ = some (.int .u64 (h2).c))
    have usecond_7 := fun nx => (Kn.get (s12.out.up (hf nx).out) 1 7 rfl rfl : (f nx).cell? ⟨w7.heap.size, 7, none⟩ = some (.int .u64 (h2).d))
    clear hf
    simp only [List.take_succ_cons, List.take_zero]
    repeat (go_big_quiet_step (first | (go_at_call_of 60 [Value.agg #[Value.int IntKind.u64 l.a, Value.int IntKind.u64 l.b, Value.int IntKind.u64 l.c, Value.int IntKind.u64 l.d, Value.int IntKind.u64 h.a, Value.int IntKind.u64 h.b, Value.int IntKind.u64 h.c, Value.int IntKind.u64 h.d]]; exact (low_fun l h _).mono fun e w'' ⟨he, hb⟩ => ⟨he, hcl.out _ _ hb⟩) | (go_at_call_of 60 [Value.agg #[Value.int IntKind.u64 l2.a, Value.int IntKind.u64 l2.b, Value.int IntKind.u64 l2.c, Value.int IntKind.u64 l2.d, Value.int IntKind.u64 h2.a, Value.int IntKind.u64 h2.b, Value.int IntKind.u64 h2.c, Value.int IntKind.u64 h2.d]]; exact (low_fun l2 h2 _).mono fun e w'' ⟨he, hb⟩ => ⟨he, hcl.out _ _ hb⟩) | (go_at_call 17; exact (A1 _).mono fun e w'' ⟨he, hb⟩ => ⟨he, hcl.out _ _ hb⟩)))
    exact wpQuiet_nil rfl
  simp only [List.drop_succ_cons, List.drop_zero]
  have z13 := b12.out.size
  have s13x : Hid (Kn w13 [(k13, zz4), (w11.heap.size, (c8 (l3) (h3))), (w7.heap.size, (c8 (l2) (h2))), (w3.heap.size, (c8 (l1) (h1))), (w.heap.size + 1, zz4), (w.heap.size, (c8 (l) (h)))]) := s12.out.fresh hb13.out hk13 hc13.out
  have g13 : w.heap.size ≤ k13 := Nat.le_trans b12.out.size hk13
  have cz13_0 : w13.cell? ⟨k13, 0, none⟩ = some (.int .u64 0) := Kn.get s13x.out 0 0 rfl rfl
  have cz13_1 : w13.cell? ⟨k13, 1, none⟩ = some (.int .u64 0) := Kn.get s13x.out 0 1 rfl rfl
  have cz13_2 : w13.cell? ⟨k13, 2, none⟩ = some (.int .u64 0) := Kn.get s13x.out 0 2 rfl rfl
  have cz13_3 : w13.cell? ⟨k13, 3, none⟩ = some (.int .u64 0) := Kn.get s13x.out 0 3 rfl rfl
  have cz13 : ∀ j, w13.frozen? ⟨k13, j, none⟩ = false := Kn.fz s13x.out 0 rfl
  have s13 : Hid (Kn (st4 w13 k13 (ps)) [(k13, (c4 (ps))), (w11.heap.size, (c8 (l3) (h3))), (w7.heap.size, (c8 (l2) (h2))), (w3.heap.size, (c8 (l1) (h1))), (w.heap.size + 1, zz4), (w.heap.size, (c8 (l) (h)))]) := s13x.out.st4 (ps)
  have b13 : Hid (Below w.heap.size w (st4 w13 k13 (ps))) := below_st4 (b12.out.trans (hb13.out.mono b12.out.size)) g13
  clear s13x s12 b12 hb13 hc13 hk13
  go_wp2_with fail
  clear cz13_0 cz13_1 cz13_2 cz13_3 cz13
  refine wp_region_up_then 7 (by kernel_rfl) (by kernel_rfl) (by kernel_rfl) (by kernel_rfl) (by decide) (fun _ _ d _ _ h => by cases d <;> exact h) (fun U hU f hf hcl => ?_)
  have uplus_0 := fun nx => (Kn.get (s13.out.up (hf nx).out) 0 0 rfl rfl : (f nx).cell? ⟨k13, 0, none⟩ = some (.int .u64 (ps).a))
  have uplus_1 := fun nx => (Kn.get (s13.out.up (hf nx).out) 0 1 rfl rfl : (f nx).cell? ⟨k13, 1, none⟩ = some (.int .u64 (ps).b))
  have uplus_2 := fun nx => (Kn.get (s13.out.up (hf nx).out) 0 2 rfl rfl : (f nx).cell? ⟨k13, 2, none⟩ = some (.int .u64 (ps).c))
  have uplus_3 := fun nx => (Kn.get (s13.out.up (hf nx).out) 0 3 rfl rfl : (f nx).cell? ⟨k13, 3, none⟩ = some (.int .u64 (ps).d))
  have ufirst_0 := fun nx => (Kn.get (s13.out.up (hf nx).out) 3 0 rfl rfl : (f nx).cell? ⟨w3.heap.size, 0, none⟩ = some (.int .u64 (l1).a))
  have ufirst_1 := fun nx => (Kn.get (s13.out.up (hf nx).out) 3 1 rfl rfl : (f nx).cell? ⟨w3.heap.size, 1, none⟩ = some (.int .u64 (l1).b))
  have ufirst_2 := fun nx => (Kn.get (s13.out.up (hf nx).out) 3 2 rfl rfl : (f nx).cell? ⟨w3.heap.size, 2, none⟩ = some (.int .u64 (l1).c))
  have ufirst_3 := fun nx => (Kn.get (s13.out.up (hf nx).out) 3 3 rfl rfl : (f nx).cell? ⟨w3.heap.size, 3, none⟩ = some (.int .u64 (l1).d))
  have ufirst_4 := fun nx => (Kn.get (s13.out.up (hf nx).out) 3 4 rfl rfl : (f nx).cell? ⟨w3.heap.size, 4, none⟩ = some (.int .u64 (h1).a))
  have ufirst_5 := fun nx => (Kn.get (s13.out.up (hf nx).out) 3 5 rfl rfl : (f nx).cell? ⟨w3.heap.size, 5, none⟩ = some (.int .u64 (h1).b))
  have ufirst_6 := fun nx => (Kn.get (s13.out.up (hf nx).out) 3 6 rfl rfl : (f nx).cell? ⟨w3.heap.size, 6, none⟩ = some (.int .u64 (h1).c))
  have ufirst_7 := fun nx => (Kn.get (s13.out.up (hf nx).out) 3 7 rfl rfl : (f nx).cell? ⟨w3.heap.size, 7, none⟩ = some (.int .u64 (h1).d))
  have uthird_0 := fun nx => (Kn.get (s13.out.up (hf nx).out) 1 0 rfl rfl : (f nx).cell? ⟨w11.heap.size, 0, none⟩ = some (.int .u64 (l3).a))
  have uthird_1 := fun nx => (Kn.get (s13.out.up (hf nx).out) 1 1 rfl rfl : (f nx).cell? ⟨w11.heap.size, 1, none⟩ = some (.int .u64 (l3).b))
  have uthird_2 := fun nx => (Kn.get (s13.out.up (hf nx).out) 1 2 rfl rfl : (f nx).cell? ⟨w11.heap.size, 2, none⟩ = some (.int .u64 (l3).c))
  have uthird_3 := fun nx => (Kn.get (s13.out.up (hf nx).out) 1 3 rfl rfl : (f nx).cell? ⟨w11.heap.size, 3, none⟩ = some (.int .u64 (l3).d))
  have uthird_4 := fun nx => (Kn.get (s13.out.up (hf nx).out) 1 4 rfl rfl : (f nx).cell? ⟨w11.heap.size, 4, none⟩ = some (.int .u64 (h3).a))
  have uthird_5 := fun nx => (Kn.get (s13.out.up (hf nx).out) 1 5 rfl rfl : (f nx).cell? ⟨w11.heap.size, 5, none⟩ = some (.int .u64 (h3).b))
  have uthird_6 := fun nx => (Kn.get (s13.out.up (hf nx).out) 1 6 rfl rfl : (f nx).cell? ⟨w11.heap.size, 6, none⟩ = some (.int .u64 (h3).c))
  have uthird_7 := fun nx => (Kn.get (s13.out.up (hf nx).out) 1 7 rfl rfl : (f nx).cell? ⟨w11.heap.size, 7, none⟩ = some (.int .u64 (h3).d))
  simp only [List.take_succ_cons, List.take_zero, List.drop_succ_cons, List.drop_zero]
  repeat (go_big_quiet_step (first | (go_at_call_of 60 [Value.agg #[Value.int IntKind.u64 l1.a, Value.int IntKind.u64 l1.b, Value.int IntKind.u64 l1.c, Value.int IntKind.u64 l1.d, Value.int IntKind.u64 h1.a, Value.int IntKind.u64 h1.b, Value.int IntKind.u64 h1.c, Value.int IntKind.u64 h1.d]]; exact (low_fun l1 h1 _).mono fun e w'' ⟨he, hb⟩ => ⟨he, hcl.out _ _ hb⟩) | (go_at_call_of 60 [Value.agg #[Value.int IntKind.u64 l3.a, Value.int IntKind.u64 l3.b, Value.int IntKind.u64 l3.c, Value.int IntKind.u64 l3.d, Value.int IntKind.u64 h3.a, Value.int IntKind.u64 h3.b, Value.int IntKind.u64 h3.c, Value.int IntKind.u64 h3.d]]; exact (low_fun l3 h3 _).mono fun e w'' ⟨he, hb⟩ => ⟨he, hcl.out _ _ hb⟩) | (go_at_call 17; exact (A2 _).mono fun e w'' ⟨he, hb⟩ => ⟨he, hcl.out _ _ hb⟩) | (go_at_call 41; exact (SL _).mono fun e w'' ⟨he, hb⟩ => ⟨he, hcl.out _ _ hb⟩)))
  refine wpQuiet_nil ?_
  intro nx
  have hb14 := (hf nx).out
  clear hf hcl uplus_0 uplus_1 uplus_2 uplus_3 ufirst_0 ufirst_1 ufirst_2 ufirst_3 ufirst_4 ufirst_5 ufirst_6 ufirst_7 uthird_0 uthird_1 uthird_2 uthird_3 uthird_4 uthird_5 uthird_6 uthird_7
  generalize f nx = w14 at hb14 ⊢
  have s14 : Hid (Kn w14 [(k13, (c4 (ps))), (w11.heap.size, (c8 (l3) (h3))), (w7.heap.size, (c8 (l2) (h2))), (w3.heap.size, (c8 (l1) (h1))), (w.heap.size + 1, zz4), (w.heap.size, (c8 (l) (h)))]) := s13.out.up hb14
  have b14 : Hid (Below w.heap.size w w14) := b13.out.trans (hb14.mono b13.out.size)
  have z14 := b14.out.size
  clear hb14 s13 b13
  have uro_0 : w14.cell? ⟨w.heap.size + 1, 0, none⟩ = some (.int .u64 0) := Kn.get s14.out 4 0 rfl rfl
  have uro_1 : w14.cell? ⟨w.heap.size + 1, 1, none⟩ = some (.int .u64 0) := Kn.get s14.out 4 1 rfl rfl
  have uro_2 : w14.cell? ⟨w.heap.size + 1, 2, none⟩ = some (.int .u64 0) := Kn.get s14.out 4 2 rfl rfl
  have uro_3 : w14.cell? ⟨w.heap.size + 1, 3, none⟩ = some (.int .u64 0) := Kn.get s14.out 4 3 rfl rfl
  have uro_z : ∀ j, w14.frozen? ⟨w.heap.size + 1, j, none⟩ = false := Kn.fz s14.out 4 rfl
  have s15 : Hid (Kn (st4 w14 (w.heap.size + 1) (p)) [(w.heap.size + 1, (c4 (p))), (k13, (c4 (ps))), (w11.heap.size, (c8 (l3) (h3))), (w7.heap.size, (c8 (l2) (h2))), (w3.heap.size, (c8 (l1) (h1))), (w.heap.size, (c8 (l) (h)))]) := Kn.st4 (L := [(k13, (c4 (ps))), (w11.heap.size, (c8 (l3) (h3))), (w7.heap.size, (c8 (l2) (h2))), (w3.heap.size, (c8 (l1) (h1))), (w.heap.size, (c8 (l) (h)))]) (s14.out.front 4 rfl) (p)
  have b15 : Hid (Below w.heap.size w (st4 w14 (w.heap.size + 1) (p))) := below_st4 b14.out (by omega)
  clear s14 b14
  go_wp2_with fail
  clear uro_0 uro_1 uro_2 uro_3 uro_z
  have urr_0 : (st4 w14 (w.heap.size + 1) (p)).cell? ⟨w.heap.size + 1, 0, none⟩ = some (.int .u64 (p).a) := Kn.get s15.out 0 0 rfl rfl
  have urr_1 : (st4 w14 (w.heap.size + 1) (p)).cell? ⟨w.heap.size + 1, 1, none⟩ = some (.int .u64 (p).b) := Kn.get s15.out 0 1 rfl rfl
  have urr_2 : (st4 w14 (w.heap.size + 1) (p)).cell? ⟨w.heap.size + 1, 2, none⟩ = some (.int .u64 (p).c) := Kn.get s15.out 0 2 rfl rfl
  have urr_3 : (st4 w14 (w.heap.size + 1) (p)).cell? ⟨w.heap.size + 1, 3, none⟩ = some (.int .u64 (p).d) := Kn.get s15.out 0 3 rfl rfl
  refine bodyPost_ret (v := N p) ?_ rfl ⟨rfl, b15.out⟩
  show (results Tryd.f42 _).run Tryd.prog (st4 w14 (w.heap.size + 1) (p)) = .ok _ (st4 w14 (w.heap.size + 1) (p))
  clear s15 b15
  generalize (st4 w14 (w.heap.size + 1) (p)) = W9 at *
  simp [results, Tryd.results42, go_sem, urr_0, urr_1, urr_2, urr_3]
/-- The number of a wide one's two halves. -/
theorem sRed_fun (l h : Nm) (ol : l.ok) (oh : h.ok) (w : World) :
    Calls Tryd.prog 42 #[Wv l h] w fun e w' => e = .returned (N (nm ((l.nat + 2 ^ 256 * h.nat) % Cv.ord))) ∧ Below w.heap.size w w' := by
  have ll := Nm.nat_lt ol; have lh := Nm.nat_lt oh
  have hk : wlN.nat = 443877084437957656573631004654138375888 := by decide
  have ok : wlN.ok := by constructor <;> (constructor <;> decide)
  have M1 := mul_V h wlN oh ok
  rw [hk, WL_nm, WH_nm] at M1
  have hL : Cv.ord = 7237005577332262213973186563042994240857116359379907606001950938285454250989 := rfl
  have p2 : (2 : Nat) ^ 256 = 115792089237316195423570985008687907853269984665640564039457584007913129639936 := by decide
  have lt : ∀ n, n % 2 ^ 256 < 2 ^ 256 := fun n => Nat.mod_lt _ (by decide)
  obtain ⟨f, hf⟩ : ∃ f, f = h.nat * 443877084437957656573631004654138375888 / 2 ^ 256 := ⟨_, rfl⟩
  obtain ⟨g, hg⟩ : ∃ g, g = h.nat * 443877084437957656573631004654138375888 % 2 ^ 256 := ⟨_, rfl⟩
  have hfg : h.nat * 443877084437957656573631004654138375888 = g + 2 ^ 256 * f := by rw [hf, hg]; exact (Nat.mod_add_div _ _).symm
  have lf : f < 443877084437957656573631004654138375888 := by rw [p2] at *; omega
  have lg : g < 2 ^ 256 := by rw [hg]; exact lt _
  rw [← hf, ← hg] at M1
  have f2 : f < 2 ^ 256 := by rw [p2]; omega
  have M2 := mul_V (nm f) wlN (nm_ok _) ok
  rw [nm_nat f2, hk, WL_nm, WH_nm] at M2
  obtain ⟨s, hs⟩ : ∃ s, s = f * 443877084437957656573631004654138375888 / 2 ^ 256 := ⟨_, rfl⟩
  obtain ⟨t, ht⟩ : ∃ t, t = f * 443877084437957656573631004654138375888 % 2 ^ 256 := ⟨_, rfl⟩
  have hst : f * 443877084437957656573631004654138375888 = t + 2 ^ 256 * s := by rw [hs, ht]; exact (Nat.mod_add_div _ _).symm
  have ls : s < 2 := by rw [p2] at *; omega
  have lt' : t < 2 ^ 256 := by rw [ht]; exact lt _
  rw [← hs, ← ht] at M2
  have s2 : s < 2 ^ 256 := by rw [p2]; omega
  have M3 := mul_V (nm s) wlN (nm_ok _) ok
  have u2 : s * 443877084437957656573631004654138375888 < 2 ^ 256 := by rw [p2]; omega
  rw [nm_nat s2, hk, WL_nm, WH_nm, Nat.mod_eq_of_lt u2] at M3
  have A1 := sAddC l (nm t) ol (nm_ok _)
  have A2 := sAddC (nm g) (nm (s * 443877084437957656573631004654138375888)) (nm_ok _) (nm_ok _)
  rw [nm_nat lt'] at A1
  rw [nm_nat lg, nm_nat u2] at A2
  have ha := Nat.mod_lt (l.nat + t) ord_pos
  have hb := Nat.mod_lt (g + s * 443877084437957656573631004654138375888) ord_pos
  have SL := sless_fun (nm ((l.nat + t) % Cv.ord)) (nm ((g + s * 443877084437957656573631004654138375888) % Cv.ord)) (nm_ok _) (nm_ok _) (by rw [s_nat, s_nat]; omega) (by rw [s_nat, s_nat]; omega)
  rw [s_nat, s_nat] at SL
  have e : ((l.nat + t) % Cv.ord + Cv.ord - (g + s * 443877084437957656573631004654138375888) % Cv.ord) % Cv.ord = (l.nat + 2 ^ 256 * h.nat) % Cv.ord := by
    have q : l.nat + 2 ^ 256 * h.nat + (g + s * 443877084437957656573631004654138375888) = (l.nat + t) + Cv.ord * (16 * h.nat - 16 * f + 16 * s) := by
      rw [p2] at *
      rw [hL]
      omega
    have e1 := Nat.div_add_mod (l.nat + t) Cv.ord
    have e2 := Nat.div_add_mod (g + s * 443877084437957656573631004654138375888) Cv.ord
    generalize (l.nat + t) % Cv.ord = A at *
    generalize (g + s * 443877084437957656573631004654138375888) % Cv.ord = B at *
    generalize (l.nat + t) / Cv.ord = Q1 at *
    generalize (g + s * 443877084437957656573631004654138375888) / Cv.ord = Q2 at *
    generalize 16 * h.nat - 16 * f + 16 * s = Q3 at *
    generalize l.nat + 2 ^ 256 * h.nat = T at *
    clear SL A1 A2 M1 M2 M3 hst hfg hs ht hf hg
    have q2 : (A + Cv.ord - B) + Cv.ord * (Q1 + Q3) = T + Cv.ord * (Q2 + 1) := by
      rw [Nat.mul_add, Nat.mul_add]
      omega
    have := congrArg (· % Cv.ord) q2
    simp only [Nat.add_mul_mod_self_left] at this
    exact this
  rw [e] at SL
  exact sRed_walk l h _ _ _ _ _ _ _ _ _ M1 M2 M3 A1 A2 SL w
set_option maxHeartbeats 1000000 in
theorem sMul_walk (x y l h p : Nm)
    (M1 : ∀ w, Calls Tryd.prog 43 #[N x, N y] w fun e w' => e = .returned (Wv l h) ∧ Below w.heap.size w w')
    (SR : ∀ w, Calls Tryd.prog 42 #[Wv l h] w fun e w' => e = .returned (N p) ∧ Below w.heap.size w w')
    (w : World) :
    Calls Tryd.prog 19 #[N x, N y] w fun e w' => e = .returned (N p) ∧ Below w.heap.size w w' := by
  go_enter Tryd.func19, Tryd.ntmps19
  have s0 : Hid (Kn (kz4 (kal4 (kal4 w (x)) (y))) [(w.heap.size + 1 + 1, zz4), (w.heap.size + 1, (c4 (y))), (w.heap.size, (c4 (x)))]) := ((((Kn.nil w).al (c4 (x)) 24 rfl).al (c4 (y)) 24 (by simp)).al zz4 24 (by simp))
  have b0 : Hid (Below w.heap.size w (kz4 (kal4 (kal4 w (x)) (y)))) := ((((Below.refl _ _).alloc (Nat.le_refl _) _).alloc (by simp <;> omega) _).alloc (by simp <;> omega) _)
  go_wp2_with fail
  refine (M1 _).mono ?_
  rintro e w1 ⟨rfl, hb1⟩
  have s1 : Hid (Kn w1 [(w.heap.size + 1 + 1, zz4), (w.heap.size + 1, (c4 (y))), (w.heap.size, (c4 (x)))]) := s0.out.up hb1
  have b1 : Hid (Below w.heap.size w w1) := b0.out.trans (hb1.mono b0.out.size)
  have z1 := b1.out.size
  clear hb1 s0 b0
  go_wp2_with fail
  refine (SR _).mono ?_
  rintro e w2 ⟨rfl, hb2⟩
  have s2 : Hid (Kn w2 [(w.heap.size + 1 + 1, zz4), (w.heap.size + 1, (c4 (y))), (w.heap.size, (c4 (x)))]) := s1.out.up hb2
  have b2 : Hid (Below w.heap.size w w2) := b1.out.trans (hb2.mono b1.out.size)
  have z2 := b2.out.size
  clear hb2 s1 b1
  have uro_0 : w2.cell? ⟨w.heap.size + 1 + 1, 0, none⟩ = some (.int .u64 0) := Kn.get s2.out 0 0 rfl rfl
  have uro_1 : w2.cell? ⟨w.heap.size + 1 + 1, 1, none⟩ = some (.int .u64 0) := Kn.get s2.out 0 1 rfl rfl
  have uro_2 : w2.cell? ⟨w.heap.size + 1 + 1, 2, none⟩ = some (.int .u64 0) := Kn.get s2.out 0 2 rfl rfl
  have uro_3 : w2.cell? ⟨w.heap.size + 1 + 1, 3, none⟩ = some (.int .u64 0) := Kn.get s2.out 0 3 rfl rfl
  have uro_z : ∀ j, w2.frozen? ⟨w.heap.size + 1 + 1, j, none⟩ = false := Kn.fz s2.out 0 rfl
  have s3 : Hid (Kn (st4 w2 (w.heap.size + 1 + 1) (p)) [(w.heap.size + 1 + 1, (c4 (p))), (w.heap.size + 1, (c4 (y))), (w.heap.size, (c4 (x)))]) := Kn.st4 (L := [(w.heap.size + 1, (c4 (y))), (w.heap.size, (c4 (x)))]) (s2.out.front 0 rfl) (p)
  have b3 : Hid (Below w.heap.size w (st4 w2 (w.heap.size + 1 + 1) (p))) := below_st4 b2.out (by omega)
  clear s2 b2
  go_wp2_with fail
  clear uro_0 uro_1 uro_2 uro_3 uro_z
  have urr_0 : (st4 w2 (w.heap.size + 1 + 1) (p)).cell? ⟨w.heap.size + 1 + 1, 0, none⟩ = some (.int .u64 (p).a) := Kn.get s3.out 0 0 rfl rfl
  have urr_1 : (st4 w2 (w.heap.size + 1 + 1) (p)).cell? ⟨w.heap.size + 1 + 1, 1, none⟩ = some (.int .u64 (p).b) := Kn.get s3.out 0 1 rfl rfl
  have urr_2 : (st4 w2 (w.heap.size + 1 + 1) (p)).cell? ⟨w.heap.size + 1 + 1, 2, none⟩ = some (.int .u64 (p).c) := Kn.get s3.out 0 2 rfl rfl
  have urr_3 : (st4 w2 (w.heap.size + 1 + 1) (p)).cell? ⟨w.heap.size + 1 + 1, 3, none⟩ = some (.int .u64 (p).d) := Kn.get s3.out 0 3 rfl rfl
  refine bodyPost_ret (v := N p) ?_ rfl ⟨rfl, b3.out⟩
  show (results Tryd.f19 _).run Tryd.prog (st4 w2 (w.heap.size + 1 + 1) (p)) = .ok _ (st4 w2 (w.heap.size + 1 + 1) (p))
  clear s3 b3
  generalize (st4 w2 (w.heap.size + 1 + 1) (p)) = W9 at *
  simp [results, Tryd.results19, go_sem, urr_0, urr_1, urr_2, urr_3]
theorem sMulC : SMulC := fun x y ox oy w => by
  -- function 19
  have M1 := mul_V x y ox oy
  have hn := mul_lt512 ox oy
  rw [WL_nm, WH_nm] at M1
  have SR := sRed_fun (nm (x.nat * y.nat % 2 ^ 256)) (nm (x.nat * y.nat / 2 ^ 256)) (nm_ok _) (nm_ok _)
  rw [nm_nat (Nat.mod_lt _ (by decide)), nm_nat (by rw [Nat.div_lt_iff_lt_mul (by decide), ← pow512']; exact hn), Nat.mod_add_div] at SR
  exact sMul_walk x y _ _ _ M1 SR w
end Go.Proofs.YtdcpicbkemmakaaDoor
