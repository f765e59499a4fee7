/- Texts that were joined: COwn, LadNeg. -/
import Derived.Test.YtjdamgfichlgpaaGrp11
import Derived.Test.YtjdamgfichlgpaaGrp49
import Derived.Test.YtjdamgfichlgpaaGrp44
/- The point that is its own Neg, beside Zero; no multiple of the base packs to 0. Mathematics alone. -/
namespace Go.Proofs.Ytjdamgfichlgpaa.Cv
open Go.Proofs.Ytjdamgfichlgpaa
/-- The point that is its own Neg, beside Zero. -/
def own : Pt := (0, F.sub 0 1)
theorem own_on : On own := by
  refine ⟨by decide, by decide, ?_⟩
  show Z _
  unfold Z E own
  decide +kernel
theorem own_sum : add own own = zero := by
  refine (sum_only own_on own_on (R := zero) (by decide) (by decide) ⟨?_, ?_⟩).symm
  · show Z _
    unfold Z own zero
    decide +kernel
  · show Z _
    unfold Z own zero
    decide +kernel
theorem own_2 : Z ((own.2 : Int) + 1) := by
  unfold Z own
  decide +kernel
set_option maxHeartbeats 400000 in
theorem four_flat {P : Pt} (hP : On P) (h : P.2 = 0) : times 4 P = zero := by
  have e2 : own = add P P := by
    have hz : Z (E P.1 P.2) := hP.2.2
    rw [h] at hz
    have ho : Z ((own.2 : Int) + 1) := own_2
    refine sum_only hP hP own_on.1 own_on.2.1 ?_
    rw [h]
    have h1 : (own.1 : Int) = 0 := rfl
    generalize (own.2 : Int) = o at *
    rw [h1]
    generalize (P.1 : Int) = x at *
    unfold E at hz
    generalize (d : Int) = dd at *
    constructor
    · show Z _
      exact Z.zero.of_eq (by grind)
    · show Z _
      exact (ho.add hz).of_eq (by grind)
  have h2 : times 2 P = own := by
    have := times_two hP 1
    rw [times_one hP] at this
    rw [e2]
    exact this
  have h4 := times_two hP 2
  rw [h2, own_sum] at h4
  exact h4
theorem four_mod {r : Nat} (hr : r < ord) (h4 : 4 * r % ord = 0) : r = 0 := by
  obtain ⟨q, hq⟩ := Nat.dvd_of_mod_eq_zero h4
  have ho : ord % 4 = 1 := by decide
  have hq4 : q < 4 := by
    refine Nat.lt_of_mul_lt_mul_left (a := ord) ?_
    rw [← hq, Nat.mul_comm ord 4]
    exact Nat.mul_lt_mul_of_pos_left hr (by decide)
  have hm : ord * q % 4 = 0 := by rw [← hq]; exact Nat.mul_mod_right 4 r
  rw [Nat.mul_mod, ho, Nat.one_mul, Nat.mod_mod, Nat.mod_eq_of_lt hq4] at hm
  rw [hm, Nat.mul_zero] at hq
  omega
theorem pk_no {r : Nat} (h0 : r ≠ 0) (hr : r < ord) : pk (times r base) ≠ 0 := fun e => by
  have hP := times_on base_on r
  have hy : (times r base).2 = 0 := by
    unfold pk at e
    omega
  have h4 := four_flat hP hy
  rw [← times_mul base_on, base_iff] at h4
  exact h0 (four_mod hr h4)
end Go.Proofs.Ytjdamgfichlgpaa.Cv

/- LadderNeg, out of what packages ladder, curve and field must keep. -/
namespace Go.Proofs.Ytjdamgfichlgpaa
open Go.RowKit
attribute [local go_sem] World.cell?_alloc_some cell_alloc2 cell_alloc3 cell_alloc4 frozen?_alloc_cells frozen_out
set_option linter.unusedSimpArgs false
namespace Cv
theorem place_none : place zero = 0 := by
  unfold place zero
  rw [show F.sub 1 (0, 1).2 = 0 by decide, F.inv_zero (by decide)]
  rfl
theorem place_own : place own = 0 := (F.mul_zero_iff _ _).2 (.inl (by decide))
theorem place_base : place base = 9 := by
  have h : ∀ a b c : Nat, b % F.p ≠ 0 → F.mul a b = c → a < F.p → F.mul c (F.inv b) = a := fun a b c hb hc ha => by
    rw [← hc, F.mul_assoc, F.mul_inv hb, F.mul_one, Nat.mod_eq_of_lt ha]
  unfold place
  exact h 9 _ _ (by decide +kernel) (by decide +kernel) (by decide)
theorem place_neg (P : Pt) : place (neg P) = place P := rfl
end Cv
set_option maxHeartbeats 2000000 in
theorem ladNeg_no (px py m1 bx by_ zx zy gx gy : Nm) (e9 : ∀ w, (binOp .neq 24 (N ⟨9, 0, 0, 0⟩) (N ⟨9, 0, 0, 0⟩)).run Try.prog w = .ok (.bool false) w) (e0 : ∀ w, (binOp .neq 24 (N ⟨0, 0, 0, 0⟩) (N ⟨0, 0, 0, 0⟩)).run Try.prog w = .ok (.bool false) w) (ez : ∀ w, (binOp .neq 26 (Wv zx zy) (Wv zx zy)).run Try.prog w = .ok (.bool false) w)
    (SB : ∀ w, Calls Try.prog 27 #[N ⟨0,0,0,0⟩, N ⟨1,0,0,0⟩] w fun e w' => e = .returned (N m1) ∧ Below w.heap.size w w')
    (B1 : ∀ w, Calls Try.prog 28 #[] w fun e w' => e = .returned (Wv bx by_) ∧ Below w.heap.size w w')
    (PB : ∀ w, Calls Try.prog 20 #[Wv bx by_] w fun e w' => e = .returned (N ⟨9,0,0,0⟩) ∧ Below w.heap.size w w')
    (Z1 : ∀ w, Calls Try.prog 29 #[] w fun e w' => e = .returned (Wv zx zy) ∧ Below w.heap.size w w')
    (PZ : ∀ w, Calls Try.prog 20 #[Wv zx zy] w fun e w' => e = .returned (N ⟨0,0,0,0⟩) ∧ Below w.heap.size w w')
    (PO : ∀ w, Calls Try.prog 20 #[Wv ⟨0, 0, 0, 0⟩ m1] w fun e w' => e = .returned (N ⟨0, 0, 0, 0⟩) ∧ Below w.heap.size w w')
    (SU : ∀ w, Calls Try.prog 30 #[Wv ⟨0, 0, 0, 0⟩ m1, Wv ⟨0, 0, 0, 0⟩ m1] w fun e w' => e = .returned (Wv zx zy) ∧ Below w.heap.size w w')
    (NG : ∀ w, Calls Try.prog 31 #[Wv px py] w fun e w' => e = .returned (.tuple #[Wv gx gy, .int .i64 1]) ∧ Below w.heap.size w w')
    (w : World) :
    Calls Try.prog 7 #[Wv px py] w fun e w' => e = .returned (.bool true) ∧ Below w.heap.size w w' := by
  go_enter Try.func7, Try.ntmps7
  have s0 : Hid (Kn (kalP w (px) (py)) [(w.heap.size, (c8 (px) (py)))]) := ((Kn.nil w).al (c8 (px) (py)) 26 rfl)
  have b0 : Hid (Below w.heap.size w (kalP w (px) (py))) := ((Below.refl _ _).alloc (Nat.le_refl _) _)
  go_wp2_with fail
  refine (SB _).mono ?_
  rintro e w1 ⟨rfl, hb1⟩
  have s1 : Hid (Kn w1 [(w.heap.size, (c8 (px) (py)))]) := s0.out.up hb1
  have b1 : Hid (Below w.heap.size w w1) := b0.out.trans (hb1.mono b0.out.size)
  have z1 := b1.out.size
  clear hb1 s0 b0
  have s2 : Hid (Kn (kalP w1 ((⟨0,0,0,0⟩:Nm)) (m1)) [(w1.heap.size, (c8 ((⟨0,0,0,0⟩:Nm)) (m1))), (w.heap.size, (c8 (px) (py)))]) := s1.out.al (c8 ((⟨0,0,0,0⟩:Nm)) (m1)) 26 rfl
  have b2 : Hid (Below w.heap.size w (kalP w1 ((⟨0,0,0,0⟩:Nm)) (m1))) := b1.out.alloc b1.out.size _
  have z2 := b1.out.size
  clear s1 b1
  go_wp2_with fail
  refine (B1 _).mono ?_
  rintro e w3 ⟨rfl, hb3⟩
  have s3 : Hid (Kn w3 [(w1.heap.size, (c8 ((⟨0,0,0,0⟩:Nm)) (m1))), (w.heap.size, (c8 (px) (py)))]) := s2.out.up hb3
  have b3 : Hid (Below w.heap.size w w3) := b2.out.trans (hb3.mono b2.out.size)
  have z3 := b3.out.size
  clear hb3 s2 b2
  go_wp2_with fail
  refine (PB _).mono ?_
  rintro e w4 ⟨rfl, hb4⟩
  have s4 : Hid (Kn w4 [(w1.heap.size, (c8 ((⟨0,0,0,0⟩:Nm)) (m1))), (w.heap.size, (c8 (px) (py)))]) := s3.out.up hb4
  have b4 : Hid (Below w.heap.size w w4) := b3.out.trans (hb4.mono b3.out.size)
  have z4 := b4.out.size
  clear hb4 s3 b3
  go_wp2_with fail
  refine (Z1 _).mono ?_
  rintro e w5 ⟨rfl, hb5⟩
  have s5 : Hid (Kn w5 [(w1.heap.size, (c8 ((⟨0,0,0,0⟩:Nm)) (m1))), (w.heap.size, (c8 (px) (py)))]) := s4.out.up hb5
  have b5 : Hid (Below w.heap.size w w5) := b4.out.trans (hb5.mono b4.out.size)
  have z5 := b5.out.size
  clear hb5 s4 b4
  go_wp2_with fail
  refine (PZ _).mono ?_
  rintro e w6 ⟨rfl, hb6⟩
  have s6 : Hid (Kn w6 [(w1.heap.size, (c8 ((⟨0,0,0,0⟩:Nm)) (m1))), (w.heap.size, (c8 (px) (py)))]) := s5.out.up hb6
  have b6 : Hid (Below w.heap.size w w6) := b5.out.trans (hb6.mono b5.out.size)
  have z6 := b6.out.size
  clear hb6 s5 b5
  have uown_0 : w6.cell? ⟨w1.heap.size, 0, none⟩ = some (.int .u64 ((⟨0,0,0,0⟩:Nm)).a) := Kn.get s6.out 0 0 rfl rfl
  have uown_1 : w6.cell? ⟨w1.heap.size, 1, none⟩ = some (.int .u64 ((⟨0,0,0,0⟩:Nm)).b) := Kn.get s6.out 0 1 rfl rfl
  have uown_2 : w6.cell? ⟨w1.heap.size, 2, none⟩ = some (.int .u64 ((⟨0,0,0,0⟩:Nm)).c) := Kn.get s6.out 0 2 rfl rfl
  have uown_3 : w6.cell? ⟨w1.heap.size, 3, none⟩ = some (.int .u64 ((⟨0,0,0,0⟩:Nm)).d) := Kn.get s6.out 0 3 rfl rfl
  have uown_4 : w6.cell? ⟨w1.heap.size, 4, none⟩ = some (.int .u64 (m1).a) := Kn.get s6.out 0 4 rfl rfl
  have uown_5 : w6.cell? ⟨w1.heap.size, 5, none⟩ = some (.int .u64 (m1).b) := Kn.get s6.out 0 5 rfl rfl
  have uown_6 : w6.cell? ⟨w1.heap.size, 6, none⟩ = some (.int .u64 (m1).c) := Kn.get s6.out 0 6 rfl rfl
  have uown_7 : w6.cell? ⟨w1.heap.size, 7, none⟩ = some (.int .u64 (m1).d) := Kn.get s6.out 0 7 rfl rfl
  go_wp2_with fail
  clear uown_0 uown_1 uown_2 uown_3 uown_4 uown_5 uown_6 uown_7
  refine (PO _).mono ?_
  rintro e w7 ⟨rfl, hb7⟩
  have s7 : Hid (Kn w7 [(w1.heap.size, (c8 ((⟨0,0,0,0⟩:Nm)) (m1))), (w.heap.size, (c8 (px) (py)))]) := s6.out.up hb7
  have b7 : Hid (Below w.heap.size w w7) := b6.out.trans (hb7.mono b6.out.size)
  have z7 := b7.out.size
  clear hb7 s6 b6
  have uown_0 : w7.cell? ⟨w1.heap.size, 0, none⟩ = some (.int .u64 ((⟨0,0,0,0⟩:Nm)).a) := Kn.get s7.out 0 0 rfl rfl
  have uown_1 : w7.cell? ⟨w1.heap.size, 1, none⟩ = some (.int .u64 ((⟨0,0,0,0⟩:Nm)).b) := Kn.get s7.out 0 1 rfl rfl
  have uown_2 : w7.cell? ⟨w1.heap.size, 2, none⟩ = some (.int .u64 ((⟨0,0,0,0⟩:Nm)).c) := Kn.get s7.out 0 2 rfl rfl
  have uown_3 : w7.cell? ⟨w1.heap.size, 3, none⟩ = some (.int .u64 ((⟨0,0,0,0⟩:Nm)).d) := Kn.get s7.out 0 3 rfl rfl
  have uown_4 : w7.cell? ⟨w1.heap.size, 4, none⟩ = some (.int .u64 (m1).a) := Kn.get s7.out 0 4 rfl rfl
  have uown_5 : w7.cell? ⟨w1.heap.size, 5, none⟩ = some (.int .u64 (m1).b) := Kn.get s7.out 0 5 rfl rfl
  have uown_6 : w7.cell? ⟨w1.heap.size, 6, none⟩ = some (.int .u64 (m1).c) := Kn.get s7.out 0 6 rfl rfl
  have uown_7 : w7.cell? ⟨w1.heap.size, 7, none⟩ = some (.int .u64 (m1).d) := Kn.get s7.out 0 7 rfl rfl
  go_wp2_with fail
  clear uown_0 uown_1 uown_2 uown_3 uown_4 uown_5 uown_6 uown_7
  refine (SU _).mono ?_
  rintro e w8 ⟨rfl, hb8⟩
  have s8 : Hid (Kn w8 [(w1.heap.size, (c8 ((⟨0,0,0,0⟩:Nm)) (m1))), (w.heap.size, (c8 (px) (py)))]) := s7.out.up hb8
  have b8 : Hid (Below w.heap.size w w8) := b7.out.trans (hb8.mono b7.out.size)
  have z8 := b8.out.size
  clear hb8 s7 b7
  go_wp2_with fail
  refine (Z1 _).mono ?_
  rintro e w9 ⟨rfl, hb9⟩
  have s9 : Hid (Kn w9 [(w1.heap.size, (c8 ((⟨0,0,0,0⟩:Nm)) (m1))), (w.heap.size, (c8 (px) (py)))]) := s8.out.up hb9
  have b9 : Hid (Below w.heap.size w w9) := b8.out.trans (hb9.mono b8.out.size)
  have z9 := b9.out.size
  clear hb9 s8 b8
  have up_0 : w9.cell? ⟨w.heap.size, 0, none⟩ = some (.int .u64 (px).a) := Kn.get s9.out 1 0 rfl rfl
  have up_1 : w9.cell? ⟨w.heap.size, 1, none⟩ = some (.int .u64 (px).b) := Kn.get s9.out 1 1 rfl rfl
  have up_2 : w9.cell? ⟨w.heap.size, 2, none⟩ = some (.int .u64 (px).c) := Kn.get s9.out 1 2 rfl rfl
  have up_3 : w9.cell? ⟨w.heap.size, 3, none⟩ = some (.int .u64 (px).d) := Kn.get s9.out 1 3 rfl rfl
  have up_4 : w9.cell? ⟨w.heap.size, 4, none⟩ = some (.int .u64 (py).a) := Kn.get s9.out 1 4 rfl rfl
  have up_5 : w9.cell? ⟨w.heap.size, 5, none⟩ = some (.int .u64 (py).b) := Kn.get s9.out 1 5 rfl rfl
  have up_6 : w9.cell? ⟨w.heap.size, 6, none⟩ = some (.int .u64 (py).c) := Kn.get s9.out 1 6 rfl rfl
  have up_7 : w9.cell? ⟨w.heap.size, 7, none⟩ = some (.int .u64 (py).d) := Kn.get s9.out 1 7 rfl rfl
  go_wp2_with fail
  clear up_0 up_1 up_2 up_3 up_4 up_5 up_6 up_7
  refine (NG _).mono ?_
  rintro e w10 ⟨rfl, hb10⟩
  have s10 : Hid (Kn w10 [(w1.heap.size, (c8 ((⟨0,0,0,0⟩:Nm)) (m1))), (w.heap.size, (c8 (px) (py)))]) := s9.out.up hb10
  have b10 : Hid (Below w.heap.size w w10) := b9.out.trans (hb10.mono b9.out.size)
  have z10 := b10.out.size
  clear hb10 s9 b9
  have s11 : Hid (Kn (kalP w10 (gx) (gy)) [(w10.heap.size, (c8 (gx) (gy))), (w1.heap.size, (c8 ((⟨0,0,0,0⟩:Nm)) (m1))), (w.heap.size, (c8 (px) (py)))]) := s10.out.al (c8 (gx) (gy)) 26 rfl
  have b11 : Hid (Below w.heap.size w (kalP w10 (gx) (gy))) := b10.out.alloc b10.out.size _
  have z11 := b10.out.size
  clear s10 b10
  go_wp2_with fail
  refine wp_region_up (by kernel_rfl) (by kernel_rfl) (fun U hU f hf hcl => ?_)
  have un_0 := fun nx => (Kn.get (s11.out.up (hf nx).out) 0 0 rfl rfl : (f nx).cell? ⟨w10.heap.size, 0, none⟩ = some (.int .u64 (gx).a))
  have un_1 := fun nx => (Kn.get (s11.out.up (hf nx).out) 0 1 rfl rfl : (f nx).cell? ⟨w10.heap.size, 1, none⟩ = some (.int .u64 (gx).b))
  have un_2 := fun nx => (Kn.get (s11.out.up (hf nx).out) 0 2 rfl rfl : (f nx).cell? ⟨w10.heap.size, 2, none⟩ = some (.int .u64 (gx).c))
  have un_3 := fun nx => (Kn.get (s11.out.up (hf nx).out) 0 3 rfl rfl : (f nx).cell? ⟨w10.heap.size, 3, none⟩ = some (.int .u64 (gx).d))
  have un_4 := fun nx => (Kn.get (s11.out.up (hf nx).out) 0 4 rfl rfl : (f nx).cell? ⟨w10.heap.size, 4, none⟩ = some (.int .u64 (gy).a))
  have un_5 := fun nx => (Kn.get (s11.out.up (hf nx).out) 0 5 rfl rfl : (f nx).cell? ⟨w10.heap.size, 5, none⟩ = some (.int .u64 (gy).b))
  have un_6 := fun nx => (Kn.get (s11.out.up (hf nx).out) 0 6 rfl rfl : (f nx).cell? ⟨w10.heap.size, 6, none⟩ = some (.int .u64 (gy).c))
  have un_7 := fun nx => (Kn.get (s11.out.up (hf nx).out) 0 7 rfl rfl : (f nx).cell? ⟨w10.heap.size, 7, none⟩ = some (.int .u64 (gy).d))
  have up_0 := fun nx => (Kn.get (s11.out.up (hf nx).out) 2 0 rfl rfl : (f nx).cell? ⟨w.heap.size, 0, none⟩ = some (.int .u64 (px).a))
  have up_1 := fun nx => (Kn.get (s11.out.up (hf nx).out) 2 1 rfl rfl : (f nx).cell? ⟨w.heap.size, 1, none⟩ = some (.int .u64 (px).b))
  have up_2 := fun nx => (Kn.get (s11.out.up (hf nx).out) 2 2 rfl rfl : (f nx).cell? ⟨w.heap.size, 2, none⟩ = some (.int .u64 (px).c))
  have up_3 := fun nx => (Kn.get (s11.out.up (hf nx).out) 2 3 rfl rfl : (f nx).cell? ⟨w.heap.size, 3, none⟩ = some (.int .u64 (px).d))
  have up_4 := fun nx => (Kn.get (s11.out.up (hf nx).out) 2 4 rfl rfl : (f nx).cell? ⟨w.heap.size, 4, none⟩ = some (.int .u64 (py).a))
  have up_5 := fun nx => (Kn.get (s11.out.up (hf nx).out) 2 5 rfl rfl : (f nx).cell? ⟨w.heap.size, 5, none⟩ = some (.int .u64 (py).b))
  have up_6 := fun nx => (Kn.get (s11.out.up (hf nx).out) 2 6 rfl rfl : (f nx).cell? ⟨w.heap.size, 6, none⟩ = some (.int .u64 (py).c))
  have up_7 := fun nx => (Kn.get (s11.out.up (hf nx).out) 2 7 rfl rfl : (f nx).cell? ⟨w.heap.size, 7, none⟩ = some (.int .u64 (py).d))
  try simp only [List.append_eq, List.cons_append, List.nil_append]
  repeat (go_big_quiet_step (first | fail))
  refine wpQuiet_nil ?_
  intro nx
  have hb12 := (hf nx).out
  clear hf hcl un_0 un_1 un_2 un_3 un_4 un_5 un_6 un_7 up_0 up_1 up_2 up_3 up_4 up_5 up_6 up_7
  generalize f nx = w12 at hb12 ⊢
  have s12 : Hid (Kn w12 [(w10.heap.size, (c8 (gx) (gy))), (w1.heap.size, (c8 ((⟨0,0,0,0⟩:Nm)) (m1))), (w.heap.size, (c8 (px) (py)))]) := s11.out.up hb12
  have b12 : Hid (Below w.heap.size w w12) := b11.out.trans (hb12.mono b11.out.size)
  have z12 := b12.out.size
  clear hb12 s11 b11
  go_wp2_with fail
  go_ret
  exact ⟨rfl, b12.out⟩
set_option maxHeartbeats 2000000 in
theorem ladNeg_yes (px py m1 bx by_ zx zy gx gy u : Nm) (e9 : ∀ w, (binOp .neq 24 (N ⟨9, 0, 0, 0⟩) (N ⟨9, 0, 0, 0⟩)).run Try.prog w = .ok (.bool false) w) (e0 : ∀ w, (binOp .neq 24 (N ⟨0, 0, 0, 0⟩) (N ⟨0, 0, 0, 0⟩)).run Try.prog w = .ok (.bool false) w) (ez : ∀ w, (binOp .neq 26 (Wv zx zy) (Wv zx zy)).run Try.prog w = .ok (.bool false) w) (eu : ∀ w, (binOp .eql 24 (N u) (N u)).run Try.prog w = .ok (.bool true) w)
    (SB : ∀ w, Calls Try.prog 27 #[N ⟨0,0,0,0⟩, N ⟨1,0,0,0⟩] w fun e w' => e = .returned (N m1) ∧ Below w.heap.size w w')
    (B1 : ∀ w, Calls Try.prog 28 #[] w fun e w' => e = .returned (Wv bx by_) ∧ Below w.heap.size w w')
    (PB : ∀ w, Calls Try.prog 20 #[Wv bx by_] w fun e w' => e = .returned (N ⟨9,0,0,0⟩) ∧ Below w.heap.size w w')
    (Z1 : ∀ w, Calls Try.prog 29 #[] w fun e w' => e = .returned (Wv zx zy) ∧ Below w.heap.size w w')
    (PZ : ∀ w, Calls Try.prog 20 #[Wv zx zy] w fun e w' => e = .returned (N ⟨0,0,0,0⟩) ∧ Below w.heap.size w w')
    (PO : ∀ w, Calls Try.prog 20 #[Wv ⟨0, 0, 0, 0⟩ m1] w fun e w' => e = .returned (N ⟨0, 0, 0, 0⟩) ∧ Below w.heap.size w w')
    (SU : ∀ w, Calls Try.prog 30 #[Wv ⟨0, 0, 0, 0⟩ m1, Wv ⟨0, 0, 0, 0⟩ m1] w fun e w' => e = .returned (Wv zx zy) ∧ Below w.heap.size w w')
    (NG : ∀ w, Calls Try.prog 31 #[Wv px py] w fun e w' => e = .returned (.tuple #[Wv gx gy, .int .i64 0]) ∧ Below w.heap.size w w')
    (P1 : ∀ w, Calls Try.prog 20 #[Wv gx gy] w fun e w' => e = .returned (N u) ∧ Below w.heap.size w w')
    (P2 : ∀ w, Calls Try.prog 20 #[Wv px py] w fun e w' => e = .returned (N u) ∧ Below w.heap.size w w')
    (w : World) :
    Calls Try.prog 7 #[Wv px py] w fun e w' => e = .returned (.bool true) ∧ Below w.heap.size w w' := by
  go_enter Try.func7, Try.ntmps7
  have s0 : Hid (Kn (kalP w (px) (py)) [(w.heap.size, (c8 (px) (py)))]) := ((Kn.nil w).al (c8 (px) (py)) 26 rfl)
  have b0 : Hid (Below w.heap.size w (kalP w (px) (py))) := ((Below.refl _ _).alloc (Nat.le_refl _) _)
  go_wp2_with fail
  refine (SB _).mono ?_
  rintro e w1 ⟨rfl, hb1⟩
  have s1 : Hid (Kn w1 [(w.heap.size, (c8 (px) (py)))]) := s0.out.up hb1
  have b1 : Hid (Below w.heap.size w w1) := b0.out.trans (hb1.mono b0.out.size)
  have z1 := b1.out.size
  clear hb1 s0 b0
  have s2 : Hid (Kn (kalP w1 ((⟨0,0,0,0⟩:Nm)) (m1)) [(w1.heap.size, (c8 ((⟨0,0,0,0⟩:Nm)) (m1))), (w.heap.size, (c8 (px) (py)))]) := s1.out.al (c8 ((⟨0,0,0,0⟩:Nm)) (m1)) 26 rfl
  have b2 : Hid (Below w.heap.size w (kalP w1 ((⟨0,0,0,0⟩:Nm)) (m1))) := b1.out.alloc b1.out.size _
  have z2 := b1.out.size
  clear s1 b1
  go_wp2_with fail
  refine (B1 _).mono ?_
  rintro e w3 ⟨rfl, hb3⟩
  have s3 : Hid (Kn w3 [(w1.heap.size, (c8 ((⟨0,0,0,0⟩:Nm)) (m1))), (w.heap.size, (c8 (px) (py)))]) := s2.out.up hb3
  have b3 : Hid (Below w.heap.size w w3) := b2.out.trans (hb3.mono b2.out.size)
  have z3 := b3.out.size
  clear hb3 s2 b2
  go_wp2_with fail
  refine (PB _).mono ?_
  rintro e w4 ⟨rfl, hb4⟩
  have s4 : Hid (Kn w4 [(w1.heap.size, (c8 ((⟨0,0,0,0⟩:Nm)) (m1))), (w.heap.size, (c8 (px) (py)))]) := s3.out.up hb4
  have b4 : Hid (Below w.heap.size w w4) := b3.out.trans (hb4.mono b3.out.size)
  have z4 := b4.out.size
  clear hb4 s3 b3
  go_wp2_with fail
  refine (Z1 _).mono ?_
  rintro e w5 ⟨rfl, hb5⟩
  have s5 : Hid (Kn w5 [(w1.heap.size, (c8 ((⟨0,0,0,0⟩:Nm)) (m1))), (w.heap.size, (c8 (px) (py)))]) := s4.out.up hb5
  have b5 : Hid (Below w.heap.size w w5) := b4.out.trans (hb5.mono b4.out.size)
  have z5 := b5.out.size
  clear hb5 s4 b4
  go_wp2_with fail
  refine (PZ _).mono ?_
  rintro e w6 ⟨rfl, hb6⟩
  have s6 : Hid (Kn w6 [(w1.heap.size, (c8 ((⟨0,0,0,0⟩:Nm)) (m1))), (w.heap.size, (c8 (px) (py)))]) := s5.out.up hb6
  have b6 : Hid (Below w.heap.size w w6) := b5.out.trans (hb6.mono b5.out.size)
  have z6 := b6.out.size
  clear hb6 s5 b5
  have uown_0 : w6.cell? ⟨w1.heap.size, 0, none⟩ = some (.int .u64 ((⟨0,0,0,0⟩:Nm)).a) := Kn.get s6.out 0 0 rfl rfl
  have uown_1 : w6.cell? ⟨w1.heap.size, 1, none⟩ = some (.int .u64 ((⟨0,0,0,0⟩:Nm)).b) := Kn.get s6.out 0 1 rfl rfl
  have uown_2 : w6.cell? ⟨w1.heap.size, 2, none⟩ = some (.int .u64 ((⟨0,0,0,0⟩:Nm)).c) := Kn.get s6.out 0 2 rfl rfl
  have uown_3 : w6.cell? ⟨w1.heap.size, 3, none⟩ = some (.int .u64 ((⟨0,0,0,0⟩:Nm)).d) := Kn.get s6.out 0 3 rfl rfl
  have uown_4 : w6.cell? ⟨w1.heap.size, 4, none⟩ = some (.int .u64 (m1).a) := Kn.get s6.out 0 4 rfl rfl
  have uown_5 : w6.cell? ⟨w1.heap.size, 5, none⟩ = some (.int .u64 (m1).b) := Kn.get s6.out 0 5 rfl rfl
  have uown_6 : w6.cell? ⟨w1.heap.size, 6, none⟩ = some (.int .u64 (m1).c) := Kn.get s6.out 0 6 rfl rfl
  have uown_7 : w6.cell? ⟨w1.heap.size, 7, none⟩ = some (.int .u64 (m1).d) := Kn.get s6.out 0 7 rfl rfl
  go_wp2_with fail
  clear uown_0 uown_1 uown_2 uown_3 uown_4 uown_5 uown_6 uown_7
  refine (PO _).mono ?_
  rintro e w7 ⟨rfl, hb7⟩
  have s7 : Hid (Kn w7 [(w1.heap.size, (c8 ((⟨0,0,0,0⟩:Nm)) (m1))), (w.heap.size, (c8 (px) (py)))]) := s6.out.up hb7
  have b7 : Hid (Below w.heap.size w w7) := b6.out.trans (hb7.mono b6.out.size)
  have z7 := b7.out.size
  clear hb7 s6 b6
  have uown_0 : w7.cell? ⟨w1.heap.size, 0, none⟩ = some (.int .u64 ((⟨0,0,0,0⟩:Nm)).a) := Kn.get s7.out 0 0 rfl rfl
  have uown_1 : w7.cell? ⟨w1.heap.size, 1, none⟩ = some (.int .u64 ((⟨0,0,0,0⟩:Nm)).b) := Kn.get s7.out 0 1 rfl rfl
  have uown_2 : w7.cell? ⟨w1.heap.size, 2, none⟩ = some (.int .u64 ((⟨0,0,0,0⟩:Nm)).c) := Kn.get s7.out 0 2 rfl rfl
  have uown_3 : w7.cell? ⟨w1.heap.size, 3, none⟩ = some (.int .u64 ((⟨0,0,0,0⟩:Nm)).d) := Kn.get s7.out 0 3 rfl rfl
  have uown_4 : w7.cell? ⟨w1.heap.size, 4, none⟩ = some (.int .u64 (m1).a) := Kn.get s7.out 0 4 rfl rfl
  have uown_5 : w7.cell? ⟨w1.heap.size, 5, none⟩ = some (.int .u64 (m1).b) := Kn.get s7.out 0 5 rfl rfl
  have uown_6 : w7.cell? ⟨w1.heap.size, 6, none⟩ = some (.int .u64 (m1).c) := Kn.get s7.out 0 6 rfl rfl
  have uown_7 : w7.cell? ⟨w1.heap.size, 7, none⟩ = some (.int .u64 (m1).d) := Kn.get s7.out 0 7 rfl rfl
  go_wp2_with fail
  clear uown_0 uown_1 uown_2 uown_3 uown_4 uown_5 uown_6 uown_7
  refine (SU _).mono ?_
  rintro e w8 ⟨rfl, hb8⟩
  have s8 : Hid (Kn w8 [(w1.heap.size, (c8 ((⟨0,0,0,0⟩:Nm)) (m1))), (w.heap.size, (c8 (px) (py)))]) := s7.out.up hb8
  have b8 : Hid (Below w.heap.size w w8) := b7.out.trans (hb8.mono b7.out.size)
  have z8 := b8.out.size
  clear hb8 s7 b7
  go_wp2_with fail
  refine (Z1 _).mono ?_
  rintro e w9 ⟨rfl, hb9⟩
  have s9 : Hid (Kn w9 [(w1.heap.size, (c8 ((⟨0,0,0,0⟩:Nm)) (m1))), (w.heap.size, (c8 (px) (py)))]) := s8.out.up hb9
  have b9 : Hid (Below w.heap.size w w9) := b8.out.trans (hb9.mono b8.out.size)
  have z9 := b9.out.size
  clear hb9 s8 b8
  have up_0 : w9.cell? ⟨w.heap.size, 0, none⟩ = some (.int .u64 (px).a) := Kn.get s9.out 1 0 rfl rfl
  have up_1 : w9.cell? ⟨w.heap.size, 1, none⟩ = some (.int .u64 (px).b) := Kn.get s9.out 1 1 rfl rfl
  have up_2 : w9.cell? ⟨w.heap.size, 2, none⟩ = some (.int .u64 (px).c) := Kn.get s9.out 1 2 rfl rfl
  have up_3 : w9.cell? ⟨w.heap.size, 3, none⟩ = some (.int .u64 (px).d) := Kn.get s9.out 1 3 rfl rfl
  have up_4 : w9.cell? ⟨w.heap.size, 4, none⟩ = some (.int .u64 (py).a) := Kn.get s9.out 1 4 rfl rfl
  have up_5 : w9.cell? ⟨w.heap.size, 5, none⟩ = some (.int .u64 (py).b) := Kn.get s9.out 1 5 rfl rfl
  have up_6 : w9.cell? ⟨w.heap.size, 6, none⟩ = some (.int .u64 (py).c) := Kn.get s9.out 1 6 rfl rfl
  have up_7 : w9.cell? ⟨w.heap.size, 7, none⟩ = some (.int .u64 (py).d) := Kn.get s9.out 1 7 rfl rfl
  go_wp2_with fail
  clear up_0 up_1 up_2 up_3 up_4 up_5 up_6 up_7
  refine (NG _).mono ?_
  rintro e w10 ⟨rfl, hb10⟩
  have s10 : Hid (Kn w10 [(w1.heap.size, (c8 ((⟨0,0,0,0⟩:Nm)) (m1))), (w.heap.size, (c8 (px) (py)))]) := s9.out.up hb10
  have b10 : Hid (Below w.heap.size w w10) := b9.out.trans (hb10.mono b9.out.size)
  have z10 := b10.out.size
  clear hb10 s9 b9
  have s11 : Hid (Kn (kalP w10 (gx) (gy)) [(w10.heap.size, (c8 (gx) (gy))), (w1.heap.size, (c8 ((⟨0,0,0,0⟩:Nm)) (m1))), (w.heap.size, (c8 (px) (py)))]) := s10.out.al (c8 (gx) (gy)) 26 rfl
  have b11 : Hid (Below w.heap.size w (kalP w10 (gx) (gy))) := b10.out.alloc b10.out.size _
  have z11 := b10.out.size
  clear s10 b10
  go_wp2_with fail
  refine wp_region_up (by kernel_rfl) (by kernel_rfl) (fun U hU f hf hcl => ?_)
  have un_0 := fun nx => (Kn.get (s11.out.up (hf nx).out) 0 0 rfl rfl : (f nx).cell? ⟨w10.heap.size, 0, none⟩ = some (.int .u64 (gx).a))
  have un_1 := fun nx => (Kn.get (s11.out.up (hf nx).out) 0 1 rfl rfl : (f nx).cell? ⟨w10.heap.size, 1, none⟩ = some (.int .u64 (gx).b))
  have un_2 := fun nx => (Kn.get (s11.out.up (hf nx).out) 0 2 rfl rfl : (f nx).cell? ⟨w10.heap.size, 2, none⟩ = some (.int .u64 (gx).c))
  have un_3 := fun nx => (Kn.get (s11.out.up (hf nx).out) 0 3 rfl rfl : (f nx).cell? ⟨w10.heap.size, 3, none⟩ = some (.int .u64 (gx).d))
  have un_4 := fun nx => (Kn.get (s11.out.up (hf nx).out) 0 4 rfl rfl : (f nx).cell? ⟨w10.heap.size, 4, none⟩ = some (.int .u64 (gy).a))
  have un_5 := fun nx => (Kn.get (s11.out.up (hf nx).out) 0 5 rfl rfl : (f nx).cell? ⟨w10.heap.size, 5, none⟩ = some (.int .u64 (gy).b))
  have un_6 := fun nx => (Kn.get (s11.out.up (hf nx).out) 0 6 rfl rfl : (f nx).cell? ⟨w10.heap.size, 6, none⟩ = some (.int .u64 (gy).c))
  have un_7 := fun nx => (Kn.get (s11.out.up (hf nx).out) 0 7 rfl rfl : (f nx).cell? ⟨w10.heap.size, 7, none⟩ = some (.int .u64 (gy).d))
  have up_0 := fun nx => (Kn.get (s11.out.up (hf nx).out) 2 0 rfl rfl : (f nx).cell? ⟨w.heap.size, 0, none⟩ = some (.int .u64 (px).a))
  have up_1 := fun nx => (Kn.get (s11.out.up (hf nx).out) 2 1 rfl rfl : (f nx).cell? ⟨w.heap.size, 1, none⟩ = some (.int .u64 (px).b))
  have up_2 := fun nx => (Kn.get (s11.out.up (hf nx).out) 2 2 rfl rfl : (f nx).cell? ⟨w.heap.size, 2, none⟩ = some (.int .u64 (px).c))
  have up_3 := fun nx => (Kn.get (s11.out.up (hf nx).out) 2 3 rfl rfl : (f nx).cell? ⟨w.heap.size, 3, none⟩ = some (.int .u64 (px).d))
  have up_4 := fun nx => (Kn.get (s11.out.up (hf nx).out) 2 4 rfl rfl : (f nx).cell? ⟨w.heap.size, 4, none⟩ = some (.int .u64 (py).a))
  have up_5 := fun nx => (Kn.get (s11.out.up (hf nx).out) 2 5 rfl rfl : (f nx).cell? ⟨w.heap.size, 5, none⟩ = some (.int .u64 (py).b))
  have up_6 := fun nx => (Kn.get (s11.out.up (hf nx).out) 2 6 rfl rfl : (f nx).cell? ⟨w.heap.size, 6, none⟩ = some (.int .u64 (py).c))
  have up_7 := fun nx => (Kn.get (s11.out.up (hf nx).out) 2 7 rfl rfl : (f nx).cell? ⟨w.heap.size, 7, none⟩ = some (.int .u64 (py).d))
  try simp only [List.append_eq, List.cons_append, List.nil_append]
  repeat (go_big_quiet_step (first | (go_at_call_of 20 [Value.agg #[Value.int IntKind.u64 gx.a, Value.int IntKind.u64 gx.b, Value.int IntKind.u64 gx.c, Value.int IntKind.u64 gx.d, Value.int IntKind.u64 gy.a, Value.int IntKind.u64 gy.b, Value.int IntKind.u64 gy.c, Value.int IntKind.u64 gy.d]]; exact (P1 _).mono fun e w'' ⟨he, hb⟩ => ⟨he, hcl.out _ _ hb⟩) | (go_at_call_of 20 [Value.agg #[Value.int IntKind.u64 px.a, Value.int IntKind.u64 px.b, Value.int IntKind.u64 px.c, Value.int IntKind.u64 px.d, Value.int IntKind.u64 py.a, Value.int IntKind.u64 py.b, Value.int IntKind.u64 py.c, Value.int IntKind.u64 py.d]]; exact (P2 _).mono fun e w'' ⟨he, hb⟩ => ⟨he, hcl.out _ _ hb⟩)))
  refine wpQuiet_nil ?_
  intro nx
  have hb12 := (hf nx).out
  clear hf hcl un_0 un_1 un_2 un_3 un_4 un_5 un_6 un_7 up_0 up_1 up_2 up_3 up_4 up_5 up_6 up_7
  generalize f nx = w12 at hb12 ⊢
  have s12 : Hid (Kn w12 [(w10.heap.size, (c8 (gx) (gy))), (w1.heap.size, (c8 ((⟨0,0,0,0⟩:Nm)) (m1))), (w.heap.size, (c8 (px) (py)))]) := s11.out.up hb12
  have b12 : Hid (Below w.heap.size w w12) := b11.out.trans (hb12.mono b11.out.size)
  have z12 := b12.out.size
  clear hb12 s11 b11
  go_wp2_with fail
  go_ret
  exact ⟨rfl, b12.out⟩
theorem ladNeg_of (FS : FSubC) (LO : LOfC) (CZ : CZeroC) (CB : CBaseC) (CA : CAddC) (CN : CNegC) (CM : CNegN) (px py : Nm) (a1 : px.ok) (a2 : py.ok) (w : World) :
    Calls Try.prog 7 #[Wv px py] w fun e w' => e = .returned (.bool true) ∧ Below w.heap.size w w' := by
  have ne : ∀ (x : Nm) w, (binOp .neq 24 (N x) (N x)).run Try.prog w = .ok (.bool false) w := fun x w => by rw [neN, Nm.beq_self]; rfl
  have eq : ∀ (x : Nm) w, (binOp .eql 24 (N x) (N x)).run Try.prog w = .ok (.bool true) w := fun x w => by rw [eqN, Nm.beq_self]
  have nz : ∀ (x y : Nm) w, (binOp .neq 26 (Wv x y) (Wv x y)).run Try.prog w = .ok (.bool false) w := fun x y w => by rw [neP, Nm.beq_self, Nm.beq_self]; rfl
  have PB := place_fun LO _ Cv.base_on
  rw [Cv.place_base] at PB
  have PZ := place_fun LO _ Cv.zero_on
  rw [Cv.place_none] at PZ
  have PO := place_fun LO _ Cv.own_on
  rw [Cv.place_own] at PO
  have SU := sum_fun CA _ _ Cv.own_on Cv.own_on
  rw [Cv.own_sum] at SU
  have SB := FS ⟨0, 0, 0, 0⟩ ⟨1, 0, 0, 0⟩ (by constructor <;> (constructor <;> decide)) fo_ok
  by_cases hP : Cv.On (px.nat, py.nat)
  · have N1 := CN _ hP
    have P1 := place_fun LO _ (Cv.neg_on hP)
    rw [Cv.place_neg] at P1
    have P2 := place_fun LO _ hP
    rw [← pv_of a1 a2] at N1 P2
    exact ladNeg_yes px py _ _ _ _ _ _ _ _ (ne _) (ne _) (nz _ _) (eq _) SB CB PB CZ PZ PO SU N1 P1 P2 w
  · exact ladNeg_no px py _ _ _ _ _ _ _ (ne _) (ne _) (nz _ _) SB CB PB CZ PZ PO SU (CM px py a1 a2 hP) w
end Go.Proofs.Ytjdamgfichlgpaa
