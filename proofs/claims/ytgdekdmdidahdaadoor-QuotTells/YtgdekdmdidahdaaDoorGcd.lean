/- The contract of quot.Gcd: the greatest common divisor, by halves. -/
import Derived.Test.YtgdekdmdidahdaaDoorTz
import Derived.Test.YtgdekdmdidahdaaDoorMem
namespace Go.Proofs.YtgdekdmdidahdaaDoor
open Go.RowKit
attribute [local go_sem] World.cell?_alloc_some frozen?_alloc_cells frozen_out

theorem odd_cop {a : Nat} (h : a % 2 = 1) (k : Nat) : Nat.Coprime (2 ^ k) a := by
  apply Nat.Coprime.pow_left
  unfold Nat.Coprime
  rw [Nat.gcd_rec, h]; rfl
theorem gcd_odd {a : Nat} (h : a % 2 = 1) (k b : Nat) : Nat.gcd a (2 ^ k * b) = Nat.gcd a b :=
  Nat.Coprime.gcd_mul_left_cancel_right b (odd_cop h k)
theorem gcd_twos {u v s t : Nat} (hu : u % 2 = 1) (hv : v % 2 = 1) : Nat.gcd (2 ^ s * u) (2 ^ t * v) = 2 ^ min s t * Nat.gcd u v := by
  rcases Nat.le_total s t with h | h
  · obtain ⟨d, rfl⟩ := Nat.exists_eq_add_of_le h
    rw [Nat.min_eq_left h, Nat.pow_add, Nat.mul_assoc, Nat.gcd_mul_left, gcd_odd hu]
  · obtain ⟨d, rfl⟩ := Nat.exists_eq_add_of_le h
    rw [Nat.min_eq_right h, Nat.pow_add, Nat.mul_assoc, Nat.gcd_mul_left, Nat.gcd_comm, gcd_odd hv, Nat.gcd_comm]
theorem odd_nat {x : Nm} (hx : x.ok) (h0 : x ≠ ⟨0, 0, 0, 0⟩) : (oddN x).ok ∧ x.nat = 2 ^ twosN x * (oddN x).nat ∧ (oddN x).nat % 2 = 1 ∧ (oddN x).nat ≤ x.nat := by
  obtain ⟨h1, u, hu⟩ := twos_spec hx h0
  have e : x.val / 2 ^ twosN x = ((2 * u + 1 : Nat) : Int) := by
    rw [← Nm.nat_cast hx, hu, Int.natCast_mul, cast_pow2, Int.mul_ediv_cancel_left _ (by have : (0 : Int) < 2 ^ twosN x := Int.pow_pos (by omega); omega)]
  have le : 2 * u + 1 ≤ x.nat := by rw [hu]; exact Nat.le_mul_of_pos_left _ (Nat.two_pow_pos _)
  have n : (oddN x).nat = 2 * u + 1 := by
    unfold oddN
    rw [e]
    exact Nm.of_nat (Nat.lt_of_le_of_lt le (Nm.nat_lt hx))
  exact ⟨Nm.of_ok _, by rw [n]; exact hu, by rw [n]; omega, by rw [n]; exact le⟩
/-- What lies where while Gcd goes round. -/
structure GcdSt (w : World) (s : Nat) (x y : Nm) : Prop where
  x : Cells4 w s (.int .u64 x.a) (.int .u64 x.b) (.int .u64 x.c) (.int .u64 x.d)
  y : Cells4 w (s + 1) (.int .u64 y.a) (.int .u64 y.b) (.int .u64 y.c) (.int .u64 y.d)
  r : Cells4 w (s + 1 + 1) (.int .u64 0) (.int .u64 0) (.int .u64 0) (.int .u64 0)
theorem GcdSt.up {W w1 : World} {s : Nat} {x y : Nm} (q : GcdSt W s x y) (hb : Below W.heap.size W w1) : GcdSt w1 s x y := ⟨q.x.up hb, q.y.up hb, q.r.up hb⟩
theorem GcdSt.setx {w : World} {s : Nat} {x y : Nm} (q : GcdSt w s x y) (z : Nm) : GcdSt (st4 w s z) s z y := ⟨q.x.st4_self, q.y.st4_ne (by omega), q.r.st4_ne (by omega)⟩
theorem GcdSt.sety {w : World} {s : Nat} {x y : Nm} (q : GcdSt w s x y) (z : Nm) : GcdSt (st4 w (s + 1) z) s x z := ⟨q.x.st4_ne (by omega), q.y.st4_self, q.r.st4_ne (by omega)⟩

theorem sub_nat {p q : Nm} (op : p.ok) (oq : q.ok) (h : p.nat ≤ q.nat) : (subS q p).ok ∧ (subS q p).nat = q.nat - p.nat := by
  refine ⟨Nm.of_ok _, ?_⟩
  have e : (q.val - p.val) % M = ((q.nat - p.nat : Nat) : Int) := by
    rw [← Nm.nat_cast oq, ← Nm.nat_cast op, ← Int.ofNat_sub h]
    refine Int.emod_eq_of_lt (Int.natCast_nonneg _) ?_
    have := Nm.nat_lt oq
    rw [M_cast]
    omega
  unfold subS
  rw [e]
  exact Nm.of_nat (by have := Nm.nat_lt oq; omega)
set_option maxHeartbeats 1000000 in
theorem gcd_walk (a b r : Nm) (c G : Nat) (oa : a.ok) (ob : b.ok) (na : a ≠ ⟨0, 0, 0, 0⟩) (nb : b ≠ ⟨0, 0, 0, 0⟩)
    (hE1 : ∀ i : Decidable (twosN b < twosN a), @ite Int (twosN b < twosN a) i (twosN b : Int) (twosN a : Int) = c)
    (hG : Nat.gcd (oddN a).nat b.nat = G)
    (SR : ∀ x : Nm, x.ok → x.nat = G → ∀ w, Calls Tryd.prog 22 #[N x, .int .i64 c] w fun e w' => e = .returned (N r) ∧ Below w.heap.size w w')
    (w : World) (hT : Tab w) :
    Calls Tryd.prog 6 #[N a, N b] w fun e w' => e = .returned (N r) ∧ Below w.heap.size w w' := by
  have T1 : Hid (∀ w1, Below w.heap.size w w1 → Tab w1) := fun w1 hb => hT.below hT.pos hb
  have e1 := eqN a ⟨0, 0, 0, 0⟩
  rw [Nm.beq_ne na] at e1
  have e2 := eqN b ⟨0, 0, 0, 0⟩
  rw [Nm.beq_ne nb] at e2
  have TA : Hid _ := twos_fun a oa
  have TB : Hid _ := twos_fun b ob
  have OA : Hid _ := odd_fun a oa na
  have HG : Hid _ := hG
  clear hT hG
  go_enter Tryd.func6, Tryd.ntmps6
  have b0 : Hid (Below w.heap.size w (((w.alloc (.cells #[.int .u64 a.a, .int .u64 a.b, .int .u64 a.c, .int .u64 a.d] 26)).alloc (.cells #[.int .u64 b.a, .int .u64 b.b, .int .u64 b.c, .int .u64 b.d] 26)).alloc (.cells #[.int .u64 0, .int .u64 0, .int .u64 0, .int .u64 0] 26))) := ((((Below.refl w.heap.size w).alloc (Nat.le_refl _) _).alloc (by simp) _).alloc (by simp; omega) _)
  have g0 : Hid (GcdSt (((w.alloc (.cells #[.int .u64 a.a, .int .u64 a.b, .int .u64 a.c, .int .u64 a.d] 26)).alloc (.cells #[.int .u64 b.a, .int .u64 b.b, .int .u64 b.c, .int .u64 b.d] 26)).alloc (.cells #[.int .u64 0, .int .u64 0, .int .u64 0, .int .u64 0] 26)) w.heap.size a b) := by
    refine ⟨?_, ?_, ?_⟩ <;> constructor <;> simp [go_sem]
  go_wp2_with fail
  refine wp_region_up (by kernel_rfl) (by kernel_rfl) (fun U hU f hf hcl => ?_)
  have qa := fun n => Lies.up (x := a) (k := w.heap.size) g0.out.x.lies (hf n).out
  have qa_a := fun n => (qa n).a
  have qa_b := fun n => (qa n).b
  have qa_c := fun n => (qa n).c
  have qa_d := fun n => (qa n).d
  clear qa
  have qb := fun n => Lies.up (x := b) (k := w.heap.size + 1) g0.out.y.lies (hf n).out
  have qb_a := fun n => (qb n).a
  have qb_b := fun n => (qb n).b
  have qb_c := fun n => (qb n).c
  have qb_d := fun n => (qb n).d
  clear qb
  have TF : ∀ n, Tab (f n) := fun n => T1.out _ (b0.out.trans ((hf n).out.mono b0.out.size))
  repeat (go_big_quiet_step (first | (go_at_call_of 20 a.a; exact (TA.out _ (TF _)).mono fun e w'' ⟨he, hb⟩ => ⟨he, hcl.out _ _ hb⟩) | (go_at_call_of 20 b.a; exact (TB.out _ (TF _)).mono fun e w'' ⟨he, hb⟩ => ⟨he, hcl.out _ _ hb⟩)))
  refine wpQuiet_nil ?_
  intro n
  have hb1 := (hf n).out
  generalize f n = w1 at hb1 ⊢
  have g1 : Hid _ := g0.out.up hb1
  have b1 : Hid (Below w.heap.size w w1) := b0.out.trans (hb1.mono b0.out.size)
  clear hf hcl hb1 TF b0 g0 qa_a qa_b qa_c qa_d qb_a qb_b qb_c qb_d hE1 e1 e2
  obtain ⟨x0, x1, x2, x3, xz⟩ := g1.out.x
  go_wp2_with fail
  clear x0 x1 x2 x3 xz
  refine (OA.out _ (T1.out _ b1.out)).mono ?_
  rintro e w2 ⟨rfl, hb2⟩
  have g2 : Hid _ := (g1.out.up hb2).setx (oddN a)
  have q2 : Hid _ := g1.out.up hb2
  have b2' : Hid (Below w.heap.size w w2) := b1.out.trans (hb2.mono b1.out.size)
  have b2 : Hid (Below w.heap.size w (st4 w2 w.heap.size (oddN a))) := below_st4 b2'.out (Nat.le_refl _)
  clear hb2 g1 b1
  obtain ⟨x0, x1, x2, x3, xz⟩ := q2.out.x
  go_wp2_with fail
  clear x0 x1 x2 x3 xz q2 b2'
  go_loopw [] (fun w' => ∃ x y : Nm, Hid (x.ok ∧ y.ok ∧ x.nat % 2 = 1 ∧ Nat.gcd x.nat y.nat = G) ∧ Hid (GcdSt w' w.heap.size x y) ∧ Hid (Below w.heap.size w w')) (fun w' => (memN w' w.heap.size).nat + (memN w' (w.heap.size + 1)).nat)
  case atStart =>
    exact ⟨oddN a, b, ⟨Nm.of_ok _, ob, (odd_nat oa na).2.2.1, HG.out⟩, g2, b2⟩
  case round =>
    obtain ⟨x, y, I, g, hb⟩ := hrel
    by_cases hy : y = ⟨0, 0, 0, 0⟩
    · subst hy
      have e3 := neN ⟨0, 0, 0, 0⟩ ⟨0, 0, 0, 0⟩
      rw [Nm.beq_self] at e3
      obtain ⟨y0, y1, y2, y3, yz⟩ := g.out.y
      obtain ⟨x0, x1, x2, x3, xz⟩ := g.out.x
      go_wp2_with fail
      clear y0 y1 y2 y3 yz x0 x1 x2 x3 xz
      refine (SR x I.out.1 (by have := I.out.2.2.2; rw [show (⟨0, 0, 0, 0⟩ : Nm).nat = 0 from rfl, Nat.gcd_zero_right] at this; exact this) _).mono ?_
      rintro e w3 ⟨rfl, hb3⟩
      have g3 : Hid _ := g.out.up hb3
      have b3 : Hid (Below w.heap.size w w3) := hb.out.trans (hb3.mono hb.out.size)
      clear hb3 g hb
      obtain ⟨c0, c1, c2, c3, cz⟩ := g3.out.r
      go_wp2_with fail
      refine bodyPost_ret (v := N r) (by simp (maxDischargeDepth := 8) [results, Tryd.results6, go_sem, c0, c1, c2, c3]) rfl ⟨rfl, ?_⟩
      iterate 4 refine Below.setCell ?_ (by first | omega | (simp <;> omega)) _
      exact b3.out
    · have e3 := neN y ⟨0, 0, 0, 0⟩
      rw [Nm.beq_ne hy] at e3
      obtain ⟨y0, y1, y2, y3, yz⟩ := g.out.y
      go_wp2_with fail
      clear y0 y1 y2 y3 yz
      refine (odd_fun y I.out.2.1 hy _ (T1.out _ hb.out)).mono ?_
      rintro e w3 ⟨rfl, hb3⟩
      have q3 : Hid _ := g.out.up hb3
      have g3 : Hid _ := q3.out.sety (oddN y)
      have b3' : Hid (Below w.heap.size w w3) := hb.out.trans (hb3.mono hb.out.size)
      have b3 : Hid (Below w.heap.size w (st4 w3 (w.heap.size + 1) (oddN y))) := below_st4 b3'.out (by omega)
      have M0 : Hid _ := And.intro (memN_of g.out.x.lies) (memN_of g.out.y.lies)
      clear hb3 g hb
      obtain ⟨y0, y1, y2, y3, yz⟩ := q3.out.y
      obtain ⟨x0, x1, x2, x3, xz⟩ := q3.out.x
      go_wp2_with fail
      clear y0 y1 y2 y3 yz x0 x1 x2 x3 xz q3 b3'
      obtain ⟨ox, oy, xo, eg⟩ := I.out
      obtain ⟨oo, yv, od, ole⟩ := odd_nat oy hy
      have eg' : Nat.gcd x.nat (oddN y).nat = G := by rw [← eg, yv, gcd_odd xo]
      have ypos : 0 < y.nat := Nat.pos_of_ne_zero fun e => hy (Nm.ext_nat oy zero_ok (by rw [e]; rfl))
      refine (cmp_fun x (oddN y) ox oo _).mono ?_
      rintro e w4 ⟨rfl, hb4⟩
      have g4 : Hid _ := g3.out.up hb4
      have b4 : Hid (Below w.heap.size w w4) := b3.out.trans (hb4.mono b3.out.size)
      clear hb4 g3 b3
      generalize oddN y = o at *
      have cv : cmpV x o = if x.val < o.val then -1 else if o.val < x.val then 1 else 0 := rfl
      rw [← Nm.nat_cast ox, ← Nm.nat_cast oo] at cv
      obtain ⟨x0, x1, x2, x3, xz⟩ := g4.out.x
      obtain ⟨y0, y1, y2, y3, yz⟩ := g4.out.y
      by_cases hlt : o.nat < x.nat
      · have hcv : cmpV x o = 1 := by
          rw [cv, if_neg (by omega), if_pos (by omega)]
        rw [hcv]
        have J : Hid (o.ok ∧ x.ok ∧ o.nat ≤ x.nat ∧ o.nat % 2 = 1 ∧ Nat.gcd o.nat x.nat = G ∧ x.nat < x.nat + y.nat) := ⟨oo, ox, by omega, od, by rw [Nat.gcd_comm]; exact eg', by omega⟩
        clear cv hcv ox oy xo eg oo yv od ole eg' ypos hlt
        have g5 : Hid (GcdSt (st4 (st4 w4 w.heap.size o) (w.heap.size + 1) x) w.heap.size o x) := (g4.out.setx o).sety x
        have b5 : Hid (Below w.heap.size w (st4 (st4 w4 w.heap.size o) (w.heap.size + 1) x)) := below_st4 (below_st4 b4.out (Nat.le_refl _)) (by omega)
        go_wp2_with fail
        clear x0 x1 x2 x3 xz y0 y1 y2 y3 yz g4 b4
        refine (sub_fun x o J.out.2.1 J.out.1 _).mono ?_
        rintro e w6 ⟨rfl, hb6⟩
        have g6 : Hid _ := g5.out.up hb6
        have b6 : Hid (Below w.heap.size w w6) := b5.out.trans (hb6.mono b5.out.size)
        clear hb6 g5 b5
        obtain ⟨x0, x1, x2, x3, xz⟩ := g6.out.x
        obtain ⟨y0, y1, y2, y3, yz⟩ := g6.out.y
        go_wp2_with fail
        have g7 := g6.out.sety (subS x o)
        have b7 : Below w.heap.size w (st4 w6 (w.heap.size + 1) (subS x o)) := below_st4 b6.out (by omega)
        obtain ⟨j1, j2, j3, j4, j5, j6⟩ := J.out
        obtain ⟨os, sn⟩ := sub_nat j1 j2 j3
        refine ⟨⟨o, subS x o, ⟨j1, os, j4, by rw [sn, Nat.gcd_sub_self_right j3]; exact j5⟩, g7, b7⟩, ?_⟩
        have m1 := memN_of g7.x.lies
        have m2 := memN_of g7.y.lies
        rw [M0.out.1, M0.out.2]
        rw [show memN _ w.heap.size = o from m1, show memN _ (w.heap.size + 1) = subS x o from m2, sn]
        omega
      · have hcv : cmpV x o ≤ 0 := by
          rw [cv]; split <;> (try split) <;> omega
        have J : Hid (x.ok ∧ o.ok ∧ x.nat ≤ o.nat ∧ x.nat % 2 = 1 ∧ Nat.gcd x.nat o.nat = G ∧ o.nat < x.nat + y.nat) := ⟨ox, oo, by omega, xo, eg', by omega⟩
        generalize cmpV x o = cc at *
        clear cv ox oy xo eg oo yv od ole eg' ypos hlt
        have g5 : Hid _ := g4.out
        have b5 : Hid _ := b4.out
        go_wp2_with fail
        clear x0 x1 x2 x3 xz y0 y1 y2 y3 yz g4 b4
        refine (sub_fun o x J.out.2.1 J.out.1 _).mono ?_
        rintro e w6 ⟨rfl, hb6⟩
        have g6 : Hid _ := g5.out.up hb6
        have b6 : Hid (Below w.heap.size w w6) := b5.out.trans (hb6.mono b5.out.size)
        clear hb6 g5 b5
        obtain ⟨x0, x1, x2, x3, xz⟩ := g6.out.x
        obtain ⟨y0, y1, y2, y3, yz⟩ := g6.out.y
        go_wp2_with fail
        have g7 := g6.out.sety (subS o x)
        have b7 : Below w.heap.size w (st4 w6 (w.heap.size + 1) (subS o x)) := below_st4 b6.out (by omega)
        obtain ⟨j1, j2, j3, j4, j5, j6⟩ := J.out
        obtain ⟨os, sn⟩ := sub_nat j1 j2 j3
        refine ⟨⟨x, subS o x, ⟨j1, os, j4, by rw [sn, Nat.gcd_sub_self_right j3]; exact j5⟩, g7, b7⟩, ?_⟩
        have m1 := memN_of g7.x.lies
        have m2 := memN_of g7.y.lies
        rw [M0.out.1, M0.out.2]
        rw [show memN _ w.heap.size = x from m1, show memN _ (w.heap.size + 1) = subS o x from m2, sn]
        omega
set_option maxHeartbeats 400000 in
theorem gcd_zero_l (b : Nm) (w : World) : Calls Tryd.prog 6 #[N ⟨0, 0, 0, 0⟩, N b] w fun e w' => e = .returned (N b) ∧ Below w.heap.size w w' := by
  have e1 := eqN ⟨0, 0, 0, 0⟩ ⟨0, 0, 0, 0⟩
  rw [Nm.beq_self] at e1
  go_enter Tryd.func6, Tryd.ntmps6
  go_wp2_with fail
  refine bodyPost_ret (v := N b) (by simp (maxDischargeDepth := 8) [results, Tryd.results6, go_sem]) rfl ⟨rfl, ?_⟩
  repeat (first | refine Below.setCell ?_ (by first | omega | (simp <;> omega)) _ | refine Below.drew ?_ | refine Below.alloc ?_ (by first | omega | (simp <;> omega)) _ | exact Below.refl _ _)
set_option maxHeartbeats 400000 in
theorem gcd_zero_r (a : Nm) (na : a ≠ ⟨0, 0, 0, 0⟩) (w : World) : Calls Tryd.prog 6 #[N a, N ⟨0, 0, 0, 0⟩] w fun e w' => e = .returned (N a) ∧ Below w.heap.size w w' := by
  have e1 := eqN a ⟨0, 0, 0, 0⟩
  rw [Nm.beq_ne na] at e1
  have e2 := eqN ⟨0, 0, 0, 0⟩ ⟨0, 0, 0, 0⟩
  rw [Nm.beq_self] at e2
  go_enter Tryd.func6, Tryd.ntmps6
  go_wp2_with fail
  refine bodyPost_ret (v := N a) (by simp (maxDischargeDepth := 8) [results, Tryd.results6, go_sem]) rfl ⟨rfl, ?_⟩
  repeat (first | refine Below.setCell ?_ (by first | omega | (simp <;> omega)) _ | refine Below.drew ?_ | refine Below.alloc ?_ (by first | omega | (simp <;> omega)) _ | exact Below.refl _ _)
/-- quot.Gcd. -/
theorem gcd_fun (a b : Nm) (oa : a.ok) (ob : b.ok) (w : World) (hT : Tab w) :
    Calls Tryd.prog 6 #[N a, N b] w fun e w' => e = .returned (N (Nm.of ((Nat.gcd a.nat b.nat : Nat) : Int))) ∧ Below w.heap.size w w' := by
  by_cases na : a = ⟨0, 0, 0, 0⟩
  · subst na
    rw [show (⟨0, 0, 0, 0⟩ : Nm).nat = 0 from rfl, Nat.gcd_zero_left, ← Nm.eq_of_nat ob]
    exact gcd_zero_l b w
  by_cases nb : b = ⟨0, 0, 0, 0⟩
  · subst nb
    rw [show (⟨0, 0, 0, 0⟩ : Nm).nat = 0 from rfl, Nat.gcd_zero_right, ← Nm.eq_of_nat oa]
    exact gcd_zero_r a na w
  obtain ⟨_, av, ao, _⟩ := odd_nat oa na
  obtain ⟨_, bv, bo, _⟩ := odd_nat ob nb
  have ta := (twos_spec oa na).1
  have tb := (twos_spec ob nb).1
  have e1 : Nat.gcd (oddN a).nat b.nat = Nat.gcd (oddN a).nat (oddN b).nat := by rw [bv, gcd_odd ao]
  have e2 : Nat.gcd a.nat b.nat = 2 ^ min (twosN a) (twosN b) * Nat.gcd (oddN a).nat (oddN b).nat := by
    rw [av, bv]; exact gcd_twos ao bo
  have bpos : 0 < b.nat := Nat.pos_of_ne_zero fun e => nb (Nm.ext_nat ob zero_ok (by rw [e]; rfl))
  have glt : Nat.gcd a.nat b.nat < 2 ^ 256 := Nat.lt_of_le_of_lt (Nat.gcd_le_right _ bpos) (Nm.nat_lt ob)
  refine gcd_walk a b _ (min (twosN a) (twosN b)) _ oa ob na nb ?_ e1 ?_ w hT
  · intro i; split <;> omega
  · intro x ox hx w
    have S := shift_pos x ox (min (twosN a) (twosN b)) (by omega) w
    have e3 : x.val * 2 ^ min (twosN a) (twosN b) % M = ((Nat.gcd a.nat b.nat : Nat) : Int) := by
      have : x.val * 2 ^ min (twosN a) (twosN b) = ((Nat.gcd a.nat b.nat : Nat) : Int) := by
        rw [e2, Int.natCast_mul, cast_pow2, ← hx, Nm.nat_cast ox, Int.mul_comm]
      rw [this, M_cast]
      exact Int.emod_eq_of_lt (Int.natCast_nonneg _) (Int.ofNat_lt.2 glt)
    rw [e3] at S
    exact S
end Go.Proofs.YtgdekdmdidahdaaDoor
