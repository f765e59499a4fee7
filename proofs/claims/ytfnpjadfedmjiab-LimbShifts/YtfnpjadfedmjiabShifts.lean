/- LimbShifts returns true for every number and every distance. No condition. -/
import Derived.Test.YtfnpjadfedmjiabShift
import Derived.Test.YtfnpjadfedmjiabLenW
import Derived.Test.YtfnpjadfedmjiabUpA
import Derived.Test.YtfnpjadfedmjiabMulW
import Derived.Test.YtfnpjadfedmjiabCmp
import Derived.Test.YtfnpjadfedmjiabHalf
import Derived.Test.YtfnpjadfedmjiabEq
import Derived.Test.YtfnpjadfedmjiabArr
import Derived.Test.YtfnpjadfedmjiabOwn
namespace Go.Proofs.Ytfnpjadfedmjiab
open Go.RowKit
open Go.ChangeShapes Go.WideShapes Go.ChangeAt
attribute [local go_sem] World.cell?_alloc_some

theorem of_self {x : Nm} (hx : x.ok) {v : Int} (h : v = x.val) : Nm.of v = x := by
  subst h
  exact (Nm.eq_of hx rfl).symm
theorem shift_zero (x : Nm) (hx : x.ok) (w : World) :
    Calls Try.prog 11 #[N x, .int .i64 0] w fun e w' => e = .returned (N x) ∧ Below w.heap.size w w' := by
  have := shift_pos x hx 0 (by omega) w
  rw [of_self hx (by simp; exact Int.emod_eq_of_lt (Nm.val_nonneg hx) (Nm.val_lt hx))] at this
  exact this
theorem shift_dn (x : Nm) (hx : x.ok) (n : Nat) (hn : n < 256) (w : World) :
    Calls Try.prog 11 #[N x, .int .i64 (-(n : Int))] w fun e w' => e = .returned (N (Nm.of (x.val / 2 ^ n))) ∧ Below w.heap.size w w' := by
  by_cases h : n = 0
  · subst h
    have := shift_zero x hx w
    rw [of_self hx (by simp)]
    exact this
  · exact shift_neg x hx n (by omega) hn w

set_option maxHeartbeats 1000000 in
theorem shifts_out (x : Nm) (hx : x.ok) (i : Int) (h : i < 0 ∨ 255 < i) (w : World) :
    Calls Try.prog 5 #[N x, .int .i64 i] w fun e w' => e = .returned (.bool true) ∧ Below w.heap.size w w' := by
  have e3 := eqN x x
  simp only [Nm.beq_self] at e3
  by_cases h' : i < 0
  · go_enter Try.func5, Try.ntmps5
    go_wp2_with fail
    refine wp_region_up (by kernel_rfl) (by kernel_rfl) (fun U hU f hf hcl => ?_)
    have q := fun n => Lies.up (x := x) (k := w.heap.size) (by constructor <;> simp [go_sem]) (hf n).out
    have q_a := fun n => (q n).a
    have q_b := fun n => (q n).b
    have q_c := fun n => (q n).c
    have q_d := fun n => (q n).d
    clear q
    repeat (go_big_quiet_step (first | (go_at_call 11; exact (shift_zero x hx _).mono fun e w'' ⟨he, hb⟩ => ⟨he, hcl.out _ _ hb⟩)))
    refine wpQuiet_nil ?_
    intro n
    have hb4 := (hf n).out
    generalize f n = w4 at hb4 ⊢
    have b4 : Hid (Below w.heap.size w w4) := ((Below.refl _ _).alloc (by simp) _).trans (hb4.mono (by simp))
    clear hb4 hf hcl
    go_wp2_with fail
    go_ret
    exact ⟨rfl, b4.out⟩
  · have h'' : i > 255 := by omega
    go_enter Try.func5, Try.ntmps5
    go_wp2_with fail
    refine wp_region_up (by kernel_rfl) (by kernel_rfl) (fun U hU f hf hcl => ?_)
    have q := fun n => Lies.up (x := x) (k := w.heap.size) (by constructor <;> simp [go_sem]) (hf n).out
    have q_a := fun n => (q n).a
    have q_b := fun n => (q n).b
    have q_c := fun n => (q n).c
    have q_d := fun n => (q n).d
    clear q
    repeat (go_big_quiet_step (first | (go_at_call 11; exact (shift_zero x hx _).mono fun e w'' ⟨he, hb⟩ => ⟨he, hcl.out _ _ hb⟩)))
    refine wpQuiet_nil ?_
    intro n
    have hb4 := (hf n).out
    generalize f n = w4 at hb4 ⊢
    have b4 : Hid (Below w.heap.size w w4) := ((Below.refl _ _).alloc (by simp) _).trans (hb4.mono (by simp))
    clear hb4 hf hcl
    go_wp2_with fail
    go_ret
    exact ⟨rfl, b4.out⟩
set_option maxHeartbeats 1000000 in
theorem shifts_walk (x u d p b t : Nm) (n : Nat) (L LE : Int) (bb : Bool) (hx : x.ok) (od : d.ok) (ot : t.ok) (hn : n < 256)
    (SU : ∀ w, Calls Try.prog 11 #[N x, .int .i64 n] w fun e w' => e = .returned (N u) ∧ Below w.heap.size w w')
    (SD : ∀ w, Calls Try.prog 11 #[N x, .int .i64 (-(n : Int))] w fun e w' => e = .returned (N d) ∧ Below w.heap.size w w')
    (S1 : ∀ w, Calls Try.prog 11 #[N ⟨1, 0, 0, 0⟩, .int .i64 n] w fun e w' => e = .returned (N p) ∧ Below w.heap.size w w')
    (SB : ∀ w, Calls Try.prog 11 #[N u, .int .i64 (-(n : Int))] w fun e w' => e = .returned (N b) ∧ Below w.heap.size w w')
    (ST : ∀ w, Calls Try.prog 11 #[N d, .int .i64 n] w fun e w' => e = .returned (N t) ∧ Below w.heap.size w w')
    (SM : ∀ w, Calls Try.prog 14 #[N x, N p] w fun e w' => e = .returned (Wv u (mulH x p)) ∧ Below w.heap.size w w')
    (SL : ∀ w, Calls Try.prog 12 #[N x] w fun e w' => e = .returned (.int .i64 L) ∧ Below w.heap.size w w')
    (SE : ∀ w, Calls Try.prog 12 #[N d] w fun e w' => e = .returned (.int .i64 LE) ∧ Below w.heap.size w w')
    (l0 : 0 ≤ L) (l1 : L ≤ 256) (eb : Nm.beq b x = bb) (el : decide (L + n ≤ 256) = bb)
    (c1 : cmpV d x ≤ 0) (c2 : cmpV t x ≤ 0) (eL : LE = max 0 (L - n)) (w : World) :
    Calls Try.prog 5 #[N x, .int .i64 n] w fun e w' => e = .returned (.bool true) ∧ Below w.heap.size w w' := by
  have h1 : ¬ ((n : Int) < 0) := by omega
  have h2 : ¬ ((n : Int) > 255) := by omega
  have c1' : Hid _ := c1
  have c2' : Hid _ := c2
  have eb' : Hid _ := eb
  have el' : Hid _ := el
  have eL' : Hid _ := eL
  clear c1 c2 eb el eL
  go_enter Try.func5, Try.ntmps5
  go_wp2_with fail
  refine wp_region_alloc2 7 (.cells #[.int .u64 0, .int .u64 0, .int .u64 0, .int .u64 0] 24) (.cells #[.int .u64 0, .int .u64 0, .int .u64 0, .int .u64 0] 24) (by kernel_rfl) (by kernel_rfl) (by kernel_rfl) (by kernel_rfl) (by decide) (fun _ _ d _ _ h => by cases d <;> exact h) rfl rfl rfl rfl (by decide) (fun _ _ => by kernel_rfl) (fun _ _ => by kernel_rfl) ?_
  apply Exists.intro
  refine ⟨fun U hU f hf hcl => ?_, fun k1 j1 w1 hb1 hk1 hj1 hn1 hc1 hd1 => ?_⟩
  · have q := fun n => Lies.up (x := x) (k := w.heap.size) (by constructor <;> simp [go_sem]) (hf n).out
    have q_a := fun n => (q n).a
    have q_b := fun n => (q n).b
    have q_c := fun n => (q n).c
    have q_d := fun n => (q n).d
    clear q
    clear hf
    simp only [List.take_succ_cons, List.take_zero]
    repeat (go_big_quiet_step (first | (go_at_call_of 11 (Value.int .i64 (n : Int)); exact (SU _).mono fun e w'' ⟨he, hb⟩ => ⟨he, hcl.out _ _ hb⟩) | (go_at_call_of 11 (Value.int .i64 (-(n : Int))); exact (SD _).mono fun e w'' ⟨he, hb⟩ => ⟨he, hcl.out _ _ hb⟩)))
    exact wpQuiet_nil rfl
  · simp only [List.drop_succ_cons, List.drop_zero]
    obtain ⟨c0, c1, c2, c3, cz⟩ := cells4 hc1.out
    obtain ⟨d0, d1, d2, d3, dz⟩ := cells4 hd1.out
    have z1 := hb1.out.size
    simp at z1 hk1 hj1
    have nkj : ¬ k1 = j1 := hn1.out
    have njk : ¬ j1 = k1 := fun h => hn1.out h.symm
    have Lx : Hid (Lies (st4 (st4 w1 k1 u) j1 d) w.heap.size x) := ((Lies.up (by constructor <;> simp [go_sem]) hb1.out).st4_ne (by omega)).st4_ne (by omega)
    have Lu : Hid (Lies (st4 (st4 w1 k1 u) j1 d) k1 u) := (Lies.st4_self hc1.out _).st4_ne njk
    have Ld : Hid (Lies (st4 (st4 w1 k1 u) j1 d) j1 d) := ((cells4 hd1.out).st4_ne nkj).st4_self.lies
    have b1 : Hid (Below w.heap.size w (st4 (st4 w1 k1 u) j1 d)) := below_st4 (below_st4 (((Below.refl _ _).alloc (by simp) _).trans (hb1.out.mono (by simp))) (by omega)) (by omega)
    go_wp2_with fail
    clear c0 c1 c2 c3 cz d0 d1 d2 d3 dz hc1 hd1 hb1
    have e1 := neN u u
    simp only [Nm.beq_self] at e1
    have e2 := eqN b x
    rw [eb'.out] at e2
    refine wp_region_up (by kernel_rfl) (by kernel_rfl) (fun U hU f hf hcl => ?_)
    have q := fun n => Lies.up (x := x) (k := w.heap.size) Lx.out (hf n).out
    have q_a := fun n => (q n).a
    have q_b := fun n => (q n).b
    have q_c := fun n => (q n).c
    have q_d := fun n => (q n).d
    clear q
    have r := fun n => Lies.up (x := u) (k := k1) Lu.out (hf n).out
    have r_a := fun n => (r n).a
    have r_b := fun n => (r n).b
    have r_c := fun n => (r n).c
    have r_d := fun n => (r n).d
    clear r
    repeat (go_big_quiet_step (first | (go_at_call_of 11 (Value.int .i64 (n : Int)); exact (S1 _).mono fun e w'' ⟨he, hb⟩ => ⟨he, hcl.out _ _ hb⟩) | (go_at_call_of 11 (Value.int .i64 (-(n : Int))); exact (SB _).mono fun e w'' ⟨he, hb⟩ => ⟨he, hcl.out _ _ hb⟩) | (go_at_call 14; exact (SM _).mono fun e w'' ⟨he, hb⟩ => ⟨he, hcl.out _ _ hb⟩) | (go_at_call 13; exact (low_fun u (mulH x p) _).mono fun e w'' ⟨he, hb⟩ => ⟨he, hcl.out _ _ hb⟩) | (go_at_call 12; exact (SL _).mono fun e w'' ⟨he, hb⟩ => ⟨he, hcl.out _ _ hb⟩)))
    simp only [el'.out, beq_self_eq_true, Bool.not_true]
    refine wpQuiet_nil ?_
    intro m
    have hb2 := (hf m).out
    generalize f m = w2 at hb2 ⊢
    have Lx2 : Hid _ := Lx.out.up hb2
    have Ld2 : Hid _ := Ld.out.up hb2
    have b2 : Hid (Below w.heap.size w w2) := b1.out.trans (hb2.mono b1.out.size)
    clear hb2 hf hcl Lx Lu Ld b1 e1 e2
    clear q_a q_b q_c q_d r_a r_b r_c r_d
    go_wp2_with fail
    have C1 := cmp_fun d x od hx
    have C2 := cmp_fun t x ot hx
    have g1 : decide (cmpV d x ≤ 0) = true := decide_eq_true c1'.out
    have g2 : decide (cmpV t x ≤ 0) = true := decide_eq_true c2'.out
    generalize cmpV d x = v1 at *
    generalize cmpV t x = v2 at *
    have G1 : Hid _ := C1
    have G2 : Hid _ := C2
    clear C1 C2
    refine wp_region_up (by kernel_rfl) (by kernel_rfl) (fun U hU f hf hcl => ?_)
    have q := fun n => Lies.up (x := x) (k := w.heap.size) Lx2.out (hf n).out
    have q_a := fun n => (q n).a
    have q_b := fun n => (q n).b
    have q_c := fun n => (q n).c
    have q_d := fun n => (q n).d
    clear q
    have r := fun n => Lies.up (x := d) (k := j1) Ld2.out (hf n).out
    have r_a := fun n => (r n).a
    have r_b := fun n => (r n).b
    have r_c := fun n => (r n).c
    have r_d := fun n => (r n).d
    clear r
    repeat (go_big_quiet_step (first | (go_at_call 11; exact (ST _).mono fun e w'' ⟨he, hb⟩ => ⟨he, hcl.out _ _ hb⟩) | (go_at_call_of 8 d.a; exact (G1.out _).mono fun e w'' ⟨he, hb⟩ => ⟨he, hcl.out _ _ hb⟩) | (go_at_call_of 8 (N t); exact (G2.out _).mono fun e w'' ⟨he, hb⟩ => ⟨he, hcl.out _ _ hb⟩) | (go_at_call_of 8 t.a; exact (G2.out _).mono fun e w'' ⟨he, hb⟩ => ⟨he, hcl.out _ _ hb⟩) | (go_at_call_of 12 x.a; exact (SL _).mono fun e w'' ⟨he, hb⟩ => ⟨he, hcl.out _ _ hb⟩) | (go_at_call_of 12 d.a; exact (SE _).mono fun e w'' ⟨he, hb⟩ => ⟨he, hcl.out _ _ hb⟩)))
    have hE : (LE == if (n : Int) < L then L - n else 0) = true := by
      rw [eL'.out]
      simp only [beq_iff_eq]
      split <;> omega
    simp only [hE]
    refine wpQuiet_nil ?_
    intro m
    have hb3 := (hf m).out
    generalize f m = w3 at hb3 ⊢
    have b3 : Hid (Below w.heap.size w w3) := b2.out.trans (hb3.mono b2.out.size)
    clear hb3 hf hcl Lx2 Ld2 b2 hE
    clear q_a q_b q_c q_d r_a r_b r_c r_d
    go_wp2_with fail
    all_goals (go_ret; exact ⟨rfl, b3.out⟩)

theorem pow_M {n : Nat} (hn : n < 256) : (2 : Int) ^ (256 - n) * 2 ^ n = M := by
  rw [← Int.pow_add]
  rw [show 256 - n + n = 256 by omega]
  rfl
theorem pow_pos' (n : Nat) : (0 : Int) < 2 ^ n := Int.pow_pos (by omega)
theorem len_dn (v n : Nat) : lenN (v / 2 ^ n) = lenN v - n := by
  refine lenN_eq ?_
  intro k
  have h := lenN_le (n := v) (k := k + n)
  rw [Nat.div_lt_iff_lt_mul (Nat.two_pow_pos n), ← Nat.pow_add]
  omega
theorem cast_pow (n : Nat) : ((2 ^ n : Nat) : Int) = 2 ^ n := by simp

theorem shifts_in (x : Nm) (hx : x.ok) (n : Nat) (hn : n < 256) (w : World) :
    Calls Try.prog 5 #[N x, .int .i64 n] w fun e w' => e = .returned (.bool true) ∧ Below w.heap.size w w' := by
  have x0 := Nm.val_nonneg hx
  have x1 := Nm.val_lt hx
  have pn := pow_pos' n
  have pm := pow_pos' (256 - n)
  have pM := pow_M hn
  have M0 : 0 < M := by decide
  obtain ⟨v, hv⟩ := Int.eq_ofNat_of_zero_le x0
  have onep : (⟨1, 0, 0, 0⟩ : Nm).ok := ⟨⟨by decide, by decide⟩, ⟨by decide, by decide⟩, ⟨by decide, by decide⟩, ⟨by decide, by decide⟩⟩
  have lp : (2 : Int) ^ n < M := by
    have : (2 : Int) ^ n * 2 ≤ (2 : Int) ^ n * 2 ^ (256 - n) := Int.mul_le_mul_of_nonneg_left (by
      rw [show 256 - n = (255 - n) + 1 by omega, Int.pow_succ]
      have := pow_pos' (255 - n)
      omega) (by omega)
    rw [Int.mul_comm _ (2 ^ (256 - n)), pM] at this
    omega
  have pv : (Nm.of ((⟨1, 0, 0, 0⟩ : Nm).val * 2 ^ n % M)).val = 2 ^ n := by
    rw [show (⟨1, 0, 0, 0⟩ : Nm).val = 1 by simp [Nm.val], Int.one_mul, Int.emod_eq_of_lt (by omega) lp]
    exact Nm.of_val (by omega) lp
  have dq0 : 0 ≤ x.val / 2 ^ n := Int.ediv_nonneg x0 (by omega)
  have dq1 : x.val / 2 ^ n * 2 ^ n ≤ x.val := Int.ediv_mul_le _ (by omega)
  have dq2 : x.val / 2 ^ n ≤ x.val := Int.ediv_le_self _ x0
  have dv : (Nm.of (x.val / 2 ^ n)).val = x.val / 2 ^ n := Nm.of_val dq0 (by omega)
  have uv : (Nm.of (x.val * 2 ^ n % M)).val = x.val * 2 ^ n % M := Nm.of_val (Int.emod_nonneg _ (by omega)) (Int.emod_lt_of_pos _ M0)
  have u0 : 0 ≤ x.val * 2 ^ n % M := Int.emod_nonneg _ (by omega)
  have u1 : x.val * 2 ^ n % M < M := Int.emod_lt_of_pos _ M0
  have L1 : lenN x.val.toNat ≤ 256 := lenN_le.2 (by have : (2 : Nat) ^ 256 = M.toNat := rfl; omega)
  have tm : x.val / 2 ^ n * 2 ^ n % M = x.val / 2 ^ n * 2 ^ n := Int.emod_eq_of_lt (Int.mul_nonneg dq0 (by omega)) (by omega)
  have tv : (Nm.of ((Nm.of (x.val / 2 ^ n)).val * 2 ^ n % M)).val = x.val / 2 ^ n * 2 ^ n := by
    rw [dv, tm]; exact Nm.of_val (Int.mul_nonneg dq0 (by omega)) (by omega)
  have SM := mul_fun x (Nm.of ((⟨1, 0, 0, 0⟩ : Nm).val * 2 ^ n % M)) hx (Nm.of_ok _)
  rw [show mulL x (Nm.of ((⟨1, 0, 0, 0⟩ : Nm).val * 2 ^ n % M)) = Nm.of (x.val * 2 ^ n % M) by unfold mulL; rw [pv]] at SM
  refine shifts_walk x _ _ _ _ _ n (lenN x.val.toNat) (lenN (Nm.of (x.val / 2 ^ n)).val.toNat) _ hx (Nm.of_ok _) (Nm.of_ok _) hn (shift_pos x hx n hn) (shift_dn x hx n hn) (shift_pos _ onep n hn) (shift_dn _ (Nm.of_ok _) n hn) (shift_pos _ (Nm.of_ok _) n hn) SM (len_fun x hx) (len_fun _ (Nm.of_ok _)) (by omega) (by omega) rfl ?_ ?_ ?_ ?_ w
  · rw [uv]
    by_cases hl : lenN x.val.toNat + n ≤ 256
    · have hlt : x.val < 2 ^ (256 - n) := by
        have := (lenN_le (n := x.val.toNat) (k := 256 - n)).1 (by omega)
        rw [← cast_pow]; omega
      have hm : x.val * 2 ^ n < M := by rw [← pM]; exact Int.mul_lt_mul_of_pos_right hlt pn
      rw [Int.emod_eq_of_lt (Int.mul_nonneg x0 (by omega)) hm, Int.mul_ediv_cancel _ (by omega), of_self hx rfl, Nm.beq_self]
      exact decide_eq_true (by omega)
    · have hge : 2 ^ (256 - n) ≤ x.val := by
        have := mt (lenN_le (n := x.val.toNat) (k := 256 - n)).2 (by omega)
        rw [← cast_pow]; omega
      have hq : x.val * 2 ^ n % M / 2 ^ n < 2 ^ (256 - n) := Int.ediv_lt_of_lt_mul pn (by rw [pM]; exact u1)
      have hq0 : 0 ≤ x.val * 2 ^ n % M / 2 ^ n := Int.ediv_nonneg u0 (by omega)
      rw [Nm.beq_ne (fun h => by
        have := congrArg Nm.val h
        rw [Nm.of_val hq0 (by omega)] at this
        omega)]
      exact decide_eq_false (by omega)
  · unfold cmpV; rw [dv]; split <;> (try split) <;> omega
  · unfold cmpV; rw [tv]; split <;> (try split) <;> omega
  · rw [dv, hv]
    rw [show ((v : Int) / 2 ^ n).toNat = v / 2 ^ n by rw [← cast_pow, ← Int.natCast_ediv, Int.toNat_natCast], len_dn]
    simp only [Int.toNat_natCast]
    omega
theorem shifts_law (x : Nm) (i : Int) (hx : x.ok) (_ : -9223372036854775808 ≤ i ∧ i ≤ 9223372036854775807) (w : World) :
    Calls Try.prog 5 #[N x, .int .i64 i] w fun e w' => e = .returned (.bool true) ∧ Below w.heap.size w w' := by
  by_cases h : i < 0 ∨ 255 < i
  · exact shifts_out x hx i h w
  · obtain ⟨n, rfl⟩ := Int.eq_ofNat_of_zero_le (a := i) (by omega)
    exact shifts_in x hx n (by omega) w

set_option maxRecDepth 100000 in
theorem limbShifts_lifted (os : Os) (started : os.Started) (H : Type) (enc : TypeId × Value → H) :
    ReturnsInHanded {} Try.checked os 5 .any (Rows.limbShiftsSpec.pre6 enc Try.prog Try.f5 Rows.limbShiftsRow.domain false) (Rows.limbShiftsSpec.post enc Try.prog Try.f5 false true false false) := by
  refine returnsInHanded_of_change (C := Try.checked) Try.own started (by kernel_rfl) Try.func5
    (ChangeSpec.witness6 (enc := enc) (C := Try.checked) false ⟨#[], #[.agg #[.int .u64 0, .int .u64 0, .int .u64 0, .int .u64 0], .int .i64 0], []⟩ 8 (by kernel_rfl) (by kernel_rfl) (by kernel_rfl) (by kernel_rfl)) ?_
  intro W base args ds gs before hval0 hW hcnd _
  have hval : ∀ (j : Nat) t v, Try.f5.params[j]? = some t → args[j]? = some v → Value.okWide Try.prog W .any base t v := hval0
  have hW' := hW
  obtain ⟨p, q, hA0, hV, rfl, hfz, hnd⟩ := hW
  have hA : DataW.TrodAll enc Try.prog W 0 (fun _ => true) true Try.f5.params.toList args.toList ds p := hA0
  rw [Try.params5] at hA hval
  obtain ⟨v0, v1, d0, d1, p0, p1, rfl, rfl, rfl, h0, h1⟩ := trodAll_two hA
  obtain ⟨rfl, rfl⟩ := trodVars_none hV
  obtain ⟨xs0, l0, rfl, rfl, rfl, w0⟩ := open_arr Try.underlying24 Try.underlying22 Try.cellsU64 Try.cellsNum (hval 0 24 v0 rfl rfl) h0
  obtain ⟨x1, rfl, rfl, rfl, w1⟩ := open_int Try.underlying3 (hval 1 3 v1 rfl rfl) h1
  clear hA0 hval0 hval hA h0 h1
  obtain ⟨a0, b0, c0, d0, rfl⟩ := list4 xs0 l0
  have ok0 : (⟨a0, b0, c0, d0⟩ : Nm).ok := ⟨word_of_wf (w0 _ (by simp)), word_of_wf (w0 _ (by simp)), word_of_wf (w0 _ (by simp)), word_of_wf (w0 _ (by simp))⟩
  simp only [List.append_nil] at hW'
  refine (shifts_law ⟨a0, b0, c0, d0⟩ x1 ok0 (int_of_wf w1) W).mono fun e W' ⟨he, hg⟩ => ?_
  subst he
  exact ⟨_, rfl, _, _, _, [], [], [], hW', trodAll_mk1 (shut_bool Try.underlying4 _), trodAll_mk2 (shut_arr Try.underlying24 Try.underlying22 Try.cellsU64 Try.cellsNum l0 w0) (shut_int Try.underlying3 w1), rfl, hg.frame _, fun h => by cases h⟩

theorem limbShifts_holds : Rows.LimbShiftsSaid :=
  OpenClaim.holds_of_wide 5 Try.f5 rfl rfl rfl rfl rfl rfl rfl ⟨rfl, rfl, rfl, rfl, rfl⟩ rfl rfl rfl rfl rfl (by kernel_rfl) Try.func5 (by kernel_rfl)
    (of_decide_eq_true (by kernel_rfl)) (by unfold Func.isWrapper; first | (rw [if_pos (by decide +kernel)]; kernel_rfl) | (rw [if_neg (by decide +kernel)]; exact ⟨rfl, rfl⟩))
    (fun os started H enc _ => limbShifts_lifted os started H enc)
#print axioms limbShifts_holds
end Go.Proofs.Ytfnpjadfedmjiab
