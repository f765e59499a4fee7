/- quot.Inverse, its answer told. -/
import Derived.Test.YtgdekdmdidahdaaInv
namespace Go.Proofs.Ytgdekdmdidahdaa
open Go.RowKit
attribute [local go_sem] World.cell?_alloc_some cell_alloc2 cell_alloc3 cell_alloc4 frozen?_alloc_cells frozen_out

theorem one_nm : (⟨1, 0, 0, 0⟩ : Nm).ok := ⟨⟨by decide, by decide⟩, ⟨by decide, by decide⟩, ⟨by decide, by decide⟩, ⟨by decide, by decide⟩⟩
/-- x times a is 1 modulo m. -/
def IsInv (a m x : Nm) : Prop := x.ok ∧ x.nat < m.nat ∧ a.nat * x.nat % m.nat = 1 % m.nat
theorem inv_exists {a m : Nm} (om : m.ok) : ∀ (k : Nat) (n l t u : Nm), n.nat ≤ k → InvOk a m n l t u 1 → ∃ x, IsInv a m x := by
  intro k
  induction k with
  | zero =>
    intro n l t u hk h
    have e : n.nat = 0 := by omega
    have g := h.g
    rw [e, Nat.gcd_zero_right] at g
    have d := h.dl
    rw [show ((l.nat : Nat) : Int) = (((⟨1, 0, 0, 0⟩ : Nm).nat : Nat) : Int) by rw [g]; rfl] at d
    exact ⟨t, h.ot, h.lt, inv_mod d⟩
  | succ k ih =>
    intro n l t u hk h
    by_cases e : n.nat = 0
    · exact ih n l t u (by omega) h
    · obtain ⟨_, _, h2⟩ := h.step om e
      refine ih _ _ _ _ ?_ h2
      have r := Nat.mod_lt l.nat (show 0 < n.nat by omega)
      rw [Nm.of_nat (Nat.lt_trans r (Nm.nat_lt h.on))]
      omega
theorem InvOk.first {a m : Nm} (om : m.ok) (hm : 0 < m.nat) : InvOk a m (Nm.of ((a.nat % m.nat : Nat) : Int)) m ⟨0, 0, 0, 0⟩ ⟨1, 0, 0, 0⟩ (Nat.gcd m.nat a.nat) := by
  have r := Nat.mod_lt a.nat hm
  have e := Nm.of_nat (Nat.lt_trans r (Nm.nat_lt om))
  refine ⟨Nm.of_ok _, om, zero_ok, one_nm, ?_, ?_, ?_, hm, ?_⟩
  · rw [e, Nat.gcd_comm m.nat (a.nat % m.nat), ← Nat.gcd_rec]
  · rw [show (((⟨0, 0, 0, 0⟩ : Nm).nat : Nat) : Int) = 0 from rfl]
    exact ⟨1, by omega⟩
  · rw [e, show (((⟨1, 0, 0, 0⟩ : Nm).nat : Nat) : Int) = 1 from rfl]
    have d := congrArg (fun z : Nat => (z : Int)) (Nat.div_add_mod a.nat m.nat)
    simp only [Int.natCast_add, Int.natCast_mul] at d
    refine ⟨-((a.nat / m.nat : Nat) : Int), ?_⟩
    rw [Int.mul_neg]
    omega
  · rw [e, show (⟨1, 0, 0, 0⟩ : Nm).nat = 1 from rfl]
    intro h
    omega
theorem IsInv.unique {a m x y : Nm} (hx : IsInv a m x) (hy : IsInv a m y) : x = y := Nm.ext_nat hx.1 hy.1 (inv_unique hx.2.1 hy.2.1 hx.2.2 hy.2.2)
theorem IsInv.cop {a m x : Nm} (h : IsInv a m x) : Nat.gcd m.nat x.nat = 1 := by
  have d1 := Nat.gcd_dvd_left m.nat x.nat
  have d2 := Nat.gcd_dvd_right m.nat x.nat
  have d3 : Nat.gcd m.nat x.nat ∣ a.nat * x.nat := Nat.dvd_trans d2 (Nat.dvd_mul_left _ _)
  rcases Nat.lt_or_ge 1 m.nat with hm | hm
  · have e := h.2.2
    rw [Nat.mod_eq_of_lt hm] at e
    have d4 : Nat.gcd m.nat x.nat ∣ a.nat * x.nat % m.nat := (Nat.dvd_mod_iff d1).2 d3
    rw [e] at d4
    exact Nat.dvd_one.1 d4
  · have := h.2.1
    have e : m.nat = 1 := by omega
    rw [e]
    exact Nat.gcd_one_left _
theorem inv_has {a m : Nm} (om : m.ok) (hm : 0 < m.nat) (hg : Nat.gcd m.nat a.nat = 1) : ∃ x, IsInv a m x := by
  have h := InvOk.first (a := a) om hm
  rw [hg] at h
  exact inv_exists om _ _ _ _ _ (Nat.le_refl _) h
theorem inv_is (a m x : Nm) (oa : a.ok) (om : m.ok) (nz : m ≠ ⟨0, 0, 0, 0⟩) (hx : IsInv a m x) (hg : Nat.gcd m.nat a.nat = 1) (w : World) :
    Calls Try.prog 31 #[N a, N m] w fun e w' => e = .returned (.tuple #[N x, .int .i64 0]) ∧ Below w.heap.size w w' := by
  have hm : 0 < m.nat := Nat.pos_of_ne_zero fun e => nz (Nm.ext_nat om zero_ok (by rw [e]; rfl))
  have D := mod_fun a ⟨0, 0, 0, 0⟩ m oa zero_ok om nz
  rw [V_wide, show m.val.toNat = m.nat from rfl] at D
  exact inv_walk a m _ _ om (InvOk.first om hm) x 0 (fun _ t ot lt et => ⟨IsInv.unique ⟨ot, lt, et⟩ hx, rfl⟩) (fun h => absurd hg h) D w
theorem inv_not (a m : Nm) (oa : a.ok) (om : m.ok) (nz : m ≠ ⟨0, 0, 0, 0⟩) (hg : Nat.gcd m.nat a.nat ≠ 1) (w : World) :
    Calls Try.prog 31 #[N a, N m] w fun e w' => e = .returned (.tuple #[N ⟨0, 0, 0, 0⟩, .int .i64 6]) ∧ Below w.heap.size w w' := by
  have hm : 0 < m.nat := Nat.pos_of_ne_zero fun e => nz (Nm.ext_nat om zero_ok (by rw [e]; rfl))
  have D := mod_fun a ⟨0, 0, 0, 0⟩ m oa zero_ok om nz
  rw [V_wide, show m.val.toNat = m.nat from rfl] at D
  exact inv_walk a m _ _ om (InvOk.first om hm) ⟨0, 0, 0, 0⟩ 6 (fun h => absurd h hg) (fun _ => ⟨rfl, rfl⟩) D w
set_option maxHeartbeats 1000000 in
theorem inv_zero' (a m : Nm)
    (MA : ∀ w, Calls Try.prog 55 #[Wv a ⟨0, 0, 0, 0⟩, N m] w fun e w' => e = .returned (.tuple #[N ⟨0, 0, 0, 0⟩, .int .i64 1]) ∧ Below w.heap.size w w')
    (w : World) :
    Calls Try.prog 31 #[N a, N m] w fun e w' => e = .returned (.tuple #[N ⟨0, 0, 0, 0⟩, .int .i64 1]) ∧ Below w.heap.size w w' := by
  go_enter Try.func31, Try.ntmps31
  have H0 : Hid (Has (al4 (al4 (al4 w a) m) ⟨0, 0, 0, 0⟩) [(w.heap.size + 1 + 1, ⟨0, 0, 0, 0⟩), (w.heap.size + 1, m), (w.heap.size, a)]) := (((Has.nil w).arg rfl).arg (by simp)).arg (by simp)
  have b0 : Hid (Below w.heap.size w (al4 (al4 (al4 w a) m) ⟨0, 0, 0, 0⟩)) := below_al4 (below_al4 (below_al4 (Below.refl _ _) (Nat.le_refl _)) (by simp)) (by simp; omega)
  have r0 : Hid (Cells4 (al4 (al4 (al4 w a) m) ⟨0, 0, 0, 0⟩) (w.heap.size + 1 + 1) (.int .u64 0) (.int .u64 0) (.int .u64 0) (.int .u64 0)) := by constructor <;> simp [go_sem]
  go_wp2_with fail
  refine wp_region_alloc1 8 (.cells #[.int .u64 0, .int .u64 0, .int .u64 0, .int .u64 0] 24) (by kernel_rfl) (by kernel_rfl) (by kernel_rfl) (by kernel_rfl) (by decide) (fun _ _ d _ _ h => by cases d <;> exact h) rfl rfl (fun _ _ => by kernel_rfl) ?_
  apply Exists.intro
  refine ⟨fun U hU f hf hcl => ?_, fun k1 w1 hb1 hk1 hc1 => ?_⟩
  · have A := fun n => Lies.up (x := a) (k := w.heap.size) (H0.out.at (by simp)) (hf n).out
    have A_a := fun n => (A n).a
    have A_b := fun n => (A n).b
    have A_c := fun n => (A n).c
    have A_d := fun n => (A n).d
    clear A
    have C := fun n => Lies.up (x := m) (k := w.heap.size + 1) (H0.out.at (by simp)) (hf n).out
    have C_a := fun n => (C n).a
    have C_b := fun n => (C n).b
    have C_c := fun n => (C n).c
    have C_d := fun n => (C n).d
    clear C
    clear hf
    simp only [List.take_succ_cons, List.take_zero]
    repeat (go_big_quiet_step (first | (go_at_call 26; exact (wideOf_fun a ⟨0, 0, 0, 0⟩ _).mono fun e w'' ⟨he, hb⟩ => ⟨he, hcl.out _ _ hb⟩) | (go_at_call 55; exact (MA _).mono fun e w'' ⟨he, hb⟩ => ⟨he, hcl.out _ _ hb⟩)))
    exact wpQuiet_nil rfl
  · simp only [List.drop_succ_cons, List.drop_zero]
    obtain ⟨c0, c1, c2, c3, cz⟩ := cells4 hc1.out
    have b1 : Hid (Below w.heap.size w (st4 w1 k1 ⟨0, 0, 0, 0⟩)) := below_st4 (b0.out.trans (hb1.out.mono b0.out.size)) (Nat.le_trans b0.out.size hk1)
    simp at hk1
    obtain ⟨r0, r1, r2, r3, rz⟩ := (r0.out.up hb1.out).st4_ne (k := k1) (x := ⟨0, 0, 0, 0⟩) (by omega)
    go_wp2_with fail
    refine bodyPost_ret (v := .tuple #[N ⟨0, 0, 0, 0⟩, .int .i64 1]) (by simp (maxDischargeDepth := 8) [results, Try.results31, go_sem, r0, r1, r2, r3]) rfl ⟨rfl, ?_⟩
    iterate 4 refine Below.setCell ?_ (by first | omega | (simp <;> omega)) _
    exact b1.out
theorem inv_zero (a : Nm) (w : World) :
    Calls Try.prog 31 #[N a, N ⟨0, 0, 0, 0⟩] w fun e w' => e = .returned (.tuple #[N ⟨0, 0, 0, 0⟩, .int .i64 1]) ∧ Below w.heap.size w w' :=
  inv_zero' a _ (mod_zero a ⟨0, 0, 0, 0⟩) w
end Go.Proofs.Ytgdekdmdidahdaa
