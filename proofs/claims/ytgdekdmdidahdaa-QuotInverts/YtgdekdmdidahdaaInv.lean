/- The contract of quot.Inverse: Euclid's steps. -/
import Derived.Test.YtgdekdmdidahdaaMod
import Derived.Test.YtgdekdmdidahdaaMulV
import Derived.Test.YtgdekdmdidahdaaHas
import Derived.Test.YtgdekdmdidahdaaAl
import Derived.Test.YtgdekdmdidahdaaMem
import Derived.Test.YtgdekdmdidahdaaUp2
namespace Go.Proofs.Ytgdekdmdidahdaa
open Go.RowKit
attribute [local go_sem] World.cell?_alloc_some cell_alloc2 cell_alloc3 cell_alloc4 frozen?_alloc_cells frozen_out

theorem inv_step {m a last lT next nT q left : Int} (h1 : m ∣ last - a * lT) (h2 : m ∣ next - a * nT) (hl : last = q * next + left) (c d : Int) (tk : Int) (ht : tk = q * nT + m * c) (n' : Int) (hn : n' = lT - tk + m * d) : m ∣ left - a * n' := by
  obtain ⟨x, hx⟩ := h1
  obtain ⟨y, hy⟩ := h2
  refine ⟨x - q * y + a * c - a * d, ?_⟩
  grind
theorem inv_unique {a m x y : Nat} (hx : x < m) (hy : y < m) (ex : a * x % m = 1 % m) (ey : a * y % m = 1 % m) : x = y := by
  have h1 : x * (a * y) % m = x % m := by rw [Nat.mul_mod, ey, ← Nat.mul_mod, Nat.mul_one]
  have h2 : y * (a * x) % m = y % m := by rw [Nat.mul_mod, ex, ← Nat.mul_mod, Nat.mul_one]
  have e : x * (a * y) = y * (a * x) := by grind
  rw [e, h2, Nat.mod_eq_of_lt hx, Nat.mod_eq_of_lt hy] at h1
  exact h1.symm
theorem inv_mod {m a t : Nat} (h : (m : Int) ∣ (((⟨1, 0, 0, 0⟩ : Nm).nat : Nat) : Int) - a * t) : a * t % m = 1 % m := by
  rw [show (((⟨1, 0, 0, 0⟩ : Nm).nat : Nat) : Int) = 1 from rfl] at h
  have e : (1 : Int) % m = (a * t : Int) % m := by
    obtain ⟨c, hc⟩ := h
    have : (1 : Int) = a * t + m * c := by omega
    rw [this, Int.add_mul_emod_self_left]
  have := congrArg Int.toNat e
  rw [← Int.natCast_mul, ← Int.natCast_emod, ← show ((1 : Nat) : Int) = 1 from rfl, ← Int.natCast_emod, Int.toNat_natCast, Int.toNat_natCast] at this
  exact this.symm
/-- The difference modulo m. -/
def subM (a b m : Nm) : Nm := Nm.of (((a.nat + m.nat - b.nat) % m.nat : Nat) : Int)
set_option maxHeartbeats 1000000 in
theorem subMod_walk (a b m d r : Nm) (u : Int) (od : d.ok) (om : m.ok)
    (SS : ∀ w, Calls Try.prog 13 #[N a, N b] w fun e w' => e = .returned (.tuple #[N d, .int .u64 u]) ∧ Below w.heap.size w w')
    (h1 : u = 1 → addS d m = r) (h0 : u ≠ 1 → d = r) (w : World) :
    Calls Try.prog 57 #[N a, N b, N m] w fun e w' => e = .returned (N r) ∧ Below w.heap.size w w' := by
  by_cases hu : u = 1
  · have e1 := h1 hu
    subst hu e1
    clear h1 h0
    go_enter Try.func57, Try.ntmps57
    go_wp2_with fail
    refine (SS _).mono ?_
    rintro e w1 ⟨rfl, hb1⟩
    have z1 := hb1.size
    try simp at z1
    obtain ⟨qw11_0_1, qw11_1_1, qw11_2_1, qw11_3_1⟩ := Lies.up (x := m) (k := w.heap.size + 1 + 1) (by constructor <;> first | assumption | simp [go_sem]) hb1
    obtain ⟨qw111_0_1, qw111_1_1, qw111_2_1, qw111_3_1, qw111_z_1⟩ := Cells4.up (W := _) (k := w.heap.size + 1 + 1 + 1) (a := .int .u64 0) (b := .int .u64 0) (c := .int .u64 0) (d := .int .u64 0) (by constructor <;> first | assumption | simp [go_sem]) hb1
    have b1 : Hid (Below w.heap.size w w1) := by
      refine Below.trans ?_ (hb1.mono (by first | omega | (simp <;> omega)))
      repeat (first | exact Below.refl _ _ | refine Below.drew ?_ | refine Below.setCell ?_ (by first | omega | (simp <;> omega)) _ | refine Below.alloc ?_ (by first | omega | (simp <;> omega)) _)
    clear hb1
    go_wp2_with fail
    refine (add_fun d m od om _).mono ?_
    rintro e w2 ⟨rfl, hb2⟩
    have z2 := hb2.size
    try simp at z2
    obtain ⟨qw1_0_2, qw1_1_2, qw1_2_2, qw1_3_2, qw1_z_2⟩ := Cells4.up (W := _) (k := w1.heap.size) (a := .int .u64 (d).a) (b := .int .u64 (d).b) (c := .int .u64 (d).c) (d := .int .u64 (d).d) (by constructor <;> first | assumption | simp [go_sem]) hb2
    obtain ⟨qw111_0_2, qw111_1_2, qw111_2_2, qw111_3_2, qw111_z_2⟩ := Cells4.up (W := _) (k := w.heap.size + 1 + 1 + 1) (a := .int .u64 0) (b := .int .u64 0) (c := .int .u64 0) (d := .int .u64 0) (by constructor <;> first | assumption | simp [go_sem, qw111_0_1, qw111_1_1, qw111_2_1, qw111_3_1, qw111_z_1]) hb2
    have b2 : Hid (Below w.heap.size w w2) := by
      refine Below.trans ?_ (hb2.mono (by first | omega | (simp <;> omega)))
      repeat (first | exact b1.out | refine Below.drew ?_ | refine Below.setCell ?_ (by first | omega | (simp <;> omega)) _ | refine Below.alloc ?_ (by first | omega | (simp <;> omega)) _)
    clear hb2 b1 qw11_0_1 qw11_1_1 qw11_2_1 qw11_3_1 qw111_0_1 qw111_1_1 qw111_2_1 qw111_3_1 qw111_z_1
    have z : ¬ w1.heap.size = w.heap.size + 1 + 1 + 1 := by omega
    go_wp2_with fail
    refine bodyPost_ret (v := N (addS d m)) (by simp (maxDischargeDepth := 8) [results, Try.results57, go_sem, qw111_0_2, qw111_1_2, qw111_2_2, qw111_3_2]) rfl ⟨rfl, ?_⟩
    repeat (first | refine Below.setCell ?_ (by first | omega | (simp <;> omega)) _ | refine Below.drew ?_ | refine Below.alloc ?_ (by first | omega | (simp <;> omega)) _ | exact b2.out)
  · have e1 := h0 hu
    subst e1
    clear h1 h0
    go_enter Try.func57, Try.ntmps57
    go_wp2_with fail
    refine (SS _).mono ?_
    rintro e w1 ⟨rfl, hb1⟩
    have z1 := hb1.size
    try simp at z1
    obtain ⟨qw111_0_1, qw111_1_1, qw111_2_1, qw111_3_1, qw111_z_1⟩ := Cells4.up (W := _) (k := w.heap.size + 1 + 1 + 1) (a := .int .u64 0) (b := .int .u64 0) (c := .int .u64 0) (d := .int .u64 0) (by constructor <;> first | assumption | simp [go_sem]) hb1
    have b1 : Hid (Below w.heap.size w w1) := by
      refine Below.trans ?_ (hb1.mono (by first | omega | (simp <;> omega)))
      repeat (first | exact Below.refl _ _ | refine Below.drew ?_ | refine Below.setCell ?_ (by first | omega | (simp <;> omega)) _ | refine Below.alloc ?_ (by first | omega | (simp <;> omega)) _)
    clear hb1
    go_wp2_with fail
    refine bodyPost_ret (v := N d) (by simp (maxDischargeDepth := 8) [results, Try.results57, go_sem, qw111_0_1, qw111_1_1, qw111_2_1, qw111_3_1]) rfl ⟨rfl, ?_⟩
    repeat (first | refine Below.setCell ?_ (by first | omega | (simp <;> omega)) _ | refine Below.drew ?_ | refine Below.alloc ?_ (by first | omega | (simp <;> omega)) _ | exact b1.out)
theorem subMod_fun (a b m : Nm) (oa : a.ok) (ob : b.ok) (om : m.ok) (ha : a.nat < m.nat) (hb : b.nat < m.nat) (w : World) :
    Calls Try.prog 57 #[N a, N b, N m] w fun e w' => e = .returned (N (subM a b m)) ∧ Below w.heap.size w w' := by
  have m1 := Nm.nat_lt om
  have ca := Nm.nat_cast oa; have cb := Nm.nat_cast ob; have cm := Nm.nat_cast om
  have os : (subS a b).ok := Nm.of_ok _
  have sv : (subS a b).val = (a.val - b.val) % M := Nm.of_val (Int.emod_nonneg _ (by decide)) (Int.emod_lt_of_pos _ M_pos)
  refine subMod_walk a b m (subS a b) _ (subC a b) os om (sub_fun a b oa ob) ?_ ?_ w
  · intro hu
    have lt : a.nat < b.nat := by
      unfold subC at hu
      rw [← ca, ← cb, M_cast] at hu
      omega
    unfold addS subM
    rw [sv, Nat.mod_eq_of_lt (show a.nat + m.nat - b.nat < m.nat by omega)]
    congr 1
    rw [← ca, ← cb, ← cm, M_cast]
    omega
  · intro hu
    have ge : b.nat ≤ a.nat := by
      rcases Nat.lt_or_ge a.nat b.nat with h | h
      · refine absurd ?_ hu
        unfold subC
        rw [← ca, ← cb, M_cast]
        omega
      · exact h
    unfold subM
    rw [Nat.mod_eq_sub_mod (show m.nat ≤ a.nat + m.nat - b.nat by omega), Nat.mod_eq_of_lt (by omega)]
    refine Nm.eq_of os ?_
    rw [sv, ← ca, ← cb, M_cast]
    omega
theorem Cells4.other4 {W w1 : World} {k j : Nat} {x : Nm} {a b c d : Value} (q : Cells4 W k a b c d) (hb : Below W.heap.size W w1) (hj : W.heap.size ≤ j) : Cells4 (st4 w1 j x) k a b c d := by
  have := lt_of_cell q.a
  exact (q.up hb).st4_ne (by omega)
theorem Cells4.other8 {W w1 : World} {k j : Nat} {x y : Nm} {a b c d : Value} (q : Cells4 W k a b c d) (hb : Below W.heap.size W w1) (hj : W.heap.size ≤ j) : Cells4 (st8 w1 j x y) k a b c d := by
  have := lt_of_cell q.a
  exact ((((q.other4 (x := x) hb hj).set_ne (by omega)).set_ne (by omega)).set_ne (by omega)).set_ne (by omega)
theorem Lies.other4 {W w1 : World} {k j : Nat} {x y : Nm} (q : Lies W k y) (hb : Below W.heap.size W w1) (hj : W.heap.size ≤ j) : Lies (st4 w1 j x) k y := by
  have := lt_of_cell q.a
  exact (q.up hb).st4_ne (by omega)
theorem Lies.other8 {W w1 : World} {k j : Nat} {x y z : Nm} (q : Lies W k z) (hb : Below W.heap.size W w1) (hj : W.heap.size ≤ j) : Lies (st8 w1 j x y) k z := by
  have := lt_of_cell q.a
  exact (q.up hb).st8_ne (by omega)
abbrev C4 (w : World) (k : Nat) (x : Nm) : Prop := Cells4 w k (.int .u64 x.a) (.int .u64 x.b) (.int .u64 x.c) (.int .u64 x.d)
/-- What lies where while Inverse goes round. -/
structure InvSt (w : World) (s k B : Nat) (m n l t u : Nm) : Prop where
  m : Lies w (s + 1) m
  r : C4 w (s + 1 + 1) ⟨0, 0, 0, 0⟩
  n : C4 w k n
  l : C4 w B l
  t : C4 w (B + 1) t
  u : C4 w (B + 1 + 1) u
  far : s + 1 + 1 < k
  near : k < B
theorem InvSt.up {W w1 : World} {s k B : Nat} {m n l t u : Nm} (q : InvSt W s k B m n l t u) (hb : Below W.heap.size W w1) : InvSt w1 s k B m n l t u :=
  ⟨q.m.up hb, q.r.up hb, q.n.up hb, q.l.up hb, q.t.up hb, q.u.up hb, q.far, q.near⟩
theorem InvSt.other4 {W w1 : World} {s k B j : Nat} {x m n l t u : Nm} (q : InvSt W s k B m n l t u) (hb : Below W.heap.size W w1) (hj : W.heap.size ≤ j) : InvSt (st4 w1 j x) s k B m n l t u :=
  ⟨q.m.other4 hb hj, q.r.other4 hb hj, q.n.other4 hb hj, q.l.other4 hb hj, q.t.other4 hb hj, q.u.other4 hb hj, q.far, q.near⟩
theorem InvSt.other8 {W w1 : World} {s k B j : Nat} {x y m n l t u : Nm} (q : InvSt W s k B m n l t u) (hb : Below W.heap.size W w1) (hj : W.heap.size ≤ j) : InvSt (st8 w1 j x y) s k B m n l t u :=
  ⟨q.m.other8 hb hj, q.r.other8 hb hj, q.n.other8 hb hj, q.l.other8 hb hj, q.t.other8 hb hj, q.u.other8 hb hj, q.far, q.near⟩
theorem InvSt.ne4 {w : World} {s k B j : Nat} {x m n l t u : Nm} (q : InvSt w s k B m n l t u) (h1 : B + 1 + 1 < j) : InvSt (st4 w j x) s k B m n l t u := by
  have := q.far; have := q.near
  exact ⟨q.m.st4_ne (by omega), q.r.st4_ne (by omega), q.n.st4_ne (by omega), q.l.st4_ne (by omega), q.t.st4_ne (by omega), q.u.st4_ne (by omega), q.far, q.near⟩
theorem InvSt.setl {w : World} {s k B : Nat} {x m n l t u : Nm} (q : InvSt w s k B m n l t u) : InvSt (st4 w B x) s k B m n x t u := by
  have := q.far; have := q.near
  exact ⟨q.m.st4_ne (by omega), q.r.st4_ne (by omega), q.n.st4_ne (by omega), q.l.st4_self, q.t.st4_ne (by omega), q.u.st4_ne (by omega), q.far, q.near⟩
theorem InvSt.setn {w : World} {s k B : Nat} {x m n l t u : Nm} (q : InvSt w s k B m n l t u) : InvSt (st4 w k x) s k B m x l t u := by
  have := q.far; have := q.near
  exact ⟨q.m.st4_ne (by omega), q.r.st4_ne (by omega), q.n.st4_self, q.l.st4_ne (by omega), q.t.st4_ne (by omega), q.u.st4_ne (by omega), q.far, q.near⟩
theorem InvSt.sett {w : World} {s k B : Nat} {x m n l t u : Nm} (q : InvSt w s k B m n l t u) : InvSt (st4 w (B + 1) x) s k B m n l x u := by
  have := q.far; have := q.near
  exact ⟨q.m.st4_ne (by omega), q.r.st4_ne (by omega), q.n.st4_ne (by omega), q.l.st4_ne (by omega), q.t.st4_self, q.u.st4_ne (by omega), q.far, q.near⟩
theorem InvSt.setu {w : World} {s k B : Nat} {x m n l t u : Nm} (q : InvSt w s k B m n l t u) : InvSt (st4 w (B + 1 + 1) x) s k B m n l t x := by
  have := q.far; have := q.near
  exact ⟨q.m.st4_ne (by omega), q.r.st4_ne (by omega), q.n.st4_ne (by omega), q.l.st4_ne (by omega), q.t.st4_ne (by omega), q.u.st4_self, q.far, q.near⟩
/-- What holds of the numbers while Inverse goes round. -/
structure InvOk (a m n l t u : Nm) (G : Nat) : Prop where
  on : n.ok
  ol : l.ok
  ot : t.ok
  ou : u.ok
  g : Nat.gcd l.nat n.nat = G
  dl : (m.nat : Int) ∣ (l.nat : Int) - a.nat * t.nat
  dn : (m.nat : Int) ∣ (n.nat : Int) - a.nat * u.nat
  lt : t.nat < m.nat
  lu : n.nat ≠ 0 → u.nat < m.nat
def tkM (q u m : Nat) : Nm := Nm.of ((q * u % m : Nat) : Int)
theorem InvOk.step {a m n l t u : Nm} {G : Nat} (om : m.ok) (h : InvOk a m n l t u G) (hn : n.nat ≠ 0) : (tkM (l.nat / n.nat) u.nat m.nat).ok ∧ (tkM (l.nat / n.nat) u.nat m.nat).nat < m.nat ∧
    InvOk a m (Nm.of ((l.nat % n.nat : Nat) : Int)) n u (subM t (tkM (l.nat / n.nat) u.nat m.nat) m) G := by
  have m1 := Nm.nat_lt om
  have lu := h.lu hn
  have lt := h.lt
  have mp : 0 < m.nat := by omega
  have tl : l.nat / n.nat * u.nat % m.nat < m.nat := Nat.mod_lt _ mp
  have tn : (tkM (l.nat / n.nat) u.nat m.nat).nat = l.nat / n.nat * u.nat % m.nat := Nm.of_nat (by omega)
  have rl : l.nat % n.nat < n.nat := Nat.mod_lt _ (by omega)
  have rn : (Nm.of ((l.nat % n.nat : Nat) : Int)).nat = l.nat % n.nat := Nm.of_nat (Nat.lt_trans rl (Nm.nat_lt h.on))
  have sl : (t.nat + m.nat - l.nat / n.nat * u.nat % m.nat) % m.nat < m.nat := Nat.mod_lt _ mp
  have sn : (subM t (tkM (l.nat / n.nat) u.nat m.nat) m).nat = (t.nat + m.nat - l.nat / n.nat * u.nat % m.nat) % m.nat := by
    unfold subM
    rw [tn]
    exact Nm.of_nat (by omega)
  refine ⟨Nm.of_ok _, by rw [tn]; exact tl, Nm.of_ok _, h.on, h.ou, Nm.of_ok _, ?_, h.dn, ?_, lu, fun _ => by rw [sn]; exact sl⟩
  · rw [rn, Nat.gcd_comm, ← Nat.gcd_rec, Nat.gcd_comm]; exact h.g
  · rw [rn, sn]
    have d1 := Nat.div_add_mod (l.nat / n.nat * u.nat) m.nat
    have d2 := Nat.div_add_mod (t.nat + m.nat - l.nat / n.nat * u.nat % m.nat) m.nat
    have d3 := Nat.div_add_mod l.nat n.nat
    generalize l.nat / n.nat * u.nat % m.nat = tk at *
    generalize (t.nat + m.nat - tk) % m.nat = nn at *
    generalize (t.nat + m.nat - tk) / m.nat = e2 at *
    generalize l.nat / n.nat * u.nat / m.nat = e1 at *
    generalize l.nat % n.nat = left at *
    generalize l.nat / n.nat = q at *
    refine inv_step (m := m.nat) (a := a.nat) (last := l.nat) (lT := t.nat) (next := n.nat) (nT := u.nat) (q := q) (left := left) h.dl h.dn ?_ (-(e1 : Int)) (1 - (e2 : Int)) (tk : Int) ?_ (nn : Int) ?_
    · have := congrArg (fun z : Nat => (z : Int)) d3
      simp only [Int.natCast_add, Int.natCast_mul] at this
      rw [← this, Int.mul_comm]
    · have := congrArg (fun z : Nat => (z : Int)) d1
      simp only [Int.natCast_add, Int.natCast_mul] at this
      rw [← this, Int.mul_neg]
      omega
    · have := congrArg (fun z : Nat => (z : Int)) d2
      simp only [Int.natCast_add, Int.natCast_mul] at this
      rw [Int.mul_sub, Int.mul_one]
      omega
set_option maxHeartbeats 1000000 in
theorem inv_walk (a m n0 : Nm) (G : Nat) (om : m.ok) (I0 : InvOk a m n0 m ⟨0, 0, 0, 0⟩ ⟨1, 0, 0, 0⟩ G)
    (x : Nm) (ec : Int) (hO : G = 1 → ∀ t : Nm, t.ok → t.nat < m.nat → a.nat * t.nat % m.nat = 1 % m.nat → t = x ∧ ec = 0) (hN : G ≠ 1 → x = ⟨0, 0, 0, 0⟩ ∧ ec = 6)
    (MA : ∀ w, Calls Try.prog 55 #[Wv a ⟨0, 0, 0, 0⟩, N m] w fun e w' => e = .returned (.tuple #[N n0, .int .i64 0]) ∧ Below w.heap.size w w')
    (w : World) :
    Calls Try.prog 31 #[N a, N m] w fun e w' => e = .returned (.tuple #[N x, .int .i64 ec]) ∧ Below w.heap.size w w' := by
  go_enter Try.func31, Try.ntmps31
  have H0 : Hid (Has (al4 (al4 (al4 w a) m) ⟨0, 0, 0, 0⟩) [(w.heap.size + 1 + 1, ⟨0, 0, 0, 0⟩), (w.heap.size + 1, m), (w.heap.size, a)]) := (((Has.nil w).arg rfl).arg (by simp)).arg (by simp)
  have b0 : Hid (Below w.heap.size w (al4 (al4 (al4 w a) m) ⟨0, 0, 0, 0⟩)) := below_al4 (below_al4 (below_al4 (Below.refl _ _) (Nat.le_refl _)) (by simp)) (by simp; omega)
  have r0 : Hid (Cells4 (al4 (al4 (al4 w a) m) ⟨0, 0, 0, 0⟩) (w.heap.size + 1 + 1) (.int .u64 0) (.int .u64 0) (.int .u64 0) (.int .u64 0)) := by constructor <;> simp [go_sem]
  go_wp2_with fail
  refine wp_region_alloc1 8 (.cells #[.int .u64 0, .int .u64 0, .int .u64 0, .int .u64 0] 24) (by kernel_rfl) (by kernel_rfl) (by kernel_rfl) (by kernel_rfl) (by decide) (fun _ _ d _ _ h => by cases d <;> exact h) rfl rfl (fun _ _ => by kernel_rfl) ?_
  apply Exists.intro
  refine ⟨fun U hU f hf hcl => ?_, fun k1 w1 hb1 hk1 hc1 => ?_⟩
  · have A := fun n => Lies.up (x := a) (k := w.heap.size) (H0.out.at (by simp)) (hf n).out
    have A_a := fun n => (A n).a
    have A_b := fun n => (A n).b
    have A_c := fun n => (A n).c
    have A_d := fun n => (A n).d
    clear A
    have C := fun n => Lies.up (x := m) (k := w.heap.size + 1) (H0.out.at (by simp)) (hf n).out
    have C_a := fun n => (C n).a
    have C_b := fun n => (C n).b
    have C_c := fun n => (C n).c
    have C_d := fun n => (C n).d
    clear C
    clear hf
    simp only [List.take_succ_cons, List.take_zero]
    repeat (go_big_quiet_step (first | (go_at_call 26; exact (wideOf_fun a ⟨0, 0, 0, 0⟩ _).mono fun e w'' ⟨he, hb⟩ => ⟨he, hcl.out _ _ hb⟩) | (go_at_call 55; exact (MA _).mono fun e w'' ⟨he, hb⟩ => ⟨he, hcl.out _ _ hb⟩)))
    exact wpQuiet_nil rfl
  · simp only [List.drop_succ_cons, List.drop_zero]
    obtain ⟨c0, c1, c2, c3, cz⟩ := cells4 hc1.out
    have H1 : Hid (Has (st4 w1 k1 n0) [(k1, n0), (w.heap.size + 1 + 1, ⟨0, 0, 0, 0⟩), (w.heap.size + 1, m), (w.heap.size, a)]) := H0.out.new hb1.out hk1 hc1.out
    have b1 : Hid (Below w.heap.size w (st4 w1 k1 n0)) := below_st4 (b0.out.trans (hb1.out.mono b0.out.size)) (Nat.le_trans b0.out.size hk1)
    have lk := lt_of_cell c0
    simp at hk1
    have r1 : Hid _ := (r0.out.up hb1.out).st4_ne (k := k1) (x := n0) (by omega)
    have n1 : Hid _ := (cells4 hc1.out).st4_self (x := n0)
    have mm := H1.out.at (k := w.heap.size + 1) (x := m) (by simp)
    obtain ⟨m0, m1, m2, m3⟩ := mm
    go_wp2_with fail
    clear c0 c1 c2 c3 cz hc1 hb1 H0 b0 r0 m0 m1 m2 m3
    have B0 : Hid (InvSt (al4 (al4 (al4 (st4 w1 k1 n0) m) ⟨0, 0, 0, 0⟩) ⟨1, 0, 0, 0⟩) w.heap.size k1 w1.heap.size m n0 m ⟨0, 0, 0, 0⟩ ⟨1, 0, 0, 0⟩) := by
      have al : Below (st4 w1 k1 n0).heap.size (st4 w1 k1 n0) (al4 (al4 (al4 (st4 w1 k1 n0) m) ⟨0, 0, 0, 0⟩) ⟨1, 0, 0, 0⟩) := below_al4 (below_al4 (below_al4 (Below.refl _ _) (Nat.le_refl _)) (by rw [size_al4]; omega)) (by rw [size_al4, size_al4]; omega)
      refine ⟨(H1.out.at (k := w.heap.size + 1) (x := m) (by simp)).up al, r1.out.up al, n1.out.up al, ?_, ?_, ?_, by omega, lk⟩ <;> constructor <;> simp [go_sem]
    have b2 : Hid (Below w.heap.size w (al4 (al4 (al4 (st4 w1 k1 n0) m) ⟨0, 0, 0, 0⟩) ⟨1, 0, 0, 0⟩)) := by
      have q := b1.out.size
      exact below_al4 (below_al4 (below_al4 b1.out q) (by rw [size_al4]; omega)) (by rw [size_al4, size_al4]; omega)
    clear H1 b1 r1 n1
    go_loopw [] (fun w' => ∃ n l t u : Nm, Hid (InvOk a m n l t u G) ∧ Hid (InvSt w' w.heap.size k1 w1.heap.size m n l t u) ∧ Hid (Below w.heap.size w w')) (fun w' => (memN w' k1).nat)
    case atStart => exact ⟨n0, m, ⟨0, 0, 0, 0⟩, ⟨1, 0, 0, 0⟩, I0, B0, b2⟩
    case round =>
      obtain ⟨nx, l, t, u, I, st, hb⟩ := hrel
      by_cases hn : nx = ⟨0, 0, 0, 0⟩
      · subst hn
        have e3 := neN ⟨0, 0, 0, 0⟩ ⟨0, 0, 0, 0⟩
        rw [Nm.beq_self] at e3
        have gl : l.nat = G := by
          have := I.out.g
          rw [show (⟨0, 0, 0, 0⟩ : Nm).nat = 0 from rfl, Nat.gcd_zero_right] at this
          exact this
        obtain ⟨y0, y1, y2, y3, yz⟩ := st.out.n
        obtain ⟨l0, l1, l2, l3, lz⟩ := st.out.l
        obtain ⟨t0, t1, t2, t3, tz⟩ := st.out.t
        obtain ⟨r0, r1, r2, r3, rz⟩ := st.out.r
        have far := st.out.far
        have near := st.out.near
        by_cases hl : l = ⟨1, 0, 0, 0⟩
        · subst hl
          have e4 := neN ⟨1, 0, 0, 0⟩ ⟨1, 0, 0, 0⟩
          rw [Nm.beq_self] at e4
          have hG : G = 1 := by rw [← gl]; rfl
          obtain ⟨R1, R2⟩ := hO hG t I.out.ot I.out.lt (inv_mod I.out.dl)
          subst R1 R2
          go_wp2_with fail
          refine bodyPost_ret (v := .tuple #[N t, .int .i64 0]) (by simp (maxDischargeDepth := 8) [results, Try.results31, go_sem, r0, r1, r2, r3]) rfl ⟨rfl, ?_⟩
          iterate 4 refine Below.setCell ?_ (by first | omega | (simp <;> omega)) _
          exact hb.out
        · have e4 := neN l ⟨1, 0, 0, 0⟩
          rw [Nm.beq_ne hl] at e4
          obtain ⟨R1, R2⟩ := hN (fun e => hl (Nm.ext_nat I.out.ol ⟨⟨by decide, by decide⟩, ⟨by decide, by decide⟩, ⟨by decide, by decide⟩, ⟨by decide, by decide⟩⟩ (by rw [gl, e]; rfl)))
          subst R1 R2
          go_wp2_with fail
          refine bodyPost_ret (v := .tuple #[N ⟨0, 0, 0, 0⟩, .int .i64 6]) (by simp (maxDischargeDepth := 8) [results, Try.results31, go_sem, r0, r1, r2, r3]) rfl ⟨rfl, ?_⟩
          iterate 4 refine Below.setCell ?_ (by first | omega | (simp <;> omega)) _
          exact hb.out
      · have e3 := neN nx ⟨0, 0, 0, 0⟩
        rw [Nm.beq_ne hn] at e3
        obtain ⟨y0, y1, y2, y3, yz⟩ := st.out.n
        go_wp2_with fail
        clear y0 y1 y2 y3 yz
        have nn : nx.nat ≠ 0 := fun e => hn (Nm.ext_nat I.out.on zero_ok (by rw [e]; rfl))
        obtain ⟨otk, ltk, I2⟩ := I.out.step om nn
        have D := divmod_fun l ⟨0, 0, 0, 0⟩ nx I.out.ol zero_ok I.out.on hn
        rw [V_wide, show nx.val.toNat = nx.nat from rfl] at D
        have q1 : l.nat / nx.nat < 2 ^ 256 := Nat.lt_of_le_of_lt (Nat.div_le_self _ _) (Nm.nat_lt I.out.ol)
        rw [WH_small q1, WL_small q1] at D
        have oq : (Nm.of ((l.nat / nx.nat : Nat) : Int)).ok := Nm.of_ok _
        have qn : (Nm.of ((l.nat / nx.nat : Nat) : Int)).nat = l.nat / nx.nat := Nm.of_nat q1
        have MU := mul_V (Nm.of ((l.nat / nx.nat : Nat) : Int)) u oq I.out.ou
        have nz : m ≠ ⟨0, 0, 0, 0⟩ := fun e => by subst e; exact absurd ltk (Nat.not_lt_zero _)
        have MO := mod_fun (WL ((Nm.of ((l.nat / nx.nat : Nat) : Int)).nat * u.nat)) (WH ((Nm.of ((l.nat / nx.nat : Nat) : Int)).nat * u.nat)) m (WL_ok _) (WH_ok _) om nz
        rw [V_of (mul_lt512 oq I.out.ou), show m.val.toNat = m.nat from rfl] at MO
        rw [qn] at MU MO
        rw [← show tkM (l.nat / nx.nat) u.nat m.nat = Nm.of ((l.nat / nx.nat * u.nat % m.nat : Nat) : Int) from rfl] at MO
        have SM := subMod_fun t (tkM (l.nat / nx.nat) u.nat m.nat) m I.out.ot otk om I.out.lt ltk
        have lft : (Nm.of ((l.nat % nx.nat : Nat) : Int)).nat < nx.nat := by
          have h := Nat.mod_lt l.nat (show 0 < nx.nat by omega)
          rw [Nm.of_nat (Nat.lt_trans h (Nm.nat_lt I.out.on))]
          exact h
        have J : Hid _ := And.intro I2 lft
        clear I2 lft q1 oq qn nz otk ltk nn
        generalize subM t (tkM (l.nat / nx.nat) u.nat m.nat) m = u' at *
        generalize tkM (l.nat / nx.nat) u.nat m.nat = tk at *
        generalize Nm.of ((l.nat % nx.nat : Nat) : Int) = lf at *
        generalize WL (l.nat / nx.nat * u.nat) = pl at *
        generalize WH (l.nat / nx.nat * u.nat) = ph at *
        generalize Nm.of ((l.nat / nx.nat : Nat) : Int) = q at *
        refine wp_region_alloc2 9 (.cells #[.int .u64 0, .int .u64 0, .int .u64 0, .int .u64 0, .int .u64 0, .int .u64 0, .int .u64 0, .int .u64 0] 34) (.cells #[.int .u64 0, .int .u64 0, .int .u64 0, .int .u64 0] 24) (by kernel_rfl) (by kernel_rfl) (by kernel_rfl) (by kernel_rfl) (by decide) (fun _ _ d _ _ h => by cases d <;> exact h) rfl rfl rfl rfl (by decide) (fun _ _ => by kernel_rfl) (fun _ _ => by kernel_rfl) ?_
        apply Exists.intro
        refine ⟨fun U hU f hf hcl => ?_, fun k3 j3 w3 hb3 hk3 hj3 hn3 hc3 hd3 => ?_⟩
        · have A := fun n => Lies.up (x := l) (k := w1.heap.size) st.out.l.lies (hf n).out
          have A_a := fun n => (A n).a
          have A_b := fun n => (A n).b
          have A_c := fun n => (A n).c
          have A_d := fun n => (A n).d
          clear A
          have B := fun n => Lies.up (x := nx) (k := k1) st.out.n.lies (hf n).out
          have B_a := fun n => (B n).a
          have B_b := fun n => (B n).b
          have B_c := fun n => (B n).c
          have B_d := fun n => (B n).d
          clear B
          clear hf
          simp only [List.take_succ_cons, List.take_zero]
          repeat (go_big_quiet_step (first | (go_at_call 26; exact (wideOf_fun l ⟨0, 0, 0, 0⟩ _).mono fun e w'' ⟨he, hb⟩ => ⟨he, hcl.out _ _ hb⟩) | (go_at_call 56; exact (D _).mono fun e w'' ⟨he, hb⟩ => ⟨he, hcl.out _ _ hb⟩)))
          exact wpQuiet_nil rfl
        · simp only [List.drop_succ_cons, List.drop_zero]
          obtain ⟨c0, c1, c2, c3, c4, c5, c6, c7, cz⟩ := cells8 hc3.out
          obtain ⟨d0, d1, d2, d3, dz⟩ := cells4 hd3.out
          have nkj : ¬ k3 = j3 := hn3.out
          have njk : ¬ j3 = k3 := fun h => hn3.out h.symm
          have fu := lt_of_cell st.out.u.a
          have st3 : Hid (InvSt (st4 (st8 w3 k3 q ⟨0, 0, 0, 0⟩) j3 lf) w.heap.size k1 w1.heap.size m nx l t u) := (st.out.other8 hb3.out hk3).ne4 (by omega)
          have Lq : Hid (Lies8 (st4 (st8 w3 k3 q ⟨0, 0, 0, 0⟩) j3 lf) k3 q ⟨0, 0, 0, 0⟩) := (Lies8.st8_self hc3.out _ _).st4_ne njk
          have Lf : Hid (Lies (st4 (st8 w3 k3 q ⟨0, 0, 0, 0⟩) j3 lf) j3 lf) := (((cells4 hd3.out).st4_ne nkj).set_ne nkj |>.set_ne nkj |>.set_ne nkj |>.set_ne nkj).st4_self.lies
          have z1 := hb.out.size
          have b3 : Hid (Below w.heap.size w (st4 (st8 w3 k3 q ⟨0, 0, 0, 0⟩) j3 lf)) := below_st4 (below_st8 (hb.out.trans (hb3.out.mono z1)) (by omega)) (by omega)
          have M0 : Hid _ := memN_of st.out.n.lies
          have hb3size := hb3.out.size
          have lj := lt_of_cell d0
          go_wp2_with fail
          clear c0 c1 c2 c3 c4 c5 c6 c7 cz d0 d1 d2 d3 dz hc3 hd3 hb3 st hb
          refine wp_region_alloc1 9 (.cells #[.int .u64 0, .int .u64 0, .int .u64 0, .int .u64 0] 24) (by kernel_rfl) (by kernel_rfl) (by kernel_rfl) (by kernel_rfl) (by decide) (fun _ _ d _ _ h => by cases d <;> exact h) rfl rfl (fun _ _ => by kernel_rfl) ?_
          apply Exists.intro
          refine ⟨fun U hU f hf hcl => ?_, fun k4 w4 hb4 hk4 hc4 => ?_⟩
          · have A := fun n => Lies8.up (l := q) (h := ⟨0, 0, 0, 0⟩) (k := k3) Lq.out (hf n).out
            have A_a := fun n => (A n).a
            have A_b := fun n => (A n).b
            have A_c := fun n => (A n).c
            have A_d := fun n => (A n).d
            have A_e := fun n => (A n).e
            have A_f := fun n => (A n).f
            have A_g := fun n => (A n).g
            have A_i := fun n => (A n).i
            clear A
            have B := fun n => Lies.up (x := u) (k := w1.heap.size + 1 + 1) st3.out.u.lies (hf n).out
            have B_a := fun n => (B n).a
            have B_b := fun n => (B n).b
            have B_c := fun n => (B n).c
            have B_d := fun n => (B n).d
            clear B
            have C := fun n => Lies.up (x := m) (k := w.heap.size + 1) st3.out.m (hf n).out
            have C_a := fun n => (C n).a
            have C_b := fun n => (C n).b
            have C_c := fun n => (C n).c
            have C_d := fun n => (C n).d
            clear C
            clear hf
            simp only [List.take_succ_cons, List.take_zero]
            repeat (go_big_quiet_step (first | (go_at_call 29; exact (low_fun q ⟨0, 0, 0, 0⟩ _).mono fun e w'' ⟨he, hb⟩ => ⟨he, hcl.out _ _ hb⟩) | (go_at_call 16; exact (MU _).mono fun e w'' ⟨he, hb⟩ => ⟨he, hcl.out _ _ hb⟩) | (go_at_call 55; exact (MO _).mono fun e w'' ⟨he, hb⟩ => ⟨he, hcl.out _ _ hb⟩)))
            exact wpQuiet_nil rfl
          · simp only [List.drop_succ_cons, List.drop_zero]
            obtain ⟨c0, c1, c2, c3, cz⟩ := cells4 hc4.out
            have st5 : Hid (InvSt (st4 w4 k4 tk) w.heap.size k1 w1.heap.size m nx l t u) := st3.out.other4 hb4.out hk4
            have Lt : Hid (Lies (st4 w4 k4 tk) k4 tk) := Lies.st4_self hc4.out _
            have Lf5 : Hid (Lies (st4 w4 k4 tk) j3 lf) := Lf.out.other4 hb4.out hk4
            have b5 : Hid (Below w.heap.size w (st4 w4 k4 tk)) := below_st4 (b3.out.trans (hb4.out.mono b3.out.size)) (Nat.le_trans b3.out.size hk4)
            have hk4' : w3.heap.size ≤ k4 := by
              have e := (size_st4 (st8 w3 k3 q ⟨0, 0, 0, 0⟩) j3 lf).trans (size_st8 w3 k3 q ⟨0, 0, 0, 0⟩)
              exact e ▸ hk4
            clear hk4
            have far := st5.out.far
            have near := st5.out.near
            have zz := hb3size
            go_wp2_with fail
            clear c0 c1 c2 c3 cz hc4 hb4 st3 Lq Lf b3
            obtain ⟨x0, x1, x2, x3, xz⟩ := st5.out.n
            obtain ⟨y0, y1, y2, y3, yz⟩ := st5.out.l
            obtain ⟨f0, f1, f2, f3⟩ := Lf5.out
            have n1 : ¬ w1.heap.size = k1 := by omega
            have n2 : ¬ k1 = w1.heap.size := by omega
            have n3 : ¬ w1.heap.size = j3 := by omega
            have n4 : ¬ k1 = j3 := by omega
            have st6 : Hid (InvSt (st4 (st4 (st4 w4 k4 tk) w1.heap.size nx) k1 lf).drew w.heap.size k1 w1.heap.size m lf nx t u) := (st5.out.setl.setn).up (Below.drew (Below.refl _ _))
            have Lt6 : Hid (Lies (st4 (st4 (st4 w4 k4 tk) w1.heap.size nx) k1 lf).drew k4 tk) := ((Lt.out.st4_ne (by omega)).st4_ne (by omega)).up (Below.drew (Below.refl _ _))
            have b6 : Hid (Below w.heap.size w (st4 (st4 (st4 w4 k4 tk) w1.heap.size nx) k1 lf).drew) := Below.drew (below_st4 (below_st4 b5.out (by omega)) (by omega))
            go_region
            go_wp2_with fail
            clear x0 x1 x2 x3 xz y0 y1 y2 y3 yz f0 f1 f2 f3 st5 Lt Lf5 b5
            refine wp_region_up_then2 5 (by kernel_rfl) (by kernel_rfl) (by kernel_rfl) (by kernel_rfl) (by decide) (fun _ _ d _ _ h => by cases d <;> exact h) (fun U hU f hf hcl => ?_)
            have A := fun n => Lies.up (x := u) (k := w1.heap.size + 1 + 1) st6.out.u.lies (hf n).out
            have A_a := fun n => (A n).a
            have A_b := fun n => (A n).b
            have A_c := fun n => (A n).c
            have A_d := fun n => (A n).d
            clear A
            have B := fun n => Lies.up (x := t) (k := w1.heap.size + 1) st6.out.t.lies (hf n).out
            have B_a := fun n => (B n).a
            have B_b := fun n => (B n).b
            have B_c := fun n => (B n).c
            have B_d := fun n => (B n).d
            clear B
            have C := fun n => Lies.up (x := tk) (k := k4) Lt6.out (hf n).out
            have C_a := fun n => (C n).a
            have C_b := fun n => (C n).b
            have C_c := fun n => (C n).c
            have C_d := fun n => (C n).d
            clear C
            have D := fun n => Lies.up (x := m) (k := w.heap.size + 1) st6.out.m (hf n).out
            have D_a := fun n => (D n).a
            have D_b := fun n => (D n).b
            have D_c := fun n => (D n).c
            have D_d := fun n => (D n).d
            clear D
            simp only [List.take_succ_cons, List.take_zero, List.drop_succ_cons, List.drop_zero]
            repeat (go_big_quiet_step (first | (go_at_call 57; exact (SM _).mono fun e w'' ⟨he, hb⟩ => ⟨he, hcl.out _ _ hb⟩)))
            refine wpQuiet_nil ?_
            intro v
            have hb7 := (hf v).out
            generalize f v = w7 at hb7 ⊢
            have st7 : Hid _ := st6.out.up hb7
            have st8' : Hid (InvSt (st4 (st4 w7 (w1.heap.size + 1) u) (w1.heap.size + 1 + 1) u') w.heap.size k1 w1.heap.size m lf nx u u') := (st6.out.up hb7).sett.setu
            have b7 : Hid (Below w.heap.size w (st4 (st4 w7 (w1.heap.size + 1) u) (w1.heap.size + 1 + 1) u')) := below_st4 (below_st4 (b6.out.trans (hb7.mono b6.out.size)) (by omega)) (by omega)
            clear hf hcl hb7 st6 Lt6 b6 A_a A_b A_c A_d B_a B_b B_c B_d C_a C_b C_c C_d D_a D_b D_c D_d
            obtain ⟨x0, x1, x2, x3, xz⟩ := st7.out.t
            obtain ⟨y0, y1, y2, y3, yz⟩ := st7.out.u
            go_wp2_with fail
            refine ⟨⟨lf, nx, u, u', J.out.1, st8', b7⟩, ?_⟩
            rw [M0.out, show memN _ k1 = lf from memN_of st8'.out.n.lies]
            exact J.out.2
end Go.Proofs.Ytgdekdmdidahdaa
