/- Texts that were joined: CrvGroup, CrvN, CurveNo. -/
import Derived.Test.YtjdamgfichlgpaaCrvS
import Derived.Test.YtjdamgfichlgpaaUpA
import Derived.Test.YtjdamgfichlgpaaROft
import Derived.Test.YtjdamgfichlgpaaCvOn
/- CurveGroup, out of what package curve must keep. -/
namespace Go.Proofs.Ytjdamgfichlgpaa
open Go.RowKit
attribute [local go_sem] World.cell?_alloc_some cell_alloc2 cell_alloc3 cell_alloc4 frozen?_alloc_cells frozen_out
set_option linter.unusedSimpArgs false
theorem eqP_self (x y : Nm) (w : World) : (binOp .eql 26 (Wv x y) (Wv x y)).run Try.prog w = .ok (.bool true) w := by rw [eqP, Nm.beq_self, Nm.beq_self]; rfl
theorem pv_of {x y : Nm} (ox : x.ok) (oy : y.ok) : Wv x y = pv (x.nat, y.nat) := by
  show Wv x y = Wv (nm x.nat) (nm y.nat)
  rw [← Nm.eq_nm ox rfl, ← Nm.eq_nm oy rfl]
end Go.Proofs.Ytjdamgfichlgpaa

/- What package curve must keep where a point is none; a fraction as its point. -/
namespace Go.Proofs.Ytjdamgfichlgpaa
open Go.RowKit
set_option linter.unusedSimpArgs false
abbrev zW : Value := Wv ⟨0, 0, 0, 0⟩ ⟨0, 0, 0, 0⟩
def CNegN : Prop := ∀ x y : Nm, x.ok → y.ok → ¬ Cv.On (x.nat, y.nat) → ∀ w, Calls Try.prog 31 #[Wv x y] w fun e w' => e = .returned (.tuple #[zW, .int .i64 1]) ∧ Below w.heap.size w w'
def CAddN : Prop := ∀ px py qx qy : Nm, px.ok → py.ok → qx.ok → qy.ok → ¬ (Cv.On (px.nat, py.nat) ∧ Cv.On (qx.nat, qy.nat)) → ∀ w, Calls Try.prog 57 #[Wv px py, Wv qx qy] w fun e w' => e = .returned (.tuple #[zW, .int .i64 1]) ∧ Below w.heap.size w w'
def CTimesN : Prop := ∀ n x y : Nm, n.ok → x.ok → y.ok → ¬ Cv.On (x.nat, y.nat) → ∀ w, Calls Try.prog 53 #[N n, Wv x y] w fun e w' => e = .returned (.tuple #[zW, .int .i64 1]) ∧ Below w.heap.size w w'
/-- A fraction's point. -/
theorem fr_point {t : Cv.Tr} {P : Cv.Pt} (hP : Cv.On P) (h : Cv.FrN t P) : F.mul t.1 (F.inv t.2.2) = P.1 ∧ F.mul t.2.1 (F.inv t.2.2) = P.2 := by
  have ht : t.2.2 % F.p ≠ 0 := fun e => h.nz ((Cv.Z_nat _).2 e)
  have ki : Cv.K ((t.2.2 : Int) * (F.inv t.2.2 : Nat)) 1 := by
    have := (Cv.K_mul t.2.2 (F.inv t.2.2)).symm
    rw [F.mul_inv ht] at this
    exact this
  have fin : ∀ (X : Nat) (q : Nat), q < F.p → Cv.K (X : Int) ((q : Int) * t.2.2) → F.mul X (F.inv t.2.2) = q := fun X q hq hk => by
    have k1 := (Cv.K_mul X (F.inv t.2.2)).trans (hk.mul (Cv.K.refl ((F.inv t.2.2 : Nat) : Int)))
    have k2 : Cv.K ((q : Int) * t.2.2 * (F.inv t.2.2 : Nat)) ((q : Int) * 1) := by
      rw [Int.mul_assoc]
      exact (Cv.K.refl _).mul ki
    have k3 := k1.trans k2
    rw [Int.mul_one] at k3
    have := Cv.Z_eq.1 k3
    rwa [Nat.mod_eq_of_lt (F.mul_lt _ _), Nat.mod_eq_of_lt hq] at this
  exact ⟨fin _ _ hP.1 h.x, fin _ _ hP.2.1 h.y⟩
theorem often_lt : ∀ (k n : Nat) (a t : Cv.Tr), (a.1 < F.p ∧ a.2.1 < F.p ∧ a.2.2 < F.p) → (t.1 < F.p ∧ t.2.1 < F.p ∧ t.2.2 < F.p) → (Cv.often k n a t).1 < F.p ∧ (Cv.often k n a t).2.1 < F.p ∧ (Cv.often k n a t).2.2 < F.p
  | 0, _, _, _, ha, _ => ha
  | k + 1, n, a, t, ha, _ => by
    rw [Cv.often]
    refine often_lt k _ _ _ ?_ (padd_lt _ _)
    split
    · exact padd_lt _ _
    · exact ha
theorem oft_is (n : Nat) (Q : Cv.Pt) (hP : Cv.On Q) : Cv.FrN (Cv.often (16 * (P.dg n).length) n (0, 1, 1) (Q.1, Q.2, 1)) (Cv.times n Q) := by
  have h := Cv.often_fr (16 * (P.dg n).length) n (0, 1, 1) (Q.1, Q.2, 1) Cv.zero Q (by
    have := P.dv_lt _ (P.dg_Dg n)
    rw [P.dv_dg, show (65536 : Nat) = 2 ^ 16 from rfl, ← Nat.pow_mul] at this
    exact this) Cv.zero_on hP Cv.zero_fr (Cv.Fr.one Q)
  rwa [Cv.add_comm Cv.zero_on (Cv.times_on hP n), Cv.add_zero (Cv.times_on hP n)] at h
end Go.Proofs.Ytjdamgfichlgpaa

/- Package curve, as it landed, where a point is none: Neg, Add, Times. -/
namespace Go.Proofs.Ytjdamgfichlgpaa
open Go.RowKit
attribute [local go_sem] World.cell?_alloc_some cell_alloc2 cell_alloc3 cell_alloc4 frozen?_alloc_cells frozen_out
set_option linter.unusedSimpArgs false
set_option maxHeartbeats 1000000 in
theorem cAdd_no1 (px py qx qy : Nm)
    (O1 : ∀ w, Calls Try.prog 19 #[Wv px py] w fun e w' => e = .returned (.bool false) ∧ Below w.heap.size w w')
    (w : World) :
    Calls Try.prog 57 #[Wv px py, Wv qx qy] w fun e w' => e = .returned (.tuple #[Wv nO nO, .int .i64 1]) ∧ Below w.heap.size w w' := by
  go_enter Try.func57, Try.ntmps57
  have s0 : Hid (Kn (kzP (kalP (kalP w (px) (py)) (qx) (qy))) [(w.heap.size + 1 + 1, zz8), (w.heap.size + 1, (c8 (qx) (qy))), (w.heap.size, (c8 (px) (py)))]) := ((((Kn.nil w).al (c8 (px) (py)) 26 rfl).al (c8 (qx) (qy)) 26 (by simp)).al zz8 26 (by simp))
  have b0 : Hid (Below w.heap.size w (kzP (kalP (kalP w (px) (py)) (qx) (qy)))) := ((((Below.refl _ _).alloc (Nat.le_refl _) _).alloc (by simp <;> omega) _).alloc (by simp <;> omega) _)
  have up_0 : (kzP (kalP (kalP w (px) (py)) (qx) (qy))).cell? ⟨w.heap.size, 0, none⟩ = some (.int .u64 (px).a) := Kn.get s0.out 2 0 rfl rfl
  have up_1 : (kzP (kalP (kalP w (px) (py)) (qx) (qy))).cell? ⟨w.heap.size, 1, none⟩ = some (.int .u64 (px).b) := Kn.get s0.out 2 1 rfl rfl
  have up_2 : (kzP (kalP (kalP w (px) (py)) (qx) (qy))).cell? ⟨w.heap.size, 2, none⟩ = some (.int .u64 (px).c) := Kn.get s0.out 2 2 rfl rfl
  have up_3 : (kzP (kalP (kalP w (px) (py)) (qx) (qy))).cell? ⟨w.heap.size, 3, none⟩ = some (.int .u64 (px).d) := Kn.get s0.out 2 3 rfl rfl
  have up_4 : (kzP (kalP (kalP w (px) (py)) (qx) (qy))).cell? ⟨w.heap.size, 4, none⟩ = some (.int .u64 (py).a) := Kn.get s0.out 2 4 rfl rfl
  have up_5 : (kzP (kalP (kalP w (px) (py)) (qx) (qy))).cell? ⟨w.heap.size, 5, none⟩ = some (.int .u64 (py).b) := Kn.get s0.out 2 5 rfl rfl
  have up_6 : (kzP (kalP (kalP w (px) (py)) (qx) (qy))).cell? ⟨w.heap.size, 6, none⟩ = some (.int .u64 (py).c) := Kn.get s0.out 2 6 rfl rfl
  have up_7 : (kzP (kalP (kalP w (px) (py)) (qx) (qy))).cell? ⟨w.heap.size, 7, none⟩ = some (.int .u64 (py).d) := Kn.get s0.out 2 7 rfl rfl
  go_wp2_with fail
  clear up_0 up_1 up_2 up_3 up_4 up_5 up_6 up_7
  refine (O1 _).mono ?_
  rintro e w1 ⟨rfl, hb1⟩
  have s1 : Hid (Kn w1 [(w.heap.size + 1 + 1, zz8), (w.heap.size + 1, (c8 (qx) (qy))), (w.heap.size, (c8 (px) (py)))]) := s0.out.up hb1
  have b1 : Hid (Below w.heap.size w w1) := b0.out.trans (hb1.mono b0.out.size)
  have z1 := b1.out.size
  clear hb1 s0 b0
  have uro_0 : w1.cell? ⟨w.heap.size + 1 + 1, 0, none⟩ = some (.int .u64 0) := Kn.get s1.out 0 0 rfl rfl
  have uro_1 : w1.cell? ⟨w.heap.size + 1 + 1, 1, none⟩ = some (.int .u64 0) := Kn.get s1.out 0 1 rfl rfl
  have uro_2 : w1.cell? ⟨w.heap.size + 1 + 1, 2, none⟩ = some (.int .u64 0) := Kn.get s1.out 0 2 rfl rfl
  have uro_3 : w1.cell? ⟨w.heap.size + 1 + 1, 3, none⟩ = some (.int .u64 0) := Kn.get s1.out 0 3 rfl rfl
  have uro_4 : w1.cell? ⟨w.heap.size + 1 + 1, 4, none⟩ = some (.int .u64 0) := Kn.get s1.out 0 4 rfl rfl
  have uro_5 : w1.cell? ⟨w.heap.size + 1 + 1, 5, none⟩ = some (.int .u64 0) := Kn.get s1.out 0 5 rfl rfl
  have uro_6 : w1.cell? ⟨w.heap.size + 1 + 1, 6, none⟩ = some (.int .u64 0) := Kn.get s1.out 0 6 rfl rfl
  have uro_7 : w1.cell? ⟨w.heap.size + 1 + 1, 7, none⟩ = some (.int .u64 0) := Kn.get s1.out 0 7 rfl rfl
  have uro_z : ∀ j, w1.frozen? ⟨w.heap.size + 1 + 1, j, none⟩ = false := Kn.fz s1.out 0 rfl
  have s2 : Hid (Kn (st8 w1 (w.heap.size + 1 + 1) (nO) (nO)) [(w.heap.size + 1 + 1, (c8 (nO) (nO))), (w.heap.size + 1, (c8 (qx) (qy))), (w.heap.size, (c8 (px) (py)))]) := Kn.st8 (L := [(w.heap.size + 1, (c8 (qx) (qy))), (w.heap.size, (c8 (px) (py)))]) (s1.out.front 0 rfl) (nO) (nO)
  have b2 : Hid (Below w.heap.size w (st8 w1 (w.heap.size + 1 + 1) (nO) (nO))) := below_st8 b1.out (by omega)
  clear s1 b1
  go_wp2_with fail
  clear uro_0 uro_1 uro_2 uro_3 uro_4 uro_5 uro_6 uro_7 uro_z
  have urr_0 : (st8 w1 (w.heap.size + 1 + 1) (nO) (nO)).cell? ⟨w.heap.size + 1 + 1, 0, none⟩ = some (.int .u64 (nO).a) := Kn.get s2.out 0 0 rfl rfl
  have urr_1 : (st8 w1 (w.heap.size + 1 + 1) (nO) (nO)).cell? ⟨w.heap.size + 1 + 1, 1, none⟩ = some (.int .u64 (nO).b) := Kn.get s2.out 0 1 rfl rfl
  have urr_2 : (st8 w1 (w.heap.size + 1 + 1) (nO) (nO)).cell? ⟨w.heap.size + 1 + 1, 2, none⟩ = some (.int .u64 (nO).c) := Kn.get s2.out 0 2 rfl rfl
  have urr_3 : (st8 w1 (w.heap.size + 1 + 1) (nO) (nO)).cell? ⟨w.heap.size + 1 + 1, 3, none⟩ = some (.int .u64 (nO).d) := Kn.get s2.out 0 3 rfl rfl
  have urr_4 : (st8 w1 (w.heap.size + 1 + 1) (nO) (nO)).cell? ⟨w.heap.size + 1 + 1, 4, none⟩ = some (.int .u64 (nO).a) := Kn.get s2.out 0 4 rfl rfl
  have urr_5 : (st8 w1 (w.heap.size + 1 + 1) (nO) (nO)).cell? ⟨w.heap.size + 1 + 1, 5, none⟩ = some (.int .u64 (nO).b) := Kn.get s2.out 0 5 rfl rfl
  have urr_6 : (st8 w1 (w.heap.size + 1 + 1) (nO) (nO)).cell? ⟨w.heap.size + 1 + 1, 6, none⟩ = some (.int .u64 (nO).c) := Kn.get s2.out 0 6 rfl rfl
  have urr_7 : (st8 w1 (w.heap.size + 1 + 1) (nO) (nO)).cell? ⟨w.heap.size + 1 + 1, 7, none⟩ = some (.int .u64 (nO).d) := Kn.get s2.out 0 7 rfl rfl
  refine bodyPost_ret (v := .tuple #[Wv nO nO, .int .i64 1]) ?_ rfl ⟨rfl, b2.out⟩
  show (results Try.f57 _).run Try.prog (st8 w1 (w.heap.size + 1 + 1) (nO) (nO)) = .ok _ (st8 w1 (w.heap.size + 1 + 1) (nO) (nO))
  clear s2 b2
  generalize (st8 w1 (w.heap.size + 1 + 1) (nO) (nO)) = W9 at *
  simp [results, Try.results57, go_sem, urr_0, urr_1, urr_2, urr_3, urr_4, urr_5, urr_6, urr_7]
set_option maxHeartbeats 1000000 in
theorem cAdd_no2 (px py qx qy : Nm)
    (O1 : ∀ w, Calls Try.prog 19 #[Wv px py] w fun e w' => e = .returned (.bool true) ∧ Below w.heap.size w w')
    (O2 : ∀ w, Calls Try.prog 19 #[Wv qx qy] w fun e w' => e = .returned (.bool false) ∧ Below w.heap.size w w')
    (w : World) :
    Calls Try.prog 57 #[Wv px py, Wv qx qy] w fun e w' => e = .returned (.tuple #[Wv nO nO, .int .i64 1]) ∧ Below w.heap.size w w' := by
  go_enter Try.func57, Try.ntmps57
  have s0 : Hid (Kn (kzP (kalP (kalP w (px) (py)) (qx) (qy))) [(w.heap.size + 1 + 1, zz8), (w.heap.size + 1, (c8 (qx) (qy))), (w.heap.size, (c8 (px) (py)))]) := ((((Kn.nil w).al (c8 (px) (py)) 26 rfl).al (c8 (qx) (qy)) 26 (by simp)).al zz8 26 (by simp))
  have b0 : Hid (Below w.heap.size w (kzP (kalP (kalP w (px) (py)) (qx) (qy)))) := ((((Below.refl _ _).alloc (Nat.le_refl _) _).alloc (by simp <;> omega) _).alloc (by simp <;> omega) _)
  have up_0 : (kzP (kalP (kalP w (px) (py)) (qx) (qy))).cell? ⟨w.heap.size, 0, none⟩ = some (.int .u64 (px).a) := Kn.get s0.out 2 0 rfl rfl
  have up_1 : (kzP (kalP (kalP w (px) (py)) (qx) (qy))).cell? ⟨w.heap.size, 1, none⟩ = some (.int .u64 (px).b) := Kn.get s0.out 2 1 rfl rfl
  have up_2 : (kzP (kalP (kalP w (px) (py)) (qx) (qy))).cell? ⟨w.heap.size, 2, none⟩ = some (.int .u64 (px).c) := Kn.get s0.out 2 2 rfl rfl
  have up_3 : (kzP (kalP (kalP w (px) (py)) (qx) (qy))).cell? ⟨w.heap.size, 3, none⟩ = some (.int .u64 (px).d) := Kn.get s0.out 2 3 rfl rfl
  have up_4 : (kzP (kalP (kalP w (px) (py)) (qx) (qy))).cell? ⟨w.heap.size, 4, none⟩ = some (.int .u64 (py).a) := Kn.get s0.out 2 4 rfl rfl
  have up_5 : (kzP (kalP (kalP w (px) (py)) (qx) (qy))).cell? ⟨w.heap.size, 5, none⟩ = some (.int .u64 (py).b) := Kn.get s0.out 2 5 rfl rfl
  have up_6 : (kzP (kalP (kalP w (px) (py)) (qx) (qy))).cell? ⟨w.heap.size, 6, none⟩ = some (.int .u64 (py).c) := Kn.get s0.out 2 6 rfl rfl
  have up_7 : (kzP (kalP (kalP w (px) (py)) (qx) (qy))).cell? ⟨w.heap.size, 7, none⟩ = some (.int .u64 (py).d) := Kn.get s0.out 2 7 rfl rfl
  go_wp2_with fail
  clear up_0 up_1 up_2 up_3 up_4 up_5 up_6 up_7
  refine (O1 _).mono ?_
  rintro e w1 ⟨rfl, hb1⟩
  have s1 : Hid (Kn w1 [(w.heap.size + 1 + 1, zz8), (w.heap.size + 1, (c8 (qx) (qy))), (w.heap.size, (c8 (px) (py)))]) := s0.out.up hb1
  have b1 : Hid (Below w.heap.size w w1) := b0.out.trans (hb1.mono b0.out.size)
  have z1 := b1.out.size
  clear hb1 s0 b0
  have uq_0 : w1.cell? ⟨w.heap.size + 1, 0, none⟩ = some (.int .u64 (qx).a) := Kn.get s1.out 1 0 rfl rfl
  have uq_1 : w1.cell? ⟨w.heap.size + 1, 1, none⟩ = some (.int .u64 (qx).b) := Kn.get s1.out 1 1 rfl rfl
  have uq_2 : w1.cell? ⟨w.heap.size + 1, 2, none⟩ = some (.int .u64 (qx).c) := Kn.get s1.out 1 2 rfl rfl
  have uq_3 : w1.cell? ⟨w.heap.size + 1, 3, none⟩ = some (.int .u64 (qx).d) := Kn.get s1.out 1 3 rfl rfl
  have uq_4 : w1.cell? ⟨w.heap.size + 1, 4, none⟩ = some (.int .u64 (qy).a) := Kn.get s1.out 1 4 rfl rfl
  have uq_5 : w1.cell? ⟨w.heap.size + 1, 5, none⟩ = some (.int .u64 (qy).b) := Kn.get s1.out 1 5 rfl rfl
  have uq_6 : w1.cell? ⟨w.heap.size + 1, 6, none⟩ = some (.int .u64 (qy).c) := Kn.get s1.out 1 6 rfl rfl
  have uq_7 : w1.cell? ⟨w.heap.size + 1, 7, none⟩ = some (.int .u64 (qy).d) := Kn.get s1.out 1 7 rfl rfl
  go_wp2_with fail
  clear uq_0 uq_1 uq_2 uq_3 uq_4 uq_5 uq_6 uq_7
  refine (O2 _).mono ?_
  rintro e w2 ⟨rfl, hb2⟩
  have s2 : Hid (Kn w2 [(w.heap.size + 1 + 1, zz8), (w.heap.size + 1, (c8 (qx) (qy))), (w.heap.size, (c8 (px) (py)))]) := s1.out.up hb2
  have b2 : Hid (Below w.heap.size w w2) := b1.out.trans (hb2.mono b1.out.size)
  have z2 := b2.out.size
  clear hb2 s1 b1
  have uro_0 : w2.cell? ⟨w.heap.size + 1 + 1, 0, none⟩ = some (.int .u64 0) := Kn.get s2.out 0 0 rfl rfl
  have uro_1 : w2.cell? ⟨w.heap.size + 1 + 1, 1, none⟩ = some (.int .u64 0) := Kn.get s2.out 0 1 rfl rfl
  have uro_2 : w2.cell? ⟨w.heap.size + 1 + 1, 2, none⟩ = some (.int .u64 0) := Kn.get s2.out 0 2 rfl rfl
  have uro_3 : w2.cell? ⟨w.heap.size + 1 + 1, 3, none⟩ = some (.int .u64 0) := Kn.get s2.out 0 3 rfl rfl
  have uro_4 : w2.cell? ⟨w.heap.size + 1 + 1, 4, none⟩ = some (.int .u64 0) := Kn.get s2.out 0 4 rfl rfl
  have uro_5 : w2.cell? ⟨w.heap.size + 1 + 1, 5, none⟩ = some (.int .u64 0) := Kn.get s2.out 0 5 rfl rfl
  have uro_6 : w2.cell? ⟨w.heap.size + 1 + 1, 6, none⟩ = some (.int .u64 0) := Kn.get s2.out 0 6 rfl rfl
  have uro_7 : w2.cell? ⟨w.heap.size + 1 + 1, 7, none⟩ = some (.int .u64 0) := Kn.get s2.out 0 7 rfl rfl
  have uro_z : ∀ j, w2.frozen? ⟨w.heap.size + 1 + 1, j, none⟩ = false := Kn.fz s2.out 0 rfl
  have s3 : Hid (Kn (st8 w2 (w.heap.size + 1 + 1) (nO) (nO)) [(w.heap.size + 1 + 1, (c8 (nO) (nO))), (w.heap.size + 1, (c8 (qx) (qy))), (w.heap.size, (c8 (px) (py)))]) := Kn.st8 (L := [(w.heap.size + 1, (c8 (qx) (qy))), (w.heap.size, (c8 (px) (py)))]) (s2.out.front 0 rfl) (nO) (nO)
  have b3 : Hid (Below w.heap.size w (st8 w2 (w.heap.size + 1 + 1) (nO) (nO))) := below_st8 b2.out (by omega)
  clear s2 b2
  go_wp2_with fail
  clear uro_0 uro_1 uro_2 uro_3 uro_4 uro_5 uro_6 uro_7 uro_z
  have urr_0 : (st8 w2 (w.heap.size + 1 + 1) (nO) (nO)).cell? ⟨w.heap.size + 1 + 1, 0, none⟩ = some (.int .u64 (nO).a) := Kn.get s3.out 0 0 rfl rfl
  have urr_1 : (st8 w2 (w.heap.size + 1 + 1) (nO) (nO)).cell? ⟨w.heap.size + 1 + 1, 1, none⟩ = some (.int .u64 (nO).b) := Kn.get s3.out 0 1 rfl rfl
  have urr_2 : (st8 w2 (w.heap.size + 1 + 1) (nO) (nO)).cell? ⟨w.heap.size + 1 + 1, 2, none⟩ = some (.int .u64 (nO).c) := Kn.get s3.out 0 2 rfl rfl
  have urr_3 : (st8 w2 (w.heap.size + 1 + 1) (nO) (nO)).cell? ⟨w.heap.size + 1 + 1, 3, none⟩ = some (.int .u64 (nO).d) := Kn.get s3.out 0 3 rfl rfl
  have urr_4 : (st8 w2 (w.heap.size + 1 + 1) (nO) (nO)).cell? ⟨w.heap.size + 1 + 1, 4, none⟩ = some (.int .u64 (nO).a) := Kn.get s3.out 0 4 rfl rfl
  have urr_5 : (st8 w2 (w.heap.size + 1 + 1) (nO) (nO)).cell? ⟨w.heap.size + 1 + 1, 5, none⟩ = some (.int .u64 (nO).b) := Kn.get s3.out 0 5 rfl rfl
  have urr_6 : (st8 w2 (w.heap.size + 1 + 1) (nO) (nO)).cell? ⟨w.heap.size + 1 + 1, 6, none⟩ = some (.int .u64 (nO).c) := Kn.get s3.out 0 6 rfl rfl
  have urr_7 : (st8 w2 (w.heap.size + 1 + 1) (nO) (nO)).cell? ⟨w.heap.size + 1 + 1, 7, none⟩ = some (.int .u64 (nO).d) := Kn.get s3.out 0 7 rfl rfl
  refine bodyPost_ret (v := .tuple #[Wv nO nO, .int .i64 1]) ?_ rfl ⟨rfl, b3.out⟩
  show (results Try.f57 _).run Try.prog (st8 w2 (w.heap.size + 1 + 1) (nO) (nO)) = .ok _ (st8 w2 (w.heap.size + 1 + 1) (nO) (nO))
  clear s3 b3
  generalize (st8 w2 (w.heap.size + 1 + 1) (nO) (nO)) = W9 at *
  simp [results, Try.results57, go_sem, urr_0, urr_1, urr_2, urr_3, urr_4, urr_5, urr_6, urr_7]
set_option maxHeartbeats 1000000 in
theorem cTimes_no (n px py : Nm)
    (O1 : ∀ w, Calls Try.prog 19 #[Wv px py] w fun e w' => e = .returned (.bool false) ∧ Below w.heap.size w w')
    (w : World) :
    Calls Try.prog 53 #[N n, Wv px py] w fun e w' => e = .returned (.tuple #[Wv nO nO, .int .i64 1]) ∧ Below w.heap.size w w' := by
  go_enter Try.func53, Try.ntmps53
  have s0 : Hid (Kn (kzP (kalP (kal4 w (n)) (px) (py))) [(w.heap.size + 1 + 1, zz8), (w.heap.size + 1, (c8 (px) (py))), (w.heap.size, (c4 (n)))]) := ((((Kn.nil w).al (c4 (n)) 24 rfl).al (c8 (px) (py)) 26 (by simp)).al zz8 26 (by simp))
  have b0 : Hid (Below w.heap.size w (kzP (kalP (kal4 w (n)) (px) (py)))) := ((((Below.refl _ _).alloc (Nat.le_refl _) _).alloc (by simp <;> omega) _).alloc (by simp <;> omega) _)
  have up_0 : (kzP (kalP (kal4 w (n)) (px) (py))).cell? ⟨w.heap.size + 1, 0, none⟩ = some (.int .u64 (px).a) := Kn.get s0.out 1 0 rfl rfl
  have up_1 : (kzP (kalP (kal4 w (n)) (px) (py))).cell? ⟨w.heap.size + 1, 1, none⟩ = some (.int .u64 (px).b) := Kn.get s0.out 1 1 rfl rfl
  have up_2 : (kzP (kalP (kal4 w (n)) (px) (py))).cell? ⟨w.heap.size + 1, 2, none⟩ = some (.int .u64 (px).c) := Kn.get s0.out 1 2 rfl rfl
  have up_3 : (kzP (kalP (kal4 w (n)) (px) (py))).cell? ⟨w.heap.size + 1, 3, none⟩ = some (.int .u64 (px).d) := Kn.get s0.out 1 3 rfl rfl
  have up_4 : (kzP (kalP (kal4 w (n)) (px) (py))).cell? ⟨w.heap.size + 1, 4, none⟩ = some (.int .u64 (py).a) := Kn.get s0.out 1 4 rfl rfl
  have up_5 : (kzP (kalP (kal4 w (n)) (px) (py))).cell? ⟨w.heap.size + 1, 5, none⟩ = some (.int .u64 (py).b) := Kn.get s0.out 1 5 rfl rfl
  have up_6 : (kzP (kalP (kal4 w (n)) (px) (py))).cell? ⟨w.heap.size + 1, 6, none⟩ = some (.int .u64 (py).c) := Kn.get s0.out 1 6 rfl rfl
  have up_7 : (kzP (kalP (kal4 w (n)) (px) (py))).cell? ⟨w.heap.size + 1, 7, none⟩ = some (.int .u64 (py).d) := Kn.get s0.out 1 7 rfl rfl
  go_wp2_with fail
  clear up_0 up_1 up_2 up_3 up_4 up_5 up_6 up_7
  refine (O1 _).mono ?_
  rintro e w1 ⟨rfl, hb1⟩
  have s1 : Hid (Kn w1 [(w.heap.size + 1 + 1, zz8), (w.heap.size + 1, (c8 (px) (py))), (w.heap.size, (c4 (n)))]) := s0.out.up hb1
  have b1 : Hid (Below w.heap.size w w1) := b0.out.trans (hb1.mono b0.out.size)
  have z1 := b1.out.size
  clear hb1 s0 b0
  have uro_0 : w1.cell? ⟨w.heap.size + 1 + 1, 0, none⟩ = some (.int .u64 0) := Kn.get s1.out 0 0 rfl rfl
  have uro_1 : w1.cell? ⟨w.heap.size + 1 + 1, 1, none⟩ = some (.int .u64 0) := Kn.get s1.out 0 1 rfl rfl
  have uro_2 : w1.cell? ⟨w.heap.size + 1 + 1, 2, none⟩ = some (.int .u64 0) := Kn.get s1.out 0 2 rfl rfl
  have uro_3 : w1.cell? ⟨w.heap.size + 1 + 1, 3, none⟩ = some (.int .u64 0) := Kn.get s1.out 0 3 rfl rfl
  have uro_4 : w1.cell? ⟨w.heap.size + 1 + 1, 4, none⟩ = some (.int .u64 0) := Kn.get s1.out 0 4 rfl rfl
  have uro_5 : w1.cell? ⟨w.heap.size + 1 + 1, 5, none⟩ = some (.int .u64 0) := Kn.get s1.out 0 5 rfl rfl
  have uro_6 : w1.cell? ⟨w.heap.size + 1 + 1, 6, none⟩ = some (.int .u64 0) := Kn.get s1.out 0 6 rfl rfl
  have uro_7 : w1.cell? ⟨w.heap.size + 1 + 1, 7, none⟩ = some (.int .u64 0) := Kn.get s1.out 0 7 rfl rfl
  have uro_z : ∀ j, w1.frozen? ⟨w.heap.size + 1 + 1, j, none⟩ = false := Kn.fz s1.out 0 rfl
  have s2 : Hid (Kn (st8 w1 (w.heap.size + 1 + 1) (nO) (nO)) [(w.heap.size + 1 + 1, (c8 (nO) (nO))), (w.heap.size + 1, (c8 (px) (py))), (w.heap.size, (c4 (n)))]) := Kn.st8 (L := [(w.heap.size + 1, (c8 (px) (py))), (w.heap.size, (c4 (n)))]) (s1.out.front 0 rfl) (nO) (nO)
  have b2 : Hid (Below w.heap.size w (st8 w1 (w.heap.size + 1 + 1) (nO) (nO))) := below_st8 b1.out (by omega)
  clear s1 b1
  go_wp2_with fail
  clear uro_0 uro_1 uro_2 uro_3 uro_4 uro_5 uro_6 uro_7 uro_z
  have urr_0 : (st8 w1 (w.heap.size + 1 + 1) (nO) (nO)).cell? ⟨w.heap.size + 1 + 1, 0, none⟩ = some (.int .u64 (nO).a) := Kn.get s2.out 0 0 rfl rfl
  have urr_1 : (st8 w1 (w.heap.size + 1 + 1) (nO) (nO)).cell? ⟨w.heap.size + 1 + 1, 1, none⟩ = some (.int .u64 (nO).b) := Kn.get s2.out 0 1 rfl rfl
  have urr_2 : (st8 w1 (w.heap.size + 1 + 1) (nO) (nO)).cell? ⟨w.heap.size + 1 + 1, 2, none⟩ = some (.int .u64 (nO).c) := Kn.get s2.out 0 2 rfl rfl
  have urr_3 : (st8 w1 (w.heap.size + 1 + 1) (nO) (nO)).cell? ⟨w.heap.size + 1 + 1, 3, none⟩ = some (.int .u64 (nO).d) := Kn.get s2.out 0 3 rfl rfl
  have urr_4 : (st8 w1 (w.heap.size + 1 + 1) (nO) (nO)).cell? ⟨w.heap.size + 1 + 1, 4, none⟩ = some (.int .u64 (nO).a) := Kn.get s2.out 0 4 rfl rfl
  have urr_5 : (st8 w1 (w.heap.size + 1 + 1) (nO) (nO)).cell? ⟨w.heap.size + 1 + 1, 5, none⟩ = some (.int .u64 (nO).b) := Kn.get s2.out 0 5 rfl rfl
  have urr_6 : (st8 w1 (w.heap.size + 1 + 1) (nO) (nO)).cell? ⟨w.heap.size + 1 + 1, 6, none⟩ = some (.int .u64 (nO).c) := Kn.get s2.out 0 6 rfl rfl
  have urr_7 : (st8 w1 (w.heap.size + 1 + 1) (nO) (nO)).cell? ⟨w.heap.size + 1 + 1, 7, none⟩ = some (.int .u64 (nO).d) := Kn.get s2.out 0 7 rfl rfl
  refine bodyPost_ret (v := .tuple #[Wv nO nO, .int .i64 1]) ?_ rfl ⟨rfl, b2.out⟩
  show (results Try.f53 _).run Try.prog (st8 w1 (w.heap.size + 1 + 1) (nO) (nO)) = .ok _ (st8 w1 (w.heap.size + 1 + 1) (nO) (nO))
  clear s2 b2
  generalize (st8 w1 (w.heap.size + 1 + 1) (nO) (nO)) = W9 at *
  simp [results, Try.results53, go_sem, urr_0, urr_1, urr_2, urr_3, urr_4, urr_5, urr_6, urr_7]
theorem cNegN : CNegN := fun x y ox oy h w => cNeg_no x y (cOnC.2 x y ox oy h) w
theorem pv_on {x y : Nm} (ox : x.ok) (oy : y.ok) : Wv x y = pv (x.nat, y.nat) := by
  show Wv x y = Wv (nm x.nat) (nm y.nat)
  rw [← Nm.eq_nm ox rfl, ← Nm.eq_nm oy rfl]
theorem cAddN : CAddN := fun px py qx qy o1 o2 o3 o4 h w => by
  by_cases hp : Cv.On (px.nat, py.nat)
  · have O1 := cOnC.1 _ hp
    rw [← pv_on o1 o2] at O1
    exact cAdd_no2 px py qx qy O1 (cOnC.2 qx qy o3 o4 (fun hq => h ⟨hp, hq⟩)) w
  · exact cAdd_no1 px py qx qy (cOnC.2 px py o1 o2 hp) w
theorem cTimesN : CTimesN := fun n x y _ ox oy h w => cTimes_no n x y (cOnC.2 x y ox oy h) w
end Go.Proofs.Ytjdamgfichlgpaa
