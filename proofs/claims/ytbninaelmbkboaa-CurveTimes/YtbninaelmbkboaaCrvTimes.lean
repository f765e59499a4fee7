/- CurveTimes, out of what package curve must keep. -/
import Derived.Test.YtbninaelmbkboaaGrp53
namespace Go.Proofs.Ytbninaelmbkboaa
open Go.RowKit
attribute [local go_sem] World.cell?_alloc_some cell_alloc2 cell_alloc3 cell_alloc4 frozen?_alloc_cells frozen_out
attribute [local go_sem] YieldsP
attribute [local simp] MP.eq_p
set_option linter.unusedSimpArgs false
set_option maxHeartbeats 1000000 in
theorem curveTimes_no (n px py : Nm) (e1 : ∀ w, (binOp .eql 26 zW zW).run Try.prog w = .ok (.bool true) w)
    (T1 : ∀ w, Calls Try.prog 22 #[N n, Wv px py] w fun e w' => e = .returned (.tuple #[zW, .int .i64 1]) ∧ Below w.heap.size w w')
    (O1 : ∀ w, Calls Try.prog 9 #[Wv px py] w fun e w' => e = .returned (.bool false) ∧ Below w.heap.size w w')
    (w : World) :
    Calls Try.prog 4 #[N n, Wv px py] w fun e w' => e = .returned (.bool true) ∧ Below w.heap.size w w' := by
  go_enter Try.func4, Try.ntmps4
  have s0 : Hid (Kn (kalP (kal4 w (n)) (px) (py)) [(w.heap.size + 1, (c8 (px) (py))), (w.heap.size, (c4 (n)))]) := (((Kn.nil w).al (c4 (n)) 24 rfl).al (c8 (px) (py)) 26 (by simp))
  have b0 : Hid (Below w.heap.size w (kalP (kal4 w (n)) (px) (py))) := (((Below.refl _ _).alloc (Nat.le_refl _) _).alloc (by simp <;> omega) _)
  go_wp2_with fail
  refine (T1 _).mono ?_
  rintro e w1 ⟨rfl, hb1⟩
  have s1 : Hid (Kn w1 [(w.heap.size + 1, (c8 (px) (py))), (w.heap.size, (c4 (n)))]) := s0.out.up hb1
  have b1 : Hid (Below w.heap.size w w1) := b0.out.trans (hb1.mono b0.out.size)
  have z1 := b1.out.size
  clear hb1 s0 b0
  have s2 : Hid (Kn (kalP w1 ((⟨0, 0, 0, 0⟩ : Nm)) ((⟨0, 0, 0, 0⟩ : Nm))) [(w1.heap.size, (c8 ((⟨0, 0, 0, 0⟩ : Nm)) ((⟨0, 0, 0, 0⟩ : Nm)))), (w.heap.size + 1, (c8 (px) (py))), (w.heap.size, (c4 (n)))]) := s1.out.al (c8 ((⟨0, 0, 0, 0⟩ : Nm)) ((⟨0, 0, 0, 0⟩ : Nm))) 26 rfl
  have b2 : Hid (Below w.heap.size w (kalP w1 ((⟨0, 0, 0, 0⟩ : Nm)) ((⟨0, 0, 0, 0⟩ : Nm)))) := b1.out.alloc b1.out.size _
  have z2 := b1.out.size
  clear s1 b1
  have up_0 : (kalP w1 ((⟨0, 0, 0, 0⟩ : Nm)) ((⟨0, 0, 0, 0⟩ : Nm))).cell? ⟨w.heap.size + 1, 0, none⟩ = some (.int .u64 (px).a) := Kn.get s2.out 1 0 rfl rfl
  have up_1 : (kalP w1 ((⟨0, 0, 0, 0⟩ : Nm)) ((⟨0, 0, 0, 0⟩ : Nm))).cell? ⟨w.heap.size + 1, 1, none⟩ = some (.int .u64 (px).b) := Kn.get s2.out 1 1 rfl rfl
  have up_2 : (kalP w1 ((⟨0, 0, 0, 0⟩ : Nm)) ((⟨0, 0, 0, 0⟩ : Nm))).cell? ⟨w.heap.size + 1, 2, none⟩ = some (.int .u64 (px).c) := Kn.get s2.out 1 2 rfl rfl
  have up_3 : (kalP w1 ((⟨0, 0, 0, 0⟩ : Nm)) ((⟨0, 0, 0, 0⟩ : Nm))).cell? ⟨w.heap.size + 1, 3, none⟩ = some (.int .u64 (px).d) := Kn.get s2.out 1 3 rfl rfl
  have up_4 : (kalP w1 ((⟨0, 0, 0, 0⟩ : Nm)) ((⟨0, 0, 0, 0⟩ : Nm))).cell? ⟨w.heap.size + 1, 4, none⟩ = some (.int .u64 (py).a) := Kn.get s2.out 1 4 rfl rfl
  have up_5 : (kalP w1 ((⟨0, 0, 0, 0⟩ : Nm)) ((⟨0, 0, 0, 0⟩ : Nm))).cell? ⟨w.heap.size + 1, 5, none⟩ = some (.int .u64 (py).b) := Kn.get s2.out 1 5 rfl rfl
  have up_6 : (kalP w1 ((⟨0, 0, 0, 0⟩ : Nm)) ((⟨0, 0, 0, 0⟩ : Nm))).cell? ⟨w.heap.size + 1, 6, none⟩ = some (.int .u64 (py).c) := Kn.get s2.out 1 6 rfl rfl
  have up_7 : (kalP w1 ((⟨0, 0, 0, 0⟩ : Nm)) ((⟨0, 0, 0, 0⟩ : Nm))).cell? ⟨w.heap.size + 1, 7, none⟩ = some (.int .u64 (py).d) := Kn.get s2.out 1 7 rfl rfl
  go_wp2_with fail
  clear up_0 up_1 up_2 up_3 up_4 up_5 up_6 up_7
  refine (O1 _).mono ?_
  rintro e w3 ⟨rfl, hb3⟩
  have s3 : Hid (Kn w3 [(w1.heap.size, (c8 ((⟨0, 0, 0, 0⟩ : Nm)) ((⟨0, 0, 0, 0⟩ : Nm)))), (w.heap.size + 1, (c8 (px) (py))), (w.heap.size, (c4 (n)))]) := s2.out.up hb3
  have b3 : Hid (Below w.heap.size w w3) := b2.out.trans (hb3.mono b2.out.size)
  have z3 := b3.out.size
  clear hb3 s2 b2
  have uq_0 : w3.cell? ⟨w1.heap.size, 0, none⟩ = some (.int .u64 ((⟨0, 0, 0, 0⟩ : Nm)).a) := Kn.get s3.out 0 0 rfl rfl
  have uq_1 : w3.cell? ⟨w1.heap.size, 1, none⟩ = some (.int .u64 ((⟨0, 0, 0, 0⟩ : Nm)).b) := Kn.get s3.out 0 1 rfl rfl
  have uq_2 : w3.cell? ⟨w1.heap.size, 2, none⟩ = some (.int .u64 ((⟨0, 0, 0, 0⟩ : Nm)).c) := Kn.get s3.out 0 2 rfl rfl
  have uq_3 : w3.cell? ⟨w1.heap.size, 3, none⟩ = some (.int .u64 ((⟨0, 0, 0, 0⟩ : Nm)).d) := Kn.get s3.out 0 3 rfl rfl
  have uq_4 : w3.cell? ⟨w1.heap.size, 4, none⟩ = some (.int .u64 ((⟨0, 0, 0, 0⟩ : Nm)).a) := Kn.get s3.out 0 4 rfl rfl
  have uq_5 : w3.cell? ⟨w1.heap.size, 5, none⟩ = some (.int .u64 ((⟨0, 0, 0, 0⟩ : Nm)).b) := Kn.get s3.out 0 5 rfl rfl
  have uq_6 : w3.cell? ⟨w1.heap.size, 6, none⟩ = some (.int .u64 ((⟨0, 0, 0, 0⟩ : Nm)).c) := Kn.get s3.out 0 6 rfl rfl
  have uq_7 : w3.cell? ⟨w1.heap.size, 7, none⟩ = some (.int .u64 ((⟨0, 0, 0, 0⟩ : Nm)).d) := Kn.get s3.out 0 7 rfl rfl
  go_wp2_with fail
  clear uq_0 uq_1 uq_2 uq_3 uq_4 uq_5 uq_6 uq_7
  go_ret
  exact ⟨rfl, b3.out⟩
set_option maxRecDepth 20000 in
set_option maxHeartbeats 1000000 in
theorem curveTimes_yes (n px py qx qy : Nm) (x y rx ry rt N0 : Nat) (e1 : ∀ w, (binOp .eql 26 (Wv qx qy) (Wv qx qy)).run Try.prog w = .ok (.bool true) w)
    (T1 : ∀ w, Calls Try.prog 22 #[N n, Wv px py] w fun e w' => e = .returned (.tuple #[Wv qx qy, .int .i64 0]) ∧ Below w.heap.size w w')
    (O1 : ∀ w, Calls Try.prog 9 #[Wv px py] w fun e w' => e = .returned (.bool true) ∧ Below w.heap.size w w')
    (PO : ∀ w, Calls Try.prog 20 #[Wv px py] w fun e w' => e = .returned (.agg (pR (x) (y) (1)).toArray) ∧ Below w.heap.size w w')
    (ON : ∀ w, Calls Try.prog 24 #[N n] w fun e w' => (∃ v', e = .returned v' ∧ Sl w' v' (P.dg N0)) ∧ Below w.heap.size w w')
    (OF : ∀ v w, Sl w v (P.dg N0) → Calls Try.prog 23 #[pV x y 1, v] w fun e w' => e = .returned (pV rx ry rt) ∧ Below w.heap.size w w')
    (PP : ∀ w, Calls Try.prog 16 #[.agg (pR (rx) (ry) (rt)).toArray] w fun e w' => e = .returned (Wv qx qy) ∧ Below w.heap.size w w')
    (w : World) :
    Calls Try.prog 4 #[N n, Wv px py] w fun e w' => e = .returned (.bool true) ∧ Below w.heap.size w w' := by
  go_enter Try.func4, Try.ntmps4
  have s0 : Hid (Kn (kalP (kal4 w (n)) (px) (py)) [(w.heap.size + 1, (c8 (px) (py))), (w.heap.size, (c4 (n)))]) := (((Kn.nil w).al (c4 (n)) 24 rfl).al (c8 (px) (py)) 26 (by simp))
  have b0 : Hid (Below w.heap.size w (kalP (kal4 w (n)) (px) (py))) := (((Below.refl _ _).alloc (Nat.le_refl _) _).alloc (by simp <;> omega) _)
  go_wp2_with fail
  refine (T1 _).mono ?_
  rintro e w1 ⟨rfl, hb1⟩
  have s1 : Hid (Kn w1 [(w.heap.size + 1, (c8 (px) (py))), (w.heap.size, (c4 (n)))]) := s0.out.up hb1
  have b1 : Hid (Below w.heap.size w w1) := b0.out.trans (hb1.mono b0.out.size)
  have z1 := b1.out.size
  clear hb1 s0 b0
  have s2 : Hid (Kn (kalP w1 (qx) (qy)) [(w1.heap.size, (c8 (qx) (qy))), (w.heap.size + 1, (c8 (px) (py))), (w.heap.size, (c4 (n)))]) := s1.out.al (c8 (qx) (qy)) 26 rfl
  have b2 : Hid (Below w.heap.size w (kalP w1 (qx) (qy))) := b1.out.alloc b1.out.size _
  have z2 := b1.out.size
  clear s1 b1
  have up_0 : (kalP w1 (qx) (qy)).cell? ⟨w.heap.size + 1, 0, none⟩ = some (.int .u64 (px).a) := Kn.get s2.out 1 0 rfl rfl
  have up_1 : (kalP w1 (qx) (qy)).cell? ⟨w.heap.size + 1, 1, none⟩ = some (.int .u64 (px).b) := Kn.get s2.out 1 1 rfl rfl
  have up_2 : (kalP w1 (qx) (qy)).cell? ⟨w.heap.size + 1, 2, none⟩ = some (.int .u64 (px).c) := Kn.get s2.out 1 2 rfl rfl
  have up_3 : (kalP w1 (qx) (qy)).cell? ⟨w.heap.size + 1, 3, none⟩ = some (.int .u64 (px).d) := Kn.get s2.out 1 3 rfl rfl
  have up_4 : (kalP w1 (qx) (qy)).cell? ⟨w.heap.size + 1, 4, none⟩ = some (.int .u64 (py).a) := Kn.get s2.out 1 4 rfl rfl
  have up_5 : (kalP w1 (qx) (qy)).cell? ⟨w.heap.size + 1, 5, none⟩ = some (.int .u64 (py).b) := Kn.get s2.out 1 5 rfl rfl
  have up_6 : (kalP w1 (qx) (qy)).cell? ⟨w.heap.size + 1, 6, none⟩ = some (.int .u64 (py).c) := Kn.get s2.out 1 6 rfl rfl
  have up_7 : (kalP w1 (qx) (qy)).cell? ⟨w.heap.size + 1, 7, none⟩ = some (.int .u64 (py).d) := Kn.get s2.out 1 7 rfl rfl
  go_wp2_with fail
  clear up_0 up_1 up_2 up_3 up_4 up_5 up_6 up_7
  refine (O1 _).mono ?_
  rintro e w3 ⟨rfl, hb3⟩
  have s3 : Hid (Kn w3 [(w1.heap.size, (c8 (qx) (qy))), (w.heap.size + 1, (c8 (px) (py))), (w.heap.size, (c4 (n)))]) := s2.out.up hb3
  have b3 : Hid (Below w.heap.size w w3) := b2.out.trans (hb3.mono b2.out.size)
  have z3 := b3.out.size
  clear hb3 s2 b2
  go_wp2_with fail
  refine wp_region_monoE [MP.eq (.int .i64 0), MP.eq (.bool true), MP.eq (.bool true), MP.eq (Wv (qx) (qy)), MP.eq (Wv (px) (py)), MP.eq (pV x y 1), MP.eq (N (n)), MP.sl (P.dg N0), MP.eq (pV rx ry rt), MP.eq (Wv qx qy), MP.eq (.bool true), MP.eq (.bool true), MP.eq (.bool true)] (by kernel_rfl) (by kernel_rfl) rfl ?_
  apply Exists.intro
  refine ⟨fun vals => ?_, ?_, fun vals4 w4 hb4 hF => ?_⟩
  · simp only [putsV, dstL, List.length_cons, List.length_nil, Nat.zero_add, Nat.reduceAdd, List.getElem?_cons_zero, List.getElem?_cons_succ, Option.bind_some, Act.put, List.setIfInBounds_toArray, List.set_cons_succ, List.set_cons_zero]
    rfl
  · refine ⟨?_, ?_, ?_, ?_, ?_, ?_, ?_, ?_, ?_, ?_, ?_, ?_, ?_, trivial⟩
    · intro vals W hW hw hd
      simp [Region.binds] at hd
      refine ⟨by first | rfl | simp [Region.wanted, yielded, hd], ?_⟩
      simp [go_sem]
      exact Below.refl _ _
    · intro vals W hW hw hd
      simp [Region.binds] at hd
      refine ⟨by first | rfl | simp [Region.wanted, yielded, hd], ?_⟩
      simp [go_sem, hd]
      exact Below.refl _ _
    · intro vals W hW hw hd
      simp [Region.binds] at hd
      refine ⟨by first | rfl | simp [Region.wanted, yielded, hd], ?_⟩
      simp [go_sem, hd]
      exact Below.refl _ _
    · intro vals W hW hw hd
      simp [Region.binds] at hd
      have u0 := Kn.get (s3.out.up hW.out) 0 0 rfl rfl
      have u1 := Kn.get (s3.out.up hW.out) 0 1 rfl rfl
      have u2 := Kn.get (s3.out.up hW.out) 0 2 rfl rfl
      have u3 := Kn.get (s3.out.up hW.out) 0 3 rfl rfl
      have u4 := Kn.get (s3.out.up hW.out) 0 4 rfl rfl
      have u5 := Kn.get (s3.out.up hW.out) 0 5 rfl rfl
      have u6 := Kn.get (s3.out.up hW.out) 0 6 rfl rfl
      have u7 := Kn.get (s3.out.up hW.out) 0 7 rfl rfl
      refine ⟨by first | rfl | simp [Region.wanted, yielded, hd], ?_⟩
      simp [go_sem, u0, u1, u2, u3, u4, u5, u6, u7]
      exact Below.refl _ _
    · intro vals W hW hw hd
      simp [Region.binds] at hd
      have u0 := Kn.get (s3.out.up hW.out) 1 0 rfl rfl
      have u1 := Kn.get (s3.out.up hW.out) 1 1 rfl rfl
      have u2 := Kn.get (s3.out.up hW.out) 1 2 rfl rfl
      have u3 := Kn.get (s3.out.up hW.out) 1 3 rfl rfl
      have u4 := Kn.get (s3.out.up hW.out) 1 4 rfl rfl
      have u5 := Kn.get (s3.out.up hW.out) 1 5 rfl rfl
      have u6 := Kn.get (s3.out.up hW.out) 1 6 rfl rfl
      have u7 := Kn.get (s3.out.up hW.out) 1 7 rfl rfl
      refine ⟨by first | rfl | simp [Region.wanted, yielded, hd], ?_⟩
      simp [go_sem, u0, u1, u2, u3, u4, u5, u6, u7]
      exact Below.refl _ _
    · intro vals W hW hw hd
      simp [Region.binds] at hd
      refine ⟨by first | rfl | simp [Region.wanted, yielded, hd], ?_⟩
      simp [go_sem, hd]
      exact (PO W).mono fun e w' ⟨he, hb⟩ => ⟨_, he, rfl, hb⟩
    · intro vals W hW hw hd
      simp [Region.binds] at hd
      have u0 := Kn.get (s3.out.up hW.out) 2 0 rfl rfl
      have u1 := Kn.get (s3.out.up hW.out) 2 1 rfl rfl
      have u2 := Kn.get (s3.out.up hW.out) 2 2 rfl rfl
      have u3 := Kn.get (s3.out.up hW.out) 2 3 rfl rfl
      refine ⟨by first | rfl | simp [Region.wanted, yielded, hd], ?_⟩
      simp [go_sem, u0, u1, u2, u3]
      exact Below.refl _ _
    · intro vals W hW hw hd
      simp [Region.binds] at hd
      refine ⟨by first | rfl | simp [Region.wanted, yielded, hd], ?_⟩
      simp [go_sem, hd]
      exact (ON W).mono fun e w' ⟨⟨v', he, hs⟩, hb⟩ => ⟨v', he, hs, hb⟩
    · intro vals W hW hw hd
      simp [Region.binds] at hd
      refine ⟨by first | rfl | simp [Region.wanted, yielded, hd], ?_⟩
      simp [go_sem, hd]
      exact (OF _ W hd.2.1).mono fun e w' ⟨he, hb⟩ => ⟨_, he, rfl, hb⟩
    · intro vals W hW hw hd
      simp [Region.binds] at hd
      refine ⟨by first | rfl | simp [Region.wanted, yielded, hd], ?_⟩
      simp [go_sem, hd]
      exact (PP W).mono fun e w' ⟨he, hb⟩ => ⟨_, he, rfl, hb⟩
    · intro vals W hW hw hd
      simp [Region.binds] at hd
      refine ⟨by first | rfl | simp [Region.wanted, yielded, hd], ?_⟩
      simp [go_sem, hd, e1]
      exact Below.refl _ _
    · intro vals W hW hw hd
      simp [Region.binds] at hd
      refine ⟨by first | rfl | simp [Region.wanted, yielded, hd], ?_⟩
      simp [go_sem, hd]
      exact Below.refl _ _
    · intro vals W hW hw hd
      simp [Region.binds] at hd
      refine ⟨by first | rfl | simp [Region.wanted, yielded, hd], ?_⟩
      simp [go_sem, hd]
      exact Below.refl _ _
  obtain ⟨f0, f1, f2, f3, f4, f5, f6, f7, f8, f9, f10, f11, f12, _⟩ := hF
  have s4 : Hid (Kn w4 [(w1.heap.size, (c8 (qx) (qy))), (w.heap.size + 1, (c8 (px) (py))), (w.heap.size, (c4 (n)))]) := s3.out.up hb4.out
  have b4 : Hid (Below w.heap.size w w4) := b3.out.trans (hb4.out.mono b3.out.size)
  have z4 := b4.out.size
  clear hb4 s3 b3
  have e12 := f12
  simp only [MP.eq_p] at e12
  clear f0 f1 f2 f3 f4 f5 f6 f7 f8 f9 f10 f11 f12
  rw [e12]
  go_wp2_with fail
  go_ret
  exact ⟨rfl, b4.out⟩
theorem curveTimes_of (CT : CTimesC) (CTN : CTimesN) (n px py : Nm) (on : n.ok) (a1 : px.ok) (a2 : py.ok) (w : World) :
    Calls Try.prog 4 #[N n, Wv px py] w fun e w' => e = .returned (.bool true) ∧ Below w.heap.size w w' := by
  have RO := rOn_fun px py a1 a2
  by_cases hP : Cv.On (px.nat, py.nat)
  · have T1 := CT n (px.nat, py.nat) on hP
    rw [← pv_of a1 a2] at T1
    have PO := ptOf_n px py a1 a2
    rw [Nat.mod_eq_of_lt hP.1, Nat.mod_eq_of_lt hP.2.1] at PO
    have hn := Nm.nat_lt on
    have fr := oft_is n.nat (px.nat, py.nat) hP
    have OF := oft_n n.nat hn (px.nat, py.nat, 1) ⟨hP.1, hP.2.1, show 1 < F.p by decide⟩
    have lt := often_lt (16 * (P.dg n.nat).length) n.nat (0, 1, 1) (px.nat, py.nat, 1) (by decide) ⟨hP.1, hP.2.1, show 1 < F.p by decide⟩
    have PP := ptPoint_n _ _ _ lt.1 lt.2.1 lt.2.2
    have e := fr_point (Cv.times_on hP n.nat) fr
    simp only [] at e
    rw [e.1, e.2] at PP
    exact curveTimes_yes n px py _ _ px.nat py.nat _ _ _ n.nat (eqP_self _ _) T1 (RO.1 hP) PO (ofNum_fun n on) OF PP w
  · exact curveTimes_no n px py (eqP_self _ _) (CTN n px py on a1 a2 hP) (RO.2 hP) w
end Go.Proofs.Ytbninaelmbkboaa
