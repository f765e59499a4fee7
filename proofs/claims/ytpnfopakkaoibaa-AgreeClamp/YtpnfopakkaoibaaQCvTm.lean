/- Package curve, as it landed: Add; the walk of Times. -/
import Derived.Test.YtpnfopakkaoibaaQCvFr
import Derived.Test.YtpnfopakkaoibaaQShlToBit
import Derived.LoopN
namespace Go.Proofs.Ytpnfopakkaoibaa
open Go.RowKit
attribute [local go_sem] World.cell?_alloc_some cell_alloc2 cell_alloc3 cell_alloc4 frozen?_alloc_cells frozen_out
set_option linter.unusedSimpArgs false
/-- What a round of Times does. -/
structure TmS (n : Nm) (px py pm : Nm) (TI : Nat → Nm → Nm → Nm → Nm → Prop) (j : Nat) (tx ty tv tz dx dy dv dz sx sy sv sz rx ry rv rz : Nm) (bb : Int) : Prop where
  d : ∀ w, Calls Try.prog 68 #[qV tx ty tv tz, qV tx ty tv tz] w fun e w' => e = .returned (qV dx dy dv dz) ∧ Below w.heap.size w w'
  q : ∀ w, Calls Try.prog 43 #[N n, .int .i64 (j : Int)] w fun e w' => e = .returned (.int .u64 bb) ∧ Below w.heap.size w w'
  s : ∀ w, Calls Try.prog 68 #[qV dx dy dv dz, qV px py pm nI] w fun e w' => e = .returned (qV sx sy sv sz) ∧ Below w.heap.size w w'
  p : ∀ w, Calls Try.prog 69 #[.int .u64 bb, qV dx dy dv dz, qV sx sy sv sz] w fun e w' => e = .returned (qV rx ry rv rz) ∧ Below w.heap.size w w'
  t : TI j rx ry rv rz
set_option maxRecDepth 20000 in
set_option maxHeartbeats 400000 in
theorem cTimes_walk (n px py pm rx ry : Nm) (TI : Nat → Nm → Nm → Nm → Nm → Prop)
    (O1 : ∀ w, Calls Try.prog 15 #[Wv px py] w fun e w' => e = .returned (.bool true) ∧ Below w.heap.size w w')
    (A1 : ∀ w, Calls Try.prog 66 #[Wv px py] w fun e w' => e = .returned (.agg (qR (px) (py) (pm) (nI)).toArray) ∧ Below w.heap.size w w')
    (A2 : ∀ w, Calls Try.prog 66 #[Wv nO nI] w fun e w' => e = .returned (.agg (qR (nO) (nI) (nO) (nI)).toArray) ∧ Below w.heap.size w w')
    (h0 : TI 256 nO nI nO nI)
    (hs : ∀ j tx ty tv tz, j < 256 → TI (j + 1) tx ty tv tz → ∃ dx dy dv dz sx sy sv sz rx ry rv rz b, TmS n px py pm TI j tx ty tv tz dx dy dv dz sx sy sv sz rx ry rv rz b)
    (he : ∀ tx ty tv tz, TI 0 tx ty tv tz → ∀ w, Calls Try.prog 70 #[qV tx ty tv tz] w fun e w' => e = .returned (Wv rx ry) ∧ Below w.heap.size w w')
    (w : World) :
    Calls Try.prog 40 #[N n, Wv px py] w fun e w' => e = .returned (.tuple #[Wv rx ry, .int .i64 0]) ∧ Below w.heap.size w w' := by
  have H0 : Hid _ := h0
  have HS : Hid _ := hs
  have HE : Hid _ := he
  clear h0 hs he
  go_enter Try.func40, Try.ntmps40
  have s0 : Hid (Kn (kzP (kalP (kal4 w (n)) (px) (py))) [(w.heap.size + 1 + 1, zz8), (w.heap.size + 1, (c8 (px) (py))), (w.heap.size, (c4 (n)))]) := ((((Kn.nil w).al (c4 (n)) 28 rfl).al (c8 (px) (py)) 35 (by simp)).al zz8 35 (by simp))
  have b0 : Hid (Below w.heap.size w (kzP (kalP (kal4 w (n)) (px) (py)))) := ((((Below.refl _ _).alloc (Nat.le_refl _) _).alloc (by simp <;> omega) _).alloc (by simp <;> omega) _)
  have up_0 : (kzP (kalP (kal4 w (n)) (px) (py))).cell? ⟨w.heap.size + 1, 0, none⟩ = some (.int .u64 (px).a) := Kn.get s0.out 1 0 rfl rfl
  have up_1 : (kzP (kalP (kal4 w (n)) (px) (py))).cell? ⟨w.heap.size + 1, 1, none⟩ = some (.int .u64 (px).b) := Kn.get s0.out 1 1 rfl rfl
  have up_2 : (kzP (kalP (kal4 w (n)) (px) (py))).cell? ⟨w.heap.size + 1, 2, none⟩ = some (.int .u64 (px).c) := Kn.get s0.out 1 2 rfl rfl
  have up_3 : (kzP (kalP (kal4 w (n)) (px) (py))).cell? ⟨w.heap.size + 1, 3, none⟩ = some (.int .u64 (px).d) := Kn.get s0.out 1 3 rfl rfl
  have up_4 : (kzP (kalP (kal4 w (n)) (px) (py))).cell? ⟨w.heap.size + 1, 4, none⟩ = some (.int .u64 (py).a) := Kn.get s0.out 1 4 rfl rfl
  have up_5 : (kzP (kalP (kal4 w (n)) (px) (py))).cell? ⟨w.heap.size + 1, 5, none⟩ = some (.int .u64 (py).b) := Kn.get s0.out 1 5 rfl rfl
  have up_6 : (kzP (kalP (kal4 w (n)) (px) (py))).cell? ⟨w.heap.size + 1, 6, none⟩ = some (.int .u64 (py).c) := Kn.get s0.out 1 6 rfl rfl
  have up_7 : (kzP (kalP (kal4 w (n)) (px) (py))).cell? ⟨w.heap.size + 1, 7, none⟩ = some (.int .u64 (py).d) := Kn.get s0.out 1 7 rfl rfl
  go_wp2_with fail
  clear up_0 up_1 up_2 up_3 up_4 up_5 up_6 up_7
  refine (O1 _).mono ?_
  rintro e w1 ⟨rfl, hb1⟩
  have s1 : Hid (Kn w1 [(w.heap.size + 1 + 1, zz8), (w.heap.size + 1, (c8 (px) (py))), (w.heap.size, (c4 (n)))]) := s0.out.up hb1
  have b1 : Hid (Below w.heap.size w w1) := b0.out.trans (hb1.mono b0.out.size)
  have z1 := b1.out.size
  clear hb1 s0 b0
  have up_0 : w1.cell? ⟨w.heap.size + 1, 0, none⟩ = some (.int .u64 (px).a) := Kn.get s1.out 1 0 rfl rfl
  have up_1 : w1.cell? ⟨w.heap.size + 1, 1, none⟩ = some (.int .u64 (px).b) := Kn.get s1.out 1 1 rfl rfl
  have up_2 : w1.cell? ⟨w.heap.size + 1, 2, none⟩ = some (.int .u64 (px).c) := Kn.get s1.out 1 2 rfl rfl
  have up_3 : w1.cell? ⟨w.heap.size + 1, 3, none⟩ = some (.int .u64 (px).d) := Kn.get s1.out 1 3 rfl rfl
  have up_4 : w1.cell? ⟨w.heap.size + 1, 4, none⟩ = some (.int .u64 (py).a) := Kn.get s1.out 1 4 rfl rfl
  have up_5 : w1.cell? ⟨w.heap.size + 1, 5, none⟩ = some (.int .u64 (py).b) := Kn.get s1.out 1 5 rfl rfl
  have up_6 : w1.cell? ⟨w.heap.size + 1, 6, none⟩ = some (.int .u64 (py).c) := Kn.get s1.out 1 6 rfl rfl
  have up_7 : w1.cell? ⟨w.heap.size + 1, 7, none⟩ = some (.int .u64 (py).d) := Kn.get s1.out 1 7 rfl rfl
  go_wp2_with fail
  clear up_0 up_1 up_2 up_3 up_4 up_5 up_6 up_7
  refine (A1 _).mono ?_
  rintro e w2 ⟨rfl, hb2⟩
  have s2 : Hid (Kn w2 [(w.heap.size + 1 + 1, zz8), (w.heap.size + 1, (c8 (px) (py))), (w.heap.size, (c4 (n)))]) := s1.out.up hb2
  have b2 : Hid (Below w.heap.size w w2) := b1.out.trans (hb2.mono b1.out.size)
  have z2 := b2.out.size
  clear hb2 s1 b1
  go_wp2_with fail
  refine (cZero_walk _).mono ?_
  rintro e w3 ⟨rfl, hb3⟩
  have s3 : Hid (Kn w3 [(w.heap.size + 1 + 1, zz8), (w.heap.size + 1, (c8 (px) (py))), (w.heap.size, (c4 (n)))]) := s2.out.up hb3
  have b3 : Hid (Below w.heap.size w w3) := b2.out.trans (hb3.mono b2.out.size)
  have z3 := b3.out.size
  clear hb3 s2 b2
  go_wp2_with fail
  refine (A2 _).mono ?_
  rintro e w4 ⟨rfl, hb4⟩
  have s4 : Hid (Kn w4 [(w.heap.size + 1 + 1, zz8), (w.heap.size + 1, (c8 (px) (py))), (w.heap.size, (c4 (n)))]) := s3.out.up hb4
  have b4 : Hid (Below w.heap.size w w4) := b3.out.trans (hb4.mono b3.out.size)
  have z4 := b4.out.size
  clear hb4 s3 b3
  have s5 : Hid (Kn (w4.alloc (.cells #[Value.int IntKind.u64 0, Value.int IntKind.u64 0, Value.int IntKind.u64 0, Value.int IntKind.u64 0, Value.int IntKind.u64 0, Value.int IntKind.u64 0, Value.int IntKind.u64 0, Value.int IntKind.u64 0, Value.int IntKind.u64 0, Value.int IntKind.u64 0, Value.int IntKind.u64 0, Value.int IntKind.u64 0, Value.int IntKind.u64 0, Value.int IntKind.u64 0, Value.int IntKind.u64 0, Value.int IntKind.u64 0] 89)) [(w4.heap.size, qZ), (w.heap.size + 1 + 1, zz8), (w.heap.size + 1, (c8 (px) (py))), (w.heap.size, (c4 (n)))]) := s4.out.al qZ 89 rfl
  have b5 : Hid (Below w.heap.size w (w4.alloc (.cells #[Value.int IntKind.u64 0, Value.int IntKind.u64 0, Value.int IntKind.u64 0, Value.int IntKind.u64 0, Value.int IntKind.u64 0, Value.int IntKind.u64 0, Value.int IntKind.u64 0, Value.int IntKind.u64 0, Value.int IntKind.u64 0, Value.int IntKind.u64 0, Value.int IntKind.u64 0, Value.int IntKind.u64 0, Value.int IntKind.u64 0, Value.int IntKind.u64 0, Value.int IntKind.u64 0, Value.int IntKind.u64 0] 89))) := b4.out.alloc b4.out.size _
  have z5 := b4.out.size
  clear s4 b4
  have s6 : Hid (Kn ((w4.alloc (.cells #[Value.int IntKind.u64 0, Value.int IntKind.u64 0, Value.int IntKind.u64 0, Value.int IntKind.u64 0, Value.int IntKind.u64 0, Value.int IntKind.u64 0, Value.int IntKind.u64 0, Value.int IntKind.u64 0, Value.int IntKind.u64 0, Value.int IntKind.u64 0, Value.int IntKind.u64 0, Value.int IntKind.u64 0, Value.int IntKind.u64 0, Value.int IntKind.u64 0, Value.int IntKind.u64 0, Value.int IntKind.u64 0] 89)).alloc (.cells #[Value.int IntKind.u64 0, Value.int IntKind.u64 0, Value.int IntKind.u64 0, Value.int IntKind.u64 0, Value.int IntKind.u64 0, Value.int IntKind.u64 0, Value.int IntKind.u64 0, Value.int IntKind.u64 0, Value.int IntKind.u64 0, Value.int IntKind.u64 0, Value.int IntKind.u64 0, Value.int IntKind.u64 0, Value.int IntKind.u64 0, Value.int IntKind.u64 0, Value.int IntKind.u64 0, Value.int IntKind.u64 0] 89)) [(w4.heap.size + 1, qZ), (w4.heap.size, qZ), (w.heap.size + 1 + 1, zz8), (w.heap.size + 1, (c8 (px) (py))), (w.heap.size, (c4 (n)))]) := s5.out.al qZ 89 (by simp)
  have b6 : Hid (Below w.heap.size w ((w4.alloc (.cells #[Value.int IntKind.u64 0, Value.int IntKind.u64 0, Value.int IntKind.u64 0, Value.int IntKind.u64 0, Value.int IntKind.u64 0, Value.int IntKind.u64 0, Value.int IntKind.u64 0, Value.int IntKind.u64 0, Value.int IntKind.u64 0, Value.int IntKind.u64 0, Value.int IntKind.u64 0, Value.int IntKind.u64 0, Value.int IntKind.u64 0, Value.int IntKind.u64 0, Value.int IntKind.u64 0, Value.int IntKind.u64 0] 89)).alloc (.cells #[Value.int IntKind.u64 0, Value.int IntKind.u64 0, Value.int IntKind.u64 0, Value.int IntKind.u64 0, Value.int IntKind.u64 0, Value.int IntKind.u64 0, Value.int IntKind.u64 0, Value.int IntKind.u64 0, Value.int IntKind.u64 0, Value.int IntKind.u64 0, Value.int IntKind.u64 0, Value.int IntKind.u64 0, Value.int IntKind.u64 0, Value.int IntKind.u64 0, Value.int IntKind.u64 0, Value.int IntKind.u64 0] 89))) := b5.out.alloc b5.out.size _
  have z6 := b5.out.size
  clear s5 b5
  have s7x : Hid (Kn ((w4.alloc (.cells #[Value.int IntKind.u64 0, Value.int IntKind.u64 0, Value.int IntKind.u64 0, Value.int IntKind.u64 0, Value.int IntKind.u64 0, Value.int IntKind.u64 0, Value.int IntKind.u64 0, Value.int IntKind.u64 0, Value.int IntKind.u64 0, Value.int IntKind.u64 0, Value.int IntKind.u64 0, Value.int IntKind.u64 0, Value.int IntKind.u64 0, Value.int IntKind.u64 0, Value.int IntKind.u64 0, Value.int IntKind.u64 0] 89)).alloc (.cells #[Value.int IntKind.u64 0, Value.int IntKind.u64 0, Value.int IntKind.u64 0, Value.int IntKind.u64 0, Value.int IntKind.u64 0, Value.int IntKind.u64 0, Value.int IntKind.u64 0, Value.int IntKind.u64 0, Value.int IntKind.u64 0, Value.int IntKind.u64 0, Value.int IntKind.u64 0, Value.int IntKind.u64 0, Value.int IntKind.u64 0, Value.int IntKind.u64 0, Value.int IntKind.u64 0, Value.int IntKind.u64 0] 89)) [(w4.heap.size, qZ), (w4.heap.size + 1, qZ), (w.heap.size + 1 + 1, zz8), (w.heap.size + 1, (c8 (px) (py))), (w.heap.size, (c4 (n)))]) := s6.out.front 1 rfl
  have b7x : Hid (Below w.heap.size w ((w4.alloc (.cells #[Value.int IntKind.u64 0, Value.int IntKind.u64 0, Value.int IntKind.u64 0, Value.int IntKind.u64 0, Value.int IntKind.u64 0, Value.int IntKind.u64 0, Value.int IntKind.u64 0, Value.int IntKind.u64 0, Value.int IntKind.u64 0, Value.int IntKind.u64 0, Value.int IntKind.u64 0, Value.int IntKind.u64 0, Value.int IntKind.u64 0, Value.int IntKind.u64 0, Value.int IntKind.u64 0, Value.int IntKind.u64 0] 89)).alloc (.cells #[Value.int IntKind.u64 0, Value.int IntKind.u64 0, Value.int IntKind.u64 0, Value.int IntKind.u64 0, Value.int IntKind.u64 0, Value.int IntKind.u64 0, Value.int IntKind.u64 0, Value.int IntKind.u64 0, Value.int IntKind.u64 0, Value.int IntKind.u64 0, Value.int IntKind.u64 0, Value.int IntKind.u64 0, Value.int IntKind.u64 0, Value.int IntKind.u64 0, Value.int IntKind.u64 0, Value.int IntKind.u64 0] 89))) := b6.out
  have TT7 : Hid (((w4.alloc (.cells #[Value.int IntKind.u64 0, Value.int IntKind.u64 0, Value.int IntKind.u64 0, Value.int IntKind.u64 0, Value.int IntKind.u64 0, Value.int IntKind.u64 0, Value.int IntKind.u64 0, Value.int IntKind.u64 0, Value.int IntKind.u64 0, Value.int IntKind.u64 0, Value.int IntKind.u64 0, Value.int IntKind.u64 0, Value.int IntKind.u64 0, Value.int IntKind.u64 0, Value.int IntKind.u64 0, Value.int IntKind.u64 0] 89)).alloc (.cells #[Value.int IntKind.u64 0, Value.int IntKind.u64 0, Value.int IntKind.u64 0, Value.int IntKind.u64 0, Value.int IntKind.u64 0, Value.int IntKind.u64 0, Value.int IntKind.u64 0, Value.int IntKind.u64 0, Value.int IntKind.u64 0, Value.int IntKind.u64 0, Value.int IntKind.u64 0, Value.int IntKind.u64 0, Value.int IntKind.u64 0, Value.int IntKind.u64 0, Value.int IntKind.u64 0, Value.int IntKind.u64 0] 89)).there (w4.heap.size) 0 (qR (px) (py) (pm) (nI)).length) := Kn.there s7x.out 0 rfl (by rw [(qR_length (px) (py) (pm) (nI)), qZ_length])
  go_wp2_with (first | simp only [zero_fra] | refine I.wp_store_eq rfl 89 _ _ rfl (w4.heap.size) 0 (qR (px) (py) (pm) (nI)) rfl rfl TT7.out (info_qR (px) (py) (pm) (nI)) (qR_one (px) (py) (pm) (nI)) ?_)
  intro w7 hw7
  try simp only [Act.put, List.setIfInBounds_toArray, List.set_cons_succ, List.set_cons_zero]
  have s7 : Hid (Kn w7 [(w4.heap.size, (qR (px) (py) (pm) (nI))), (w4.heap.size + 1, qZ), (w.heap.size + 1 + 1, zz8), (w.heap.size + 1, (c8 (px) (py))), (w.heap.size, (c4 (n)))]) := by rw [hw7.out]; exact Kn.put s7x.out (by rw [(qR_length (px) (py) (pm) (nI)), qZ_length])
  have b7 : Hid (Below w.heap.size w w7) := by rw [hw7.out]; exact I.below_setCells _ _ _ b7x.out (by first | assumption | omega)
  have z7 := b7.out.size
  clear hw7 s7x b7x TT7 s6 b6
  have s8x : Hid (Kn w7 [(w4.heap.size + 1, qZ), (w4.heap.size, (qR (px) (py) (pm) (nI))), (w.heap.size + 1 + 1, zz8), (w.heap.size + 1, (c8 (px) (py))), (w.heap.size, (c4 (n)))]) := s7.out.front 1 rfl
  have b8x : Hid (Below w.heap.size w w7) := b7.out
  have TT8 : Hid (w7.there (w4.heap.size + 1) 0 (qR (nO) (nI) (nO) (nI)).length) := Kn.there s8x.out 0 rfl (by rw [(qR_length (nO) (nI) (nO) (nI)), qZ_length])
  go_wp2_with (first | refine I.wp_store_eq rfl 89 _ _ rfl (w4.heap.size + 1) 0 (qR (nO) (nI) (nO) (nI)) rfl rfl TT8.out (info_qR (nO) (nI) (nO) (nI)) (qR_one (nO) (nI) (nO) (nI)) ?_)
  intro w8 hw8
  try simp only [Act.put, List.setIfInBounds_toArray, List.set_cons_succ, List.set_cons_zero]
  have s8 : Hid (Kn w8 [(w4.heap.size + 1, (qR (nO) (nI) (nO) (nI))), (w4.heap.size, (qR (px) (py) (pm) (nI))), (w.heap.size + 1 + 1, zz8), (w.heap.size + 1, (c8 (px) (py))), (w.heap.size, (c4 (n)))]) := by rw [hw8.out]; exact Kn.put s8x.out (by rw [(qR_length (nO) (nI) (nO) (nI)), qZ_length])
  have b8 : Hid (Below w.heap.size w w8) := by rw [hw8.out]; exact I.below_setCells _ _ _ b8x.out (by first | assumption | omega)
  have z8 := b8.out.size
  clear hw8 s8x b8x TT8 s7 b7
  replace s8 : Hid (Kn w8 [(w4.heap.size, (qR (px) (py) (pm) (nI))), (w4.heap.size + 1, (qR (nO) (nI) (nO) (nI))), (w.heap.size + 1 + 1, zz8), (w.heap.size + 1, (c8 (px) (py))), (w.heap.size, (c4 (n)))]) := s8.out.front 1 rfl
  replace s8 : Hid (Kn w8 [(w.heap.size + 1 + 1, zz8), (w4.heap.size, (qR (px) (py) (pm) (nI))), (w4.heap.size + 1, (qR (nO) (nI) (nO) (nI))), (w.heap.size + 1, (c8 (px) (py))), (w.heap.size, (c4 (n)))]) := s8.out.front 2 rfl
  replace s8 : Hid (Kn w8 [(w.heap.size + 1, (c8 (px) (py))), (w.heap.size + 1 + 1, zz8), (w4.heap.size, (qR (px) (py) (pm) (nI))), (w4.heap.size + 1, (qR (nO) (nI) (nO) (nI))), (w.heap.size, (c4 (n)))]) := s8.out.front 3 rfl
  replace s8 : Hid (Kn w8 [(w.heap.size, (c4 (n))), (w.heap.size + 1, (c8 (px) (py))), (w.heap.size + 1 + 1, zz8), (w4.heap.size, (qR (px) (py) (pm) (nI))), (w4.heap.size + 1, (qR (nO) (nI) (nO) (nI)))]) := s8.out.front 4 rfl
  go_wp2_with fail
  have GT : Hid (w.heap.size ≤ w4.heap.size + 1) := by have := z5; exact Nat.le_trans this (Nat.le_succ _)
  generalize w4.heap.size + 1 = kt at *
  generalize w4.heap.size = ks at *
  go_loopw [8] (fun i wr => ∃ (k : Nat) (tx ty tv tz : Nm), k ≤ 256 ∧ i = .int .i64 ((k : Int) - 1) ∧ Hid (TI k tx ty tv tz) ∧ Hid (Kn wr [(w.heap.size, c4 n), (w.heap.size + 1, c8 px py), (w.heap.size + 1 + 1, zz8), (ks, qR px py pm nI), (kt, qR tx ty tv tz)]) ∧ Hid (Below w.heap.size w wr)) (fun i _ => ((intOf i) + 1).toNat)
  case atStart => exact ⟨256, _, _, _, _, Nat.le_refl _, by first | rfl | go_num, H0, s8, b8⟩
  case round =>
    clear s8 b8 H0
    obtain ⟨k, tx, ty, tv, tz, hk, rfl, HI, s1, b1⟩ := hrel
    cases k with
    | succ j =>
      rw [show (((j + 1 : Nat) : Int) - 1) = (j : Int) by omega]
      have j0 : (j : Int) ≥ 0 := by omega
      have wk : IntKind.i64.wrap ((j : Int) - 1) = (j : Int) - 1 := by rw [IntKind.wrap_i64]; omega
      have K1 : Hid (j < 256) := hk
      have GTo := GT.out
      obtain ⟨dx, dy, dv, dz, sx, sy, sv, sz, ex, ey, ev, ez, b, R⟩ := HS.out j tx ty tv tz hk HI.out
      have T1 := R.d
      have T2 := R.q
      have T3 := R.s
      have T4 := R.p
      have NX : Hid _ := R.t
      clear R HS HE hk HI
      go_wp2_with (first | refine wp_ldW rfl 89 _ rfl kt 0 rfl (qR (tx) (ty) (tv) (tz)) _ (Kn.rng s1.out 4 rfl) Try.underlying89 rfl (info_qR (tx) (ty) (tv) (tz)) ?_ | refine wp_ldW rfl 28 _ rfl kt 0 rfl [Value.int IntKind.u64 tx.a, Value.int IntKind.u64 tx.b, Value.int IntKind.u64 tx.c, Value.int IntKind.u64 tx.d] _ (Kn.qng0 s1.out 4 rfl) Try.underlying28 rfl (info_c4 (tx)) ?_ | refine wp_ldW rfl 28 _ rfl kt 4 rfl [Value.int IntKind.u64 ty.a, Value.int IntKind.u64 ty.b, Value.int IntKind.u64 ty.c, Value.int IntKind.u64 ty.d] _ (Kn.qng1 s1.out 4 rfl) Try.underlying28 rfl (info_c4 (ty)) ?_ | refine wp_ldW rfl 28 _ rfl kt 8 rfl [Value.int IntKind.u64 tv.a, Value.int IntKind.u64 tv.b, Value.int IntKind.u64 tv.c, Value.int IntKind.u64 tv.d] _ (Kn.qng2 s1.out 4 rfl) Try.underlying28 rfl (info_c4 (tv)) ?_ | refine wp_ldW rfl 28 _ rfl kt 12 rfl [Value.int IntKind.u64 tz.a, Value.int IntKind.u64 tz.b, Value.int IntKind.u64 tz.c, Value.int IntKind.u64 tz.d] _ (Kn.qng3 s1.out 4 rfl) Try.underlying28 rfl (info_c4 (tz)) ?_)
      refine (T1 _).mono ?_
      rintro e w2 ⟨rfl, hb2⟩
      have s2 : Hid (Kn w2 [(w.heap.size, (c4 (n))), (w.heap.size + 1, (c8 (px) (py))), (w.heap.size + 1 + 1, zz8), (ks, (qR (px) (py) (pm) (nI))), (kt, (qR (tx) (ty) (tv) (tz)))]) := s1.out.up hb2
      have b2 : Hid (Below w.heap.size w w2) := b1.out.trans (hb2.mono b1.out.size)
      have z2 := b2.out.size
      clear hb2 s1 b1
      have s3x : Hid (Kn w2 [(kt, (qR (tx) (ty) (tv) (tz))), (w.heap.size, (c4 (n))), (w.heap.size + 1, (c8 (px) (py))), (w.heap.size + 1 + 1, zz8), (ks, (qR (px) (py) (pm) (nI)))]) := s2.out.front 4 rfl
      have b3x : Hid (Below w.heap.size w w2) := b2.out
      have TT3 : Hid (w2.there kt 0 (qR (dx) (dy) (dv) (dz)).length) := Kn.there s3x.out 0 rfl (by rw [(qR_length (dx) (dy) (dv) (dz)), (qR_length (tx) (ty) (tv) (tz))])
      go_wp2_with (first | refine I.wp_store_eq rfl 89 _ _ rfl kt 0 (qR (dx) (dy) (dv) (dz)) rfl rfl TT3.out (info_qR (dx) (dy) (dv) (dz)) (qR_one (dx) (dy) (dv) (dz)) ?_)
      intro w3 hw3
      try simp only [Act.put, List.setIfInBounds_toArray, List.set_cons_succ, List.set_cons_zero]
      have s3 : Hid (Kn w3 [(kt, (qR (dx) (dy) (dv) (dz))), (w.heap.size, (c4 (n))), (w.heap.size + 1, (c8 (px) (py))), (w.heap.size + 1 + 1, zz8), (ks, (qR (px) (py) (pm) (nI)))]) := by rw [hw3.out]; exact Kn.put s3x.out (by rw [(qR_length (dx) (dy) (dv) (dz)), (qR_length (tx) (ty) (tv) (tz))])
      have b3 : Hid (Below w.heap.size w w3) := by rw [hw3.out]; exact I.below_setCells _ _ _ b3x.out (by omega)
      have z3 := b3.out.size
      clear hw3 s3x b3x TT3 s2 b2
      go_wp2_with fail
      refine wp_region_up_then 8 (by kernel_rfl) (by kernel_rfl) (by kernel_rfl) (by kernel_rfl) (by decide) (fun _ _ d _ _ h => by cases d <;> exact h) (fun U hU f hf hcl => ?_)
      have un_0 := fun nx => (Kn.get (s3.out.up (hf nx).out) 1 0 rfl rfl : (f nx).cell? ⟨w.heap.size, 0, none⟩ = some (.int .u64 (n).a))
      have un_1 := fun nx => (Kn.get (s3.out.up (hf nx).out) 1 1 rfl rfl : (f nx).cell? ⟨w.heap.size, 1, none⟩ = some (.int .u64 (n).b))
      have un_2 := fun nx => (Kn.get (s3.out.up (hf nx).out) 1 2 rfl rfl : (f nx).cell? ⟨w.heap.size, 2, none⟩ = some (.int .u64 (n).c))
      have un_3 := fun nx => (Kn.get (s3.out.up (hf nx).out) 1 3 rfl rfl : (f nx).cell? ⟨w.heap.size, 3, none⟩ = some (.int .u64 (n).d))
      have ra_step_0 := fun nx => (Kn.rng (s3.out.up (hf nx).out) 4 rfl : (f nx).rangeAt ks 0 (qR (px) (py) (pm) (nI)))
      have ra_step_1 := fun nx => (Kn.qng0 (s3.out.up (hf nx).out) 4 rfl : (f nx).rangeAt ks 0 [Value.int IntKind.u64 px.a, Value.int IntKind.u64 px.b, Value.int IntKind.u64 px.c, Value.int IntKind.u64 px.d])
      have ra_step_2 := fun nx => (Kn.qng1 (s3.out.up (hf nx).out) 4 rfl : (f nx).rangeAt ks 4 [Value.int IntKind.u64 py.a, Value.int IntKind.u64 py.b, Value.int IntKind.u64 py.c, Value.int IntKind.u64 py.d])
      have ra_step_3 := fun nx => (Kn.qng2 (s3.out.up (hf nx).out) 4 rfl : (f nx).rangeAt ks 8 [Value.int IntKind.u64 pm.a, Value.int IntKind.u64 pm.b, Value.int IntKind.u64 pm.c, Value.int IntKind.u64 pm.d])
      have ra_step_4 := fun nx => (Kn.qng3 (s3.out.up (hf nx).out) 4 rfl : (f nx).rangeAt ks 12 [Value.int IntKind.u64 nI.a, Value.int IntKind.u64 nI.b, Value.int IntKind.u64 nI.c, Value.int IntKind.u64 nI.d])
      have ra_total_0 := fun nx => (Kn.rng (s3.out.up (hf nx).out) 0 rfl : (f nx).rangeAt kt 0 (qR (dx) (dy) (dv) (dz)))
      have ra_total_1 := fun nx => (Kn.qng0 (s3.out.up (hf nx).out) 0 rfl : (f nx).rangeAt kt 0 [Value.int IntKind.u64 dx.a, Value.int IntKind.u64 dx.b, Value.int IntKind.u64 dx.c, Value.int IntKind.u64 dx.d])
      have ra_total_2 := fun nx => (Kn.qng1 (s3.out.up (hf nx).out) 0 rfl : (f nx).rangeAt kt 4 [Value.int IntKind.u64 dy.a, Value.int IntKind.u64 dy.b, Value.int IntKind.u64 dy.c, Value.int IntKind.u64 dy.d])
      have ra_total_3 := fun nx => (Kn.qng2 (s3.out.up (hf nx).out) 0 rfl : (f nx).rangeAt kt 8 [Value.int IntKind.u64 dv.a, Value.int IntKind.u64 dv.b, Value.int IntKind.u64 dv.c, Value.int IntKind.u64 dv.d])
      have ra_total_4 := fun nx => (Kn.qng3 (s3.out.up (hf nx).out) 0 rfl : (f nx).rangeAt kt 12 [Value.int IntKind.u64 dz.a, Value.int IntKind.u64 dz.b, Value.int IntKind.u64 dz.c, Value.int IntKind.u64 dz.d])
      simp only [List.take_succ_cons, List.take_zero, List.drop_succ_cons, List.drop_zero]
      repeat (first | (refine I.quiet_load rfl 89 _ rfl ks 0 rfl (qR (px) (py) (pm) (nI)) _ (fun W hW => by obtain ⟨nx, rfl⟩ := hW; exact ra_step_0 nx) Try.underlying89 rfl (info_qR (px) (py) (pm) (nI)) ?_; simp only [Act.put, List.setIfInBounds_toArray, List.set_cons_succ, List.set_cons_zero]) | (refine I.quiet_load rfl 28 _ rfl ks 0 rfl [Value.int IntKind.u64 px.a, Value.int IntKind.u64 px.b, Value.int IntKind.u64 px.c, Value.int IntKind.u64 px.d] _ (fun W hW => by obtain ⟨nx, rfl⟩ := hW; exact ra_step_1 nx) Try.underlying28 rfl (info_c4 (px)) ?_; simp only [Act.put, List.setIfInBounds_toArray, List.set_cons_succ, List.set_cons_zero]) | (refine I.quiet_load rfl 28 _ rfl ks 4 rfl [Value.int IntKind.u64 py.a, Value.int IntKind.u64 py.b, Value.int IntKind.u64 py.c, Value.int IntKind.u64 py.d] _ (fun W hW => by obtain ⟨nx, rfl⟩ := hW; exact ra_step_2 nx) Try.underlying28 rfl (info_c4 (py)) ?_; simp only [Act.put, List.setIfInBounds_toArray, List.set_cons_succ, List.set_cons_zero]) | (refine I.quiet_load rfl 28 _ rfl ks 8 rfl [Value.int IntKind.u64 pm.a, Value.int IntKind.u64 pm.b, Value.int IntKind.u64 pm.c, Value.int IntKind.u64 pm.d] _ (fun W hW => by obtain ⟨nx, rfl⟩ := hW; exact ra_step_3 nx) Try.underlying28 rfl (info_c4 (pm)) ?_; simp only [Act.put, List.setIfInBounds_toArray, List.set_cons_succ, List.set_cons_zero]) | (refine I.quiet_load rfl 28 _ rfl ks 12 rfl [Value.int IntKind.u64 nI.a, Value.int IntKind.u64 nI.b, Value.int IntKind.u64 nI.c, Value.int IntKind.u64 nI.d] _ (fun W hW => by obtain ⟨nx, rfl⟩ := hW; exact ra_step_4 nx) Try.underlying28 rfl (info_c4 (nI)) ?_; simp only [Act.put, List.setIfInBounds_toArray, List.set_cons_succ, List.set_cons_zero]) | (refine I.quiet_load rfl 89 _ rfl kt 0 rfl (qR (dx) (dy) (dv) (dz)) _ (fun W hW => by obtain ⟨nx, rfl⟩ := hW; exact ra_total_0 nx) Try.underlying89 rfl (info_qR (dx) (dy) (dv) (dz)) ?_; simp only [Act.put, List.setIfInBounds_toArray, List.set_cons_succ, List.set_cons_zero]) | (refine I.quiet_load rfl 28 _ rfl kt 0 rfl [Value.int IntKind.u64 dx.a, Value.int IntKind.u64 dx.b, Value.int IntKind.u64 dx.c, Value.int IntKind.u64 dx.d] _ (fun W hW => by obtain ⟨nx, rfl⟩ := hW; exact ra_total_1 nx) Try.underlying28 rfl (info_c4 (dx)) ?_; simp only [Act.put, List.setIfInBounds_toArray, List.set_cons_succ, List.set_cons_zero]) | (refine I.quiet_load rfl 28 _ rfl kt 4 rfl [Value.int IntKind.u64 dy.a, Value.int IntKind.u64 dy.b, Value.int IntKind.u64 dy.c, Value.int IntKind.u64 dy.d] _ (fun W hW => by obtain ⟨nx, rfl⟩ := hW; exact ra_total_2 nx) Try.underlying28 rfl (info_c4 (dy)) ?_; simp only [Act.put, List.setIfInBounds_toArray, List.set_cons_succ, List.set_cons_zero]) | (refine I.quiet_load rfl 28 _ rfl kt 8 rfl [Value.int IntKind.u64 dv.a, Value.int IntKind.u64 dv.b, Value.int IntKind.u64 dv.c, Value.int IntKind.u64 dv.d] _ (fun W hW => by obtain ⟨nx, rfl⟩ := hW; exact ra_total_3 nx) Try.underlying28 rfl (info_c4 (dv)) ?_; simp only [Act.put, List.setIfInBounds_toArray, List.set_cons_succ, List.set_cons_zero]) | (refine I.quiet_load rfl 28 _ rfl kt 12 rfl [Value.int IntKind.u64 dz.a, Value.int IntKind.u64 dz.b, Value.int IntKind.u64 dz.c, Value.int IntKind.u64 dz.d] _ (fun W hW => by obtain ⟨nx, rfl⟩ := hW; exact ra_total_4 nx) Try.underlying28 rfl (info_c4 (dz)) ?_; simp only [Act.put, List.setIfInBounds_toArray, List.set_cons_succ, List.set_cons_zero]) | go_big_quiet_step (first | (go_at_call 43; exact (T2 _).mono fun e w'' ⟨he, hb⟩ => ⟨he, hcl.out _ _ hb⟩) | (go_at_call 68; exact (T3 _).mono fun e w'' ⟨he, hb⟩ => ⟨he, hcl.out _ _ hb⟩) | (go_at_call 69; exact (T4 _).mono fun e w'' ⟨he, hb⟩ => ⟨he, hcl.out _ _ hb⟩)))
      refine wpQuiet_nil ?_
      intro nx
      have hb4 := (hf nx).out
      clear hf hcl un_0 un_1 un_2 un_3
      generalize f nx = w4 at hb4 ⊢
      have s4 : Hid (Kn w4 [(kt, (qR (dx) (dy) (dv) (dz))), (w.heap.size, (c4 (n))), (w.heap.size + 1, (c8 (px) (py))), (w.heap.size + 1 + 1, zz8), (ks, (qR (px) (py) (pm) (nI)))]) := s3.out.up hb4
      have b4 : Hid (Below w.heap.size w w4) := b3.out.trans (hb4.mono b3.out.size)
      have z4 := b4.out.size
      clear hb4 s3 b3
      have s5x : Hid (Kn w4 [(kt, (qR (dx) (dy) (dv) (dz))), (w.heap.size, (c4 (n))), (w.heap.size + 1, (c8 (px) (py))), (w.heap.size + 1 + 1, zz8), (ks, (qR (px) (py) (pm) (nI)))]) := s4.out.front 0 rfl
      have b5x : Hid (Below w.heap.size w w4) := b4.out
      have TT5 : Hid (w4.there kt 0 (qR (ex) (ey) (ev) (ez)).length) := Kn.there s5x.out 0 rfl (by rw [(qR_length (ex) (ey) (ev) (ez)), (qR_length (dx) (dy) (dv) (dz))])
      go_wp2_with (first | refine I.wp_store_eq rfl 89 _ _ rfl kt 0 (qR (ex) (ey) (ev) (ez)) rfl rfl TT5.out (info_qR (ex) (ey) (ev) (ez)) (qR_one (ex) (ey) (ev) (ez)) ?_)
      intro w5 hw5
      try simp only [Act.put, List.setIfInBounds_toArray, List.set_cons_succ, List.set_cons_zero]
      have s5 : Hid (Kn w5 [(kt, (qR (ex) (ey) (ev) (ez))), (w.heap.size, (c4 (n))), (w.heap.size + 1, (c8 (px) (py))), (w.heap.size + 1 + 1, zz8), (ks, (qR (px) (py) (pm) (nI)))]) := by rw [hw5.out]; exact Kn.put s5x.out (by rw [(qR_length (ex) (ey) (ev) (ez)), (qR_length (dx) (dy) (dv) (dz))])
      have b5 : Hid (Below w.heap.size w w5) := by rw [hw5.out]; exact I.below_setCells _ _ _ b5x.out (by omega)
      have z5 := b5.out.size
      clear hw5 s5x b5x TT5 s4 b4
      replace s5 : Hid (Kn w5 [(ks, (qR (px) (py) (pm) (nI))), (kt, (qR (ex) (ey) (ev) (ez))), (w.heap.size, (c4 (n))), (w.heap.size + 1, (c8 (px) (py))), (w.heap.size + 1 + 1, zz8)]) := s5.out.front 4 rfl
      replace s5 : Hid (Kn w5 [(w.heap.size + 1 + 1, zz8), (ks, (qR (px) (py) (pm) (nI))), (kt, (qR (ex) (ey) (ev) (ez))), (w.heap.size, (c4 (n))), (w.heap.size + 1, (c8 (px) (py)))]) := s5.out.front 4 rfl
      replace s5 : Hid (Kn w5 [(w.heap.size + 1, (c8 (px) (py))), (w.heap.size + 1 + 1, zz8), (ks, (qR (px) (py) (pm) (nI))), (kt, (qR (ex) (ey) (ev) (ez))), (w.heap.size, (c4 (n)))]) := s5.out.front 4 rfl
      replace s5 : Hid (Kn w5 [(w.heap.size, (c4 (n))), (w.heap.size + 1, (c8 (px) (py))), (w.heap.size + 1 + 1, zz8), (ks, (qR (px) (py) (pm) (nI))), (kt, (qR (ex) (ey) (ev) (ez)))]) := s5.out.front 4 rfl
      go_wp2_with fail
      go_roundw
      case rel => exact ⟨j, ex, ey, ev, ez, Nat.le_of_lt K1.out, by first | rfl | go_num, NX, s5, b5⟩
      case measure => simp [intOf]
    | zero =>
      have T1 := HE.out _ _ _ _ HI.out
      clear HS HE HI hk
      have j0 : ¬ ((((0 : Nat) : Int)) - 1 ≥ 0) := by omega
      go_wp2_with (first | refine wp_ldW rfl 89 _ rfl kt 0 rfl (qR (tx) (ty) (tv) (tz)) _ (Kn.rng s1.out 4 rfl) Try.underlying89 rfl (info_qR (tx) (ty) (tv) (tz)) ?_ | refine wp_ldW rfl 28 _ rfl kt 0 rfl [Value.int IntKind.u64 tx.a, Value.int IntKind.u64 tx.b, Value.int IntKind.u64 tx.c, Value.int IntKind.u64 tx.d] _ (Kn.qng0 s1.out 4 rfl) Try.underlying28 rfl (info_c4 (tx)) ?_ | refine wp_ldW rfl 28 _ rfl kt 4 rfl [Value.int IntKind.u64 ty.a, Value.int IntKind.u64 ty.b, Value.int IntKind.u64 ty.c, Value.int IntKind.u64 ty.d] _ (Kn.qng1 s1.out 4 rfl) Try.underlying28 rfl (info_c4 (ty)) ?_ | refine wp_ldW rfl 28 _ rfl kt 8 rfl [Value.int IntKind.u64 tv.a, Value.int IntKind.u64 tv.b, Value.int IntKind.u64 tv.c, Value.int IntKind.u64 tv.d] _ (Kn.qng2 s1.out 4 rfl) Try.underlying28 rfl (info_c4 (tv)) ?_ | refine wp_ldW rfl 28 _ rfl kt 12 rfl [Value.int IntKind.u64 tz.a, Value.int IntKind.u64 tz.b, Value.int IntKind.u64 tz.c, Value.int IntKind.u64 tz.d] _ (Kn.qng3 s1.out 4 rfl) Try.underlying28 rfl (info_c4 (tz)) ?_)
      refine (T1 _).mono ?_
      rintro e w2 ⟨rfl, hb2⟩
      have s2 : Hid (Kn w2 [(w.heap.size, (c4 (n))), (w.heap.size + 1, (c8 (px) (py))), (w.heap.size + 1 + 1, zz8), (ks, (qR (px) (py) (pm) (nI))), (kt, (qR (tx) (ty) (tv) (tz)))]) := s1.out.up hb2
      have b2 : Hid (Below w.heap.size w w2) := b1.out.trans (hb2.mono b1.out.size)
      have z2 := b2.out.size
      clear hb2 s1 b1
      have uro_0 : w2.cell? ⟨w.heap.size + 1 + 1, 0, none⟩ = some (.int .u64 0) := Kn.get s2.out 2 0 rfl rfl
      have uro_1 : w2.cell? ⟨w.heap.size + 1 + 1, 1, none⟩ = some (.int .u64 0) := Kn.get s2.out 2 1 rfl rfl
      have uro_2 : w2.cell? ⟨w.heap.size + 1 + 1, 2, none⟩ = some (.int .u64 0) := Kn.get s2.out 2 2 rfl rfl
      have uro_3 : w2.cell? ⟨w.heap.size + 1 + 1, 3, none⟩ = some (.int .u64 0) := Kn.get s2.out 2 3 rfl rfl
      have uro_4 : w2.cell? ⟨w.heap.size + 1 + 1, 4, none⟩ = some (.int .u64 0) := Kn.get s2.out 2 4 rfl rfl
      have uro_5 : w2.cell? ⟨w.heap.size + 1 + 1, 5, none⟩ = some (.int .u64 0) := Kn.get s2.out 2 5 rfl rfl
      have uro_6 : w2.cell? ⟨w.heap.size + 1 + 1, 6, none⟩ = some (.int .u64 0) := Kn.get s2.out 2 6 rfl rfl
      have uro_7 : w2.cell? ⟨w.heap.size + 1 + 1, 7, none⟩ = some (.int .u64 0) := Kn.get s2.out 2 7 rfl rfl
      have uro_z : ∀ j, w2.frozen? ⟨w.heap.size + 1 + 1, j, none⟩ = false := Kn.fz s2.out 2 rfl
      have s3 : Hid (Kn (st8 w2 (w.heap.size + 1 + 1) (rx) (ry)) [(w.heap.size + 1 + 1, (c8 (rx) (ry))), (w.heap.size, (c4 (n))), (w.heap.size + 1, (c8 (px) (py))), (ks, (qR (px) (py) (pm) (nI))), (kt, (qR (tx) (ty) (tv) (tz)))]) := Kn.st8 (L := [(w.heap.size, (c4 (n))), (w.heap.size + 1, (c8 (px) (py))), (ks, (qR (px) (py) (pm) (nI))), (kt, (qR (tx) (ty) (tv) (tz)))]) (s2.out.front 2 rfl) (rx) (ry)
      have b3 : Hid (Below w.heap.size w (st8 w2 (w.heap.size + 1 + 1) (rx) (ry))) := below_st8 b2.out (by omega)
      clear s2 b2
      go_wp2_with fail
      clear uro_0 uro_1 uro_2 uro_3 uro_4 uro_5 uro_6 uro_7 uro_z
      have urr_0 : (st8 w2 (w.heap.size + 1 + 1) (rx) (ry)).cell? ⟨w.heap.size + 1 + 1, 0, none⟩ = some (.int .u64 (rx).a) := Kn.get s3.out 0 0 rfl rfl
      have urr_1 : (st8 w2 (w.heap.size + 1 + 1) (rx) (ry)).cell? ⟨w.heap.size + 1 + 1, 1, none⟩ = some (.int .u64 (rx).b) := Kn.get s3.out 0 1 rfl rfl
      have urr_2 : (st8 w2 (w.heap.size + 1 + 1) (rx) (ry)).cell? ⟨w.heap.size + 1 + 1, 2, none⟩ = some (.int .u64 (rx).c) := Kn.get s3.out 0 2 rfl rfl
      have urr_3 : (st8 w2 (w.heap.size + 1 + 1) (rx) (ry)).cell? ⟨w.heap.size + 1 + 1, 3, none⟩ = some (.int .u64 (rx).d) := Kn.get s3.out 0 3 rfl rfl
      have urr_4 : (st8 w2 (w.heap.size + 1 + 1) (rx) (ry)).cell? ⟨w.heap.size + 1 + 1, 4, none⟩ = some (.int .u64 (ry).a) := Kn.get s3.out 0 4 rfl rfl
      have urr_5 : (st8 w2 (w.heap.size + 1 + 1) (rx) (ry)).cell? ⟨w.heap.size + 1 + 1, 5, none⟩ = some (.int .u64 (ry).b) := Kn.get s3.out 0 5 rfl rfl
      have urr_6 : (st8 w2 (w.heap.size + 1 + 1) (rx) (ry)).cell? ⟨w.heap.size + 1 + 1, 6, none⟩ = some (.int .u64 (ry).c) := Kn.get s3.out 0 6 rfl rfl
      have urr_7 : (st8 w2 (w.heap.size + 1 + 1) (rx) (ry)).cell? ⟨w.heap.size + 1 + 1, 7, none⟩ = some (.int .u64 (ry).d) := Kn.get s3.out 0 7 rfl rfl
      refine bodyPost_ret (v := .tuple #[Wv rx ry, .int .i64 0]) ?_ rfl ⟨rfl, b3.out⟩
      show (results Try.f40 _).run Try.prog (st8 w2 (w.heap.size + 1 + 1) (rx) (ry)) = .ok _ (st8 w2 (w.heap.size + 1 + 1) (rx) (ry))
      clear s3 b3
      generalize (st8 w2 (w.heap.size + 1 + 1) (rx) (ry)) = W9 at *
      simp [results, Try.results40, go_sem, urr_0, urr_1, urr_2, urr_3, urr_4, urr_5, urr_6, urr_7]
end Go.Proofs.Ytpnfopakkaoibaa
