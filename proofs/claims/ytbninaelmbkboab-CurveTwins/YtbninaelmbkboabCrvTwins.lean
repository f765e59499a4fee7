/- CurveTwins, out of what package curve must keep; the laws CurveBack, CurveOne, CurveTwins. -/
import Derived.Test.YtbninaelmbkboabCrvBack
import Derived.Test.YtbninaelmbkboabCrvGroup
namespace Go.Proofs.Ytbninaelmbkboab
open Go.RowKit
attribute [local go_sem] World.cell?_alloc_some cell_alloc2 cell_alloc3 cell_alloc4 frozen?_alloc_cells frozen_out
set_option linter.unusedSimpArgs false
set_option maxRecDepth 20000 in
set_option maxHeartbeats 1000000 in
theorem curveTwins_none (n : Nat)
    (U1 : ∀ w, Calls Try.prog 14 #[.agg (bR (n)).toArray] w fun e w' => e = .returned (.tuple #[zW', .int .i64 4]) ∧ Below w.heap.size w w')
    (w : World) :
    Calls Try.prog 6 #[bV n] w fun e w' => e = .returned (.bool true) ∧ Below w.heap.size w w' := by
  go_enter Try.func6, Try.ntmps6
  have s0 : Hid (Kn (w.alloc (.cells (bR (n)).toArray 35)) [(w.heap.size, (bR (n)))]) := ((Kn.nil w).al (bR (n)) 35 rfl)
  have b0 : Hid (Below w.heap.size w (w.alloc (.cells (bR (n)).toArray 35))) := ((Below.refl _ _).alloc (Nat.le_refl _) _)
  go_wp2_with (first | refine wp_ldW rfl 35 _ rfl (w.heap.size) 0 rfl (bR (n)) _ (Kn.rng s0.out 0 rfl) Try.underlying35 rfl (info_bR (n)) ?_)
  refine (U1 _).mono ?_
  rintro e w1 ⟨rfl, hb1⟩
  have s1 : Hid (Kn w1 [(w.heap.size, (bR (n)))]) := s0.out.up hb1
  have b1 : Hid (Below w.heap.size w w1) := b0.out.trans (hb1.mono b0.out.size)
  have z1 := b1.out.size
  clear hb1 s0 b0
  have s2 : Hid (Kn (kalP w1 ((⟨0,0,0,0⟩:Nm)) ((⟨0,0,0,0⟩:Nm))) [(w1.heap.size, (c8 ((⟨0,0,0,0⟩:Nm)) ((⟨0,0,0,0⟩:Nm)))), (w.heap.size, (bR (n)))]) := s1.out.al (c8 ((⟨0,0,0,0⟩:Nm)) ((⟨0,0,0,0⟩:Nm))) 26 rfl
  have b2 : Hid (Below w.heap.size w (kalP w1 ((⟨0,0,0,0⟩:Nm)) ((⟨0,0,0,0⟩:Nm)))) := b1.out.alloc b1.out.size _
  have z2 := b1.out.size
  clear s1 b1
  go_wp2_with fail
  go_ret
  exact ⟨rfl, b2.out⟩
set_option maxRecDepth 20000 in
set_option maxHeartbeats 1000000 in
theorem curveTwins_zero (n m : Nat) (px py : Nm) (x y : Nat) (hx : Hid (x = n / 256 ^ 31 % 256)) (hy : Hid (y = m / 256 ^ 31 % 256)) (hxy : bits .xor .u8 (x : Int) 128 = (y : Int)) (hr : Hid ((bR n).set 31 (.int .u8 ((m / 256 ^ 31 % 256 : Nat) : Int)) = bR m))
    (e1 : ∀ w, (binOp .eql 24 (N px) (N ⟨0, 0, 0, 0⟩)).run Try.prog w = .ok (.bool true) w)
    (U1 : ∀ w, Calls Try.prog 14 #[.agg (bR (n)).toArray] w fun e w' => e = .returned (.tuple #[Wv px py, .int .i64 0]) ∧ Below w.heap.size w w')
    (U2 : ∀ w, Calls Try.prog 14 #[.agg (bR (m)).toArray] w fun e w' => e = .returned (.tuple #[zW', .int .i64 4]) ∧ Below w.heap.size w w')
    (w : World) :
    Calls Try.prog 6 #[bV n] w fun e w' => e = .returned (.bool true) ∧ Below w.heap.size w w' := by
  go_enter Try.func6, Try.ntmps6
  have s0 : Hid (Kn (w.alloc (.cells (bR (n)).toArray 35)) [(w.heap.size, (bR (n)))]) := ((Kn.nil w).al (bR (n)) 35 rfl)
  have b0 : Hid (Below w.heap.size w (w.alloc (.cells (bR (n)).toArray 35))) := ((Below.refl _ _).alloc (Nat.le_refl _) _)
  go_wp2_with (first | refine wp_ldW rfl 35 _ rfl (w.heap.size) 0 rfl (bR (n)) _ (Kn.rng s0.out 0 rfl) Try.underlying35 rfl (info_bR (n)) ?_)
  refine (U1 _).mono ?_
  rintro e w1 ⟨rfl, hb1⟩
  have s1 : Hid (Kn w1 [(w.heap.size, (bR (n)))]) := s0.out.up hb1
  have b1 : Hid (Below w.heap.size w w1) := b0.out.trans (hb1.mono b0.out.size)
  have z1 := b1.out.size
  clear hb1 s0 b0
  have s2 : Hid (Kn (kalP w1 (px) (py)) [(w1.heap.size, (c8 (px) (py))), (w.heap.size, (bR (n)))]) := s1.out.al (c8 (px) (py)) 26 rfl
  have b2 : Hid (Below w.heap.size w (kalP w1 (px) (py))) := b1.out.alloc b1.out.size _
  have z2 := b1.out.size
  clear s1 b1
  replace s2 : Hid (Kn (kalP w1 (px) (py)) [(w.heap.size, (bR (n))), (w1.heap.size, (c8 (px) (py)))]) := s2.out.front 1 rfl
  have c31 : (kalP w1 px py).cell? ⟨w.heap.size, 31, none⟩ = some (.int .u8 (x : Int)) := by
    have := Kn.get s2.out 0 31 (v := .int .u8 ((n / 256 ^ 31 % 256 : Nat) : Int)) rfl (by unfold bR; rw [List.getElem?_map, List.getElem?_range (by decide)]; rfl)
    rw [hx.out]
    exact this
  have z31 := Kn.fz s2.out 0 rfl
  have s3 : Hid (Kn ((kalP w1 px py).setCell ⟨w.heap.size, 31, none⟩ (.int .u8 (y : Int))) [(w.heap.size, bR (m)), (w1.heap.size, c8 px py)]) := by
    have := Kn.set s2.out 31 (.int .u8 (y : Int)) (by rw [bR_length]; decide)
    rw [hy.out, hr.out] at this
    rw [hy.out]
    exact this
  have b3 : Hid (Below w.heap.size w ((kalP w1 px py).setCell ⟨w.heap.size, 31, none⟩ (.int .u8 (y : Int)))) := b2.out.setCell (p := ⟨w.heap.size, 31, none⟩) (Nat.le_refl _) _
  clear s2 b2
  go_wp2_with (first | refine wp_ldW rfl 35 _ rfl (w.heap.size) 0 rfl (bR (m)) _ (Kn.rng s3.out 0 rfl) Try.underlying35 rfl (info_bR (m)) ?_)
  clear c31 z31
  refine (U2 _).mono ?_
  rintro e w4 ⟨rfl, hb4⟩
  have s4 : Hid (Kn w4 [(w.heap.size, (bR (m))), (w1.heap.size, (c8 (px) (py)))]) := s3.out.up hb4
  have b4 : Hid (Below w.heap.size w w4) := b3.out.trans (hb4.mono b3.out.size)
  have z4 := b4.out.size
  clear hb4 s3 b3
  have s5 : Hid (Kn (kalP w4 ((⟨0,0,0,0⟩:Nm)) ((⟨0,0,0,0⟩:Nm))) [(w4.heap.size, (c8 ((⟨0,0,0,0⟩:Nm)) ((⟨0,0,0,0⟩:Nm)))), (w.heap.size, (bR (m))), (w1.heap.size, (c8 (px) (py)))]) := s4.out.al (c8 ((⟨0,0,0,0⟩:Nm)) ((⟨0,0,0,0⟩:Nm))) 26 rfl
  have b5 : Hid (Below w.heap.size w (kalP w4 ((⟨0,0,0,0⟩:Nm)) ((⟨0,0,0,0⟩:Nm)))) := b4.out.alloc b4.out.size _
  have z5 := b4.out.size
  clear s4 b4
  have up_0 : (kalP w4 ((⟨0,0,0,0⟩:Nm)) ((⟨0,0,0,0⟩:Nm))).cell? ⟨w1.heap.size, 0, none⟩ = some (.int .u64 (px).a) := Kn.get s5.out 2 0 rfl rfl
  have up_1 : (kalP w4 ((⟨0,0,0,0⟩:Nm)) ((⟨0,0,0,0⟩:Nm))).cell? ⟨w1.heap.size, 1, none⟩ = some (.int .u64 (px).b) := Kn.get s5.out 2 1 rfl rfl
  have up_2 : (kalP w4 ((⟨0,0,0,0⟩:Nm)) ((⟨0,0,0,0⟩:Nm))).cell? ⟨w1.heap.size, 2, none⟩ = some (.int .u64 (px).c) := Kn.get s5.out 2 2 rfl rfl
  have up_3 : (kalP w4 ((⟨0,0,0,0⟩:Nm)) ((⟨0,0,0,0⟩:Nm))).cell? ⟨w1.heap.size, 3, none⟩ = some (.int .u64 (px).d) := Kn.get s5.out 2 3 rfl rfl
  have up_4 : (kalP w4 ((⟨0,0,0,0⟩:Nm)) ((⟨0,0,0,0⟩:Nm))).cell? ⟨w1.heap.size, 4, none⟩ = some (.int .u64 (py).a) := Kn.get s5.out 2 4 rfl rfl
  have up_5 : (kalP w4 ((⟨0,0,0,0⟩:Nm)) ((⟨0,0,0,0⟩:Nm))).cell? ⟨w1.heap.size, 5, none⟩ = some (.int .u64 (py).b) := Kn.get s5.out 2 5 rfl rfl
  have up_6 : (kalP w4 ((⟨0,0,0,0⟩:Nm)) ((⟨0,0,0,0⟩:Nm))).cell? ⟨w1.heap.size, 6, none⟩ = some (.int .u64 (py).c) := Kn.get s5.out 2 6 rfl rfl
  have up_7 : (kalP w4 ((⟨0,0,0,0⟩:Nm)) ((⟨0,0,0,0⟩:Nm))).cell? ⟨w1.heap.size, 7, none⟩ = some (.int .u64 (py).d) := Kn.get s5.out 2 7 rfl rfl
  go_wp2_with fail
  clear up_0 up_1 up_2 up_3 up_4 up_5 up_6 up_7
  go_ret
  exact ⟨rfl, b5.out⟩
set_option maxRecDepth 20000 in
set_option maxHeartbeats 1000000 in
theorem curveTwins_neg (n m : Nat) (px py qx qy : Nm) (x y : Nat) (hx : Hid (x = n / 256 ^ 31 % 256)) (hy : Hid (y = m / 256 ^ 31 % 256)) (hxy : bits .xor .u8 (x : Int) 128 = (y : Int)) (hr : Hid ((bR n).set 31 (.int .u8 ((m / 256 ^ 31 % 256 : Nat) : Int)) = bR m))
    (e1 : ∀ w, (binOp .eql 24 (N px) (N ⟨0, 0, 0, 0⟩)).run Try.prog w = .ok (.bool false) w) (e2 : ∀ w, (binOp .eql 26 (Wv qx qy) (Wv qx qy)).run Try.prog w = .ok (.bool true) w)
    (U1 : ∀ w, Calls Try.prog 14 #[.agg (bR (n)).toArray] w fun e w' => e = .returned (.tuple #[Wv px py, .int .i64 0]) ∧ Below w.heap.size w w')
    (U2 : ∀ w, Calls Try.prog 14 #[.agg (bR (m)).toArray] w fun e w' => e = .returned (.tuple #[Wv qx qy, .int .i64 0]) ∧ Below w.heap.size w w')
    (N1 : ∀ w, Calls Try.prog 15 #[Wv px py] w fun e w' => e = .returned (.tuple #[Wv qx qy, .int .i64 0]) ∧ Below w.heap.size w w')
    (w : World) :
    Calls Try.prog 6 #[bV n] w fun e w' => e = .returned (.bool true) ∧ Below w.heap.size w w' := by
  go_enter Try.func6, Try.ntmps6
  have s0 : Hid (Kn (w.alloc (.cells (bR (n)).toArray 35)) [(w.heap.size, (bR (n)))]) := ((Kn.nil w).al (bR (n)) 35 rfl)
  have b0 : Hid (Below w.heap.size w (w.alloc (.cells (bR (n)).toArray 35))) := ((Below.refl _ _).alloc (Nat.le_refl _) _)
  go_wp2_with (first | refine wp_ldW rfl 35 _ rfl (w.heap.size) 0 rfl (bR (n)) _ (Kn.rng s0.out 0 rfl) Try.underlying35 rfl (info_bR (n)) ?_)
  refine (U1 _).mono ?_
  rintro e w1 ⟨rfl, hb1⟩
  have s1 : Hid (Kn w1 [(w.heap.size, (bR (n)))]) := s0.out.up hb1
  have b1 : Hid (Below w.heap.size w w1) := b0.out.trans (hb1.mono b0.out.size)
  have z1 := b1.out.size
  clear hb1 s0 b0
  have s2 : Hid (Kn (kalP w1 (px) (py)) [(w1.heap.size, (c8 (px) (py))), (w.heap.size, (bR (n)))]) := s1.out.al (c8 (px) (py)) 26 rfl
  have b2 : Hid (Below w.heap.size w (kalP w1 (px) (py))) := b1.out.alloc b1.out.size _
  have z2 := b1.out.size
  clear s1 b1
  replace s2 : Hid (Kn (kalP w1 (px) (py)) [(w.heap.size, (bR (n))), (w1.heap.size, (c8 (px) (py)))]) := s2.out.front 1 rfl
  have c31 : (kalP w1 px py).cell? ⟨w.heap.size, 31, none⟩ = some (.int .u8 (x : Int)) := by
    have := Kn.get s2.out 0 31 (v := .int .u8 ((n / 256 ^ 31 % 256 : Nat) : Int)) rfl (by unfold bR; rw [List.getElem?_map, List.getElem?_range (by decide)]; rfl)
    rw [hx.out]
    exact this
  have z31 := Kn.fz s2.out 0 rfl
  have s3 : Hid (Kn ((kalP w1 px py).setCell ⟨w.heap.size, 31, none⟩ (.int .u8 (y : Int))) [(w.heap.size, bR (m)), (w1.heap.size, c8 px py)]) := by
    have := Kn.set s2.out 31 (.int .u8 (y : Int)) (by rw [bR_length]; decide)
    rw [hy.out, hr.out] at this
    rw [hy.out]
    exact this
  have b3 : Hid (Below w.heap.size w ((kalP w1 px py).setCell ⟨w.heap.size, 31, none⟩ (.int .u8 (y : Int)))) := b2.out.setCell (p := ⟨w.heap.size, 31, none⟩) (Nat.le_refl _) _
  clear s2 b2
  go_wp2_with (first | refine wp_ldW rfl 35 _ rfl (w.heap.size) 0 rfl (bR (m)) _ (Kn.rng s3.out 0 rfl) Try.underlying35 rfl (info_bR (m)) ?_)
  clear c31 z31
  refine (U2 _).mono ?_
  rintro e w4 ⟨rfl, hb4⟩
  have s4 : Hid (Kn w4 [(w.heap.size, (bR (m))), (w1.heap.size, (c8 (px) (py)))]) := s3.out.up hb4
  have b4 : Hid (Below w.heap.size w w4) := b3.out.trans (hb4.mono b3.out.size)
  have z4 := b4.out.size
  clear hb4 s3 b3
  have s5 : Hid (Kn (kalP w4 (qx) (qy)) [(w4.heap.size, (c8 (qx) (qy))), (w.heap.size, (bR (m))), (w1.heap.size, (c8 (px) (py)))]) := s4.out.al (c8 (qx) (qy)) 26 rfl
  have b5 : Hid (Below w.heap.size w (kalP w4 (qx) (qy))) := b4.out.alloc b4.out.size _
  have z5 := b4.out.size
  clear s4 b4
  have up_0 : (kalP w4 (qx) (qy)).cell? ⟨w1.heap.size, 0, none⟩ = some (.int .u64 (px).a) := Kn.get s5.out 2 0 rfl rfl
  have up_1 : (kalP w4 (qx) (qy)).cell? ⟨w1.heap.size, 1, none⟩ = some (.int .u64 (px).b) := Kn.get s5.out 2 1 rfl rfl
  have up_2 : (kalP w4 (qx) (qy)).cell? ⟨w1.heap.size, 2, none⟩ = some (.int .u64 (px).c) := Kn.get s5.out 2 2 rfl rfl
  have up_3 : (kalP w4 (qx) (qy)).cell? ⟨w1.heap.size, 3, none⟩ = some (.int .u64 (px).d) := Kn.get s5.out 2 3 rfl rfl
  have up_4 : (kalP w4 (qx) (qy)).cell? ⟨w1.heap.size, 4, none⟩ = some (.int .u64 (py).a) := Kn.get s5.out 2 4 rfl rfl
  have up_5 : (kalP w4 (qx) (qy)).cell? ⟨w1.heap.size, 5, none⟩ = some (.int .u64 (py).b) := Kn.get s5.out 2 5 rfl rfl
  have up_6 : (kalP w4 (qx) (qy)).cell? ⟨w1.heap.size, 6, none⟩ = some (.int .u64 (py).c) := Kn.get s5.out 2 6 rfl rfl
  have up_7 : (kalP w4 (qx) (qy)).cell? ⟨w1.heap.size, 7, none⟩ = some (.int .u64 (py).d) := Kn.get s5.out 2 7 rfl rfl
  go_wp2_with fail
  clear up_0 up_1 up_2 up_3 up_4 up_5 up_6 up_7
  refine (N1 _).mono ?_
  rintro e w6 ⟨rfl, hb6⟩
  have s6 : Hid (Kn w6 [(w4.heap.size, (c8 (qx) (qy))), (w.heap.size, (bR (m))), (w1.heap.size, (c8 (px) (py)))]) := s5.out.up hb6
  have b6 : Hid (Below w.heap.size w w6) := b5.out.trans (hb6.mono b5.out.size)
  have z6 := b6.out.size
  clear hb6 s5 b5
  have s7 : Hid (Kn (kalP w6 (qx) (qy)) [(w6.heap.size, (c8 (qx) (qy))), (w4.heap.size, (c8 (qx) (qy))), (w.heap.size, (bR (m))), (w1.heap.size, (c8 (px) (py)))]) := s6.out.al (c8 (qx) (qy)) 26 rfl
  have b7 : Hid (Below w.heap.size w (kalP w6 (qx) (qy))) := b6.out.alloc b6.out.size _
  have z7 := b6.out.size
  clear s6 b6
  have uq_0 : (kalP w6 (qx) (qy)).cell? ⟨w4.heap.size, 0, none⟩ = some (.int .u64 (qx).a) := Kn.get s7.out 1 0 rfl rfl
  have uq_1 : (kalP w6 (qx) (qy)).cell? ⟨w4.heap.size, 1, none⟩ = some (.int .u64 (qx).b) := Kn.get s7.out 1 1 rfl rfl
  have uq_2 : (kalP w6 (qx) (qy)).cell? ⟨w4.heap.size, 2, none⟩ = some (.int .u64 (qx).c) := Kn.get s7.out 1 2 rfl rfl
  have uq_3 : (kalP w6 (qx) (qy)).cell? ⟨w4.heap.size, 3, none⟩ = some (.int .u64 (qx).d) := Kn.get s7.out 1 3 rfl rfl
  have uq_4 : (kalP w6 (qx) (qy)).cell? ⟨w4.heap.size, 4, none⟩ = some (.int .u64 (qy).a) := Kn.get s7.out 1 4 rfl rfl
  have uq_5 : (kalP w6 (qx) (qy)).cell? ⟨w4.heap.size, 5, none⟩ = some (.int .u64 (qy).b) := Kn.get s7.out 1 5 rfl rfl
  have uq_6 : (kalP w6 (qx) (qy)).cell? ⟨w4.heap.size, 6, none⟩ = some (.int .u64 (qy).c) := Kn.get s7.out 1 6 rfl rfl
  have uq_7 : (kalP w6 (qx) (qy)).cell? ⟨w4.heap.size, 7, none⟩ = some (.int .u64 (qy).d) := Kn.get s7.out 1 7 rfl rfl
  have un_0 : (kalP w6 (qx) (qy)).cell? ⟨w6.heap.size, 0, none⟩ = some (.int .u64 (qx).a) := Kn.get s7.out 0 0 rfl rfl
  have un_1 : (kalP w6 (qx) (qy)).cell? ⟨w6.heap.size, 1, none⟩ = some (.int .u64 (qx).b) := Kn.get s7.out 0 1 rfl rfl
  have un_2 : (kalP w6 (qx) (qy)).cell? ⟨w6.heap.size, 2, none⟩ = some (.int .u64 (qx).c) := Kn.get s7.out 0 2 rfl rfl
  have un_3 : (kalP w6 (qx) (qy)).cell? ⟨w6.heap.size, 3, none⟩ = some (.int .u64 (qx).d) := Kn.get s7.out 0 3 rfl rfl
  have un_4 : (kalP w6 (qx) (qy)).cell? ⟨w6.heap.size, 4, none⟩ = some (.int .u64 (qy).a) := Kn.get s7.out 0 4 rfl rfl
  have un_5 : (kalP w6 (qx) (qy)).cell? ⟨w6.heap.size, 5, none⟩ = some (.int .u64 (qy).b) := Kn.get s7.out 0 5 rfl rfl
  have un_6 : (kalP w6 (qx) (qy)).cell? ⟨w6.heap.size, 6, none⟩ = some (.int .u64 (qy).c) := Kn.get s7.out 0 6 rfl rfl
  have un_7 : (kalP w6 (qx) (qy)).cell? ⟨w6.heap.size, 7, none⟩ = some (.int .u64 (qy).d) := Kn.get s7.out 0 7 rfl rfl
  go_wp2_with fail
  clear uq_0 uq_1 uq_2 uq_3 uq_4 uq_5 uq_6 uq_7 un_0 un_1 un_2 un_3 un_4 un_5 un_6 un_7
  go_ret
  exact ⟨rfl, b7.out⟩
theorem eqBool_self (c : Bool) (w : World) : (binOp .eql 4 (.bool c) (.bool c)).run Try.prog w = .ok (.bool true) w := by
  cases c <;> simp [go_sem]
theorem pt_nm {px py : Nm} (a1 : px.ok) (a2 : py.ok) {P : Cv.Pt} (h : (px.nat, py.nat) = P) : Wv px py = pv P := by
  rw [← h]
  exact pv_of a1 a2
theorem curveBack_of (CO : COnC) (CP : CPackC) (CPN : CPackN) (CU : CUnpC) (px py qx qy : Nm) (a1 : px.ok) (a2 : py.ok) (a3 : qx.ok) (a4 : qy.ok) (w : World) :
    Calls Try.prog 4 #[Wv px py, Wv qx qy] w fun e w' => e = .returned (.bool true) ∧ Below w.heap.size w w' := by
  by_cases hP : Cv.On (px.nat, py.nat)
  · have P1 := CP (px.nat, py.nat) hP
    rw [← pv_of a1 a2] at P1
    by_cases hQ : Cv.On (qx.nat, qy.nat)
    · have P2 := CP (qx.nat, qy.nat) hQ
      rw [← pv_of a3 a4] at P2
      have U1 := (CU _ (Cv.pk_lt hP)).1 _ (Cv.unp_pk hP)
      rw [← pv_of a1 a2] at U1
      have e3 := eqP px py qx qy
      have ec : (Nm.beq px qx && Nm.beq py qy) = decide (Cv.pk (px.nat, py.nat) = Cv.pk (qx.nat, qy.nat)) := by
        by_cases h : Cv.pk (px.nat, py.nat) = Cv.pk (qx.nat, qy.nat)
        · have e := Cv.pk_inj hP hQ h
          rw [decide_eq_true h, Nm.ext_nat a1 a3 (congrArg Prod.fst e), Nm.ext_nat a2 a4 (congrArg Prod.snd e), Nm.beq_self, Nm.beq_self]
          rfl
        · rw [decide_eq_false h]
          refine Bool.eq_false_iff.2 fun e => h ?_
          rw [Bool.and_eq_true] at e
          rw [Nm.beq_iff.1 e.1, Nm.beq_iff.1 e.2]
      rw [ec] at e3
      exact curveBack_yes px py qx qy _ _ _ (eqP_self _ _) (eqB (Cv.pk_lt hP) (Cv.pk_lt hQ)) e3 (eqBool_self _) P1 P2 U1 w
    · have O1 := CO.1 (px.nat, py.nat) hP
      rw [← pv_of a1 a2] at O1
      exact curveBack_q px py qx qy _ P1 (CPN qx qy a3 a4 hQ) O1 (CO.2 qx qy a3 a4 hQ) w
  · have P1 := CPN px py a1 a2 hP
    have P2 : ∃ b f, ∀ w, Calls Try.prog 13 #[Wv qx qy] w fun e w' => e = .returned (.tuple #[bV b, .int .i64 f]) ∧ Below w.heap.size w w' := by
      by_cases hQ : Cv.On (qx.nat, qy.nat)
      · have := CP (qx.nat, qy.nat) hQ
        rw [← pv_of a3 a4] at this
        exact ⟨_, _, this⟩
      · exact ⟨_, _, CPN qx qy a3 a4 hQ⟩
    obtain ⟨b, f, P2⟩ := P2
    exact curveBack_p px py qx qy b f P1 P2 (CO.2 px py a1 a2 hP) w
theorem curveOne_of (CO : COnC) (CP : CPackC) (CU : CUnpC) (n : Nat) (hn : n < 2 ^ 256) (w : World) :
    Calls Try.prog 5 #[bV n] w fun e w' => e = .returned (.bool true) ∧ Below w.heap.size w w' := by
  cases h : Cv.unp n with
  | none => exact curveOne_none n (eqP_self _ _) ((CU n hn).2 h) w
  | some P =>
    have hP := Cv.unp_some hn h
    have P1 := CP P hP.1
    rw [hP.2] at P1
    have e1 := eqB hn hn
    rw [decide_eq_true rfl] at e1
    exact curveOne_some n _ _ e1 ((CU n hn).1 P h) P1 (CO.1 P hP.1) w
theorem curveTwins_of (CN : CNegC) (CU : CUnpC) (n : Nat) (hn : n < 2 ^ 256) (w : World) :
    Calls Try.prog 6 #[bV n] w fun e w' => e = .returned (.bool true) ∧ Below w.heap.size w w' := by
  cases h : Cv.unp n with
  | none => exact curveTwins_none n ((CU n hn).2 h) w
  | some P =>
    have hP := Cv.unp_some hn h
    have ht := turn_lt hn
    have tb := turn_byte hn
    by_cases h0 : P.1 = 0
    · have e1 := eqN (nm P.1) ⟨0, 0, 0, 0⟩
      rw [show nm P.1 = ⟨0, 0, 0, 0⟩ by rw [h0]; rfl, Nm.beq_self] at e1
      exact curveTwins_zero n (Cv.turn n) ⟨0, 0, 0, 0⟩ (nm P.2) _ _ rfl rfl tb (turn_row hn) e1 (by have := (CU n hn).1 P h; rw [show pv P = Wv ⟨0, 0, 0, 0⟩ (nm P.2) by show Wv (nm P.1) _ = _; rw [h0]; rfl] at this; exact this) ((CU _ ht).2 (Cv.unp_zero hn h h0)) w
    · have e1 := eqN (nm P.1) ⟨0, 0, 0, 0⟩
      rw [Nm.beq_ne (fun e => h0 (by
        have := congrArg Nm.nat e
        rw [nm_nat (Nat.lt_trans hP.1.1 F.p_lt)] at this
        exact this))] at e1
      exact curveTwins_neg n (Cv.turn n) (nm P.1) (nm P.2) _ _ _ _ rfl rfl tb (turn_row hn) e1 (eqP_self _ _) ((CU n hn).1 P h) ((CU _ ht).1 _ (Cv.unp_turn hn h h0)) (CN P hP.1) w
end Go.Proofs.Ytbninaelmbkboab
