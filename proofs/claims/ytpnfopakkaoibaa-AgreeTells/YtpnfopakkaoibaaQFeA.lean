/- The contracts of sealringref's Fe.Plus and Fe.Less. -/
import Derived.Test.YtpnfopakkaoibaaQFeL
namespace Go.Proofs.Ytpnfopakkaoibaa.I
open Go.RowKit
set_option linter.unusedSimpArgs false
attribute [local go_sem] YieldsP execOp
attribute [local simp] MP.eq_p
/-- A number below the modulus as the document has it. -/
abbrev fe (n : Nat) : Value := aI 16 (fd n)
theorem less17 (f : Nat → Nat) (hf : f 16 = 0) (i : Nat) (h : i < 17) : less f 16 i = f i := by
  unfold less
  split
  · rfl
  · obtain rfl : i = 16 := by omega
    exact hf.symm
set_option maxRecDepth 20000 in
set_option maxHeartbeats 1000000 in
theorem plus_core (a b T G : Nat → Nat) (ha : ∀ i, i < 16 → a i < 65536) (hb : ∀ i, i < 16 → b i < 65536) (hT : T = pl a b) (LS : Hid (∀ w, Calls Try.prog 83 #[aI 17 T] w fun e w' => e = .returned (aI 16 G) ∧ Below w.heap.size w w')) (w : World) : Calls Try.prog 88 #[aI 16 a, aI 16 b] w fun e w' => e = .returned (aI 16 G) ∧ Below w.heap.size w w' := by
  have TS : Hid (T 16 = 0 ∧ ∀ j, j < 16 → IntKind.i64.wrap (((a j : Nat) : Int) + ((b j : Nat) : Int)) = ((T j : Nat) : Int)) := by
    rw [hT]
    refine ⟨rfl, fun j hj => ?_⟩
    have := ha j hj; have := hb j hj
    unfold pl
    rw [if_pos hj, IntKind.wrap_i64]
    omega
  clear ha hb hT
  obtain ⟨x0, x1, x2, x3, x4⟩ := al4 w ((row 16 a).map dI).toArray ((row 16 b).map dI).toArray #[Value.int IntKind.i64 0, Value.int IntKind.i64 0, Value.int IntKind.i64 0, Value.int IntKind.i64 0, Value.int IntKind.i64 0, Value.int IntKind.i64 0, Value.int IntKind.i64 0, Value.int IntKind.i64 0, Value.int IntKind.i64 0, Value.int IntKind.i64 0, Value.int IntKind.i64 0, Value.int IntKind.i64 0, Value.int IntKind.i64 0, Value.int IntKind.i64 0, Value.int IntKind.i64 0, Value.int IntKind.i64 0] #[Value.int IntKind.i64 0, Value.int IntKind.i64 0, Value.int IntKind.i64 0, Value.int IntKind.i64 0, Value.int IntKind.i64 0, Value.int IntKind.i64 0, Value.int IntKind.i64 0, Value.int IntKind.i64 0, Value.int IntKind.i64 0, Value.int IntKind.i64 0, Value.int IntKind.i64 0, Value.int IntKind.i64 0, Value.int IntKind.i64 0, Value.int IntKind.i64 0, Value.int IntKind.i64 0, Value.int IntKind.i64 0, Value.int IntKind.i64 0] 70 70 70 103
  have X0 : Hid (Ar _ w.heap.size 16 a) := x0
  have X1 : Hid (Ar _ (w.heap.size + 1) 16 b) := x1
  have X2 : Hid (Ar _ (w.heap.size + 1 + 1) 16 z0) := x2
  have X3 : Hid (Ar _ (w.heap.size + 1 + 1 + 1) 17 z0) := x3
  have X4 : Hid (Below w.heap.size w _) := x4
  clear x0 x1 x2 x3 x4
  go_enter Try.func88, Try.ntmps88
  go_wp2_with (first | simp only [zero_fe] | simp only [zero_i17])
  try rw [show Try.zeroCells70 = #[Value.int IntKind.i64 0, Value.int IntKind.i64 0, Value.int IntKind.i64 0, Value.int IntKind.i64 0, Value.int IntKind.i64 0, Value.int IntKind.i64 0, Value.int IntKind.i64 0, Value.int IntKind.i64 0, Value.int IntKind.i64 0, Value.int IntKind.i64 0, Value.int IntKind.i64 0, Value.int IntKind.i64 0, Value.int IntKind.i64 0, Value.int IntKind.i64 0, Value.int IntKind.i64 0, Value.int IntKind.i64 0] from rfl]
  try rw [show Try.zeroCells103 = #[Value.int IntKind.i64 0, Value.int IntKind.i64 0, Value.int IntKind.i64 0, Value.int IntKind.i64 0, Value.int IntKind.i64 0, Value.int IntKind.i64 0, Value.int IntKind.i64 0, Value.int IntKind.i64 0, Value.int IntKind.i64 0, Value.int IntKind.i64 0, Value.int IntKind.i64 0, Value.int IntKind.i64 0, Value.int IntKind.i64 0, Value.int IntKind.i64 0, Value.int IntKind.i64 0, Value.int IntKind.i64 0, Value.int IntKind.i64 0] from rfl]
  generalize World.alloc (World.alloc (World.alloc (w.alloc _) _) _) _ = w1 at *
  go_loopw [7] (fun i wr => ∃ j : Nat, j ≤ 16 ∧ i = .int .i64 (j : Int) ∧ Hid (Ar wr w.heap.size 16 a) ∧ Hid (Ar wr (w.heap.size + 1) 16 b) ∧ Hid (Ar wr (w.heap.size + 1 + 1) 16 z0) ∧ Hid (Ar wr (w.heap.size + 1 + 1 + 1) 17 (less T j)) ∧ Hid (Below w.heap.size w wr)) (fun i _ => 16 - (intOf i).toNat)
  case atStart => exact ⟨0, by omega, rfl, X0, X1, X2, X3.out.congr fun i _ => less_zero T i, X4⟩
  case round =>
    clear X0 X1 X2 X3 X4
    obtain ⟨j, hj, rfl, X0, X1, X2, X3, X4⟩ := hrel
    by_cases hj1 : j < 16
    · have j1 : (j : Int) < 16 := by omega
      have j2 : (j : Int) < 17 := by omega
      have wj : IntKind.i64.wrap ((j : Int) + 1) = (j : Int) + 1 := by rw [IntKind.wrap_i64]; omega
      have J1 : Hid (j < 16) := hj1
      have c0 : Hid (∀ W, Below wr.heap.size wr W → W.cell? ⟨w.heap.size, j, none⟩ = some (dI (a j))) := fun W hW => Ar.at (X0.out.up hW X0.out.lt) J1.out
      have c1 : Hid (∀ W, Below wr.heap.size wr W → W.cell? ⟨w.heap.size + 1, j, none⟩ = some (dI (b j))) := fun W hW => Ar.at (X1.out.up hW X1.out.lt) J1.out
      have xe := TS.out.2 j hj1
      clear hj hj1
      go_wp2_with fail
      refine wp_region_monoSE 9 [MP.eq (.int .i64 (j : Int)), MP.eq (.int .i64 (j : Int)), MP.eq (.pointer (some ⟨w.heap.size, j, none⟩)), MP.eq (dI (a j)), MP.eq (.int .i64 (j : Int)), MP.eq (.pointer (some ⟨w.heap.size + 1, j, none⟩)), MP.eq (dI (b j)), MP.eq (dI (T j)), MP.eq (.pointer (some ⟨w.heap.size + 1 + 1 + 1, j, none⟩))] (by kernel_rfl) (by kernel_rfl) rfl (by decide) (by kernel_rfl) ?_
      apply Exists.intro
      refine ⟨fun vals => ?_, ?_, fun vals4 w4 hb4 hF hO => ?_⟩
      · simp only [putsV, dstL, List.length_cons, List.length_nil, Nat.zero_add, Nat.reduceAdd, List.getElem?_cons_zero, List.getElem?_cons_succ, Option.bind_some, Act.put, List.setIfInBounds_toArray, List.set_cons_succ, List.set_cons_zero]
        rfl
      · refine ⟨?_, ?_, ?_, ?_, ?_, ?_, ?_, ?_, ?_, trivial⟩
        · intro vals W hW hw hd
          try simp [Region.binds] at hd
          refine ⟨by first | rfl | simp [Region.wanted, yielded, hd], ?_⟩
          simp [go_sem, hd]
          exact Below.refl _ _
        · intro vals W hW hw hd
          try simp [Region.binds] at hd
          refine ⟨by first | rfl | simp [Region.wanted, yielded, hd], ?_⟩
          simp [go_sem, hd]
          exact Below.refl _ _
        · intro vals W hW hw hd
          try simp [Region.binds] at hd
          refine ⟨by first | rfl | simp [Region.wanted, yielded, hd], ?_⟩
          simp [go_sem, hd, j1]
          exact Below.refl _ _
        · intro vals W hW hw hd
          try simp [Region.binds] at hd
          refine ⟨by first | rfl | simp [Region.wanted, yielded, hd], ?_⟩
          have cc := c0.out W hW.out
          simp [go_sem, hd, cc]
          exact Below.refl _ _
        · intro vals W hW hw hd
          try simp [Region.binds] at hd
          refine ⟨by first | rfl | simp [Region.wanted, yielded, hd], ?_⟩
          simp [go_sem, hd]
          exact Below.refl _ _
        · intro vals W hW hw hd
          try simp [Region.binds] at hd
          refine ⟨by first | rfl | simp [Region.wanted, yielded, hd], ?_⟩
          simp [go_sem, hd, j1]
          exact Below.refl _ _
        · intro vals W hW hw hd
          try simp [Region.binds] at hd
          refine ⟨by first | rfl | simp [Region.wanted, yielded, hd], ?_⟩
          have cc := c1.out W hW.out
          simp [go_sem, hd, cc]
          exact Below.refl _ _
        · intro vals W hW hw hd
          try simp [Region.binds] at hd
          refine ⟨by first | rfl | simp [Region.wanted, yielded, hd], ?_⟩
          simp [go_sem, hd, xe]
          exact Below.refl _ _
        · intro vals W hW hw hd
          try simp [Region.binds] at hd
          refine ⟨by first | rfl | simp [Region.wanted, yielded, hd], ?_⟩
          simp [go_sem, hd, j2]
          exact Below.refl _ _
      obtain ⟨f0, f1, f2, f3, f4, f5, f6, f7, f8, _⟩ := hF
      simp only [MP.eq_p] at f0 f1 f2 f3 f4 f5 f6 f7 f8
      rw [f0, f1, f2, f3, f4, f5, f6, f7, f8]
      simp only [List.drop_succ_cons, List.drop_zero]
      have Y0 : Hid (Ar w4 w.heap.size 16 a) := X0.out.up hb4.out X0.out.lt
      have Y1 : Hid (Ar w4 (w.heap.size + 1) 16 b) := X1.out.up hb4.out X1.out.lt
      have Y2 : Hid (Ar w4 (w.heap.size + 1 + 1) 16 z0) := X2.out.up hb4.out X2.out.lt
      have Y3 : Hid (Ar w4 (w.heap.size + 1 + 1 + 1) 17 (less T j)) := X3.out.up hb4.out X3.out.lt
      have Y4 : Hid (Below w.heap.size w w4) := X4.out.trans (hb4.out.mono X4.out.size)
      have c4 := Y3.out.at (j := j) (by have := J1.out; omega)
      have z4 := Y3.out.fz j
      have V0 : Hid _ := Y0.out.apart1 (k' := w.heap.size + 1 + 1 + 1) (o := j) (v := dI (T j)) (by omega)
      have V1 : Hid _ := Y1.out.apart1 (k' := w.heap.size + 1 + 1 + 1) (o := j) (v := dI (T j)) (by omega)
      have V2 : Hid _ := Y2.out.apart1 (k' := w.heap.size + 1 + 1 + 1) (o := j) (v := dI (T j)) (by omega)
      have V3 : Hid (Ar (w4.setCell ⟨w.heap.size + 1 + 1 + 1, j, none⟩ (dI (T j))) (w.heap.size + 1 + 1 + 1) 17 (less T (j + 1))) := (Y3.out.set (by have := J1.out; omega) (T j)).congr fun i _ => less_step T j i
      have V4 : Hid _ := Y4.out.setCell (p := ⟨w.heap.size + 1 + 1 + 1, j, none⟩) (show w.heap.size ≤ w.heap.size + 1 + 1 + 1 by omega) (dI (T j))
      generalize less T j j = lv at *
      generalize T j = tv at *
      clear f0 f1 f2 f3 f4 f5 f6 f7 f8 hb4 hO X0 X1 X2 X3 X4 c0 c1 Y0 Y1 Y2 Y3 Y4 xe
      go_wp2_with fail
      go_roundw
      case rel => exact ⟨j + 1, J1.out, by first | rfl | go_num, V0, V1, V2, V3, V4⟩
      case measure => have := J1.out; simp [intOf]; omega
    · obtain rfl : j = 16 := by omega
      have j16 : ¬ (((16 : Nat) : Int) < 16) := by decide
      replace X3 : Hid (Ar wr (w.heap.size + 1 + 1 + 1) 17 T) := X3.out.congr fun i hi => less17 T TS.out.1 i hi
      have LF := LS.out wr
      have TT : Hid (∀ W, Below wr.heap.size wr W → W.there (w.heap.size + 1 + 1) 0 ((row 16 G).map dI).length) := fun W hW => (X2.out.up hW X2.out.lt).there (by rw [List.length_map, List.length_map, row_length, row_length]; omega)
      have Y2 : Hid (∀ W, Below wr.heap.size wr W → Below w.heap.size w W) := fun W hW => X4.out.trans (hW.mono X4.out.size)
      clear X0 X1 X2 X4 hj hj1
      go_wp2_with (refine wpList_load_mid rfl 103 (.tmp 5) rfl (w.heap.size + 1 + 1 + 1) 0 rfl ((row 17 T).map dI) _ X3.out.all u_i17 rfl (info_row info_i17 T) ?_)
      refine LF.mono ?_
      rintro e w2 ⟨rfl, hb⟩
      have T2 : Hid _ := TT.out w2 hb
      have B2 : Hid _ := Y2.out w2 hb
      clear hb TT Y2 X3 LF
      go_wp2_with (refine wp_store_eq rfl 70 (.tmp 4) (.tmp 21) rfl (w.heap.size + 1 + 1) 0 ((row 16 G).map dI) rfl rfl T2.out (info_row info_fe G) (one_dI _) ?_)
      intro w9 hw9
      go_wp2_with fail
      refine bodyPost_ret (v := aI 16 G) ?_ rfl ⟨rfl, ?_⟩
      · rw [hw9.out]
        exact results_cell (b := w.heap.size + 1 + 1) rfl rfl (World.rangeAt_setCells_same _ _ _ _ T2.out) u_fe rfl (info_row info_fe G)
      · rw [hw9.out]
        exact below_setCells _ _ _ B2.out (by omega)
theorem plus_fe (x y : Nat) (hx : x < F.p) (hy : y < F.p) (w : World) : Calls Try.prog 88 #[fe x, fe y] w fun e w' => e = .returned (fe (F.add x y)) ∧ Below w.heap.size w w' := by
  have h := plus_core (fd x) (fd y) _ (fd (F.add x y)) (fun i _ => fd_lt x i) (fun i _ => fd_lt y i) rfl ?_ w
  · exact h
  · intro w
    have := least_fun (pl (fd x) (fd y)) (pl_Sm (fun i _ => fd_lt x i) (fun i _ => fd_lt y i)) w
    rw [pl_sum, sm_top hx, sm_top hy] at this
    exact this
set_option maxRecDepth 20000 in
set_option maxHeartbeats 1000000 in
theorem less_core (a b T G : Nat → Nat) (ha : ∀ i, i < 16 → a i < 65536) (hb : ∀ i, i < 16 → b i < 65536) (hT : T = mi a b) (LS : Hid (∀ w, Calls Try.prog 83 #[aI 17 T] w fun e w' => e = .returned (aI 16 G) ∧ Below w.heap.size w w')) (w : World) : Calls Try.prog 81 #[aI 16 a, aI 16 b] w fun e w' => e = .returned (aI 16 G) ∧ Below w.heap.size w w' := by
  have AB : Hid (∀ j, j < 16 → a j < 65536) := ha
  have TS : Hid (T 16 = 0 ∧ ∀ j, j < 16 → IntKind.i64.wrap (((a j : Nat) : Int) + ((4 * mo j : Nat) : Int) - ((b j : Nat) : Int)) = ((T j : Nat) : Int)) := by
    rw [hT]
    refine ⟨rfl, fun j hj => ?_⟩
    have h1 := mi_at (a := a) hb hj
    have := ha j hj; have := hb j hj
    have := mo_lt j
    rw [IntKind.wrap_i64]
    omega
  clear ha hb hT
  obtain ⟨x0, x1, x2, x3, x4⟩ := al4 w ((row 16 a).map dI).toArray ((row 16 b).map dI).toArray #[Value.int IntKind.i64 0, Value.int IntKind.i64 0, Value.int IntKind.i64 0, Value.int IntKind.i64 0, Value.int IntKind.i64 0, Value.int IntKind.i64 0, Value.int IntKind.i64 0, Value.int IntKind.i64 0, Value.int IntKind.i64 0, Value.int IntKind.i64 0, Value.int IntKind.i64 0, Value.int IntKind.i64 0, Value.int IntKind.i64 0, Value.int IntKind.i64 0, Value.int IntKind.i64 0, Value.int IntKind.i64 0] #[Value.int IntKind.i64 0, Value.int IntKind.i64 0, Value.int IntKind.i64 0, Value.int IntKind.i64 0, Value.int IntKind.i64 0, Value.int IntKind.i64 0, Value.int IntKind.i64 0, Value.int IntKind.i64 0, Value.int IntKind.i64 0, Value.int IntKind.i64 0, Value.int IntKind.i64 0, Value.int IntKind.i64 0, Value.int IntKind.i64 0, Value.int IntKind.i64 0, Value.int IntKind.i64 0, Value.int IntKind.i64 0, Value.int IntKind.i64 0] 70 70 70 103
  have X0 : Hid (Ar _ w.heap.size 16 a) := x0
  have X1 : Hid (Ar _ (w.heap.size + 1) 16 b) := x1
  have X2 : Hid (Ar _ (w.heap.size + 1 + 1) 16 z0) := x2
  have X3 : Hid (Ar _ (w.heap.size + 1 + 1 + 1) 17 z0) := x3
  have X4 : Hid (Below w.heap.size w _) := x4
  clear x0 x1 x2 x3 x4
  go_enter Try.func81, Try.ntmps81
  go_wp2_with (first | simp only [zero_fe] | simp only [zero_i17])
  try rw [show Try.zeroCells70 = #[Value.int IntKind.i64 0, Value.int IntKind.i64 0, Value.int IntKind.i64 0, Value.int IntKind.i64 0, Value.int IntKind.i64 0, Value.int IntKind.i64 0, Value.int IntKind.i64 0, Value.int IntKind.i64 0, Value.int IntKind.i64 0, Value.int IntKind.i64 0, Value.int IntKind.i64 0, Value.int IntKind.i64 0, Value.int IntKind.i64 0, Value.int IntKind.i64 0, Value.int IntKind.i64 0, Value.int IntKind.i64 0] from rfl]
  try rw [show Try.zeroCells103 = #[Value.int IntKind.i64 0, Value.int IntKind.i64 0, Value.int IntKind.i64 0, Value.int IntKind.i64 0, Value.int IntKind.i64 0, Value.int IntKind.i64 0, Value.int IntKind.i64 0, Value.int IntKind.i64 0, Value.int IntKind.i64 0, Value.int IntKind.i64 0, Value.int IntKind.i64 0, Value.int IntKind.i64 0, Value.int IntKind.i64 0, Value.int IntKind.i64 0, Value.int IntKind.i64 0, Value.int IntKind.i64 0, Value.int IntKind.i64 0] from rfl]
  generalize World.alloc (World.alloc (World.alloc (w.alloc _) _) _) _ = w1 at *
  go_loopw [8] (fun i wr => ∃ j : Nat, j ≤ 16 ∧ i = .int .i64 (j : Int) ∧ Hid (Ar wr w.heap.size 16 a) ∧ Hid (Ar wr (w.heap.size + 1) 16 b) ∧ Hid (Ar wr (w.heap.size + 1 + 1) 16 z0) ∧ Hid (Ar wr (w.heap.size + 1 + 1 + 1) 17 (less T j)) ∧ Hid (Below w.heap.size w wr)) (fun i _ => 16 - (intOf i).toNat)
  case atStart => exact ⟨0, by omega, rfl, X0, X1, X2, X3.out.congr fun i _ => less_zero T i, X4⟩
  case round =>
    clear X0 X1 X2 X3 X4
    obtain ⟨j, hj, rfl, X0, X1, X2, X3, X4⟩ := hrel
    by_cases hj1 : j < 16
    · have j1 : (j : Int) < 16 := by omega
      have j2 : (j : Int) < 17 := by omega
      have wj : IntKind.i64.wrap ((j : Int) + 1) = (j : Int) + 1 := by rw [IntKind.wrap_i64]; omega
      have J1 : Hid (j < 16) := hj1
      have c0 : Hid (∀ W, Below wr.heap.size wr W → W.cell? ⟨w.heap.size, j, none⟩ = some (dI (a j))) := fun W hW => Ar.at (X0.out.up hW X0.out.lt) J1.out
      have c1 : Hid (∀ W, Below wr.heap.size wr W → W.cell? ⟨w.heap.size + 1, j, none⟩ = some (dI (b j))) := fun W hW => Ar.at (X1.out.up hW X1.out.lt) J1.out
      clear hj hj1
      by_cases h0 : j = 0
      · subst h0
        have hmo : ((4 * mo 0 : Nat) : Int) = 262068 := rfl
        have xe := TS.out.2 0 J1.out
        rw [hmo] at xe
        have xe1 : IntKind.i64.wrap (((a 0 : Nat) : Int) + 262068) = ((a 0 : Nat) : Int) + 262068 := by have := AB.out 0 J1.out; rw [IntKind.wrap_i64]; omega
        clear hmo
        go_wp2_with fail
        refine wp_region_monoSE 11 [MP.eq (.int .i64 ((0 : Nat) : Int)), MP.eq (.int .i64 ((0 : Nat) : Int)), MP.eq (.pointer (some ⟨w.heap.size, 0, none⟩)), MP.eq (dI (a 0)), MP.eq (.int .i64 262068), MP.eq (.int .i64 (((a 0 : Nat) : Int) + 262068)), MP.eq (.int .i64 ((0 : Nat) : Int)), MP.eq (.pointer (some ⟨w.heap.size + 1, 0, none⟩)), MP.eq (dI (b 0)), MP.eq (dI (T 0)), MP.eq (.pointer (some ⟨w.heap.size + 1 + 1 + 1, 0, none⟩))] (by kernel_rfl) (by kernel_rfl) rfl (by decide) (by kernel_rfl) ?_
        apply Exists.intro
        refine ⟨fun vals => ?_, ?_, fun vals4 w4 hb4 hF hO => ?_⟩
        · simp only [putsV, dstL, List.length_cons, List.length_nil, Nat.zero_add, Nat.reduceAdd, List.getElem?_cons_zero, List.getElem?_cons_succ, Option.bind_some, Act.put, List.setIfInBounds_toArray, List.set_cons_succ, List.set_cons_zero]
          rfl
        · refine ⟨?_, ?_, ?_, ?_, ?_, ?_, ?_, ?_, ?_, ?_, ?_, trivial⟩
          · intro vals W hW hw hd
            try simp [Region.binds] at hd
            refine ⟨by first | rfl | simp [Region.wanted, yielded, hd], ?_⟩
            simp [go_sem, hd]
            exact Below.refl _ _
          · intro vals W hW hw hd
            try simp [Region.binds] at hd
            refine ⟨by first | rfl | simp [Region.wanted, yielded, hd], ?_⟩
            simp [go_sem, hd]
            exact Below.refl _ _
          · intro vals W hW hw hd
            try simp [Region.binds] at hd
            refine ⟨by first | rfl | simp [Region.wanted, yielded, hd], ?_⟩
            simp [go_sem, hd, j1]
            exact Below.refl _ _
          · intro vals W hW hw hd
            try simp [Region.binds] at hd
            refine ⟨by first | rfl | simp [Region.wanted, yielded, hd], ?_⟩
            have cc := c0.out W hW.out
            simp [go_sem, hd, cc]
            exact Below.refl _ _
          · intro vals W hW hw hd
            try simp [Region.binds] at hd
            refine ⟨by first | rfl | simp [Region.wanted, yielded, hd], ?_⟩
            simp [go_sem, hd]
            exact Below.refl _ _
          · intro vals W hW hw hd
            try simp [Region.binds] at hd
            refine ⟨by first | rfl | simp [Region.wanted, yielded, hd], ?_⟩
            simp [go_sem, hd, xe1]
            exact Below.refl _ _
          · intro vals W hW hw hd
            try simp [Region.binds] at hd
            refine ⟨by first | rfl | simp [Region.wanted, yielded, hd], ?_⟩
            simp [go_sem, hd]
            exact Below.refl _ _
          · intro vals W hW hw hd
            try simp [Region.binds] at hd
            refine ⟨by first | rfl | simp [Region.wanted, yielded, hd], ?_⟩
            simp [go_sem, hd, j1]
            exact Below.refl _ _
          · intro vals W hW hw hd
            try simp [Region.binds] at hd
            refine ⟨by first | rfl | simp [Region.wanted, yielded, hd], ?_⟩
            have cc := c1.out W hW.out
            simp [go_sem, hd, cc]
            exact Below.refl _ _
          · intro vals W hW hw hd
            try simp [Region.binds] at hd
            refine ⟨by first | rfl | simp [Region.wanted, yielded, hd], ?_⟩
            simp [go_sem, hd, xe]
            exact Below.refl _ _
          · intro vals W hW hw hd
            try simp [Region.binds] at hd
            refine ⟨by first | rfl | simp [Region.wanted, yielded, hd], ?_⟩
            simp [go_sem, hd, j2]
            exact Below.refl _ _
        obtain ⟨f0, f1, f2, f3, f4, f5, f6, f7, f8, f9, f10, _⟩ := hF
        simp only [MP.eq_p] at f0 f1 f2 f3 f4 f5 f6 f7 f8 f9 f10
        rw [f0, f1, f2, f3, f4, f5, f6, f7, f8, f9, f10]
        simp only [List.drop_succ_cons, List.drop_zero]
        have Y0 : Hid (Ar w4 w.heap.size 16 a) := X0.out.up hb4.out X0.out.lt
        have Y1 : Hid (Ar w4 (w.heap.size + 1) 16 b) := X1.out.up hb4.out X1.out.lt
        have Y2 : Hid (Ar w4 (w.heap.size + 1 + 1) 16 z0) := X2.out.up hb4.out X2.out.lt
        have Y3 : Hid (Ar w4 (w.heap.size + 1 + 1 + 1) 17 (less T 0)) := X3.out.up hb4.out X3.out.lt
        have Y4 : Hid (Below w.heap.size w w4) := X4.out.trans (hb4.out.mono X4.out.size)
        have c4 := Y3.out.at (j := 0) (by have := J1.out; omega)
        have z4 := Y3.out.fz 0
        have V0 : Hid _ := Y0.out.apart1 (k' := w.heap.size + 1 + 1 + 1) (o := 0) (v := dI (T 0)) (by omega)
        have V1 : Hid _ := Y1.out.apart1 (k' := w.heap.size + 1 + 1 + 1) (o := 0) (v := dI (T 0)) (by omega)
        have V2 : Hid _ := Y2.out.apart1 (k' := w.heap.size + 1 + 1 + 1) (o := 0) (v := dI (T 0)) (by omega)
        have V3 : Hid (Ar (w4.setCell ⟨w.heap.size + 1 + 1 + 1, 0, none⟩ (dI (T 0))) (w.heap.size + 1 + 1 + 1) 17 (less T (0 + 1))) := (Y3.out.set (by have := J1.out; omega) (T 0)).congr fun i _ => less_step T 0 i
        have V4 : Hid _ := Y4.out.setCell (p := ⟨w.heap.size + 1 + 1 + 1, 0, none⟩) (show w.heap.size ≤ w.heap.size + 1 + 1 + 1 by omega) (dI (T 0))
        generalize less T 0 0 = lv at *
        generalize T 0 = tv at *
        clear f0 f1 f2 f3 f4 f5 f6 f7 f8 f9 f10 hb4 hO X0 X1 X2 X3 X4 c0 c1 Y0 Y1 Y2 Y3 Y4 xe xe1
        go_wp2_with fail
        go_roundw
        case rel => exact ⟨0 + 1, J1.out, by first | rfl | go_num, V0, V1, V2, V3, V4⟩
        case measure => have := J1.out; simp [intOf] <;> omega
      · by_cases h15 : j = 15
        · subst h15
          have hmo : ((4 * mo 15 : Nat) : Int) = 131068 := rfl
          clear h0
          have xe := TS.out.2 15 J1.out
          rw [hmo] at xe
          have xe1 : IntKind.i64.wrap (((a 15 : Nat) : Int) + 131068) = ((a 15 : Nat) : Int) + 131068 := by have := AB.out 15 J1.out; rw [IntKind.wrap_i64]; omega
          clear hmo
          go_wp2_with fail
          refine wp_region_monoSE 11 [MP.eq (.int .i64 ((15 : Nat) : Int)), MP.eq (.int .i64 ((15 : Nat) : Int)), MP.eq (.pointer (some ⟨w.heap.size, 15, none⟩)), MP.eq (dI (a 15)), MP.eq (.int .i64 131068), MP.eq (.int .i64 (((a 15 : Nat) : Int) + 131068)), MP.eq (.int .i64 ((15 : Nat) : Int)), MP.eq (.pointer (some ⟨w.heap.size + 1, 15, none⟩)), MP.eq (dI (b 15)), MP.eq (dI (T 15)), MP.eq (.pointer (some ⟨w.heap.size + 1 + 1 + 1, 15, none⟩))] (by kernel_rfl) (by kernel_rfl) rfl (by decide) (by kernel_rfl) ?_
          apply Exists.intro
          refine ⟨fun vals => ?_, ?_, fun vals4 w4 hb4 hF hO => ?_⟩
          · simp only [putsV, dstL, List.length_cons, List.length_nil, Nat.zero_add, Nat.reduceAdd, List.getElem?_cons_zero, List.getElem?_cons_succ, Option.bind_some, Act.put, List.setIfInBounds_toArray, List.set_cons_succ, List.set_cons_zero]
            rfl
          · refine ⟨?_, ?_, ?_, ?_, ?_, ?_, ?_, ?_, ?_, ?_, ?_, trivial⟩
            · intro vals W hW hw hd
              try simp [Region.binds] at hd
              refine ⟨by first | rfl | simp [Region.wanted, yielded, hd], ?_⟩
              simp [go_sem, hd]
              exact Below.refl _ _
            · intro vals W hW hw hd
              try simp [Region.binds] at hd
              refine ⟨by first | rfl | simp [Region.wanted, yielded, hd], ?_⟩
              simp [go_sem, hd]
              exact Below.refl _ _
            · intro vals W hW hw hd
              try simp [Region.binds] at hd
              refine ⟨by first | rfl | simp [Region.wanted, yielded, hd], ?_⟩
              simp [go_sem, hd, j1]
              exact Below.refl _ _
            · intro vals W hW hw hd
              try simp [Region.binds] at hd
              refine ⟨by first | rfl | simp [Region.wanted, yielded, hd], ?_⟩
              have cc := c0.out W hW.out
              simp [go_sem, hd, cc]
              exact Below.refl _ _
            · intro vals W hW hw hd
              try simp [Region.binds] at hd
              refine ⟨by first | rfl | simp [Region.wanted, yielded, hd], ?_⟩
              simp [go_sem, hd]
              exact Below.refl _ _
            · intro vals W hW hw hd
              try simp [Region.binds] at hd
              refine ⟨by first | rfl | simp [Region.wanted, yielded, hd], ?_⟩
              simp [go_sem, hd, xe1]
              exact Below.refl _ _
            · intro vals W hW hw hd
              try simp [Region.binds] at hd
              refine ⟨by first | rfl | simp [Region.wanted, yielded, hd], ?_⟩
              simp [go_sem, hd]
              exact Below.refl _ _
            · intro vals W hW hw hd
              try simp [Region.binds] at hd
              refine ⟨by first | rfl | simp [Region.wanted, yielded, hd], ?_⟩
              simp [go_sem, hd, j1]
              exact Below.refl _ _
            · intro vals W hW hw hd
              try simp [Region.binds] at hd
              refine ⟨by first | rfl | simp [Region.wanted, yielded, hd], ?_⟩
              have cc := c1.out W hW.out
              simp [go_sem, hd, cc]
              exact Below.refl _ _
            · intro vals W hW hw hd
              try simp [Region.binds] at hd
              refine ⟨by first | rfl | simp [Region.wanted, yielded, hd], ?_⟩
              simp [go_sem, hd, xe]
              exact Below.refl _ _
            · intro vals W hW hw hd
              try simp [Region.binds] at hd
              refine ⟨by first | rfl | simp [Region.wanted, yielded, hd], ?_⟩
              simp [go_sem, hd, j2]
              exact Below.refl _ _
          obtain ⟨f0, f1, f2, f3, f4, f5, f6, f7, f8, f9, f10, _⟩ := hF
          simp only [MP.eq_p] at f0 f1 f2 f3 f4 f5 f6 f7 f8 f9 f10
          rw [f0, f1, f2, f3, f4, f5, f6, f7, f8, f9, f10]
          simp only [List.drop_succ_cons, List.drop_zero]
          have Y0 : Hid (Ar w4 w.heap.size 16 a) := X0.out.up hb4.out X0.out.lt
          have Y1 : Hid (Ar w4 (w.heap.size + 1) 16 b) := X1.out.up hb4.out X1.out.lt
          have Y2 : Hid (Ar w4 (w.heap.size + 1 + 1) 16 z0) := X2.out.up hb4.out X2.out.lt
          have Y3 : Hid (Ar w4 (w.heap.size + 1 + 1 + 1) 17 (less T 15)) := X3.out.up hb4.out X3.out.lt
          have Y4 : Hid (Below w.heap.size w w4) := X4.out.trans (hb4.out.mono X4.out.size)
          have c4 := Y3.out.at (j := 15) (by have := J1.out; omega)
          have z4 := Y3.out.fz 15
          have V0 : Hid _ := Y0.out.apart1 (k' := w.heap.size + 1 + 1 + 1) (o := 15) (v := dI (T 15)) (by omega)
          have V1 : Hid _ := Y1.out.apart1 (k' := w.heap.size + 1 + 1 + 1) (o := 15) (v := dI (T 15)) (by omega)
          have V2 : Hid _ := Y2.out.apart1 (k' := w.heap.size + 1 + 1 + 1) (o := 15) (v := dI (T 15)) (by omega)
          have V3 : Hid (Ar (w4.setCell ⟨w.heap.size + 1 + 1 + 1, 15, none⟩ (dI (T 15))) (w.heap.size + 1 + 1 + 1) 17 (less T (15 + 1))) := (Y3.out.set (by have := J1.out; omega) (T 15)).congr fun i _ => less_step T 15 i
          have V4 : Hid _ := Y4.out.setCell (p := ⟨w.heap.size + 1 + 1 + 1, 15, none⟩) (show w.heap.size ≤ w.heap.size + 1 + 1 + 1 by omega) (dI (T 15))
          generalize less T 15 15 = lv at *
          generalize T 15 = tv at *
          clear f0 f1 f2 f3 f4 f5 f6 f7 f8 f9 f10 hb4 hO X0 X1 X2 X3 X4 c0 c1 Y0 Y1 Y2 Y3 Y4 xe xe1
          go_wp2_with fail
          go_roundw
          case rel => exact ⟨15 + 1, J1.out, by first | rfl | go_num, V0, V1, V2, V3, V4⟩
          case measure => have := J1.out; simp [intOf] <;> omega
        · have j0 : ((j : Int) == 0) = false := by simp; omega
          have j15 : ((j : Int) == 15) = false := by simp; omega
          have hmo : ((4 * mo j : Nat) : Int) = 262140 := by unfold mo; rw [if_neg h0, if_neg h15]; rfl
          clear h0 h15
          have xe := TS.out.2 j J1.out
          rw [hmo] at xe
          have xe1 : IntKind.i64.wrap (((a j : Nat) : Int) + 262140) = ((a j : Nat) : Int) + 262140 := by have := AB.out j J1.out; rw [IntKind.wrap_i64]; omega
          clear hmo
          go_wp2_with fail
          refine wp_region_monoSE 11 [MP.eq (.int .i64 ((j : Nat) : Int)), MP.eq (.int .i64 ((j : Nat) : Int)), MP.eq (.pointer (some ⟨w.heap.size, j, none⟩)), MP.eq (dI (a j)), MP.eq (.int .i64 262140), MP.eq (.int .i64 (((a j : Nat) : Int) + 262140)), MP.eq (.int .i64 ((j : Nat) : Int)), MP.eq (.pointer (some ⟨w.heap.size + 1, j, none⟩)), MP.eq (dI (b j)), MP.eq (dI (T j)), MP.eq (.pointer (some ⟨w.heap.size + 1 + 1 + 1, j, none⟩))] (by kernel_rfl) (by kernel_rfl) rfl (by decide) (by kernel_rfl) ?_
          apply Exists.intro
          refine ⟨fun vals => ?_, ?_, fun vals4 w4 hb4 hF hO => ?_⟩
          · simp only [putsV, dstL, List.length_cons, List.length_nil, Nat.zero_add, Nat.reduceAdd, List.getElem?_cons_zero, List.getElem?_cons_succ, Option.bind_some, Act.put, List.setIfInBounds_toArray, List.set_cons_succ, List.set_cons_zero]
            rfl
          · refine ⟨?_, ?_, ?_, ?_, ?_, ?_, ?_, ?_, ?_, ?_, ?_, trivial⟩
            · intro vals W hW hw hd
              try simp [Region.binds] at hd
              refine ⟨by first | rfl | simp [Region.wanted, yielded, hd], ?_⟩
              simp [go_sem, hd]
              exact Below.refl _ _
            · intro vals W hW hw hd
              try simp [Region.binds] at hd
              refine ⟨by first | rfl | simp [Region.wanted, yielded, hd], ?_⟩
              simp [go_sem, hd]
              exact Below.refl _ _
            · intro vals W hW hw hd
              try simp [Region.binds] at hd
              refine ⟨by first | rfl | simp [Region.wanted, yielded, hd], ?_⟩
              simp [go_sem, hd, j1]
              exact Below.refl _ _
            · intro vals W hW hw hd
              try simp [Region.binds] at hd
              refine ⟨by first | rfl | simp [Region.wanted, yielded, hd], ?_⟩
              have cc := c0.out W hW.out
              simp [go_sem, hd, cc]
              exact Below.refl _ _
            · intro vals W hW hw hd
              try simp [Region.binds] at hd
              refine ⟨by first | rfl | simp [Region.wanted, yielded, hd], ?_⟩
              simp [go_sem, hd]
              exact Below.refl _ _
            · intro vals W hW hw hd
              try simp [Region.binds] at hd
              refine ⟨by first | rfl | simp [Region.wanted, yielded, hd], ?_⟩
              simp [go_sem, hd, xe1]
              exact Below.refl _ _
            · intro vals W hW hw hd
              try simp [Region.binds] at hd
              refine ⟨by first | rfl | simp [Region.wanted, yielded, hd], ?_⟩
              simp [go_sem, hd]
              exact Below.refl _ _
            · intro vals W hW hw hd
              try simp [Region.binds] at hd
              refine ⟨by first | rfl | simp [Region.wanted, yielded, hd], ?_⟩
              simp [go_sem, hd, j1]
              exact Below.refl _ _
            · intro vals W hW hw hd
              try simp [Region.binds] at hd
              refine ⟨by first | rfl | simp [Region.wanted, yielded, hd], ?_⟩
              have cc := c1.out W hW.out
              simp [go_sem, hd, cc]
              exact Below.refl _ _
            · intro vals W hW hw hd
              try simp [Region.binds] at hd
              refine ⟨by first | rfl | simp [Region.wanted, yielded, hd], ?_⟩
              simp [go_sem, hd, xe]
              exact Below.refl _ _
            · intro vals W hW hw hd
              try simp [Region.binds] at hd
              refine ⟨by first | rfl | simp [Region.wanted, yielded, hd], ?_⟩
              simp [go_sem, hd, j2]
              exact Below.refl _ _
          obtain ⟨f0, f1, f2, f3, f4, f5, f6, f7, f8, f9, f10, _⟩ := hF
          simp only [MP.eq_p] at f0 f1 f2 f3 f4 f5 f6 f7 f8 f9 f10
          rw [f0, f1, f2, f3, f4, f5, f6, f7, f8, f9, f10]
          simp only [List.drop_succ_cons, List.drop_zero]
          have Y0 : Hid (Ar w4 w.heap.size 16 a) := X0.out.up hb4.out X0.out.lt
          have Y1 : Hid (Ar w4 (w.heap.size + 1) 16 b) := X1.out.up hb4.out X1.out.lt
          have Y2 : Hid (Ar w4 (w.heap.size + 1 + 1) 16 z0) := X2.out.up hb4.out X2.out.lt
          have Y3 : Hid (Ar w4 (w.heap.size + 1 + 1 + 1) 17 (less T j)) := X3.out.up hb4.out X3.out.lt
          have Y4 : Hid (Below w.heap.size w w4) := X4.out.trans (hb4.out.mono X4.out.size)
          have c4 := Y3.out.at (j := j) (by have := J1.out; omega)
          have z4 := Y3.out.fz j
          have V0 : Hid _ := Y0.out.apart1 (k' := w.heap.size + 1 + 1 + 1) (o := j) (v := dI (T j)) (by omega)
          have V1 : Hid _ := Y1.out.apart1 (k' := w.heap.size + 1 + 1 + 1) (o := j) (v := dI (T j)) (by omega)
          have V2 : Hid _ := Y2.out.apart1 (k' := w.heap.size + 1 + 1 + 1) (o := j) (v := dI (T j)) (by omega)
          have V3 : Hid (Ar (w4.setCell ⟨w.heap.size + 1 + 1 + 1, j, none⟩ (dI (T j))) (w.heap.size + 1 + 1 + 1) 17 (less T (j + 1))) := (Y3.out.set (by have := J1.out; omega) (T j)).congr fun i _ => less_step T j i
          have V4 : Hid _ := Y4.out.setCell (p := ⟨w.heap.size + 1 + 1 + 1, j, none⟩) (show w.heap.size ≤ w.heap.size + 1 + 1 + 1 by omega) (dI (T j))
          generalize less T j j = lv at *
          generalize T j = tv at *
          clear f0 f1 f2 f3 f4 f5 f6 f7 f8 f9 f10 hb4 hO X0 X1 X2 X3 X4 c0 c1 Y0 Y1 Y2 Y3 Y4 xe xe1
          go_wp2_with fail
          go_roundw
          case rel => exact ⟨j + 1, J1.out, by first | rfl | go_num, V0, V1, V2, V3, V4⟩
          case measure => have := J1.out; simp [intOf] <;> omega
    · obtain rfl : j = 16 := by omega
      have j16 : ¬ (((16 : Nat) : Int) < 16) := by decide
      replace X3 : Hid (Ar wr (w.heap.size + 1 + 1 + 1) 17 T) := X3.out.congr fun i hi => less17 T TS.out.1 i hi
      have LF := LS.out wr
      have TT : Hid (∀ W, Below wr.heap.size wr W → W.there (w.heap.size + 1 + 1) 0 ((row 16 G).map dI).length) := fun W hW => (X2.out.up hW X2.out.lt).there (by rw [List.length_map, List.length_map, row_length, row_length]; omega)
      have Y2 : Hid (∀ W, Below wr.heap.size wr W → Below w.heap.size w W) := fun W hW => X4.out.trans (hW.mono X4.out.size)
      clear X0 X1 X2 X4 hj hj1
      go_wp2_with (refine wpList_load_mid rfl 103 (.tmp 5) rfl (w.heap.size + 1 + 1 + 1) 0 rfl ((row 17 T).map dI) _ X3.out.all u_i17 rfl (info_row info_i17 T) ?_)
      refine LF.mono ?_
      rintro e w2 ⟨rfl, hb⟩
      have T2 : Hid _ := TT.out w2 hb
      have B2 : Hid _ := Y2.out w2 hb
      clear hb TT Y2 X3 LF
      go_wp2_with (refine wp_store_eq rfl 70 (.tmp 4) (.tmp 28) rfl (w.heap.size + 1 + 1) 0 ((row 16 G).map dI) rfl rfl T2.out (info_row info_fe G) (one_dI _) ?_)
      intro w9 hw9
      go_wp2_with fail
      refine bodyPost_ret (v := aI 16 G) ?_ rfl ⟨rfl, ?_⟩
      · rw [hw9.out]
        exact results_cell (b := w.heap.size + 1 + 1) rfl rfl (World.rangeAt_setCells_same _ _ _ _ T2.out) u_fe rfl (info_row info_fe G)
      · rw [hw9.out]
        exact below_setCells _ _ _ B2.out (by omega)
theorem less_fe (x y : Nat) (hx : x < F.p) (hy : y < F.p) (w : World) : Calls Try.prog 81 #[fe x, fe y] w fun e w' => e = .returned (fe (F.sub x y)) ∧ Below w.heap.size w w' := by
  have h := less_core (fd x) (fd y) _ (fd (F.sub x y)) (fun i _ => fd_lt x i) (fun i _ => fd_lt y i) rfl ?_ w
  · exact h
  · intro w
    have := least_fun (mi (fd x) (fd y)) (mi_Sm (fun i _ => fd_lt x i)) w
    have e := mi_sum (a := fd x) (b := fd y) (fun i _ => fd_lt y i)
    rw [sm_top hx, sm_top hy] at e
    have e2 : sm (mi (fd x) (fd y)) 17 % F.p = F.sub x y := by
      unfold F.sub
      rw [Nat.mod_eq_of_lt hy, show sm (mi (fd x) (fd y)) 17 = (x + (F.p - y)) + F.p * 3 by omega, Nat.add_mul_mod_self_left]
    rw [e2] at this
    exact this
end Go.Proofs.Ytpnfopakkaoibaa.I
