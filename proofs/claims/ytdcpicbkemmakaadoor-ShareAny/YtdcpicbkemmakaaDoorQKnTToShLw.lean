/- Texts that were joined: KnT, ShLw. -/
import Derived.Test.YtdcpicbkemmakaaDoorQFMathToOfB
import Derived.Test.YtdcpicbkemmakaaDoorQDDigPToDrawCB
import Derived.Test.YtdcpicbkemmakaaDoorQGArrToShD
import Derived.Test.YtdcpicbkemmakaaDoorQShLToShPs
import Derived.Test.YtdcpicbkemmakaaDoorQKnEToShPl
/- Pairs of the document's numbers modulo P among the known blocks. -/
namespace Go.Proofs.YtdcpicbkemmakaaDoor
open Go.RowKit
set_option linter.unusedSimpArgs false
theorem results_rows2 {P : Program} {fn : Func} {tmps : Array Value} {s s2 : Tmp} {t t2 : TypeId} {b b2 : Nat} {cs cs2 : List Value} {d d2 : TypeDesc} {W : World} (hr : fn.results = #[.cell s t, .cell s2 t2]) (ht : tmps[s]?.getD undef = .pointer (some ⟨b, 0, none⟩)) (ht2 : tmps[s2]?.getD undef = .pointer (some ⟨b2, 0, none⟩)) (hc : W.rangeAt b 0 cs) (hc2 : W.rangeAt b2 0 cs2)
    (hu : P.underlying t = some d) (hd : d.isRow = true) (hi : (P.info? t).map (·.size) = some cs.length) (hu2 : P.underlying t2 = some d2) (hd2 : d2.isRow = true) (hi2 : (P.info? t2).map (·.size) = some cs2.length) : (results fn tmps).run P W = .ok (.tuple #[.agg cs.toArray, .agg cs2.toArray]) W := by
  have h1 := run_loadVar_mid (P := P) W b 0 t cs d hc hu hd hi
  have h2 := run_loadVar_mid (P := P) W b2 0 t2 cs2 d2 hc2 hu2 hd2 hi2
  simp [results, hr, ht, ht2, asAddr, h1, h2]
/-- A slice of one word that has been made. -/
def MP.v1 (x : Int) : MP := ⟨fun v w => ∃ g, v = .slice (some ⟨g, 0, none⟩) 1 1 ∧ KBlk w g [.int .u64 x], fun ⟨g, e, hb⟩ hk => ⟨g, e, hb.up hk⟩⟩
end Go.Proofs.YtdcpicbkemmakaaDoor

/- Package share, as it landed: weight's walk. -/
namespace Go.Proofs.YtdcpicbkemmakaaDoor
open Go.RowKit
attribute [local go_sem] World.cell?_alloc_some cell_alloc2 cell_alloc3 cell_alloc4 frozen?_alloc_cells frozen_out
set_option linter.unusedSimpArgs false
set_option maxRecDepth 20000 in
set_option maxHeartbeats 4000000 in
theorem weight_walk (n b o cp i : Nat) (x : Int) (hi : i < n) (n20 : n ≤ 20) (X : Nat → Int) (ys O V dO dV : Nat → Nm) (O0 : O 0 = smN 1) (V0 : V 0 = smN 1) (w : World)
    (CR : Hid (∀ W, Below w.heap.size w W → ∀ i, i < n → W.rangeAt b (o + i * 5) (shC ⟨X i, ys i⟩)))
    (OE : Hid (O (i + 1) = O i)) (VE : Hid (V (i + 1) = V i))
    (DO : Hid (∀ j, j < n → j ≠ i → ∀ W, Calls Tryd.prog 58 #[.int .i64 x, .int .i64 (X j)] W fun e w' => e = .returned (N (dO j)) ∧ Below W.heap.size W w'))
    (DV : Hid (∀ j, j < n → j ≠ i → ∀ W, Calls Tryd.prog 58 #[.int .i64 (X i), .int .i64 (X j)] W fun e w' => e = .returned (N (dV j)) ∧ Below W.heap.size W w'))
    (MO : Hid (∀ j, j < n → j ≠ i → ∀ W, Calls Tryd.prog 19 #[N (O j), N (dO j)] W fun e w' => e = .returned (N (O (j + 1))) ∧ Below W.heap.size W w'))
    (MV : Hid (∀ j, j < n → j ≠ i → ∀ W, Calls Tryd.prog 19 #[N (V j), N (dV j)] W fun e w' => e = .returned (N (V (j + 1))) ∧ Below W.heap.size W w')) :
    Calls Tryd.prog 38 #[.slice (some ⟨b, o, none⟩) n cp, .int .i64 (i : Int), .int .i64 x] w fun e w' => e = .returned (.tuple #[N (O n), N (V n)]) ∧ Below w.heap.size w w' := by
  have N20 : Hid (i < n ∧ n ≤ 20) := ⟨hi, n20⟩
  have n1 : ∀ W, Calls Tryd.prog 37 #[.int .i64 1] W fun e w' => e = .returned (N (smN 1)) ∧ Below W.heap.size W w' := number_is 1 (by decide)
  rw [← O0] at n1
  have eV : V 0 = O 0 := by rw [O0, V0]
  clear hi n20 O0 V0
  go_enter Tryd.func38, Tryd.ntmps38
  have s0 : Hid (Kn (kz4 (kz4 w)) [(w.heap.size + 1, zz4), (w.heap.size, zz4)]) := (((Kn.nil w).al zz4 24 rfl).al zz4 24 (by simp))
  have b0 : Hid (Below w.heap.size w (kz4 (kz4 w))) := (((Below.refl _ _).alloc (Nat.le_refl _) _).alloc (by simp <;> omega) _)
  go_wp2_with fail
  refine (n1 _).mono ?_
  rintro e w1 ⟨rfl, hb1⟩
  have s1 : Hid (Kn w1 [(w.heap.size + 1, zz4), (w.heap.size, zz4)]) := s0.out.up hb1
  have b1 : Hid (Below w.heap.size w w1) := b0.out.trans (hb1.mono b0.out.size)
  have z1 := b1.out.size
  clear hb1 s0 b0
  go_wp2_with fail
  refine (n1 _).mono ?_
  rintro e w2 ⟨rfl, hb2⟩
  have s2 : Hid (Kn w2 [(w.heap.size + 1, zz4), (w.heap.size, zz4)]) := s1.out.up hb2
  have b2 : Hid (Below w.heap.size w w2) := b1.out.trans (hb2.mono b1.out.size)
  have z2 := b2.out.size
  clear hb2 s1 b1
  have s3 : Hid (Kn (kal4 w2 (O 0)) [(w2.heap.size, (c4 (O 0))), (w.heap.size + 1, zz4), (w.heap.size, zz4)]) := s2.out.al (c4 (O 0)) 24 rfl
  have b3 : Hid (Below w.heap.size w (kal4 w2 (O 0))) := b2.out.alloc b2.out.size _
  have z3 := b2.out.size
  clear s2 b2
  have s4 : Hid (Kn (kal4 (kal4 w2 (O 0)) (O 0)) [(w2.heap.size + 1, (c4 (O 0))), (w2.heap.size, (c4 (O 0))), (w.heap.size + 1, zz4), (w.heap.size, zz4)]) := s3.out.al (c4 (O 0)) 24 (by simp)
  have b4 : Hid (Below w.heap.size w (kal4 (kal4 w2 (O 0)) (O 0))) := b3.out.alloc b3.out.size _
  have z4 := b3.out.size
  clear s3 b3
  go_wp2_with fail
  have zk := z2
  clear z1 z2 z3 z4
  go_loopw [16] (fun t wr => ∃ j : Nat, j ≤ n ∧ t = .int .i64 (j : Int) ∧ Hid (Kn wr [(w2.heap.size + 1, c4 (V j)), (w2.heap.size, c4 (O j)), (w.heap.size + 1, zz4), (w.heap.size, zz4)]) ∧ Hid (Below w.heap.size w wr)) (fun t _ => n - (intOf t).toNat)
  case atStart => exact ⟨0, Nat.zero_le _, rfl, by rw [eV]; exact s4, b4⟩
  case round =>
    clear s4 b4 eV
    obtain ⟨j, hj, rfl, sk, bk⟩ := hrel
    by_cases hlt : j < n
    · have j1 : (j : Int) < (n : Int) := by omega
      have j0 : (0 : Int) ≤ (j : Int) := by omega
      have j20 : (j : Int) < 20 := by have := N20.out; omega
      have HJ : Hid (j < n) := hlt
      clear hlt hj
      have c2 : Hid (wr.rangeAt b (o + j * 5) (shC ⟨X j, ys j⟩)) := CR.out _ bk.out j HJ.out
      have c3 : Hid ((wr.alloc (.cells shZ.toArray 38)).rangeAt b (o + j * 5) (shC ⟨X j, ys j⟩)) := CR.out _ (bk.out.alloc bk.out.size _) j HJ.out
      have kn := sk.out.al (shC ⟨X j, ys j⟩) 38 rfl
      have s5 : Hid (Kn (wr.alloc (.cells #[.int .i64 (X j), .int .u64 (ys j).a, .int .u64 (ys j).b, .int .u64 (ys j).c, .int .u64 (ys j).d] 38)) [(wr.heap.size, shC ⟨X j, ys j⟩), (w2.heap.size + 1, c4 (V j)), (w2.heap.size, c4 (O j)), (w.heap.size + 1, zz4), (w.heap.size, zz4)]) := kn
      have b5 : Hid (Below w.heap.size w (wr.alloc (.cells #[.int .i64 (X j), .int .u64 (ys j).a, .int .u64 (ys j).b, .int .u64 (ys j).c, .int .u64 (ys j).d] 38))) := bk.out.alloc bk.out.size _
      clear kn
      by_cases hji : j = i
      · have e1 : ((j : Int) != (i : Int)) = false := by rw [hji]; simp
        have sE : Hid (Kn wr [(w2.heap.size + 1, c4 (V (j + 1))), (w2.heap.size, c4 (O (j + 1))), (w.heap.size + 1, zz4), (w.heap.size, zz4)]) := by rw [hji, VE.out, OE.out, ← hji]; exact sk
        have s6 : Hid (Kn (wr.alloc (.cells #[.int .i64 (X j), .int .u64 (ys j).a, .int .u64 (ys j).b, .int .u64 (ys j).c, .int .u64 (ys j).d] 38)) [(w2.heap.size + 1, c4 (V (j + 1))), (w2.heap.size, c4 (O (j + 1))), (w.heap.size + 1, zz4), (w.heap.size, zz4)]) := sE.out.up ((Below.refl _ _).alloc (Nat.le_refl _) _)
        clear hji s5 sk sE bk
        go_wp2_with (first | simp only [zero_share] | refine wp_ldW rfl 38 _ rfl b (o + j * 5) rfl [.int .i64 (X j), .int .u64 (ys j).a, .int .u64 (ys j).b, .int .u64 (ys j).c, .int .u64 (ys j).d] _ (by first | exact c2.out | exact c3.out) u_share rfl (info_share ⟨X j, ys j⟩) ?_)
        go_roundw
        case rel => exact ⟨j + 1, HJ.out, by go_num, s6, b5⟩
        case measure => simp [intOf]; have := HJ.out; omega
      · have e1 : ((j : Int) != (i : Int)) = true := bne_iff_ne.2 (by omega)
        have T1 := DO.out j HJ.out hji
        have T2 := MO.out j HJ.out hji
        have T3 := DV.out j HJ.out hji
        have T4 := MV.out j HJ.out hji
        clear hji sk bk DO MO DV MV
        have i1 : (i : Int) < (n : Int) := by have := N20.out.1; omega
        have i0 : (0 : Int) ≤ (i : Int) := by omega
        go_wp2_with (first | simp only [zero_share] | refine wp_ldW rfl 38 _ rfl b (o + j * 5) rfl [.int .i64 (X j), .int .u64 (ys j).a, .int .u64 (ys j).b, .int .u64 (ys j).c, .int .u64 (ys j).d] _ (by first | exact c2.out | exact c3.out) u_share rfl (info_share ⟨X j, ys j⟩) ?_)
        clear c2 c3
        refine wp_region_up_then 6 (by kernel_rfl) (by kernel_rfl) (by kernel_rfl) (by kernel_rfl) (by decide) (fun _ _ d _ _ h => by cases d <;> exact h) (fun U hU f hf hcl => ?_)
        have uover_0 := fun nx => (Kn.get (s5.out.up (hf nx).out) 2 0 rfl rfl : (f nx).cell? ⟨w2.heap.size, 0, none⟩ = some (.int .u64 (O j).a))
        have uover_1 := fun nx => (Kn.get (s5.out.up (hf nx).out) 2 1 rfl rfl : (f nx).cell? ⟨w2.heap.size, 1, none⟩ = some (.int .u64 (O j).b))
        have uover_2 := fun nx => (Kn.get (s5.out.up (hf nx).out) 2 2 rfl rfl : (f nx).cell? ⟨w2.heap.size, 2, none⟩ = some (.int .u64 (O j).c))
        have uover_3 := fun nx => (Kn.get (s5.out.up (hf nx).out) 2 3 rfl rfl : (f nx).cell? ⟨w2.heap.size, 3, none⟩ = some (.int .u64 (O j).d))
        have ux := fun nx => (Kn.get (s5.out.up (hf nx).out) 0 0 rfl rfl : (f nx).cell? ⟨wr.heap.size, 0, none⟩ = some (.int .i64 (X j)))
        simp only [List.take_succ_cons, List.take_zero, List.drop_succ_cons, List.drop_zero]
        repeat (go_big_quiet_step (first | (go_at_call 58; exact (T1 _).mono fun e w'' ⟨he, hb⟩ => ⟨he, hcl.out _ _ hb⟩) | (go_at_call 19; exact (T2 _).mono fun e w'' ⟨he, hb⟩ => ⟨he, hcl.out _ _ hb⟩)))
        refine wpQuiet_nil ?_
        intro nx
        have hb6 := (hf nx).out
        clear hf hcl uover_0 uover_1 uover_2 uover_3
        generalize f nx = w6 at hb6 ⊢
        have s6 : Hid (Kn w6 [(wr.heap.size, (shC ⟨X j, ys j⟩)), (w2.heap.size + 1, (c4 (V j))), (w2.heap.size, (c4 (O j))), (w.heap.size + 1, zz4), (w.heap.size, zz4)]) := s5.out.up hb6
        have b6 : Hid (Below w.heap.size w w6) := b5.out.trans (hb6.mono b5.out.size)
        have z6 := b6.out.size
        clear hb6 s5 b5
        have uovero_0 : w6.cell? ⟨w2.heap.size, 0, none⟩ = some (.int .u64 (O j).a) := Kn.get s6.out 2 0 rfl rfl
        have uovero_1 : w6.cell? ⟨w2.heap.size, 1, none⟩ = some (.int .u64 (O j).b) := Kn.get s6.out 2 1 rfl rfl
        have uovero_2 : w6.cell? ⟨w2.heap.size, 2, none⟩ = some (.int .u64 (O j).c) := Kn.get s6.out 2 2 rfl rfl
        have uovero_3 : w6.cell? ⟨w2.heap.size, 3, none⟩ = some (.int .u64 (O j).d) := Kn.get s6.out 2 3 rfl rfl
        have uovero_z : ∀ j, w6.frozen? ⟨w2.heap.size, j, none⟩ = false := Kn.fz s6.out 2 rfl
        have s7 : Hid (Kn (st4 w6 (w2.heap.size) (O (j + 1))) [(w2.heap.size, (c4 (O (j + 1)))), (wr.heap.size, (shC ⟨X j, ys j⟩)), (w2.heap.size + 1, (c4 (V j))), (w.heap.size + 1, zz4), (w.heap.size, zz4)]) := Kn.st4 (L := [(wr.heap.size, (shC ⟨X j, ys j⟩)), (w2.heap.size + 1, (c4 (V j))), (w.heap.size + 1, zz4), (w.heap.size, zz4)]) (s6.out.front 2 rfl) (O (j + 1))
        have b7 : Hid (Below w.heap.size w (st4 w6 (w2.heap.size) (O (j + 1)))) := below_st4 b6.out (by omega)
        clear s6 b6
        go_wp2_with fail
        clear uovero_0 uovero_1 uovero_2 uovero_3 uovero_z
        refine wp_region_up_then 10 (by kernel_rfl) (by kernel_rfl) (by kernel_rfl) (by kernel_rfl) (by decide) (fun _ _ d _ _ h => by cases d <;> exact h) (fun U hU f hf hcl => ?_)
        have uunder_0 := fun nx => (Kn.get (s7.out.up (hf nx).out) 2 0 rfl rfl : (f nx).cell? ⟨w2.heap.size + 1, 0, none⟩ = some (.int .u64 (V j).a))
        have uunder_1 := fun nx => (Kn.get (s7.out.up (hf nx).out) 2 1 rfl rfl : (f nx).cell? ⟨w2.heap.size + 1, 1, none⟩ = some (.int .u64 (V j).b))
        have uunder_2 := fun nx => (Kn.get (s7.out.up (hf nx).out) 2 2 rfl rfl : (f nx).cell? ⟨w2.heap.size + 1, 2, none⟩ = some (.int .u64 (V j).c))
        have uunder_3 := fun nx => (Kn.get (s7.out.up (hf nx).out) 2 3 rfl rfl : (f nx).cell? ⟨w2.heap.size + 1, 3, none⟩ = some (.int .u64 (V j).d))
        have ux := fun nx => (Kn.get (s7.out.up (hf nx).out) 1 0 rfl rfl : (f nx).cell? ⟨wr.heap.size, 0, none⟩ = some (.int .i64 (X j)))
        have cr : ∀ nx, (f nx).cell? ⟨b, o + i * 5, none⟩ = some (.int .i64 (X i)) := fun nx => (CR.out _ (b7.out.trans ((hf nx).out.mono b7.out.size)) i N20.out.1) 0 _ rfl
        simp only [List.take_succ_cons, List.take_zero, List.drop_succ_cons, List.drop_zero]
        repeat (go_big_quiet_step (first | (go_at_call 58; exact (T3 _).mono fun e w'' ⟨he, hb⟩ => ⟨he, hcl.out _ _ hb⟩) | (go_at_call 19; exact (T4 _).mono fun e w'' ⟨he, hb⟩ => ⟨he, hcl.out _ _ hb⟩)))
        refine wpQuiet_nil ?_
        intro nx
        have hb8 := (hf nx).out
        clear hf hcl uunder_0 uunder_1 uunder_2 uunder_3
        generalize f nx = w8 at hb8 ⊢
        have s8 : Hid (Kn w8 [(w2.heap.size, (c4 (O (j + 1)))), (wr.heap.size, (shC ⟨X j, ys j⟩)), (w2.heap.size + 1, (c4 (V j))), (w.heap.size + 1, zz4), (w.heap.size, zz4)]) := s7.out.up hb8
        have b8 : Hid (Below w.heap.size w w8) := b7.out.trans (hb8.mono b7.out.size)
        have z8 := b8.out.size
        clear hb8 s7 b7
        have uundero_0 : w8.cell? ⟨w2.heap.size + 1, 0, none⟩ = some (.int .u64 (V j).a) := Kn.get s8.out 2 0 rfl rfl
        have uundero_1 : w8.cell? ⟨w2.heap.size + 1, 1, none⟩ = some (.int .u64 (V j).b) := Kn.get s8.out 2 1 rfl rfl
        have uundero_2 : w8.cell? ⟨w2.heap.size + 1, 2, none⟩ = some (.int .u64 (V j).c) := Kn.get s8.out 2 2 rfl rfl
        have uundero_3 : w8.cell? ⟨w2.heap.size + 1, 3, none⟩ = some (.int .u64 (V j).d) := Kn.get s8.out 2 3 rfl rfl
        have uundero_z : ∀ j, w8.frozen? ⟨w2.heap.size + 1, j, none⟩ = false := Kn.fz s8.out 2 rfl
        have s9 : Hid (Kn (st4 w8 (w2.heap.size + 1) (V (j + 1))) [(w2.heap.size + 1, (c4 (V (j + 1)))), (w2.heap.size, (c4 (O (j + 1)))), (wr.heap.size, (shC ⟨X j, ys j⟩)), (w.heap.size + 1, zz4), (w.heap.size, zz4)]) := Kn.st4 (L := [(w2.heap.size, (c4 (O (j + 1)))), (wr.heap.size, (shC ⟨X j, ys j⟩)), (w.heap.size + 1, zz4), (w.heap.size, zz4)]) (s8.out.front 2 rfl) (V (j + 1))
        have b9 : Hid (Below w.heap.size w (st4 w8 (w2.heap.size + 1) (V (j + 1)))) := below_st4 b8.out (by omega)
        clear s8 b8
        replace s9 : Hid (Kn (st4 w8 (w2.heap.size + 1) (V (j + 1))) [(w2.heap.size + 1, (c4 (V (j + 1)))), (w2.heap.size, (c4 (O (j + 1)))), (w.heap.size + 1, zz4), (w.heap.size, zz4)]) := s9.out.drop 2
        replace s9 : Hid (Kn (st4 w8 (w2.heap.size + 1) (V (j + 1))) [(w.heap.size, zz4), (w2.heap.size + 1, (c4 (V (j + 1)))), (w2.heap.size, (c4 (O (j + 1)))), (w.heap.size + 1, zz4)]) := s9.out.front 3 rfl
        replace s9 : Hid (Kn (st4 w8 (w2.heap.size + 1) (V (j + 1))) [(w.heap.size + 1, zz4), (w.heap.size, zz4), (w2.heap.size + 1, (c4 (V (j + 1)))), (w2.heap.size, (c4 (O (j + 1))))]) := s9.out.front 3 rfl
        replace s9 : Hid (Kn (st4 w8 (w2.heap.size + 1) (V (j + 1))) [(w2.heap.size, (c4 (O (j + 1)))), (w.heap.size + 1, zz4), (w.heap.size, zz4), (w2.heap.size + 1, (c4 (V (j + 1))))]) := s9.out.front 3 rfl
        replace s9 : Hid (Kn (st4 w8 (w2.heap.size + 1) (V (j + 1))) [(w2.heap.size + 1, (c4 (V (j + 1)))), (w2.heap.size, (c4 (O (j + 1)))), (w.heap.size + 1, zz4), (w.heap.size, zz4)]) := s9.out.front 3 rfl
        go_wp2_with fail
        clear uundero_0 uundero_1 uundero_2 uundero_3 uundero_z
        go_roundw
        case rel => exact ⟨j + 1, HJ.out, by go_num, s9, b9⟩
        case measure => simp [intOf]; have := HJ.out; omega
    · have j1 : ¬ (j : Int) < (n : Int) := by omega
      have ej : j = n := by omega
      have s5 : Hid (Kn wr [(w2.heap.size + 1, c4 (V n)), (w2.heap.size, c4 (O n)), (w.heap.size + 1, zz4), (w.heap.size, zz4)]) := by rw [← ej]; exact sk
      have b5 := bk
      clear hlt hj ej sk bk
      go_wp2_with fail
      have G5 : Hid _ := s5
      have N1 := s5.out.ne 0 3 rfl rfl (by decide)
      have N2 := s5.out.ne 0 2 rfl rfl (by decide)
      refine wp_region_ret2E 2 [1] [MP.eq (N (O n)), MP.eq (N (V n))] _ _ 24 24 (.tmp 6) (.tmp 41) (.tmp 7) (.tmp 42) w.heap.size (w.heap.size + 1) (c4 (O n)) (c4 (V n)) (by kernel_rfl) (by kernel_rfl) rfl (by decide) (by kernel_rfl) (by kernel_rfl) (by kernel_rfl) (fun _ _ d _ _ h => by cases d <;> exact h) rfl rfl ⟨rfl, rfl, rfl, rfl, rfl, rfl, info_c4 (O n), info_c4 (V n), c4_one (O n), c4_one (V n)⟩ (by omega) ?_
      apply Exists.intro
      refine ⟨fun vals => ?_, ?_, ?_, fun vals6 w6 hb6 hF hO => ?_⟩
      · simp only [putsV, dstL, List.length_cons, List.length_nil, Nat.zero_add, Nat.reduceAdd, List.getElem?_cons_zero, List.getElem?_cons_succ, Option.bind_some, Act.put, List.setIfInBounds_toArray, List.set_cons_succ, List.set_cons_zero]
        rfl
      · refine ⟨?_, ?_, trivial⟩
        · intro vals W hW hw hd
          try simp [Region.binds] at hd
          refine ⟨by first | rfl | simp [Region.wanted, yielded, hd], ?_⟩
          exact I.yields_ld 24 (.tmp 8) rfl w2.heap.size 0 rfl (c4 (O n)) _ (Kn.rng (G5.out.up hW.out) 1 rfl) Tryd.underlying24 rfl (info_c4 (O n)) rfl
        · intro vals W hW hw hd
          try simp [Region.binds] at hd
          refine ⟨by first | rfl | simp [Region.wanted, yielded, hd], ?_⟩
          exact I.yields_ld 24 (.tmp 9) rfl (w2.heap.size + 1) 0 rfl (c4 (V n)) _ (Kn.rng (G5.out.up hW.out) 0 rfl) Tryd.underlying24 rfl (info_c4 (V n)) rfl
      · intro f hf of hof
        simp only [List.mem_cons, List.not_mem_nil, or_false] at hf
        rcases hf with rfl
        · obtain rfl := Option.some.inj hof
          refine ⟨N (V n), rfl, fun vals W hW hd => ?_⟩
          try simp [Region.binds] at hd
          exact yieldsIf_load_mid rfl 24 (.tmp 9) rfl (w2.heap.size + 1) 0 rfl (c4 (V n)) _ (fun W2 h2 => h2.rng (Kn.rng G5.out 0 rfl) N1 N2 (G5.out.all (w2.heap.size + 1, c4 (V n)) (by simp)).lt) Tryd.underlying24 rfl (info_c4 (V n))
      obtain ⟨f0, f1, _⟩ := hF
      simp only [MP.eq_p] at f0 f1
      refine ⟨⟨rfl, f0, rfl, f1, Kn.there (s5.out.up hb6.out) 3 rfl (by rw [c4_length, zz4_length]), Kn.there (s5.out.up hb6.out) 2 rfl (by rw [c4_length, zz4_length])⟩, fun w7 hw7 => ?_⟩
      have s7 : Hid (Kn w7 [(w.heap.size + 1, c4 (V n)), (w.heap.size, c4 (O n)), (w2.heap.size + 1, c4 (V n)), (w2.heap.size, c4 (O n))]) := by
        rw [hw7.out]
        exact Kn.put ((Kn.put ((s5.out.up hb6.out).front 3 rfl) (by rw [c4_length, zz4_length])).front 3 rfl) (by rw [c4_length, zz4_length])
      have b7 : Hid (Below w.heap.size w w7) := by
        rw [hw7.out]
        exact I.below_setCells _ _ _ (I.below_setCells _ _ _ (b5.out.trans (hb6.out.mono b5.out.size)) (by omega)) (by omega)
      clear hw7 s5 b5 G5 hb6 hO f0 f1 N1 N2
      go_wp2_with fail
      exact bodyPost_ret (v := .tuple #[N (O n), N (V n)]) (results_rows2 (b := w.heap.size) (b2 := w.heap.size + 1) rfl rfl rfl (Kn.rng s7.out 1 rfl) (Kn.rng s7.out 0 rfl) Tryd.underlying24 rfl (info_c4 (O n)) Tryd.underlying24 rfl (info_c4 (V n))) rfl ⟨rfl, b7.out⟩
end Go.Proofs.YtdcpicbkemmakaaDoor
