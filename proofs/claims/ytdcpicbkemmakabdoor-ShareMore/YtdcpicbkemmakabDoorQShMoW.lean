/- ShareMore's walk (written by mkmore.py). -/
import Derived.Test.YtdcpicbkemmakabDoorQShLgToShMo
import Derived.Test.YtdcpicbkemmakabDoorQUpGToUpZe
import Derived.Test.YtdcpicbkemmakabDoorQUpVToShR
namespace Go.Proofs.YtdcpicbkemmakabDoor
open Go.RowKit
attribute [local go_sem] World.cell?_alloc_some cell_alloc2 cell_alloc3 cell_alloc4 frozen?_alloc_cells frozen_out
attribute [local simp] MP.eq_p
set_option linter.unusedSimpArgs false
theorem cfClM (args : Array Value) (W : World) : (callFunc 6 args).run Tryd.prog W = .ok (.enter 6 args) W := cf_is (fn := Tryd.f6) (by kernel_rfl) (by decide) (by kernel_rfl) args W
theorem cfAtM (args : Array Value) (W : World) : (callFunc 5 args).run Tryd.prog W = .ok (.enter 5 args) W := cf_is (fn := Tryd.f5) (by kernel_rfl) (by decide) (by kernel_rfl) args W
theorem exec_buM {o : Oper} {a : Act} (x y : Operand) (ho : o.op = .build 28 #[(0, x), (1, y)]) (X : Int) (Y : Nm) (hx : a.eval x = .int .i64 X) (hy : a.eval y = N Y) (w : World) : (execOp a.eval o).run Tryd.prog w = .ok (.value (.agg #[.int .i64 X, .int .u64 Y.a, .int .u64 Y.b, .int .u64 Y.c, .int .u64 Y.d])) w := by
  have hb : Tryd.prog.built 28 [(0, .int .i64 X), (1, N Y)] = some #[.int .i64 X, .int .u64 Y.a, .int .u64 Y.b, .int .u64 Y.c, .int .u64 Y.d] := by kernel_rfl
  have e : (Instr.build 28 ((#[(0, x), (1, y)] : Array (Nat × Operand)).map fun q => (q.fst, a.eval q.snd))).run Tryd.prog w = .ok (.agg #[.int .i64 X, .int .u64 Y.a, .int .u64 Y.b, .int .u64 Y.c, .int .u64 Y.d]) w := run_build w 28 _ _ (by simpa [hx, hy] using hb)
  simp only [execOp, ho, Sem.run_bind, e, Result.andThen_ok, Sem.run_pure]
theorem yields_mkM {o : Oper} {a : Act} {w : World} {B : Nat} {T : TypeId} {zs : List Value} (ho : o.op = .alloc T) (hz : ∀ w, (zeroValue T).run Tryd.prog w = .ok (.agg zs.toArray) w) (hB : B ≤ w.heap.size) : YieldsP Tryd.prog o a w (fun v W => ∃ g, v = .pointer (some ⟨g, 0, none⟩) ∧ B ≤ g ∧ W.heap[g]? = some (.cells zs.toArray T)) := by
  unfold YieldsP
  rw [run_mk ho hz a w]
  exact ⟨⟨_, rfl, hB, heap_alloc_new w _⟩, (Below.refl _ _).alloc (Nat.le_refl _) _⟩
/-- A number's variable stays where a row of shares is appended to. -/
theorem kept_num {w w' : World} {row : Option Nat} (hg : w.grownBy w' row) (hr : ∀ g, row = some g → ∃ cur fz, w.heap[g]? = some (.cells cur 28 fz)) {g : Nat} {C : Array Value} (h : w.heap[g]? = some (.cells C 26)) : w'.heap[g]? = some (.cells C 26) := by
  have hne : some g ≠ row := fun e => by
    obtain ⟨cur', fz', hg'⟩ := hr g e.symm
    rw [h] at hg'
    cases hg'
  exact (hg.block g (Array.getElem?_eq_some_iff.1 h).1 hne).trans h
set_option maxRecDepth 20000 in
set_option maxHeartbeats 16000000 in
theorem more_walk (n : Nat) (n1 : 0 < n) (h5 : n ≤ 5) (b o cp : Nat) (x t E F : Int) (a y : Nm) (Sx : Nat → Int) (ys : Nat → Nm) (t1 : ¬ t < 1) (t2 : ¬ t > 255) (l : List Shr) (hl : l.length = n) (w : World)
    (HV : Hid (Shs w (.slice (some ⟨b, o, none⟩) n cp) l))
    (CR : Hid (∀ W, Below w.heap.size w W → ∀ i, i < n → W.rangeAt b (o + i * 5) (shC ⟨Sx i, ys i⟩)))
    (AL : ∀ W, Below w.heap.size w W → Calls Tryd.prog 4 #[] W fun e w' => e = .returned (.bool true) ∧ Below W.heap.size W w')
    (A1 : ∀ W, Shs W (.slice (some ⟨b, o, none⟩) n cp) l → Calls Tryd.prog 5 #[.slice (some ⟨b, o, none⟩) n cp, .int .i64 x] W fun e w' => e = .returned (.tuple #[N a, .int .i64 E]) ∧ Below W.heap.size W w')
    (A2 : ∀ W, Shs W (.slice (some ⟨b, o, none⟩) n cp) l → Calls Tryd.prog 5 #[.slice (some ⟨b, o, none⟩) n cp, .int .i64 t] W fun e w' => e = .returned (.tuple #[N y, .int .i64 F]) ∧ Below W.heap.size W w')
    (ea : ∀ w, (binOp .eql 26 (N a) (N a)).run Tryd.prog w = .ok (.bool true) w)
    (ALT : Hid ((∀ i, i < n → Sx i ≠ t) → (E != 0) = true ∨ (E = 0 ∧ F = 0 ∧ ∀ W v, Shs W v (l ++ [⟨t, y⟩]) → Calls Tryd.prog 5 #[v, .int .i64 x] W fun e w' => e = .returned (.tuple #[N a, .int .i64 0]) ∧ Below W.heap.size W w'))) :
    Calls Tryd.prog 3 #[.slice (some ⟨b, o, none⟩) n cp, .int .i64 x, .int .i64 t] w fun e w' => e = .returned (.bool true) ∧ Below w.heap.size w w' := by
  have g5 : ¬ (n : Int) > 5 := by omega
  have LL : Hid (l.length = n ∧ n ≤ 5) := ⟨hl, h5⟩
  clear hl h5 n1
  go_enter Tryd.func3, Tryd.ntmps3
  have s0 : Hid (Kn w []) := (Kn.nil w)
  have b0 : Hid (Below w.heap.size w w) := (Below.refl _ _)
  go_wp2_with fail
  refine (AL _ b0.out).mono ?_
  rintro e w1 ⟨rfl, hb1⟩
  have s1 : Hid (Kn w1 []) := s0.out.up hb1
  have b1 : Hid (Below w.heap.size w w1) := b0.out.trans (hb1.mono b0.out.size)
  have z1 := b1.out.size
  clear hb1 s0 b0
  go_wp2_with fail
  clear g5 t1 t2 AL
  go_loopw [30] (fun i wr => ∃ m : Nat, m ≤ n ∧ i = .int .i64 (m : Int) ∧ Hid (∀ i, i < m → Sx i ≠ t) ∧ Hid (Below w.heap.size w wr)) (fun i _ => n - (intOf i).toNat)
  case atStart => exact ⟨0, Nat.zero_le _, rfl, fun i hi => absurd hi (Nat.not_lt_zero _), b1⟩
  clear s1 b1
  obtain ⟨m, hm, rfl, gm, bm⟩ := hrel
  by_cases hl2 : m < n
  · have m1 : (m : Int) < (n : Int) := by omega
    have m0 : (0 : Int) ≤ (m : Int) := by omega
    have HM : Hid (m < n) := hl2
    have c2 : Hid (wr.rangeAt b (o + m * 5) (shC ⟨Sx m, ys m⟩)) := CR.out _ bm.out m hl2
    have c3 : Hid ((wr.alloc (.cells shZ.toArray 28)).rangeAt b (o + m * 5) (shC ⟨Sx m, ys m⟩)) := CR.out _ (bm.out.alloc bm.out.size _) m hl2
    have b6 : Hid (Below w.heap.size w (wr.alloc (.cells #[.int .i64 (Sx m), .int .u64 (ys m).a, .int .u64 (ys m).b, .int .u64 (ys m).c, .int .u64 (ys m).d] 28))) := bm.out.alloc bm.out.size _
    clear hl2 hm bm ALT A1 A2
    by_cases hx : Sx m = t
    · have hx' : (Sx m == t) = true := beq_iff_eq.2 hx
      clear hx
      go_wp2_with (first | simp only [zero_share] | refine wp_ldW rfl 28 _ rfl b (o + m * 5) rfl [.int .i64 (Sx m), .int .u64 (ys m).a, .int .u64 (ys m).b, .int .u64 (ys m).c, .int .u64 (ys m).d] _ (by first | exact c2.out | exact c3.out) u_share rfl (info_share ⟨Sx m, ys m⟩) ?_)
      go_ret
      exact ⟨rfl, b6.out⟩
    · have hx' : (Sx m == t) = false := beq_eq_false_iff_ne.2 hx
      have gm' : Hid (∀ i, i < m + 1 → Sx i ≠ t) := fun i hi => by
        by_cases e : i = m
        · rw [e]; exact hx
        · exact gm.out i (by omega)
      clear hx gm
      go_wp2_with (first | simp only [zero_share] | refine wp_ldW rfl 28 _ rfl b (o + m * 5) rfl [.int .i64 (Sx m), .int .u64 (ys m).a, .int .u64 (ys m).b, .int .u64 (ys m).c, .int .u64 (ys m).d] _ (by first | exact c2.out | exact c3.out) u_share rfl (info_share ⟨Sx m, ys m⟩) ?_)
      clear hx'
      go_roundw
      case rel => exact ⟨m + 1, HM.out, by go_num, gm', b6⟩
      case measure => simp [intOf]; have := HM.out; omega
  have m1 : ¬ (m : Int) < (n : Int) := by omega
  have alt := ALT.out fun i hi => gm.out i (by omega)
  have s1 : Hid (Kn wr []) := Kn.nil wr
  have b1 : Hid (Below w.heap.size w wr) := bm
  clear gm bm ALT hm hl2 CR
  rcases alt with hE | ⟨rfl, rfl, A3⟩
  · skip
    go_wp2_with fail
    refine (A1 _ (HV.out.up b1.out)).mono ?_
    rintro e w2 ⟨rfl, hb2⟩
    have s2 : Hid (Kn w2 []) := s1.out.up hb2
    have b2 : Hid (Below w.heap.size w w2) := b1.out.trans (hb2.mono b1.out.size)
    have z2 := b2.out.size
    clear hb2 s1 b1
    have s3 : Hid (Kn (kal4 w2 (a)) [(w2.heap.size, (c4 (a)))]) := s2.out.al (c4 (a)) 26 rfl
    have b3 : Hid (Below w.heap.size w (kal4 w2 (a))) := b2.out.alloc b2.out.size _
    have z3 := b2.out.size
    clear s2 b2
    go_wp2_with fail
    refine (A2 _ (HV.out.up b3.out)).mono ?_
    rintro e w4 ⟨rfl, hb4⟩
    have s4 : Hid (Kn w4 [(w2.heap.size, (c4 (a)))]) := s3.out.up hb4
    have b4 : Hid (Below w.heap.size w w4) := b3.out.trans (hb4.mono b3.out.size)
    have z4 := b4.out.size
    clear hb4 s3 b3
    have s5 : Hid (Kn (kal4 w4 (y)) [(w4.heap.size, (c4 (y))), (w2.heap.size, (c4 (a)))]) := s4.out.al (c4 (y)) 26 rfl
    have b5 : Hid (Below w.heap.size w (kal4 w4 (y))) := b4.out.alloc b4.out.size _
    have z5 := b4.out.size
    clear s4 b4
    go_wp2_with fail
    go_ret
    exact ⟨rfl, b5.out⟩
  go_wp2_with fail
  refine (A1 _ (HV.out.up b1.out)).mono ?_
  rintro e w2 ⟨rfl, hb2⟩
  have s2 : Hid (Kn w2 []) := s1.out.up hb2
  have b2 : Hid (Below w.heap.size w w2) := b1.out.trans (hb2.mono b1.out.size)
  have z2 := b2.out.size
  clear hb2 s1 b1
  have s3 : Hid (Kn (kal4 w2 (a)) [(w2.heap.size, (c4 (a)))]) := s2.out.al (c4 (a)) 26 rfl
  have b3 : Hid (Below w.heap.size w (kal4 w2 (a))) := b2.out.alloc b2.out.size _
  have z3 := b2.out.size
  clear s2 b2
  go_wp2_with fail
  refine (A2 _ (HV.out.up b3.out)).mono ?_
  rintro e w4 ⟨rfl, hb4⟩
  have s4 : Hid (Kn w4 [(w2.heap.size, (c4 (a)))]) := s3.out.up hb4
  have b4 : Hid (Below w.heap.size w w4) := b3.out.trans (hb4.mono b3.out.size)
  have z4 := b4.out.size
  clear hb4 s3 b3
  have s5 : Hid (Kn (kal4 w4 (y)) [(w4.heap.size, (c4 (y))), (w2.heap.size, (c4 (a)))]) := s4.out.al (c4 (y)) 26 rfl
  have b5 : Hid (Below w.heap.size w (kal4 w4 (y))) := b4.out.alloc b4.out.size _
  have z5 := b4.out.size
  clear s4 b4
  go_wp2_with fail
  generalize w4.heap.size = ky at s5 ⊢
  generalize w2.heap.size = ka at s5 ⊢
  have s5 : Hid (Kn (w4.alloc (.cells #[.int .u64 y.a, .int .u64 y.b, .int .u64 y.c, .int .u64 y.d] 26)) [(ky, c4 y), (ka, c4 a)]) := s5
  have b5 : Hid (Below w.heap.size w (w4.alloc (.cells #[.int .u64 y.a, .int .u64 y.b, .int .u64 y.c, .int .u64 y.d] 26))) := b5
  generalize (w4.alloc (.cells #[.int .u64 y.a, .int .u64 y.b, .int .u64 y.c, .int .u64 y.d] 26)) = wA at s5 b5 ⊢
  have D0 : Below wA.heap.size wA { wA with drawn := wA.drawn + 1 } := (Below.refl _ _).drew
  have SW : Hid (∀ W, Below wA.heap.size wA W → W.rangeAt ky 0 (c4 y)) := fun W hW => Kn.rng (s5.out.up hW) 0 rfl
  have HV5 : Hid (∀ W, Below wA.heap.size wA W → Shs W (.slice (some ⟨b, o, none⟩) n cp) l) := fun W hW => HV.out.up (b5.out.trans (hW.mono b5.out.size))
  have CL : Hid (∀ W, Below wA.heap.size wA W → Calls Tryd.prog 6 #[.slice (some ⟨b, o, none⟩) n cp] W fun e w' => ∃ u, e = .returned u ∧ Oh w' wA.heap.size u l ∧ Below W.heap.size W w') := fun W hW => (cloneH_fun l (by have := LL.out; omega) _ _ (HV5.out _ hW)).mono fun e w' ⟨⟨v', he, hs⟩, hb⟩ => ⟨v', he, hs.mono hW.size, hb⟩
  have A4 : Hid (∀ W v, Shs W v (l ++ [⟨t, y⟩]) → Calls Tryd.prog 5 #[v, .int .i64 x] W fun e w' => ∃ u, e = .returned u ∧ (MP.eq (.tuple #[N a, .int .i64 0])).p u w' ∧ Below W.heap.size W w') := fun W v h => (A3 W v h).mono fun e w' ⟨he, hb⟩ => ⟨_, he, rfl, hb⟩
  have LZ : Hid (l.length + [(⟨t, y⟩ : Shr)].length ≤ 100000) := by show _ ≤ _; have := LL.out; simp only [List.length_cons, List.length_nil]; omega
  clear A3 A1 A2
  refine wp_region_held (S := fun W => W.rangeAt ky 0 (c4 y)) (by kernel_rfl) ?_
  refine wpAnyH_take (i := 0) (v := .slice (some ⟨b, o, none⟩) n cp) (fuel := 14) rfl (by kernel_rfl) (by kernel_rfl) (by kernel_rfl) (fun _ _ _ h => h) (Yields.yieldsIf (.inl ⟨wanted_none rfl, exec_mvM _ rfl (by kernel_rfl)⟩)) (SW.out _ (D0)) ?_
  refine wpAnyH_take (i := 2) (v := .int .i64 t) rfl (by kernel_rfl) (by kernel_rfl) (by kernel_rfl) (fun _ _ _ h => h) (Yields.yieldsIf (.inl ⟨wanted_none rfl, exec_mvM _ rfl (by kernel_rfl)⟩)) (SW.out _ (D0)) ?_
  refine wpAnyH_take (i := 3) (v := N y) rfl (by kernel_rfl) (by kernel_rfl) (by kernel_rfl) (fun _ _ _ h => h) (yieldsIf_load_mid (wanted_none rfl) 26 _ rfl ky 0 (by kernel_rfl) (c4 y) _ (fun W hW => hW) Tryd.underlying26 rfl (info_c4' y)) (SW.out _ (D0)) ?_
  refine wpAnyH_take (i := 4) (v := .agg #[.int .i64 t, .int .u64 y.a, .int .u64 y.b, .int .u64 y.c, .int .u64 y.d]) rfl (by kernel_rfl) (by kernel_rfl) (by kernel_rfl) (fun _ _ _ h => h) (Yields.yieldsIf (.inl ⟨wanted_none rfl, exec_buM (.tmp 62) (.tmp 63) rfl t y (by kernel_rfl) (by kernel_rfl)⟩)) (SW.out _ (D0)) ?_
  refine wpAnyH_take (i := 7) (v := .int .i64 x) rfl (by kernel_rfl) (by kernel_rfl) (by kernel_rfl) (fun _ _ _ h => h) (Yields.yieldsIf (.inl ⟨wanted_none rfl, exec_mvM _ rfl (by kernel_rfl)⟩)) (SW.out _ (D0)) ?_
  simp only [Act.put, List.setIfInBounds_toArray, List.set_cons_succ, List.set_cons_zero]
  refine anyH_three (i := 1) (k := 5) (m := 12) (by kernel_rfl) ?_ ?_ ?_
  · refine anyH_y (φ := fun v W => Oh W wA.heap.size v l) rfl (wanted_none rfl) (yields_call1 cfClM (.tmp 60) _ rfl (.slice (some ⟨b, o, none⟩) n cp) (by kernel_rfl) (CL.out _ D0)) ?_
    intro c1 v1w o1 hb
    have D1 : Below wA.heap.size wA v1w := (D0).trans (hb.mono (D0).size)
    refine ⟨SW.out _ D1, ?_⟩
    simp only [Act.put, List.setIfInBounds_toArray, List.set_cons_succ, List.set_cons_zero]
    refine anyH_two (i := 5) (k := 12) (by kernel_rfl) ?_ ?_
    · refine anyH_y (φ := fun v W => Shs W v [⟨t, y⟩]) rfl (wanted_none rfl) (yields_bs1 (.tmp 64) rfl ⟨t, y⟩ (by kernel_rfl)) ?_
      intro c2 v2w x2 hb
      have D2 : Below wA.heap.size wA v2w := (D1).trans (hb.mono (D1).size)
      have p2 := Oh.up o1 hb
      refine ⟨SW.out _ D2, ?_⟩
      simp only [Act.put, List.setIfInBounds_toArray, List.set_cons_succ, List.set_cons_zero]
      refine anyH_two (i := 6) (k := 12) (by kernel_rfl) ?_ ?_
      · refine anyH_l rfl (wp_appH rfl (.tmp 61) (.tmp 65) rfl wA.heap.size c1 c2 l [⟨t, y⟩] (by kernel_rfl) p2 (by kernel_rfl) x2 LZ.out (D2).size ?_)
        intro c3 v3w o3 hg
        have D3 : Below wA.heap.size wA v3w := Below.grown D2 hg (D2).size (Oh.ge p2)
        have t3 := Oh.shs o3
        refine anyH_end ⟨SW.out _ D3, ?_⟩
        simp only [Act.put, List.setIfInBounds_toArray, List.set_cons_succ, List.set_cons_zero]
        refine anyH_two (i := 8) (k := 12) (by kernel_rfl) ?_ ?_
        · refine anyH_y (φ := (MP.eq (.tuple #[N a, .int .i64 0])).p) rfl (wanted_none rfl) (yields_call2 cfAtM (.tmp 66) (.tmp 67) _ rfl c3 (.int .i64 x) (by kernel_rfl) (by kernel_rfl) (A4.out _ _ t3)) ?_
          intro c4 v4w e4 hb
          obtain rfl : c4 = .tuple #[N a, .int .i64 0] := e4
          have D4 : Below wA.heap.size wA v4w := (D3).trans (hb.mono (D3).size)
          refine ⟨SW.out _ D4, ?_⟩
          simp only [Act.put, List.setIfInBounds_toArray, List.set_cons_succ, List.set_cons_zero]
          refine wpAnyH_take (i := 9) (v := .tuple #[N a, .int .i64 0]) rfl (by kernel_rfl) (by kernel_rfl) (by kernel_rfl) (fun _ _ _ h => h) (Yields.yieldsIf (.inl ⟨wanted_none rfl, exec_mvM _ rfl (by kernel_rfl)⟩)) (SW.out _ (D4)) ?_
          refine wpAnyH_take (i := 10) (v := N a) rfl (by kernel_rfl) (by kernel_rfl) (by kernel_rfl) (fun _ _ _ h => h) (Yields.yieldsIf (.inl ⟨wanted_none rfl, exec_exM (.tmp 59) 0 rfl (vs := #[N a, .int .i64 0]) (by kernel_rfl) rfl⟩)) (SW.out _ (D4)) ?_
          refine wpAnyH_take (i := 11) (v := .int .i64 0) rfl (by kernel_rfl) (by kernel_rfl) (by kernel_rfl) (fun _ _ _ h => h) (Yields.yieldsIf (.inl ⟨wanted_none rfl, exec_exM (.tmp 59) 1 rfl (vs := #[N a, .int .i64 0]) (by kernel_rfl) rfl⟩)) (SW.out _ (D4)) ?_
          refine anyH_one (i := 12) (by kernel_rfl) ?_
          refine anyH_y (φ := fun v W => ∃ g, v = .pointer (some ⟨g, 0, none⟩) ∧ wA.heap.size ≤ g ∧ W.heap[g]? = some (.cells (c4 ⟨0, 0, 0, 0⟩).toArray 26)) rfl (wanted_none rfl) (yields_mkM rfl zero_numM (D4).size) ?_
          rintro c5 v5w ⟨g5, rfl, a5, m5⟩ hb
          have D5 : Below wA.heap.size wA v5w := (D4).trans (hb.mono (D4).size)
          refine ⟨SW.out _ D5, ?_⟩
          simp only [Act.put, List.setIfInBounds_toArray, List.set_cons_succ, List.set_cons_zero]
          refine anyH_one (i := 13) (by kernel_rfl) ?_
          have s6 : Hid (Kn v5w ((g5, c4 ⟨0, 0, 0, 0⟩) :: [(ky, c4 y), (ka, c4 a)])) := s5.out.fresh D5 a5 m5
          have B6 : Hid (Below w.heap.size w v5w) := b5.out.trans ((D5).mono b5.out.size)
          have q6 : Hid (w.heap.size ≤ g5) := Nat.le_trans b5.out.size a5
          generalize g5 = g at *
          refine anyH_l rfl (I.wp_store_eq rfl 26 (.tmp 13) (.tmp 69) rfl g 0 (c4 a) (by kernel_rfl) (by kernel_rfl) (Kn.there s6.out 0 rfl rfl) (info_c4' a) (one_c4M a) ?_)
          intro w6 hw6
          have s7 : Hid (Kn w6 [(g, c4 a), (ky, c4 y), (ka, c4 a)]) := by rw [hw6.out]; exact Kn.put s6.out rfl
          have b7 : Hid (Below w.heap.size w w6) := by rw [hw6.out]; exact I.below_setCells _ _ _ B6.out q6.out
          refine anyH_end ⟨Kn.rng s7.out 1 rfl, ?_⟩
          simp only [Act.put, List.setIfInBounds_toArray, List.set_cons_succ, List.set_cons_zero]
          refine anyH_one (i := 14) (by kernel_rfl) ?_
          refine anyH_y (φ := (MP.eq (.int .i64 0)).p) rfl (wanted_none rfl) (yields_as (.tmp 70) rfl (by kernel_rfl)) ?_
          intro cz wz ez hbz
          obtain rfl : cz = .int .i64 0 := ez
          have s8 : Hid (Kn wz [(g, c4 a), (ky, c4 y), (ka, c4 a)]) := s7.out.up hbz
          have b8 : Hid (Below w.heap.size w wz) := b7.out.trans (hbz.mono b7.out.size)
          refine ⟨Kn.rng s8.out 1 rfl, ?_⟩
          simp only [Act.put, List.setIfInBounds_toArray, List.set_cons_succ, List.set_cons_zero]
          clear hbz s7 b7 hw6
          refine wpAnyH_done (by kernel_rfl) ?_ _
          have uya_0 : wz.cell? ⟨ka, 0, none⟩ = some (.int .u64 (a).a) := Kn.get s8.out 2 0 rfl rfl
          have uya_1 : wz.cell? ⟨ka, 1, none⟩ = some (.int .u64 (a).b) := Kn.get s8.out 2 1 rfl rfl
          have uya_2 : wz.cell? ⟨ka, 2, none⟩ = some (.int .u64 (a).c) := Kn.get s8.out 2 2 rfl rfl
          have uya_3 : wz.cell? ⟨ka, 3, none⟩ = some (.int .u64 (a).d) := Kn.get s8.out 2 3 rfl rfl
          have uyc_0 : wz.cell? ⟨g, 0, none⟩ = some (.int .u64 (a).a) := Kn.get s8.out 0 0 rfl rfl
          have uyc_1 : wz.cell? ⟨g, 1, none⟩ = some (.int .u64 (a).b) := Kn.get s8.out 0 1 rfl rfl
          have uyc_2 : wz.cell? ⟨g, 2, none⟩ = some (.int .u64 (a).c) := Kn.get s8.out 0 2 rfl rfl
          have uyc_3 : wz.cell? ⟨g, 3, none⟩ = some (.int .u64 (a).d) := Kn.get s8.out 0 3 rfl rfl
          go_wp2_with fail
          clear uya_0 uya_1 uya_2 uya_3 uyc_0 uyc_1 uyc_2 uyc_3
          go_ret
          exact ⟨rfl, b8.out⟩
        · refine anyH_y (φ := fun v W => ∃ g, v = .pointer (some ⟨g, 0, none⟩) ∧ wA.heap.size ≤ g ∧ W.heap[g]? = some (.cells (c4 ⟨0, 0, 0, 0⟩).toArray 26)) rfl (wanted_none rfl) (yields_mkM rfl zero_numM (D3).size) ?_
          rintro c6 v6w ⟨g6, rfl, a6, m6⟩ hb
          have D6 : Below wA.heap.size wA v6w := (D3).trans (hb.mono (D3).size)
          have u6 := Shs.up t3 hb
          refine ⟨SW.out _ D6, ?_⟩
          simp only [Act.put, List.setIfInBounds_toArray, List.set_cons_succ, List.set_cons_zero]
          refine anyH_one (i := 8) (by kernel_rfl) ?_
          refine anyH_y (φ := (MP.eq (.tuple #[N a, .int .i64 0])).p) rfl (wanted_none rfl) (yields_call2 cfAtM (.tmp 66) (.tmp 67) _ rfl c3 (.int .i64 x) (by kernel_rfl) (by kernel_rfl) (A4.out _ _ u6)) ?_
          intro c7 v7w e7 hb
          obtain rfl : c7 = .tuple #[N a, .int .i64 0] := e7
          have D7 : Below wA.heap.size wA v7w := (D6).trans (hb.mono (D6).size)
          have n7 := (hb.block _ (Array.getElem?_eq_some_iff.1 m6).1).trans m6
          refine ⟨SW.out _ D7, ?_⟩
          simp only [Act.put, List.setIfInBounds_toArray, List.set_cons_succ, List.set_cons_zero]
          refine wpAnyH_take (i := 9) (v := .tuple #[N a, .int .i64 0]) rfl (by kernel_rfl) (by kernel_rfl) (by kernel_rfl) (fun _ _ _ h => h) (Yields.yieldsIf (.inl ⟨wanted_none rfl, exec_mvM _ rfl (by kernel_rfl)⟩)) (SW.out _ (D7)) ?_
          refine wpAnyH_take (i := 10) (v := N a) rfl (by kernel_rfl) (by kernel_rfl) (by kernel_rfl) (fun _ _ _ h => h) (Yields.yieldsIf (.inl ⟨wanted_none rfl, exec_exM (.tmp 59) 0 rfl (vs := #[N a, .int .i64 0]) (by kernel_rfl) rfl⟩)) (SW.out _ (D7)) ?_
          refine wpAnyH_take (i := 11) (v := .int .i64 0) rfl (by kernel_rfl) (by kernel_rfl) (by kernel_rfl) (fun _ _ _ h => h) (Yields.yieldsIf (.inl ⟨wanted_none rfl, exec_exM (.tmp 59) 1 rfl (vs := #[N a, .int .i64 0]) (by kernel_rfl) rfl⟩)) (SW.out _ (D7)) ?_
          refine anyH_one (i := 13) (by kernel_rfl) ?_
          have s6 : Hid (Kn v7w ((g6, c4 ⟨0, 0, 0, 0⟩) :: [(ky, c4 y), (ka, c4 a)])) := s5.out.fresh D7 a6 n7
          have B6 : Hid (Below w.heap.size w v7w) := b5.out.trans ((D7).mono b5.out.size)
          have q6 : Hid (w.heap.size ≤ g6) := Nat.le_trans b5.out.size a6
          generalize g6 = g at *
          refine anyH_l rfl (I.wp_store_eq rfl 26 (.tmp 13) (.tmp 69) rfl g 0 (c4 a) (by kernel_rfl) (by kernel_rfl) (Kn.there s6.out 0 rfl rfl) (info_c4' a) (one_c4M a) ?_)
          intro w6 hw6
          have s7 : Hid (Kn w6 [(g, c4 a), (ky, c4 y), (ka, c4 a)]) := by rw [hw6.out]; exact Kn.put s6.out rfl
          have b7 : Hid (Below w.heap.size w w6) := by rw [hw6.out]; exact I.below_setCells _ _ _ B6.out q6.out
          refine anyH_end ⟨Kn.rng s7.out 1 rfl, ?_⟩
          simp only [Act.put, List.setIfInBounds_toArray, List.set_cons_succ, List.set_cons_zero]
          refine anyH_one (i := 14) (by kernel_rfl) ?_
          refine anyH_y (φ := (MP.eq (.int .i64 0)).p) rfl (wanted_none rfl) (yields_as (.tmp 70) rfl (by kernel_rfl)) ?_
          intro cz wz ez hbz
          obtain rfl : cz = .int .i64 0 := ez
          have s8 : Hid (Kn wz [(g, c4 a), (ky, c4 y), (ka, c4 a)]) := s7.out.up hbz
          have b8 : Hid (Below w.heap.size w wz) := b7.out.trans (hbz.mono b7.out.size)
          refine ⟨Kn.rng s8.out 1 rfl, ?_⟩
          simp only [Act.put, List.setIfInBounds_toArray, List.set_cons_succ, List.set_cons_zero]
          clear hbz s7 b7 hw6
          refine wpAnyH_done (by kernel_rfl) ?_ _
          have uya_0 : wz.cell? ⟨ka, 0, none⟩ = some (.int .u64 (a).a) := Kn.get s8.out 2 0 rfl rfl
          have uya_1 : wz.cell? ⟨ka, 1, none⟩ = some (.int .u64 (a).b) := Kn.get s8.out 2 1 rfl rfl
          have uya_2 : wz.cell? ⟨ka, 2, none⟩ = some (.int .u64 (a).c) := Kn.get s8.out 2 2 rfl rfl
          have uya_3 : wz.cell? ⟨ka, 3, none⟩ = some (.int .u64 (a).d) := Kn.get s8.out 2 3 rfl rfl
          have uyc_0 : wz.cell? ⟨g, 0, none⟩ = some (.int .u64 (a).a) := Kn.get s8.out 0 0 rfl rfl
          have uyc_1 : wz.cell? ⟨g, 1, none⟩ = some (.int .u64 (a).b) := Kn.get s8.out 0 1 rfl rfl
          have uyc_2 : wz.cell? ⟨g, 2, none⟩ = some (.int .u64 (a).c) := Kn.get s8.out 0 2 rfl rfl
          have uyc_3 : wz.cell? ⟨g, 3, none⟩ = some (.int .u64 (a).d) := Kn.get s8.out 0 3 rfl rfl
          go_wp2_with fail
          clear uya_0 uya_1 uya_2 uya_3 uyc_0 uyc_1 uyc_2 uyc_3
          go_ret
          exact ⟨rfl, b8.out⟩
      · refine anyH_y (φ := fun v W => ∃ g, v = .pointer (some ⟨g, 0, none⟩) ∧ wA.heap.size ≤ g ∧ W.heap[g]? = some (.cells (c4 ⟨0, 0, 0, 0⟩).toArray 26)) rfl (wanted_none rfl) (yields_mkM rfl zero_numM (D2).size) ?_
        rintro c8 v8w ⟨g8, rfl, a8, m8⟩ hb
        have D8 : Below wA.heap.size wA v8w := (D2).trans (hb.mono (D2).size)
        have p8 := Oh.up p2 hb
        have y8 := Shs.up x2 hb
        refine ⟨SW.out _ D8, ?_⟩
        simp only [Act.put, List.setIfInBounds_toArray, List.set_cons_succ, List.set_cons_zero]
        refine anyH_one (i := 6) (by kernel_rfl) ?_
        refine anyH_l rfl (wp_appH rfl (.tmp 61) (.tmp 65) rfl wA.heap.size c1 c2 l [⟨t, y⟩] (by kernel_rfl) p8 (by kernel_rfl) y8 LZ.out (D8).size ?_)
        intro c9 v9w o9 hg
        have D9 : Below wA.heap.size wA v9w := Below.grown D8 hg (D8).size (Oh.ge p8)
        have t9 := Oh.shs o9
        have n9 := kept_num hg (Oh.tag p8) m8
        refine anyH_end ⟨SW.out _ D9, ?_⟩
        simp only [Act.put, List.setIfInBounds_toArray, List.set_cons_succ, List.set_cons_zero]
        refine anyH_one (i := 8) (by kernel_rfl) ?_
        refine anyH_y (φ := (MP.eq (.tuple #[N a, .int .i64 0])).p) rfl (wanted_none rfl) (yields_call2 cfAtM (.tmp 66) (.tmp 67) _ rfl c9 (.int .i64 x) (by kernel_rfl) (by kernel_rfl) (A4.out _ _ t9)) ?_
        intro c10 v10w e10 hb
        obtain rfl : c10 = .tuple #[N a, .int .i64 0] := e10
        have D10 : Below wA.heap.size wA v10w := (D9).trans (hb.mono (D9).size)
        have n10 := (hb.block _ (Array.getElem?_eq_some_iff.1 n9).1).trans n9
        refine ⟨SW.out _ D10, ?_⟩
        simp only [Act.put, List.setIfInBounds_toArray, List.set_cons_succ, List.set_cons_zero]
        refine wpAnyH_take (i := 9) (v := .tuple #[N a, .int .i64 0]) rfl (by kernel_rfl) (by kernel_rfl) (by kernel_rfl) (fun _ _ _ h => h) (Yields.yieldsIf (.inl ⟨wanted_none rfl, exec_mvM _ rfl (by kernel_rfl)⟩)) (SW.out _ (D10)) ?_
        refine wpAnyH_take (i := 10) (v := N a) rfl (by kernel_rfl) (by kernel_rfl) (by kernel_rfl) (fun _ _ _ h => h) (Yields.yieldsIf (.inl ⟨wanted_none rfl, exec_exM (.tmp 59) 0 rfl (vs := #[N a, .int .i64 0]) (by kernel_rfl) rfl⟩)) (SW.out _ (D10)) ?_
        refine wpAnyH_take (i := 11) (v := .int .i64 0) rfl (by kernel_rfl) (by kernel_rfl) (by kernel_rfl) (fun _ _ _ h => h) (Yields.yieldsIf (.inl ⟨wanted_none rfl, exec_exM (.tmp 59) 1 rfl (vs := #[N a, .int .i64 0]) (by kernel_rfl) rfl⟩)) (SW.out _ (D10)) ?_
        refine anyH_one (i := 13) (by kernel_rfl) ?_
        have s6 : Hid (Kn v10w ((g8, c4 ⟨0, 0, 0, 0⟩) :: [(ky, c4 y), (ka, c4 a)])) := s5.out.fresh D10 a8 n10
        have B6 : Hid (Below w.heap.size w v10w) := b5.out.trans ((D10).mono b5.out.size)
        have q6 : Hid (w.heap.size ≤ g8) := Nat.le_trans b5.out.size a8
        generalize g8 = g at *
        refine anyH_l rfl (I.wp_store_eq rfl 26 (.tmp 13) (.tmp 69) rfl g 0 (c4 a) (by kernel_rfl) (by kernel_rfl) (Kn.there s6.out 0 rfl rfl) (info_c4' a) (one_c4M a) ?_)
        intro w6 hw6
        have s7 : Hid (Kn w6 [(g, c4 a), (ky, c4 y), (ka, c4 a)]) := by rw [hw6.out]; exact Kn.put s6.out rfl
        have b7 : Hid (Below w.heap.size w w6) := by rw [hw6.out]; exact I.below_setCells _ _ _ B6.out q6.out
        refine anyH_end ⟨Kn.rng s7.out 1 rfl, ?_⟩
        simp only [Act.put, List.setIfInBounds_toArray, List.set_cons_succ, List.set_cons_zero]
        refine anyH_one (i := 14) (by kernel_rfl) ?_
        refine anyH_y (φ := (MP.eq (.int .i64 0)).p) rfl (wanted_none rfl) (yields_as (.tmp 70) rfl (by kernel_rfl)) ?_
        intro cz wz ez hbz
        obtain rfl : cz = .int .i64 0 := ez
        have s8 : Hid (Kn wz [(g, c4 a), (ky, c4 y), (ka, c4 a)]) := s7.out.up hbz
        have b8 : Hid (Below w.heap.size w wz) := b7.out.trans (hbz.mono b7.out.size)
        refine ⟨Kn.rng s8.out 1 rfl, ?_⟩
        simp only [Act.put, List.setIfInBounds_toArray, List.set_cons_succ, List.set_cons_zero]
        clear hbz s7 b7 hw6
        refine wpAnyH_done (by kernel_rfl) ?_ _
        have uya_0 : wz.cell? ⟨ka, 0, none⟩ = some (.int .u64 (a).a) := Kn.get s8.out 2 0 rfl rfl
        have uya_1 : wz.cell? ⟨ka, 1, none⟩ = some (.int .u64 (a).b) := Kn.get s8.out 2 1 rfl rfl
        have uya_2 : wz.cell? ⟨ka, 2, none⟩ = some (.int .u64 (a).c) := Kn.get s8.out 2 2 rfl rfl
        have uya_3 : wz.cell? ⟨ka, 3, none⟩ = some (.int .u64 (a).d) := Kn.get s8.out 2 3 rfl rfl
        have uyc_0 : wz.cell? ⟨g, 0, none⟩ = some (.int .u64 (a).a) := Kn.get s8.out 0 0 rfl rfl
        have uyc_1 : wz.cell? ⟨g, 1, none⟩ = some (.int .u64 (a).b) := Kn.get s8.out 0 1 rfl rfl
        have uyc_2 : wz.cell? ⟨g, 2, none⟩ = some (.int .u64 (a).c) := Kn.get s8.out 0 2 rfl rfl
        have uyc_3 : wz.cell? ⟨g, 3, none⟩ = some (.int .u64 (a).d) := Kn.get s8.out 0 3 rfl rfl
        go_wp2_with fail
        clear uya_0 uya_1 uya_2 uya_3 uyc_0 uyc_1 uyc_2 uyc_3
        go_ret
        exact ⟨rfl, b8.out⟩
    · refine anyH_y (φ := fun v W => ∃ g, v = .pointer (some ⟨g, 0, none⟩) ∧ wA.heap.size ≤ g ∧ W.heap[g]? = some (.cells (c4 ⟨0, 0, 0, 0⟩).toArray 26)) rfl (wanted_none rfl) (yields_mkM rfl zero_numM (D1).size) ?_
      rintro c11 v11w ⟨g11, rfl, a11, m11⟩ hb
      have D11 : Below wA.heap.size wA v11w := (D1).trans (hb.mono (D1).size)
      have p11 := Oh.up o1 hb
      refine ⟨SW.out _ D11, ?_⟩
      simp only [Act.put, List.setIfInBounds_toArray, List.set_cons_succ, List.set_cons_zero]
      refine anyH_one (i := 5) (by kernel_rfl) ?_
      refine anyH_y (φ := fun v W => Shs W v [⟨t, y⟩]) rfl (wanted_none rfl) (yields_bs1 (.tmp 64) rfl ⟨t, y⟩ (by kernel_rfl)) ?_
      intro c12 v12w x12 hb
      have D12 : Below wA.heap.size wA v12w := (D11).trans (hb.mono (D11).size)
      have p12 := Oh.up p11 hb
      have n12 := (hb.block _ (Array.getElem?_eq_some_iff.1 m11).1).trans m11
      refine ⟨SW.out _ D12, ?_⟩
      simp only [Act.put, List.setIfInBounds_toArray, List.set_cons_succ, List.set_cons_zero]
      refine anyH_one (i := 6) (by kernel_rfl) ?_
      refine anyH_l rfl (wp_appH rfl (.tmp 61) (.tmp 65) rfl wA.heap.size c1 c12 l [⟨t, y⟩] (by kernel_rfl) p12 (by kernel_rfl) x12 LZ.out (D12).size ?_)
      intro c13 v13w o13 hg
      have D13 : Below wA.heap.size wA v13w := Below.grown D12 hg (D12).size (Oh.ge p12)
      have t13 := Oh.shs o13
      have n13 := kept_num hg (Oh.tag p12) n12
      refine anyH_end ⟨SW.out _ D13, ?_⟩
      simp only [Act.put, List.setIfInBounds_toArray, List.set_cons_succ, List.set_cons_zero]
      refine anyH_one (i := 8) (by kernel_rfl) ?_
      refine anyH_y (φ := (MP.eq (.tuple #[N a, .int .i64 0])).p) rfl (wanted_none rfl) (yields_call2 cfAtM (.tmp 66) (.tmp 67) _ rfl c13 (.int .i64 x) (by kernel_rfl) (by kernel_rfl) (A4.out _ _ t13)) ?_
      intro c14 v14w e14 hb
      obtain rfl : c14 = .tuple #[N a, .int .i64 0] := e14
      have D14 : Below wA.heap.size wA v14w := (D13).trans (hb.mono (D13).size)
      have n14 := (hb.block _ (Array.getElem?_eq_some_iff.1 n13).1).trans n13
      refine ⟨SW.out _ D14, ?_⟩
      simp only [Act.put, List.setIfInBounds_toArray, List.set_cons_succ, List.set_cons_zero]
      refine wpAnyH_take (i := 9) (v := .tuple #[N a, .int .i64 0]) rfl (by kernel_rfl) (by kernel_rfl) (by kernel_rfl) (fun _ _ _ h => h) (Yields.yieldsIf (.inl ⟨wanted_none rfl, exec_mvM _ rfl (by kernel_rfl)⟩)) (SW.out _ (D14)) ?_
      refine wpAnyH_take (i := 10) (v := N a) rfl (by kernel_rfl) (by kernel_rfl) (by kernel_rfl) (fun _ _ _ h => h) (Yields.yieldsIf (.inl ⟨wanted_none rfl, exec_exM (.tmp 59) 0 rfl (vs := #[N a, .int .i64 0]) (by kernel_rfl) rfl⟩)) (SW.out _ (D14)) ?_
      refine wpAnyH_take (i := 11) (v := .int .i64 0) rfl (by kernel_rfl) (by kernel_rfl) (by kernel_rfl) (fun _ _ _ h => h) (Yields.yieldsIf (.inl ⟨wanted_none rfl, exec_exM (.tmp 59) 1 rfl (vs := #[N a, .int .i64 0]) (by kernel_rfl) rfl⟩)) (SW.out _ (D14)) ?_
      refine anyH_one (i := 13) (by kernel_rfl) ?_
      have s6 : Hid (Kn v14w ((g11, c4 ⟨0, 0, 0, 0⟩) :: [(ky, c4 y), (ka, c4 a)])) := s5.out.fresh D14 a11 n14
      have B6 : Hid (Below w.heap.size w v14w) := b5.out.trans ((D14).mono b5.out.size)
      have q6 : Hid (w.heap.size ≤ g11) := Nat.le_trans b5.out.size a11
      generalize g11 = g at *
      refine anyH_l rfl (I.wp_store_eq rfl 26 (.tmp 13) (.tmp 69) rfl g 0 (c4 a) (by kernel_rfl) (by kernel_rfl) (Kn.there s6.out 0 rfl rfl) (info_c4' a) (one_c4M a) ?_)
      intro w6 hw6
      have s7 : Hid (Kn w6 [(g, c4 a), (ky, c4 y), (ka, c4 a)]) := by rw [hw6.out]; exact Kn.put s6.out rfl
      have b7 : Hid (Below w.heap.size w w6) := by rw [hw6.out]; exact I.below_setCells _ _ _ B6.out q6.out
      refine anyH_end ⟨Kn.rng s7.out 1 rfl, ?_⟩
      simp only [Act.put, List.setIfInBounds_toArray, List.set_cons_succ, List.set_cons_zero]
      refine anyH_one (i := 14) (by kernel_rfl) ?_
      refine anyH_y (φ := (MP.eq (.int .i64 0)).p) rfl (wanted_none rfl) (yields_as (.tmp 70) rfl (by kernel_rfl)) ?_
      intro cz wz ez hbz
      obtain rfl : cz = .int .i64 0 := ez
      have s8 : Hid (Kn wz [(g, c4 a), (ky, c4 y), (ka, c4 a)]) := s7.out.up hbz
      have b8 : Hid (Below w.heap.size w wz) := b7.out.trans (hbz.mono b7.out.size)
      refine ⟨Kn.rng s8.out 1 rfl, ?_⟩
      simp only [Act.put, List.setIfInBounds_toArray, List.set_cons_succ, List.set_cons_zero]
      clear hbz s7 b7 hw6
      refine wpAnyH_done (by kernel_rfl) ?_ _
      have uya_0 : wz.cell? ⟨ka, 0, none⟩ = some (.int .u64 (a).a) := Kn.get s8.out 2 0 rfl rfl
      have uya_1 : wz.cell? ⟨ka, 1, none⟩ = some (.int .u64 (a).b) := Kn.get s8.out 2 1 rfl rfl
      have uya_2 : wz.cell? ⟨ka, 2, none⟩ = some (.int .u64 (a).c) := Kn.get s8.out 2 2 rfl rfl
      have uya_3 : wz.cell? ⟨ka, 3, none⟩ = some (.int .u64 (a).d) := Kn.get s8.out 2 3 rfl rfl
      have uyc_0 : wz.cell? ⟨g, 0, none⟩ = some (.int .u64 (a).a) := Kn.get s8.out 0 0 rfl rfl
      have uyc_1 : wz.cell? ⟨g, 1, none⟩ = some (.int .u64 (a).b) := Kn.get s8.out 0 1 rfl rfl
      have uyc_2 : wz.cell? ⟨g, 2, none⟩ = some (.int .u64 (a).c) := Kn.get s8.out 0 2 rfl rfl
      have uyc_3 : wz.cell? ⟨g, 3, none⟩ = some (.int .u64 (a).d) := Kn.get s8.out 0 3 rfl rfl
      go_wp2_with fail
      clear uya_0 uya_1 uya_2 uya_3 uyc_0 uyc_1 uyc_2 uyc_3
      go_ret
      exact ⟨rfl, b8.out⟩
  · refine anyH_y (φ := fun v W => Shs W v [⟨t, y⟩]) rfl (wanted_none rfl) (yields_bs1 (.tmp 64) rfl ⟨t, y⟩ (by kernel_rfl)) ?_
    intro c15 v15w x15 hb
    have D15 : Below wA.heap.size wA v15w := (D0).trans (hb.mono (D0).size)
    refine ⟨SW.out _ D15, ?_⟩
    simp only [Act.put, List.setIfInBounds_toArray, List.set_cons_succ, List.set_cons_zero]
    refine anyH_two (i := 1) (k := 12) (by kernel_rfl) ?_ ?_
    · refine anyH_y (φ := fun v W => Oh W wA.heap.size v l) rfl (wanted_none rfl) (yields_call1 cfClM (.tmp 60) _ rfl (.slice (some ⟨b, o, none⟩) n cp) (by kernel_rfl) (CL.out _ D15)) ?_
      intro c16 v16w o16 hb
      have D16 : Below wA.heap.size wA v16w := (D15).trans (hb.mono (D15).size)
      have y16 := Shs.up x15 hb
      refine ⟨SW.out _ D16, ?_⟩
      simp only [Act.put, List.setIfInBounds_toArray, List.set_cons_succ, List.set_cons_zero]
      refine anyH_two (i := 6) (k := 12) (by kernel_rfl) ?_ ?_
      · refine anyH_l rfl (wp_appH rfl (.tmp 61) (.tmp 65) rfl wA.heap.size c16 c15 l [⟨t, y⟩] (by kernel_rfl) o16 (by kernel_rfl) y16 LZ.out (D16).size ?_)
        intro c17 v17w o17 hg
        have D17 : Below wA.heap.size wA v17w := Below.grown D16 hg (D16).size (Oh.ge o16)
        have t17 := Oh.shs o17
        refine anyH_end ⟨SW.out _ D17, ?_⟩
        simp only [Act.put, List.setIfInBounds_toArray, List.set_cons_succ, List.set_cons_zero]
        refine anyH_two (i := 8) (k := 12) (by kernel_rfl) ?_ ?_
        · refine anyH_y (φ := (MP.eq (.tuple #[N a, .int .i64 0])).p) rfl (wanted_none rfl) (yields_call2 cfAtM (.tmp 66) (.tmp 67) _ rfl c17 (.int .i64 x) (by kernel_rfl) (by kernel_rfl) (A4.out _ _ t17)) ?_
          intro c18 v18w e18 hb
          obtain rfl : c18 = .tuple #[N a, .int .i64 0] := e18
          have D18 : Below wA.heap.size wA v18w := (D17).trans (hb.mono (D17).size)
          refine ⟨SW.out _ D18, ?_⟩
          simp only [Act.put, List.setIfInBounds_toArray, List.set_cons_succ, List.set_cons_zero]
          refine wpAnyH_take (i := 9) (v := .tuple #[N a, .int .i64 0]) rfl (by kernel_rfl) (by kernel_rfl) (by kernel_rfl) (fun _ _ _ h => h) (Yields.yieldsIf (.inl ⟨wanted_none rfl, exec_mvM _ rfl (by kernel_rfl)⟩)) (SW.out _ (D18)) ?_
          refine wpAnyH_take (i := 10) (v := N a) rfl (by kernel_rfl) (by kernel_rfl) (by kernel_rfl) (fun _ _ _ h => h) (Yields.yieldsIf (.inl ⟨wanted_none rfl, exec_exM (.tmp 59) 0 rfl (vs := #[N a, .int .i64 0]) (by kernel_rfl) rfl⟩)) (SW.out _ (D18)) ?_
          refine wpAnyH_take (i := 11) (v := .int .i64 0) rfl (by kernel_rfl) (by kernel_rfl) (by kernel_rfl) (fun _ _ _ h => h) (Yields.yieldsIf (.inl ⟨wanted_none rfl, exec_exM (.tmp 59) 1 rfl (vs := #[N a, .int .i64 0]) (by kernel_rfl) rfl⟩)) (SW.out _ (D18)) ?_
          refine anyH_one (i := 12) (by kernel_rfl) ?_
          refine anyH_y (φ := fun v W => ∃ g, v = .pointer (some ⟨g, 0, none⟩) ∧ wA.heap.size ≤ g ∧ W.heap[g]? = some (.cells (c4 ⟨0, 0, 0, 0⟩).toArray 26)) rfl (wanted_none rfl) (yields_mkM rfl zero_numM (D18).size) ?_
          rintro c19 v19w ⟨g19, rfl, a19, m19⟩ hb
          have D19 : Below wA.heap.size wA v19w := (D18).trans (hb.mono (D18).size)
          refine ⟨SW.out _ D19, ?_⟩
          simp only [Act.put, List.setIfInBounds_toArray, List.set_cons_succ, List.set_cons_zero]
          refine anyH_one (i := 13) (by kernel_rfl) ?_
          have s6 : Hid (Kn v19w ((g19, c4 ⟨0, 0, 0, 0⟩) :: [(ky, c4 y), (ka, c4 a)])) := s5.out.fresh D19 a19 m19
          have B6 : Hid (Below w.heap.size w v19w) := b5.out.trans ((D19).mono b5.out.size)
          have q6 : Hid (w.heap.size ≤ g19) := Nat.le_trans b5.out.size a19
          generalize g19 = g at *
          refine anyH_l rfl (I.wp_store_eq rfl 26 (.tmp 13) (.tmp 69) rfl g 0 (c4 a) (by kernel_rfl) (by kernel_rfl) (Kn.there s6.out 0 rfl rfl) (info_c4' a) (one_c4M a) ?_)
          intro w6 hw6
          have s7 : Hid (Kn w6 [(g, c4 a), (ky, c4 y), (ka, c4 a)]) := by rw [hw6.out]; exact Kn.put s6.out rfl
          have b7 : Hid (Below w.heap.size w w6) := by rw [hw6.out]; exact I.below_setCells _ _ _ B6.out q6.out
          refine anyH_end ⟨Kn.rng s7.out 1 rfl, ?_⟩
          simp only [Act.put, List.setIfInBounds_toArray, List.set_cons_succ, List.set_cons_zero]
          refine anyH_one (i := 14) (by kernel_rfl) ?_
          refine anyH_y (φ := (MP.eq (.int .i64 0)).p) rfl (wanted_none rfl) (yields_as (.tmp 70) rfl (by kernel_rfl)) ?_
          intro cz wz ez hbz
          obtain rfl : cz = .int .i64 0 := ez
          have s8 : Hid (Kn wz [(g, c4 a), (ky, c4 y), (ka, c4 a)]) := s7.out.up hbz
          have b8 : Hid (Below w.heap.size w wz) := b7.out.trans (hbz.mono b7.out.size)
          refine ⟨Kn.rng s8.out 1 rfl, ?_⟩
          simp only [Act.put, List.setIfInBounds_toArray, List.set_cons_succ, List.set_cons_zero]
          clear hbz s7 b7 hw6
          refine wpAnyH_done (by kernel_rfl) ?_ _
          have uya_0 : wz.cell? ⟨ka, 0, none⟩ = some (.int .u64 (a).a) := Kn.get s8.out 2 0 rfl rfl
          have uya_1 : wz.cell? ⟨ka, 1, none⟩ = some (.int .u64 (a).b) := Kn.get s8.out 2 1 rfl rfl
          have uya_2 : wz.cell? ⟨ka, 2, none⟩ = some (.int .u64 (a).c) := Kn.get s8.out 2 2 rfl rfl
          have uya_3 : wz.cell? ⟨ka, 3, none⟩ = some (.int .u64 (a).d) := Kn.get s8.out 2 3 rfl rfl
          have uyc_0 : wz.cell? ⟨g, 0, none⟩ = some (.int .u64 (a).a) := Kn.get s8.out 0 0 rfl rfl
          have uyc_1 : wz.cell? ⟨g, 1, none⟩ = some (.int .u64 (a).b) := Kn.get s8.out 0 1 rfl rfl
          have uyc_2 : wz.cell? ⟨g, 2, none⟩ = some (.int .u64 (a).c) := Kn.get s8.out 0 2 rfl rfl
          have uyc_3 : wz.cell? ⟨g, 3, none⟩ = some (.int .u64 (a).d) := Kn.get s8.out 0 3 rfl rfl
          go_wp2_with fail
          clear uya_0 uya_1 uya_2 uya_3 uyc_0 uyc_1 uyc_2 uyc_3
          go_ret
          exact ⟨rfl, b8.out⟩
        · refine anyH_y (φ := fun v W => ∃ g, v = .pointer (some ⟨g, 0, none⟩) ∧ wA.heap.size ≤ g ∧ W.heap[g]? = some (.cells (c4 ⟨0, 0, 0, 0⟩).toArray 26)) rfl (wanted_none rfl) (yields_mkM rfl zero_numM (D17).size) ?_
          rintro c20 v20w ⟨g20, rfl, a20, m20⟩ hb
          have D20 : Below wA.heap.size wA v20w := (D17).trans (hb.mono (D17).size)
          have u20 := Shs.up t17 hb
          refine ⟨SW.out _ D20, ?_⟩
          simp only [Act.put, List.setIfInBounds_toArray, List.set_cons_succ, List.set_cons_zero]
          refine anyH_one (i := 8) (by kernel_rfl) ?_
          refine anyH_y (φ := (MP.eq (.tuple #[N a, .int .i64 0])).p) rfl (wanted_none rfl) (yields_call2 cfAtM (.tmp 66) (.tmp 67) _ rfl c17 (.int .i64 x) (by kernel_rfl) (by kernel_rfl) (A4.out _ _ u20)) ?_
          intro c21 v21w e21 hb
          obtain rfl : c21 = .tuple #[N a, .int .i64 0] := e21
          have D21 : Below wA.heap.size wA v21w := (D20).trans (hb.mono (D20).size)
          have n21 := (hb.block _ (Array.getElem?_eq_some_iff.1 m20).1).trans m20
          refine ⟨SW.out _ D21, ?_⟩
          simp only [Act.put, List.setIfInBounds_toArray, List.set_cons_succ, List.set_cons_zero]
          refine wpAnyH_take (i := 9) (v := .tuple #[N a, .int .i64 0]) rfl (by kernel_rfl) (by kernel_rfl) (by kernel_rfl) (fun _ _ _ h => h) (Yields.yieldsIf (.inl ⟨wanted_none rfl, exec_mvM _ rfl (by kernel_rfl)⟩)) (SW.out _ (D21)) ?_
          refine wpAnyH_take (i := 10) (v := N a) rfl (by kernel_rfl) (by kernel_rfl) (by kernel_rfl) (fun _ _ _ h => h) (Yields.yieldsIf (.inl ⟨wanted_none rfl, exec_exM (.tmp 59) 0 rfl (vs := #[N a, .int .i64 0]) (by kernel_rfl) rfl⟩)) (SW.out _ (D21)) ?_
          refine wpAnyH_take (i := 11) (v := .int .i64 0) rfl (by kernel_rfl) (by kernel_rfl) (by kernel_rfl) (fun _ _ _ h => h) (Yields.yieldsIf (.inl ⟨wanted_none rfl, exec_exM (.tmp 59) 1 rfl (vs := #[N a, .int .i64 0]) (by kernel_rfl) rfl⟩)) (SW.out _ (D21)) ?_
          refine anyH_one (i := 13) (by kernel_rfl) ?_
          have s6 : Hid (Kn v21w ((g20, c4 ⟨0, 0, 0, 0⟩) :: [(ky, c4 y), (ka, c4 a)])) := s5.out.fresh D21 a20 n21
          have B6 : Hid (Below w.heap.size w v21w) := b5.out.trans ((D21).mono b5.out.size)
          have q6 : Hid (w.heap.size ≤ g20) := Nat.le_trans b5.out.size a20
          generalize g20 = g at *
          refine anyH_l rfl (I.wp_store_eq rfl 26 (.tmp 13) (.tmp 69) rfl g 0 (c4 a) (by kernel_rfl) (by kernel_rfl) (Kn.there s6.out 0 rfl rfl) (info_c4' a) (one_c4M a) ?_)
          intro w6 hw6
          have s7 : Hid (Kn w6 [(g, c4 a), (ky, c4 y), (ka, c4 a)]) := by rw [hw6.out]; exact Kn.put s6.out rfl
          have b7 : Hid (Below w.heap.size w w6) := by rw [hw6.out]; exact I.below_setCells _ _ _ B6.out q6.out
          refine anyH_end ⟨Kn.rng s7.out 1 rfl, ?_⟩
          simp only [Act.put, List.setIfInBounds_toArray, List.set_cons_succ, List.set_cons_zero]
          refine anyH_one (i := 14) (by kernel_rfl) ?_
          refine anyH_y (φ := (MP.eq (.int .i64 0)).p) rfl (wanted_none rfl) (yields_as (.tmp 70) rfl (by kernel_rfl)) ?_
          intro cz wz ez hbz
          obtain rfl : cz = .int .i64 0 := ez
          have s8 : Hid (Kn wz [(g, c4 a), (ky, c4 y), (ka, c4 a)]) := s7.out.up hbz
          have b8 : Hid (Below w.heap.size w wz) := b7.out.trans (hbz.mono b7.out.size)
          refine ⟨Kn.rng s8.out 1 rfl, ?_⟩
          simp only [Act.put, List.setIfInBounds_toArray, List.set_cons_succ, List.set_cons_zero]
          clear hbz s7 b7 hw6
          refine wpAnyH_done (by kernel_rfl) ?_ _
          have uya_0 : wz.cell? ⟨ka, 0, none⟩ = some (.int .u64 (a).a) := Kn.get s8.out 2 0 rfl rfl
          have uya_1 : wz.cell? ⟨ka, 1, none⟩ = some (.int .u64 (a).b) := Kn.get s8.out 2 1 rfl rfl
          have uya_2 : wz.cell? ⟨ka, 2, none⟩ = some (.int .u64 (a).c) := Kn.get s8.out 2 2 rfl rfl
          have uya_3 : wz.cell? ⟨ka, 3, none⟩ = some (.int .u64 (a).d) := Kn.get s8.out 2 3 rfl rfl
          have uyc_0 : wz.cell? ⟨g, 0, none⟩ = some (.int .u64 (a).a) := Kn.get s8.out 0 0 rfl rfl
          have uyc_1 : wz.cell? ⟨g, 1, none⟩ = some (.int .u64 (a).b) := Kn.get s8.out 0 1 rfl rfl
          have uyc_2 : wz.cell? ⟨g, 2, none⟩ = some (.int .u64 (a).c) := Kn.get s8.out 0 2 rfl rfl
          have uyc_3 : wz.cell? ⟨g, 3, none⟩ = some (.int .u64 (a).d) := Kn.get s8.out 0 3 rfl rfl
          go_wp2_with fail
          clear uya_0 uya_1 uya_2 uya_3 uyc_0 uyc_1 uyc_2 uyc_3
          go_ret
          exact ⟨rfl, b8.out⟩
      · refine anyH_y (φ := fun v W => ∃ g, v = .pointer (some ⟨g, 0, none⟩) ∧ wA.heap.size ≤ g ∧ W.heap[g]? = some (.cells (c4 ⟨0, 0, 0, 0⟩).toArray 26)) rfl (wanted_none rfl) (yields_mkM rfl zero_numM (D16).size) ?_
        rintro c22 v22w ⟨g22, rfl, a22, m22⟩ hb
        have D22 : Below wA.heap.size wA v22w := (D16).trans (hb.mono (D16).size)
        have p22 := Oh.up o16 hb
        have y22 := Shs.up y16 hb
        refine ⟨SW.out _ D22, ?_⟩
        simp only [Act.put, List.setIfInBounds_toArray, List.set_cons_succ, List.set_cons_zero]
        refine anyH_one (i := 6) (by kernel_rfl) ?_
        refine anyH_l rfl (wp_appH rfl (.tmp 61) (.tmp 65) rfl wA.heap.size c16 c15 l [⟨t, y⟩] (by kernel_rfl) p22 (by kernel_rfl) y22 LZ.out (D22).size ?_)
        intro c23 v23w o23 hg
        have D23 : Below wA.heap.size wA v23w := Below.grown D22 hg (D22).size (Oh.ge p22)
        have t23 := Oh.shs o23
        have n23 := kept_num hg (Oh.tag p22) m22
        refine anyH_end ⟨SW.out _ D23, ?_⟩
        simp only [Act.put, List.setIfInBounds_toArray, List.set_cons_succ, List.set_cons_zero]
        refine anyH_one (i := 8) (by kernel_rfl) ?_
        refine anyH_y (φ := (MP.eq (.tuple #[N a, .int .i64 0])).p) rfl (wanted_none rfl) (yields_call2 cfAtM (.tmp 66) (.tmp 67) _ rfl c23 (.int .i64 x) (by kernel_rfl) (by kernel_rfl) (A4.out _ _ t23)) ?_
        intro c24 v24w e24 hb
        obtain rfl : c24 = .tuple #[N a, .int .i64 0] := e24
        have D24 : Below wA.heap.size wA v24w := (D23).trans (hb.mono (D23).size)
        have n24 := (hb.block _ (Array.getElem?_eq_some_iff.1 n23).1).trans n23
        refine ⟨SW.out _ D24, ?_⟩
        simp only [Act.put, List.setIfInBounds_toArray, List.set_cons_succ, List.set_cons_zero]
        refine wpAnyH_take (i := 9) (v := .tuple #[N a, .int .i64 0]) rfl (by kernel_rfl) (by kernel_rfl) (by kernel_rfl) (fun _ _ _ h => h) (Yields.yieldsIf (.inl ⟨wanted_none rfl, exec_mvM _ rfl (by kernel_rfl)⟩)) (SW.out _ (D24)) ?_
        refine wpAnyH_take (i := 10) (v := N a) rfl (by kernel_rfl) (by kernel_rfl) (by kernel_rfl) (fun _ _ _ h => h) (Yields.yieldsIf (.inl ⟨wanted_none rfl, exec_exM (.tmp 59) 0 rfl (vs := #[N a, .int .i64 0]) (by kernel_rfl) rfl⟩)) (SW.out _ (D24)) ?_
        refine wpAnyH_take (i := 11) (v := .int .i64 0) rfl (by kernel_rfl) (by kernel_rfl) (by kernel_rfl) (fun _ _ _ h => h) (Yields.yieldsIf (.inl ⟨wanted_none rfl, exec_exM (.tmp 59) 1 rfl (vs := #[N a, .int .i64 0]) (by kernel_rfl) rfl⟩)) (SW.out _ (D24)) ?_
        refine anyH_one (i := 13) (by kernel_rfl) ?_
        have s6 : Hid (Kn v24w ((g22, c4 ⟨0, 0, 0, 0⟩) :: [(ky, c4 y), (ka, c4 a)])) := s5.out.fresh D24 a22 n24
        have B6 : Hid (Below w.heap.size w v24w) := b5.out.trans ((D24).mono b5.out.size)
        have q6 : Hid (w.heap.size ≤ g22) := Nat.le_trans b5.out.size a22
        generalize g22 = g at *
        refine anyH_l rfl (I.wp_store_eq rfl 26 (.tmp 13) (.tmp 69) rfl g 0 (c4 a) (by kernel_rfl) (by kernel_rfl) (Kn.there s6.out 0 rfl rfl) (info_c4' a) (one_c4M a) ?_)
        intro w6 hw6
        have s7 : Hid (Kn w6 [(g, c4 a), (ky, c4 y), (ka, c4 a)]) := by rw [hw6.out]; exact Kn.put s6.out rfl
        have b7 : Hid (Below w.heap.size w w6) := by rw [hw6.out]; exact I.below_setCells _ _ _ B6.out q6.out
        refine anyH_end ⟨Kn.rng s7.out 1 rfl, ?_⟩
        simp only [Act.put, List.setIfInBounds_toArray, List.set_cons_succ, List.set_cons_zero]
        refine anyH_one (i := 14) (by kernel_rfl) ?_
        refine anyH_y (φ := (MP.eq (.int .i64 0)).p) rfl (wanted_none rfl) (yields_as (.tmp 70) rfl (by kernel_rfl)) ?_
        intro cz wz ez hbz
        obtain rfl : cz = .int .i64 0 := ez
        have s8 : Hid (Kn wz [(g, c4 a), (ky, c4 y), (ka, c4 a)]) := s7.out.up hbz
        have b8 : Hid (Below w.heap.size w wz) := b7.out.trans (hbz.mono b7.out.size)
        refine ⟨Kn.rng s8.out 1 rfl, ?_⟩
        simp only [Act.put, List.setIfInBounds_toArray, List.set_cons_succ, List.set_cons_zero]
        clear hbz s7 b7 hw6
        refine wpAnyH_done (by kernel_rfl) ?_ _
        have uya_0 : wz.cell? ⟨ka, 0, none⟩ = some (.int .u64 (a).a) := Kn.get s8.out 2 0 rfl rfl
        have uya_1 : wz.cell? ⟨ka, 1, none⟩ = some (.int .u64 (a).b) := Kn.get s8.out 2 1 rfl rfl
        have uya_2 : wz.cell? ⟨ka, 2, none⟩ = some (.int .u64 (a).c) := Kn.get s8.out 2 2 rfl rfl
        have uya_3 : wz.cell? ⟨ka, 3, none⟩ = some (.int .u64 (a).d) := Kn.get s8.out 2 3 rfl rfl
        have uyc_0 : wz.cell? ⟨g, 0, none⟩ = some (.int .u64 (a).a) := Kn.get s8.out 0 0 rfl rfl
        have uyc_1 : wz.cell? ⟨g, 1, none⟩ = some (.int .u64 (a).b) := Kn.get s8.out 0 1 rfl rfl
        have uyc_2 : wz.cell? ⟨g, 2, none⟩ = some (.int .u64 (a).c) := Kn.get s8.out 0 2 rfl rfl
        have uyc_3 : wz.cell? ⟨g, 3, none⟩ = some (.int .u64 (a).d) := Kn.get s8.out 0 3 rfl rfl
        go_wp2_with fail
        clear uya_0 uya_1 uya_2 uya_3 uyc_0 uyc_1 uyc_2 uyc_3
        go_ret
        exact ⟨rfl, b8.out⟩
    · refine anyH_y (φ := fun v W => ∃ g, v = .pointer (some ⟨g, 0, none⟩) ∧ wA.heap.size ≤ g ∧ W.heap[g]? = some (.cells (c4 ⟨0, 0, 0, 0⟩).toArray 26)) rfl (wanted_none rfl) (yields_mkM rfl zero_numM (D15).size) ?_
      rintro c25 v25w ⟨g25, rfl, a25, m25⟩ hb
      have D25 : Below wA.heap.size wA v25w := (D15).trans (hb.mono (D15).size)
      have y25 := Shs.up x15 hb
      refine ⟨SW.out _ D25, ?_⟩
      simp only [Act.put, List.setIfInBounds_toArray, List.set_cons_succ, List.set_cons_zero]
      refine anyH_one (i := 1) (by kernel_rfl) ?_
      refine anyH_y (φ := fun v W => Oh W wA.heap.size v l) rfl (wanted_none rfl) (yields_call1 cfClM (.tmp 60) _ rfl (.slice (some ⟨b, o, none⟩) n cp) (by kernel_rfl) (CL.out _ D25)) ?_
      intro c26 v26w o26 hb
      have D26 : Below wA.heap.size wA v26w := (D25).trans (hb.mono (D25).size)
      have y26 := Shs.up y25 hb
      have n26 := (hb.block _ (Array.getElem?_eq_some_iff.1 m25).1).trans m25
      refine ⟨SW.out _ D26, ?_⟩
      simp only [Act.put, List.setIfInBounds_toArray, List.set_cons_succ, List.set_cons_zero]
      refine anyH_one (i := 6) (by kernel_rfl) ?_
      refine anyH_l rfl (wp_appH rfl (.tmp 61) (.tmp 65) rfl wA.heap.size c26 c15 l [⟨t, y⟩] (by kernel_rfl) o26 (by kernel_rfl) y26 LZ.out (D26).size ?_)
      intro c27 v27w o27 hg
      have D27 : Below wA.heap.size wA v27w := Below.grown D26 hg (D26).size (Oh.ge o26)
      have t27 := Oh.shs o27
      have n27 := kept_num hg (Oh.tag o26) n26
      refine anyH_end ⟨SW.out _ D27, ?_⟩
      simp only [Act.put, List.setIfInBounds_toArray, List.set_cons_succ, List.set_cons_zero]
      refine anyH_one (i := 8) (by kernel_rfl) ?_
      refine anyH_y (φ := (MP.eq (.tuple #[N a, .int .i64 0])).p) rfl (wanted_none rfl) (yields_call2 cfAtM (.tmp 66) (.tmp 67) _ rfl c27 (.int .i64 x) (by kernel_rfl) (by kernel_rfl) (A4.out _ _ t27)) ?_
      intro c28 v28w e28 hb
      obtain rfl : c28 = .tuple #[N a, .int .i64 0] := e28
      have D28 : Below wA.heap.size wA v28w := (D27).trans (hb.mono (D27).size)
      have n28 := (hb.block _ (Array.getElem?_eq_some_iff.1 n27).1).trans n27
      refine ⟨SW.out _ D28, ?_⟩
      simp only [Act.put, List.setIfInBounds_toArray, List.set_cons_succ, List.set_cons_zero]
      refine wpAnyH_take (i := 9) (v := .tuple #[N a, .int .i64 0]) rfl (by kernel_rfl) (by kernel_rfl) (by kernel_rfl) (fun _ _ _ h => h) (Yields.yieldsIf (.inl ⟨wanted_none rfl, exec_mvM _ rfl (by kernel_rfl)⟩)) (SW.out _ (D28)) ?_
      refine wpAnyH_take (i := 10) (v := N a) rfl (by kernel_rfl) (by kernel_rfl) (by kernel_rfl) (fun _ _ _ h => h) (Yields.yieldsIf (.inl ⟨wanted_none rfl, exec_exM (.tmp 59) 0 rfl (vs := #[N a, .int .i64 0]) (by kernel_rfl) rfl⟩)) (SW.out _ (D28)) ?_
      refine wpAnyH_take (i := 11) (v := .int .i64 0) rfl (by kernel_rfl) (by kernel_rfl) (by kernel_rfl) (fun _ _ _ h => h) (Yields.yieldsIf (.inl ⟨wanted_none rfl, exec_exM (.tmp 59) 1 rfl (vs := #[N a, .int .i64 0]) (by kernel_rfl) rfl⟩)) (SW.out _ (D28)) ?_
      refine anyH_one (i := 13) (by kernel_rfl) ?_
      have s6 : Hid (Kn v28w ((g25, c4 ⟨0, 0, 0, 0⟩) :: [(ky, c4 y), (ka, c4 a)])) := s5.out.fresh D28 a25 n28
      have B6 : Hid (Below w.heap.size w v28w) := b5.out.trans ((D28).mono b5.out.size)
      have q6 : Hid (w.heap.size ≤ g25) := Nat.le_trans b5.out.size a25
      generalize g25 = g at *
      refine anyH_l rfl (I.wp_store_eq rfl 26 (.tmp 13) (.tmp 69) rfl g 0 (c4 a) (by kernel_rfl) (by kernel_rfl) (Kn.there s6.out 0 rfl rfl) (info_c4' a) (one_c4M a) ?_)
      intro w6 hw6
      have s7 : Hid (Kn w6 [(g, c4 a), (ky, c4 y), (ka, c4 a)]) := by rw [hw6.out]; exact Kn.put s6.out rfl
      have b7 : Hid (Below w.heap.size w w6) := by rw [hw6.out]; exact I.below_setCells _ _ _ B6.out q6.out
      refine anyH_end ⟨Kn.rng s7.out 1 rfl, ?_⟩
      simp only [Act.put, List.setIfInBounds_toArray, List.set_cons_succ, List.set_cons_zero]
      refine anyH_one (i := 14) (by kernel_rfl) ?_
      refine anyH_y (φ := (MP.eq (.int .i64 0)).p) rfl (wanted_none rfl) (yields_as (.tmp 70) rfl (by kernel_rfl)) ?_
      intro cz wz ez hbz
      obtain rfl : cz = .int .i64 0 := ez
      have s8 : Hid (Kn wz [(g, c4 a), (ky, c4 y), (ka, c4 a)]) := s7.out.up hbz
      have b8 : Hid (Below w.heap.size w wz) := b7.out.trans (hbz.mono b7.out.size)
      refine ⟨Kn.rng s8.out 1 rfl, ?_⟩
      simp only [Act.put, List.setIfInBounds_toArray, List.set_cons_succ, List.set_cons_zero]
      clear hbz s7 b7 hw6
      refine wpAnyH_done (by kernel_rfl) ?_ _
      have uya_0 : wz.cell? ⟨ka, 0, none⟩ = some (.int .u64 (a).a) := Kn.get s8.out 2 0 rfl rfl
      have uya_1 : wz.cell? ⟨ka, 1, none⟩ = some (.int .u64 (a).b) := Kn.get s8.out 2 1 rfl rfl
      have uya_2 : wz.cell? ⟨ka, 2, none⟩ = some (.int .u64 (a).c) := Kn.get s8.out 2 2 rfl rfl
      have uya_3 : wz.cell? ⟨ka, 3, none⟩ = some (.int .u64 (a).d) := Kn.get s8.out 2 3 rfl rfl
      have uyc_0 : wz.cell? ⟨g, 0, none⟩ = some (.int .u64 (a).a) := Kn.get s8.out 0 0 rfl rfl
      have uyc_1 : wz.cell? ⟨g, 1, none⟩ = some (.int .u64 (a).b) := Kn.get s8.out 0 1 rfl rfl
      have uyc_2 : wz.cell? ⟨g, 2, none⟩ = some (.int .u64 (a).c) := Kn.get s8.out 0 2 rfl rfl
      have uyc_3 : wz.cell? ⟨g, 3, none⟩ = some (.int .u64 (a).d) := Kn.get s8.out 0 3 rfl rfl
      go_wp2_with fail
      clear uya_0 uya_1 uya_2 uya_3 uyc_0 uyc_1 uyc_2 uyc_3
      go_ret
      exact ⟨rfl, b8.out⟩
  · refine anyH_y (φ := fun v W => ∃ g, v = .pointer (some ⟨g, 0, none⟩) ∧ wA.heap.size ≤ g ∧ W.heap[g]? = some (.cells (c4 ⟨0, 0, 0, 0⟩).toArray 26)) rfl (wanted_none rfl) (yields_mkM rfl zero_numM (D0).size) ?_
    rintro c29 v29w ⟨g29, rfl, a29, m29⟩ hb
    have D29 : Below wA.heap.size wA v29w := (D0).trans (hb.mono (D0).size)
    refine ⟨SW.out _ D29, ?_⟩
    simp only [Act.put, List.setIfInBounds_toArray, List.set_cons_succ, List.set_cons_zero]
    refine anyH_two (i := 1) (k := 5) (by kernel_rfl) ?_ ?_
    · refine anyH_y (φ := fun v W => Oh W wA.heap.size v l) rfl (wanted_none rfl) (yields_call1 cfClM (.tmp 60) _ rfl (.slice (some ⟨b, o, none⟩) n cp) (by kernel_rfl) (CL.out _ D29)) ?_
      intro c30 v30w o30 hb
      have D30 : Below wA.heap.size wA v30w := (D29).trans (hb.mono (D29).size)
      have n30 := (hb.block _ (Array.getElem?_eq_some_iff.1 m29).1).trans m29
      refine ⟨SW.out _ D30, ?_⟩
      simp only [Act.put, List.setIfInBounds_toArray, List.set_cons_succ, List.set_cons_zero]
      refine anyH_one (i := 5) (by kernel_rfl) ?_
      refine anyH_y (φ := fun v W => Shs W v [⟨t, y⟩]) rfl (wanted_none rfl) (yields_bs1 (.tmp 64) rfl ⟨t, y⟩ (by kernel_rfl)) ?_
      intro c31 v31w x31 hb
      have D31 : Below wA.heap.size wA v31w := (D30).trans (hb.mono (D30).size)
      have p31 := Oh.up o30 hb
      have n31 := (hb.block _ (Array.getElem?_eq_some_iff.1 n30).1).trans n30
      refine ⟨SW.out _ D31, ?_⟩
      simp only [Act.put, List.setIfInBounds_toArray, List.set_cons_succ, List.set_cons_zero]
      refine anyH_one (i := 6) (by kernel_rfl) ?_
      refine anyH_l rfl (wp_appH rfl (.tmp 61) (.tmp 65) rfl wA.heap.size c30 c31 l [⟨t, y⟩] (by kernel_rfl) p31 (by kernel_rfl) x31 LZ.out (D31).size ?_)
      intro c32 v32w o32 hg
      have D32 : Below wA.heap.size wA v32w := Below.grown D31 hg (D31).size (Oh.ge p31)
      have t32 := Oh.shs o32
      have n32 := kept_num hg (Oh.tag p31) n31
      refine anyH_end ⟨SW.out _ D32, ?_⟩
      simp only [Act.put, List.setIfInBounds_toArray, List.set_cons_succ, List.set_cons_zero]
      refine anyH_one (i := 8) (by kernel_rfl) ?_
      refine anyH_y (φ := (MP.eq (.tuple #[N a, .int .i64 0])).p) rfl (wanted_none rfl) (yields_call2 cfAtM (.tmp 66) (.tmp 67) _ rfl c32 (.int .i64 x) (by kernel_rfl) (by kernel_rfl) (A4.out _ _ t32)) ?_
      intro c33 v33w e33 hb
      obtain rfl : c33 = .tuple #[N a, .int .i64 0] := e33
      have D33 : Below wA.heap.size wA v33w := (D32).trans (hb.mono (D32).size)
      have n33 := (hb.block _ (Array.getElem?_eq_some_iff.1 n32).1).trans n32
      refine ⟨SW.out _ D33, ?_⟩
      simp only [Act.put, List.setIfInBounds_toArray, List.set_cons_succ, List.set_cons_zero]
      refine wpAnyH_take (i := 9) (v := .tuple #[N a, .int .i64 0]) rfl (by kernel_rfl) (by kernel_rfl) (by kernel_rfl) (fun _ _ _ h => h) (Yields.yieldsIf (.inl ⟨wanted_none rfl, exec_mvM _ rfl (by kernel_rfl)⟩)) (SW.out _ (D33)) ?_
      refine wpAnyH_take (i := 10) (v := N a) rfl (by kernel_rfl) (by kernel_rfl) (by kernel_rfl) (fun _ _ _ h => h) (Yields.yieldsIf (.inl ⟨wanted_none rfl, exec_exM (.tmp 59) 0 rfl (vs := #[N a, .int .i64 0]) (by kernel_rfl) rfl⟩)) (SW.out _ (D33)) ?_
      refine wpAnyH_take (i := 11) (v := .int .i64 0) rfl (by kernel_rfl) (by kernel_rfl) (by kernel_rfl) (fun _ _ _ h => h) (Yields.yieldsIf (.inl ⟨wanted_none rfl, exec_exM (.tmp 59) 1 rfl (vs := #[N a, .int .i64 0]) (by kernel_rfl) rfl⟩)) (SW.out _ (D33)) ?_
      refine anyH_one (i := 13) (by kernel_rfl) ?_
      have s6 : Hid (Kn v33w ((g29, c4 ⟨0, 0, 0, 0⟩) :: [(ky, c4 y), (ka, c4 a)])) := s5.out.fresh D33 a29 n33
      have B6 : Hid (Below w.heap.size w v33w) := b5.out.trans ((D33).mono b5.out.size)
      have q6 : Hid (w.heap.size ≤ g29) := Nat.le_trans b5.out.size a29
      generalize g29 = g at *
      refine anyH_l rfl (I.wp_store_eq rfl 26 (.tmp 13) (.tmp 69) rfl g 0 (c4 a) (by kernel_rfl) (by kernel_rfl) (Kn.there s6.out 0 rfl rfl) (info_c4' a) (one_c4M a) ?_)
      intro w6 hw6
      have s7 : Hid (Kn w6 [(g, c4 a), (ky, c4 y), (ka, c4 a)]) := by rw [hw6.out]; exact Kn.put s6.out rfl
      have b7 : Hid (Below w.heap.size w w6) := by rw [hw6.out]; exact I.below_setCells _ _ _ B6.out q6.out
      refine anyH_end ⟨Kn.rng s7.out 1 rfl, ?_⟩
      simp only [Act.put, List.setIfInBounds_toArray, List.set_cons_succ, List.set_cons_zero]
      refine anyH_one (i := 14) (by kernel_rfl) ?_
      refine anyH_y (φ := (MP.eq (.int .i64 0)).p) rfl (wanted_none rfl) (yields_as (.tmp 70) rfl (by kernel_rfl)) ?_
      intro cz wz ez hbz
      obtain rfl : cz = .int .i64 0 := ez
      have s8 : Hid (Kn wz [(g, c4 a), (ky, c4 y), (ka, c4 a)]) := s7.out.up hbz
      have b8 : Hid (Below w.heap.size w wz) := b7.out.trans (hbz.mono b7.out.size)
      refine ⟨Kn.rng s8.out 1 rfl, ?_⟩
      simp only [Act.put, List.setIfInBounds_toArray, List.set_cons_succ, List.set_cons_zero]
      clear hbz s7 b7 hw6
      refine wpAnyH_done (by kernel_rfl) ?_ _
      have uya_0 : wz.cell? ⟨ka, 0, none⟩ = some (.int .u64 (a).a) := Kn.get s8.out 2 0 rfl rfl
      have uya_1 : wz.cell? ⟨ka, 1, none⟩ = some (.int .u64 (a).b) := Kn.get s8.out 2 1 rfl rfl
      have uya_2 : wz.cell? ⟨ka, 2, none⟩ = some (.int .u64 (a).c) := Kn.get s8.out 2 2 rfl rfl
      have uya_3 : wz.cell? ⟨ka, 3, none⟩ = some (.int .u64 (a).d) := Kn.get s8.out 2 3 rfl rfl
      have uyc_0 : wz.cell? ⟨g, 0, none⟩ = some (.int .u64 (a).a) := Kn.get s8.out 0 0 rfl rfl
      have uyc_1 : wz.cell? ⟨g, 1, none⟩ = some (.int .u64 (a).b) := Kn.get s8.out 0 1 rfl rfl
      have uyc_2 : wz.cell? ⟨g, 2, none⟩ = some (.int .u64 (a).c) := Kn.get s8.out 0 2 rfl rfl
      have uyc_3 : wz.cell? ⟨g, 3, none⟩ = some (.int .u64 (a).d) := Kn.get s8.out 0 3 rfl rfl
      go_wp2_with fail
      clear uya_0 uya_1 uya_2 uya_3 uyc_0 uyc_1 uyc_2 uyc_3
      go_ret
      exact ⟨rfl, b8.out⟩
    · refine anyH_y (φ := fun v W => Shs W v [⟨t, y⟩]) rfl (wanted_none rfl) (yields_bs1 (.tmp 64) rfl ⟨t, y⟩ (by kernel_rfl)) ?_
      intro c34 v34w x34 hb
      have D34 : Below wA.heap.size wA v34w := (D29).trans (hb.mono (D29).size)
      have n34 := (hb.block _ (Array.getElem?_eq_some_iff.1 m29).1).trans m29
      refine ⟨SW.out _ D34, ?_⟩
      simp only [Act.put, List.setIfInBounds_toArray, List.set_cons_succ, List.set_cons_zero]
      refine anyH_one (i := 1) (by kernel_rfl) ?_
      refine anyH_y (φ := fun v W => Oh W wA.heap.size v l) rfl (wanted_none rfl) (yields_call1 cfClM (.tmp 60) _ rfl (.slice (some ⟨b, o, none⟩) n cp) (by kernel_rfl) (CL.out _ D34)) ?_
      intro c35 v35w o35 hb
      have D35 : Below wA.heap.size wA v35w := (D34).trans (hb.mono (D34).size)
      have y35 := Shs.up x34 hb
      have n35 := (hb.block _ (Array.getElem?_eq_some_iff.1 n34).1).trans n34
      refine ⟨SW.out _ D35, ?_⟩
      simp only [Act.put, List.setIfInBounds_toArray, List.set_cons_succ, List.set_cons_zero]
      refine anyH_one (i := 6) (by kernel_rfl) ?_
      refine anyH_l rfl (wp_appH rfl (.tmp 61) (.tmp 65) rfl wA.heap.size c35 c34 l [⟨t, y⟩] (by kernel_rfl) o35 (by kernel_rfl) y35 LZ.out (D35).size ?_)
      intro c36 v36w o36 hg
      have D36 : Below wA.heap.size wA v36w := Below.grown D35 hg (D35).size (Oh.ge o35)
      have t36 := Oh.shs o36
      have n36 := kept_num hg (Oh.tag o35) n35
      refine anyH_end ⟨SW.out _ D36, ?_⟩
      simp only [Act.put, List.setIfInBounds_toArray, List.set_cons_succ, List.set_cons_zero]
      refine anyH_one (i := 8) (by kernel_rfl) ?_
      refine anyH_y (φ := (MP.eq (.tuple #[N a, .int .i64 0])).p) rfl (wanted_none rfl) (yields_call2 cfAtM (.tmp 66) (.tmp 67) _ rfl c36 (.int .i64 x) (by kernel_rfl) (by kernel_rfl) (A4.out _ _ t36)) ?_
      intro c37 v37w e37 hb
      obtain rfl : c37 = .tuple #[N a, .int .i64 0] := e37
      have D37 : Below wA.heap.size wA v37w := (D36).trans (hb.mono (D36).size)
      have n37 := (hb.block _ (Array.getElem?_eq_some_iff.1 n36).1).trans n36
      refine ⟨SW.out _ D37, ?_⟩
      simp only [Act.put, List.setIfInBounds_toArray, List.set_cons_succ, List.set_cons_zero]
      refine wpAnyH_take (i := 9) (v := .tuple #[N a, .int .i64 0]) rfl (by kernel_rfl) (by kernel_rfl) (by kernel_rfl) (fun _ _ _ h => h) (Yields.yieldsIf (.inl ⟨wanted_none rfl, exec_mvM _ rfl (by kernel_rfl)⟩)) (SW.out _ (D37)) ?_
      refine wpAnyH_take (i := 10) (v := N a) rfl (by kernel_rfl) (by kernel_rfl) (by kernel_rfl) (fun _ _ _ h => h) (Yields.yieldsIf (.inl ⟨wanted_none rfl, exec_exM (.tmp 59) 0 rfl (vs := #[N a, .int .i64 0]) (by kernel_rfl) rfl⟩)) (SW.out _ (D37)) ?_
      refine wpAnyH_take (i := 11) (v := .int .i64 0) rfl (by kernel_rfl) (by kernel_rfl) (by kernel_rfl) (fun _ _ _ h => h) (Yields.yieldsIf (.inl ⟨wanted_none rfl, exec_exM (.tmp 59) 1 rfl (vs := #[N a, .int .i64 0]) (by kernel_rfl) rfl⟩)) (SW.out _ (D37)) ?_
      refine anyH_one (i := 13) (by kernel_rfl) ?_
      have s6 : Hid (Kn v37w ((g29, c4 ⟨0, 0, 0, 0⟩) :: [(ky, c4 y), (ka, c4 a)])) := s5.out.fresh D37 a29 n37
      have B6 : Hid (Below w.heap.size w v37w) := b5.out.trans ((D37).mono b5.out.size)
      have q6 : Hid (w.heap.size ≤ g29) := Nat.le_trans b5.out.size a29
      generalize g29 = g at *
      refine anyH_l rfl (I.wp_store_eq rfl 26 (.tmp 13) (.tmp 69) rfl g 0 (c4 a) (by kernel_rfl) (by kernel_rfl) (Kn.there s6.out 0 rfl rfl) (info_c4' a) (one_c4M a) ?_)
      intro w6 hw6
      have s7 : Hid (Kn w6 [(g, c4 a), (ky, c4 y), (ka, c4 a)]) := by rw [hw6.out]; exact Kn.put s6.out rfl
      have b7 : Hid (Below w.heap.size w w6) := by rw [hw6.out]; exact I.below_setCells _ _ _ B6.out q6.out
      refine anyH_end ⟨Kn.rng s7.out 1 rfl, ?_⟩
      simp only [Act.put, List.setIfInBounds_toArray, List.set_cons_succ, List.set_cons_zero]
      refine anyH_one (i := 14) (by kernel_rfl) ?_
      refine anyH_y (φ := (MP.eq (.int .i64 0)).p) rfl (wanted_none rfl) (yields_as (.tmp 70) rfl (by kernel_rfl)) ?_
      intro cz wz ez hbz
      obtain rfl : cz = .int .i64 0 := ez
      have s8 : Hid (Kn wz [(g, c4 a), (ky, c4 y), (ka, c4 a)]) := s7.out.up hbz
      have b8 : Hid (Below w.heap.size w wz) := b7.out.trans (hbz.mono b7.out.size)
      refine ⟨Kn.rng s8.out 1 rfl, ?_⟩
      simp only [Act.put, List.setIfInBounds_toArray, List.set_cons_succ, List.set_cons_zero]
      clear hbz s7 b7 hw6
      refine wpAnyH_done (by kernel_rfl) ?_ _
      have uya_0 : wz.cell? ⟨ka, 0, none⟩ = some (.int .u64 (a).a) := Kn.get s8.out 2 0 rfl rfl
      have uya_1 : wz.cell? ⟨ka, 1, none⟩ = some (.int .u64 (a).b) := Kn.get s8.out 2 1 rfl rfl
      have uya_2 : wz.cell? ⟨ka, 2, none⟩ = some (.int .u64 (a).c) := Kn.get s8.out 2 2 rfl rfl
      have uya_3 : wz.cell? ⟨ka, 3, none⟩ = some (.int .u64 (a).d) := Kn.get s8.out 2 3 rfl rfl
      have uyc_0 : wz.cell? ⟨g, 0, none⟩ = some (.int .u64 (a).a) := Kn.get s8.out 0 0 rfl rfl
      have uyc_1 : wz.cell? ⟨g, 1, none⟩ = some (.int .u64 (a).b) := Kn.get s8.out 0 1 rfl rfl
      have uyc_2 : wz.cell? ⟨g, 2, none⟩ = some (.int .u64 (a).c) := Kn.get s8.out 0 2 rfl rfl
      have uyc_3 : wz.cell? ⟨g, 3, none⟩ = some (.int .u64 (a).d) := Kn.get s8.out 0 3 rfl rfl
      go_wp2_with fail
      clear uya_0 uya_1 uya_2 uya_3 uyc_0 uyc_1 uyc_2 uyc_3
      go_ret
      exact ⟨rfl, b8.out⟩
theorem shareMore_of (SP : SplitC) (AT : AtC) (l : List Shr) (hl : ∀ s ∈ l, s.ok) (x t : Int) (hx : -9223372036854775808 ≤ x ∧ x ≤ 9223372036854775807) (ht : -9223372036854775808 ≤ t ∧ t ≤ 9223372036854775807) (v : Value) (w : World) (hv : Shs w v l) (hK : KTab w) :
    Calls Tryd.prog 3 #[v, .int .i64 x, .int .i64 t] w fun e w' => e = .returned (.bool true) ∧ Below w.heap.size w w' := by
  have AL : ∀ W, Below w.heap.size w W → Calls Tryd.prog 4 #[] W fun e w' => e = .returned (.bool true) ∧ Below W.heap.size W w' := fun W hW => shares_alive SP W (hK.up hW hK.pos)
  obtain ⟨a, cp, rfl, hc, hm⟩ := id hv
  by_cases ho : 5 < l.length ∨ t < 1 ∨ 255 < t
  · exact more_out a _ cp x t ho w AL
  by_cases h0 : l.length = 0
  · have e0 : ∀ z, fltN l z ≠ 0 := fun z h => by
      have := ((flt_zero l z).1 h).1
      omega
    have e1 : ∀ z, fltN l z = 1 := fun z => flt_one (by omega) (e0 z)
    have em : ∀ z, atM l z = ⟨0, 0, 0, 0⟩ := fun z => if_neg (e0 z)
    have A1 := fun W h => AT l hl x hx (.slice a l.length cp) W h
    have A2 := fun W h => AT l hl t ht (.slice a l.length cp) W h
    rw [e1, em] at A1 A2
    have V : ∀ W, Below w.heap.size w W → Shs W (.slice a l.length cp) l := fun W hW => hv.up hW
    rw [h0] at A1 A2 V ⊢
    exact more_none a cp x t _ _ (by omega) (by omega) (by decide) w AL (fun W hW => A1 W (V W hW)) (fun W hW => A2 W (V W hW))
  obtain ⟨b, o, rfl, hcell⟩ := hm (by omega)
  have gd : ∀ i (hi : i < l.length), l[i]? = some ⟨(l.getD i shr0).x, (l.getD i shr0).y⟩ := fun i hi => by
    rw [getD_at hi, List.getElem?_eq_getElem hi]
  have CR : ∀ W, Below w.heap.size w W → ∀ i, i < l.length → W.rangeAt b (o + i * 5) (shC ⟨(l.getD i shr0).x, (l.getD i shr0).y⟩) := fun W hW i hi => by
    obtain ⟨a', c', e, -, h⟩ := hv.up hW
    cases e
    obtain ⟨b', o', e, h⟩ := h (by omega)
    cases e
    exact h i _ (gd i hi)
  refine more_walk l.length (by omega) (by omega) b o cp x t _ _ _ _ (fun i => (l.getD i shr0).x) (fun i => (l.getD i shr0).y) (by omega) (by omega) l rfl w hv CR AL (fun W h => AT l hl x hx _ W h) (fun W h => AT l hl t ht _ W h) (fun w => by rw [eqN, Nm.beq_self]) ?_
  intro hn
  have hn' : ∀ s ∈ l, s.x ≠ t := fun s hs => by
    obtain ⟨i, hi, rfl⟩ := List.getElem_of_mem hs
    have := hn i hi
    rwa [getD_at hi] at this
  by_cases h : fltN l x = 0
  · have hm := more_at l x t h (by omega) (by omega) (by omega) hn'
    refine .inr ⟨by rw [h]; rfl, by rw [hm.1]; rfl, fun W v h => ?_⟩
    have hok : ∀ s ∈ l ++ [⟨t, atM l t⟩], s.ok := fun s hs => by
      rcases List.mem_append.1 hs with hs | hs
      · exact hl s hs
      · obtain rfl := List.mem_singleton.1 hs
        refine ⟨ht, ?_⟩
        show (atM l t).ok
        unfold atM
        rw [if_pos hm.1]
        exact nm_ok _
    have := AT _ hok x hx v W h
    rw [hm.2.1, hm.2.2] at this
    exact this
  · exact .inl (by rw [bne_iff_ne]; omega)
end Go.Proofs.YtdcpicbkemmakabDoor
