/- ShareOrder, out of what package share must keep. -/
import Derived.Test.YtdcpicbkemmakaaQShE
import Derived.Test.YtdcpicbkemmakaaQShO
import Derived.Test.YtdcpicbkemmakaaQUpSToShA
namespace Go.Proofs.Ytdcpicbkemmakaa
open Go.RowKit
attribute [local go_sem] World.cell?_alloc_some cell_alloc2 cell_alloc3 cell_alloc4 frozen?_alloc_cells frozen_out
attribute [local go_sem] YieldsP execOp
attribute [local simp] MP.eq_p
set_option linter.unusedSimpArgs false
def MP.oh (B : Nat) (l : List Shr) : MP := ⟨fun v w => Oh w B v l, fun h hb => Oh.up h hb⟩
theorem cfCl (args : Array Value) (W : World) : (callFunc 8 args).run Try.prog W = .ok (.enter 8 args) W := cf_is (fn := Try.f8) (by kernel_rfl) (by decide) (by kernel_rfl) args W
theorem yields_frontH {o : Oper} {act : Act} {w : World} (x l : Operand) (ho : o.op = .slice 22 x none (some l) none) {b q n c j : Nat} (hx : act.eval x = .slice (some ⟨b, q, none⟩) n c) (hl : act.eval l = .int .i64 (j : Int)) (hj : j ≤ c) : YieldsP Try.prog o act w (MP.eq (.slice (some ⟨b, q, none⟩) j c)).p :=
  yields_run (by
    have e : (Instr.sliceAt 22 (.slice (some ⟨b, q, none⟩) n c) none (some (.int .i64 (j : Int))) none).run Try.prog w = .ok (.slice (some ⟨b, q, none⟩) j c) w := by
      rw [run_sliceAt_slice (h := selem_shs), run_slice_h (ht := selem_shs) (h0 := by omega) (h2 := by omega), elem_shs, size_shr]
      simp [sliced, Addr.add_lit]
    generalize act.eval = ev at *
    unfold execOp
    simp [ho, hx, hl, e])
theorem yields_backH {o : Oper} {act : Act} {w : World} (x l : Operand) (ho : o.op = .slice 22 x (some l) none none) {b q n c j : Nat} (hx : act.eval x = .slice (some ⟨b, q, none⟩) n c) (hl : act.eval l = .int .i64 (j : Int)) (hj : j < n) (hn : n ≤ c) : YieldsP Try.prog o act w (MP.eq (.slice (some ⟨b, q + j * 5, none⟩) (n - j) (c - j))).p :=
  yields_run (by
    have e : (Instr.sliceAt 22 (.slice (some ⟨b, q, none⟩) n c) (some (.int .i64 (j : Int))) none none).run Try.prog w = .ok (.slice (some ⟨b, q + j * 5, none⟩) (n - j) (c - j)) w := by
      rw [run_sliceAt_slice (h := selem_shs), run_slice_l (ht := selem_shs) (h0 := by omega) (h1 := by omega), elem_shs, size_shr]
      simp [sliced, Addr.add_lit, show ¬ c = j by omega]
    generalize act.eval = ev at *
    unfold execOp
    simp [ho, hx, hl, e])
theorem Shs.front {w : World} {b q n c : Nat} {l : List Shr} (h : Shs w (.slice (some ⟨b, q, none⟩) n c) l) (j : Nat) (hj : j ≤ n) : Shs w (.slice (some ⟨b, q, none⟩) j c) (l.take j) := by
  obtain ⟨a, c', e, h1, h2⟩ := h
  cases e
  refine ⟨_, _, by rw [List.length_take, Nat.min_eq_left hj], ⟨by rw [List.length_take]; omega, fun h => by cases h⟩, fun hp => ?_⟩
  rw [List.length_take] at hp
  obtain ⟨b', o', e, h⟩ := h2 (by omega)
  cases e
  refine ⟨b, q, rfl, fun i s hs => h i s ?_⟩
  rw [List.getElem?_take] at hs
  split at hs
  · exact hs
  · cases hs
theorem Shs.back {w : World} {b q n c : Nat} {l : List Shr} (h : Shs w (.slice (some ⟨b, q, none⟩) n c) l) (j : Nat) (hj : j < n) : Shs w (.slice (some ⟨b, q + j * 5, none⟩) (n - j) (c - j)) (l.drop j) := by
  obtain ⟨a, c', e, h1, h2⟩ := h
  cases e
  obtain ⟨b', o', e, h⟩ := h2 (by omega)
  cases e
  refine ⟨_, _, by rw [List.length_drop], ⟨by rw [List.length_drop]; omega, fun h => by cases h⟩, fun _ => ⟨b, q + j * 5, rfl, fun i s hs => ?_⟩⟩
  rw [List.getElem?_drop] at hs
  rw [show q + j * 5 + i * 5 = q + (j + i) * 5 by omega]
  exact h (j + i) s hs
theorem info_q4 (z : Nm) : (Try.prog.info? 27).map (·.size) = some [Value.int .u64 z.a, Value.int .u64 z.b, Value.int .u64 z.c, Value.int .u64 z.d].length := by kernel_rfl
set_option maxRecDepth 20000 in
set_option maxHeartbeats 2000000 in
theorem shOr_bad (l : List Shr) (b o n cp T : Nat) (hT : T < n) (hn : n ≤ 6) (hc : n ≤ cp) (hln : l.length = n) (x X f h : Int) (y z : Nm) (w : World) (hv : Shs w (.slice (some ⟨b, o, none⟩) n cp) l) (hf : (f != 0) = true)
    (ey : ∀ w, (binOp .neq 27 (N y) (N y)).run Try.prog w = .ok (.bool false) w)
    (CX : Hid (∀ W, Below w.heap.size w W → W.cell? ⟨b, o + T * 5, none⟩ = some (.int .i64 X)))
    (A1 : ∀ W, Shs W (.slice (some ⟨b, o, none⟩) n cp) l → Calls Try.prog 6 #[.slice (some ⟨b, o, none⟩) n cp, .int .i64 x] W fun e w' => e = .returned (.tuple #[N y, .int .i64 f]) ∧ Below W.heap.size W w')
    (A2 : ∀ W {v}, Shs W v (l.drop T ++ l.take T) → Calls Try.prog 6 #[v, .int .i64 x] W fun e w' => e = .returned (.tuple #[N y, .int .i64 f]) ∧ Below W.heap.size W w')
    (A3 : ∀ W, Shs W (.slice (some ⟨b, o, none⟩) n cp) l → Calls Try.prog 6 #[.slice (some ⟨b, o, none⟩) n cp, .int .i64 X] W fun e w' => e = .returned (.tuple #[N z, .int .i64 h]) ∧ Below W.heap.size W w') :
    Calls Try.prog 4 #[.slice (some ⟨b, o, none⟩) n cp, .int .i64 x, .int .i64 (T : Int)] w fun e w' => e = .returned (.bool true) ∧ Below w.heap.size w w' := by
  have HV : Hid (Shs w (.slice (some ⟨b, o, none⟩) n cp) l) := hv
  have HT : Hid (T < n) := hT
  have HC : Hid (n ≤ cp) := hc
  have HN : Hid (l.length = n ∧ n ≤ 6) := ⟨hln, hn⟩
  have g6' : ¬ (n : Int) > 6 := by omega
  have t0 : ¬ (T : Int) < 0 := by omega
  have t1 : ¬ (T : Int) ≥ (n : Int) := by omega
  have p0 : (0 : Int) ≤ (T : Int) := by omega
  have p1 : (T : Int) < (n : Int) := by omega
  clear hv hT hc hn hln
  go_enter Try.func4, Try.ntmps4
  go_wp2_with fail
  refine wp_region_monoSE 7 [MP.eq (.slice (some ⟨b, o, none⟩) n cp), MP.eq (.int .i64 (T : Int)), MP.eq (.slice (some ⟨b, o + T * 5, none⟩) (n - T) (cp - T)), MP.oh w.heap.size (l.drop T), MP.eq (.slice (some ⟨b, o, none⟩) n cp), MP.eq (.int .i64 (T : Int)), MP.eq (.slice (some ⟨b, o, none⟩) T cp)] (by kernel_rfl) (by kernel_rfl) rfl (by decide) (by kernel_rfl) ?_
  apply Exists.intro
  refine ⟨fun vals => ?_, ?_, fun vals3 w3 hb3 hF hO => ?_⟩
  · simp only [putsV, dstL, List.length_cons, List.length_nil, Nat.zero_add, Nat.reduceAdd, List.getElem?_cons_zero, List.getElem?_cons_succ, Option.bind_some, Act.put, List.setIfInBounds_toArray, List.set_cons_succ, List.set_cons_zero]
    rfl
  · refine ⟨?_, ?_, ?_, ?_, ?_, ?_, ?_, trivial⟩
    · intro vals W hW hw hd
      try simp [Region.binds] at hd
      refine ⟨by first | rfl | simp [Region.wanted, yielded, hd], ?_⟩
      exact yields_mv (.tmp 0) rfl rfl
    · intro vals W hW hw hd
      try simp [Region.binds] at hd
      refine ⟨by first | rfl | simp [Region.wanted, yielded, hd], ?_⟩
      exact yields_mv (.tmp 2) rfl rfl
    · intro vals W hW hw hd
      try simp [Region.binds] at hd
      refine ⟨by first | rfl | simp [Region.wanted, yielded, hd], ?_⟩
      exact yields_backH (.tmp 27) (.tmp 28) rfl (by first | exact hd | exact hd.1 | exact hd.2 | exact hd.2.1 | exact hd.2.2 | exact hd.2.2.1 | exact hd.2.2.2 | exact hd.2.2.2.1 | exact hd.2.2.2.2) (by first | exact hd | exact hd.1 | exact hd.2 | exact hd.2.1 | exact hd.2.2 | exact hd.2.2.1 | exact hd.2.2.2 | exact hd.2.2.2.1 | exact hd.2.2.2.2) HT.out HC.out
    · intro vals W hW hw hd
      try simp [Region.binds] at hd
      refine ⟨by first | rfl | simp [Region.wanted, yielded, hd], ?_⟩
      exact yields_call1 cfCl (.tmp 29) _ rfl _ (by first | exact hd | exact hd.1 | exact hd.2 | exact hd.2.1 | exact hd.2.2 | exact hd.2.2.1 | exact hd.2.2.2 | exact hd.2.2.2.1 | exact hd.2.2.2.2) ((cloneH_fun (l.drop T) (by rw [List.length_drop]; have := HN.out; omega) _ W ((HV.out.up hW.out).back T HT.out)).mono fun e w' ⟨⟨v', he, hs⟩, hb⟩ => ⟨v', he, hs.mono hW.out.size, hb⟩)
    · intro vals W hW hw hd
      try simp [Region.binds] at hd
      refine ⟨by first | rfl | simp [Region.wanted, yielded, hd], ?_⟩
      exact yields_mv (.tmp 0) rfl rfl
    · intro vals W hW hw hd
      try simp [Region.binds] at hd
      refine ⟨by first | rfl | simp [Region.wanted, yielded, hd], ?_⟩
      exact yields_mv (.tmp 2) rfl rfl
    · intro vals W hW hw hd
      try simp [Region.binds] at hd
      refine ⟨by first | rfl | simp [Region.wanted, yielded, hd], ?_⟩
      exact yields_frontH (.tmp 31) (.tmp 32) rfl (by first | exact hd | exact hd.1 | exact hd.2 | exact hd.2.1 | exact hd.2.2 | exact hd.2.2.1 | exact hd.2.2.2 | exact hd.2.2.2.1 | exact hd.2.2.2.2) (by first | exact hd | exact hd.1 | exact hd.2 | exact hd.2.1 | exact hd.2.2 | exact hd.2.2.1 | exact hd.2.2.2 | exact hd.2.2.2.1 | exact hd.2.2.2.2) (Nat.le_trans (Nat.le_of_lt HT.out) HC.out)
  obtain ⟨f0, f1, f2, f3, f4, f5, f6, _⟩ := hF
  simp only [MP.eq_p] at f0 f1 f2 f4 f5 f6
  rw [f6]
  simp only [List.drop_succ_cons, List.drop_zero]
  have O3 : Hid (Oh w3 w.heap.size (vals3 3) (l.drop T)) := f3
  have V3 : Hid (Shs w3 (.slice (some ⟨b, o, none⟩) T cp) (l.take T)) := (HV.out.up hb3.out).front T (Nat.le_of_lt HT.out)
  have B3 : Hid (Below w.heap.size w w3) := hb3.out
  clear f0 f1 f2 f3 f4 f5 f6 hO hb3
  generalize vals3 3 = v3 at *
  go_wp2_with (refine wp_appH rfl _ _ rfl w.heap.size _ _ (l.drop T) (l.take T) rfl O3.out rfl V3.out (by rw [List.length_drop, List.length_take]; have := HN.out; omega) B3.out.size ?_)
  intro v4 w4 o4 hb4
  have T4 : Hid (Shs w4 v4 (l.drop T ++ l.take T)) := Oh.shs o4
  have b4 : Hid (Below w.heap.size w w4) := Below.grown B3.out hb4 B3.out.size (fun k hk => by
    rcases O3.out.2 with ⟨e, _⟩ | ⟨g, cap, cur, e, hB, _⟩
    · rw [e] at hk; cases hk
    · rw [e] at hk; cases hk; exact hB)
  clear o4 hb4 O3 V3 B3
  go_wp2_with fail
  refine (A1 _ (HV.out.up b4.out)).mono ?_
  rintro e w5 ⟨rfl, hb5⟩
  have T5 : Hid (Shs (kal4 w5 y) v4 (l.drop T ++ l.take T)) := (T4.out.up hb5).up ((Below.refl _ _).alloc (Nat.le_refl _) _)
  have b5 : Hid (Below w.heap.size w w5) := b4.out.trans (hb5.mono b4.out.size)
  have s6 : Hid (Kn (kal4 w5 y) [(w5.heap.size, c4 y)]) := (Kn.nil w5).al (c4 y) 27 rfl
  have b6 : Hid (Below w.heap.size w (kal4 w5 y)) := b5.out.alloc b5.out.size _
  have g6 := b5.out.size
  clear hb5 T4 b4 b5
  go_wp2_with fail
  refine (A2 _ T5.out).mono ?_
  rintro e w7 ⟨rfl, hb7⟩
  have s7 : Hid (Kn w7 [(w5.heap.size, (c4 (y)))]) := s6.out.up hb7
  have b7 : Hid (Below w.heap.size w w7) := b6.out.trans (hb7.mono b6.out.size)
  have z7 := b7.out.size
  clear hb7 s6 b6
  have s8 : Hid (Kn (kal4 w7 (y)) [(w7.heap.size, (c4 (y))), (w5.heap.size, (c4 (y)))]) := s7.out.al (c4 (y)) 27 rfl
  have b8 : Hid (Below w.heap.size w (kal4 w7 (y))) := b7.out.alloc b7.out.size _
  have z8 := b7.out.size
  clear s7 b7
  have ua_0 : (kal4 w7 (y)).cell? ⟨w5.heap.size, 0, none⟩ = some (.int .u64 (y).a) := Kn.get s8.out 1 0 rfl rfl
  have ua_1 : (kal4 w7 (y)).cell? ⟨w5.heap.size, 1, none⟩ = some (.int .u64 (y).b) := Kn.get s8.out 1 1 rfl rfl
  have ua_2 : (kal4 w7 (y)).cell? ⟨w5.heap.size, 2, none⟩ = some (.int .u64 (y).c) := Kn.get s8.out 1 2 rfl rfl
  have ua_3 : (kal4 w7 (y)).cell? ⟨w5.heap.size, 3, none⟩ = some (.int .u64 (y).d) := Kn.get s8.out 1 3 rfl rfl
  have uc_0 : (kal4 w7 (y)).cell? ⟨w7.heap.size, 0, none⟩ = some (.int .u64 (y).a) := Kn.get s8.out 0 0 rfl rfl
  have uc_1 : (kal4 w7 (y)).cell? ⟨w7.heap.size, 1, none⟩ = some (.int .u64 (y).b) := Kn.get s8.out 0 1 rfl rfl
  have uc_2 : (kal4 w7 (y)).cell? ⟨w7.heap.size, 2, none⟩ = some (.int .u64 (y).c) := Kn.get s8.out 0 2 rfl rfl
  have uc_3 : (kal4 w7 (y)).cell? ⟨w7.heap.size, 3, none⟩ = some (.int .u64 (y).d) := Kn.get s8.out 0 3 rfl rfl
  have ca := CX.out _ b8.out
  go_wp2_with fail
  clear ua_0 ua_1 ua_2 ua_3 uc_0 uc_1 uc_2 uc_3
  clear ca
  refine (A3 _ (HV.out.up b8.out)).mono ?_
  rintro e w9 ⟨rfl, hb9⟩
  have s9 : Hid (Kn w9 [(w7.heap.size, (c4 (y))), (w5.heap.size, (c4 (y)))]) := s8.out.up hb9
  have b9 : Hid (Below w.heap.size w w9) := b8.out.trans (hb9.mono b8.out.size)
  have z9 := b9.out.size
  clear hb9 s8 b8
  have s10 : Hid (Kn (kal4 w9 (z)) [(w9.heap.size, (c4 (z))), (w7.heap.size, (c4 (y))), (w5.heap.size, (c4 (y)))]) := s9.out.al (c4 (z)) 27 rfl
  have b10 : Hid (Below w.heap.size w (kal4 w9 (z))) := b9.out.alloc b9.out.size _
  have z10 := b9.out.size
  clear s9 b9
  go_wp2_with fail
  refine wp_region_up (by kernel_rfl) (by kernel_rfl) (fun U hU f hf hcl => ?_)
  have uz_0 := fun nx => (Kn.get (s10.out.up (hf nx).out) 0 0 rfl rfl : (f nx).cell? ⟨w9.heap.size, 0, none⟩ = some (.int .u64 (z).a))
  have uz_1 := fun nx => (Kn.get (s10.out.up (hf nx).out) 0 1 rfl rfl : (f nx).cell? ⟨w9.heap.size, 1, none⟩ = some (.int .u64 (z).b))
  have uz_2 := fun nx => (Kn.get (s10.out.up (hf nx).out) 0 2 rfl rfl : (f nx).cell? ⟨w9.heap.size, 2, none⟩ = some (.int .u64 (z).c))
  have uz_3 := fun nx => (Kn.get (s10.out.up (hf nx).out) 0 3 rfl rfl : (f nx).cell? ⟨w9.heap.size, 3, none⟩ = some (.int .u64 (z).d))
  try simp only [List.append_eq, List.cons_append, List.nil_append]
  repeat (go_big_quiet_step (first | fail))
  refine wpQuiet_nil ?_
  intro nx
  have hb11 := (hf nx).out
  clear hf hcl uz_0 uz_1 uz_2 uz_3
  generalize f nx = w11 at hb11 ⊢
  have s11 : Hid (Kn w11 [(w9.heap.size, (c4 (z))), (w7.heap.size, (c4 (y))), (w5.heap.size, (c4 (y)))]) := s10.out.up hb11
  have b11 : Hid (Below w.heap.size w w11) := b10.out.trans (hb11.mono b10.out.size)
  have z11 := b11.out.size
  clear hb11 s10 b10
  go_wp2_with fail
  go_ret
  exact ⟨rfl, b11.out⟩
set_option maxRecDepth 20000 in
set_option maxHeartbeats 2000000 in
theorem shOr_good (l : List Shr) (b o n cp T : Nat) (hT : T < n) (hn : n ≤ 6) (hc : n ≤ cp) (hln : l.length = n) (x X : Int) (y z : Nm) (w : World) (hv : Shs w (.slice (some ⟨b, o, none⟩) n cp) l)
    (ey : ∀ w, (binOp .neq 27 (N y) (N y)).run Try.prog w = .ok (.bool false) w) (ez : ∀ w, (binOp .eql 27 (N z) (N z)).run Try.prog w = .ok (.bool true) w)
    (CX : Hid (∀ W, Below w.heap.size w W → W.cell? ⟨b, o + T * 5, none⟩ = some (.int .i64 X)))
    (CY : Hid (∀ W, Below w.heap.size w W → W.rangeAt b (o + T * 5 + 1) (c4 z)))
    (A1 : ∀ W, Shs W (.slice (some ⟨b, o, none⟩) n cp) l → Calls Try.prog 6 #[.slice (some ⟨b, o, none⟩) n cp, .int .i64 x] W fun e w' => e = .returned (.tuple #[N y, .int .i64 0]) ∧ Below W.heap.size W w')
    (A2 : ∀ W {v}, Shs W v (l.drop T ++ l.take T) → Calls Try.prog 6 #[v, .int .i64 x] W fun e w' => e = .returned (.tuple #[N y, .int .i64 0]) ∧ Below W.heap.size W w')
    (A3 : ∀ W, Shs W (.slice (some ⟨b, o, none⟩) n cp) l → Calls Try.prog 6 #[.slice (some ⟨b, o, none⟩) n cp, .int .i64 X] W fun e w' => e = .returned (.tuple #[N z, .int .i64 0]) ∧ Below W.heap.size W w') :
    Calls Try.prog 4 #[.slice (some ⟨b, o, none⟩) n cp, .int .i64 x, .int .i64 (T : Int)] w fun e w' => e = .returned (.bool true) ∧ Below w.heap.size w w' := by
  have HV : Hid (Shs w (.slice (some ⟨b, o, none⟩) n cp) l) := hv
  have HT : Hid (T < n) := hT
  have HC : Hid (n ≤ cp) := hc
  have HN : Hid (l.length = n ∧ n ≤ 6) := ⟨hln, hn⟩
  have g6' : ¬ (n : Int) > 6 := by omega
  have t0 : ¬ (T : Int) < 0 := by omega
  have t1 : ¬ (T : Int) ≥ (n : Int) := by omega
  have p0 : (0 : Int) ≤ (T : Int) := by omega
  have p1 : (T : Int) < (n : Int) := by omega
  clear hv hT hc hn hln
  go_enter Try.func4, Try.ntmps4
  go_wp2_with fail
  refine wp_region_monoSE 7 [MP.eq (.slice (some ⟨b, o, none⟩) n cp), MP.eq (.int .i64 (T : Int)), MP.eq (.slice (some ⟨b, o + T * 5, none⟩) (n - T) (cp - T)), MP.oh w.heap.size (l.drop T), MP.eq (.slice (some ⟨b, o, none⟩) n cp), MP.eq (.int .i64 (T : Int)), MP.eq (.slice (some ⟨b, o, none⟩) T cp)] (by kernel_rfl) (by kernel_rfl) rfl (by decide) (by kernel_rfl) ?_
  apply Exists.intro
  refine ⟨fun vals => ?_, ?_, fun vals3 w3 hb3 hF hO => ?_⟩
  · simp only [putsV, dstL, List.length_cons, List.length_nil, Nat.zero_add, Nat.reduceAdd, List.getElem?_cons_zero, List.getElem?_cons_succ, Option.bind_some, Act.put, List.setIfInBounds_toArray, List.set_cons_succ, List.set_cons_zero]
    rfl
  · refine ⟨?_, ?_, ?_, ?_, ?_, ?_, ?_, trivial⟩
    · intro vals W hW hw hd
      try simp [Region.binds] at hd
      refine ⟨by first | rfl | simp [Region.wanted, yielded, hd], ?_⟩
      exact yields_mv (.tmp 0) rfl rfl
    · intro vals W hW hw hd
      try simp [Region.binds] at hd
      refine ⟨by first | rfl | simp [Region.wanted, yielded, hd], ?_⟩
      exact yields_mv (.tmp 2) rfl rfl
    · intro vals W hW hw hd
      try simp [Region.binds] at hd
      refine ⟨by first | rfl | simp [Region.wanted, yielded, hd], ?_⟩
      exact yields_backH (.tmp 27) (.tmp 28) rfl (by first | exact hd | exact hd.1 | exact hd.2 | exact hd.2.1 | exact hd.2.2 | exact hd.2.2.1 | exact hd.2.2.2 | exact hd.2.2.2.1 | exact hd.2.2.2.2) (by first | exact hd | exact hd.1 | exact hd.2 | exact hd.2.1 | exact hd.2.2 | exact hd.2.2.1 | exact hd.2.2.2 | exact hd.2.2.2.1 | exact hd.2.2.2.2) HT.out HC.out
    · intro vals W hW hw hd
      try simp [Region.binds] at hd
      refine ⟨by first | rfl | simp [Region.wanted, yielded, hd], ?_⟩
      exact yields_call1 cfCl (.tmp 29) _ rfl _ (by first | exact hd | exact hd.1 | exact hd.2 | exact hd.2.1 | exact hd.2.2 | exact hd.2.2.1 | exact hd.2.2.2 | exact hd.2.2.2.1 | exact hd.2.2.2.2) ((cloneH_fun (l.drop T) (by rw [List.length_drop]; have := HN.out; omega) _ W ((HV.out.up hW.out).back T HT.out)).mono fun e w' ⟨⟨v', he, hs⟩, hb⟩ => ⟨v', he, hs.mono hW.out.size, hb⟩)
    · intro vals W hW hw hd
      try simp [Region.binds] at hd
      refine ⟨by first | rfl | simp [Region.wanted, yielded, hd], ?_⟩
      exact yields_mv (.tmp 0) rfl rfl
    · intro vals W hW hw hd
      try simp [Region.binds] at hd
      refine ⟨by first | rfl | simp [Region.wanted, yielded, hd], ?_⟩
      exact yields_mv (.tmp 2) rfl rfl
    · intro vals W hW hw hd
      try simp [Region.binds] at hd
      refine ⟨by first | rfl | simp [Region.wanted, yielded, hd], ?_⟩
      exact yields_frontH (.tmp 31) (.tmp 32) rfl (by first | exact hd | exact hd.1 | exact hd.2 | exact hd.2.1 | exact hd.2.2 | exact hd.2.2.1 | exact hd.2.2.2 | exact hd.2.2.2.1 | exact hd.2.2.2.2) (by first | exact hd | exact hd.1 | exact hd.2 | exact hd.2.1 | exact hd.2.2 | exact hd.2.2.1 | exact hd.2.2.2 | exact hd.2.2.2.1 | exact hd.2.2.2.2) (Nat.le_trans (Nat.le_of_lt HT.out) HC.out)
  obtain ⟨f0, f1, f2, f3, f4, f5, f6, _⟩ := hF
  simp only [MP.eq_p] at f0 f1 f2 f4 f5 f6
  rw [f6]
  simp only [List.drop_succ_cons, List.drop_zero]
  have O3 : Hid (Oh w3 w.heap.size (vals3 3) (l.drop T)) := f3
  have V3 : Hid (Shs w3 (.slice (some ⟨b, o, none⟩) T cp) (l.take T)) := (HV.out.up hb3.out).front T (Nat.le_of_lt HT.out)
  have B3 : Hid (Below w.heap.size w w3) := hb3.out
  clear f0 f1 f2 f3 f4 f5 f6 hO hb3
  generalize vals3 3 = v3 at *
  go_wp2_with (refine wp_appH rfl _ _ rfl w.heap.size _ _ (l.drop T) (l.take T) rfl O3.out rfl V3.out (by rw [List.length_drop, List.length_take]; have := HN.out; omega) B3.out.size ?_)
  intro v4 w4 o4 hb4
  have T4 : Hid (Shs w4 v4 (l.drop T ++ l.take T)) := Oh.shs o4
  have b4 : Hid (Below w.heap.size w w4) := Below.grown B3.out hb4 B3.out.size (fun k hk => by
    rcases O3.out.2 with ⟨e, _⟩ | ⟨g, cap, cur, e, hB, _⟩
    · rw [e] at hk; cases hk
    · rw [e] at hk; cases hk; exact hB)
  clear o4 hb4 O3 V3 B3
  go_wp2_with fail
  refine (A1 _ (HV.out.up b4.out)).mono ?_
  rintro e w5 ⟨rfl, hb5⟩
  have T5 : Hid (Shs (kal4 w5 y) v4 (l.drop T ++ l.take T)) := (T4.out.up hb5).up ((Below.refl _ _).alloc (Nat.le_refl _) _)
  have b5 : Hid (Below w.heap.size w w5) := b4.out.trans (hb5.mono b4.out.size)
  have s6 : Hid (Kn (kal4 w5 y) [(w5.heap.size, c4 y)]) := (Kn.nil w5).al (c4 y) 27 rfl
  have b6 : Hid (Below w.heap.size w (kal4 w5 y)) := b5.out.alloc b5.out.size _
  have g6 := b5.out.size
  clear hb5 T4 b4 b5
  go_wp2_with fail
  refine (A2 _ T5.out).mono ?_
  rintro e w7 ⟨rfl, hb7⟩
  have s7 : Hid (Kn w7 [(w5.heap.size, (c4 (y)))]) := s6.out.up hb7
  have b7 : Hid (Below w.heap.size w w7) := b6.out.trans (hb7.mono b6.out.size)
  have z7 := b7.out.size
  clear hb7 s6 b6
  have s8 : Hid (Kn (kal4 w7 (y)) [(w7.heap.size, (c4 (y))), (w5.heap.size, (c4 (y)))]) := s7.out.al (c4 (y)) 27 rfl
  have b8 : Hid (Below w.heap.size w (kal4 w7 (y))) := b7.out.alloc b7.out.size _
  have z8 := b7.out.size
  clear s7 b7
  have ua_0 : (kal4 w7 (y)).cell? ⟨w5.heap.size, 0, none⟩ = some (.int .u64 (y).a) := Kn.get s8.out 1 0 rfl rfl
  have ua_1 : (kal4 w7 (y)).cell? ⟨w5.heap.size, 1, none⟩ = some (.int .u64 (y).b) := Kn.get s8.out 1 1 rfl rfl
  have ua_2 : (kal4 w7 (y)).cell? ⟨w5.heap.size, 2, none⟩ = some (.int .u64 (y).c) := Kn.get s8.out 1 2 rfl rfl
  have ua_3 : (kal4 w7 (y)).cell? ⟨w5.heap.size, 3, none⟩ = some (.int .u64 (y).d) := Kn.get s8.out 1 3 rfl rfl
  have uc_0 : (kal4 w7 (y)).cell? ⟨w7.heap.size, 0, none⟩ = some (.int .u64 (y).a) := Kn.get s8.out 0 0 rfl rfl
  have uc_1 : (kal4 w7 (y)).cell? ⟨w7.heap.size, 1, none⟩ = some (.int .u64 (y).b) := Kn.get s8.out 0 1 rfl rfl
  have uc_2 : (kal4 w7 (y)).cell? ⟨w7.heap.size, 2, none⟩ = some (.int .u64 (y).c) := Kn.get s8.out 0 2 rfl rfl
  have uc_3 : (kal4 w7 (y)).cell? ⟨w7.heap.size, 3, none⟩ = some (.int .u64 (y).d) := Kn.get s8.out 0 3 rfl rfl
  have ca := CX.out _ b8.out
  go_wp2_with fail
  clear ua_0 ua_1 ua_2 ua_3 uc_0 uc_1 uc_2 uc_3
  clear ca
  refine (A3 _ (HV.out.up b8.out)).mono ?_
  rintro e w9 ⟨rfl, hb9⟩
  have s9 : Hid (Kn w9 [(w7.heap.size, (c4 (y))), (w5.heap.size, (c4 (y)))]) := s8.out.up hb9
  have b9 : Hid (Below w.heap.size w w9) := b8.out.trans (hb9.mono b8.out.size)
  have z9 := b9.out.size
  clear hb9 s8 b8
  have s10 : Hid (Kn (kal4 w9 (z)) [(w9.heap.size, (c4 (z))), (w7.heap.size, (c4 (y))), (w5.heap.size, (c4 (y)))]) := s9.out.al (c4 (z)) 27 rfl
  have b10 : Hid (Below w.heap.size w (kal4 w9 (z))) := b9.out.alloc b9.out.size _
  have z10 := b9.out.size
  clear s9 b9
  go_wp2_with fail
  refine wp_region_up (by kernel_rfl) (by kernel_rfl) (fun U hU f hf hcl => ?_)
  have uz_0 := fun nx => (Kn.get (s10.out.up (hf nx).out) 0 0 rfl rfl : (f nx).cell? ⟨w9.heap.size, 0, none⟩ = some (.int .u64 (z).a))
  have uz_1 := fun nx => (Kn.get (s10.out.up (hf nx).out) 0 1 rfl rfl : (f nx).cell? ⟨w9.heap.size, 1, none⟩ = some (.int .u64 (z).b))
  have uz_2 := fun nx => (Kn.get (s10.out.up (hf nx).out) 0 2 rfl rfl : (f nx).cell? ⟨w9.heap.size, 2, none⟩ = some (.int .u64 (z).c))
  have uz_3 := fun nx => (Kn.get (s10.out.up (hf nx).out) 0 3 rfl rfl : (f nx).cell? ⟨w9.heap.size, 3, none⟩ = some (.int .u64 (z).d))
  have cy := fun nx => CY.out (f nx) (b10.out.trans ((hf nx).out.mono b10.out.size))
  try simp only [List.append_eq, List.cons_append, List.nil_append]
  repeat (first | (refine I.quiet_load rfl 27 _ rfl b (o + T * 5 + 1) rfl [.int .u64 z.a, .int .u64 z.b, .int .u64 z.c, .int .u64 z.d] _ (fun W hW => by obtain ⟨nx, rfl⟩ := hW; exact cy nx) Try.underlying27 rfl (info_q4 z) ?_; simp only [Act.put, List.setIfInBounds_toArray, List.set_cons_succ, List.set_cons_zero]) | go_big_quiet_step (first | fail))
  refine wpQuiet_nil ?_
  intro nx
  have hb11 := (hf nx).out
  clear hf hcl uz_0 uz_1 uz_2 uz_3
  generalize f nx = w11 at hb11 ⊢
  have s11 : Hid (Kn w11 [(w9.heap.size, (c4 (z))), (w7.heap.size, (c4 (y))), (w5.heap.size, (c4 (y)))]) := s10.out.up hb11
  have b11 : Hid (Below w.heap.size w w11) := b10.out.trans (hb11.mono b10.out.size)
  have z11 := b11.out.size
  clear hb11 s10 b10
  go_wp2_with fail
  go_ret
  exact ⟨rfl, b11.out⟩
set_option maxHeartbeats 1000000 in
theorem shOr_out (a : Option Addr) (n cp : Nat) (x t : Int) (ht : 6 < n ∨ t < 0 ∨ (n : Int) ≤ t) (w : World) :
    Calls Try.prog 4 #[.slice a n cp, .int .i64 x, .int .i64 t] w fun e w' => e = .returned (.bool true) ∧ Below w.heap.size w w' := by
  by_cases h6 : (n : Int) > 6
  · clear ht
    go_enter Try.func4, Try.ntmps4
    go_wp2_with fail
    go_ret
    exact ⟨rfl, Below.refl _ _⟩
  · by_cases h0 : t < 0
    · clear ht
      go_enter Try.func4, Try.ntmps4
      go_wp2_with fail
      go_ret
      exact ⟨rfl, Below.refl _ _⟩
    · have h1 : t ≥ (n : Int) := by omega
      clear ht
      go_enter Try.func4, Try.ntmps4
      go_wp2_with fail
      go_ret
      exact ⟨rfl, Below.refl _ _⟩
theorem turned_perm (l : List Shr) (T : Nat) : (l.drop T ++ l.take T).Perm l := by
  have h := List.perm_append_comm (l₁ := l.drop T) (l₂ := l.take T)
  rwa [List.take_append_drop] at h
theorem shareOrder_of (AT : AtC) (l : List Shr) (hl : ∀ s ∈ l, s.ok) (x t : Int) (hx : -9223372036854775808 ≤ x ∧ x ≤ 9223372036854775807) (v : Value) (w : World) (hv : Shs w v l) :
    Calls Try.prog 4 #[v, .int .i64 x, .int .i64 t] w fun e w' => e = .returned (.bool true) ∧ Below w.heap.size w w' := by
  obtain ⟨a, cp, rfl, hc, hm⟩ := id hv
  by_cases ho : 6 < l.length ∨ t < 0 ∨ (l.length : Int) ≤ t
  · exact shOr_out a _ cp x t ho w
  obtain ⟨T, rfl⟩ : ∃ T : Nat, t = (T : Int) := ⟨t.toNat, by omega⟩
  have hT : T < l.length := by omega
  have h6 : l.length ≤ 6 := by omega
  obtain ⟨b, o, rfl, hcell⟩ := hm (by omega)
  have hs := l[T].x
  have hsm : l[T] ∈ l := List.getElem_mem hT
  have hok := hl _ hsm
  have R : ∀ W, Below w.heap.size w W → W.rangeAt b (o + T * 5) (shC l[T]) := fun W hW => by
    obtain ⟨a', c', e, -, h⟩ := hv.up hW
    cases e
    obtain ⟨b', o', e, h⟩ := h (by omega)
    cases e
    exact h T _ (List.getElem?_eq_getElem hT)
  have CX : ∀ W, Below w.heap.size w W → W.cell? ⟨b, o + T * 5, none⟩ = some (.int .i64 l[T].x) := fun W hW => R W hW 0 _ rfl
  have CY : ∀ W, Below w.heap.size w W → W.rangeAt b (o + T * 5 + 1) (c4 l[T].y) := fun W hW j u hu => by
    have := R W hW (j + 1) u hu
    rwa [show o + T * 5 + (j + 1) = o + T * 5 + 1 + j by omega] at this
  have hp := turned_perm l T
  have A1 := fun W h => AT l hl x hx (.slice (some ⟨b, o, none⟩) l.length cp) W h
  have A2 : ∀ W {v}, Shs W v (l.drop T ++ l.take T) → Calls Try.prog 6 #[v, .int .i64 x] W fun e w' => e = .returned (.tuple #[N (atM l x), .int .i64 ((fltN l x : Nat) : Int)]) ∧ Below W.heap.size W w' := fun W {v} h => by
    have := AT (l.drop T ++ l.take T) (fun s hs => hl s (hp.mem_iff.1 hs)) x hx v W h
    rwa [atM_perm hp.symm x (by omega), flt_perm hp.symm x (by omega)] at this
  have A3 := fun W h => AT l hl l[T].x hok.1 (.slice (some ⟨b, o, none⟩) l.length cp) W h
  have ey : ∀ y w, (binOp .neq 27 (N y) (N y)).run Try.prog w = .ok (.bool false) w := fun y w => by rw [neN, Nm.beq_self]; rfl
  by_cases hf : fltN l x = 0
  · have ha := atM_own hf l[T] hsm hok.2
    rw [hf] at A1 A2
    rw [ha.1, ha.2] at A3
    exact shOr_good l b o _ cp T hT h6 hc.1 rfl x _ _ _ w hv (ey _) (fun w => by rw [eqN, Nm.beq_self]) CX CY A1 A2 A3
  · exact shOr_bad l b o _ cp T hT h6 hc.1 rfl x _ _ _ _ _ w hv (by rw [bne_iff_ne]; omega) (ey _) CX A1 A2 A3
end Go.Proofs.Ytdcpicbkemmakaa
