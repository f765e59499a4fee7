/- Texts that were joined: DDigP, DDig, UpMS, FeN. -/
import Derived.Test.YtpnfopakkaoibaaQDMathToDTimes
import Derived.Deep.RegionHeld
import Derived.Test.YtpnfopakkaoibaaQNumToKn
import Derived.Test.YtpnfopakkaoibaaQQMathToAdN
import Derived.Test.YtpnfopakkaoibaaQUpMToUpS
import Derived.Test.YtpnfopakkaoibaaQFeM
import Derived.Test.YtpnfopakkaoibaaQDWordsToDNum
import Derived.Test.YtpnfopakkaoibaaQDMinusToDParts
/- The contract of sealringref.Digits: a row of words' digits. -/
namespace Go.Proofs.Ytpnfopakkaoibaa
open Go.RowKit
attribute [local go_sem] World.cell?_alloc_some
/-- The number of a row of words. -/
def wv : List Nat → Nat
  | [] => 0
  | x :: xs => x + 18446744073709551616 * wv xs
theorem wv_take_succ (ws : List Nat) (j : Nat) (hj : j < ws.length) : wv (ws.take (j + 1)) = wv (ws.take j) + 65536 ^ (4 * j) * ws.getD j 0 := by
  induction ws generalizing j with
  | nil => simp at hj
  | cons x xs ih =>
    cases j with
    | zero => simp [wv]
    | succ j =>
      rw [List.take_succ_cons, wv, ih j (by simpa using hj), List.take_succ_cons, wv, List.getD_cons_succ, show 4 * (j + 1) = 4 * j + 4 by omega, Nat.pow_add]
      generalize 65536 ^ (4 * j) = B
      grind
set_option maxHeartbeats 2000000 in
theorem digits_fun (b : Nat) (ws : List Nat) (hw : ∀ x ∈ ws, x < 18446744073709551616) (n cp : Nat) (hn : n = ws.length) (ln : n < 65536) (w : World) (hc : ∀ j, j < n → w.cell? ⟨b, j, none⟩ = some (.int .u64 ((ws.getD j 0 : Nat) : Int))) :
    Calls Try.prog 57 #[.slice (some ⟨b, 0, none⟩) n cp] w fun e w' => (∃ v', e = .returned v' ∧ Sl w' v' (P.dg (wv ws))) ∧ Below w.heap.size w w' := by
  have HC : Hid _ := hc
  have HN : Hid _ := hn
  have HW : Hid _ := hw
  clear hc hn hw
  go_enter Try.func57, Try.ntmps57
  go_wp2_with fail
  go_loopw [3, 8] (fun o i wr => ∃ (j : Nat) (os : List Nat), j ≤ n ∧ i = .int .i64 j ∧ os.length = 4 * j ∧ P.Dg os ∧ Hid (P.dv os = wv (ws.take j)) ∧ Hid (Ow wr w.heap.size o os) ∧ Hid (Below w.heap.size w wr)) (fun _ i _ => n - (intOf i).toNat)
  case atStart => exact ⟨0, [], by omega, rfl, rfl, fun x hx => (by cases hx), (by simp [P.dv, wv] : P.dv [] = wv (ws.take 0)), Ow.nil _ _, Below.refl _ _⟩
  case round =>
    obtain ⟨j, os, hj, rfl, hlen, hdg, HV, ho, hb⟩ := hrel
    by_cases h1 : j < n
    · have i1 : (j : Int) < (n : Int) := by omega
      have i0 : (0 : Int) ≤ (j : Int) := by omega
      have hcell : wr.cell? ⟨b, j, none⟩ = some (.int .u64 ((ws.getD j 0 : Nat) : Int)) := (hb.out.cell (p := ⟨b, j, none⟩) (lt_of_cell (HC.out j h1))).trans (HC.out j h1)
      have NX : Hid _ := wv_take_succ ws j (by rw [← HN.out]; exact h1)
      have xl : ws.getD j 0 < 18446744073709551616 := by
        rw [List.getD_eq_getElem?_getD, List.getElem?_eq_getElem (by rw [← HN.out]; exact h1)]
        exact HW.out _ (List.getElem_mem _)
      generalize ws.getD j 0 = x at *
      have x0 : (0 : Int) ≤ (x : Int) := by omega
      have x1 : (x : Int) < 18446744073709551616 := by omega
      go_wp2_with fail
      go_loopw [3, 5, 12] (fun o c i wr' => ∃ (r : Nat) (os' : List Nat), r ≤ 4 ∧ i = .int .i64 r ∧ c = .int .u64 ((x / 65536 ^ r : Nat) : Int) ∧ os'.length = 4 * j + r ∧ P.Dg os' ∧ Hid (P.dv os' = wv (ws.take j) + 65536 ^ (4 * j) * (x % 65536 ^ r)) ∧ Hid (Ow wr' w.heap.size o os') ∧ Hid (Below w.heap.size w wr')) (fun _ _ i _ => 4 - (intOf i).toNat)
      case atStart => exact ⟨0, os, by omega, rfl, by simp, by omega, hdg, (by simp [HV.out, Nat.mod_one] : P.dv os = wv (ws.take j) + 65536 ^ (4 * j) * (x % 65536 ^ 0)), ho, hb⟩
      case round =>
        clear ho hb HV hdg hlen hcell
        obtain ⟨r, os, hr, rfl, rfl, hlen, hdg, HV, ho, hb⟩ := hrel
        by_cases h4 : r < 4
        · have i4 : (r : Int) < 4 := by omega
          have yl : x / 65536 ^ r < 18446744073709551616 := Nat.lt_of_le_of_lt (Nat.div_le_self _ _) xl
          have MS : Hid _ := P.mod_pow_succ' x r
          have DS : Hid (x / 65536 ^ (r + 1) = x / 65536 ^ r / 65536) := by rw [Nat.pow_succ, Nat.div_div_eq_div_mul]; exact (rfl : x / (65536 ^ r * 65536) = _)
          generalize x / 65536 ^ r = y at *
          have y0 : (0 : Int) ≤ (y : Int) := by omega
          have y1 : (y : Int) < 18446744073709551616 := by omega
          have TM : Hid ((y : Int) % 65536 = ((y % 65536 : Nat) : Int)) := (by omega : (y : Int) % 65536 = ((y % 65536 : Nat) : Int))
          go_wp2_with (at_builtin; refine wp_app rfl _ _ rfl w.heap.size _ os (y % 65536) _ wr rfl ho.out ((Below.refl _ _).alloc (Nat.le_refl _) _) ⟨wr.heap.size, 0, none⟩ rfl (by simp) TM.out (by omega) hb.out.size ?_)
          intro v' w3 o3 hb3
          have O3 : Hid _ := o3
          have b3 : Hid (Below w.heap.size w w3) := hb.out.trans hb3
          clear o3 hb3 ho hb
          go_wp2_with fail
          go_roundw
          case rel =>
            refine ⟨r + 1, os ++ [y % 65536], by omega, by go_num, ?_, by simp; omega, hdg.append (P.Dg.one (Nat.mod_lt _ (by decide))), ?_, O3, b3⟩
            · rw [DS.out]; exact congrArg (Value.int .u64) (by omega)
            · show P.dv (os ++ [y % 65536]) = _
              rw [P.dv_append, hlen, P.dv, P.dv, Nat.mul_zero, Nat.add_zero, HV.out, MS.out, Nat.mul_add, Nat.pow_add, Nat.mul_assoc, Nat.add_assoc]
          case measure => simp [intOf]; omega
        · have i4 : ¬ (r : Int) < 4 := by omega
          have r4 : r = 4 := by omega
          subst r4
          have VV : Hid (P.dv os = wv (ws.take (j + 1))) := by
            have h := HV.out
            rw [Nat.mod_eq_of_lt (show x < 65536 ^ 4 by omega)] at h
            show P.dv os = wv (ws.take (j + 1))
            rw [NX.out, h]
          go_wp2_with fail
          go_roundw
          case rel => exact ⟨j + 1, os, by omega, by go_num, by omega, hdg, VV, ho, hb⟩
          case measure => simp [intOf]; omega
    · have i1 : ¬ (j : Int) < (n : Int) := by omega
      have V : Hid (P.dv os = wv ws) := by
        have h := HV.out
        rw [List.take_of_length_le (by have := HN.out; omega)] at h
        exact h
      go_wp2_with fail
      refine (trim_fun _ os hdg (by omega) _ (Ow.sl ho.out)).mono ?_
      rintro e w1 ⟨⟨v', rfl, hs⟩, hb1⟩
      have b1 : Hid (Below w.heap.size w w1) := hb.out.trans (hb1.mono hb.out.size)
      have HS : Hid _ := hs
      clear hs hb1 hb ho
      go_wp2_with fail
      go_ret
      exact ⟨⟨v', rfl, by rw [← V.out]; exact HS.out⟩, b1.out⟩
end Go.Proofs.Ytpnfopakkaoibaa

/- The contract of sealringref.OfNum and OfWide. -/
namespace Go.Proofs.Ytpnfopakkaoibaa
open Go.RowKit
attribute [local go_sem] World.cell?_alloc_some
theorem toNat_word {x : Int} (h : Word x) : ((x.toNat : Nat) : Int) = x ∧ x.toNat < 18446744073709551616 := ⟨Int.toNat_of_nonneg h.1, by have := h.1; have := h.2; omega⟩
theorem wv_num {x : Nm} (h : x.ok) : wv [x.a.toNat, x.b.toNat, x.c.toNat, x.d.toNat] = x.nat := by
  have h1 := Nm.nat_cast h
  unfold Nm.val at h1
  have a1 := (toNat_word h.a).1; have b1 := (toNat_word h.b).1; have c1 := (toNat_word h.c).1; have d1 := (toNat_word h.d).1
  simp only [wv]
  omega
set_option maxHeartbeats 1000000 in
theorem ofNum_fun (x : Nm) (hx : x.ok) (w : World) :
    Calls Try.prog 29 #[N x] w fun e w' => (∃ v', e = .returned v' ∧ Sl w' v' (P.dg x.nat)) ∧ Below w.heap.size w w' := by
  have D : Hid (∀ (b : Nat) (w : World), (∀ j, j < 4 → w.cell? ⟨b, j, none⟩ = some (.int .u64 (([x.a.toNat, x.b.toNat, x.c.toNat, x.d.toNat].getD j 0 : Nat) : Int))) → Calls Try.prog 57 #[.slice (some ⟨b, 0, none⟩) 4 4] w fun e w' => (∃ v', e = .returned v' ∧ Sl w' v' (P.dg x.nat)) ∧ Below w.heap.size w w') := by
    intro b w h
    rw [← wv_num hx]
    refine digits_fun b _ ?_ 4 4 rfl (by decide) w h
    intro y hy
    simp only [List.mem_cons, List.not_mem_nil, or_false] at hy
    rcases hy with rfl | rfl | rfl | rfl
    · exact (toNat_word hx.a).2
    · exact (toNat_word hx.b).2
    · exact (toNat_word hx.c).2
    · exact (toNat_word hx.d).2
  have CE : Hid _ := And.intro (toNat_word hx.a).1 (And.intro (toNat_word hx.b).1 (And.intro (toNat_word hx.c).1 (toNat_word hx.d).1))
  go_enter Try.func29, Try.ntmps29
  go_wp2_with fail
  refine (D.out _ _ ?_).mono ?_
  · obtain ⟨ea, eb, ec, ed⟩ := CE.out
    intro j hj
    match j, hj with
    | 0, _ => simp [ea]
    | 1, _ => simp [eb]
    | 2, _ => simp [ec]
    | 3, _ => simp [ed]
  rintro e w1 ⟨⟨v', rfl, hs⟩, hb1⟩
  have HS : Hid _ := hs
  have b1 : Hid (Below w.heap.size w w1) := Below.trans (((Below.refl _ _).alloc (by simp) _).alloc (by simp) _) (hb1.mono (by simp <;> omega))
  clear hs hb1
  go_wp2_with fail
  go_ret
  exact ⟨⟨v', rfl, HS.out⟩, b1.out⟩
end Go.Proofs.Ytpnfopakkaoibaa

/- The properties of slices of digits, for UpM's law. -/
namespace Go.Proofs.Ytpnfopakkaoibaa
open Go.RowKit
def MP.sl (xs : List Nat) : MP := ⟨fun v w => Sl w v xs, fun h hb => Sl.up h hb⟩
def MP.sl2 (xs ys : List Nat) : MP := ⟨fun v w => ∃ x y, v = .tuple #[x, y] ∧ Sl w x xs ∧ Sl w y ys, fun ⟨x, y, e, h1, h2⟩ hb => ⟨x, y, e, Sl.up h1 hb, Sl.up h2 hb⟩⟩
theorem MP.sl_p (xs : List Nat) (v : Value) (w : World) : (MP.sl xs).p v w = Sl w v xs := rfl
theorem MP.sl2_p (xs ys : List Nat) (v : Value) (w : World) : (MP.sl2 xs ys).p v w = ∃ x y, v = .tuple #[x, y] ∧ Sl w x xs ∧ Sl w y ys := rfl
end Go.Proofs.Ytpnfopakkaoibaa

/- The contracts of sealringref's small, feOf, Modulus, Field and Fe.Num. -/
namespace Go.Proofs.Ytpnfopakkaoibaa.I
open Go.RowKit
set_option linter.unusedSimpArgs false
attribute [local go_sem] World.cell?_alloc_some frozen?_alloc_cells frozen_out
/-- A number of one digit. -/
def sf (n : Nat) : Nat → Nat := fun i => if i = 0 then n else 0
theorem sf_fd {n : Nat} (h : n < 65536) (i : Nat) : sf n i = fd n i := by
  unfold sf fd
  cases i with
  | zero => rw [if_pos rfl, Nat.pow_zero, Nat.div_one, Nat.mod_eq_of_lt h]
  | succ i =>
    rw [if_neg (by omega), Nat.div_eq_of_lt]
    rw [Nat.pow_succ]
    exact Nat.lt_of_lt_of_le h (Nat.le_mul_of_pos_left _ (Nat.pow_pos (by decide)))
theorem built_small (n : Nat) : Try.prog.built 70 [(0, dI n)] = some ((row 16 (sf n)).map dI).toArray := by kernel_rfl
theorem wp_buildS {ops : Array Oper} {rest : List Oper} {o : Oper} {a : Act} {Q : Exit → Act → World → Prop} {w : World} (hgd : o.guard = none) (x : Operand) (ho : o.op = .build 70 #[(0, x)]) (n : Nat) (hx : a.eval x = dI n)
    (h : wpList Try.prog ops Q rest (a.put o.dst (aI 16 (sf n))) w) : wpList Try.prog ops Q (o :: rest) a w := by
  refine wpList_plain hgd fun K hK => ?_
  have e : (Instr.build 70 ((#[(0, x)] : Array (Nat × Operand)).map fun x => (x.fst, a.eval x.snd))).run Try.prog w = .ok (aI 16 (sf n)) w := run_build w 70 _ _ (by simpa [hx] using built_small n)
  unfold Oper.wp
  simp only [execOp, ho, Sem.run_bind, e, Result.andThen_ok, Sem.run_pure]
  exact hK _ _ h
set_option maxRecDepth 20000 in
set_option maxHeartbeats 1000000 in
theorem small_fun (n : Nat) (w : World) : Calls Try.prog 80 #[dI n] w fun e w' => e = .returned (aI 16 (sf n)) ∧ Below w.heap.size w w' := by
  obtain ⟨x0, x1⟩ := al1 w #[Value.int IntKind.i64 0, Value.int IntKind.i64 0, Value.int IntKind.i64 0, Value.int IntKind.i64 0, Value.int IntKind.i64 0, Value.int IntKind.i64 0, Value.int IntKind.i64 0, Value.int IntKind.i64 0, Value.int IntKind.i64 0, Value.int IntKind.i64 0, Value.int IntKind.i64 0, Value.int IntKind.i64 0, Value.int IntKind.i64 0, Value.int IntKind.i64 0, Value.int IntKind.i64 0, Value.int IntKind.i64 0] 70
  have X0 : Hid (Ar _ w.heap.size 16 z0) := x0
  have X1 : Hid (Below w.heap.size w _) := x1
  clear x0 x1
  have TT : Hid _ := X0.out.there (o := 0) (n := ((row 16 (sf n)).map dI).length) (by rw [List.length_map, List.length_map, row_length, row_length]; omega)
  go_enter Try.func80, Try.ntmps80
  go_wp2_with (first | simp only [zero_fe] | refine wp_buildS rfl (.tmp 3) rfl n rfl ?_ | refine wp_store_eq rfl 70 (.tmp 2) (.tmp 4) rfl w.heap.size 0 ((row 16 (sf n)).map dI) rfl rfl TT.out (info_row info_fe (sf n)) (one_dI _) ?_)
  intro w9 hw9
  go_wp2_with fail
  refine bodyPost_ret (v := aI 16 (sf n)) ?_ rfl ⟨rfl, ?_⟩
  · rw [hw9.out]
    exact results_cell (b := w.heap.size) rfl rfl (World.rangeAt_setCells_same _ _ _ _ TT.out) u_fe rfl (info_row info_fe (sf n))
  · rw [hw9.out]
    exact below_setCells _ _ _ X1.out (Nat.le_refl _)
theorem small_fe (n : Nat) (h : n < 65536) (w : World) : Calls Try.prog 80 #[dI n] w fun e w' => e = .returned (fe n) ∧ Below w.heap.size w w' := by
  have := small_fun n w
  rw [aI_congr (f := sf n) (g := fd n) fun i _ => sf_fd h i] at this
  exact this
theorem dv_row (f : Nat → Nat) : ∀ n, P.dv (row n f) = sm f n
  | 0 => rfl
  | n + 1 => by
    unfold row sm
    rw [List.range_succ, List.map_append, P.dv_append, List.length_map, List.length_range, show P.dv (List.map f [n]) = f n by simp [P.dv], Nat.mul_comm]
    congr 1
    exact dv_row f n
theorem Ar.sl {w : World} {k n : Nat} {f : Nat → Nat} (h : Ar w k n f) : Sl w (.slice (some ⟨k, 0, none⟩) n n) (row n f) := by
  refine .inr ⟨k, 0, n, by rw [row_length], by rw [row_length]; exact Nat.le_refl _, fun j hj => ?_⟩
  rw [row_length] at hj
  rw [Nat.zero_add, Ar.at h hj]
  simp [row, hj]
theorem row_Dg {f : Nat → Nat} {n : Nat} (h : ∀ i, f i < 65536) : P.Dg (row n f) := fun x hx => by
  obtain ⟨i, _, rfl⟩ := List.mem_map.1 hx
  exact h i
set_option maxRecDepth 20000 in
set_option maxHeartbeats 1000000 in
theorem num_fe (x : Nat) (hx : x < F.p) (w : World) : Calls Try.prog 55 #[fe x] w fun e w' => e = .returned (N (nm x)) ∧ Below w.heap.size w w' := by
  obtain ⟨x0, x1⟩ := al1 w ((row 16 (fd x)).map dI).toArray 70
  have s0 : Hid (Kn (kz4 (w.alloc (.cells ((row 16 (fd x)).map dI).toArray 70))) [(w.heap.size + 1, zz4)]) := (Kn.nil _).al zz4 28 (by simp)
  have b0 : Hid (Below w.heap.size w (kz4 (w.alloc (.cells ((row 16 (fd x)).map dI).toArray 70)))) := x1.alloc (by simp) _
  have TN : Hid (∀ W, Below (w.heap.size + 1) (w.alloc (.cells ((row 16 (fd x)).map dI).toArray 70)) W → Calls Try.prog 28 #[.slice (some ⟨w.heap.size, 0, none⟩) 16 16] W fun e w' => e = .returned (N (nm x)) ∧ Below W.heap.size W w') := fun W hW => by
    have h : Ar W w.heap.size 16 (fd x) := x0.up hW (by omega)
    have := toNum_fun _ _ (row_Dg (n := 16) fun i => fd_lt x i) (by rw [row_length]; decide) W (Ar.sl h)
    rwa [dv_row, sm_top hx, Nat.mod_eq_of_lt (Nat.lt_trans hx F.p_lt)] at this
  have bb : Hid (Below (w.heap.size + 1) (w.alloc (.cells ((row 16 (fd x)).map dI).toArray 70)) (kz4 (w.alloc (.cells ((row 16 (fd x)).map dI).toArray 70)))) := (Below.refl _ _).alloc (by simp) _
  clear x0 x1
  go_enter Try.func55, Try.ntmps55
  go_wp2_with (rw [slice_all u_fe gi_int (by decide)])
  refine (TN.out _ bb.out).mono ?_
  rintro e w1 ⟨rfl, hb1⟩
  have s1 : Hid (Kn w1 [(w.heap.size + 1, zz4)]) := s0.out.up hb1
  have b1 : Hid (Below w.heap.size w w1) := b0.out.trans (hb1.mono b0.out.size)
  have z1 := b1.out.size
  clear hb1 s0 b0
  have uro_0 : w1.cell? ⟨w.heap.size + 1, 0, none⟩ = some (.int .u64 0) := Kn.get s1.out 0 0 rfl rfl
  have uro_1 : w1.cell? ⟨w.heap.size + 1, 1, none⟩ = some (.int .u64 0) := Kn.get s1.out 0 1 rfl rfl
  have uro_2 : w1.cell? ⟨w.heap.size + 1, 2, none⟩ = some (.int .u64 0) := Kn.get s1.out 0 2 rfl rfl
  have uro_3 : w1.cell? ⟨w.heap.size + 1, 3, none⟩ = some (.int .u64 0) := Kn.get s1.out 0 3 rfl rfl
  have uro_z : ∀ j, w1.frozen? ⟨w.heap.size + 1, j, none⟩ = false := Kn.fz s1.out 0 rfl
  have s2 : Hid (Kn (st4 w1 (w.heap.size + 1) (nm x)) [(w.heap.size + 1, (c4 (nm x)))]) := Kn.st4 (L := []) (s1.out.front 0 rfl) (nm x)
  have b2 : Hid (Below w.heap.size w (st4 w1 (w.heap.size + 1) (nm x))) := below_st4 b1.out (by omega)
  clear s1 b1
  go_wp2_with fail
  clear uro_0 uro_1 uro_2 uro_3 uro_z
  have urr_0 : (st4 w1 (w.heap.size + 1) (nm x)).cell? ⟨w.heap.size + 1, 0, none⟩ = some (.int .u64 (nm x).a) := Kn.get s2.out 0 0 rfl rfl
  have urr_1 : (st4 w1 (w.heap.size + 1) (nm x)).cell? ⟨w.heap.size + 1, 1, none⟩ = some (.int .u64 (nm x).b) := Kn.get s2.out 0 1 rfl rfl
  have urr_2 : (st4 w1 (w.heap.size + 1) (nm x)).cell? ⟨w.heap.size + 1, 2, none⟩ = some (.int .u64 (nm x).c) := Kn.get s2.out 0 2 rfl rfl
  have urr_3 : (st4 w1 (w.heap.size + 1) (nm x)).cell? ⟨w.heap.size + 1, 3, none⟩ = some (.int .u64 (nm x).d) := Kn.get s2.out 0 3 rfl rfl
  refine bodyPost_ret (v := N (nm x)) ?_ rfl ⟨rfl, b2.out⟩
  show (results Try.f55 _).run Try.prog (st4 w1 (w.heap.size + 1) (nm x)) = .ok _ (st4 w1 (w.heap.size + 1) (nm x))
  clear s2 b2
  generalize (st4 w1 (w.heap.size + 1) (nm x)) = W9 at *
  simp [results, Try.results55, go_sem, urr_0, urr_1, urr_2, urr_3]
set_option maxRecDepth 20000 in
set_option maxHeartbeats 1000000 in
theorem feOf_fun (v : Value) (xs : List Nat) (w : World) (sv : Sl w v xs) : Calls Try.prog 78 #[v] w fun e w' => e = .returned (aI 16 (fun i => xs.getD i 0)) ∧ Below w.heap.size w w' := by
  obtain ⟨g, hg⟩ : ∃ g : Nat → Nat, g = fun i => xs.getD i 0 := ⟨_, rfl⟩
  have DF : Hid (∀ W, Below w.heap.size w W → ∀ j : Nat, Calls Try.prog 58 #[v, .int .i64 (j : Int)] W fun e w' => e = .returned (dI (g j)) ∧ Below W.heap.size W w') := fun W hW j => by
    rw [hg]
    exact digit_fun v xs j W (Sl.up (xs := xs) sv hW)
  rw [← hg]
  obtain ⟨x0, x1, x2⟩ := al2 w #[Value.int IntKind.i64 0, Value.int IntKind.i64 0, Value.int IntKind.i64 0, Value.int IntKind.i64 0, Value.int IntKind.i64 0, Value.int IntKind.i64 0, Value.int IntKind.i64 0, Value.int IntKind.i64 0, Value.int IntKind.i64 0, Value.int IntKind.i64 0, Value.int IntKind.i64 0, Value.int IntKind.i64 0, Value.int IntKind.i64 0, Value.int IntKind.i64 0, Value.int IntKind.i64 0, Value.int IntKind.i64 0] #[Value.int IntKind.i64 0, Value.int IntKind.i64 0, Value.int IntKind.i64 0, Value.int IntKind.i64 0, Value.int IntKind.i64 0, Value.int IntKind.i64 0, Value.int IntKind.i64 0, Value.int IntKind.i64 0, Value.int IntKind.i64 0, Value.int IntKind.i64 0, Value.int IntKind.i64 0, Value.int IntKind.i64 0, Value.int IntKind.i64 0, Value.int IntKind.i64 0, Value.int IntKind.i64 0, Value.int IntKind.i64 0] 70 70
  have X0 : Hid (Ar _ w.heap.size 16 z0) := x0
  have X1 : Hid (Ar _ (w.heap.size + 1) 16 z0) := x1
  have X2 : Hid (Below w.heap.size w _) := x2
  obtain ⟨av, cv, rfl⟩ := sv.parts
  generalize xs.length = nv at *
  clear x0 x1 x2 sv hg
  go_enter Try.func78, Try.ntmps78
  go_wp2_with (simp only [zero_fe])
  try rw [show Try.zeroCells70 = #[Value.int IntKind.i64 0, Value.int IntKind.i64 0, Value.int IntKind.i64 0, Value.int IntKind.i64 0, Value.int IntKind.i64 0, Value.int IntKind.i64 0, Value.int IntKind.i64 0, Value.int IntKind.i64 0, Value.int IntKind.i64 0, Value.int IntKind.i64 0, Value.int IntKind.i64 0, Value.int IntKind.i64 0, Value.int IntKind.i64 0, Value.int IntKind.i64 0, Value.int IntKind.i64 0, Value.int IntKind.i64 0] from rfl]
  generalize World.alloc (w.alloc _) _ = w1 at *
  go_loopw [5] (fun i wr => ∃ j : Nat, j ≤ 16 ∧ i = .int .i64 (j : Int) ∧ Hid (Ar wr w.heap.size 16 z0) ∧ Hid (Ar wr (w.heap.size + 1) 16 (less g j)) ∧ Hid (Below w.heap.size w wr)) (fun i _ => 16 - (intOf i).toNat)
  case atStart => exact ⟨0, by omega, rfl, X0, X1.out.congr fun i _ => less_zero g i, X2⟩
  case round =>
    clear X0 X1 X2
    obtain ⟨j, hj, rfl, X0, X1, X2⟩ := hrel
    by_cases hj1 : j < 16
    · have j1 : (j : Int) < 16 := by omega
      have wj : IntKind.i64.wrap ((j : Int) + 1) = (j : Int) + 1 := by rw [IntKind.wrap_i64]; omega
      have J1 : Hid (j < 16) := hj1
      clear hj hj1
      go_wp2_with fail
      refine (DF.out wr X2.out j).mono ?_
      rintro e w2 ⟨rfl, hb⟩
      have Y0 : Hid (Ar w2 w.heap.size 16 z0) := X0.out.up hb X0.out.lt
      have Y1 : Hid (Ar w2 (w.heap.size + 1) 16 (less g j)) := X1.out.up hb X1.out.lt
      have Y2 : Hid (Below w.heap.size w w2) := X2.out.trans (hb.mono X2.out.size)
      have c1 := Y1.out.at (j := j) J1.out
      have z1 := Y1.out.fz j
      have V0 : Hid _ := Y0.out.apart1 (k' := w.heap.size + 1) (o := j) (v := dI (g j)) (by omega)
      have V1 : Hid (Ar (w2.setCell ⟨w.heap.size + 1, j, none⟩ (dI (g j))) (w.heap.size + 1) 16 (less g (j + 1))) := (Y1.out.set J1.out (g j)).congr fun i _ => less_step g j i
      have V2 : Hid _ := Y2.out.setCell (p := ⟨w.heap.size + 1, j, none⟩) (show w.heap.size ≤ w.heap.size + 1 by omega) (dI (g j))
      generalize less g j j = lv at *
      generalize g j = gv at *
      clear hb X0 X1 X2 Y0 Y1 Y2
      go_wp2_with fail
      go_roundw
      case rel => exact ⟨j + 1, J1.out, by first | rfl | go_num, V0, V1, V2⟩
      case measure => have := J1.out; simp [intOf]; omega
    · obtain rfl : j = 16 := by omega
      have j16 : ¬ (((16 : Nat) : Int) < 16) := by decide
      replace X1 : Hid (Ar wr (w.heap.size + 1) 16 g) := X1.out.congr fun i hi => less_all g i hi
      have TT : Hid (wr.there w.heap.size 0 ((row 16 g).map dI).length) := X0.out.there (by rw [List.length_map, List.length_map, row_length, row_length]; omega)
      clear hj hj1
      go_wp2_with (first | refine wpList_load_mid rfl 70 (.tmp 3) rfl (w.heap.size + 1) 0 rfl ((row 16 g).map dI) _ X1.out.all u_fe rfl (info_row info_fe g) ?_ | refine wp_store_eq rfl 70 (.tmp 2) (.tmp 14) rfl w.heap.size 0 ((row 16 g).map dI) rfl rfl TT.out (info_row info_fe g) (one_dI _) ?_)
      intro w9 hw9
      go_wp2_with fail
      refine bodyPost_ret (v := aI 16 g) ?_ rfl ⟨rfl, ?_⟩
      · rw [hw9.out]
        exact results_cell (b := w.heap.size) rfl rfl (World.rangeAt_setCells_same _ _ _ _ TT.out) u_fe rfl (info_row info_fe g)
      · rw [hw9.out]
        exact below_setCells _ _ _ X2.out (Nat.le_refl _)
theorem feOf_fe (X : Nat) (v : Value) (w : World) (sv : Sl w v (P.dg X)) : Calls Try.prog 78 #[v] w fun e w' => e = .returned (fe X) ∧ Below w.heap.size w w' := by
  have := feOf_fun v _ w sv
  rw [aI_congr (f := fun i => (P.dg X).getD i 0) (g := fd X) fun i _ => by rw [P.dig (P.dg_Dg X), P.dv_dg]; rfl] at this
  exact this
theorem dg_small {n : Nat} (h : n < 65536) (h0 : 0 < n) : P.dg n = [n] := by
  rw [P.dg_pos (by omega), Nat.mod_eq_of_lt h, Nat.div_eq_of_lt h, P.dg_zero]
/-- sealringref.Minus, of a number and one of one digit. -/
theorem minus_one (X n : Nat) (hX : X < 65536 ^ 64) (h : n < 65536) (h0 : 0 < n) (hl : n ≤ X) (u v : Value) (w : World) (su : Sl w u (P.dg X)) (sv : Sl w v [n]) : Calls Try.prog 77 #[u, v] w fun e w' => (∃ v', e = .returned v' ∧ Sl w' v' (P.dg (X - n))) ∧ Below w.heap.size w w' := by
  rw [← dg_small h h0] at sv
  have := dminus_fun u v _ _ (P.dg_Dg X) (P.dg_Dg n) (Nat.lt_trans (dshort hX) (by decide)) (by rw [P.dv_dg, P.dv_dg]; exact hl) w su sv
  rwa [P.dv_dg, P.dv_dg] at this
set_option maxRecDepth 20000 in
set_option maxHeartbeats 1000000 in
theorem modulus_fun (w : World) : Calls Try.prog 79 #[] w fun e w' => (∃ v', e = .returned v' ∧ Sl w' v' (P.dg F.p)) ∧ Below w.heap.size w w' := by
  have T : Hid (∀ W, Calls Try.prog 26 #[.int .i64 255] W fun e w' => (∃ v', e = .returned v' ∧ Sl w' v' (P.dg (2 ^ 255))) ∧ Below W.heap.size W w') := fun W => twoTo_n 255 (by decide) W
  have M1 : Hid (∀ u v W, Sl W u (P.dg (2 ^ 255)) → Sl W v [19] → Calls Try.prog 77 #[u, v] W fun e w' => (∃ v', e = .returned v' ∧ Sl w' v' (P.dg F.p)) ∧ Below W.heap.size W w') := fun u v W su sv => by
    have := minus_one (2 ^ 255) 19 (by decide) (by decide) (by decide) (by decide) u v W su sv
    rwa [show 2 ^ 255 - 19 = F.p by decide] at this
  go_enter Try.func79, Try.ntmps79
  go_wp2_with fail
  refine (T.out w).mono ?_
  rintro e w1 ⟨⟨u, rfl, su⟩, hb⟩
  have SU : Hid (Sl (w1.alloc (.cells #[.int .i64 19] 3)) u (P.dg (2 ^ 255))) := Sl.up (xs := P.dg (2 ^ 255)) su ((Below.refl _ _).alloc (Nat.le_refl _) _)
  have B1 : Hid (Below w.heap.size w (w1.alloc (.cells #[.int .i64 19] 3))) := Below.alloc hb hb.size _
  have S1 : Hid _ := Sl.one w1 19 19 rfl
  clear su hb T
  go_wp2_with fail
  refine (M1.out _ _ _ SU.out S1.out).mono ?_
  rintro e w2 ⟨⟨v, rfl, sv⟩, hb⟩
  have SV : Hid (Sl w2 v (P.dg F.p)) := sv
  have B2 : Hid (Below w.heap.size w w2) := B1.out.trans (hb.mono B1.out.size)
  clear sv hb M1 SU S1 B1
  go_wp2_with fail
  go_ret
  exact ⟨⟨_, rfl, SV.out⟩, B2.out⟩
set_option maxRecDepth 20000 in
set_option maxHeartbeats 1000000 in
theorem field_fe (x : Nm) (ox : x.ok) (w : World) : Calls Try.prog 51 #[N x] w fun e w' => e = .returned (fe (x.nat % F.p)) ∧ Below w.heap.size w w' := by
  obtain ⟨x0, x1, x2⟩ := al2 w #[.int .u64 x.a, .int .u64 x.b, .int .u64 x.c, .int .u64 x.d] #[Value.int IntKind.i64 0, Value.int IntKind.i64 0, Value.int IntKind.i64 0, Value.int IntKind.i64 0, Value.int IntKind.i64 0, Value.int IntKind.i64 0, Value.int IntKind.i64 0, Value.int IntKind.i64 0, Value.int IntKind.i64 0, Value.int IntKind.i64 0, Value.int IntKind.i64 0, Value.int IntKind.i64 0, Value.int IntKind.i64 0, Value.int IntKind.i64 0, Value.int IntKind.i64 0, Value.int IntKind.i64 0] 28 70
  have X1 : Hid (Ar _ (w.heap.size + 1) 16 z0) := x1
  have X2 : Hid (Below w.heap.size w _) := x2
  have ON : Hid (∀ W, Calls Try.prog 29 #[N x] W fun e w' => (∃ v', e = .returned v' ∧ Sl w' v' (P.dg x.nat)) ∧ Below W.heap.size W w') := fun W => ofNum_fun x ox W
  have RN : Hid (∀ u v W, Sl W u (P.dg x.nat) → Sl W v (P.dg F.p) → Calls Try.prog 24 #[u, v] W fun e w' => (∃ v', e = .returned v' ∧ Sl w' v' (P.dg (x.nat % F.p))) ∧ Below W.heap.size W w') := fun u v W su sv => rest_n x.nat F.p (Nat.lt_trans (Nm.nat_lt ox) (by decide)) F.p_pos (by decide) u v W su sv
  obtain ⟨X, hX⟩ : ∃ X, X = x.nat % F.p := ⟨_, rfl⟩
  rw [← hX] at RN ⊢
  obtain ⟨Y, hY⟩ : ∃ Y, Y = x.nat := ⟨_, rfl⟩
  rw [← hY] at RN ON
  obtain ⟨q, hq⟩ : ∃ q, q = F.p := ⟨_, rfl⟩
  have MF : Hid (∀ W, Calls Try.prog 79 #[] W fun e w' => (∃ v', e = .returned v' ∧ Sl w' v' (P.dg q)) ∧ Below W.heap.size W w') := by rw [hq]; exact modulus_fun
  rw [← hq] at RN
  clear x0 x1 x2 ox hX hY hq
  go_enter Try.func51, Try.ntmps51
  go_wp2_with (simp only [zero_fe])
  try rw [show Try.zeroCells70 = #[Value.int IntKind.i64 0, Value.int IntKind.i64 0, Value.int IntKind.i64 0, Value.int IntKind.i64 0, Value.int IntKind.i64 0, Value.int IntKind.i64 0, Value.int IntKind.i64 0, Value.int IntKind.i64 0, Value.int IntKind.i64 0, Value.int IntKind.i64 0, Value.int IntKind.i64 0, Value.int IntKind.i64 0, Value.int IntKind.i64 0, Value.int IntKind.i64 0, Value.int IntKind.i64 0, Value.int IntKind.i64 0] from rfl]
  generalize World.alloc (w.alloc _) _ = w1 at *
  refine (ON.out w1).mono ?_
  rintro e w2 ⟨⟨u, rfl, su⟩, hb⟩
  have SU : Hid (Sl w2 u (P.dg Y)) := su
  have Y1 : Hid (Ar w2 (w.heap.size + 1) 16 z0) := X1.out.up hb X1.out.lt
  have Y2 : Hid (Below w.heap.size w w2) := X2.out.trans (hb.mono X2.out.size)
  clear su hb X1 X2 ON
  go_wp2_with fail
  refine (MF.out w2).mono ?_
  rintro e w3 ⟨⟨v, rfl, sv⟩, hb⟩
  have SV : Hid (Sl w3 v (P.dg q)) := sv
  replace SU : Hid (Sl w3 u (P.dg Y)) := Sl.up (xs := P.dg Y) SU.out hb
  have X1 : Hid (Ar w3 (w.heap.size + 1) 16 z0) := Y1.out.up hb Y1.out.lt
  have X2 : Hid (Below w.heap.size w w3) := Y2.out.trans (hb.mono Y2.out.size)
  clear sv hb Y1 Y2 MF
  go_wp2_with fail
  refine (RN.out _ _ _ SU.out SV.out).mono ?_
  rintro e w4 ⟨⟨r, rfl, sr⟩, hb⟩
  have SR : Hid (Sl w4 r (P.dg X)) := sr
  have Y1 : Hid (Ar w4 (w.heap.size + 1) 16 z0) := X1.out.up hb X1.out.lt
  have Y2 : Hid (Below w.heap.size w w4) := X2.out.trans (hb.mono X2.out.size)
  clear sr hb X1 X2 RN SU SV
  go_wp2_with fail
  refine (feOf_fe X r w4 SR.out).mono ?_
  rintro e w5 ⟨rfl, hb⟩
  have X1 : Hid (Ar w5 (w.heap.size + 1) 16 z0) := Y1.out.up hb Y1.out.lt
  have X2 : Hid (Below w.heap.size w w5) := Y2.out.trans (hb.mono Y2.out.size)
  have TT : Hid (w5.there (w.heap.size + 1) 0 ((row 16 (fd X)).map dI).length) := X1.out.there (by rw [List.length_map, List.length_map, row_length, row_length]; omega)
  clear hb Y1 Y2 SR
  go_wp2_with (refine wp_store_eq rfl 70 (.tmp 2) (.tmp 7) rfl (w.heap.size + 1) 0 ((row 16 (fd X)).map dI) rfl rfl TT.out (info_row info_fe (fd X)) (one_dI _) ?_)
  intro w9 hw9
  go_wp2_with fail
  refine bodyPost_ret (v := fe X) ?_ rfl ⟨rfl, ?_⟩
  · rw [hw9.out]
    exact results_cell (b := w.heap.size + 1) rfl rfl (World.rangeAt_setCells_same _ _ _ _ TT.out) u_fe rfl (info_row info_fe (fd X))
  · rw [hw9.out]
    exact below_setCells _ _ _ X2.out (by omega)
end Go.Proofs.Ytpnfopakkaoibaa.I
