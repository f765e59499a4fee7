/- Texts that were joined: DDigP, DDig, NmN, UpMS, FeN, FeP. -/
import Derived.Test.YtfknkfninjjgbaaGreatDoorQNumToDigO
import Derived.Deep.RegionHeld
import Derived.Test.YtfknkfninjjgbaaGreatDoorQQMathToMulV
import Derived.Test.YtfknkfninjjgbaaGreatDoorQUpToUpS
import Derived.Test.YtfknkfninjjgbaaGreatDoorQFeM
import Derived.Test.YtfknkfninjjgbaaGreatDoorQKnToDNum
import Derived.Test.YtfknkfninjjgbaaGreatDoorQDTimesToDParts
import Derived.Test.YtfknkfninjjgbaaGreatDoorQDRestToDNumP
/- The contract of sealringref.Digits: a row of words' digits. -/
namespace Go.Proofs.YtfknkfninjjgbaaGreatDoor
open Go.RowKit
attribute [local go_sem] World.cell?_alloc_some
/-- The number of a row of words. -/
def wv : List Nat → Nat
 | [] => 0
 | x :: xs => x + 18446744073709551616 * wv xs
theorem wv_take_succ (ws : List Nat) (j : Nat) (hj : j < ws.length) : wv (ws.take (j + 1)) = wv (ws.take j) + 65536 ^ (4 * j) * ws.getD j 0 := by
 induction ws generalizing j with
 | nil => simp at hj
 | cons x xs ih =>
  cases j with
  | zero => simp [wv]
  | succ j =>
   rw [List.take_succ_cons, wv, ih j (by simpa using hj), List.take_succ_cons, wv, List.getD_cons_succ, show 4 * (j + 1) = 4 * j + 4 by omega, Nat.pow_add]
   generalize 65536 ^ (4 * j) = B
   grind
set_option maxHeartbeats 2000000 in
theorem digits_fun (b : Nat) (ws : List Nat) (hw : ∀ x ∈ ws, x < 18446744073709551616) (n cp : Nat) (hn : n = ws.length) (ln : n < 65536) (w : World) (hc : ∀ j, j < n → w.cell? ⟨b, j, none⟩ = some (.int .u64 ((ws.getD j 0 : Nat) : Int))) :
  Calls Tryz.prog 73 #[.slice (some ⟨b, 0, none⟩) n cp] w fun e w' => (∃ v', e = .returned v' ∧ Sl w' v' (P.dg (wv ws))) ∧ Below w.heap.size w w' := by
 have HC : Hid _ := hc
 have HN : Hid _ := hn
 have HW : Hid _ := hw
 clear hc hn hw
 go_enter Tryz.func73, Tryz.ntmps73
 go_wp2_with fail
 go_loopw [3, 8] (fun o i wr => ∃ (j : Nat) (os : List Nat), j ≤ n ∧ i = .int .i64 j ∧ os.length = 4 * j ∧ P.Dg os ∧ Hid (P.dv os = wv (ws.take j)) ∧ Hid (Ow wr w.heap.size o os) ∧ Hid (Below w.heap.size w wr)) (fun _ i _ => n - (intOf i).toNat)
 case atStart => exact ⟨0, [], by omega, rfl, rfl, fun x hx => (by cases hx), (by simp [P.dv, wv] : P.dv [] = wv (ws.take 0)), Ow.nil _ _, Below.refl _ _⟩
 case round =>
  obtain ⟨j, os, hj, rfl, hlen, hdg, HV, ho, hb⟩ := hrel
  by_cases h1 : j < n
  ·have i1 : (j : Int) < (n : Int) := by omega
   have i0 : (0 : Int) ≤ (j : Int) := by omega
   have hcell : wr.cell? ⟨b, j, none⟩ = some (.int .u64 ((ws.getD j 0 : Nat) : Int)) := (hb.out.cell (p := ⟨b, j, none⟩) (lt_of_cell (HC.out j h1))).trans (HC.out j h1)
   have NX : Hid _ := wv_take_succ ws j (by rw [← HN.out]; exact h1)
   have xl : ws.getD j 0 < 18446744073709551616 := by
    rw [List.getD_eq_getElem?_getD, List.getElem?_eq_getElem (by rw [← HN.out]; exact h1)]
    exact HW.out _ (List.getElem_mem _)
   generalize ws.getD j 0 = x at *
   have x0 : (0 : Int) ≤ (x : Int) := by omega
   have x1 : (x : Int) < 18446744073709551616 := by omega
   go_wp2_with fail
   go_loopw [3, 5, 12] (fun o c i wr' => ∃ (r : Nat) (os' : List Nat), r ≤ 4 ∧ i = .int .i64 r ∧ c = .int .u64 ((x / 65536 ^ r : Nat) : Int) ∧ os'.length = 4 * j + r ∧ P.Dg os' ∧ Hid (P.dv os' = wv (ws.take j) + 65536 ^ (4 * j) * (x % 65536 ^ r)) ∧ Hid (Ow wr' w.heap.size o os') ∧ Hid (Below w.heap.size w wr')) (fun _ _ i _ => 4 - (intOf i).toNat)
   case atStart => exact ⟨0, os, by omega, rfl, by simp, by omega, hdg, (by simp [HV.out, Nat.mod_one] : P.dv os = wv (ws.take j) + 65536 ^ (4 * j) * (x % 65536 ^ 0)), ho, hb⟩
   case round =>
    clear ho hb HV hdg hlen hcell
    obtain ⟨r, os, hr, rfl, rfl, hlen, hdg, HV, ho, hb⟩ := hrel
    by_cases h4 : r < 4
    ·have i4 : (r : Int) < 4 := by omega
     have yl : x / 65536 ^ r < 18446744073709551616 := Nat.lt_of_le_of_lt (Nat.div_le_self _ _) xl
     have MS : Hid _ := P.mod_pow_succ' x r
     have DS : Hid (x / 65536 ^ (r + 1) = x / 65536 ^ r / 65536) := by rw [Nat.pow_succ, Nat.div_div_eq_div_mul]; exact (rfl : x / (65536 ^ r * 65536) = _)
     generalize x / 65536 ^ r = y at *
     have y0 : (0 : Int) ≤ (y : Int) := by omega
     have y1 : (y : Int) < 18446744073709551616 := by omega
     have TM : Hid ((y : Int) % 65536 = ((y % 65536 : Nat) : Int)) := (by omega : (y : Int) % 65536 = ((y % 65536 : Nat) : Int))
     go_wp2_with (at_builtin; refine wp_app rfl _ _ rfl w.heap.size _ os (y % 65536) _ wr rfl ho.out ((Below.refl _ _).alloc (Nat.le_refl _) _) ⟨wr.heap.size, 0, none⟩ rfl (by simp) TM.out (by omega) hb.out.size ?_)
     intro v' w3 o3 hb3
     have O3 : Hid _ := o3
     have b3 : Hid (Below w.heap.size w w3) := hb.out.trans hb3
     clear o3 hb3 ho hb
     go_wp2_with fail
     go_roundw
     case rel =>
      refine ⟨r + 1, os ++ [y % 65536], by omega, by go_num, ?_, by simp; omega, hdg.append (P.Dg.one (Nat.mod_lt _ (by decide))), ?_, O3, b3⟩
      ·rw [DS.out]; exact congrArg (Value.int .u64) (by omega)
      ·show P.dv (os ++ [y % 65536]) = _
       rw [P.dv_append, hlen, P.dv, P.dv, Nat.mul_zero, Nat.add_zero, HV.out, MS.out, Nat.mul_add, Nat.pow_add, Nat.mul_assoc, Nat.add_assoc]
     case measure => simp [intOf]; omega
    ·have i4 : ¬ (r : Int) < 4 := by omega
     have r4 : r = 4 := by omega
     subst r4
     have VV : Hid (P.dv os = wv (ws.take (j + 1))) := by
      have h := HV.out
      rw [Nat.mod_eq_of_lt (show x < 65536 ^ 4 by omega)] at h
      show P.dv os = wv (ws.take (j + 1))
      rw [NX.out, h]
     go_wp2_with fail
     go_roundw
     case rel => exact ⟨j + 1, os, by omega, by go_num, by omega, hdg, VV, ho, hb⟩
     case measure => simp [intOf]; omega
  ·have i1 : ¬ (j : Int) < (n : Int) := by omega
   have V : Hid (P.dv os = wv ws) := by
    have h := HV.out
    rw [List.take_of_length_le (by have := HN.out; omega)] at h
    exact h
   go_wp2_with fail
   refine (trim_fun _ os hdg (by omega) _ (Ow.sl ho.out)).mono ?_
   rintro e w1 ⟨⟨v', rfl, hs⟩, hb1⟩
   have b1 : Hid (Below w.heap.size w w1) := hb.out.trans (hb1.mono hb.out.size)
   have HS : Hid _ := hs
   clear hs hb1 hb ho
   go_wp2_with fail
   go_ret
   exact ⟨⟨v', rfl, by rw [← V.out]; exact HS.out⟩, b1.out⟩
end Go.Proofs.YtfknkfninjjgbaaGreatDoor

/- The contract of sealringref.OfNum and OfWide. -/
namespace Go.Proofs.YtfknkfninjjgbaaGreatDoor
open Go.RowKit
attribute [local go_sem] World.cell?_alloc_some
theorem toNat_word {x : Int} (h : Word x) : ((x.toNat : Nat) : Int) = x ∧ x.toNat < 18446744073709551616 := ⟨Int.toNat_of_nonneg h.1, by have := h.1; have := h.2; omega⟩
theorem wv_num {x : Nm} (h : x.ok) : wv [x.a.toNat, x.b.toNat, x.c.toNat, x.d.toNat] = x.nat := by
 have h1 := Nm.nat_cast h
 unfold Nm.val at h1
 have a1 := (toNat_word h.a).1; have b1 := (toNat_word h.b).1; have c1 := (toNat_word h.c).1; have d1 := (toNat_word h.d).1
 simp only [wv]
 omega
set_option maxHeartbeats 1000000 in
theorem ofNum_fun (x : Nm) (hx : x.ok) (w : World) :
  Calls Tryz.prog 36 #[N x] w fun e w' => (∃ v', e = .returned v' ∧ Sl w' v' (P.dg x.nat)) ∧ Below w.heap.size w w' := by
 have D : Hid (∀ (b : Nat) (w : World), (∀ j, j < 4 → w.cell? ⟨b, j, none⟩ = some (.int .u64 (([x.a.toNat, x.b.toNat, x.c.toNat, x.d.toNat].getD j 0 : Nat) : Int))) → Calls Tryz.prog 73 #[.slice (some ⟨b, 0, none⟩) 4 4] w fun e w' => (∃ v', e = .returned v' ∧ Sl w' v' (P.dg x.nat)) ∧ Below w.heap.size w w') := by
  intro b w h
  rw [← wv_num hx]
  refine digits_fun b _ ?_ 4 4 rfl (by decide) w h
  intro y hy
  simp only [List.mem_cons, List.not_mem_nil, or_false] at hy
  rcases hy with rfl | rfl | rfl | rfl
  ·exact (toNat_word hx.a).2
  ·exact (toNat_word hx.b).2
  ·exact (toNat_word hx.c).2
  ·exact (toNat_word hx.d).2
 have CE : Hid _ := And.intro (toNat_word hx.a).1 (And.intro (toNat_word hx.b).1 (And.intro (toNat_word hx.c).1 (toNat_word hx.d).1))
 go_enter Tryz.func36, Tryz.ntmps36
 go_wp2_with fail
 refine (D.out _ _ ?_).mono ?_
 ·obtain ⟨ea, eb, ec, ed⟩ := CE.out
  intro j hj
  match j, hj with
  | 0, _ => simp [ea]
  | 1, _ => simp [eb]
  | 2, _ => simp [ec]
  | 3, _ => simp [ed]
 rintro e w1 ⟨⟨v', rfl, hs⟩, hb1⟩
 have HS : Hid _ := hs
 have b1 : Hid (Below w.heap.size w w1) := Below.trans (((Below.refl _ _).alloc (by simp) _).alloc (by simp) _) (hb1.mono (by simp <;> omega))
 clear hs hb1
 go_wp2_with fail
 go_ret
 exact ⟨⟨v', rfl, HS.out⟩, b1.out⟩
end Go.Proofs.YtfknkfninjjgbaaGreatDoor

/- A natural number as Go has it: four words. -/
namespace Go.Proofs.YtfknkfninjjgbaaGreatDoor
open Go.RowKit
/-- A number as Go has it. -/
abbrev nm (n : Nat) : Nm := Nm.of ((n : Nat) : Int)
theorem nm_ok (n : Nat) : (nm n).ok := Nm.of_ok _
theorem nm_nat {n : Nat} (h : n < 2 ^ 256) : (nm n).nat = n := Nm.of_nat h
theorem Nm.eq_nm {x : Nm} {n : Nat} (h : x.ok) (e : x.nat = n) : x = nm n := by rw [← e]; exact Nm.eq_of_nat h
end Go.Proofs.YtfknkfninjjgbaaGreatDoor

/- The properties of slices of digits, for UpM's law. -/
namespace Go.Proofs.YtfknkfninjjgbaaGreatDoor
open Go.RowKit
def MP.sl (xs : List Nat) : MP := ⟨fun v w => Sl w v xs, fun h hb => Sl.up h hb⟩
def MP.sl2 (xs ys : List Nat) : MP := ⟨fun v w => ∃ x y, v = .tuple #[x, y] ∧ Sl w x xs ∧ Sl w y ys, fun ⟨x, y, e, h1, h2⟩ hb => ⟨x, y, e, Sl.up h1 hb, Sl.up h2 hb⟩⟩
theorem MP.sl_p (xs : List Nat) (v : Value) (w : World) : (MP.sl xs).p v w = Sl w v xs := rfl
theorem MP.sl2_p (xs ys : List Nat) (v : Value) (w : World) : (MP.sl2 xs ys).p v w = ∃ x y, v = .tuple #[x, y] ∧ Sl w x xs ∧ Sl w y ys := rfl
end Go.Proofs.YtfknkfninjjgbaaGreatDoor

/- The contracts of sealringref's small, feOf, Modulus, Field and Fe.Num. -/
namespace Go.Proofs.YtfknkfninjjgbaaGreatDoor.I
open Go.RowKit
set_option linter.unusedSimpArgs false
attribute [local go_sem] World.cell?_alloc_some frozen?_alloc_cells frozen_out
/-- A number of one digit. -/
def sf (n : Nat) : Nat → Nat := fun i => if i = 0 then n else 0
theorem sf_fd {n : Nat} (h : n < 65536) (i : Nat) : sf n i = fd n i := by
 unfold sf fd
 cases i with
 | zero => rw [if_pos rfl, Nat.pow_zero, Nat.div_one, Nat.mod_eq_of_lt h]
 | succ i =>
  rw [if_neg (by omega), Nat.div_eq_of_lt]
  rw [Nat.pow_succ]
  exact Nat.lt_of_lt_of_le h (Nat.le_mul_of_pos_left _ (Nat.pow_pos (by decide)))
theorem built_small (n : Nat) : Tryz.prog.built 61 [(0, dI n)] = some ((row 16 (sf n)).map dI).toArray := by kernel_rfl
theorem wp_buildS {ops : Array Oper} {rest : List Oper} {o : Oper} {a : Act} {Q : Exit → Act → World → Prop} {w : World} (hgd : o.guard = none) (x : Operand) (ho : o.op = .build 61 #[(0, x)]) (n : Nat) (hx : a.eval x = dI n)
  (h : wpList Tryz.prog ops Q rest (a.put o.dst (aI 16 (sf n))) w) : wpList Tryz.prog ops Q (o :: rest) a w := by
 refine wpList_plain hgd fun K hK => ?_
 have e : (Instr.build 61 ((#[(0, x)] : Array (Nat × Operand)).map fun x => (x.fst, a.eval x.snd))).run Tryz.prog w = .ok (aI 16 (sf n)) w := run_build w 61 _ _ (by simpa [hx] using built_small n)
 unfold Oper.wp
 simp only [execOp, ho, Sem.run_bind, e, Result.andThen_ok, Sem.run_pure]
 exact hK _ _ h
set_option maxRecDepth 20000 in
set_option maxHeartbeats 1000000 in
theorem small_fun (n : Nat) (w : World) : Calls Tryz.prog 58 #[dI n] w fun e w' => e = .returned (aI 16 (sf n)) ∧ Below w.heap.size w w' := by
 obtain ⟨x0, x1⟩ := al1 w #[Value.int IntKind.i64 0, .int .i64 0, .int .i64 0, .int .i64 0, .int .i64 0, .int .i64 0, .int .i64 0, .int .i64 0, .int .i64 0, .int .i64 0, .int .i64 0, .int .i64 0, .int .i64 0, .int .i64 0, .int .i64 0, .int .i64 0] 61
 have X0 : Hid (Ar _ w.heap.size 16 z0) := x0
 have X1 : Hid (Below w.heap.size w _) := x1
 clear x0 x1
 have TT : Hid _ := X0.out.there (o := 0) (n := ((row 16 (sf n)).map dI).length) (by rw [List.length_map, List.length_map, row_length, row_length]; omega)
 go_enter Tryz.func58, Tryz.ntmps58
 go_wp2_with (first | simp only [zero_fe] | refine wp_buildS rfl (.tmp 3) rfl n rfl ?_ | refine wp_store_eq rfl 61 (.tmp 2) (.tmp 4) rfl w.heap.size 0 ((row 16 (sf n)).map dI) rfl rfl TT.out (info_row info_fe (sf n)) (one_dI _) ?_)
 intro w9 hw9
 go_wp2_with fail
 refine bodyPost_ret (v := aI 16 (sf n)) ?_ rfl ⟨rfl, ?_⟩
 ·rw [hw9.out]
  exact results_cell (b := w.heap.size) rfl rfl (World.rangeAt_setCells_same _ _ _ _ TT.out) u_fe rfl (info_row info_fe (sf n))
 ·rw [hw9.out]
  exact below_setCells _ _ _ X1.out (Nat.le_refl _)
theorem small_fe (n : Nat) (h : n < 65536) (w : World) : Calls Tryz.prog 58 #[dI n] w fun e w' => e = .returned (fe n) ∧ Below w.heap.size w w' := by
 have := small_fun n w
 rw [aI_congr (f := sf n) (g := fd n) fun i _ => sf_fd h i] at this
 exact this
theorem dv_row (f : Nat → Nat) : ∀ n, P.dv (row n f) = sm f n
 | 0 => rfl
 | n + 1 => by
  unfold row sm
  rw [List.range_succ, List.map_append, P.dv_append, List.length_map, List.length_range, show P.dv (List.map f [n]) = f n by simp [P.dv], Nat.mul_comm]
  congr 1
  exact dv_row f n
theorem Ar.sl {w : World} {k n : Nat} {f : Nat → Nat} (h : Ar w k n f) : Sl w (.slice (some ⟨k, 0, none⟩) n n) (row n f) := by
 refine .inr ⟨k, 0, n, by rw [row_length], by rw [row_length]; exact Nat.le_refl _, fun j hj => ?_⟩
 rw [row_length] at hj
 rw [Nat.zero_add, Ar.at h hj]
 simp [row, hj]
theorem row_Dg {f : Nat → Nat} {n : Nat} (h : ∀ i, f i < 65536) : P.Dg (row n f) := fun x hx => by
 obtain ⟨i, _, rfl⟩ := List.mem_map.1 hx
 exact h i
set_option maxRecDepth 20000 in
set_option maxHeartbeats 1000000 in
theorem num_fe (x : Nat) (hx : x < F.p) (w : World) : Calls Tryz.prog 62 #[fe x] w fun e w' => e = .returned (N (nm x)) ∧ Below w.heap.size w w' := by
 obtain ⟨x0, x1⟩ := al1 w ((row 16 (fd x)).map dI).toArray 61
 have s0 : Hid (Kn (kz4 (w.alloc (.cells ((row 16 (fd x)).map dI).toArray 61))) [(w.heap.size + 1, zz4)]) := (Kn.nil _).al zz4 26 (by simp)
 have b0 : Hid (Below w.heap.size w (kz4 (w.alloc (.cells ((row 16 (fd x)).map dI).toArray 61)))) := x1.alloc (by simp) _
 have TN : Hid (∀ W, Below (w.heap.size + 1) (w.alloc (.cells ((row 16 (fd x)).map dI).toArray 61)) W → Calls Tryz.prog 22 #[.slice (some ⟨w.heap.size, 0, none⟩) 16 16] W fun e w' => e = .returned (N (nm x)) ∧ Below W.heap.size W w') := fun W hW => by
  have h : Ar W w.heap.size 16 (fd x) := x0.up hW (by omega)
  have := toNum_fun _ _ (row_Dg (n := 16) fun i => fd_lt x i) (by rw [row_length]; decide) W (Ar.sl h)
  rwa [dv_row, sm_top hx, Nat.mod_eq_of_lt (Nat.lt_trans hx F.p_lt)] at this
 have bb : Hid (Below (w.heap.size + 1) (w.alloc (.cells ((row 16 (fd x)).map dI).toArray 61)) (kz4 (w.alloc (.cells ((row 16 (fd x)).map dI).toArray 61)))) := (Below.refl _ _).alloc (by simp) _
 clear x0 x1
 go_enter Tryz.func62, Tryz.ntmps62
 go_wp2_with (rw [slice_all u_fe gi_int (by decide)])
 refine (TN.out _ bb.out).mono ?_
 rintro e w1 ⟨rfl, hb1⟩
 have s1 : Hid (Kn w1 _) := s0.out.up hb1
 have b1 : Hid (Below w.heap.size w w1) := b0.out.trans (hb1.mono b0.out.size)
 have z1 := b1.out.size
 clear hb1 s0 b0
 have uro_0 : w1.cell? ⟨w.heap.size + 1, 0, none⟩ = some (.int .u64 0) := Kn.get s1.out 0 0 rfl rfl
 have uro_1 : w1.cell? ⟨w.heap.size + 1, 1, none⟩ = some (.int .u64 0) := Kn.get s1.out 0 1 rfl rfl
 have uro_2 : w1.cell? ⟨w.heap.size + 1, 2, none⟩ = some (.int .u64 0) := Kn.get s1.out 0 2 rfl rfl
 have uro_3 : w1.cell? ⟨w.heap.size + 1, 3, none⟩ = some (.int .u64 0) := Kn.get s1.out 0 3 rfl rfl
 have uro_z : ∀ j, w1.frozen? ⟨w.heap.size + 1, j, none⟩ = false := Kn.fz s1.out 0 rfl
 have s2 : Hid (Kn (st4 w1 (w.heap.size + 1) (nm x)) [(w.heap.size + 1, (c4 (nm x)))]) := Kn.st4 (L := []) (s1.out.front 0 rfl) (nm x)
 have b2 : Hid (Below w.heap.size w (st4 w1 (w.heap.size + 1) (nm x))) := below_st4 b1.out (by omega)
 clear s1 b1
 go_wp2_with fail
 clear uro_0 uro_1 uro_2 uro_3 uro_z
 have urr_0 : (st4 w1 (w.heap.size + 1) (nm x)).cell? ⟨w.heap.size + 1, 0, none⟩ = some (.int .u64 (nm x).a) := Kn.get s2.out 0 0 rfl rfl
 have urr_1 : (st4 w1 (w.heap.size + 1) (nm x)).cell? ⟨w.heap.size + 1, 1, none⟩ = some (.int .u64 (nm x).b) := Kn.get s2.out 0 1 rfl rfl
 have urr_2 : (st4 w1 (w.heap.size + 1) (nm x)).cell? ⟨w.heap.size + 1, 2, none⟩ = some (.int .u64 (nm x).c) := Kn.get s2.out 0 2 rfl rfl
 have urr_3 : (st4 w1 (w.heap.size + 1) (nm x)).cell? ⟨w.heap.size + 1, 3, none⟩ = some (.int .u64 (nm x).d) := Kn.get s2.out 0 3 rfl rfl
 refine bodyPost_ret (v := N (nm x)) ?_ rfl ⟨rfl, b2.out⟩
 show (results Tryz.f62 _).run Tryz.prog (st4 w1 (w.heap.size + 1) (nm x)) = .ok _ (st4 w1 (w.heap.size + 1) (nm x))
 clear s2 b2
 generalize (st4 w1 (w.heap.size + 1) (nm x)) = W9 at *
 simp [results, Tryz.results62, go_sem, urr_0, urr_1, urr_2, urr_3]
set_option maxRecDepth 20000 in
set_option maxHeartbeats 1000000 in
theorem feOf_fun (v : Value) (xs : List Nat) (w : World) (sv : Sl w v xs) : Calls Tryz.prog 95 #[v] w fun e w' => e = .returned (aI 16 (fun i => xs.getD i 0)) ∧ Below w.heap.size w w' := by
 obtain ⟨g, hg⟩ : ∃ g : Nat → Nat, g = fun i => xs.getD i 0 := ⟨_, rfl⟩
 have DF : Hid (∀ W, Below w.heap.size w W → ∀ j : Nat, Calls Tryz.prog 71 #[v, .int .i64 (j : Int)] W fun e w' => e = .returned (dI (g j)) ∧ Below W.heap.size W w') := fun W hW j => by
  rw [hg]
  exact digit_fun v xs j W (Sl.up (xs := xs) sv hW)
 rw [← hg]
 obtain ⟨x0, x1, x2⟩ := al2 w #[Value.int IntKind.i64 0, .int .i64 0, .int .i64 0, .int .i64 0, .int .i64 0, .int .i64 0, .int .i64 0, .int .i64 0, .int .i64 0, .int .i64 0, .int .i64 0, .int .i64 0, .int .i64 0, .int .i64 0, .int .i64 0, .int .i64 0] #[Value.int IntKind.i64 0, .int .i64 0, .int .i64 0, .int .i64 0, .int .i64 0, .int .i64 0, .int .i64 0, .int .i64 0, .int .i64 0, .int .i64 0, .int .i64 0, .int .i64 0, .int .i64 0, .int .i64 0, .int .i64 0, .int .i64 0] 61 61
 have X0 : Hid (Ar _ w.heap.size 16 z0) := x0
 have X1 : Hid (Ar _ (w.heap.size + 1) 16 z0) := x1
 have X2 : Hid (Below w.heap.size w _) := x2
 obtain ⟨av, cv, rfl⟩ := sv.parts
 generalize xs.length = nv at *
 clear x0 x1 x2 sv hg
 go_enter Tryz.func95, Tryz.ntmps95
 go_wp2_with (simp only [zero_fe])
 try rw [show Tryz.zeroCells61 = #[Value.int IntKind.i64 0, .int .i64 0, .int .i64 0, .int .i64 0, .int .i64 0, .int .i64 0, .int .i64 0, .int .i64 0, .int .i64 0, .int .i64 0, .int .i64 0, .int .i64 0, .int .i64 0, .int .i64 0, .int .i64 0, .int .i64 0] from rfl]
 generalize World.alloc (w.alloc _) _ = w1 at *
 go_loopw [5] (fun i wr => ∃ j : Nat, j ≤ 16 ∧ i = .int .i64 (j : Int) ∧ Hid (Ar wr w.heap.size 16 z0) ∧ Hid (Ar wr (w.heap.size + 1) 16 (less g j)) ∧ Hid (Below w.heap.size w wr)) (fun i _ => 16 - (intOf i).toNat)
 case atStart => exact ⟨0, by omega, rfl, X0, X1.out.congr fun i _ => less_zero g i, X2⟩
 case round =>
  clear X0 X1 X2
  obtain ⟨j, hj, rfl, X0, X1, X2⟩ := hrel
  by_cases hj1 : j < 16
  ·have j1 : (j : Int) < 16 := by omega
   have wj : IntKind.i64.wrap ((j : Int) + 1) = (j : Int) + 1 := by rw [IntKind.wrap_i64]; omega
   have J1 : Hid (j < 16) := hj1
   clear hj hj1
   go_wp2_with fail
   refine (DF.out wr X2.out j).mono ?_
   rintro e w2 ⟨rfl, hb⟩
   have Y0 : Hid (Ar w2 w.heap.size 16 z0) := X0.out.up hb X0.out.lt
   have Y1 : Hid (Ar w2 (w.heap.size + 1) 16 (less g j)) := X1.out.up hb X1.out.lt
   have Y2 : Hid (Below w.heap.size w w2) := X2.out.trans (hb.mono X2.out.size)
   have c1 := Y1.out.at (j := j) J1.out
   have z1 := Y1.out.fz j
   have V0 : Hid _ := Y0.out.apart1 (k' := w.heap.size + 1) (o := j) (v := dI (g j)) (by omega)
   have V1 : Hid (Ar (w2.setCell ⟨w.heap.size + 1, j, none⟩ (dI (g j))) (w.heap.size + 1) 16 (less g (j + 1))) := (Y1.out.set J1.out (g j)).congr fun i _ => less_step g j i
   have V2 : Hid _ := Y2.out.setCell (p := ⟨w.heap.size + 1, j, none⟩) (show w.heap.size ≤ w.heap.size + 1 by omega) (dI (g j))
   generalize less g j j = lv at *
   generalize g j = gv at *
   clear hb X0 X1 X2 Y0 Y1 Y2
   go_wp2_with fail
   go_roundw
   case rel => exact ⟨j + 1, J1.out, by first | rfl | go_num, V0, V1, V2⟩
   case measure => have := J1.out; simp [intOf]; omega
  ·obtain rfl : j = 16 := by omega
   have j16 : ¬ (((16 : Nat) : Int) < 16) := by decide
   replace X1 : Hid (Ar wr (w.heap.size + 1) 16 g) := X1.out.congr fun i hi => less_all g i hi
   have TT : Hid (wr.there w.heap.size 0 ((row 16 g).map dI).length) := X0.out.there (by rw [List.length_map, List.length_map, row_length, row_length]; omega)
   clear hj hj1
   go_wp2_with (first | refine wpList_load_mid rfl 61 (.tmp 3) rfl (w.heap.size + 1) 0 rfl ((row 16 g).map dI) _ X1.out.all u_fe rfl (info_row info_fe g) ?_ | refine wp_store_eq rfl 61 (.tmp 2) (.tmp 14) rfl w.heap.size 0 ((row 16 g).map dI) rfl rfl TT.out (info_row info_fe g) (one_dI _) ?_)
   intro w9 hw9
   go_wp2_with fail
   refine bodyPost_ret (v := aI 16 g) ?_ rfl ⟨rfl, ?_⟩
   ·rw [hw9.out]
    exact results_cell (b := w.heap.size) rfl rfl (World.rangeAt_setCells_same _ _ _ _ TT.out) u_fe rfl (info_row info_fe g)
   ·rw [hw9.out]
    exact below_setCells _ _ _ X2.out (Nat.le_refl _)
theorem feOf_fe (X : Nat) (v : Value) (w : World) (sv : Sl w v (P.dg X)) : Calls Tryz.prog 95 #[v] w fun e w' => e = .returned (fe X) ∧ Below w.heap.size w w' := by
 have := feOf_fun v _ w sv
 rw [aI_congr (f := fun i => (P.dg X).getD i 0) (g := fd X) fun i _ => by rw [P.dig (P.dg_Dg X), P.dv_dg]; rfl] at this
 exact this
theorem dg_small {n : Nat} (h : n < 65536) (h0 : 0 < n) : P.dg n = [n] := by
 rw [P.dg_pos (by omega), Nat.mod_eq_of_lt h, Nat.div_eq_of_lt h, P.dg_zero]
/-- sealringref.Minus, of a number and one of one digit. -/
theorem minus_one (X n : Nat) (hX : X < 65536 ^ 64) (h : n < 65536) (h0 : 0 < n) (hl : n ≤ X) (u v : Value) (w : World) (su : Sl w u (P.dg X)) (sv : Sl w v [n]) : Calls Tryz.prog 98 #[u, v] w fun e w' => (∃ v', e = .returned v' ∧ Sl w' v' (P.dg (X - n))) ∧ Below w.heap.size w w' := by
 rw [← dg_small h h0] at sv
 have := dminus_fun u v _ _ (P.dg_Dg X) (P.dg_Dg n) (Nat.lt_trans (dshort hX) (by decide)) (by rw [P.dv_dg, P.dv_dg]; exact hl) w su sv
 rwa [P.dv_dg, P.dv_dg] at this
set_option maxRecDepth 20000 in
set_option maxHeartbeats 1000000 in
theorem modulus_fun (w : World) : Calls Tryz.prog 96 #[] w fun e w' => (∃ v', e = .returned v' ∧ Sl w' v' (P.dg F.p)) ∧ Below w.heap.size w w' := by
 have T : Hid (∀ W, Calls Tryz.prog 74 #[.int .i64 255] W fun e w' => (∃ v', e = .returned v' ∧ Sl w' v' (P.dg (2 ^ 255))) ∧ Below W.heap.size W w') := fun W => twoTo_n 255 (by decide) W
 have M1 : Hid (∀ u v W, Sl W u (P.dg (2 ^ 255)) → Sl W v [19] → Calls Tryz.prog 98 #[u, v] W fun e w' => (∃ v', e = .returned v' ∧ Sl w' v' (P.dg F.p)) ∧ Below W.heap.size W w') := fun u v W su sv => by
  have := minus_one (2 ^ 255) 19 (by decide) (by decide) (by decide) (by decide) u v W su sv
  rwa [show 2 ^ 255 - 19 = F.p by decide] at this
 go_enter Tryz.func96, Tryz.ntmps96
 go_wp2_with fail
 refine (T.out w).mono ?_
 rintro e w1 ⟨⟨u, rfl, su⟩, hb⟩
 have SU : Hid (Sl (w1.alloc (.cells #[.int .i64 19] 3)) u (P.dg (2 ^ 255))) := Sl.up (xs := P.dg (2 ^ 255)) su ((Below.refl _ _).alloc (Nat.le_refl _) _)
 have B1 : Hid (Below w.heap.size w (w1.alloc (.cells #[.int .i64 19] 3))) := Below.alloc hb hb.size _
 have S1 : Hid _ := Sl.one w1 19 19 rfl
 clear su hb T
 go_wp2_with fail
 refine (M1.out _ _ _ SU.out S1.out).mono ?_
 rintro e w2 ⟨⟨v, rfl, sv⟩, hb⟩
 have SV : Hid (Sl w2 v (P.dg F.p)) := sv
 have B2 : Hid (Below w.heap.size w w2) := B1.out.trans (hb.mono B1.out.size)
 clear sv hb M1 SU S1 B1
 go_wp2_with fail
 go_ret
 exact ⟨⟨_, rfl, SV.out⟩, B2.out⟩
set_option maxRecDepth 20000 in
set_option maxHeartbeats 1000000 in
theorem field_fe (x : Nm) (ox : x.ok) (w : World) : Calls Tryz.prog 57 #[N x] w fun e w' => e = .returned (fe (x.nat % F.p)) ∧ Below w.heap.size w w' := by
 obtain ⟨x0, x1, x2⟩ := al2 w #[.int .u64 x.a, .int .u64 x.b, .int .u64 x.c, .int .u64 x.d] #[Value.int IntKind.i64 0, .int .i64 0, .int .i64 0, .int .i64 0, .int .i64 0, .int .i64 0, .int .i64 0, .int .i64 0, .int .i64 0, .int .i64 0, .int .i64 0, .int .i64 0, .int .i64 0, .int .i64 0, .int .i64 0, .int .i64 0] 26 61
 have X1 : Hid (Ar _ (w.heap.size + 1) 16 z0) := x1
 have X2 : Hid (Below w.heap.size w _) := x2
 have ON : Hid (∀ W, Calls Tryz.prog 36 #[N x] W fun e w' => (∃ v', e = .returned v' ∧ Sl w' v' (P.dg x.nat)) ∧ Below W.heap.size W w') := fun W => ofNum_fun x ox W
 have RN : Hid (∀ u v W, Sl W u (P.dg x.nat) → Sl W v (P.dg F.p) → Calls Tryz.prog 33 #[u, v] W fun e w' => (∃ v', e = .returned v' ∧ Sl w' v' (P.dg (x.nat % F.p))) ∧ Below W.heap.size W w') := fun u v W su sv => rest_n x.nat F.p (Nat.lt_trans (Nm.nat_lt ox) (by decide)) F.p_pos (by decide) u v W su sv
 obtain ⟨X, hX⟩ : ∃ X, X = x.nat % F.p := ⟨_, rfl⟩
 rw [← hX] at RN ⊢
 obtain ⟨Y, hY⟩ : ∃ Y, Y = x.nat := ⟨_, rfl⟩
 rw [← hY] at RN ON
 obtain ⟨q, hq⟩ : ∃ q, q = F.p := ⟨_, rfl⟩
 have MF : Hid (∀ W, Calls Tryz.prog 96 #[] W fun e w' => (∃ v', e = .returned v' ∧ Sl w' v' (P.dg q)) ∧ Below W.heap.size W w') := by rw [hq]; exact modulus_fun
 rw [← hq] at RN
 clear x0 x1 x2 ox hX hY hq
 go_enter Tryz.func57, Tryz.ntmps57
 go_wp2_with (simp only [zero_fe])
 try rw [show Tryz.zeroCells61 = #[Value.int IntKind.i64 0, .int .i64 0, .int .i64 0, .int .i64 0, .int .i64 0, .int .i64 0, .int .i64 0, .int .i64 0, .int .i64 0, .int .i64 0, .int .i64 0, .int .i64 0, .int .i64 0, .int .i64 0, .int .i64 0, .int .i64 0] from rfl]
 generalize World.alloc (w.alloc _) _ = w1 at *
 refine (ON.out w1).mono ?_
 rintro e w2 ⟨⟨u, rfl, su⟩, hb⟩
 have SU : Hid (Sl w2 u (P.dg Y)) := su
 have Y1 : Hid (Ar w2 (w.heap.size + 1) 16 z0) := X1.out.up hb X1.out.lt
 have Y2 : Hid (Below w.heap.size w w2) := X2.out.trans (hb.mono X2.out.size)
 clear su hb X1 X2 ON
 go_wp2_with fail
 refine (MF.out w2).mono ?_
 rintro e w3 ⟨⟨v, rfl, sv⟩, hb⟩
 have SV : Hid (Sl w3 v (P.dg q)) := sv
 replace SU : Hid (Sl w3 u (P.dg Y)) := Sl.up (xs := P.dg Y) SU.out hb
 have X1 : Hid (Ar w3 (w.heap.size + 1) 16 z0) := Y1.out.up hb Y1.out.lt
 have X2 : Hid (Below w.heap.size w w3) := Y2.out.trans (hb.mono Y2.out.size)
 clear sv hb Y1 Y2 MF
 go_wp2_with fail
 refine (RN.out _ _ _ SU.out SV.out).mono ?_
 rintro e w4 ⟨⟨r, rfl, sr⟩, hb⟩
 have SR : Hid (Sl w4 r (P.dg X)) := sr
 have Y1 : Hid (Ar w4 (w.heap.size + 1) 16 z0) := X1.out.up hb X1.out.lt
 have Y2 : Hid (Below w.heap.size w w4) := X2.out.trans (hb.mono X2.out.size)
 clear sr hb X1 X2 RN SU SV
 go_wp2_with fail
 refine (feOf_fe X r w4 SR.out).mono ?_
 rintro e w5 ⟨rfl, hb⟩
 have X1 : Hid (Ar w5 (w.heap.size + 1) 16 z0) := Y1.out.up hb Y1.out.lt
 have X2 : Hid (Below w.heap.size w w5) := Y2.out.trans (hb.mono Y2.out.size)
 have TT : Hid (w5.there (w.heap.size + 1) 0 ((row 16 (fd X)).map dI).length) := X1.out.there (by rw [List.length_map, List.length_map, row_length, row_length]; omega)
 clear hb Y1 Y2 SR
 go_wp2_with (refine wp_store_eq rfl 61 (.tmp 2) (.tmp 7) rfl (w.heap.size + 1) 0 ((row 16 (fd X)).map dI) rfl rfl TT.out (info_row info_fe (fd X)) (one_dI _) ?_)
 intro w9 hw9
 go_wp2_with fail
 refine bodyPost_ret (v := fe X) ?_ rfl ⟨rfl, ?_⟩
 ·rw [hw9.out]
  exact results_cell (b := w.heap.size + 1) rfl rfl (World.rangeAt_setCells_same _ _ _ _ TT.out) u_fe rfl (info_row info_fe (fd X))
 ·rw [hw9.out]
  exact below_setCells _ _ _ X2.out (by omega)
end Go.Proofs.YtfknkfninjjgbaaGreatDoor.I

/- The contracts of sealringref's Fe.To and Fe.Over: powers, one over it. -/
namespace Go.Proofs.YtfknkfninjjgbaaGreatDoor.I
open Go.RowKit
set_option linter.unusedSimpArgs false
attribute [local go_sem] YieldsP execOp
attribute [local simp] MP.eq_p
/-- Ints that are only read: block g. -/
structure Rd (w : World) (g n : Nat) (f : Nat → Nat) : Prop where
 lt : g < w.heap.size
 cell : ∀ j, j < n → w.cell? ⟨g, j, none⟩ = some (dI (f j))
theorem Rd.up {W w1 : World} {g n B : Nat} {f : Nat → Nat} (h : Rd W g n f) (hb : Below B W w1) (hB : g < B) : Rd w1 g n f :=
 ⟨Nat.lt_of_lt_of_le h.lt hb.size, fun j hj => (hb.cell (p := ⟨g, j, none⟩) hB).trans (h.cell j hj)⟩
theorem Rd.apart {w : World} {g n k o : Nat} {f : Nat → Nat} {vs : List Value} (h : Rd w g n f) (hk : g ≠ k) : Rd (w.setCells k o vs) g n f :=
 ⟨by rw [size_setCells]; exact h.lt, fun j hj => by
  rw [World.cell?_setCells_out k vs o w ⟨g, j, none⟩ (fun e _ => absurd e hk)]; exact h.cell j hj⟩
theorem yields_ld {o : Oper} {a : Act} {w : World} {φ : Value → World → Prop} (ty : TypeId) (x : Operand) (ho : o.op = .load ty x) (b f : Nat) (hx : a.eval x = .pointer (some ⟨b, f, none⟩)) (cs : List Value) (d : TypeDesc) (hc : w.rangeAt b f cs) (hu : Tryz.prog.underlying ty = some d) (hd : d.isRow = true) (hi : (Tryz.prog.info? ty).map (·.size) = some cs.length)
  (h : φ (.agg cs.toArray) w) : YieldsP Tryz.prog o a w φ := by
 have e : (execOp a.eval o).run Tryz.prog w = .ok (.value (.agg cs.toArray)) w := by
  unfold execOp
  simp only [ho, hx, Instr.loadAt, Instr.sureAddr, Sem.run_bind, Sem.run_pure, Result.andThen_ok, run_loadVar_mid w b f ty cs d hc hu hd hi]
 unfold YieldsP
 rw [e]
 exact ⟨h, Below.refl _ _⟩
set_option maxRecDepth 20000 in
set_option maxHeartbeats 2000000 in
theorem to_fe (x Y : Nat) (hx : x < F.p) (hY : Y < 2 ^ 256) (v : Value) (w : World) (sv : Sl w v (P.dg Y)) : Calls Tryz.prog 97 #[fe x, v] w fun e w' => e = .returned (fe (F.pow x Y)) ∧ Below w.heap.size w w' := by
 obtain ⟨A, hA⟩ : ∃ A : Nat → Nat, A = fun k => F.pow x (2 ^ k) := ⟨_, rfl⟩
 obtain ⟨O, hO⟩ : ∃ O : Nat → Nat, O = fun k => F.pow x (Y % 2 ^ k) := ⟨_, rfl⟩
 obtain ⟨T, hT⟩ : ∃ T : Nat → Nat, T = fun k => Y / 2 ^ k % 2 := ⟨_, rfl⟩
 have LL : Hid (∀ k, A k < F.p ∧ O k < F.p) := fun k => by rw [hA, hO]; exact ⟨F.pow_lt _ _, F.pow_lt _ _⟩
 have A0 : Hid (A 0 = x) := by rw [hA]; show F.pow x (2 ^ 0) = x; rw [Nat.pow_zero, F.pow_one, Nat.mod_eq_of_lt hx]
 have O0 : Hid (O 0 = 1) := by rw [hO]; show F.pow x (Y % 2 ^ 0) = 1; rw [Nat.pow_zero, Nat.mod_one]; unfold F.pow; rw [Nat.pow_zero]; exact rfl
 have OE : Hid (O 256 = F.pow x Y) := by rw [hO]; show F.pow x (Y % 2 ^ 256) = _; rw [Nat.mod_eq_of_lt hY]
 have SA : Hid (∀ k w, Calls Tryz.prog 61 #[fe (A k), fe (A k)] w fun e w' => e = .returned (fe (A (k + 1))) ∧ Below w.heap.size w w') := fun k w => by
  have := by_fe (A k) (A k) (LL.out k).1 (LL.out k).1 w
  rw [hA] at this ⊢
  simp only [] at this ⊢
  rw [← F.pow_add, ← Nat.two_mul, Nat.mul_comm, ← Nat.pow_succ] at this
  exact this
 have SO : Hid (∀ k w, T k = 1 → Calls Tryz.prog 61 #[fe (O k), fe (A k)] w fun e w' => e = .returned (fe (O (k + 1))) ∧ Below w.heap.size w w') := fun k w hk => by
  have := by_fe (O k) (A k) (LL.out k).2 (LL.out k).1 w
  rw [hT] at hk
  rw [hO, hA] at this
  rw [hO, hA]
  simp only [] at this hk ⊢
  rw [← F.pow_add, show Y % 2 ^ k + 2 ^ k = Y % 2 ^ (k + 1) by rw [mod_two_succ, hk, Nat.mul_one]] at this
  exact this
 have SN : Hid (∀ k, T k = 0 → O (k + 1) = O k) := fun k hk => by
  rw [hT] at hk
  rw [hO]
  show F.pow x (Y % 2 ^ (k + 1)) = _
  rw [pow_off Y k hk]
 have T01 : Hid (∀ k, T k = 0 ∨ T k = 1) := fun k => by rw [hT]; exact Nat.mod_two_eq_zero_or_one _
 have BF : Hid (∀ W, Below w.heap.size w W → Calls Tryz.prog 59 #[v, .int .i64 256] W fun e w' => (e = .returned (.slice (some ⟨W.heap.size, 0, none⟩) 256 256) ∧ Rd w' W.heap.size 256 T) ∧ Below W.heap.size W w') := fun W hW => by
  refine (bits_fun v _ (P.dg_Dg Y) 256 (by decide) W (Sl.up (xs := P.dg Y) sv hW)).mono ?_
  rintro e w' ⟨⟨he, bs, lb, hbs, ob⟩, hb⟩
  have hc : ∀ j, j < 256 → w'.cell? ⟨W.heap.size, j, none⟩ = some (dI (T j)) := fun j hj => by
   have := (Ow.cell ob lb.symm j (by omega)).1
   rw [hbs j hj, P.dv_dg] at this
   rw [hT]
   exact this
  exact ⟨⟨he, lt_of_cell (hc 0 (by decide)), hc⟩, hb⟩
 obtain ⟨av, cv, rfl⟩ := sv.parts
 generalize (P.dg Y).length = nv at *
 obtain ⟨x0, x1, x2⟩ := al2 w ((row 16 (fd x)).map dI).toArray #[Value.int IntKind.i64 0, .int .i64 0, .int .i64 0, .int .i64 0, .int .i64 0, .int .i64 0, .int .i64 0, .int .i64 0, .int .i64 0, .int .i64 0, .int .i64 0, .int .i64 0, .int .i64 0, .int .i64 0, .int .i64 0, .int .i64 0] 61 61
 have X0 : Hid (Ar _ w.heap.size 16 (fd x)) := x0
 have X1 : Hid (Ar _ (w.heap.size + 1) 16 z0) := x1
 have X2 : Hid (Below w.heap.size w _) := x2
 clear x0 x1 x2 sv hx hY hA hO hT
 rw [← OE.out]
 go_enter Tryz.func97, Tryz.ntmps97
 go_wp2_with (simp only [zero_fe])
 try rw [show Tryz.zeroCells61 = #[Value.int IntKind.i64 0, .int .i64 0, .int .i64 0, .int .i64 0, .int .i64 0, .int .i64 0, .int .i64 0, .int .i64 0, .int .i64 0, .int .i64 0, .int .i64 0, .int .i64 0, .int .i64 0, .int .i64 0, .int .i64 0, .int .i64 0] from rfl]
 generalize World.alloc (w.alloc _) _ = w1 at *
 rw [← A0.out] at X0
 refine (small_fe 1 (by decide) w1).mono ?_
 rintro e w2 ⟨rfl, hb⟩
 have Y0 : Hid (Ar w2 w.heap.size 16 (fd (A 0))) := X0.out.up hb X0.out.lt
 have Y1 : Hid (Ar w2 (w.heap.size + 1) 16 z0) := X1.out.up hb X1.out.lt
 have Y2 : Hid (Below w.heap.size w w2) := X2.out.trans (hb.mono X2.out.size)
 have L1 : Hid (w.heap.size + 1 < w2.heap.size) := Y1.out.lt
 obtain ⟨k0, k1⟩ := al1 w2 #[Value.int IntKind.i64 0, .int .i64 0, .int .i64 0, .int .i64 0, .int .i64 0, .int .i64 0, .int .i64 0, .int .i64 0, .int .i64 0, .int .i64 0, .int .i64 0, .int .i64 0, .int .i64 0, .int .i64 0, .int .i64 0, .int .i64 0] 61
 have ZO : Hid (Ar (w2.alloc (.cells #[Value.int IntKind.i64 0, .int .i64 0, .int .i64 0, .int .i64 0, .int .i64 0, .int .i64 0, .int .i64 0, .int .i64 0, .int .i64 0, .int .i64 0, .int .i64 0, .int .i64 0, .int .i64 0, .int .i64 0, .int .i64 0, .int .i64 0] 61)) w2.heap.size 16 z0) := k0
 have Z0 : Hid (Ar (w2.alloc (.cells #[Value.int IntKind.i64 0, .int .i64 0, .int .i64 0, .int .i64 0, .int .i64 0, .int .i64 0, .int .i64 0, .int .i64 0, .int .i64 0, .int .i64 0, .int .i64 0, .int .i64 0, .int .i64 0, .int .i64 0, .int .i64 0, .int .i64 0] 61)) w.heap.size 16 (fd (A 0))) := Y0.out.up k1 Y0.out.lt
 have Z1 : Hid (Ar (w2.alloc (.cells #[Value.int IntKind.i64 0, .int .i64 0, .int .i64 0, .int .i64 0, .int .i64 0, .int .i64 0, .int .i64 0, .int .i64 0, .int .i64 0, .int .i64 0, .int .i64 0, .int .i64 0, .int .i64 0, .int .i64 0, .int .i64 0, .int .i64 0] 61)) (w.heap.size + 1) 16 z0) := Y1.out.up k1 Y1.out.lt
 have Z2 : Hid (Below w.heap.size w (w2.alloc (.cells #[Value.int IntKind.i64 0, .int .i64 0, .int .i64 0, .int .i64 0, .int .i64 0, .int .i64 0, .int .i64 0, .int .i64 0, .int .i64 0, .int .i64 0, .int .i64 0, .int .i64 0, .int .i64 0, .int .i64 0, .int .i64 0, .int .i64 0] 61))) := Y2.out.trans (k1.mono Y2.out.size)
 have TT : Hid _ := ZO.out.there (o := 0) (n := ((row 16 (fd 1)).map dI).length) (by rw [List.length_map, List.length_map, row_length, row_length]; omega)
 clear k0 k1 hb X0 X1 X2 Y0 Y1 Y2
 go_wp2_with (first | simp only [zero_fe] | refine wp_store_eq rfl 61 (.tmp 5) (.tmp 8) rfl w2.heap.size 0 ((row 16 (fd 1)).map dI) rfl rfl TT.out (info_row info_fe (fd 1)) (one_dI _) ?_)
 intro w3 hw3
 have Y0 : Hid (Ar w3 w.heap.size 16 (fd (A 0))) := by rw [hw3.out]; exact Z0.out.apart (by have := L1.out; omega)
 have Y1 : Hid (Ar w3 (w.heap.size + 1) 16 z0) := by rw [hw3.out]; exact Z1.out.apart (by have := L1.out; omega)
 have YO : Hid (Ar w3 w2.heap.size 16 (fd (O 0))) := by rw [hw3.out, O0.out]; exact ZO.out.put (by rw [List.length_map, List.length_map, row_length, row_length])
 have Y2 : Hid (Below w.heap.size w w3) := by rw [hw3.out]; exact below_setCells _ _ _ Z2.out (by have := L1.out; omega)
 clear hw3 Z0 Z1 Z2 ZO TT
 generalize w2.heap.size = ko at *
 go_wp2_with fail
 refine (BF.out w3 Y2.out).mono ?_
 rintro e w4 ⟨⟨rfl, RD⟩, hb⟩
 have L2 : Hid (ko < w3.heap.size) := YO.out.lt
 have Z0 : Hid (Ar w4 w.heap.size 16 (fd (A 0))) := Y0.out.up hb Y0.out.lt
 have Z1 : Hid (Ar w4 (w.heap.size + 1) 16 z0) := Y1.out.up hb Y1.out.lt
 have ZO : Hid (Ar w4 ko 16 (fd (O 0))) := YO.out.up hb YO.out.lt
 have Z2 : Hid (Below w.heap.size w w4) := Y2.out.trans (hb.mono Y2.out.size)
 have ZR : Hid (Rd w4 w3.heap.size 256 T) := RD
 clear hb RD Y0 Y1 YO Y2 BF
 generalize w3.heap.size = g at *
 go_wp2_with fail
 go_loopw [12] (fun i wr => ∃ k : Nat, k ≤ 256 ∧ i = .int .i64 (k : Int) ∧ Hid (Ar wr w.heap.size 16 (fd (A k))) ∧ Hid (Ar wr (w.heap.size + 1) 16 z0) ∧ Hid (Ar wr ko 16 (fd (O k))) ∧ Hid (Rd wr g 256 T) ∧ Hid (Below w.heap.size w wr)) (fun i _ => 256 - (intOf i).toNat)
 case atStart => exact ⟨0, by omega, rfl, Z0, Z1, ZO, ZR, Z2⟩
 case round =>
  clear Z0 Z1 ZO ZR Z2
  obtain ⟨k, hk, rfl, X0, X1, XO, XR, X2⟩ := hrel
  by_cases hk1 : k < 256
  ·have k1 : (k : Int) < 256 := by omega
   have k0 : (0 : Int) ≤ (k : Int) := by omega
   have wk : IntKind.i64.wrap ((k : Int) + 1) = (k : Int) + 1 := by rw [IntKind.wrap_i64]; omega
   have K1 : Hid (k < 256) := hk1
   have ck := XR.out.cell k hk1
   have S1 := SA.out k
   have S2 : Hid _ := SO.out k
   have SN2 : Hid _ := SN.out k
   have KA : Hid (A (k + 1) = A (k + 1)) := rfl
   obtain ⟨a1, ha1⟩ : ∃ a1, Hid (a1 = A (k + 1)) := ⟨_, rfl⟩
   obtain ⟨o1, ho1⟩ : ∃ o1, Hid (o1 = O (k + 1)) := ⟨_, rfl⟩
   rw [← ha1.out] at S1
   rw [← ho1.out] at S2 SN2
   clear hk hk1 KA
   rcases T01.out k with ht | ht
   ·rw [ht] at ck
    have SE : Hid (o1 = O k) := SN2.out ht
    clear ht
    generalize A k = av1 at *
    go_wp2_with (refine wpList_load_mid rfl 61 (.tmp 2) rfl w.heap.size 0 rfl ((row 16 (fd av1)).map dI) _ X0.out.all u_fe rfl (info_row info_fe (fd av1)) ?_)
    refine (S1 wr).mono ?_
    rintro e w6 ⟨rfl, hb⟩
    have Y0 : Hid (Ar w6 w.heap.size 16 (fd av1)) := X0.out.up hb X0.out.lt
    have Y1 : Hid (Ar w6 (w.heap.size + 1) 16 z0) := X1.out.up hb X1.out.lt
    have YO : Hid (Ar w6 ko 16 (fd o1)) := by rw [SE.out]; exact XO.out.up hb XO.out.lt
    have YR : Hid (Rd w6 g 256 T) := XR.out.up hb XR.out.lt
    have Y2 : Hid (Below w.heap.size w w6) := X2.out.trans (hb.mono X2.out.size)
    have TT : Hid (w6.there w.heap.size 0 ((row 16 (fd a1)).map dI).length) := Y0.out.there (by rw [List.length_map, List.length_map, row_length, row_length]; omega)
    clear hb X0 X1 XO XR X2 ck
    go_wp2_with (refine wp_store_eq rfl 61 (.tmp 2) (.tmp 23) rfl w.heap.size 0 ((row 16 (fd a1)).map dI) rfl rfl TT.out (info_row info_fe (fd a1)) (one_dI _) ?_)
    intro w7 hw7
    have V0 : Hid (Ar w7 w.heap.size 16 (fd a1)) := by rw [hw7.out]; exact Y0.out.put (by rw [List.length_map, List.length_map, row_length, row_length])
    have V1 : Hid (Ar w7 (w.heap.size + 1) 16 z0) := by rw [hw7.out]; exact Y1.out.apart (by omega)
    have VO : Hid (Ar w7 ko 16 (fd o1)) := by rw [hw7.out]; exact YO.out.apart (by have := L1.out; omega)
    have VR : Hid (Rd w7 g 256 T) := by rw [hw7.out]; exact YR.out.apart (by have := L1.out; have := L2.out; omega)
    have V2 : Hid (Below w.heap.size w w7) := by rw [hw7.out]; exact below_setCells _ _ _ Y2.out (Nat.le_refl _)
    clear hw7 Y0 Y1 YO YR Y2 TT
    go_wp2_with fail
    go_roundw
    case rel => exact ⟨k + 1, K1.out, by first | rfl | go_num, by rw [← ha1.out]; exact V0, V1, by rw [← ho1.out]; exact VO, VR, V2⟩
    case measure => have := K1.out; simp [intOf]; omega
   ·rw [ht] at ck
    have S3 := fun W => S2.out W ht
    clear ht
    generalize A k = av1 at *
    generalize O k = ov1 at *
    go_wp2_with (first | refine wpList_load_mid rfl 61 (.tmp 5) rfl ko 0 rfl ((row 16 (fd ov1)).map dI) _ XO.out.all u_fe rfl (info_row info_fe (fd ov1)) ?_ | refine wpList_load_mid rfl 61 (.tmp 2) rfl w.heap.size 0 rfl ((row 16 (fd av1)).map dI) _ X0.out.all u_fe rfl (info_row info_fe (fd av1)) ?_)
    refine (S3 wr).mono ?_
    rintro e w5 ⟨rfl, hb⟩
    have Y0 : Hid (Ar w5 w.heap.size 16 (fd av1)) := X0.out.up hb X0.out.lt
    have Y1 : Hid (Ar w5 (w.heap.size + 1) 16 z0) := X1.out.up hb X1.out.lt
    have YO : Hid (Ar w5 ko 16 (fd ov1)) := XO.out.up hb XO.out.lt
    have YR : Hid (Rd w5 g 256 T) := XR.out.up hb XR.out.lt
    have Y2 : Hid (Below w.heap.size w w5) := X2.out.trans (hb.mono X2.out.size)
    have TT : Hid (w5.there ko 0 ((row 16 (fd o1)).map dI).length) := YO.out.there (by rw [List.length_map, List.length_map, row_length, row_length]; omega)
    clear hb X0 X1 XO XR X2 ck
    go_wp2_with (refine wp_store_eq rfl 61 (.tmp 5) (.tmp 20) rfl ko 0 ((row 16 (fd o1)).map dI) rfl rfl TT.out (info_row info_fe (fd o1)) (one_dI _) ?_)
    intro w8 hw8
    have X0 : Hid (Ar w8 w.heap.size 16 (fd av1)) := by rw [hw8.out]; exact Y0.out.apart (by have := L1.out; omega)
    have X1 : Hid (Ar w8 (w.heap.size + 1) 16 z0) := by rw [hw8.out]; exact Y1.out.apart (by have := L1.out; omega)
    have XO : Hid (Ar w8 ko 16 (fd o1)) := by rw [hw8.out]; exact YO.out.put (by rw [List.length_map, List.length_map, row_length, row_length])
    have XR : Hid (Rd w8 g 256 T) := by rw [hw8.out]; exact YR.out.apart (by have := L2.out; omega)
    have X2 : Hid (Below w.heap.size w w8) := by rw [hw8.out]; exact below_setCells _ _ _ Y2.out (by have := L1.out; omega)
    clear hw8 Y0 Y1 YO YR Y2 TT
    go_wp2_with (refine wpList_load_mid rfl 61 (.tmp 2) rfl w.heap.size 0 rfl ((row 16 (fd av1)).map dI) _ X0.out.all u_fe rfl (info_row info_fe (fd av1)) ?_)
    refine (S1 w8).mono ?_
    rintro e w6 ⟨rfl, hb⟩
    have Y0 : Hid (Ar w6 w.heap.size 16 (fd av1)) := X0.out.up hb X0.out.lt
    have Y1 : Hid (Ar w6 (w.heap.size + 1) 16 z0) := X1.out.up hb X1.out.lt
    have YO : Hid (Ar w6 ko 16 (fd o1)) := XO.out.up hb XO.out.lt
    have YR : Hid (Rd w6 g 256 T) := XR.out.up hb XR.out.lt
    have Y2 : Hid (Below w.heap.size w w6) := X2.out.trans (hb.mono X2.out.size)
    have TT : Hid (w6.there w.heap.size 0 ((row 16 (fd a1)).map dI).length) := Y0.out.there (by rw [List.length_map, List.length_map, row_length, row_length]; omega)
    clear hb X0 X1 XO XR X2
    go_wp2_with (refine wp_store_eq rfl 61 (.tmp 2) (.tmp 23) rfl w.heap.size 0 ((row 16 (fd a1)).map dI) rfl rfl TT.out (info_row info_fe (fd a1)) (one_dI _) ?_)
    intro w7 hw7
    have V0 : Hid (Ar w7 w.heap.size 16 (fd a1)) := by rw [hw7.out]; exact Y0.out.put (by rw [List.length_map, List.length_map, row_length, row_length])
    have V1 : Hid (Ar w7 (w.heap.size + 1) 16 z0) := by rw [hw7.out]; exact Y1.out.apart (by omega)
    have VO : Hid (Ar w7 ko 16 (fd o1)) := by rw [hw7.out]; exact YO.out.apart (by have := L1.out; omega)
    have VR : Hid (Rd w7 g 256 T) := by rw [hw7.out]; exact YR.out.apart (by have := L1.out; have := L2.out; omega)
    have V2 : Hid (Below w.heap.size w w7) := by rw [hw7.out]; exact below_setCells _ _ _ Y2.out (Nat.le_refl _)
    clear hw7 Y0 Y1 YO YR Y2 TT
    go_wp2_with fail
    go_roundw
    case rel => exact ⟨k + 1, K1.out, by first | rfl | go_num, by rw [← ha1.out]; exact V0, V1, by rw [← ho1.out]; exact VO, VR, V2⟩
    case measure => have := K1.out; simp [intOf]; omega
  ·obtain rfl : k = 256 := by omega
   have k256 : ¬ (((256 : Nat) : Int) < 256) := by decide
   obtain ⟨z, hz⟩ : ∃ z, z = O 256 := ⟨_, rfl⟩
   rw [← hz] at XO
   have HZ : Hid (z = O 256) := hz
   have TT : Hid (wr.there (w.heap.size + 1) 0 ((row 16 (fd z)).map dI).length) := X1.out.there (by rw [List.length_map, List.length_map, row_length, row_length]; omega)
   clear hk hk1 hz
   go_wp2_with (first | refine wpList_load_mid rfl 61 (.tmp 5) rfl ko 0 rfl ((row 16 (fd z)).map dI) _ XO.out.all u_fe rfl (info_row info_fe (fd z)) ?_ | refine wp_store_eq rfl 61 (.tmp 4) (.tmp 25) rfl (w.heap.size + 1) 0 ((row 16 (fd z)).map dI) rfl rfl TT.out (info_row info_fe (fd z)) (one_dI _) ?_)
   intro w9 hw9
   go_wp2_with fail
   refine bodyPost_ret (v := fe z) ?_ rfl ⟨by rw [HZ.out], ?_⟩
   ·rw [hw9.out]
    exact results_cell (b := w.heap.size + 1) rfl rfl (World.rangeAt_setCells_same _ _ _ _ TT.out) u_fe rfl (info_row info_fe (fd z))
   ·rw [hw9.out]
    exact below_setCells _ _ _ X2.out (by omega)
set_option maxRecDepth 20000 in
set_option maxHeartbeats 1000000 in
theorem over_fe (x : Nat) (hx : x < F.p) (w : World) : Calls Tryz.prog 60 #[fe x] w fun e w' => e = .returned (fe (F.inv x)) ∧ Below w.heap.size w w' := by
 obtain ⟨x0, x1, x2⟩ := al2 w ((row 16 (fd x)).map dI).toArray #[Value.int IntKind.i64 0, .int .i64 0, .int .i64 0, .int .i64 0, .int .i64 0, .int .i64 0, .int .i64 0, .int .i64 0, .int .i64 0, .int .i64 0, .int .i64 0, .int .i64 0, .int .i64 0, .int .i64 0, .int .i64 0, .int .i64 0] 61 61
 have X0 : Hid (Ar _ w.heap.size 16 (fd x)) := x0
 have X1 : Hid (Ar _ (w.heap.size + 1) 16 z0) := x1
 have X2 : Hid (Below w.heap.size w _) := x2
 have M1 : Hid (∀ u v W, Sl W u (P.dg F.p) → Sl W v [2] → Calls Tryz.prog 98 #[u, v] W fun e w' => (∃ v', e = .returned v' ∧ Sl w' v' (P.dg (F.p - 2))) ∧ Below W.heap.size W w') := fun u v W su sv => minus_one F.p 2 (by decide) (by decide) (by decide) (by decide) u v W su sv
 have TF : Hid (∀ v W, Sl W v (P.dg (F.p - 2)) → Calls Tryz.prog 97 #[fe x, v] W fun e w' => e = .returned (fe (F.inv x)) ∧ Below W.heap.size W w') := fun v W sv => to_fe x (F.p - 2) hx (by decide) v W sv
 obtain ⟨z, hz⟩ : ∃ z, z = F.inv x := ⟨_, rfl⟩
 rw [← hz] at TF ⊢
 obtain ⟨q, hq⟩ : ∃ q, q = F.p - 2 := ⟨_, rfl⟩
 rw [← hq] at M1 TF
 obtain ⟨p, hp⟩ : ∃ p, p = F.p := ⟨_, rfl⟩
 have MF : Hid (∀ W, Calls Tryz.prog 96 #[] W fun e w' => (∃ v', e = .returned v' ∧ Sl w' v' (P.dg p)) ∧ Below W.heap.size W w') := by rw [hp]; exact modulus_fun
 rw [← hp] at M1
 clear x0 x1 x2 hx hz hq hp
 go_enter Tryz.func60, Tryz.ntmps60
 go_wp2_with (simp only [zero_fe])
 try rw [show Tryz.zeroCells61 = #[Value.int IntKind.i64 0, .int .i64 0, .int .i64 0, .int .i64 0, .int .i64 0, .int .i64 0, .int .i64 0, .int .i64 0, .int .i64 0, .int .i64 0, .int .i64 0, .int .i64 0, .int .i64 0, .int .i64 0, .int .i64 0, .int .i64 0] from rfl]
 generalize World.alloc (w.alloc _) _ = w1 at *
 refine wp_region_monoSE 5 [MP.eq (fe x), MP.sl (P.dg p), MP.sl [2], MP.sl (P.dg q), MP.eq (fe z)] (by kernel_rfl) (by kernel_rfl) rfl (by decide) (by kernel_rfl) ?_
 apply Exists.intro
 refine ⟨fun vals => ?_, ?_, fun vals4 w4 hb4 hF hO => ?_⟩
 ·simp only [putsV, dstL, List.length_cons, List.length_nil, Nat.zero_add, Nat.reduceAdd, List.getElem?_cons_zero, List.getElem?_cons_succ, Option.bind_some, Act.put, List.setIfInBounds_toArray, List.set_cons_succ, List.set_cons_zero]
  rfl
 ·refine ⟨?_, ?_, ?_, ?_, ?_, trivial⟩
  ·intro vals W hW hw hd
   try simp [Region.binds] at hd
   refine ⟨by first | rfl | simp [Region.wanted, yielded, hd], ?_⟩
   exact yields_ld 61 (.tmp 1) rfl w.heap.size 0 rfl ((row 16 (fd x)).map dI) _ (X0.out.up hW.out X0.out.lt).all u_fe rfl (info_row info_fe (fd x)) rfl
  ·intro vals W hW hw hd
   try simp [Region.binds] at hd
   refine ⟨by first | rfl | simp [Region.wanted, yielded, hd], ?_⟩
   simp [go_sem]
   exact (MF.out W).mono fun e w' ⟨⟨v, he, h⟩, hb⟩ => ⟨v, he, h, hb⟩
  ·intro vals W hW hw hd
   try simp [Region.binds] at hd
   refine ⟨by first | rfl | simp [Region.wanted, yielded, hd], ?_⟩
   simp [go_sem]
   exact ⟨Sl.one W 2 2 rfl, (Below.refl _ _).alloc (Nat.le_refl _) _⟩
  ·intro vals W hW hw hd
   try simp [Region.binds] at hd
   refine ⟨by first | rfl | simp [Region.wanted, yielded, hd], ?_⟩
   simp [go_sem]
   exact (M1.out _ _ W hd.1 hd.2.1).mono fun e w' ⟨⟨v, he, h⟩, hb⟩ => ⟨v, he, h, hb⟩
  ·intro vals W hW hw hd
   try simp [Region.binds] at hd
   refine ⟨by first | rfl | simp [Region.wanted, yielded, hd], ?_⟩
   simp [go_sem, hd]
   exact (TF.out _ W hd.2).mono fun e w' ⟨he, hb⟩ => ⟨_, he, rfl, hb⟩
 obtain ⟨f0, f1, f2, f3, f4, _⟩ := hF
 simp only [MP.eq_p] at f0 f4
 rw [f0, f4]
 simp only [List.drop_succ_cons, List.drop_zero]
 have Y1 : Hid (Ar w4 (w.heap.size + 1) 16 z0) := X1.out.up hb4.out X1.out.lt
 have Y2 : Hid (Below w.heap.size w w4) := X2.out.trans (hb4.out.mono X2.out.size)
 have TT : Hid (w4.there (w.heap.size + 1) 0 ((row 16 (fd z)).map dI).length) := Y1.out.there (by rw [List.length_map, List.length_map, row_length, row_length]; omega)
 clear f0 f1 f2 f3 f4 hb4 hO X0 X1 X2
 go_wp2_with (refine wp_store_eq rfl 61 (.tmp 2) (.tmp 7) rfl (w.heap.size + 1) 0 ((row 16 (fd z)).map dI) rfl rfl TT.out (info_row info_fe (fd z)) (one_dI _) ?_)
 intro w9 hw9
 go_wp2_with fail
 refine bodyPost_ret (v := fe z) ?_ rfl ⟨rfl, ?_⟩
 ·rw [hw9.out]
  exact results_cell (b := w.heap.size + 1) rfl rfl (World.rangeAt_setCells_same _ _ _ _ TT.out) u_fe rfl (info_row info_fe (fd z))
 ·rw [hw9.out]
  exact below_setCells _ _ _ Y2.out (by omega)
end Go.Proofs.YtfknkfninjjgbaaGreatDoor.I
