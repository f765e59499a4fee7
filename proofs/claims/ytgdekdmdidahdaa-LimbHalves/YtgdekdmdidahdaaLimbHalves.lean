/- LimbHalves returns true for every a, b and s. No condition. -/
import Derived.Test.YtgdekdmdidahdaaLHMath
import Derived.Test.YtgdekdmdidahdaaDBits
import Derived.Test.YtgdekdmdidahdaaDPlus
import Derived.Test.YtgdekdmdidahdaaDWords
import Derived.Test.YtgdekdmdidahdaaDDig
import Derived.Test.YtgdekdmdidahdaaDParts
import Derived.Test.YtgdekdmdidahdaaUpMS
import Derived.Test.YtgdekdmdidahdaaHalf
import Derived.Test.YtgdekdmdidahdaaEq
import Derived.Test.YtgdekdmdidahdaaKn
import Derived.Test.YtgdekdmdidahdaaAl
import Derived.Test.YtgdekdmdidahdaaArr
import Derived.Test.YtgdekdmdidahdaaOwn
namespace Go.Proofs.Ytgdekdmdidahdaa
open Go.RowKit
open Go.ChangeShapes Go.WideShapes Go.ChangeAt
attribute [local go_sem] World.cell?_alloc_some cell_alloc2 cell_alloc3 cell_alloc4 frozen?_alloc_cells frozen_out YieldsP execOp
attribute [local simp] MP.eq_p MP.sl_p MP.sl2_p
abbrev cb (ns : List Nat) : List Value := (bi ns).map (Value.int .u8)
theorem cb_get (ns : List Nat) (j : Nat) (h : j < ns.length) : (cb ns)[j]? = some (.int .u8 ((ns.getD j 0 : Nat) : Int)) := by
  simp [cb, bi, h]
theorem cb_set (ns : List Nat) (j y : Nat) : (cb ns).set j (.int .u8 ((y : Nat) : Int)) = cb (ns.set j y) := by
  simp [cb, bi, List.map_set]
theorem yieldsP_load {o : Oper} {a : Act} {w : World} {φ : Value → World → Prop} (ty : TypeId) (x : Operand) (ho : o.op = .load ty x) (b : Nat) (hx : a.eval x = .pointer (some ⟨b, 0, none⟩)) (cs : List Value) (d : TypeDesc) (hc : w.rangeAt b 0 cs) (hu : Try.prog.underlying ty = some d) (hd : d.isRow = true) (hi : (Try.prog.info? ty).map (·.size) = some cs.length)
    (h : φ (.agg cs.toArray) w) : YieldsP Try.prog o a w φ := by
  have e : (Go.execOp a.eval o).run Try.prog w = .ok (.value (.agg cs.toArray)) w := by
    unfold Go.execOp
    simp only [ho, hx, Instr.loadAt, Instr.sureAddr, Sem.run_bind, Sem.run_pure, Result.andThen_ok, run_loadVar_mid w b 0 ty cs d hc hu hd hi]
  unfold YieldsP
  rw [e]
  exact ⟨h, Below.refl _ _⟩
theorem Kn.range {w : World} {L : List (Nat × List Value)} (h : Kn w L) (i : Nat) {k : Nat} {vs : List Value} (hp : L[i]? = some (k, vs)) : w.rangeAt k 0 vs := fun j v hv => by
  rw [Nat.zero_add]
  exact (h.all _ (List.mem_of_getElem? hp)).cell j v hv
set_option maxRecDepth 20000 in
set_option maxHeartbeats 4000000 in
theorem limbHalves_walk (a b o : Nm) (ns : List Nat) (xs : List Int) (hl : ns.length = 32) (hs : ∀ x ∈ ns, x < 256) (X S Y : Nat)
    (OA : Hid (∀ w, Calls Try.prog 8 #[N a] w fun e w' => (∃ v', e = .returned v' ∧ Sl w' v' (P.dg X)) ∧ Below w.heap.size w w'))
    (BT : Hid (∀ u w, Sl w u (P.dg X) → Calls Try.prog 20 #[u, .int .i64 256] w fun e w' => (e = .returned (.slice (some ⟨w.heap.size, 0, none⟩) 256 256) ∧ ∀ j, j < 256 → w'.cell? ⟨w.heap.size, j, none⟩ = some (.int .i64 ((X / 2 ^ j % 2 : Nat) : Int))) ∧ Below w.heap.size w w'))
    (BE : Hid (∀ ws : List Nat, ws.length = 32 → (∀ j, j < 32 → ws.getD j 0 = wb X 256 j) → bytesOf a = bi ws))
    (SL : Hid (S < 256 ^ 32)) (XG : Hid (∀ k, k < 32 → (xs.map (Value.int .u8))[k]? = some (.int .u8 ((ns.getD k 0 : Nat) : Int))))
    (SS : Hid (∀ k, k < 32 → S / 256 ^ k = S / 256 ^ (k + 1) * 256 + ns.getD k 0))
    (TM : Hid (∀ k, k < 32 → ∀ u v w, Sl w u (P.dg (S / 256 ^ (k + 1))) → Sl w v [256] → Calls Try.prog 18 #[u, v] w fun e w' => (∃ v', e = .returned v' ∧ Sl w' v' (P.dg (S / 256 ^ (k + 1) * 256))) ∧ Below w.heap.size w w'))
    (PP : Hid (∀ k, k < 32 → ∀ u v w, Sl w u (P.dg (S / 256 ^ (k + 1) * 256)) → Sl w v [ns.getD k 0] → Calls Try.prog 9 #[u, v] w fun e w' => (∃ v', e = .returned v' ∧ Sl w' v' (P.dg (S / 256 ^ k))) ∧ Below w.heap.size w w'))
    (XL : Hid (xs.length = 32))
    (OF : Hid (∀ w, Calls Try.prog 28 #[Bs xs] w fun e w' => e = .returned (N o) ∧ Below w.heap.size w w'))
    (TN : Hid (∀ u w, Sl w u (P.dg S) → Calls Try.prog 14 #[u] w fun e w' => e = .returned (N o) ∧ Below w.heap.size w w'))
    (OB : Hid (∀ w, Calls Try.prog 8 #[N b] w fun e w' => (∃ v', e = .returned v' ∧ Sl w' v' (P.dg Y)) ∧ Below w.heap.size w w'))
    (TB : Hid (∀ u v w, Sl w u (P.dg Y) → Sl w v (P.dg (2 ^ 256)) → Calls Try.prog 18 #[u, v] w fun e w' => (∃ v', e = .returned v' ∧ Sl w' v' (P.dg (Y * 2 ^ 256))) ∧ Below w.heap.size w w'))
    (PX : Hid (∀ u v w, Sl w u (P.dg X) → Sl w v (P.dg (Y * 2 ^ 256)) → Calls Try.prog 9 #[u, v] w fun e w' => (∃ v', e = .returned v' ∧ Sl w' v' (P.dg (X + Y * 2 ^ 256))) ∧ Below w.heap.size w w'))
    (TW : Hid (∀ u w, Sl w u (P.dg (X + Y * 2 ^ 256)) → Calls Try.prog 17 #[u] w fun e w' => e = .returned (Wv a b) ∧ Below w.heap.size w w'))
    (w : World) :
    Calls Try.prog 4 #[N a, N b, Bs xs] w fun e w' => e = .returned (.bool true) ∧ Below w.heap.size w w' := by
  have s0 : Hid (Kn ((((kal4 (kal4 w a) b).alloc (.cells (xs.map (Value.int .u8)).toArray 45)).alloc (.cells (cb (List.replicate 32 0)).toArray 45))) [(w.heap.size + 1 + 1 + 1, cb (List.replicate 32 0)), (w.heap.size + 1 + 1, xs.map (Value.int .u8)), (w.heap.size + 1, c4 b), (w.heap.size, c4 a)]) :=
    ((((Kn.nil w).al (c4 a) 24 rfl).al (c4 b) 24 (by simp)).al (xs.map (Value.int .u8)) 45 (by simp)).al (cb (List.replicate 32 0)) 45 (by simp)
  have b0 : Hid (Below w.heap.size w ((((kal4 (kal4 w a) b).alloc (.cells (xs.map (Value.int .u8)).toArray 45)).alloc (.cells (cb (List.replicate 32 0)).toArray 45)))) :=
    ((((Below.refl _ _).alloc (Nat.le_refl _) _).alloc (by simp) _).alloc (by simp <;> omega) _).alloc (by simp <;> omega) _
  go_enter Try.func4, Try.ntmps4
  have ua_0 : ((((kal4 (kal4 w a) b).alloc (.cells (xs.map (Value.int .u8)).toArray 45)).alloc (.cells (cb (List.replicate 32 0)).toArray 45))).cell? ⟨w.heap.size, 0, none⟩ = some (.int .u64 (a).a) := Kn.get s0.out 3 0 rfl rfl
  have ua_1 : ((((kal4 (kal4 w a) b).alloc (.cells (xs.map (Value.int .u8)).toArray 45)).alloc (.cells (cb (List.replicate 32 0)).toArray 45))).cell? ⟨w.heap.size, 1, none⟩ = some (.int .u64 (a).b) := Kn.get s0.out 3 1 rfl rfl
  have ua_2 : ((((kal4 (kal4 w a) b).alloc (.cells (xs.map (Value.int .u8)).toArray 45)).alloc (.cells (cb (List.replicate 32 0)).toArray 45))).cell? ⟨w.heap.size, 2, none⟩ = some (.int .u64 (a).c) := Kn.get s0.out 3 2 rfl rfl
  have ua_3 : ((((kal4 (kal4 w a) b).alloc (.cells (xs.map (Value.int .u8)).toArray 45)).alloc (.cells (cb (List.replicate 32 0)).toArray 45))).cell? ⟨w.heap.size, 3, none⟩ = some (.int .u64 (a).d) := Kn.get s0.out 3 3 rfl rfl
  go_wp2_with fail
  clear ua_0 ua_1 ua_2 ua_3
  refine (OA.out _).mono ?_
  rintro e w1 ⟨⟨v1, rfl, h1⟩, hb1⟩
  have s1 : Hid (Kn w1 [(w.heap.size + 1 + 1 + 1, (cb (List.replicate 32 0))), (w.heap.size + 1 + 1, (xs.map (Value.int .u8))), (w.heap.size + 1, (c4 (b))), (w.heap.size, (c4 (a)))]) := s0.out.up hb1
  have b1 : Hid (Below w.heap.size w w1) := b0.out.trans (hb1.mono b0.out.size)
  have z1 := b1.out.size
  clear hb1 s0 b0
  have zz : w.heap.size + 1 + 1 + 1 < w1.heap.size := (s1.out.all _ List.mem_cons_self).lt
  have Sx : Hid (Sl w1 v1 (P.dg X)) := h1
  clear h1
  go_wp2_with fail
  refine (BT.out _ _ Sx.out).mono ?_
  rintro e w2 ⟨⟨rfl, c1⟩, hb2⟩
  replace Sx : Hid (Sl w2 v1 (P.dg X)) := Sl.up (xs := (P.dg X)) Sx.out hb2
  have s2 : Hid (Kn w2 [(w.heap.size + 1 + 1 + 1, (cb (List.replicate 32 0))), (w.heap.size + 1 + 1, (xs.map (Value.int .u8))), (w.heap.size + 1, (c4 (b))), (w.heap.size, (c4 (a)))]) := s1.out.up hb2
  have b2 : Hid (Below w.heap.size w w2) := b1.out.trans (hb2.mono b1.out.size)
  have z2 := b2.out.size
  clear hb2 s1 b1
  have C1 : Hid (∀ j, j < 256 → w2.cell? ⟨w1.heap.size, j, none⟩ = some (.int .i64 ((X / 2 ^ j % 2 : Nat) : Int))) := c1
  clear c1 Sx
  go_wp2_with fail
  go_loopw [17] (fun i wr => ∃ (k : Nat) (ws : List Nat), k ≤ 256 ∧ i = .int .i64 k ∧ ws.length = 32 ∧ Hid (∀ j, j < 32 → ws.getD j 0 = wb X k j) ∧ Hid (∀ j, j < 256 → wr.cell? ⟨w1.heap.size, j, none⟩ = some (.int .i64 ((X / 2 ^ j % 2 : Nat) : Int))) ∧
      Hid (Kn wr [(w.heap.size + 1 + 1 + 1, cb ws), (w.heap.size + 1 + 1, xs.map (Value.int .u8)), (w.heap.size + 1, c4 b), (w.heap.size, c4 a)]) ∧ Hid (Below w.heap.size w wr)) (fun i _ => 256 - (intOf i).toNat)
  case atStart =>
    refine ⟨0, List.replicate 32 0, by omega, rfl, rfl, ?_, C1, s2, b2⟩
    exact (fun j hj => by rw [List.getD_eq_getElem?_getD, List.getElem?_replicate, if_pos hj]; simp [wb, Nat.mod_one] : ∀ j, j < 32 → (List.replicate 32 0).getD j 0 = wb X 0 j)
  case round =>
    clear s2 b2 C1
    obtain ⟨k, ws, hk, rfl, hlen, HV, C1, s3, b3⟩ := hrel
    by_cases h1 : k < 256
    · have i1 : (k : Int) < 256 := by omega
      have i0 : (0 : Int) ≤ (k : Int) := by omega
      have cb1 := C1.out k h1
      have t2 : X / 2 ^ k % 2 < 2 := Nat.mod_lt _ (by decide)
      have WS := wb_step X k
      have WO : Hid (∀ j, j ≠ k / 8 → wb X (k + 1) j = wb X k j) := (fun j hj => wb_other hj : ∀ j, j ≠ k / 8 → wb X (k + 1) j = wb X k j)
      obtain ⟨q, hq⟩ : ∃ q, q = k / 8 := ⟨_, rfl⟩
      obtain ⟨r, hr⟩ : ∃ r, r = k % 8 := ⟨_, rfl⟩
      rw [← hq, ← hr] at WS
      rw [← hq] at WO
      have q1 : q < 32 := by omega
      have r1 : r < 8 := by omega
      have KQ : (k : Int) / 8 = (q : Int) := by omega
      have KR : (k : Int) % 8 = (r : Int) := by omega
      have q2 : (q : Int) < 32 := by omega
      have q0 : (0 : Int) ≤ (q : Int) := by omega
      have r2 : (r : Int) < 8 := by omega
      have r0 : (0 : Int) ≤ (r : Int) := by omega
      clear hq hr
      have cw := Kn.get s3.out 0 q rfl (cb_get ws q (by omega))
      rw [HV.out q q1] at cw
      have WE : Hid _ := WS.1
      have yl := WS.2
      have p2 : 2 ^ r ≤ 128 := Nat.le_trans (Nat.pow_le_pow_right (by decide) (show r ≤ 7 by omega)) (by decide)
      clear WS
      generalize X / 2 ^ k % 2 = t at *
      generalize hy : wb X k q = y at *
      have HY : Hid _ := hy
      clear hy
      have y1 : (y : Int) < 128 := by omega
      have y0 : (0 : Int) ≤ (y : Int) := by omega
      have t0 : (0 : Int) ≤ (t : Int) := by omega
      have t1 : (t : Int) ≤ 1 := by omega
      go_wp2_with fail
      refine wp_region_up_then 11 (by kernel_rfl) (by kernel_rfl) (by kernel_rfl) (by kernel_rfl) (by decide) (fun _ _ d _ _ h => by cases d <;> exact h) (fun U hU f hf hcl => ?_)
      have CW : ∀ n', (f n').cell? ⟨w.heap.size + 1 + 1 + 1, q, none⟩ = some (.int .u8 (y : Int)) := fun n' => ((hf n').out.cell (p := ⟨w.heap.size + 1 + 1 + 1, q, none⟩) (lt_of_cell cw)).trans cw
      clear cw cb1
      simp only [List.take_succ_cons, List.take_zero, List.drop_succ_cons, List.drop_zero]
      repeat (go_big_quiet_step (fail))
      refine wpQuiet_nil ?_
      intro nx
      have hb4 := (hf nx).out
      clear hf hcl CW
      generalize f nx = w4 at hb4 ⊢
      have s4 : Hid (Kn w4 [(w.heap.size + 1 + 1 + 1, cb ws), (w.heap.size + 1 + 1, xs.map (Value.int .u8)), (w.heap.size + 1, c4 b), (w.heap.size, c4 a)]) := s3.out.up hb4
      have b4 : Hid (Below w.heap.size w w4) := b3.out.trans (hb4.mono b3.out.size)
      have C4 : Hid (∀ j, j < 256 → w4.cell? ⟨w1.heap.size, j, none⟩ = some (.int .i64 ((X / 2 ^ j % 2 : Nat) : Int))) := (fun j hj => (hb4.cell (p := ⟨w1.heap.size, j, none⟩) (lt_of_cell (C1.out j hj))).trans (C1.out j hj) : ∀ j, j < 256 → w4.cell? ⟨w1.heap.size, j, none⟩ = some (.int .i64 ((X / 2 ^ j % 2 : Nat) : Int)))
      clear hb4 s3 b3 C1
      have d3 := Kn.get s4.out 0 q rfl (cb_get ws q (by omega))
      have d4 := Kn.fz s4.out 0 rfl
      go_wp2_with fail
      go_roundw
      case rel =>
        have hv : ((y : Int) + wrap64 ((t : Int) * 2 ^ r)) % 256 = ((y + t * 2 ^ r : Nat) : Int) := u8_put y t r t2 p2 yl
        rw [hv]
        refine ⟨k + 1, ws.set q (y + t * 2 ^ r), by omega, by go_num, by rw [List.length_set]; exact hlen, ?_, ?_, ?_, b4.out.setCell (show w.heap.size ≤ w.heap.size + 1 + 1 + 1 by omega) _⟩
        · refine (fun j hj => ?_ : ∀ j, j < 32 → (ws.set q (y + t * 2 ^ r)).getD j 0 = wb X (k + 1) j)
          by_cases e : j = q
          · subst e
            rw [List.getD_eq_getElem?_getD, List.getElem?_set_self (by omega)]
            exact WE.out.symm
          · rw [List.getD_eq_getElem?_getD, List.getElem?_set_ne (Ne.symm e), ← List.getD_eq_getElem?_getD, HV.out j hj, WO.out j e]
        · exact (fun j hj => (cell_set_ne (by omega)).trans (C4.out j hj) : ∀ j, j < 256 → (w4.setCell ⟨w.heap.size + 1 + 1 + 1, q, none⟩ (.int .u8 ((y + t * 2 ^ r : Nat) : Int))).cell? ⟨w1.heap.size, j, none⟩ = some (.int .i64 ((X / 2 ^ j % 2 : Nat) : Int)))
        · have := Kn.set s4.out q (.int .u8 ((y + t * 2 ^ r : Nat) : Int)) (by simp [cb, bi]; omega)
          rw [cb_set] at this
          exact this
      case measure => simp [intOf]; omega
    · have i1 : ¬ (k : Int) < 256 := by omega
      have k256 : k = 256 := by omega
      subst k256
      clear C1 hk h1
      have BW : Hid (bytesOf a = bi ws) := BE.out ws hlen HV.out
      clear HV
      go_wp2_with fail
      go_loopw [10, 11] (fun l i wr => ∃ (k : Nat), k ≤ 32 ∧ i = .int .i64 ((k : Int) - 1) ∧ Hid (Sl wr l (P.dg (S / 256 ^ k))) ∧
          Hid (Kn wr [(w.heap.size + 1 + 1 + 1, cb ws), (w.heap.size + 1 + 1, xs.map (Value.int .u8)), (w.heap.size + 1, c4 b), (w.heap.size, c4 a)]) ∧ Hid (Below w.heap.size w wr)) (fun _ i _ => (intOf i + 1).toNat)
      case atStart => exact ⟨32, by omega, rfl, .inl ⟨rfl, by rw [Nat.div_eq_of_lt SL.out, P.dg_zero]⟩, s3, b3⟩
      case round =>
        clear s3 b3
        obtain ⟨k, hk, rfl, sl, s3, b3⟩ := hrel
        by_cases h0 : 0 < k
        · obtain ⟨k, rfl⟩ : ∃ j, k = j + 1 := ⟨k - 1, by omega⟩
          rw [show ((k + 1 : Nat) : Int) - 1 = k by omega]
          have i0 : (k : Int) ≥ 0 := by omega
          have i2 : (k : Int) < 32 := by omega
          have cx := Kn.get s3.out 1 k rfl (XG.out k (by omega))
          have SD : Hid _ := SS.out k (by omega)
          have xl : ns.getD k 0 < 256 := by
            rw [List.getD_eq_getElem?_getD, List.getElem?_eq_getElem (by omega)]
            exact hs _ (List.getElem_mem _)
          have TI := TM.out k (by omega)
          have PL := PP.out k (by omega)
          generalize ns.getD k 0 = x at *
          have x0 : (0 : Int) ≤ (x : Int) := by omega
          have x1 : (x : Int) < 256 := by omega
          have CX : Hid _ := cx
          clear cx
          go_wp2_with fail
          refine wp_region_monoE [MP.sl (P.dg (S / 256 ^ (k + 1))), MP.sl [256], MP.sl (P.dg (S / 256 ^ (k + 1) * 256)), MP.eq (.int .i64 (k : Int)), MP.eq (.pointer (some ⟨w.heap.size + 1 + 1, k, none⟩)), MP.eq (.int .u8 (x : Int)), MP.eq (.int .i64 (x : Int)), MP.sl [x], MP.sl (P.dg (S / 256 ^ k)), MP.sl (P.dg (S / 256 ^ k))] (by kernel_rfl) (by kernel_rfl) rfl ?_
          apply Exists.intro
          refine ⟨fun vals => ?_, ?_, fun vals4 w4 hb4 hF => ?_⟩
          · simp only [putsV, dstL, List.length_cons, List.length_nil, Nat.zero_add, Nat.reduceAdd, List.getElem?_cons_zero, List.getElem?_cons_succ, Option.bind_some, Act.put, List.setIfInBounds_toArray, List.set_cons_succ, List.set_cons_zero]
            rfl
          · refine ⟨?_, ?_, ?_, ?_, ?_, ?_, ?_, ?_, ?_, ?_, trivial⟩
            · intro vals W hW hw hd
              simp [Region.binds] at hd
              refine ⟨by first | rfl | simp [Region.wanted, yielded, hd], ?_⟩
              have h9 : vals 9 = u10 := (hw.out 9 (by kernel_rfl)).trans rfl
              simp [go_sem, h9]
              exact ⟨Sl.up (xs := P.dg (S / 256 ^ (k + 1))) sl.out hW.out, Below.refl _ _⟩
            · intro vals W hW hw hd
              simp [Region.binds] at hd
              refine ⟨by first | rfl | simp [Region.wanted, yielded, hd], ?_⟩
              simp [go_sem]
              exact ⟨Sl.one W 256 _ rfl, (Below.refl _ _).alloc (Nat.le_refl _) _⟩
            · intro vals W hW hw hd
              simp [Region.binds] at hd
              refine ⟨by first | rfl | simp [Region.wanted, yielded, hd], ?_⟩
              simp [go_sem]
              exact (TI _ _ _ (by simp [hd]) (by simp [hd])).mono fun e w' ⟨⟨v', he, hs⟩, hb⟩ => ⟨v', he, hs, hb⟩
            · intro vals W hW hw hd
              simp [Region.binds] at hd
              refine ⟨by first | rfl | simp [Region.wanted, yielded, hd], ?_⟩
              simp [go_sem]
              exact Below.refl _ _
            · intro vals W hW hw hd
              simp [Region.binds] at hd
              refine ⟨by first | rfl | simp [Region.wanted, yielded, hd], ?_⟩
              simp [go_sem, hd, i0, i2]
              exact Below.refl _ _
            · intro vals W hW hw hd
              simp [Region.binds] at hd
              refine ⟨by first | rfl | simp [Region.wanted, yielded, hd], ?_⟩
              have u0 := (hW.out.cell (p := ⟨w.heap.size + 1 + 1, k, none⟩) (lt_of_cell CX.out)).trans CX.out
              simp [go_sem, hd, u0]
              exact Below.refl _ _
            · intro vals W hW hw hd
              simp [Region.binds] at hd
              refine ⟨by first | rfl | simp [Region.wanted, yielded, hd], ?_⟩
              simp [go_sem, hd]
              exact ⟨by rw [IntKind.wrap_i64]; omega, Below.refl _ _⟩
            · intro vals W hW hw hd
              simp [Region.binds] at hd
              refine ⟨by first | rfl | simp [Region.wanted, yielded, hd], ?_⟩
              simp [go_sem, hd]
              exact ⟨Sl.one W x _ rfl, (Below.refl _ _).alloc (Nat.le_refl _) _⟩
            · intro vals W hW hw hd
              simp [Region.binds] at hd
              refine ⟨by first | rfl | simp [Region.wanted, yielded, hd], ?_⟩
              simp [go_sem]
              exact (PL _ _ _ (by simp [hd]) (by simp [hd])).mono fun e w' ⟨⟨v', he, hs⟩, hb⟩ => ⟨v', he, hs, hb⟩
            · intro vals W hW hw hd
              simp [Region.binds] at hd
              refine ⟨by first | rfl | simp [Region.wanted, yielded, hd], ?_⟩
              simp [go_sem]
              exact ⟨by simp [hd], Below.refl _ _⟩
          obtain ⟨f0, f1, f2, f3, f4, f5, f6, f7, f8, f9, _⟩ := hF
          have s4 : Hid (Kn w4 [(w.heap.size + 1 + 1 + 1, (cb ws)), (w.heap.size + 1 + 1, (xs.map (Value.int .u8))), (w.heap.size + 1, (c4 (b))), (w.heap.size, (c4 (a)))]) := s3.out.up hb4.out
          have b4 : Hid (Below w.heap.size w w4) := b3.out.trans (hb4.out.mono b3.out.size)
          have z4 := b4.out.size
          clear hb4 s3 b3
          have Sel : Hid (Sl w4 (vals4 9) (P.dg (S / 256 ^ k))) := f9
          clear f0 f1 f2 f3 f4 f5 f6 f7 f8 f9
          go_wp2_with fail
          go_roundw
          case rel => exact ⟨k, by omega, by go_num, Sel, s4, b4⟩
          case measure => simp [intOf]
        · have k0 : k = 0 := by omega
          subst k0
          rw [show ((0 : Nat) : Int) - 1 = -1 by omega]
          have hsl : Sl wr u10 (P.dg S) := by
            have := sl.out
            rwa [Nat.pow_zero, Nat.div_one] at this
          have BY : Hid (∀ w, Calls Try.prog 27 #[N a] w fun e w' => e = .returned (Bs (bi ws)) ∧ Below w.heap.size w w') := by
            intro w
            have := bytes_fun a w
            rwa [BW.out] at this
          have eB := eqB_self (bi ws) (by simp [hlen])
          have e1 := eqN o o
          have e2 := eqN a a
          have e3 := eqN b b
          rw [Nm.beq_self] at e1 e2 e3
          have e4 := eqW a b a b
          rw [Nm.beq_self, Nm.beq_self] at e4
          have CI : Hid _ := info_len (xs := bi ws) (by simp [hlen])
          have XI : Hid _ := info_len (xs := xs) XL.out
          clear h0 hk sl
          have Sel : Hid (Sl wr u10 (P.dg S)) := hsl
          clear hsl
          have ua_0 : wr.cell? ⟨w.heap.size, 0, none⟩ = some (.int .u64 (a).a) := Kn.get s3.out 3 0 rfl rfl
          have ua_1 : wr.cell? ⟨w.heap.size, 1, none⟩ = some (.int .u64 (a).b) := Kn.get s3.out 3 1 rfl rfl
          have ua_2 : wr.cell? ⟨w.heap.size, 2, none⟩ = some (.int .u64 (a).c) := Kn.get s3.out 3 2 rfl rfl
          have ua_3 : wr.cell? ⟨w.heap.size, 3, none⟩ = some (.int .u64 (a).d) := Kn.get s3.out 3 3 rfl rfl
          have ub_0 : wr.cell? ⟨w.heap.size + 1, 0, none⟩ = some (.int .u64 (b).a) := Kn.get s3.out 2 0 rfl rfl
          have ub_1 : wr.cell? ⟨w.heap.size + 1, 1, none⟩ = some (.int .u64 (b).b) := Kn.get s3.out 2 1 rfl rfl
          have ub_2 : wr.cell? ⟨w.heap.size + 1, 2, none⟩ = some (.int .u64 (b).c) := Kn.get s3.out 2 2 rfl rfl
          have ub_3 : wr.cell? ⟨w.heap.size + 1, 3, none⟩ = some (.int .u64 (b).d) := Kn.get s3.out 2 3 rfl rfl
          go_wp2_with fail
          clear ua_0 ua_1 ua_2 ua_3 ub_0 ub_1 ub_2 ub_3
          refine (wideOf_fun a b _).mono ?_
          rintro e w4 ⟨rfl, hb4⟩
          replace Sel : Hid (Sl w4 u10 (P.dg S)) := Sl.up (xs := (P.dg S)) Sel.out hb4
          have s4 : Hid (Kn w4 [(w.heap.size + 1 + 1 + 1, (cb ws)), (w.heap.size + 1 + 1, (xs.map (Value.int .u8))), (w.heap.size + 1, (c4 (b))), (w.heap.size, (c4 (a)))]) := s3.out.up hb4
          have b4 : Hid (Below w.heap.size w w4) := b3.out.trans (hb4.mono b3.out.size)
          have z4 := b4.out.size
          clear hb4 s3 b3
          have s5 : Hid (Kn (kal8 w4 (a) (b)) [(w4.heap.size, (c8 (a) (b))), (w.heap.size + 1 + 1 + 1, (cb ws)), (w.heap.size + 1 + 1, (xs.map (Value.int .u8))), (w.heap.size + 1, (c4 (b))), (w.heap.size, (c4 (a)))]) := s4.out.al (c8 (a) (b)) 34 rfl
          have b5 : Hid (Below w.heap.size w (kal8 w4 (a) (b))) := b4.out.alloc b4.out.size _
          have z5 := b4.out.size
          replace Sel : Hid (Sl (kal8 w4 (a) (b)) u10 (P.dg S)) := Sl.up (xs := (P.dg S)) Sel.out ((Below.refl _ _).alloc (Nat.le_refl _) _)
          clear s4 b4
          go_wp2_with fail
          refine wp_region_monoE [MP.eq (N (a)), MP.eq (Bs (bi ws)), MP.eq (Bs (bi ws)), MP.eq (.bool true), MP.eq (.bool true), MP.eq (Bs xs), MP.eq (N o), MP.sl (P.dg S), MP.eq (N o), MP.eq (.bool true), MP.eq (.bool true), MP.eq (.bool true), MP.eq (Wv (a) (b)), MP.eq (N (a)), MP.sl (P.dg X), MP.eq (N (b)), MP.sl (P.dg Y), MP.sl (P.dg (2 ^ 256)), MP.sl (P.dg (Y * 2 ^ 256)), MP.sl (P.dg (X + Y * 2 ^ 256)), MP.eq (Wv a b), MP.eq (.bool true), MP.eq (.bool true), MP.eq (.bool true), MP.eq (Wv (a) (b)), MP.eq (N a), MP.eq (N (a)), MP.eq (.bool true), MP.eq (.bool true), MP.eq (.bool true), MP.eq (Wv (a) (b)), MP.eq (N b), MP.eq (N (b)), MP.eq (.bool true), MP.eq (.bool true), MP.eq (.bool true)] (by kernel_rfl) (by kernel_rfl) rfl ?_
          apply Exists.intro
          refine ⟨fun vals => ?_, ?_, fun vals6 w6 hb6 hF => ?_⟩
          · simp only [putsV, dstL, List.length_cons, List.length_nil, Nat.zero_add, Nat.reduceAdd, List.getElem?_cons_zero, List.getElem?_cons_succ, Option.bind_some, Act.put, List.setIfInBounds_toArray, List.set_cons_succ, List.set_cons_zero]
            rfl
          · refine ⟨?_, ?_, ?_, ?_, ?_, ?_, ?_, ?_, ?_, ?_, ?_, ?_, ?_, ?_, ?_, ?_, ?_, ?_, ?_, ?_, ?_, ?_, ?_, ?_, ?_, ?_, ?_, ?_, ?_, ?_, ?_, ?_, ?_, ?_, ?_, ?_, trivial⟩
            · intro vals W hW hw hd
              simp [Region.binds] at hd
              have u0 := Kn.get (s5.out.up hW.out) 4 0 rfl rfl
              have u1 := Kn.get (s5.out.up hW.out) 4 1 rfl rfl
              have u2 := Kn.get (s5.out.up hW.out) 4 2 rfl rfl
              have u3 := Kn.get (s5.out.up hW.out) 4 3 rfl rfl
              refine ⟨by first | rfl | simp [Region.wanted, yielded, hd], ?_⟩
              simp [go_sem, u0, u1, u2, u3]
              exact Below.refl _ _
            · intro vals W hW hw hd
              simp [Region.binds] at hd
              refine ⟨by first | rfl | simp [Region.wanted, yielded, hd], ?_⟩
              simp [go_sem, hd]
              exact (BY.out _).mono fun e w' ⟨he, hb⟩ => ⟨_, he, rfl, hb⟩
            · intro vals W hW hw hd
              simp [Region.binds] at hd
              refine ⟨by first | rfl | simp [Region.wanted, yielded, hd], ?_⟩
              exact yieldsP_load 45 (.tmp 7) rfl (w.heap.size + 1 + 1 + 1) rfl (cb ws) _ (Kn.range (s5.out.up hW.out) 1 rfl) Try.underlying45 rfl CI.out rfl
            · intro vals W hW hw hd
              simp [Region.binds] at hd
              refine ⟨by first | rfl | simp [Region.wanted, yielded, hd], ?_⟩
              simp [go_sem, hd, eB]
              exact Below.refl _ _
            · intro vals W hW hw hd
              simp [Region.binds] at hd
              refine ⟨by first | rfl | simp [Region.wanted, yielded, hd], ?_⟩
              simp [go_sem, hd]
              exact Below.refl _ _
            · intro vals W hW hw hd
              simp [Region.binds] at hd
              refine ⟨by first | rfl | simp [Region.wanted, yielded, hd], ?_⟩
              exact yieldsP_load 45 (.tmp 5) rfl (w.heap.size + 1 + 1) rfl (xs.map (Value.int .u8)) _ (Kn.range (s5.out.up hW.out) 2 rfl) Try.underlying45 rfl XI.out rfl
            · intro vals W hW hw hd
              simp [Region.binds] at hd
              refine ⟨by first | rfl | simp [Region.wanted, yielded, hd], ?_⟩
              simp [go_sem, hd]
              exact (OF.out _).mono fun e w' ⟨he, hb⟩ => ⟨_, he, rfl, hb⟩
            · intro vals W hW hw hd
              simp [Region.binds] at hd
              refine ⟨by first | rfl | simp [Region.wanted, yielded, hd], ?_⟩
              simp [go_sem]
              exact ⟨Sl.up (xs := (P.dg S)) Sel.out hW.out, Below.refl _ _⟩
            · intro vals W hW hw hd
              simp [Region.binds] at hd
              refine ⟨by first | rfl | simp [Region.wanted, yielded, hd], ?_⟩
              simp [go_sem]
              exact (TN.out _ _ (by simp [hd])).mono fun e w' ⟨he, hb⟩ => ⟨_, he, rfl, hb⟩
            · intro vals W hW hw hd
              simp [Region.binds] at hd
              refine ⟨by first | rfl | simp [Region.wanted, yielded, hd], ?_⟩
              simp [go_sem, hd, e1]
              exact Below.refl _ _
            · intro vals W hW hw hd
              simp [Region.binds] at hd
              refine ⟨by first | rfl | simp [Region.wanted, yielded, hd], ?_⟩
              simp [go_sem, hd]
              exact Below.refl _ _
            · intro vals W hW hw hd
              simp [Region.binds] at hd
              refine ⟨by first | rfl | simp [Region.wanted, yielded, hd], ?_⟩
              simp [go_sem, hd]
              exact Below.refl _ _
            · intro vals W hW hw hd
              simp [Region.binds] at hd
              have u0 := Kn.get (s5.out.up hW.out) 0 0 rfl rfl
              have u1 := Kn.get (s5.out.up hW.out) 0 1 rfl rfl
              have u2 := Kn.get (s5.out.up hW.out) 0 2 rfl rfl
              have u3 := Kn.get (s5.out.up hW.out) 0 3 rfl rfl
              have u4 := Kn.get (s5.out.up hW.out) 0 4 rfl rfl
              have u5 := Kn.get (s5.out.up hW.out) 0 5 rfl rfl
              have u6 := Kn.get (s5.out.up hW.out) 0 6 rfl rfl
              have u7 := Kn.get (s5.out.up hW.out) 0 7 rfl rfl
              refine ⟨by first | rfl | simp [Region.wanted, yielded, hd], ?_⟩
              simp [go_sem, u0, u1, u2, u3, u4, u5, u6, u7]
              exact Below.refl _ _
            · intro vals W hW hw hd
              simp [Region.binds] at hd
              have u0 := Kn.get (s5.out.up hW.out) 4 0 rfl rfl
              have u1 := Kn.get (s5.out.up hW.out) 4 1 rfl rfl
              have u2 := Kn.get (s5.out.up hW.out) 4 2 rfl rfl
              have u3 := Kn.get (s5.out.up hW.out) 4 3 rfl rfl
              refine ⟨by first | rfl | simp [Region.wanted, yielded, hd], ?_⟩
              simp [go_sem, u0, u1, u2, u3]
              exact Below.refl _ _
            · intro vals W hW hw hd
              simp [Region.binds] at hd
              refine ⟨by first | rfl | simp [Region.wanted, yielded, hd], ?_⟩
              simp [go_sem, hd]
              exact (OA.out _).mono fun e w' ⟨⟨v', he, hs⟩, hb⟩ => ⟨v', he, hs, hb⟩
            · intro vals W hW hw hd
              simp [Region.binds] at hd
              have u0 := Kn.get (s5.out.up hW.out) 3 0 rfl rfl
              have u1 := Kn.get (s5.out.up hW.out) 3 1 rfl rfl
              have u2 := Kn.get (s5.out.up hW.out) 3 2 rfl rfl
              have u3 := Kn.get (s5.out.up hW.out) 3 3 rfl rfl
              refine ⟨by first | rfl | simp [Region.wanted, yielded, hd], ?_⟩
              simp [go_sem, u0, u1, u2, u3]
              exact Below.refl _ _
            · intro vals W hW hw hd
              simp [Region.binds] at hd
              refine ⟨by first | rfl | simp [Region.wanted, yielded, hd], ?_⟩
              simp [go_sem, hd]
              exact (OB.out _).mono fun e w' ⟨⟨v', he, hs⟩, hb⟩ => ⟨v', he, hs, hb⟩
            · intro vals W hW hw hd
              simp [Region.binds] at hd
              refine ⟨by first | rfl | simp [Region.wanted, yielded, hd], ?_⟩
              simp [go_sem]
              exact (twoTo_fun _).mono fun e w' ⟨⟨v', he, hs⟩, hb⟩ => ⟨v', he, hs, hb⟩
            · intro vals W hW hw hd
              simp [Region.binds] at hd
              refine ⟨by first | rfl | simp [Region.wanted, yielded, hd], ?_⟩
              simp [go_sem]
              exact (TB.out _ _ _ (by simp [hd]) (by simp [hd])).mono fun e w' ⟨⟨v', he, hs⟩, hb⟩ => ⟨v', he, hs, hb⟩
            · intro vals W hW hw hd
              simp [Region.binds] at hd
              refine ⟨by first | rfl | simp [Region.wanted, yielded, hd], ?_⟩
              simp [go_sem]
              exact (PX.out _ _ _ (by simp [hd]) (by simp [hd])).mono fun e w' ⟨⟨v', he, hs⟩, hb⟩ => ⟨v', he, hs, hb⟩
            · intro vals W hW hw hd
              simp [Region.binds] at hd
              refine ⟨by first | rfl | simp [Region.wanted, yielded, hd], ?_⟩
              simp [go_sem]
              exact (TW.out _ _ (by simp [hd])).mono fun e w' ⟨he, hb⟩ => ⟨_, he, rfl, hb⟩
            · intro vals W hW hw hd
              simp [Region.binds] at hd
              refine ⟨by first | rfl | simp [Region.wanted, yielded, hd], ?_⟩
              simp [go_sem, hd, e4]
              exact Below.refl _ _
            · intro vals W hW hw hd
              simp [Region.binds] at hd
              refine ⟨by first | rfl | simp [Region.wanted, yielded, hd], ?_⟩
              simp [go_sem, hd]
              exact Below.refl _ _
            · intro vals W hW hw hd
              simp [Region.binds] at hd
              refine ⟨by first | rfl | simp [Region.wanted, yielded, hd], ?_⟩
              simp [go_sem, hd]
              exact Below.refl _ _
            · intro vals W hW hw hd
              simp [Region.binds] at hd
              have u0 := Kn.get (s5.out.up hW.out) 0 0 rfl rfl
              have u1 := Kn.get (s5.out.up hW.out) 0 1 rfl rfl
              have u2 := Kn.get (s5.out.up hW.out) 0 2 rfl rfl
              have u3 := Kn.get (s5.out.up hW.out) 0 3 rfl rfl
              have u4 := Kn.get (s5.out.up hW.out) 0 4 rfl rfl
              have u5 := Kn.get (s5.out.up hW.out) 0 5 rfl rfl
              have u6 := Kn.get (s5.out.up hW.out) 0 6 rfl rfl
              have u7 := Kn.get (s5.out.up hW.out) 0 7 rfl rfl
              refine ⟨by first | rfl | simp [Region.wanted, yielded, hd], ?_⟩
              simp [go_sem, u0, u1, u2, u3, u4, u5, u6, u7]
              exact Below.refl _ _
            · intro vals W hW hw hd
              simp [Region.binds] at hd
              refine ⟨by first | rfl | simp [Region.wanted, yielded, hd], ?_⟩
              simp [go_sem, hd]
              exact (low_fun a b _).mono fun e w' ⟨he, hb⟩ => ⟨_, he, rfl, hb⟩
            · intro vals W hW hw hd
              simp [Region.binds] at hd
              have u0 := Kn.get (s5.out.up hW.out) 4 0 rfl rfl
              have u1 := Kn.get (s5.out.up hW.out) 4 1 rfl rfl
              have u2 := Kn.get (s5.out.up hW.out) 4 2 rfl rfl
              have u3 := Kn.get (s5.out.up hW.out) 4 3 rfl rfl
              refine ⟨by first | rfl | simp [Region.wanted, yielded, hd], ?_⟩
              simp [go_sem, u0, u1, u2, u3]
              exact Below.refl _ _
            · intro vals W hW hw hd
              simp [Region.binds] at hd
              refine ⟨by first | rfl | simp [Region.wanted, yielded, hd], ?_⟩
              simp [go_sem, hd, e2]
              exact Below.refl _ _
            · intro vals W hW hw hd
              simp [Region.binds] at hd
              refine ⟨by first | rfl | simp [Region.wanted, yielded, hd], ?_⟩
              simp [go_sem, hd]
              exact Below.refl _ _
            · intro vals W hW hw hd
              simp [Region.binds] at hd
              refine ⟨by first | rfl | simp [Region.wanted, yielded, hd], ?_⟩
              simp [go_sem, hd]
              exact Below.refl _ _
            · intro vals W hW hw hd
              simp [Region.binds] at hd
              have u0 := Kn.get (s5.out.up hW.out) 0 0 rfl rfl
              have u1 := Kn.get (s5.out.up hW.out) 0 1 rfl rfl
              have u2 := Kn.get (s5.out.up hW.out) 0 2 rfl rfl
              have u3 := Kn.get (s5.out.up hW.out) 0 3 rfl rfl
              have u4 := Kn.get (s5.out.up hW.out) 0 4 rfl rfl
              have u5 := Kn.get (s5.out.up hW.out) 0 5 rfl rfl
              have u6 := Kn.get (s5.out.up hW.out) 0 6 rfl rfl
              have u7 := Kn.get (s5.out.up hW.out) 0 7 rfl rfl
              refine ⟨by first | rfl | simp [Region.wanted, yielded, hd], ?_⟩
              simp [go_sem, u0, u1, u2, u3, u4, u5, u6, u7]
              exact Below.refl _ _
            · intro vals W hW hw hd
              simp [Region.binds] at hd
              refine ⟨by first | rfl | simp [Region.wanted, yielded, hd], ?_⟩
              simp [go_sem, hd]
              exact (high_fun a b _).mono fun e w' ⟨he, hb⟩ => ⟨_, he, rfl, hb⟩
            · intro vals W hW hw hd
              simp [Region.binds] at hd
              have u0 := Kn.get (s5.out.up hW.out) 3 0 rfl rfl
              have u1 := Kn.get (s5.out.up hW.out) 3 1 rfl rfl
              have u2 := Kn.get (s5.out.up hW.out) 3 2 rfl rfl
              have u3 := Kn.get (s5.out.up hW.out) 3 3 rfl rfl
              refine ⟨by first | rfl | simp [Region.wanted, yielded, hd], ?_⟩
              simp [go_sem, u0, u1, u2, u3]
              exact Below.refl _ _
            · intro vals W hW hw hd
              simp [Region.binds] at hd
              refine ⟨by first | rfl | simp [Region.wanted, yielded, hd], ?_⟩
              simp [go_sem, hd, e3]
              exact Below.refl _ _
            · intro vals W hW hw hd
              simp [Region.binds] at hd
              refine ⟨by first | rfl | simp [Region.wanted, yielded, hd], ?_⟩
              simp [go_sem, hd]
              exact Below.refl _ _
            · intro vals W hW hw hd
              simp [Region.binds] at hd
              refine ⟨by first | rfl | simp [Region.wanted, yielded, hd], ?_⟩
              simp [go_sem, hd]
              exact Below.refl _ _
          obtain ⟨f0, f1, f2, f3, f4, f5, f6, f7, f8, f9, f10, f11, f12, f13, f14, f15, f16, f17, f18, f19, f20, f21, f22, f23, f24, f25, f26, f27, f28, f29, f30, f31, f32, f33, f34, f35, _⟩ := hF
          have s6 : Hid (Kn w6 [(w4.heap.size, (c8 (a) (b))), (w.heap.size + 1 + 1 + 1, (cb ws)), (w.heap.size + 1 + 1, (xs.map (Value.int .u8))), (w.heap.size + 1, (c4 (b))), (w.heap.size, (c4 (a)))]) := s5.out.up hb6.out
          have b6 : Hid (Below w.heap.size w w6) := b5.out.trans (hb6.out.mono b5.out.size)
          have z6 := b6.out.size
          replace Sel : Hid (Sl w6 u10 (P.dg S)) := Sl.up (xs := (P.dg S)) Sel.out hb6.out
          clear hb6 s5 b5
          have e35 := f35
          simp only [MP.eq_p] at e35
          clear f0 f1 f2 f3 f4 f5 f6 f7 f8 f9 f10 f11 f12 f13 f14 f15 f16 f17 f18 f19 f20 f21 f22 f23 f24 f25 f26 f27 f28 f29 f30 f31 f32 f33 f34 f35
          go_wp2_with fail
          go_ret
          exact ⟨by rw [e35]; rfl, b6.out⟩
theorem len_le {n L : Nat} (h : n < 65536 ^ L) : (P.dg n).length ≤ L := P.dg_len L h
theorem limbHalves_law (a b : Nm) (xs : List Int) (oa : a.ok) (ob : b.ok) (hl : xs.length = 32) (hx : ∀ x ∈ xs, 0 ≤ x ∧ x < 256) (w : World) :
    Calls Try.prog 4 #[N a, N b, Bs xs] w fun e w' => e = .returned (.bool true) ∧ Below w.heap.size w w' := by
  obtain ⟨ns, hns⟩ : ∃ ns : List Nat, xs = bi ns := ⟨xs.map Int.toNat, by
    rw [bi, List.map_map]
    refine (List.map_id' xs).symm.trans (List.map_congr_left fun x h => ?_)
    exact (Int.toNat_of_nonneg (hx x h).1).symm⟩
  have hn : ns.length = 32 := by rw [hns] at hl; simpa using hl
  have hs : ∀ x ∈ ns, x < 256 := by
    intro x h
    have := hx (x : Int) (by rw [hns]; exact List.mem_map.2 ⟨x, h, rfl⟩)
    omega
  have lS : bv ns < 256 ^ 32 := by have := bv_lt ns hs; rwa [hn] at this
  have e256 : (256 : Nat) ^ 32 = 2 ^ 256 := by decide
  have la := Nm.nat_lt oa
  have lb := Nm.nat_lt ob
  have l16 : ∀ n : Nat, n < 2 ^ 256 → (P.dg n).length ≤ 17 := fun n h => len_le (Nat.lt_of_lt_of_le h (by decide))
  have lsk : ∀ k, bv ns / 256 ^ k < 2 ^ 256 := fun k => Nat.lt_of_le_of_lt (Nat.div_le_self _ _) (by rw [← e256]; exact lS)
  have SS : ∀ k, bv ns / 256 ^ k = bv ns / 256 ^ (k + 1) * 256 + ns.getD k 0 := fun k => bv_step ns hs k
  have lt1 : (P.dg (2 ^ 256)).length ≤ 17 := len_le (by decide)
  have lp : (P.dg (b.nat * 2 ^ 256)).length ≤ 33 := len_le (Nat.lt_of_lt_of_le (Nat.mul_lt_mul_of_pos_right lb (Nat.pow_pos (by decide))) (by decide))
  have Vab : a.nat + b.nat * 2 ^ 256 = V a b := by rw [V_nat oa ob, Nat.mul_comm]
  have lv : a.nat + b.nat * 2 ^ 256 < 2 ^ 512 := by rw [Vab]; exact V_lt oa ob
  have OF : ∀ w, Calls Try.prog 28 #[Bs xs] w fun e w' => e = .returned (N (Nm.of ((bv ns : Nat) : Int))) ∧ Below w.heap.size w w' := by
    intro w
    have := of_fun xs hl hx w
    rw [← acc_num ns hn hs, ← hns]
    exact this
  refine limbHalves_walk a b _ ns xs hn hs a.nat (bv ns) b.nat (fun w => ofNum_fun a oa w) (fun u w h => ?_) (fun ws h1 h2 => bytes_bi a oa ws h1 h2) lS (fun k hk => ?_) (fun k _ => SS k) (fun k _ u v w h1 h2 => ?_) (fun k hk u v w h1 h2 => ?_) hl OF (fun u w h => ?_)
    (fun w => ofNum_fun b ob w) (fun u v w h1 h2 => ?_) (fun u v w h1 h2 => ?_) (fun u w h => ?_) w
  · refine (bits_fun u (P.dg a.nat) (P.dg_Dg _) 256 (by decide) w h).mono ?_
    rintro e w' ⟨⟨rfl, bs, hb1, hb2, ho⟩, hb⟩
    refine ⟨⟨rfl, fun j hj => ?_⟩, hb⟩
    have := (Ow.cell ho hb1.symm j (by omega)).1
    rw [this, hb2 j hj, P.dv_dg]
  · rw [hns]
    exact cb_get ns k (by omega)
  · have := dtimes_fun u v _ [256] (P.dg_Dg (bv ns / 256 ^ (k + 1))) (P.Dg.one (by decide)) (by have := l16 _ (lsk (k + 1)); omega) (by decide) w h1 h2
    rwa [P.dv_dg, show P.dv [256] = 256 from rfl] at this
  · have xl : ns.getD k 0 < 65536 := by
      rw [List.getD_eq_getElem?_getD, List.getElem?_eq_getElem (by omega)]
      exact Nat.lt_trans (hs _ (List.getElem_mem _)) (by decide)
    have e : bv ns / 256 ^ (k + 1) * 256 < 2 ^ 256 := by
      have := lsk k
      rw [SS k] at this
      exact Nat.lt_of_le_of_lt (Nat.le_add_right _ _) this
    have := dplus_fun u v _ [ns.getD k 0] (P.dg_Dg (bv ns / 256 ^ (k + 1) * 256)) (P.Dg.one xl) (by have := l16 _ e; omega) (by simp) w h1 h2
    rwa [P.dv_dg, show P.dv [ns.getD k 0] = ns.getD k 0 by simp [P.dv], ← SS k] at this
  · have := toNum_fun u _ (P.dg_Dg (bv ns)) (by have := l16 (bv ns) (by rw [← e256]; exact lS); omega) w h
    rwa [P.dv_dg, Nat.mod_eq_of_lt (show bv ns < 2 ^ 256 by rw [← e256]; exact lS)] at this
  · have := dtimes_fun u v _ _ (P.dg_Dg b.nat) (P.dg_Dg (2 ^ 256)) (by have := l16 _ lb; omega) (by omega) w h1 h2
    rwa [P.dv_dg, P.dv_dg] at this
  · have := dplus_fun u v _ _ (P.dg_Dg a.nat) (P.dg_Dg (b.nat * 2 ^ 256)) (by have := l16 _ la; omega) (by omega) w h1 h2
    rwa [P.dv_dg, P.dv_dg] at this
  · have := toWide_fun u _ (P.dg_Dg (a.nat + b.nat * 2 ^ 256)) (by
      have : (P.dg (a.nat + b.nat * 2 ^ 256)).length ≤ 32 := len_le (by rw [show (65536 : Nat) ^ 32 = 2 ^ 256 * 2 ^ 256 by decide, ← pow512']; exact lv)
      omega) (by rw [P.dv_dg]; exact lv) w h
    rwa [P.dv_dg, Vab, ← (V_halves oa ob).1, ← (V_halves oa ob).2] at this

set_option maxRecDepth 100000 in
theorem limbHalves_lifted (os : Os) (started : os.Started) (H : Type) (enc : TypeId × Value → H) :
    ReturnsInHanded {} Try.checked os 4 .any (Rows.limbHalvesSpec.pre6 enc Try.prog Try.f4 Rows.limbHalvesRow.domain false) (Rows.limbHalvesSpec.post enc Try.prog Try.f4 false true false false) := by
  refine returnsInHanded_of_change (C := Try.checked) Try.own started (by kernel_rfl) Try.func4
    (ChangeSpec.witness6 (enc := enc) (C := Try.checked) false ⟨#[], #[.agg #[.int .u64 0, .int .u64 0, .int .u64 0, .int .u64 0], .agg #[.int .u64 0, .int .u64 0, .int .u64 0, .int .u64 0], .agg #[.int .u8 0, .int .u8 0, .int .u8 0, .int .u8 0, .int .u8 0, .int .u8 0, .int .u8 0, .int .u8 0, .int .u8 0, .int .u8 0, .int .u8 0, .int .u8 0, .int .u8 0, .int .u8 0, .int .u8 0, .int .u8 0, .int .u8 0, .int .u8 0, .int .u8 0, .int .u8 0, .int .u8 0, .int .u8 0, .int .u8 0, .int .u8 0, .int .u8 0, .int .u8 0, .int .u8 0, .int .u8 0, .int .u8 0, .int .u8 0, .int .u8 0, .int .u8 0]], []⟩ 8 (by kernel_rfl) (by kernel_rfl) (by kernel_rfl) (by kernel_rfl)) ?_
  intro W base args ds gs before hval0 hW hcnd _
  have hval : ∀ (j : Nat) t v, Try.f4.params[j]? = some t → args[j]? = some v → Value.okWide Try.prog W .any base t v := hval0
  have hW' := hW
  obtain ⟨p, q, hA0, hV, rfl, hfz, hnd⟩ := hW
  have hA : DataW.TrodAll enc Try.prog W 0 (fun _ => true) true Try.f4.params.toList args.toList ds p := hA0
  rw [Try.params4] at hA hval
  obtain ⟨v0, v1, v2, d0, d1, d2, p0, p1, p2, rfl, rfl, rfl, h0, h1, h2⟩ := trodAll_three hA
  obtain ⟨rfl, rfl⟩ := trodVars_none hV
  obtain ⟨xs0, l0, rfl, rfl, rfl, w0⟩ := open_arr Try.underlying24 Try.underlying22 Try.cellsU64 Try.cellsNum (hval 0 24 v0 rfl rfl) h0
  obtain ⟨xs1, l1, rfl, rfl, rfl, w1⟩ := open_arr Try.underlying24 Try.underlying22 Try.cellsU64 Try.cellsNum (hval 1 24 v1 rfl rfl) h1
  obtain ⟨xs2, l2, rfl, rfl, rfl, w2⟩ := open_arr Try.underlying45 Try.underlying5 Try.cellsU8 Try.cellsB32 (hval 2 45 v2 rfl rfl) h2
  clear hA0 hval0 hval hA h0 h1 h2
  obtain ⟨a0, b0, c0, d0, rfl⟩ := list4 xs0 l0
  have ok0 : (⟨a0, b0, c0, d0⟩ : Nm).ok := ⟨word_of_wf (w0 _ (by simp)), word_of_wf (w0 _ (by simp)), word_of_wf (w0 _ (by simp)), word_of_wf (w0 _ (by simp))⟩
  obtain ⟨a1, b1, c1, d1, rfl⟩ := list4 xs1 l1
  have ok1 : (⟨a1, b1, c1, d1⟩ : Nm).ok := ⟨word_of_wf (w1 _ (by simp)), word_of_wf (w1 _ (by simp)), word_of_wf (w1 _ (by simp)), word_of_wf (w1 _ (by simp))⟩
  simp only [List.append_nil] at hW'
  refine (limbHalves_law ⟨a0, b0, c0, d0⟩ ⟨a1, b1, c1, d1⟩ xs2 ok0 ok1 l2 (fun z hz => byte_of_wf (w2 z hz)) W).mono fun e W' ⟨he, hg⟩ => ?_
  subst he
  exact ⟨_, rfl, _, _, _, [], [], [], hW', trodAll_mk1 (shut_bool Try.underlying4 _), trodAll_mk3 (shut_arr Try.underlying24 Try.underlying22 Try.cellsU64 Try.cellsNum l0 w0) (shut_arr Try.underlying24 Try.underlying22 Try.cellsU64 Try.cellsNum l1 w1) (shut_arr Try.underlying45 Try.underlying5 Try.cellsU8 Try.cellsB32 l2 w2), rfl, hg.frame _, fun h => by cases h⟩

theorem limbHalves_holds : Rows.LimbHalvesSaid :=
  OpenClaim.holds_of_wide 4 Try.f4 rfl rfl rfl rfl rfl rfl rfl ⟨rfl, rfl, rfl, rfl, rfl⟩ rfl rfl rfl rfl rfl (by kernel_rfl) Try.func4 (by kernel_rfl)
    (of_decide_eq_true (by kernel_rfl)) (by unfold Func.isWrapper; first | (rw [if_pos (by decide +kernel)]; kernel_rfl) | (rw [if_neg (by decide +kernel)]; exact ⟨rfl, rfl⟩))
    (fun os started H enc _ => limbHalves_lifted os started H enc)
#print axioms limbHalves_holds
end Go.Proofs.Ytgdekdmdidahdaa
