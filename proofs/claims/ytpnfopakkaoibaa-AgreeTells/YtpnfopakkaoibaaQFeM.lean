/- The contract of sealringref's Fe.By: the product. -/
import Derived.Test.YtpnfopakkaoibaaQFeA
namespace Go.Proofs.Ytpnfopakkaoibaa.I
open Go.RowKit
set_option linter.unusedSimpArgs false
attribute [local go_sem] YieldsP execOp
attribute [local simp] MP.eq_p
theorem byl_end (f : Nat → Nat) (i : Nat) (h : i < 17) : upd (less (dig (fol f) 0) 16) 16 (car (fol f) 0 16) i = byl f i := by
  unfold upd less byl
  by_cases h1 : i = 16
  · subst h1
    rw [if_pos rfl, if_neg (by omega)]
  · rw [if_neg h1, if_pos (by omega), if_pos (by omega)]
set_option maxRecDepth 20000 in
set_option maxHeartbeats 2000000 in
theorem by_core (a b T G : Nat → Nat) (ha : ∀ i, i < 16 → a i < 65536) (hb : ∀ i, i < 16 → b i < 65536) (hT : T = byl (pro a b 16)) (LS : Hid (∀ w, Calls Try.prog 83 #[aI 17 T] w fun e w' => e = .returned (aI 16 G) ∧ Below w.heap.size w w')) (w : World) : Calls Try.prog 53 #[aI 16 a, aI 16 b] w fun e w' => e = .returned (aI 16 G) ∧ Below w.heap.size w w' := by
  have AB : Hid ((∀ j, j < 16 → a j < 65536) ∧ ∀ j, j < 16 → b j < 65536) := ⟨ha, hb⟩
  obtain ⟨AC, hAC⟩ : ∃ AC : Nat → Nat → Nat → Nat, AC = fun i k => acc a b i (pro a b i) k := ⟨_, rfl⟩
  have A0 : Hid (∀ n, AC 0 0 n = 0) := by rw [hAC]; exact fun _ => rfl
  have AN : Hid (∀ i, AC i 16 = AC (i + 1) 0) := by rw [hAC]; exact fun _ => rfl
  have AS : Hid (∀ i k, AC i (k + 1) = upd (AC i k) (i + k) (AC i k (i + k) + a i * b k)) := by rw [hAC]; exact fun _ _ => rfl
  have AL : Hid (∀ i k, i < 16 → k ≤ 16 → ∀ n, AC i k n ≤ 1099511627776) := by rw [hAC]; exact fun i k hi hk n => acc_pro_le ha hb hi hk n
  obtain ⟨PF, hPF⟩ : ∃ PF : Nat → Nat, PF = pro a b 16 := ⟨_, rfl⟩
  have AP : Hid (AC 16 0 = PF) := by rw [hAC, hPF]; exact rfl
  have PL : Hid (∀ n, PF n ≤ 1099511627776) := by rw [hPF]; exact fun n => pro_le ha hb 16 (by decide) n
  rw [← hPF] at hT
  have TE : Hid (∀ i, i < 17 → upd (less (dig (fol PF) 0) 16) 16 (car (fol PF) 0 16) i = T i) := by rw [hT]; exact fun i hi => byl_end PF i hi
  obtain ⟨x0, x1, x2, x3, x4⟩ := al4 w ((row 16 a).map dI).toArray ((row 16 b).map dI).toArray #[Value.int IntKind.i64 0, Value.int IntKind.i64 0, Value.int IntKind.i64 0, Value.int IntKind.i64 0, Value.int IntKind.i64 0, Value.int IntKind.i64 0, Value.int IntKind.i64 0, Value.int IntKind.i64 0, Value.int IntKind.i64 0, Value.int IntKind.i64 0, Value.int IntKind.i64 0, Value.int IntKind.i64 0, Value.int IntKind.i64 0, Value.int IntKind.i64 0, Value.int IntKind.i64 0, Value.int IntKind.i64 0] #[Value.int IntKind.i64 0, Value.int IntKind.i64 0, Value.int IntKind.i64 0, Value.int IntKind.i64 0, Value.int IntKind.i64 0, Value.int IntKind.i64 0, Value.int IntKind.i64 0, Value.int IntKind.i64 0, Value.int IntKind.i64 0, Value.int IntKind.i64 0, Value.int IntKind.i64 0, Value.int IntKind.i64 0, Value.int IntKind.i64 0, Value.int IntKind.i64 0, Value.int IntKind.i64 0, Value.int IntKind.i64 0, Value.int IntKind.i64 0, Value.int IntKind.i64 0, Value.int IntKind.i64 0, Value.int IntKind.i64 0, Value.int IntKind.i64 0, Value.int IntKind.i64 0, Value.int IntKind.i64 0, Value.int IntKind.i64 0, Value.int IntKind.i64 0, Value.int IntKind.i64 0, Value.int IntKind.i64 0, Value.int IntKind.i64 0, Value.int IntKind.i64 0, Value.int IntKind.i64 0, Value.int IntKind.i64 0, Value.int IntKind.i64 0] 70 70 70 102
  have X0 : Hid (Ar _ w.heap.size 16 a) := x0
  have X1 : Hid (Ar _ (w.heap.size + 1) 16 b) := x1
  have X2 : Hid (Ar _ (w.heap.size + 1 + 1) 16 z0) := x2
  have X3 : Hid (Ar _ (w.heap.size + 1 + 1 + 1) 32 z0) := x3
  have X4 : Hid (Below w.heap.size w _) := x4
  clear x0 x1 x2 x3 x4 ha hb hT hAC hPF
  go_enter Try.func53, Try.ntmps53
  go_wp2_with (first | simp only [zero_fe] | simp only [zero_i32])
  try rw [show Try.zeroCells70 = #[Value.int IntKind.i64 0, Value.int IntKind.i64 0, Value.int IntKind.i64 0, Value.int IntKind.i64 0, Value.int IntKind.i64 0, Value.int IntKind.i64 0, Value.int IntKind.i64 0, Value.int IntKind.i64 0, Value.int IntKind.i64 0, Value.int IntKind.i64 0, Value.int IntKind.i64 0, Value.int IntKind.i64 0, Value.int IntKind.i64 0, Value.int IntKind.i64 0, Value.int IntKind.i64 0, Value.int IntKind.i64 0] from rfl]
  try rw [show Try.zeroCells102 = #[Value.int IntKind.i64 0, Value.int IntKind.i64 0, Value.int IntKind.i64 0, Value.int IntKind.i64 0, Value.int IntKind.i64 0, Value.int IntKind.i64 0, Value.int IntKind.i64 0, Value.int IntKind.i64 0, Value.int IntKind.i64 0, Value.int IntKind.i64 0, Value.int IntKind.i64 0, Value.int IntKind.i64 0, Value.int IntKind.i64 0, Value.int IntKind.i64 0, Value.int IntKind.i64 0, Value.int IntKind.i64 0, Value.int IntKind.i64 0, Value.int IntKind.i64 0, Value.int IntKind.i64 0, Value.int IntKind.i64 0, Value.int IntKind.i64 0, Value.int IntKind.i64 0, Value.int IntKind.i64 0, Value.int IntKind.i64 0, Value.int IntKind.i64 0, Value.int IntKind.i64 0, Value.int IntKind.i64 0, Value.int IntKind.i64 0, Value.int IntKind.i64 0, Value.int IntKind.i64 0, Value.int IntKind.i64 0, Value.int IntKind.i64 0] from rfl]
  generalize World.alloc (World.alloc (World.alloc (w.alloc _) _) _) _ = w1 at *
  go_loopw [11] (fun i wr => ∃ q : Nat, q ≤ 16 ∧ i = .int .i64 (q : Int) ∧ Hid (Ar wr w.heap.size 16 a) ∧ Hid (Ar wr (w.heap.size + 1) 16 b) ∧ Hid (Ar wr (w.heap.size + 1 + 1) 16 z0) ∧ Hid (Ar wr (w.heap.size + 1 + 1 + 1) 32 (AC q 0)) ∧ Hid (Below w.heap.size w wr)) (fun i _ => 16 - (intOf i).toNat)
  case atStart => exact ⟨0, by omega, rfl, X0, X1, X2, X3.out.congr fun i _ => (A0.out i).symm, X4⟩
  case round =>
    clear X0 X1 X2 X3 X4
    obtain ⟨q, hq, rfl, X0, X1, X2, X3, X4⟩ := hrel
    by_cases hq1 : q < 16
    · have q1 : (q : Int) < 16 := by omega
      have wq : IntKind.i64.wrap ((q : Int) + 1) = (q : Int) + 1 := by rw [IntKind.wrap_i64]; omega
      have Q1 : Hid (q < 16) := hq1
      clear hq hq1
      go_wp2_with fail
      go_loopw [14] (fun i wr => ∃ j : Nat, j ≤ 16 ∧ i = .int .i64 (j : Int) ∧ Hid (Ar wr w.heap.size 16 a) ∧ Hid (Ar wr (w.heap.size + 1) 16 b) ∧ Hid (Ar wr (w.heap.size + 1 + 1) 16 z0) ∧ Hid (Ar wr (w.heap.size + 1 + 1 + 1) 32 (AC q j)) ∧ Hid (Below w.heap.size w wr)) (fun i _ => 16 - (intOf i).toNat)
      case atStart => exact ⟨0, by omega, rfl, X0, X1, X2, X3, X4⟩
      case round =>
        clear X0 X1 X2 X3 X4
        obtain ⟨j, hj, rfl, X0, X1, X2, X3, X4⟩ := hrel
        by_cases hj1 : j < 16
        · have j1 : (j : Int) < 16 := by omega
          have wj : IntKind.i64.wrap ((j : Int) + 1) = (j : Int) + 1 := by rw [IntKind.wrap_i64]; omega
          have J1 : Hid (j < 16) := hj1
          obtain ⟨n, hn⟩ : ∃ n, n = q + j := ⟨_, rfl⟩
          have N1 : Hid (n < 32) := by show n < 32; have := Q1.out; omega
          have n1 : (n : Int) < 32 := by have := N1.out; omega
          have wn : IntKind.i64.wrap ((q : Int) + (j : Int)) = (n : Int) := by have := Q1.out; rw [IntKind.wrap_i64]; omega
          have c0 : Hid (∀ W, Below wr.heap.size wr W → W.cell? ⟨w.heap.size, q, none⟩ = some (dI (a q))) := fun W hW => Ar.at (X0.out.up hW X0.out.lt) Q1.out
          have c1 : Hid (∀ W, Below wr.heap.size wr W → W.cell? ⟨w.heap.size + 1, j, none⟩ = some (dI (b j))) := fun W hW => Ar.at (X1.out.up hW X1.out.lt) J1.out
          have c3 : Hid (∀ W, Below wr.heap.size wr W → W.cell? ⟨w.heap.size + 1 + 1 + 1, n, none⟩ = some (dI (AC q j n))) := fun W hW => Ar.at (X3.out.up hW X3.out.lt) N1.out
          obtain ⟨m, hm⟩ : ∃ m, m = a q * b j := ⟨_, rfl⟩
          obtain ⟨s, hs⟩ : ∃ s, s = AC q j n + m := ⟨_, rfl⟩
          have ml : m ≤ 65536 * 65536 := by rw [hm]; exact Nat.mul_le_mul (Nat.le_of_lt (AB.out.1 q Q1.out)) (Nat.le_of_lt (AB.out.2 j hj1))
          have pl := AL.out q j Q1.out (by omega) n
          have wm : IntKind.i64.wrap (((a q : Nat) : Int) * ((b j : Nat) : Int)) = (m : Int) := by
            rw [← Int.natCast_mul, ← hm, IntKind.wrap_i64]
            omega
          have ws : IntKind.i64.wrap (((AC q j n : Nat) : Int) + (m : Int)) = (s : Int) := by rw [IntKind.wrap_i64]; omega
          have US : Hid (upd (AC q j) n s = AC q (j + 1)) := by rw [AS.out, ← hn, ← hm, ← hs]; exact rfl
          clear hj hj1 hn hm hs ml pl
          go_wp2_with fail
          refine wp_region_monoSE 14 [MP.eq (.int .i64 (q : Int)), MP.eq (.int .i64 (j : Int)), MP.eq (.int .i64 (n : Int)), MP.eq (.pointer (some ⟨w.heap.size + 1 + 1 + 1, n, none⟩)), MP.eq (dI (AC q j n)), MP.eq (.int .i64 (q : Int)), MP.eq (.pointer (some ⟨w.heap.size, q, none⟩)), MP.eq (dI (a q)), MP.eq (.int .i64 (j : Int)), MP.eq (.pointer (some ⟨w.heap.size + 1, j, none⟩)), MP.eq (dI (b j)), MP.eq (.int .i64 (m : Int)), MP.eq (.int .i64 (s : Int)), MP.eq (.pointer (some ⟨w.heap.size + 1 + 1 + 1, n, none⟩))] (by kernel_rfl) (by kernel_rfl) rfl (by decide) (by kernel_rfl) ?_
          apply Exists.intro
          refine ⟨fun vals => ?_, ?_, fun vals4 w4 hb4 hF hO => ?_⟩
          · simp only [putsV, dstL, List.length_cons, List.length_nil, Nat.zero_add, Nat.reduceAdd, List.getElem?_cons_zero, List.getElem?_cons_succ, Option.bind_some, Act.put, List.setIfInBounds_toArray, List.set_cons_succ, List.set_cons_zero]
            rfl
          · refine ⟨?_, ?_, ?_, ?_, ?_, ?_, ?_, ?_, ?_, ?_, ?_, ?_, ?_, ?_, trivial⟩
            · intro vals W hW hw hd
              try simp [Region.binds] at hd
              refine ⟨by first | rfl | simp [Region.wanted, yielded, hd], ?_⟩
              simp [go_sem, hd]
              exact Below.refl _ _
            · intro vals W hW hw hd
              try simp [Region.binds] at hd
              refine ⟨by first | rfl | simp [Region.wanted, yielded, hd], ?_⟩
              simp [go_sem, hd]
              exact Below.refl _ _
            · intro vals W hW hw hd
              try simp [Region.binds] at hd
              refine ⟨by first | rfl | simp [Region.wanted, yielded, hd], ?_⟩
              simp [go_sem, hd, wn]
              exact Below.refl _ _
            · intro vals W hW hw hd
              try simp [Region.binds] at hd
              refine ⟨by first | rfl | simp [Region.wanted, yielded, hd], ?_⟩
              simp [go_sem, hd, n1]
              exact Below.refl _ _
            · intro vals W hW hw hd
              try simp [Region.binds] at hd
              refine ⟨by first | rfl | simp [Region.wanted, yielded, hd], ?_⟩
              have cc := c3.out W hW.out
              simp [go_sem, hd, cc]
              exact Below.refl _ _
            · intro vals W hW hw hd
              try simp [Region.binds] at hd
              refine ⟨by first | rfl | simp [Region.wanted, yielded, hd], ?_⟩
              simp [go_sem, hd]
              exact Below.refl _ _
            · intro vals W hW hw hd
              try simp [Region.binds] at hd
              refine ⟨by first | rfl | simp [Region.wanted, yielded, hd], ?_⟩
              simp [go_sem, hd, q1]
              exact Below.refl _ _
            · intro vals W hW hw hd
              try simp [Region.binds] at hd
              refine ⟨by first | rfl | simp [Region.wanted, yielded, hd], ?_⟩
              have cc := c0.out W hW.out
              simp [go_sem, hd, cc]
              exact Below.refl _ _
            · intro vals W hW hw hd
              try simp [Region.binds] at hd
              refine ⟨by first | rfl | simp [Region.wanted, yielded, hd], ?_⟩
              simp [go_sem, hd]
              exact Below.refl _ _
            · intro vals W hW hw hd
              try simp [Region.binds] at hd
              refine ⟨by first | rfl | simp [Region.wanted, yielded, hd], ?_⟩
              simp [go_sem, hd, j1]
              exact Below.refl _ _
            · intro vals W hW hw hd
              try simp [Region.binds] at hd
              refine ⟨by first | rfl | simp [Region.wanted, yielded, hd], ?_⟩
              have cc := c1.out W hW.out
              simp [go_sem, hd, cc]
              exact Below.refl _ _
            · intro vals W hW hw hd
              try simp [Region.binds] at hd
              refine ⟨by first | rfl | simp [Region.wanted, yielded, hd], ?_⟩
              simp [go_sem, hd, wm]
              exact Below.refl _ _
            · intro vals W hW hw hd
              try simp [Region.binds] at hd
              refine ⟨by first | rfl | simp [Region.wanted, yielded, hd], ?_⟩
              simp [go_sem, hd, ws]
              exact Below.refl _ _
            · intro vals W hW hw hd
              try simp [Region.binds] at hd
              refine ⟨by first | rfl | simp [Region.wanted, yielded, hd], ?_⟩
              simp [go_sem, hd, n1]
              exact Below.refl _ _
          obtain ⟨f0, f1, f2, f3, f4, f5, f6, f7, f8, f9, f10, f11, f12, f13, _⟩ := hF
          simp only [MP.eq_p] at f0 f1 f2 f3 f4 f5 f6 f7 f8 f9 f10 f11 f12 f13
          rw [f0, f1, f2, f3, f4, f5, f6, f7, f8, f9, f10, f11, f12, f13]
          simp only [List.drop_succ_cons, List.drop_zero]
          have Y0 : Hid (Ar w4 w.heap.size 16 a) := X0.out.up hb4.out X0.out.lt
          have Y1 : Hid (Ar w4 (w.heap.size + 1) 16 b) := X1.out.up hb4.out X1.out.lt
          have Y2 : Hid (Ar w4 (w.heap.size + 1 + 1) 16 z0) := X2.out.up hb4.out X2.out.lt
          have Y3 : Hid (Ar w4 (w.heap.size + 1 + 1 + 1) 32 (AC q j)) := X3.out.up hb4.out X3.out.lt
          have Y4 : Hid (Below w.heap.size w w4) := X4.out.trans (hb4.out.mono X4.out.size)
          have c4 := Y3.out.at (j := n) N1.out
          have z4 := Y3.out.fz n
          have V0 : Hid _ := Y0.out.apart1 (k' := w.heap.size + 1 + 1 + 1) (o := n) (v := dI s) (by omega)
          have V1 : Hid _ := Y1.out.apart1 (k' := w.heap.size + 1 + 1 + 1) (o := n) (v := dI s) (by omega)
          have V2 : Hid _ := Y2.out.apart1 (k' := w.heap.size + 1 + 1 + 1) (o := n) (v := dI s) (by omega)
          have V3 : Hid (Ar (w4.setCell ⟨w.heap.size + 1 + 1 + 1, n, none⟩ (dI s)) (w.heap.size + 1 + 1 + 1) 32 (AC q (j + 1))) := (Y3.out.set N1.out s).congr fun i _ => by rw [US.out]
          have V4 : Hid _ := Y4.out.setCell (p := ⟨w.heap.size + 1 + 1 + 1, n, none⟩) (show w.heap.size ≤ w.heap.size + 1 + 1 + 1 by omega) (dI s)
          generalize AC q j n = pv at *
          clear f0 f1 f2 f3 f4 f5 f6 f7 f8 f9 f10 f11 f12 f13 hb4 hO X0 X1 X2 X3 X4 c0 c1 c3 Y0 Y1 Y2 Y3 Y4 wm ws wn US
          go_wp2_with fail
          go_roundw
          case rel => exact ⟨j + 1, J1.out, by first | rfl | go_num, V0, V1, V2, V3, V4⟩
          case measure => have := J1.out; simp [intOf]; omega
        · obtain rfl : j = 16 := by omega
          have j16 : ¬ (((16 : Nat) : Int) < 16) := by decide
          rw [AN.out] at X3
          clear hj hj1
          go_wp2_with fail
          go_roundw
          case rel => exact ⟨q + 1, Q1.out, by first | rfl | go_num, X0, X1, X2, X3, X4⟩
          case measure => have := Q1.out; simp [intOf]; omega
    · obtain rfl : q = 16 := by omega
      have q16 : ¬ (((16 : Nat) : Int) < 16) := by decide
      rw [AP.out] at X3
      have L1 : Hid (w.heap.size + 1 + 1 + 1 < wr.heap.size) := X3.out.lt
      obtain ⟨C, hC⟩ : ∃ C, C = car (fol PF) 0 := ⟨_, rfl⟩
      obtain ⟨D, hD⟩ : ∃ D, D = dig (fol PF) 0 := ⟨_, rfl⟩
      have CD : Hid (∀ j, j < 16 → C j < 2 ^ 51 ∧ (C j + (PF j + 38 * PF (j + 16))) % 65536 = D j ∧ (C j + (PF j + 38 * PF (j + 16))) / 65536 = C (j + 1)) := fun j hj => by
        rw [hC, hD]
        exact ⟨car_le (by decide) (fun i hi => by have := PL.out i; have := PL.out (i + 16); unfold fol; omega) j (by omega), rfl, rfl⟩
      have C0 : Hid (C 0 = 0) := by rw [hC]; exact rfl
      rw [← hC, ← hD] at TE
      obtain ⟨k0, k1⟩ := al1 wr #[Value.int IntKind.i64 0, Value.int IntKind.i64 0, Value.int IntKind.i64 0, Value.int IntKind.i64 0, Value.int IntKind.i64 0, Value.int IntKind.i64 0, Value.int IntKind.i64 0, Value.int IntKind.i64 0, Value.int IntKind.i64 0, Value.int IntKind.i64 0, Value.int IntKind.i64 0, Value.int IntKind.i64 0, Value.int IntKind.i64 0, Value.int IntKind.i64 0, Value.int IntKind.i64 0, Value.int IntKind.i64 0, Value.int IntKind.i64 0] 103
      have YL : Hid (Ar (wr.alloc (.cells #[Value.int IntKind.i64 0, Value.int IntKind.i64 0, Value.int IntKind.i64 0, Value.int IntKind.i64 0, Value.int IntKind.i64 0, Value.int IntKind.i64 0, Value.int IntKind.i64 0, Value.int IntKind.i64 0, Value.int IntKind.i64 0, Value.int IntKind.i64 0, Value.int IntKind.i64 0, Value.int IntKind.i64 0, Value.int IntKind.i64 0, Value.int IntKind.i64 0, Value.int IntKind.i64 0, Value.int IntKind.i64 0, Value.int IntKind.i64 0] 103)) wr.heap.size 17 (less D 0)) := (show Ar _ wr.heap.size 17 z0 from k0).congr fun i _ => less_zero _ i
      have Y2 : Hid (Ar (wr.alloc (.cells #[Value.int IntKind.i64 0, Value.int IntKind.i64 0, Value.int IntKind.i64 0, Value.int IntKind.i64 0, Value.int IntKind.i64 0, Value.int IntKind.i64 0, Value.int IntKind.i64 0, Value.int IntKind.i64 0, Value.int IntKind.i64 0, Value.int IntKind.i64 0, Value.int IntKind.i64 0, Value.int IntKind.i64 0, Value.int IntKind.i64 0, Value.int IntKind.i64 0, Value.int IntKind.i64 0, Value.int IntKind.i64 0, Value.int IntKind.i64 0] 103)) (w.heap.size + 1 + 1) 16 z0) := X2.out.up k1 X2.out.lt
      have Y3 : Hid (Ar (wr.alloc (.cells #[Value.int IntKind.i64 0, Value.int IntKind.i64 0, Value.int IntKind.i64 0, Value.int IntKind.i64 0, Value.int IntKind.i64 0, Value.int IntKind.i64 0, Value.int IntKind.i64 0, Value.int IntKind.i64 0, Value.int IntKind.i64 0, Value.int IntKind.i64 0, Value.int IntKind.i64 0, Value.int IntKind.i64 0, Value.int IntKind.i64 0, Value.int IntKind.i64 0, Value.int IntKind.i64 0, Value.int IntKind.i64 0, Value.int IntKind.i64 0] 103)) (w.heap.size + 1 + 1 + 1) 32 PF) := X3.out.up k1 X3.out.lt
      have Y4 : Hid (Below w.heap.size w (wr.alloc (.cells #[Value.int IntKind.i64 0, Value.int IntKind.i64 0, Value.int IntKind.i64 0, Value.int IntKind.i64 0, Value.int IntKind.i64 0, Value.int IntKind.i64 0, Value.int IntKind.i64 0, Value.int IntKind.i64 0, Value.int IntKind.i64 0, Value.int IntKind.i64 0, Value.int IntKind.i64 0, Value.int IntKind.i64 0, Value.int IntKind.i64 0, Value.int IntKind.i64 0, Value.int IntKind.i64 0, Value.int IntKind.i64 0, Value.int IntKind.i64 0] 103))) := X4.out.trans (k1.mono X4.out.size)
      clear k0 k1 hC hD hq hq1 X0 X1 X2 X3 X4 AB A0 AN AS AL AP
      go_wp2_with (simp only [zero_i17])
      try rw [show Try.zeroCells103 = #[Value.int IntKind.i64 0, Value.int IntKind.i64 0, Value.int IntKind.i64 0, Value.int IntKind.i64 0, Value.int IntKind.i64 0, Value.int IntKind.i64 0, Value.int IntKind.i64 0, Value.int IntKind.i64 0, Value.int IntKind.i64 0, Value.int IntKind.i64 0, Value.int IntKind.i64 0, Value.int IntKind.i64 0, Value.int IntKind.i64 0, Value.int IntKind.i64 0, Value.int IntKind.i64 0, Value.int IntKind.i64 0, Value.int IntKind.i64 0] from rfl]
      generalize wr.alloc _ = w4 at *
      generalize wr.heap.size = kt at *
      go_loopw [9, 33] (fun c i wr => ∃ j : Nat, j ≤ 16 ∧ c = .int .i64 ((C j : Nat) : Int) ∧ i = .int .i64 (j : Int) ∧ Hid (Ar wr kt 17 (less D j)) ∧ Hid (Ar wr (w.heap.size + 1 + 1) 16 z0) ∧ Hid (Ar wr (w.heap.size + 1 + 1 + 1) 32 PF) ∧ Hid (Below w.heap.size w wr)) (fun _ i _ => 16 - (intOf i).toNat)
      case atStart => exact ⟨0, by omega, by rw [C0.out]; rfl, rfl, YL, Y2, Y3, Y4⟩
      case round =>
        clear YL Y2 Y3 Y4
        obtain ⟨j, hj, rfl, rfl, XL, X2, X3, X4⟩ := hrel
        by_cases hj1 : j < 16
        · have j1 : (j : Int) < 16 := by omega
          have j2 : (j : Int) < 17 := by omega
          have j3 : (j : Int) < 32 := by omega
          have wj : IntKind.i64.wrap ((j : Int) + 1) = (j : Int) + 1 := by rw [IntKind.wrap_i64]; omega
          have J1 : Hid (j < 16) := hj1
          obtain ⟨d1, d2, d3⟩ := CD.out j hj1
          obtain ⟨n, hn⟩ : ∃ n, n = j + 16 := ⟨_, rfl⟩
          have N1 : Hid (n < 32) := by show n < 32; omega
          have n1 : (n : Int) < 32 := by omega
          have wn : IntKind.i64.wrap ((j : Int) + 16) = (n : Int) := by rw [IntKind.wrap_i64]; omega
          rw [← hn] at d2 d3
          have p1 := PL.out j
          have p2 := PL.out n
          obtain ⟨m, hm⟩ : ∃ m, m = 38 * PF n := ⟨_, rfl⟩
          obtain ⟨t, ht⟩ : ∃ t, t = PF j + m := ⟨_, rfl⟩
          obtain ⟨s, hs⟩ : ∃ s, s = C j + t := ⟨_, rfl⟩
          rw [← hm, ← ht, ← hs] at d2 d3
          have wm : IntKind.i64.wrap (38 * ((PF n : Nat) : Int)) = (m : Int) := by rw [IntKind.wrap_i64]; omega
          have wt : IntKind.i64.wrap (((PF j : Nat) : Int) + (m : Int)) = (t : Int) := by rw [IntKind.wrap_i64]; omega
          have ws : IntKind.i64.wrap (((C j : Nat) : Int) + (t : Int)) = (s : Int) := by rw [IntKind.wrap_i64]; omega
          have a2 : bits .and .i64 (s : Int) 65535 = ((D j : Nat) : Int) := by rw [i64_and16 s (by omega), d2]
          have a3 : (s : Int) / 65536 = ((C (j + 1) : Nat) : Int) := by omega
          have c3 : Hid (∀ W, Below wr.heap.size wr W → W.cell? ⟨w.heap.size + 1 + 1 + 1, j, none⟩ = some (dI (PF j))) := fun W hW => Ar.at (X3.out.up hW X3.out.lt) (by have := J1.out; omega)
          have c5 : Hid (∀ W, Below wr.heap.size wr W → W.cell? ⟨w.heap.size + 1 + 1 + 1, n, none⟩ = some (dI (PF n))) := fun W hW => Ar.at (X3.out.up hW X3.out.lt) N1.out
          obtain ⟨cn, hcn⟩ : ∃ cn, Hid (cn = C (j + 1)) := ⟨_, rfl⟩
          rw [← hcn.out] at a3
          clear hj hj1 hn hm ht hs d1 d2 d3 p1 p2
          generalize C j = cv at *
          go_wp2_with fail
          refine wp_region_monoSE 11 [MP.eq (.int .i64 (cv : Int)), MP.eq (.int .i64 (j : Int)), MP.eq (.pointer (some ⟨w.heap.size + 1 + 1 + 1, j, none⟩)), MP.eq (dI (PF j)), MP.eq (.int .i64 (j : Int)), MP.eq (.int .i64 (n : Int)), MP.eq (.pointer (some ⟨w.heap.size + 1 + 1 + 1, n, none⟩)), MP.eq (dI (PF n)), MP.eq (.int .i64 (m : Int)), MP.eq (.int .i64 (t : Int)), MP.eq (.int .i64 (s : Int))] (by kernel_rfl) (by kernel_rfl) rfl (by decide) (by kernel_rfl) ?_
          apply Exists.intro
          refine ⟨fun vals => ?_, ?_, fun vals5 w5 hb5 hF hO => ?_⟩
          · simp only [putsV, dstL, List.length_cons, List.length_nil, Nat.zero_add, Nat.reduceAdd, List.getElem?_cons_zero, List.getElem?_cons_succ, Option.bind_some, Act.put, List.setIfInBounds_toArray, List.set_cons_succ, List.set_cons_zero]
            rfl
          · refine ⟨?_, ?_, ?_, ?_, ?_, ?_, ?_, ?_, ?_, ?_, ?_, trivial⟩
            · intro vals W hW hw hd
              try simp [Region.binds] at hd
              refine ⟨by first | rfl | simp [Region.wanted, yielded, hd], ?_⟩
              simp [go_sem]
              exact ⟨(hw.out 11 (by kernel_rfl)).trans rfl, Below.refl _ _⟩
            · intro vals W hW hw hd
              try simp [Region.binds] at hd
              refine ⟨by first | rfl | simp [Region.wanted, yielded, hd], ?_⟩
              simp [go_sem, hd]
              exact Below.refl _ _
            · intro vals W hW hw hd
              try simp [Region.binds] at hd
              refine ⟨by first | rfl | simp [Region.wanted, yielded, hd], ?_⟩
              simp [go_sem, hd, j3]
              exact Below.refl _ _
            · intro vals W hW hw hd
              try simp [Region.binds] at hd
              refine ⟨by first | rfl | simp [Region.wanted, yielded, hd], ?_⟩
              have cc := c3.out W hW.out
              simp [go_sem, hd, cc]
              exact Below.refl _ _
            · intro vals W hW hw hd
              try simp [Region.binds] at hd
              refine ⟨by first | rfl | simp [Region.wanted, yielded, hd], ?_⟩
              simp [go_sem, hd]
              exact Below.refl _ _
            · intro vals W hW hw hd
              try simp [Region.binds] at hd
              refine ⟨by first | rfl | simp [Region.wanted, yielded, hd], ?_⟩
              simp [go_sem, hd, wn]
              exact Below.refl _ _
            · intro vals W hW hw hd
              try simp [Region.binds] at hd
              refine ⟨by first | rfl | simp [Region.wanted, yielded, hd], ?_⟩
              simp [go_sem, hd, n1]
              exact Below.refl _ _
            · intro vals W hW hw hd
              try simp [Region.binds] at hd
              refine ⟨by first | rfl | simp [Region.wanted, yielded, hd], ?_⟩
              have cc := c5.out W hW.out
              simp [go_sem, hd, cc]
              exact Below.refl _ _
            · intro vals W hW hw hd
              try simp [Region.binds] at hd
              refine ⟨by first | rfl | simp [Region.wanted, yielded, hd], ?_⟩
              simp [go_sem, hd, wm]
              exact Below.refl _ _
            · intro vals W hW hw hd
              try simp [Region.binds] at hd
              refine ⟨by first | rfl | simp [Region.wanted, yielded, hd], ?_⟩
              simp [go_sem, hd, wt]
              exact Below.refl _ _
            · intro vals W hW hw hd
              try simp [Region.binds] at hd
              refine ⟨by first | rfl | simp [Region.wanted, yielded, hd], ?_⟩
              simp [go_sem, hd, ws]
              exact Below.refl _ _
          obtain ⟨f0, f1, f2, f3, f4, f5, f6, f7, f8, f9, f10, _⟩ := hF
          simp only [MP.eq_p] at f0 f1 f2 f3 f4 f5 f6 f7 f8 f9 f10
          rw [f0, f1, f2, f3, f4, f5, f6, f7, f8, f9, f10]
          simp only [List.drop_succ_cons, List.drop_zero]
          have YL : Hid (Ar w5 kt 17 (less D j)) := XL.out.up hb5.out XL.out.lt
          have Y2 : Hid (Ar w5 (w.heap.size + 1 + 1) 16 z0) := X2.out.up hb5.out X2.out.lt
          have Y3 : Hid (Ar w5 (w.heap.size + 1 + 1 + 1) 32 PF) := X3.out.up hb5.out X3.out.lt
          have Y4 : Hid (Below w.heap.size w w5) := X4.out.trans (hb5.out.mono X4.out.size)
          have c6 := YL.out.at (j := j) (by have := J1.out; omega)
          have z6 := YL.out.fz j
          have VL : Hid (Ar (w5.setCell ⟨kt, j, none⟩ (dI (D j))) kt 17 (less D (j + 1))) := (YL.out.set (by have := J1.out; omega) (D j)).congr fun i _ => less_step D j i
          have V2 : Hid _ := Y2.out.apart1 (k' := kt) (o := j) (v := dI (D j)) (by have := L1.out; omega)
          have V3 : Hid _ := Y3.out.apart1 (k' := kt) (o := j) (v := dI (D j)) (by have := L1.out; omega)
          have V4 : Hid _ := Y4.out.setCell (p := ⟨kt, j, none⟩) (show w.heap.size ≤ kt by have := L1.out; omega) (dI (D j))
          generalize less D j j = lv at *
          generalize D j = dv at *
          clear f0 f1 f2 f3 f4 f5 f6 f7 f8 f9 f10 hb5 hO XL X2 X3 X4 c3 c5 YL Y2 Y3 Y4 wm wt ws wn
          go_wp2_with fail
          go_roundw
          case rel => exact ⟨j + 1, J1.out, by rw [hcn.out], by first | rfl | go_num, VL, V2, V3, V4⟩
          case measure => have := J1.out; simp [intOf]; omega
        · obtain rfl : j = 16 := by omega
          have j16 : ¬ (((16 : Nat) : Int) < 16) := by decide
          have c6 := XL.out.at (j := 16) (by decide)
          have z6 := XL.out.fz 16
          have VL : Hid (Ar (wr.setCell ⟨kt, 16, none⟩ (dI (C 16))) kt 17 T) := (XL.out.set (j := 16) (by decide) (C 16)).congr fun i hi => TE.out i hi
          have V2 : Hid (Ar (wr.setCell ⟨kt, 16, none⟩ (dI (C 16))) (w.heap.size + 1 + 1) 16 z0) := X2.out.apart1 (by have := L1.out; omega)
          have V4 : Hid (Below w.heap.size w (wr.setCell ⟨kt, 16, none⟩ (dI (C 16)))) := X4.out.setCell (p := ⟨kt, 16, none⟩) (show w.heap.size ≤ kt by have := L1.out; omega) _
          generalize less D 16 16 = lv at *
          generalize C 16 = cv at *
          clear hj hj1 XL X2 X3 X4 CD TE PL
          go_wp2_with (refine wpList_load_mid rfl 103 (.tmp 8) rfl kt 0 rfl ((row 17 T).map dI) _ VL.out.all u_i17 rfl (info_row info_i17 T) ?_)
          generalize wr.setCell _ _ = w6 at *
          have LF := LS.out w6
          have TT : Hid (∀ W, Below w6.heap.size w6 W → W.there (w.heap.size + 1 + 1) 0 ((row 16 G).map dI).length) := fun W hW => (V2.out.up hW V2.out.lt).there (by rw [List.length_map, List.length_map, row_length, row_length]; omega)
          have Y2 : Hid (∀ W, Below w6.heap.size w6 W → Below w.heap.size w W) := fun W hW => V4.out.trans (hW.mono V4.out.size)
          refine LF.mono ?_
          rintro e w2 ⟨rfl, hb⟩
          have T2 : Hid _ := TT.out w2 hb
          have B2 : Hid _ := Y2.out w2 hb
          clear hb TT Y2 LF VL V2 V4 c6 z6
          go_wp2_with (refine wp_store_eq rfl 70 (.tmp 4) (.tmp 57) rfl (w.heap.size + 1 + 1) 0 ((row 16 G).map dI) rfl rfl T2.out (info_row info_fe G) (one_dI _) ?_)
          intro w9 hw9
          go_wp2_with fail
          refine bodyPost_ret (v := aI 16 G) ?_ rfl ⟨rfl, ?_⟩
          · rw [hw9.out]
            exact results_cell (b := w.heap.size + 1 + 1) rfl rfl (World.rangeAt_setCells_same _ _ _ _ T2.out) u_fe rfl (info_row info_fe G)
          · rw [hw9.out]
            exact below_setCells _ _ _ B2.out (by omega)
theorem by_fe (x y : Nat) (hx : x < F.p) (hy : y < F.p) (w : World) : Calls Try.prog 53 #[fe x, fe y] w fun e w' => e = .returned (fe (F.mul x y)) ∧ Below w.heap.size w w' := by
  have h := by_core (fd x) (fd y) _ (fd (F.mul x y)) (fun i _ => fd_lt x i) (fun i _ => fd_lt y i) rfl ?_ w
  · exact h
  · intro w
    have hl : ∀ n, pro (fd x) (fd y) 16 n ≤ 1099511627776 := fun n => pro_le (fun i _ => fd_lt x i) (fun i _ => fd_lt y i) 16 (by decide) n
    have := least_fun (byl (pro (fd x) (fd y) 16)) (byl_Sm hl) w
    rw [byl_sum, pro_sum _ _ 16 (by decide), sm_top hx, sm_top hy] at this
    exact this
end Go.Proofs.Ytpnfopakkaoibaa.I
