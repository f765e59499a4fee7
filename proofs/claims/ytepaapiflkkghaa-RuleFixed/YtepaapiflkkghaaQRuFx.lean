/- RuleFixed, out of what package rule must keep. -/
import Derived.Test.YtepaapiflkkghaaQRuUToRuKp
import Derived.Test.YtepaapiflkkghaaQAtL
namespace Go.Proofs.Ytepaapiflkkghaa
open Go.RowKit
attribute [local go_sem] World.cell?_alloc_some cell_alloc2 cell_alloc3 cell_alloc4 frozen?_alloc_cells frozen_out
set_option linter.unusedSimpArgs false
def fixL : List Int := [1, 4, 12, 10, 11]
def fixC : List Value := fixL.map fun k => .int .i64 k
theorem run_bsF (w : World) : (Instr.buildSlice 23 5 #[(0, .int .i64 1), (1, .int .i64 4), (2, .int .i64 12), (3, .int .i64 10), (4, .int .i64 11)]).run Try.prog w = .ok (.slice (some ⟨w.heap.size, 0, none⟩) 5 5) (w.alloc (.cells fixC.toArray 3)) := by kernel_rfl
theorem wp_bsF {ops : Array Oper} {rest : List Oper} {o : Oper} {a : Act} {Q : Exit → Act → World → Prop} {w : World} (hgd : o.guard = none) (x0 x1 x2 x3 x4 : Operand) (ho : o.op = .buildSlice 23 5 #[(0, x0), (1, x1), (2, x2), (3, x3), (4, x4)])
    (h0 : a.eval x0 = .int .i64 1) (h1 : a.eval x1 = .int .i64 4) (h2 : a.eval x2 = .int .i64 12) (h3 : a.eval x3 = .int .i64 10) (h4 : a.eval x4 = .int .i64 11)
    (h : wpList Try.prog ops Q rest (a.put o.dst (.slice (some ⟨w.heap.size, 0, none⟩) 5 5)) (w.alloc (.cells fixC.toArray 3))) : wpList Try.prog ops Q (o :: rest) a w := by
  refine wpList_plain hgd fun K hK => ?_
  have e := run_bsF w
  unfold Oper.wp
  simp only [execOp, ho, Sem.run_bind, Array.map, h0, h1, h2, h3, h4]
  simp [h0, h1, h2, h3, h4, e]
  exact hK _ _ h
set_option maxRecDepth 20000 in
set_option maxHeartbeats 8000000 in
theorem fixed_walk (v : Value) (t O : List Ar) (E : Nat) (b : Bool) (l : List Tu) (a : Option Addr) (n c : Nat) (st : Nat → List Ar) (f : Int → Bool) (is : Int → Bool) (X : Int → List Nat) (w : World) (HV : Hid (Ats w v t)) (HL : Hid (Tus w (.slice a n c) l)) (HN : Hid (l.length = n)) (HO : Hid (E ≠ 0 → O = []))
    (NO : Hid (E = 0 → (f 10 = true → f 8 = true) ∧ (f 11 = true → f 9 = false)))
    (RA : Calls Try.prog 26 #[] w fun e w' => e = .returned (.bool true) ∧ Below w.heap.size w w')
    (M1 : ∀ W, Ats W v t → Calls Try.prog 10 #[v, .bool b] W fun e w' => (∃ r, e = .returned (.tuple #[r, .int .i64 (E : Int)]) ∧ Ats w' r O) ∧ Below W.heap.size W w')
    (S0 : Hid (st 0 = O))
    (TT : Hid (E = 0 → ∀ j x, l[j]? = some x → ∀ v u W, Ats W v (st j) → Ats W u x.l → Calls Try.prog 27 #[v, .agg #[.bool x.c, u]] W fun e w' => (∃ r, e = .returned r ∧ Ats w' r (st (j + 1))) ∧ Below W.heap.size W w'))
    (IC : Hid (E = 0 → ∀ (k : Int) v W, 1 ≤ k ∧ k ≤ 18 → Ats W v (st n) → Calls Try.prog 28 #[v, .int .i64 k] W fun e w' => e = .returned (.bool (f k)) ∧ Below W.heap.size W w'))
    (G1 : Hid (E = 0 → ∀ (k : Int) v W, k ∈ fixL → Ats W v (st 0) → Calls Try.prog 29 #[v, .int .i64 k] W fun e w' => (∃ u, e = .returned (.tuple #[u, .bool (is k)]) ∧ By w' u (X k)) ∧ Below W.heap.size W w'))
    (G2 : Hid (E = 0 → ∀ (k : Int) v W, k ∈ fixL → Ats W v (st n) → Calls Try.prog 29 #[v, .int .i64 k] W fun e w' => (∃ u, e = .returned (.tuple #[u, .bool (is k)]) ∧ By w' u (X k)) ∧ Below W.heap.size W w'))
    (EQ : Hid (∀ k u z W, By W u (X k) → By W z (X k) → Calls Try.prog 30 #[u, z] W fun e w' => e = .returned (.bool true) ∧ Below W.heap.size W w')) :
    Calls Try.prog 7 #[v, .bool b, .slice a n c] w fun e w' => e = .returned (.bool true) ∧ Below w.heap.size w w' := by
  go_enter Try.func7, Try.ntmps7
  go_wp2_with fail
  refine RA.mono ?_
  rintro e w0 ⟨rfl, hb⟩
  have b0 : Hid (Below w.heap.size w w0) := hb
  have Q1 := M1 w0 (HV.out.up hb (Nat.le_refl _))
  clear hb RA M1
  go_wp2_with fail
  refine Q1.mono ?_
  rintro e w1 ⟨⟨r, rfl, hr⟩, hb⟩
  have b1 : Hid (Below w.heap.size w w1) := b0.out.trans (hb.mono b0.out.size)
  have R1 : Hid (Ats w1 r O) := hr
  clear hb hr Q1 HV b0
  by_cases hE : E = 0
  · subst hE
    have T2 : Hid _ := TT.out rfl
    have I2 : Hid _ := IC.out rfl
    have A2 : Hid _ := G1.out rfl
    have B2 : Hid _ := G2.out rfl
    have N2 : Hid _ := NO.out rfl
    clear HO TT IC G1 G2 NO
    by_cases h40 : (n : Int) > 40
    · clear R1
      go_wp2_with fail
      go_ret
      exact ⟨rfl, b1.out⟩
    have N40 : Hid (n ≤ 40) := by
      show _ ≤ _
      omega
    rw [← S0.out] at R1
    go_wp2_with fail
    clear h40
    go_loopw [9, 43] (fun s i wr => ∃ j : Nat, j ≤ n ∧ i = .int .i64 (j : Int) ∧ Hid (Ats wr s (st j)) ∧ Hid (Ats wr r (st 0)) ∧ Hid (Below w.heap.size w wr)) (fun _ i _ => n - (intOf i).toNat)
    case atStart => exact ⟨0, Nat.zero_le _, rfl, R1, R1, b1⟩
    case round =>
      clear R1 b1
      obtain ⟨j, hj, rfl, sk, rk, bk⟩ := hrel
      by_cases hlt : j < n
      · have i1 : (j : Int) < (n : Int) := by omega
        have i0 : (0 : Int) ≤ (j : Int) := by omega
        have HJ : Hid (j < n) := hlt
        obtain ⟨p, o, rfl⟩ := HL.out.addr (by have := HN.out; omega)
        obtain ⟨x, hx⟩ : ∃ x, Hid (l[j]? = some x) := ⟨l[j]'(by have := HN.out; omega), List.getElem?_eq_getElem _⟩
        obtain ⟨xa, xc, ex⟩ := (HL.out.up bk.out).elem hx.out
        have EX : Hid (TuE wr p (o + j * 2) x xa xc) := ex
        have E1 : Hid (∀ (C : Array Value) t, TuE (wr.alloc (.cells C t)) p (o + j * 2) x xa xc) := fun C t => EX.out.up ((Below.refl _ _).alloc (Nat.le_refl _) _)
        have s2 : Hid (Kn (wr.alloc (.cells #[.bool x.c, .slice xa x.l.length xc] 52)) [(wr.heap.size, [.bool x.c, .slice xa x.l.length xc])]) := (Kn.nil wr).al [.bool x.c, .slice xa x.l.length xc] 52 rfl
        have ba : Hid (Below wr.heap.size wr (wr.alloc (.cells #[.bool x.c, .slice xa x.l.length xc] 52))) := (Below.refl _ _).alloc (Nat.le_refl _) _
        have b2 : Hid (Below w.heap.size w (wr.alloc (.cells #[.bool x.c, .slice xa x.l.length xc] 52))) := bk.out.trans (ba.out.mono bk.out.size)
        have r2 : Hid (Ats (wr.alloc (.cells #[.bool x.c, .slice xa x.l.length xc] 52)) r (st 0)) := rk.out.up ba.out (Nat.le_refl _)
        have G := T2.out j x hx.out _ _ _ (sk.out.up ba.out (Nat.le_refl _)) (E1.out _ _).2.2
        have jn := N40.out
        clear hlt hj ex bk sk ba rk
        go_wp2_with (first | simp only [zero_turn] | refine wp_ldW rfl 52 _ rfl p (o + j * 2) rfl [.bool x.c, .slice xa x.l.length xc] _ (by first | exact EX.out.rng | exact (E1.out _ _).rng) u_turn rfl (info_turn _ _) ?_ | refine wp_ldW rfl 52 _ rfl wr.heap.size 0 rfl [.bool x.c, .slice xa x.l.length xc] _ (Kn.rng s2.out 0 rfl) u_turn rfl (info_turn _ _) ?_)
        refine G.mono ?_
        rintro e w3 ⟨⟨q, rfl, hq⟩, hb⟩
        have b3 : Hid (Below w.heap.size w w3) := b2.out.trans (hb.mono b2.out.size)
        have s3 : Hid (Ats w3 q (st (j + 1))) := hq
        have r3 : Hid (Ats w3 r (st 0)) := r2.out.up hb (Nat.le_refl _)
        clear hb hq b2 s2 EX E1 G r2
        go_wp2_with fail
        go_roundw
        case rel => exact ⟨j + 1, HJ.out, by go_num, s3, r3, b3⟩
        case measure => simp [intOf]; have := HJ.out; omega
      · have i1 : ¬ (j : Int) < (n : Int) := by omega
        obtain rfl : n = j := by omega
        clear hlt hj T2 S0 HL HN N40
        obtain ⟨wp, hwp⟩ : ∃ wp, wp = wr.alloc (.cells fixC.toArray 3) := ⟨_, rfl⟩
        have ba : Below wr.heap.size wr wp := by
          rw [hwp]
          exact (Below.refl _ _).alloc (Nat.le_refl _) _
        have k0 : Hid (Kn wp [(wr.heap.size, fixC)]) := by
          rw [hwp]
          exact (Kn.nil wr).al fixC 3 rfl
        have p0 : Hid (Ats wp u9 (st n)) := sk.out.up ba (Nat.le_refl _)
        have r0 : Hid (Ats wp r (st 0)) := rk.out.up ba (Nat.le_refl _)
        have b0 : Hid (Below w.heap.size w wp) := bk.out.trans (ba.mono bk.out.size)
        clear ba sk rk bk
        go_wp2_with (refine wp_bsF rfl _ _ _ _ _ rfl rfl rfl rfl rfl rfl ?_)
        rw [← hwp]
        generalize wr.heap.size = g at *
        clear hwp
        go_loopw [53] (fun i wr => ∃ j : Nat, j ≤ 5 ∧ i = .int .i64 (j : Int) ∧ Hid (Ats wr u9 (st n)) ∧ Hid (Ats wr r (st 0)) ∧ Hid (Kn wr [(g, fixC)]) ∧ Hid (Below w.heap.size w wr)) (fun i _ => 5 - (intOf i).toNat)
        case atStart => exact ⟨0, Nat.zero_le _, rfl, p0, r0, k0, b0⟩
        case round =>
          clear p0 r0 k0 b0
          obtain ⟨j, hj, rfl, pk, rk, kk, bk⟩ := hrel
          by_cases hlt : j < 5
          · have i2 : (j : Int) < 5 := by omega
            have i0 : (0 : Int) ≤ (j : Int) := by omega
            have HJ : Hid (j < 5) := hlt
            obtain ⟨x, hx⟩ : ∃ x, Hid (fixL[j]? = some x) := ⟨fixL[j]'(by simp [fixL]; omega), List.getElem?_eq_getElem _⟩
            have MX : Hid (x ∈ fixL) := List.mem_of_getElem? hx.out
            have u0 : wr.cell? ⟨g, j, none⟩ = some (.int .i64 x) := Kn.get kk.out 0 j rfl (by unfold fixC; rw [List.getElem?_map, hx.out]; rfl)
            have P1 := A2.out x r _ MX.out rk.out
            clear hlt hj hx
            go_wp2_with fail
            refine P1.mono ?_
            rintro e w4 ⟨⟨y, rfl, hy⟩, hb⟩
            have b4 : Hid (Below w.heap.size w w4) := bk.out.trans (hb.mono bk.out.size)
            have p4 : Hid (Ats w4 u9 (st n)) := pk.out.up hb (Nat.le_refl _)
            have r4 : Hid (Ats w4 r (st 0)) := rk.out.up hb (Nat.le_refl _)
            have k4 : Hid (Kn w4 [(g, fixC)]) := kk.out.up hb
            have y4 : Hid (By w4 y (X x)) := hy
            have P2 := B2.out x u9 _ MX.out p4.out
            clear hb hy bk pk rk kk P1 u0
            go_wp2_with fail
            refine P2.mono ?_
            rintro e w5 ⟨⟨z, rfl, hz⟩, hb⟩
            have b5 : Hid (Below w.heap.size w w5) := b4.out.trans (hb.mono b4.out.size)
            have p5 : Hid (Ats w5 u9 (st n)) := p4.out.up hb (Nat.le_refl _)
            have r5 : Hid (Ats w5 r (st 0)) := r4.out.up hb (Nat.le_refl _)
            have k5 : Hid (Kn w5 [(g, fixC)]) := k4.out.up hb
            have P3 := EQ.out x y z _ (y4.out.up hb (Nat.le_refl _)) hz
            have qq : (is x != is x) = false := bne_self_eq_false _
            clear hb hz b4 p4 r4 k4 y4 P2 MX
            go_wp2_with fail
            refine P3.mono ?_
            rintro e w6 ⟨rfl, hb⟩
            have b6 : Hid (Below w.heap.size w w6) := b5.out.trans (hb.mono b5.out.size)
            have p6 : Hid (Ats w6 u9 (st n)) := p5.out.up hb (Nat.le_refl _)
            have r6 : Hid (Ats w6 r (st 0)) := r5.out.up hb (Nat.le_refl _)
            have k6 : Hid (Kn w6 [(g, fixC)]) := k5.out.up hb
            clear hb b5 p5 r5 k5 P3
            go_wp2_with fail
            go_roundw
            case rel => exact ⟨j + 1, HJ.out, by go_num, p6, r6, k6, b6⟩
            case measure => simp [intOf]; have := HJ.out; omega
          · have i2 : ¬ (j : Int) < 5 := by omega
            have P : Hid (Ats wr u9 (st n) ∧ Below w.heap.size w wr) := ⟨pk.out, bk.out⟩
            clear hlt hj pk rk kk bk A2 B2 EQ
            cases ha : f 10 with
            | false =>
              have G := I2.out 10 u9 _ (by decide) P.out.1
              rw [ha] at G
              go_wp2_with fail
              refine G.mono ?_
              rintro e W ⟨rfl, hb⟩
              have PN : Hid (Ats W u9 (st n) ∧ Below w.heap.size w W) := ⟨P.out.1.up hb (Nat.le_refl _), P.out.2.trans (hb.mono P.out.2.size)⟩
              clear hb P G
              have P := PN
              clear PN
              cases hb : f 11 with
              | false =>
                have G := I2.out 11 u9 _ (by decide) P.out.1
                rw [hb] at G
                go_wp2_with fail
                refine G.mono ?_
                rintro e W ⟨rfl, hb⟩
                have PN : Hid (Ats W u9 (st n) ∧ Below w.heap.size w W) := ⟨P.out.1.up hb (Nat.le_refl _), P.out.2.trans (hb.mono P.out.2.size)⟩
                clear hb P G
                have P := PN
                clear PN
                clear I2
                go_wp2_with fail
                go_ret
                exact ⟨rfl, P.out.2⟩
              | true =>
                have h9 := N2.out.2 hb
                have G := I2.out 11 u9 _ (by decide) P.out.1
                rw [hb] at G
                go_wp2_with fail
                refine G.mono ?_
                rintro e W ⟨rfl, hb⟩
                have PN : Hid (Ats W u9 (st n) ∧ Below w.heap.size w W) := ⟨P.out.1.up hb (Nat.le_refl _), P.out.2.trans (hb.mono P.out.2.size)⟩
                clear hb P G
                have P := PN
                clear PN
                have G := I2.out 9 u9 _ (by decide) P.out.1
                rw [h9] at G
                go_wp2_with fail
                refine G.mono ?_
                rintro e W ⟨rfl, hb⟩
                have PN : Hid (Ats W u9 (st n) ∧ Below w.heap.size w W) := ⟨P.out.1.up hb (Nat.le_refl _), P.out.2.trans (hb.mono P.out.2.size)⟩
                clear hb P G
                have P := PN
                clear PN
                clear I2
                go_wp2_with fail
                go_ret
                exact ⟨rfl, P.out.2⟩
            | true =>
              have h8 := N2.out.1 ha
              have G := I2.out 10 u9 _ (by decide) P.out.1
              rw [ha] at G
              go_wp2_with fail
              refine G.mono ?_
              rintro e W ⟨rfl, hb⟩
              have PN : Hid (Ats W u9 (st n) ∧ Below w.heap.size w W) := ⟨P.out.1.up hb (Nat.le_refl _), P.out.2.trans (hb.mono P.out.2.size)⟩
              clear hb P G
              have P := PN
              clear PN
              have G := I2.out 8 u9 _ (by decide) P.out.1
              rw [h8] at G
              go_wp2_with fail
              refine G.mono ?_
              rintro e W ⟨rfl, hb⟩
              have PN : Hid (Ats W u9 (st n) ∧ Below w.heap.size w W) := ⟨P.out.1.up hb (Nat.le_refl _), P.out.2.trans (hb.mono P.out.2.size)⟩
              clear hb P G
              have P := PN
              clear PN
              cases hb : f 11 with
              | false =>
                have G := I2.out 11 u9 _ (by decide) P.out.1
                rw [hb] at G
                go_wp2_with fail
                refine G.mono ?_
                rintro e W ⟨rfl, hb⟩
                have PN : Hid (Ats W u9 (st n) ∧ Below w.heap.size w W) := ⟨P.out.1.up hb (Nat.le_refl _), P.out.2.trans (hb.mono P.out.2.size)⟩
                clear hb P G
                have P := PN
                clear PN
                clear I2
                go_wp2_with fail
                go_ret
                exact ⟨rfl, P.out.2⟩
              | true =>
                have h9 := N2.out.2 hb
                have G := I2.out 11 u9 _ (by decide) P.out.1
                rw [hb] at G
                go_wp2_with fail
                refine G.mono ?_
                rintro e W ⟨rfl, hb⟩
                have PN : Hid (Ats W u9 (st n) ∧ Below w.heap.size w W) := ⟨P.out.1.up hb (Nat.le_refl _), P.out.2.trans (hb.mono P.out.2.size)⟩
                clear hb P G
                have P := PN
                clear PN
                have G := I2.out 9 u9 _ (by decide) P.out.1
                rw [h9] at G
                go_wp2_with fail
                refine G.mono ?_
                rintro e W ⟨rfl, hb⟩
                have PN : Hid (Ats W u9 (st n) ∧ Below w.heap.size w W) := ⟨P.out.1.up hb (Nat.le_refl _), P.out.2.trans (hb.mono P.out.2.size)⟩
                clear hb P G
                have P := PN
                clear PN
                clear I2
                go_wp2_with fail
                go_ret
                exact ⟨rfl, P.out.2⟩
  · have e1 : ((E : Int) != 0) = true := bne_iff_ne.2 (by omega)
    have e2 : ((E : Int) == 0) = false := beq_eq_false_iff_ne.2 (by omega)
    obtain rfl := HO.out hE
    obtain ⟨ra, rc, rfl⟩ := ats_parts R1.out
    rw [show ([] : List Ar).length = 0 from rfl]
    clear R1 HO hE S0 TT IC G1 G2 NO EQ
    go_wp2_with fail
    go_ret
    exact ⟨rfl, b1.out⟩
theorem fixed_no {l : List Ar} (h : valA l = true) : (isB l 10 = true → isB l 8 = true) ∧ (isB l 11 = true → isB l 9 = false) := by
  have ho := (val_parts h).2.2
  unfold objF at ho
  rw [isB_one (k := 10) (by decide), isB_one (k := 8) (by decide), isB_one (k := 11) (by decide), isB_one (k := 9) (by decide)] at ho
  simp only [Bool.and_eq_true] at ho
  obtain ⟨-, ⟨h1, h2⟩, -⟩ := ho
  constructor
  · intro e
    rw [show ((10 : Nat) : Int) = 10 from rfl, show ((8 : Nat) : Int) = 8 from rfl, e] at h1
    simpa using h1
  · intro e
    rw [show ((11 : Nat) : Int) = 11 from rfl, show ((9 : Nat) : Int) = 9 from rfl, e] at h2
    simpa using h2
theorem trnS_fix (l : List Tu) (O : List Ar) {k : Int} (hk : k ∈ fixL) : ∀ j, getA (trnS l O j) k = getA O k
  | 0 => by rw [trnS_zero]
  | j + 1 => by
    cases hx : l[j]? with
    | none =>
      have : trnS l O (j + 1) = trnS l O j := by
        unfold trnS
        rw [List.take_add_one, hx, Option.toList_none, List.append_nil]
      rw [this]
      exact trnS_fix l O hk j
    | some x =>
      rw [trnS_succ hx, ← trnS_fix l O hk j]
      obtain ⟨m, rfl, hm⟩ : ∃ m : Nat, k = (m : Int) ∧ (m = 1 ∨ m = 4 ∨ m = 10 ∨ m = 11 ∨ m = 12) := by
        simp only [fixL, List.mem_cons, List.not_mem_nil, or_false] at hk
        exact ⟨k.toNat, by omega, by omega⟩
      exact keepK _ x hm
/-- RuleFixed. -/
theorem ruleFixed_of (KC : RlMakeC) (CC : RlChangeC) (PC : RlCopyC) (GC : AtGetC) (IC : AtIsC) (t : List Ar) (lt : lowA t) (hl : t.length ≤ 140737488351232) (zt : zedA t) (b : Bool) (l : List Tu) (lu : ∀ x ∈ l, x.ok) (w : World) {v u : Value} (h : Ats w v t) (hu : Tus w u l) :
    Calls Try.prog 7 #[v, .bool b, u] w fun e w' => e = .returned (.bool true) ∧ Below w.heap.size w w' := by
  have lo := madL_low (b := b) lt
  obtain ⟨a, c, rfl⟩ := tus_parts hu
  have hv : madE t b = 0 → valA (madL t b) = true := fun h => mad_val h
  have lw := trnS_low lu lo
  have zd (h : madE t b = 0) (j : Nat) : zedA (trnS l (madL t b) j) := val_zed (trnS_val (hv h) j)
  have ln (h : madE t b = 0) (j : Nat) : (trnS l (madL t b) j).length ≤ 4611686018427387904 := by
    have := val_len (trnS_val (l := l) (hv h) j)
    omega
  have kb {k : Int} (hk : k ∈ fixL) : -9223372036854775808 ≤ k ∧ k ≤ 9223372036854775807 := by
    simp only [fixL, List.mem_cons, List.not_mem_nil, or_false] at hk
    omega
  have get (j : Nat) (h : madE t b = 0) (k : Int) (v : Value) (W : World) (hk : k ∈ fixL) (hW : Ats W v (trnS l (madL t b) j)) := GC v _ k W (lw j) (ln h j) (zd h j) (kb hk).1 (kb hk).2 hW
  refine fixed_walk v t (madL t b) (madE t b) b l a l.length c (trnS l (madL t b)) (fun k => isB (trnS l (madL t b) l.length) k) (fun k => (getA (madL t b) k).isSome) (fun k => (getA (madL t b) k).getD []) w h hu rfl mad_nil (fun h => fixed_no (trnS_val (hv h) _)) (rules_alive KC w)
    (fun W hW => KC v t b W lt (by omega) zt hW) (trnS_zero _ _) (fun h j x hx v u W h1 h2 => ?_) (fun h k v W hk hW => IC v _ k W (lw _) (ln h _) (by omega) (by omega) hW) (fun h k v W hk hW => ?_) (fun h k v W hk hW => ?_) (fun k u z W h1 h2 => ?_)
  · rw [trnS_succ hx]
    exact turnedK_fun CC PC _ (lw j) (ln h j) (zd h j) x (lu x (List.mem_of_getElem? hx)) v u W h1 h2
  · have := get 0 h k v W hk hW
    rw [trnS_fix l (madL t b) hk] at this
    exact this
  · have := get l.length h k v W hk hW
    rw [trnS_fix l (madL t b) hk] at this
    exact this
  · have lb := getA_lowB lo k
    have := equal_fun u z _ _ lb lb W h1 h2
    simpa using this
end Go.Proofs.Ytepaapiflkkghaa
