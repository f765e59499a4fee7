/- Texts that were joined: FeP, RPt, RPtS, ROn, ROft. -/
import Derived.Test.YtpnfopakkaoibaaQDDigPToFeN
import Derived.Test.YtpnfopakkaoibaaQDRestToDNumP
import Derived.Test.YtpnfopakkaoibaaQUpV3ToKnL
import Derived.Test.YtpnfopakkaoibaaQPrimeLToAgM
import Derived.Test.YtpnfopakkaoibaaQQMathToAdN
import Derived.Test.YtpnfopakkaoibaaQEqToEqP
import Derived.LoopN
/- The contracts of sealringref's Fe.To and Fe.Over: powers, one over it. -/
namespace Go.Proofs.Ytpnfopakkaoibaa.I
open Go.RowKit
set_option linter.unusedSimpArgs false
attribute [local go_sem] YieldsP execOp
attribute [local simp] MP.eq_p
/-- Ints that are only read: block g. -/
structure Rd (w : World) (g n : Nat) (f : Nat → Nat) : Prop where
  lt : g < w.heap.size
  cell : ∀ j, j < n → w.cell? ⟨g, j, none⟩ = some (dI (f j))
theorem Rd.up {W w1 : World} {g n B : Nat} {f : Nat → Nat} (h : Rd W g n f) (hb : Below B W w1) (hB : g < B) : Rd w1 g n f :=
  ⟨Nat.lt_of_lt_of_le h.lt hb.size, fun j hj => (hb.cell (p := ⟨g, j, none⟩) hB).trans (h.cell j hj)⟩
theorem Rd.apart {w : World} {g n k o : Nat} {f : Nat → Nat} {vs : List Value} (h : Rd w g n f) (hk : g ≠ k) : Rd (w.setCells k o vs) g n f :=
  ⟨by rw [size_setCells]; exact h.lt, fun j hj => by
    rw [World.cell?_setCells_out k vs o w ⟨g, j, none⟩ (fun e _ => absurd e hk)]; exact h.cell j hj⟩
theorem yields_ld {o : Oper} {a : Act} {w : World} {φ : Value → World → Prop} (ty : TypeId) (x : Operand) (ho : o.op = .load ty x) (b f : Nat) (hx : a.eval x = .pointer (some ⟨b, f, none⟩)) (cs : List Value) (d : TypeDesc) (hc : w.rangeAt b f cs) (hu : Try.prog.underlying ty = some d) (hd : d.isRow = true) (hi : (Try.prog.info? ty).map (·.size) = some cs.length)
    (h : φ (.agg cs.toArray) w) : YieldsP Try.prog o a w φ := by
  have e : (execOp a.eval o).run Try.prog w = .ok (.value (.agg cs.toArray)) w := by
    unfold execOp
    simp only [ho, hx, Instr.loadAt, Instr.sureAddr, Sem.run_bind, Sem.run_pure, Result.andThen_ok, run_loadVar_mid w b f ty cs d hc hu hd hi]
  unfold YieldsP
  rw [e]
  exact ⟨h, Below.refl _ _⟩
set_option maxRecDepth 20000 in
set_option maxHeartbeats 2000000 in
theorem to_fe (x Y : Nat) (hx : x < F.p) (hY : Y < 2 ^ 256) (v : Value) (w : World) (sv : Sl w v (P.dg Y)) : Calls Try.prog 84 #[fe x, v] w fun e w' => e = .returned (fe (F.pow x Y)) ∧ Below w.heap.size w w' := by
  obtain ⟨A, hA⟩ : ∃ A : Nat → Nat, A = fun k => F.pow x (2 ^ k) := ⟨_, rfl⟩
  obtain ⟨O, hO⟩ : ∃ O : Nat → Nat, O = fun k => F.pow x (Y % 2 ^ k) := ⟨_, rfl⟩
  obtain ⟨T, hT⟩ : ∃ T : Nat → Nat, T = fun k => Y / 2 ^ k % 2 := ⟨_, rfl⟩
  have LL : Hid (∀ k, A k < F.p ∧ O k < F.p) := fun k => by rw [hA, hO]; exact ⟨F.pow_lt _ _, F.pow_lt _ _⟩
  have A0 : Hid (A 0 = x) := by rw [hA]; show F.pow x (2 ^ 0) = x; rw [Nat.pow_zero, F.pow_one, Nat.mod_eq_of_lt hx]
  have O0 : Hid (O 0 = 1) := by rw [hO]; show F.pow x (Y % 2 ^ 0) = 1; rw [Nat.pow_zero, Nat.mod_one]; unfold F.pow; rw [Nat.pow_zero]; exact rfl
  have OE : Hid (O 256 = F.pow x Y) := by rw [hO]; show F.pow x (Y % 2 ^ 256) = _; rw [Nat.mod_eq_of_lt hY]
  have SA : Hid (∀ k w, Calls Try.prog 53 #[fe (A k), fe (A k)] w fun e w' => e = .returned (fe (A (k + 1))) ∧ Below w.heap.size w w') := fun k w => by
    have := by_fe (A k) (A k) (LL.out k).1 (LL.out k).1 w
    rw [hA] at this ⊢
    simp only [] at this ⊢
    rw [← F.pow_add, ← Nat.two_mul, Nat.mul_comm, ← Nat.pow_succ] at this
    exact this
  have SO : Hid (∀ k w, T k = 1 → Calls Try.prog 53 #[fe (O k), fe (A k)] w fun e w' => e = .returned (fe (O (k + 1))) ∧ Below w.heap.size w w') := fun k w hk => by
    have := by_fe (O k) (A k) (LL.out k).2 (LL.out k).1 w
    rw [hT] at hk
    rw [hO, hA] at this
    rw [hO, hA]
    simp only [] at this hk ⊢
    rw [← F.pow_add, show Y % 2 ^ k + 2 ^ k = Y % 2 ^ (k + 1) by rw [mod_two_succ, hk, Nat.mul_one]] at this
    exact this
  have SN : Hid (∀ k, T k = 0 → O (k + 1) = O k) := fun k hk => by
    rw [hT] at hk
    rw [hO]
    show F.pow x (Y % 2 ^ (k + 1)) = _
    rw [pow_off Y k hk]
  have T01 : Hid (∀ k, T k = 0 ∨ T k = 1) := fun k => by rw [hT]; exact Nat.mod_two_eq_zero_or_one _
  have BF : Hid (∀ W, Below w.heap.size w W → Calls Try.prog 31 #[v, .int .i64 256] W fun e w' => (e = .returned (.slice (some ⟨W.heap.size, 0, none⟩) 256 256) ∧ Rd w' W.heap.size 256 T) ∧ Below W.heap.size W w') := fun W hW => by
    refine (bits_fun v _ (P.dg_Dg Y) 256 (by decide) W (Sl.up (xs := P.dg Y) sv hW)).mono ?_
    rintro e w' ⟨⟨he, bs, lb, hbs, ob⟩, hb⟩
    have hc : ∀ j, j < 256 → w'.cell? ⟨W.heap.size, j, none⟩ = some (dI (T j)) := fun j hj => by
      have := (Ow.cell ob lb.symm j (by omega)).1
      rw [hbs j hj, P.dv_dg] at this
      rw [hT]
      exact this
    exact ⟨⟨he, lt_of_cell (hc 0 (by decide)), hc⟩, hb⟩
  obtain ⟨av, cv, rfl⟩ := sv.parts
  generalize (P.dg Y).length = nv at *
  obtain ⟨x0, x1, x2⟩ := al2 w ((row 16 (fd x)).map dI).toArray #[Value.int IntKind.i64 0, Value.int IntKind.i64 0, Value.int IntKind.i64 0, Value.int IntKind.i64 0, Value.int IntKind.i64 0, Value.int IntKind.i64 0, Value.int IntKind.i64 0, Value.int IntKind.i64 0, Value.int IntKind.i64 0, Value.int IntKind.i64 0, Value.int IntKind.i64 0, Value.int IntKind.i64 0, Value.int IntKind.i64 0, Value.int IntKind.i64 0, Value.int IntKind.i64 0, Value.int IntKind.i64 0] 70 70
  have X0 : Hid (Ar _ w.heap.size 16 (fd x)) := x0
  have X1 : Hid (Ar _ (w.heap.size + 1) 16 z0) := x1
  have X2 : Hid (Below w.heap.size w _) := x2
  clear x0 x1 x2 sv hx hY hA hO hT
  rw [← OE.out]
  go_enter Try.func84, Try.ntmps84
  go_wp2_with (simp only [zero_fe])
  try rw [show Try.zeroCells70 = #[Value.int IntKind.i64 0, Value.int IntKind.i64 0, Value.int IntKind.i64 0, Value.int IntKind.i64 0, Value.int IntKind.i64 0, Value.int IntKind.i64 0, Value.int IntKind.i64 0, Value.int IntKind.i64 0, Value.int IntKind.i64 0, Value.int IntKind.i64 0, Value.int IntKind.i64 0, Value.int IntKind.i64 0, Value.int IntKind.i64 0, Value.int IntKind.i64 0, Value.int IntKind.i64 0, Value.int IntKind.i64 0] from rfl]
  generalize World.alloc (w.alloc _) _ = w1 at *
  rw [← A0.out] at X0
  refine (small_fe 1 (by decide) w1).mono ?_
  rintro e w2 ⟨rfl, hb⟩
  have Y0 : Hid (Ar w2 w.heap.size 16 (fd (A 0))) := X0.out.up hb X0.out.lt
  have Y1 : Hid (Ar w2 (w.heap.size + 1) 16 z0) := X1.out.up hb X1.out.lt
  have Y2 : Hid (Below w.heap.size w w2) := X2.out.trans (hb.mono X2.out.size)
  have L1 : Hid (w.heap.size + 1 < w2.heap.size) := Y1.out.lt
  obtain ⟨k0, k1⟩ := al1 w2 #[Value.int IntKind.i64 0, Value.int IntKind.i64 0, Value.int IntKind.i64 0, Value.int IntKind.i64 0, Value.int IntKind.i64 0, Value.int IntKind.i64 0, Value.int IntKind.i64 0, Value.int IntKind.i64 0, Value.int IntKind.i64 0, Value.int IntKind.i64 0, Value.int IntKind.i64 0, Value.int IntKind.i64 0, Value.int IntKind.i64 0, Value.int IntKind.i64 0, Value.int IntKind.i64 0, Value.int IntKind.i64 0] 70
  have ZO : Hid (Ar (w2.alloc (.cells #[Value.int IntKind.i64 0, Value.int IntKind.i64 0, Value.int IntKind.i64 0, Value.int IntKind.i64 0, Value.int IntKind.i64 0, Value.int IntKind.i64 0, Value.int IntKind.i64 0, Value.int IntKind.i64 0, Value.int IntKind.i64 0, Value.int IntKind.i64 0, Value.int IntKind.i64 0, Value.int IntKind.i64 0, Value.int IntKind.i64 0, Value.int IntKind.i64 0, Value.int IntKind.i64 0, Value.int IntKind.i64 0] 70)) w2.heap.size 16 z0) := k0
  have Z0 : Hid (Ar (w2.alloc (.cells #[Value.int IntKind.i64 0, Value.int IntKind.i64 0, Value.int IntKind.i64 0, Value.int IntKind.i64 0, Value.int IntKind.i64 0, Value.int IntKind.i64 0, Value.int IntKind.i64 0, Value.int IntKind.i64 0, Value.int IntKind.i64 0, Value.int IntKind.i64 0, Value.int IntKind.i64 0, Value.int IntKind.i64 0, Value.int IntKind.i64 0, Value.int IntKind.i64 0, Value.int IntKind.i64 0, Value.int IntKind.i64 0] 70)) w.heap.size 16 (fd (A 0))) := Y0.out.up k1 Y0.out.lt
  have Z1 : Hid (Ar (w2.alloc (.cells #[Value.int IntKind.i64 0, Value.int IntKind.i64 0, Value.int IntKind.i64 0, Value.int IntKind.i64 0, Value.int IntKind.i64 0, Value.int IntKind.i64 0, Value.int IntKind.i64 0, Value.int IntKind.i64 0, Value.int IntKind.i64 0, Value.int IntKind.i64 0, Value.int IntKind.i64 0, Value.int IntKind.i64 0, Value.int IntKind.i64 0, Value.int IntKind.i64 0, Value.int IntKind.i64 0, Value.int IntKind.i64 0] 70)) (w.heap.size + 1) 16 z0) := Y1.out.up k1 Y1.out.lt
  have Z2 : Hid (Below w.heap.size w (w2.alloc (.cells #[Value.int IntKind.i64 0, Value.int IntKind.i64 0, Value.int IntKind.i64 0, Value.int IntKind.i64 0, Value.int IntKind.i64 0, Value.int IntKind.i64 0, Value.int IntKind.i64 0, Value.int IntKind.i64 0, Value.int IntKind.i64 0, Value.int IntKind.i64 0, Value.int IntKind.i64 0, Value.int IntKind.i64 0, Value.int IntKind.i64 0, Value.int IntKind.i64 0, Value.int IntKind.i64 0, Value.int IntKind.i64 0] 70))) := Y2.out.trans (k1.mono Y2.out.size)
  have TT : Hid _ := ZO.out.there (o := 0) (n := ((row 16 (fd 1)).map dI).length) (by rw [List.length_map, List.length_map, row_length, row_length]; omega)
  clear k0 k1 hb X0 X1 X2 Y0 Y1 Y2
  go_wp2_with (first | simp only [zero_fe] | refine wp_store_eq rfl 70 (.tmp 5) (.tmp 8) rfl w2.heap.size 0 ((row 16 (fd 1)).map dI) rfl rfl TT.out (info_row info_fe (fd 1)) (one_dI _) ?_)
  intro w3 hw3
  have Y0 : Hid (Ar w3 w.heap.size 16 (fd (A 0))) := by rw [hw3.out]; exact Z0.out.apart (by have := L1.out; omega)
  have Y1 : Hid (Ar w3 (w.heap.size + 1) 16 z0) := by rw [hw3.out]; exact Z1.out.apart (by have := L1.out; omega)
  have YO : Hid (Ar w3 w2.heap.size 16 (fd (O 0))) := by rw [hw3.out, O0.out]; exact ZO.out.put (by rw [List.length_map, List.length_map, row_length, row_length])
  have Y2 : Hid (Below w.heap.size w w3) := by rw [hw3.out]; exact below_setCells _ _ _ Z2.out (by have := L1.out; omega)
  clear hw3 Z0 Z1 Z2 ZO TT
  generalize w2.heap.size = ko at *
  go_wp2_with fail
  refine (BF.out w3 Y2.out).mono ?_
  rintro e w4 ⟨⟨rfl, RD⟩, hb⟩
  have L2 : Hid (ko < w3.heap.size) := YO.out.lt
  have Z0 : Hid (Ar w4 w.heap.size 16 (fd (A 0))) := Y0.out.up hb Y0.out.lt
  have Z1 : Hid (Ar w4 (w.heap.size + 1) 16 z0) := Y1.out.up hb Y1.out.lt
  have ZO : Hid (Ar w4 ko 16 (fd (O 0))) := YO.out.up hb YO.out.lt
  have Z2 : Hid (Below w.heap.size w w4) := Y2.out.trans (hb.mono Y2.out.size)
  have ZR : Hid (Rd w4 w3.heap.size 256 T) := RD
  clear hb RD Y0 Y1 YO Y2 BF
  generalize w3.heap.size = g at *
  go_wp2_with fail
  go_loopw [12] (fun i wr => ∃ k : Nat, k ≤ 256 ∧ i = .int .i64 (k : Int) ∧ Hid (Ar wr w.heap.size 16 (fd (A k))) ∧ Hid (Ar wr (w.heap.size + 1) 16 z0) ∧ Hid (Ar wr ko 16 (fd (O k))) ∧ Hid (Rd wr g 256 T) ∧ Hid (Below w.heap.size w wr)) (fun i _ => 256 - (intOf i).toNat)
  case atStart => exact ⟨0, by omega, rfl, Z0, Z1, ZO, ZR, Z2⟩
  case round =>
    clear Z0 Z1 ZO ZR Z2
    obtain ⟨k, hk, rfl, X0, X1, XO, XR, X2⟩ := hrel
    by_cases hk1 : k < 256
    · have k1 : (k : Int) < 256 := by omega
      have k0 : (0 : Int) ≤ (k : Int) := by omega
      have wk : IntKind.i64.wrap ((k : Int) + 1) = (k : Int) + 1 := by rw [IntKind.wrap_i64]; omega
      have K1 : Hid (k < 256) := hk1
      have ck := XR.out.cell k hk1
      have S1 := SA.out k
      have S2 : Hid _ := SO.out k
      have SN2 : Hid _ := SN.out k
      have KA : Hid (A (k + 1) = A (k + 1)) := rfl
      obtain ⟨a1, ha1⟩ : ∃ a1, Hid (a1 = A (k + 1)) := ⟨_, rfl⟩
      obtain ⟨o1, ho1⟩ : ∃ o1, Hid (o1 = O (k + 1)) := ⟨_, rfl⟩
      rw [← ha1.out] at S1
      rw [← ho1.out] at S2 SN2
      clear hk hk1 KA
      rcases T01.out k with ht | ht
      · rw [ht] at ck
        have SE : Hid (o1 = O k) := SN2.out ht
        clear ht
        generalize A k = av1 at *
        go_wp2_with (refine wpList_load_mid rfl 70 (.tmp 2) rfl w.heap.size 0 rfl ((row 16 (fd av1)).map dI) _ X0.out.all u_fe rfl (info_row info_fe (fd av1)) ?_)
        refine (S1 wr).mono ?_
        rintro e w6 ⟨rfl, hb⟩
        have Y0 : Hid (Ar w6 w.heap.size 16 (fd av1)) := X0.out.up hb X0.out.lt
        have Y1 : Hid (Ar w6 (w.heap.size + 1) 16 z0) := X1.out.up hb X1.out.lt
        have YO : Hid (Ar w6 ko 16 (fd o1)) := by rw [SE.out]; exact XO.out.up hb XO.out.lt
        have YR : Hid (Rd w6 g 256 T) := XR.out.up hb XR.out.lt
        have Y2 : Hid (Below w.heap.size w w6) := X2.out.trans (hb.mono X2.out.size)
        have TT : Hid (w6.there w.heap.size 0 ((row 16 (fd a1)).map dI).length) := Y0.out.there (by rw [List.length_map, List.length_map, row_length, row_length]; omega)
        clear hb X0 X1 XO XR X2 ck
        go_wp2_with (refine wp_store_eq rfl 70 (.tmp 2) (.tmp 23) rfl w.heap.size 0 ((row 16 (fd a1)).map dI) rfl rfl TT.out (info_row info_fe (fd a1)) (one_dI _) ?_)
        intro w7 hw7
        have V0 : Hid (Ar w7 w.heap.size 16 (fd a1)) := by rw [hw7.out]; exact Y0.out.put (by rw [List.length_map, List.length_map, row_length, row_length])
        have V1 : Hid (Ar w7 (w.heap.size + 1) 16 z0) := by rw [hw7.out]; exact Y1.out.apart (by omega)
        have VO : Hid (Ar w7 ko 16 (fd o1)) := by rw [hw7.out]; exact YO.out.apart (by have := L1.out; omega)
        have VR : Hid (Rd w7 g 256 T) := by rw [hw7.out]; exact YR.out.apart (by have := L1.out; have := L2.out; omega)
        have V2 : Hid (Below w.heap.size w w7) := by rw [hw7.out]; exact below_setCells _ _ _ Y2.out (Nat.le_refl _)
        clear hw7 Y0 Y1 YO YR Y2 TT
        go_wp2_with fail
        go_roundw
        case rel => exact ⟨k + 1, K1.out, by first | rfl | go_num, by rw [← ha1.out]; exact V0, V1, by rw [← ho1.out]; exact VO, VR, V2⟩
        case measure => have := K1.out; simp [intOf]; omega
      · rw [ht] at ck
        have S3 := fun W => S2.out W ht
        clear ht
        generalize A k = av1 at *
        generalize O k = ov1 at *
        go_wp2_with (first | refine wpList_load_mid rfl 70 (.tmp 5) rfl ko 0 rfl ((row 16 (fd ov1)).map dI) _ XO.out.all u_fe rfl (info_row info_fe (fd ov1)) ?_ | refine wpList_load_mid rfl 70 (.tmp 2) rfl w.heap.size 0 rfl ((row 16 (fd av1)).map dI) _ X0.out.all u_fe rfl (info_row info_fe (fd av1)) ?_)
        refine (S3 wr).mono ?_
        rintro e w5 ⟨rfl, hb⟩
        have Y0 : Hid (Ar w5 w.heap.size 16 (fd av1)) := X0.out.up hb X0.out.lt
        have Y1 : Hid (Ar w5 (w.heap.size + 1) 16 z0) := X1.out.up hb X1.out.lt
        have YO : Hid (Ar w5 ko 16 (fd ov1)) := XO.out.up hb XO.out.lt
        have YR : Hid (Rd w5 g 256 T) := XR.out.up hb XR.out.lt
        have Y2 : Hid (Below w.heap.size w w5) := X2.out.trans (hb.mono X2.out.size)
        have TT : Hid (w5.there ko 0 ((row 16 (fd o1)).map dI).length) := YO.out.there (by rw [List.length_map, List.length_map, row_length, row_length]; omega)
        clear hb X0 X1 XO XR X2 ck
        go_wp2_with (refine wp_store_eq rfl 70 (.tmp 5) (.tmp 20) rfl ko 0 ((row 16 (fd o1)).map dI) rfl rfl TT.out (info_row info_fe (fd o1)) (one_dI _) ?_)
        intro w8 hw8
        have X0 : Hid (Ar w8 w.heap.size 16 (fd av1)) := by rw [hw8.out]; exact Y0.out.apart (by have := L1.out; omega)
        have X1 : Hid (Ar w8 (w.heap.size + 1) 16 z0) := by rw [hw8.out]; exact Y1.out.apart (by have := L1.out; omega)
        have XO : Hid (Ar w8 ko 16 (fd o1)) := by rw [hw8.out]; exact YO.out.put (by rw [List.length_map, List.length_map, row_length, row_length])
        have XR : Hid (Rd w8 g 256 T) := by rw [hw8.out]; exact YR.out.apart (by have := L2.out; omega)
        have X2 : Hid (Below w.heap.size w w8) := by rw [hw8.out]; exact below_setCells _ _ _ Y2.out (by have := L1.out; omega)
        clear hw8 Y0 Y1 YO YR Y2 TT
        go_wp2_with (refine wpList_load_mid rfl 70 (.tmp 2) rfl w.heap.size 0 rfl ((row 16 (fd av1)).map dI) _ X0.out.all u_fe rfl (info_row info_fe (fd av1)) ?_)
        refine (S1 w8).mono ?_
        rintro e w6 ⟨rfl, hb⟩
        have Y0 : Hid (Ar w6 w.heap.size 16 (fd av1)) := X0.out.up hb X0.out.lt
        have Y1 : Hid (Ar w6 (w.heap.size + 1) 16 z0) := X1.out.up hb X1.out.lt
        have YO : Hid (Ar w6 ko 16 (fd o1)) := XO.out.up hb XO.out.lt
        have YR : Hid (Rd w6 g 256 T) := XR.out.up hb XR.out.lt
        have Y2 : Hid (Below w.heap.size w w6) := X2.out.trans (hb.mono X2.out.size)
        have TT : Hid (w6.there w.heap.size 0 ((row 16 (fd a1)).map dI).length) := Y0.out.there (by rw [List.length_map, List.length_map, row_length, row_length]; omega)
        clear hb X0 X1 XO XR X2
        go_wp2_with (refine wp_store_eq rfl 70 (.tmp 2) (.tmp 23) rfl w.heap.size 0 ((row 16 (fd a1)).map dI) rfl rfl TT.out (info_row info_fe (fd a1)) (one_dI _) ?_)
        intro w7 hw7
        have V0 : Hid (Ar w7 w.heap.size 16 (fd a1)) := by rw [hw7.out]; exact Y0.out.put (by rw [List.length_map, List.length_map, row_length, row_length])
        have V1 : Hid (Ar w7 (w.heap.size + 1) 16 z0) := by rw [hw7.out]; exact Y1.out.apart (by omega)
        have VO : Hid (Ar w7 ko 16 (fd o1)) := by rw [hw7.out]; exact YO.out.apart (by have := L1.out; omega)
        have VR : Hid (Rd w7 g 256 T) := by rw [hw7.out]; exact YR.out.apart (by have := L1.out; have := L2.out; omega)
        have V2 : Hid (Below w.heap.size w w7) := by rw [hw7.out]; exact below_setCells _ _ _ Y2.out (Nat.le_refl _)
        clear hw7 Y0 Y1 YO YR Y2 TT
        go_wp2_with fail
        go_roundw
        case rel => exact ⟨k + 1, K1.out, by first | rfl | go_num, by rw [← ha1.out]; exact V0, V1, by rw [← ho1.out]; exact VO, VR, V2⟩
        case measure => have := K1.out; simp [intOf]; omega
    · obtain rfl : k = 256 := by omega
      have k256 : ¬ (((256 : Nat) : Int) < 256) := by decide
      obtain ⟨z, hz⟩ : ∃ z, z = O 256 := ⟨_, rfl⟩
      rw [← hz] at XO
      have HZ : Hid (z = O 256) := hz
      have TT : Hid (wr.there (w.heap.size + 1) 0 ((row 16 (fd z)).map dI).length) := X1.out.there (by rw [List.length_map, List.length_map, row_length, row_length]; omega)
      clear hk hk1 hz
      go_wp2_with (first | refine wpList_load_mid rfl 70 (.tmp 5) rfl ko 0 rfl ((row 16 (fd z)).map dI) _ XO.out.all u_fe rfl (info_row info_fe (fd z)) ?_ | refine wp_store_eq rfl 70 (.tmp 4) (.tmp 25) rfl (w.heap.size + 1) 0 ((row 16 (fd z)).map dI) rfl rfl TT.out (info_row info_fe (fd z)) (one_dI _) ?_)
      intro w9 hw9
      go_wp2_with fail
      refine bodyPost_ret (v := fe z) ?_ rfl ⟨by rw [HZ.out], ?_⟩
      · rw [hw9.out]
        exact results_cell (b := w.heap.size + 1) rfl rfl (World.rangeAt_setCells_same _ _ _ _ TT.out) u_fe rfl (info_row info_fe (fd z))
      · rw [hw9.out]
        exact below_setCells _ _ _ X2.out (by omega)
set_option maxRecDepth 20000 in
set_option maxHeartbeats 1000000 in
theorem over_fe (x : Nat) (hx : x < F.p) (w : World) : Calls Try.prog 54 #[fe x] w fun e w' => e = .returned (fe (F.inv x)) ∧ Below w.heap.size w w' := by
  obtain ⟨x0, x1, x2⟩ := al2 w ((row 16 (fd x)).map dI).toArray #[Value.int IntKind.i64 0, Value.int IntKind.i64 0, Value.int IntKind.i64 0, Value.int IntKind.i64 0, Value.int IntKind.i64 0, Value.int IntKind.i64 0, Value.int IntKind.i64 0, Value.int IntKind.i64 0, Value.int IntKind.i64 0, Value.int IntKind.i64 0, Value.int IntKind.i64 0, Value.int IntKind.i64 0, Value.int IntKind.i64 0, Value.int IntKind.i64 0, Value.int IntKind.i64 0, Value.int IntKind.i64 0] 70 70
  have X0 : Hid (Ar _ w.heap.size 16 (fd x)) := x0
  have X1 : Hid (Ar _ (w.heap.size + 1) 16 z0) := x1
  have X2 : Hid (Below w.heap.size w _) := x2
  have M1 : Hid (∀ u v W, Sl W u (P.dg F.p) → Sl W v [2] → Calls Try.prog 77 #[u, v] W fun e w' => (∃ v', e = .returned v' ∧ Sl w' v' (P.dg (F.p - 2))) ∧ Below W.heap.size W w') := fun u v W su sv => minus_one F.p 2 (by decide) (by decide) (by decide) (by decide) u v W su sv
  have TF : Hid (∀ v W, Sl W v (P.dg (F.p - 2)) → Calls Try.prog 84 #[fe x, v] W fun e w' => e = .returned (fe (F.inv x)) ∧ Below W.heap.size W w') := fun v W sv => to_fe x (F.p - 2) hx (by decide) v W sv
  obtain ⟨z, hz⟩ : ∃ z, z = F.inv x := ⟨_, rfl⟩
  rw [← hz] at TF ⊢
  obtain ⟨q, hq⟩ : ∃ q, q = F.p - 2 := ⟨_, rfl⟩
  rw [← hq] at M1 TF
  obtain ⟨p, hp⟩ : ∃ p, p = F.p := ⟨_, rfl⟩
  have MF : Hid (∀ W, Calls Try.prog 79 #[] W fun e w' => (∃ v', e = .returned v' ∧ Sl w' v' (P.dg p)) ∧ Below W.heap.size W w') := by rw [hp]; exact modulus_fun
  rw [← hp] at M1
  clear x0 x1 x2 hx hz hq hp
  go_enter Try.func54, Try.ntmps54
  go_wp2_with (simp only [zero_fe])
  try rw [show Try.zeroCells70 = #[Value.int IntKind.i64 0, Value.int IntKind.i64 0, Value.int IntKind.i64 0, Value.int IntKind.i64 0, Value.int IntKind.i64 0, Value.int IntKind.i64 0, Value.int IntKind.i64 0, Value.int IntKind.i64 0, Value.int IntKind.i64 0, Value.int IntKind.i64 0, Value.int IntKind.i64 0, Value.int IntKind.i64 0, Value.int IntKind.i64 0, Value.int IntKind.i64 0, Value.int IntKind.i64 0, Value.int IntKind.i64 0] from rfl]
  generalize World.alloc (w.alloc _) _ = w1 at *
  refine wp_region_monoSE 5 [MP.eq (fe x), MP.sl (P.dg p), MP.sl [2], MP.sl (P.dg q), MP.eq (fe z)] (by kernel_rfl) (by kernel_rfl) rfl (by decide) (by kernel_rfl) ?_
  apply Exists.intro
  refine ⟨fun vals => ?_, ?_, fun vals4 w4 hb4 hF hO => ?_⟩
  · simp only [putsV, dstL, List.length_cons, List.length_nil, Nat.zero_add, Nat.reduceAdd, List.getElem?_cons_zero, List.getElem?_cons_succ, Option.bind_some, Act.put, List.setIfInBounds_toArray, List.set_cons_succ, List.set_cons_zero]
    rfl
  · refine ⟨?_, ?_, ?_, ?_, ?_, trivial⟩
    · intro vals W hW hw hd
      try simp [Region.binds] at hd
      refine ⟨by first | rfl | simp [Region.wanted, yielded, hd], ?_⟩
      exact yields_ld 70 (.tmp 1) rfl w.heap.size 0 rfl ((row 16 (fd x)).map dI) _ (X0.out.up hW.out X0.out.lt).all u_fe rfl (info_row info_fe (fd x)) rfl
    · intro vals W hW hw hd
      try simp [Region.binds] at hd
      refine ⟨by first | rfl | simp [Region.wanted, yielded, hd], ?_⟩
      simp [go_sem]
      exact (MF.out W).mono fun e w' ⟨⟨v, he, h⟩, hb⟩ => ⟨v, he, h, hb⟩
    · intro vals W hW hw hd
      try simp [Region.binds] at hd
      refine ⟨by first | rfl | simp [Region.wanted, yielded, hd], ?_⟩
      simp [go_sem]
      exact ⟨Sl.one W 2 2 rfl, (Below.refl _ _).alloc (Nat.le_refl _) _⟩
    · intro vals W hW hw hd
      try simp [Region.binds] at hd
      refine ⟨by first | rfl | simp [Region.wanted, yielded, hd], ?_⟩
      simp [go_sem]
      exact (M1.out _ _ W hd.1 hd.2.1).mono fun e w' ⟨⟨v, he, h⟩, hb⟩ => ⟨v, he, h, hb⟩
    · intro vals W hW hw hd
      try simp [Region.binds] at hd
      refine ⟨by first | rfl | simp [Region.wanted, yielded, hd], ?_⟩
      simp [go_sem, hd]
      exact (TF.out _ W hd.2).mono fun e w' ⟨he, hb⟩ => ⟨_, he, rfl, hb⟩
  obtain ⟨f0, f1, f2, f3, f4, _⟩ := hF
  simp only [MP.eq_p] at f0 f4
  rw [f0, f4]
  simp only [List.drop_succ_cons, List.drop_zero]
  have Y1 : Hid (Ar w4 (w.heap.size + 1) 16 z0) := X1.out.up hb4.out X1.out.lt
  have Y2 : Hid (Below w.heap.size w w4) := X2.out.trans (hb4.out.mono X2.out.size)
  have TT : Hid (w4.there (w.heap.size + 1) 0 ((row 16 (fd z)).map dI).length) := Y1.out.there (by rw [List.length_map, List.length_map, row_length, row_length]; omega)
  clear f0 f1 f2 f3 f4 hb4 hO X0 X1 X2
  go_wp2_with (refine wp_store_eq rfl 70 (.tmp 2) (.tmp 7) rfl (w.heap.size + 1) 0 ((row 16 (fd z)).map dI) rfl rfl TT.out (info_row info_fe (fd z)) (one_dI _) ?_)
  intro w9 hw9
  go_wp2_with fail
  refine bodyPost_ret (v := fe z) ?_ rfl ⟨rfl, ?_⟩
  · rw [hw9.out]
    exact results_cell (b := w.heap.size + 1) rfl rfl (World.rangeAt_setCells_same _ _ _ _ TT.out) u_fe rfl (info_row info_fe (fd z))
  · rw [hw9.out]
    exact below_setCells _ _ _ Y2.out (by omega)
end Go.Proofs.Ytpnfopakkaoibaa.I

/- The document's points: dOf, PtOf, PtBase, Point, Plus. -/
namespace Go.Proofs.Ytpnfopakkaoibaa
open Go.RowKit
attribute [local go_sem] World.cell?_alloc_some cell_alloc2 cell_alloc3 cell_alloc4 frozen?_alloc_cells frozen_out
set_option linter.unusedSimpArgs false
end Go.Proofs.Ytpnfopakkaoibaa

/- The document's points: Plus. -/
namespace Go.Proofs.Ytpnfopakkaoibaa
open Go.RowKit
attribute [local go_sem] World.cell?_alloc_some cell_alloc2 cell_alloc3 cell_alloc4 frozen?_alloc_cells frozen_out
set_option linter.unusedSimpArgs false
end Go.Proofs.Ytpnfopakkaoibaa

/- The document's points: On; numbers modulo P held against each other; the contracts by numbers. -/
namespace Go.Proofs.Ytpnfopakkaoibaa
open Go.RowKit
attribute [local go_sem] World.cell?_alloc_some cell_alloc2 cell_alloc3 cell_alloc4 frozen?_alloc_cells frozen_out
set_option linter.unusedSimpArgs false
theorem padd_lt (s t : Cv.Tr) : (Cv.padd s t).1 < F.p ∧ (Cv.padd s t).2.1 < F.p ∧ (Cv.padd s t).2.2 < F.p := ⟨F.mul_lt _ _, F.mul_lt _ _, F.mul_lt _ _⟩
end Go.Proofs.Ytpnfopakkaoibaa

/- The document's points: PtBase, Often. -/
namespace Go.Proofs.Ytpnfopakkaoibaa
open Go.RowKit
attribute [local go_sem] World.cell?_alloc_some cell_alloc2 cell_alloc3 cell_alloc4 frozen?_alloc_cells frozen_out
set_option linter.unusedSimpArgs false
theorem Ow.kblk {w : World} {B g n c : Nat} {xs : List Nat} (h : Ow w B (.slice (some ⟨g, 0, none⟩) n c) xs) : ∃ cur : List Value, KBlk w g cur ∧ ∀ j, j < xs.length → cur[j]? = some (.int .i64 ((xs.getD j 0 : Nat) : Int)) := by
  obtain ⟨_, h' | ⟨g', cap, cur, e, _, hg, _, _, _, ht⟩⟩ := h
  · cases h'.1
  · cases e
    refine ⟨cur.toList, KBlk.of (t := 3) (by simpa using hg), fun j hj => ?_⟩
    have h1 : (cur.toList.take (xs.length * 1))[j]? = some (.int .i64 ((xs.getD j 0 : Nat) : Int)) := by
      rw [ht]
      simp [iv, hj, List.getD_eq_getElem?_getD]
    rw [List.getElem?_take] at h1
    split at h1
    · exact h1
    · cases h1
/-- What is known of the two fractions at bit k. -/
structure OfI (m n : Nat) (RES : Cv.Tr) (k : Nat) (a t : Cv.Tr) : Prop where
  la : a.1 < F.p ∧ a.2.1 < F.p ∧ a.2.2 < F.p
  lt : t.1 < F.p ∧ t.2.1 < F.p ∧ t.2.2 < F.p
  e : Cv.often (m - k) (n / 2 ^ k) a t = RES
theorem OfI.on {m n k : Nat} {RES a t : Cv.Tr} (h : OfI m n RES k a t) (hk : k < m) (hb : n / 2 ^ k % 2 = 1) : OfI m n RES (k + 1) (Cv.padd a t) (Cv.padd t t) := by
  refine ⟨padd_lt _ _, padd_lt _ _, ?_⟩
  have e := h.e
  rw [show m - k = m - (k + 1) + 1 by omega, Cv.often, if_pos hb, Nat.div_div_eq_div_mul, ← Nat.pow_succ] at e
  exact e
end Go.Proofs.Ytpnfopakkaoibaa
