/- The contract of wrap.Unwrap, over any function of blocks that Decrypt is. -/
import Derived.Test.YtejabkmhpiabnaaWaW
import Derived.Test.YtejabkmhpiabnaaMSame
import Derived.Test.YtejabkmhpiabnaaUpE
namespace Go.Proofs.Ytejabkmhpiabnaa
open Go.RowKit
set_option linter.unusedSimpArgs false
attribute [local go_sem] YieldsP execOp
attribute [local simp] MP.eq_p
set_option maxRecDepth 20000 in
set_option maxHeartbeats 1000000 in
theorem wunwrap_bad (cs : List Value) (c : List Nat) (v : Value) (zc : c.length ≤ 140737488351248) (hc : ¬ A.canU c.length) (w : World) (hv : By w v c) :
    Calls Try.prog 11 #[.agg cs.toArray, v] w fun e w' => ∃ u, e = .returned (.tuple #[u, .int .i64 1]) ∧ By w' u [] ∧ Below w.heap.size w w' := by
  obtain ⟨va, vc, rfl⟩ := hv.len
  obtain ⟨x0, x1⟩ := Blk.al' w cs 26
  have X1 : Hid (Below w.heap.size w _) := x1
  obtain ⟨L, hL⟩ : ∃ L, L = c.length := ⟨_, rfl⟩
  rw [← hL] at hc zc ⊢
  obtain ⟨z, hz⟩ : ∃ z : Int, z = (L : Int) - 8 := ⟨_, rfl⟩
  have wz : IntKind.i64.wrap ((L : Int) - 8) = z := by rw [IntKind.wrap_i64]; omega
  have FT : Hid (∀ W, Calls Try.prog 20 #[.int .i64 z] W fun e w' => e = .returned (.bool false) ∧ w' = W) := fun W => wfits_no _ (by
    rintro ⟨h1, h2, h3⟩
    rw [Int.tmod_eq_emod_of_nonneg (by omega)] at h1
    refine hc ?_
    unfold A.canU
    omega) W
  clear x0 x1 hv hc zc hL hz
  go_enter Try.func11, Try.ntmps11
  go_wp2_with fail
  refine Calls.mono (FT.out _) ?_
  rintro e w2 ⟨rfl, rfl⟩
  go_wp2_with fail
  go_ret2
  exact ⟨_, rfl, By.nil _, X1.out⟩
theorem eelem : Try.prog.underlying 53 = some (.slice (Try.prog.elem 53)) := by kernel_rfl
theorem elem_eights : Try.prog.elem 53 = 51 := by kernel_rfl
theorem size_eight (w : World) : (sizeOf 51).run Try.prog w = .ok 8 w := by
  obtain ⟨i0, hi, _, hz, _⟩ := info_parts iE8
  simp [sizeOf, typeInfo, hi, hz]
/-- All but the first of a row of eights. -/
theorem run_cutE {o : Oper} {a : Act} (x l : Operand) (ho : o.op = .slice 53 x (some l) none none) (g n m : Nat) (hm : m = n + 1) (hx : a.eval x = .slice (some ⟨g, 0, none⟩) m m) (hl : a.eval l = .int .i64 1) (hn : 0 < n) (w : World) : (execOp a.eval o).run Try.prog w = .ok (.value (.slice (some ⟨g, 8, none⟩) n n)) w := by
  subst hm
  have e1 : (Instr.sliceAt 53 (.slice (some ⟨g, 0, none⟩) (n + 1) (n + 1)) (some (.int .i64 1)) none none).run Try.prog w = .ok (.slice (some ⟨g, 8, none⟩) n n) w := by
    rw [run_sliceAt_slice (h := eelem), run_slice_l (ht := eelem) (h0 := by omega) (h1 := by omega), elem_eights, size_eight]
    simp [sliced, Addr.add_lit, show ¬ n = 0 by omega]
  unfold execOp
  simp [ho, hx, hl, e1]
theorem run_ldE {o : Oper} {a : Act} (x : Operand) (ho : o.op = .load 51 x) (g f : Nat) (hx : a.eval x = .pointer (some ⟨g, f, none⟩)) (xs : List Nat) (hl : xs.length = 8) (w : World) (hr : w.rangeAt g f (xs.map b8)) : (execOp a.eval o).run Try.prog w = .ok (.value (aB xs)) w := by
  unfold execOp
  simp only [ho, hx, Instr.loadAt, Instr.sureAddr, Sem.run_bind, Sem.run_pure, Result.andThen_ok, run_loadVar_mid w g f 51 (xs.map b8) _ hr u_e8 rfl (info_n info_e8 xs hl)]
theorem quiet_allE {ops : Array Oper} {C : World → Prop} {Q : Act → Prop} {o : Oper} {rest : List Oper} {a : Act} (hw : Region.wanted o (yielded ops a.tmps) = true) (x : Operand) (ho : o.op = .slice 51 x none none none) (b : Nat) (hx : a.eval x = .pointer (some ⟨b, 0, none⟩))
    (h : wpQuiet Try.prog ops C Q rest (a.put o.dst (.slice (some ⟨b, 0, none⟩) 8 8))) : wpQuiet Try.prog ops C Q (o :: rest) a := by
  refine BigFrame.wpQuiet_want hw fun K hK => ⟨.slice (some ⟨b, 0, none⟩) 8 8, fun w _ => ?_, hK _ h⟩
  have e1 := slice_all u_e8 gi_u8 (by decide) b 0 w
  unfold Oper.quietAt
  have e : (execOp a.eval o).run Try.prog w = .ok (.value (.slice (some ⟨b, 0, none⟩) 8 8)) w := by
    unfold execOp
    simp [ho, hx, e1]
  rw [e]
  exact ⟨rfl, rfl⟩
set_option maxRecDepth 20000 in
set_option maxHeartbeats 2000000 in
theorem wunwrap_of (cs : List Value) (hcs : cs.length = 241) (D : List Nat → List Nat) (hD : A.blkE D) (hde : ∀ b W, A.ok 16 b → Calls Try.prog 32 #[.agg cs.toArray, aB b] W fun e w' => e = .returned (aB (D b)) ∧ Below W.heap.size W w')
    (p : List Nat) (v : Value) (hp : ∀ x ∈ p, x < 256) (hc : A.canU p.length) (w : World) (hv : By w v p) :
    Calls Try.prog 11 #[.agg cs.toArray, v] w fun e w' => ∃ u, e = .returned (.tuple #[u, .int .i64 (A.unE (A.unwrapE D p))]) ∧ By w' u ((A.unwrapE D p).getD []) ∧ Below w.heap.size w w' := by
  have hcn := hc
  unfold A.canU at hcn
  obtain ⟨n, hn⟩ : ∃ n, n = p.length / 8 - 1 := ⟨_, rfl⟩
  have LN : p.length = 8 * (n + 1) := by omega
  have BD : Hid (A.blkE D) := hD
  have ST0 := (A.canU.start hc hp).2
  rw [← hn] at ST0
  obtain ⟨S, hS⟩ : ∃ S : Nat → A.WS, S = A.wundo D n (6 * n) (p.take 8, A.eights (p.drop 8) n) := ⟨_, rfl⟩
  obtain ⟨p8, hp8⟩ : ∃ p8, p8 = p.take 8 := ⟨_, rfl⟩
  have P8 : Hid (A.ok 8 p8) := by rw [hp8]; exact ST0.1
  have S0 : Hid ((S 0).1 = p8 ∧ p8 ++ (S 0).2.flatten = p) := by
    rw [hS, hp8]
    exact ⟨rfl, by show p.take 8 ++ (A.eights (p.drop 8) n).flatten = p; rw [A.eights_flat (p.drop 8) n (by rw [List.length_drop]; omega), List.take_of_length_le (l := p.drop 8) (by rw [List.length_drop]; omega), List.take_append_drop]⟩
  have SO : Hid (∀ t, (S t).ok n) := fun t => by rw [hS]; exact A.wundo_ok BD.out (by omega) _ ST0 t
  have SS : Hid (∀ t, S (t + 1) = A.wback D n (6 * n - (t + 1)) (S t)) := fun t => by rw [hS]; exact rfl
  obtain ⟨RES, hRES⟩ : ∃ RES, RES = A.unwrapE D p := ⟨_, rfl⟩
  have UN : A.unwrS D p = S (6 * n) := by
    unfold A.unwrS
    rw [← hn, ← hS]
  obtain ⟨a6, h6⟩ : ∃ a6, a6 = A.a6 := ⟨_, rfl⟩
  have FS : Hid ((S (6 * n)).1 = a6 → RES = some (S (6 * n)).2.flatten) := fun h => by
    rw [hRES]
    unfold A.unwrapE
    rw [UN, if_pos (h.trans h6)]
  have FN : Hid (¬ (S (6 * n)).1 = a6 → RES = none) := fun h => by
    rw [hRES]
    unfold A.unwrapE
    rw [UN, if_neg (by rw [← h6]; exact h)]
  rw [← hRES]
  obtain ⟨rz, hrz⟩ : ∃ rz, rz = A.unE RES := ⟨_, rfl⟩
  have RZ : Hid (rz = A.unE RES) := hrz
  rw [← hrz]
  obtain ⟨rx, hrx⟩ : ∃ rx, rx = RES.getD [] := ⟨_, rfl⟩
  have RX : Hid (rx = RES.getD []) := hrx
  rw [← hrx]
  have A6 : Hid (a6.length = 8) := by rw [h6]; exact rfl
  have A6L : Hid (∀ x ∈ a6, x < 256) := by rw [h6]; exact A.a6_ok.2
  have MK : Hid (∀ W, Calls Try.prog 21 #[] W fun e w' => e = .returned (aB a6) ∧ Below W.heap.size W w') := fun W => by rw [h6]; exact wmarks_fun W
  have DEF : Hid (∀ b W, A.ok 16 b → Calls Try.prog 32 #[.agg cs.toArray, aB b] W fun e w' => e = .returned (aB (D b)) ∧ Below W.heap.size W w') := hde
  obtain ⟨va, vc, rfl⟩ := hv.len
  have BZ : Hid (∀ W, Below w.heap.size w W → By W (.slice va p.length vc) p) := fun W hW => hv.up hW (Nat.le_refl _)
  obtain ⟨N, hN⟩ : ∃ N, N = p.length := ⟨_, rfl⟩
  obtain ⟨M, hM⟩ : ∃ M, M = 8 * n := ⟨_, rfl⟩
  have wz : IntKind.i64.wrap ((N : Int) - 8) = (M : Int) := by rw [IntKind.wrap_i64]; omega
  have FT : Hid (∀ W, Calls Try.prog 20 #[.int .i64 (M : Int)] W fun e w' => e = .returned (.bool true) ∧ w' = W) := fun W => wfits_yes M (by unfold A.canW; omega) W
  obtain ⟨n1, hn1⟩ : ∃ n1, n1 = n + 1 := ⟨_, rfl⟩
  have HN1 : Hid (n1 = n + 1) := hn1
  have CT : Hid (∀ W, By W (.slice va p.length vc) p → Calls Try.prog 22 #[.slice va p.length vc] W fun e w' => e = .returned (.slice (some ⟨W.heap.size, 0, none⟩) n1 n1) ∧ Blk w' W.heap.size (p.map b8) ∧ Below W.heap.size W w') := fun W hW => wcut_fun p n1 (by omega) (by omega) (by omega) _ W hW
  rw [← hN] at CT BZ ⊢
  have NB : Hid (2 ≤ n ∧ n ≤ 8) := by show _ ∧ _; omega
  obtain ⟨x0, x1⟩ := Blk.al' w cs 26
  have X0 : Hid (Blk _ w.heap.size cs) := x0
  have X1 : Hid (Below w.heap.size w _) := x1
  obtain ⟨dk, uk, rk⟩ := u_key
  have UK : Hid (Try.prog.underlying 26 = some dk ∧ dk.isRow = true) := ⟨uk, rk⟩
  have IK : Hid ((Try.prog.info? 26).map (·.size) = some cs.length) := by rw [hcs]; exact info_key
  have z1 : (0 : Int) < (n1 : Int) := by omega
  have z2 : 0 < n1 := by omega
  clear x0 x1 hcn hn LN hD hS hde hv hN hc hp hcs uk rk h6 hM hn1 hp8 ST0 hRES UN hrz hrx
  go_enter Try.func11, Try.ntmps11
  go_wp2_with fail
  generalize w.alloc _ = w1 at *
  refine Calls.mono (FT.out _) ?_
  rintro e w1' ⟨rfl, rfl⟩
  clear FT
  have CT1 : Hid _ := CT.out w1' (BZ.out w1' X1.out)
  obtain ⟨kr, hkr⟩ : ∃ kr, kr = w1'.heap.size := ⟨_, rfl⟩
  rw [← hkr] at CT1
  have KR0 : Hid (w.heap.size < kr) := by rw [hkr]; exact X0.out.lt
  have HKR : Hid (kr = w1'.heap.size) := hkr
  clear CT BZ hkr
  go_wp2_with fail
  refine Calls.mono CT1.out ?_
  rintro e w3 ⟨rfl, k3, hb3⟩
  rw [HKR.out] at hb3
  have Z0 : Hid (Blk w3 w.heap.size cs) := X0.out.up hb3 X0.out.lt
  have Z1 : Hid (Below w.heap.size w w3) := X1.out.trans (hb3.mono X1.out.size)
  have ZR : Hid (Blk w3 kr (p8.map b8 ++ (S 0).2.flatten.map b8)) := by rw [← List.map_append, S0.out.2]; exact k3
  clear hb3 k3 X0 X1 CT1 HKR
  go_wp2_with fail
  try simp only [Act.put, List.setIfInBounds_toArray, List.set_cons_succ, List.set_cons_zero]
  have RP : Hid (∀ W, Below w3.heap.size w3 W → W.rangeAt kr 0 (p8.map b8)) := fun W hW => Blk.range (a := []) (ZR.out.up hW ZR.out.lt) rfl
  refine wp_region_lda (.slice (some ⟨kr, 0, none⟩) n1 n1) (.pointer (some ⟨kr, 0, none⟩)) (aB p8) (.slice (some ⟨kr, 0, none⟩) n1 n1) (.slice (some ⟨kr, 8, none⟩) n n) (.cells #[Value.int IntKind.u8 0, Value.int IntKind.u8 0, Value.int IntKind.u8 0, Value.int IntKind.u8 0, Value.int IntKind.u8 0, Value.int IntKind.u8 0, Value.int IntKind.u8 0, Value.int IntKind.u8 0] 51) (by kernel_rfl) (by kernel_rfl) (fun _ _ d _ _ h => by cases d <;> exact h) rfl rfl (.inl ⟨rfl, fun W => by simp [go_sem]⟩) (.inl ⟨rfl, fun W => by simp [go_sem]; intro h; omega⟩) (.inl ⟨rfl, fun W => by simp [go_sem]⟩) (.inl ⟨rfl, fun W => run_cutE (.tmp 23) _ rfl kr n n1 HN1.out rfl rfl (by have := NB.out; omega) W⟩) (fun W hW => run_ldE (.tmp 21) rfl kr 0 rfl p8 P8.out.1 W (RP.out W hW)) (fun W hW => run_ldE (.tmp 21) rfl kr 0 rfl p8 P8.out.1 W (RP.out W hW)) (fun _ _ => by kernel_rfl) (by simp only [Act.put, List.setIfInBounds_toArray, List.set_cons_succ, List.set_cons_zero]) ?_
  intro w6 hw6
  simp only [Act.put, List.setIfInBounds_toArray, List.set_cons_succ, List.set_cons_zero]
  obtain ⟨ka, hka⟩ : ∃ ka, ka = w3.heap.size := ⟨_, rfl⟩
  rw [← hka]
  have D3 : Below w3.heap.size w3 w3.drew := (Below.refl _ _).drew
  have hb6 : Below w3.heap.size w3 w6 := by rw [hw6.out]; exact D3.alloc D3.size _
  have K6 : Hid (Blk w6 ka (zB 8)) := by rw [hw6.out, hka]; exact (al1 w3.drew #[Value.int IntKind.u8 0, Value.int IntKind.u8 0, Value.int IntKind.u8 0, Value.int IntKind.u8 0, Value.int IntKind.u8 0, Value.int IntKind.u8 0, Value.int IntKind.u8 0, Value.int IntKind.u8 0] 51).1
  have U0 : Hid (Blk w6 w.heap.size cs) := Z0.out.up hb6 Z0.out.lt
  have UR : Hid (Blk w6 kr (p8.map b8 ++ (S 0).2.flatten.map b8)) := ZR.out.up hb6 ZR.out.lt
  have UB : Hid (Below w.heap.size w w6) := Z1.out.trans (hb6.mono Z1.out.size)
  have KR : Hid (w.heap.size < kr ∧ kr < ka) := ⟨KR0.out, by rw [hka]; exact ZR.out.lt⟩
  have T6 : Hid (w6.there ka 0 (p8.map b8).length) := K6.out.there (by rw [List.length_map, P8.out.1, zB_length]; omega)
  clear hb6 hw6 hka D3 RP Z0 Z1 ZR KR0 z1 z2
  go_wp2_with (refine wp_store_eq rfl 51 (.tmp 7) (.tmp 22) rfl ka 0 (p8.map b8) rfl rfl T6.out (info_n info_e8 p8 P8.out.1) (one_b8 _) ?_)
  intro w4 hw4
  have SK0 : Hid (Blk w4 w.heap.size cs) := by rw [hw4.out]; exact U0.out.apart (by have := KR.out; omega)
  have SA0 : Hid (Blk w4 ka ((S (n * 0)).1.map b8)) := by rw [hw4.out, Nat.mul_zero, S0.out.1]; exact K6.out.put (by rw [List.length_map, zB_length, P8.out.1])
  have SR0 : Hid (Blk w4 kr ((p8 ++ (S (n * 0)).2.flatten).map b8)) := by rw [hw4.out, Nat.mul_zero, List.map_append]; exact UR.out.apart (by have := KR.out; omega)
  have C1 : Hid (Below w.heap.size w w4) := by rw [hw4.out]; exact below_setCells _ _ _ UB.out (by have := KR.out; omega)
  clear hw4 K6 U0 UR UB T6 S0
  go_wp2_with fail
  go_loopw [10] (fun x wx => ∃ j : Nat, j ≤ 6 ∧ x = .int .i64 (5 - (j : Int)) ∧ Hid (Blk wx w.heap.size cs) ∧ Hid (Blk wx ka ((S (n * j)).1.map b8)) ∧ Hid (Blk wx kr ((p8 ++ (S (n * j)).2.flatten).map b8)) ∧ Hid (Below w.heap.size w wx)) (fun x _ => (intOf x + 1).toNat)
  case atStart => exact ⟨0, by omega, rfl, SK0, SA0, SR0, C1⟩
  case round =>
    clear SK0 SA0 SR0 C1
    obtain ⟨j, hj, rfl, SK, SA, SR, C1⟩ := hrel
    by_cases hj1 : j < 6
    · obtain ⟨jd, hjd⟩ : ∃ jd, jd = 5 - j := ⟨_, rfl⟩
      have ej : (5 : Int) - (j : Int) = (jd : Int) := by omega
      rw [ej]
      have j6 : (0 : Int) ≤ (jd : Int) := by omega
      have wj : IntKind.i64.wrap ((jd : Int) - 1) = (jd : Int) - 1 := by rw [IntKind.wrap_i64]; omega
      have J6 : Hid (jd + j = 5) := by show _ = _; omega
      clear hj hj1 hjd ej
      go_wp2_with fail
      go_loopw [11] (fun x wx => ∃ i : Nat, i ≤ n ∧ x = .int .i64 ((n : Int) - (i : Int)) ∧ Hid (Blk wx w.heap.size cs) ∧ Hid (Blk wx ka ((S (n * j + i)).1.map b8)) ∧ Hid (Blk wx kr ((p8 ++ (S (n * j + i)).2.flatten).map b8)) ∧ Hid (Below w.heap.size w wx)) (fun x _ => (intOf x).toNat)
      case atStart => exact ⟨0, by omega, by simp, SK, SA, SR, C1⟩
      case round =>
        clear SK SA SR C1
        obtain ⟨ic, hi, rfl, SK, SA, SR, C1⟩ := hrel
        have NB' := NB.out
        have J6' := J6.out
        obtain ⟨i1, hi1e⟩ : ∃ i1, i1 = n - ic := ⟨_, rfl⟩
        have ei : (n : Int) - (ic : Int) = (i1 : Int) := by omega
        rw [ei]
        have HI : Hid (i1 + ic = n) := by show _ = _; omega
        by_cases hi1 : ic < n
        · have hm : n * j ≤ 8 * 5 := Nat.mul_le_mul NB'.2 (by omega)
          have hmj : n * jd ≤ 8 * 5 := Nat.mul_le_mul NB'.2 (by omega)
          have h5 : n * jd + n * j = 5 * n := by rw [← Nat.mul_add, J6.out, Nat.mul_comm]
          obtain ⟨u, hu⟩ : ∃ u, u = n * j + ic := ⟨_, rfl⟩
          obtain ⟨vv, hvv⟩ : ∃ vv, vv = 6 * n - (u + 1) := ⟨_, rfl⟩
          obtain ⟨i, hi2⟩ : ∃ i, i = i1 - 1 := ⟨_, rfl⟩
          have v1 : vv = n * jd + i := by omega
          have vm : vv % n = i := by rw [v1, Nat.mul_add_mod, Nat.mod_eq_of_lt (by omega)]
          have SU : Hid (n * j + (ic + 1) = u + 1) := by rw [hu]; exact (Nat.add_assoc _ _ _).symm
          rw [← hu] at SA SR
          have hs := SO.out u
          have ST := SS.out u
          rw [← hvv] at ST
          obtain ⟨a0, ha0⟩ : ∃ a0, a0 = (S u).1 := ⟨_, rfl⟩
          obtain ⟨rs, hrs⟩ : ∃ rs, rs = (S u).2 := ⟨_, rfl⟩
          obtain ⟨ri, hri⟩ : ∃ ri, ri = rs.getD i [] := ⟨_, rfl⟩
          have in2 : i < n := by omega
          have AO0 : Hid (A.ok 8 a0) := by rw [ha0]; exact hs.1
          have RE : Hid (A.okE n rs) := by rw [hrs]; exact hs.2
          have RIO : Hid (A.ok 8 ri) := by rw [hri]; exact RE.out.at in2
          have CO : Hid (∀ W, _) := fun W => wstepped_fun a0 AO0.out (vv + 1) (by omega) W
          have AO : Hid (A.ok 8 (A.xor8 a0 (A.be8 (vv + 1)))) := A.xor8_ok AO0.out (A.be8_ok _)
          obtain ⟨a, ha⟩ : ∃ a, a = A.xor8 a0 (A.be8 (vv + 1)) := ⟨_, rfl⟩
          rw [← ha] at CO AO
          have AR : Hid (A.ok 16 (a ++ ri)) := A.ok_two AO.out RIO.out
          obtain ⟨b, hb⟩ : ∃ b, b = D (a ++ ri) := ⟨_, rfl⟩
          have BO : Hid (A.ok 16 b) := by rw [hb]; exact BD.out _ AR.out
          have NX : Hid (S (u + 1) = (b.take 8, rs.set i (b.drop 8))) := by
            rw [ST]
            unfold A.wback
            rw [vm, ← ha0, ← hrs, ← hri, ← ha, ← hb]
            exact rfl
          have EN : Hid (∀ W, _) := fun W => DEF.out (a ++ ri) W AR.out
          rw [← hb] at EN
          have BLK : Hid (∀ W, _) := fun W => wblock_fun a ri AO.out.1 RIO.out.1 W
          have HLV : Hid (∀ W, _) := fun W => whalves_fun b BO.out.1 W
          have PO : Hid (A.ok 8 (b.take 8)) := A.ok_front BO.out
          have QO : Hid (A.ok 8 (b.drop 8)) := A.ok_back BO.out
          obtain ⟨xa, xc, lxa, ef, es⟩ := RE.out.word in2
          obtain ⟨o8, ho8⟩ : ∃ o8, o8 = 8 + i * 8 := ⟨_, rfl⟩
          have io8 : 8 + i * 8 = o8 := ho8.symm
          rw [← hri] at ef
          have RNG : Hid (∀ W, Blk W kr ((p8 ++ rs.flatten).map b8) → W.rangeAt kr o8 (ri.map b8)) := fun W h => by
            rw [ef, ← List.append_assoc p8 xa (ri ++ xc), List.map_append, List.map_append (l₁ := ri)] at h
            exact h.range (by rw [List.length_map, List.length_append, P8.out.1, lxa, ho8, Nat.mul_comm])
          have PUT : Hid (∀ W, Blk W kr ((p8 ++ rs.flatten).map b8) → Blk (W.setCells kr o8 ((b.drop 8).map b8)) kr ((p8 ++ (rs.set i (b.drop 8)).flatten).map b8)) := fun W h => by
            rw [ef, ← List.append_assoc p8 xa (ri ++ xc), List.map_append, List.map_append (l₁ := ri)] at h
            rw [es, ← List.append_assoc p8 xa (b.drop 8 ++ xc), List.map_append, List.map_append (l₁ := b.drop 8)]
            exact h.store (by rw [List.length_map, List.length_append, P8.out.1, lxa, ho8, Nat.mul_comm]) (by rw [List.length_map, List.length_map, QO.out.1, RIO.out.1])
          have ROOM : Hid (o8 + 8 ≤ ((p8 ++ rs.flatten).map b8).length) := by rw [List.length_map, List.length_append, P8.out.1, RE.out.flen]; show _ ≤ _; omega
          rw [← ha0] at SA
          rw [← hrs] at SR
          have i1n : (1 : Int) ≤ (i1 : Int) := by omega
          have in1 : (i : Int) < (n : Int) := by omega
          have wm : IntKind.i64.wrap ((i1 : Int) - 1) = (i : Int) := by rw [IntKind.wrap_i64]; omega
          obtain ⟨tj, htj⟩ : ∃ tj, tj = n * jd := ⟨_, rfl⟩
          have w1_ : IntKind.i64.wrap ((n : Int) * (jd : Int)) = (tj : Int) := by rw [htj, IntKind.wrap_i64, ← Int.natCast_mul]; omega
          obtain ⟨u1, hu1⟩ : ∃ u1, u1 = vv + 1 := ⟨_, rfl⟩
          have w2_ : IntKind.i64.wrap ((tj : Int) + (i1 : Int)) = (u1 : Int) := by rw [IntKind.wrap_i64]; omega
          rw [← hu1] at CO
          have HI1 : Hid (ic < n) := hi1
          have HI2 : Hid ((i : Int) = (n : Int) - ((ic + 1 : Nat) : Int)) := by show _ = _; omega
          obtain ⟨rs', hrs'⟩ : ∃ rs', rs' = rs.set i (b.drop 8) := ⟨_, rfl⟩
          rw [← hrs'] at NX PUT
          obtain ⟨ab, hab⟩ : ∃ ab, ab = a ++ ri := ⟨_, rfl⟩
          rw [← hab] at EN BLK
          obtain ⟨pp, hpp⟩ : ∃ pp, pp = b.take 8 := ⟨_, rfl⟩
          rw [← hpp] at PO HLV NX
          obtain ⟨q8, hq8⟩ : ∃ q8, q8 = b.drop 8 := ⟨_, rfl⟩
          rw [← hq8] at QO HLV PUT
          clear hu hvv hi2 v1 vm h5 hmj hs ST ha0 hrs hri hb ha hi hi1 hi1e htj hm NB' J6' xa xc lxa ef es ho8 hu1 hrs' hab hpp hq8 AR BO ei
          have CO3 : Hid _ := CO.out wr
          clear CO
          go_wp2_with (refine wpList_load_mid rfl 51 (.tmp 7) rfl ka 0 rfl (a0.map b8) _ SA.out.all u_e8 rfl (info_n info_e8 a0 AO0.out.1) ?_)
          refine Calls.mono CO3.out ?_
          rintro e w3 ⟨rfl, hb3⟩
          have UK5 : Hid (Blk w3 w.heap.size cs) := SK.out.up hb3 SK.out.lt
          have UA : Hid (Blk w3 ka (a0.map b8)) := SA.out.up hb3 SA.out.lt
          have UR : Hid (Blk w3 kr ((p8 ++ rs.flatten).map b8)) := SR.out.up hb3 SR.out.lt
          have UB : Hid (Below w.heap.size w w3) := C1.out.trans (hb3.mono C1.out.size)
          have T3 : Hid (w3.there ka 0 (a.map b8).length) := UA.out.there (by rw [List.length_map, List.length_map, AO0.out.1, AO.out.1]; omega)
          clear hb3 SK SA SR C1 CO3
          go_wp2_with (refine wp_store_eq rfl 51 (.tmp 7) (.tmp 42) rfl ka 0 (a.map b8) rfl rfl T3.out (info_n info_e8 a AO.out.1) (one_b8 _) ?_)
          intro w4 hw4
          have SK : Hid (Blk w4 w.heap.size cs) := by rw [hw4.out]; exact UK5.out.apart (by have := KR.out; omega)
          have SA : Hid (Blk w4 ka (a.map b8)) := by rw [hw4.out]; exact UA.out.put (by rw [List.length_map, List.length_map, AO0.out.1, AO.out.1])
          have SR : Hid (Blk w4 kr ((p8 ++ rs.flatten).map b8)) := by rw [hw4.out]; exact UR.out.apart (by have := KR.out; omega)
          have C1 : Hid (Below w.heap.size w w4) := by rw [hw4.out]; exact below_setCells _ _ _ UB.out (by have := KR.out; omega)
          clear hw4 UK5 UA UR UB T3 w1_ w2_
          go_wp2_with fail
          try simp only [Act.put, List.setIfInBounds_toArray, List.set_cons_succ, List.set_cons_zero]
          refine wp_region_three3 16 (.slice (some ⟨kr, 8, none⟩) n n) (.int .i64 (i1 : Int)) (.int .i64 (i : Int)) (by kernel_rfl) (by kernel_rfl) (by kernel_rfl) (by kernel_rfl) (by decide) (by decide) (fun _ _ d _ _ h => by cases d <;> exact h) (by kernel_rfl) (by kernel_rfl) (by kernel_rfl) (.inl ⟨rfl, fun W => by simp [go_sem]⟩) (.inl ⟨rfl, fun W => by simp [go_sem]⟩) (.inl ⟨rfl, fun W => by simp [go_sem, wm]⟩) ?_
          intro U hU f hf hcl
          have RK : Hid (∀ m, (f m).rangeAt w.heap.size 0 cs) := fun m => (SK.out.up (hf m).out SK.out.lt).all
          have RA : Hid (∀ m, (f m).rangeAt ka 0 (a.map b8)) := fun m => (SA.out.up (hf m).out SA.out.lt).all
          have RI : Hid (∀ m, (f m).rangeAt kr o8 (ri.map b8)) := fun m => RNG.out (f m) (SR.out.up (hf m).out SR.out.lt)
          have BF : Hid (∀ m, _) := fun m => BLK.out (f m)
          have EF : Hid (∀ m, _) := fun m => EN.out (f m)
          have HF : Hid (∀ m, _) := fun m => HLV.out (f m)
          simp only [List.take_succ_cons, List.take_zero, List.drop_succ_cons, List.drop_zero, Act.put, List.setIfInBounds_toArray, List.set_cons_succ, List.set_cons_zero]
          repeat (first | (refine quiet_load rfl 26 (.tmp 2) rfl w.heap.size 0 rfl cs dk (fun W hW => by obtain ⟨m, rfl⟩ := hW; exact RK.out m) UK.out.1 UK.out.2 IK.out ?_; simp only [Act.put, List.setIfInBounds_toArray, List.set_cons_succ, List.set_cons_zero]) | (refine quietA_ld rfl u_e8 info_e8 (.tmp 7) rfl ka 0 rfl a AO.out.1 (fun W hW => by obtain ⟨m, rfl⟩ := hW; exact RA.out m) ?_; simp only [Act.put, List.setIfInBounds_toArray, List.set_cons_succ, List.set_cons_zero]) | (refine quietA_ld rfl u_e8 info_e8 (.tmp 52) rfl kr o8 rfl ri RIO.out.1 (fun W hW => by obtain ⟨m, rfl⟩ := hW; exact RI.out m) ?_; simp only [Act.put, List.setIfInBounds_toArray, List.set_cons_succ, List.set_cons_zero]) | go_big_quiet_step (first | (go_at_call 25; exact (BF.out _).mono fun e w'' ⟨he, hb⟩ => ⟨he, hcl.out _ _ hb⟩) | (go_at_call 32; exact (EF.out _).mono fun e w'' ⟨he, hb⟩ => ⟨he, hcl.out _ _ hb⟩) | (go_at_call 23; exact (HF.out _).mono fun e w'' ⟨he, hb⟩ => ⟨he, hcl.out _ _ hb⟩)))
          refine wpQuiet_nil ?_
          intro m
          have hb5 := (hf m).out
          generalize f m = w5 at hb5 ⊢
          try simp only [List.drop_succ_cons, List.drop_zero]
          have UK5 : Hid (Blk w5 w.heap.size cs) := SK.out.up hb5 SK.out.lt
          have UA : Hid (Blk w5 ka (a.map b8)) := SA.out.up hb5 SA.out.lt
          have UR : Hid (Blk w5 kr ((p8 ++ rs.flatten).map b8)) := SR.out.up hb5 SR.out.lt
          have UB : Hid (Below w.heap.size w w5) := C1.out.trans (hb5.mono C1.out.size)
          have T5 : Hid (w5.there ka 0 (pp.map b8).length) := UA.out.there (by rw [List.length_map, List.length_map, PO.out.1, AO.out.1]; omega)
          clear hb5 hf hcl RK RA RI BF EF HF SK SA SR C1 EN BLK HLV RNG
          go_wp2_with (refine wp_store_eq rfl 51 (.tmp 7) (.tmp 57) rfl ka 0 (pp.map b8) rfl rfl T5.out (info_n info_e8 pp PO.out.1) (one_b8 _) ?_)
          intro w6 hw6
          have SK : Hid (Blk w6 w.heap.size cs) := by rw [hw6.out]; exact UK5.out.apart (by have := KR.out; omega)
          have SA : Hid (Blk w6 ka (pp.map b8)) := by rw [hw6.out]; exact UA.out.put (by rw [List.length_map, List.length_map, PO.out.1, AO.out.1])
          have SR : Hid (Blk w6 kr ((p8 ++ rs.flatten).map b8)) := by rw [hw6.out]; exact UR.out.apart (by have := KR.out; omega)
          have C1 : Hid (Below w.heap.size w w6) := by rw [hw6.out]; exact below_setCells _ _ _ UB.out (by have := KR.out; omega)
          have T6 : Hid (w6.there kr o8 (q8.map b8).length) := SR.out.there (by rw [List.length_map, QO.out.1]; exact ROOM.out)
          clear hw6 UK5 UA UR UB T5
          go_wp2_with (refine wp_store_eq rfl 51 (.tmp 59) (.tmp 58) rfl kr o8 (q8.map b8) rfl rfl T6.out (info_n info_e8 q8 QO.out.1) (one_b8 _) ?_)
          intro w7 hw7
          have UK5 : Hid (Blk w7 w.heap.size cs) := by rw [hw7.out]; exact SK.out.apart (by have := KR.out; omega)
          have UA : Hid (Blk w7 ka (pp.map b8)) := by rw [hw7.out]; exact SA.out.apart (by have := KR.out; omega)
          have UR : Hid (Blk w7 kr ((p8 ++ rs'.flatten).map b8)) := by rw [hw7.out]; exact PUT.out w6 SR.out
          have UB : Hid (Below w.heap.size w w7) := by rw [hw7.out]; exact below_setCells _ _ _ C1.out (by have := KR.out; omega)
          clear hw7 SK SA SR C1 T6 PUT ROOM
          go_wp2_with fail
          go_roundw
          case rel => exact ⟨ic + 1, HI1.out, by rw [HI2.out], UK5, by rw [SU.out, NX.out]; exact UA, by rw [SU.out, NX.out]; exact UR, UB⟩
          case measure => have h1 := HI.out; have h2 := HI1.out; have h3 := HI2.out; simp [intOf]; omega
        · obtain rfl : ic = n := by omega
          have nn2 : ¬ (1 : Int) ≤ (i1 : Int) := by omega
          have SU : Hid (ic * j + ic = ic * (j + 1)) := (Nat.mul_succ ic j).symm
          rw [SU.out] at SA SR
          clear hi hi1 hi1e NB' J6' ei
          go_wp2_with fail
          go_roundw
          case rel => exact ⟨j + 1, by have := J6.out; omega, by rw [show (5 : Int) - ((j + 1 : Nat) : Int) = (jd : Int) - 1 by have := J6.out; omega], SK, SA, SR, C1⟩
          case measure => first | (simp [intOf]; done) | (have := J6.out; simp [intOf]; omega)
    · obtain rfl : j = 6 := by omega
      obtain ⟨m1_, hm1⟩ : ∃ m1_ : Int, m1_ = 5 - ((6 : Nat) : Int) := ⟨_, rfl⟩
      rw [← hm1]
      have n6 : ¬ (0 : Int) ≤ m1_ := by omega
      rw [show n * 6 = 6 * n from Nat.mul_comm _ _] at SA SR
      have hs := SO.out (6 * n)
      obtain ⟨a, ha⟩ : ∃ a, a = (S (6 * n)).1 := ⟨_, rfl⟩
      obtain ⟨rf, hrf⟩ : ∃ rf, rf = (S (6 * n)).2.flatten := ⟨_, rfl⟩
      rw [← ha] at SA
      rw [← hrf] at SR
      have AO : Hid (A.ok 8 a) := by rw [ha]; exact hs.1
      have RL : Hid (rf.length = 8 * n) := by rw [hrf]; exact hs.2.flen
      have FINs : Hid (a = a6 → RES = some rf) := by rw [ha, hrf]; exact FS.out
      have FINn : Hid (¬ a = a6 → RES = none) := by rw [ha]; exact FN.out
      have SMF : Hid (∀ W, By W (.slice (some ⟨ka, 0, none⟩) 8 8) a → ∀ km, By W (.slice (some ⟨km, 0, none⟩) 8 8) a6 → Calls Try.prog 33 #[.slice (some ⟨ka, 0, none⟩) 8 8, .slice (some ⟨km, 0, none⟩) 8 8] W fun e w' => e = .returned (.bool (decide (a = a6))) ∧ Below W.heap.size W w') := fun W h1 km h2 => msame_fun _ _ a a6 AO.out.2 A6L.out (by rw [AO.out.1]; decide) (by rw [A6.out]; decide) W h1 h2
      have MK1 : Hid _ := MK.out wr
      clear FS FN hm1 hj hj1 SO SS DEF BD hs ha hrf MK SK
      go_wp2_with fail
      refine Calls.mono MK1.out ?_
      rintro e w5 ⟨rfl, hb5⟩
      obtain ⟨y0, y1⟩ := al1 w5 #[Value.int IntKind.u8 0, Value.int IntKind.u8 0, Value.int IntKind.u8 0, Value.int IntKind.u8 0, Value.int IntKind.u8 0, Value.int IntKind.u8 0, Value.int IntKind.u8 0, Value.int IntKind.u8 0] 51
      have A0 : Hid (Blk (w5.alloc (.cells #[Value.int IntKind.u8 0, Value.int IntKind.u8 0, Value.int IntKind.u8 0, Value.int IntKind.u8 0, Value.int IntKind.u8 0, Value.int IntKind.u8 0, Value.int IntKind.u8 0, Value.int IntKind.u8 0] 51)) w5.heap.size (zB 8)) := y0
      have AA : Hid (Blk (w5.alloc (.cells #[Value.int IntKind.u8 0, Value.int IntKind.u8 0, Value.int IntKind.u8 0, Value.int IntKind.u8 0, Value.int IntKind.u8 0, Value.int IntKind.u8 0, Value.int IntKind.u8 0, Value.int IntKind.u8 0] 51)) ka (a.map b8)) := (SA.out.up hb5 SA.out.lt).up y1 (SA.out.up hb5 SA.out.lt).lt
      have AR : Hid (Blk (w5.alloc (.cells #[Value.int IntKind.u8 0, Value.int IntKind.u8 0, Value.int IntKind.u8 0, Value.int IntKind.u8 0, Value.int IntKind.u8 0, Value.int IntKind.u8 0, Value.int IntKind.u8 0, Value.int IntKind.u8 0] 51)) kr ((p8 ++ rf).map b8)) := (SR.out.up hb5 SR.out.lt).up y1 (SR.out.up hb5 SR.out.lt).lt
      have AB : Hid (Below w.heap.size w (w5.alloc (.cells #[Value.int IntKind.u8 0, Value.int IntKind.u8 0, Value.int IntKind.u8 0, Value.int IntKind.u8 0, Value.int IntKind.u8 0, Value.int IntKind.u8 0, Value.int IntKind.u8 0, Value.int IntKind.u8 0] 51))) := (C1.out.trans (hb5.mono C1.out.size)).trans (y1.mono (C1.out.trans (hb5.mono C1.out.size)).size)
      have TA : Hid ((w5.alloc (.cells #[Value.int IntKind.u8 0, Value.int IntKind.u8 0, Value.int IntKind.u8 0, Value.int IntKind.u8 0, Value.int IntKind.u8 0, Value.int IntKind.u8 0, Value.int IntKind.u8 0, Value.int IntKind.u8 0] 51)).there w5.heap.size 0 (a6.map b8).length) := A0.out.there (by rw [List.length_map, zB_length, A6.out]; decide)
      have KM0 : Hid (ka < w5.heap.size) := (SA.out.up hb5 SA.out.lt).lt
      clear hb5 y0 y1 SA SR C1 MK1
      go_wp2_with (first | simp only [zero_e8] | refine wp_store_eq rfl 51 (.tmp 12) (.tmp 60) rfl w5.heap.size 0 (a6.map b8) rfl rfl TA.out (info_n info_e8 a6 A6.out) (one_b8 _) ?_)
      intro w6 hw6
      obtain ⟨km, hkm⟩ : ∃ km, km = w5.heap.size := ⟨_, rfl⟩
      rw [← hkm] at A0 hw6 KM0 ⊢
      have VM : Hid (Blk w6 km (a6.map b8)) := by rw [hw6.out]; exact A0.out.put (by rw [List.length_map, zB_length, A6.out])
      have VA : Hid (Blk w6 ka (a.map b8)) := by rw [hw6.out]; exact AA.out.apart (by have := KM0.out; omega)
      have VR : Hid (Blk w6 kr ((p8 ++ rf).map b8)) := by rw [hw6.out]; exact AR.out.apart (by have := KM0.out; have := KR.out; omega)
      have VB : Hid (Below w.heap.size w w6) := by rw [hw6.out]; exact below_setCells _ _ _ AB.out (by have := KM0.out; have := KR.out; omega)
      clear hw6 A0 AA AR AB TA hkm
      by_cases h6 : a = a6
      · have SM : Hid (∀ W, By W (.slice (some ⟨ka, 0, none⟩) 8 8) a → By W (.slice (some ⟨km, 0, none⟩) 8 8) a6 → Calls Try.prog 33 #[.slice (some ⟨ka, 0, none⟩) 8 8, .slice (some ⟨km, 0, none⟩) 8 8] W fun e w' => e = .returned (.bool true) ∧ Below W.heap.size W w') := fun W h1 h2 => by
          have h := SMF.out W h1 km h2
          rwa [decide_eq_true h6] at h
        have RV : Hid (RES = some rf) := FINs.out h6
        clear SMF FINs FINn h6
        go_wp2_with fail
        refine wp_region_up (by kernel_rfl) (by kernel_rfl) (fun U hU f hf hcl => ?_)
        have YA : Hid (∀ m, By (f m) (.slice (some ⟨ka, 0, none⟩) 8 8) a) := fun m => By.of_blk (VA.out.up (hf m).out VA.out.lt) AO.out.1
        have YM : Hid (∀ m, By (f m) (.slice (some ⟨km, 0, none⟩) 8 8) a6) := fun m => By.of_blk (VM.out.up (hf m).out VM.out.lt) A6.out
        have SF : Hid (∀ m, Calls Try.prog 33 #[.slice (some ⟨ka, 0, none⟩) 8 8, .slice (some ⟨km, 0, none⟩) 8 8] (f m) fun e w' => e = .returned (.bool true) ∧ Below (f m).heap.size (f m) w') := fun m => SM.out (f m) (YA.out m) (YM.out m)
        repeat (first | (refine quiet_allE rfl (.tmp 7) rfl ka rfl ?_; simp only [Act.put, List.setIfInBounds_toArray, List.set_cons_succ, List.set_cons_zero]) | (refine quiet_allE rfl (.tmp 12) rfl km rfl ?_; simp only [Act.put, List.setIfInBounds_toArray, List.set_cons_succ, List.set_cons_zero]) | go_big_quiet_step (first | (go_at_call 33; exact (SF.out _).mono fun e w'' ⟨he, hb⟩ => ⟨he, hcl.out _ _ hb⟩)))
        refine wpQuiet_nil ?_
        intro m
        have hb9 := (hf m).out
        generalize f m = w9 at hb9 ⊢
        have R9 : Hid (Blk w9 kr ((p8 ++ rf).map b8)) := VR.out.up hb9 VR.out.lt
        have B9 : Hid (Below w.heap.size w w9) := VB.out.trans (hb9.mono VB.out.size)
        clear hb9 hf hcl YA YM SF SM VA VM VR VB
        have R8 : Hid (w9.rangeAt kr 8 (rf.map b8)) := by
          have h := R9.out
          rw [List.map_append] at h
          have h2 : Blk w9 kr (p8.map b8 ++ (rf.map b8 ++ [])) := by rw [List.append_nil]; exact h
          exact h2.range (by rw [List.length_map, P8.out.1])
        have JN : Hid _ := wjoined_fun rf n RL.out (by have := NB.out; omega) kr 8 n (Nat.le_refl _) w9 R8.out
        clear R8 R9
        go_wp2_with fail
        refine Calls.mono JN.out ?_
        rintro e wa ⟨uv, rfl, ya, hba⟩
        have YV : Hid _ := ya
        have BA : Hid (Below w.heap.size w wa) := B9.out.trans (hba.mono B9.out.size)
        clear ya hba B9 JN
        go_wp2_with fail
        go_ret2
        exact ⟨_, by rw [RZ.out, RV.out]; rfl, by rw [RX.out, RV.out]; exact YV.out, BA.out⟩
      · have SM : Hid (∀ W, By W (.slice (some ⟨ka, 0, none⟩) 8 8) a → By W (.slice (some ⟨km, 0, none⟩) 8 8) a6 → Calls Try.prog 33 #[.slice (some ⟨ka, 0, none⟩) 8 8, .slice (some ⟨km, 0, none⟩) 8 8] W fun e w' => e = .returned (.bool false) ∧ Below W.heap.size W w') := fun W h1 h2 => by
          have h := SMF.out W h1 km h2
          rwa [decide_eq_false h6] at h
        have RV : Hid (RES = none) := FINn.out h6
        clear SMF FINs FINn h6
        go_wp2_with fail
        refine wp_region_up (by kernel_rfl) (by kernel_rfl) (fun U hU f hf hcl => ?_)
        have YA : Hid (∀ m, By (f m) (.slice (some ⟨ka, 0, none⟩) 8 8) a) := fun m => By.of_blk (VA.out.up (hf m).out VA.out.lt) AO.out.1
        have YM : Hid (∀ m, By (f m) (.slice (some ⟨km, 0, none⟩) 8 8) a6) := fun m => By.of_blk (VM.out.up (hf m).out VM.out.lt) A6.out
        have SF : Hid (∀ m, Calls Try.prog 33 #[.slice (some ⟨ka, 0, none⟩) 8 8, .slice (some ⟨km, 0, none⟩) 8 8] (f m) fun e w' => e = .returned (.bool false) ∧ Below (f m).heap.size (f m) w') := fun m => SM.out (f m) (YA.out m) (YM.out m)
        repeat (first | (refine quiet_allE rfl (.tmp 7) rfl ka rfl ?_; simp only [Act.put, List.setIfInBounds_toArray, List.set_cons_succ, List.set_cons_zero]) | (refine quiet_allE rfl (.tmp 12) rfl km rfl ?_; simp only [Act.put, List.setIfInBounds_toArray, List.set_cons_succ, List.set_cons_zero]) | go_big_quiet_step (first | (go_at_call 33; exact (SF.out _).mono fun e w'' ⟨he, hb⟩ => ⟨he, hcl.out _ _ hb⟩)))
        refine wpQuiet_nil ?_
        intro m
        have hb9 := (hf m).out
        generalize f m = w9 at hb9 ⊢
        have R9 : Hid (Blk w9 kr ((p8 ++ rf).map b8)) := VR.out.up hb9 VR.out.lt
        have B9 : Hid (Below w.heap.size w w9) := VB.out.trans (hb9.mono VB.out.size)
        clear hb9 hf hcl YA YM SF SM VA VM VR VB
        go_wp2_with fail
        go_ret2
        exact ⟨_, by rw [RZ.out, RV.out]; rfl, by rw [RX.out, RV.out]; exact By.nil _, B9.out⟩
end Go.Proofs.Ytejabkmhpiabnaa
