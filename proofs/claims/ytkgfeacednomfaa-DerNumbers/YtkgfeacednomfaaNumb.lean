/- The contract of der.Number. -/
import Derived.Test.YtkgfeacednomfaaNumM
import Derived.Test.YtkgfeacednomfaaBsMk
import Derived.Test.YtkgfeacednomfaaShift
import Derived.Test.YtkgfeacednomfaaStore
namespace Go.Proofs.Ytkgfeacednomfaa
open Go.RowKit
attribute [local go_sem] World.cell?_alloc_some
set_option linter.unusedSimpArgs false
set_option maxHeartbeats 400000 in
theorem shift_away (x : Nm) (w : World) :
    Calls Try.prog 24 #[N x, .int .i64 (-256)] w fun e w' => e = .returned (N ⟨0, 0, 0, 0⟩) ∧ Below w.heap.size w w' := by
  go_enter Try.func24, Try.ntmps24
  go_wp2_with fail
  refine bodyPost_ret (v := N ⟨0, 0, 0, 0⟩) (by simp (maxDischargeDepth := 8) [results, Try.results24, go_sem]) rfl ⟨rfl, ?_⟩
  exact ((Below.refl _ _).alloc (Nat.le_refl _) _).alloc (by simp) _
theorem Try.szU64 (h : 22 < Try.prog.types.size) : (Try.prog.types[22]'h).size = 1 := by kernel_rfl
attribute [local go_sem] Try.szU64
set_option maxRecDepth 100000 in
/-- The first word of a number. -/
theorem wp_idx {ops : Array Oper} {rest : List Oper} {o : Oper} {a : Act} {Q : Exit → Act → World → Prop} {w : World} (hgd : o.guard = none) (x : Operand)
    (ho : o.op = .index 24 x (.const (.int .i64 0))) (r : Nm) (hx : a.eval x = N r) (hK : wpList Try.prog ops Q rest (a.put o.dst (.int .u64 r.a)) w) : wpList Try.prog ops Q (o :: rest) a w := by
  refine wpList_plain hgd fun K hK2 => ?_
  have e : (execOp a.eval o).run Try.prog w = .ok (.value (.int .u64 r.a)) w := by
    have h1 : (Instr.index 24 (N r) (.int .i64 0)).run Try.prog w = .ok (.int .u64 r.a) w := by
      first | kernel_rfl | rfl
    unfold execOp
    rw [ho]
    show (Instr.index 24 (a.eval x) (.int .i64 0) >>= fun v => pure (Next.value v)).run Try.prog w = _
    rw [hx, Sem.run_bind, h1]
    rfl
  unfold Oper.wp
  rw [e]
  exact hK2 _ _ hK
theorem num_cells {w : World} {k t : Nat} {p q r s : Value} {f : Nat × Nat} (h : w.heap[k]? = some (.cells #[p, q, r, s] t f)) : w.cell? ⟨k, 0, none⟩ = some p ∧ w.cell? ⟨k, 1, none⟩ = some q ∧ w.cell? ⟨k, 2, none⟩ = some r ∧ w.cell? ⟨k, 3, none⟩ = some s := by simp [World.cell?, h]
theorem val_nat {x : Nm} (h : x.ok) : ((x.val.toNat : Nat) : Int) = x.val := Int.toNat_of_nonneg (Nm.val_nonneg h)
theorem M_c : M = ((2 ^ 256 : Nat) : Int) := rfl
theorem nat_lt256 {x : Nm} (h : x.ok) : x.val.toNat < 2 ^ 256 := by
  have := Nm.val_lt h
  rw [← val_nat h, M_c] at this
  exact Int.ofNat_lt.1 this
theorem shift8 (a : Nm) (oa : a.ok) (i : Nat) (hi : i ≤ 32) (z : Int) (hz : z = -8 * (i : Int)) (w : World) :
    Calls Try.prog 24 #[N a, .int .i64 z] w fun e w' => (∃ r : Nm, e = .returned (N r) ∧ 0 ≤ r.a ∧ r.a < 18446744073709551616 ∧ r.a % 256 = ((a.val.toNat / 256 ^ i % 256 : Nat) : Int)) ∧ Below w.heap.size w w' := by
  have key : ∀ Z : Nat, Z = a.val.toNat / 256 ^ i → 0 ≤ (Nm.of (Z : Int)).a ∧ (Nm.of (Z : Int)).a < 18446744073709551616 ∧ (Nm.of (Z : Int)).a % 256 = ((a.val.toNat / 256 ^ i % 256 : Nat) : Int) := by
    intro Z hZ
    rw [← hZ]
    simp only [Nm.of]
    omega
  by_cases h0 : i = 0
  · subst h0
    have := shift_pos a oa 0 (by decide) w
    have e : a.val * 2 ^ 0 % M = ((a.val.toNat : Nat) : Int) := by
      rw [Int.pow_zero, Int.mul_one, Int.emod_eq_of_lt (Nm.val_nonneg oa) (Nm.val_lt oa), val_nat oa]
    rw [e] at this
    have ez : z = ((0 : Nat) : Int) := by omega
    rw [ez]
    exact this.mono fun e w' ⟨h1, h2⟩ => ⟨⟨_, h1, key _ (by simp)⟩, h2⟩
  · by_cases h32 : i = 32
    · subst h32
      have ez : z = -256 := by omega
      rw [ez]
      refine (shift_away a w).mono fun e w' ⟨h1, h2⟩ => ⟨⟨_, h1, by simp, by simp, ?_⟩, h2⟩
      have : a.val.toNat / 256 ^ 32 = 0 := Nat.div_eq_of_lt (by rw [pow256]; exact nat_lt256 oa)
      rw [this]
      rfl
    · have := shift_neg a oa (8 * i) (by omega) (by omega) w
      have e : a.val / 2 ^ (8 * i) = ((a.val.toNat / 256 ^ i : Nat) : Int) := by
        rw [pow256, Int.natCast_ediv, Int.natCast_pow, val_nat oa]
        rfl
      rw [e] at this
      have ez : z = -((8 * i : Nat) : Int) := by omega
      rw [ez]
      exact this.mono fun e w' ⟨h1, h2⟩ => ⟨⟨_, h1, key _ rfl⟩, h2⟩
set_option maxRecDepth 20000 in
set_option maxHeartbeats 2000000 in
theorem number_fun (a : Nm) (oa : a.ok) (w : World) :
    Calls Try.prog 51 #[N a] w fun e w' => (∃ u, e = .returned u ∧ By w' u (numT a.val.toNat)) ∧ Below w.heap.size w w' := by
  obtain ⟨X, hX⟩ : ∃ X, X = a.val.toNat := ⟨_, rfl⟩
  have LX : Hid (lenN X ≤ 256) := by rw [hX]; exact lenN_256 (nat_lt256 oa)
  have LF : Hid _ := len_fun a oa
  have S8 : Hid _ := shift8 a oa
  rw [← hX] at LF S8 ⊢
  obtain ⟨l, hl⟩ : ∃ l, l = lenN X := ⟨_, rfl⟩
  obtain ⟨q, hq⟩ : ∃ q, q = lenN X / 8 := ⟨_, rfl⟩
  have HT : Hid (numT X = dT X (q + 1)) := by rw [hq]; exact numT_dT X
  have l256 : l ≤ 256 := by rw [hl]; exact LX.out
  have lq : (l : Int) / 8 = (q : Int) := by rw [hl, hq]; omega
  have q32 : q ≤ 32 := by have := LX.out; omega
  have q1 : (q : Int) ≤ 32 := by omega
  have q0 : (0 : Int) ≤ (q : Int) := by omega
  rw [← hl] at LF
  clear hl hq hX LX
  go_enter Try.func51, Try.ntmps51
  go_wp2_with fail
  refine (LF.out _).mono ?_
  rintro e w1 ⟨rfl, hb1⟩
  have XB : Hid (w1.heap[w.heap.size]? = some (.cells #[.int .u64 a.a, .int .u64 a.b, .int .u64 a.c, .int .u64 a.d] 24 (0, 0))) := (hb1.block _ (by simp)).trans (heap_alloc_new w _)
  have B1 : Hid (Below w.heap.size w w1) := ((Below.refl _ _).alloc (Nat.le_refl _) _).trans (hb1.mono (by simp))
  clear hb1 LF
  obtain ⟨n, hn⟩ : ∃ n, n = q + 1 := ⟨_, rfl⟩
  have qn : (q : Int) + 1 = (n : Int) := by omega
  have n33 : n ≤ 33 := by omega
  have n1 : (n : Int) ≤ 33 := by omega
  have n0 : (1 : Int) ≤ (n : Int) := by omega
  rw [← hn] at HT
  have HQ : Hid (n = q + 1) := hn
  clear hn
  go_wp2_with (at_make; refine wp_mkB rfl _ _ rfl w1.heap.size n _ _ rfl rfl (by omega) (by omega) (by omega) (Nat.le_refl _) ?_)
  intro w2 o2 hb2
  have O2 : Hid (Ob w2 w1.heap.size (.slice (some ⟨w1.heap.size, 0, none⟩) n n) (List.replicate n 0)) := o2
  have B2 : Hid (Below w1.heap.size w1 w2) := hb2
  clear o2 hb2
  go_wp2_with fail
  go_loopw [12] (fun ix wr => ∃ (k : Nat) (os : List Nat), k ≤ n ∧ ix = .int .i64 k ∧ os.length = n ∧ Hid (∀ j, n - k ≤ j → j < n → os.getD j 0 = X / 256 ^ (n - 1 - j) % 256) ∧ Hid (Ob wr w1.heap.size (.slice (some ⟨w1.heap.size, 0, none⟩) n n) os) ∧ Hid (Below w1.heap.size w1 wr)) (fun ix _ => n - (intOf ix).toNat)
  case atStart => exact ⟨0, List.replicate n 0, by omega, rfl, by simp, (fun j h1 h2 => by omega : ∀ j, n - 0 ≤ j → j < n → (List.replicate n 0).getD j 0 = X / 256 ^ (n - 1 - j) % 256), O2, B2⟩
  case round =>
    clear O2 B2
    obtain ⟨k, os, hk, rfl, hlen, hv, ho, hb⟩ := hrel
    by_cases h1 : k < n
    · have i1 : (k : Int) < (n : Int) := by omega
      have k0 : (0 : Int) ≤ (k : Int) := by omega
      obtain ⟨m, hm⟩ : ∃ m, m = n - 1 - k := ⟨_, rfl⟩
      have e1 : (n : Int) - 1 - (k : Int) = (m : Int) := by omega
      have m0 : (0 : Int) ≤ (m : Int) := by omega
      have m1 : (m : Int) < (n : Int) := by omega
      have XR : Hid (wr.heap[w.heap.size]? = _) := (hb.out.block _ (Array.getElem?_eq_some_iff.1 XB.out).1).trans XB.out
      obtain ⟨f0, f1, f2, f3⟩ := num_cells XR.out
      obtain ⟨z, hz⟩ : ∃ z, z = -8 * (k : Int) := ⟨_, rfl⟩
      have hz2 := hz.symm
      have z0 : z ≤ 0 := by omega
      have z1 : -264 ≤ z := by omega
      have SK : Hid _ := S8.out k (by have := HQ.out; omega) z hz
      have HM : Hid (m = n - 1 - k) := hm
      clear hz hm
      go_wp2_with fail
      refine (SK.out _).mono ?_
      rintro e w3 ⟨⟨r, rfl, r0, r1, r2⟩, hb3⟩
      have O3 : Hid (Ob w3 w1.heap.size (.slice (some ⟨w1.heap.size, 0, none⟩) n n) os) := ho.out.up hb3
      have B3 : Hid (Below w1.heap.size w1 w3) := hb.out.trans (hb3.mono hb.out.size)
      obtain ⟨d3, d4⟩ := Ob.cell O3.out hlen.symm m (by have := HM.out; omega)
      obtain ⟨y, hy⟩ : ∃ y, y = X / 256 ^ k % 256 := ⟨_, rfl⟩
      rw [← hy] at r2
      have HY : Hid (y = X / 256 ^ k % 256) := hy
      clear hb3 ho hb f0 f1 f2 f3 XR SK hy
      go_wp2_with (refine wp_idx rfl (.tmp 24) rfl r rfl ?_)
      go_roundw
      case rel =>
        have SS := Ob.setAt O3.out hlen.symm (Nat.le_refl _) m y _ rfl
        refine ⟨k + 1, os.set m y, by omega, by go_num, by rw [List.length_set]; exact hlen, ?_, SS.1, B3.out.trans SS.2⟩
        refine (fun j hj hj2 => ?_ : ∀ j, n - (k + 1) ≤ j → j < n → (os.set m y).getD j 0 = X / 256 ^ (n - 1 - j) % 256)
        have := HM.out
        by_cases e : j = m
        · subst e
          rw [List.getD_eq_getElem?_getD, List.getElem?_set_self (by omega), Option.getD_some, HY.out, show n - 1 - j = k by omega]
        · rw [List.getD_eq_getElem?_getD, List.getElem?_set_ne (Ne.symm e), ← List.getD_eq_getElem?_getD]
          exact hv.out j (by omega) hj2
      case measure => simp [intOf]; omega
    · have i1 : ¬ (k : Int) < (n : Int) := by omega
      have e : k = n := by omega
      subst e
      have E : Hid (os = dT X k) := by
        have : os = dT X k := by
          apply List.ext_getElem (by rw [hlen, dT_len])
          intro j h1 h2
          have := hv.out j (by omega) (by omega)
          rw [List.getD_eq_getElem?_getD, List.getElem?_eq_getElem h1, Option.getD_some] at this
          rw [this]
          have h3 := dT_get X k j (by omega)
          rw [List.getD_eq_getElem?_getD, List.getElem?_eq_getElem h2, Option.getD_some] at h3
          exact h3.symm
        exact this
      have B4 : Hid (Below w.heap.size w wr) := B1.out.trans (hb.out.mono B1.out.size)
      go_wp2_with fail
      go_ret
      exact ⟨⟨_, rfl, by rw [HT.out, ← E.out]; exact ho.out.by⟩, B4.out⟩
end Go.Proofs.Ytkgfeacednomfaa
