/- Package rule, as it landed: Valid, object; weaker; what may not be done to an element; walk. -/
import Derived.Test.YtepaapiflkkghaaQRlC
import Derived.Test.YtepaapiflkkghaaQAtCkToAtCh
import Derived.Test.YtepaapiflkkghaaQDMathToUpMS
import Derived.Test.YtepaapiflkkghaaQYcToYo
namespace Go.Proofs.Ytepaapiflkkghaa
open Go.RowKit
attribute [local go_sem] World.cell?_alloc_some cell_alloc2 cell_alloc3 cell_alloc4 frozen?_alloc_cells frozen_out
attribute [local go_sem] YieldsP execOp
attribute [local simp] MP.eq_p
set_option linter.unusedSimpArgs false
def valF (f : Nat) (t q z s : Bool) : Bool := decide (f = 0) && (t && (q && (z && s)))
set_option maxRecDepth 20000 in
set_option maxHeartbeats 2000000 in
theorem validL_walk (v : Value) (f c n : Nat) (t q z s : Bool) (xs : List Nat) (hn : xs.length = n) (w : World)
    (C1 : Calls Try.prog 33 #[v] w fun e w' => e = .returned (.int .i64 ((f : Nat) : Int)) ∧ Below w.heap.size w w')
    (L1 : Hid (f = 0 → ∀ W, Below w.heap.size w W → Calls Try.prog 34 #[v] W fun e w' => e = .returned (.tuple #[.int .u8 (c : Int), .bool t]) ∧ Below W.heap.size W w'))
    (K1 : Hid (∀ W, t = true → Calls Try.prog 13 #[.int .u8 (c : Int)] W fun e w' => (∃ u, e = .returned u ∧ Ki w' u (kndN c 18)) ∧ Below W.heap.size W w'))
    (E1 : Hid (∀ W u, Below w.heap.size w W → Ki W u (kndN c 18) → Calls Try.prog 51 #[v, u, .func (.func 50) #[] #[]] W fun e w' => e = .returned (.bool q) ∧ Below W.heap.size W w'))
    (G1 : Hid (∀ W, Below w.heap.size w W → Calls Try.prog 29 #[v, .int .i64 4] W fun e w' => (∃ u d, e = .returned (.tuple #[u, .bool d]) ∧ By w' u xs) ∧ Below W.heap.size W w'))
    (Z1 : Hid (∀ W, f = 0 → t = true → Calls Try.prog 38 #[.int .u8 (c : Int), .int .i64 (n : Int)] W fun e w' => e = .returned (.bool z) ∧ Below W.heap.size W w'))
    (S1 : Hid (∀ W, Below w.heap.size w W → Calls Try.prog 52 #[v] W fun e w' => e = .returned (.bool s) ∧ Below W.heap.size W w')) :
    Calls Try.prog 14 #[v] w fun e w' => e = .returned (.bool (valF f t q z s)) ∧ Below w.heap.size w w' := by
  have HN : Hid (xs.length = n) := hn
  clear hn
  by_cases f0 : f = 0
  · have HF : Hid (f = 0) := f0
    subst f0
    go_enter Try.func14, Try.ntmps14
    go_wp2_with fail
    refine C1.mono ?_
    rintro e w1 ⟨rfl, hb⟩
    have b1 : Hid (Below w.heap.size w w1) := hb
    clear hb C1
    go_wp2_with fail
    refine (L1.out trivial _ b1.out).mono ?_
    rintro e w2 ⟨rfl, hb⟩
    have b2 : Hid (Below w.heap.size w w2) := b1.out.trans (hb.mono b1.out.size)
    clear hb b1 L1
    cases t with
    | false =>
      go_wp2_with fail
      go_ret
      exact ⟨rfl, b2.out⟩
    | true =>
      go_wp2_with fail
      refine (K1.out _ trivial).mono ?_
      rintro e w3 ⟨⟨u, rfl, hu⟩, hb⟩
      have b3 : Hid (Below w.heap.size w w3) := b2.out.trans (hb.mono b2.out.size)
      have E2 := E1.out w3 u b3.out hu
      clear hb b2 hu E1
      go_wp2_with fail
      refine E2.mono ?_
      rintro e w4 ⟨rfl, hb⟩
      have b4 : Hid (Below w.heap.size w w4) := b3.out.trans (hb.mono b3.out.size)
      clear hb b3 E2
      cases q with
      | false =>
        go_wp2_with fail
        go_ret
        exact ⟨rfl, b4.out⟩
      | true =>
        go_wp2_with fail
        refine (G1.out _ b4.out).mono ?_
        rintro e w5 ⟨⟨u, d, rfl, hu⟩, hb⟩
        have b5 : Hid (Below w.heap.size w w5) := b4.out.trans (hb.mono b4.out.size)
        obtain ⟨ua, uc, rfl, -⟩ := hu
        rw [HN.out]
        clear hb b4 G1
        go_wp2_with fail
        refine (Z1.out _ trivial trivial).mono ?_
        rintro e w6 ⟨rfl, hb⟩
        have b6 : Hid (Below w.heap.size w w6) := b5.out.trans (hb.mono b5.out.size)
        clear hb b5 Z1
        cases z with
        | false =>
          go_wp2_with fail
          go_ret
          exact ⟨rfl, b6.out⟩
        | true =>
          go_wp2_with fail
          refine (S1.out _ b6.out).mono ?_
          rintro e w7 ⟨rfl, hb⟩
          have b7 : Hid (Below w.heap.size w w7) := b6.out.trans (hb.mono b6.out.size)
          clear hb b6 S1
          go_wp2_with fail
          go_ret
          exact ⟨rfl, b7.out⟩
  · have e1 : ((f : Int) == 0) = false := beq_eq_false_iff_ne.2 (by omega)
    have er : valF f t q z s = false := by
      unfold valF
      rw [decide_eq_false f0]
      rfl
    rw [er]
    clear er f0
    go_enter Try.func14, Try.ntmps14
    go_wp2_with fail
    refine C1.mono ?_
    rintro e w1 ⟨rfl, hb⟩
    have b1 : Hid (Below w.heap.size w w1) := hb
    clear hb C1
    go_wp2_with fail
    go_ret
    exact ⟨rfl, b1.out⟩
/-- Valid. -/
theorem rlValidC : RlValidC := fun v l w lo hs hz h => by -- function 14
  have hcl : ∀ x, fltA l = 0 → getA l 1 = some x → x.length = 1 ∧ 1 ≤ x.getD 0 0 ∧ x.getD 0 0 ≤ 4 := fun x hf e => by
    have hg := ((fltA_zero l).1 hf).2.1
    have := cls_get hg e
    exact ⟨this.1, this.2.2.1, this.2.2.2⟩
  refine (validL_walk v (fltA l) (((getA l 1).getD []).getD 0 0) ((getA l 4).getD []).length (getA l 1).isSome (eqfA l (kndN (((getA l 1).getD []).getD 0 0) 18)) (sizB (((getA l 1).getD []).getD 0 0) ((getA l 4).getD []).length) (souB l) ((getA l 4).getD []) rfl w
    (atCheckC v l w lo h)
    (fun hf W hW => clsO_fun l lo hs hz v W (h.up hW (Nat.le_refl _)) fun x e => by rw [(hcl x hf e).1]; decide)
    (fun W _ => rlKindsC _ W ?_)
    (fun W u hW hu => eqF_fun l _ (Nat.le_trans (kndN_len _ 18) (by decide)) v u W (h.up hW (Nat.le_refl _)) hu)
    (fun W hW => (atGetC v l 4 W lo hs hz (by decide) (by decide) (h.up hW (Nat.le_refl _))).mono fun _ _ ⟨⟨u, he, hu⟩, hb⟩ => ⟨⟨u, _, he, hu⟩, hb⟩)
    (fun W hf ht => ?_)
    (fun W hW => sound_fun l lo hs v W (h.up hW (Nat.le_refl _)))).mono ?_
  · have := getA_lowB lo 1
    generalize (getA l 1).getD [] = ys at *
    match ys, this with
    | [], _ => decide
    | y :: _, hy => exact hy y List.mem_cons_self
  · cases e : getA l 1 with
    | none => rw [e] at ht; cases ht
    | some x =>
      have := hcl x hf e
      exact size_fun _ _ this.2.1 this.2.2 W
  · rintro e w' ⟨rfl, hb⟩
    refine ⟨?_, hb⟩
    by_cases hf : fltA l = 0
    · cases e : getA l 1 with
      | none =>
        rw [val_none e]
        unfold valF
        rw [decide_eq_true hf]
        rfl
      | some x =>
        rw [val_some hf e]
        unfold valF
        rw [decide_eq_true hf]
        rfl
    · unfold valF valA
      rw [decide_eq_false hf]
      rfl
set_option maxHeartbeats 1000000 in
theorem objL_walk (v : Value) (r : Bool) (w : World) (V1 : Calls Try.prog 14 #[v] w fun e w' => e = .returned (.bool r) ∧ Below w.heap.size w w') :
    Calls Try.prog 39 #[v] w fun e w' => e = .returned (.tuple #[if r = true then v else .slice none 0 0, .int .i64 (((if r = true then 0 else 12) : Nat) : Int)]) ∧ Below w.heap.size w w' := by
  cases r with
  | true =>
    rw [if_pos rfl, if_pos rfl]
    go_enter Try.func39, Try.ntmps39
    go_wp2_with fail
    refine V1.mono ?_
    rintro e w1 ⟨rfl, hb⟩
    have b1 : Hid (Below w.heap.size w w1) := hb
    clear hb V1
    go_wp2_with fail
    go_ret2
    exact ⟨rfl, b1.out⟩
  | false =>
    rw [if_neg (show ¬ false = true by decide), if_neg (show ¬ false = true by decide)]
    go_enter Try.func39, Try.ntmps39
    go_wp2_with fail
    refine V1.mono ?_
    rintro e w1 ⟨rfl, hb⟩
    have b1 : Hid (Below w.heap.size w w1) := hb
    clear hb V1
    go_wp2_with fail
    go_ret2
    exact ⟨rfl, b1.out⟩
/-- object: a list, if it is one. -/
theorem objL_fun (l : List Ar) (lo : lowA l) (hs : l.length ≤ 4611686018427387904) (hz : zedA l) (v : Value) (w : World) (h : Ats w v l) :
    Calls Try.prog 39 #[v] w fun e w' => (∃ r, e = .returned (.tuple #[r, .int .i64 (((if valA l = true then 0 else 12) : Nat) : Int)]) ∧ Ats w' r (if valA l = true then l else [])) ∧ Below w.heap.size w w' := by
  refine (objL_walk v _ w (rlValidC v l w lo hs hz h)).mono ?_
  rintro e w' ⟨rfl, hb⟩
  refine ⟨⟨_, rfl, ?_⟩, hb⟩
  cases valA l with
  | true => exact h.up hb (Nat.le_refl _)
  | false => exact Ats.nil _
def MP.ats (l : List Ar) : MP := ⟨fun v w => Ats w v l, fun h hb => h.up hb (Nat.le_refl _)⟩
theorem yields_bsA {o : Oper} {a : Act} {w : World} (x : Operand) (ho : o.op = .buildSlice 22 1 #[(0, x)]) (y : Ar) (d : Option Addr) (n c : Nat) (hx : a.eval x = .agg #[.int .i64 y.k, .slice d n c]) (hu : By w (.slice d n c) y.v) : YieldsP Try.prog o a w (MP.ats [y]).p := by
  have e : (execOp a.eval o).run Try.prog w = .ok (.value (.slice (some ⟨w.heap.size, 0, none⟩) 1 1)) (w.alloc (.cells #[.int .i64 y.k, .slice d n c] 64)) := by
    have e1 : (Instr.buildSlice 22 1 ((#[(0, x)] : Array (Nat × Operand)).map fun q => (q.fst, a.eval q.snd))).run Try.prog w = .ok (.slice (some ⟨w.heap.size, 0, none⟩) 1 1) (w.alloc (.cells #[.int .i64 y.k, .slice d n c] 64)) := by
      simpa [hx] using run_bsA y.k d n c w
    simp only [execOp, ho, Sem.run_bind, e1, Result.andThen_ok, Sem.run_pure]
  have s1 : Kn (w.alloc (.cells #[.int .i64 y.k, .slice d n c] 64)) [(w.heap.size, [.int .i64 y.k, .slice d n c])] := (Kn.nil w).al [.int .i64 y.k, .slice d n c] 64 rfl
  have b1 : Below w.heap.size w (w.alloc (.cells #[.int .i64 y.k, .slice d n c] 64)) := (Below.refl _ _).alloc (Nat.le_refl _) _
  unfold YieldsP
  rw [e]
  exact ⟨ats_one (Kn.get s1 0 0 rfl rfl) (Kn.get s1 0 1 rfl rfl) (hu.up b1 (Nat.le_refl _)), b1⟩
def wkrF (k : Int) (was now : Bool) : Bool := if k = 6 ∨ k = 8 then was && !now else if k = 9 then !was && now else false
set_option maxRecDepth 20000 in
set_option maxHeartbeats 4000000 in
theorem weaker_walk (x : Ar) (xa : Option Addr) (n xc : Nat) (va : Option Addr) (vn vc : Nat) (was now : Bool) (w : World) (U1 : Hid (By w (.slice xa n xc) x.v))
    (I1 : Hid (∀ W, Below w.heap.size w W → Calls Try.prog 28 #[.slice va vn vc, .int .i64 x.k] W fun e w' => e = .returned (.bool was) ∧ Below W.heap.size W w'))
    (I2 : Hid (∀ W u, Below w.heap.size w W → Ats W u [x] → Calls Try.prog 28 #[u, .int .i64 x.k] W fun e w' => e = .returned (.bool now) ∧ Below W.heap.size W w')) :
    Calls Try.prog 65 #[.slice va vn vc, .agg #[.int .i64 x.k, .slice xa n xc]] w fun e w' => e = .returned (.bool (wkrF x.k was now)) ∧ Below w.heap.size w w' := by
  have s1 : Hid (Kn (w.alloc (.cells #[.int .i64 x.k, .slice xa n xc] 64)) [(w.heap.size, [.int .i64 x.k, .slice xa n xc])]) := (Kn.nil w).al [.int .i64 x.k, .slice xa n xc] 64 rfl
  have b1 : Hid (Below w.heap.size w (w.alloc (.cells #[.int .i64 x.k, .slice xa n xc] 64))) := (Below.refl _ _).alloc (Nat.le_refl _) _
  have C0 : Hid (∀ W, Below (w.alloc (.cells #[.int .i64 x.k, .slice xa n xc] 64)).heap.size (w.alloc (.cells #[.int .i64 x.k, .slice xa n xc] 64)) W → W.cell? ⟨w.heap.size, 0, none⟩ = some (.int .i64 x.k)) := fun W hW => Kn.get (s1.out.up hW) 0 0 rfl rfl
  by_cases k6 : x.k = 6
  · rw [show wkrF x.k was now = (was && !now) from if_pos (.inl k6)]
    have e6 : (x.k == 6) = true := beq_iff_eq.2 k6
    clear k6
    go_enter Try.func65, Try.ntmps65
    go_wp2_with fail
    refine wp_region_monoE [MP.eq (.slice va vn vc), MP.eq (.pointer (some ⟨w.heap.size, 0, none⟩)), MP.eq (.int .i64 x.k), MP.eq (.bool was), MP.eq (.agg #[.int .i64 x.k, .slice xa n xc]), MP.ats [x], MP.eq (.pointer (some ⟨w.heap.size, 0, none⟩)), MP.eq (.int .i64 x.k), MP.eq (.bool now), MP.eq (.bool was), MP.eq (.bool now)] (by kernel_rfl) (by kernel_rfl) rfl ?_
    apply Exists.intro
    refine ⟨fun vals => ?_, ?_, fun vals2 w2 hb2 hF => ?_⟩
    · simp only [putsV, dstL, List.length_cons, List.length_nil, Nat.zero_add, Nat.reduceAdd, List.getElem?_cons_zero, List.getElem?_cons_succ, Option.bind_some, Act.put, List.setIfInBounds_toArray, List.set_cons_succ, List.set_cons_zero]
      rfl
    · refine ⟨?_, ?_, ?_, ?_, ?_, ?_, ?_, ?_, ?_, ?_, ?_, trivial⟩
      · intro vals W hW hw hd
        try simp [Region.binds] at hd
        refine ⟨by first | rfl | simp [Region.wanted, yielded, hd], ?_⟩
        simp [go_sem, hd]
        exact Below.refl _ _
      · intro vals W hW hw hd
        try simp [Region.binds] at hd
        refine ⟨by first | rfl | simp [Region.wanted, yielded, hd], ?_⟩
        simp [go_sem, hd]
        exact Below.refl _ _
      · intro vals W hW hw hd
        try simp [Region.binds] at hd
        refine ⟨by first | rfl | simp [Region.wanted, yielded, hd], ?_⟩
        have u0 := C0.out W hW.out
        simp [go_sem, hd, u0]
        exact Below.refl _ _
      · intro vals W hW hw hd
        try simp [Region.binds] at hd
        refine ⟨by first | rfl | simp [Region.wanted, yielded, hd], ?_⟩
        simp [go_sem, hd]
        exact (I1.out W (b1.out.trans (hW.out.mono b1.out.size))).mono fun e w' ⟨he, hb⟩ => ⟨_, he, rfl, hb⟩
      · intro vals W hW hw hd
        try simp [Region.binds] at hd
        refine ⟨by first | rfl | simp [Region.wanted, yielded, hd], ?_⟩
        exact yields_ldR 64 _ rfl w.heap.size 0 (by first | rfl | exact hd) [.int .i64 x.k, .slice xa n xc] _ (Kn.rng (s1.out.up hW.out) 0 rfl) u_attr rfl (info_attr _ _)
      · intro vals W hW hw hd
        try simp [Region.binds] at hd
        refine ⟨by first | rfl | simp [Region.wanted, yielded, hd], ?_⟩
        exact yields_bsA _ rfl x xa n xc (by first | exact hd | exact hd.1 | exact hd.2 | exact hd.2.1 | exact hd.2.2 | exact hd.2.2.1 | exact hd.2.2.2 | exact hd.2.2.2.1 | exact hd.2.2.2.2) (U1.out.up (b1.out.trans (hW.out.mono b1.out.size)) (Nat.le_refl _))
      · intro vals W hW hw hd
        try simp [Region.binds] at hd
        refine ⟨by first | rfl | simp [Region.wanted, yielded, hd], ?_⟩
        simp [go_sem, hd]
        exact Below.refl _ _
      · intro vals W hW hw hd
        try simp [Region.binds] at hd
        refine ⟨by first | rfl | simp [Region.wanted, yielded, hd], ?_⟩
        have u0 := C0.out W hW.out
        simp [go_sem, hd, u0]
        exact Below.refl _ _
      · intro vals W hW hw hd
        try simp [Region.binds] at hd
        refine ⟨by first | rfl | simp [Region.wanted, yielded, hd], ?_⟩
        simp [go_sem, hd]
        exact (I2.out W _ (b1.out.trans (hW.out.mono b1.out.size)) (by first | exact hd | exact hd.1 | exact hd.2 | exact hd.2.1 | exact hd.2.2 | exact hd.2.2.1 | exact hd.2.2.2 | exact hd.2.2.2.1 | exact hd.2.2.2.2)).mono fun e w' ⟨he, hb⟩ => ⟨_, he, rfl, hb⟩
      · intro vals W hW hw hd
        try simp [Region.binds] at hd
        refine ⟨by first | rfl | simp [Region.wanted, yielded, hd], ?_⟩
        simp [go_sem, hd]
        exact Below.refl _ _
      · intro vals W hW hw hd
        try simp [Region.binds] at hd
        refine ⟨by first | rfl | simp [Region.wanted, yielded, hd], ?_⟩
        simp [go_sem, hd]
        exact Below.refl _ _
    obtain ⟨f0, f1, f2, f3, f4, f5, f6, f7, f8, f9, f10, _⟩ := hF
    simp only [MP.eq_p] at f0 f1 f2 f3 f4 f6 f7 f8 f9 f10
    have b2 : Hid (Below w.heap.size w w2) := b1.out.trans (hb2.out.mono b1.out.size)
    have c0 := C0.out w2 hb2.out
    rw [f9, f10]
    clear f0 f1 f2 f3 f4 f5 f6 f7 f8 f9 f10 hb2 s1 b1 U1 I1 I2 C0
    cases was with
    | false =>
      cases now with
      | false =>
        go_wp2_with fail
        go_ret
        exact ⟨rfl, b2.out⟩
      | true =>
        go_wp2_with fail
        go_ret
        exact ⟨rfl, b2.out⟩
    | true =>
      cases now with
      | false =>
        go_wp2_with fail
        go_ret
        exact ⟨rfl, b2.out⟩
      | true =>
        go_wp2_with fail
        go_ret
        exact ⟨rfl, b2.out⟩
  by_cases k8 : x.k = 8
  · rw [show wkrF x.k was now = (was && !now) from if_pos (.inr k8)]
    have e6 : (x.k == 6) = false := beq_eq_false_iff_ne.2 k6
    have e8 : (x.k == 8) = true := beq_iff_eq.2 k8
    clear k6 k8
    go_enter Try.func65, Try.ntmps65
    go_wp2_with fail
    refine wp_region_monoE [MP.eq (.slice va vn vc), MP.eq (.pointer (some ⟨w.heap.size, 0, none⟩)), MP.eq (.int .i64 x.k), MP.eq (.bool was), MP.eq (.agg #[.int .i64 x.k, .slice xa n xc]), MP.ats [x], MP.eq (.pointer (some ⟨w.heap.size, 0, none⟩)), MP.eq (.int .i64 x.k), MP.eq (.bool now), MP.eq (.bool was), MP.eq (.bool now)] (by kernel_rfl) (by kernel_rfl) rfl ?_
    apply Exists.intro
    refine ⟨fun vals => ?_, ?_, fun vals2 w2 hb2 hF => ?_⟩
    · simp only [putsV, dstL, List.length_cons, List.length_nil, Nat.zero_add, Nat.reduceAdd, List.getElem?_cons_zero, List.getElem?_cons_succ, Option.bind_some, Act.put, List.setIfInBounds_toArray, List.set_cons_succ, List.set_cons_zero]
      rfl
    · refine ⟨?_, ?_, ?_, ?_, ?_, ?_, ?_, ?_, ?_, ?_, ?_, trivial⟩
      · intro vals W hW hw hd
        try simp [Region.binds] at hd
        refine ⟨by first | rfl | simp [Region.wanted, yielded, hd], ?_⟩
        simp [go_sem, hd]
        exact Below.refl _ _
      · intro vals W hW hw hd
        try simp [Region.binds] at hd
        refine ⟨by first | rfl | simp [Region.wanted, yielded, hd], ?_⟩
        simp [go_sem, hd]
        exact Below.refl _ _
      · intro vals W hW hw hd
        try simp [Region.binds] at hd
        refine ⟨by first | rfl | simp [Region.wanted, yielded, hd], ?_⟩
        have u0 := C0.out W hW.out
        simp [go_sem, hd, u0]
        exact Below.refl _ _
      · intro vals W hW hw hd
        try simp [Region.binds] at hd
        refine ⟨by first | rfl | simp [Region.wanted, yielded, hd], ?_⟩
        simp [go_sem, hd]
        exact (I1.out W (b1.out.trans (hW.out.mono b1.out.size))).mono fun e w' ⟨he, hb⟩ => ⟨_, he, rfl, hb⟩
      · intro vals W hW hw hd
        try simp [Region.binds] at hd
        refine ⟨by first | rfl | simp [Region.wanted, yielded, hd], ?_⟩
        exact yields_ldR 64 _ rfl w.heap.size 0 (by first | rfl | exact hd) [.int .i64 x.k, .slice xa n xc] _ (Kn.rng (s1.out.up hW.out) 0 rfl) u_attr rfl (info_attr _ _)
      · intro vals W hW hw hd
        try simp [Region.binds] at hd
        refine ⟨by first | rfl | simp [Region.wanted, yielded, hd], ?_⟩
        exact yields_bsA _ rfl x xa n xc (by first | exact hd | exact hd.1 | exact hd.2 | exact hd.2.1 | exact hd.2.2 | exact hd.2.2.1 | exact hd.2.2.2 | exact hd.2.2.2.1 | exact hd.2.2.2.2) (U1.out.up (b1.out.trans (hW.out.mono b1.out.size)) (Nat.le_refl _))
      · intro vals W hW hw hd
        try simp [Region.binds] at hd
        refine ⟨by first | rfl | simp [Region.wanted, yielded, hd], ?_⟩
        simp [go_sem, hd]
        exact Below.refl _ _
      · intro vals W hW hw hd
        try simp [Region.binds] at hd
        refine ⟨by first | rfl | simp [Region.wanted, yielded, hd], ?_⟩
        have u0 := C0.out W hW.out
        simp [go_sem, hd, u0]
        exact Below.refl _ _
      · intro vals W hW hw hd
        try simp [Region.binds] at hd
        refine ⟨by first | rfl | simp [Region.wanted, yielded, hd], ?_⟩
        simp [go_sem, hd]
        exact (I2.out W _ (b1.out.trans (hW.out.mono b1.out.size)) (by first | exact hd | exact hd.1 | exact hd.2 | exact hd.2.1 | exact hd.2.2 | exact hd.2.2.1 | exact hd.2.2.2 | exact hd.2.2.2.1 | exact hd.2.2.2.2)).mono fun e w' ⟨he, hb⟩ => ⟨_, he, rfl, hb⟩
      · intro vals W hW hw hd
        try simp [Region.binds] at hd
        refine ⟨by first | rfl | simp [Region.wanted, yielded, hd], ?_⟩
        simp [go_sem, hd]
        exact Below.refl _ _
      · intro vals W hW hw hd
        try simp [Region.binds] at hd
        refine ⟨by first | rfl | simp [Region.wanted, yielded, hd], ?_⟩
        simp [go_sem, hd]
        exact Below.refl _ _
    obtain ⟨f0, f1, f2, f3, f4, f5, f6, f7, f8, f9, f10, _⟩ := hF
    simp only [MP.eq_p] at f0 f1 f2 f3 f4 f6 f7 f8 f9 f10
    have b2 : Hid (Below w.heap.size w w2) := b1.out.trans (hb2.out.mono b1.out.size)
    have c0 := C0.out w2 hb2.out
    rw [f9, f10]
    clear f0 f1 f2 f3 f4 f5 f6 f7 f8 f9 f10 hb2 s1 b1 U1 I1 I2 C0
    cases was with
    | false =>
      cases now with
      | false =>
        go_wp2_with fail
        go_ret
        exact ⟨rfl, b2.out⟩
      | true =>
        go_wp2_with fail
        go_ret
        exact ⟨rfl, b2.out⟩
    | true =>
      cases now with
      | false =>
        go_wp2_with fail
        go_ret
        exact ⟨rfl, b2.out⟩
      | true =>
        go_wp2_with fail
        go_ret
        exact ⟨rfl, b2.out⟩
  by_cases k9 : x.k = 9
  · rw [show wkrF x.k was now = (!was && now) by unfold wkrF; rw [if_neg (by omega), if_pos k9]]
    have e6 : (x.k == 6) = false := beq_eq_false_iff_ne.2 k6
    have e8 : (x.k == 8) = false := beq_eq_false_iff_ne.2 k8
    have e9 : (x.k == 9) = true := beq_iff_eq.2 k9
    clear k6 k8 k9
    go_enter Try.func65, Try.ntmps65
    go_wp2_with fail
    refine wp_region_monoE [MP.eq (.slice va vn vc), MP.eq (.pointer (some ⟨w.heap.size, 0, none⟩)), MP.eq (.int .i64 x.k), MP.eq (.bool was), MP.eq (.agg #[.int .i64 x.k, .slice xa n xc]), MP.ats [x], MP.eq (.pointer (some ⟨w.heap.size, 0, none⟩)), MP.eq (.int .i64 x.k), MP.eq (.bool now), MP.eq (.bool was), MP.eq (.bool now)] (by kernel_rfl) (by kernel_rfl) rfl ?_
    apply Exists.intro
    refine ⟨fun vals => ?_, ?_, fun vals2 w2 hb2 hF => ?_⟩
    · simp only [putsV, dstL, List.length_cons, List.length_nil, Nat.zero_add, Nat.reduceAdd, List.getElem?_cons_zero, List.getElem?_cons_succ, Option.bind_some, Act.put, List.setIfInBounds_toArray, List.set_cons_succ, List.set_cons_zero]
      rfl
    · refine ⟨?_, ?_, ?_, ?_, ?_, ?_, ?_, ?_, ?_, ?_, ?_, trivial⟩
      · intro vals W hW hw hd
        try simp [Region.binds] at hd
        refine ⟨by first | rfl | simp [Region.wanted, yielded, hd], ?_⟩
        simp [go_sem, hd]
        exact Below.refl _ _
      · intro vals W hW hw hd
        try simp [Region.binds] at hd
        refine ⟨by first | rfl | simp [Region.wanted, yielded, hd], ?_⟩
        simp [go_sem, hd]
        exact Below.refl _ _
      · intro vals W hW hw hd
        try simp [Region.binds] at hd
        refine ⟨by first | rfl | simp [Region.wanted, yielded, hd], ?_⟩
        have u0 := C0.out W hW.out
        simp [go_sem, hd, u0]
        exact Below.refl _ _
      · intro vals W hW hw hd
        try simp [Region.binds] at hd
        refine ⟨by first | rfl | simp [Region.wanted, yielded, hd], ?_⟩
        simp [go_sem, hd]
        exact (I1.out W (b1.out.trans (hW.out.mono b1.out.size))).mono fun e w' ⟨he, hb⟩ => ⟨_, he, rfl, hb⟩
      · intro vals W hW hw hd
        try simp [Region.binds] at hd
        refine ⟨by first | rfl | simp [Region.wanted, yielded, hd], ?_⟩
        exact yields_ldR 64 _ rfl w.heap.size 0 (by first | rfl | exact hd) [.int .i64 x.k, .slice xa n xc] _ (Kn.rng (s1.out.up hW.out) 0 rfl) u_attr rfl (info_attr _ _)
      · intro vals W hW hw hd
        try simp [Region.binds] at hd
        refine ⟨by first | rfl | simp [Region.wanted, yielded, hd], ?_⟩
        exact yields_bsA _ rfl x xa n xc (by first | exact hd | exact hd.1 | exact hd.2 | exact hd.2.1 | exact hd.2.2 | exact hd.2.2.1 | exact hd.2.2.2 | exact hd.2.2.2.1 | exact hd.2.2.2.2) (U1.out.up (b1.out.trans (hW.out.mono b1.out.size)) (Nat.le_refl _))
      · intro vals W hW hw hd
        try simp [Region.binds] at hd
        refine ⟨by first | rfl | simp [Region.wanted, yielded, hd], ?_⟩
        simp [go_sem, hd]
        exact Below.refl _ _
      · intro vals W hW hw hd
        try simp [Region.binds] at hd
        refine ⟨by first | rfl | simp [Region.wanted, yielded, hd], ?_⟩
        have u0 := C0.out W hW.out
        simp [go_sem, hd, u0]
        exact Below.refl _ _
      · intro vals W hW hw hd
        try simp [Region.binds] at hd
        refine ⟨by first | rfl | simp [Region.wanted, yielded, hd], ?_⟩
        simp [go_sem, hd]
        exact (I2.out W _ (b1.out.trans (hW.out.mono b1.out.size)) (by first | exact hd | exact hd.1 | exact hd.2 | exact hd.2.1 | exact hd.2.2 | exact hd.2.2.1 | exact hd.2.2.2 | exact hd.2.2.2.1 | exact hd.2.2.2.2)).mono fun e w' ⟨he, hb⟩ => ⟨_, he, rfl, hb⟩
      · intro vals W hW hw hd
        try simp [Region.binds] at hd
        refine ⟨by first | rfl | simp [Region.wanted, yielded, hd], ?_⟩
        simp [go_sem, hd]
        exact Below.refl _ _
      · intro vals W hW hw hd
        try simp [Region.binds] at hd
        refine ⟨by first | rfl | simp [Region.wanted, yielded, hd], ?_⟩
        simp [go_sem, hd]
        exact Below.refl _ _
    obtain ⟨f0, f1, f2, f3, f4, f5, f6, f7, f8, f9, f10, _⟩ := hF
    simp only [MP.eq_p] at f0 f1 f2 f3 f4 f6 f7 f8 f9 f10
    have b2 : Hid (Below w.heap.size w w2) := b1.out.trans (hb2.out.mono b1.out.size)
    have c0 := C0.out w2 hb2.out
    rw [f9, f10]
    clear f0 f1 f2 f3 f4 f5 f6 f7 f8 f9 f10 hb2 s1 b1 U1 I1 I2 C0
    cases was with
    | false =>
      cases now with
      | false =>
        go_wp2_with fail
        go_ret
        exact ⟨rfl, b2.out⟩
      | true =>
        go_wp2_with fail
        go_ret
        exact ⟨rfl, b2.out⟩
    | true =>
      cases now with
      | false =>
        go_wp2_with fail
        go_ret
        exact ⟨rfl, b2.out⟩
      | true =>
        go_wp2_with fail
        go_ret
        exact ⟨rfl, b2.out⟩
  · rw [show wkrF x.k was now = false by unfold wkrF; rw [if_neg (by omega), if_neg k9]]
    have e6 : (x.k == 6) = false := beq_eq_false_iff_ne.2 k6
    have e8 : (x.k == 8) = false := beq_eq_false_iff_ne.2 k8
    have e9 : (x.k == 9) = false := beq_eq_false_iff_ne.2 k9
    clear k6 k8 k9
    go_enter Try.func65, Try.ntmps65
    go_wp2_with fail
    refine wp_region_monoE [MP.eq (.slice va vn vc), MP.eq (.pointer (some ⟨w.heap.size, 0, none⟩)), MP.eq (.int .i64 x.k), MP.eq (.bool was), MP.eq (.agg #[.int .i64 x.k, .slice xa n xc]), MP.ats [x], MP.eq (.pointer (some ⟨w.heap.size, 0, none⟩)), MP.eq (.int .i64 x.k), MP.eq (.bool now), MP.eq (.bool was), MP.eq (.bool now)] (by kernel_rfl) (by kernel_rfl) rfl ?_
    apply Exists.intro
    refine ⟨fun vals => ?_, ?_, fun vals2 w2 hb2 hF => ?_⟩
    · simp only [putsV, dstL, List.length_cons, List.length_nil, Nat.zero_add, Nat.reduceAdd, List.getElem?_cons_zero, List.getElem?_cons_succ, Option.bind_some, Act.put, List.setIfInBounds_toArray, List.set_cons_succ, List.set_cons_zero]
      rfl
    · refine ⟨?_, ?_, ?_, ?_, ?_, ?_, ?_, ?_, ?_, ?_, ?_, trivial⟩
      · intro vals W hW hw hd
        try simp [Region.binds] at hd
        refine ⟨by first | rfl | simp [Region.wanted, yielded, hd], ?_⟩
        simp [go_sem, hd]
        exact Below.refl _ _
      · intro vals W hW hw hd
        try simp [Region.binds] at hd
        refine ⟨by first | rfl | simp [Region.wanted, yielded, hd], ?_⟩
        simp [go_sem, hd]
        exact Below.refl _ _
      · intro vals W hW hw hd
        try simp [Region.binds] at hd
        refine ⟨by first | rfl | simp [Region.wanted, yielded, hd], ?_⟩
        have u0 := C0.out W hW.out
        simp [go_sem, hd, u0]
        exact Below.refl _ _
      · intro vals W hW hw hd
        try simp [Region.binds] at hd
        refine ⟨by first | rfl | simp [Region.wanted, yielded, hd], ?_⟩
        simp [go_sem, hd]
        exact (I1.out W (b1.out.trans (hW.out.mono b1.out.size))).mono fun e w' ⟨he, hb⟩ => ⟨_, he, rfl, hb⟩
      · intro vals W hW hw hd
        try simp [Region.binds] at hd
        refine ⟨by first | rfl | simp [Region.wanted, yielded, hd], ?_⟩
        exact yields_ldR 64 _ rfl w.heap.size 0 (by first | rfl | exact hd) [.int .i64 x.k, .slice xa n xc] _ (Kn.rng (s1.out.up hW.out) 0 rfl) u_attr rfl (info_attr _ _)
      · intro vals W hW hw hd
        try simp [Region.binds] at hd
        refine ⟨by first | rfl | simp [Region.wanted, yielded, hd], ?_⟩
        exact yields_bsA _ rfl x xa n xc (by first | exact hd | exact hd.1 | exact hd.2 | exact hd.2.1 | exact hd.2.2 | exact hd.2.2.1 | exact hd.2.2.2 | exact hd.2.2.2.1 | exact hd.2.2.2.2) (U1.out.up (b1.out.trans (hW.out.mono b1.out.size)) (Nat.le_refl _))
      · intro vals W hW hw hd
        try simp [Region.binds] at hd
        refine ⟨by first | rfl | simp [Region.wanted, yielded, hd], ?_⟩
        simp [go_sem, hd]
        exact Below.refl _ _
      · intro vals W hW hw hd
        try simp [Region.binds] at hd
        refine ⟨by first | rfl | simp [Region.wanted, yielded, hd], ?_⟩
        have u0 := C0.out W hW.out
        simp [go_sem, hd, u0]
        exact Below.refl _ _
      · intro vals W hW hw hd
        try simp [Region.binds] at hd
        refine ⟨by first | rfl | simp [Region.wanted, yielded, hd], ?_⟩
        simp [go_sem, hd]
        exact (I2.out W _ (b1.out.trans (hW.out.mono b1.out.size)) (by first | exact hd | exact hd.1 | exact hd.2 | exact hd.2.1 | exact hd.2.2 | exact hd.2.2.1 | exact hd.2.2.2 | exact hd.2.2.2.1 | exact hd.2.2.2.2)).mono fun e w' ⟨he, hb⟩ => ⟨_, he, rfl, hb⟩
      · intro vals W hW hw hd
        try simp [Region.binds] at hd
        refine ⟨by first | rfl | simp [Region.wanted, yielded, hd], ?_⟩
        simp [go_sem, hd]
        exact Below.refl _ _
      · intro vals W hW hw hd
        try simp [Region.binds] at hd
        refine ⟨by first | rfl | simp [Region.wanted, yielded, hd], ?_⟩
        simp [go_sem, hd]
        exact Below.refl _ _
    obtain ⟨f0, f1, f2, f3, f4, f5, f6, f7, f8, f9, f10, _⟩ := hF
    simp only [MP.eq_p] at f0 f1 f2 f3 f4 f6 f7 f8 f9 f10
    have b2 : Hid (Below w.heap.size w w2) := b1.out.trans (hb2.out.mono b1.out.size)
    have c0 := C0.out w2 hb2.out
    rw [f9, f10]
    clear f0 f1 f2 f3 f4 f5 f6 f7 f8 f9 f10 hb2 s1 b1 U1 I1 I2 C0
    cases was with
    | false =>
      cases now with
      | false =>
        go_wp2_with fail
        go_ret
        exact ⟨rfl, b2.out⟩
      | true =>
        go_wp2_with fail
        go_ret
        exact ⟨rfl, b2.out⟩
    | true =>
      cases now with
      | false =>
        go_wp2_with fail
        go_ret
        exact ⟨rfl, b2.out⟩
      | true =>
        go_wp2_with fail
        go_ret
        exact ⟨rfl, b2.out⟩
/-- weaker. -/
theorem weaker_fun (l : List Ar) (lo : lowA l) (hs : l.length ≤ 4611686018427387904) (x : Ar) (hx : x.ok) (xa : Option Addr) (n xc : Nat) (v : Value) (w : World) (h : Ats w v l) (hu : By w (.slice xa n xc) x.v) :
    Calls Try.prog 65 #[v, .agg #[.int .i64 x.k, .slice xa n xc]] w fun e w' => e = .returned (.bool (wkrA l x)) ∧ Below w.heap.size w w' := by
  obtain ⟨a, c, rfl⟩ := ats_parts h
  exact weaker_walk x xa n xc a _ c _ _ w hu (fun W hW => atIsC _ l x.k W lo hs hx.1.1 hx.1.2 (h.up hW (Nat.le_refl _)))
    fun W u hW hu => atIsC u [x] x.k W (fun y hy => by obtain rfl := List.mem_singleton.1 hy; exact hx) (by simp) hx.1.1 hx.1.2 hu
end Go.Proofs.Ytepaapiflkkghaa
