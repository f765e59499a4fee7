/- The contracts of gf.combined, gf.Mix and gf.Unmix; what package gf keeps, as one. -/
import Derived.Test.YtejabkmhpiabnaaGrp11
import Derived.Test.YtejabkmhpiabnaaGrp25
import Derived.Test.YtejabkmhpiabnaaGrp8
namespace Go.Proofs.Ytejabkmhpiabnaa
open Go.RowKit
set_option linter.unusedSimpArgs false
attribute [local go_sem] YieldsP execOp
attribute [local simp] MP.eq_p
set_option maxRecDepth 20000 in
set_option maxHeartbeats 2000000 in
theorem gcomb_fun (c r : List Nat) (hc : c.length = 4) (hr : r.length = 4) (lc : ∀ x ∈ c, x < 256) (lr : ∀ x ∈ r, x < 256) (w : World) :
    Calls Try.prog 53 #[aB c, aB r] w fun e w' => e = .returned (aB (G.colL c r)) ∧ Below w.heap.size w w' := by
  have CL : Hid (∀ i, c.getD i 0 < 256) := getD_low lc
  have RL : Hid (∀ i, r.getD i 0 < 256) := getD_low lr
  have RG : Hid (∀ a b, a < 256 → b < 256 → ∀ W, Calls Try.prog 50 #[b8 a, b8 b] W fun e w' => e = .returned (b8 (G.mul a b)) ∧ Below W.heap.size W w') := fun a b ha hb W => (gmul_fun a b ha hb W).mono fun e w' ⟨he, hw⟩ => ⟨he, by rw [hw]; exact Below.refl _ _⟩
  obtain ⟨f, hf⟩ : ∃ f : Nat → Nat, f = fun i => G.colN c r i 4 := ⟨_, rfl⟩
  obtain ⟨cn, hcn⟩ : ∃ cn : Nat → Nat → Nat, ∀ i k, cn i k = G.colN c r i k := ⟨_, fun _ _ => rfl⟩
  have C0 : Hid (∀ i, cn i 0 = 0) := fun i => by rw [hcn]; rfl
  have CS : Hid (∀ i k, cn i (k + 1) = cn i k ^^^ G.mul (r.getD k 0) (c.getD ((i + k) % 4) 0) ∧ cn i k < 256) := fun i k => ⟨by rw [hcn, hcn]; rfl, by rw [hcn]; exact G.colN_lt (getD_low lr) i k⟩
  have CF : Hid (∀ i, cn i 4 = f i) := fun i => by rw [hcn, hf]
  have FE : Hid ((List.range 4).map f = G.colL c r) := by rw [hf]; exact rfl
  have HC : Hid (c.length = 4) := hc
  have HR : Hid (r.length = 4) := hr
  rw [← FE.out]
  clear hf hcn FE lc lr hc hr
  obtain ⟨x0, x1, x2, x3, x4⟩ := al4 w (c.map b8).toArray (r.map b8).toArray #[Value.int IntKind.u8 0, Value.int IntKind.u8 0, Value.int IntKind.u8 0, Value.int IntKind.u8 0] #[Value.int IntKind.u8 0, Value.int IntKind.u8 0, Value.int IntKind.u8 0, Value.int IntKind.u8 0] 23 23 23 23
  have X0 : Hid (Blk _ w.heap.size (c.map b8)) := x0
  have X1 : Hid (Blk _ (w.heap.size + 1) (r.map b8)) := x1
  have X2 : Hid (Blk _ (w.heap.size + 1 + 1) ((List.replicate 4 0).map b8)) := x2
  rw [show (#[Value.int IntKind.u8 0, Value.int IntKind.u8 0, Value.int IntKind.u8 0, Value.int IntKind.u8 0] : Array Value).toList = (upL f 4 0).map b8 by rw [upL_zero]; rfl] at x3
  have X3 : Hid (Blk _ (w.heap.size + 1 + 1 + 1) ((upL f 4 0).map b8)) := x3
  have X4 : Hid (Below w.heap.size w _) := x4
  clear x0 x1 x2 x3 x4
  go_enter Try.func53, Try.ntmps53
  go_wp2_with fail
  generalize World.alloc (World.alloc (World.alloc (w.alloc _) _) _) _ = w1 at *
  go_loopw [9] (fun i wr => ∃ j : Nat, j ≤ 4 ∧ i = .int .i64 (j : Int) ∧ Hid (Blk wr w.heap.size (c.map b8)) ∧ Hid (Blk wr (w.heap.size + 1) (r.map b8)) ∧ Hid (Blk wr (w.heap.size + 1 + 1) ((List.replicate 4 0).map b8)) ∧ Hid (Blk wr (w.heap.size + 1 + 1 + 1) ((upL f 4 j).map b8)) ∧ Hid (Below w.heap.size w wr)) (fun i _ => 4 - (intOf i).toNat)
  case atStart => exact ⟨0, by omega, rfl, X0, X1, X2, X3, X4⟩
  case round =>
    clear X0 X1 X2 X3 X4
    obtain ⟨j, hj, rfl, X0, X1, X2, X3, X4⟩ := hrel
    by_cases hj1 : j < 4
    · have j1 : (j : Int) < 4 := by omega
      have wj : IntKind.i64.wrap ((j : Int) + 1) = (j : Int) + 1 := by rw [IntKind.wrap_i64]; omega
      have J1 : Hid (j < 4) := hj1
      have Y3 : Hid (Blk wr (w.heap.size + 1 + 1 + 1) (((upL f 4 j).set j (cn j 0)).map b8)) := by rw [C0.out, upL_set0 f 4 j hj1]; exact X3
      clear X3 hj hj1
      go_wp2_with (refine wpList_load_mid rfl 23 (.tmp 3) rfl (w.heap.size + 1) 0 rfl (r.map b8) _ X1.out.all u_a4 rfl (info_n info_a4 r HR.out) ?_)
      go_loopw [13] (fun i wr => ∃ k : Nat, k ≤ 4 ∧ i = .int .i64 (k : Int) ∧ Hid (Blk wr w.heap.size (c.map b8)) ∧ Hid (Blk wr (w.heap.size + 1) (r.map b8)) ∧ Hid (Blk wr (w.heap.size + 1 + 1) ((List.replicate 4 0).map b8)) ∧ Hid (Blk wr (w.heap.size + 1 + 1 + 1) (((upL f 4 j).set j (cn j k)).map b8)) ∧ Hid (Below w.heap.size w wr)) (fun i _ => 4 - (intOf i).toNat)
      case atStart => exact ⟨0, by omega, rfl, X0, X1, X2, Y3, X4⟩
      case round =>
        clear X0 X1 X2 Y3 X4
        obtain ⟨k, hk, rfl, X0, X1, X2, X3, X4⟩ := hrel
        have UL : Hid ((upL f 4 j).length = 4) := upL_length _ _ _ (Nat.le_of_lt J1.out)
        by_cases hk1 : k < 4
        · have k1 : (k : Int) < 4 := by omega
          have wk : IntKind.i64.wrap ((k : Int) + 1) = (k : Int) + 1 := by rw [IntKind.wrap_i64]; omega
          obtain ⟨q, hq⟩ : ∃ q, q = (j + k) % 4 := ⟨_, rfl⟩
          have J1' := J1.out
          have wa : IntKind.i64.wrap ((j : Int) + (k : Int)) = (j : Int) + (k : Int) := by rw [IntKind.wrap_i64]; omega
          have m1 : ((j : Int) + (k : Int)).tmod 4 = (q : Int) := by rw [Int.tmod_eq_emod_of_nonneg (by omega)]; omega
          have m2 : ((j : Int) + (k : Int)) % 4 = (q : Int) := by omega
          have q4 : q < 4 := by omega
          have q4i : (q : Int) < 4 := by omega
          obtain ⟨ce, cl⟩ := CS.out j k
          rw [← hq] at ce
          have MG : Hid _ := RG.out (r.getD k 0) (c.getD q 0) (RL.out k) (CL.out q)
          have ml := G.mul_lt (c.getD q 0) (RL.out k)
          have xe := g_xor cl ml
          rw [← ce] at xe
          have cell0 : Hid (∀ W, Below wr.heap.size wr W → W.cell? ⟨w.heap.size, q, none⟩ = some (b8 (c.getD q 0))) := fun W hW => (X0.out.up hW X0.out.lt).byte q (by rw [HC.out]; exact q4)
          have cell1 : Hid (∀ W, Below wr.heap.size wr W → W.cell? ⟨w.heap.size + 1, k, none⟩ = some (b8 (r.getD k 0))) := fun W hW => (X1.out.up hW X1.out.lt).byte k (by rw [HR.out]; exact hk1)
          have cell3 : Hid (∀ W, Below wr.heap.size wr W → W.cell? ⟨w.heap.size + 1 + 1 + 1, j, none⟩ = some (b8 (cn j k))) := fun W hW => by
            have := (X3.out.up hW X3.out.lt).byte j (by rw [List.length_set, UL.out]; exact J1.out)
            rw [getD_set _ _ _ _ (by rw [UL.out]; exact J1.out), if_pos rfl] at this
            exact this
          have K4 : Hid (k < 4) := hk1
          have NV : Hid (∀ W, Blk W (w.heap.size + 1 + 1 + 1) (((upL f 4 j).set j (cn j k)).map b8) → Blk (W.setCell ⟨w.heap.size + 1 + 1 + 1, j, none⟩ (b8 (cn j (k + 1)))) (w.heap.size + 1 + 1 + 1) (((upL f 4 j).set j (cn j (k + 1))).map b8)) := fun W h => by
            have := h.setB j (cn j (k + 1)) (by rw [List.length_set, UL.out]; exact J1.out)
            rw [List.set_set] at this
            exact this
          generalize G.mul (r.getD k 0) (c.getD q 0) = mv at *
          obtain ⟨rk, hrk⟩ : ∃ rk, r.getD k 0 = rk := ⟨_, rfl⟩
          have RK : Hid (r.getD k 0 = rk) := hrk
          rw [hrk] at MG
          clear hrk ml
          generalize c.getD q 0 = cq at *
          generalize (upL f 4 j).set j (cn j k) = l3 at *
          obtain ⟨l4, hl4⟩ : ∃ l4, l4 = (upL f 4 j).set j (cn j (k + 1)) := ⟨_, rfl⟩
          rw [← hl4] at NV
          have HL4 : Hid (l4 = (upL f 4 j).set j (cn j (k + 1))) := hl4
          clear hl4
          obtain ⟨cm, hcm⟩ : ∃ cm, cm = cn j (k + 1) := ⟨_, rfl⟩
          rw [← hcm] at NV xe
          clear hcm
          generalize cn j k = ck at *
          clear hq ce hk hk1 UL cell1
          go_wp2_with (refine wp_idxB rfl u_a4 (.tmp 12) (.tmp 13) rfl r HR.out k .i64 K4.out rfl rfl rk RK.out ?_)
          refine wp_region_monoSE 13 [MP.eq (.int .i64 (j : Int)), MP.eq (.pointer (some ⟨w.heap.size + 1 + 1 + 1, j, none⟩)), MP.eq (b8 ck), MP.eq (b8 rk), MP.eq (.int .i64 (j : Int)), MP.eq (.int .i64 (k : Int)), MP.eq (.int .i64 ((j : Int) + (k : Int))), MP.eq (.int .i64 (q : Int)), MP.eq (.pointer (some ⟨w.heap.size, q, none⟩)), MP.eq (b8 cq), MP.eq (b8 mv), MP.eq (b8 cm), MP.eq (.pointer (some ⟨w.heap.size + 1 + 1 + 1, j, none⟩))] (by kernel_rfl) (by kernel_rfl) rfl (by decide) (by kernel_rfl) ?_
          apply Exists.intro
          refine ⟨fun vals => ?_, ?_, fun vals4 w4 hb4 hF hO => ?_⟩
          · simp only [putsV, dstL, List.length_cons, List.length_nil, Nat.zero_add, Nat.reduceAdd, List.getElem?_cons_zero, List.getElem?_cons_succ, Option.bind_some, Act.put, List.setIfInBounds_toArray, List.set_cons_succ, List.set_cons_zero]
            rfl
          · refine ⟨?_, ?_, ?_, ?_, ?_, ?_, ?_, ?_, ?_, ?_, ?_, ?_, ?_, trivial⟩
            · intro vals W hW hw hd
              try simp [Region.binds] at hd
              refine ⟨by first | rfl | simp [Region.wanted, yielded, hd], ?_⟩
              simp [go_sem, hd]
              exact Below.refl _ _
            · intro vals W hW hw hd
              try simp [Region.binds] at hd
              refine ⟨by first | rfl | simp [Region.wanted, yielded, hd], ?_⟩
              simp [go_sem, hd, j1]
              exact Below.refl _ _
            · intro vals W hW hw hd
              try simp [Region.binds] at hd
              refine ⟨by first | rfl | simp [Region.wanted, yielded, hd], ?_⟩
              have cc := cell3.out W hW.out
              simp [go_sem, hd, cc]
              exact Below.refl _ _
            · intro vals W hW hw hd
              try simp [Region.binds] at hd
              refine ⟨by first | rfl | simp [Region.wanted, yielded, hd], ?_⟩
              simp [go_sem, hd]
              exact Below.refl _ _
            · intro vals W hW hw hd
              try simp [Region.binds] at hd
              refine ⟨by first | rfl | simp [Region.wanted, yielded, hd], ?_⟩
              simp [go_sem, hd]
              exact Below.refl _ _
            · intro vals W hW hw hd
              try simp [Region.binds] at hd
              refine ⟨by first | rfl | simp [Region.wanted, yielded, hd], ?_⟩
              simp [go_sem, hd]
              exact Below.refl _ _
            · intro vals W hW hw hd
              try simp [Region.binds] at hd
              refine ⟨by first | rfl | simp [Region.wanted, yielded, hd], ?_⟩
              simp [go_sem, hd, wa]
              exact Below.refl _ _
            · intro vals W hW hw hd
              try simp [Region.binds] at hd
              refine ⟨by first | rfl | simp [Region.wanted, yielded, hd], ?_⟩
              simp [go_sem, hd, m1, m2]
              exact Below.refl _ _
            · intro vals W hW hw hd
              try simp [Region.binds] at hd
              refine ⟨by first | rfl | simp [Region.wanted, yielded, hd], ?_⟩
              simp [go_sem, hd, q4i]
              exact Below.refl _ _
            · intro vals W hW hw hd
              try simp [Region.binds] at hd
              refine ⟨by first | rfl | simp [Region.wanted, yielded, hd], ?_⟩
              have cc := cell0.out W hW.out
              simp [go_sem, hd, cc]
              exact Below.refl _ _
            · intro vals W hW hw hd
              try simp [Region.binds] at hd
              refine ⟨by first | rfl | simp [Region.wanted, yielded, hd], ?_⟩
              simp [go_sem, hd]
              exact (MG.out W).mono fun e w' ⟨he, hb⟩ => ⟨_, he, rfl, hb⟩
            · intro vals W hW hw hd
              try simp [Region.binds] at hd
              refine ⟨by first | rfl | simp [Region.wanted, yielded, hd], ?_⟩
              simp [go_sem, hd, xe]
              exact Below.refl _ _
            · intro vals W hW hw hd
              try simp [Region.binds] at hd
              refine ⟨by first | rfl | simp [Region.wanted, yielded, hd], ?_⟩
              simp [go_sem, hd, j1]
              exact Below.refl _ _
          obtain ⟨f0, f1, f2, f3, f4, f5, f6, f7, f8, f9, f10, f11, f12, _⟩ := hF
          simp only [MP.eq_p] at f0 f1 f2 f3 f4 f5 f6 f7 f8 f9 f10 f11 f12
          rw [f0, f1, f2, f3, f4, f5, f6, f7, f8, f9, f10, f11, f12]
          simp only [List.drop_succ_cons, List.drop_zero]
          have Z0 : Hid (Blk w4 w.heap.size (c.map b8)) := X0.out.up hb4.out X0.out.lt
          have Z1 : Hid (Blk w4 (w.heap.size + 1) (r.map b8)) := X1.out.up hb4.out X1.out.lt
          have Z2 : Hid (Blk w4 (w.heap.size + 1 + 1) ((List.replicate 4 0).map b8)) := X2.out.up hb4.out X2.out.lt
          have Z3 : Hid (Blk w4 (w.heap.size + 1 + 1 + 1) (l3.map b8)) := X3.out.up hb4.out X3.out.lt
          have Z4 : Hid (Below w.heap.size w w4) := X4.out.trans (hb4.out.mono X4.out.size)
          have c4 := cell3.out w4 hb4.out
          have z4 := Z3.out.fz j
          clear f0 f1 f2 f3 f4 f5 f6 f7 f8 f9 f10 f11 f12 hb4 hO X0 X1 X2 X3 X4 cell0 cell3 MG
          have V0 : Hid _ := Z0.out.apart1 (k' := w.heap.size + 1 + 1 + 1) (o := j) (v := b8 cm) (by omega)
          have V1 : Hid _ := Z1.out.apart1 (k' := w.heap.size + 1 + 1 + 1) (o := j) (v := b8 cm) (by omega)
          have V2 : Hid _ := Z2.out.apart1 (k' := w.heap.size + 1 + 1 + 1) (o := j) (v := b8 cm) (by omega)
          have V3 : Hid _ := NV.out w4 Z3.out
          have V4 : Hid _ := Z4.out.setCell (p := ⟨w.heap.size + 1 + 1 + 1, j, none⟩) (by show w.heap.size ≤ w.heap.size + 1 + 1 + 1; omega) (b8 cm)
          clear Z0 Z1 Z2 Z3 Z4 NV
          go_wp2_with fail
          go_roundw
          case rel => exact ⟨k + 1, K4.out, by first | rfl | go_num, V0, V1, V2, by rw [← HL4.out]; exact V3, V4⟩
          case measure => have := K4.out; simp [intOf]; omega
        · obtain rfl : k = 4 := by omega
          rw [CF.out j, upL_set f 4 j J1.out] at X3
          clear hk hk1
          go_wp2_with fail
          go_roundw
          case rel => exact ⟨j + 1, J1.out, by first | rfl | go_num, X0, X1, X2, X3, X4⟩
          case measure => have := J1.out; simp [intOf]; omega
    · obtain rfl : j = 4 := by omega
      rw [upL_all] at X3
      have ML : Hid (((List.range 4).map f).length = 4) := by show _ = _; simp
      obtain ⟨out, hout⟩ : ∃ out, out = (List.range 4).map f := ⟨_, rfl⟩
      rw [← hout] at X3 ML
      have HO : Hid (out = (List.range 4).map f) := hout
      clear hout
      have ID : Hid _ := info_a4.trans (congrArg some (show 4 = (out.map b8).length by rw [List.length_map, ML.out]))
      have T0 : Hid (wr.there (w.heap.size + 1 + 1) 0 (out.map b8).length) := X2.out.there (by rw [List.length_map, ML.out]; simp)
      clear hj hj1
      go_wp2_with (first | refine wpList_load_mid rfl 23 (.tmp 5) rfl (w.heap.size + 1 + 1 + 1) 0 rfl (out.map b8) _ X3.out.all u_a4 rfl ID.out ?_ | refine wp_store_eq rfl 23 (.tmp 4) (.tmp 32) rfl (w.heap.size + 1 + 1) 0 (out.map b8) rfl rfl T0.out ID.out (one_b8 _) ?_)
      intro w9 hw9
      go_wp2_with fail
      refine bodyPost_ret (v := aB out) ?_ rfl ⟨by rw [HO.out], ?_⟩
      · rw [hw9.out]
        exact results_cell (b := w.heap.size + 1 + 1) rfl rfl (World.rangeAt_setCells_same _ _ _ _ T0.out) u_a4 rfl ID.out
      · rw [hw9.out]
        exact below_setCells _ _ _ X4.out (by omega)
set_option maxRecDepth 20000 in
set_option maxHeartbeats 1000000 in
theorem gmix_fun (a b c d : Nat) (ha : a < 256) (hb : b < 256) (hc : c < 256) (hd : d < 256) (w : World) : Calls Try.prog 42 #[q4 a b c d] w fun e w' => e = .returned (q4 (G.m2 a b c d) (G.m2 b c d a) (G.m2 c d a b) (G.m2 d a b c)) ∧ Below w.heap.size w w' := by
  have CC : Hid _ := gcomb_fun [a, b, c, d] [2, 3, 1, 1] rfl rfl (by simp [ha, hb, hc, hd]) (by decide)
  rw [G.colL_mix ha hb hc hd] at CC
  obtain ⟨o, ho⟩ : ∃ o, o = [(G.m2 a b c d), (G.m2 b c d a), (G.m2 c d a b), (G.m2 d a b c)] := ⟨_, rfl⟩
  have HO : Hid (o.length = 4) := by rw [ho]; exact rfl
  rw [← ho] at CC
  show Calls _ _ _ _ fun e w' => e = .returned (aB ([(G.m2 a b c d), (G.m2 b c d a), (G.m2 c d a b), (G.m2 d a b c)])) ∧ Below w.heap.size w w'
  rw [← ho]
  show Calls Try.prog 42 #[aB [a, b, c, d]] w _
  have LL : Hid ([a, b, c, d].length = 4) := by show _ = _; rfl
  generalize [a, b, c, d] = l at *
  obtain ⟨x0, x1, x2⟩ := al2 w (l.map b8).toArray #[Value.int IntKind.u8 0, Value.int IntKind.u8 0, Value.int IntKind.u8 0, Value.int IntKind.u8 0] 23 23
  have X0 : Hid (Blk _ w.heap.size (l.map b8)) := x0
  have X1 : Hid (Blk _ (w.heap.size + 1) (zB 4)) := x1
  have X2 : Hid (Below w.heap.size w _) := x2
  clear x0 x1 x2 ho ha hb hc hd
  have B4 : Hid _ := built4 2 3 1 1
  go_enter Try.func42, Try.ntmps42
  go_wp2_with (first | refine wpList_load_mid rfl 23 (.tmp 1) rfl w.heap.size 0 rfl (l.map b8) _ X0.out.all u_a4 rfl (info_n info_a4 l LL.out) ?_ | refine wp_build4 rfl 2 3 1 1 rfl B4.out ?_)
  refine Calls.mono (CC.out _) ?_
  rintro e w1 ⟨rfl, hb1⟩
  have Y1 : Hid (Blk w1 (w.heap.size + 1) (zB 4)) := X1.out.up hb1 X1.out.lt
  have Y2 : Hid (Below w.heap.size w w1) := X2.out.trans (hb1.mono X2.out.size)
  have TM : Hid (w1.there (w.heap.size + 1) 0 (o.map b8).length) := Y1.out.there (by rw [List.length_map, HO.out]; decide)
  clear hb1 CC X0 X1 X2
  go_wp2_with (refine wp_store_eq rfl 23 (.tmp 2) (.tmp 5) rfl (w.heap.size + 1) 0 (o.map b8) rfl rfl TM.out (info_n info_a4 o HO.out) (one_b8 _) ?_)
  intro w9 hw9
  go_wp2_with fail
  refine bodyPost_ret (v := aB o) ?_ rfl ⟨rfl, ?_⟩
  · rw [hw9.out]
    exact results_cell (b := w.heap.size + 1) rfl rfl (World.rangeAt_setCells_same _ _ _ _ TM.out) u_a4 rfl (info_n info_a4 o HO.out)
  · rw [hw9.out]
    exact below_setCells _ _ _ Y2.out (by omega)
set_option maxRecDepth 20000 in
set_option maxHeartbeats 1000000 in
theorem gunmix_fun (a b c d : Nat) (ha : a < 256) (hb : b < 256) (hc : c < 256) (hd : d < 256) (w : World) : Calls Try.prog 48 #[q4 a b c d] w fun e w' => e = .returned (q4 (G.u2 a b c d) (G.u2 b c d a) (G.u2 c d a b) (G.u2 d a b c)) ∧ Below w.heap.size w w' := by
  have CC : Hid _ := gcomb_fun [a, b, c, d] [14, 11, 13, 9] rfl rfl (by simp [ha, hb, hc, hd]) (by decide)
  rw [G.colL_unmix] at CC
  obtain ⟨o, ho⟩ : ∃ o, o = [(G.u2 a b c d), (G.u2 b c d a), (G.u2 c d a b), (G.u2 d a b c)] := ⟨_, rfl⟩
  have HO : Hid (o.length = 4) := by rw [ho]; exact rfl
  rw [← ho] at CC
  show Calls _ _ _ _ fun e w' => e = .returned (aB ([(G.u2 a b c d), (G.u2 b c d a), (G.u2 c d a b), (G.u2 d a b c)])) ∧ Below w.heap.size w w'
  rw [← ho]
  show Calls Try.prog 48 #[aB [a, b, c, d]] w _
  have LL : Hid ([a, b, c, d].length = 4) := by show _ = _; rfl
  generalize [a, b, c, d] = l at *
  obtain ⟨x0, x1, x2⟩ := al2 w (l.map b8).toArray #[Value.int IntKind.u8 0, Value.int IntKind.u8 0, Value.int IntKind.u8 0, Value.int IntKind.u8 0] 23 23
  have X0 : Hid (Blk _ w.heap.size (l.map b8)) := x0
  have X1 : Hid (Blk _ (w.heap.size + 1) (zB 4)) := x1
  have X2 : Hid (Below w.heap.size w _) := x2
  clear x0 x1 x2 ho ha hb hc hd
  have B4 : Hid _ := built4 14 11 13 9
  go_enter Try.func48, Try.ntmps48
  go_wp2_with (first | refine wpList_load_mid rfl 23 (.tmp 1) rfl w.heap.size 0 rfl (l.map b8) _ X0.out.all u_a4 rfl (info_n info_a4 l LL.out) ?_ | refine wp_build4 rfl 14 11 13 9 rfl B4.out ?_)
  refine Calls.mono (CC.out _) ?_
  rintro e w1 ⟨rfl, hb1⟩
  have Y1 : Hid (Blk w1 (w.heap.size + 1) (zB 4)) := X1.out.up hb1 X1.out.lt
  have Y2 : Hid (Below w.heap.size w w1) := X2.out.trans (hb1.mono X2.out.size)
  have TM : Hid (w1.there (w.heap.size + 1) 0 (o.map b8).length) := Y1.out.there (by rw [List.length_map, HO.out]; decide)
  clear hb1 CC X0 X1 X2
  go_wp2_with (refine wp_store_eq rfl 23 (.tmp 2) (.tmp 5) rfl (w.heap.size + 1) 0 (o.map b8) rfl rfl TM.out (info_n info_a4 o HO.out) (one_b8 _) ?_)
  intro w9 hw9
  go_wp2_with fail
  refine bodyPost_ret (v := aB o) ?_ rfl ⟨rfl, ?_⟩
  · rw [hw9.out]
    exact results_cell (b := w.heap.size + 1) rfl rfl (World.rangeAt_setCells_same _ _ _ _ TM.out) u_a4 rfl (info_n info_a4 o HO.out)
  · rw [hw9.out]
    exact below_setCells _ _ _ Y2.out (by omega)
/-- What package gf keeps. -/
theorem gfIs : GfC (fun _ => True) where
  up := fun _ _ => trivial
  mul := fun a b ha hb w _ => (gmul_fun a b ha hb w).mono fun _ _ ⟨he, hw⟩ => ⟨he, by rw [hw]; exact Below.refl _ _⟩
  pow := fun a n ha hn w _ => (gpow_fun a n ha hn w).mono fun _ _ ⟨he, hw⟩ => ⟨he, by rw [hw]; exact Below.refl _ _⟩
  inv := fun a ha w _ => (ginv_fun a ha w).mono fun _ _ ⟨he, hw⟩ => ⟨he, by rw [hw]; exact Below.refl _ _⟩
  sub := fun a ha w _ => (gsub_fun a ha w).mono fun _ _ ⟨he, hw⟩ => ⟨he, by rw [hw]; exact Below.refl _ _⟩
  unsub := fun a ha w _ => (gunsub_fun a ha w).mono fun _ _ ⟨he, hw⟩ => ⟨he, by rw [hw]; exact Below.refl _ _⟩
  mix := fun a b c d ha hb hc hd w _ => gmix_fun a b c d ha hb hc hd w
  unmix := fun a b c d ha hb hc hd w _ => gunmix_fun a b c d ha hb hc hd w
end Go.Proofs.Ytejabkmhpiabnaa
