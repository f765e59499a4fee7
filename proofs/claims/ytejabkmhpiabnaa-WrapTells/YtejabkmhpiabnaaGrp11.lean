/- Texts that were joined: RCol, AGrid. -/
import Derived.Test.YtejabkmhpiabnaaRBox
import Derived.Test.YtejabkmhpiabnaaUpS
import Derived.Test.YtejabkmhpiabnaaAMath
/- The contract of sealringref.Column: a column times a row of numbers. -/
namespace Go.Proofs.Ytejabkmhpiabnaa
open Go.RowKit
set_option linter.unusedSimpArgs false
attribute [local go_sem] YieldsP execOp
attribute [local simp] MP.eq_p
namespace G
/-- One byte of a column, by the first so many of the row. -/
def colN (c r : List Nat) (i : Nat) : Nat → Nat
  | 0 => 0
  | k + 1 => colN c r i k ^^^ mul (r.getD k 0) (c.getD ((i + k) % 4) 0)
def colL (c r : List Nat) : List Nat := (List.range 4).map fun i => colN c r i 4
theorem colN_lt {c r : List Nat} (hr : ∀ k, r.getD k 0 < 256) (i : Nat) : ∀ k, colN c r i k < 256
  | 0 => by rw [colN]; decide
  | k + 1 => by rw [colN]; exact xor_lt (colN_lt hr i k) (mul_lt _ (hr k))
theorem col_mix {a b c d : Nat} (hc : c < 256) (hd : d < 256) : colN [a, b, c, d] [2, 3, 1, 1] 0 4 = m2 a b c d := by
  show (((0 ^^^ mul 2 a) ^^^ mul 3 b) ^^^ mul 1 c) ^^^ mul 1 d = _
  rw [one_mul hc, one_mul hd, Nat.zero_xor]
  rfl
theorem colL_turn (a b c d : Nat) (r : List Nat) : colL [a, b, c, d] r = [colN [a, b, c, d] r 0 4, colN [b, c, d, a] r 0 4, colN [c, d, a, b] r 0 4, colN [d, a, b, c] r 0 4] := rfl
theorem colL_mix {a b c d : Nat} (ha : a < 256) (hb : b < 256) (hc : c < 256) (hd : d < 256) : colL [a, b, c, d] [2, 3, 1, 1] = [m2 a b c d, m2 b c d a, m2 c d a b, m2 d a b c] := by
  rw [colL_turn, col_mix hc hd, col_mix hd ha, col_mix ha hb, col_mix hb hc]
theorem col_unmix (a b c d : Nat) : colN [a, b, c, d] [14, 11, 13, 9] 0 4 = u2 a b c d := by
  show (((0 ^^^ mul 14 a) ^^^ mul 11 b) ^^^ mul 13 c) ^^^ mul 9 d = _
  rw [Nat.zero_xor]
  rfl
theorem colL_unmix (a b c d : Nat) : colL [a, b, c, d] [14, 11, 13, 9] = [u2 a b c d, u2 b c d a, u2 c d a b, u2 d a b c] := by
  rw [colL_turn, col_unmix, col_unmix, col_unmix, col_unmix]
end G
theorem u_a4 : Try.prog.underlying 23 = some (.array 4 5) := by kernel_rfl
theorem info_a4 : (Try.prog.info? 23).map (·.size) = some 4 := by kernel_rfl
theorem upL_set0 (f : Nat → Nat) (n j : Nat) (h : j < n) : (upL f n j).set j 0 = upL f n j := by
  unfold upL
  rw [List.set_append_right _ _ (by simp), List.length_map, List.length_range, Nat.sub_self, show n - j = n - (j + 1) + 1 by omega, List.replicate_succ, List.set_cons_zero]
theorem getD_low {l : List Nat} (h : ∀ x ∈ l, x < 256) (i : Nat) : l.getD i 0 < 256 := by
  rw [List.getD_eq_getElem?_getD]
  cases e : l[i]? with
  | none => simp
  | some x => exact h x (List.mem_of_getElem? e)
set_option maxRecDepth 20000 in
set_option maxHeartbeats 2000000 in
theorem rcol_fun (c r : List Nat) (hc : c.length = 4) (hr : r.length = 4) (lc : ∀ x ∈ c, x < 256) (lr : ∀ x ∈ r, x < 256) (w : World) :
    Calls Try.prog 54 #[aB c, aB r] w fun e w' => e = .returned (aB (G.colL c r)) ∧ Below w.heap.size w w' := by
  have CL : Hid (∀ i, c.getD i 0 < 256) := getD_low lc
  have RL : Hid (∀ i, r.getD i 0 < 256) := getD_low lr
  have RG : Hid (∀ a b, a < 256 → b < 256 → ∀ W, Calls Try.prog 19 #[b8 a, b8 b] W fun e w' => e = .returned (b8 (G.mul a b)) ∧ Below W.heap.size W w') := fun a b ha hb W => (rgf_fun a b ha hb W).mono fun e w' ⟨he, hw⟩ => ⟨he, by rw [hw]; exact Below.refl _ _⟩
  obtain ⟨f, hf⟩ : ∃ f : Nat → Nat, f = fun i => G.colN c r i 4 := ⟨_, rfl⟩
  obtain ⟨cn, hcn⟩ : ∃ cn : Nat → Nat → Nat, ∀ i k, cn i k = G.colN c r i k := ⟨_, fun _ _ => rfl⟩
  have C0 : Hid (∀ i, cn i 0 = 0) := fun i => by rw [hcn]; rfl
  have CS : Hid (∀ i k, cn i (k + 1) = cn i k ^^^ G.mul (r.getD k 0) (c.getD ((i + k) % 4) 0) ∧ cn i k < 256) := fun i k => ⟨by rw [hcn, hcn]; rfl, by rw [hcn]; exact G.colN_lt (getD_low lr) i k⟩
  have CF : Hid (∀ i, cn i 4 = f i) := fun i => by rw [hcn, hf]
  have FE : Hid ((List.range 4).map f = G.colL c r) := by rw [hf]; exact rfl
  have HC : Hid (c.length = 4) := hc
  have HR : Hid (r.length = 4) := hr
  rw [← FE.out]
  clear hf hcn FE lc lr hc hr
  obtain ⟨x0, x1, x2, x3, x4⟩ := al4 w (c.map b8).toArray (r.map b8).toArray #[Value.int IntKind.u8 0, Value.int IntKind.u8 0, Value.int IntKind.u8 0, Value.int IntKind.u8 0] #[Value.int IntKind.u8 0, Value.int IntKind.u8 0, Value.int IntKind.u8 0, Value.int IntKind.u8 0] 23 23 23 23
  have X0 : Hid (Blk _ w.heap.size (c.map b8)) := x0
  have X1 : Hid (Blk _ (w.heap.size + 1) (r.map b8)) := x1
  have X2 : Hid (Blk _ (w.heap.size + 1 + 1) ((List.replicate 4 0).map b8)) := x2
  rw [show (#[Value.int IntKind.u8 0, Value.int IntKind.u8 0, Value.int IntKind.u8 0, Value.int IntKind.u8 0] : Array Value).toList = (upL f 4 0).map b8 by rw [upL_zero]; rfl] at x3
  have X3 : Hid (Blk _ (w.heap.size + 1 + 1 + 1) ((upL f 4 0).map b8)) := x3
  have X4 : Hid (Below w.heap.size w _) := x4
  clear x0 x1 x2 x3 x4
  go_enter Try.func54, Try.ntmps54
  go_wp2_with fail
  generalize World.alloc (World.alloc (World.alloc (w.alloc _) _) _) _ = w1 at *
  go_loopw [8] (fun i wr => ∃ j : Nat, j ≤ 4 ∧ i = .int .i64 (j : Int) ∧ Hid (Blk wr w.heap.size (c.map b8)) ∧ Hid (Blk wr (w.heap.size + 1) (r.map b8)) ∧ Hid (Blk wr (w.heap.size + 1 + 1) ((List.replicate 4 0).map b8)) ∧ Hid (Blk wr (w.heap.size + 1 + 1 + 1) ((upL f 4 j).map b8)) ∧ Hid (Below w.heap.size w wr)) (fun i _ => 4 - (intOf i).toNat)
  case atStart => exact ⟨0, by omega, rfl, X0, X1, X2, X3, X4⟩
  case round =>
    clear X0 X1 X2 X3 X4
    obtain ⟨j, hj, rfl, X0, X1, X2, X3, X4⟩ := hrel
    by_cases hj1 : j < 4
    · have j1 : (j : Int) < 4 := by omega
      have wj : IntKind.i64.wrap ((j : Int) + 1) = (j : Int) + 1 := by rw [IntKind.wrap_i64]; omega
      have J1 : Hid (j < 4) := hj1
      have Y3 : Hid (Blk wr (w.heap.size + 1 + 1 + 1) (((upL f 4 j).set j (cn j 0)).map b8)) := by rw [C0.out, upL_set0 f 4 j hj1]; exact X3
      clear X3 hj hj1
      go_wp2_with fail
      go_loopw [11] (fun i wr => ∃ k : Nat, k ≤ 4 ∧ i = .int .i64 (k : Int) ∧ Hid (Blk wr w.heap.size (c.map b8)) ∧ Hid (Blk wr (w.heap.size + 1) (r.map b8)) ∧ Hid (Blk wr (w.heap.size + 1 + 1) ((List.replicate 4 0).map b8)) ∧ Hid (Blk wr (w.heap.size + 1 + 1 + 1) (((upL f 4 j).set j (cn j k)).map b8)) ∧ Hid (Below w.heap.size w wr)) (fun i _ => 4 - (intOf i).toNat)
      case atStart => exact ⟨0, by omega, rfl, X0, X1, X2, Y3, X4⟩
      case round =>
        clear X0 X1 X2 Y3 X4
        obtain ⟨k, hk, rfl, X0, X1, X2, X3, X4⟩ := hrel
        have UL : Hid ((upL f 4 j).length = 4) := upL_length _ _ _ (Nat.le_of_lt J1.out)
        by_cases hk1 : k < 4
        · have k1 : (k : Int) < 4 := by omega
          have wk : IntKind.i64.wrap ((k : Int) + 1) = (k : Int) + 1 := by rw [IntKind.wrap_i64]; omega
          obtain ⟨q, hq⟩ : ∃ q, q = (j + k) % 4 := ⟨_, rfl⟩
          have J1' := J1.out
          have wa : IntKind.i64.wrap ((j : Int) + (k : Int)) = (j : Int) + (k : Int) := by rw [IntKind.wrap_i64]; omega
          have m1 : ((j : Int) + (k : Int)).tmod 4 = (q : Int) := by rw [Int.tmod_eq_emod_of_nonneg (by omega)]; omega
          have m2 : ((j : Int) + (k : Int)) % 4 = (q : Int) := by omega
          have q4 : q < 4 := by omega
          have q4i : (q : Int) < 4 := by omega
          obtain ⟨ce, cl⟩ := CS.out j k
          rw [← hq] at ce
          have MG : Hid _ := RG.out (r.getD k 0) (c.getD q 0) (RL.out k) (CL.out q)
          have ml := G.mul_lt (c.getD q 0) (RL.out k)
          have xe := g_xor cl ml
          rw [← ce] at xe
          have cell0 : Hid (∀ W, Below wr.heap.size wr W → W.cell? ⟨w.heap.size, q, none⟩ = some (b8 (c.getD q 0))) := fun W hW => (X0.out.up hW X0.out.lt).byte q (by rw [HC.out]; exact q4)
          have cell1 : Hid (∀ W, Below wr.heap.size wr W → W.cell? ⟨w.heap.size + 1, k, none⟩ = some (b8 (r.getD k 0))) := fun W hW => (X1.out.up hW X1.out.lt).byte k (by rw [HR.out]; exact hk1)
          have cell3 : Hid (∀ W, Below wr.heap.size wr W → W.cell? ⟨w.heap.size + 1 + 1 + 1, j, none⟩ = some (b8 (cn j k))) := fun W hW => by
            have := (X3.out.up hW X3.out.lt).byte j (by rw [List.length_set, UL.out]; exact J1.out)
            rw [getD_set _ _ _ _ (by rw [UL.out]; exact J1.out), if_pos rfl] at this
            exact this
          have K4 : Hid (k < 4) := hk1
          have NV : Hid (∀ W, Blk W (w.heap.size + 1 + 1 + 1) (((upL f 4 j).set j (cn j k)).map b8) → Blk (W.setCell ⟨w.heap.size + 1 + 1 + 1, j, none⟩ (b8 (cn j (k + 1)))) (w.heap.size + 1 + 1 + 1) (((upL f 4 j).set j (cn j (k + 1))).map b8)) := fun W h => by
            have := h.setB j (cn j (k + 1)) (by rw [List.length_set, UL.out]; exact J1.out)
            rw [List.set_set] at this
            exact this
          generalize G.mul (r.getD k 0) (c.getD q 0) = mv at *
          generalize r.getD k 0 = rk at *
          generalize c.getD q 0 = cq at *
          generalize (upL f 4 j).set j (cn j k) = l3 at *
          obtain ⟨l4, hl4⟩ : ∃ l4, l4 = (upL f 4 j).set j (cn j (k + 1)) := ⟨_, rfl⟩
          rw [← hl4] at NV
          have HL4 : Hid (l4 = (upL f 4 j).set j (cn j (k + 1))) := hl4
          clear hl4
          obtain ⟨cm, hcm⟩ : ∃ cm, cm = cn j (k + 1) := ⟨_, rfl⟩
          rw [← hcm] at NV xe
          clear hcm
          generalize cn j k = ck at *
          clear hq ce hk hk1 UL
          go_wp2_with fail
          refine wp_region_monoSE 15 [MP.eq (.int .i64 (j : Int)), MP.eq (.pointer (some ⟨w.heap.size + 1 + 1 + 1, j, none⟩)), MP.eq (b8 ck), MP.eq (.int .i64 (k : Int)), MP.eq (.pointer (some ⟨w.heap.size + 1, k, none⟩)), MP.eq (b8 rk), MP.eq (.int .i64 (j : Int)), MP.eq (.int .i64 (k : Int)), MP.eq (.int .i64 ((j : Int) + (k : Int))), MP.eq (.int .i64 (q : Int)), MP.eq (.pointer (some ⟨w.heap.size, q, none⟩)), MP.eq (b8 cq), MP.eq (b8 mv), MP.eq (b8 cm), MP.eq (.pointer (some ⟨w.heap.size + 1 + 1 + 1, j, none⟩))] (by kernel_rfl) (by kernel_rfl) rfl (by decide) (by kernel_rfl) ?_
          apply Exists.intro
          refine ⟨fun vals => ?_, ?_, fun vals4 w4 hb4 hF hO => ?_⟩
          · simp only [putsV, dstL, List.length_cons, List.length_nil, Nat.zero_add, Nat.reduceAdd, List.getElem?_cons_zero, List.getElem?_cons_succ, Option.bind_some, Act.put, List.setIfInBounds_toArray, List.set_cons_succ, List.set_cons_zero]
            rfl
          · refine ⟨?_, ?_, ?_, ?_, ?_, ?_, ?_, ?_, ?_, ?_, ?_, ?_, ?_, ?_, ?_, trivial⟩
            · intro vals W hW hw hd
              try simp [Region.binds] at hd
              refine ⟨by first | rfl | simp [Region.wanted, yielded, hd], ?_⟩
              simp [go_sem, hd]
              exact Below.refl _ _
            · intro vals W hW hw hd
              try simp [Region.binds] at hd
              refine ⟨by first | rfl | simp [Region.wanted, yielded, hd], ?_⟩
              simp [go_sem, hd, j1]
              exact Below.refl _ _
            · intro vals W hW hw hd
              try simp [Region.binds] at hd
              refine ⟨by first | rfl | simp [Region.wanted, yielded, hd], ?_⟩
              have cc := cell3.out W hW.out
              simp [go_sem, hd, cc]
              exact Below.refl _ _
            · intro vals W hW hw hd
              try simp [Region.binds] at hd
              refine ⟨by first | rfl | simp [Region.wanted, yielded, hd], ?_⟩
              simp [go_sem, hd]
              exact Below.refl _ _
            · intro vals W hW hw hd
              try simp [Region.binds] at hd
              refine ⟨by first | rfl | simp [Region.wanted, yielded, hd], ?_⟩
              simp [go_sem, hd, k1]
              exact Below.refl _ _
            · intro vals W hW hw hd
              try simp [Region.binds] at hd
              refine ⟨by first | rfl | simp [Region.wanted, yielded, hd], ?_⟩
              have cc := cell1.out W hW.out
              simp [go_sem, hd, cc]
              exact Below.refl _ _
            · intro vals W hW hw hd
              try simp [Region.binds] at hd
              refine ⟨by first | rfl | simp [Region.wanted, yielded, hd], ?_⟩
              simp [go_sem, hd]
              exact Below.refl _ _
            · intro vals W hW hw hd
              try simp [Region.binds] at hd
              refine ⟨by first | rfl | simp [Region.wanted, yielded, hd], ?_⟩
              simp [go_sem, hd]
              exact Below.refl _ _
            · intro vals W hW hw hd
              try simp [Region.binds] at hd
              refine ⟨by first | rfl | simp [Region.wanted, yielded, hd], ?_⟩
              simp [go_sem, hd, wa]
              exact Below.refl _ _
            · intro vals W hW hw hd
              try simp [Region.binds] at hd
              refine ⟨by first | rfl | simp [Region.wanted, yielded, hd], ?_⟩
              simp [go_sem, hd, m1, m2]
              exact Below.refl _ _
            · intro vals W hW hw hd
              try simp [Region.binds] at hd
              refine ⟨by first | rfl | simp [Region.wanted, yielded, hd], ?_⟩
              simp [go_sem, hd, q4i]
              exact Below.refl _ _
            · intro vals W hW hw hd
              try simp [Region.binds] at hd
              refine ⟨by first | rfl | simp [Region.wanted, yielded, hd], ?_⟩
              have cc := cell0.out W hW.out
              simp [go_sem, hd, cc]
              exact Below.refl _ _
            · intro vals W hW hw hd
              try simp [Region.binds] at hd
              refine ⟨by first | rfl | simp [Region.wanted, yielded, hd], ?_⟩
              simp [go_sem, hd]
              exact (MG.out W).mono fun e w' ⟨he, hb⟩ => ⟨_, he, rfl, hb⟩
            · intro vals W hW hw hd
              try simp [Region.binds] at hd
              refine ⟨by first | rfl | simp [Region.wanted, yielded, hd], ?_⟩
              simp [go_sem, hd, xe]
              exact Below.refl _ _
            · intro vals W hW hw hd
              try simp [Region.binds] at hd
              refine ⟨by first | rfl | simp [Region.wanted, yielded, hd], ?_⟩
              simp [go_sem, hd, j1]
              exact Below.refl _ _
          obtain ⟨f0, f1, f2, f3, f4, f5, f6, f7, f8, f9, f10, f11, f12, f13, f14, _⟩ := hF
          simp only [MP.eq_p] at f0 f1 f2 f3 f4 f5 f6 f7 f8 f9 f10 f11 f12 f13 f14
          rw [f0, f1, f2, f3, f4, f5, f6, f7, f8, f9, f10, f11, f12, f13, f14]
          simp only [List.drop_succ_cons, List.drop_zero]
          have Z0 : Hid (Blk w4 w.heap.size (c.map b8)) := X0.out.up hb4.out X0.out.lt
          have Z1 : Hid (Blk w4 (w.heap.size + 1) (r.map b8)) := X1.out.up hb4.out X1.out.lt
          have Z2 : Hid (Blk w4 (w.heap.size + 1 + 1) ((List.replicate 4 0).map b8)) := X2.out.up hb4.out X2.out.lt
          have Z3 : Hid (Blk w4 (w.heap.size + 1 + 1 + 1) (l3.map b8)) := X3.out.up hb4.out X3.out.lt
          have Z4 : Hid (Below w.heap.size w w4) := X4.out.trans (hb4.out.mono X4.out.size)
          have c4 := cell3.out w4 hb4.out
          have z4 := Z3.out.fz j
          clear f0 f1 f2 f3 f4 f5 f6 f7 f8 f9 f10 f11 f12 f13 f14 hb4 hO X0 X1 X2 X3 X4 cell0 cell1 cell3 MG
          have V0 : Hid _ := Z0.out.apart1 (k' := w.heap.size + 1 + 1 + 1) (o := j) (v := b8 cm) (by omega)
          have V1 : Hid _ := Z1.out.apart1 (k' := w.heap.size + 1 + 1 + 1) (o := j) (v := b8 cm) (by omega)
          have V2 : Hid _ := Z2.out.apart1 (k' := w.heap.size + 1 + 1 + 1) (o := j) (v := b8 cm) (by omega)
          have V3 : Hid _ := NV.out w4 Z3.out
          have V4 : Hid _ := Z4.out.setCell (p := ⟨w.heap.size + 1 + 1 + 1, j, none⟩) (by show w.heap.size ≤ w.heap.size + 1 + 1 + 1; omega) (b8 cm)
          clear Z0 Z1 Z2 Z3 Z4 NV
          go_wp2_with fail
          go_roundw
          case rel => exact ⟨k + 1, K4.out, by first | rfl | go_num, V0, V1, V2, by rw [← HL4.out]; exact V3, V4⟩
          case measure => have := K4.out; simp [intOf]; omega
        · obtain rfl : k = 4 := by omega
          rw [CF.out j, upL_set f 4 j J1.out] at X3
          clear hk hk1
          go_wp2_with fail
          go_roundw
          case rel => exact ⟨j + 1, J1.out, by first | rfl | go_num, X0, X1, X2, X3, X4⟩
          case measure => have := J1.out; simp [intOf]; omega
    · obtain rfl : j = 4 := by omega
      rw [upL_all] at X3
      have ML : Hid (((List.range 4).map f).length = 4) := by show _ = _; simp
      obtain ⟨out, hout⟩ : ∃ out, out = (List.range 4).map f := ⟨_, rfl⟩
      rw [← hout] at X3 ML
      have HO : Hid (out = (List.range 4).map f) := hout
      clear hout
      have ID : Hid _ := info_a4.trans (congrArg some (show 4 = (out.map b8).length by rw [List.length_map, ML.out]))
      have T0 : Hid (wr.there (w.heap.size + 1 + 1) 0 (out.map b8).length) := X2.out.there (by rw [List.length_map, ML.out]; simp)
      clear hj hj1
      go_wp2_with (first | refine wpList_load_mid rfl 23 (.tmp 5) rfl (w.heap.size + 1 + 1 + 1) 0 rfl (out.map b8) _ X3.out.all u_a4 rfl ID.out ?_ | refine wp_store_eq rfl 23 (.tmp 4) (.tmp 31) rfl (w.heap.size + 1 + 1) 0 (out.map b8) rfl rfl T0.out ID.out (one_b8 _) ?_)
      intro w9 hw9
      go_wp2_with fail
      refine bodyPost_ret (v := aB out) ?_ rfl ⟨by rw [HO.out], ?_⟩
      · rw [hw9.out]
        exact results_cell (b := w.heap.size + 1 + 1) rfl rfl (World.rangeAt_setCells_same _ _ _ _ T0.out) u_a4 rfl ID.out
      · rw [hw9.out]
        exact below_setCells _ _ _ X4.out (by omega)
end Go.Proofs.Ytejabkmhpiabnaa

/- The contracts of sealringref.grid and ungrid: a block as rows of columns, and back. -/
namespace Go.Proofs.Ytejabkmhpiabnaa
open Go.RowKit
set_option linter.unusedSimpArgs false
namespace A
/-- Rows for columns. -/
def tp (p : Nat) : Nat := 4 * (p % 4) + p / 4
theorem tps : ∀ p < 16, tp p < 16 ∧ tp (tp p) = p := by decide
def gridL (b : List Nat) : List Nat := by_ 16 fun p => b.getD (tp p) 0
theorem gridL_ok {b : List Nat} (h : ok 16 b) : ok 16 (gridL b) := by_ok fun _ _ => h.at _
theorem grid_grid {b : List Nat} (h : ok 16 b) : gridL (gridL b) = b := by
  refine Eq.trans (by_congr fun p hp => ?_) (by_self h.1)
  unfold gridL
  rw [by_get (tps p hp).1, (tps p hp).2]
end A
theorem u_a16 : Try.prog.underlying 57 = some (.array 16 5) := by kernel_rfl
theorem info_a16 : (Try.prog.info? 57).map (·.size) = some 16 := by kernel_rfl
theorem u_g16 : Try.prog.underlying 75 = some (.array 4 23) := by kernel_rfl
theorem info_g16 : (Try.prog.info? 75).map (·.size) = some 16 := by kernel_rfl
theorem zero_a16 (w : World) : (zeroValue 57).run Try.prog w = .ok (.agg (zB 16).toArray) w := zero_of (by kernel_rfl) w
theorem zero_g16 (w : World) : (zeroValue 75).run Try.prog w = .ok (.agg (zB 16).toArray) w := zero_of (by kernel_rfl) w
set_option maxRecDepth 20000 in
set_option maxHeartbeats 1000000 in
theorem rgrid_fun (b : List Nat) (hb : A.ok 16 b) (w : World) : Calls Try.prog 44 #[aB b] w fun e w' => e = .returned (aB (A.gridL b)) ∧ Below w.heap.size w w' := by
  have FIN : Hid (∀ l : List Nat, l.length = 16 → (∀ k, k < 16 → l.getD (A.tp k) 0 = b.getD k 0) → l = A.gridL b) := fun l hl h => by
    refine list_of l 16 (fun p => b.getD (A.tp p) 0) hl fun i hi => ?_
    have := h (A.tp i) (A.tps i hi).1
    rw [(A.tps i hi).2] at this
    exact this
  have HB : Hid (A.ok 16 b) := hb
  have IX : Hid (∀ (i : Nat) (W : World), i < 16 → (Instr.index 57 (.agg (b.map b8).toArray) (.int .i64 (i : Int))).run Try.prog W = .ok (b8 (b.getD i 0)) W) := fun i W hi => run_idxB u_a16 b hb.1 i hi .i64 W
  obtain ⟨x0, x1, x2, x3⟩ := al3 w (b.map b8).toArray #[Value.int IntKind.u8 0, Value.int IntKind.u8 0, Value.int IntKind.u8 0, Value.int IntKind.u8 0, Value.int IntKind.u8 0, Value.int IntKind.u8 0, Value.int IntKind.u8 0, Value.int IntKind.u8 0, Value.int IntKind.u8 0, Value.int IntKind.u8 0, Value.int IntKind.u8 0, Value.int IntKind.u8 0, Value.int IntKind.u8 0, Value.int IntKind.u8 0, Value.int IntKind.u8 0, Value.int IntKind.u8 0] #[Value.int IntKind.u8 0, Value.int IntKind.u8 0, Value.int IntKind.u8 0, Value.int IntKind.u8 0, Value.int IntKind.u8 0, Value.int IntKind.u8 0, Value.int IntKind.u8 0, Value.int IntKind.u8 0, Value.int IntKind.u8 0, Value.int IntKind.u8 0, Value.int IntKind.u8 0, Value.int IntKind.u8 0, Value.int IntKind.u8 0, Value.int IntKind.u8 0, Value.int IntKind.u8 0, Value.int IntKind.u8 0] 57 75 75
  have X0 : Hid (Blk _ w.heap.size (b.map b8)) := x0
  have X1 : Hid (Blk _ (w.heap.size + 1) (zB 16)) := x1
  have X2 : Hid (Blk _ (w.heap.size + 1 + 1) ((List.replicate 16 0).map b8)) := x2
  have X3 : Hid (Below w.heap.size w _) := x3
  clear x0 x1 x2 x3 hb
  go_enter Try.func44, Try.ntmps44
  go_wp2_with (first | simp only [zero_g16] | refine wpList_load_mid rfl 57 (.tmp 1) rfl w.heap.size 0 rfl (b.map b8) _ X0.out.all u_a16 rfl (info_n info_a16 b HB.out.1) ?_)
  generalize World.alloc (World.alloc (w.alloc _) _) _ = w1 at *
  generalize Value.agg (b.map b8).toArray = vB0 at *
  have L0 : Hid ((List.replicate 16 0 : List Nat).length = 16 ∧ ∀ k, k < 0 → (List.replicate 16 0 : List Nat).getD (A.tp k) 0 = b.getD k 0) := ⟨by simp, fun k hk => absurd hk (Nat.not_lt_zero _)⟩
  generalize (List.replicate 16 0 : List Nat) = z2 at *
  clear X0
  go_loopw [7] (fun i wr => ∃ (j : Nat) (l : List Nat), j ≤ 16 ∧ i = .int .i64 (j : Int) ∧ Hid (l.length = 16 ∧ ∀ k, k < j → l.getD (A.tp k) 0 = b.getD k 0) ∧ Hid (Blk wr (w.heap.size + 1) (zB 16)) ∧ Hid (Blk wr (w.heap.size + 1 + 1) (l.map b8)) ∧ Hid (Below w.heap.size w wr)) (fun i _ => 16 - (intOf i).toNat)
  case atStart => exact ⟨0, z2, by omega, rfl, L0, X1, X2, X3⟩
  case round =>
    clear X1 X2 X3 L0
    obtain ⟨j, l, hj, rfl, L2, X1, X2, X3⟩ := hrel
    by_cases hj1 : j < 16
    · have j1 : (j : Int) < 16 := by omega
      have wj : IntKind.i64.wrap ((j : Int) + 1) = (j : Int) + 1 := by rw [IntKind.wrap_i64]; omega
      have IJ := IX.out j wr hj1
      obtain ⟨q, hq⟩ : ∃ q, q = j / 4 := ⟨_, rfl⟩
      obtain ⟨r, hr⟩ : ∃ r, r = j % 4 := ⟨_, rfl⟩
      have m1 : (j : Int).tmod 4 = (r : Int) := by rw [Int.tmod_eq_emod_of_nonneg (by omega)]; omega
      have m2 : (j : Int) % 4 = (r : Int) := by omega
      have d1 : (j : Int).tdiv 4 = (q : Int) := by rw [Int.tdiv_eq_ediv_of_nonneg (by omega)]; omega
      have d2 : (j : Int) / 4 = (q : Int) := by omega
      have wq : IntKind.i64.wrap (q : Int) = (q : Int) := by rw [IntKind.wrap_i64]; omega
      have r4 : (r : Int) < 4 := by omega
      have q4 : (q : Int) < 4 := by omega
      have TP : Hid (A.tp j = r * 4 + q) := by show 4 * (j % 4) + j / 4 = _; omega
      have y1 : r * 4 + q < 16 := by omega
      obtain ⟨bj, hbj⟩ : ∃ v, b.getD j 0 = v := ⟨_, rfl⟩
      have cy := X2.out.byte (r * 4 + q) (by rw [L2.out.1]; exact y1)
      have zy := X2.out.fz (r * 4 + q)
      have Y2 : Hid (Blk (wr.setCell ⟨w.heap.size + 1 + 1, r * 4 + q, none⟩ (b8 bj)) (w.heap.size + 1 + 1) ((l.set (r * 4 + q) bj).map b8)) := X2.out.setB (r * 4 + q) bj (by rw [L2.out.1]; exact y1)
      have Y1 : Hid (Blk (wr.setCell ⟨w.heap.size + 1 + 1, r * 4 + q, none⟩ (b8 bj)) (w.heap.size + 1) (zB 16)) := X1.out.apart1 (by omega)
      have Y3 : Hid (Below w.heap.size w (wr.setCell ⟨w.heap.size + 1 + 1, r * 4 + q, none⟩ (b8 bj))) := X3.out.setCell (p := ⟨w.heap.size + 1 + 1, r * 4 + q, none⟩) (by show w.heap.size ≤ w.heap.size + 1 + 1; omega) _
      have L3 : Hid ((l.set (r * 4 + q) bj).length = 16 ∧ ∀ k, k < j + 1 → (l.set (r * 4 + q) bj).getD (A.tp k) 0 = b.getD k 0) := by
        refine ⟨by rw [List.length_set]; exact L2.out.1, fun k hk => ?_⟩
        rw [getD_set _ _ _ _ (by rw [L2.out.1]; exact y1)]
        rcases Nat.lt_succ_iff_lt_or_eq.1 hk with h1 | rfl
        · rw [if_neg (fun e => by
            have h2 : A.tp k = A.tp j := by rw [TP.out]; exact e.symm
            have := congrArg A.tp h2
            rw [(A.tps k (by omega)).2, (A.tps j hj1).2] at this
            omega)]
          exact L2.out.2 k h1
        · rw [if_pos TP.out.symm, hbj]
      rw [hbj] at IJ
      generalize l.getD (r * 4 + q) 0 = old at *
      generalize l.set (r * 4 + q) bj = l3 at *
      have J1 : Hid (j < 16) := hj1
      clear X1 X2 X3 hbj L2 hq hr hj hj1
      go_wp2_with fail
      go_roundw
      case rel => exact ⟨j + 1, l3, J1.out, by first | rfl | go_num, L3, Y1, Y2, Y3⟩
      case measure => have := J1.out; simp [intOf]; omega
    · obtain rfl : j = 16 := by omega
      have E := FIN.out l L2.out.1 L2.out.2
      have HE : Hid (l = A.gridL b) := E
      have LL : Hid (l.length = 16) := L2.out.1
      clear L2 FIN E hj hj1 IX
      have T0 : Hid (wr.there (w.heap.size + 1) 0 (l.map b8).length) := X1.out.there (by rw [List.length_map, LL.out, zB_length]; omega)
      go_wp2_with (first | refine wpList_load_mid rfl 75 (.tmp 3) rfl (w.heap.size + 1 + 1) 0 rfl (l.map b8) _ X2.out.all u_g16 rfl (info_n info_g16 l LL.out) ?_ | refine wp_store_eq rfl 75 (.tmp 2) (.tmp 19) rfl (w.heap.size + 1) 0 (l.map b8) rfl rfl T0.out (info_n info_g16 l LL.out) (one_b8 _) ?_)
      intro w9 hw9
      go_wp2_with fail
      refine bodyPost_ret (v := aB l) ?_ rfl ⟨by rw [HE.out], ?_⟩
      · rw [hw9.out]
        exact results_cell (b := w.heap.size + 1) rfl rfl (World.rangeAt_setCells_same _ _ _ _ T0.out) u_g16 rfl (info_n info_g16 l LL.out)
      · rw [hw9.out]
        exact below_setCells _ _ _ X3.out (by omega)
set_option maxRecDepth 20000 in
set_option maxHeartbeats 1000000 in
theorem rungrid_fun (g : List Nat) (hg : A.ok 16 g) (w : World) : Calls Try.prog 47 #[aB g] w fun e w' => e = .returned (aB (A.gridL g)) ∧ Below w.heap.size w w' := by
  obtain ⟨f, hf⟩ : ∃ f : Nat → Nat, f = fun p => g.getD (A.tp p) 0 := ⟨_, rfl⟩
  have FE : Hid ((List.range 16).map f = A.gridL g ∧ ∀ p, g.getD (A.tp p) 0 = f p) := by rw [hf]; exact ⟨rfl, fun _ => rfl⟩
  have HG : Hid (A.ok 16 g) := hg
  obtain ⟨x0, x1, x2, x3⟩ := al3 w (g.map b8).toArray #[Value.int IntKind.u8 0, Value.int IntKind.u8 0, Value.int IntKind.u8 0, Value.int IntKind.u8 0, Value.int IntKind.u8 0, Value.int IntKind.u8 0, Value.int IntKind.u8 0, Value.int IntKind.u8 0, Value.int IntKind.u8 0, Value.int IntKind.u8 0, Value.int IntKind.u8 0, Value.int IntKind.u8 0, Value.int IntKind.u8 0, Value.int IntKind.u8 0, Value.int IntKind.u8 0, Value.int IntKind.u8 0] #[Value.int IntKind.u8 0, Value.int IntKind.u8 0, Value.int IntKind.u8 0, Value.int IntKind.u8 0, Value.int IntKind.u8 0, Value.int IntKind.u8 0, Value.int IntKind.u8 0, Value.int IntKind.u8 0, Value.int IntKind.u8 0, Value.int IntKind.u8 0, Value.int IntKind.u8 0, Value.int IntKind.u8 0, Value.int IntKind.u8 0, Value.int IntKind.u8 0, Value.int IntKind.u8 0, Value.int IntKind.u8 0] 75 57 57
  have X0 : Hid (Blk _ w.heap.size (g.map b8)) := x0
  have X1 : Hid (Blk _ (w.heap.size + 1) (zB 16)) := x1
  rw [show (#[Value.int IntKind.u8 0, Value.int IntKind.u8 0, Value.int IntKind.u8 0, Value.int IntKind.u8 0, Value.int IntKind.u8 0, Value.int IntKind.u8 0, Value.int IntKind.u8 0, Value.int IntKind.u8 0, Value.int IntKind.u8 0, Value.int IntKind.u8 0, Value.int IntKind.u8 0, Value.int IntKind.u8 0, Value.int IntKind.u8 0, Value.int IntKind.u8 0, Value.int IntKind.u8 0, Value.int IntKind.u8 0] : Array Value).toList = (upL f 16 0).map b8 by rw [upL_zero]; rfl] at x2
  have X2 : Hid (Blk _ (w.heap.size + 1 + 1) ((upL f 16 0).map b8)) := x2
  have X3 : Hid (Below w.heap.size w _) := x3
  clear x0 x1 x2 x3 hg hf
  go_enter Try.func47, Try.ntmps47
  go_wp2_with (simp only [zero_a16])
  generalize World.alloc (World.alloc (w.alloc _) _) _ = w1 at *
  go_loopw [5] (fun i wr => ∃ j : Nat, j ≤ 16 ∧ i = .int .i64 (j : Int) ∧ Hid (Blk wr w.heap.size (g.map b8)) ∧ Hid (Blk wr (w.heap.size + 1) (zB 16)) ∧ Hid (Blk wr (w.heap.size + 1 + 1) ((upL f 16 j).map b8)) ∧ Hid (Below w.heap.size w wr)) (fun i _ => 16 - (intOf i).toNat)
  case atStart => exact ⟨0, by omega, rfl, X0, X1, X2, X3⟩
  case round =>
    clear X0 X1 X2 X3
    obtain ⟨j, hj, rfl, X0, X1, X2, X3⟩ := hrel
    by_cases hj1 : j < 16
    · have j1 : (j : Int) < 16 := by omega
      have wj : IntKind.i64.wrap ((j : Int) + 1) = (j : Int) + 1 := by rw [IntKind.wrap_i64]; omega
      obtain ⟨q, hq⟩ : ∃ q, q = j / 4 := ⟨_, rfl⟩
      obtain ⟨r, hr⟩ : ∃ r, r = j % 4 := ⟨_, rfl⟩
      have m1 : (j : Int).tmod 4 = (r : Int) := by rw [Int.tmod_eq_emod_of_nonneg (by omega)]; omega
      have m2 : (j : Int) % 4 = (r : Int) := by omega
      have d1 : (j : Int).tdiv 4 = (q : Int) := by rw [Int.tdiv_eq_ediv_of_nonneg (by omega)]; omega
      have d2 : (j : Int) / 4 = (q : Int) := by omega
      have wq : IntKind.i64.wrap (q : Int) = (q : Int) := by rw [IntKind.wrap_i64]; omega
      have r4 : (r : Int) < 4 := by omega
      have q4 : (q : Int) < 4 := by omega
      have TP : A.tp j = r * 4 + q := by show 4 * (j % 4) + j / 4 = _; omega
      have cg := X0.out.byte (r * 4 + q) (by rw [HG.out.1]; omega)
      rw [← TP, FE.out.2 j, TP] at cg
      have cj := X2.out.byte j (by rw [upL_length _ _ _ hj]; exact hj1)
      have zj := X2.out.fz j
      have Y2 : Hid (Blk (wr.setCell ⟨w.heap.size + 1 + 1, j, none⟩ (b8 (f j))) (w.heap.size + 1 + 1) ((upL f 16 (j + 1)).map b8)) := by
        rw [← upL_set f 16 j hj1]
        exact X2.out.setB j (f j) (by rw [upL_length _ _ _ hj]; exact hj1)
      have Y0 : Hid (Blk (wr.setCell ⟨w.heap.size + 1 + 1, j, none⟩ (b8 (f j))) w.heap.size (g.map b8)) := X0.out.apart1 (by omega)
      have Y1 : Hid (Blk (wr.setCell ⟨w.heap.size + 1 + 1, j, none⟩ (b8 (f j))) (w.heap.size + 1) (zB 16)) := X1.out.apart1 (by omega)
      have Y3 : Hid (Below w.heap.size w (wr.setCell ⟨w.heap.size + 1 + 1, j, none⟩ (b8 (f j)))) := X3.out.setCell (p := ⟨w.heap.size + 1 + 1, j, none⟩) (by show w.heap.size ≤ w.heap.size + 1 + 1; omega) _
      generalize (upL f 16 j).getD j 0 = old at *
      generalize f j = fj at *
      have J1 : Hid (j < 16) := hj1
      clear X0 X1 X2 X3 hq hr hj hj1 TP
      go_wp2_with fail
      go_roundw
      case rel => exact ⟨j + 1, J1.out, by first | rfl | go_num, Y0, Y1, Y2, Y3⟩
      case measure => have := J1.out; simp [intOf]; omega
    · obtain rfl : j = 16 := by omega
      rw [upL_all, FE.out.1] at X2
      have LL : Hid ((A.gridL g).length = 16) := (A.gridL_ok HG.out).1
      obtain ⟨l, hl⟩ : ∃ l, l = A.gridL g := ⟨_, rfl⟩
      rw [← hl] at X2 LL
      have HE : Hid (l = A.gridL g) := hl
      clear hl hj hj1
      have T0 : Hid (wr.there (w.heap.size + 1) 0 (l.map b8).length) := X1.out.there (by rw [List.length_map, LL.out, zB_length]; omega)
      go_wp2_with (first | refine wpList_load_mid rfl 57 (.tmp 3) rfl (w.heap.size + 1 + 1) 0 rfl (l.map b8) _ X2.out.all u_a16 rfl (info_n info_a16 l LL.out) ?_ | refine wp_store_eq rfl 57 (.tmp 2) (.tmp 18) rfl (w.heap.size + 1) 0 (l.map b8) rfl rfl T0.out (info_n info_a16 l LL.out) (one_b8 _) ?_)
      intro w9 hw9
      go_wp2_with fail
      refine bodyPost_ret (v := aB l) ?_ rfl ⟨by rw [HE.out], ?_⟩
      · rw [hw9.out]
        exact results_cell (b := w.heap.size + 1) rfl rfl (World.rangeAt_setCells_same _ _ _ _ T0.out) u_a16 rfl (info_n info_a16 l LL.out)
      · rw [hw9.out]
        exact below_setCells _ _ _ X3.out (by omega)
end Go.Proofs.Ytejabkmhpiabnaa
