/- The contracts of sealringref.grid and ungrid: a block as rows of columns, and back. -/
import Derived.Test.YtejabkmhpiabnaaAMath
import Derived.Test.YtejabkmhpiabnaaRCol
namespace Go.Proofs.Ytejabkmhpiabnaa
open Go.RowKit
set_option linter.unusedSimpArgs false
namespace A
/-- Rows for columns. -/
def tp (p : Nat) : Nat := 4 * (p % 4) + p / 4
theorem tps : ∀ p < 16, tp p < 16 ∧ tp (tp p) = p := by decide
def gridL (b : List Nat) : List Nat := by_ 16 fun p => b.getD (tp p) 0
theorem gridL_ok {b : List Nat} (h : ok 16 b) : ok 16 (gridL b) := by_ok fun _ _ => h.at _
theorem grid_grid {b : List Nat} (h : ok 16 b) : gridL (gridL b) = b := by
  refine Eq.trans (by_congr fun p hp => ?_) (by_self h.1)
  unfold gridL
  rw [by_get (tps p hp).1, (tps p hp).2]
end A
theorem u_a16 : Try.prog.underlying 57 = some (.array 16 5) := by kernel_rfl
theorem info_a16 : (Try.prog.info? 57).map (·.size) = some 16 := by kernel_rfl
theorem u_g16 : Try.prog.underlying 75 = some (.array 4 23) := by kernel_rfl
theorem info_g16 : (Try.prog.info? 75).map (·.size) = some 16 := by kernel_rfl
theorem zero_a16 (w : World) : (zeroValue 57).run Try.prog w = .ok (.agg (zB 16).toArray) w := zero_of (by kernel_rfl) w
theorem zero_g16 (w : World) : (zeroValue 75).run Try.prog w = .ok (.agg (zB 16).toArray) w := zero_of (by kernel_rfl) w
set_option maxRecDepth 20000 in
set_option maxHeartbeats 1000000 in
theorem rgrid_fun (b : List Nat) (hb : A.ok 16 b) (w : World) : Calls Try.prog 44 #[aB b] w fun e w' => e = .returned (aB (A.gridL b)) ∧ Below w.heap.size w w' := by
  have FIN : Hid (∀ l : List Nat, l.length = 16 → (∀ k, k < 16 → l.getD (A.tp k) 0 = b.getD k 0) → l = A.gridL b) := fun l hl h => by
    refine list_of l 16 (fun p => b.getD (A.tp p) 0) hl fun i hi => ?_
    have := h (A.tp i) (A.tps i hi).1
    rw [(A.tps i hi).2] at this
    exact this
  have HB : Hid (A.ok 16 b) := hb
  have IX : Hid (∀ (i : Nat) (W : World), i < 16 → (Instr.index 57 (.agg (b.map b8).toArray) (.int .i64 (i : Int))).run Try.prog W = .ok (b8 (b.getD i 0)) W) := fun i W hi => run_idxB u_a16 b hb.1 i hi .i64 W
  obtain ⟨x0, x1, x2, x3⟩ := al3 w (b.map b8).toArray #[Value.int IntKind.u8 0, Value.int IntKind.u8 0, Value.int IntKind.u8 0, Value.int IntKind.u8 0, Value.int IntKind.u8 0, Value.int IntKind.u8 0, Value.int IntKind.u8 0, Value.int IntKind.u8 0, Value.int IntKind.u8 0, Value.int IntKind.u8 0, Value.int IntKind.u8 0, Value.int IntKind.u8 0, Value.int IntKind.u8 0, Value.int IntKind.u8 0, Value.int IntKind.u8 0, Value.int IntKind.u8 0] #[Value.int IntKind.u8 0, Value.int IntKind.u8 0, Value.int IntKind.u8 0, Value.int IntKind.u8 0, Value.int IntKind.u8 0, Value.int IntKind.u8 0, Value.int IntKind.u8 0, Value.int IntKind.u8 0, Value.int IntKind.u8 0, Value.int IntKind.u8 0, Value.int IntKind.u8 0, Value.int IntKind.u8 0, Value.int IntKind.u8 0, Value.int IntKind.u8 0, Value.int IntKind.u8 0, Value.int IntKind.u8 0] 57 75 75
  have X0 : Hid (Blk _ w.heap.size (b.map b8)) := x0
  have X1 : Hid (Blk _ (w.heap.size + 1) (zB 16)) := x1
  have X2 : Hid (Blk _ (w.heap.size + 1 + 1) ((List.replicate 16 0).map b8)) := x2
  have X3 : Hid (Below w.heap.size w _) := x3
  clear x0 x1 x2 x3 hb
  go_enter Try.func44, Try.ntmps44
  go_wp2_with (first | simp only [zero_g16] | refine wpList_load_mid rfl 57 (.tmp 1) rfl w.heap.size 0 rfl (b.map b8) _ X0.out.all u_a16 rfl (info_n info_a16 b HB.out.1) ?_)
  generalize World.alloc (World.alloc (w.alloc _) _) _ = w1 at *
  generalize Value.agg (b.map b8).toArray = vB0 at *
  have L0 : Hid ((List.replicate 16 0 : List Nat).length = 16 ∧ ∀ k, k < 0 → (List.replicate 16 0 : List Nat).getD (A.tp k) 0 = b.getD k 0) := ⟨by simp, fun k hk => absurd hk (Nat.not_lt_zero _)⟩
  generalize (List.replicate 16 0 : List Nat) = z2 at *
  clear X0
  go_loopw [7] (fun i wr => ∃ (j : Nat) (l : List Nat), j ≤ 16 ∧ i = .int .i64 (j : Int) ∧ Hid (l.length = 16 ∧ ∀ k, k < j → l.getD (A.tp k) 0 = b.getD k 0) ∧ Hid (Blk wr (w.heap.size + 1) (zB 16)) ∧ Hid (Blk wr (w.heap.size + 1 + 1) (l.map b8)) ∧ Hid (Below w.heap.size w wr)) (fun i _ => 16 - (intOf i).toNat)
  case atStart => exact ⟨0, z2, by omega, rfl, L0, X1, X2, X3⟩
  case round =>
    clear X1 X2 X3 L0
    obtain ⟨j, l, hj, rfl, L2, X1, X2, X3⟩ := hrel
    by_cases hj1 : j < 16
    · have j1 : (j : Int) < 16 := by omega
      have wj : IntKind.i64.wrap ((j : Int) + 1) = (j : Int) + 1 := by rw [IntKind.wrap_i64]; omega
      have IJ := IX.out j wr hj1
      obtain ⟨q, hq⟩ : ∃ q, q = j / 4 := ⟨_, rfl⟩
      obtain ⟨r, hr⟩ : ∃ r, r = j % 4 := ⟨_, rfl⟩
      have m1 : (j : Int).tmod 4 = (r : Int) := by rw [Int.tmod_eq_emod_of_nonneg (by omega)]; omega
      have m2 : (j : Int) % 4 = (r : Int) := by omega
      have d1 : (j : Int).tdiv 4 = (q : Int) := by rw [Int.tdiv_eq_ediv_of_nonneg (by omega)]; omega
      have d2 : (j : Int) / 4 = (q : Int) := by omega
      have wq : IntKind.i64.wrap (q : Int) = (q : Int) := by rw [IntKind.wrap_i64]; omega
      have r4 : (r : Int) < 4 := by omega
      have q4 : (q : Int) < 4 := by omega
      have TP : Hid (A.tp j = r * 4 + q) := by show 4 * (j % 4) + j / 4 = _; omega
      have y1 : r * 4 + q < 16 := by omega
      obtain ⟨bj, hbj⟩ : ∃ v, b.getD j 0 = v := ⟨_, rfl⟩
      have cy := X2.out.byte (r * 4 + q) (by rw [L2.out.1]; exact y1)
      have zy := X2.out.fz (r * 4 + q)
      have Y2 : Hid (Blk (wr.setCell ⟨w.heap.size + 1 + 1, r * 4 + q, none⟩ (b8 bj)) (w.heap.size + 1 + 1) ((l.set (r * 4 + q) bj).map b8)) := X2.out.setB (r * 4 + q) bj (by rw [L2.out.1]; exact y1)
      have Y1 : Hid (Blk (wr.setCell ⟨w.heap.size + 1 + 1, r * 4 + q, none⟩ (b8 bj)) (w.heap.size + 1) (zB 16)) := X1.out.apart1 (by omega)
      have Y3 : Hid (Below w.heap.size w (wr.setCell ⟨w.heap.size + 1 + 1, r * 4 + q, none⟩ (b8 bj))) := X3.out.setCell (p := ⟨w.heap.size + 1 + 1, r * 4 + q, none⟩) (by show w.heap.size ≤ w.heap.size + 1 + 1; omega) _
      have L3 : Hid ((l.set (r * 4 + q) bj).length = 16 ∧ ∀ k, k < j + 1 → (l.set (r * 4 + q) bj).getD (A.tp k) 0 = b.getD k 0) := by
        refine ⟨by rw [List.length_set]; exact L2.out.1, fun k hk => ?_⟩
        rw [getD_set _ _ _ _ (by rw [L2.out.1]; exact y1)]
        rcases Nat.lt_succ_iff_lt_or_eq.1 hk with h1 | rfl
        · rw [if_neg (fun e => by
            have h2 : A.tp k = A.tp j := by rw [TP.out]; exact e.symm
            have := congrArg A.tp h2
            rw [(A.tps k (by omega)).2, (A.tps j hj1).2] at this
            omega)]
          exact L2.out.2 k h1
        · rw [if_pos TP.out.symm, hbj]
      rw [hbj] at IJ
      generalize l.getD (r * 4 + q) 0 = old at *
      generalize l.set (r * 4 + q) bj = l3 at *
      have J1 : Hid (j < 16) := hj1
      clear X1 X2 X3 hbj L2 hq hr hj hj1
      go_wp2_with fail
      go_roundw
      case rel => exact ⟨j + 1, l3, J1.out, by first | rfl | go_num, L3, Y1, Y2, Y3⟩
      case measure => have := J1.out; simp [intOf]; omega
    · obtain rfl : j = 16 := by omega
      have E := FIN.out l L2.out.1 L2.out.2
      have HE : Hid (l = A.gridL b) := E
      have LL : Hid (l.length = 16) := L2.out.1
      clear L2 FIN E hj hj1 IX
      have T0 : Hid (wr.there (w.heap.size + 1) 0 (l.map b8).length) := X1.out.there (by rw [List.length_map, LL.out, zB_length]; omega)
      go_wp2_with (first | refine wpList_load_mid rfl 75 (.tmp 3) rfl (w.heap.size + 1 + 1) 0 rfl (l.map b8) _ X2.out.all u_g16 rfl (info_n info_g16 l LL.out) ?_ | refine wp_store_eq rfl 75 (.tmp 2) (.tmp 19) rfl (w.heap.size + 1) 0 (l.map b8) rfl rfl T0.out (info_n info_g16 l LL.out) (one_b8 _) ?_)
      intro w9 hw9
      go_wp2_with fail
      refine bodyPost_ret (v := aB l) ?_ rfl ⟨by rw [HE.out], ?_⟩
      · rw [hw9.out]
        exact results_cell (b := w.heap.size + 1) rfl rfl (World.rangeAt_setCells_same _ _ _ _ T0.out) u_g16 rfl (info_n info_g16 l LL.out)
      · rw [hw9.out]
        exact below_setCells _ _ _ X3.out (by omega)
set_option maxRecDepth 20000 in
set_option maxHeartbeats 1000000 in
theorem rungrid_fun (g : List Nat) (hg : A.ok 16 g) (w : World) : Calls Try.prog 47 #[aB g] w fun e w' => e = .returned (aB (A.gridL g)) ∧ Below w.heap.size w w' := by
  obtain ⟨f, hf⟩ : ∃ f : Nat → Nat, f = fun p => g.getD (A.tp p) 0 := ⟨_, rfl⟩
  have FE : Hid ((List.range 16).map f = A.gridL g ∧ ∀ p, g.getD (A.tp p) 0 = f p) := by rw [hf]; exact ⟨rfl, fun _ => rfl⟩
  have HG : Hid (A.ok 16 g) := hg
  obtain ⟨x0, x1, x2, x3⟩ := al3 w (g.map b8).toArray #[Value.int IntKind.u8 0, Value.int IntKind.u8 0, Value.int IntKind.u8 0, Value.int IntKind.u8 0, Value.int IntKind.u8 0, Value.int IntKind.u8 0, Value.int IntKind.u8 0, Value.int IntKind.u8 0, Value.int IntKind.u8 0, Value.int IntKind.u8 0, Value.int IntKind.u8 0, Value.int IntKind.u8 0, Value.int IntKind.u8 0, Value.int IntKind.u8 0, Value.int IntKind.u8 0, Value.int IntKind.u8 0] #[Value.int IntKind.u8 0, Value.int IntKind.u8 0, Value.int IntKind.u8 0, Value.int IntKind.u8 0, Value.int IntKind.u8 0, Value.int IntKind.u8 0, Value.int IntKind.u8 0, Value.int IntKind.u8 0, Value.int IntKind.u8 0, Value.int IntKind.u8 0, Value.int IntKind.u8 0, Value.int IntKind.u8 0, Value.int IntKind.u8 0, Value.int IntKind.u8 0, Value.int IntKind.u8 0, Value.int IntKind.u8 0] 75 57 57
  have X0 : Hid (Blk _ w.heap.size (g.map b8)) := x0
  have X1 : Hid (Blk _ (w.heap.size + 1) (zB 16)) := x1
  rw [show (#[Value.int IntKind.u8 0, Value.int IntKind.u8 0, Value.int IntKind.u8 0, Value.int IntKind.u8 0, Value.int IntKind.u8 0, Value.int IntKind.u8 0, Value.int IntKind.u8 0, Value.int IntKind.u8 0, Value.int IntKind.u8 0, Value.int IntKind.u8 0, Value.int IntKind.u8 0, Value.int IntKind.u8 0, Value.int IntKind.u8 0, Value.int IntKind.u8 0, Value.int IntKind.u8 0, Value.int IntKind.u8 0] : Array Value).toList = (upL f 16 0).map b8 by rw [upL_zero]; rfl] at x2
  have X2 : Hid (Blk _ (w.heap.size + 1 + 1) ((upL f 16 0).map b8)) := x2
  have X3 : Hid (Below w.heap.size w _) := x3
  clear x0 x1 x2 x3 hg hf
  go_enter Try.func47, Try.ntmps47
  go_wp2_with (simp only [zero_a16])
  generalize World.alloc (World.alloc (w.alloc _) _) _ = w1 at *
  go_loopw [5] (fun i wr => ∃ j : Nat, j ≤ 16 ∧ i = .int .i64 (j : Int) ∧ Hid (Blk wr w.heap.size (g.map b8)) ∧ Hid (Blk wr (w.heap.size + 1) (zB 16)) ∧ Hid (Blk wr (w.heap.size + 1 + 1) ((upL f 16 j).map b8)) ∧ Hid (Below w.heap.size w wr)) (fun i _ => 16 - (intOf i).toNat)
  case atStart => exact ⟨0, by omega, rfl, X0, X1, X2, X3⟩
  case round =>
    clear X0 X1 X2 X3
    obtain ⟨j, hj, rfl, X0, X1, X2, X3⟩ := hrel
    by_cases hj1 : j < 16
    · have j1 : (j : Int) < 16 := by omega
      have wj : IntKind.i64.wrap ((j : Int) + 1) = (j : Int) + 1 := by rw [IntKind.wrap_i64]; omega
      obtain ⟨q, hq⟩ : ∃ q, q = j / 4 := ⟨_, rfl⟩
      obtain ⟨r, hr⟩ : ∃ r, r = j % 4 := ⟨_, rfl⟩
      have m1 : (j : Int).tmod 4 = (r : Int) := by rw [Int.tmod_eq_emod_of_nonneg (by omega)]; omega
      have m2 : (j : Int) % 4 = (r : Int) := by omega
      have d1 : (j : Int).tdiv 4 = (q : Int) := by rw [Int.tdiv_eq_ediv_of_nonneg (by omega)]; omega
      have d2 : (j : Int) / 4 = (q : Int) := by omega
      have wq : IntKind.i64.wrap (q : Int) = (q : Int) := by rw [IntKind.wrap_i64]; omega
      have r4 : (r : Int) < 4 := by omega
      have q4 : (q : Int) < 4 := by omega
      have TP : A.tp j = r * 4 + q := by show 4 * (j % 4) + j / 4 = _; omega
      have cg := X0.out.byte (r * 4 + q) (by rw [HG.out.1]; omega)
      rw [← TP, FE.out.2 j, TP] at cg
      have cj := X2.out.byte j (by rw [upL_length _ _ _ hj]; exact hj1)
      have zj := X2.out.fz j
      have Y2 : Hid (Blk (wr.setCell ⟨w.heap.size + 1 + 1, j, none⟩ (b8 (f j))) (w.heap.size + 1 + 1) ((upL f 16 (j + 1)).map b8)) := by
        rw [← upL_set f 16 j hj1]
        exact X2.out.setB j (f j) (by rw [upL_length _ _ _ hj]; exact hj1)
      have Y0 : Hid (Blk (wr.setCell ⟨w.heap.size + 1 + 1, j, none⟩ (b8 (f j))) w.heap.size (g.map b8)) := X0.out.apart1 (by omega)
      have Y1 : Hid (Blk (wr.setCell ⟨w.heap.size + 1 + 1, j, none⟩ (b8 (f j))) (w.heap.size + 1) (zB 16)) := X1.out.apart1 (by omega)
      have Y3 : Hid (Below w.heap.size w (wr.setCell ⟨w.heap.size + 1 + 1, j, none⟩ (b8 (f j)))) := X3.out.setCell (p := ⟨w.heap.size + 1 + 1, j, none⟩) (by show w.heap.size ≤ w.heap.size + 1 + 1; omega) _
      generalize (upL f 16 j).getD j 0 = old at *
      generalize f j = fj at *
      have J1 : Hid (j < 16) := hj1
      clear X0 X1 X2 X3 hq hr hj hj1 TP
      go_wp2_with fail
      go_roundw
      case rel => exact ⟨j + 1, J1.out, by first | rfl | go_num, Y0, Y1, Y2, Y3⟩
      case measure => have := J1.out; simp [intOf]; omega
    · obtain rfl : j = 16 := by omega
      rw [upL_all, FE.out.1] at X2
      have LL : Hid ((A.gridL g).length = 16) := (A.gridL_ok HG.out).1
      obtain ⟨l, hl⟩ : ∃ l, l = A.gridL g := ⟨_, rfl⟩
      rw [← hl] at X2 LL
      have HE : Hid (l = A.gridL g) := hl
      clear hl hj hj1
      have T0 : Hid (wr.there (w.heap.size + 1) 0 (l.map b8).length) := X1.out.there (by rw [List.length_map, LL.out, zB_length]; omega)
      go_wp2_with (first | refine wpList_load_mid rfl 57 (.tmp 3) rfl (w.heap.size + 1 + 1) 0 rfl (l.map b8) _ X2.out.all u_a16 rfl (info_n info_a16 l LL.out) ?_ | refine wp_store_eq rfl 57 (.tmp 2) (.tmp 18) rfl (w.heap.size + 1) 0 (l.map b8) rfl rfl T0.out (info_n info_a16 l LL.out) (one_b8 _) ?_)
      intro w9 hw9
      go_wp2_with fail
      refine bodyPost_ret (v := aB l) ?_ rfl ⟨by rw [HE.out], ?_⟩
      · rw [hw9.out]
        exact results_cell (b := w.heap.size + 1) rfl rfl (World.rangeAt_setCells_same _ _ _ _ T0.out) u_a16 rfl (info_n info_a16 l LL.out)
      · rw [hw9.out]
        exact below_setCells _ _ _ X3.out (by omega)
end Go.Proofs.Ytejabkmhpiabnaa
