/- GfMix returns true for every two columns. -/
import Derived.Test.YtohgnkpaaocjmaaGfTells
import Derived.Test.YtohgnkpaaocjmaaGMix
import Derived.Test.YtohgnkpaaocjmaaUpA
namespace Go.Proofs.Ytohgnkpaaocjmaa
open Go.RowKit
set_option linter.unusedSimpArgs false
attribute [local go_sem] YieldsP execOp
attribute [local simp] MP.eq_p
theorem GfC.mixl {Tb : World → Prop} (C : GfC Tb) {l : List Nat} (h : G.four l) (w : World) (hT : Tb w) : Calls Try.prog 19 #[aB l] w fun e w' => e = .returned (aB (G.mixL l)) ∧ Below w.heap.size w w' := by
  obtain ⟨a, b, c, d, rfl, ha, hb, hc, hd⟩ := h.ex
  exact C.mix a b c d ha hb hc hd w hT
theorem GfC.unmixl {Tb : World → Prop} (C : GfC Tb) {l : List Nat} (h : G.four l) (w : World) (hT : Tb w) : Calls Try.prog 21 #[aB l] w fun e w' => e = .returned (aB (G.unmixL l)) ∧ Below w.heap.size w w' := by
  obtain ⟨a, b, c, d, rfl, ha, hb, hc, hd⟩ := h.ex
  exact C.unmix a b c d ha hb hc hd w hT
theorem BZ : Try.prog.built 23 [] = some ([0, 0, 0, 0].map b8).toArray := by kernel_rfl
theorem RowB4 {w : World} {k : Nat} (h : w.heap[k]? = some (.cells #[Value.int IntKind.u8 0, Value.int IntKind.u8 0, Value.int IntKind.u8 0, Value.int IntKind.u8 0] 23)) : Blk w k ((List.replicate 4 0).map b8) := by
  refine ⟨(Array.getElem?_eq_some_iff.1 h).1, fun j v hv => ?_, fun j => ?_⟩
  · rw [cell_of_row _ _ j _ _ _ h, ← Array.getElem?_toList]; exact hv
  · unfold World.frozen?
    rw [h]
    simp
set_option maxRecDepth 20000 in
set_option maxHeartbeats 4000000 in
theorem gfMix_of {Tb : World → Prop} (C : GfC Tb) (c d : List Nat) (hc : G.four c) (hd : G.four d) (w : World) (hT : Tb w) :
    Calls Try.prog 8 #[aB c, aB d] w fun e w' => e = .returned (.bool true) ∧ Below w.heap.size w w' := by
  have TB : Hid (∀ W, Below w.heap.size w W → Tb W) := C.all hT
  have MC : Hid _ := fun W h => C.mixl hc W h
  have MD : Hid _ := fun W h => C.mixl hd W h
  have MB : Hid _ := fun W h => C.mixl (G.xor4L_four hc hd) W h
  rw [G.mixL_xor hc hd] at MB
  have UX : Hid _ := fun W h => C.unmixl (G.mixL_four hc) W h
  rw [G.unmixL_mixL hc] at UX
  have UC : Hid _ := fun W h => C.unmixl hc W h
  have MU : Hid _ := fun W h => C.mixl (G.unmixL_four hc) W h
  rw [G.mixL_unmixL hc] at MU
  have M2 : Hid _ := fun W h => C.mixl (G.mixL_four hc) W h
  have M3 : Hid _ := fun W h => C.mixl (G.mixL_four (G.mixL_four hc)) W h
  have M4 : Hid _ := fun W h => C.mixl (G.mixL_four (G.mixL_four (G.mixL_four hc))) W h
  rw [G.mixL_mixL4 hc] at M4
  have BR : Hid _ := G.cnt_branch hc
  have CL : Hid (G.four c) := hc
  have DL : Hid (G.four d) := hd
  have XL : Hid (G.four (G.mixL c)) := G.mixL_four hc
  have YL : Hid (G.four (G.mixL d)) := G.mixL_four hd
  have XYL : Hid (G.four (G.xor4L (G.mixL c) (G.mixL d))) := G.xor4L_four (G.mixL_four hc) (G.mixL_four hd)
  generalize G.mixL (G.mixL (G.mixL c)) = x3 at *
  generalize G.mixL (G.mixL c) = x2 at *
  generalize G.mixL c = x at *
  generalize G.mixL d = y at *
  generalize G.unmixL c = uc at *
  clear hT C hc hd
  obtain ⟨x0, x1, x2'⟩ := al2 w (c.map b8).toArray (d.map b8).toArray 23 23
  have A0 : Hid (Blk _ w.heap.size (c.map b8)) := x0
  have A1 : Hid (Blk _ (w.heap.size + 1) (d.map b8)) := x1
  have A2 : Hid (Below w.heap.size w _) := x2'
  clear x0 x1 x2'
  go_enter Try.func8, Try.ntmps8
  go_wp2_with fail
  generalize World.alloc (w.alloc _) _ = w1 at *
  refine wp_region_alloc2 4 (.cells #[Value.int IntKind.u8 0, Value.int IntKind.u8 0, Value.int IntKind.u8 0, Value.int IntKind.u8 0] 23) (.cells #[Value.int IntKind.u8 0, Value.int IntKind.u8 0, Value.int IntKind.u8 0, Value.int IntKind.u8 0] 23) (by kernel_rfl) (by kernel_rfl) (by kernel_rfl) (by kernel_rfl) (by decide) (fun _ _ d _ _ h => by cases d <;> exact h) rfl rfl rfl rfl (by decide) (fun _ _ => by kernel_rfl) (fun _ _ => by kernel_rfl) ?_
  apply Exists.intro
  refine ⟨fun U hU f hf hcl => ?_, fun k2 k3 w2 hb2 hk2 hk3 hn2 hc2 hd2 => ?_⟩
  · have R0 : Hid (∀ n, (f n).rangeAt w.heap.size 0 (c.map b8)) := fun n => (A0.out.up (hf n).out A0.out.lt).all
    have R1 : Hid (∀ n, (f n).rangeAt (w.heap.size + 1) 0 (d.map b8)) := fun n => (A1.out.up (hf n).out A1.out.lt).all
    have TF : Hid (∀ n, Tb (f n)) := fun n => TB.out _ (A2.out.trans ((hf n).out.mono A2.out.size))
    clear hf
    simp only [List.take_succ_cons, List.take_zero]
    repeat (first | (refine quietA_ld rfl u_a4 info_a4 (.tmp 2) rfl w.heap.size 0 rfl c CL.out.1 (fun W hW => by obtain ⟨n, rfl⟩ := hW; exact R0.out n) ?_; simp only [Act.put, List.setIfInBounds_toArray, List.set_cons_succ, List.set_cons_zero]) | (refine quietA_ld rfl u_a4 info_a4 (.tmp 3) rfl (w.heap.size + 1) 0 rfl d DL.out.1 (fun W hW => by obtain ⟨n, rfl⟩ := hW; exact R1.out n) ?_; simp only [Act.put, List.setIfInBounds_toArray, List.set_cons_succ, List.set_cons_zero]) | go_big_quiet_step (first | (go_at_call 19; exact (MC.out _ (TF.out _)).mono fun e w'' ⟨he, hb⟩ => ⟨he, hcl.out _ _ hb⟩) | (go_at_call 19; exact (MD.out _ (TF.out _)).mono fun e w'' ⟨he, hb⟩ => ⟨he, hcl.out _ _ hb⟩)))
    exact wpQuiet_nil rfl
  simp only [List.drop_succ_cons, List.drop_zero]
  have sz := hb2.out.size
  have lt1 := A1.out.lt
  have Z2 : Hid (Blk w2 k2 ((List.replicate 4 0).map b8)) := RowB4 hc2.out
  have Z3 : Hid (Blk w2 k3 ((List.replicate 4 0).map b8)) := RowB4 hd2.out
  have B0 : Hid (Blk w2 w.heap.size (c.map b8)) := A0.out.up hb2.out A0.out.lt
  have B1 : Hid (Blk w2 (w.heap.size + 1) (d.map b8)) := A1.out.up hb2.out A1.out.lt
  have D2 : Hid (Below w.heap.size w w2) := A2.out.trans (hb2.out.mono A2.out.size)
  have NE : Hid (w.heap.size + 1 < k2 ∧ w.heap.size + 1 < k3 ∧ k2 ≠ k3) := ⟨Nat.lt_of_lt_of_le lt1 hk2, Nat.lt_of_lt_of_le lt1 hk3, hn2.out⟩
  clear hb2 hk2 hk3 hn2 hc2 hd2 sz lt1 A0 A1 A2
  have T2 : Hid (w2.there k2 0 (x.map b8).length) := Z2.out.there (by rw [List.length_map, XL.out.1]; simp)
  go_wp2_with (refine wp_store_eq rfl 23 (.tmp 5) (.tmp 13) rfl k2 0 (x.map b8) rfl rfl T2.out (info_n info_a4 x XL.out.1) (one_b8 _) ?_)
  intro w3 hw3
  have E0 : Hid (Blk w3 w.heap.size (c.map b8)) := by rw [hw3.out]; exact B0.out.apart (by have := NE.out; omega)
  have E1 : Hid (Blk w3 (w.heap.size + 1) (d.map b8)) := by rw [hw3.out]; exact B1.out.apart (by have := NE.out; omega)
  have E2 : Hid (Blk w3 k2 (x.map b8)) := by
    rw [hw3.out]
    have h1 : Blk w2 k2 ([] ++ ((List.replicate 4 0).map b8 ++ [])) := by simpa using Z2.out
    have h2 := h1.store (o := 0) (b' := x.map b8) rfl (by rw [List.length_map, XL.out.1]; simp)
    rw [List.nil_append, List.append_nil] at h2
    exact h2
  have E3 : Hid (Blk w3 k3 ((List.replicate 4 0).map b8)) := by rw [hw3.out]; exact Z3.out.apart (fun h => NE.out.2.2 h.symm)
  have D3 : Hid (Below w.heap.size w w3) := by rw [hw3.out]; exact below_setCells _ _ _ D2.out (by have := NE.out; omega)
  clear hw3 B0 B1 Z2 Z3 D2 T2
  have T3 : Hid (w3.there k3 0 (y.map b8).length) := E3.out.there (by rw [List.length_map, YL.out.1]; simp)
  go_wp2_with (refine wp_store_eq rfl 23 (.tmp 6) (.tmp 15) rfl k3 0 (y.map b8) rfl rfl T3.out (info_n info_a4 y YL.out.1) (one_b8 _) ?_)
  intro w4 hw4
  have F0 : Hid (Blk w4 w.heap.size (c.map b8)) := by rw [hw4.out]; exact E0.out.apart (by have := NE.out; omega)
  have F1 : Hid (Blk w4 (w.heap.size + 1) (d.map b8)) := by rw [hw4.out]; exact E1.out.apart (by have := NE.out; omega)
  have F2 : Hid (Blk w4 k2 (x.map b8)) := by rw [hw4.out]; exact E2.out.apart NE.out.2.2
  have F3 : Hid (Blk w4 k3 (y.map b8)) := by
    rw [hw4.out]
    have h1 : Blk w3 k3 ([] ++ ((List.replicate 4 0).map b8 ++ [])) := by simpa using E3.out
    have h2 := h1.store (o := 0) (b' := y.map b8) rfl (by rw [List.length_map, YL.out.1]; simp)
    rw [List.nil_append, List.append_nil] at h2
    exact h2
  have D4 : Hid (Below w.heap.size w w4) := by rw [hw4.out]; exact below_setCells _ _ _ D3.out (by have := NE.out; omega)
  clear hw4 E0 E1 E2 E3 D3 T3
  obtain ⟨xf, hxf⟩ : ∃ xf : Nat → Nat, xf = fun t => c.getD t 0 ^^^ d.getD t 0 := ⟨_, rfl⟩
  have XF : Hid ((∀ t, xf t = c.getD t 0 ^^^ d.getD t 0) ∧ (List.range 4).map xf = G.xor4L c d) := by rw [hxf]; exact ⟨fun _ => rfl, rfl⟩
  clear hxf
  obtain ⟨y0, y1⟩ := al1 w4 #[Value.int IntKind.u8 0, Value.int IntKind.u8 0, Value.int IntKind.u8 0, Value.int IntKind.u8 0] 23
  rw [show (#[Value.int IntKind.u8 0, Value.int IntKind.u8 0, Value.int IntKind.u8 0, Value.int IntKind.u8 0] : Array Value).toList = (upL xf 4 0).map b8 by rw [upL_zero]; rfl] at y0
  have G4 : Hid (Blk _ w4.heap.size ((upL xf 4 0).map b8)) := y0
  have G0 : Hid _ := F0.out.up y1 F0.out.lt
  have G1 : Hid _ := F1.out.up y1 F1.out.lt
  have G2 : Hid _ := F2.out.up y1 F2.out.lt
  have G3 : Hid _ := F3.out.up y1 F3.out.lt
  have D5 : Hid _ := D4.out.trans (y1.mono D4.out.size)
  have NF : Hid (w.heap.size + 1 < w4.heap.size ∧ k2 < w4.heap.size ∧ k3 < w4.heap.size) := ⟨F1.out.lt, F2.out.lt, F3.out.lt⟩
  clear y0 y1 F0 F1 F2 F3 D4
  go_wp2_with fail
  generalize w4.alloc _ = w5 at *
  generalize w4.heap.size = k4 at *
  have CB : Hid (∀ t, c.getD t 0 < 256 ∧ d.getD t 0 < 256 ∧ x.getD t 0 < 256 ∧ y.getD t 0 < 256) := fun t => ⟨getD_low CL.out.2 t, getD_low DL.out.2 t, getD_low XL.out.2 t, getD_low YL.out.2 t⟩
  obtain ⟨cn, hcn⟩ : ∃ cn : Nat → Nat, ∀ j, cn j = G.cnt c x j := ⟨_, fun _ => rfl⟩
  have CN : Hid (cn 0 = 0 ∧ ∀ j, cn (j + 1) = cn j + G.nz (c.getD j 0) + G.nz (x.getD j 0) ∧ cn j ≤ 2 * j) := ⟨by rw [hcn]; rfl, fun j => ⟨by rw [hcn, hcn]; rfl, by rw [hcn]; exact G.cnt_le c x j⟩⟩
  rw [← hcn] at BR
  clear hcn
  go_loopw [8, 16] (fun n i wr => ∃ j : Nat, j ≤ 4 ∧ n = .int .i64 ((cn j : Nat) : Int) ∧ i = .int .i64 (j : Int) ∧ Hid (Blk wr w.heap.size (c.map b8)) ∧ Hid (Blk wr (w.heap.size + 1) (d.map b8)) ∧ Hid (Blk wr k2 (x.map b8)) ∧ Hid (Blk wr k3 (y.map b8)) ∧ Hid (Blk wr k4 ((upL xf 4 j).map b8)) ∧ Hid (Below w.heap.size w wr)) (fun _ i _ => 4 - (intOf i).toNat)
  case atStart => exact ⟨0, by omega, by rw [CN.out.1]; rfl, rfl, G0, G1, G2, G3, G4, D5⟩
  case round =>
    clear G0 G1 G2 G3 G4 D5
    obtain ⟨j, hj, rfl, rfl, G0, G1, G2, G3, G4, D5⟩ := hrel
    by_cases hj1 : j < 4
    · have j1 : (j : Int) < 4 := by omega
      have wj : IntKind.i64.wrap ((j : Int) + 1) = (j : Int) + 1 := by rw [IntKind.wrap_i64]; omega
      have J1 : Hid (j < 4) := hj1
      obtain ⟨cb, db, xb', yb⟩ := CB.out j
      have xe := g_xor cb db
      rw [← XF.out.1 j] at xe
      obtain ⟨ce, cl⟩ := CN.out.2 j
      have e0 : Hid (∀ W, Below wr.heap.size wr W → W.cell? ⟨w.heap.size, j, none⟩ = some (b8 (c.getD j 0))) := fun W hW => (G0.out.up hW G0.out.lt).byte j (by rw [CL.out.1]; exact hj1)
      have e1 : Hid (∀ W, Below wr.heap.size wr W → W.cell? ⟨w.heap.size + 1, j, none⟩ = some (b8 (d.getD j 0))) := fun W hW => (G1.out.up hW G1.out.lt).byte j (by rw [DL.out.1]; exact hj1)
      have UL : Hid (j < (upL xf 4 j).length) := by show _ < _; rw [upL_length _ _ _ hj]; exact hj1
      have e4 : Hid (∀ W, Below wr.heap.size wr W → W.cell? ⟨k4, j, none⟩ = some (b8 ((upL xf 4 j).getD j 0))) := fun W hW => (G4.out.up hW G4.out.lt).byte j UL.out
      have US : Hid (∀ W, Blk W k4 ((upL xf 4 j).map b8) → Blk (W.setCell ⟨k4, j, none⟩ (b8 (xf j))) k4 ((upL xf 4 (j + 1)).map b8)) := fun W h => by
        rw [← upL_set xf 4 j J1.out]
        exact h.setB j (xf j) UL.out
      have CS : Hid (cn (j + 1) = cn j + G.nz (c.getD j 0) + G.nz (x.getD j 0) ∧ cn j ≤ 8) := ⟨ce, by omega⟩
      obtain ⟨cj, hcj⟩ : ∃ v, c.getD j 0 = v := ⟨_, rfl⟩
      obtain ⟨dj, hdj⟩ : ∃ v, d.getD j 0 = v := ⟨_, rfl⟩
      obtain ⟨xj, hxj⟩ : ∃ v, x.getD j 0 = v := ⟨_, rfl⟩
      have ex : Hid (∀ W, Blk W k2 (x.map b8) → W.cell? ⟨k2, j, none⟩ = some (b8 xj)) := fun W h => by rw [← hxj]; exact h.byte j (by rw [XL.out.1]; exact J1.out)
      have ec : Hid (∀ W, Blk W w.heap.size (c.map b8) → W.cell? ⟨w.heap.size, j, none⟩ = some (b8 cj)) := fun W h => by rw [← hcj]; exact h.byte j (by rw [CL.out.1]; exact J1.out)
      rw [hcj, hdj] at xe
      rw [hcj] at e0 CS
      rw [hdj] at e1
      rw [hxj] at CS
      generalize xf j = fj at *
      generalize (upL xf 4 j).getD j 0 = old at *
      clear hcj hdj hxj cb db xb' yb ce cl hj hj1 UL
      go_wp2_with fail
      refine wp_region_monoSE 9 [MP.eq (.int .i64 (j : Int)), MP.eq (.int .i64 (j : Int)), MP.eq (.pointer (some ⟨w.heap.size, j, none⟩)), MP.eq (b8 cj), MP.eq (.int .i64 (j : Int)), MP.eq (.pointer (some ⟨w.heap.size + 1, j, none⟩)), MP.eq (b8 dj), MP.eq (b8 fj), MP.eq (.pointer (some ⟨k4, j, none⟩))] (by kernel_rfl) (by kernel_rfl) rfl (by decide) (by kernel_rfl) ?_
      apply Exists.intro
      refine ⟨fun vals => ?_, ?_, fun vals6 w6 hb6 hF hO => ?_⟩
      · simp only [putsV, dstL, List.length_cons, List.length_nil, Nat.zero_add, Nat.reduceAdd, List.getElem?_cons_zero, List.getElem?_cons_succ, Option.bind_some, Act.put, List.setIfInBounds_toArray, List.set_cons_succ, List.set_cons_zero]
        rfl
      · refine ⟨?_, ?_, ?_, ?_, ?_, ?_, ?_, ?_, ?_, trivial⟩
        · intro vals W hW hw hd
          try simp [Region.binds] at hd
          refine ⟨by first | rfl | simp [Region.wanted, yielded, hd], ?_⟩
          simp [go_sem, hd]
          exact Below.refl _ _
        · intro vals W hW hw hd
          try simp [Region.binds] at hd
          refine ⟨by first | rfl | simp [Region.wanted, yielded, hd], ?_⟩
          simp [go_sem, hd]
          exact Below.refl _ _
        · intro vals W hW hw hd
          try simp [Region.binds] at hd
          refine ⟨by first | rfl | simp [Region.wanted, yielded, hd], ?_⟩
          simp [go_sem, hd, j1]
          exact Below.refl _ _
        · intro vals W hW hw hd
          try simp [Region.binds] at hd
          refine ⟨by first | rfl | simp [Region.wanted, yielded, hd], ?_⟩
          have cc := e0.out W hW.out
          simp [go_sem, hd, cc]
          exact Below.refl _ _
        · intro vals W hW hw hd
          try simp [Region.binds] at hd
          refine ⟨by first | rfl | simp [Region.wanted, yielded, hd], ?_⟩
          simp [go_sem, hd]
          exact Below.refl _ _
        · intro vals W hW hw hd
          try simp [Region.binds] at hd
          refine ⟨by first | rfl | simp [Region.wanted, yielded, hd], ?_⟩
          simp [go_sem, hd, j1]
          exact Below.refl _ _
        · intro vals W hW hw hd
          try simp [Region.binds] at hd
          refine ⟨by first | rfl | simp [Region.wanted, yielded, hd], ?_⟩
          have cc := e1.out W hW.out
          simp [go_sem, hd, cc]
          exact Below.refl _ _
        · intro vals W hW hw hd
          try simp [Region.binds] at hd
          refine ⟨by first | rfl | simp [Region.wanted, yielded, hd], ?_⟩
          simp [go_sem, hd, xe]
          exact Below.refl _ _
        · intro vals W hW hw hd
          try simp [Region.binds] at hd
          refine ⟨by first | rfl | simp [Region.wanted, yielded, hd], ?_⟩
          simp [go_sem, hd, j1]
          exact Below.refl _ _
      obtain ⟨f0, f1, f2, f3, f4, f5, f6, f7, f8, _⟩ := hF
      simp only [MP.eq_p] at f0 f1 f2 f3 f4 f5 f6 f7 f8
      rw [f0, f1, f2, f3, f4, f5, f6, f7, f8]
      simp only [List.drop_succ_cons, List.drop_zero]
      have c4 := e4.out w6 hb6.out
      have z4 := (G4.out.up hb6.out G4.out.lt).fz j
      have V0 : Hid (Blk (w6.setCell ⟨k4, j, none⟩ (b8 fj)) w.heap.size (c.map b8)) := (G0.out.up hb6.out G0.out.lt).apart1 (by have := NF.out; omega)
      have V1 : Hid (Blk (w6.setCell ⟨k4, j, none⟩ (b8 fj)) (w.heap.size + 1) (d.map b8)) := (G1.out.up hb6.out G1.out.lt).apart1 (by have := NF.out; omega)
      have V2 : Hid (Blk (w6.setCell ⟨k4, j, none⟩ (b8 fj)) k2 (x.map b8)) := (G2.out.up hb6.out G2.out.lt).apart1 (by have := NF.out; omega)
      have V3 : Hid (Blk (w6.setCell ⟨k4, j, none⟩ (b8 fj)) k3 (y.map b8)) := (G3.out.up hb6.out G3.out.lt).apart1 (by have := NF.out; omega)
      have V4 : Hid (Blk (w6.setCell ⟨k4, j, none⟩ (b8 fj)) k4 ((upL xf 4 (j + 1)).map b8)) := US.out w6 (G4.out.up hb6.out G4.out.lt)
      have V5 : Hid (Below w.heap.size w (w6.setCell ⟨k4, j, none⟩ (b8 fj))) := (D5.out.trans (hb6.out.mono D5.out.size)).setCell (p := ⟨k4, j, none⟩) (by show w.heap.size ≤ k4; have := NF.out; omega) _
      have ca := ec.out _ V0.out
      have cx := ex.out _ V2.out
      clear f0 f1 f2 f3 f4 f5 f6 f7 f8 hb6 hO G0 G1 G2 G3 G4 D5 e0 e1 e4 US ec ex
      by_cases z1 : cj = 0 <;> by_cases z2 : xj = 0
      · subst z1 z2
        have W1 : Hid (cn (j + 1) = cn j) := by rw [CS.out.1]; exact rfl
        go_wp2_with fail
        go_roundw
        case rel => exact ⟨j + 1, J1.out, by rw [W1.out], by first | rfl | go_num, V0, V1, V2, V3, V4, V5⟩
        case measure => have := J1.out; simp [intOf]; omega
      · subst z1
        have y2 : ¬ (xj : Int) = 0 := by omega
        have W1 : Hid (cn (j + 1) = cn j + 1) := by rw [CS.out.1, G.nz_ne z2]; exact rfl
        have wn : IntKind.i64.wrap (((cn j : Nat) : Int) + 1) = ((cn (j + 1) : Nat) : Int) := by have := CS.out.2; rw [W1.out, IntKind.wrap_i64]; omega
        go_wp2_with fail
        go_roundw
        case rel => exact ⟨j + 1, J1.out, by first | rfl | (rw [W1.out]; go_num), by first | rfl | go_num, V0, V1, V2, V3, V4, V5⟩
        case measure => have := J1.out; simp [intOf]; omega
      · subst z2
        have y2 : ¬ (cj : Int) = 0 := by omega
        have W1 : Hid (cn (j + 1) = cn j + 1) := by rw [CS.out.1, G.nz_ne z1]; exact rfl
        have wn : IntKind.i64.wrap (((cn j : Nat) : Int) + 1) = ((cn (j + 1) : Nat) : Int) := by have := CS.out.2; rw [W1.out, IntKind.wrap_i64]; omega
        go_wp2_with fail
        go_roundw
        case rel => exact ⟨j + 1, J1.out, by first | rfl | (rw [W1.out]; go_num), by first | rfl | go_num, V0, V1, V2, V3, V4, V5⟩
        case measure => have := J1.out; simp [intOf]; omega
      · have y1 : ¬ (cj : Int) = 0 := by omega
        have y2 : ¬ (xj : Int) = 0 := by omega
        have W1 : Hid (cn (j + 1) = cn j + 1 + 1) := by rw [CS.out.1, G.nz_ne z1, G.nz_ne z2]; exact rfl
        obtain ⟨n1, hn1⟩ : ∃ n1, n1 = cn j + 1 := ⟨_, rfl⟩
        have wn : IntKind.i64.wrap (((cn j : Nat) : Int) + 1) = (n1 : Int) := by have := CS.out.2; rw [IntKind.wrap_i64]; omega
        have wn2 : IntKind.i64.wrap ((n1 : Int) + 1) = ((cn (j + 1) : Nat) : Int) := by have := CS.out.2; rw [W1.out, ← hn1, IntKind.wrap_i64]; omega
        clear hn1
        go_wp2_with fail
        go_roundw
        case rel => exact ⟨j + 1, J1.out, by first | rfl | (rw [W1.out]; go_num), by first | rfl | go_num, V0, V1, V2, V3, V4, V5⟩
        case measure => have := J1.out; simp [intOf]; omega
    · obtain rfl : j = 4 := by omega
      rw [upL_all, XF.out.2] at G4
      have BL : Hid (G.four (G.xor4L c d)) := G.xor4L_four CL.out DL.out
      generalize G.xor4L c d = bl at *
      obtain ⟨zf, hzf⟩ : ∃ zf, zf = G.xor4L x y := ⟨_, rfl⟩
      have ZF : Hid (∀ t, t < 4 → zf.getD t 0 = x.getD t 0 ^^^ y.getD t 0) := fun t ht => by
        rw [hzf]
        exact range_getD (fun t => x.getD t 0 ^^^ y.getD t 0) 4 t ht
      rw [← hzf] at MB XYL
      clear hzf hj hj1 XF
      have B4 := BR.out
      obtain ⟨n4, hn4⟩ : ∃ n4, n4 = cn 4 := ⟨_, rfl⟩
      rw [← hn4] at B4 ⊢
      have HBR : Hid (5 ≤ n4 ∨ c = [0, 0, 0, 0]) := B4
      clear B4 hn4 BR CN
      have TW : Hid (∀ W, Below wr.heap.size wr W → Tb W) := fun W hW => TB.out W (D5.out.trans (hW.mono D5.out.size))
      go_wp2_with (refine wpList_load_mid rfl 23 (.tmp 7) rfl k4 0 rfl (bl.map b8) _ G4.out.all u_a4 rfl (info_n info_a4 bl BL.out.1) ?_)
      refine Calls.mono (MB.out wr (TW.out wr (Below.refl _ _))) ?_
      rintro e w7 ⟨rfl, hb7⟩
      have P0 : Hid (Blk w7 w.heap.size (c.map b8)) := G0.out.up hb7 G0.out.lt
      have P2 : Hid (Blk w7 k2 (x.map b8)) := G2.out.up hb7 G2.out.lt
      have P3 : Hid (Blk w7 k3 (y.map b8)) := G3.out.up hb7 G3.out.lt
      have P5 : Hid (Below w.heap.size w w7) := D5.out.trans (hb7.mono D5.out.size)
      clear hb7 G0 G1 G2 G3 G4 D5 TW
      have T7 : Hid (∀ C t, C.size = 4 → World.there (w7.alloc (.cells C t)) w7.heap.size 0 (zf.map b8).length) := fun C t hC => (al1 w7 C t).1.there (by rw [List.length_map, XYL.out.1, Array.length_toList, hC]; omega)
      go_wp2_with (refine wp_store_eq rfl 23 (.tmp 10) (.tmp 42) rfl w7.heap.size 0 (zf.map b8) rfl rfl (T7.out _ _ rfl) (info_n info_a4 zf XYL.out.1) (one_b8 _) ?_)
      intro w8 hw8
      obtain ⟨b8', h8⟩ : Blk w8 w7.heap.size (zf.map b8) ∧ Below w7.heap.size w7 w8 := by
        rw [hw8.out]
        exact alst w7 _ _ _ (by rw [List.length_map, XYL.out.1]; rfl)
      have Q0 : Hid (Blk w8 w.heap.size (c.map b8)) := P0.out.up h8 P0.out.lt
      have Q2 : Hid (Blk w8 k2 (x.map b8)) := P2.out.up h8 P2.out.lt
      have Q3 : Hid (Blk w8 k3 (y.map b8)) := P3.out.up h8 P3.out.lt
      have Q4 : Hid (Blk w8 w7.heap.size (zf.map b8)) := b8'
      have Q5 : Hid (Below w.heap.size w w8) := P5.out.trans (h8.mono P5.out.size)
      clear hw8 b8' h8 P0 P2 P3 P5 T7
      generalize w7.heap.size = k5 at *
      go_wp2_with fail
      go_loopw [43] (fun i wr => ∃ j : Nat, j ≤ 4 ∧ i = .int .i64 (j : Int) ∧ Hid (Blk wr w.heap.size (c.map b8)) ∧ Hid (Blk wr k2 (x.map b8)) ∧ Hid (Blk wr k3 (y.map b8)) ∧ Hid (Blk wr k5 (zf.map b8)) ∧ Hid (Below w.heap.size w wr)) (fun i _ => 4 - (intOf i).toNat)
      case atStart => exact ⟨0, by omega, rfl, Q0, Q2, Q3, Q4, Q5⟩
      case round =>
        clear Q0 Q2 Q3 Q4 Q5
        obtain ⟨j, hj, rfl, Q0, Q2, Q3, Q4, Q5⟩ := hrel
        by_cases hj1 : j < 4
        · have j1 : (j : Int) < 4 := by omega
          have wj : IntKind.i64.wrap ((j : Int) + 1) = (j : Int) + 1 := by rw [IntKind.wrap_i64]; omega
          have J1 : Hid (j < 4) := hj1
          obtain ⟨_, _, xl, yl⟩ := CB.out j
          have xe := g_xor xl yl
          rw [← ZF.out j hj1] at xe
          have e2 : Hid (∀ W, Below wr.heap.size wr W → W.cell? ⟨k2, j, none⟩ = some (b8 (x.getD j 0))) := fun W hW => (Q2.out.up hW Q2.out.lt).byte j (by rw [XL.out.1]; exact hj1)
          have e3 : Hid (∀ W, Below wr.heap.size wr W → W.cell? ⟨k3, j, none⟩ = some (b8 (y.getD j 0))) := fun W hW => (Q3.out.up hW Q3.out.lt).byte j (by rw [YL.out.1]; exact hj1)
          have e5 : Hid (∀ W, Below wr.heap.size wr W → W.cell? ⟨k5, j, none⟩ = some (b8 (zf.getD j 0))) := fun W hW => (Q4.out.up hW Q4.out.lt).byte j (by rw [XYL.out.1]; exact hj1)
          generalize zf.getD j 0 = zj at *
          generalize x.getD j 0 = xj at *
          generalize y.getD j 0 = yj at *
          clear xl yl hj hj1
          go_wp2_with fail
          refine wp_region_monoE [MP.eq (.int .i64 (j : Int)), MP.eq (.pointer (some ⟨k5, j, none⟩)), MP.eq (b8 zj), MP.eq (.int .i64 (j : Int)), MP.eq (.pointer (some ⟨k2, j, none⟩)), MP.eq (b8 xj), MP.eq (.int .i64 (j : Int)), MP.eq (.pointer (some ⟨k3, j, none⟩)), MP.eq (b8 yj), MP.eq (b8 zj), MP.eq (.bool false)] (by kernel_rfl) (by kernel_rfl) rfl ?_
          apply Exists.intro
          refine ⟨fun vals => ?_, ?_, fun vals9 w9 hb9 hF => ?_⟩
          · simp only [putsV, dstL, List.length_cons, List.length_nil, Nat.zero_add, Nat.reduceAdd, List.getElem?_cons_zero, List.getElem?_cons_succ, Option.bind_some, Act.put, List.setIfInBounds_toArray, List.set_cons_succ, List.set_cons_zero]
            rfl
          · refine ⟨?_, ?_, ?_, ?_, ?_, ?_, ?_, ?_, ?_, ?_, ?_, trivial⟩
            · intro vals W hW hw hd
              try simp [Region.binds] at hd
              refine ⟨by first | rfl | simp [Region.wanted, yielded, hd], ?_⟩
              simp [go_sem, hd]
              exact Below.refl _ _
            · intro vals W hW hw hd
              try simp [Region.binds] at hd
              refine ⟨by first | rfl | simp [Region.wanted, yielded, hd], ?_⟩
              simp [go_sem, hd, j1]
              exact Below.refl _ _
            · intro vals W hW hw hd
              try simp [Region.binds] at hd
              refine ⟨by first | rfl | simp [Region.wanted, yielded, hd], ?_⟩
              have cc := e5.out W hW.out
              simp [go_sem, hd, cc]
              exact Below.refl _ _
            · intro vals W hW hw hd
              try simp [Region.binds] at hd
              refine ⟨by first | rfl | simp [Region.wanted, yielded, hd], ?_⟩
              simp [go_sem, hd]
              exact Below.refl _ _
            · intro vals W hW hw hd
              try simp [Region.binds] at hd
              refine ⟨by first | rfl | simp [Region.wanted, yielded, hd], ?_⟩
              simp [go_sem, hd, j1]
              exact Below.refl _ _
            · intro vals W hW hw hd
              try simp [Region.binds] at hd
              refine ⟨by first | rfl | simp [Region.wanted, yielded, hd], ?_⟩
              have cc := e2.out W hW.out
              simp [go_sem, hd, cc]
              exact Below.refl _ _
            · intro vals W hW hw hd
              try simp [Region.binds] at hd
              refine ⟨by first | rfl | simp [Region.wanted, yielded, hd], ?_⟩
              simp [go_sem, hd]
              exact Below.refl _ _
            · intro vals W hW hw hd
              try simp [Region.binds] at hd
              refine ⟨by first | rfl | simp [Region.wanted, yielded, hd], ?_⟩
              simp [go_sem, hd, j1]
              exact Below.refl _ _
            · intro vals W hW hw hd
              try simp [Region.binds] at hd
              refine ⟨by first | rfl | simp [Region.wanted, yielded, hd], ?_⟩
              have cc := e3.out W hW.out
              simp [go_sem, hd, cc]
              exact Below.refl _ _
            · intro vals W hW hw hd
              try simp [Region.binds] at hd
              refine ⟨by first | rfl | simp [Region.wanted, yielded, hd], ?_⟩
              simp [go_sem, hd, xe]
              exact Below.refl _ _
            · intro vals W hW hw hd
              try simp [Region.binds] at hd
              refine ⟨by first | rfl | simp [Region.wanted, yielded, hd], ?_⟩
              simp [go_sem, hd]
              exact Below.refl _ _
          obtain ⟨f0, f1, f2, f3, f4, f5, f6, f7, f8, f9, f10, _⟩ := hF
          simp only [MP.eq_p] at f0 f1 f2 f3 f4 f5 f6 f7 f8 f9 f10
          rw [f0, f1, f2, f3, f4, f5, f6, f7, f8, f9, f10]
          have V0 : Hid (Blk w9 w.heap.size (c.map b8)) := Q0.out.up hb9.out Q0.out.lt
          have V2 : Hid (Blk w9 k2 (x.map b8)) := Q2.out.up hb9.out Q2.out.lt
          have V3 : Hid (Blk w9 k3 (y.map b8)) := Q3.out.up hb9.out Q3.out.lt
          have V4 : Hid (Blk w9 k5 (zf.map b8)) := Q4.out.up hb9.out Q4.out.lt
          have V5 : Hid (Below w.heap.size w w9) := Q5.out.trans (hb9.out.mono Q5.out.size)
          clear f0 f1 f2 f3 f4 f5 f6 f7 f8 f9 f10 hb9 Q0 Q2 Q3 Q4 Q5 e2 e3 e5
          go_wp2_with fail
          go_roundw
          case rel => exact ⟨j + 1, J1.out, by first | rfl | go_num, V0, V2, V3, V4, V5⟩
          case measure => have := J1.out; simp [intOf]; omega
        · obtain rfl : j = 4 := by omega
          clear hj hj1 MC MD MB ZF CB NE NF
          by_cases h5 : 5 ≤ n4
          · have h5' : (5 : Int) ≤ (n4 : Int) := by omega
            have EC0 : Hid True := trivial
            clear HBR h5
            go_wp2_with fail
            refine wp_region_up (by kernel_rfl) (by kernel_rfl) (fun U hU f hf hcl => ?_)
            have R0 : Hid (∀ n, (f n).rangeAt w.heap.size 0 (c.map b8)) := fun n => (Q0.out.up (hf n).out Q0.out.lt).all
            have R2 : Hid (∀ n, (f n).rangeAt k2 0 (x.map b8)) := fun n => (Q2.out.up (hf n).out Q2.out.lt).all
            have TF : Hid (∀ n, Tb (f n)) := fun n => TB.out _ (Q5.out.trans ((hf n).out.mono Q5.out.size))
            have HF : Hid (∀ n, Below wr.heap.size wr (f n)) := fun n => (hf n).out
            clear hf
            repeat (first | (refine quietA_ld rfl u_a4 info_a4 (.tmp 5) rfl k2 0 rfl x XL.out.1 (fun W hW => by obtain ⟨n, rfl⟩ := hW; exact R2.out n) ?_; simp only [Act.put, List.setIfInBounds_toArray, List.set_cons_succ, List.set_cons_zero]) | (refine quietA_ld rfl u_a4 info_a4 (.tmp 2) rfl w.heap.size 0 rfl c CL.out.1 (fun W hW => by obtain ⟨n, rfl⟩ := hW; exact R0.out n) ?_; simp only [Act.put, List.setIfInBounds_toArray, List.set_cons_succ, List.set_cons_zero]) | (refine quietA_eq rfl u_a4 guard_a4 (.tmp 59) (.tmp 60) _ rfl c c CL.out.1 CL.out.1 rfl rfl true (decide_eq_true rfl) ?_; simp only [Act.put, List.setIfInBounds_toArray, List.set_cons_succ, List.set_cons_zero]) | (refine quietA_eq rfl u_a4 guard_a4 (.tmp 65) (.tmp 66) _ rfl c c CL.out.1 CL.out.1 rfl rfl true (decide_eq_true rfl) ?_; simp only [Act.put, List.setIfInBounds_toArray, List.set_cons_succ, List.set_cons_zero]) | (refine quietA_eq rfl u_a4 guard_a4 (.tmp 73) (.tmp 74) _ rfl c c CL.out.1 CL.out.1 rfl rfl true (decide_eq_true rfl) ?_; simp only [Act.put, List.setIfInBounds_toArray, List.set_cons_succ, List.set_cons_zero]) | (refine quietA_eq rfl u_a4 guard_a4 (.tmp 81) (.tmp 82) _ rfl c [0, 0, 0, 0] CL.out.1 rfl rfl rfl true EC0.out ?_; simp only [Act.put, List.setIfInBounds_toArray, List.set_cons_succ, List.set_cons_zero]) | (refine quietA_build0 rfl rfl BZ ?_; simp only [Act.put, List.setIfInBounds_toArray, List.set_cons_succ, List.set_cons_zero]) | go_big_quiet_step (first | (go_at_call 21; exact (UX.out _ (TF.out _)).mono fun e w'' ⟨he, hb⟩ => ⟨he, hcl.out _ _ hb⟩) | (go_at_call 21; exact (UC.out _ (TF.out _)).mono fun e w'' ⟨he, hb⟩ => ⟨he, hcl.out _ _ hb⟩) | (go_at_call 19; exact (MU.out _ (TF.out _)).mono fun e w'' ⟨he, hb⟩ => ⟨he, hcl.out _ _ hb⟩) | (go_at_call 19; exact (M2.out _ (TF.out _)).mono fun e w'' ⟨he, hb⟩ => ⟨he, hcl.out _ _ hb⟩) | (go_at_call 19; exact (M3.out _ (TF.out _)).mono fun e w'' ⟨he, hb⟩ => ⟨he, hcl.out _ _ hb⟩) | (go_at_call 19; exact (M4.out _ (TF.out _)).mono fun e w'' ⟨he, hb⟩ => ⟨he, hcl.out _ _ hb⟩)))
            refine wpQuiet_nil ?_
            intro n
            have hb4 : Hid (Below w.heap.size w (f n)) := Q5.out.trans ((HF.out n).mono Q5.out.size)
            generalize f n = w9 at hb4 ⊢
            go_wp2_with fail
            go_ret
            exact ⟨rfl, hb4.out⟩
          · have h5' : ¬ (5 : Int) ≤ (n4 : Int) := by omega
            have h5d := decide_eq_false h5'
            have h5g : decide ((n4 : Int) ≥ 5) = false := decide_eq_false h5'
            have EC0 : Hid (decide (c = [0, 0, 0, 0]) = true) := decide_eq_true (HBR.out.resolve_left h5)
            clear HBR h5
            go_wp2_with fail
            refine wp_region_up (by kernel_rfl) (by kernel_rfl) (fun U hU f hf hcl => ?_)
            have R0 : Hid (∀ n, (f n).rangeAt w.heap.size 0 (c.map b8)) := fun n => (Q0.out.up (hf n).out Q0.out.lt).all
            have R2 : Hid (∀ n, (f n).rangeAt k2 0 (x.map b8)) := fun n => (Q2.out.up (hf n).out Q2.out.lt).all
            have TF : Hid (∀ n, Tb (f n)) := fun n => TB.out _ (Q5.out.trans ((hf n).out.mono Q5.out.size))
            have HF : Hid (∀ n, Below wr.heap.size wr (f n)) := fun n => (hf n).out
            clear hf
            repeat (first | (refine quietA_ld rfl u_a4 info_a4 (.tmp 5) rfl k2 0 rfl x XL.out.1 (fun W hW => by obtain ⟨n, rfl⟩ := hW; exact R2.out n) ?_; simp only [Act.put, List.setIfInBounds_toArray, List.set_cons_succ, List.set_cons_zero]) | (refine quietA_ld rfl u_a4 info_a4 (.tmp 2) rfl w.heap.size 0 rfl c CL.out.1 (fun W hW => by obtain ⟨n, rfl⟩ := hW; exact R0.out n) ?_; simp only [Act.put, List.setIfInBounds_toArray, List.set_cons_succ, List.set_cons_zero]) | (refine quietA_eq rfl u_a4 guard_a4 (.tmp 59) (.tmp 60) _ rfl c c CL.out.1 CL.out.1 rfl rfl true (decide_eq_true rfl) ?_; simp only [Act.put, List.setIfInBounds_toArray, List.set_cons_succ, List.set_cons_zero]) | (refine quietA_eq rfl u_a4 guard_a4 (.tmp 65) (.tmp 66) _ rfl c c CL.out.1 CL.out.1 rfl rfl true (decide_eq_true rfl) ?_; simp only [Act.put, List.setIfInBounds_toArray, List.set_cons_succ, List.set_cons_zero]) | (refine quietA_eq rfl u_a4 guard_a4 (.tmp 73) (.tmp 74) _ rfl c c CL.out.1 CL.out.1 rfl rfl true (decide_eq_true rfl) ?_; simp only [Act.put, List.setIfInBounds_toArray, List.set_cons_succ, List.set_cons_zero]) | (refine quietA_eq rfl u_a4 guard_a4 (.tmp 81) (.tmp 82) _ rfl c [0, 0, 0, 0] CL.out.1 rfl rfl rfl true EC0.out ?_; simp only [Act.put, List.setIfInBounds_toArray, List.set_cons_succ, List.set_cons_zero]) | (refine quietA_build0 rfl rfl BZ ?_; simp only [Act.put, List.setIfInBounds_toArray, List.set_cons_succ, List.set_cons_zero]) | go_big_quiet_step (first | (go_at_call 21; exact (UX.out _ (TF.out _)).mono fun e w'' ⟨he, hb⟩ => ⟨he, hcl.out _ _ hb⟩) | (go_at_call 21; exact (UC.out _ (TF.out _)).mono fun e w'' ⟨he, hb⟩ => ⟨he, hcl.out _ _ hb⟩) | (go_at_call 19; exact (MU.out _ (TF.out _)).mono fun e w'' ⟨he, hb⟩ => ⟨he, hcl.out _ _ hb⟩) | (go_at_call 19; exact (M2.out _ (TF.out _)).mono fun e w'' ⟨he, hb⟩ => ⟨he, hcl.out _ _ hb⟩) | (go_at_call 19; exact (M3.out _ (TF.out _)).mono fun e w'' ⟨he, hb⟩ => ⟨he, hcl.out _ _ hb⟩) | (go_at_call 19; exact (M4.out _ (TF.out _)).mono fun e w'' ⟨he, hb⟩ => ⟨he, hcl.out _ _ hb⟩)))
            refine wpQuiet_nil ?_
            intro n
            have hb4 : Hid (Below w.heap.size w (f n)) := Q5.out.trans ((HF.out n).mono Q5.out.size)
            generalize f n = w9 at hb4 ⊢
            go_wp2_with fail
            go_ret
            exact ⟨rfl, hb4.out⟩
end Go.Proofs.Ytohgnkpaaocjmaa
