/- The contract of hash.mix: H behind one more block. -/
import Derived.Test.YtfanndkhajokcaaDoorHSpread
namespace Go.Proofs.YtfanndkhajokcaaDoor
open Go.RowKit
set_option linter.unusedSimpArgs false
/-- Eight words as a value. -/
abbrev v8 (H : R8) : Value := .agg #[uw H.a, uw H.b, uw H.c, uw H.d, uw H.e, uw H.f, uw H.g, uw H.h]
/-- The table lies where it was laid. -/
def KTab (w : World) : Prop := ∀ j, j < 64 → w.cell? ⟨0, j, none⟩ = some (uw (Kt.getD j 0))
theorem KTab.up {W w1 : World} (h : KTab W) {B : Nat} (hb : Below B W w1) (hB : 0 < B) : KTab w1 := fun j hj => (hb.cell (p := ⟨0, j, none⟩) hB).trans (h j hj)
theorem KTab.pos {W : World} (h : KTab W) : 0 < W.heap.size := lt_of_cellB (h 0 (by decide))
theorem u_notm (x : BitVec 32) : bits .xor .u32 IntKind.u32.max (U x) = U (wnot x) := u_not x
theorem info_blk : (Tryd.prog.info? 66).map (·.size) = some 64 := by kernel_rfl
set_option maxRecDepth 20000 in
set_option maxHeartbeats 4000000 in
theorem mix_fun (H : R8) (bs : List Nat) (hl : bs.length = 64) (hb : ∀ x ∈ bs, x < 256) (w : World) (hT : KTab w) :
    Calls Tryd.prog 54 #[v8 H, vB bs] w fun e w' => e = .returned (v8 (mixS H bs)) ∧ Below w.heap.size w w' := by
  have LI : Hid _ := info_blk.trans (congrArg some (show 64 = (bs.map b8).length by rw [List.length_map, hl]))
  have SP : Hid _ := spread_fun bs hl hb
  have HT : Hid (KTab w) := hT
  have MX : Hid (mixS H bs = H.plus (rds H (schd bs 64) 64)) := rfl
  have WL : Hid ((schd bs 64).length = 64) := schd_length bs 64
  clear hl hb hT
  generalize schd bs 64 = ws at *
  obtain ⟨h0, h1, h2, h3, h4, h5, h6, h7⟩ := H
  go_enter Tryd.func54, Tryd.ntmps54
  obtain ⟨x0, x1, x2, x3⟩ := al3 w #[uw h0, uw h1, uw h2, uw h3, uw h4, uw h5, uw h6, uw h7] (bs.map b8).toArray #[.int .u32 0, .int .u32 0, .int .u32 0, .int .u32 0, .int .u32 0, .int .u32 0, .int .u32 0, .int .u32 0] 65 66 65
  have X0 : Hid _ := x0
  have X1 : Hid _ := x1
  have X2 : Hid _ := x2
  have X3 : Hid _ := x3
  clear x0 x1 x2 x3
  go_wp2_with (refine wpList_load_mid rfl 66 (.tmp 3) rfl (w.heap.size + 1) 0 rfl (bs.map b8) _ X1.out.all u_blk rfl LI.out ?_)
  refine (SP.out _).mono ?_
  rintro e w1 ⟨rfl, hb1⟩
  have y0 := X0.out.up hb1 X0.out.lt
  have y2 := X2.out.up hb1 X2.out.lt
  have y3 := X3.out.trans (hb1.mono X3.out.size)
  clear hb1 X0 X1 X2 X3 SP LI
  have I1 : Hid _ := info_w64.trans (congrArg some (show 64 = (ws.map uw).length by rw [List.length_map, WL.out]))
  have T1 : Hid (∀ (C : Array Value) (t : TypeId), C.size = 64 → World.there (w1.alloc (.cells C t)) w1.heap.size 0 (ws.map uw).length) := fun C t hC => (al1 w1 C t).1.there (by rw [List.length_map, WL.out, Array.length_toList, hC]; omega)
  go_wp2_with (refine wp_store_eq rfl 100 (.tmp 5) (.tmp 18) rfl w1.heap.size 0 (ws.map uw) rfl rfl (T1.out _ _ rfl) I1.out (one_uw ws U) ?_)
  intro w2 hw2
  obtain ⟨z4, z5⟩ : Blk w2 w1.heap.size (ws.map uw) ∧ Below w1.heap.size w1 w2 := by
    rw [hw2.out]
    exact alst w1 _ _ _ (by rw [List.length_map, WL.out]; rfl)
  clear hw2 T1 I1
  have z0 := y0.up z5 y0.lt
  have z2 := y2.up z5 y2.lt
  have z3 := y3.trans (z5.mono y3.size)
  have TT : Hid (KTab w2) := HT.out.up z3 HT.out.pos
  have kn : w.heap.size < w1.heap.size := y0.lt
  have kn2 : w.heap.size + 1 + 1 < w1.heap.size := y2.lt
  clear y0 y2 y3 z5 HT
  have q0 := z0.cell 0 _ rfl
  have q1 := z0.cell 1 _ rfl
  have q2 := z0.cell 2 _ rfl
  have q3 := z0.cell 3 _ rfl
  have q4 := z0.cell 4 _ rfl
  have q5 := z0.cell 5 _ rfl
  have q6 := z0.cell 6 _ rfl
  have q7 := z0.cell 7 _ rfl
  have Z2 : Hid (Blk w2 _ _) := z2
  have Z4 : Hid (Blk w2 _ _) := z4
  have Z3 : Hid (Below w.heap.size w w2) := z3
  generalize w1.heap.size = kw at *
  clear z0 z2 z3 z4
  go_wp2_with fail
  go_quiet (fail)
  go_wp2_with fail
  go_quiet (fail)
  go_wp2_with fail
  go_loopw [6, 7, 8, 9, 10, 11, 12, 13, 35] (fun sa sb sc sd se sf sg sh i wr => ∃ k n : Nat, k ≤ 64 ∧ sa = uw (rds ⟨h0, h1, h2, h3, h4, h5, h6, h7⟩ ws k).a ∧ sb = uw (rds ⟨h0, h1, h2, h3, h4, h5, h6, h7⟩ ws k).b ∧ sc = uw (rds ⟨h0, h1, h2, h3, h4, h5, h6, h7⟩ ws k).c ∧ sd = uw (rds ⟨h0, h1, h2, h3, h4, h5, h6, h7⟩ ws k).d ∧ se = uw (rds ⟨h0, h1, h2, h3, h4, h5, h6, h7⟩ ws k).e ∧ sf = uw (rds ⟨h0, h1, h2, h3, h4, h5, h6, h7⟩ ws k).f ∧ sg = uw (rds ⟨h0, h1, h2, h3, h4, h5, h6, h7⟩ ws k).g ∧ sh = uw (rds ⟨h0, h1, h2, h3, h4, h5, h6, h7⟩ ws k).h ∧ i = .int .i64 k ∧ wr = w2.drewN n) (fun _ _ _ _ _ _ _ _ i _ => 64 - (intOf i).toNat)
  case atStart => exact ⟨0, _, by omega, rfl, rfl, rfl, rfl, rfl, rfl, rfl, rfl, rfl, (World.drewN_drewN _ _ _).trans rfl⟩
  case round =>
    obtain ⟨k, n, hk, rfl, rfl, rfl, rfl, rfl, rfl, rfl, rfl, rfl, hw⟩ := hrel
    by_cases hlt : k < 64
    · have RS : Hid (rds ⟨h0, h1, h2, h3, h4, h5, h6, h7⟩ ws (k + 1) = rnd (rds ⟨h0, h1, h2, h3, h4, h5, h6, h7⟩ ws k) (Kt.getD k 0) (ws.getD k 0)) := rfl
      have ck : wr.cell? ⟨0, k, none⟩ = some (uw (Kt.getD k 0)) := by rw [hw]; exact TT.out k hlt
      have cw : wr.cell? ⟨kw, k, none⟩ = some (uw (ws.getD k 0)) := by rw [hw]; exact Z4.out.cell k (uw (ws.getD k 0)) (by have := WL.out; simp [List.getD_eq_getElem?_getD, this, hlt])
      have HW2 : Hid (wr = w2.drewN n) := hw
      clear hw
      generalize rds ⟨h0, h1, h2, h3, h4, h5, h6, h7⟩ ws k = R at *
      generalize Kt.getD k 0 = kk at *
      generalize ws.getD k 0 = xx at *
      obtain ⟨ra, rb, rc, rd, re, rf, rg, rh⟩ := R
      go_wp2_with fail
      go_quiet (first | (go_at_call_of 62 (Value.int IntKind.i64 6); exact Calls.quiet_of_same (right_6 _ _)) | (go_at_call_of 62 (Value.int IntKind.i64 11); exact Calls.quiet_of_same (right_11 _ _)) | (go_at_call_of 62 (Value.int IntKind.i64 25); exact Calls.quiet_of_same (right_25 _ _)))
      go_wp2_with fail
      simp only [u_xor, u_and, u_notm, u_add5m]
      have RT : Hid (_ = T1 ⟨ra, rb, rc, rd, re, rf, rg, rh⟩ kk xx) := (rfl : wadd (wadd (wadd (wadd rh (wxor (wxor (wror re 6) (wror re 11)) (wror re 25))) (wxor (wand re rf) (wand (wnot re) rg))) kk) xx = T1 ⟨ra, rb, rc, rd, re, rf, rg, rh⟩ kk xx)
      rw [RT.out]
      refine (right_2 _ _).mono ?_
      rintro _ _ ⟨rfl, rfl⟩
      go_wp2_with fail
      refine (right_13 _ _).mono ?_
      rintro _ _ ⟨rfl, rfl⟩
      go_wp2_with fail
      refine (right_22 _ _).mono ?_
      rintro _ _ ⟨rfl, rfl⟩
      go_wp2_with fail
      go_roundw
      case rel =>
        simp only [u_xor, u_and, u_addm]
        refine ⟨k + 1, n + nq, by omega, ?_, ?_, ?_, ?_, ?_, ?_, ?_, ?_, by go_num, by rw [HW2.out, World.drewN_drewN]⟩ <;> rw [RS.out] <;> rfl
      case measure => simp [intOf]; omega
    · subst hw
      obtain rfl : k = 64 := by omega
      clear hlt hk
      generalize rds ⟨h0, h1, h2, h3, h4, h5, h6, h7⟩ ws 64 = R at *
      obtain ⟨a, b, c, d, e, f, g, h⟩ := R
      obtain ⟨m0, m1⟩ : (∀ j, j < 8 → w2.cell? ⟨w.heap.size + 1 + 1, j, none⟩ = some (.int .u32 0)) ∧ (∀ j, w2.frozen? ⟨w.heap.size + 1 + 1, j, none⟩ = false) := ⟨fun j hj => Z2.out.cell j _ (by match j, hj with | 0, _ => rfl | 1, _ => rfl | 2, _ => rfl | 3, _ => rfl | 4, _ => rfl | 5, _ => rfl | 6, _ => rfl | 7, _ => rfl), Z2.out.fz⟩
      have r0 := m0 0 (by decide)
      have r1 := m0 1 (by decide)
      have r2 := m0 2 (by decide)
      have r3 := m0 3 (by decide)
      have r4 := m0 4 (by decide)
      have r5 := m0 5 (by decide)
      have r6 := m0 6 (by decide)
      have r7 := m0 7 (by decide)
      clear m0
      go_wp2_with fail
      simp only [u_addm]
      refine bodyPost_ret (v := v8 (mixS ⟨h0, h1, h2, h3, h4, h5, h6, h7⟩ bs)) ?_ rfl ⟨rfl, ?_⟩
      · rw [MX.out]
        simp [results, Tryd.results54, go_sem, r0, r1, r2, r3, r4, r5, r6, r7, R8.plus]
      · repeat (first | refine Below.setCell ?_ (by show w.heap.size ≤ w.heap.size + 1 + 1; omega) _ | exact below_drewN Z3.out)
end Go.Proofs.YtfanndkhajokcaaDoor
