/- The contracts of sealringref.Begin and Sum. -/
import Derived.Test.YtfanndkhajokcaaDoorHRFrom
import Derived.Test.YtfanndkhajokcaaDoorHHash
namespace Go.Proofs.YtfanndkhajokcaaDoor
open Go.RowKit
set_option linter.unusedSimpArgs false
attribute [local go_sem] YieldsP execOp
attribute [local simp] MP.eq_p
set_option maxHeartbeats 1000000 in
theorem begin_fun (w : World) : Calls Tryd.prog 60 #[] w fun e w' => (∃ v, e = .returned v ∧ Wy w' v IV.list) ∧ Below w.heap.size w w' := by
  have YW := al1 w #[.int .u32 1779033703, .int .u32 3144134277, .int .u32 1013904242, .int .u32 2773480762, .int .u32 1359893119, .int .u32 2600822924, .int .u32 528734635, .int .u32 1541459225] 64
  go_enter Tryd.func60, Tryd.ntmps60
  go_wp2_with fail
  go_ret
  exact ⟨⟨_, rfl, Wy.of_blk (ws := IV.list) YW.1⟩, YW.2⟩
set_option maxRecDepth 20000 in
set_option maxHeartbeats 2000000 in
theorem rsum_fun (p : List Nat) (lp : ∀ x ∈ p, x < 256) (zp : p.length ≤ 1000000000000000) (w : World) (hT : RTab w) :
    Calls Tryd.prog 53 #[.string (sOf p)] w fun e w' => e = .returned (vB (sumS p)) ∧ Below w.heap.size w w' := by
  have FR : Hid (∀ v w, Wy w v IV.list → RTab w → Calls Tryd.prog 59 #[v, .int .u64 0, .string (sOf p)] w fun e w' => e = .returned (vB (sumS p)) ∧ Below w.heap.size w w') := from_fun IV 0 rfl p lp zp
  have HT : Hid (RTab w) := hT
  have ID : Hid _ := info_d32.trans (congrArg some (show 32 = ((sumS p).map b8).length by rw [List.length_map, sumS_length]))
  obtain ⟨x0, x1⟩ := al1 w #[Value.int IntKind.u8 0, Value.int IntKind.u8 0, Value.int IntKind.u8 0, Value.int IntKind.u8 0, Value.int IntKind.u8 0, Value.int IntKind.u8 0, Value.int IntKind.u8 0, Value.int IntKind.u8 0, Value.int IntKind.u8 0, Value.int IntKind.u8 0, Value.int IntKind.u8 0, Value.int IntKind.u8 0, Value.int IntKind.u8 0, Value.int IntKind.u8 0, Value.int IntKind.u8 0, Value.int IntKind.u8 0, Value.int IntKind.u8 0, Value.int IntKind.u8 0, Value.int IntKind.u8 0, Value.int IntKind.u8 0, Value.int IntKind.u8 0, Value.int IntKind.u8 0, Value.int IntKind.u8 0, Value.int IntKind.u8 0, Value.int IntKind.u8 0, Value.int IntKind.u8 0, Value.int IntKind.u8 0, Value.int IntKind.u8 0, Value.int IntKind.u8 0, Value.int IntKind.u8 0, Value.int IntKind.u8 0, Value.int IntKind.u8 0] 47
  have X0 : Hid (Blk _ _ ((List.replicate 32 0).map b8)) := x0
  have X1 : Hid (Below _ _ _) := x1
  clear hT lp zp x0 x1
  generalize sOf p = st at *
  go_enter Tryd.func53, Tryd.ntmps53
  go_wp2_with fail
  generalize w.alloc (Obj.cells #[Value.int IntKind.u8 0, Value.int IntKind.u8 0, Value.int IntKind.u8 0, Value.int IntKind.u8 0, Value.int IntKind.u8 0, Value.int IntKind.u8 0, Value.int IntKind.u8 0, Value.int IntKind.u8 0, Value.int IntKind.u8 0, Value.int IntKind.u8 0, Value.int IntKind.u8 0, Value.int IntKind.u8 0, Value.int IntKind.u8 0, Value.int IntKind.u8 0, Value.int IntKind.u8 0, Value.int IntKind.u8 0, Value.int IntKind.u8 0, Value.int IntKind.u8 0, Value.int IntKind.u8 0, Value.int IntKind.u8 0, Value.int IntKind.u8 0, Value.int IntKind.u8 0, Value.int IntKind.u8 0, Value.int IntKind.u8 0, Value.int IntKind.u8 0, Value.int IntKind.u8 0, Value.int IntKind.u8 0, Value.int IntKind.u8 0, Value.int IntKind.u8 0, Value.int IntKind.u8 0, Value.int IntKind.u8 0, Value.int IntKind.u8 0] 47) = w1 at *
  refine (begin_fun _).mono ?_
  rintro e w2 ⟨⟨v2, rfl, wy2⟩, hb2⟩
  have D2 : Hid (Below w.heap.size w w2) := X1.out.trans (hb2.mono X1.out.size)
  have Y2 : Hid (Blk w2 _ _) := X0.out.up hb2 X0.out.lt
  have W2 : Hid (Wy w2 v2 IV.list) := wy2
  clear hb2 X0 X1 wy2
  go_wp2_with fail
  refine (FR.out v2 w2 W2.out (HT.out.up D2.out HT.out.pos)).mono ?_
  rintro e w4 ⟨rfl, hb4⟩
  have D4 : Hid (Below w.heap.size w w4) := D2.out.trans (hb4.mono D2.out.size)
  have Y4 : Hid (Blk w4 w.heap.size ((List.replicate 32 0).map b8)) := Y2.out.up hb4 Y2.out.lt
  clear hb4 D2 Y2
  have T1 : Hid (w4.there w.heap.size 0 ((sumS p).map b8).length) := Y4.out.there (by rw [List.length_map, sumS_length]; simp)
  go_wp2_with (refine wp_store_eq rfl 47 (.tmp 2) (.tmp 5) rfl w.heap.size 0 ((sumS p).map b8) rfl rfl T1.out ID.out (one_b8 _) ?_)
  intro w5 hw5
  go_wp2_with fail
  refine bodyPost_ret (v := vB (sumS p)) ?_ rfl ⟨rfl, ?_⟩
  · rw [hw5.out]
    exact results_cell (b := w.heap.size) rfl rfl (World.rangeAt_setCells_same _ _ _ _ T1.out) u_d32 rfl ID.out
  · rw [hw5.out]
    exact below_setCells _ _ _ D4.out (Nat.le_refl _)
end Go.Proofs.YtfanndkhajokcaaDoor
