/- The contracts of sealringref.Leaf, Node. -/
import Derived.Test.YtmpniingbioggaaDoorHRS
import Derived.Test.YtmpniingbioggaaDoorTSl
import Derived.Test.YtmpniingbioggaaDoorHX
import Derived.Test.YtmpniingbioggaaDoorTMath
import Derived.Test.YtmpniingbioggaaDoorUpS
namespace Go.Proofs.YtmpniingbioggaaDoor
open Go.RowKit
set_option linter.unusedSimpArgs false
attribute [local go_sem] YieldsP execOp
attribute [local simp] MP.eq_p
def leafS (p : List Nat) : List Nat := sumS (0 :: p)
def nodeS (a b : List Nat) : List Nat := sumS (1 :: (a ++ b))
set_option maxRecDepth 20000 in
set_option maxHeartbeats 2000000 in
theorem rleaf_fun (p : List Nat) (lp : ∀ x ∈ p, x < 256) (zp : p.length ≤ 500000000000000) (w : World) (hT : RTab w) :
    Calls Tryd.prog 12 #[.string (sOf p)] w fun e w' => e = .returned (vB (leafS p)) ∧ Below w.heap.size w w' := by
  have S1 : Hid (∀ w, RTab w → Calls Tryd.prog 33 #[.string (sOf (0 :: p))] w fun e w' => e = .returned (vB (leafS p)) ∧ Below w.heap.size w w') := rsum_fun (0 :: p) (fun x hx => (List.mem_cons.1 hx).elim (fun h => by rw [h]; decide) (lp x)) (by rw [List.length_cons]; omega)
  have CC : Hid ((⟨#[0]⟩ : ByteArray) ++ sOf p = sOf (0 :: p)) := by
    have := sOf_append [0] p
    exact this
  have z1 : ¬ 9223372036854775807 < (⟨#[0]⟩ : ByteArray).size + (sOf p).size := by
    rw [sOf_size]
    show ¬ 9223372036854775807 < 1 + p.length
    omega
  have z2 : ¬ 9223372036854775807 < 1 + (sOf p).size := z1
  have HT : Hid (RTab w) := hT
  have ML : Hid ((leafS p).length = 32) := sumS_length _
  have ID : Hid _ := info_d32.trans (congrArg some (show 32 = ((leafS p).map b8).length by rw [List.length_map, leafS, sumS_length]))
  generalize leafS p = mk at *
  obtain ⟨x0, x1⟩ := al1 w #[Value.int IntKind.u8 0, Value.int IntKind.u8 0, Value.int IntKind.u8 0, Value.int IntKind.u8 0, Value.int IntKind.u8 0, Value.int IntKind.u8 0, Value.int IntKind.u8 0, Value.int IntKind.u8 0, Value.int IntKind.u8 0, Value.int IntKind.u8 0, Value.int IntKind.u8 0, Value.int IntKind.u8 0, Value.int IntKind.u8 0, Value.int IntKind.u8 0, Value.int IntKind.u8 0, Value.int IntKind.u8 0, Value.int IntKind.u8 0, Value.int IntKind.u8 0, Value.int IntKind.u8 0, Value.int IntKind.u8 0, Value.int IntKind.u8 0, Value.int IntKind.u8 0, Value.int IntKind.u8 0, Value.int IntKind.u8 0, Value.int IntKind.u8 0, Value.int IntKind.u8 0, Value.int IntKind.u8 0, Value.int IntKind.u8 0, Value.int IntKind.u8 0, Value.int IntKind.u8 0, Value.int IntKind.u8 0, Value.int IntKind.u8 0] 24
  have X0 : Hid (Blk _ _ ((List.replicate 32 0).map b8)) := x0
  have X1 : Hid (Below _ _ _) := x1
  clear hT lp zp x0 x1
  generalize sOf (0 :: p) = up at *
  generalize sOf p = us at *
  go_enter Tryd.func12, Tryd.ntmps12
  go_wp2_with fail
  rw [CC.out]
  generalize w.alloc (Obj.cells #[Value.int IntKind.u8 0, Value.int IntKind.u8 0, Value.int IntKind.u8 0, Value.int IntKind.u8 0, Value.int IntKind.u8 0, Value.int IntKind.u8 0, Value.int IntKind.u8 0, Value.int IntKind.u8 0, Value.int IntKind.u8 0, Value.int IntKind.u8 0, Value.int IntKind.u8 0, Value.int IntKind.u8 0, Value.int IntKind.u8 0, Value.int IntKind.u8 0, Value.int IntKind.u8 0, Value.int IntKind.u8 0, Value.int IntKind.u8 0, Value.int IntKind.u8 0, Value.int IntKind.u8 0, Value.int IntKind.u8 0, Value.int IntKind.u8 0, Value.int IntKind.u8 0, Value.int IntKind.u8 0, Value.int IntKind.u8 0, Value.int IntKind.u8 0, Value.int IntKind.u8 0, Value.int IntKind.u8 0, Value.int IntKind.u8 0, Value.int IntKind.u8 0, Value.int IntKind.u8 0, Value.int IntKind.u8 0, Value.int IntKind.u8 0] 24) = w1 at *
  refine (S1.out w1 (HT.out.up X1.out HT.out.pos)).mono ?_
  rintro e w4 ⟨rfl, hb4⟩
  have D4 : Hid (Below w.heap.size w w4) := X1.out.trans (hb4.mono X1.out.size)
  have Y4 : Hid (Blk w4 w.heap.size ((List.replicate 32 0).map b8)) := X0.out.up hb4 X0.out.lt
  clear hb4 X0 X1
  have T1 : Hid (w4.there w.heap.size 0 (mk.map b8).length) := Y4.out.there (by rw [List.length_map, ML.out]; simp)
  go_wp2_with (refine wp_store_eq rfl 24 (.tmp 2) (.tmp 5) rfl w.heap.size 0 (mk.map b8) rfl rfl T1.out ID.out (one_b8 _) ?_)
  intro w5 hw5
  go_wp2_with fail
  refine bodyPost_ret (v := vB mk) ?_ rfl ⟨rfl, ?_⟩
  · rw [hw5.out]
    exact results_cell (b := w.heap.size) rfl rfl (World.rangeAt_setCells_same _ _ _ _ T1.out) u_d32 rfl ID.out
  · rw [hw5.out]
    exact below_setCells _ _ _ D4.out (Nat.le_refl _)
set_option maxRecDepth 20000 in
set_option maxHeartbeats 2000000 in
theorem rnode_fun (a b : List Nat) (ha : a.length = 32) (hb : b.length = 32) (la : ∀ x ∈ a, x < 256) (lb : ∀ x ∈ b, x < 256) (w : World) (hT : RTab w) :
    Calls Tryd.prog 14 #[vB a, vB b] w fun e w' => e = .returned (vB (nodeS a b)) ∧ Below w.heap.size w w' := by
  have S1 : Hid (∀ w, RTab w → Calls Tryd.prog 33 #[.string (sOf (1 :: (a ++ b)))] w fun e w' => e = .returned (vB (nodeS a b)) ∧ Below w.heap.size w w') := rsum_fun (1 :: (a ++ b)) (fun x hx => (List.mem_cons.1 hx).elim (fun h => by rw [h]; decide) (fun h => (List.mem_append.1 h).elim (la x) (lb x))) (by rw [List.length_cons, List.length_append]; omega)
  have C1 : Hid ((⟨#[1]⟩ : ByteArray) ++ sOf a = sOf (1 :: a)) := by
    have := sOf_append [1] a
    exact this
  have C2 : Hid (sOf (1 :: a) ++ sOf b = sOf (1 :: (a ++ b))) := by
    have := sOf_append (1 :: a) b
    exact this
  have sa : (sOf a).size = 32 := by rw [sOf_size, ha]
  have sb : (sOf b).size = 32 := by rw [sOf_size, hb]
  have sc : (sOf (1 :: a)).size = 33 := by rw [sOf_size, List.length_cons, ha]
  have HT : Hid (RTab w) := hT
  have HA : Hid (a.length = 32) := ha
  have HB : Hid (b.length = 32) := hb
  have ML : Hid ((nodeS a b).length = 32) := sumS_length _
  have ID : Hid _ := info_d32.trans (congrArg some (show 32 = ((nodeS a b).map b8).length by rw [List.length_map, nodeS, sumS_length]))
  generalize nodeS a b = mk at *
  obtain ⟨x0, x1, x2, x3⟩ := al3 w (a.map b8).toArray (b.map b8).toArray #[Value.int IntKind.u8 0, Value.int IntKind.u8 0, Value.int IntKind.u8 0, Value.int IntKind.u8 0, Value.int IntKind.u8 0, Value.int IntKind.u8 0, Value.int IntKind.u8 0, Value.int IntKind.u8 0, Value.int IntKind.u8 0, Value.int IntKind.u8 0, Value.int IntKind.u8 0, Value.int IntKind.u8 0, Value.int IntKind.u8 0, Value.int IntKind.u8 0, Value.int IntKind.u8 0, Value.int IntKind.u8 0, Value.int IntKind.u8 0, Value.int IntKind.u8 0, Value.int IntKind.u8 0, Value.int IntKind.u8 0, Value.int IntKind.u8 0, Value.int IntKind.u8 0, Value.int IntKind.u8 0, Value.int IntKind.u8 0, Value.int IntKind.u8 0, Value.int IntKind.u8 0, Value.int IntKind.u8 0, Value.int IntKind.u8 0, Value.int IntKind.u8 0, Value.int IntKind.u8 0, Value.int IntKind.u8 0, Value.int IntKind.u8 0] 24 24 24
  have X0 : Hid (Blk _ _ (a.map b8)) := x0
  have X1 : Hid (Blk _ _ (b.map b8)) := x1
  have X2 : Hid (Blk _ _ ((List.replicate 32 0).map b8)) := x2
  have X3 : Hid (Below _ _ _) := x3
  have SD : Hid (∀ g W, _) := fun g W => slice_all u_d32 info_u8 (by decide) g 0 W
  clear hT la lb x0 x1 x2 x3 ha hb
  go_enter Tryd.func14, Tryd.ntmps14
  go_wp2_with fail
  generalize ((w.alloc (Obj.cells (a.map b8).toArray 24)).alloc (Obj.cells (b.map b8).toArray 24)).alloc (Obj.cells #[Value.int IntKind.u8 0, Value.int IntKind.u8 0, Value.int IntKind.u8 0, Value.int IntKind.u8 0, Value.int IntKind.u8 0, Value.int IntKind.u8 0, Value.int IntKind.u8 0, Value.int IntKind.u8 0, Value.int IntKind.u8 0, Value.int IntKind.u8 0, Value.int IntKind.u8 0, Value.int IntKind.u8 0, Value.int IntKind.u8 0, Value.int IntKind.u8 0, Value.int IntKind.u8 0, Value.int IntKind.u8 0, Value.int IntKind.u8 0, Value.int IntKind.u8 0, Value.int IntKind.u8 0, Value.int IntKind.u8 0, Value.int IntKind.u8 0, Value.int IntKind.u8 0, Value.int IntKind.u8 0, Value.int IntKind.u8 0, Value.int IntKind.u8 0, Value.int IntKind.u8 0, Value.int IntKind.u8 0, Value.int IntKind.u8 0, Value.int IntKind.u8 0, Value.int IntKind.u8 0, Value.int IntKind.u8 0, Value.int IntKind.u8 0] 24) = w1 at *
  generalize hA : sOf a = ua at *
  generalize hB : sOf b = ub at *
  generalize sOf (1 :: a) = uc at *
  generalize sOf (1 :: (a ++ b)) = ud at *
  refine wp_region_monoSE 7 [MP.eq (.slice (some ⟨w.heap.size, 0, none⟩) 32 32), MP.eq (.string ua), MP.eq (.string uc), MP.eq (.slice (some ⟨w.heap.size + 1, 0, none⟩) 32 32), MP.eq (.string ub), MP.eq (.string ud), MP.eq (vB mk)] (by kernel_rfl) (by kernel_rfl) rfl (by decide) (by kernel_rfl) ?_
  apply Exists.intro
  refine ⟨fun vals => ?_, ?_, fun vals4 w4 hb4 hF hO => ?_⟩
  · simp only [putsV, dstL, List.length_cons, List.length_nil, Nat.zero_add, Nat.reduceAdd, List.getElem?_cons_zero, List.getElem?_cons_succ, Option.bind_some, Act.put, List.setIfInBounds_toArray, List.set_cons_succ, List.set_cons_zero]
    rfl
  · refine ⟨?_, ?_, ?_, ?_, ?_, ?_, ?_, trivial⟩
    · intro vals W hW hw hd
      try simp [Region.binds] at hd
      refine ⟨by first | rfl | simp [Region.wanted, yielded, hd], ?_⟩
      simp [go_sem, hd, SD.out w.heap.size W]
      exact Below.refl _ _
    · intro vals W hW hw hd
      try simp [Region.binds] at hd
      refine ⟨by first | rfl | simp [Region.wanted, yielded, hd], ?_⟩
      simp [go_sem, hd, bytes_conv (By.of_blk (X0.out.up hW.out X0.out.lt) HA.out), hA]
      exact Below.refl _ _
    · intro vals W hW hw hd
      try simp [Region.binds] at hd
      refine ⟨by first | rfl | simp [Region.wanted, yielded, hd], ?_⟩
      simp [go_sem, hd, C1.out, sa]
      exact Below.refl _ _
    · intro vals W hW hw hd
      try simp [Region.binds] at hd
      refine ⟨by first | rfl | simp [Region.wanted, yielded, hd], ?_⟩
      simp [go_sem, hd, SD.out (w.heap.size + 1) W]
      exact Below.refl _ _
    · intro vals W hW hw hd
      try simp [Region.binds] at hd
      refine ⟨by first | rfl | simp [Region.wanted, yielded, hd], ?_⟩
      simp [go_sem, hd, bytes_conv (By.of_blk (X1.out.up hW.out X1.out.lt) HB.out), hB]
      exact Below.refl _ _
    · intro vals W hW hw hd
      try simp [Region.binds] at hd
      refine ⟨by first | rfl | simp [Region.wanted, yielded, hd], ?_⟩
      simp [go_sem, hd, C2.out, sb, sc]
      exact Below.refl _ _
    · intro vals W hW hw hd
      try simp [Region.binds] at hd
      refine ⟨by first | rfl | simp [Region.wanted, yielded, hd], ?_⟩
      simp [go_sem, hd]
      exact (S1.out W (HT.out.up (X3.out.trans (hW.out.mono X3.out.size)) HT.out.pos)).mono fun e w' ⟨he, hb⟩ => ⟨_, he, rfl, hb⟩
  obtain ⟨f0, f1, f2, f3, f4, f5, f6, _⟩ := hF
  simp only [MP.eq_p] at f0 f1 f2 f3 f4 f5 f6
  rw [f0, f1, f2, f3, f4, f5, f6]
  simp only [List.drop_succ_cons, List.drop_zero]
  have D4 : Hid (Below w.heap.size w w4) := X3.out.trans (hb4.out.mono X3.out.size)
  have Y4 : Hid (Blk w4 (w.heap.size + 1 + 1) ((List.replicate 32 0).map b8)) := X2.out.up hb4.out X2.out.lt
  clear f0 f1 f2 f3 f4 f5 f6 hb4 hO X0 X1 X2 X3 S1 SD
  have T1 : Hid (w4.there (w.heap.size + 1 + 1) 0 (mk.map b8).length) := Y4.out.there (by rw [List.length_map, ML.out]; simp)
  go_wp2_with (refine wp_store_eq rfl 24 (.tmp 4) (.tmp 11) rfl (w.heap.size + 1 + 1) 0 (mk.map b8) rfl rfl T1.out ID.out (one_b8 _) ?_)
  intro w5 hw5
  go_wp2_with fail
  refine bodyPost_ret (v := vB mk) ?_ rfl ⟨rfl, ?_⟩
  · rw [hw5.out]
    exact results_cell (b := w.heap.size + 1 + 1) rfl rfl (World.rangeAt_setCells_same _ _ _ _ T1.out) u_d32 rfl ID.out
  · rw [hw5.out]
    exact below_setCells _ _ _ D4.out (by omega)
end Go.Proofs.YtmpniingbioggaaDoor
