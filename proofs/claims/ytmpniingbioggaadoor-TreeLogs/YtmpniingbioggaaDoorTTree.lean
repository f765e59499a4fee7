/- The contracts of tree.Leaf and tree.Node. -/
import Derived.Test.YtmpniingbioggaaDoorTRef
namespace Go.Proofs.YtmpniingbioggaaDoor
open Go.RowKit
set_option linter.unusedSimpArgs false
attribute [local go_sem] YieldsP execOp
attribute [local simp] MP.eq_p
/-- One byte in a slice that is built. -/
theorem yields_b1 {o : Oper} {a : Act} {w : World} (y : Nat) (ho : o.op = .buildSlice 23 1 #[(0, .const (b8 y))]) : YieldsP Tryd.prog o a w (MP.by [y]).p := by
  have e : (execOp a.eval o).run Tryd.prog w = .ok (.value (.slice (some ⟨w.heap.size, 0, none⟩) 1 1)) (w.alloc (.cells #[b8 y] 5)) := by
    unfold execOp
    simp [ho, go_sem, b8]
  unfold YieldsP
  rw [e]
  refine ⟨?_, (al1 w _ _).2⟩
  exact By.of_blk (k := w.heap.size) (xs := [y]) (n := 1) (al1 w #[b8 y] 5).1 rfl
set_option maxRecDepth 20000 in
set_option maxHeartbeats 2000000 in
theorem tleaf_fun (p : List Nat) (lp : ∀ x ∈ p, x < 256) (zp : p.length ≤ 9223372036854775807) (v : Value) (w : World) (hv : By w v p) (hT : KTab w) :
    Calls Tryd.prog 11 #[v] w fun e w' => e = .returned (vB (leafS p)) ∧ Below w.heap.size w w' := by
  have W1 : Hid _ := write_fun IV 0 rfl [] [0] (by simp) (by simp) (by simp)
  have W2 : Hid _ := write_fun IV 0 rfl [0] p (by simp) lp zp
  have S1 : Hid (∀ w, KTab w → Calls Tryd.prog 32 #[stV IV 0 ([0] ++ p)] w fun e w' => e = .returned (vB (leafS p)) ∧ Below w.heap.size w w') := sum_fun IV 0 rfl ([0] ++ p) (low_app (by simp) lp)
  have HV : Hid (By w v p) := hv
  have HT : Hid (KTab w) := hT
  have ML : Hid ((leafS p).length = 32) := sumS_length _
  have ID : Hid _ := info_d32.trans (congrArg some (show 32 = ((leafS p).map b8).length by rw [List.length_map, leafS, sumS_length]))
  generalize leafS p = mk at *
  obtain ⟨x0, x1⟩ := al1 w #[Value.int IntKind.u8 0, Value.int IntKind.u8 0, Value.int IntKind.u8 0, Value.int IntKind.u8 0, Value.int IntKind.u8 0, Value.int IntKind.u8 0, Value.int IntKind.u8 0, Value.int IntKind.u8 0, Value.int IntKind.u8 0, Value.int IntKind.u8 0, Value.int IntKind.u8 0, Value.int IntKind.u8 0, Value.int IntKind.u8 0, Value.int IntKind.u8 0, Value.int IntKind.u8 0, Value.int IntKind.u8 0, Value.int IntKind.u8 0, Value.int IntKind.u8 0, Value.int IntKind.u8 0, Value.int IntKind.u8 0, Value.int IntKind.u8 0, Value.int IntKind.u8 0, Value.int IntKind.u8 0, Value.int IntKind.u8 0, Value.int IntKind.u8 0, Value.int IntKind.u8 0, Value.int IntKind.u8 0, Value.int IntKind.u8 0, Value.int IntKind.u8 0, Value.int IntKind.u8 0, Value.int IntKind.u8 0, Value.int IntKind.u8 0] 24
  have X0 : Hid (Blk _ _ ((List.replicate 32 0).map b8)) := x0
  have X1 : Hid (Below _ _ _) := x1
  rw [List.nil_append] at W1
  clear hv hT lp zp x0 x1
  go_enter Tryd.func11, Tryd.ntmps11
  go_wp2_with fail
  generalize w.alloc (Obj.cells #[Value.int IntKind.u8 0, Value.int IntKind.u8 0, Value.int IntKind.u8 0, Value.int IntKind.u8 0, Value.int IntKind.u8 0, Value.int IntKind.u8 0, Value.int IntKind.u8 0, Value.int IntKind.u8 0, Value.int IntKind.u8 0, Value.int IntKind.u8 0, Value.int IntKind.u8 0, Value.int IntKind.u8 0, Value.int IntKind.u8 0, Value.int IntKind.u8 0, Value.int IntKind.u8 0, Value.int IntKind.u8 0, Value.int IntKind.u8 0, Value.int IntKind.u8 0, Value.int IntKind.u8 0, Value.int IntKind.u8 0, Value.int IntKind.u8 0, Value.int IntKind.u8 0, Value.int IntKind.u8 0, Value.int IntKind.u8 0, Value.int IntKind.u8 0, Value.int IntKind.u8 0, Value.int IntKind.u8 0, Value.int IntKind.u8 0, Value.int IntKind.u8 0, Value.int IntKind.u8 0, Value.int IntKind.u8 0, Value.int IntKind.u8 0] 24) = w1 at *
  refine (new_fun _).mono ?_
  rintro e w2 ⟨rfl, hb2⟩
  have D2 : Hid (Below w.heap.size w w2) := X1.out.trans (hb2.mono X1.out.size)
  have Y2 : Hid (Blk w2 _ _) := X0.out.up hb2 X0.out.lt
  clear hb2 X0 X1
  obtain ⟨z0, z1⟩ := al1 w2 #[Value.int IntKind.u8 0] 5
  have Z0 : Hid (By _ (.slice (some ⟨w2.heap.size, 0, none⟩) 1 1) [0]) := By.of_blk (xs := [0]) z0 rfl
  have Z1 : Hid (Below _ _ _) := z1
  clear z0 z1
  go_wp2_with fail
  generalize w2.alloc (Obj.cells #[Value.int IntKind.u8 0] 5) = wb at *
  have Db : Hid (Below w.heap.size w wb) := D2.out.trans (Z1.out.mono D2.out.size)
  have Yb : Hid (Blk wb w.heap.size ((List.replicate 32 0).map b8)) := Y2.out.up Z1.out Y2.out.lt
  clear D2 Y2 Z1
  refine (W1.out _ wb Z0.out (HT.out.up Db.out HT.out.pos)).mono ?_
  rintro e wc ⟨rfl, hbc⟩
  have Dc : Hid (Below w.heap.size w wc) := Db.out.trans (hbc.mono Db.out.size)
  have Yc : Hid (Blk wc w.heap.size ((List.replicate 32 0).map b8)) := Yb.out.up hbc Yb.out.lt
  clear hbc Db Yb Z0
  go_wp2_with fail
  refine (W2.out v wc (HV.out.up Dc.out (Nat.le_refl _)) (HT.out.up Dc.out HT.out.pos)).mono ?_
  rintro e w3 ⟨rfl, hb3⟩
  have D3 : Hid (Below w.heap.size w w3) := Dc.out.trans (hb3.mono Dc.out.size)
  have Y3 : Hid (Blk w3 w.heap.size ((List.replicate 32 0).map b8)) := Yc.out.up hb3 Yc.out.lt
  clear hb3 Dc Yc
  go_wp2_with fail
  refine (S1.out w3 (HT.out.up D3.out HT.out.pos)).mono ?_
  rintro e w4 ⟨rfl, hb4⟩
  have D4 : Hid (Below w.heap.size w w4) := D3.out.trans (hb4.mono D3.out.size)
  have Y4 : Hid (Blk w4 w.heap.size ((List.replicate 32 0).map b8)) := Y3.out.up hb4 Y3.out.lt
  clear hb4 D3 Y3
  have T1 : Hid (w4.there w.heap.size 0 (mk.map b8).length) := Y4.out.there (by rw [List.length_map, ML.out]; simp)
  go_wp2_with (refine wp_store_eq rfl 24 (.tmp 2) (.tmp 8) rfl w.heap.size 0 (mk.map b8) rfl rfl T1.out ID.out (one_b8 _) ?_)
  intro w5 hw5
  go_wp2_with fail
  refine bodyPost_ret (v := vB mk) ?_ rfl ⟨rfl, ?_⟩
  · rw [hw5.out]
    exact results_cell (b := w.heap.size) rfl rfl (World.rangeAt_setCells_same _ _ _ _ T1.out) u_d32 rfl ID.out
  · rw [hw5.out]
    exact below_setCells _ _ _ D4.out (by omega)
set_option maxRecDepth 20000 in
set_option maxHeartbeats 2000000 in
theorem tnode_fun (a b : List Nat) (ha : a.length = 32) (hb : b.length = 32) (la : ∀ x ∈ a, x < 256) (lb : ∀ x ∈ b, x < 256) (w : World) (hT : KTab w) :
    Calls Tryd.prog 13 #[vB a, vB b] w fun e w' => e = .returned (vB (nodeS a b)) ∧ Below w.heap.size w w' := by
  have W1 : Hid _ := write_fun IV 0 rfl [] [1] (by simp) (by simp) (by simp)
  have W2 : Hid _ := write_fun IV 0 rfl [1] a (by simp) la (by omega)
  have W3 : Hid _ := write_fun IV 0 rfl ([1] ++ a) b (low_app (by simp) la) lb (by omega)
  have S1 : Hid (∀ w, KTab w → Calls Tryd.prog 32 #[stV IV 0 ([1] ++ a ++ b)] w fun e w' => e = .returned (vB (nodeS a b)) ∧ Below w.heap.size w w') := sum_fun IV 0 rfl ([1] ++ a ++ b) (low_app (low_app (by simp) la) lb)
  have HT : Hid (KTab w) := hT
  have HA : Hid (a.length = 32) := ha
  have HB : Hid (b.length = 32) := hb
  have ML : Hid ((nodeS a b).length = 32) := sumS_length _
  have ID : Hid _ := info_d32.trans (congrArg some (show 32 = ((nodeS a b).map b8).length by rw [List.length_map, nodeS, sumS_length]))
  generalize nodeS a b = mk at *
  obtain ⟨x0, x1, x2, x3⟩ := al3 w (a.map b8).toArray (b.map b8).toArray #[Value.int IntKind.u8 0, Value.int IntKind.u8 0, Value.int IntKind.u8 0, Value.int IntKind.u8 0, Value.int IntKind.u8 0, Value.int IntKind.u8 0, Value.int IntKind.u8 0, Value.int IntKind.u8 0, Value.int IntKind.u8 0, Value.int IntKind.u8 0, Value.int IntKind.u8 0, Value.int IntKind.u8 0, Value.int IntKind.u8 0, Value.int IntKind.u8 0, Value.int IntKind.u8 0, Value.int IntKind.u8 0, Value.int IntKind.u8 0, Value.int IntKind.u8 0, Value.int IntKind.u8 0, Value.int IntKind.u8 0, Value.int IntKind.u8 0, Value.int IntKind.u8 0, Value.int IntKind.u8 0, Value.int IntKind.u8 0, Value.int IntKind.u8 0, Value.int IntKind.u8 0, Value.int IntKind.u8 0, Value.int IntKind.u8 0, Value.int IntKind.u8 0, Value.int IntKind.u8 0, Value.int IntKind.u8 0, Value.int IntKind.u8 0] 24 24 24
  have X0 : Hid (Blk _ _ (a.map b8)) := x0
  have X1 : Hid (Blk _ _ (b.map b8)) := x1
  have X2 : Hid (Blk _ _ ((List.replicate 32 0).map b8)) := x2
  have X3 : Hid (Below _ _ _) := x3
  have SD : Hid (∀ g W, _) := fun g W => slice_all u_d32 info_u8 (by decide) g 0 W
  rw [List.nil_append] at W1
  clear hT la lb x0 x1 x2 x3 ha hb
  go_enter Tryd.func13, Tryd.ntmps13
  go_wp2_with fail
  generalize ((w.alloc (Obj.cells (a.map b8).toArray 24)).alloc (Obj.cells (b.map b8).toArray 24)).alloc (Obj.cells #[Value.int IntKind.u8 0, Value.int IntKind.u8 0, Value.int IntKind.u8 0, Value.int IntKind.u8 0, Value.int IntKind.u8 0, Value.int IntKind.u8 0, Value.int IntKind.u8 0, Value.int IntKind.u8 0, Value.int IntKind.u8 0, Value.int IntKind.u8 0, Value.int IntKind.u8 0, Value.int IntKind.u8 0, Value.int IntKind.u8 0, Value.int IntKind.u8 0, Value.int IntKind.u8 0, Value.int IntKind.u8 0, Value.int IntKind.u8 0, Value.int IntKind.u8 0, Value.int IntKind.u8 0, Value.int IntKind.u8 0, Value.int IntKind.u8 0, Value.int IntKind.u8 0, Value.int IntKind.u8 0, Value.int IntKind.u8 0, Value.int IntKind.u8 0, Value.int IntKind.u8 0, Value.int IntKind.u8 0, Value.int IntKind.u8 0, Value.int IntKind.u8 0, Value.int IntKind.u8 0, Value.int IntKind.u8 0, Value.int IntKind.u8 0] 24) = w1 at *
  generalize stV IV 0 ([1] ++ a ++ b) = s4 at *
  generalize stV IV 0 ([1] ++ a) = s3 at *
  generalize stV IV 0 [1] = s2 at *
  have NF : Hid _ := new_fun
  generalize stV IV 0 [] = s1 at *
  have KU : Hid (∀ W, Below w1.heap.size w1 W → KTab W) := fun W hW => HT.out.up (X3.out.trans (hW.mono X3.out.size)) HT.out.pos
  refine wp_region_monoSE 8 [MP.eq (s1), MP.by [1], MP.eq s2, MP.eq (.slice (some ⟨w.heap.size, 0, none⟩) 32 32), MP.eq (s3), MP.eq (.slice (some ⟨w.heap.size + 1, 0, none⟩) 32 32), MP.eq (s4), MP.eq (vB mk)] (by kernel_rfl) (by kernel_rfl) rfl (by decide) (by kernel_rfl) ?_
  apply Exists.intro
  refine ⟨fun vals => ?_, ?_, fun vals4 w4 hb4 hF hO => ?_⟩
  · simp only [putsV, dstL, List.length_cons, List.length_nil, Nat.zero_add, Nat.reduceAdd, List.getElem?_cons_zero, List.getElem?_cons_succ, Option.bind_some, Act.put, List.setIfInBounds_toArray, List.set_cons_succ, List.set_cons_zero]
    rfl
  · refine ⟨?_, ?_, ?_, ?_, ?_, ?_, ?_, ?_, trivial⟩
    · intro vals W hW hw hd
      try simp [Region.binds] at hd
      refine ⟨by first | rfl | simp [Region.wanted, yielded, hd], ?_⟩
      simp [go_sem, hd]
      exact (NF.out W).mono fun e w' ⟨he, hb⟩ => ⟨_, he, rfl, hb⟩
    · intro vals W hW hw hd
      try simp [Region.binds] at hd
      refine ⟨by first | rfl | simp [Region.wanted, yielded, hd], ?_⟩
      exact yields_b1 1 rfl
    · intro vals W hW hw hd
      try simp [Region.binds] at hd
      refine ⟨by first | rfl | simp [Region.wanted, yielded, hd], ?_⟩
      simp [go_sem, hd]
      exact (W1.out _ W hd.2.1 (KU.out W hW.out)).mono fun e w' ⟨he, hb⟩ => ⟨_, he, rfl, hb⟩
    · intro vals W hW hw hd
      try simp [Region.binds] at hd
      refine ⟨by first | rfl | simp [Region.wanted, yielded, hd], ?_⟩
      simp [go_sem, hd, SD.out w.heap.size W]
      exact Below.refl _ _
    · intro vals W hW hw hd
      try simp [Region.binds] at hd
      refine ⟨by first | rfl | simp [Region.wanted, yielded, hd], ?_⟩
      simp [go_sem, hd]
      exact (W2.out _ W (By.of_blk (X0.out.up hW.out X0.out.lt) HA.out) (KU.out W hW.out)).mono fun e w' ⟨he, hb⟩ => ⟨_, he, rfl, hb⟩
    · intro vals W hW hw hd
      try simp [Region.binds] at hd
      refine ⟨by first | rfl | simp [Region.wanted, yielded, hd], ?_⟩
      simp [go_sem, hd, SD.out (w.heap.size + 1) W]
      exact Below.refl _ _
    · intro vals W hW hw hd
      try simp [Region.binds] at hd
      refine ⟨by first | rfl | simp [Region.wanted, yielded, hd], ?_⟩
      simp [go_sem, hd]
      exact (W3.out _ W (By.of_blk (X1.out.up hW.out X1.out.lt) HB.out) (KU.out W hW.out)).mono fun e w' ⟨he, hb⟩ => ⟨_, he, rfl, hb⟩
    · intro vals W hW hw hd
      try simp [Region.binds] at hd
      refine ⟨by first | rfl | simp [Region.wanted, yielded, hd], ?_⟩
      simp [go_sem, hd]
      exact (S1.out W (KU.out W hW.out)).mono fun e w' ⟨he, hb⟩ => ⟨_, he, rfl, hb⟩
  obtain ⟨f0, f1, f2, f3, f4, f5, f6, f7, _⟩ := hF
  simp only [MP.eq_p] at f0 f2 f3 f4 f5 f6 f7
  rw [f0, f2, f3, f4, f5, f6, f7]
  simp only [List.drop_succ_cons, List.drop_zero]
  have D4 : Hid (Below w.heap.size w w4) := X3.out.trans (hb4.out.mono X3.out.size)
  have Y4 : Hid (Blk w4 (w.heap.size + 1 + 1) ((List.replicate 32 0).map b8)) := X2.out.up hb4.out X2.out.lt
  clear f0 f1 f2 f3 f4 f5 f6 f7 hb4 hO X0 X1 X2 X3 S1 SD
  have T1 : Hid (w4.there (w.heap.size + 1 + 1) 0 (mk.map b8).length) := Y4.out.there (by rw [List.length_map, ML.out]; simp)
  go_wp2_with (refine wp_store_eq rfl 24 (.tmp 4) (.tmp 12) rfl (w.heap.size + 1 + 1) 0 (mk.map b8) rfl rfl T1.out ID.out (one_b8 _) ?_)
  intro w5 hw5
  go_wp2_with fail
  refine bodyPost_ret (v := vB mk) ?_ rfl ⟨rfl, ?_⟩
  · rw [hw5.out]
    exact results_cell (b := (w.heap.size + 1 + 1)) rfl rfl (World.rangeAt_setCells_same _ _ _ _ T1.out) u_d32 rfl ID.out
  · rw [hw5.out]
    exact below_setCells _ _ _ D4.out (by omega)
end Go.Proofs.YtmpniingbioggaaDoor
