/- The contract of tree.Check. -/
import Derived.Test.YtmpniingbioggaaDoorTClm
namespace Go.Proofs.YtmpniingbioggaaDoor
open Go.RowKit
set_option linter.unusedSimpArgs false
theorem skip_op {P : Program} {ops : Array Oper} {rest : List Oper} {o : Oper} {a : Act} {Q : Exit → Act → World → Prop} {w : World} (hg : Region.wanted o (yielded ops a.tmps) = false) (h : wpList P ops Q rest (a.put o.dst undef) w) : wpList P ops Q (o :: rest) a w :=
  wpList_step fun K hK => by rw [if_neg (by rw [hg]; exact Bool.false_ne_true)]; exact hK _ _ h
set_option maxRecDepth 20000 in
set_option maxHeartbeats 2000000 in
theorem tcheck_fun (root : List Nat) (hr : root.length = 32) (n i : Nat) (hi : i < n) (zn : n ≤ 65536) (v1 : Value) (p : List Nat) (lp : ∀ x ∈ p, x < 256) (zl : p.length ≤ 500000000000000) (v2 : Value) (path : List (List Nat)) (low : Dlow path) (zp : path.length ≤ 1000000) (w : World) (h1 : By w v1 p) (h2 : Ds w v2 path) (hT : KTab w) :
    Calls Tryd.prog 18 #[vB root, .int .i64 (n : Int), .int .i64 (i : Int), v1, v2] w fun e w' => e = .returned (.bool (chkS root n i p path)) ∧ Below w.heap.size w w' := by
  cases hb : (clmS (leafS p) path.reverse n i).2 with
  | true =>
    have CB : Hid _ := chkS_clm root n i hi p path
    rw [CB.out]
    have TL : Hid _ := tleaf_fun p lp (by omega) v1
    have CM : Hid _ := tclimb_fun (leafS p) (leafS_low p) path.reverse (fun d hd => low d (by simpa using hd)) (by rw [List.length_reverse]; exact zp) n i hi zn v2
    rw [List.reverse_reverse] at CM
    have CL : Hid _ := clmS_low (leafS p) (leafS_low p) path.reverse n i
    generalize leafS p = lf at *
    have HP : Hid (Ds w v2 path) := h2
    have HV : Hid (By w v1 p) := h1
    have HT : Hid (KTab w) := hT
    have RL : Hid (root.length = 32) := hr
    obtain ⟨x0, x1⟩ := al1 w (root.map b8).toArray 24
    have X0 : Hid (Blk _ _ (root.map b8)) := x0
    have X1 : Hid (Below _ _ _) := x1
    have n1 : ¬ (65536 : Int) < (n : Int) := by omega
    have n2 : ¬ (i : Int) < 0 := by omega
    have n3 : ¬ (n : Int) ≤ (i : Int) := by omega
    have n1b : decide ((65536 : Int) < (n : Int)) = false := by simpa using n1
    have n2b : decide ((i : Int) < 0) = false := by simp
    have n3b : decide ((n : Int) ≤ (i : Int)) = false := by simpa using n3
    clear h1 h2 hT hr low lp zp zl x0 x1 hi zn CB
    generalize (clmS lf path.reverse n i).1 = c1 at *
    rw [hb] at CM ⊢
    clear hb
    go_enter Tryd.func18, Tryd.ntmps18
    go_wp2_with fail
    generalize w.alloc (Obj.cells (root.map b8).toArray 24) = w1 at *
    refine (TL.out w1 (HV.out.up X1.out (Nat.le_refl _)) (HT.out.up X1.out HT.out.pos)).mono ?_
    rintro e w2 ⟨rfl, hb2⟩
    have D2 : Hid (Below w.heap.size w w2) := X1.out.trans (hb2.mono X1.out.size)
    have Y2 : Hid (Blk w2 w.heap.size (root.map b8)) := X0.out.up hb2 X0.out.lt
    clear hb2 X0 X1
    go_wp2_with fail
    refine (CM.out w2 (HP.out.up D2.out (Nat.le_refl _)) (HT.out.up D2.out HT.out.pos)).mono ?_
    rintro e w3 ⟨rfl, hb3⟩
    have D3 : Hid (Below w.heap.size w w3) := D2.out.trans (hb3.mono D2.out.size)
    have Y3 : Hid (Blk w3 w.heap.size (root.map b8)) := Y2.out.up hb3 Y2.out.lt
    clear hb3 D2 Y2 CM
    have I1 : Hid _ := info_d32.trans (congrArg some (show 32 = (c1.map b8).length by rw [List.length_map, CL.out.1]))
    have T1 : Hid (∀ C t, C.size = 32 → World.there (w3.alloc (.cells C t)) w3.heap.size 0 (c1.map b8).length) := fun C t hC => (al1 w3 C t).1.there (by rw [List.length_map, CL.out.1, Array.length_toList, hC]; omega)
    go_wp2_with (refine wp_store_eq rfl 24 (.tmp 11) (.tmp 31) rfl w3.heap.size 0 (c1.map b8) rfl rfl (T1.out _ _ rfl) I1.out (one_b8 _) ?_)
    intro w4 hw4
    obtain ⟨b4, h4⟩ : Blk w4 w3.heap.size (c1.map b8) ∧ Below w3.heap.size w3 w4 := by
      rw [hw4.out]
      exact alst w3 _ _ _ (by rw [List.length_map, CL.out.1]; rfl)
    have B4 : Hid (Blk w4 w3.heap.size (c1.map b8)) := b4
    have D4 : Hid (Below w.heap.size w w4) := D3.out.trans (h4.mono D3.out.size)
    have Y4 : Hid (Blk w4 w.heap.size (root.map b8)) := Y3.out.up h4 Y3.out.lt
    clear hw4 b4 h4 D3 Y3 T1
    generalize w3.heap.size = g at *
    go_wp2_with (first | (refine wp_ldD rfl (.tmp 11) rfl g 0 rfl c1 B4.out.all CL.out.1 ?_) | (refine wp_ldD rfl (.tmp 5) rfl w.heap.size 0 rfl root Y4.out.all RL.out ?_) | (refine wp_eqG rfl (.tmp 35) (.tmp 36) _ rfl c1 root CL.out.1 RL.out rfl rfl ?_))
    go_ret
    exact ⟨rfl, D4.out⟩
  | false =>
    have CB : Hid _ := chkS_clm root n i hi p path
    rw [CB.out]
    have TL : Hid _ := tleaf_fun p lp (by omega) v1
    have CM : Hid _ := tclimb_fun (leafS p) (leafS_low p) path.reverse (fun d hd => low d (by simpa using hd)) (by rw [List.length_reverse]; exact zp) n i hi zn v2
    rw [List.reverse_reverse] at CM
    have CL : Hid _ := clmS_low (leafS p) (leafS_low p) path.reverse n i
    generalize leafS p = lf at *
    have HP : Hid (Ds w v2 path) := h2
    have HV : Hid (By w v1 p) := h1
    have HT : Hid (KTab w) := hT
    have RL : Hid (root.length = 32) := hr
    obtain ⟨x0, x1⟩ := al1 w (root.map b8).toArray 24
    have X0 : Hid (Blk _ _ (root.map b8)) := x0
    have X1 : Hid (Below _ _ _) := x1
    have n1 : ¬ (65536 : Int) < (n : Int) := by omega
    have n2 : ¬ (i : Int) < 0 := by omega
    have n3 : ¬ (n : Int) ≤ (i : Int) := by omega
    have n1b : decide ((65536 : Int) < (n : Int)) = false := by simpa using n1
    have n2b : decide ((i : Int) < 0) = false := by simp
    have n3b : decide ((n : Int) ≤ (i : Int)) = false := by simpa using n3
    clear h1 h2 hT hr low lp zp zl x0 x1 hi zn CB
    generalize (clmS lf path.reverse n i).1 = c1 at *
    rw [hb] at CM ⊢
    clear hb
    go_enter Tryd.func18, Tryd.ntmps18
    go_wp2_with fail
    generalize w.alloc (Obj.cells (root.map b8).toArray 24) = w1 at *
    refine (TL.out w1 (HV.out.up X1.out (Nat.le_refl _)) (HT.out.up X1.out HT.out.pos)).mono ?_
    rintro e w2 ⟨rfl, hb2⟩
    have D2 : Hid (Below w.heap.size w w2) := X1.out.trans (hb2.mono X1.out.size)
    have Y2 : Hid (Blk w2 w.heap.size (root.map b8)) := X0.out.up hb2 X0.out.lt
    clear hb2 X0 X1
    go_wp2_with fail
    refine (CM.out w2 (HP.out.up D2.out (Nat.le_refl _)) (HT.out.up D2.out HT.out.pos)).mono ?_
    rintro e w3 ⟨rfl, hb3⟩
    have D3 : Hid (Below w.heap.size w w3) := D2.out.trans (hb3.mono D2.out.size)
    have Y3 : Hid (Blk w3 w.heap.size (root.map b8)) := Y2.out.up hb3 Y2.out.lt
    clear hb3 D2 Y2 CM
    have I1 : Hid _ := info_d32.trans (congrArg some (show 32 = (c1.map b8).length by rw [List.length_map, CL.out.1]))
    have T1 : Hid (∀ C t, C.size = 32 → World.there (w3.alloc (.cells C t)) w3.heap.size 0 (c1.map b8).length) := fun C t hC => (al1 w3 C t).1.there (by rw [List.length_map, CL.out.1, Array.length_toList, hC]; omega)
    go_wp2_with (refine wp_store_eq rfl 24 (.tmp 11) (.tmp 31) rfl w3.heap.size 0 (c1.map b8) rfl rfl (T1.out _ _ rfl) I1.out (one_b8 _) ?_)
    intro w4 hw4
    obtain ⟨b4, h4⟩ : Blk w4 w3.heap.size (c1.map b8) ∧ Below w3.heap.size w3 w4 := by
      rw [hw4.out]
      exact alst w3 _ _ _ (by rw [List.length_map, CL.out.1]; rfl)
    have B4 : Hid (Blk w4 w3.heap.size (c1.map b8)) := b4
    have D4 : Hid (Below w.heap.size w w4) := D3.out.trans (h4.mono D3.out.size)
    have Y4 : Hid (Blk w4 w.heap.size (root.map b8)) := Y3.out.up h4 Y3.out.lt
    clear hw4 b4 h4 D3 Y3 T1
    generalize w3.heap.size = g at *
    go_wp2_with fail
    go_ret
    exact ⟨rfl, D4.out⟩
set_option maxHeartbeats 1000000 in
theorem tcheck_bad (root : List Nat) (n i : Int) (h : 65536 < n ∨ i < 0 ∨ n ≤ i) (u v : Value) (w : World) :
    Calls Tryd.prog 18 #[vB root, .int .i64 n, .int .i64 i, u, v] w fun e w' => e = .returned (.bool false) ∧ Below w.heap.size w w' := by
  have X1 : Hid (Below _ _ _) := (al1 w (root.map b8).toArray 24).2
  go_enter Tryd.func18, Tryd.ntmps18
  by_cases h1 : 65536 < n
  · clear h
    go_wp2_with fail
    go_ret
    exact ⟨rfl, X1.out⟩
  · by_cases h2 : i < 0
    · clear h
      go_wp2_with fail
      go_ret
      exact ⟨rfl, X1.out⟩
    · have h3 : n ≤ i := by omega
      clear h
      go_wp2_with fail
      go_ret
      exact ⟨rfl, X1.out⟩
end Go.Proofs.YtmpniingbioggaaDoor
