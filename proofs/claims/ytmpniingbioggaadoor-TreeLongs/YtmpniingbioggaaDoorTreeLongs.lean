/- TreeLongs returns true for all leaves, every place, every two digests and every text. -/
import Derived.Test.YtmpniingbioggaaDoorTTrees
import Derived.Test.YtmpniingbioggaaDoorTChk
import Derived.Test.YtmpniingbioggaaDoorTEq
import Derived.Test.YtmpniingbioggaaDoorTArgs
import Derived.Test.YtmpniingbioggaaDoorTOpen
namespace Go.Proofs.YtmpniingbioggaaDoor
open Go.RowKit
open Go.BigFrame
open Go.ChangeShapes Go.WideShapes Go.ChangeAt
set_option linter.unusedSimpArgs false
attribute [local go_sem] YieldsP execOp
attribute [local simp] MP.eq_p
theorem check_any (root : List Nat) (hr : root.length = 32) (n i : Int) (v1 : Value) (p : List Nat) (lp : lowB p) (zp : p.length ≤ 140737488351232) :
    ∃ b, ((i < 0 ∨ n ≤ i) → b = false) ∧ (∀ w, By w v1 p → KTab w → Calls Tryd.prog 18 #[vB root, .int .i64 n, .int .i64 i, v1, .slice none 0 0] w fun e w' => e = .returned (.bool b) ∧ Below w.heap.size w w') := by
  by_cases h : 65536 < n ∨ i < 0 ∨ n ≤ i
  · exact ⟨false, fun _ => rfl, fun w _ _ => tcheck_bad root n i h v1 _ w⟩
  · obtain ⟨m, rfl⟩ := Int.eq_ofNat_of_zero_le (show 0 ≤ n by omega)
    obtain ⟨j, rfl⟩ := Int.eq_ofNat_of_zero_le (show 0 ≤ i by omega)
    exact ⟨chkS root m j p [], fun h' => by omega, fun w h1 hT => tcheck_fun root hr m j (by omega) (by omega) v1 p lp (by omega) _ [] (fun d hd => by cases hd) (by simp) w h1 (Ds.nil w) hT⟩
section
variable {ops : Array Oper} {rest : List Oper} {o : Oper} {a : Act} {C : World → Prop} {Q : Act → Prop}
theorem quiet_cutD (hgd : Region.wanted o (yielded ops a.tmps) = true) (x l : Operand) (ho : o.op = .slice 25 x (some l) none none) (ad : Option Addr) (m c n : Nat) (k : IntKind) (z : Int) (hx : a.eval x = .slice ad m c) (hl : a.eval l = .int k z) (hz : z = (n : Int)) (hn : n ≤ m) (sv : Value) (hsv : sliced ad n m c 32 = sv) (h : wpQuiet Tryd.prog ops C Q rest (a.put o.dst sv)) : wpQuiet Tryd.prog ops C Q (o :: rest) a := by
  subst hsv
  refine wpQuiet_want hgd fun K hK => ⟨sliced ad n m c 32, fun w hw => ?_, hK _ h⟩
  have e : (execOp a.eval o).run Tryd.prog w = .ok (.value (sliced ad n m c 32)) w := by
    have h1 : (Instr.sliceAt 25 (.slice ad m c) (some (.int k (n : Int))) none none).run Tryd.prog w = .ok (sliced ad n m c 32) w := by
      rw [run_sliceAt_slice (h := slice_elemD), run_slice_l (ht := slice_elemD) (h0 := by omega) (h1 := by omega), elem_dss, size_d32]
      simp
    subst hz
    unfold execOp
    simp [ho, hx, hl, h1]
  unfold Oper.quietAt
  rw [e]
  exact ⟨rfl, rfl⟩
end
set_option maxRecDepth 20000 in
set_option maxHeartbeats 4000000 in
theorem treeLongs_law (v0 : Value) (ls : List (List Nat)) (low : ∀ p ∈ ls, (∀ y ∈ p, y < 256) ∧ p.length ≤ 140737488351232) (z0 : ls.length ≤ 140737488351232) (i : Int) (_ : -9223372036854775808 ≤ i ∧ i ≤ 9223372036854775807)
    (dx : List Int) (ld : dx.length = 32) (bd : ∀ z ∈ dx, 0 ≤ z ∧ z < 256) (rx : List Int) (lr : rx.length = 32) (br : ∀ z ∈ rx, 0 ≤ z ∧ z < 256) (v1 : Value) (p : List Nat) (lp : lowB p) (zp : p.length ≤ 140737488351232) (w : World) (h0 : Sb w v0 ls) (h1 : By w v1 p) (hK : KTab w) :
    Calls Tryd.prog 7 #[v0, .int .i64 i, .agg (dx.map (Value.int .u8)).toArray, .agg (rx.map (Value.int .u8)).toArray, v1] w fun e w' => e = .returned (.bool true) ∧ Below w.heap.size w w' := by
  rw [← vB_ints dx bd, ← vB_ints rx br]
  have ld' : (dx.map Int.toNat).length = 32 := by simpa using ld
  have lr' : (rx.map Int.toNat).length = 32 := by simpa using lr
  have hd := low_ints dx bd
  generalize dx.map Int.toNat = d at *
  generalize rx.map Int.toNat = root at *
  obtain ⟨x0, x1, x2⟩ := al2 w (d.map b8).toArray (root.map b8).toArray 24 24
  have X0 : Hid (Blk _ _ (d.map b8)) := x0
  have X1 : Hid (Blk _ _ (root.map b8)) := x1
  have X2 : Hid (Below _ _ _) := x2
  have TR : Hid _ := trees_fun
  have LD : Hid (d.length = 32) := ld'
  have LR : Hid (root.length = 32) := lr'
  have H1 : Hid (By w v1 p) := h1
  have KU : Hid (∀ w', Below w.heap.size w w' → KTab w') := fun w' hb => hK.up hb hK.pos
  obtain ⟨av, cv, rfl, hc, h3⟩ := id h0
  obtain ⟨b, hbad, hA⟩ := check_any root lr' (ls.length : Int) i v1 p lp zp
  have CA : Hid _ := hA
  by_cases c1 : (60 : Int) < (ls.length : Int)
  · clear h0 h1 hK low z0 zp lp hd ld' lr' ld lr bd br x0 x1 x2 hc h3 hA hbad
    generalize ls.length = m at *
    have c1b := decide_eq_true c1
    cases b with
    | true =>
      go_enter Tryd.func7, Tryd.ntmps7
      go_wp2_with fail
      generalize (w.alloc (Obj.cells (d.map b8).toArray 24)).alloc (Obj.cells (root.map b8).toArray 24) = w1 at *
      refine (TR.out w1 (KU.out _ X2.out)).mono ?_
      rintro e w2 ⟨rfl, hb2⟩
      have D2 : Hid (Below w.heap.size w w2) := X2.out.trans (hb2.mono X2.out.size)
      have A2 : Hid (Blk w2 w.heap.size (d.map b8)) := X0.out.up hb2 X0.out.lt
      have B2 : Hid (Blk w2 (w.heap.size + 1) (root.map b8)) := X1.out.up hb2 X1.out.lt
      clear hb2 X0 X1 X2
      go_wp2_with (refine wp_ldD rfl (.tmp 8) rfl (w.heap.size + 1) 0 rfl root B2.out.all LR.out ?_)
      refine (CA.out w2 (H1.out.up D2.out (Nat.le_refl _)) (KU.out _ D2.out)).mono ?_
      rintro e w3 ⟨rfl, hb3⟩
      have D3 : Hid (Below w.heap.size w w3) := D2.out.trans (hb3.mono D2.out.size)
      clear hb3 D2
      go_wp2_with fail
      go_ret
      exact ⟨rfl, D3.out⟩
    | false =>
      go_enter Tryd.func7, Tryd.ntmps7
      go_wp2_with fail
      generalize (w.alloc (Obj.cells (d.map b8).toArray 24)).alloc (Obj.cells (root.map b8).toArray 24) = w1 at *
      refine (TR.out w1 (KU.out _ X2.out)).mono ?_
      rintro e w2 ⟨rfl, hb2⟩
      have D2 : Hid (Below w.heap.size w w2) := X2.out.trans (hb2.mono X2.out.size)
      have A2 : Hid (Blk w2 w.heap.size (d.map b8)) := X0.out.up hb2 X0.out.lt
      have B2 : Hid (Blk w2 (w.heap.size + 1) (root.map b8)) := X1.out.up hb2 X1.out.lt
      clear hb2 X0 X1 X2
      go_wp2_with (refine wp_ldD rfl (.tmp 8) rfl (w.heap.size + 1) 0 rfl root B2.out.all LR.out ?_)
      refine (CA.out w2 (H1.out.up D2.out (Nat.le_refl _)) (KU.out _ D2.out)).mono ?_
      rintro e w3 ⟨rfl, hb3⟩
      have D3 : Hid (Below w.heap.size w w3) := D2.out.trans (hb3.mono D2.out.size)
      clear hb3 D2
      go_wp2_with fail
      go_ret
      exact ⟨rfl, D3.out⟩
  · have c1b := decide_eq_false c1
    by_cases c2 : i < 0
    · obtain rfl := hbad (.inl c2)
      clear h0 h1 hK low z0 zp lp hd ld' lr' ld lr bd br x0 x1 x2 hc h3 hA hbad
      generalize ls.length = m at *
      go_enter Tryd.func7, Tryd.ntmps7
      go_wp2_with fail
      generalize (w.alloc (Obj.cells (d.map b8).toArray 24)).alloc (Obj.cells (root.map b8).toArray 24) = w1 at *
      refine (TR.out w1 (KU.out _ X2.out)).mono ?_
      rintro e w2 ⟨rfl, hb2⟩
      have D2 : Hid (Below w.heap.size w w2) := X2.out.trans (hb2.mono X2.out.size)
      have A2 : Hid (Blk w2 w.heap.size (d.map b8)) := X0.out.up hb2 X0.out.lt
      have B2 : Hid (Blk w2 (w.heap.size + 1) (root.map b8)) := X1.out.up hb2 X1.out.lt
      clear hb2 X0 X1 X2
      go_wp2_with (refine wp_ldD rfl (.tmp 8) rfl (w.heap.size + 1) 0 rfl root B2.out.all LR.out ?_)
      refine (CA.out w2 (H1.out.up D2.out (Nat.le_refl _)) (KU.out _ D2.out)).mono ?_
      rintro e w3 ⟨rfl, hb3⟩
      have D3 : Hid (Below w.heap.size w w3) := D2.out.trans (hb3.mono D2.out.size)
      clear hb3 D2
      go_wp2_with fail
      go_ret
      exact ⟨rfl, D3.out⟩
    · have c2b := decide_eq_false c2
      by_cases c3 : (ls.length : Int) ≤ i
      · obtain rfl := hbad (.inr c3)
        clear h0 h1 hK low z0 zp lp hd ld' lr' ld lr bd br x0 x1 x2 hc h3 hA hbad
        generalize ls.length = m at *
        go_enter Tryd.func7, Tryd.ntmps7
        go_wp2_with fail
        generalize (w.alloc (Obj.cells (d.map b8).toArray 24)).alloc (Obj.cells (root.map b8).toArray 24) = w1 at *
        refine (TR.out w1 (KU.out _ X2.out)).mono ?_
        rintro e w2 ⟨rfl, hb2⟩
        have D2 : Hid (Below w.heap.size w w2) := X2.out.trans (hb2.mono X2.out.size)
        have A2 : Hid (Blk w2 w.heap.size (d.map b8)) := X0.out.up hb2 X0.out.lt
        have B2 : Hid (Blk w2 (w.heap.size + 1) (root.map b8)) := X1.out.up hb2 X1.out.lt
        clear hb2 X0 X1 X2
        go_wp2_with (refine wp_ldD rfl (.tmp 8) rfl (w.heap.size + 1) 0 rfl root B2.out.all LR.out ?_)
        refine (CA.out w2 (H1.out.up D2.out (Nat.le_refl _)) (KU.out _ D2.out)).mono ?_
        rintro e w3 ⟨rfl, hb3⟩
        have D3 : Hid (Below w.heap.size w w3) := D2.out.trans (hb3.mono D2.out.size)
        clear hb3 D2
        go_wp2_with fail
        go_ret
        exact ⟨rfl, D3.out⟩
      · have c3b := decide_eq_false c3
        obtain ⟨j, rfl⟩ := Int.eq_ofNat_of_zero_le (show 0 ≤ i by omega)
        have hj : j < ls.length := by omega
        have lw := lowL.of low
        have PF : Hid _ := tpath_fun ls lw (by omega) j hj (.slice av ls.length cv)
        have P20 := pathS_short hj (by omega)
        have PD := pathS_low ls j
        have CN : Hid _ := clone_fun (pathS ls j) (by omega)
        have c0 := chkS_other (root := root) (ls := ls) (i := j) p (path := pathS ls j ++ [d]) (by simp)
        have CM : Hid _ := fun v2 => tcheck_fun root lr' ls.length j hj (by omega) v1 p lp (by omega) v2 (pathS ls j ++ [d]) (fun x hx => by
          rcases List.mem_append.1 hx with hx | hx
          · exact PD x hx
          · rw [List.mem_singleton.1 hx]; exact ⟨ld', hd⟩) (by rw [List.length_append, List.length_singleton]; omega)
        rw [c0] at CM
        have CL : Hid (0 < (pathS ls j).length → ∀ v2 w, By w v1 p → Ds w v2 ((pathS ls j).drop 1) → KTab w → Calls Tryd.prog 18 #[vB root, .int .i64 (ls.length : Int), .int .i64 (j : Int), v1, v2] w fun e w' => e = .returned (.bool false) ∧ Below w.heap.size w w') := fun h0 v2 => by
          have c4 := chkS_other (root := root) (ls := ls) (i := j) p (path := (pathS ls j).drop 1) (by rw [List.length_drop]; omega)
          rw [← c4]
          exact tcheck_fun root lr' ls.length j hj (by omega) v1 p lp (by omega) v2 ((pathS ls j).drop 1) (fun x hx => PD x (List.mem_of_mem_drop hx)) (by rw [List.length_drop]; omega)
        have H0 : Hid (Sb w (.slice av ls.length cv) ls) := h0
        have PL : Hid ((pathS ls j).length + 1 ≤ 4398046511103) := (by omega : (pathS ls j).length + 1 ≤ 4398046511103)
        clear h0 h1 hK low z0 zp lp hd ld' lr' ld lr bd br x0 x1 x2 hc h3 hA hbad CA c0 lw PD P20 hj
        generalize ls.length = m at *
        generalize pathS ls j = pt at *
        go_enter Tryd.func7, Tryd.ntmps7
        go_wp2_with fail
        generalize (w.alloc (Obj.cells (d.map b8).toArray 24)).alloc (Obj.cells (root.map b8).toArray 24) = w1 at *
        refine (TR.out w1 (KU.out _ X2.out)).mono ?_
        rintro e w2 ⟨rfl, hb2⟩
        have D2 : Hid (Below w.heap.size w w2) := X2.out.trans (hb2.mono X2.out.size)
        have A2 : Hid (Blk w2 w.heap.size (d.map b8)) := X0.out.up hb2 X0.out.lt
        have B2 : Hid (Blk w2 (w.heap.size + 1) (root.map b8)) := X1.out.up hb2 X1.out.lt
        clear hb2 X0 X1 X2
        go_wp2_with fail
        refine (PF.out w2 (H0.out.up D2.out (Nat.le_refl _)) (KU.out _ D2.out)).mono ?_
        rintro e w3 ⟨⟨v3, rfl, o3⟩, hb3⟩
        have D3 : Hid (Below w.heap.size w w3) := D2.out.trans (hb3.mono D2.out.size)
        have A3 : Hid (Blk w3 w.heap.size (d.map b8)) := A2.out.up hb3 A2.out.lt
        have B3 : Hid (Blk w3 (w.heap.size + 1) (root.map b8)) := B2.out.up hb3 B2.out.lt
        have O3 : Hid (Od w3 w2.heap.size v3 pt) := o3
        have I1 : Hid _ := info_d32.trans (congrArg some (show 32 = (d.map b8).length by rw [List.length_map, LD.out]))
        clear hb3 o3 D2 A2 B2 PF
        generalize w2.heap.size = g2 at *
        go_wp2_with fail
        refine wp_region_monoSE 4 [MP.eq (v3), MP.od w3.heap.size pt, MP.eq (vB d), MP.d1 d] (by kernel_rfl) (by kernel_rfl) rfl (by decide) (by kernel_rfl) ?_
        apply Exists.intro
        refine ⟨fun vals => ?_, ?_, fun vals4 w4 hb4 hF hO => ?_⟩
        · simp only [putsV, dstL, List.length_cons, List.length_nil, Nat.zero_add, Nat.reduceAdd, List.getElem?_cons_zero, List.getElem?_cons_succ, Option.bind_some, Act.put, List.setIfInBounds_toArray, List.set_cons_succ, List.set_cons_zero]
          rfl
        · refine ⟨?_, ?_, ?_, ?_, trivial⟩
          · intro vals W hW hw hd
            try simp [Region.binds] at hd
            refine ⟨by first | rfl | simp [Region.wanted, yielded, hd], ?_⟩
            simp [go_sem, hd]
            exact Below.refl _ _
          · intro vals W hW hw hd
            try simp [Region.binds] at hd
            refine ⟨by first | rfl | simp [Region.wanted, yielded, hd], ?_⟩
            simp [go_sem, hd]
            exact (CN.out v3 g2 W (O3.out.up hW.out)).mono fun e w' ⟨⟨v', he, ho⟩, hb⟩ => ⟨v', he, ho.mono hW.out.size, hb⟩
          · intro vals W hW hw hd
            try simp [Region.binds] at hd
            refine ⟨by first | rfl | simp [Region.wanted, yielded, hd], ?_⟩
            exact yields_load 24 (.tmp 7) rfl w.heap.size 0 rfl (d.map b8) _ (A3.out.up hW.out A3.out.lt).all u_d32 rfl I1.out rfl
          · intro vals W hW hw hd
            try simp [Region.binds] at hd
            refine ⟨by first | rfl | simp [Region.wanted, yielded, hd], ?_⟩
            exact yields_d1 LD.out rfl hd
        obtain ⟨f0, f1, f2, f3, _⟩ := hF
        simp only [MP.eq_p] at f0 f2
        have XB : Hid (Below w3.heap.size w3 w4) := hb4.out
        obtain ⟨g, e9, hr9⟩ := f3
        have O4 : Hid (Od w4 w3.heap.size _ pt) := f1
        have R9 : Hid (w4.rangeAt g 0 (d.map b8)) := hr9
        rw [f0, f2, e9]
        simp only [List.drop_succ_cons, List.drop_zero]
        clear hO hr9 hb4 f0 f2 e9 f1
        go_wp2_with (refine wp_appD rfl (.tmp 48) (.tmp 50) rfl w3.heap.size _ pt w4 g d rfl O4.out (Below.refl _ _) rfl R9.out LD.out PL.out XB.out.size ?_)
        intro v8 w8 o8 hb8 _
        have C8 : Hid (Below w3.heap.size w3 w8) := XB.out.trans hb8
        have D8 : Hid (Below w.heap.size w w8) := D3.out.trans (C8.out.mono D3.out.size)
        have S8 : Hid (Ds w8 v8 (pt ++ [d])) := o8.ds
        have B8 : Hid (Blk w8 (w.heap.size + 1) (root.map b8)) := B3.out.up C8.out B3.out.lt
        have T8 : Hid (Ds w8 v3 pt) := O3.out.ds.up C8.out (Nat.le_refl _)
        clear o8 hb8 C8 B3 A3 XB O4 R9 O3 D3
        obtain ⟨a3, k3, rfl, hk3, _⟩ := id T8.out
        go_wp2_with (refine wp_ldD rfl (.tmp 8) rfl (w.heap.size + 1) 0 rfl root B8.out.all LR.out ?_)
        refine (CM.out v8 w8 (H1.out.up D8.out (Nat.le_refl _)) S8.out (KU.out _ D8.out)).mono ?_
        rintro e w9 ⟨rfl, hb9⟩
        have D9 : Hid (Below w.heap.size w w9) := D8.out.trans (hb9.mono D8.out.size)
        have B9 : Hid (Blk w9 (w.heap.size + 1) (root.map b8)) := B8.out.up hb9 B8.out.lt
        have T9 : Hid (Ds w9 (.slice a3 pt.length k3) pt) := T8.out.up hb9 (Nat.le_refl _)
        clear hb9 D8 B8 T8 S8 CM
        go_wp2_with fail
        by_cases hz : pt.length = 0
        · have z1 : (pt.length : Int) = 0 := by omega
          generalize pt.length = q at *
          have z1b : ((q : Int) == 0) = true := by simpa using z1
          refine wp_region_up (by kernel_rfl) (by kernel_rfl) (fun U hU f hf hcl => ?_)
          repeat (go_big_quiet_step (fail))
          refine wpQuiet_nil ?_
          intro nn
          have hb3 := (hf nn).out
          generalize f nn = wz at hb3 ⊢
          have Dz : Hid (Below w.heap.size w wz) := D9.out.trans (hb3.mono D9.out.size)
          clear hf hcl hb3
          go_wp2_with fail
          go_ret
          exact ⟨rfl, Dz.out⟩
        · have z1 : ¬ (pt.length : Int) = 0 := by omega
          have CL2 : Hid _ := CL.out (by omega)
          have TC := T9.out.cut (n := 1) (by omega)
          obtain ⟨sv, hsv⟩ : ∃ sv, sliced a3 1 pt.length k3 32 = sv := ⟨_, rfl⟩
          have SV : Hid _ := hsv
          rw [hsv] at TC
          have TD : Hid (Ds w9 sv (pt.drop 1)) := TC
          have q1 : 1 ≤ pt.length := by omega
          clear TC hsv CL T9 hz
          generalize pt.length = q at *
          have z1b : ((q : Int) == 0) = false := by simpa using z1
          refine wp_region_up (by kernel_rfl) (by kernel_rfl) (fun U hU f hf hcl => ?_)
          have HB : ∀ n, Below w.heap.size w (f n) := fun n => D9.out.trans ((hf n).out.mono D9.out.size)
          have NB : Hid (∀ n, (f n).rangeAt (w.heap.size + 1) 0 (root.map b8)) := fun n => (B9.out.up (hf n).out B9.out.lt).all
          have N1 : Hid _ := fun n => CL2.out sv (f n) (H1.out.up (HB n) (Nat.le_refl _)) (TD.out.up (hf n).out (Nat.le_refl _)) (KU.out _ (HB n))
          clear HB
          repeat (first | (refine quiet_ld rfl (.tmp 8) rfl (w.heap.size + 1) 0 rfl root LR.out (fun W hW => by obtain ⟨n, rfl⟩ := hW; exact NB.out n) ?_; simp only [Act.put, List.setIfInBounds_toArray, List.set_cons_succ, List.set_cons_zero]) | (refine quiet_cutD rfl (.tmp 72) (.const (.int .i64 1)) rfl a3 q k3 1 .i64 1 rfl rfl rfl q1 sv SV.out ?_; simp only [Act.put, List.setIfInBounds_toArray, List.set_cons_succ, List.set_cons_zero]) | go_big_quiet_step (first | (go_at_call 18; exact (N1.out _).mono fun e w'' ⟨he, hb⟩ => ⟨he, hcl.out _ _ hb⟩)))
          refine wpQuiet_nil ?_
          intro nn
          have hb3 := (hf nn).out
          generalize f nn = wz at hb3 ⊢
          have Dz : Hid (Below w.heap.size w wz) := D9.out.trans (hb3.mono D9.out.size)
          clear hf hcl hb3 NB N1
          go_wp2_with fail
          go_ret
          exact ⟨rfl, Dz.out⟩
set_option maxRecDepth 100000 in
theorem treeLongs_met (os : Os) : laidMet Tryd.prog Rows.treeLongsRow.laid ((World.doorLaid Tryd.prog 14 os).forCall (fun _ _ => 0) ⟨#[], #[.slice none 0 0, .int .i64 0, .agg #[.int .u8 0, .int .u8 0, .int .u8 0, .int .u8 0, .int .u8 0, .int .u8 0, .int .u8 0, .int .u8 0, .int .u8 0, .int .u8 0, .int .u8 0, .int .u8 0, .int .u8 0, .int .u8 0, .int .u8 0, .int .u8 0, .int .u8 0, .int .u8 0, .int .u8 0, .int .u8 0, .int .u8 0, .int .u8 0, .int .u8 0, .int .u8 0, .int .u8 0, .int .u8 0, .int .u8 0, .int .u8 0, .int .u8 0, .int .u8 0, .int .u8 0, .int .u8 0], .agg #[.int .u8 0, .int .u8 0, .int .u8 0, .int .u8 0, .int .u8 0, .int .u8 0, .int .u8 0, .int .u8 0, .int .u8 0, .int .u8 0, .int .u8 0, .int .u8 0, .int .u8 0, .int .u8 0, .int .u8 0, .int .u8 0, .int .u8 0, .int .u8 0, .int .u8 0, .int .u8 0, .int .u8 0, .int .u8 0, .int .u8 0, .int .u8 0, .int .u8 0, .int .u8 0, .int .u8 0, .int .u8 0, .int .u8 0, .int .u8 0, .int .u8 0, .int .u8 0], .slice none 0 0], []⟩).memory := laidMet_of_run' 8 (by kernel_rfl) (by kernel_rfl)
set_option maxRecDepth 100000 in
theorem treeLongs_reads (os : Os) {H : Type} (enc : TypeId × Value → H) : ∃ places, DataW.whole enc Tryd.prog ((World.doorLaid Tryd.prog 14 os).forCall (fun _ _ => 0) ⟨#[], #[.slice none 0 0, .int .i64 0, .agg #[.int .u8 0, .int .u8 0, .int .u8 0, .int .u8 0, .int .u8 0, .int .u8 0, .int .u8 0, .int .u8 0, .int .u8 0, .int .u8 0, .int .u8 0, .int .u8 0, .int .u8 0, .int .u8 0, .int .u8 0, .int .u8 0, .int .u8 0, .int .u8 0, .int .u8 0, .int .u8 0, .int .u8 0, .int .u8 0, .int .u8 0, .int .u8 0, .int .u8 0, .int .u8 0, .int .u8 0, .int .u8 0, .int .u8 0, .int .u8 0, .int .u8 0, .int .u8 0], .agg #[.int .u8 0, .int .u8 0, .int .u8 0, .int .u8 0, .int .u8 0, .int .u8 0, .int .u8 0, .int .u8 0, .int .u8 0, .int .u8 0, .int .u8 0, .int .u8 0, .int .u8 0, .int .u8 0, .int .u8 0, .int .u8 0, .int .u8 0, .int .u8 0, .int .u8 0, .int .u8 0, .int .u8 0, .int .u8 0, .int .u8 0, .int .u8 0, .int .u8 0, .int .u8 0, .int .u8 0, .int .u8 0, .int .u8 0, .int .u8 0, .int .u8 0, .int .u8 0], .slice none 0 0], []⟩).memory Tryd.f7.params.toList Rows.treeLongsSpec.vars false #[.slice none 0 0, .int .i64 0, .agg #[.int .u8 0, .int .u8 0, .int .u8 0, .int .u8 0, .int .u8 0, .int .u8 0, .int .u8 0, .int .u8 0, .int .u8 0, .int .u8 0, .int .u8 0, .int .u8 0, .int .u8 0, .int .u8 0, .int .u8 0, .int .u8 0, .int .u8 0, .int .u8 0, .int .u8 0, .int .u8 0, .int .u8 0, .int .u8 0, .int .u8 0, .int .u8 0, .int .u8 0, .int .u8 0, .int .u8 0, .int .u8 0, .int .u8 0, .int .u8 0, .int .u8 0, .int .u8 0], .agg #[.int .u8 0, .int .u8 0, .int .u8 0, .int .u8 0, .int .u8 0, .int .u8 0, .int .u8 0, .int .u8 0, .int .u8 0, .int .u8 0, .int .u8 0, .int .u8 0, .int .u8 0, .int .u8 0, .int .u8 0, .int .u8 0, .int .u8 0, .int .u8 0, .int .u8 0, .int .u8 0, .int .u8 0, .int .u8 0, .int .u8 0, .int .u8 0, .int .u8 0, .int .u8 0, .int .u8 0, .int .u8 0, .int .u8 0, .int .u8 0, .int .u8 0, .int .u8 0], .slice none 0 0].toList 8 = some ([.nil, .lit (.int .i64 0), .agg [.lit (.int .u8 0), .lit (.int .u8 0), .lit (.int .u8 0), .lit (.int .u8 0), .lit (.int .u8 0), .lit (.int .u8 0), .lit (.int .u8 0), .lit (.int .u8 0), .lit (.int .u8 0), .lit (.int .u8 0), .lit (.int .u8 0), .lit (.int .u8 0), .lit (.int .u8 0), .lit (.int .u8 0), .lit (.int .u8 0), .lit (.int .u8 0), .lit (.int .u8 0), .lit (.int .u8 0), .lit (.int .u8 0), .lit (.int .u8 0), .lit (.int .u8 0), .lit (.int .u8 0), .lit (.int .u8 0), .lit (.int .u8 0), .lit (.int .u8 0), .lit (.int .u8 0), .lit (.int .u8 0), .lit (.int .u8 0), .lit (.int .u8 0), .lit (.int .u8 0), .lit (.int .u8 0), .lit (.int .u8 0)], .agg [.lit (.int .u8 0), .lit (.int .u8 0), .lit (.int .u8 0), .lit (.int .u8 0), .lit (.int .u8 0), .lit (.int .u8 0), .lit (.int .u8 0), .lit (.int .u8 0), .lit (.int .u8 0), .lit (.int .u8 0), .lit (.int .u8 0), .lit (.int .u8 0), .lit (.int .u8 0), .lit (.int .u8 0), .lit (.int .u8 0), .lit (.int .u8 0), .lit (.int .u8 0), .lit (.int .u8 0), .lit (.int .u8 0), .lit (.int .u8 0), .lit (.int .u8 0), .lit (.int .u8 0), .lit (.int .u8 0), .lit (.int .u8 0), .lit (.int .u8 0), .lit (.int .u8 0), .lit (.int .u8 0), .lit (.int .u8 0), .lit (.int .u8 0), .lit (.int .u8 0), .lit (.int .u8 0), .lit (.int .u8 0)], .nil], [], places) := ⟨[], by kernel_rfl⟩
set_option maxRecDepth 100000 in
theorem treeLongs_lifted (os : Os) (started : os.Started) (H : Type) (enc : TypeId × Value → H) (F : Stop.Interp) :
    ReturnsInHanded {} Tryd.checked os 7 .any ((OpenSpec.ofChange Rows.treeLongsSpec).preRow enc Tryd.prog Tryd.f7 Rows.treeLongsRow.domain false Rows.treeLongsRow.laid) (((OpenSpec.ofChange Rows.treeLongsSpec).at F).post enc Tryd.prog Tryd.f7 false true false false) := by
  obtain ⟨places, hx⟩ := treeLongs_reads os enc
  refine returnsInHanded_of_row (C := Tryd.checked) (s := (OpenSpec.ofChange Rows.treeLongsSpec)) Tryd.own started (by kernel_rfl) Tryd.func7
    (witness_row_at (enc := enc) (C := Tryd.checked) false (World.doorLaid Tryd.prog 14 os) #[.slice none 0 0, .int .i64 0, .agg #[.int .u8 0, .int .u8 0, .int .u8 0, .int .u8 0, .int .u8 0, .int .u8 0, .int .u8 0, .int .u8 0, .int .u8 0, .int .u8 0, .int .u8 0, .int .u8 0, .int .u8 0, .int .u8 0, .int .u8 0, .int .u8 0, .int .u8 0, .int .u8 0, .int .u8 0, .int .u8 0, .int .u8 0, .int .u8 0, .int .u8 0, .int .u8 0, .int .u8 0, .int .u8 0, .int .u8 0, .int .u8 0, .int .u8 0, .int .u8 0, .int .u8 0, .int .u8 0], .agg #[.int .u8 0, .int .u8 0, .int .u8 0, .int .u8 0, .int .u8 0, .int .u8 0, .int .u8 0, .int .u8 0, .int .u8 0, .int .u8 0, .int .u8 0, .int .u8 0, .int .u8 0, .int .u8 0, .int .u8 0, .int .u8 0, .int .u8 0, .int .u8 0, .int .u8 0, .int .u8 0, .int .u8 0, .int .u8 0, .int .u8 0, .int .u8 0, .int .u8 0, .int .u8 0, .int .u8 0, .int .u8 0, .int .u8 0, .int .u8 0, .int .u8 0, .int .u8 0], .slice none 0 0] rfl (by kernel_rfl) (by kernel_rfl) (by kernel_rfl)
      (OpenSpec.preRow_of_cond 8 hx (by kernel_rfl) (fun k hk => by cases hk) (by kernel_rfl) (treeLongs_met os))) ?_
  intro W base args ds gs before hval0 hW _ hcond hsz0 hL _ _
  have hval : ∀ (j : Nat) t v, Tryd.f7.params[j]? = some t → args[j]? = some v → Value.okWide Tryd.prog W .any base t v := hval0
  have hsz : (DataW.weightsEach Tryd.prog (Tryd.f7.params.toList ++ Rows.treeLongsSpec.plain.varTypes Tryd.prog) (ds ++ gs)).all (· ≤ reachBytes) = true := hsz0
  have hW' := hW
  obtain ⟨p, q, hA0, hV, rfl, hfz, hnd⟩ := hW
  have hA : DataW.TrodAll enc Tryd.prog W 0 (fun _ => true) true Tryd.f7.params.toList args.toList ds p := hA0
  rw [Tryd.params7] at hA hval hsz
  obtain ⟨v0, vs0, d0, ds0, p0, q0, hargs, rfl, rfl, h0, r0⟩ := trodAll_cons hA
  obtain ⟨v1, vs1, d1, ds1, p1, q1, rfl, rfl, rfl, h1, r1⟩ := trodAll_cons r0
  obtain ⟨v2, vs2, d2, ds2, p2, q2, rfl, rfl, rfl, h2, r2⟩ := trodAll_cons r1
  obtain ⟨v3, vs3, d3, ds3, p3, q3, rfl, rfl, rfl, h3, r3⟩ := trodAll_cons r2
  obtain ⟨v4, vs4, d4, ds4, p4, q4, rfl, rfl, rfl, h4, r4⟩ := trodAll_cons r3
  obtain ⟨rfl, rfl, rfl⟩ := trodAll_nil r4
  have eargs : args = #[v0, v1, v2, v3, v4] := by
    obtain ⟨l⟩ := args
    simp at hargs
    simp [hargs]
  subst eargs
  obtain ⟨rfl, rfl⟩ := trodVars_none hV
  simp only [List.append_nil] at hW'
  have hlt : ∀ x ∈ p0 ++ p1 ++ p2 ++ p3 ++ p4, x.block < W.heap.size := fun x hx => by simpa using hW'.lt x (by simpa using hx)
  have hk0 : ∀ W' : World, Below W.heap.size W W' → DataW.Trod enc Tryd.prog W' 0 (fun b => decide (b < W.heap.size)) true 22 v0 d0 p0 := fun W' hn => Below.trod Tryd.laidOut (by kernel_rfl) (of_decide_eq_true (by kernel_rfl)) h0 hn (fun x hx => hlt x (by simp [hx]))
  obtain ⟨a0, n0, c0, rfl⟩ := okWide_slice uBss (hval 0 22 v0 rfl rfl)
  obtain ⟨fuel0, hf0⟩ := h0
  obtain ⟨l0, low0, hI0, hx0⟩ := bss_open (u := .slice a0 n0 c0) (by simpa [Value.cells] using hf0) 140737488351232 (fun elems sp hd i es sp' he => by
    have hd' : d0 = .slice elems sp := hd
    subst hd'
    have := sized_inner hsz (j := 0) rfl rfl he
    simp only [reachBytes] at this
    omega)
  have z0 : l0.length ≤ 140737488351232 := by
    rcases hx0 with ⟨_, h⟩ | ⟨es, sp, hd, h⟩
    · rw [h]; exact Nat.zero_le _
    · simp only at hd
      subst hd
      have := sized_slice hsz (j := 0) (t := 22) (e := 23) rfl rfl uBss
      rw [bytesBytes] at this
      simp only [reachBytes] at this
      omega
  obtain ⟨x1, rfl, rfl, rfl, w1⟩ := open_int uInt_ (hval 1 3 v1 rfl rfl) h1
  obtain ⟨xs2, l2, rfl, rfl, rfl, w2⟩ := open_arr u_d32 Tryd.uU8 Tryd.cellsU8 cellsD32 (hval 2 24 v2 rfl rfl) h2
  obtain ⟨xs3, l3, rfl, rfl, rfl, w3⟩ := open_arr u_d32 Tryd.uU8 Tryd.cellsU8 cellsD32 (hval 3 24 v3 rfl rfl) h3
  have hk4 : ∀ W' : World, Below W.heap.size W W' → DataW.Trod enc Tryd.prog W' 0 (fun b => decide (b < W.heap.size)) true 23 v4 d4 p4 := fun W' hn => Below.trod Tryd.laidOut (by kernel_rfl) (of_decide_eq_true (by kernel_rfl)) h4 hn (fun x hx => hlt x (by simp [hx]))
  obtain ⟨a4, n4, c4, rfl⟩ := okWide_slice Tryd.uBytes (hval 4 23 v4 rfl rfl)
  obtain ⟨fuel4, hf4⟩ := h4
  obtain ⟨l4, low4, hI4, len4⟩ := by_of_trod (u := .slice a4 n4 c4) (by simpa [Value.cells] using hf4)
  have z4 : l4.length ≤ 140737488351232 := by
    obtain ⟨a', c', e, _⟩ := hI4
    have en : n4 = l4.length := by cases e; rfl
    rw [← en]
    rcases len_of_trod (by simpa [Value.cells] using hf4) with ⟨_, h⟩ | ⟨es, sp, hd, h⟩
    · omega
    · simp only at hd
      subst hd
      have := sized_slice hsz (j := 4) (t := 23) (e := 5) rfl rfl Tryd.uBytes
      rw [Tryd.bytesU8] at this
      simp only [reachBytes] at this
      omega
  refine (treeLongs_law _ l0 low0 z0 x1 (int_of_wf w1) xs2 l2 (fun z hz => byte_of_wf (w2 z hz)) xs3 l3 (fun z hz => byte_of_wf (w3 z hz)) _ l4 low4 z4 W hI0 hI4 (ktab_one hL)).mono fun e W' ⟨he, hg⟩ => ?_
  subst he
  exact ⟨_, rfl, _, _, _, [], _, [], hW', trodAll_mk1 (shut_bool Tryd.underlying4 _), trodAll_cons_mk (hk0 _ hg) (trodAll_cons_mk (shut_int uInt_ w1) (trodAll_cons_mk (shut_arr u_d32 Tryd.uU8 Tryd.cellsU8 cellsD32 l2 w2) (trodAll_cons_mk (shut_arr u_d32 Tryd.uU8 Tryd.cellsU8 cellsD32 l3 w3) (trodAll_cons_mk (hk4 _ hg) (trodAll_mk0))))), rfl, hg.frame _, fun h => by cases h⟩

theorem treeLongs_holds : Rows.TreeLongsSaid :=
  OpenClaim.holds_of_cond 7 Tryd.f7 rfl rfl rfl rfl rfl rfl rfl ⟨rfl, rfl, rfl, rfl, rfl⟩ rfl rfl rfl rfl rfl (by kernel_rfl) Tryd.func7 (by kernel_rfl)
    (of_decide_eq_true (by kernel_rfl)) (by unfold Func.isWrapper; first | (rw [if_pos (by decide +kernel)]; kernel_rfl) | (rw [if_neg (by decide +kernel)]; exact ⟨rfl, rfl⟩))
    (fun os started H enc _ F => by rw [OpenClaim.pre_eq_preRow]; exact treeLongs_lifted os started H enc F)

theorem treeLongs_card : Rows.TreeLongsCardSaid :=
  Claim7.holds_tied_plain_at .later [] _ _ _ _ treeLongs_holds (fun _ h => by cases h) (by kernel_rfl) (fun _ h => by cases h) treeLongs_row_tie rfl ⟨rfl, rfl⟩ (by kernel_rfl) rfl
    (fun f fn hf hfn => by
      obtain rfl : f = 7 := Option.some.inj ((show Tryd.prog.funcNamed "sealring/sealringkeep.TreeLongs" = some 7 by kernel_rfl).symm.trans hf) |>.symm
      obtain rfl : fn = Tryd.f7 := (Option.some.inj (Tryd.func7.symm.trans hfn)).symm
      exact ⟨by kernel_rfl, fun j t ht => by
        rw [Tryd.params7] at ht
        have hm : t ∈ [22, 3, 24, 24, 23] := by simpa using Array.mem_of_getElem? ht
        have hall : ([22, 3, 24, 24, 23].all fun u => !Tryd.prog.wantsStandIn u) = true := by kernel_rfl
        exact (show Tryd.prog.wantsStandIn t = false by simpa using List.all_eq_true.1 hall t hm)⟩)
    (by kernel_rfl)
#print axioms treeLongs_card
end Go.Proofs.YtmpniingbioggaaDoor
