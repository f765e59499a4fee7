/- TreeChecks returns true for every root, every n and i, every leaf and every path. -/
import Derived.Test.YtmpniingbioggaaDoorTChk
import Derived.Test.YtmpniingbioggaaDoorTArgs
import Derived.Test.YtmpniingbioggaaDoorTOpen
namespace Go.Proofs.YtmpniingbioggaaDoor
open Go.RowKit
open Go.BigFrame
open Go.ChangeShapes Go.WideShapes Go.ChangeAt
set_option linter.unusedSimpArgs false
theorem checks_both (root : List Nat) (hr : root.length = 32) (n i : Int) (v1 : Value) (p : List Nat) (lp : lowB p) (zp : p.length ≤ 140737488351232) (v2 : Value) (path : List (List Nat)) (low : Dlow path) (zq : path.length ≤ 100) :
    ∃ b, (∀ w, By w v1 p → Ds w v2 path → KTab w → Calls Tryd.prog 18 #[vB root, .int .i64 n, .int .i64 i, v1, v2] w fun e w' => e = .returned (.bool b) ∧ Below w.heap.size w w') ∧
      (∀ w, By w v1 p → Ds w v2 path → RTab w → Calls Tryd.prog 19 #[vB root, .int .i64 n, .int .i64 i, v1, v2] w fun e w' => e = .returned (.bool b) ∧ Below w.heap.size w w') := by
  by_cases h : 65536 < n ∨ i < 0 ∨ n ≤ i
  · exact ⟨false, fun w _ _ _ => tcheck_bad root n i h v1 v2 w, fun w _ _ _ => rcheck_bad root n i (by omega) v1 v2 w⟩
  · obtain ⟨m, rfl⟩ := Int.eq_ofNat_of_zero_le (show 0 ≤ n by omega)
    obtain ⟨j, rfl⟩ := Int.eq_ofNat_of_zero_le (show 0 ≤ i by omega)
    exact ⟨chkS root m j p path, fun w h1 h2 hT => tcheck_fun root hr m j (by omega) (by omega) v1 p lp (by omega) v2 path low (by omega) w h1 h2 hT, fun w h1 h2 hT => rcheck_fun root hr m j (by omega) (by omega) p lp (by omega) path low v1 v2 w h1 h2 hT⟩
set_option maxRecDepth 20000 in
set_option maxHeartbeats 2000000 in
theorem treeChecks_law (rs : List Int) (lr : rs.length = 32) (br : ∀ z ∈ rs, 0 ≤ z ∧ z < 256) (n : Int) (_ : -9223372036854775808 ≤ n ∧ n ≤ 9223372036854775807) (i : Int) (_ : -9223372036854775808 ≤ i ∧ i ≤ 9223372036854775807) (v1 : Value) (p : List Nat) (lp : lowB p) (zp : p.length ≤ 140737488351232) (v2 : Value) (path : List (List Nat)) (low : Dlow path) (zq : path.length ≤ 140737488351232) (w : World) (h1 : By w v1 p) (h2 : Ds w v2 path) (hK : KTab w) (hR : RTab w) :
    Calls Tryd.prog 4 #[.agg (rs.map (Value.int .u8)).toArray, .int .i64 n, .int .i64 i, v1, v2] w fun e w' => e = .returned (.bool true) ∧ Below w.heap.size w w' := by
  rw [← vB_ints rs br]
  have lr' : (rs.map Int.toNat).length = 32 := by simpa using lr
  generalize rs.map Int.toNat = root at *
  obtain ⟨x0, x1⟩ := al1 w (root.map b8).toArray 24
  have X0 : Hid (Blk _ _ (root.map b8)) := x0
  have X1 : Hid (Below _ _ _) := x1
  have LR : Hid (root.length = 32) := lr'
  obtain ⟨av, cv, rfl, hc, h3⟩ := id h2
  by_cases hp : path.length ≤ 100
  · obtain ⟨b, hA, hB⟩ := checks_both root lr' n i v1 p lp zp (.slice av path.length cv) path low hp
    have A1 : Hid _ := hA
    have B1 : Hid _ := hB
    have H1 : Hid (By w v1 p) := h1
    have H2 : Hid (Ds w (.slice av path.length cv) path) := h2
    have HK : Hid (KTab w) := hK
    have HR : Hid (RTab w) := hR
    have l1 : ¬ (100 : Int) < (path.length : Int) := by omega
    clear h1 h2 hK hR low zq zp lp hA hB lr' x0 x1 hc h3 hp br lr
    generalize path.length = m at *
    have l1b := (decide_eq_false l1)
    go_enter Tryd.func4, Tryd.ntmps4
    go_wp2_with fail
    generalize w.alloc (Obj.cells (root.map b8).toArray 24) = w1 at *
    refine wp_region_up (by kernel_rfl) (by kernel_rfl) (fun U hU f hf hcl => ?_)
    have RD : Hid (∀ n, (f n).rangeAt w.heap.size 0 (root.map b8)) := fun n => (X0.out.up (hf n).out X0.out.lt).all
    have HB : ∀ n, Below w.heap.size w (f n) := fun n => X1.out.trans ((hf n).out.mono X1.out.size)
    have AN : Hid _ := fun n => A1.out (f n) (H1.out.up (HB n) (Nat.le_refl _)) (H2.out.up (HB n) (Nat.le_refl _)) (HK.out.up (HB n) HK.out.pos)
    have BN : Hid _ := fun n => B1.out (f n) (H1.out.up (HB n) (Nat.le_refl _)) (H2.out.up (HB n) (Nat.le_refl _)) (HR.out.up (HB n) HR.out.pos)
    clear HB
    repeat (first | (refine quiet_ld rfl (.tmp 5) rfl w.heap.size 0 rfl root LR.out (fun W hW => by obtain ⟨n, rfl⟩ := hW; exact RD.out n) ?_; simp only [Act.put, List.setIfInBounds_toArray, List.set_cons_succ, List.set_cons_zero]) | go_big_quiet_step (first | (go_at_call 18; exact (AN.out _).mono fun e w'' ⟨he, hb⟩ => ⟨he, hcl.out _ _ hb⟩) | (go_at_call 19; exact (BN.out _).mono fun e w'' ⟨he, hb⟩ => ⟨he, hcl.out _ _ hb⟩)))
    refine wpQuiet_nil ?_
    intro nn
    have hb2 := (hf nn).out
    generalize f nn = w2 at hb2 ⊢
    have D2 : Hid (Below w.heap.size w w2) := X1.out.trans (hb2.mono X1.out.size)
    clear hf hcl hb2 RD AN BN
    go_wp2_with fail
    go_ret
    exact ⟨rfl, D2.out⟩
  · have l1 : (100 : Int) < (path.length : Int) := by omega
    clear h1 h2 hK hR low zq zp lp lr' x0 x1 hc h3 hp br lr
    generalize path.length = m at *
    go_enter Tryd.func4, Tryd.ntmps4
    go_wp2_with fail
    generalize w.alloc (Obj.cells (root.map b8).toArray 24) = w1 at *
    refine wp_region_up (by kernel_rfl) (by kernel_rfl) (fun U hU f hf hcl => ?_)
    repeat (go_big_quiet_step (fail))
    refine wpQuiet_nil ?_
    intro nn
    have hb2 := (hf nn).out
    generalize f nn = w2 at hb2 ⊢
    have D2 : Hid (Below w.heap.size w w2) := X1.out.trans (hb2.mono X1.out.size)
    clear hf hcl hb2
    go_wp2_with fail
    go_ret
    exact ⟨rfl, D2.out⟩
set_option maxRecDepth 100000 in
theorem treeChecks_met (os : Os) : laidMet Tryd.prog Rows.treeChecksRow.laid ((World.doorLaid Tryd.prog 14 os).forCall (fun _ _ => 0) ⟨#[], #[.agg #[.int .u8 0, .int .u8 0, .int .u8 0, .int .u8 0, .int .u8 0, .int .u8 0, .int .u8 0, .int .u8 0, .int .u8 0, .int .u8 0, .int .u8 0, .int .u8 0, .int .u8 0, .int .u8 0, .int .u8 0, .int .u8 0, .int .u8 0, .int .u8 0, .int .u8 0, .int .u8 0, .int .u8 0, .int .u8 0, .int .u8 0, .int .u8 0, .int .u8 0, .int .u8 0, .int .u8 0, .int .u8 0, .int .u8 0, .int .u8 0, .int .u8 0, .int .u8 0], .int .i64 0, .int .i64 0, .slice none 0 0, .slice none 0 0], []⟩).memory := laidMet_of_run' 8 (by kernel_rfl) (by kernel_rfl)
set_option maxRecDepth 100000 in
theorem treeChecks_reads (os : Os) {H : Type} (enc : TypeId × Value → H) : ∃ places, DataW.whole enc Tryd.prog ((World.doorLaid Tryd.prog 14 os).forCall (fun _ _ => 0) ⟨#[], #[.agg #[.int .u8 0, .int .u8 0, .int .u8 0, .int .u8 0, .int .u8 0, .int .u8 0, .int .u8 0, .int .u8 0, .int .u8 0, .int .u8 0, .int .u8 0, .int .u8 0, .int .u8 0, .int .u8 0, .int .u8 0, .int .u8 0, .int .u8 0, .int .u8 0, .int .u8 0, .int .u8 0, .int .u8 0, .int .u8 0, .int .u8 0, .int .u8 0, .int .u8 0, .int .u8 0, .int .u8 0, .int .u8 0, .int .u8 0, .int .u8 0, .int .u8 0, .int .u8 0], .int .i64 0, .int .i64 0, .slice none 0 0, .slice none 0 0], []⟩).memory Tryd.f4.params.toList Rows.treeChecksSpec.vars false #[.agg #[.int .u8 0, .int .u8 0, .int .u8 0, .int .u8 0, .int .u8 0, .int .u8 0, .int .u8 0, .int .u8 0, .int .u8 0, .int .u8 0, .int .u8 0, .int .u8 0, .int .u8 0, .int .u8 0, .int .u8 0, .int .u8 0, .int .u8 0, .int .u8 0, .int .u8 0, .int .u8 0, .int .u8 0, .int .u8 0, .int .u8 0, .int .u8 0, .int .u8 0, .int .u8 0, .int .u8 0, .int .u8 0, .int .u8 0, .int .u8 0, .int .u8 0, .int .u8 0], .int .i64 0, .int .i64 0, .slice none 0 0, .slice none 0 0].toList 8 = some ([.agg [.lit (.int .u8 0), .lit (.int .u8 0), .lit (.int .u8 0), .lit (.int .u8 0), .lit (.int .u8 0), .lit (.int .u8 0), .lit (.int .u8 0), .lit (.int .u8 0), .lit (.int .u8 0), .lit (.int .u8 0), .lit (.int .u8 0), .lit (.int .u8 0), .lit (.int .u8 0), .lit (.int .u8 0), .lit (.int .u8 0), .lit (.int .u8 0), .lit (.int .u8 0), .lit (.int .u8 0), .lit (.int .u8 0), .lit (.int .u8 0), .lit (.int .u8 0), .lit (.int .u8 0), .lit (.int .u8 0), .lit (.int .u8 0), .lit (.int .u8 0), .lit (.int .u8 0), .lit (.int .u8 0), .lit (.int .u8 0), .lit (.int .u8 0), .lit (.int .u8 0), .lit (.int .u8 0), .lit (.int .u8 0)], .lit (.int .i64 0), .lit (.int .i64 0), .nil, .nil], [], places) := ⟨[], by kernel_rfl⟩
set_option maxRecDepth 100000 in
theorem treeChecks_lifted (os : Os) (started : os.Started) (H : Type) (enc : TypeId × Value → H) (F : Stop.Interp) :
    ReturnsInHanded {} Tryd.checked os 4 .any ((OpenSpec.ofChange Rows.treeChecksSpec).preRow enc Tryd.prog Tryd.f4 Rows.treeChecksRow.domain false Rows.treeChecksRow.laid) (((OpenSpec.ofChange Rows.treeChecksSpec).at F).post enc Tryd.prog Tryd.f4 false true false false) := by
  obtain ⟨places, hx⟩ := treeChecks_reads os enc
  refine returnsInHanded_of_row (C := Tryd.checked) (s := (OpenSpec.ofChange Rows.treeChecksSpec)) Tryd.own started (by kernel_rfl) Tryd.func4
    (witness_row_at (enc := enc) (C := Tryd.checked) false (World.doorLaid Tryd.prog 14 os) #[.agg #[.int .u8 0, .int .u8 0, .int .u8 0, .int .u8 0, .int .u8 0, .int .u8 0, .int .u8 0, .int .u8 0, .int .u8 0, .int .u8 0, .int .u8 0, .int .u8 0, .int .u8 0, .int .u8 0, .int .u8 0, .int .u8 0, .int .u8 0, .int .u8 0, .int .u8 0, .int .u8 0, .int .u8 0, .int .u8 0, .int .u8 0, .int .u8 0, .int .u8 0, .int .u8 0, .int .u8 0, .int .u8 0, .int .u8 0, .int .u8 0, .int .u8 0, .int .u8 0], .int .i64 0, .int .i64 0, .slice none 0 0, .slice none 0 0] rfl (by kernel_rfl) (by kernel_rfl) (by kernel_rfl)
      (OpenSpec.preRow_of_cond 8 hx (by kernel_rfl) (fun k hk => by cases hk) (by kernel_rfl) (treeChecks_met os))) ?_
  intro W base args ds gs before hval0 hW _ hcond hsz0 hL _ _
  have hval : ∀ (j : Nat) t v, Tryd.f4.params[j]? = some t → args[j]? = some v → Value.okWide Tryd.prog W .any base t v := hval0
  have hsz : (DataW.weightsEach Tryd.prog (Tryd.f4.params.toList ++ Rows.treeChecksSpec.plain.varTypes Tryd.prog) (ds ++ gs)).all (· ≤ reachBytes) = true := hsz0
  have hW' := hW
  obtain ⟨p, q, hA0, hV, rfl, hfz, hnd⟩ := hW
  have hA : DataW.TrodAll enc Tryd.prog W 0 (fun _ => true) true Tryd.f4.params.toList args.toList ds p := hA0
  rw [Tryd.params4] at hA hval hsz
  obtain ⟨v0, vs0, d0, ds0, p0, q0, hargs, rfl, rfl, h0, r0⟩ := trodAll_cons hA
  obtain ⟨v1, vs1, d1, ds1, p1, q1, rfl, rfl, rfl, h1, r1⟩ := trodAll_cons r0
  obtain ⟨v2, vs2, d2, ds2, p2, q2, rfl, rfl, rfl, h2, r2⟩ := trodAll_cons r1
  obtain ⟨v3, vs3, d3, ds3, p3, q3, rfl, rfl, rfl, h3, r3⟩ := trodAll_cons r2
  obtain ⟨v4, vs4, d4, ds4, p4, q4, rfl, rfl, rfl, h4, r4⟩ := trodAll_cons r3
  obtain ⟨rfl, rfl, rfl⟩ := trodAll_nil r4
  have eargs : args = #[v0, v1, v2, v3, v4] := by
    obtain ⟨l⟩ := args
    simp at hargs
    simp [hargs]
  subst eargs
  obtain ⟨rfl, rfl⟩ := trodVars_none hV
  simp only [List.append_nil] at hW'
  have hlt : ∀ x ∈ p0 ++ p1 ++ p2 ++ p3 ++ p4, x.block < W.heap.size := fun x hx => by simpa using hW'.lt x (by simpa using hx)
  obtain ⟨xs0, l0, rfl, rfl, rfl, w0⟩ := open_arr u_d32 Tryd.uU8 Tryd.cellsU8 cellsD32 (hval 0 24 v0 rfl rfl) h0
  obtain ⟨x1, rfl, rfl, rfl, w1⟩ := open_int uInt_ (hval 1 3 v1 rfl rfl) h1
  obtain ⟨x2, rfl, rfl, rfl, w2⟩ := open_int uInt_ (hval 2 3 v2 rfl rfl) h2
  have hk3 : ∀ W' : World, Below W.heap.size W W' → DataW.Trod enc Tryd.prog W' 0 (fun b => decide (b < W.heap.size)) true 23 v3 d3 p3 := fun W' hn => Below.trod Tryd.laidOut (by kernel_rfl) (of_decide_eq_true (by kernel_rfl)) h3 hn (fun x hx => hlt x (by simp [hx]))
  obtain ⟨a3, n3, c3, rfl⟩ := okWide_slice Tryd.uBytes (hval 3 23 v3 rfl rfl)
  obtain ⟨fuel3, hf3⟩ := h3
  obtain ⟨l3, low3, hI3, len3⟩ := by_of_trod (u := .slice a3 n3 c3) (by simpa [Value.cells] using hf3)
  have z3 : l3.length ≤ 140737488351232 := by
    obtain ⟨a', c', e, _⟩ := hI3
    have en : n3 = l3.length := by cases e; rfl
    rw [← en]
    rcases len_of_trod (by simpa [Value.cells] using hf3) with ⟨_, h⟩ | ⟨es, sp, hd, h⟩
    · omega
    · simp only at hd
      subst hd
      have := sized_slice hsz (j := 3) (t := 23) (e := 5) rfl rfl Tryd.uBytes
      rw [Tryd.bytesU8] at this
      simp only [reachBytes] at this
      omega
  have hk4 : ∀ W' : World, Below W.heap.size W W' → DataW.Trod enc Tryd.prog W' 0 (fun b => decide (b < W.heap.size)) true 25 v4 d4 p4 := fun W' hn => Below.trod Tryd.laidOut (by kernel_rfl) (of_decide_eq_true (by kernel_rfl)) h4 hn (fun x hx => hlt x (by simp [hx]))
  obtain ⟨a4, n4, c4, rfl⟩ := okWide_slice uDss (hval 4 25 v4 rfl rfl)
  obtain ⟨fuel4, hf4⟩ := h4
  obtain ⟨l4, low4, hI4, hx4⟩ := dss_open (u := .slice a4 n4 c4) (by simpa [Value.cells] using hf4)
  have z4 : l4.length ≤ 140737488351232 := by
    rcases hx4 with ⟨_, h⟩ | ⟨es, sp, hd, h⟩
    · rw [h]; exact Nat.zero_le _
    · simp only at hd
      subst hd
      have := sized_slice hsz (j := 4) (t := 25) (e := 24) rfl rfl uDss
      rw [bytesD32] at this
      simp only [reachBytes] at this
      omega
  refine (treeChecks_law xs0 l0 (fun z hz => byte_of_wf (w0 z hz)) x1 (int_of_wf w1) x2 (int_of_wf w2) _ l3 low3 z3 _ l4 low4 z4 W hI3 hI4 (ktab_two hL) (rtab_two hL)).mono fun e W' ⟨he, hg⟩ => ?_
  subst he
  exact ⟨_, rfl, _, _, _, [], _, [], hW', trodAll_mk1 (shut_bool Tryd.underlying4 _), trodAll_cons_mk (shut_arr u_d32 Tryd.uU8 Tryd.cellsU8 cellsD32 l0 w0) (trodAll_cons_mk (shut_int uInt_ w1) (trodAll_cons_mk (shut_int uInt_ w2) (trodAll_cons_mk (hk3 _ hg) (trodAll_cons_mk (hk4 _ hg) (trodAll_mk0))))), rfl, hg.frame _, fun h => by cases h⟩

theorem treeChecks_holds : Rows.TreeChecksSaid :=
  OpenClaim.holds_of_cond 4 Tryd.f4 rfl rfl rfl rfl rfl rfl rfl ⟨rfl, rfl, rfl, rfl, rfl⟩ rfl rfl rfl rfl rfl (by kernel_rfl) Tryd.func4 (by kernel_rfl)
    (of_decide_eq_true (by kernel_rfl)) (by unfold Func.isWrapper; first | (rw [if_pos (by decide +kernel)]; kernel_rfl) | (rw [if_neg (by decide +kernel)]; exact ⟨rfl, rfl⟩))
    (fun os started H enc _ F => by rw [OpenClaim.pre_eq_preRow]; exact treeChecks_lifted os started H enc F)

theorem treeChecks_card : Rows.TreeChecksCardSaid :=
  Claim7.holds_tied_plain_at .later [] _ _ _ _ treeChecks_holds (fun _ h => by cases h) (by kernel_rfl) (fun _ h => by cases h) treeChecks_row_tie rfl ⟨rfl, rfl⟩ (by kernel_rfl) rfl
    (fun f fn hf hfn => by
      obtain rfl : f = 4 := Option.some.inj ((show Tryd.prog.funcNamed "sealring/sealringlaw.TreeChecks" = some 4 by kernel_rfl).symm.trans hf) |>.symm
      obtain rfl : fn = Tryd.f4 := (Option.some.inj (Tryd.func4.symm.trans hfn)).symm
      exact ⟨by kernel_rfl, fun j t ht => by
        rw [Tryd.params4] at ht
        have hm : t ∈ [24, 3, 3, 23, 25] := by simpa using Array.mem_of_getElem? ht
        have hall : ([24, 3, 3, 23, 25].all fun u => !Tryd.prog.wantsStandIn u) = true := by kernel_rfl
        exact (show Tryd.prog.wantsStandIn t = false by simpa using List.all_eq_true.1 hall t hm)⟩)
    (by kernel_rfl)
#print axioms treeChecks_card
end Go.Proofs.YtmpniingbioggaaDoor
