/- DrawBelow returns true for every seed, every number and every place (a tied card: hash.rounds as the text lays it). -/
import Derived.Test.YtfanndkhajokcaaDoorDBel
import Derived.Test.YtfanndkhajokcaaDoorRows
import Derived.ProofKit
import Derived.Test.YtfanndkhajokcaaDoorDrawBelow
import Derived.Test.YtfanndkhajokcaaDoorGrp10
import Derived.Test.YtfanndkhajokcaaDoorHLaid
/- The contract of draw.Source.Below: what a source must keep where numbers are drawn below one. -/
namespace Go.Proofs.YtfanndkhajokcaaDoor
open Go.RowKit
set_option linter.unusedSimpArgs false
/-- What Below ends with. -/
def BePost (seed : List Nat) (F : Nat → Prop) (p n M k : Nat) (w : World) (e : Ending) (w' : World) : Prop :=
  e = .returned (match belS seed p n M with | some t => .tuple #[N (Nm.of ((tryS seed p n t : Nat) : Int)), .int .i64 0] | none => .tuple #[N ⟨0, 0, 0, 0⟩, .int .i64 6]) ∧ Src w' k F seed ((p + (match belS seed p n M with | some t => 32 * (t + 1) | none => 3200)) % 18446744073709551616) ∧ Fr w k w'
theorem BePost.of {seed : List Nat} {F : Nat → Prop} {p n M k : Nat} {w w' : World} {e : Ending} {T : Nat → Nat} (hT : ∀ j, tryS seed p n j = T j % 2 ^ n) (h : FBPost T (fun W j => Src W k F seed ((p + 32 * j) % 18446744073709551616)) M n k w e w') : BePost seed F p n M k w e w' := by
  obtain ⟨t, h1, h2, h3⟩ := h
  unfold BePost
  rcases h1 with ⟨a, rfl, c, d⟩ | ⟨rfl, rfl, d⟩
  · have e1 : belS seed p n M = some t := belS_some a (fun j hj => by rw [hT]; exact h2 j hj) (by rw [hT]; exact c)
    rw [e1]
    exact ⟨by simp only [hT], d, h3⟩
  · have e1 : belS seed p n M = none := belS_none (fun j hj => by rw [hT]; exact h2 j hj)
    rw [e1]
    exact ⟨rfl, d, h3⟩
theorem first_fun {seed : List Nat} {F : Nat → Prop} {k p : Nat} (x : Nm) (hx : x.ok) (M n : Nat) (hM : x.nat = M) (h0 : 0 < M) (hn : BL M n) (w : World) (hs : Src w k F seed p) (hK : KTab w) (hk : 0 < k) :
    Calls Tryd.prog 24 #[N x, nextV k] w fun e w' => BePost seed F p n M k w e w' := by
  have hT : ∀ W, Fr w k W → KTab W := fun W hW => hK.up (hW.below (B := 1) (by have := hK.pos; omega) (by omega)) (by omega)
  refine Calls.mono (first_core (fun j => leN (drawS seed ((p + 32 * j) % 18446744073709551616) 32)) (fun W j => Src W k F seed ((p + 32 * j) % 18446744073709551616)) x hx M n hM h0 hn w hs.blk.lt ?_ (fun W W' j h e => h.stay e) (fun W j h hf => ?_) (fun j => ?_)) (fun e w' h => BePost.of (fun j => rfl) h)
  · have e : (p + 32 * 0) % 18446744073709551616 = p := Nat.mod_eq_of_lt hs.small
    rw [e]
    exact hs
  · have e : ((p + 32 * j) % 18446744073709551616 + 32) % 18446744073709551616 = (p + 32 * (j + 1)) % 18446744073709551616 := by omega
    have := snumber_fun W h (hT W hf) hk
    rw [e] at this
    exact this
  · have := leN_lt _ (drawS_low seed ((p + 32 * j) % 18446744073709551616) 32)
    rw [drawS_length] at this
    exact this
theorem ne_zero {x : Nm} {M : Nat} (hM : x.nat = M) (h0 : 0 < M) : Nm.beq x ⟨0, 0, 0, 0⟩ = false := by
  refine Nm.beq_ne fun e => ?_
  subst e
  have : (⟨0, 0, 0, 0⟩ : Nm).nat = 0 := rfl
  omega
set_option maxRecDepth 20000 in
set_option maxHeartbeats 4000000 in
theorem sbelow_fun {seed : List Nat} {F : Nat → Prop} {k p : Nat} (x : Nm) (hx : x.ok) (M n : Nat) (hM : x.nat = M) (h0 : 0 < M) (hn : BL M n) (w : World) (hs : Src w k F seed p) (hK : KTab w) (hk : 0 < k) :
    Calls Tryd.prog 9 #[ptr k, N x] w fun e w' => BePost seed F p n M k w e w' := by
  obtain ⟨x0, x1, x2⟩ := al2 w (nC x).toArray #[Value.int IntKind.u64 0, Value.int IntKind.u64 0, Value.int IntKind.u64 0, Value.int IntKind.u64 0] 28 28
  have X0 : Hid (Blk _ w.heap.size (nC x)) := x0
  have X1 : Hid (Blk _ (w.heap.size + 1) (nC ⟨0, 0, 0, 0⟩)) := x1
  have X2 : Hid (Below w.heap.size w _) := x2
  have FB : Hid _ := first_fun x hx M n hM h0 hn _ (hs.up x2 hs.blk.lt) (hK.up x2 hK.pos) hk
  have QZ : Hid _ := ne_zero hM h0
  have KL : Hid (k < w.heap.size) := hs.blk.lt
  have NX : Hid (N x = .agg (nC x).toArray) := rfl
  have RV : Hid (∀ e W, BePost seed F p n M k ((w.alloc (.cells (nC x).toArray 28)).alloc (.cells #[Value.int IntKind.u64 0, Value.int IntKind.u64 0, Value.int IntKind.u64 0, Value.int IntKind.u64 0] 28)) e W → ∃ R c, e = .returned (.tuple #[N R, .int .i64 c]) ∧ ∀ W', W'.heap[k]? = W.heap[k]? → Fr w k W' → BePost seed F p n M k w e W') := by
    rintro e W ⟨rfl, hS, hF⟩
    have hR : ∃ R c, (match belS seed p n M with | some t => (.tuple #[N (Nm.of ((tryS seed p n t : Nat) : Int)), .int .i64 0] : Value) | none => .tuple #[N ⟨0, 0, 0, 0⟩, .int .i64 6]) = .tuple #[N R, .int .i64 c] := by
      cases belS seed p n M with
      | none => exact ⟨_, _, rfl⟩
      | some t => exact ⟨_, _, rfl⟩
    obtain ⟨R, c, hRc⟩ := hR
    exact ⟨R, c, by rw [hRc], fun W' e hW => ⟨rfl, hS.stay e, hW⟩⟩
  have FR : Hid (∀ e W, BePost seed F p n M k ((w.alloc (.cells (nC x).toArray 28)).alloc (.cells #[Value.int IntKind.u64 0, Value.int IntKind.u64 0, Value.int IntKind.u64 0, Value.int IntKind.u64 0] 28)) e W → Fr _ k W) := fun e W h => h.2.2
  rw [NX.out]
  clear hs hK hk x0 x1 x2 hM hx hn h0
  obtain ⟨PP, hPP⟩ : ∃ PP, PP = BePost seed F p n M k := ⟨_, rfl⟩
  rw [← hPP] at FB RV FR ⊢
  clear hPP
  go_enter Tryd.func9, Tryd.ntmps9
  go_wp2_with (first | refine wp_ldN (by kernel_rfl) (.tmp 3) rfl w.heap.size rfl x X0.out ?_ | refine wp_eqN (by kernel_rfl) (.tmp 6) (.tmp 7) _ rfl x ⟨0, 0, 0, 0⟩ rfl rfl false QZ.out ?_)
  generalize World.alloc (w.alloc _) _ = w1 at *
  refine Calls.mono FB.out ?_
  intro e w2 hP
  obtain ⟨R, c, rfl, hend⟩ := RV.out e w2 hP
  have F2 : Hid (Fr w1 k w2) := FR.out _ _ hP
  have EN : Hid _ := hend
  have Z2 : Hid (Blk w2 (w.heap.size + 1) (nC ⟨0, 0, 0, 0⟩)) := X1.out.fr F2.out (by have := KL.out; omega)
  clear hP hend FB RV FR
  have TZ : Hid (w2.there (w.heap.size + 1) 0 4) := Z2.out.there (by simp [nC])
  go_wp2_with (refine wp_stN rfl (.tmp 4) (.tmp 14) rfl (w.heap.size + 1) rfl R rfl TZ.out ?_)
  intro w3 hw3
  go_wp2_with fail
  refine bodyPost_ret (v := .tuple #[N R, .int .i64 c]) ?_ rfl ?_
  · rw [hw3.out]
    exact results_cell2 (b := w.heap.size + 1) (cs := nC R) rfl rfl rfl (Z2.out.num _).all u_num rfl info_num
  · refine EN.out w3 ?_ ?_
    · rw [hw3.out]
      exact heap_setCells_off _ _ (by have := KL.out; omega) _ _ _
    · rw [hw3.out]
      exact ((Fr.of X2.out).trans F2.out).put _ _ _ (by omega)
set_option maxHeartbeats 4000000 in
theorem sbelow_zero (k : Nat) (w : World) : Calls Tryd.prog 9 #[ptr k, N ⟨0, 0, 0, 0⟩] w fun e w' => e = .returned (.tuple #[N ⟨0, 0, 0, 0⟩, .int .i64 1]) ∧ Below w.heap.size w w' := by
  obtain ⟨x0, x1, x2⟩ := al2 w #[Value.int IntKind.u64 0, Value.int IntKind.u64 0, Value.int IntKind.u64 0, Value.int IntKind.u64 0] #[Value.int IntKind.u64 0, Value.int IntKind.u64 0, Value.int IntKind.u64 0, Value.int IntKind.u64 0] 28 28
  have X0 : Hid (Blk _ w.heap.size (nC ⟨0, 0, 0, 0⟩)) := x0
  have X1 : Hid (Blk _ (w.heap.size + 1) (nC ⟨0, 0, 0, 0⟩)) := x1
  have X2 : Hid (Below w.heap.size w _) := x2
  have QZ : Hid (Nm.beq ⟨0, 0, 0, 0⟩ ⟨0, 0, 0, 0⟩ = true) := by show _ = _; decide
  clear x0 x1 x2
  have TZ : Hid _ := X1.out.there (o := 0) (n := 4) (by simp [nC])
  go_enter Tryd.func9, Tryd.ntmps9
  go_wp2_with (first | refine wp_ldN (by kernel_rfl) (.tmp 3) rfl w.heap.size rfl ⟨0, 0, 0, 0⟩ X0.out ?_ | refine wp_eqN (by kernel_rfl) (.tmp 6) (.tmp 7) _ rfl ⟨0, 0, 0, 0⟩ ⟨0, 0, 0, 0⟩ rfl rfl true QZ.out ?_ | refine wp_stN rfl (.tmp 4) (.tmp 9) rfl (w.heap.size + 1) rfl ⟨0, 0, 0, 0⟩ rfl TZ.out ?_)
  generalize World.alloc (w.alloc _) _ = w1 at *
  intro w3 hw3
  go_wp2_with fail
  refine bodyPost_ret (v := .tuple #[N ⟨0, 0, 0, 0⟩, .int .i64 1]) ?_ rfl ⟨rfl, ?_⟩
  · rw [hw3.out]
    exact results_cell2 (b := w.heap.size + 1) (cs := nC ⟨0, 0, 0, 0⟩) rfl rfl rfl (X1.out.num _).all u_num rfl info_num
  · rw [hw3.out]
    exact below_setCells _ _ _ X2.out (by omega)
theorem srcIsB : SrcB Src where
  below x hx M n hM h0 hn w hs hK hk := sbelow_fun x hx M n hM h0 hn w hs hK hk
  belowZero w _ := sbelow_zero _ w
end Go.Proofs.YtfanndkhajokcaaDoor

/- Small closed facts on the loaded program that each row's proof asks for. -/
namespace Go.Proofs.YtfanndkhajokcaaDoor
theorem Tryd.ownN : ownKnob Tryd.prog.godebug = none := by kernel_rfl
theorem Tryd.cellsNum : Tryd.prog.cellsOf 28 = 4 := by kernel_rfl
theorem Tryd.cellsU64 : Tryd.prog.cellsOf 26 = 1 := by kernel_rfl
theorem Tryd.cellsU8N : Tryd.prog.cellsOf 5 = 1 := by kernel_rfl
theorem Tryd.cellsB32 : Tryd.prog.cellsOf 47 = 32 := by kernel_rfl
end Go.Proofs.YtfanndkhajokcaaDoor

/- DrawBelow returns true for every seed, every number and every place. -/
namespace Go.Proofs.YtfanndkhajokcaaDoor
open Go.RowKit
open Go.ChangeShapes Go.WideShapes Go.ChangeAt
set_option linter.unusedSimpArgs false
theorem uInt_ : Tryd.prog.underlying 3 = some (.int .i64) := by kernel_rfl
theorem drawBelow_law (v0 : Value) (seed : List Nat) (ls : lowB seed) (zs : seed.length ≤ 140737488351232) (x : Nm) (hx : x.ok) (i : Int) (_ : -9223372036854775808 ≤ i ∧ i ≤ 9223372036854775807) (w : World) (h0 : By w v0 seed) (hK : KTab w) : Calls Tryd.prog 5 #[v0, N x, .int .i64 i] w fun e w' => e = .returned (.bool true) ∧ Below w.heap.size w w' := drawBelow_of srcIsC srcIsB v0 seed ls zs x hx i w h0 hK
set_option maxRecDepth 100000 in
theorem drawBelow_met (os : Os) : laidMet Tryd.prog Rows.drawBelowRow.laid ((World.doorLaid Tryd.prog 14 os).forCall (fun _ _ => 0) ⟨#[], #[.slice none 0 0, .agg #[.int .u64 0, .int .u64 0, .int .u64 0, .int .u64 0], .int .i64 0], []⟩).memory := laidMet_of_run' 8 (by kernel_rfl) (by kernel_rfl)
set_option maxRecDepth 100000 in
theorem drawBelow_reads (os : Os) {H : Type} (enc : TypeId × Value → H) : ∃ places, DataW.whole enc Tryd.prog ((World.doorLaid Tryd.prog 14 os).forCall (fun _ _ => 0) ⟨#[], #[.slice none 0 0, .agg #[.int .u64 0, .int .u64 0, .int .u64 0, .int .u64 0], .int .i64 0], []⟩).memory Tryd.f5.params.toList Rows.drawBelowSpec.vars false #[.slice none 0 0, .agg #[.int .u64 0, .int .u64 0, .int .u64 0, .int .u64 0], .int .i64 0].toList 8 = some ([.nil, .agg [.lit (.int .u64 0), .lit (.int .u64 0), .lit (.int .u64 0), .lit (.int .u64 0)], .lit (.int .i64 0)], [], places) := ⟨[], by kernel_rfl⟩
set_option maxRecDepth 100000 in
theorem drawBelow_lifted (os : Os) (started : os.Started) (H : Type) (enc : TypeId × Value → H) (F : Stop.Interp) :
    ReturnsInHanded {} Tryd.checked os 5 .any ((OpenSpec.ofChange Rows.drawBelowSpec).preRow enc Tryd.prog Tryd.f5 Rows.drawBelowRow.domain false Rows.drawBelowRow.laid) (((OpenSpec.ofChange Rows.drawBelowSpec).at F).post enc Tryd.prog Tryd.f5 false true false false) := by
  obtain ⟨places, hx⟩ := drawBelow_reads os enc
  refine returnsInHanded_of_row (C := Tryd.checked) (s := (OpenSpec.ofChange Rows.drawBelowSpec)) Tryd.own started (by kernel_rfl) Tryd.func5
    (witness_row_at (enc := enc) (C := Tryd.checked) false (World.doorLaid Tryd.prog 14 os) #[.slice none 0 0, .agg #[.int .u64 0, .int .u64 0, .int .u64 0, .int .u64 0], .int .i64 0] rfl (by kernel_rfl) (by kernel_rfl) (by kernel_rfl)
      (OpenSpec.preRow_of_cond 8 hx (by kernel_rfl) (fun k hk => by cases hk) (by kernel_rfl) (drawBelow_met os))) ?_
  intro W base args ds gs before hval0 hW _ hcond hsz0 hL _ _
  have hval : ∀ (j : Nat) t v, Tryd.f5.params[j]? = some t → args[j]? = some v → Value.okWide Tryd.prog W .any base t v := hval0
  have hsz : (DataW.weightsEach Tryd.prog (Tryd.f5.params.toList ++ Rows.drawBelowSpec.plain.varTypes Tryd.prog) (ds ++ gs)).all (· ≤ reachBytes) = true := hsz0
  have hW' := hW
  obtain ⟨p, q, hA0, hV, rfl, hfz, hnd⟩ := hW
  have hA : DataW.TrodAll enc Tryd.prog W 0 (fun _ => true) true Tryd.f5.params.toList args.toList ds p := hA0
  rw [Tryd.params5] at hA hval hsz
  obtain ⟨v0, v1, v2, d0, d1, d2, p0, p1, p2, rfl, rfl, rfl, h0, h1, h2⟩ := trodAll_three hA
  obtain ⟨rfl, rfl⟩ := trodVars_none hV
  simp only [List.append_nil] at hW'
  have hlt : ∀ x ∈ p0 ++ p1 ++ p2, x.block < W.heap.size := fun x hx => by simpa using hW'.lt x (by simpa using hx)
  have hk0 : ∀ W' : World, Below W.heap.size W W' → DataW.Trod enc Tryd.prog W' 0 (fun b => decide (b < W.heap.size)) true 22 v0 d0 p0 := fun W' hn => Below.trod Tryd.laidOut (by kernel_rfl) (of_decide_eq_true (by kernel_rfl)) h0 hn (fun x hx => hlt x (by simp [hx]))
  obtain ⟨a0, n0, c0, rfl⟩ := okWide_slice Tryd.uBytes (hval 0 22 v0 rfl rfl)
  obtain ⟨fuel0, hf0⟩ := h0
  obtain ⟨l0, low0, hI0, len0⟩ := by_of_trod (u := .slice a0 n0 c0) (by simpa [Value.cells] using hf0)
  have z0 : l0.length ≤ 140737488351232 := by
    obtain ⟨a', c', e, _⟩ := hI0
    have en : n0 = l0.length := by cases e; rfl
    rw [← en]
    rcases len_of_trod (by simpa [Value.cells] using hf0) with ⟨_, h⟩ | ⟨es, sp, hd, h⟩
    · omega
    · simp only at hd
      subst hd
      have := sized_slice hsz (j := 0) (t := 22) (e := 5) rfl rfl Tryd.uBytes
      rw [Tryd.bytesU8] at this
      simp only [reachBytes] at this
      omega
  obtain ⟨xs1, l1, rfl, rfl, rfl, w1⟩ := open_arr Tryd.underlying28 Tryd.underlying26 Tryd.cellsU64 Tryd.cellsNum (hval 1 28 v1 rfl rfl) h1
  obtain ⟨na1, nb1, nc1, nd1, rfl⟩ := list4 xs1 l1
  obtain ⟨x2, rfl, rfl, rfl, w2⟩ := open_int uInt_ (hval 2 3 v2 rfl rfl) h2
  refine (drawBelow_law _ l0 low0 z0 ⟨na1, nb1, nc1, nd1⟩ ⟨word_of_wf (w1 _ (by simp)), word_of_wf (w1 _ (by simp)), word_of_wf (w1 _ (by simp)), word_of_wf (w1 _ (by simp))⟩ x2 (int_of_wf w2) W hI0 (ktab_one hL)).mono fun e W' ⟨he, hg⟩ => ?_
  subst he
  exact ⟨_, rfl, _, _, _, [], _, [], hW', trodAll_mk1 (shut_bool Tryd.underlying4 _), trodAll_mk3 (hk0 _ hg) (shut_arr Tryd.underlying28 Tryd.underlying26 Tryd.cellsU64 Tryd.cellsNum l1 w1) (shut_int uInt_ w2), rfl, hg.frame _, fun h => by cases h⟩

theorem drawBelow_holds : Rows.DrawBelowSaid :=
  OpenClaim.holds_of_cond 5 Tryd.f5 rfl rfl rfl rfl rfl rfl rfl ⟨rfl, rfl, rfl, rfl, rfl⟩ rfl rfl rfl rfl rfl (by kernel_rfl) Tryd.func5 (by kernel_rfl)
    (of_decide_eq_true (by kernel_rfl)) (by unfold Func.isWrapper; first | (rw [if_pos (by decide +kernel)]; kernel_rfl) | (rw [if_neg (by decide +kernel)]; exact ⟨rfl, rfl⟩))
    (fun os started H enc _ F => by rw [OpenClaim.pre_eq_preRow]; exact drawBelow_lifted os started H enc F)

theorem drawBelow_card : Rows.DrawBelowCardSaid :=
  Claim7.holds_tied_plain_at .later [] _ _ _ _ drawBelow_holds (fun _ h => by cases h) (by kernel_rfl) (fun _ h => by cases h) drawBelow_row_tie rfl ⟨rfl, rfl⟩ (by kernel_rfl) rfl
    (fun f fn hf hfn => by
      obtain rfl : f = 5 := Option.some.inj ((show Tryd.prog.funcNamed "sealring/sealringkeep.DrawBelow" = some 5 by kernel_rfl).symm.trans hf) |>.symm
      obtain rfl : fn = Tryd.f5 := (Option.some.inj (Tryd.func5.symm.trans hfn)).symm
      exact ⟨by kernel_rfl, fun j t ht => by
        rw [Tryd.params5] at ht
        have hm : t ∈ [22, 28, 3] := by simpa using Array.mem_of_getElem? ht
        have hall : ([22, 28, 3].all fun u => !Tryd.prog.wantsStandIn u) = true := by kernel_rfl
        exact (show Tryd.prog.wantsStandIn t = false by simpa using List.all_eq_true.1 hall t hm)⟩)
    (by kernel_rfl)
#print axioms drawBelow_card
end Go.Proofs.YtfanndkhajokcaaDoor
