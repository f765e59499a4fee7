/- TreeTells returns true for all leaves, every place, every text and every two digests. -/
import Derived.Test.YtmpniingbioggaaDoorTEq
import Derived.Test.YtmpniingbioggaaDoorTArgs
import Derived.Test.YtmpniingbioggaaDoorTOpen
namespace Go.Proofs.YtmpniingbioggaaDoor
open Go.RowKit
open Go.BigFrame
open Go.ChangeShapes Go.WideShapes Go.ChangeAt
set_option linter.unusedSimpArgs false
theorem quiet_conv {ops : Array Oper} {rest : List Oper} {o : Oper} {a : Act} {C : World → Prop} {Q : Act → Prop} (hgd : Region.wanted o (yielded ops a.tmps) = true) (x : Operand) (ho : o.op = .convert 23 9 x) (u : Value) (xs : List Nat) (t : ByteArray) (ht : sOf xs = t) (hx : a.eval x = u) (hy : ∀ w, C w → By w u xs) (h : wpQuiet Tryd.prog ops C Q rest (a.put o.dst (.string t))) : wpQuiet Tryd.prog ops C Q (o :: rest) a := by
  subst ht
  refine wpQuiet_want hgd fun K hK => ⟨.string (sOf xs), fun w hw => ?_, hK _ h⟩
  have e : (execOp a.eval o).run Tryd.prog w = .ok (.value (.string (sOf xs))) w := by
    have e1 := bytes_conv (hy w hw)
    unfold execOp
    simp [ho, hx, e1]
  unfold Oper.quietAt
  rw [e]
  exact ⟨rfl, rfl⟩
set_option maxHeartbeats 4000000 in
theorem rpath_bad (ls : List (List Nat)) (i : Int) (h : i < 0 ∨ (ls.length : Int) ≤ i) (v : Value) (w : World) (hv : Sb w v ls) :
    Calls Tryd.prog 10 #[v, .int .i64 i] w fun e w' => e = .returned (.tuple #[.slice none 0 0, .int .i64 1]) ∧ Below w.heap.size w w' := by
  obtain ⟨av, cv, rfl, hc, h3⟩ := id hv
  clear hv h3 hc
  go_enter Tryd.func10, Tryd.ntmps10
  by_cases h1 : i < 0
  · clear h
    go_wp2_with fail
    go_ret2
    exact ⟨rfl, Below.refl _ _⟩
  · have h2 : (ls.length : Int) ≤ i := by omega
    clear h
    go_wp2_with fail
    go_ret2
    exact ⟨rfl, Below.refl _ _⟩
theorem paths_both (ls : List (List Nat)) (low : lowL ls) (zl : ls.length ≤ 60) (i : Int) (v : Value) :
    ∃ ds e, Dlow ds ∧ ds.length ≤ 20 ∧ (∀ w, Sb w v ls → KTab w → Calls Tryd.prog 9 #[v, .int .i64 i] w fun e' w' => (∃ v', e' = .returned (.tuple #[v', .int .i64 e]) ∧ Ds w' v' ds) ∧ Below w.heap.size w w') ∧
      (∀ w, Sb w v ls → RTab w → Calls Tryd.prog 10 #[v, .int .i64 i] w fun e' w' => (∃ v', e' = .returned (.tuple #[v', .int .i64 e]) ∧ Ds w' v' ds) ∧ Below w.heap.size w w') := by
  by_cases h : i < 0 ∨ (ls.length : Int) ≤ i
  · exact ⟨[], 1, (fun d hd => by cases hd), by simp, fun w hv _ => (tpath_bad ls i h v w hv).mono fun e w' ⟨he, hb⟩ => ⟨⟨_, he, Ds.nil w'⟩, hb⟩, fun w hv _ => (rpath_bad ls i h v w hv).mono fun e w' ⟨he, hb⟩ => ⟨⟨_, he, Ds.nil w'⟩, hb⟩⟩
  · obtain ⟨j, rfl⟩ := Int.eq_ofNat_of_zero_le (show 0 ≤ i by omega)
    have hj : j < ls.length := by omega
    exact ⟨pathS ls j, 0, pathS_low ls j, pathS_short hj (by omega), fun w hv hT => (tpath_fun ls low (by omega) j hj v w hv hT).mono fun e w' ⟨⟨v', he, ho⟩, hb⟩ => ⟨⟨v', he, ho.ds⟩, hb⟩, fun w hv hT => (rpath_fun ls low (by omega) j hj v w hv hT).mono fun e w' ⟨⟨v', he, ho⟩, hb⟩ => ⟨⟨v', he, ho.ds⟩, hb⟩⟩
set_option maxRecDepth 20000 in
set_option maxHeartbeats 4000000 in
theorem treeTells_law (v0 : Value) (ls : List (List Nat)) (low : ∀ p ∈ ls, (∀ y ∈ p, y < 256) ∧ p.length ≤ 140737488351232) (z0 : ls.length ≤ 140737488351232) (i : Int) (_ : -9223372036854775808 ≤ i ∧ i ≤ 9223372036854775807) (v1 : Value) (p : List Nat) (lp : lowB p) (zp : p.length ≤ 140737488351232)
    (ax : List Int) (la : ax.length = 32) (ba : ∀ z ∈ ax, 0 ≤ z ∧ z < 256) (bs : List Int) (lb : bs.length = 32) (bb : ∀ z ∈ bs, 0 ≤ z ∧ z < 256) (w : World) (h0 : Sb w v0 ls) (h1 : By w v1 p) (hK : KTab w) (hR : RTab w) :
    Calls Tryd.prog 3 #[v0, .int .i64 i, v1, .agg (ax.map (Value.int .u8)).toArray, .agg (bs.map (Value.int .u8)).toArray] w fun e w' => e = .returned (.bool true) ∧ Below w.heap.size w w' := by
  rw [← vB_ints ax ba, ← vB_ints bs bb]
  have la' : (ax.map Int.toNat).length = 32 := by simpa using la
  have lb' : (bs.map Int.toNat).length = 32 := by simpa using lb
  have ha := low_ints ax ba
  have hb := low_ints bs bb
  generalize ax.map Int.toNat = a at *
  generalize bs.map Int.toNat = b at *
  obtain ⟨x0, x1, x2⟩ := al2 w (a.map b8).toArray (b.map b8).toArray 24 24
  have X0 : Hid (Blk _ _ (a.map b8)) := x0
  have X1 : Hid (Blk _ _ (b.map b8)) := x1
  have X2 : Hid (Below _ _ _) := x2
  obtain ⟨av, cv, rfl, hc, h3⟩ := id h0
  by_cases c1 : (60 : Int) < (ls.length : Int)
  · clear h0 h1 hK hR low z0 zp lp ha hb la' lb' la lb ba bb x0 x1 x2 hc h3
    generalize ls.length = m at *
    go_enter Tryd.func3, Tryd.ntmps3
    go_wp2_with fail
    go_ret
    exact ⟨rfl, X2.out⟩
  · have c1b := decide_eq_false c1
    have lw := lowL.of low
    obtain ⟨ds, er, dl, dz, hA, hB⟩ := paths_both ls lw (by omega) i (.slice av ls.length cv)
    have PA : Hid _ := hA
    have PB : Hid _ := hB
    have RF : Hid _ := troot_fun ls.length ls (Nat.le_refl _) lw (by omega) (.slice av ls.length cv)
    have RG : Hid _ := rroot_fun ls lw (by omega) (.slice av ls.length cv)
    have TL : Hid _ := tleaf_fun p lp (by omega) v1
    have RL : Hid _ := rleaf_fun p lp (by omega)
    have TN : Hid _ := tnode_fun a b la' lb' ha hb
    have RN : Hid _ := rnode_fun a b la' lb' ha hb
    have EQ : Hid _ := equalD_fun ds dl (by omega)
    have LA : Hid (a.length = 32) := la'
    have LB : Hid (b.length = 32) := lb'
    have L1 : Hid ((leafS p).length = 32) := (leafS_low p).1
    have L2 : Hid ((nodeS a b).length = 32) := (nodeS_low a b).1
    have L3 : Hid ((rootS ls).length = 32) := rootS_length ls
    have H0 : Hid (Sb w (.slice av ls.length cv) ls) := h0
    have H1 : Hid (By w v1 p) := h1
    have KU : Hid (∀ w', Below w.heap.size w w' → KTab w') := fun w' hb => hK.up hb hK.pos
    have RU : Hid (∀ w', Below w.heap.size w w' → RTab w') := fun w' hb => hR.up hb hR.pos
    have ST : Hid (∃ t, sOf p = t) := ⟨_, rfl⟩
    obtain ⟨t, ht⟩ := ST.out
    have HT : Hid (sOf p = t) := ht
    rw [ht] at RL
    clear h0 h1 hK hR low z0 zp lp ha hb la' lb' la lb ba bb x0 x1 x2 hc h3 hA hB dl dz lw ST ht
    generalize leafS p = lf at *
    generalize nodeS a b = nb at *
    generalize rootS ls = rt at *
    generalize ls.length = m at *
    go_enter Tryd.func3, Tryd.ntmps3
    go_wp2_with fail
    generalize (w.alloc (Obj.cells (a.map b8).toArray 24)).alloc (Obj.cells (b.map b8).toArray 24) = w1 at *
    refine (PA.out w1 (H0.out.up X2.out (Nat.le_refl _)) (KU.out _ X2.out)).mono ?_
    rintro e w2 ⟨⟨v2, rfl, s2⟩, hb2⟩
    have D2 : Hid (Below w.heap.size w w2) := X2.out.trans (hb2.mono X2.out.size)
    have S2 : Hid (Ds w2 v2 ds) := s2
    have A2 : Hid (Blk w2 w.heap.size (a.map b8)) := X0.out.up hb2 X0.out.lt
    have B2 : Hid (Blk w2 (w.heap.size + 1) (b.map b8)) := X1.out.up hb2 X1.out.lt
    clear s2 hb2 X0 X1 X2 PA
    go_wp2_with fail
    refine (PB.out w2 (H0.out.up D2.out (Nat.le_refl _)) (RU.out _ D2.out)).mono ?_
    rintro e w3 ⟨⟨v3, rfl, s3⟩, hb3⟩
    have D3 : Hid (Below w.heap.size w w3) := D2.out.trans (hb3.mono D2.out.size)
    have S3 : Hid (Ds w3 v3 ds) := s3
    have T3 : Hid (Ds w3 v2 ds) := S2.out.up hb3 (Nat.le_refl _)
    have A3 : Hid (Blk w3 w.heap.size (a.map b8)) := A2.out.up hb3 A2.out.lt
    have B3 : Hid (Blk w3 (w.heap.size + 1) (b.map b8)) := B2.out.up hb3 B2.out.lt
    clear s3 hb3 D2 S2 A2 B2 PB
    go_wp2_with fail
    refine wp_region_up (by kernel_rfl) (by kernel_rfl) (fun U hU f hf hcl => ?_)
    have HB : ∀ n, Below w.heap.size w (f n) := fun n => D3.out.trans ((hf n).out.mono D3.out.size)
    have NA : Hid (∀ n, (f n).rangeAt w.heap.size 0 (a.map b8)) := fun n => (A3.out.up (hf n).out A3.out.lt).all
    have NB : Hid (∀ n, (f n).rangeAt (w.heap.size + 1) 0 (b.map b8)) := fun n => (B3.out.up (hf n).out B3.out.lt).all
    have NY : Hid (∀ n, By (f n) v1 p) := fun n => H1.out.up (HB n) (Nat.le_refl _)
    have N1 : Hid _ := fun n => TL.out (f n) (NY.out n) (KU.out _ (HB n))
    have N2 : Hid _ := fun n => RL.out (f n) (RU.out _ (HB n))
    have N3 : Hid _ := fun n => TN.out (f n) (KU.out _ (HB n))
    have N4 : Hid _ := fun n => RN.out (f n) (RU.out _ (HB n))
    have N5 : Hid _ := fun n => RF.out (f n) (H0.out.up (HB n) (Nat.le_refl _)) (KU.out _ (HB n))
    have N6 : Hid _ := fun n => RG.out (f n) (H0.out.up (HB n) (Nat.le_refl _)) (RU.out _ (HB n))
    have N7 : Hid _ := fun n => EQ.out v2 v3 (f n) (T3.out.up (hf n).out (Nat.le_refl _)) (S3.out.up (hf n).out (Nat.le_refl _))
    clear HB
    repeat (first | (refine quiet_ld rfl (.tmp 8) rfl w.heap.size 0 rfl a LA.out (fun W hW => by obtain ⟨n, rfl⟩ := hW; exact NA.out n) ?_; simp only [Act.put, List.setIfInBounds_toArray, List.set_cons_succ, List.set_cons_zero]) | (refine quiet_ld rfl (.tmp 9) rfl (w.heap.size + 1) 0 rfl b LB.out (fun W hW => by obtain ⟨n, rfl⟩ := hW; exact NB.out n) ?_; simp only [Act.put, List.setIfInBounds_toArray, List.set_cons_succ, List.set_cons_zero]) | (refine quiet_eqD rfl (.tmp 31) (.tmp 34) _ rfl lf L1.out rfl rfl ?_; simp only [Act.put, List.setIfInBounds_toArray, List.set_cons_succ, List.set_cons_zero]) | (refine quiet_eqD rfl (.tmp 39) (.tmp 42) _ rfl nb L2.out rfl rfl ?_; simp only [Act.put, List.setIfInBounds_toArray, List.set_cons_succ, List.set_cons_zero]) | (refine quiet_eqD rfl (.tmp 47) (.tmp 49) _ rfl rt L3.out rfl rfl ?_; simp only [Act.put, List.setIfInBounds_toArray, List.set_cons_succ, List.set_cons_zero]) | (refine quiet_conv rfl (.tmp 32) rfl v1 p t HT.out rfl (fun W hW => by obtain ⟨n, rfl⟩ := hW; exact NY.out n) ?_; simp only [Act.put, List.setIfInBounds_toArray, List.set_cons_succ, List.set_cons_zero]) | go_big_quiet_step (first | (go_at_call 11; exact (N1.out _).mono fun e w'' ⟨he, hb⟩ => ⟨he, hcl.out _ _ hb⟩) | (go_at_call 12; exact (N2.out _).mono fun e w'' ⟨he, hb⟩ => ⟨he, hcl.out _ _ hb⟩) | (go_at_call 13; exact (N3.out _).mono fun e w'' ⟨he, hb⟩ => ⟨he, hcl.out _ _ hb⟩) | (go_at_call 14; exact (N4.out _).mono fun e w'' ⟨he, hb⟩ => ⟨he, hcl.out _ _ hb⟩) | (go_at_call 15; exact (N5.out _).mono fun e w'' ⟨he, hb⟩ => ⟨he, hcl.out _ _ hb⟩) | (go_at_call 16; exact (N6.out _).mono fun e w'' ⟨he, hb⟩ => ⟨he, hcl.out _ _ hb⟩) | (go_at_call 17; exact (N7.out _).mono fun e w'' ⟨he, hb⟩ => ⟨he, hcl.out _ _ hb⟩)))
    refine wpQuiet_nil ?_
    intro nn
    have hb4 := (hf nn).out
    generalize f nn = w4 at hb4 ⊢
    have D4 : Hid (Below w.heap.size w w4) := D3.out.trans (hb4.mono D3.out.size)
    clear hf hcl hb4 N1 N2 N3 N4 N5 N6 N7 NA NB NY
    go_wp2_with fail
    go_ret
    exact ⟨rfl, D4.out⟩
set_option maxRecDepth 100000 in
theorem treeTells_met (os : Os) : laidMet Tryd.prog Rows.treeTellsRow.laid ((World.doorLaid Tryd.prog 14 os).forCall (fun _ _ => 0) ⟨#[], #[.slice none 0 0, .int .i64 0, .slice none 0 0, .agg #[.int .u8 0, .int .u8 0, .int .u8 0, .int .u8 0, .int .u8 0, .int .u8 0, .int .u8 0, .int .u8 0, .int .u8 0, .int .u8 0, .int .u8 0, .int .u8 0, .int .u8 0, .int .u8 0, .int .u8 0, .int .u8 0, .int .u8 0, .int .u8 0, .int .u8 0, .int .u8 0, .int .u8 0, .int .u8 0, .int .u8 0, .int .u8 0, .int .u8 0, .int .u8 0, .int .u8 0, .int .u8 0, .int .u8 0, .int .u8 0, .int .u8 0, .int .u8 0], .agg #[.int .u8 0, .int .u8 0, .int .u8 0, .int .u8 0, .int .u8 0, .int .u8 0, .int .u8 0, .int .u8 0, .int .u8 0, .int .u8 0, .int .u8 0, .int .u8 0, .int .u8 0, .int .u8 0, .int .u8 0, .int .u8 0, .int .u8 0, .int .u8 0, .int .u8 0, .int .u8 0, .int .u8 0, .int .u8 0, .int .u8 0, .int .u8 0, .int .u8 0, .int .u8 0, .int .u8 0, .int .u8 0, .int .u8 0, .int .u8 0, .int .u8 0, .int .u8 0]], []⟩).memory := laidMet_of_run' 8 (by kernel_rfl) (by kernel_rfl)
set_option maxRecDepth 100000 in
theorem treeTells_reads (os : Os) {H : Type} (enc : TypeId × Value → H) : ∃ places, DataW.whole enc Tryd.prog ((World.doorLaid Tryd.prog 14 os).forCall (fun _ _ => 0) ⟨#[], #[.slice none 0 0, .int .i64 0, .slice none 0 0, .agg #[.int .u8 0, .int .u8 0, .int .u8 0, .int .u8 0, .int .u8 0, .int .u8 0, .int .u8 0, .int .u8 0, .int .u8 0, .int .u8 0, .int .u8 0, .int .u8 0, .int .u8 0, .int .u8 0, .int .u8 0, .int .u8 0, .int .u8 0, .int .u8 0, .int .u8 0, .int .u8 0, .int .u8 0, .int .u8 0, .int .u8 0, .int .u8 0, .int .u8 0, .int .u8 0, .int .u8 0, .int .u8 0, .int .u8 0, .int .u8 0, .int .u8 0, .int .u8 0], .agg #[.int .u8 0, .int .u8 0, .int .u8 0, .int .u8 0, .int .u8 0, .int .u8 0, .int .u8 0, .int .u8 0, .int .u8 0, .int .u8 0, .int .u8 0, .int .u8 0, .int .u8 0, .int .u8 0, .int .u8 0, .int .u8 0, .int .u8 0, .int .u8 0, .int .u8 0, .int .u8 0, .int .u8 0, .int .u8 0, .int .u8 0, .int .u8 0, .int .u8 0, .int .u8 0, .int .u8 0, .int .u8 0, .int .u8 0, .int .u8 0, .int .u8 0, .int .u8 0]], []⟩).memory Tryd.f3.params.toList Rows.treeTellsSpec.vars false #[.slice none 0 0, .int .i64 0, .slice none 0 0, .agg #[.int .u8 0, .int .u8 0, .int .u8 0, .int .u8 0, .int .u8 0, .int .u8 0, .int .u8 0, .int .u8 0, .int .u8 0, .int .u8 0, .int .u8 0, .int .u8 0, .int .u8 0, .int .u8 0, .int .u8 0, .int .u8 0, .int .u8 0, .int .u8 0, .int .u8 0, .int .u8 0, .int .u8 0, .int .u8 0, .int .u8 0, .int .u8 0, .int .u8 0, .int .u8 0, .int .u8 0, .int .u8 0, .int .u8 0, .int .u8 0, .int .u8 0, .int .u8 0], .agg #[.int .u8 0, .int .u8 0, .int .u8 0, .int .u8 0, .int .u8 0, .int .u8 0, .int .u8 0, .int .u8 0, .int .u8 0, .int .u8 0, .int .u8 0, .int .u8 0, .int .u8 0, .int .u8 0, .int .u8 0, .int .u8 0, .int .u8 0, .int .u8 0, .int .u8 0, .int .u8 0, .int .u8 0, .int .u8 0, .int .u8 0, .int .u8 0, .int .u8 0, .int .u8 0, .int .u8 0, .int .u8 0, .int .u8 0, .int .u8 0, .int .u8 0, .int .u8 0]].toList 8 = some ([.nil, .lit (.int .i64 0), .nil, .agg [.lit (.int .u8 0), .lit (.int .u8 0), .lit (.int .u8 0), .lit (.int .u8 0), .lit (.int .u8 0), .lit (.int .u8 0), .lit (.int .u8 0), .lit (.int .u8 0), .lit (.int .u8 0), .lit (.int .u8 0), .lit (.int .u8 0), .lit (.int .u8 0), .lit (.int .u8 0), .lit (.int .u8 0), .lit (.int .u8 0), .lit (.int .u8 0), .lit (.int .u8 0), .lit (.int .u8 0), .lit (.int .u8 0), .lit (.int .u8 0), .lit (.int .u8 0), .lit (.int .u8 0), .lit (.int .u8 0), .lit (.int .u8 0), .lit (.int .u8 0), .lit (.int .u8 0), .lit (.int .u8 0), .lit (.int .u8 0), .lit (.int .u8 0), .lit (.int .u8 0), .lit (.int .u8 0), .lit (.int .u8 0)], .agg [.lit (.int .u8 0), .lit (.int .u8 0), .lit (.int .u8 0), .lit (.int .u8 0), .lit (.int .u8 0), .lit (.int .u8 0), .lit (.int .u8 0), .lit (.int .u8 0), .lit (.int .u8 0), .lit (.int .u8 0), .lit (.int .u8 0), .lit (.int .u8 0), .lit (.int .u8 0), .lit (.int .u8 0), .lit (.int .u8 0), .lit (.int .u8 0), .lit (.int .u8 0), .lit (.int .u8 0), .lit (.int .u8 0), .lit (.int .u8 0), .lit (.int .u8 0), .lit (.int .u8 0), .lit (.int .u8 0), .lit (.int .u8 0), .lit (.int .u8 0), .lit (.int .u8 0), .lit (.int .u8 0), .lit (.int .u8 0), .lit (.int .u8 0), .lit (.int .u8 0), .lit (.int .u8 0), .lit (.int .u8 0)]], [], places) := ⟨[], by kernel_rfl⟩
set_option maxRecDepth 100000 in
theorem treeTells_lifted (os : Os) (started : os.Started) (H : Type) (enc : TypeId × Value → H) (F : Stop.Interp) :
    ReturnsInHanded {} Tryd.checked os 3 .any ((OpenSpec.ofChange Rows.treeTellsSpec).preRow enc Tryd.prog Tryd.f3 Rows.treeTellsRow.domain false Rows.treeTellsRow.laid) (((OpenSpec.ofChange Rows.treeTellsSpec).at F).post enc Tryd.prog Tryd.f3 false true false false) := by
  obtain ⟨places, hx⟩ := treeTells_reads os enc
  refine returnsInHanded_of_row (C := Tryd.checked) (s := (OpenSpec.ofChange Rows.treeTellsSpec)) Tryd.own started (by kernel_rfl) Tryd.func3
    (witness_row_at (enc := enc) (C := Tryd.checked) false (World.doorLaid Tryd.prog 14 os) #[.slice none 0 0, .int .i64 0, .slice none 0 0, .agg #[.int .u8 0, .int .u8 0, .int .u8 0, .int .u8 0, .int .u8 0, .int .u8 0, .int .u8 0, .int .u8 0, .int .u8 0, .int .u8 0, .int .u8 0, .int .u8 0, .int .u8 0, .int .u8 0, .int .u8 0, .int .u8 0, .int .u8 0, .int .u8 0, .int .u8 0, .int .u8 0, .int .u8 0, .int .u8 0, .int .u8 0, .int .u8 0, .int .u8 0, .int .u8 0, .int .u8 0, .int .u8 0, .int .u8 0, .int .u8 0, .int .u8 0, .int .u8 0], .agg #[.int .u8 0, .int .u8 0, .int .u8 0, .int .u8 0, .int .u8 0, .int .u8 0, .int .u8 0, .int .u8 0, .int .u8 0, .int .u8 0, .int .u8 0, .int .u8 0, .int .u8 0, .int .u8 0, .int .u8 0, .int .u8 0, .int .u8 0, .int .u8 0, .int .u8 0, .int .u8 0, .int .u8 0, .int .u8 0, .int .u8 0, .int .u8 0, .int .u8 0, .int .u8 0, .int .u8 0, .int .u8 0, .int .u8 0, .int .u8 0, .int .u8 0, .int .u8 0]] rfl (by kernel_rfl) (by kernel_rfl) (by kernel_rfl)
      (OpenSpec.preRow_of_cond 8 hx (by kernel_rfl) (fun k hk => by cases hk) (by kernel_rfl) (treeTells_met os))) ?_
  intro W base args ds gs before hval0 hW _ hcond hsz0 hL _ _
  have hval : ∀ (j : Nat) t v, Tryd.f3.params[j]? = some t → args[j]? = some v → Value.okWide Tryd.prog W .any base t v := hval0
  have hsz : (DataW.weightsEach Tryd.prog (Tryd.f3.params.toList ++ Rows.treeTellsSpec.plain.varTypes Tryd.prog) (ds ++ gs)).all (· ≤ reachBytes) = true := hsz0
  have hW' := hW
  obtain ⟨p, q, hA0, hV, rfl, hfz, hnd⟩ := hW
  have hA : DataW.TrodAll enc Tryd.prog W 0 (fun _ => true) true Tryd.f3.params.toList args.toList ds p := hA0
  rw [Tryd.params3] at hA hval hsz
  obtain ⟨v0, vs0, d0, ds0, p0, q0, hargs, rfl, rfl, h0, r0⟩ := trodAll_cons hA
  obtain ⟨v1, vs1, d1, ds1, p1, q1, rfl, rfl, rfl, h1, r1⟩ := trodAll_cons r0
  obtain ⟨v2, vs2, d2, ds2, p2, q2, rfl, rfl, rfl, h2, r2⟩ := trodAll_cons r1
  obtain ⟨v3, vs3, d3, ds3, p3, q3, rfl, rfl, rfl, h3, r3⟩ := trodAll_cons r2
  obtain ⟨v4, vs4, d4, ds4, p4, q4, rfl, rfl, rfl, h4, r4⟩ := trodAll_cons r3
  obtain ⟨rfl, rfl, rfl⟩ := trodAll_nil r4
  have eargs : args = #[v0, v1, v2, v3, v4] := by
    obtain ⟨l⟩ := args
    simp at hargs
    simp [hargs]
  subst eargs
  obtain ⟨rfl, rfl⟩ := trodVars_none hV
  simp only [List.append_nil] at hW'
  have hlt : ∀ x ∈ p0 ++ p1 ++ p2 ++ p3 ++ p4, x.block < W.heap.size := fun x hx => by simpa using hW'.lt x (by simpa using hx)
  have hk0 : ∀ W' : World, Below W.heap.size W W' → DataW.Trod enc Tryd.prog W' 0 (fun b => decide (b < W.heap.size)) true 22 v0 d0 p0 := fun W' hn => Below.trod Tryd.laidOut (by kernel_rfl) (of_decide_eq_true (by kernel_rfl)) h0 hn (fun x hx => hlt x (by simp [hx]))
  obtain ⟨a0, n0, c0, rfl⟩ := okWide_slice uBss (hval 0 22 v0 rfl rfl)
  obtain ⟨fuel0, hf0⟩ := h0
  obtain ⟨l0, low0, hI0, hx0⟩ := bss_open (u := .slice a0 n0 c0) (by simpa [Value.cells] using hf0) 140737488351232 (fun elems sp hd i es sp' he => by
    have hd' : d0 = .slice elems sp := hd
    subst hd'
    have := sized_inner hsz (j := 0) rfl rfl he
    simp only [reachBytes] at this
    omega)
  have z0 : l0.length ≤ 140737488351232 := by
    rcases hx0 with ⟨_, h⟩ | ⟨es, sp, hd, h⟩
    · rw [h]; exact Nat.zero_le _
    · simp only at hd
      subst hd
      have := sized_slice hsz (j := 0) (t := 22) (e := 23) rfl rfl uBss
      rw [bytesBytes] at this
      simp only [reachBytes] at this
      omega
  obtain ⟨x1, rfl, rfl, rfl, w1⟩ := open_int uInt_ (hval 1 3 v1 rfl rfl) h1
  have hk2 : ∀ W' : World, Below W.heap.size W W' → DataW.Trod enc Tryd.prog W' 0 (fun b => decide (b < W.heap.size)) true 23 v2 d2 p2 := fun W' hn => Below.trod Tryd.laidOut (by kernel_rfl) (of_decide_eq_true (by kernel_rfl)) h2 hn (fun x hx => hlt x (by simp [hx]))
  obtain ⟨a2, n2, c2, rfl⟩ := okWide_slice Tryd.uBytes (hval 2 23 v2 rfl rfl)
  obtain ⟨fuel2, hf2⟩ := h2
  obtain ⟨l2, low2, hI2, len2⟩ := by_of_trod (u := .slice a2 n2 c2) (by simpa [Value.cells] using hf2)
  have z2 : l2.length ≤ 140737488351232 := by
    obtain ⟨a', c', e, _⟩ := hI2
    have en : n2 = l2.length := by cases e; rfl
    rw [← en]
    rcases len_of_trod (by simpa [Value.cells] using hf2) with ⟨_, h⟩ | ⟨es, sp, hd, h⟩
    · omega
    · simp only at hd
      subst hd
      have := sized_slice hsz (j := 2) (t := 23) (e := 5) rfl rfl Tryd.uBytes
      rw [Tryd.bytesU8] at this
      simp only [reachBytes] at this
      omega
  obtain ⟨xs3, l3, rfl, rfl, rfl, w3⟩ := open_arr u_d32 Tryd.uU8 Tryd.cellsU8 cellsD32 (hval 3 24 v3 rfl rfl) h3
  obtain ⟨xs4, l4, rfl, rfl, rfl, w4⟩ := open_arr u_d32 Tryd.uU8 Tryd.cellsU8 cellsD32 (hval 4 24 v4 rfl rfl) h4
  refine (treeTells_law _ l0 low0 z0 x1 (int_of_wf w1) _ l2 low2 z2 xs3 l3 (fun z hz => byte_of_wf (w3 z hz)) xs4 l4 (fun z hz => byte_of_wf (w4 z hz)) W hI0 hI2 (ktab_two hL) (rtab_two hL)).mono fun e W' ⟨he, hg⟩ => ?_
  subst he
  exact ⟨_, rfl, _, _, _, [], _, [], hW', trodAll_mk1 (shut_bool Tryd.underlying4 _), trodAll_cons_mk (hk0 _ hg) (trodAll_cons_mk (shut_int uInt_ w1) (trodAll_cons_mk (hk2 _ hg) (trodAll_cons_mk (shut_arr u_d32 Tryd.uU8 Tryd.cellsU8 cellsD32 l3 w3) (trodAll_cons_mk (shut_arr u_d32 Tryd.uU8 Tryd.cellsU8 cellsD32 l4 w4) (trodAll_mk0))))), rfl, hg.frame _, fun h => by cases h⟩

theorem treeTells_holds : Rows.TreeTellsSaid :=
  OpenClaim.holds_of_cond 3 Tryd.f3 rfl rfl rfl rfl rfl rfl rfl ⟨rfl, rfl, rfl, rfl, rfl⟩ rfl rfl rfl rfl rfl (by kernel_rfl) Tryd.func3 (by kernel_rfl)
    (of_decide_eq_true (by kernel_rfl)) (by unfold Func.isWrapper; first | (rw [if_pos (by decide +kernel)]; kernel_rfl) | (rw [if_neg (by decide +kernel)]; exact ⟨rfl, rfl⟩))
    (fun os started H enc _ F => by rw [OpenClaim.pre_eq_preRow]; exact treeTells_lifted os started H enc F)

theorem treeTells_card : Rows.TreeTellsCardSaid :=
  Claim7.holds_tied_plain_at .later [] _ _ _ _ treeTells_holds (fun _ h => by cases h) (by kernel_rfl) (fun _ h => by cases h) treeTells_row_tie rfl ⟨rfl, rfl⟩ (by kernel_rfl) rfl
    (fun f fn hf hfn => by
      obtain rfl : f = 3 := Option.some.inj ((show Tryd.prog.funcNamed "sealring/sealringlaw.TreeTells" = some 3 by kernel_rfl).symm.trans hf) |>.symm
      obtain rfl : fn = Tryd.f3 := (Option.some.inj (Tryd.func3.symm.trans hfn)).symm
      exact ⟨by kernel_rfl, fun j t ht => by
        rw [Tryd.params3] at ht
        have hm : t ∈ [22, 3, 23, 24, 24] := by simpa using Array.mem_of_getElem? ht
        have hall : ([22, 3, 23, 24, 24].all fun u => !Tryd.prog.wantsStandIn u) = true := by kernel_rfl
        exact (show Tryd.prog.wantsStandIn t = false by simpa using List.all_eq_true.1 hall t hm)⟩)
    (by kernel_rfl)
#print axioms treeTells_card
end Go.Proofs.YtmpniingbioggaaDoor
