/- MacKeys returns true for every key, every text and every number. -/
import Derived.Test.YtfahnkcbjpknnaaDoorMLaw
import Derived.Test.YtfahnkcbjpknnaaDoorAppZ
import Derived.Test.YtfahnkcbjpknnaaDoorHLaid
namespace Go.Proofs.YtfahnkcbjpknnaaDoor
open Go.RowKit
open Go.ChangeShapes Go.WideShapes Go.ChangeAt
set_option linter.unusedSimpArgs false
attribute [local go_sem] YieldsP execOp
attribute [local simp] MP.eq_p
theorem mark_long {key : List Nat} (h : 64 < key.length) (p : List Nat) : markS (sumS key) p = markS key p := by
  unfold markS
  congr 1
  rw [fitS_long h, fitS_short (by rw [sumS_length]; decide), sumS_length]
theorem mark_noughts {key : List Nat} {n : Nat} (h : key.length + n ≤ 64) (p : List Nat) : markS (key ++ List.replicate n 0) p = markS key p := by
  unfold markS
  congr 1
  have e : (key ++ List.replicate n 0).length = key.length + n := by simp
  rw [fitS_short (by omega), fitS_short (by omega), e, List.append_assoc, List.replicate_append_replicate]
  congr 2
  omega
set_option maxRecDepth 20000 in
set_option maxHeartbeats 4000000 in
theorem macKeys_law (v0 : Value) (key : List Nat) (lk : lowB key) (zk : key.length ≤ 140737488351232) (v1 : Value) (p : List Nat) (lp : lowB p) (zp : p.length ≤ 140737488351232) (x : Int) (hx : -9223372036854775808 ≤ x ∧ x ≤ 9223372036854775807) (w : World) (h0 : By w v0 key) (h1 : By w v1 p) (hT : KTab w) :
    Calls Tryd.prog 5 #[v0, v1, .int .i64 x] w fun e w' => e = .returned (.bool true) ∧ Below w.heap.size w w' := by
  obtain ⟨av, cv, rfl, _⟩ := id h0
  have HK : Hid (By w (.slice av key.length cv) key) := h0
  have HP : Hid (By w v1 p) := h1
  have LK : Hid (lowB key) := lk
  have LP : Hid (lowB p) := lp
  have TU : Hid (∀ w', Below w.heap.size w w' → KTab w') := fun w' hb => hT.up hb hT.pos
  have HS : Hid _ := hsum_fun key lk (by omega)
  have MP_ : Hid _ := marks_fun key p lk (by omega) lp (by omega)
  have LS : Hid ((markS key p).length = 32) := markK_length _ _
  have ZP : Hid (p.length ≤ 140737488351232) := zp
  clear h0 h1 lp lk
  by_cases h64 : 64 < key.length
  · have i64 : (64 : Int) < (key.length : Int) := by omega
    have MD : Hid _ := marks_fun (sumS key) p (sumS_low _) (by rw [sumS_length]; decide) LP.out (by omega)
    rw [mark_long h64] at MD
    have SL : Hid _ := sumS_length key
    have ID : Hid _ := info_d32.trans (congrArg some (show 32 = ((sumS key).map b8).length by rw [List.length_map, sumS_length]))
    generalize markS key p = mk at *
    generalize hm : key.length = m at *
    go_enter Tryd.func5, Tryd.ntmps5
    go_wp2_with fail
    refine (macs_fun w hT).mono ?_
    clear hT
    rintro e w1 ⟨rfl, hb1⟩
    have D1 : Hid (Below w.heap.size w w1) := hb1
    clear hb1
    go_wp2_with fail
    refine (HS.out _ w1 (HK.out.up D1.out (Nat.le_refl _)) (TU.out _ D1.out)).mono ?_
    rintro e w2 ⟨rfl, hb2⟩
    have D2 : Hid (Below w.heap.size w w2) := D1.out.trans (hb2.mono D1.out.size)
    clear hb2 D1 HS
    have T1 : Hid (∀ C t, C.size = 32 → World.there (w2.alloc (.cells C t)) w2.heap.size 0 ((sumS key).map b8).length) := fun C t hC => (al1 w2 C t).1.there (by rw [List.length_map, SL.out, Array.length_toList, hC]; omega)
    go_wp2_with (refine wp_store_eq rfl 32 (.tmp 7) (.tmp 15) rfl w2.heap.size 0 ((sumS key).map b8) rfl rfl (T1.out _ _ rfl) ID.out (one_b8 _) ?_)
    intro w3 hw3
    obtain ⟨b3, h3⟩ : Blk w3 w2.heap.size ((sumS key).map b8) ∧ Below w2.heap.size w2 w3 := by
      rw [hw3.out]
      exact alst w2 _ _ _ (by rw [List.length_map, SL.out]; rfl)
    have D3 : Hid (Below w.heap.size w w3) := D2.out.trans (h3.mono D2.out.size)
    have A2 : Hid (Blk w3 w2.heap.size ((sumS key).map b8)) := b3
    clear hw3 b3 h3 D2 T1
    generalize w2.heap.size = g at *
    have SD : Hid (∀ W, _) := fun W => slice_all u_d32 info_u8 (by decide) g 0 W
    go_wp2_with fail
    refine wp_region_monoE [MP.eq (.slice av m cv), MP.eq (v1), MP.eq (vB mk), MP.eq (.slice (some ⟨g, 0, none⟩) 32 32), MP.eq (v1), MP.eq (vB mk), MP.eq (.bool true), MP.eq (.bool true)] (by kernel_rfl) (by kernel_rfl) rfl ?_
    apply Exists.intro
    refine ⟨fun vals => ?_, ?_, fun vals4 w4 hb4 hF => ?_⟩
    · simp only [putsV, dstL, List.length_cons, List.length_nil, Nat.zero_add, Nat.reduceAdd, List.getElem?_cons_zero, List.getElem?_cons_succ, Option.bind_some, Act.put, List.setIfInBounds_toArray, List.set_cons_succ, List.set_cons_zero]
      rfl
    · refine ⟨?_, ?_, ?_, ?_, ?_, ?_, ?_, ?_, trivial⟩
      · intro vals W hW hw hd
        try simp [Region.binds] at hd
        refine ⟨by first | rfl | simp [Region.wanted, yielded, hd], ?_⟩
        simp [go_sem, hd]
        exact Below.refl _ _
      · intro vals W hW hw hd
        try simp [Region.binds] at hd
        refine ⟨by first | rfl | simp [Region.wanted, yielded, hd], ?_⟩
        simp [go_sem, hd]
        exact Below.refl _ _
      · intro vals W hW hw hd
        try simp [Region.binds] at hd
        refine ⟨by first | rfl | simp [Region.wanted, yielded, hd], ?_⟩
        simp [go_sem, hd]
        exact (MP_.out _ v1 W (HK.out.up (D3.out.trans (hW.out.mono D3.out.size)) (Nat.le_refl _)) (HP.out.up (D3.out.trans (hW.out.mono D3.out.size)) (Nat.le_refl _)) (TU.out _ (D3.out.trans (hW.out.mono D3.out.size)))).mono fun e w' ⟨he, hb⟩ => ⟨_, he, rfl, hb⟩
      · intro vals W hW hw hd
        try simp [Region.binds] at hd
        refine ⟨by first | rfl | simp [Region.wanted, yielded, hd], ?_⟩
        simp [go_sem, hd, SD.out W]
        exact Below.refl _ _
      · intro vals W hW hw hd
        try simp [Region.binds] at hd
        refine ⟨by first | rfl | simp [Region.wanted, yielded, hd], ?_⟩
        simp [go_sem, hd]
        exact Below.refl _ _
      · intro vals W hW hw hd
        try simp [Region.binds] at hd
        refine ⟨by first | rfl | simp [Region.wanted, yielded, hd], ?_⟩
        simp [go_sem, hd]
        exact (MD.out _ v1 W (By.of_blk (A2.out.up hW.out A2.out.lt) SL.out) (HP.out.up (D3.out.trans (hW.out.mono D3.out.size)) (Nat.le_refl _)) (TU.out _ (D3.out.trans (hW.out.mono D3.out.size)))).mono fun e w' ⟨he, hb⟩ => ⟨_, he, rfl, hb⟩
      · intro vals W hW hw hd
        try simp [Region.binds] at hd
        refine ⟨by first | rfl | simp [Region.wanted, yielded, hd], ?_⟩
        simp [go_sem, hd, eql_self _ LS.out]
        exact Below.refl _ _
      · intro vals W hW hw hd
        try simp [Region.binds] at hd
        refine ⟨by first | rfl | simp [Region.wanted, yielded, hd], ?_⟩
        simp [go_sem, hd]
        exact Below.refl _ _
    obtain ⟨f0, f1, f2, f3, f4, f5, f6, f7, _⟩ := hF
    simp only [MP.eq_p] at f0 f1 f2 f3 f4 f5 f6 f7
    have D4 : Hid (Below w.heap.size w w4) := D3.out.trans (hb4.out.mono D3.out.size)
    rw [f7]
    go_wp2_with fail
    go_ret
    exact ⟨rfl, D4.out⟩
  · have i64 : ¬ (64 : Int) < (key.length : Int) := by omega
    by_cases hr : x < 0 ∨ 64 - (key.length : Int) < x
    · have w0 : IntKind.i64.wrap (64 - (key.length : Int)) = 64 - (key.length : Int) := by rw [IntKind.wrap_i64]; omega
      clear HS MP_ LS LK LP
      generalize hm : key.length = m at *
      go_enter Tryd.func5, Tryd.ntmps5
      go_wp2_with fail
      refine (macs_fun w hT).mono ?_
      clear hT
      rintro e w1 ⟨rfl, hb1⟩
      have D1 : Hid (Below w.heap.size w w1) := hb1
      clear hb1
      by_cases hx0 : x < 0
      · go_wp2_with fail
        go_ret
        exact ⟨rfl, D1.out⟩
      · have hx1 : 64 - (m : Int) < x := by omega
        go_wp2_with fail
        go_ret
        exact ⟨rfl, D1.out⟩
    · obtain ⟨n, rfl⟩ := Int.eq_ofNat_of_zero_le (show 0 ≤ x by omega)
      have hn : key.length + n ≤ 64 := by omega
      have j0 : ¬ (n : Int) < 0 := by omega
      have j1 : ¬ 64 - (key.length : Int) < (n : Int) := by omega
      have w0 : IntKind.i64.wrap (64 - (key.length : Int)) = 64 - (key.length : Int) := by rw [IntKind.wrap_i64]; omega
      have MD : Hid _ := marks_fun (key ++ List.replicate n 0) p (low_app LK.out (low_rep n)) (by rw [List.length_append, List.length_replicate]; omega) LP.out (by omega)
      rw [mark_noughts hn] at MD
      generalize markS key p = mk at *
      generalize hm : key.length = m at *
      have HN : Hid (m + n ≤ 64) := hn
      have HM : Hid (key.length = m) := hm
      clear hr hn hx zk HS
      go_enter Tryd.func5, Tryd.ntmps5
      go_wp2_with fail
      refine (macs_fun w hT).mono ?_
      clear hT
      rintro e w1 ⟨rfl, hb1⟩
      have D1 : Hid (Below w.heap.size w w1) := hb1
      clear hb1
      have K1 : Hid (By w1 (.slice av m cv) key) := HK.out.up D1.out (Nat.le_refl _)
      go_wp2_with (refine wp_appB rfl (.tmp 32) (.tmp 33) rfl w1.heap.size _ _ [] key w1 rfl (Ob.nil _ _) (Below.refl _ _) rfl K1.out (by rw [HM.out]; have := HN.out; simp; omega) (Nat.le_refl _) ?_)
      intro v5 w3 ob3 _ hb3
      have O3 : Hid (Ob w3 w1.heap.size v5 key) := ob3
      have B3 : Hid (Below w1.heap.size w1 w3) := hb3
      clear ob3 hb3
      go_wp2_with (refine wp_appZ rfl (.tmp 34) (.tmp 35) rfl w1.heap.size v5 key n (n : Int) rfl O3.out rfl rfl (by rw [HM.out]; have := HN.out; omega) B3.out.size ?_)
      intro v6 w4 ob4 hb4
      have Y4 : Hid (By w4 v6 (key ++ List.replicate n 0)) := ob4.by
      have D4 : Hid (Below w.heap.size w w4) := D1.out.trans ((B3.out.trans hb4).mono D1.out.size)
      clear ob4 hb4 O3 B3 K1
      go_wp2_with fail
      refine (MP_.out _ v1 w4 (HK.out.up D4.out (Nat.le_refl _)) (HP.out.up D4.out (Nat.le_refl _)) (TU.out _ D4.out)).mono ?_
      rintro e w5 ⟨rfl, hb5⟩
      have D5 : Hid (Below w.heap.size w w5) := D4.out.trans (hb5.mono D4.out.size)
      have Y5 : Hid (By w5 v6 (key ++ List.replicate n 0)) := Y4.out.up hb5 (Nat.le_refl _)
      clear hb5 Y4 D4
      go_wp2_with fail
      refine (MD.out v6 v1 w5 Y5.out (HP.out.up D5.out (Nat.le_refl _)) (TU.out _ D5.out)).mono ?_
      rintro e w6 ⟨rfl, hb6⟩
      have D6 : Hid (Below w.heap.size w w6) := D5.out.trans (hb6.mono D5.out.size)
      clear hb6 D5 Y5
      go_wp2_with (refine wp_eqD rfl (.tmp 39) (.tmp 42) _ rfl mk LS.out rfl rfl ?_)
      go_ret
      exact ⟨rfl, D6.out⟩
set_option maxRecDepth 100000 in
theorem macKeys_met (os : Os) : laidMet Tryd.prog Rows.macKeysRow.laid ((World.doorLaid Tryd.prog 14 os).forCall (fun _ _ => 0) ⟨#[], #[.slice none 0 0, .slice none 0 0, .int .i64 0], []⟩).memory := laidMet_of_run' 8 (by kernel_rfl) (by kernel_rfl)
set_option maxRecDepth 100000 in
theorem macKeys_reads (os : Os) {H : Type} (enc : TypeId × Value → H) : ∃ places, DataW.whole enc Tryd.prog ((World.doorLaid Tryd.prog 14 os).forCall (fun _ _ => 0) ⟨#[], #[.slice none 0 0, .slice none 0 0, .int .i64 0], []⟩).memory Tryd.f5.params.toList Rows.macKeysSpec.vars false #[.slice none 0 0, .slice none 0 0, .int .i64 0].toList 8 = some ([.nil, .nil, .lit (.int .i64 0)], [], places) := ⟨[], by kernel_rfl⟩
set_option maxRecDepth 100000 in
theorem macKeys_lifted (os : Os) (started : os.Started) (H : Type) (enc : TypeId × Value → H) (F : Stop.Interp) :
    ReturnsInHanded {} Tryd.checked os 5 .any ((OpenSpec.ofChange Rows.macKeysSpec).preRow enc Tryd.prog Tryd.f5 Rows.macKeysRow.domain false Rows.macKeysRow.laid) (((OpenSpec.ofChange Rows.macKeysSpec).at F).post enc Tryd.prog Tryd.f5 false true false false) := by
  obtain ⟨places, hx⟩ := macKeys_reads os enc
  refine returnsInHanded_of_row (C := Tryd.checked) (s := (OpenSpec.ofChange Rows.macKeysSpec)) Tryd.own started (by kernel_rfl) Tryd.func5
    (witness_row_at (enc := enc) (C := Tryd.checked) false (World.doorLaid Tryd.prog 14 os) #[.slice none 0 0, .slice none 0 0, .int .i64 0] rfl (by kernel_rfl) (by kernel_rfl) (by kernel_rfl)
      (OpenSpec.preRow_of_cond 8 hx (by kernel_rfl) (fun k hk => by cases hk) (by kernel_rfl) (macKeys_met os))) ?_
  intro W base args ds gs before hval0 hW _ hcond hsz0 hL _ _
  have hval : ∀ (j : Nat) t v, Tryd.f5.params[j]? = some t → args[j]? = some v → Value.okWide Tryd.prog W .any base t v := hval0
  have hsz : (DataW.weightsEach Tryd.prog (Tryd.f5.params.toList ++ Rows.macKeysSpec.plain.varTypes Tryd.prog) (ds ++ gs)).all (· ≤ reachBytes) = true := hsz0
  have hW' := hW
  obtain ⟨p, q, hA0, hV, rfl, hfz, hnd⟩ := hW
  have hA : DataW.TrodAll enc Tryd.prog W 0 (fun _ => true) true Tryd.f5.params.toList args.toList ds p := hA0
  rw [Tryd.params5] at hA hval hsz
  obtain ⟨v0, v1, v2, d0, d1, d2, p0, p1, p2, rfl, rfl, rfl, h0, h1, h2⟩ := trodAll_three hA
  obtain ⟨rfl, rfl⟩ := trodVars_none hV
  simp only [List.append_nil] at hW'
  have hlt : ∀ x ∈ p0 ++ p1 ++ p2, x.block < W.heap.size := fun x hx => by simpa using hW'.lt x (by simpa using hx)
  have hk0 : ∀ W' : World, Below W.heap.size W W' → DataW.Trod enc Tryd.prog W' 0 (fun b => decide (b < W.heap.size)) true 22 v0 d0 p0 := fun W' hn => Below.trod Tryd.laidOut (by kernel_rfl) (of_decide_eq_true (by kernel_rfl)) h0 hn (fun x hx => hlt x (by simp [hx]))
  obtain ⟨a0, n0, c0, rfl⟩ := okWide_slice Tryd.uBytes (hval 0 22 v0 rfl rfl)
  obtain ⟨fuel0, hf0⟩ := h0
  obtain ⟨l0, low0, hI0, len0⟩ := by_of_trod (u := .slice a0 n0 c0) (by simpa [Value.cells] using hf0)
  have z0 : l0.length ≤ 140737488351232 := by
    obtain ⟨a', c', e, _⟩ := hI0
    have en : n0 = l0.length := by cases e; rfl
    rw [← en]
    rcases len_of_trod (by simpa [Value.cells] using hf0) with ⟨_, h⟩ | ⟨es, sp, hd, h⟩
    · omega
    · simp only at hd
      subst hd
      have := sized_slice hsz (j := 0) (t := 22) (e := 5) rfl rfl Tryd.uBytes
      rw [Tryd.bytesU8] at this
      simp only [reachBytes] at this
      omega
  have hk1 : ∀ W' : World, Below W.heap.size W W' → DataW.Trod enc Tryd.prog W' 0 (fun b => decide (b < W.heap.size)) true 22 v1 d1 p1 := fun W' hn => Below.trod Tryd.laidOut (by kernel_rfl) (of_decide_eq_true (by kernel_rfl)) h1 hn (fun x hx => hlt x (by simp [hx]))
  obtain ⟨a1, n1, c1, rfl⟩ := okWide_slice Tryd.uBytes (hval 1 22 v1 rfl rfl)
  obtain ⟨fuel1, hf1⟩ := h1
  obtain ⟨l1, low1, hI1, len1⟩ := by_of_trod (u := .slice a1 n1 c1) (by simpa [Value.cells] using hf1)
  have z1 : l1.length ≤ 140737488351232 := by
    obtain ⟨a', c', e, _⟩ := hI1
    have en : n1 = l1.length := by cases e; rfl
    rw [← en]
    rcases len_of_trod (by simpa [Value.cells] using hf1) with ⟨_, h⟩ | ⟨es, sp, hd, h⟩
    · omega
    · simp only at hd
      subst hd
      have := sized_slice hsz (j := 1) (t := 22) (e := 5) rfl rfl Tryd.uBytes
      rw [Tryd.bytesU8] at this
      simp only [reachBytes] at this
      omega
  obtain ⟨x2, rfl, rfl, rfl, w2⟩ := open_int uInt_ (hval 2 3 v2 rfl rfl) h2
  refine (macKeys_law _ l0 low0 z0 _ l1 low1 z1 x2 (int_of_wf w2) W hI0 hI1 (ktab_one hL)).mono fun e W' ⟨he, hg⟩ => ?_
  subst he
  exact ⟨_, rfl, _, _, _, [], _, [], hW', trodAll_mk1 (shut_bool Tryd.underlying4 _), trodAll_mk3 (hk0 _ hg) (hk1 _ hg) (shut_int uInt_ w2), rfl, hg.frame _, fun h => by cases h⟩

theorem macKeys_holds : Rows.MacKeysSaid :=
  OpenClaim.holds_of_cond 5 Tryd.f5 rfl rfl rfl rfl rfl rfl rfl ⟨rfl, rfl, rfl, rfl, rfl⟩ rfl rfl rfl rfl rfl (by kernel_rfl) Tryd.func5 (by kernel_rfl)
    (of_decide_eq_true (by kernel_rfl)) (by unfold Func.isWrapper; first | (rw [if_pos (by decide +kernel)]; kernel_rfl) | (rw [if_neg (by decide +kernel)]; exact ⟨rfl, rfl⟩))
    (fun os started H enc _ F => by rw [OpenClaim.pre_eq_preRow]; exact macKeys_lifted os started H enc F)

theorem macKeys_card : Rows.MacKeysCardSaid :=
  Claim7.holds_tied_plain_at .later [] _ _ _ _ macKeys_holds (fun _ h => by cases h) (by kernel_rfl) (fun _ h => by cases h) macKeys_row_tie rfl ⟨rfl, rfl⟩ (by kernel_rfl) rfl
    (fun f fn hf hfn => by
      obtain rfl : f = 5 := Option.some.inj ((show Tryd.prog.funcNamed "sealring/sealringkeep.MacKeys" = some 5 by kernel_rfl).symm.trans hf) |>.symm
      obtain rfl : fn = Tryd.f5 := (Option.some.inj (Tryd.func5.symm.trans hfn)).symm
      exact ⟨by kernel_rfl, fun j t ht => by
        rw [Tryd.params5] at ht
        have hm : t ∈ [22, 22, 3] := by simpa using Array.mem_of_getElem? ht
        have hall : ([22, 22, 3].all fun u => !Tryd.prog.wantsStandIn u) = true := by kernel_rfl
        exact (show Tryd.prog.wantsStandIn t = false by simpa using List.all_eq_true.1 hall t hm)⟩)
    (by kernel_rfl)
#print axioms macKeys_card
end Go.Proofs.YtfahnkcbjpknnaaDoor
