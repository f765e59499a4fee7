/- TreeHalves returns true for every two lists of leaves and every n. -/
import Derived.Test.YtmpniingbioggaaDoorTTrees
import Derived.Test.YtmpniingbioggaaDoorTArgs
import Derived.Test.YtmpniingbioggaaDoorTOpen
import Derived.Test.YtmpniingbioggaaDoorTApp
namespace Go.Proofs.YtmpniingbioggaaDoor
open Go.RowKit
open Go.ChangeShapes Go.WideShapes Go.ChangeAt
set_option linter.unusedSimpArgs false
theorem rootS_halves {l m : List (List Nat)} {j : Nat} (hl : l.length = 2 ^ j) (hm : m.length ≤ 2 ^ j) (hp : 0 < m.length) : nodeS (rootS l) (rootS m) = rootS (l ++ m) := by
  have := T.top_split nodeS (sumS []) (j := j) (l := l.map leafS) (m := m.map leafS) (by rw [List.length_map]; exact hl) (by rw [List.length_map]; exact hm) (by rw [List.length_map]; exact hp)
  rw [← List.map_append] at this
  exact this.symm
set_option maxRecDepth 20000 in
set_option maxHeartbeats 4000000 in
theorem treeHalves_law (v0 : Value) (ls : List (List Nat)) (low0 : ∀ p ∈ ls, (∀ y ∈ p, y < 256) ∧ p.length ≤ 140737488351232) (_ : ls.length ≤ 140737488351232) (v1 : Value) (ms : List (List Nat)) (low1 : ∀ p ∈ ms, (∀ y ∈ p, y < 256) ∧ p.length ≤ 140737488351232) (z1 : ms.length ≤ 140737488351232) (i : Int) (_ : -9223372036854775808 ≤ i ∧ i ≤ 9223372036854775807) (w : World) (h0 : Sb w v0 ls) (h1 : Sb w v1 ms) (hK : KTab w) :
    Calls Tryd.prog 8 #[v0, v1, .int .i64 i] w fun e w' => e = .returned (.bool true) ∧ Below w.heap.size w w' := by
  obtain ⟨a0, k0, rfl, hc0, r0⟩ := id h0
  obtain ⟨a1, k1, rfl, hc1, r1⟩ := id h1
  have TR : Hid _ := trees_fun w hK
  by_cases c1 : i < 0
  · have c1b := decide_eq_true c1
    clear h0 h1 hK low0 low1 z1 r0 r1 hc0 hc1
    generalize ls.length = m0 at *
    generalize ms.length = m1 at *
    go_enter Tryd.func8, Tryd.ntmps8
    go_wp2_with fail
    refine Calls.mono TR.out ?_
    rintro e w2 ⟨rfl, hb2⟩
    have D2 : Hid (Below w.heap.size w w2) := hb2
    clear hb2
    go_wp2_with fail
    go_ret
    exact ⟨rfl, D2.out⟩
  · have c1b := decide_eq_false c1
    by_cases c2 : 5 < i
    · have c2b := decide_eq_true c2
      clear h0 h1 hK low0 low1 z1 r0 r1 hc0 hc1
      generalize ls.length = m0 at *
      generalize ms.length = m1 at *
      go_enter Tryd.func8, Tryd.ntmps8
      go_wp2_with fail
      refine Calls.mono TR.out ?_
      rintro e w2 ⟨rfl, hb2⟩
      have D2 : Hid (Below w.heap.size w w2) := hb2
      clear hb2
      go_wp2_with fail
      go_ret
      exact ⟨rfl, D2.out⟩
    · have c2b := decide_eq_false c2
      obtain ⟨j, rfl⟩ := Int.eq_ofNat_of_zero_le (show 0 ≤ i by omega)
      have pj : 2 ^ j ≤ 32 := Nat.pow_le_pow_right (n := 2) (by decide) (show j ≤ 5 by omega)
      have p0 : 0 < 2 ^ j := Nat.two_pow_pos j
      obtain ⟨P, hP⟩ : ∃ P, P = 2 ^ j := ⟨_, rfl⟩
      have hw : wrap64 ((2 : Int) ^ j) = (P : Int) := by
        rw [show ((2 : Int) ^ j) = ((2 ^ j : Nat) : Int) by simp, ← hP]
        rw [← hP] at pj
        unfold wrap64
        omega
      rw [← hP] at pj p0
      by_cases c3 : (ls.length : Int) < (P : Int)
      · have c3b := decide_eq_true c3
        clear hP
        clear h0 h1 hK low0 low1 z1 r0 r1 hc0 hc1
        generalize ls.length = m0 at *
        generalize ms.length = m1 at *
        go_enter Tryd.func8, Tryd.ntmps8
        go_wp2_with fail
        refine Calls.mono TR.out ?_
        rintro e w2 ⟨rfl, hb2⟩
        have D2 : Hid (Below w.heap.size w w2) := hb2
        clear hb2
        go_wp2_with fail
        go_ret
        exact ⟨rfl, D2.out⟩
      · have c3b := decide_eq_false c3
        by_cases c4 : (ms.length : Int) = 0
        · have c4b : ((ms.length : Int) == 0) = true := by simpa using c4
          clear hP
          clear h0 h1 hK low0 low1 z1 r0 r1 hc0 hc1
          generalize ls.length = m0 at *
          generalize ms.length = m1 at *
          go_enter Tryd.func8, Tryd.ntmps8
          go_wp2_with fail
          refine Calls.mono TR.out ?_
          rintro e w2 ⟨rfl, hb2⟩
          have D2 : Hid (Below w.heap.size w w2) := hb2
          clear hb2
          go_wp2_with fail
          go_ret
          exact ⟨rfl, D2.out⟩
        · have c4b : ((ms.length : Int) == 0) = false := by simpa using c4
          by_cases c5 : (P : Int) < (ms.length : Int)
          · have c5b := decide_eq_true c5
            clear hP
            clear h0 h1 hK low0 low1 z1 r0 r1 hc0 hc1
            generalize ls.length = m0 at *
            generalize ms.length = m1 at *
            go_enter Tryd.func8, Tryd.ntmps8
            go_wp2_with fail
            refine Calls.mono TR.out ?_
            rintro e w2 ⟨rfl, hb2⟩
            have D2 : Hid (Below w.heap.size w w2) := hb2
            clear hb2
            go_wp2_with fail
            go_ret
            exact ⟨rfl, D2.out⟩
          · have c5b := decide_eq_false c5
            have lt : (ls.take P).length = P := by rw [List.length_take]; omega
            have l0 := (lowL.of low0).take P
            have l1 := lowL.of low1
            have RA : Hid _ := troot_fun (ls.take P ++ ms).length (ls.take P ++ ms) (Nat.le_refl _) (fun p hp => (List.mem_append.1 hp).elim (l0 p) (l1 p)) (by rw [List.length_append]; omega)
            have RL : Hid _ := troot_fun (ls.take P).length (ls.take P) (Nat.le_refl _) l0 (by omega)
            have RM : Hid _ := troot_fun ms.length ms (Nat.le_refl _) l1 (by omega) (.slice a1 ms.length k1)
            have HS := rootS_halves (l := ls.take P) (m := ms) (j := j) (by rw [lt, hP]) (by rw [← hP]; omega) (by omega)
            have ND : Hid _ := tnode_fun (rootS (ls.take P)) (rootS ms) (rootS_low _).1 (rootS_low _).1 (rootS_low _).2 (rootS_low _).2
            rw [HS] at ND
            have LA : Hid ((rootS (ls.take P ++ ms)).length = 32) := rootS_length _
            have H0 : Hid (Sb w (.slice a0 ls.length k0) ls) := h0
            have H1 : Hid (Sb w (.slice a1 ms.length k1) ms) := h1
            have KU : Hid (∀ w', Below w.heap.size w w' → KTab w') := fun w' hb => hK.up hb hK.pos
            have LT : Hid ((ls.take P).length = P) := lt
            have HP : Hid (P ≤ ls.length) := (by omega : P ≤ ls.length)
            have QM : Hid (0 < ms.length ∧ ms.length ≤ 32) := (by omega : 0 < ms.length ∧ ms.length ≤ 32)
            have QP : Hid (0 < P ∧ P ≤ 32) := ⟨p0, pj⟩
            clear h0 h1 hK low0 low1 z1 r0 r1 hc0 hc1 hP l0 l1 HS lt
            generalize rootS (ls.take P ++ ms) = ra at *
            generalize rootS (ls.take P) = rl at *
            generalize rootS ms = rm at *
            generalize hm0 : ls.length = m0 at *
            generalize hm1 : ms.length = m1 at *
            have HM0 : Hid (m0 = ls.length) := hm0.symm
            have HM1 : Hid (m1 = ms.length) := hm1.symm
            clear hm0 hm1
            go_enter Tryd.func8, Tryd.ntmps8
            go_wp2_with fail
            refine Calls.mono TR.out ?_
            rintro e w2 ⟨rfl, hb2⟩
            have D2 : Hid (Below w.heap.size w w2) := hb2
            clear hb2 TR
            go_wp2_with (refine wp_frontS rfl (.tmp 35) (.tmp 37) rfl a0 m0 k0 P .i64 _ ls rfl HM0.out rfl (by first | rfl | exact hw) (by rw [← HM0.out]; exact HP.out) w H0.out ?_)
            intro v5 s5
            have S5 : Hid (Sb w v5 (ls.take P)) := s5
            obtain ⟨b5, o5, c5, us5, e5, V5'⟩ := (s5.up D2.out (Nat.le_refl _)).vals (by rw [LT.out]; exact QP.out.1)
            have V5 : Hid (Vb w2 b5 o5 us5 (ls.take P)) := V5'
            rw [LT.out] at e5
            subst e5
            obtain ⟨b1, o1, c1', us1, e1, V1'⟩ := (H1.out.up D2.out (Nat.le_refl _)).vals (by rw [← HM1.out]; exact QM.out.1)
            have V1 : Hid (Vb w2 b1 o1 us1 ms) := V1'
            rw [← HM1.out] at e1
            injection e1 with e1a e1b e1c
            subst e1a e1c
            have L5 : Hid (us5.length = P) := V5'.len.trans LT.out
            have L1 : Hid (us1.length = m1) := V1'.len.trans HM1.out.symm
            clear s5 V5' V1'
            go_wp2_with (refine wp_appV rfl (.tmp 39) (.tmp 40) rfl w2.heap.size (.slice none 0 0) [] rfl (World.ownsRow_nil _ _ _ _) b5 o5 P c5 us5 (ls.take P) rfl LT.out.symm V5.out (by rw [L5.out]; have := QP.out; simp; omega) (Nat.le_refl _) ?_)
            intro v6 w6 ow6 g6
            have B6 : Hid (Below w2.heap.size w2 w6) := Below.grown (Below.refl _ _) g6 (Nat.le_refl _) (fun k hk => by cases hk)
            have O6 : Hid _ := ow6
            have V6 : Hid (Vb w6 b1 o1 us1 ms) := V1.out.up B6.out (Nat.le_refl _)
            clear ow6 g6
            go_wp2_with (refine wp_appV rfl (.tmp 41) (.tmp 42) rfl w2.heap.size v6 us5 rfl O6.out b1 o1 m1 _ us1 ms rfl HM1.out V6.out (by rw [L5.out, L1.out]; have := QP.out; have := QM.out; omega) B6.out.size ?_)
            intro v7 w7 ow7 g7
            rw [← List.length_append] at ow7
            have B7 : Hid (Below w2.heap.size w2 w7) := Below.grown B6.out g7 B6.out.size (fun k hk => (World.ownsRow.lt O6.out k hk).1)
            have D7 : Hid (Below w.heap.size w w7) := D2.out.trans (B7.out.mono D2.out.size)
            have S7 : Hid (Sb w7 v7 (ls.take P ++ ms)) := Sb.of_own ow7 (by rw [List.length_append, List.length_append, L5.out, L1.out, LT.out, HM1.out]) (hold_app V5.out.len (V5.out.up B7.out (Nat.le_refl _)).hold (V1.out.up B7.out (Nat.le_refl _)).hold) (by rw [List.length_append, LT.out]; have := QP.out; omega)
            clear ow7 g7 O6 V6 B6 B7 V5 V1
            go_wp2_with fail
            refine (RA.out v7 w7 S7.out (KU.out _ D7.out)).mono ?_
            rintro e w8 ⟨rfl, hb8⟩
            have D8 : Hid (Below w.heap.size w w8) := D7.out.trans (hb8.mono D7.out.size)
            clear hb8 D7 S7
            go_wp2_with fail
            refine (RL.out _ w8 (S5.out.up D8.out (Nat.le_refl _)) (KU.out _ D8.out)).mono ?_
            rintro e w9 ⟨rfl, hb9⟩
            have D9 : Hid (Below w.heap.size w w9) := D8.out.trans (hb9.mono D8.out.size)
            clear hb9 D8
            go_wp2_with fail
            refine (RM.out w9 (H1.out.up D9.out (Nat.le_refl _)) (KU.out _ D9.out)).mono ?_
            rintro e wa ⟨rfl, hba⟩
            have Da : Hid (Below w.heap.size w wa) := D9.out.trans (hba.mono D9.out.size)
            clear hba D9
            go_wp2_with fail
            refine (ND.out wa (KU.out _ Da.out)).mono ?_
            rintro e wb ⟨rfl, hbb⟩
            have Db : Hid (Below w.heap.size w wb) := Da.out.trans (hbb.mono Da.out.size)
            clear hbb Da
            go_wp2_with (refine wp_eqD rfl (.tmp 45) (.tmp 50) _ rfl ra LA.out rfl rfl ?_)
            go_ret
            exact ⟨rfl, Db.out⟩
set_option maxRecDepth 100000 in
theorem treeHalves_met (os : Os) : laidMet Tryd.prog Rows.treeHalvesRow.laid ((World.doorLaid Tryd.prog 14 os).forCall (fun _ _ => 0) ⟨#[], #[.slice none 0 0, .slice none 0 0, .int .i64 0], []⟩).memory := laidMet_of_run' 8 (by kernel_rfl) (by kernel_rfl)
set_option maxRecDepth 100000 in
theorem treeHalves_reads (os : Os) {H : Type} (enc : TypeId × Value → H) : ∃ places, DataW.whole enc Tryd.prog ((World.doorLaid Tryd.prog 14 os).forCall (fun _ _ => 0) ⟨#[], #[.slice none 0 0, .slice none 0 0, .int .i64 0], []⟩).memory Tryd.f8.params.toList Rows.treeHalvesSpec.vars false #[.slice none 0 0, .slice none 0 0, .int .i64 0].toList 8 = some ([.nil, .nil, .lit (.int .i64 0)], [], places) := ⟨[], by kernel_rfl⟩
set_option maxRecDepth 100000 in
theorem treeHalves_lifted (os : Os) (started : os.Started) (H : Type) (enc : TypeId × Value → H) (F : Stop.Interp) :
    ReturnsInHanded {} Tryd.checked os 8 .any ((OpenSpec.ofChange Rows.treeHalvesSpec).preRow enc Tryd.prog Tryd.f8 Rows.treeHalvesRow.domain false Rows.treeHalvesRow.laid) (((OpenSpec.ofChange Rows.treeHalvesSpec).at F).post enc Tryd.prog Tryd.f8 false true false false) := by
  obtain ⟨places, hx⟩ := treeHalves_reads os enc
  refine returnsInHanded_of_row (C := Tryd.checked) (s := (OpenSpec.ofChange Rows.treeHalvesSpec)) Tryd.own started (by kernel_rfl) Tryd.func8
    (witness_row_at (enc := enc) (C := Tryd.checked) false (World.doorLaid Tryd.prog 14 os) #[.slice none 0 0, .slice none 0 0, .int .i64 0] rfl (by kernel_rfl) (by kernel_rfl) (by kernel_rfl)
      (OpenSpec.preRow_of_cond 8 hx (by kernel_rfl) (fun k hk => by cases hk) (by kernel_rfl) (treeHalves_met os))) ?_
  intro W base args ds gs before hval0 hW _ hcond hsz0 hL _ _
  have hval : ∀ (j : Nat) t v, Tryd.f8.params[j]? = some t → args[j]? = some v → Value.okWide Tryd.prog W .any base t v := hval0
  have hsz : (DataW.weightsEach Tryd.prog (Tryd.f8.params.toList ++ Rows.treeHalvesSpec.plain.varTypes Tryd.prog) (ds ++ gs)).all (· ≤ reachBytes) = true := hsz0
  have hW' := hW
  obtain ⟨p, q, hA0, hV, rfl, hfz, hnd⟩ := hW
  have hA : DataW.TrodAll enc Tryd.prog W 0 (fun _ => true) true Tryd.f8.params.toList args.toList ds p := hA0
  rw [Tryd.params8] at hA hval hsz
  obtain ⟨v0, v1, v2, d0, d1, d2, p0, p1, p2, rfl, rfl, rfl, h0, h1, h2⟩ := trodAll_three hA
  obtain ⟨rfl, rfl⟩ := trodVars_none hV
  simp only [List.append_nil] at hW'
  have hlt : ∀ x ∈ p0 ++ p1 ++ p2, x.block < W.heap.size := fun x hx => by simpa using hW'.lt x (by simpa using hx)
  have hk0 : ∀ W' : World, Below W.heap.size W W' → DataW.Trod enc Tryd.prog W' 0 (fun b => decide (b < W.heap.size)) true 22 v0 d0 p0 := fun W' hn => Below.trod Tryd.laidOut (by kernel_rfl) (of_decide_eq_true (by kernel_rfl)) h0 hn (fun x hx => hlt x (by simp [hx]))
  obtain ⟨a0, n0, c0, rfl⟩ := okWide_slice uBss (hval 0 22 v0 rfl rfl)
  obtain ⟨fuel0, hf0⟩ := h0
  obtain ⟨l0, low0, hI0, hx0⟩ := bss_open (u := .slice a0 n0 c0) (by simpa [Value.cells] using hf0) 140737488351232 (fun elems sp hd i es sp' he => by
    have hd' : d0 = .slice elems sp := hd
    subst hd'
    have := sized_inner hsz (j := 0) rfl rfl he
    simp only [reachBytes] at this
    omega)
  have z0 : l0.length ≤ 140737488351232 := by
    rcases hx0 with ⟨_, h⟩ | ⟨es, sp, hd, h⟩
    · rw [h]; exact Nat.zero_le _
    · simp only at hd
      subst hd
      have := sized_slice hsz (j := 0) (t := 22) (e := 23) rfl rfl uBss
      rw [bytesBytes] at this
      simp only [reachBytes] at this
      omega
  have hk1 : ∀ W' : World, Below W.heap.size W W' → DataW.Trod enc Tryd.prog W' 0 (fun b => decide (b < W.heap.size)) true 22 v1 d1 p1 := fun W' hn => Below.trod Tryd.laidOut (by kernel_rfl) (of_decide_eq_true (by kernel_rfl)) h1 hn (fun x hx => hlt x (by simp [hx]))
  obtain ⟨a1, n1, c1, rfl⟩ := okWide_slice uBss (hval 1 22 v1 rfl rfl)
  obtain ⟨fuel1, hf1⟩ := h1
  obtain ⟨l1, low1, hI1, hx1⟩ := bss_open (u := .slice a1 n1 c1) (by simpa [Value.cells] using hf1) 140737488351232 (fun elems sp hd i es sp' he => by
    have hd' : d1 = .slice elems sp := hd
    subst hd'
    have := sized_inner hsz (j := 1) rfl rfl he
    simp only [reachBytes] at this
    omega)
  have z1 : l1.length ≤ 140737488351232 := by
    rcases hx1 with ⟨_, h⟩ | ⟨es, sp, hd, h⟩
    · rw [h]; exact Nat.zero_le _
    · simp only at hd
      subst hd
      have := sized_slice hsz (j := 1) (t := 22) (e := 23) rfl rfl uBss
      rw [bytesBytes] at this
      simp only [reachBytes] at this
      omega
  obtain ⟨x2, rfl, rfl, rfl, w2⟩ := open_int uInt_ (hval 2 3 v2 rfl rfl) h2
  refine (treeHalves_law _ l0 low0 z0 _ l1 low1 z1 x2 (int_of_wf w2) W hI0 hI1 (ktab_one hL)).mono fun e W' ⟨he, hg⟩ => ?_
  subst he
  exact ⟨_, rfl, _, _, _, [], _, [], hW', trodAll_mk1 (shut_bool Tryd.underlying4 _), trodAll_mk3 (hk0 _ hg) (hk1 _ hg) (shut_int uInt_ w2), rfl, hg.frame _, fun h => by cases h⟩

theorem treeHalves_holds : Rows.TreeHalvesSaid :=
  OpenClaim.holds_of_cond 8 Tryd.f8 rfl rfl rfl rfl rfl rfl rfl ⟨rfl, rfl, rfl, rfl, rfl⟩ rfl rfl rfl rfl rfl (by kernel_rfl) Tryd.func8 (by kernel_rfl)
    (of_decide_eq_true (by kernel_rfl)) (by unfold Func.isWrapper; first | (rw [if_pos (by decide +kernel)]; kernel_rfl) | (rw [if_neg (by decide +kernel)]; exact ⟨rfl, rfl⟩))
    (fun os started H enc _ F => by rw [OpenClaim.pre_eq_preRow]; exact treeHalves_lifted os started H enc F)

theorem treeHalves_card : Rows.TreeHalvesCardSaid :=
  Claim7.holds_tied_plain_at .later [] _ _ _ _ treeHalves_holds (fun _ h => by cases h) (by kernel_rfl) (fun _ h => by cases h) treeHalves_row_tie rfl ⟨rfl, rfl⟩ (by kernel_rfl) rfl
    (fun f fn hf hfn => by
      obtain rfl : f = 8 := Option.some.inj ((show Tryd.prog.funcNamed "sealring/sealringkeep.TreeHalves" = some 8 by kernel_rfl).symm.trans hf) |>.symm
      obtain rfl : fn = Tryd.f8 := (Option.some.inj (Tryd.func8.symm.trans hfn)).symm
      exact ⟨by kernel_rfl, fun j t ht => by
        rw [Tryd.params8] at ht
        have hm : t ∈ [22, 22, 3] := by simpa using Array.mem_of_getElem? ht
        have hall : ([22, 22, 3].all fun u => !Tryd.prog.wantsStandIn u) = true := by kernel_rfl
        exact (show Tryd.prog.wantsStandIn t = false by simpa using List.all_eq_true.1 hall t hm)⟩)
    (by kernel_rfl)
#print axioms treeHalves_card
end Go.Proofs.YtmpniingbioggaaDoor
