/- TreeLogs returns true for all leaves. -/
import Derived.Test.YtmpniingbioggaaDoorTLogA
import Derived.Test.YtmpniingbioggaaDoorTEq
import Derived.Test.YtmpniingbioggaaDoorTArgs
import Derived.Test.YtmpniingbioggaaDoorTOpen
namespace Go.Proofs.YtmpniingbioggaaDoor
open Go.RowKit
open Go.ChangeShapes Go.WideShapes Go.ChangeAt
set_option linter.unusedSimpArgs false
attribute [local go_sem] YieldsP execOp
attribute [local simp] MP.eq_p
theorem take_snoc {ls : List (List Nat)} {i : Nat} (h : i < ls.length) : ls.take i ++ [ls.getD i []] = ls.take (i + 1) := by
  rw [List.take_add_one]
  congr 1
  simp [List.getD_eq_getElem?_getD, h]
def MP.ds (ds : List (List Nat)) : MP := ⟨fun v w => Ds w v ds, fun h hb => h.up hb (Nat.le_refl _)⟩
theorem peaksS_short {ls : List (List Nat)} (zl : ls.length ≤ 65536) : (peaksS ls).length ≤ 17 := by
  have := peaksS_len ls 17
  rw [peaksS_17 (by omega)] at this
  exact this
set_option maxRecDepth 20000 in
set_option maxHeartbeats 4000000 in
theorem treeLogs_law (v0 : Value) (ls : List (List Nat)) (low : ∀ p ∈ ls, (∀ y ∈ p, y < 256) ∧ p.length ≤ 140737488351232) (z0 : ls.length ≤ 140737488351232) (w : World) (h0 : Sb w v0 ls) (hK : KTab w) (hR : RTab w) :
    Calls Tryd.prog 5 #[v0] w fun e w' => e = .returned (.bool true) ∧ Below w.heap.size w w' := by
  obtain ⟨av, cv, rfl, hc, h3⟩ := id h0
  by_cases c1 : (60 : Int) < (ls.length : Int)
  · clear h0 hK hR low z0 hc h3
    generalize ls.length = m at *
    go_enter Tryd.func5, Tryd.ntmps5
    go_wp2_with fail
    go_ret
    exact ⟨rfl, Below.refl _ _⟩
  · have lw := lowL.of low
    have H0 : Hid (Sb w (.slice av ls.length cv) ls) := h0
    have LW : Hid (lowL ls) := lw
    have KU : Hid (∀ w', Below w.heap.size w w' → KTab w') := fun w' hb => hK.up hb hK.pos
    have RU : Hid (∀ w', Below w.heap.size w w' → RTab w') := fun w' hb => hR.up hb hR.pos
    have K0 : Hid (0 < w.heap.size) := hK.pos
    have LZ : Hid (ls.length ≤ 60) := (by omega : ls.length ≤ 60)
    have H3 : Hid _ := h3
    obtain ⟨x0, x1⟩ := al1 w zL.toArray 38
    have G1 : Hid (LgAt (w.alloc (.cells zL.toArray 38)) w.heap.size []) := LgAt.zero
    have D1 : Hid (Below _ _ _) := x1
    have HN : Hid (∃ n, n = ls.length) := ⟨_, rfl⟩
    obtain ⟨n, hn⟩ := HN.out
    have HL : Hid (n = ls.length) := hn
    rw [← hn] at H0 LZ H3 c1 ⊢
    clear h0 hK hR low z0 hc h3 lw x0 x1 HN hn
    go_enter Tryd.func5, Tryd.ntmps5
    go_wp2_with (simp only [zero_log])
    generalize w.alloc (.cells zL.toArray 38) = w1 at *
    go_loopw [11] (fun i wr => ∃ j : Nat, j ≤ n ∧ i = .int .i64 (j : Int) ∧ Hid (LgAt wr w.heap.size (ls.take j)) ∧ Hid (Below w.heap.size w wr)) (fun i _ => n - (intOf i).toNat)
    case atStart => exact ⟨0, by omega, rfl, by rw [List.take_zero]; exact G1, D1⟩
    case round =>
      clear G1 D1
      obtain ⟨j, hj, rfl, lg, hb⟩ := hrel
      by_cases hlt : j < n
      · have i1 : (j : Int) < (n : Int) := by omega
        have i0 : (0 : Int) ≤ (j : Int) := by omega
        have hjl : j < ls.length := by rw [← HL.out]; exact hlt
        have tl : (ls.take j).length = j := by rw [List.length_take]; omega
        obtain ⟨b, o, rfl, hr⟩ := H3.out (by omega)
        obtain ⟨u, hu, hy⟩ := hr j hlt
        have cu := (hb.out.cell (p := ⟨b, o + j, none⟩) (lt_of_cellB hu)).trans hu
        have lo := LW.out (ls.getD j []) (by rw [List.getD_eq_getElem?_getD, List.getElem?_eq_getElem hjl]; exact List.getElem_mem hjl)
        have z60 : (ls.take j).length ≤ 60 := by rw [tl]; have := LZ.out; omega
        have AD : Hid _ := fun W => add_fun w.heap.size K0.out (ls.take j) (by omega) (ls.getD j []) lo.1 lo.2 u W
        rw [take_snoc hjl] at AD
        have CE : Hid (∀ W, LgAt W w.heap.size (ls.take j) → Calls Tryd.prog 20 #[.pointer (some ⟨w.heap.size, 0, none⟩)] W fun e w' => e = .returned (.int .i64 (j : Int)) ∧ Below W.heap.size W w') := fun W hW => by
          have := len_fun w.heap.size (ls.take j).length W (lg_count hW (lgQ_low _ 0).ok (lgQ_length _ 0))
          rw [tl] at this
          exact this.mono fun e w' ⟨he, hw⟩ => ⟨he, by rw [hw]; exact Below.refl _ _⟩
        have LR : Hid _ := lroot_fun w.heap.size (ls.take j) (by omega)
        have RR : Hid _ := rroot_fun (ls.take j) (LW.out.take j) (by omega)
        have LP : Hid _ := peaks_fun w.heap.size (ls.take j) (by omega)
        have RP : Hid _ := rpeaks_fun (ls.take j) (LW.out.take j) (by omega)
        have EQ : Hid _ := equalD_fun (peaksS (ls.take j)) (peaksS_low _) (Nat.le_trans (peaksS_short (by omega)) (by decide))
        have RL : Hid ((rootS (ls.take j)).length = 32) := rootS_length _
        have HY : Hid (By w u (ls.getD j [])) := hy
        have LG : Hid (LgAt wr w.heap.size (ls.take j)) := lg
        have HJ : Hid (j ≤ ls.length) := Nat.le_of_lt hjl
        clear hr hu hy lo hjl lg tl z60
        generalize rootS (ls.take j) = rj at *
        generalize peaksS (ls.take j) = pj at *
        generalize ls.getD j [] = pu at *
        have XB : Hid (∀ W, Below wr.heap.size wr W → Below w.heap.size w W) := fun W hW => hb.out.trans (hW.mono hb.out.size)
        have GU : Hid (∀ W, Below wr.heap.size wr W → LgAt W w.heap.size (ls.take j)) := fun W hW => LG.out.up hW LG.out.lt
        have SU : Hid (∀ W, Below wr.heap.size wr W → Sb W (.slice (some ⟨b, o, none⟩) n cv) ls) := fun W hW => H0.out.up (XB.out W hW) (Nat.le_refl _)
        go_wp2_with fail
        refine wp_region_monoSE 22 [MP.eq (.int .i64 (j : Int)), MP.eq (.int .i64 (j : Int)), MP.eq (.bool false), MP.eq (.bool false), MP.eq (vB rj), MP.eq (.slice (some ⟨b, o, none⟩) n cv), MP.eq (.int .i64 (j : Int)), MP.sb (ls.take j), MP.eq (vB rj), MP.eq (.bool false), MP.eq (.bool false), MP.eq (.bool false), MP.ds pj, MP.eq (.slice (some ⟨b, o, none⟩) n cv), MP.eq (.int .i64 (j : Int)), MP.sb (ls.take j), MP.ds pj, MP.eq (.bool true), MP.eq (.bool false), MP.eq (.bool false), MP.eq (.bool false), MP.eq (u)] (by kernel_rfl) (by kernel_rfl) rfl (by decide) (by kernel_rfl) ?_
        apply Exists.intro
        refine ⟨fun vals => ?_, ?_, fun vals4 w4 hb4 hF hO => ?_⟩
        · simp only [putsV, dstL, List.length_cons, List.length_nil, Nat.zero_add, Nat.reduceAdd, List.getElem?_cons_zero, List.getElem?_cons_succ, Option.bind_some, Act.put, List.setIfInBounds_toArray, List.set_cons_succ, List.set_cons_zero]
          rfl
        · refine ⟨?_, ?_, ?_, ?_, ?_, ?_, ?_, ?_, ?_, ?_, ?_, ?_, ?_, ?_, ?_, ?_, ?_, ?_, ?_, ?_, ?_, ?_, trivial⟩
          · intro vals W hW hw hd
            try simp [Region.binds] at hd
            refine ⟨by first | rfl | simp [Region.wanted, yielded, hd], ?_⟩
            simp [go_sem, hd]
            exact (CE.out W (GU.out W hW.out)).mono fun e w' ⟨he, hb⟩ => ⟨_, he, rfl, hb⟩
          · intro vals W hW hw hd
            try simp [Region.binds] at hd
            refine ⟨by first | rfl | simp [Region.wanted, yielded, hd], ?_⟩
            simp [go_sem, hd]
            exact Below.refl _ _
          · intro vals W hW hw hd
            try simp [Region.binds] at hd
            refine ⟨by first | rfl | simp [Region.wanted, yielded, hd], ?_⟩
            simp [go_sem, hd]
            exact Below.refl _ _
          · intro vals W hW hw hd
            try simp [Region.binds] at hd
            refine ⟨by first | rfl | simp [Region.wanted, yielded, hd], ?_⟩
            simp [go_sem, hd]
            exact Below.refl _ _
          · intro vals W hW hw hd
            try simp [Region.binds] at hd
            refine ⟨by first | rfl | simp [Region.wanted, yielded, hd], ?_⟩
            simp [go_sem, hd]
            exact (LR.out W (GU.out W hW.out) (KU.out W (XB.out W hW.out))).mono fun e w' ⟨he, hb⟩ => ⟨_, he, rfl, hb⟩
          · intro vals W hW hw hd
            try simp [Region.binds] at hd
            refine ⟨by first | rfl | simp [Region.wanted, yielded, hd], ?_⟩
            simp [go_sem, hd]
            exact Below.refl _ _
          · intro vals W hW hw hd
            try simp [Region.binds] at hd
            refine ⟨by first | rfl | simp [Region.wanted, yielded, hd], ?_⟩
            simp [go_sem, hd]
            exact Below.refl _ _
          · intro vals W hW hw hd
            try simp [Region.binds] at hd
            refine ⟨by first | rfl | simp [Region.wanted, yielded, hd], ?_⟩
            exact yields_frontS (.tmp 21) (.tmp 22) rfl _ n cv j .i64 j ls hd.1 hd.2.1 HL.out rfl HJ.out (SU.out W hW.out)
          · intro vals W hW hw hd
            try simp [Region.binds] at hd
            refine ⟨by first | rfl | simp [Region.wanted, yielded, hd], ?_⟩
            simp [go_sem, hd]
            exact (RR.out _ W hd.1 (RU.out W (XB.out W hW.out))).mono fun e w' ⟨he, hb⟩ => ⟨_, he, rfl, hb⟩
          · intro vals W hW hw hd
            try simp [Region.binds] at hd
            refine ⟨by first | rfl | simp [Region.wanted, yielded, hd], ?_⟩
            simp [go_sem, hd, neq_self _ RL.out]
            exact Below.refl _ _
          · intro vals W hW hw hd
            try simp [Region.binds] at hd
            refine ⟨by first | rfl | simp [Region.wanted, yielded, hd], ?_⟩
            simp [go_sem, hd]
            exact Below.refl _ _
          · intro vals W hW hw hd
            try simp [Region.binds] at hd
            refine ⟨by first | rfl | simp [Region.wanted, yielded, hd], ?_⟩
            simp [go_sem, hd]
            exact Below.refl _ _
          · intro vals W hW hw hd
            try simp [Region.binds] at hd
            refine ⟨by first | rfl | simp [Region.wanted, yielded, hd], ?_⟩
            simp [go_sem, hd]
            exact (LP.out W (GU.out W hW.out)).mono fun e w' ⟨⟨v', he, ho⟩, hb⟩ => ⟨v', he, ho.ds, hb⟩
          · intro vals W hW hw hd
            try simp [Region.binds] at hd
            refine ⟨by first | rfl | simp [Region.wanted, yielded, hd], ?_⟩
            simp [go_sem, hd]
            exact Below.refl _ _
          · intro vals W hW hw hd
            try simp [Region.binds] at hd
            refine ⟨by first | rfl | simp [Region.wanted, yielded, hd], ?_⟩
            simp [go_sem, hd]
            exact Below.refl _ _
          · intro vals W hW hw hd
            try simp [Region.binds] at hd
            refine ⟨by first | rfl | simp [Region.wanted, yielded, hd], ?_⟩
            exact yields_frontS (.tmp 29) (.tmp 30) rfl _ n cv j .i64 j ls hd.1 hd.2.1 HL.out rfl HJ.out (SU.out W hW.out)
          · intro vals W hW hw hd
            try simp [Region.binds] at hd
            refine ⟨by first | rfl | simp [Region.wanted, yielded, hd], ?_⟩
            simp [go_sem, hd]
            exact (RP.out _ W hd.1 (RU.out W (XB.out W hW.out))).mono fun e w' ⟨⟨v', he, ho⟩, hb⟩ => ⟨v', he, ho.ds, hb⟩
          · intro vals W hW hw hd
            try simp [Region.binds] at hd
            refine ⟨by first | rfl | simp [Region.wanted, yielded, hd], ?_⟩
            simp [go_sem, hd]
            exact (EQ.out _ _ W hd.1 hd.2.1).mono fun e w' ⟨he, hb⟩ => ⟨_, he, rfl, hb⟩
          · intro vals W hW hw hd
            try simp [Region.binds] at hd
            refine ⟨by first | rfl | simp [Region.wanted, yielded, hd], ?_⟩
            simp [go_sem, hd]
            exact Below.refl _ _
          · intro vals W hW hw hd
            try simp [Region.binds] at hd
            refine ⟨by first | rfl | simp [Region.wanted, yielded, hd], ?_⟩
            simp [go_sem, hd]
            exact Below.refl _ _
          · intro vals W hW hw hd
            try simp [Region.binds] at hd
            refine ⟨by first | rfl | simp [Region.wanted, yielded, hd], ?_⟩
            simp [go_sem, hd]
            exact Below.refl _ _
          · intro vals W hW hw hd
            try simp [Region.binds] at hd
            refine ⟨by first | rfl | simp [Region.wanted, yielded, hd], ?_⟩
            simp [go_sem, hd]
            exact Below.refl _ _
        obtain ⟨f0, f1, f2, f3, f4, f5, f6, f7, f8, f9, f10, f11, f12, f13, f14, f15, f16, f17, f18, f19, f20, f21, _⟩ := hF
        simp only [MP.eq_p] at f0 f1 f2 f3 f4 f5 f6 f8 f9 f10 f11 f13 f14 f17 f18 f19 f20 f21
        rw [f0, f1, f2, f3, f4, f5, f6, f8, f9, f10, f11, f13, f14, f17, f18, f19, f20, f21]
        simp only [List.drop_succ_cons, List.drop_zero]
        have D4 : Hid (Below w.heap.size w w4) := XB.out _ hb4.out
        have L4 : Hid (LgAt w4 w.heap.size (ls.take j)) := GU.out _ hb4.out
        clear f0 f1 f2 f3 f4 f5 f6 f7 f8 f9 f10 f11 f12 f13 f14 f15 f16 f17 f18 f19 f20 f21 hb4 hO XB GU SU CE LR RR LP RP EQ hb LG
        go_wp2_with fail
        refine (AD.out w4 L4.out (HY.out.up D4.out (Nat.le_refl _)) (KU.out _ D4.out)).mono ?_
        rintro e w5 ⟨rfl, lg5, fr5⟩
        have L5 : Hid (LgAt w5 w.heap.size (ls.take (j + 1))) := lg5
        have D5 : Hid (Below w.heap.size w w5) := D4.out.trans (fr5.below (Nat.le_of_lt L4.out.lt) (Nat.le_refl _))
        clear lg5 fr5 AD D4 L4
        go_wp2_with fail
        go_roundw
        case rel => exact ⟨j + 1, by omega, by go_num, L5, D5⟩
        case measure => simp [intOf]; omega
      · obtain rfl : j = n := by omega
        have TK : Hid (ls.take j = ls) := List.take_of_length_le (by rw [← HL.out]; exact Nat.le_refl _)
        rw [TK.out] at lg
        have z60 : ls.length ≤ 60 := by rw [← HL.out]; exact LZ.out
        have LN : Hid _ := len_fun w.heap.size ls.length wr (lg_count lg.out (lgQ_low _ 0).ok (lgQ_length _ 0))
        rw [← HL.out] at LN
        have LR : Hid _ := lroot_fun w.heap.size ls (by omega) wr lg.out (KU.out _ hb.out)
        have RR : Hid _ := rroot_fun ls LW.out (by omega) (.slice av j cv)
        have LP : Hid _ := peaks_fun w.heap.size ls (by omega)
        have RP : Hid _ := rpeaks_fun ls LW.out (by omega) (.slice av j cv)
        have EQ : Hid _ := equalD_fun (peaksS ls) (peaksS_low _) (Nat.le_trans (peaksS_short (by omega)) (by decide))
        have RL : Hid ((rootS ls).length = 32) := rootS_length _
        generalize rootS ls = rj at *
        generalize peaksS ls = pj at *
        clear hlt hj TK z60
        go_wp2_with fail
        refine Calls.mono LN.out ?_
        rintro e wq ⟨rfl, hwq⟩
        have hwq := hwq.symm
        subst hwq
        clear LN
        go_wp2_with fail
        refine Calls.mono LR.out ?_
        rintro e w2 ⟨rfl, hb2⟩
        have D2 : Hid (Below w.heap.size w w2) := hb.out.trans (hb2.mono hb.out.size)
        have L2 : Hid (LgAt w2 w.heap.size ls) := lg.out.up hb2 lg.out.lt
        clear hb2 LR hb lg
        go_wp2_with fail
        refine (RR.out w2 (H0.out.up D2.out (Nat.le_refl _)) (RU.out _ D2.out)).mono ?_
        rintro e w3 ⟨rfl, hb3⟩
        have D3 : Hid (Below w.heap.size w w3) := D2.out.trans (hb3.mono D2.out.size)
        have L3 : Hid (LgAt w3 w.heap.size ls) := L2.out.up hb3 L2.out.lt
        clear hb3 RR D2 L2
        go_wp2_with (refine wp_eqD rfl (.tmp 47) (.tmp 49) _ rfl rj RL.out rfl rfl ?_)
        refine (LP.out w3 L3.out).mono ?_
        rintro e w4 ⟨⟨v4, rfl, od4⟩, hb4⟩
        have D4 : Hid (Below w.heap.size w w4) := D3.out.trans (hb4.mono D3.out.size)
        have S4 : Hid (Ds w4 v4 pj) := od4.ds
        clear hb4 LP D3 L3 od4
        go_wp2_with fail
        refine (RP.out w4 (H0.out.up D4.out (Nat.le_refl _)) (RU.out _ D4.out)).mono ?_
        rintro e w5 ⟨⟨v5, rfl, od5⟩, hb5⟩
        have D5 : Hid (Below w.heap.size w w5) := D4.out.trans (hb5.mono D4.out.size)
        have S5 : Hid (Ds w5 v5 pj) := od5.ds
        have T5 : Hid (Ds w5 v4 pj) := S4.out.up hb5 (Nat.le_refl _)
        clear hb5 RP D4 S4 od5
        go_wp2_with fail
        refine (EQ.out v4 v5 w5 T5.out S5.out).mono ?_
        rintro e w6 ⟨rfl, hb6⟩
        have D6 : Hid (Below w.heap.size w w6) := D5.out.trans (hb6.mono D5.out.size)
        clear hb6 EQ D5 S5 T5
        go_wp2_with fail
        go_ret
        exact ⟨rfl, D6.out⟩
set_option maxRecDepth 100000 in
theorem treeLogs_met (os : Os) : laidMet Tryd.prog Rows.treeLogsRow.laid ((World.doorLaid Tryd.prog 14 os).forCall (fun _ _ => 0) ⟨#[], #[.slice none 0 0], []⟩).memory := laidMet_of_run' 8 (by kernel_rfl) (by kernel_rfl)
set_option maxRecDepth 100000 in
theorem treeLogs_reads (os : Os) {H : Type} (enc : TypeId × Value → H) : ∃ places, DataW.whole enc Tryd.prog ((World.doorLaid Tryd.prog 14 os).forCall (fun _ _ => 0) ⟨#[], #[.slice none 0 0], []⟩).memory Tryd.f5.params.toList Rows.treeLogsSpec.vars false #[.slice none 0 0].toList 8 = some ([.nil], [], places) := ⟨[], by kernel_rfl⟩
set_option maxRecDepth 100000 in
theorem treeLogs_lifted (os : Os) (started : os.Started) (H : Type) (enc : TypeId × Value → H) (F : Stop.Interp) :
    ReturnsInHanded {} Tryd.checked os 5 .any ((OpenSpec.ofChange Rows.treeLogsSpec).preRow enc Tryd.prog Tryd.f5 Rows.treeLogsRow.domain false Rows.treeLogsRow.laid) (((OpenSpec.ofChange Rows.treeLogsSpec).at F).post enc Tryd.prog Tryd.f5 false true false false) := by
  obtain ⟨places, hx⟩ := treeLogs_reads os enc
  refine returnsInHanded_of_row (C := Tryd.checked) (s := (OpenSpec.ofChange Rows.treeLogsSpec)) Tryd.own started (by kernel_rfl) Tryd.func5
    (witness_row_at (enc := enc) (C := Tryd.checked) false (World.doorLaid Tryd.prog 14 os) #[.slice none 0 0] rfl (by kernel_rfl) (by kernel_rfl) (by kernel_rfl)
      (OpenSpec.preRow_of_cond 8 hx (by kernel_rfl) (fun k hk => by cases hk) (by kernel_rfl) (treeLogs_met os))) ?_
  intro W base args ds gs before hval0 hW _ hcond hsz0 hL _ _
  have hval : ∀ (j : Nat) t v, Tryd.f5.params[j]? = some t → args[j]? = some v → Value.okWide Tryd.prog W .any base t v := hval0
  have hsz : (DataW.weightsEach Tryd.prog (Tryd.f5.params.toList ++ Rows.treeLogsSpec.plain.varTypes Tryd.prog) (ds ++ gs)).all (· ≤ reachBytes) = true := hsz0
  have hW' := hW
  obtain ⟨p, q, hA0, hV, rfl, hfz, hnd⟩ := hW
  have hA : DataW.TrodAll enc Tryd.prog W 0 (fun _ => true) true Tryd.f5.params.toList args.toList ds p := hA0
  rw [Tryd.params5] at hA hval hsz
  obtain ⟨v0, d0, rfl, rfl, h0⟩ := trodAll_one hA
  obtain ⟨rfl, rfl⟩ := trodVars_none hV
  simp only [List.append_nil] at hW'
  have hlt : ∀ x ∈ p, x.block < W.heap.size := fun x hx => by simpa using hW'.lt x (by simpa using hx)
  have hk0 : ∀ W' : World, Below W.heap.size W W' → DataW.Trod enc Tryd.prog W' 0 (fun b => decide (b < W.heap.size)) true 22 v0 d0 p := fun W' hn => Below.trod Tryd.laidOut (by kernel_rfl) (of_decide_eq_true (by kernel_rfl)) h0 hn (fun x hx => hlt x (by simp [hx]))
  obtain ⟨a0, n0, c0, rfl⟩ := okWide_slice uBss (hval 0 22 v0 rfl rfl)
  obtain ⟨fuel0, hf0⟩ := h0
  obtain ⟨l0, low0, hI0, hx0⟩ := bss_open (u := .slice a0 n0 c0) (by simpa [Value.cells] using hf0) 140737488351232 (fun elems sp hd i es sp' he => by
    have hd' : d0 = .slice elems sp := hd
    subst hd'
    have := sized_inner hsz (j := 0) rfl rfl he
    simp only [reachBytes] at this
    omega)
  have z0 : l0.length ≤ 140737488351232 := by
    rcases hx0 with ⟨_, h⟩ | ⟨es, sp, hd, h⟩
    · rw [h]; exact Nat.zero_le _
    · simp only at hd
      subst hd
      have := sized_slice hsz (j := 0) (t := 22) (e := 23) rfl rfl uBss
      rw [bytesBytes] at this
      simp only [reachBytes] at this
      omega
  refine (treeLogs_law _ l0 low0 z0 W hI0 (ktab_two hL) (rtab_two hL)).mono fun e W' ⟨he, hg⟩ => ?_
  subst he
  exact ⟨_, rfl, _, _, _, [], _, [], hW', trodAll_mk1 (shut_bool Tryd.underlying4 _), trodAll_mk1 (hk0 _ hg), rfl, hg.frame _, fun h => by cases h⟩

theorem treeLogs_holds : Rows.TreeLogsSaid :=
  OpenClaim.holds_of_cond 5 Tryd.f5 rfl rfl rfl rfl rfl rfl rfl ⟨rfl, rfl, rfl, rfl, rfl⟩ rfl rfl rfl rfl rfl (by kernel_rfl) Tryd.func5 (by kernel_rfl)
    (of_decide_eq_true (by kernel_rfl)) (by unfold Func.isWrapper; first | (rw [if_pos (by decide +kernel)]; kernel_rfl) | (rw [if_neg (by decide +kernel)]; exact ⟨rfl, rfl⟩))
    (fun os started H enc _ F => by rw [OpenClaim.pre_eq_preRow]; exact treeLogs_lifted os started H enc F)

theorem treeLogs_card : Rows.TreeLogsCardSaid :=
  Claim7.holds_tied_plain_at .later [] _ _ _ _ treeLogs_holds (fun _ h => by cases h) (by kernel_rfl) (fun _ h => by cases h) treeLogs_row_tie rfl ⟨rfl, rfl⟩ (by kernel_rfl) rfl
    (fun f fn hf hfn => by
      obtain rfl : f = 5 := Option.some.inj ((show Tryd.prog.funcNamed "sealring/sealringlaw.TreeLogs" = some 5 by kernel_rfl).symm.trans hf) |>.symm
      obtain rfl : fn = Tryd.f5 := (Option.some.inj (Tryd.func5.symm.trans hfn)).symm
      exact ⟨by kernel_rfl, fun j t ht => by
        rw [Tryd.params5] at ht
        have hm : t ∈ [22] := by simpa using Array.mem_of_getElem? ht
        have hall : ([22].all fun u => !Tryd.prog.wantsStandIn u) = true := by kernel_rfl
        exact (show Tryd.prog.wantsStandIn t = false by simpa using List.all_eq_true.1 hall t hm)⟩)
    (by kernel_rfl)
#print axioms treeLogs_card
end Go.Proofs.YtmpniingbioggaaDoor
