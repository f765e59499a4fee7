/- The contract of tree.Log.Root. -/
import Derived.Test.YtmpniingbioggaaDoorTLog
namespace Go.Proofs.YtmpniingbioggaaDoor
open Go.RowKit
set_option linter.unusedSimpArgs false
attribute [local go_sem] YieldsP execOp
attribute [local simp] MP.eq_p
theorem Blk.whole {w : World} {k : Nat} {vs us : List Value} (h : Blk w k vs) (hl : us.length = vs.length) : Blk (w.setCells k 0 us) k us := by
  have h1 : Blk w k ([] ++ (vs ++ [])) := by simpa using h
  have h2 := h1.store (o := 0) (b' := us) rfl (by omega)
  rw [List.nil_append, List.append_nil] at h2
  exact h2
theorem range_apart {w : World} {b b' o o' : Nat} {vs us : List Value} (h : w.rangeAt b o vs) (hb : b ≠ b') : (w.setCells b' o' us).rangeAt b o vs := fun j v hv => by
  rw [World.cell?_setCells_out b' us o' w ⟨b, o + j, none⟩ (fun e _ => absurd e hb)]
  exact h j v hv
theorem peaksS_nil : peaksS [] = [] := rfl
theorem peaksS_pos {ls : List (List Nat)} (h : 0 < ls.length) (zl : ls.length ≤ 65536) : 0 < (peaksS ls).length := T.peaksF_pos nodeS (sumS []) 21 (by rw [List.length_map]; exact h) (by rw [List.length_map]; omega)
theorem fold_root {ls : List (List Nat)} (h : 0 < ls.length) (zl : ls.length ≤ 65536) : T.foldP nodeS (sumS []) (peaksS ls) = rootS ls := T.fold_peaks nodeS (sumS []) 21 (by rw [List.length_map]; exact h) (by rw [List.length_map]; omega)
theorem foldP_low {ds : List (List Nat)} (h : Dlow ds) (hp : 0 < ds.length) : (T.foldP nodeS (sumS []) ds).length = 32 ∧ ∀ x ∈ T.foldP nodeS (sumS []) ds, x < 256 := by
  cases ds with
  | nil => simp at hp
  | cons a l =>
    cases l with
    | nil => exact h a (by simp)
    | cons b l => exact nodeS_low _ _
theorem fold_step {ds : List (List Nat)} {K : Nat} (h : K + 1 < ds.length) : nodeS (ds.getD K []) (T.foldP nodeS (sumS []) (ds.drop (K + 1))) = T.foldP nodeS (sumS []) (ds.drop K) := by
  have e : ds.drop K = ds.getD K [] :: ds.drop (K + 1) := by
    rw [List.drop_eq_getElem_cons (by omega), List.getD_eq_getElem?_getD, List.getElem?_eq_getElem (by omega)]
    rfl
  rw [e, T.foldP_cons nodeS (sumS []) _ (by rw [List.length_drop]; omega)]
theorem fold_last {ds : List (List Nat)} {K : Nat} (h : K + 1 = ds.length) : T.foldP nodeS (sumS []) (ds.drop K) = ds.getD K [] := by
  have e : ds.drop K = [ds.getD K []] := by
    rw [List.drop_eq_getElem_cons (by omega), List.getD_eq_getElem?_getD, List.getElem?_eq_getElem (by omega), List.drop_eq_nil_of_le (by omega)]
    rfl
  rw [e]
  rfl
set_option maxRecDepth 20000 in
set_option maxHeartbeats 4000000 in
theorem lroot_fun (k : Nat) (ls : List (List Nat)) (zl : ls.length ≤ 65536) (w : World) (hk : LgAt w k ls) (hT : KTab w) :
    Calls Tryd.prog 21 #[.pointer (some ⟨k, 0, none⟩)] w fun e w' => e = .returned (vB (rootS ls)) ∧ Below w.heap.size w w' := by
  have ML : Hid ((rootS ls).length = 32) := rootS_length _
  have ID : Hid _ := info_d32.trans (congrArg some (show 32 = ((rootS ls).map b8).length by rw [List.length_map, rootS_length]))
  obtain ⟨x0, x1⟩ := al1 w #[Value.int IntKind.u8 0, Value.int IntKind.u8 0, Value.int IntKind.u8 0, Value.int IntKind.u8 0, Value.int IntKind.u8 0, Value.int IntKind.u8 0, Value.int IntKind.u8 0, Value.int IntKind.u8 0, Value.int IntKind.u8 0, Value.int IntKind.u8 0, Value.int IntKind.u8 0, Value.int IntKind.u8 0, Value.int IntKind.u8 0, Value.int IntKind.u8 0, Value.int IntKind.u8 0, Value.int IntKind.u8 0, Value.int IntKind.u8 0, Value.int IntKind.u8 0, Value.int IntKind.u8 0, Value.int IntKind.u8 0, Value.int IntKind.u8 0, Value.int IntKind.u8 0, Value.int IntKind.u8 0, Value.int IntKind.u8 0, Value.int IntKind.u8 0, Value.int IntKind.u8 0, Value.int IntKind.u8 0, Value.int IntKind.u8 0, Value.int IntKind.u8 0, Value.int IntKind.u8 0, Value.int IntKind.u8 0, Value.int IntKind.u8 0] 24
  have X0 : Hid (Blk _ _ ((List.replicate 32 0).map b8)) := x0
  have X1 : Hid (Below _ _ _) := x1
  have PF : Hid _ := peaks_fun k ls zl _ (hk.up x1 hk.lt)
  have HT : Hid (KTab w) := hT
  have PD : Hid (Dlow (peaksS ls)) := peaksS_low ls
  rcases Nat.eq_zero_or_pos ls.length with hz | hz
  · obtain rfl : ls = [] := List.length_eq_zero_iff.1 hz
    have S0 : Hid (∀ w, KTab w → Calls Tryd.prog 34 #[.slice none 0 0] w fun e w' => e = .returned (vB (rootS [])) ∧ Below w.heap.size w w') := fun w => hsum_fun [] (by simp) (by simp) (.slice none 0 0) w (By.nil w)
    rw [peaksS_nil] at PF
    generalize rootS [] = mk at *
    clear hT hk zl x0 x1 hz PD
    go_enter Tryd.func21, Tryd.ntmps21
    go_wp2_with fail
    generalize w.alloc (Obj.cells #[Value.int IntKind.u8 0, Value.int IntKind.u8 0, Value.int IntKind.u8 0, Value.int IntKind.u8 0, Value.int IntKind.u8 0, Value.int IntKind.u8 0, Value.int IntKind.u8 0, Value.int IntKind.u8 0, Value.int IntKind.u8 0, Value.int IntKind.u8 0, Value.int IntKind.u8 0, Value.int IntKind.u8 0, Value.int IntKind.u8 0, Value.int IntKind.u8 0, Value.int IntKind.u8 0, Value.int IntKind.u8 0, Value.int IntKind.u8 0, Value.int IntKind.u8 0, Value.int IntKind.u8 0, Value.int IntKind.u8 0, Value.int IntKind.u8 0, Value.int IntKind.u8 0, Value.int IntKind.u8 0, Value.int IntKind.u8 0, Value.int IntKind.u8 0, Value.int IntKind.u8 0, Value.int IntKind.u8 0, Value.int IntKind.u8 0, Value.int IntKind.u8 0, Value.int IntKind.u8 0, Value.int IntKind.u8 0, Value.int IntKind.u8 0] 24) = w1 at *
    refine Calls.mono PF.out ?_
    rintro e w2 ⟨⟨v2, rfl, od2⟩, hb2⟩
    obtain ⟨a2, c2, rfl, _, _⟩ := od2.ds
    have D2 : Hid (Below w.heap.size w w2) := X1.out.trans (hb2.mono X1.out.size)
    have Y2 : Hid (Blk w2 w.heap.size ((List.replicate 32 0).map b8)) := X0.out.up hb2 X0.out.lt
    clear hb2 od2 PF X0 X1
    simp only [List.length_nil]
    go_wp2_with fail
    refine (S0.out w2 (HT.out.up D2.out HT.out.pos)).mono ?_
    rintro e w4 ⟨rfl, hb4⟩
    have D4 : Hid (Below w.heap.size w w4) := D2.out.trans (hb4.mono D2.out.size)
    have Y4 : Hid (Blk w4 w.heap.size ((List.replicate 32 0).map b8)) := Y2.out.up hb4 Y2.out.lt
    clear hb4 D2 Y2
    have T1 : Hid (w4.there w.heap.size 0 (mk.map b8).length) := Y4.out.there (by rw [List.length_map, ML.out]; simp)
    go_wp2_with (refine wp_store_eq rfl 24 (.tmp 2) (.tmp 12) rfl w.heap.size 0 (mk.map b8) rfl rfl T1.out ID.out (one_b8 _) ?_)
    intro w5 hw5
    go_wp2_with fail
    refine bodyPost_ret (v := vB mk) ?_ rfl ⟨rfl, ?_⟩
    · rw [hw5.out]
      exact results_cell (b := w.heap.size) rfl rfl (World.rangeAt_setCells_same _ _ _ _ T1.out) u_d32 rfl ID.out
    · rw [hw5.out]
      exact below_setCells _ _ _ D4.out (by omega)
  · have QP : Hid (0 < (peaksS ls).length) := peaksS_pos hz zl
    have QZ : Hid ((peaksS ls).length ≤ 17) := by
      have := peaksS_len ls 17
      rw [peaksS_17 (by omega)] at this
      exact this
    have FR : Hid (T.foldP nodeS (sumS []) ((peaksS ls).drop 0) = rootS ls) := by
      rw [List.drop_zero]
      exact fold_root hz zl
    generalize rootS ls = mk at *
    generalize peaksS ls = ps at *
    clear hT hk zl x0 x1 hz
    go_enter Tryd.func21, Tryd.ntmps21
    go_wp2_with fail
    generalize w.alloc (Obj.cells #[Value.int IntKind.u8 0, Value.int IntKind.u8 0, Value.int IntKind.u8 0, Value.int IntKind.u8 0, Value.int IntKind.u8 0, Value.int IntKind.u8 0, Value.int IntKind.u8 0, Value.int IntKind.u8 0, Value.int IntKind.u8 0, Value.int IntKind.u8 0, Value.int IntKind.u8 0, Value.int IntKind.u8 0, Value.int IntKind.u8 0, Value.int IntKind.u8 0, Value.int IntKind.u8 0, Value.int IntKind.u8 0, Value.int IntKind.u8 0, Value.int IntKind.u8 0, Value.int IntKind.u8 0, Value.int IntKind.u8 0, Value.int IntKind.u8 0, Value.int IntKind.u8 0, Value.int IntKind.u8 0, Value.int IntKind.u8 0, Value.int IntKind.u8 0, Value.int IntKind.u8 0, Value.int IntKind.u8 0, Value.int IntKind.u8 0, Value.int IntKind.u8 0, Value.int IntKind.u8 0, Value.int IntKind.u8 0, Value.int IntKind.u8 0] 24) = w1 at *
    refine Calls.mono PF.out ?_
    rintro e w2 ⟨⟨v2, rfl, od2⟩, hb2⟩
    have D2 : Hid (Below w.heap.size w w2) := X1.out.trans (hb2.mono X1.out.size)
    have Y2 : Hid (Blk w2 w.heap.size ((List.replicate 32 0).map b8)) := X0.out.up hb2 X0.out.lt
    obtain ⟨b, o, c2, e2, hr⟩ := od2.ds.cell_at QP.out
    have BL : Hid (b < w2.heap.size) := od2.low b (by rw [e2]; rfl)
    subst e2
    obtain ⟨q, hq⟩ : ∃ q, ps.length = q + 1 := ⟨ps.length - 1, by have := QP.out; omega⟩
    rw [hq] at hr ⊢
    have hq17 : q + 1 ≤ 17 := by have := QZ.out; omega
    have HR : Hid (∀ j, j < q + 1 → w2.rangeAt b (o + j * 32) ((ps.getD j []).map b8)) := hr
    have LL : Hid (ps.length = q + 1) := hq
    have R1 : Hid (w2.rangeAt b (o + q * 32) ((ps.getD q []).map b8)) := hr q (by omega)
    have A1 : Hid _ := (PD.out.at (j := q) (by omega)).1
    have FL : Hid (ps.getD q [] = T.foldP nodeS (sumS []) (ps.drop q)) := (fold_last (by omega)).symm
    have I1 : Hid _ := info_d32.trans (congrArg some (show 32 = ((ps.getD q []).map b8).length by rw [List.length_map, A1.out]))
    clear hb2 od2 PF X0 X1 hr hq QP QZ
    have q0 : ¬ ((q : Int) + 1) = 0 := by omega
    have q1 : (q : Int) < (q : Int) + 1 := by omega
    generalize ps.getD q [] = dq at *
    have T1 : Hid (∀ C t, C.size = 32 → World.there (w2.alloc (.cells C t)) w2.heap.size 0 (dq.map b8).length) := fun C t hC => (al1 w2 C t).1.there (by rw [List.length_map, A1.out, Array.length_toList, hC]; omega)
    go_wp2_with (first | (refine wp_ldD rfl (.tmp 18) rfl b (o + q * 32) rfl dq R1.out A1.out ?_) | (refine wp_store_eq rfl 24 (.tmp 5) (.tmp 19) rfl w2.heap.size 0 (dq.map b8) rfl rfl (T1.out _ _ rfl) I1.out (one_b8 _) ?_))
    intro w3 hw3
    obtain ⟨b3, h3⟩ : Blk w3 w2.heap.size (dq.map b8) ∧ Below w2.heap.size w2 w3 := by
      rw [hw3.out]
      exact alst w2 _ _ _ (by rw [List.length_map, A1.out]; rfl)
    rw [FL.out] at b3
    have B3 : Hid (Blk w3 w2.heap.size ((T.foldP nodeS (sumS []) (ps.drop q)).map b8)) := b3
    have D3 : Hid (Below w.heap.size w w3) := D2.out.trans (h3.mono D2.out.size)
    have Y3 : Hid (Blk w3 w.heap.size ((List.replicate 32 0).map b8)) := Y2.out.up h3 Y2.out.lt
    have R3 : Hid (∀ j, j < q + 1 → w3.rangeAt b (o + j * 32) ((ps.getD j []).map b8)) := fun j hj => range_up (HR.out j hj) h3 (Nat.le_refl _)
    have G2 : Hid (w.heap.size < w2.heap.size) := Y2.out.lt
    clear hw3 b3 h3 D2 Y2 T1 R1 A1 I1 HR FL
    generalize w2.heap.size = g at *
    go_wp2_with fail
    go_loopw [6] (fun i wr => ∃ K : Nat, K ≤ q ∧ i = .int .i64 ((K : Int) - 1) ∧ Hid (Blk wr g ((T.foldP nodeS (sumS []) (ps.drop K)).map b8)) ∧ Hid (Blk wr w.heap.size ((List.replicate 32 0).map b8)) ∧ Hid (∀ j, j < q + 1 → wr.rangeAt b (o + j * 32) ((ps.getD j []).map b8)) ∧ Hid (Below w.heap.size w wr)) (fun i _ => (intOf i + 1).toNat)
    case atStart => exact ⟨q, by omega, by first | rfl | go_num, B3, Y3, R3, D3⟩
    case round =>
      clear B3 Y3 R3 D3
      obtain ⟨K, hK, rfl, bg, y0, rr, hb⟩ := hrel
      cases K with
      | zero =>
        rw [FR.out] at bg
        have B4 : Hid (Blk wr g (mk.map b8)) := bg
        have Y4 : Hid (Blk wr w.heap.size ((List.replicate 32 0).map b8)) := y0
        have D4 : Hid (Below w.heap.size w wr) := hb
        clear bg y0 hb rr hK
        have T1 : Hid (wr.there w.heap.size 0 (mk.map b8).length) := Y4.out.there (by rw [List.length_map, ML.out]; simp)
        go_wp2_with (first | (refine wp_ldD rfl (.tmp 5) rfl g 0 rfl mk B4.out.all ML.out ?_) | (refine wp_store_eq rfl 24 (.tmp 2) (.tmp 32) rfl w.heap.size 0 (mk.map b8) rfl rfl T1.out ID.out (one_b8 _) ?_))
        intro w5 hw5
        go_wp2_with fail
        refine bodyPost_ret (v := vB mk) ?_ rfl ⟨rfl, ?_⟩
        · rw [hw5.out]
          exact results_cell (b := w.heap.size) rfl rfl (World.rangeAt_setCells_same _ _ _ _ T1.out) u_d32 rfl ID.out
        · rw [hw5.out]
          exact below_setCells _ _ _ D4.out (by omega)
      | succ K =>
        have e1 : ((K + 1 : Nat) : Int) - 1 = (K : Int) := by omega
        rw [e1]
        have FS : Hid _ := fold_step (ds := ps) (K := K) (by rw [LL.out]; omega)
        have RK : Hid (wr.rangeAt b (o + K * 32) ((ps.getD K []).map b8)) := rr.out K (by omega)
        have AK : Hid _ := PD.out.at (j := K) (by rw [LL.out]; omega)
        have AF : Hid _ := foldP_low (ds := ps.drop (K + 1)) (fun x hx => PD.out x (List.mem_of_mem_drop hx)) (by rw [List.length_drop, LL.out]; omega)
        have ND : Hid _ := tnode_fun (ps.getD K []) (T.foldP nodeS (sumS []) (ps.drop (K + 1))) AK.out.1 AF.out.1 AK.out.2 AF.out.2
        have NL : Hid _ := (nodeS_low (ps.getD K []) (T.foldP nodeS (sumS []) (ps.drop (K + 1)))).1
        rw [FS.out] at ND NL
        have IK : Hid _ := info_d32.trans (congrArg some (show 32 = ((ps.getD K []).map b8).length by rw [List.length_map, AK.out.1]))
        have IF : Hid _ := info_d32.trans (congrArg some (show 32 = ((T.foldP nodeS (sumS []) (ps.drop (K + 1))).map b8).length by rw [List.length_map, AF.out.1]))
        have IN : Hid _ := info_d32.trans (congrArg some (show 32 = ((T.foldP nodeS (sumS []) (ps.drop K)).map b8).length by rw [List.length_map, NL.out]))
        have kq : (K : Int) < (q : Int) + 1 := by omega
        have k0 : (0 : Int) ≤ (K : Int) := by omega
        have wk : IntKind.i64.wrap ((K : Int) - 1) = (K : Int) - 1 := by rw [IntKind.wrap_i64]; omega
        have HKQ : Hid (K + 1 ≤ q) := hK
        generalize ps.getD K [] = dk at *
        generalize T.foldP nodeS (sumS []) (ps.drop (K + 1)) = fk at *
        have KU : Hid (∀ W, Below wr.heap.size wr W → KTab W) := fun W hW => HT.out.up (hb.out.trans (hW.mono hb.out.size)) HT.out.pos
        clear FS e1 hK
        go_wp2_with fail
        refine wp_region_monoSE 6 [MP.eq (.slice (some ⟨b, o, none⟩) (q + 1) c2), MP.eq (.int .i64 (K : Int)), MP.eq (.pointer (some ⟨b, o + K * 32, none⟩)), MP.eq (vB dk), MP.eq (vB fk), MP.eq (vB (T.foldP nodeS (sumS []) (ps.drop K)))] (by kernel_rfl) (by kernel_rfl) rfl (by decide) (by kernel_rfl) ?_
        apply Exists.intro
        refine ⟨fun vals => ?_, ?_, fun vals4 w4 hb4 hF hO => ?_⟩
        · simp only [putsV, dstL, List.length_cons, List.length_nil, Nat.zero_add, Nat.reduceAdd, List.getElem?_cons_zero, List.getElem?_cons_succ, Option.bind_some, Act.put, List.setIfInBounds_toArray, List.set_cons_succ, List.set_cons_zero]
          rfl
        · refine ⟨?_, ?_, ?_, ?_, ?_, ?_, trivial⟩
          · intro vals W hW hw hd
            try simp [Region.binds] at hd
            refine ⟨by first | rfl | simp [Region.wanted, yielded, hd], ?_⟩
            simp [go_sem, hd]
            exact Below.refl _ _
          · intro vals W hW hw hd
            try simp [Region.binds] at hd
            refine ⟨by first | rfl | simp [Region.wanted, yielded, hd], ?_⟩
            simp [go_sem, hd]
            exact Below.refl _ _
          · intro vals W hW hw hd
            try simp [Region.binds] at hd
            refine ⟨by first | rfl | simp [Region.wanted, yielded, hd], ?_⟩
            simp [go_sem, hd, kq]
            exact Below.refl _ _
          · intro vals W hW hw hd
            try simp [Region.binds] at hd
            refine ⟨by first | rfl | simp [Region.wanted, yielded, hd], ?_⟩
            exact yields_load 24 (.tmp 28) rfl b (o + K * 32) hd (dk.map b8) _ (range_up RK.out hW.out (Nat.le_refl _)) u_d32 rfl IK.out rfl
          · intro vals W hW hw hd
            try simp [Region.binds] at hd
            refine ⟨by first | rfl | simp [Region.wanted, yielded, hd], ?_⟩
            exact yields_load 24 (.tmp 5) rfl g 0 rfl (fk.map b8) _ (bg.out.up hW.out bg.out.lt).all u_d32 rfl IF.out rfl
          · intro vals W hW hw hd
            try simp [Region.binds] at hd
            refine ⟨by first | rfl | simp [Region.wanted, yielded, hd], ?_⟩
            simp [go_sem, hd]
            exact (ND.out W (KU.out W hW.out)).mono fun e w' ⟨he, hb⟩ => ⟨_, he, rfl, hb⟩
        obtain ⟨f0, f1, f2, f3, f4, f5, _⟩ := hF
        simp only [MP.eq_p] at f0 f1 f2 f3 f4 f5
        rw [f0, f1, f2, f3, f4, f5]
        simp only [List.drop_succ_cons, List.drop_zero]
        have D4 : Hid (Below w.heap.size w w4) := hb.out.trans (hb4.out.mono hb.out.size)
        have Y4 : Hid (Blk w4 w.heap.size ((List.replicate 32 0).map b8)) := y0.out.up hb4.out y0.out.lt
        have B4 : Hid (Blk w4 g (fk.map b8)) := bg.out.up hb4.out bg.out.lt
        have R4 : Hid (∀ j, j < q + 1 → w4.rangeAt b (o + j * 32) ((ps.getD j []).map b8)) := fun j hj => range_up (rr.out j hj) hb4.out (Nat.le_refl _)
        clear f0 f1 f2 f3 f4 f5 hb4 hO bg y0 rr hb KU ND RK
        generalize hnk : T.foldP nodeS (sumS []) (ps.drop K) = nk at *
        have HNK : Hid (T.foldP nodeS (sumS []) (ps.drop K) = nk) := hnk
        clear hnk
        have T4 : Hid (w4.there g 0 (nk.map b8).length) := B4.out.there (by rw [List.length_map, List.length_map, NL.out, AF.out.1]; omega)
        go_wp2_with (refine wp_store_eq rfl 24 (.tmp 5) (.tmp 31) rfl g 0 (nk.map b8) rfl rfl T4.out IN.out (one_b8 _) ?_)
        intro w5 hw5
        have B5 : Hid (Blk w5 g (nk.map b8)) := by
          rw [hw5.out]
          exact B4.out.whole (by rw [List.length_map, List.length_map, NL.out, AF.out.1])
        have Y5 : Hid (Blk w5 w.heap.size ((List.replicate 32 0).map b8)) := by
          rw [hw5.out]
          exact Y4.out.apart (by have := G2.out; omega)
        have D5 : Hid (Below w.heap.size w w5) := by
          rw [hw5.out]
          exact below_setCells _ _ _ D4.out (by have := G2.out; omega)
        have R5 : Hid (∀ j, j < q + 1 → w5.rangeAt b (o + j * 32) ((ps.getD j []).map b8)) := by
          rw [hw5.out]
          exact fun j hj => range_apart (R4.out j hj) (by have := BL.out; omega)
        clear hw5 T4 B4 Y4 D4 R4
        rw [← HNK.out] at B5
        go_wp2_with fail
        go_roundw
        case rel =>
          have hkk := HKQ.out
          exact ⟨K, by omega, by first | rfl | go_num, B5, Y5, R5, D5⟩
        case measure => simp [intOf]
end Go.Proofs.YtmpniingbioggaaDoor
