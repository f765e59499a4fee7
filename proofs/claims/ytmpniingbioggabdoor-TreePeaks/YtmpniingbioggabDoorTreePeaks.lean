/- TreePeaks returns true for all leaves and every text. -/
import Derived.Test.YtmpniingbioggabDoorTLogA
import Derived.Test.YtmpniingbioggabDoorTEq
import Derived.Test.YtmpniingbioggabDoorTArgs
import Derived.Test.YtmpniingbioggabDoorTApp
namespace Go.Proofs.YtmpniingbioggabDoor
open Go.RowKit
open Go.BigFrame
open Go.ChangeShapes Go.WideShapes Go.ChangeAt
set_option linter.unusedSimpArgs false
attribute [local go_sem] YieldsP execOp
attribute [local simp] MP.eq_p
theorem take_snoc {ls : List (List Nat)} {i : Nat} (h : i < ls.length) : ls.take i ++ [ls.getD i []] = ls.take (i + 1) := by
  rw [List.take_add_one]
  congr 1
  simp [List.getD_eq_getElem?_getD, h]
theorem append_zero (w : World) (ty : TypeId) (a : Option Addr) (c : Nat) : (Builtin.append_ #[22, 22] ty #[.slice none 0 0, .slice a 0 c]).run Tryd.prog w = .ok (.slice none 0 0) w := by
  obtain ⟨i0, hi, hz0, hz1, hz2⟩ := info_parts iBytes1
  cases a <;> simp [Builtin.append_, run_underlying uBss, sizeOf, typeInfo, hi, Builtin.lenOf, Builtin.firstCells, loadCells, loadCellsFrom]
/-- append of nothing to nil. -/
theorem wp_app0 {ops : Array Oper} {rest : List Oper} {o : Oper} {a : Act} {Q : Exit → Act → World → Prop} {w : World} (hgd : o.guard = none) (s x : Operand)
    (ho : o.op = .call { callee := .builtin .append, args := #[s, x], argTypes := #[22, 22] }) (ad : Option Addr) (c : Nat) (hs : a.eval s = .slice none 0 0) (hx : a.eval x = .slice ad 0 c) (h : wpList Tryd.prog ops Q rest (a.put o.dst (.slice none 0 0)) w) : wpList Tryd.prog ops Q (o :: rest) a w := by
  refine wpList_plain hgd fun K hK => ?_
  have hrun := append_zero w o.type ad c
  unfold Oper.wp
  simp [execOp, ho, resolve, invoke, builtin, hs, hx, hrun, Result.andThen]
  exact hK _ _ h
theorem Sb.vals' {w : World} {v : Value} {ls : List (List Nat)} {n : Nat} (h : Sb w v ls) (hn : n = ls.length) (hp : 0 < n) : ∃ b o c us, v = .slice (some ⟨b, o, none⟩) n c ∧ Vb w b o us ls := by
  subst hn
  exact h.vals hp
theorem World.ownsRow.below {w w' : World} {B : Nat} {e : TypeId} {size : Nat} {v : Value} {n : Nat} {xs : List Value} (h : w.ownsRow B e size v n xs) (hb : Below w.heap.size w w') : w'.ownsRow B e size v n xs := by
  refine ⟨h.1, ?_⟩
  rcases h.2 with h' | ⟨g, cap, cur, e, hB, hg, rest⟩
  · exact .inl h'
  · exact .inr ⟨g, cap, cur, e, hB, (hb.block g (Array.getElem?_eq_some_iff.1 hg).1).trans hg, rest⟩
set_option maxRecDepth 20000 in
set_option maxHeartbeats 4000000 in
theorem treePeaks_law (v0 : Value) (ls : List (List Nat)) (low : ∀ p ∈ ls, (∀ y ∈ p, y < 256) ∧ p.length ≤ 140737488351232) (z0 : ls.length ≤ 140737488351232) (v1 : Value) (p : List Nat) (lp : lowB p) (zp : p.length ≤ 140737488351232) (w : World) (h0 : Sb w v0 ls) (h1 : By w v1 p) (hK : KTab w) :
    Calls Tryd.prog 3 #[v0, v1] w fun e w' => e = .returned (.bool true) ∧ Below w.heap.size w w' := by
  obtain ⟨av, cv, rfl, hc, h3⟩ := id h0
  by_cases c1 : (60 : Int) < (ls.length : Int)
  · clear h0 h1 hK low z0 zp lp hc h3
    generalize ls.length = m at *
    go_enter Tryd.func3, Tryd.ntmps3
    go_wp2_with fail
    go_ret
    exact ⟨rfl, Below.refl _ _⟩
  · have lw := lowL.of low
    obtain ⟨a1, k1, rfl, hb1, hb2, hb3⟩ := id h1
    have H0 : Hid (Sb w (.slice av ls.length cv) ls) := h0
    have H1 : Hid (By w (.slice a1 p.length k1) p) := h1
    have LW : Hid (lowL ls) := lw
    have LP : Hid (lowB p) := lp
    have ZP : Hid (p.length ≤ 140737488351232) := zp
    have KU : Hid (∀ w', Below w.heap.size w w' → KTab w') := fun w' hb => hK.up hb hK.pos
    have K0 : Hid (0 < w.heap.size) := hK.pos
    have RL : Hid _ := troot_fun ls.length ls (Nat.le_refl _) lw (by omega) (.slice av ls.length cv)
    have RA : Hid _ := troot_fun (ls ++ [p]).length (ls ++ [p]) (Nat.le_refl _) (fun q hq => by
      rcases List.mem_append.1 hq with h | h
      · exact lw q h
      · rw [List.mem_singleton.1 h]; exact ⟨lp, by omega⟩) (by rw [List.length_append, List.length_singleton]; omega)
    have LZ : Hid (ls.length ≤ 60) := (by omega : ls.length ≤ 60)
    have H3 : Hid _ := h3
    obtain ⟨x0, x1⟩ := al1 w zL.toArray 27
    have G1 : Hid (LgAt (w.alloc (.cells zL.toArray 27)) w.heap.size []) := LgAt.zero
    have D1 : Hid (Below _ _ _) := x1
    have HN : Hid (∃ n, n = ls.length) := ⟨_, rfl⟩
    obtain ⟨n, hn⟩ := HN.out
    have HL : Hid (n = ls.length) := hn
    rw [← hn] at H0 RL LZ H3 c1 ⊢
    clear h0 h1 hK low z0 zp lp hc h3 lw hb1 hb2 hb3 x0 x1 HN hn
    go_enter Tryd.func3, Tryd.ntmps3
    go_wp2_with (simp only [zero_log])
    generalize w.alloc (.cells zL.toArray 27) = w1 at *
    go_loopw [17] (fun i wr => ∃ j : Nat, j ≤ n ∧ i = .int .i64 (j : Int) ∧ Hid (LgAt wr w.heap.size (ls.take j)) ∧ Hid (Below w.heap.size w wr)) (fun i _ => n - (intOf i).toNat)
    case atStart => exact ⟨0, by omega, rfl, by rw [List.take_zero]; exact G1, D1⟩
    case round =>
      clear G1 D1
      obtain ⟨j, hj, rfl, lg, hb⟩ := hrel
      by_cases hlt : j < n
      · have i1 : (j : Int) < (n : Int) := by omega
        have i0 : (0 : Int) ≤ (j : Int) := by omega
        obtain ⟨b, o, rfl, hr⟩ := H3.out (by omega)
        obtain ⟨u, hu, hy⟩ := hr j hlt
        have cu := (hb.out.cell (p := ⟨b, o + j, none⟩) (lt_of_cellB hu)).trans hu
        have hjl : j < ls.length := by rw [← HL.out]; exact hlt
        have lo := LW.out (ls.getD j []) (by rw [List.getD_eq_getElem?_getD, List.getElem?_eq_getElem hjl]; exact List.getElem_mem hjl)
        have AD : Hid _ := add_fun w.heap.size K0.out (ls.take j) (by rw [List.length_take]; have := LZ.out; omega) (ls.getD j []) lo.1 lo.2 u wr lg.out (hy.up hb.out (Nat.le_refl _)) (KU.out _ hb.out)
        rw [take_snoc hjl] at AD
        have KL : Hid (w.heap.size < wr.heap.size) := lg.out.lt
        clear hr hu hy lo hjl lg
        go_wp2_with fail
        refine Calls.mono AD.out ?_
        rintro e w2 ⟨rfl, lg2, fr2⟩
        have L2 : Hid (LgAt w2 w.heap.size (ls.take (j + 1))) := lg2
        have D2 : Hid (Below w.heap.size w w2) := hb.out.trans (fr2.below (Nat.le_of_lt KL.out) (Nat.le_refl _))
        clear lg2 fr2 AD hb
        go_wp2_with fail
        go_roundw
        case rel => exact ⟨j + 1, by omega, by go_num, L2, D2⟩
        case measure => simp [intOf]; omega
      · obtain rfl : j = n := by omega
        have TK : Hid (ls.take j = ls) := List.take_of_length_le (by rw [← HL.out]; exact Nat.le_refl _)
        rw [TK.out] at lg
        have PF : Hid _ := peaks_fun w.heap.size ls (by have := LZ.out; have := HL.out; omega) wr lg.out
        clear hlt hj TK
        go_wp2_with fail
        refine Calls.mono PF.out ?_
        rintro e w2 ⟨⟨v2, rfl, od2⟩, hb2⟩
        have D2 : Hid (Below w.heap.size w w2) := hb.out.trans (hb2.mono hb.out.size)
        have L2 : Hid (LgAt w2 w.heap.size ls) := lg.out.up hb2 lg.out.lt
        rcases Nat.eq_zero_or_pos j with hz | hz
        · subst hz
          have LE : Hid (ls = []) := List.length_eq_zero_iff.1 HL.out.symm
          rw [LE.out, peaksS_nil] at od2
          obtain ⟨a2, c2, rfl, _, _⟩ := od2.ds
          clear hb2 od2 PF hb lg H3
          simp only [List.length_nil]
          have DT : Hid (Below w.heap.size w w2) := D2
          have LT : Hid (LgAt w2 w.heap.size ls) := L2
          clear D2 L2
          generalize hwt : w2 = wt at *
          clear hwt
          have O6 : Hid (World.ownsRow wt wt.heap.size 23 1 (.slice none 0 0) ([] : List Value).length []) := World.ownsRow_nil _ _ _ _
          have B6 : Hid (Below wt.heap.size wt wt) := Below.refl _ _
          have UL : Hid (([] : List Value).length = ls.length) := HL.out
          have UY : Hid (∀ j, j < ls.length → By w (([] : List Value).getD j undef) (ls.getD j [])) := fun j hj => by have := HL.out; omega
          have KG : Hid (w.heap.size < wt.heap.size) := LT.out.lt
          obtain ⟨z0, z1⟩ := al1 wt #[Value.slice a1 p.length k1] 23
          have Z1 : Hid (Below _ _ _) := z1
          have B6' : Hid (Below wt.heap.size wt (wt.alloc (.cells #[Value.slice a1 p.length k1] 23))) := B6.out.trans (z1.mono B6.out.size)
          have V6 : Hid (Vb (wt.alloc (.cells #[Value.slice a1 p.length k1] 23)) wt.heap.size 0 [Value.slice a1 p.length k1] [p]) := ⟨rfl, fun j u hj => by rw [Nat.zero_add]; exact z0.cell j u hj, fun j hj => by
            obtain rfl : j = 0 := by simpa using hj
            exact H1.out.up (DT.out.trans (B6'.out.mono DT.out.size)) (Nat.le_refl _)⟩
          have O6' : Hid (World.ownsRow (wt.alloc (.cells #[Value.slice a1 p.length k1] 23)) wt.heap.size 23 1 (Value.slice none 0 0) ([] : List Value).length ([] : List Value)) := O6.out.alloc _
          clear z0 z1
          go_wp2_with (first | (refine wp_app0 rfl (.tmp 51) (.tmp 52) rfl av cv rfl rfl ?_) | (refine wp_appV rfl (.tmp 53) (.tmp 55) rfl wt.heap.size (Value.slice none 0 0) ([] : List Value) rfl O6'.out wt.heap.size 0 1 1 [Value.slice a1 p.length k1] [p] rfl rfl V6.out (by rw [UL.out, List.length_singleton]; have := LZ.out; have := HL.out; omega) B6'.out.size ?_))
          intro v7 w7 ow7 g7
          have e7 : ([] : List Value).length + [Value.slice a1 p.length k1].length = (([] : List Value) ++ [Value.slice a1 p.length k1]).length := by rw [List.length_append]
          have O7 : Hid (w7.ownsRow wt.heap.size 23 1 v7 (([] : List Value) ++ [Value.slice a1 p.length k1]).length (([] : List Value) ++ [Value.slice a1 p.length k1])) := by
            first | exact ow7 | (rw [← e7]; exact ow7)
          have B7 : Hid (Below wt.heap.size wt w7) := Below.grown B6'.out g7 B6'.out.size (fun k hk => (World.ownsRow.lt O6'.out k hk).1)
          have D7 : Hid (Below w.heap.size w w7) := DT.out.trans (B7.out.mono DT.out.size)
          have L7 : Hid (LgAt w7 w.heap.size ls) := LT.out.up B7.out KG.out
          have UA : Hid ((([] : List Value) ++ [Value.slice a1 p.length k1]).length = (ls ++ [p]).length) := by
            have : (([] : List Value) ++ [Value.slice a1 p.length k1]).length = (ls ++ [p]).length := by rw [List.length_append, List.length_append, UL.out]; rfl
            exact this
          have UH : Hid (∀ j, j < (ls ++ [p]).length → By w ((([] : List Value) ++ [Value.slice a1 p.length k1]).getD j undef) ((ls ++ [p]).getD j [])) := hold_app UL.out UY.out (fun j hj => by
            obtain rfl : j = 0 := by simpa using hj
            exact H1.out)
          have SW : Hid (∀ W, World.ownsRow W wt.heap.size 23 1 v7 (([] : List Value) ++ [Value.slice a1 p.length k1]).length (([] : List Value) ++ [Value.slice a1 p.length k1]) → Below w.heap.size w W → Sb W v7 (ls ++ [p])) := fun W hW hb => Sb.of_own hW UA.out (fun j hj => (UH.out j hj).up hb (Nat.le_refl _)) (by rw [List.length_append, List.length_singleton]; omega)
          rcases id O7.out.2 with ⟨_, e⟩ | ⟨g8, cap8, cur8, e8, hB8, _⟩
          · rw [UA.out, List.length_append, List.length_singleton] at e
            omega
          have G8 : Hid (wt.heap.size ≤ g8) := hB8
          have N1 : Hid ((ls ++ [p]).length = 0 + 1) := by
            have : (ls ++ [p]).length = 0 + 1 := by rw [List.length_append, List.length_singleton, HL.out]
            exact this
          subst e8
          rw [UA.out, N1.out] at O7 SW ⊢
          clear ow7 g7 O6 O6' V6 B6 B6' Z1 UH UL UY e7 hB8
          have R7 : Hid _ := lroot_fun w.heap.size ls (by have := LZ.out; have := HL.out; omega) w7 L7.out (KU.out _ D7.out)
          go_wp2_with fail
          refine Calls.mono R7.out ?_
          rintro e w8 ⟨rfl, hb8⟩
          have D8 : Hid (Below w.heap.size w w8) := D7.out.trans (hb8.mono D7.out.size)
          have L8 : Hid (LgAt w8 w.heap.size ls) := L7.out.up hb8 L7.out.lt
          have O8 : Hid _ := World.ownsRow.below O7.out hb8
          clear hb8 R7 L7 O7 D7
          go_wp2_with fail
          refine (RL.out w8 (H0.out.up D8.out (Nat.le_refl _)) (KU.out _ D8.out)).mono ?_
          rintro e w9 ⟨rfl, hb9⟩
          have D9 : Hid (Below w.heap.size w w9) := D8.out.trans (hb9.mono D8.out.size)
          have L9 : Hid (LgAt w9 w.heap.size ls) := L8.out.up hb9 L8.out.lt
          have O9 : Hid _ := World.ownsRow.below O8.out hb9
          clear hb9 L8 O8 D8
          have AD : Hid _ := add_fun w.heap.size K0.out ls (by have := LZ.out; have := HL.out; omega) p LP.out (by have := ZP.out; omega) (.slice a1 p.length k1) w9 L9.out (H1.out.up D9.out (Nat.le_refl _)) (KU.out _ D9.out)
          go_wp2_with (refine wp_eqD rfl (.tmp 57) (.tmp 59) _ rfl (rootS ls) (rootS_length _) rfl rfl ?_)
          refine Calls.mono AD.out ?_
          rintro e wa ⟨rfl, lga, fra⟩
          have Da : Hid (Below w.heap.size w wa) := D9.out.trans (fra.below (Nat.le_of_lt L9.out.lt) (Nat.le_refl _))
          have La : Hid (LgAt wa w.heap.size (ls ++ [p])) := lga
          have Oa : Hid _ := World.ownsRow.kept O9.out fra (.inr (by
            have h1 := G8.out
            have h2 := KG.out
            show some g8 ≠ some w.heap.size
            intro h
            injection h with h
            omega))
          clear lga fra AD L9 O9 D9
          have Ra : Hid _ := lroot_fun w.heap.size (ls ++ [p]) (by rw [N1.out]; have := LZ.out; have := HL.out; omega) wa La.out (KU.out _ Da.out)
          go_wp2_with fail
          refine Calls.mono Ra.out ?_
          rintro e wb ⟨rfl, hbb⟩
          have Db : Hid (Below w.heap.size w wb) := Da.out.trans (hbb.mono Da.out.size)
          have Lb : Hid (LgAt wb w.heap.size (ls ++ [p])) := La.out.up hbb La.out.lt
          have Ob : Hid _ := World.ownsRow.below Oa.out hbb
          clear hbb Ra La Oa Da
          go_wp2_with fail
          refine (RA.out _ wb (SW.out wb Ob.out Db.out) (KU.out _ Db.out)).mono ?_
          rintro e wc ⟨rfl, hbc⟩
          have Dc : Hid (Below w.heap.size w wc) := Db.out.trans (hbc.mono Db.out.size)
          have Lc : Hid (LgAt wc w.heap.size (ls ++ [p])) := Lb.out.up hbc Lb.out.lt
          clear hbc Lb Ob Db
          have LN : Hid _ := len_fun w.heap.size (ls ++ [p]).length wc (lg_count Lc.out (lgQ_low _ 0).ok (lgQ_length _ 0))
          rw [N1.out] at LN
          go_wp2_with (refine wp_eqD rfl (.tmp 67) (.tmp 69) _ rfl (rootS (ls ++ [p])) (rootS_length _) rfl rfl ?_)
          refine Calls.mono LN.out ?_
          rintro e wd ⟨rfl, hwd⟩
          have hwd := hwd.symm
          subst hwd
          go_wp2_with fail
          go_ret
          exact ⟨rfl, Dc.out⟩
        · have zl : ls.length ≤ 65536 := by have := LZ.out; have := HL.out; omega
          have lz : 0 < ls.length := by have := HL.out; omega
          have QP := peaksS_pos lz zl
          have QZ : (peaksS ls).length ≤ 17 := by
            have := peaksS_len ls 17
            rw [peaksS_17 (by omega)] at this
            exact this
          have FR : Hid (T.foldP nodeS (sumS []) ((peaksS ls).drop 0) = rootS ls) := by
            rw [List.drop_zero]
            exact fold_root lz zl
          have PD : Hid (Dlow (peaksS ls)) := peaksS_low ls
          obtain ⟨b, o, c2, e2, hr⟩ := od2.ds.cell_at QP
          have BL : Hid (b < w2.heap.size) := od2.low b (by rw [e2]; rfl)
          subst e2
          generalize peaksS ls = ps at *
          obtain ⟨q, hq⟩ : ∃ q, ps.length = q + 1 := ⟨ps.length - 1, by omega⟩
          rw [hq] at hr ⊢
          have hq17 : q + 1 ≤ 17 := by omega
          have HR : Hid (∀ j, j < q + 1 → w2.rangeAt b (o + j * 32) ((ps.getD j []).map b8)) := hr
          have LL : Hid (ps.length = q + 1) := hq
          have R1 : Hid (w2.rangeAt b (o + q * 32) ((ps.getD q []).map b8)) := hr q (by omega)
          have A1 : Hid _ := (PD.out.at (j := q) (by omega)).1
          have FL : Hid (ps.getD q [] = T.foldP nodeS (sumS []) (ps.drop q)) := (fold_last (by omega)).symm
          have I1 : Hid _ := info_d32.trans (congrArg some (show 32 = ((ps.getD q []).map b8).length by rw [List.length_map, A1.out]))
          have HJ : Hid (0 < j) := hz
          clear hb2 od2 PF hr hq QP QZ hb lg lz zl hz
          have q0 : (0 : Int) < (q : Int) + 1 := by omega
          have q1 : (q : Int) < (q : Int) + 1 := by omega
          generalize ps.getD q [] = dq at *
          have T1 : Hid (∀ C t, C.size = 32 → World.there (w2.alloc (.cells C t)) w2.heap.size 0 (dq.map b8).length) := fun C t hC => (al1 w2 C t).1.there (by rw [List.length_map, A1.out, Array.length_toList, hC]; omega)
          go_wp2_with (first | (refine wp_ldD rfl (.tmp 33) rfl b (o + q * 32) rfl dq R1.out A1.out ?_) | (refine wp_store_eq rfl 24 (.tmp 9) (.tmp 34) rfl w2.heap.size 0 (dq.map b8) rfl rfl (T1.out _ _ rfl) I1.out (one_b8 _) ?_))
          intro w3 hw3
          obtain ⟨b3, h3⟩ : Blk w3 w2.heap.size (dq.map b8) ∧ Below w2.heap.size w2 w3 := by
            rw [hw3.out]
            exact alst w2 _ _ _ (by rw [List.length_map, A1.out]; rfl)
          rw [FL.out] at b3
          have B3 : Hid (Blk w3 w2.heap.size ((T.foldP nodeS (sumS []) (ps.drop q)).map b8)) := b3
          have D3 : Hid (Below w.heap.size w w3) := D2.out.trans (h3.mono D2.out.size)
          have L3 : Hid (LgAt w3 w.heap.size ls) := L2.out.up h3 L2.out.lt
          have R3 : Hid (∀ j, j < q + 1 → w3.rangeAt b (o + j * 32) ((ps.getD j []).map b8)) := fun j hj => range_up (HR.out j hj) h3 (Nat.le_refl _)
          have G2 : Hid (w.heap.size < w2.heap.size) := L2.out.lt
          clear hw3 b3 h3 D2 L2 T1 R1 A1 I1 HR FL
          generalize w2.heap.size = g at *
          have wq : IntKind.i64.wrap ((q : Int) + 1 - 2) = (q : Int) - 1 := by rw [IntKind.wrap_i64]; omega
          go_wp2_with fail
          go_loopw [10] (fun i wr => ∃ K : Nat, K ≤ q ∧ i = .int .i64 ((K : Int) - 1) ∧ Hid (Blk wr g ((T.foldP nodeS (sumS []) (ps.drop K)).map b8)) ∧ Hid (LgAt wr w.heap.size ls) ∧ Hid (∀ j, j < q + 1 → wr.rangeAt b (o + j * 32) ((ps.getD j []).map b8)) ∧ Hid (Below w.heap.size w wr)) (fun i _ => (intOf i + 1).toNat)
          case atStart => exact ⟨q, by omega, by first | rfl | go_num | (congr 1; omega), B3, L3, R3, D3⟩
          case round =>
            clear B3 L3 R3 D3
            obtain ⟨K, hK, rfl, bg, lg, rr, hb⟩ := hrel
            cases K with
            | zero =>
              rw [FR.out] at bg
              have RS : Hid ((rootS ls).length = 32) := rootS_length _
              have LR : Hid _ := lroot_fun w.heap.size ls (by have := LZ.out; have := HL.out; omega)
              generalize hrt : rootS ls = rt at *
              clear rr hK
              go_wp2_with fail
              refine wp_region_up (by kernel_rfl) (by kernel_rfl) (fun U hU f hf hcl => ?_)
              have NG : Hid (∀ n, (f n).rangeAt g 0 (rt.map b8)) := fun n => (bg.out.up (hf n).out bg.out.lt).all
              have N1 : Hid _ := fun n => LR.out (f n) (lg.out.up (hf n).out lg.out.lt) (KU.out _ (hb.out.trans ((hf n).out.mono hb.out.size)))
              repeat (first | (refine quiet_ld rfl (.tmp 9) rfl g 0 rfl rt RS.out (fun W hW => by obtain ⟨n, rfl⟩ := hW; exact NG.out n) ?_; simp only [Act.put, List.setIfInBounds_toArray, List.set_cons_succ, List.set_cons_zero]) | (refine quiet_neD rfl (.tmp 48) (.tmp 49) _ rfl rt RS.out rfl rfl ?_; simp only [Act.put, List.setIfInBounds_toArray, List.set_cons_succ, List.set_cons_zero]) | go_big_quiet_step (first | (go_at_call 7; exact (N1.out _).mono fun e w'' ⟨he, hb⟩ => ⟨he, hcl.out _ _ hb⟩)))
              refine wpQuiet_nil ?_
              intro nn
              have hb3 := (hf nn).out
              generalize f nn = wt at hb3 ⊢
              have DT : Hid (Below w.heap.size w wt) := hb.out.trans (hb3.mono hb.out.size)
              have LT : Hid (LgAt wt w.heap.size ls) := lg.out.up hb3 lg.out.lt
              clear hf hcl hb3 NG N1 bg lg hb LR RS
              subst hrt
              obtain ⟨b5, o5, c5, us, e5, V5'⟩ := H0.out.vals' HL.out HJ.out
              injection e5 with e5a e5b e5c
              subst e5a e5c
              have V5 : Hid (Vb wt b5 o5 us ls) := V5'.up DT.out (Nat.le_refl _)
              have UY : Hid (∀ j, j < ls.length → By w (us.getD j undef) (ls.getD j [])) := V5'.hold
              have UL : Hid (us.length = ls.length) := V5'.len
              clear V5'
              go_wp2_with (refine wp_appV rfl (.tmp 51) (.tmp 52) rfl wt.heap.size (.slice none 0 0) [] rfl (World.ownsRow_nil _ _ _ _) b5 o5 j _ us ls rfl HL.out V5.out (by rw [UL.out]; have := HL.out; have := LZ.out; simp; omega) (Nat.le_refl _) ?_)
              intro v6 w6 ow6 g6
              have O6 : Hid (w6.ownsRow wt.heap.size 23 1 v6 us.length us) := ow6
              have B6 : Hid (Below wt.heap.size wt w6) := Below.grown (Below.refl _ _) g6 (Nat.le_refl _) (fun k hk => by cases hk)
              clear ow6 g6 V5
              have KG : Hid (w.heap.size < wt.heap.size) := LT.out.lt
              obtain ⟨z0, z1⟩ := al1 w6 #[Value.slice a1 p.length k1] 23
              have Z1 : Hid (Below _ _ _) := z1
              have B6' : Hid (Below wt.heap.size wt (w6.alloc (.cells #[Value.slice a1 p.length k1] 23))) := B6.out.trans (z1.mono B6.out.size)
              have V6 : Hid (Vb (w6.alloc (.cells #[Value.slice a1 p.length k1] 23)) w6.heap.size 0 [Value.slice a1 p.length k1] [p]) := ⟨rfl, fun j u hj => by rw [Nat.zero_add]; exact z0.cell j u hj, fun j hj => by
                obtain rfl : j = 0 := by simpa using hj
                exact H1.out.up (DT.out.trans (B6'.out.mono DT.out.size)) (Nat.le_refl _)⟩
              have O6' : Hid (World.ownsRow (w6.alloc (.cells #[Value.slice a1 p.length k1] 23)) wt.heap.size 23 1 v6 us.length us) := O6.out.alloc _
              clear z0 z1
              go_wp2_with (first | (refine wp_app0 rfl (.tmp 51) (.tmp 52) rfl av cv rfl rfl ?_) | (refine wp_appV rfl (.tmp 53) (.tmp 55) rfl wt.heap.size v6 us rfl O6'.out w6.heap.size 0 1 1 [Value.slice a1 p.length k1] [p] rfl rfl V6.out (by rw [UL.out, List.length_singleton]; have := LZ.out; have := HL.out; omega) B6'.out.size ?_))
              intro v7 w7 ow7 g7
              have e7 : us.length + [Value.slice a1 p.length k1].length = (us ++ [Value.slice a1 p.length k1]).length := by rw [List.length_append]
              have O7 : Hid (w7.ownsRow wt.heap.size 23 1 v7 (us ++ [Value.slice a1 p.length k1]).length (us ++ [Value.slice a1 p.length k1])) := by
                first | exact ow7 | (rw [← e7]; exact ow7)
              have B7 : Hid (Below wt.heap.size wt w7) := Below.grown B6'.out g7 B6'.out.size (fun k hk => (World.ownsRow.lt O6'.out k hk).1)
              have D7 : Hid (Below w.heap.size w w7) := DT.out.trans (B7.out.mono DT.out.size)
              have L7 : Hid (LgAt w7 w.heap.size ls) := LT.out.up B7.out KG.out
              have UA : Hid ((us ++ [Value.slice a1 p.length k1]).length = (ls ++ [p]).length) := by
                have : (us ++ [Value.slice a1 p.length k1]).length = (ls ++ [p]).length := by rw [List.length_append, List.length_append, UL.out]; rfl
                exact this
              have UH : Hid (∀ j, j < (ls ++ [p]).length → By w ((us ++ [Value.slice a1 p.length k1]).getD j undef) ((ls ++ [p]).getD j [])) := hold_app UL.out UY.out (fun j hj => by
                obtain rfl : j = 0 := by simpa using hj
                exact H1.out)
              have SW : Hid (∀ W, World.ownsRow W wt.heap.size 23 1 v7 (us ++ [Value.slice a1 p.length k1]).length (us ++ [Value.slice a1 p.length k1]) → Below w.heap.size w W → Sb W v7 (ls ++ [p])) := fun W hW hb => Sb.of_own hW UA.out (fun j hj => (UH.out j hj).up hb (Nat.le_refl _)) (by rw [List.length_append, List.length_singleton]; omega)
              rcases id O7.out.2 with ⟨_, e⟩ | ⟨g8, cap8, cur8, e8, hB8, _⟩
              · rw [UA.out, List.length_append, List.length_singleton] at e
                omega
              have G8 : Hid (wt.heap.size ≤ g8) := hB8
              have N1 : Hid ((ls ++ [p]).length = j + 1) := by
                have : (ls ++ [p]).length = j + 1 := by rw [List.length_append, List.length_singleton, HL.out]
                exact this
              subst e8
              rw [UA.out, N1.out] at O7 SW ⊢
              clear ow7 g7 O6 O6' V6 B6 B6' Z1 UH UL UY e7 hB8
              have R7 : Hid _ := lroot_fun w.heap.size ls (by have := LZ.out; have := HL.out; omega) w7 L7.out (KU.out _ D7.out)
              go_wp2_with fail
              refine Calls.mono R7.out ?_
              rintro e w8 ⟨rfl, hb8⟩
              have D8 : Hid (Below w.heap.size w w8) := D7.out.trans (hb8.mono D7.out.size)
              have L8 : Hid (LgAt w8 w.heap.size ls) := L7.out.up hb8 L7.out.lt
              have O8 : Hid _ := World.ownsRow.below O7.out hb8
              clear hb8 R7 L7 O7 D7
              go_wp2_with fail
              refine (RL.out w8 (H0.out.up D8.out (Nat.le_refl _)) (KU.out _ D8.out)).mono ?_
              rintro e w9 ⟨rfl, hb9⟩
              have D9 : Hid (Below w.heap.size w w9) := D8.out.trans (hb9.mono D8.out.size)
              have L9 : Hid (LgAt w9 w.heap.size ls) := L8.out.up hb9 L8.out.lt
              have O9 : Hid _ := World.ownsRow.below O8.out hb9
              clear hb9 L8 O8 D8
              have AD : Hid _ := add_fun w.heap.size K0.out ls (by have := LZ.out; have := HL.out; omega) p LP.out (by have := ZP.out; omega) (.slice a1 p.length k1) w9 L9.out (H1.out.up D9.out (Nat.le_refl _)) (KU.out _ D9.out)
              go_wp2_with (refine wp_eqD rfl (.tmp 57) (.tmp 59) _ rfl (rootS ls) (rootS_length _) rfl rfl ?_)
              refine Calls.mono AD.out ?_
              rintro e wa ⟨rfl, lga, fra⟩
              have Da : Hid (Below w.heap.size w wa) := D9.out.trans (fra.below (Nat.le_of_lt L9.out.lt) (Nat.le_refl _))
              have La : Hid (LgAt wa w.heap.size (ls ++ [p])) := lga
              have Oa : Hid _ := World.ownsRow.kept O9.out fra (.inr (by
                have h1 := G8.out
                have h2 := KG.out
                show some g8 ≠ some w.heap.size
                intro h
                injection h with h
                omega))
              clear lga fra AD L9 O9 D9
              have Ra : Hid _ := lroot_fun w.heap.size (ls ++ [p]) (by rw [N1.out]; have := LZ.out; have := HL.out; omega) wa La.out (KU.out _ Da.out)
              go_wp2_with fail
              refine Calls.mono Ra.out ?_
              rintro e wb ⟨rfl, hbb⟩
              have Db : Hid (Below w.heap.size w wb) := Da.out.trans (hbb.mono Da.out.size)
              have Lb : Hid (LgAt wb w.heap.size (ls ++ [p])) := La.out.up hbb La.out.lt
              have Ob : Hid _ := World.ownsRow.below Oa.out hbb
              clear hbb Ra La Oa Da
              go_wp2_with fail
              refine (RA.out _ wb (SW.out wb Ob.out Db.out) (KU.out _ Db.out)).mono ?_
              rintro e wc ⟨rfl, hbc⟩
              have Dc : Hid (Below w.heap.size w wc) := Db.out.trans (hbc.mono Db.out.size)
              have Lc : Hid (LgAt wc w.heap.size (ls ++ [p])) := Lb.out.up hbc Lb.out.lt
              clear hbc Lb Ob Db
              have LN : Hid _ := len_fun w.heap.size (ls ++ [p]).length wc (lg_count Lc.out (lgQ_low _ 0).ok (lgQ_length _ 0))
              rw [N1.out] at LN
              go_wp2_with (refine wp_eqD rfl (.tmp 67) (.tmp 69) _ rfl (rootS (ls ++ [p])) (rootS_length _) rfl rfl ?_)
              refine Calls.mono LN.out ?_
              rintro e wd ⟨rfl, hwd⟩
              have hwd := hwd.symm
              subst hwd
              go_wp2_with fail
              go_ret
              exact ⟨rfl, Dc.out⟩
            | succ K =>
              have e1 : ((K + 1 : Nat) : Int) - 1 = (K : Int) := by omega
              rw [e1]
              have FS : Hid _ := fold_step (ds := ps) (K := K) (by rw [LL.out]; omega)
              have RK : Hid (wr.rangeAt b (o + K * 32) ((ps.getD K []).map b8)) := rr.out K (by omega)
              have AK : Hid _ := PD.out.at (j := K) (by rw [LL.out]; omega)
              have AF : Hid _ := foldP_low (ds := ps.drop (K + 1)) (fun x hx => PD.out x (List.mem_of_mem_drop hx)) (by rw [List.length_drop, LL.out]; omega)
              have ND : Hid _ := tnode_fun (ps.getD K []) (T.foldP nodeS (sumS []) (ps.drop (K + 1))) AK.out.1 AF.out.1 AK.out.2 AF.out.2
              have NL : Hid _ := (nodeS_low (ps.getD K []) (T.foldP nodeS (sumS []) (ps.drop (K + 1)))).1
              rw [FS.out] at ND NL
              have IK : Hid _ := info_d32.trans (congrArg some (show 32 = ((ps.getD K []).map b8).length by rw [List.length_map, AK.out.1]))
              have IF : Hid _ := info_d32.trans (congrArg some (show 32 = ((T.foldP nodeS (sumS []) (ps.drop (K + 1))).map b8).length by rw [List.length_map, AF.out.1]))
              have IN : Hid _ := info_d32.trans (congrArg some (show 32 = ((T.foldP nodeS (sumS []) (ps.drop K)).map b8).length by rw [List.length_map, NL.out]))
              have kq : (K : Int) < (q : Int) + 1 := by omega
              have k0 : (0 : Int) ≤ (K : Int) := by omega
              have wk : IntKind.i64.wrap ((K : Int) - 1) = (K : Int) - 1 := by rw [IntKind.wrap_i64]; omega
              have HKQ : Hid (K + 1 ≤ q) := hK
              generalize ps.getD K [] = dk at *
              generalize T.foldP nodeS (sumS []) (ps.drop (K + 1)) = fk at *
              have KW : Hid (∀ W, Below wr.heap.size wr W → KTab W) := fun W hW => KU.out W (hb.out.trans (hW.mono hb.out.size))
              clear FS e1 hK
              go_wp2_with fail
              refine wp_region_monoSE 6 [MP.eq (.slice (some ⟨b, o, none⟩) (q + 1) c2), MP.eq (.int .i64 (K : Int)), MP.eq (.pointer (some ⟨b, o + K * 32, none⟩)), MP.eq (vB dk), MP.eq (vB fk), MP.eq (vB (T.foldP nodeS (sumS []) (ps.drop K)))] (by kernel_rfl) (by kernel_rfl) rfl (by decide) (by kernel_rfl) ?_
              apply Exists.intro
              refine ⟨fun vals => ?_, ?_, fun vals4 w4 hb4 hF hO => ?_⟩
              · simp only [putsV, dstL, List.length_cons, List.length_nil, Nat.zero_add, Nat.reduceAdd, List.getElem?_cons_zero, List.getElem?_cons_succ, Option.bind_some, Act.put, List.setIfInBounds_toArray, List.set_cons_succ, List.set_cons_zero]
                rfl
              · refine ⟨?_, ?_, ?_, ?_, ?_, ?_, trivial⟩
                · intro vals W hW hw hd
                  try simp [Region.binds] at hd
                  refine ⟨by first | rfl | simp [Region.wanted, yielded, hd], ?_⟩
                  simp [go_sem, hd]
                  exact Below.refl _ _
                · intro vals W hW hw hd
                  try simp [Region.binds] at hd
                  refine ⟨by first | rfl | simp [Region.wanted, yielded, hd], ?_⟩
                  simp [go_sem, hd]
                  exact Below.refl _ _
                · intro vals W hW hw hd
                  try simp [Region.binds] at hd
                  refine ⟨by first | rfl | simp [Region.wanted, yielded, hd], ?_⟩
                  simp [go_sem, hd, kq]
                  exact Below.refl _ _
                · intro vals W hW hw hd
                  try simp [Region.binds] at hd
                  refine ⟨by first | rfl | simp [Region.wanted, yielded, hd], ?_⟩
                  exact yields_load 24 (.tmp 44) rfl b (o + K * 32) hd (dk.map b8) _ (range_up RK.out hW.out (Nat.le_refl _)) u_d32 rfl IK.out rfl
                · intro vals W hW hw hd
                  try simp [Region.binds] at hd
                  refine ⟨by first | rfl | simp [Region.wanted, yielded, hd], ?_⟩
                  exact yields_load 24 (.tmp 9) rfl g 0 rfl (fk.map b8) _ (bg.out.up hW.out bg.out.lt).all u_d32 rfl IF.out rfl
                · intro vals W hW hw hd
                  try simp [Region.binds] at hd
                  refine ⟨by first | rfl | simp [Region.wanted, yielded, hd], ?_⟩
                  simp [go_sem, hd]
                  exact (ND.out W (KW.out W hW.out)).mono fun e w' ⟨he, hb⟩ => ⟨_, he, rfl, hb⟩
              obtain ⟨f0, f1, f2, f3, f4, f5, _⟩ := hF
              simp only [MP.eq_p] at f0 f1 f2 f3 f4 f5
              rw [f0, f1, f2, f3, f4, f5]
              simp only [List.drop_succ_cons, List.drop_zero]
              have D4 : Hid (Below w.heap.size w w4) := hb.out.trans (hb4.out.mono hb.out.size)
              have L4 : Hid (LgAt w4 w.heap.size ls) := lg.out.up hb4.out lg.out.lt
              have B4 : Hid (Blk w4 g (fk.map b8)) := bg.out.up hb4.out bg.out.lt
              have R4 : Hid (∀ j, j < q + 1 → w4.rangeAt b (o + j * 32) ((ps.getD j []).map b8)) := fun j hj => range_up (rr.out j hj) hb4.out (Nat.le_refl _)
              clear f0 f1 f2 f3 f4 f5 hb4 hO bg lg rr hb KW ND RK
              generalize hnk : T.foldP nodeS (sumS []) (ps.drop K) = nk at *
              have HNK : Hid (T.foldP nodeS (sumS []) (ps.drop K) = nk) := hnk
              clear hnk
              have T4 : Hid (w4.there g 0 (nk.map b8).length) := B4.out.there (by rw [List.length_map, List.length_map, NL.out, AF.out.1]; omega)
              go_wp2_with (refine wp_store_eq rfl 24 (.tmp 9) (.tmp 47) rfl g 0 (nk.map b8) rfl rfl T4.out IN.out (one_b8 _) ?_)
              intro w5 hw5
              have B5 : Hid (Blk w5 g (nk.map b8)) := by
                rw [hw5.out]
                exact B4.out.whole (by rw [List.length_map, List.length_map, NL.out, AF.out.1])
              have L5 : Hid (LgAt w5 w.heap.size ls) := by
                rw [hw5.out]
                exact Blk.apart L4.out (by have := G2.out; omega)
              have D5 : Hid (Below w.heap.size w w5) := by
                rw [hw5.out]
                exact below_setCells _ _ _ D4.out (by have := G2.out; omega)
              have R5 : Hid (∀ j, j < q + 1 → w5.rangeAt b (o + j * 32) ((ps.getD j []).map b8)) := by
                rw [hw5.out]
                exact fun j hj => range_apart (R4.out j hj) (by have := BL.out; omega)
              clear hw5 T4 B4 L4 D4 R4
              rw [← HNK.out] at B5
              go_wp2_with fail
              go_roundw
              case rel =>
                have hkk := HKQ.out
                exact ⟨K, by omega, by first | rfl | go_num, B5, L5, R5, D5⟩
              case measure => simp [intOf]
set_option maxRecDepth 100000 in
theorem treePeaks_met (os : Os) : laidMet Tryd.prog Rows.treePeaksRow.laid ((World.doorLaid Tryd.prog 14 os).forCall (fun _ _ => 0) ⟨#[], #[.slice none 0 0, .slice none 0 0], []⟩).memory := laidMet_of_run' 8 (by kernel_rfl) (by kernel_rfl)
set_option maxRecDepth 100000 in
theorem treePeaks_reads (os : Os) {H : Type} (enc : TypeId × Value → H) : ∃ places, DataW.whole enc Tryd.prog ((World.doorLaid Tryd.prog 14 os).forCall (fun _ _ => 0) ⟨#[], #[.slice none 0 0, .slice none 0 0], []⟩).memory Tryd.f3.params.toList Rows.treePeaksSpec.vars false #[.slice none 0 0, .slice none 0 0].toList 8 = some ([.nil, .nil], [], places) := ⟨[], by kernel_rfl⟩
set_option maxRecDepth 100000 in
theorem treePeaks_lifted (os : Os) (started : os.Started) (H : Type) (enc : TypeId × Value → H) (F : Stop.Interp) :
    ReturnsInHanded {} Tryd.checked os 3 .any ((OpenSpec.ofChange Rows.treePeaksSpec).preRow enc Tryd.prog Tryd.f3 Rows.treePeaksRow.domain false Rows.treePeaksRow.laid) (((OpenSpec.ofChange Rows.treePeaksSpec).at F).post enc Tryd.prog Tryd.f3 false true false false) := by
  obtain ⟨places, hx⟩ := treePeaks_reads os enc
  refine returnsInHanded_of_row (C := Tryd.checked) (s := (OpenSpec.ofChange Rows.treePeaksSpec)) Tryd.own started (by kernel_rfl) Tryd.func3
    (witness_row_at (enc := enc) (C := Tryd.checked) false (World.doorLaid Tryd.prog 14 os) #[.slice none 0 0, .slice none 0 0] rfl (by kernel_rfl) (by kernel_rfl) (by kernel_rfl)
      (OpenSpec.preRow_of_cond 8 hx (by kernel_rfl) (fun k hk => by cases hk) (by kernel_rfl) (treePeaks_met os))) ?_
  intro W base args ds gs before hval0 hW _ hcond hsz0 hL _ _
  have hval : ∀ (j : Nat) t v, Tryd.f3.params[j]? = some t → args[j]? = some v → Value.okWide Tryd.prog W .any base t v := hval0
  have hsz : (DataW.weightsEach Tryd.prog (Tryd.f3.params.toList ++ Rows.treePeaksSpec.plain.varTypes Tryd.prog) (ds ++ gs)).all (· ≤ reachBytes) = true := hsz0
  have hW' := hW
  obtain ⟨p, q, hA0, hV, rfl, hfz, hnd⟩ := hW
  have hA : DataW.TrodAll enc Tryd.prog W 0 (fun _ => true) true Tryd.f3.params.toList args.toList ds p := hA0
  rw [Tryd.params3] at hA hval hsz
  obtain ⟨v0, v1, d0, d1, p0, p1, rfl, rfl, rfl, h0, h1⟩ := trodAll_two hA
  obtain ⟨rfl, rfl⟩ := trodVars_none hV
  simp only [List.append_nil] at hW'
  have hlt : ∀ x ∈ p0 ++ p1, x.block < W.heap.size := fun x hx => by simpa using hW'.lt x (by simpa using hx)
  have hk0 : ∀ W' : World, Below W.heap.size W W' → DataW.Trod enc Tryd.prog W' 0 (fun b => decide (b < W.heap.size)) true 22 v0 d0 p0 := fun W' hn => Below.trod Tryd.laidOut (by kernel_rfl) (of_decide_eq_true (by kernel_rfl)) h0 hn (fun x hx => hlt x (by simp [hx]))
  obtain ⟨a0, n0, c0, rfl⟩ := okWide_slice uBss (hval 0 22 v0 rfl rfl)
  obtain ⟨fuel0, hf0⟩ := h0
  obtain ⟨l0, low0, hI0, hx0⟩ := bss_open (u := .slice a0 n0 c0) (by simpa [Value.cells] using hf0) 140737488351232 (fun elems sp hd i es sp' he => by
    have hd' : d0 = .slice elems sp := hd
    subst hd'
    have := sized_inner hsz (j := 0) rfl rfl he
    simp only [reachBytes] at this
    omega)
  have z0 : l0.length ≤ 140737488351232 := by
    rcases hx0 with ⟨_, h⟩ | ⟨es, sp, hd, h⟩
    · rw [h]; exact Nat.zero_le _
    · simp only at hd
      subst hd
      have := sized_slice hsz (j := 0) (t := 22) (e := 23) rfl rfl uBss
      rw [bytesBytes] at this
      simp only [reachBytes] at this
      omega
  have hk1 : ∀ W' : World, Below W.heap.size W W' → DataW.Trod enc Tryd.prog W' 0 (fun b => decide (b < W.heap.size)) true 23 v1 d1 p1 := fun W' hn => Below.trod Tryd.laidOut (by kernel_rfl) (of_decide_eq_true (by kernel_rfl)) h1 hn (fun x hx => hlt x (by simp [hx]))
  obtain ⟨a1, n1, c1, rfl⟩ := okWide_slice Tryd.uBytes (hval 1 23 v1 rfl rfl)
  obtain ⟨fuel1, hf1⟩ := h1
  obtain ⟨l1, low1, hI1, len1⟩ := by_of_trod (u := .slice a1 n1 c1) (by simpa [Value.cells] using hf1)
  have z1 : l1.length ≤ 140737488351232 := by
    obtain ⟨a', c', e, _⟩ := hI1
    have en : n1 = l1.length := by cases e; rfl
    rw [← en]
    rcases len_of_trod (by simpa [Value.cells] using hf1) with ⟨_, h⟩ | ⟨es, sp, hd, h⟩
    · omega
    · simp only at hd
      subst hd
      have := sized_slice hsz (j := 1) (t := 23) (e := 5) rfl rfl Tryd.uBytes
      rw [Tryd.bytesU8] at this
      simp only [reachBytes] at this
      omega
  refine (treePeaks_law _ l0 low0 z0 _ l1 low1 z1 W hI0 hI1 (ktab_one hL)).mono fun e W' ⟨he, hg⟩ => ?_
  subst he
  exact ⟨_, rfl, _, _, _, [], _, [], hW', trodAll_mk1 (shut_bool Tryd.underlying4 _), trodAll_mk2 (hk0 _ hg) (hk1 _ hg), rfl, hg.frame _, fun h => by cases h⟩

theorem treePeaks_holds : Rows.TreePeaksSaid :=
  OpenClaim.holds_of_cond 3 Tryd.f3 rfl rfl rfl rfl rfl rfl rfl ⟨rfl, rfl, rfl, rfl, rfl⟩ rfl rfl rfl rfl rfl (by kernel_rfl) Tryd.func3 (by kernel_rfl)
    (of_decide_eq_true (by kernel_rfl)) (by unfold Func.isWrapper; first | (rw [if_pos (by decide +kernel)]; kernel_rfl) | (rw [if_neg (by decide +kernel)]; exact ⟨rfl, rfl⟩))
    (fun os started H enc _ F => by rw [OpenClaim.pre_eq_preRow]; exact treePeaks_lifted os started H enc F)

theorem treePeaks_card : Rows.TreePeaksCardSaid :=
  Claim7.holds_tied_plain_at .later [] _ _ _ _ treePeaks_holds (fun _ h => by cases h) (by kernel_rfl) (fun _ h => by cases h) treePeaks_row_tie rfl ⟨rfl, rfl⟩ (by kernel_rfl) rfl
    (fun f fn hf hfn => by
      obtain rfl : f = 3 := Option.some.inj ((show Tryd.prog.funcNamed "sealring/sealringkeep.TreePeaks" = some 3 by kernel_rfl).symm.trans hf) |>.symm
      obtain rfl : fn = Tryd.f3 := (Option.some.inj (Tryd.func3.symm.trans hfn)).symm
      exact ⟨by kernel_rfl, fun j t ht => by
        rw [Tryd.params3] at ht
        have hm : t ∈ [22, 23] := by simpa using Array.mem_of_getElem? ht
        have hall : ([22, 23].all fun u => !Tryd.prog.wantsStandIn u) = true := by kernel_rfl
        exact (show Tryd.prog.wantsStandIn t = false by simpa using List.all_eq_true.1 hall t hm)⟩)
    (by kernel_rfl)
#print axioms treePeaks_card
end Go.Proofs.YtmpniingbioggabDoor
