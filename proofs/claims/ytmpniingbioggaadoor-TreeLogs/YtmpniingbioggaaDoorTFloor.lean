/- The contracts of sealringref.floor, leaves and Root. -/
import Derived.Test.YtmpniingbioggaaDoorTRef
namespace Go.Proofs.YtmpniingbioggaaDoor
open Go.RowKit
set_option linter.unusedSimpArgs false
attribute [local go_sem] YieldsP execOp
attribute [local simp] MP.eq_p
abbrev flS (ds : List (List Nat)) : List (List Nat) := T.floorL nodeS ds
def Dlow (ds : List (List Nat)) : Prop := ∀ d ∈ ds, d.length = 32 ∧ ∀ x ∈ d, x < 256
theorem Dlow.ok {ds : List (List Nat)} (h : Dlow ds) : Dok ds := fun d hd => (h d hd).1
theorem Dlow.at {ds : List (List Nat)} (h : Dlow ds) {j : Nat} (hj : j < ds.length) : (ds.getD j []).length = 32 ∧ ∀ x ∈ ds.getD j [], x < 256 := by
  rw [List.getD_eq_getElem?_getD, List.getElem?_eq_getElem hj]
  exact h _ (List.getElem_mem hj)
theorem nodeS_low (a b : List Nat) : (nodeS a b).length = 32 ∧ ∀ x ∈ nodeS a b, x < 256 := ⟨sumS_length _, sumS_low _⟩
theorem leafS_low (p : List Nat) : (leafS p).length = 32 ∧ ∀ x ∈ leafS p, x < 256 := ⟨sumS_length _, sumS_low _⟩
theorem Dlow.floor : ∀ {ds : List (List Nat)}, Dlow ds → Dlow (flS ds)
  | [], h => by simpa [flS, T.floorL] using h
  | [_], h => by simpa [flS, T.floorL] using h
  | a :: b :: ds, h => by
    intro d hd
    rw [flS, T.floorL] at hd
    rcases List.mem_cons.1 hd with rfl | hd
    · exact nodeS_low _ _
    · exact Dlow.floor (fun x hx => h x (by simp [hx])) d hd
theorem take_two {ds : List (List Nat)} {k : Nat} (h : 2 * k + 1 < ds.length) : flS (ds.take (2 * (k + 1))) = flS (ds.take (2 * k)) ++ [nodeS (ds.getD (2 * k) []) (ds.getD (2 * k + 1) [])] := by
  have e : ds.take (2 * (k + 1)) = ds.take (2 * k) ++ [ds.getD (2 * k) [], ds.getD (2 * k + 1) []] := by
    rw [show 2 * (k + 1) = 2 * k + 1 + 1 by omega, List.take_add_one, List.take_add_one, List.append_assoc]
    congr 1
    simp [List.getD_eq_getElem?_getD, h, show 2 * k < ds.length by omega]
  rw [e, flS, T.floorL_append _ _ _ (by rw [List.length_take]; omega)]
  simp [T.floorL]
theorem take_last {ds : List (List Nat)} {k : Nat} (h : 2 * k + 1 = ds.length) : flS (ds.take (2 * (k + 1))) = flS (ds.take (2 * k)) ++ [ds.getD (2 * k) []] := by
  have e : ds.take (2 * (k + 1)) = ds.take (2 * k) ++ [ds.getD (2 * k) []] := by
    rw [show 2 * (k + 1) = 2 * k + 1 + 1 by omega, List.take_of_length_le (by omega)]
    conv => lhs; rw [← List.take_append_drop (2 * k) ds]
    congr 1
    rw [List.drop_eq_getElem_cons (by omega), List.drop_eq_nil_of_le (by omega)]
    simp [List.getD_eq_getElem?_getD, show 2 * k < ds.length by omega]
  rw [e, flS, T.floorL_append _ _ _ (by rw [List.length_take]; omega)]
  simp [T.floorL]
set_option maxRecDepth 20000 in
set_option maxHeartbeats 4000000 in
theorem floor_fun (ds : List (List Nat)) (ok : Dlow ds) (zd : ds.length ≤ 1000000) (v : Value) (w : World) (hv : Ds w v ds) (hT : RTab w) :
    Calls Tryd.prog 29 #[v] w fun e w' => (∃ v', e = .returned v' ∧ Od w' w.heap.size v' (flS ds)) ∧ Below w.heap.size w w' := by
  obtain ⟨av, cv, rfl, hc, h3⟩ := hv
  have H3 : Hid _ := h3
  have OK : Hid (Dlow ds) := ok
  have HT : Hid (RTab w) := hT
  have LL : Hid (∀ k, (flS (ds.take (2 * k))).length + 1 ≤ 4398046511103) := fun k => by
    rw [flS, T.floorL_length, List.length_take]
    omega
  generalize hn : ds.length = n at *
  have HN : Hid (ds.length = n) := hn
  clear hT h3 ok hn
  go_enter Tryd.func29, Tryd.ntmps29
  go_wp2_with fail
  go_loopw [3, 4] (fun s i wr => ∃ k : Nat, 2 * k ≤ n + 1 ∧ i = .int .i64 ((2 * k : Nat) : Int) ∧ Hid (Od wr w.heap.size s (flS (ds.take (2 * k)))) ∧ Hid (Below w.heap.size w wr)) (fun _ i _ => n + 2 - (intOf i).toNat)
  case atStart => exact ⟨0, by omega, rfl, (show Od w w.heap.size _ _ by simpa [flS, T.floorL] using Od.nil w w.heap.size), Below.refl _ _⟩
  case round =>
    obtain ⟨k, hk, rfl, od, hb⟩ := hrel
    have LK : Hid _ := LL.out k
    obtain ⟨q, hq⟩ : ∃ q, q = 2 * k := ⟨_, rfl⟩
    by_cases hlt : q < n
    · have i1 : (q : Int) < (n : Int) := by omega
      obtain ⟨b, o, rfl, hr⟩ := H3.out (by omega)
      have R0 : Hid (∀ W, Below wr.heap.size wr W → W.rangeAt b (o + q * 32) ((ds.getD q []).map b8)) := fun W hW => range_up (range_up (hr q (by omega)) hb.out (Nat.le_refl _)) hW (Nat.le_refl _)
      have A0 : Hid _ := OK.out.at (j := q) (by rw [HN.out]; exact hlt)
      have I0 : Hid _ := info_d32.trans (congrArg some (show 32 = ((ds.getD q []).map b8).length by rw [List.length_map, A0.out.1]))
      by_cases hl2 : q + 1 < n
      · have i2 : (q : Int) + 1 < (n : Int) := by omega
        have R1 : Hid (∀ W, Below wr.heap.size wr W → W.rangeAt b (o + (q + 1) * 32) ((ds.getD (q + 1) []).map b8)) := fun W hW => range_up (range_up (hr (q + 1) (by omega)) hb.out (Nat.le_refl _)) hW (Nat.le_refl _)
        have A1 : Hid _ := OK.out.at (j := q + 1) (by rw [HN.out]; exact hl2)
        have I1 : Hid _ := info_d32.trans (congrArg some (show 32 = ((ds.getD (q + 1) []).map b8).length by rw [List.length_map, A1.out.1]))
        have TT : Hid _ := take_two (ds := ds) (k := k) (by rw [HN.out, ← hq]; omega)
        rw [← hq] at TT
        have ND : Hid _ := rnode_fun (ds.getD q []) (ds.getD (q + 1) []) A0.out.1 A1.out.1 A0.out.2 A1.out.2
        have NL : Hid _ := (nodeS_low (ds.getD q []) (ds.getD (q + 1) [])).1
        rw [← hq] at od LK ⊢
        have w1 : IntKind.i64.wrap ((q : Int) + 1) = (q : Int) + 1 := by rw [IntKind.wrap_i64]; omega
        have w2' : IntKind.i64.wrap ((q : Int) + 2) = (q : Int) + 2 := by rw [IntKind.wrap_i64]; omega
        generalize nodeS (ds.getD q []) (ds.getD (q + 1) []) = nn at *
        generalize ds.getD q [] = da at *
        generalize ds.getD (q + 1) [] = db at *
        have i0 : (0 : Int) ≤ (q : Int) := by omega
        have i00 : (0 : Int) ≤ (q : Int) + 1 := by omega
        have t1 : ((q : Int) + 1).toNat = q + 1 := by omega
        have HQ : Hid (q = 2 * k) := hq
        have HK : Hid (2 * k ≤ n + 1) := hk
        clear hr H3 A0 A1 OK LL hk hc zd hq
        go_wp2_with fail
        refine wp_region_monoSE 12 [MP.eq u3, MP.eq (.slice (some ⟨b, o, none⟩) n cv), MP.eq (.int .i64 (q : Int)), MP.eq (.pointer (some ⟨b, o + q * 32, none⟩)), MP.eq (vB da), MP.eq (.slice (some ⟨b, o, none⟩) n cv), MP.eq (.int .i64 (q : Int)), MP.eq (.int .i64 ((q : Int) + 1)), MP.eq (.pointer (some ⟨b, o + (q + 1) * 32, none⟩)), MP.eq (vB db), MP.eq (vB nn), MP.d1 nn] (by kernel_rfl) (by kernel_rfl) rfl (by decide) (by kernel_rfl) ?_
        apply Exists.intro
        refine ⟨fun vals => ?_, ?_, fun vals2 w2 hb2 hF hO => ?_⟩
        · simp only [putsV, dstL, List.length_cons, List.length_nil, Nat.zero_add, Nat.reduceAdd, List.getElem?_cons_zero, List.getElem?_cons_succ, Option.bind_some, Act.put, List.setIfInBounds_toArray, List.set_cons_succ, List.set_cons_zero]
          rfl
        · refine ⟨?_, ?_, ?_, ?_, ?_, ?_, ?_, ?_, ?_, ?_, ?_, ?_, trivial⟩
          · intro vals W hW hw hd
            try simp [Region.binds] at hd
            refine ⟨by first | rfl | simp [Region.wanted, yielded, hd], ?_⟩
            have h3 : vals 13 = u3 := (hw.out 13 (by kernel_rfl)).trans rfl
            simp [go_sem, h3]
            exact Below.refl _ _
          · intro vals W hW hw hd
            try simp [Region.binds] at hd
            refine ⟨by first | rfl | simp [Region.wanted, yielded, hd], ?_⟩
            simp [go_sem, hd]
            exact Below.refl _ _
          · intro vals W hW hw hd
            try simp [Region.binds] at hd
            refine ⟨by first | rfl | simp [Region.wanted, yielded, hd], ?_⟩
            simp [go_sem, hd]
            exact Below.refl _ _
          · intro vals W hW hw hd
            try simp [Region.binds] at hd
            refine ⟨by first | rfl | simp [Region.wanted, yielded, hd], ?_⟩
            simp [go_sem, hd, i0, i1]
            exact Below.refl _ _
          · intro vals W hW hw hd
            try simp [Region.binds] at hd
            refine ⟨by first | rfl | simp [Region.wanted, yielded, hd], ?_⟩
            exact yields_load 24 (.tmp 19) rfl b (o + q * 32) hd (da.map b8) _ (R0.out W hW.out) u_d32 rfl I0.out rfl
          · intro vals W hW hw hd
            try simp [Region.binds] at hd
            refine ⟨by first | rfl | simp [Region.wanted, yielded, hd], ?_⟩
            simp [go_sem, hd]
            exact Below.refl _ _
          · intro vals W hW hw hd
            try simp [Region.binds] at hd
            refine ⟨by first | rfl | simp [Region.wanted, yielded, hd], ?_⟩
            simp [go_sem, hd]
            exact Below.refl _ _
          · intro vals W hW hw hd
            try simp [Region.binds] at hd
            refine ⟨by first | rfl | simp [Region.wanted, yielded, hd], ?_⟩
            simp [go_sem, hd, w1]
            exact Below.refl _ _
          · intro vals W hW hw hd
            try simp [Region.binds] at hd
            refine ⟨by first | rfl | simp [Region.wanted, yielded, hd], ?_⟩
            simp [go_sem, hd, i00, i2, t1]
            exact Below.refl _ _
          · intro vals W hW hw hd
            try simp [Region.binds] at hd
            refine ⟨by first | rfl | simp [Region.wanted, yielded, hd], ?_⟩
            exact yields_load 24 (.tmp 24) rfl b (o + (q + 1) * 32) hd (db.map b8) _ (R1.out W hW.out) u_d32 rfl I1.out rfl
          · intro vals W hW hw hd
            try simp [Region.binds] at hd
            refine ⟨by first | rfl | simp [Region.wanted, yielded, hd], ?_⟩
            simp [go_sem, hd]
            exact (ND.out W (HT.out.up (hb.out.trans (hW.out.mono hb.out.size)) HT.out.pos)).mono fun e w' ⟨he, hb⟩ => ⟨_, he, rfl, hb⟩
          · intro vals W hW hw hd
            try simp [Region.binds] at hd
            refine ⟨by first | rfl | simp [Region.wanted, yielded, hd], ?_⟩
            exact yields_d1 NL.out rfl hd
        obtain ⟨f0, f1, f2, f3, f4, f5, f6, f7, f8, f9, f10, f11, _⟩ := hF
        simp only [MP.eq_p] at f0 f1 f2 f3 f4 f5 f6 f7 f8 f9 f10
        obtain ⟨g1, f11, cc1⟩ := f11
        rw [f0, f11]
        simp only [List.drop_succ_cons, List.drop_zero]
        have B2 : Hid (Below wr.heap.size wr w2) := hb2.out
        have C1 : Hid (w2.rangeAt g1 0 (nn.map b8)) := cc1
        generalize vals2 13 = x13
        clear f0 f1 f2 f3 f4 f5 f6 f7 f8 f9 f10 f11 cc1 hb2 hO R0 R1 ND I0 I1
        go_wp2_with (refine wp_appD rfl (.tmp 16) (.tmp 27) rfl w.heap.size _ (flS (ds.take q)) wr g1 nn rfl od.out B2.out rfl C1.out NL.out LK.out hb.out.size ?_)
        intro v4 w4 o4 hb4 _
        rw [← TT.out] at o4
        have O4 : Hid (Od w4 w.heap.size v4 (flS (ds.take (2 * (k + 1))))) := o4
        have D4 : Hid (Below w.heap.size w w4) := hb.out.trans hb4
        clear o4 hb4 B2 C1 od hb
        go_wp2_with fail
        go_roundw
        case rel =>
          have hq := HQ.out
          exact ⟨k + 1, by omega, by congr 1; omega, O4, D4⟩
        case measure => simp [intOf]; omega
      · have i2 : ¬ (q : Int) + 1 < (n : Int) := by omega
        have TT : Hid _ := take_last (ds := ds) (k := k) (by rw [HN.out, ← hq]; omega)
        rw [← hq] at TT
        rw [← hq] at od LK ⊢
        have w1 : IntKind.i64.wrap ((q : Int) + 1) = (q : Int) + 1 := by rw [IntKind.wrap_i64]; omega
        have w2' : IntKind.i64.wrap ((q : Int) + 2) = (q : Int) + 2 := by rw [IntKind.wrap_i64]; omega
        have AL : Hid ((ds.getD q []).length = 32) := A0.out.1
        generalize ds.getD q [] = da at *
        have i0 : (0 : Int) ≤ (q : Int) := by omega
        have HQ : Hid (q = 2 * k) := hq
        have HK : Hid (2 * k ≤ n + 1) := hk
        have RW : Hid (wr.rangeAt b (o + q * 32) (da.map b8)) := R0.out wr (Below.refl _ _)
        clear hr H3 A0 OK LL hk hc zd hq R0
        go_wp2_with (first | (refine wpList_load_mid rfl 24 (.tmp 32) rfl b (o + q * 32) rfl (da.map b8) _ RW.out u_d32 rfl I0.out ?_) | (refine wp_bsD rfl (.tmp 33) rfl da AL.out rfl ?_))
        intro w2 cc1 hb2
        have B2 : Hid (Below wr.heap.size wr w2) := hb2
        have C1 : Hid (w2.rangeAt wr.heap.size 0 (da.map b8)) := cc1
        clear cc1 hb2 RW I0
        go_wp2_with (refine wp_appD rfl (.tmp 29) (.tmp 34) rfl w.heap.size _ (flS (ds.take q)) wr _ da rfl od.out B2.out rfl C1.out AL.out LK.out hb.out.size ?_)
        intro v4 w4 o4 hb4 _
        rw [← TT.out] at o4
        have O4 : Hid (Od w4 w.heap.size v4 (flS (ds.take (2 * (k + 1))))) := o4
        have D4 : Hid (Below w.heap.size w w4) := hb.out.trans hb4
        clear o4 hb4 B2 C1 od hb
        go_wp2_with fail
        go_roundw
        case rel =>
          have hq := HQ.out
          exact ⟨k + 1, by omega, by congr 1; omega, O4, D4⟩
        case measure => simp [intOf]; omega
    · have i1 : ¬ (q : Int) < (n : Int) := by omega
      have TA : Hid (ds.take (2 * k) = ds) := List.take_of_length_le (by rw [HN.out]; omega)
      rw [TA.out] at od
      rw [← hq]
      clear hq hk TA LK LL
      go_wp2_with fail
      go_ret
      exact ⟨⟨_, rfl, od.out⟩, hb.out⟩
set_option maxRecDepth 20000 in
set_option maxHeartbeats 4000000 in
theorem leaves_fun (ls : List (List Nat)) (low : ∀ p ∈ ls, (∀ x ∈ p, x < 256) ∧ p.length ≤ 500000000000000) (zl : ls.length ≤ 1000000) (v : Value) (w : World) (hv : Sb w v ls) (hT : RTab w) :
    Calls Tryd.prog 28 #[v] w fun e w' => (∃ v', e = .returned v' ∧ Od w' w.heap.size v' (ls.map leafS)) ∧ Below w.heap.size w w' := by
  obtain ⟨av, cv, rfl, hc, h3⟩ := hv
  have H3 : Hid _ := h3
  have LO : Hid _ := low
  have HT : Hid (RTab w) := hT
  generalize hn : ls.length = n at *
  have HN : Hid (ls.length = n) := hn
  clear hT h3 low hn hc
  go_enter Tryd.func28, Tryd.ntmps28
  go_wp2_with fail
  go_loopw [3, 8] (fun s i wr => ∃ k : Nat, k ≤ n ∧ i = .int .i64 (k : Int) ∧ Hid (Od wr w.heap.size s ((ls.map leafS).take k)) ∧ Hid (Below w.heap.size w wr)) (fun _ i _ => n - (intOf i).toNat)
  case atStart => exact ⟨0, by omega, rfl, (show Od w w.heap.size _ _ by simpa using Od.nil w w.heap.size), Below.refl _ _⟩
  case round =>
    obtain ⟨k, hk, rfl, od, hb⟩ := hrel
    by_cases hlt : k < n
    · have i1 : (k : Int) < (n : Int) := by omega
      have i0 : (0 : Int) ≤ (k : Int) := by omega
      obtain ⟨b, o, rfl, hr⟩ := H3.out (by omega)
      obtain ⟨u, hu, hy⟩ := hr k hlt
      have c1 := (hb.out.cell (p := ⟨b, o + k, none⟩) (lt_of_cellB hu)).trans hu
      have hkl : k < ls.length := by rw [HN.out]; exact hlt
      have lo := LO.out (ls.getD k []) (by rw [List.getD_eq_getElem?_getD, List.getElem?_eq_getElem hkl]; exact List.getElem_mem hkl)
      have RL : Hid _ := rleaf_fun (ls.getD k []) lo.1 lo.2
      have LL : Hid _ := (leafS_low (ls.getD k [])).1
      have TT : Hid ((ls.map leafS).take k ++ [leafS (ls.getD k [])] = (ls.map leafS).take (k + 1)) := by
        have : (ls.map leafS).take k ++ [leafS (ls.getD k [])] = (ls.map leafS).take (k + 1) := by
          rw [List.take_add_one]
          congr 1
          simp [List.getD_eq_getElem?_getD, hkl]
        exact this
      have LK : Hid (((ls.map leafS).take k).length + 1 ≤ 4398046511103) := by
        have : ((ls.map leafS).take k).length + 1 ≤ 4398046511103 := by rw [List.length_take, List.length_map, HN.out]; omega
        exact this
      have BY : Hid (By wr u (ls.getD k [])) := hy.up hb.out (Nat.le_refl _)
      generalize leafS (ls.getD k []) = lf at *
      generalize ls.getD k [] = p at *
      clear hr H3 lo LO hy hu
      go_wp2_with (refine wp_conv rfl (.tmp 13) rfl _ p rfl BY.out ?_)
      refine (RL.out wr (HT.out.up hb.out HT.out.pos)).mono ?_
      rintro e w2 ⟨rfl, hb2⟩
      have B2 : Hid (Below wr.heap.size wr w2) := hb2
      clear hb2 RL BY
      go_wp2_with (refine wp_bsD rfl (.tmp 15) rfl lf LL.out rfl ?_)
      intro w3 cc1 hb3
      have B3 : Hid (Below wr.heap.size wr w3) := B2.out.trans (hb3.mono B2.out.size)
      have C1 : Hid (w3.rangeAt w2.heap.size 0 (lf.map b8)) := cc1
      clear cc1 hb3 B2
      go_wp2_with (refine wp_appD rfl (.tmp 12) (.tmp 16) rfl w.heap.size _ ((ls.map leafS).take k) wr _ lf rfl od.out B3.out rfl C1.out LL.out LK.out hb.out.size ?_)
      intro v4 w4 o4 hb4 _
      rw [TT.out] at o4
      have O4 : Hid (Od w4 w.heap.size v4 ((ls.map leafS).take (k + 1))) := o4
      have D4 : Hid (Below w.heap.size w w4) := hb.out.trans hb4
      clear o4 hb4 B3 C1 od hb
      go_wp2_with fail
      go_roundw
      case rel => exact ⟨k + 1, by omega, by go_num, O4, D4⟩
      case measure => simp [intOf]; omega
    · have i1 : ¬ (k : Int) < (n : Int) := by omega
      obtain rfl : k = n := by omega
      have TA : Hid ((ls.map leafS).take k = ls.map leafS) := List.take_of_length_le (by rw [List.length_map, HN.out]; exact Nat.le_refl _)
      rw [TA.out] at od
      clear TA
      go_wp2_with fail
      go_ret
      exact ⟨⟨_, rfl, od.out⟩, hb.out⟩
theorem Dlow.leaves (ls : List (List Nat)) : Dlow (ls.map leafS) := by
  intro d hd
  obtain ⟨p, _, rfl⟩ := List.mem_map.1 hd
  exact leafS_low p
def lenS : Value → Nat
  | .slice _ n _ => n
  | _ => 0
def rootS (ls : List (List Nat)) : List Nat := T.top nodeS (sumS []) (ls.map leafS)
theorem rootS_nil : rootS [] = sumS [] := rfl
set_option maxRecDepth 20000 in
set_option maxHeartbeats 4000000 in
theorem rroot_fun (ls : List (List Nat)) (low : ∀ p ∈ ls, (∀ x ∈ p, x < 256) ∧ p.length ≤ 500000000000000) (zl : ls.length ≤ 1000000) (v : Value) (w : World) (hv : Sb w v ls) (hT : RTab w) :
    Calls Tryd.prog 16 #[v] w fun e w' => e = .returned (vB (rootS ls)) ∧ Below w.heap.size w w' := by
  obtain ⟨av, cv, rfl, hc, h3⟩ := id hv
  have HV : Hid (Sb w _ ls) := hv
  have HT : Hid (RTab w) := hT
  have ID : Hid (∀ xs : List Nat, xs.length = 32 → (Tryd.prog.info? 24).map (·.size) = some (xs.map b8).length) := fun xs h => info_d32.trans (congrArg some (by rw [List.length_map, h]))
  obtain ⟨x0, x1⟩ := al1 w #[Value.int IntKind.u8 0, Value.int IntKind.u8 0, Value.int IntKind.u8 0, Value.int IntKind.u8 0, Value.int IntKind.u8 0, Value.int IntKind.u8 0, Value.int IntKind.u8 0, Value.int IntKind.u8 0, Value.int IntKind.u8 0, Value.int IntKind.u8 0, Value.int IntKind.u8 0, Value.int IntKind.u8 0, Value.int IntKind.u8 0, Value.int IntKind.u8 0, Value.int IntKind.u8 0, Value.int IntKind.u8 0, Value.int IntKind.u8 0, Value.int IntKind.u8 0, Value.int IntKind.u8 0, Value.int IntKind.u8 0, Value.int IntKind.u8 0, Value.int IntKind.u8 0, Value.int IntKind.u8 0, Value.int IntKind.u8 0, Value.int IntKind.u8 0, Value.int IntKind.u8 0, Value.int IntKind.u8 0, Value.int IntKind.u8 0, Value.int IntKind.u8 0, Value.int IntKind.u8 0, Value.int IntKind.u8 0, Value.int IntKind.u8 0] 24
  have X0 : Hid (Blk _ _ ((List.replicate 32 0).map b8)) := x0
  have X1 : Hid (Below _ _ _) := x1
  have LF : Hid _ := leaves_fun ls low zl
  rcases Nat.eq_zero_or_pos ls.length with hz | hz
  · obtain rfl : ls = [] := List.length_eq_zero_iff.1 hz
    have S0 : Hid (∀ w, RTab w → Calls Tryd.prog 33 #[.string (sOf [])] w fun e w' => e = .returned (vB (rootS [])) ∧ Below w.heap.size w w') := rsum_fun [] (by simp) (by simp)
    have ML : Hid ((rootS []).length = 32) := by rw [rootS_nil]; exact sumS_length _
    generalize rootS [] = mk at *
    clear hv hT low zl h3 LF x0 x1
    go_enter Tryd.func16, Tryd.ntmps16
    go_wp2_with fail
    generalize w.alloc (Obj.cells #[Value.int IntKind.u8 0, Value.int IntKind.u8 0, Value.int IntKind.u8 0, Value.int IntKind.u8 0, Value.int IntKind.u8 0, Value.int IntKind.u8 0, Value.int IntKind.u8 0, Value.int IntKind.u8 0, Value.int IntKind.u8 0, Value.int IntKind.u8 0, Value.int IntKind.u8 0, Value.int IntKind.u8 0, Value.int IntKind.u8 0, Value.int IntKind.u8 0, Value.int IntKind.u8 0, Value.int IntKind.u8 0, Value.int IntKind.u8 0, Value.int IntKind.u8 0, Value.int IntKind.u8 0, Value.int IntKind.u8 0, Value.int IntKind.u8 0, Value.int IntKind.u8 0, Value.int IntKind.u8 0, Value.int IntKind.u8 0, Value.int IntKind.u8 0, Value.int IntKind.u8 0, Value.int IntKind.u8 0, Value.int IntKind.u8 0, Value.int IntKind.u8 0, Value.int IntKind.u8 0, Value.int IntKind.u8 0, Value.int IntKind.u8 0] 24) = w1 at *
    refine Calls.mono (S0.out w1 (HT.out.up X1.out HT.out.pos)) ?_
    rintro e w4 ⟨rfl, hb4⟩
    have D4 : Hid (Below w.heap.size w w4) := X1.out.trans (hb4.mono X1.out.size)
    have Y4 : Hid (Blk w4 w.heap.size ((List.replicate 32 0).map b8)) := X0.out.up hb4 X0.out.lt
    clear hb4 X0 X1
    have T1 : Hid (w4.there w.heap.size 0 (mk.map b8).length) := Y4.out.there (by rw [List.length_map, ML.out]; simp)
    go_wp2_with (refine wp_store_eq rfl 24 (.tmp 2) (.tmp 7) rfl w.heap.size 0 (mk.map b8) rfl rfl T1.out (ID.out mk ML.out) (one_b8 _) ?_)
    intro w5 hw5
    go_wp2_with fail
    refine bodyPost_ret (v := vB mk) ?_ rfl ⟨rfl, ?_⟩
    · rw [hw5.out]
      exact results_cell (b := w.heap.size) rfl rfl (World.rangeAt_setCells_same _ _ _ _ T1.out) u_d32 rfl (ID.out mk ML.out)
    · rw [hw5.out]
      exact below_setCells _ _ _ D4.out (Nat.le_refl _)
  · have lz : ¬ (ls.length : Int) = 0 := by omega
    have TP : Hid (0 < (ls.map leafS).length) := by
      have : 0 < (ls.map leafS).length := by rw [List.length_map]; exact hz
      exact this
    have TZ : Hid ((ls.map leafS).length ≤ 1000000) := by
      have : (ls.map leafS).length ≤ 1000000 := by rw [List.length_map]; exact zl
      exact this
    have DL : Hid _ := Dlow.leaves ls
    have RS : Hid (T.top nodeS (sumS []) (ls.map leafS) = rootS ls) := rfl
    generalize rootS ls = mk at *
    generalize hll : ls.map leafS = ll at *
    generalize ls.length = n at *
    clear hv hT low zl h3 x0 x1 hc hz hll
    go_enter Tryd.func16, Tryd.ntmps16
    go_wp2_with fail
    generalize w.alloc (Obj.cells #[Value.int IntKind.u8 0, Value.int IntKind.u8 0, Value.int IntKind.u8 0, Value.int IntKind.u8 0, Value.int IntKind.u8 0, Value.int IntKind.u8 0, Value.int IntKind.u8 0, Value.int IntKind.u8 0, Value.int IntKind.u8 0, Value.int IntKind.u8 0, Value.int IntKind.u8 0, Value.int IntKind.u8 0, Value.int IntKind.u8 0, Value.int IntKind.u8 0, Value.int IntKind.u8 0, Value.int IntKind.u8 0, Value.int IntKind.u8 0, Value.int IntKind.u8 0, Value.int IntKind.u8 0, Value.int IntKind.u8 0, Value.int IntKind.u8 0, Value.int IntKind.u8 0, Value.int IntKind.u8 0, Value.int IntKind.u8 0, Value.int IntKind.u8 0, Value.int IntKind.u8 0, Value.int IntKind.u8 0, Value.int IntKind.u8 0, Value.int IntKind.u8 0, Value.int IntKind.u8 0, Value.int IntKind.u8 0, Value.int IntKind.u8 0] 24) = w1 at *
    refine (LF.out _ w1 (HV.out.up X1.out (Nat.le_refl _)) (HT.out.up X1.out HT.out.pos)).mono ?_
    rintro e w2 ⟨⟨v2, rfl, od2⟩, hb2⟩
    have D2 : Hid (Below w.heap.size w w2) := X1.out.trans (hb2.mono X1.out.size)
    have Y2 : Hid (Blk w2 w.heap.size ((List.replicate 32 0).map b8)) := X0.out.up hb2 X0.out.lt
    have O2 : Hid (Ds w2 v2 ll) := od2.ds
    clear hb2 od2 X0 X1 HV LF
    go_wp2_with fail
    go_loopw [3] (fun s wr => ∃ ds : List (List Nat), Hid (Ds wr s ds) ∧ Hid (Dlow ds) ∧ Hid (0 < ds.length) ∧ Hid (ds.length ≤ 1000000) ∧ Hid (T.top nodeS (sumS []) ds = mk) ∧ Hid (Blk wr w.heap.size ((List.replicate 32 0).map b8)) ∧ Hid (Below w.heap.size w wr)) (fun s _ => lenS s)
    case atStart => exact ⟨ll, O2, DL, TP, TZ, RS, Y2, D2⟩
    case round =>
      clear O2 DL TP TZ RS Y2 D2
      obtain ⟨ds, od, dl, dp, dz, rs, y0, hb⟩ := hrel
      obtain ⟨sa, sc, rfl, hcs, h3⟩ := id od.out
      by_cases h1 : 1 < ds.length
      · have i1 : (1 : Int) < (ds.length : Int) := by omega
        have FF : Hid _ := floor_fun ds dl.out dz.out
        have FT : Hid _ := T.top_floor nodeS (sumS []) dp.out
        have FL : Hid _ := T.floorL_length nodeS ds
        have H1 : Hid (1 < ds.length) := h1
        clear hcs h3 h1
        generalize hm : ds.length = m at *
        go_wp2_with fail
        refine (FF.out _ wr od.out (HT.out.up hb.out HT.out.pos)).mono ?_
        rintro e w3 ⟨⟨v3, rfl, od3⟩, hb3⟩
        have D3 : Hid (Below w.heap.size w w3) := hb.out.trans (hb3.mono hb.out.size)
        have Y3 : Hid (Blk w3 w.heap.size ((List.replicate 32 0).map b8)) := y0.out.up hb3 y0.out.lt
        obtain ⟨a3, c3, e3, hc3, h33⟩ := id od3.ds
        have O3 : Hid (Ds w3 v3 (flS ds)) := od3.ds
        have E3 : Hid (lenS v3 = (flS ds).length) := by rw [e3]; exact rfl
        clear hb3 od3 hb y0 FF e3 h33 hc3
        go_wp2_with fail
        go_roundw
        case rel => exact ⟨flS ds, O3, dl.out.floor, by rw [FL.out]; exact (by have := H1.out; omega : 0 < (m + 1) / 2), by rw [FL.out]; exact (by have := dz.out; omega : (m + 1) / 2 ≤ 1000000), by rw [FT.out]; exact rs, Y3, D3⟩
        case measure =>
          rw [E3.out, FL.out]
          simp only [lenS]
          have := H1.out
          omega
      · have i1 : ¬ (1 : Int) < (ds.length : Int) := by omega
        have e1 : ds.length = 1 := by have := dp.out; omega
        obtain ⟨d, rfl⟩ := List.length_eq_one_iff.1 e1
        obtain ⟨b, o, rfl, hr⟩ := h3 (by simp)
        have hr0 := hr 0 (by simp)
        rw [Nat.zero_mul, Nat.add_zero] at hr0
        have R0 : Hid (wr.rangeAt b o (d.map b8)) := hr0
        have LD : Hid (d.length = 32) := (dl.out d (by simp)).1
        have ED : Hid (d = mk) := rs.out
        clear hr hr0 h3 e1 hcs od dl dp dz rs
        simp only [List.length_singleton] at i1 ⊢
        have T1 : Hid (wr.there w.heap.size 0 (d.map b8).length) := y0.out.there (by rw [List.length_map, LD.out]; simp)
        go_wp2_with (first | (refine wpList_load_mid rfl 24 (.tmp 16) rfl b o rfl (d.map b8) _ R0.out u_d32 rfl (ID.out d LD.out) ?_) | (refine wp_store_eq rfl 24 (.tmp 2) (.tmp 17) rfl w.heap.size 0 (d.map b8) rfl rfl T1.out (ID.out d LD.out) (one_b8 _) ?_))
        intro w5 hw5
        go_wp2_with fail
        refine bodyPost_ret (v := vB d) ?_ rfl ⟨by rw [ED.out], ?_⟩
        · rw [hw5.out]
          exact results_cell (b := w.heap.size) rfl rfl (World.rangeAt_setCells_same _ _ _ _ T1.out) u_d32 rfl (ID.out d LD.out)
        · rw [hw5.out]
          exact below_setCells _ _ _ hb.out (Nat.le_refl _)
end Go.Proofs.YtmpniingbioggaaDoor
