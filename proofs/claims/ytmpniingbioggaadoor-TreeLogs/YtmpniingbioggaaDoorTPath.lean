/- The contract of sealringref.Path. -/
import Derived.Test.YtmpniingbioggaaDoorTFloor
namespace Go.Proofs.YtmpniingbioggaaDoor
open Go.RowKit
set_option linter.unusedSimpArgs false
attribute [local go_sem] YieldsP execOp
attribute [local simp] MP.eq_p
theorem i64_xor1 (i : Nat) (h : i < 4611686018427387904) : bits .xor .i64 (i : Int) 1 = ((i ^^^ 1 : Nat) : Int) := by
  show IntKind.i64.wrap (((BitVec.ofInt 64 (i : Int) ^^^ BitVec.ofInt 64 1).toNat : Nat) : Int) = _
  have e1 : (BitVec.ofInt 64 (i : Int)).toNat = i := by rw [BitVec.toNat_ofInt]; omega
  have e2 : (BitVec.ofInt 64 1).toNat = 1 := rfl
  have hx := T.xor_one i
  rw [BitVec.toNat_xor, e1, e2, IntKind.wrap_i64]
  split at hx <;> omega
def pathS (ls : List (List Nat)) (i : Nat) : List (List Nat) := T.path nodeS (ls.map leafS) i
theorem Ds.cell_at {w : World} {v : Value} {ds : List (List Nat)} (h : Ds w v ds) (hp : 0 < ds.length) : ∃ b o c, v = .slice (some ⟨b, o, none⟩) ds.length c ∧ ∀ j, j < ds.length → w.rangeAt b (o + j * 32) ((ds.getD j []).map b8) := by
  obtain ⟨a, c, e, _, h3⟩ := h
  obtain ⟨b, o, rfl, hr⟩ := h3 hp
  exact ⟨b, o, c, e, hr⟩
theorem get_list {ds : List (List Nat)} {j : Nat} (h : j < ds.length) : (ds[j]?).toList = [ds.getD j []] := by
  rw [List.getD_eq_getElem?_getD, List.getElem?_eq_getElem h]
  rfl
theorem get_none {ds : List (List Nat)} {j : Nat} (h : ¬ j < ds.length) : (ds[j]?).toList = [] := by
  rw [List.getElem?_eq_none (by omega)]
  rfl
set_option maxRecDepth 20000 in
set_option maxHeartbeats 4000000 in
theorem rpath_fun (ls : List (List Nat)) (low : ∀ p ∈ ls, (∀ x ∈ p, x < 256) ∧ p.length ≤ 500000000000000) (zl : ls.length ≤ 1000000) (i : Nat) (hi : i < ls.length) (v : Value) (w : World) (hv : Sb w v ls) (hT : RTab w) :
    Calls Tryd.prog 10 #[v, .int .i64 (i : Int)] w fun e w' => (∃ v', e = .returned (.tuple #[v', .int .i64 0]) ∧ Od w' w.heap.size v' (pathS ls i)) ∧ Below w.heap.size w w' := by
  obtain ⟨av, cv, rfl, hc, h3⟩ := id hv
  have HV : Hid (Sb w _ ls) := hv
  have HT : Hid (RTab w) := hT
  have LF : Hid _ := leaves_fun ls low zl
  have DL : Hid _ := Dlow.leaves ls
  have PS : Hid ([] ++ T.path nodeS (ls.map leafS) i = pathS ls i) := rfl
  have j0 : ¬ (i : Int) < 0 := by omega
  have j1 : ¬ (ls.length : Int) ≤ (i : Int) := by omega
  have LL : Hid (i < (ls.map leafS).length ∧ (ls.map leafS).length ≤ 1000000) := by
    have : i < (ls.map leafS).length ∧ (ls.map leafS).length ≤ 1000000 := by rw [List.length_map]; exact ⟨hi, zl⟩
    exact this
  generalize pathS ls i = target at *
  generalize ls.map leafS = ll at *
  generalize ls.length = n at *
  clear hv hT low h3 hc hi zl
  go_enter Tryd.func10, Tryd.ntmps10
  go_wp2_with fail
  refine (LF.out _ w HV.out HT.out).mono ?_
  rintro e w2 ⟨⟨v2, rfl, od2⟩, hb2⟩
  have D2 : Hid (Below w.heap.size w w2) := hb2
  have O2 : Hid (∃ B1, w.heap.size ≤ B1 ∧ Od w2 B1 v2 ll ∧ ∀ g, (Value.slice none 0 0).ownBlock = some g → g < B1) := ⟨_, Nat.le_refl _, od2, fun g h => by cases h⟩
  clear hb2 od2 HV LF
  go_wp2_with fail
  go_loopw [1, 6, 7] (fun ix o s wr => ∃ (j : Nat) (ds out : List (List Nat)), ix = .int .i64 (j : Int) ∧ Hid (∃ B1, w.heap.size ≤ B1 ∧ Od wr B1 s ds ∧ ∀ g, o.ownBlock = some g → g < B1) ∧ Hid (Dlow ds) ∧ Hid (j < ds.length ∧ ds.length ≤ 1000000) ∧ Hid (Od wr w.heap.size o out) ∧ Hid (out.length + ds.length ≤ 1000001) ∧ Hid (out ++ T.path nodeS ds j = target) ∧ Hid (Below w.heap.size w wr)) (fun _ _ s _ => lenS s)
  case atStart => exact ⟨i, ll, [], rfl, O2, DL, LL, Od.nil _ _, (show 0 + ll.length ≤ 1000001 by have := LL.out.2; omega), PS, D2⟩
  case round =>
    clear O2 DL PS LL D2 j0 j1
    obtain ⟨j, ds, out, rfl, od, dl, dp, oo, ol, rs, hb⟩ := hrel
    by_cases h1 : 1 < ds.length
    · obtain ⟨B1, hB1, od1, ob1⟩ := od.out
      have OD : Hid (Od wr B1 _ ds) := od1
      have OB : Hid (∀ g, u6.ownBlock = some g → g < B1) := ob1
      obtain ⟨b, o, sc, rfl, hr⟩ := od1.ds.cell_at (by omega)
      clear od od1 ob1
      have i1 : (1 : Int) < (ds.length : Int) := by omega
      have XB := i64_xor1 j (by have := dp.out; omega)
      have X1 := T.xor_one j
      have PT := T.path_step nodeS (l := ds) dp.out.1
      have FF : Hid _ := floor_fun ds dl.out dp.out.2
      have wq : IntKind.i64.wrap ((j : Int) / 2) = (j : Int) / 2 := by have := dp.out; rw [IntKind.wrap_i64]; omega
      have FL : Hid _ := T.floorL_length nodeS ds
      obtain ⟨x, hx⟩ : ∃ x, x = j ^^^ 1 := ⟨_, rfl⟩
      rw [← hx] at XB X1 PT
      have XL : x < 2000000 := by have := dp.out; split at X1 <;> omega
      by_cases hxl : x < ds.length
      · have i2 : (x : Int) < (ds.length : Int) := by omega
        have i0 : (0 : Int) ≤ (x : Int) := by omega
        rw [get_list hxl] at PT
        have RX : Hid (wr.rangeAt b (o + x * 32) ((ds.getD x []).map b8)) := hr x hxl
        have AL : Hid ((ds.getD x []).length = 32) := (dl.out.at hxl).1
        have I0 : Hid _ := info_d32.trans (congrArg some (show 32 = ((ds.getD x []).map b8).length by rw [List.length_map, AL.out]))
        have OL : Hid (out.length + 1 ≤ 4398046511103) := by
          have : out.length + 1 ≤ 4398046511103 := by have := ol.out; omega
          exact this
        have RS : Hid ((out ++ [ds.getD x []]) ++ T.path nodeS (flS ds) (j / 2) = target) := by
          have : (out ++ [ds.getD x []]) ++ T.path nodeS (flS ds) (j / 2) = target := by rw [List.append_assoc, ← PT]; exact rs.out
          exact this
        generalize ds.getD x [] = dx at *
        have H1 : Hid (1 < ds.length) := h1
        have JJ : Hid (j / 2 = j / 2) := rfl
        clear hr X1 XL hx PT h1
        generalize hm : ds.length = m at *
        go_wp2_with (first | (refine wpList_load_mid rfl 24 (.tmp 33) rfl b (o + x * 32) rfl (dx.map b8) _ RX.out u_d32 rfl I0.out ?_) | (refine wp_bsD rfl (.tmp 34) rfl dx AL.out rfl ?_))
        intro w3 cc1 hb3
        have B3 : Hid (Below wr.heap.size wr w3) := hb3
        have C1 : Hid (w3.rangeAt wr.heap.size 0 (dx.map b8)) := cc1
        clear cc1 hb3 RX I0
        go_wp2_with (refine wp_appD rfl (.tmp 30) (.tmp 35) rfl w.heap.size _ out wr _ dx rfl oo.out B3.out rfl C1.out AL.out OL.out hb.out.size ?_)
        intro v4 w4 o4 hb4 hg4
        have S4 : Hid (Ds w4 (.slice (some ⟨b, o, none⟩) m sc) ds) := ((OD.out.up B3.out).grown hg4 OB.out).ds
        have O4 : Hid (Od w4 w.heap.size v4 (out ++ [dx])) := o4
        have D4 : Hid (Below w.heap.size w w4) := hb.out.trans hb4
        clear o4 hb4 B3 C1 oo hg4 OD OB
        go_wp2_with fail
        refine (FF.out _ _ S4.out (HT.out.up D4.out HT.out.pos)).mono ?_
        rintro e w5 ⟨⟨v5, rfl, od5⟩, hb5⟩
        have D5 : Hid (Below w.heap.size w w5) := D4.out.trans (hb5.mono D4.out.size)
        have O5 : Hid (Od w5 w.heap.size _ (out ++ [dx])) := O4.out.up hb5
        obtain ⟨a5, c5, e5, hc5, h55⟩ := id od5.ds
        have S5 : Hid (∃ B1, w.heap.size ≤ B1 ∧ Od w5 B1 v5 (flS ds) ∧ ∀ g, Value.ownBlock v4 = some g → g < B1) := ⟨_, D4.out.size, od5, O4.out.low⟩
        have E5 : Hid (lenS v5 = (flS ds).length) := by rw [e5]; exact rfl
        clear hb5 od5 e5 h55 hc5 FF S4 D4 O4
        go_wp2_with fail
        go_roundw
        case rel =>
          refine ⟨j / 2, flS ds, (out ++ [dx]), by first | rfl | (congr 1; omega), S5, dl.out.floor, ?_, O5, ?_, RS, D5⟩
          · exact (by rw [FL.out]; have h1 := H1.out; have h2 := dp.out; omega : j / 2 < (flS ds).length ∧ (flS ds).length ≤ 1000000)
          · exact (by rw [FL.out]; have h1 := H1.out; have h2 := ol.out; (try simp only [List.length_append, List.length_singleton]); omega : ((out ++ [dx])).length + (flS ds).length ≤ 1000001)
        case measure =>
          rw [E5.out, FL.out]
          simp only [lenS]
          have := H1.out
          omega
      · have i2 : ¬ (x : Int) < (ds.length : Int) := by omega
        rw [get_none hxl, List.nil_append] at PT
        have RS : Hid (out ++ T.path nodeS (flS ds) (j / 2) = target) := by
          have : out ++ T.path nodeS (flS ds) (j / 2) = target := by rw [← PT]; exact rs.out
          exact this
        have H1 : Hid (1 < ds.length) := h1
        have D4 : Hid (Below w.heap.size w wr) := hb.out
        clear hr X1 XL hx PT h1 hxl
        generalize hm : ds.length = m at *
        have S4 : Hid (Ds wr (.slice (some ⟨b, o, none⟩) m sc) ds) := OD.out.ds
        clear OD OB
        have O4 : Hid (Od wr w.heap.size u6 out) := oo.out
        clear oo hb
        go_wp2_with fail
        refine (FF.out _ _ S4.out (HT.out.up D4.out HT.out.pos)).mono ?_
        rintro e w5 ⟨⟨v5, rfl, od5⟩, hb5⟩
        have D5 : Hid (Below w.heap.size w w5) := D4.out.trans (hb5.mono D4.out.size)
        have O5 : Hid (Od w5 w.heap.size _ out) := O4.out.up hb5
        obtain ⟨a5, c5, e5, hc5, h55⟩ := id od5.ds
        have S5 : Hid (∃ B1, w.heap.size ≤ B1 ∧ Od w5 B1 v5 (flS ds) ∧ ∀ g, Value.ownBlock u6 = some g → g < B1) := ⟨_, D4.out.size, od5, O4.out.low⟩
        have E5 : Hid (lenS v5 = (flS ds).length) := by rw [e5]; exact rfl
        clear hb5 od5 e5 h55 hc5 FF S4 D4 O4
        go_wp2_with fail
        go_roundw
        case rel =>
          refine ⟨j / 2, flS ds, out, by first | rfl | (congr 1; omega), S5, dl.out.floor, ?_, O5, ?_, RS, D5⟩
          · exact (by rw [FL.out]; have h1 := H1.out; have h2 := dp.out; omega : j / 2 < (flS ds).length ∧ (flS ds).length ≤ 1000000)
          · exact (by rw [FL.out]; have h1 := H1.out; have h2 := ol.out; (try simp only [List.length_append, List.length_singleton]); omega : (out).length + (flS ds).length ≤ 1000001)
        case measure =>
          rw [E5.out, FL.out]
          simp only [lenS]
          have := H1.out
          omega
    · have i1 : ¬ (1 : Int) < (ds.length : Int) := by omega
      have e1 : ds.length = 1 := by have := dp.out; omega
      obtain rfl : j = 0 := by have := dp.out; omega
      have PE := T.path_one nodeS (l := ds) (by omega)
      have RS : Hid (out = target) := by
        have h := rs.out
        rw [PE, List.append_nil] at h
        exact h
      obtain ⟨B1, hB1, od1, ob1⟩ := od.out
      obtain ⟨sa, sc, rfl, hcs, h3⟩ := od1.ds
      rw [RS.out] at oo
      clear h3 hcs e1 PE od dl dp rs RS ol od1 ob1
      go_wp2_with fail
      go_ret2
      exact ⟨⟨_, rfl, oo.out⟩, hb.out⟩
end Go.Proofs.YtmpniingbioggaaDoor
