/- Texts that were joined: HHash, HRFrom, HRS, HLaw, Fil, SlA, HX, MSame, MacM. -/
import Derived.Test.YtdcpicbkemmakaaDoorQHWriteToHSum
import Derived.Test.YtdcpicbkemmakaaDoorQHLaidToHRBlock
import Derived.Test.YtdcpicbkemmakaaDoorQHRPad
import Derived.ChangeKeysEq
import Derived.Test.YtdcpicbkemmakaaDoorQBKToHB
/- The contracts of hash.Sum, hash.Resume and sealringkeep.hashes. -/
namespace Go.Proofs.YtdcpicbkemmakaaDoor
open Go.RowKit
set_option linter.unusedSimpArgs false
/-- The digest of a text. -/
def sumS (p : List Nat) : List Nat := digS (wordsS IV (p ++ padS (cntS 0 p)))
theorem sumS_length (p : List Nat) : (sumS p).length = 32 := digS_length _
theorem write_fun (H : R8) (n : Nat) (hn : n % 64 = 0) (p q : List Nat) (lp : ∀ x ∈ p, x < 256) (lq : ∀ x ∈ q, x < 256) (hq : q.length ≤ 9223372036854775807) (v : Value) (w : World) (hv : By w v q) (hT : KTab w) :
    Calls Tryd.prog 82 #[stV H n p, v] w fun e w' => e = .returned (stV H n (p ++ q)) ∧ Below w.heap.size w w' :=
  write_core H n hn p q lp lq hq v w hv hT
set_option maxRecDepth 20000 in
set_option maxHeartbeats 2000000 in
theorem hsum_fun (p : List Nat) (lp : ∀ x ∈ p, x < 256) (hp : p.length ≤ 9223372036854775807) (v : Value) (w : World) (hv : By w v p) (hT : KTab w) :
    Calls Tryd.prog 80 #[v] w fun e w' => e = .returned (vB (sumS p)) ∧ Below w.heap.size w w' := by
  have W1 : Hid _ := write_fun IV 0 rfl [] p (by simp) lp hp
  have S1 : Hid _ := sum_fun IV 0 rfl p lp
  have HV : Hid (By w v p) := hv
  have HT : Hid (KTab w) := hT
  have ID : Hid _ := info_d32.trans (congrArg some (show 32 = ((sumS p).map b8).length by rw [List.length_map, sumS_length]))
  obtain ⟨x0, x1⟩ := al1 w #[Value.int IntKind.u8 0, Value.int IntKind.u8 0, Value.int IntKind.u8 0, Value.int IntKind.u8 0, Value.int IntKind.u8 0, Value.int IntKind.u8 0, Value.int IntKind.u8 0, Value.int IntKind.u8 0, Value.int IntKind.u8 0, Value.int IntKind.u8 0, Value.int IntKind.u8 0, Value.int IntKind.u8 0, Value.int IntKind.u8 0, Value.int IntKind.u8 0, Value.int IntKind.u8 0, Value.int IntKind.u8 0, Value.int IntKind.u8 0, Value.int IntKind.u8 0, Value.int IntKind.u8 0, Value.int IntKind.u8 0, Value.int IntKind.u8 0, Value.int IntKind.u8 0, Value.int IntKind.u8 0, Value.int IntKind.u8 0, Value.int IntKind.u8 0, Value.int IntKind.u8 0, Value.int IntKind.u8 0, Value.int IntKind.u8 0, Value.int IntKind.u8 0, Value.int IntKind.u8 0, Value.int IntKind.u8 0, Value.int IntKind.u8 0] 109
  have X0 : Hid (Blk _ _ ((List.replicate 32 0).map b8)) := x0
  have X1 : Hid (Below _ _ _) := x1
  rw [List.nil_append] at W1
  clear hv hT lp hp x0 x1
  go_enter Tryd.func80, Tryd.ntmps80
  go_wp2_with fail
  generalize w.alloc (Obj.cells #[Value.int IntKind.u8 0, Value.int IntKind.u8 0, Value.int IntKind.u8 0, Value.int IntKind.u8 0, Value.int IntKind.u8 0, Value.int IntKind.u8 0, Value.int IntKind.u8 0, Value.int IntKind.u8 0, Value.int IntKind.u8 0, Value.int IntKind.u8 0, Value.int IntKind.u8 0, Value.int IntKind.u8 0, Value.int IntKind.u8 0, Value.int IntKind.u8 0, Value.int IntKind.u8 0, Value.int IntKind.u8 0, Value.int IntKind.u8 0, Value.int IntKind.u8 0, Value.int IntKind.u8 0, Value.int IntKind.u8 0, Value.int IntKind.u8 0, Value.int IntKind.u8 0, Value.int IntKind.u8 0, Value.int IntKind.u8 0, Value.int IntKind.u8 0, Value.int IntKind.u8 0, Value.int IntKind.u8 0, Value.int IntKind.u8 0, Value.int IntKind.u8 0, Value.int IntKind.u8 0, Value.int IntKind.u8 0, Value.int IntKind.u8 0] 109) = w1 at *
  refine (new_fun _).mono ?_
  rintro e w2 ⟨rfl, hb2⟩
  have D2 : Hid (Below w.heap.size w w2) := X1.out.trans (hb2.mono X1.out.size)
  have Y2 : Hid (Blk w2 _ _) := X0.out.up hb2 X0.out.lt
  clear hb2 X0 X1
  go_wp2_with fail
  refine (W1.out v w2 (HV.out.up D2.out (Nat.le_refl _)) (HT.out.up D2.out HT.out.pos)).mono ?_
  rintro e w3 ⟨rfl, hb3⟩
  have D3 : Hid (Below w.heap.size w w3) := D2.out.trans (hb3.mono D2.out.size)
  have Y3 : Hid (Blk w3 _ _) := Y2.out.up hb3 Y2.out.lt
  clear hb3 D2 Y2
  go_wp2_with fail
  refine (S1.out w3 (HT.out.up D3.out HT.out.pos)).mono ?_
  rintro e w4 ⟨rfl, hb4⟩
  have D4 : Hid (Below w.heap.size w w4) := D3.out.trans (hb4.mono D3.out.size)
  have Y4 : Hid (Blk w4 w.heap.size ((List.replicate 32 0).map b8)) := Y3.out.up hb4 Y3.out.lt
  clear hb4 D3 Y3
  have T1 : Hid (w4.there w.heap.size 0 ((sumS p).map b8).length) := Y4.out.there (by rw [List.length_map, sumS_length]; simp)
  go_wp2_with (refine wp_store_eq rfl 109 (.tmp 2) (.tmp 6) rfl w.heap.size 0 ((sumS p).map b8) rfl rfl T1.out ID.out (one_b8 _) ?_)
  intro w5 hw5
  go_wp2_with fail
  refine bodyPost_ret (v := vB (sumS p)) ?_ rfl ⟨rfl, ?_⟩
  · rw [hw5.out]
    exact results_cell (b := w.heap.size) rfl rfl (World.rangeAt_setCells_same _ _ _ _ T1.out) u_d32 rfl ID.out
  · rw [hw5.out]
    exact below_setCells _ _ _ D4.out (Nat.le_refl _)
end Go.Proofs.YtdcpicbkemmakaaDoor

/- The contracts of sealringref.From, Begin and Sum. -/
namespace Go.Proofs.YtdcpicbkemmakaaDoor
open Go.RowKit
set_option linter.unusedSimpArgs false
theorem sOf_extract (xs : List Nat) (a b : Nat) : (sOf xs).extract a b = sOf ((xs.drop a).take (b - a)) := by
  apply ByteArray.ext
  simp [sOf, ByteArray.data_extract]
theorem absN_on (H : R8) (T : List Nat) (k : Nat) : absN H (k + 1) T = mixS (absN H k T) ((T.drop (64 * k)).take 64) := by
  rw [absN_add]; rfl
theorem part64 {T : List Nat} {M k : Nat} (hT : T.length = 64 * M) (hk : k < M) : ((T.drop (64 * k)).take 64).length = 64 := by
  rw [List.length_take, List.length_drop]; omega
set_option maxRecDepth 20000 in
set_option maxHeartbeats 4000000 in
theorem from_fun (H : R8) (n : Nat) (hn : n % 64 = 0) (p : List Nat) (lp : ∀ x ∈ p, x < 256) (zp : p.length ≤ 1000000000000000) (v : Value) (w : World) (hv : Wy w v H.list) (hT : RTab w) :
    Calls Tryd.prog 87 #[v, .int .u64 n, .string (sOf p)] w fun e w' => e = .returned (vB (digS (wordsS H (p ++ padS (cntS n p))))) ∧ Below w.heap.size w w' := by
  have cl : cntS n p < 18446744073709551616 := Nat.mod_lt _ (by decide)
  have PT : Hid _ := padText_fun (cntS n p) cl
  have HV : Hid (Wy w v H.list) := hv
  have HT : Hid (RTab w) := hT
  have ps : (sOf p).size = p.length := sOf_size p
  have CW : Hid (IntKind.u64.wrap ((n : Int) + (p.length : Int)) = ((cntS n p : Nat) : Int)) := by unfold cntS; rw [IntKind.wrap_u64]; exact (by omega : ((n : Int) + (p.length : Int)) % 18446744073709551616 = (((n + p.length) % 18446744073709551616 : Nat) : Int))
  have fl : (p ++ padS (cntS n p)).length % 64 = 0 := by
    rw [List.length_append]
    have := padS_fills (cntS n p)
    have h2 := cnt_mod n p hn
    omega
  have pl : (padS (cntS n p)).length ≤ 72 := by rw [padS_length]; have := padZ_lt (cntS n p); omega
  have lT : ∀ x ∈ p ++ padS (cntS n p), x < 256 := fun x hx => (List.mem_append.1 hx).elim (lp x) (padS_low _ x)
  have sp2 : (sOf (padS (cntS n p))).size = (padS (cntS n p)).length := sOf_size _
  have SA : Hid (sOf p ++ sOf (padS (cntS n p)) = sOf (p ++ padS (cntS n p))) := sOf_append _ _
  have tl : (p ++ padS (cntS n p)).length = p.length + (padS (cntS n p)).length := List.length_append
  clear hv hT hn lp
  generalize cntS n p = cn at *
  generalize hpd : padS cn = pd at *
  clear hpd
  obtain ⟨M, hM⟩ : ∃ M, (p ++ pd).length = 64 * M := ⟨(p ++ pd).length / 64, by omega⟩
  have ID : Hid _ := info_d32.trans (congrArg some (show 32 = ((digS (wordsS H (p ++ pd))).map b8).length by rw [List.length_map, digS_length]))
  have WS : Hid (wordsS H (p ++ pd) = absN H M (p ++ pd)) := by unfold wordsS; rw [hM, Nat.mul_div_cancel_left M (by decide : 0 < 64)]; exact rfl
  have ts : (sOf (p ++ pd)).size = 64 * M := by rw [sOf_size, hM]
  have LT : Hid (∀ x ∈ p ++ pd, x < 256) := lT
  have HM : Hid ((p ++ pd).length = 64 * M) := hM
  have m1 : 64 * M ≤ 1000000000000072 := by omega
  clear lT hM fl
  generalize hT : p ++ pd = T at *
  generalize sOf p = s1 at *
  generalize sOf pd = s2 at *
  have EX : Hid (∀ k, (sOf T).extract (64 * k) (64 * k + 64) = sOf ((T.drop (64 * k)).take 64)) := fun k => by rw [sOf_extract, show 64 * k + 64 - 64 * k = 64 by omega]
  generalize hst : sOf T = st at *
  have HST : Hid (sOf T = st) := hst
  clear hT hst
  go_enter Tryd.func87, Tryd.ntmps87
  obtain ⟨x0, x1⟩ := al1 w #[Value.int IntKind.u8 0, Value.int IntKind.u8 0, Value.int IntKind.u8 0, Value.int IntKind.u8 0, Value.int IntKind.u8 0, Value.int IntKind.u8 0, Value.int IntKind.u8 0, Value.int IntKind.u8 0, Value.int IntKind.u8 0, Value.int IntKind.u8 0, Value.int IntKind.u8 0, Value.int IntKind.u8 0, Value.int IntKind.u8 0, Value.int IntKind.u8 0, Value.int IntKind.u8 0, Value.int IntKind.u8 0, Value.int IntKind.u8 0, Value.int IntKind.u8 0, Value.int IntKind.u8 0, Value.int IntKind.u8 0, Value.int IntKind.u8 0, Value.int IntKind.u8 0, Value.int IntKind.u8 0, Value.int IntKind.u8 0, Value.int IntKind.u8 0, Value.int IntKind.u8 0, Value.int IntKind.u8 0, Value.int IntKind.u8 0, Value.int IntKind.u8 0, Value.int IntKind.u8 0, Value.int IntKind.u8 0, Value.int IntKind.u8 0] 109
  have X0 : Hid (Blk _ _ ((List.replicate 32 0).map b8)) := x0
  have X1 : Hid (Below _ _ _) := x1
  clear x0 x1
  have b1 : s1.size ≤ 1000000000000000 := by rw [ps]; exact zp
  have b2 : s2.size ≤ 72 := by rw [sp2]; exact pl
  have CW' : IntKind.u64.wrap ((n : Int) + (s1.size : Int)) = (cn : Int) := by rw [ps]; exact CW.out
  have ts' : (s1 ++ s2).size = 64 * M := by rw [SA.out]; exact ts
  clear ps sp2 pl zp tl CW
  go_wp2_with fail
  refine (PT.out _).mono ?_
  rintro e w1 ⟨rfl, hb1⟩
  have D1 : Hid (Below w.heap.size w w1) := X1.out.trans (hb1.mono X1.out.size)
  have Y1 : Hid (Blk w1 w.heap.size ((List.replicate 32 0).map b8)) := X0.out.up hb1 X0.out.lt
  have V1 : Hid (Wy w1 v (absN H 0 T).list) := HV.out.up D1.out (Nat.le_refl _)
  clear hb1 X0 X1 PT CW'
  go_wp2_with fail
  rw [SA.out]
  clear ts'
  go_loopw [0, 7] (fun sv i wr => ∃ k : Nat, k ≤ M ∧ i = .int .i64 ((64 * k : Nat) : Int) ∧ Hid (Wy wr sv (absN H k T).list) ∧ Hid (Blk wr w.heap.size ((List.replicate 32 0).map b8)) ∧ Hid (Below w.heap.size w wr)) (fun _ i _ => 64 * M - (intOf i).toNat)
  case atStart => exact ⟨0, by omega, rfl, V1, Y1, D1⟩
  case round =>
    clear V1 Y1 D1
    obtain ⟨k, hk, rfl, wy, yb, hb⟩ := hrel
    by_cases hlt : k < M
    · have BL : Hid _ := block_fun (absN H k T) ((T.drop (64 * k)).take 64) (part64 HM.out hlt) (fun x hx => LT.out x (List.mem_of_mem_drop (List.mem_of_mem_take hx)))
      rw [← absN_on, ← EX.out k] at BL
      go_wp2_with fail
      refine (BL.out u0 wr wy.out (HT.out.up hb.out HT.out.pos)).mono ?_
      rintro e w2 ⟨⟨v2, rfl, wy2⟩, hb2⟩
      have W2 : Hid (Wy w2 v2 (absN H (k + 1) T).list) := wy2
      have Y2 : Hid (Blk w2 w.heap.size ((List.replicate 32 0).map b8)) := yb.out.up hb2 yb.out.lt
      have D2 : Hid (Below w.heap.size w w2) := hb.out.trans (hb2.mono hb.out.size)
      clear wy2 hb2 BL wy yb hb
      go_wp2_with fail
      go_roundw
      case rel => exact ⟨k + 1, by omega, by first | rfl | (congr 1; omega), W2, Y2, D2⟩
      case measure => simp [intOf]; omega
    · obtain rfl : k = M := by omega
      clear hlt hk
      rw [← WS.out] at wy
      obtain ⟨w9, hw9⟩ : ∃ w9, w9 = wr := ⟨_, rfl⟩
      subst hw9
      obtain ⟨va, vc, rfl, hvc⟩ := wy.out
      obtain ⟨kb, ko, rfl, hwc⟩ := hvc (by simp [R8.list])
      have HC : Hid (∀ j, j < 8 → w9.cell? ⟨kb, ko + j, none⟩ = some (uw ((wordsS H T).list.getD j 0))) := hwc
      clear hvc hwc wy
      rw [show (wordsS H T).list.length = 8 from rfl]
      go_wp2_with fail
      go_loopw [31] (fun i wq => ∃ k : Nat, k ≤ 32 ∧ i = .int .i64 k ∧ Hid (∀ j, j < 8 → wq.cell? ⟨kb, ko + j, none⟩ = some (uw ((wordsS H T).list.getD j 0))) ∧ Hid (Blk wq w.heap.size ((List.replicate 32 0).map b8)) ∧ Hid (Blk wq w9.heap.size ((fillD (wordsS H T) k).map b8)) ∧ Hid (Below w.heap.size w wq)) (fun i _ => 32 - (intOf i).toNat)
      case atStart =>
        obtain ⟨y0, y1⟩ := al1 w9 _ _
        exact ⟨0, by omega, rfl, fun j hj => (y1.cell (p := ⟨kb, ko + j, none⟩) (lt_of_cellB (HC.out j hj))).trans (HC.out j hj), yb.out.up y1 yb.out.lt, y0, hb.out.trans (y1.mono hb.out.size)⟩
      case round =>
        have g1 := lt_of_cellB (HC.out 0 (by decide))
        have g2 := yb.out.lt
        have g3 := hb.out.size
        clear HC yb hb
        generalize w9.heap.size = kd at *
        obtain ⟨k, hk, rfl, hc, by_, bd, hb⟩ := hrel
        by_cases hlt : k < 32
        · have c1 := hc.out (k / 4) (by omega)
          have c2 := bd.out.cell k (b8 ((fillD (wordsS H T) k).getD k 0)) (by simp [List.getD_eq_getElem?_getD, fillD_length, hlt])
          have c3 := bd.out.fz k
          have i1 : (k : Int) / 4 < 8 := by omega
          have DK : Hid _ := dbyte_key (wordsS H T) k (24 - 8 * (k % 4)) (by omega)
          have FD : Hid _ := fillD_set (wordsS H T) k hlt
          generalize (fillD (wordsS H T) k).getD k 0 = yy at *
          generalize hxx : (wordsS H T).list.getD (k / 4) 0 = xx at *
          go_wp2_with fail
          rw [DK.out]
          have b1 := bd.out.set k (b8 (dbyte (wordsS H T) k)) (by rw [List.length_map, fillD_length]; exact hlt)
          rw [← List.map_set, FD.out] at b1
          go_roundw
          case rel => exact ⟨k + 1, by omega, by go_num, fun j hj => (World.cell?_setCell_other _ _ _ _ (fun e => by have e2 : kd = kb := congrArg Addr.block e; omega)).trans (hc.out j hj), by_.out.apart1 (by omega), b1, hb.out.setCell (by show w.heap.size ≤ kd; omega) _⟩
          case measure => simp [intOf]; omega
        · obtain rfl : k = 32 := by omega
          rw [fillD_all] at bd
          have T1 : Hid (World.there _ w.heap.size 0 ((digS (wordsS H T)).map b8).length) := by_.out.there (by simp [digS_length])
          go_wp2_with (first | refine wpList_load_mid rfl 109 (.tmp 8) rfl kd 0 rfl ((digS (wordsS H T)).map b8) _ bd.out.all u_d32 rfl ID.out ?_ | refine wp_store_eq rfl 109 (.tmp 6) (.tmp 48) rfl w.heap.size 0 ((digS (wordsS H T)).map b8) rfl rfl T1.out ID.out (one_b8 _) ?_)
          intro w5 hw5
          go_wp2_with fail
          refine bodyPost_ret (v := vB (digS (wordsS H T))) ?_ rfl ⟨rfl, ?_⟩
          · rw [hw5.out]
            exact results_cell (b := w.heap.size) rfl rfl (World.rangeAt_setCells_same _ _ _ _ T1.out) u_d32 rfl ID.out
          · rw [hw5.out]
            exact below_setCells _ _ _ hb.out (Nat.le_refl _)
end Go.Proofs.YtdcpicbkemmakaaDoor

/- The contracts of sealringref.Begin and Sum. -/
namespace Go.Proofs.YtdcpicbkemmakaaDoor
open Go.RowKit
set_option linter.unusedSimpArgs false
attribute [local go_sem] YieldsP execOp
attribute [local simp] MP.eq_p
set_option maxHeartbeats 1000000 in
theorem begin_fun (w : World) : Calls Tryd.prog 88 #[] w fun e w' => (∃ v, e = .returned v ∧ Wy w' v IV.list) ∧ Below w.heap.size w w' := by
  have YW := al1 w #[.int .u32 1779033703, .int .u32 3144134277, .int .u32 1013904242, .int .u32 2773480762, .int .u32 1359893119, .int .u32 2600822924, .int .u32 528734635, .int .u32 1541459225] 98
  go_enter Tryd.func88, Tryd.ntmps88
  go_wp2_with fail
  go_ret
  exact ⟨⟨_, rfl, Wy.of_blk (ws := IV.list) YW.1⟩, YW.2⟩
set_option maxRecDepth 20000 in
set_option maxHeartbeats 2000000 in
theorem rsum_fun (p : List Nat) (lp : ∀ x ∈ p, x < 256) (zp : p.length ≤ 1000000000000000) (w : World) (hT : RTab w) :
    Calls Tryd.prog 79 #[.string (sOf p)] w fun e w' => e = .returned (vB (sumS p)) ∧ Below w.heap.size w w' := by
  have FR : Hid (∀ v w, Wy w v IV.list → RTab w → Calls Tryd.prog 87 #[v, .int .u64 0, .string (sOf p)] w fun e w' => e = .returned (vB (sumS p)) ∧ Below w.heap.size w w') := from_fun IV 0 rfl p lp zp
  have HT : Hid (RTab w) := hT
  have ID : Hid _ := info_d32.trans (congrArg some (show 32 = ((sumS p).map b8).length by rw [List.length_map, sumS_length]))
  obtain ⟨x0, x1⟩ := al1 w #[Value.int IntKind.u8 0, Value.int IntKind.u8 0, Value.int IntKind.u8 0, Value.int IntKind.u8 0, Value.int IntKind.u8 0, Value.int IntKind.u8 0, Value.int IntKind.u8 0, Value.int IntKind.u8 0, Value.int IntKind.u8 0, Value.int IntKind.u8 0, Value.int IntKind.u8 0, Value.int IntKind.u8 0, Value.int IntKind.u8 0, Value.int IntKind.u8 0, Value.int IntKind.u8 0, Value.int IntKind.u8 0, Value.int IntKind.u8 0, Value.int IntKind.u8 0, Value.int IntKind.u8 0, Value.int IntKind.u8 0, Value.int IntKind.u8 0, Value.int IntKind.u8 0, Value.int IntKind.u8 0, Value.int IntKind.u8 0, Value.int IntKind.u8 0, Value.int IntKind.u8 0, Value.int IntKind.u8 0, Value.int IntKind.u8 0, Value.int IntKind.u8 0, Value.int IntKind.u8 0, Value.int IntKind.u8 0, Value.int IntKind.u8 0] 109
  have X0 : Hid (Blk _ _ ((List.replicate 32 0).map b8)) := x0
  have X1 : Hid (Below _ _ _) := x1
  clear hT lp zp x0 x1
  generalize sOf p = st at *
  go_enter Tryd.func79, Tryd.ntmps79
  go_wp2_with fail
  generalize w.alloc (Obj.cells #[Value.int IntKind.u8 0, Value.int IntKind.u8 0, Value.int IntKind.u8 0, Value.int IntKind.u8 0, Value.int IntKind.u8 0, Value.int IntKind.u8 0, Value.int IntKind.u8 0, Value.int IntKind.u8 0, Value.int IntKind.u8 0, Value.int IntKind.u8 0, Value.int IntKind.u8 0, Value.int IntKind.u8 0, Value.int IntKind.u8 0, Value.int IntKind.u8 0, Value.int IntKind.u8 0, Value.int IntKind.u8 0, Value.int IntKind.u8 0, Value.int IntKind.u8 0, Value.int IntKind.u8 0, Value.int IntKind.u8 0, Value.int IntKind.u8 0, Value.int IntKind.u8 0, Value.int IntKind.u8 0, Value.int IntKind.u8 0, Value.int IntKind.u8 0, Value.int IntKind.u8 0, Value.int IntKind.u8 0, Value.int IntKind.u8 0, Value.int IntKind.u8 0, Value.int IntKind.u8 0, Value.int IntKind.u8 0, Value.int IntKind.u8 0] 109) = w1 at *
  refine (begin_fun _).mono ?_
  rintro e w2 ⟨⟨v2, rfl, wy2⟩, hb2⟩
  have D2 : Hid (Below w.heap.size w w2) := X1.out.trans (hb2.mono X1.out.size)
  have Y2 : Hid (Blk w2 _ _) := X0.out.up hb2 X0.out.lt
  have W2 : Hid (Wy w2 v2 IV.list) := wy2
  clear hb2 X0 X1 wy2
  go_wp2_with fail
  refine (FR.out v2 w2 W2.out (HT.out.up D2.out HT.out.pos)).mono ?_
  rintro e w4 ⟨rfl, hb4⟩
  have D4 : Hid (Below w.heap.size w w4) := D2.out.trans (hb4.mono D2.out.size)
  have Y4 : Hid (Blk w4 w.heap.size ((List.replicate 32 0).map b8)) := Y2.out.up hb4 Y2.out.lt
  clear hb4 D2 Y2
  have T1 : Hid (w4.there w.heap.size 0 ((sumS p).map b8).length) := Y4.out.there (by rw [List.length_map, sumS_length]; simp)
  go_wp2_with (refine wp_store_eq rfl 109 (.tmp 2) (.tmp 5) rfl w.heap.size 0 ((sumS p).map b8) rfl rfl T1.out ID.out (one_b8 _) ?_)
  intro w5 hw5
  go_wp2_with fail
  refine bodyPost_ret (v := vB (sumS p)) ?_ rfl ⟨rfl, ?_⟩
  · rw [hw5.out]
    exact results_cell (b := w.heap.size) rfl rfl (World.rangeAt_setCells_same _ _ _ _ T1.out) u_d32 rfl ID.out
  · rw [hw5.out]
    exact below_setCells _ _ _ D4.out (Nat.le_refl _)
end Go.Proofs.YtdcpicbkemmakaaDoor

/- What the laws' own walks need: states in variables, digests held against each other. -/
namespace Go.Proofs.YtdcpicbkemmakaaDoor
open Go.RowKit
set_option linter.unusedSimpArgs false
section
variable {P : Program}

end


theorem wpList_wanted {P : Program} {ops : Array Oper} {rest : List Oper} {o : Oper} {a : Act} {Q : Exit → Act → World → Prop} {w : World} (hg : Region.wanted o (yielded ops a.tmps) = true)
    (h : ∀ K : Act → World → Prop, (∀ a w, wpList P ops Q rest a w → K a w) → o.wp P a w K Q) : wpList P ops Q (o :: rest) a w :=
  wpList_step fun K hK => by simp only [hg, if_true]; exact h K hK
/-- The state of a text lies in block k. -/
def StAt (w : World) (k : Nat) (H : R8) (n : Nat) (p : List Nat) : Prop := Blk w k (cS (wordsS H p) (restS p) (cntS n p))
theorem StAt.up {W w1 : World} {k B : Nat} {H : R8} {n : Nat} {p : List Nat} (h : StAt W k H n p) (hb : Below B W w1) (hB : k < B) : StAt w1 k H n p := Blk.up h hb hB
theorem StAt.lt {W : World} {k : Nat} {H : R8} {n : Nat} {p : List Nat} (h : StAt W k H n p) : k < W.heap.size := Blk.lt h
end Go.Proofs.YtdcpicbkemmakaaDoor

/- Structs and rows that are built of parts: what lies where. -/
namespace Go.Proofs.YtdcpicbkemmakaaDoor
open Go.RowKit
set_option linter.unusedSimpArgs false
theorem lay_foldl (off : Nat) : ∀ (v : List Value) (n : Nat) (X : Array Value) (a b c : List Value), X.toList = a ++ (b ++ c) → a.length = off + n → b.length = v.length → ((v.zipIdx n).foldl (fun (cs : Array Value) (x : Value × Nat) => cs.setIfInBounds (off + x.2) x.1) X).toList = a ++ (v ++ c)
  | [], n, X, a, b, c, hX, ha, hb => by
    rw [List.length_eq_zero_iff.1 hb] at hX
    simpa using hX
  | x :: v, n, X, a, y :: b, c, hX, ha, hb => by
    rw [List.zipIdx_cons, List.foldl_cons]
    rw [lay_foldl off v (n + 1) _ (a ++ [x]) b c ?_ (by simp; omega) (by simpa using hb)]
    · simp
    · rw [Array.toList_setIfInBounds, hX, List.set_append_right _ _ (by omega), ha]
      simp
  | x :: v, n, X, a, [], c, hX, ha, hb => by simp at hb
theorem built_of {t : TypeId} {zc : Array Value} {places : List (Nat × Nat)} (hz : (Tryd.prog.info? t).map (·.zero) = some (some (.agg zc)))
    (hp : ((Tryd.prog.underlying t).bind fun d => match d with | .struct fields => fields.toList.mapM (fun f => (Tryd.prog.info? f.type).map fun i => (f.offset, i.size)) | _ => none) = some places) (parts : List (Nat × Value)) : Tryd.prog.built t parts = Instr.fill (places.toArray[·]?) zc parts := by
  unfold Program.built
  cases e1 : Tryd.prog.info? t with
  | none => simp [e1] at hz
  | some it =>
    have e3 : it.zero = some (.agg zc) := by simpa [e1] using hz
    cases e2 : Tryd.prog.underlying t with
    | none => simp [e2] at hp
    | some d =>
      rw [e2, Option.bind_some] at hp
      cases d <;> simp at hp
      rename_i fields
      simp only [e3, hp, Value.cells]
theorem foldl_zip (A : List Value) (f : Array Value → Value × Nat → Array Value) (X : Array Value) : A.toArray.zipIdx.foldl f X = A.zipIdx.foldl f X := by
  rw [← Array.foldl_toList, Array.toList_zipIdx]
theorem fill_step (pl : Nat → Option (Nat × Nat)) (X : Array Value) (i off : Nat) (v a b c : List Value) (rest : List (Nat × Value)) (hp : pl i = some (off, v.length)) (hX : X.toList = a ++ (b ++ c)) (ha : a.length = off) (hb : b.length = v.length) :
    Instr.fill pl X ((i, .agg v.toArray) :: rest) = Instr.fill pl (a ++ (v ++ c)).toArray rest := by
  have hs : X.size = a.length + (b.length + c.length) := by
    rw [← Array.length_toList, hX]
    simp
  rw [Instr.fill, hp]
  simp only [Value.cells, List.size_toArray]
  rw [if_neg (by simp; omega)]
  congr 1
  apply Array.ext'
  rw [foldl_zip]
  exact lay_foldl off v 0 X a b c hX (by omega) hb
end Go.Proofs.YtdcpicbkemmakaaDoor

/- An array sliced whole; bytes of a block as a slice; bytes one behind the other. -/
namespace Go.Proofs.YtdcpicbkemmakaaDoor
open Go.RowKit
set_option linter.unusedSimpArgs false
theorem low_app {a b : List Nat} (ha : ∀ x ∈ a, x < 256) (hb : ∀ x ∈ b, x < 256) : ∀ x ∈ a ++ b, x < 256 := fun x hx => (List.mem_append.1 hx).elim (ha x) (hb x)
theorem low_rep (n : Nat) : ∀ x ∈ List.replicate n 0, x < 256 := fun x hx => by rw [(List.mem_replicate.1 hx).2]; decide
theorem slice_all {t e : TypeId} {n : Nat} (ht : Tryd.prog.underlying t = some (.array n e)) (hz : (Tryd.prog.info? e).map (·.size) = some 1) (hn : 0 < n) (b o : Nat) (w : World) :
    (Instr.sliceAt t (.pointer (some ⟨b, o, none⟩)) none none none).run Tryd.prog w = .ok (.slice (some ⟨b, o, none⟩) n n) w := by
  have ha : Tryd.prog.arrayLen t = n := by simp [Program.arrayLen, ht]
  have he : Tryd.prog.elem t = e := by simp [Program.elem, ht]
  rw [run_sliceAt_array_all w t ⟨b, o, none⟩ (by rw [ha, he]; exact ht), ha, he]
  cases hq : Tryd.prog.info? e with
  | none => simp [hq] at hz
  | some i =>
    have hi : i.size = 1 := by simpa [hq] using hz
    simp [sizeOf, typeInfo, hq, hi, slicedAt, Addr.add_zero', Nat.ne_of_gt hn]
theorem By.of_blk {w : World} {k n : Nat} {xs : List Nat} (h : Blk w k (xs.map b8)) (hl : xs.length = n) : By w (.slice (some ⟨k, 0, none⟩) n n) xs := by
  subst hl
  refine By.of_cells (Nat.le_refl _) fun j hj => ?_
  rw [Nat.zero_add]
  exact h.cell j _ (by simp [List.getD_eq_getElem?_getD, hj])
end Go.Proofs.YtdcpicbkemmakaaDoor

/- Small laws that marks and trees share: bytes of digests; structs and slices that are built; an array sliced whole. -/
namespace Go.Proofs.YtdcpicbkemmakaaDoor
open Go.RowKit
set_option linter.unusedSimpArgs false
theorem dbyte_lt (H : R8) (k : Nat) : dbyte H k < 256 := by
  unfold dbyte
  omega
theorem sumS_low (p : List Nat) : ∀ x ∈ sumS p, x < 256 := by
  intro x hx
  unfold sumS digS at hx
  obtain ⟨j, _, rfl⟩ := List.mem_map.1 hx
  exact dbyte_lt _ _
end Go.Proofs.YtdcpicbkemmakaaDoor

/- The contract of mac.Same: true just where both are the same bytes. -/
namespace Go.Proofs.YtdcpicbkemmakaaDoor
open Go.RowKit
set_option linter.unusedSimpArgs false
theorem wrap8 (n : Nat) (h : n < 256) : IntKind.u8.wrap (n : Int) = n := by
  simp only [IntKind.wrap, IntKind.bits, IntKind.signed]
  simp
  omega
theorem of8 (x : Nat) (h : x < 256) : (BitVec.ofInt 8 (x : Int)).toNat = x := by
  rw [BitVec.toNat_ofInt]
  omega
theorem xor_lt {x y : Nat} (hx : x < 256) (hy : y < 256) : x ^^^ y < 256 := Nat.xor_lt_two_pow (n := 8) hx hy
theorem b_xor {x y : Nat} (hx : x < 256) (hy : y < 256) : bits .xor .u8 (x : Int) (y : Int) = ((x ^^^ y : Nat) : Int) := by
  show IntKind.u8.wrap (((BitVec.ofInt 8 (x : Int) ^^^ BitVec.ofInt 8 (y : Int)).toNat : Nat) : Int) = _
  rw [BitVec.toNat_xor, of8 _ hx, of8 _ hy]
  exact wrap8 _ (xor_lt hx hy)
theorem getD_low {xs : List Nat} (h : ∀ x ∈ xs, x < 256) (k : Nat) : xs.getD k 0 < 256 := by
  rw [List.getD_eq_getElem?_getD]
  cases e : xs[k]? with
  | none => simp
  | some x => exact h x (List.mem_of_getElem? e)
theorem xor_zero {x y : Nat} : x ^^^ y = 0 ↔ x = y := by
  constructor
  · intro h
    apply Nat.eq_of_testBit_eq
    intro i
    have := congrArg (·.testBit i) h
    simpa using this
  · rintro rfl; simp
end Go.Proofs.YtdcpicbkemmakaaDoor

/- Marks as functions of lists; the cells of a mark's state, and how one is built. -/
namespace Go.Proofs.YtdcpicbkemmakaaDoor
open Go.RowKit
set_option linter.unusedSimpArgs false
/-- The key, fit to a block. -/
def fitS (k : List Nat) : List Nat := if 64 < k.length then sumS k ++ List.replicate 32 0 else k ++ List.replicate (64 - k.length) 0
theorem fitS_length (k : List Nat) : (fitS k).length = 64 := by
  unfold fitS
  split
  · rw [List.length_append, sumS_length, List.length_replicate]
  · rw [List.length_append, List.length_replicate]; omega
theorem fitS_low {k : List Nat} (h : ∀ x ∈ k, x < 256) : ∀ x ∈ fitS k, x < 256 := by
  unfold fitS
  split
  · exact low_app (sumS_low k) (low_rep _)
  · exact low_app h (low_rep _)
/-- Each byte xor b. -/
def xb (K : List Nat) (b : Nat) : List Nat := K.map (· ^^^ b)
theorem xb_length (K : List Nat) (b : Nat) : (xb K b).length = K.length := by simp [xb]
theorem xb_low {K : List Nat} (h : ∀ x ∈ K, x < 256) {b : Nat} (hb : b < 256) : ∀ x ∈ xb K b, x < 256 := by
  intro x hx
  obtain ⟨y, hy, rfl⟩ := List.mem_map.1 hx
  exact xor_lt (h y hy) hb
/-- The first k bytes xor b, the others as they are. -/
def xK (K : List Nat) (b k : Nat) : List Nat := xb (K.take k) b ++ K.drop k
theorem xK_zero (K : List Nat) (b : Nat) : xK K b 0 = K := by simp [xK, xb]
theorem xK_all (K : List Nat) (b : Nat) {k : Nat} (h : K.length = k) : xK K b k = xb K b := by subst h; simp [xK]
theorem xK_length (K : List Nat) (b k : Nat) : (xK K b k).length = K.length := by
  simp [xK, xb]
  omega
theorem xK_get (K : List Nat) (b k : Nat) (h : k < K.length) : (xK K b k)[k]? = some (K.getD k 0) := by
  unfold xK
  rw [List.getElem?_append_right (by simp [xb]; omega), List.getElem?_drop]
  simp [xb, List.getD_eq_getElem?_getD, h, Nat.min_eq_left (Nat.le_of_lt h)]
theorem xK_set (K : List Nat) (b k : Nat) (h : k < K.length) : (xK K b k).set k (K.getD k 0 ^^^ b) = xK K b (k + 1) := by
  have e : (K.drop k) = K.getD k 0 :: K.drop (k + 1) := by
    rw [List.drop_eq_getElem_cons h]
    simp [List.getD_eq_getElem?_getD, h]
  have l : (xb (K.take k) b).length = k := by simp [xb]; omega
  have t : K.take (k + 1) = K.take k ++ [K.getD k 0] := by
    rw [List.take_add_one]
    simp [List.getD_eq_getElem?_getD, h]
  unfold xK
  rw [List.set_append_right _ _ (by omega), l, e, Nat.sub_self, List.set_cons_zero, t]
  simp [xb]
/-- A text's mark by a key of one block. -/
def markK (K p : List Nat) : List Nat := sumS (xb K 92 ++ sumS (xb K 54 ++ p))
def markS (k p : List Nat) : List Nat := markK (fitS k) p
theorem markK_length (K p : List Nat) : (markK K p).length = 32 := sumS_length _
/-- The cells of the state of a text. -/
def stC (p : List Nat) : List Value := cS (wordsS IV p) (restS p) (cntS 0 p)
theorem stC_length (p : List Nat) : (stC p).length = 73 := cS_length _ _ _ (restS_length p)
theorem stV_eq (p : List Nat) : stV IV 0 p = .agg (stC p).toArray := rfl
theorem one_stC (p : List Nat) : ∀ v ∈ stC p, v.oneCell' = true := one_cS _ _ _
def mC (K p : List Nat) : List Value := stC (xb K 54 ++ p) ++ stC (xb K 92)
theorem mC_length (K p : List Nat) : (mC K p).length = 146 := by rw [mC, List.length_append, stC_length, stC_length]
theorem one_mC (K p : List Nat) : ∀ v ∈ mC K p, v.oneCell' = true := fun v hv => (List.mem_append.1 hv).elim (one_stC _ v) (one_stC _ v)
/-- A mark's state: the key K, of one block, and the text p. -/
def mV (K p : List Nat) : Value := .agg (mC K p).toArray
theorem mac_places : ((Tryd.prog.underlying 104).bind fun d => match d with | .struct fields => fields.toList.mapM (fun f => (Tryd.prog.info? f.type).map fun i => (f.offset, i.size)) | _ => none) = some [(0, 73), (73, 73)] := by kernel_rfl
theorem info_mstz : (Tryd.prog.info? 104).map (·.zero) = some (some (.agg (zS ++ zS).toArray)) := by kernel_rfl
theorem built_mac (A B : List Value) (hA : A.length = 73) (hB : B.length = 73) : Tryd.prog.built 104 [(0, .agg A.toArray), (1, .agg B.toArray)] = some (A ++ B).toArray := by
  rw [built_of info_mstz mac_places, fill_step _ _ 0 0 A [] zS zS _ (by rw [hA]; rfl) (by simp) rfl (by rw [hA, zS_length]), fill_step _ _ 1 73 B A zS [] _ (by rw [hB]; rfl) (by simp) hA (by rw [hB, zS_length]), Instr.fill]
  simp
theorem info_mst : (Tryd.prog.info? 104).map (·.size) = some 146 := by kernel_rfl
theorem zero_mst (w : World) : (zeroValue 104).run Tryd.prog w = .ok (.agg (zS ++ zS).toArray) w := by
  have := info_mstz
  cases h : Tryd.prog.info? 104 with
  | none => simp [h] at this
  | some d =>
    have hz : d.zero = some (.agg (zS ++ zS).toArray) := by simpa [h] using this
    simp [zeroValue, typeInfo, h, hz]
theorem u_mst0 : (Tryd.prog.underlying 104).map TypeDesc.isRow = some true := by kernel_rfl
theorem u_mst : ∃ d, Tryd.prog.underlying 104 = some d ∧ d.isRow = true := by
  have := u_mst0
  cases h : Tryd.prog.underlying 104 with
  | none => simp [h] at this
  | some d => exact ⟨d, rfl, by simpa [h] using this⟩
end Go.Proofs.YtdcpicbkemmakaaDoor
