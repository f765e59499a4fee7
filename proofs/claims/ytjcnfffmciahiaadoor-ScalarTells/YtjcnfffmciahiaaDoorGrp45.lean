/- Texts that were joined: HRPad, HRFrom, HRS. -/
import Derived.Test.YtjcnfffmciahiaaDoorGrp34
import Derived.Test.YtjcnfffmciahiaaDoorGrp37
import Derived.Test.YtjcnfffmciahiaaDoorHRBlock
import Derived.Test.YtjcnfffmciahiaaDoorGrp36
/- The contract of sealringref.PadText. -/
namespace Go.Proofs.YtjcnfffmciahiaaDoor
open Go.RowKit
set_option linter.unusedSimpArgs false
attribute [local go_sem] ByteArray.size_append
/-- 128 and j bytes 0. -/
def headP (j : Nat) : List Nat := 128 :: List.replicate j 0
/-- The last k bytes of eight, the greatest first. -/
def tailP (X : Nat) : Nat → List Nat
  | 0 => []
  | k + 1 => X / 256 ^ k % 256 :: tailP X k
theorem headP_snoc (j : Nat) : headP j ++ [0] = headP (j + 1) := by
  simp [headP, List.replicate_succ']
theorem headP_length (j : Nat) : (headP j).length = j + 1 := by simp [headP]
theorem tailP_length (X : Nat) : ∀ k, (tailP X k).length = k
  | 0 => rfl
  | k + 1 => by rw [tailP, List.length_cons, tailP_length X k]
theorem tailP_get (X : Nat) : ∀ k j, j < k → (tailP X k)[j]? = some (X / 256 ^ (k - 1 - j) % 256)
  | 0, _, h => absurd h (Nat.not_lt_zero _)
  | k + 1, 0, _ => by simp [tailP]
  | k + 1, j + 1, h => by
    rw [tailP, List.getElem?_cons_succ, tailP_get X k j (by omega), show k + 1 - 1 - (j + 1) = k - 1 - j by omega]
theorem pad_parts (n : Nat) : headP (padZ n) ++ tailP (8 * n % 18446744073709551616) 8 = padS n := by
  unfold padS
  generalize 8 * n % 18446744073709551616 = X at *
  generalize padZ n = z at *
  apply List.ext_getElem?
  intro j
  rcases Nat.lt_or_ge j (z + 9) with h | h
  · have g : (padF X z 8)[j]? = some (if j = 0 then 128 else if z + 9 ≤ j + 8 then X / 256 ^ (z + 8 - j) % 256 else 0) := by simp [padF, h]
    rw [g]
    rcases Nat.lt_or_ge j (z + 1) with h1 | h1
    · rw [List.getElem?_append_left (by rw [headP_length]; exact h1)]
      cases j with
      | zero => rfl
      | succ j =>
        rw [if_neg (by omega), if_neg (by omega)]
        simp only [headP, List.getElem?_cons_succ, List.getElem?_replicate]
        rw [if_pos (by omega)]
    · rw [List.getElem?_append_right (by rw [headP_length]; exact h1), headP_length, tailP_get X 8 _ (by omega), if_neg (by omega), if_pos (by omega), show 8 - 1 - (j - (z + 1)) = z + 8 - j by omega]
  · rw [List.getElem?_eq_none (by rw [List.length_append, headP_length, tailP_length]; omega), List.getElem?_eq_none (by rw [padF_length]; omega)]
def strL : Value → Nat
  | .string b => b.size
  | _ => 0
theorem str_one (x : Nat) : sOf [x] = ⟨#[UInt8.ofNat x]⟩ := rfl
theorem head_on (j : Nat) : sOf (headP j) ++ (⟨#[0]⟩ : ByteArray) = sOf (headP (j + 1)) := by
  rw [show (⟨#[0]⟩ : ByteArray) = sOf [0] from rfl, sOf_append, headP_snoc]
set_option maxRecDepth 20000 in
set_option maxHeartbeats 4000000 in
theorem padText_fun (n : Nat) (hn : n < 18446744073709551616) (w : World) :
    Calls Tryd.prog 61 #[.int .u64 n] w fun e w' => e = .returned (.string (sOf (padS n))) ∧ Below w.heap.size w w' := by
  have PP : Hid _ := pad_parts n
  have BW : Hid (IntKind.u64.wrap ((n : Int) * 8) = ((8 * n % 18446744073709551616 : Nat) : Int)) := by rw [Int.mul_comm]; exact bits_wrap n
  have z1 := padZ_lt n
  have zd : (n + 9 + padZ n) % 64 = 0 := by unfold padZ; omega
  have X1 : 8 * n % 18446744073709551616 < 18446744073709551616 := Nat.mod_lt _ (by decide)
  generalize padZ n = z at *
  generalize 8 * n % 18446744073709551616 = X at *
  go_enter Tryd.func61, Tryd.ntmps61
  go_wp2_with fail
  go_loopw [3] (fun s wr => ∃ j : Nat, j ≤ z ∧ s = .string (sOf (headP j)) ∧ Hid (wr = w)) (fun s _ => 200 - strL s)
  case atStart => exact ⟨0, by omega, rfl, rfl⟩
  case round =>
    obtain ⟨j, hj, rfl, hw⟩ := hrel
    have hw := hw.out
    subst hw
    have sl : (sOf (headP j)).size = j + 1 := by rw [sOf_size, headP_length]
    have HO : Hid _ := head_on j
    generalize hsj : sOf (headP j) = sj at *
    by_cases hlt : j < z
    · have t1 : ¬ ((n : Int) % 64 + ((j : Int) + 1) + 8) % 64 = 0 := by omega
      have t2 : (((n : Int) % 64 + ((j : Int) + 1) + 8) % 64 == 0) = false := by simpa using t1
      go_wp2_with fail
      go_roundw
      case rel => exact ⟨j + 1, by omega, by rw [HO.out], trivial⟩
      case measure =>
        simp only [strL, ByteArray.size_append, sl]
        show 200 - (j + 1 + 1) < 200 - (j + 1)
        omega
    · obtain rfl : j = z := by omega
      have t1 : ((n : Int) % 64 + ((j : Int) + 1) + 8) % 64 = 0 := by omega
      clear hlt hj HO
      go_wp2_with fail
      rw [BW.out]
      clear t1
      go_loopw [5, 6, 21] (fun b t i wq => ∃ k : Nat, k ≤ 8 ∧ b = .int .u64 ((X / 256 ^ k : Nat) : Int) ∧ t = .string (sOf (tailP X k)) ∧ i = .int .i64 k ∧ Hid (Below wr.heap.size wr wq)) (fun _ _ i _ => 8 - (intOf i).toNat)
      case atStart => exact ⟨0, by omega, by simp, rfl, rfl, Below.refl _ _⟩
      case round =>
        obtain ⟨k, hk, rfl, rfl, rfl, hb⟩ := hrel
        by_cases hlk : k < 8
        · have tl : (sOf (tailP X k)).size = k := by rw [sOf_size, tailP_length]
          have TO : Hid (sOf [X / 256 ^ k % 256] ++ sOf (tailP X k) = sOf (tailP X (k + 1))) := by rw [sOf_append]; exact rfl
          have e1 : ((X / 256 ^ k : Nat) : Int) % 256 = ((X / 256 ^ k % 256 : Nat) : Int) := by omega
          have e2 : ((X / 256 ^ k : Nat) : Int) / 256 = ((X / 256 ^ (k + 1) : Nat) : Int) := by rw [Nat.pow_succ, ← Nat.div_div_eq_div_mul]; omega
          have b1 : X / 256 ^ k % 256 < 256 := Nat.mod_lt _ (by decide)
          have b2 : X / 256 ^ (k + 1) < 18446744073709551616 := Nat.lt_of_le_of_lt (Nat.div_le_self _ _) X1
          generalize ht2 : tailP X (k + 1) = t2 at *
          generalize hxa : X / 256 ^ k % 256 = xa at *
          generalize hxb : X / 256 ^ (k + 1) = xb at *
          generalize X / 256 ^ k = xc at *
          have HXB : Hid (X / 256 ^ (k + 1) = xb) := hxb
          have HT2 : Hid (tailP X (k + 1) = t2) := ht2
          clear hxa hxb ht2
          have BY : Hid (∀ (W : World) (t : TypeId), By (W.alloc (.cells #[.int .u8 (xa : Int)] t)) (.slice (some ⟨W.heap.size, 0, none⟩) 1 1) [xa]) := fun W t => By.one ((cell_top rfl).trans rfl)
          have s1 : (sOf [xa]).size = 1 := by rw [sOf_size]; rfl
          go_wp2_with (refine wp_conv rfl (.tmp 26) rfl _ [xa] rfl (BY.out _ _) ?_)
          go_roundw
          case rel => exact ⟨k + 1, by omega, by rw [HXB.out], by rw [TO.out, HT2.out], by go_num, hb.out.alloc hb.out.size _⟩
          case measure => simp [intOf]; omega
        · obtain rfl : k = 8 := by omega
          have t8 : (sOf (tailP X 8)).size = 8 := by rw [sOf_size, tailP_length]
          have EE : Hid (sj ++ sOf (tailP X 8) = sOf (padS n)) := by rw [← hsj, sOf_append, PP.out]; exact rfl
          go_wp2_with fail
          rw [EE.out]
          go_ret
          exact ⟨rfl, hb.out⟩
end Go.Proofs.YtjcnfffmciahiaaDoor

/- The contracts of sealringref.From, Begin and Sum. -/
namespace Go.Proofs.YtjcnfffmciahiaaDoor
open Go.RowKit
set_option linter.unusedSimpArgs false
theorem sOf_extract (xs : List Nat) (a b : Nat) : (sOf xs).extract a b = sOf ((xs.drop a).take (b - a)) := by
  apply ByteArray.ext
  simp [sOf, ByteArray.data_extract]
theorem absN_on (H : R8) (T : List Nat) (k : Nat) : absN H (k + 1) T = mixS (absN H k T) ((T.drop (64 * k)).take 64) := by
  rw [absN_add]; rfl
theorem part64 {T : List Nat} {M k : Nat} (hT : T.length = 64 * M) (hk : k < M) : ((T.drop (64 * k)).take 64).length = 64 := by
  rw [List.length_take, List.length_drop]; omega
set_option maxRecDepth 20000 in
set_option maxHeartbeats 4000000 in
theorem from_fun (H : R8) (n : Nat) (hn : n % 64 = 0) (p : List Nat) (lp : ∀ x ∈ p, x < 256) (zp : p.length ≤ 1000000000000000) (v : Value) (w : World) (hv : Wy w v H.list) (hT : RTab w) :
    Calls Tryd.prog 56 #[v, .int .u64 n, .string (sOf p)] w fun e w' => e = .returned (vB (digS (wordsS H (p ++ padS (cntS n p))))) ∧ Below w.heap.size w w' := by
  have cl : cntS n p < 18446744073709551616 := Nat.mod_lt _ (by decide)
  have PT : Hid _ := padText_fun (cntS n p) cl
  have HV : Hid (Wy w v H.list) := hv
  have HT : Hid (RTab w) := hT
  have ps : (sOf p).size = p.length := sOf_size p
  have CW : Hid (IntKind.u64.wrap ((n : Int) + (p.length : Int)) = ((cntS n p : Nat) : Int)) := by unfold cntS; rw [IntKind.wrap_u64]; exact (by omega : ((n : Int) + (p.length : Int)) % 18446744073709551616 = (((n + p.length) % 18446744073709551616 : Nat) : Int))
  have fl : (p ++ padS (cntS n p)).length % 64 = 0 := by
    rw [List.length_append]
    have := padS_fills (cntS n p)
    have h2 := cnt_mod n p hn
    omega
  have pl : (padS (cntS n p)).length ≤ 72 := by rw [padS_length]; have := padZ_lt (cntS n p); omega
  have lT : ∀ x ∈ p ++ padS (cntS n p), x < 256 := fun x hx => (List.mem_append.1 hx).elim (lp x) (padS_low _ x)
  have sp2 : (sOf (padS (cntS n p))).size = (padS (cntS n p)).length := sOf_size _
  have SA : Hid (sOf p ++ sOf (padS (cntS n p)) = sOf (p ++ padS (cntS n p))) := sOf_append _ _
  have tl : (p ++ padS (cntS n p)).length = p.length + (padS (cntS n p)).length := List.length_append
  clear hv hT hn lp
  generalize cntS n p = cn at *
  generalize hpd : padS cn = pd at *
  clear hpd
  obtain ⟨M, hM⟩ : ∃ M, (p ++ pd).length = 64 * M := ⟨(p ++ pd).length / 64, by omega⟩
  have ID : Hid _ := info_d32.trans (congrArg some (show 32 = ((digS (wordsS H (p ++ pd))).map b8).length by rw [List.length_map, digS_length]))
  have WS : Hid (wordsS H (p ++ pd) = absN H M (p ++ pd)) := by unfold wordsS; rw [hM, Nat.mul_div_cancel_left M (by decide : 0 < 64)]; exact rfl
  have ts : (sOf (p ++ pd)).size = 64 * M := by rw [sOf_size, hM]
  have LT : Hid (∀ x ∈ p ++ pd, x < 256) := lT
  have HM : Hid ((p ++ pd).length = 64 * M) := hM
  have m1 : 64 * M ≤ 1000000000000072 := by omega
  clear lT hM fl
  generalize hT : p ++ pd = T at *
  generalize sOf p = s1 at *
  generalize sOf pd = s2 at *
  have EX : Hid (∀ k, (sOf T).extract (64 * k) (64 * k + 64) = sOf ((T.drop (64 * k)).take 64)) := fun k => by rw [sOf_extract, show 64 * k + 64 - 64 * k = 64 by omega]
  generalize hst : sOf T = st at *
  have HST : Hid (sOf T = st) := hst
  clear hT hst
  go_enter Tryd.func56, Tryd.ntmps56
  obtain ⟨x0, x1⟩ := al1 w #[Value.int IntKind.u8 0, Value.int IntKind.u8 0, Value.int IntKind.u8 0, Value.int IntKind.u8 0, Value.int IntKind.u8 0, Value.int IntKind.u8 0, Value.int IntKind.u8 0, Value.int IntKind.u8 0, Value.int IntKind.u8 0, Value.int IntKind.u8 0, Value.int IntKind.u8 0, Value.int IntKind.u8 0, Value.int IntKind.u8 0, Value.int IntKind.u8 0, Value.int IntKind.u8 0, Value.int IntKind.u8 0, Value.int IntKind.u8 0, Value.int IntKind.u8 0, Value.int IntKind.u8 0, Value.int IntKind.u8 0, Value.int IntKind.u8 0, Value.int IntKind.u8 0, Value.int IntKind.u8 0, Value.int IntKind.u8 0, Value.int IntKind.u8 0, Value.int IntKind.u8 0, Value.int IntKind.u8 0, Value.int IntKind.u8 0, Value.int IntKind.u8 0, Value.int IntKind.u8 0, Value.int IntKind.u8 0, Value.int IntKind.u8 0] 51
  have X0 : Hid (Blk _ _ ((List.replicate 32 0).map b8)) := x0
  have X1 : Hid (Below _ _ _) := x1
  clear x0 x1
  have b1 : s1.size ≤ 1000000000000000 := by rw [ps]; exact zp
  have b2 : s2.size ≤ 72 := by rw [sp2]; exact pl
  have CW' : IntKind.u64.wrap ((n : Int) + (s1.size : Int)) = (cn : Int) := by rw [ps]; exact CW.out
  have ts' : (s1 ++ s2).size = 64 * M := by rw [SA.out]; exact ts
  clear ps sp2 pl zp tl CW
  go_wp2_with fail
  refine (PT.out _).mono ?_
  rintro e w1 ⟨rfl, hb1⟩
  have D1 : Hid (Below w.heap.size w w1) := X1.out.trans (hb1.mono X1.out.size)
  have Y1 : Hid (Blk w1 w.heap.size ((List.replicate 32 0).map b8)) := X0.out.up hb1 X0.out.lt
  have V1 : Hid (Wy w1 v (absN H 0 T).list) := HV.out.up D1.out (Nat.le_refl _)
  clear hb1 X0 X1 PT CW'
  go_wp2_with fail
  rw [SA.out]
  clear ts'
  go_loopw [0, 7] (fun sv i wr => ∃ k : Nat, k ≤ M ∧ i = .int .i64 ((64 * k : Nat) : Int) ∧ Hid (Wy wr sv (absN H k T).list) ∧ Hid (Blk wr w.heap.size ((List.replicate 32 0).map b8)) ∧ Hid (Below w.heap.size w wr)) (fun _ i _ => 64 * M - (intOf i).toNat)
  case atStart => exact ⟨0, by omega, rfl, V1, Y1, D1⟩
  case round =>
    clear V1 Y1 D1
    obtain ⟨k, hk, rfl, wy, yb, hb⟩ := hrel
    by_cases hlt : k < M
    · have BL : Hid _ := block_fun (absN H k T) ((T.drop (64 * k)).take 64) (part64 HM.out hlt) (fun x hx => LT.out x (List.mem_of_mem_drop (List.mem_of_mem_take hx)))
      rw [← absN_on, ← EX.out k] at BL
      go_wp2_with fail
      refine (BL.out u0 wr wy.out (HT.out.up hb.out HT.out.pos)).mono ?_
      rintro e w2 ⟨⟨v2, rfl, wy2⟩, hb2⟩
      have W2 : Hid (Wy w2 v2 (absN H (k + 1) T).list) := wy2
      have Y2 : Hid (Blk w2 w.heap.size ((List.replicate 32 0).map b8)) := yb.out.up hb2 yb.out.lt
      have D2 : Hid (Below w.heap.size w w2) := hb.out.trans (hb2.mono hb.out.size)
      clear wy2 hb2 BL wy yb hb
      go_wp2_with fail
      go_roundw
      case rel => exact ⟨k + 1, by omega, by first | rfl | (congr 1; omega), W2, Y2, D2⟩
      case measure => simp [intOf]; omega
    · obtain rfl : k = M := by omega
      clear hlt hk
      rw [← WS.out] at wy
      obtain ⟨w9, hw9⟩ : ∃ w9, w9 = wr := ⟨_, rfl⟩
      subst hw9
      obtain ⟨va, vc, rfl, hvc⟩ := wy.out
      obtain ⟨kb, ko, rfl, hwc⟩ := hvc (by simp [R8.list])
      have HC : Hid (∀ j, j < 8 → w9.cell? ⟨kb, ko + j, none⟩ = some (uw ((wordsS H T).list.getD j 0))) := hwc
      clear hvc hwc wy
      rw [show (wordsS H T).list.length = 8 from rfl]
      go_wp2_with fail
      go_loopw [31] (fun i wq => ∃ k : Nat, k ≤ 32 ∧ i = .int .i64 k ∧ Hid (∀ j, j < 8 → wq.cell? ⟨kb, ko + j, none⟩ = some (uw ((wordsS H T).list.getD j 0))) ∧ Hid (Blk wq w.heap.size ((List.replicate 32 0).map b8)) ∧ Hid (Blk wq w9.heap.size ((fillD (wordsS H T) k).map b8)) ∧ Hid (Below w.heap.size w wq)) (fun i _ => 32 - (intOf i).toNat)
      case atStart =>
        obtain ⟨y0, y1⟩ := al1 w9 _ _
        exact ⟨0, by omega, rfl, fun j hj => (y1.cell (p := ⟨kb, ko + j, none⟩) (lt_of_cellB (HC.out j hj))).trans (HC.out j hj), yb.out.up y1 yb.out.lt, y0, hb.out.trans (y1.mono hb.out.size)⟩
      case round =>
        have g1 := lt_of_cellB (HC.out 0 (by decide))
        have g2 := yb.out.lt
        have g3 := hb.out.size
        clear HC yb hb
        generalize w9.heap.size = kd at *
        obtain ⟨k, hk, rfl, hc, by_, bd, hb⟩ := hrel
        by_cases hlt : k < 32
        · have c1 := hc.out (k / 4) (by omega)
          have c2 := bd.out.cell k (b8 ((fillD (wordsS H T) k).getD k 0)) (by simp [List.getD_eq_getElem?_getD, fillD_length, hlt])
          have c3 := bd.out.fz k
          have i1 : (k : Int) / 4 < 8 := by omega
          have DK : Hid _ := dbyte_key (wordsS H T) k (24 - 8 * (k % 4)) (by omega)
          have FD : Hid _ := fillD_set (wordsS H T) k hlt
          generalize (fillD (wordsS H T) k).getD k 0 = yy at *
          generalize hxx : (wordsS H T).list.getD (k / 4) 0 = xx at *
          go_wp2_with fail
          rw [DK.out]
          have b1 := bd.out.set k (b8 (dbyte (wordsS H T) k)) (by rw [List.length_map, fillD_length]; exact hlt)
          rw [← List.map_set, FD.out] at b1
          go_roundw
          case rel => exact ⟨k + 1, by omega, by go_num, fun j hj => (World.cell?_setCell_other _ _ _ _ (fun e => by have e2 : kd = kb := congrArg Addr.block e; omega)).trans (hc.out j hj), by_.out.apart1 (by omega), b1, hb.out.setCell (by show w.heap.size ≤ kd; omega) _⟩
          case measure => simp [intOf]; omega
        · obtain rfl : k = 32 := by omega
          rw [fillD_all] at bd
          have T1 : Hid (World.there _ w.heap.size 0 ((digS (wordsS H T)).map b8).length) := by_.out.there (by simp [digS_length])
          go_wp2_with (first | refine wpList_load_mid rfl 51 (.tmp 8) rfl kd 0 rfl ((digS (wordsS H T)).map b8) _ bd.out.all u_d32 rfl ID.out ?_ | refine wp_store_eq rfl 51 (.tmp 6) (.tmp 48) rfl w.heap.size 0 ((digS (wordsS H T)).map b8) rfl rfl T1.out ID.out (one_b8 _) ?_)
          intro w5 hw5
          go_wp2_with fail
          refine bodyPost_ret (v := vB (digS (wordsS H T))) ?_ rfl ⟨rfl, ?_⟩
          · rw [hw5.out]
            exact results_cell (b := w.heap.size) rfl rfl (World.rangeAt_setCells_same _ _ _ _ T1.out) u_d32 rfl ID.out
          · rw [hw5.out]
            exact below_setCells _ _ _ hb.out (Nat.le_refl _)
end Go.Proofs.YtjcnfffmciahiaaDoor

/- The contracts of sealringref.Begin and Sum. -/
namespace Go.Proofs.YtjcnfffmciahiaaDoor
open Go.RowKit
set_option linter.unusedSimpArgs false
attribute [local go_sem] YieldsP execOp
attribute [local simp] MP.eq_p
set_option maxHeartbeats 1000000 in
theorem begin_fun (w : World) : Calls Tryd.prog 57 #[] w fun e w' => (∃ v, e = .returned v ∧ Wy w' v IV.list) ∧ Below w.heap.size w w' := by
  have YW := al1 w #[.int .u32 1779033703, .int .u32 3144134277, .int .u32 1013904242, .int .u32 2773480762, .int .u32 1359893119, .int .u32 2600822924, .int .u32 528734635, .int .u32 1541459225] 72
  go_enter Tryd.func57, Tryd.ntmps57
  go_wp2_with fail
  go_ret
  exact ⟨⟨_, rfl, Wy.of_blk (ws := IV.list) YW.1⟩, YW.2⟩
set_option maxRecDepth 20000 in
set_option maxHeartbeats 2000000 in
theorem rsum_fun (p : List Nat) (lp : ∀ x ∈ p, x < 256) (zp : p.length ≤ 1000000000000000) (w : World) (hT : RTab w) :
    Calls Tryd.prog 43 #[.string (sOf p)] w fun e w' => e = .returned (vB (sumS p)) ∧ Below w.heap.size w w' := by
  have FR : Hid (∀ v w, Wy w v IV.list → RTab w → Calls Tryd.prog 56 #[v, .int .u64 0, .string (sOf p)] w fun e w' => e = .returned (vB (sumS p)) ∧ Below w.heap.size w w') := from_fun IV 0 rfl p lp zp
  have HT : Hid (RTab w) := hT
  have ID : Hid _ := info_d32.trans (congrArg some (show 32 = ((sumS p).map b8).length by rw [List.length_map, sumS_length]))
  obtain ⟨x0, x1⟩ := al1 w #[Value.int IntKind.u8 0, Value.int IntKind.u8 0, Value.int IntKind.u8 0, Value.int IntKind.u8 0, Value.int IntKind.u8 0, Value.int IntKind.u8 0, Value.int IntKind.u8 0, Value.int IntKind.u8 0, Value.int IntKind.u8 0, Value.int IntKind.u8 0, Value.int IntKind.u8 0, Value.int IntKind.u8 0, Value.int IntKind.u8 0, Value.int IntKind.u8 0, Value.int IntKind.u8 0, Value.int IntKind.u8 0, Value.int IntKind.u8 0, Value.int IntKind.u8 0, Value.int IntKind.u8 0, Value.int IntKind.u8 0, Value.int IntKind.u8 0, Value.int IntKind.u8 0, Value.int IntKind.u8 0, Value.int IntKind.u8 0, Value.int IntKind.u8 0, Value.int IntKind.u8 0, Value.int IntKind.u8 0, Value.int IntKind.u8 0, Value.int IntKind.u8 0, Value.int IntKind.u8 0, Value.int IntKind.u8 0, Value.int IntKind.u8 0] 51
  have X0 : Hid (Blk _ _ ((List.replicate 32 0).map b8)) := x0
  have X1 : Hid (Below _ _ _) := x1
  clear hT lp zp x0 x1
  generalize sOf p = st at *
  go_enter Tryd.func43, Tryd.ntmps43
  go_wp2_with fail
  generalize w.alloc (Obj.cells #[Value.int IntKind.u8 0, Value.int IntKind.u8 0, Value.int IntKind.u8 0, Value.int IntKind.u8 0, Value.int IntKind.u8 0, Value.int IntKind.u8 0, Value.int IntKind.u8 0, Value.int IntKind.u8 0, Value.int IntKind.u8 0, Value.int IntKind.u8 0, Value.int IntKind.u8 0, Value.int IntKind.u8 0, Value.int IntKind.u8 0, Value.int IntKind.u8 0, Value.int IntKind.u8 0, Value.int IntKind.u8 0, Value.int IntKind.u8 0, Value.int IntKind.u8 0, Value.int IntKind.u8 0, Value.int IntKind.u8 0, Value.int IntKind.u8 0, Value.int IntKind.u8 0, Value.int IntKind.u8 0, Value.int IntKind.u8 0, Value.int IntKind.u8 0, Value.int IntKind.u8 0, Value.int IntKind.u8 0, Value.int IntKind.u8 0, Value.int IntKind.u8 0, Value.int IntKind.u8 0, Value.int IntKind.u8 0, Value.int IntKind.u8 0] 51) = w1 at *
  refine (begin_fun _).mono ?_
  rintro e w2 ⟨⟨v2, rfl, wy2⟩, hb2⟩
  have D2 : Hid (Below w.heap.size w w2) := X1.out.trans (hb2.mono X1.out.size)
  have Y2 : Hid (Blk w2 _ _) := X0.out.up hb2 X0.out.lt
  have W2 : Hid (Wy w2 v2 IV.list) := wy2
  clear hb2 X0 X1 wy2
  go_wp2_with fail
  refine (FR.out v2 w2 W2.out (HT.out.up D2.out HT.out.pos)).mono ?_
  rintro e w4 ⟨rfl, hb4⟩
  have D4 : Hid (Below w.heap.size w w4) := D2.out.trans (hb4.mono D2.out.size)
  have Y4 : Hid (Blk w4 w.heap.size ((List.replicate 32 0).map b8)) := Y2.out.up hb4 Y2.out.lt
  clear hb4 D2 Y2
  have T1 : Hid (w4.there w.heap.size 0 ((sumS p).map b8).length) := Y4.out.there (by rw [List.length_map, sumS_length]; simp)
  go_wp2_with (refine wp_store_eq rfl 51 (.tmp 2) (.tmp 5) rfl w.heap.size 0 ((sumS p).map b8) rfl rfl T1.out ID.out (one_b8 _) ?_)
  intro w5 hw5
  go_wp2_with fail
  refine bodyPost_ret (v := vB (sumS p)) ?_ rfl ⟨rfl, ?_⟩
  · rw [hw5.out]
    exact results_cell (b := w.heap.size) rfl rfl (World.rangeAt_setCells_same _ _ _ _ T1.out) u_d32 rfl ID.out
  · rw [hw5.out]
    exact below_setCells _ _ _ D4.out (Nat.le_refl _)
end Go.Proofs.YtjcnfffmciahiaaDoor
