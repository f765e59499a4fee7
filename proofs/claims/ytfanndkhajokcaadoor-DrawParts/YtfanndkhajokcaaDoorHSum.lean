/- The contracts of hash.New, hash.State.Sum and hash.Sum. -/
import Derived.Test.YtfanndkhajokcaaDoorHWrite
import Derived.Test.YtfanndkhajokcaaDoorUpL
namespace Go.Proofs.YtfanndkhajokcaaDoor
open Go.RowKit
set_option linter.unusedSimpArgs false
attribute [local go_sem] YieldsP execOp
attribute [local simp] MP.eq_p
theorem built_new : Tryd.prog.built 68 [(0, .agg #[.int .u32 1779033703, .int .u32 3144134277, .int .u32 1013904242, .int .u32 2773480762, .int .u32 1359893119, .int .u32 2600822924, .int .u32 528734635, .int .u32 1541459225])] = some (cS IV (List.replicate 64 0) 0).toArray := by kernel_rfl
theorem wp_buildn {ops : Array Oper} {rest : List Oper} {o : Oper} {act : Act} {Q : Exit → Act → World → Prop} {w : World} (hgd : o.guard = none) (x : Operand) (ho : o.op = .build 68 #[(0, x)]) (hx : act.eval x = .agg #[.int .u32 1779033703, .int .u32 3144134277, .int .u32 1013904242, .int .u32 2773480762, .int .u32 1359893119, .int .u32 2600822924, .int .u32 528734635, .int .u32 1541459225])
    (zz : List Value) (hz : Hid (zz = cS IV (List.replicate 64 0) 0))
    (h : wpList Tryd.prog ops Q rest (act.put o.dst (.agg zz.toArray)) w) : wpList Tryd.prog ops Q (o :: rest) act w := by
  have hz := hz.out
  subst hz
  refine wpList_plain hgd fun K hK => ?_
  have e : (Instr.build 68 ((#[(0, x)] : Array (Nat × Operand)).map fun x => (x.fst, act.eval x.snd))).run Tryd.prog w = .ok (.agg (cS IV (List.replicate 64 0) 0).toArray) w := run_build (P := Tryd.prog) w 68 _ _ (by simpa [hx] using built_new)
  unfold Oper.wp
  simp only [execOp, ho, Sem.run_bind, e, Result.andThen_ok, Sem.run_pure]
  exact hK _ _ h
theorem st_new : stV IV 0 [] = .agg (cS IV (List.replicate 64 0) 0).toArray := rfl
set_option maxRecDepth 20000 in
set_option maxHeartbeats 2000000 in
theorem new_fun (w : World) : Calls Tryd.prog 40 #[] w fun e w' => e = .returned (stV IV 0 []) ∧ Below w.heap.size w w' := by
  have SN : Hid _ := st_new
  obtain ⟨zz, hzz⟩ : ∃ zz, zz = cS IV (List.replicate 64 0) 0 := ⟨_, rfl⟩
  have zl : zz.length = 73 := by rw [hzz]; exact cS_length _ _ _ (by simp)
  have I1 : Hid _ := info_state.trans (congrArg some zl.symm)
  have O1 : Hid (∀ v ∈ zz, v.oneCell' = true) := by rw [hzz]; exact one_cS _ _ _
  rw [← hzz] at SN
  obtain ⟨ds, hu, hr⟩ := u_state'
  obtain ⟨x0, x1⟩ := al1 w zS.toArray 68
  have T1 : Hid (World.there (w.alloc (.cells zS.toArray 68)) w.heap.size 0 zz.length) := x0.there (by rw [zl, ← zS_length, Nat.zero_add]; exact Nat.le_refl _)
  have X1 : Hid (Below _ _ _) := x1
  have ZZ : Hid (zz = cS IV (List.replicate 64 0) 0) := hzz
  clear hzz zl x0 x1
  go_enter Tryd.func40, Tryd.ntmps40
  go_wp2_with (first | (simp only [zero_state]) | (refine wp_buildn rfl (.tmp 1) rfl rfl zz ZZ ?_) | (refine wp_store_eq rfl 68 (.tmp 0) (.tmp 2) rfl w.heap.size 0 zz rfl rfl T1.out I1.out O1.out ?_))
  intro w2 hw2
  go_wp2_with fail
  rw [SN.out]
  refine bodyPost_ret (v := .agg zz.toArray) ?_ rfl ⟨rfl, ?_⟩
  · rw [hw2.out]
    exact results_cell (b := w.heap.size) rfl rfl (World.rangeAt_setCells_same _ _ _ _ T1.out) hu hr I1.out
  · rw [hw2.out]
    exact below_setCells _ _ _ X1.out (Nat.le_refl _)
theorem yields_load {P : Program} {o : Oper} {a : Act} {w : World} {φ : Value → World → Prop} (ty : TypeId) (x : Operand) (ho : o.op = .load ty x) (b f : Nat) (hx : a.eval x = .pointer (some ⟨b, f, none⟩)) (cs : List Value) (d : TypeDesc) (hc : w.rangeAt b f cs) (hu : P.underlying ty = some d) (hd : d.isRow = true) (hi : (P.info? ty).map (·.size) = some cs.length)
    (h : φ (.agg cs.toArray) w) : YieldsP P o a w φ := by
  have e : (execOp a.eval o).run P w = .ok (.value (.agg cs.toArray)) w := by
    unfold execOp
    simp only [ho, hx, Instr.loadAt, Instr.sureAddr, Sem.run_bind, Sem.run_pure, Result.andThen_ok, run_loadVar_mid w b f ty cs d hc hu hd hi]
  unfold YieldsP
  rw [e]
  exact ⟨h, Below.refl _ _⟩
def MP.by (xs : List Nat) : MP := ⟨fun v w => By w v xs, fun h hb => h.up hb (Nat.le_refl _)⟩
/-- A variable that was made from block B on, and holds these cells. -/
def MP.own (B : Nat) (vs : List Value) : MP := ⟨fun v w => ∃ g, v = .pointer (some ⟨g, 0, none⟩) ∧ B ≤ g ∧ Blk w g vs, fun ⟨g, e, h, hb⟩ hk => ⟨g, e, h, hb.up hk hb.lt⟩⟩
theorem yields_state {o : Oper} {a : Act} {w : World} {B : Nat} (ho : o.op = .alloc 68) (hB : B ≤ w.heap.size) : YieldsP Tryd.prog o a w (MP.own B zS).p := by
  have e : (execOp a.eval o).run Tryd.prog w = .ok (.value (.pointer (some ⟨w.heap.size, 0, none⟩))) (w.alloc (.cells zS.toArray 68)) := by
    unfold execOp
    simp [ho, zero_state, Instr.alloc, newVar, Value.cells, go_sem] <;> rfl
  unfold YieldsP
  rw [e]
  exact ⟨⟨_, rfl, hB, Blk.al rfl rfl⟩, (Below.refl _ _).alloc (Nat.le_refl _) _⟩
theorem digS_get (H : R8) (k : Nat) (hk : k < 32) : (digS H).getD k 0 = dbyte H k := by
  simp [digS, List.getD_eq_getElem?_getD, hk]
/-- The first k bytes of a digest, the others 0. -/
def fillD (H : R8) (k : Nat) : List Nat := (List.range 32).map fun j => if j < k then dbyte H j else 0
theorem fillD_length (H : R8) (k : Nat) : (fillD H k).length = 32 := by simp [fillD]
theorem fillD_set (H : R8) (k : Nat) (h : k < 32) : (fillD H k).set k (dbyte H k) = fillD H (k + 1) := by
  apply List.ext_getElem?
  intro j
  rw [List.getElem?_set, fillD_length]
  by_cases hj : j < 32
  · have g := fun k => (by simp [fillD, hj] : (fillD H k)[j]? = some (if j < k then dbyte H j else 0))
    rw [g, g]
    by_cases e : k = j
    · subst e; simp [h]
    · rw [if_neg e]
      by_cases l : j < k
      · rw [if_pos l, if_pos (by omega)]
      · rw [if_neg l, if_neg (by omega)]
  · rw [List.getElem?_eq_none (by rw [fillD_length]; omega), List.getElem?_eq_none (by rw [fillD_length]; omega), if_neg (by omega)]
theorem fillD_all (H : R8) : fillD H 32 = digS H := by
  unfold fillD digS
  apply List.map_congr_left
  intro j hj
  rw [if_pos (List.mem_range.1 hj)]
theorem dbyte_key (H : R8) (k : Nat) (s : Nat) (hs : s = 24 - k % 4 * 8) : (U (H.list.getD (k / 4) 0) / 2 ^ s) % 256 = ((dbyte H k : Nat) : Int) := by
  unfold dbyte U
  rw [← hs, Nat.shiftRight_eq_div_pow]
  simp
theorem u_d32 : Tryd.prog.underlying 47 = some (.array 32 5) := by kernel_rfl
theorem info_d32 : (Tryd.prog.info? 47).map (·.size) = some 32 := by kernel_rfl
set_option maxRecDepth 20000 in
set_option maxHeartbeats 2000000 in
theorem sum_fun (H : R8) (n : Nat) (hn : n % 64 = 0) (p : List Nat) (lp : ∀ x ∈ p, x < 256) (w : World) (hT : KTab w) :
    Calls Tryd.prog 42 #[stV H n p] w fun e w' => e = .returned (vB (digS (wordsS H (p ++ padS (cntS n p))))) ∧ Below w.heap.size w w' := by
  have CL := cS_length (wordsS H p) (restS p) (cntS n p) (restS_length p)
  have I1 : Hid _ := info_state.trans (congrArg some CL.symm)
  have C72 : Hid (∀ W k, Blk W k (cS (wordsS H p) (restS p) (cntS n p)) → W.cell? ⟨k, 72, none⟩ = some (.int .u64 ((cntS n p : Nat) : Int))) := fun W k h => h.cntAt (restS_length p)
  have PF : Hid _ := pad_fun (cntS n p)
  have WF : Hid _ := write_core H n hn p (padS (cntS n p)) lp (padS_low _) (by rw [padS_length]; have := padZ_lt (cntS n p); omega)
  have SV : Hid (∀ q, stV H n q = .agg (cS (wordsS H q) (restS q) (cntS n q)).toArray) := fun q => rfl
  have HT : Hid (KTab w) := hT
  clear hT hn lp CL
  rw [SV.out]
  obtain ⟨ds, hu, hr⟩ := u_state'
  generalize cntS n p = cn at *
  generalize padS cn = pd at *
  have NL := cS_length (wordsS H (p ++ pd)) (restS (p ++ pd)) (cntS n (p ++ pd)) (restS_length _)
  have I2 : Hid _ := info_state.trans (congrArg some NL.symm)
  have HNL : Hid _ := NL
  rw [SV.out] at WF
  clear NL SV
  generalize restS (p ++ pd) = rq at *
  generalize cntS n (p ++ pd) = cq at *
  generalize wordsS H (p ++ pd) = Wq at *
  generalize cS (wordsS H p) (restS p) cn = C0 at *
  go_enter Tryd.func42, Tryd.ntmps42
  go_wp2_with fail
  obtain ⟨x0, x1, x2⟩ := al2 w C0.toArray #[Value.int IntKind.u8 0, Value.int IntKind.u8 0, Value.int IntKind.u8 0, Value.int IntKind.u8 0, Value.int IntKind.u8 0, Value.int IntKind.u8 0, Value.int IntKind.u8 0, Value.int IntKind.u8 0, Value.int IntKind.u8 0, Value.int IntKind.u8 0, Value.int IntKind.u8 0, Value.int IntKind.u8 0, Value.int IntKind.u8 0, Value.int IntKind.u8 0, Value.int IntKind.u8 0, Value.int IntKind.u8 0, Value.int IntKind.u8 0, Value.int IntKind.u8 0, Value.int IntKind.u8 0, Value.int IntKind.u8 0, Value.int IntKind.u8 0, Value.int IntKind.u8 0, Value.int IntKind.u8 0, Value.int IntKind.u8 0, Value.int IntKind.u8 0, Value.int IntKind.u8 0, Value.int IntKind.u8 0, Value.int IntKind.u8 0, Value.int IntKind.u8 0, Value.int IntKind.u8 0, Value.int IntKind.u8 0, Value.int IntKind.u8 0] 68 47
  have X0 : Hid (Blk _ _ _) := x0
  have X1 : Hid (Blk _ _ _) := x1
  have X2 : Hid (Below _ _ _) := x2
  clear x0 x1 x2
  generalize (w.alloc (Obj.cells C0.toArray 68)).alloc (Obj.cells #[Value.int IntKind.u8 0, Value.int IntKind.u8 0, Value.int IntKind.u8 0, Value.int IntKind.u8 0, Value.int IntKind.u8 0, Value.int IntKind.u8 0, Value.int IntKind.u8 0, Value.int IntKind.u8 0, Value.int IntKind.u8 0, Value.int IntKind.u8 0, Value.int IntKind.u8 0, Value.int IntKind.u8 0, Value.int IntKind.u8 0, Value.int IntKind.u8 0, Value.int IntKind.u8 0, Value.int IntKind.u8 0, Value.int IntKind.u8 0, Value.int IntKind.u8 0, Value.int IntKind.u8 0, Value.int IntKind.u8 0, Value.int IntKind.u8 0, Value.int IntKind.u8 0, Value.int IntKind.u8 0, Value.int IntKind.u8 0, Value.int IntKind.u8 0, Value.int IntKind.u8 0, Value.int IntKind.u8 0, Value.int IntKind.u8 0, Value.int IntKind.u8 0, Value.int IntKind.u8 0, Value.int IntKind.u8 0, Value.int IntKind.u8 0] 47) = w1 at *
  refine wp_region_monoLE 6 [MP.eq (.agg C0.toArray), MP.eq (.pointer (some ⟨w.heap.size, 72, none⟩)), MP.eq (.int .u64 (cn : Int)), MP.by pd, MP.eq (.agg (cS Wq rq cq).toArray), MP.own w1.heap.size zS] (by kernel_rfl) (by kernel_rfl) rfl rfl (by kernel_rfl) ?_
  apply Exists.intro
  refine ⟨fun vals => ?_, ⟨?_, ?_, ?_, ?_, ?_, ?_, trivial⟩, ?_⟩
  · simp only [putsV, dstL, List.length_cons, List.length_nil, Nat.zero_add, Nat.reduceAdd, List.getElem?_cons_zero, List.getElem?_cons_succ, Option.bind_some, Act.put, List.setIfInBounds_toArray, List.set_cons_succ, List.set_cons_zero]
    rfl
  · intro vals W hW hw hd
    refine ⟨rfl, yields_load 68 (.tmp 1) rfl w.heap.size 0 rfl C0 ds (X0.out.up hW.out X0.out.lt).all hu hr I1.out rfl⟩
  · intro vals W hW hw hd
    refine ⟨rfl, ?_⟩
    simp [go_sem, hd]
    exact Below.refl _ _
  · intro vals W hW hw hd
    try simp [Region.binds] at hd
    have c := C72.out W w.heap.size (X0.out.up hW.out X0.out.lt)
    refine ⟨rfl, ?_⟩
    simp [go_sem, hd, c]
    exact Below.refl _ _
  · intro vals W hW hw hd
    try simp [Region.binds] at hd
    refine ⟨rfl, ?_⟩
    simp [go_sem, hd]
    exact (PF.out W).mono fun e w' ⟨⟨v, he, ho⟩, hb⟩ => ⟨v, he, ho.by, hb⟩
  · intro vals W hW hw hd
    try simp [Region.binds] at hd
    obtain ⟨h0, h3⟩ := hd
    refine ⟨rfl, ?_⟩
    have TW : KTab W := HT.out.up (X2.out.trans (hW.out.mono X2.out.size)) HT.out.pos
    have WW := (WF.out (vals 3) W h3 TW).mono fun e w' (he : _ ∧ _) => (⟨_, he.1, rfl, he.2⟩ : ∃ v, e = .returned v ∧ v = .agg (cS Wq rq cq).toArray ∧ Below W.heap.size W w')
    rw [← h0] at WW
    simp [go_sem]
    exact WW
  · intro vals W hW hw hd
    exact ⟨rfl, yields_state rfl hW.out.size⟩
  intro o ho vals w2 hb2 hF
  obtain ⟨f0, f1, f2, f3, f4, ⟨g, f5, gB, gz⟩, _⟩ := hF
  simp only [MP.eq_p] at f0 f1 f2 f4
  obtain rfl := Option.some.inj ho.symm
  clear ho
  have T2 := gz.there (o := 0) (n := (cS Wq rq cq).length) (by rw [HNL.out, zS_length]; omega)
  refine ⟨rfl, fun K hK => wp_store_mid 68 (.tmp 3) (.tmp 10) rfl g 0 (cS Wq rq cq).toArray f5 f4 (by rw [List.size_toArray]; exact T2) (by rw [List.size_toArray]; exact I2.out) (all_oneCell_toArray (one_cS _ _ _)) (hK _ _ ?_)⟩
  have Y1 : Hid (Blk w2 _ _) := X1.out.up hb2.out X1.out.lt
  have k1 := X1.out.lt
  have D2 : Hid (Below w.heap.size w w2) := X2.out.trans (hb2.out.mono X2.out.size)
  have gB' : w.heap.size ≤ g := Nat.le_trans X2.out.size gB
  obtain ⟨k2, hk2⟩ : ∃ w3, w3 = w2.setCells g 0 (cS Wq rq cq) := ⟨_, rfl⟩
  rw [← hk2]
  have Y2 : Hid (Blk k2 (w.heap.size + 1) ((List.replicate 32 0).map b8)) := by rw [hk2]; exact Y1.out.apart (by omega)
  have D3 : Hid (Below w.heap.size w k2) := by rw [hk2]; exact below_setCells _ _ _ D2.out gB'
  have G2 : Hid (Blk k2 g (cS Wq rq cq)) := by
    rw [hk2]
    have : Blk w2 g ([] ++ (zS ++ [])) := by simpa using gz
    have := this.store (o := 0) (b' := cS Wq rq cq) rfl (by rw [HNL.out, zS_length])
    rw [List.nil_append, List.append_nil] at this
    exact this
  rw [f5, f4, f0, f1, f2]
  generalize vals 3 = v3
  clear hk2 Y1 D2 f0 f1 f2 f3 f4 f5 gz hb2 T2 X0 X1 WF PF C72 I1
  simp only [Act.put]
  go_wp2_with fail
  go_loopw [11] (fun i wr => ∃ k : Nat, k ≤ 32 ∧ i = .int .i64 k ∧ Hid (Blk wr g (cS Wq rq cq)) ∧ Hid (Blk wr (w.heap.size + 1) ((List.replicate 32 0).map b8)) ∧ Hid (Blk wr k2.heap.size ((fillD Wq k).map b8)) ∧ Hid (Below w.heap.size w wr)) (fun i _ => 32 - (intOf i).toNat)
  case atStart =>
    obtain ⟨y0, y1⟩ := al1 k2 _ _
    exact ⟨0, by omega, rfl, G2.out.up y1 G2.out.lt, Y2.out.up y1 Y2.out.lt, y0, D3.out.trans (y1.mono D3.out.size)⟩
  case round =>
    have g1 := G2.out.lt
    have g2 := Y2.out.lt
    have g3 := D3.out.size
    clear G2 Y2 D3
    have g4 : g ≠ k2.heap.size := by omega
    generalize k2.heap.size = kd at *
    obtain ⟨k, hk, rfl, bg, by_, bd, hb⟩ := hrel
    by_cases hlt : k < 32
    · have c1 := bg.out.cell (k / 4) (uw (Wq.list.getD (k / 4) 0)) (by
        rw [cS, List.getElem?_append_left (by simp [R8.list]; omega), List.getElem?_map]
        have : k / 4 < Wq.list.length := by simp [R8.list]; omega
        simp [List.getD_eq_getElem?_getD, List.getElem?_eq_getElem this])
      have c2 := bd.out.cell k (b8 ((fillD Wq k).getD k 0)) (by simp [List.getD_eq_getElem?_getD, fillD_length, hlt])
      have c3 := bd.out.fz k
      have DK : Hid _ := dbyte_key Wq k (24 - k % 4 * 8) rfl
      have FD : Hid _ := fillD_set Wq k hlt
      generalize Wq.list.getD (k / 4) 0 = xx at *
      generalize (fillD Wq k).getD k 0 = yy at *
      go_wp2_with fail
      rw [DK.out]
      have b1 := bd.out.set k (b8 (dbyte Wq k)) (by rw [List.length_map, fillD_length]; exact hlt)
      rw [← List.map_set, FD.out] at b1
      go_roundw
      case rel => exact ⟨k + 1, by omega, by go_num, bg.out.apart1 (by omega), by_.out.apart1 (by omega), b1, hb.out.setCell (by show w.heap.size ≤ kd; omega) _⟩
      case measure => simp [intOf]; omega
    · obtain rfl : k = 32 := by omega
      rw [fillD_all] at bd
      have ID : Hid _ := info_d32.trans (congrArg some (show 32 = ((digS Wq).map b8).length by rw [List.length_map, digS_length]))
      have T1 : Hid (wr.there (w.heap.size + 1) 0 ((digS Wq).map b8).length) := by_.out.there (by simp [digS_length])
      go_wp2_with (first | refine wpList_load_mid rfl 47 (.tmp 4) rfl kd 0 rfl ((digS Wq).map b8) _ bd.out.all u_d32 rfl ID.out ?_ | refine wp_store_eq rfl 47 (.tmp 2) (.tmp 28) rfl (w.heap.size + 1) 0 ((digS Wq).map b8) rfl rfl T1.out ID.out (one_b8 _) ?_)
      intro w5 hw5
      go_wp2_with fail
      refine bodyPost_ret (v := vB (digS Wq)) ?_ rfl ⟨rfl, ?_⟩
      · rw [hw5.out]
        exact results_cell (b := w.heap.size + 1) rfl rfl (World.rangeAt_setCells_same _ _ _ _ T1.out) u_d32 rfl ID.out
      · rw [hw5.out]
        exact below_setCells _ _ _ hb.out (by omega)
end Go.Proofs.YtfanndkhajokcaaDoor
