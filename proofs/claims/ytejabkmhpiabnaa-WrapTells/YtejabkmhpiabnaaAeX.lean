/- The contract of aes.Expand. -/
import Derived.Test.YtejabkmhpiabnaaAeM
namespace Go.Proofs.Ytejabkmhpiabnaa
open Go.RowKit
set_option linter.unusedSimpArgs false
attribute [local go_sem] YieldsP execOp
attribute [local simp] MP.eq_p
theorem axr_cell2 {P : Program} {fn : Func} {tmps : Array Value} {s s2 : Tmp} {t : TypeId} {b : Nat} {cs : List Value} {d : TypeDesc} {W : World} {v : Value} (hr : fn.results = #[.cell s t, .tmp s2]) (ht : tmps[s]?.getD undef = .pointer (some ⟨b, 0, none⟩)) (ht2 : tmps[s2]?.getD undef = v) (hc : W.rangeAt b 0 cs)
    (hu : P.underlying t = some d) (hd : d.isRow = true) (hi : (P.info? t).map (·.size) = some cs.length) : (results fn tmps).run P W = .ok (.tuple #[.agg cs.toArray, v]) W := by
  have h1 := run_loadVar_mid (P := P) W b 0 t cs d hc hu hd hi
  simp [results, hr, ht, ht2, asAddr, h1]
theorem kfill (X : Array Value) (zs : List Value) (hl : zs.length = 240) (z : Value) (y : Int) (hX : X.toList = zs ++ [z]) : Instr.fill ((#[(0, 240), (240, 1)] : Array (Nat × Nat))[·]?) X [(1, Value.int .i64 y)] = some (zs ++ [Value.int .i64 y]).toArray := by
  have hs : X.size = 241 := by rw [← Array.length_toList, hX, List.length_append, hl]; rfl
  have e : X.setIfInBounds 240 (Value.int .i64 y) = (zs ++ [Value.int .i64 y]).toArray := by
    apply Array.ext'
    rw [Array.toList_setIfInBounds, hX, List.set_append_right _ _ (by omega), hl]
    rfl
  simp [Instr.fill, Value.cells, hs, e]
theorem kbuilt (r : Nat) : Try.prog.built 26 [(1, .int .i64 (r : Int))] = some (kC (List.replicate 240 0) r).toArray := by
  rw [built_of (t := 26) (zc := (kC (List.replicate 240 0) 0).toArray) (places := [(0, 240), (240, 1)]) (by kernel_rfl) (by kernel_rfl)]
  exact kfill _ ((List.replicate 240 0).map b8) (by rw [List.length_map, List.length_replicate]) (.int .i64 0) _ rfl
theorem kbuilt0 : Try.prog.built 26 [] = some (kC (List.replicate 240 0) 0).toArray := by kernel_rfl
theorem wp_buildK {ops : Array Oper} {rest : List Oper} {o : Oper} {a : Act} {Q : Exit → Act → World → Prop} {w : World} (hgd : o.guard = none) (x : Operand) (ho : o.op = .build 26 #[(1, x)]) (r : Nat) (hx : a.eval x = .int .i64 (r : Int))
    (h : wpList Try.prog ops Q rest (a.put o.dst (.agg (kC (List.replicate 240 0) r).toArray)) w) : wpList Try.prog ops Q (o :: rest) a w := by
  refine wpList_plain hgd fun K hK => ?_
  have e : (Instr.build 26 ((#[(1, x)] : Array (Nat × Operand)).map fun x => (x.fst, a.eval x.snd))).run Try.prog w = .ok (.agg (kC (List.replicate 240 0) r).toArray) w := run_build w 26 _ _ (by simpa [hx] using kbuilt r)
  unfold Oper.wp
  simp only [execOp, ho, Sem.run_bind, e, Result.andThen_ok, Sem.run_pure]
  exact hK _ _ h
theorem wp_build0 {t : TypeId} {cs : Array Value} {ops : Array Oper} {rest : List Oper} {o : Oper} {a : Act} {Q : Exit → Act → World → Prop} {w : World} (hgd : o.guard = none) (ho : o.op = .build t #[]) (hb : Try.prog.built t [] = some cs)
    (h : wpList Try.prog ops Q rest (a.put o.dst (.agg cs)) w) : wpList Try.prog ops Q (o :: rest) a w := by
  refine wpList_plain hgd fun K hK => ?_
  have e : (Instr.build t ((#[] : Array (Nat × Operand)).map fun x => (x.fst, a.eval x.snd))).run Try.prog w = .ok (.agg cs) w := run_build w t _ _ (by simpa using hb)
  unfold Oper.wp
  simp only [execOp, ho, Sem.run_bind, e, Result.andThen_ok, Sem.run_pure]
  exact hK _ _ h
theorem Blk.al' (w : World) (cs : List Value) (t : TypeId) : Blk (w.alloc (.cells cs.toArray t)) w.heap.size cs ∧ Below w.heap.size w (w.alloc (.cells cs.toArray t)) := by
  obtain ⟨a, b⟩ := al1 w cs.toArray t
  exact ⟨by simpa using a, b⟩
/-- A part of a key's bytes. -/
theorem kC_part {fl a b c : List Nat} {r : Nat} (h : fl = a ++ (b ++ c)) : kC fl r = a.map b8 ++ (b.map b8 ++ (c.map b8 ++ [.int .i64 (r : Int)])) := by
  unfold kC
  rw [h]
  simp
set_option maxRecDepth 20000 in
set_option maxHeartbeats 2000000 in
theorem aexp16_fun (key : List Nat) (hk : key.length = 16) (lk : ∀ x ∈ key, x < 256) (v : Value) (w : World) (hv : By w v key) :
    Calls Try.prog 7 #[v] w fun e w' => e = .returned (.tuple #[.agg (kC (A.flat (A.keyW key)) 10).toArray, .int .i64 0]) ∧ Below w.heap.size w w' := by
  have KN : A.keyN key = 4 := by unfold A.keyN; rw [hk]
  obtain ⟨W, hW⟩ : ∃ W : Nat → List (List Nat), W = A.growW 4 (A.firstW key 4) := ⟨_, rfl⟩
  have k4 : key.length = 4 * A.keyN key := by rw [KN, hk]
  have FA : Hid (A.front key 4 = A.flat (W 0)) := by
    have := A.front_all k4
    rw [KN] at this
    rw [hW]
    exact this
  have WL : Hid (∀ m, (W m).length = 4 + m) := fun m => by rw [hW, A.growW_length, A.firstW_length]
  have WO : Hid (∀ m, A.okW (W m)) := fun m => by rw [hW]; exact A.growW_ok (A.firstW_ok (n := key.length) ⟨rfl, lk⟩ _) m
  have WS : Hid (∀ m, W (m + 1) = W m ++ [A.xorW ((W m).getD m []) (A.preW 4 (4 + m) ((W m).getD (4 + m - 1) []))]) := fun m => by
    have h := WL.out m
    rw [hW] at h ⊢
    show _ ++ [A.nextW 4 _] = _
    unfold A.nextW
    rw [h, Nat.add_sub_cancel_left]
  have WE : Hid (A.keyW key = W 40) := by unfold A.keyW; rw [KN, hW]; exact rfl
  rw [WE.out]
  have KL : Hid (key.length = 16) := hk
  have CN : Hid (∀ (fl : List Nat) (W : World), fl.length = 240 → Calls Try.prog 14 #[.agg (kC fl 10).toArray] W fun e w' => e = .returned (.int .i64 44) ∧ Below W.heap.size W w') := fun fl W h => acount_fun fl 10 h (by decide) W
  have HV : Hid (∀ W, Below w.heap.size w W → By W v key) := fun W h => hv.up h (Nat.le_refl _)
  obtain ⟨va, vc, rfl⟩ := hv.len
  rw [hk] at HV ⊢
  obtain ⟨z0, hz0⟩ : ∃ z0, z0 = kC (List.replicate 240 0) 0 := ⟨_, rfl⟩
  obtain ⟨zr, hzr⟩ : ∃ zr, zr = kC (List.replicate 240 0) 10 := ⟨_, rfl⟩
  have ZK : ∀ w, (zeroValue 26).run Try.prog w = .ok (.agg z0.toArray) w := fun w => by rw [hz0]; exact zero_key w
  have ZL : Hid (z0.length = 241) := by rw [hz0]; exact kC_length 0 (by simp)
  have RL : Hid (zr.length = 241) := by rw [hzr]; exact kC_length _ (by simp)
  have RO : Hid (∀ v ∈ zr, v.oneCell' = true) := by rw [hzr]; exact kC_one _ _
  have RE : Hid (zr = kC (A.front key 0) 10) := by rw [hzr]; exact rfl
  have IR : Hid _ := info_key.trans (congrArg some RL.out.symm)
  obtain ⟨x0, x1⟩ := Blk.al' w z0 26
  have X0 : Hid (Blk _ w.heap.size z0) := x0
  have X1 : Hid (Below w.heap.size w _) := x1
  obtain ⟨y0, y1⟩ := Blk.al' (w.alloc (.cells z0.toArray 26)) z0 26
  rw [show (w.alloc (.cells z0.toArray 26)).heap.size = w.heap.size + 1 by simp] at y0 y1
  have Y0 : Hid (Blk _ (w.heap.size + 1) z0) := y0
  have Y1 : Hid (Blk _ w.heap.size z0) := x0.up y1 (by omega)
  have Y2 : Hid (Below w.heap.size w _) := x1.trans (y1.mono (by omega))
  have BK : ∀ {ops : Array Oper} {rest : List Oper} {o : Oper} {a : Act} {Q : Exit → Act → World → Prop} {w : World}, o.guard = none → ∀ (x : Operand), o.op = .build 26 #[(1, x)] → a.eval x = .int .i64 10 → wpList Try.prog ops Q rest (a.put o.dst (.agg zr.toArray)) w → wpList Try.prog ops Q (o :: rest) a w := fun hgd x ho hx h => wp_buildK hgd x ho 10 hx (by rw [← hzr]; exact h)
  have BKH : Hid (∀ {ops : Array Oper} {rest : List Oper} {o : Oper} {a : Act} {Q : Exit → Act → World → Prop} {w : World}, o.guard = none → ∀ (x : Operand), o.op = .build 26 #[(1, x)] → a.eval x = .int .i64 10 → wpList Try.prog ops Q rest (a.put o.dst (.agg zr.toArray)) w → wpList Try.prog ops Q (o :: rest) a w) := BK
  have T0 : Hid (World.there _ (w.heap.size + 1) 0 zr.length) := Y0.out.there (by rw [RL.out, ZL.out]; omega)
  obtain ⟨dk, uk, rk⟩ := u_key
  have UK : Hid (Try.prog.underlying 26 = some dk ∧ dk.isRow = true) := ⟨uk, rk⟩
  clear x0 x1 y0 y1 BK hz0 hzr hW KN k4 WE hv hk lk uk rk
  go_enter Try.func7, Try.ntmps7
  go_wp2_with (first | simp only [ZK] | refine BKH.out rfl (.tmp 26) rfl rfl ?_ | refine wp_store_eq rfl 26 (.tmp 5) (.tmp 27) rfl (w.heap.size + 1) 0 zr rfl rfl T0.out IR.out RO.out ?_)
  intro w1 hw1
  have P0 : Hid (Blk w1 (w.heap.size + 1) (kC (A.front key 0) 10)) := by rw [hw1.out, ← RE.out]; exact Y0.out.put (by rw [RL.out, ZL.out])
  have P1 : Hid (Blk w1 w.heap.size z0) := by rw [hw1.out]; exact Y1.out.apart (by omega)
  have P2 : Hid (Below w.heap.size w w1) := by rw [hw1.out]; exact below_setCells _ _ _ Y2.out (by omega)
  clear hw1 X0 X1 Y0 Y1 Y2 T0 BKH RO RE IR RL
  go_wp2_with fail
  go_loopw [29] (fun i wr => ∃ j : Nat, j ≤ 4 ∧ i = .int .i64 (j : Int) ∧ Hid (Blk wr (w.heap.size + 1) (kC (A.front key j) 10)) ∧ Hid (Blk wr w.heap.size z0) ∧ Hid (Below w.heap.size w wr)) (fun i _ => 4 - (intOf i).toNat)
  case atStart => exact ⟨0, by omega, rfl, P0, P1, P2⟩
  case round =>
    clear P0 P1 P2
    obtain ⟨j, hj, rfl, P0, P1, P2⟩ := hrel
    by_cases hj1 : j < 4
    · have j1 : (j : Int) < 4 := by omega
      have j60 : (j : Int) < 60 := by omega
      have J1 : Hid (j < 4) := hj1
      have wj : IntKind.i64.wrap ((j : Int) + 1) = (j : Int) + 1 := by rw [IntKind.wrap_i64]; omega
      have w4 : IntKind.i64.wrap (4 * (j : Int)) = ((4 * j : Nat) : Int) := by rw [IntKind.wrap_i64]; omega
      have BY : Hid (By wr (.slice va 16 vc) key) := HV.out wr P2.out
      have BC : Hid (By wr (sliced va (4 * j) key.length vc 1) (key.drop (4 * j))) := by
        have h := BY.out
        rw [← KL.out] at h
        exact h.cut (by rw [KL.out]; omega)
      obtain ⟨a2, c2, e2⟩ := BC.out.len
      have S2 : Hid (sliced va (4 * j) key.length vc 1 = .slice a2 (key.drop (4 * j)).length c2) := e2
      have BC' := BC.out
      rw [e2] at BC'
      obtain ⟨g, q, rfl, _, RG⟩ := BC'.range (by rw [List.length_drop, KL.out]; omega)
      obtain ⟨fa, fc, fe, fe2, fl⟩ := A.front_next (key := key) (j := j) (by rw [KL.out]; omega) (by rw [KL.out]; decide)
      obtain ⟨xs, hxs⟩ : ∃ xs, xs = (key.drop (4 * j)).take 4 := ⟨_, rfl⟩
      have XL : Hid (xs.length = 4) := by rw [hxs, List.length_take, List.length_drop, KL.out]; show min 4 _ = 4; omega
      have DL : Hid (4 ≤ (key.drop (4 * j)).length) := by rw [List.length_drop, KL.out]; show 4 ≤ _; omega
      have RX : Hid (∀ W, Below wr.heap.size wr W → W.rangeAt g q (xs.map b8)) := fun W hW => by
        rw [hxs, List.map_take]
        exact range_take (range_upq RG hW (Nat.le_refl _)) 4
      have ST : Hid (∀ W, Blk W (w.heap.size + 1) (kC (A.front key j) 10) → Blk (W.setCells (w.heap.size + 1) (j * 4) (xs.map b8)) (w.heap.size + 1) (kC (A.front key (j + 1)) 10) ∧ W.there (w.heap.size + 1) (j * 4) xs.length) := fun W h => by
        rw [kC_part fe] at h
        rw [kC_part fe2, ← hxs]
        refine ⟨h.store (by rw [List.length_map, fl]) (by rw [List.length_map, List.length_map, XL.out]; simp), h.there ?_⟩
        simp [fl, XL.out]
        try omega
      have KL2 : Hid (4 * j ≤ key.length) := by rw [KL.out]; show 4 * j ≤ _; omega
      obtain ⟨jj, hjj⟩ : ∃ jj, jj = 4 * j := ⟨_, rfl⟩
      rw [← hjj] at w4 S2 KL2 DL
      generalize (key.drop jj).length = dl at *
      clear hj hj1 BC BC' e2 fe fe2 fl RG hxs hjj
      go_wp2_with fail
      refine wp_region_monoSE 8 [MP.eq (.int .i64 (j : Int)), MP.eq (.pointer (some ⟨w.heap.size + 1, 0, none⟩)), MP.eq (.pointer (some ⟨w.heap.size + 1, j * 4, none⟩)), MP.eq (.slice (some ⟨w.heap.size + 1, j * 4, none⟩) 4 4), MP.eq (.slice va 16 vc), MP.eq (.int .i64 (j : Int)), MP.eq (.int .i64 (jj : Int)), MP.eq (.slice (some ⟨g, q, none⟩) dl c2)] (by kernel_rfl) (by kernel_rfl) rfl (by decide) (by kernel_rfl) ?_
      apply Exists.intro
      refine ⟨fun vals => ?_, ?_, fun vals4 w4 hb4 hF hO => ?_⟩
      · simp only [putsV, dstL, List.length_cons, List.length_nil, Nat.zero_add, Nat.reduceAdd, List.getElem?_cons_zero, List.getElem?_cons_succ, Option.bind_some, Act.put, List.setIfInBounds_toArray, List.set_cons_succ, List.set_cons_zero]
        rfl
      · refine ⟨?_, ?_, ?_, ?_, ?_, ?_, ?_, ?_, trivial⟩
        · intro vals W hW hw hd
          try simp [Region.binds] at hd
          refine ⟨by first | rfl | simp [Region.wanted, yielded, hd], ?_⟩
          simp [go_sem, hd]
          exact Below.refl _ _
        · intro vals W hW hw hd
          try simp [Region.binds] at hd
          refine ⟨by first | rfl | simp [Region.wanted, yielded, hd], ?_⟩
          simp [go_sem, hd]
          exact Below.refl _ _
        · intro vals W hW hw hd
          try simp [Region.binds] at hd
          refine ⟨by first | rfl | simp [Region.wanted, yielded, hd], ?_⟩
          simp [go_sem, hd, j60]
          exact Below.refl _ _
        · intro vals W hW hw hd
          try simp [Region.binds] at hd
          refine ⟨by first | rfl | simp [Region.wanted, yielded, hd], ?_⟩
          exact yields_all u_a4 gi_u8 (by decide) (.tmp 34) rfl (w.heap.size + 1) (j * 4) hd rfl
        · intro vals W hW hw hd
          try simp [Region.binds] at hd
          refine ⟨by first | rfl | simp [Region.wanted, yielded, hd], ?_⟩
          simp [go_sem, hd]
          exact Below.refl _ _
        · intro vals W hW hw hd
          try simp [Region.binds] at hd
          refine ⟨by first | rfl | simp [Region.wanted, yielded, hd], ?_⟩
          simp [go_sem, hd]
          exact Below.refl _ _
        · intro vals W hW hw hd
          try simp [Region.binds] at hd
          refine ⟨by first | rfl | simp [Region.wanted, yielded, hd], ?_⟩
          simp [go_sem, hd, w4]
          exact Below.refl _ _
        · intro vals W hW hw hd
          try simp [Region.binds] at hd
          refine ⟨by first | rfl | simp [Region.wanted, yielded, hd], ?_⟩
          exact yields_cutB (.tmp 36) (.tmp 38) rfl va vc jj .i64 key (by rw [KL.out]; exact hd.1) hd.2 KL2.out S2.out
      obtain ⟨f0, f1, f2, f3, f4, f5, f6, f7, _⟩ := hF
      simp only [MP.eq_p] at f0 f1 f2 f3 f4 f5 f6 f7
      rw [f0, f1, f2, f3, f4, f5, f6, f7]
      simp only [List.drop_succ_cons, List.drop_zero]
      have Q0 : Hid (Blk w4 (w.heap.size + 1) (kC (A.front key j) 10)) := P0.out.up hb4.out P0.out.lt
      have Q1 : Hid (Blk w4 w.heap.size z0) := P1.out.up hb4.out P1.out.lt
      have Q2 : Hid (Below w.heap.size w w4) := P2.out.trans (hb4.out.mono P2.out.size)
      have RR : Hid (w4.rangeAt g q (xs.map b8)) := RX.out w4 hb4.out
      have MI : Hid (xs.length = min dl 4) := by rw [XL.out]; have := DL.out; show 4 = _; omega
      have TT : Hid _ := (ST.out w4 Q0.out).2
      clear f0 f1 f2 f3 f4 f5 f6 f7 hb4 hO P0 P1 P2 BY
      go_wp2_with (refine wp_copyR rfl (.tmp 35) (.tmp 39) rfl (w.heap.size + 1) (j * 4) 4 4 g q dl c2 xs rfl rfl MI.out RR.out TT.out ?_)
      intro w9 hw9
      have V0 : Hid (Blk w9 (w.heap.size + 1) (kC (A.front key (j + 1)) 10)) := by rw [hw9.out]; exact (ST.out w4 Q0.out).1
      have V1 : Hid (Blk w9 w.heap.size z0) := by rw [hw9.out]; exact Q1.out.apart (by omega)
      have V2 : Hid (Below w.heap.size w w9) := by rw [hw9.out]; exact below_setCells _ _ _ Q2.out (by omega)
      clear hw9 Q0 Q1 Q2 TT RR
      go_wp2_with fail
      go_roundw
      case rel => exact ⟨j + 1, J1.out, by first | rfl | go_num, V0, V1, V2⟩
      case measure => have := J1.out; simp [intOf]; omega
    · have ej : j = 4 := by omega
      have ei : (j : Int) = 4 := by omega
      rw [ej, FA.out] at P0
      rw [ei]
      clear hj hj1 FA HV ej ei
      go_wp2_with fail
      go_loopw [7] (fun i wr => ∃ m : Nat, m ≤ 40 ∧ i = .int .i64 ((4 + m : Nat) : Int) ∧ Hid (Blk wr (w.heap.size + 1) (kC (A.flat (W m)) 10)) ∧ Hid (Blk wr w.heap.size z0) ∧ Hid (Below w.heap.size w wr)) (fun i _ => 44 - (intOf i).toNat)
      case atStart => exact ⟨0, by omega, rfl, P0, P1, P2⟩
      case round =>
        clear P0 P1 P2
        obtain ⟨m, hm, rfl, P0, P1, P2⟩ := hrel
        have FL : Hid ((A.flat (W m)).length = 240) := A.flat_length (WO.out m).q (by rw [WL.out]; omega)
        have CT : Hid _ := CN.out (A.flat (W m)) wr FL.out
        have IK : Hid _ := info_k (fl := A.flat (W m)) 10 FL.out
        obtain ⟨i, hi⟩ : ∃ i, i = 4 + m := ⟨_, rfl⟩
        rw [← hi]
        by_cases hm1 : m < 40
        · have M1 : Hid (m < 40) := hm1
          have i1 : (i : Int) < 44 := by omega
          have i60 : (i : Int) < 60 := by omega
          have m60 : (m : Int) < 60 := by omega
          have wi : IntKind.i64.wrap ((i : Int) + 1) = (i : Int) + 1 := by rw [IntKind.wrap_i64]; omega
          have wm : IntKind.i64.wrap ((i : Int) - 4) = (m : Int) := by rw [IntKind.wrap_i64]; omega
          obtain ⟨p, hp⟩ : ∃ p, p = i - 1 := ⟨_, rfl⟩
          have wp_ : IntKind.i64.wrap ((i : Int) - 1) = (p : Int) := by rw [IntKind.wrap_i64]; omega
          have p60 : (p : Int) < 60 := by omega
          have OW := WO.out m
          have LW := WL.out m
          have qm : A.ok 4 ((W m).getD m []) := by
            rw [List.getD_eq_getElem?_getD, List.getElem?_eq_getElem (by rw [LW]; omega)]
            exact OW _ (List.getElem_mem _)
          have qp : A.ok 4 ((W m).getD p []) := by
            rw [List.getD_eq_getElem?_getD, List.getElem?_eq_getElem (by rw [LW]; omega)]
            exact OW _ (List.getElem_mem _)
          have CH : Hid _ := fun W' => achg_fun ((W m).getD p []) qp 4 i (by decide) (by omega) (by omega) W'
          have PO : A.ok 4 (A.preW 4 i ((W m).getD p [])) := by
            have h4 : (A.preW 4 i ((W m).getD p [])).length = 4 := by
              unfold A.preW
              split
              · rfl
              · split
                · exact (A.subW_ok _).1
                · exact qp.1
            refine ⟨h4, fun x hx => ?_⟩
            obtain ⟨t, ht, rfl⟩ := List.mem_iff_getElem.1 hx
            have := A.preW_at (n := 4) (i := i) (t := (W m).getD p []) (fun i => qp.at i) t
            rw [List.getD_eq_getElem?_getD, List.getElem?_eq_getElem ht] at this
            exact this
          have SM : Hid _ := fun W' => asum_fun ((W m).getD m []) (A.preW 4 i ((W m).getD p [])) qm PO W'
          have WN := WS.out m
          rw [← hi, ← hp] at WN
          obtain ⟨nw, hnw⟩ : ∃ nw, nw = A.xorW ((W m).getD m []) (A.preW 4 i ((W m).getD p [])) := ⟨_, rfl⟩
          rw [← hnw] at WN SM
          have NL : Hid (nw.length = 4) := by rw [hnw]; exact A.by_length _ _
          obtain ⟨na, nc, ne, ne2, nl⟩ := A.flat_next OW.q (by rw [LW]; omega) nw NL.out
          rw [← WN] at ne2
          rw [LW, ← hi] at nl
          obtain ⟨am, cm, em, lm⟩ := A.flat_word OW.q (j := m) (by rw [LW]; omega)
          obtain ⟨ap, cp, ep, lp⟩ := A.flat_word OW.q (j := p) (by rw [LW]; omega)
          have LM : Hid (∀ W', Below wr.heap.size wr W' → W'.rangeAt (w.heap.size + 1) (m * 4) (((W m).getD m []).map b8)) := fun W' hW' => by
            have h := P0.out.up hW' P0.out.lt
            rw [kC_part em] at h
            exact h.range (by rw [List.length_map, lm])
          have LP : Hid (∀ W', Below wr.heap.size wr W' → W'.rangeAt (w.heap.size + 1) (p * 4) (((W m).getD p []).map b8)) := fun W' hW' => by
            have h := P0.out.up hW' P0.out.lt
            rw [kC_part ep] at h
            exact h.range (by rw [List.length_map, lp])
          have ST : Hid (∀ W', Blk W' (w.heap.size + 1) (kC (A.flat (W m)) 10) → Blk (W'.setCells (w.heap.size + 1) (i * 4) (nw.map b8)) (w.heap.size + 1) (kC (A.flat (W (m + 1))) 10) ∧ W'.there (w.heap.size + 1) (i * 4) (nw.map b8).length) := fun W' h => by
            rw [kC_part ne] at h
            rw [kC_part ne2]
            refine ⟨h.store (by rw [List.length_map, nl]) (by rw [List.length_map, List.length_map, NL.out]; simp), h.there ?_⟩
            simp [nl, NL.out]
            try omega
          have QM : Hid (((W m).getD m []).length = 4) := qm.1
          have QP : Hid (((W m).getD p []).length = 4) := qp.1
          have HI : Hid (i = 4 + m) := hi
          generalize A.preW 4 i ((W m).getD p []) = pw at *
          generalize (W m).getD m [] = wm' at *
          generalize (W m).getD p [] = wp' at *
          generalize hfl : A.flat (W m) = fl at *
          clear hfl hnw ne ne2 nl em ep lm lp qm qp PO OW LW WN hi hp hm hm1
          go_wp2_with (refine wpList_load_mid rfl 26 (.tmp 5) rfl (w.heap.size + 1) 0 rfl (kC fl 10) _ P0.out.all UK.out.1 UK.out.2 IK.out ?_)
          refine Calls.mono CT.out ?_
          rintro e w2 ⟨rfl, hb2⟩
          have Q0 : Hid (Blk w2 (w.heap.size + 1) (kC fl 10)) := P0.out.up hb2 P0.out.lt
          have Q1 : Hid (Blk w2 w.heap.size z0) := P1.out.up hb2 P1.out.lt
          have Q2 : Hid (Below w.heap.size w w2) := P2.out.trans (hb2.mono P2.out.size)
          have LM2 : Hid (∀ W', Below w2.heap.size w2 W' → W'.rangeAt (w.heap.size + 1) (m * 4) (wm'.map b8)) := fun W' hW' => LM.out W' (hb2.trans (hW'.mono hb2.size))
          have LP2 : Hid (∀ W', Below w2.heap.size w2 W' → W'.rangeAt (w.heap.size + 1) (p * 4) (wp'.map b8)) := fun W' hW' => LP.out W' (hb2.trans (hW'.mono hb2.size))
          have IM : Hid _ := info_n info_a4 wm' QM.out
          have IP : Hid _ := info_n info_a4 wp' QP.out
          clear hb2 P0 P1 P2 CT LM LP
          go_wp2_with fail
          refine wp_region_monoSE 18 [MP.eq (.int .i64 (i : Int)), MP.eq (.int .i64 (i : Int)), MP.eq (.int .i64 4), MP.eq (.int .i64 (m : Int)), MP.eq (.pointer (some ⟨w.heap.size + 1, 0, none⟩)), MP.eq (.pointer (some ⟨w.heap.size + 1, m * 4, none⟩)), MP.eq (aB wm'), MP.eq (.int .i64 (i : Int)), MP.eq (.int .i64 (p : Int)), MP.eq (.pointer (some ⟨w.heap.size + 1, 0, none⟩)), MP.eq (.pointer (some ⟨w.heap.size + 1, p * 4, none⟩)), MP.eq (aB wp'), MP.eq (.int .i64 (i : Int)), MP.eq (.int .i64 4), MP.eq (aB pw), MP.eq (aB nw), MP.eq (.pointer (some ⟨w.heap.size + 1, 0, none⟩)), MP.eq (.pointer (some ⟨w.heap.size + 1, i * 4, none⟩))] (by kernel_rfl) (by kernel_rfl) rfl (by decide) (by kernel_rfl) ?_
          apply Exists.intro
          refine ⟨fun vals => ?_, ?_, fun vals4 w4 hb4 hF hO => ?_⟩
          · simp only [putsV, dstL, List.length_cons, List.length_nil, Nat.zero_add, Nat.reduceAdd, List.getElem?_cons_zero, List.getElem?_cons_succ, Option.bind_some, Act.put, List.setIfInBounds_toArray, List.set_cons_succ, List.set_cons_zero]
            rfl
          · refine ⟨?_, ?_, ?_, ?_, ?_, ?_, ?_, ?_, ?_, ?_, ?_, ?_, ?_, ?_, ?_, ?_, ?_, ?_, trivial⟩
            · intro vals W hW hw hd
              try simp [Region.binds] at hd
              refine ⟨by first | rfl | simp [Region.wanted, yielded, hd], ?_⟩
              simp [go_sem, hd]
              exact Below.refl _ _
            · intro vals W hW hw hd
              try simp [Region.binds] at hd
              refine ⟨by first | rfl | simp [Region.wanted, yielded, hd], ?_⟩
              simp [go_sem, hd]
              exact Below.refl _ _
            · intro vals W hW hw hd
              try simp [Region.binds] at hd
              refine ⟨by first | rfl | simp [Region.wanted, yielded, hd], ?_⟩
              simp [go_sem, hd]
              exact Below.refl _ _
            · intro vals W hW hw hd
              try simp [Region.binds] at hd
              refine ⟨by first | rfl | simp [Region.wanted, yielded, hd], ?_⟩
              simp [go_sem, hd, wm]
              exact Below.refl _ _
            · intro vals W hW hw hd
              try simp [Region.binds] at hd
              refine ⟨by first | rfl | simp [Region.wanted, yielded, hd], ?_⟩
              simp [go_sem, hd]
              exact Below.refl _ _
            · intro vals W hW hw hd
              try simp [Region.binds] at hd
              refine ⟨by first | rfl | simp [Region.wanted, yielded, hd], ?_⟩
              simp [go_sem, hd, m60]
              exact Below.refl _ _
            · intro vals W hW hw hd
              try simp [Region.binds] at hd
              refine ⟨by first | rfl | simp [Region.wanted, yielded, hd], ?_⟩
              exact yieldsA_load 23 (.tmp 54) rfl (w.heap.size + 1) (m * 4) hd (wm'.map b8) _ (LM2.out W hW.out) u_a4 rfl IM.out rfl
            · intro vals W hW hw hd
              try simp [Region.binds] at hd
              refine ⟨by first | rfl | simp [Region.wanted, yielded, hd], ?_⟩
              simp [go_sem, hd]
              exact Below.refl _ _
            · intro vals W hW hw hd
              try simp [Region.binds] at hd
              refine ⟨by first | rfl | simp [Region.wanted, yielded, hd], ?_⟩
              simp [go_sem, hd, wp_]
              exact Below.refl _ _
            · intro vals W hW hw hd
              try simp [Region.binds] at hd
              refine ⟨by first | rfl | simp [Region.wanted, yielded, hd], ?_⟩
              simp [go_sem, hd]
              exact Below.refl _ _
            · intro vals W hW hw hd
              try simp [Region.binds] at hd
              refine ⟨by first | rfl | simp [Region.wanted, yielded, hd], ?_⟩
              simp [go_sem, hd, p60]
              exact Below.refl _ _
            · intro vals W hW hw hd
              try simp [Region.binds] at hd
              refine ⟨by first | rfl | simp [Region.wanted, yielded, hd], ?_⟩
              exact yieldsA_load 23 (.tmp 59) rfl (w.heap.size + 1) (p * 4) hd (wp'.map b8) _ (LP2.out W hW.out) u_a4 rfl IP.out rfl
            · intro vals W hW hw hd
              try simp [Region.binds] at hd
              refine ⟨by first | rfl | simp [Region.wanted, yielded, hd], ?_⟩
              simp [go_sem, hd]
              exact Below.refl _ _
            · intro vals W hW hw hd
              try simp [Region.binds] at hd
              refine ⟨by first | rfl | simp [Region.wanted, yielded, hd], ?_⟩
              simp [go_sem, hd]
              exact Below.refl _ _
            · intro vals W hW hw hd
              try simp [Region.binds] at hd
              refine ⟨by first | rfl | simp [Region.wanted, yielded, hd], ?_⟩
              simp [go_sem, hd]
              exact (CH.out W).mono fun e w' ⟨he, hb⟩ => ⟨_, he, rfl, hb⟩
            · intro vals W hW hw hd
              try simp [Region.binds] at hd
              refine ⟨by first | rfl | simp [Region.wanted, yielded, hd], ?_⟩
              simp [go_sem, hd]
              exact (SM.out W).mono fun e w' ⟨he, hb⟩ => ⟨_, he, rfl, hb⟩
            · intro vals W hW hw hd
              try simp [Region.binds] at hd
              refine ⟨by first | rfl | simp [Region.wanted, yielded, hd], ?_⟩
              simp [go_sem, hd]
              exact Below.refl _ _
            · intro vals W hW hw hd
              try simp [Region.binds] at hd
              refine ⟨by first | rfl | simp [Region.wanted, yielded, hd], ?_⟩
              simp [go_sem, hd, i60]
              exact Below.refl _ _
          obtain ⟨f0, f1, f2, f3, f4, f5, f6, f7, f8, f9, f10, f11, f12, f13, f14, f15, f16, f17, _⟩ := hF
          simp only [MP.eq_p] at f0 f1 f2 f3 f4 f5 f6 f7 f8 f9 f10 f11 f12 f13 f14 f15 f16 f17
          rw [f0, f1, f2, f3, f4, f5, f6, f7, f8, f9, f10, f11, f12, f13, f14, f15, f16, f17]
          simp only [List.drop_succ_cons, List.drop_zero]
          have S0 : Hid (Blk w4 (w.heap.size + 1) (kC fl 10)) := Q0.out.up hb4.out Q0.out.lt
          have S1 : Hid (Blk w4 w.heap.size z0) := Q1.out.up hb4.out Q1.out.lt
          have S2 : Hid (Below w.heap.size w w4) := Q2.out.trans (hb4.out.mono Q2.out.size)
          have TT : Hid _ := (ST.out w4 S0.out).2
          clear f0 f1 f2 f3 f4 f5 f6 f7 f8 f9 f10 f11 f12 f13 f14 f15 f16 f17 hb4 hO Q0 Q1 Q2 LM2 LP2 IM IP CH SM
          go_wp2_with (refine wp_store_eq rfl 23 (.tmp 66) (.tmp 64) rfl (w.heap.size + 1) (i * 4) (nw.map b8) rfl rfl TT.out (info_n info_a4 nw NL.out) (one_b8 _) ?_)
          intro w9 hw9
          have V0 : Hid (Blk w9 (w.heap.size + 1) (kC (A.flat (W (m + 1))) 10)) := by rw [hw9.out]; exact (ST.out w4 S0.out).1
          have V1 : Hid (Blk w9 w.heap.size z0) := by rw [hw9.out]; exact S1.out.apart (by omega)
          have V2 : Hid (Below w.heap.size w w9) := by rw [hw9.out]; exact below_setCells _ _ _ S2.out (by omega)
          clear hw9 S0 S1 S2 TT ST
          go_wp2_with fail
          go_roundw
          case rel => exact ⟨m + 1, M1.out, by rw [show 4 + (m + 1) = i + 1 by have := HI.out; omega]; first | rfl | go_num, V0, V1, V2⟩
          case measure => have := M1.out; have := HI.out; simp [intOf]; omega
        · obtain rfl : m = 40 := by omega
          have i1 : ¬ (i : Int) < 44 := by omega
          have KO : Hid _ := kC_one (A.flat (W 40)) 10
          have KLn : Hid ((kC (A.flat (W 40)) 10).length = 241) := kC_length _ FL.out
          obtain ⟨kc, hkc⟩ : ∃ kc, kc = kC (A.flat (W 40)) 10 := ⟨_, rfl⟩
          rw [← hkc] at KO KLn P0 CT IK
          have HKC : Hid (kc = kC (A.flat (W 40)) 10) := hkc
          clear hkc
          clear hm hm1 hi FL WS WO WL CN
          go_wp2_with (refine wpList_load_mid rfl 26 (.tmp 5) rfl (w.heap.size + 1) 0 rfl kc _ P0.out.all UK.out.1 UK.out.2 IK.out ?_)
          refine Calls.mono CT.out ?_
          rintro e w2 ⟨rfl, hb2⟩
          have Q0 : Hid (Blk w2 (w.heap.size + 1) kc) := P0.out.up hb2 P0.out.lt
          have Q1 : Hid (Blk w2 w.heap.size z0) := P1.out.up hb2 P1.out.lt
          have Q2 : Hid (Below w.heap.size w w2) := P2.out.trans (hb2.mono P2.out.size)
          have TT : Hid (w2.there w.heap.size 0 kc.length) := Q1.out.there (by rw [KLn.out, ZL.out]; omega)
          clear hb2 P0 P1 P2 CT
          go_wp2_with (first | refine wpList_load_mid rfl 26 (.tmp 5) rfl (w.heap.size + 1) 0 rfl kc _ Q0.out.all UK.out.1 UK.out.2 IK.out ?_ | refine wp_store_eq rfl 26 (.tmp 2) (.tmp 67) rfl w.heap.size 0 kc rfl rfl TT.out IK.out KO.out ?_)
          intro w9 hw9
          go_wp2_with fail
          refine bodyPost_ret (v := .tuple #[.agg kc.toArray, .int .i64 0]) ?_ rfl ⟨by rw [HKC.out], ?_⟩
          · rw [hw9.out]
            exact axr_cell2 (b := w.heap.size) rfl rfl rfl (World.rangeAt_setCells_same _ _ _ _ TT.out) UK.out.1 UK.out.2 IK.out
          · rw [hw9.out]
            exact below_setCells _ _ _ Q2.out (Nat.le_refl _)
set_option maxRecDepth 20000 in
set_option maxHeartbeats 2000000 in
theorem aexp24_fun (key : List Nat) (hk : key.length = 24) (lk : ∀ x ∈ key, x < 256) (v : Value) (w : World) (hv : By w v key) :
    Calls Try.prog 7 #[v] w fun e w' => e = .returned (.tuple #[.agg (kC (A.flat (A.keyW key)) 12).toArray, .int .i64 0]) ∧ Below w.heap.size w w' := by
  have KN : A.keyN key = 6 := by unfold A.keyN; rw [hk]
  obtain ⟨W, hW⟩ : ∃ W : Nat → List (List Nat), W = A.growW 6 (A.firstW key 6) := ⟨_, rfl⟩
  have k4 : key.length = 4 * A.keyN key := by rw [KN, hk]
  have FA : Hid (A.front key 6 = A.flat (W 0)) := by
    have := A.front_all k4
    rw [KN] at this
    rw [hW]
    exact this
  have WL : Hid (∀ m, (W m).length = 6 + m) := fun m => by rw [hW, A.growW_length, A.firstW_length]
  have WO : Hid (∀ m, A.okW (W m)) := fun m => by rw [hW]; exact A.growW_ok (A.firstW_ok (n := key.length) ⟨rfl, lk⟩ _) m
  have WS : Hid (∀ m, W (m + 1) = W m ++ [A.xorW ((W m).getD m []) (A.preW 6 (6 + m) ((W m).getD (6 + m - 1) []))]) := fun m => by
    have h := WL.out m
    rw [hW] at h ⊢
    show _ ++ [A.nextW 6 _] = _
    unfold A.nextW
    rw [h, Nat.add_sub_cancel_left]
  have WE : Hid (A.keyW key = W 46) := by unfold A.keyW; rw [KN, hW]; exact rfl
  rw [WE.out]
  have KL : Hid (key.length = 24) := hk
  have CN : Hid (∀ (fl : List Nat) (W : World), fl.length = 240 → Calls Try.prog 14 #[.agg (kC fl 12).toArray] W fun e w' => e = .returned (.int .i64 52) ∧ Below W.heap.size W w') := fun fl W h => acount_fun fl 12 h (by decide) W
  have HV : Hid (∀ W, Below w.heap.size w W → By W v key) := fun W h => hv.up h (Nat.le_refl _)
  obtain ⟨va, vc, rfl⟩ := hv.len
  rw [hk] at HV ⊢
  obtain ⟨z0, hz0⟩ : ∃ z0, z0 = kC (List.replicate 240 0) 0 := ⟨_, rfl⟩
  obtain ⟨zr, hzr⟩ : ∃ zr, zr = kC (List.replicate 240 0) 12 := ⟨_, rfl⟩
  have ZK : ∀ w, (zeroValue 26).run Try.prog w = .ok (.agg z0.toArray) w := fun w => by rw [hz0]; exact zero_key w
  have ZL : Hid (z0.length = 241) := by rw [hz0]; exact kC_length 0 (by simp)
  have RL : Hid (zr.length = 241) := by rw [hzr]; exact kC_length _ (by simp)
  have RO : Hid (∀ v ∈ zr, v.oneCell' = true) := by rw [hzr]; exact kC_one _ _
  have RE : Hid (zr = kC (A.front key 0) 12) := by rw [hzr]; exact rfl
  have IR : Hid _ := info_key.trans (congrArg some RL.out.symm)
  obtain ⟨x0, x1⟩ := Blk.al' w z0 26
  have X0 : Hid (Blk _ w.heap.size z0) := x0
  have X1 : Hid (Below w.heap.size w _) := x1
  obtain ⟨y0, y1⟩ := Blk.al' (w.alloc (.cells z0.toArray 26)) z0 26
  rw [show (w.alloc (.cells z0.toArray 26)).heap.size = w.heap.size + 1 by simp] at y0 y1
  have Y0 : Hid (Blk _ (w.heap.size + 1) z0) := y0
  have Y1 : Hid (Blk _ w.heap.size z0) := x0.up y1 (by omega)
  have Y2 : Hid (Below w.heap.size w _) := x1.trans (y1.mono (by omega))
  have BK : ∀ {ops : Array Oper} {rest : List Oper} {o : Oper} {a : Act} {Q : Exit → Act → World → Prop} {w : World}, o.guard = none → ∀ (x : Operand), o.op = .build 26 #[(1, x)] → a.eval x = .int .i64 12 → wpList Try.prog ops Q rest (a.put o.dst (.agg zr.toArray)) w → wpList Try.prog ops Q (o :: rest) a w := fun hgd x ho hx h => wp_buildK hgd x ho 12 hx (by rw [← hzr]; exact h)
  have BKH : Hid (∀ {ops : Array Oper} {rest : List Oper} {o : Oper} {a : Act} {Q : Exit → Act → World → Prop} {w : World}, o.guard = none → ∀ (x : Operand), o.op = .build 26 #[(1, x)] → a.eval x = .int .i64 12 → wpList Try.prog ops Q rest (a.put o.dst (.agg zr.toArray)) w → wpList Try.prog ops Q (o :: rest) a w) := BK
  have T0 : Hid (World.there _ (w.heap.size + 1) 0 zr.length) := Y0.out.there (by rw [RL.out, ZL.out]; omega)
  obtain ⟨dk, uk, rk⟩ := u_key
  have UK : Hid (Try.prog.underlying 26 = some dk ∧ dk.isRow = true) := ⟨uk, rk⟩
  clear x0 x1 y0 y1 BK hz0 hzr hW KN k4 WE hv hk lk uk rk
  go_enter Try.func7, Try.ntmps7
  go_wp2_with (first | simp only [ZK] | refine BKH.out rfl (.tmp 26) rfl rfl ?_ | refine wp_store_eq rfl 26 (.tmp 5) (.tmp 27) rfl (w.heap.size + 1) 0 zr rfl rfl T0.out IR.out RO.out ?_)
  intro w1 hw1
  have P0 : Hid (Blk w1 (w.heap.size + 1) (kC (A.front key 0) 12)) := by rw [hw1.out, ← RE.out]; exact Y0.out.put (by rw [RL.out, ZL.out])
  have P1 : Hid (Blk w1 w.heap.size z0) := by rw [hw1.out]; exact Y1.out.apart (by omega)
  have P2 : Hid (Below w.heap.size w w1) := by rw [hw1.out]; exact below_setCells _ _ _ Y2.out (by omega)
  clear hw1 X0 X1 Y0 Y1 Y2 T0 BKH RO RE IR RL
  go_wp2_with fail
  go_loopw [29] (fun i wr => ∃ j : Nat, j ≤ 6 ∧ i = .int .i64 (j : Int) ∧ Hid (Blk wr (w.heap.size + 1) (kC (A.front key j) 12)) ∧ Hid (Blk wr w.heap.size z0) ∧ Hid (Below w.heap.size w wr)) (fun i _ => 6 - (intOf i).toNat)
  case atStart => exact ⟨0, by omega, rfl, P0, P1, P2⟩
  case round =>
    clear P0 P1 P2
    obtain ⟨j, hj, rfl, P0, P1, P2⟩ := hrel
    by_cases hj1 : j < 6
    · have j1 : (j : Int) < 6 := by omega
      have j60 : (j : Int) < 60 := by omega
      have J1 : Hid (j < 6) := hj1
      have wj : IntKind.i64.wrap ((j : Int) + 1) = (j : Int) + 1 := by rw [IntKind.wrap_i64]; omega
      have w4 : IntKind.i64.wrap (4 * (j : Int)) = ((4 * j : Nat) : Int) := by rw [IntKind.wrap_i64]; omega
      have BY : Hid (By wr (.slice va 24 vc) key) := HV.out wr P2.out
      have BC : Hid (By wr (sliced va (4 * j) key.length vc 1) (key.drop (4 * j))) := by
        have h := BY.out
        rw [← KL.out] at h
        exact h.cut (by rw [KL.out]; omega)
      obtain ⟨a2, c2, e2⟩ := BC.out.len
      have S2 : Hid (sliced va (4 * j) key.length vc 1 = .slice a2 (key.drop (4 * j)).length c2) := e2
      have BC' := BC.out
      rw [e2] at BC'
      obtain ⟨g, q, rfl, _, RG⟩ := BC'.range (by rw [List.length_drop, KL.out]; omega)
      obtain ⟨fa, fc, fe, fe2, fl⟩ := A.front_next (key := key) (j := j) (by rw [KL.out]; omega) (by rw [KL.out]; decide)
      obtain ⟨xs, hxs⟩ : ∃ xs, xs = (key.drop (4 * j)).take 4 := ⟨_, rfl⟩
      have XL : Hid (xs.length = 4) := by rw [hxs, List.length_take, List.length_drop, KL.out]; show min 4 _ = 4; omega
      have DL : Hid (4 ≤ (key.drop (4 * j)).length) := by rw [List.length_drop, KL.out]; show 4 ≤ _; omega
      have RX : Hid (∀ W, Below wr.heap.size wr W → W.rangeAt g q (xs.map b8)) := fun W hW => by
        rw [hxs, List.map_take]
        exact range_take (range_upq RG hW (Nat.le_refl _)) 4
      have ST : Hid (∀ W, Blk W (w.heap.size + 1) (kC (A.front key j) 12) → Blk (W.setCells (w.heap.size + 1) (j * 4) (xs.map b8)) (w.heap.size + 1) (kC (A.front key (j + 1)) 12) ∧ W.there (w.heap.size + 1) (j * 4) xs.length) := fun W h => by
        rw [kC_part fe] at h
        rw [kC_part fe2, ← hxs]
        refine ⟨h.store (by rw [List.length_map, fl]) (by rw [List.length_map, List.length_map, XL.out]; simp), h.there ?_⟩
        simp [fl, XL.out]
        try omega
      have KL2 : Hid (4 * j ≤ key.length) := by rw [KL.out]; show 4 * j ≤ _; omega
      obtain ⟨jj, hjj⟩ : ∃ jj, jj = 4 * j := ⟨_, rfl⟩
      rw [← hjj] at w4 S2 KL2 DL
      generalize (key.drop jj).length = dl at *
      clear hj hj1 BC BC' e2 fe fe2 fl RG hxs hjj
      go_wp2_with fail
      refine wp_region_monoSE 8 [MP.eq (.int .i64 (j : Int)), MP.eq (.pointer (some ⟨w.heap.size + 1, 0, none⟩)), MP.eq (.pointer (some ⟨w.heap.size + 1, j * 4, none⟩)), MP.eq (.slice (some ⟨w.heap.size + 1, j * 4, none⟩) 4 4), MP.eq (.slice va 24 vc), MP.eq (.int .i64 (j : Int)), MP.eq (.int .i64 (jj : Int)), MP.eq (.slice (some ⟨g, q, none⟩) dl c2)] (by kernel_rfl) (by kernel_rfl) rfl (by decide) (by kernel_rfl) ?_
      apply Exists.intro
      refine ⟨fun vals => ?_, ?_, fun vals4 w4 hb4 hF hO => ?_⟩
      · simp only [putsV, dstL, List.length_cons, List.length_nil, Nat.zero_add, Nat.reduceAdd, List.getElem?_cons_zero, List.getElem?_cons_succ, Option.bind_some, Act.put, List.setIfInBounds_toArray, List.set_cons_succ, List.set_cons_zero]
        rfl
      · refine ⟨?_, ?_, ?_, ?_, ?_, ?_, ?_, ?_, trivial⟩
        · intro vals W hW hw hd
          try simp [Region.binds] at hd
          refine ⟨by first | rfl | simp [Region.wanted, yielded, hd], ?_⟩
          simp [go_sem, hd]
          exact Below.refl _ _
        · intro vals W hW hw hd
          try simp [Region.binds] at hd
          refine ⟨by first | rfl | simp [Region.wanted, yielded, hd], ?_⟩
          simp [go_sem, hd]
          exact Below.refl _ _
        · intro vals W hW hw hd
          try simp [Region.binds] at hd
          refine ⟨by first | rfl | simp [Region.wanted, yielded, hd], ?_⟩
          simp [go_sem, hd, j60]
          exact Below.refl _ _
        · intro vals W hW hw hd
          try simp [Region.binds] at hd
          refine ⟨by first | rfl | simp [Region.wanted, yielded, hd], ?_⟩
          exact yields_all u_a4 gi_u8 (by decide) (.tmp 34) rfl (w.heap.size + 1) (j * 4) hd rfl
        · intro vals W hW hw hd
          try simp [Region.binds] at hd
          refine ⟨by first | rfl | simp [Region.wanted, yielded, hd], ?_⟩
          simp [go_sem, hd]
          exact Below.refl _ _
        · intro vals W hW hw hd
          try simp [Region.binds] at hd
          refine ⟨by first | rfl | simp [Region.wanted, yielded, hd], ?_⟩
          simp [go_sem, hd]
          exact Below.refl _ _
        · intro vals W hW hw hd
          try simp [Region.binds] at hd
          refine ⟨by first | rfl | simp [Region.wanted, yielded, hd], ?_⟩
          simp [go_sem, hd, w4]
          exact Below.refl _ _
        · intro vals W hW hw hd
          try simp [Region.binds] at hd
          refine ⟨by first | rfl | simp [Region.wanted, yielded, hd], ?_⟩
          exact yields_cutB (.tmp 36) (.tmp 38) rfl va vc jj .i64 key (by rw [KL.out]; exact hd.1) hd.2 KL2.out S2.out
      obtain ⟨f0, f1, f2, f3, f4, f5, f6, f7, _⟩ := hF
      simp only [MP.eq_p] at f0 f1 f2 f3 f4 f5 f6 f7
      rw [f0, f1, f2, f3, f4, f5, f6, f7]
      simp only [List.drop_succ_cons, List.drop_zero]
      have Q0 : Hid (Blk w4 (w.heap.size + 1) (kC (A.front key j) 12)) := P0.out.up hb4.out P0.out.lt
      have Q1 : Hid (Blk w4 w.heap.size z0) := P1.out.up hb4.out P1.out.lt
      have Q2 : Hid (Below w.heap.size w w4) := P2.out.trans (hb4.out.mono P2.out.size)
      have RR : Hid (w4.rangeAt g q (xs.map b8)) := RX.out w4 hb4.out
      have MI : Hid (xs.length = min dl 4) := by rw [XL.out]; have := DL.out; show 4 = _; omega
      have TT : Hid _ := (ST.out w4 Q0.out).2
      clear f0 f1 f2 f3 f4 f5 f6 f7 hb4 hO P0 P1 P2 BY
      go_wp2_with (refine wp_copyR rfl (.tmp 35) (.tmp 39) rfl (w.heap.size + 1) (j * 4) 4 4 g q dl c2 xs rfl rfl MI.out RR.out TT.out ?_)
      intro w9 hw9
      have V0 : Hid (Blk w9 (w.heap.size + 1) (kC (A.front key (j + 1)) 12)) := by rw [hw9.out]; exact (ST.out w4 Q0.out).1
      have V1 : Hid (Blk w9 w.heap.size z0) := by rw [hw9.out]; exact Q1.out.apart (by omega)
      have V2 : Hid (Below w.heap.size w w9) := by rw [hw9.out]; exact below_setCells _ _ _ Q2.out (by omega)
      clear hw9 Q0 Q1 Q2 TT RR
      go_wp2_with fail
      go_roundw
      case rel => exact ⟨j + 1, J1.out, by first | rfl | go_num, V0, V1, V2⟩
      case measure => have := J1.out; simp [intOf]; omega
    · have ej : j = 6 := by omega
      have ei : (j : Int) = 6 := by omega
      rw [ej, FA.out] at P0
      rw [ei]
      clear hj hj1 FA HV ej ei
      go_wp2_with fail
      go_loopw [7] (fun i wr => ∃ m : Nat, m ≤ 46 ∧ i = .int .i64 ((6 + m : Nat) : Int) ∧ Hid (Blk wr (w.heap.size + 1) (kC (A.flat (W m)) 12)) ∧ Hid (Blk wr w.heap.size z0) ∧ Hid (Below w.heap.size w wr)) (fun i _ => 52 - (intOf i).toNat)
      case atStart => exact ⟨0, by omega, rfl, P0, P1, P2⟩
      case round =>
        clear P0 P1 P2
        obtain ⟨m, hm, rfl, P0, P1, P2⟩ := hrel
        have FL : Hid ((A.flat (W m)).length = 240) := A.flat_length (WO.out m).q (by rw [WL.out]; omega)
        have CT : Hid _ := CN.out (A.flat (W m)) wr FL.out
        have IK : Hid _ := info_k (fl := A.flat (W m)) 12 FL.out
        obtain ⟨i, hi⟩ : ∃ i, i = 6 + m := ⟨_, rfl⟩
        rw [← hi]
        by_cases hm1 : m < 46
        · have M1 : Hid (m < 46) := hm1
          have i1 : (i : Int) < 52 := by omega
          have i60 : (i : Int) < 60 := by omega
          have m60 : (m : Int) < 60 := by omega
          have wi : IntKind.i64.wrap ((i : Int) + 1) = (i : Int) + 1 := by rw [IntKind.wrap_i64]; omega
          have wm : IntKind.i64.wrap ((i : Int) - 6) = (m : Int) := by rw [IntKind.wrap_i64]; omega
          obtain ⟨p, hp⟩ : ∃ p, p = i - 1 := ⟨_, rfl⟩
          have wp_ : IntKind.i64.wrap ((i : Int) - 1) = (p : Int) := by rw [IntKind.wrap_i64]; omega
          have p60 : (p : Int) < 60 := by omega
          have OW := WO.out m
          have LW := WL.out m
          have qm : A.ok 4 ((W m).getD m []) := by
            rw [List.getD_eq_getElem?_getD, List.getElem?_eq_getElem (by rw [LW]; omega)]
            exact OW _ (List.getElem_mem _)
          have qp : A.ok 4 ((W m).getD p []) := by
            rw [List.getD_eq_getElem?_getD, List.getElem?_eq_getElem (by rw [LW]; omega)]
            exact OW _ (List.getElem_mem _)
          have CH : Hid _ := fun W' => achg_fun ((W m).getD p []) qp 6 i (by decide) (by omega) (by omega) W'
          have PO : A.ok 4 (A.preW 6 i ((W m).getD p [])) := by
            have h4 : (A.preW 6 i ((W m).getD p [])).length = 4 := by
              unfold A.preW
              split
              · rfl
              · split
                · exact (A.subW_ok _).1
                · exact qp.1
            refine ⟨h4, fun x hx => ?_⟩
            obtain ⟨t, ht, rfl⟩ := List.mem_iff_getElem.1 hx
            have := A.preW_at (n := 6) (i := i) (t := (W m).getD p []) (fun i => qp.at i) t
            rw [List.getD_eq_getElem?_getD, List.getElem?_eq_getElem ht] at this
            exact this
          have SM : Hid _ := fun W' => asum_fun ((W m).getD m []) (A.preW 6 i ((W m).getD p [])) qm PO W'
          have WN := WS.out m
          rw [← hi, ← hp] at WN
          obtain ⟨nw, hnw⟩ : ∃ nw, nw = A.xorW ((W m).getD m []) (A.preW 6 i ((W m).getD p [])) := ⟨_, rfl⟩
          rw [← hnw] at WN SM
          have NL : Hid (nw.length = 4) := by rw [hnw]; exact A.by_length _ _
          obtain ⟨na, nc, ne, ne2, nl⟩ := A.flat_next OW.q (by rw [LW]; omega) nw NL.out
          rw [← WN] at ne2
          rw [LW, ← hi] at nl
          obtain ⟨am, cm, em, lm⟩ := A.flat_word OW.q (j := m) (by rw [LW]; omega)
          obtain ⟨ap, cp, ep, lp⟩ := A.flat_word OW.q (j := p) (by rw [LW]; omega)
          have LM : Hid (∀ W', Below wr.heap.size wr W' → W'.rangeAt (w.heap.size + 1) (m * 4) (((W m).getD m []).map b8)) := fun W' hW' => by
            have h := P0.out.up hW' P0.out.lt
            rw [kC_part em] at h
            exact h.range (by rw [List.length_map, lm])
          have LP : Hid (∀ W', Below wr.heap.size wr W' → W'.rangeAt (w.heap.size + 1) (p * 4) (((W m).getD p []).map b8)) := fun W' hW' => by
            have h := P0.out.up hW' P0.out.lt
            rw [kC_part ep] at h
            exact h.range (by rw [List.length_map, lp])
          have ST : Hid (∀ W', Blk W' (w.heap.size + 1) (kC (A.flat (W m)) 12) → Blk (W'.setCells (w.heap.size + 1) (i * 4) (nw.map b8)) (w.heap.size + 1) (kC (A.flat (W (m + 1))) 12) ∧ W'.there (w.heap.size + 1) (i * 4) (nw.map b8).length) := fun W' h => by
            rw [kC_part ne] at h
            rw [kC_part ne2]
            refine ⟨h.store (by rw [List.length_map, nl]) (by rw [List.length_map, List.length_map, NL.out]; simp), h.there ?_⟩
            simp [nl, NL.out]
            try omega
          have QM : Hid (((W m).getD m []).length = 4) := qm.1
          have QP : Hid (((W m).getD p []).length = 4) := qp.1
          have HI : Hid (i = 6 + m) := hi
          generalize A.preW 6 i ((W m).getD p []) = pw at *
          generalize (W m).getD m [] = wm' at *
          generalize (W m).getD p [] = wp' at *
          generalize hfl : A.flat (W m) = fl at *
          clear hfl hnw ne ne2 nl em ep lm lp qm qp PO OW LW WN hi hp hm hm1
          go_wp2_with (refine wpList_load_mid rfl 26 (.tmp 5) rfl (w.heap.size + 1) 0 rfl (kC fl 12) _ P0.out.all UK.out.1 UK.out.2 IK.out ?_)
          refine Calls.mono CT.out ?_
          rintro e w2 ⟨rfl, hb2⟩
          have Q0 : Hid (Blk w2 (w.heap.size + 1) (kC fl 12)) := P0.out.up hb2 P0.out.lt
          have Q1 : Hid (Blk w2 w.heap.size z0) := P1.out.up hb2 P1.out.lt
          have Q2 : Hid (Below w.heap.size w w2) := P2.out.trans (hb2.mono P2.out.size)
          have LM2 : Hid (∀ W', Below w2.heap.size w2 W' → W'.rangeAt (w.heap.size + 1) (m * 4) (wm'.map b8)) := fun W' hW' => LM.out W' (hb2.trans (hW'.mono hb2.size))
          have LP2 : Hid (∀ W', Below w2.heap.size w2 W' → W'.rangeAt (w.heap.size + 1) (p * 4) (wp'.map b8)) := fun W' hW' => LP.out W' (hb2.trans (hW'.mono hb2.size))
          have IM : Hid _ := info_n info_a4 wm' QM.out
          have IP : Hid _ := info_n info_a4 wp' QP.out
          clear hb2 P0 P1 P2 CT LM LP
          go_wp2_with fail
          refine wp_region_monoSE 18 [MP.eq (.int .i64 (i : Int)), MP.eq (.int .i64 (i : Int)), MP.eq (.int .i64 6), MP.eq (.int .i64 (m : Int)), MP.eq (.pointer (some ⟨w.heap.size + 1, 0, none⟩)), MP.eq (.pointer (some ⟨w.heap.size + 1, m * 4, none⟩)), MP.eq (aB wm'), MP.eq (.int .i64 (i : Int)), MP.eq (.int .i64 (p : Int)), MP.eq (.pointer (some ⟨w.heap.size + 1, 0, none⟩)), MP.eq (.pointer (some ⟨w.heap.size + 1, p * 4, none⟩)), MP.eq (aB wp'), MP.eq (.int .i64 (i : Int)), MP.eq (.int .i64 6), MP.eq (aB pw), MP.eq (aB nw), MP.eq (.pointer (some ⟨w.heap.size + 1, 0, none⟩)), MP.eq (.pointer (some ⟨w.heap.size + 1, i * 4, none⟩))] (by kernel_rfl) (by kernel_rfl) rfl (by decide) (by kernel_rfl) ?_
          apply Exists.intro
          refine ⟨fun vals => ?_, ?_, fun vals4 w4 hb4 hF hO => ?_⟩
          · simp only [putsV, dstL, List.length_cons, List.length_nil, Nat.zero_add, Nat.reduceAdd, List.getElem?_cons_zero, List.getElem?_cons_succ, Option.bind_some, Act.put, List.setIfInBounds_toArray, List.set_cons_succ, List.set_cons_zero]
            rfl
          · refine ⟨?_, ?_, ?_, ?_, ?_, ?_, ?_, ?_, ?_, ?_, ?_, ?_, ?_, ?_, ?_, ?_, ?_, ?_, trivial⟩
            · intro vals W hW hw hd
              try simp [Region.binds] at hd
              refine ⟨by first | rfl | simp [Region.wanted, yielded, hd], ?_⟩
              simp [go_sem, hd]
              exact Below.refl _ _
            · intro vals W hW hw hd
              try simp [Region.binds] at hd
              refine ⟨by first | rfl | simp [Region.wanted, yielded, hd], ?_⟩
              simp [go_sem, hd]
              exact Below.refl _ _
            · intro vals W hW hw hd
              try simp [Region.binds] at hd
              refine ⟨by first | rfl | simp [Region.wanted, yielded, hd], ?_⟩
              simp [go_sem, hd]
              exact Below.refl _ _
            · intro vals W hW hw hd
              try simp [Region.binds] at hd
              refine ⟨by first | rfl | simp [Region.wanted, yielded, hd], ?_⟩
              simp [go_sem, hd, wm]
              exact Below.refl _ _
            · intro vals W hW hw hd
              try simp [Region.binds] at hd
              refine ⟨by first | rfl | simp [Region.wanted, yielded, hd], ?_⟩
              simp [go_sem, hd]
              exact Below.refl _ _
            · intro vals W hW hw hd
              try simp [Region.binds] at hd
              refine ⟨by first | rfl | simp [Region.wanted, yielded, hd], ?_⟩
              simp [go_sem, hd, m60]
              exact Below.refl _ _
            · intro vals W hW hw hd
              try simp [Region.binds] at hd
              refine ⟨by first | rfl | simp [Region.wanted, yielded, hd], ?_⟩
              exact yieldsA_load 23 (.tmp 54) rfl (w.heap.size + 1) (m * 4) hd (wm'.map b8) _ (LM2.out W hW.out) u_a4 rfl IM.out rfl
            · intro vals W hW hw hd
              try simp [Region.binds] at hd
              refine ⟨by first | rfl | simp [Region.wanted, yielded, hd], ?_⟩
              simp [go_sem, hd]
              exact Below.refl _ _
            · intro vals W hW hw hd
              try simp [Region.binds] at hd
              refine ⟨by first | rfl | simp [Region.wanted, yielded, hd], ?_⟩
              simp [go_sem, hd, wp_]
              exact Below.refl _ _
            · intro vals W hW hw hd
              try simp [Region.binds] at hd
              refine ⟨by first | rfl | simp [Region.wanted, yielded, hd], ?_⟩
              simp [go_sem, hd]
              exact Below.refl _ _
            · intro vals W hW hw hd
              try simp [Region.binds] at hd
              refine ⟨by first | rfl | simp [Region.wanted, yielded, hd], ?_⟩
              simp [go_sem, hd, p60]
              exact Below.refl _ _
            · intro vals W hW hw hd
              try simp [Region.binds] at hd
              refine ⟨by first | rfl | simp [Region.wanted, yielded, hd], ?_⟩
              exact yieldsA_load 23 (.tmp 59) rfl (w.heap.size + 1) (p * 4) hd (wp'.map b8) _ (LP2.out W hW.out) u_a4 rfl IP.out rfl
            · intro vals W hW hw hd
              try simp [Region.binds] at hd
              refine ⟨by first | rfl | simp [Region.wanted, yielded, hd], ?_⟩
              simp [go_sem, hd]
              exact Below.refl _ _
            · intro vals W hW hw hd
              try simp [Region.binds] at hd
              refine ⟨by first | rfl | simp [Region.wanted, yielded, hd], ?_⟩
              simp [go_sem, hd]
              exact Below.refl _ _
            · intro vals W hW hw hd
              try simp [Region.binds] at hd
              refine ⟨by first | rfl | simp [Region.wanted, yielded, hd], ?_⟩
              simp [go_sem, hd]
              exact (CH.out W).mono fun e w' ⟨he, hb⟩ => ⟨_, he, rfl, hb⟩
            · intro vals W hW hw hd
              try simp [Region.binds] at hd
              refine ⟨by first | rfl | simp [Region.wanted, yielded, hd], ?_⟩
              simp [go_sem, hd]
              exact (SM.out W).mono fun e w' ⟨he, hb⟩ => ⟨_, he, rfl, hb⟩
            · intro vals W hW hw hd
              try simp [Region.binds] at hd
              refine ⟨by first | rfl | simp [Region.wanted, yielded, hd], ?_⟩
              simp [go_sem, hd]
              exact Below.refl _ _
            · intro vals W hW hw hd
              try simp [Region.binds] at hd
              refine ⟨by first | rfl | simp [Region.wanted, yielded, hd], ?_⟩
              simp [go_sem, hd, i60]
              exact Below.refl _ _
          obtain ⟨f0, f1, f2, f3, f4, f5, f6, f7, f8, f9, f10, f11, f12, f13, f14, f15, f16, f17, _⟩ := hF
          simp only [MP.eq_p] at f0 f1 f2 f3 f4 f5 f6 f7 f8 f9 f10 f11 f12 f13 f14 f15 f16 f17
          rw [f0, f1, f2, f3, f4, f5, f6, f7, f8, f9, f10, f11, f12, f13, f14, f15, f16, f17]
          simp only [List.drop_succ_cons, List.drop_zero]
          have S0 : Hid (Blk w4 (w.heap.size + 1) (kC fl 12)) := Q0.out.up hb4.out Q0.out.lt
          have S1 : Hid (Blk w4 w.heap.size z0) := Q1.out.up hb4.out Q1.out.lt
          have S2 : Hid (Below w.heap.size w w4) := Q2.out.trans (hb4.out.mono Q2.out.size)
          have TT : Hid _ := (ST.out w4 S0.out).2
          clear f0 f1 f2 f3 f4 f5 f6 f7 f8 f9 f10 f11 f12 f13 f14 f15 f16 f17 hb4 hO Q0 Q1 Q2 LM2 LP2 IM IP CH SM
          go_wp2_with (refine wp_store_eq rfl 23 (.tmp 66) (.tmp 64) rfl (w.heap.size + 1) (i * 4) (nw.map b8) rfl rfl TT.out (info_n info_a4 nw NL.out) (one_b8 _) ?_)
          intro w9 hw9
          have V0 : Hid (Blk w9 (w.heap.size + 1) (kC (A.flat (W (m + 1))) 12)) := by rw [hw9.out]; exact (ST.out w4 S0.out).1
          have V1 : Hid (Blk w9 w.heap.size z0) := by rw [hw9.out]; exact S1.out.apart (by omega)
          have V2 : Hid (Below w.heap.size w w9) := by rw [hw9.out]; exact below_setCells _ _ _ S2.out (by omega)
          clear hw9 S0 S1 S2 TT ST
          go_wp2_with fail
          go_roundw
          case rel => exact ⟨m + 1, M1.out, by rw [show 6 + (m + 1) = i + 1 by have := HI.out; omega]; first | rfl | go_num, V0, V1, V2⟩
          case measure => have := M1.out; have := HI.out; simp [intOf]; omega
        · obtain rfl : m = 46 := by omega
          have i1 : ¬ (i : Int) < 52 := by omega
          have KO : Hid _ := kC_one (A.flat (W 46)) 12
          have KLn : Hid ((kC (A.flat (W 46)) 12).length = 241) := kC_length _ FL.out
          obtain ⟨kc, hkc⟩ : ∃ kc, kc = kC (A.flat (W 46)) 12 := ⟨_, rfl⟩
          rw [← hkc] at KO KLn P0 CT IK
          have HKC : Hid (kc = kC (A.flat (W 46)) 12) := hkc
          clear hkc
          clear hm hm1 hi FL WS WO WL CN
          go_wp2_with (refine wpList_load_mid rfl 26 (.tmp 5) rfl (w.heap.size + 1) 0 rfl kc _ P0.out.all UK.out.1 UK.out.2 IK.out ?_)
          refine Calls.mono CT.out ?_
          rintro e w2 ⟨rfl, hb2⟩
          have Q0 : Hid (Blk w2 (w.heap.size + 1) kc) := P0.out.up hb2 P0.out.lt
          have Q1 : Hid (Blk w2 w.heap.size z0) := P1.out.up hb2 P1.out.lt
          have Q2 : Hid (Below w.heap.size w w2) := P2.out.trans (hb2.mono P2.out.size)
          have TT : Hid (w2.there w.heap.size 0 kc.length) := Q1.out.there (by rw [KLn.out, ZL.out]; omega)
          clear hb2 P0 P1 P2 CT
          go_wp2_with (first | refine wpList_load_mid rfl 26 (.tmp 5) rfl (w.heap.size + 1) 0 rfl kc _ Q0.out.all UK.out.1 UK.out.2 IK.out ?_ | refine wp_store_eq rfl 26 (.tmp 2) (.tmp 67) rfl w.heap.size 0 kc rfl rfl TT.out IK.out KO.out ?_)
          intro w9 hw9
          go_wp2_with fail
          refine bodyPost_ret (v := .tuple #[.agg kc.toArray, .int .i64 0]) ?_ rfl ⟨by rw [HKC.out], ?_⟩
          · rw [hw9.out]
            exact axr_cell2 (b := w.heap.size) rfl rfl rfl (World.rangeAt_setCells_same _ _ _ _ TT.out) UK.out.1 UK.out.2 IK.out
          · rw [hw9.out]
            exact below_setCells _ _ _ Q2.out (Nat.le_refl _)
set_option maxRecDepth 20000 in
set_option maxHeartbeats 2000000 in
theorem aexp32_fun (key : List Nat) (hk : key.length = 32) (lk : ∀ x ∈ key, x < 256) (v : Value) (w : World) (hv : By w v key) :
    Calls Try.prog 7 #[v] w fun e w' => e = .returned (.tuple #[.agg (kC (A.flat (A.keyW key)) 14).toArray, .int .i64 0]) ∧ Below w.heap.size w w' := by
  have KN : A.keyN key = 8 := by unfold A.keyN; rw [hk]
  obtain ⟨W, hW⟩ : ∃ W : Nat → List (List Nat), W = A.growW 8 (A.firstW key 8) := ⟨_, rfl⟩
  have k4 : key.length = 4 * A.keyN key := by rw [KN, hk]
  have FA : Hid (A.front key 8 = A.flat (W 0)) := by
    have := A.front_all k4
    rw [KN] at this
    rw [hW]
    exact this
  have WL : Hid (∀ m, (W m).length = 8 + m) := fun m => by rw [hW, A.growW_length, A.firstW_length]
  have WO : Hid (∀ m, A.okW (W m)) := fun m => by rw [hW]; exact A.growW_ok (A.firstW_ok (n := key.length) ⟨rfl, lk⟩ _) m
  have WS : Hid (∀ m, W (m + 1) = W m ++ [A.xorW ((W m).getD m []) (A.preW 8 (8 + m) ((W m).getD (8 + m - 1) []))]) := fun m => by
    have h := WL.out m
    rw [hW] at h ⊢
    show _ ++ [A.nextW 8 _] = _
    unfold A.nextW
    rw [h, Nat.add_sub_cancel_left]
  have WE : Hid (A.keyW key = W 52) := by unfold A.keyW; rw [KN, hW]; exact rfl
  rw [WE.out]
  have KL : Hid (key.length = 32) := hk
  have CN : Hid (∀ (fl : List Nat) (W : World), fl.length = 240 → Calls Try.prog 14 #[.agg (kC fl 14).toArray] W fun e w' => e = .returned (.int .i64 60) ∧ Below W.heap.size W w') := fun fl W h => acount_fun fl 14 h (by decide) W
  have HV : Hid (∀ W, Below w.heap.size w W → By W v key) := fun W h => hv.up h (Nat.le_refl _)
  obtain ⟨va, vc, rfl⟩ := hv.len
  rw [hk] at HV ⊢
  obtain ⟨z0, hz0⟩ : ∃ z0, z0 = kC (List.replicate 240 0) 0 := ⟨_, rfl⟩
  obtain ⟨zr, hzr⟩ : ∃ zr, zr = kC (List.replicate 240 0) 14 := ⟨_, rfl⟩
  have ZK : ∀ w, (zeroValue 26).run Try.prog w = .ok (.agg z0.toArray) w := fun w => by rw [hz0]; exact zero_key w
  have ZL : Hid (z0.length = 241) := by rw [hz0]; exact kC_length 0 (by simp)
  have RL : Hid (zr.length = 241) := by rw [hzr]; exact kC_length _ (by simp)
  have RO : Hid (∀ v ∈ zr, v.oneCell' = true) := by rw [hzr]; exact kC_one _ _
  have RE : Hid (zr = kC (A.front key 0) 14) := by rw [hzr]; exact rfl
  have IR : Hid _ := info_key.trans (congrArg some RL.out.symm)
  obtain ⟨x0, x1⟩ := Blk.al' w z0 26
  have X0 : Hid (Blk _ w.heap.size z0) := x0
  have X1 : Hid (Below w.heap.size w _) := x1
  obtain ⟨y0, y1⟩ := Blk.al' (w.alloc (.cells z0.toArray 26)) z0 26
  rw [show (w.alloc (.cells z0.toArray 26)).heap.size = w.heap.size + 1 by simp] at y0 y1
  have Y0 : Hid (Blk _ (w.heap.size + 1) z0) := y0
  have Y1 : Hid (Blk _ w.heap.size z0) := x0.up y1 (by omega)
  have Y2 : Hid (Below w.heap.size w _) := x1.trans (y1.mono (by omega))
  have BK : ∀ {ops : Array Oper} {rest : List Oper} {o : Oper} {a : Act} {Q : Exit → Act → World → Prop} {w : World}, o.guard = none → ∀ (x : Operand), o.op = .build 26 #[(1, x)] → a.eval x = .int .i64 14 → wpList Try.prog ops Q rest (a.put o.dst (.agg zr.toArray)) w → wpList Try.prog ops Q (o :: rest) a w := fun hgd x ho hx h => wp_buildK hgd x ho 14 hx (by rw [← hzr]; exact h)
  have BKH : Hid (∀ {ops : Array Oper} {rest : List Oper} {o : Oper} {a : Act} {Q : Exit → Act → World → Prop} {w : World}, o.guard = none → ∀ (x : Operand), o.op = .build 26 #[(1, x)] → a.eval x = .int .i64 14 → wpList Try.prog ops Q rest (a.put o.dst (.agg zr.toArray)) w → wpList Try.prog ops Q (o :: rest) a w) := BK
  have T0 : Hid (World.there _ (w.heap.size + 1) 0 zr.length) := Y0.out.there (by rw [RL.out, ZL.out]; omega)
  obtain ⟨dk, uk, rk⟩ := u_key
  have UK : Hid (Try.prog.underlying 26 = some dk ∧ dk.isRow = true) := ⟨uk, rk⟩
  clear x0 x1 y0 y1 BK hz0 hzr hW KN k4 WE hv hk lk uk rk
  go_enter Try.func7, Try.ntmps7
  go_wp2_with (first | simp only [ZK] | refine BKH.out rfl (.tmp 26) rfl rfl ?_ | refine wp_store_eq rfl 26 (.tmp 5) (.tmp 27) rfl (w.heap.size + 1) 0 zr rfl rfl T0.out IR.out RO.out ?_)
  intro w1 hw1
  have P0 : Hid (Blk w1 (w.heap.size + 1) (kC (A.front key 0) 14)) := by rw [hw1.out, ← RE.out]; exact Y0.out.put (by rw [RL.out, ZL.out])
  have P1 : Hid (Blk w1 w.heap.size z0) := by rw [hw1.out]; exact Y1.out.apart (by omega)
  have P2 : Hid (Below w.heap.size w w1) := by rw [hw1.out]; exact below_setCells _ _ _ Y2.out (by omega)
  clear hw1 X0 X1 Y0 Y1 Y2 T0 BKH RO RE IR RL
  go_wp2_with fail
  go_loopw [29] (fun i wr => ∃ j : Nat, j ≤ 8 ∧ i = .int .i64 (j : Int) ∧ Hid (Blk wr (w.heap.size + 1) (kC (A.front key j) 14)) ∧ Hid (Blk wr w.heap.size z0) ∧ Hid (Below w.heap.size w wr)) (fun i _ => 8 - (intOf i).toNat)
  case atStart => exact ⟨0, by omega, rfl, P0, P1, P2⟩
  case round =>
    clear P0 P1 P2
    obtain ⟨j, hj, rfl, P0, P1, P2⟩ := hrel
    by_cases hj1 : j < 8
    · have j1 : (j : Int) < 8 := by omega
      have j60 : (j : Int) < 60 := by omega
      have J1 : Hid (j < 8) := hj1
      have wj : IntKind.i64.wrap ((j : Int) + 1) = (j : Int) + 1 := by rw [IntKind.wrap_i64]; omega
      have w4 : IntKind.i64.wrap (4 * (j : Int)) = ((4 * j : Nat) : Int) := by rw [IntKind.wrap_i64]; omega
      have BY : Hid (By wr (.slice va 32 vc) key) := HV.out wr P2.out
      have BC : Hid (By wr (sliced va (4 * j) key.length vc 1) (key.drop (4 * j))) := by
        have h := BY.out
        rw [← KL.out] at h
        exact h.cut (by rw [KL.out]; omega)
      obtain ⟨a2, c2, e2⟩ := BC.out.len
      have S2 : Hid (sliced va (4 * j) key.length vc 1 = .slice a2 (key.drop (4 * j)).length c2) := e2
      have BC' := BC.out
      rw [e2] at BC'
      obtain ⟨g, q, rfl, _, RG⟩ := BC'.range (by rw [List.length_drop, KL.out]; omega)
      obtain ⟨fa, fc, fe, fe2, fl⟩ := A.front_next (key := key) (j := j) (by rw [KL.out]; omega) (by rw [KL.out]; decide)
      obtain ⟨xs, hxs⟩ : ∃ xs, xs = (key.drop (4 * j)).take 4 := ⟨_, rfl⟩
      have XL : Hid (xs.length = 4) := by rw [hxs, List.length_take, List.length_drop, KL.out]; show min 4 _ = 4; omega
      have DL : Hid (4 ≤ (key.drop (4 * j)).length) := by rw [List.length_drop, KL.out]; show 4 ≤ _; omega
      have RX : Hid (∀ W, Below wr.heap.size wr W → W.rangeAt g q (xs.map b8)) := fun W hW => by
        rw [hxs, List.map_take]
        exact range_take (range_upq RG hW (Nat.le_refl _)) 4
      have ST : Hid (∀ W, Blk W (w.heap.size + 1) (kC (A.front key j) 14) → Blk (W.setCells (w.heap.size + 1) (j * 4) (xs.map b8)) (w.heap.size + 1) (kC (A.front key (j + 1)) 14) ∧ W.there (w.heap.size + 1) (j * 4) xs.length) := fun W h => by
        rw [kC_part fe] at h
        rw [kC_part fe2, ← hxs]
        refine ⟨h.store (by rw [List.length_map, fl]) (by rw [List.length_map, List.length_map, XL.out]; simp), h.there ?_⟩
        simp [fl, XL.out]
        try omega
      have KL2 : Hid (4 * j ≤ key.length) := by rw [KL.out]; show 4 * j ≤ _; omega
      obtain ⟨jj, hjj⟩ : ∃ jj, jj = 4 * j := ⟨_, rfl⟩
      rw [← hjj] at w4 S2 KL2 DL
      generalize (key.drop jj).length = dl at *
      clear hj hj1 BC BC' e2 fe fe2 fl RG hxs hjj
      go_wp2_with fail
      refine wp_region_monoSE 8 [MP.eq (.int .i64 (j : Int)), MP.eq (.pointer (some ⟨w.heap.size + 1, 0, none⟩)), MP.eq (.pointer (some ⟨w.heap.size + 1, j * 4, none⟩)), MP.eq (.slice (some ⟨w.heap.size + 1, j * 4, none⟩) 4 4), MP.eq (.slice va 32 vc), MP.eq (.int .i64 (j : Int)), MP.eq (.int .i64 (jj : Int)), MP.eq (.slice (some ⟨g, q, none⟩) dl c2)] (by kernel_rfl) (by kernel_rfl) rfl (by decide) (by kernel_rfl) ?_
      apply Exists.intro
      refine ⟨fun vals => ?_, ?_, fun vals4 w4 hb4 hF hO => ?_⟩
      · simp only [putsV, dstL, List.length_cons, List.length_nil, Nat.zero_add, Nat.reduceAdd, List.getElem?_cons_zero, List.getElem?_cons_succ, Option.bind_some, Act.put, List.setIfInBounds_toArray, List.set_cons_succ, List.set_cons_zero]
        rfl
      · refine ⟨?_, ?_, ?_, ?_, ?_, ?_, ?_, ?_, trivial⟩
        · intro vals W hW hw hd
          try simp [Region.binds] at hd
          refine ⟨by first | rfl | simp [Region.wanted, yielded, hd], ?_⟩
          simp [go_sem, hd]
          exact Below.refl _ _
        · intro vals W hW hw hd
          try simp [Region.binds] at hd
          refine ⟨by first | rfl | simp [Region.wanted, yielded, hd], ?_⟩
          simp [go_sem, hd]
          exact Below.refl _ _
        · intro vals W hW hw hd
          try simp [Region.binds] at hd
          refine ⟨by first | rfl | simp [Region.wanted, yielded, hd], ?_⟩
          simp [go_sem, hd, j60]
          exact Below.refl _ _
        · intro vals W hW hw hd
          try simp [Region.binds] at hd
          refine ⟨by first | rfl | simp [Region.wanted, yielded, hd], ?_⟩
          exact yields_all u_a4 gi_u8 (by decide) (.tmp 34) rfl (w.heap.size + 1) (j * 4) hd rfl
        · intro vals W hW hw hd
          try simp [Region.binds] at hd
          refine ⟨by first | rfl | simp [Region.wanted, yielded, hd], ?_⟩
          simp [go_sem, hd]
          exact Below.refl _ _
        · intro vals W hW hw hd
          try simp [Region.binds] at hd
          refine ⟨by first | rfl | simp [Region.wanted, yielded, hd], ?_⟩
          simp [go_sem, hd]
          exact Below.refl _ _
        · intro vals W hW hw hd
          try simp [Region.binds] at hd
          refine ⟨by first | rfl | simp [Region.wanted, yielded, hd], ?_⟩
          simp [go_sem, hd, w4]
          exact Below.refl _ _
        · intro vals W hW hw hd
          try simp [Region.binds] at hd
          refine ⟨by first | rfl | simp [Region.wanted, yielded, hd], ?_⟩
          exact yields_cutB (.tmp 36) (.tmp 38) rfl va vc jj .i64 key (by rw [KL.out]; exact hd.1) hd.2 KL2.out S2.out
      obtain ⟨f0, f1, f2, f3, f4, f5, f6, f7, _⟩ := hF
      simp only [MP.eq_p] at f0 f1 f2 f3 f4 f5 f6 f7
      rw [f0, f1, f2, f3, f4, f5, f6, f7]
      simp only [List.drop_succ_cons, List.drop_zero]
      have Q0 : Hid (Blk w4 (w.heap.size + 1) (kC (A.front key j) 14)) := P0.out.up hb4.out P0.out.lt
      have Q1 : Hid (Blk w4 w.heap.size z0) := P1.out.up hb4.out P1.out.lt
      have Q2 : Hid (Below w.heap.size w w4) := P2.out.trans (hb4.out.mono P2.out.size)
      have RR : Hid (w4.rangeAt g q (xs.map b8)) := RX.out w4 hb4.out
      have MI : Hid (xs.length = min dl 4) := by rw [XL.out]; have := DL.out; show 4 = _; omega
      have TT : Hid _ := (ST.out w4 Q0.out).2
      clear f0 f1 f2 f3 f4 f5 f6 f7 hb4 hO P0 P1 P2 BY
      go_wp2_with (refine wp_copyR rfl (.tmp 35) (.tmp 39) rfl (w.heap.size + 1) (j * 4) 4 4 g q dl c2 xs rfl rfl MI.out RR.out TT.out ?_)
      intro w9 hw9
      have V0 : Hid (Blk w9 (w.heap.size + 1) (kC (A.front key (j + 1)) 14)) := by rw [hw9.out]; exact (ST.out w4 Q0.out).1
      have V1 : Hid (Blk w9 w.heap.size z0) := by rw [hw9.out]; exact Q1.out.apart (by omega)
      have V2 : Hid (Below w.heap.size w w9) := by rw [hw9.out]; exact below_setCells _ _ _ Q2.out (by omega)
      clear hw9 Q0 Q1 Q2 TT RR
      go_wp2_with fail
      go_roundw
      case rel => exact ⟨j + 1, J1.out, by first | rfl | go_num, V0, V1, V2⟩
      case measure => have := J1.out; simp [intOf]; omega
    · have ej : j = 8 := by omega
      have ei : (j : Int) = 8 := by omega
      rw [ej, FA.out] at P0
      rw [ei]
      clear hj hj1 FA HV ej ei
      go_wp2_with fail
      go_loopw [7] (fun i wr => ∃ m : Nat, m ≤ 52 ∧ i = .int .i64 ((8 + m : Nat) : Int) ∧ Hid (Blk wr (w.heap.size + 1) (kC (A.flat (W m)) 14)) ∧ Hid (Blk wr w.heap.size z0) ∧ Hid (Below w.heap.size w wr)) (fun i _ => 60 - (intOf i).toNat)
      case atStart => exact ⟨0, by omega, rfl, P0, P1, P2⟩
      case round =>
        clear P0 P1 P2
        obtain ⟨m, hm, rfl, P0, P1, P2⟩ := hrel
        have FL : Hid ((A.flat (W m)).length = 240) := A.flat_length (WO.out m).q (by rw [WL.out]; omega)
        have CT : Hid _ := CN.out (A.flat (W m)) wr FL.out
        have IK : Hid _ := info_k (fl := A.flat (W m)) 14 FL.out
        obtain ⟨i, hi⟩ : ∃ i, i = 8 + m := ⟨_, rfl⟩
        rw [← hi]
        by_cases hm1 : m < 52
        · have M1 : Hid (m < 52) := hm1
          have i1 : (i : Int) < 60 := by omega
          have i60 : (i : Int) < 60 := by omega
          have m60 : (m : Int) < 60 := by omega
          have wi : IntKind.i64.wrap ((i : Int) + 1) = (i : Int) + 1 := by rw [IntKind.wrap_i64]; omega
          have wm : IntKind.i64.wrap ((i : Int) - 8) = (m : Int) := by rw [IntKind.wrap_i64]; omega
          obtain ⟨p, hp⟩ : ∃ p, p = i - 1 := ⟨_, rfl⟩
          have wp_ : IntKind.i64.wrap ((i : Int) - 1) = (p : Int) := by rw [IntKind.wrap_i64]; omega
          have p60 : (p : Int) < 60 := by omega
          have OW := WO.out m
          have LW := WL.out m
          have qm : A.ok 4 ((W m).getD m []) := by
            rw [List.getD_eq_getElem?_getD, List.getElem?_eq_getElem (by rw [LW]; omega)]
            exact OW _ (List.getElem_mem _)
          have qp : A.ok 4 ((W m).getD p []) := by
            rw [List.getD_eq_getElem?_getD, List.getElem?_eq_getElem (by rw [LW]; omega)]
            exact OW _ (List.getElem_mem _)
          have CH : Hid _ := fun W' => achg_fun ((W m).getD p []) qp 8 i (by decide) (by omega) (by omega) W'
          have PO : A.ok 4 (A.preW 8 i ((W m).getD p [])) := by
            have h4 : (A.preW 8 i ((W m).getD p [])).length = 4 := by
              unfold A.preW
              split
              · rfl
              · split
                · exact (A.subW_ok _).1
                · exact qp.1
            refine ⟨h4, fun x hx => ?_⟩
            obtain ⟨t, ht, rfl⟩ := List.mem_iff_getElem.1 hx
            have := A.preW_at (n := 8) (i := i) (t := (W m).getD p []) (fun i => qp.at i) t
            rw [List.getD_eq_getElem?_getD, List.getElem?_eq_getElem ht] at this
            exact this
          have SM : Hid _ := fun W' => asum_fun ((W m).getD m []) (A.preW 8 i ((W m).getD p [])) qm PO W'
          have WN := WS.out m
          rw [← hi, ← hp] at WN
          obtain ⟨nw, hnw⟩ : ∃ nw, nw = A.xorW ((W m).getD m []) (A.preW 8 i ((W m).getD p [])) := ⟨_, rfl⟩
          rw [← hnw] at WN SM
          have NL : Hid (nw.length = 4) := by rw [hnw]; exact A.by_length _ _
          obtain ⟨na, nc, ne, ne2, nl⟩ := A.flat_next OW.q (by rw [LW]; omega) nw NL.out
          rw [← WN] at ne2
          rw [LW, ← hi] at nl
          obtain ⟨am, cm, em, lm⟩ := A.flat_word OW.q (j := m) (by rw [LW]; omega)
          obtain ⟨ap, cp, ep, lp⟩ := A.flat_word OW.q (j := p) (by rw [LW]; omega)
          have LM : Hid (∀ W', Below wr.heap.size wr W' → W'.rangeAt (w.heap.size + 1) (m * 4) (((W m).getD m []).map b8)) := fun W' hW' => by
            have h := P0.out.up hW' P0.out.lt
            rw [kC_part em] at h
            exact h.range (by rw [List.length_map, lm])
          have LP : Hid (∀ W', Below wr.heap.size wr W' → W'.rangeAt (w.heap.size + 1) (p * 4) (((W m).getD p []).map b8)) := fun W' hW' => by
            have h := P0.out.up hW' P0.out.lt
            rw [kC_part ep] at h
            exact h.range (by rw [List.length_map, lp])
          have ST : Hid (∀ W', Blk W' (w.heap.size + 1) (kC (A.flat (W m)) 14) → Blk (W'.setCells (w.heap.size + 1) (i * 4) (nw.map b8)) (w.heap.size + 1) (kC (A.flat (W (m + 1))) 14) ∧ W'.there (w.heap.size + 1) (i * 4) (nw.map b8).length) := fun W' h => by
            rw [kC_part ne] at h
            rw [kC_part ne2]
            refine ⟨h.store (by rw [List.length_map, nl]) (by rw [List.length_map, List.length_map, NL.out]; simp), h.there ?_⟩
            simp [nl, NL.out]
            try omega
          have QM : Hid (((W m).getD m []).length = 4) := qm.1
          have QP : Hid (((W m).getD p []).length = 4) := qp.1
          have HI : Hid (i = 8 + m) := hi
          generalize A.preW 8 i ((W m).getD p []) = pw at *
          generalize (W m).getD m [] = wm' at *
          generalize (W m).getD p [] = wp' at *
          generalize hfl : A.flat (W m) = fl at *
          clear hfl hnw ne ne2 nl em ep lm lp qm qp PO OW LW WN hi hp hm hm1
          go_wp2_with (refine wpList_load_mid rfl 26 (.tmp 5) rfl (w.heap.size + 1) 0 rfl (kC fl 14) _ P0.out.all UK.out.1 UK.out.2 IK.out ?_)
          refine Calls.mono CT.out ?_
          rintro e w2 ⟨rfl, hb2⟩
          have Q0 : Hid (Blk w2 (w.heap.size + 1) (kC fl 14)) := P0.out.up hb2 P0.out.lt
          have Q1 : Hid (Blk w2 w.heap.size z0) := P1.out.up hb2 P1.out.lt
          have Q2 : Hid (Below w.heap.size w w2) := P2.out.trans (hb2.mono P2.out.size)
          have LM2 : Hid (∀ W', Below w2.heap.size w2 W' → W'.rangeAt (w.heap.size + 1) (m * 4) (wm'.map b8)) := fun W' hW' => LM.out W' (hb2.trans (hW'.mono hb2.size))
          have LP2 : Hid (∀ W', Below w2.heap.size w2 W' → W'.rangeAt (w.heap.size + 1) (p * 4) (wp'.map b8)) := fun W' hW' => LP.out W' (hb2.trans (hW'.mono hb2.size))
          have IM : Hid _ := info_n info_a4 wm' QM.out
          have IP : Hid _ := info_n info_a4 wp' QP.out
          clear hb2 P0 P1 P2 CT LM LP
          go_wp2_with fail
          refine wp_region_monoSE 18 [MP.eq (.int .i64 (i : Int)), MP.eq (.int .i64 (i : Int)), MP.eq (.int .i64 8), MP.eq (.int .i64 (m : Int)), MP.eq (.pointer (some ⟨w.heap.size + 1, 0, none⟩)), MP.eq (.pointer (some ⟨w.heap.size + 1, m * 4, none⟩)), MP.eq (aB wm'), MP.eq (.int .i64 (i : Int)), MP.eq (.int .i64 (p : Int)), MP.eq (.pointer (some ⟨w.heap.size + 1, 0, none⟩)), MP.eq (.pointer (some ⟨w.heap.size + 1, p * 4, none⟩)), MP.eq (aB wp'), MP.eq (.int .i64 (i : Int)), MP.eq (.int .i64 8), MP.eq (aB pw), MP.eq (aB nw), MP.eq (.pointer (some ⟨w.heap.size + 1, 0, none⟩)), MP.eq (.pointer (some ⟨w.heap.size + 1, i * 4, none⟩))] (by kernel_rfl) (by kernel_rfl) rfl (by decide) (by kernel_rfl) ?_
          apply Exists.intro
          refine ⟨fun vals => ?_, ?_, fun vals4 w4 hb4 hF hO => ?_⟩
          · simp only [putsV, dstL, List.length_cons, List.length_nil, Nat.zero_add, Nat.reduceAdd, List.getElem?_cons_zero, List.getElem?_cons_succ, Option.bind_some, Act.put, List.setIfInBounds_toArray, List.set_cons_succ, List.set_cons_zero]
            rfl
          · refine ⟨?_, ?_, ?_, ?_, ?_, ?_, ?_, ?_, ?_, ?_, ?_, ?_, ?_, ?_, ?_, ?_, ?_, ?_, trivial⟩
            · intro vals W hW hw hd
              try simp [Region.binds] at hd
              refine ⟨by first | rfl | simp [Region.wanted, yielded, hd], ?_⟩
              simp [go_sem, hd]
              exact Below.refl _ _
            · intro vals W hW hw hd
              try simp [Region.binds] at hd
              refine ⟨by first | rfl | simp [Region.wanted, yielded, hd], ?_⟩
              simp [go_sem, hd]
              exact Below.refl _ _
            · intro vals W hW hw hd
              try simp [Region.binds] at hd
              refine ⟨by first | rfl | simp [Region.wanted, yielded, hd], ?_⟩
              simp [go_sem, hd]
              exact Below.refl _ _
            · intro vals W hW hw hd
              try simp [Region.binds] at hd
              refine ⟨by first | rfl | simp [Region.wanted, yielded, hd], ?_⟩
              simp [go_sem, hd, wm]
              exact Below.refl _ _
            · intro vals W hW hw hd
              try simp [Region.binds] at hd
              refine ⟨by first | rfl | simp [Region.wanted, yielded, hd], ?_⟩
              simp [go_sem, hd]
              exact Below.refl _ _
            · intro vals W hW hw hd
              try simp [Region.binds] at hd
              refine ⟨by first | rfl | simp [Region.wanted, yielded, hd], ?_⟩
              simp [go_sem, hd, m60]
              exact Below.refl _ _
            · intro vals W hW hw hd
              try simp [Region.binds] at hd
              refine ⟨by first | rfl | simp [Region.wanted, yielded, hd], ?_⟩
              exact yieldsA_load 23 (.tmp 54) rfl (w.heap.size + 1) (m * 4) hd (wm'.map b8) _ (LM2.out W hW.out) u_a4 rfl IM.out rfl
            · intro vals W hW hw hd
              try simp [Region.binds] at hd
              refine ⟨by first | rfl | simp [Region.wanted, yielded, hd], ?_⟩
              simp [go_sem, hd]
              exact Below.refl _ _
            · intro vals W hW hw hd
              try simp [Region.binds] at hd
              refine ⟨by first | rfl | simp [Region.wanted, yielded, hd], ?_⟩
              simp [go_sem, hd, wp_]
              exact Below.refl _ _
            · intro vals W hW hw hd
              try simp [Region.binds] at hd
              refine ⟨by first | rfl | simp [Region.wanted, yielded, hd], ?_⟩
              simp [go_sem, hd]
              exact Below.refl _ _
            · intro vals W hW hw hd
              try simp [Region.binds] at hd
              refine ⟨by first | rfl | simp [Region.wanted, yielded, hd], ?_⟩
              simp [go_sem, hd, p60]
              exact Below.refl _ _
            · intro vals W hW hw hd
              try simp [Region.binds] at hd
              refine ⟨by first | rfl | simp [Region.wanted, yielded, hd], ?_⟩
              exact yieldsA_load 23 (.tmp 59) rfl (w.heap.size + 1) (p * 4) hd (wp'.map b8) _ (LP2.out W hW.out) u_a4 rfl IP.out rfl
            · intro vals W hW hw hd
              try simp [Region.binds] at hd
              refine ⟨by first | rfl | simp [Region.wanted, yielded, hd], ?_⟩
              simp [go_sem, hd]
              exact Below.refl _ _
            · intro vals W hW hw hd
              try simp [Region.binds] at hd
              refine ⟨by first | rfl | simp [Region.wanted, yielded, hd], ?_⟩
              simp [go_sem, hd]
              exact Below.refl _ _
            · intro vals W hW hw hd
              try simp [Region.binds] at hd
              refine ⟨by first | rfl | simp [Region.wanted, yielded, hd], ?_⟩
              simp [go_sem, hd]
              exact (CH.out W).mono fun e w' ⟨he, hb⟩ => ⟨_, he, rfl, hb⟩
            · intro vals W hW hw hd
              try simp [Region.binds] at hd
              refine ⟨by first | rfl | simp [Region.wanted, yielded, hd], ?_⟩
              simp [go_sem, hd]
              exact (SM.out W).mono fun e w' ⟨he, hb⟩ => ⟨_, he, rfl, hb⟩
            · intro vals W hW hw hd
              try simp [Region.binds] at hd
              refine ⟨by first | rfl | simp [Region.wanted, yielded, hd], ?_⟩
              simp [go_sem, hd]
              exact Below.refl _ _
            · intro vals W hW hw hd
              try simp [Region.binds] at hd
              refine ⟨by first | rfl | simp [Region.wanted, yielded, hd], ?_⟩
              simp [go_sem, hd, i60]
              exact Below.refl _ _
          obtain ⟨f0, f1, f2, f3, f4, f5, f6, f7, f8, f9, f10, f11, f12, f13, f14, f15, f16, f17, _⟩ := hF
          simp only [MP.eq_p] at f0 f1 f2 f3 f4 f5 f6 f7 f8 f9 f10 f11 f12 f13 f14 f15 f16 f17
          rw [f0, f1, f2, f3, f4, f5, f6, f7, f8, f9, f10, f11, f12, f13, f14, f15, f16, f17]
          simp only [List.drop_succ_cons, List.drop_zero]
          have S0 : Hid (Blk w4 (w.heap.size + 1) (kC fl 14)) := Q0.out.up hb4.out Q0.out.lt
          have S1 : Hid (Blk w4 w.heap.size z0) := Q1.out.up hb4.out Q1.out.lt
          have S2 : Hid (Below w.heap.size w w4) := Q2.out.trans (hb4.out.mono Q2.out.size)
          have TT : Hid _ := (ST.out w4 S0.out).2
          clear f0 f1 f2 f3 f4 f5 f6 f7 f8 f9 f10 f11 f12 f13 f14 f15 f16 f17 hb4 hO Q0 Q1 Q2 LM2 LP2 IM IP CH SM
          go_wp2_with (refine wp_store_eq rfl 23 (.tmp 66) (.tmp 64) rfl (w.heap.size + 1) (i * 4) (nw.map b8) rfl rfl TT.out (info_n info_a4 nw NL.out) (one_b8 _) ?_)
          intro w9 hw9
          have V0 : Hid (Blk w9 (w.heap.size + 1) (kC (A.flat (W (m + 1))) 14)) := by rw [hw9.out]; exact (ST.out w4 S0.out).1
          have V1 : Hid (Blk w9 w.heap.size z0) := by rw [hw9.out]; exact S1.out.apart (by omega)
          have V2 : Hid (Below w.heap.size w w9) := by rw [hw9.out]; exact below_setCells _ _ _ S2.out (by omega)
          clear hw9 S0 S1 S2 TT ST
          go_wp2_with fail
          go_roundw
          case rel => exact ⟨m + 1, M1.out, by rw [show 8 + (m + 1) = i + 1 by have := HI.out; omega]; first | rfl | go_num, V0, V1, V2⟩
          case measure => have := M1.out; have := HI.out; simp [intOf]; omega
        · obtain rfl : m = 52 := by omega
          have i1 : ¬ (i : Int) < 60 := by omega
          have KO : Hid _ := kC_one (A.flat (W 52)) 14
          have KLn : Hid ((kC (A.flat (W 52)) 14).length = 241) := kC_length _ FL.out
          obtain ⟨kc, hkc⟩ : ∃ kc, kc = kC (A.flat (W 52)) 14 := ⟨_, rfl⟩
          rw [← hkc] at KO KLn P0 CT IK
          have HKC : Hid (kc = kC (A.flat (W 52)) 14) := hkc
          clear hkc
          clear hm hm1 hi FL WS WO WL CN
          go_wp2_with (refine wpList_load_mid rfl 26 (.tmp 5) rfl (w.heap.size + 1) 0 rfl kc _ P0.out.all UK.out.1 UK.out.2 IK.out ?_)
          refine Calls.mono CT.out ?_
          rintro e w2 ⟨rfl, hb2⟩
          have Q0 : Hid (Blk w2 (w.heap.size + 1) kc) := P0.out.up hb2 P0.out.lt
          have Q1 : Hid (Blk w2 w.heap.size z0) := P1.out.up hb2 P1.out.lt
          have Q2 : Hid (Below w.heap.size w w2) := P2.out.trans (hb2.mono P2.out.size)
          have TT : Hid (w2.there w.heap.size 0 kc.length) := Q1.out.there (by rw [KLn.out, ZL.out]; omega)
          clear hb2 P0 P1 P2 CT
          go_wp2_with (first | refine wpList_load_mid rfl 26 (.tmp 5) rfl (w.heap.size + 1) 0 rfl kc _ Q0.out.all UK.out.1 UK.out.2 IK.out ?_ | refine wp_store_eq rfl 26 (.tmp 2) (.tmp 67) rfl w.heap.size 0 kc rfl rfl TT.out IK.out KO.out ?_)
          intro w9 hw9
          go_wp2_with fail
          refine bodyPost_ret (v := .tuple #[.agg kc.toArray, .int .i64 0]) ?_ rfl ⟨by rw [HKC.out], ?_⟩
          · rw [hw9.out]
            exact axr_cell2 (b := w.heap.size) rfl rfl rfl (World.rangeAt_setCells_same _ _ _ _ TT.out) UK.out.1 UK.out.2 IK.out
          · rw [hw9.out]
            exact below_setCells _ _ _ Q2.out (Nat.le_refl _)
end Go.Proofs.Ytejabkmhpiabnaa
