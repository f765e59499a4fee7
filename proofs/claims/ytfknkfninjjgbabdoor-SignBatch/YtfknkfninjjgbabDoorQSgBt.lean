/- Package sign, as it landed: Batch. -/
import Derived.Test.YtfknkfninjjgbabDoorQYoToSgAlone
import Derived.LoopN
namespace Go.Proofs.YtfknkfninjjgbabDoor
open Go.RowKit
attribute [local go_sem] World.cell?_alloc_some cell_alloc2 cell_alloc3 cell_alloc4 frozen?_alloc_cells frozen_out
attribute [local simp] MP.eq_p
set_option linter.unusedSimpArgs false
theorem clm_one (x y : Nm) : Tryd.prog.built 67 [(1, Wv x y)] = some (cmR nO x y).toArray := by kernel_rfl
theorem wp_buildP {ops : Array Oper} {rest : List Oper} {o : Oper} {a : Act} {Q : Exit → Act → World → Prop} {w : World} (hgd : o.guard = none) (T : TypeId) (x : Operand) (ho : o.op = .build T #[(1, x)]) (u : Value) (cs : List Value) (hx : a.eval x = u) (hb : Tryd.prog.built T [(1, u)] = some cs.toArray)
    (h : wpList Tryd.prog ops Q rest (a.put o.dst (.agg cs.toArray)) w) : wpList Tryd.prog ops Q (o :: rest) a w := by
  refine wpList_plain hgd fun K hK => ?_
  have e : (Instr.build T ((#[(1, x)] : Array (Nat × Operand)).map fun x => (x.fst, a.eval x.snd))).run Tryd.prog w = .ok (.agg cs.toArray) w := run_build w T _ _ (by simpa [hx] using hb)
  unfold Oper.wp
  simp only [execOp, ho, Sem.run_bind, e, Result.andThen_ok, Sem.run_pure]
  exact hK _ _ h
theorem cfPl (args : Array Value) (W : World) : (callFunc 32 args).run Tryd.prog W = .ok (.enter 32 args) W := cf_is (fn := Tryd.f32) (by kernel_rfl) (by decide) (by kernel_rfl) args W
theorem yields_ixN {o : Oper} {a : Act} {w : World} (x y : Operand) (ho : o.op = .indexAddr 43 x y) {g q n d j : Nat} (hx : a.eval x = .slice (some ⟨g, q, none⟩) n d) (hy : a.eval y = .int .i64 (j : Int)) (hj : j < n) : YieldsP Tryd.prog o a w (MP.eq (.pointer (some ⟨g, q + j * 4, none⟩))).p :=
  yields_run (by
    have i1 : (j : Int) < (n : Int) := by omega
    have i0 : (0 : Int) ≤ (j : Int) := by omega
    generalize a.eval = ev at *
    unfold execOp
    simp [ho, hx, hy, go_sem, i1, i0, hj])
theorem nm_zero : nm 0 = nO := by
  unfold nm Nm.of
  congr 1
theorem By.one_cell {w : World} {v : Value} {xs : List Nat} (h : By w v xs) : v.oneCell' = true := by
  obtain ⟨_, _, rfl, _⟩ := h
  rfl
set_option maxRecDepth 20000 in
set_option maxHeartbeats 2000000 in
theorem sgBat_walk (l : List Sge) (ws : List Nm) (n : Nat) (hn : l.length = n) (hw : ws.length = n) (h20 : n ≤ 20) (a : Option Addr) (c : Nat) (b : Option Addr) (d : Nat) (le : ∀ e ∈ l, okE e) (lw : ∀ x ∈ ws, x.ok) (R : Nat) (hR : batN (ws.zip l) 0 Cv.zero = R) (zx zy : Nm) (hzx : Hid (zx = nm Cv.zero.1)) (hzy : Hid (zy = nm Cv.zero.2))
    (CZ : Hid (∀ w, Calls Tryd.prog 31 #[] w fun e w' => e = .returned (Wv zx zy) ∧ Below w.heap.size w w'))
    (RDC : Hid SgRdC)
    (w : World) (hv : Sds w (.slice a n c) l) (hu : Nms w (.slice b n d) ws) (hT : KTab w) :
    Calls Tryd.prog 15 #[.slice a n c, .slice b n d] w fun e w' => e = .returned (.int .i64 (R : Nat)) ∧ Below w.heap.size w w' := by
  have HT : Hid (KTab w) := hT
  have HN : Hid (l.length = n) := hn
  have HW : Hid (ws.length = n) := hw
  have LE : Hid (∀ e ∈ l, okE e) := le
  have LW : Hid (∀ x ∈ ws, x.ok) := lw
  have HR : Hid (batN (ws.zip l) 0 Cv.zero = R) := hR
  have HV : Hid (0 < l.length → ∃ g o, a = some ⟨g, o, none⟩ ∧ ∀ i e, l[i]? = some e → Sgd w g (o + i * 34) e) := by
    obtain ⟨a', c', e, h⟩ := hv
    cases e
    exact h
  have HU : Hid (0 < ws.length → ∃ g o, b = some ⟨g, o, none⟩ ∧ ∀ (i : Nat) x, ws[i]? = some x → w.rangeAt g (o + i * 4) (c4 x)) := by
    obtain ⟨a', c', e, h⟩ := hu
    cases e
    exact h
  have d1 : decide ((n : Int) > 20) = false := decide_eq_false (by omega)
  clear hT hn hw le lw hR hv hu
  go_enter Tryd.func15, Tryd.ntmps15
  have s0 : Hid (Kn w []) := (Kn.nil w)
  have b0 : Hid (Below w.heap.size w w) := (Below.refl _ _)
  go_wp2_with fail
  refine (CZ.out _).mono ?_
  rintro e w1 ⟨rfl, hb1⟩
  have s1 : Hid (Kn w1 []) := s0.out.up hb1
  have b1 : Hid (Below w.heap.size w w1) := b0.out.trans (hb1.mono b0.out.size)
  have z1 := b1.out.size
  clear hb1 s0 b0
  have s2x : Hid (Kn (w1.alloc (.cells #[Value.int IntKind.u64 0, Value.int IntKind.u64 0, Value.int IntKind.u64 0, Value.int IntKind.u64 0, Value.int IntKind.u64 0, Value.int IntKind.u64 0, Value.int IntKind.u64 0, Value.int IntKind.u64 0, Value.int IntKind.u64 0, Value.int IntKind.u64 0, Value.int IntKind.u64 0, Value.int IntKind.u64 0] 67)) [(w1.heap.size, cmZ)]) := s1.out.al cmZ 67 rfl
  have b2x : Hid (Below w.heap.size w (w1.alloc (.cells #[Value.int IntKind.u64 0, Value.int IntKind.u64 0, Value.int IntKind.u64 0, Value.int IntKind.u64 0, Value.int IntKind.u64 0, Value.int IntKind.u64 0, Value.int IntKind.u64 0, Value.int IntKind.u64 0, Value.int IntKind.u64 0, Value.int IntKind.u64 0, Value.int IntKind.u64 0, Value.int IntKind.u64 0] 67))) := b1.out.alloc b1.out.size _
  have g2 : w.heap.size ≤ w1.heap.size := b1.out.size
  have TT2 : Hid ((w1.alloc (.cells #[Value.int IntKind.u64 0, Value.int IntKind.u64 0, Value.int IntKind.u64 0, Value.int IntKind.u64 0, Value.int IntKind.u64 0, Value.int IntKind.u64 0, Value.int IntKind.u64 0, Value.int IntKind.u64 0, Value.int IntKind.u64 0, Value.int IntKind.u64 0, Value.int IntKind.u64 0, Value.int IntKind.u64 0] 67)).there (w1.heap.size) 0 (cmR (nO) (zx) (zy)).length) := Kn.there s2x.out 0 rfl (by rw [(cmR_length (nO) (zx) (zy)), cmZ_length])
  go_wp2_with (first | simp only [zero_clm] | refine wp_buildP rfl 67 _ rfl (Wv zx zy) (cmR nO zx zy) rfl (clm_one zx zy) ?_ | simp only [zero_clm] | refine I.wp_store_eq rfl 67 _ _ rfl (w1.heap.size) 0 (cmR (nO) (zx) (zy)) rfl rfl TT2.out (info_cmR (nO) (zx) (zy)) (cmR_one (nO) (zx) (zy)) ?_)
  intro w2 hw2
  try simp only [Act.put, List.setIfInBounds_toArray, List.set_cons_succ, List.set_cons_zero]
  have s2 : Hid (Kn w2 [(w1.heap.size, (cmR (nO) (zx) (zy)))]) := by rw [hw2.out]; exact Kn.put s2x.out (by rw [(cmR_length (nO) (zx) (zy)), cmZ_length])
  have b2 : Hid (Below w.heap.size w w2) := by rw [hw2.out]; exact I.below_setCells _ _ _ b2x.out g2
  have z2 := b2.out.size
  clear hw2 s2x b2x TT2 s1 b1
  go_wp2_with fail
  generalize w1.heap.size = kt at *
  go_loopw [22] (fun i wr => ∃ j s T, j ≤ n ∧ i = .int .i64 (j : Int) ∧ Hid (s < Cv.ord) ∧ Hid (Cv.On T) ∧ Hid (batN ((ws.zip l).drop j) s T = R) ∧ Hid (Kn wr [(kt, cmR (nm s) (nm T.1) (nm T.2))]) ∧ Hid (Below w.heap.size w wr)) (fun i _ => n - (intOf i).toNat)
  case atStart =>
    refine ⟨0, 0, Cv.zero, by omega, rfl, (show 0 < Cv.ord from ord_pos), Cv.zero_on, (by rw [List.drop_zero]; exact HR.out), ?_, b2⟩
    rw [nm_zero, ← hzx.out, ← hzy.out]
    exact s2
  case round =>
    clear s2 b2
    obtain ⟨j, s, T, hj, rfl, hs, hTo, hRj, sk, bk⟩ := hrel
    by_cases hlt : j < n
    · have i1 : (j : Int) < (n : Int) := by omega
      have i0 : (0 : Int) ≤ (j : Int) := by omega
      obtain ⟨g, o, rfl, hg⟩ := HV.out (by rw [HN.out]; omega)
      obtain ⟨g', o', rfl, hg'⟩ := HU.out (by rw [HW.out]; omega)
      have jl : j < l.length := by rw [HN.out]; exact hlt
      have jw : j < ws.length := by rw [HW.out]; exact hlt
      obtain ⟨⟨A, p, q⟩, he⟩ : ∃ e, l[j]? = some e := ⟨_, List.getElem?_eq_getElem jl⟩
      obtain ⟨k, hk⟩ : ∃ k, ws[j]? = some k := ⟨_, List.getElem?_eq_getElem jw⟩
      have ok : Hid (okE (A, p, q)) := LE.out _ (List.mem_of_getElem? he)
      have okk : Hid k.ok := LW.out _ (List.mem_of_getElem? hk)
      have DR : Hid ((ws.zip l).drop j = (k, A, p, q) :: (ws.zip l).drop (j + 1)) := by
        have hz : (ws.zip l)[j]? = some (k, A, p, q) := by rw [List.getElem?_zip_eq_some]; exact ⟨hk, he⟩
        obtain ⟨hlt', hz'⟩ := List.getElem?_eq_some_iff.1 hz
        show _ = _
        rw [List.drop_eq_getElem_cons hlt', hz']
      obtain ⟨vp, vq, r1, y1, y2⟩ := hg j _ he
      have R1 : Hid (wr.rangeAt g (o + j * 34) (sdR A vp vq)) := rng_up r1 (by rw [sdR_length]; decide) bk.out (Nat.le_refl _)
      have R2 : Hid (w.rangeAt g' (o' + j * 4) (c4 k)) := hg' j k hk
      have Y1 : Hid (By w vp p) := y1
      have Y2 : Hid (By w vq q) := y2
      have o1 := y1.one_cell
      have o2 := y2.one_cell
      have s5 : Hid (Kn wr [(kt, cmR (nm s) (nm T.1) (nm T.2))]) := sk
      have b5 : Hid (Below w.heap.size w wr) := bk
      clear r1 y1 y2 hg hg' he hk sk bk jl jw
      have s6x : Hid (Kn (wr.alloc (.cells #[Value.int IntKind.u8 0, Value.int IntKind.u8 0, Value.int IntKind.u8 0, Value.int IntKind.u8 0, Value.int IntKind.u8 0, Value.int IntKind.u8 0, Value.int IntKind.u8 0, Value.int IntKind.u8 0, Value.int IntKind.u8 0, Value.int IntKind.u8 0, Value.int IntKind.u8 0, Value.int IntKind.u8 0, Value.int IntKind.u8 0, Value.int IntKind.u8 0, Value.int IntKind.u8 0, Value.int IntKind.u8 0, Value.int IntKind.u8 0, Value.int IntKind.u8 0, Value.int IntKind.u8 0, Value.int IntKind.u8 0, Value.int IntKind.u8 0, Value.int IntKind.u8 0, Value.int IntKind.u8 0, Value.int IntKind.u8 0, Value.int IntKind.u8 0, Value.int IntKind.u8 0, Value.int IntKind.u8 0, Value.int IntKind.u8 0, Value.int IntKind.u8 0, Value.int IntKind.u8 0, Value.int IntKind.u8 0, Value.int IntKind.u8 0, Value.slice none 0 0, Value.slice none 0 0] 49)) [(wr.heap.size, sdZ), (kt, (cmR (nm s) (nm T.1) (nm T.2)))]) := s5.out.al sdZ 49 rfl
      have b6x : Hid (Below w.heap.size w (wr.alloc (.cells #[Value.int IntKind.u8 0, Value.int IntKind.u8 0, Value.int IntKind.u8 0, Value.int IntKind.u8 0, Value.int IntKind.u8 0, Value.int IntKind.u8 0, Value.int IntKind.u8 0, Value.int IntKind.u8 0, Value.int IntKind.u8 0, Value.int IntKind.u8 0, Value.int IntKind.u8 0, Value.int IntKind.u8 0, Value.int IntKind.u8 0, Value.int IntKind.u8 0, Value.int IntKind.u8 0, Value.int IntKind.u8 0, Value.int IntKind.u8 0, Value.int IntKind.u8 0, Value.int IntKind.u8 0, Value.int IntKind.u8 0, Value.int IntKind.u8 0, Value.int IntKind.u8 0, Value.int IntKind.u8 0, Value.int IntKind.u8 0, Value.int IntKind.u8 0, Value.int IntKind.u8 0, Value.int IntKind.u8 0, Value.int IntKind.u8 0, Value.int IntKind.u8 0, Value.int IntKind.u8 0, Value.int IntKind.u8 0, Value.int IntKind.u8 0, Value.slice none 0 0, Value.slice none 0 0] 49))) := b5.out.alloc b5.out.size _
      have g6 : w.heap.size ≤ wr.heap.size := b5.out.size
      have TT6 : Hid ((wr.alloc (.cells #[Value.int IntKind.u8 0, Value.int IntKind.u8 0, Value.int IntKind.u8 0, Value.int IntKind.u8 0, Value.int IntKind.u8 0, Value.int IntKind.u8 0, Value.int IntKind.u8 0, Value.int IntKind.u8 0, Value.int IntKind.u8 0, Value.int IntKind.u8 0, Value.int IntKind.u8 0, Value.int IntKind.u8 0, Value.int IntKind.u8 0, Value.int IntKind.u8 0, Value.int IntKind.u8 0, Value.int IntKind.u8 0, Value.int IntKind.u8 0, Value.int IntKind.u8 0, Value.int IntKind.u8 0, Value.int IntKind.u8 0, Value.int IntKind.u8 0, Value.int IntKind.u8 0, Value.int IntKind.u8 0, Value.int IntKind.u8 0, Value.int IntKind.u8 0, Value.int IntKind.u8 0, Value.int IntKind.u8 0, Value.int IntKind.u8 0, Value.int IntKind.u8 0, Value.int IntKind.u8 0, Value.int IntKind.u8 0, Value.int IntKind.u8 0, Value.slice none 0 0, Value.slice none 0 0] 49)).there (wr.heap.size) 0 (sdR (A) (vp) (vq)).length) := Kn.there s6x.out 0 rfl (by rw [(sdR_length (A) (vp) (vq)), sdZ_length])
      go_wp2_with (first | simp only [zero_signed] | refine wp_ldW rfl 49 _ rfl g (o + j * 34) rfl (sdR A vp vq) _ R1.out Tryd.underlying49 rfl (info_sdR A vp vq) ?_ | simp only [zero_signed] | refine I.wp_store_eq rfl 49 _ _ rfl (wr.heap.size) 0 (sdR (A) (vp) (vq)) rfl rfl TT6.out (info_sdR (A) (vp) (vq)) (sdR_one (by assumption) (by assumption)) ?_)
      intro w6 hw6
      try simp only [Act.put, List.setIfInBounds_toArray, List.set_cons_succ, List.set_cons_zero]
      have s6 : Hid (Kn w6 [(wr.heap.size, (sdR (A) (vp) (vq))), (kt, (cmR (nm s) (nm T.1) (nm T.2)))]) := by rw [hw6.out]; exact Kn.put s6x.out (by rw [(sdR_length (A) (vp) (vq)), sdZ_length])
      have b6 : Hid (Below w.heap.size w w6) := by rw [hw6.out]; exact I.below_setCells _ _ _ b6x.out g6
      have z6 := b6.out.size
      clear hw6 s6x b6x TT6 s5 b5
      have c32 := Kn.dng1 s6.out 0 rfl
      have c33 := Kn.dng2 s6.out 0 rfl
      go_wp2_with (first | refine wp_ldW rfl 49 _ rfl (wr.heap.size) 0 rfl (sdR (A) (vp) (vq)) _ (Kn.rng s6.out 0 rfl) Tryd.underlying49 rfl (info_sdR (A) (vp) (vq)) ?_ | refine wp_ldW rfl 22 _ rfl (wr.heap.size) 0 rfl (bR (A)) _ (Kn.dng0 s6.out 0 rfl) Tryd.underlying22 rfl (info_bR (A)) ?_)
      clear c32 c33
      cases hrd : rdN A p q with
      | error e0 =>
        have RE : Hid (∀ w, By w vp p → By w vq q → KTab w → Calls Tryd.prog 25 #[bV A, vp, vq] w fun e w' => e = .returned (.tuple #[cmV nO nO nO, .int .i64 (e0 : Int)]) ∧ Below w.heap.size w w') := fun w h1 h2 h3 => by
          have := RDC.out A ok.out.1 p q ok.out.2.1 ok.out.2.2 vp vq w h1 h2 h3
          rw [hrd] at this
          exact this
        have HE : Hid (e0 = R) := by
          have := hRj.out
          rw [DR.out, batN, hrd] at this
          exact this
        have n1 : ((e0 : Int) != 0) = true := by have := (rd_no hrd).out; simpa using this
        clear hrd
        refine (RE.out _ (Y1.out.up b6.out (Nat.le_refl _)) (Y2.out.up b6.out (Nat.le_refl _)) (HT.out.up b6.out HT.out.pos)).mono ?_
        rintro e w7 ⟨rfl, hb7⟩
        have s7 : Hid (Kn w7 [(wr.heap.size, (sdR (A) (vp) (vq))), (kt, (cmR (nm s) (nm T.1) (nm T.2)))]) := s6.out.up hb7
        have b7 : Hid (Below w.heap.size w w7) := b6.out.trans (hb7.mono b6.out.size)
        have z7 := b7.out.size
        clear hb7 s6 b6
        have s8x : Hid (Kn (w7.alloc (.cells #[Value.int IntKind.u64 0, Value.int IntKind.u64 0, Value.int IntKind.u64 0, Value.int IntKind.u64 0, Value.int IntKind.u64 0, Value.int IntKind.u64 0, Value.int IntKind.u64 0, Value.int IntKind.u64 0, Value.int IntKind.u64 0, Value.int IntKind.u64 0, Value.int IntKind.u64 0, Value.int IntKind.u64 0] 67)) [(w7.heap.size, cmZ), (wr.heap.size, (sdR (A) (vp) (vq))), (kt, (cmR (nm s) (nm T.1) (nm T.2)))]) := s7.out.al cmZ 67 rfl
        have b8x : Hid (Below w.heap.size w (w7.alloc (.cells #[Value.int IntKind.u64 0, Value.int IntKind.u64 0, Value.int IntKind.u64 0, Value.int IntKind.u64 0, Value.int IntKind.u64 0, Value.int IntKind.u64 0, Value.int IntKind.u64 0, Value.int IntKind.u64 0, Value.int IntKind.u64 0, Value.int IntKind.u64 0, Value.int IntKind.u64 0, Value.int IntKind.u64 0] 67))) := b7.out.alloc b7.out.size _
        have g8 : w.heap.size ≤ w7.heap.size := b7.out.size
        have TT8 : Hid ((w7.alloc (.cells #[Value.int IntKind.u64 0, Value.int IntKind.u64 0, Value.int IntKind.u64 0, Value.int IntKind.u64 0, Value.int IntKind.u64 0, Value.int IntKind.u64 0, Value.int IntKind.u64 0, Value.int IntKind.u64 0, Value.int IntKind.u64 0, Value.int IntKind.u64 0, Value.int IntKind.u64 0, Value.int IntKind.u64 0] 67)).there (w7.heap.size) 0 (cmR (nO) (nO) (nO)).length) := Kn.there s8x.out 0 rfl (by rw [(cmR_length (nO) (nO) (nO)), cmZ_length])
        go_wp2_with (first | simp only [zero_clm] | refine I.wp_store_eq rfl 67 _ _ rfl (w7.heap.size) 0 (cmR (nO) (nO) (nO)) rfl rfl TT8.out (info_cmR (nO) (nO) (nO)) (cmR_one (nO) (nO) (nO)) ?_)
        intro w8 hw8
        try simp only [Act.put, List.setIfInBounds_toArray, List.set_cons_succ, List.set_cons_zero]
        have s8 : Hid (Kn w8 [(w7.heap.size, (cmR (nO) (nO) (nO))), (wr.heap.size, (sdR (A) (vp) (vq))), (kt, (cmR (nm s) (nm T.1) (nm T.2)))]) := by rw [hw8.out]; exact Kn.put s8x.out (by rw [(cmR_length (nO) (nO) (nO)), cmZ_length])
        have b8 : Hid (Below w.heap.size w w8) := by rw [hw8.out]; exact I.below_setCells _ _ _ b8x.out g8
        have z8 := b8.out.size
        clear hw8 s8x b8x TT8 s7 b7
        go_wp2_with fail
        rw [HE.out]
        go_ret
        exact ⟨rfl, b8.out⟩
      | ok tU =>
        obtain ⟨t, U⟩ := tU
        obtain ⟨ht, hU⟩ := rd_ok ok.out.1 ok.out.2.2 hrd
        have RE : Hid (∀ w, By w vp p → By w vq q → KTab w → Calls Tryd.prog 25 #[bV A, vp, vq] w fun e w' => e = .returned (.tuple #[cmV (nm t) (nm U.1) (nm U.2), .int .i64 0]) ∧ Below w.heap.size w w') := fun w h1 h2 h3 => by
          have := RDC.out A ok.out.1 p q ok.out.2.1 ok.out.2.2 vp vq w h1 h2 h3
          rw [hrd] at this
          exact this
        have HE : Hid (batN ((ws.zip l).drop (j + 1)) ((s + k.nat * t % Cv.ord) % Cv.ord) (Cv.add T (Cv.times k.nat U)) = R) := by
          have := hRj.out
          rw [DR.out, batN, hrd] at this
          exact this
        have PL : Hid (∀ w, Calls Tryd.prog 32 #[cmV (nm s) (nm T.1) (nm T.2), cmV (nm t) (nm U.1) (nm U.2), N k] w fun e w' => e = .returned (cmV (nm ((s + k.nat * t % Cv.ord) % Cv.ord)) (nm (Cv.add T (Cv.times k.nat U)).1) (nm (Cv.add T (Cv.times k.nat U)).2)) ∧ Below w.heap.size w w') := fun w => sgPlus_fun (Nat.lt_trans hs.out ord_lt) (Nat.lt_trans ht ord_lt) hTo.out hU k okk.out w
        have S1 : Hid ((s + k.nat * t % Cv.ord) % Cv.ord < Cv.ord) := Nat.mod_lt _ ord_pos
        have T1 : Hid (Cv.On (Cv.add T (Cv.times k.nat U))) := Cv.closed hTo.out (Cv.times_on hU _)
        generalize (s + k.nat * t % Cv.ord) % Cv.ord = s' at *
        generalize Cv.add T (Cv.times k.nat U) = T' at *
        clear hrd ht hU
        refine (RE.out _ (Y1.out.up b6.out (Nat.le_refl _)) (Y2.out.up b6.out (Nat.le_refl _)) (HT.out.up b6.out HT.out.pos)).mono ?_
        rintro e w7 ⟨rfl, hb7⟩
        have s7 : Hid (Kn w7 [(wr.heap.size, (sdR (A) (vp) (vq))), (kt, (cmR (nm s) (nm T.1) (nm T.2)))]) := s6.out.up hb7
        have b7 : Hid (Below w.heap.size w w7) := b6.out.trans (hb7.mono b6.out.size)
        have z7 := b7.out.size
        clear hb7 s6 b6
        have s8x : Hid (Kn (w7.alloc (.cells #[Value.int IntKind.u64 0, Value.int IntKind.u64 0, Value.int IntKind.u64 0, Value.int IntKind.u64 0, Value.int IntKind.u64 0, Value.int IntKind.u64 0, Value.int IntKind.u64 0, Value.int IntKind.u64 0, Value.int IntKind.u64 0, Value.int IntKind.u64 0, Value.int IntKind.u64 0, Value.int IntKind.u64 0] 67)) [(w7.heap.size, cmZ), (wr.heap.size, (sdR (A) (vp) (vq))), (kt, (cmR (nm s) (nm T.1) (nm T.2)))]) := s7.out.al cmZ 67 rfl
        have b8x : Hid (Below w.heap.size w (w7.alloc (.cells #[Value.int IntKind.u64 0, Value.int IntKind.u64 0, Value.int IntKind.u64 0, Value.int IntKind.u64 0, Value.int IntKind.u64 0, Value.int IntKind.u64 0, Value.int IntKind.u64 0, Value.int IntKind.u64 0, Value.int IntKind.u64 0, Value.int IntKind.u64 0, Value.int IntKind.u64 0, Value.int IntKind.u64 0] 67))) := b7.out.alloc b7.out.size _
        have g8 : w.heap.size ≤ w7.heap.size := b7.out.size
        have TT8 : Hid ((w7.alloc (.cells #[Value.int IntKind.u64 0, Value.int IntKind.u64 0, Value.int IntKind.u64 0, Value.int IntKind.u64 0, Value.int IntKind.u64 0, Value.int IntKind.u64 0, Value.int IntKind.u64 0, Value.int IntKind.u64 0, Value.int IntKind.u64 0, Value.int IntKind.u64 0, Value.int IntKind.u64 0, Value.int IntKind.u64 0] 67)).there (w7.heap.size) 0 (cmR (nm t) (nm U.1) (nm U.2)).length) := Kn.there s8x.out 0 rfl (by rw [(cmR_length (nm t) (nm U.1) (nm U.2)), cmZ_length])
        go_wp2_with (first | simp only [zero_clm] | refine I.wp_store_eq rfl 67 _ _ rfl (w7.heap.size) 0 (cmR (nm t) (nm U.1) (nm U.2)) rfl rfl TT8.out (info_cmR (nm t) (nm U.1) (nm U.2)) (cmR_one (nm t) (nm U.1) (nm U.2)) ?_)
        intro w8 hw8
        try simp only [Act.put, List.setIfInBounds_toArray, List.set_cons_succ, List.set_cons_zero]
        have s8 : Hid (Kn w8 [(w7.heap.size, (cmR (nm t) (nm U.1) (nm U.2))), (wr.heap.size, (sdR (A) (vp) (vq))), (kt, (cmR (nm s) (nm T.1) (nm T.2)))]) := by rw [hw8.out]; exact Kn.put s8x.out (by rw [(cmR_length (nm t) (nm U.1) (nm U.2)), cmZ_length])
        have b8 : Hid (Below w.heap.size w w8) := by rw [hw8.out]; exact I.below_setCells _ _ _ b8x.out g8
        have z8 := b8.out.size
        clear hw8 s8x b8x TT8 s7 b7
        go_wp2_with fail
        have R3 : Hid (∀ W, Below w8.heap.size w8 W → W.rangeAt g' (o' + j * 4) (c4 k)) := fun W hW => rng_up R2.out (by simp) (b8.out.trans (hW.mono b8.out.size)) (Nat.le_refl _)
        have G : Hid _ := s8
        refine wp_region_monoSE 7 [MP.eq (cmV (nm s) (nm T.1) (nm T.2)), MP.eq (cmV (nm t) (nm U.1) (nm U.2)), MP.eq (.slice (some ⟨g', o', none⟩) n d), MP.eq (.int .i64 (j : Int)), MP.eq (.pointer (some ⟨g', o' + j * 4, none⟩)), MP.eq (N k), MP.eq (cmV (nm s') (nm T'.1) (nm T'.2))] (by kernel_rfl) (by kernel_rfl) rfl (by decide) (by kernel_rfl) ?_
        apply Exists.intro
        refine ⟨fun vals => ?_, ?_, fun vals9 w9 hb9 hF hO => ?_⟩
        · simp only [putsV, dstL, List.length_cons, List.length_nil, Nat.zero_add, Nat.reduceAdd, List.getElem?_cons_zero, List.getElem?_cons_succ, Option.bind_some, Act.put, List.setIfInBounds_toArray, List.set_cons_succ, List.set_cons_zero]
          rfl
        · refine ⟨?_, ?_, ?_, ?_, ?_, ?_, ?_, trivial⟩
          · intro vals W hW hw hd
            try simp [Region.binds] at hd
            refine ⟨by first | rfl | simp [Region.wanted, yielded, hd], ?_⟩
            exact yields_ldR 67 (.tmp 5) rfl kt 0 rfl (cmR (nm s) (nm T.1) (nm T.2)) _ (Kn.rng (G.out.up hW.out) 2 rfl) Tryd.underlying67 rfl (info_cmR _ _ _)
          · intro vals W hW hw hd
            try simp [Region.binds] at hd
            refine ⟨by first | rfl | simp [Region.wanted, yielded, hd], ?_⟩
            exact yields_ldR 67 (.tmp 8) rfl w7.heap.size 0 rfl (cmR (nm t) (nm U.1) (nm U.2)) _ (Kn.rng (G.out.up hW.out) 0 rfl) Tryd.underlying67 rfl (info_cmR _ _ _)
          · intro vals W hW hw hd
            try simp [Region.binds] at hd
            refine ⟨by first | rfl | simp [Region.wanted, yielded, hd], ?_⟩
            exact yields_mv (.tmp 1) rfl rfl
          · intro vals W hW hw hd
            try simp [Region.binds] at hd
            refine ⟨by first | rfl | simp [Region.wanted, yielded, hd], ?_⟩
            exact yields_mv (.tmp 6) rfl rfl
          · intro vals W hW hw hd
            try simp [Region.binds] at hd
            refine ⟨by first | rfl | simp [Region.wanted, yielded, hd], ?_⟩
            exact yields_ixN (.tmp 42) (.tmp 43) rfl (by first | exact hd | exact hd.1 | exact hd.2 | exact hd.2.1 | exact hd.2.2 | exact hd.2.2.1 | exact hd.2.2.2 | exact hd.2.2.2.1 | exact hd.2.2.2.2) (by first | exact hd | exact hd.1 | exact hd.2 | exact hd.2.1 | exact hd.2.2 | exact hd.2.2.1 | exact hd.2.2.2 | exact hd.2.2.2.1 | exact hd.2.2.2.2) hlt
          · intro vals W hW hw hd
            try simp [Region.binds] at hd
            refine ⟨by first | rfl | simp [Region.wanted, yielded, hd], ?_⟩
            exact yields_ldR 26 (.tmp 44) rfl g' (o' + j * 4) (by first | exact hd | exact hd.1 | exact hd.2 | exact hd.2.1 | exact hd.2.2 | exact hd.2.2.1 | exact hd.2.2.2 | exact hd.2.2.2.1 | exact hd.2.2.2.2) (c4 k) _ (R3.out W hW.out) Tryd.underlying26 rfl (info_c4 k)
          · intro vals W hW hw hd
            try simp [Region.binds] at hd
            refine ⟨by first | rfl | simp [Region.wanted, yielded, hd], ?_⟩
            exact yields_call3 cfPl (.tmp 40) (.tmp 41) (.tmp 45) _ rfl _ _ (N k) (by first | exact hd | exact hd.1 | exact hd.2 | exact hd.2.1 | exact hd.2.2 | exact hd.2.2.1 | exact hd.2.2.2 | exact hd.2.2.2.1 | exact hd.2.2.2.2) (by first | exact hd | exact hd.1 | exact hd.2 | exact hd.2.1 | exact hd.2.2 | exact hd.2.2.1 | exact hd.2.2.2 | exact hd.2.2.2.1 | exact hd.2.2.2.2) (by first | exact hd | exact hd.1 | exact hd.2 | exact hd.2.1 | exact hd.2.2 | exact hd.2.2.1 | exact hd.2.2.2 | exact hd.2.2.2.1 | exact hd.2.2.2.2) ((PL.out W).mono fun e w' ⟨he, hb⟩ => ⟨_, he, rfl, hb⟩)
        obtain ⟨f0, f1, f2, f3, f4, f5, f6, _⟩ := hF
        simp only [MP.eq_p] at f0 f1 f2 f3 f4 f5 f6
        rw [f6]
        simp only [List.drop_succ_cons, List.drop_zero]
        have s9 : Hid (Kn w9 [(w7.heap.size, cmR (nm t) (nm U.1) (nm U.2)), (wr.heap.size, sdR A vp vq), (kt, cmR (nm s) (nm T.1) (nm T.2))]) := s8.out.up hb9.out
        have b9 : Hid (Below w.heap.size w w9) := b8.out.trans (hb9.out.mono b8.out.size)
        clear f0 f1 f2 f3 f4 f5 f6 hO hb9 s8 b8 G R3
        have s10x : Hid (Kn w9 [(kt, (cmR (nm s) (nm T.1) (nm T.2))), (w7.heap.size, (cmR (nm t) (nm U.1) (nm U.2))), (wr.heap.size, (sdR (A) (vp) (vq)))]) := s9.out.front 2 rfl
        have b10x : Hid (Below w.heap.size w w9) := b9.out
        have TT10 : Hid (w9.there kt 0 (cmR (nm s') (nm T'.1) (nm T'.2)).length) := Kn.there s10x.out 0 rfl (by rw [(cmR_length (nm s') (nm T'.1) (nm T'.2)), (cmR_length (nm s) (nm T.1) (nm T.2))])
        go_wp2_with (first | refine I.wp_store_eq rfl 67 _ _ rfl kt 0 (cmR (nm s') (nm T'.1) (nm T'.2)) rfl rfl TT10.out (info_cmR (nm s') (nm T'.1) (nm T'.2)) (cmR_one (nm s') (nm T'.1) (nm T'.2)) ?_)
        intro w10 hw10
        try simp only [Act.put, List.setIfInBounds_toArray, List.set_cons_succ, List.set_cons_zero]
        have s10 : Hid (Kn w10 [(kt, (cmR (nm s') (nm T'.1) (nm T'.2))), (w7.heap.size, (cmR (nm t) (nm U.1) (nm U.2))), (wr.heap.size, (sdR (A) (vp) (vq)))]) := by rw [hw10.out]; exact Kn.put s10x.out (by rw [(cmR_length (nm s') (nm T'.1) (nm T'.2)), (cmR_length (nm s) (nm T.1) (nm T.2))])
        have b10 : Hid (Below w.heap.size w w10) := by rw [hw10.out]; exact I.below_setCells _ _ _ b10x.out (by omega)
        have z10 := b10.out.size
        clear hw10 s10x b10x TT10 s9 b9
        go_wp2_with fail
        go_roundw
        case rel =>
          refine ⟨j + 1, s', T', by omega, by go_num, S1, T1, HE, ?_, b10⟩
          exact (s10.out.drop 2).drop 1
        case measure => simp [intOf]; omega
    · have i1 : ¬ (j : Int) < (n : Int) := by omega
      obtain rfl : j = n := by omega
      have JG : Hid (∀ w, Calls Tryd.prog 26 #[cmV (nm s) (nm T.1) (nm T.2)] w fun r w' => r = .returned (.int .i64 (R : Int)) ∧ Below w.heap.size w w') := fun w => by
        have h1 := hRj.out
        rw [List.drop_of_length_le (by rw [List.length_zip, HN.out, HW.out, Nat.min_self]; exact Nat.le_refl _), batN] at h1
        have := sgJudge_fun s (Nat.lt_trans hs.out ord_lt) T hTo.out w
        rw [← h1]
        refine this.mono ?_
        rintro e w' ⟨rfl, hb⟩
        refine ⟨?_, hb⟩
        split <;> rfl
      have s5 : Hid (Kn wr [(kt, cmR (nm s) (nm T.1) (nm T.2))]) := sk
      have b5 : Hid (Below w.heap.size w wr) := bk
      clear sk bk
      go_wp2_with (first | refine wp_ldW rfl 67 _ rfl kt 0 rfl (cmR (nm s) (nm T.1) (nm T.2)) _ (Kn.rng s5.out 0 rfl) Tryd.underlying67 rfl (info_cmR (nm s) (nm T.1) (nm T.2)) ?_ | refine wp_ldW rfl 26 _ rfl kt 0 rfl [Value.int IntKind.u64 (nm s).a, Value.int IntKind.u64 (nm s).b, Value.int IntKind.u64 (nm s).c, Value.int IntKind.u64 (nm s).d] _ (Kn.cng0 s5.out 0 rfl) Tryd.underlying26 rfl (info_c4 (nm s)) ?_ | refine wp_ldW rfl 34 _ rfl kt 4 rfl [Value.int IntKind.u64 (nm T.1).a, Value.int IntKind.u64 (nm T.1).b, Value.int IntKind.u64 (nm T.1).c, Value.int IntKind.u64 (nm T.1).d, Value.int IntKind.u64 (nm T.2).a, Value.int IntKind.u64 (nm T.2).b, Value.int IntKind.u64 (nm T.2).c, Value.int IntKind.u64 (nm T.2).d] _ (Kn.cng1 s5.out 0 rfl) Tryd.underlying34 rfl (info_c8 (nm T.1) (nm T.2)) ?_)
      refine (JG.out _).mono ?_
      rintro e w6 ⟨rfl, hb6⟩
      have s6 : Hid (Kn w6 [(kt, (cmR (nm s) (nm T.1) (nm T.2)))]) := s5.out.up hb6
      have b6 : Hid (Below w.heap.size w w6) := b5.out.trans (hb6.mono b5.out.size)
      have z6 := b6.out.size
      clear hb6 s5 b5
      go_wp2_with fail
      go_ret
      exact ⟨rfl, b6.out⟩
theorem sgBat_large (a : Option Addr) (n c : Nat) (hn : 20 < n) (u : Value) (w : World) :
    Calls Tryd.prog 15 #[.slice a n c, u] w fun e w' => e = .returned (.int .i64 2) ∧ Below w.heap.size w w' := by
  have d1 : decide ((n : Int) > 20) = true := decide_eq_true (by omega)
  clear hn
  go_enter Tryd.func15, Tryd.ntmps15
  have s0 : Hid (Kn w []) := (Kn.nil w)
  have b0 : Hid (Below w.heap.size w w) := (Below.refl _ _)
  go_wp2_with fail
  go_ret
  exact ⟨rfl, b0.out⟩
theorem sgBat_arg (a b : Option Addr) (n c m d : Nat) (hn : n ≤ 20) (hm : m ≠ n) (w : World) :
    Calls Tryd.prog 15 #[.slice a n c, .slice b m d] w fun e w' => e = .returned (.int .i64 1) ∧ Below w.heap.size w w' := by
  have d1 : decide ((n : Int) > 20) = false := decide_eq_false (by omega)
  have d2 : ((m : Int) != (n : Int)) = true := by simp; omega
  clear hn hm
  go_enter Tryd.func15, Tryd.ntmps15
  have s0 : Hid (Kn w []) := (Kn.nil w)
  have b0 : Hid (Below w.heap.size w w) := (Below.refl _ _)
  go_wp2_with fail
  go_ret
  exact ⟨rfl, b0.out⟩
theorem sgBatC : SgBatC := fun l ws le lw v u w hv hu hT => by
  obtain ⟨a, c, rfl, hv'⟩ := id hv
  obtain ⟨b, d, rfl, hu'⟩ := id hu
  unfold bchN
  by_cases h20 : 20 < l.length
  · rw [if_pos h20]
    exact sgBat_large a _ c h20 _ w
  · rw [if_neg h20]
    by_cases hm : ws.length = l.length
    · rw [if_neg (by omega)]
      rw [hm] at hu ⊢
      exact sgBat_walk l ws l.length rfl hm (by omega) a c b d le lw _ rfl _ _ rfl rfl (fun w => cZeroC w) sgRdC w hv hu hT
    · rw [if_pos hm]
      exact sgBat_arg a b _ c _ d (by omega) hm w
end Go.Proofs.YtfknkfninjjgbabDoor
