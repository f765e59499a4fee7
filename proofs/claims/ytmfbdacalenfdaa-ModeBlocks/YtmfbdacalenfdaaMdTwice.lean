/- ModeTwice out of the contracts of packages aes and mode. -/
import Derived.Test.YtmfbdacalenfdaaMdC
import Derived.Test.YtmfbdacalenfdaaHEq
import Derived.Test.YtmfbdacalenfdaaBsMk
namespace Go.Proofs.Ytmfbdacalenfdaa
open Go.RowKit
set_option linter.unusedSimpArgs false
attribute [local go_sem] YieldsP execOp
attribute [local simp] MP.eq_p
/-- make of bytes in a drawn region. -/
theorem yields_mkB {o : Oper} {a : Act} {w : World} (l c : Operand) (ho : o.op = .makeSlice 22 l c) (n : Nat) (hl : a.eval l = .int .i64 (n : Int)) (hc : a.eval c = .int .i64 (n : Int)) (hn : n ≤ 281474976710656) : YieldsP Try.prog o a w (MP.byM (List.replicate n 0)).p := by
  obtain ⟨i0, hi, hz0, hz1, hz2⟩ := info_parts Try.iU8
  obtain ⟨w', hrun, r1, r2⟩ := run_make_full (P := Try.prog) w w.heap.size 22 5 i0 (.int .u8 0) 1 Try.uBytes hi hz0 hz1 .i64 .i64 n (by rw [hz2]; omega) (by unfold maxLen; omega) (Nat.le_refl _)
  have e : (execOp a.eval o).run Try.prog w = .ok (.value (.slice (some ⟨w.heap.size, 0, none⟩) n n)) w' := by
    unfold execOp
    rw [ho]
    show (Instr.makeSlice 22 (a.eval l) (a.eval c) >>= fun v => pure (Next.value v)).run Try.prog w = _
    rw [hl, hc, Sem.run_bind, hrun]
    rfl
  unfold YieldsP
  rw [e]
  refine ⟨?_, Below.grown (Below.refl _ _) r2 (Nat.le_refl _) (fun k hk => by cases hk)⟩
  have ho : Ob w' w.heap.size (.slice (some ⟨w.heap.size, 0, none⟩) n n) (List.replicate n 0) := by
    unfold Ob
    rw [← made_zerosB, List.length_replicate]
    exact r1
  exact ho.by
theorem By.at {w : World} {a : Option Addr} {n c : Nat} {xs : List Nat} (h : By w (.slice a n c) xs) {i : Nat} (hi : i < xs.length) : ∃ b o, a = some ⟨b, o, none⟩ ∧ w.cell? ⟨b, o + i, none⟩ = some (b8 (xs.getD i 0)) := by
  obtain ⟨a', c', e, _, _, hcell⟩ := h
  cases e
  obtain ⟨b, o, e, hc⟩ := hcell (by omega)
  exact ⟨b, o, e, hc i hi⟩
set_option maxRecDepth 20000 in
set_option maxHeartbeats 1000000 in
theorem modeTwice_of {Tb : World → Prop} {zk : List Value} {Ky : World → List Value → List Nat → Prop} (C : AesC Tb zk Ky) (M : StreamC Tb Ky) (v : Value) (key : List Nat) (lk : ∀ x ∈ key, x < 256) (iv : List Nat) (hi : A.ok 16 iv) (pl : Nat) (hpl : pl < 18446744073709551616) (u : Value) (p : List Nat) (lp : ∀ x ∈ p, x < 256) (zp : p.length ≤ 140737488351232) (w : World) (ht : Tb w) (hk : By w v key) (hu : By w u p) :
    Calls Try.prog 5 #[v, aB iv, .int .u64 (pl : Int), u] w fun e w' => e = .returned (.bool true) ∧ Below w.heap.size w w' := by
  obtain ⟨x0, x1⟩ := al1 w (iv.map b8).toArray 23
  have X0 : Hid (Blk _ w.heap.size (iv.map b8)) := x0
  have X1 : Hid (Below w.heap.size w _) := x1
  have HI : Hid (A.ok 16 iv) := hi
  have HK : Hid (∀ W, Below w.heap.size w W → By W v key) := fun W hW => hk.up hW (Nat.le_refl _)
  by_cases hn : KeyN key.length
  · have KB : KeyB key := ⟨hn, lk⟩
    have EX : Hid _ := C.expand key v KB _ (C.tb ht x1) (hk.up x1 (Nat.le_refl _))
    obtain ⟨ws, hws⟩ : ∃ ws, ws = A.keyW key := ⟨_, rfl⟩
    have OKW : Hid (A.okW ws) := by rw [hws]; exact KB.ws
    have SM : Hid (∀ cs W x q, Below w.heap.size w W → Ky W cs key → By W x q → (∀ y ∈ q, y < 256) → q.length = p.length → Calls Try.prog 11 #[.agg cs.toArray, aB iv, .int .u64 (pl : Int), x] W fun e w' => ∃ u, e = .returned u ∧ By w' u (A.streamS ws iv pl q) ∧ Below W.heap.size W w') := fun cs W x q hW hK hx hq hl => by
      rw [hws]
      exact M.stream key cs iv pl q x KB hi hpl hq (by omega) W (C.tb ht hW) hK hx
    have CP : Hid (∀ i, i < p.length → (A.streamS ws iv pl (List.replicate p.length 0)).getD i 0 ^^^ p.getD i 0 = (A.streamS ws iv pl p).getD i 0 ∧ (A.streamS ws iv pl (List.replicate p.length 0)).getD i 0 < 256 ∧ p.getD i 0 < 256) := fun i hi => by
      refine ⟨?_, ?_, (show A.ok p.length p from ⟨rfl, lp⟩).at i⟩
      · rw [A.streamS_get ws iv pl p hi, A.streamS_get ws iv pl (List.replicate p.length 0) (by rw [List.length_replicate]; exact hi), List.getD_eq_getElem?_getD (l := List.replicate p.length 0), List.getElem?_replicate, if_pos hi]
        show (0 ^^^ _) ^^^ _ = _
        rw [Nat.zero_xor, Nat.xor_comm]
      · exact (show A.ok _ _ from ⟨rfl, A.streamS_ok OKW.out iv pl (p := List.replicate p.length 0) (fun x hx => by rw [(List.mem_replicate.1 hx).2]; decide)⟩).at i
    have TW : Hid (A.streamS ws iv pl (A.streamS ws iv pl p) = p) := A.stream_twice ws iv pl p
    have L1 : Hid ((A.streamS ws iv pl p).length = p.length ∧ ∀ x ∈ A.streamS ws iv pl p, x < 256) := ⟨A.streamS_length _ _ _ _, A.streamS_ok OKW.out iv pl lp⟩
    have L2 : Hid ((A.streamS ws iv pl (List.replicate p.length 0)).length = p.length) := by rw [A.streamS_length, List.length_replicate]; exact rfl
    have S1 : Hid (∀ cs W, Below w.heap.size w W → Ky W cs key → Calls Try.prog 11 #[.agg cs.toArray, aB iv, .int .u64 (pl : Int), u] W fun e w' => ∃ u, e = .returned u ∧ By w' u (A.streamS ws iv pl p) ∧ Below W.heap.size W w') := fun cs W hW hK => SM.out cs W u p hW hK (hu.up hW (Nat.le_refl _)) lp rfl
    have S2 : Hid (∀ cs W x, Below w.heap.size w W → Ky W cs key → By W x (List.replicate p.length 0) → Calls Try.prog 11 #[.agg cs.toArray, aB iv, .int .u64 (pl : Int), x] W fun e w' => ∃ u, e = .returned u ∧ By w' u (A.streamS ws iv pl (List.replicate p.length 0)) ∧ Below W.heap.size W w') := fun cs W x hW hK hx => SM.out cs W x _ hW hK hx (fun y hy => by rw [(List.mem_replicate.1 hy).2]; decide) (List.length_replicate ..)
    have S3 : Hid (∀ cs W x, Below w.heap.size w W → Ky W cs key → By W x (A.streamS ws iv pl p) → Calls Try.prog 11 #[.agg cs.toArray, aB iv, .int .u64 (pl : Int), x] W fun e w' => ∃ u, e = .returned u ∧ By w' u p ∧ Below W.heap.size W w') := fun cs W x hW hK hx => by
      have := SM.out cs W x _ hW hK hx L1.out.2 L1.out.1
      rw [TW.out] at this
      exact this
    have EQ : Hid (∀ x W, Below w.heap.size w W → By W x p → Calls Try.prog 17 #[x, u] W fun e w' => e = .returned (.bool true) ∧ Below W.heap.size W w') := fun x W hW hx => by
      have := equal_fun x u p p lp lp W hx (hu.up hW (Nat.le_refl _))
      rw [decide_eq_true rfl] at this
      exact this
    have HP : Hid (∀ W, Below w.heap.size w W → By W u p) := fun W hW => hu.up hW (Nat.le_refl _)
    obtain ⟨au, cu, rfl, _, _, _⟩ := id hu
    generalize A.streamS ws iv pl (List.replicate p.length 0) = sz at *
    generalize A.streamS ws iv pl p = sc at *
    have ZP : Hid (p.length ≤ 140737488351232) := zp
    obtain ⟨n, hnl⟩ : ∃ n, n = p.length := ⟨_, rfl⟩
    rw [← hnl] at CP L1 L2 S1 S2 EQ HP ZP ⊢
    have LP : Hid (p.length = n) := hnl.symm
    clear hws x0 x1 hu zp SM TW hnl
    go_enter Try.func5, Try.ntmps5
    go_wp2_with fail
    refine Calls.mono EX.out ?_
    rintro e w1 ⟨cs, rfl, hky, hb1⟩
    have KY : Hid (Ky w1 cs key) := hky
    have D1 : Hid (Below w.heap.size w w1) := X1.out.trans (hb1.mono X1.out.size)
    have Y1 : Hid (Blk w1 w.heap.size (iv.map b8)) := X0.out.up hb1 X0.out.lt
    have CL : Hid (cs.length = zk.length) := C.size hky
    have CO : Hid (∀ v ∈ cs, v.oneCell' = true) := C.one hky
    clear X0 X1 EX hky hb1
    go_wp2_with (refine C.make rfl rfl 9 (.tmp 17) rfl rfl rfl rfl cs CL.out CO.out rfl rfl ?_)
    intro w2 k2 hb2
    obtain ⟨kk, hkk⟩ : ∃ kk, kk = w1.heap.size := ⟨_, rfl⟩
    rw [← hkk] at k2 ⊢
    have K2 : Hid (Blk w2 kk cs) := k2
    have KY2 : Hid (Ky w2 cs key) := C.up KY.out hb2
    have D2 : Hid (Below w.heap.size w w2) := D1.out.trans (hb2.mono D1.out.size)
    have Y2 : Hid (Blk w2 w.heap.size (iv.map b8)) := Y1.out.up hb2 Y1.out.lt
    clear k2 hb2 hkk KY D1 Y1
    have IB : Hid _ := info_n binfo_a16 iv HI.out.1
    obtain ⟨dk, huk, hrk⟩ := C.row
    have IK : Hid _ := C.info.trans (congrArg some CL.out.symm)
    go_wp2_with (first | refine wpList_load_mid rfl 28 (.tmp 9) rfl kk 0 rfl cs dk K2.out.all huk hrk IK.out ?_ | refine wpList_load_mid rfl 23 (.tmp 5) rfl w.heap.size 0 rfl (iv.map b8) _ Y2.out.all bu_a16 rfl IB.out ?_)
    refine Calls.mono (S1.out cs w2 D2.out KY2.out) ?_
    rintro e w3 ⟨x3, rfl, hy3, hb3⟩
    have Q3 : Hid (By w3 x3 sc) := hy3
    have K3 : Hid (Blk w3 kk cs) := K2.out.up hb3 K2.out.lt
    have KY3 : Hid (Ky w3 cs key) := C.up KY2.out hb3
    have D3 : Hid (Below w.heap.size w w3) := D2.out.trans (hb3.mono D2.out.size)
    have Y3 : Hid (Blk w3 w.heap.size (iv.map b8)) := Y2.out.up hb3 Y2.out.lt
    have RK : Hid (∀ W, Below w3.heap.size w3 W → W.rangeAt kk 0 cs) := fun W hW => (K3.out.up hW K3.out.lt).all
    have RB : Hid (∀ W, Below w3.heap.size w3 W → W.rangeAt w.heap.size 0 (iv.map b8)) := fun W hW => (Y3.out.up hW Y3.out.lt).all
    have KU : Hid (∀ W, Below w3.heap.size w3 W → Ky W cs key ∧ Below w.heap.size w W) := fun W hW => ⟨C.up KY3.out hW, D3.out.trans (hW.mono D3.out.size)⟩
    clear hb3 hy3 K2 KY2 D2 Y2 S1
    go_wp2_with fail
    refine wp_region_monoE [MP.eq (.agg cs.toArray), MP.eq (aB iv), MP.eq (.int .u64 (pl : Int)), MP.eq (.slice au n cu), MP.eq (.int .i64 (n : Int)), MP.byM (List.replicate n 0), MP.byM sz, MP.byM sz] (by kernel_rfl) (by kernel_rfl) rfl ?_
    apply Exists.intro
    refine ⟨fun vals => ?_, ?_, fun vals4 w4 hb4 hF => ?_⟩
    · simp only [putsV, dstL, List.length_cons, List.length_nil, Nat.zero_add, Nat.reduceAdd, List.getElem?_cons_zero, List.getElem?_cons_succ, Option.bind_some, Act.put, List.setIfInBounds_toArray, List.set_cons_succ, List.set_cons_zero]
      rfl
    · refine ⟨?_, ?_, ?_, ?_, ?_, ?_, ?_, ?_, trivial⟩
      · intro vals W hW hw hd
        try simp [Region.binds] at hd
        refine ⟨by first | rfl | simp [Region.wanted, yielded, hd], ?_⟩
        exact C.ld (.tmp 9) rfl kk rfl cs CL.out (RK.out W hW.out) rfl
      · intro vals W hW hw hd
        try simp [Region.binds] at hd
        refine ⟨by first | rfl | simp [Region.wanted, yielded, hd], ?_⟩
        exact yieldsA_load 23 (.tmp 5) rfl w.heap.size 0 rfl (iv.map b8) _ (RB.out W hW.out) bu_a16 rfl IB.out rfl
      · intro vals W hW hw hd
        try simp [Region.binds] at hd
        refine ⟨by first | rfl | simp [Region.wanted, yielded, hd], ?_⟩
        simp [go_sem, hd]
        exact Below.refl _ _
      · intro vals W hW hw hd
        try simp [Region.binds] at hd
        refine ⟨by first | rfl | simp [Region.wanted, yielded, hd], ?_⟩
        simp [go_sem, hd]
        exact Below.refl _ _
      · intro vals W hW hw hd
        try simp [Region.binds] at hd
        refine ⟨by first | rfl | simp [Region.wanted, yielded, hd], ?_⟩
        simp [go_sem, hd]
        exact Below.refl _ _
      · intro vals W hW hw hd
        try simp [Region.binds] at hd
        refine ⟨by first | rfl | simp [Region.wanted, yielded, hd], ?_⟩
        exact yields_mkB (.tmp 30) (.tmp 30) rfl n hd hd (by have := ZP.out; omega)
      · intro vals W hW hw hd
        try simp [Region.binds] at hd
        refine ⟨by first | rfl | simp [Region.wanted, yielded, hd], ?_⟩
        simp [go_sem, hd]
        exact (S2.out cs W _ (KU.out W hW.out).2 (KU.out W hW.out).1 hd.2.2.2).mono fun e w' ⟨v, he, hq, hb⟩ => ⟨v, he, hq, hb⟩
      · intro vals W hW hw hd
        try simp [Region.binds] at hd
        refine ⟨by first | rfl | simp [Region.wanted, yielded, hd], ?_⟩
        simp [go_sem]
        exact ⟨hd.1, Below.refl _ _⟩
    obtain ⟨f0, f1, f2, f3, f4, f5, f6, f7, _⟩ := hF
    simp only [MP.eq_p] at f0 f1 f2 f3 f4
    have Z4 : By w4 (vals4 7) sz := f7
    rw [f0, f1, f2, f3, f4]
    have Q4 : By w4 x3 sc := Q3.out.up hb4.out (Nat.le_refl _)
    have K4 : Hid (Blk w4 kk cs) := K3.out.up hb4.out K3.out.lt
    have KY4 : Hid (Ky w4 cs key) := C.up KY3.out hb4.out
    have D4 : Hid (Below w.heap.size w w4) := D3.out.trans (hb4.out.mono D3.out.size)
    have Y4 : Hid (Blk w4 w.heap.size (iv.map b8)) := Y3.out.up hb4.out Y3.out.lt
    have QZ : Hid (∀ W, Below w4.heap.size w4 W → By W (vals4 7) sz) := fun W hW => Z4.up hW (Nat.le_refl _)
    have QC : Hid (∀ W, Below w4.heap.size w4 W → By W x3 sc) := fun W hW => Q4.up hW (Nat.le_refl _)
    obtain ⟨a3, c3, e3, _, _, _⟩ := Q4
    obtain ⟨a4, c4, e4, _, _, _⟩ := Z4
    rw [L1.out.1] at e3
    rw [L2.out] at e4
    rw [e4] at QZ ⊢
    rw [e3] at QC ⊢
    generalize vals4 5 = x5
    generalize vals4 6 = x6
    have PU : Hid (∀ W, Below w4.heap.size w4 W → By W (.slice au n cu) p) := fun W hW => HP.out W (D4.out.trans (hW.mono D4.out.size))
    clear f0 f1 f2 f3 f4 f5 f6 f7 hb4 e3 e4 K3 KY3 D3 Y3 RK RB KU Q3 S2
    go_wp2_with fail
    go_loopw [47] (fun i wr => ∃ j : Nat, j ≤ n ∧ i = .int .i64 (j : Int) ∧ Hid (Below w4.heap.size w4 wr)) (fun i _ => n - (intOf i).toNat)
    case atStart => exact ⟨0, by omega, rfl, Below.refl _ _⟩
    case round =>
      obtain ⟨j, hj, rfl, hb⟩ := hrel
      by_cases hj1 : j < n
      · have j1 : (j : Int) < (n : Int) := by omega
        have j0 : (0 : Int) ≤ (j : Int) := by omega
        have wj : IntKind.i64.wrap ((j : Int) + 1) = (j : Int) + 1 := by have := ZP.out; rw [IntKind.wrap_i64]; omega
        obtain ⟨b1, o1, rfl, c1⟩ := (QZ.out wr hb.out).at (i := j) (by rw [L2.out]; exact hj1)
        obtain ⟨b2, o2, rfl, c2⟩ := (PU.out wr hb.out).at (i := j) (by rw [LP.out]; exact hj1)
        obtain ⟨b3, o3, rfl, c3_⟩ := (QC.out wr hb.out).at (i := j) (by rw [L1.out.1]; exact hj1)
        obtain ⟨ce, h1, h2⟩ := CP.out j hj1
        have xe := g_xor h1 h2
        rw [ce] at xe
        have U1 : Hid (∀ W, Below wr.heap.size wr W → W.cell? ⟨b1, o1 + j, none⟩ = some (b8 (sz.getD j 0))) := fun W hW => (hW.cell (p := ⟨b1, o1 + j, none⟩) (lt_of_cellB c1)).trans c1
        have U2 : Hid (∀ W, Below wr.heap.size wr W → W.cell? ⟨b2, o2 + j, none⟩ = some (b8 (p.getD j 0))) := fun W hW => (hW.cell (p := ⟨b2, o2 + j, none⟩) (lt_of_cellB c2)).trans c2
        have U3 : Hid (∀ W, Below wr.heap.size wr W → W.cell? ⟨b3, o3 + j, none⟩ = some (b8 (sc.getD j 0))) := fun W hW => (hW.cell (p := ⟨b3, o3 + j, none⟩) (lt_of_cellB c3_)).trans c3_
        have JJ : Hid (j < n) := hj1
        generalize sz.getD j 0 = zj at *
        generalize p.getD j 0 = pj at *
        generalize sc.getD j 0 = cj at *
        clear c1 c2 c3_ ce h1 h2 hj hj1
        go_wp2_with fail
        refine wp_region_monoE [MP.eq (.slice (some ⟨b1, o1, none⟩) n c4), MP.eq (.int .i64 (j : Int)), MP.eq (.pointer (some ⟨b1, o1 + j, none⟩)), MP.eq (b8 zj), MP.eq (.slice (some ⟨b2, o2, none⟩) n cu), MP.eq (.int .i64 (j : Int)), MP.eq (.pointer (some ⟨b2, o2 + j, none⟩)), MP.eq (b8 pj), MP.eq (b8 cj), MP.eq (.slice (some ⟨b3, o3, none⟩) n c3), MP.eq (.int .i64 (j : Int)), MP.eq (.pointer (some ⟨b3, o3 + j, none⟩)), MP.eq (b8 cj), MP.eq (.bool false)] (by kernel_rfl) (by kernel_rfl) rfl ?_
        apply Exists.intro
        refine ⟨fun vals => ?_, ?_, fun vals6 w6 hb6 hF => ?_⟩
        · simp only [putsV, dstL, List.length_cons, List.length_nil, Nat.zero_add, Nat.reduceAdd, List.getElem?_cons_zero, List.getElem?_cons_succ, Option.bind_some, Act.put, List.setIfInBounds_toArray, List.set_cons_succ, List.set_cons_zero]
          rfl
        · refine ⟨?_, ?_, ?_, ?_, ?_, ?_, ?_, ?_, ?_, ?_, ?_, ?_, ?_, ?_, trivial⟩
          · intro vals W hW hw hd
            try simp [Region.binds] at hd
            refine ⟨by first | rfl | simp [Region.wanted, yielded, hd], ?_⟩
            simp [go_sem, hd]
            exact Below.refl _ _
          · intro vals W hW hw hd
            try simp [Region.binds] at hd
            refine ⟨by first | rfl | simp [Region.wanted, yielded, hd], ?_⟩
            simp [go_sem, hd]
            exact Below.refl _ _
          · intro vals W hW hw hd
            try simp [Region.binds] at hd
            refine ⟨by first | rfl | simp [Region.wanted, yielded, hd], ?_⟩
            simp [go_sem, hd, j1, j0]
            exact Below.refl _ _
          · intro vals W hW hw hd
            try simp [Region.binds] at hd
            refine ⟨by first | rfl | simp [Region.wanted, yielded, hd], ?_⟩
            have cc := U1.out W hW.out
            simp [go_sem, hd, cc]
            exact Below.refl _ _
          · intro vals W hW hw hd
            try simp [Region.binds] at hd
            refine ⟨by first | rfl | simp [Region.wanted, yielded, hd], ?_⟩
            simp [go_sem, hd]
            exact Below.refl _ _
          · intro vals W hW hw hd
            try simp [Region.binds] at hd
            refine ⟨by first | rfl | simp [Region.wanted, yielded, hd], ?_⟩
            simp [go_sem, hd]
            exact Below.refl _ _
          · intro vals W hW hw hd
            try simp [Region.binds] at hd
            refine ⟨by first | rfl | simp [Region.wanted, yielded, hd], ?_⟩
            simp [go_sem, hd, j1, j0]
            exact Below.refl _ _
          · intro vals W hW hw hd
            try simp [Region.binds] at hd
            refine ⟨by first | rfl | simp [Region.wanted, yielded, hd], ?_⟩
            have cc := U2.out W hW.out
            simp [go_sem, hd, cc]
            exact Below.refl _ _
          · intro vals W hW hw hd
            try simp [Region.binds] at hd
            refine ⟨by first | rfl | simp [Region.wanted, yielded, hd], ?_⟩
            simp [go_sem, hd, xe]
            exact Below.refl _ _
          · intro vals W hW hw hd
            try simp [Region.binds] at hd
            refine ⟨by first | rfl | simp [Region.wanted, yielded, hd], ?_⟩
            simp [go_sem, hd]
            exact Below.refl _ _
          · intro vals W hW hw hd
            try simp [Region.binds] at hd
            refine ⟨by first | rfl | simp [Region.wanted, yielded, hd], ?_⟩
            simp [go_sem, hd]
            exact Below.refl _ _
          · intro vals W hW hw hd
            try simp [Region.binds] at hd
            refine ⟨by first | rfl | simp [Region.wanted, yielded, hd], ?_⟩
            simp [go_sem, hd, j1, j0]
            exact Below.refl _ _
          · intro vals W hW hw hd
            try simp [Region.binds] at hd
            refine ⟨by first | rfl | simp [Region.wanted, yielded, hd], ?_⟩
            have cc := U3.out W hW.out
            simp [go_sem, hd, cc]
            exact Below.refl _ _
          · intro vals W hW hw hd
            try simp [Region.binds] at hd
            refine ⟨by first | rfl | simp [Region.wanted, yielded, hd], ?_⟩
            simp [go_sem, hd]
            exact Below.refl _ _
        obtain ⟨f0, f1, f2, f3, f4, f5, f6, f7, f8, f9, f10, f11, f12, f13, _⟩ := hF
        simp only [MP.eq_p] at f0 f1 f2 f3 f4 f5 f6 f7 f8 f9 f10 f11 f12 f13
        rw [f0, f1, f2, f3, f4, f5, f6, f7, f8, f9, f10, f11, f12, f13]
        have D6 : Hid (Below w4.heap.size w4 w6) := hb.out.trans (hb6.out.mono hb.out.size)
        clear f0 f1 f2 f3 f4 f5 f6 f7 f8 f9 f10 f11 f12 f13 hb6 U1 U2 U3
        go_wp2_with fail
        go_roundw
        case rel => exact ⟨j + 1, JJ.out, by first | rfl | go_num, D6⟩
        case measure => have := JJ.out; simp [intOf]; omega
      · obtain rfl : j = n := by omega
        have K7 : Hid (Blk wr kk cs) := K4.out.up hb.out K4.out.lt
        have Y7 : Hid (Blk wr w.heap.size (iv.map b8)) := Y4.out.up hb.out Y4.out.lt
        have D7 : Hid (Below w.heap.size w wr) := D4.out.trans (hb.out.mono D4.out.size)
        have S7 : Hid _ := S3.out cs wr _ D7.out (C.up KY4.out hb.out) (QC.out wr hb.out)
        clear hj hj1
        go_wp2_with (first | refine wpList_load_mid rfl 28 (.tmp 9) rfl kk 0 rfl cs dk K7.out.all huk hrk IK.out ?_ | refine wpList_load_mid rfl 23 (.tmp 5) rfl w.heap.size 0 rfl (iv.map b8) _ Y7.out.all bu_a16 rfl IB.out ?_)
        refine Calls.mono S7.out ?_
        rintro e w8 ⟨x8, rfl, hy8, hb8⟩
        have D8 : Hid (Below w.heap.size w w8) := D7.out.trans (hb8.mono D7.out.size)
        have E8 : Hid _ := EQ.out x8 w8 D8.out hy8
        clear hb8 hy8 S7 K7 Y7
        go_wp2_with fail
        refine Calls.mono E8.out ?_
        rintro e w9 ⟨rfl, hb9⟩
        have D9 : Hid (Below w.heap.size w w9) := D8.out.trans (hb9.mono D8.out.size)
        clear hb9
        go_wp2_with fail
        go_ret
        exact ⟨rfl, D9.out⟩
  · have EX : Hid _ := C.bad key v lk hn _ (C.tb ht x1) (hk.up x1 (Nat.le_refl _))
    have CO := C.zone
    clear hi x0 x1
    go_enter Try.func5, Try.ntmps5
    go_wp2_with fail
    refine Calls.mono EX.out ?_
    rintro e w1 ⟨rfl, hb1⟩
    have D1 : Hid (Below w.heap.size w w1) := X1.out.trans (hb1.mono X1.out.size)
    clear hb1 EX X0 X1
    go_wp2_with (refine C.make rfl rfl 9 (.tmp 17) rfl rfl rfl rfl zk rfl CO rfl rfl ?_)
    intro w2 _ hb2
    have D2 : Hid (Below w.heap.size w w2) := D1.out.trans (hb2.mono D1.out.size)
    clear hb2 D1
    go_wp2_with fail
    go_ret
    exact ⟨rfl, D2.out⟩
end Go.Proofs.Ytmfbdacalenfdaa
