/- The contract of mode.Seal. -/
import Derived.Test.YtmfbdacalenfdaaGrp29
import Derived.Test.YtmfbdacalenfdaaMdC
import Derived.Deep.LoopGhost
namespace Go.Proofs.Ytmfbdacalenfdaa
open Go.RowKit
set_option linter.unusedSimpArgs false
attribute [local go_sem] YieldsP execOp
attribute [local simp] MP.eq_p
namespace A
theorem blk_app {out P : List Nat} {i : Nat} (h : i = out.length) : blk (out ++ P) i = P.take 16 := by
  subst h
  unfold blk
  rw [List.drop_left]
end A
set_option maxRecDepth 20000 in
set_option maxHeartbeats 2000000 in
theorem mseal_of {Tb : World → Prop} {zk : List Value} {Ky : World → List Value → List Nat → Prop} (C : AesC Tb zk Ky) (key : List Nat) (cs : List Value) (i0 : List Nat) (p : List Nat) (v : Value) (KB : KeyB key) (hi : A.ok 16 i0) (hp : ∀ x ∈ p, x < 256) (zp : p.length ≤ 140737488351232) (w : World) (ht : Tb w) (hk : Ky w cs key) (hv : By w v p) :
    Calls Try.prog 15 #[.agg cs.toArray, aB i0, v] w fun e w' => ∃ u, e = .returned u ∧ Ob w' w.heap.size u (A.sealS (A.keyW key) i0 p) ∧ Below w.heap.size w w' := by
  obtain ⟨ws, hws⟩ : ∃ ws, ws = A.keyW key := ⟨_, rfl⟩
  have OKW : Hid (A.okW ws) := by rw [hws]; exact KB.ws
  rw [← hws]
  obtain ⟨K, hK⟩ : ∃ K, K = p.length / 16 + 1 := ⟨_, rfl⟩
  obtain ⟨N, hN⟩ : ∃ N, N = (A.padS p).length := ⟨_, rfl⟩
  have NK : N = 16 * K := by rw [hN, hK]; exact A.padS_length p
  obtain ⟨TOT, hTOT⟩ : ∃ TOT, TOT = A.sealS ws i0 p := ⟨_, rfl⟩
  have START : Hid (([] ++ A.sealB ws K i0 (A.padS p) = TOT ∧ A.ok (16 * K) (A.padS p) ∧ A.ok 16 i0) ∧ ([] : List Nat).length + 16 * K = N) := ⟨⟨by rw [hTOT, hK]; rfl, ⟨by rw [← NK, hN], A.padS_low hp⟩, hi⟩, by rw [NK]; simp⟩
  have TL : Hid (TOT.length = N) := by rw [hTOT]; exact (sealS_ok OKW.out hi hp).1.trans (by rw [NK, hK])
  have NB : Hid (N ≤ 140737488351248) := by show _ ≤ _; omega
  rw [← hTOT]
  have ENF : Hid (∀ b W, A.ok 16 b → Below w.heap.size w W → Calls Try.prog 20 #[.agg cs.toArray, aB b] W fun e w' => e = .returned (aB (A.encS ws b)) ∧ Below W.heap.size W w') := fun b W hb hW => by
    rw [hws]
    exact C.enc key cs b KB hb W (C.tb ht hW) (C.up hk hW)
  have PAD : Hid (∀ W, Below w.heap.size w W → Calls Try.prog 43 #[v] W fun e w' => ∃ g, e = .returned (.slice (some ⟨g, 0, none⟩) N N) ∧ W.heap.size ≤ g ∧ RowB w' g 5 (A.padS p) ∧ Below W.heap.size W w') := fun W hW => by
    rw [hN]
    exact mpadd_fun p (by omega) v W (hv.up hW (Nat.le_refl _))
  have CL : Hid (cs.length = zk.length) := C.size hk
  have IL : Hid (i0.length = 16) := hi.1
  obtain ⟨x0, x1, x2⟩ := al2 w cs.toArray (i0.map b8).toArray 28 23
  have X0 : Hid (Blk _ w.heap.size cs) := x0
  have X1 : Hid (Blk _ (w.heap.size + 1) (i0.map b8)) := x1
  have X2 : Hid (Below w.heap.size w _) := x2
  clear x0 x1 x2 hws hN hK NK hTOT hp hi zp ht hk KB hv
  go_enter Try.func15, Try.ntmps15
  go_wp2_with fail
  refine Calls.mono (PAD.out _ X2.out) ?_
  rintro e w1 ⟨g, rfl, hg, hrow, hb1⟩
  have Y0 : Hid (Blk w1 w.heap.size cs) := X0.out.up hb1 X0.out.lt
  have Y1 : Hid (Blk w1 (w.heap.size + 1) (i0.map b8)) := X1.out.up hb1 X1.out.lt
  have Y2 : Hid (Below w.heap.size w w1) := X2.out.trans (hb1.mono X2.out.size)
  have YR : Hid (RowB w1 g 5 (A.padS p)) := hrow
  have GG : Hid (w.heap.size + 1 < g) := Nat.lt_of_lt_of_le X1.out.lt hg
  obtain ⟨ka, hka⟩ : ∃ ka, ka = w1.heap.size := ⟨_, rfl⟩
  obtain ⟨y0, y1⟩ := al1 w1 #[Value.int IntKind.u8 0, Value.int IntKind.u8 0, Value.int IntKind.u8 0, Value.int IntKind.u8 0, Value.int IntKind.u8 0, Value.int IntKind.u8 0, Value.int IntKind.u8 0, Value.int IntKind.u8 0, Value.int IntKind.u8 0, Value.int IntKind.u8 0, Value.int IntKind.u8 0, Value.int IntKind.u8 0, Value.int IntKind.u8 0, Value.int IntKind.u8 0, Value.int IntKind.u8 0, Value.int IntKind.u8 0] 23
  have A0 : Hid (Blk (w1.alloc (.cells #[Value.int IntKind.u8 0, Value.int IntKind.u8 0, Value.int IntKind.u8 0, Value.int IntKind.u8 0, Value.int IntKind.u8 0, Value.int IntKind.u8 0, Value.int IntKind.u8 0, Value.int IntKind.u8 0, Value.int IntKind.u8 0, Value.int IntKind.u8 0, Value.int IntKind.u8 0, Value.int IntKind.u8 0, Value.int IntKind.u8 0, Value.int IntKind.u8 0, Value.int IntKind.u8 0, Value.int IntKind.u8 0] 23)) w.heap.size cs) := Y0.out.up y1 Y0.out.lt
  have AR : Hid (RowB (w1.alloc (.cells #[Value.int IntKind.u8 0, Value.int IntKind.u8 0, Value.int IntKind.u8 0, Value.int IntKind.u8 0, Value.int IntKind.u8 0, Value.int IntKind.u8 0, Value.int IntKind.u8 0, Value.int IntKind.u8 0, Value.int IntKind.u8 0, Value.int IntKind.u8 0, Value.int IntKind.u8 0, Value.int IntKind.u8 0, Value.int IntKind.u8 0, Value.int IntKind.u8 0, Value.int IntKind.u8 0, Value.int IntKind.u8 0] 23)) g 5 (A.padS p)) := YR.out.up y1 YR.out.lt
  have AA : Hid (Blk (w1.alloc (.cells #[Value.int IntKind.u8 0, Value.int IntKind.u8 0, Value.int IntKind.u8 0, Value.int IntKind.u8 0, Value.int IntKind.u8 0, Value.int IntKind.u8 0, Value.int IntKind.u8 0, Value.int IntKind.u8 0, Value.int IntKind.u8 0, Value.int IntKind.u8 0, Value.int IntKind.u8 0, Value.int IntKind.u8 0, Value.int IntKind.u8 0, Value.int IntKind.u8 0, Value.int IntKind.u8 0, Value.int IntKind.u8 0] 23)) w1.heap.size (zB 16)) := y0
  have AB : Hid (Below w.heap.size w (w1.alloc (.cells #[Value.int IntKind.u8 0, Value.int IntKind.u8 0, Value.int IntKind.u8 0, Value.int IntKind.u8 0, Value.int IntKind.u8 0, Value.int IntKind.u8 0, Value.int IntKind.u8 0, Value.int IntKind.u8 0, Value.int IntKind.u8 0, Value.int IntKind.u8 0, Value.int IntKind.u8 0, Value.int IntKind.u8 0, Value.int IntKind.u8 0, Value.int IntKind.u8 0, Value.int IntKind.u8 0, Value.int IntKind.u8 0] 23))) := Y2.out.trans (y1.mono Y2.out.size)
  have TA : Hid ((w1.alloc (.cells #[Value.int IntKind.u8 0, Value.int IntKind.u8 0, Value.int IntKind.u8 0, Value.int IntKind.u8 0, Value.int IntKind.u8 0, Value.int IntKind.u8 0, Value.int IntKind.u8 0, Value.int IntKind.u8 0, Value.int IntKind.u8 0, Value.int IntKind.u8 0, Value.int IntKind.u8 0, Value.int IntKind.u8 0, Value.int IntKind.u8 0, Value.int IntKind.u8 0, Value.int IntKind.u8 0, Value.int IntKind.u8 0] 23)).there w1.heap.size 0 (i0.map b8).length) := AA.out.there (by rw [List.length_map, IL.out, zB_length]; omega)
  have GK : Hid (g < ka) := by rw [hka]; exact YR.out.lt
  clear hg hrow hb1 X0 X1 X2 PAD y0 y1
  go_wp2_with (first | simp only [zero_a16] | refine wpList_load_mid rfl 23 (.tmp 4) rfl (w.heap.size + 1) 0 rfl (i0.map b8) _ Y1.out.all u_a16 rfl (info_n info_a16 i0 IL.out) ?_ | refine wp_store_eq rfl 23 (.tmp 8) (.tmp 12) rfl w1.heap.size 0 (i0.map b8) rfl rfl TA.out (info_n info_a16 i0 IL.out) (one_b8 _) ?_)
  intro w2 hw2
  rw [← hka] at AA hw2 ⊢
  have B0 : Hid (Blk w2 w.heap.size cs) := by rw [hw2.out]; exact A0.out.apart (by have h1 := GG.out; have h2 := GK.out; omega)
  have BR : Hid (RowB w2 g 5 ([] ++ A.padS p)) := by rw [hw2.out]; exact AR.out.apart (by have h2 := GK.out; omega)
  have BA : Hid (Blk w2 ka (i0.map b8)) := by rw [hw2.out]; exact AA.out.put (by rw [List.length_map, IL.out, zB_length])
  have BB : Hid (Below w.heap.size w w2) := by rw [hw2.out]; exact below_setCells _ _ _ AB.out (by have h1 := GG.out; have h2 := GK.out; omega)
  obtain ⟨kk, hkk⟩ : ∃ kk, kk = w.heap.size := ⟨_, rfl⟩
  rw [← hkk] at B0
  have EK : Value.pointer (some ⟨w.heap.size, 0, none⟩) = .pointer (some ⟨kk, 0, none⟩) := by rw [hkk]
  rw [EK]
  have KS : Hid (kk = w.heap.size ∧ kk < g ∧ g < ka) := ⟨hkk, by have := GG.out; omega, GK.out⟩
  clear hw2 A0 AR AA AB TA Y0 Y1 Y2 YR hka GG GK EK hkk
  go_wp2_with fail
  go_loopg [9] K (fun gk i wr => ∃ (iv P out : List Nat), i = .int .i64 (out.length : Int) ∧ Hid ((out ++ A.sealB ws gk iv P = TOT ∧ A.ok (16 * gk) P ∧ A.ok 16 iv) ∧ out.length + 16 * gk = N) ∧ Hid (Blk wr kk cs) ∧ Hid (RowB wr g 5 (out ++ P)) ∧ Hid (Blk wr ka (iv.map b8)) ∧ Hid (Below w.heap.size w wr))
  case atStart => exact ⟨i0, A.padS p, [], rfl, START, B0, BR, BA, BB⟩
  case round =>
    clear B0 BR BA BB START
    obtain ⟨iv, P, out, rfl, TT, X0, XR, XA, XB⟩ := hrel
    obtain ⟨i, hie⟩ : ∃ i, i = out.length := ⟨_, rfl⟩
    rw [← hie] at TT ⊢
    have HI : Hid (i = out.length) := hie
    rcases Nat.eq_zero_or_pos gk with h0 | h0
    · subst h0
      have z0 : ¬ (i : Int) < (N : Int) := by have := TT.out.2; omega
      have FE : out ++ P = TOT := by
        have h1 := TT.out.1.1
        have h2 : P = [] := List.length_eq_zero_iff.1 (by rw [TT.out.1.2.1.1])
        rw [A.sealB, List.append_nil] at h1
        rw [h2, List.append_nil, h1]
      rw [FE] at XR
      clear FE TT hie HI
      go_wp2_with fail
      go_ret
      exact ⟨_, rfl, XR.out.ob (by have := KS.out; omega) TL.out (by have := NB.out; omega), XB.out⟩
    · obtain ⟨m, hm⟩ : ∃ m, gk = m + 1 := ⟨gk - 1, by omega⟩
      subst hm
      have z0 : (i : Int) < (N : Int) := by have := TT.out.2; omega
      have wi : IntKind.i64.wrap ((i : Int) + 16) = (i : Int) + 16 := by have := TT.out.2; have := NB.out; rw [IntKind.wrap_i64]; omega
      have IN : Hid (i + 16 * (m + 1) = N) := TT.out.2
      have OP := TT.out.1.2.1
      have PL : Hid (P.length = 16 * (m + 1)) := OP.1
      have TK : Hid (A.ok 16 (P.take 16)) := A.ok_take OP
      have DK : Hid (A.ok (16 * m) (P.drop 16)) := A.ok_drop OP
      have IV : Hid (A.ok 16 iv) := TT.out.1.2.2
      have BL : Hid (∀ W, Below wr.heap.size wr W → Calls Try.prog 36 #[.slice (some ⟨g, 0, none⟩) N N, .int .i64 (i : Int)] W fun e w' => e = .returned (aB (P.take 16)) ∧ Below W.heap.size W w') := fun W hW => by
        have hl : (out ++ P).length = N := by rw [List.length_append, OP.1, ← hie]; exact IN.out
        have := mblk_fun (out ++ P) i (by rw [hl]; have := IN.out; omega) _ W ((XR.out.up hW XR.out.lt).by hl)
        rwa [A.blk_app hie] at this
      have SU : Hid _ := msum_fun (P.take 16) iv TK.out IV.out
      have EN : Hid _ := ENF.out (A.addK (P.take 16) iv)
      have AK : Hid (A.ok 16 (A.addK (P.take 16) iv)) := A.addK_ok TK.out IV.out
      have CK : Hid (A.ok 16 (A.encS ws (A.addK (P.take 16) iv))) := A.encS_ok OKW.out AK.out
      have NEXT : Hid ((out ++ A.encS ws (A.addK (P.take 16) iv)) ++ A.sealB ws m (A.encS ws (A.addK (P.take 16) iv)) (P.drop 16) = TOT) := by
        have := TT.out.1.1
        rw [A.sealB, ← List.append_assoc, A.addK_comm iv] at this
        exact this
      have US : Hid (∀ W c, c.length = 16 → RowB W g 5 (out ++ P) → RowB (W.setCells g i (c.map b8)) g 5 ((out ++ c) ++ P.drop 16)) := fun W c hc h => by
        rw [← List.take_append_drop 16 P] at h
        rw [List.append_assoc]
        exact h.put hie (by rw [hc, TK.out.1])
      generalize A.encS ws (A.addK (P.take 16) iv) = c at *
      generalize A.addK (P.take 16) iv = ax at *
      generalize P.take 16 = pt at *
      have SL : Hid (sliced (some ⟨g, 0, none⟩) i (List.replicate N 0).length N 1 = .slice (some ⟨g, i, none⟩) (N - i) (N - i)) := by
        rw [List.length_replicate, sliced_at (by have := IN.out; omega), Nat.zero_add]
        exact rfl
      clear OP TT h0 hie
      go_wp2_with fail
      refine wp_region_monoSE 7 [MP.eq (.agg cs.toArray), MP.eq (.slice (some ⟨g, 0, none⟩) N N), MP.eq (.int .i64 (i : Int)), MP.eq (aB pt), MP.eq (aB iv), MP.eq (aB ax), MP.eq (aB c)] (by kernel_rfl) (by kernel_rfl) rfl (by decide) (by kernel_rfl) ?_
      apply Exists.intro
      refine ⟨fun vals => ?_, ?_, fun vals4 w4 hb4 hF hO => ?_⟩
      · simp only [putsV, dstL, List.length_cons, List.length_nil, Nat.zero_add, Nat.reduceAdd, List.getElem?_cons_zero, List.getElem?_cons_succ, Option.bind_some, Act.put, List.setIfInBounds_toArray, List.set_cons_succ, List.set_cons_zero]
        rfl
      · refine ⟨?_, ?_, ?_, ?_, ?_, ?_, ?_, trivial⟩
        · intro vals W hW hw hd
          try simp [Region.binds] at hd
          refine ⟨by first | rfl | simp [Region.wanted, yielded, hd], ?_⟩
          exact C.ld (.tmp 3) rfl kk rfl cs CL.out (X0.out.up hW.out X0.out.lt).all rfl
        · intro vals W hW hw hd
          try simp [Region.binds] at hd
          refine ⟨by first | rfl | simp [Region.wanted, yielded, hd], ?_⟩
          simp [go_sem, hd]
          exact Below.refl _ _
        · intro vals W hW hw hd
          try simp [Region.binds] at hd
          refine ⟨by first | rfl | simp [Region.wanted, yielded, hd], ?_⟩
          simp [go_sem, hd]
          exact Below.refl _ _
        · intro vals W hW hw hd
          try simp [Region.binds] at hd
          refine ⟨by first | rfl | simp [Region.wanted, yielded, hd], ?_⟩
          simp [go_sem, hd]
          exact (BL.out W hW.out).mono fun e w' ⟨he, hb⟩ => ⟨_, he, rfl, hb⟩
        · intro vals W hW hw hd
          try simp [Region.binds] at hd
          refine ⟨by first | rfl | simp [Region.wanted, yielded, hd], ?_⟩
          exact yieldsA_load 23 (.tmp 8) rfl ka 0 rfl (iv.map b8) _ (XA.out.up hW.out XA.out.lt).all u_a16 rfl (info_n info_a16 iv IV.out.1) rfl
        · intro vals W hW hw hd
          try simp [Region.binds] at hd
          refine ⟨by first | rfl | simp [Region.wanted, yielded, hd], ?_⟩
          simp [go_sem, hd]
          exact (SU.out W).mono fun e w' ⟨he, hb⟩ => ⟨_, he, rfl, hb⟩
        · intro vals W hW hw hd
          try simp [Region.binds] at hd
          refine ⟨by first | rfl | simp [Region.wanted, yielded, hd], ?_⟩
          simp [go_sem, hd]
          exact (EN.out W AK.out (XB.out.trans (hW.out.mono XB.out.size))).mono fun e w' ⟨he, hb⟩ => ⟨_, he, rfl, hb⟩
      obtain ⟨f0, f1, f2, f3, f4, f5, f6, _⟩ := hF
      simp only [MP.eq_p] at f0 f1 f2 f3 f4 f5 f6
      rw [f0, f1, f2, f3, f4, f5, f6]
      simp only [List.drop_succ_cons, List.drop_zero]
      have Y0 : Hid (Blk w4 kk cs) := X0.out.up hb4.out X0.out.lt
      have YR : Hid (RowB w4 g 5 (out ++ P)) := XR.out.up hb4.out XR.out.lt
      have YA : Hid (Blk w4 ka (iv.map b8)) := XA.out.up hb4.out XA.out.lt
      have YB : Hid (Below w.heap.size w w4) := XB.out.trans (hb4.out.mono XB.out.size)
      have T4 : Hid (w4.there ka 0 (c.map b8).length) := YA.out.there (by rw [List.length_map, List.length_map, CK.out.1, IV.out.1]; omega)
      clear f0 f1 f2 f3 f4 f5 f6 hb4 hO X0 XR XA XB BL SU EN
      go_wp2_with (refine wp_store_eq rfl 23 (.tmp 8) (.tmp 25) rfl ka 0 (c.map b8) rfl rfl T4.out (info_n info_a16 c CK.out.1) (one_b8 _) ?_)
      intro w5 hw5
      have Z0 : Hid (Blk w5 kk cs) := by rw [hw5.out]; exact Y0.out.apart (by have := KS.out; omega)
      have ZR : Hid (RowB w5 g 5 (out ++ P)) := by rw [hw5.out]; exact YR.out.apart (by have := KS.out; omega)
      have ZA : Hid (Blk w5 ka (c.map b8)) := by rw [hw5.out]; exact YA.out.put (by rw [List.length_map, List.length_map, CK.out.1, IV.out.1])
      have ZB : Hid (Below w.heap.size w w5) := by rw [hw5.out]; exact below_setCells _ _ _ YB.out (by have := KS.out; omega)
      clear hw5 T4 Y0 YR YA YB
      go_wp2_with fail
      refine wp_region_monoSE 4 [MP.eq (.slice (some ⟨g, 0, none⟩) N N), MP.eq (.int .i64 (i : Int)), MP.eq (.slice (some ⟨g, i, none⟩) (N - i) (N - i)), MP.eq (.slice (some ⟨ka, 0, none⟩) 16 16)] (by kernel_rfl) (by kernel_rfl) rfl (by decide) (by kernel_rfl) ?_
      apply Exists.intro
      refine ⟨fun vals => ?_, ?_, fun vals6 w6 hb6 hF hO => ?_⟩
      · simp only [putsV, dstL, List.length_cons, List.length_nil, Nat.zero_add, Nat.reduceAdd, List.getElem?_cons_zero, List.getElem?_cons_succ, Option.bind_some, Act.put, List.setIfInBounds_toArray, List.set_cons_succ, List.set_cons_zero]
        rfl
      · refine ⟨?_, ?_, ?_, ?_, trivial⟩
        · intro vals W hW hw hd
          try simp [Region.binds] at hd
          refine ⟨by first | rfl | simp [Region.wanted, yielded, hd], ?_⟩
          simp [go_sem, hd]
          exact Below.refl _ _
        · intro vals W hW hw hd
          try simp [Region.binds] at hd
          refine ⟨by first | rfl | simp [Region.wanted, yielded, hd], ?_⟩
          simp [go_sem, hd]
          exact Below.refl _ _
        · intro vals W hW hw hd
          try simp [Region.binds] at hd
          refine ⟨by first | rfl | simp [Region.wanted, yielded, hd], ?_⟩
          exact yields_cutB (.tmp 26) (.tmp 27) rfl (some ⟨g, 0, none⟩) N i .i64 (List.replicate N 0) (by rw [List.length_replicate]; exact hd.1) hd.2 (by rw [List.length_replicate]; have := IN.out; omega) SL.out
        · intro vals W hW hw hd
          try simp [Region.binds] at hd
          refine ⟨by first | rfl | simp [Region.wanted, yielded, hd], ?_⟩
          exact yields_all u_a16 gi_u8 (by decide) (.tmp 8) rfl ka 0 rfl rfl
      obtain ⟨f0, f1, f2, f3, _⟩ := hF
      simp only [MP.eq_p] at f0 f1 f2 f3
      rw [f0, f1, f2, f3]
      simp only [List.drop_succ_cons, List.drop_zero]
      have Y0 : Hid (Blk w6 kk cs) := Z0.out.up hb6.out Z0.out.lt
      have YR : Hid (RowB w6 g 5 (out ++ P)) := ZR.out.up hb6.out ZR.out.lt
      have YA : Hid (Blk w6 ka (c.map b8)) := ZA.out.up hb6.out ZA.out.lt
      have YB : Hid (Below w.heap.size w w6) := ZB.out.trans (hb6.out.mono ZB.out.size)
      have TT : Hid (w6.there g i c.length) := YR.out.blk.there (by rw [List.length_map, List.length_append, CK.out.1, ← HI.out]; have h1 := PL.out; have h3 := IN.out; omega)
      have MI : Hid (c.length = min 16 (N - i)) := by rw [CK.out.1]; have := IN.out; show 16 = _; omega
      clear f0 f1 f2 f3 hb6 hO Z0 ZR ZA ZB
      go_wp2_with (refine wp_copyR rfl (.tmp 28) (.tmp 29) rfl g i (N - i) (N - i) ka 0 16 16 c rfl rfl MI.out YA.out.all TT.out ?_)
      intro w7 hw7
      have Z0 : Hid (Blk w7 kk cs) := by rw [hw7.out]; exact Y0.out.apart (by have := KS.out; omega)
      have ZR : Hid (RowB w7 g 5 ((out ++ c) ++ P.drop 16)) := by rw [hw7.out]; exact US.out w6 c CK.out.1 YR.out
      have ZA : Hid (Blk w7 ka (c.map b8)) := by rw [hw7.out]; exact YA.out.apart (by have := KS.out; omega)
      have ZB : Hid (Below w.heap.size w w7) := by rw [hw7.out]; exact below_setCells _ _ _ YB.out (by have := KS.out; omega)
      clear hw7 TT Y0 YR YA YB US
      go_wp2_with fail
      go_roundg m
      case measure => omega
      case rel => exact ⟨c, P.drop 16, out ++ c, by rw [List.length_append, CK.out.1, ← HI.out]; first | rfl | go_num, ⟨⟨NEXT.out, DK.out, CK.out⟩, by rw [List.length_append, CK.out.1, ← HI.out]; have := IN.out; omega⟩, Z0, ZR, ZA, ZB⟩
end Go.Proofs.Ytmfbdacalenfdaa
