/- The contract of mode.Stream. -/
import Derived.Test.YtmfbdacalenfdaaGrp29
import Derived.Test.YtmfbdacalenfdaaMdC
namespace Go.Proofs.Ytmfbdacalenfdaa
open Go.RowKit
set_option linter.unusedSimpArgs false
attribute [local go_sem] YieldsP execOp
attribute [local simp] MP.eq_p
set_option maxRecDepth 20000 in
set_option maxHeartbeats 2000000 in
theorem mstream_of {Tb : World → Prop} {zk : List Value} {Ky : World → List Value → List Nat → Prop} (C : AesC Tb zk Ky) : StreamC Tb Ky where
  stream := by
    intro key cs iv pl p v KB hi hpl hp zp w ht hk hv
    obtain ⟨va, vc, rfl⟩ := hv.len
    obtain ⟨PB, hPB⟩ : ∃ PB : Nat → List Nat, ∀ q, PB q = A.padB (A.keyW key) iv q := ⟨_, fun _ => rfl⟩
    obtain ⟨new, hnew⟩ : ∃ new : Nat → Nat, ∀ i, new i = p.getD i 0 ^^^ (PB ((pl + i) % 18446744073709551616 / 16)).getD ((pl + i) % 18446744073709551616 % 16) 0 := ⟨_, fun _ => rfl⟩
    have FIN : Hid (A.midN p.length (fun _ => 0) new p.length = A.streamS (A.keyW key) iv pl p) := by
      rw [A.midN_all]
      exact A.by_congr fun i _ => by rw [hnew, hPB]; exact rfl
    have PO : Hid (∀ q, A.ok 16 (PB q)) := fun q => by rw [hPB]; exact A.padB_ok KB.ws iv q
    have LO : Hid (∀ i, p.getD i 0 < 256) := fun i => (show A.ok p.length p from ⟨rfl, hp⟩).at i
    have ONF : Hid (∀ q : Nat, q < 1152921504606846976 → ∀ W, Calls Try.prog 27 #[aB iv, .int .u64 (q : Int)] W fun e w' => e = .returned (aB (A.ctr iv q)) ∧ Below W.heap.size W w') := fun q hq W => monw_fun iv hi q hq W
    have ENF : Hid (∀ (q : Nat) W, Below w.heap.size w W → Calls Try.prog 20 #[.agg cs.toArray, aB (A.ctr iv q)] W fun e w' => e = .returned (aB (PB q)) ∧ Below W.heap.size W w') := fun q W hW => by
      rw [hPB]
      exact C.enc key cs (A.ctr iv q) KB (A.ctr_ok iv q) W (C.tb ht hW) (C.up hk hW)
    have CL : Hid (cs.length = zk.length) := C.size hk
    have IL : Hid (iv.length = 16) := hi.1
    have PV : Hid (By w (.slice va p.length vc) p) := hv
    obtain ⟨x0, x1, x2⟩ := al2 w cs.toArray (iv.map b8).toArray 28 23
    have X0 : Hid (Blk _ w.heap.size cs) := x0
    have X1 : Hid (Blk _ (w.heap.size + 1) (iv.map b8)) := x1
    have X2 : Hid (Below w.heap.size w _) := x2
    obtain ⟨n, hn⟩ : ∃ n, n = p.length := ⟨_, rfl⟩
    have HN : Hid (n = p.length) := hn
    have ZN : Hid (n ≤ 140737488351248) := by rw [hn]; exact zp
    have HP : Hid (pl < 18446744073709551616) := hpl
    rw [← hn] at FIN PV ⊢
    have HNW : Hid (∀ i, new i = p.getD i 0 ^^^ (PB ((pl + i) % 18446744073709551616 / 16)).getD ((pl + i) % 18446744073709551616 % 16) 0) := hnew
    clear x0 x1 x2 hnew hPB hn zp hp hv hi hpl ht hk KB
    go_enter Try.func11, Try.ntmps11
    go_wp2_with (refine wp_mkB rfl (.tmp 14) (.tmp 14) rfl _ n (n : Int) (n : Int) rfl rfl rfl rfl (by have := ZN.out; omega) (Nat.le_refl _) ?_)
    intro w1 k1 hb1
    have K1 : Hid (RowB w1 (w.heap.size + 1 + 1) 5 (A.midN n (fun _ => 0) new 0)) := by
      have e : A.midN n (fun _ => 0) new 0 = List.replicate n 0 := by
        rw [A.midN_zero]
        unfold A.by_
        rw [show (fun _ : Nat => 0) = Function.const Nat 0 from rfl, List.map_const, List.length_range]
      rw [e]
      exact k1.row (by rw [List.length_replicate])
    have Y0 : Hid (Blk w1 w.heap.size cs) := X0.out.up hb1 (by omega)
    have Y1 : Hid (Blk w1 (w.heap.size + 1) (iv.map b8)) := X1.out.up hb1 (by omega)
    have Y2 : Hid (Below w.heap.size w w1) := X2.out.trans (hb1.mono (by omega))
    clear k1 hb1 X0 X1 X2
    obtain ⟨y0, y1⟩ := al1 w1 #[Value.int IntKind.u8 0, Value.int IntKind.u8 0, Value.int IntKind.u8 0, Value.int IntKind.u8 0, Value.int IntKind.u8 0, Value.int IntKind.u8 0, Value.int IntKind.u8 0, Value.int IntKind.u8 0, Value.int IntKind.u8 0, Value.int IntKind.u8 0, Value.int IntKind.u8 0, Value.int IntKind.u8 0, Value.int IntKind.u8 0, Value.int IntKind.u8 0, Value.int IntKind.u8 0, Value.int IntKind.u8 0] 23
    have A0 : Hid (Blk (w1.alloc (.cells #[Value.int IntKind.u8 0, Value.int IntKind.u8 0, Value.int IntKind.u8 0, Value.int IntKind.u8 0, Value.int IntKind.u8 0, Value.int IntKind.u8 0, Value.int IntKind.u8 0, Value.int IntKind.u8 0, Value.int IntKind.u8 0, Value.int IntKind.u8 0, Value.int IntKind.u8 0, Value.int IntKind.u8 0, Value.int IntKind.u8 0, Value.int IntKind.u8 0, Value.int IntKind.u8 0, Value.int IntKind.u8 0] 23)) w.heap.size cs) := Y0.out.up y1 Y0.out.lt
    have A1 : Hid (Blk (w1.alloc (.cells #[Value.int IntKind.u8 0, Value.int IntKind.u8 0, Value.int IntKind.u8 0, Value.int IntKind.u8 0, Value.int IntKind.u8 0, Value.int IntKind.u8 0, Value.int IntKind.u8 0, Value.int IntKind.u8 0, Value.int IntKind.u8 0, Value.int IntKind.u8 0, Value.int IntKind.u8 0, Value.int IntKind.u8 0, Value.int IntKind.u8 0, Value.int IntKind.u8 0, Value.int IntKind.u8 0, Value.int IntKind.u8 0] 23)) (w.heap.size + 1) (iv.map b8)) := Y1.out.up y1 Y1.out.lt
    have A2 : Hid (RowB (w1.alloc (.cells #[Value.int IntKind.u8 0, Value.int IntKind.u8 0, Value.int IntKind.u8 0, Value.int IntKind.u8 0, Value.int IntKind.u8 0, Value.int IntKind.u8 0, Value.int IntKind.u8 0, Value.int IntKind.u8 0, Value.int IntKind.u8 0, Value.int IntKind.u8 0, Value.int IntKind.u8 0, Value.int IntKind.u8 0, Value.int IntKind.u8 0, Value.int IntKind.u8 0, Value.int IntKind.u8 0, Value.int IntKind.u8 0] 23)) (w.heap.size + 1 + 1) 5 (A.midN n (fun _ => 0) new 0)) := K1.out.up y1 K1.out.lt
    have A3 : Hid (Blk (w1.alloc (.cells #[Value.int IntKind.u8 0, Value.int IntKind.u8 0, Value.int IntKind.u8 0, Value.int IntKind.u8 0, Value.int IntKind.u8 0, Value.int IntKind.u8 0, Value.int IntKind.u8 0, Value.int IntKind.u8 0, Value.int IntKind.u8 0, Value.int IntKind.u8 0, Value.int IntKind.u8 0, Value.int IntKind.u8 0, Value.int IntKind.u8 0, Value.int IntKind.u8 0, Value.int IntKind.u8 0, Value.int IntKind.u8 0] 23)) w1.heap.size ((List.replicate 16 0).map b8)) := y0
    have A4 : Hid (Below w.heap.size w (w1.alloc (.cells #[Value.int IntKind.u8 0, Value.int IntKind.u8 0, Value.int IntKind.u8 0, Value.int IntKind.u8 0, Value.int IntKind.u8 0, Value.int IntKind.u8 0, Value.int IntKind.u8 0, Value.int IntKind.u8 0, Value.int IntKind.u8 0, Value.int IntKind.u8 0, Value.int IntKind.u8 0, Value.int IntKind.u8 0, Value.int IntKind.u8 0, Value.int IntKind.u8 0, Value.int IntKind.u8 0, Value.int IntKind.u8 0] 23))) := Y2.out.trans (y1.mono Y2.out.size)
    have KS : Hid (w.heap.size + 1 + 1 < w1.heap.size) := K1.out.lt
    clear y0 y1 K1 Y0 Y1 Y2
    go_wp2_with (simp only [zero_a16])
    generalize w1.alloc _ = w2 at *
    obtain ⟨kb, hkb⟩ : ∃ kb, kb = w1.heap.size := ⟨_, rfl⟩
    obtain ⟨kk, hkk⟩ : ∃ kk, kk = w.heap.size := ⟨_, rfl⟩
    obtain ⟨ki, hki⟩ : ∃ ki, ki = w.heap.size + 1 := ⟨_, rfl⟩
    obtain ⟨ko, hko⟩ : ∃ ko, ko = w.heap.size + 1 + 1 := ⟨_, rfl⟩
    rw [← hkb] at KS A3 ⊢
    rw [← hko] at KS A2 ⊢
    rw [← hki] at A1 ⊢
    rw [← hkk] at A0
    have KS : Hid (kk = w.heap.size ∧ ki = w.heap.size + 1 ∧ ko = w.heap.size + 1 + 1 ∧ ko < kb) := ⟨hkk, hki, hko, KS.out⟩
    have EK : Value.pointer (some ⟨w.heap.size, 0, none⟩) = .pointer (some ⟨kk, 0, none⟩) := by rw [hkk]
    rw [EK]
    clear hkb hki hko hkk EK
    go_loopw [18] (fun i wr => ∃ (j : Nat) (l : List Nat), j ≤ n ∧ i = .int .i64 (j : Int) ∧ Hid (l.length = 16 ∧ (0 < j → l = PB ((pl + (j - 1)) % 18446744073709551616 / 16))) ∧ Hid (Blk wr kk cs) ∧ Hid (Blk wr ki (iv.map b8)) ∧ Hid (RowB wr ko 5 (A.midN n (fun _ => 0) new j)) ∧ Hid (Blk wr kb (l.map b8)) ∧ Hid (Below w.heap.size w wr)) (fun i _ => n - (intOf i).toNat)
    case atStart => exact ⟨0, List.replicate 16 0, by omega, rfl, ⟨by simp, fun h => absurd h (Nat.lt_irrefl _)⟩, A0, A1, A2, A3, A4⟩
    case round =>
      clear A0 A1 A2 A3 A4
      obtain ⟨j, l, hj, rfl, LL, X0, X1, X2, X3, X4⟩ := hrel
      by_cases hj1 : j < n
      · obtain ⟨g, q0, rfl, hnn, hr⟩ := PV.out.range (by have := HN.out; omega)
        clear hnn
        have PC : Hid (∀ W, Below w.heap.size w W → W.cell? ⟨g, q0 + j, none⟩ = some (b8 (p.getD j 0))) := fun W hW => by
          have h := hr j (b8 (p.getD j 0)) (by have := HN.out; simp [List.getD_eq_getElem?_getD, show j < p.length by omega])
          exact (hW.cell (p := ⟨g, q0 + j, none⟩) (lt_of_cellB h)).trans h
        have j1 : (j : Int) < (n : Int) := by omega
        have j0 : (0 : Int) ≤ (j : Int) := by omega
        have jN : j < n := hj1
        have wj : IntKind.i64.wrap ((j : Int) + 1) = (j : Int) + 1 := by have := ZN.out; rw [IntKind.wrap_i64]; omega
        have wu : IntKind.u64.wrap (j : Int) = (j : Int) := by have := ZN.out; rw [IntKind.wrap_u64]; omega
        obtain ⟨P0, hP0⟩ : ∃ P0, P0 = (pl + j) % 18446744073709551616 := ⟨_, rfl⟩
        have wp : IntKind.u64.wrap ((pl : Int) + (j : Int)) = (P0 : Int) := by rw [IntKind.wrap_u64]; omega
        obtain ⟨q, hqe⟩ : ∃ q, q = P0 / 16 := ⟨_, rfl⟩
        obtain ⟨rr, hrr⟩ : ∃ rr, rr = P0 % 16 := ⟨_, rfl⟩
        have d1 : (P0 : Int).tdiv 16 = (q : Int) := by rw [Int.tdiv_eq_ediv_of_nonneg (by omega)]; omega
        have d2 : (P0 : Int) / 16 = (q : Int) := by omega
        have m1 : (P0 : Int).tmod 16 = (rr : Int) := by rw [Int.tmod_eq_emod_of_nonneg (by omega)]; omega
        have m2 : (P0 : Int) % 16 = (rr : Int) := by omega
        have wq : IntKind.u64.wrap (q : Int) = (q : Int) := by rw [IntKind.wrap_u64]; omega
        have r16 : (rr : Int) < 16 := by omega
        have r0 : (0 : Int) ≤ (rr : Int) := by omega
        have R16 : Hid (rr < 16) := by show _ < _; omega
        have HQ : Hid (PB q = PB ((pl + j) % 18446744073709551616 / 16)) := by rw [hqe, hP0]; exact rfl
        have NW : Hid (new j = p.getD j 0 ^^^ (PB q).getD rr 0) := by rw [HNW.out j, hqe, hrr, hP0]; exact rfl
        have PQ : Hid ((PB q).length = 16) := (PO.out q).1
        obtain ⟨sj, hsj⟩ : ∃ sj, (PB q).getD rr 0 = sj := ⟨_, rfl⟩
        have SJ : Hid ((PB q).getD rr 0 = sj) := hsj
        obtain ⟨pj, hpj⟩ : ∃ pj, p.getD j 0 = pj := ⟨_, rfl⟩
        rw [hpj] at PC
        have xe : bits .xor .u8 (pj : Int) (sj : Int) = ((new j : Nat) : Int) := by
          rw [NW.out, hpj, hsj]
          exact g_xor (by rw [← hpj]; exact LO.out j) (by rw [← hsj]; exact (PO.out q).at rr)
        obtain ⟨nj, hnj⟩ : ∃ nj, nj = new j := ⟨_, rfl⟩
        have US : Hid (∀ W, RowB W ko 5 (A.midN n (fun _ => 0) new j) → RowB (W.setCell ⟨ko, j, none⟩ (b8 nj)) ko 5 (A.midN n (fun _ => 0) new (j + 1))) := fun W h => by
          rw [← A.midN_set _ new hj1, hnj]
          exact h.setB _ _
        rw [← hnj] at xe
        have J1 : Hid (j < n) := hj1
        have ON : Hid _ := ONF.out q (by omega)
        have EN : Hid _ := ENF.out q
        obtain ⟨ctq, hct⟩ : ∃ ctq, ctq = A.ctr iv q := ⟨_, rfl⟩
        rw [← hct] at ON EN
        have HCASE : Hid (¬ j = 0 → ¬ rr = 0 → l = PB q) := fun h1 h2 => by
          rw [LL.out.2 (by omega), hqe]
          congr 1
          have := HP.out
          omega
        clear hP0 hqe hrr hj hj1 hr hsj hpj hnj hct NW
        by_cases h0 : j = 0
        · have z0 : ((j : Int) == 0) = true := by simp [h0]
          clear h0 HCASE
          go_wp2_with fail
          refine wp_region_monoSE 6 [MP.eq (.agg cs.toArray), MP.eq (aB iv), MP.eq (.int .u64 (P0 : Int)), MP.eq (.int .u64 (q : Int)), MP.eq (aB ctq), MP.eq (aB (PB q))] (by kernel_rfl) (by kernel_rfl) rfl (by decide) (by kernel_rfl) ?_
          apply Exists.intro
          refine ⟨fun vals => ?_, ?_, fun vals8 w8 hb8 hF hO => ?_⟩
          · simp only [putsV, dstL, List.length_cons, List.length_nil, Nat.zero_add, Nat.reduceAdd, List.getElem?_cons_zero, List.getElem?_cons_succ, Option.bind_some, Act.put, List.setIfInBounds_toArray, List.set_cons_succ, List.set_cons_zero]
            rfl
          · refine ⟨?_, ?_, ?_, ?_, ?_, ?_, trivial⟩
            · intro vals W hW hw hd
              try simp [Region.binds] at hd
              refine ⟨by first | rfl | simp [Region.wanted, yielded, hd], ?_⟩
              exact C.ld (.tmp 4) rfl kk rfl cs CL.out (X0.out.up hW.out X0.out.lt).all rfl
            · intro vals W hW hw hd
              try simp [Region.binds] at hd
              refine ⟨by first | rfl | simp [Region.wanted, yielded, hd], ?_⟩
              exact yieldsA_load 23 (.tmp 5) rfl ki 0 rfl (iv.map b8) _ (X1.out.up hW.out X1.out.lt).all u_a16 rfl (info_n info_a16 iv IL.out) rfl
            · intro vals W hW hw hd
              try simp [Region.binds] at hd
              refine ⟨by first | rfl | simp [Region.wanted, yielded, hd], ?_⟩
              simp [go_sem, hd]
              exact Below.refl _ _
            · intro vals W hW hw hd
              try simp [Region.binds] at hd
              refine ⟨by first | rfl | simp [Region.wanted, yielded, hd], ?_⟩
              simp [go_sem, hd, d1, d2, wq]
              exact Below.refl _ _
            · intro vals W hW hw hd
              try simp [Region.binds] at hd
              refine ⟨by first | rfl | simp [Region.wanted, yielded, hd], ?_⟩
              simp [go_sem, hd]
              exact (ON.out W).mono fun e w' ⟨he, hb⟩ => ⟨_, he, rfl, hb⟩
            · intro vals W hW hw hd
              try simp [Region.binds] at hd
              refine ⟨by first | rfl | simp [Region.wanted, yielded, hd], ?_⟩
              simp [go_sem, hd]
              exact (EN.out W (X4.out.trans (hW.out.mono X4.out.size))).mono fun e w' ⟨he, hb⟩ => ⟨_, he, rfl, hb⟩
          obtain ⟨f0, f1, f2, f3, f4, f5, _⟩ := hF
          simp only [MP.eq_p] at f0 f1 f2 f3 f4 f5
          rw [f0, f1, f2, f3, f4, f5]
          simp only [List.drop_succ_cons, List.drop_zero]
          have W0 : Hid (Blk w8 kk cs) := X0.out.up hb8.out X0.out.lt
          have W1 : Hid (Blk w8 ki (iv.map b8)) := X1.out.up hb8.out X1.out.lt
          have W2 : Hid (RowB w8 ko 5 (A.midN n (fun _ => 0) new j)) := X2.out.up hb8.out X2.out.lt
          have W3 : Hid (Blk w8 kb (l.map b8)) := X3.out.up hb8.out X3.out.lt
          have W4 : Hid (Below w.heap.size w w8) := X4.out.trans (hb8.out.mono X4.out.size)
          have T8 : Hid (w8.there kb 0 ((PB q).map b8).length) := W3.out.there (by rw [List.length_map, List.length_map, PQ.out, LL.out.1]; omega)
          clear f0 f1 f2 f3 f4 f5 hb8 hO X0 X1 X2 X3 X4 ON EN
          go_wp2_with (refine wp_store_eq rfl 23 (.tmp 10) (.tmp 37) rfl kb 0 ((PB q).map b8) rfl rfl T8.out (info_n info_a16 (PB q) PQ.out) (one_b8 _) ?_)
          intro w9 hw9
          have Z0 : Hid (Blk w9 kk cs) := by rw [hw9.out]; exact W0.out.apart (by have := KS.out; omega)
          have Z1 : Hid (Blk w9 ki (iv.map b8)) := by rw [hw9.out]; exact W1.out.apart (by have := KS.out; omega)
          have Z2 : Hid (RowB w9 ko 5 (A.midN n (fun _ => 0) new j)) := by rw [hw9.out]; exact W2.out.apart (by have := KS.out; omega)
          have Z3 : Hid (Blk w9 kb ((PB q).map b8)) := by rw [hw9.out]; exact W3.out.put (by rw [List.length_map, List.length_map, PQ.out, LL.out.1])
          have Z4 : Hid (Below w.heap.size w w9) := by rw [hw9.out]; exact below_setCells _ _ _ W4.out (by have := KS.out; omega)
          clear hw9 T8 W0 W1 W2 W3 W4 LL
          have CP : Hid (∀ W, Below w9.heap.size w9 W → W.cell? ⟨g, q0 + j, none⟩ = some (b8 pj)) := fun W hW => PC.out W (Z4.out.trans (hW.mono Z4.out.size))
          have CS : Hid (∀ W, Below w9.heap.size w9 W → W.cell? ⟨kb, rr, none⟩ = some (b8 sj)) := fun W hW => by
            have := (Z3.out.up hW Z3.out.lt).byte rr (by rw [PQ.out]; exact R16.out)
            rw [SJ.out] at this
            exact this
          clear PC
          go_wp2_with fail
          refine wp_region_monoSE 12 [MP.eq (.slice (some ⟨ko, 0, none⟩) n n), MP.eq (.int .i64 (j : Int)), MP.eq (.slice (some ⟨g, q0, none⟩) n vc), MP.eq (.int .i64 (j : Int)), MP.eq (.pointer (some ⟨g, q0 + j, none⟩)), MP.eq (b8 pj), MP.eq (.int .u64 (P0 : Int)), MP.eq (.int .u64 (rr : Int)), MP.eq (.pointer (some ⟨kb, rr, none⟩)), MP.eq (b8 sj), MP.eq (b8 nj), MP.eq (.pointer (some ⟨ko, j, none⟩))] (by kernel_rfl) (by kernel_rfl) rfl (by decide) (by kernel_rfl) ?_
          apply Exists.intro
          refine ⟨fun vals => ?_, ?_, fun vals4 w4 hb4 hF hO => ?_⟩
          · simp only [putsV, dstL, List.length_cons, List.length_nil, Nat.zero_add, Nat.reduceAdd, List.getElem?_cons_zero, List.getElem?_cons_succ, Option.bind_some, Act.put, List.setIfInBounds_toArray, List.set_cons_succ, List.set_cons_zero]
            rfl
          · refine ⟨?_, ?_, ?_, ?_, ?_, ?_, ?_, ?_, ?_, ?_, ?_, ?_, trivial⟩
            · intro vals W hW hw hd
              try simp [Region.binds] at hd
              refine ⟨by first | rfl | simp [Region.wanted, yielded, hd], ?_⟩
              simp [go_sem, hd]
              exact Below.refl _ _
            · intro vals W hW hw hd
              try simp [Region.binds] at hd
              refine ⟨by first | rfl | simp [Region.wanted, yielded, hd], ?_⟩
              simp [go_sem, hd]
              exact Below.refl _ _
            · intro vals W hW hw hd
              try simp [Region.binds] at hd
              refine ⟨by first | rfl | simp [Region.wanted, yielded, hd], ?_⟩
              simp [go_sem, hd]
              exact Below.refl _ _
            · intro vals W hW hw hd
              try simp [Region.binds] at hd
              refine ⟨by first | rfl | simp [Region.wanted, yielded, hd], ?_⟩
              simp [go_sem, hd]
              exact Below.refl _ _
            · intro vals W hW hw hd
              try simp [Region.binds] at hd
              refine ⟨by first | rfl | simp [Region.wanted, yielded, hd], ?_⟩
              simp [go_sem, hd, j1, j0, jN]
              exact Below.refl _ _
            · intro vals W hW hw hd
              try simp [Region.binds] at hd
              refine ⟨by first | rfl | simp [Region.wanted, yielded, hd], ?_⟩
              have cc := CP.out W hW.out
              simp [go_sem, hd, cc]
              exact Below.refl _ _
            · intro vals W hW hw hd
              try simp [Region.binds] at hd
              refine ⟨by first | rfl | simp [Region.wanted, yielded, hd], ?_⟩
              simp [go_sem, hd]
              exact Below.refl _ _
            · intro vals W hW hw hd
              try simp [Region.binds] at hd
              refine ⟨by first | rfl | simp [Region.wanted, yielded, hd], ?_⟩
              simp [go_sem, hd, m1, m2]
              exact Below.refl _ _
            · intro vals W hW hw hd
              try simp [Region.binds] at hd
              refine ⟨by first | rfl | simp [Region.wanted, yielded, hd], ?_⟩
              simp [go_sem, hd, r16, r0]
              exact Below.refl _ _
            · intro vals W hW hw hd
              try simp [Region.binds] at hd
              refine ⟨by first | rfl | simp [Region.wanted, yielded, hd], ?_⟩
              have cc := CS.out W hW.out
              simp [go_sem, hd, cc]
              exact Below.refl _ _
            · intro vals W hW hw hd
              try simp [Region.binds] at hd
              refine ⟨by first | rfl | simp [Region.wanted, yielded, hd], ?_⟩
              simp [go_sem, hd, xe]
              exact Below.refl _ _
            · intro vals W hW hw hd
              try simp [Region.binds] at hd
              refine ⟨by first | rfl | simp [Region.wanted, yielded, hd], ?_⟩
              simp [go_sem, hd, j1, j0, jN]
              exact Below.refl _ _
          obtain ⟨f0, f1, f2, f3, f4, f5, f6, f7, f8, f9, f10, f11, _⟩ := hF
          simp only [MP.eq_p] at f0 f1 f2 f3 f4 f5 f6 f7 f8 f9 f10 f11
          rw [f0, f1, f2, f3, f4, f5, f6, f7, f8, f9, f10, f11]
          simp only [List.drop_succ_cons, List.drop_zero]
          have Y0 : Hid (Blk w4 kk cs) := Z0.out.up hb4.out Z0.out.lt
          have Y1 : Hid (Blk w4 ki (iv.map b8)) := Z1.out.up hb4.out Z1.out.lt
          have Y2 : Hid (RowB w4 ko 5 (A.midN n (fun _ => 0) new j)) := Z2.out.up hb4.out Z2.out.lt
          have Y3 : Hid (Blk w4 kb ((PB q).map b8)) := Z3.out.up hb4.out Z3.out.lt
          have Y4 : Hid (Below w.heap.size w w4) := Z4.out.trans (hb4.out.mono Z4.out.size)
          have c4 := Y2.out.blk.byte j (by rw [A.midN_length]; exact J1.out)
          have z4 := Y2.out.blk.fz j
          have V0 : Hid _ := Y0.out.apart1 (k' := ko) (o := j) (v := b8 nj) (by have := KS.out; omega)
          have V1 : Hid _ := Y1.out.apart1 (k' := ko) (o := j) (v := b8 nj) (by have := KS.out; omega)
          have V2 : Hid _ := US.out w4 Y2.out
          have V3 : Hid _ := Y3.out.apart1 (k' := ko) (o := j) (v := b8 nj) (by have := KS.out; omega)
          have V4 : Hid _ := Y4.out.setCell (p := ⟨ko, j, none⟩) (by have := KS.out; show w.heap.size ≤ ko; omega) (b8 nj)
          generalize (A.midN n (fun _ => 0) new j).getD j 0 = ox at *
          clear f0 f1 f2 f3 f4 f5 f6 f7 f8 f9 f10 f11 hb4 hO Z0 Z1 Z2 Z3 Z4 Y0 Y1 Y2 Y3 Y4 CP CS US
          go_wp2_with fail
          go_roundw
          case rel => exact ⟨j + 1, PB q, J1.out, by first | rfl | go_num, ⟨PQ.out, fun _ => by rw [Nat.add_sub_cancel]; exact HQ.out⟩, V0, V1, V2, V3, V4⟩
          case measure => have := J1.out; simp [intOf]; omega
        · have z0 : ((j : Int) == 0) = false := by simp [h0]
          by_cases h1 : rr = 0
          · have z1 : ((rr : Int) == 0) = true := by simp [h1]
            clear h0 h1 HCASE
            go_wp2_with fail
            refine wp_region_monoSE 6 [MP.eq (.agg cs.toArray), MP.eq (aB iv), MP.eq (.int .u64 (P0 : Int)), MP.eq (.int .u64 (q : Int)), MP.eq (aB ctq), MP.eq (aB (PB q))] (by kernel_rfl) (by kernel_rfl) rfl (by decide) (by kernel_rfl) ?_
            apply Exists.intro
            refine ⟨fun vals => ?_, ?_, fun vals8 w8 hb8 hF hO => ?_⟩
            · simp only [putsV, dstL, List.length_cons, List.length_nil, Nat.zero_add, Nat.reduceAdd, List.getElem?_cons_zero, List.getElem?_cons_succ, Option.bind_some, Act.put, List.setIfInBounds_toArray, List.set_cons_succ, List.set_cons_zero]
              rfl
            · refine ⟨?_, ?_, ?_, ?_, ?_, ?_, trivial⟩
              · intro vals W hW hw hd
                try simp [Region.binds] at hd
                refine ⟨by first | rfl | simp [Region.wanted, yielded, hd], ?_⟩
                exact C.ld (.tmp 4) rfl kk rfl cs CL.out (X0.out.up hW.out X0.out.lt).all rfl
              · intro vals W hW hw hd
                try simp [Region.binds] at hd
                refine ⟨by first | rfl | simp [Region.wanted, yielded, hd], ?_⟩
                exact yieldsA_load 23 (.tmp 5) rfl ki 0 rfl (iv.map b8) _ (X1.out.up hW.out X1.out.lt).all u_a16 rfl (info_n info_a16 iv IL.out) rfl
              · intro vals W hW hw hd
                try simp [Region.binds] at hd
                refine ⟨by first | rfl | simp [Region.wanted, yielded, hd], ?_⟩
                simp [go_sem, hd]
                exact Below.refl _ _
              · intro vals W hW hw hd
                try simp [Region.binds] at hd
                refine ⟨by first | rfl | simp [Region.wanted, yielded, hd], ?_⟩
                simp [go_sem, hd, d1, d2, wq]
                exact Below.refl _ _
              · intro vals W hW hw hd
                try simp [Region.binds] at hd
                refine ⟨by first | rfl | simp [Region.wanted, yielded, hd], ?_⟩
                simp [go_sem, hd]
                exact (ON.out W).mono fun e w' ⟨he, hb⟩ => ⟨_, he, rfl, hb⟩
              · intro vals W hW hw hd
                try simp [Region.binds] at hd
                refine ⟨by first | rfl | simp [Region.wanted, yielded, hd], ?_⟩
                simp [go_sem, hd]
                exact (EN.out W (X4.out.trans (hW.out.mono X4.out.size))).mono fun e w' ⟨he, hb⟩ => ⟨_, he, rfl, hb⟩
            obtain ⟨f0, f1, f2, f3, f4, f5, _⟩ := hF
            simp only [MP.eq_p] at f0 f1 f2 f3 f4 f5
            rw [f0, f1, f2, f3, f4, f5]
            simp only [List.drop_succ_cons, List.drop_zero]
            have W0 : Hid (Blk w8 kk cs) := X0.out.up hb8.out X0.out.lt
            have W1 : Hid (Blk w8 ki (iv.map b8)) := X1.out.up hb8.out X1.out.lt
            have W2 : Hid (RowB w8 ko 5 (A.midN n (fun _ => 0) new j)) := X2.out.up hb8.out X2.out.lt
            have W3 : Hid (Blk w8 kb (l.map b8)) := X3.out.up hb8.out X3.out.lt
            have W4 : Hid (Below w.heap.size w w8) := X4.out.trans (hb8.out.mono X4.out.size)
            have T8 : Hid (w8.there kb 0 ((PB q).map b8).length) := W3.out.there (by rw [List.length_map, List.length_map, PQ.out, LL.out.1]; omega)
            clear f0 f1 f2 f3 f4 f5 hb8 hO X0 X1 X2 X3 X4 ON EN
            go_wp2_with (refine wp_store_eq rfl 23 (.tmp 10) (.tmp 37) rfl kb 0 ((PB q).map b8) rfl rfl T8.out (info_n info_a16 (PB q) PQ.out) (one_b8 _) ?_)
            intro w9 hw9
            have Z0 : Hid (Blk w9 kk cs) := by rw [hw9.out]; exact W0.out.apart (by have := KS.out; omega)
            have Z1 : Hid (Blk w9 ki (iv.map b8)) := by rw [hw9.out]; exact W1.out.apart (by have := KS.out; omega)
            have Z2 : Hid (RowB w9 ko 5 (A.midN n (fun _ => 0) new j)) := by rw [hw9.out]; exact W2.out.apart (by have := KS.out; omega)
            have Z3 : Hid (Blk w9 kb ((PB q).map b8)) := by rw [hw9.out]; exact W3.out.put (by rw [List.length_map, List.length_map, PQ.out, LL.out.1])
            have Z4 : Hid (Below w.heap.size w w9) := by rw [hw9.out]; exact below_setCells _ _ _ W4.out (by have := KS.out; omega)
            clear hw9 T8 W0 W1 W2 W3 W4 LL
            have CP : Hid (∀ W, Below w9.heap.size w9 W → W.cell? ⟨g, q0 + j, none⟩ = some (b8 pj)) := fun W hW => PC.out W (Z4.out.trans (hW.mono Z4.out.size))
            have CS : Hid (∀ W, Below w9.heap.size w9 W → W.cell? ⟨kb, rr, none⟩ = some (b8 sj)) := fun W hW => by
              have := (Z3.out.up hW Z3.out.lt).byte rr (by rw [PQ.out]; exact R16.out)
              rw [SJ.out] at this
              exact this
            clear PC
            go_wp2_with fail
            refine wp_region_monoSE 12 [MP.eq (.slice (some ⟨ko, 0, none⟩) n n), MP.eq (.int .i64 (j : Int)), MP.eq (.slice (some ⟨g, q0, none⟩) n vc), MP.eq (.int .i64 (j : Int)), MP.eq (.pointer (some ⟨g, q0 + j, none⟩)), MP.eq (b8 pj), MP.eq (.int .u64 (P0 : Int)), MP.eq (.int .u64 (rr : Int)), MP.eq (.pointer (some ⟨kb, rr, none⟩)), MP.eq (b8 sj), MP.eq (b8 nj), MP.eq (.pointer (some ⟨ko, j, none⟩))] (by kernel_rfl) (by kernel_rfl) rfl (by decide) (by kernel_rfl) ?_
            apply Exists.intro
            refine ⟨fun vals => ?_, ?_, fun vals4 w4 hb4 hF hO => ?_⟩
            · simp only [putsV, dstL, List.length_cons, List.length_nil, Nat.zero_add, Nat.reduceAdd, List.getElem?_cons_zero, List.getElem?_cons_succ, Option.bind_some, Act.put, List.setIfInBounds_toArray, List.set_cons_succ, List.set_cons_zero]
              rfl
            · refine ⟨?_, ?_, ?_, ?_, ?_, ?_, ?_, ?_, ?_, ?_, ?_, ?_, trivial⟩
              · intro vals W hW hw hd
                try simp [Region.binds] at hd
                refine ⟨by first | rfl | simp [Region.wanted, yielded, hd], ?_⟩
                simp [go_sem, hd]
                exact Below.refl _ _
              · intro vals W hW hw hd
                try simp [Region.binds] at hd
                refine ⟨by first | rfl | simp [Region.wanted, yielded, hd], ?_⟩
                simp [go_sem, hd]
                exact Below.refl _ _
              · intro vals W hW hw hd
                try simp [Region.binds] at hd
                refine ⟨by first | rfl | simp [Region.wanted, yielded, hd], ?_⟩
                simp [go_sem, hd]
                exact Below.refl _ _
              · intro vals W hW hw hd
                try simp [Region.binds] at hd
                refine ⟨by first | rfl | simp [Region.wanted, yielded, hd], ?_⟩
                simp [go_sem, hd]
                exact Below.refl _ _
              · intro vals W hW hw hd
                try simp [Region.binds] at hd
                refine ⟨by first | rfl | simp [Region.wanted, yielded, hd], ?_⟩
                simp [go_sem, hd, j1, j0, jN]
                exact Below.refl _ _
              · intro vals W hW hw hd
                try simp [Region.binds] at hd
                refine ⟨by first | rfl | simp [Region.wanted, yielded, hd], ?_⟩
                have cc := CP.out W hW.out
                simp [go_sem, hd, cc]
                exact Below.refl _ _
              · intro vals W hW hw hd
                try simp [Region.binds] at hd
                refine ⟨by first | rfl | simp [Region.wanted, yielded, hd], ?_⟩
                simp [go_sem, hd]
                exact Below.refl _ _
              · intro vals W hW hw hd
                try simp [Region.binds] at hd
                refine ⟨by first | rfl | simp [Region.wanted, yielded, hd], ?_⟩
                simp [go_sem, hd, m1, m2]
                exact Below.refl _ _
              · intro vals W hW hw hd
                try simp [Region.binds] at hd
                refine ⟨by first | rfl | simp [Region.wanted, yielded, hd], ?_⟩
                simp [go_sem, hd, r16, r0]
                exact Below.refl _ _
              · intro vals W hW hw hd
                try simp [Region.binds] at hd
                refine ⟨by first | rfl | simp [Region.wanted, yielded, hd], ?_⟩
                have cc := CS.out W hW.out
                simp [go_sem, hd, cc]
                exact Below.refl _ _
              · intro vals W hW hw hd
                try simp [Region.binds] at hd
                refine ⟨by first | rfl | simp [Region.wanted, yielded, hd], ?_⟩
                simp [go_sem, hd, xe]
                exact Below.refl _ _
              · intro vals W hW hw hd
                try simp [Region.binds] at hd
                refine ⟨by first | rfl | simp [Region.wanted, yielded, hd], ?_⟩
                simp [go_sem, hd, j1, j0, jN]
                exact Below.refl _ _
            obtain ⟨f0, f1, f2, f3, f4, f5, f6, f7, f8, f9, f10, f11, _⟩ := hF
            simp only [MP.eq_p] at f0 f1 f2 f3 f4 f5 f6 f7 f8 f9 f10 f11
            rw [f0, f1, f2, f3, f4, f5, f6, f7, f8, f9, f10, f11]
            simp only [List.drop_succ_cons, List.drop_zero]
            have Y0 : Hid (Blk w4 kk cs) := Z0.out.up hb4.out Z0.out.lt
            have Y1 : Hid (Blk w4 ki (iv.map b8)) := Z1.out.up hb4.out Z1.out.lt
            have Y2 : Hid (RowB w4 ko 5 (A.midN n (fun _ => 0) new j)) := Z2.out.up hb4.out Z2.out.lt
            have Y3 : Hid (Blk w4 kb ((PB q).map b8)) := Z3.out.up hb4.out Z3.out.lt
            have Y4 : Hid (Below w.heap.size w w4) := Z4.out.trans (hb4.out.mono Z4.out.size)
            have c4 := Y2.out.blk.byte j (by rw [A.midN_length]; exact J1.out)
            have z4 := Y2.out.blk.fz j
            have V0 : Hid _ := Y0.out.apart1 (k' := ko) (o := j) (v := b8 nj) (by have := KS.out; omega)
            have V1 : Hid _ := Y1.out.apart1 (k' := ko) (o := j) (v := b8 nj) (by have := KS.out; omega)
            have V2 : Hid _ := US.out w4 Y2.out
            have V3 : Hid _ := Y3.out.apart1 (k' := ko) (o := j) (v := b8 nj) (by have := KS.out; omega)
            have V4 : Hid _ := Y4.out.setCell (p := ⟨ko, j, none⟩) (by have := KS.out; show w.heap.size ≤ ko; omega) (b8 nj)
            generalize (A.midN n (fun _ => 0) new j).getD j 0 = ox at *
            clear f0 f1 f2 f3 f4 f5 f6 f7 f8 f9 f10 f11 hb4 hO Z0 Z1 Z2 Z3 Z4 Y0 Y1 Y2 Y3 Y4 CP CS US
            go_wp2_with fail
            go_roundw
            case rel => exact ⟨j + 1, PB q, J1.out, by first | rfl | go_num, ⟨PQ.out, fun _ => by rw [Nat.add_sub_cancel]; exact HQ.out⟩, V0, V1, V2, V3, V4⟩
            case measure => have := J1.out; simp [intOf]; omega
          · have z1 : ((rr : Int) == 0) = false := by simp [h1]
            have LP := HCASE.out h0 h1
            subst LP
            have Z0 := X0
            have Z1 := X1
            have Z2 := X2
            have Z3 := X3
            have Z4 := X4
            have CP : Hid (∀ W, Below wr.heap.size wr W → W.cell? ⟨g, q0 + j, none⟩ = some (b8 pj)) := fun W hW => PC.out W (Z4.out.trans (hW.mono Z4.out.size))
            have CS : Hid (∀ W, Below wr.heap.size wr W → W.cell? ⟨kb, rr, none⟩ = some (b8 sj)) := fun W hW => by
              have := (Z3.out.up hW Z3.out.lt).byte rr (by rw [PQ.out]; exact R16.out)
              rw [SJ.out] at this
              exact this
            clear h0 h1 HCASE LL X0 X1 X2 X3 X4 PC ON EN
            go_wp2_with fail
            refine wp_region_monoSE 12 [MP.eq (.slice (some ⟨ko, 0, none⟩) n n), MP.eq (.int .i64 (j : Int)), MP.eq (.slice (some ⟨g, q0, none⟩) n vc), MP.eq (.int .i64 (j : Int)), MP.eq (.pointer (some ⟨g, q0 + j, none⟩)), MP.eq (b8 pj), MP.eq (.int .u64 (P0 : Int)), MP.eq (.int .u64 (rr : Int)), MP.eq (.pointer (some ⟨kb, rr, none⟩)), MP.eq (b8 sj), MP.eq (b8 nj), MP.eq (.pointer (some ⟨ko, j, none⟩))] (by kernel_rfl) (by kernel_rfl) rfl (by decide) (by kernel_rfl) ?_
            apply Exists.intro
            refine ⟨fun vals => ?_, ?_, fun vals4 w4 hb4 hF hO => ?_⟩
            · simp only [putsV, dstL, List.length_cons, List.length_nil, Nat.zero_add, Nat.reduceAdd, List.getElem?_cons_zero, List.getElem?_cons_succ, Option.bind_some, Act.put, List.setIfInBounds_toArray, List.set_cons_succ, List.set_cons_zero]
              rfl
            · refine ⟨?_, ?_, ?_, ?_, ?_, ?_, ?_, ?_, ?_, ?_, ?_, ?_, trivial⟩
              · intro vals W hW hw hd
                try simp [Region.binds] at hd
                refine ⟨by first | rfl | simp [Region.wanted, yielded, hd], ?_⟩
                simp [go_sem, hd]
                exact Below.refl _ _
              · intro vals W hW hw hd
                try simp [Region.binds] at hd
                refine ⟨by first | rfl | simp [Region.wanted, yielded, hd], ?_⟩
                simp [go_sem, hd]
                exact Below.refl _ _
              · intro vals W hW hw hd
                try simp [Region.binds] at hd
                refine ⟨by first | rfl | simp [Region.wanted, yielded, hd], ?_⟩
                simp [go_sem, hd]
                exact Below.refl _ _
              · intro vals W hW hw hd
                try simp [Region.binds] at hd
                refine ⟨by first | rfl | simp [Region.wanted, yielded, hd], ?_⟩
                simp [go_sem, hd]
                exact Below.refl _ _
              · intro vals W hW hw hd
                try simp [Region.binds] at hd
                refine ⟨by first | rfl | simp [Region.wanted, yielded, hd], ?_⟩
                simp [go_sem, hd, j1, j0, jN]
                exact Below.refl _ _
              · intro vals W hW hw hd
                try simp [Region.binds] at hd
                refine ⟨by first | rfl | simp [Region.wanted, yielded, hd], ?_⟩
                have cc := CP.out W hW.out
                simp [go_sem, hd, cc]
                exact Below.refl _ _
              · intro vals W hW hw hd
                try simp [Region.binds] at hd
                refine ⟨by first | rfl | simp [Region.wanted, yielded, hd], ?_⟩
                simp [go_sem, hd]
                exact Below.refl _ _
              · intro vals W hW hw hd
                try simp [Region.binds] at hd
                refine ⟨by first | rfl | simp [Region.wanted, yielded, hd], ?_⟩
                simp [go_sem, hd, m1, m2]
                exact Below.refl _ _
              · intro vals W hW hw hd
                try simp [Region.binds] at hd
                refine ⟨by first | rfl | simp [Region.wanted, yielded, hd], ?_⟩
                simp [go_sem, hd, r16, r0]
                exact Below.refl _ _
              · intro vals W hW hw hd
                try simp [Region.binds] at hd
                refine ⟨by first | rfl | simp [Region.wanted, yielded, hd], ?_⟩
                have cc := CS.out W hW.out
                simp [go_sem, hd, cc]
                exact Below.refl _ _
              · intro vals W hW hw hd
                try simp [Region.binds] at hd
                refine ⟨by first | rfl | simp [Region.wanted, yielded, hd], ?_⟩
                simp [go_sem, hd, xe]
                exact Below.refl _ _
              · intro vals W hW hw hd
                try simp [Region.binds] at hd
                refine ⟨by first | rfl | simp [Region.wanted, yielded, hd], ?_⟩
                simp [go_sem, hd, j1, j0, jN]
                exact Below.refl _ _
            obtain ⟨f0, f1, f2, f3, f4, f5, f6, f7, f8, f9, f10, f11, _⟩ := hF
            simp only [MP.eq_p] at f0 f1 f2 f3 f4 f5 f6 f7 f8 f9 f10 f11
            rw [f0, f1, f2, f3, f4, f5, f6, f7, f8, f9, f10, f11]
            simp only [List.drop_succ_cons, List.drop_zero]
            have Y0 : Hid (Blk w4 kk cs) := Z0.out.up hb4.out Z0.out.lt
            have Y1 : Hid (Blk w4 ki (iv.map b8)) := Z1.out.up hb4.out Z1.out.lt
            have Y2 : Hid (RowB w4 ko 5 (A.midN n (fun _ => 0) new j)) := Z2.out.up hb4.out Z2.out.lt
            have Y3 : Hid (Blk w4 kb ((PB q).map b8)) := Z3.out.up hb4.out Z3.out.lt
            have Y4 : Hid (Below w.heap.size w w4) := Z4.out.trans (hb4.out.mono Z4.out.size)
            have c4 := Y2.out.blk.byte j (by rw [A.midN_length]; exact J1.out)
            have z4 := Y2.out.blk.fz j
            have V0 : Hid _ := Y0.out.apart1 (k' := ko) (o := j) (v := b8 nj) (by have := KS.out; omega)
            have V1 : Hid _ := Y1.out.apart1 (k' := ko) (o := j) (v := b8 nj) (by have := KS.out; omega)
            have V2 : Hid _ := US.out w4 Y2.out
            have V3 : Hid _ := Y3.out.apart1 (k' := ko) (o := j) (v := b8 nj) (by have := KS.out; omega)
            have V4 : Hid _ := Y4.out.setCell (p := ⟨ko, j, none⟩) (by have := KS.out; show w.heap.size ≤ ko; omega) (b8 nj)
            generalize (A.midN n (fun _ => 0) new j).getD j 0 = ox at *
            clear f0 f1 f2 f3 f4 f5 f6 f7 f8 f9 f10 f11 hb4 hO Z0 Z1 Z2 Z3 Z4 Y0 Y1 Y2 Y3 Y4 CP CS US
            go_wp2_with fail
            go_roundw
            case rel => exact ⟨j + 1, PB q, J1.out, by first | rfl | go_num, ⟨PQ.out, fun _ => by rw [Nat.add_sub_cancel]; exact HQ.out⟩, V0, V1, V2, V3, V4⟩
            case measure => have := J1.out; simp [intOf]; omega
      · obtain rfl : j = n := by omega
        have n1 : ¬ (j : Int) < (j : Int) := by omega
        rw [FIN.out] at X2
        clear hj hj1
        go_wp2_with fail
        go_ret
        exact ⟨_, rfl, X2.out.by (by rw [A.streamS_length, HN.out]), X4.out⟩
end Go.Proofs.Ytmfbdacalenfdaa
