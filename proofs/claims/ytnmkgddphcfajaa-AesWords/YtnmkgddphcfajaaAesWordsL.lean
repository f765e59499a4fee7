/- AesWords out of the contracts of package aes. -/
import Derived.Test.YtnmkgddphcfajaaAesBackL
import Derived.Test.YtnmkgddphcfajaaQEq
import Derived.Test.YtnmkgddphcfajaaHEq
namespace Go.Proofs.Ytnmkgddphcfajaa
open Go.RowKit
set_option linter.unusedSimpArgs false
attribute [local go_sem] YieldsP execOp
attribute [local simp] MP.eq_p
set_option maxRecDepth 20000 in
set_option maxHeartbeats 1000000 in
theorem aesWords_of {Tb : World → Prop} {zk : List Value} {Ky : World → List Value → List Nat → Prop} (C : AesC Tb zk Ky) (va : Value) (ka : List Nat) (la : ∀ x ∈ ka, x < 256) (_ : ka.length ≤ 140737488351232) (vb : Value) (kb : List Nat) (lb : ∀ x ∈ kb, x < 256) (_ : kb.length ≤ 140737488351232) (w : World) (ht : Tb w) (ha : By w va ka) (hb : By w vb kb) :
    Calls Try.prog 6 #[va, vb] w fun e w' => e = .returned (.bool true) ∧ Below w.heap.size w w' := by
  have CO := C.zone
  have EA : Hid (¬ KeyN ka.length → Calls Try.prog 7 #[va] w fun e w' => e = .returned (.tuple #[.agg zk.toArray, .int .i64 1]) ∧ Below w.heap.size w w') := fun h => C.bad ka va la h w ht ha
  have EB : Hid (¬ KeyN kb.length → ∀ W, Below w.heap.size w W → Calls Try.prog 7 #[vb] W fun e w' => e = .returned (.tuple #[.agg zk.toArray, .int .i64 1]) ∧ Below W.heap.size W w') := fun h W hW => C.bad kb vb lb h W (C.tb ht hW) (hb.up hW (Nat.le_refl _))
  have GA : Hid (KeyB ka → Calls Try.prog 7 #[va] w fun e w' => ∃ cs, e = .returned (.tuple #[.agg cs.toArray, .int .i64 0]) ∧ Ky w' cs ka ∧ Below w.heap.size w w') := fun h => C.expand ka va h w ht ha
  have GB : Hid (KeyB kb → ∀ W, Below w.heap.size w W → Calls Try.prog 7 #[vb] W fun e w' => ∃ cs, e = .returned (.tuple #[.agg cs.toArray, .int .i64 0]) ∧ Ky w' cs kb ∧ Below W.heap.size W w') := fun h W hW => C.expand kb vb h W (C.tb ht hW) (hb.up hW (Nat.le_refl _))
  by_cases na : KeyN ka.length
  · have KA : KeyB ka := ⟨na, la⟩
    by_cases nb : KeyN kb.length
    · have KB : KeyB kb := ⟨nb, lb⟩
      obtain ⟨ws, hws⟩ : ∃ ws, ws = A.keyW ka := ⟨_, rfl⟩
      obtain ⟨vs, hvs⟩ : ∃ vs, vs = A.keyW kb := ⟨_, rfl⟩
      have WA : Hid (∀ cs W, Below w.heap.size w W → Ky W cs ka → Calls Try.prog 10 #[.agg cs.toArray] W fun e w' => ∃ v, e = .returned v ∧ Qs w' v ws ∧ Below W.heap.size W w') := fun cs W hW hK => by rw [hws]; exact C.words ka cs KA W (C.tb ht hW) hK
      have WB : Hid (∀ cs W, Below w.heap.size w W → Ky W cs kb → Calls Try.prog 10 #[.agg cs.toArray] W fun e w' => ∃ v, e = .returned v ∧ Qs w' v vs ∧ Below W.heap.size W w') := fun cs W hW hK => by rw [hvs]; exact C.words kb cs KB W (C.tb ht hW) hK
      have LW : Hid (ws.length = ka.length + 28) := by rw [hws]; exact KA.wl
      have BW : Hid (∀ i, i < ka.length → (ws.getD (i / 4) []).getD (i % 4) 0 = ka.getD i 0) := fun i hi => by rw [hws]; exact A.keyW_byte KA.mod hi
      have OW : Hid (A.okW ws) := by rw [hws]; exact KA.ws
      have OV : Hid (A.okW vs) := by rw [hvs]; exact KB.ws
      have IJ : Hid (decide (ws = vs) = decide (ka = kb)) := by show _ = _; rw [hws, hvs]; simp only [A.keyW_inj KA.mod KB.mod]
      have L32 : Hid (ka.length ≤ 32) := KA.le
      have HA : Hid (∀ W, Below w.heap.size w W → By W va ka) := fun W hW => ha.up hW (Nat.le_refl _)
      have HB : Hid (∀ W, Below w.heap.size w W → By W vb kb) := fun W hW => hb.up hW (Nat.le_refl _)
      have LA : Hid (∀ x ∈ ka, x < 256) := la
      have LB : Hid (∀ x ∈ kb, x < 256) := lb
      have E1 : Hid _ := GA.out KA
      have E2 : Hid _ := GB.out KB
      obtain ⟨aa, ca, rfl, hca, hza, hcell⟩ := id ha
      have AC : Hid (∀ W i, Below w.heap.size w W → i < ka.length → ∃ b o, aa = some ⟨b, o, none⟩ ∧ W.cell? ⟨b, o + i, none⟩ = some (b8 (ka.getD i 0))) := fun W i hW hi => by
        obtain ⟨b, o, e, hc⟩ := hcell (by omega)
        refine ⟨b, o, e, ?_⟩
        have h1 := hc i hi
        exact (hW.cell (p := ⟨b, o + i, none⟩) (lt_of_cellB h1)).trans h1
      clear hws hvs EA EB GA GB la lb ha hb na nb hza hcell KA KB CO
      go_enter Try.func6, Try.ntmps6
      go_wp2_with fail
      refine Calls.mono E1.out ?_
      rintro e w1 ⟨cs, rfl, hky, hb1⟩
      have KY1 : Hid (Ky w1 cs ka) := hky
      have D1 : Hid (Below w.heap.size w w1) := hb1
      have CL : Hid (cs.length = zk.length) := C.size hky
      have CO : Hid (∀ v ∈ cs, v.oneCell' = true) := C.one hky
      clear hky hb1 E1
      go_wp2_with (refine C.make rfl rfl 5 (.tmp 16) rfl rfl rfl rfl cs CL.out CO.out rfl rfl ?_)
      intro w2 k2 hb2
      obtain ⟨kk, hkk⟩ : ∃ kk, kk = w1.heap.size := ⟨_, rfl⟩
      rw [← hkk] at k2 ⊢
      have K2 : Hid (Blk w2 kk cs) := k2
      have KY2 : Hid (Ky w2 cs ka) := C.up KY1.out hb2
      have D2 : Hid (Below w.heap.size w w2) := D1.out.trans (hb2.mono D1.out.size)
      clear k2 hb2 hkk KY1 D1
      go_wp2_with fail
      refine Calls.mono (E2.out w2 D2.out) ?_
      rintro e w3 ⟨ds, rfl, hky, hb3⟩
      have KZ3 : Hid (Ky w3 ds kb) := hky
      have K3 : Hid (Blk w3 kk cs) := K2.out.up hb3 K2.out.lt
      have KY3 : Hid (Ky w3 cs ka) := C.up KY2.out hb3
      have D3 : Hid (Below w.heap.size w w3) := D2.out.trans (hb3.mono D2.out.size)
      have DL : Hid (ds.length = zk.length) := C.size hky
      have DO : Hid (∀ v ∈ ds, v.oneCell' = true) := C.one hky
      clear hky hb3 E2 K2 KY2 D2
      go_wp2_with (refine C.make rfl rfl 7 (.tmp 21) rfl rfl rfl rfl ds DL.out DO.out rfl rfl ?_)
      intro w4 k4 hb4
      obtain ⟨kl, hkl⟩ : ∃ kl, kl = w3.heap.size := ⟨_, rfl⟩
      rw [← hkl] at k4 ⊢
      have K4 : Hid (Blk w4 kk cs) := K3.out.up hb4 K3.out.lt
      have M4 : Hid (Blk w4 kl ds) := k4
      have KY4 : Hid (Ky w4 cs ka) := C.up KY3.out hb4
      have KZ4 : Hid (Ky w4 ds kb) := C.up KZ3.out hb4
      have D4 : Hid (Below w.heap.size w w4) := D3.out.trans (hb4.mono D3.out.size)
      clear k4 hb4 hkl K3 KY3 KZ3 D3
      have RK : Hid (∀ W, Below w4.heap.size w4 W → W.rangeAt kk 0 cs) := fun W hW => (K4.out.up hW K4.out.lt).all
      have RL : Hid (∀ W, Below w4.heap.size w4 W → W.rangeAt kl 0 ds) := fun W hW => (M4.out.up hW M4.out.lt).all
      have KU : Hid (∀ W, Below w4.heap.size w4 W → Ky W cs ka ∧ Ky W ds kb ∧ Below w.heap.size w W) := fun W hW => ⟨C.up KY4.out hW, C.up KZ4.out hW, D4.out.trans (hW.mono D4.out.size)⟩
      go_wp2_with fail
      refine wp_region_monoE [MP.eq (.agg cs.toArray), MP.qs ws, MP.eq (.agg ds.toArray), MP.qs vs, MP.qs ws, MP.qs vs] (by kernel_rfl) (by kernel_rfl) rfl ?_
      apply Exists.intro
      refine ⟨fun vals => ?_, ?_, fun vals5 w5 hb5 hF => ?_⟩
      · simp only [putsV, dstL, List.length_cons, List.length_nil, Nat.zero_add, Nat.reduceAdd, List.getElem?_cons_zero, List.getElem?_cons_succ, Option.bind_some, Act.put, List.setIfInBounds_toArray, List.set_cons_succ, List.set_cons_zero]
        rfl
      · refine ⟨?_, ?_, ?_, ?_, ?_, ?_, trivial⟩
        · intro vals W hW hw hd
          try simp [Region.binds] at hd
          refine ⟨by first | rfl | simp [Region.wanted, yielded, hd], ?_⟩
          exact C.ld (.tmp 5) rfl kk rfl cs CL.out (RK.out W hW.out) rfl
        · intro vals W hW hw hd
          try simp [Region.binds] at hd
          refine ⟨by first | rfl | simp [Region.wanted, yielded, hd], ?_⟩
          simp [go_sem, hd]
          exact (WA.out cs W (KU.out W hW.out).2.2 (KU.out W hW.out).1).mono fun e w' ⟨v, he, hq, hb⟩ => ⟨v, he, hq, hb⟩
        · intro vals W hW hw hd
          try simp [Region.binds] at hd
          refine ⟨by first | rfl | simp [Region.wanted, yielded, hd], ?_⟩
          exact C.ld (.tmp 7) rfl kl rfl ds DL.out (RL.out W hW.out) rfl
        · intro vals W hW hw hd
          try simp [Region.binds] at hd
          refine ⟨by first | rfl | simp [Region.wanted, yielded, hd], ?_⟩
          simp [go_sem, hd]
          exact (WB.out ds W (KU.out W hW.out).2.2 (KU.out W hW.out).2.1).mono fun e w' ⟨v, he, hq, hb⟩ => ⟨v, he, hq, hb⟩
        · intro vals W hW hw hd
          try simp [Region.binds] at hd
          refine ⟨by first | rfl | simp [Region.wanted, yielded, hd], ?_⟩
          simp [go_sem]
          exact ⟨hd.1, Below.refl _ _⟩
        · intro vals W hW hw hd
          try simp [Region.binds] at hd
          refine ⟨by first | rfl | simp [Region.wanted, yielded, hd], ?_⟩
          simp [go_sem]
          exact ⟨hd.1, Below.refl _ _⟩
      obtain ⟨f0, f1, f2, f3, f4, f5, _⟩ := hF
      simp only [MP.eq_p] at f0 f2
      have Q4 : Qs w5 (vals5 4) ws := f4
      have Q5 : Hid (∀ W, Below w5.heap.size w5 W → Qs W (vals5 5) vs) := fun W hW => Qs.up (show Qs w5 (vals5 5) vs from f5) hW (Nat.le_refl _)
      have Q4' : Hid (∀ W, Below w5.heap.size w5 W → Qs W (vals5 4) ws) := fun W hW => Q4.up hW (Nat.le_refl _)
      obtain ⟨sa, sc, e4, hsc, hsr⟩ := Q4
      obtain ⟨g, go, rfl, hr⟩ := hsr (by rw [LW.out]; omega)
      rw [e4] at Q4'
      rw [e4]
      rw [LW.out] at Q4' hr ⊢
      generalize vals5 5 = v5 at *
      generalize vals5 0 = x0 at *
      generalize vals5 1 = x1 at *
      generalize vals5 2 = x2 at *
      generalize vals5 3 = x3 at *
      have D5 : Hid (Below w.heap.size w w5) := D4.out.trans (hb5.out.mono D4.out.size)
      have L32' := L32.out
      obtain ⟨n, hn⟩ : ∃ n, n = ka.length := ⟨_, rfl⟩
      obtain ⟨m, hm⟩ : ∃ m, m = n + 28 := ⟨_, rfl⟩
      rw [← hn] at hr Q4' L32 L32' AC BW ⊢
      rw [← hm] at hr Q4' ⊢
      have HR : Hid (∀ W j, Below w5.heap.size w5 W → j < m → W.rangeAt g (go + j * 4) ((ws.getD j []).map b8)) := fun W j hW hj => range_upq (hr j hj) hW (Nat.le_refl _)
      have WL4 : Hid (∀ j, j < m → (ws.getD j []).length = 4) := fun j hj => by
        have hl : j < ws.length := by rw [LW.out, ← hn, ← hm]; exact hj
        rw [List.getD_eq_getElem?_getD, List.getElem?_eq_getElem hl]
        exact (OW.out _ (List.getElem_mem hl)).1
      have wm : IntKind.i64.wrap ((n : Int) + 28) = (m : Int) := by rw [IntKind.wrap_i64]; omega
      have MN : Hid (m = n + 28) := hm
      have EQ1 : Hid (∀ W, Below w5.heap.size w5 W → Calls Try.prog 9 #[.slice (some ⟨g, go, none⟩) m sc, v5] W fun e w' => e = .returned (.bool (decide (ws = vs))) ∧ Below W.heap.size W w') := fun W hW => equalQ_fun ws vs OW.out OV.out (by rw [LW.out]; have := L32.out; omega) _ _ W (Q4'.out W hW) (Q5.out W hW)
      have EQ2 : Hid (∀ W, Below w5.heap.size w5 W → Calls Try.prog 15 #[.slice aa n ca, vb] W fun e w' => e = .returned (.bool (decide (ka = kb))) ∧ Below W.heap.size W w') := fun W hW => by
        have := equal_fun _ _ ka kb LA.out LB.out W (HA.out W (D5.out.trans (hW.mono D5.out.size))) (HB.out W (D5.out.trans (hW.mono D5.out.size)))
        rw [← hn] at this
        exact this
      rw [IJ.out] at EQ1
      obtain ⟨qq, hqq⟩ : ∃ q, q = decide (ka = kb) := ⟨_, rfl⟩
      rw [← hqq] at EQ1 EQ2
      clear hqq hr e4 hn hm f0 f1 f2 f3 f4 f5 hb5 Q4' Q5 RK RL KU K4 M4 KY4 KZ4 D4 HA HB WA WB LA LB IJ CL CO DL DO hca
      go_wp2_with fail
      go_loopw [41] (fun i wr => ∃ j : Nat, j ≤ n ∧ i = .int .i64 (j : Int) ∧ Hid (Below w5.heap.size w5 wr)) (fun i _ => n - (intOf i).toNat)
      case atStart => exact ⟨0, by omega, rfl, Below.refl _ _⟩
      case round =>
        obtain ⟨j, hj, rfl, hb⟩ := hrel
        by_cases hj1 : j < n
        · have j1 : (j : Int) < (n : Int) := by omega
          have wj : IntKind.i64.wrap ((j : Int) + 1) = (j : Int) + 1 := by rw [IntKind.wrap_i64]; omega
          obtain ⟨b, o, rfl, ac⟩ := AC.out wr j (D5.out.trans (hb.out.mono D5.out.size)) hj1
          obtain ⟨q, hq⟩ : ∃ q, q = j / 4 := ⟨_, rfl⟩
          obtain ⟨r, hr⟩ : ∃ r, r = j % 4 := ⟨_, rfl⟩
          have d1 : (j : Int).tdiv 4 = (q : Int) := by rw [Int.tdiv_eq_ediv_of_nonneg (by omega)]; omega
          have d2 : (j : Int) / 4 = (q : Int) := by omega
          have m1 : (j : Int).tmod 4 = (r : Int) := by rw [Int.tmod_eq_emod_of_nonneg (by omega)]; omega
          have m2 : (j : Int) % 4 = (r : Int) := by omega
          have wq : IntKind.i64.wrap (q : Int) = (q : Int) := by rw [IntKind.wrap_i64]; omega
          have hqm : q < m := by have := MN.out; omega
          have ql : (q : Int) < (m : Int) := by omega
          have rl : (r : Int) < 4 := by omega
          have wc := HR.out wr q hb.out hqm r (b8 (ka.getD j 0)) (by
            have h4 := WL4.out q hqm
            have hb4 := BW.out j hj1
            rw [← hq, ← hr] at hb4
            generalize ws.getD q [] = lq at *
            rw [← hb4, List.getElem?_map, List.getD_eq_getElem?_getD, List.getElem?_eq_getElem (by omega)]
            rfl)
          generalize ka.getD j 0 = kj at *
          have JJ : Hid (j < n) := hj1
          clear hq hr hqm hj hj1 AC
          go_wp2_with fail
          go_roundw
          case rel => exact ⟨j + 1, JJ.out, by first | rfl | go_num, hb⟩
          case measure => have := JJ.out; simp [intOf]; omega
        · obtain rfl : j = n := by omega
          clear hj hj1
          go_wp2_with fail
          refine Calls.mono (EQ1.out _ hb.out) ?_
          rintro e w6 ⟨rfl, hb6⟩
          have D6 : Hid (Below w5.heap.size w5 w6) := hb.out.trans (hb6.mono hb.out.size)
          clear hb6
          go_wp2_with fail
          refine Calls.mono (EQ2.out _ D6.out) ?_
          rintro e w7 ⟨rfl, hb7⟩
          have D7 : Hid (Below w.heap.size w w7) := D5.out.trans ((D6.out.trans (hb7.mono D6.out.size)).mono D5.out.size)
          clear hb7
          go_wp2_with fail
          go_ret
          exact ⟨by simp, D7.out⟩
    · have E1 : Hid _ := GA.out KA
      have E2 : Hid _ := EB.out nb
      clear EA EB GA GB la lb ha hb na nb KA
      go_enter Try.func6, Try.ntmps6
      go_wp2_with fail
      refine Calls.mono E1.out ?_
      rintro e w1 ⟨cs, rfl, hky, hb1⟩
      have D1 : Hid (Below w.heap.size w w1) := hb1
      have CL : Hid (cs.length = zk.length) := C.size hky
      have CQ : Hid (∀ v ∈ cs, v.oneCell' = true) := C.one hky
      clear hky hb1 E1
      go_wp2_with (refine C.make rfl rfl 5 (.tmp 16) rfl rfl rfl rfl cs CL.out CQ.out rfl rfl ?_)
      intro w2 _ hb2
      have D2 : Hid (Below w.heap.size w w2) := D1.out.trans (hb2.mono D1.out.size)
      clear hb2 D1
      go_wp2_with fail
      refine Calls.mono (E2.out w2 D2.out) ?_
      rintro e w3 ⟨rfl, hb3⟩
      have D3 : Hid (Below w.heap.size w w3) := D2.out.trans (hb3.mono D2.out.size)
      clear hb3 E2 D2
      go_wp2_with (refine C.make rfl rfl 7 (.tmp 21) rfl rfl rfl rfl zk rfl CO rfl rfl ?_)
      intro w4 _ hb4
      have D4 : Hid (Below w.heap.size w w4) := D3.out.trans (hb4.mono D3.out.size)
      clear hb4 D3
      go_wp2_with fail
      go_ret
      exact ⟨rfl, D4.out⟩
  · clear GA GB
    by_cases nb : KeyN kb.length
    · have E1 : Hid _ := EA.out na
      have E2 : Hid (∀ W, Below w.heap.size w W → Calls Try.prog 7 #[vb] W fun e w' => ∃ cs, e = .returned (.tuple #[.agg cs.toArray, .int .i64 0]) ∧ Ky w' cs kb ∧ Below W.heap.size W w') := fun W hW => C.expand kb vb ⟨nb, lb⟩ W (C.tb ht hW) (hb.up hW (Nat.le_refl _))
      clear EA EB la lb ha hb na nb
      go_enter Try.func6, Try.ntmps6
      go_wp2_with fail
      refine Calls.mono E1.out ?_
      rintro e w1 ⟨rfl, hb1⟩
      have D1 : Hid (Below w.heap.size w w1) := hb1
      clear hb1 E1
      go_wp2_with (refine C.make rfl rfl 5 (.tmp 16) rfl rfl rfl rfl zk rfl CO rfl rfl ?_)
      intro w2 _ hb2
      have D2 : Hid (Below w.heap.size w w2) := D1.out.trans (hb2.mono D1.out.size)
      clear hb2 D1
      go_wp2_with fail
      refine Calls.mono (E2.out w2 D2.out) ?_
      rintro e w3 ⟨cs, rfl, hky, hb3⟩
      have D3 : Hid (Below w.heap.size w w3) := D2.out.trans (hb3.mono D2.out.size)
      have CL : Hid (cs.length = zk.length) := C.size hky
      have CQ : Hid (∀ v ∈ cs, v.oneCell' = true) := C.one hky
      clear hb3 E2 D2 hky
      go_wp2_with (refine C.make rfl rfl 7 (.tmp 21) rfl rfl rfl rfl cs CL.out CQ.out rfl rfl ?_)
      intro w4 _ hb4
      have D4 : Hid (Below w.heap.size w w4) := D3.out.trans (hb4.mono D3.out.size)
      clear hb4 D3
      go_wp2_with fail
      go_ret
      exact ⟨rfl, D4.out⟩
    · have E1 : Hid _ := EA.out na
      have E2 : Hid _ := EB.out nb
      clear EA EB la lb ha hb na nb
      go_enter Try.func6, Try.ntmps6
      go_wp2_with fail
      refine Calls.mono E1.out ?_
      rintro e w1 ⟨rfl, hb1⟩
      have D1 : Hid (Below w.heap.size w w1) := hb1
      clear hb1 E1
      go_wp2_with (refine C.make rfl rfl 5 (.tmp 16) rfl rfl rfl rfl zk rfl CO rfl rfl ?_)
      intro w2 _ hb2
      have D2 : Hid (Below w.heap.size w w2) := D1.out.trans (hb2.mono D1.out.size)
      clear hb2 D1
      go_wp2_with fail
      refine Calls.mono (E2.out w2 D2.out) ?_
      rintro e w3 ⟨rfl, hb3⟩
      have D3 : Hid (Below w.heap.size w w3) := D2.out.trans (hb3.mono D2.out.size)
      clear hb3 E2 D2
      go_wp2_with (refine C.make rfl rfl 7 (.tmp 21) rfl rfl rfl rfl zk rfl CO rfl rfl ?_)
      intro w4 _ hb4
      have D4 : Hid (Below w.heap.size w w4) := D3.out.trans (hb4.mono D3.out.size)
      clear hb4 D3
      go_wp2_with fail
      go_ret
      exact ⟨rfl, D4.out⟩
end Go.Proofs.Ytnmkgddphcfajaa
