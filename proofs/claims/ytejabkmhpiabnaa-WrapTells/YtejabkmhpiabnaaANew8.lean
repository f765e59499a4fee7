/- The contract of sealringref.NewCipher, for a key of 32 bytes. -/
import Derived.Test.YtejabkmhpiabnaaGrp24
namespace Go.Proofs.Ytejabkmhpiabnaa
open Go.RowKit
set_option linter.unusedSimpArgs false
attribute [local go_sem] YieldsP execOp
attribute [local simp] MP.eq_p
set_option maxRecDepth 20000 in
set_option maxHeartbeats 4000000 in
theorem rnew8_fun (key : List Nat) (hk : A.ok 32 key) (w : World) : Calls Try.prog 8 #[.string (sOf key)] w fun e w' => (∃ kc, e = .returned (.tuple #[.pointer (some ⟨kc, 0, none⟩), .int .i64 0]) ∧ Cph w' kc (A.keyW key)) ∧ Below w.heap.size w w' := by
  have SG : Hid (∀ (j : Nat) (h : j < (sOf key).size), ((sOf key)[j]'h).toNat = key.getD j 0) := sOf_get hk.2
  have SZ : (sOf key).size = 32 := by rw [sOf_size]; exact hk.1
  have KN : Hid (A.keyN key = 8) := by unfold A.keyN; rw [hk.1]; exact rfl
  have HK : Hid (A.ok 32 key) := hk
  have RB : Hid _ := rbox_fun
  have RU : Hid _ := runbox_fun
  have BL : Hid (G.boxL.length = 256) := by show _ = _; simp [G.boxL]
  have UL : Hid (G.unboxL.length = 256) := by show _ = _; simp [G.unboxL]
  have CU : Hid (∀ W kc v ws, Oq W (kc + 1) v ws → Blk W kc (v :: (G.boxL ++ G.unboxL).map b8) → Cph W kc ws) := fun W kc v ws h1 h2 => ⟨v, h1.qs, h2⟩
  obtain ⟨bx, hbx⟩ : ∃ bx, bx = G.boxL := ⟨_, rfl⟩
  obtain ⟨ub, hub⟩ : ∃ ub, ub = G.unboxL := ⟨_, rfl⟩
  have BX : Hid (∀ v, v < 256 → bx.getD v 0 = G.sub v) := fun v hv => by rw [hbx]; exact box_get hv
  rw [← hbx] at RB RU BL CU
  rw [← hub] at RU UL CU
  generalize sOf key = T at *
  clear hbx hub hk
  go_enter Try.func8, Try.ntmps8
  go_wp2_with fail
  refine Calls.mono (RB.out w) ?_
  rintro e w1 ⟨rfl, hb1⟩
  have D1 : Hid (Below w.heap.size w w1) := hb1
  obtain ⟨cs, hcs⟩ : ∃ cs : List Value, cs = .slice none 0 0 :: (bx.map b8 ++ zB 256) := ⟨_, rfl⟩
  have CS : Hid (cs = .slice none 0 0 :: (bx.map b8 ++ zB 256)) := hcs
  clear hcs hb1 RB
  obtain ⟨x0, x1⟩ := al1 w1 cs.toArray 46
  have X0 : Hid (Blk _ w1.heap.size cs) := x0
  have X1 : Hid (Below w1.heap.size w1 _) := x1
  clear x0 x1
  have R1 : Hid ((w1.alloc (.cells cs.toArray 46)).rangeAt w1.heap.size 1 (bx.map b8)) := by
    refine Blk.range (a := [.slice none 0 0]) (b := bx.map b8) (c := zB 256) (o := 1) ?_ rfl
    rw [← show cs = [.slice none 0 0] ++ (bx.map b8 ++ zB 256) from CS.out]
    exact X0.out
  go_wp2_with (first | refine wp_buildC rfl (.tmp 24) rfl bx BL.out rfl cs CS ?_ | refine wpList_load_mid rfl 42 (.tmp 30) rfl w1.heap.size 1 rfl (bx.map b8) _ R1.out u_a256 rfl (info_n info_a256 bx BL.out) ?_)
  refine Calls.mono (RU.out _) ?_
  rintro e w2 ⟨rfl, hb2⟩
  obtain ⟨kc, hkc⟩ : ∃ kc, kc = w1.heap.size := ⟨_, rfl⟩
  rw [← hkc] at X0
  have KB : Hid (w.heap.size ≤ kc) := by rw [hkc]; exact D1.out.size
  have D2 : Hid (Below w.heap.size w w2) := D1.out.trans ((X1.out.trans (hb2.mono (by simp))).mono D1.out.size)
  have X2 : Hid (Blk w2 kc ((.slice none 0 0 :: bx.map b8) ++ (zB 256 ++ []))) := by
    have h := X0.out.up hb2 X0.out.lt
    rw [CS.out] at h
    rw [List.append_nil]
    exact h
  rw [← hkc]
  have T2 : Hid (w2.there kc 257 (ub.map b8).length) := X2.out.there (by rw [List.length_map, UL.out]; simp [zB_length, BL.out])
  clear hkc R1 X0 X1 D1 CS hb2 RU
  go_wp2_with (refine wp_store_eq rfl 42 (.tmp 34) (.tmp 32) rfl kc 257 (ub.map b8) rfl rfl T2.out (info_n info_a256 ub UL.out) (one_b8 _) ?_)
  intro w3 hw3
  have X3 : Hid (Blk w3 kc (.slice none 0 0 :: (bx ++ ub).map b8)) := by
    rw [hw3.out]
    have h := X2.out.store (o := 257) (b' := ub.map b8) (by simp [BL.out]) (by rw [List.length_map, UL.out, zB_length])
    rw [List.append_nil] at h
    rw [List.map_append]
    exact h
  have D3 : Hid (Below w.heap.size w w3) := by rw [hw3.out]; exact below_setCells _ _ _ D2.out KB.out
  have O3 : Hid (Oq w3 (kc + 1) (.slice none 0 0) (A.firstW key 0)) := Oq.nil _ _
  clear hw3 T2 X2 D2
  go_wp2_with fail
  go_loopw [39] (fun i wr => ∃ (j : Nat) (v : Value), j ≤ 8 ∧ i = .int .i64 (j : Int) ∧ Hid (Oq wr (kc + 1) v (A.firstW key j)) ∧ Hid (Blk wr kc (v :: (bx ++ ub).map b8)) ∧ Hid (Below w.heap.size w wr)) (fun i _ => 8 - (intOf i).toNat)
  case atStart => exact ⟨0, .slice none 0 0, by omega, rfl, O3, X3, D3⟩
  case round =>
    clear O3 X3 D3
    obtain ⟨j, v, hj, rfl, O3, X3, D3⟩ := hrel
    by_cases hj1 : j < 8
    · have j1 : (j : Int) < 8 := by omega
      have wj : IntKind.i64.wrap ((j : Int) + 1) = (j : Int) + 1 := by rw [IntKind.wrap_i64]; omega
      have p0 : IntKind.i64.wrap (4 * (j : Int)) = ((4 * j : Nat) : Int) := by rw [IntKind.wrap_i64]; omega
      have p1 : IntKind.i64.wrap (((4 * j : Nat) : Int) + 1) = ((4 * j + 1 : Nat) : Int) := by rw [IntKind.wrap_i64]; omega
      have p2 : IntKind.i64.wrap (((4 * j : Nat) : Int) + 2) = ((4 * j + 2 : Nat) : Int) := by rw [IntKind.wrap_i64]; omega
      have p3 : IntKind.i64.wrap (((4 * j : Nat) : Int) + 3) = ((4 * j + 3 : Nat) : Int) := by rw [IntKind.wrap_i64]; omega
      have I0 : Hid (∀ W, (Instr.index 9 (.string T) (.int .i64 ((4 * j : Nat) : Int))).run Try.prog W = .ok (b8 (key.getD (4 * j) 0)) W) := fun W => by
        have := run_idxS T (4 * j) (by omega) .i64 W
        rw [SG.out (4 * j) (by omega)] at this
        exact this
      have I1 : Hid (∀ W, (Instr.index 9 (.string T) (.int .i64 ((4 * j + 1 : Nat) : Int))).run Try.prog W = .ok (b8 (key.getD (4 * j + 1) 0)) W) := fun W => by
        have := run_idxS T (4 * j + 1) (by omega) .i64 W
        rw [SG.out (4 * j + 1) (by omega)] at this
        exact this
      have I2 : Hid (∀ W, (Instr.index 9 (.string T) (.int .i64 ((4 * j + 2 : Nat) : Int))).run Try.prog W = .ok (b8 (key.getD (4 * j + 2) 0)) W) := fun W => by
        have := run_idxS T (4 * j + 2) (by omega) .i64 W
        rw [SG.out (4 * j + 2) (by omega)] at this
        exact this
      have I3 : Hid (∀ W, (Instr.index 9 (.string T) (.int .i64 ((4 * j + 3 : Nat) : Int))).run Try.prog W = .ok (b8 (key.getD (4 * j + 3) 0)) W) := fun W => by
        have := run_idxS T (4 * j + 3) (by omega) .i64 W
        rw [SG.out (4 * j + 3) (by omega)] at this
        exact this
      have FS : Hid (A.firstW key (j + 1) = A.firstW key j ++ [[key.getD (4 * j) 0, key.getD (4 * j + 1) 0, key.getD (4 * j + 2) 0, key.getD (4 * j + 3) 0]]) := by
        unfold A.firstW
        rw [List.range_succ, List.map_append]
        exact rfl
      have FL : Hid ((A.firstW key j).length + 1 ≤ 4398046511103) := by rw [A.firstW_length]; show _ ≤ _; omega
      obtain ⟨q0, hq0⟩ : ∃ q, q = 4 * j := ⟨_, rfl⟩
      rw [← hq0] at p0 p1 p2 p3 I0 I1 I2 I3 FS
      obtain ⟨q1, hq1⟩ : ∃ q, q = q0 + 1 := ⟨_, rfl⟩
      obtain ⟨q2, hq2⟩ : ∃ q, q = q0 + 2 := ⟨_, rfl⟩
      obtain ⟨q3, hq3⟩ : ∃ q, q = q0 + 3 := ⟨_, rfl⟩
      rw [← hq1] at p1 I1 FS
      rw [← hq2] at p2 I2 FS
      rw [← hq3] at p3 I3 FS
      generalize key.getD q0 0 = k0 at *
      generalize key.getD q1 0 = k1 at *
      generalize key.getD q2 0 = k2 at *
      generalize key.getD q3 0 = k3 at *
      obtain ⟨F1, hF1⟩ : ∃ F, F = A.firstW key (j + 1) := ⟨_, rfl⟩
      rw [← hF1] at FS
      have HF1 : Hid (F1 = A.firstW key (j + 1)) := hF1
      clear hF1
      have CV : Hid (∀ W, Below wr.heap.size wr W → W.cell? ⟨kc, 0, none⟩ = some v) := fun W hW => (X3.out.up hW X3.out.lt).cell 0 _ rfl
      have JJ : Hid (j < 8) := hj1
      have LY : Hid ([k0, k1, k2, k3].length = 4) := by show _ = _; rfl
      have SB : Hid (kc + 1 ≤ wr.heap.size) := X3.out.lt
      clear hq0 hq1 hq2 hq3 hj hj1
      go_wp2_with fail
      refine wp_region_monoFE 26 [MP.eq (.pointer (some ⟨kc, 0, none⟩)), MP.eq (.pointer (some ⟨kc, 0, none⟩)), MP.eq (.pointer (some ⟨kc, 0, none⟩)), MP.eq (.pointer (some ⟨kc, 0, none⟩)), MP.eq v, MP.eq (.string T), MP.eq (.int .i64 (j : Int)), MP.eq (.int .i64 (q0 : Int)), MP.eq (b8 k0), MP.eq (.string T), MP.eq (.int .i64 (j : Int)), MP.eq (.int .i64 (q0 : Int)), MP.eq (.int .i64 (q1 : Int)), MP.eq (b8 k1), MP.eq (.string T), MP.eq (.int .i64 (j : Int)), MP.eq (.int .i64 (q0 : Int)), MP.eq (.int .i64 (q2 : Int)), MP.eq (b8 k2), MP.eq (.string T), MP.eq (.int .i64 (j : Int)), MP.eq (.int .i64 (q0 : Int)), MP.eq (.int .i64 (q3 : Int)), MP.eq (b8 k3), MP.eq (aB [k0, k1, k2, k3]), MP.q1 [k0, k1, k2, k3]] (by kernel_rfl) (by kernel_rfl) rfl (by decide) (by kernel_rfl) (by kernel_rfl) (fun _ _ d _ _ h => by cases d <;> exact h) ?_
      apply Exists.intro
      refine ⟨fun vals => ?_, ?_, fun vals4 w4 hb4 hF hO => ?_⟩
      · simp only [putsV, dstL, List.length_cons, List.length_nil, Nat.zero_add, Nat.reduceAdd, List.getElem?_cons_zero, List.getElem?_cons_succ, Option.bind_some, Act.put, List.setIfInBounds_toArray, List.set_cons_succ, List.set_cons_zero]
        rfl
      · refine ⟨?_, ?_, ?_, ?_, ?_, ?_, ?_, ?_, ?_, ?_, ?_, ?_, ?_, ?_, ?_, ?_, ?_, ?_, ?_, ?_, ?_, ?_, ?_, ?_, ?_, ?_, trivial⟩
        · intro vals W hW hw hd
          try simp [Region.binds] at hd
          refine ⟨by first | rfl | simp [Region.wanted, yielded, hd], ?_⟩
          simp [go_sem, hd]
          exact Below.refl _ _
        · intro vals W hW hw hd
          try simp [Region.binds] at hd
          refine ⟨by first | rfl | simp [Region.wanted, yielded, hd], ?_⟩
          simp [go_sem, hd]
          exact Below.refl _ _
        · intro vals W hW hw hd
          try simp [Region.binds] at hd
          refine ⟨by first | rfl | simp [Region.wanted, yielded, hd], ?_⟩
          simp [go_sem, hd]
          exact Below.refl _ _
        · intro vals W hW hw hd
          try simp [Region.binds] at hd
          refine ⟨by first | rfl | simp [Region.wanted, yielded, hd], ?_⟩
          simp [go_sem, hd]
          exact Below.refl _ _
        · intro vals W hW hw hd
          try simp [Region.binds] at hd
          refine ⟨by first | rfl | simp [Region.wanted, yielded, hd], ?_⟩
          have cc := CV.out W hW.out
          simp [go_sem, hd, cc]
          exact Below.refl _ _
        · intro vals W hW hw hd
          try simp [Region.binds] at hd
          refine ⟨by first | rfl | simp [Region.wanted, yielded, hd], ?_⟩
          simp [go_sem, hd]
          exact Below.refl _ _
        · intro vals W hW hw hd
          try simp [Region.binds] at hd
          refine ⟨by first | rfl | simp [Region.wanted, yielded, hd], ?_⟩
          simp [go_sem, hd]
          exact Below.refl _ _
        · intro vals W hW hw hd
          try simp [Region.binds] at hd
          refine ⟨by first | rfl | simp [Region.wanted, yielded, hd], ?_⟩
          simp [go_sem, hd, p0]
          exact Below.refl _ _
        · intro vals W hW hw hd
          try simp [Region.binds] at hd
          refine ⟨by first | rfl | simp [Region.wanted, yielded, hd], ?_⟩
          have cc := I0.out W
          simp [go_sem, hd, cc]
          exact Below.refl _ _
        · intro vals W hW hw hd
          try simp [Region.binds] at hd
          refine ⟨by first | rfl | simp [Region.wanted, yielded, hd], ?_⟩
          simp [go_sem, hd]
          exact Below.refl _ _
        · intro vals W hW hw hd
          try simp [Region.binds] at hd
          refine ⟨by first | rfl | simp [Region.wanted, yielded, hd], ?_⟩
          simp [go_sem, hd]
          exact Below.refl _ _
        · intro vals W hW hw hd
          try simp [Region.binds] at hd
          refine ⟨by first | rfl | simp [Region.wanted, yielded, hd], ?_⟩
          simp [go_sem, hd, p0]
          exact Below.refl _ _
        · intro vals W hW hw hd
          try simp [Region.binds] at hd
          refine ⟨by first | rfl | simp [Region.wanted, yielded, hd], ?_⟩
          simp [go_sem, hd, p1]
          exact Below.refl _ _
        · intro vals W hW hw hd
          try simp [Region.binds] at hd
          refine ⟨by first | rfl | simp [Region.wanted, yielded, hd], ?_⟩
          have cc := I1.out W
          simp [go_sem, hd, cc]
          exact Below.refl _ _
        · intro vals W hW hw hd
          try simp [Region.binds] at hd
          refine ⟨by first | rfl | simp [Region.wanted, yielded, hd], ?_⟩
          simp [go_sem, hd]
          exact Below.refl _ _
        · intro vals W hW hw hd
          try simp [Region.binds] at hd
          refine ⟨by first | rfl | simp [Region.wanted, yielded, hd], ?_⟩
          simp [go_sem, hd]
          exact Below.refl _ _
        · intro vals W hW hw hd
          try simp [Region.binds] at hd
          refine ⟨by first | rfl | simp [Region.wanted, yielded, hd], ?_⟩
          simp [go_sem, hd, p0]
          exact Below.refl _ _
        · intro vals W hW hw hd
          try simp [Region.binds] at hd
          refine ⟨by first | rfl | simp [Region.wanted, yielded, hd], ?_⟩
          simp [go_sem, hd, p2]
          exact Below.refl _ _
        · intro vals W hW hw hd
          try simp [Region.binds] at hd
          refine ⟨by first | rfl | simp [Region.wanted, yielded, hd], ?_⟩
          have cc := I2.out W
          simp [go_sem, hd, cc]
          exact Below.refl _ _
        · intro vals W hW hw hd
          try simp [Region.binds] at hd
          refine ⟨by first | rfl | simp [Region.wanted, yielded, hd], ?_⟩
          simp [go_sem, hd]
          exact Below.refl _ _
        · intro vals W hW hw hd
          try simp [Region.binds] at hd
          refine ⟨by first | rfl | simp [Region.wanted, yielded, hd], ?_⟩
          simp [go_sem, hd]
          exact Below.refl _ _
        · intro vals W hW hw hd
          try simp [Region.binds] at hd
          refine ⟨by first | rfl | simp [Region.wanted, yielded, hd], ?_⟩
          simp [go_sem, hd, p0]
          exact Below.refl _ _
        · intro vals W hW hw hd
          try simp [Region.binds] at hd
          refine ⟨by first | rfl | simp [Region.wanted, yielded, hd], ?_⟩
          simp [go_sem, hd, p3]
          exact Below.refl _ _
        · intro vals W hW hw hd
          try simp [Region.binds] at hd
          refine ⟨by first | rfl | simp [Region.wanted, yielded, hd], ?_⟩
          have cc := I3.out W
          simp [go_sem, hd, cc]
          exact Below.refl _ _
        · intro vals W hW hw hd
          try simp [Region.binds] at hd
          refine ⟨by first | rfl | simp [Region.wanted, yielded, hd], ?_⟩
          exact yieldsA_build4 (.tmp 50) (.tmp 55) (.tmp 60) (.tmp 65) rfl k0 k1 k2 k3 hd.1 hd.2.1 hd.2.2.1 hd.2.2.2 rfl
        · intro vals W hW hw hd
          try simp [Region.binds] at hd
          refine ⟨by first | rfl | simp [Region.wanted, yielded, hd], ?_⟩
          exact yields_q1 LY.out rfl hd
      obtain ⟨f0, f1, f2, f3, f4, f5, f6, f7, f8, f9, f10, f11, f12, f13, f14, f15, f16, f17, f18, f19, f20, f21, f22, f23, f24, f25, _⟩ := hF
      simp only [MP.eq_p] at f0 f1 f2 f3 f4 f5 f6 f7 f8 f9 f10 f11 f12 f13 f14 f15 f16 f17 f18 f19 f20 f21 f22 f23 f24
      obtain ⟨g1, f25, cc1⟩ := f25
      rw [f0, f1, f2, f3, f4, f5, f6, f7, f8, f9, f10, f11, f12, f13, f14, f15, f16, f17, f18, f19, f20, f21, f22, f23, f24, f25]
      simp only [List.drop_succ_cons, List.drop_zero]
      have B4 : Hid (Below wr.heap.size wr w4) := hb4.out
      have C4 : Hid (w4.rangeAt g1 0 ([k0, k1, k2, k3].map b8)) := cc1
      clear f0 f1 f2 f3 f4 f5 f6 f7 f8 f9 f10 f11 f12 f13 f14 f15 f16 f17 f18 f19 f20 f21 f22 f23 f24 f25 cc1 hb4 hO CV I0 I1 I2 I3 p0 p1 p2 p3
      generalize vals4 26 = x26
      generalize vals4 27 = x27
      generalize vals4 28 = x28
      go_wp2_with (refine wp_appQ rfl (.tmp 46) (.tmp 67) rfl (kc + 1) v (A.firstW key j) wr g1 [k0, k1, k2, k3] rfl O3.out B4.out rfl C4.out LY.out FL.out SB.out ?_)
      intro v5 w5 o5 hb5 _
      rw [← FS.out] at o5
      obtain ⟨g5, c5', rfl, _, _, _⟩ := o5.form (by rw [FS.out]; simp)
      have Y5 : Hid (Blk w5 kc (v :: (bx ++ ub).map b8)) := X3.out.up hb5 (Nat.lt_succ_self kc)
      have D5 : Hid (Below w.heap.size w w5) := D3.out.trans (hb5.mono (Nat.le_succ_of_le KB.out))
      have c5 : w5.cell? ⟨kc, 0, none⟩ = some v := Y5.out.cell 0 _ rfl
      have z5 := Y5.out.fz 0
      have O6 : Hid (Oq _ (kc + 1) (.slice (some ⟨g5, 0, none⟩) F1.length c5') F1) := o5.set_below (k := kc) (o := 0) (Nat.lt_succ_self kc) (.slice (some ⟨g5, 0, none⟩) F1.length c5')
      have Y6 : Hid _ := Y5.out.set 0 (.slice (some ⟨g5, 0, none⟩) F1.length c5') (by simp)
      have D6 : Hid _ := D5.out.setCell (p := ⟨kc, 0, none⟩) KB.out (.slice (some ⟨g5, 0, none⟩) F1.length c5')
      clear o5 hb5 Y5 D5 B4 C4 O3 X3 D3
      go_wp2_with fail
      go_roundw
      case rel => exact ⟨j + 1, _, JJ.out, by first | rfl | go_num, by rw [← HF1.out]; exact O6, Y6, D6⟩
      case measure => have := JJ.out; simp [intOf]; omega
    · obtain rfl : j = 8 := by omega
      clear hj hj1 SG SZ
      have FL : Hid ((A.firstW key 8).length = 8) := A.firstW_length _ _
      have WK : Hid (A.keyW key = A.growW 8 (A.firstW key 8) 52) := by unfold A.keyW; rw [KN.out]; exact rfl
      have FO : Hid (A.okW (A.firstW key 8)) := A.firstW_ok HK.out _
      generalize A.firstW key 8 = ws at *
      go_wp2_with fail
      obtain ⟨W, hW⟩ : ∃ W : Nat → List (List Nat), ∀ m, W m = A.growW 8 ws m := ⟨_, fun _ => rfl⟩
      have W0 : Hid (W 0 = ws) := by rw [hW]; exact rfl
      have WL : Hid (∀ m, (W m).length = 8 + m) := fun m => by rw [hW, A.growW_length, FL.out]
      have WO : Hid (∀ m, A.okW (W m)) := fun m => by rw [hW]; exact A.growW_ok FO.out m
      have WS : Hid (∀ m, W (m + 1) = W m ++ [A.nextW 8 (W m)]) := fun m => by rw [hW, hW]; exact rfl
      rw [← hW] at WK
      obtain ⟨PW, hPW⟩ : ∃ PW : Nat → Nat, ∀ m, PW m = G.pow 2 m := ⟨_, fun _ => rfl⟩
      have P0 : Hid (PW 0 = 1) := by rw [hPW]; exact rfl
      have PS : Hid (∀ m w, Calls Try.prog 19 #[b8 (PW m), b8 2] w fun e w' => e = .returned (b8 (PW (m + 1))) ∧ w' = w) := fun m w => by
        rw [hPW, hPW]
        exact rgf_fun (G.pow 2 m) 2 (G.pow_lt256 m) (by decide) w
      have PL : Hid (∀ m, PW m < 256 ∧ PW m = G.pow 2 m) := fun m => ⟨by rw [hPW]; exact G.pow_lt256 m, hPW m⟩
      rw [← W0.out] at O3
      clear hW hPW FO FL W0
      go_loopg [7] 52 (fun gk x wr => ∃ (m : Nat) (v : Value), gk + m = 52 ∧ x = b8 (PW ((8 + m - 1) / 8)) ∧ Hid (Oq wr (kc + 1) v (W m)) ∧ Hid (Blk wr kc (v :: (bx ++ ub).map b8)) ∧ Hid (Below w.heap.size w wr))
      case atStart => exact ⟨0, v, rfl, by rw [show (8 + 0 - 1) / 8 = 0 from rfl, P0.out]; rfl, O3, X3, D3⟩
      case round =>
        clear O3 X3 D3
        obtain ⟨m, v, hm, rfl, O3, X3, D3⟩ := hrel
        obtain ⟨g, c, rfl, hB, hc, hr⟩ := O3.out.form (by rw [WL.out]; omega)
        rw [WL.out m] at hc
        have O3 : Hid (Oq wr (kc + 1) (.slice (some ⟨g, 0, none⟩) (8 + m) c) (W m)) := by
          have := O3.out
          rw [WL.out m] at this
          exact this
        have GM : Hid (gk + m = 52) := hm
        have CV : Hid (∀ W', Below wr.heap.size wr W' → W'.cell? ⟨kc, 0, none⟩ = some (.slice (some ⟨g, 0, none⟩) (8 + m) c)) := fun W' hW' => by
          have := (X3.out.up hW' X3.out.lt).cell 0 _ rfl
          rw [WL.out m] at this
          exact this
        have cv0 := CV.out wr (Below.refl _ _)
        obtain ⟨N, hN⟩ : ∃ N, N = 8 + m := ⟨_, rfl⟩
        rw [← hN] at CV cv0 hc O3
        have NN : Hid (N = 8 + m) := hN
        by_cases hm1 : m < 52
        · have n1 : (N : Int) < 60 := by omega
          have nl : (N : Int) ≤ 60 := by omega
          have M1 : Hid (m < 52) := hm1
          obtain ⟨ia, hia⟩ : ∃ i, i = N - 8 := ⟨_, rfl⟩
          obtain ⟨it, hit⟩ : ∃ i, i = N - 1 := ⟨_, rfl⟩
          have wa : IntKind.i64.wrap ((N : Int) - 8) = (ia : Int) := by rw [IntKind.wrap_i64]; omega
          have wt : IntKind.i64.wrap ((N : Int) - 1) = (it : Int) := by rw [IntKind.wrap_i64]; omega
          have la : (ia : Int) < (N : Int) := by omega
          have lt : (it : Int) < (N : Int) := by omega
          have h4 : ∀ i, i < N → A.ok 4 ((W m).getD i []) := fun i hi => by
            have hl : i < (W m).length := by rw [WL.out]; omega
            rw [List.getD_eq_getElem?_getD, List.getElem?_eq_getElem hl]
            exact WO.out m _ (List.getElem_mem hl)
          have NX : Hid (A.nextW 8 (W m) = A.xorW ((W m).getD ia []) (A.preW 8 N ((W m).getD it []))) := by
            unfold A.nextW
            rw [WL.out, ← hN, ← hia, ← hit]
            exact rfl
          have RA : Hid (∀ W', Below wr.heap.size wr W' → W'.rangeAt g (ia * 4) (((W m).getD ia []).map b8)) := fun W' hW' => range_upq (hr ia (by rw [WL.out]; omega)) hW' (Nat.le_refl _)
          have RT : Hid (∀ W', Below wr.heap.size wr W' → W'.rangeAt g (it * 4) (((W m).getD it []).map b8)) := fun W' hW' => range_upq (hr it (by rw [WL.out]; omega)) hW' (Nat.le_refl _)
          obtain ⟨a0, a1, a2, a3, ea, b0, b1, b2, b3⟩ := G.four.ex (h4 ia (by omega))
          obtain ⟨t0, t1, t2, t3, et, d0, d1, d2, d3⟩ := G.four.ex (h4 it (by omega))
          rw [ea] at RA NX
          rw [et] at RT NX
          have LA : Hid (a0 < 256 ∧ a1 < 256 ∧ a2 < 256 ∧ a3 < 256) := ⟨b0, b1, b2, b3⟩
          have LT : Hid (t0 < 256 ∧ t1 < 256 ∧ t2 < 256 ∧ t3 < 256) := ⟨d0, d1, d2, d3⟩
          have KG : Hid (kc < g) := hB
          have CN : Hid (N ≤ c) := hc
          have WN : Hid ((W m).length + 1 ≤ 4398046511103) := by rw [WL.out]; show _ ≤ _; omega
          clear ea et h4 hia hit b0 b1 b2 b3 d0 d1 d2 d3 hr hB hc hN hm hm1
          go_wp2_with fail
          refine wp_region_vars2 17 (.cells #[Value.int IntKind.u8 0, Value.int IntKind.u8 0, Value.int IntKind.u8 0, Value.int IntKind.u8 0] 23) (.cells #[Value.int IntKind.u8 0, Value.int IntKind.u8 0, Value.int IntKind.u8 0, Value.int IntKind.u8 0] 23) (.cells ([a0, a1, a2, a3].map b8).toArray 23) (.cells ([t0, t1, t2, t3].map b8).toArray 23) (by kernel_rfl) (by kernel_rfl) (by kernel_rfl) (by kernel_rfl) rfl rfl rfl rfl (by decide) rfl rfl (fun _ _ => by kernel_rfl) (fun _ _ => by kernel_rfl) ?_
          apply Exists.intro
          refine ⟨fun U hU f hf hcl => ?_, fun k j W' hc => ?_, fun k j W' hc => ?_, fun ka kt w6 hb6 hka hkt hne hca hct => ?_⟩
          · have cq := fun n => CV.out (f n) (hf n).out
            have ra : Hid (∀ n, (f n).rangeAt g (ia * 4) ([a0, a1, a2, a3].map b8)) := fun n => RA.out (f n) (hf n).out
            have rt : Hid (∀ n, (f n).rangeAt g (it * 4) ([t0, t1, t2, t3].map b8)) := fun n => RT.out (f n) (hf n).out
            clear hf
            simp only [List.take_succ_cons, List.take_zero]
            repeat (first | (refine quietA_ld rfl u_a4 info_a4 (.tmp 93) rfl g (ia * 4) rfl [a0, a1, a2, a3] rfl (fun W hW => by obtain ⟨n, rfl⟩ := hW; exact ra.out n) ?_; simp only [Act.put, List.setIfInBounds_toArray, List.set_cons_succ, List.set_cons_zero]) | (refine quietA_ld rfl u_a4 info_a4 (.tmp 101) rfl g (it * 4) rfl [t0, t1, t2, t3] rfl (fun W hW => by obtain ⟨n, rfl⟩ := hW; exact rt.out n) ?_; simp only [Act.put, List.setIfInBounds_toArray, List.set_cons_succ, List.set_cons_zero]) | go_big_quiet_step (fail))
            exact wpQuiet_nil rfl
          · exact store_a4 rfl k [a0, a1, a2, a3] rfl W' rfl rfl hc.out _
          · exact store_a4 rfl j [t0, t1, t2, t3] rfl W' rfl rfl hc.out _
          simp only [Act.put, List.setIfInBounds_toArray, List.set_cons_succ, List.set_cons_zero]
          have A6 : Hid (Blk w6 ka ([a0, a1, a2, a3].map b8)) := Blk.of_heap hca.out
          have T6 : Hid (Blk w6 kt ([t0, t1, t2, t3].map b8)) := Blk.of_heap hct.out
          have O6 : Hid (Oq w6 (kc + 1) (.slice (some ⟨g, 0, none⟩) N c) (W m)) := O3.out.up hb6.out
          have X6 : Hid (Blk w6 kc (.slice (some ⟨g, 0, none⟩) N c :: (bx ++ ub).map b8)) := by
            have := X3.out.up hb6.out X3.out.lt
            rw [WL.out m, ← NN.out] at this
            exact this
          have D6 : Hid (Below w.heap.size w w6) := D3.out.trans (hb6.out.mono D3.out.size)
          have KAT : Hid (kc < ka ∧ kc < kt ∧ ka ≠ kt ∧ g ≠ kt) := ⟨Nat.lt_of_lt_of_le X3.out.lt hka, Nat.lt_of_lt_of_le X3.out.lt hkt, hne.out, by have := O3.out.low g rfl; omega⟩
          have KCB : Hid (∀ W' v, Blk W' kc (v :: (bx ++ ub).map b8) → ∀ x, x < 256 → W'.cell? ⟨kc, 1 + x, none⟩ = some (b8 (G.sub x))) := fun W' v hB x hx => by
            refine hB.cell (1 + x) _ ?_
            have hl : x < bx.length := by rw [BL.out]; exact hx
            rw [Nat.add_comm, List.getElem?_cons_succ, List.getElem?_map, List.getElem?_append_left hl, ← BX.out x hx, List.getD_eq_getElem?_getD, List.getElem?_eq_getElem hl]
            rfl
          clear hca hct hb6 O3 X3 D3 CV cv0 RA RT hka hkt hne
          by_cases hz : N % 8 = 0
          · have z1 : (N : Int).tmod 8 = 0 := by rw [Int.tmod_eq_emod_of_nonneg (by omega)]; omega
            have z2 : (N : Int) % 8 = 0 := by omega
            have PW1 : Hid ((8 + m - 1) / 8 = N / 8 - 1 ∧ (8 + (m + 1) - 1) / 8 = (8 + m - 1) / 8 + 1) := by
              have := NN.out
              show _ ∧ _
              omega
            obtain ⟨e, he⟩ : ∃ e, e = (8 + m - 1) / 8 := ⟨_, rfl⟩
            rw [← he] at PW1 ⊢
            have PWE : Hid (PW e < 256 ∧ PW e = G.pow 2 (N / 8 - 1)) := by
              have := PL.out e
              rw [← PW1.out.1]
              exact this
            have PSE : Hid _ := PS.out e
            have PRE : Hid (A.preW 8 N [t0, t1, t2, t3] = [G.sub t1 ^^^ PW e, G.sub t2, G.sub t3, G.sub t0]) := by
              unfold A.preW
              rw [if_pos hz, ← PWE.out.2]
              exact rfl
            have xe := g_xor (G.sub_lt t1) PWE.out.1
            obtain ⟨l0, l1, l2, l3⟩ := LT.out
            have i0 : (t0 : Int) < 256 := by omega
            have i1 : (t1 : Int) < 256 := by omega
            have i2 : (t2 : Int) < 256 := by omega
            have i3 : (t3 : Int) < 256 := by omega
            have B0 : Hid (∀ W', Below w6.heap.size w6 W' → W'.cell? ⟨kc, 1 + t0, none⟩ = some (b8 (G.sub t0))) := fun W' hW' => KCB.out W' _ (X6.out.up hW' X6.out.lt) t0 l0
            have B1 : Hid (∀ W', Below w6.heap.size w6 W' → W'.cell? ⟨kc, 1 + t1, none⟩ = some (b8 (G.sub t1))) := fun W' hW' => KCB.out W' _ (X6.out.up hW' X6.out.lt) t1 l1
            have B2 : Hid (∀ W', Below w6.heap.size w6 W' → W'.cell? ⟨kc, 1 + t2, none⟩ = some (b8 (G.sub t2))) := fun W' hW' => KCB.out W' _ (X6.out.up hW' X6.out.lt) t2 l2
            have B3 : Hid (∀ W', Below w6.heap.size w6 W' → W'.cell? ⟨kc, 1 + t3, none⟩ = some (b8 (G.sub t3))) := fun W' hW' => KCB.out W' _ (X6.out.up hW' X6.out.lt) t3 l3
            have YL : Hid (G.sub t1 ^^^ PW e < 256 ∧ G.sub t2 < 256 ∧ G.sub t3 < 256 ∧ G.sub t0 < 256) := ⟨G.xor_lt (G.sub_lt t1) PWE.out.1, G.sub_lt _, G.sub_lt _, G.sub_lt _⟩
            have tc0 : Hid (∀ W', Below w6.heap.size w6 W' → W'.cell? ⟨kt, 0, none⟩ = some (b8 t0)) := fun W' hW' => (T6.out.up hW' T6.out.lt).cell 0 _ rfl
            have tc1 : Hid (∀ W', Below w6.heap.size w6 W' → W'.cell? ⟨kt, 1, none⟩ = some (b8 t1)) := fun W' hW' => (T6.out.up hW' T6.out.lt).cell 1 _ rfl
            have tc2 : Hid (∀ W', Below w6.heap.size w6 W' → W'.cell? ⟨kt, 2, none⟩ = some (b8 t2)) := fun W' hW' => (T6.out.up hW' T6.out.lt).cell 2 _ rfl
            have tc3 : Hid (∀ W', Below w6.heap.size w6 W' → W'.cell? ⟨kt, 3, none⟩ = some (b8 t3)) := fun W' hW' => (T6.out.up hW' T6.out.lt).cell 3 _ rfl
            generalize G.sub t1 ^^^ PW e = y0 at *
            generalize G.sub t0 = y3 at *
            generalize G.sub t1 = s1 at *
            generalize G.sub t2 = y1 at *
            generalize G.sub t3 = y2 at *
            clear l0 l1 l2 l3 he PWE
            generalize hpe : PW e = pe at *
            have HPE : Hid (PW e = pe) := hpe
            clear hpe
            go_wp2_with fail
            refine wp_region_monoSE 31 [MP.eq (.pointer (some ⟨kc, 0, none⟩)), MP.eq (.pointer (some ⟨kt, 1, none⟩)), MP.eq (b8 t1), MP.eq (.pointer (some ⟨kc, 0, none⟩)), MP.eq (.pointer (some ⟨kc, 1, none⟩)), MP.eq (.pointer (some ⟨kc, 1 + t1, none⟩)), MP.eq (b8 s1), MP.eq (b8 pe), MP.eq (b8 y0), MP.eq (.pointer (some ⟨kc, 0, none⟩)), MP.eq (.pointer (some ⟨kt, 2, none⟩)), MP.eq (b8 t2), MP.eq (.pointer (some ⟨kc, 0, none⟩)), MP.eq (.pointer (some ⟨kc, 1, none⟩)), MP.eq (.pointer (some ⟨kc, 1 + t2, none⟩)), MP.eq (b8 y1), MP.eq (.pointer (some ⟨kc, 0, none⟩)), MP.eq (.pointer (some ⟨kt, 3, none⟩)), MP.eq (b8 t3), MP.eq (.pointer (some ⟨kc, 0, none⟩)), MP.eq (.pointer (some ⟨kc, 1, none⟩)), MP.eq (.pointer (some ⟨kc, 1 + t3, none⟩)), MP.eq (b8 y2), MP.eq (.pointer (some ⟨kc, 0, none⟩)), MP.eq (.pointer (some ⟨kt, 0, none⟩)), MP.eq (b8 t0), MP.eq (.pointer (some ⟨kc, 0, none⟩)), MP.eq (.pointer (some ⟨kc, 1, none⟩)), MP.eq (.pointer (some ⟨kc, 1 + t0, none⟩)), MP.eq (b8 y3), MP.eq (aB [y0, y1, y2, y3])] (by kernel_rfl) (by kernel_rfl) rfl (by decide) (by kernel_rfl) ?_
            apply Exists.intro
            refine ⟨fun vals => ?_, ?_, fun vals7 w7 hb7 hF hO => ?_⟩
            · simp only [putsV, dstL, List.length_cons, List.length_nil, Nat.zero_add, Nat.reduceAdd, List.getElem?_cons_zero, List.getElem?_cons_succ, Option.bind_some, Act.put, List.setIfInBounds_toArray, List.set_cons_succ, List.set_cons_zero]
              rfl
            · refine ⟨?_, ?_, ?_, ?_, ?_, ?_, ?_, ?_, ?_, ?_, ?_, ?_, ?_, ?_, ?_, ?_, ?_, ?_, ?_, ?_, ?_, ?_, ?_, ?_, ?_, ?_, ?_, ?_, ?_, ?_, ?_, trivial⟩
              · intro vals W hW hw hd
                try simp [Region.binds] at hd
                refine ⟨by first | rfl | simp [Region.wanted, yielded, hd], ?_⟩
                simp [go_sem, hd]
                exact Below.refl _ _
              · intro vals W hW hw hd
                try simp [Region.binds] at hd
                refine ⟨by first | rfl | simp [Region.wanted, yielded, hd], ?_⟩
                simp [go_sem, hd]
                exact Below.refl _ _
              · intro vals W hW hw hd
                try simp [Region.binds] at hd
                refine ⟨by first | rfl | simp [Region.wanted, yielded, hd], ?_⟩
                have cc := tc1.out W hW.out
                simp [go_sem, hd, cc]
                exact Below.refl _ _
              · intro vals W hW hw hd
                try simp [Region.binds] at hd
                refine ⟨by first | rfl | simp [Region.wanted, yielded, hd], ?_⟩
                simp [go_sem, hd]
                exact Below.refl _ _
              · intro vals W hW hw hd
                try simp [Region.binds] at hd
                refine ⟨by first | rfl | simp [Region.wanted, yielded, hd], ?_⟩
                simp [go_sem, hd]
                exact Below.refl _ _
              · intro vals W hW hw hd
                try simp [Region.binds] at hd
                refine ⟨by first | rfl | simp [Region.wanted, yielded, hd], ?_⟩
                simp [go_sem, hd, i1]
                exact Below.refl _ _
              · intro vals W hW hw hd
                try simp [Region.binds] at hd
                refine ⟨by first | rfl | simp [Region.wanted, yielded, hd], ?_⟩
                have cc := B1.out W hW.out
                simp [go_sem, hd, cc]
                exact Below.refl _ _
              · intro vals W hW hw hd
                try simp [Region.binds] at hd
                refine ⟨by first | rfl | simp [Region.wanted, yielded, hd], ?_⟩
                simp [go_sem, hd]
                exact Below.refl _ _
              · intro vals W hW hw hd
                try simp [Region.binds] at hd
                refine ⟨by first | rfl | simp [Region.wanted, yielded, hd], ?_⟩
                simp [go_sem, hd, xe]
                exact Below.refl _ _
              · intro vals W hW hw hd
                try simp [Region.binds] at hd
                refine ⟨by first | rfl | simp [Region.wanted, yielded, hd], ?_⟩
                simp [go_sem, hd]
                exact Below.refl _ _
              · intro vals W hW hw hd
                try simp [Region.binds] at hd
                refine ⟨by first | rfl | simp [Region.wanted, yielded, hd], ?_⟩
                simp [go_sem, hd]
                exact Below.refl _ _
              · intro vals W hW hw hd
                try simp [Region.binds] at hd
                refine ⟨by first | rfl | simp [Region.wanted, yielded, hd], ?_⟩
                have cc := tc2.out W hW.out
                simp [go_sem, hd, cc]
                exact Below.refl _ _
              · intro vals W hW hw hd
                try simp [Region.binds] at hd
                refine ⟨by first | rfl | simp [Region.wanted, yielded, hd], ?_⟩
                simp [go_sem, hd]
                exact Below.refl _ _
              · intro vals W hW hw hd
                try simp [Region.binds] at hd
                refine ⟨by first | rfl | simp [Region.wanted, yielded, hd], ?_⟩
                simp [go_sem, hd]
                exact Below.refl _ _
              · intro vals W hW hw hd
                try simp [Region.binds] at hd
                refine ⟨by first | rfl | simp [Region.wanted, yielded, hd], ?_⟩
                simp [go_sem, hd, i2]
                exact Below.refl _ _
              · intro vals W hW hw hd
                try simp [Region.binds] at hd
                refine ⟨by first | rfl | simp [Region.wanted, yielded, hd], ?_⟩
                have cc := B2.out W hW.out
                simp [go_sem, hd, cc]
                exact Below.refl _ _
              · intro vals W hW hw hd
                try simp [Region.binds] at hd
                refine ⟨by first | rfl | simp [Region.wanted, yielded, hd], ?_⟩
                simp [go_sem, hd]
                exact Below.refl _ _
              · intro vals W hW hw hd
                try simp [Region.binds] at hd
                refine ⟨by first | rfl | simp [Region.wanted, yielded, hd], ?_⟩
                simp [go_sem, hd]
                exact Below.refl _ _
              · intro vals W hW hw hd
                try simp [Region.binds] at hd
                refine ⟨by first | rfl | simp [Region.wanted, yielded, hd], ?_⟩
                have cc := tc3.out W hW.out
                simp [go_sem, hd, cc]
                exact Below.refl _ _
              · intro vals W hW hw hd
                try simp [Region.binds] at hd
                refine ⟨by first | rfl | simp [Region.wanted, yielded, hd], ?_⟩
                simp [go_sem, hd]
                exact Below.refl _ _
              · intro vals W hW hw hd
                try simp [Region.binds] at hd
                refine ⟨by first | rfl | simp [Region.wanted, yielded, hd], ?_⟩
                simp [go_sem, hd]
                exact Below.refl _ _
              · intro vals W hW hw hd
                try simp [Region.binds] at hd
                refine ⟨by first | rfl | simp [Region.wanted, yielded, hd], ?_⟩
                simp [go_sem, hd, i3]
                exact Below.refl _ _
              · intro vals W hW hw hd
                try simp [Region.binds] at hd
                refine ⟨by first | rfl | simp [Region.wanted, yielded, hd], ?_⟩
                have cc := B3.out W hW.out
                simp [go_sem, hd, cc]
                exact Below.refl _ _
              · intro vals W hW hw hd
                try simp [Region.binds] at hd
                refine ⟨by first | rfl | simp [Region.wanted, yielded, hd], ?_⟩
                simp [go_sem, hd]
                exact Below.refl _ _
              · intro vals W hW hw hd
                try simp [Region.binds] at hd
                refine ⟨by first | rfl | simp [Region.wanted, yielded, hd], ?_⟩
                simp [go_sem, hd]
                exact Below.refl _ _
              · intro vals W hW hw hd
                try simp [Region.binds] at hd
                refine ⟨by first | rfl | simp [Region.wanted, yielded, hd], ?_⟩
                have cc := tc0.out W hW.out
                simp [go_sem, hd, cc]
                exact Below.refl _ _
              · intro vals W hW hw hd
                try simp [Region.binds] at hd
                refine ⟨by first | rfl | simp [Region.wanted, yielded, hd], ?_⟩
                simp [go_sem, hd]
                exact Below.refl _ _
              · intro vals W hW hw hd
                try simp [Region.binds] at hd
                refine ⟨by first | rfl | simp [Region.wanted, yielded, hd], ?_⟩
                simp [go_sem, hd]
                exact Below.refl _ _
              · intro vals W hW hw hd
                try simp [Region.binds] at hd
                refine ⟨by first | rfl | simp [Region.wanted, yielded, hd], ?_⟩
                simp [go_sem, hd, i0]
                exact Below.refl _ _
              · intro vals W hW hw hd
                try simp [Region.binds] at hd
                refine ⟨by first | rfl | simp [Region.wanted, yielded, hd], ?_⟩
                have cc := B0.out W hW.out
                simp [go_sem, hd, cc]
                exact Below.refl _ _
              · intro vals W hW hw hd
                try simp [Region.binds] at hd
                refine ⟨by first | rfl | simp [Region.wanted, yielded, hd], ?_⟩
                exact yieldsA_build4 (.tmp 115) (.tmp 122) (.tmp 129) (.tmp 136) rfl y0 y1 y2 y3 hd.1 hd.2.1 hd.2.2.1 hd.2.2.2 rfl
            obtain ⟨f0, f1, f2, f3, f4, f5, f6, f7, f8, f9, f10, f11, f12, f13, f14, f15, f16, f17, f18, f19, f20, f21, f22, f23, f24, f25, f26, f27, f28, f29, f30, _⟩ := hF
            simp only [MP.eq_p] at f0 f1 f2 f3 f4 f5 f6 f7 f8 f9 f10 f11 f12 f13 f14 f15 f16 f17 f18 f19 f20 f21 f22 f23 f24 f25 f26 f27 f28 f29 f30
            rw [f0, f1, f2, f3, f4, f5, f6, f7, f8, f9, f10, f11, f12, f13, f14, f15, f16, f17, f18, f19, f20, f21, f22, f23, f24, f25, f26, f27, f28, f29, f30]
            simp only [List.drop_succ_cons, List.drop_zero]
            clear f0 f1 f2 f3 f4 f5 f6 f7 f8 f9 f10 f11 f12 f13 f14 f15 f16 f17 f18 f19 f20 f21 f22 f23 f24 f25 f26 f27 f28 f29 f30 hO tc0 tc1 tc2 tc3 B0 B1 B2 B3
            have A7 : Hid (Blk w7 ka ([a0, a1, a2, a3].map b8)) := A6.out.up hb7.out A6.out.lt
            have T7 : Hid (Blk w7 kt ([t0, t1, t2, t3].map b8)) := T6.out.up hb7.out T6.out.lt
            have O7 : Hid (Oq w7 (kc + 1) (.slice (some ⟨g, 0, none⟩) N c) (W m)) := O6.out.up hb7.out
            have X7 : Hid (Blk w7 kc (.slice (some ⟨g, 0, none⟩) N c :: (bx ++ ub).map b8)) := X6.out.up hb7.out X6.out.lt
            have D7 : Hid (Below w.heap.size w w7) := D6.out.trans (hb7.out.mono D6.out.size)
            have TT : Hid (w7.there kt 0 ([y0, y1, y2, y3].map b8).length) := T7.out.there (by simp)
            have IY : Hid _ := info_n info_a4 [y0, y1, y2, y3] rfl
            clear A6 T6 O6 X6 D6 hb7
            go_wp2_with (refine wp_store_eq rfl 23 (.tmp 10) (.tmp 137) rfl kt 0 ([y0, y1, y2, y3].map b8) rfl rfl TT.out IY.out (one_b8 _) ?_)
            intro w8 hw8
            have A8 : Hid (Blk w8 ka ([a0, a1, a2, a3].map b8)) := by rw [hw8.out]; exact A7.out.apart KAT.out.2.2.1
            have T8 : Hid (Blk w8 kt ([y0, y1, y2, y3].map b8)) := by rw [hw8.out]; exact T7.out.put (by simp)
            have O8 : Hid (Oq w8 (kc + 1) (.slice (some ⟨g, 0, none⟩) N c) (W m)) := by rw [hw8.out]; exact O7.out.stores_off KAT.out.2.2.2 _ _
            have X8 : Hid (Blk w8 kc (.slice (some ⟨g, 0, none⟩) N c :: (bx ++ ub).map b8)) := by rw [hw8.out]; exact X7.out.apart (by have := KAT.out; omega)
            have D8 : Hid (Below w.heap.size w w8) := by rw [hw8.out]; exact below_setCells _ _ _ D7.out (by have := KAT.out; have := KB.out; omega)
            clear hw8 TT IY A7 T7 O7 X7 D7
            go_wp2_with fail
            refine Calls.mono (PSE.out _) ?_
            rintro e1 w9 ⟨rfl, hw9⟩
            rw [hw9]
            clear hw9 w9
            have PM : Hid (b8 (PW (e + 1)) = b8 (PW ((8 + (m + 1) - 1) / 8))) := by rw [PW1.out.2]; exact rfl
            clear PSE PW1 HPE xe z1 z2 hz i0 i1 i2 i3 KCB
            generalize b8 (PW (e + 1)) = pn at *
            go_wp2_with fail
            have Z0 : Hid (a0 ^^^ y0 < 256) := G.xor_lt LA.out.1 YL.out.1
            have xe0 := g_xor LA.out.1 YL.out.1
            have xe1 := g_xor LA.out.2.1 YL.out.2.1
            have xe2 := g_xor LA.out.2.2.1 YL.out.2.2.1
            have xe3 := g_xor LA.out.2.2.2 YL.out.2.2.2
            have ZE : Hid (W (m + 1) = W m ++ [[a0 ^^^ y0, a1 ^^^ y1, a2 ^^^ y2, a3 ^^^ y3]]) := by
              rw [WS.out, NX.out, PRE.out]
              exact rfl
            generalize a0 ^^^ y0 = z0 at *
            generalize a1 ^^^ y1 = z1 at *
            generalize a2 ^^^ y2 = z2 at *
            generalize a3 ^^^ y3 = z3 at *
            have ac0 : Hid (∀ W', Below w8.heap.size w8 W' → W'.cell? ⟨ka, 0, none⟩ = some (b8 a0)) := fun W' hW' => (A8.out.up hW' A8.out.lt).cell 0 _ rfl
            have ac1 : Hid (∀ W', Below w8.heap.size w8 W' → W'.cell? ⟨ka, 1, none⟩ = some (b8 a1)) := fun W' hW' => (A8.out.up hW' A8.out.lt).cell 1 _ rfl
            have ac2 : Hid (∀ W', Below w8.heap.size w8 W' → W'.cell? ⟨ka, 2, none⟩ = some (b8 a2)) := fun W' hW' => (A8.out.up hW' A8.out.lt).cell 2 _ rfl
            have ac3 : Hid (∀ W', Below w8.heap.size w8 W' → W'.cell? ⟨ka, 3, none⟩ = some (b8 a3)) := fun W' hW' => (A8.out.up hW' A8.out.lt).cell 3 _ rfl
            have tc0 : Hid (∀ W', Below w8.heap.size w8 W' → W'.cell? ⟨kt, 0, none⟩ = some (b8 y0)) := fun W' hW' => (T8.out.up hW' T8.out.lt).cell 0 _ rfl
            have tc1 : Hid (∀ W', Below w8.heap.size w8 W' → W'.cell? ⟨kt, 1, none⟩ = some (b8 y1)) := fun W' hW' => (T8.out.up hW' T8.out.lt).cell 1 _ rfl
            have tc2 : Hid (∀ W', Below w8.heap.size w8 W' → W'.cell? ⟨kt, 2, none⟩ = some (b8 y2)) := fun W' hW' => (T8.out.up hW' T8.out.lt).cell 2 _ rfl
            have tc3 : Hid (∀ W', Below w8.heap.size w8 W' → W'.cell? ⟨kt, 3, none⟩ = some (b8 y3)) := fun W' hW' => (T8.out.up hW' T8.out.lt).cell 3 _ rfl
            have CV : Hid (∀ W', Below w8.heap.size w8 W' → W'.cell? ⟨kc, 0, none⟩ = some (.slice (some ⟨g, 0, none⟩) N c)) := fun W' hW' => (X8.out.up hW' X8.out.lt).cell 0 _ rfl
            have LY : Hid ([z0, z1, z2, z3].length = 4) := by show _ = _; rfl
            have SB : Hid (kc + 1 ≤ w8.heap.size) := X8.out.lt
            clear Z0 NX PRE YL
            refine wp_region_monoFE 27 [MP.eq (.pointer (some ⟨kc, 0, none⟩)), MP.eq (.pointer (some ⟨kc, 0, none⟩)), MP.eq (.pointer (some ⟨kc, 0, none⟩)), MP.eq (.pointer (some ⟨kc, 0, none⟩)), MP.eq (.slice (some ⟨g, 0, none⟩) N c), MP.eq (.pointer (some ⟨ka, 0, none⟩)), MP.eq (b8 a0), MP.eq (.pointer (some ⟨kt, 0, none⟩)), MP.eq (b8 y0), MP.eq (b8 z0), MP.eq (.pointer (some ⟨ka, 1, none⟩)), MP.eq (b8 a1), MP.eq (.pointer (some ⟨kt, 1, none⟩)), MP.eq (b8 y1), MP.eq (b8 z1), MP.eq (.pointer (some ⟨ka, 2, none⟩)), MP.eq (b8 a2), MP.eq (.pointer (some ⟨kt, 2, none⟩)), MP.eq (b8 y2), MP.eq (b8 z2), MP.eq (.pointer (some ⟨ka, 3, none⟩)), MP.eq (b8 a3), MP.eq (.pointer (some ⟨kt, 3, none⟩)), MP.eq (b8 y3), MP.eq (b8 z3), MP.eq (aB [z0, z1, z2, z3]), MP.q1 [z0, z1, z2, z3]] (by kernel_rfl) (by kernel_rfl) rfl (by decide) (by kernel_rfl) (by kernel_rfl) (fun _ _ d _ _ h => by cases d <;> exact h) ?_
            apply Exists.intro
            refine ⟨fun vals => ?_, ?_, fun vals9 w9 hb9 hF hO => ?_⟩
            · simp only [putsV, dstL, List.length_cons, List.length_nil, Nat.zero_add, Nat.reduceAdd, List.getElem?_cons_zero, List.getElem?_cons_succ, Option.bind_some, Act.put, List.setIfInBounds_toArray, List.set_cons_succ, List.set_cons_zero]
              rfl
            · refine ⟨?_, ?_, ?_, ?_, ?_, ?_, ?_, ?_, ?_, ?_, ?_, ?_, ?_, ?_, ?_, ?_, ?_, ?_, ?_, ?_, ?_, ?_, ?_, ?_, ?_, ?_, ?_, trivial⟩
              · intro vals W hW hw hd
                try simp [Region.binds] at hd
                refine ⟨by first | rfl | simp [Region.wanted, yielded, hd], ?_⟩
                simp [go_sem, hd]
                exact Below.refl _ _
              · intro vals W hW hw hd
                try simp [Region.binds] at hd
                refine ⟨by first | rfl | simp [Region.wanted, yielded, hd], ?_⟩
                simp [go_sem, hd]
                exact Below.refl _ _
              · intro vals W hW hw hd
                try simp [Region.binds] at hd
                refine ⟨by first | rfl | simp [Region.wanted, yielded, hd], ?_⟩
                simp [go_sem, hd]
                exact Below.refl _ _
              · intro vals W hW hw hd
                try simp [Region.binds] at hd
                refine ⟨by first | rfl | simp [Region.wanted, yielded, hd], ?_⟩
                simp [go_sem, hd]
                exact Below.refl _ _
              · intro vals W hW hw hd
                try simp [Region.binds] at hd
                refine ⟨by first | rfl | simp [Region.wanted, yielded, hd], ?_⟩
                have cc := CV.out W hW.out
                simp [go_sem, hd, cc]
                exact Below.refl _ _
              · intro vals W hW hw hd
                try simp [Region.binds] at hd
                refine ⟨by first | rfl | simp [Region.wanted, yielded, hd], ?_⟩
                simp [go_sem, hd]
                exact Below.refl _ _
              · intro vals W hW hw hd
                try simp [Region.binds] at hd
                refine ⟨by first | rfl | simp [Region.wanted, yielded, hd], ?_⟩
                have cc := ac0.out W hW.out
                simp [go_sem, hd, cc]
                exact Below.refl _ _
              · intro vals W hW hw hd
                try simp [Region.binds] at hd
                refine ⟨by first | rfl | simp [Region.wanted, yielded, hd], ?_⟩
                simp [go_sem, hd]
                exact Below.refl _ _
              · intro vals W hW hw hd
                try simp [Region.binds] at hd
                refine ⟨by first | rfl | simp [Region.wanted, yielded, hd], ?_⟩
                have cc := tc0.out W hW.out
                simp [go_sem, hd, cc]
                exact Below.refl _ _
              · intro vals W hW hw hd
                try simp [Region.binds] at hd
                refine ⟨by first | rfl | simp [Region.wanted, yielded, hd], ?_⟩
                simp [go_sem, hd, xe0]
                exact Below.refl _ _
              · intro vals W hW hw hd
                try simp [Region.binds] at hd
                refine ⟨by first | rfl | simp [Region.wanted, yielded, hd], ?_⟩
                simp [go_sem, hd]
                exact Below.refl _ _
              · intro vals W hW hw hd
                try simp [Region.binds] at hd
                refine ⟨by first | rfl | simp [Region.wanted, yielded, hd], ?_⟩
                have cc := ac1.out W hW.out
                simp [go_sem, hd, cc]
                exact Below.refl _ _
              · intro vals W hW hw hd
                try simp [Region.binds] at hd
                refine ⟨by first | rfl | simp [Region.wanted, yielded, hd], ?_⟩
                simp [go_sem, hd]
                exact Below.refl _ _
              · intro vals W hW hw hd
                try simp [Region.binds] at hd
                refine ⟨by first | rfl | simp [Region.wanted, yielded, hd], ?_⟩
                have cc := tc1.out W hW.out
                simp [go_sem, hd, cc]
                exact Below.refl _ _
              · intro vals W hW hw hd
                try simp [Region.binds] at hd
                refine ⟨by first | rfl | simp [Region.wanted, yielded, hd], ?_⟩
                simp [go_sem, hd, xe1]
                exact Below.refl _ _
              · intro vals W hW hw hd
                try simp [Region.binds] at hd
                refine ⟨by first | rfl | simp [Region.wanted, yielded, hd], ?_⟩
                simp [go_sem, hd]
                exact Below.refl _ _
              · intro vals W hW hw hd
                try simp [Region.binds] at hd
                refine ⟨by first | rfl | simp [Region.wanted, yielded, hd], ?_⟩
                have cc := ac2.out W hW.out
                simp [go_sem, hd, cc]
                exact Below.refl _ _
              · intro vals W hW hw hd
                try simp [Region.binds] at hd
                refine ⟨by first | rfl | simp [Region.wanted, yielded, hd], ?_⟩
                simp [go_sem, hd]
                exact Below.refl _ _
              · intro vals W hW hw hd
                try simp [Region.binds] at hd
                refine ⟨by first | rfl | simp [Region.wanted, yielded, hd], ?_⟩
                have cc := tc2.out W hW.out
                simp [go_sem, hd, cc]
                exact Below.refl _ _
              · intro vals W hW hw hd
                try simp [Region.binds] at hd
                refine ⟨by first | rfl | simp [Region.wanted, yielded, hd], ?_⟩
                simp [go_sem, hd, xe2]
                exact Below.refl _ _
              · intro vals W hW hw hd
                try simp [Region.binds] at hd
                refine ⟨by first | rfl | simp [Region.wanted, yielded, hd], ?_⟩
                simp [go_sem, hd]
                exact Below.refl _ _
              · intro vals W hW hw hd
                try simp [Region.binds] at hd
                refine ⟨by first | rfl | simp [Region.wanted, yielded, hd], ?_⟩
                have cc := ac3.out W hW.out
                simp [go_sem, hd, cc]
                exact Below.refl _ _
              · intro vals W hW hw hd
                try simp [Region.binds] at hd
                refine ⟨by first | rfl | simp [Region.wanted, yielded, hd], ?_⟩
                simp [go_sem, hd]
                exact Below.refl _ _
              · intro vals W hW hw hd
                try simp [Region.binds] at hd
                refine ⟨by first | rfl | simp [Region.wanted, yielded, hd], ?_⟩
                have cc := tc3.out W hW.out
                simp [go_sem, hd, cc]
                exact Below.refl _ _
              · intro vals W hW hw hd
                try simp [Region.binds] at hd
                refine ⟨by first | rfl | simp [Region.wanted, yielded, hd], ?_⟩
                simp [go_sem, hd, xe3]
                exact Below.refl _ _
              · intro vals W hW hw hd
                try simp [Region.binds] at hd
                refine ⟨by first | rfl | simp [Region.wanted, yielded, hd], ?_⟩
                exact yieldsA_build4 (.tmp 185) (.tmp 190) (.tmp 195) (.tmp 200) rfl z0 z1 z2 z3 hd.1 hd.2.1 hd.2.2.1 hd.2.2.2 rfl
              · intro vals W hW hw hd
                try simp [Region.binds] at hd
                refine ⟨by first | rfl | simp [Region.wanted, yielded, hd], ?_⟩
                exact yields_q1 LY.out rfl hd
            obtain ⟨f0, f1, f2, f3, f4, f5, f6, f7, f8, f9, f10, f11, f12, f13, f14, f15, f16, f17, f18, f19, f20, f21, f22, f23, f24, f25, f26, _⟩ := hF
            simp only [MP.eq_p] at f0 f1 f2 f3 f4 f5 f6 f7 f8 f9 f10 f11 f12 f13 f14 f15 f16 f17 f18 f19 f20 f21 f22 f23 f24 f25
            obtain ⟨g1, f26, cc1⟩ := f26
            rw [f0, f1, f2, f3, f4, f5, f6, f7, f8, f9, f10, f11, f12, f13, f14, f15, f16, f17, f18, f19, f20, f21, f22, f23, f24, f25, f26]
            simp only [List.drop_succ_cons, List.drop_zero]
            have B9 : Hid (Below w8.heap.size w8 w9) := hb9.out
            have C9 : Hid (w9.rangeAt g1 0 ([z0, z1, z2, z3].map b8)) := cc1
            clear f0 f1 f2 f3 f4 f5 f6 f7 f8 f9 f10 f11 f12 f13 f14 f15 f16 f17 f18 f19 f20 f21 f22 f23 f24 f25 f26 cc1 hb9 hO CV ac0 ac1 ac2 ac3 tc0 tc1 tc2 tc3 xe0 xe1 xe2 xe3
            generalize vals9 27 = x27
            generalize vals9 28 = x28
            generalize vals9 29 = x29
            go_wp2_with (refine wp_appQ rfl (.tmp 180) (.tmp 202) rfl (kc + 1) (.slice (some ⟨g, 0, none⟩) N c) (W m) w8 g1 [z0, z1, z2, z3] rfl O8.out B9.out rfl C9.out LY.out WN.out SB.out ?_)
            intro v5 w10 o5 hb5 _
            rw [← ZE.out] at o5
            obtain ⟨g5, c5', rfl, _, _, _⟩ := o5.form (by rw [WL.out]; omega)
            have Y5 : Hid (Blk w10 kc (.slice (some ⟨g, 0, none⟩) N c :: (bx ++ ub).map b8)) := X8.out.up hb5 (Nat.lt_succ_self kc)
            have D5 : Hid (Below w.heap.size w w10) := D8.out.trans (hb5.mono (Nat.le_succ_of_le KB.out))
            have c5 : w10.cell? ⟨kc, 0, none⟩ = some (.slice (some ⟨g, 0, none⟩) N c) := Y5.out.cell 0 _ rfl
            have z5 := Y5.out.fz 0
            have O9 : Hid (Oq _ (kc + 1) (.slice (some ⟨g5, 0, none⟩) (W (m + 1)).length c5') (W (m + 1))) := o5.set_below (k := kc) (o := 0) (Nat.lt_succ_self kc) (.slice (some ⟨g5, 0, none⟩) (W (m + 1)).length c5')
            have Y9 : Hid _ := Y5.out.set 0 (.slice (some ⟨g5, 0, none⟩) (W (m + 1)).length c5') (by simp)
            have D9 : Hid _ := D5.out.setCell (p := ⟨kc, 0, none⟩) KB.out (.slice (some ⟨g5, 0, none⟩) (W (m + 1)).length c5')
            clear o5 hb5 Y5 D5 B9 C9 O8 X8 D8 A8 T8
            go_wp2_with fail
            go_roundg (gk - 1)
            case measure => have h1 := GM.out; have h2 := M1.out; omega
            case rel => exact ⟨m + 1, _, by have h1 := GM.out; have h2 := M1.out; omega, PM.out, O9, Y9, D9⟩
          · obtain ⟨rr, hrr⟩ : ∃ r : Int, r = (N : Int) % 8 := ⟨_, rfl⟩
            have z1 : (N : Int).tmod 8 = rr := by rw [Int.tmod_eq_emod_of_nonneg (by omega)]; omega
            have z2 : (N : Int) % 8 = rr := hrr.symm
            have z3 : (rr == 0) = false := by simp; omega
            clear hrr
            have PM : Hid (b8 (PW ((8 + m - 1) / 8)) = b8 (PW ((8 + (m + 1) - 1) / 8))) := by
              have h : (8 + m - 1) / 8 = (8 + (m + 1) - 1) / 8 := by
                have := NN.out
                omega
              rw [h]
              exact rfl
            generalize b8 (PW ((8 + m - 1) / 8)) = pn at *
            clear wa wt la lt
            by_cases hq : N % 8 = 4
            · have q1 : rr = 4 := by omega
              have q2 : (4 : Int) = 4 := rfl
              subst q1
              have PRE : Hid (A.preW 8 N [t0, t1, t2, t3] = [G.sub t0, G.sub t1, G.sub t2, G.sub t3]) := by
                unfold A.preW
                rw [if_neg hz, if_pos ⟨rfl, hq⟩]
                exact rfl
              obtain ⟨l0, l1, l2, l3⟩ := LT.out
              have i0 : (t0 : Int) < 256 := by omega
              have i1 : (t1 : Int) < 256 := by omega
              have i2 : (t2 : Int) < 256 := by omega
              have i3 : (t3 : Int) < 256 := by omega
              have B0 : Hid (∀ W', Below w6.heap.size w6 W' → W'.cell? ⟨kc, 1 + t0, none⟩ = some (b8 (G.sub t0))) := fun W' hW' => KCB.out W' _ (X6.out.up hW' X6.out.lt) t0 l0
              have B1 : Hid (∀ W', Below w6.heap.size w6 W' → W'.cell? ⟨kc, 1 + t1, none⟩ = some (b8 (G.sub t1))) := fun W' hW' => KCB.out W' _ (X6.out.up hW' X6.out.lt) t1 l1
              have B2 : Hid (∀ W', Below w6.heap.size w6 W' → W'.cell? ⟨kc, 1 + t2, none⟩ = some (b8 (G.sub t2))) := fun W' hW' => KCB.out W' _ (X6.out.up hW' X6.out.lt) t2 l2
              have B3 : Hid (∀ W', Below w6.heap.size w6 W' → W'.cell? ⟨kc, 1 + t3, none⟩ = some (b8 (G.sub t3))) := fun W' hW' => KCB.out W' _ (X6.out.up hW' X6.out.lt) t3 l3
              have YL : Hid (G.sub t0 < 256 ∧ G.sub t1 < 256 ∧ G.sub t2 < 256 ∧ G.sub t3 < 256) := ⟨G.sub_lt _, G.sub_lt _, G.sub_lt _, G.sub_lt _⟩
              have tc0 : Hid (∀ W', Below w6.heap.size w6 W' → W'.cell? ⟨kt, 0, none⟩ = some (b8 t0)) := fun W' hW' => (T6.out.up hW' T6.out.lt).cell 0 _ rfl
              have tc1 : Hid (∀ W', Below w6.heap.size w6 W' → W'.cell? ⟨kt, 1, none⟩ = some (b8 t1)) := fun W' hW' => (T6.out.up hW' T6.out.lt).cell 1 _ rfl
              have tc2 : Hid (∀ W', Below w6.heap.size w6 W' → W'.cell? ⟨kt, 2, none⟩ = some (b8 t2)) := fun W' hW' => (T6.out.up hW' T6.out.lt).cell 2 _ rfl
              have tc3 : Hid (∀ W', Below w6.heap.size w6 W' → W'.cell? ⟨kt, 3, none⟩ = some (b8 t3)) := fun W' hW' => (T6.out.up hW' T6.out.lt).cell 3 _ rfl
              generalize G.sub t0 = y0 at *
              generalize G.sub t1 = y1 at *
              generalize G.sub t2 = y2 at *
              generalize G.sub t3 = y3 at *
              clear l0 l1 l2 l3 hz hq
              go_wp2_with fail
              refine wp_region_monoSE 29 [MP.eq (.pointer (some ⟨kc, 0, none⟩)), MP.eq (.pointer (some ⟨kt, 0, none⟩)), MP.eq (b8 t0), MP.eq (.pointer (some ⟨kc, 0, none⟩)), MP.eq (.pointer (some ⟨kc, 1, none⟩)), MP.eq (.pointer (some ⟨kc, 1 + t0, none⟩)), MP.eq (b8 y0), MP.eq (.pointer (some ⟨kc, 0, none⟩)), MP.eq (.pointer (some ⟨kt, 1, none⟩)), MP.eq (b8 t1), MP.eq (.pointer (some ⟨kc, 0, none⟩)), MP.eq (.pointer (some ⟨kc, 1, none⟩)), MP.eq (.pointer (some ⟨kc, 1 + t1, none⟩)), MP.eq (b8 y1), MP.eq (.pointer (some ⟨kc, 0, none⟩)), MP.eq (.pointer (some ⟨kt, 2, none⟩)), MP.eq (b8 t2), MP.eq (.pointer (some ⟨kc, 0, none⟩)), MP.eq (.pointer (some ⟨kc, 1, none⟩)), MP.eq (.pointer (some ⟨kc, 1 + t2, none⟩)), MP.eq (b8 y2), MP.eq (.pointer (some ⟨kc, 0, none⟩)), MP.eq (.pointer (some ⟨kt, 3, none⟩)), MP.eq (b8 t3), MP.eq (.pointer (some ⟨kc, 0, none⟩)), MP.eq (.pointer (some ⟨kc, 1, none⟩)), MP.eq (.pointer (some ⟨kc, 1 + t3, none⟩)), MP.eq (b8 y3), MP.eq (aB [y0, y1, y2, y3])] (by kernel_rfl) (by kernel_rfl) rfl (by decide) (by kernel_rfl) ?_
              apply Exists.intro
              refine ⟨fun vals => ?_, ?_, fun vals7 w7 hb7 hF hO => ?_⟩
              · simp only [putsV, dstL, List.length_cons, List.length_nil, Nat.zero_add, Nat.reduceAdd, List.getElem?_cons_zero, List.getElem?_cons_succ, Option.bind_some, Act.put, List.setIfInBounds_toArray, List.set_cons_succ, List.set_cons_zero]
                rfl
              · refine ⟨?_, ?_, ?_, ?_, ?_, ?_, ?_, ?_, ?_, ?_, ?_, ?_, ?_, ?_, ?_, ?_, ?_, ?_, ?_, ?_, ?_, ?_, ?_, ?_, ?_, ?_, ?_, ?_, ?_, trivial⟩
                · intro vals W hW hw hd
                  try simp [Region.binds] at hd
                  refine ⟨by first | rfl | simp [Region.wanted, yielded, hd], ?_⟩
                  simp [go_sem, hd]
                  exact Below.refl _ _
                · intro vals W hW hw hd
                  try simp [Region.binds] at hd
                  refine ⟨by first | rfl | simp [Region.wanted, yielded, hd], ?_⟩
                  simp [go_sem, hd]
                  exact Below.refl _ _
                · intro vals W hW hw hd
                  try simp [Region.binds] at hd
                  refine ⟨by first | rfl | simp [Region.wanted, yielded, hd], ?_⟩
                  have cc := tc0.out W hW.out
                  simp [go_sem, hd, cc]
                  exact Below.refl _ _
                · intro vals W hW hw hd
                  try simp [Region.binds] at hd
                  refine ⟨by first | rfl | simp [Region.wanted, yielded, hd], ?_⟩
                  simp [go_sem, hd]
                  exact Below.refl _ _
                · intro vals W hW hw hd
                  try simp [Region.binds] at hd
                  refine ⟨by first | rfl | simp [Region.wanted, yielded, hd], ?_⟩
                  simp [go_sem, hd]
                  exact Below.refl _ _
                · intro vals W hW hw hd
                  try simp [Region.binds] at hd
                  refine ⟨by first | rfl | simp [Region.wanted, yielded, hd], ?_⟩
                  simp [go_sem, hd, i0]
                  exact Below.refl _ _
                · intro vals W hW hw hd
                  try simp [Region.binds] at hd
                  refine ⟨by first | rfl | simp [Region.wanted, yielded, hd], ?_⟩
                  have cc := B0.out W hW.out
                  simp [go_sem, hd, cc]
                  exact Below.refl _ _
                · intro vals W hW hw hd
                  try simp [Region.binds] at hd
                  refine ⟨by first | rfl | simp [Region.wanted, yielded, hd], ?_⟩
                  simp [go_sem, hd]
                  exact Below.refl _ _
                · intro vals W hW hw hd
                  try simp [Region.binds] at hd
                  refine ⟨by first | rfl | simp [Region.wanted, yielded, hd], ?_⟩
                  simp [go_sem, hd]
                  exact Below.refl _ _
                · intro vals W hW hw hd
                  try simp [Region.binds] at hd
                  refine ⟨by first | rfl | simp [Region.wanted, yielded, hd], ?_⟩
                  have cc := tc1.out W hW.out
                  simp [go_sem, hd, cc]
                  exact Below.refl _ _
                · intro vals W hW hw hd
                  try simp [Region.binds] at hd
                  refine ⟨by first | rfl | simp [Region.wanted, yielded, hd], ?_⟩
                  simp [go_sem, hd]
                  exact Below.refl _ _
                · intro vals W hW hw hd
                  try simp [Region.binds] at hd
                  refine ⟨by first | rfl | simp [Region.wanted, yielded, hd], ?_⟩
                  simp [go_sem, hd]
                  exact Below.refl _ _
                · intro vals W hW hw hd
                  try simp [Region.binds] at hd
                  refine ⟨by first | rfl | simp [Region.wanted, yielded, hd], ?_⟩
                  simp [go_sem, hd, i1]
                  exact Below.refl _ _
                · intro vals W hW hw hd
                  try simp [Region.binds] at hd
                  refine ⟨by first | rfl | simp [Region.wanted, yielded, hd], ?_⟩
                  have cc := B1.out W hW.out
                  simp [go_sem, hd, cc]
                  exact Below.refl _ _
                · intro vals W hW hw hd
                  try simp [Region.binds] at hd
                  refine ⟨by first | rfl | simp [Region.wanted, yielded, hd], ?_⟩
                  simp [go_sem, hd]
                  exact Below.refl _ _
                · intro vals W hW hw hd
                  try simp [Region.binds] at hd
                  refine ⟨by first | rfl | simp [Region.wanted, yielded, hd], ?_⟩
                  simp [go_sem, hd]
                  exact Below.refl _ _
                · intro vals W hW hw hd
                  try simp [Region.binds] at hd
                  refine ⟨by first | rfl | simp [Region.wanted, yielded, hd], ?_⟩
                  have cc := tc2.out W hW.out
                  simp [go_sem, hd, cc]
                  exact Below.refl _ _
                · intro vals W hW hw hd
                  try simp [Region.binds] at hd
                  refine ⟨by first | rfl | simp [Region.wanted, yielded, hd], ?_⟩
                  simp [go_sem, hd]
                  exact Below.refl _ _
                · intro vals W hW hw hd
                  try simp [Region.binds] at hd
                  refine ⟨by first | rfl | simp [Region.wanted, yielded, hd], ?_⟩
                  simp [go_sem, hd]
                  exact Below.refl _ _
                · intro vals W hW hw hd
                  try simp [Region.binds] at hd
                  refine ⟨by first | rfl | simp [Region.wanted, yielded, hd], ?_⟩
                  simp [go_sem, hd, i2]
                  exact Below.refl _ _
                · intro vals W hW hw hd
                  try simp [Region.binds] at hd
                  refine ⟨by first | rfl | simp [Region.wanted, yielded, hd], ?_⟩
                  have cc := B2.out W hW.out
                  simp [go_sem, hd, cc]
                  exact Below.refl _ _
                · intro vals W hW hw hd
                  try simp [Region.binds] at hd
                  refine ⟨by first | rfl | simp [Region.wanted, yielded, hd], ?_⟩
                  simp [go_sem, hd]
                  exact Below.refl _ _
                · intro vals W hW hw hd
                  try simp [Region.binds] at hd
                  refine ⟨by first | rfl | simp [Region.wanted, yielded, hd], ?_⟩
                  simp [go_sem, hd]
                  exact Below.refl _ _
                · intro vals W hW hw hd
                  try simp [Region.binds] at hd
                  refine ⟨by first | rfl | simp [Region.wanted, yielded, hd], ?_⟩
                  have cc := tc3.out W hW.out
                  simp [go_sem, hd, cc]
                  exact Below.refl _ _
                · intro vals W hW hw hd
                  try simp [Region.binds] at hd
                  refine ⟨by first | rfl | simp [Region.wanted, yielded, hd], ?_⟩
                  simp [go_sem, hd]
                  exact Below.refl _ _
                · intro vals W hW hw hd
                  try simp [Region.binds] at hd
                  refine ⟨by first | rfl | simp [Region.wanted, yielded, hd], ?_⟩
                  simp [go_sem, hd]
                  exact Below.refl _ _
                · intro vals W hW hw hd
                  try simp [Region.binds] at hd
                  refine ⟨by first | rfl | simp [Region.wanted, yielded, hd], ?_⟩
                  simp [go_sem, hd, i3]
                  exact Below.refl _ _
                · intro vals W hW hw hd
                  try simp [Region.binds] at hd
                  refine ⟨by first | rfl | simp [Region.wanted, yielded, hd], ?_⟩
                  have cc := B3.out W hW.out
                  simp [go_sem, hd, cc]
                  exact Below.refl _ _
                · intro vals W hW hw hd
                  try simp [Region.binds] at hd
                  refine ⟨by first | rfl | simp [Region.wanted, yielded, hd], ?_⟩
                  exact yieldsA_build4 (.tmp 153) (.tmp 160) (.tmp 167) (.tmp 174) rfl y0 y1 y2 y3 hd.1 hd.2.1 hd.2.2.1 hd.2.2.2 rfl
              obtain ⟨f0, f1, f2, f3, f4, f5, f6, f7, f8, f9, f10, f11, f12, f13, f14, f15, f16, f17, f18, f19, f20, f21, f22, f23, f24, f25, f26, f27, f28, _⟩ := hF
              simp only [MP.eq_p] at f0 f1 f2 f3 f4 f5 f6 f7 f8 f9 f10 f11 f12 f13 f14 f15 f16 f17 f18 f19 f20 f21 f22 f23 f24 f25 f26 f27 f28
              rw [f0, f1, f2, f3, f4, f5, f6, f7, f8, f9, f10, f11, f12, f13, f14, f15, f16, f17, f18, f19, f20, f21, f22, f23, f24, f25, f26, f27, f28]
              simp only [List.drop_succ_cons, List.drop_zero]
              clear f0 f1 f2 f3 f4 f5 f6 f7 f8 f9 f10 f11 f12 f13 f14 f15 f16 f17 f18 f19 f20 f21 f22 f23 f24 f25 f26 f27 f28 hO tc0 tc1 tc2 tc3 B0 B1 B2 B3 i0 i1 i2 i3 KCB LT
              have A7 : Hid (Blk w7 ka ([a0, a1, a2, a3].map b8)) := A6.out.up hb7.out A6.out.lt
              have T7 : Hid (Blk w7 kt ([t0, t1, t2, t3].map b8)) := T6.out.up hb7.out T6.out.lt
              have O7 : Hid (Oq w7 (kc + 1) (.slice (some ⟨g, 0, none⟩) N c) (W m)) := O6.out.up hb7.out
              have X7 : Hid (Blk w7 kc (.slice (some ⟨g, 0, none⟩) N c :: (bx ++ ub).map b8)) := X6.out.up hb7.out X6.out.lt
              have D7 : Hid (Below w.heap.size w w7) := D6.out.trans (hb7.out.mono D6.out.size)
              have TT : Hid (w7.there kt 0 ([y0, y1, y2, y3].map b8).length) := T7.out.there (by simp)
              have IY : Hid _ := info_n info_a4 [y0, y1, y2, y3] rfl
              clear A6 T6 O6 X6 D6 hb7
              go_wp2_with (refine wp_store_eq rfl 23 (.tmp 10) (.tmp 175) rfl kt 0 ([y0, y1, y2, y3].map b8) rfl rfl TT.out IY.out (one_b8 _) ?_)
              intro w8 hw8
              have A8 : Hid (Blk w8 ka ([a0, a1, a2, a3].map b8)) := by rw [hw8.out]; exact A7.out.apart KAT.out.2.2.1
              have T8 : Hid (Blk w8 kt ([y0, y1, y2, y3].map b8)) := by rw [hw8.out]; exact T7.out.put (by simp)
              have O8 : Hid (Oq w8 (kc + 1) (.slice (some ⟨g, 0, none⟩) N c) (W m)) := by rw [hw8.out]; exact O7.out.stores_off KAT.out.2.2.2 _ _
              have X8 : Hid (Blk w8 kc (.slice (some ⟨g, 0, none⟩) N c :: (bx ++ ub).map b8)) := by rw [hw8.out]; exact X7.out.apart (by have := KAT.out; omega)
              have D8 : Hid (Below w.heap.size w w8) := by rw [hw8.out]; exact below_setCells _ _ _ D7.out (by have := KAT.out; have := KB.out; omega)
              clear hw8 TT IY A7 T7 O7 X7 D7
              go_wp2_with fail
              clear z1 z2 z3 q2
              have Z0 : Hid (a0 ^^^ y0 < 256) := G.xor_lt LA.out.1 YL.out.1
              have xe0 := g_xor LA.out.1 YL.out.1
              have xe1 := g_xor LA.out.2.1 YL.out.2.1
              have xe2 := g_xor LA.out.2.2.1 YL.out.2.2.1
              have xe3 := g_xor LA.out.2.2.2 YL.out.2.2.2
              have ZE : Hid (W (m + 1) = W m ++ [[a0 ^^^ y0, a1 ^^^ y1, a2 ^^^ y2, a3 ^^^ y3]]) := by
                rw [WS.out, NX.out, PRE.out]
                exact rfl
              generalize a0 ^^^ y0 = z0 at *
              generalize a1 ^^^ y1 = z1 at *
              generalize a2 ^^^ y2 = z2 at *
              generalize a3 ^^^ y3 = z3 at *
              have ac0 : Hid (∀ W', Below w8.heap.size w8 W' → W'.cell? ⟨ka, 0, none⟩ = some (b8 a0)) := fun W' hW' => (A8.out.up hW' A8.out.lt).cell 0 _ rfl
              have ac1 : Hid (∀ W', Below w8.heap.size w8 W' → W'.cell? ⟨ka, 1, none⟩ = some (b8 a1)) := fun W' hW' => (A8.out.up hW' A8.out.lt).cell 1 _ rfl
              have ac2 : Hid (∀ W', Below w8.heap.size w8 W' → W'.cell? ⟨ka, 2, none⟩ = some (b8 a2)) := fun W' hW' => (A8.out.up hW' A8.out.lt).cell 2 _ rfl
              have ac3 : Hid (∀ W', Below w8.heap.size w8 W' → W'.cell? ⟨ka, 3, none⟩ = some (b8 a3)) := fun W' hW' => (A8.out.up hW' A8.out.lt).cell 3 _ rfl
              have tc0 : Hid (∀ W', Below w8.heap.size w8 W' → W'.cell? ⟨kt, 0, none⟩ = some (b8 y0)) := fun W' hW' => (T8.out.up hW' T8.out.lt).cell 0 _ rfl
              have tc1 : Hid (∀ W', Below w8.heap.size w8 W' → W'.cell? ⟨kt, 1, none⟩ = some (b8 y1)) := fun W' hW' => (T8.out.up hW' T8.out.lt).cell 1 _ rfl
              have tc2 : Hid (∀ W', Below w8.heap.size w8 W' → W'.cell? ⟨kt, 2, none⟩ = some (b8 y2)) := fun W' hW' => (T8.out.up hW' T8.out.lt).cell 2 _ rfl
              have tc3 : Hid (∀ W', Below w8.heap.size w8 W' → W'.cell? ⟨kt, 3, none⟩ = some (b8 y3)) := fun W' hW' => (T8.out.up hW' T8.out.lt).cell 3 _ rfl
              have CV : Hid (∀ W', Below w8.heap.size w8 W' → W'.cell? ⟨kc, 0, none⟩ = some (.slice (some ⟨g, 0, none⟩) N c)) := fun W' hW' => (X8.out.up hW' X8.out.lt).cell 0 _ rfl
              have LY : Hid ([z0, z1, z2, z3].length = 4) := by show _ = _; rfl
              have SB : Hid (kc + 1 ≤ w8.heap.size) := X8.out.lt
              clear Z0 NX PRE YL
              refine wp_region_monoFE 27 [MP.eq (.pointer (some ⟨kc, 0, none⟩)), MP.eq (.pointer (some ⟨kc, 0, none⟩)), MP.eq (.pointer (some ⟨kc, 0, none⟩)), MP.eq (.pointer (some ⟨kc, 0, none⟩)), MP.eq (.slice (some ⟨g, 0, none⟩) N c), MP.eq (.pointer (some ⟨ka, 0, none⟩)), MP.eq (b8 a0), MP.eq (.pointer (some ⟨kt, 0, none⟩)), MP.eq (b8 y0), MP.eq (b8 z0), MP.eq (.pointer (some ⟨ka, 1, none⟩)), MP.eq (b8 a1), MP.eq (.pointer (some ⟨kt, 1, none⟩)), MP.eq (b8 y1), MP.eq (b8 z1), MP.eq (.pointer (some ⟨ka, 2, none⟩)), MP.eq (b8 a2), MP.eq (.pointer (some ⟨kt, 2, none⟩)), MP.eq (b8 y2), MP.eq (b8 z2), MP.eq (.pointer (some ⟨ka, 3, none⟩)), MP.eq (b8 a3), MP.eq (.pointer (some ⟨kt, 3, none⟩)), MP.eq (b8 y3), MP.eq (b8 z3), MP.eq (aB [z0, z1, z2, z3]), MP.q1 [z0, z1, z2, z3]] (by kernel_rfl) (by kernel_rfl) rfl (by decide) (by kernel_rfl) (by kernel_rfl) (fun _ _ d _ _ h => by cases d <;> exact h) ?_
              apply Exists.intro
              refine ⟨fun vals => ?_, ?_, fun vals9 w9 hb9 hF hO => ?_⟩
              · simp only [putsV, dstL, List.length_cons, List.length_nil, Nat.zero_add, Nat.reduceAdd, List.getElem?_cons_zero, List.getElem?_cons_succ, Option.bind_some, Act.put, List.setIfInBounds_toArray, List.set_cons_succ, List.set_cons_zero]
                rfl
              · refine ⟨?_, ?_, ?_, ?_, ?_, ?_, ?_, ?_, ?_, ?_, ?_, ?_, ?_, ?_, ?_, ?_, ?_, ?_, ?_, ?_, ?_, ?_, ?_, ?_, ?_, ?_, ?_, trivial⟩
                · intro vals W hW hw hd
                  try simp [Region.binds] at hd
                  refine ⟨by first | rfl | simp [Region.wanted, yielded, hd], ?_⟩
                  simp [go_sem, hd]
                  exact Below.refl _ _
                · intro vals W hW hw hd
                  try simp [Region.binds] at hd
                  refine ⟨by first | rfl | simp [Region.wanted, yielded, hd], ?_⟩
                  simp [go_sem, hd]
                  exact Below.refl _ _
                · intro vals W hW hw hd
                  try simp [Region.binds] at hd
                  refine ⟨by first | rfl | simp [Region.wanted, yielded, hd], ?_⟩
                  simp [go_sem, hd]
                  exact Below.refl _ _
                · intro vals W hW hw hd
                  try simp [Region.binds] at hd
                  refine ⟨by first | rfl | simp [Region.wanted, yielded, hd], ?_⟩
                  simp [go_sem, hd]
                  exact Below.refl _ _
                · intro vals W hW hw hd
                  try simp [Region.binds] at hd
                  refine ⟨by first | rfl | simp [Region.wanted, yielded, hd], ?_⟩
                  have cc := CV.out W hW.out
                  simp [go_sem, hd, cc]
                  exact Below.refl _ _
                · intro vals W hW hw hd
                  try simp [Region.binds] at hd
                  refine ⟨by first | rfl | simp [Region.wanted, yielded, hd], ?_⟩
                  simp [go_sem, hd]
                  exact Below.refl _ _
                · intro vals W hW hw hd
                  try simp [Region.binds] at hd
                  refine ⟨by first | rfl | simp [Region.wanted, yielded, hd], ?_⟩
                  have cc := ac0.out W hW.out
                  simp [go_sem, hd, cc]
                  exact Below.refl _ _
                · intro vals W hW hw hd
                  try simp [Region.binds] at hd
                  refine ⟨by first | rfl | simp [Region.wanted, yielded, hd], ?_⟩
                  simp [go_sem, hd]
                  exact Below.refl _ _
                · intro vals W hW hw hd
                  try simp [Region.binds] at hd
                  refine ⟨by first | rfl | simp [Region.wanted, yielded, hd], ?_⟩
                  have cc := tc0.out W hW.out
                  simp [go_sem, hd, cc]
                  exact Below.refl _ _
                · intro vals W hW hw hd
                  try simp [Region.binds] at hd
                  refine ⟨by first | rfl | simp [Region.wanted, yielded, hd], ?_⟩
                  simp [go_sem, hd, xe0]
                  exact Below.refl _ _
                · intro vals W hW hw hd
                  try simp [Region.binds] at hd
                  refine ⟨by first | rfl | simp [Region.wanted, yielded, hd], ?_⟩
                  simp [go_sem, hd]
                  exact Below.refl _ _
                · intro vals W hW hw hd
                  try simp [Region.binds] at hd
                  refine ⟨by first | rfl | simp [Region.wanted, yielded, hd], ?_⟩
                  have cc := ac1.out W hW.out
                  simp [go_sem, hd, cc]
                  exact Below.refl _ _
                · intro vals W hW hw hd
                  try simp [Region.binds] at hd
                  refine ⟨by first | rfl | simp [Region.wanted, yielded, hd], ?_⟩
                  simp [go_sem, hd]
                  exact Below.refl _ _
                · intro vals W hW hw hd
                  try simp [Region.binds] at hd
                  refine ⟨by first | rfl | simp [Region.wanted, yielded, hd], ?_⟩
                  have cc := tc1.out W hW.out
                  simp [go_sem, hd, cc]
                  exact Below.refl _ _
                · intro vals W hW hw hd
                  try simp [Region.binds] at hd
                  refine ⟨by first | rfl | simp [Region.wanted, yielded, hd], ?_⟩
                  simp [go_sem, hd, xe1]
                  exact Below.refl _ _
                · intro vals W hW hw hd
                  try simp [Region.binds] at hd
                  refine ⟨by first | rfl | simp [Region.wanted, yielded, hd], ?_⟩
                  simp [go_sem, hd]
                  exact Below.refl _ _
                · intro vals W hW hw hd
                  try simp [Region.binds] at hd
                  refine ⟨by first | rfl | simp [Region.wanted, yielded, hd], ?_⟩
                  have cc := ac2.out W hW.out
                  simp [go_sem, hd, cc]
                  exact Below.refl _ _
                · intro vals W hW hw hd
                  try simp [Region.binds] at hd
                  refine ⟨by first | rfl | simp [Region.wanted, yielded, hd], ?_⟩
                  simp [go_sem, hd]
                  exact Below.refl _ _
                · intro vals W hW hw hd
                  try simp [Region.binds] at hd
                  refine ⟨by first | rfl | simp [Region.wanted, yielded, hd], ?_⟩
                  have cc := tc2.out W hW.out
                  simp [go_sem, hd, cc]
                  exact Below.refl _ _
                · intro vals W hW hw hd
                  try simp [Region.binds] at hd
                  refine ⟨by first | rfl | simp [Region.wanted, yielded, hd], ?_⟩
                  simp [go_sem, hd, xe2]
                  exact Below.refl _ _
                · intro vals W hW hw hd
                  try simp [Region.binds] at hd
                  refine ⟨by first | rfl | simp [Region.wanted, yielded, hd], ?_⟩
                  simp [go_sem, hd]
                  exact Below.refl _ _
                · intro vals W hW hw hd
                  try simp [Region.binds] at hd
                  refine ⟨by first | rfl | simp [Region.wanted, yielded, hd], ?_⟩
                  have cc := ac3.out W hW.out
                  simp [go_sem, hd, cc]
                  exact Below.refl _ _
                · intro vals W hW hw hd
                  try simp [Region.binds] at hd
                  refine ⟨by first | rfl | simp [Region.wanted, yielded, hd], ?_⟩
                  simp [go_sem, hd]
                  exact Below.refl _ _
                · intro vals W hW hw hd
                  try simp [Region.binds] at hd
                  refine ⟨by first | rfl | simp [Region.wanted, yielded, hd], ?_⟩
                  have cc := tc3.out W hW.out
                  simp [go_sem, hd, cc]
                  exact Below.refl _ _
                · intro vals W hW hw hd
                  try simp [Region.binds] at hd
                  refine ⟨by first | rfl | simp [Region.wanted, yielded, hd], ?_⟩
                  simp [go_sem, hd, xe3]
                  exact Below.refl _ _
                · intro vals W hW hw hd
                  try simp [Region.binds] at hd
                  refine ⟨by first | rfl | simp [Region.wanted, yielded, hd], ?_⟩
                  exact yieldsA_build4 (.tmp 185) (.tmp 190) (.tmp 195) (.tmp 200) rfl z0 z1 z2 z3 hd.1 hd.2.1 hd.2.2.1 hd.2.2.2 rfl
                · intro vals W hW hw hd
                  try simp [Region.binds] at hd
                  refine ⟨by first | rfl | simp [Region.wanted, yielded, hd], ?_⟩
                  exact yields_q1 LY.out rfl hd
              obtain ⟨f0, f1, f2, f3, f4, f5, f6, f7, f8, f9, f10, f11, f12, f13, f14, f15, f16, f17, f18, f19, f20, f21, f22, f23, f24, f25, f26, _⟩ := hF
              simp only [MP.eq_p] at f0 f1 f2 f3 f4 f5 f6 f7 f8 f9 f10 f11 f12 f13 f14 f15 f16 f17 f18 f19 f20 f21 f22 f23 f24 f25
              obtain ⟨g1, f26, cc1⟩ := f26
              rw [f0, f1, f2, f3, f4, f5, f6, f7, f8, f9, f10, f11, f12, f13, f14, f15, f16, f17, f18, f19, f20, f21, f22, f23, f24, f25, f26]
              simp only [List.drop_succ_cons, List.drop_zero]
              have B9 : Hid (Below w8.heap.size w8 w9) := hb9.out
              have C9 : Hid (w9.rangeAt g1 0 ([z0, z1, z2, z3].map b8)) := cc1
              clear f0 f1 f2 f3 f4 f5 f6 f7 f8 f9 f10 f11 f12 f13 f14 f15 f16 f17 f18 f19 f20 f21 f22 f23 f24 f25 f26 cc1 hb9 hO CV ac0 ac1 ac2 ac3 tc0 tc1 tc2 tc3 xe0 xe1 xe2 xe3
              generalize vals9 27 = x27
              generalize vals9 28 = x28
              generalize vals9 29 = x29
              go_wp2_with (refine wp_appQ rfl (.tmp 180) (.tmp 202) rfl (kc + 1) (.slice (some ⟨g, 0, none⟩) N c) (W m) w8 g1 [z0, z1, z2, z3] rfl O8.out B9.out rfl C9.out LY.out WN.out SB.out ?_)
              intro v5 w10 o5 hb5 _
              rw [← ZE.out] at o5
              obtain ⟨g5, c5', rfl, _, _, _⟩ := o5.form (by rw [WL.out]; omega)
              have Y5 : Hid (Blk w10 kc (.slice (some ⟨g, 0, none⟩) N c :: (bx ++ ub).map b8)) := X8.out.up hb5 (Nat.lt_succ_self kc)
              have D5 : Hid (Below w.heap.size w w10) := D8.out.trans (hb5.mono (Nat.le_succ_of_le KB.out))
              have c5 : w10.cell? ⟨kc, 0, none⟩ = some (.slice (some ⟨g, 0, none⟩) N c) := Y5.out.cell 0 _ rfl
              have z5 := Y5.out.fz 0
              have O9 : Hid (Oq _ (kc + 1) (.slice (some ⟨g5, 0, none⟩) (W (m + 1)).length c5') (W (m + 1))) := o5.set_below (k := kc) (o := 0) (Nat.lt_succ_self kc) (.slice (some ⟨g5, 0, none⟩) (W (m + 1)).length c5')
              have Y9 : Hid _ := Y5.out.set 0 (.slice (some ⟨g5, 0, none⟩) (W (m + 1)).length c5') (by simp)
              have D9 : Hid _ := D5.out.setCell (p := ⟨kc, 0, none⟩) KB.out (.slice (some ⟨g5, 0, none⟩) (W (m + 1)).length c5')
              clear o5 hb5 Y5 D5 B9 C9 O8 X8 D8 A8 T8
              go_wp2_with fail
              go_roundg (gk - 1)
              case measure => have h1 := GM.out; have h2 := M1.out; omega
              case rel => exact ⟨m + 1, _, by have h1 := GM.out; have h2 := M1.out; omega, PM.out, O9, Y9, D9⟩
            · have q1 : (rr == 4) = false := by simp; omega
              have q2 : (4 : Int) = 4 := rfl
              go_wp2_with fail
              clear z1 z2 z3 q1 q2
              have PRE : Hid (A.preW 8 N [t0, t1, t2, t3] = [t0, t1, t2, t3]) := by
                unfold A.preW
                rw [if_neg hz, if_neg (by omega)]
                exact rfl
              have YL := LT
              have A8 := A6
              have T8 := T6
              have O8 := O6
              have X8 := X6
              have D8 := D6
              clear A6 T6 O6 X6 D6 KCB hz hq LT
              have Z0 : Hid (a0 ^^^ t0 < 256) := G.xor_lt LA.out.1 YL.out.1
              have xe0 := g_xor LA.out.1 YL.out.1
              have xe1 := g_xor LA.out.2.1 YL.out.2.1
              have xe2 := g_xor LA.out.2.2.1 YL.out.2.2.1
              have xe3 := g_xor LA.out.2.2.2 YL.out.2.2.2
              have ZE : Hid (W (m + 1) = W m ++ [[a0 ^^^ t0, a1 ^^^ t1, a2 ^^^ t2, a3 ^^^ t3]]) := by
                rw [WS.out, NX.out, PRE.out]
                exact rfl
              generalize a0 ^^^ t0 = z0 at *
              generalize a1 ^^^ t1 = z1 at *
              generalize a2 ^^^ t2 = z2 at *
              generalize a3 ^^^ t3 = z3 at *
              have ac0 : Hid (∀ W', Below w6.heap.size w6 W' → W'.cell? ⟨ka, 0, none⟩ = some (b8 a0)) := fun W' hW' => (A8.out.up hW' A8.out.lt).cell 0 _ rfl
              have ac1 : Hid (∀ W', Below w6.heap.size w6 W' → W'.cell? ⟨ka, 1, none⟩ = some (b8 a1)) := fun W' hW' => (A8.out.up hW' A8.out.lt).cell 1 _ rfl
              have ac2 : Hid (∀ W', Below w6.heap.size w6 W' → W'.cell? ⟨ka, 2, none⟩ = some (b8 a2)) := fun W' hW' => (A8.out.up hW' A8.out.lt).cell 2 _ rfl
              have ac3 : Hid (∀ W', Below w6.heap.size w6 W' → W'.cell? ⟨ka, 3, none⟩ = some (b8 a3)) := fun W' hW' => (A8.out.up hW' A8.out.lt).cell 3 _ rfl
              have tc0 : Hid (∀ W', Below w6.heap.size w6 W' → W'.cell? ⟨kt, 0, none⟩ = some (b8 t0)) := fun W' hW' => (T8.out.up hW' T8.out.lt).cell 0 _ rfl
              have tc1 : Hid (∀ W', Below w6.heap.size w6 W' → W'.cell? ⟨kt, 1, none⟩ = some (b8 t1)) := fun W' hW' => (T8.out.up hW' T8.out.lt).cell 1 _ rfl
              have tc2 : Hid (∀ W', Below w6.heap.size w6 W' → W'.cell? ⟨kt, 2, none⟩ = some (b8 t2)) := fun W' hW' => (T8.out.up hW' T8.out.lt).cell 2 _ rfl
              have tc3 : Hid (∀ W', Below w6.heap.size w6 W' → W'.cell? ⟨kt, 3, none⟩ = some (b8 t3)) := fun W' hW' => (T8.out.up hW' T8.out.lt).cell 3 _ rfl
              have CV : Hid (∀ W', Below w6.heap.size w6 W' → W'.cell? ⟨kc, 0, none⟩ = some (.slice (some ⟨g, 0, none⟩) N c)) := fun W' hW' => (X8.out.up hW' X8.out.lt).cell 0 _ rfl
              have LY : Hid ([z0, z1, z2, z3].length = 4) := by show _ = _; rfl
              have SB : Hid (kc + 1 ≤ w6.heap.size) := X8.out.lt
              clear Z0 NX PRE YL
              refine wp_region_monoFE 27 [MP.eq (.pointer (some ⟨kc, 0, none⟩)), MP.eq (.pointer (some ⟨kc, 0, none⟩)), MP.eq (.pointer (some ⟨kc, 0, none⟩)), MP.eq (.pointer (some ⟨kc, 0, none⟩)), MP.eq (.slice (some ⟨g, 0, none⟩) N c), MP.eq (.pointer (some ⟨ka, 0, none⟩)), MP.eq (b8 a0), MP.eq (.pointer (some ⟨kt, 0, none⟩)), MP.eq (b8 t0), MP.eq (b8 z0), MP.eq (.pointer (some ⟨ka, 1, none⟩)), MP.eq (b8 a1), MP.eq (.pointer (some ⟨kt, 1, none⟩)), MP.eq (b8 t1), MP.eq (b8 z1), MP.eq (.pointer (some ⟨ka, 2, none⟩)), MP.eq (b8 a2), MP.eq (.pointer (some ⟨kt, 2, none⟩)), MP.eq (b8 t2), MP.eq (b8 z2), MP.eq (.pointer (some ⟨ka, 3, none⟩)), MP.eq (b8 a3), MP.eq (.pointer (some ⟨kt, 3, none⟩)), MP.eq (b8 t3), MP.eq (b8 z3), MP.eq (aB [z0, z1, z2, z3]), MP.q1 [z0, z1, z2, z3]] (by kernel_rfl) (by kernel_rfl) rfl (by decide) (by kernel_rfl) (by kernel_rfl) (fun _ _ d _ _ h => by cases d <;> exact h) ?_
              apply Exists.intro
              refine ⟨fun vals => ?_, ?_, fun vals9 w9 hb9 hF hO => ?_⟩
              · simp only [putsV, dstL, List.length_cons, List.length_nil, Nat.zero_add, Nat.reduceAdd, List.getElem?_cons_zero, List.getElem?_cons_succ, Option.bind_some, Act.put, List.setIfInBounds_toArray, List.set_cons_succ, List.set_cons_zero]
                rfl
              · refine ⟨?_, ?_, ?_, ?_, ?_, ?_, ?_, ?_, ?_, ?_, ?_, ?_, ?_, ?_, ?_, ?_, ?_, ?_, ?_, ?_, ?_, ?_, ?_, ?_, ?_, ?_, ?_, trivial⟩
                · intro vals W hW hw hd
                  try simp [Region.binds] at hd
                  refine ⟨by first | rfl | simp [Region.wanted, yielded, hd], ?_⟩
                  simp [go_sem, hd]
                  exact Below.refl _ _
                · intro vals W hW hw hd
                  try simp [Region.binds] at hd
                  refine ⟨by first | rfl | simp [Region.wanted, yielded, hd], ?_⟩
                  simp [go_sem, hd]
                  exact Below.refl _ _
                · intro vals W hW hw hd
                  try simp [Region.binds] at hd
                  refine ⟨by first | rfl | simp [Region.wanted, yielded, hd], ?_⟩
                  simp [go_sem, hd]
                  exact Below.refl _ _
                · intro vals W hW hw hd
                  try simp [Region.binds] at hd
                  refine ⟨by first | rfl | simp [Region.wanted, yielded, hd], ?_⟩
                  simp [go_sem, hd]
                  exact Below.refl _ _
                · intro vals W hW hw hd
                  try simp [Region.binds] at hd
                  refine ⟨by first | rfl | simp [Region.wanted, yielded, hd], ?_⟩
                  have cc := CV.out W hW.out
                  simp [go_sem, hd, cc]
                  exact Below.refl _ _
                · intro vals W hW hw hd
                  try simp [Region.binds] at hd
                  refine ⟨by first | rfl | simp [Region.wanted, yielded, hd], ?_⟩
                  simp [go_sem, hd]
                  exact Below.refl _ _
                · intro vals W hW hw hd
                  try simp [Region.binds] at hd
                  refine ⟨by first | rfl | simp [Region.wanted, yielded, hd], ?_⟩
                  have cc := ac0.out W hW.out
                  simp [go_sem, hd, cc]
                  exact Below.refl _ _
                · intro vals W hW hw hd
                  try simp [Region.binds] at hd
                  refine ⟨by first | rfl | simp [Region.wanted, yielded, hd], ?_⟩
                  simp [go_sem, hd]
                  exact Below.refl _ _
                · intro vals W hW hw hd
                  try simp [Region.binds] at hd
                  refine ⟨by first | rfl | simp [Region.wanted, yielded, hd], ?_⟩
                  have cc := tc0.out W hW.out
                  simp [go_sem, hd, cc]
                  exact Below.refl _ _
                · intro vals W hW hw hd
                  try simp [Region.binds] at hd
                  refine ⟨by first | rfl | simp [Region.wanted, yielded, hd], ?_⟩
                  simp [go_sem, hd, xe0]
                  exact Below.refl _ _
                · intro vals W hW hw hd
                  try simp [Region.binds] at hd
                  refine ⟨by first | rfl | simp [Region.wanted, yielded, hd], ?_⟩
                  simp [go_sem, hd]
                  exact Below.refl _ _
                · intro vals W hW hw hd
                  try simp [Region.binds] at hd
                  refine ⟨by first | rfl | simp [Region.wanted, yielded, hd], ?_⟩
                  have cc := ac1.out W hW.out
                  simp [go_sem, hd, cc]
                  exact Below.refl _ _
                · intro vals W hW hw hd
                  try simp [Region.binds] at hd
                  refine ⟨by first | rfl | simp [Region.wanted, yielded, hd], ?_⟩
                  simp [go_sem, hd]
                  exact Below.refl _ _
                · intro vals W hW hw hd
                  try simp [Region.binds] at hd
                  refine ⟨by first | rfl | simp [Region.wanted, yielded, hd], ?_⟩
                  have cc := tc1.out W hW.out
                  simp [go_sem, hd, cc]
                  exact Below.refl _ _
                · intro vals W hW hw hd
                  try simp [Region.binds] at hd
                  refine ⟨by first | rfl | simp [Region.wanted, yielded, hd], ?_⟩
                  simp [go_sem, hd, xe1]
                  exact Below.refl _ _
                · intro vals W hW hw hd
                  try simp [Region.binds] at hd
                  refine ⟨by first | rfl | simp [Region.wanted, yielded, hd], ?_⟩
                  simp [go_sem, hd]
                  exact Below.refl _ _
                · intro vals W hW hw hd
                  try simp [Region.binds] at hd
                  refine ⟨by first | rfl | simp [Region.wanted, yielded, hd], ?_⟩
                  have cc := ac2.out W hW.out
                  simp [go_sem, hd, cc]
                  exact Below.refl _ _
                · intro vals W hW hw hd
                  try simp [Region.binds] at hd
                  refine ⟨by first | rfl | simp [Region.wanted, yielded, hd], ?_⟩
                  simp [go_sem, hd]
                  exact Below.refl _ _
                · intro vals W hW hw hd
                  try simp [Region.binds] at hd
                  refine ⟨by first | rfl | simp [Region.wanted, yielded, hd], ?_⟩
                  have cc := tc2.out W hW.out
                  simp [go_sem, hd, cc]
                  exact Below.refl _ _
                · intro vals W hW hw hd
                  try simp [Region.binds] at hd
                  refine ⟨by first | rfl | simp [Region.wanted, yielded, hd], ?_⟩
                  simp [go_sem, hd, xe2]
                  exact Below.refl _ _
                · intro vals W hW hw hd
                  try simp [Region.binds] at hd
                  refine ⟨by first | rfl | simp [Region.wanted, yielded, hd], ?_⟩
                  simp [go_sem, hd]
                  exact Below.refl _ _
                · intro vals W hW hw hd
                  try simp [Region.binds] at hd
                  refine ⟨by first | rfl | simp [Region.wanted, yielded, hd], ?_⟩
                  have cc := ac3.out W hW.out
                  simp [go_sem, hd, cc]
                  exact Below.refl _ _
                · intro vals W hW hw hd
                  try simp [Region.binds] at hd
                  refine ⟨by first | rfl | simp [Region.wanted, yielded, hd], ?_⟩
                  simp [go_sem, hd]
                  exact Below.refl _ _
                · intro vals W hW hw hd
                  try simp [Region.binds] at hd
                  refine ⟨by first | rfl | simp [Region.wanted, yielded, hd], ?_⟩
                  have cc := tc3.out W hW.out
                  simp [go_sem, hd, cc]
                  exact Below.refl _ _
                · intro vals W hW hw hd
                  try simp [Region.binds] at hd
                  refine ⟨by first | rfl | simp [Region.wanted, yielded, hd], ?_⟩
                  simp [go_sem, hd, xe3]
                  exact Below.refl _ _
                · intro vals W hW hw hd
                  try simp [Region.binds] at hd
                  refine ⟨by first | rfl | simp [Region.wanted, yielded, hd], ?_⟩
                  exact yieldsA_build4 (.tmp 185) (.tmp 190) (.tmp 195) (.tmp 200) rfl z0 z1 z2 z3 hd.1 hd.2.1 hd.2.2.1 hd.2.2.2 rfl
                · intro vals W hW hw hd
                  try simp [Region.binds] at hd
                  refine ⟨by first | rfl | simp [Region.wanted, yielded, hd], ?_⟩
                  exact yields_q1 LY.out rfl hd
              obtain ⟨f0, f1, f2, f3, f4, f5, f6, f7, f8, f9, f10, f11, f12, f13, f14, f15, f16, f17, f18, f19, f20, f21, f22, f23, f24, f25, f26, _⟩ := hF
              simp only [MP.eq_p] at f0 f1 f2 f3 f4 f5 f6 f7 f8 f9 f10 f11 f12 f13 f14 f15 f16 f17 f18 f19 f20 f21 f22 f23 f24 f25
              obtain ⟨g1, f26, cc1⟩ := f26
              rw [f0, f1, f2, f3, f4, f5, f6, f7, f8, f9, f10, f11, f12, f13, f14, f15, f16, f17, f18, f19, f20, f21, f22, f23, f24, f25, f26]
              simp only [List.drop_succ_cons, List.drop_zero]
              have B9 : Hid (Below w6.heap.size w6 w9) := hb9.out
              have C9 : Hid (w9.rangeAt g1 0 ([z0, z1, z2, z3].map b8)) := cc1
              clear f0 f1 f2 f3 f4 f5 f6 f7 f8 f9 f10 f11 f12 f13 f14 f15 f16 f17 f18 f19 f20 f21 f22 f23 f24 f25 f26 cc1 hb9 hO CV ac0 ac1 ac2 ac3 tc0 tc1 tc2 tc3 xe0 xe1 xe2 xe3
              generalize vals9 27 = x27
              generalize vals9 28 = x28
              generalize vals9 29 = x29
              go_wp2_with (refine wp_appQ rfl (.tmp 180) (.tmp 202) rfl (kc + 1) (.slice (some ⟨g, 0, none⟩) N c) (W m) w6 g1 [z0, z1, z2, z3] rfl O8.out B9.out rfl C9.out LY.out WN.out SB.out ?_)
              intro v5 w10 o5 hb5 _
              rw [← ZE.out] at o5
              obtain ⟨g5, c5', rfl, _, _, _⟩ := o5.form (by rw [WL.out]; omega)
              have Y5 : Hid (Blk w10 kc (.slice (some ⟨g, 0, none⟩) N c :: (bx ++ ub).map b8)) := X8.out.up hb5 (Nat.lt_succ_self kc)
              have D5 : Hid (Below w.heap.size w w10) := D8.out.trans (hb5.mono (Nat.le_succ_of_le KB.out))
              have c5 : w10.cell? ⟨kc, 0, none⟩ = some (.slice (some ⟨g, 0, none⟩) N c) := Y5.out.cell 0 _ rfl
              have z5 := Y5.out.fz 0
              have O9 : Hid (Oq _ (kc + 1) (.slice (some ⟨g5, 0, none⟩) (W (m + 1)).length c5') (W (m + 1))) := o5.set_below (k := kc) (o := 0) (Nat.lt_succ_self kc) (.slice (some ⟨g5, 0, none⟩) (W (m + 1)).length c5')
              have Y9 : Hid _ := Y5.out.set 0 (.slice (some ⟨g5, 0, none⟩) (W (m + 1)).length c5') (by simp)
              have D9 : Hid _ := D5.out.setCell (p := ⟨kc, 0, none⟩) KB.out (.slice (some ⟨g5, 0, none⟩) (W (m + 1)).length c5')
              clear o5 hb5 Y5 D5 B9 C9 O8 X8 D8 A8 T8
              go_wp2_with fail
              go_roundg (gk - 1)
              case measure => have h1 := GM.out; have h2 := M1.out; omega
              case rel => exact ⟨m + 1, _, by have h1 := GM.out; have h2 := M1.out; omega, PM.out, O9, Y9, D9⟩
        · have n1 : ¬ (N : Int) < 60 := by omega
          obtain rfl : m = 52 := by omega
          have CC : Hid (Cph wr kc (A.keyW key)) := by
            rw [WK.out]
            exact CU.out wr kc _ _ O3.out (by have := X3.out; rw [WL.out, ← NN.out] at this; exact this)
          clear hm hm1 hN
          go_wp2_with fail
          go_ret2
          exact ⟨⟨kc, by simp, CC.out⟩, D3.out⟩
end Go.Proofs.Ytejabkmhpiabnaa
