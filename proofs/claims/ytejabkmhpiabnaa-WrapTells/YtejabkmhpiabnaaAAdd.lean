/- A cipher in memory; the contract of sealringref's Cipher.add: a round key put to a block. -/
import Derived.Test.YtejabkmhpiabnaaGrp11
import Derived.Test.YtejabkmhpiabnaaGrp8
namespace Go.Proofs.Ytejabkmhpiabnaa
open Go.RowKit
set_option linter.unusedSimpArgs false
attribute [local go_sem] YieldsP execOp
attribute [local simp] MP.eq_p
/-- In block k lies a cipher: its words, and the boxes. -/
def Cph (w : World) (k : Nat) (ws : List (List Nat)) : Prop := ∃ v, Qs w v ws ∧ Blk w k (v :: (G.boxL ++ G.unboxL).map b8)
theorem Cph.up {W w1 : World} {k : Nat} {ws : List (List Nat)} (h : Cph W k ws) (hb : Below W.heap.size W w1) : Cph w1 k ws := by
  obtain ⟨v, h1, h2⟩ := h
  exact ⟨v, h1.up hb (Nat.le_refl _), h2.up hb h2.lt⟩
namespace A
/-- The first n places are new ones. -/
def midL (old new : Nat → Nat) (n : Nat) : List Nat := by_ 16 fun p => if p < n then new p else old p
theorem midL_length (old new : Nat → Nat) (n : Nat) : (midL old new n).length = 16 := by_length _ _
theorem midL_zero (old new : Nat → Nat) : midL old new 0 = by_ 16 old := by_congr fun _ _ => if_neg (Nat.not_lt_zero _)
theorem midL_all (old new : Nat → Nat) : midL old new 16 = by_ 16 new := by_congr fun _ hi => if_pos hi
theorem midL_at (old new : Nat → Nat) {n : Nat} (h : n < 16) : (midL old new n).getD n 0 = old n := by
  unfold midL
  rw [by_get h, if_neg (Nat.lt_irrefl n)]
theorem midL_set (old new : Nat → Nat) {n : Nat} (h : n < 16) : (midL old new n).set n (new n) = midL old new (n + 1) := by
  refine (by_self (l := (midL old new n).set n (new n)) (by rw [List.length_set, midL_length])).symm.trans (by_congr fun i hi => ?_)
  rw [getD_set _ _ _ _ (by rw [midL_length]; exact h)]
  unfold midL
  rw [by_get hi]
  by_cases e : n = i
  · subst e
    rw [if_pos rfl, if_pos (Nat.lt_succ_self n)]
  · rw [if_neg e]
    by_cases e2 : i < n
    · rw [if_pos e2, if_pos (by omega)]
    · rw [if_neg e2, if_neg (by omega)]
end A
theorem map_b8_at (l : List Nat) (j : Nat) (h : j < l.length) : (l.map b8)[j]? = some (b8 (l.getD j 0)) := by simp [List.getD_eq_getElem?_getD, h]
set_option maxRecDepth 20000 in
set_option maxHeartbeats 2000000 in
theorem radd_fun (ws : List (List Nat)) (hw : A.okW ws) (g : List Nat) (hg : A.ok 16 g) (rd : Nat) (hr : 4 * rd + 3 < ws.length) (hz : ws.length ≤ 100) (kc : Nat) (w : World) (hc : Cph w kc ws) :
    Calls Try.prog 43 #[.pointer (some ⟨kc, 0, none⟩), aB g, .int .i64 (rd : Int)] w fun e w' => e = .returned (aB (A.by_ 16 fun p => g.getD p 0 ^^^ (ws.getD (4 * rd + p % 4) []).getD (p / 4) 0)) ∧ Below w.heap.size w w' := by
  obtain ⟨new, hnew⟩ : ∃ new : Nat → Nat, new = fun p => g.getD p 0 ^^^ (ws.getD (4 * rd + p % 4) []).getD (p / 4) 0 := ⟨_, rfl⟩
  obtain ⟨old, hold⟩ : ∃ old : Nat → Nat, old = fun p => g.getD p 0 := ⟨_, rfl⟩
  rw [← hnew]
  have NE : Hid (∀ j k, j < 4 → k < 4 → bits .xor .u8 ((old (j * 4 + k) : Nat) : Int) (((ws.getD (4 * rd + k) []).getD j 0 : Nat) : Int) = ((new (j * 4 + k) : Nat) : Int)) := fun j k hj hk => by
    rw [hold, hnew]
    show bits .xor .u8 ((g.getD (j * 4 + k) 0 : Nat) : Int) _ = ((g.getD (j * 4 + k) 0 ^^^ (ws.getD (4 * rd + (j * 4 + k) % 4) []).getD ((j * 4 + k) / 4) 0 : Nat) : Int)
    rw [g_xor (hg.at _) (hw.at _ _), show (j * 4 + k) % 4 = k by omega, show (j * 4 + k) / 4 = j by omega]
  have G0 : Hid (g = A.midL old new 0) := by rw [A.midL_zero, hold, A.by_self hg.1]; exact rfl
  have HG : Hid (A.ok 16 g) := hg
  obtain ⟨v, hv, hb⟩ := hc
  obtain ⟨a, c, rfl, hlc, hex⟩ := hv
  obtain ⟨b, o, rfl, hcell⟩ := hex (by omega)
  have CW : Hid (∀ W m j, Below w.heap.size w W → m < ws.length → j < 4 → W.cell? ⟨b, o + m * 4 + j, none⟩ = some (b8 ((ws.getD m []).getD j 0))) := fun W m j hW hm hj => by
    have h1 := range_upq (hcell m hm) hW (Nat.le_refl _)
    have hl : (ws.getD m []).length = 4 := by
      rw [List.getD_eq_getElem?_getD, List.getElem?_eq_getElem hm]
      exact (hw _ (List.getElem_mem hm)).1
    exact h1 j _ (map_b8_at _ j (by omega))
  have CV : Hid (∀ W, Below w.heap.size w W → W.cell? ⟨kc, 0, none⟩ = some (.slice (some ⟨b, o, none⟩) ws.length c)) := fun W hW => (hb.up hW hb.lt).cell 0 _ rfl
  obtain ⟨x0, x1, x2⟩ := al2 w (g.map b8).toArray #[Value.int IntKind.u8 0, Value.int IntKind.u8 0, Value.int IntKind.u8 0, Value.int IntKind.u8 0, Value.int IntKind.u8 0, Value.int IntKind.u8 0, Value.int IntKind.u8 0, Value.int IntKind.u8 0, Value.int IntKind.u8 0, Value.int IntKind.u8 0, Value.int IntKind.u8 0, Value.int IntKind.u8 0, Value.int IntKind.u8 0, Value.int IntKind.u8 0, Value.int IntKind.u8 0, Value.int IntKind.u8 0] 75 75
  have X1 : Hid (Blk _ (w.heap.size + 1) (zB 16)) := x1
  have X2 : Hid (Below w.heap.size w _) := x2
  rw [show (g.map b8).toArray.toList = (A.midL old new (4 * 0)).map b8 by rw [Nat.mul_zero, ← G0.out]] at x0
  have X0 : Hid (Blk _ w.heap.size ((A.midL old new (4 * 0)).map b8)) := x0
  have RD : Hid (4 * rd + 3 < ws.length ∧ ws.length ≤ 100) := ⟨hr, hz⟩
  have wm : IntKind.i64.wrap (4 * (rd : Int)) = 4 * (rd : Int) := by rw [IntKind.wrap_i64]; omega
  have nl : (ws.length : Int) ≤ 100 := by omega
  clear x0 x1 x2 hg hw hb hcell hnew hold hex hlc hr hz G0
  go_enter Try.func43, Try.ntmps43
  go_wp2_with fail
  generalize World.alloc (w.alloc _) _ = w1 at *
  go_loopw [9] (fun i wr => ∃ j : Nat, j ≤ 4 ∧ i = .int .i64 (j : Int) ∧ Hid (Blk wr w.heap.size ((A.midL old new (4 * j)).map b8)) ∧ Hid (Blk wr (w.heap.size + 1) (zB 16)) ∧ Hid (Below w.heap.size w wr)) (fun i _ => 4 - (intOf i).toNat)
  case atStart => exact ⟨0, by omega, rfl, X0, X1, X2⟩
  case round =>
    clear X0 X1 X2
    obtain ⟨j, hj, rfl, X0, X1, X2⟩ := hrel
    by_cases hj1 : j < 4
    · have j1 : (j : Int) < 4 := by omega
      have wj : IntKind.i64.wrap ((j : Int) + 1) = (j : Int) + 1 := by rw [IntKind.wrap_i64]; omega
      have J1 : Hid (j < 4) := hj1
      have Y0 : Hid (Blk wr w.heap.size ((A.midL old new (4 * j + 0)).map b8)) := X0
      clear X0 hj hj1
      go_wp2_with fail
      go_loopw [12] (fun i wr => ∃ k : Nat, k ≤ 4 ∧ i = .int .i64 (k : Int) ∧ Hid (Blk wr w.heap.size ((A.midL old new (4 * j + k)).map b8)) ∧ Hid (Blk wr (w.heap.size + 1) (zB 16)) ∧ Hid (Below w.heap.size w wr)) (fun i _ => 4 - (intOf i).toNat)
      case atStart => exact ⟨0, by omega, rfl, Y0, X1, X2⟩
      case round =>
        clear Y0 X1 X2
        obtain ⟨k, hk, rfl, X0, X1, X2⟩ := hrel
        by_cases hk1 : k < 4
        · have k1 : (k : Int) < 4 := by omega
          have wk : IntKind.i64.wrap ((k : Int) + 1) = (k : Int) + 1 := by rw [IntKind.wrap_i64]; omega
          obtain ⟨m, hm⟩ : ∃ m, m = 4 * rd + k := ⟨_, rfl⟩
          have RD1 := RD.out
          have J1' := J1.out
          have wa : IntKind.i64.wrap (4 * (rd : Int) + (k : Int)) = (m : Int) := by rw [IntKind.wrap_i64]; omega
          have ml : (m : Int) < (ws.length : Int) := by omega
          have xe := NE.out j k J1.out hk1
          rw [← hm] at xe
          have P16 : Hid (4 * j + k = j * 4 + k ∧ j * 4 + k < 16) := by show _ ∧ _; omega
          have cg : Hid (∀ W, Below wr.heap.size wr W → W.cell? ⟨w.heap.size, j * 4 + k, none⟩ = some (b8 (old (j * 4 + k)))) := fun W hW => by
            have h1 := (X0.out.up hW X0.out.lt).byte (j * 4 + k) (by rw [A.midL_length]; exact P16.out.2)
            rw [P16.out.1, A.midL_at old new P16.out.2] at h1
            exact h1
          have cw : Hid (∀ W, Below wr.heap.size wr W → W.cell? ⟨b, o + m * 4 + j, none⟩ = some (b8 ((ws.getD m []).getD j 0))) := fun W hW => CW.out W m j (X2.out.trans (hW.mono X2.out.size)) (by omega) J1.out
          have cv : Hid (∀ W, Below wr.heap.size wr W → W.cell? ⟨kc, 0, none⟩ = some (.slice (some ⟨b, o, none⟩) ws.length c)) := fun W hW => CV.out W (X2.out.trans (hW.mono X2.out.size))
          have US : Hid (∀ W, Blk W w.heap.size ((A.midL old new (4 * j + k)).map b8) → Blk (W.setCell ⟨w.heap.size, j * 4 + k, none⟩ (b8 (new (j * 4 + k)))) w.heap.size ((A.midL old new (4 * j + (k + 1))).map b8)) := fun W h => by
            rw [← Nat.add_assoc, P16.out.1, ← A.midL_set old new P16.out.2]
            rw [P16.out.1] at h
            exact h.setB _ _ (by rw [A.midL_length]; exact P16.out.2)
          have K4 : Hid (k < 4) := hk1
          generalize old (j * 4 + k) = og at *
          generalize new (j * 4 + k) = nw at *
          generalize (ws.getD m []).getD j 0 = wv at *
          clear hm hk hk1 RD1 J1' P16
          go_wp2_with fail
          refine wp_region_monoSE 20 [MP.eq (.int .i64 (j : Int)), MP.eq (.int .i64 (k : Int)), MP.eq (.pointer (some ⟨w.heap.size, j * 4, none⟩)), MP.eq (.pointer (some ⟨w.heap.size, j * 4 + k, none⟩)), MP.eq (b8 og), MP.eq (.pointer (some ⟨kc, 0, none⟩)), MP.eq (.pointer (some ⟨kc, 0, none⟩)), MP.eq (.pointer (some ⟨kc, 0, none⟩)), MP.eq (.slice (some ⟨b, o, none⟩) ws.length c), MP.eq (.int .i64 (rd : Int)), MP.eq (.int .i64 (4 * (rd : Int))), MP.eq (.int .i64 (k : Int)), MP.eq (.int .i64 (m : Int)), MP.eq (.int .i64 (j : Int)), MP.eq (.pointer (some ⟨b, o + m * 4, none⟩)), MP.eq (.pointer (some ⟨b, o + m * 4 + j, none⟩)), MP.eq (b8 wv), MP.eq (b8 nw), MP.eq (.pointer (some ⟨w.heap.size, j * 4, none⟩)), MP.eq (.pointer (some ⟨w.heap.size, j * 4 + k, none⟩))] (by kernel_rfl) (by kernel_rfl) rfl (by decide) (by kernel_rfl) ?_
          apply Exists.intro
          refine ⟨fun vals => ?_, ?_, fun vals4 w4 hb4 hF hO => ?_⟩
          · simp only [putsV, dstL, List.length_cons, List.length_nil, Nat.zero_add, Nat.reduceAdd, List.getElem?_cons_zero, List.getElem?_cons_succ, Option.bind_some, Act.put, List.setIfInBounds_toArray, List.set_cons_succ, List.set_cons_zero]
            rfl
          · refine ⟨?_, ?_, ?_, ?_, ?_, ?_, ?_, ?_, ?_, ?_, ?_, ?_, ?_, ?_, ?_, ?_, ?_, ?_, ?_, ?_, trivial⟩
            · intro vals W hW hw hd
              try simp [Region.binds] at hd
              refine ⟨by first | rfl | simp [Region.wanted, yielded, hd], ?_⟩
              simp [go_sem, hd]
              exact Below.refl _ _
            · intro vals W hW hw hd
              try simp [Region.binds] at hd
              refine ⟨by first | rfl | simp [Region.wanted, yielded, hd], ?_⟩
              simp [go_sem, hd]
              exact Below.refl _ _
            · intro vals W hW hw hd
              try simp [Region.binds] at hd
              refine ⟨by first | rfl | simp [Region.wanted, yielded, hd], ?_⟩
              simp [go_sem, hd, j1]
              exact Below.refl _ _
            · intro vals W hW hw hd
              try simp [Region.binds] at hd
              refine ⟨by first | rfl | simp [Region.wanted, yielded, hd], ?_⟩
              simp [go_sem, hd, k1]
              exact Below.refl _ _
            · intro vals W hW hw hd
              try simp [Region.binds] at hd
              refine ⟨by first | rfl | simp [Region.wanted, yielded, hd], ?_⟩
              have cc := cg.out W hW.out
              simp [go_sem, hd, cc]
              exact Below.refl _ _
            · intro vals W hW hw hd
              try simp [Region.binds] at hd
              refine ⟨by first | rfl | simp [Region.wanted, yielded, hd], ?_⟩
              simp [go_sem, hd]
              exact Below.refl _ _
            · intro vals W hW hw hd
              try simp [Region.binds] at hd
              refine ⟨by first | rfl | simp [Region.wanted, yielded, hd], ?_⟩
              simp [go_sem, hd]
              exact Below.refl _ _
            · intro vals W hW hw hd
              try simp [Region.binds] at hd
              refine ⟨by first | rfl | simp [Region.wanted, yielded, hd], ?_⟩
              simp [go_sem, hd]
              exact Below.refl _ _
            · intro vals W hW hw hd
              try simp [Region.binds] at hd
              refine ⟨by first | rfl | simp [Region.wanted, yielded, hd], ?_⟩
              have cc := cv.out W hW.out
              simp [go_sem, hd, cc]
              exact Below.refl _ _
            · intro vals W hW hw hd
              try simp [Region.binds] at hd
              refine ⟨by first | rfl | simp [Region.wanted, yielded, hd], ?_⟩
              simp [go_sem, hd]
              exact Below.refl _ _
            · intro vals W hW hw hd
              try simp [Region.binds] at hd
              refine ⟨by first | rfl | simp [Region.wanted, yielded, hd], ?_⟩
              simp [go_sem, hd, wm]
              exact Below.refl _ _
            · intro vals W hW hw hd
              try simp [Region.binds] at hd
              refine ⟨by first | rfl | simp [Region.wanted, yielded, hd], ?_⟩
              simp [go_sem, hd]
              exact Below.refl _ _
            · intro vals W hW hw hd
              try simp [Region.binds] at hd
              refine ⟨by first | rfl | simp [Region.wanted, yielded, hd], ?_⟩
              simp [go_sem, hd, wa]
              exact Below.refl _ _
            · intro vals W hW hw hd
              try simp [Region.binds] at hd
              refine ⟨by first | rfl | simp [Region.wanted, yielded, hd], ?_⟩
              simp [go_sem, hd]
              exact Below.refl _ _
            · intro vals W hW hw hd
              try simp [Region.binds] at hd
              refine ⟨by first | rfl | simp [Region.wanted, yielded, hd], ?_⟩
              simp [go_sem, hd, ml]
              exact Below.refl _ _
            · intro vals W hW hw hd
              try simp [Region.binds] at hd
              refine ⟨by first | rfl | simp [Region.wanted, yielded, hd], ?_⟩
              simp [go_sem, hd, j1]
              exact Below.refl _ _
            · intro vals W hW hw hd
              try simp [Region.binds] at hd
              refine ⟨by first | rfl | simp [Region.wanted, yielded, hd], ?_⟩
              have cc := cw.out W hW.out
              simp [go_sem, hd, cc]
              exact Below.refl _ _
            · intro vals W hW hw hd
              try simp [Region.binds] at hd
              refine ⟨by first | rfl | simp [Region.wanted, yielded, hd], ?_⟩
              simp [go_sem, hd, xe]
              exact Below.refl _ _
            · intro vals W hW hw hd
              try simp [Region.binds] at hd
              refine ⟨by first | rfl | simp [Region.wanted, yielded, hd], ?_⟩
              simp [go_sem, hd, j1]
              exact Below.refl _ _
            · intro vals W hW hw hd
              try simp [Region.binds] at hd
              refine ⟨by first | rfl | simp [Region.wanted, yielded, hd], ?_⟩
              simp [go_sem, hd, k1]
              exact Below.refl _ _
          obtain ⟨f0, f1, f2, f3, f4, f5, f6, f7, f8, f9, f10, f11, f12, f13, f14, f15, f16, f17, f18, f19, _⟩ := hF
          simp only [MP.eq_p] at f0 f1 f2 f3 f4 f5 f6 f7 f8 f9 f10 f11 f12 f13 f14 f15 f16 f17 f18 f19
          rw [f0, f1, f2, f3, f4, f5, f6, f7, f8, f9, f10, f11, f12, f13, f14, f15, f16, f17, f18, f19]
          simp only [List.drop_succ_cons, List.drop_zero]
          have Z0 : Hid (Blk w4 w.heap.size ((A.midL old new (4 * j + k)).map b8)) := X0.out.up hb4.out X0.out.lt
          have Z1 : Hid (Blk w4 (w.heap.size + 1) (zB 16)) := X1.out.up hb4.out X1.out.lt
          have Z2 : Hid (Below w.heap.size w w4) := X2.out.trans (hb4.out.mono X2.out.size)
          have c4 := cg.out w4 hb4.out
          have z4 := Z0.out.fz (j * 4 + k)
          clear f0 f1 f2 f3 f4 f5 f6 f7 f8 f9 f10 f11 f12 f13 f14 f15 f16 f17 f18 f19 hb4 hO X0 X1 X2 cg cw cv
          have V0 : Hid _ := US.out w4 Z0.out
          have V1 : Hid _ := Z1.out.apart1 (k' := w.heap.size) (o := j * 4 + k) (v := b8 nw) (by omega)
          have V2 : Hid _ := Z2.out.setCell (p := ⟨w.heap.size, j * 4 + k, none⟩) (Nat.le_refl _) (b8 nw)
          clear Z0 Z1 Z2 US
          go_wp2_with fail
          go_roundw
          case rel => exact ⟨k + 1, K4.out, by first | rfl | go_num, V0, V1, V2⟩
          case measure => have := K4.out; simp [intOf]; omega
        · obtain rfl : k = 4 := by omega
          clear hk hk1
          go_wp2_with fail
          go_roundw
          case rel => exact ⟨j + 1, J1.out, by first | rfl | go_num, by rw [show 4 * (j + 1) = 4 * j + 4 by omega]; exact X0, X1, X2⟩
          case measure => have := J1.out; simp [intOf]; omega
    · obtain rfl : j = 4 := by omega
      rw [show 4 * 4 = 16 from rfl, A.midL_all] at X0
      have LL : Hid ((A.by_ 16 new).length = 16) := A.by_length _ _
      obtain ⟨l, hl⟩ : ∃ l, l = A.by_ 16 new := ⟨_, rfl⟩
      rw [← hl] at X0 LL
      have HE : Hid (l = A.by_ 16 new) := hl
      clear hl hj hj1
      have T0 : Hid (wr.there (w.heap.size + 1) 0 (l.map b8).length) := X1.out.there (by rw [List.length_map, LL.out, zB_length]; omega)
      go_wp2_with (first | refine wpList_load_mid rfl 75 (.tmp 4) rfl w.heap.size 0 rfl (l.map b8) _ X0.out.all u_g16 rfl (info_n info_g16 l LL.out) ?_ | refine wp_store_eq rfl 75 (.tmp 6) (.tmp 37) rfl (w.heap.size + 1) 0 (l.map b8) rfl rfl T0.out (info_n info_g16 l LL.out) (one_b8 _) ?_)
      intro w9 hw9
      go_wp2_with fail
      refine bodyPost_ret (v := aB l) ?_ rfl ⟨by rw [HE.out], ?_⟩
      · rw [hw9.out]
        exact results_cell (b := w.heap.size + 1) rfl rfl (World.rangeAt_setCells_same _ _ _ _ T0.out) u_g16 rfl (info_n info_g16 l LL.out)
      · rw [hw9.out]
        exact below_setCells _ _ _ X2.out (by omega)
end Go.Proofs.Ytejabkmhpiabnaa
