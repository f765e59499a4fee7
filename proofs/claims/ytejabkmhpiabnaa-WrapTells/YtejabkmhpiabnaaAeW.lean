/- The contracts of aes.subWord, aes.sum and aes.changed: words of a key. -/
import Derived.Test.YtejabkmhpiabnaaAMath
import Derived.Test.YtejabkmhpiabnaaGfIs
namespace Go.Proofs.Ytejabkmhpiabnaa
open Go.RowKit
set_option linter.unusedSimpArgs false
attribute [local go_sem] YieldsP execOp
attribute [local simp] MP.eq_p
namespace A
/-- Of n places the first k are new ones. -/
def midN (n : Nat) (old new : Nat → Nat) (k : Nat) : List Nat := by_ n fun p => if p < k then new p else old p
theorem midN_length (n : Nat) (old new : Nat → Nat) (k : Nat) : (midN n old new k).length = n := by_length _ _
theorem midN_zero (n : Nat) (old new : Nat → Nat) : midN n old new 0 = by_ n old := by_congr fun _ _ => if_neg (Nat.not_lt_zero _)
theorem midN_all (n : Nat) (old new : Nat → Nat) : midN n old new n = by_ n new := by_congr fun _ hi => if_pos hi
theorem midN_at {n : Nat} (old new : Nat → Nat) {k p : Nat} (h : p < n) (hk : k ≤ p) : (midN n old new k).getD p 0 = old p := by
  unfold midN
  rw [by_get h, if_neg (Nat.not_lt.2 hk)]
theorem midN_set {n : Nat} (old new : Nat → Nat) {k : Nat} (h : k < n) : (midN n old new k).set k (new k) = midN n old new (k + 1) := by
  refine (by_self (l := (midN n old new k).set k (new k)) (by rw [List.length_set, midN_length])).symm.trans (by_congr fun i hi => ?_)
  rw [getD_set _ _ _ _ (by rw [midN_length]; exact h)]
  unfold midN
  rw [by_get hi]
  by_cases e : k = i
  · subst e
    rw [if_pos rfl, if_pos (Nat.lt_succ_self k)]
  · rw [if_neg e]
    by_cases e2 : i < k
    · rw [if_pos e2, if_pos (by omega)]
    · rw [if_neg e2, if_neg (by omega)]
end A
theorem zero_a4 (w : World) : (zeroValue 23).run Try.prog w = .ok (.agg (zB 4).toArray) w := zero_of (by kernel_rfl) w
set_option maxRecDepth 20000 in
set_option maxHeartbeats 1000000 in
theorem asubw_fun (t : List Nat) (ht : A.ok 4 t) (w : World) : Calls Try.prog 35 #[aB t] w fun e w' => e = .returned (aB (A.subW t)) ∧ Below w.heap.size w w' := by
  obtain ⟨old, hold⟩ : ∃ old : Nat → Nat, old = fun p => t.getD p 0 := ⟨_, rfl⟩
  obtain ⟨new, hnew⟩ : ∃ new : Nat → Nat, new = fun p => G.sub (t.getD p 0) := ⟨_, rfl⟩
  have GS : Hid (∀ i W, Calls Try.prog 40 #[b8 (old i)] W fun e w' => e = .returned (b8 (new i)) ∧ Below W.heap.size W w') := fun i W => by
    rw [hold, hnew]
    exact gfIs.sub _ (ht.at i) W trivial
  have NE : Hid (A.subW t = A.by_ 4 new) := by rw [hnew]; exact rfl
  rw [NE.out]
  obtain ⟨x0, x1, x2⟩ := al2 w (t.map b8).toArray #[Value.int IntKind.u8 0, Value.int IntKind.u8 0, Value.int IntKind.u8 0, Value.int IntKind.u8 0] 23 23
  rw [show (t.map b8).toArray.toList = (A.midN 4 old new 0).map b8 by rw [A.midN_zero, hold, A.by_self ht.1]] at x0
  have X0 : Hid (Blk _ w.heap.size ((A.midN 4 old new 0).map b8)) := x0
  have X1 : Hid (Blk _ (w.heap.size + 1) (zB 4)) := x1
  have X2 : Hid (Below w.heap.size w _) := x2
  clear x0 x1 x2 ht hold hnew NE
  go_enter Try.func35, Try.ntmps35
  go_wp2_with fail
  generalize World.alloc (w.alloc _) _ = w1 at *
  go_loopw [4] (fun i wr => ∃ j : Nat, j ≤ 4 ∧ i = .int .i64 (j : Int) ∧ Hid (Blk wr w.heap.size ((A.midN 4 old new j).map b8)) ∧ Hid (Blk wr (w.heap.size + 1) (zB 4)) ∧ Hid (Below w.heap.size w wr)) (fun i _ => 4 - (intOf i).toNat)
  case atStart => exact ⟨0, by omega, rfl, X0, X1, X2⟩
  case round =>
    clear X0 X1 X2
    obtain ⟨j, hj, rfl, X0, X1, X2⟩ := hrel
    by_cases hj1 : j < 4
    · have j1 : (j : Int) < 4 := by omega
      have wj : IntKind.i64.wrap ((j : Int) + 1) = (j : Int) + 1 := by rw [IntKind.wrap_i64]; omega
      have J1 : Hid (j < 4) := hj1
      have cj := X0.out.byte j (by rw [A.midN_length]; exact hj1)
      rw [A.midN_at old new hj1 (Nat.le_refl _)] at cj
      have US : Hid (∀ W, Blk W w.heap.size ((A.midN 4 old new j).map b8) → Blk (W.setCell ⟨w.heap.size, j, none⟩ (b8 (new j))) w.heap.size ((A.midN 4 old new (j + 1)).map b8)) := fun W h => by
        rw [← A.midN_set old new J1.out]
        exact h.setB _ _ (by rw [A.midN_length]; exact J1.out)
      have SJ : Hid _ := GS.out j
      have OC : Hid (∀ W, Blk W w.heap.size ((A.midN 4 old new j).map b8) → W.cell? ⟨w.heap.size, j, none⟩ = some (b8 (old j))) := fun W h => by
        have := h.byte j (by rw [A.midN_length]; exact J1.out)
        rwa [A.midN_at old new J1.out (Nat.le_refl _)] at this
      generalize old j = oj at *
      generalize new j = nj at *
      clear hj hj1
      go_wp2_with fail
      refine Calls.mono (SJ.out wr) ?_
      rintro e w2 ⟨rfl, hb2⟩
      have Y0 : Hid (Blk w2 w.heap.size ((A.midN 4 old new j).map b8)) := X0.out.up hb2 X0.out.lt
      have Y1 : Hid (Blk w2 (w.heap.size + 1) (zB 4)) := X1.out.up hb2 X1.out.lt
      have Y2 : Hid (Below w.heap.size w w2) := X2.out.trans (hb2.mono X2.out.size)
      have c2 := OC.out w2 Y0.out
      have z2 := Y0.out.fz j
      have V0 : Hid _ := US.out w2 Y0.out
      have V1 : Hid _ := Y1.out.apart1 (k' := w.heap.size) (o := j) (v := b8 nj) (by omega)
      have V2 : Hid _ := Y2.out.setCell (p := ⟨w.heap.size, j, none⟩) (Nat.le_refl _) (b8 nj)
      clear hb2 X0 X1 X2 cj Y0 Y1 Y2 US OC SJ
      go_wp2_with fail
      go_roundw
      case rel => exact ⟨j + 1, J1.out, by first | rfl | go_num, V0, V1, V2⟩
      case measure => have := J1.out; simp [intOf]; omega
    · obtain rfl : j = 4 := by omega
      rw [A.midN_all] at X0
      have LL : Hid ((A.by_ 4 new).length = 4) := A.by_length _ _
      obtain ⟨l, hl⟩ : ∃ l, l = A.by_ 4 new := ⟨_, rfl⟩
      rw [← hl] at X0 LL
      have HE : Hid (l = A.by_ 4 new) := hl
      clear hl hj hj1
      have T0 : Hid (wr.there (w.heap.size + 1) 0 (l.map b8).length) := X1.out.there (by rw [List.length_map, LL.out, zB_length]; omega)
      go_wp2_with (first | refine wpList_load_mid rfl 23 (.tmp 1) rfl w.heap.size 0 rfl (l.map b8) _ X0.out.all u_a4 rfl (info_n info_a4 l LL.out) ?_ | refine wp_store_eq rfl 23 (.tmp 2) (.tmp 14) rfl (w.heap.size + 1) 0 (l.map b8) rfl rfl T0.out (info_n info_a4 l LL.out) (one_b8 _) ?_)
      intro w9 hw9
      go_wp2_with fail
      refine bodyPost_ret (v := aB l) ?_ rfl ⟨by rw [HE.out], ?_⟩
      · rw [hw9.out]
        exact results_cell (b := (w.heap.size + 1)) rfl rfl (World.rangeAt_setCells_same _ _ _ _ T0.out) u_a4 rfl (info_n info_a4 l LL.out)
      · rw [hw9.out]
        exact below_setCells _ _ _ X2.out (by omega)
set_option maxRecDepth 20000 in
set_option maxHeartbeats 1000000 in
theorem asum_fun (u t : List Nat) (hu : A.ok 4 u) (ht : A.ok 4 t) (w : World) : Calls Try.prog 15 #[aB u, aB t] w fun e w' => e = .returned (aB (A.xorW u t)) ∧ Below w.heap.size w w' := by
  obtain ⟨old, hold⟩ : ∃ old : Nat → Nat, old = fun p => u.getD p 0 := ⟨_, rfl⟩
  obtain ⟨new, hnew⟩ : ∃ new : Nat → Nat, new = fun p => u.getD p 0 ^^^ t.getD p 0 := ⟨_, rfl⟩
  have XE : Hid (∀ i, bits .xor .u8 ((old i : Nat) : Int) ((t.getD i 0 : Nat) : Int) = ((new i : Nat) : Int)) := fun i => by
    rw [hold, hnew]
    exact g_xor (hu.at i) (ht.at i)
  have NE : Hid (A.xorW u t = A.by_ 4 new) := by rw [hnew]; exact rfl
  rw [NE.out]
  have TL : Hid (t.length = 4) := ht.1
  obtain ⟨x0, xt, x1, x2⟩ := al3 w (u.map b8).toArray (t.map b8).toArray #[Value.int IntKind.u8 0, Value.int IntKind.u8 0, Value.int IntKind.u8 0, Value.int IntKind.u8 0] 23 23 23
  rw [show (u.map b8).toArray.toList = (A.midN 4 old new 0).map b8 by rw [A.midN_zero, hold, A.by_self hu.1]] at x0
  have X0 : Hid (Blk _ w.heap.size ((A.midN 4 old new 0).map b8)) := x0
  have XT : Hid (Blk _ (w.heap.size + 1) (t.map b8)) := xt
  have X1 : Hid (Blk _ (w.heap.size + 1 + 1) (zB 4)) := x1
  have X2 : Hid (Below w.heap.size w _) := x2
  clear x0 x1 x2 xt ht hu hold hnew NE
  go_enter Try.func15, Try.ntmps15
  go_wp2_with fail
  generalize World.alloc (World.alloc (w.alloc _) _) _ = w1 at *
  go_loopw [6] (fun i wr => ∃ j : Nat, j ≤ 4 ∧ i = .int .i64 (j : Int) ∧ Hid (Blk wr w.heap.size ((A.midN 4 old new j).map b8)) ∧ Hid (Blk wr (w.heap.size + 1) (t.map b8)) ∧ Hid (Blk wr (w.heap.size + 1 + 1) (zB 4)) ∧ Hid (Below w.heap.size w wr)) (fun i _ => 4 - (intOf i).toNat)
  case atStart => exact ⟨0, by omega, rfl, X0, XT, X1, X2⟩
  case round =>
    clear X0 X1 X2 XT
    obtain ⟨j, hj, rfl, X0, XT, X1, X2⟩ := hrel
    by_cases hj1 : j < 4
    · have j1 : (j : Int) < 4 := by omega
      have wj : IntKind.i64.wrap ((j : Int) + 1) = (j : Int) + 1 := by rw [IntKind.wrap_i64]; omega
      have J1 : Hid (j < 4) := hj1
      have c0 : Hid (∀ W, Below wr.heap.size wr W → W.cell? ⟨w.heap.size, j, none⟩ = some (b8 (old j))) := fun W hW => by
        have := (X0.out.up hW X0.out.lt).byte j (by rw [A.midN_length]; exact J1.out)
        rwa [A.midN_at old new J1.out (Nat.le_refl _)] at this
      have c1 : Hid (∀ W, Below wr.heap.size wr W → W.cell? ⟨w.heap.size + 1, j, none⟩ = some (b8 (t.getD j 0))) := fun W hW => (XT.out.up hW XT.out.lt).byte j (by rw [TL.out]; exact J1.out)
      have US : Hid (∀ W, Blk W w.heap.size ((A.midN 4 old new j).map b8) → Blk (W.setCell ⟨w.heap.size, j, none⟩ (b8 (new j))) w.heap.size ((A.midN 4 old new (j + 1)).map b8)) := fun W h => by
        rw [← A.midN_set old new J1.out]
        exact h.setB _ _ (by rw [A.midN_length]; exact J1.out)
      have xe := XE.out j
      generalize old j = oj at *
      generalize new j = nj at *
      generalize t.getD j 0 = tj at *
      clear hj hj1
      go_wp2_with fail
      refine wp_region_monoSE 8 [MP.eq (.int .i64 (j : Int)), MP.eq (.pointer (some ⟨w.heap.size, j, none⟩)), MP.eq (b8 oj), MP.eq (.int .i64 (j : Int)), MP.eq (.pointer (some ⟨w.heap.size + 1, j, none⟩)), MP.eq (b8 tj), MP.eq (b8 nj), MP.eq (.pointer (some ⟨w.heap.size, j, none⟩))] (by kernel_rfl) (by kernel_rfl) rfl (by decide) (by kernel_rfl) ?_
      apply Exists.intro
      refine ⟨fun vals => ?_, ?_, fun vals4 w4 hb4 hF hO => ?_⟩
      · simp only [putsV, dstL, List.length_cons, List.length_nil, Nat.zero_add, Nat.reduceAdd, List.getElem?_cons_zero, List.getElem?_cons_succ, Option.bind_some, Act.put, List.setIfInBounds_toArray, List.set_cons_succ, List.set_cons_zero]
        rfl
      · refine ⟨?_, ?_, ?_, ?_, ?_, ?_, ?_, ?_, trivial⟩
        · intro vals W hW hw hd
          try simp [Region.binds] at hd
          refine ⟨by first | rfl | simp [Region.wanted, yielded, hd], ?_⟩
          simp [go_sem, hd]
          exact Below.refl _ _
        · intro vals W hW hw hd
          try simp [Region.binds] at hd
          refine ⟨by first | rfl | simp [Region.wanted, yielded, hd], ?_⟩
          simp [go_sem, hd, j1]
          exact Below.refl _ _
        · intro vals W hW hw hd
          try simp [Region.binds] at hd
          refine ⟨by first | rfl | simp [Region.wanted, yielded, hd], ?_⟩
          have cc := c0.out W hW.out
          simp [go_sem, hd, cc]
          exact Below.refl _ _
        · intro vals W hW hw hd
          try simp [Region.binds] at hd
          refine ⟨by first | rfl | simp [Region.wanted, yielded, hd], ?_⟩
          simp [go_sem, hd]
          exact Below.refl _ _
        · intro vals W hW hw hd
          try simp [Region.binds] at hd
          refine ⟨by first | rfl | simp [Region.wanted, yielded, hd], ?_⟩
          simp [go_sem, hd, j1]
          exact Below.refl _ _
        · intro vals W hW hw hd
          try simp [Region.binds] at hd
          refine ⟨by first | rfl | simp [Region.wanted, yielded, hd], ?_⟩
          have cc := c1.out W hW.out
          simp [go_sem, hd, cc]
          exact Below.refl _ _
        · intro vals W hW hw hd
          try simp [Region.binds] at hd
          refine ⟨by first | rfl | simp [Region.wanted, yielded, hd], ?_⟩
          simp [go_sem, hd, xe]
          exact Below.refl _ _
        · intro vals W hW hw hd
          try simp [Region.binds] at hd
          refine ⟨by first | rfl | simp [Region.wanted, yielded, hd], ?_⟩
          simp [go_sem, hd, j1]
          exact Below.refl _ _
      obtain ⟨f0, f1, f2, f3, f4, f5, f6, f7, _⟩ := hF
      simp only [MP.eq_p] at f0 f1 f2 f3 f4 f5 f6 f7
      rw [f0, f1, f2, f3, f4, f5, f6, f7]
      simp only [List.drop_succ_cons, List.drop_zero]
      have Y0 : Hid (Blk w4 w.heap.size ((A.midN 4 old new j).map b8)) := X0.out.up hb4.out X0.out.lt
      have YT : Hid (Blk w4 (w.heap.size + 1) (t.map b8)) := XT.out.up hb4.out XT.out.lt
      have Y1 : Hid (Blk w4 (w.heap.size + 1 + 1) (zB 4)) := X1.out.up hb4.out X1.out.lt
      have Y2 : Hid (Below w.heap.size w w4) := X2.out.trans (hb4.out.mono X2.out.size)
      have c4 := c0.out w4 hb4.out
      have z4 := Y0.out.fz j
      have V0 : Hid _ := US.out w4 Y0.out
      have VT : Hid _ := YT.out.apart1 (k' := w.heap.size) (o := j) (v := b8 nj) (by omega)
      have V1 : Hid _ := Y1.out.apart1 (k' := w.heap.size) (o := j) (v := b8 nj) (by omega)
      have V2 : Hid _ := Y2.out.setCell (p := ⟨w.heap.size, j, none⟩) (Nat.le_refl _) (b8 nj)
      clear f0 f1 f2 f3 f4 f5 f6 f7 hb4 hO X0 X1 X2 XT c0 c1 Y0 Y1 Y2 YT US
      go_wp2_with fail
      go_roundw
      case rel => exact ⟨j + 1, J1.out, by first | rfl | go_num, V0, VT, V1, V2⟩
      case measure => have := J1.out; simp [intOf]; omega
    · obtain rfl : j = 4 := by omega
      rw [A.midN_all] at X0
      have LL : Hid ((A.by_ 4 new).length = 4) := A.by_length _ _
      obtain ⟨l, hl⟩ : ∃ l, l = A.by_ 4 new := ⟨_, rfl⟩
      rw [← hl] at X0 LL
      have HE : Hid (l = A.by_ 4 new) := hl
      clear hl hj hj1
      have T0 : Hid (wr.there (w.heap.size + 1 + 1) 0 (l.map b8).length) := X1.out.there (by rw [List.length_map, LL.out, zB_length]; omega)
      go_wp2_with (first | refine wpList_load_mid rfl 23 (.tmp 2) rfl w.heap.size 0 rfl (l.map b8) _ X0.out.all u_a4 rfl (info_n info_a4 l LL.out) ?_ | refine wp_store_eq rfl 23 (.tmp 4) (.tmp 18) rfl (w.heap.size + 1 + 1) 0 (l.map b8) rfl rfl T0.out (info_n info_a4 l LL.out) (one_b8 _) ?_)
      intro w9 hw9
      go_wp2_with fail
      refine bodyPost_ret (v := aB l) ?_ rfl ⟨by rw [HE.out], ?_⟩
      · rw [hw9.out]
        exact results_cell (b := (w.heap.size + 1 + 1)) rfl rfl (World.rangeAt_setCells_same _ _ _ _ T0.out) u_a4 rfl (info_n info_a4 l LL.out)
      · rw [hw9.out]
        exact below_setCells _ _ _ X2.out (by omega)
end Go.Proofs.Ytejabkmhpiabnaa
