/- The contracts of sealringref.Begin, Sum and WordsOf. -/
import Derived.Test.YthaipnjnkkdfbaaDoorHRFrom
import Derived.Test.YthaipnjnkkdfbaaDoorHResume
namespace Go.Proofs.YthaipnjnkkdfbaaDoor
open Go.RowKit
set_option linter.unusedSimpArgs false
attribute [local go_sem] YieldsP execOp
attribute [local simp] MP.eq_p
set_option maxHeartbeats 1000000 in
theorem begin_fun (w : World) : Calls Tryd.prog 21 #[] w fun e w' => (∃ v, e = .returned v ∧ Wy w' v IV.list) ∧ Below w.heap.size w w' := by
  have YW := al1 w #[.int .u32 1779033703, .int .u32 3144134277, .int .u32 1013904242, .int .u32 2773480762, .int .u32 1359893119, .int .u32 2600822924, .int .u32 528734635, .int .u32 1541459225] 24
  go_enter Tryd.func21, Tryd.ntmps21
  go_wp2_with fail
  go_ret
  exact ⟨⟨_, rfl, Wy.of_blk (ws := IV.list) YW.1⟩, YW.2⟩
set_option maxRecDepth 20000 in
set_option maxHeartbeats 2000000 in
theorem rsum_fun (p : List Nat) (lp : ∀ x ∈ p, x < 256) (zp : p.length ≤ 1000000000000000) (w : World) (hT : RTab w) :
    Calls Tryd.prog 11 #[.string (sOf p)] w fun e w' => e = .returned (vB (sumS p)) ∧ Below w.heap.size w w' := by
  have FR : Hid (∀ v w, Wy w v IV.list → RTab w → Calls Tryd.prog 16 #[v, .int .u64 0, .string (sOf p)] w fun e w' => e = .returned (vB (sumS p)) ∧ Below w.heap.size w w') := from_fun IV 0 rfl p lp zp
  have HT : Hid (RTab w) := hT
  have ID : Hid _ := info_d32.trans (congrArg some (show 32 = ((sumS p).map b8).length by rw [List.length_map, sumS_length]))
  obtain ⟨x0, x1⟩ := al1 w #[Value.int IntKind.u8 0, Value.int IntKind.u8 0, Value.int IntKind.u8 0, Value.int IntKind.u8 0, Value.int IntKind.u8 0, Value.int IntKind.u8 0, Value.int IntKind.u8 0, Value.int IntKind.u8 0, Value.int IntKind.u8 0, Value.int IntKind.u8 0, Value.int IntKind.u8 0, Value.int IntKind.u8 0, Value.int IntKind.u8 0, Value.int IntKind.u8 0, Value.int IntKind.u8 0, Value.int IntKind.u8 0, Value.int IntKind.u8 0, Value.int IntKind.u8 0, Value.int IntKind.u8 0, Value.int IntKind.u8 0, Value.int IntKind.u8 0, Value.int IntKind.u8 0, Value.int IntKind.u8 0, Value.int IntKind.u8 0, Value.int IntKind.u8 0, Value.int IntKind.u8 0, Value.int IntKind.u8 0, Value.int IntKind.u8 0, Value.int IntKind.u8 0, Value.int IntKind.u8 0, Value.int IntKind.u8 0, Value.int IntKind.u8 0] 31
  have X0 : Hid (Blk _ _ ((List.replicate 32 0).map b8)) := x0
  have X1 : Hid (Below _ _ _) := x1
  clear hT lp zp x0 x1
  generalize sOf p = st at *
  go_enter Tryd.func11, Tryd.ntmps11
  go_wp2_with fail
  generalize w.alloc (Obj.cells #[Value.int IntKind.u8 0, Value.int IntKind.u8 0, Value.int IntKind.u8 0, Value.int IntKind.u8 0, Value.int IntKind.u8 0, Value.int IntKind.u8 0, Value.int IntKind.u8 0, Value.int IntKind.u8 0, Value.int IntKind.u8 0, Value.int IntKind.u8 0, Value.int IntKind.u8 0, Value.int IntKind.u8 0, Value.int IntKind.u8 0, Value.int IntKind.u8 0, Value.int IntKind.u8 0, Value.int IntKind.u8 0, Value.int IntKind.u8 0, Value.int IntKind.u8 0, Value.int IntKind.u8 0, Value.int IntKind.u8 0, Value.int IntKind.u8 0, Value.int IntKind.u8 0, Value.int IntKind.u8 0, Value.int IntKind.u8 0, Value.int IntKind.u8 0, Value.int IntKind.u8 0, Value.int IntKind.u8 0, Value.int IntKind.u8 0, Value.int IntKind.u8 0, Value.int IntKind.u8 0, Value.int IntKind.u8 0, Value.int IntKind.u8 0] 31) = w1 at *
  refine (begin_fun _).mono ?_
  rintro e w2 ⟨⟨v2, rfl, wy2⟩, hb2⟩
  have D2 : Hid (Below w.heap.size w w2) := X1.out.trans (hb2.mono X1.out.size)
  have Y2 : Hid (Blk w2 _ _) := X0.out.up hb2 X0.out.lt
  have W2 : Hid (Wy w2 v2 IV.list) := wy2
  clear hb2 X0 X1 wy2
  go_wp2_with fail
  refine (FR.out v2 w2 W2.out (HT.out.up D2.out HT.out.pos)).mono ?_
  rintro e w4 ⟨rfl, hb4⟩
  have D4 : Hid (Below w.heap.size w w4) := D2.out.trans (hb4.mono D2.out.size)
  have Y4 : Hid (Blk w4 w.heap.size ((List.replicate 32 0).map b8)) := Y2.out.up hb4 Y2.out.lt
  clear hb4 D2 Y2
  have T1 : Hid (w4.there w.heap.size 0 ((sumS p).map b8).length) := Y4.out.there (by rw [List.length_map, sumS_length]; simp)
  go_wp2_with (refine wp_store_eq rfl 31 (.tmp 2) (.tmp 5) rfl w.heap.size 0 ((sumS p).map b8) rfl rfl T1.out ID.out (one_b8 _) ?_)
  intro w5 hw5
  go_wp2_with fail
  refine bodyPost_ret (v := vB (sumS p)) ?_ rfl ⟨rfl, ?_⟩
  · rw [hw5.out]
    exact results_cell (b := w.heap.size) rfl rfl (World.rangeAt_setCells_same _ _ _ _ T1.out) u_d32 rfl ID.out
  · rw [hw5.out]
    exact below_setCells _ _ _ D4.out (Nat.le_refl _)
theorem wrap32i (z : Int) (h0 : 0 ≤ z) (h1 : z < 4294967296) : IntKind.u32.wrap z = z := by
  obtain ⟨n, rfl⟩ := Int.eq_ofNat_of_zero_le h0
  exact wrap32 n (by omega)
theorem wrap64s (z : Int) (h0 : 0 ≤ z) (h1 : z < 1000) : IntKind.i64.wrap z = z := by
  obtain ⟨n, rfl⟩ := Int.eq_ofNat_of_zero_le h0
  simp only [IntKind.wrap, IntKind.bits, IntKind.signed]
  simp
  omega
/-- The first k words of a digest. -/
def wds (d : List Nat) (k : Nat) : List (BitVec 32) := (List.range k).map (wd d)
theorem wds_on (d : List Nat) (k : Nat) : wds d k ++ [wd d k] = wds d (k + 1) := by simp [wds, List.range_succ]
theorem wds_length (d : List Nat) (k : Nat) : (wds d k).length = k := by simp [wds]
theorem wds_all (d : List Nat) : wds d 8 = (w8of d).list := rfl
set_option maxRecDepth 20000 in
set_option maxHeartbeats 4000000 in
theorem wordsOf_fun (d : List Nat) (hd : d.length = 32) (ld : ∀ x ∈ d, x < 256) (w : World) :
    Calls Tryd.prog 17 #[vB d] w fun e w' => (∃ v, e = .returned v ∧ Wy w' v (w8of d).list) ∧ Below w.heap.size w w' := by
  have LD : Hid (∀ j, d.getD j 0 < 256) := low_at ld
  have HD : Hid (d.length = 32) := hd
  clear hd ld
  go_enter Tryd.func17, Tryd.ntmps17
  go_wp2_with fail
  go_loopw [3, 4] (fun sv i wr => ∃ k : Nat, k ≤ 8 ∧ i = .int .i64 (4 * (k : Int)) ∧ Hid (Blk wr w.heap.size (d.map b8)) ∧ Hid (Ww wr (w.heap.size + 1) sv (wds d k)) ∧ Hid (Below w.heap.size w wr) ∧ Hid (w.heap.size + 1 ≤ wr.heap.size)) (fun _ i _ => 32 - (intOf i).toNat)
  case atStart =>
    obtain ⟨x0, x1⟩ := al1 w (d.map b8).toArray 31
    exact ⟨0, by omega, rfl, x0, Ww.nil _ _, x1, by have := x0.lt; exact this⟩
  case round =>
    obtain ⟨k, hk, rfl, b0, ow, hb, hz⟩ := hrel
    by_cases hlt : k < 8
    · have l4 := HD.out
      have c0 := byte_at b0.out (j := 4 * k) (by omega)
      have c1 := byte_at b0.out (j := 4 * k + 1) (by omega)
      have c2 := byte_at b0.out (j := 4 * k + 2) (by omega)
      have c3 := byte_at b0.out (j := 4 * k + 3) (by omega)
      have h0 := LD.out (4 * k)
      have h1 := LD.out (4 * k + 1)
      have h2 := LD.out (4 * k + 2)
      have h3 := LD.out (4 * k + 3)
      have gl := b0.out.lt
      have s3 : IntKind.u32.wrap ((d.getD (4 * k) 0 : Int) * 16777216 + (d.getD (4 * k + 1) 0 : Int) * 65536 + (d.getD (4 * k + 2) 0 : Int) * 256 + (d.getD (4 * k + 3) 0 : Int)) = U (wd d k) := by
        rw [wrap32i _ (by omega) (by omega)]
        unfold wd wd4 U
        rw [BitVec.toNat_ofNat]
        omega
      have SW : Hid _ := wds_on d k
      have WL : Hid ((wds d k).length ≤ 64) := by rw [wds_length]; exact (by omega : k ≤ 64)
      generalize d.getD (4 * k) 0 = x0 at *
      generalize d.getD (4 * k + 1) 0 = x1 at *
      generalize d.getD (4 * k + 2) 0 = x2 at *
      generalize d.getD (4 * k + 3) 0 = x3 at *
      have v0 := wrap32i (x0 : Int) (by omega) (by omega)
      have v1 := wrap32i (x1 : Int) (by omega) (by omega)
      have v2 := wrap32i (x2 : Int) (by omega) (by omega)
      have v3 := wrap32i (x3 : Int) (by omega) (by omega)
      have m0 := wrap32i ((x0 : Int) * 16777216) (by omega) (by omega)
      have m1 := wrap32i ((x1 : Int) * 65536) (by omega) (by omega)
      have m2 := wrap32i ((x2 : Int) * 256) (by omega) (by omega)
      have s1 := wrap32i ((x0 : Int) * 16777216 + (x1 : Int) * 65536) (by omega) (by omega)
      have s2 := wrap32i ((x0 : Int) * 16777216 + (x1 : Int) * 65536 + (x2 : Int) * 256) (by omega) (by omega)
      have n1 := wrap64s (4 * (k : Int) + 1) (by omega) (by omega)
      have n2 := wrap64s (4 * (k : Int) + 2) (by omega) (by omega)
      have n3 := wrap64s (4 * (k : Int) + 3) (by omega) (by omega)
      have j0 : 0 ≤ 4 * (k : Int) ∧ 4 * (k : Int) < 32 ∧ (4 * (k : Int)).toNat = 4 * k := by omega
      have j1 : 0 ≤ 4 * (k : Int) + 1 ∧ 4 * (k : Int) + 1 < 32 ∧ (4 * (k : Int) + 1).toNat = 4 * k + 1 := by omega
      have j2 : 0 ≤ 4 * (k : Int) + 2 ∧ 4 * (k : Int) + 2 < 32 ∧ (4 * (k : Int) + 2).toNat = 4 * k + 2 := by omega
      have j3 : 0 ≤ 4 * (k : Int) + 3 ∧ 4 * (k : Int) + 3 < 32 ∧ (4 * (k : Int) + 3).toNat = 4 * k + 3 := by omega
      have t1 : 4 * (k : Int) < 32 := by omega
      go_wp2_with fail
      refine wp_region_monoSE 27 [MP.eq u3, MP.eq (.int .i64 (4 * (k : Int))), MP.eq (.pointer (some ⟨w.heap.size, 4 * k, none⟩)), MP.eq (.int .u8 (x0 : Int)), MP.eq (.int .u32 (x0 : Int)), MP.eq (.int .u32 ((x0 : Int) * 16777216)), MP.eq (.int .i64 (4 * (k : Int))), MP.eq (.int .i64 (4 * (k : Int) + 1)), MP.eq (.pointer (some ⟨w.heap.size, 4 * k + 1, none⟩)), MP.eq (.int .u8 (x1 : Int)), MP.eq (.int .u32 (x1 : Int)), MP.eq (.int .u32 ((x1 : Int) * 65536)), MP.eq (.int .u32 ((x0 : Int) * 16777216 + (x1 : Int) * 65536)), MP.eq (.int .i64 (4 * (k : Int))), MP.eq (.int .i64 (4 * (k : Int) + 2)), MP.eq (.pointer (some ⟨w.heap.size, 4 * k + 2, none⟩)), MP.eq (.int .u8 (x2 : Int)), MP.eq (.int .u32 (x2 : Int)), MP.eq (.int .u32 ((x2 : Int) * 256)), MP.eq (.int .u32 ((x0 : Int) * 16777216 + (x1 : Int) * 65536 + (x2 : Int) * 256)), MP.eq (.int .i64 (4 * (k : Int))), MP.eq (.int .i64 (4 * (k : Int) + 3)), MP.eq (.pointer (some ⟨w.heap.size, 4 * k + 3, none⟩)), MP.eq (.int .u8 (x3 : Int)), MP.eq (.int .u32 (x3 : Int)), MP.eq (uw (wd d k)), MP.w1 (wd d k)] (by kernel_rfl) (by kernel_rfl) rfl (by decide) (by kernel_rfl) ?_
      apply Exists.intro
      refine ⟨fun vals => ?_, ?_, fun vals2 w2 hb2 hF hO => ?_⟩
      · simp only [putsV, dstL, List.length_cons, List.length_nil, Nat.zero_add, Nat.reduceAdd, List.getElem?_cons_zero, List.getElem?_cons_succ, Option.bind_some, Act.put, List.setIfInBounds_toArray, List.set_cons_succ, List.set_cons_zero]
        rfl
      · refine ⟨?_, ?_, ?_, ?_, ?_, ?_, ?_, ?_, ?_, ?_, ?_, ?_, ?_, ?_, ?_, ?_, ?_, ?_, ?_, ?_, ?_, ?_, ?_, ?_, ?_, ?_, ?_, trivial⟩
        · intro vals W hW hw hd
          try simp [Region.binds] at hd
          refine ⟨by first | rfl | simp [Region.wanted, yielded, hd], ?_⟩
          have h3 : vals 28 = u3 := (hw.out 28 (by kernel_rfl)).trans rfl
          simp [go_sem, h3]
          exact Below.refl _ _
        · intro vals W hW hw hd
          try simp [Region.binds] at hd
          refine ⟨by first | rfl | simp [Region.wanted, yielded, hd], ?_⟩
          simp [go_sem, hd]
          exact Below.refl _ _
        · intro vals W hW hw hd
          try simp [Region.binds] at hd
          refine ⟨by first | rfl | simp [Region.wanted, yielded, hd], ?_⟩
          simp [go_sem, hd, j0]
          exact Below.refl _ _
        · intro vals W hW hw hd
          try simp [Region.binds] at hd
          refine ⟨by first | rfl | simp [Region.wanted, yielded, hd], ?_⟩
          simp [go_sem, hd, (hW.out.cell (p := ⟨w.heap.size, 4 * k, none⟩) gl).trans c0]
          exact Below.refl _ _
        · intro vals W hW hw hd
          try simp [Region.binds] at hd
          refine ⟨by first | rfl | simp [Region.wanted, yielded, hd], ?_⟩
          simp [go_sem, hd, v0]
          exact Below.refl _ _
        · intro vals W hW hw hd
          try simp [Region.binds] at hd
          refine ⟨by first | rfl | simp [Region.wanted, yielded, hd], ?_⟩
          simp [go_sem, hd, m0]
          exact Below.refl _ _
        · intro vals W hW hw hd
          try simp [Region.binds] at hd
          refine ⟨by first | rfl | simp [Region.wanted, yielded, hd], ?_⟩
          simp [go_sem, hd]
          exact Below.refl _ _
        · intro vals W hW hw hd
          try simp [Region.binds] at hd
          refine ⟨by first | rfl | simp [Region.wanted, yielded, hd], ?_⟩
          simp [go_sem, hd, n1]
          exact Below.refl _ _
        · intro vals W hW hw hd
          try simp [Region.binds] at hd
          refine ⟨by first | rfl | simp [Region.wanted, yielded, hd], ?_⟩
          simp [go_sem, hd, j1]
          exact Below.refl _ _
        · intro vals W hW hw hd
          try simp [Region.binds] at hd
          refine ⟨by first | rfl | simp [Region.wanted, yielded, hd], ?_⟩
          simp [go_sem, hd, (hW.out.cell (p := ⟨w.heap.size, 4 * k + 1, none⟩) gl).trans c1]
          exact Below.refl _ _
        · intro vals W hW hw hd
          try simp [Region.binds] at hd
          refine ⟨by first | rfl | simp [Region.wanted, yielded, hd], ?_⟩
          simp [go_sem, hd, v1]
          exact Below.refl _ _
        · intro vals W hW hw hd
          try simp [Region.binds] at hd
          refine ⟨by first | rfl | simp [Region.wanted, yielded, hd], ?_⟩
          simp [go_sem, hd, m1]
          exact Below.refl _ _
        · intro vals W hW hw hd
          try simp [Region.binds] at hd
          refine ⟨by first | rfl | simp [Region.wanted, yielded, hd], ?_⟩
          simp [go_sem, hd, s1]
          exact Below.refl _ _
        · intro vals W hW hw hd
          try simp [Region.binds] at hd
          refine ⟨by first | rfl | simp [Region.wanted, yielded, hd], ?_⟩
          simp [go_sem, hd]
          exact Below.refl _ _
        · intro vals W hW hw hd
          try simp [Region.binds] at hd
          refine ⟨by first | rfl | simp [Region.wanted, yielded, hd], ?_⟩
          simp [go_sem, hd, n2]
          exact Below.refl _ _
        · intro vals W hW hw hd
          try simp [Region.binds] at hd
          refine ⟨by first | rfl | simp [Region.wanted, yielded, hd], ?_⟩
          simp [go_sem, hd, j2]
          exact Below.refl _ _
        · intro vals W hW hw hd
          try simp [Region.binds] at hd
          refine ⟨by first | rfl | simp [Region.wanted, yielded, hd], ?_⟩
          simp [go_sem, hd, (hW.out.cell (p := ⟨w.heap.size, 4 * k + 2, none⟩) gl).trans c2]
          exact Below.refl _ _
        · intro vals W hW hw hd
          try simp [Region.binds] at hd
          refine ⟨by first | rfl | simp [Region.wanted, yielded, hd], ?_⟩
          simp [go_sem, hd, v2]
          exact Below.refl _ _
        · intro vals W hW hw hd
          try simp [Region.binds] at hd
          refine ⟨by first | rfl | simp [Region.wanted, yielded, hd], ?_⟩
          simp [go_sem, hd, m2]
          exact Below.refl _ _
        · intro vals W hW hw hd
          try simp [Region.binds] at hd
          refine ⟨by first | rfl | simp [Region.wanted, yielded, hd], ?_⟩
          simp [go_sem, hd, s2]
          exact Below.refl _ _
        · intro vals W hW hw hd
          try simp [Region.binds] at hd
          refine ⟨by first | rfl | simp [Region.wanted, yielded, hd], ?_⟩
          simp [go_sem, hd]
          exact Below.refl _ _
        · intro vals W hW hw hd
          try simp [Region.binds] at hd
          refine ⟨by first | rfl | simp [Region.wanted, yielded, hd], ?_⟩
          simp [go_sem, hd, n3]
          exact Below.refl _ _
        · intro vals W hW hw hd
          try simp [Region.binds] at hd
          refine ⟨by first | rfl | simp [Region.wanted, yielded, hd], ?_⟩
          simp [go_sem, hd, j3]
          exact Below.refl _ _
        · intro vals W hW hw hd
          try simp [Region.binds] at hd
          refine ⟨by first | rfl | simp [Region.wanted, yielded, hd], ?_⟩
          simp [go_sem, hd, (hW.out.cell (p := ⟨w.heap.size, 4 * k + 3, none⟩) gl).trans c3]
          exact Below.refl _ _
        · intro vals W hW hw hd
          try simp [Region.binds] at hd
          refine ⟨by first | rfl | simp [Region.wanted, yielded, hd], ?_⟩
          simp [go_sem, hd, v3]
          exact Below.refl _ _
        · intro vals W hW hw hd
          try simp [Region.binds] at hd
          refine ⟨by first | rfl | simp [Region.wanted, yielded, hd], ?_⟩
          simp [go_sem, hd, s3]
          exact Below.refl _ _
        · intro vals W hW hw hd
          try simp [Region.binds] at hd
          refine ⟨by first | rfl | simp [Region.wanted, yielded, hd], ?_⟩
          refine yields_w1 rfl ?_
          simp [hd]
      obtain ⟨f0, f1, f2, f3, f4, f5, f6, f7, f8, f9, f10, f11, f12, f13, f14, f15, f16, f17, f18, f19, f20, f21, f22, f23, f24, f25, f26, _⟩ := hF
      simp only [MP.eq_p] at f0 f1 f2 f3 f4 f5 f6 f7 f8 f9 f10 f11 f12 f13 f14 f15 f16 f17 f18 f19 f20 f21 f22 f23 f24 f25
      obtain ⟨g1, f26, cc1⟩ := f26
      rw [f0, f26]
      simp only [List.drop_succ_cons, List.drop_zero]
      have B2 : Hid (Below wr.heap.size wr w2) := hb2.out
      have C1 : Hid (w2.cell? ⟨g1, 0, none⟩ = some (uw (wd d k))) := cc1
      clear f0 f1 f2 f3 f4 f5 f6 f7 f8 f9 f10 f11 f12 f13 f14 f15 f16 f17 f18 f19 f20 f21 f22 f23 f24 f25 f26 cc1 hb2 hO c0 c1 c2 c3 v0 v1 v2 v3 m0 m1 m2 s1 s2 s3 n1 n2 n3 j0 j1 j2 j3
      go_wp2_with (refine wp_appW rfl (.tmp 9) (.tmp 35) rfl (w.heap.size + 1) _ (wds d k) wr g1 (wd d k) rfl ow.out B2.out rfl C1.out WL.out hz.out ?_)
      intro v4 w4 o4 hb4
      rw [SW.out] at o4
      have O4 : Hid (Ww w4 (w.heap.size + 1) v4 (wds d (k + 1))) := o4
      have D4 : Hid (Below w.heap.size w w4) := hb.out.trans (hb4.mono (Nat.le_succ _))
      have E4 : Hid (Blk w4 w.heap.size (d.map b8)) := b0.out.up hb4 (Nat.lt_succ_self _)
      have Z4 : Hid (w.heap.size + 1 ≤ w4.heap.size) := Nat.le_trans hz.out hb4.size
      clear o4 hb4 SW WL B2 C1 b0 ow hb hz
      go_wp2_with fail
      go_roundw
      case rel => exact ⟨k + 1, by omega, by first | rfl | (congr 1; omega), E4, O4, D4, Z4⟩
      case measure => simp [intOf]; omega
    · obtain rfl : k = 8 := by omega
      have W8 : Hid (Wy wr u3 (w8of d).list) := ow.out.wy
      go_wp2_with fail
      go_ret
      exact ⟨⟨_, rfl, W8.out⟩, hb.out⟩
end Go.Proofs.YthaipnjnkkdfbaaDoor
