/- A key's cells; the contracts of aes.Key.count and aes.Key.add. -/
import Derived.Test.YtejabkmhpiabnaaAeD
namespace Go.Proofs.Ytejabkmhpiabnaa
open Go.RowKit
set_option linter.unusedSimpArgs false
attribute [local go_sem] YieldsP execOp
attribute [local simp] MP.eq_p
/-- The cells of a key: its words' bytes, and its rounds. -/
def kC (fl : List Nat) (r : Nat) : List Value := fl.map b8 ++ [.int .i64 (r : Int)]
theorem kC_length {fl : List Nat} (r : Nat) (h : fl.length = 240) : (kC fl r).length = 241 := by simp [kC, h]
theorem kC_one (fl : List Nat) (r : Nat) : ∀ v ∈ kC fl r, v.oneCell' = true := fun v hv => by
  rcases List.mem_append.1 hv with h | h
  · exact one_b8 _ v h
  · rw [List.mem_singleton.1 h]; rfl
theorem kC_byte {fl : List Nat} (r : Nat) (h : fl.length = 240) {j : Nat} (hj : j < 240) : (kC fl r)[j]? = some (b8 (fl.getD j 0)) := by
  unfold kC
  rw [List.getElem?_append_left (by rw [List.length_map]; omega), List.getElem?_map, List.getElem?_eq_getElem (by omega)]
  simp [List.getD_eq_getElem?_getD, show j < fl.length by omega]
theorem kC_rounds {fl : List Nat} (r : Nat) (h : fl.length = 240) : (kC fl r)[240]? = some (.int .i64 (r : Int)) := by
  unfold kC
  rw [List.getElem?_append_right (by rw [List.length_map]; omega), List.length_map, h]
  rfl
theorem row_key : (Try.prog.underlying 26).map (·.isRow) = some true := by kernel_rfl
theorem u_key : ∃ d, Try.prog.underlying 26 = some d ∧ d.isRow = true := by
  have h := row_key
  cases e : Try.prog.underlying 26 with
  | none => rw [e] at h; cases h
  | some d => rw [e] at h; exact ⟨d, rfl, by simpa using h⟩
theorem info_key : (Try.prog.info? 26).map (·.size) = some 241 := by kernel_rfl
theorem info_k {fl : List Nat} (r : Nat) (h : fl.length = 240) : (Try.prog.info? 26).map (·.size) = some (kC fl r).length := info_key.trans (congrArg some (kC_length r h).symm)
set_option maxRecDepth 20000 in
set_option maxHeartbeats 1000000 in
theorem acount_fun (fl : List Nat) (r : Nat) (hl : fl.length = 240) (hr : r ≤ 20) (w : World) : Calls Try.prog 14 #[.agg (kC fl r).toArray] w fun e w' => e = .returned (.int .i64 ((4 * (r + 1) : Nat) : Int)) ∧ Below w.heap.size w w' := by
  obtain ⟨x0, x2⟩ := al1 w (kC fl r).toArray 26
  have X0 : Hid (Blk _ w.heap.size (kC fl r)) := x0
  have X2 : Hid (Below w.heap.size w _) := x2
  have cr := X0.out.cell 240 _ (kC_rounds r hl)
  have w1 : IntKind.i64.wrap ((r : Int) + 1) = (r : Int) + 1 := by rw [IntKind.wrap_i64]; omega
  have w2 : IntKind.i64.wrap (4 * ((r : Int) + 1)) = ((4 * (r + 1) : Nat) : Int) := by rw [IntKind.wrap_i64]; omega
  generalize kC fl r = cs at *
  generalize 4 * (r + 1) = n at *
  clear x0 x2 hl hr
  go_enter Try.func14, Try.ntmps14
  go_wp2_with fail
  go_ret
  exact ⟨rfl, X2.out⟩
set_option maxRecDepth 20000 in
set_option maxHeartbeats 1000000 in
theorem aadd_fun (fl : List Nat) (r : Nat) (hl : fl.length = 240) (lf : ∀ x ∈ fl, x < 256) (b : List Nat) (hb : A.ok 16 b) (rd : Nat) (hr : 16 * rd + 16 ≤ 240) (w : World) :
    Calls Try.prog 37 #[.agg (kC fl r).toArray, aB b, .int .i64 (rd : Int)] w fun e w' => e = .returned (aB (A.by_ 16 fun p => b.getD p 0 ^^^ fl.getD (16 * rd + p) 0)) ∧ Below w.heap.size w w' := by
  obtain ⟨old, hold⟩ : ∃ old : Nat → Nat, old = fun p => b.getD p 0 := ⟨_, rfl⟩
  obtain ⟨new, hnew⟩ : ∃ new : Nat → Nat, new = fun p => b.getD p 0 ^^^ fl.getD (16 * rd + p) 0 := ⟨_, rfl⟩
  have XE : Hid (∀ i, bits .xor .u8 ((old i : Nat) : Int) ((fl.getD (16 * rd + i) 0 : Nat) : Int) = ((new i : Nat) : Int)) := fun i => by
    rw [hold, hnew]
    exact g_xor (hb.at i) (getD_low lf _)
  rw [← hnew]
  have FB : Hid (∀ j, j < 240 → (kC fl r)[j]? = some (b8 (fl.getD j 0))) := fun j hj => kC_byte r hl hj
  obtain ⟨xk, x0, x1, x2⟩ := al3 w (kC fl r).toArray (b.map b8).toArray #[Value.int IntKind.u8 0, Value.int IntKind.u8 0, Value.int IntKind.u8 0, Value.int IntKind.u8 0, Value.int IntKind.u8 0, Value.int IntKind.u8 0, Value.int IntKind.u8 0, Value.int IntKind.u8 0, Value.int IntKind.u8 0, Value.int IntKind.u8 0, Value.int IntKind.u8 0, Value.int IntKind.u8 0, Value.int IntKind.u8 0, Value.int IntKind.u8 0, Value.int IntKind.u8 0, Value.int IntKind.u8 0] 26 57 57
  rw [show (b.map b8).toArray.toList = (A.midN 16 old new 0).map b8 by rw [A.midN_zero, hold, A.by_self hb.1]] at x0
  have XK : Hid (Blk _ w.heap.size (kC fl r)) := xk
  have X0 : Hid (Blk _ (w.heap.size + 1) ((A.midN 16 old new 0).map b8)) := x0
  have X1 : Hid (Blk _ (w.heap.size + 1 + 1) (zB 16)) := x1
  have X2 : Hid (Below w.heap.size w _) := x2
  have RD : Hid (16 * rd + 16 ≤ 240) := hr
  have wm : IntKind.i64.wrap (4 * (rd : Int)) = 4 * (rd : Int) := by rw [IntKind.wrap_i64]; omega
  generalize kC fl r = kc at *
  clear x0 x1 x2 xk hb hold hnew hl lf hr
  go_enter Try.func37, Try.ntmps37
  go_wp2_with (simp only [zero_a16])
  generalize World.alloc (World.alloc (w.alloc _) _) _ = w1 at *
  go_loopw [8] (fun i wr => ∃ j : Nat, j ≤ 16 ∧ i = .int .i64 (j : Int) ∧ Hid (Blk wr w.heap.size kc) ∧ Hid (Blk wr (w.heap.size + 1) ((A.midN 16 old new j).map b8)) ∧ Hid (Blk wr (w.heap.size + 1 + 1) (zB 16)) ∧ Hid (Below w.heap.size w wr)) (fun i _ => 16 - (intOf i).toNat)
  case atStart => exact ⟨0, by omega, rfl, XK, X0, X1, X2⟩
  case round =>
    clear XK X0 X1 X2
    obtain ⟨j, hj, rfl, XK, X0, X1, X2⟩ := hrel
    by_cases hj1 : j < 16
    · have j1 : (j : Int) < 16 := by omega
      have wj : IntKind.i64.wrap ((j : Int) + 1) = (j : Int) + 1 := by rw [IntKind.wrap_i64]; omega
      have J1 : Hid (j < 16) := hj1
      have RD' := RD.out
      obtain ⟨q, hq⟩ : ∃ q, q = j / 4 := ⟨_, rfl⟩
      obtain ⟨s, hs⟩ : ∃ s, s = j % 4 := ⟨_, rfl⟩
      obtain ⟨m, hm⟩ : ∃ m, m = 4 * rd + q := ⟨_, rfl⟩
      have m1 : (j : Int).tmod 4 = (s : Int) := by rw [Int.tmod_eq_emod_of_nonneg (by omega)]; omega
      have m2 : (j : Int) % 4 = (s : Int) := by omega
      have d1 : (j : Int).tdiv 4 = (q : Int) := by rw [Int.tdiv_eq_ediv_of_nonneg (by omega)]; omega
      have d2 : (j : Int) / 4 = (q : Int) := by omega
      have wq : IntKind.i64.wrap (q : Int) = (q : Int) := by rw [IntKind.wrap_i64]; omega
      have wa : IntKind.i64.wrap (4 * (rd : Int) + (q : Int)) = (m : Int) := by rw [IntKind.wrap_i64]; omega
      have m60 : (m : Int) < 60 := by omega
      have s4 : (s : Int) < 4 := by omega
      have c0 : Hid (∀ W, Below wr.heap.size wr W → W.cell? ⟨w.heap.size + 1, j, none⟩ = some (b8 (old j))) := fun W hW => by
        have := (X0.out.up hW X0.out.lt).byte j (by rw [A.midN_length]; exact J1.out)
        rwa [A.midN_at old new J1.out (Nat.le_refl _)] at this
      have c1 : Hid (∀ W, Below wr.heap.size wr W → W.cell? ⟨w.heap.size, m * 4 + s, none⟩ = some (b8 (fl.getD (16 * rd + j) 0))) := fun W hW => by
        rw [show m * 4 + s = 16 * rd + j by omega]
        exact (XK.out.up hW XK.out.lt).cell _ _ (FB.out _ (by omega))
      have US : Hid (∀ W, Blk W (w.heap.size + 1) ((A.midN 16 old new j).map b8) → Blk (W.setCell ⟨w.heap.size + 1, j, none⟩ (b8 (new j))) (w.heap.size + 1) ((A.midN 16 old new (j + 1)).map b8)) := fun W h => by
        rw [← A.midN_set old new J1.out]
        exact h.setB _ _ (by rw [A.midN_length]; exact J1.out)
      have xe := XE.out j
      generalize old j = oj at *
      generalize new j = nj at *
      generalize fl.getD (16 * rd + j) 0 = tj at *
      clear hj hj1 hq hs hm RD'
      go_wp2_with fail
      refine wp_region_monoSE 16 [MP.eq (.int .i64 (j : Int)), MP.eq (.pointer (some ⟨w.heap.size + 1, j, none⟩)), MP.eq (b8 oj), MP.eq (.int .i64 (rd : Int)), MP.eq (.int .i64 (4 * (rd : Int))), MP.eq (.int .i64 (j : Int)), MP.eq (.int .i64 (q : Int)), MP.eq (.int .i64 (m : Int)), MP.eq (.int .i64 (j : Int)), MP.eq (.int .i64 (s : Int)), MP.eq (.pointer (some ⟨w.heap.size, 0, none⟩)), MP.eq (.pointer (some ⟨w.heap.size, m * 4, none⟩)), MP.eq (.pointer (some ⟨w.heap.size, m * 4 + s, none⟩)), MP.eq (b8 tj), MP.eq (b8 nj), MP.eq (.pointer (some ⟨w.heap.size + 1, j, none⟩))] (by kernel_rfl) (by kernel_rfl) rfl (by decide) (by kernel_rfl) ?_
      apply Exists.intro
      refine ⟨fun vals => ?_, ?_, fun vals4 w4 hb4 hF hO => ?_⟩
      · simp only [putsV, dstL, List.length_cons, List.length_nil, Nat.zero_add, Nat.reduceAdd, List.getElem?_cons_zero, List.getElem?_cons_succ, Option.bind_some, Act.put, List.setIfInBounds_toArray, List.set_cons_succ, List.set_cons_zero]
        rfl
      · refine ⟨?_, ?_, ?_, ?_, ?_, ?_, ?_, ?_, ?_, ?_, ?_, ?_, ?_, ?_, ?_, ?_, trivial⟩
        · intro vals W hW hw hd
          try simp [Region.binds] at hd
          refine ⟨by first | rfl | simp [Region.wanted, yielded, hd], ?_⟩
          simp [go_sem, hd]
          exact Below.refl _ _
        · intro vals W hW hw hd
          try simp [Region.binds] at hd
          refine ⟨by first | rfl | simp [Region.wanted, yielded, hd], ?_⟩
          simp [go_sem, hd, j1]
          exact Below.refl _ _
        · intro vals W hW hw hd
          try simp [Region.binds] at hd
          refine ⟨by first | rfl | simp [Region.wanted, yielded, hd], ?_⟩
          have cc := c0.out W hW.out
          simp [go_sem, hd, cc]
          exact Below.refl _ _
        · intro vals W hW hw hd
          try simp [Region.binds] at hd
          refine ⟨by first | rfl | simp [Region.wanted, yielded, hd], ?_⟩
          simp [go_sem, hd]
          exact Below.refl _ _
        · intro vals W hW hw hd
          try simp [Region.binds] at hd
          refine ⟨by first | rfl | simp [Region.wanted, yielded, hd], ?_⟩
          simp [go_sem, hd, wm]
          exact Below.refl _ _
        · intro vals W hW hw hd
          try simp [Region.binds] at hd
          refine ⟨by first | rfl | simp [Region.wanted, yielded, hd], ?_⟩
          simp [go_sem, hd]
          exact Below.refl _ _
        · intro vals W hW hw hd
          try simp [Region.binds] at hd
          refine ⟨by first | rfl | simp [Region.wanted, yielded, hd], ?_⟩
          simp [go_sem, hd, d1, d2, wq]
          exact Below.refl _ _
        · intro vals W hW hw hd
          try simp [Region.binds] at hd
          refine ⟨by first | rfl | simp [Region.wanted, yielded, hd], ?_⟩
          simp [go_sem, hd, wa]
          exact Below.refl _ _
        · intro vals W hW hw hd
          try simp [Region.binds] at hd
          refine ⟨by first | rfl | simp [Region.wanted, yielded, hd], ?_⟩
          simp [go_sem, hd]
          exact Below.refl _ _
        · intro vals W hW hw hd
          try simp [Region.binds] at hd
          refine ⟨by first | rfl | simp [Region.wanted, yielded, hd], ?_⟩
          simp [go_sem, hd, m1, m2]
          exact Below.refl _ _
        · intro vals W hW hw hd
          try simp [Region.binds] at hd
          refine ⟨by first | rfl | simp [Region.wanted, yielded, hd], ?_⟩
          simp [go_sem, hd]
          exact Below.refl _ _
        · intro vals W hW hw hd
          try simp [Region.binds] at hd
          refine ⟨by first | rfl | simp [Region.wanted, yielded, hd], ?_⟩
          simp [go_sem, hd, m60]
          exact Below.refl _ _
        · intro vals W hW hw hd
          try simp [Region.binds] at hd
          refine ⟨by first | rfl | simp [Region.wanted, yielded, hd], ?_⟩
          simp [go_sem, hd, s4]
          exact Below.refl _ _
        · intro vals W hW hw hd
          try simp [Region.binds] at hd
          refine ⟨by first | rfl | simp [Region.wanted, yielded, hd], ?_⟩
          have cc := c1.out W hW.out
          simp [go_sem, hd, cc]
          exact Below.refl _ _
        · intro vals W hW hw hd
          try simp [Region.binds] at hd
          refine ⟨by first | rfl | simp [Region.wanted, yielded, hd], ?_⟩
          simp [go_sem, hd, xe]
          exact Below.refl _ _
        · intro vals W hW hw hd
          try simp [Region.binds] at hd
          refine ⟨by first | rfl | simp [Region.wanted, yielded, hd], ?_⟩
          simp [go_sem, hd, j1]
          exact Below.refl _ _
      obtain ⟨f0, f1, f2, f3, f4, f5, f6, f7, f8, f9, f10, f11, f12, f13, f14, f15, _⟩ := hF
      simp only [MP.eq_p] at f0 f1 f2 f3 f4 f5 f6 f7 f8 f9 f10 f11 f12 f13 f14 f15
      rw [f0, f1, f2, f3, f4, f5, f6, f7, f8, f9, f10, f11, f12, f13, f14, f15]
      simp only [List.drop_succ_cons, List.drop_zero]
      have YK : Hid (Blk w4 w.heap.size kc) := XK.out.up hb4.out XK.out.lt
      have Y0 : Hid (Blk w4 (w.heap.size + 1) ((A.midN 16 old new j).map b8)) := X0.out.up hb4.out X0.out.lt
      have Y1 : Hid (Blk w4 (w.heap.size + 1 + 1) (zB 16)) := X1.out.up hb4.out X1.out.lt
      have Y2 : Hid (Below w.heap.size w w4) := X2.out.trans (hb4.out.mono X2.out.size)
      have c4 := c0.out w4 hb4.out
      have z4 := Y0.out.fz j
      have V0 : Hid _ := US.out w4 Y0.out
      have VK : Hid _ := YK.out.apart1 (k' := w.heap.size + 1) (o := j) (v := b8 nj) (by omega)
      have V1 : Hid _ := Y1.out.apart1 (k' := w.heap.size + 1) (o := j) (v := b8 nj) (by omega)
      have V2 : Hid _ := Y2.out.setCell (p := ⟨w.heap.size + 1, j, none⟩) (by show w.heap.size ≤ w.heap.size + 1; omega) (b8 nj)
      clear f0 f1 f2 f3 f4 f5 f6 f7 f8 f9 f10 f11 f12 f13 f14 f15 hb4 hO X0 X1 X2 XK c0 c1 Y0 Y1 Y2 YK US
      go_wp2_with fail
      go_roundw
      case rel => exact ⟨j + 1, J1.out, by first | rfl | go_num, VK, V0, V1, V2⟩
      case measure => have := J1.out; simp [intOf]; omega
    · obtain rfl : j = 16 := by omega
      rw [A.midN_all] at X0
      have LL : Hid ((A.by_ 16 new).length = 16) := A.by_length _ _
      obtain ⟨l, hl⟩ : ∃ l, l = A.by_ 16 new := ⟨_, rfl⟩
      rw [← hl] at X0 LL
      have HE : Hid (l = A.by_ 16 new) := hl
      clear hl hj hj1
      have T0 : Hid (wr.there (w.heap.size + 1 + 1) 0 (l.map b8).length) := X1.out.there (by rw [List.length_map, LL.out, zB_length]; omega)
      go_wp2_with (first | refine wpList_load_mid rfl 57 (.tmp 4) rfl (w.heap.size + 1) 0 rfl (l.map b8) _ X0.out.all u_a16 rfl (info_n info_a16 l LL.out) ?_ | refine wp_store_eq rfl 57 (.tmp 6) (.tmp 28) rfl (w.heap.size + 1 + 1) 0 (l.map b8) rfl rfl T0.out (info_n info_a16 l LL.out) (one_b8 _) ?_)
      intro w9 hw9
      go_wp2_with fail
      refine bodyPost_ret (v := aB l) ?_ rfl ⟨by rw [HE.out], ?_⟩
      · rw [hw9.out]
        exact results_cell (b := w.heap.size + 1 + 1) rfl rfl (World.rangeAt_setCells_same _ _ _ _ T0.out) u_a16 rfl (info_n info_a16 l LL.out)
      · rw [hw9.out]
        exact below_setCells _ _ _ X2.out (by omega)
/-- Round key j of a key's bytes. -/
def kf (fl : List Nat) (j : Nat) : List Nat := A.by_ 16 fun p => fl.getD (16 * j + p) 0
theorem kf_ok {fl : List Nat} (lf : ∀ x ∈ fl, x < 256) (j : Nat) : A.ok 16 (kf fl j) := A.by_ok fun _ _ => getD_low lf _
theorem aaddK_fun (fl : List Nat) (r : Nat) (hl : fl.length = 240) (lf : ∀ x ∈ fl, x < 256) (b : List Nat) (hb : A.ok 16 b) (rd : Nat) (hr : rd ≤ 14) (w : World) :
    Calls Try.prog 37 #[.agg (kC fl r).toArray, aB b, .int .i64 (rd : Int)] w fun e w' => e = .returned (aB (A.addK b (kf fl rd))) ∧ Below w.heap.size w w' := by
  have h := aadd_fun fl r hl lf b hb rd (by omega) w
  rw [show (A.by_ 16 fun p => b.getD p 0 ^^^ fl.getD (16 * rd + p) 0) = A.addK b (kf fl rd) from A.by_congr fun p hp => by
    unfold kf
    rw [A.by_get hp]] at h
  exact h
end Go.Proofs.Ytejabkmhpiabnaa
