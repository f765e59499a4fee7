/- The contracts of sealringref.eight and sealringref.counted; rows of texts. -/
import Derived.Test.YtejabkmhpiabnaaGrp28
import Derived.Test.YtejabkmhpiabnaaAeW
import Derived.Test.YtejabkmhpiabnaaWMath
namespace Go.Proofs.Ytejabkmhpiabnaa
open Go.RowKit
set_option linter.unusedSimpArgs false
attribute [local go_sem] YieldsP execOp
attribute [local simp] MP.eq_p
theorem u_a8 : Try.prog.underlying 50 = some (.array 8 5) := by kernel_rfl
theorem info_a8 : (Try.prog.info? 50).map (·.size) = some 8 := by kernel_rfl
theorem zero_a8 (w : World) : (zeroValue 50).run Try.prog w = .ok (.agg (zB 8).toArray) w := zero_of (by kernel_rfl) w
set_option maxRecDepth 20000 in
set_option maxHeartbeats 1000000 in
theorem reight_fun (s : List Nat) (hs : ∀ x ∈ s, x < 256) (h8 : s.length = 8) (w : World) : Calls Try.prog 31 #[.string (sOf s)] w fun e w' => e = .returned (aB s) ∧ Below w.heap.size w w' := by
  obtain ⟨new, hnew⟩ : ∃ new : Nat → Nat, new = fun p => s.getD p 0 := ⟨_, rfl⟩
  have SG : Hid (∀ (j : Nat) (h : j < (sOf s).size), ((sOf s)[j]'h).toNat = s.getD j 0) := sOf_get hs
  have SZ : (sOf s).size = 8 := by rw [sOf_size]; exact h8
  have SE : Hid (A.midN 8 (fun _ => 0) new 8 = s) := by rw [A.midN_all, hnew, A.by_self h8]; exact rfl
  have NG : Hid (∀ j, s.getD j 0 = new j) := fun j => by rw [hnew]
  obtain ⟨x0, x1, x2⟩ := al2 w #[Value.int IntKind.u8 0, Value.int IntKind.u8 0, Value.int IntKind.u8 0, Value.int IntKind.u8 0, Value.int IntKind.u8 0, Value.int IntKind.u8 0, Value.int IntKind.u8 0, Value.int IntKind.u8 0] #[Value.int IntKind.u8 0, Value.int IntKind.u8 0, Value.int IntKind.u8 0, Value.int IntKind.u8 0, Value.int IntKind.u8 0, Value.int IntKind.u8 0, Value.int IntKind.u8 0, Value.int IntKind.u8 0] 50 50
  have e0 : (A.midN 8 (fun _ => 0) new 0).map b8 = (#[Value.int IntKind.u8 0, Value.int IntKind.u8 0, Value.int IntKind.u8 0, Value.int IntKind.u8 0, Value.int IntKind.u8 0, Value.int IntKind.u8 0, Value.int IntKind.u8 0, Value.int IntKind.u8 0] : Array Value).toList := by rw [A.midN_zero]; rfl
  have X0 : Hid (Blk _ w.heap.size (zB 8)) := x0
  rw [← e0] at x1
  have X1 : Hid (Blk _ (w.heap.size + 1) ((A.midN 8 (fun _ => 0) new 0).map b8)) := x1
  have X2 : Hid (Below w.heap.size w _) := x2
  generalize sOf s = T at *
  clear x0 x1 x2 hnew hs e0
  go_enter Try.func31, Try.ntmps31
  go_wp2_with (first | simp only [zero_a8])
  generalize World.alloc (w.alloc _) _ = w1 at *
  go_loopw [5] (fun i wr => ∃ j : Nat, j ≤ 8 ∧ i = .int .i64 (j : Int) ∧ Hid (Blk wr w.heap.size (zB 8)) ∧ Hid (Blk wr (w.heap.size + 1) ((A.midN 8 (fun _ => 0) new j).map b8)) ∧ Hid (Below w.heap.size w wr)) (fun i _ => 8 - (intOf i).toNat)
  case atStart => exact ⟨0, by omega, rfl, X0, X1, X2⟩
  case round =>
    clear X0 X1 X2
    obtain ⟨j, hj, rfl, X0, X1, X2⟩ := hrel
    by_cases hj1 : j < 8
    · have j1 : (j : Int) < 8 := by omega
      have wj : IntKind.i64.wrap ((j : Int) + 1) = (j : Int) + 1 := by rw [IntKind.wrap_i64]; omega
      have gj : ∀ h, (T[j]'h).toNat = new j := fun h => by rw [SG.out j h, NG.out]
      have c1 := X1.out.byte j (by rw [A.midN_length]; exact hj1)
      have z1 := X1.out.fz j
      have V1 : Hid (Blk (wr.setCell ⟨w.heap.size + 1, j, none⟩ (b8 (new j))) (w.heap.size + 1) ((A.midN 8 (fun _ => 0) new (j + 1)).map b8)) := by
        rw [← A.midN_set (fun _ => 0) new hj1]
        exact X1.out.setB _ _ (by rw [A.midN_length]; exact hj1)
      have V0 : Hid _ := X0.out.apart1 (k' := w.heap.size + 1) (o := j) (v := b8 (new j)) (by omega)
      have V2 : Hid _ := X2.out.setCell (p := ⟨w.heap.size + 1, j, none⟩) (by show w.heap.size ≤ w.heap.size + 1; omega) (b8 (new j))
      have J1 : Hid (j < 8) := hj1
      generalize new j = nj at *
      clear hj hj1 X0 X1 X2
      go_wp2_with fail
      go_roundw
      case rel => exact ⟨j + 1, J1.out, by first | rfl | go_num, V0, V1, V2⟩
      case measure => have := J1.out; simp [intOf]; omega
    · obtain rfl : j = 8 := by omega
      rw [SE.out] at X1
      have HL : Hid (s.length = 8) := h8
      clear hj hj1 h8
      have T0 : Hid (wr.there w.heap.size 0 (s.map b8).length) := X0.out.there (by rw [List.length_map, HL.out, zB_length]; omega)
      go_wp2_with (first | refine wpList_load_mid rfl 50 (.tmp 3) rfl (w.heap.size + 1) 0 rfl (s.map b8) _ X1.out.all u_a8 rfl (info_n info_a8 s HL.out) ?_ | refine wp_store_eq rfl 50 (.tmp 2) (.tmp 14) rfl w.heap.size 0 (s.map b8) rfl rfl T0.out (info_n info_a8 s HL.out) (one_b8 _) ?_)
      intro w9 hw9
      go_wp2_with fail
      refine bodyPost_ret (v := aB s) ?_ rfl ⟨rfl, ?_⟩
      · rw [hw9.out]
        exact results_cell (b := w.heap.size) rfl rfl (World.rangeAt_setCells_same _ _ _ _ T0.out) u_a8 rfl (info_n info_a8 s HL.out)
      · rw [hw9.out]
        exact below_setCells _ _ _ X2.out (Nat.le_refl _)
namespace A
/-- Of eight places the last t are new ones. -/
def endE (old new : Nat → Nat) (t : Nat) : List Nat := by_ 8 fun p => if 8 - t ≤ p then new p else old p
theorem endE_length (old new : Nat → Nat) (t : Nat) : (endE old new t).length = 8 := by_length _ _
theorem endE_zero (old new : Nat → Nat) : endE old new 0 = by_ 8 old := by_congr fun _ hi => if_neg (by omega)
theorem endE_all (old new : Nat → Nat) : endE old new 8 = by_ 8 new := by_congr fun _ _ => if_pos (by omega)
theorem endE_at (old new : Nat → Nat) {t u : Nat} (h : u + t = 7) : (endE old new t).getD u 0 = old u := by
  unfold endE
  rw [by_get (by omega), if_neg (by omega)]
theorem endE_set (old new : Nat → Nat) {t u : Nat} (h : u + t = 7) : (endE old new t).set u (new u) = endE old new (t + 1) := by
  refine (by_self (l := (endE old new t).set u (new u)) (by rw [List.length_set, endE_length])).symm.trans (by_congr fun i hi => ?_)
  rw [getD_set _ _ _ _ (by rw [endE_length]; omega)]
  unfold endE
  rw [by_get hi]
  by_cases e : u = i
  · subst e
    rw [if_pos rfl, if_pos (by omega)]
  · rw [if_neg e]
    by_cases e2 : 8 - t ≤ i
    · rw [if_pos e2, if_pos (by omega)]
    · rw [if_neg e2, if_neg (by omega)]
end A
set_option maxRecDepth 20000 in
set_option maxHeartbeats 1000000 in
theorem rcounted_fun (a : List Nat) (ha : A.ok 8 a) (n : Nat) (hn : n < 65536) (w : World) : Calls Try.prog 30 #[aB a, .int .i64 (n : Int)] w fun e w' => e = .returned (aB (A.xor8 a (A.be8 n))) ∧ Below w.heap.size w w' := by
  obtain ⟨old, hold⟩ : ∃ old : Nat → Nat, old = fun p => a.getD p 0 := ⟨_, rfl⟩
  obtain ⟨new, hnew⟩ : ∃ new : Nat → Nat, new = fun p => a.getD p 0 ^^^ (A.be8 n).getD p 0 := ⟨_, rfl⟩
  obtain ⟨ca, hca⟩ : ∃ ca : Nat → Nat, ca = fun t => n / 256 ^ t := ⟨_, rfl⟩
  have NE : Hid (A.xor8 a (A.be8 n) = A.by_ 8 new) := by rw [hnew]; exact rfl
  have C0 : Hid (ca 0 = n) := by rw [hca]; show n / 256 ^ 0 = n; rw [Nat.pow_zero, Nat.div_one]
  have CL : Hid (∀ t, ca t < 65536) := fun t => by rw [hca]; exact Nat.lt_of_le_of_lt (Nat.div_le_self _ _) hn
  have CN : Hid (∀ t u, u + t = 7 → ca (t + 1) = ca t / 256 ∧ new u = old u ^^^ (ca t % 256)) := fun t u h => by
    rw [hca, hold, hnew]
    refine ⟨?_, ?_⟩
    · show n / 256 ^ (t + 1) = n / 256 ^ t / 256
      rw [Nat.pow_succ, Nat.div_div_eq_div_mul]
    · show a.getD u 0 ^^^ (A.be8 n).getD u 0 = _
      unfold A.be8
      rw [A.by_get (by omega), show 7 - u = t by omega]
  have OL : Hid (∀ p, old p < 256) := fun p => by rw [hold]; exact ha.at p
  rw [NE.out]
  obtain ⟨x0, x1, x2⟩ := al2 w (a.map b8).toArray #[Value.int IntKind.u8 0, Value.int IntKind.u8 0, Value.int IntKind.u8 0, Value.int IntKind.u8 0, Value.int IntKind.u8 0, Value.int IntKind.u8 0, Value.int IntKind.u8 0, Value.int IntKind.u8 0] 50 50
  rw [show (a.map b8).toArray.toList = (A.endE old new 0).map b8 by rw [A.endE_zero, hold, A.by_self ha.1]] at x0
  have X0 : Hid (Blk _ w.heap.size ((A.endE old new 0).map b8)) := x0
  have X1 : Hid (Blk _ (w.heap.size + 1) (zB 8)) := x1
  have X2 : Hid (Below w.heap.size w _) := x2
  clear x0 x1 x2 hold hnew hca NE ha hn
  go_enter Try.func30, Try.ntmps30
  go_wp2_with (simp only [zero_a8])
  generalize World.alloc (w.alloc _) _ = w1 at *
  go_loopw [5, 1] (fun i c wr => ∃ (t : Nat), t ≤ 8 ∧ i = .int .i64 (7 - (t : Int)) ∧ c = .int .i64 ((ca t : Nat) : Int) ∧ Hid (Blk wr w.heap.size ((A.endE old new t).map b8)) ∧ Hid (Blk wr (w.heap.size + 1) (zB 8)) ∧ Hid (Below w.heap.size w wr)) (fun i _ _ => (intOf i + 1).toNat)
  case atStart => exact ⟨0, by omega, rfl, by rw [C0.out], X0, X1, X2⟩
  case round =>
    clear X0 X1 X2
    obtain ⟨t, ht, rfl, rfl, X0, X1, X2⟩ := hrel
    by_cases ht1 : t < 8
    · obtain ⟨u, hu⟩ : ∃ u, u = 7 - t := ⟨_, rfl⟩
      have eu : (7 : Int) - (t : Int) = (u : Int) := by omega
      rw [eu]
      have u0 : (0 : Int) ≤ (u : Int) := by omega
      have u1 : (u : Int) < 8 := by omega
      have wu : IntKind.i64.wrap ((u : Int) - 1) = (u : Int) - 1 := by rw [IntKind.wrap_i64]; omega
      have UT : Hid (u + t = 7) := by show _ = _; omega
      have cu := X0.out.byte u (by rw [A.endE_length]; omega)
      rw [A.endE_at old new UT.out] at cu
      have fu := X0.out.fz u
      have V0 : Hid (Blk (wr.setCell ⟨w.heap.size, u, none⟩ (b8 (new u))) w.heap.size ((A.endE old new (t + 1)).map b8)) := by
        rw [← A.endE_set old new UT.out]
        exact X0.out.setB _ _ (by rw [A.endE_length]; have := UT.out; omega)
      have V1 : Hid _ := X1.out.apart1 (k' := w.heap.size) (o := u) (v := b8 (new u)) (by omega)
      have V2 : Hid _ := X2.out.setCell (p := ⟨w.heap.size, u, none⟩) (Nat.le_refl _) (b8 (new u))
      have cb := CL.out t
      have ob := OL.out u
      have cn := CN.out t u UT.out
      obtain ⟨lo, hlo⟩ : ∃ lo, lo = ca t % 256 := ⟨_, rfl⟩
      have m1 : ((ca t : Nat) : Int).tmod 256 = (lo : Int) := by rw [Int.tmod_eq_emod_of_nonneg (by omega)]; omega
      have m2 : ((ca t : Nat) : Int) % 256 = (lo : Int) := by omega
      have w8 : IntKind.u8.wrap (lo : Int) = (lo : Int) := by rw [IntKind.wrap_u8]; omega
      obtain ⟨nx, hnx⟩ : ∃ nx, nx = ca (t + 1) := ⟨_, rfl⟩
      have NX : Hid (nx = ca (t + 1)) := hnx
      have d1 : ((ca t : Nat) : Int).tdiv 256 = (nx : Int) := by rw [Int.tdiv_eq_ediv_of_nonneg (by omega), hnx, cn.1]; omega
      have d2 : ((ca t : Nat) : Int) / 256 = (nx : Int) := by rw [hnx, cn.1]; omega
      have wx : IntKind.i64.wrap (nx : Int) = (nx : Int) := by rw [IntKind.wrap_i64, hnx, cn.1]; omega
      have xe : bits .xor .u8 ((old u : Nat) : Int) (lo : Int) = ((new u : Nat) : Int) := by rw [cn.2, ← hlo]; exact g_xor ob (by omega)
      have T1 : Hid (t < 8) := ht1
      generalize new u = nu at *
      generalize old u = ou at *
      generalize ca t = ct at *
      clear hlo hnx cn cb ob hu ht ht1 X0 X1 X2 eu
      go_wp2_with fail
      go_roundw
      case rel =>
        have h := UT.out
        have e : (u : Int) - 1 = 7 - ((t + 1 : Nat) : Int) := by omega
        rw [e]
        exact ⟨t + 1, T1.out, rfl, by rw [← NX.out], V0, V1, V2⟩
      case measure => first | (simp [intOf]; done) | (have := UT.out; simp [intOf]; omega)
    · obtain rfl : t = 8 := by omega
      rw [A.endE_all] at X0
      have LL : Hid ((A.by_ 8 new).length = 8) := A.by_length _ _
      obtain ⟨l, hl⟩ : ∃ l, l = A.by_ 8 new := ⟨_, rfl⟩
      rw [← hl] at X0 LL
      have HE : Hid (l = A.by_ 8 new) := hl
      have n0 : ¬ (0 : Int) ≤ 7 - ((8 : Nat) : Int) := by omega
      clear hl ht ht1
      have T0 : Hid (wr.there (w.heap.size + 1) 0 (l.map b8).length) := X1.out.there (by rw [List.length_map, LL.out, zB_length]; omega)
      go_wp2_with (first | refine wpList_load_mid rfl 50 (.tmp 2) rfl w.heap.size 0 rfl (l.map b8) _ X0.out.all u_a8 rfl (info_n info_a8 l LL.out) ?_ | refine wp_store_eq rfl 50 (.tmp 4) (.tmp 20) rfl (w.heap.size + 1) 0 (l.map b8) rfl rfl T0.out (info_n info_a8 l LL.out) (one_b8 _) ?_)
      intro w9 hw9
      go_wp2_with fail
      refine bodyPost_ret (v := aB l) ?_ rfl ⟨by rw [HE.out], ?_⟩
      · rw [hw9.out]
        exact results_cell (b := w.heap.size + 1) rfl rfl (World.rangeAt_setCells_same _ _ _ _ T0.out) u_a8 rfl (info_n info_a8 l LL.out)
      · rw [hw9.out]
        exact below_setCells _ _ _ X2.out (by omega)
end Go.Proofs.Ytejabkmhpiabnaa
