/- Texts that were joined: RSix, RSeal. -/
import Derived.Test.YtmfbdacalenfdaaRStr
import Derived.Test.YtmfbdacalenfdaaSlA
import Derived.Deep.LoopGhost
/- The contracts of sealringref.xor and Sixteen; texts cut, arrays of sixteen bytes as texts. -/
namespace Go.Proofs.Ytmfbdacalenfdaa
open Go.RowKit
set_option linter.unusedSimpArgs false
attribute [local go_sem] YieldsP execOp
attribute [local simp] MP.eq_p
set_option maxRecDepth 20000 in
set_option maxHeartbeats 1000000 in
theorem rxor_fun (a b : List Nat) (ha : A.ok 16 a) (hb : A.ok 16 b) (w : World) : Calls Try.prog 41 #[aB a, aB b] w fun e w' => e = .returned (aB (A.addK a b)) ∧ Below w.heap.size w w' := by
  obtain ⟨new, hnew⟩ : ∃ new : Nat → Nat, new = fun p => a.getD p 0 ^^^ b.getD p 0 := ⟨_, rfl⟩
  obtain ⟨old, hold⟩ : ∃ old : Nat → Nat, old = fun p => a.getD p 0 := ⟨_, rfl⟩
  have NE : Hid (∀ j, bits .xor .u8 ((old j : Nat) : Int) ((b.getD j 0 : Nat) : Int) = ((new j : Nat) : Int)) := fun j => by
    rw [hold, hnew]
    exact g_xor (ha.at j) (hb.at j)
  have A0 : Hid (a = A.midL old new 0) := by rw [A.midL_zero, hold, A.by_self ha.1]; exact rfl
  have AE : Hid (A.midL old new 16 = A.addK a b) := by rw [A.midL_all, hnew]; exact rfl
  have LB : Hid (b.length = 16) := hb.1
  rw [← AE.out]
  obtain ⟨x0, x1, x2, x3⟩ := al3 w (a.map b8).toArray (b.map b8).toArray #[Value.int IntKind.u8 0, Value.int IntKind.u8 0, Value.int IntKind.u8 0, Value.int IntKind.u8 0, Value.int IntKind.u8 0, Value.int IntKind.u8 0, Value.int IntKind.u8 0, Value.int IntKind.u8 0, Value.int IntKind.u8 0, Value.int IntKind.u8 0, Value.int IntKind.u8 0, Value.int IntKind.u8 0, Value.int IntKind.u8 0, Value.int IntKind.u8 0, Value.int IntKind.u8 0, Value.int IntKind.u8 0] 23 23 23
  rw [show (a.map b8).toArray.toList = (A.midL old new 0).map b8 by rw [← A0.out]] at x0
  have X0 : Hid (Blk _ w.heap.size ((A.midL old new 0).map b8)) := x0
  have X1 : Hid (Blk _ (w.heap.size + 1) (b.map b8)) := x1
  have X2 : Hid (Blk _ (w.heap.size + 1 + 1) (zB 16)) := x2
  have X3 : Hid (Below w.heap.size w _) := x3
  clear x0 x1 x2 x3 ha hb hnew hold AE A0
  go_enter Try.func41, Try.ntmps41
  go_wp2_with (first | simp only [zero_a16])
  generalize World.alloc (World.alloc (w.alloc _) _) _ = w1 at *
  go_loopw [6] (fun i wr => ∃ j : Nat, j ≤ 16 ∧ i = .int .i64 (j : Int) ∧ Hid (Blk wr w.heap.size ((A.midL old new j).map b8)) ∧ Hid (Blk wr (w.heap.size + 1) (b.map b8)) ∧ Hid (Blk wr (w.heap.size + 1 + 1) (zB 16)) ∧ Hid (Below w.heap.size w wr)) (fun i _ => 16 - (intOf i).toNat)
  case atStart => exact ⟨0, by omega, rfl, X0, X1, X2, X3⟩
  case round =>
    clear X0 X1 X2 X3
    obtain ⟨j, hj, rfl, X0, X1, X2, X3⟩ := hrel
    by_cases hj1 : j < 16
    · have j1 : (j : Int) < 16 := by omega
      have wj : IntKind.i64.wrap ((j : Int) + 1) = (j : Int) + 1 := by rw [IntKind.wrap_i64]; omega
      have xe := NE.out j
      have ca : Hid (∀ W, Below wr.heap.size wr W → W.cell? ⟨w.heap.size, j, none⟩ = some (b8 (old j))) := fun W hW => by
        have h1 := (X0.out.up hW X0.out.lt).byte j (by rw [A.midL_length]; exact hj1)
        rw [A.midL_at old new hj1] at h1
        exact h1
      have cb : Hid (∀ W, Below wr.heap.size wr W → W.cell? ⟨w.heap.size + 1, j, none⟩ = some (b8 (b.getD j 0))) := fun W hW => (X1.out.up hW X1.out.lt).byte j (by rw [LB.out]; exact hj1)
      have US : Hid (∀ W, Blk W w.heap.size ((A.midL old new j).map b8) → Blk (W.setCell ⟨w.heap.size, j, none⟩ (b8 (new j))) w.heap.size ((A.midL old new (j + 1)).map b8)) := fun W h => by
        rw [← A.midL_set old new hj1]
        exact h.setB _ _ (by rw [A.midL_length]; exact hj1)
      have J1 : Hid (j < 16) := hj1
      generalize old j = oj at *
      generalize new j = nj at *
      generalize b.getD j 0 = bj at *
      clear hj hj1
      go_wp2_with fail
      refine wp_region_monoSE 8 [MP.eq (.int .i64 (j : Int)), MP.eq (.pointer (some ⟨w.heap.size, j, none⟩)), MP.eq (b8 oj), MP.eq (.int .i64 (j : Int)), MP.eq (.pointer (some ⟨w.heap.size + 1, j, none⟩)), MP.eq (b8 bj), MP.eq (b8 nj), MP.eq (.pointer (some ⟨w.heap.size, j, none⟩))] (by kernel_rfl) (by kernel_rfl) rfl (by decide) (by kernel_rfl) ?_
      apply Exists.intro
      refine ⟨fun vals => ?_, ?_, fun vals4 w4 hb4 hF hO => ?_⟩
      · simp only [putsV, dstL, List.length_cons, List.length_nil, Nat.zero_add, Nat.reduceAdd, List.getElem?_cons_zero, List.getElem?_cons_succ, Option.bind_some, Act.put, List.setIfInBounds_toArray, List.set_cons_succ, List.set_cons_zero]
        rfl
      · refine ⟨?_, ?_, ?_, ?_, ?_, ?_, ?_, ?_, trivial⟩
        · intro vals W hW hw hd
          try simp [Region.binds] at hd
          refine ⟨by first | rfl | simp [Region.wanted, yielded, hd], ?_⟩
          simp [go_sem, hd]
          exact Below.refl _ _
        · intro vals W hW hw hd
          try simp [Region.binds] at hd
          refine ⟨by first | rfl | simp [Region.wanted, yielded, hd], ?_⟩
          simp [go_sem, hd, j1]
          exact Below.refl _ _
        · intro vals W hW hw hd
          try simp [Region.binds] at hd
          refine ⟨by first | rfl | simp [Region.wanted, yielded, hd], ?_⟩
          have cc := ca.out W hW.out
          simp [go_sem, hd, cc]
          exact Below.refl _ _
        · intro vals W hW hw hd
          try simp [Region.binds] at hd
          refine ⟨by first | rfl | simp [Region.wanted, yielded, hd], ?_⟩
          simp [go_sem, hd]
          exact Below.refl _ _
        · intro vals W hW hw hd
          try simp [Region.binds] at hd
          refine ⟨by first | rfl | simp [Region.wanted, yielded, hd], ?_⟩
          simp [go_sem, hd, j1]
          exact Below.refl _ _
        · intro vals W hW hw hd
          try simp [Region.binds] at hd
          refine ⟨by first | rfl | simp [Region.wanted, yielded, hd], ?_⟩
          have cc := cb.out W hW.out
          simp [go_sem, hd, cc]
          exact Below.refl _ _
        · intro vals W hW hw hd
          try simp [Region.binds] at hd
          refine ⟨by first | rfl | simp [Region.wanted, yielded, hd], ?_⟩
          simp [go_sem, hd, xe]
          exact Below.refl _ _
        · intro vals W hW hw hd
          try simp [Region.binds] at hd
          refine ⟨by first | rfl | simp [Region.wanted, yielded, hd], ?_⟩
          simp [go_sem, hd, j1]
          exact Below.refl _ _
      obtain ⟨f0, f1, f2, f3, f4, f5, f6, f7, _⟩ := hF
      simp only [MP.eq_p] at f0 f1 f2 f3 f4 f5 f6 f7
      rw [f0, f1, f2, f3, f4, f5, f6, f7]
      simp only [List.drop_succ_cons, List.drop_zero]
      have Z0 : Hid (Blk w4 w.heap.size ((A.midL old new j).map b8)) := X0.out.up hb4.out X0.out.lt
      have Z1 : Hid (Blk w4 (w.heap.size + 1) (b.map b8)) := X1.out.up hb4.out X1.out.lt
      have Z2 : Hid (Blk w4 (w.heap.size + 1 + 1) (zB 16)) := X2.out.up hb4.out X2.out.lt
      have Z3 : Hid (Below w.heap.size w w4) := X3.out.trans (hb4.out.mono X3.out.size)
      have c4 := ca.out w4 hb4.out
      have z4 := Z0.out.fz j
      clear f0 f1 f2 f3 f4 f5 f6 f7 hb4 hO X0 X1 X2 X3 ca cb
      have V0 : Hid _ := US.out w4 Z0.out
      have V1 : Hid _ := Z1.out.apart1 (k' := w.heap.size) (o := j) (v := b8 nj) (by omega)
      have V2 : Hid _ := Z2.out.apart1 (k' := w.heap.size) (o := j) (v := b8 nj) (by omega)
      have V3 : Hid _ := Z3.out.setCell (p := ⟨w.heap.size, j, none⟩) (Nat.le_refl _) (b8 nj)
      clear Z0 Z1 Z2 Z3 US
      go_wp2_with fail
      go_roundw
      case rel => exact ⟨j + 1, J1.out, by first | rfl | go_num, V0, V1, V2, V3⟩
      case measure => have := J1.out; simp [intOf]; omega
    · obtain rfl : j = 16 := by omega
      have LL : Hid ((A.midL old new 16).length = 16) := A.midL_length _ _ _
      obtain ⟨l, hl⟩ : ∃ l, l = A.midL old new 16 := ⟨_, rfl⟩
      rw [← hl] at X0 LL
      have HE : Hid (l = A.midL old new 16) := hl
      clear hl
      clear hj hj1
      have T0 : Hid (wr.there (w.heap.size + 1 + 1) 0 (l.map b8).length) := X2.out.there (by rw [List.length_map, LL.out, zB_length]; omega)
      go_wp2_with (first | refine wpList_load_mid rfl 23 (.tmp 2) rfl w.heap.size 0 rfl (l.map b8) _ X0.out.all u_a16 rfl (info_n info_a16 l LL.out) ?_ | refine wp_store_eq rfl 23 (.tmp 4) (.tmp 18) rfl (w.heap.size + 1 + 1) 0 (l.map b8) rfl rfl T0.out (info_n info_a16 l LL.out) (one_b8 _) ?_)
      intro w9 hw9
      go_wp2_with fail
      refine bodyPost_ret (v := aB l) ?_ rfl ⟨by rw [HE.out], ?_⟩
      · rw [hw9.out]
        exact results_cell (b := w.heap.size + 1 + 1) rfl rfl (World.rangeAt_setCells_same _ _ _ _ T0.out) u_a16 rfl (info_n info_a16 l LL.out)
      · rw [hw9.out]
        exact below_setCells _ _ _ X3.out (by omega)
set_option maxRecDepth 20000 in
set_option maxHeartbeats 1000000 in
theorem rsixteen_fun (s : List Nat) (hs : ∀ x ∈ s, x < 256) (h16 : s.length = 16) (w : World) : Calls Try.prog 40 #[.string (sOf s)] w fun e w' => e = .returned (aB s) ∧ Below w.heap.size w w' := by
  obtain ⟨new, hnew⟩ : ∃ new : Nat → Nat, new = fun p => s.getD p 0 := ⟨_, rfl⟩
  have SG : Hid (∀ (j : Nat) (h : j < (sOf s).size), ((sOf s)[j]'h).toNat = s.getD j 0) := sOf_get hs
  have SZ : (sOf s).size = 16 := by rw [sOf_size]; exact h16
  have SE : Hid (A.midL (fun _ => 0) new 16 = s) := by rw [A.midL_all, hnew, A.by_self h16]; exact rfl
  have NG : Hid (∀ j, s.getD j 0 = new j) := fun j => by rw [hnew]
  obtain ⟨x0, x1, x2⟩ := al2 w #[Value.int IntKind.u8 0, Value.int IntKind.u8 0, Value.int IntKind.u8 0, Value.int IntKind.u8 0, Value.int IntKind.u8 0, Value.int IntKind.u8 0, Value.int IntKind.u8 0, Value.int IntKind.u8 0, Value.int IntKind.u8 0, Value.int IntKind.u8 0, Value.int IntKind.u8 0, Value.int IntKind.u8 0, Value.int IntKind.u8 0, Value.int IntKind.u8 0, Value.int IntKind.u8 0, Value.int IntKind.u8 0] #[Value.int IntKind.u8 0, Value.int IntKind.u8 0, Value.int IntKind.u8 0, Value.int IntKind.u8 0, Value.int IntKind.u8 0, Value.int IntKind.u8 0, Value.int IntKind.u8 0, Value.int IntKind.u8 0, Value.int IntKind.u8 0, Value.int IntKind.u8 0, Value.int IntKind.u8 0, Value.int IntKind.u8 0, Value.int IntKind.u8 0, Value.int IntKind.u8 0, Value.int IntKind.u8 0, Value.int IntKind.u8 0] 23 23
  have e0 : (A.midL (fun _ => 0) new 0).map b8 = (#[Value.int IntKind.u8 0, Value.int IntKind.u8 0, Value.int IntKind.u8 0, Value.int IntKind.u8 0, Value.int IntKind.u8 0, Value.int IntKind.u8 0, Value.int IntKind.u8 0, Value.int IntKind.u8 0, Value.int IntKind.u8 0, Value.int IntKind.u8 0, Value.int IntKind.u8 0, Value.int IntKind.u8 0, Value.int IntKind.u8 0, Value.int IntKind.u8 0, Value.int IntKind.u8 0, Value.int IntKind.u8 0] : Array Value).toList := by rw [midL_zeros]; rfl
  have X0 : Hid (Blk _ w.heap.size (zB 16)) := x0
  rw [← e0] at x1
  have X1 : Hid (Blk _ (w.heap.size + 1) ((A.midL (fun _ => 0) new 0).map b8)) := x1
  have X2 : Hid (Below w.heap.size w _) := x2
  generalize sOf s = T at *
  clear x0 x1 x2 hnew hs e0
  go_enter Try.func40, Try.ntmps40
  go_wp2_with (first | simp only [zero_a16])
  generalize World.alloc (w.alloc _) _ = w1 at *
  go_loopw [5] (fun i wr => ∃ j : Nat, j ≤ 16 ∧ i = .int .i64 (j : Int) ∧ Hid (Blk wr w.heap.size (zB 16)) ∧ Hid (Blk wr (w.heap.size + 1) ((A.midL (fun _ => 0) new j).map b8)) ∧ Hid (Below w.heap.size w wr)) (fun i _ => 16 - (intOf i).toNat)
  case atStart => exact ⟨0, by omega, rfl, X0, X1, X2⟩
  case round =>
    clear X0 X1 X2
    obtain ⟨j, hj, rfl, X0, X1, X2⟩ := hrel
    by_cases hj1 : j < 16
    · have j1 : (j : Int) < 16 := by omega
      have wj : IntKind.i64.wrap ((j : Int) + 1) = (j : Int) + 1 := by rw [IntKind.wrap_i64]; omega
      have gj : ∀ h, (T[j]'h).toNat = new j := fun h => by rw [SG.out j h, NG.out]
      have c1 := X1.out.byte j (by rw [A.midL_length]; exact hj1)
      have z1 := X1.out.fz j
      have V1 : Hid (Blk (wr.setCell ⟨w.heap.size + 1, j, none⟩ (b8 (new j))) (w.heap.size + 1) ((A.midL (fun _ => 0) new (j + 1)).map b8)) := by
        rw [← A.midL_set (fun _ => 0) new hj1]
        exact X1.out.setB _ _ (by rw [A.midL_length]; exact hj1)
      have V0 : Hid _ := X0.out.apart1 (k' := w.heap.size + 1) (o := j) (v := b8 (new j)) (by omega)
      have V2 : Hid _ := X2.out.setCell (p := ⟨w.heap.size + 1, j, none⟩) (by show w.heap.size ≤ w.heap.size + 1; omega) (b8 (new j))
      have J1 : Hid (j < 16) := hj1
      generalize new j = nj at *
      clear hj hj1 X0 X1 X2
      go_wp2_with fail
      go_roundw
      case rel => exact ⟨j + 1, J1.out, by first | rfl | go_num, V0, V1, V2⟩
      case measure => have := J1.out; simp [intOf]; omega
    · obtain rfl : j = 16 := by omega
      rw [SE.out] at X1
      have HL : Hid (s.length = 16) := h16
      clear hj hj1 h16
      have T0 : Hid (wr.there w.heap.size 0 (s.map b8).length) := X0.out.there (by rw [List.length_map, HL.out, zB_length]; omega)
      go_wp2_with (first | refine wpList_load_mid rfl 23 (.tmp 3) rfl (w.heap.size + 1) 0 rfl (s.map b8) _ X1.out.all u_a16 rfl (info_n info_a16 s HL.out) ?_ | refine wp_store_eq rfl 23 (.tmp 2) (.tmp 14) rfl w.heap.size 0 (s.map b8) rfl rfl T0.out (info_n info_a16 s HL.out) (one_b8 _) ?_)
      intro w9 hw9
      go_wp2_with fail
      refine bodyPost_ret (v := aB s) ?_ rfl ⟨rfl, ?_⟩
      · rw [hw9.out]
        exact results_cell (b := w.heap.size) rfl rfl (World.rangeAt_setCells_same _ _ _ _ T0.out) u_a16 rfl (info_n info_a16 s HL.out)
      · rw [hw9.out]
        exact below_setCells _ _ _ X2.out (Nat.le_refl _)
end Go.Proofs.Ytmfbdacalenfdaa

/- The contract of sealringref's Cipher.Sealed. -/
namespace Go.Proofs.Ytmfbdacalenfdaa
open Go.RowKit
set_option linter.unusedSimpArgs false
attribute [local go_sem] YieldsP execOp
attribute [local simp] MP.eq_p
theorem info_b1 : (Try.prog.info? 5).map (·.size) = some 1 := by kernel_rfl
theorem sOf_front (xs : List Nat) (n : Nat) : (sOf xs).extract 0 n = sOf (xs.take n) := by
  apply ByteArray.ext
  simp [sOf, ByteArray.data_extract]
theorem sOf_back (xs : List Nat) (n : Nat) : (sOf xs).extract n xs.length = sOf (xs.drop n) := by
  apply ByteArray.ext
  simp [sOf, ByteArray.data_extract]
  exact List.take_of_length_le (by simp)
set_option maxRecDepth 20000 in
set_option maxHeartbeats 1000000 in
theorem rsealed_fun (ws : List (List Nat)) (hw : A.okW ws) (r : Nat) (hl : ws.length = 4 * (r + 1)) (hz : r ≤ 20) (i0 : List Nat) (hi : A.ok 16 i0) (p : List Nat) (hp : ∀ x ∈ p, x < 256) (zp : p.length ≤ 140737488351232) (kc : Nat) (w : World) (hc : Cph w kc ws) :
    Calls Try.prog 16 #[.pointer (some ⟨kc, 0, none⟩), aB i0, .string (sOf p)] w fun e w' => e = .returned (.string (sOf (A.sealS ws i0 p))) ∧ Below w.heap.size w w' := by
  obtain ⟨n, hn⟩ : ∃ n, n = A.padN p := ⟨_, rfl⟩
  have NP := A.padN_pos p
  rw [← hn] at NP
  obtain ⟨K, hK⟩ : ∃ K, K = p.length / 16 + 1 := ⟨_, rfl⟩
  have PP : Hid (p ++ List.replicate n n = A.padS p) := by rw [hn]; exact rfl
  have TOT : Hid ([] ++ A.sealB ws K i0 (A.padS p) = A.sealS ws i0 p ∧ A.ok (16 * K) (A.padS p) ∧ A.ok 16 i0) := ⟨by rw [hK]; rfl, ⟨by rw [hK]; exact A.padS_length p, A.padS_low hp⟩, hi⟩
  have CU : Hid (∀ b W, A.ok 16 b → Below w.heap.size w W → Calls Try.prog 35 #[.pointer (some ⟨kc, 0, none⟩), aB b] W fun e w' => e = .returned (aB (A.encS ws b)) ∧ Below W.heap.size W w') := fun b W hb hW => rencrypt_fun ws hw r hl hz b hb kc W (hc.up hW)
  have EO : Hid (∀ b, A.ok 16 b → A.ok 16 (A.encS ws b)) := fun b hb => A.encS_ok hw hb
  have KL : Hid (K ≤ 8796093021953) := by show _ ≤ _; omega
  obtain ⟨x0, x1⟩ := al1 w (i0.map b8).toArray 23
  have X0 : Hid (Blk _ w.heap.size (i0.map b8)) := x0
  have X1 : Hid (Below w.heap.size w _) := x1
  have PZ : Hid (∀ t, (sOf (p ++ List.replicate t n)).size = p.length + t) := fun t => by rw [sOf_size, List.length_append, List.length_replicate]
  have P0 : (sOf p).size = p.length := sOf_size p
  have LP : Hid (p.length ≤ 140737488351232) := zp
  have hnm : n = 16 - p.length % 16 := hn
  obtain ⟨L, hL⟩ : ∃ L, L = p.length := ⟨_, rfl⟩
  rw [← hL] at hnm PZ P0 LP
  have m1 : (L : Int).tmod 16 = (((L % 16 : Nat)) : Int) := by rw [Int.tmod_eq_emod_of_nonneg (by omega)]; omega
  have m2 : (L : Int) % 16 = (((L % 16 : Nat)) : Int) := by omega
  obtain ⟨rm, hrm⟩ : ∃ rm, rm = L % 16 := ⟨_, rfl⟩
  rw [← hrm] at m1 m2
  have s1 : IntKind.i64.wrap (16 - (rm : Int)) = (n : Int) := by rw [IntKind.wrap_i64]; omega
  have n8 : IntKind.u8.wrap (n : Int) = (n : Int) := by rw [IntKind.wrap_u8]; omega
  have NB : Hid (1 ≤ n ∧ n ≤ 16) := NP
  have S0 : Hid (sOf p = sOf (p ++ List.replicate 0 n)) := by rw [List.replicate_zero, List.append_nil]; exact rfl
  clear hn hnm hrm hw hl hz hi hp zp hc x0 x1 hK NP hL
  go_enter Try.func16, Try.ntmps16
  go_wp2_with fail
  generalize w.alloc _ = w1 at *
  go_loopw [14, 2] (fun i s wr => ∃ (t : Nat), t ≤ n ∧ i = .int .i64 (t : Int) ∧ s = .string (sOf (p ++ List.replicate t n)) ∧ Hid (Blk wr w.heap.size (i0.map b8)) ∧ Hid (Below w.heap.size w wr)) (fun i _ _ => n - (intOf i).toNat)
  case atStart => exact ⟨0, by omega, rfl, by rw [S0.out], X0, X1⟩
  case round =>
    clear X0 X1
    obtain ⟨t, ht, rfl, rfl, X0, X1⟩ := hrel
    by_cases ht1 : t < n
    · have t1 : (t : Int) < (n : Int) := by omega
      have wt : IntKind.i64.wrap ((t : Int) + 1) = (t : Int) + 1 := by have := NB.out; rw [IntKind.wrap_i64]; omega
      have BY : Hid (∀ (W : World) (t : TypeId) (g : Nat), g = W.heap.size → By (W.alloc (.cells #[.int .u8 (n : Int)] t)) (.slice (some ⟨g, 0, none⟩) 1 1) [n]) := fun W t g hg => By.one ((cell_top hg).trans rfl)
      have SA : Hid (sOf (p ++ List.replicate t n) ++ sOf [n] = sOf (p ++ List.replicate (t + 1) n)) := by rw [sOf_append, List.append_assoc, List.replicate_succ']; exact rfl
      have sa := PZ.out t
      have sb : (sOf [n]).size = 1 := by rw [sOf_size]; rfl
      have LP' := LP.out
      have NB' := NB.out
      have T1 : Hid (t < n) := ht1
      obtain ⟨ub, hub⟩ : ∃ ub, ub = sOf (p ++ List.replicate (t + 1) n) := ⟨_, rfl⟩
      rw [← hub] at SA
      have UB : Hid (ub = sOf (p ++ List.replicate (t + 1) n)) := hub
      generalize sOf (p ++ List.replicate t n) = ua at *
      have hlim : ¬ 9223372036854775807 < L + t + 1 := by omega
      clear hub ht
      go_wp2_with (refine wp_conv rfl (.tmp 19) rfl _ [n] rfl (BY.out _ _ _ (by simp)) ?_)
      rw [SA.out]
      go_roundw
      case rel => exact ⟨t + 1, T1.out, by first | rfl | go_num, by rw [UB.out], X0.out.up (al1 _ _ _).2 X0.out.lt, X1.out.alloc X1.out.size _⟩
      case measure => have := T1.out; simp [intOf]; omega
    · obtain rfl : t = n := by omega
      rw [PP.out]
      clear ht ht1 PZ S0 m1 m2 s1 n8 P0
      generalize A.padS p = P at *
      obtain ⟨Qt, hQt⟩ : ∃ Q, Q = A.sealS ws i0 p := ⟨_, rfl⟩
      rw [← hQt] at TOT
      have HQ : Hid (Qt = A.sealS ws i0 p) := hQt
      clear hQt
      have E0 : Hid ((sOf ([] : List Nat)) = ⟨#[]⟩) := by show _ = _; rfl
      go_wp2_with fail
      go_loopg [2, 8] K (fun gk s o wr => ∃ (iv P out : List Nat), s = .string (sOf P) ∧ o = .string (sOf out) ∧ Hid ((out ++ A.sealB ws gk iv P = Qt ∧ A.ok (16 * gk) P ∧ A.ok 16 iv) ∧ out.length + 16 * gk = 16 * K) ∧ Hid (Blk wr w.heap.size (iv.map b8)) ∧ Hid (Below w.heap.size w wr))
      case atStart => exact ⟨i0, P, [], rfl, rfl, ⟨TOT.out, by simp⟩, X0, X1⟩
      case round =>
        clear X0 X1 TOT
        obtain ⟨iv, P, out, rfl, rfl, TT, X0, X1⟩ := hrel
        have PZ : (sOf P).size = 16 * gk := by rw [sOf_size]; exact TT.out.1.2.1.1
        rcases Nat.eq_zero_or_pos gk with h0 | h0
        · subst h0
          have z0 : ¬ (0 : Int) < ((sOf P).size : Int) := by rw [PZ]; decide
          have FE : Hid (out = A.sealS ws i0 p) := by
            have := TT.out.1.1
            rw [A.sealB, List.append_nil] at this
            rw [this, HQ.out]
            exact rfl
          clear PZ
          generalize sOf P = TP at *
          go_wp2_with fail
          go_ret
          exact ⟨by rw [FE.out]; rfl, X1.out⟩
        · obtain ⟨m, hm⟩ : ∃ m, gk = m + 1 := ⟨gk - 1, by omega⟩
          have z0 : (0 : Int) < ((sOf P).size : Int) := by rw [PZ]; omega
          have z16 : (16 : Int) ≤ ((sOf P).size : Int) := by rw [PZ]; omega
          have n16 : 16 ≤ (sOf P).size := by rw [PZ]; omega
          have GM : Hid (gk = m + 1) := hm
          subst hm
          have KB : Hid _ := TT.out
          have OP := TT.out.1.2.1
          have TK : Hid (A.ok 16 (P.take 16)) := A.ok_take OP
          have DK : Hid (A.ok (16 * m) (P.drop 16)) := A.ok_drop OP
          have IV : Hid (A.ok 16 iv) := TT.out.1.2.2
          have SX : Hid _ := rsixteen_fun (P.take 16) TK.out.2 TK.out.1
          have XR : Hid _ := rxor_fun iv (P.take 16) IV.out TK.out
          have EN : Hid _ := CU.out (A.addK iv (P.take 16))
          have EK : Hid (A.ok 16 (A.encS ws (A.addK iv (P.take 16)))) := EO.out _ (A.addK_ok IV.out TK.out)
          have AK : Hid (A.ok 16 (A.addK iv (P.take 16))) := A.addK_ok IV.out TK.out
          have NEXT : Hid ((out ++ A.encS ws (A.addK iv (P.take 16))) ++ A.sealB ws m (A.encS ws (A.addK iv (P.take 16))) (P.drop 16) = Qt) := by
            have := TT.out.1.1
            rw [A.sealB, ← List.append_assoc] at this
            exact this
          have FR : Hid ((sOf P).extract 0 16 = sOf (P.take 16)) := sOf_front P 16
          have BK : Hid ((sOf P).extract 16 (sOf P).size = sOf (P.drop 16)) := by rw [sOf_size]; exact sOf_back P 16
          obtain ⟨c, hcc⟩ : ∃ c, c = A.encS ws (A.addK iv (P.take 16)) := ⟨_, rfl⟩
          rw [← hcc] at EN EK NEXT
          generalize A.addK iv (P.take 16) = ax at *
          have OL : Hid (out.length + 16 * (m + 1) = 16 * K) := TT.out.2
          generalize P.take 16 = pt at *
          have TPs : Hid (sOf pt = sOf pt) := by show _ = _; rfl
          clear hcc OP KB TT PZ h0
          obtain ⟨TP, hTP⟩ : ∃ TP, TP = sOf P := ⟨_, rfl⟩
          rw [← hTP] at z0 z16 n16 FR BK ⊢
          clear hTP
          have RI : Hid (∀ W, Below wr.heap.size wr W → W.rangeAt w.heap.size 0 (iv.map b8)) := fun W hW => (X0.out.up hW X0.out.lt).all
          have DU : Hid (∀ W, Below wr.heap.size wr W → Below w.heap.size w W) := fun W hW => X1.out.trans (hW.mono X1.out.size)
          have II : Hid _ := info_n info_a16 iv IV.out.1
          go_wp2_with fail
          refine wp_region_monoSE 7 [MP.eq (.pointer (some ⟨kc, 0, none⟩)), MP.eq (aB iv), MP.eq (.string TP), MP.eq (.string (sOf pt)), MP.eq (aB pt), MP.eq (aB ax), MP.eq (aB c)] (by kernel_rfl) (by kernel_rfl) rfl (by decide) (by kernel_rfl) ?_
          apply Exists.intro
          refine ⟨fun vals => ?_, ?_, fun vals4 w4 hb4 hF hO => ?_⟩
          · simp only [putsV, dstL, List.length_cons, List.length_nil, Nat.zero_add, Nat.reduceAdd, List.getElem?_cons_zero, List.getElem?_cons_succ, Option.bind_some, Act.put, List.setIfInBounds_toArray, List.set_cons_succ, List.set_cons_zero]
            rfl
          · refine ⟨?_, ?_, ?_, ?_, ?_, ?_, ?_, trivial⟩
            · intro vals W hW hw hd
              try simp [Region.binds] at hd
              refine ⟨by first | rfl | simp [Region.wanted, yielded, hd], ?_⟩
              simp [go_sem, hd]
              exact Below.refl _ _
            · intro vals W hW hw hd
              try simp [Region.binds] at hd
              refine ⟨by first | rfl | simp [Region.wanted, yielded, hd], ?_⟩
              exact yieldsA_load 23 (.tmp 4) rfl w.heap.size 0 rfl (iv.map b8) _ (RI.out W hW.out) u_a16 rfl II.out rfl
            · intro vals W hW hw hd
              try simp [Region.binds] at hd
              refine ⟨by first | rfl | simp [Region.wanted, yielded, hd], ?_⟩
              simp [go_sem, hd]
              exact Below.refl _ _
            · intro vals W hW hw hd
              try simp [Region.binds] at hd
              refine ⟨by first | rfl | simp [Region.wanted, yielded, hd], ?_⟩
              simp [go_sem, hd, n16, z16, FR.out]
              exact Below.refl _ _
            · intro vals W hW hw hd
              try simp [Region.binds] at hd
              refine ⟨by first | rfl | simp [Region.wanted, yielded, hd], ?_⟩
              simp [go_sem, hd]
              exact (SX.out W).mono fun e w' ⟨he, hb⟩ => ⟨_, he, rfl, hb⟩
            · intro vals W hW hw hd
              try simp [Region.binds] at hd
              refine ⟨by first | rfl | simp [Region.wanted, yielded, hd], ?_⟩
              simp [go_sem, hd]
              exact (XR.out W).mono fun e w' ⟨he, hb⟩ => ⟨_, he, rfl, hb⟩
            · intro vals W hW hw hd
              try simp [Region.binds] at hd
              refine ⟨by first | rfl | simp [Region.wanted, yielded, hd], ?_⟩
              simp [go_sem, hd]
              exact (EN.out W AK.out (DU.out W hW.out)).mono fun e w' ⟨he, hb⟩ => ⟨_, he, rfl, hb⟩
          obtain ⟨f0, f1, f2, f3, f4, f5, f6, _⟩ := hF
          simp only [MP.eq_p] at f0 f1 f2 f3 f4 f5 f6
          rw [f0, f1, f2, f3, f4, f5, f6]
          simp only [List.drop_succ_cons, List.drop_zero]
          have Y4 : Hid (Blk w4 w.heap.size (iv.map b8)) := X0.out.up hb4.out X0.out.lt
          have D4 : Hid (Below w.heap.size w w4) := DU.out w4 hb4.out
          have T4 : Hid (w4.there w.heap.size 0 (c.map b8).length) := Y4.out.there (by rw [List.length_map, List.length_map, EK.out.1, IV.out.1]; omega)
          have IC : Hid _ := info_n info_a16 c EK.out.1
          clear f0 f1 f2 f3 f4 f5 f6 hb4 hO X0 X1 RI DU SX XR EN
          have SD : Hid (∀ W, _) := fun W => slice_all u_a16 info_b1 (by decide) w.heap.size 0 W
          go_wp2_with (refine wp_store_eq rfl 23 (.tmp 4) (.tmp 32) rfl w.heap.size 0 (c.map b8) rfl rfl T4.out IC.out (one_b8 _) ?_)
          intro w5 hw5
          have Y5 : Hid (Blk w5 w.heap.size (c.map b8)) := by rw [hw5.out]; exact Y4.out.put (by rw [List.length_map, List.length_map, EK.out.1, IV.out.1])
          have D5 : Hid (Below w.heap.size w w5) := by rw [hw5.out]; exact below_setCells _ _ _ D4.out (Nat.le_refl _)
          have BY : Hid (By w5 (.slice (some ⟨w.heap.size, 0, none⟩) 16 16) c) := By.of_blk Y5.out EK.out.1
          have S5 := SD.out w5
          have oa : (sOf out).size = out.length := sOf_size out
          have ob : (sOf c).size = 16 := by rw [sOf_size]; exact EK.out.1
          have OA : Hid (sOf out ++ sOf c = sOf (out ++ c)) := sOf_append out c
          have KL' := KL.out
          have OL' := OL.out
          have hlim : ¬ 9223372036854775807 < out.length + 16 := by omega
          generalize sOf out = uo at *
          clear hw5 T4 Y4 D4 SD IC II
          go_wp2_with (refine wp_conv rfl (.tmp 34) rfl _ c rfl BY.out ?_)
          rw [BK.out, OA.out]
          go_roundg m
          case measure => omega
          case rel => exact ⟨c, P.drop 16, out ++ c, rfl, rfl, ⟨⟨NEXT.out, DK.out, EK.out⟩, by rw [List.length_append, EK.out.1]; have := OL.out; omega⟩, Y5, D5⟩
end Go.Proofs.Ytmfbdacalenfdaa
