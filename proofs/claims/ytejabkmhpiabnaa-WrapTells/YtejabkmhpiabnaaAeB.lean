/- The contracts of aes.eachByte, aes.shift and aes.eachColumn: blocks that are put through a function. -/
import Derived.Test.YtejabkmhpiabnaaAeC
import Derived.Test.YtejabkmhpiabnaaGrp11
import Derived.Test.YtejabkmhpiabnaaGrp24
import Derived.Test.YtejabkmhpiabnaaUpA
import Derived.Laws.IdiomCopy
namespace Go.Proofs.Ytejabkmhpiabnaa
open Go.RowKit
set_option linter.unusedSimpArgs false
attribute [local go_sem] YieldsP execOp
attribute [local simp] MP.eq_p
abbrev fnV (F : Nat) : Value := .func (.func F) #[] #[]
theorem cf_of {F : Nat} {fn : Func} (h : Try.prog.funcs[F]? = some fn) (hn : (fn.name == "runtime.NumGoroutine") = false) (hb : fn.body.isNone = false) (args : Array Value) (W : World) : (callFunc F args).run Try.prog W = .ok (.enter F args) W := by
  have hn' : ¬ fn.name = "runtime.NumGoroutine" := by simpa using hn
  have hb' : ¬ fn.body = none := fun h => by rw [h] at hb; cases hb
  simp [callFunc, h, hn', hb']
theorem cf_sub (args : Array Value) (W : World) : (callFunc 40 args).run Try.prog W = .ok (.enter 40 args) W := cf_of (fn := Try.f40) (by kernel_rfl) (by decide) (by kernel_rfl) args W
set_option maxRecDepth 20000 in
set_option maxHeartbeats 1000000 in
theorem aeach_fun (F : Nat) (cf : ∀ (args : Array Value) (W : World), (callFunc F args).run Try.prog W = .ok (.enter F args) W) (g : Nat → Nat) (hF : ∀ x, x < 256 → ∀ W, Calls Try.prog F #[b8 x] W fun e w' => e = .returned (b8 (g x)) ∧ Below W.heap.size W w') (b : List Nat) (hb : A.ok 16 b) (w : World) :
    Calls Try.prog 39 #[aB b, fnV F] w fun e w' => e = .returned (aB (A.by_ 16 fun i => g (b.getD i 0))) ∧ Below w.heap.size w w' := by
  obtain ⟨old, hold⟩ : ∃ old : Nat → Nat, old = fun p => b.getD p 0 := ⟨_, rfl⟩
  obtain ⟨new, hnew⟩ : ∃ new : Nat → Nat, new = fun p => g (b.getD p 0) := ⟨_, rfl⟩
  have GS : Hid (∀ i W, Calls Try.prog F #[b8 (old i)] W fun e w' => e = .returned (b8 (new i)) ∧ Below W.heap.size W w') := fun i W => by
    rw [hold, hnew]
    exact hF _ (hb.at i) W
  rw [← hnew]
  obtain ⟨x0, x1, x2⟩ := al2 w (b.map b8).toArray #[Value.int IntKind.u8 0, Value.int IntKind.u8 0, Value.int IntKind.u8 0, Value.int IntKind.u8 0, Value.int IntKind.u8 0, Value.int IntKind.u8 0, Value.int IntKind.u8 0, Value.int IntKind.u8 0, Value.int IntKind.u8 0, Value.int IntKind.u8 0, Value.int IntKind.u8 0, Value.int IntKind.u8 0, Value.int IntKind.u8 0, Value.int IntKind.u8 0, Value.int IntKind.u8 0, Value.int IntKind.u8 0] 57 57
  rw [show (b.map b8).toArray.toList = (A.midN 16 old new 0).map b8 by rw [A.midN_zero, hold, A.by_self hb.1]] at x0
  have X0 : Hid (Blk _ w.heap.size ((A.midN 16 old new 0).map b8)) := x0
  have X1 : Hid (Blk _ (w.heap.size + 1) (zB 16)) := x1
  have X2 : Hid (Below w.heap.size w _) := x2
  clear x0 x1 x2 hb hold hnew hF
  go_enter Try.func39, Try.ntmps39
  go_wp2_with (simp only [zero_a16])
  generalize World.alloc (w.alloc _) _ = w1 at *
  go_loopw [6] (fun i wr => ∃ j : Nat, j ≤ 16 ∧ i = .int .i64 (j : Int) ∧ Hid (Blk wr w.heap.size ((A.midN 16 old new j).map b8)) ∧ Hid (Blk wr (w.heap.size + 1) (zB 16)) ∧ Hid (Below w.heap.size w wr)) (fun i _ => 16 - (intOf i).toNat)
  case atStart => exact ⟨0, by omega, rfl, X0, X1, X2⟩
  case round =>
    clear X0 X1 X2
    obtain ⟨j, hj, rfl, X0, X1, X2⟩ := hrel
    by_cases hj1 : j < 16
    · have j1 : (j : Int) < 16 := by omega
      have wj : IntKind.i64.wrap ((j : Int) + 1) = (j : Int) + 1 := by rw [IntKind.wrap_i64]; omega
      have J1 : Hid (j < 16) := hj1
      have cj := X0.out.byte j (by rw [A.midN_length]; exact hj1)
      rw [A.midN_at old new hj1 (Nat.le_refl _)] at cj
      have US : Hid (∀ W, Blk W w.heap.size ((A.midN 16 old new j).map b8) → Blk (W.setCell ⟨w.heap.size, j, none⟩ (b8 (new j))) w.heap.size ((A.midN 16 old new (j + 1)).map b8)) := fun W h => by
        rw [← A.midN_set old new J1.out]
        exact h.setB _ _ (by rw [A.midN_length]; exact J1.out)
      have SJ : Hid _ := GS.out j
      have OC : Hid (∀ W, Blk W w.heap.size ((A.midN 16 old new j).map b8) → W.cell? ⟨w.heap.size, j, none⟩ = some (b8 (old j))) := fun W h => by
        have := h.byte j (by rw [A.midN_length]; exact J1.out)
        rwa [A.midN_at old new J1.out (Nat.le_refl _)] at this
      generalize old j = oj at *
      generalize new j = nj at *
      clear hj hj1
      go_wp2_with fail
      refine Calls.mono (SJ.out wr) ?_
      rintro e w2 ⟨rfl, hb2⟩
      have Y0 : Hid (Blk w2 w.heap.size ((A.midN 16 old new j).map b8)) := X0.out.up hb2 X0.out.lt
      have Y1 : Hid (Blk w2 (w.heap.size + 1) (zB 16)) := X1.out.up hb2 X1.out.lt
      have Y2 : Hid (Below w.heap.size w w2) := X2.out.trans (hb2.mono X2.out.size)
      have c2 := OC.out w2 Y0.out
      have z2 := Y0.out.fz j
      have V0 : Hid _ := US.out w2 Y0.out
      have V1 : Hid _ := Y1.out.apart1 (k' := w.heap.size) (o := j) (v := b8 nj) (by omega)
      have V2 : Hid _ := Y2.out.setCell (p := ⟨w.heap.size, j, none⟩) (Nat.le_refl _) (b8 nj)
      clear hb2 X0 X1 X2 cj Y0 Y1 Y2 US OC SJ
      go_wp2_with fail
      go_roundw
      case rel => exact ⟨j + 1, J1.out, by first | rfl | go_num, V0, V1, V2⟩
      case measure => have := J1.out; simp [intOf]; omega
    · obtain rfl : j = 16 := by omega
      rw [A.midN_all] at X0
      have LL : Hid ((A.by_ 16 new).length = 16) := A.by_length _ _
      obtain ⟨l, hl⟩ : ∃ l, l = A.by_ 16 new := ⟨_, rfl⟩
      rw [← hl] at X0 LL
      have HE : Hid (l = A.by_ 16 new) := hl
      clear hl hj hj1
      have T0 : Hid (wr.there (w.heap.size + 1) 0 (l.map b8).length) := X1.out.there (by rw [List.length_map, LL.out, zB_length]; omega)
      go_wp2_with (first | refine wpList_load_mid rfl 57 (.tmp 2) rfl w.heap.size 0 rfl (l.map b8) _ X0.out.all u_a16 rfl (info_n info_a16 l LL.out) ?_ | refine wp_store_eq rfl 57 (.tmp 4) (.tmp 17) rfl (w.heap.size + 1) 0 (l.map b8) rfl rfl T0.out (info_n info_a16 l LL.out) (one_b8 _) ?_)
      intro w9 hw9
      go_wp2_with fail
      refine bodyPost_ret (v := aB l) ?_ rfl ⟨by rw [HE.out], ?_⟩
      · rw [hw9.out]
        exact results_cell (b := (w.heap.size + 1)) rfl rfl (World.rangeAt_setCells_same _ _ _ _ T0.out) u_a16 rfl (info_n info_a16 l LL.out)
      · rw [hw9.out]
        exact below_setCells _ _ _ X2.out (by omega)
/-- Where a byte comes from that is shifted so far. -/
def A.from_ (far p : Nat) : Nat := 4 * ((p / 4 + far * (p % 4)) % 4) + p % 4
theorem A.from_turn : ∀ p < 16, A.from_ 1 p = A.turn p ∧ A.from_ 3 p = A.unturn p := by decide
set_option maxRecDepth 20000 in
set_option maxHeartbeats 1000000 in
theorem ashift_fun (far : Nat) (hf : far ≤ 3) (b : List Nat) (hb : A.ok 16 b) (w : World) :
    Calls Try.prog 38 #[aB b, .int .i64 (far : Int)] w fun e w' => e = .returned (aB (A.by_ 16 fun p => b.getD (A.from_ far p) 0)) ∧ Below w.heap.size w w' := by
  obtain ⟨new, hnew⟩ : ∃ new : Nat → Nat, new = fun p => b.getD (A.from_ far p) 0 := ⟨_, rfl⟩
  obtain ⟨old, hold⟩ : ∃ old : Nat → Nat, old = fun _ => 0 := ⟨_, rfl⟩
  have NW : Hid (∀ j k, j < 4 → k < 4 → b.getD (4 * ((j + far * k) % 4) + k) 0 = new (4 * j + k)) := fun j k hj hk => by
    rw [hnew]
    show _ = b.getD (A.from_ far (4 * j + k)) 0
    unfold A.from_
    rw [show (4 * j + k) / 4 = j by omega, show (4 * j + k) % 4 = k by omega]
  rw [← hnew]
  have BL : Hid (b.length = 16) := hb.1
  have FL : Hid (far ≤ 3) := hf
  obtain ⟨xb, x1, x0, x2⟩ := al3 w (b.map b8).toArray #[Value.int IntKind.u8 0, Value.int IntKind.u8 0, Value.int IntKind.u8 0, Value.int IntKind.u8 0, Value.int IntKind.u8 0, Value.int IntKind.u8 0, Value.int IntKind.u8 0, Value.int IntKind.u8 0, Value.int IntKind.u8 0, Value.int IntKind.u8 0, Value.int IntKind.u8 0, Value.int IntKind.u8 0, Value.int IntKind.u8 0, Value.int IntKind.u8 0, Value.int IntKind.u8 0, Value.int IntKind.u8 0] #[Value.int IntKind.u8 0, Value.int IntKind.u8 0, Value.int IntKind.u8 0, Value.int IntKind.u8 0, Value.int IntKind.u8 0, Value.int IntKind.u8 0, Value.int IntKind.u8 0, Value.int IntKind.u8 0, Value.int IntKind.u8 0, Value.int IntKind.u8 0, Value.int IntKind.u8 0, Value.int IntKind.u8 0, Value.int IntKind.u8 0, Value.int IntKind.u8 0, Value.int IntKind.u8 0, Value.int IntKind.u8 0] 57 57 57
  rw [show (#[Value.int IntKind.u8 0, Value.int IntKind.u8 0, Value.int IntKind.u8 0, Value.int IntKind.u8 0, Value.int IntKind.u8 0, Value.int IntKind.u8 0, Value.int IntKind.u8 0, Value.int IntKind.u8 0, Value.int IntKind.u8 0, Value.int IntKind.u8 0, Value.int IntKind.u8 0, Value.int IntKind.u8 0, Value.int IntKind.u8 0, Value.int IntKind.u8 0, Value.int IntKind.u8 0, Value.int IntKind.u8 0] : Array Value).toList = (A.midN 16 old new (4 * 0)).map b8 by rw [Nat.mul_zero, A.midN_zero, hold]; rfl] at x0
  have XB : Hid (Blk _ w.heap.size (b.map b8)) := xb
  have X1 : Hid (Blk _ (w.heap.size + 1) (zB 16)) := x1
  have X0 : Hid (Blk _ (w.heap.size + 1 + 1) ((A.midN 16 old new (4 * 0)).map b8)) := x0
  have X2 : Hid (Below w.heap.size w _) := x2
  clear x0 x1 x2 xb hb hold hnew hf
  go_enter Try.func38, Try.ntmps38
  go_wp2_with (simp only [zero_a16])
  generalize World.alloc (World.alloc (w.alloc _) _) _ = w1 at *
  go_loopw [8] (fun i wr => ∃ j : Nat, j ≤ 4 ∧ i = .int .i64 (j : Int) ∧ Hid (Blk wr w.heap.size (b.map b8)) ∧ Hid (Blk wr (w.heap.size + 1) (zB 16)) ∧ Hid (Blk wr (w.heap.size + 1 + 1) ((A.midN 16 old new (4 * j)).map b8)) ∧ Hid (Below w.heap.size w wr)) (fun i _ => 4 - (intOf i).toNat)
  case atStart => exact ⟨0, by omega, rfl, XB, X1, X0, X2⟩
  case round =>
    clear XB X0 X1 X2
    obtain ⟨j, hj, rfl, XB, X1, X0, X2⟩ := hrel
    by_cases hj1 : j < 4
    · have j1 : (j : Int) < 4 := by omega
      have wj : IntKind.i64.wrap ((j : Int) + 1) = (j : Int) + 1 := by rw [IntKind.wrap_i64]; omega
      have J1 : Hid (j < 4) := hj1
      have Y0 : Hid (Blk wr (w.heap.size + 1 + 1) ((A.midN 16 old new (4 * j + 0)).map b8)) := X0
      clear X0 hj hj1
      go_wp2_with fail
      go_loopw [11] (fun i wr => ∃ k : Nat, k ≤ 4 ∧ i = .int .i64 (k : Int) ∧ Hid (Blk wr w.heap.size (b.map b8)) ∧ Hid (Blk wr (w.heap.size + 1) (zB 16)) ∧ Hid (Blk wr (w.heap.size + 1 + 1) ((A.midN 16 old new (4 * j + k)).map b8)) ∧ Hid (Below w.heap.size w wr)) (fun i _ => 4 - (intOf i).toNat)
      case atStart => exact ⟨0, by omega, rfl, XB, X1, Y0, X2⟩
      case round =>
        clear XB Y0 X1 X2
        obtain ⟨k, hk, rfl, XB, X1, X0, X2⟩ := hrel
        by_cases hk1 : k < 4
        · have k1 : (k : Int) < 4 := by omega
          have wk : IntKind.i64.wrap ((k : Int) + 1) = (k : Int) + 1 := by rw [IntKind.wrap_i64]; omega
          have FL' := FL.out
          have J1' := J1.out
          obtain ⟨s, hs⟩ : ∃ s, s = far * k := ⟨_, rfl⟩
          have s9 : s ≤ 9 := by rw [hs]; exact Nat.le_trans (Nat.mul_le_mul FL' (show k ≤ 3 by omega)) (by decide)
          have fk : (far : Int) * (k : Int) = (s : Int) := by rw [hs]; rfl
          obtain ⟨m, hm⟩ : ∃ m, m = (j + s) % 4 := ⟨_, rfl⟩
          have w1' : IntKind.i64.wrap (4 * (j : Int)) = 4 * (j : Int) := by rw [IntKind.wrap_i64]; omega
          obtain ⟨p, hp⟩ : ∃ p, p = 4 * j + k := ⟨_, rfl⟩
          obtain ⟨q, hq⟩ : ∃ q, q = 4 * m + k := ⟨_, rfl⟩
          have w2' : IntKind.i64.wrap (4 * (j : Int) + (k : Int)) = (p : Int) := by rw [IntKind.wrap_i64]; omega
          have w3' : IntKind.i64.wrap ((far : Int) * (k : Int)) = (s : Int) := by rw [fk, IntKind.wrap_i64]; omega
          have w4' : IntKind.i64.wrap ((j : Int) + (s : Int)) = (j : Int) + (s : Int) := by rw [IntKind.wrap_i64]; omega
          have m1 : ((j : Int) + (s : Int)).tmod 4 = (m : Int) := by rw [Int.tmod_eq_emod_of_nonneg (by omega)]; omega
          have m2 : ((j : Int) + (s : Int)) % 4 = (m : Int) := by omega
          have w5' : IntKind.i64.wrap (4 * (m : Int)) = 4 * (m : Int) := by rw [IntKind.wrap_i64]; omega
          have w6' : IntKind.i64.wrap (4 * (m : Int) + (k : Int)) = (q : Int) := by rw [IntKind.wrap_i64]; omega
          have p16 : (p : Int) < 16 := by omega
          have q16 : (q : Int) < 16 := by omega
          have P16 : p < 16 := by omega
          have nv := NW.out j k J1' hk1
          rw [← hs, ← hm, ← hp, ← hq] at nv
          have cq := XB.out.byte q (by rw [BL.out]; omega)
          rw [nv] at cq
          rw [← hp] at X0
          have cp := X0.out.byte p (by rw [A.midN_length]; exact P16)
          rw [A.midN_at old new P16 (Nat.le_refl _)] at cp
          have zp := X0.out.fz p
          have V0 : Hid (Blk (wr.setCell ⟨w.heap.size + 1 + 1, p, none⟩ (b8 (new p))) (w.heap.size + 1 + 1) ((A.midN 16 old new (p + 1)).map b8)) := by
            rw [← A.midN_set old new P16]
            exact X0.out.setB _ _ (by rw [A.midN_length]; exact P16)
          have VB : Hid _ := XB.out.apart1 (k' := w.heap.size + 1 + 1) (o := p) (v := b8 (new p)) (by omega)
          have V1 : Hid _ := X1.out.apart1 (k' := w.heap.size + 1 + 1) (o := p) (v := b8 (new p)) (by omega)
          have V2 : Hid _ := X2.out.setCell (p := ⟨w.heap.size + 1 + 1, p, none⟩) (by show w.heap.size ≤ w.heap.size + 1 + 1; omega) (b8 (new p))
          have HP : Hid (p = 4 * j + k) := hp
          have K4 : Hid (k < 4) := hk1
          generalize new p = np at *
          generalize old p = op at *
          clear hs s9 hm hp hq nv XB X0 X1 X2 hk hk1 FL' J1' fk P16
          go_wp2_with fail
          go_roundw
          case rel => exact ⟨k + 1, K4.out, by first | rfl | go_num, VB, V1, by rw [← Nat.add_assoc, ← HP.out]; exact V0, V2⟩
          case measure => have := K4.out; simp [intOf]; omega
        · obtain rfl : k = 4 := by omega
          clear hk hk1
          go_wp2_with fail
          go_roundw
          case rel => exact ⟨j + 1, J1.out, by first | rfl | go_num, XB, X1, by rw [show 4 * (j + 1) = 4 * j + 4 by omega]; exact X0, X2⟩
          case measure => have := J1.out; simp [intOf]; omega
    · obtain rfl : j = 4 := by omega
      rw [show 4 * 4 = 16 from rfl] at X0
      rw [A.midN_all] at X0
      have LL : Hid ((A.by_ 16 new).length = 16) := A.by_length _ _
      obtain ⟨l, hl⟩ : ∃ l, l = A.by_ 16 new := ⟨_, rfl⟩
      rw [← hl] at X0 LL
      have HE : Hid (l = A.by_ 16 new) := hl
      clear hl hj hj1
      have T0 : Hid (wr.there (w.heap.size + 1) 0 (l.map b8).length) := X1.out.there (by rw [List.length_map, LL.out, zB_length]; omega)
      go_wp2_with (first | refine wpList_load_mid rfl 57 (.tmp 5) rfl (w.heap.size + 1 + 1) 0 rfl (l.map b8) _ X0.out.all u_a16 rfl (info_n info_a16 l LL.out) ?_ | refine wp_store_eq rfl 57 (.tmp 4) (.tmp 32) rfl (w.heap.size + 1) 0 (l.map b8) rfl rfl T0.out (info_n info_a16 l LL.out) (one_b8 _) ?_)
      intro w9 hw9
      go_wp2_with fail
      refine bodyPost_ret (v := aB l) ?_ rfl ⟨by rw [HE.out], ?_⟩
      · rw [hw9.out]
        exact results_cell (b := (w.heap.size + 1)) rfl rfl (World.rangeAt_setCells_same _ _ _ _ T0.out) u_a16 rfl (info_n info_a16 l LL.out)
      · rw [hw9.out]
        exact below_setCells _ _ _ X2.out (by omega)
theorem cf_unsub (args : Array Value) (W : World) : (callFunc 49 args).run Try.prog W = .ok (.enter 49 args) W := cf_of (fn := Try.f49) (by kernel_rfl) (by decide) (by kernel_rfl) args W
theorem asubAll_fun (b : List Nat) (hb : A.ok 16 b) (w : World) : Calls Try.prog 39 #[aB b, fnV 40] w fun e w' => e = .returned (aB (A.subAll b)) ∧ Below w.heap.size w w' :=
  aeach_fun 40 cf_sub G.sub (fun x hx W => gfIs.sub x hx W trivial) b hb w
theorem aunsubAll_fun (b : List Nat) (hb : A.ok 16 b) (w : World) : Calls Try.prog 39 #[aB b, fnV 49] w fun e w' => e = .returned (aB (A.unsubAll b)) ∧ Below w.heap.size w w' :=
  aeach_fun 49 cf_unsub G.unsub (fun x hx W => gfIs.unsub x hx W trivial) b hb w
theorem ashift1_fun (b : List Nat) (hb : A.ok 16 b) (w : World) : Calls Try.prog 38 #[aB b, .int .i64 1] w fun e w' => e = .returned (aB (A.shift b)) ∧ Below w.heap.size w w' := by
  have h := ashift_fun 1 (by decide) b hb w
  rw [show (A.by_ 16 fun p => b.getD (A.from_ 1 p) 0) = A.shift b from A.by_congr fun p hp => by rw [(A.from_turn p hp).1]] at h
  exact h
theorem ashift3_fun (b : List Nat) (hb : A.ok 16 b) (w : World) : Calls Try.prog 38 #[aB b, .int .i64 3] w fun e w' => e = .returned (aB (A.unshift b)) ∧ Below w.heap.size w w' := by
  have h := ashift_fun 3 (by decide) b hb w
  rw [show (A.by_ 16 fun p => b.getD (A.from_ 3 p) 0) = A.unshift b from A.by_congr fun p hp => by rw [(A.from_turn p hp).2]] at h
  exact h
end Go.Proofs.Ytejabkmhpiabnaa
