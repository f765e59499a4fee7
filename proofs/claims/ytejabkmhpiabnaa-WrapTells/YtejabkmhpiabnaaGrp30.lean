/- Texts that were joined: UpD, WaE. -/
import Derived.Test.YtejabkmhpiabnaaGrp0
import Derived.OrdersHeld
import Derived.Test.YtejabkmhpiabnaaGrp28
import Derived.Test.YtejabkmhpiabnaaGrp29
/- A drawn region that reads two rows whole and stores them whole elsewhere (as in 'return one, two'). Over any program. -/
namespace Go.Proofs.Ytejabkmhpiabnaa
open Go.RowKit
section
variable {P : Program}
def ldB (ops : Array Oper) : Bool := Region.noSelect ops && (Region.free .any ops (Array.replicate 4 false) 0 && (Region.ready .any ops (Array.replicate 4 false)).contains 0) && (Region.free .any ops ((Array.replicate 4 false).setIfInBounds 0 true) 1 && (Region.ready .any ops ((Array.replicate 4 false).setIfInBounds 0 true)).contains 1) &&
  (Region.ready .any ops (((Array.replicate 4 false).setIfInBounds 0 true).setIfInBounds 1 true) == [2]) && (Region.ready .any ops ((((Array.replicate 4 false).setIfInBounds 0 true).setIfInBounds 1 true).setIfInBounds 2 true) == [3]) && (Region.ready .any ops (((((Array.replicate 4 false).setIfInBounds 0 true).setIfInBounds 1 true).setIfInBounds 2 true).setIfInBounds 3 true) == [])
theorem wpOp_store {ops : Array Oper} {Q : Exit → Act → World → Prop} {i : Nat} {op : Oper} {a : Act} {w : World} {K : Act → World → Prop} (hi : ops[i]? = some op) (hg : op.guard = none) (ty : TypeId) (x y : Operand) (ho : op.op = .store ty x y)
    (b : Nat) (cs : List Value) (hx : a.eval x = .pointer (some ⟨b, 0, none⟩)) (hy : a.eval y = .agg cs.toArray) (ht : w.there b 0 cs.length) (hz : (P.info? ty).map (·.size) = some cs.length) (h1 : ∀ v ∈ cs, v.oneCell' = true)
    (h : K (a.put op.dst undef) (w.setCells b 0 cs)) : wpOp P ops Q i K a w := by
  unfold wpOp
  simp only [hi]
  rw [if_pos (by simp [Region.wanted, hg])]
  exact .inl (wp_store_mid ty x y ho b 0 cs.toArray hx hy (by rw [List.size_toArray]; exact ht) (by rw [List.size_toArray]; exact hz) (all_oneCell_toArray h1) h)
theorem wp_region_ld2 {id : Nat} {Q : Exit → Act → World → Prop} {a : Act} {w : World} {o0 o1 o2 o3 : Oper} (ty : TypeId) (x0 x1 y2 z2 y3 z3 : Operand) (b0 b1 b2 b3 : Nat) (c0 c1 z : List Value) (d : TypeDesc)
    (hm : P.follows .mixedOrders = true) (hB : ldB #[o0, o1, o2, o3] = true) (hQp : ∀ c a d v w, Q (.panic c) (a.put d v) w → Q (.panic c) a w)
    (g0 : o0.guard = none) (g1 : o1.guard = none) (g2 : o2.guard = none) (g3 : o3.guard = none) (e0 : o0.op = .load ty x0) (e1 : o1.op = .load ty x1) (e2 : o2.op = .store ty y2 z2) (e3 : o3.op = .store ty y3 z3)
    (hx0 : a.eval x0 = .pointer (some ⟨b0, 0, none⟩)) (hx1 : (a.put o0.dst (.agg c0.toArray)).eval x1 = .pointer (some ⟨b1, 0, none⟩))
    (hy2 : ((a.put o0.dst (.agg c0.toArray)).put o1.dst (.agg c1.toArray)).eval y2 = .pointer (some ⟨b2, 0, none⟩)) (hz2 : ((a.put o0.dst (.agg c0.toArray)).put o1.dst (.agg c1.toArray)).eval z2 = .agg c0.toArray)
    (hy3 : (((a.put o0.dst (.agg c0.toArray)).put o1.dst (.agg c1.toArray)).put o2.dst undef).eval y3 = .pointer (some ⟨b3, 0, none⟩)) (hz3 : (((a.put o0.dst (.agg c0.toArray)).put o1.dst (.agg c1.toArray)).put o2.dst undef).eval z3 = .agg c1.toArray)
    (k0 : Blk w b0 c0) (k1 : Blk w b1 c1) (k2 : Blk w b2 z) (k3 : Blk w b3 z) (l0 : c0.length = z.length) (l1 : c1.length = z.length) (hne : b0 ≠ b2 ∧ b0 ≠ b3 ∧ b1 ≠ b2 ∧ b1 ≠ b3 ∧ b2 ≠ b3)
    (hu : P.underlying ty = some d) (hd : d.isRow = true) (hi : (P.info? ty).map (·.size) = some z.length) (s0 : ∀ v ∈ c0, v.oneCell' = true) (s1 : ∀ v ∈ c1, v.oneCell' = true)
    (h : ∀ w2, Hid (w2 = (w.drew.setCells b2 0 c0).setCells b3 0 c1) → wpList P #[o0, o1, o2, o3] Q [] ((((a.put o0.dst (.agg c0.toArray)).put o1.dst (.agg c1.toArray)).put o2.dst undef).put o3.dst undef) w2) : (Code.region id #[o0, o1, o2, o3] true).wp P Q a w := by
  simp only [ldB, Bool.and_eq_true, beq_iff_eq] at hB
  obtain ⟨⟨⟨⟨⟨hs, hf0, hr0⟩, hf1, hr1⟩, hr2⟩, hr3⟩, hr4⟩ := hB
  have D : Below w.heap.size w w.drew := (Below.refl _ _).drew
  have k0 := k0.up D k0.lt
  have k1 := k1.up D k1.lt
  have k2 := k2.up D k2.lt
  have k3 := k3.up D k3.lt
  let S : World → Prop := fun W => W.rangeAt b0 0 c0 ∧ W.rangeAt b1 0 c1
  have i0 : (P.info? ty).map (·.size) = some c0.length := by rw [l0]; exact hi
  have i1 : (P.info? ty).map (·.size) = some c1.length := by rw [l1]; exact hi
  refine wp_region_held (S := S) hm ?_
  refine wpAnyH_take (i := 0) (oi := o0) (v := .agg c0.toArray) (fuel := 3) rfl hs hf0 hr0 (fun c a w hh => hQp c a _ _ w hh) (yieldsIf_load_mid (by simp [Region.wanted, g0]) ty x0 e0 b0 0 hx0 c0 d (fun W hW => hW.1) hu hd i0) ⟨k0.all, k1.all⟩ ?_
  refine wpAnyH_take (i := 1) (oi := o1) (v := .agg c1.toArray) (fuel := 2) rfl hs hf1 hr1 (fun c a w hh => hQp c a _ _ w hh) (yieldsIf_load_mid (by simp [Region.wanted, g1]) ty x1 e1 b1 0 hx1 c1 d (fun W hW => hW.2) hu hd i1) ⟨k0.all, k1.all⟩ ?_
  refine wpAnyH_all hr2 (by simp) fun i hi2 => ?_
  obtain rfl : i = 2 := by simpa using hi2
  have m0 := k0.apart (k' := b2) (o := 0) (b := c0) hne.1
  have m1 := k1.apart (k' := b2) (o := 0) (b := c0) hne.2.2.1
  have m3 := k3.apart (k' := b2) (o := 0) (b := c0) (Ne.symm hne.2.2.2.2)
  refine wpOp_store (op := o2) rfl g2 ty y2 z2 e2 b2 c0 hy2 hz2 (k2.there (by omega)) i0 s0 ⟨⟨m0.all, m1.all⟩, ?_⟩
  refine wpAnyH_all hr3 (by simp) fun i hi3 => ?_
  obtain rfl : i = 3 := by simpa using hi3
  have n0 := m0.apart (k' := b3) (o := 0) (b := c1) hne.2.1
  have n1 := m1.apart (k' := b3) (o := 0) (b := c1) hne.2.2.2.1
  refine wpOp_store (op := o3) rfl g3 ty y3 z3 e3 b3 c1 hy3 hz3 (m3.there (by omega)) i1 s1 ⟨⟨n0.all, n1.all⟩, ?_⟩
  exact wpAnyH_done hr4 (h _ rfl) 0
end
end Go.Proofs.Ytejabkmhpiabnaa

/- The contracts of wrap.fits, wrap.marks, wrap.block and wrap.halves: eights of bytes. -/
namespace Go.Proofs.Ytejabkmhpiabnaa
open Go.RowKit
set_option linter.unusedSimpArgs false
attribute [local go_sem] YieldsP execOp
attribute [local simp] MP.eq_p
theorem u_e8 : Try.prog.underlying 51 = some (.array 8 5) := by kernel_rfl
theorem info_e8 : (Try.prog.info? 51).map (·.size) = some 8 := by kernel_rfl
theorem zero_e8 (w : World) : (zeroValue 51).run Try.prog w = .ok (.agg (zB 8).toArray) w := zero_of (by kernel_rfl) w
set_option maxRecDepth 20000 in
set_option maxHeartbeats 1000000 in
theorem wfits_yes (n : Nat) (h : A.canW n) (w : World) : Calls Try.prog 20 #[.int .i64 (n : Int)] w fun e w' => e = .returned (.bool true) ∧ w' = w := by
  unfold A.canW at h
  have m1 : (n : Int).tmod 8 = 0 := by rw [Int.tmod_eq_emod_of_nonneg (by omega)]; omega
  have m2 : (n : Int) % 8 = 0 := by omega
  have i1 : (16 : Int) ≤ (n : Int) := by omega
  have i2 : (n : Int) ≤ 64 := by omega
  clear h
  go_enter Try.func20, Try.ntmps20
  go_wp2_with fail
  go_ret
  exact ⟨rfl, rfl⟩
set_option maxRecDepth 20000 in
set_option maxHeartbeats 1000000 in
theorem wfits_no (z : Int) (h : ¬ (z.tmod 8 = 0 ∧ 16 ≤ z ∧ z ≤ 64)) (w : World) : Calls Try.prog 20 #[.int .i64 z] w fun e w' => e = .returned (.bool false) ∧ w' = w := by
  obtain ⟨r, hr⟩ : ∃ r, r = z.tmod 8 := ⟨_, rfl⟩
  have m1 : z.tmod 8 = r := hr.symm
  by_cases h0 : r = 0
  · have h2 : ¬ (16 ≤ z ∧ z ≤ 64) := fun hh => h ⟨m1.trans h0, hh⟩
    subst h0
    by_cases h1 : 16 ≤ z
    · have h3 : ¬ z ≤ 64 := fun hh => h2 ⟨h1, hh⟩
      have m2 : z % 8 = 0 := by rw [← Int.tmod_eq_emod_of_nonneg (by omega)]; exact m1
      clear h h2 hr
      go_enter Try.func20, Try.ntmps20
      go_wp2_with fail
      go_ret
      exact ⟨rfl, rfl⟩
    · clear h h2 hr
      go_enter Try.func20, Try.ntmps20
      go_wp2_with fail
      go_ret
      exact ⟨rfl, rfl⟩
  · have b0 : (r == 0) = false := by simp [h0]
    clear h hr
    go_enter Try.func20, Try.ntmps20
    go_wp2_with fail
    go_ret
    exact ⟨rfl, rfl⟩
set_option maxRecDepth 20000 in
set_option maxHeartbeats 1000000 in
theorem wmarks_fun (w : World) : Calls Try.prog 21 #[] w fun e w' => e = .returned (aB A.a6) ∧ Below w.heap.size w w' := by
  obtain ⟨new, hnew⟩ : ∃ new : Nat → Nat, new = fun _ => 166 := ⟨_, rfl⟩
  obtain ⟨s, hs⟩ : ∃ s, s = A.a6 := ⟨_, rfl⟩
  have HL : Hid (s.length = 8) := by rw [hs]; exact rfl
  have SE : Hid (A.midN 8 (fun _ => 0) new 8 = s) := by rw [A.midN_all, hnew, hs]; exact rfl
  have NG : Hid (∀ j, new j = 166) := fun j => by rw [hnew]
  rw [← hs]
  obtain ⟨x0, x1, x2⟩ := al2 w #[Value.int IntKind.u8 0, Value.int IntKind.u8 0, Value.int IntKind.u8 0, Value.int IntKind.u8 0, Value.int IntKind.u8 0, Value.int IntKind.u8 0, Value.int IntKind.u8 0, Value.int IntKind.u8 0] #[Value.int IntKind.u8 0, Value.int IntKind.u8 0, Value.int IntKind.u8 0, Value.int IntKind.u8 0, Value.int IntKind.u8 0, Value.int IntKind.u8 0, Value.int IntKind.u8 0, Value.int IntKind.u8 0] 51 51
  have e0 : (A.midN 8 (fun _ => 0) new 0).map b8 = (#[Value.int IntKind.u8 0, Value.int IntKind.u8 0, Value.int IntKind.u8 0, Value.int IntKind.u8 0, Value.int IntKind.u8 0, Value.int IntKind.u8 0, Value.int IntKind.u8 0, Value.int IntKind.u8 0] : Array Value).toList := by rw [A.midN_zero]; rfl
  have X0 : Hid (Blk _ w.heap.size (zB 8)) := x0
  rw [← e0] at x1
  have X1 : Hid (Blk _ (w.heap.size + 1) ((A.midN 8 (fun _ => 0) new 0).map b8)) := x1
  have X2 : Hid (Below w.heap.size w _) := x2
  clear x0 x1 x2 hnew hs e0
  go_enter Try.func21, Try.ntmps21
  go_wp2_with (first | simp only [zero_e8])
  generalize World.alloc (w.alloc _) _ = w1 at *
  go_loopw [3] (fun i wr => ∃ j : Nat, j ≤ 8 ∧ i = .int .i64 (j : Int) ∧ Hid (Blk wr w.heap.size (zB 8)) ∧ Hid (Blk wr (w.heap.size + 1) ((A.midN 8 (fun _ => 0) new j).map b8)) ∧ Hid (Below w.heap.size w wr)) (fun i _ => 8 - (intOf i).toNat)
  case atStart => exact ⟨0, by omega, rfl, X0, X1, X2⟩
  case round =>
    clear X0 X1 X2
    obtain ⟨j, hj, rfl, X0, X1, X2⟩ := hrel
    by_cases hj1 : j < 8
    · have j1 : (j : Int) < 8 := by omega
      have wj : IntKind.i64.wrap ((j : Int) + 1) = (j : Int) + 1 := by rw [IntKind.wrap_i64]; omega
      have c1 := X1.out.byte j (by rw [A.midN_length]; exact hj1)
      have z1 := X1.out.fz j
      have V1 : Hid (Blk (wr.setCell ⟨w.heap.size + 1, j, none⟩ (b8 166)) (w.heap.size + 1) ((A.midN 8 (fun _ => 0) new (j + 1)).map b8)) := by
        rw [← A.midN_set (fun _ => 0) new hj1, NG.out]
        exact X1.out.setB _ _ (by rw [A.midN_length]; exact hj1)
      have V0 : Hid _ := X0.out.apart1 (k' := w.heap.size + 1) (o := j) (v := b8 166) (by omega)
      have V2 : Hid _ := X2.out.setCell (p := ⟨w.heap.size + 1, j, none⟩) (by show w.heap.size ≤ w.heap.size + 1; omega) (b8 166)
      have J1 : Hid (j < 8) := hj1
      clear hj hj1 X0 X1 X2
      go_wp2_with fail
      go_roundw
      case rel => exact ⟨j + 1, J1.out, by first | rfl | go_num, V0, V1, V2⟩
      case measure => have := J1.out; simp [intOf]; omega
    · obtain rfl : j = 8 := by omega
      rw [SE.out] at X1
      clear hj hj1
      have T0 : Hid (wr.there w.heap.size 0 (s.map b8).length) := X0.out.there (by rw [List.length_map, HL.out, zB_length]; omega)
      go_wp2_with (first | refine wpList_load_mid rfl 51 (.tmp 1) rfl (w.heap.size + 1) 0 rfl (s.map b8) _ X1.out.all u_e8 rfl (info_n info_e8 s HL.out) ?_ | refine wp_store_eq rfl 51 (.tmp 0) (.tmp 9) rfl w.heap.size 0 (s.map b8) rfl rfl T0.out (info_n info_e8 s HL.out) (one_b8 _) ?_)
      intro w9 hw9
      go_wp2_with fail
      refine bodyPost_ret (v := aB s) ?_ rfl ⟨rfl, ?_⟩
      · rw [hw9.out]
        exact results_cell (b := w.heap.size) rfl rfl (World.rangeAt_setCells_same _ _ _ _ T0.out) u_e8 rfl (info_n info_e8 s HL.out)
      · rw [hw9.out]
        exact below_setCells _ _ _ X2.out (Nat.le_refl _)
set_option maxRecDepth 20000 in
set_option maxHeartbeats 1000000 in
theorem wblock_fun (a b : List Nat) (ha : a.length = 8) (hb : b.length = 8) (w : World) : Calls Try.prog 25 #[aB a, aB b] w fun e w' => e = .returned (aB (a ++ b)) ∧ Below w.heap.size w w' := by
  obtain ⟨x0, x1, x2, x3, x4⟩ := al4 w (a.map b8).toArray (b.map b8).toArray #[Value.int IntKind.u8 0, Value.int IntKind.u8 0, Value.int IntKind.u8 0, Value.int IntKind.u8 0, Value.int IntKind.u8 0, Value.int IntKind.u8 0, Value.int IntKind.u8 0, Value.int IntKind.u8 0, Value.int IntKind.u8 0, Value.int IntKind.u8 0, Value.int IntKind.u8 0, Value.int IntKind.u8 0, Value.int IntKind.u8 0, Value.int IntKind.u8 0, Value.int IntKind.u8 0, Value.int IntKind.u8 0] #[Value.int IntKind.u8 0, Value.int IntKind.u8 0, Value.int IntKind.u8 0, Value.int IntKind.u8 0, Value.int IntKind.u8 0, Value.int IntKind.u8 0, Value.int IntKind.u8 0, Value.int IntKind.u8 0, Value.int IntKind.u8 0, Value.int IntKind.u8 0, Value.int IntKind.u8 0, Value.int IntKind.u8 0, Value.int IntKind.u8 0, Value.int IntKind.u8 0, Value.int IntKind.u8 0, Value.int IntKind.u8 0] 51 51 57 57
  have X0 : Hid (Blk _ w.heap.size (a.map b8)) := x0
  have X1 : Hid (Blk _ (w.heap.size + 1) (b.map b8)) := x1
  have X2 : Hid (Blk _ (w.heap.size + 1 + 1) (zB 16)) := x2
  have X3 : Hid (Blk _ (w.heap.size + 1 + 1 + 1) (zB 16)) := x3
  have X4 : Hid (Below w.heap.size w _) := x4
  have LA : Hid (a.length = 8) := ha
  have LB : Hid (b.length = 8) := hb
  obtain ⟨s, hs⟩ : ∃ s, s = a ++ b := ⟨_, rfl⟩
  have LS : Hid (s.length = 16) := by rw [hs, List.length_append, ha, hb]; exact rfl
  have HS : Hid (s = a ++ b) := hs
  rw [← hs]
  clear x0 x1 x2 x3 x4 ha hb hs
  go_enter Try.func25, Try.ntmps25
  go_wp2_with (simp only [zero_a16])
  generalize World.alloc (World.alloc (World.alloc (w.alloc _) _) _) _ = w1 at *
  refine wp_region_monoSE 2 [MP.eq (.slice (some ⟨w.heap.size + 1 + 1 + 1, 0, none⟩) 16 16), MP.eq (.slice (some ⟨w.heap.size, 0, none⟩) 8 8)] (by kernel_rfl) (by kernel_rfl) rfl (by decide) (by kernel_rfl) ?_
  apply Exists.intro
  refine ⟨fun vals => ?_, ?_, fun vals2 w2 hb2 hF hO => ?_⟩
  · simp only [putsV, dstL, List.length_cons, List.length_nil, Nat.zero_add, Nat.reduceAdd, List.getElem?_cons_zero, List.getElem?_cons_succ, Option.bind_some, Act.put, List.setIfInBounds_toArray, List.set_cons_succ, List.set_cons_zero]
    rfl
  · refine ⟨?_, ?_, trivial⟩
    · intro vals W hW hw hd
      try simp [Region.binds] at hd
      refine ⟨by first | rfl | simp [Region.wanted, yielded, hd], ?_⟩
      exact yields_all u_a16 gi_u8 (by decide) (.tmp 5) rfl (w.heap.size + 1 + 1 + 1) 0 rfl rfl
    · intro vals W hW hw hd
      try simp [Region.binds] at hd
      refine ⟨by first | rfl | simp [Region.wanted, yielded, hd], ?_⟩
      exact yields_all u_e8 gi_u8 (by decide) (.tmp 2) rfl w.heap.size 0 rfl rfl
  obtain ⟨f0, f1, _⟩ := hF
  simp only [MP.eq_p] at f0 f1
  rw [f0, f1]
  simp only [List.drop_succ_cons, List.drop_zero]
  have Y0 : Hid (Blk w2 w.heap.size (a.map b8)) := X0.out.up hb2.out X0.out.lt
  have Y1 : Hid (Blk w2 (w.heap.size + 1) (b.map b8)) := X1.out.up hb2.out X1.out.lt
  have Y2 : Hid (Blk w2 (w.heap.size + 1 + 1) (zB 16)) := X2.out.up hb2.out X2.out.lt
  have Y3 : Hid (Blk w2 (w.heap.size + 1 + 1 + 1) (([] : List Value) ++ (zB 8 ++ zB 8))) := X3.out.up hb2.out X3.out.lt
  have Y4 : Hid (Below w.heap.size w w2) := X4.out.trans (hb2.out.mono X4.out.size)
  have T2 : Hid (w2.there (w.heap.size + 1 + 1 + 1) 0 a.length) := Y3.out.there (by rw [LA.out]; decide)
  have M2 : Hid (a.length = min 8 16) := by rw [LA.out]; exact rfl
  clear f0 f1 hb2 hO X0 X1 X2 X3 X4
  go_wp2_with (refine wp_copyR rfl (.tmp 6) (.tmp 7) rfl (w.heap.size + 1 + 1 + 1) 0 16 16 w.heap.size 0 8 8 a rfl rfl M2.out Y0.out.all T2.out ?_)
  intro w3 hw3
  have Z1 : Hid (Blk w3 (w.heap.size + 1) (b.map b8)) := by rw [hw3.out]; exact Y1.out.apart (by omega)
  have Z2 : Hid (Blk w3 (w.heap.size + 1 + 1) (zB 16)) := by rw [hw3.out]; exact Y2.out.apart (by omega)
  have Z3 : Hid (Blk w3 (w.heap.size + 1 + 1 + 1) ((a.map b8) ++ (zB 8 ++ []))) := by
    rw [hw3.out, List.append_nil]
    exact Y3.out.store (b' := a.map b8) rfl (by rw [List.length_map, LA.out, zB_length])
  have Z4 : Hid (Below w.heap.size w w3) := by rw [hw3.out]; exact below_setCells _ _ _ Y4.out (by omega)
  clear hw3 Y0 Y1 Y2 Y3 Y4 T2 M2
  go_wp2_with fail
  refine wp_region_monoSE 2 [MP.eq (.slice (some ⟨w.heap.size + 1 + 1 + 1, 0 + 8, none⟩) (16 - 8) (16 - 8)), MP.eq (.slice (some ⟨w.heap.size + 1, 0, none⟩) 8 8)] (by kernel_rfl) (by kernel_rfl) rfl (by decide) (by kernel_rfl) ?_
  apply Exists.intro
  refine ⟨fun vals => ?_, ?_, fun vals4 w4 hb4 hF hO => ?_⟩
  · simp only [putsV, dstL, List.length_cons, List.length_nil, Nat.zero_add, Nat.reduceAdd, List.getElem?_cons_zero, List.getElem?_cons_succ, Option.bind_some, Act.put, List.setIfInBounds_toArray, List.set_cons_succ, List.set_cons_zero]
    rfl
  · refine ⟨?_, ?_, trivial⟩
    · intro vals W hW hw hd
      try simp [Region.binds] at hd
      refine ⟨by first | rfl | simp [Region.wanted, yielded, hd], ?_⟩
      exact yields_from u_a16 gi_u8 (.tmp 5) _ rfl (w.heap.size + 1 + 1 + 1) 0 8 .i64 (by decide) rfl rfl rfl
    · intro vals W hW hw hd
      try simp [Region.binds] at hd
      refine ⟨by first | rfl | simp [Region.wanted, yielded, hd], ?_⟩
      exact yields_all u_e8 gi_u8 (by decide) (.tmp 3) rfl (w.heap.size + 1) 0 rfl rfl
  obtain ⟨f0, f1, _⟩ := hF
  simp only [MP.eq_p] at f0 f1
  rw [f0, f1]
  simp only [List.drop_succ_cons, List.drop_zero]
  have Y1 : Hid (Blk w4 (w.heap.size + 1) (b.map b8)) := Z1.out.up hb4.out Z1.out.lt
  have Y2 : Hid (Blk w4 (w.heap.size + 1 + 1) (zB 16)) := Z2.out.up hb4.out Z2.out.lt
  have Y3 : Hid (Blk w4 (w.heap.size + 1 + 1 + 1) ((a.map b8) ++ (zB 8 ++ []))) := Z3.out.up hb4.out Z3.out.lt
  have Y4 : Hid (Below w.heap.size w w4) := Z4.out.trans (hb4.out.mono Z4.out.size)
  have T4 : Hid (w4.there (w.heap.size + 1 + 1 + 1) 8 b.length) := Y3.out.there (by rw [LB.out, List.length_append, List.length_map, LA.out]; decide)
  have M4 : Hid (b.length = min 8 8) := by rw [LB.out]; exact rfl
  clear f0 f1 hb4 hO Z1 Z2 Z3 Z4
  go_wp2_with (refine wp_copyR rfl (.tmp 9) (.tmp 10) rfl (w.heap.size + 1 + 1 + 1) 8 8 8 (w.heap.size + 1) 0 8 8 b rfl rfl M4.out Y1.out.all T4.out ?_)
  intro w5 hw5
  have Z2 : Hid (Blk w5 (w.heap.size + 1 + 1) (zB 16)) := by rw [hw5.out]; exact Y2.out.apart (by omega)
  have Z3 : Hid (Blk w5 (w.heap.size + 1 + 1 + 1) (s.map b8)) := by
    rw [hw5.out, HS.out, List.map_append]
    have := Y3.out.store (o := 8) (b' := b.map b8) (by rw [List.length_map, LA.out]) (by rw [List.length_map, LB.out, zB_length])
    rwa [List.append_nil] at this
  have Z4 : Hid (Below w.heap.size w w5) := by rw [hw5.out]; exact below_setCells _ _ _ Y4.out (by omega)
  have T0 : Hid (w5.there (w.heap.size + 1 + 1) 0 (s.map b8).length) := Z2.out.there (by rw [List.length_map, LS.out, zB_length]; omega)
  clear hw5 Y1 Y2 Y3 Y4 T4 M4
  go_wp2_with (first | refine wpList_load_mid rfl 57 (.tmp 5) rfl (w.heap.size + 1 + 1 + 1) 0 rfl (s.map b8) _ Z3.out.all u_a16 rfl (info_n info_a16 s LS.out) ?_ | refine wp_store_eq rfl 57 (.tmp 4) (.tmp 12) rfl (w.heap.size + 1 + 1) 0 (s.map b8) rfl rfl T0.out (info_n info_a16 s LS.out) (one_b8 _) ?_)
  intro w9 hw9
  go_wp2_with fail
  refine bodyPost_ret (v := aB s) ?_ rfl ⟨rfl, ?_⟩
  · rw [hw9.out]
    exact results_cell (b := w.heap.size + 1 + 1) rfl rfl (World.rangeAt_setCells_same _ _ _ _ T0.out) u_a16 rfl (info_n info_a16 s LS.out)
  · rw [hw9.out]
    exact below_setCells _ _ _ Z4.out (by omega)
theorem al5 (w : World) (C0 C1 C2 C3 C4 : Array Value) (t0 t1 t2 t3 t4 : TypeId) : Blk (((((w.alloc (.cells C0 t0)).alloc (.cells C1 t1)).alloc (.cells C2 t2)).alloc (.cells C3 t3)).alloc (.cells C4 t4)) w.heap.size C0.toList ∧ Blk (((((w.alloc (.cells C0 t0)).alloc (.cells C1 t1)).alloc (.cells C2 t2)).alloc (.cells C3 t3)).alloc (.cells C4 t4)) (w.heap.size + 1) C1.toList ∧ Blk (((((w.alloc (.cells C0 t0)).alloc (.cells C1 t1)).alloc (.cells C2 t2)).alloc (.cells C3 t3)).alloc (.cells C4 t4)) (w.heap.size + 1 + 1) C2.toList ∧ Blk (((((w.alloc (.cells C0 t0)).alloc (.cells C1 t1)).alloc (.cells C2 t2)).alloc (.cells C3 t3)).alloc (.cells C4 t4)) (w.heap.size + 1 + 1 + 1) C3.toList ∧ Blk (((((w.alloc (.cells C0 t0)).alloc (.cells C1 t1)).alloc (.cells C2 t2)).alloc (.cells C3 t3)).alloc (.cells C4 t4)) (w.heap.size + 1 + 1 + 1 + 1) C4.toList ∧ Below w.heap.size w (((((w.alloc (.cells C0 t0)).alloc (.cells C1 t1)).alloc (.cells C2 t2)).alloc (.cells C3 t3)).alloc (.cells C4 t4)) := by
  obtain ⟨a0, a1, a2, a3, a4⟩ := al4 w C0 C1 C2 C3 t0 t1 t2 t3
  obtain ⟨b0, b1⟩ := al1 ((((w.alloc (.cells C0 t0)).alloc (.cells C1 t1)).alloc (.cells C2 t2)).alloc (.cells C3 t3)) C4 t4
  rw [show ((((w.alloc (.cells C0 t0)).alloc (.cells C1 t1)).alloc (.cells C2 t2)).alloc (.cells C3 t3)).heap.size = w.heap.size + 1 + 1 + 1 + 1 by simp] at b0 b1
  exact ⟨a0.up b1 (by omega), a1.up b1 (by omega), a2.up b1 (by omega), a3.up b1 (by omega), b0, a4.trans (b1.mono (by omega))⟩
theorem results_cc {P : Program} {fn : Func} {tmps : Array Value} {s s2 : Tmp} {t : TypeId} {b b2 : Nat} {cs cs2 : List Value} {d : TypeDesc} {W : World} (hr : fn.results = #[.cell s t, .cell s2 t]) (ht : tmps[s]?.getD undef = .pointer (some ⟨b, 0, none⟩)) (ht2 : tmps[s2]?.getD undef = .pointer (some ⟨b2, 0, none⟩)) (hc : W.rangeAt b 0 cs) (hc2 : W.rangeAt b2 0 cs2)
    (hu : P.underlying t = some d) (hd : d.isRow = true) (hi : (P.info? t).map (·.size) = some cs.length) (hi2 : (P.info? t).map (·.size) = some cs2.length) : (results fn tmps).run P W = .ok (.tuple #[.agg cs.toArray, .agg cs2.toArray]) W := by
  have h1 := run_loadVar_mid (P := P) W b 0 t cs d hc hu hd hi
  have h2 := run_loadVar_mid (P := P) W b2 0 t cs2 d hc2 hu hd hi2
  simp [results, hr, ht, ht2, asAddr, h1, h2]
set_option maxRecDepth 20000 in
set_option maxHeartbeats 1000000 in
theorem whalves_fun (b : List Nat) (hb : b.length = 16) (w : World) : Calls Try.prog 23 #[aB b] w fun e w' => e = .returned (.tuple #[aB (b.take 8), aB (b.drop 8)]) ∧ Below w.heap.size w w' := by
  obtain ⟨x0, x1, x2, x3, x4, x5⟩ := al5 w (b.map b8).toArray #[Value.int IntKind.u8 0, Value.int IntKind.u8 0, Value.int IntKind.u8 0, Value.int IntKind.u8 0, Value.int IntKind.u8 0, Value.int IntKind.u8 0, Value.int IntKind.u8 0, Value.int IntKind.u8 0] #[Value.int IntKind.u8 0, Value.int IntKind.u8 0, Value.int IntKind.u8 0, Value.int IntKind.u8 0, Value.int IntKind.u8 0, Value.int IntKind.u8 0, Value.int IntKind.u8 0, Value.int IntKind.u8 0] #[Value.int IntKind.u8 0, Value.int IntKind.u8 0, Value.int IntKind.u8 0, Value.int IntKind.u8 0, Value.int IntKind.u8 0, Value.int IntKind.u8 0, Value.int IntKind.u8 0, Value.int IntKind.u8 0] #[Value.int IntKind.u8 0, Value.int IntKind.u8 0, Value.int IntKind.u8 0, Value.int IntKind.u8 0, Value.int IntKind.u8 0, Value.int IntKind.u8 0, Value.int IntKind.u8 0, Value.int IntKind.u8 0] 57 51 51 51 51
  obtain ⟨p, hp⟩ : ∃ p, p = b.take 8 := ⟨_, rfl⟩
  obtain ⟨q, hq⟩ : ∃ q, q = b.drop 8 := ⟨_, rfl⟩
  have LP : Hid (p.length = 8) := by rw [hp, List.length_take, hb]; exact rfl
  have LQ : Hid (q.length = 8) := by rw [hq, List.length_drop, hb]; exact rfl
  have hpq : b = p ++ q := by rw [hp, hq, List.take_append_drop]
  rw [hpq, List.map_append] at x0 x1 x2 x3 x4 x5
  have X0 : Hid (Blk _ w.heap.size (p.map b8 ++ q.map b8)) := x0
  have X1 : Hid (Blk _ (w.heap.size + 1) (zB 8)) := x1
  have X2 : Hid (Blk _ (w.heap.size + 1 + 1) (zB 8)) := x2
  have X3 : Hid (Blk _ (w.heap.size + 1 + 1 + 1) (zB 8)) := x3
  have X4 : Hid (Blk _ (w.heap.size + 1 + 1 + 1 + 1) (zB 8)) := x4
  have X5 : Hid (Below w.heap.size w _) := x5
  rw [← hp, ← hq]
  have e1 : aB b = .agg (p.map b8 ++ q.map b8).toArray := by rw [hpq]; show Value.agg _ = _; rw [List.map_append]
  rw [e1]
  clear x0 x1 x2 x3 x4 x5 hp hq hpq hb e1
  go_enter Try.func23, Try.ntmps23
  go_wp2_with (simp only [zero_e8])
  generalize World.alloc (World.alloc (World.alloc (World.alloc (w.alloc _) _) _) _) _ = w1 at *
  refine wp_region_monoSE 2 [MP.eq (.slice (some ⟨w.heap.size + 1 + 1 + 1, 0, none⟩) 8 8), MP.eq (.slice (some ⟨w.heap.size, 0, none⟩) 16 16)] (by kernel_rfl) (by kernel_rfl) rfl (by decide) (by kernel_rfl) ?_
  apply Exists.intro
  refine ⟨fun vals => ?_, ?_, fun vals2 w2 hb2 hF hO => ?_⟩
  · simp only [putsV, dstL, List.length_cons, List.length_nil, Nat.zero_add, Nat.reduceAdd, List.getElem?_cons_zero, List.getElem?_cons_succ, Option.bind_some, Act.put, List.setIfInBounds_toArray, List.set_cons_succ, List.set_cons_zero]
    rfl
  · refine ⟨?_, ?_, trivial⟩
    · intro vals W hW hw hd
      try simp [Region.binds] at hd
      refine ⟨by first | rfl | simp [Region.wanted, yielded, hd], ?_⟩
      exact yields_all u_e8 gi_u8 (by decide) (.tmp 4) rfl (w.heap.size + 1 + 1 + 1) 0 rfl rfl
    · intro vals W hW hw hd
      try simp [Region.binds] at hd
      refine ⟨by first | rfl | simp [Region.wanted, yielded, hd], ?_⟩
      exact yields_all u_a16 gi_u8 (by decide) (.tmp 1) rfl w.heap.size 0 rfl rfl
  obtain ⟨f0, f1, _⟩ := hF
  simp only [MP.eq_p] at f0 f1
  rw [f0, f1]
  simp only [List.drop_succ_cons, List.drop_zero]
  have Y0 : Hid (Blk w2 w.heap.size (p.map b8 ++ q.map b8)) := X0.out.up hb2.out X0.out.lt
  have Y1 : Hid (Blk w2 (w.heap.size + 1) (zB 8)) := X1.out.up hb2.out X1.out.lt
  have Y2 : Hid (Blk w2 (w.heap.size + 1 + 1) (zB 8)) := X2.out.up hb2.out X2.out.lt
  have Y3 : Hid (Blk w2 (w.heap.size + 1 + 1 + 1) (zB 8)) := X3.out.up hb2.out X3.out.lt
  have Y4 : Hid (Blk w2 (w.heap.size + 1 + 1 + 1 + 1) (zB 8)) := X4.out.up hb2.out X4.out.lt
  have Y5 : Hid (Below w.heap.size w w2) := X5.out.trans (hb2.out.mono X5.out.size)
  have T2 : Hid (w2.there (w.heap.size + 1 + 1 + 1) 0 p.length) := Y3.out.there (by rw [LP.out]; decide)
  have R2 : Hid (w2.rangeAt w.heap.size 0 (p.map b8)) := Blk.range (a := []) Y0.out rfl
  have M2 : Hid (p.length = min 16 8) := by rw [LP.out]; exact rfl
  clear f0 f1 hb2 hO X0 X1 X2 X3 X4 X5
  go_wp2_with (refine wp_copyR rfl (.tmp 6) (.tmp 7) rfl (w.heap.size + 1 + 1 + 1) 0 8 8 w.heap.size 0 16 16 p rfl rfl M2.out R2.out T2.out ?_)
  intro w3 hw3
  have Z0 : Hid (Blk w3 w.heap.size (p.map b8 ++ (q.map b8 ++ []))) := by rw [hw3.out, List.append_nil]; exact Y0.out.apart (by omega)
  have Z1 : Hid (Blk w3 (w.heap.size + 1) (zB 8)) := by rw [hw3.out]; exact Y1.out.apart (by omega)
  have Z2 : Hid (Blk w3 (w.heap.size + 1 + 1) (zB 8)) := by rw [hw3.out]; exact Y2.out.apart (by omega)
  have Z3 : Hid (Blk w3 (w.heap.size + 1 + 1 + 1) (p.map b8)) := by rw [hw3.out]; exact Y3.out.put (by rw [List.length_map, LP.out, zB_length])
  have Z4 : Hid (Blk w3 (w.heap.size + 1 + 1 + 1 + 1) (zB 8)) := by rw [hw3.out]; exact Y4.out.apart (by omega)
  have Z5 : Hid (Below w.heap.size w w3) := by rw [hw3.out]; exact below_setCells _ _ _ Y5.out (by omega)
  clear hw3 Y0 Y1 Y2 Y3 Y4 Y5 T2 M2 R2
  go_wp2_with fail
  refine wp_region_monoSE 2 [MP.eq (.slice (some ⟨w.heap.size + 1 + 1 + 1 + 1, 0, none⟩) 8 8), MP.eq (.slice (some ⟨w.heap.size, 0 + 8, none⟩) (16 - 8) (16 - 8))] (by kernel_rfl) (by kernel_rfl) rfl (by decide) (by kernel_rfl) ?_
  apply Exists.intro
  refine ⟨fun vals => ?_, ?_, fun vals4 w4 hb4 hF hO => ?_⟩
  · simp only [putsV, dstL, List.length_cons, List.length_nil, Nat.zero_add, Nat.reduceAdd, List.getElem?_cons_zero, List.getElem?_cons_succ, Option.bind_some, Act.put, List.setIfInBounds_toArray, List.set_cons_succ, List.set_cons_zero]
    rfl
  · refine ⟨?_, ?_, trivial⟩
    · intro vals W hW hw hd
      try simp [Region.binds] at hd
      refine ⟨by first | rfl | simp [Region.wanted, yielded, hd], ?_⟩
      exact yields_all u_e8 gi_u8 (by decide) (.tmp 5) rfl (w.heap.size + 1 + 1 + 1 + 1) 0 rfl rfl
    · intro vals W hW hw hd
      try simp [Region.binds] at hd
      refine ⟨by first | rfl | simp [Region.wanted, yielded, hd], ?_⟩
      exact yields_from u_a16 gi_u8 (.tmp 1) _ rfl w.heap.size 0 8 .i64 (by decide) rfl rfl rfl
  obtain ⟨f0, f1, _⟩ := hF
  simp only [MP.eq_p] at f0 f1
  rw [f0, f1]
  simp only [List.drop_succ_cons, List.drop_zero]
  have Y0 : Hid (Blk w4 w.heap.size (p.map b8 ++ (q.map b8 ++ []))) := Z0.out.up hb4.out Z0.out.lt
  have Y1 : Hid (Blk w4 (w.heap.size + 1) (zB 8)) := Z1.out.up hb4.out Z1.out.lt
  have Y2 : Hid (Blk w4 (w.heap.size + 1 + 1) (zB 8)) := Z2.out.up hb4.out Z2.out.lt
  have Y3 : Hid (Blk w4 (w.heap.size + 1 + 1 + 1) (p.map b8)) := Z3.out.up hb4.out Z3.out.lt
  have Y4 : Hid (Blk w4 (w.heap.size + 1 + 1 + 1 + 1) (zB 8)) := Z4.out.up hb4.out Z4.out.lt
  have Y5 : Hid (Below w.heap.size w w4) := Z5.out.trans (hb4.out.mono Z5.out.size)
  have T4 : Hid (w4.there (w.heap.size + 1 + 1 + 1 + 1) 0 q.length) := Y4.out.there (by rw [LQ.out]; decide)
  have R4 : Hid (w4.rangeAt w.heap.size 8 (q.map b8)) := Y0.out.range (by rw [List.length_map, LP.out])
  have M4 : Hid (q.length = min 8 8) := by rw [LQ.out]; exact rfl
  clear f0 f1 hb4 hO Z0 Z1 Z2 Z3 Z4 Z5
  go_wp2_with (refine wp_copyR rfl (.tmp 9) (.tmp 10) rfl (w.heap.size + 1 + 1 + 1 + 1) 0 8 8 w.heap.size 8 8 8 q rfl rfl M4.out R4.out T4.out ?_)
  intro w5 hw5
  have Z1 : Hid (Blk w5 (w.heap.size + 1) (zB 8)) := by rw [hw5.out]; exact Y1.out.apart (by omega)
  have Z2 : Hid (Blk w5 (w.heap.size + 1 + 1) (zB 8)) := by rw [hw5.out]; exact Y2.out.apart (by omega)
  have Z3 : Hid (Blk w5 (w.heap.size + 1 + 1 + 1) (p.map b8)) := by rw [hw5.out]; exact Y3.out.apart (by omega)
  have Z4 : Hid (Blk w5 (w.heap.size + 1 + 1 + 1 + 1) (q.map b8)) := by rw [hw5.out]; exact Y4.out.put (by rw [List.length_map, LQ.out, zB_length])
  have Z5 : Hid (Below w.heap.size w w5) := by rw [hw5.out]; exact below_setCells _ _ _ Y5.out (by omega)
  have Q2 : Hid ((p.map b8).length = (zB 8).length) := by rw [List.length_map, LP.out, zB_length]; exact rfl
  have Q3 : Hid ((q.map b8).length = (zB 8).length) := by rw [List.length_map, LQ.out, zB_length]; exact rfl
  clear hw5 Y0 Y1 Y2 Y3 Y4 Y5 T4 M4 R4
  go_wp2_with fail
  refine wp_region_ld2 51 (.tmp 4) (.tmp 5) (.tmp 2) (.tmp 12) (.tmp 3) (.tmp 13) (w.heap.size + 1 + 1 + 1) (w.heap.size + 1 + 1 + 1 + 1) (w.heap.size + 1) (w.heap.size + 1 + 1) (p.map b8) (q.map b8) (zB 8) _ (by kernel_rfl) (by kernel_rfl) (fun _ _ d _ _ h => by cases d <;> exact h) rfl rfl rfl rfl rfl rfl rfl rfl rfl rfl rfl rfl rfl rfl Z3.out Z4.out Z1.out Z2.out Q2.out Q3.out ⟨by omega, by omega, by omega, by omega, by omega⟩ u_e8 rfl info_e8 (one_b8 _) (one_b8 _) ?_
  intro w9 hw9
  have D0 : Below w5.heap.size w5 w5.drew := (Below.refl _ _).drew
  have R1 : Hid (Blk w9 (w.heap.size + 1) (p.map b8)) := by rw [hw9.out]; exact ((Z1.out.up D0 Z1.out.lt).put Q2.out).apart (by omega)
  have R2 : Hid (Blk w9 (w.heap.size + 1 + 1) (q.map b8)) := by rw [hw9.out]; exact ((Z2.out.up D0 Z2.out.lt).apart (by omega)).put Q3.out
  have R5 : Hid (Below w.heap.size w w9) := by rw [hw9.out]; exact below_setCells _ _ _ (below_setCells _ _ _ (Z5.out.trans (D0.mono Z5.out.size)) (by omega)) (by omega)
  clear hw9 D0 Z1 Z2 Z3 Z4 Z5
  simp only [Act.put, List.setIfInBounds_toArray, List.set_cons_succ, List.set_cons_zero]
  go_wp2_with fail
  refine bodyPost_ret (v := .tuple #[aB p, aB q]) ?_ rfl ⟨rfl, R5.out⟩
  exact results_cc (b := w.heap.size + 1) (b2 := w.heap.size + 1 + 1) rfl rfl rfl R1.out.all R2.out.all u_e8 rfl (info_n info_e8 p LP.out) (info_n info_e8 q LQ.out)
end Go.Proofs.Ytejabkmhpiabnaa
