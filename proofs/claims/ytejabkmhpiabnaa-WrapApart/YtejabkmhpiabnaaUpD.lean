/- A drawn region that reads two rows whole and stores them whole elsewhere (as in 'return one, two'). Over any program. -/
import Derived.Test.YtejabkmhpiabnaaGrp1
import Derived.OrdersHeld
namespace Go.Proofs.Ytejabkmhpiabnaa
open Go.RowKit
section
variable {P : Program}
def ldB (ops : Array Oper) : Bool := Region.noSelect ops && (Region.free .any ops (Array.replicate 4 false) 0 && (Region.ready .any ops (Array.replicate 4 false)).contains 0) && (Region.free .any ops ((Array.replicate 4 false).setIfInBounds 0 true) 1 && (Region.ready .any ops ((Array.replicate 4 false).setIfInBounds 0 true)).contains 1) &&
  (Region.ready .any ops (((Array.replicate 4 false).setIfInBounds 0 true).setIfInBounds 1 true) == [2]) && (Region.ready .any ops ((((Array.replicate 4 false).setIfInBounds 0 true).setIfInBounds 1 true).setIfInBounds 2 true) == [3]) && (Region.ready .any ops (((((Array.replicate 4 false).setIfInBounds 0 true).setIfInBounds 1 true).setIfInBounds 2 true).setIfInBounds 3 true) == [])
theorem wpOp_store {ops : Array Oper} {Q : Exit → Act → World → Prop} {i : Nat} {op : Oper} {a : Act} {w : World} {K : Act → World → Prop} (hi : ops[i]? = some op) (hg : op.guard = none) (ty : TypeId) (x y : Operand) (ho : op.op = .store ty x y)
    (b : Nat) (cs : List Value) (hx : a.eval x = .pointer (some ⟨b, 0, none⟩)) (hy : a.eval y = .agg cs.toArray) (ht : w.there b 0 cs.length) (hz : (P.info? ty).map (·.size) = some cs.length) (h1 : ∀ v ∈ cs, v.oneCell' = true)
    (h : K (a.put op.dst undef) (w.setCells b 0 cs)) : wpOp P ops Q i K a w := by
  unfold wpOp
  simp only [hi]
  rw [if_pos (by simp [Region.wanted, hg])]
  exact .inl (wp_store_mid ty x y ho b 0 cs.toArray hx hy (by rw [List.size_toArray]; exact ht) (by rw [List.size_toArray]; exact hz) (all_oneCell_toArray h1) h)
theorem wp_region_ld2 {id : Nat} {Q : Exit → Act → World → Prop} {a : Act} {w : World} {o0 o1 o2 o3 : Oper} (ty : TypeId) (x0 x1 y2 z2 y3 z3 : Operand) (b0 b1 b2 b3 : Nat) (c0 c1 z : List Value) (d : TypeDesc)
    (hm : P.follows .mixedOrders = true) (hB : ldB #[o0, o1, o2, o3] = true) (hQp : ∀ c a d v w, Q (.panic c) (a.put d v) w → Q (.panic c) a w)
    (g0 : o0.guard = none) (g1 : o1.guard = none) (g2 : o2.guard = none) (g3 : o3.guard = none) (e0 : o0.op = .load ty x0) (e1 : o1.op = .load ty x1) (e2 : o2.op = .store ty y2 z2) (e3 : o3.op = .store ty y3 z3)
    (hx0 : a.eval x0 = .pointer (some ⟨b0, 0, none⟩)) (hx1 : (a.put o0.dst (.agg c0.toArray)).eval x1 = .pointer (some ⟨b1, 0, none⟩))
    (hy2 : ((a.put o0.dst (.agg c0.toArray)).put o1.dst (.agg c1.toArray)).eval y2 = .pointer (some ⟨b2, 0, none⟩)) (hz2 : ((a.put o0.dst (.agg c0.toArray)).put o1.dst (.agg c1.toArray)).eval z2 = .agg c0.toArray)
    (hy3 : (((a.put o0.dst (.agg c0.toArray)).put o1.dst (.agg c1.toArray)).put o2.dst undef).eval y3 = .pointer (some ⟨b3, 0, none⟩)) (hz3 : (((a.put o0.dst (.agg c0.toArray)).put o1.dst (.agg c1.toArray)).put o2.dst undef).eval z3 = .agg c1.toArray)
    (k0 : Blk w b0 c0) (k1 : Blk w b1 c1) (k2 : Blk w b2 z) (k3 : Blk w b3 z) (l0 : c0.length = z.length) (l1 : c1.length = z.length) (hne : b0 ≠ b2 ∧ b0 ≠ b3 ∧ b1 ≠ b2 ∧ b1 ≠ b3 ∧ b2 ≠ b3)
    (hu : P.underlying ty = some d) (hd : d.isRow = true) (hi : (P.info? ty).map (·.size) = some z.length) (s0 : ∀ v ∈ c0, v.oneCell' = true) (s1 : ∀ v ∈ c1, v.oneCell' = true)
    (h : ∀ w2, Hid (w2 = (w.drew.setCells b2 0 c0).setCells b3 0 c1) → wpList P #[o0, o1, o2, o3] Q [] ((((a.put o0.dst (.agg c0.toArray)).put o1.dst (.agg c1.toArray)).put o2.dst undef).put o3.dst undef) w2) : (Code.region id #[o0, o1, o2, o3] true).wp P Q a w := by
  simp only [ldB, Bool.and_eq_true, beq_iff_eq] at hB
  obtain ⟨⟨⟨⟨⟨hs, hf0, hr0⟩, hf1, hr1⟩, hr2⟩, hr3⟩, hr4⟩ := hB
  have D : Below w.heap.size w w.drew := (Below.refl _ _).drew
  have k0 := k0.up D k0.lt
  have k1 := k1.up D k1.lt
  have k2 := k2.up D k2.lt
  have k3 := k3.up D k3.lt
  let S : World → Prop := fun W => W.rangeAt b0 0 c0 ∧ W.rangeAt b1 0 c1
  have i0 : (P.info? ty).map (·.size) = some c0.length := by rw [l0]; exact hi
  have i1 : (P.info? ty).map (·.size) = some c1.length := by rw [l1]; exact hi
  refine wp_region_held (S := S) hm ?_
  refine wpAnyH_take (i := 0) (oi := o0) (v := .agg c0.toArray) (fuel := 3) rfl hs hf0 hr0 (fun c a w hh => hQp c a _ _ w hh) (yieldsIf_load_mid (by simp [Region.wanted, g0]) ty x0 e0 b0 0 hx0 c0 d (fun W hW => hW.1) hu hd i0) ⟨k0.all, k1.all⟩ ?_
  refine wpAnyH_take (i := 1) (oi := o1) (v := .agg c1.toArray) (fuel := 2) rfl hs hf1 hr1 (fun c a w hh => hQp c a _ _ w hh) (yieldsIf_load_mid (by simp [Region.wanted, g1]) ty x1 e1 b1 0 hx1 c1 d (fun W hW => hW.2) hu hd i1) ⟨k0.all, k1.all⟩ ?_
  refine wpAnyH_all hr2 (by simp) fun i hi2 => ?_
  obtain rfl : i = 2 := by simpa using hi2
  have m0 := k0.apart (k' := b2) (o := 0) (b := c0) hne.1
  have m1 := k1.apart (k' := b2) (o := 0) (b := c0) hne.2.2.1
  have m3 := k3.apart (k' := b2) (o := 0) (b := c0) (Ne.symm hne.2.2.2.2)
  refine wpOp_store (op := o2) rfl g2 ty y2 z2 e2 b2 c0 hy2 hz2 (k2.there (by omega)) i0 s0 ⟨⟨m0.all, m1.all⟩, ?_⟩
  refine wpAnyH_all hr3 (by simp) fun i hi3 => ?_
  obtain rfl : i = 3 := by simpa using hi3
  have n0 := m0.apart (k' := b3) (o := 0) (b := c1) hne.2.1
  have n1 := m1.apart (k' := b3) (o := 0) (b := c1) hne.2.2.2.1
  refine wpOp_store (op := o3) rfl g3 ty y3 z3 e3 b3 c1 hy3 hz3 (m3.there (by omega)) i1 s1 ⟨⟨n0.all, n1.all⟩, ?_⟩
  exact wpAnyH_done hr4 (h _ rfl) 0
end
end Go.Proofs.Ytejabkmhpiabnaa
