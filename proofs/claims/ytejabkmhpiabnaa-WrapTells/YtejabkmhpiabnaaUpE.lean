/- A drawn region of eight operations that reads a row whole and stores it into a variable that is made there, beside a slice of another (as in 'a, r := all[0], all[1:]'). Over any program. -/
import Derived.Test.YtejabkmhpiabnaaGrp39
namespace Go.Proofs.Ytejabkmhpiabnaa
open Go.RowKit
section
variable {P : Program}
theorem wpOp_run {ops : Array Oper} {Q : Exit → Act → World → Prop} {i : Nat} {op : Oper} {a : Act} {w w' : World} {K : Act → World → Prop} {v : Value} (hi : ops[i]? = some op) (hg : op.guard = none) (hr : (execOp a.eval op).run P w = .ok (.value v) w') (h : K (a.put op.dst v) w') : wpOp P ops Q i K a w := by
  unfold wpOp
  simp only [hi]
  rw [if_pos (by simp [Region.wanted, hg])]
  refine .inl ?_
  unfold Oper.wp
  rw [hr]
  exact h
def L0 : Array Bool := Array.replicate 8 false
def L4 : Array Bool := (((L0.setIfInBounds 0 true).setIfInBounds 1 true).setIfInBounds 3 true).setIfInBounds 4 true
def ldaB (ops : Array Oper) : Bool := (Region.noSelect ops && firstB ops L0 0 && firstB ops (L0.setIfInBounds 0 true) 1 && firstB ops ((L0.setIfInBounds 0 true).setIfInBounds 1 true) 3 && firstB ops (((L0.setIfInBounds 0 true).setIfInBounds 1 true).setIfInBounds 3 true) 4) &&
  ((Region.ready .any ops L4 == [2, 5]) && (Region.ready .any ops (L4.setIfInBounds 2 true) == [5]) && (Region.ready .any ops (L4.setIfInBounds 5 true) == [2]) && pathB ops ((L4.setIfInBounds 2 true).setIfInBounds 5 true) [6, 7] && pathB ops ((L4.setIfInBounds 5 true).setIfInBounds 2 true) [6, 7])
theorem wp_region_lda {id : Nat} {Q : Exit → Act → World → Prop} {a : Act} {w : World} {o0 o1 o2 o3 o4 o5 o6 o7 : Oper} (v0 v1 v2 v3 v4 : Value) (O : Obj) (hm : P.follows .mixedOrders = true) (hB : ldaB #[o0, o1, o2, o3, o4, o5, o6, o7] = true) (hQp : ∀ c a d v w, Q (.panic c) (a.put d v) w → Q (.panic c) a w)
    (g2 : o2.guard = none) (g5 : o5.guard = none) (y0 : Yields P #[o0, o1, o2, o3, o4, o5, o6, o7] o0 v0 a) (y1 : Yields P #[o0, o1, o2, o3, o4, o5, o6, o7] o1 v1 (a.put o0.dst v0)) (y3 : Yields P #[o0, o1, o2, o3, o4, o5, o6, o7] o3 v3 ((a.put o0.dst v0).put o1.dst v1)) (y4 : Yields P #[o0, o1, o2, o3, o4, o5, o6, o7] o4 v4 (((a.put o0.dst v0).put o1.dst v1).put o3.dst v3))
    (ld : ∀ W, Below w.heap.size w W → (execOp ((((a.put o0.dst v0).put o1.dst v1).put o3.dst v3).put o4.dst v4).eval o2).run P W = .ok (.value v2) W)
    (ld' : ∀ W, Below w.heap.size w W → (execOp (((((a.put o0.dst v0).put o1.dst v1).put o3.dst v3).put o4.dst v4).put o5.dst (.pointer (some ⟨w.heap.size, 0, none⟩))).eval o2).run P W = .ok (.value v2) W)
    (al : ∀ (a : Act) (W : World), (execOp a.eval o5).run P W = .ok (.value (.pointer (some ⟨W.heap.size, 0, none⟩))) (W.alloc O))
    (hc : (((((a.put o0.dst v0).put o1.dst v1).put o3.dst v3).put o4.dst v4).put o5.dst (.pointer (some ⟨w.heap.size, 0, none⟩))).put o2.dst v2 = (((((a.put o0.dst v0).put o1.dst v1).put o3.dst v3).put o4.dst v4).put o2.dst v2).put o5.dst (.pointer (some ⟨w.heap.size, 0, none⟩)))
    (h : ∀ w2, Hid (w2 = w.drew.alloc O) → wpList P #[o0, o1, o2, o3, o4, o5, o6, o7] Q [o6, o7] ((((((a.put o0.dst v0).put o1.dst v1).put o3.dst v3).put o4.dst v4).put o2.dst v2).put o5.dst (.pointer (some ⟨w.heap.size, 0, none⟩))) w2) : (Code.region id #[o0, o1, o2, o3, o4, o5, o6, o7] true).wp P Q a w := by
  simp only [ldaB, Bool.and_eq_true, beq_iff_eq] at hB
  obtain ⟨⟨⟨⟨⟨hN, hf0⟩, hf1⟩, hf3⟩, hf4⟩, ⟨⟨⟨hr, hr2⟩, hr5⟩, hp1⟩, hp2⟩ := hB
  have D : Below w.heap.size w w.drew := (Below.refl _ _).drew
  have D2 : Below w.heap.size w (w.drew.alloc O) := D.alloc D.size _
  refine wp_region_any hm ?_
  refine wp_first (i := 0) (oi := o0) (fuel := 7) rfl hf0 hN hQp y0 (wp_first (i := 1) (oi := o1) (fuel := 6) rfl hf1 hN hQp y1 (wp_first (i := 3) (oi := o3) (fuel := 5) rfl hf3 hN hQp y3 (wp_first (i := 4) (oi := o4) (fuel := 4) rfl hf4 hN hQp y4 ?_)))
  refine wpAny_all (fuel := 3) hr (by simp) fun i hi => ?_
  rcases (by simpa using hi : i = 2 ∨ i = 5) with rfl | rfl
  · refine wpOp_run (op := o2) rfl g2 (ld _ D) ?_
    refine wpAny_all (fuel := 2) hr2 (by simp) fun i hi => ?_
    obtain rfl : i = 5 := by simpa using hi
    refine wpOp_run (op := o5) rfl g5 (al _ _) ?_
    exact wpAny_path [6, 7] [o6, o7] _ _ _ rfl hp1 (h _ rfl)
  · refine wpOp_run (op := o5) rfl g5 (al _ _) ?_
    refine wpAny_all (fuel := 2) hr5 (by simp) fun i hi => ?_
    obtain rfl : i = 2 := by simpa using hi
    refine wpOp_run (op := o2) rfl g2 (ld' _ D2) ?_
    refine wpAny_path [6, 7] [o6, o7] _ _ _ rfl hp2 ?_
    have h2 := h _ rfl
    rw [← hc] at h2
    exact h2
end
end Go.Proofs.Ytejabkmhpiabnaa
