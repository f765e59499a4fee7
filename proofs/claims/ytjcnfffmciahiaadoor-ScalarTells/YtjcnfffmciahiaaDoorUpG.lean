/- A drawn region in which some operations may be taken first (they yield their value in every world, and each other one waits for them or is apart from them), and the others then come one by one. Over any program. -/
import Derived.Test.YtjcnfffmciahiaaDoorUp
namespace Go.Proofs.YtjcnfffmciahiaaDoor
open Go.RowKit
section
variable {P : Program} {ops : Array Oper} {Q : Exit → Act → World → Prop}
def firstB (ops : Array Oper) (listed : Array Bool) (i : Nat) : Bool := match ops[i]? with
  | some oi => (Region.ready .any ops listed).contains i && ((List.range ops.size).all fun j => (j == i) || listed.getD j true || (match ops[j]? with | some oj => (oj.after.any fun e => Region.binds .any e && (e.on == i)) || oi.apart ops oj | none => true))
  | none => false
theorem wp_first {i : Nat} {oi : Oper} {v : Value} {fuel : Nat} {listed : Array Bool} {a : Act} {w : World} (hi : ops[i]? = some oi) (hB : firstB ops listed i = true) (hN : Region.noSelect ops = true) (hQp : ∀ c a d v w, Q (.panic c) (a.put d v) w → Q (.panic c) a w) (hy : Yields P ops oi v a)
    (K : wpAny P .any ops Q fuel (listed.setIfInBounds i true) (a.put oi.dst v) w) : wpAny P .any ops Q (fuel + 1) listed a w := by
  unfold firstB at hB
  simp only [hi, Bool.and_eq_true, List.all_eq_true, List.mem_range] at hB
  obtain ⟨h1, h2⟩ := hB
  refine wpAny_first hi (Region.noSelect_spec hN) (fun c a w h => hQp c a _ _ w h) fuel listed a w ?_ (by simpa using h1) hy K
  intro j oj hoj hne hun hno
  have hlt : j < ops.size := (Array.getElem?_eq_some_iff.1 hoj).1
  have := h2 j hlt
  rw [show (j == i) = false by simp [hne], Bool.false_or, hun, Bool.false_or] at this
  simp only [hoj, Bool.or_eq_true] at this
  rcases this with h | h
  · obtain ⟨e, he, hb⟩ := Array.any_eq_true'.1 h
    simp only [Bool.and_eq_true, beq_iff_eq] at hb
    exact absurd hb.2 (hno e he hb.1)
  · exact h
def pathB (ops : Array Oper) : Array Bool → List Nat → Bool
  | listed, [] => (Region.ready .any ops listed).isEmpty
  | listed, j :: js => (Region.ready .any ops listed == [j]) && pathB ops (listed.setIfInBounds j true) js
theorem wpAny_path : ∀ (js : List Nat) (l : List Oper) (listed : Array Bool) (a : Act) (w : World), js.map (fun j => ops[j]?) = l.map some → pathB ops listed js = true → wpList P ops Q l a w → wpAny P .any ops Q js.length listed a w
  | [], [], _, _, _, _, hB, h => wpAny_done (by simpa [pathB] using hB) h _
  | j :: js, o :: l, listed, a, w, hl, hB, h => by
    simp only [List.map_cons, List.cons.injEq] at hl
    simp only [pathB, Bool.and_eq_true, beq_iff_eq] at hB
    obtain ⟨hr, hB'⟩ := hB
    refine wpAny_all (fuel := js.length) hr (by simp) fun i hi => ?_
    have hi : i = j := by simpa using hi
    subst hi
    have ih := fun a w => wpAny_path js l _ a w hl.2 hB'
    have h1 : wpOp P ops Q i (wpList P ops Q l) a w := by unfold wpOp; simp only [hl.1]; exact h
    exact wpOp_mono ih h1
  | [], _ :: _, _, _, _, hl, _, _ => by simp at hl
  | _ :: _, [], _, _, _, hl, _, _ => by simp at hl
/-- Two are taken first, then the others, one by one. -/
theorem wp_region_two {id : Nat} {a : Act} {w : World} {l : List Oper} (i1 i2 : Nat) (js : List Nat) (r : List Oper) {o1 o2 : Oper} (v1 v2 : Value) (hm : P.follows .mixedOrders = true) (hN : Region.noSelect l.toArray = true) (hQp : ∀ c a d v w, Q (.panic c) (a.put d v) w → Q (.panic c) a w)
    (h1 : l.toArray[i1]? = some o1) (h2 : l.toArray[i2]? = some o2) (hB1 : firstB l.toArray (Array.replicate l.length false) i1 = true) (hB2 : firstB l.toArray ((Array.replicate l.length false).setIfInBounds i1 true) i2 = true) (hl : js.length + 1 + 1 = l.length)
    (hr : js.map (fun j => l.toArray[j]?) = r.map some) (hB : pathB l.toArray (((Array.replicate l.length false).setIfInBounds i1 true).setIfInBounds i2 true) js = true)
    (y1 : Yields P l.toArray o1 v1 a) (y2 : Yields P l.toArray o2 v2 (a.put o1.dst v1)) (h : ∀ w', Hid (Below w.heap.size w w') → w'.heap = w.heap → wpList P l.toArray Q r ((a.put o1.dst v1).put o2.dst v2) w') : (Code.region id l.toArray true).wp P Q a w := by
  refine wp_region_any hm ?_
  have e : l.toArray.size = js.length + 1 + 1 := by rw [List.size_toArray, hl]
  have k := wp_first (fuel := js.length + 1) h1 hB1 hN hQp y1 (wp_first (fuel := js.length) h2 hB2 hN hQp y2 (wpAny_path js r _ _ { w with drawn := w.drawn + 1 } hr hB (h _ ((Below.refl _ _).drew) rfl)))
  rw [hl] at k
  simpa using k
end
end Go.Proofs.YtjcnfffmciahiaaDoor
