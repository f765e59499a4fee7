/- Texts that were joined: Up, UpA. -/
import Derived.Deep.QuietTactic
import Derived.BigQuiet
import Derived.Below
/- A region that draws its order of evaluation, whose operations read and whose callees make new memory and leave the old alone: one walk in the order of the text serves every order; stores and assignments that wait for all of these come behind. Over any program. -/
namespace Go.Proofs.Ytepaapiflkkghab
open Go.RowKit
theorem below_drewN {B : Nat} {a w : World} {n : Nat} (h : Below B a w) : Below B a (w.drewN n) := ⟨h.os, h.tape, h.output, h.size, h.block⟩
section
variable {P : Program}

/-! ### A region whose last operations (stores, assignments) wait for all others -/
variable {ops ops1 : Array Oper} {md : Region.Mode} {C : World → Prop}

/-- The region's first m operations and all of them stand at one point. -/
structure Along (m n : Nat) (listed1 listed : Array Bool) : Prop where
  size1 : listed1.size = m
  size : listed.size = n
  same : ∀ i, i < m → listed[i]? = listed1[i]?
  rest : ∀ i, m ≤ i → i < n → listed[i]? = some false
theorem Along.set {m n i : Nat} {listed1 listed : Array Bool} (h : Along m n listed1 listed) (hi : i < m) : Along m n (listed1.setIfInBounds i true) (listed.setIfInBounds i true) := by
  refine ⟨by simp [h.size1], by simp [h.size], fun j hj => ?_, fun j hj hn => ?_⟩
  · have e1 := h.same j hj
    rw [Array.getElem?_setIfInBounds, Array.getElem?_setIfInBounds, e1, h.size, h.size1]
    by_cases hij : i = j
    · subst hij
      have hn : i < n := by
        rcases Nat.lt_or_ge i n with h' | h'
        · exact h'
        · rw [Array.getElem?_eq_none (by rw [h.size]; exact h'), Array.getElem?_eq_getElem (by rw [h.size1]; exact hi)] at e1
          cases e1
      simp [hi, hn]
    · simp [hij]
  · rw [Array.getElem?_setIfInBounds, if_neg (by omega)]
    exact h.rest j hj hn

end
end Go.Proofs.Ytepaapiflkkghab

/- A region that draws its order of evaluation and also makes variables for what it yields: one walk of the readings and calls in the order of the text, whatever places the variables get. Over any program. -/
namespace Go.Proofs.Ytepaapiflkkghab
open Go.RowKit

section
variable {P : Program} {ops ops1 : Array Oper} {md : Region.Mode}

/-- The worlds above w0 in which the variables that have been made stand, untouched. -/
def CD (w0 : World) (ob : Nat → Obj) (D : List (Nat × Nat)) (w : World) : Prop :=
  Below w0.heap.size w0 w ∧ (∀ p ∈ D, w0.heap.size ≤ p.2 ∧ w.heap[p.2]? = some (ob p.1)) ∧ (D.map (·.2)).Nodup
theorem CD.up {w0 w w' : World} {ob : Nat → Obj} {D : List (Nat × Nat)} (h : CD w0 ob D w) (hb : Below w.heap.size w w') : CD w0 ob D w' :=
  ⟨h.1.trans (hb.mono h.1.size), fun p hp => ⟨(h.2.1 p hp).1, (hb.block p.2 (Array.getElem?_eq_some_iff.1 (h.2.1 p hp).2).1).trans (h.2.1 p hp).2⟩, h.2.2⟩
theorem CD.none {w0 w : World} {ob : Nat → Obj} {D : List (Nat × Nat)} (h : CD w0 ob D w) : CD w0 ob [] w := ⟨h.1, by simp, by simp⟩
theorem CD.alloc {w0 w : World} {ob : Nat → Obj} {D : List (Nat × Nat)} (h : CD w0 ob D w) (i : Nat) : CD w0 ob ((i, w.heap.size) :: D) (w.alloc (ob i)) := by
  refine ⟨h.1.alloc h.1.size _, fun p hp => ?_, ?_⟩
  · rcases List.mem_cons.1 hp with rfl | hp
    · exact ⟨h.1.size, (MapKept.heap_alloc w _).1⟩
    · have q := h.2.1 p hp
      exact ⟨q.1, (Below.heap_alloc w _ p.2 (Array.getElem?_eq_some_iff.1 q.2).1).trans q.2⟩
  · refine List.nodup_cons.2 ⟨fun hm => ?_, h.2.2⟩
    obtain ⟨p, hp, hk⟩ := List.mem_map.1 hm
    have := (Array.getElem?_eq_some_iff.1 (h.2.1 p hp).2).1
    simp only at hk
    omega

/-- Does k wait for i, by a chain of early ones? -/
def waits (md : Region.Mode) (ops : Array Oper) (m1 : Nat) : Nat → Nat → Nat → Bool
  | 0, _, _ => false
  | f + 1, k, i => match ops[k]? with
    | some o => o.after.any fun e => Region.binds md e && ((e.on == i) || (decide (e.on < m1) && waits md ops m1 f e.on i))
    | none => false
/-- Whoever has come up had those come up for whom it waits. -/
def Closed (md : Region.Mode) (ops : Array Oper) (m1 : Nat) (listed : Array Bool) : Prop :=
  ∀ j o, ops[j]? = some o → j < m1 → listed.getD j false = true → ∀ e ∈ o.after, Region.binds md e = true → listed.getD e.on false = true
theorem Closed.set {m1 i : Nat} {listed : Array Bool} (h : Closed md ops m1 listed) (hi : i < m1 → i ∈ Region.ready md ops listed) : Closed md ops m1 (listed.setIfInBounds i true) := by
  intro j o ho hj hl e he hb
  by_cases hij : i = j
  · subst hij
    obtain ⟨_, o', ho', hall⟩ := mem_ready.1 (hi hj)
    rw [ho] at ho'
    cases ho'
    exact getD_set_true (hall e he hb)
  · rw [getD_set_ne false hij] at hl
    exact getD_set_true (h j o ho hj hl e he hb)
/-- Where the region stands: the first m1 as listed1 says, the variables of E not made yet, those of D made, nothing later done. -/
structure At3 (m1 m2 n : Nat) (listed1 listed : Array Bool) (E : List Nat) (D : List (Nat × Nat)) : Prop where
  size1 : listed1.size = m1
  size : listed.size = n
  same : ∀ i, i < m1 → listed[i]? = listed1[i]?
  rest : ∀ i, m2 ≤ i → i < n → listed[i]? = some false
  mid : ∀ i, m1 ≤ i → i < m2 → listed[i]? = some (decide (i ∉ E))
  inE : ∀ i ∈ E, m1 ≤ i ∧ i < m2
  nodE : E.Nodup
  inD : ∀ p ∈ D, m1 ≤ p.1 ∧ p.1 < m2 ∧ p.1 ∉ E
  nodD : (D.map (·.1)).Nodup
  all : ∀ i, m1 ≤ i → i < m2 → i ∈ E ∨ ∃ k, (i, k) ∈ D
theorem At3.set {m1 m2 n i : Nat} {listed1 listed : Array Bool} {E : List Nat} {D : List (Nat × Nat)} (hn : m2 ≤ n) (h12 : m1 ≤ m2) (h : At3 m1 m2 n listed1 listed E D) (hi : i < m1) : At3 m1 m2 n (listed1.setIfInBounds i true) (listed.setIfInBounds i true) E D := by
  refine ⟨by simp [h.size1], by simp [h.size], fun j hj => ?_, fun j hj hn => ?_, fun j hj hm => ?_, h.inE, h.nodE, h.inD, h.nodD, h.all⟩
  · rw [Array.getElem?_setIfInBounds, Array.getElem?_setIfInBounds, h.same j hj, h.size, h.size1]
    by_cases hij : i = j
    · subst hij; simp [hi, show i < n by omega]
    · simp [hij]
  · rw [Array.getElem?_setIfInBounds, if_neg (by omega)]; exact h.rest j hj hn
  · rw [Array.getElem?_setIfInBounds, if_neg (by omega)]; exact h.mid j hj hm
theorem At3.make {m1 m2 n i k : Nat} {listed1 listed : Array Bool} {E : List Nat} {D : List (Nat × Nat)} (hn : m2 ≤ n) (h : At3 m1 m2 n listed1 listed E D) (hi : i ∈ E) : At3 m1 m2 n listed1 (listed.setIfInBounds i true) (E.erase i) ((i, k) :: D) := by
  have hb := h.inE i hi
  refine ⟨h.size1, by simp [h.size], fun j hj => ?_, fun j hj hn => ?_, fun j hj hm => ?_, fun j hj => h.inE j (List.mem_of_mem_erase hj), h.nodE.erase i, fun p hp => ?_, ?_, fun j hj hm => ?_⟩
  · rw [Array.getElem?_setIfInBounds, if_neg (by omega)]; exact h.same j hj
  · rw [Array.getElem?_setIfInBounds, if_neg (by omega)]; exact h.rest j hj hn
  · by_cases hij : i = j
    · subst hij
      have : i ∉ E.erase i := fun hm => (List.Nodup.mem_erase_iff h.nodE).1 hm |>.1 rfl
      simp [this, h.size, show i < n by omega]
    · rw [Array.getElem?_setIfInBounds, if_neg hij, h.mid j hj hm]
      simp [List.mem_erase_of_ne (Ne.symm hij)]
  · rcases List.mem_cons.1 hp with rfl | hp
    · exact ⟨hb.1, hb.2, fun hm => (List.Nodup.mem_erase_iff h.nodE).1 hm |>.1 rfl⟩
    · have q := h.inD p hp
      exact ⟨q.1, q.2.1, fun hm => q.2.2 (List.mem_of_mem_erase hm)⟩
  · refine List.nodup_cons.2 ⟨fun hm => ?_, h.nodD⟩
    obtain ⟨p, hp, he⟩ := List.mem_map.1 hm
    have := (h.inD p hp).2.2
    simp only at he
    rw [he] at this
    exact this hi
  · by_cases hij : i = j
    · subst hij; exact .inr ⟨k, by simp⟩
    · rcases h.all j hj hm with h1 | ⟨k', h1⟩
      · exact .inl ((List.mem_erase_of_ne (Ne.symm hij)).2 h1)
      · exact .inr ⟨k', by simp [h1]⟩

/-- What is asked of the region's text: quiet operations up to m1, variables made up to m2, the rest one by one behind them all. -/
def slot (ops : Array Oper) (i : Nat) : Tmp := ((ops[i]?).bind (·.dst)).getD 0
end
end Go.Proofs.Ytepaapiflkkghab
