/- Texts that were joined: Up, UpA, UpV, UpV3, KnO. -/
import Derived.Deep.QuietTactic
import Derived.BigQuiet
import Derived.Below
import Derived.Test.YtepaapiflkkghaaQNumToKn
import Derived.Test.YtepaapiflkkghaaQPrimeToIB
/- A region that draws its order of evaluation, whose operations read and whose callees make new memory and leave the old alone: one walk in the order of the text serves every order; stores and assignments that wait for all of these come behind. Over any program. -/
namespace Go.Proofs.Ytepaapiflkkghaa
open Go.RowKit
theorem below_drewN {B : Nat} {a w : World} {n : Nat} (h : Below B a w) : Below B a (w.drewN n) := ⟨h.os, h.tape, h.output, h.size, h.block⟩
section
variable {P : Program}

/-! ### A region whose last operations (stores, assignments) wait for all others -/
variable {ops ops1 : Array Oper} {md : Region.Mode} {C : World → Prop}

/-- The region's first m operations and all of them stand at one point. -/
structure Along (m n : Nat) (listed1 listed : Array Bool) : Prop where
  size1 : listed1.size = m
  size : listed.size = n
  same : ∀ i, i < m → listed[i]? = listed1[i]?
  rest : ∀ i, m ≤ i → i < n → listed[i]? = some false
theorem Along.set {m n i : Nat} {listed1 listed : Array Bool} (h : Along m n listed1 listed) (hi : i < m) : Along m n (listed1.setIfInBounds i true) (listed.setIfInBounds i true) := by
  refine ⟨by simp [h.size1], by simp [h.size], fun j hj => ?_, fun j hj hn => ?_⟩
  · have e1 := h.same j hj
    rw [Array.getElem?_setIfInBounds, Array.getElem?_setIfInBounds, e1, h.size, h.size1]
    by_cases hij : i = j
    · subst hij
      have hn : i < n := by
        rcases Nat.lt_or_ge i n with h' | h'
        · exact h'
        · rw [Array.getElem?_eq_none (by rw [h.size]; exact h'), Array.getElem?_eq_getElem (by rw [h.size1]; exact hi)] at e1
          cases e1
      simp [hi, hn]
    · simp [hij]
  · rw [Array.getElem?_setIfInBounds, if_neg (by omega)]
    exact h.rest j hj hn

end
end Go.Proofs.Ytepaapiflkkghaa

/- A region that draws its order of evaluation and also makes variables for what it yields: one walk of the readings and calls in the order of the text, whatever places the variables get. Over any program. -/
namespace Go.Proofs.Ytepaapiflkkghaa
open Go.RowKit

section
variable {P : Program} {ops ops1 : Array Oper} {md : Region.Mode}

/-- The worlds above w0 in which the variables that have been made stand, untouched. -/
def CD (w0 : World) (ob : Nat → Obj) (D : List (Nat × Nat)) (w : World) : Prop :=
  Below w0.heap.size w0 w ∧ (∀ p ∈ D, w0.heap.size ≤ p.2 ∧ w.heap[p.2]? = some (ob p.1)) ∧ (D.map (·.2)).Nodup
theorem CD.up {w0 w w' : World} {ob : Nat → Obj} {D : List (Nat × Nat)} (h : CD w0 ob D w) (hb : Below w.heap.size w w') : CD w0 ob D w' :=
  ⟨h.1.trans (hb.mono h.1.size), fun p hp => ⟨(h.2.1 p hp).1, (hb.block p.2 (Array.getElem?_eq_some_iff.1 (h.2.1 p hp).2).1).trans (h.2.1 p hp).2⟩, h.2.2⟩
theorem CD.none {w0 w : World} {ob : Nat → Obj} {D : List (Nat × Nat)} (h : CD w0 ob D w) : CD w0 ob [] w := ⟨h.1, by simp, by simp⟩
theorem CD.alloc {w0 w : World} {ob : Nat → Obj} {D : List (Nat × Nat)} (h : CD w0 ob D w) (i : Nat) : CD w0 ob ((i, w.heap.size) :: D) (w.alloc (ob i)) := by
  refine ⟨h.1.alloc h.1.size _, fun p hp => ?_, ?_⟩
  · rcases List.mem_cons.1 hp with rfl | hp
    · exact ⟨h.1.size, (MapKept.heap_alloc w _).1⟩
    · have q := h.2.1 p hp
      exact ⟨q.1, (Below.heap_alloc w _ p.2 (Array.getElem?_eq_some_iff.1 q.2).1).trans q.2⟩
  · refine List.nodup_cons.2 ⟨fun hm => ?_, h.2.2⟩
    obtain ⟨p, hp, hk⟩ := List.mem_map.1 hm
    have := (Array.getElem?_eq_some_iff.1 (h.2.1 p hp).2).1
    simp only at hk
    omega

/-- Does k wait for i, by a chain of early ones? -/
def waits (md : Region.Mode) (ops : Array Oper) (m1 : Nat) : Nat → Nat → Nat → Bool
  | 0, _, _ => false
  | f + 1, k, i => match ops[k]? with
    | some o => o.after.any fun e => Region.binds md e && ((e.on == i) || (decide (e.on < m1) && waits md ops m1 f e.on i))
    | none => false
/-- Whoever has come up had those come up for whom it waits. -/
def Closed (md : Region.Mode) (ops : Array Oper) (m1 : Nat) (listed : Array Bool) : Prop :=
  ∀ j o, ops[j]? = some o → j < m1 → listed.getD j false = true → ∀ e ∈ o.after, Region.binds md e = true → listed.getD e.on false = true
theorem Closed.set {m1 i : Nat} {listed : Array Bool} (h : Closed md ops m1 listed) (hi : i < m1 → i ∈ Region.ready md ops listed) : Closed md ops m1 (listed.setIfInBounds i true) := by
  intro j o ho hj hl e he hb
  by_cases hij : i = j
  · subst hij
    obtain ⟨_, o', ho', hall⟩ := mem_ready.1 (hi hj)
    rw [ho] at ho'
    cases ho'
    exact getD_set_true (hall e he hb)
  · rw [getD_set_ne false hij] at hl
    exact getD_set_true (h j o ho hj hl e he hb)
/-- Where the region stands: the first m1 as listed1 says, the variables of E not made yet, those of D made, nothing later done. -/
structure At3 (m1 m2 n : Nat) (listed1 listed : Array Bool) (E : List Nat) (D : List (Nat × Nat)) : Prop where
  size1 : listed1.size = m1
  size : listed.size = n
  same : ∀ i, i < m1 → listed[i]? = listed1[i]?
  rest : ∀ i, m2 ≤ i → i < n → listed[i]? = some false
  mid : ∀ i, m1 ≤ i → i < m2 → listed[i]? = some (decide (i ∉ E))
  inE : ∀ i ∈ E, m1 ≤ i ∧ i < m2
  nodE : E.Nodup
  inD : ∀ p ∈ D, m1 ≤ p.1 ∧ p.1 < m2 ∧ p.1 ∉ E
  nodD : (D.map (·.1)).Nodup
  all : ∀ i, m1 ≤ i → i < m2 → i ∈ E ∨ ∃ k, (i, k) ∈ D
theorem At3.set {m1 m2 n i : Nat} {listed1 listed : Array Bool} {E : List Nat} {D : List (Nat × Nat)} (hn : m2 ≤ n) (h12 : m1 ≤ m2) (h : At3 m1 m2 n listed1 listed E D) (hi : i < m1) : At3 m1 m2 n (listed1.setIfInBounds i true) (listed.setIfInBounds i true) E D := by
  refine ⟨by simp [h.size1], by simp [h.size], fun j hj => ?_, fun j hj hn => ?_, fun j hj hm => ?_, h.inE, h.nodE, h.inD, h.nodD, h.all⟩
  · rw [Array.getElem?_setIfInBounds, Array.getElem?_setIfInBounds, h.same j hj, h.size, h.size1]
    by_cases hij : i = j
    · subst hij; simp [hi, show i < n by omega]
    · simp [hij]
  · rw [Array.getElem?_setIfInBounds, if_neg (by omega)]; exact h.rest j hj hn
  · rw [Array.getElem?_setIfInBounds, if_neg (by omega)]; exact h.mid j hj hm
theorem At3.make {m1 m2 n i k : Nat} {listed1 listed : Array Bool} {E : List Nat} {D : List (Nat × Nat)} (hn : m2 ≤ n) (h : At3 m1 m2 n listed1 listed E D) (hi : i ∈ E) : At3 m1 m2 n listed1 (listed.setIfInBounds i true) (E.erase i) ((i, k) :: D) := by
  have hb := h.inE i hi
  refine ⟨h.size1, by simp [h.size], fun j hj => ?_, fun j hj hn => ?_, fun j hj hm => ?_, fun j hj => h.inE j (List.mem_of_mem_erase hj), h.nodE.erase i, fun p hp => ?_, ?_, fun j hj hm => ?_⟩
  · rw [Array.getElem?_setIfInBounds, if_neg (by omega)]; exact h.same j hj
  · rw [Array.getElem?_setIfInBounds, if_neg (by omega)]; exact h.rest j hj hn
  · by_cases hij : i = j
    · subst hij
      have : i ∉ E.erase i := fun hm => (List.Nodup.mem_erase_iff h.nodE).1 hm |>.1 rfl
      simp [this, h.size, show i < n by omega]
    · rw [Array.getElem?_setIfInBounds, if_neg hij, h.mid j hj hm]
      simp [List.mem_erase_of_ne (Ne.symm hij)]
  · rcases List.mem_cons.1 hp with rfl | hp
    · exact ⟨hb.1, hb.2, fun hm => (List.Nodup.mem_erase_iff h.nodE).1 hm |>.1 rfl⟩
    · have q := h.inD p hp
      exact ⟨q.1, q.2.1, fun hm => q.2.2 (List.mem_of_mem_erase hm)⟩
  · refine List.nodup_cons.2 ⟨fun hm => ?_, h.nodD⟩
    obtain ⟨p, hp, he⟩ := List.mem_map.1 hm
    have := (h.inD p hp).2.2
    simp only at he
    rw [he] at this
    exact this hi
  · by_cases hij : i = j
    · subst hij; exact .inr ⟨k, by simp⟩
    · rcases h.all j hj hm with h1 | ⟨k', h1⟩
      · exact .inl ((List.mem_erase_of_ne (Ne.symm hij)).2 h1)
      · exact .inr ⟨k', by simp [h1]⟩

/-- What is asked of the region's text: quiet operations up to m1, variables made up to m2, the rest one by one behind them all. -/
def slot (ops : Array Oper) (i : Nat) : Tmp := ((ops[i]?).bind (·.dst)).getD 0
end
end Go.Proofs.Ytepaapiflkkghaa

/- A region that draws its order of evaluation, makes variables and stores into them as soon as it may, ahead of readings that don't touch them: one walk of the readings and calls serves every order. Over any program. -/
namespace Go.Proofs.Ytepaapiflkkghaa
open Go.RowKit
section
variable {P : Program} {ops ops1 : Array Oper} {md : Region.Mode}
structure AtV (m1 m2 d n : Nat) (listed1 listed : Array Bool) (E U : List Nat) (D : List (Nat × Nat)) : Prop where
  size1 : listed1.size = m1
  size : listed.size = n
  same : ∀ i, i < m1 → listed[i]? = listed1[i]?
  mid : ∀ i, m1 ≤ i → i < m2 → listed[i]? = some (decide (i ∉ E))
  late : ∀ i, m1 ≤ i → i < m2 → listed[i + d]? = some (decide (i ∉ U))
  inE : ∀ i ∈ E, m1 ≤ i ∧ i < m2
  nodE : E.Nodup
  inU : ∀ i ∈ U, m1 ≤ i ∧ i < m2
  nodU : U.Nodup
  EU : ∀ i ∈ E, i ∈ U
  inD : ∀ p ∈ D, m1 ≤ p.1 ∧ p.1 < m2 ∧ p.1 ∉ E
  nodD : (D.map (·.1)).Nodup
  all : ∀ i, m1 ≤ i → i < m2 → i ∈ E ∨ ∃ k, (i, k) ∈ D
theorem AtV.set {m1 m2 d n i : Nat} {listed1 listed : Array Bool} {E U : List Nat} {D : List (Nat × Nat)} (hn : m2 + d = n) (h12 : m1 + d = m2) (h : AtV m1 m2 d n listed1 listed E U D) (hi : i < m1) : AtV m1 m2 d n (listed1.setIfInBounds i true) (listed.setIfInBounds i true) E U D := by
  refine ⟨by simp [h.size1], by simp [h.size], fun j hj => ?_, fun j hj hm => ?_, fun j hj hm => ?_, h.inE, h.nodE, h.inU, h.nodU, h.EU, h.inD, h.nodD, h.all⟩
  · rw [Array.getElem?_setIfInBounds, Array.getElem?_setIfInBounds, h.same j hj, h.size, h.size1]
    by_cases hij : i = j
    · subst hij; simp [hi, show i < n by omega]
    · simp [hij]
  · rw [Array.getElem?_setIfInBounds, if_neg (by omega)]; exact h.mid j hj hm
  · rw [Array.getElem?_setIfInBounds, if_neg (by omega)]; exact h.late j hj hm
theorem AtV.make {m1 m2 d n i k : Nat} {listed1 listed : Array Bool} {E U : List Nat} {D : List (Nat × Nat)} (hn : m2 + d = n) (h12 : m1 + d = m2) (h : AtV m1 m2 d n listed1 listed E U D) (hi : i ∈ E) : AtV m1 m2 d n listed1 (listed.setIfInBounds i true) (E.erase i) U ((i, k) :: D) := by
  have hb := h.inE i hi
  refine ⟨h.size1, by simp [h.size], fun j hj => ?_, fun j hj hm => ?_, fun j hj hm => ?_, fun j hj => h.inE j (List.mem_of_mem_erase hj), h.nodE.erase i, h.inU, h.nodU, fun j hj => h.EU j (List.mem_of_mem_erase hj), fun p hp => ?_, ?_, fun j hj hm => ?_⟩
  · rw [Array.getElem?_setIfInBounds, if_neg (by omega)]; exact h.same j hj
  · by_cases hij : i = j
    · subst hij
      have : i ∉ E.erase i := fun hm => (List.Nodup.mem_erase_iff h.nodE).1 hm |>.1 rfl
      simp [this, h.size, show i < n by omega]
    · rw [Array.getElem?_setIfInBounds, if_neg hij, h.mid j hj hm]
      simp [List.mem_erase_of_ne (Ne.symm hij)]
  · rw [Array.getElem?_setIfInBounds, if_neg (by omega)]; exact h.late j hj hm
  · rcases List.mem_cons.1 hp with rfl | hp
    · exact ⟨hb.1, hb.2, fun hm => (List.Nodup.mem_erase_iff h.nodE).1 hm |>.1 rfl⟩
    · have q := h.inD p hp
      exact ⟨q.1, q.2.1, fun hm => q.2.2 (List.mem_of_mem_erase hm)⟩
  · refine List.nodup_cons.2 ⟨fun hm => ?_, h.nodD⟩
    obtain ⟨p, hp, he⟩ := List.mem_map.1 hm
    have := (h.inD p hp).2.2
    simp only at he
    rw [he] at this
    exact this hi
  · by_cases hij : i = j
    · subst hij; exact .inr ⟨k, by simp⟩
    · rcases h.all j hj hm with h1 | ⟨k', h1⟩
      · exact .inl ((List.mem_erase_of_ne (Ne.symm hij)).2 h1)
      · exact .inr ⟨k', by simp [h1]⟩
theorem AtV.store {m1 m2 d n i : Nat} {listed1 listed : Array Bool} {E U : List Nat} {D : List (Nat × Nat)} (hn : m2 + d = n) (h12 : m1 + d = m2) (h : AtV m1 m2 d n listed1 listed E U D) (hi : i ∈ U) (hE : E = []) : AtV m1 m2 d n listed1 (listed.setIfInBounds (i + d) true) E (U.erase i) D := by
  have hb := h.inU i hi
  subst hE
  refine ⟨h.size1, by simp [h.size], fun j hj => ?_, fun j hj hm => ?_, fun j hj hm => ?_, h.inE, h.nodE, fun j hj => h.inU j (List.mem_of_mem_erase hj), h.nodU.erase i, fun j hj => absurd hj (by simp), h.inD, h.nodD, h.all⟩
  · rw [Array.getElem?_setIfInBounds, if_neg (by omega)]; exact h.same j hj
  · rw [Array.getElem?_setIfInBounds, if_neg (by omega)]; exact h.mid j hj hm
  · by_cases hij : i = j
    · subst hij
      have : i ∉ U.erase i := fun hm => (List.Nodup.mem_erase_iff h.nodU).1 hm |>.1 rfl
      simp [this, h.size, show i + d < n by omega]
    · rw [Array.getElem?_setIfInBounds, if_neg (by omega), h.late j hj hm]
      simp [List.mem_erase_of_ne (Ne.symm hij)]
end
end Go.Proofs.Ytepaapiflkkghaa

/- A drawn region that makes three variables and stores into them, each as soon as it may. Over any program. -/
namespace Go.Proofs.Ytepaapiflkkghaa
open Go.RowKit
section
variable {P : Program}
theorem Kn.three {W w1 : World} {L : List (Nat × List Value)} {k1 k2 k3 : Nat} {v1 v2 v3 : List Value} {t1 t2 t3 : TypeId} (h : Kn W L) (hb : Below W.heap.size W w1) (g1 : W.heap.size ≤ k1) (g2 : W.heap.size ≤ k2) (g3 : W.heap.size ≤ k3) (hn : k1 ≠ k2 ∧ k1 ≠ k3 ∧ k2 ≠ k3) (c1 : w1.heap[k1]? = some (.cells v1.toArray t1)) (c2 : w1.heap[k2]? = some (.cells v2.toArray t2)) (c3 : w1.heap[k3]? = some (.cells v3.toArray t3)) : Kn w1 ((k1, v1) :: (k2, v2) :: (k3, v3) :: L) := by
  have h1 := h.two hb g2 g3 hn.2.2 c2 c3
  refine ⟨?_, fun p hp => ?_⟩
  · rw [List.map_cons, List.nodup_cons]
    refine ⟨fun hm => ?_, h1.nd⟩
    rcases List.mem_cons.1 hm with e | hm
    · exact hn.1 e
    · rcases List.mem_cons.1 hm with e | hm
      · exact hn.2.1 e
      · obtain ⟨p, hp, e⟩ := List.mem_map.1 hm
        have := (h.all p hp).lt
        omega
  · rcases List.mem_cons.1 hp with rfl | hp
    · exact KBlk.of c1
    · exact h1.all p hp
end
end Go.Proofs.Ytepaapiflkkghaa

/- Rows that are never opened, among the known blocks: thirty-two bytes, numbers modulo P, fractions. -/
namespace Go.Proofs.Ytepaapiflkkghaa
open Go.RowKit
set_option linter.unusedSimpArgs false
theorem Kn.rng {w : World} {L : List (Nat × List Value)} (h : Kn w L) (i : Nat) {k : Nat} {vs : List Value} (hp : L[i]? = some (k, vs)) : w.rangeAt k 0 vs := fun j v hv => by
  rw [Nat.zero_add]
  exact (h.all _ (List.mem_of_getElem? hp)).cell j v hv
theorem Kn.there {w : World} {L : List (Nat × List Value)} (h : Kn w L) (i : Nat) {k : Nat} {vs us : List Value} (hp : L[i]? = some (k, vs)) (hl : us.length = vs.length) : w.there k 0 us.length := fun j hj => by
  have hb := h.all _ (List.mem_of_getElem? hp)
  rw [Nat.zero_add]
  refine ⟨?_, hb.fz _⟩
  have hj' : j < vs.length := by omega
  rw [hb.cell j vs[j] (List.getElem?_eq_getElem hj')]
  rfl
theorem Kn.put {w : World} {L : List (Nat × List Value)} {k : Nat} {vs us : List Value} (h : Kn w ((k, vs) :: L)) (hl : us.length = vs.length) : Kn (w.setCells k 0 us) ((k, us) :: L) := by
  have ht := h.there 0 rfl hl
  refine ⟨h.nd, fun p hp => ?_⟩
  rcases List.mem_cons.1 hp with rfl | hp
  · refine ⟨by rw [I.size_setCells]; exact (h.all _ List.mem_cons_self).lt, fun j v hv => ?_, fun j => by rw [World.frozen?_setCells]; exact (h.all _ List.mem_cons_self).fz j⟩
    have := World.rangeAt_setCells_same w k 0 us ht j v hv
    rwa [Nat.zero_add] at this
  · have hb := h.all p (List.mem_cons_of_mem _ hp)
    have hk : p.1 ≠ k := fun e => by
      have := (List.nodup_cons.1 h.nd).1
      exact this (List.mem_map.2 ⟨p, hp, e⟩)
    exact ⟨by rw [I.size_setCells]; exact hb.lt, fun j v hv => by rw [World.cell?_setCells_out k us 0 w ⟨p.1, j, none⟩ (fun e _ => absurd e hk)]; exact hb.cell j v hv, fun j => by rw [World.frozen?_setCells]; exact hb.fz j⟩
/-- A row read whole, behind a guard too. -/
theorem wp_ldW {P : Program} {ops : Array Oper} {rest : List Oper} {o : Oper} {a : Act} {w : World} {Q : Exit → Act → World → Prop} (hgd : Region.wanted o (yielded ops a.tmps) = true) (ty : TypeId) (x : Operand) (ho : o.op = .load ty x)
    (b f : Nat) (hx : a.eval x = .pointer (some ⟨b, f, none⟩)) (cs : List Value) (d : TypeDesc) (hc : w.rangeAt b f cs) (hu : P.underlying ty = some d) (hd : d.isRow = true) (hi : (P.info? ty).map (·.size) = some cs.length)
    (h : wpList P ops Q rest (a.put o.dst (.agg cs.toArray)) w) : wpList P ops Q (o :: rest) a w :=
  wpList_step fun K hK => by simp only [hgd, if_true]; exact wp_load_mid ty x ho b f hx cs d hc hu hd hi (hK _ _ h)
end Go.Proofs.Ytepaapiflkkghaa
