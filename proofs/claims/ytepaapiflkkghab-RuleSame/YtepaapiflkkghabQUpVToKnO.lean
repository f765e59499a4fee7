/- Texts that were joined: UpV, UpV3, KnO. -/
import Derived.Test.YtepaapiflkkghabQUpToUpA
import Derived.Test.YtepaapiflkkghabQKn
import Derived.Test.YtepaapiflkkghabQPrimeToIB
/- A region that draws its order of evaluation, makes variables and stores into them as soon as it may, ahead of readings that don't touch them: one walk of the readings and calls serves every order. Over any program. -/
namespace Go.Proofs.Ytepaapiflkkghab
open Go.RowKit
section
variable {P : Program} {ops ops1 : Array Oper} {md : Region.Mode}
structure AtV (m1 m2 d n : Nat) (listed1 listed : Array Bool) (E U : List Nat) (D : List (Nat × Nat)) : Prop where
  size1 : listed1.size = m1
  size : listed.size = n
  same : ∀ i, i < m1 → listed[i]? = listed1[i]?
  mid : ∀ i, m1 ≤ i → i < m2 → listed[i]? = some (decide (i ∉ E))
  late : ∀ i, m1 ≤ i → i < m2 → listed[i + d]? = some (decide (i ∉ U))
  inE : ∀ i ∈ E, m1 ≤ i ∧ i < m2
  nodE : E.Nodup
  inU : ∀ i ∈ U, m1 ≤ i ∧ i < m2
  nodU : U.Nodup
  EU : ∀ i ∈ E, i ∈ U
  inD : ∀ p ∈ D, m1 ≤ p.1 ∧ p.1 < m2 ∧ p.1 ∉ E
  nodD : (D.map (·.1)).Nodup
  all : ∀ i, m1 ≤ i → i < m2 → i ∈ E ∨ ∃ k, (i, k) ∈ D
theorem AtV.set {m1 m2 d n i : Nat} {listed1 listed : Array Bool} {E U : List Nat} {D : List (Nat × Nat)} (hn : m2 + d = n) (h12 : m1 + d = m2) (h : AtV m1 m2 d n listed1 listed E U D) (hi : i < m1) : AtV m1 m2 d n (listed1.setIfInBounds i true) (listed.setIfInBounds i true) E U D := by
  refine ⟨by simp [h.size1], by simp [h.size], fun j hj => ?_, fun j hj hm => ?_, fun j hj hm => ?_, h.inE, h.nodE, h.inU, h.nodU, h.EU, h.inD, h.nodD, h.all⟩
  · rw [Array.getElem?_setIfInBounds, Array.getElem?_setIfInBounds, h.same j hj, h.size, h.size1]
    by_cases hij : i = j
    · subst hij; simp [hi, show i < n by omega]
    · simp [hij]
  · rw [Array.getElem?_setIfInBounds, if_neg (by omega)]; exact h.mid j hj hm
  · rw [Array.getElem?_setIfInBounds, if_neg (by omega)]; exact h.late j hj hm
theorem AtV.make {m1 m2 d n i k : Nat} {listed1 listed : Array Bool} {E U : List Nat} {D : List (Nat × Nat)} (hn : m2 + d = n) (h12 : m1 + d = m2) (h : AtV m1 m2 d n listed1 listed E U D) (hi : i ∈ E) : AtV m1 m2 d n listed1 (listed.setIfInBounds i true) (E.erase i) U ((i, k) :: D) := by
  have hb := h.inE i hi
  refine ⟨h.size1, by simp [h.size], fun j hj => ?_, fun j hj hm => ?_, fun j hj hm => ?_, fun j hj => h.inE j (List.mem_of_mem_erase hj), h.nodE.erase i, h.inU, h.nodU, fun j hj => h.EU j (List.mem_of_mem_erase hj), fun p hp => ?_, ?_, fun j hj hm => ?_⟩
  · rw [Array.getElem?_setIfInBounds, if_neg (by omega)]; exact h.same j hj
  · by_cases hij : i = j
    · subst hij
      have : i ∉ E.erase i := fun hm => (List.Nodup.mem_erase_iff h.nodE).1 hm |>.1 rfl
      simp [this, h.size, show i < n by omega]
    · rw [Array.getElem?_setIfInBounds, if_neg hij, h.mid j hj hm]
      simp [List.mem_erase_of_ne (Ne.symm hij)]
  · rw [Array.getElem?_setIfInBounds, if_neg (by omega)]; exact h.late j hj hm
  · rcases List.mem_cons.1 hp with rfl | hp
    · exact ⟨hb.1, hb.2, fun hm => (List.Nodup.mem_erase_iff h.nodE).1 hm |>.1 rfl⟩
    · have q := h.inD p hp
      exact ⟨q.1, q.2.1, fun hm => q.2.2 (List.mem_of_mem_erase hm)⟩
  · refine List.nodup_cons.2 ⟨fun hm => ?_, h.nodD⟩
    obtain ⟨p, hp, he⟩ := List.mem_map.1 hm
    have := (h.inD p hp).2.2
    simp only at he
    rw [he] at this
    exact this hi
  · by_cases hij : i = j
    · subst hij; exact .inr ⟨k, by simp⟩
    · rcases h.all j hj hm with h1 | ⟨k', h1⟩
      · exact .inl ((List.mem_erase_of_ne (Ne.symm hij)).2 h1)
      · exact .inr ⟨k', by simp [h1]⟩
theorem AtV.store {m1 m2 d n i : Nat} {listed1 listed : Array Bool} {E U : List Nat} {D : List (Nat × Nat)} (hn : m2 + d = n) (h12 : m1 + d = m2) (h : AtV m1 m2 d n listed1 listed E U D) (hi : i ∈ U) (hE : E = []) : AtV m1 m2 d n listed1 (listed.setIfInBounds (i + d) true) E (U.erase i) D := by
  have hb := h.inU i hi
  subst hE
  refine ⟨h.size1, by simp [h.size], fun j hj => ?_, fun j hj hm => ?_, fun j hj hm => ?_, h.inE, h.nodE, fun j hj => h.inU j (List.mem_of_mem_erase hj), h.nodU.erase i, fun j hj => absurd hj (by simp), h.inD, h.nodD, h.all⟩
  · rw [Array.getElem?_setIfInBounds, if_neg (by omega)]; exact h.same j hj
  · rw [Array.getElem?_setIfInBounds, if_neg (by omega)]; exact h.mid j hj hm
  · by_cases hij : i = j
    · subst hij
      have : i ∉ U.erase i := fun hm => (List.Nodup.mem_erase_iff h.nodU).1 hm |>.1 rfl
      simp [this, h.size, show i + d < n by omega]
    · rw [Array.getElem?_setIfInBounds, if_neg (by omega), h.late j hj hm]
      simp [List.mem_erase_of_ne (Ne.symm hij)]
end
end Go.Proofs.Ytepaapiflkkghab

/- A drawn region that makes three variables and stores into them, each as soon as it may. Over any program. -/
namespace Go.Proofs.Ytepaapiflkkghab
open Go.RowKit
section
variable {P : Program}
theorem Kn.three {W w1 : World} {L : List (Nat × List Value)} {k1 k2 k3 : Nat} {v1 v2 v3 : List Value} {t1 t2 t3 : TypeId} (h : Kn W L) (hb : Below W.heap.size W w1) (g1 : W.heap.size ≤ k1) (g2 : W.heap.size ≤ k2) (g3 : W.heap.size ≤ k3) (hn : k1 ≠ k2 ∧ k1 ≠ k3 ∧ k2 ≠ k3) (c1 : w1.heap[k1]? = some (.cells v1.toArray t1)) (c2 : w1.heap[k2]? = some (.cells v2.toArray t2)) (c3 : w1.heap[k3]? = some (.cells v3.toArray t3)) : Kn w1 ((k1, v1) :: (k2, v2) :: (k3, v3) :: L) := by
  have h1 := h.two hb g2 g3 hn.2.2 c2 c3
  refine ⟨?_, fun p hp => ?_⟩
  · rw [List.map_cons, List.nodup_cons]
    refine ⟨fun hm => ?_, h1.nd⟩
    rcases List.mem_cons.1 hm with e | hm
    · exact hn.1 e
    · rcases List.mem_cons.1 hm with e | hm
      · exact hn.2.1 e
      · obtain ⟨p, hp, e⟩ := List.mem_map.1 hm
        have := (h.all p hp).lt
        omega
  · rcases List.mem_cons.1 hp with rfl | hp
    · exact KBlk.of c1
    · exact h1.all p hp
end
end Go.Proofs.Ytepaapiflkkghab

/- Rows that are never opened, among the known blocks: thirty-two bytes, numbers modulo P, fractions. -/
namespace Go.Proofs.Ytepaapiflkkghab
open Go.RowKit
set_option linter.unusedSimpArgs false
theorem Kn.rng {w : World} {L : List (Nat × List Value)} (h : Kn w L) (i : Nat) {k : Nat} {vs : List Value} (hp : L[i]? = some (k, vs)) : w.rangeAt k 0 vs := fun j v hv => by
  rw [Nat.zero_add]
  exact (h.all _ (List.mem_of_getElem? hp)).cell j v hv
theorem Kn.there {w : World} {L : List (Nat × List Value)} (h : Kn w L) (i : Nat) {k : Nat} {vs us : List Value} (hp : L[i]? = some (k, vs)) (hl : us.length = vs.length) : w.there k 0 us.length := fun j hj => by
  have hb := h.all _ (List.mem_of_getElem? hp)
  rw [Nat.zero_add]
  refine ⟨?_, hb.fz _⟩
  have hj' : j < vs.length := by omega
  rw [hb.cell j vs[j] (List.getElem?_eq_getElem hj')]
  rfl
theorem Kn.put {w : World} {L : List (Nat × List Value)} {k : Nat} {vs us : List Value} (h : Kn w ((k, vs) :: L)) (hl : us.length = vs.length) : Kn (w.setCells k 0 us) ((k, us) :: L) := by
  have ht := h.there 0 rfl hl
  refine ⟨h.nd, fun p hp => ?_⟩
  rcases List.mem_cons.1 hp with rfl | hp
  · refine ⟨by rw [I.size_setCells]; exact (h.all _ List.mem_cons_self).lt, fun j v hv => ?_, fun j => by rw [World.frozen?_setCells]; exact (h.all _ List.mem_cons_self).fz j⟩
    have := World.rangeAt_setCells_same w k 0 us ht j v hv
    rwa [Nat.zero_add] at this
  · have hb := h.all p (List.mem_cons_of_mem _ hp)
    have hk : p.1 ≠ k := fun e => by
      have := (List.nodup_cons.1 h.nd).1
      exact this (List.mem_map.2 ⟨p, hp, e⟩)
    exact ⟨by rw [I.size_setCells]; exact hb.lt, fun j v hv => by rw [World.cell?_setCells_out k us 0 w ⟨p.1, j, none⟩ (fun e _ => absurd e hk)]; exact hb.cell j v hv, fun j => by rw [World.frozen?_setCells]; exact hb.fz j⟩
/-- A row read whole, behind a guard too. -/
theorem wp_ldW {P : Program} {ops : Array Oper} {rest : List Oper} {o : Oper} {a : Act} {w : World} {Q : Exit → Act → World → Prop} (hgd : Region.wanted o (yielded ops a.tmps) = true) (ty : TypeId) (x : Operand) (ho : o.op = .load ty x)
    (b f : Nat) (hx : a.eval x = .pointer (some ⟨b, f, none⟩)) (cs : List Value) (d : TypeDesc) (hc : w.rangeAt b f cs) (hu : P.underlying ty = some d) (hd : d.isRow = true) (hi : (P.info? ty).map (·.size) = some cs.length)
    (h : wpList P ops Q rest (a.put o.dst (.agg cs.toArray)) w) : wpList P ops Q (o :: rest) a w :=
  wpList_step fun K hK => by simp only [hgd, if_true]; exact wp_load_mid ty x ho b f hx cs d hc hu hd hi (hK _ _ h)
end Go.Proofs.Ytepaapiflkkghab
