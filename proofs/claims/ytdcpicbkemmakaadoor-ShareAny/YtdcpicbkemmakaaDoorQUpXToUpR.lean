/- Texts that were joined: UpX, UpR. -/
import Derived.Test.YtdcpicbkemmakaaDoorQUpMToUpS
import Derived.Deep.MidRow
import Derived.Laws.IdiomCopy
/- As UpS's law, where one operation that reads no memory (an extract, a move) may come late: it is taken as soon as it can be. -/
namespace Go.Proofs.YtdcpicbkemmakaaDoor
open Go.RowKit
section
variable {P : Program}
end
end Go.Proofs.YtdcpicbkemmakaaDoor

/- A drawn region that ends in two rows stored whole (as in 'return f(x), y'): each early operation yields a value with a property that stays; some of them (loads of rows that nobody here writes, builds) may come behind the first store: they are taken as soon as they can be. -/
namespace Go.Proofs.YtdcpicbkemmakaaDoor
open Go.RowKit
section
variable {P : Program}
def lateR (l : List Oper) (m : Nat) (fs : List Nat) : Bool :=
  ((List.range m).all fun i => fs.contains i || waitsC l 16 m i) && ((List.range l.length).all fun k => decide (k ≤ m) || (match l[k]? with | some o => o.after.any fun e => Region.binds .any e && decide (m ≤ e.on) | none => true)) &&
  (Region.ready .any l.toArray ((List.range l.length).map fun i => decide (i < m)).toArray == [m]) && (Region.ready .any l.toArray (((List.range l.length).map fun i => decide (i < m)).toArray.setIfInBounds m true) == [m + 1]) && (Region.ready .any l.toArray ((((List.range l.length).map fun i => decide (i < m)).toArray.setIfInBounds m true).setIfInBounds (m + 1) true) == []) && decide (l.length = m + 2)
def floatR (l : List Oper) (m : Nat) (fs : List Nat) : Bool := fs.all fun f => decide (f < m) && match l[f]? with
  | some of => (of.after.all fun e => !Region.binds .any e || fs.contains e.on || waitsC l 16 m e.on) && ((List.range l.length).all fun j => (j == f) || waitsC l 16 f j || (match l[j]? with | some oj => (oj.after.any fun e => Region.binds .any e && (e.on == f)) || of.apart l.toArray oj | none => true))
  | none => false
/-- The blocks that stood are as they were, but two. -/
def SameBut (w : World) (k1 k2 : Nat) (W : World) : Prop := ∀ k, k < w.heap.size → k ≠ k1 → k ≠ k2 → W.heap[k]? = w.heap[k]?
theorem sameBut_below {w W : World} {k1 k2 : Nat} (h : Below w.heap.size w W) : SameBut w k1 k2 W := fun k hk _ _ => h.block k hk
theorem heap_setCells_ne (k j : Nat) (hj : j ≠ k) : ∀ (vs : List Value) (o : Nat) (w : World), (w.setCells k o vs).heap[j]? = w.heap[j]?
  | [], _, _ => rfl
  | v :: r, o, w => by
    rw [World.setCells, heap_setCells_ne k j hj r]
    simp [World.setCell, Array.getElem?_modify, Ne.symm hj]
theorem SameBut.put {w W : World} {k1 k2 k : Nat} (h : SameBut w k1 k2 W) (hk : k = k1 ∨ k = k2) (o : Nat) (vs : List Value) : SameBut w k1 k2 (W.setCells k o vs) := fun j hj h1 h2 => by
  rw [heap_setCells_ne k j (by rcases hk with rfl | rfl <;> assumption)]
  exact h j hj h1 h2
theorem there_setCells {w : World} {k j o n : Nat} (hj : j ≠ k) (h : w.there j o n) (vs : List Value) (p : Nat) : (w.setCells k p vs).there j o n := fun q hq => by
  rw [World.cell?_setCells_out k vs p w ⟨j, o + q, none⟩ (fun e _ => absurd e hj), World.frozen?_setCells]
  exact h q hq
theorem wpOp_storeR {ops : Array Oper} {Q : Exit → Act → World → Prop} {i : Nat} {op : Oper} {a : Act} {w : World} {K : Act → World → Prop} (hi : ops[i]? = some op) (hg : op.guard = none) (ty : TypeId) (x y : Operand) (ho : op.op = .store ty x y)
    (b : Nat) (cs : List Value) (hx : a.eval x = .pointer (some ⟨b, 0, none⟩)) (hy : a.eval y = .agg cs.toArray) (ht : w.there b 0 cs.length) (hz : (P.info? ty).map (·.size) = some cs.length) (h1 : ∀ v ∈ cs, v.oneCell' = true)
    (h : K (a.put op.dst undef) (w.setCells b 0 cs)) : wpOp P ops Q i K a w := by
  unfold wpOp
  simp only [hi]
  rw [if_pos (by simp [Region.wanted, hg])]
  exact .inl (wp_store_mid ty x y ho b 0 cs.toArray hx hy (by rw [List.size_toArray]; exact ht) (by rw [List.size_toArray]; exact hz) (all_oneCell_toArray h1) h)
/-- What the last two are. -/
structure TwoSt (P : Program) (o1 o2 : Oper) (t1 t2 : TypeId) (x1 y1 x2 y2 : Operand) (c1 c2 : List Value) : Prop where
  g1 : o1.guard = none
  g2 : o2.guard = none
  d1 : o1.dst = none
  d2 : o2.dst = none
  e1 : o1.op = .store t1 x1 y1
  e2 : o2.op = .store t2 x2 y2
  i1 : (P.info? t1).map (·.size) = some c1.length
  i2 : (P.info? t2).map (·.size) = some c2.length
  s1 : ∀ v ∈ c1, v.oneCell' = true
  s2 : ∀ v ∈ c2, v.oneCell' = true
structure TwoAt (a : Act) (w : World) (x1 y1 x2 y2 : Operand) (k1 k2 : Nat) (c1 c2 : List Value) : Prop where
  x1 : a.eval x1 = .pointer (some ⟨k1, 0, none⟩)
  y1 : a.eval y1 = .agg c1.toArray
  x2 : a.eval x2 = .pointer (some ⟨k2, 0, none⟩)
  y2 : a.eval y2 = .agg c2.toArray
  t1 : w.there k1 0 c1.length
  t2 : w.there k2 0 c2.length
theorem wp_region_ret2 {id : Nat} {Q : Exit → Act → World → Prop} {a : Act} {w : World} {l : List Oper} (m : Nat) (fs : List Nat) (Φ : List MP) (A : (Nat → Value) → Act) (o1 o2 : Oper) (t1 t2 : TypeId) (x1 y1 x2 y2 : Operand) (k1 k2 : Nat) (c1 c2 : List Value) (hm : P.follows .mixedOrders = true) (hS : monoB l = true) (hl : Φ.length = m) (hlm : m < l.length) (hwa : lateR l m fs = true) (hfl : floatR l m fs = true) (hN : Region.noSelect l.toArray = true) (hQp : ∀ c a d v w, Q (.panic c) (a.put d v) w → Q (.panic c) a w)
    (ho1 : l[m]? = some o1) (ho2 : l[m + 1]? = some o2) (hT : TwoSt P o1 o2 t1 t2 x1 y1 x2 y2 c1 c2) (hkk : k1 ≠ k2)
    (hy : ∀ f ∈ fs, ∀ of, l[f]? = some of → ∃ v, Φ[f]? = some (MP.eq v) ∧ ∀ vals w1, Hid (Below w.heap.size w w1) → (∀ e ∈ of.after, Region.binds .any e = true → (Φ.getD e.on MP.any).p (vals e.on) w1) → YieldsIf P l.toArray (SameBut w k1 k2) of v (A vals))
    (hA : ∀ vals, putsV l a vals l.length = A vals) (hst : StepsAll P l Φ A a w 0 (l.take m))
    (hlast : ∀ vals w', Hid (Below w.heap.size w w') → FinAll vals w' 0 Φ → Hid (∀ j, m ≤ j → j < l.length → vals j = ownV l a j) → TwoAt (A vals) w' x1 y1 x2 y2 k1 k2 c1 c2 ∧ ∀ w2, Hid (w2 = (w'.setCells k1 0 c1).setCells k2 0 c2) → Q .normal (A vals) w2) :
    (Code.region id l.toArray true).wp P Q a w := by
  simp only [lateR, Bool.and_eq_true, List.all_eq_true, List.mem_range, beq_iff_eq, decide_eq_true_eq] at hwa
  obtain ⟨⟨⟨⟨⟨hw1, hw2⟩, hr1⟩, hr2⟩, hr3⟩, hlen2⟩ := hwa
  simp only [floatR, List.all_eq_true, Bool.and_eq_true, decide_eq_true_eq] at hfl
  refine wp_region_held (S := SameBut w k1 k2) hm ?_
  simp only [monoB, List.all_eq_true, List.mem_range] at hS
  have hback : ∀ k o, l[k]? = some o → ∀ e ∈ o.after, Region.binds .any e = true → e.on < k := by
    intro k o ho e he hb
    have hlt : k < l.length := (List.getElem?_eq_some_iff.1 ho).1
    have := hS k hlt
    simp only [ho, Bool.and_eq_true, Array.all_eq_true_iff_forall_mem] at this
    simpa [hb] using this.1 e he
  have hdst : ∀ i j, i < j → j < l.length → ∀ d, dstL l i = some d → dstL l j ≠ some d := by
    intro i j hij hj d hd e
    have hlt : i < l.length := by omega
    have ho : l[i]? = some l[i] := List.getElem?_eq_getElem hlt
    have := hS i hlt
    simp only [ho, Bool.and_eq_true, List.all_eq_true, List.mem_range] at this
    have := this.2 j hj
    have hd' : l[i].dst = some d := by simpa [dstL, ho] using hd
    rw [hd', e] at this
    simp at this
    omega
  have core : ∀ (fuel : Nat) (U : List Nat) (listed : Array Bool) (vals : Nat → Value) (w1 : World), U.length ≤ fuel → listed.size = l.length → (∀ i, i < l.length → listed[i]? = some (decide (i ∉ U))) → (∀ i ∈ U, i < l.length) → U.Nodup → (∀ j, m ≤ j → j < l.length → j ∈ U) →
      (∀ i, i < m → i ∉ U → (Φ.getD i MP.any).p (vals i) w1) → (∀ i ∈ U, vals i = ownV l a i) → (∀ j o, l[j]? = some o → j ∉ U → ∀ e ∈ o.after, Region.binds .any e = true → e.on ∉ U) → Below w.heap.size w w1 → wpAnyH P .any l.toArray Q (SameBut w k1 k2) fuel listed (putsV l a vals l.length) w1 := by
    have done : ∀ (fuel : Nat) (U : List Nat) (listed : Array Bool) (vals : Nat → Value) (w1 : World), U.length ≤ fuel → listed.size = l.length → (∀ i, i < l.length → listed[i]? = some (decide (i ∉ U))) → U.Nodup → (∀ i ∈ U, i < l.length) → (∀ j, m ≤ j → j < l.length → j ∈ U) → (∀ j, j < m → j ∉ U) →
        (∀ i, i < m → i ∉ U → (Φ.getD i MP.any).p (vals i) w1) → (∀ i ∈ U, vals i = ownV l a i) → Below w.heap.size w w1 → wpAnyH P .any l.toArray Q (SameBut w k1 k2) fuel listed (putsV l a vals l.length) w1 := by
      intro fuel U listed vals w1 hU hs hl' hnd hin hmU hno hall hown hb
      have e1 : listed = ((List.range l.length).map fun i => decide (i < m)).toArray := by
        apply Array.ext_getElem?
        intro q
        rcases Nat.lt_or_ge q l.length with hq | hq
        · rw [hl' q hq]
          by_cases hqm : q < m
          · simp [hq, hqm, hno q hqm]
          · simp [hq, hqm, hmU q (by omega) hq]
        · rw [Array.getElem?_eq_none (by omega), Array.getElem?_eq_none (by simp; omega)]
      have hlen : 2 ≤ U.length := by
        have hsub : ∀ j ∈ [m, m + 1], j ∈ U := fun j hj => by
          rcases List.mem_cons.1 hj with rfl | hj
          · exact hmU _ (Nat.le_refl _) hlm
          · obtain rfl : j = m + 1 := by simpa using hj
            exact hmU _ (by omega) (by omega)
        have := (show [m, m + 1].Nodup by simp).length_le_of_subset hsub
        simpa using this
      obtain ⟨⟨q1, q2, q3, q4, q5, q6⟩, hK⟩ := hlast vals w1 hb (FinAll.of 0 Φ fun j hj => by rw [Nat.zero_add]; exact hall j (by omega) (hno j (by omega))) (fun j h1 h2 => hown j (hmU j h1 h2) : ∀ j, m ≤ j → j < l.length → vals j = ownV l a j)
      rw [hA]
      obtain ⟨f2, rfl⟩ : ∃ f2, fuel = f2 + 1 + 1 := ⟨fuel - 2, by omega⟩
      have hs1 := sameBut_below (k1 := k1) (k2 := k2) hb
      subst e1
      refine wpAnyH_all hr1 (by simp) fun i hi => ?_
      obtain rfl : i = m := by simpa using hi
      refine wpOp_storeR (op := o1) (by simpa using ho1) hT.g1 t1 x1 y1 hT.e1 k1 c1 q1 q2 q5 hT.i1 hT.s1 ⟨hs1.put (.inl rfl) _ _, ?_⟩
      rw [hT.d1]
      refine wpAnyH_all hr2 (by simp) fun i' hi' => ?_
      obtain rfl : i' = i + 1 := by simpa using hi'
      refine wpOp_storeR (op := o2) (by simpa using ho2) hT.g2 t2 x2 y2 hT.e2 k2 c2 q3 q4 (there_setCells (Ne.symm hkk) q6 _ _) hT.i2 hT.s2 ⟨(hs1.put (.inl rfl) _ _).put (.inr rfl) _ _, ?_⟩
      rw [hT.d2]
      exact wpAnyH_done hr3 (hK _ rfl) _
    intro fuel
    induction fuel with
    | zero =>
      intro U listed vals w1 hU hs hl' hin hnd hmU hall hown hcl hb
      have : U = [] := List.length_eq_zero_iff.1 (by omega)
      subst this
      exact absurd (hmU m (Nat.le_refl _) hlm) (by simp)
    | succ fuel ih =>
      intro U listed vals w1 hU hs hl' hin hnd hmU hall hown hcl hb
      by_cases hno : ∀ j, j < m → j ∉ U
      · exact done _ U listed vals w1 hU hs hl' hnd hin hmU hno hall hown hb
      by_cases hfr : ∃ f, f ∈ fs ∧ f ∈ U ∧ ∀ of, l[f]? = some of → ∀ e ∈ of.after, Region.binds .any e = true → e.on ∉ U
      · obtain ⟨f, hff, hiU, hdeps'⟩ := hfr
        have hlt := hin f hiU
        obtain ⟨of, hof⟩ : ∃ of, l[f]? = some of := ⟨l[f], List.getElem?_eq_getElem hlt⟩
        have hdeps := hdeps' of hof
        have hff2 := hfl f hff
        simp only [hof, Bool.and_eq_true, List.all_eq_true, List.mem_range, Array.all_eq_true_iff_forall_mem] at hff2
        obtain ⟨hfm, hfl1, hfl2⟩ := hff2
        obtain ⟨vf, hΦf, hy'⟩ := hy f hff of hof
        have hrd : f ∈ Region.ready .any l.toArray listed := by
          rw [mem_ready]
          refine ⟨by simp [hl' f hlt, hiU], of, by simp [hof], fun e he hbi => ?_⟩
          have hon := hback f of hof e he hbi
          simp [hl' e.on (by omega), hdeps e he hbi]
        have hyy := hy' vals w1 hb fun e he hbi => hall e.on (by have := hback f of hof e he hbi; omega) (hdeps e he hbi)
        rw [← hA] at hyy
        refine wpAnyH_first (by simpa using hof) (Region.noSelect_spec hN) (fun c a w h => hQp c a _ _ w h) fuel listed _ w1 ?_ hrd hyy (sameBut_below hb) ?_
        · intro j oj hoj hne hun hno2
          have hoj' : l[j]? = some oj := by simpa using hoj
          have hjl : j < l.length := (List.getElem?_eq_some_iff.1 hoj').1
          have := hfl2 j hjl
          rw [show (j == f) = false by simp [hne], Bool.false_or] at this
          simp only [hoj', Bool.or_eq_true] at this
          rcases this with h | h | h
          · have hjn := waitsC_out hcl 16 f j (fun o2 ho2 => by
              rw [hof] at ho2
              cases ho2
              exact hdeps) h
            rw [Array.getD_eq_getD_getElem?, hl' j hjl] at hun
            simp [hjn] at hun
          · obtain ⟨e, he, hb'⟩ := Array.any_eq_true'.1 h
            simp only [Bool.and_eq_true, beq_iff_eq] at hb'
            exact absurd hb'.2 (hno2 e he hb'.1)
          · exact h
        have hd : of.dst = dstL l f := by simp [dstL, hof]
        rw [hd, putsV_upd l.length hlt (fun j h1 h2 d => hdst f j h1 h2 d)]
        have hlen : (U.erase f).length + 1 = U.length := by
          rw [List.length_erase_of_mem hiU]
          have := List.length_pos_of_mem hiU
          omega
        refine ih (U.erase f) _ _ w1 (by omega) (by simp [hs]) (fun j hj => ?_) (fun j hj => hin j (List.mem_of_mem_erase hj)) (hnd.erase f) (fun j h1 h2 => (List.mem_erase_of_ne (by omega)).2 (hmU j h1 h2)) (fun j hj hjn => ?_) (fun j hj => ?_) (fun j oj hoj hjn e he hbi hmm => ?_) hb
        · rw [Array.getElem?_setIfInBounds]
          by_cases e : f = j
          · subst e
            have : f ∉ U.erase f := fun hm => (List.Nodup.mem_erase_iff hnd).1 hm |>.1 rfl
            simp [this, hs, hlt]
          · rw [if_neg e, hl' j hj]
            simp [List.mem_erase_of_ne (Ne.symm e)]
        · by_cases e : j = f
          · subst e
            unfold updV
            rw [if_pos rfl, List.getD_eq_getElem?_getD, hΦf, Option.getD_some]
            rfl
          · unfold updV
            rw [if_neg e]
            exact hall j hj fun hm => hjn ((List.mem_erase_of_ne e).2 hm)
        · have hne : j ≠ f := fun e => by
            subst e
            exact (List.Nodup.mem_erase_iff hnd).1 hj |>.1 rfl
          unfold updV
          rw [if_neg hne]
          exact hown j (List.mem_of_mem_erase hj)
        · have hmU := List.mem_of_mem_erase hmm
          by_cases e' : j = f
          · subst e'
            rw [hof] at hoj
            cases hoj
            exact hdeps e he hbi hmU
          · exact hcl j oj hoj (fun hm => hjn ((List.mem_erase_of_ne e').2 hm)) e he hbi hmU
      refine ⟨fun h0 => ?_, fun i hi => ?_⟩
      · have : U = [] := by
          refine Classical.byContradiction fun hne => ?_
          obtain ⟨i0, hi0⟩ := List.exists_mem_of_ne_nil _ hne
          obtain ⟨i, hi, hmin⟩ : ∃ i, i ∈ U ∧ ∀ j, j < i → j ∉ U := by
            induction i0 using Nat.strongRecOn with
            | _ j ihj =>
              by_cases hex : ∃ q, q < j ∧ q ∈ U
              · obtain ⟨q, hq, hqU⟩ := hex
                exact ihj q hq hqU
              · exact ⟨j, hi0, fun q hq hqU => hex ⟨q, hq, hqU⟩⟩
          have hlt := hin i hi
          have : i ∈ Region.ready .any l.toArray listed := by
            rw [mem_ready]
            refine ⟨by simp [hl' i hlt, hi], l[i], by simp [hlt], fun e he hbi => ?_⟩
            have hon := hback i l[i] (List.getElem?_eq_getElem hlt) e he hbi
            simp [hl' e.on (by omega), hmin e.on hon]
          rw [h0] at this
          cases this
        subst this
        exact absurd (hmU m (Nat.le_refl _) hlm) (by simp)
      · obtain ⟨hun, o, ho, hdep⟩ := mem_ready.1 hi
        have hlt : i < l.length := by simpa using (Array.getElem?_eq_some_iff.1 ho).1
        have ho' : l[i]? = some o := by simpa using ho
        have hiU : i ∈ U := by
          refine Classical.byContradiction fun hn => ?_
          simp [hl' i hlt, hn] at hun
        have hall' : ∀ e ∈ o.after, Region.binds .any e = true → e.on ∉ U := fun e he hbi hmm => by
          have hon := hback i o ho' e he hbi
          have h1 := hdep e he hbi
          simp [hl' e.on (by omega), hmm] at h1
        have him' : i < m := by
          refine Classical.byContradiction fun hge => ?_
          rcases Nat.lt_or_ge m i with h1 | h1
          · have h2 := hw2 i hlt
            rw [decide_eq_false (by omega), Bool.false_or] at h2
            simp only [ho'] at h2
            obtain ⟨e, he, hb'⟩ := Array.any_eq_true'.1 h2
            simp only [Bool.and_eq_true, decide_eq_true_eq] at hb'
            have hon := hback i o ho' e he hb'.1
            exact hall' e he hb'.1 (hmU e.on hb'.2 (by omega))
          · obtain rfl : i = m := by omega
            have hq : ∀ q, waitsC l 16 i q = true → q ∉ U := fun q hq => waitsC_out hcl 16 i q (fun o2 ho2 => by
              rw [ho'] at ho2
              cases ho2
              exact hall') hq
            refine hno fun j => ?_
            induction j using Nat.strongRecOn with
            | _ j ihj =>
              intro hj
              have h2 := hw1 j hj
              rw [Bool.or_eq_true] at h2
              rcases h2 with h2 | h2
              · have hjf : j ∈ fs := by simpa using h2
                refine fun hjU => hfr ⟨j, hjf, hjU, fun of hof e he hbi => ?_⟩
                have hff2 := hfl j hjf
                simp only [hof, Bool.and_eq_true, List.all_eq_true, List.mem_range, Array.all_eq_true_iff_forall_mem] at hff2
                have h3 := hff2.2.1 e he
                rw [hbi] at h3
                have hon := hback j of hof e he hbi
                simp only [Bool.not_true, Bool.false_or, Bool.or_eq_true] at h3
                rcases h3 with h3 | h3
                · exact ihj e.on hon (by omega)
                · exact hq e.on h3
              · exact hq j h2
        have st := StepsAll.at 0 (l.take m) hst i o (by rw [List.getElem?_take, if_pos him']; exact ho') vals w1 hb (show ∀ j, waitsOn l j (0 + i) = true → vals j = ownV l a j from fun j hj => by
          rw [Nat.zero_add] at hj
          unfold waitsOn at hj
          cases hoj : l[j]? with
          | none => simp [hoj] at hj
          | some oj =>
            simp only [hoj] at hj
            obtain ⟨e, he, hb'⟩ := Array.any_eq_true'.1 hj
            simp only [Bool.and_eq_true, beq_iff_eq] at hb'
            refine hown j (Classical.byContradiction fun hn => ?_)
            exact hcl j oj hoj hn e he hb'.1 (by rw [hb'.2]; exact hiU)) (fun e he hbi => by
          have hon := hback i o ho' e he hbi
          have h1 := hdep e he hbi
          refine hall e.on (by omega) fun hmU => ?_
          simp [hl' e.on (by omega), hmU] at h1)
        rw [Nat.zero_add, ← hA] at st
        unfold wpOp
        simp only [ho]
        rw [if_pos st.1]
        refine .inl (st.2.wp fun v w2 hv hb2 => ⟨sameBut_below (hb.trans (hb2.mono hb.size)), ?_⟩)
        have hd : o.dst = dstL l i := by simp [dstL, ho']
        rw [hd, putsV_upd l.length hlt (fun j h1 h2 d => hdst i j h1 h2 d)]
        have hlen : (U.erase i).length + 1 = U.length := by
          rw [List.length_erase_of_mem hiU]
          have := List.length_pos_of_mem hiU
          omega
        refine ih (U.erase i) _ _ w2 (by omega) (by simp [hs]) (fun j hj => ?_) (fun j hj => hin j (List.mem_of_mem_erase hj)) (hnd.erase i) (fun j h1 h2 => (List.mem_erase_of_ne (by omega)).2 (hmU j h1 h2)) (fun j hj hjn => ?_) (fun j hj => ?_) (fun j oj hoj hjn e he hbi hmm => ?_) (hb.trans (hb2.mono hb.size))
        · rw [Array.getElem?_setIfInBounds]
          by_cases e : i = j
          · subst e
            have : i ∉ U.erase i := fun hm => (List.Nodup.mem_erase_iff hnd).1 hm |>.1 rfl
            simp [this, hs, hlt]
          · rw [if_neg e, hl' j hj]
            simp [List.mem_erase_of_ne (Ne.symm e)]
        · by_cases e : j = i
          · subst e
            unfold updV
            rw [if_pos rfl]
            exact hv
          · unfold updV
            rw [if_neg e]
            exact (Φ.getD j MP.any).up (hall j hj fun hm => hjn ((List.mem_erase_of_ne e).2 hm)) hb2
        · have hne : j ≠ i := fun e => by
            subst e
            exact (List.Nodup.mem_erase_iff hnd).1 hj |>.1 rfl
          unfold updV
          rw [if_neg hne]
          exact hown j (List.mem_of_mem_erase hj)
        · have hmU := List.mem_of_mem_erase hmm
          by_cases e' : j = i
          · subst e'
            rw [ho'] at hoj
            cases hoj
            have h1 := hdep e he hbi
            have hon := hback j o ho' e he hbi
            simp [hl' e.on (by omega), hmU] at h1
          · exact hcl j oj hoj (fun hm => hjn ((List.mem_erase_of_ne e').2 hm)) e he hbi hmU
  have key := core l.length (List.range l.length) (Array.replicate l.length false) (ownV l a) { w with drawn := w.drawn + 1 } (by simp) (by simp) (fun i hi => by simp [hi]) (fun i hi => List.mem_range.1 hi) List.nodup_range (fun j _ h2 => List.mem_range.2 h2) (fun i hi hn => absurd (List.mem_range.2 (by omega)) hn) (fun _ _ => rfl) (fun j o hoj hn => absurd (List.mem_range.2 (List.getElem?_eq_some_iff.1 hoj).1) hn) ((Below.refl _ _).drew)
  rw [putsV_own] at key
  simpa using key
theorem wp_region_ret2E {id : Nat} {Q : Exit → Act → World → Prop} {a : Act} {w : World} {l : List Oper} (m : Nat) (fs : List Nat) (Φ : List MP) (o1 o2 : Oper) (t1 t2 : TypeId) (x1 y1 x2 y2 : Operand) (k1 k2 : Nat) (c1 c2 : List Value) (hm : P.follows .mixedOrders = true) (hS : monoB l = true) (hl : Φ.length = m) (hlm : m < l.length) (hwa : lateR l m fs = true) (hfl : floatR l m fs = true) (hN : Region.noSelect l.toArray = true) (hQp : ∀ c a d v w, Q (.panic c) (a.put d v) w → Q (.panic c) a w)
    (ho1 : l[m]? = some o1) (ho2 : l[m + 1]? = some o2) (hT : TwoSt P o1 o2 t1 t2 x1 y1 x2 y2 c1 c2) (hkk : k1 ≠ k2)
    (h : ∃ A, (∀ vals, putsV l a vals l.length = A vals) ∧ StepsAll P l Φ A a w 0 (l.take m) ∧
      (∀ f ∈ fs, ∀ of, l[f]? = some of → ∃ v, Φ[f]? = some (MP.eq v) ∧ ∀ vals w1, Hid (Below w.heap.size w w1) → (∀ e ∈ of.after, Region.binds .any e = true → (Φ.getD e.on MP.any).p (vals e.on) w1) → YieldsIf P l.toArray (SameBut w k1 k2) of v (A vals)) ∧
      (∀ vals w', Hid (Below w.heap.size w w') → FinAll vals w' 0 Φ → Hid (∀ j, m ≤ j → j < l.length → vals j = ownV l a j) → TwoAt (A vals) w' x1 y1 x2 y2 k1 k2 c1 c2 ∧ ∀ w2, Hid (w2 = (w'.setCells k1 0 c1).setCells k2 0 c2) → Q .normal (A vals) w2)) :
    (Code.region id l.toArray true).wp P Q a w := by
  obtain ⟨A, h1, h2, h3, h4⟩ := h
  exact wp_region_ret2 m fs Φ A o1 o2 t1 t2 x1 y1 x2 y2 k1 k2 c1 c2 hm hS hl hlm hwa hfl hN hQp ho1 ho2 hT hkk h3 h1 h2 h4
end
end Go.Proofs.YtdcpicbkemmakaaDoor
