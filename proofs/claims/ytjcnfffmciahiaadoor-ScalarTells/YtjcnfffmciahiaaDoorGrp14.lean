/- Texts that were joined: UpMV, UpMS, STLow, UpMVS. -/
import Derived.Test.YtjcnfffmciahiaaDoorUpM
import Derived.Test.YtjcnfffmciahiaaDoorGrp2
import Derived.Test.YtjcnfffmciahiaaDoorGrp8
import Derived.Test.YtjcnfffmciahiaaDoorGrp12
/- As UpM, of a region that besides makes one variable and stores into it. Over any program. -/
namespace Go.Proofs.YtjcnfffmciahiaaDoor
open Go.RowKit
section
variable {P : Program}
/-- A property that stays when the variable is stored into. -/
def MP.stays (ty : Nat) (φ : MP) : Prop := ∀ (v : Value) (w : World) (g : Nat) (z x : Value), (∀ k n, z ≠ .int k n) → w.heap[g]? = some (.cells #[z] ty (0, 0)) → φ.p v w → φ.p v (w.setCell ⟨g, 0, none⟩ x)
/-- What lies in the variable. -/
def VarAt (w0 : World) (ty : Nat) (w : World) (p x : Value) : Prop := ∃ g, p = .pointer (some ⟨g, 0, none⟩) ∧ w0.heap.size ≤ g ∧ w.heap[g]? = some (.cells #[x] ty (0, 0))
theorem VarAt.up {w0 w w' : World} {ty : Nat} {p x : Value} (h : VarAt w0 ty w p x) (hb : Below w.heap.size w w') : VarAt w0 ty w' p x := by
  obtain ⟨g, h1, h2, h3⟩ := h
  exact ⟨g, h1, h2, (hb.block g (Array.getElem?_eq_some_iff.1 h3).1).trans h3⟩
theorem cell1_set (w : World) {g ty : Nat} {z : Value} (x : Value) (h : w.heap[g]? = some (.cells #[z] ty (0, 0))) : (w.setCell ⟨g, 0, none⟩ x).heap[g]? = some (.cells #[x] ty (0, 0)) := by
  obtain ⟨hlt, he⟩ := Array.getElem?_eq_some_iff.1 h
  simp [World.setCell, hlt, Array.getElem_modify, he]
def StepsBut (P : Program) (l : List Oper) (Φ : List MP) (A : (Nat → Value) → Act) (a : Act) (w0 : World) (m : Nat) : Nat → List Oper → Prop
  | _, [] => True
  | i, o :: r => (i = m ∨ i = m + 1 ∨ StepAt P l Φ A a w0 i o) ∧ StepsBut P l Φ A a w0 m (i + 1) r
theorem StepsBut.at {l : List Oper} {Φ : List MP} {A : (Nat → Value) → Act} {a : Act} {w0 : World} {m : Nat} : ∀ (k : Nat) (r : List Oper), StepsBut P l Φ A a w0 m k r → ∀ i o, r[i]? = some o → k + i = m ∨ k + i = m + 1 ∨ StepAt P l Φ A a w0 (k + i) o
  | _, [], _, _, _, h => by simp at h
  | k, o :: r, h, 0, o', ho => by simp at ho; subst ho; exact h.1
  | k, o :: r, h, i + 1, o', ho => by
    have := StepsBut.at (k + 1) r h.2 i o' (by simpa using ho)
    rw [show k + 1 + i = k + (i + 1) by omega] at this
    exact this
/-- The store waits for the variable and for what it stores. -/
def storeB (l : List Oper) (m iv : Nat) : Bool := decide (m + 1 < l.length) && decide (iv < m) && waitsOn l (m + 1) m && waitsOn l (m + 1) iv
theorem wp_region_monoV {id : Nat} {Q : Exit → Act → World → Prop} {a : Act} {w : World} {l : List Oper} (Φ : List MP) (A : (Nat → Value) → Act) (m iv ty : Nat) (z : Value) (hz : ∀ k n, z ≠ .int k n) (hm : P.follows .mixedOrders = true) (hS : monoB l = true) (hT : storeB l m iv = true) (hl : Φ.length = l.length)
    (hany : ∀ φ, Φ[m]? = some φ → φ = MP.any) (hany1 : ∀ φ, Φ[m + 1]? = some φ → φ = MP.any) (hstay : ∀ i, (Φ.getD i MP.any).stays ty)
    (hA : ∀ vals, putsV l a vals l.length = A vals) (hst : StepsBut P l Φ A a w m 0 l)
    (hal : ∀ o, l[m]? = some o → ∀ vals w1, Region.wanted o (yielded l.toArray (A vals).tmps) = true ∧ (execOp (A vals).eval o).run P w1 = .ok (.value (.pointer (some ⟨w1.heap.size, 0, none⟩))) (w1.alloc (.cells #[z] ty)))
    (hso : ∀ o, l[m + 1]? = some o → ∀ vals w1 g, vals m = .pointer (some ⟨g, 0, none⟩) → w1.heap[g]? = some (.cells #[z] ty (0, 0)) → (Φ.getD iv MP.any).p (vals iv) w1 → Region.wanted o (yielded l.toArray (A vals).tmps) = true ∧ (execOp (A vals).eval o).run P w1 = .ok .skip (w1.setCell ⟨g, 0, none⟩ (vals iv)))
    (hfin : ∀ vals w', Hid (Below w.heap.size w w') → Hid (VarAt w ty w' (vals m) (vals iv)) → FinAll vals w' 0 Φ → Q .normal (A vals) w') :
    (Code.region id l.toArray true).wp P Q a w := by
  refine wp_region_any hm ?_
  simp only [monoB, List.all_eq_true, List.mem_range] at hS
  simp only [storeB, Bool.and_eq_true, decide_eq_true_eq] at hT
  obtain ⟨⟨⟨hm1, hivm⟩, hw1⟩, hw2⟩ := hT
  have hback : ∀ k o, l[k]? = some o → ∀ e ∈ o.after, Region.binds .any e = true → e.on < k := by
    intro k o ho e he hb
    have hlt : k < l.length := (List.getElem?_eq_some_iff.1 ho).1
    have := hS k hlt
    simp only [ho, Bool.and_eq_true, Array.all_eq_true_iff_forall_mem] at this
    simpa [hb] using this.1 e he
  have hdst : ∀ i j, i < j → j < l.length → ∀ d, dstL l i = some d → dstL l j ≠ some d := by
    intro i j hij hj d hd e
    have hlt : i < l.length := by omega
    have ho : l[i]? = some l[i] := List.getElem?_eq_getElem hlt
    have := hS i hlt
    simp only [ho, Bool.and_eq_true, List.all_eq_true, List.mem_range] at this
    have := this.2 j hj
    have hd' : l[i].dst = some d := by simpa [dstL, ho] using hd
    rw [hd', e] at this
    simp at this
    omega
  have wait : ∀ j i, waitsOn l j i = true → ∃ o, l[j]? = some o ∧ ∃ e ∈ o.after, Region.binds .any e = true ∧ e.on = i := by
    intro j i hj
    unfold waitsOn at hj
    cases hoj : l[j]? with
    | none => simp [hoj] at hj
    | some oj =>
      simp only [hoj] at hj
      obtain ⟨e, he, hb'⟩ := Array.any_eq_true'.1 hj
      simp only [Bool.and_eq_true, beq_iff_eq] at hb'
      exact ⟨oj, rfl, e, he, hb'.1, hb'.2⟩
  have core : ∀ (fuel : Nat) (U : List Nat) (listed : Array Bool) (vals : Nat → Value) (w1 : World), U.length ≤ fuel → listed.size = l.length → (∀ i, i < l.length → listed[i]? = some (decide (i ∉ U))) → (∀ i ∈ U, i < l.length) → U.Nodup →
      (∀ i, i < l.length → i ∉ U → (Φ.getD i MP.any).p (vals i) w1) → (∀ i ∈ U, vals i = ownV l a i) → (∀ j o, l[j]? = some o → j ∉ U → ∀ e ∈ o.after, Region.binds .any e = true → e.on ∉ U) → Below w.heap.size w w1 →
      (m ∉ U → VarAt w ty w1 (vals m) (if m + 1 ∈ U then z else vals iv)) → wpAny P .any l.toArray Q fuel listed (putsV l a vals l.length) w1 := by
    have fin : ∀ (vals : Nat → Value) (w1 : World), (∀ i, i < l.length → i ∉ ([] : List Nat) → (Φ.getD i MP.any).p (vals i) w1) → Below w.heap.size w w1 → (m ∉ ([] : List Nat) → VarAt w ty w1 (vals m) (if m + 1 ∈ ([] : List Nat) then z else vals iv)) → Q .normal (putsV l a vals l.length) w1 := by
      intro vals w1 hall hb hv
      rw [hA]
      exact hfin vals w1 hb (show Hid _ from (by simpa using hv : VarAt w ty w1 (vals m) (vals iv))) (FinAll.of 0 Φ fun i hi => by rw [Nat.zero_add]; exact hall i (by omega) (by simp))
    intro fuel
    induction fuel with
    | zero =>
      intro U listed vals w1 hU hs hl' hin hnd hall hown hcl hb hv
      have : U = [] := List.length_eq_zero_iff.1 (by omega)
      subst this
      refine ⟨?_, fin vals w1 hall hb hv⟩
      refine List.eq_nil_iff_forall_not_mem.2 fun i hi => ?_
      obtain ⟨h0, o, ho, _⟩ := mem_ready.1 hi
      have hlt : i < l.length := by simpa using (Array.getElem?_eq_some_iff.1 ho).1
      simp [hl' i hlt] at h0
    | succ fuel ih =>
      intro U listed vals w1 hU hs hl' hin hnd hall hown hcl hb hv
      refine ⟨fun h0 => ?_, fun i hi => ?_⟩
      · have : U = [] := by
          refine Classical.byContradiction fun hne => ?_
          obtain ⟨i0, hi0⟩ := List.exists_mem_of_ne_nil _ hne
          obtain ⟨i, hi, hmin⟩ : ∃ i, i ∈ U ∧ ∀ j, j < i → j ∉ U := by
            induction i0 using Nat.strongRecOn with
            | _ j ihj =>
              by_cases hex : ∃ q, q < j ∧ q ∈ U
              · obtain ⟨q, hq, hqU⟩ := hex
                exact ihj q hq hqU
              · exact ⟨j, hi0, fun q hq hqU => hex ⟨q, hq, hqU⟩⟩
          have hlt := hin i hi
          have : i ∈ Region.ready .any l.toArray listed := by
            rw [mem_ready]
            refine ⟨by simp [hl' i hlt, hi], l[i], by simp [hlt], fun e he hbi => ?_⟩
            have hon := hback i l[i] (List.getElem?_eq_getElem hlt) e he hbi
            simp [hl' e.on (by omega), hmin e.on hon]
          rw [h0] at this
          cases this
        subst this
        exact fin vals w1 hall hb hv
      · obtain ⟨hun, o, ho, hdep⟩ := mem_ready.1 hi
        have hlt : i < l.length := by simpa using (Array.getElem?_eq_some_iff.1 ho).1
        have ho' : l[i]? = some o := by simpa using ho
        have hiU : i ∈ U := by
          refine Classical.byContradiction fun hn => ?_
          simp [hl' i hlt, hn] at hun
        have depU : ∀ e ∈ o.after, Region.binds .any e = true → e.on < i ∧ e.on ∉ U := by
          intro e he hbi
          have hon := hback i o ho' e he hbi
          have h1 := hdep e he hbi
          refine ⟨hon, fun hmU => ?_⟩
          simp [hl' e.on (by omega), hmU] at h1
        have hd : o.dst = dstL l i := by simp [dstL, ho']
        have hlen : (U.erase i).length + 1 = U.length := by
          rw [List.length_erase_of_mem hiU]
          have := List.length_pos_of_mem hiU
          omega
        have hnot : i ∉ U.erase i := fun hm => (List.Nodup.mem_erase_iff hnd).1 hm |>.1 rfl
        have next : ∀ (v : Value) (w2 : World), (∀ j, j < l.length → j ∉ U.erase i → (Φ.getD j MP.any).p (updV vals i v j) w2) → Below w.heap.size w w2 → (m ∉ U.erase i → VarAt w ty w2 (updV vals i v m) (if m + 1 ∈ U.erase i then z else updV vals i v iv)) →
            wpAny P .any l.toArray Q fuel (listed.setIfInBounds i true) (putsV l a (updV vals i v) l.length) w2 := by
          intro v w2 h1 h2 h3
          refine ih (U.erase i) _ _ w2 (by omega) (by simp [hs]) (fun j hj => ?_) (fun j hj => hin j (List.mem_of_mem_erase hj)) (hnd.erase i) h1 (fun j hj => ?_) (fun j oj hoj hjn e he hbi hmm => ?_) h2 h3
          · rw [Array.getElem?_setIfInBounds]
            by_cases e : i = j
            · subst e
              simp [hnot, hs, hlt]
            · rw [if_neg e, hl' j hj]
              simp [List.mem_erase_of_ne (Ne.symm e)]
          · have hne : j ≠ i := fun e => by
              subst e
              exact hnot hj
            unfold updV
            rw [if_neg hne]
            exact hown j (List.mem_of_mem_erase hj)
          · have hmU := List.mem_of_mem_erase hmm
            by_cases e' : j = i
            · subst e'
              rw [ho'] at hoj
              cases hoj
              exact (depU e he hbi).2 hmU
            · exact hcl j oj hoj (fun hm => hjn ((List.mem_erase_of_ne e').2 hm)) e he hbi hmU
        have out : ∀ j, j ∉ U.erase i → j ≠ i → j ∉ U := fun j hj hne hm => hj ((List.mem_erase_of_ne hne).2 hm)
        by_cases him : i = m
        · subst him
          obtain ⟨hwa, hrun⟩ := hal o ho' vals w1
          rw [hA] at *
          unfold wpOp
          simp only [ho]
          rw [if_pos hwa]
          refine .inl ?_
          unfold Oper.wp
          rw [hrun]
          simp only [Oper.upon]
          rw [hd, ← hA, putsV_upd l.length hlt (fun j h1 h2 d => hdst i j h1 h2 d)]
          have nb : Below w1.heap.size w1 (w1.alloc (.cells #[z] ty)) := (Below.refl _ _).alloc (Nat.le_refl _) _
          have nU : i + 1 ∈ U := by
            refine Classical.byContradiction fun hn => ?_
            obtain ⟨oj, hoj, e, he, hbi, hon⟩ := wait _ _ hw1
            exact hcl (i + 1) oj hoj hn e he hbi (by rw [hon]; exact hiU)
          refine next _ _ (fun j hj hjn => ?_) (hb.trans (nb.mono hb.size)) (fun _ => ?_)
          · by_cases e : j = i
            · subst e
              have : Φ.getD j MP.any = MP.any := by
                rw [List.getD_eq_getElem?_getD, List.getElem?_eq_getElem (by omega)]
                exact hany _ (List.getElem?_eq_getElem (by omega))
              rw [this]
              exact trivial
            · unfold updV
              rw [if_neg e]
              exact (Φ.getD j MP.any).up (hall j hj (out j hjn e)) nb
          · rw [if_pos ((List.mem_erase_of_ne (by omega)).2 nU)]
            unfold updV
            rw [if_pos rfl]
            exact ⟨w1.heap.size, rfl, hb.size, heap_alloc_new w1 _⟩
        by_cases him1 : i = m + 1
        · subst him1
          obtain ⟨oj, hoj, e1, he1, hbi1, hon1⟩ := wait _ _ hw1
          obtain ⟨oj', hoj', e2, he2, hbi2, hon2⟩ := wait _ _ hw2
          rw [ho'] at hoj hoj'
          cases hoj
          cases hoj'
          have mU : m ∉ U := by rw [← hon1]; exact (depU e1 he1 hbi1).2
          have ivU : iv ∉ U := by rw [← hon2]; exact (depU e2 he2 hbi2).2
          have V := hv mU
          rw [if_pos hiU] at V
          obtain ⟨g, hg1, hg2, hg3⟩ := V
          obtain ⟨hwa, hrun⟩ := hso o ho' vals w1 g hg1 hg3 (hall iv (by omega) ivU)
          rw [hA] at *
          unfold wpOp
          simp only [ho]
          rw [if_pos hwa]
          refine .inl ?_
          unfold Oper.wp
          rw [hrun]
          simp only [Oper.upon]
          rw [hd, ← hA, putsV_upd l.length hlt (fun j h1 h2 d => hdst (m + 1) j h1 h2 d)]
          refine next _ _ (fun j hj hjn => ?_) (hb.setCell hg2 _) (fun _ => ?_)
          · by_cases e : j = m + 1
            · subst e
              have : Φ.getD (m + 1) MP.any = MP.any := by
                rw [List.getD_eq_getElem?_getD, List.getElem?_eq_getElem (by omega)]
                exact hany1 _ (List.getElem?_eq_getElem (by omega))
              rw [this]
              exact trivial
            · unfold updV
              rw [if_neg e]
              exact hstay j _ w1 g z _ hz hg3 (hall j hj (out j hjn e))
          · rw [if_neg hnot]
            unfold updV
            rw [if_neg (by omega), if_neg (by omega)]
            refine ⟨g, hg1, hg2, ?_⟩
            exact cell1_set w1 _ hg3
        · have st0 : StepAt P l Φ A a w i o := by
            rcases StepsBut.at 0 l hst i o ho' with h | h | h
            · omega
            · omega
            · rw [Nat.zero_add] at h; exact h
          have st := st0 vals w1 hb (show ∀ j, waitsOn l j i = true → vals j = ownV l a j from fun j hj => by
            obtain ⟨oj, hoj, e, he, hbi, hon⟩ := wait j i hj
            refine hown j (Classical.byContradiction fun hn => ?_)
            exact hcl j oj hoj hn e he hbi (by rw [hon]; exact hiU)) (fun e he hbi => hall e.on (by have := (depU e he hbi).1; omega) (depU e he hbi).2)
          rw [← hA] at st
          unfold wpOp
          simp only [ho]
          rw [if_pos st.1]
          refine .inl (st.2.wp fun v w2 hvv hb2 => ?_)
          rw [hd, putsV_upd l.length hlt (fun j h1 h2 d => hdst i j h1 h2 d)]
          refine next _ _ (fun j hj hjn => ?_) (hb.trans (hb2.mono hb.size)) (fun hmn => ?_)
          · by_cases e : j = i
            · subst e
              unfold updV
              rw [if_pos rfl]
              exact hvv
            · unfold updV
              rw [if_neg e]
              exact (Φ.getD j MP.any).up (hall j hj (out j hjn e)) hb2
          · have V := (hv (out m hmn (Ne.symm him))).up hb2
            unfold updV
            rw [if_neg (Ne.symm him)]
            by_cases h1 : m + 1 ∈ U
            · rw [if_pos ((List.mem_erase_of_ne (Ne.symm him1)).2 h1)]
              rw [if_pos h1] at V
              exact V
            · rw [if_neg (fun h => h1 (List.mem_of_mem_erase h))]
              rw [if_neg h1] at V
              have hne : iv ≠ i := by
                intro e
                obtain ⟨oj, hoj, e2, he2, hbi2, hon2⟩ := wait _ _ hw2
                exact hcl (m + 1) oj hoj h1 e2 he2 hbi2 (by rw [hon2, e]; exact hiU)
              rw [if_neg hne]
              exact V
  have key := core l.length (List.range l.length) (Array.replicate l.length false) (ownV l a) { w with drawn := w.drawn + 1 } (by simp) (by simp) (fun i hi => by simp [hi]) (fun i hi => List.mem_range.1 hi) List.nodup_range (fun i hi hn => absurd (List.mem_range.2 hi) hn) (fun _ _ => rfl) (fun j o hoj hn => absurd (List.mem_range.2 (List.getElem?_eq_some_iff.1 hoj).1) hn) ((Below.refl _ _).drew) (fun hn => absurd (List.mem_range.2 (by omega)) hn)
  rw [putsV_own] at key
  simpa using key
def StaysAll (ty : Nat) : List MP → Prop
  | [] => True
  | φ :: r => φ.stays ty ∧ StaysAll ty r
theorem MP.any_stays (ty : Nat) : MP.any.stays ty := fun _ _ _ _ _ _ _ _ => trivial
theorem MP.eq_stays (c : Value) (ty : Nat) : (MP.eq c).stays ty := fun _ _ _ _ _ _ _ h => h
theorem StaysAll.at {ty : Nat} : ∀ (Φ : List MP), StaysAll ty Φ → ∀ i, (Φ.getD i MP.any).stays ty
  | [], _, i => by simpa using MP.any_stays ty
  | φ :: r, h, 0 => by simpa using h.1
  | φ :: r, h, i + 1 => by simpa using StaysAll.at r h.2 i
theorem wp_region_monoVE {id : Nat} {Q : Exit → Act → World → Prop} {a : Act} {w : World} {l : List Oper} (Φ : List MP) (m iv ty : Nat) (z : Value) (hz : ∀ k n, z ≠ .int k n) (hm : P.follows .mixedOrders = true) (hS : monoB l = true) (hT : storeB l m iv = true) (hl : Φ.length = l.length)
    (hany : Φ[m]? = some MP.any) (hany1 : Φ[m + 1]? = some MP.any) (hstay : StaysAll ty Φ)
    (h : ∃ A, (∀ vals, putsV l a vals l.length = A vals) ∧ StepsBut P l Φ A a w m 0 l
      ∧ (∀ o, l[m]? = some o → ∀ vals w1, Region.wanted o (yielded l.toArray (A vals).tmps) = true ∧ (execOp (A vals).eval o).run P w1 = .ok (.value (.pointer (some ⟨w1.heap.size, 0, none⟩))) (w1.alloc (.cells #[z] ty)))
      ∧ (∀ o, l[m + 1]? = some o → ∀ vals w1 g, vals m = .pointer (some ⟨g, 0, none⟩) → w1.heap[g]? = some (.cells #[z] ty (0, 0)) → (Φ.getD iv MP.any).p (vals iv) w1 → Region.wanted o (yielded l.toArray (A vals).tmps) = true ∧ (execOp (A vals).eval o).run P w1 = .ok .skip (w1.setCell ⟨g, 0, none⟩ (vals iv)))
      ∧ ∀ vals w', Hid (Below w.heap.size w w') → Hid (VarAt w ty w' (vals m) (vals iv)) → FinAll vals w' 0 Φ → Q .normal (A vals) w') :
    (Code.region id l.toArray true).wp P Q a w := by
  obtain ⟨A, h1, h2, h3, h4, h5⟩ := h
  exact wp_region_monoV Φ A m iv ty z hz hm hS hT hl (fun φ e => by rw [hany] at e; exact (Option.some.inj e).symm) (fun φ e => by rw [hany1] at e; exact (Option.some.inj e).symm) (hstay.at Φ) h1 h2 h3 h4 h5
end
end Go.Proofs.YtjcnfffmciahiaaDoor

/- The properties of slices of digits, for UpM's law. -/
namespace Go.Proofs.YtjcnfffmciahiaaDoor
open Go.RowKit
def MP.sl (xs : List Nat) : MP := ⟨fun v w => Sl w v xs, fun h hb => Sl.up h hb⟩
def MP.sl2 (xs ys : List Nat) : MP := ⟨fun v w => ∃ x y, v = .tuple #[x, y] ∧ Sl w x xs ∧ Sl w y ys, fun ⟨x, y, e, h1, h2⟩ hb => ⟨x, y, e, Sl.up h1 hb, Sl.up h2 hb⟩⟩
theorem MP.sl_p (xs : List Nat) (v : Value) (w : World) : (MP.sl xs).p v w = Sl w v xs := rfl
theorem MP.sl2_p (xs ys : List Nat) (v : Value) (w : World) : (MP.sl2 xs ys).p v w = ∃ x y, v = .tuple #[x, y] ∧ Sl w x xs ∧ Sl w y ys := rfl
end Go.Proofs.YtjcnfffmciahiaaDoor

/- The contract of ScalarTells' own function: what is left of digits, as a number. -/
namespace Go.Proofs.YtjcnfffmciahiaaDoor
open Go.RowKit
set_option linter.unusedSimpArgs false
theorem cell1 {w : World} {g ty : Nat} {x : Value} {f : Nat × Nat} (h : w.heap[g]? = some (.cells #[x] ty f)) : w.cell? ⟨g, 0, none⟩ = some x := by simp [World.cell?, h]
theorem lt_of_cellV {w : World} {g j : Nat} {x : Value} (h : w.cell? ⟨g, j, none⟩ = some x) : g < w.heap.size := by
  simp only [World.cell?] at h
  cases hh : w.heap[g]? with
  | none => rw [hh] at h; simp at h
  | some o => exact (Array.getElem?_eq_some_iff.1 hh).1
set_option maxRecDepth 20000 in
set_option maxHeartbeats 1000000 in
theorem ownLow_fun (X M : Nat) (hX : X < 65536 ^ 64) (hM : 0 < M) (hM2 : M < 2 ^ 256) (u k : Value) (g : Nat) (w : World) (su : Sl w u (P.dg X)) (c0 : w.cell? ⟨g, 0, none⟩ = some k) (sk : Sl w k (P.dg M)) :
    Calls Tryd.prog 6 #[u, .pointer (some ⟨g, 0, none⟩)] w fun e w' => e = .returned (N (Nm.of ((X % M : Nat) : Int))) ∧ Below w.heap.size w w' := by
  have m1 : M < 65536 ^ 64 := Nat.lt_trans hM2 (by decide)
  have RM : Hid _ := rest_n X M hX hM m1
  have lt : X % M < 2 ^ 256 := Nat.lt_trans (Nat.mod_lt _ hM) hM2
  have TN : Hid (∀ u w, Sl w u (P.dg (X % M)) → Calls Tryd.prog 7 #[u] w fun e w' => e = .returned (N (Nm.of ((X % M : Nat) : Int))) ∧ Below w.heap.size w w') := by
    refine (fun u w h => ?_ : ∀ u w, Sl w u (P.dg (X % M)) → _)
    have := toNum_fun u _ (P.dg_Dg (X % M)) (dshort (Nat.lt_trans lt (by decide))) w h
    rwa [P.dv_dg, Nat.mod_eq_of_lt lt] at this
  have SU : Hid (Sl w u (P.dg X)) := su
  have SK : Hid (Sl w k (P.dg M)) := sk
  have gl : g < w.heap.size := lt_of_cellV c0
  have ne : ¬ g = w.heap.size := by omega
  have c1 := (((Below.refl w.heap.size w).alloc (Nat.le_refl _) (.cells #[.int .u64 0, .int .u64 0, .int .u64 0, .int .u64 0] 24)).cell (p := ⟨g, 0, none⟩) gl).trans c0
  clear su sk hX hM hM2 m1 lt
  generalize Nm.of ((X % M : Nat) : Int) = r at *
  go_enter Tryd.func6, Tryd.ntmps6
  go_wp2_with fail
  have NB : Hid (Below w.heap.size w (w.alloc (.cells #[.int .u64 0, .int .u64 0, .int .u64 0, .int .u64 0] 24))) := (Below.refl _ _).alloc (Nat.le_refl _) _
  refine (RM.out _ _ _ (Sl.up (xs := P.dg X) SU.out NB.out) (Sl.up (xs := P.dg M) SK.out NB.out)).mono ?_
  rintro e w1 ⟨⟨v1, rfl, s1⟩, hb1⟩
  have X1 : Hid (w1.heap[w.heap.size]? = some (.cells #[.int .u64 0, .int .u64 0, .int .u64 0, .int .u64 0] 24 (0, 0))) := (hb1.block _ (by simp)).trans (heap_alloc_new w _)
  have B1 : Hid (Below w.heap.size w w1) := NB.out.trans (hb1.mono (by simp))
  have S1 : Hid (Sl w1 v1 (P.dg (X % M))) := s1
  clear s1 hb1 NB RM c0 c1
  go_wp2_with fail
  refine (TN.out _ _ S1.out).mono ?_
  rintro e w2 ⟨rfl, hb2⟩
  have X2 : Hid (w2.heap[w.heap.size]? = _) := (hb2.block _ (Array.getElem?_eq_some_iff.1 X1.out).1).trans X1.out
  have B2 : Hid (Below w.heap.size w w2) := B1.out.trans (hb2.mono B1.out.size)
  obtain ⟨j0, j1, j2, j3⟩ : w2.cell? ⟨w.heap.size, 0, none⟩ = some (.int .u64 0) ∧ w2.cell? ⟨w.heap.size, 1, none⟩ = some (.int .u64 0) ∧ w2.cell? ⟨w.heap.size, 2, none⟩ = some (.int .u64 0) ∧ w2.cell? ⟨w.heap.size, 3, none⟩ = some (.int .u64 0) := by simp [World.cell?, X2.out]
  obtain ⟨y0, y1, y2, y3⟩ : w2.frozen? ⟨w.heap.size, 0, none⟩ = false ∧ w2.frozen? ⟨w.heap.size, 1, none⟩ = false ∧ w2.frozen? ⟨w.heap.size, 2, none⟩ = false ∧ w2.frozen? ⟨w.heap.size, 3, none⟩ = false := by simp [World.frozen?, X2.out]
  clear hb2 S1 B1 X1
  go_wp2_with fail
  refine bodyPost_ret (v := N r) (by simp (maxDischargeDepth := 8) [results, Tryd.results6, go_sem, j0, j1, j2, j3]) rfl ⟨rfl, ?_⟩
  exact (((B2.out.setCell (Nat.le_refl _) _).setCell (Nat.le_refl _) _).setCell (Nat.le_refl _) _).setCell (Nat.le_refl _) _
end Go.Proofs.YtjcnfffmciahiaaDoor

/- Slices of digits stay when a variable that holds no number is stored into. -/
namespace Go.Proofs.YtjcnfffmciahiaaDoor
open Go.RowKit
theorem MP.sl_stays (xs : List Nat) (ty : Nat) : (MP.sl xs).stays ty := by
  intro v w g z x hz hg h
  have h : Sl w v xs := h
  show Sl (w.setCell ⟨g, 0, none⟩ x) v xs
  rcases h with h | ⟨b, o, c, e, hl, hc⟩
  · exact .inl h
  · refine .inr ⟨b, o, c, e, hl, fun j hj => ?_⟩
    have hcj := hc j hj
    have hne : b ≠ g := by
      intro e
      subst e
      simp only [World.cell?, hg] at hcj
      cases ho : o + j with
      | zero =>
        rw [ho] at hcj
        simp at hcj
        exact hz _ _ hcj
      | succ q =>
        rw [ho] at hcj
        simp at hcj
    have hh : (w.setCell ⟨g, 0, none⟩ x).heap[b]? = w.heap[b]? := by simp [World.setCell, Array.getElem?_modify, Ne.symm hne]
    rw [← hcj]
    simp only [World.cell?, hh]
end Go.Proofs.YtjcnfffmciahiaaDoor
