/- UpM's law for large regions: the frame is never written out; a step is given what its operands are. Over any program. -/
import Derived.Test.YtmajielbbajdhaaUpM
namespace Go.Proofs.Ytmajielbbajdhaa
open Go.RowKit
section
variable {P : Program}
theorem putsV_size (l : List Oper) (a : Act) (vals : Nat → Value) : ∀ n, (putsV l a vals n).tmps.size = a.tmps.size
  | 0 => rfl
  | n + 1 => by
    rw [putsV]
    unfold Act.put
    cases dstL l n with
    | none => exact putsV_size l a vals n
    | some d => simpa using putsV_size l a vals n
theorem putsV_old (l : List Oper) (a : Act) (vals : Nat → Value) (d : Nat) : ∀ n, (∀ i, i < n → dstL l i ≠ some d) → (putsV l a vals n).tmps[d]? = a.tmps[d]?
  | 0, _ => rfl
  | n + 1, h => by
    have ih := putsV_old l a vals d n fun i hi => h i (by omega)
    have hn := h n (by omega)
    rw [putsV]
    unfold Act.put
    cases e : dstL l n with
    | none => exact ih
    | some d' =>
      have : d' ≠ d := fun q => hn (by rw [e, q])
      simp only
      rw [Array.getElem?_setIfInBounds_ne this]
      exact ih
theorem putsV_new (l : List Oper) (a : Act) (vals : Nat → Value) (d j : Nat) (hj : dstL l j = some d) (hd : d < a.tmps.size) : ∀ n, j < n → (∀ i, j < i → i < n → dstL l i ≠ some d) → (putsV l a vals n).tmps[d]? = some (vals j)
  | 0, h, _ => absurd h (by omega)
  | n + 1, h, hn => by
    rw [putsV]
    unfold Act.put
    by_cases e : j = n
    · subst e
      rw [hj]
      simp only
      rw [Array.getElem?_setIfInBounds_self_of_lt (by rw [putsV_size]; exact hd)]
    · have ih := putsV_new l a vals d j hj hd n (by omega) fun i h1 h2 => hn i h1 (by omega)
      have hq := hn n (by omega) (by omega)
      cases e' : dstL l n with
      | none => exact ih
      | some d' =>
        have : d' ≠ d := fun q => hq (by rw [e', q])
        simp only
        rw [Array.getElem?_setIfInBounds_ne this]
        exact ih
/-- What one operation yields, its operands read by ev, has the property. -/
def YieldsV (P : Program) (o : Oper) (ev : Operand → Value) (w : World) (φ : Value → World → Prop) : Prop :=
  match (execOp ev o).run P w with
  | .ok (.value v) w' => φ v w' ∧ Below w.heap.size w w'
  | .ok (.enter f args) w' => Calls P f args w' fun e w'' => ∃ v, e = .returned v ∧ φ v w'' ∧ Below w.heap.size w w''
  | _ => False
def GuardV (o : Oper) (D : List (Option Tmp)) (vals : Nat → Value) : Prop := match o.guard with
  | none => True
  | some (j, want) => vals j = .bool want ∧ (D.getD j none).isSome = true
def depB (o : Oper) (j : Nat) : Bool := o.after.any fun e => Region.binds .any e && (e.on == j)
/-- One step: ev reads the slots that the region fills (at) and those that it does not (old). -/
def StepB (P : Program) (D : List (Option Tmp)) (Φ : List MP) (src : Nat → Value) (w0 : World) (o : Oper) (φ : MP) : Prop :=
  ∀ (ev : Operand → Value) vals w, (∀ v, ev (.const v) = v) → (∀ f, ev (.func f) = .func (.func f) #[] #[]) → Hid (Below w0.heap.size w0 w) →
    (∀ t j, D.getD j none = some t → ev (.tmp t) = vals j) → (∀ t, D.all (· != some t) = true → ev (.tmp t) = src t) →
    (∀ j, depB o j = true → (Φ.getD j MP.any).p (vals j) w) → GuardV o D vals ∧ YieldsV P o ev w φ.p
def StepsB (P : Program) (D : List (Option Tmp)) (Φ : List MP) (src : Nat → Value) (w0 : World) : List Oper → List MP → Prop
  | o :: r, φ :: s => StepB P D Φ src w0 o φ ∧ StepsB P D Φ src w0 r s
  | _, _ => True
theorem StepsB.at {D : List (Option Tmp)} {Φ : List MP} {src : Nat → Value} {w0 : World} : ∀ (r : List Oper) (s : List MP), StepsB P D Φ src w0 r s → ∀ (i : Nat) (o : Oper) (φ : MP), r[i]? = some o → s[i]? = some φ → StepB P D Φ src w0 o φ
  | [], _, _, _, _, _, h, _ => by simp at h
  | _ :: _, [], _, _, _, _, _, h => by simp at h
  | o :: r, φ :: s, h, 0, o', φ', ho, hf => by simp at ho hf; subst ho; subst hf; exact h.1
  | o :: r, φ :: s, h, i + 1, o', φ', ho, hf => StepsB.at r s h.2 i o' φ' (by simpa using ho) (by simpa using hf)
theorem dst_at {l : List Oper} {D : List (Option Tmp)} (hD : l.map (·.dst) = D) (j : Nat) : dstL l j = D.getD j none := by
  subst hD
  unfold dstL
  cases h : l[j]? <;> simp [h]
theorem lt_of {l : List Oper} {a : Act} {D : List (Option Tmp)} (hD : l.map (·.dst) = D)
    (hz : D.all (fun d => match d with | some d => decide (d < a.tmps.size) | none => true) = true) : ∀ (j t : Nat), D.getD j none = some t → j < l.length ∧ t < a.tmps.size := by
  intro j t h
  have hj : j < D.length := by
    rcases Nat.lt_or_ge j D.length with q | q
    · exact q
    · rw [List.getD_eq_getElem?_getD, List.getElem?_eq_none q] at h; simp at h
  refine ⟨by rw [← hD] at hj; simpa using hj, ?_⟩
  have hm : some t ∈ D := by
    rw [List.getD_eq_getElem?_getD, List.getElem?_eq_getElem hj] at h
    simp at h
    rw [← h]
    exact List.getElem_mem hj
  have := List.all_eq_true.1 hz _ hm
  simpa using this
theorem new_of {l : List Oper} {a : Act} {D : List (Option Tmp)} (hS : monoB l = true) (hD : l.map (·.dst) = D)
    (hz : D.all (fun d => match d with | some d => decide (d < a.tmps.size) | none => true) = true) (vals : Nat → Value) : ∀ (t j : Nat), D.getD j none = some t → (putsV l a vals l.length).tmps[t]? = some (vals j) := by
  simp only [monoB, List.all_eq_true, List.mem_range] at hS
  have hdst : ∀ i j, i < j → j < l.length → ∀ d, dstL l i = some d → dstL l j ≠ some d := by
    intro i j hij hj d hd e
    have hlt : i < l.length := by omega
    have ho : l[i]? = some l[i] := List.getElem?_eq_getElem hlt
    have := hS i hlt
    simp only [ho, Bool.and_eq_true, List.all_eq_true, List.mem_range] at this
    have := this.2 j hj
    have hd' : l[i].dst = some d := by simpa [dstL, ho] using hd
    rw [hd', e] at this
    simp at this
    omega
  have lt := lt_of (a := a) hD hz
  intro t j h
  have hj := (lt j t h).1
  rw [← dst_at hD] at h
  exact putsV_new l a vals t j h (lt j t (by rw [← dst_at hD]; exact h)).2 l.length hj fun i h1 h2 => hdst j i h1 h2 t h
theorem putsV_defers (l : List Oper) (a : Act) (vals : Nat → Value) : ∀ n, (putsV l a vals n).defers = a.defers
  | 0 => rfl
  | n + 1 => by
    rw [putsV]
    unfold Act.put
    cases dstL l n with
    | none => exact putsV_defers l a vals n
    | some d => exact putsV_defers l a vals n
theorem steps_of {l : List Oper} (Φ : List MP) {a : Act} {w : World} (D : List (Option Tmp)) (hS : monoB l = true) (hl : Φ.length = l.length) (hD : l.map (·.dst) = D)
    (hz : D.all (fun d => match d with | some d => decide (d < a.tmps.size) | none => true) = true)
    (hst : StepsB P D Φ (fun t => a.tmps.getD t undef) w l Φ) : ∀ (r : List Oper) k, (∀ i, r[i]? = l[k + i]?) → StepsAll P l Φ (fun vals => putsV l a vals l.length) a w k r
  | [], _, _ => trivial
  | o :: r, k, hr => by
    have ho : l[k]? = some o := by have := hr 0; simpa using this.symm
    have hk : k < l.length := (List.getElem?_eq_some_iff.1 ho).1
    refine ⟨?_, steps_of Φ D hS hl hD hz hst r (k + 1) fun i => by have := hr (i + 1); rw [show k + 1 + i = k + (i + 1) by omega, ← this]; simp⟩
    intro vals W hW hw hd
    have hφ : Φ[k]? = some (Φ.getD k MP.any) := by
      rw [List.getD_eq_getElem?_getD, List.getElem?_eq_getElem (by omega)]; simp
    have hst' := StepsB.at l Φ hst k o _ ho hφ
    have lt := lt_of (a := a) hD hz
    have new := new_of (a := a) hS hD hz vals
    obtain ⟨g, y⟩ := hst' (putsV l a vals l.length).eval vals W (fun _ => rfl) (fun _ => rfl) hW
      (fun t j h => by
        show (putsV l a vals l.length).tmps.getD t undef = _
        rw [Array.getD_eq_getD_getElem?, new t j h]; rfl)
      (fun t h => by
        show (putsV l a vals l.length).tmps.getD t undef = a.tmps.getD t undef
        rw [Array.getD_eq_getD_getElem?, Array.getD_eq_getD_getElem?, putsV_old l a vals t l.length]
        intro i hi e
        rw [dst_at hD] at e
        have := (lt i t e).1
        have hm : some t ∈ D := by
          have hj : i < D.length := by rw [← hD]; simpa using hi
          rw [List.getD_eq_getElem?_getD, List.getElem?_eq_getElem hj] at e
          simp at e
          rw [← e]
          exact List.getElem_mem hj
        have := List.all_eq_true.1 h _ hm
        simp at this)
      (fun j h => by
        unfold depB at h
        rw [Array.any_eq_true'] at h
        obtain ⟨e, he, hb⟩ := h
        simp only [Bool.and_eq_true, beq_iff_eq] at hb
        rw [← hb.2]
        exact hd e he hb.1)
    refine ⟨?_, ?_⟩
    · unfold Region.wanted
      unfold GuardV at g
      cases hg : o.guard with
      | none => rfl
      | some jw =>
        obtain ⟨j, want⟩ := jw
        rw [hg] at g
        obtain ⟨gv, gs⟩ := g
        obtain ⟨t, ht⟩ := Option.isSome_iff_exists.1 gs
        have e1 : ((l.toArray[j]?).bind (·.dst)) = some t := by
          have := dst_at hD j
          rw [ht] at this
          simpa [dstL] using this
        simp only [yielded, e1, Option.bind_some, new t j ht, gv]
        simp
    · exact y
theorem FinAll.get {vals : Nat → Value} {w : World} : ∀ (k : Nat) (r : List MP), FinAll vals w k r → ∀ i, i < r.length → (r.getD i MP.any).p (vals (k + i)) w
  | _, [], _, _, h => by simp at h
  | k, φ :: r, h, 0, _ => by simpa using h.1
  | k, φ :: r, h, i + 1, hi => by
    have := FinAll.get (k + 1) r h.2 i (by simpa using hi)
    rw [show k + 1 + i = k + (i + 1) by omega] at this
    simpa using this
theorem wp_region_big {id : Nat} {Q : Exit → Act → World → Prop} {a : Act} {w : World} {l : List Oper} (Φ : List MP) (D : List (Option Tmp)) (hm : P.follows .mixedOrders = true) (hS : monoB l = true) (hl : Φ.length = l.length) (hD : l.map (·.dst) = D)
    (hz : D.all (fun d => match d with | some d => decide (d < a.tmps.size) | none => true) = true)
    (hst : StepsB P D Φ (fun t => a.tmps.getD t undef) w l Φ)
    (hfin : ∀ vals w', Hid (Below w.heap.size w w') → FinAll vals w' 0 Φ → ∀ B : Act, B.defers = a.defers → (∀ t j, D.getD j none = some t → B.tmps[t]? = some (vals j)) → Q .normal B w') :
    (Code.region id l.toArray true).wp P Q a w := by
  refine wp_region_mono Φ _ hm hS hl (fun _ => rfl) (steps_of Φ D hS hl hD hz hst l 0 fun i => by simp) fun vals w' hb hF => hfin vals w' hb hF _ ?_ ?_
  · exact putsV_defers l a vals _
  · exact new_of hS hD hz vals
end
end Go.Proofs.Ytmajielbbajdhaa
