/- As UpM, where some operations are not wanted (their guard does not hold): these leave undef. Over any program. -/
import Derived.Test.YtepaapiflkkghabQUpM
namespace Go.Proofs.Ytepaapiflkkghab
open Go.RowKit
section
variable {P : Program}
def StepAtG (P : Program) (l : List Oper) (Φ : List MP) (A : (Nat → Value) → Act) (a : Act) (w0 : World) (i : Nat) (o : Oper) : Prop :=
  ∀ vals w, Hid (Below w0.heap.size w0 w) → Hid (∀ j, waitsOn l j i = true → vals j = ownV l a j) → (∀ e ∈ o.after, Region.binds .any e = true → (Φ.getD e.on MP.any).p (vals e.on) w) → (Region.wanted o (yielded l.toArray (A vals).tmps) = true ∧ YieldsP P o (A vals) w (Φ.getD i MP.any).p) ∨ (Region.wanted o (yielded l.toArray (A vals).tmps) = false ∧ (Φ.getD i MP.any).p undef w)
def StepsAllG (P : Program) (l : List Oper) (Φ : List MP) (A : (Nat → Value) → Act) (a : Act) (w0 : World) : Nat → List Oper → Prop
  | _, [] => True
  | i, o :: r => StepAtG P l Φ A a w0 i o ∧ StepsAllG P l Φ A a w0 (i + 1) r
theorem StepsAllG.at {l : List Oper} {Φ : List MP} {A : (Nat → Value) → Act} {a : Act} {w0 : World} : ∀ (k : Nat) (r : List Oper), StepsAllG P l Φ A a w0 k r → ∀ i o, r[i]? = some o → StepAtG P l Φ A a w0 (k + i) o
  | _, [], _, _, _, h => by simp at h
  | k, o :: r, h, 0, o', ho => by simp at ho; subst ho; exact h.1
  | k, o :: r, h, i + 1, o', ho => by
    have := StepsAllG.at (k + 1) r h.2 i o' (by simpa using ho)
    rw [show k + 1 + i = k + (i + 1) by omega] at this
    exact this
theorem wp_region_monoG {id : Nat} {Q : Exit → Act → World → Prop} {a : Act} {w : World} {l : List Oper} (Φ : List MP) (A : (Nat → Value) → Act) (hm : P.follows .mixedOrders = true) (hS : monoB l = true) (hl : Φ.length = l.length)
    (hA : ∀ vals, putsV l a vals l.length = A vals) (hst : StepsAllG P l Φ A a w 0 l) (hfin : ∀ vals w', Hid (Below w.heap.size w w') → FinAll vals w' 0 Φ → Q .normal (A vals) w') :
    (Code.region id l.toArray true).wp P Q a w := by
  refine wp_region_any hm ?_
  simp only [monoB, List.all_eq_true, List.mem_range] at hS
  have hback : ∀ k o, l[k]? = some o → ∀ e ∈ o.after, Region.binds .any e = true → e.on < k := by
    intro k o ho e he hb
    have hlt : k < l.length := (List.getElem?_eq_some_iff.1 ho).1
    have := hS k hlt
    simp only [ho, Bool.and_eq_true, Array.all_eq_true_iff_forall_mem] at this
    simpa [hb] using this.1 e he
  have hdst : ∀ i j, i < j → j < l.length → ∀ d, dstL l i = some d → dstL l j ≠ some d := by
    intro i j hij hj d hd e
    have hlt : i < l.length := by omega
    have ho : l[i]? = some l[i] := List.getElem?_eq_getElem hlt
    have := hS i hlt
    simp only [ho, Bool.and_eq_true, List.all_eq_true, List.mem_range] at this
    have := this.2 j hj
    have hd' : l[i].dst = some d := by simpa [dstL, ho] using hd
    rw [hd', e] at this
    simp at this
    omega
  have core : ∀ (fuel : Nat) (U : List Nat) (listed : Array Bool) (vals : Nat → Value) (w1 : World), U.length ≤ fuel → listed.size = l.length → (∀ i, i < l.length → listed[i]? = some (decide (i ∉ U))) → (∀ i ∈ U, i < l.length) → U.Nodup →
      (∀ i, i < l.length → i ∉ U → (Φ.getD i MP.any).p (vals i) w1) → (∀ i ∈ U, vals i = ownV l a i) → (∀ j o, l[j]? = some o → j ∉ U → ∀ e ∈ o.after, Region.binds .any e = true → e.on ∉ U) → Below w.heap.size w w1 → wpAny P .any l.toArray Q fuel listed (putsV l a vals l.length) w1 := by
    have fin : ∀ (vals : Nat → Value) (w1 : World), (∀ i, i < l.length → i ∉ ([] : List Nat) → (Φ.getD i MP.any).p (vals i) w1) → Below w.heap.size w w1 → Q .normal (putsV l a vals l.length) w1 := by
      intro vals w1 hall hb
      rw [hA]
      exact hfin vals w1 hb (FinAll.of 0 Φ fun i hi => by rw [Nat.zero_add]; exact hall i (by omega) (by simp))
    intro fuel
    induction fuel with
    | zero =>
      intro U listed vals w1 hU hs hl' hin hnd hall hown hcl hb
      have : U = [] := List.length_eq_zero_iff.1 (by omega)
      subst this
      refine ⟨?_, fin vals w1 hall hb⟩
      refine List.eq_nil_iff_forall_not_mem.2 fun i hi => ?_
      obtain ⟨h0, o, ho, _⟩ := mem_ready.1 hi
      have hlt : i < l.length := by simpa using (Array.getElem?_eq_some_iff.1 ho).1
      simp [hl' i hlt] at h0
    | succ fuel ih =>
      intro U listed vals w1 hU hs hl' hin hnd hall hown hcl hb
      refine ⟨fun h0 => ?_, fun i hi => ?_⟩
      · have : U = [] := by
          refine Classical.byContradiction fun hne => ?_
          obtain ⟨i0, hi0⟩ := List.exists_mem_of_ne_nil _ hne
          obtain ⟨i, hi, hmin⟩ : ∃ i, i ∈ U ∧ ∀ j, j < i → j ∉ U := by
            induction i0 using Nat.strongRecOn with
            | _ j ihj =>
              by_cases hex : ∃ q, q < j ∧ q ∈ U
              · obtain ⟨q, hq, hqU⟩ := hex
                exact ihj q hq hqU
              · exact ⟨j, hi0, fun q hq hqU => hex ⟨q, hq, hqU⟩⟩
          have hlt := hin i hi
          have : i ∈ Region.ready .any l.toArray listed := by
            rw [mem_ready]
            refine ⟨by simp [hl' i hlt, hi], l[i], by simp [hlt], fun e he hbi => ?_⟩
            have hon := hback i l[i] (List.getElem?_eq_getElem hlt) e he hbi
            simp [hl' e.on (by omega), hmin e.on hon]
          rw [h0] at this
          cases this
        subst this
        exact fin vals w1 hall hb
      · obtain ⟨hun, o, ho, hdep⟩ := mem_ready.1 hi
        have hlt : i < l.length := by simpa using (Array.getElem?_eq_some_iff.1 ho).1
        have ho' : l[i]? = some o := by simpa using ho
        have hiU : i ∈ U := by
          refine Classical.byContradiction fun hn => ?_
          simp [hl' i hlt, hn] at hun
        have st := StepsAllG.at 0 l hst i o ho' vals w1 hb (show ∀ j, waitsOn l j (0 + i) = true → vals j = ownV l a j from fun j hj => by
          rw [Nat.zero_add] at hj
          unfold waitsOn at hj
          cases hoj : l[j]? with
          | none => simp [hoj] at hj
          | some oj =>
            simp only [hoj] at hj
            obtain ⟨e, he, hb'⟩ := Array.any_eq_true'.1 hj
            simp only [Bool.and_eq_true, beq_iff_eq] at hb'
            refine hown j (Classical.byContradiction fun hn => ?_)
            exact hcl j oj hoj hn e he hb'.1 (by rw [hb'.2]; exact hiU)) (fun e he hbi => by
          have hon := hback i o ho' e he hbi
          have h1 := hdep e he hbi
          refine hall e.on (by omega) fun hmU => ?_
          simp [hl' e.on (by omega), hmU] at h1)
        rw [Nat.zero_add, ← hA] at st
        unfold wpOp
        simp only [ho]
        have cont : ∀ v w2, (Φ.getD i MP.any).p v w2 → Below w1.heap.size w1 w2 → wpAny P .any l.toArray Q fuel (listed.setIfInBounds i true) ((putsV l a vals l.length).put o.dst v) w2 := fun v w2 hv hb2 => by
          have hd : o.dst = dstL l i := by simp [dstL, ho']
          rw [hd, putsV_upd l.length hlt (fun j h1 h2 d => hdst i j h1 h2 d)]
          have hlen : (U.erase i).length + 1 = U.length := by
            rw [List.length_erase_of_mem hiU]
            have := List.length_pos_of_mem hiU
            omega
          refine ih (U.erase i) _ _ w2 (by omega) (by simp [hs]) (fun j hj => ?_) (fun j hj => hin j (List.mem_of_mem_erase hj)) (hnd.erase i) (fun j hj hjn => ?_) (fun j hj => ?_) (fun j oj hoj hjn e he hbi hmm => ?_) (hb.trans (hb2.mono hb.size))
          · rw [Array.getElem?_setIfInBounds]
            by_cases e : i = j
            · subst e
              have : i ∉ U.erase i := fun hm => (List.Nodup.mem_erase_iff hnd).1 hm |>.1 rfl
              simp [this, hs, hlt]
            · rw [if_neg e, hl' j hj]
              simp [List.mem_erase_of_ne (Ne.symm e)]
          · by_cases e : j = i
            · subst e
              unfold updV
              rw [if_pos rfl]
              exact hv
            · unfold updV
              rw [if_neg e]
              exact (Φ.getD j MP.any).up (hall j hj fun hm => hjn ((List.mem_erase_of_ne e).2 hm)) hb2
          · have hne : j ≠ i := fun e => by
              subst e
              exact (List.Nodup.mem_erase_iff hnd).1 hj |>.1 rfl
            unfold updV
            rw [if_neg hne]
            exact hown j (List.mem_of_mem_erase hj)
          · have hmU := List.mem_of_mem_erase hmm
            by_cases e' : j = i
            · subst e'
              rw [ho'] at hoj
              cases hoj
              have h1 := hdep e he hbi
              have hon := hback j o ho' e he hbi
              simp [hl' e.on (by omega), hmU] at h1
            · exact hcl j oj hoj (fun hm => hjn ((List.mem_erase_of_ne e').2 hm)) e he hbi hmU
        rcases st with st | st
        · rw [if_pos st.1]
          exact .inl (st.2.wp fun v w2 hv hb2 => cont v w2 hv hb2)
        · rw [if_neg (by rw [st.1]; decide)]
          exact cont undef w1 st.2 (Below.refl _ _)
  have key := core l.length (List.range l.length) (Array.replicate l.length false) (ownV l a) { w with drawn := w.drawn + 1 } (by simp) (by simp) (fun i hi => by simp [hi]) (fun i hi => List.mem_range.1 hi) List.nodup_range (fun i hi hn => absurd (List.mem_range.2 hi) hn) (fun _ _ => rfl) (fun j o hoj hn => absurd (List.mem_range.2 (List.getElem?_eq_some_iff.1 hoj).1) hn) ((Below.refl _ _).drew)
  rw [putsV_own] at key
  simpa using key
theorem wp_region_monoGE {id : Nat} {Q : Exit → Act → World → Prop} {a : Act} {w : World} {l : List Oper} (Φ : List MP) (hm : P.follows .mixedOrders = true) (hS : monoB l = true) (hl : Φ.length = l.length)
    (h : ∃ A, (∀ vals, putsV l a vals l.length = A vals) ∧ StepsAllG P l Φ A a w 0 l ∧ ∀ vals w', Hid (Below w.heap.size w w') → FinAll vals w' 0 Φ → Q .normal (A vals) w') :
    (Code.region id l.toArray true).wp P Q a w := by
  obtain ⟨A, h1, h2, h3⟩ := h
  exact wp_region_monoG Φ A hm hS hl h1 h2 h3
end
end Go.Proofs.Ytepaapiflkkghab
