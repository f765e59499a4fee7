/- Texts that were joined: UpM, UpMG. -/
import Derived.Test.YtepaapiflkkghaaQUpToKnO
/- A region that draws its order of evaluation, whose operations yield values with a property that stays as memory grows (a slice that a callee made): what holds in the order of the text holds in every order. Over any program. -/
namespace Go.Proofs.Ytepaapiflkkghaa
open Go.RowKit
/-- A property of a value in a world that stays when memory grows. -/
structure MP where
  p : Value → World → Prop
  up : ∀ {v : Value} {w w' : World}, p v w → Below w.heap.size w w' → p v w'
def MP.any : MP := ⟨fun _ _ => True, fun _ _ => trivial⟩
def MP.eq (c : Value) : MP := ⟨fun v _ => v = c, fun h _ => h⟩
section
variable {P : Program}
def dstL (l : List Oper) (j : Nat) : Option Tmp := (l[j]?).bind (·.dst)
/-- The first k operations' values laid into the frame. -/
def putsV (l : List Oper) (a : Act) (vals : Nat → Value) : Nat → Act
  | 0 => a
  | k + 1 => (putsV l a vals k).put (dstL l k) (vals k)
def updV (vals : Nat → Value) (i : Nat) (v : Value) (j : Nat) : Value := if j = i then v else vals j
theorem putsV_congr {l : List Oper} {a : Act} {vals vals' : Nat → Value} : ∀ k, (∀ j, j < k → vals j = vals' j) → putsV l a vals k = putsV l a vals' k
  | 0, _ => rfl
  | k + 1, h => by rw [putsV, putsV, putsV_congr k (fun j hj => h j (by omega)), h k (by omega)]
theorem put_put (a : Act) (d : Option Tmp) (u v : Value) : (a.put d u).put d v = a.put d v := by
  cases d with
  | none => rfl
  | some d => simp [Act.put]
theorem putsV_upd {l : List Oper} {a : Act} {vals : Nat → Value} {i : Nat} {v : Value} : ∀ n, i < n → (∀ j, i < j → j < n → ∀ d, dstL l i = some d → dstL l j ≠ some d) → (putsV l a vals n).put (dstL l i) v = putsV l a (updV vals i v) n
  | 0, h, _ => absurd h (by omega)
  | n + 1, h, hd => by
    rw [putsV, putsV]
    by_cases e : n = i
    · subst e
      rw [put_put, putsV_congr (vals' := updV vals n v) n (fun j hj => by unfold updV; rw [if_neg (by omega)])]
      unfold updV
      rw [if_pos rfl]
    · rw [← putsV_upd n (by omega) (fun j h1 h2 => hd j h1 (by omega))]
      rw [Act.put_comm _ _ _ (fun d hd' h2 => hd n (by omega) (by omega) d h2 hd')]
      unfold updV
      rw [if_neg e]
theorem put_own (a : Act) (d : Option Tmp) : a.put d (match d with | some d => a.tmps.getD d undef | none => undef) = a := by
  cases d with
  | none => rfl
  | some d =>
    unfold Act.put
    have : a.tmps.setIfInBounds d (a.tmps.getD d undef) = a.tmps := by
      apply Array.ext_getElem?
      intro i
      rw [Array.getElem?_setIfInBounds]
      by_cases e : d = i
      · subst e
        rw [if_pos rfl]
        rcases Nat.lt_or_ge d a.tmps.size with h | h
        · simp [h]
        · simp [Nat.not_lt.2 h]
      · rw [if_neg e]
    simp only [this]
def ownV (l : List Oper) (a : Act) (j : Nat) : Value := match dstL l j with | some d => a.tmps.getD d undef | none => undef
theorem putsV_own (l : List Oper) (a : Act) : ∀ n, putsV l a (ownV l a) n = a
  | 0 => rfl
  | n + 1 => by
    rw [putsV, putsV_own l a n]
    exact put_own a (dstL l n)
/-- What one operation yields has the property. -/
def YieldsP (P : Program) (o : Oper) (a : Act) (w : World) (φ : Value → World → Prop) : Prop :=
  match (execOp a.eval o).run P w with
  | .ok (.value v) w' => φ v w' ∧ Below w.heap.size w w'
  | .ok (.enter f args) w' => Calls P f args w' fun e w'' => ∃ v, e = .returned v ∧ φ v w'' ∧ Below w.heap.size w w''
  | _ => False
theorem YieldsP.wp {o : Oper} {a : Act} {w : World} {φ : Value → World → Prop} {K : Act → World → Prop} {Q : Exit → Act → World → Prop} (h : YieldsP P o a w φ) (hK : ∀ v w', φ v w' → Below w.heap.size w w' → K (a.put o.dst v) w') : o.wp P a w K Q := by
  unfold YieldsP at h
  unfold Oper.wp
  generalize (execOp a.eval o).run P w = r at *
  cases r with
  | ok n w' =>
    cases n <;> simp only [Oper.upon] at h ⊢
    case value v => exact hK v w' h.1 h.2
    case enter f args =>
      refine Calls.mono h ?_
      rintro e w'' ⟨v, rfl, h1, h2⟩
      exact hK v w'' h1 h2
  | halt x w' => simp only at h
/-- Does j wait for i? -/
def waitsOn (l : List Oper) (j i : Nat) : Bool := match l[j]? with
  | some o => o.after.any fun e => Region.binds .any e && (e.on == i)
  | none => false
def StepAt (P : Program) (l : List Oper) (Φ : List MP) (A : (Nat → Value) → Act) (a : Act) (w0 : World) (i : Nat) (o : Oper) : Prop :=
  ∀ vals w, Hid (Below w0.heap.size w0 w) → Hid (∀ j, waitsOn l j i = true → vals j = ownV l a j) → (∀ e ∈ o.after, Region.binds .any e = true → (Φ.getD e.on MP.any).p (vals e.on) w) → Region.wanted o (yielded l.toArray (A vals).tmps) = true ∧ YieldsP P o (A vals) w (Φ.getD i MP.any).p
def StepsAll (P : Program) (l : List Oper) (Φ : List MP) (A : (Nat → Value) → Act) (a : Act) (w0 : World) : Nat → List Oper → Prop
  | _, [] => True
  | i, o :: r => StepAt P l Φ A a w0 i o ∧ StepsAll P l Φ A a w0 (i + 1) r
theorem StepsAll.at {l : List Oper} {Φ : List MP} {A : (Nat → Value) → Act} {a : Act} {w0 : World} : ∀ (k : Nat) (r : List Oper), StepsAll P l Φ A a w0 k r → ∀ i o, r[i]? = some o → StepAt P l Φ A a w0 (k + i) o
  | _, [], _, _, _, h => by simp at h
  | k, o :: r, h, 0, o', ho => by simp at ho; subst ho; exact h.1
  | k, o :: r, h, i + 1, o', ho => by
    have := StepsAll.at (k + 1) r h.2 i o' (by simpa using ho)
    rw [show k + 1 + i = k + (i + 1) by omega] at this
    exact this
def FinAll (vals : Nat → Value) (w : World) : Nat → List MP → Prop
  | _, [] => True
  | i, φ :: r => φ.p (vals i) w ∧ FinAll vals w (i + 1) r
theorem FinAll.of {vals : Nat → Value} {w : World} : ∀ (k : Nat) (r : List MP), (∀ i, i < r.length → (r.getD i MP.any).p (vals (k + i)) w) → FinAll vals w k r
  | _, [], _ => trivial
  | k, φ :: r, h => by
    refine ⟨by simpa using h 0 (by simp), FinAll.of (k + 1) r fun i hi => ?_⟩
    have := h (i + 1) (by simpa using hi)
    rw [show k + (i + 1) = k + 1 + i by omega] at this
    simpa using this
/-- What is asked of the region's text: each waits for earlier ones alone, and yields into a slot of its own. -/
def monoB (l : List Oper) : Bool :=
  (List.range l.length).all fun k => match l[k]? with
    | some o => (o.after.all fun e => !Region.binds .any e || decide (e.on < k)) && ((List.range l.length).all fun j => decide (j ≤ k) || (o.dst != dstL l j) || o.dst.isNone)
    | none => true
theorem wp_region_mono {id : Nat} {Q : Exit → Act → World → Prop} {a : Act} {w : World} {l : List Oper} (Φ : List MP) (A : (Nat → Value) → Act) (hm : P.follows .mixedOrders = true) (hS : monoB l = true) (hl : Φ.length = l.length)
    (hA : ∀ vals, putsV l a vals l.length = A vals) (hst : StepsAll P l Φ A a w 0 l) (hfin : ∀ vals w', Hid (Below w.heap.size w w') → FinAll vals w' 0 Φ → Q .normal (A vals) w') :
    (Code.region id l.toArray true).wp P Q a w := by
  refine wp_region_any hm ?_
  simp only [monoB, List.all_eq_true, List.mem_range] at hS
  have hback : ∀ k o, l[k]? = some o → ∀ e ∈ o.after, Region.binds .any e = true → e.on < k := by
    intro k o ho e he hb
    have hlt : k < l.length := (List.getElem?_eq_some_iff.1 ho).1
    have := hS k hlt
    simp only [ho, Bool.and_eq_true, Array.all_eq_true_iff_forall_mem] at this
    simpa [hb] using this.1 e he
  have hdst : ∀ i j, i < j → j < l.length → ∀ d, dstL l i = some d → dstL l j ≠ some d := by
    intro i j hij hj d hd e
    have hlt : i < l.length := by omega
    have ho : l[i]? = some l[i] := List.getElem?_eq_getElem hlt
    have := hS i hlt
    simp only [ho, Bool.and_eq_true, List.all_eq_true, List.mem_range] at this
    have := this.2 j hj
    have hd' : l[i].dst = some d := by simpa [dstL, ho] using hd
    rw [hd', e] at this
    simp at this
    omega
  have core : ∀ (fuel : Nat) (U : List Nat) (listed : Array Bool) (vals : Nat → Value) (w1 : World), U.length ≤ fuel → listed.size = l.length → (∀ i, i < l.length → listed[i]? = some (decide (i ∉ U))) → (∀ i ∈ U, i < l.length) → U.Nodup →
      (∀ i, i < l.length → i ∉ U → (Φ.getD i MP.any).p (vals i) w1) → (∀ i ∈ U, vals i = ownV l a i) → (∀ j o, l[j]? = some o → j ∉ U → ∀ e ∈ o.after, Region.binds .any e = true → e.on ∉ U) → Below w.heap.size w w1 → wpAny P .any l.toArray Q fuel listed (putsV l a vals l.length) w1 := by
    have fin : ∀ (vals : Nat → Value) (w1 : World), (∀ i, i < l.length → i ∉ ([] : List Nat) → (Φ.getD i MP.any).p (vals i) w1) → Below w.heap.size w w1 → Q .normal (putsV l a vals l.length) w1 := by
      intro vals w1 hall hb
      rw [hA]
      exact hfin vals w1 hb (FinAll.of 0 Φ fun i hi => by rw [Nat.zero_add]; exact hall i (by omega) (by simp))
    intro fuel
    induction fuel with
    | zero =>
      intro U listed vals w1 hU hs hl' hin hnd hall hown hcl hb
      have : U = [] := List.length_eq_zero_iff.1 (by omega)
      subst this
      refine ⟨?_, fin vals w1 hall hb⟩
      refine List.eq_nil_iff_forall_not_mem.2 fun i hi => ?_
      obtain ⟨h0, o, ho, _⟩ := mem_ready.1 hi
      have hlt : i < l.length := by simpa using (Array.getElem?_eq_some_iff.1 ho).1
      simp [hl' i hlt] at h0
    | succ fuel ih =>
      intro U listed vals w1 hU hs hl' hin hnd hall hown hcl hb
      refine ⟨fun h0 => ?_, fun i hi => ?_⟩
      · have : U = [] := by
          refine Classical.byContradiction fun hne => ?_
          obtain ⟨i0, hi0⟩ := List.exists_mem_of_ne_nil _ hne
          obtain ⟨i, hi, hmin⟩ : ∃ i, i ∈ U ∧ ∀ j, j < i → j ∉ U := by
            induction i0 using Nat.strongRecOn with
            | _ j ihj =>
              by_cases hex : ∃ q, q < j ∧ q ∈ U
              · obtain ⟨q, hq, hqU⟩ := hex
                exact ihj q hq hqU
              · exact ⟨j, hi0, fun q hq hqU => hex ⟨q, hq, hqU⟩⟩
          have hlt := hin i hi
          have : i ∈ Region.ready .any l.toArray listed := by
            rw [mem_ready]
            refine ⟨by simp [hl' i hlt, hi], l[i], by simp [hlt], fun e he hbi => ?_⟩
            have hon := hback i l[i] (List.getElem?_eq_getElem hlt) e he hbi
            simp [hl' e.on (by omega), hmin e.on hon]
          rw [h0] at this
          cases this
        subst this
        exact fin vals w1 hall hb
      · obtain ⟨hun, o, ho, hdep⟩ := mem_ready.1 hi
        have hlt : i < l.length := by simpa using (Array.getElem?_eq_some_iff.1 ho).1
        have ho' : l[i]? = some o := by simpa using ho
        have hiU : i ∈ U := by
          refine Classical.byContradiction fun hn => ?_
          simp [hl' i hlt, hn] at hun
        have st := StepsAll.at 0 l hst i o ho' vals w1 hb (show ∀ j, waitsOn l j (0 + i) = true → vals j = ownV l a j from fun j hj => by
          rw [Nat.zero_add] at hj
          unfold waitsOn at hj
          cases hoj : l[j]? with
          | none => simp [hoj] at hj
          | some oj =>
            simp only [hoj] at hj
            obtain ⟨e, he, hb'⟩ := Array.any_eq_true'.1 hj
            simp only [Bool.and_eq_true, beq_iff_eq] at hb'
            refine hown j (Classical.byContradiction fun hn => ?_)
            exact hcl j oj hoj hn e he hb'.1 (by rw [hb'.2]; exact hiU)) (fun e he hbi => by
          have hon := hback i o ho' e he hbi
          have h1 := hdep e he hbi
          refine hall e.on (by omega) fun hmU => ?_
          simp [hl' e.on (by omega), hmU] at h1)
        rw [Nat.zero_add, ← hA] at st
        unfold wpOp
        simp only [ho]
        rw [if_pos st.1]
        refine .inl (st.2.wp fun v w2 hv hb2 => ?_)
        have hd : o.dst = dstL l i := by simp [dstL, ho']
        rw [hd, putsV_upd l.length hlt (fun j h1 h2 d => hdst i j h1 h2 d)]
        have hlen : (U.erase i).length + 1 = U.length := by
          rw [List.length_erase_of_mem hiU]
          have := List.length_pos_of_mem hiU
          omega
        refine ih (U.erase i) _ _ w2 (by omega) (by simp [hs]) (fun j hj => ?_) (fun j hj => hin j (List.mem_of_mem_erase hj)) (hnd.erase i) (fun j hj hjn => ?_) (fun j hj => ?_) (fun j oj hoj hjn e he hbi hmm => ?_) (hb.trans (hb2.mono hb.size))
        · rw [Array.getElem?_setIfInBounds]
          by_cases e : i = j
          · subst e
            have : i ∉ U.erase i := fun hm => (List.Nodup.mem_erase_iff hnd).1 hm |>.1 rfl
            simp [this, hs, hlt]
          · rw [if_neg e, hl' j hj]
            simp [List.mem_erase_of_ne (Ne.symm e)]
        · by_cases e : j = i
          · subst e
            unfold updV
            rw [if_pos rfl]
            exact hv
          · unfold updV
            rw [if_neg e]
            exact (Φ.getD j MP.any).up (hall j hj fun hm => hjn ((List.mem_erase_of_ne e).2 hm)) hb2
        · have hne : j ≠ i := fun e => by
            subst e
            exact (List.Nodup.mem_erase_iff hnd).1 hj |>.1 rfl
          unfold updV
          rw [if_neg hne]
          exact hown j (List.mem_of_mem_erase hj)
        · have hmU := List.mem_of_mem_erase hmm
          by_cases e' : j = i
          · subst e'
            rw [ho'] at hoj
            cases hoj
            have h1 := hdep e he hbi
            have hon := hback j o ho' e he hbi
            simp [hl' e.on (by omega), hmU] at h1
          · exact hcl j oj hoj (fun hm => hjn ((List.mem_erase_of_ne e').2 hm)) e he hbi hmU
  have key := core l.length (List.range l.length) (Array.replicate l.length false) (ownV l a) { w with drawn := w.drawn + 1 } (by simp) (by simp) (fun i hi => by simp [hi]) (fun i hi => List.mem_range.1 hi) List.nodup_range (fun i hi hn => absurd (List.mem_range.2 hi) hn) (fun _ _ => rfl) (fun j o hoj hn => absurd (List.mem_range.2 (List.getElem?_eq_some_iff.1 hoj).1) hn) ((Below.refl _ _).drew)
  rw [putsV_own] at key
  simpa using key
theorem wp_region_monoE {id : Nat} {Q : Exit → Act → World → Prop} {a : Act} {w : World} {l : List Oper} (Φ : List MP) (hm : P.follows .mixedOrders = true) (hS : monoB l = true) (hl : Φ.length = l.length)
    (h : ∃ A, (∀ vals, putsV l a vals l.length = A vals) ∧ StepsAll P l Φ A a w 0 l ∧ ∀ vals w', Hid (Below w.heap.size w w') → FinAll vals w' 0 Φ → Q .normal (A vals) w') :
    (Code.region id l.toArray true).wp P Q a w := by
  obtain ⟨A, h1, h2, h3⟩ := h
  exact wp_region_mono Φ A hm hS hl h1 h2 h3
end
theorem MP.eq_p (c v : Value) (w : World) : (MP.eq c).p v w = (v = c) := rfl
end Go.Proofs.Ytepaapiflkkghaa

/- As UpM, where some operations are not wanted (their guard does not hold): these leave undef. Over any program. -/
namespace Go.Proofs.Ytepaapiflkkghaa
open Go.RowKit
section
variable {P : Program}
def StepAtG (P : Program) (l : List Oper) (Φ : List MP) (A : (Nat → Value) → Act) (a : Act) (w0 : World) (i : Nat) (o : Oper) : Prop :=
  ∀ vals w, Hid (Below w0.heap.size w0 w) → Hid (∀ j, waitsOn l j i = true → vals j = ownV l a j) → (∀ e ∈ o.after, Region.binds .any e = true → (Φ.getD e.on MP.any).p (vals e.on) w) → (Region.wanted o (yielded l.toArray (A vals).tmps) = true ∧ YieldsP P o (A vals) w (Φ.getD i MP.any).p) ∨ (Region.wanted o (yielded l.toArray (A vals).tmps) = false ∧ (Φ.getD i MP.any).p undef w)
def StepsAllG (P : Program) (l : List Oper) (Φ : List MP) (A : (Nat → Value) → Act) (a : Act) (w0 : World) : Nat → List Oper → Prop
  | _, [] => True
  | i, o :: r => StepAtG P l Φ A a w0 i o ∧ StepsAllG P l Φ A a w0 (i + 1) r
theorem StepsAllG.at {l : List Oper} {Φ : List MP} {A : (Nat → Value) → Act} {a : Act} {w0 : World} : ∀ (k : Nat) (r : List Oper), StepsAllG P l Φ A a w0 k r → ∀ i o, r[i]? = some o → StepAtG P l Φ A a w0 (k + i) o
  | _, [], _, _, _, h => by simp at h
  | k, o :: r, h, 0, o', ho => by simp at ho; subst ho; exact h.1
  | k, o :: r, h, i + 1, o', ho => by
    have := StepsAllG.at (k + 1) r h.2 i o' (by simpa using ho)
    rw [show k + 1 + i = k + (i + 1) by omega] at this
    exact this
theorem wp_region_monoG {id : Nat} {Q : Exit → Act → World → Prop} {a : Act} {w : World} {l : List Oper} (Φ : List MP) (A : (Nat → Value) → Act) (hm : P.follows .mixedOrders = true) (hS : monoB l = true) (hl : Φ.length = l.length)
    (hA : ∀ vals, putsV l a vals l.length = A vals) (hst : StepsAllG P l Φ A a w 0 l) (hfin : ∀ vals w', Hid (Below w.heap.size w w') → FinAll vals w' 0 Φ → Q .normal (A vals) w') :
    (Code.region id l.toArray true).wp P Q a w := by
  refine wp_region_any hm ?_
  simp only [monoB, List.all_eq_true, List.mem_range] at hS
  have hback : ∀ k o, l[k]? = some o → ∀ e ∈ o.after, Region.binds .any e = true → e.on < k := by
    intro k o ho e he hb
    have hlt : k < l.length := (List.getElem?_eq_some_iff.1 ho).1
    have := hS k hlt
    simp only [ho, Bool.and_eq_true, Array.all_eq_true_iff_forall_mem] at this
    simpa [hb] using this.1 e he
  have hdst : ∀ i j, i < j → j < l.length → ∀ d, dstL l i = some d → dstL l j ≠ some d := by
    intro i j hij hj d hd e
    have hlt : i < l.length := by omega
    have ho : l[i]? = some l[i] := List.getElem?_eq_getElem hlt
    have := hS i hlt
    simp only [ho, Bool.and_eq_true, List.all_eq_true, List.mem_range] at this
    have := this.2 j hj
    have hd' : l[i].dst = some d := by simpa [dstL, ho] using hd
    rw [hd', e] at this
    simp at this
    omega
  have core : ∀ (fuel : Nat) (U : List Nat) (listed : Array Bool) (vals : Nat → Value) (w1 : World), U.length ≤ fuel → listed.size = l.length → (∀ i, i < l.length → listed[i]? = some (decide (i ∉ U))) → (∀ i ∈ U, i < l.length) → U.Nodup →
      (∀ i, i < l.length → i ∉ U → (Φ.getD i MP.any).p (vals i) w1) → (∀ i ∈ U, vals i = ownV l a i) → (∀ j o, l[j]? = some o → j ∉ U → ∀ e ∈ o.after, Region.binds .any e = true → e.on ∉ U) → Below w.heap.size w w1 → wpAny P .any l.toArray Q fuel listed (putsV l a vals l.length) w1 := by
    have fin : ∀ (vals : Nat → Value) (w1 : World), (∀ i, i < l.length → i ∉ ([] : List Nat) → (Φ.getD i MP.any).p (vals i) w1) → Below w.heap.size w w1 → Q .normal (putsV l a vals l.length) w1 := by
      intro vals w1 hall hb
      rw [hA]
      exact hfin vals w1 hb (FinAll.of 0 Φ fun i hi => by rw [Nat.zero_add]; exact hall i (by omega) (by simp))
    intro fuel
    induction fuel with
    | zero =>
      intro U listed vals w1 hU hs hl' hin hnd hall hown hcl hb
      have : U = [] := List.length_eq_zero_iff.1 (by omega)
      subst this
      refine ⟨?_, fin vals w1 hall hb⟩
      refine List.eq_nil_iff_forall_not_mem.2 fun i hi => ?_
      obtain ⟨h0, o, ho, _⟩ := mem_ready.1 hi
      have hlt : i < l.length := by simpa using (Array.getElem?_eq_some_iff.1 ho).1
      simp [hl' i hlt] at h0
    | succ fuel ih =>
      intro U listed vals w1 hU hs hl' hin hnd hall hown hcl hb
      refine ⟨fun h0 => ?_, fun i hi => ?_⟩
      · have : U = [] := by
          refine Classical.byContradiction fun hne => ?_
          obtain ⟨i0, hi0⟩ := List.exists_mem_of_ne_nil _ hne
          obtain ⟨i, hi, hmin⟩ : ∃ i, i ∈ U ∧ ∀ j, j < i → j ∉ U := by
            induction i0 using Nat.strongRecOn with
            | _ j ihj =>
              by_cases hex : ∃ q, q < j ∧ q ∈ U
              · obtain ⟨q, hq, hqU⟩ := hex
                exact ihj q hq hqU
              · exact ⟨j, hi0, fun q hq hqU => hex ⟨q, hq, hqU⟩⟩
          have hlt := hin i hi
          have : i ∈ Region.ready .any l.toArray listed := by
            rw [mem_ready]
            refine ⟨by simp [hl' i hlt, hi], l[i], by simp [hlt], fun e he hbi => ?_⟩
            have hon := hback i l[i] (List.getElem?_eq_getElem hlt) e he hbi
            simp [hl' e.on (by omega), hmin e.on hon]
          rw [h0] at this
          cases this
        subst this
        exact fin vals w1 hall hb
      · obtain ⟨hun, o, ho, hdep⟩ := mem_ready.1 hi
        have hlt : i < l.length := by simpa using (Array.getElem?_eq_some_iff.1 ho).1
        have ho' : l[i]? = some o := by simpa using ho
        have hiU : i ∈ U := by
          refine Classical.byContradiction fun hn => ?_
          simp [hl' i hlt, hn] at hun
        have st := StepsAllG.at 0 l hst i o ho' vals w1 hb (show ∀ j, waitsOn l j (0 + i) = true → vals j = ownV l a j from fun j hj => by
          rw [Nat.zero_add] at hj
          unfold waitsOn at hj
          cases hoj : l[j]? with
          | none => simp [hoj] at hj
          | some oj =>
            simp only [hoj] at hj
            obtain ⟨e, he, hb'⟩ := Array.any_eq_true'.1 hj
            simp only [Bool.and_eq_true, beq_iff_eq] at hb'
            refine hown j (Classical.byContradiction fun hn => ?_)
            exact hcl j oj hoj hn e he hb'.1 (by rw [hb'.2]; exact hiU)) (fun e he hbi => by
          have hon := hback i o ho' e he hbi
          have h1 := hdep e he hbi
          refine hall e.on (by omega) fun hmU => ?_
          simp [hl' e.on (by omega), hmU] at h1)
        rw [Nat.zero_add, ← hA] at st
        unfold wpOp
        simp only [ho]
        have cont : ∀ v w2, (Φ.getD i MP.any).p v w2 → Below w1.heap.size w1 w2 → wpAny P .any l.toArray Q fuel (listed.setIfInBounds i true) ((putsV l a vals l.length).put o.dst v) w2 := fun v w2 hv hb2 => by
          have hd : o.dst = dstL l i := by simp [dstL, ho']
          rw [hd, putsV_upd l.length hlt (fun j h1 h2 d => hdst i j h1 h2 d)]
          have hlen : (U.erase i).length + 1 = U.length := by
            rw [List.length_erase_of_mem hiU]
            have := List.length_pos_of_mem hiU
            omega
          refine ih (U.erase i) _ _ w2 (by omega) (by simp [hs]) (fun j hj => ?_) (fun j hj => hin j (List.mem_of_mem_erase hj)) (hnd.erase i) (fun j hj hjn => ?_) (fun j hj => ?_) (fun j oj hoj hjn e he hbi hmm => ?_) (hb.trans (hb2.mono hb.size))
          · rw [Array.getElem?_setIfInBounds]
            by_cases e : i = j
            · subst e
              have : i ∉ U.erase i := fun hm => (List.Nodup.mem_erase_iff hnd).1 hm |>.1 rfl
              simp [this, hs, hlt]
            · rw [if_neg e, hl' j hj]
              simp [List.mem_erase_of_ne (Ne.symm e)]
          · by_cases e : j = i
            · subst e
              unfold updV
              rw [if_pos rfl]
              exact hv
            · unfold updV
              rw [if_neg e]
              exact (Φ.getD j MP.any).up (hall j hj fun hm => hjn ((List.mem_erase_of_ne e).2 hm)) hb2
          · have hne : j ≠ i := fun e => by
              subst e
              exact (List.Nodup.mem_erase_iff hnd).1 hj |>.1 rfl
            unfold updV
            rw [if_neg hne]
            exact hown j (List.mem_of_mem_erase hj)
          · have hmU := List.mem_of_mem_erase hmm
            by_cases e' : j = i
            · subst e'
              rw [ho'] at hoj
              cases hoj
              have h1 := hdep e he hbi
              have hon := hback j o ho' e he hbi
              simp [hl' e.on (by omega), hmU] at h1
            · exact hcl j oj hoj (fun hm => hjn ((List.mem_erase_of_ne e').2 hm)) e he hbi hmU
        rcases st with st | st
        · rw [if_pos st.1]
          exact .inl (st.2.wp fun v w2 hv hb2 => cont v w2 hv hb2)
        · rw [if_neg (by rw [st.1]; decide)]
          exact cont undef w1 st.2 (Below.refl _ _)
  have key := core l.length (List.range l.length) (Array.replicate l.length false) (ownV l a) { w with drawn := w.drawn + 1 } (by simp) (by simp) (fun i hi => by simp [hi]) (fun i hi => List.mem_range.1 hi) List.nodup_range (fun i hi hn => absurd (List.mem_range.2 hi) hn) (fun _ _ => rfl) (fun j o hoj hn => absurd (List.mem_range.2 (List.getElem?_eq_some_iff.1 hoj).1) hn) ((Below.refl _ _).drew)
  rw [putsV_own] at key
  simpa using key
theorem wp_region_monoGE {id : Nat} {Q : Exit → Act → World → Prop} {a : Act} {w : World} {l : List Oper} (Φ : List MP) (hm : P.follows .mixedOrders = true) (hS : monoB l = true) (hl : Φ.length = l.length)
    (h : ∃ A, (∀ vals, putsV l a vals l.length = A vals) ∧ StepsAllG P l Φ A a w 0 l ∧ ∀ vals w', Hid (Below w.heap.size w w') → FinAll vals w' 0 Φ → Q .normal (A vals) w') :
    (Code.region id l.toArray true).wp P Q a w := by
  obtain ⟨A, h1, h2, h3⟩ := h
  exact wp_region_monoG Φ A hm hS hl h1 h2 h3
end
end Go.Proofs.Ytepaapiflkkghaa
