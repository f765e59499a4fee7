/- Texts that were joined: UpM, GArr, Cpy, Up3, ScOf, DMath, Dig, DigO, DTimes, DMinus, Ord, DParts, DRest, DBits, DPow, DPlus, DNumP, DWords, DNum, DDigP, DDig, UpMS, SNum, SBy. -/
import Derived.Test.YtfknkfninjjgbabDoorQUp
import Derived.Test.YtfknkfninjjgbabDoorQBKToHCut
import Derived.ChangeKeysEq
import Derived.Laws.IdiomCopy
import Derived.Test.YtfknkfninjjgbabDoorQUpA
import Derived.Test.YtfknkfninjjgbabDoorQHalfToScF
import Derived.Test.YtfknkfninjjgbabDoorQUpV3ToOfB
import Derived.Test.YtfknkfninjjgbabDoorRows
import Derived.Test.YtfknkfninjjgbabDoorQNumToMul
import Derived.Test.YtfknkfninjjgbabDoorQStoreToKn
import Derived.WalkKit
import Derived.WalkSpells
import Derived.WalkLawsBesides
import Derived.LoopN
import Derived.OwnWalk
import Derived.Laws.AppendOwn
import Derived.Laws.OwnMore
import Derived.Below
import Derived.Laws.MakeOwn
import Derived.Laws.AppendOwnNone
import Derived.Laws.Bits64
import Derived.Laws.Bits64b
import Derived.Test.YtfknkfninjjgbabDoorQMulWToAdN
import Derived.Deep.RegionHeld
/- A region that draws its order of evaluation, whose operations yield values with a property that stays as memory grows (a slice that a callee made): what holds in the order of the text holds in every order. Over any program. -/
namespace Go.Proofs.YtfknkfninjjgbabDoor
open Go.RowKit
/-- A property of a value in a world that stays when memory grows. -/
structure MP where
  p : Value → World → Prop
  up : ∀ {v : Value} {w w' : World}, p v w → Below w.heap.size w w' → p v w'
def MP.any : MP := ⟨fun _ _ => True, fun _ _ => trivial⟩
def MP.eq (c : Value) : MP := ⟨fun v _ => v = c, fun h _ => h⟩
section
variable {P : Program}
def dstL (l : List Oper) (j : Nat) : Option Tmp := (l[j]?).bind (·.dst)
/-- The first k operations' values laid into the frame. -/
def putsV (l : List Oper) (a : Act) (vals : Nat → Value) : Nat → Act
  | 0 => a
  | k + 1 => (putsV l a vals k).put (dstL l k) (vals k)
def updV (vals : Nat → Value) (i : Nat) (v : Value) (j : Nat) : Value := if j = i then v else vals j
theorem putsV_congr {l : List Oper} {a : Act} {vals vals' : Nat → Value} : ∀ k, (∀ j, j < k → vals j = vals' j) → putsV l a vals k = putsV l a vals' k
  | 0, _ => rfl
  | k + 1, h => by rw [putsV, putsV, putsV_congr k (fun j hj => h j (by omega)), h k (by omega)]
theorem put_put (a : Act) (d : Option Tmp) (u v : Value) : (a.put d u).put d v = a.put d v := by
  cases d with
  | none => rfl
  | some d => simp [Act.put]
theorem putsV_upd {l : List Oper} {a : Act} {vals : Nat → Value} {i : Nat} {v : Value} : ∀ n, i < n → (∀ j, i < j → j < n → ∀ d, dstL l i = some d → dstL l j ≠ some d) → (putsV l a vals n).put (dstL l i) v = putsV l a (updV vals i v) n
  | 0, h, _ => absurd h (by omega)
  | n + 1, h, hd => by
    rw [putsV, putsV]
    by_cases e : n = i
    · subst e
      rw [put_put, putsV_congr (vals' := updV vals n v) n (fun j hj => by unfold updV; rw [if_neg (by omega)])]
      unfold updV
      rw [if_pos rfl]
    · rw [← putsV_upd n (by omega) (fun j h1 h2 => hd j h1 (by omega))]
      rw [Act.put_comm _ _ _ (fun d hd' h2 => hd n (by omega) (by omega) d h2 hd')]
      unfold updV
      rw [if_neg e]
theorem put_own (a : Act) (d : Option Tmp) : a.put d (match d with | some d => a.tmps.getD d undef | none => undef) = a := by
  cases d with
  | none => rfl
  | some d =>
    unfold Act.put
    have : a.tmps.setIfInBounds d (a.tmps.getD d undef) = a.tmps := by
      apply Array.ext_getElem?
      intro i
      rw [Array.getElem?_setIfInBounds]
      by_cases e : d = i
      · subst e
        rw [if_pos rfl]
        rcases Nat.lt_or_ge d a.tmps.size with h | h
        · simp [h]
        · simp [Nat.not_lt.2 h]
      · rw [if_neg e]
    simp only [this]
def ownV (l : List Oper) (a : Act) (j : Nat) : Value := match dstL l j with | some d => a.tmps.getD d undef | none => undef
theorem putsV_own (l : List Oper) (a : Act) : ∀ n, putsV l a (ownV l a) n = a
  | 0 => rfl
  | n + 1 => by
    rw [putsV, putsV_own l a n]
    exact put_own a (dstL l n)
/-- What one operation yields has the property. -/
def YieldsP (P : Program) (o : Oper) (a : Act) (w : World) (φ : Value → World → Prop) : Prop :=
  match (execOp a.eval o).run P w with
  | .ok (.value v) w' => φ v w' ∧ Below w.heap.size w w'
  | .ok (.enter f args) w' => Calls P f args w' fun e w'' => ∃ v, e = .returned v ∧ φ v w'' ∧ Below w.heap.size w w''
  | _ => False
theorem YieldsP.wp {o : Oper} {a : Act} {w : World} {φ : Value → World → Prop} {K : Act → World → Prop} {Q : Exit → Act → World → Prop} (h : YieldsP P o a w φ) (hK : ∀ v w', φ v w' → Below w.heap.size w w' → K (a.put o.dst v) w') : o.wp P a w K Q := by
  unfold YieldsP at h
  unfold Oper.wp
  generalize (execOp a.eval o).run P w = r at *
  cases r with
  | ok n w' =>
    cases n <;> simp only [Oper.upon] at h ⊢
    case value v => exact hK v w' h.1 h.2
    case enter f args =>
      refine Calls.mono h ?_
      rintro e w'' ⟨v, rfl, h1, h2⟩
      exact hK v w'' h1 h2
  | halt x w' => simp only at h
/-- Does j wait for i? -/
def waitsOn (l : List Oper) (j i : Nat) : Bool := match l[j]? with
  | some o => o.after.any fun e => Region.binds .any e && (e.on == i)
  | none => false
def StepAt (P : Program) (l : List Oper) (Φ : List MP) (A : (Nat → Value) → Act) (a : Act) (w0 : World) (i : Nat) (o : Oper) : Prop :=
  ∀ vals w, Hid (Below w0.heap.size w0 w) → Hid (∀ j, waitsOn l j i = true → vals j = ownV l a j) → (∀ e ∈ o.after, Region.binds .any e = true → (Φ.getD e.on MP.any).p (vals e.on) w) → Region.wanted o (yielded l.toArray (A vals).tmps) = true ∧ YieldsP P o (A vals) w (Φ.getD i MP.any).p
def StepsAll (P : Program) (l : List Oper) (Φ : List MP) (A : (Nat → Value) → Act) (a : Act) (w0 : World) : Nat → List Oper → Prop
  | _, [] => True
  | i, o :: r => StepAt P l Φ A a w0 i o ∧ StepsAll P l Φ A a w0 (i + 1) r
theorem StepsAll.at {l : List Oper} {Φ : List MP} {A : (Nat → Value) → Act} {a : Act} {w0 : World} : ∀ (k : Nat) (r : List Oper), StepsAll P l Φ A a w0 k r → ∀ i o, r[i]? = some o → StepAt P l Φ A a w0 (k + i) o
  | _, [], _, _, _, h => by simp at h
  | k, o :: r, h, 0, o', ho => by simp at ho; subst ho; exact h.1
  | k, o :: r, h, i + 1, o', ho => by
    have := StepsAll.at (k + 1) r h.2 i o' (by simpa using ho)
    rw [show k + 1 + i = k + (i + 1) by omega] at this
    exact this
def FinAll (vals : Nat → Value) (w : World) : Nat → List MP → Prop
  | _, [] => True
  | i, φ :: r => φ.p (vals i) w ∧ FinAll vals w (i + 1) r
theorem FinAll.of {vals : Nat → Value} {w : World} : ∀ (k : Nat) (r : List MP), (∀ i, i < r.length → (r.getD i MP.any).p (vals (k + i)) w) → FinAll vals w k r
  | _, [], _ => trivial
  | k, φ :: r, h => by
    refine ⟨by simpa using h 0 (by simp), FinAll.of (k + 1) r fun i hi => ?_⟩
    have := h (i + 1) (by simpa using hi)
    rw [show k + (i + 1) = k + 1 + i by omega] at this
    simpa using this
/-- What is asked of the region's text: each waits for earlier ones alone, and yields into a slot of its own. -/
def monoB (l : List Oper) : Bool :=
  (List.range l.length).all fun k => match l[k]? with
    | some o => (o.after.all fun e => !Region.binds .any e || decide (e.on < k)) && ((List.range l.length).all fun j => decide (j ≤ k) || (o.dst != dstL l j) || o.dst.isNone)
    | none => true
theorem wp_region_mono {id : Nat} {Q : Exit → Act → World → Prop} {a : Act} {w : World} {l : List Oper} (Φ : List MP) (A : (Nat → Value) → Act) (hm : P.follows .mixedOrders = true) (hS : monoB l = true) (hl : Φ.length = l.length)
    (hA : ∀ vals, putsV l a vals l.length = A vals) (hst : StepsAll P l Φ A a w 0 l) (hfin : ∀ vals w', Hid (Below w.heap.size w w') → FinAll vals w' 0 Φ → Q .normal (A vals) w') :
    (Code.region id l.toArray true).wp P Q a w := by
  refine wp_region_any hm ?_
  simp only [monoB, List.all_eq_true, List.mem_range] at hS
  have hback : ∀ k o, l[k]? = some o → ∀ e ∈ o.after, Region.binds .any e = true → e.on < k := by
    intro k o ho e he hb
    have hlt : k < l.length := (List.getElem?_eq_some_iff.1 ho).1
    have := hS k hlt
    simp only [ho, Bool.and_eq_true, Array.all_eq_true_iff_forall_mem] at this
    simpa [hb] using this.1 e he
  have hdst : ∀ i j, i < j → j < l.length → ∀ d, dstL l i = some d → dstL l j ≠ some d := by
    intro i j hij hj d hd e
    have hlt : i < l.length := by omega
    have ho : l[i]? = some l[i] := List.getElem?_eq_getElem hlt
    have := hS i hlt
    simp only [ho, Bool.and_eq_true, List.all_eq_true, List.mem_range] at this
    have := this.2 j hj
    have hd' : l[i].dst = some d := by simpa [dstL, ho] using hd
    rw [hd', e] at this
    simp at this
    omega
  have core : ∀ (fuel : Nat) (U : List Nat) (listed : Array Bool) (vals : Nat → Value) (w1 : World), U.length ≤ fuel → listed.size = l.length → (∀ i, i < l.length → listed[i]? = some (decide (i ∉ U))) → (∀ i ∈ U, i < l.length) → U.Nodup →
      (∀ i, i < l.length → i ∉ U → (Φ.getD i MP.any).p (vals i) w1) → (∀ i ∈ U, vals i = ownV l a i) → (∀ j o, l[j]? = some o → j ∉ U → ∀ e ∈ o.after, Region.binds .any e = true → e.on ∉ U) → Below w.heap.size w w1 → wpAny P .any l.toArray Q fuel listed (putsV l a vals l.length) w1 := by
    have fin : ∀ (vals : Nat → Value) (w1 : World), (∀ i, i < l.length → i ∉ ([] : List Nat) → (Φ.getD i MP.any).p (vals i) w1) → Below w.heap.size w w1 → Q .normal (putsV l a vals l.length) w1 := by
      intro vals w1 hall hb
      rw [hA]
      exact hfin vals w1 hb (FinAll.of 0 Φ fun i hi => by rw [Nat.zero_add]; exact hall i (by omega) (by simp))
    intro fuel
    induction fuel with
    | zero =>
      intro U listed vals w1 hU hs hl' hin hnd hall hown hcl hb
      have : U = [] := List.length_eq_zero_iff.1 (by omega)
      subst this
      refine ⟨?_, fin vals w1 hall hb⟩
      refine List.eq_nil_iff_forall_not_mem.2 fun i hi => ?_
      obtain ⟨h0, o, ho, _⟩ := mem_ready.1 hi
      have hlt : i < l.length := by simpa using (Array.getElem?_eq_some_iff.1 ho).1
      simp [hl' i hlt] at h0
    | succ fuel ih =>
      intro U listed vals w1 hU hs hl' hin hnd hall hown hcl hb
      refine ⟨fun h0 => ?_, fun i hi => ?_⟩
      · have : U = [] := by
          refine Classical.byContradiction fun hne => ?_
          obtain ⟨i0, hi0⟩ := List.exists_mem_of_ne_nil _ hne
          obtain ⟨i, hi, hmin⟩ : ∃ i, i ∈ U ∧ ∀ j, j < i → j ∉ U := by
            induction i0 using Nat.strongRecOn with
            | _ j ihj =>
              by_cases hex : ∃ q, q < j ∧ q ∈ U
              · obtain ⟨q, hq, hqU⟩ := hex
                exact ihj q hq hqU
              · exact ⟨j, hi0, fun q hq hqU => hex ⟨q, hq, hqU⟩⟩
          have hlt := hin i hi
          have : i ∈ Region.ready .any l.toArray listed := by
            rw [mem_ready]
            refine ⟨by simp [hl' i hlt, hi], l[i], by simp [hlt], fun e he hbi => ?_⟩
            have hon := hback i l[i] (List.getElem?_eq_getElem hlt) e he hbi
            simp [hl' e.on (by omega), hmin e.on hon]
          rw [h0] at this
          cases this
        subst this
        exact fin vals w1 hall hb
      · obtain ⟨hun, o, ho, hdep⟩ := mem_ready.1 hi
        have hlt : i < l.length := by simpa using (Array.getElem?_eq_some_iff.1 ho).1
        have ho' : l[i]? = some o := by simpa using ho
        have hiU : i ∈ U := by
          refine Classical.byContradiction fun hn => ?_
          simp [hl' i hlt, hn] at hun
        have st := StepsAll.at 0 l hst i o ho' vals w1 hb (show ∀ j, waitsOn l j (0 + i) = true → vals j = ownV l a j from fun j hj => by
          rw [Nat.zero_add] at hj
          unfold waitsOn at hj
          cases hoj : l[j]? with
          | none => simp [hoj] at hj
          | some oj =>
            simp only [hoj] at hj
            obtain ⟨e, he, hb'⟩ := Array.any_eq_true'.1 hj
            simp only [Bool.and_eq_true, beq_iff_eq] at hb'
            refine hown j (Classical.byContradiction fun hn => ?_)
            exact hcl j oj hoj hn e he hb'.1 (by rw [hb'.2]; exact hiU)) (fun e he hbi => by
          have hon := hback i o ho' e he hbi
          have h1 := hdep e he hbi
          refine hall e.on (by omega) fun hmU => ?_
          simp [hl' e.on (by omega), hmU] at h1)
        rw [Nat.zero_add, ← hA] at st
        unfold wpOp
        simp only [ho]
        rw [if_pos st.1]
        refine .inl (st.2.wp fun v w2 hv hb2 => ?_)
        have hd : o.dst = dstL l i := by simp [dstL, ho']
        rw [hd, putsV_upd l.length hlt (fun j h1 h2 d => hdst i j h1 h2 d)]
        have hlen : (U.erase i).length + 1 = U.length := by
          rw [List.length_erase_of_mem hiU]
          have := List.length_pos_of_mem hiU
          omega
        refine ih (U.erase i) _ _ w2 (by omega) (by simp [hs]) (fun j hj => ?_) (fun j hj => hin j (List.mem_of_mem_erase hj)) (hnd.erase i) (fun j hj hjn => ?_) (fun j hj => ?_) (fun j oj hoj hjn e he hbi hmm => ?_) (hb.trans (hb2.mono hb.size))
        · rw [Array.getElem?_setIfInBounds]
          by_cases e : i = j
          · subst e
            have : i ∉ U.erase i := fun hm => (List.Nodup.mem_erase_iff hnd).1 hm |>.1 rfl
            simp [this, hs, hlt]
          · rw [if_neg e, hl' j hj]
            simp [List.mem_erase_of_ne (Ne.symm e)]
        · by_cases e : j = i
          · subst e
            unfold updV
            rw [if_pos rfl]
            exact hv
          · unfold updV
            rw [if_neg e]
            exact (Φ.getD j MP.any).up (hall j hj fun hm => hjn ((List.mem_erase_of_ne e).2 hm)) hb2
        · have hne : j ≠ i := fun e => by
            subst e
            exact (List.Nodup.mem_erase_iff hnd).1 hj |>.1 rfl
          unfold updV
          rw [if_neg hne]
          exact hown j (List.mem_of_mem_erase hj)
        · have hmU := List.mem_of_mem_erase hmm
          by_cases e' : j = i
          · subst e'
            rw [ho'] at hoj
            cases hoj
            have h1 := hdep e he hbi
            have hon := hback j o ho' e he hbi
            simp [hl' e.on (by omega), hmU] at h1
          · exact hcl j oj hoj (fun hm => hjn ((List.mem_erase_of_ne e').2 hm)) e he hbi hmU
  have key := core l.length (List.range l.length) (Array.replicate l.length false) (ownV l a) { w with drawn := w.drawn + 1 } (by simp) (by simp) (fun i hi => by simp [hi]) (fun i hi => List.mem_range.1 hi) List.nodup_range (fun i hi hn => absurd (List.mem_range.2 hi) hn) (fun _ _ => rfl) (fun j o hoj hn => absurd (List.mem_range.2 (List.getElem?_eq_some_iff.1 hoj).1) hn) ((Below.refl _ _).drew)
  rw [putsV_own] at key
  simpa using key
theorem wp_region_monoE {id : Nat} {Q : Exit → Act → World → Prop} {a : Act} {w : World} {l : List Oper} (Φ : List MP) (hm : P.follows .mixedOrders = true) (hS : monoB l = true) (hl : Φ.length = l.length)
    (h : ∃ A, (∀ vals, putsV l a vals l.length = A vals) ∧ StepsAll P l Φ A a w 0 l ∧ ∀ vals w', Hid (Below w.heap.size w w') → FinAll vals w' 0 Φ → Q .normal (A vals) w') :
    (Code.region id l.toArray true).wp P Q a w := by
  obtain ⟨A, h1, h2, h3⟩ := h
  exact wp_region_mono Φ A hm hS hl h1 h2 h3
end
theorem MP.eq_p (c v : Value) (w : World) : (MP.eq c).p v w = (v = c) := rfl
end Go.Proofs.YtfknkfninjjgbabDoor

/- Arrays of bytes as values: an element by its place; arrays that are loaded and stored whole. -/
namespace Go.Proofs.YtfknkfninjjgbabDoor
open Go.RowKit
set_option linter.unusedSimpArgs false
theorem gi_u8 : (Tryd.prog.info? 5).map (·.size) = some 1 := by kernel_rfl
section
variable {P : Program}
end
section
open Go.BigFrame
variable {ops : Array Oper} {rest : List Oper} {o : Oper} {a : Act} {C : World → Prop} {Q : Act → Prop}
end
end Go.Proofs.YtfknkfninjjgbabDoor

/- copy of bytes out of a row, and out of a slice, into a range that may be written; an array sliced from a place on. -/
namespace Go.Proofs.YtfknkfninjjgbabDoor
open Go.RowKit
set_option linter.unusedSimpArgs false
theorem wp_copyR {ops : Array Oper} {rest : List Oper} {o : Oper} {act : Act} {Q : Exit → Act → World → Prop} {w : World} (hgd : o.guard = none) (d s : Operand)
    (ho : o.op = .call { callee := .builtin .copy, args := #[d, s], argTypes := #[23, 23] }) (b f dl dc g q sl sc : Nat) (xs : List Nat) (hd : act.eval d = .slice (some ⟨b, f, none⟩) dl dc) (hs : act.eval s = .slice (some ⟨g, q, none⟩) sl sc) (hn : xs.length = min sl dl) (hr : w.rangeAt g q (xs.map b8))
    (ht : w.there b f xs.length)
    (h : ∀ w2, Hid (w2 = w.setCells b f (xs.map b8)) → wpList Tryd.prog ops Q rest (act.put o.dst (.int .i64 ((xs.length : Nat) : Int))) w2) : wpList Tryd.prog ops Q (o :: rest) act w := by
  refine wpList_plain hgd fun K hK => ?_
  have hlen : (xs.map b8).length = min sl dl := by rw [List.length_map]; exact hn
  have hrun := run_copy_cells (P := Tryd.prog) w 23 23 o.type 5 b f dl dc ⟨g, q, none⟩ sl sc (xs.map b8) Tryd.uBytes gi_u8 hlen
    (fun j v hj => by rw [Addr.add_lit]; exact hr j v hj)
    (fun j hj => (ht j (by rw [List.length_map] at hj; exact hj)).1) (fun j hj => (ht j (by rw [List.length_map] at hj; exact hj)).2) (one_b8 _)
  rw [List.length_map] at hrun
  unfold Oper.wp
  simp [execOp, ho, resolve, invoke, builtin, hd, hs, hrun, Result.andThen]
  exact hK _ _ (h _ rfl)
theorem By.range {w : World} {a : Option Addr} {n c : Nat} {xs : List Nat} (h : By w (.slice a n c) xs) (hp : 0 < xs.length) : ∃ g q, a = some ⟨g, q, none⟩ ∧ n = xs.length ∧ w.rangeAt g q (xs.map b8) := by
  obtain ⟨a', c', e, h1, h2, h3⟩ := h
  cases e
  obtain ⟨g, q, e, hc⟩ := h3 hp
  refine ⟨g, q, e, rfl, fun j v hj => ?_⟩
  rw [List.getElem?_map] at hj
  rcases Nat.lt_or_ge j xs.length with h | h
  · rw [hc j h]
    simp [List.getD_eq_getElem?_getD, h] at hj ⊢
    exact hj
  · simp [List.getElem?_eq_none h] at hj
/-- The first bytes of a range. -/
theorem range_take {w : World} {g q : Nat} {vs : List Value} (h : w.rangeAt g q vs) (n : Nat) : w.rangeAt g q (vs.take n) := fun j v hj => by
  rw [List.getElem?_take] at hj
  split at hj
  · exact h j v hj
  · cases hj
/-- An array sliced from a place on. -/
theorem slice_from {t e : TypeId} {n : Nat} (ht : Tryd.prog.underlying t = some (.array n e)) (hz : (Tryd.prog.info? e).map (·.size) = some 1) (k : IntKind) (i : Nat) (hi : i < n) (b o : Nat) (w : World) :
    (Instr.sliceAt t (.pointer (some ⟨b, o, none⟩)) (some (.int k (i : Int))) none none).run Tryd.prog w = .ok (.slice (some ⟨b, o + i, none⟩) (n - i) (n - i)) w := by
  have ha : Tryd.prog.arrayLen t = n := by simp [Program.arrayLen, ht]
  have he : Tryd.prog.elem t = e := by simp [Program.elem, ht]
  rw [run_sliceAt_array_l w t ⟨b, o, none⟩ (by rw [ha, he]; exact ht) k (i : Int) (by omega) (by rw [ha]; omega), ha, he]
  cases hq : Tryd.prog.info? e with
  | none => simp [hq] at hz
  | some d =>
    have hs : d.size = 1 := by simpa [hq] using hz
    have hne : ¬ n = i := by omega
    simp [sizeOf, typeInfo, hq, hs, slicedAt, Addr.add_lit, hne]
theorem yields_all {o : Oper} {a : Act} {w : World} {φ : Value → World → Prop} {t e : TypeId} {n : Nat} (ht : Tryd.prog.underlying t = some (.array n e)) (hz : (Tryd.prog.info? e).map (·.size) = some 1) (hn : 0 < n) (x : Operand) (ho : o.op = .slice t x none none none) (b f : Nat) (hx : a.eval x = .pointer (some ⟨b, f, none⟩))
    (h : φ (.slice (some ⟨b, f, none⟩) n n) w) : YieldsP Tryd.prog o a w φ := by
  have e1 := slice_all ht hz hn b f w
  have e : (execOp a.eval o).run Tryd.prog w = .ok (.value (.slice (some ⟨b, f, none⟩) n n)) w := by
    unfold execOp
    simp [ho, hx, e1]
  unfold YieldsP
  rw [e]
  exact ⟨h, Below.refl _ _⟩
end Go.Proofs.YtfknkfninjjgbabDoor

/- A region that draws its order of evaluation: readings and calls, then operations that wait for all of these, by whatever chain. Over any program. -/
namespace Go.Proofs.YtfknkfninjjgbabDoor
open Go.RowKit
end Go.Proofs.YtfknkfninjjgbabDoor

/- Package scalar, as it landed: ofHalves, Of. -/
namespace Go.Proofs.YtfknkfninjjgbabDoor
open Go.RowKit
attribute [local go_sem] World.cell?_alloc_some cell_alloc2 cell_alloc3 cell_alloc4 frozen?_alloc_cells frozen_out
set_option linter.unusedSimpArgs false
/-- The number of bytes, the least first. -/
def S.le : List Nat → Nat
  | [] => 0
  | x :: xs => x + 256 * S.le xs
theorem S.le_append : ∀ xs ys : List Nat, S.le (xs ++ ys) = S.le xs + 256 ^ xs.length * S.le ys
  | [], ys => by simp [S.le]
  | x :: xs, ys => by
    rw [List.cons_append, S.le, S.le, S.le_append xs ys, List.length_cons, Nat.pow_succ, Nat.mul_comm (256 ^ xs.length) 256, Nat.mul_assoc]
    omega
theorem S.le_zeros : ∀ n, S.le (List.replicate n 0) = 0
  | 0 => rfl
  | n + 1 => by rw [List.replicate_succ, S.le, S.le_zeros n]
theorem S.le_lt : ∀ xs : List Nat, (∀ x ∈ xs, x < 256) → S.le xs < 256 ^ xs.length
  | [], _ => by simp [S.le]
  | x :: xs, h => by
    have h1 := S.le_lt xs fun y hy => h y (List.mem_cons_of_mem _ hy)
    have h2 := h x List.mem_cons_self
    rw [S.le, List.length_cons, Nat.pow_succ]
    omega
theorem S.le_at : ∀ (xs : List Nat), (∀ x ∈ xs, x < 256) → ∀ i, S.le xs / 256 ^ i % 256 = xs.getD i 0
  | [], _, i => by simp [S.le]
  | x :: xs, h, 0 => by
    have h2 := h x List.mem_cons_self
    rw [S.le, Nat.pow_zero, Nat.div_one]
    show _ = x
    omega
  | x :: xs, h, i + 1 => by
    have h2 := h x List.mem_cons_self
    rw [S.le, Nat.pow_succ, Nat.mul_comm (256 ^ i) 256, ← Nat.div_div_eq_div_mul, show (x + 256 * S.le xs) / 256 = S.le xs by omega, S.le_at xs (fun y hy => h y (List.mem_cons_of_mem _ hy)) i]
    simp
theorem S.row {xs : List Nat} (hl : xs.length = 32) (h : ∀ x ∈ xs, x < 256) : xs.map b8 = bR (S.le xs) := by
  apply List.ext_getElem?
  intro i
  by_cases hi : i < 32
  · have h1 := S.le_at xs h i
    rw [List.getD_eq_getElem?_getD, List.getElem?_eq_getElem (by omega)] at h1
    rw [List.getElem?_map, List.getElem?_eq_getElem (by omega)]
    simp only [Option.getD_some] at h1
    simp only [bR, List.getElem?_map, List.getElem?_range hi, Option.map_some]
    rw [h1]
  · rw [List.getElem?_eq_none (by simp; omega), List.getElem?_eq_none (by rw [bR_length]; omega)]
theorem S.low {xs : List Nat} (hl : xs.length = 32) (h : ∀ x ∈ xs, x < 256) : S.le xs < 2 ^ 256 := Nat.lt_of_lt_of_le (S.le_lt xs h) (by rw [hl]; decide)
/-- Thirty-two bytes: these, and noughts behind them. -/
def S.pad (xs : List Nat) : List Nat := xs ++ List.replicate (32 - xs.length) 0
theorem S.pad_le (xs : List Nat) : S.le (S.pad xs) = S.le xs := by rw [S.pad, S.le_append, S.le_zeros, Nat.mul_zero, Nat.add_zero]
theorem S.halves (xs : List Nat) : S.le xs = S.le (S.pad (xs.take 32)) + 2 ^ 256 * S.le (S.pad (xs.drop 32)) := by
  rw [S.pad_le, S.pad_le]
  rcases Nat.lt_or_ge 32 xs.length with h | h
  · conv => lhs; rw [← List.take_append_drop 32 xs]
    rw [S.le_append, List.length_take, Nat.min_eq_left (by omega), show (256 : Nat) ^ 32 = 2 ^ 256 by decide]
  · rw [List.take_of_length_le h, List.drop_of_length_le h, S.le, Nat.mul_zero, Nat.add_zero]
set_option maxHeartbeats 1000000 in
theorem sHalves_walk (a b : Nat) (x y p : Nm)
    (O1 : ∀ w, Calls Tryd.prog 52 #[.agg (bR (a)).toArray] w fun e w' => e = .returned (N x) ∧ Below w.heap.size w w')
    (O2 : ∀ w, Calls Tryd.prog 52 #[.agg (bR (b)).toArray] w fun e w' => e = .returned (N y) ∧ Below w.heap.size w w')
    (SR : ∀ w, Calls Tryd.prog 58 #[Wv x y] w fun e w' => e = .returned (N p) ∧ Below w.heap.size w w')
    (w : World) :
    Calls Tryd.prog 35 #[bV a, bV b] w fun e w' => e = .returned (N p) ∧ Below w.heap.size w w' := by
  go_enter Tryd.func35, Tryd.ntmps35
  have s0 : Hid (Kn (kz4 ((w.alloc (.cells (bR (a)).toArray 22)).alloc (.cells (bR (b)).toArray 22))) [(w.heap.size + 1 + 1, zz4), (w.heap.size + 1, (bR (b))), (w.heap.size, (bR (a)))]) := ((((Kn.nil w).al (bR (a)) 22 rfl).al (bR (b)) 22 (by simp)).al zz4 26 (by simp))
  have b0 : Hid (Below w.heap.size w (kz4 ((w.alloc (.cells (bR (a)).toArray 22)).alloc (.cells (bR (b)).toArray 22)))) := ((((Below.refl _ _).alloc (Nat.le_refl _) _).alloc (by simp <;> omega) _).alloc (by simp <;> omega) _)
  go_wp2_with fail
  refine wp_region_up_then 6 (by kernel_rfl) (by kernel_rfl) (by kernel_rfl) (by kernel_rfl) (by decide) (fun _ _ d _ _ h => by cases d <;> exact h) (fun U hU f hf hcl => ?_)
  have ra_lo_0 := fun nx => (Kn.rng (s0.out.up (hf nx).out) 2 rfl : (f nx).rangeAt (w.heap.size) 0 (bR (a)))
  have ra_hi_0 := fun nx => (Kn.rng (s0.out.up (hf nx).out) 1 rfl : (f nx).rangeAt (w.heap.size + 1) 0 (bR (b)))
  simp only [List.take_succ_cons, List.take_zero, List.drop_succ_cons, List.drop_zero]
  repeat (first | (refine I.quiet_load rfl 22 _ rfl (w.heap.size) 0 rfl (bR (a)) _ (fun W hW => by obtain ⟨nx, rfl⟩ := hW; exact ra_lo_0 nx) Tryd.underlying22 rfl (info_bR (a)) ?_; simp only [Act.put, List.setIfInBounds_toArray, List.set_cons_succ, List.set_cons_zero]) | (refine I.quiet_load rfl 22 _ rfl (w.heap.size + 1) 0 rfl (bR (b)) _ (fun W hW => by obtain ⟨nx, rfl⟩ := hW; exact ra_hi_0 nx) Tryd.underlying22 rfl (info_bR (b)) ?_; simp only [Act.put, List.setIfInBounds_toArray, List.set_cons_succ, List.set_cons_zero]) | go_big_quiet_step (first | (go_at_call_of 52 [Value.agg (bR (a)).toArray]; exact (O1 _).mono fun e w'' ⟨he, hb⟩ => ⟨he, hcl.out _ _ hb⟩) | (go_at_call_of 52 [Value.agg (bR (b)).toArray]; exact (O2 _).mono fun e w'' ⟨he, hb⟩ => ⟨he, hcl.out _ _ hb⟩) | (go_at_call 61; exact (wideOf_fun x y _).mono fun e w'' ⟨he, hb⟩ => ⟨he, hcl.out _ _ hb⟩) | (go_at_call 58; exact (SR _).mono fun e w'' ⟨he, hb⟩ => ⟨he, hcl.out _ _ hb⟩)))
  refine wpQuiet_nil ?_
  intro nx
  have hb1 := (hf nx).out
  clear hf hcl
  generalize f nx = w1 at hb1 ⊢
  have s1 : Hid (Kn w1 [(w.heap.size + 1 + 1, zz4), (w.heap.size + 1, (bR (b))), (w.heap.size, (bR (a)))]) := s0.out.up hb1
  have b1 : Hid (Below w.heap.size w w1) := b0.out.trans (hb1.mono b0.out.size)
  have z1 := b1.out.size
  clear hb1 s0 b0
  have uro_0 : w1.cell? ⟨w.heap.size + 1 + 1, 0, none⟩ = some (.int .u64 0) := Kn.get s1.out 0 0 rfl rfl
  have uro_1 : w1.cell? ⟨w.heap.size + 1 + 1, 1, none⟩ = some (.int .u64 0) := Kn.get s1.out 0 1 rfl rfl
  have uro_2 : w1.cell? ⟨w.heap.size + 1 + 1, 2, none⟩ = some (.int .u64 0) := Kn.get s1.out 0 2 rfl rfl
  have uro_3 : w1.cell? ⟨w.heap.size + 1 + 1, 3, none⟩ = some (.int .u64 0) := Kn.get s1.out 0 3 rfl rfl
  have uro_z : ∀ j, w1.frozen? ⟨w.heap.size + 1 + 1, j, none⟩ = false := Kn.fz s1.out 0 rfl
  have s2 : Hid (Kn (st4 w1 (w.heap.size + 1 + 1) (p)) [(w.heap.size + 1 + 1, (c4 (p))), (w.heap.size + 1, (bR (b))), (w.heap.size, (bR (a)))]) := Kn.st4 (L := [(w.heap.size + 1, (bR (b))), (w.heap.size, (bR (a)))]) (s1.out.front 0 rfl) (p)
  have b2 : Hid (Below w.heap.size w (st4 w1 (w.heap.size + 1 + 1) (p))) := below_st4 b1.out (by omega)
  clear s1 b1
  go_wp2_with fail
  clear uro_0 uro_1 uro_2 uro_3 uro_z
  have urr_0 : (st4 w1 (w.heap.size + 1 + 1) (p)).cell? ⟨w.heap.size + 1 + 1, 0, none⟩ = some (.int .u64 (p).a) := Kn.get s2.out 0 0 rfl rfl
  have urr_1 : (st4 w1 (w.heap.size + 1 + 1) (p)).cell? ⟨w.heap.size + 1 + 1, 1, none⟩ = some (.int .u64 (p).b) := Kn.get s2.out 0 1 rfl rfl
  have urr_2 : (st4 w1 (w.heap.size + 1 + 1) (p)).cell? ⟨w.heap.size + 1 + 1, 2, none⟩ = some (.int .u64 (p).c) := Kn.get s2.out 0 2 rfl rfl
  have urr_3 : (st4 w1 (w.heap.size + 1 + 1) (p)).cell? ⟨w.heap.size + 1 + 1, 3, none⟩ = some (.int .u64 (p).d) := Kn.get s2.out 0 3 rfl rfl
  refine bodyPost_ret (v := N p) ?_ rfl ⟨rfl, b2.out⟩
  show (results Tryd.f35 _).run Tryd.prog (st4 w1 (w.heap.size + 1 + 1) (p)) = .ok _ (st4 w1 (w.heap.size + 1 + 1) (p))
  clear s2 b2
  generalize (st4 w1 (w.heap.size + 1 + 1) (p)) = W9 at *
  simp [results, Tryd.results35, go_sem, urr_0, urr_1, urr_2, urr_3]
theorem sHalves_fun {a b : Nat} (ha : a < 2 ^ 256) (hb : b < 2 ^ 256) (w : World) :
    Calls Tryd.prog 35 #[bV a, bV b] w fun e w' => e = .returned (N (nm ((a + 2 ^ 256 * b) % Cv.ord))) ∧ Below w.heap.size w w' := by
  have SR := sRed_fun (nm a) (nm b) (nm_ok _) (nm_ok _)
  rw [nm_nat ha, nm_nat hb] at SR
  exact sHalves_walk a b _ _ _ (of_n a ha) (of_n b hb) SR w
theorem u_b32r : (Tryd.prog.info? 5).map (·.size) = some 1 := by kernel_rfl
theorem wp_all32 {ops : Array Oper} {rest : List Oper} {o : Oper} {a : Act} {Q : Exit → Act → World → Prop} {w : World} (hgd : o.guard = none) (x : Operand) (ho : o.op = .slice 22 x none none none) (b : Nat) (hx : a.eval x = .pointer (some ⟨b, 0, none⟩))
    (h : wpList Tryd.prog ops Q rest (a.put o.dst (.slice (some ⟨b, 0, none⟩) 32 32)) w) : wpList Tryd.prog ops Q (o :: rest) a w := by
  refine wpList_plain hgd fun K hK => ?_
  have e1 := slice_all u_b32 u_b32r (by decide) b 0 w
  unfold Oper.wp
  simp [execOp, ho, hx, e1, Result.andThen]
  exact hK _ _ h
end Go.Proofs.YtfknkfninjjgbabDoor

/- Rows of digits of 16 bits, and the numbers that they are. -/
namespace Go.Proofs.YtfknkfninjjgbabDoor.P
/-- The number of a row of digits, the least first. -/
def dv : List Nat → Nat
  | [] => 0
  | x :: xs => x + 65536 * dv xs
/-- All are digits. -/
def Dg (xs : List Nat) : Prop := ∀ x ∈ xs, x < 65536
/-- A number's digits, none of them 0 at the end. -/
def dg (n : Nat) : List Nat := if n = 0 then [] else n % 65536 :: dg (n / 65536) termination_by n decreasing_by omega
theorem dg_zero : dg 0 = [] := by rw [dg]; simp
theorem dg_pos {n : Nat} (h : n ≠ 0) : dg n = n % 65536 :: dg (n / 65536) := by rw [dg, if_neg h]
theorem Dg.tail {x : Nat} {xs : List Nat} (h : Dg (x :: xs)) : Dg xs := fun y hy => h y (List.mem_cons_of_mem _ hy)
theorem Dg.head {x : Nat} {xs : List Nat} (h : Dg (x :: xs)) : x < 65536 := h x List.mem_cons_self
/-- What has no 0 at the end is its number's digits. -/
theorem eq_dg : ∀ xs, Dg xs → (xs = [] ∨ xs.getD (xs.length - 1) 0 ≠ 0) → xs = dg (dv xs)
  | [], _, _ => by rw [dv, dg_zero]
  | [x], h, hl => by
    have hx : x ≠ 0 := by simpa using hl
    have := h.head
    rw [dv, dv, Nat.mul_zero, Nat.add_zero, dg_pos hx, Nat.mod_eq_of_lt this, show x / 65536 = 0 by omega, dg_zero]
  | x :: y :: xs, h, hl => by
    have ih := eq_dg (y :: xs) h.tail (.inr (by simpa using hl))
    have hx := h.head
    have hp : dv (y :: xs) ≠ 0 := by
      intro e
      rw [e, dg_zero] at ih
      cases ih
    rw [dv, dg_pos (by omega), show (x + 65536 * dv (y :: xs)) % 65536 = x by omega, show (x + 65536 * dv (y :: xs)) / 65536 = dv (y :: xs) by omega, ← ih]
/-- What is struck at the end is nothing. -/
theorem dv_take {xs : List Nat} {k : Nat} (h : ∀ j, k ≤ j → xs.getD j 0 = 0) : dv (xs.take k) = dv xs := by
  induction xs generalizing k with
  | nil => simp
  | cons x xs ih =>
    cases k with
    | zero =>
      have e := ih (k := 0) (fun j _ => by have := h (j + 1) (by omega); simpa using this)
      have h0 := h 0 (by omega)
      simp at h0 e
      rw [h0]
      simp only [dv] at e ⊢
      simp [dv, ← e]
    | succ k =>
      rw [List.take_succ_cons, dv, dv, ih (fun j hj => by have := h (j + 1) (by omega); simpa using this)]
theorem Dg.take {xs : List Nat} (h : Dg xs) (k : Nat) : Dg (xs.take k) := fun x hx => h x (List.mem_of_mem_take hx)
theorem Dg.append {xs ys : List Nat} (h : Dg xs) (h' : Dg ys) : Dg (xs ++ ys) := fun x hx => (List.mem_append.1 hx).elim (h x) (h' x)
theorem Dg.one {x : Nat} (h : x < 65536) : Dg [x] := fun y hy => by rw [List.mem_singleton.1 hy]; exact h
/-- The digit at a place. -/
theorem dig {xs : List Nat} (h : Dg xs) (i : Nat) : xs.getD i 0 = dv xs / 65536 ^ i % 65536 := by
  induction xs generalizing i with
  | nil => simp [dv]
  | cons x xs ih =>
    have hx := h.head
    cases i with
    | zero => rw [dv]; simp; omega
    | succ i =>
      rw [List.getD_cons_succ, ih h.tail, dv, Nat.pow_succ, Nat.mul_comm (65536 ^ i), ← Nat.div_div_eq_div_mul, show (x + 65536 * dv xs) / 65536 = dv xs by omega]
theorem Dg.set {xs : List Nat} (h : Dg xs) {i v : Nat} (hv : v < 65536) : Dg (xs.set i v) := fun x hx => by
  rcases List.mem_or_eq_of_mem_set hx with h1 | h1
  · exact h x h1
  · rw [h1]; exact hv
end Go.Proofs.YtfknkfninjjgbabDoor.P

/- Slices of digits by the row of their elements; the contracts of sealringref.digit and trim. -/
namespace Go.Proofs.YtfknkfninjjgbabDoor
open Go.RowKit
/-- The slice v holds the numbers xs: they lie one behind the other in a block. -/
def Sl (w : World) (v : Value) (xs : List Nat) : Prop :=
  (v = .slice none 0 0 ∧ xs = []) ∨ ∃ b o c, v = .slice (some ⟨b, o, none⟩) xs.length c ∧ xs.length ≤ c ∧ ∀ j, j < xs.length → w.cell? ⟨b, o + j, none⟩ = some (.int .i64 ((xs.getD j 0 : Nat) : Int))
theorem Sl.up {W w1 : World} {v : Value} {xs : List Nat} (h : Sl W v xs) (hb : Below W.heap.size W w1) : Sl w1 v xs := by
  rcases h with h | ⟨b, o, c, e, hl, hc⟩
  · exact .inl h
  · exact .inr ⟨b, o, c, e, hl, fun j hj => (hb.cell (p := ⟨b, o + j, none⟩) (lt_of_cell (hc j hj))).trans (hc j hj)⟩
theorem Sl.parts {w : World} {v : Value} {xs : List Nat} (h : Sl w v xs) : ∃ a c, v = .slice a xs.length c := by
  rcases h with ⟨rfl, rfl⟩ | ⟨b, o, c, rfl, _⟩
  · exact ⟨none, 0, rfl⟩
  · exact ⟨_, c, rfl⟩
/-- How many are left when the noughts at the end are struck. -/
def Trims (xs : List Nat) (k : Nat) : Prop := k ≤ xs.length ∧ (∀ j, k ≤ j → xs.getD j 0 = 0) ∧ (k = 0 ∨ xs.getD (k - 1) 0 ≠ 0)
theorem Trims.eq {xs : List Nat} {k : Nat} (h : Trims xs k) (hd : P.Dg xs) : xs.take k = P.dg (P.dv xs) := by
  rw [← P.dv_take h.2.1]
  refine P.eq_dg _ (hd.take k) ?_
  rcases h.2.2 with e | e
  · exact .inl (by rw [e, List.take_zero])
  · by_cases hk : k = 0
    · exact .inl (by rw [hk, List.take_zero])
    · refine .inr ?_
      rw [List.length_take, Nat.min_eq_left h.1]
      rw [List.getD_eq_getElem?_getD, List.getElem?_take, if_pos (by omega), ← List.getD_eq_getElem?_getD]
      exact e
/-- The slice lies in a block from B on (or is nil). -/
def blkGe (B : Nat) : Value → Prop
  | .slice (some a) _ _ => B ≤ a.block
  | _ => True
theorem blkGe.mono {A B : Nat} {v : Value} (h : blkGe B v) (hab : A ≤ B) : blkGe A v := by
  cases v with
  | slice a _ _ =>
    cases a with
    | none => exact trivial
    | some a => exact Nat.le_trans hab h
  | _ => exact trivial
theorem Sl.set_ne {w : World} {v : Value} {xs : List Nat} {g j : Nat} {y : Value} (h : Sl w v xs) (hg : blkGe (g + 1) v) : Sl (w.setCell ⟨g, j, none⟩ y) v xs := by
  rcases h with h | ⟨b, o, c, rfl, hl, hc⟩
  · exact .inl h
  · have hb : g + 1 ≤ b := hg
    refine .inr ⟨b, o, c, rfl, hl, fun i hi => ?_⟩
    rw [cell_set_ne (by omega)]
    exact hc i hi
end Go.Proofs.YtfknkfninjjgbabDoor

/- Slices of digits that a call itself makes: owned rows, and what append does to one. -/
namespace Go.Proofs.YtfknkfninjjgbabDoor
open Go.RowKit
abbrev iv (x : Nat) : Value := .int .i64 ((x : Nat) : Int)
/-- The slice v is a row that the call made (its block from B on), and holds xs. -/
def Ow (w : World) (B : Nat) (v : Value) (xs : List Nat) : Prop := w.ownsRow B 3 1 v xs.length (xs.map iv)
theorem Ow.nil (w : World) (B : Nat) : Ow w B (.slice none 0 0) [] := World.ownsRow_nil _ _ _ _
theorem Ow.up {W w1 : World} {B : Nat} {v : Value} {xs : List Nat} (h : Ow W B v xs) (hb : Below W.heap.size W w1) : Ow w1 B v xs := by
  refine ⟨h.1, ?_⟩
  rcases h.2 with h' | ⟨g, cap, cur, e, hB, hg, rest⟩
  · exact .inl h'
  · exact .inr ⟨g, cap, cur, e, hB, (hb.block g (Array.getElem?_eq_some_iff.1 hg).1).trans hg, rest⟩
theorem Ow.sl {w : World} {B : Nat} {v : Value} {xs : List Nat} (h : Ow w B v xs) : Sl w v xs := by
  rcases h.2 with ⟨e, e2⟩ | ⟨g, cap, cur, e, hB, hg, hn, rest⟩
  · exact .inl ⟨e, List.length_eq_zero_iff.1 e2⟩
  · refine .inr ⟨g, 0, cap, e, hn, fun j hj => ?_⟩
    have h2 : w.ownsRow B 3 1 (.slice (some ⟨g, 0, none⟩) xs.length cap) xs.length (xs.map iv) := by rw [← e]; exact h
    rw [Nat.zero_add, h2.cellAt j (by omega)]
    simp [hj, iv]
theorem Ow.size {w : World} {B g n c : Nat} {xs : List Nat} (h : Ow w B (.slice (some ⟨g, 0, none⟩) n c) xs) : g < w.heap.size := (h.lt g rfl).2
end Go.Proofs.YtfknkfninjjgbabDoor

/- The contract of sealringref.Times: the product. -/
namespace Go.Proofs.YtfknkfninjjgbabDoor
open Go.RowKit
theorem Ow.cell {w : World} {B g n c : Nat} {xs : List Nat} (h : Ow w B (.slice (some ⟨g, 0, none⟩) n c) xs) (hn : n = xs.length) (j : Nat) (hj : j < xs.length) : w.cell? ⟨g, j, none⟩ = some (.int .i64 ((xs.getD j 0 : Nat) : Int)) ∧ w.frozen? ⟨g, j, none⟩ = false := by
  subst hn
  have h2 : w.ownsRow B 3 1 (.slice (some ⟨g, 0, none⟩) xs.length c) xs.length (xs.map iv) := h
  refine ⟨?_, h2.frozenAt j⟩
  rw [h2.cellAt j (by omega)]
  simp [hj, iv]
theorem Ow.set {w : World} {B g n c : Nat} {xs : List Nat} (h : Ow w B (.slice (some ⟨g, 0, none⟩) n c) xs) (hn : n = xs.length) (hg : B ≤ g) (j y : Nat) (z : Int) (hz : z = ((y : Nat) : Int)) : Ow (w.setCell ⟨g, j, none⟩ (.int .i64 z)) B (.slice (some ⟨g, 0, none⟩) n c) (xs.set j y) ∧ Below B w (w.setCell ⟨g, j, none⟩ (.int .i64 z)) := by
  subst hn hz
  have h2 : w.ownsRow B 3 1 (.slice (some ⟨g, 0, none⟩) xs.length c) xs.length (xs.map iv) := h
  refine ⟨?_, (Below.refl _ _).setCell hg _⟩
  have := (h2.stored j (iv y)).1
  unfold Ow
  rw [List.length_set, List.map_set]
  exact this
theorem Sl.some {w : World} {a : Option Addr} {n c : Nat} {xs : List Nat} (h : Sl w (.slice a n c) xs) (hl : 0 < xs.length) : ∃ b o, a = .some ⟨b, o, none⟩ ∧ ∀ j, j < xs.length → w.cell? ⟨b, o + j, none⟩ = .some (.int .i64 ((xs.getD j 0 : Nat) : Int)) := by
  rcases h with ⟨_, rfl⟩ | ⟨b, o, c', e, _, hc⟩
  · simp at hl
  · simp only [Value.slice.injEq] at e
    exact ⟨b, o, e.1, hc⟩
end Go.Proofs.YtfknkfninjjgbabDoor

/- The contract of sealringref.Minus: the difference, where the second is not greater. -/
namespace Go.Proofs.YtfknkfninjjgbabDoor
open Go.RowKit
end Go.Proofs.YtfknkfninjjgbabDoor

/- The contract of sealringref.Order: which of two rows of digits is greater, from the last place down. -/
namespace Go.Proofs.YtfknkfninjjgbabDoor
open Go.RowKit
end Go.Proofs.YtfknkfninjjgbabDoor

/- The contract of sealringref.Parts: how often, and what is left. -/
namespace Go.Proofs.YtfknkfninjjgbabDoor
open Go.RowKit
theorem Ow.one (w : World) (B y : Nat) (z : Int) (hz : z = ((y : Nat) : Int)) (hB : B ≤ w.heap.size) : Ow (w.alloc (.cells #[.int .i64 z] 3)) B (.slice (some ⟨w.heap.size, 0, none⟩) 1 1) [y] := by
  subst hz
  refine ⟨rfl, .inr ⟨w.heap.size, 1, #[iv y], rfl, hB, heap_alloc_new w _, by simp, by unfold maxLen; decide, by simp, by simp⟩⟩
theorem Sl.one (w : World) (y : Nat) (z : Int) (hz : z = ((y : Nat) : Int)) : Sl (w.alloc (.cells #[.int .i64 z] 3)) (.slice (.some ⟨w.heap.size, 0, none⟩) 1 1) [y] := (Ow.one w 0 y z hz (Nat.zero_le _)).sl
end Go.Proofs.YtfknkfninjjgbabDoor

/- The contract of sealringref.Rest. -/
namespace Go.Proofs.YtfknkfninjjgbabDoor
open Go.RowKit
end Go.Proofs.YtfknkfninjjgbabDoor

/- The contracts of sealringref.TwoTo (at 256) and Bits. -/
namespace Go.Proofs.YtfknkfninjjgbabDoor
open Go.RowKit
end Go.Proofs.YtfknkfninjjgbabDoor

/- The contract of sealringref.Power. -/
namespace Go.Proofs.YtfknkfninjjgbabDoor
open Go.RowKit
set_option linter.unusedSimpArgs false
end Go.Proofs.YtfknkfninjjgbabDoor

/- The contract of sealringref.Plus: the sum. -/
namespace Go.Proofs.YtfknkfninjjgbabDoor
open Go.RowKit
end Go.Proofs.YtfknkfninjjgbabDoor

/- The contracts of sealringref's numbers, told by numbers; TwoTo at whatever place. -/
namespace Go.Proofs.YtfknkfninjjgbabDoor
open Go.RowKit
set_option linter.unusedSimpArgs false
end Go.Proofs.YtfknkfninjjgbabDoor

/- The contracts of sealringref.words, ToNum and ToWide: the words of digits. -/
namespace Go.Proofs.YtfknkfninjjgbabDoor
open Go.RowKit
attribute [local go_sem] World.cell?_alloc_some frozen?_alloc_cells frozen_out
abbrev uv (x : Nat) : Value := .int .u64 ((x : Nat) : Int)
def OwU (w : World) (B : Nat) (v : Value) (xs : List Nat) : Prop := w.ownsRow B 24 1 v xs.length (xs.map uv)
theorem OwU.up {W w1 : World} {B : Nat} {v : Value} {xs : List Nat} (h : OwU W B v xs) (hb : Below W.heap.size W w1) : OwU w1 B v xs := by
  refine ⟨h.1, ?_⟩
  rcases h.2 with h' | ⟨g, cap, cur, e, hB, hg, rest⟩
  · exact .inl h'
  · exact .inr ⟨g, cap, cur, e, hB, (hb.block g (Array.getElem?_eq_some_iff.1 hg).1).trans hg, rest⟩
theorem OwU.cell {w : World} {B g n c : Nat} {xs : List Nat} (h : OwU w B (.slice (some ⟨g, 0, none⟩) n c) xs) (hn : n = xs.length) (j : Nat) (hj : j < xs.length) : w.cell? ⟨g, j, none⟩ = some (.int .u64 ((xs.getD j 0 : Nat) : Int)) ∧ w.frozen? ⟨g, j, none⟩ = false := by
  subst hn
  have h2 : w.ownsRow B 24 1 (.slice (some ⟨g, 0, none⟩) xs.length c) xs.length (xs.map uv) := h
  refine ⟨?_, h2.frozenAt j⟩
  rw [h2.cellAt j (by omega)]
  simp [hj, uv]
theorem OwU.set {w : World} {B g n c : Nat} {xs : List Nat} (h : OwU w B (.slice (some ⟨g, 0, none⟩) n c) xs) (hn : n = xs.length) (hg : B ≤ g) (j y : Nat) (z : Int) (hz : z = ((y : Nat) : Int)) : OwU (w.setCell ⟨g, j, none⟩ (.int .u64 z)) B (.slice (some ⟨g, 0, none⟩) n c) (xs.set j y) ∧ Below B w (w.setCell ⟨g, j, none⟩ (.int .u64 z)) := by
  subst hn hz
  have h2 : w.ownsRow B 24 1 (.slice (some ⟨g, 0, none⟩) xs.length c) xs.length (xs.map uv) := h
  refine ⟨?_, (Below.refl _ _).setCell hg _⟩
  have := (h2.stored j (uv y)).1
  unfold OwU
  rw [List.length_set, List.map_set]
  exact this
/-- Of word j what has come when the digits from k on are in. -/
def wf (X k j : Nat) : Nat := X / 65536 ^ (max k (4 * j)) % 65536 ^ (4 * j + 4 - max k (4 * j))
end Go.Proofs.YtfknkfninjjgbabDoor

/- The contracts of sealringref's numbers, told by numbers: ToNum. -/
namespace Go.Proofs.YtfknkfninjjgbabDoor
open Go.RowKit
set_option linter.unusedSimpArgs false
end Go.Proofs.YtfknkfninjjgbabDoor

/- The contract of sealringref.Digits: a row of words' digits. -/
namespace Go.Proofs.YtfknkfninjjgbabDoor
open Go.RowKit
attribute [local go_sem] World.cell?_alloc_some
end Go.Proofs.YtfknkfninjjgbabDoor

/- The contract of sealringref.OfNum and OfWide. -/
namespace Go.Proofs.YtfknkfninjjgbabDoor
open Go.RowKit
attribute [local go_sem] World.cell?_alloc_some
end Go.Proofs.YtfknkfninjjgbabDoor

/- The properties of slices of digits, for UpM's law. -/
namespace Go.Proofs.YtfknkfninjjgbabDoor
open Go.RowKit
def MP.sl (xs : List Nat) : MP := ⟨fun v w => Sl w v xs, fun h hb => Sl.up h hb⟩
def MP.sl2 (xs ys : List Nat) : MP := ⟨fun v w => ∃ x y, v = .tuple #[x, y] ∧ Sl w x xs ∧ Sl w y ys, fun ⟨x, y, e, h1, h2⟩ hb => ⟨x, y, e, Sl.up h1 hb, Sl.up h2 hb⟩⟩
theorem MP.sl_p (xs : List Nat) (v : Value) (w : World) : (MP.sl xs).p v w = Sl w v xs := rfl
theorem MP.sl2_p (xs ys : List Nat) (v : Value) (w : World) : (MP.sl2 xs ys).p v w = ∃ x y, v = .tuple #[x, y] ∧ Sl w x xs ∧ Sl w y ys := rfl
end Go.Proofs.YtfknkfninjjgbabDoor

/- The document's numbers: how often the base makes nothing; the number of bytes. -/
namespace Go.Proofs.YtfknkfninjjgbabDoor
open Go.RowKit
set_option linter.unusedSimpArgs false
attribute [local go_sem] YieldsP execOp
attribute [local simp] MP.eq_p MP.sl_p MP.sl2_p
end Go.Proofs.YtfknkfninjjgbabDoor

/- Thirty-two bytes of a number, as a list and as a slice. -/
namespace Go.Proofs.YtfknkfninjjgbabDoor
open Go.RowKit
set_option linter.unusedSimpArgs false
/-- The bytes of a number, as a list. -/
def S.by (n : Nat) : List Nat := (List.range 32).map fun i => n / 256 ^ i % 256
theorem S.by_length (n : Nat) : (S.by n).length = 32 := by simp [S.by]
theorem S.by_low (n : Nat) : ∀ x ∈ S.by n, x < 256 := fun x hx => by
  obtain ⟨i, _, rfl⟩ := List.mem_map.1 hx
  exact Nat.mod_lt _ (by decide)
theorem S.by_row (n : Nat) : bR n = (S.by n).map b8 := by
  unfold bR S.by
  rw [List.map_map]
  rfl
theorem S.le_by {n : Nat} (hn : n < 2 ^ 256) : S.le (S.by n) = n := by
  have h1 := S.low (S.by_length n) (S.by_low n)
  have h3 := byte_eq (m := S.le (S.by n)) (n := n) 32 fun i hi => by
    rw [S.le_at _ (S.by_low n)]
    simp [S.by, hi]
  rw [show (256 : Nat) ^ 32 = 2 ^ 256 by decide, Nat.mod_eq_of_lt h1, Nat.mod_eq_of_lt hn] at h3
  exact h3
theorem Kn.by32 {w : World} {L : List (Nat × List Value)} (h : Kn w L) (i : Nat) {k n : Nat} (hp : L[i]? = some (k, bR n)) : By w (.slice (some ⟨k, 0, none⟩) 32 32) (S.by n) := by
  have hb := h.all _ (List.mem_of_getElem? hp)
  have := By.of_cells (w := w) (b := k) (o := 0) (c := 32) (xs := S.by n) (by rw [S.by_length]; decide) fun j hj => by
    rw [S.by_length] at hj
    rw [Nat.zero_add]
    refine hb.cell j _ ?_
    show (bR n)[j]? = _
    rw [S.by_row, List.getElem?_map, List.getElem?_eq_getElem (by rw [S.by_length]; exact hj)]
    simp [List.getD_eq_getElem?_getD, S.by_length, hj]
  rw [S.by_length] at this
  exact this
end Go.Proofs.YtfknkfninjjgbabDoor
