/- A region that draws its order of evaluation, whose operations read and whose callees make new memory and leave the old alone: one walk in the order of the text serves every order; stores and assignments that wait for all of these come behind. Over any program. -/
import Derived.Deep.QuietTactic
import Derived.BigQuiet
import Derived.Below
namespace Go.Proofs.YtdcpicbkemmakabDoor
open Go.RowKit
theorem setCell_drewN (w : World) (n : Nat) (a : Addr) (v : Value) : (w.drewN n).setCell a v = (w.setCell a v).drewN n := rfl
theorem below_drewN {B : Nat} {a w : World} {n : Nat} (h : Below B a w) : Below B a (w.drewN n) := ⟨h.os, h.tape, h.output, h.size, h.block⟩
section
variable {P : Program}

/-! ### A region whose last operations (stores, assignments) wait for all others -/
variable {ops ops1 : Array Oper} {md : Region.Mode} {C : World → Prop}

/-- What is asked of the region's text: the first m wait only for earlier ones and are guarded by such; each later one waits for all of the first m; and the later ones come up one by one. -/
def floaty (o : Oper) : Bool := match o.op with
  | .extract _ _ | .move _ => o.guard.isNone
  | _ => false
theorem floaty_yields {o : Oper} {v : Value} {a : Act} {w0 : World} (hf : floaty o = true) (hw0 : C w0) (h : YieldsIn P ops C o v a) : Yields P ops o v a := by
  rcases h with ⟨hw, h⟩ | h
  · refine .inl ⟨hw, fun w => ?_⟩
    have h0 := h w0 hw0
    unfold floaty at hf
    unfold Oper.quietAt at h0
    obtain ⟨dst, op, ty, pos, after, guard⟩ := o
    cases op <;> simp at hf
    case extract x ix =>
      simp only [execOp, Instr.extract] at h0 ⊢
      generalize a.eval x = t at *
      cases t <;> simp [go_sem] at h0 ⊢
      rename_i vs
      generalize vs[ix]? = q at *
      cases q <;> simp [go_sem] at h0 ⊢
      exact h0
    case move x =>
      simp [execOp, Oper.quietUpon, go_sem] at h0 ⊢
      exact h0
  · exact .inr h
def seqFrom (md : Region.Mode) (ops : Array Oper) : Nat → Nat → Array Bool → Bool
  | 0, _, listed => (Region.ready md ops listed).isEmpty
  | fuel + 1, k, listed => (Region.ready md ops listed == [k]) && seqFrom md ops fuel (k + 1) (listed.setIfInBounds k true)
def splitB (md : Region.Mode) (ops : Array Oper) (m : Nat) : Bool :=
  ((List.range ops.size).all fun k => match ops[k]? with
    | some o => if k < m then ((o.after.all fun e => !Region.binds md e || decide (e.on < k)) && (match o.guard with | some (g, _) => decide (g < m) | none => true)) &&
        ((List.range k).all fun i => (o.after.any fun e => Region.binds md e && (e.on == i)) || (match ops[i]? with | some oi => !floaty oi || oi.apart ops o | none => true))
      else (List.range m).all fun i => (o.after.any fun e => Region.binds md e && (e.on == i)) || (match ops[i]? with | some oi => floaty oi && oi.apart ops o | none => false)
    | none => true) &&
  seqFrom md ops (ops.size - m) m ((List.range ops.size).map fun i => decide (i < m)).toArray

theorem wpAny_seq {Q : Exit → Act → World → Prop} (x : Nat) : ∀ (l : List Oper) (k : Nat) (listed : Array Bool) (a : Act) (w : World), (∀ j, l[j]? = ops[k + j]?) →
    seqFrom md ops l.length k listed = true → wpList P ops Q l a w → wpAny P md ops Q (x + l.length) listed a w
  | [], _, _, _, _, _, hB, h => wpAny_done (by simpa [seqFrom] using hB) h _
  | o :: l, k, listed, a, w, hl, hB, h => by
    have h0 : ops[k]? = some o := by simpa using (hl 0).symm
    simp only [List.length_cons, seqFrom, Bool.and_eq_true, beq_iff_eq] at hB
    obtain ⟨hr, hB'⟩ := hB
    refine wpAny_all (fuel := x + l.length) hr (by simp) fun i hi => ?_
    have hi : i = k := by simpa using hi
    subst hi
    have ih := fun a w => wpAny_seq (Q := Q) x l (i + 1) _ a w (fun j => by have := hl (j + 1); simpa [Nat.add_assoc, Nat.add_comm 1 j] using this) hB'
    have h1 : wpOp P ops Q i (wpList P ops Q l) a w := by unfold wpOp; simp only [h0]; exact h
    exact wpOp_mono ih h1

/-- The region's first m operations and all of them stand at one point. -/
structure Along (m n : Nat) (listed1 listed : Array Bool) : Prop where
  size1 : listed1.size = m
  size : listed.size = n
  same : ∀ i, i < m → listed[i]? = listed1[i]?
  rest : ∀ i, m ≤ i → i < n → listed[i]? = some false
theorem Along.set {m n i : Nat} {listed1 listed : Array Bool} (h : Along m n listed1 listed) (hi : i < m) : Along m n (listed1.setIfInBounds i true) (listed.setIfInBounds i true) := by
  refine ⟨by simp [h.size1], by simp [h.size], fun j hj => ?_, fun j hj hn => ?_⟩
  · have e1 := h.same j hj
    rw [Array.getElem?_setIfInBounds, Array.getElem?_setIfInBounds, e1, h.size, h.size1]
    by_cases hij : i = j
    · subst hij
      have hn : i < n := by
        rcases Nat.lt_or_ge i n with h' | h'
        · exact h'
        · rw [Array.getElem?_eq_none (by rw [h.size]; exact h'), Array.getElem?_eq_getElem (by rw [h.size1]; exact hi)] at e1
          cases e1
      simp [hi, hn]
    · simp [hij]
  · rw [Array.getElem?_setIfInBounds, if_neg (by omega)]
    exact h.rest j hj hn

theorem split_core {m : Nat} {Qa : Act → Prop} {Q : Exit → Act → World → Prop} {L0 : Array Bool} (hmn : m ≤ ops.size) (hpre : ∀ i, i < m → ops1[i]? = ops[i]?) (hs1 : ops1.size = m)
    (hL0 : L0 = ((List.range ops.size).map fun i => decide (i < m)).toArray)
    (hback : ∀ k o, ops[k]? = some o → k < m → ∀ e ∈ o.after, Region.binds md e = true → e.on < k)
    (hguard : ∀ k o g b, ops[k]? = some o → k < m → o.guard = some (g, b) → g < m)
    (hwait : ∀ k o, ops[k]? = some o → m ≤ k → ∀ i, i < m → (∃ e ∈ o.after, Region.binds md e = true ∧ e.on = i) ∨ (∃ oi, ops[i]? = some oi ∧ floaty oi = true ∧ oi.apart ops o = true))
    (hsel : ∀ (j : Nat) (o : Oper) cs b, ops[j]? = some o → o.op ≠ .select cs b)
    (hpair : ∀ i j oi oj, ops[i]? = some oi → ops[j]? = some oj → i < j → j < m → floaty oi = true → (∃ e ∈ oj.after, Region.binds md e = true ∧ e.on = i) ∨ oi.apart ops oj = true)
    (hQp : ∀ c a d v w, Q (.panic c) (a.put d v) w → Q (.panic c) a w)
    (hQ : ∀ x a w, C w → Qa a → wpAny P md ops Q (x + (ops.size - m)) L0 a w) :
    ∀ (fuel : Nat) (listed1 listed : Array Bool) (a : Act) (w : World), Along m ops.size listed1 listed → C w → wpAnyQ P md ops1 C Qa fuel listed1 a → wpAny P md ops Q (fuel + (ops.size - m)) listed a w := by
  -- one that has not come up and comes earliest may come up
  have hfirst : ∀ (listed1 listed : Array Bool), Along m ops.size listed1 listed → Region.ready md ops1 listed1 = [] → listed = L0 := by
    intro listed1 listed hal hr
    have hall : ∀ j, j < m → listed1[j]? = some true := by
      intro j
      induction j using Nat.strongRecOn with
      | _ j ih =>
        intro hj
        cases hc : listed1[j]? with
        | none => rw [Array.getElem?_eq_getElem (by rw [hal.size1]; exact hj)] at hc; cases hc
        | some b =>
          cases b
          · exfalso
            have hlt : j < ops.size := by omega
            have ho : ops[j]? = some ops[j] := Array.getElem?_eq_getElem hlt
            have : j ∈ Region.ready md ops1 listed1 := by
              rw [mem_ready]
              refine ⟨by simp [hc], ops[j], by rw [hpre j hj]; exact ho, fun e he hb => ?_⟩
              have hlt' := hback j ops[j] ho hj e he hb
              simp [ih e.on hlt' (by omega)]
            rw [hr] at this
            cases this
          · rfl
    rw [hL0]
    apply Array.ext_getElem?
    intro i
    rcases Nat.lt_or_ge i m with h' | h'
    · rw [hal.same i h', hall i h']
      simp [Nat.lt_of_lt_of_le h' hmn, h']
    · rcases Nat.lt_or_ge i ops.size with h'' | h''
      · rw [hal.rest i h' h'']
        simp [h'', Nat.not_lt.2 h']
      · rw [Array.getElem?_eq_none (by rw [hal.size]; exact h''), Array.getElem?_eq_none (by simpa using h'')]
  intro fuel
  induction fuel with
  | zero =>
    intro listed1 listed a w hal hw h
    rw [hfirst listed1 listed hal h.1]
    exact hQ 0 a w hw h.2
  | succ fuel ih =>
    intro listed1 listed a w hal hw h
    by_cases hr : Region.ready md ops1 listed1 = []
    · rw [hfirst listed1 listed hal hr]
      exact hQ (fuel + 1) a w hw (h.1 hr)
    · rw [Nat.add_right_comm]
      have some1 : ∃ j, j < m ∧ listed1[j]? = some false := by
        obtain ⟨j, hj⟩ := List.exists_mem_of_ne_nil _ hr
        obtain ⟨h0, o, ho, _⟩ := mem_ready.1 hj
        have hlt : j < m := by rw [← hs1]; exact (Array.getElem?_eq_some_iff.1 ho).1
        refine ⟨j, hlt, ?_⟩
        have hlt1 : j < listed1.size := by rw [hal.size1]; exact hlt
        rw [Array.getElem?_eq_getElem hlt1]
        simpa [hlt1] using h0
      obtain ⟨j0, hj0, hjf0⟩ := some1
      -- the earliest that has not come up
      obtain ⟨j, hj, hjf, hmin⟩ : ∃ j, j < m ∧ listed1[j]? = some false ∧ ∀ i, i < j → listed1[i]? ≠ some false := by
        induction j0 using Nat.strongRecOn with
        | _ j ihj =>
          by_cases hex : ∃ i, i < j ∧ listed1[i]? = some false
          · obtain ⟨i, hij, hi⟩ := hex
            exact ihj i hij (by omega) hi
          · exact ⟨j, hj0, hjf0, fun i hi hn => hex ⟨i, hi, hn⟩⟩
      have toQ : ∀ i, i < m → qOp P ops1 C i (wpAnyQ P md ops1 C Qa fuel (listed1.setIfInBounds i true)) a → qOp P ops C i (wpAnyQ P md ops1 C Qa fuel (listed1.setIfInBounds i true)) a := by
        intro i him hq
        unfold qOp at *
        rw [hpre i him] at hq
        cases ho : ops[i]? with
        | none => simpa [ho] using hq
        | some o =>
          simp only [ho] at hq ⊢
          have hy : Region.wanted o (yielded ops a.tmps) = Region.wanted o (yielded ops1 a.tmps) := by
            unfold Region.wanted
            cases hg : o.guard with
            | none => rfl
            | some gb =>
              obtain ⟨g, b⟩ := gb
              have hgm := hguard i o g b ho him hg
              simp only [yielded, hpre g hgm]
          rw [hy]
          exact hq
      by_cases hlate : ∃ k, k ∈ Region.ready md ops listed ∧ m ≤ k
      · -- a later one may come up: the earliest that is left is a mere copy: it may be taken first
        obtain ⟨k, hk, hmk⟩ := hlate
        obtain ⟨_, ok, hok, hkall⟩ := mem_ready.1 hk
        have hjlt : j < ops.size := by omega
        have hoj : ops[j]? = some ops[j] := Array.getElem?_eq_getElem hjlt
        have hlis : listed[j]? = some false := by rw [hal.same j hj, hjf]
        have hjready : j ∈ Region.ready md ops listed := by
          rw [mem_ready]
          refine ⟨by simp [hlis], ops[j], hoj, fun e he hb => ?_⟩
          have hon := hback j _ hoj hj e he hb
          have hn := hmin e.on hon
          have hlt1 : e.on < listed1.size := by rw [hal.size1]; omega
          rw [Array.getElem?_eq_getElem hlt1] at hn
          have : listed1[e.on] = true := by
            cases hc : listed1[e.on]
            · rw [hc] at hn; exact absurd rfl hn
            · rfl
          simp [hal.same e.on (by omega), Array.getElem?_eq_getElem hlt1, this]
        have hj1 : j ∈ Region.ready md ops1 listed1 := by
          obtain ⟨h0, o, ho, hall⟩ := mem_ready.1 hjready
          rw [mem_ready]
          refine ⟨by simp [hjf], o, by rw [hpre j hj]; exact ho, fun e he hb => ?_⟩
          have hon := hback j o ho hj e he hb
          have := hall e he hb
          simpa [hal.same e.on (by omega)] using this
        have hfl : floaty ops[j] = true := by
          rcases hwait k ok hok hmk j hj with ⟨e, he, hb, hon⟩ | ⟨oi, hoi, hfl, _⟩
          · exfalso
            have := hkall e he hb
            rw [hon] at this
            simp [hlis] at this
          · rw [hoj] at hoi
            cases hoi
            exact hfl
        obtain ⟨v, hy, hK⟩ := yieldsIn_of_qOp hoj (toQ j hj (h.2 j hj1))
        refine wpAny_first (oi := ops[j]) (v := v) hoj hsel (fun c a w hh => hQp c a _ v w hh) _ listed a w ?_ hjready (floaty_yields hfl hw hy) (ih _ _ _ _ (hal.set hj) hw hK)
        intro j' oj' hoj' hne hun hno
        rcases Nat.lt_or_ge j' m with h' | h'
        · have hj'f : listed1[j']? = some false := by
            have hlt1 : j' < listed1.size := by rw [hal.size1]; exact h'
            rw [← hal.same j' h']
            have hltn : j' < listed.size := by rw [hal.size]; exact (Array.getElem?_eq_some_iff.1 hoj').1
            rw [Array.getElem?_eq_getElem hltn] 
            simpa [hltn] using hun
          have hgt : j < j' := by
            rcases Nat.lt_or_ge j' j with h'' | h''
            · exact absurd hj'f (hmin j' h'')
            · omega
          rcases hpair j j' _ oj' hoj hoj' hgt h' hfl with ⟨e, he, hb, hon⟩ | hap
          · exact absurd hon (hno e he hb)
          · exact hap
        · rcases hwait j' oj' hoj' h' j hj with ⟨e, he, hb, hon⟩ | ⟨oi, hoi, _, hap⟩
          · exact absurd hon (hno e he hb)
          · rw [hoj] at hoi
            cases hoi
            exact hap
      have early : ∀ i, i ∈ Region.ready md ops listed → i < m := by
        intro i hi
        rcases Nat.lt_or_ge i m with h' | h'
        · exact h'
        · exact absurd ⟨i, hi, h'⟩ hlate
      have to1 : ∀ i, i ∈ Region.ready md ops listed → i ∈ Region.ready md ops1 listed1 := by
        intro i hi
        have him := early i hi
        obtain ⟨h0, o, ho, hall⟩ := mem_ready.1 hi
        rw [mem_ready]
        refine ⟨by simpa [hal.same i him] using h0, o, by rw [hpre i him]; exact ho, fun e he hb => ?_⟩
        have hon := hback i o ho him e he hb
        have := hall e he hb
        simpa [hal.same e.on (by omega)] using this
      have back1 : ∀ i, i ∈ Region.ready md ops1 listed1 → i ∈ Region.ready md ops listed := by
        intro i hi
        obtain ⟨h0, o, ho, hall⟩ := mem_ready.1 hi
        have him : i < m := by rw [← hs1]; exact (Array.getElem?_eq_some_iff.1 ho).1
        rw [hpre i him] at ho
        rw [mem_ready]
        refine ⟨by simpa [hal.same i him] using h0, o, ho, fun e he hb => ?_⟩
        have hon := hback i o ho him e he hb
        have := hall e he hb
        simpa [hal.same e.on (by omega)] using this
      refine ⟨fun h0 => ?_, fun i hi => ?_⟩
      · exfalso
        obtain ⟨j', hj'⟩ := List.exists_mem_of_ne_nil _ hr
        have := back1 j' hj'
        rw [h0] at this
        cases this
      · have him := early i hi
        have hq := h.2 i (to1 i hi)
        have hq' := toQ i him hq
        exact wpOp_of_qOp hw (fun a' w' hw' hk => ih _ _ a' w' (hal.set him) hw' hk) hq'

theorem wp_region_then {id : Nat} {Q : Exit → Act → World → Prop} {a : Act} {w : World} (m : Nat) {l : List Oper} (hm : P.follows .mixedOrders = true) (hB : Region.lexB .any (l.take m).toArray = true) (hS : splitB .any l.toArray m = true) (hN : Region.noSelect l.toArray = true) (hmn : m ≤ l.length)
    (hQp : ∀ c a d v w, Q (.panic c) (a.put d v) w → Q (.panic c) a w) (hC : C w.drew)
    (h' : wpQuiet P (l.take m).toArray C (fun a' => ∀ w', C w' → wpList P l.toArray Q (l.drop m) a' w') (l.take m) a) : (Code.region id l.toArray true).wp P Q a w := by
  simp only [splitB, Bool.and_eq_true, List.all_eq_true, List.mem_range] at hS
  obtain ⟨hS1, hS2⟩ := hS
  simp only [Region.lexB, Bool.and_eq_true] at hB
  refine wp_region_any hm ?_
  have hq := wpAnyQ_lex (P := P) (C := C) (md := .any) hB.1 (l.take m) 0 (Array.replicate m false) a (by simp) (by simpa [hmn] using hB.2) h'
  have hlm : (l.take m).length = m := by simp [hmn]
  rw [hlm] at hq
  have key := split_core (P := P) (ops := l.toArray) (ops1 := (l.take m).toArray) (md := .any) (m := m) (Q := Q) (C := C) (by simpa using hmn)
    (fun i hi => by simp [hi]) (by simp [hmn]) rfl
    (fun k o ho hk e he hb => by
      have hlt : k < l.toArray.size := (Array.getElem?_eq_some_iff.1 ho).1
      have := hS1 k hlt
      simp only [ho, hk, if_true, Bool.and_eq_true, Array.all_eq_true_iff_forall_mem] at this
      have := this.1.1 e he
      simpa [hb] using this)
    (fun k o g b ho hk hg => by
      have hlt : k < l.toArray.size := (Array.getElem?_eq_some_iff.1 ho).1
      have := hS1 k hlt
      simp only [ho, hk, if_true, Bool.and_eq_true, hg] at this
      simpa using this.1.2)
    (fun k o ho hk i hi => by
      have hlt : k < l.toArray.size := (Array.getElem?_eq_some_iff.1 ho).1
      have := hS1 k hlt
      simp only [ho, Nat.not_lt.2 hk, if_false, List.all_eq_true, List.mem_range] at this
      rcases Bool.or_eq_true_iff.1 (this i hi) with h1 | h1
      · obtain ⟨e, he, hb⟩ := Array.any_eq_true'.1 h1
        simp only [Bool.and_eq_true, beq_iff_eq] at hb
        exact .inl ⟨e, he, hb.1, hb.2⟩
      · cases hoi : l.toArray[i]? with
        | none => simp [hoi] at h1
        | some oi =>
          simp only [hoi, Bool.and_eq_true] at h1
          exact .inr ⟨oi, rfl, h1.1, h1.2⟩)
    (Region.noSelect_spec hN)
    (fun i j oi oj hoi hoj hij hjm hfl => by
      have hlt : j < l.toArray.size := (Array.getElem?_eq_some_iff.1 hoj).1
      have := hS1 j hlt
      simp only [hoj, hjm, if_true, Bool.and_eq_true, List.all_eq_true, List.mem_range] at this
      rcases Bool.or_eq_true_iff.1 (this.2 i hij) with h1 | h1
      · obtain ⟨e, he, hb⟩ := Array.any_eq_true'.1 h1
        simp only [Bool.and_eq_true, beq_iff_eq] at hb
        exact .inl ⟨e, he, hb.1, hb.2⟩
      · refine .inr ?_
        simpa [hoi, hfl] using h1)
    hQp
    (fun x a' w' hw' hq' => by
      have := wpAny_seq (P := P) (ops := l.toArray) (md := .any) (Q := Q) x (l.drop m) m _ a' w' (fun j => by simp) (by simpa using hS2) (hq' w' hw')
      simpa using this)
    m (Array.replicate m false) (Array.replicate l.toArray.size false) a { w with drawn := w.drawn + 1 }
    ⟨by simp, by simp, fun i hi => by simp [hi, Nat.lt_of_lt_of_le hi hmn], fun i hi hn => by rw [Array.getElem?_eq_getElem (by simpa using hn)]; simp⟩ hC hq
  have e : m + (l.toArray.size - m) = l.toArray.size := by simp; omega
  rw [e] at key
  exact key

/-- .. the callees leave the world alone but for draws. -/
theorem wp_region_drew_then {id : Nat} {Q : Exit → Act → World → Prop} {a : Act} {w : World} (m : Nat) {l : List Oper} (hm : P.follows .mixedOrders = true) (hB : Region.lexB .any (l.take m).toArray = true) (hS : splitB .any l.toArray m = true) (hN : Region.noSelect l.toArray = true) (hmn : m ≤ l.length)
    (hQp : ∀ c a d v w, Q (.panic c) (a.put d v) w → Q (.panic c) a w)
    (h : wpQuiet P (l.take m).toArray (fun w' => ∃ n, w' = w.drewN n) (fun a' => ∀ n, wpList P l.toArray Q (l.drop m) a' (w.drewN n)) (l.take m) a) : (Code.region id l.toArray true).wp P Q a w := by
  refine wp_region_then (C := fun w' => ∃ n, w' = w.drewN n) m hm hB hS hN hmn hQp ⟨1, rfl⟩ ?_
  have e : (fun a' => ∀ n, wpList P l.toArray Q (l.drop m) a' (w.drewN n)) = (fun a' => ∀ w', (∃ n, w' = w.drewN n) → wpList P l.toArray Q (l.drop m) a' w') := by
    funext a'
    apply propext
    constructor
    · rintro h w' ⟨n, rfl⟩; exact h n
    · intro h n; exact h _ ⟨n, rfl⟩
  rw [e] at h
  exact h
/-- .. the callees make new memory and leave the old alone. -/
theorem wp_region_up_then {id : Nat} {Q : Exit → Act → World → Prop} {a : Act} {w : World} (m : Nat) {l : List Oper} (hm : P.follows .mixedOrders = true) (hB : Region.lexB .any (l.take m).toArray = true) (hS : splitB .any l.toArray m = true) (hN : Region.noSelect l.toArray = true) (hmn : m ≤ l.length)
    (hQp : ∀ c a d v w, Q (.panic c) (a.put d v) w → Q (.panic c) a w)
    (h : ∀ (U : Type) (_ : Nonempty U) (f : U → World), (∀ n, Hid (Below w.heap.size w (f n))) → Hid (∀ n w', Below (f n).heap.size (f n) w' → ∃ m, w' = f m) →
      wpQuiet P (l.take m).toArray (fun w' => ∃ n : U, w' = f n) (fun a' => ∀ n, wpList P l.toArray Q (l.drop m) a' (f n)) (l.take m) a) : (Code.region id l.toArray true).wp P Q a w := by
  have h' := h (Subtype fun x => Below w.heap.size w x) ⟨⟨w, Below.refl _ _⟩⟩ (fun n => n.1) (fun n => n.2) (fun n w' hb => ⟨⟨w', n.2.trans (hb.mono n.2.size)⟩, rfl⟩)
  refine wp_region_then (C := fun w' => ∃ n : (Subtype fun x => Below w.heap.size w x), w' = n.1) m hm hB hS hN hmn hQp ⟨⟨w.drew, (Below.refl _ _).drew⟩, rfl⟩ ?_
  have e : (fun a' => ∀ n : (Subtype fun x => Below w.heap.size w x), wpList P l.toArray Q (l.drop m) a' n.1) = (fun a' => ∀ w', (∃ n : (Subtype fun x => Below w.heap.size w x), w' = n.1) → wpList P l.toArray Q (l.drop m) a' w') := by
    funext a'
    apply propext
    constructor
    · rintro h w' ⟨n, rfl⟩; exact h n
    · intro h n; exact h _ ⟨n, rfl⟩
  rw [e] at h'
  exact h'
end
end Go.Proofs.YtdcpicbkemmakabDoor
