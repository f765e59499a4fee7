/- Texts that were joined: Up, HWord, HSpread, HMix. -/
import Derived.Deep.QuietTactic
import Derived.BigQuiet
import Derived.Below
import Derived.Test.YtdcpicbkemmakaaDoorQHWToHMath
import Derived.Test.YtdcpicbkemmakaaDoorQBKToHB
import Derived.Deep.RegionWith
/- A region that draws its order of evaluation, whose operations read and whose callees make new memory and leave the old alone: one walk in the order of the text serves every order; stores and assignments that wait for all of these come behind. Over any program. -/
namespace Go.Proofs.YtdcpicbkemmakaaDoor
open Go.RowKit
theorem setCell_drewN (w : World) (n : Nat) (a : Addr) (v : Value) : (w.drewN n).setCell a v = (w.setCell a v).drewN n := rfl
theorem below_drewN {B : Nat} {a w : World} {n : Nat} (h : Below B a w) : Below B a (w.drewN n) := ⟨h.os, h.tape, h.output, h.size, h.block⟩
section
variable {P : Program}

/-- The class of worlds that a walk of the region may be in: named by a type of letters. -/
theorem wp_region_up {id : Nat} {Q : Exit → Act → World → Prop} {a : Act} {w : World} {l : List Oper} (hm : P.follows .mixedOrders = true) (hB : Region.lexB .any l.toArray = true)
    (h : ∀ (U : Type) (_ : Nonempty U) (f : U → World), (∀ n, Hid (Below w.heap.size w (f n))) → Hid (∀ n w', Below (f n).heap.size (f n) w' → ∃ m, w' = f m) →
      wpQuiet P l.toArray (fun w' => ∃ n : U, w' = f n) (fun a' => ∀ n, Q .normal a' (f n)) l a) : (Code.region id l.toArray true).wp P Q a w := by
  have h' := h (Subtype fun x => Below w.heap.size w x) ⟨⟨w, Below.refl _ _⟩⟩ (fun n => n.1) (fun n => n.2) (fun n w' hb => ⟨⟨w', n.2.trans (hb.mono n.2.size)⟩, rfl⟩)
  refine wp_region_quiet (C := fun w' => ∃ n : (Subtype fun x => Below w.heap.size w x), w' = n.1) hm hB ⟨⟨w.drew, (Below.refl _ _).drew⟩, rfl⟩ ?_
  have e : (fun a' => ∀ n : (Subtype fun x => Below w.heap.size w x), Q .normal a' n.1) = (fun a' => ∀ w', (∃ n : (Subtype fun x => Below w.heap.size w x), w' = n.1) → Q .normal a' w') := by
    funext a'
    apply propext
    constructor
    · rintro h w' ⟨n, rfl⟩; exact h n
    · intro h n; exact h _ ⟨n, rfl⟩
  rw [e] at h'
  simpa using h'

/-! ### A region whose last operations (stores, assignments) wait for all others -/
variable {ops ops1 : Array Oper} {md : Region.Mode} {C : World → Prop}

/-- What is asked of the region's text: the first m wait only for earlier ones and are guarded by such; each later one waits for all of the first m; and the later ones come up one by one. -/
def floaty (o : Oper) : Bool := match o.op with
  | .extract _ _ | .move _ => o.guard.isNone
  | _ => false
theorem floaty_yields {o : Oper} {v : Value} {a : Act} {w0 : World} (hf : floaty o = true) (hw0 : C w0) (h : YieldsIn P ops C o v a) : Yields P ops o v a := by
  rcases h with ⟨hw, h⟩ | h
  · refine .inl ⟨hw, fun w => ?_⟩
    have h0 := h w0 hw0
    unfold floaty at hf
    unfold Oper.quietAt at h0
    obtain ⟨dst, op, ty, pos, after, guard⟩ := o
    cases op <;> simp at hf
    case extract x ix =>
      simp only [execOp, Instr.extract] at h0 ⊢
      generalize a.eval x = t at *
      cases t <;> simp [go_sem] at h0 ⊢
      rename_i vs
      generalize vs[ix]? = q at *
      cases q <;> simp [go_sem] at h0 ⊢
      exact h0
    case move x =>
      simp [execOp, Oper.quietUpon, go_sem] at h0 ⊢
      exact h0
  · exact .inr h
def seqFrom (md : Region.Mode) (ops : Array Oper) : Nat → Nat → Array Bool → Bool
  | 0, _, listed => (Region.ready md ops listed).isEmpty
  | fuel + 1, k, listed => (Region.ready md ops listed == [k]) && seqFrom md ops fuel (k + 1) (listed.setIfInBounds k true)
def splitB (md : Region.Mode) (ops : Array Oper) (m : Nat) : Bool :=
  ((List.range ops.size).all fun k => match ops[k]? with
    | some o => if k < m then ((o.after.all fun e => !Region.binds md e || decide (e.on < k)) && (match o.guard with | some (g, _) => decide (g < m) | none => true)) &&
        ((List.range k).all fun i => (o.after.any fun e => Region.binds md e && (e.on == i)) || (match ops[i]? with | some oi => !floaty oi || oi.apart ops o | none => true))
      else (List.range m).all fun i => (o.after.any fun e => Region.binds md e && (e.on == i)) || (match ops[i]? with | some oi => floaty oi && oi.apart ops o | none => false)
    | none => true) &&
  seqFrom md ops (ops.size - m) m ((List.range ops.size).map fun i => decide (i < m)).toArray

theorem wpAny_seq {Q : Exit → Act → World → Prop} (x : Nat) : ∀ (l : List Oper) (k : Nat) (listed : Array Bool) (a : Act) (w : World), (∀ j, l[j]? = ops[k + j]?) →
    seqFrom md ops l.length k listed = true → wpList P ops Q l a w → wpAny P md ops Q (x + l.length) listed a w
  | [], _, _, _, _, _, hB, h => wpAny_done (by simpa [seqFrom] using hB) h _
  | o :: l, k, listed, a, w, hl, hB, h => by
    have h0 : ops[k]? = some o := by simpa using (hl 0).symm
    simp only [List.length_cons, seqFrom, Bool.and_eq_true, beq_iff_eq] at hB
    obtain ⟨hr, hB'⟩ := hB
    refine wpAny_all (fuel := x + l.length) hr (by simp) fun i hi => ?_
    have hi : i = k := by simpa using hi
    subst hi
    have ih := fun a w => wpAny_seq (Q := Q) x l (i + 1) _ a w (fun j => by have := hl (j + 1); simpa [Nat.add_assoc, Nat.add_comm 1 j] using this) hB'
    have h1 : wpOp P ops Q i (wpList P ops Q l) a w := by unfold wpOp; simp only [h0]; exact h
    exact wpOp_mono ih h1

/-- The region's first m operations and all of them stand at one point. -/
structure Along (m n : Nat) (listed1 listed : Array Bool) : Prop where
  size1 : listed1.size = m
  size : listed.size = n
  same : ∀ i, i < m → listed[i]? = listed1[i]?
  rest : ∀ i, m ≤ i → i < n → listed[i]? = some false
theorem Along.set {m n i : Nat} {listed1 listed : Array Bool} (h : Along m n listed1 listed) (hi : i < m) : Along m n (listed1.setIfInBounds i true) (listed.setIfInBounds i true) := by
  refine ⟨by simp [h.size1], by simp [h.size], fun j hj => ?_, fun j hj hn => ?_⟩
  · have e1 := h.same j hj
    rw [Array.getElem?_setIfInBounds, Array.getElem?_setIfInBounds, e1, h.size, h.size1]
    by_cases hij : i = j
    · subst hij
      have hn : i < n := by
        rcases Nat.lt_or_ge i n with h' | h'
        · exact h'
        · rw [Array.getElem?_eq_none (by rw [h.size]; exact h'), Array.getElem?_eq_getElem (by rw [h.size1]; exact hi)] at e1
          cases e1
      simp [hi, hn]
    · simp [hij]
  · rw [Array.getElem?_setIfInBounds, if_neg (by omega)]
    exact h.rest j hj hn

theorem split_core {m : Nat} {Qa : Act → Prop} {Q : Exit → Act → World → Prop} {L0 : Array Bool} (hmn : m ≤ ops.size) (hpre : ∀ i, i < m → ops1[i]? = ops[i]?) (hs1 : ops1.size = m)
    (hL0 : L0 = ((List.range ops.size).map fun i => decide (i < m)).toArray)
    (hback : ∀ k o, ops[k]? = some o → k < m → ∀ e ∈ o.after, Region.binds md e = true → e.on < k)
    (hguard : ∀ k o g b, ops[k]? = some o → k < m → o.guard = some (g, b) → g < m)
    (hwait : ∀ k o, ops[k]? = some o → m ≤ k → ∀ i, i < m → (∃ e ∈ o.after, Region.binds md e = true ∧ e.on = i) ∨ (∃ oi, ops[i]? = some oi ∧ floaty oi = true ∧ oi.apart ops o = true))
    (hsel : ∀ (j : Nat) (o : Oper) cs b, ops[j]? = some o → o.op ≠ .select cs b)
    (hpair : ∀ i j oi oj, ops[i]? = some oi → ops[j]? = some oj → i < j → j < m → floaty oi = true → (∃ e ∈ oj.after, Region.binds md e = true ∧ e.on = i) ∨ oi.apart ops oj = true)
    (hQp : ∀ c a d v w, Q (.panic c) (a.put d v) w → Q (.panic c) a w)
    (hQ : ∀ x a w, C w → Qa a → wpAny P md ops Q (x + (ops.size - m)) L0 a w) :
    ∀ (fuel : Nat) (listed1 listed : Array Bool) (a : Act) (w : World), Along m ops.size listed1 listed → C w → wpAnyQ P md ops1 C Qa fuel listed1 a → wpAny P md ops Q (fuel + (ops.size - m)) listed a w := by
  -- one that has not come up and comes earliest may come up
  have hfirst : ∀ (listed1 listed : Array Bool), Along m ops.size listed1 listed → Region.ready md ops1 listed1 = [] → listed = L0 := by
    intro listed1 listed hal hr
    have hall : ∀ j, j < m → listed1[j]? = some true := by
      intro j
      induction j using Nat.strongRecOn with
      | _ j ih =>
        intro hj
        cases hc : listed1[j]? with
        | none => rw [Array.getElem?_eq_getElem (by rw [hal.size1]; exact hj)] at hc; cases hc
        | some b =>
          cases b
          · exfalso
            have hlt : j < ops.size := by omega
            have ho : ops[j]? = some ops[j] := Array.getElem?_eq_getElem hlt
            have : j ∈ Region.ready md ops1 listed1 := by
              rw [mem_ready]
              refine ⟨by simp [hc], ops[j], by rw [hpre j hj]; exact ho, fun e he hb => ?_⟩
              have hlt' := hback j ops[j] ho hj e he hb
              simp [ih e.on hlt' (by omega)]
            rw [hr] at this
            cases this
          · rfl
    rw [hL0]
    apply Array.ext_getElem?
    intro i
    rcases Nat.lt_or_ge i m with h' | h'
    · rw [hal.same i h', hall i h']
      simp [Nat.lt_of_lt_of_le h' hmn, h']
    · rcases Nat.lt_or_ge i ops.size with h'' | h''
      · rw [hal.rest i h' h'']
        simp [h'', Nat.not_lt.2 h']
      · rw [Array.getElem?_eq_none (by rw [hal.size]; exact h''), Array.getElem?_eq_none (by simpa using h'')]
  intro fuel
  induction fuel with
  | zero =>
    intro listed1 listed a w hal hw h
    rw [hfirst listed1 listed hal h.1]
    exact hQ 0 a w hw h.2
  | succ fuel ih =>
    intro listed1 listed a w hal hw h
    by_cases hr : Region.ready md ops1 listed1 = []
    · rw [hfirst listed1 listed hal hr]
      exact hQ (fuel + 1) a w hw (h.1 hr)
    · rw [Nat.add_right_comm]
      have some1 : ∃ j, j < m ∧ listed1[j]? = some false := by
        obtain ⟨j, hj⟩ := List.exists_mem_of_ne_nil _ hr
        obtain ⟨h0, o, ho, _⟩ := mem_ready.1 hj
        have hlt : j < m := by rw [← hs1]; exact (Array.getElem?_eq_some_iff.1 ho).1
        refine ⟨j, hlt, ?_⟩
        have hlt1 : j < listed1.size := by rw [hal.size1]; exact hlt
        rw [Array.getElem?_eq_getElem hlt1]
        simpa [hlt1] using h0
      obtain ⟨j0, hj0, hjf0⟩ := some1
      -- the earliest that has not come up
      obtain ⟨j, hj, hjf, hmin⟩ : ∃ j, j < m ∧ listed1[j]? = some false ∧ ∀ i, i < j → listed1[i]? ≠ some false := by
        induction j0 using Nat.strongRecOn with
        | _ j ihj =>
          by_cases hex : ∃ i, i < j ∧ listed1[i]? = some false
          · obtain ⟨i, hij, hi⟩ := hex
            exact ihj i hij (by omega) hi
          · exact ⟨j, hj0, hjf0, fun i hi hn => hex ⟨i, hi, hn⟩⟩
      have toQ : ∀ i, i < m → qOp P ops1 C i (wpAnyQ P md ops1 C Qa fuel (listed1.setIfInBounds i true)) a → qOp P ops C i (wpAnyQ P md ops1 C Qa fuel (listed1.setIfInBounds i true)) a := by
        intro i him hq
        unfold qOp at *
        rw [hpre i him] at hq
        cases ho : ops[i]? with
        | none => simpa [ho] using hq
        | some o =>
          simp only [ho] at hq ⊢
          have hy : Region.wanted o (yielded ops a.tmps) = Region.wanted o (yielded ops1 a.tmps) := by
            unfold Region.wanted
            cases hg : o.guard with
            | none => rfl
            | some gb =>
              obtain ⟨g, b⟩ := gb
              have hgm := hguard i o g b ho him hg
              simp only [yielded, hpre g hgm]
          rw [hy]
          exact hq
      by_cases hlate : ∃ k, k ∈ Region.ready md ops listed ∧ m ≤ k
      · -- a later one may come up: the earliest that is left is a mere copy: it may be taken first
        obtain ⟨k, hk, hmk⟩ := hlate
        obtain ⟨_, ok, hok, hkall⟩ := mem_ready.1 hk
        have hjlt : j < ops.size := by omega
        have hoj : ops[j]? = some ops[j] := Array.getElem?_eq_getElem hjlt
        have hlis : listed[j]? = some false := by rw [hal.same j hj, hjf]
        have hjready : j ∈ Region.ready md ops listed := by
          rw [mem_ready]
          refine ⟨by simp [hlis], ops[j], hoj, fun e he hb => ?_⟩
          have hon := hback j _ hoj hj e he hb
          have hn := hmin e.on hon
          have hlt1 : e.on < listed1.size := by rw [hal.size1]; omega
          rw [Array.getElem?_eq_getElem hlt1] at hn
          have : listed1[e.on] = true := by
            cases hc : listed1[e.on]
            · rw [hc] at hn; exact absurd rfl hn
            · rfl
          simp [hal.same e.on (by omega), Array.getElem?_eq_getElem hlt1, this]
        have hj1 : j ∈ Region.ready md ops1 listed1 := by
          obtain ⟨h0, o, ho, hall⟩ := mem_ready.1 hjready
          rw [mem_ready]
          refine ⟨by simp [hjf], o, by rw [hpre j hj]; exact ho, fun e he hb => ?_⟩
          have hon := hback j o ho hj e he hb
          have := hall e he hb
          simpa [hal.same e.on (by omega)] using this
        have hfl : floaty ops[j] = true := by
          rcases hwait k ok hok hmk j hj with ⟨e, he, hb, hon⟩ | ⟨oi, hoi, hfl, _⟩
          · exfalso
            have := hkall e he hb
            rw [hon] at this
            simp [hlis] at this
          · rw [hoj] at hoi
            cases hoi
            exact hfl
        obtain ⟨v, hy, hK⟩ := yieldsIn_of_qOp hoj (toQ j hj (h.2 j hj1))
        refine wpAny_first (oi := ops[j]) (v := v) hoj hsel (fun c a w hh => hQp c a _ v w hh) _ listed a w ?_ hjready (floaty_yields hfl hw hy) (ih _ _ _ _ (hal.set hj) hw hK)
        intro j' oj' hoj' hne hun hno
        rcases Nat.lt_or_ge j' m with h' | h'
        · have hj'f : listed1[j']? = some false := by
            have hlt1 : j' < listed1.size := by rw [hal.size1]; exact h'
            rw [← hal.same j' h']
            have hltn : j' < listed.size := by rw [hal.size]; exact (Array.getElem?_eq_some_iff.1 hoj').1
            rw [Array.getElem?_eq_getElem hltn] 
            simpa [hltn] using hun
          have hgt : j < j' := by
            rcases Nat.lt_or_ge j' j with h'' | h''
            · exact absurd hj'f (hmin j' h'')
            · omega
          rcases hpair j j' _ oj' hoj hoj' hgt h' hfl with ⟨e, he, hb, hon⟩ | hap
          · exact absurd hon (hno e he hb)
          · exact hap
        · rcases hwait j' oj' hoj' h' j hj with ⟨e, he, hb, hon⟩ | ⟨oi, hoi, _, hap⟩
          · exact absurd hon (hno e he hb)
          · rw [hoj] at hoi
            cases hoi
            exact hap
      have early : ∀ i, i ∈ Region.ready md ops listed → i < m := by
        intro i hi
        rcases Nat.lt_or_ge i m with h' | h'
        · exact h'
        · exact absurd ⟨i, hi, h'⟩ hlate
      have to1 : ∀ i, i ∈ Region.ready md ops listed → i ∈ Region.ready md ops1 listed1 := by
        intro i hi
        have him := early i hi
        obtain ⟨h0, o, ho, hall⟩ := mem_ready.1 hi
        rw [mem_ready]
        refine ⟨by simpa [hal.same i him] using h0, o, by rw [hpre i him]; exact ho, fun e he hb => ?_⟩
        have hon := hback i o ho him e he hb
        have := hall e he hb
        simpa [hal.same e.on (by omega)] using this
      have back1 : ∀ i, i ∈ Region.ready md ops1 listed1 → i ∈ Region.ready md ops listed := by
        intro i hi
        obtain ⟨h0, o, ho, hall⟩ := mem_ready.1 hi
        have him : i < m := by rw [← hs1]; exact (Array.getElem?_eq_some_iff.1 ho).1
        rw [hpre i him] at ho
        rw [mem_ready]
        refine ⟨by simpa [hal.same i him] using h0, o, ho, fun e he hb => ?_⟩
        have hon := hback i o ho him e he hb
        have := hall e he hb
        simpa [hal.same e.on (by omega)] using this
      refine ⟨fun h0 => ?_, fun i hi => ?_⟩
      · exfalso
        obtain ⟨j', hj'⟩ := List.exists_mem_of_ne_nil _ hr
        have := back1 j' hj'
        rw [h0] at this
        cases this
      · have him := early i hi
        have hq := h.2 i (to1 i hi)
        have hq' := toQ i him hq
        exact wpOp_of_qOp hw (fun a' w' hw' hk => ih _ _ a' w' (hal.set him) hw' hk) hq'

theorem wp_region_then {id : Nat} {Q : Exit → Act → World → Prop} {a : Act} {w : World} (m : Nat) {l : List Oper} (hm : P.follows .mixedOrders = true) (hB : Region.lexB .any (l.take m).toArray = true) (hS : splitB .any l.toArray m = true) (hN : Region.noSelect l.toArray = true) (hmn : m ≤ l.length)
    (hQp : ∀ c a d v w, Q (.panic c) (a.put d v) w → Q (.panic c) a w) (hC : C w.drew)
    (h' : wpQuiet P (l.take m).toArray C (fun a' => ∀ w', C w' → wpList P l.toArray Q (l.drop m) a' w') (l.take m) a) : (Code.region id l.toArray true).wp P Q a w := by
  simp only [splitB, Bool.and_eq_true, List.all_eq_true, List.mem_range] at hS
  obtain ⟨hS1, hS2⟩ := hS
  simp only [Region.lexB, Bool.and_eq_true] at hB
  refine wp_region_any hm ?_
  have hq := wpAnyQ_lex (P := P) (C := C) (md := .any) hB.1 (l.take m) 0 (Array.replicate m false) a (by simp) (by simpa [hmn] using hB.2) h'
  have hlm : (l.take m).length = m := by simp [hmn]
  rw [hlm] at hq
  have key := split_core (P := P) (ops := l.toArray) (ops1 := (l.take m).toArray) (md := .any) (m := m) (Q := Q) (C := C) (by simpa using hmn)
    (fun i hi => by simp [hi]) (by simp [hmn]) rfl
    (fun k o ho hk e he hb => by
      have hlt : k < l.toArray.size := (Array.getElem?_eq_some_iff.1 ho).1
      have := hS1 k hlt
      simp only [ho, hk, if_true, Bool.and_eq_true, Array.all_eq_true_iff_forall_mem] at this
      have := this.1.1 e he
      simpa [hb] using this)
    (fun k o g b ho hk hg => by
      have hlt : k < l.toArray.size := (Array.getElem?_eq_some_iff.1 ho).1
      have := hS1 k hlt
      simp only [ho, hk, if_true, Bool.and_eq_true, hg] at this
      simpa using this.1.2)
    (fun k o ho hk i hi => by
      have hlt : k < l.toArray.size := (Array.getElem?_eq_some_iff.1 ho).1
      have := hS1 k hlt
      simp only [ho, Nat.not_lt.2 hk, if_false, List.all_eq_true, List.mem_range] at this
      rcases Bool.or_eq_true_iff.1 (this i hi) with h1 | h1
      · obtain ⟨e, he, hb⟩ := Array.any_eq_true'.1 h1
        simp only [Bool.and_eq_true, beq_iff_eq] at hb
        exact .inl ⟨e, he, hb.1, hb.2⟩
      · cases hoi : l.toArray[i]? with
        | none => simp [hoi] at h1
        | some oi =>
          simp only [hoi, Bool.and_eq_true] at h1
          exact .inr ⟨oi, rfl, h1.1, h1.2⟩)
    (Region.noSelect_spec hN)
    (fun i j oi oj hoi hoj hij hjm hfl => by
      have hlt : j < l.toArray.size := (Array.getElem?_eq_some_iff.1 hoj).1
      have := hS1 j hlt
      simp only [hoj, hjm, if_true, Bool.and_eq_true, List.all_eq_true, List.mem_range] at this
      rcases Bool.or_eq_true_iff.1 (this.2 i hij) with h1 | h1
      · obtain ⟨e, he, hb⟩ := Array.any_eq_true'.1 h1
        simp only [Bool.and_eq_true, beq_iff_eq] at hb
        exact .inl ⟨e, he, hb.1, hb.2⟩
      · refine .inr ?_
        simpa [hoi, hfl] using h1)
    hQp
    (fun x a' w' hw' hq' => by
      have := wpAny_seq (P := P) (ops := l.toArray) (md := .any) (Q := Q) x (l.drop m) m _ a' w' (fun j => by simp) (by simpa using hS2) (hq' w' hw')
      simpa using this)
    m (Array.replicate m false) (Array.replicate l.toArray.size false) a { w with drawn := w.drawn + 1 }
    ⟨by simp, by simp, fun i hi => by simp [hi, Nat.lt_of_lt_of_le hi hmn], fun i hi hn => by rw [Array.getElem?_eq_getElem (by simpa using hn)]; simp⟩ hC hq
  have e : m + (l.toArray.size - m) = l.toArray.size := by simp; omega
  rw [e] at key
  exact key

/-- .. the callees leave the world alone but for draws. -/
theorem wp_region_drew_then {id : Nat} {Q : Exit → Act → World → Prop} {a : Act} {w : World} (m : Nat) {l : List Oper} (hm : P.follows .mixedOrders = true) (hB : Region.lexB .any (l.take m).toArray = true) (hS : splitB .any l.toArray m = true) (hN : Region.noSelect l.toArray = true) (hmn : m ≤ l.length)
    (hQp : ∀ c a d v w, Q (.panic c) (a.put d v) w → Q (.panic c) a w)
    (h : wpQuiet P (l.take m).toArray (fun w' => ∃ n, w' = w.drewN n) (fun a' => ∀ n, wpList P l.toArray Q (l.drop m) a' (w.drewN n)) (l.take m) a) : (Code.region id l.toArray true).wp P Q a w := by
  refine wp_region_then (C := fun w' => ∃ n, w' = w.drewN n) m hm hB hS hN hmn hQp ⟨1, rfl⟩ ?_
  have e : (fun a' => ∀ n, wpList P l.toArray Q (l.drop m) a' (w.drewN n)) = (fun a' => ∀ w', (∃ n, w' = w.drewN n) → wpList P l.toArray Q (l.drop m) a' w') := by
    funext a'
    apply propext
    constructor
    · rintro h w' ⟨n, rfl⟩; exact h n
    · intro h n; exact h _ ⟨n, rfl⟩
  rw [e] at h
  exact h
/-- .. the callees make new memory and leave the old alone. -/
theorem wp_region_up_then {id : Nat} {Q : Exit → Act → World → Prop} {a : Act} {w : World} (m : Nat) {l : List Oper} (hm : P.follows .mixedOrders = true) (hB : Region.lexB .any (l.take m).toArray = true) (hS : splitB .any l.toArray m = true) (hN : Region.noSelect l.toArray = true) (hmn : m ≤ l.length)
    (hQp : ∀ c a d v w, Q (.panic c) (a.put d v) w → Q (.panic c) a w)
    (h : ∀ (U : Type) (_ : Nonempty U) (f : U → World), (∀ n, Hid (Below w.heap.size w (f n))) → Hid (∀ n w', Below (f n).heap.size (f n) w' → ∃ m, w' = f m) →
      wpQuiet P (l.take m).toArray (fun w' => ∃ n : U, w' = f n) (fun a' => ∀ n, wpList P l.toArray Q (l.drop m) a' (f n)) (l.take m) a) : (Code.region id l.toArray true).wp P Q a w := by
  have h' := h (Subtype fun x => Below w.heap.size w x) ⟨⟨w, Below.refl _ _⟩⟩ (fun n => n.1) (fun n => n.2) (fun n w' hb => ⟨⟨w', n.2.trans (hb.mono n.2.size)⟩, rfl⟩)
  refine wp_region_then (C := fun w' => ∃ n : (Subtype fun x => Below w.heap.size w x), w' = n.1) m hm hB hS hN hmn hQp ⟨⟨w.drew, (Below.refl _ _).drew⟩, rfl⟩ ?_
  have e : (fun a' => ∀ n : (Subtype fun x => Below w.heap.size w x), wpList P l.toArray Q (l.drop m) a' n.1) = (fun a' => ∀ w', (∃ n : (Subtype fun x => Below w.heap.size w x), w' = n.1) → wpList P l.toArray Q (l.drop m) a' w') := by
    funext a'
    apply propext
    constructor
    · rintro h w' ⟨n, rfl⟩; exact h n
    · intro h n; exact h _ ⟨n, rfl⟩
  rw [e] at h'
  exact h'
end
end Go.Proofs.YtdcpicbkemmakaaDoor

/- The contract of hash.word: four bytes, the greatest first. -/
namespace Go.Proofs.YtdcpicbkemmakaaDoor
open Go.RowKit
set_option linter.unusedSimpArgs false
theorem or_add {a b k : Nat} (hb : b < 2 ^ k) : a * 2 ^ k ||| b = a * 2 ^ k + b := by
  have := Nat.shiftLeft_add_eq_or_of_lt hb a
  rw [Nat.shiftLeft_eq] at this
  omega
theorem wd4_or (a b c d : Nat) (ha : a < 256) (hb : b < 256) (hc : c < 256) (hd : d < 256) :
    wor (wor (wor (BitVec.ofNat 32 (a * 16777216)) (BitVec.ofNat 32 (b * 65536))) (BitVec.ofNat 32 (c * 256))) (BitVec.ofNat 32 d) = wd4 a b c d := by
  apply BitVec.eq_of_toNat_eq
  simp only [wor, wd4, BitVec.toNat_or, BitVec.toNat_ofNat]
  rw [Nat.mod_eq_of_lt (show a * 16777216 < 2 ^ 32 by omega), Nat.mod_eq_of_lt (show b * 65536 < 2 ^ 32 by omega), Nat.mod_eq_of_lt (show c * 256 < 2 ^ 32 by omega), Nat.mod_eq_of_lt (show d < 2 ^ 32 by omega), Nat.mod_eq_of_lt (by omega)]
  have e1 : a * 16777216 ||| b * 65536 = a * 16777216 + b * 65536 := or_add (k := 24) (by omega)
  have e2 : (a * 16777216 + b * 65536) ||| c * 256 = a * 16777216 + b * 65536 + c * 256 := by
    have := or_add (a := a * 256 + b) (b := c * 256) (k := 16) (by omega)
    rw [show (a * 256 + b) * 2 ^ 16 = a * 16777216 + b * 65536 by omega] at this
    exact this
  have e3 : (a * 16777216 + b * 65536 + c * 256) ||| d = a * 16777216 + b * 65536 + c * 256 + d := by
    have := or_add (a := a * 65536 + b * 256 + c) (b := d) (k := 8) (by omega)
    rw [show (a * 65536 + b * 256 + c) * 2 ^ 8 = a * 16777216 + b * 65536 + c * 256 by omega] at this
    exact this
  rw [e1, e2, e3]
theorem wd4_key (a b c d : Nat) (ha : a < 256) (hb : b < 256) (hc : c < 256) (hd : d < 256) :
    bits .or .u32 (bits .or .u32 (bits .or .u32 ((a : Int) * 16777216) ((b : Int) * 65536)) ((c : Int) * 256)) (d : Int) = U (wd4 a b c d) := by
  have e := fun (n : Nat) (h : n < 4294967296) => (by simp only [U, BitVec.toNat_ofNat]; omega : (n : Int) = U (BitVec.ofNat 32 n))
  have ea := e (a * 16777216) (by omega)
  have eb := e (b * 65536) (by omega)
  have ec := e (c * 256) (by omega)
  have ed := e d (by omega)
  simp only [Int.natCast_mul, Int.cast_ofNat_Int] at ea eb ec
  rw [ea, eb, ec, ed, u_or, u_or, u_or, wd4_or a b c d ha hb hc hd]
set_option maxHeartbeats 1000000 in
theorem word_fun (b o n c x0 x1 x2 x3 : Nat) (h0 : x0 < 256) (h1 : x1 < 256) (h2 : x2 < 256) (h3 : x3 < 256) (hn : 4 ≤ n) (w : World)
    (c0 : w.cell? ⟨b, o, none⟩ = some (b8 x0)) (c1 : w.cell? ⟨b, o + 1, none⟩ = some (b8 x1)) (c2 : w.cell? ⟨b, o + 2, none⟩ = some (b8 x2)) (c3 : w.cell? ⟨b, o + 3, none⟩ = some (b8 x3)) :
    Calls Tryd.prog 99 #[.slice (some ⟨b, o, none⟩) n c] w fun e w' => e = .returned (uw (wd4 x0 x1 x2 x3)) ∧ Below w.heap.size w w' := by
  have n0 : (0 : Int) < (n : Int) := by omega
  have n1 : (1 : Int) < (n : Int) := by omega
  have n2 : (2 : Int) < (n : Int) := by omega
  have n3 : (3 : Int) < (n : Int) := by omega
  go_enter Tryd.func99, Tryd.ntmps99
  go_wp2_with fail
  go_quiet (fail)
  go_wp2_with fail
  rw [wd4_key x0 x1 x2 x3 h0 h1 h2 h3]
  go_ret
  exact ⟨rfl, below_drewN (Below.refl _ _)⟩
end Go.Proofs.YtdcpicbkemmakaaDoor

/- The contract of hash.spread: the sixty-four words of a block. -/
namespace Go.Proofs.YtdcpicbkemmakaaDoor
open Go.RowKit
set_option linter.unusedSimpArgs false
/-- A row of bytes, of words, as a value. -/
abbrev vB (xs : List Nat) : Value := .agg (xs.map b8).toArray
abbrev vW (xs : List (BitVec 32)) : Value := .agg (xs.map uw).toArray
/-- The first k words are in, the others 0. -/
def fillW (bs : List Nat) (k : Nat) : List Value := (schd bs k).map uw ++ List.replicate (64 - k) (.int .u32 0)
theorem fillW_length (bs : List Nat) (k : Nat) (h : k ≤ 64) : (fillW bs k).length = 64 := by simp [fillW, schd_length]; omega
theorem fillW_get (bs : List Nat) (k j : Nat) (h : j < k) : (fillW bs k)[j]? = some (uw ((schd bs k).getD j 0)) := by
  have hj : j < (schd bs k).length := by rw [schd_length]; exact h
  rw [fillW, List.getElem?_append_left (by simpa using hj), List.getElem?_map, List.getElem?_eq_getElem hj, List.getD_eq_getElem?_getD, List.getElem?_eq_getElem hj]
  rfl
theorem fillW_set (bs : List Nat) (k : Nat) (x : BitVec 32) (h : k < 64) (hx : x = if k < 16 then wd bs k else nextW (schd bs k)) : (fillW bs k).set k (uw x) = fillW bs (k + 1) := by
  subst hx
  have e : ((schd bs k).map uw).length = k := by rw [List.length_map, schd_length]
  rw [fillW, List.set_append_right _ _ (by omega), e, Nat.sub_self, show 64 - k = (64 - (k + 1)) + 1 by omega, List.replicate_succ, List.set_cons_zero, fillW, schd, List.map_append]
  simp
theorem fillW_zero (bs : List Nat) (k : Nat) (h : k < 64) : (fillW bs k)[k]? = some (.int .u32 0) := by
  have e : ((schd bs k).map uw).length = k := by rw [List.length_map, schd_length]
  rw [fillW, List.getElem?_append_right (by omega), e, Nat.sub_self, List.getElem?_replicate, if_pos (by omega)]
theorem fillW_all (bs : List Nat) : fillW bs 64 = (schd bs 64).map uw := by simp [fillW]
theorem byte_at {bs : List Nat} {w : World} {k j : Nat} (h : Blk w k (bs.map b8)) (hj : j < bs.length) : w.cell? ⟨k, j, none⟩ = some (b8 (bs.getD j 0)) :=
  h.cell j _ (by simp [List.getD_eq_getElem?_getD, hj])
theorem low_at {bs : List Nat} (h : ∀ x ∈ bs, x < 256) (j : Nat) : bs.getD j 0 < 256 := by
  rw [List.getD_eq_getElem?_getD]
  rcases Nat.lt_or_ge j bs.length with hj | hj
  · rw [List.getElem?_eq_getElem hj]; exact h _ (List.getElem_mem hj)
  · rw [List.getElem?_eq_none hj]; decide
theorem slice_arr {t e : TypeId} {n : Nat} (ht : Tryd.prog.underlying t = some (.array n e)) (hz : (Tryd.prog.info? e).map (·.size) = some 1) (k : IntKind) (z : Int) (b o l : Nat) (hz' : z = (l : Int)) (hl : l < n) (w : World) :
    (Instr.sliceAt t (.pointer (some ⟨b, o, none⟩)) (some (.int k z)) none none).run Tryd.prog w = .ok (.slice (some ⟨b, o + l, none⟩) (n - l) (n - l)) w := by
  subst hz'
  have ha : Tryd.prog.arrayLen t = n := by simp [Program.arrayLen, ht]
  have he : Tryd.prog.elem t = e := by simp [Program.elem, ht]
  rw [run_sliceAt_array_l w t ⟨b, o, none⟩ (by rw [ha, he]; exact ht) k l (by omega) (by rw [ha]; omega), ha, he]
  cases hq : Tryd.prog.info? e with
  | none => simp [hq] at hz
  | some i =>
    have hi : i.size = 1 := by simpa [hq] using hz
    simp [sizeOf, typeInfo, hq, hi, slicedAt, Addr.add_lit]
    omega
theorem rightB {f : FuncId} {n : Int} {g : BitVec 32 → BitVec 32} (h : ∀ (x : BitVec 32) (w : World), Calls Tryd.prog f #[uw x, .int .i64 n] w fun e w' => e = .returned (uw (g x)) ∧ w' = w) (x : BitVec 32) (w : World) :
    Calls Tryd.prog f #[uw x, .int .i64 n] w fun e w' => e = .returned (uw (g x)) ∧ Below w.heap.size w w' :=
  (h x w).mono fun _ _ ⟨he, hw⟩ => ⟨he, by rw [hw]; exact Below.refl _ _⟩
theorem u_addm (x y : BitVec 32) : (U x + U y) % 4294967296 = U (wadd x y) := by
  simp only [U, wadd, BitVec.toNat_add]
  omega
theorem u_add3m (x y z : BitVec 32) : (U x + U y + U z) % 4294967296 = U (wadd (wadd x y) z) := by rw [← u_addm, ← u_addm]; omega
theorem u_add4m (x y z a : BitVec 32) : (U x + U y + U z + U a) % 4294967296 = U (wadd (wadd (wadd x y) z) a) := by rw [← u_addm, ← u_add3m]; omega
theorem u_add5m (x y z a b : BitVec 32) : (U x + U y + U z + U a + U b) % 4294967296 = U (wadd (wadd (wadd (wadd x y) z) a) b) := by rw [← u_addm, ← u_add4m]; omega
theorem info_u8 : (Tryd.prog.info? 5).map (·.size) = some 1 := by kernel_rfl
theorem u_blk : Tryd.prog.underlying 100 = some (.array 64 5) := by kernel_rfl
theorem info_w64 : (Tryd.prog.info? 130).map (·.size) = some 64 := by kernel_rfl
theorem u_w64 : Tryd.prog.underlying 130 = some (.array 64 98) := by kernel_rfl
set_option maxRecDepth 20000 in
set_option maxHeartbeats 4000000 in
theorem spread_fun (bs : List Nat) (hl : bs.length = 64) (hb : ∀ x ∈ bs, x < 256) (w : World) :
    Calls Tryd.prog 94 #[vB bs] w fun e w' => e = .returned (vW (schd bs 64)) ∧ Below w.heap.size w w' := by
  have LB : Hid (∀ j, bs.getD j 0 < 256) := low_at hb
  have LL : Hid (bs.length = 64) := hl
  clear hb hl
  go_enter Tryd.func94, Tryd.ntmps94
  go_wp2_with fail
  go_loopw [8] (fun i wr => ∃ k : Nat, k ≤ 16 ∧ i = .int .i64 k ∧ Hid (Blk wr w.heap.size (bs.map b8)) ∧ Hid (Blk wr (w.heap.size + 1) (fillW bs 0)) ∧ Hid (Blk wr (w.heap.size + 1 + 1) (fillW bs k)) ∧ Hid (Below w.heap.size w wr)) (fun i _ => 16 - (intOf i).toNat)
  case atStart =>
    obtain ⟨x0, x1, x2, x3⟩ := al3 w _ _ _ _ _ _
    exact ⟨0, by omega, rfl, x0, x1, x2, x3⟩
  case round =>
    obtain ⟨k, hk, rfl, b0, b1, b2, hb⟩ := hrel
    by_cases hlt : k < 16
    · have kk : k < 64 := by omega
      have l4 := LL.out
      have c0 := byte_at b0.out (j := 4 * k) (by omega)
      have c1 := byte_at b0.out (j := 4 * k + 1) (by omega)
      have c2 := byte_at b0.out (j := 4 * k + 2) (by omega)
      have c3 := byte_at b0.out (j := 4 * k + 3) (by omega)
      have s0 := slice_arr u_blk info_u8 .i64 (4 * (k : Int)) w.heap.size 0 (4 * k) (by omega) (by omega)
      rw [Nat.zero_add] at s0
      have C : Hid _ := And.intro c0 (And.intro c1 (And.intro c2 c3))
      have S0 : Hid _ := s0
      clear c0 c1 c2 c3 s0 l4
      go_wp2_with (simp only [S0.out])
      refine (word_fun _ _ _ _ _ _ _ _ (LB.out _) (LB.out _) (LB.out _) (LB.out _) (by omega) _ C.out.1 C.out.2.1 C.out.2.2.1 C.out.2.2.2).mono ?_
      rintro e w1 ⟨rfl, hb1⟩
      have z1 := hb.out.size
      have n2 := b2.out.lt
      have d0 := b0.out.up hb1 b0.out.lt
      have d1 := b1.out.up hb1 b1.out.lt
      have d2 := b2.out.up hb1 b2.out.lt
      have db := hb.out.trans (hb1.mono z1)
      have g0 := d2.cell k (.int .u32 0) (fillW_zero bs k kk)
      have g1 := d2.fz k
      have D0 : Hid _ := d0.apart1 (k' := w.heap.size + 1 + 1) (o := k) (v := uw (wd bs k)) (by omega)
      have D1 : Hid _ := d1.apart1 (k' := w.heap.size + 1 + 1) (o := k) (v := uw (wd bs k)) (by omega)
      have D2 : Hid _ := d2.set k (uw (wd bs k)) (by rw [fillW_length]; exact kk; omega)
      rw [fillW_set bs k (wd bs k) kk (by rw [if_pos hlt])] at D2
      have DB : Hid (Below w.heap.size w (w1.setCell ⟨w.heap.size + 1 + 1, k, none⟩ (uw (wd bs k)))) := db.setCell (by show w.heap.size ≤ w.heap.size + 1 + 1; omega) _
      clear d0 d1 d2 db hb1 b0 b1 b2 hb C S0
      go_wp2_with fail
      go_roundw
      case rel => exact ⟨k + 1, by omega, by go_num, D0, D1, D2, DB⟩
      case measure => simp [intOf]; omega
    · obtain rfl : k = 16 := by omega
      clear hlt hk b0
      go_wp2_with fail
      go_loopw [5] (fun i wq => ∃ t : Nat, 16 ≤ t ∧ t ≤ 64 ∧ i = .int .i64 t ∧ Hid (Blk wq (w.heap.size + 1) (fillW bs 0)) ∧ Hid (Blk wq (w.heap.size + 1 + 1) (fillW bs t)) ∧ Hid (Below w.heap.size w wq)) (fun i _ => 64 - (intOf i).toNat)
      case atStart => exact ⟨16, by omega, by omega, rfl, b1, b2, hb⟩
      case round =>
        clear b1 b2 hb
        obtain ⟨t, ht0, ht1, rfl, b1, b2, hb⟩ := hrel
        by_cases hlt : t < 64
        · have q16 := b2.out.cell (t - 16) _ (fillW_get bs t (t - 16) (by omega))
          have q15 := b2.out.cell (t - 15) _ (fillW_get bs t (t - 15) (by omega))
          have q7 := b2.out.cell (t - 7) _ (fillW_get bs t (t - 7) (by omega))
          have q2 := b2.out.cell (t - 2) _ (fillW_get bs t (t - 2) (by omega))
          have NW : Hid (nextW (schd bs t) = wadd (wadd (wadd ((schd bs t).getD (t - 16) 0) (S0 ((schd bs t).getD (t - 15) 0))) ((schd bs t).getD (t - 7) 0)) (S1 ((schd bs t).getD (t - 2) 0))) := by unfold nextW; rw [schd_length]; exact rfl
          generalize (schd bs t).getD (t - 16) 0 = x16 at *
          generalize (schd bs t).getD (t - 15) 0 = x15 at *
          generalize (schd bs t).getD (t - 7) 0 = x7 at *
          generalize (schd bs t).getD (t - 2) 0 = x2 at *
          have e16 : (t : Int) - 16 = ((t - 16 : Nat) : Int) := by omega
          have e15 : (t : Int) - 15 = ((t - 15 : Nat) : Int) := by omega
          have e7 : (t : Int) - 7 = ((t - 7 : Nat) : Int) := by omega
          have e2 : (t : Int) - 2 = ((t - 2 : Nat) : Int) := by omega
          have s3 : U x15 / 8 = U (wshr x15 3) := by simpa using u_shr x15 3
          have s10 : U x2 / 1024 = U (wshr x2 10) := by simpa using u_shr x2 10
          have SH : Hid _ := And.intro s3 s10
          clear s3 s10
          go_wp2_with fail
          go_quiet (fail)
          go_wp2_with fail
          refine wp_region_up_then 29 (by kernel_rfl) (by kernel_rfl) (by kernel_rfl) (by kernel_rfl) (by decide) (fun _ _ d _ _ h => by cases d <;> exact h) (fun U' hU f hf hcl => ?_)
          have p16 := fun n => ((hf n).out.cell (p := ⟨w.heap.size + 1 + 1, t - 16, none⟩) b2.out.lt).trans q16
          have p7 := fun n => ((hf n).out.cell (p := ⟨w.heap.size + 1 + 1, t - 7, none⟩) b2.out.lt).trans q7
          simp only [List.take_succ_cons, List.take_zero, List.drop_succ_cons, List.drop_zero]
          repeat (go_big_quiet_step (first | (go_at_call_of 95 (Value.int IntKind.i64 7); exact (rightB right_7 x15 _).mono fun e w'' ⟨he, hb⟩ => ⟨he, hcl.out _ _ hb⟩) | (go_at_call_of 95 (Value.int IntKind.i64 18); exact (rightB right_18 x15 _).mono fun e w'' ⟨he, hb⟩ => ⟨he, hcl.out _ _ hb⟩) | (go_at_call_of 95 (Value.int IntKind.i64 17); exact (rightB right_17 x2 _).mono fun e w'' ⟨he, hb⟩ => ⟨he, hcl.out _ _ hb⟩) | (go_at_call_of 95 (Value.int IntKind.i64 19); exact (rightB right_19 x2 _).mono fun e w'' ⟨he, hb⟩ => ⟨he, hcl.out _ _ hb⟩)))
          refine wpQuiet_nil ?_
          intro m
          have hb2 := (hf m).out
          generalize f m = w2 at hb2 ⊢
          clear hf hcl p16 p7
          simp only [u_xor, u_addm, u_add3m, u_add4m, SH.out.1, SH.out.2]
          have NX : Hid (_ = nextW (schd bs t)) := NW.out.symm
          unfold S0 S1 at NX
          rw [NX.out]
          have kk : t < 64 := hlt
          have z1 := hb.out.size
          have hb2 : Below wr.heap.size wr w2 := (below_drewN (Below.refl _ _)).trans hb2
          have d1 := b1.out.up hb2 b1.out.lt
          have d2 := b2.out.up hb2 b2.out.lt
          have db := hb.out.trans (hb2.mono z1)
          have g0 := d2.cell t (.int .u32 0) (fillW_zero bs t kk)
          have g1 := d2.fz t
          have D1 : Hid _ := d1.apart1 (k' := w.heap.size + 1 + 1) (o := t) (v := uw (nextW (schd bs t))) (by omega)
          have D2 : Hid _ := d2.set t (uw (nextW (schd bs t))) (by rw [fillW_length]; exact kk; omega)
          rw [fillW_set bs t _ kk (by rw [if_neg (by omega)])] at D2
          have DB : Hid (Below w.heap.size w (w2.setCell ⟨w.heap.size + 1 + 1, t, none⟩ (uw (nextW (schd bs t))))) := db.setCell (by show w.heap.size ≤ w.heap.size + 1 + 1; omega) _
          clear d1 d2 db hb2 b1 b2 hb SH NW NX q16 q15 q7 q2 e16 e15 e7 e2
          generalize nextW (schd bs t) = nx at *
          go_wp2_with fail
          go_roundw
          case rel => exact ⟨t + 1, by omega, by omega, by go_num, D1, D2, DB⟩
          case measure => simp [intOf]; omega
        · obtain rfl : t = 64 := by omega
          clear hlt ht0 ht1
          rw [fillW_all] at b2
          have l64 : ((schd bs 64).map uw).length = 64 := by rw [List.length_map, schd_length]
          have T3 : Hid (World.there wr (w.heap.size + 1) 0 ((schd bs 64).map uw).toArray.size) := b1.out.there (by rw [List.size_toArray, l64, fillW_length _ _ (by omega)]; omega)
          have I1 : Hid _ := info_w64.trans (congrArg some l64.symm)
          have Z1 : Hid (∀ v ∈ (schd bs 64).map uw, v.oneCell' = true) := fun v hv => by
            obtain ⟨x, _, rfl⟩ := List.mem_map.1 hv
            rfl
          clear l64
          go_wp2_with (first | refine wpList_load_mid rfl 130 (.tmp 3) rfl (w.heap.size + 1 + 1) 0 rfl ((schd bs 64).map uw) _ b2.out.all u_w64 rfl I1.out ?_ | refine wpList_store_mid rfl 130 (.tmp 2) (.tmp 59) rfl (w.heap.size + 1) 0 ((schd bs 64).map uw).toArray rfl rfl T3.out (by rw [List.size_toArray]; exact I1.out) (all_oneCell_toArray Z1.out) ?_)
          refine bodyPost_ret (v := vW (schd bs 64)) ?_ rfl ⟨rfl, ?_⟩
          · exact results_cell (b := w.heap.size + 1) rfl rfl (World.rangeAt_setCells_same _ _ _ _ (by rw [← List.size_toArray]; exact T3.out)) u_w64 rfl I1.out
          · exact below_setCells _ _ _ hb.out (by omega)
end Go.Proofs.YtdcpicbkemmakaaDoor

/- The contract of hash.mix: H behind one more block. -/
namespace Go.Proofs.YtdcpicbkemmakaaDoor
open Go.RowKit
set_option linter.unusedSimpArgs false
/-- Eight words as a value. -/
abbrev v8 (H : R8) : Value := .agg #[uw H.a, uw H.b, uw H.c, uw H.d, uw H.e, uw H.f, uw H.g, uw H.h]
/-- The table lies where it was laid. -/
def KTab (w : World) : Prop := ∀ j, j < 64 → w.cell? ⟨0, j, none⟩ = some (uw (Kt.getD j 0))
theorem KTab.up {W w1 : World} (h : KTab W) {B : Nat} (hb : Below B W w1) (hB : 0 < B) : KTab w1 := fun j hj => (hb.cell (p := ⟨0, j, none⟩) hB).trans (h j hj)
theorem KTab.pos {W : World} (h : KTab W) : 0 < W.heap.size := lt_of_cellB (h 0 (by decide))
theorem u_notm (x : BitVec 32) : bits .xor .u32 IntKind.u32.max (U x) = U (wnot x) := u_not x
theorem info_blk : (Tryd.prog.info? 100).map (·.size) = some 64 := by kernel_rfl
set_option maxRecDepth 20000 in
set_option maxHeartbeats 4000000 in
theorem mix_fun (H : R8) (bs : List Nat) (hl : bs.length = 64) (hb : ∀ x ∈ bs, x < 256) (w : World) (hT : KTab w) :
    Calls Tryd.prog 90 #[v8 H, vB bs] w fun e w' => e = .returned (v8 (mixS H bs)) ∧ Below w.heap.size w w' := by
  have LI : Hid _ := info_blk.trans (congrArg some (show 64 = (bs.map b8).length by rw [List.length_map, hl]))
  have SP : Hid _ := spread_fun bs hl hb
  have HT : Hid (KTab w) := hT
  have MX : Hid (mixS H bs = H.plus (rds H (schd bs 64) 64)) := rfl
  have WL : Hid ((schd bs 64).length = 64) := schd_length bs 64
  clear hl hb hT
  generalize schd bs 64 = ws at *
  obtain ⟨h0, h1, h2, h3, h4, h5, h6, h7⟩ := H
  go_enter Tryd.func90, Tryd.ntmps90
  obtain ⟨x0, x1, x2, x3⟩ := al3 w #[uw h0, uw h1, uw h2, uw h3, uw h4, uw h5, uw h6, uw h7] (bs.map b8).toArray #[.int .u32 0, .int .u32 0, .int .u32 0, .int .u32 0, .int .u32 0, .int .u32 0, .int .u32 0, .int .u32 0] 99 100 99
  have X0 : Hid _ := x0
  have X1 : Hid _ := x1
  have X2 : Hid _ := x2
  have X3 : Hid _ := x3
  clear x0 x1 x2 x3
  go_wp2_with (refine wpList_load_mid rfl 100 (.tmp 3) rfl (w.heap.size + 1) 0 rfl (bs.map b8) _ X1.out.all u_blk rfl LI.out ?_)
  refine (SP.out _).mono ?_
  rintro e w1 ⟨rfl, hb1⟩
  have y0 := X0.out.up hb1 X0.out.lt
  have y2 := X2.out.up hb1 X2.out.lt
  have y3 := X3.out.trans (hb1.mono X3.out.size)
  clear hb1 X0 X1 X2 X3 SP LI
  have I1 : Hid _ := info_w64.trans (congrArg some (show 64 = (ws.map uw).length by rw [List.length_map, WL.out]))
  have T1 : Hid (∀ (C : Array Value) (t : TypeId), C.size = 64 → World.there (w1.alloc (.cells C t)) w1.heap.size 0 (ws.map uw).length) := fun C t hC => (al1 w1 C t).1.there (by rw [List.length_map, WL.out, Array.length_toList, hC]; omega)
  go_wp2_with (refine wp_store_eq rfl 130 (.tmp 5) (.tmp 18) rfl w1.heap.size 0 (ws.map uw) rfl rfl (T1.out _ _ rfl) I1.out (one_uw ws U) ?_)
  intro w2 hw2
  obtain ⟨z4, z5⟩ : Blk w2 w1.heap.size (ws.map uw) ∧ Below w1.heap.size w1 w2 := by
    rw [hw2.out]
    exact alst w1 _ _ _ (by rw [List.length_map, WL.out]; rfl)
  clear hw2 T1 I1
  have z0 := y0.up z5 y0.lt
  have z2 := y2.up z5 y2.lt
  have z3 := y3.trans (z5.mono y3.size)
  have TT : Hid (KTab w2) := HT.out.up z3 HT.out.pos
  have kn : w.heap.size < w1.heap.size := y0.lt
  have kn2 : w.heap.size + 1 + 1 < w1.heap.size := y2.lt
  clear y0 y2 y3 z5 HT
  have q0 := z0.cell 0 _ rfl
  have q1 := z0.cell 1 _ rfl
  have q2 := z0.cell 2 _ rfl
  have q3 := z0.cell 3 _ rfl
  have q4 := z0.cell 4 _ rfl
  have q5 := z0.cell 5 _ rfl
  have q6 := z0.cell 6 _ rfl
  have q7 := z0.cell 7 _ rfl
  have Z2 : Hid (Blk w2 _ _) := z2
  have Z4 : Hid (Blk w2 _ _) := z4
  have Z3 : Hid (Below w.heap.size w w2) := z3
  generalize w1.heap.size = kw at *
  clear z0 z2 z3 z4
  go_wp2_with fail
  go_quiet (fail)
  go_wp2_with fail
  go_quiet (fail)
  go_wp2_with fail
  go_loopw [6, 7, 8, 9, 10, 11, 12, 13, 35] (fun sa sb sc sd se sf sg sh i wr => ∃ k n : Nat, k ≤ 64 ∧ sa = uw (rds ⟨h0, h1, h2, h3, h4, h5, h6, h7⟩ ws k).a ∧ sb = uw (rds ⟨h0, h1, h2, h3, h4, h5, h6, h7⟩ ws k).b ∧ sc = uw (rds ⟨h0, h1, h2, h3, h4, h5, h6, h7⟩ ws k).c ∧ sd = uw (rds ⟨h0, h1, h2, h3, h4, h5, h6, h7⟩ ws k).d ∧ se = uw (rds ⟨h0, h1, h2, h3, h4, h5, h6, h7⟩ ws k).e ∧ sf = uw (rds ⟨h0, h1, h2, h3, h4, h5, h6, h7⟩ ws k).f ∧ sg = uw (rds ⟨h0, h1, h2, h3, h4, h5, h6, h7⟩ ws k).g ∧ sh = uw (rds ⟨h0, h1, h2, h3, h4, h5, h6, h7⟩ ws k).h ∧ i = .int .i64 k ∧ wr = w2.drewN n) (fun _ _ _ _ _ _ _ _ i _ => 64 - (intOf i).toNat)
  case atStart => exact ⟨0, _, by omega, rfl, rfl, rfl, rfl, rfl, rfl, rfl, rfl, rfl, (World.drewN_drewN _ _ _).trans rfl⟩
  case round =>
    obtain ⟨k, n, hk, rfl, rfl, rfl, rfl, rfl, rfl, rfl, rfl, rfl, hw⟩ := hrel
    by_cases hlt : k < 64
    · have RS : Hid (rds ⟨h0, h1, h2, h3, h4, h5, h6, h7⟩ ws (k + 1) = rnd (rds ⟨h0, h1, h2, h3, h4, h5, h6, h7⟩ ws k) (Kt.getD k 0) (ws.getD k 0)) := rfl
      have ck : wr.cell? ⟨0, k, none⟩ = some (uw (Kt.getD k 0)) := by rw [hw]; exact TT.out k hlt
      have cw : wr.cell? ⟨kw, k, none⟩ = some (uw (ws.getD k 0)) := by rw [hw]; exact Z4.out.cell k (uw (ws.getD k 0)) (by have := WL.out; simp [List.getD_eq_getElem?_getD, this, hlt])
      have HW2 : Hid (wr = w2.drewN n) := hw
      clear hw
      generalize rds ⟨h0, h1, h2, h3, h4, h5, h6, h7⟩ ws k = R at *
      generalize Kt.getD k 0 = kk at *
      generalize ws.getD k 0 = xx at *
      obtain ⟨ra, rb, rc, rd, re, rf, rg, rh⟩ := R
      go_wp2_with fail
      go_quiet (first | (go_at_call_of 95 (Value.int IntKind.i64 6); exact Calls.quiet_of_same (right_6 _ _)) | (go_at_call_of 95 (Value.int IntKind.i64 11); exact Calls.quiet_of_same (right_11 _ _)) | (go_at_call_of 95 (Value.int IntKind.i64 25); exact Calls.quiet_of_same (right_25 _ _)))
      go_wp2_with fail
      simp only [u_xor, u_and, u_notm, u_add5m]
      have RT : Hid (_ = T1 ⟨ra, rb, rc, rd, re, rf, rg, rh⟩ kk xx) := (rfl : wadd (wadd (wadd (wadd rh (wxor (wxor (wror re 6) (wror re 11)) (wror re 25))) (wxor (wand re rf) (wand (wnot re) rg))) kk) xx = T1 ⟨ra, rb, rc, rd, re, rf, rg, rh⟩ kk xx)
      rw [RT.out]
      refine (right_2 _ _).mono ?_
      rintro _ _ ⟨rfl, rfl⟩
      go_wp2_with fail
      refine (right_13 _ _).mono ?_
      rintro _ _ ⟨rfl, rfl⟩
      go_wp2_with fail
      refine (right_22 _ _).mono ?_
      rintro _ _ ⟨rfl, rfl⟩
      go_wp2_with fail
      go_roundw
      case rel =>
        simp only [u_xor, u_and, u_addm]
        refine ⟨k + 1, n + nq, by omega, ?_, ?_, ?_, ?_, ?_, ?_, ?_, ?_, by go_num, by rw [HW2.out, World.drewN_drewN]⟩ <;> rw [RS.out] <;> rfl
      case measure => simp [intOf]; omega
    · subst hw
      obtain rfl : k = 64 := by omega
      clear hlt hk
      generalize rds ⟨h0, h1, h2, h3, h4, h5, h6, h7⟩ ws 64 = R at *
      obtain ⟨a, b, c, d, e, f, g, h⟩ := R
      obtain ⟨m0, m1⟩ : (∀ j, j < 8 → w2.cell? ⟨w.heap.size + 1 + 1, j, none⟩ = some (.int .u32 0)) ∧ (∀ j, w2.frozen? ⟨w.heap.size + 1 + 1, j, none⟩ = false) := ⟨fun j hj => Z2.out.cell j _ (by match j, hj with | 0, _ => rfl | 1, _ => rfl | 2, _ => rfl | 3, _ => rfl | 4, _ => rfl | 5, _ => rfl | 6, _ => rfl | 7, _ => rfl), Z2.out.fz⟩
      have r0 := m0 0 (by decide)
      have r1 := m0 1 (by decide)
      have r2 := m0 2 (by decide)
      have r3 := m0 3 (by decide)
      have r4 := m0 4 (by decide)
      have r5 := m0 5 (by decide)
      have r6 := m0 6 (by decide)
      have r7 := m0 7 (by decide)
      clear m0
      go_wp2_with fail
      simp only [u_addm]
      refine bodyPost_ret (v := v8 (mixS ⟨h0, h1, h2, h3, h4, h5, h6, h7⟩ bs)) ?_ rfl ⟨rfl, ?_⟩
      · rw [MX.out]
        simp [results, Tryd.results90, go_sem, r0, r1, r2, r3, r4, r5, r6, r7, R8.plus]
      · repeat (first | refine Below.setCell ?_ (by show w.heap.size ≤ w.heap.size + 1 + 1; omega) _ | exact below_drewN Z3.out)
end Go.Proofs.YtdcpicbkemmakaaDoor
