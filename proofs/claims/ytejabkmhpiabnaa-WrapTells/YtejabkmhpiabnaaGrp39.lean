/- Texts that were joined: UpG, UpH. -/
import Derived.Test.YtejabkmhpiabnaaUp
/- A drawn region in which some operations may be taken first (they yield their value in every world, and each other one waits for them or is apart from them), and the others then come one by one. Over any program. -/
namespace Go.Proofs.Ytejabkmhpiabnaa
open Go.RowKit
section
variable {P : Program} {ops : Array Oper} {Q : Exit → Act → World → Prop}
def firstB (ops : Array Oper) (listed : Array Bool) (i : Nat) : Bool := match ops[i]? with
  | some oi => (Region.ready .any ops listed).contains i && ((List.range ops.size).all fun j => (j == i) || listed.getD j true || (match ops[j]? with | some oj => (oj.after.any fun e => Region.binds .any e && (e.on == i)) || oi.apart ops oj | none => true))
  | none => false
theorem wp_first {i : Nat} {oi : Oper} {v : Value} {fuel : Nat} {listed : Array Bool} {a : Act} {w : World} (hi : ops[i]? = some oi) (hB : firstB ops listed i = true) (hN : Region.noSelect ops = true) (hQp : ∀ c a d v w, Q (.panic c) (a.put d v) w → Q (.panic c) a w) (hy : Yields P ops oi v a)
    (K : wpAny P .any ops Q fuel (listed.setIfInBounds i true) (a.put oi.dst v) w) : wpAny P .any ops Q (fuel + 1) listed a w := by
  unfold firstB at hB
  simp only [hi, Bool.and_eq_true, List.all_eq_true, List.mem_range] at hB
  obtain ⟨h1, h2⟩ := hB
  refine wpAny_first hi (Region.noSelect_spec hN) (fun c a w h => hQp c a _ _ w h) fuel listed a w ?_ (by simpa using h1) hy K
  intro j oj hoj hne hun hno
  have hlt : j < ops.size := (Array.getElem?_eq_some_iff.1 hoj).1
  have := h2 j hlt
  rw [show (j == i) = false by simp [hne], Bool.false_or, hun, Bool.false_or] at this
  simp only [hoj, Bool.or_eq_true] at this
  rcases this with h | h
  · obtain ⟨e, he, hb⟩ := Array.any_eq_true'.1 h
    simp only [Bool.and_eq_true, beq_iff_eq] at hb
    exact absurd hb.2 (hno e he hb.1)
  · exact h
def pathB (ops : Array Oper) : Array Bool → List Nat → Bool
  | listed, [] => (Region.ready .any ops listed).isEmpty
  | listed, j :: js => (Region.ready .any ops listed == [j]) && pathB ops (listed.setIfInBounds j true) js
theorem wpAny_path : ∀ (js : List Nat) (l : List Oper) (listed : Array Bool) (a : Act) (w : World), js.map (fun j => ops[j]?) = l.map some → pathB ops listed js = true → wpList P ops Q l a w → wpAny P .any ops Q js.length listed a w
  | [], [], _, _, _, _, hB, h => wpAny_done (by simpa [pathB] using hB) h _
  | j :: js, o :: l, listed, a, w, hl, hB, h => by
    simp only [List.map_cons, List.cons.injEq] at hl
    simp only [pathB, Bool.and_eq_true, beq_iff_eq] at hB
    obtain ⟨hr, hB'⟩ := hB
    refine wpAny_all (fuel := js.length) hr (by simp) fun i hi => ?_
    have hi : i = j := by simpa using hi
    subst hi
    have ih := fun a w => wpAny_path js l _ a w hl.2 hB'
    have h1 : wpOp P ops Q i (wpList P ops Q l) a w := by unfold wpOp; simp only [hl.1]; exact h
    exact wpOp_mono ih h1
  | [], _ :: _, _, _, _, hl, _, _ => by simp at hl
  | _ :: _, [], _, _, _, hl, _, _ => by simp at hl
/-- Two are taken first, then the others, one by one. -/
theorem wp_region_two {id : Nat} {a : Act} {w : World} {l : List Oper} (i1 i2 : Nat) (js : List Nat) (r : List Oper) {o1 o2 : Oper} (v1 v2 : Value) (hm : P.follows .mixedOrders = true) (hN : Region.noSelect l.toArray = true) (hQp : ∀ c a d v w, Q (.panic c) (a.put d v) w → Q (.panic c) a w)
    (h1 : l.toArray[i1]? = some o1) (h2 : l.toArray[i2]? = some o2) (hB1 : firstB l.toArray (Array.replicate l.length false) i1 = true) (hB2 : firstB l.toArray ((Array.replicate l.length false).setIfInBounds i1 true) i2 = true) (hl : js.length + 1 + 1 = l.length)
    (hr : js.map (fun j => l.toArray[j]?) = r.map some) (hB : pathB l.toArray (((Array.replicate l.length false).setIfInBounds i1 true).setIfInBounds i2 true) js = true)
    (y1 : Yields P l.toArray o1 v1 a) (y2 : Yields P l.toArray o2 v2 (a.put o1.dst v1)) (h : ∀ w', Hid (Below w.heap.size w w') → w'.heap = w.heap → wpList P l.toArray Q r ((a.put o1.dst v1).put o2.dst v2) w') : (Code.region id l.toArray true).wp P Q a w := by
  refine wp_region_any hm ?_
  have e : l.toArray.size = js.length + 1 + 1 := by rw [List.size_toArray, hl]
  have k := wp_first (fuel := js.length + 1) h1 hB1 hN hQp y1 (wp_first (fuel := js.length) h2 hB2 hN hQp y2 (wpAny_path js r _ _ { w with drawn := w.drawn + 1 } hr hB (h _ ((Below.refl _ _).drew) rfl)))
  rw [hl] at k
  simpa using k
end
end Go.Proofs.Ytejabkmhpiabnaa

/- A drawn region whose first three operations read no memory and are taken first (only a late one waits for them); then as in Up. Over any program. -/
namespace Go.Proofs.Ytejabkmhpiabnaa
open Go.RowKit
section
variable {P : Program} {ops ops1 : Array Oper} {md : Region.Mode} {C : World → Prop}
theorem split_coreH {m : Nat} (q : Nat) {Qa : Act → Prop} {Q : Exit → Act → World → Prop} {L0 : Array Bool} (hmn : m ≤ ops.size) (hpre : ∀ i, i < m → ops1[i]? = ops[i]?) (hs1 : ops1.size = m)
    (hL0 : L0 = ((List.range ops.size).map fun i => decide (i < m)).toArray)
    (hback : ∀ k o, ops[k]? = some o → k < m → ∀ e ∈ o.after, Region.binds md e = true → e.on < k)
    (hguard : ∀ k o g b, ops[k]? = some o → k < m → o.guard = some (g, b) → g < m)
    (hwait : ∀ k o, ops[k]? = some o → m ≤ k → ∀ i, q ≤ i → i < m → (∃ e ∈ o.after, Region.binds md e = true ∧ e.on = i) ∨ (∃ oi, ops[i]? = some oi ∧ floaty oi = true ∧ oi.apart ops o = true))
    (hsel : ∀ (j : Nat) (o : Oper) cs b, ops[j]? = some o → o.op ≠ .select cs b)
    (hpair : ∀ i j oi oj, ops[i]? = some oi → ops[j]? = some oj → q ≤ i → i < j → j < m → floaty oi = true → (∃ e ∈ oj.after, Region.binds md e = true ∧ e.on = i) ∨ oi.apart ops oj = true)
    (hQp : ∀ c a d v w, Q (.panic c) (a.put d v) w → Q (.panic c) a w)
    (hQ : ∀ x a w, C w → Qa a → wpAny P md ops Q (x + (ops.size - m)) L0 a w) :
    ∀ (fuel : Nat) (listed1 listed : Array Bool) (a : Act) (w : World), Along m ops.size listed1 listed → (∀ i, i < q → listed1[i]? = some true) → C w → wpAnyQ P md ops1 C Qa fuel listed1 a → wpAny P md ops Q (fuel + (ops.size - m)) listed a w := by
  have setq : ∀ (L : Array Bool) (x : Nat), (∀ i, i < q → L[i]? = some true) → ∀ i, i < q → (L.setIfInBounds x true)[i]? = some true := fun L x h i hi => by
    have h1 := h i hi
    have h2 := (Array.getElem?_eq_some_iff.1 h1).1
    rw [Array.getElem?_setIfInBounds]
    by_cases e : x = i
    · subst e; simp [h2]
    · simp [e, h1]
  -- one that has not come up and comes earliest may come up
  have hfirst : ∀ (listed1 listed : Array Bool), Along m ops.size listed1 listed → Region.ready md ops1 listed1 = [] → listed = L0 := by
    intro listed1 listed hal hr
    have hall : ∀ j, j < m → listed1[j]? = some true := by
      intro j
      induction j using Nat.strongRecOn with
      | _ j ih =>
        intro hj
        cases hc : listed1[j]? with
        | none => rw [Array.getElem?_eq_getElem (by rw [hal.size1]; exact hj)] at hc; cases hc
        | some b =>
          cases b
          · exfalso
            have hlt : j < ops.size := by omega
            have ho : ops[j]? = some ops[j] := Array.getElem?_eq_getElem hlt
            have : j ∈ Region.ready md ops1 listed1 := by
              rw [mem_ready]
              refine ⟨by simp [hc], ops[j], by rw [hpre j hj]; exact ho, fun e he hb => ?_⟩
              have hlt' := hback j ops[j] ho hj e he hb
              simp [ih e.on hlt' (by omega)]
            rw [hr] at this
            cases this
          · rfl
    rw [hL0]
    apply Array.ext_getElem?
    intro i
    rcases Nat.lt_or_ge i m with h' | h'
    · rw [hal.same i h', hall i h']
      simp [Nat.lt_of_lt_of_le h' hmn, h']
    · rcases Nat.lt_or_ge i ops.size with h'' | h''
      · rw [hal.rest i h' h'']
        simp [h'', Nat.not_lt.2 h']
      · rw [Array.getElem?_eq_none (by rw [hal.size]; exact h''), Array.getElem?_eq_none (by simpa using h'')]
  intro fuel
  induction fuel with
  | zero =>
    intro listed1 listed a w hal hq0 hw h
    rw [hfirst listed1 listed hal h.1]
    exact hQ 0 a w hw h.2
  | succ fuel ih =>
    intro listed1 listed a w hal hq0 hw h
    by_cases hr : Region.ready md ops1 listed1 = []
    · rw [hfirst listed1 listed hal hr]
      exact hQ (fuel + 1) a w hw (h.1 hr)
    · rw [Nat.add_right_comm]
      have some1 : ∃ j, j < m ∧ listed1[j]? = some false := by
        obtain ⟨j, hj⟩ := List.exists_mem_of_ne_nil _ hr
        obtain ⟨h0, o, ho, _⟩ := mem_ready.1 hj
        have hlt : j < m := by rw [← hs1]; exact (Array.getElem?_eq_some_iff.1 ho).1
        refine ⟨j, hlt, ?_⟩
        have hlt1 : j < listed1.size := by rw [hal.size1]; exact hlt
        rw [Array.getElem?_eq_getElem hlt1]
        simpa [hlt1] using h0
      obtain ⟨j0, hj0, hjf0⟩ := some1
      -- the earliest that has not come up
      obtain ⟨j, hj, hjf, hmin⟩ : ∃ j, j < m ∧ listed1[j]? = some false ∧ ∀ i, i < j → listed1[i]? ≠ some false := by
        induction j0 using Nat.strongRecOn with
        | _ j ihj =>
          by_cases hex : ∃ i, i < j ∧ listed1[i]? = some false
          · obtain ⟨i, hij, hi⟩ := hex
            exact ihj i hij (by omega) hi
          · exact ⟨j, hj0, hjf0, fun i hi hn => hex ⟨i, hi, hn⟩⟩
      have hqj : q ≤ j := by
        rcases Nat.lt_or_ge j q with h' | h'
        · rw [hq0 j h'] at hjf; cases hjf
        · exact h'
      have toQ : ∀ i, i < m → qOp P ops1 C i (wpAnyQ P md ops1 C Qa fuel (listed1.setIfInBounds i true)) a → qOp P ops C i (wpAnyQ P md ops1 C Qa fuel (listed1.setIfInBounds i true)) a := by
        intro i him hq
        unfold qOp at *
        rw [hpre i him] at hq
        cases ho : ops[i]? with
        | none => simpa [ho] using hq
        | some o =>
          simp only [ho] at hq ⊢
          have hy : Region.wanted o (yielded ops a.tmps) = Region.wanted o (yielded ops1 a.tmps) := by
            unfold Region.wanted
            cases hg : o.guard with
            | none => rfl
            | some gb =>
              obtain ⟨g, b⟩ := gb
              have hgm := hguard i o g b ho him hg
              simp only [yielded, hpre g hgm]
          rw [hy]
          exact hq
      by_cases hlate : ∃ k, k ∈ Region.ready md ops listed ∧ m ≤ k
      · -- a later one may come up: the earliest that is left is a mere copy: it may be taken first
        obtain ⟨k, hk, hmk⟩ := hlate
        obtain ⟨_, ok, hok, hkall⟩ := mem_ready.1 hk
        have hjlt : j < ops.size := by omega
        have hoj : ops[j]? = some ops[j] := Array.getElem?_eq_getElem hjlt
        have hlis : listed[j]? = some false := by rw [hal.same j hj, hjf]
        have hjready : j ∈ Region.ready md ops listed := by
          rw [mem_ready]
          refine ⟨by simp [hlis], ops[j], hoj, fun e he hb => ?_⟩
          have hon := hback j _ hoj hj e he hb
          have hn := hmin e.on hon
          have hlt1 : e.on < listed1.size := by rw [hal.size1]; omega
          rw [Array.getElem?_eq_getElem hlt1] at hn
          have : listed1[e.on] = true := by
            cases hc : listed1[e.on]
            · rw [hc] at hn; exact absurd rfl hn
            · rfl
          simp [hal.same e.on (by omega), Array.getElem?_eq_getElem hlt1, this]
        have hj1 : j ∈ Region.ready md ops1 listed1 := by
          obtain ⟨h0, o, ho, hall⟩ := mem_ready.1 hjready
          rw [mem_ready]
          refine ⟨by simp [hjf], o, by rw [hpre j hj]; exact ho, fun e he hb => ?_⟩
          have hon := hback j o ho hj e he hb
          have := hall e he hb
          simpa [hal.same e.on (by omega)] using this
        have hfl : floaty ops[j] = true := by
          rcases hwait k ok hok hmk j hqj hj with ⟨e, he, hb, hon⟩ | ⟨oi, hoi, hfl, _⟩
          · exfalso
            have := hkall e he hb
            rw [hon] at this
            simp [hlis] at this
          · rw [hoj] at hoi
            cases hoi
            exact hfl
        obtain ⟨v, hy, hK⟩ := yieldsIn_of_qOp hoj (toQ j hj (h.2 j hj1))
        refine wpAny_first (oi := ops[j]) (v := v) hoj hsel (fun c a w hh => hQp c a _ v w hh) _ listed a w ?_ hjready (floaty_yields hfl hw hy) (ih _ _ _ _ (hal.set hj) (setq _ _ hq0) hw hK)
        intro j' oj' hoj' hne hun hno
        rcases Nat.lt_or_ge j' m with h' | h'
        · have hj'f : listed1[j']? = some false := by
            have hlt1 : j' < listed1.size := by rw [hal.size1]; exact h'
            rw [← hal.same j' h']
            have hltn : j' < listed.size := by rw [hal.size]; exact (Array.getElem?_eq_some_iff.1 hoj').1
            rw [Array.getElem?_eq_getElem hltn] 
            simpa [hltn] using hun
          have hgt : j < j' := by
            rcases Nat.lt_or_ge j' j with h'' | h''
            · exact absurd hj'f (hmin j' h'')
            · omega
          rcases hpair j j' _ oj' hoj hoj' hqj hgt h' hfl with ⟨e, he, hb, hon⟩ | hap
          · exact absurd hon (hno e he hb)
          · exact hap
        · rcases hwait j' oj' hoj' h' j hqj hj with ⟨e, he, hb, hon⟩ | ⟨oi, hoi, _, hap⟩
          · exact absurd hon (hno e he hb)
          · rw [hoj] at hoi
            cases hoi
            exact hap
      have early : ∀ i, i ∈ Region.ready md ops listed → i < m := by
        intro i hi
        rcases Nat.lt_or_ge i m with h' | h'
        · exact h'
        · exact absurd ⟨i, hi, h'⟩ hlate
      have to1 : ∀ i, i ∈ Region.ready md ops listed → i ∈ Region.ready md ops1 listed1 := by
        intro i hi
        have him := early i hi
        obtain ⟨h0, o, ho, hall⟩ := mem_ready.1 hi
        rw [mem_ready]
        refine ⟨by simpa [hal.same i him] using h0, o, by rw [hpre i him]; exact ho, fun e he hb => ?_⟩
        have hon := hback i o ho him e he hb
        have := hall e he hb
        simpa [hal.same e.on (by omega)] using this
      have back1 : ∀ i, i ∈ Region.ready md ops1 listed1 → i ∈ Region.ready md ops listed := by
        intro i hi
        obtain ⟨h0, o, ho, hall⟩ := mem_ready.1 hi
        have him : i < m := by rw [← hs1]; exact (Array.getElem?_eq_some_iff.1 ho).1
        rw [hpre i him] at ho
        rw [mem_ready]
        refine ⟨by simpa [hal.same i him] using h0, o, ho, fun e he hb => ?_⟩
        have hon := hback i o ho him e he hb
        have := hall e he hb
        simpa [hal.same e.on (by omega)] using this
      refine ⟨fun h0 => ?_, fun i hi => ?_⟩
      · exfalso
        obtain ⟨j', hj'⟩ := List.exists_mem_of_ne_nil _ hr
        have := back1 j' hj'
        rw [h0] at this
        cases this
      · have him := early i hi
        have hq := h.2 i (to1 i hi)
        have hq' := toQ i him hq
        exact wpOp_of_qOp hw (fun a' w' hw' hk => ih _ _ a' w' (hal.set him) (setq _ _ hq0) hw' hk) hq'
def splitBH (md : Region.Mode) (ops : Array Oper) (q m : Nat) : Bool :=
  ((List.range ops.size).all fun k => match ops[k]? with
    | some o => if k < m then ((o.after.all fun e => !Region.binds md e || decide (e.on < k)) && (match o.guard with | some (g, _) => decide (g < m) | none => true)) &&
        ((List.range k).all fun i => (decide (i < q) || (o.after.any fun e => Region.binds md e && (e.on == i))) || (match ops[i]? with | some oi => !floaty oi || oi.apart ops o | none => true))
      else (List.range m).all fun i => (decide (i < q) || (o.after.any fun e => Region.binds md e && (e.on == i))) || (match ops[i]? with | some oi => floaty oi && oi.apart ops o | none => false)
    | none => true) &&
  seqFrom md ops (ops.size - m) m ((List.range ops.size).map fun i => decide (i < m)).toArray
def three (n : Nat) : Array Bool := (((Array.replicate n false).setIfInBounds 0 true).setIfInBounds 1 true).setIfInBounds 2 true
theorem wp_region_three {id : Nat} {Q : Exit → Act → World → Prop} {a : Act} {w : World} (m : Nat) {l : List Oper} {o0 o1 o2 : Oper} (v0 v1 v2 : Value) (hm : P.follows .mixedOrders = true) (hB : (Region.noSelect (l.take m).toArray && Region.lexFrom .any (l.take m).toArray ((l.take m).drop 3).length 3 (three m)) = true) (hS : splitBH .any l.toArray 3 m = true) (hN : Region.noSelect l.toArray = true) (hmn : m ≤ l.length) (h3 : 3 ≤ m)
    (hQp : ∀ c a d v w, Q (.panic c) (a.put d v) w → Q (.panic c) a w)
    (g0 : l.toArray[0]? = some o0) (g1 : l.toArray[1]? = some o1) (g2 : l.toArray[2]? = some o2) (hB0 : firstB l.toArray (Array.replicate l.length false) 0 = true) (hB1 : firstB l.toArray ((Array.replicate l.length false).setIfInBounds 0 true) 1 = true) (hB2 : firstB l.toArray (((Array.replicate l.length false).setIfInBounds 0 true).setIfInBounds 1 true) 2 = true)
    (y0 : Yields P l.toArray o0 v0 a) (y1 : Yields P l.toArray o1 v1 (a.put o0.dst v0)) (y2 : Yields P l.toArray o2 v2 ((a.put o0.dst v0).put o1.dst v1))
    (h : ∀ (U : Type) (_ : Nonempty U) (f : U → World), (∀ n, Hid (Below w.heap.size w (f n))) → Hid (∀ n w', Below (f n).heap.size (f n) w' → ∃ m, w' = f m) →
      wpQuiet P (l.take m).toArray (fun w' => ∃ n : U, w' = f n) (fun a' => ∀ n, wpList P l.toArray Q (l.drop m) a' (f n)) ((l.take m).drop 3) (((a.put o0.dst v0).put o1.dst v1).put o2.dst v2)) : (Code.region id l.toArray true).wp P Q a w := by
  have h' := h (Subtype fun x => Below w.heap.size w x) ⟨⟨w, Below.refl _ _⟩⟩ (fun n => n.1) (fun n => n.2) (fun n w' hb => ⟨⟨w', n.2.trans (hb.mono n.2.size)⟩, rfl⟩)
  have e : (fun a' => ∀ n : (Subtype fun x => Below w.heap.size w x), wpList P l.toArray Q (l.drop m) a' n.1) = (fun a' => ∀ w', (∃ n : (Subtype fun x => Below w.heap.size w x), w' = n.1) → wpList P l.toArray Q (l.drop m) a' w') := by
    funext a'
    apply propext
    constructor
    · rintro h w' ⟨n, rfl⟩; exact h n
    · intro h n; exact h _ ⟨n, rfl⟩
  rw [e] at h'
  simp only [splitBH, Bool.and_eq_true, List.all_eq_true, List.mem_range] at hS
  obtain ⟨hS1, hS2⟩ := hS
  simp only [Bool.and_eq_true] at hB
  refine wp_region_any hm ?_
  have hq := wpAnyQ_lex (P := P) (md := .any) hB.1 ((l.take m).drop 3) 3 (three m) _ (by simp) (by simpa using hB.2) h'
  have hlm : ((l.take m).drop 3).length = m - 3 := by simp [hmn]
  rw [hlm] at hq
  have key := split_coreH (P := P) (ops := l.toArray) (ops1 := (l.take m).toArray) (md := .any) (m := m) 3 (Q := Q) (C := fun w' => ∃ n : (Subtype fun x => Below w.heap.size w x), w' = n.1) (by simpa using hmn)
    (fun i hi => by simp [hi]) (by simp [hmn]) rfl
    (fun k o ho hk e he hb => by
      have hlt : k < l.toArray.size := (Array.getElem?_eq_some_iff.1 ho).1
      have := hS1 k hlt
      simp only [ho, hk, if_true, Bool.and_eq_true, Array.all_eq_true_iff_forall_mem] at this
      have := this.1.1 e he
      simpa [hb] using this)
    (fun k o g b ho hk hg => by
      have hlt : k < l.toArray.size := (Array.getElem?_eq_some_iff.1 ho).1
      have := hS1 k hlt
      simp only [ho, hk, if_true, Bool.and_eq_true, hg] at this
      simpa using this.1.2)
    (fun k o ho hk i hqi hi => by
      have hlt : k < l.toArray.size := (Array.getElem?_eq_some_iff.1 ho).1
      have := hS1 k hlt
      simp only [ho, Nat.not_lt.2 hk, if_false, List.all_eq_true, List.mem_range] at this
      have t1 := this i hi
      rw [show decide (i < 3) = false from decide_eq_false (by omega), Bool.false_or] at t1
      rcases Bool.or_eq_true_iff.1 t1 with h1 | h1
      · obtain ⟨e, he, hb⟩ := Array.any_eq_true'.1 h1
        simp only [Bool.and_eq_true, beq_iff_eq] at hb
        exact .inl ⟨e, he, hb.1, hb.2⟩
      · cases hoi : l.toArray[i]? with
        | none => simp [hoi] at h1
        | some oi =>
          simp only [hoi, Bool.and_eq_true] at h1
          exact .inr ⟨oi, rfl, h1.1, h1.2⟩)
    (Region.noSelect_spec hN)
    (fun i j oi oj hoi hoj hqi hij hjm hfl => by
      have hlt : j < l.toArray.size := (Array.getElem?_eq_some_iff.1 hoj).1
      have := hS1 j hlt
      simp only [hoj, hjm, if_true, Bool.and_eq_true, List.all_eq_true, List.mem_range] at this
      have t1 := this.2 i hij
      rw [show decide (i < 3) = false from decide_eq_false (by omega), Bool.false_or] at t1
      rcases Bool.or_eq_true_iff.1 t1 with h1 | h1
      · obtain ⟨e, he, hb⟩ := Array.any_eq_true'.1 h1
        simp only [Bool.and_eq_true, beq_iff_eq] at hb
        exact .inl ⟨e, he, hb.1, hb.2⟩
      · refine .inr ?_
        simpa [hoi, hfl] using h1)
    hQp
    (fun x a' w' hw' hq' => by
      have := wpAny_seq (P := P) (ops := l.toArray) (md := .any) (Q := Q) x (l.drop m) m _ a' w' (fun j => by simp) (by simpa using hS2) (hq' w' hw')
      simpa using this)
    (m - 3) (three m) (three l.length) _ { w with drawn := w.drawn + 1 }
    ⟨by simp [three], by simp [three], fun i hi => by
      unfold three
      have hil : i < l.length := by omega
      simp only [Array.getElem?_setIfInBounds, Array.size_setIfInBounds, Array.size_replicate, Array.getElem?_replicate, hi, hil, if_true]
      have : 0 < m ∧ 1 < m ∧ 2 < m ∧ 0 < l.length ∧ 1 < l.length ∧ 2 < l.length := by omega
      simp only [this.1, this.2.1, this.2.2.1, this.2.2.2.1, this.2.2.2.2.1, this.2.2.2.2.2, if_true], fun i hi hn => by
      unfold three
      have hil : i < l.length := by simpa using hn
      simp only [Array.getElem?_setIfInBounds, Array.size_setIfInBounds, Array.size_replicate, Array.getElem?_replicate, hil, if_true]
      rw [if_neg (by omega), if_neg (by omega), if_neg (by omega)]⟩
    (fun i hi => by
      unfold three
      simp only [Array.getElem?_setIfInBounds, Array.size_setIfInBounds, Array.size_replicate, Array.getElem?_replicate]
      have : 0 < m ∧ 1 < m ∧ 2 < m := by omega
      simp only [this.1, this.2.1, this.2.2, if_true]
      rcases (by omega : i = 0 ∨ i = 1 ∨ i = 2) with rfl | rfl | rfl <;> simp)
    ⟨⟨w.drew, (Below.refl _ _).drew⟩, rfl⟩ hq
  have e3 : m - 3 + (l.toArray.size - m) + 1 + 1 + 1 = l.toArray.size := by simp; omega
  have k := wp_first g0 hB0 hN hQp y0 (wp_first g1 hB1 hN hQp y1 (wp_first g2 hB2 hN hQp y2 key))
  rw [e3] at k
  simpa using k
theorem wp_region_three3 {id : Nat} {Q : Exit → Act → World → Prop} {a : Act} {w : World} (m : Nat) {r : List Oper} {o0 o1 o2 : Oper} (v0 v1 v2 : Value) (hm : P.follows .mixedOrders = true) (hB : (Region.noSelect ((o0 :: o1 :: o2 :: r).take m).toArray && Region.lexFrom .any ((o0 :: o1 :: o2 :: r).take m).toArray (((o0 :: o1 :: o2 :: r).take m).drop 3).length 3 (three m)) = true) (hS : splitBH .any (o0 :: o1 :: o2 :: r).toArray 3 m = true) (hN : Region.noSelect (o0 :: o1 :: o2 :: r).toArray = true) (hmn : m ≤ (o0 :: o1 :: o2 :: r).length) (h3 : 3 ≤ m)
    (hQp : ∀ c a d v w, Q (.panic c) (a.put d v) w → Q (.panic c) a w)
    (hB0 : firstB (o0 :: o1 :: o2 :: r).toArray (Array.replicate (o0 :: o1 :: o2 :: r).length false) 0 = true) (hB1 : firstB (o0 :: o1 :: o2 :: r).toArray ((Array.replicate (o0 :: o1 :: o2 :: r).length false).setIfInBounds 0 true) 1 = true) (hB2 : firstB (o0 :: o1 :: o2 :: r).toArray (((Array.replicate (o0 :: o1 :: o2 :: r).length false).setIfInBounds 0 true).setIfInBounds 1 true) 2 = true)
    (y0 : Yields P (o0 :: o1 :: o2 :: r).toArray o0 v0 a) (y1 : Yields P (o0 :: o1 :: o2 :: r).toArray o1 v1 (a.put o0.dst v0)) (y2 : Yields P (o0 :: o1 :: o2 :: r).toArray o2 v2 ((a.put o0.dst v0).put o1.dst v1))
    (h : ∀ (U : Type) (_ : Nonempty U) (f : U → World), (∀ n, Hid (Below w.heap.size w (f n))) → Hid (∀ n w', Below (f n).heap.size (f n) w' → ∃ m, w' = f m) →
      wpQuiet P ((o0 :: o1 :: o2 :: r).take m).toArray (fun w' => ∃ n : U, w' = f n) (fun a' => ∀ n, wpList P (o0 :: o1 :: o2 :: r).toArray Q ((o0 :: o1 :: o2 :: r).drop m) a' (f n)) (((o0 :: o1 :: o2 :: r).take m).drop 3) (((a.put o0.dst v0).put o1.dst v1).put o2.dst v2)) : (Code.region id (o0 :: o1 :: o2 :: r).toArray true).wp P Q a w :=
  wp_region_three m v0 v1 v2 hm hB hS hN hmn h3 hQp rfl rfl rfl hB0 hB1 hB2 y0 y1 y2 h
end
end Go.Proofs.Ytejabkmhpiabnaa
