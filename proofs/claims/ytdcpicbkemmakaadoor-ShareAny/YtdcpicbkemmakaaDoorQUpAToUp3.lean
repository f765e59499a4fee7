/- Texts that were joined: UpA, Up3. -/
import Derived.Test.YtdcpicbkemmakaaDoorQUpToHMix
/- A region that draws its order of evaluation and also makes variables for what it yields: one walk of the readings and calls in the order of the text, whatever places the variables get. Over any program. -/
namespace Go.Proofs.YtdcpicbkemmakaaDoor
open Go.RowKit

/-! ### A call has one outcome -/
theorem step_stuck (P : Program) (c : Frame) (w : World) (hm : c.mode = .returning) (hd : c.defers = []) (hf : P.funcs[c.fn]? = none) (hk : c.kind = .report) : ∃ o w', step P (lone c [] w) = .ended o w' := by
  obtain ⟨o, w', h⟩ : ∃ o w', (stepG P true { frame := c, callers := [], status := .running, dying := none } w).bare = .ended o w' := by
    simp [stepG, unwind, doReturn, GStep.bare, hm, hd, hf, hk]
  exact ⟨o, w', step_lone_ended h⟩
theorem lone_inj {fr fr' : Frame} {cs cs' : List Frame} {w w' : World} (h : lone fr cs w = lone fr' cs' w') : fr = fr' ∧ cs = cs' ∧ w = w' := by
  simp [lone] at h
  exact ⟨h.2.1, h.2.2, h.1⟩
theorem val_unique_le {P : Program} {m : Machine} {c fr1 fr2 : Frame} {w1 w2 : World} {v1 v2 : Value} {n1 n2 : Nat} (hc : ∀ v w, ∃ o w', step P (lone (c.finish v) [] w) = .ended o w')
    (h1 : runN P n1 m = .next (lone fr1 [c] w1)) (h2 : runN P n2 m = .next (lone fr2 [c] w2)) (l1 : fr1.leaving P w1 (.returned v1)) (l2 : fr2.leaving P w2 (.returned v2)) (hle : n1 ≤ n2) : v1 = v2 := by
  have e : n2 = n1 + (n2 - n1) := by omega
  rw [e, runN_add, h1] at h2
  simp only [] at h2
  have hs := step_leave_returned (c := c) (cs := []) l1
  match hd : n2 - n1 with
  | 0 =>
    rw [hd] at h2
    simp only [runN, Stepped.next.injEq] at h2
    obtain ⟨rfl, _, rfl⟩ := lone_inj h2
    obtain ⟨_, _, _, fn1, f1, r1⟩ := l1
    obtain ⟨_, _, _, fn2, f2, r2⟩ := l2
    rw [f1] at f2
    cases f2
    rw [r1] at r2
    cases r2
    rfl
  | 1 =>
    rw [hd] at h2
    simp only [runN, hs, Stepped.next.injEq] at h2
    obtain ⟨_, hcs, _⟩ := lone_inj h2
    cases hcs
  | k + 2 =>
    rw [hd] at h2
    obtain ⟨o, w', hq⟩ := hc v1 w1
    simp [runN, hs, hq] at h2
theorem Calls_val_unique {P : Program} {f : FuncId} {args : Array Value} {w : World} {v1 v2 : Value} {C1 C2 : World → Prop} (h1 : Calls P f args w fun e w' => e = .returned v1 ∧ C1 w') (h2 : Calls P f args w fun e w' => e = .returned v2 ∧ C2 w') : v1 = v2 := by
  let c : Frame := { Frame.enter P f args .normal with fn := P.funcs.size, mode := .returning, defers := [], todo := [], kind := .report }
  obtain ⟨e1, w1, fr1, ⟨rfl, _⟩, ⟨n1, s1⟩, _, l1⟩ := h1 [c]
  obtain ⟨e2, w2, fr2, ⟨rfl, _⟩, ⟨n2, s2⟩, _, l2⟩ := h2 [c]
  have hc : ∀ v w, ∃ o w', step P (lone (c.finish v) [] w) = .ended o w' := fun v w =>
    step_stuck P (c.finish v) w (by simp [Frame.finish, c]) (by simp [Frame.finish, c]) (by simp [Frame.finish, c]) (by simp [Frame.finish, c])
  rcases Nat.le_total n1 n2 with h | h
  · exact val_unique_le hc s1 s2 l1 l2 h
  · exact (val_unique_le hc s2 s1 l2 l1 h).symm

section
variable {P : Program} {ops ops1 : Array Oper} {md : Region.Mode}

def ptrV (k : Nat) : Value := .pointer (some ⟨k, 0, none⟩)
/-- The variables' places laid into the frame. -/
def putsD (sl : Nat → Tmp) (D : List (Nat × Nat)) (a : Act) : Act := D.foldr (fun p acc => acc.put (some (sl p.1)) (ptrV p.2)) a
/-- The worlds above w0 in which the variables that have been made stand, untouched. -/
def CD (w0 : World) (ob : Nat → Obj) (D : List (Nat × Nat)) (w : World) : Prop :=
  Below w0.heap.size w0 w ∧ (∀ p ∈ D, w0.heap.size ≤ p.2 ∧ w.heap[p.2]? = some (ob p.1)) ∧ (D.map (·.2)).Nodup
theorem CD.up {w0 w w' : World} {ob : Nat → Obj} {D : List (Nat × Nat)} (h : CD w0 ob D w) (hb : Below w.heap.size w w') : CD w0 ob D w' :=
  ⟨h.1.trans (hb.mono h.1.size), fun p hp => ⟨(h.2.1 p hp).1, (hb.block p.2 (Array.getElem?_eq_some_iff.1 (h.2.1 p hp).2).1).trans (h.2.1 p hp).2⟩, h.2.2⟩
theorem CD.none {w0 w : World} {ob : Nat → Obj} {D : List (Nat × Nat)} (h : CD w0 ob D w) : CD w0 ob [] w := ⟨h.1, by simp, by simp⟩
theorem CD.alloc {w0 w : World} {ob : Nat → Obj} {D : List (Nat × Nat)} (h : CD w0 ob D w) (i : Nat) : CD w0 ob ((i, w.heap.size) :: D) (w.alloc (ob i)) := by
  refine ⟨h.1.alloc h.1.size _, fun p hp => ?_, ?_⟩
  · rcases List.mem_cons.1 hp with rfl | hp
    · exact ⟨h.1.size, (MapKept.heap_alloc w _).1⟩
    · have q := h.2.1 p hp
      exact ⟨q.1, (Below.heap_alloc w _ p.2 (Array.getElem?_eq_some_iff.1 q.2).1).trans q.2⟩
  · refine List.nodup_cons.2 ⟨fun hm => ?_, h.2.2⟩
    obtain ⟨p, hp, hk⟩ := List.mem_map.1 hm
    have := (Array.getElem?_eq_some_iff.1 (h.2.1 p hp).2).1
    simp only at hk
    omega

theorem exec_puts {sl : Nat → Tmp} {o : Oper} (hs : ∀ cs b, o.op ≠ .select cs b) (a : Act) : ∀ D : List (Nat × Nat), (∀ p ∈ D, sl p.1 ∉ o.looksAt ops) → execOp (putsD sl D a).eval o = execOp a.eval o
  | [], _ => rfl
  | p :: D, h => (execOp_put (ops := ops) o hs (putsD sl D a) (some (sl p.1)) (ptrV p.2) (fun d hd => by cases hd; exact h p (by simp))).trans (exec_puts hs a D fun q hq => h q (by simp [hq]))
theorem wanted_puts {sl : Nat → Tmp} {o : Oper} (a : Act) : ∀ D : List (Nat × Nat), (∀ p ∈ D, sl p.1 ∉ o.looksAt ops) → Region.wanted o (yielded ops (putsD sl D a).tmps) = Region.wanted o (yielded ops a.tmps)
  | [], _ => rfl
  | p :: D, h => (wanted_put (ops := ops) o (putsD sl D a) (some (sl p.1)) (ptrV p.2) (fun d hd => by cases hd; exact h p (by simp))).trans (wanted_puts a D fun q hq => h q (by simp [hq]))
theorem put_puts {sl : Nat → Tmp} {dst : Option Tmp} (v : Value) (a : Act) : ∀ D : List (Nat × Nat), (∀ p ∈ D, dst ≠ some (sl p.1)) → (putsD sl D a).put dst v = putsD sl D (a.put dst v)
  | [], _ => rfl
  | p :: D, h => by
    show ((putsD sl D a).put (some (sl p.1)) (ptrV p.2)).put dst v = (putsD sl D (a.put dst v)).put (some (sl p.1)) (ptrV p.2)
    rw [Act.put_comm _ _ _ (fun d hd => by cases hd; exact h p (by simp)), put_puts v a D fun q hq => h q (by simp [hq])]

theorem yields_unique {C C' : World → Prop} {o : Oper} {v v' : Value} {a : Act} {w : World} (hw : C w) (hw' : C' w) (h : YieldsIn P ops C o v a) (h' : YieldsIn P ops C' o v' a) : v = v' := by
  rcases h with ⟨g, h⟩ | ⟨g, rfl⟩ <;> rcases h' with ⟨g', h'⟩ | ⟨g', rfl⟩
  · have q := h w hw
    have q' := h' w hw'
    unfold Oper.quietAt at q q'
    generalize (execOp a.eval o).run P w = r at *
    cases r with
    | ok n w1 =>
      cases n <;> simp only [Oper.quietUpon] at q q'
      case value u => rw [← q.2, ← q'.2]
      case skip => rw [q.2, q'.2]
      case enter f args => exact Calls_val_unique q.2 q'.2
    | halt x w1 => simp only [Oper.quietUpon] at q
  · rw [g] at g'; cases g'
  · rw [g] at g'; cases g'
  · rfl

/-- In each of the classes of worlds the rest of the walk goes through. -/
def AllD (P : Program) (md : Region.Mode) (ops1 : Array Oper) (w0 : World) (ob : Nat → Obj) (aF : Act) (fuel : Nat) (listed1 : Array Bool) (a : Act) : Prop :=
  ∀ D, (∃ w, CD w0 ob D w) → wpAnyQ P md ops1 (CD w0 ob D) (fun a' => a' = aF) fuel listed1 a
theorem AllD.step {w0 : World} {ob : Nat → Obj} {aF a : Act} {fuel i : Nat} {listed1 : Array Bool} {o : Oper} (h : AllD P md ops1 w0 ob aF (fuel + 1) listed1 a) (hi : i ∈ Region.ready md ops1 listed1) (ho : ops1[i]? = some o) :
    ∃ v, (∀ D, (∃ w, CD w0 ob D w) → YieldsIn P ops1 (CD w0 ob D) o v a) ∧ AllD P md ops1 w0 ob aF fuel (listed1.setIfInBounds i true) (a.put o.dst v) := by
  have base : CD w0 ob [] w0 := ⟨Below.refl _ _, by simp, by simp⟩
  obtain ⟨v, hy, _⟩ := yieldsIn_of_qOp ho ((h [] ⟨w0, base⟩).2 i hi)
  have all : ∀ D, (∃ w, CD w0 ob D w) → YieldsIn P ops1 (CD w0 ob D) o v a ∧ wpAnyQ P md ops1 (CD w0 ob D) (fun a' => a' = aF) fuel (listed1.setIfInBounds i true) (a.put o.dst v) := by
    rintro D ⟨w, hw⟩
    obtain ⟨v', hy', hK⟩ := yieldsIn_of_qOp ho ((h D ⟨w, hw⟩).2 i hi)
    have e : v = v' := yields_unique hw.none hw hy hy'
    subst e
    exact ⟨hy', hK⟩
  exact ⟨v, fun D hD => (all D hD).1, fun D hD => (all D hD).2⟩

/-- Does k wait for i, by a chain of early ones? -/
def waits (md : Region.Mode) (ops : Array Oper) (m1 : Nat) : Nat → Nat → Nat → Bool
  | 0, _, _ => false
  | f + 1, k, i => match ops[k]? with
    | some o => o.after.any fun e => Region.binds md e && ((e.on == i) || (decide (e.on < m1) && waits md ops m1 f e.on i))
    | none => false
/-- Whoever has come up had those come up for whom it waits. -/
def Closed (md : Region.Mode) (ops : Array Oper) (m1 : Nat) (listed : Array Bool) : Prop :=
  ∀ j o, ops[j]? = some o → j < m1 → listed.getD j false = true → ∀ e ∈ o.after, Region.binds md e = true → listed.getD e.on false = true
theorem Closed.set {m1 i : Nat} {listed : Array Bool} (h : Closed md ops m1 listed) (hi : i < m1 → i ∈ Region.ready md ops listed) : Closed md ops m1 (listed.setIfInBounds i true) := by
  intro j o ho hj hl e he hb
  by_cases hij : i = j
  · subst hij
    obtain ⟨_, o', ho', hall⟩ := mem_ready.1 (hi hj)
    rw [ho] at ho'
    cases ho'
    exact getD_set_true (hall e he hb)
  · rw [getD_set_ne false hij] at hl
    exact getD_set_true (h j o ho hj hl e he hb)
theorem waits_listed {m1 : Nat} {listed : Array Bool} (h : Closed md ops m1 listed) : ∀ (f k i : Nat), (∀ o, ops[k]? = some o → ∀ e ∈ o.after, Region.binds md e = true → listed.getD e.on false = true) → waits md ops m1 f k i = true → listed.getD i false = true
  | 0, _, _, _, hw => by simp [waits] at hw
  | f + 1, k, i, hk, hw => by
    unfold waits at hw
    cases ho : ops[k]? with
    | none => simp [ho] at hw
    | some o =>
      simp only [ho] at hw
      obtain ⟨e, he, hb⟩ := Array.any_eq_true'.1 hw
      simp only [Bool.and_eq_true, Bool.or_eq_true, beq_iff_eq, decide_eq_true_eq] at hb
      have hl := hk o ho e he hb.1
      rcases hb.2 with rfl | ⟨hm, hw'⟩
      · exact hl
      · exact waits_listed h f e.on i (fun o' ho' e' he' hb' => h e.on o' ho' hm hl e' he' hb') hw'

/-- Where the region stands: the first m1 as listed1 says, the variables of E not made yet, those of D made, nothing later done. -/
structure At3 (m1 m2 n : Nat) (listed1 listed : Array Bool) (E : List Nat) (D : List (Nat × Nat)) : Prop where
  size1 : listed1.size = m1
  size : listed.size = n
  same : ∀ i, i < m1 → listed[i]? = listed1[i]?
  rest : ∀ i, m2 ≤ i → i < n → listed[i]? = some false
  mid : ∀ i, m1 ≤ i → i < m2 → listed[i]? = some (decide (i ∉ E))
  inE : ∀ i ∈ E, m1 ≤ i ∧ i < m2
  nodE : E.Nodup
  inD : ∀ p ∈ D, m1 ≤ p.1 ∧ p.1 < m2 ∧ p.1 ∉ E
  nodD : (D.map (·.1)).Nodup
  all : ∀ i, m1 ≤ i → i < m2 → i ∈ E ∨ ∃ k, (i, k) ∈ D
theorem At3.set {m1 m2 n i : Nat} {listed1 listed : Array Bool} {E : List Nat} {D : List (Nat × Nat)} (hn : m2 ≤ n) (h12 : m1 ≤ m2) (h : At3 m1 m2 n listed1 listed E D) (hi : i < m1) : At3 m1 m2 n (listed1.setIfInBounds i true) (listed.setIfInBounds i true) E D := by
  refine ⟨by simp [h.size1], by simp [h.size], fun j hj => ?_, fun j hj hn => ?_, fun j hj hm => ?_, h.inE, h.nodE, h.inD, h.nodD, h.all⟩
  · rw [Array.getElem?_setIfInBounds, Array.getElem?_setIfInBounds, h.same j hj, h.size, h.size1]
    by_cases hij : i = j
    · subst hij; simp [hi, show i < n by omega]
    · simp [hij]
  · rw [Array.getElem?_setIfInBounds, if_neg (by omega)]; exact h.rest j hj hn
  · rw [Array.getElem?_setIfInBounds, if_neg (by omega)]; exact h.mid j hj hm
theorem At3.make {m1 m2 n i k : Nat} {listed1 listed : Array Bool} {E : List Nat} {D : List (Nat × Nat)} (hn : m2 ≤ n) (h : At3 m1 m2 n listed1 listed E D) (hi : i ∈ E) : At3 m1 m2 n listed1 (listed.setIfInBounds i true) (E.erase i) ((i, k) :: D) := by
  have hb := h.inE i hi
  refine ⟨h.size1, by simp [h.size], fun j hj => ?_, fun j hj hn => ?_, fun j hj hm => ?_, fun j hj => h.inE j (List.mem_of_mem_erase hj), h.nodE.erase i, fun p hp => ?_, ?_, fun j hj hm => ?_⟩
  · rw [Array.getElem?_setIfInBounds, if_neg (by omega)]; exact h.same j hj
  · rw [Array.getElem?_setIfInBounds, if_neg (by omega)]; exact h.rest j hj hn
  · by_cases hij : i = j
    · subst hij
      have : i ∉ E.erase i := fun hm => (List.Nodup.mem_erase_iff h.nodE).1 hm |>.1 rfl
      simp [this, h.size, show i < n by omega]
    · rw [Array.getElem?_setIfInBounds, if_neg hij, h.mid j hj hm]
      simp [List.mem_erase_of_ne (Ne.symm hij)]
  · rcases List.mem_cons.1 hp with rfl | hp
    · exact ⟨hb.1, hb.2, fun hm => (List.Nodup.mem_erase_iff h.nodE).1 hm |>.1 rfl⟩
    · have q := h.inD p hp
      exact ⟨q.1, q.2.1, fun hm => q.2.2 (List.mem_of_mem_erase hm)⟩
  · refine List.nodup_cons.2 ⟨fun hm => ?_, h.nodD⟩
    obtain ⟨p, hp, he⟩ := List.mem_map.1 hm
    have := (h.inD p hp).2.2
    simp only at he
    rw [he] at this
    exact this hi
  · by_cases hij : i = j
    · subst hij; exact .inr ⟨k, by simp⟩
    · rcases h.all j hj hm with h1 | ⟨k', h1⟩
      · exact .inl ((List.mem_erase_of_ne (Ne.symm hij)).2 h1)
      · exact .inr ⟨k', by simp [h1]⟩

theorem alloc_core {m1 m2 : Nat} {w0 : World} {ob : Nat → Obj} {sl : Nat → Tmp} {aF : Act} {Q : Exit → Act → World → Prop} {L0 : Array Bool} (h12 : m1 ≤ m2) (hmn : m2 ≤ ops.size) (hpre : ∀ i, i < m1 → ops1[i]? = ops[i]?) (hs1 : ops1.size = m1)
    (hL0 : L0 = ((List.range ops.size).map fun i => decide (i < m2)).toArray)
    (hback : ∀ k o, ops[k]? = some o → k < m1 → ∀ e ∈ o.after, Region.binds md e = true → e.on < k)
    (hguard : ∀ k o g b, ops[k]? = some o → k < m1 → o.guard = some (g, b) → g < m1)
    (hal : ∀ i, m1 ≤ i → i < m2 → ∃ o, ops[i]? = some o ∧ o.dst = some (sl i) ∧ o.guard = .none ∧ (∀ e ∈ o.after, Region.binds md e = false) ∧ ∀ (a : Act) (w : World), (execOp a.eval o).run P w = .ok (.value (ptrV w.heap.size)) (w.alloc (ob i)))
    (hsep : ∀ j o, ops[j]? = some o → j < m1 → ∀ i, m1 ≤ i → i < m2 → sl i ∉ o.looksAt ops ∧ o.dst ≠ some (sl i))
    (hwait : ∀ k o, ops[k]? = some o → m2 ≤ k → ∀ i, i < m1 → waits md ops m1 4 k i = true ∨ (∃ oi, ops[i]? = some oi ∧ floaty oi = true))
    (hfloat : ∀ k o, ops[k]? = some o → m2 ≤ k → ∀ i oi, i < m1 → ops[i]? = some oi → floaty oi = true → (∃ e ∈ o.after, Region.binds md e = true ∧ e.on = i) ∨ oi.apart ops o = true)
    (hwaitA : ∀ k o, ops[k]? = some o → m2 ≤ k → ∀ i, m1 ≤ i → i < m2 → ∃ e ∈ o.after, Region.binds md e = true ∧ e.on = i)
    (hsel : ∀ (j : Nat) (o : Oper) cs b, ops[j]? = some o → o.op ≠ .select cs b)
    (hpair : ∀ i j oi oj, ops[i]? = some oi → ops[j]? = some oj → i < j → j < m1 → floaty oi = true → (∃ e ∈ oj.after, Region.binds md e = true ∧ e.on = i) ∨ oi.apart ops oj = true)
    (hQp : ∀ c a d v w, Q (.panic c) (a.put d v) w → Q (.panic c) a w)
    (hQ : ∀ x D w, CD w0 ob D w → (D.map (·.1)).Nodup → (∀ p ∈ D, m1 ≤ p.1 ∧ p.1 < m2) → (∀ i, m1 ≤ i → i < m2 → ∃ k, (i, k) ∈ D) → wpAny P md ops Q (x + (ops.size - m2)) L0 (putsD sl D aF) w) :
    ∀ (n fuel : Nat) (E : List Nat) (listed1 listed : Array Bool) (D : List (Nat × Nat)) (a : Act) (w : World), fuel + E.length = n → At3 m1 m2 ops.size listed1 listed E D → Closed md ops m1 listed → CD w0 ob D w → AllD P md ops1 w0 ob aF fuel listed1 a →
      wpAny P md ops Q (n + (ops.size - m2)) listed (putsD sl D a) w := by
  have hfirst : ∀ (listed1 listed : Array Bool) (D : List (Nat × Nat)), At3 m1 m2 ops.size listed1 listed [] D → Region.ready md ops1 listed1 = [] → listed = L0 := by
    intro listed1 listed D hat hr
    have hall : ∀ j, j < m1 → listed1[j]? = some true := by
      intro j
      induction j using Nat.strongRecOn with
      | _ j ih =>
        intro hj
        cases hc : listed1[j]? with
        | none => rw [Array.getElem?_eq_getElem (by rw [hat.size1]; exact hj)] at hc; cases hc
        | some b =>
          cases b
          · exfalso
            have hlt : j < ops.size := by omega
            have ho : ops[j]? = some ops[j] := Array.getElem?_eq_getElem hlt
            have : j ∈ Region.ready md ops1 listed1 := by
              rw [mem_ready]
              refine ⟨by simp [hc], ops[j], by rw [hpre j hj]; exact ho, fun e he hb => ?_⟩
              have hlt' := hback j ops[j] ho hj e he hb
              simp [ih e.on hlt' (by omega)]
            rw [hr] at this
            cases this
          · rfl
    rw [hL0]
    apply Array.ext_getElem?
    intro i
    rcases Nat.lt_or_ge i m1 with h' | h'
    · rw [hat.same i h', hall i h']
      simp [show i < ops.size by omega, show i < m2 by omega]
    · rcases Nat.lt_or_ge i m2 with h2 | h2
      · rw [hat.mid i h' h2]
        simp [show i < ops.size by omega, h2]
      · rcases Nat.lt_or_ge i ops.size with h'' | h''
        · rw [hat.rest i h2 h'']
          simp [h'', Nat.not_lt.2 h2]
        · rw [Array.getElem?_eq_none (by rw [hat.size]; exact h''), Array.getElem?_eq_none (by simpa using h'')]
  have toY : ∀ i o (C : World → Prop) v (a : Act) (D : List (Nat × Nat)), ops[i]? = some o → i < m1 → (∀ p ∈ D, m1 ≤ p.1 ∧ p.1 < m2) → YieldsIn P ops1 C o v a → YieldsIn P ops C o v (putsD sl D a) := by
    intro i o C v a D ho hi hD hy
    have hy1 : Region.wanted o (yielded ops a.tmps) = Region.wanted o (yielded ops1 a.tmps) := by
      unfold Region.wanted
      cases hg : o.guard with
      | none => rfl
      | some gb =>
        obtain ⟨g, b⟩ := gb
        simp only [yielded, hpre g (hguard i o g b ho hi hg)]
    have hl : ∀ p ∈ D, sl p.1 ∉ o.looksAt ops := fun p hp => (hsep i o ho hi p.1 (hD p hp).1 (hD p hp).2).1
    unfold YieldsIn Oper.quietAt at *
    rw [exec_puts (ops := ops) (fun cs b => hsel i o cs b ho) a D hl, wanted_puts a D hl, hy1]
    exact hy
  intro n
  induction n with
  | zero =>
    intro fuel E listed1 listed D a w hn hat hcl hw h
    have hE : E = [] := List.length_eq_zero_iff.1 (by omega)
    have hf : fuel = 0 := by omega
    subst hE hf
    have h0 := h D ⟨w, hw⟩
    rw [hfirst listed1 listed D hat h0.1, h0.2]
    exact hQ 0 D w hw hat.nodD (fun p hp => ⟨(hat.inD p hp).1, (hat.inD p hp).2.1⟩) (fun i h1 h2 => (hat.all i h1 h2).resolve_left (by simp))
  | succ n ih =>
    intro fuel E listed1 listed D a w hn hat hcl hw h
    have hD : ∀ p ∈ D, m1 ≤ p.1 ∧ p.1 < m2 := fun p hp => ⟨(hat.inD p hp).1, (hat.inD p hp).2.1⟩
    by_cases hdone : E = [] ∧ Region.ready md ops1 listed1 = []
    · obtain ⟨rfl, hr⟩ := hdone
      have haF : a = aF := by
        have h0 := h D ⟨w, hw⟩
        cases fuel with
        | zero => exact h0.2
        | succ f => exact h0.1 hr
      rw [hfirst listed1 listed D hat hr, haF]
      exact hQ (n + 1) D w hw hat.nodD hD (fun i h1 h2 => (hat.all i h1 h2).resolve_left (by simp))
    · rw [Nat.add_right_comm]
      by_cases hlate : ∃ k, k ∈ Region.ready md ops listed ∧ m2 ≤ k
      · obtain ⟨k, hk, hmk⟩ := hlate
        obtain ⟨_, ok, hok, hkall⟩ := mem_ready.1 hk
        -- all variables are made
        have hE : E = [] := by
          cases E with
          | nil => rfl
          | cons i E =>
            exfalso
            have hb := hat.inE i (by simp)
            obtain ⟨e, he, hbi, hon⟩ := hwaitA k ok hok hmk i hb.1 hb.2
            have := hkall e he hbi
            rw [hon] at this
            simp [hat.mid i hb.1 hb.2] at this
        subst hE
        have hr : Region.ready md ops1 listed1 ≠ [] := fun hr => hdone ⟨rfl, hr⟩
        obtain ⟨fuel, rfl⟩ : ∃ f, fuel = f + 1 := by
          cases fuel with
          | zero => exact absurd (h D ⟨w, hw⟩).1 hr
          | succ f => exact ⟨f, rfl⟩
        obtain ⟨j0, hj0, hjf0⟩ : ∃ j, j < m1 ∧ listed1[j]? = some false := by
          obtain ⟨j, hj⟩ := List.exists_mem_of_ne_nil _ hr
          obtain ⟨h0, o, ho, _⟩ := mem_ready.1 hj
          have hlt : j < m1 := by rw [← hs1]; exact (Array.getElem?_eq_some_iff.1 ho).1
          refine ⟨j, hlt, ?_⟩
          have hlt1 : j < listed1.size := by rw [hat.size1]; exact hlt
          rw [Array.getElem?_eq_getElem hlt1]
          simpa [hlt1] using h0
        obtain ⟨j, hj, hjf, hmin⟩ : ∃ j, j < m1 ∧ listed1[j]? = some false ∧ ∀ i, i < j → listed1[i]? ≠ some false := by
          induction j0 using Nat.strongRecOn with
          | _ j ihj =>
            by_cases hex : ∃ i, i < j ∧ listed1[i]? = some false
            · obtain ⟨i, hij, hi⟩ := hex
              exact ihj i hij (by omega) hi
            · exact ⟨j, hj0, hjf0, fun i hi hn => hex ⟨i, hi, hn⟩⟩
        have hjlt : j < ops.size := by omega
        have hoj : ops[j]? = some ops[j] := Array.getElem?_eq_getElem hjlt
        have hlis : listed[j]? = some false := by rw [hat.same j hj, hjf]
        have hjready : j ∈ Region.ready md ops listed := by
          rw [mem_ready]
          refine ⟨by simp [hlis], ops[j], hoj, fun e he hb => ?_⟩
          have hon := hback j _ hoj hj e he hb
          have hn := hmin e.on hon
          have hlt1 : e.on < listed1.size := by rw [hat.size1]; omega
          rw [Array.getElem?_eq_getElem hlt1] at hn
          have : listed1[e.on] = true := by
            cases hc : listed1[e.on]
            · rw [hc] at hn; exact absurd rfl hn
            · rfl
          simp [hat.same e.on (by omega), Array.getElem?_eq_getElem hlt1, this]
        have hj1 : j ∈ Region.ready md ops1 listed1 := by
          obtain ⟨h0, o, ho, hall⟩ := mem_ready.1 hjready
          rw [mem_ready]
          refine ⟨by simp [hjf], o, by rw [hpre j hj]; exact ho, fun e he hb => ?_⟩
          have hon := hback j o ho hj e he hb
          have := hall e he hb
          simpa [hat.same e.on (by omega)] using this
        have hfl : floaty ops[j] = true := by
          rcases hwait k ok hok hmk j hj with hwt | ⟨oi, hoi, hfl⟩
          · exfalso
            have := waits_listed hcl 4 k j (fun o ho e he hb => by rw [hok] at ho; cases ho; exact hkall e he hb) hwt
            simp [hlis] at this
          · rw [hoj] at hoi
            cases hoi
            exact hfl
        obtain ⟨v, hy, hK⟩ := h.step hj1 (by rw [hpre j hj]; exact hoj)
        have hy' := toY j _ _ v a D hoj hj hD (hy D ⟨w, hw⟩)
        have hput : (putsD sl D a).put ops[j].dst v = putsD sl D (a.put ops[j].dst v) := put_puts v a D fun p hp => (hsep j _ hoj hj p.1 (hD p hp).1 (hD p hp).2).2
        refine wpAny_first (oi := ops[j]) (v := v) hoj hsel (fun c a w hh => hQp c a _ v w hh) _ listed _ w ?_ hjready (floaty_yields hfl hw hy') ?_
        · intro j' oj' hoj' hne hun hno
          rcases Nat.lt_or_ge j' m1 with h' | h'
          · have hj'f : listed1[j']? = some false := by
              have hltn : j' < listed.size := by rw [hat.size]; exact (Array.getElem?_eq_some_iff.1 hoj').1
              rw [← hat.same j' h', Array.getElem?_eq_getElem hltn]
              simpa [hltn] using hun
            have hgt : j < j' := by
              rcases Nat.lt_or_ge j' j with h'' | h''
              · exact absurd hj'f (hmin j' h'')
              · omega
            rcases hpair j j' _ oj' hoj hoj' hgt h' hfl with ⟨e, he, hb, hon⟩ | hap
            · exact absurd hon (hno e he hb)
            · exact hap
          · rcases Nat.lt_or_ge j' m2 with h2 | h2
            · exfalso
              have hltn : j' < listed.size := by rw [hat.size]; omega
              have := hat.mid j' h' h2
              rw [Array.getElem?_eq_getElem hltn] at this
              simp at this
              simp [hltn, this] at hun
            · rcases hfloat j' oj' hoj' h2 j _ hj hoj hfl with ⟨e, he, hb, hon⟩ | hap
              · exact absurd hon (hno e he hb)
              · exact hap
        · rw [hput]
          exact ih fuel [] _ _ D _ w (by simpa using hn) (hat.set hmn h12 hj) (hcl.set fun _ => hjready) hw hK
      · have back1 : ∀ i, i ∈ Region.ready md ops1 listed1 → i ∈ Region.ready md ops listed := by
          intro i hi
          obtain ⟨h0, o, ho, hall⟩ := mem_ready.1 hi
          have him : i < m1 := by rw [← hs1]; exact (Array.getElem?_eq_some_iff.1 ho).1
          rw [hpre i him] at ho
          rw [mem_ready]
          refine ⟨by simpa [hat.same i him] using h0, o, ho, fun e he hb => ?_⟩
          have hon := hback i o ho him e he hb
          have := hall e he hb
          simpa [hat.same e.on (by omega)] using this
        refine ⟨fun h0 => ?_, fun i hi => ?_⟩
        · exfalso
          cases E with
          | nil =>
            obtain ⟨j', hj'⟩ := List.exists_mem_of_ne_nil _ (fun hr => hdone ⟨rfl, hr⟩ : Region.ready md ops1 listed1 ≠ [])
            have := back1 j' hj'
            rw [h0] at this
            cases this
          | cons i E =>
            have hb := hat.inE i (by simp)
            obtain ⟨o, ho, _, _, hfree, _⟩ := hal i hb.1 hb.2
            have : i ∈ Region.ready md ops listed := by
              rw [mem_ready]
              exact ⟨by simp [hat.mid i hb.1 hb.2], o, ho, fun e he hbi => by rw [hfree e he] at hbi; cases hbi⟩
            rw [h0] at this
            cases this
        · obtain ⟨hun, o, ho, hall⟩ := mem_ready.1 hi
          rcases Nat.lt_or_ge i m1 with him | him
          · have hi1 : i ∈ Region.ready md ops1 listed1 := by
              rw [mem_ready]
              refine ⟨by simpa [hat.same i him] using hun, o, by rw [hpre i him]; exact ho, fun e he hb => ?_⟩
              have hon := hback i o ho him e he hb
              have := hall e he hb
              simpa [hat.same e.on (by omega)] using this
            obtain ⟨fuel, rfl⟩ : ∃ f, fuel = f + 1 := by
              cases fuel with
              | zero => have := (h D ⟨w, hw⟩).1; rw [this] at hi1; cases hi1
              | succ f => exact ⟨f, rfl⟩
            obtain ⟨v, hy, hK⟩ := h.step hi1 (by rw [hpre i him]; exact ho)
            have hy' := toY i _ _ v a D ho him hD (hy D ⟨w, hw⟩)
            have hput : (putsD sl D a).put o.dst v = putsD sl D (a.put o.dst v) := put_puts v a D fun p hp => (hsep i _ ho him p.1 (hD p hp).1 (hD p hp).2).2
            have hq : qOp P ops (CD w0 ob D) i (fun a' => a' = putsD sl D (a.put o.dst v)) (putsD sl D a) := hy'.qOp ho hput
            refine wpOp_of_qOp hw (fun a' w' hw' hk => ?_) hq
            rw [hk]
            exact ih fuel E _ _ D _ w' (by omega) (hat.set hmn h12 him) (hcl.set fun _ => hi) hw' hK
          · have hi2 : i < m2 := by
              rcases Nat.lt_or_ge i m2 with h2 | h2
              · exact h2
              · exact absurd ⟨i, hi, h2⟩ hlate
            have hiE : i ∈ E := by
              have := hat.mid i him hi2
              by_cases hin : i ∈ E
              · exact hin
              · simp [this, hin] at hun
            obtain ⟨o', ho', hdst, hg, _, hrun⟩ := hal i him hi2
            rw [ho] at ho'
            cases ho'
            unfold wpOp
            simp only [ho]
            rw [if_pos (by unfold Region.wanted; rw [hg])]
            refine .inl ?_
            unfold Oper.wp
            rw [hrun]
            simp only [Oper.upon]
            have hput : (putsD sl D a).put o.dst (ptrV w.heap.size) = putsD sl ((i, w.heap.size) :: D) a := by rw [hdst]; rfl
            rw [hput]
            have hlen : (E.erase i).length + 1 = E.length := by
              rw [List.length_erase_of_mem hiE]
              have := List.length_pos_of_mem hiE
              omega
            exact ih fuel (E.erase i) listed1 _ ((i, w.heap.size) :: D) a _ (by omega) (hat.make hmn hiE) (hcl.set fun _ => hi) (hw.alloc i) h

/-- What is asked of the region's text: quiet operations up to m1, variables made up to m2, the rest one by one behind them all. -/
def slot (ops : Array Oper) (i : Nat) : Tmp := ((ops[i]?).bind (·.dst)).getD 0
def allocB (md : Region.Mode) (ops : Array Oper) (m1 m2 : Nat) : Bool :=
  ((List.range ops.size).all fun k => match ops[k]? with
    | some o =>
      if k < m1 then (((o.after.all fun e => !Region.binds md e || decide (e.on < k)) && (match o.guard with | some (g, _) => decide (g < m1) | none => true)) &&
          ((List.range k).all fun i => (o.after.any fun e => Region.binds md e && (e.on == i)) || (match ops[i]? with | some oi => !floaty oi || oi.apart ops o | none => true))) &&
        ((List.range m2).all fun i => decide (i < m1) || (!(o.looksAt ops).contains (slot ops i) && (o.dst != some (slot ops i))))
      else if k < m2 then ((o.dst.isSome && o.guard.isNone) && (o.after.all fun e => !Region.binds md e))
      else (((List.range m1).all fun i => waits md ops m1 4 k i || (match ops[i]? with | some oi => floaty oi | none => false)) &&
          ((List.range m1).all fun i => (o.after.any fun e => Region.binds md e && (e.on == i)) || (match ops[i]? with | some oi => !floaty oi || oi.apart ops o | none => true))) &&
        ((List.range m2).all fun i => decide (i < m1) || (o.after.any fun e => Region.binds md e && (e.on == i)))
    | none => true) &&
  seqFrom md ops (ops.size - m2) m2 ((List.range ops.size).map fun i => decide (i < m2)).toArray

theorem wp_region_allocs {id : Nat} {Q : Exit → Act → World → Prop} {a aF : Act} {w : World} (m1 m2 : Nat) {l : List Oper} (ob : Nat → Obj) (hm : P.follows .mixedOrders = true) (hB : Region.lexB .any (l.take m1).toArray = true) (hS : allocB .any l.toArray m1 m2 = true) (hN : Region.noSelect l.toArray = true)
    (h12 : m1 ≤ m2) (hmn : m2 ≤ l.length) (hQp : ∀ c a d v w, Q (.panic c) (a.put d v) w → Q (.panic c) a w)
    (hrun : ∀ i o, m1 ≤ i → i < m2 → l[i]? = some o → ∀ (a : Act) (w : World), (execOp a.eval o).run P w = .ok (.value (ptrV w.heap.size)) (w.alloc (ob i)))
    (h1 : ∀ (U : Type) (_ : Nonempty U) (f : U → World), (∀ n, Hid (Below w.heap.size w (f n))) → Hid (∀ n w', Below (f n).heap.size (f n) w' → ∃ m, w' = f m) →
      wpQuiet P (l.take m1).toArray (fun w' => ∃ n : U, w' = f n) (fun a' => a' = aF) (l.take m1) a)
    (h2 : ∀ D w', CD w ob D w' → (D.map (·.1)).Nodup → (∀ p ∈ D, m1 ≤ p.1 ∧ p.1 < m2) → (∀ i, m1 ≤ i → i < m2 → ∃ k, (i, k) ∈ D) → wpList P l.toArray Q (l.drop m2) (putsD (slot l.toArray) D aF) w') :
    (Code.region id l.toArray true).wp P Q a w := by
  simp only [allocB, Bool.and_eq_true, List.all_eq_true, List.mem_range] at hS
  obtain ⟨hS1, hS2⟩ := hS
  simp only [Region.lexB, Bool.and_eq_true] at hB
  have hmn1 : m1 ≤ l.length := by omega
  have hlm : (l.take m1).length = m1 := by simp [hmn1]
  have early : ∀ k o, l.toArray[k]? = some o → k < m1 → ((((o.after.all fun e => !Region.binds .any e || decide (e.on < k)) = true ∧ (match o.guard with | some (g, _) => decide (g < m1) | none => true) = true) ∧
          (∀ i, i < k → ((o.after.any fun e => Region.binds .any e && (e.on == i)) || (match l.toArray[i]? with | some oi => !floaty oi || oi.apart l.toArray o | none => true)) = true)) ∧
        (∀ i, i < m2 → (decide (i < m1) || (!(o.looksAt l.toArray).contains (slot l.toArray i) && (o.dst != some (slot l.toArray i)))) = true)) := by
    intro k o ho hk
    have hlt : k < l.toArray.size := (Array.getElem?_eq_some_iff.1 ho).1
    have := hS1 k hlt
    simpa only [ho, hk, if_true, Bool.and_eq_true, List.all_eq_true, List.mem_range] using this
  have late : ∀ k o, l.toArray[k]? = some o → m2 ≤ k → ((∀ i, i < m1 → (waits .any l.toArray m1 4 k i || (match l.toArray[i]? with | some oi => floaty oi | none => false)) = true) ∧
        (∀ i, i < m1 → ((o.after.any fun e => Region.binds .any e && (e.on == i)) || (match l.toArray[i]? with | some oi => !floaty oi || oi.apart l.toArray o | none => true)) = true)) ∧
        (∀ i, i < m2 → (decide (i < m1) || (o.after.any fun e => Region.binds .any e && (e.on == i))) = true) := by
    intro k o ho hk
    have hlt : k < l.toArray.size := (Array.getElem?_eq_some_iff.1 ho).1
    have := hS1 k hlt
    simpa only [ho, Nat.not_lt.2 hk, Nat.not_lt.2 (Nat.le_trans h12 hk), if_false, Bool.and_eq_true, List.all_eq_true, List.mem_range] using this
  have mid : ∀ k o, l.toArray[k]? = some o → m1 ≤ k → k < m2 → ((o.dst.isSome = true ∧ o.guard.isNone = true) ∧ (o.after.all fun e => !Region.binds .any e) = true) := by
    intro k o ho hk hk2
    have hlt : k < l.toArray.size := (Array.getElem?_eq_some_iff.1 ho).1
    have := hS1 k hlt
    simpa only [ho, Nat.not_lt.2 hk, hk2, if_false, if_true, Bool.and_eq_true] using this
  have hall : AllD P .any (l.take m1).toArray w ob aF m1 (Array.replicate m1 false) a := by
    rintro D ⟨wx, hwx⟩
    have h' := h1 (Subtype fun x => CD w ob D x) ⟨⟨wx, hwx⟩⟩ (fun n => n.1) (fun n => n.2.1) (fun n w' hb => ⟨⟨w', n.2.up hb⟩, rfl⟩)
    have e : (fun w' => ∃ n : (Subtype fun x => CD w ob D x), w' = n.1) = CD w ob D := by
      funext w'
      apply propext
      constructor
      · rintro ⟨n, rfl⟩; exact n.2
      · intro h; exact ⟨⟨w', h⟩, rfl⟩
    rw [e] at h'
    have hq := wpAnyQ_lex (P := P) (C := CD w ob D) (md := .any) hB.1 (l.take m1) 0 (Array.replicate m1 false) a (by simp) (by simpa [hmn1] using hB.2) h'
    rwa [hlm] at hq
  refine wp_region_any hm ?_
  have key := alloc_core (P := P) (ops := l.toArray) (ops1 := (l.take m1).toArray) (md := .any) (m1 := m1) (m2 := m2) (w0 := w) (ob := ob) (sl := slot l.toArray) (aF := aF) (Q := Q) h12 (by simpa using hmn)
    (fun i hi => by simp [hi]) (by simp [hmn1]) rfl
    (fun k o ho hk e he hb => by
      have := (early k o ho hk).1.1.1
      rw [Array.all_eq_true_iff_forall_mem] at this
      simpa [hb] using this e he)
    (fun k o g b ho hk hg => by
      have := (early k o ho hk).1.1.2
      simpa [hg] using this)
    (fun i hi hi2 => by
      have hlt : i < l.length := by omega
      have ho : l.toArray[i]? = some l[i] := by simp [hlt]
      obtain ⟨⟨hd, hg⟩, ha⟩ := mid i _ ho hi hi2
      obtain ⟨d, hd⟩ := Option.isSome_iff_exists.1 hd
      refine ⟨l[i], ho, ?_, Option.isNone_iff_eq_none.1 hg, fun e he => ?_, hrun i _ hi hi2 (by simp [hlt])⟩
      · simp [slot, hlt, hd]
      · rw [Array.all_eq_true_iff_forall_mem] at ha
        simpa using ha e he)
    (fun j o ho hj i hi hi2 => by
      have := (early j o ho hj).2 i hi2
      simp only [Nat.not_lt.2 hi, decide_false, Bool.false_or, Bool.and_eq_true, Bool.not_eq_true', bne_iff_ne] at this
      exact ⟨fun hm => by have h1 := this.1; rw [List.contains_eq_mem] at h1; simp [hm] at h1, this.2⟩)
    (fun k o ho hk i hi => by
      rcases Bool.or_eq_true_iff.1 ((late k o ho hk).1.1 i hi) with h1 | h1
      · exact .inl h1
      · cases hoi : l.toArray[i]? with
        | none => simp [hoi] at h1
        | some oi => exact .inr ⟨oi, rfl, by simpa [hoi] using h1⟩)
    (fun k o ho hk i oi hi hoi hfl => by
      rcases Bool.or_eq_true_iff.1 ((late k o ho hk).1.2 i hi) with h1 | h1
      · obtain ⟨e, he, hb⟩ := Array.any_eq_true'.1 h1
        simp only [Bool.and_eq_true, beq_iff_eq] at hb
        exact .inl ⟨e, he, hb.1, hb.2⟩
      · exact .inr (by simpa [hoi, hfl] using h1))
    (fun k o ho hk i hi hi2 => by
      have := (late k o ho hk).2 i hi2
      simp only [Nat.not_lt.2 hi, decide_false, Bool.false_or] at this
      obtain ⟨e, he, hb⟩ := Array.any_eq_true'.1 this
      simp only [Bool.and_eq_true, beq_iff_eq] at hb
      exact ⟨e, he, hb.1, hb.2⟩)
    (Region.noSelect_spec hN)
    (fun i j oi oj hoi hoj hij hjm hfl => by
      rcases Bool.or_eq_true_iff.1 ((early j oj hoj hjm).1.2 i hij) with h1 | h1
      · obtain ⟨e, he, hb⟩ := Array.any_eq_true'.1 h1
        simp only [Bool.and_eq_true, beq_iff_eq] at hb
        exact .inl ⟨e, he, hb.1, hb.2⟩
      · refine .inr ?_
        simpa [hoi, hfl] using h1)
    hQp
    (fun x D w' hw' hn hr hc => by
      have := wpAny_seq (P := P) (ops := l.toArray) (md := .any) (Q := Q) x (l.drop m2) m2 _ (putsD (slot l.toArray) D aF) w' (fun j => by simp) (by simpa using hS2) (h2 D w' hw' hn hr hc)
      simpa using this)
    m2 m1 (List.range' m1 (m2 - m1)) (Array.replicate m1 false) (Array.replicate l.toArray.size false) [] a { w with drawn := w.drawn + 1 }
    (by simp; omega)
    ⟨by simp, by simp, fun i hi => by simp [hi, show i < l.length by omega], fun i hi hn => by rw [Array.getElem?_eq_getElem (by simpa using hn)]; simp,
      fun i hi hi2 => by rw [Array.getElem?_eq_getElem (by simp; omega)]; simp [hi]; omega,
      fun i hi => by simp at hi; omega, List.nodup_range', by simp, by simp, fun i hi hi2 => .inl (by simp; omega)⟩
    (fun j o ho hj hl e he hb => by
      have hlt : j < l.length := by omega
      simp [hlt] at hl)
    ⟨(Below.refl _ _).drew, by simp, by simp⟩ hall
  have e : m2 + (l.toArray.size - m2) = l.toArray.size := by simp; omega
  rw [e] at key
  exact key

theorem D_one {m k : Nat} {D : List (Nat × Nat)} (hn : (D.map (·.1)).Nodup) (hr : ∀ p ∈ D, p.1 = m) (hk : (m, k) ∈ D) : D = [(m, k)] := by
  match D, hn, hr, hk with
  | [p], _, _, hk => simp at hk; rw [hk]
  | p :: q :: D, hn, hr, _ =>
    have h1 := hr p (by simp); have h2 := hr q (by simp)
    simp [h1, h2] at hn
/-- One variable is made. -/
theorem wp_region_alloc1 {id : Nat} {Q : Exit → Act → World → Prop} {a : Act} {w : World} (m : Nat) {l : List Oper} {o : Oper} {s : Tmp} (O : Obj) (hm : P.follows .mixedOrders = true) (hB : Region.lexB .any (l.take m).toArray = true) (hS : allocB .any l.toArray m (m + 1) = true) (hN : Region.noSelect l.toArray = true)
    (hmn : m + 1 ≤ l.length) (hQp : ∀ c a d v w, Q (.panic c) (a.put d v) w → Q (.panic c) a w) (ho : l[m]? = some o) (hd : o.dst = some s)
    (hrun : ∀ (a : Act) (w : World), (execOp a.eval o).run P w = .ok (.value (ptrV w.heap.size)) (w.alloc O))
    (h : ∃ aF, (∀ (U : Type) (_ : Nonempty U) (f : U → World), (∀ n, Hid (Below w.heap.size w (f n))) → Hid (∀ n w', Below (f n).heap.size (f n) w' → ∃ m, w' = f m) →
      wpQuiet P (l.take m).toArray (fun w' => ∃ n : U, w' = f n) (fun a' => a' = aF) (l.take m) a) ∧
    (∀ k w', Hid (Below w.heap.size w w') → w.heap.size ≤ k → Hid (w'.heap[k]? = some O) → wpList P l.toArray Q (l.drop (m + 1)) (aF.put (some s) (.pointer (some ⟨k, 0, none⟩))) w')) :
    (Code.region id l.toArray true).wp P Q a w := by
  obtain ⟨aF, h1, h2⟩ := h
  refine wp_region_allocs m (m + 1) (fun _ => O) hm hB hS hN (by omega) hmn hQp (fun i o' hi hi2 ho' => ?_) h1 (fun D w' hw' hn hr hc => ?_)
  · have : i = m := by omega
    subst this
    rw [ho] at ho'
    cases ho'
    exact hrun
  · obtain ⟨k, hk⟩ := hc m (by omega) (by omega)
    have e := D_one hn (fun p hp => by have := hr p hp; omega) hk
    subst e
    have q := hw'.2.1 (m, k) (by simp)
    have hs : slot l.toArray m = s := by simp [slot, ho, hd]
    have := h2 k w' hw'.1 q.1 q.2
    simpa [putsD, hs, ptrV] using this
end
end Go.Proofs.YtdcpicbkemmakaaDoor

/- A region that draws its order of evaluation: readings and calls, then operations that wait for all of these, by whatever chain. Over any program. -/
namespace Go.Proofs.YtdcpicbkemmakaaDoor
open Go.RowKit
theorem wp_region_then3 {P : Program} {id : Nat} {Q : Exit → Act → World → Prop} {a : Act} {w : World} (m : Nat) {l : List Oper} (hm : P.follows .mixedOrders = true) (hB : Region.lexB .any (l.take m).toArray = true) (hS : allocB .any l.toArray m m = true) (hN : Region.noSelect l.toArray = true)
    (hmn : m ≤ l.length) (hQp : ∀ c a d v w, Q (.panic c) (a.put d v) w → Q (.panic c) a w)
    (h : ∃ aF, (∀ (U : Type) (_ : Nonempty U) (f : U → World), (∀ n, Hid (Below w.heap.size w (f n))) → Hid (∀ n w', Below (f n).heap.size (f n) w' → ∃ m, w' = f m) →
      wpQuiet P (l.take m).toArray (fun w' => ∃ n : U, w' = f n) (fun a' => a' = aF) (l.take m) a) ∧
    (∀ w', Hid (Below w.heap.size w w') → wpList P l.toArray Q (l.drop m) aF w')) :
    (Code.region id l.toArray true).wp P Q a w := by
  obtain ⟨aF, h1, h2⟩ := h
  refine wp_region_allocs m m (fun _ => .cells #[] 0) hm hB hS hN (Nat.le_refl _) hmn hQp (fun i o hi hi2 _ => absurd hi2 (by omega)) h1 (fun D w' hw' hn hr hc => ?_)
  have : D = [] := by
    cases D with
    | nil => rfl
    | cons p D => have := hr p (by simp); omega
  subst this
  exact h2 w' hw'.1
end Go.Proofs.YtdcpicbkemmakaaDoor
