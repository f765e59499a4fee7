/- A region that draws its order of evaluation, makes variables and stores into them as soon as it may, ahead of readings that don't touch them: one walk of the readings and calls serves every order. Over any program. -/
import Derived.Test.YtpnfopakkaoibaaQUpA
namespace Go.Proofs.Ytpnfopakkaoibaa
open Go.RowKit
section
variable {P : Program} {ops ops1 : Array Oper} {md : Region.Mode}
theorem nodup_map_inj {α β : Type} {f : α → β} : ∀ {l : List α}, (l.map f).Nodup → ∀ {x y : α}, x ∈ l → y ∈ l → f x = f y → x = y
  | [], _, x, _, hx, _, _ => absurd hx List.not_mem_nil
  | z :: l, hn, x, y, hx, hy, e => by
    rw [List.map_cons, List.nodup_cons] at hn
    rcases List.mem_cons.1 hx with h1 | h1 <;> rcases List.mem_cons.1 hy with h2 | h2
    · rw [h1, h2]
    · rw [h1] at e
      exact absurd (List.mem_map.2 ⟨y, h2, e.symm⟩) hn.1
    · rw [h2] at e
      exact absurd (List.mem_map.2 ⟨x, h1, e⟩) hn.1
    · exact nodup_map_inj hn.2 h1 h2 e
theorem CD.bare {w0 w : World} {ob ob' : Nat → Obj} {D : List (Nat × Nat)} (h : CD w0 ob D w) : CD w0 ob' [] w := ⟨h.1, by simp, by simp⟩
/-- In each class of worlds the rest of the walk goes through, whatever lies in the variables. -/
def AllC (P : Program) (md : Region.Mode) (ops1 : Array Oper) (w0 : World) (aF : Act) (fuel : Nat) (listed1 : Array Bool) (a : Act) : Prop :=
  ∀ ct D, (∃ w, CD w0 ct D w) → wpAnyQ P md ops1 (CD w0 ct D) (fun a' => a' = aF) fuel listed1 a
def ct0 : Nat → Obj := fun _ => .cells #[] 0
theorem base0 (w0 : World) : CD w0 ct0 [] w0 := ⟨Below.refl _ _, by simp, by simp⟩
theorem AllC.step {w0 : World} {aF a : Act} {fuel i : Nat} {listed1 : Array Bool} {o : Oper} (h : AllC P md ops1 w0 aF (fuel + 1) listed1 a) (hi : i ∈ Region.ready md ops1 listed1) (ho : ops1[i]? = some o) :
    ∃ v, (∀ ct D, (∃ w, CD w0 ct D w) → YieldsIn P ops1 (CD w0 ct D) o v a) ∧ AllC P md ops1 w0 aF fuel (listed1.setIfInBounds i true) (a.put o.dst v) := by
  obtain ⟨v, hy, _⟩ := yieldsIn_of_qOp ho ((h ct0 [] ⟨w0, base0 w0⟩).2 i hi)
  have all : ∀ ct D, (∃ w, CD w0 ct D w) → YieldsIn P ops1 (CD w0 ct D) o v a ∧ wpAnyQ P md ops1 (CD w0 ct D) (fun a' => a' = aF) fuel (listed1.setIfInBounds i true) (a.put o.dst v) := by
    rintro ct D ⟨w, hw⟩
    obtain ⟨v', hy', hK⟩ := yieldsIn_of_qOp ho ((h ct D ⟨w, hw⟩).2 i hi)
    have e : v = v' := yields_unique (C := CD w0 ct0 []) (C' := CD w0 ct D) hw.bare hw hy hy'
    subst e
    exact ⟨hy', hK⟩
  exact ⟨v, fun ct D hD => (all ct D hD).1, fun ct D hD => (all ct D hD).2⟩
theorem getD_set_of {L : Array Bool} {i j : Nat} (h : (L.setIfInBounds i true).getD j false = false) : L.getD j false = false := by
  cases hc : L.getD j false with
  | false => rfl
  | true => rw [getD_set_true hc] at h; cases h
/-- What an operation does that looks only at what has come up is what it does at the end. -/
theorem exec_final {w0 : World} {aF : Act} {o : Oper} {sl : Nat → Tmp} {D : List (Nat × Nat)} (hs : ∀ cs b, o.op ≠ .select cs b) (hsep : ∀ (j : Nat) (oj : Oper), ops1[j]? = some oj → ∀ p ∈ D, oj.dst ≠ some (sl p.1)) :
    ∀ (fuel : Nat) (listed1 : Array Bool) (a : Act), AllC P md ops1 w0 aF fuel listed1 a → (∀ (j : Nat) (oj : Oper), ops1[j]? = some oj → listed1.getD j false = false → ∀ d, oj.dst = some d → d ∉ o.looksAt ops) → execOp (putsD sl D a).eval o = execOp (putsD sl D aF).eval o
  | 0, listed1, a, h, _ => by rw [(h ct0 [] ⟨w0, base0 w0⟩).2]
  | fuel + 1, listed1, a, h, hu => by
    by_cases hr : Region.ready md ops1 listed1 = []
    · rw [(h ct0 [] ⟨w0, base0 w0⟩).1 hr]
    · obtain ⟨i, hi⟩ := List.exists_mem_of_ne_nil _ hr
      obtain ⟨h0, oi, ho, _⟩ := mem_ready.1 hi
      obtain ⟨v, _, hK⟩ := h.step hi ho
      have ih := exec_final hs hsep fuel _ _ hK (fun j oj hoj hl => hu j oj hoj (getD_set_of hl))
      rw [← ih, ← put_puts v a D (hsep i oi ho)]
      refine (execOp_put (ops := ops) o hs (putsD sl D a) oi.dst v fun d hd => hu i oi ho ?_ d hd).symm
      revert h0
      cases hc : listed1[i]? with
      | none => simp [hc]
      | some b => cases b <;> simp [hc]
/-- What lies in the variables: those of U are not stored yet. -/
def ctU (ob obF : Nat → Obj) (U : List Nat) (i : Nat) : Obj := if i ∈ U then ob i else obF i
theorem ctU_nil (ob obF : Nat → Obj) : ctU ob obF [] = obF := by funext i; simp [ctU]
structure AtV (m1 m2 d n : Nat) (listed1 listed : Array Bool) (E U : List Nat) (D : List (Nat × Nat)) : Prop where
  size1 : listed1.size = m1
  size : listed.size = n
  same : ∀ i, i < m1 → listed[i]? = listed1[i]?
  mid : ∀ i, m1 ≤ i → i < m2 → listed[i]? = some (decide (i ∉ E))
  late : ∀ i, m1 ≤ i → i < m2 → listed[i + d]? = some (decide (i ∉ U))
  inE : ∀ i ∈ E, m1 ≤ i ∧ i < m2
  nodE : E.Nodup
  inU : ∀ i ∈ U, m1 ≤ i ∧ i < m2
  nodU : U.Nodup
  EU : ∀ i ∈ E, i ∈ U
  inD : ∀ p ∈ D, m1 ≤ p.1 ∧ p.1 < m2 ∧ p.1 ∉ E
  nodD : (D.map (·.1)).Nodup
  all : ∀ i, m1 ≤ i → i < m2 → i ∈ E ∨ ∃ k, (i, k) ∈ D
theorem AtV.set {m1 m2 d n i : Nat} {listed1 listed : Array Bool} {E U : List Nat} {D : List (Nat × Nat)} (hn : m2 + d = n) (h12 : m1 + d = m2) (h : AtV m1 m2 d n listed1 listed E U D) (hi : i < m1) : AtV m1 m2 d n (listed1.setIfInBounds i true) (listed.setIfInBounds i true) E U D := by
  refine ⟨by simp [h.size1], by simp [h.size], fun j hj => ?_, fun j hj hm => ?_, fun j hj hm => ?_, h.inE, h.nodE, h.inU, h.nodU, h.EU, h.inD, h.nodD, h.all⟩
  · rw [Array.getElem?_setIfInBounds, Array.getElem?_setIfInBounds, h.same j hj, h.size, h.size1]
    by_cases hij : i = j
    · subst hij; simp [hi, show i < n by omega]
    · simp [hij]
  · rw [Array.getElem?_setIfInBounds, if_neg (by omega)]; exact h.mid j hj hm
  · rw [Array.getElem?_setIfInBounds, if_neg (by omega)]; exact h.late j hj hm
theorem AtV.make {m1 m2 d n i k : Nat} {listed1 listed : Array Bool} {E U : List Nat} {D : List (Nat × Nat)} (hn : m2 + d = n) (h12 : m1 + d = m2) (h : AtV m1 m2 d n listed1 listed E U D) (hi : i ∈ E) : AtV m1 m2 d n listed1 (listed.setIfInBounds i true) (E.erase i) U ((i, k) :: D) := by
  have hb := h.inE i hi
  refine ⟨h.size1, by simp [h.size], fun j hj => ?_, fun j hj hm => ?_, fun j hj hm => ?_, fun j hj => h.inE j (List.mem_of_mem_erase hj), h.nodE.erase i, h.inU, h.nodU, fun j hj => h.EU j (List.mem_of_mem_erase hj), fun p hp => ?_, ?_, fun j hj hm => ?_⟩
  · rw [Array.getElem?_setIfInBounds, if_neg (by omega)]; exact h.same j hj
  · by_cases hij : i = j
    · subst hij
      have : i ∉ E.erase i := fun hm => (List.Nodup.mem_erase_iff h.nodE).1 hm |>.1 rfl
      simp [this, h.size, show i < n by omega]
    · rw [Array.getElem?_setIfInBounds, if_neg hij, h.mid j hj hm]
      simp [List.mem_erase_of_ne (Ne.symm hij)]
  · rw [Array.getElem?_setIfInBounds, if_neg (by omega)]; exact h.late j hj hm
  · rcases List.mem_cons.1 hp with rfl | hp
    · exact ⟨hb.1, hb.2, fun hm => (List.Nodup.mem_erase_iff h.nodE).1 hm |>.1 rfl⟩
    · have q := h.inD p hp
      exact ⟨q.1, q.2.1, fun hm => q.2.2 (List.mem_of_mem_erase hm)⟩
  · refine List.nodup_cons.2 ⟨fun hm => ?_, h.nodD⟩
    obtain ⟨p, hp, he⟩ := List.mem_map.1 hm
    have := (h.inD p hp).2.2
    simp only at he
    rw [he] at this
    exact this hi
  · by_cases hij : i = j
    · subst hij; exact .inr ⟨k, by simp⟩
    · rcases h.all j hj hm with h1 | ⟨k', h1⟩
      · exact .inl ((List.mem_erase_of_ne (Ne.symm hij)).2 h1)
      · exact .inr ⟨k', by simp [h1]⟩
theorem AtV.store {m1 m2 d n i : Nat} {listed1 listed : Array Bool} {E U : List Nat} {D : List (Nat × Nat)} (hn : m2 + d = n) (h12 : m1 + d = m2) (h : AtV m1 m2 d n listed1 listed E U D) (hi : i ∈ U) (hE : E = []) : AtV m1 m2 d n listed1 (listed.setIfInBounds (i + d) true) E (U.erase i) D := by
  have hb := h.inU i hi
  subst hE
  refine ⟨h.size1, by simp [h.size], fun j hj => ?_, fun j hj hm => ?_, fun j hj hm => ?_, h.inE, h.nodE, fun j hj => h.inU j (List.mem_of_mem_erase hj), h.nodU.erase i, fun j hj => absurd hj (by simp), h.inD, h.nodD, h.all⟩
  · rw [Array.getElem?_setIfInBounds, if_neg (by omega)]; exact h.same j hj
  · rw [Array.getElem?_setIfInBounds, if_neg (by omega)]; exact h.mid j hj hm
  · by_cases hij : i = j
    · subst hij
      have : i ∉ U.erase i := fun hm => (List.Nodup.mem_erase_iff h.nodU).1 hm |>.1 rfl
      simp [this, h.size, show i + d < n by omega]
    · rw [Array.getElem?_setIfInBounds, if_neg (by omega), h.late j hj hm]
      simp [List.mem_erase_of_ne (Ne.symm hij)]
theorem vars_core {m1 m2 d : Nat} {w0 : World} {ob obF : Nat → Obj} {sl : Nat → Tmp} {aF : Act} {Q : Exit → Act → World → Prop} (h12 : m1 + d = m2) (hmn : m2 + d = ops.size) (hpre : ∀ i, i < m1 → ops1[i]? = ops[i]?) (hs1 : ops1.size = m1)
    (hback : ∀ k o, ops[k]? = some o → k < m1 ∨ m2 ≤ k → ∀ e ∈ o.after, Region.binds md e = true → e.on < k)
    (hguard : ∀ k o g b, ops[k]? = some o → k < m1 → o.guard = some (g, b) → g < m1)
    (hal : ∀ i, m1 ≤ i → i < m2 → ∃ o, ops[i]? = some o ∧ o.dst = some (sl i) ∧ o.guard = .none ∧ (∀ e ∈ o.after, Region.binds md e = false) ∧ ∀ (a : Act) (w : World), (execOp a.eval o).run P w = .ok (.value (ptrV w.heap.size)) (w.alloc (ob i)))
    (hsep : ∀ j o, ops[j]? = some o → j < m1 → ∀ i, m1 ≤ i → i < m2 → sl i ∉ o.looksAt ops ∧ o.dst ≠ some (sl i))
    (hst : ∀ i, m1 ≤ i → i < m2 → ∃ o, ops[i + d]? = some o ∧ o.dst = .none ∧ o.guard = .none ∧ (∀ i', m1 ≤ i' → i' < m2 → ∃ e ∈ o.after, Region.binds md e = true ∧ e.on = i') ∧ (∀ j oj dd, ops[j]? = some oj → j < m1 → oj.dst = some dd → dd ∈ o.looksAt ops → ∃ e ∈ o.after, Region.binds md e = true ∧ e.on = j) ∧
      ∀ D k w, CD w0 (fun _ => .cells #[] 0) [] w → (D.map (·.1)).Nodup → (∀ p ∈ D, m1 ≤ p.1 ∧ p.1 < m2) → (∀ i, m1 ≤ i → i < m2 → ∃ k, (i, k) ∈ D) → (i, k) ∈ D → w0.heap.size ≤ k → w.heap[k]? = some (ob i) →
        ∃ w', (execOp (putsD sl D aF).eval o).run P w = .ok .skip w' ∧ w'.heap[k]? = some (obF i) ∧ Below w0.heap.size w w' ∧ ∀ b, b ≠ k → w'.heap[b]? = w.heap[b]?)
    (hsel : ∀ (j : Nat) (o : Oper) cs b, ops[j]? = some o → o.op ≠ .select cs b)
    (hQ : ∀ D w, CD w0 obF D w → (D.map (·.1)).Nodup → (∀ p ∈ D, m1 ≤ p.1 ∧ p.1 < m2) → (∀ i, m1 ≤ i → i < m2 → ∃ k, (i, k) ∈ D) → Q .normal (putsD sl D aF) w) :
    ∀ (n fuel : Nat) (E U : List Nat) (listed1 listed : Array Bool) (D : List (Nat × Nat)) (a : Act) (w : World), fuel + E.length + U.length = n → AtV m1 m2 d ops.size listed1 listed E U D → CD w0 (ctU ob obF U) D w → AllC P md ops1 w0 aF fuel listed1 a →
      wpAny P md ops Q n listed (putsD sl D a) w := by
  -- all of the first m1 have come up
  have hall : ∀ (listed1 listed : Array Bool) (E U : List Nat) (D : List (Nat × Nat)), AtV m1 m2 d ops.size listed1 listed E U D → Region.ready md ops1 listed1 = [] → ∀ j, j < m1 → listed1[j]? = some true := by
    intro listed1 listed E U D hat hr j
    induction j using Nat.strongRecOn with
    | _ j ih =>
      intro hj
      cases hc : listed1[j]? with
      | none => rw [Array.getElem?_eq_getElem (by rw [hat.size1]; exact hj)] at hc; cases hc
      | some b =>
        cases b
        · exfalso
          have hlt : j < ops.size := by omega
          have ho : ops[j]? = some ops[j] := Array.getElem?_eq_getElem hlt
          have : j ∈ Region.ready md ops1 listed1 := by
            rw [mem_ready]
            refine ⟨by simp [hc], ops[j], by rw [hpre j hj]; exact ho, fun e he hb => ?_⟩
            have hlt' := hback j ops[j] ho (.inl hj) e he hb
            simp [ih e.on hlt' (by omega)]
          rw [hr] at this
          cases this
        · rfl
  have none_left : ∀ (listed1 listed : Array Bool) (D : List (Nat × Nat)), AtV m1 m2 d ops.size listed1 listed [] [] D → Region.ready md ops1 listed1 = [] → Region.ready md ops listed = [] := by
    intro listed1 listed D hat hr
    refine List.eq_nil_iff_forall_not_mem.2 fun i hi => ?_
    obtain ⟨h0, o, ho, _⟩ := mem_ready.1 hi
    have hlt : i < ops.size := (Array.getElem?_eq_some_iff.1 ho).1
    rcases Nat.lt_or_ge i m1 with h' | h'
    · simp [hat.same i h', hall _ _ _ _ _ hat hr i h'] at h0
    · rcases Nat.lt_or_ge i m2 with h2 | h2
      · simp [hat.mid i h' h2] at h0
      · have := hat.late (i - d) (by omega) (by omega)
        rw [show i - d + d = i by omega] at this
        simp [this] at h0
  have back1 : ∀ (listed1 listed : Array Bool) (E U : List Nat) (D : List (Nat × Nat)), AtV m1 m2 d ops.size listed1 listed E U D → ∀ i, i ∈ Region.ready md ops1 listed1 → i ∈ Region.ready md ops listed := by
    intro listed1 listed E U D hat i hi
    obtain ⟨h0, o, ho, hall⟩ := mem_ready.1 hi
    have him : i < m1 := by rw [← hs1]; exact (Array.getElem?_eq_some_iff.1 ho).1
    rw [hpre i him] at ho
    rw [mem_ready]
    refine ⟨by simpa [hat.same i him] using h0, o, ho, fun e he hb => ?_⟩
    have hon := hback i o ho (.inl him) e he hb
    have := hall e he hb
    simpa [hat.same e.on (by omega)] using this
  have some_left : ∀ (listed1 listed : Array Bool) (E U : List Nat) (D : List (Nat × Nat)), AtV m1 m2 d ops.size listed1 listed E U D → Region.ready md ops listed = [] → E = [] ∧ U = [] ∧ Region.ready md ops1 listed1 = [] := by
    intro listed1 listed E U D hat h0
    have hE : E = [] := by
      cases E with
      | nil => rfl
      | cons i E =>
        exfalso
        have hb := hat.inE i (by simp)
        obtain ⟨o, ho, _, _, hfree, _⟩ := hal i hb.1 hb.2
        have : i ∈ Region.ready md ops listed := by
          rw [mem_ready]
          exact ⟨by simp [hat.mid i hb.1 hb.2], o, ho, fun e he hbi => by rw [hfree e he] at hbi; cases hbi⟩
        rw [h0] at this
        cases this
    have h1 : Region.ready md ops1 listed1 = [] := by
      refine List.eq_nil_iff_forall_not_mem.2 fun i hi => ?_
      have := back1 _ _ _ _ _ hat i hi
      rw [h0] at this
      cases this
    refine ⟨hE, ?_, h1⟩
    subst hE
    refine Classical.byContradiction fun hU => ?_
    obtain ⟨i0, hi0⟩ := List.exists_mem_of_ne_nil _ hU
    obtain ⟨i, hi, hmin⟩ : ∃ i, i ∈ U ∧ ∀ j, j < i → j ∉ U := by
      induction i0 using Nat.strongRecOn with
      | _ j ihj =>
        by_cases hex : ∃ q, q < j ∧ q ∈ U
        · obtain ⟨q, hq, hqU⟩ := hex
          exact ihj q hq hqU
        · exact ⟨j, hi0, fun q hq hqU => hex ⟨q, hq, hqU⟩⟩
    have hb := hat.inU i hi
    obtain ⟨o, ho, _⟩ := hst i hb.1 hb.2
    have : i + d ∈ Region.ready md ops listed := by
      rw [mem_ready]
      refine ⟨by simp [hat.late i hb.1 hb.2, hi], o, ho, fun e he hbi => ?_⟩
      have hon := hback (i + d) o ho (.inr (by omega)) e he hbi
      rcases Nat.lt_or_ge e.on m1 with h' | h'
      · simp [hat.same e.on h', hall _ _ _ _ _ hat h1 e.on h']
      · rcases Nat.lt_or_ge e.on m2 with h2 | h2
        · simp [hat.mid e.on h' h2]
        · have := hat.late (e.on - d) (by omega) (by omega)
          rw [show e.on - d + d = e.on by omega] at this
          simp [this, hmin (e.on - d) (by omega)]
    rw [h0] at this
    cases this
  have toY : ∀ i o (C : World → Prop) v (a : Act) (D : List (Nat × Nat)), ops[i]? = some o → i < m1 → (∀ p ∈ D, m1 ≤ p.1 ∧ p.1 < m2) → YieldsIn P ops1 C o v a → YieldsIn P ops C o v (putsD sl D a) := by
    intro i o C v a D ho hi hD hy
    have hy1 : Region.wanted o (yielded ops a.tmps) = Region.wanted o (yielded ops1 a.tmps) := by
      unfold Region.wanted
      cases hg : o.guard with
      | none => rfl
      | some gb =>
        obtain ⟨g, b⟩ := gb
        simp only [yielded, hpre g (hguard i o g b ho hi hg)]
    have hl : ∀ p ∈ D, sl p.1 ∉ o.looksAt ops := fun p hp => (hsep i o ho hi p.1 (hD p hp).1 (hD p hp).2).1
    unfold YieldsIn Oper.quietAt at *
    rw [exec_puts (ops := ops) (fun cs b => hsel i o cs b ho) a D hl, wanted_puts a D hl, hy1]
    exact hy
  intro n
  induction n with
  | zero =>
    intro fuel E U listed1 listed D a w hn hat hw h
    have hE : E = [] := List.length_eq_zero_iff.1 (by omega)
    have hU : U = [] := List.length_eq_zero_iff.1 (by omega)
    have hf : fuel = 0 := by omega
    subst hE hU hf
    have h0 := h _ D ⟨w, hw⟩
    refine wpAny_done (none_left _ _ _ hat h0.1) ?_ 0
    rw [h0.2]
    exact hQ D w (ctU_nil ob obF ▸ hw) hat.nodD (fun p hp => ⟨(hat.inD p hp).1, (hat.inD p hp).2.1⟩) (fun i h1 h2 => (hat.all i h1 h2).resolve_left (by simp))
  | succ n ih =>
    intro fuel E U listed1 listed D a w hn hat hw h
    have hD : ∀ p ∈ D, m1 ≤ p.1 ∧ p.1 < m2 := fun p hp => ⟨(hat.inD p hp).1, (hat.inD p hp).2.1⟩
    refine ⟨fun h0 => ?_, fun i hi => ?_⟩
    · obtain ⟨rfl, rfl, hr⟩ := some_left _ _ _ _ _ hat h0
      have haF : a = aF := by
        have h0 := h _ D ⟨w, hw⟩
        cases fuel with
        | zero => exact h0.2
        | succ f => exact h0.1 hr
      rw [haF]
      exact hQ D w (ctU_nil ob obF ▸ hw) hat.nodD hD (fun i h1 h2 => (hat.all i h1 h2).resolve_left (by simp))
    · obtain ⟨hun, o, ho, hall'⟩ := mem_ready.1 hi
      have hlt : i < ops.size := (Array.getElem?_eq_some_iff.1 ho).1
      rcases Nat.lt_or_ge i m1 with him | him
      · have hi1 : i ∈ Region.ready md ops1 listed1 := by
          rw [mem_ready]
          refine ⟨by simpa [hat.same i him] using hun, o, by rw [hpre i him]; exact ho, fun e he hb => ?_⟩
          have hon := hback i o ho (.inl him) e he hb
          have := hall' e he hb
          simpa [hat.same e.on (by omega)] using this
        obtain ⟨fuel, rfl⟩ : ∃ f, fuel = f + 1 := by
          cases fuel with
          | zero => have := (h _ D ⟨w, hw⟩).1; rw [this] at hi1; cases hi1
          | succ f => exact ⟨f, rfl⟩
        obtain ⟨v, hy, hK⟩ := h.step hi1 (by rw [hpre i him]; exact ho)
        have hy' := toY i _ _ v a D ho him hD (hy _ D ⟨w, hw⟩)
        have hput : (putsD sl D a).put o.dst v = putsD sl D (a.put o.dst v) := put_puts v a D fun p hp => (hsep i _ ho him p.1 (hD p hp).1 (hD p hp).2).2
        have hq : qOp P ops (CD w0 (ctU ob obF U) D) i (fun a' => a' = putsD sl D (a.put o.dst v)) (putsD sl D a) := hy'.qOp ho hput
        refine wpOp_of_qOp hw (fun a' w' hw' hk => ?_) hq
        rw [hk]
        exact ih fuel E U _ _ D _ w' (by omega) (hat.set hmn h12 him) hw' hK
      · rcases Nat.lt_or_ge i m2 with hi2 | hi2
        · have hiE : i ∈ E := by
            have := hat.mid i him hi2
            by_cases hin : i ∈ E
            · exact hin
            · simp [this, hin] at hun
          obtain ⟨o', ho', hdst, hg, _, hrun⟩ := hal i him hi2
          rw [ho] at ho'
          cases ho'
          unfold wpOp
          simp only [ho]
          rw [if_pos (by unfold Region.wanted; rw [hg])]
          refine .inl ?_
          unfold Oper.wp
          rw [hrun]
          simp only [Oper.upon]
          have hput : (putsD sl D a).put o.dst (ptrV w.heap.size) = putsD sl ((i, w.heap.size) :: D) a := by rw [hdst]; rfl
          rw [hput]
          have hlen : (E.erase i).length + 1 = E.length := by
            rw [List.length_erase_of_mem hiE]
            have := List.length_pos_of_mem hiE
            omega
          have hc := hw.alloc i
          rw [show ctU ob obF U i = ob i from if_pos (hat.EU i hiE)] at hc
          exact ih fuel (E.erase i) U listed1 _ ((i, w.heap.size) :: D) a _ (by omega) (hat.make hmn h12 hiE) hc h
        · obtain ⟨q, rfl⟩ : ∃ q, i = q + d := ⟨i - d, by omega⟩
          have hq1 : m1 ≤ q := by omega
          have hq2 : q < m2 := by omega
          have hqU : q ∈ U := by
            have := hat.late q hq1 hq2
            by_cases hin : q ∈ U
            · exact hin
            · simp [this, hin] at hun
          obtain ⟨o', ho', hdst, hg, hwA, hwD, hrun⟩ := hst q hq1 hq2
          rw [ho] at ho'
          cases ho'
          have hE : E = [] := by
            cases E with
            | nil => rfl
            | cons j E =>
              exfalso
              have hb := hat.inE j (by simp)
              obtain ⟨e, he, hbi, hon⟩ := hwA j hb.1 hb.2
              have := hall' e he hbi
              rw [hon] at this
              simp [hat.mid j hb.1 hb.2] at this
          subst hE
          obtain ⟨k, hk⟩ := (hat.all q hq1 hq2).resolve_left (by simp)
          have qc := hw.2.1 (q, k) hk
          simp only [ctU, if_pos hqU] at qc
          have hex := exec_final (ops := ops) (P := P) (md := md) (w0 := w0) (aF := aF) (o := o) (sl := sl) (D := D) (fun cs b => hsel _ o cs b ho)
            (fun j oj hoj p hp => by
              have hjm : j < m1 := by rw [← hs1]; exact (Array.getElem?_eq_some_iff.1 hoj).1
              rw [hpre j hjm] at hoj
              exact (hsep j oj hoj hjm p.1 (hD p hp).1 (hD p hp).2).2)
            fuel listed1 a h
            (fun j oj hoj hl dd hdd hm => by
              have hjm : j < m1 := by rw [← hs1]; exact (Array.getElem?_eq_some_iff.1 hoj).1
              rw [hpre j hjm] at hoj
              obtain ⟨e, he, hbi, hon⟩ := hwD j oj dd hoj hjm hdd hm
              have := hall' e he hbi
              rw [hon] at this
              simp only [Array.getD_eq_getD_getElem?] at this hl
              rw [hat.same j hjm, hl] at this
              cases this)
          obtain ⟨w', hrun', hnew, hbel, hoth⟩ := hrun D k w hw.bare hat.nodD hD (fun i h1 h2 => (hat.all i h1 h2).resolve_left (by simp)) hk qc.1 qc.2
          unfold wpOp
          simp only [ho]
          rw [if_pos (by unfold Region.wanted; rw [hg])]
          refine .inl ?_
          unfold Oper.wp
          rw [hex, hrun']
          simp only [Oper.upon]
          have hput : (putsD sl D a).put o.dst undef = putsD sl D a := by rw [hdst]; rfl
          rw [hput]
          have hlen : (U.erase q).length + 1 = U.length := by
            rw [List.length_erase_of_mem hqU]
            have := List.length_pos_of_mem hqU
            omega
          refine ih fuel [] (U.erase q) listed1 _ D a w' (by simp at hn ⊢; omega) (hat.store hmn h12 hqU rfl) ⟨hw.1.trans hbel, fun p hp => ?_, hw.2.2⟩ h
          have qp := hw.2.1 p hp
          refine ⟨qp.1, ?_⟩
          by_cases hpq : p.1 = q
          · have hpk : p = (q, k) := by
              have nd := hat.nodD
              have := nodup_map_inj nd hp hk (by simpa using hpq)
              exact this
            subst hpk
            rw [hnew, ctU, if_neg (fun hm => (List.Nodup.mem_erase_iff hat.nodU).1 hm |>.1 rfl)]
          · have hne : p.2 ≠ k := by
              intro e
              have := nodup_map_inj hw.2.2 hp hk (by simpa using e)
              rw [this] at hpq
              exact hpq rfl
            rw [hoth _ hne, qp.2, ctU, ctU]
            simp [List.mem_erase_of_ne hpq]
/-- What is asked of the region's text: quiet operations up to m1, variables made up to m2 = m1 + d, then a store into each, behind all that makes variables and behind what it stores. -/
def varsB (md : Region.Mode) (ops : Array Oper) (m1 d : Nat) : Bool :=
  (ops.size == m1 + d + d) && ((List.range ops.size).all fun k => match ops[k]? with
    | some o =>
      if k < m1 then ((o.after.all fun e => !Region.binds md e || decide (e.on < k)) && (match o.guard with | some (g, _) => decide (g < m1) | none => true)) &&
        ((List.range (m1 + d)).all fun i => decide (i < m1) || (!(o.looksAt ops).contains (slot ops i) && (o.dst != some (slot ops i))))
      else if k < m1 + d then ((o.dst.isSome && o.guard.isNone) && (o.after.all fun e => !Region.binds md e))
      else ((o.dst.isNone && o.guard.isNone) && (o.after.all fun e => !Region.binds md e || decide (e.on < k))) &&
        (((List.range (m1 + d)).all fun i => decide (i < m1) || (o.after.any fun e => Region.binds md e && (e.on == i))) &&
         ((List.range m1).all fun j => match ops[j]? with
          | some oj => (match oj.dst with | some dd => !(o.looksAt ops).contains dd | none => true) || (o.after.any fun e => Region.binds md e && (e.on == j))
          | none => true))
    | none => true)
theorem wp_region_vars {id : Nat} {Q : Exit → Act → World → Prop} {a aF : Act} {w : World} (m1 d : Nat) {l : List Oper} (ob obF : Nat → Obj) (hm : P.follows .mixedOrders = true) (hB : Region.lexB .any (l.take m1).toArray = true) (hS : varsB .any l.toArray m1 d = true) (hN : Region.noSelect l.toArray = true)
    (hrun : ∀ i o, m1 ≤ i → i < m1 + d → l[i]? = some o → ∀ (a : Act) (w : World), (execOp a.eval o).run P w = .ok (.value (ptrV w.heap.size)) (w.alloc (ob i)))
    (h1 : ∀ (U : Type) (_ : Nonempty U) (f : U → World), (∀ n, Hid (Below w.heap.size w (f n))) → Hid (∀ n w', Below (f n).heap.size (f n) w' → ∃ m, w' = f m) →
      wpQuiet P (l.take m1).toArray (fun w' => ∃ n : U, w' = f n) (fun a' => a' = aF) (l.take m1) a)
    (hst : ∀ i o, m1 ≤ i → i < m1 + d → l[i + d]? = some o → ∀ D k w', Below w.heap.size w w' → (D.map (·.1)).Nodup → (∀ p ∈ D, m1 ≤ p.1 ∧ p.1 < m1 + d) → (∀ i, m1 ≤ i → i < m1 + d → ∃ k, (i, k) ∈ D) → (i, k) ∈ D → w.heap.size ≤ k → w'.heap[k]? = some (ob i) →
        ∃ w'', (execOp (putsD (slot l.toArray) D aF).eval o).run P w' = .ok .skip w'' ∧ w''.heap[k]? = some (obF i) ∧ Below w.heap.size w' w'' ∧ ∀ b, b ≠ k → w''.heap[b]? = w'.heap[b]?)
    (h2 : ∀ D w', CD w obF D w' → (D.map (·.1)).Nodup → (∀ p ∈ D, m1 ≤ p.1 ∧ p.1 < m1 + d) → (∀ i, m1 ≤ i → i < m1 + d → ∃ k, (i, k) ∈ D) → Q .normal (putsD (slot l.toArray) D aF) w') :
    (Code.region id l.toArray true).wp P Q a w := by
  simp only [varsB, Bool.and_eq_true, List.all_eq_true, List.mem_range, beq_iff_eq] at hS
  obtain ⟨hsz, hS1⟩ := hS
  simp only [Region.lexB, Bool.and_eq_true] at hB
  have hsz' : l.length = m1 + d + d := by simpa using hsz
  have hlm : (l.take m1).length = m1 := by simp; omega
  have early : ∀ k o, l.toArray[k]? = some o → k < m1 → ((o.after.all fun e => !Region.binds .any e || decide (e.on < k)) = true ∧ (match o.guard with | some (g, _) => decide (g < m1) | none => true) = true) ∧
        (∀ i, i < m1 + d → (decide (i < m1) || (!(o.looksAt l.toArray).contains (slot l.toArray i) && (o.dst != some (slot l.toArray i)))) = true) := by
    intro k o ho hk
    have hlt : k < l.toArray.size := (Array.getElem?_eq_some_iff.1 ho).1
    have := hS1 k hlt
    simpa only [ho, hk, if_true, Bool.and_eq_true, List.all_eq_true, List.mem_range] using this
  have mid : ∀ k o, l.toArray[k]? = some o → m1 ≤ k → k < m1 + d → ((o.dst.isSome = true ∧ o.guard.isNone = true) ∧ (o.after.all fun e => !Region.binds .any e) = true) := by
    intro k o ho hk hk2
    have hlt : k < l.toArray.size := (Array.getElem?_eq_some_iff.1 ho).1
    have := hS1 k hlt
    simpa only [ho, Nat.not_lt.2 hk, hk2, if_false, if_true, Bool.and_eq_true] using this
  have late : ∀ k o, l.toArray[k]? = some o → m1 + d ≤ k → ((o.dst.isNone = true ∧ o.guard.isNone = true) ∧ (o.after.all fun e => !Region.binds .any e || decide (e.on < k)) = true) ∧
        ((∀ i, i < m1 + d → (decide (i < m1) || (o.after.any fun e => Region.binds .any e && (e.on == i))) = true) ∧
         (∀ j, j < m1 → (match l.toArray[j]? with
          | some oj => (match oj.dst with | some dd => !(o.looksAt l.toArray).contains dd | none => true) || (o.after.any fun e => Region.binds .any e && (e.on == j))
          | none => true) = true)) := by
    intro k o ho hk
    have hlt : k < l.toArray.size := (Array.getElem?_eq_some_iff.1 ho).1
    have := hS1 k hlt
    simpa only [ho, Nat.not_lt.2 hk, show ¬ k < m1 by omega, if_false, Bool.and_eq_true, List.all_eq_true, List.mem_range] using this
  have hall : AllC P .any (l.take m1).toArray w aF m1 (Array.replicate m1 false) a := by
    rintro ct D ⟨wx, hwx⟩
    have h' := h1 (Subtype fun x => CD w ct D x) ⟨⟨wx, hwx⟩⟩ (fun n => n.1) (fun n => n.2.1) (fun n w' hb => ⟨⟨w', n.2.up hb⟩, rfl⟩)
    have e : (fun w' => ∃ n : (Subtype fun x => CD w ct D x), w' = n.1) = CD w ct D := by
      funext w'
      apply propext
      constructor
      · rintro ⟨n, rfl⟩; exact n.2
      · intro h; exact ⟨⟨w', h⟩, rfl⟩
    rw [e] at h'
    have hq := wpAnyQ_lex (P := P) (C := CD w ct D) (md := .any) hB.1 (l.take m1) 0 (Array.replicate m1 false) a (by simp) (by simpa [show m1 ≤ l.length by omega] using hB.2) h'
    rwa [hlm] at hq
  refine wp_region_any hm ?_
  have key := vars_core (P := P) (ops := l.toArray) (ops1 := (l.take m1).toArray) (md := .any) (m1 := m1) (m2 := m1 + d) (d := d) (w0 := w) (ob := ob) (obF := obF) (sl := slot l.toArray) (aF := aF) (Q := Q) rfl (by simpa using hsz'.symm)
    (fun i hi => by simp [hi]) (by simp; omega)
    (fun k o ho hk e he hb => by
      rcases hk with hk | hk
      · have := (early k o ho hk).1.1
        rw [Array.all_eq_true_iff_forall_mem] at this
        simpa [hb] using this e he
      · have := (late k o ho hk).1.2
        rw [Array.all_eq_true_iff_forall_mem] at this
        simpa [hb] using this e he)
    (fun k o g b ho hk hg => by
      have := (early k o ho hk).1.2
      simpa [hg] using this)
    (fun i hi hi2 => by
      have hlt : i < l.length := by omega
      have ho : l.toArray[i]? = some l[i] := by simp [hlt]
      obtain ⟨⟨hd, hg⟩, ha⟩ := mid i _ ho hi hi2
      obtain ⟨dd, hd⟩ := Option.isSome_iff_exists.1 hd
      refine ⟨l[i], ho, ?_, Option.isNone_iff_eq_none.1 hg, fun e he => ?_, hrun i _ hi hi2 (by simp [hlt])⟩
      · simp [slot, hlt, hd]
      · rw [Array.all_eq_true_iff_forall_mem] at ha
        simpa using ha e he)
    (fun j o ho hj i hi hi2 => by
      have := (early j o ho hj).2 i hi2
      simp only [Nat.not_lt.2 hi, decide_false, Bool.false_or, Bool.and_eq_true, Bool.not_eq_true', bne_iff_ne] at this
      exact ⟨fun hm => by have h1 := this.1; rw [List.contains_eq_mem] at h1; simp [hm] at h1, this.2⟩)
    (fun i hi hi2 => by
      have hlt : i + d < l.length := by omega
      have ho : l.toArray[i + d]? = some l[i + d] := by simp [hlt]
      obtain ⟨⟨⟨hd, hg⟩, _⟩, hA, hD⟩ := late (i + d) _ ho (by omega)
      refine ⟨l[i + d], ho, Option.isNone_iff_eq_none.1 hd, Option.isNone_iff_eq_none.1 hg, fun i' hi1 hi2' => ?_, fun j oj dd hoj hj hdd hm => ?_, fun D k w' hw' hn hr hc hk hk0 hcell => ?_⟩
      · have := hA i' hi2'
        simp only [Nat.not_lt.2 hi1, decide_false, Bool.false_or] at this
        obtain ⟨e, he, hb⟩ := Array.any_eq_true'.1 this
        simp only [Bool.and_eq_true, beq_iff_eq] at hb
        exact ⟨e, he, hb.1, hb.2⟩
      · have := hD j hj
        simp only [hoj, hdd] at this
        rcases Bool.or_eq_true_iff.1 this with h1 | h1
        · rw [List.contains_eq_mem] at h1; simp [hm] at h1
        · obtain ⟨e, he, hb⟩ := Array.any_eq_true'.1 h1
          simp only [Bool.and_eq_true, beq_iff_eq] at hb
          exact ⟨e, he, hb.1, hb.2⟩
      · exact hst i _ hi hi2 (by simp [hlt]) D k w' hw'.1 hn hr hc hk hk0 hcell)
    (Region.noSelect_spec hN)
    (fun D w' hw' hn hr hc => h2 D w' hw' hn hr hc)
    (m1 + d + d) m1 (List.range' m1 d) (List.range' m1 d) (Array.replicate m1 false) (Array.replicate l.toArray.size false) [] a { w with drawn := w.drawn + 1 }
    (by simp)
    ⟨by simp, by simp, fun i hi => by simp [hi, show i < l.length by omega],
      fun i hi hi2 => by rw [Array.getElem?_eq_getElem (by simp; omega)]; simp [hi]; omega,
      fun i hi hi2 => by rw [Array.getElem?_eq_getElem (by simp; omega)]; simp [hi]; omega,
      fun i hi => by simp at hi; omega, List.nodup_range', fun i hi => by simp at hi; omega, List.nodup_range', fun i hi => hi, by simp, by simp, fun i hi hi2 => .inl (by simp; omega)⟩
    ⟨(Below.refl _ _).drew, by simp, by simp⟩ hall
  rw [← hsz] at key
  exact key
/-- Two variables are made and stored into. -/
theorem wp_region_vars2 {id : Nat} {Q : Exit → Act → World → Prop} {a : Act} {w : World} (m : Nat) {l : List Oper} {o o' q q' : Oper} {s s' : Tmp} (O O' OF OF' : Obj) (hm : P.follows .mixedOrders = true) (hB : Region.lexB .any (l.take m).toArray = true) (hS : varsB .any l.toArray m 2 = true) (hN : Region.noSelect l.toArray = true)
    (ho : l[m]? = some o) (hd : o.dst = some s) (ho' : l[m + 1]? = some o') (hd' : o'.dst = some s') (hne : s ≠ s') (hq : l[m + 2]? = some q) (hq' : l[m + 3]? = some q')
    (hrun : ∀ (a : Act) (w : World), (execOp a.eval o).run P w = .ok (.value (ptrV w.heap.size)) (w.alloc O)) (hrun' : ∀ (a : Act) (w : World), (execOp a.eval o').run P w = .ok (.value (ptrV w.heap.size)) (w.alloc O'))
    (h : ∃ aF, (∀ (U : Type) (_ : Nonempty U) (f : U → World), (∀ n, Hid (Below w.heap.size w (f n))) → Hid (∀ n w', Below (f n).heap.size (f n) w' → ∃ m, w' = f m) →
      wpQuiet P (l.take m).toArray (fun w' => ∃ n : U, w' = f n) (fun a' => a' = aF) (l.take m) a) ∧
    (∀ k k' w', Hid (w'.heap[k]? = some O) → ∃ w'', (execOp ((aF.put (some s) (.pointer (some ⟨k, 0, none⟩))).put (some s') (.pointer (some ⟨k', 0, none⟩))).eval q).run P w' = .ok .skip w'' ∧ w''.heap[k]? = some OF ∧ (w.heap.size ≤ k → Below w.heap.size w' w'') ∧ ∀ b, b ≠ k → w''.heap[b]? = w'.heap[b]?) ∧
    (∀ k k' w', Hid (w'.heap[k']? = some O') → ∃ w'', (execOp ((aF.put (some s) (.pointer (some ⟨k, 0, none⟩))).put (some s') (.pointer (some ⟨k', 0, none⟩))).eval q').run P w' = .ok .skip w'' ∧ w''.heap[k']? = some OF' ∧ (w.heap.size ≤ k' → Below w.heap.size w' w'') ∧ ∀ b, b ≠ k' → w''.heap[b]? = w'.heap[b]?) ∧
    (∀ k k' w', Hid (Below w.heap.size w w') → w.heap.size ≤ k → w.heap.size ≤ k' → Hid (k ≠ k') → Hid (w'.heap[k]? = some OF) → Hid (w'.heap[k']? = some OF') →
      Q .normal ((aF.put (some s) (.pointer (some ⟨k, 0, none⟩))).put (some s') (.pointer (some ⟨k', 0, none⟩))) w')) :
    (Code.region id l.toArray true).wp P Q a w := by
  obtain ⟨aF, h1, hs1, hs2, h2⟩ := h
  have hsl : slot l.toArray m = s := by simp [slot, ho, hd]
  have hsl' : slot l.toArray (m + 1) = s' := by simp [slot, ho', hd']
  have puts : ∀ D : List (Nat × Nat), (D.map (·.1)).Nodup → (∀ p ∈ D, m ≤ p.1 ∧ p.1 < m + 2) → ∀ k k', (m, k) ∈ D → (m + 1, k') ∈ D → putsD (slot l.toArray) D aF = (aF.put (some s) (.pointer (some ⟨k, 0, none⟩))).put (some s') (.pointer (some ⟨k', 0, none⟩)) := by
    intro D hn hr k k' hk hk'
    rcases D_two hn hr hk hk' with rfl | rfl
    · rw [Act.put_comm _ _ _ (fun d hd => by cases hd; intro h; cases h; exact hne rfl)]
      simp [putsD, hsl, hsl', ptrV]
    · simp [putsD, hsl, hsl', ptrV]
  refine wp_region_vars m 2 (fun i => if i = m then O else O') (fun i => if i = m then OF else OF') hm hB hS hN (fun i oi hi hi2 hoi => ?_) h1 (fun i oi hi hi2 hoi D k w' hw' hn hr hc hk hk0 hcell => ?_) (fun D w' hw' hn hr hc => ?_)
  · have : i = m ∨ i = m + 1 := by omega
    rcases this with rfl | rfl
    · rw [ho] at hoi
      cases hoi
      simpa using hrun
    · rw [ho'] at hoi
      cases hoi
      simpa using hrun'
  · have : i = m ∨ i = m + 1 := by omega
    rcases this with rfl | rfl
    · rw [hq] at hoi
      cases hoi
      obtain ⟨k', hk'⟩ := hc (i + 1) (by omega) (by omega)
      rw [puts D hn hr k k' hk hk']
      obtain ⟨w'', a1, a2, a3, a4⟩ := hs1 k k' w' (show w'.heap[k]? = some O by simpa using hcell)
      exact ⟨w'', a1, by simpa using a2, a3 hk0, a4⟩
    · rw [show m + 1 + 2 = m + 3 from rfl, hq'] at hoi
      cases hoi
      obtain ⟨k0, hk'⟩ := hc m (by omega) (by omega)
      rw [puts D hn hr k0 k hk' hk]
      obtain ⟨w'', a1, a2, a3, a4⟩ := hs2 k0 k w' (show w'.heap[k]? = some O' by simpa using hcell)
      exact ⟨w'', a1, by simpa using a2, a3 hk0, a4⟩
  · obtain ⟨k, hk⟩ := hc m (by omega) (by omega)
    obtain ⟨k', hk'⟩ := hc (m + 1) (by omega) (by omega)
    have c1 := hw'.2.1 (m, k) hk
    have c2 := hw'.2.1 (m + 1, k') hk'
    simp at c1 c2
    have hkk : k ≠ k' := by
      intro e
      have := nodup_map_inj hw'.2.2 hk hk' e
      simp at this
    rw [puts D hn hr k k' hk hk']
    exact h2 k k' w' hw'.1 c1.1 c2.1 hkk c1.2 c2.2
end
end Go.Proofs.Ytpnfopakkaoibaa
