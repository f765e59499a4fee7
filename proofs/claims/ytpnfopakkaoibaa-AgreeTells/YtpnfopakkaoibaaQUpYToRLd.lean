/- Texts that were joined: UpY, RLd. -/
import Derived.Test.YtpnfopakkaoibaaQUpXToUpR
import Derived.Test.YtpnfopakkaoibaaQRRg
import Derived.Test.YtpnfopakkaoibaaQDDigPToFeN
import Derived.Test.YtpnfopakkaoibaaQFePToROft
/- As UpX's law, and besides: of variables that are made among the operations no two are one. -/
namespace Go.Proofs.Ytpnfopakkaoibaa
open Go.RowKit
section
variable {P : Program}
/-- No two of these are one. -/
def Apart (al : List Nat) (vals : Nat → Value) : Prop := ∀ i ∈ al, ∀ j ∈ al, i ≠ j → vals i ≠ vals j
/-- Of what has been made: where it lies; no two are one. -/
def MadeI (al U : List Nat) (vals : Nat → Value) (w : World) : Prop := (∀ i ∈ al, i ∉ U → ∃ g, vals i = .pointer (some ⟨g, 0, none⟩) ∧ g < w.heap.size) ∧ ∀ i ∈ al, ∀ j ∈ al, i ∉ U → j ∉ U → i ≠ j → vals i ≠ vals j
theorem MadeI.other {al U : List Nat} {vals : Nat → Value} {w w2 : World} (h : MadeI al U vals w) (f : Nat) (hf : f ∉ al) (v : Value) (hb : w.heap.size ≤ w2.heap.size) : MadeI al (U.erase f) (updV vals f v) w2 := by
  have hn : ∀ i ∈ al, i ∉ U.erase f → i ∉ U := fun i hi h1 h2 => h1 ((List.mem_erase_of_ne (show i ≠ f from fun e => hf (by rw [← e]; exact hi))).2 h2)
  have hv : ∀ i ∈ al, updV vals f v i = vals i := fun i hi => by
    unfold updV
    rw [if_neg (show ¬ i = f from fun e => hf (by rw [← e]; exact hi))]
  refine ⟨fun i hi h1 => ?_, fun i hi j hj h1 h2 hij => ?_⟩
  · obtain ⟨g, e, hg⟩ := h.1 i hi (hn i hi h1)
    exact ⟨g, by rw [hv i hi]; exact e, Nat.lt_of_lt_of_le hg hb⟩
  · rw [hv i hi, hv j hj]
    exact h.2 i hi j hj (hn i hi h1) (hn j hj h2) hij
theorem MadeI.new {al U : List Nat} {vals : Nat → Value} {w w2 : World} (h : MadeI al U vals w) (f : Nat) (hb : w.heap.size < w2.heap.size) : MadeI al (U.erase f) (updV vals f (.pointer (some ⟨w.heap.size, 0, none⟩))) w2 := by
  have hn : ∀ i, i ≠ f → i ∉ U.erase f → i ∉ U := fun i hi h1 h2 => h1 ((List.mem_erase_of_ne hi).2 h2)
  have hv : ∀ i, i ≠ f → updV vals f (.pointer (some ⟨w.heap.size, 0, none⟩)) i = vals i := fun i hi => by
    unfold updV
    rw [if_neg hi]
  have hf : updV vals f (.pointer (some ⟨w.heap.size, 0, none⟩)) f = .pointer (some ⟨w.heap.size, 0, none⟩) := by
    unfold updV
    rw [if_pos rfl]
  have ne : ∀ i ∈ al, i ∉ U → vals i ≠ .pointer (some ⟨w.heap.size, 0, none⟩) := fun i hi h2 e => by
    obtain ⟨g, e2, hg⟩ := h.1 i hi h2
    rw [e2] at e
    cases e
    omega
  refine ⟨fun i hi h1 => ?_, fun i hi j hj h1 h2 hij => ?_⟩
  · by_cases e : i = f
    · subst e
      exact ⟨_, hf, hb⟩
    · obtain ⟨g, e2, hg⟩ := h.1 i hi (hn i e h1)
      exact ⟨g, by rw [hv i e]; exact e2, by omega⟩
  · by_cases e : i = f
    · subst e
      rw [hf, hv j (Ne.symm hij)]
      exact fun e => ne j hj (hn j (Ne.symm hij) h2) e.symm
    · by_cases e2 : j = f
      · subst e2
        rw [hf, hv i e]
        exact ne i hi (hn i e h1)
      · rw [hv i e, hv j e2]
        exact h.2 i hi j hj (hn i e h1) (hn j e2 h2) hij
theorem wp_region_monoY {id : Nat} {Q : Exit → Act → World → Prop} {a : Act} {w : World} {l : List Oper} (m f : Nat) (vf : Value) (al : List Nat) (Φ : List MP) (A : (Nat → Value) → Act) (hm : P.follows .mixedOrders = true) (hS : monoB l = true) (hl : Φ.length = m) (hlm : m < l.length) (hwa : lateX l m f = true) (hfl : floatX l m f = true) (hfm : f < m) (hN : Region.noSelect l.toArray = true) (hQp : ∀ c a d v w, Q (.panic c) (a.put d v) w → Q (.panic c) a w) (hΦf : Φ[f]? = some (MP.eq vf))
    (hy : ∀ of, l[f]? = some of → ∀ vals w1, Hid (Below w.heap.size w w1) → (∀ e ∈ of.after, Region.binds .any e = true → (Φ.getD e.on MP.any).p (vals e.on) w1) → Yields P l.toArray of vf (A vals))
    (hfa : f ∉ al) (hal : ∀ i ∈ al, i < m ∧ ∀ o, l[i]? = some o → ∀ (a : Act) (w : World), ∃ X, (execOp a.eval o).run P w = .ok (.value (.pointer (some ⟨w.heap.size, 0, none⟩))) (w.alloc X))
    (hA : ∀ vals, putsV l a vals l.length = A vals) (hst : StepsAll P l Φ A a w 0 (l.take m))
    (hlast : ∀ vals w', Hid (Below w.heap.size w w') → FinAll vals w' 0 Φ → Hid (∀ j, m ≤ j → j < l.length → vals j = ownV l a j) → Hid (Apart al vals) → wpList P l.toArray Q (l.drop m) (A vals) w') :
    (Code.region id l.toArray true).wp P Q a w := by
  simp only [lateX, Bool.and_eq_true, List.all_eq_true, List.mem_range] at hwa
  obtain ⟨⟨hw1, hw2⟩, hseq⟩ := hwa
  have hflen : f < l.length := by omega
  obtain ⟨of, hof⟩ : ∃ of, l[f]? = some of := ⟨l[f], List.getElem?_eq_getElem hflen⟩
  simp only [floatX, hof, Bool.and_eq_true, List.all_eq_true, List.mem_range, Array.all_eq_true_iff_forall_mem] at hfl
  obtain ⟨hfl1, hfl2⟩ := hfl
  refine wp_region_any hm ?_
  simp only [monoB, List.all_eq_true, List.mem_range] at hS
  have hback : ∀ k o, l[k]? = some o → ∀ e ∈ o.after, Region.binds .any e = true → e.on < k := by
    intro k o ho e he hb
    have hlt : k < l.length := (List.getElem?_eq_some_iff.1 ho).1
    have := hS k hlt
    simp only [ho, Bool.and_eq_true, Array.all_eq_true_iff_forall_mem] at this
    simpa [hb] using this.1 e he
  have hdst : ∀ i j, i < j → j < l.length → ∀ d, dstL l i = some d → dstL l j ≠ some d := by
    intro i j hij hj d hd e
    have hlt : i < l.length := by omega
    have ho : l[i]? = some l[i] := List.getElem?_eq_getElem hlt
    have := hS i hlt
    simp only [ho, Bool.and_eq_true, List.all_eq_true, List.mem_range] at this
    have := this.2 j hj
    have hd' : l[i].dst = some d := by simpa [dstL, ho] using hd
    rw [hd', e] at this
    simp at this
    omega
  have core : ∀ (fuel : Nat) (U : List Nat) (listed : Array Bool) (vals : Nat → Value) (w1 : World), U.length ≤ fuel → listed.size = l.length → (∀ i, i < l.length → listed[i]? = some (decide (i ∉ U))) → (∀ i ∈ U, i < l.length) → U.Nodup → (∀ j, m ≤ j → j < l.length → j ∈ U) →
      (∀ i, i < m → i ∉ U → (Φ.getD i MP.any).p (vals i) w1) → (∀ i ∈ U, vals i = ownV l a i) → (∀ j o, l[j]? = some o → j ∉ U → ∀ e ∈ o.after, Region.binds .any e = true → e.on ∉ U) → MadeI al U vals w1 → Below w.heap.size w w1 → wpAny P .any l.toArray Q fuel listed (putsV l a vals l.length) w1 := by
    have done : ∀ (fuel : Nat) (U : List Nat) (listed : Array Bool) (vals : Nat → Value) (w1 : World), U.length ≤ fuel → listed.size = l.length → (∀ i, i < l.length → listed[i]? = some (decide (i ∉ U))) → U.Nodup → (∀ i ∈ U, i < l.length) → (∀ j, m ≤ j → j < l.length → j ∈ U) → (∀ j, j < m → j ∉ U) →
        (∀ i, i < m → i ∉ U → (Φ.getD i MP.any).p (vals i) w1) → (∀ i ∈ U, vals i = ownV l a i) → MadeI al U vals w1 → Below w.heap.size w w1 → wpAny P .any l.toArray Q fuel listed (putsV l a vals l.length) w1 := by
      intro fuel U listed vals w1 hU hs hl' hnd hin hmU hno hall hown hMI hb
      have e1 : listed = ((List.range l.length).map fun i => decide (i < m)).toArray := by
        apply Array.ext_getElem?
        intro q
        rcases Nat.lt_or_ge q l.length with hq | hq
        · rw [hl' q hq]
          by_cases hqm : q < m
          · simp [hq, hqm, hno q hqm]
          · simp [hq, hqm, hmU q (by omega) hq]
        · rw [Array.getElem?_eq_none (by omega), Array.getElem?_eq_none (by simp; omega)]
      have hlen : l.length - m ≤ U.length := by
        have hsub : ∀ j ∈ List.range' m (l.length - m), j ∈ U := fun j hj => by
          have := List.mem_range'_1.1 hj
          exact hmU _ (by omega) (by omega)
        have := (List.nodup_range' (s := m) (n := l.length - m)).length_le_of_subset hsub
        simpa using this
      have h1 := hlast vals w1 hb (FinAll.of 0 Φ fun j hj => by rw [Nat.zero_add]; exact hall j (by omega) (hno j (by omega))) (fun j h1 h2 => hown j (hmU j h1 h2) : ∀ j, m ≤ j → j < l.length → vals j = ownV l a j) (fun i hi j hj hij => hMI.2 i hi j hj (hno i (hal i hi).1) (hno j (hal j hj).1) hij : Apart al vals)
      rw [← hA] at h1
      have := wpAny_seq (P := P) (ops := l.toArray) (md := .any) (Q := Q) (fuel - (l.length - m)) (l.drop m) m listed (putsV l a vals l.length) w1 (fun j => by simp) (by rw [e1]; simpa using hseq) h1
      have ef : fuel - (l.length - m) + (l.drop m).length = fuel := by simp; omega
      rw [ef] at this
      exact this
    intro fuel
    induction fuel with
    | zero =>
      intro U listed vals w1 hU hs hl' hin hnd hmU hall hown hcl hMI hb
      have : U = [] := List.length_eq_zero_iff.1 (by omega)
      subst this
      exact absurd (hmU m (Nat.le_refl _) hlm) (by simp)
    | succ fuel ih =>
      intro U listed vals w1 hU hs hl' hin hnd hmU hall hown hcl hMI hb
      by_cases hno : ∀ j, j < m → j ∉ U
      · exact done _ U listed vals w1 hU hs hl' hnd hin hmU hno hall hown hMI hb
      by_cases hfr : f ∈ U ∧ ∀ e ∈ of.after, Region.binds .any e = true → e.on ∉ U
      · obtain ⟨hiU, hdeps⟩ := hfr
        have hlt := hflen
        have hrd : f ∈ Region.ready .any l.toArray listed := by
          rw [mem_ready]
          refine ⟨by simp [hl' f hlt, hiU], of, by simp [hof], fun e he hbi => ?_⟩
          have hon := hback f of hof e he hbi
          simp [hl' e.on (by omega), hdeps e he hbi]
        have hyy := hy of hof vals w1 hb fun e he hbi => hall e.on (by have := hback f of hof e he hbi; omega) (hdeps e he hbi)
        rw [← hA] at hyy
        refine wpAny_first (by simpa using hof) (Region.noSelect_spec hN) (fun c a w h => hQp c a _ _ w h) fuel listed _ w1 ?_ hrd hyy ?_
        · intro j oj hoj hne hun hno2
          have hoj' : l[j]? = some oj := by simpa using hoj
          have hjl : j < l.length := (List.getElem?_eq_some_iff.1 hoj').1
          have := hfl2 j hjl
          rw [show (j == f) = false by simp [hne], Bool.false_or] at this
          simp only [hoj', Bool.or_eq_true] at this
          rcases this with h | h | h
          · have hjn := waitsC_out hcl 16 f j (fun o2 ho2 => by
              rw [hof] at ho2
              cases ho2
              exact hdeps) h
            rw [Array.getD_eq_getD_getElem?, hl' j hjl] at hun
            simp [hjn] at hun
          · obtain ⟨e, he, hb'⟩ := Array.any_eq_true'.1 h
            simp only [Bool.and_eq_true, beq_iff_eq] at hb'
            exact absurd hb'.2 (hno2 e he hb'.1)
          · exact h
        have hd : of.dst = dstL l f := by simp [dstL, hof]
        rw [hd, putsV_upd l.length hlt (fun j h1 h2 d => hdst f j h1 h2 d)]
        have hlen : (U.erase f).length + 1 = U.length := by
          rw [List.length_erase_of_mem hiU]
          have := List.length_pos_of_mem hiU
          omega
        refine ih (U.erase f) _ _ w1 (by omega) (by simp [hs]) (fun j hj => ?_) (fun j hj => hin j (List.mem_of_mem_erase hj)) (hnd.erase f) (fun j h1 h2 => (List.mem_erase_of_ne (by omega)).2 (hmU j h1 h2)) (fun j hj hjn => ?_) (fun j hj => ?_) (fun j oj hoj hjn e he hbi hmm => ?_) (hMI.other f hfa vf (Nat.le_refl _)) hb
        · rw [Array.getElem?_setIfInBounds]
          by_cases e : f = j
          · subst e
            have : f ∉ U.erase f := fun hm => (List.Nodup.mem_erase_iff hnd).1 hm |>.1 rfl
            simp [this, hs, hlt]
          · rw [if_neg e, hl' j hj]
            simp [List.mem_erase_of_ne (Ne.symm e)]
        · by_cases e : j = f
          · subst e
            unfold updV
            rw [if_pos rfl, List.getD_eq_getElem?_getD, hΦf, Option.getD_some]
            rfl
          · unfold updV
            rw [if_neg e]
            exact hall j hj fun hm => hjn ((List.mem_erase_of_ne e).2 hm)
        · have hne : j ≠ f := fun e => by
            subst e
            exact (List.Nodup.mem_erase_iff hnd).1 hj |>.1 rfl
          unfold updV
          rw [if_neg hne]
          exact hown j (List.mem_of_mem_erase hj)
        · have hmU := List.mem_of_mem_erase hmm
          by_cases e' : j = f
          · subst e'
            rw [hof] at hoj
            cases hoj
            exact hdeps e he hbi hmU
          · exact hcl j oj hoj (fun hm => hjn ((List.mem_erase_of_ne e').2 hm)) e he hbi hmU
      refine ⟨fun h0 => ?_, fun i hi => ?_⟩
      · have : U = [] := by
          refine Classical.byContradiction fun hne => ?_
          obtain ⟨i0, hi0⟩ := List.exists_mem_of_ne_nil _ hne
          obtain ⟨i, hi, hmin⟩ : ∃ i, i ∈ U ∧ ∀ j, j < i → j ∉ U := by
            induction i0 using Nat.strongRecOn with
            | _ j ihj =>
              by_cases hex : ∃ q, q < j ∧ q ∈ U
              · obtain ⟨q, hq, hqU⟩ := hex
                exact ihj q hq hqU
              · exact ⟨j, hi0, fun q hq hqU => hex ⟨q, hq, hqU⟩⟩
          have hlt := hin i hi
          have : i ∈ Region.ready .any l.toArray listed := by
            rw [mem_ready]
            refine ⟨by simp [hl' i hlt, hi], l[i], by simp [hlt], fun e he hbi => ?_⟩
            have hon := hback i l[i] (List.getElem?_eq_getElem hlt) e he hbi
            simp [hl' e.on (by omega), hmin e.on hon]
          rw [h0] at this
          cases this
        subst this
        exact absurd (hmU m (Nat.le_refl _) hlm) (by simp)
      · obtain ⟨hun, o, ho, hdep⟩ := mem_ready.1 hi
        have hlt : i < l.length := by simpa using (Array.getElem?_eq_some_iff.1 ho).1
        have ho' : l[i]? = some o := by simpa using ho
        have hiU : i ∈ U := by
          refine Classical.byContradiction fun hn => ?_
          simp [hl' i hlt, hn] at hun
        have hall' : ∀ e ∈ o.after, Region.binds .any e = true → e.on ∉ U := fun e he hbi hmm => by
          have hon := hback i o ho' e he hbi
          have h1 := hdep e he hbi
          simp [hl' e.on (by omega), hmm] at h1
        have him' : i < m := by
          refine Classical.byContradiction fun hge => ?_
          rcases Nat.lt_or_ge m i with h1 | h1
          · have h2 := hw2 i hlt
            rw [decide_eq_false (by omega), Bool.false_or] at h2
            simp only [ho'] at h2
            obtain ⟨e, he, hb'⟩ := Array.any_eq_true'.1 h2
            simp only [Bool.and_eq_true, decide_eq_true_eq] at hb'
            have hon := hback i o ho' e he hb'.1
            exact hall' e he hb'.1 (hmU e.on hb'.2 (by omega))
          · obtain rfl : i = m := by omega
            have hq : ∀ q, waitsC l 16 i q = true → q ∉ U := fun q hq => waitsC_out hcl 16 i q (fun o2 ho2 => by
              rw [ho'] at ho2
              cases ho2
              exact hall') hq
            refine hno fun j hj => ?_
            have h2 := hw1 j hj
            rw [Bool.or_eq_true] at h2
            rcases h2 with h2 | h2
            · obtain rfl : j = f := by simpa using h2
              refine fun hjU => hfr ⟨hjU, fun e he hbi => hq e.on ?_⟩
              have h3 := hfl1 e he
              rw [hbi] at h3
              simpa using h3
            · exact hq j h2
        have st := StepsAll.at 0 (l.take m) hst i o (by rw [List.getElem?_take, if_pos him']; exact ho') vals w1 hb (show ∀ j, waitsOn l j (0 + i) = true → vals j = ownV l a j from fun j hj => by
          rw [Nat.zero_add] at hj
          unfold waitsOn at hj
          cases hoj : l[j]? with
          | none => simp [hoj] at hj
          | some oj =>
            simp only [hoj] at hj
            obtain ⟨e, he, hb'⟩ := Array.any_eq_true'.1 hj
            simp only [Bool.and_eq_true, beq_iff_eq] at hb'
            refine hown j (Classical.byContradiction fun hn => ?_)
            exact hcl j oj hoj hn e he hb'.1 (by rw [hb'.2]; exact hiU)) (fun e he hbi => by
          have hon := hback i o ho' e he hbi
          have h1 := hdep e he hbi
          refine hall e.on (by omega) fun hmU => ?_
          simp [hl' e.on (by omega), hmU] at h1)
        rw [Nat.zero_add, ← hA] at st
        unfold wpOp
        simp only [ho]
        rw [if_pos st.1]
        have next : ∀ v w2, (Φ.getD i MP.any).p v w2 → Below w1.heap.size w1 w2 → MadeI al (U.erase i) (updV vals i v) w2 → wpAny P .any l.toArray Q fuel (listed.setIfInBounds i true) ((putsV l a vals l.length).put o.dst v) w2 := by
          intro v w2 hv hb2 hM2
          have hd : o.dst = dstL l i := by simp [dstL, ho']
          rw [hd, putsV_upd l.length hlt (fun j h1 h2 d => hdst i j h1 h2 d)]
          have hlen : (U.erase i).length + 1 = U.length := by
            rw [List.length_erase_of_mem hiU]
            have := List.length_pos_of_mem hiU
            omega
          refine ih (U.erase i) _ _ w2 (by omega) (by simp [hs]) (fun j hj => ?_) (fun j hj => hin j (List.mem_of_mem_erase hj)) (hnd.erase i) (fun j h1 h2 => (List.mem_erase_of_ne (by omega)).2 (hmU j h1 h2)) (fun j hj hjn => ?_) (fun j hj => ?_) (fun j oj hoj hjn e he hbi hmm => ?_) hM2 (hb.trans (hb2.mono hb.size))
          · rw [Array.getElem?_setIfInBounds]
            by_cases e : i = j
            · subst e
              have : i ∉ U.erase i := fun hm => (List.Nodup.mem_erase_iff hnd).1 hm |>.1 rfl
              simp [this, hs, hlt]
            · rw [if_neg e, hl' j hj]
              simp [List.mem_erase_of_ne (Ne.symm e)]
          · by_cases e : j = i
            · subst e
              unfold updV
              rw [if_pos rfl]
              exact hv
            · unfold updV
              rw [if_neg e]
              exact (Φ.getD j MP.any).up (hall j hj fun hm => hjn ((List.mem_erase_of_ne e).2 hm)) hb2
          · have hne : j ≠ i := fun e => by
              subst e
              exact (List.Nodup.mem_erase_iff hnd).1 hj |>.1 rfl
            unfold updV
            rw [if_neg hne]
            exact hown j (List.mem_of_mem_erase hj)
          · have hmU := List.mem_of_mem_erase hmm
            by_cases e' : j = i
            · subst e'
              rw [ho'] at hoj
              cases hoj
              have h1 := hdep e he hbi
              have hon := hback j o ho' e he hbi
              simp [hl' e.on (by omega), hmU] at h1
            · exact hcl j oj hoj (fun hm => hjn ((List.mem_erase_of_ne e').2 hm)) e he hbi hmU
        by_cases hia : i ∈ al
        · obtain ⟨X, hrun⟩ := (hal i hia).2 o ho' (putsV l a vals l.length) w1
          have hY := st.2
          unfold YieldsP at hY
          rw [hrun] at hY
          left
          unfold Oper.wp
          rw [hrun]
          simp only [Oper.upon]
          exact next _ _ hY.1 hY.2 (hMI.new i (by simp))
        · exact .inl (st.2.wp fun v w2 hv hb2 => next v w2 hv hb2 (hMI.other i hia v hb2.size))
  have key := core l.length (List.range l.length) (Array.replicate l.length false) (ownV l a) { w with drawn := w.drawn + 1 } (by simp) (by simp) (fun i hi => by simp [hi]) (fun i hi => List.mem_range.1 hi) List.nodup_range (fun j _ h2 => List.mem_range.2 h2) (fun i hi hn => absurd (List.mem_range.2 (by omega)) hn) (fun _ _ => rfl) (fun j o hoj hn => absurd (List.mem_range.2 (List.getElem?_eq_some_iff.1 hoj).1) hn) ⟨fun i hi hn => absurd (List.mem_range.2 (by have := (hal i hi).1; omega)) hn, fun i hi j hj hn => absurd (List.mem_range.2 (by have := (hal i hi).1; omega)) hn⟩ ((Below.refl _ _).drew)
  rw [putsV_own] at key
  simpa using key
theorem wp_region_monoYE {id : Nat} {Q : Exit → Act → World → Prop} {a : Act} {w : World} {l : List Oper} (m f : Nat) (vf : Value) (al : List Nat) (Φ : List MP) (hm : P.follows .mixedOrders = true) (hS : monoB l = true) (hl : Φ.length = m) (hlm : m < l.length) (hwa : lateX l m f = true) (hfl : floatX l m f = true) (hfm : f < m) (hN : Region.noSelect l.toArray = true) (hQp : ∀ c a d v w, Q (.panic c) (a.put d v) w → Q (.panic c) a w) (hΦf : Φ[f]? = some (MP.eq vf))
    (hfa : f ∉ al) (hal : ∀ i ∈ al, i < m ∧ ∀ o, l[i]? = some o → ∀ (a : Act) (w : World), ∃ X, (execOp a.eval o).run P w = .ok (.value (.pointer (some ⟨w.heap.size, 0, none⟩))) (w.alloc X))
    (h : ∃ A, (∀ vals, putsV l a vals l.length = A vals) ∧ StepsAll P l Φ A a w 0 (l.take m) ∧
      (∀ of, l[f]? = some of → ∀ vals w1, Hid (Below w.heap.size w w1) → (∀ e ∈ of.after, Region.binds .any e = true → (Φ.getD e.on MP.any).p (vals e.on) w1) → Yields P l.toArray of vf (A vals)) ∧
      (∀ vals w', Hid (Below w.heap.size w w') → FinAll vals w' 0 Φ → Hid (∀ j, m ≤ j → j < l.length → vals j = ownV l a j) → Hid (Apart al vals) → wpList P l.toArray Q (l.drop m) (A vals) w')) :
    (Code.region id l.toArray true).wp P Q a w := by
  obtain ⟨A, h1, h2, h3, h4⟩ := h
  exact wp_region_monoY m f vf al Φ A hm hS hl hlm hwa hfl hfm hN hQp hΦf h3 hfa hal h1 h2 h4
end
end Go.Proofs.Ytpnfopakkaoibaa

/- The document's ladder: Ladder. -/
namespace Go.Proofs.Ytpnfopakkaoibaa
open Go.RowKit
attribute [local go_sem] World.cell?_alloc_some cell_alloc2 cell_alloc3 cell_alloc4 frozen?_alloc_cells frozen_out
attribute [local simp] MP.eq_p
set_option linter.unusedSimpArgs false
theorem cfOfn (args : Array Value) (W : World) : (callFunc 29 args).run Try.prog W = .ok (.enter 29 args) W := cf_is (fn := Try.f29) (by kernel_rfl) (by decide) (by kernel_rfl) args W
theorem cfRun (args : Array Value) (W : World) : (callFunc 52 args).run Try.prog W = .ok (.enter 52 args) W := cf_is (fn := Try.f52) (by kernel_rfl) (by decide) (by kernel_rfl) args W
theorem yields_ld4 {o : Oper} {a : Act} {w : World} {k : Nat} {x : Nm} {L : List (Nat × List Value)} {i : Nat} (s : Operand) (ho : o.op = .load 28 s) (hs : a.eval s = .pointer (some ⟨k, 0, none⟩)) (h : Kn w L) (hi : L[i]? = some (k, c4 x)) : YieldsP Try.prog o a w (MP.eq (N x)).p := by
  have u0 := Kn.get h i 0 hi rfl
  have u1 := Kn.get h i 1 hi rfl
  have u2 := Kn.get h i 2 hi rfl
  have u3 := Kn.get h i 3 hi rfl
  have e : (execOp a.eval o).run Try.prog w = .ok (.value (N x)) w := by
    generalize a.eval = ev at *
    unfold execOp
    simp [ho, hs, go_sem, u0, u1, u2, u3]
  unfold YieldsP
  rw [e]
  exact ⟨rfl, Below.refl _ _⟩
theorem Kn.fresh2 {W w1 : World} {L : List (Nat × List Value)} {k j : Nat} {vs us : List Value} (h : Kn W L) (hb : Below W.heap.size W w1) (hk : W.heap.size ≤ k) (hj : W.heap.size ≤ j) (hne : k ≠ j) (bk : KBlk w1 k vs) (bj : KBlk w1 j us) : Kn w1 ((k, vs) :: (j, us) :: L) := by
  have h1 := h.fresh_of hb hj bj
  refine ⟨?_, fun p hp => ?_⟩
  · refine List.nodup_cons.2 ⟨fun hm => ?_, h1.nd⟩
    obtain ⟨p, hp, e⟩ := List.mem_map.1 hm
    rcases List.mem_cons.1 hp with rfl | hp
    · exact hne e.symm
    · have := (h.all p hp).lt
      simp only at e
      omega
  · rcases List.mem_cons.1 hp with rfl | hp
    · exact bk
    · exact h1.all p hp
set_option maxRecDepth 20000 in
set_option maxHeartbeats 2000000 in
theorem rLad_walk (k u p : Nm) (x K qx qz rx rz iv mm : Nat)
    (FD : ∀ w, Calls Try.prog 51 #[N u] w fun e w' => e = .returned (.agg (fR (x)).toArray) ∧ Below w.heap.size w w')
    (ON : Hid (∀ w, Calls Try.prog 29 #[N k] w fun e w' => (∃ v', e = .returned v' ∧ Sl w' v' (P.dg K)) ∧ Below w.heap.size w w'))
    (RG : Hid (∀ v w, Sl w v (P.dg K) → Calls Try.prog 52 #[v, .agg (fR x).toArray] w fun e w' => e = .returned (.tuple #[twV qx qz, twV rx rz]) ∧ Below w.heap.size w w'))
    (IV : ∀ w, Calls Try.prog 54 #[.agg (fR (qz)).toArray] w fun e w' => e = .returned (.agg (fR (iv)).toArray) ∧ Below w.heap.size w w')
    (MU : ∀ w, Calls Try.prog 53 #[.agg (fR (qx)).toArray, .agg (fR (iv)).toArray] w fun e w' => e = .returned (.agg (fR (mm)).toArray) ∧ Below w.heap.size w w')
    (NU : ∀ w, Calls Try.prog 55 #[.agg (fR (mm)).toArray] w fun e w' => e = .returned (N p) ∧ Below w.heap.size w w')
    (w : World) :
    Calls Try.prog 27 #[N k, N u] w fun e w' => e = .returned (N p) ∧ Below w.heap.size w w' := by
  go_enter Try.func27, Try.ntmps27
  have s0 : Hid (Kn (kz4 (kal4 (kal4 w (k)) (u))) [(w.heap.size + 1 + 1, zz4), (w.heap.size + 1, (c4 (u))), (w.heap.size, (c4 (k)))]) := ((((Kn.nil w).al (c4 (k)) 28 rfl).al (c4 (u)) 28 (by simp)).al zz4 28 (by simp))
  have b0 : Hid (Below w.heap.size w (kz4 (kal4 (kal4 w (k)) (u)))) := ((((Below.refl _ _).alloc (Nat.le_refl _) _).alloc (by simp <;> omega) _).alloc (by simp <;> omega) _)
  go_wp2_with fail
  refine (FD _).mono ?_
  rintro e w1 ⟨rfl, hb1⟩
  have s1 : Hid (Kn w1 [(w.heap.size + 1 + 1, zz4), (w.heap.size + 1, (c4 (u))), (w.heap.size, (c4 (k)))]) := s0.out.up hb1
  have b1 : Hid (Below w.heap.size w w1) := b0.out.trans (hb1.mono b0.out.size)
  have z1 := b1.out.size
  clear hb1 s0 b0
  have s2x : Hid (Kn (w1.alloc (.cells #[Value.int IntKind.i64 0, Value.int IntKind.i64 0, Value.int IntKind.i64 0, Value.int IntKind.i64 0, Value.int IntKind.i64 0, Value.int IntKind.i64 0, Value.int IntKind.i64 0, Value.int IntKind.i64 0, Value.int IntKind.i64 0, Value.int IntKind.i64 0, Value.int IntKind.i64 0, Value.int IntKind.i64 0, Value.int IntKind.i64 0, Value.int IntKind.i64 0, Value.int IntKind.i64 0, Value.int IntKind.i64 0] 70)) [(w1.heap.size, fZ), (w.heap.size + 1 + 1, zz4), (w.heap.size + 1, (c4 (u))), (w.heap.size, (c4 (k)))]) := s1.out.al fZ 70 rfl
  have b2x : Hid (Below w.heap.size w (w1.alloc (.cells #[Value.int IntKind.i64 0, Value.int IntKind.i64 0, Value.int IntKind.i64 0, Value.int IntKind.i64 0, Value.int IntKind.i64 0, Value.int IntKind.i64 0, Value.int IntKind.i64 0, Value.int IntKind.i64 0, Value.int IntKind.i64 0, Value.int IntKind.i64 0, Value.int IntKind.i64 0, Value.int IntKind.i64 0, Value.int IntKind.i64 0, Value.int IntKind.i64 0, Value.int IntKind.i64 0, Value.int IntKind.i64 0] 70))) := b1.out.alloc b1.out.size _
  have g2 : w.heap.size ≤ w1.heap.size := b1.out.size
  have TT2 : Hid ((w1.alloc (.cells #[Value.int IntKind.i64 0, Value.int IntKind.i64 0, Value.int IntKind.i64 0, Value.int IntKind.i64 0, Value.int IntKind.i64 0, Value.int IntKind.i64 0, Value.int IntKind.i64 0, Value.int IntKind.i64 0, Value.int IntKind.i64 0, Value.int IntKind.i64 0, Value.int IntKind.i64 0, Value.int IntKind.i64 0, Value.int IntKind.i64 0, Value.int IntKind.i64 0, Value.int IntKind.i64 0, Value.int IntKind.i64 0] 70)).there (w1.heap.size) 0 (fR (x)).length) := Kn.there s2x.out 0 rfl (by rw [(fR_length (x)), fZ_length])
  go_wp2_with (first | simp only [I.zero_fe] | refine I.wp_store_eq rfl 70 _ _ rfl (w1.heap.size) 0 (fR (x)) rfl rfl TT2.out (info_fR (x)) (I.one_dI _) ?_)
  intro w2 hw2
  try simp only [Act.put, List.setIfInBounds_toArray, List.set_cons_succ, List.set_cons_zero]
  have s2 : Hid (Kn w2 [(w1.heap.size, (fR (x))), (w.heap.size + 1 + 1, zz4), (w.heap.size + 1, (c4 (u))), (w.heap.size, (c4 (k)))]) := by rw [hw2.out]; exact Kn.put s2x.out (by rw [(fR_length (x)), fZ_length])
  have b2 : Hid (Below w.heap.size w w2) := by rw [hw2.out]; exact I.below_setCells _ _ _ b2x.out g2
  have z2 := b2.out.size
  clear hw2 s2x b2x TT2 s1 b1
  go_wp2_with fail
  have G2 : Hid _ := s2
  refine wp_region_monoYE 9 6 (twV rx rz) [7,8] [MP.eq (N k), MP.sl (P.dg K), MP.eq (.agg (fR x).toArray), MP.eq (.tuple #[twV qx qz, twV rx rz]), MP.eq (.tuple #[twV qx qz, twV rx rz]), MP.eq (twV qx qz), MP.eq (twV rx rz), MP.made w2.heap.size tZ, MP.made w2.heap.size tZ] (by kernel_rfl) (by kernel_rfl) rfl (by decide) (by kernel_rfl) (by kernel_rfl) (by decide) (by kernel_rfl) (fun _ _ d _ _ h => by cases d <;> exact h) rfl (by decide) ?_ ?_
  · intro i hi
    simp only [List.mem_cons, List.not_mem_nil, or_false] at hi
    rcases hi with rfl | rfl <;> exact ⟨by decide, fun o ho a9 w9 => by obtain rfl := Option.some.inj ho; exact ⟨_, run_mk rfl zero_t2 a9 w9⟩⟩
  apply Exists.intro
  refine ⟨fun vals => ?_, ?_, fun of hof vals W hW hd => ?_, fun vals3 w3 hb3 hF hO hAp => ?_⟩
  · simp only [putsV, dstL, List.length_cons, List.length_nil, Nat.zero_add, Nat.reduceAdd, List.getElem?_cons_zero, List.getElem?_cons_succ, Option.bind_some, Act.put, List.setIfInBounds_toArray, List.set_cons_succ, List.set_cons_zero]
    rfl
  · refine ⟨?_, ?_, ?_, ?_, ?_, ?_, ?_, ?_, ?_, trivial⟩
    · intro vals W hW hw hd
      try simp [Region.binds] at hd
      refine ⟨by first | rfl | simp [Region.wanted, yielded, hd], ?_⟩
      exact yields_ld4 (.tmp 2) rfl rfl (G2.out.up hW.out) (i := 3) rfl
    · intro vals W hW hw hd
      try simp [Region.binds] at hd
      refine ⟨by first | rfl | simp [Region.wanted, yielded, hd], ?_⟩
      exact yields_call1 cfOfn (.tmp 11) _ rfl (N k) (by exact hd) ((ON.out W).mono fun e w' ⟨⟨v, he, h⟩, hb⟩ => ⟨v, he, h, hb⟩)
    · intro vals W hW hw hd
      try simp [Region.binds] at hd
      refine ⟨by first | rfl | simp [Region.wanted, yielded, hd], ?_⟩
      exact I.yields_ld 70 (.tmp 5) rfl w1.heap.size 0 rfl (fR x) _ (Kn.rng (G2.out.up hW.out) 0 rfl) I.u_fe rfl (info_fR x) rfl
    · intro vals W hW hw hd
      try simp [Region.binds] at hd
      refine ⟨by first | rfl | simp [Region.wanted, yielded, hd], ?_⟩
      exact yields_call2 cfRun (.tmp 12) (.tmp 13) _ rfl _ (.agg (fR x).toArray) rfl (by exact hd.2.1) ((RG.out _ W hd.1).mono fun e w' ⟨he, hb⟩ => ⟨_, he, rfl, hb⟩)
    · intro vals W hW hw hd
      try simp [Region.binds] at hd
      refine ⟨by first | rfl | simp [Region.wanted, yielded, hd], ?_⟩
      exact yields_mv (.tmp 14) rfl (by exact hd)
    · intro vals W hW hw hd
      try simp [Region.binds] at hd
      refine ⟨by first | rfl | simp [Region.wanted, yielded, hd], ?_⟩
      exact yields_ext (.tmp 10) 0 rfl (by exact hd) rfl
    · intro vals W hW hw hd
      try simp [Region.binds] at hd
      refine ⟨by first | rfl | simp [Region.wanted, yielded, hd], ?_⟩
      exact yields_ext (.tmp 10) 1 rfl (by exact hd) rfl
    · intro vals W hW hw hd
      try simp [Region.binds] at hd
      refine ⟨by first | rfl | simp [Region.wanted, yielded, hd], ?_⟩
      exact yields_mk rfl zero_t2 hW.out.size
    · intro vals W hW hw hd
      try simp [Region.binds] at hd
      refine ⟨by first | rfl | simp [Region.wanted, yielded, hd], ?_⟩
      exact yields_mk rfl zero_t2 hW.out.size
  · obtain rfl := Option.some.inj hof
    try simp [Region.binds] at hd
    exact Or.inl ⟨by first | rfl | simp [Region.wanted, yielded, hd], fun w9 => by simp [go_sem, execOp, hd]⟩
  obtain ⟨f0, f1, f2, f3, f4, f5, f6, f7, f8, _⟩ := hF
  simp only [MP.eq_p] at f0 f2 f3 f4 f5 f6
  obtain ⟨g1, e1, hg1, bg1⟩ := f7
  obtain ⟨g2, e2, hg2, bg2⟩ := f8
  have ne : g1 ≠ g2 := fun e => hAp.out 7 (by simp) 8 (by simp) (by decide) (by rw [e1, e2, e])
  rw [f0, f2, f3, f4, f5, f6, e1, e2]
  simp only [List.drop_succ_cons, List.drop_zero]
  have s3 : Hid (Kn w3 [(g1, tZ), (g2, tZ), (w1.heap.size, fR x), (w.heap.size + 1 + 1, zz4), (w.heap.size + 1, c4 u), (w.heap.size, c4 k)]) := Kn.fresh2 s2.out hb3.out hg1 hg2 ne bg1 bg2
  have b3 : Hid (Below w.heap.size w w3) := b2.out.trans (hb3.out.mono b2.out.size)
  have gg1 : w.heap.size ≤ g1 := Nat.le_trans b2.out.size hg1
  have gg2 : w.heap.size ≤ g2 := Nat.le_trans b2.out.size hg2
  clear f0 f1 f2 f3 f4 f5 f6 e1 e2 hg1 hg2 bg1 bg2 hO hb3 s2 b2 G2 hAp ne
  have s4x : Hid (Kn w3 [(g1, tZ), (g2, tZ), (w1.heap.size, (fR (x))), (w.heap.size + 1 + 1, zz4), (w.heap.size + 1, (c4 (u))), (w.heap.size, (c4 (k)))]) := s3.out.front 0 rfl
  have b4x : Hid (Below w.heap.size w w3) := b3.out
  have TT4 : Hid (w3.there g1 0 (twR (qx) (qz)).length) := Kn.there s4x.out 0 rfl (by rw [(twR_length (qx) (qz)), tZ_length])
  go_wp2_with (first | refine I.wp_store_eq rfl 72 _ _ rfl g1 0 (twR (qx) (qz)) rfl rfl TT4.out (info_twR (qx) (qz)) (twR_one (qx) (qz)) ?_)
  intro w4 hw4
  try simp only [Act.put, List.setIfInBounds_toArray, List.set_cons_succ, List.set_cons_zero]
  have s4 : Hid (Kn w4 [(g1, (twR (qx) (qz))), (g2, tZ), (w1.heap.size, (fR (x))), (w.heap.size + 1 + 1, zz4), (w.heap.size + 1, (c4 (u))), (w.heap.size, (c4 (k)))]) := by rw [hw4.out]; exact Kn.put s4x.out (by rw [(twR_length (qx) (qz)), tZ_length])
  have b4 : Hid (Below w.heap.size w w4) := by rw [hw4.out]; exact I.below_setCells _ _ _ b4x.out (by omega)
  have z4 := b4.out.size
  clear hw4 s4x b4x TT4 s3 b3
  have s5x : Hid (Kn w4 [(g2, tZ), (g1, (twR (qx) (qz))), (w1.heap.size, (fR (x))), (w.heap.size + 1 + 1, zz4), (w.heap.size + 1, (c4 (u))), (w.heap.size, (c4 (k)))]) := s4.out.front 1 rfl
  have b5x : Hid (Below w.heap.size w w4) := b4.out
  have TT5 : Hid (w4.there g2 0 (twR (rx) (rz)).length) := Kn.there s5x.out 0 rfl (by rw [(twR_length (rx) (rz)), tZ_length])
  go_wp2_with (first | refine I.wp_store_eq rfl 72 _ _ rfl g2 0 (twR (rx) (rz)) rfl rfl TT5.out (info_twR (rx) (rz)) (twR_one (rx) (rz)) ?_)
  intro w5 hw5
  try simp only [Act.put, List.setIfInBounds_toArray, List.set_cons_succ, List.set_cons_zero]
  have s5 : Hid (Kn w5 [(g2, (twR (rx) (rz))), (g1, (twR (qx) (qz))), (w1.heap.size, (fR (x))), (w.heap.size + 1 + 1, zz4), (w.heap.size + 1, (c4 (u))), (w.heap.size, (c4 (k)))]) := by rw [hw5.out]; exact Kn.put s5x.out (by rw [(twR_length (rx) (rz)), tZ_length])
  have b5 : Hid (Below w.heap.size w w5) := by rw [hw5.out]; exact I.below_setCells _ _ _ b5x.out (by omega)
  have z5 := b5.out.size
  clear hw5 s5x b5x TT5 s4 b4
  go_wp2_with fail
  refine wp_region_up_then 7 (by kernel_rfl) (by kernel_rfl) (by kernel_rfl) (by kernel_rfl) (by decide) (fun _ _ d _ _ h => by cases d <;> exact h) (fun U hU f hf hcl => ?_)
  have ra_q_0 := fun nx => (Kn.rng (s5.out.up (hf nx).out) 1 rfl : (f nx).rangeAt g1 0 (twR (qx) (qz)))
  have ra_q_1 := fun nx => (Kn.tng0 (s5.out.up (hf nx).out) 1 rfl : (f nx).rangeAt g1 0 (fR (qx)))
  have ra_q_2 := fun nx => (Kn.tng1 (s5.out.up (hf nx).out) 1 rfl : (f nx).rangeAt g1 16 (fR (qz)))
  simp only [List.take_succ_cons, List.take_zero, List.drop_succ_cons, List.drop_zero]
  repeat (first | (refine I.quiet_load rfl 72 _ rfl g1 0 rfl (twR (qx) (qz)) _ (fun W hW => by obtain ⟨nx, rfl⟩ := hW; exact ra_q_0 nx) Try.underlying72 rfl (info_twR (qx) (qz)) ?_; simp only [Act.put, List.setIfInBounds_toArray, List.set_cons_succ, List.set_cons_zero]) | (refine I.quiet_load rfl 70 _ rfl g1 0 rfl (fR (qx)) _ (fun W hW => by obtain ⟨nx, rfl⟩ := hW; exact ra_q_1 nx) Try.underlying70 rfl (info_fR (qx)) ?_; simp only [Act.put, List.setIfInBounds_toArray, List.set_cons_succ, List.set_cons_zero]) | (refine I.quiet_load rfl 70 _ rfl g1 16 rfl (fR (qz)) _ (fun W hW => by obtain ⟨nx, rfl⟩ := hW; exact ra_q_2 nx) Try.underlying70 rfl (info_fR (qz)) ?_; simp only [Act.put, List.setIfInBounds_toArray, List.set_cons_succ, List.set_cons_zero]) | go_big_quiet_step (first | (go_at_call 54; exact (IV _).mono fun e w'' ⟨he, hb⟩ => ⟨he, hcl.out _ _ hb⟩) | (go_at_call 53; exact (MU _).mono fun e w'' ⟨he, hb⟩ => ⟨he, hcl.out _ _ hb⟩) | (go_at_call 55; exact (NU _).mono fun e w'' ⟨he, hb⟩ => ⟨he, hcl.out _ _ hb⟩)))
  refine wpQuiet_nil ?_
  intro nx
  have hb6 := (hf nx).out
  clear hf hcl
  generalize f nx = w6 at hb6 ⊢
  have s6 : Hid (Kn w6 [(g2, (twR (rx) (rz))), (g1, (twR (qx) (qz))), (w1.heap.size, (fR (x))), (w.heap.size + 1 + 1, zz4), (w.heap.size + 1, (c4 (u))), (w.heap.size, (c4 (k)))]) := s5.out.up hb6
  have b6 : Hid (Below w.heap.size w w6) := b5.out.trans (hb6.mono b5.out.size)
  have z6 := b6.out.size
  clear hb6 s5 b5
  have uro_0 : w6.cell? ⟨w.heap.size + 1 + 1, 0, none⟩ = some (.int .u64 0) := Kn.get s6.out 3 0 rfl rfl
  have uro_1 : w6.cell? ⟨w.heap.size + 1 + 1, 1, none⟩ = some (.int .u64 0) := Kn.get s6.out 3 1 rfl rfl
  have uro_2 : w6.cell? ⟨w.heap.size + 1 + 1, 2, none⟩ = some (.int .u64 0) := Kn.get s6.out 3 2 rfl rfl
  have uro_3 : w6.cell? ⟨w.heap.size + 1 + 1, 3, none⟩ = some (.int .u64 0) := Kn.get s6.out 3 3 rfl rfl
  have uro_z : ∀ j, w6.frozen? ⟨w.heap.size + 1 + 1, j, none⟩ = false := Kn.fz s6.out 3 rfl
  have s7 : Hid (Kn (st4 w6 (w.heap.size + 1 + 1) (p)) [(w.heap.size + 1 + 1, (c4 (p))), (g2, (twR (rx) (rz))), (g1, (twR (qx) (qz))), (w1.heap.size, (fR (x))), (w.heap.size + 1, (c4 (u))), (w.heap.size, (c4 (k)))]) := Kn.st4 (L := [(g2, (twR (rx) (rz))), (g1, (twR (qx) (qz))), (w1.heap.size, (fR (x))), (w.heap.size + 1, (c4 (u))), (w.heap.size, (c4 (k)))]) (s6.out.front 3 rfl) (p)
  have b7 : Hid (Below w.heap.size w (st4 w6 (w.heap.size + 1 + 1) (p))) := below_st4 b6.out (by omega)
  clear s6 b6
  go_wp2_with fail
  clear uro_0 uro_1 uro_2 uro_3 uro_z
  have urr_0 : (st4 w6 (w.heap.size + 1 + 1) (p)).cell? ⟨w.heap.size + 1 + 1, 0, none⟩ = some (.int .u64 (p).a) := Kn.get s7.out 0 0 rfl rfl
  have urr_1 : (st4 w6 (w.heap.size + 1 + 1) (p)).cell? ⟨w.heap.size + 1 + 1, 1, none⟩ = some (.int .u64 (p).b) := Kn.get s7.out 0 1 rfl rfl
  have urr_2 : (st4 w6 (w.heap.size + 1 + 1) (p)).cell? ⟨w.heap.size + 1 + 1, 2, none⟩ = some (.int .u64 (p).c) := Kn.get s7.out 0 2 rfl rfl
  have urr_3 : (st4 w6 (w.heap.size + 1 + 1) (p)).cell? ⟨w.heap.size + 1 + 1, 3, none⟩ = some (.int .u64 (p).d) := Kn.get s7.out 0 3 rfl rfl
  refine bodyPost_ret (v := N p) ?_ rfl ⟨rfl, b7.out⟩
  show (results Try.f27 _).run Try.prog (st4 w6 (w.heap.size + 1 + 1) (p)) = .ok _ (st4 w6 (w.heap.size + 1 + 1) (p))
  clear s7 b7
  generalize (st4 w6 (w.heap.size + 1 + 1) (p)) = W9 at *
  simp [results, Try.results27, go_sem, urr_0, urr_1, urr_2, urr_3]
theorem rLad_fun (k u : Nm) (ok : k.ok) (ou : u.ok) (w : World) : Calls Try.prog 27 #[N k, N u] w fun e w' => e = .returned (N (nm (Cv.lad k.nat u.nat))) ∧ Below w.heap.size w w' := by
  have lk := Nm.nat_lt ok
  have hu := F.mod_lt u.nat
  have lt := Cv.rg_lt hu 256 k.nat
  rw [Cv.lad_rg k.nat u.nat lk]
  exact rLad_walk k u _ (u.nat % F.p) k.nat _ _ _ _ _ _ (I.field_fe u ou) (ofNum_fun k ok) (fun v w s => rungs_n hu k.nat lk v w s) (I.over_fe _ lt.1.2) (I.by_fe _ _ lt.1.1 (F.inv_lt _)) (I.num_fe _ (F.mul_lt _ _)) w
end Go.Proofs.Ytpnfopakkaoibaa
