/- Texts that were joined: UpS, FeL, FeA, FeM, FeN, FeP, BsMk, ShA. -/
import Derived.Test.YtdcpicbkemmakaaQUpMToScOf
import Derived.Test.YtdcpicbkemmakaaQFMathToIB
import Derived.Laws.IdiomCopy
import Derived.Deep.LoopGhost
import Derived.Test.YtdcpicbkemmakaaQDNumToSNum
import Derived.Test.YtdcpicbkemmakaaQDMinus
import Derived.Test.YtdcpicbkemmakaaQMulWToNmN
import Derived.Test.YtdcpicbkemmakaaQStoreToKn
import Derived.Test.YtdcpicbkemmakaaQDRestToDPow
import Derived.Test.YtdcpicbkemmakaaQBKToHCut
import Derived.Deep.RegionLaw
import Derived.Test.YtdcpicbkemmakaaQYcToShR
import Derived.Test.YtdcpicbkemmakaaQOwnToShW
import Derived.Test.YtdcpicbkemmakaaQUpVToOfB
/- A drawn region whose operations each yield a value with a property that stays, and whose last ones wait for all others, by whatever chain, and come one by one. -/
namespace Go.Proofs.Ytdcpicbkemmakaa
open Go.RowKit
section
variable {P : Program}
/-- Does k wait for i, by a chain? -/
def waitsC (l : List Oper) : Nat → Nat → Nat → Bool
  | 0, _, _ => false
  | f + 1, k, i => match l[k]? with
    | some o => o.after.any fun e => Region.binds .any e && ((e.on == i) || waitsC l f e.on i)
    | none => false
theorem waitsC_out {l : List Oper} {U : List Nat} (hcl : ∀ j o, l[j]? = some o → j ∉ U → ∀ e ∈ o.after, Region.binds .any e = true → e.on ∉ U) : ∀ (f k i : Nat), (∀ o, l[k]? = some o → ∀ e ∈ o.after, Region.binds .any e = true → e.on ∉ U) → waitsC l f k i = true → i ∉ U
  | 0, _, _, _, h => by simp [waitsC] at h
  | f + 1, k, i, hk, h => by
    unfold waitsC at h
    cases ho : l[k]? with
    | none => simp [ho] at h
    | some o =>
      simp only [ho] at h
      obtain ⟨e, he, hb⟩ := Array.any_eq_true'.1 h
      simp only [Bool.and_eq_true, Bool.or_eq_true, beq_iff_eq] at hb
      have h1 := hk o ho e he hb.1
      rcases hb.2 with h2 | h2
      · rw [← h2]; exact h1
      · exact waitsC_out hcl f e.on i (fun o' ho' => hcl e.on o' ho' h1) h2
/-- What is asked of the late ones: the first of them waits for all early ones, the others for a late one. -/
def lateB (l : List Oper) (m : Nat) : Bool :=
  ((List.range m).all fun i => waitsC l 16 m i) && ((List.range l.length).all fun k => decide (k ≤ m) || (match l[k]? with | some o => o.after.any fun e => Region.binds .any e && decide (m ≤ e.on) | none => true)) &&
  seqFrom .any l.toArray (l.length - m) m ((List.range l.length).map fun i => decide (i < m)).toArray
theorem wp_region_monoS {id : Nat} {Q : Exit → Act → World → Prop} {a : Act} {w : World} {l : List Oper} (m : Nat) (Φ : List MP) (A : (Nat → Value) → Act) (hm : P.follows .mixedOrders = true) (hS : monoB l = true) (hl : Φ.length = m) (hlm : m < l.length) (hwa : lateB l m = true)
    (hA : ∀ vals, putsV l a vals l.length = A vals) (hst : StepsAll P l Φ A a w 0 (l.take m))
    (hlast : ∀ vals w', Hid (Below w.heap.size w w') → FinAll vals w' 0 Φ → Hid (∀ j, m ≤ j → j < l.length → vals j = ownV l a j) → wpList P l.toArray Q (l.drop m) (A vals) w') :
    (Code.region id l.toArray true).wp P Q a w := by
  simp only [lateB, Bool.and_eq_true, List.all_eq_true, List.mem_range] at hwa
  obtain ⟨⟨hw1, hw2⟩, hseq⟩ := hwa
  refine wp_region_any hm ?_
  simp only [monoB, List.all_eq_true, List.mem_range] at hS
  have hback : ∀ k o, l[k]? = some o → ∀ e ∈ o.after, Region.binds .any e = true → e.on < k := by
    intro k o ho e he hb
    have hlt : k < l.length := (List.getElem?_eq_some_iff.1 ho).1
    have := hS k hlt
    simp only [ho, Bool.and_eq_true, Array.all_eq_true_iff_forall_mem] at this
    simpa [hb] using this.1 e he
  have hdst : ∀ i j, i < j → j < l.length → ∀ d, dstL l i = some d → dstL l j ≠ some d := by
    intro i j hij hj d hd e
    have hlt : i < l.length := by omega
    have ho : l[i]? = some l[i] := List.getElem?_eq_getElem hlt
    have := hS i hlt
    simp only [ho, Bool.and_eq_true, List.all_eq_true, List.mem_range] at this
    have := this.2 j hj
    have hd' : l[i].dst = some d := by simpa [dstL, ho] using hd
    rw [hd', e] at this
    simp at this
    omega
  have core : ∀ (fuel : Nat) (U : List Nat) (listed : Array Bool) (vals : Nat → Value) (w1 : World), U.length ≤ fuel → listed.size = l.length → (∀ i, i < l.length → listed[i]? = some (decide (i ∉ U))) → (∀ i ∈ U, i < l.length) → U.Nodup → (∀ j, m ≤ j → j < l.length → j ∈ U) →
      (∀ i, i < m → i ∉ U → (Φ.getD i MP.any).p (vals i) w1) → (∀ i ∈ U, vals i = ownV l a i) → (∀ j o, l[j]? = some o → j ∉ U → ∀ e ∈ o.after, Region.binds .any e = true → e.on ∉ U) → Below w.heap.size w w1 → wpAny P .any l.toArray Q fuel listed (putsV l a vals l.length) w1 := by
    have done : ∀ (fuel : Nat) (U : List Nat) (listed : Array Bool) (vals : Nat → Value) (w1 : World), U.length ≤ fuel → listed.size = l.length → (∀ i, i < l.length → listed[i]? = some (decide (i ∉ U))) → U.Nodup → (∀ i ∈ U, i < l.length) → (∀ j, m ≤ j → j < l.length → j ∈ U) → (∀ j, j < m → j ∉ U) →
        (∀ i, i < m → i ∉ U → (Φ.getD i MP.any).p (vals i) w1) → (∀ i ∈ U, vals i = ownV l a i) → Below w.heap.size w w1 → wpAny P .any l.toArray Q fuel listed (putsV l a vals l.length) w1 := by
      intro fuel U listed vals w1 hU hs hl' hnd hin hmU hno hall hown hb
      have e1 : listed = ((List.range l.length).map fun i => decide (i < m)).toArray := by
        apply Array.ext_getElem?
        intro q
        rcases Nat.lt_or_ge q l.length with hq | hq
        · rw [hl' q hq]
          by_cases hqm : q < m
          · simp [hq, hqm, hno q hqm]
          · simp [hq, hqm, hmU q (by omega) hq]
        · rw [Array.getElem?_eq_none (by omega), Array.getElem?_eq_none (by simp; omega)]
      have hlen : l.length - m ≤ U.length := by
        have hsub : ∀ j ∈ List.range' m (l.length - m), j ∈ U := fun j hj => by
          have := List.mem_range'_1.1 hj
          exact hmU _ (by omega) (by omega)
        have := (List.nodup_range' (s := m) (n := l.length - m)).length_le_of_subset hsub
        simpa using this
      have h1 := hlast vals w1 hb (FinAll.of 0 Φ fun j hj => by rw [Nat.zero_add]; exact hall j (by omega) (hno j (by omega))) (fun j h1 h2 => hown j (hmU j h1 h2) : ∀ j, m ≤ j → j < l.length → vals j = ownV l a j)
      rw [← hA] at h1
      have := wpAny_seq (P := P) (ops := l.toArray) (md := .any) (Q := Q) (fuel - (l.length - m)) (l.drop m) m listed (putsV l a vals l.length) w1 (fun j => by simp) (by rw [e1]; simpa using hseq) h1
      have ef : fuel - (l.length - m) + (l.drop m).length = fuel := by simp; omega
      rw [ef] at this
      exact this
    intro fuel
    induction fuel with
    | zero =>
      intro U listed vals w1 hU hs hl' hin hnd hmU hall hown hcl hb
      have : U = [] := List.length_eq_zero_iff.1 (by omega)
      subst this
      exact absurd (hmU m (Nat.le_refl _) hlm) (by simp)
    | succ fuel ih =>
      intro U listed vals w1 hU hs hl' hin hnd hmU hall hown hcl hb
      by_cases hno : ∀ j, j < m → j ∉ U
      · exact done _ U listed vals w1 hU hs hl' hnd hin hmU hno hall hown hb
      refine ⟨fun h0 => ?_, fun i hi => ?_⟩
      · have : U = [] := by
          refine Classical.byContradiction fun hne => ?_
          obtain ⟨i0, hi0⟩ := List.exists_mem_of_ne_nil _ hne
          obtain ⟨i, hi, hmin⟩ : ∃ i, i ∈ U ∧ ∀ j, j < i → j ∉ U := by
            induction i0 using Nat.strongRecOn with
            | _ j ihj =>
              by_cases hex : ∃ q, q < j ∧ q ∈ U
              · obtain ⟨q, hq, hqU⟩ := hex
                exact ihj q hq hqU
              · exact ⟨j, hi0, fun q hq hqU => hex ⟨q, hq, hqU⟩⟩
          have hlt := hin i hi
          have : i ∈ Region.ready .any l.toArray listed := by
            rw [mem_ready]
            refine ⟨by simp [hl' i hlt, hi], l[i], by simp [hlt], fun e he hbi => ?_⟩
            have hon := hback i l[i] (List.getElem?_eq_getElem hlt) e he hbi
            simp [hl' e.on (by omega), hmin e.on hon]
          rw [h0] at this
          cases this
        subst this
        exact absurd (hmU m (Nat.le_refl _) hlm) (by simp)
      · obtain ⟨hun, o, ho, hdep⟩ := mem_ready.1 hi
        have hlt : i < l.length := by simpa using (Array.getElem?_eq_some_iff.1 ho).1
        have ho' : l[i]? = some o := by simpa using ho
        have hiU : i ∈ U := by
          refine Classical.byContradiction fun hn => ?_
          simp [hl' i hlt, hn] at hun
        have hall' : ∀ e ∈ o.after, Region.binds .any e = true → e.on ∉ U := fun e he hbi hmm => by
          have hon := hback i o ho' e he hbi
          have h1 := hdep e he hbi
          simp [hl' e.on (by omega), hmm] at h1
        have him' : i < m := by
          refine Classical.byContradiction fun hge => ?_
          rcases Nat.lt_or_ge m i with h1 | h1
          · have h2 := hw2 i hlt
            rw [decide_eq_false (by omega), Bool.false_or] at h2
            simp only [ho'] at h2
            obtain ⟨e, he, hb'⟩ := Array.any_eq_true'.1 h2
            simp only [Bool.and_eq_true, decide_eq_true_eq] at hb'
            have hon := hback i o ho' e he hb'.1
            exact hall' e he hb'.1 (hmU e.on hb'.2 (by omega))
          · obtain rfl : i = m := by omega
            refine hno fun j hj => waitsC_out hcl 16 i j (fun o2 ho2 => ?_) (hw1 j hj)
            rw [ho'] at ho2
            cases ho2
            exact hall'
        have st := StepsAll.at 0 (l.take m) hst i o (by rw [List.getElem?_take, if_pos him']; exact ho') vals w1 hb (show ∀ j, waitsOn l j (0 + i) = true → vals j = ownV l a j from fun j hj => by
          rw [Nat.zero_add] at hj
          unfold waitsOn at hj
          cases hoj : l[j]? with
          | none => simp [hoj] at hj
          | some oj =>
            simp only [hoj] at hj
            obtain ⟨e, he, hb'⟩ := Array.any_eq_true'.1 hj
            simp only [Bool.and_eq_true, beq_iff_eq] at hb'
            refine hown j (Classical.byContradiction fun hn => ?_)
            exact hcl j oj hoj hn e he hb'.1 (by rw [hb'.2]; exact hiU)) (fun e he hbi => by
          have hon := hback i o ho' e he hbi
          have h1 := hdep e he hbi
          refine hall e.on (by omega) fun hmU => ?_
          simp [hl' e.on (by omega), hmU] at h1)
        rw [Nat.zero_add, ← hA] at st
        unfold wpOp
        simp only [ho]
        rw [if_pos st.1]
        refine .inl (st.2.wp fun v w2 hv hb2 => ?_)
        have hd : o.dst = dstL l i := by simp [dstL, ho']
        rw [hd, putsV_upd l.length hlt (fun j h1 h2 d => hdst i j h1 h2 d)]
        have hlen : (U.erase i).length + 1 = U.length := by
          rw [List.length_erase_of_mem hiU]
          have := List.length_pos_of_mem hiU
          omega
        refine ih (U.erase i) _ _ w2 (by omega) (by simp [hs]) (fun j hj => ?_) (fun j hj => hin j (List.mem_of_mem_erase hj)) (hnd.erase i) (fun j h1 h2 => (List.mem_erase_of_ne (by omega)).2 (hmU j h1 h2)) (fun j hj hjn => ?_) (fun j hj => ?_) (fun j oj hoj hjn e he hbi hmm => ?_) (hb.trans (hb2.mono hb.size))
        · rw [Array.getElem?_setIfInBounds]
          by_cases e : i = j
          · subst e
            have : i ∉ U.erase i := fun hm => (List.Nodup.mem_erase_iff hnd).1 hm |>.1 rfl
            simp [this, hs, hlt]
          · rw [if_neg e, hl' j hj]
            simp [List.mem_erase_of_ne (Ne.symm e)]
        · by_cases e : j = i
          · subst e
            unfold updV
            rw [if_pos rfl]
            exact hv
          · unfold updV
            rw [if_neg e]
            exact (Φ.getD j MP.any).up (hall j hj fun hm => hjn ((List.mem_erase_of_ne e).2 hm)) hb2
        · have hne : j ≠ i := fun e => by
            subst e
            exact (List.Nodup.mem_erase_iff hnd).1 hj |>.1 rfl
          unfold updV
          rw [if_neg hne]
          exact hown j (List.mem_of_mem_erase hj)
        · have hmU := List.mem_of_mem_erase hmm
          by_cases e' : j = i
          · subst e'
            rw [ho'] at hoj
            cases hoj
            have h1 := hdep e he hbi
            have hon := hback j o ho' e he hbi
            simp [hl' e.on (by omega), hmU] at h1
          · exact hcl j oj hoj (fun hm => hjn ((List.mem_erase_of_ne e').2 hm)) e he hbi hmU
  have key := core l.length (List.range l.length) (Array.replicate l.length false) (ownV l a) { w with drawn := w.drawn + 1 } (by simp) (by simp) (fun i hi => by simp [hi]) (fun i hi => List.mem_range.1 hi) List.nodup_range (fun j _ h2 => List.mem_range.2 h2) (fun i hi hn => absurd (List.mem_range.2 (by omega)) hn) (fun _ _ => rfl) (fun j o hoj hn => absurd (List.mem_range.2 (List.getElem?_eq_some_iff.1 hoj).1) hn) ((Below.refl _ _).drew)
  rw [putsV_own] at key
  simpa using key
theorem wp_region_monoSE {id : Nat} {Q : Exit → Act → World → Prop} {a : Act} {w : World} {l : List Oper} (m : Nat) (Φ : List MP) (hm : P.follows .mixedOrders = true) (hS : monoB l = true) (hl : Φ.length = m) (hlm : m < l.length) (hwa : lateB l m = true)
    (h : ∃ A, (∀ vals, putsV l a vals l.length = A vals) ∧ StepsAll P l Φ A a w 0 (l.take m) ∧
      (∀ vals w', Hid (Below w.heap.size w w') → FinAll vals w' 0 Φ → Hid (∀ j, m ≤ j → j < l.length → vals j = ownV l a j) → wpList P l.toArray Q (l.drop m) (A vals) w')) :
    (Code.region id l.toArray true).wp P Q a w := by
  obtain ⟨A, h1, h2, h3⟩ := h
  exact wp_region_monoS m Φ A hm hS hl hlm hwa h1 h2 h3
end
end Go.Proofs.Ytdcpicbkemmakaa

/- The contract of sealringref.least: digits with carries, brought below the modulus. -/
namespace Go.Proofs.Ytdcpicbkemmakaa.I
open Go.RowKit
set_option linter.unusedSimpArgs false
/-- What lies there when j digits of a round are done. -/
def mid (g d : Nat → Nat) (j : Nat) : Nat → Nat := fun i => if i < j then d i else if i = 16 then 0 else g i
theorem Ar.front {w : World} {k n m : Nat} {f : Nat → Nat} (h : Ar w k n f) (hm : m ≤ n) : w.rangeAt k 0 ((row m f).map dI) := fun j v hj => by
  rw [Nat.zero_add]
  refine h.cell j v ?_
  by_cases h1 : j < m
  · have h2 : j < n := by omega
    simp [row, h1, h2] at hj ⊢
    exact hj
  · simp [row, h1] at hj
/-- What lies there when j digits of a difference are done. -/
def less (f : Nat → Nat) (j : Nat) : Nat → Nat := fun i => if i < j then f i else 0
end Go.Proofs.Ytdcpicbkemmakaa.I

/- The contracts of sealringref's Fe.Plus and Fe.Less. -/
namespace Go.Proofs.Ytdcpicbkemmakaa.I
open Go.RowKit
set_option linter.unusedSimpArgs false
attribute [local go_sem] YieldsP execOp
attribute [local simp] MP.eq_p
end Go.Proofs.Ytdcpicbkemmakaa.I

/- The contract of sealringref's Fe.By: the product. -/
namespace Go.Proofs.Ytdcpicbkemmakaa.I
open Go.RowKit
set_option linter.unusedSimpArgs false
attribute [local go_sem] YieldsP execOp
attribute [local simp] MP.eq_p
end Go.Proofs.Ytdcpicbkemmakaa.I

/- The contracts of sealringref's small, feOf, Modulus, Field and Fe.Num. -/
namespace Go.Proofs.Ytdcpicbkemmakaa.I
open Go.RowKit
set_option linter.unusedSimpArgs false
attribute [local go_sem] World.cell?_alloc_some frozen?_alloc_cells frozen_out
theorem Ar.sl {w : World} {k n : Nat} {f : Nat → Nat} (h : Ar w k n f) : Sl w (.slice (some ⟨k, 0, none⟩) n n) (row n f) := by
  refine .inr ⟨k, 0, n, by rw [row_length], by rw [row_length]; exact Nat.le_refl _, fun j hj => ?_⟩
  rw [row_length] at hj
  rw [Nat.zero_add, Ar.at h hj]
  simp [row, hj]
end Go.Proofs.Ytdcpicbkemmakaa.I

/- The contracts of sealringref's Fe.To and Fe.Over: powers, one over it. -/
namespace Go.Proofs.Ytdcpicbkemmakaa.I
open Go.RowKit
set_option linter.unusedSimpArgs false
attribute [local go_sem] YieldsP execOp
attribute [local simp] MP.eq_p
/-- Ints that are only read: block g. -/
structure Rd (w : World) (g n : Nat) (f : Nat → Nat) : Prop where
  lt : g < w.heap.size
  cell : ∀ j, j < n → w.cell? ⟨g, j, none⟩ = some (dI (f j))
theorem Rd.up {W w1 : World} {g n B : Nat} {f : Nat → Nat} (h : Rd W g n f) (hb : Below B W w1) (hB : g < B) : Rd w1 g n f :=
  ⟨Nat.lt_of_lt_of_le h.lt hb.size, fun j hj => (hb.cell (p := ⟨g, j, none⟩) hB).trans (h.cell j hj)⟩
theorem Rd.apart {w : World} {g n k o : Nat} {f : Nat → Nat} {vs : List Value} (h : Rd w g n f) (hk : g ≠ k) : Rd (w.setCells k o vs) g n f :=
  ⟨by rw [size_setCells]; exact h.lt, fun j hj => by
    rw [World.cell?_setCells_out k vs o w ⟨g, j, none⟩ (fun e _ => absurd e hk)]; exact h.cell j hj⟩
theorem yields_ld {o : Oper} {a : Act} {w : World} {φ : Value → World → Prop} (ty : TypeId) (x : Operand) (ho : o.op = .load ty x) (b f : Nat) (hx : a.eval x = .pointer (some ⟨b, f, none⟩)) (cs : List Value) (d : TypeDesc) (hc : w.rangeAt b f cs) (hu : Try.prog.underlying ty = some d) (hd : d.isRow = true) (hi : (Try.prog.info? ty).map (·.size) = some cs.length)
    (h : φ (.agg cs.toArray) w) : YieldsP Try.prog o a w φ := by
  have e : (execOp a.eval o).run Try.prog w = .ok (.value (.agg cs.toArray)) w := by
    unfold execOp
    simp only [ho, hx, Instr.loadAt, Instr.sureAddr, Sem.run_bind, Sem.run_pure, Result.andThen_ok, run_loadVar_mid w b f ty cs d hc hu hd hi]
  unfold YieldsP
  rw [e]
  exact ⟨h, Below.refl _ _⟩
end Go.Proofs.Ytdcpicbkemmakaa.I

/- Rows of bytes that a call makes by make: their cells, and a store into one. -/
namespace Go.Proofs.Ytdcpicbkemmakaa
open Go.RowKit
theorem Ob.cell {w : World} {B g n c : Nat} {xs : List Nat} (h : Ob w B (.slice (some ⟨g, 0, none⟩) n c) xs) (hn : n = xs.length) (j : Nat) (hj : j < xs.length) : w.cell? ⟨g, j, none⟩ = some (.int .u8 ((xs.getD j 0 : Nat) : Int)) ∧ w.frozen? ⟨g, j, none⟩ = false := by
  subst hn
  have h2 : w.ownsRow B 5 1 (.slice (some ⟨g, 0, none⟩) xs.length c) xs.length (xs.map b8) := h
  refine ⟨?_, h2.frozenAt j⟩
  rw [h2.cellAt j (by omega)]
  simp [hj, b8]
end Go.Proofs.Ytdcpicbkemmakaa

/- The document's value of the polynomial through shares. -/
namespace Go.Proofs.Ytdcpicbkemmakaa
open Go.RowKit
attribute [local go_sem] World.cell?_alloc_some cell_alloc2 cell_alloc3 cell_alloc4 frozen?_alloc_cells frozen_out
attribute [local go_sem] YieldsP execOp
attribute [local simp] MP.eq_p MP.sl_p
set_option linter.unusedSimpArgs false
theorem uSl2 : Try.prog.underlying 46 = some (.slice 37) := by kernel_rfl
theorem iIntsl : (Try.prog.info? 37).map (fun i => (i.zero, i.size, i.bytes)) = some (some (Value.slice none 0 0), 1, 24) := by kernel_rfl
theorem made_sls (n : Nat) : (madeCells (Value.slice none 0 0).cells (n * 1)).toList = List.replicate n (Value.slice none 0 0) := by
  refine List.ext_getElem (by simp [madeCells]) fun i h1 h2 => ?_
  simp [madeCells, Value.cells, Nat.mod_one]
theorem wp_mkSl {ops : Array Oper} {rest : List Oper} {o : Oper} {a : Act} {Q : Exit → Act → World → Prop} {w : World} (hg : o.guard = none) (l c : Operand) (hop : o.op = Op.makeSlice 46 l c)
    (n : Nat) (L : Int) (hl : a.eval l = .int .i64 L) (hc : a.eval c = .int .i64 L) (hL : L = (n : Int)) (hn : n ≤ 65536)
    (h : ∀ w', KBlk w' w.heap.size (List.replicate n (Value.slice none 0 0)) → Below w.heap.size w w' → wpList Try.prog ops Q rest (a.put o.dst (.slice (some ⟨w.heap.size, 0, none⟩) n n)) w') : wpList Try.prog ops Q (o :: rest) a w := by
  obtain ⟨i0, hi, hz0, hz1, hz2⟩ := info_parts iIntsl
  refine wpList_make_full w hg l c 46 hop w.heap.size 37 i0 (Value.slice none 0 0) 1 uSl2 hi hz0 hz1 .i64 .i64 L L n hl hc hL hL (by rw [hz2]; omega) (by unfold maxLen; omega) (Nat.le_refl _) ?_
  intro w' r1 r2
  refine h w' ?_ (Below.grown (Below.refl _ _) r2 (Nat.le_refl _) (fun k hk => by cases hk))
  rcases r1.2 with ⟨e, _⟩ | ⟨g, cap, cur, e, _, hgg, _, _, hsz, htk⟩
  · cases e
  · cases e
    have e2 : cur.toList = List.replicate n (Value.slice none 0 0) := by
      rw [List.take_of_length_le (by rw [Array.length_toList, hsz]; omega)] at htk
      rw [htk, made_sls]
    refine KBlk.of (t := 37) ?_
    rw [← e2]
    exact hgg
end Go.Proofs.Ytdcpicbkemmakaa
