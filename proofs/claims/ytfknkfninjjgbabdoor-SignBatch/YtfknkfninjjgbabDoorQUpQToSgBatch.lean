/- Texts that were joined: UpQ, SgW, SgBatch. -/
import Derived.Test.YtfknkfninjjgbabDoorQHLaidToSDig
import Derived.Test.YtfknkfninjjgbabDoorQUpMToSBy
import Derived.OrdersHeld
import Derived.Test.YtfknkfninjjgbabDoorQYoToSgAlone
import Derived.Test.YtfknkfninjjgbabDoorQSgSToSgK
/- A drawn region: some operations are taken first (they yield their value in every world that keeps a condition), the others come one by one, and each keeps the condition. Over any program. -/
namespace Go.Proofs.YtfknkfninjjgbabDoor
open Go.RowKit
section
variable {P : Program} {ops : Array Oper} {Q : Exit → Act → World → Prop} {S : World → Prop}
/-- Another end, of the normal way alone. -/
def upN (Q : Exit → Act → World → Prop) (K : Act → World → Prop) : Exit → Act → World → Prop
  | .normal, a, w => K a w
  | e, a, w => Q e a w
/-- Operations one by one, each keeping the condition. -/
def PathH (P : Program) (ops : Array Oper) (Q : Exit → Act → World → Prop) (S : World → Prop) : List Oper → Act → World → Prop
  | [], a, w => Q .normal a w
  | o :: r, a, w => wpList P ops (upN Q fun a' w' => S w' ∧ PathH P ops Q S r a' w') [o] a w
theorem wpOp_of_list {i : Nat} {o : Oper} {a : Act} {w : World} {K : Act → World → Prop} (hi : ops[i]? = some o) (h : wpList P ops (upN Q K) [o] a w) : wpOp P ops Q i K a w := by
  unfold wpOp
  simp only [hi]
  unfold wpList at h
  split
  · rename_i hw
    rw [if_pos hw] at h
    rcases h with h | ⟨h1, h2⟩
    · refine .inl ?_
      unfold Oper.wp at h ⊢
      generalize (execOp a.eval o).run P w = r at *
      cases r with
      | ok n w' =>
        cases n <;> simp only [Oper.upon] at h ⊢
        case value v => exact h
        case skip => exact h
        case defer d => exact h
        case enter f args =>
          refine Calls.mono h fun e w'' he => ?_
          cases e with
          | returned u => exact he
          | panicked c => exact he
          | outgrown => exact he
        case row row args => exact h
      | halt x w' => cases x <;> simp only [Oper.upon] at h ⊢ <;> exact h
    · exact .inr ⟨h1, h2⟩
  · rename_i hw
    rw [if_neg hw] at h
    exact h
theorem wpAnyH_path : ∀ (js : List Nat) (l : List Oper) (listed : Array Bool) (a : Act) (w : World), js.map (fun j => ops[j]?) = l.map some → pathB ops listed js = true → PathH P ops Q S l a w → wpAnyH P .any ops Q S js.length listed a w
  | [], [], _, _, _, _, hB, h => wpAnyH_done (by simpa [pathB] using hB) h _
  | j :: js, o :: l, listed, a, w, hl, hB, h => by
    simp only [List.map_cons, List.cons.injEq] at hl
    simp only [pathB, Bool.and_eq_true, beq_iff_eq] at hB
    obtain ⟨hr, hB'⟩ := hB
    refine wpAnyH_all (fuel := js.length) hr (by simp) fun i hi => ?_
    have hi : i = j := by simpa using hi
    subst hi
    refine wpOp_mono (fun a' w' h' => ⟨h'.1, ?_⟩) (wpOp_of_list hl.1 h)
    exact wpAnyH_path js l _ a' w' hl.2 hB' h'.2
  | [], _ :: _, _, _, _, hl, _, _ => by simp at hl
  | _ :: _, [], _, _, _, hl, _, _ => by simp at hl
theorem PathH.step {o : Oper} {r : List Oper} {a : Act} {w : World} {φ : Value → World → Prop} (hw : Region.wanted o (yielded ops a.tmps) = true) (h : YieldsP P o a w φ) (hk : ∀ v w', φ v w' → Below w.heap.size w w' → S w' ∧ PathH P ops Q S r (a.put o.dst v) w') : PathH P ops Q S (o :: r) a w := by
  show wpList P ops _ [o] a w
  unfold wpList
  rw [if_pos hw]
  exact .inl (YieldsP.wp h fun v w' hv hb => hk v w' hv hb)
end
end Go.Proofs.YtfknkfninjjgbabDoor

/- Rows of signatures that a call makes itself; append of one; a batch of what was signed. -/
namespace Go.Proofs.YtfknkfninjjgbabDoor
open Go.RowKit
set_option linter.unusedSimpArgs false
theorem uSgs : Tryd.prog.underlying 45 = some (.slice 49) := by kernel_rfl
theorem iSigned : (Tryd.prog.info? 49).map (fun i => (i.zero, i.size, i.bytes)) = some (some (.agg sdZ.toArray), 34, 80) := by kernel_rfl
theorem PathH.appS {ops : Array Oper} {Q : Exit → Act → World → Prop} {S : World → Prop} {o : Oper} {r : List Oper} {a : Act} {w : World} (hgd : o.guard = none) (s x : Operand)
    (ho : o.op = .call { callee := .builtin .append, args := #[s, x], argTypes := #[45, 45] })
    (B : Nat) (v : Value) (n : Nat) (xs : List Value) (hs : a.eval s = v) (hown : w.ownsRow B 49 34 v n xs) (k : Nat) (y : List Value) (hx : a.eval x = .slice (some ⟨k, 0, none⟩) 1 1) (hy : w.rangeAt k 0 y) (hy1 : y.length = 34) (h1 : ∀ u ∈ y, u.oneCell' = true) (hl : n + 1 ≤ 1000) (hB : B ≤ w.heap.size)
    (h : ∀ v' w', w'.ownsRow B 49 34 v' (n + 1) (xs ++ y) → w.grownBy w' v.ownBlock → S w' ∧ PathH Tryd.prog ops Q S r (a.put o.dst v') w') : PathH Tryd.prog ops Q S (o :: r) a w := by
  obtain ⟨i0, hi, hz0, hz1, hz2⟩ := info_parts iSigned
  exact wpList_append_own (ops := ops) (rest := []) (Q := upN Q fun a' w' => S w' ∧ PathH Tryd.prog ops Q S r a' w') w hgd s x 45 ho B 49 i0 (.agg sdZ.toArray) 34 80 uSgs hi hz0 hz1 hz2 rfl (by decide) v n xs hs hown ⟨k, 0, none⟩ 1 1 y hx (by rw [hy1])
    (fun j u hj => by rw [Addr.add_lit]; exact hy j u hj) h1 (by unfold maxLen; omega) (by omega) hB fun v' w' a1 a2 _ => h v' w' a1 a2
/-- What is told of one: the seed, the text's slice, the text, the block of the signature. -/
abbrev Ent := Nat × Value × List Nat × Nat
def rowE (e : Ent) : List Value := sdR (pubN e.1) e.2.1 (.slice (some ⟨e.2.2.2, 0, none⟩) 64 64)
def ent (e : Ent) : Sge := (pubN e.1, e.2.2.1, S.by (frN e.1 e.2.2.1) ++ S.by (bkN e.1 e.2.2.1))
def EntIn (w wr : World) (e : Ent) : Prop := By w e.2.1 e.2.2.1 ∧ wr.heap[e.2.2.2]? = some (.cells (sgR (frN e.1 e.2.2.1) (bkN e.1 e.2.2.1)).toArray 46 (0, 0))
theorem rowE_length (e : Ent) : (rowE e).length = 34 := sdR_length _ _ _
theorem flat34 : ∀ (es : List Ent) (i r : Nat) (e : Ent), es[i]? = some e → r < 34 → (es.flatMap rowE)[i * 34 + r]? = (rowE e)[r]?
  | [], i, r, e, h, _ => by simp at h
  | d :: es, 0, r, e, h, hr => by
    simp at h
    subst h
    rw [List.flatMap_cons, Nat.zero_mul, Nat.zero_add, List.getElem?_append_left (by rw [rowE_length]; exact hr)]
  | d :: es, i + 1, r, e, h, hr => by
    have := flat34 es i r e (by simpa using h) hr
    rw [List.flatMap_cons, List.getElem?_append_right (by rw [rowE_length]; omega), rowE_length, show (i + 1) * 34 + r - 34 = i * 34 + r by omega, this]
theorem By.of_rng64 {w : World} {k f s : Nat} (h : w.rangeAt k 0 (bR f ++ bR s)) : By w (.slice (some ⟨k, 0, none⟩) 64 64) (S.by f ++ S.by s) := by
  have hl : (S.by f ++ S.by s).length = 64 := by rw [List.length_append, S.by_length, S.by_length]
  have := By.of_cells (w := w) (b := k) (o := 0) (c := 64) (xs := S.by f ++ S.by s) (by rw [hl]; decide) fun j hj => by
    refine h j _ ?_
    rw [S.by_row, S.by_row, ← List.map_append, List.getElem?_map, List.getElem?_eq_getElem hj, List.getD_eq_getElem?_getD, List.getElem?_eq_getElem hj]
    rfl
  rw [hl] at this
  exact this
theorem EntIn.sig {w wr : World} {e : Ent} (h : EntIn w wr e) : By wr (.slice (some ⟨e.2.2.2, 0, none⟩) 64 64) (S.by (frN e.1 e.2.2.1) ++ S.by (bkN e.1 e.2.2.1)) := by
  have := (Blk.of_heap h.2).all
  exact By.of_rng64 (by simpa [sgR] using this)
theorem Sds.of_own {w wr : World} {es : List Ent} {B : Nat} {v : Value} (h : wr.ownsRow B 49 34 v es.length (es.flatMap rowE)) (he : ∀ e ∈ es, EntIn w wr e) (hb : Below w.heap.size w wr) : Sds wr v (es.map ent) := by
  rcases id h.2 with ⟨e, e2⟩ | ⟨g, cap, cur, e, hB, hg, hn, rest⟩
  · exact ⟨none, 0, by rw [e, List.length_map, e2], fun hp => by rw [List.length_map] at hp; omega⟩
  · refine ⟨some ⟨g, 0, none⟩, cap, by rw [List.length_map]; exact e, fun _ => ⟨g, 0, rfl, fun i x hx => ?_⟩⟩
    rw [List.getElem?_map] at hx
    cases hq : es[i]? with
    | none => rw [hq] at hx; cases hx
    | some d =>
      rw [hq] at hx
      obtain rfl := Option.some.inj hx
      have hd := he d (List.mem_of_getElem? hq)
      have hi : i < es.length := (List.getElem?_eq_some_iff.1 hq).1
      refine ⟨d.2.1, .slice (some ⟨d.2.2.2, 0, none⟩) 64 64, fun r u hu => ?_, hd.1.up hb (Nat.le_refl _), hd.sig⟩
      have h2 : wr.ownsRow B 49 34 (.slice (some ⟨g, 0, none⟩) es.length cap) es.length (es.flatMap rowE) := by rw [← e]; exact h
      have hr : r < 34 := by
        have := (List.getElem?_eq_some_iff.1 hu).1
        rwa [sdR_length] at this
      rw [Nat.zero_add, h2.cellAt (i * 34 + r) (by omega), flat34 es i r d hq hr]
      exact hu
/-- Claims that hold make a batch that holds. -/
theorem batN_true : ∀ (l : List (Nm × Sge)) (s : Nat) (T : Cv.Pt), Cv.On T → Cv.times s Cv.base = T → (∀ x ∈ l, ∃ t U, rdN x.2.1 x.2.2.1 x.2.2.2 = .ok (t, U) ∧ Cv.On U ∧ Cv.times t Cv.base = U) → batN l s T = 0
  | [], s, T, _, h, _ => by rw [batN, if_pos h]
  | (k, A, p, q) :: l, s, T, hT, h, hl => by
    obtain ⟨t, U, e, hU, h1⟩ := hl (k, A, p, q) List.mem_cons_self
    simp only at e
    rw [batN, e]
    refine batN_true l _ _ (Cv.closed hT (Cv.times_on hU _)) ?_ fun x hx => hl x (List.mem_cons_of_mem _ hx)
    rw [Cv.base_mod, Cv.times_add Cv.base_on, Cv.base_mod, Cv.times_mul Cv.base_on, h, h1]
theorem rd_signed (n : Nat) (p : List Nat) : ∃ t U, rdN (pubN n) p (S.by (frN n p) ++ S.by (bkN n p)) = .ok (t, U) ∧ Cv.On U ∧ Cv.times t Cv.base = U := by
  have h := vr_true n p
  rw [vrN_rd] at h
  cases e : rdN (pubN n) p (S.by (frN n p) ++ S.by (bkN n p)) with
  | error c =>
    rw [e] at h
    simp only at h
    subst h
    exact absurd rfl (rd_no e).out
  | ok tU =>
    obtain ⟨t, U⟩ := tU
    rw [e] at h
    simp only at h
    refine ⟨t, U, rfl, (rd_ok (pub_lt n) (low_sig _ _) e).2, ?_⟩
    by_cases c : Cv.times t Cv.base = U
    · exact c
    · rw [if_neg c] at h
      cases h
end Go.Proofs.YtfknkfninjjgbabDoor

/- SignBatch, out of what package sign must keep. -/
namespace Go.Proofs.YtfknkfninjjgbabDoor
open Go.RowKit
attribute [local go_sem] World.cell?_alloc_some cell_alloc2 cell_alloc3 cell_alloc4 frozen?_alloc_cells frozen_out
attribute [local simp] MP.eq_p
set_option linter.unusedSimpArgs false
theorem cfSi (args : Array Value) (W : World) : (callFunc 14 args).run Tryd.prog W = .ok (.enter 14 args) W := cf_is (fn := Tryd.f14) (by kernel_rfl) (by decide) (by kernel_rfl) args W
theorem cfNw (args : Array Value) (W : World) : (callFunc 6 args).run Tryd.prog W = .ok (.enter 6 args) W := cf_is (fn := Tryd.f6) (by kernel_rfl) (by decide) (by kernel_rfl) args W
/-- A block that has been made, with its type. -/
def MP.madeH (B : Nat) (t : TypeId) (vs : List Value) : MP := ⟨fun v w => ∃ g, v = .pointer (some ⟨g, 0, none⟩) ∧ B ≤ g ∧ w.heap[g]? = some (.cells vs.toArray t (0, 0)), fun ⟨g, e, h, hb⟩ hk => ⟨g, e, h, (hk.block g (Array.getElem?_eq_some_iff.1 hb).1).trans hb⟩⟩
theorem yields_mkH {o : Oper} {a : Act} {w : World} {B : Nat} {T : TypeId} {zs : List Value} (ho : o.op = .alloc T) (hz : ∀ w, (zeroValue T).run Tryd.prog w = .ok (.agg zs.toArray) w) (hB : B ≤ w.heap.size) : YieldsP Tryd.prog o a w (MP.madeH B T zs).p := by
  unfold YieldsP
  rw [run_mk ho hz a w]
  exact ⟨⟨_, rfl, hB, heap_alloc_new w _⟩, (Below.refl _ _).alloc (Nat.le_refl _) _⟩
theorem exec_ix1 {o : Oper} {a : Act} (x y : Operand) (ho : o.op = .indexAddr 42 x y) {g q n d j : Nat} (hx : a.eval x = .slice (some ⟨g, q, none⟩) n d) (hy : a.eval y = .int .i64 (j : Int)) (hj : j < n) (w : World) : (execOp a.eval o).run Tryd.prog w = .ok (.value (.pointer (some ⟨g, q + j, none⟩))) w := by
  have i1 : (j : Int) < (n : Int) := by omega
  have i0 : (0 : Int) ≤ (j : Int) := by omega
  generalize a.eval = ev at *
  unfold execOp
  simp [ho, hx, hy, go_sem, i1, i0, hj]
theorem exec_ld1 {o : Oper} {a : Act} (x : Operand) (ho : o.op = .load 23 x) {g q : Nat} (hx : a.eval x = .pointer (some ⟨g, q, none⟩)) {b : Option Addr} {n c : Nat} (w : World) (hc : w.cell? ⟨g, q, none⟩ = some (.slice b n c)) : (execOp a.eval o).run Tryd.prog w = .ok (.value (.slice b n c)) w := by
  generalize a.eval = ev at *
  unfold execOp
  simp [ho, hx, go_sem, hc]
theorem exec_mvS {o : Oper} {a : Act} {v : Value} (x : Operand) (ho : o.op = .move x) (hx : a.eval x = v) (W : World) : (execOp a.eval o).run Tryd.prog W = .ok (.value v) W := by
  generalize a.eval = ev at *
  unfold execOp
  simp [ho, hx, go_sem]
theorem yields_fld {o : Oper} {a : Act} {w : World} (y : Operand) (ho : o.op = .field 28 y 2) {x : Nm} {m b : Nat} (hy : a.eval y = prV x m b) : YieldsP Tryd.prog o a w (MP.eq (bV b)).p :=
  yields_run (by
    have e1 := pub_field x m b w
    generalize a.eval = ev at *
    unfold execOp
    simp [ho, hy, e1])
theorem own_up {w w1 : World} {B : Nat} {v : Value} {n : Nat} {xs : List Value} (h : w.ownsRow B 49 34 v n xs) (hb : Below w.heap.size w w1) : w1.ownsRow B 49 34 v n xs := by
  refine ⟨h.1, ?_⟩
  rcases h.2 with h' | ⟨g, cap, cur, e, hB, hg, rest⟩
  · exact .inl h'
  · exact .inr ⟨g, cap, cur, e, hB, (hb.block g (Array.getElem?_eq_some_iff.1 hg).1).trans hg, rest⟩
theorem own_block {w : World} {B : Nat} {v : Value} {n : Nat} {xs : List Value} (h : w.ownsRow B 49 34 v n xs) {g : Nat} (hg : v.ownBlock = some g) : B ≤ g ∧ g < w.heap.size ∧ ∃ cur, w.heap[g]? = some (.cells cur 49 (0, 0)) := by
  rcases h.2 with ⟨e, _⟩ | ⟨g', cap, cur, e, hB, hh, _⟩
  · rw [e] at hg
    cases hg
  · rw [e] at hg
    obtain rfl : g' = g := Option.some.inj hg
    exact ⟨hB, (Array.getElem?_eq_some_iff.1 hh).1, cur, hh⟩
/-- A block of a signature is none of a row of what is to be verified. -/
theorem own_ne {w : World} {B : Nat} {v : Value} {n : Nat} {xs : List Value} (h : w.ownsRow B 49 34 v n xs) {k : Nat} {C : Array Value} (hk : w.heap[k]? = some (.cells C 46 (0, 0))) : some k ≠ v.ownBlock := fun e => by
  obtain ⟨_, _, cur, hc⟩ := own_block h e.symm
  rw [hk] at hc
  have := Option.some.inj hc
  simp at this
theorem yields_sdB {o : Oper} {a : Act} {w : World} {x : Operand} (ho : o.op = .buildSlice 45 1 #[(0, x)]) {A : Nat} {a1 : Option Addr} {n1 c1 : Nat} {a2 : Option Addr} {n2 c2 : Nat} (hx : a.eval x = .agg (sdR A (.slice a1 n1 c1) (.slice a2 n2 c2)).toArray) : YieldsP Tryd.prog o a w fun v W => ∃ k, v = .slice (some ⟨k, 0, none⟩) 1 1 ∧ W.rangeAt k 0 (sdR A (.slice a1 n1 c1) (.slice a2 n2 c2)) := by
  have e0 := run_bsS A a1 n1 c1 a2 n2 c2 w
  have e : (execOp a.eval o).run Tryd.prog w = .ok (.value (.slice (some ⟨w.heap.size, 0, none⟩) 1 1)) (w.alloc (.cells (sdR A (.slice a1 n1 c1) (.slice a2 n2 c2)).toArray 49)) := by
    generalize a.eval = ev at *
    unfold execOp
    simp [ho, hx, e0]
  unfold YieldsP
  rw [e]
  exact ⟨⟨_, rfl, range_al0⟩, (Below.refl _ _).alloc (Nat.le_refl _) _⟩
theorem heap_store0 {w : World} {k : Nat} {t : TypeId} {zs vs : List Value} (h : w.heap[k]? = some (.cells zs.toArray t (0, 0))) (hl : zs.length = vs.length) : (w.setCells k 0 vs).heap[k]? = some (.cells vs.toArray t (0, 0)) := by
  have h2 : w.heap[k]? = some (.cells ([] ++ (zs ++ [])).toArray t (0, 0)) := by simpa using h
  have := heap_setCells_at k t (0, 0) vs [] zs [] w h2 hl
  simpa using this
def sgOf (sd : Nat → Nat) (tx : Nat → List Nat) (j : Nat) : Sge := (pubN (sd j), tx j, S.by (frN (sd j) (tx j)) ++ S.by (bkN (sd j) (tx j)))
set_option maxRecDepth 20000 in
set_option maxHeartbeats 4000000 in
theorem signBatch_walk (n : Nat) (h4 : n ≤ 4) (sd : Nat → Nat) (tx : Nat → List Nat) (a : Option Addr) (c : Nat) (b : Option Addr) (d : Nat) (q : Option Addr) (m : Nat) (w : World)
    (hsd : Hid (∀ j, j < n → sd j < 2 ^ 256)) (htx : Hid (∀ j, j < n → lowP (tx j)))
    (SS : ∀ w, KTab w → Calls Tryd.prog 13 #[] w fun e w' => e = .returned (.bool true) ∧ Below w.heap.size w w')
    (NC : Hid SgNewC) (SC : Hid SgSignC)
    (BT : Hid (∀ v W, Below w.heap.size w W → Sds W v ((List.range n).map (sgOf sd tx)) → KTab W → Calls Tryd.prog 15 #[v, .slice q n m] W fun e w' => e = .returned (.int .i64 0) ∧ Below W.heap.size W w'))
    (HS : Hid (0 < n → ∃ g o, a = some ⟨g, o, none⟩ ∧ ∀ j, j < n → w.rangeAt g (o + j * 32) (bR (sd j))))
    (HX : Hid (0 < n → ∃ g o, b = some ⟨g, o, none⟩ ∧ ∀ j, j < n → ∃ vp, w.cell? ⟨g, o + j, none⟩ = some vp ∧ By w vp (tx j)))
    (hT : KTab w) :
    Calls Tryd.prog 4 #[.slice a n c, .slice b n d, .slice q n m] w fun e w' => e = .returned (.bool true) ∧ Below w.heap.size w w' := by
  have HT : Hid (KTab w) := hT
  have d1 : decide ((n : Int) > 4) = false := decide_eq_false (by omega)
  have d2 : ((n : Int) != (n : Int)) = false := by simp
  clear hT
  go_enter Tryd.func4, Tryd.ntmps4
  have s0 : Hid (Kn w []) := (Kn.nil w)
  have b0 : Hid (Below w.heap.size w w) := (Below.refl _ _)
  go_wp2_with fail
  refine (SS _ (HT.out.up b0.out HT.out.pos)).mono ?_
  rintro e w1 ⟨rfl, hb1⟩
  have s1 : Hid (Kn w1 []) := s0.out.up hb1
  have b1 : Hid (Below w.heap.size w w1) := b0.out.trans (hb1.mono b0.out.size)
  have z1 := b1.out.size
  clear hb1 s0 b0
  go_wp2_with fail
  go_loopw [7, 32] (fun u7 i wr => ∃ (j : Nat) (es : List Ent), j ≤ n ∧ i = .int .i64 (j : Int) ∧ Hid (es.length = j) ∧ Hid (es.map ent = (List.range j).map (sgOf sd tx)) ∧ Hid (∀ e ∈ es, EntIn w wr e) ∧ Hid (wr.ownsRow w.heap.size 49 34 u7 es.length (es.flatMap rowE)) ∧ Hid (Below w.heap.size w wr)) (fun _ i _ => n - (intOf i).toNat)
  case atStart => exact ⟨0, [], by omega, rfl, (rfl : ([] : List Ent).length = 0), (rfl : ([] : List Ent).map ent = []), (fun e he => by cases he), World.ownsRow_nil _ _ _ _, b1⟩
  case round =>
    obtain ⟨j, es, hj, rfl, el, em, ei, eo, bk⟩ := hrel
    clear s1 b1
    by_cases hlt : j < n
    · have i1 : (j : Int) < (n : Int) := by omega
      have i0 : (0 : Int) ≤ (j : Int) := by omega
      obtain ⟨g, o, rfl, hg⟩ := HS.out (by omega)
      obtain ⟨h, p, rfl, hh⟩ := HX.out (by omega)
      have R0 : Hid (wr.rangeAt g (o + j * 32) (bR (sd j))) := rng_up (hg j hlt) (by rw [bR_length]; decide) bk.out (Nat.le_refl _)
      obtain ⟨vp, hc, hy⟩ := hh j hlt
      obtain ⟨ap, cp, rfl⟩ := hy.len
      have hd := hsd.out j hlt
      have hp := htx.out j hlt
      have SG : Hid (∀ W, By W (.slice ap (tx j).length cp) (tx j) → KTab W → Calls Tryd.prog 14 #[bV (sd j), .slice ap (tx j).length cp] W fun e w' => e = .returned (sgV (frN (sd j) (tx j)) (bkN (sd j) (tx j))) ∧ Below W.heap.size W w') := fun W h1 h2 => SC.out (sd j) hd (tx j) hp _ W h1 h2
      have NW : Hid (∀ W, KTab W → Calls Tryd.prog 6 #[bV (sd j)] W fun e w' => e = .returned (prV (nm (secN (sd j))) (mskN (sd j)) (pubN (sd j))) ∧ Below W.heap.size W w') := fun W h2 => NC.out (sd j) hd W h2
      have EN : Hid (∀ k, ent (sd j, .slice ap (tx j).length cp, tx j, k) = sgOf sd tx j) := fun k => rfl
      have RE : Hid (∀ k, rowE (sd j, .slice ap (tx j).length cp, tx j, k) = sdR (pubN (sd j)) (.slice ap (tx j).length cp) (.slice (some ⟨k, 0, none⟩) 64 64)) := fun k => rfl
      have EI : Hid (∀ k (W : World), W.heap[k]? = some (.cells (sgR (frN (sd j) (tx j)) (bkN (sd j) (tx j))).toArray 46 (0, 0)) → EntIn w W (sd j, .slice ap (tx j).length cp, tx j, k)) := fun k W hk => ⟨hy, hk⟩
      have HC : Hid (w.cell? ⟨h, p + j, none⟩ = some (.slice ap (tx j).length cp)) := hc
      have HY : Hid (By w (.slice ap (tx j).length cp) (tx j)) := hy
      have hlw : h < w.heap.size := lt_of_cellB hc
      obtain ⟨np, hnp⟩ : ∃ np, Hid ((tx j).length = np) := ⟨_, rfl⟩
      rw [hnp.out] at SG EN RE EI HC HY
      generalize frN (sd j) (tx j) = f at *
      generalize bkN (sd j) (tx j) = s at *
      generalize pubN (sd j) = pb at *
      generalize nm (secN (sd j)) = xs at *
      generalize mskN (sd j) = mk at *
      clear hg hh hc hy hd hp
      have T0 : Hid ((wr.alloc (.cells #[Value.int IntKind.u8 0, Value.int IntKind.u8 0, Value.int IntKind.u8 0, Value.int IntKind.u8 0, Value.int IntKind.u8 0, Value.int IntKind.u8 0, Value.int IntKind.u8 0, Value.int IntKind.u8 0, Value.int IntKind.u8 0, Value.int IntKind.u8 0, Value.int IntKind.u8 0, Value.int IntKind.u8 0, Value.int IntKind.u8 0, Value.int IntKind.u8 0, Value.int IntKind.u8 0, Value.int IntKind.u8 0, Value.int IntKind.u8 0, Value.int IntKind.u8 0, Value.int IntKind.u8 0, Value.int IntKind.u8 0, Value.int IntKind.u8 0, Value.int IntKind.u8 0, Value.int IntKind.u8 0, Value.int IntKind.u8 0, Value.int IntKind.u8 0, Value.int IntKind.u8 0, Value.int IntKind.u8 0, Value.int IntKind.u8 0, Value.int IntKind.u8 0, Value.int IntKind.u8 0, Value.int IntKind.u8 0, Value.int IntKind.u8 0] 22)).there wr.heap.size 0 (bR (sd j)).length) := Kn.there ((Kn.nil wr).al bZ 22 rfl) 0 rfl (by rw [bR_length, bZ_length])
      go_wp2_with (first | simp only [zero_b32] | refine wp_ldW rfl 22 _ rfl g (o + j * 32) rfl (bR (sd j)) _ R0.out Tryd.underlying22 rfl (info_bR (sd j)) ?_ | refine I.wp_store_eq rfl 22 _ _ rfl wr.heap.size 0 (bR (sd j)) rfl rfl T0.out (info_bR (sd j)) (bR_one (sd j)) ?_)
      intro w2 hw2
      have X2 : Hid (Kn w2 [(wr.heap.size, bR (sd j))]) := by rw [hw2.out]; exact Kn.put ((Kn.nil wr).al bZ 22 rfl) (by rw [bR_length, bZ_length])
      have C2 : Hid (Below wr.heap.size wr w2) := by rw [hw2.out]; exact I.below_setCells _ _ _ ((Below.refl _ _).alloc (Nat.le_refl _) _) (Nat.le_refl _)
      have B2 : Hid (Below w.heap.size w w2) := bk.out.trans (C2.out.mono bk.out.size)
      clear hw2 T0 R0
      go_wp2_with fail
      refine wp_region_monoSE 7 [MP.eq (bV (sd j)), MP.eq (.slice (some ⟨h, p, none⟩) n d), MP.eq (.int .i64 (j : Int)), MP.eq (.pointer (some ⟨h, p + j, none⟩)), MP.eq (.slice ap np cp), MP.eq (sgV f s), MP.madeH w2.heap.size 46 sgZ] (by kernel_rfl) (by kernel_rfl) rfl (by decide) (by kernel_rfl) ?_
      apply Exists.intro
      refine ⟨fun vals => ?_, ?_, fun vals3 w3 hb3 hF hO => ?_⟩
      · simp only [putsV, dstL, List.length_cons, List.length_nil, Nat.zero_add, Nat.reduceAdd, List.getElem?_cons_zero, List.getElem?_cons_succ, Option.bind_some, Act.put, List.setIfInBounds_toArray, List.set_cons_succ, List.set_cons_zero]
        rfl
      · refine ⟨?_, ?_, ?_, ?_, ?_, ?_, ?_, trivial⟩
        · intro vals W hW hw hd
          try simp [Region.binds] at hd
          refine ⟨by first | rfl | simp [Region.wanted, yielded, hd], ?_⟩
          exact yields_ldR 22 (.tmp 9) rfl wr.heap.size 0 rfl (bR (sd j)) _ (Kn.rng (X2.out.up hW.out) 0 rfl) Tryd.underlying22 rfl (info_bR (sd j))
        · intro vals W hW hw hd
          try simp [Region.binds] at hd
          refine ⟨by first | rfl | simp [Region.wanted, yielded, hd], ?_⟩
          exact yields_mv (.tmp 1) rfl rfl
        · intro vals W hW hw hd
          try simp [Region.binds] at hd
          refine ⟨by first | rfl | simp [Region.wanted, yielded, hd], ?_⟩
          exact yields_mv (.tmp 8) rfl rfl
        · intro vals W hW hw hd
          try simp [Region.binds] at hd
          refine ⟨by first | rfl | simp [Region.wanted, yielded, hd], ?_⟩
          exact yields_run (exec_ix1 (.tmp 38) (.tmp 39) rfl (by first | exact hd | exact hd.1 | exact hd.2 | exact hd.2.1 | exact hd.2.2 | exact hd.2.2.1 | exact hd.2.2.2 | exact hd.2.2.2.1 | exact hd.2.2.2.2) (by first | exact hd | exact hd.1 | exact hd.2 | exact hd.2.1 | exact hd.2.2 | exact hd.2.2.1 | exact hd.2.2.2 | exact hd.2.2.2.1 | exact hd.2.2.2.2) hlt W)
        · intro vals W hW hw hd
          try simp [Region.binds] at hd
          refine ⟨by first | rfl | simp [Region.wanted, yielded, hd], ?_⟩
          exact yields_run (exec_ld1 (.tmp 40) rfl (by first | exact hd | exact hd.1 | exact hd.2 | exact hd.2.1 | exact hd.2.2 | exact hd.2.2.1 | exact hd.2.2.2 | exact hd.2.2.2.1 | exact hd.2.2.2.2) W (((B2.out.trans (hW.out.mono B2.out.size)).cell (p := ⟨h, p + j, none⟩) hlw).trans HC.out))
        · intro vals W hW hw hd
          try simp [Region.binds] at hd
          refine ⟨by first | rfl | simp [Region.wanted, yielded, hd], ?_⟩
          exact yields_call2 cfSi (.tmp 37) (.tmp 41) _ rfl (bV (sd j)) (.slice ap np cp) (by first | exact hd | exact hd.1 | exact hd.2 | exact hd.2.1 | exact hd.2.2 | exact hd.2.2.1 | exact hd.2.2.2 | exact hd.2.2.2.1 | exact hd.2.2.2.2) (by first | exact hd | exact hd.1 | exact hd.2 | exact hd.2.1 | exact hd.2.2 | exact hd.2.2.1 | exact hd.2.2.2 | exact hd.2.2.2.1 | exact hd.2.2.2.2) ((SG.out W (HY.out.up (B2.out.trans (hW.out.mono B2.out.size)) (Nat.le_refl _)) (HT.out.up (B2.out.trans (hW.out.mono B2.out.size)) HT.out.pos)).mono fun e w' ⟨he, hb⟩ => ⟨_, he, rfl, hb⟩)
        · intro vals W hW hw hd
          try simp [Region.binds] at hd
          refine ⟨by first | rfl | simp [Region.wanted, yielded, hd], ?_⟩
          exact yields_mkH rfl zero_b64 hW.out.size
      obtain ⟨f0, f1, f2, f3, f4, f5, f6, _⟩ := hF
      simp only [MP.eq_p] at f0 f1 f2 f3 f4 f5
      obtain ⟨ks, eg, hg, hgg⟩ := f6
      rw [f5, eg]
      simp only [List.drop_succ_cons, List.drop_zero]
      have X3 : Hid (Kn w3 [(ks, sgZ), (wr.heap.size, bR (sd j))]) := X2.out.fresh hb3.out hg hgg
      have C3 : Hid (Below wr.heap.size wr w3) := C2.out.trans (hb3.out.mono C2.out.size)
      have gk : wr.heap.size ≤ ks := Nat.le_trans C2.out.size hg
      have HG : Hid (w3.heap[ks]? = some (.cells sgZ.toArray 46 (0, 0))) := hgg
      have T3 : Hid (w3.there ks 0 (sgR f s).length) := Kn.there X3.out 0 rfl (by rw [sgR_length, sgZ_length])
      clear f0 f1 f2 f3 f4 f5 eg hg hgg hO hb3 X2 C2 B2
      go_wp2_with (refine I.wp_store_eq rfl 46 _ _ rfl ks 0 (sgR f s) rfl rfl T3.out (info_sgR f s) (sgR_one f s) ?_)
      intro w4 hw4
      have X4 : Hid (Kn w4 [(ks, sgR f s), (wr.heap.size, bR (sd j))]) := by rw [hw4.out]; exact Kn.put X3.out (by rw [sgR_length, sgZ_length])
      have C4 : Hid (Below wr.heap.size wr w4) := by rw [hw4.out]; exact I.below_setCells _ _ _ C3.out gk
      have H4 : Hid (w4.heap[ks]? = some (.cells (sgR f s).toArray 46 (0, 0))) := by
        rw [hw4.out]
        exact heap_store0 HG.out (by rw [sgR_length, sgZ_length])
      have B4 : Hid (Below w.heap.size w w4) := bk.out.trans (C4.out.mono bk.out.size)
      clear hw4 T3 HG X3 C3
      go_wp2_with fail
      have D0 : Below w4.heap.size w4 { w4 with drawn := w4.drawn + 1 } := (Below.refl _ _).drew
      have SW : Hid (∀ W, Below w4.heap.size w4 W → W.rangeAt wr.heap.size 0 (bR (sd j)) ∧ W.cell? ⟨h, p + j, none⟩ = some (.slice ap np cp)) := fun W hW => ⟨Kn.rng (X4.out.up hW) 1 rfl, ((B4.out.trans (hW.mono B4.out.size)).cell (p := ⟨h, p + j, none⟩) hlw).trans HC.out⟩
      have S0 := SW.out _ D0
      refine wp_region_held (S := fun W => W.rangeAt wr.heap.size 0 (bR (sd j)) ∧ W.cell? ⟨h, p + j, none⟩ = some (.slice ap np cp)) (by kernel_rfl) ?_
      refine wpAnyH_take (i := 0) (v := u7) (fuel := 12) rfl (by kernel_rfl) (by kernel_rfl) (by kernel_rfl) (fun _ _ _ h => h) (Yields.yieldsIf (.inl ⟨rfl, exec_mvS _ rfl rfl⟩)) S0 ?_
      refine wpAnyH_take (i := 1) (v := bV (sd j)) (fuel := 11) rfl (by kernel_rfl) (by kernel_rfl) (by kernel_rfl) (fun _ _ _ h => h) (yieldsIf_load_mid rfl 22 _ rfl wr.heap.size 0 rfl (bR (sd j)) _ (fun W hW => hW.1) Tryd.underlying22 rfl (info_bR (sd j))) S0 ?_
      refine wpAnyH_take (i := 4) (v := .slice (some ⟨h, p, none⟩) n d) (fuel := 10) rfl (by kernel_rfl) (by kernel_rfl) (by kernel_rfl) (fun _ _ _ h => h) (Yields.yieldsIf (.inl ⟨rfl, exec_mvS _ rfl rfl⟩)) S0 ?_
      refine wpAnyH_take (i := 5) (v := .int .i64 (j : Int)) (fuel := 9) rfl (by kernel_rfl) (by kernel_rfl) (by kernel_rfl) (fun _ _ _ h => h) (Yields.yieldsIf (.inl ⟨rfl, exec_mvS _ rfl rfl⟩)) S0 ?_
      refine wpAnyH_take (i := 6) (v := .pointer (some ⟨h, p + j, none⟩)) (fuel := 8) rfl (by kernel_rfl) (by kernel_rfl) (by kernel_rfl) (fun _ _ _ h => h) (Yields.yieldsIf (.inl ⟨rfl, exec_ix1 (.tmp 47) (.tmp 48) rfl rfl rfl hlt⟩)) S0 ?_
      refine wpAnyH_take (i := 7) (v := .slice ap np cp) (fuel := 7) rfl (by kernel_rfl) (by kernel_rfl) (by kernel_rfl) (fun _ _ _ h => h) (.inl ⟨rfl, fun W hW => exec_ld1 (.tmp 49) rfl rfl W hW.2⟩) S0 ?_
      refine wpAnyH_take (i := 8) (v := .slice (some ⟨ks, 0, none⟩) 64 64) (fuel := 6) rfl (by kernel_rfl) (by kernel_rfl) (by kernel_rfl) (fun _ _ _ h => h) (Yields.yieldsIf (.inl ⟨rfl, exec_all64 _ rfl ks rfl⟩)) S0 ?_
      refine wpAnyH_path [2, 3, 9, 10, 11, 12] [_, _, _, _, _, _] _ _ _ rfl (by kernel_rfl) ?_
      simp only [Act.put, List.setIfInBounds_toArray, List.set_cons_succ, List.set_cons_zero, List.getElem_toArray, List.getElem_cons_zero, List.getElem_cons_succ]
      refine PathH.step (φ := (MP.eq (prV xs mk pb)).p) rfl (yields_call1 cfNw (.tmp 44) _ rfl (bV (sd j)) rfl ((NW.out _ (HT.out.up (B4.out.trans (D0.mono B4.out.size)) HT.out.pos)).mono fun e w' ⟨he, hb⟩ => ⟨_, he, rfl, hb⟩)) ?_
      intro v5 w5 e5 hb5
      obtain rfl : v5 = prV xs mk pb := e5
      have D5 : Below w4.heap.size w4 w5 := D0.trans hb5
      refine ⟨SW.out _ D5, ?_⟩
      clear hb5
      simp only [Act.put, List.setIfInBounds_toArray, List.set_cons_succ, List.set_cons_zero]
      refine PathH.step (φ := (MP.eq (bV pb)).p) rfl (yields_fld (.tmp 45) rfl rfl) ?_
      intro v6 w6 e6 hb6
      obtain rfl : v6 = bV pb := e6
      have D6 : Below w4.heap.size w4 w6 := D5.trans (hb6.mono D5.size)
      refine ⟨SW.out _ D6, ?_⟩
      clear hb6 D5
      simp only [Act.put, List.setIfInBounds_toArray, List.set_cons_succ, List.set_cons_zero]
      refine PathH.step (φ := (MP.eq (.agg (sdR pb (.slice ap np cp) (.slice (some ⟨ks, 0, none⟩) 64 64)).toArray)).p) rfl (yields_build3 49 (.tmp 46) (.tmp 50) (.tmp 51) rfl rfl rfl rfl (signed_built pb ap np cp (some ⟨ks, 0, none⟩) 64 64)) ?_
      intro v8 w8 e8 hb8
      obtain rfl : v8 = .agg (sdR pb (.slice ap np cp) (.slice (some ⟨ks, 0, none⟩) 64 64)).toArray := e8
      have D8 : Below w4.heap.size w4 w8 := D6.trans (hb8.mono D6.size)
      refine ⟨SW.out _ D8, ?_⟩
      clear hb8 D6
      simp only [Act.put, List.setIfInBounds_toArray, List.set_cons_succ, List.set_cons_zero]
      refine PathH.step (φ := fun v W => ∃ k, v = .slice (some ⟨k, 0, none⟩) 1 1 ∧ W.rangeAt k 0 (sdR pb (.slice ap np cp) (.slice (some ⟨ks, 0, none⟩) 64 64))) rfl (yields_sdB (x := .tmp 52) rfl rfl) ?_
      rintro v9 w9 ⟨k9, rfl, r9⟩ hb9
      have D9 : Below w4.heap.size w4 w9 := D8.trans (hb9.mono D8.size)
      refine ⟨SW.out _ D9, ?_⟩
      clear hb9 D8
      simp only [Act.put, List.setIfInBounds_toArray, List.set_cons_succ, List.set_cons_zero]
      have C9 : Below wr.heap.size wr w9 := C4.out.trans (D9.mono C4.out.size)
      have O9 := own_up eo.out C9
      refine PathH.appS rfl (.tmp 43) (.tmp 53) rfl w.heap.size u7 es.length (es.flatMap rowE) rfl O9 k9 (sdR pb (.slice ap np cp) (.slice (some ⟨ks, 0, none⟩) 64 64)) rfl r9 (sdR_length _ _ _) (sdR_one rfl rfl) (by rw [el.out]; omega) (Nat.le_trans bk.out.size C9.size) ?_
      intro v10 w10 o10 g10
      have n9 := own_ne O9 ((D9.block ks (Array.getElem?_eq_some_iff.1 H4.out).1).trans H4.out)
      have w9k : w9.heap[ks]? = some (.cells (sgR f s).toArray 46 (0, 0)) := (D9.block ks (Array.getElem?_eq_some_iff.1 H4.out).1).trans H4.out
      have w10k : w10.heap[ks]? = some (.cells (sgR f s).toArray 46 (0, 0)) := (g10.block ks (Array.getElem?_eq_some_iff.1 w9k).1 n9).trans w9k
      have B9 : Below w.heap.size w w9 := bk.out.trans (C9.mono bk.out.size)
      have B10 : Hid (Below w.heap.size w w10) := Below.grown B9 g10 B9.size fun k hk => (own_block O9 hk).1
      have ob : ∀ k, u7.ownBlock = some k → w.heap.size ≤ k ∧ k < wr.heap.size := fun k hk => ⟨(own_block eo.out hk).1, (own_block eo.out hk).2.1⟩
      have S10 : w10.rangeAt wr.heap.size 0 (bR (sd j)) ∧ w10.cell? ⟨h, p + j, none⟩ = some (.slice ap np cp) := by
        refine ⟨fun r v hv => ?_, (B10.out.cell (p := ⟨h, p + j, none⟩) hlw).trans HC.out⟩
        have h1 := (SW.out _ D9).1 r v hv
        have hlt9 : wr.heap.size < w9.heap.size := lt_of_cellB h1
        exact (World.cell?_of_block (a := ⟨wr.heap.size, 0 + r, none⟩) (g10.block wr.heap.size hlt9 fun e => by have := (ob _ e.symm).2; omega)).trans h1
      have E10 : Hid (∀ e ∈ es, EntIn w w10 e) := fun e he => by
        obtain ⟨h1, h2⟩ := ei.out e he
        have h3 := (C9.block _ (Array.getElem?_eq_some_iff.1 h2).1).trans h2
        exact ⟨h1, (g10.block _ (Array.getElem?_eq_some_iff.1 h3).1 (own_ne O9 h3)).trans h3⟩
      refine ⟨S10, ?_⟩
      simp only [Act.put, List.setIfInBounds_toArray, List.set_cons_succ, List.set_cons_zero]
      refine PathH.step (φ := (MP.eq v10).p) rfl (yields_as (.tmp 54) rfl rfl) ?_
      intro v11 w11 e11 hb11
      obtain rfl : v11 = v10 := e11
      refine ⟨⟨rng_up S10.1 (by rw [bR_length]; decide) hb11 (Nat.le_refl _), (hb11.cell (p := ⟨h, p + j, none⟩) (Nat.lt_of_lt_of_le hlw B10.out.size)).trans S10.2⟩, ?_⟩
      have B11 : Hid (Below w.heap.size w w11) := B10.out.trans (hb11.mono B10.out.size)
      have o11 := own_up o10 hb11
      have O11 : Hid (w11.ownsRow w.heap.size 49 34 v11 (es ++ [(sd j, Value.slice ap np cp, tx j, ks)]).length ((es ++ [(sd j, Value.slice ap np cp, tx j, ks)]).flatMap rowE)) := by
        show w11.ownsRow _ _ _ _ _ _
        rw [List.length_append, List.flatMap_append, List.flatMap_singleton, RE.out]
        exact o11
      have E11 : Hid (∀ e ∈ es ++ [(sd j, Value.slice ap np cp, tx j, ks)], EntIn w w11 e) := fun e he => by
        rcases List.mem_append.1 he with he | he
        · obtain ⟨h1, h2⟩ := E10.out e he
          exact ⟨h1, (hb11.block _ (Array.getElem?_eq_some_iff.1 h2).1).trans h2⟩
        · rw [List.mem_singleton.1 he]
          exact EI.out ks w11 ((hb11.block _ (Array.getElem?_eq_some_iff.1 w10k).1).trans w10k)
      have M11 : Hid ((es ++ [(sd j, Value.slice ap np cp, tx j, ks)]).map ent = (List.range (j + 1)).map (sgOf sd tx)) := by
        show _ = _
        rw [List.map_append, List.map_singleton, EN.out, em.out, List.range_succ, List.map_append, List.map_singleton]
      have L11 : Hid ((es ++ [(sd j, Value.slice ap np cp, tx j, ks)]).length = j + 1) := by
        show _ = _
        rw [List.length_append, el.out]
        rfl
      clear hb11 o11 S10 o10 g10 w10k w9k n9 O9 C9 D9 r9 B9 S0 SW D0 H4 C4 X4 B4 E10 B10 EI RE EN NW SG HC HY ob
      generalize es ++ [(sd j, Value.slice ap np cp, tx j, ks)] = es' at *
      unfold PathH
      simp only [Act.put, List.setIfInBounds_toArray, List.set_cons_succ, List.set_cons_zero]
      go_wp2_with fail
      go_roundw
      case rel => exact ⟨j + 1, es', by omega, by go_num, L11, M11, E11, O11, B11⟩
      case measure => simp [intOf]; omega
    · have i1 : ¬ (j : Int) < (n : Int) := by omega
      obtain rfl : j = n := by omega
      have SD : Hid (Sds wr u7 ((List.range j).map (sgOf sd tx))) := by
        show Sds _ _ _
        rw [← em.out]
        exact Sds.of_own eo.out ei.out bk.out
      go_wp2_with fail
      refine (BT.out _ _ bk.out SD.out (HT.out.up bk.out HT.out.pos)).mono ?_
      rintro e w2 ⟨rfl, hb⟩
      have b2 : Hid (Below w.heap.size w w2) := bk.out.trans (hb.mono bk.out.size)
      clear hb SD
      go_wp2_with fail
      go_ret
      exact ⟨rfl, b2.out⟩
theorem signBatch_1 (a : Option Addr) (n c : Nat) (hn : 4 < n) (v u : Value) (w : World) (hT : KTab w)
    (SS : ∀ w, KTab w → Calls Tryd.prog 13 #[] w fun e w' => e = .returned (.bool true) ∧ Below w.heap.size w w') :
    Calls Tryd.prog 4 #[.slice a n c, v, u] w fun e w' => e = .returned (.bool true) ∧ Below w.heap.size w w' := by
  have HT : Hid (KTab w) := hT
  have d1 : decide ((n : Int) > 4) = true := decide_eq_true (by omega)
  clear hT hn
  go_enter Tryd.func4, Tryd.ntmps4
  have s0 : Hid (Kn w []) := (Kn.nil w)
  have b0 : Hid (Below w.heap.size w w) := (Below.refl _ _)
  go_wp2_with fail
  refine (SS _ (HT.out.up b0.out HT.out.pos)).mono ?_
  rintro e w1 ⟨rfl, hb1⟩
  have s1 : Hid (Kn w1 []) := s0.out.up hb1
  have b1 : Hid (Below w.heap.size w w1) := b0.out.trans (hb1.mono b0.out.size)
  have z1 := b1.out.size
  clear hb1 s0 b0
  go_wp2_with fail
  go_ret
  exact ⟨rfl, b1.out⟩
theorem signBatch_2 (a b : Option Addr) (n c m d : Nat) (hn : n ≤ 4) (hm : m ≠ n) (u : Value) (w : World) (hT : KTab w)
    (SS : ∀ w, KTab w → Calls Tryd.prog 13 #[] w fun e w' => e = .returned (.bool true) ∧ Below w.heap.size w w') :
    Calls Tryd.prog 4 #[.slice a n c, .slice b m d, u] w fun e w' => e = .returned (.bool true) ∧ Below w.heap.size w w' := by
  have HT : Hid (KTab w) := hT
  have d1 : decide ((n : Int) > 4) = false := decide_eq_false (by omega)
  have d2 : ((m : Int) != (n : Int)) = true := by simp; omega
  clear hT hn hm
  go_enter Tryd.func4, Tryd.ntmps4
  have s0 : Hid (Kn w []) := (Kn.nil w)
  have b0 : Hid (Below w.heap.size w w) := (Below.refl _ _)
  go_wp2_with fail
  refine (SS _ (HT.out.up b0.out HT.out.pos)).mono ?_
  rintro e w1 ⟨rfl, hb1⟩
  have s1 : Hid (Kn w1 []) := s0.out.up hb1
  have b1 : Hid (Below w.heap.size w w1) := b0.out.trans (hb1.mono b0.out.size)
  have z1 := b1.out.size
  clear hb1 s0 b0
  go_wp2_with fail
  go_ret
  exact ⟨rfl, b1.out⟩
theorem signBatch_3 (a b q : Option Addr) (n c d k m : Nat) (hn : n ≤ 4) (hk : k ≠ n) (w : World) (hT : KTab w)
    (SS : ∀ w, KTab w → Calls Tryd.prog 13 #[] w fun e w' => e = .returned (.bool true) ∧ Below w.heap.size w w') :
    Calls Tryd.prog 4 #[.slice a n c, .slice b n d, .slice q k m] w fun e w' => e = .returned (.bool true) ∧ Below w.heap.size w w' := by
  have HT : Hid (KTab w) := hT
  have d1 : decide ((n : Int) > 4) = false := decide_eq_false (by omega)
  have d2 : ((n : Int) != (n : Int)) = false := by simp
  have d3 : ((k : Int) != (n : Int)) = true := by simp; omega
  clear hT hn hk
  go_enter Tryd.func4, Tryd.ntmps4
  have s0 : Hid (Kn w []) := (Kn.nil w)
  have b0 : Hid (Below w.heap.size w w) := (Below.refl _ _)
  go_wp2_with fail
  refine (SS _ (HT.out.up b0.out HT.out.pos)).mono ?_
  rintro e w1 ⟨rfl, hb1⟩
  have s1 : Hid (Kn w1 []) := s0.out.up hb1
  have b1 : Hid (Below w.heap.size w w1) := b0.out.trans (hb1.mono b0.out.size)
  have z1 := b1.out.size
  clear hb1 s0 b0
  go_wp2_with fail
  go_ret
  exact ⟨rfl, b1.out⟩
end Go.Proofs.YtfknkfninjjgbabDoor
