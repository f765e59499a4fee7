/- Texts that were joined: COwn, SgC, SgOnly. -/
import Derived.Test.YtfknkfninjjgbaaDoorQCAssToSgM
import Derived.Test.YtfknkfninjjgbaaDoorQHLaidToSDig
import Derived.Test.YtfknkfninjjgbaaDoorQKnF
import Derived.Test.YtfknkfninjjgbaaDoorQEqPToCrvB
import Derived.Test.YtfknkfninjjgbaaDoorQCvPk
import Derived.Test.YtfknkfninjjgbaaDoorQBKToHCut
import Derived.Test.YtfknkfninjjgbaaDoorQUpV
/- The point that is its own Neg, beside Zero; no multiple of the base packs to 0. Mathematics alone. -/
namespace Go.Proofs.YtfknkfninjjgbaaDoor.Cv
open Go.Proofs.YtfknkfninjjgbaaDoor
/-- The point that is its own Neg, beside Zero. -/
def own : Pt := (0, F.sub 0 1)
theorem own_on : On own := by
  refine ⟨by decide, by decide, ?_⟩
  show Z _
  unfold Z E own
  decide +kernel
theorem own_sum : add own own = zero := by
  refine (sum_only own_on own_on (R := zero) (by decide) (by decide) ⟨?_, ?_⟩).symm
  · show Z _
    unfold Z own zero
    decide +kernel
  · show Z _
    unfold Z own zero
    decide +kernel
theorem own_2 : Z ((own.2 : Int) + 1) := by
  unfold Z own
  decide +kernel
set_option maxHeartbeats 400000 in
theorem four_flat {P : Pt} (hP : On P) (h : P.2 = 0) : times 4 P = zero := by
  have e2 : own = add P P := by
    have hz : Z (E P.1 P.2) := hP.2.2
    rw [h] at hz
    have ho : Z ((own.2 : Int) + 1) := own_2
    refine sum_only hP hP own_on.1 own_on.2.1 ?_
    rw [h]
    have h1 : (own.1 : Int) = 0 := rfl
    generalize (own.2 : Int) = o at *
    rw [h1]
    generalize (P.1 : Int) = x at *
    unfold E at hz
    generalize (d : Int) = dd at *
    constructor
    · show Z _
      exact Z.zero.of_eq (by grind)
    · show Z _
      exact (ho.add hz).of_eq (by grind)
  have h2 : times 2 P = own := by
    have := times_two hP 1
    rw [times_one hP] at this
    rw [e2]
    exact this
  have h4 := times_two hP 2
  rw [h2, own_sum] at h4
  exact h4
theorem four_mod {r : Nat} (hr : r < ord) (h4 : 4 * r % ord = 0) : r = 0 := by
  obtain ⟨q, hq⟩ := Nat.dvd_of_mod_eq_zero h4
  have ho : ord % 4 = 1 := by decide
  have hq4 : q < 4 := by
    refine Nat.lt_of_mul_lt_mul_left (a := ord) ?_
    rw [← hq, Nat.mul_comm ord 4]
    exact Nat.mul_lt_mul_of_pos_left hr (by decide)
  have hm : ord * q % 4 = 0 := by rw [← hq]; exact Nat.mul_mod_right 4 r
  rw [Nat.mul_mod, ho, Nat.one_mul, Nat.mod_mod, Nat.mod_eq_of_lt hq4] at hm
  rw [hm, Nat.mul_zero] at hq
  omega
theorem pk_no {r : Nat} (h0 : r ≠ 0) (hr : r < ord) : pk (times r base) ≠ 0 := fun e => by
  have hP := times_on base_on r
  have hy : (times r base).2 = 0 := by
    unfold pk at e
    omega
  have h4 := four_flat hP hy
  rw [← times_mul base_on, base_iff] at h4
  exact h0 (four_mod hr h4)
end Go.Proofs.YtfknkfninjjgbaaDoor.Cv

/- Pairs of keys and signatures as rows; what package sign must keep. -/
namespace Go.Proofs.YtfknkfninjjgbaaDoor
open Go.RowKit
set_option linter.unusedSimpArgs false
/-- A pair: its secret number, its mask, its public one. -/
def prR (x : Nm) (m a : Nat) : List Value := c4 x ++ (bR m ++ bR a)
abbrev prV (x : Nm) (m a : Nat) : Value := .agg (prR x m a).toArray
def pairZ : List Value := zz4 ++ List.replicate 64 (.int .u8 0)
theorem prR_length (x : Nm) (m a : Nat) : (prR x m a).length = 68 := by rw [prR, List.length_append, List.length_append, bR_length, bR_length]; rfl
theorem pairZ_length : pairZ.length = 68 := rfl
theorem prR_one (x : Nm) (m a : Nat) : ∀ v ∈ prR x m a, v.oneCell' = true := fun v hv => by
  unfold prR at hv
  rcases List.mem_append.1 hv with h | h
  · exact c4_one x v h
  · rcases List.mem_append.1 h with h | h
    · exact bR_one m v h
    · exact bR_one a v h
theorem info_pair : (Tryd.prog.info? 29).map (·.size) = some 68 := by kernel_rfl
theorem info_prR (x : Nm) (m a : Nat) : (Tryd.prog.info? 29).map (·.size) = some (prR x m a).length := by rw [prR_length]; exact info_pair
theorem zero_pair (w : World) : (zeroValue 29).run Tryd.prog w = .ok (.agg pairZ.toArray) w := I.zero_of (by kernel_rfl) w
theorem Kn.png0 {w : World} {L : List (Nat × List Value)} (h : Kn w L) (i : Nat) {k : Nat} {x : Nm} {m a : Nat} (hp : L[i]? = some (k, prR x m a)) : w.rangeAt k 0 (c4 x) := (range_app (h.rng i hp)).1
theorem Kn.png1 {w : World} {L : List (Nat × List Value)} (h : Kn w L) (i : Nat) {k : Nat} {x : Nm} {m a : Nat} (hp : L[i]? = some (k, prR x m a)) : w.rangeAt k 4 (bR m) := by
  have := (range_app (range_app (h.rng i hp)).2).1
  exact this
theorem Kn.png2 {w : World} {L : List (Nat × List Value)} (h : Kn w L) (i : Nat) {k : Nat} {x : Nm} {m a : Nat} (hp : L[i]? = some (k, prR x m a)) : w.rangeAt k 36 (bR a) := by
  have := (range_app (range_app (h.rng i hp)).2).2
  rw [bR_length] at this
  exact this
/-- A signature: its front, and the number at its end. -/
def sgR (r s : Nat) : List Value := bR r ++ bR s
abbrev sgV (r s : Nat) : Value := .agg (sgR r s).toArray
def sgZ : List Value := List.replicate 64 (.int .u8 0)
theorem sgR_length (r s : Nat) : (sgR r s).length = 64 := by rw [sgR, List.length_append, bR_length, bR_length]
theorem sgZ_length : sgZ.length = 64 := by simp [sgZ]
theorem sgR_one (r s : Nat) : ∀ v ∈ sgR r s, v.oneCell' = true := fun v hv => by
  unfold sgR at hv
  rcases List.mem_append.1 hv with h | h
  · exact bR_one r v h
  · exact bR_one s v h
theorem info_b64 : (Tryd.prog.info? 31).map (·.size) = some 64 := by kernel_rfl
theorem info_sgR (r s : Nat) : (Tryd.prog.info? 31).map (·.size) = some (sgR r s).length := by rw [sgR_length]; exact info_b64
theorem zero_b64 (w : World) : (zeroValue 31).run Tryd.prog w = .ok (.agg sgZ.toArray) w := I.zero_of (by kernel_rfl) w
theorem u_b64 : Tryd.prog.underlying 31 = some (.array 64 5) := by kernel_rfl
theorem Kn.by64 {w : World} {L : List (Nat × List Value)} (h : Kn w L) (i : Nat) {k r s : Nat} (hp : L[i]? = some (k, sgR r s)) : By w (.slice (some ⟨k, 0, none⟩) 64 64) (S.by r ++ S.by s) := by
  have hb := h.all _ (List.mem_of_getElem? hp)
  have hl : (S.by r ++ S.by s).length = 64 := by rw [List.length_append, S.by_length, S.by_length]
  have := By.of_cells (w := w) (b := k) (o := 0) (c := 64) (xs := S.by r ++ S.by s) (by rw [hl]; decide) fun j hj => by
    rw [Nat.zero_add]
    refine hb.cell j _ ?_
    show (sgR r s)[j]? = _
    rw [sgR, S.by_row, S.by_row, ← List.map_append, List.getElem?_map, List.getElem?_eq_getElem hj, List.getD_eq_getElem?_getD, List.getElem?_eq_getElem hj]
    rfl
  rw [hl] at this
  exact this
theorem quiet_all64 {ops : Array Oper} {C : World → Prop} {Q : Act → Prop} {o : Oper} {rest : List Oper} {a : Act} (hw : Region.wanted o (yielded ops a.tmps) = true) (x : Operand) (ho : o.op = .slice 31 x none none none) (b : Nat) (hx : a.eval x = .pointer (some ⟨b, 0, none⟩))
    (h : wpQuiet Tryd.prog ops C Q rest (a.put o.dst (.slice (some ⟨b, 0, none⟩) 64 64))) : wpQuiet Tryd.prog ops C Q (o :: rest) a := by
  refine BigFrame.wpQuiet_want hw fun K hK => ⟨.slice (some ⟨b, 0, none⟩) 64 64, fun w _ => ?_, hK _ h⟩
  have e1 := slice_all u_b64 u_b32r (by decide) b 0 w
  unfold Oper.quietAt
  have e : (execOp a.eval o).run Tryd.prog w = .ok (.value (.slice (some ⟨b, 0, none⟩) 64 64)) w := by
    unfold execOp
    simp [ho, hx, e1]
  rw [e]
  exact ⟨rfl, rfl⟩
theorem quiet_buildZ {t : TypeId} {cs : Array Value} {ops : Array Oper} {C : World → Prop} {Q : Act → Prop} {o : Oper} {rest : List Oper} {a : Act} (hw : Region.wanted o (yielded ops a.tmps) = true) (ho : o.op = .build t #[]) (hb : Tryd.prog.built t [] = some cs)
    (h : wpQuiet Tryd.prog ops C Q rest (a.put o.dst (.agg cs))) : wpQuiet Tryd.prog ops C Q (o :: rest) a := by
  refine BigFrame.wpQuiet_want hw fun K hK => ⟨.agg cs, fun w _ => ?_, hK _ h⟩
  have e1 : (Instr.build t ((#[] : Array (Nat × Operand)).map fun x => (x.fst, a.eval x.snd))).run Tryd.prog w = .ok (.agg cs) w := run_build w t _ _ (by simpa using hb)
  unfold Oper.quietAt
  have e : (execOp a.eval o).run Tryd.prog w = .ok (.value (.agg cs)) w := by
    simp only [execOp, ho, Sem.run_bind, e1, Result.andThen_ok, Sem.run_pure]
  rw [e]
  exact ⟨rfl, rfl⟩
theorem pub_field (x : Nm) (m a : Nat) (w : World) : (Instr.field 29 (prV x m a) 2).run Tryd.prog w = .ok (bV a) w := by kernel_rfl
theorem quiet_pub {ops : Array Oper} {C : World → Prop} {Q : Act → Prop} {o : Oper} {rest : List Oper} {act : Act} (hw : Region.wanted o (yielded ops act.tmps) = true) (y : Operand) (ho : o.op = .field 29 y 2) (x : Nm) (m a : Nat) (hy : act.eval y = prV x m a)
    (h : wpQuiet Tryd.prog ops C Q rest (act.put o.dst (bV a))) : wpQuiet Tryd.prog ops C Q (o :: rest) act := by
  refine BigFrame.wpQuiet_want hw fun K hK => ⟨bV a, fun w _ => ?_, hK _ h⟩
  unfold Oper.quietAt
  have e : (execOp act.eval o).run Tryd.prog w = .ok (.value (bV a)) w := by
    have e1 := pub_field x m a w
    generalize act.eval = ev at *
    unfold execOp
    simp [ho, hy, e1]
  rw [e]
  exact ⟨rfl, rfl⟩
theorem b64_zero : Tryd.prog.built 31 [] = some (sgR 0 0).toArray := by kernel_rfl
set_option maxRecDepth 100000 in
theorem neSg {r s : Nat} (hr : r < 2 ^ 256) (h0 : r ≠ 0) (w : World) : (binOp .neq 31 (sgV r s) (sgV 0 0)).run Tryd.prog w = .ok (.bool true) w := by
  have hg : ∀ r s j, j < 64 → (sgR r s).toArray[j]? = some (.int .u8 (if j < 32 then ((r / 256 ^ j % 256 : Nat) : Int) else ((s / 256 ^ (j - 32) % 256 : Nat) : Int))) := fun r s j hj => by
    rw [List.getElem?_toArray, sgR]
    by_cases h : j < 32
    · rw [List.getElem?_append_left (by rw [bR_length]; exact h), if_pos h]
      simp [bR, h]
    · rw [List.getElem?_append_right (by rw [bR_length]; omega), bR_length, if_neg h]
      simp [bR, show j - 32 < 32 by omega]
  rw [run_neq_intsN (P := Tryd.prog) (t := 31) (e := 5) (n := 64) (k := .u8) u_b64 rfl Tryd.underlying5 (by kernel_rfl) (by kernel_rfl) _ _ _ _ (hg r s) (hg 0 0)]
  congr 2
  rw [Bool.not_eq_true']
  refine Bool.eq_false_iff.2 fun e => h0 ?_
  have e2 : ∀ j, j < 32 → r / 256 ^ j % 256 = 0 / 256 ^ j % 256 := fun j hj => by
    have h1 := List.all_eq_true.1 e j (List.mem_range.2 (by omega))
    rw [if_pos hj, if_pos hj] at h1
    exact Int.ofNat.inj (eq_of_beq h1)
  have h3 := byte_eq 32 e2
  rw [show (256 : Nat) ^ 32 = 2 ^ 256 by decide, Nat.mod_eq_of_lt hr, Nat.zero_mod] at h3
  exact h3
/-- The numbers and points of keys and signatures. -/
def dgN (l : Nat) (p : List Nat) : Nat := S.le (S.dig l p) % Cv.ord
def nzN (x : Nat) : Nat := if x = 0 then 1 else x
def secN (n : Nat) : Nat := nzN (dgN 1 (S.by n))
def mskN (n : Nat) : Nat := S.le (sumS (2 :: S.by n))
def pubN (n : Nat) : Nat := Cv.pk (Cv.times (secN n) Cv.base)
def rN (n : Nat) (p : List Nat) : Nat := nzN (dgN 3 (S.by (mskN n) ++ p))
def frN (n : Nat) (p : List Nat) : Nat := Cv.pk (Cv.times (rN n p) Cv.base)
def chN (R A : Nat) (p : List Nat) : Nat := dgN 4 (S.by R ++ (S.by A ++ p))
def bkN (n : Nat) (p : List Nat) : Nat := (rN n p + chN (frN n p) (pubN n) p * secN n) % Cv.ord
def vrN (A : Nat) (p sig : List Nat) : Nat := if sig.length = 64 then Sg.ver chN A p (S.le (sig.take 32)) (S.le (sig.drop 32)) else 1
abbrev lowP (p : List Nat) : Prop := (∀ x ∈ p, x < 256) ∧ p.length ≤ 140737488351232
def SgNewC : Prop := ∀ n, n < 2 ^ 256 → ∀ w, KTab w → Calls Tryd.prog 7 #[bV n] w fun e w' => e = .returned (prV (nm (secN n)) (mskN n) (pubN n)) ∧ Below w.heap.size w w'
def SgSignC : Prop := ∀ n, n < 2 ^ 256 → ∀ p, lowP p → ∀ v w, By w v p → KTab w → Calls Tryd.prog 8 #[bV n, v] w fun e w' => e = .returned (sgV (frN n p) (bkN n p)) ∧ Below w.heap.size w w'
def SgVerC : Prop := ∀ A, A < 2 ^ 256 → ∀ p q, lowP p → lowP q → ∀ v u w, By w v p → By w u q → KTab w → Calls Tryd.prog 9 #[bV A, v, u] w fun e w' => e = .returned (.int .i64 (vrN A p q : Nat)) ∧ Below w.heap.size w w'
theorem pub_lt (n : Nat) : pubN n < 2 ^ 256 := Cv.pk_lt (Cv.times_on Cv.base_on _)
theorem fr_lt (n : Nat) (p : List Nat) : frN n p < 2 ^ 256 := Cv.pk_lt (Cv.times_on Cv.base_on _)
theorem bk_lt (n : Nat) (p : List Nat) : bkN n p < 2 ^ 256 := Nat.lt_trans (Nat.mod_lt _ ord_pos) ord_lt
theorem vr_two (A : Nat) (p : List Nat) {r s : Nat} (hr : r < 2 ^ 256) (hs : s < 2 ^ 256) : vrN A p (S.by r ++ S.by s) = Sg.ver chN A p r s := by
  unfold vrN
  rw [if_pos (by rw [List.length_append, S.by_length, S.by_length]), List.take_left' (S.by_length r), List.drop_left' (S.by_length r), S.le_by hr, S.le_by hs]
/-- What was signed is verified. -/
theorem vr_true (n : Nat) (p : List Nat) : vrN (pubN n) p (S.by (frN n p) ++ S.by (bkN n p)) = 0 := by
  rw [vr_two _ _ (fr_lt n p) (bk_lt n p)]
  exact Sg.ver_true chN (secN n) (rN n p) p
theorem sec_lt (n : Nat) : secN n < Cv.ord := by
  unfold secN nzN
  split
  · decide
  · exact Nat.mod_lt _ ord_pos
theorem fr_no (n : Nat) (p : List Nat) : frN n p ≠ 0 := by
  have h : ∀ x, nzN (x % Cv.ord) ≠ 0 ∧ nzN (x % Cv.ord) < Cv.ord := fun x => by
    have := Nat.mod_lt x ord_pos
    unfold nzN
    split
    · exact ⟨by decide, by decide⟩
    · exact ⟨by assumption, this⟩
  exact Cv.pk_no (h _).1 (h _).2
theorem low_sig (r s : Nat) : lowP (S.by r ++ S.by s) := ⟨low_app (S.by_low r) (S.by_low s), by rw [List.length_append, S.by_length, S.by_length]; decide⟩
end Go.Proofs.YtfknkfninjjgbaaDoor

/- SignOnly, out of what package sign must keep. -/
namespace Go.Proofs.YtfknkfninjjgbaaDoor
open Go.RowKit
attribute [local go_sem] World.cell?_alloc_some cell_alloc2 cell_alloc3 cell_alloc4 frozen?_alloc_cells frozen_out
set_option linter.unusedSimpArgs false
set_option maxRecDepth 20000 in
set_option maxHeartbeats 2000000 in
theorem signOnly_1 (A f a b : Nat) (c : Int) (hc : ¬ c = 0) (v : Value) (p : List Nat)
    (VX : Hid (∀ u w, By w v p → By w u (S.by f ++ S.by a) → KTab w → Calls Tryd.prog 9 #[bV A, v, u] w fun e w' => e = .returned (.int .i64 c) ∧ Below w.heap.size w w'))
    (w : World) (hv : By w v p) (hT : KTab w) :
    Calls Tryd.prog 4 #[bV A, v, bV f, bV a, bV b] w fun e w' => e = .returned (.bool true) ∧ Below w.heap.size w w' := by
  have n1 : (c != 0) = true := by simp [hc]
  clear hc
  have HV : Hid (By w v p) := hv
  have HT : Hid (KTab w) := hT
  obtain ⟨fS, hfs⟩ : ∃ fS, Hid (S.by f = fS) := ⟨_, rfl⟩
  obtain ⟨aS, has⟩ : ∃ aS, Hid (S.by a = aS) := ⟨_, rfl⟩
  obtain ⟨bS, hbs⟩ : ∃ bS, Hid (S.by b = bS) := ⟨_, rfl⟩
  have LF : Hid (fS.length = 32) := by rw [← hfs.out]; exact S.by_length f
  have LA : Hid (aS.length = 32) := by rw [← has.out]; exact S.by_length a
  have LB : Hid (bS.length = 32) := by rw [← hbs.out]; exact S.by_length b
  clear hv hT
  go_enter Tryd.func4, Tryd.ntmps4
  have s0 : Hid (Kn ((((w.alloc (.cells (bR (A)).toArray 22)).alloc (.cells (bR (f)).toArray 22)).alloc (.cells (bR (a)).toArray 22)).alloc (.cells (bR (b)).toArray 22)) [(w.heap.size + 1 + 1 + 1, (bR (b))), (w.heap.size + 1 + 1, (bR (a))), (w.heap.size + 1, (bR (f))), (w.heap.size, (bR (A)))]) := (((((Kn.nil w).al (bR (A)) 22 rfl).al (bR (f)) 22 (by simp)).al (bR (a)) 22 (by simp)).al (bR (b)) 22 (by simp))
  have b0 : Hid (Below w.heap.size w ((((w.alloc (.cells (bR (A)).toArray 22)).alloc (.cells (bR (f)).toArray 22)).alloc (.cells (bR (a)).toArray 22)).alloc (.cells (bR (b)).toArray 22))) := (((((Below.refl _ _).alloc (Nat.le_refl _) _).alloc (by simp <;> omega) _).alloc (by simp <;> omega) _).alloc (by simp <;> omega) _)
  go_wp2_with fail
  refine wp_region_two 0 2 [1, 3, 4] [_, _, _] (.slice (some ⟨w.heap.size + 1, 0, none⟩) 32 32) (.slice (some ⟨w.heap.size + 1 + 1, 0, none⟩) 32 32) (by kernel_rfl) (by kernel_rfl) (fun _ _ d _ _ h => by cases d <;> exact h) rfl rfl (by kernel_rfl) (by kernel_rfl) rfl rfl (by kernel_rfl) (.inl ⟨rfl, exec_all32 _ rfl _ rfl⟩) (.inl ⟨rfl, exec_all32 _ rfl _ rfl⟩) ?_
  intro w1 hb1 hh1
  clear hh1
  simp only [Act.put, List.setIfInBounds_toArray, List.set_cons_succ, List.set_cons_zero, List.getElem_toArray, List.getElem_cons_zero, List.getElem_cons_succ]
  have s1 : Hid (Kn w1 [(w.heap.size + 1 + 1 + 1, bR b), (w.heap.size + 1 + 1, bR a), (w.heap.size + 1, bR f), (w.heap.size, bR A)]) := s0.out.up hb1.out
  have b1 : Hid (Below w.heap.size w w1) := b0.out.trans (hb1.out.mono b0.out.size)
  clear s0 b0 hb1
  have YX := Kn.by32 s1.out 2 rfl
  rw [hfs.out] at YX
  go_wp2_with (refine wp_appB rfl _ _ rfl w1.heap.size (.slice none 0 0) _ [] fS w1 rfl (Ob.nil _ _) (Below.refl _ _) rfl YX (by rw [LF.out]; decide) (Nat.le_refl _) ?_)
  intro v2 w2 o2 _ hb2
  have s2 : Hid (Kn w2 [(w.heap.size + 1 + 1 + 1, bR b), (w.heap.size + 1 + 1, bR a), (w.heap.size + 1, bR f), (w.heap.size, bR A)]) := s1.out.up hb2
  have YY := Kn.by32 s2.out 1 rfl
  rw [has.out] at YY
  have O2 : Hid (Ob w2 w1.heap.size v2 fS) := o2
  have G2 : Hid (w1.heap.size ≤ w2.heap.size) := hb2.size
  have G1 : Hid (w.heap.size ≤ w1.heap.size) := b1.out.size
  have H2 : Hid (Below w1.heap.size w1 w2) := hb2
  clear YX o2 hb2 s2
  go_wp2_with (refine wp_appB rfl _ _ rfl w1.heap.size v2 _ fS aS w2 rfl O2.out (Below.refl _ _) rfl YY (by rw [LF.out, LA.out]; decide) G2.out ?_)
  intro v3 w3 o3 _ hb3
  have X3 : Hid (By w3 v3 (S.by f ++ S.by a)) := by rw [hfs.out, has.out]; exact o3.by
  have s3 : Hid (Kn w3 [(w.heap.size + 1 + 1 + 1, bR b), (w.heap.size + 1 + 1, bR a), (w.heap.size + 1, bR f), (w.heap.size, bR A)]) := s1.out.up (H2.out.trans hb3)
  have b3 : Hid (Below w.heap.size w w3) := b1.out.trans ((H2.out.trans hb3).mono G1.out)
  clear YY O2 o3 hb3 b1 G2 G1 H2 s1
  go_wp2_with fail
  refine wp_region_two 0 2 [1, 3, 4] [_, _, _] (.slice (some ⟨w.heap.size + 1, 0, none⟩) 32 32) (.slice (some ⟨w.heap.size + 1 + 1 + 1, 0, none⟩) 32 32) (by kernel_rfl) (by kernel_rfl) (fun _ _ d _ _ h => by cases d <;> exact h) rfl rfl (by kernel_rfl) (by kernel_rfl) rfl rfl (by kernel_rfl) (.inl ⟨rfl, exec_all32 _ rfl _ rfl⟩) (.inl ⟨rfl, exec_all32 _ rfl _ rfl⟩) ?_
  intro w4 hb4 hh4
  clear hh4
  simp only [Act.put, List.setIfInBounds_toArray, List.set_cons_succ, List.set_cons_zero, List.getElem_toArray, List.getElem_cons_zero, List.getElem_cons_succ]
  have s4 : Hid (Kn w4 [(w.heap.size + 1 + 1 + 1, bR b), (w.heap.size + 1 + 1, bR a), (w.heap.size + 1, bR f), (w.heap.size, bR A)]) := s3.out.up hb4.out
  have b4 : Hid (Below w.heap.size w w4) := b3.out.trans (hb4.out.mono b3.out.size)
  have X4 : Hid (By w4 v3 (S.by f ++ S.by a)) := X3.out.up hb4.out (Nat.le_refl _)
  clear s3 b3 hb4 X3
  have YX := Kn.by32 s4.out 2 rfl
  rw [hfs.out] at YX
  go_wp2_with (refine wp_appB rfl _ _ rfl w4.heap.size (.slice none 0 0) _ [] fS w4 rfl (Ob.nil _ _) (Below.refl _ _) rfl YX (by rw [LF.out]; decide) (Nat.le_refl _) ?_)
  intro v5 w5 o5 _ hb5
  have s5 : Hid (Kn w5 [(w.heap.size + 1 + 1 + 1, bR b), (w.heap.size + 1 + 1, bR a), (w.heap.size + 1, bR f), (w.heap.size, bR A)]) := s4.out.up hb5
  have YY := Kn.by32 s5.out 0 rfl
  rw [hbs.out] at YY
  have O5 : Hid (Ob w5 w4.heap.size v5 fS) := o5
  have G5 : Hid (w4.heap.size ≤ w5.heap.size) := hb5.size
  have G4 : Hid (w.heap.size ≤ w4.heap.size) := b4.out.size
  have H5 : Hid (Below w4.heap.size w4 w5) := hb5
  clear YX o5 hb5 s5
  go_wp2_with (refine wp_appB rfl _ _ rfl w4.heap.size v5 _ fS bS w5 rfl O5.out (Below.refl _ _) rfl YY (by rw [LF.out, LB.out]; decide) G5.out ?_)
  intro v6 w6 o6 _ hb6
  have Y6 : Hid (By w6 v6 (S.by f ++ S.by b)) := by rw [hfs.out, hbs.out]; exact o6.by
  have X6 : Hid (By w6 v3 (S.by f ++ S.by a)) := X4.out.up (H5.out.trans hb6) (Nat.le_refl _)
  have s6 : Hid (Kn w6 [(w.heap.size + 1 + 1 + 1, bR b), (w.heap.size + 1 + 1, bR a), (w.heap.size + 1, bR f), (w.heap.size, bR A)]) := s4.out.up (H5.out.trans hb6)
  have b6 : Hid (Below w.heap.size w w6) := b4.out.trans ((H5.out.trans hb6).mono G4.out)
  clear YY O5 o6 hb6 b4 G5 G4 H5 s4 X4 LF LA LB hfs has hbs
  go_wp2_with (first | refine wp_ldW rfl 22 _ rfl (w.heap.size) 0 rfl (bR (A)) _ (Kn.rng s6.out 3 rfl) Tryd.underlying22 rfl (info_bR (A)) ?_)
  refine (VX.out _ _ (HV.out.up b6.out (Nat.le_refl _)) X6.out (HT.out.up b6.out HT.out.pos)).mono ?_
  rintro e w7 ⟨rfl, hb7⟩
  replace X6 : Hid (By w7 v3 (S.by f ++ S.by a)) := By.up (xs := S.by f ++ S.by a) X6.out hb7 (Nat.le_refl _)
  replace Y6 : Hid (By w7 v6 (S.by f ++ S.by b)) := By.up (xs := S.by f ++ S.by b) Y6.out hb7 (Nat.le_refl _)
  have s7 : Hid (Kn w7 [(w.heap.size + 1 + 1 + 1, (bR (b))), (w.heap.size + 1 + 1, (bR (a))), (w.heap.size + 1, (bR (f))), (w.heap.size, (bR (A)))]) := s6.out.up hb7
  have b7 : Hid (Below w.heap.size w w7) := b6.out.trans (hb7.mono b6.out.size)
  have z7 := b7.out.size
  clear hb7 s6 b6
  go_wp2_with fail
  go_ret
  exact ⟨rfl, b7.out⟩
set_option maxRecDepth 20000 in
set_option maxHeartbeats 2000000 in
theorem signOnly_2 (A f a b : Nat) (c : Int) (hc : ¬ c = 0) (v : Value) (p : List Nat)
    (VX : Hid (∀ u w, By w v p → By w u (S.by f ++ S.by a) → KTab w → Calls Tryd.prog 9 #[bV A, v, u] w fun e w' => e = .returned (.int .i64 0) ∧ Below w.heap.size w w'))
    (VY : Hid (∀ u w, By w v p → By w u (S.by f ++ S.by b) → KTab w → Calls Tryd.prog 9 #[bV A, v, u] w fun e w' => e = .returned (.int .i64 c) ∧ Below w.heap.size w w'))
    (w : World) (hv : By w v p) (hT : KTab w) :
    Calls Tryd.prog 4 #[bV A, v, bV f, bV a, bV b] w fun e w' => e = .returned (.bool true) ∧ Below w.heap.size w w' := by
  have n1 : (c != 0) = true := by simp [hc]
  clear hc
  have HV : Hid (By w v p) := hv
  have HT : Hid (KTab w) := hT
  obtain ⟨fS, hfs⟩ : ∃ fS, Hid (S.by f = fS) := ⟨_, rfl⟩
  obtain ⟨aS, has⟩ : ∃ aS, Hid (S.by a = aS) := ⟨_, rfl⟩
  obtain ⟨bS, hbs⟩ : ∃ bS, Hid (S.by b = bS) := ⟨_, rfl⟩
  have LF : Hid (fS.length = 32) := by rw [← hfs.out]; exact S.by_length f
  have LA : Hid (aS.length = 32) := by rw [← has.out]; exact S.by_length a
  have LB : Hid (bS.length = 32) := by rw [← hbs.out]; exact S.by_length b
  clear hv hT
  go_enter Tryd.func4, Tryd.ntmps4
  have s0 : Hid (Kn ((((w.alloc (.cells (bR (A)).toArray 22)).alloc (.cells (bR (f)).toArray 22)).alloc (.cells (bR (a)).toArray 22)).alloc (.cells (bR (b)).toArray 22)) [(w.heap.size + 1 + 1 + 1, (bR (b))), (w.heap.size + 1 + 1, (bR (a))), (w.heap.size + 1, (bR (f))), (w.heap.size, (bR (A)))]) := (((((Kn.nil w).al (bR (A)) 22 rfl).al (bR (f)) 22 (by simp)).al (bR (a)) 22 (by simp)).al (bR (b)) 22 (by simp))
  have b0 : Hid (Below w.heap.size w ((((w.alloc (.cells (bR (A)).toArray 22)).alloc (.cells (bR (f)).toArray 22)).alloc (.cells (bR (a)).toArray 22)).alloc (.cells (bR (b)).toArray 22))) := (((((Below.refl _ _).alloc (Nat.le_refl _) _).alloc (by simp <;> omega) _).alloc (by simp <;> omega) _).alloc (by simp <;> omega) _)
  go_wp2_with fail
  refine wp_region_two 0 2 [1, 3, 4] [_, _, _] (.slice (some ⟨w.heap.size + 1, 0, none⟩) 32 32) (.slice (some ⟨w.heap.size + 1 + 1, 0, none⟩) 32 32) (by kernel_rfl) (by kernel_rfl) (fun _ _ d _ _ h => by cases d <;> exact h) rfl rfl (by kernel_rfl) (by kernel_rfl) rfl rfl (by kernel_rfl) (.inl ⟨rfl, exec_all32 _ rfl _ rfl⟩) (.inl ⟨rfl, exec_all32 _ rfl _ rfl⟩) ?_
  intro w1 hb1 hh1
  clear hh1
  simp only [Act.put, List.setIfInBounds_toArray, List.set_cons_succ, List.set_cons_zero, List.getElem_toArray, List.getElem_cons_zero, List.getElem_cons_succ]
  have s1 : Hid (Kn w1 [(w.heap.size + 1 + 1 + 1, bR b), (w.heap.size + 1 + 1, bR a), (w.heap.size + 1, bR f), (w.heap.size, bR A)]) := s0.out.up hb1.out
  have b1 : Hid (Below w.heap.size w w1) := b0.out.trans (hb1.out.mono b0.out.size)
  clear s0 b0 hb1
  have YX := Kn.by32 s1.out 2 rfl
  rw [hfs.out] at YX
  go_wp2_with (refine wp_appB rfl _ _ rfl w1.heap.size (.slice none 0 0) _ [] fS w1 rfl (Ob.nil _ _) (Below.refl _ _) rfl YX (by rw [LF.out]; decide) (Nat.le_refl _) ?_)
  intro v2 w2 o2 _ hb2
  have s2 : Hid (Kn w2 [(w.heap.size + 1 + 1 + 1, bR b), (w.heap.size + 1 + 1, bR a), (w.heap.size + 1, bR f), (w.heap.size, bR A)]) := s1.out.up hb2
  have YY := Kn.by32 s2.out 1 rfl
  rw [has.out] at YY
  have O2 : Hid (Ob w2 w1.heap.size v2 fS) := o2
  have G2 : Hid (w1.heap.size ≤ w2.heap.size) := hb2.size
  have G1 : Hid (w.heap.size ≤ w1.heap.size) := b1.out.size
  have H2 : Hid (Below w1.heap.size w1 w2) := hb2
  clear YX o2 hb2 s2
  go_wp2_with (refine wp_appB rfl _ _ rfl w1.heap.size v2 _ fS aS w2 rfl O2.out (Below.refl _ _) rfl YY (by rw [LF.out, LA.out]; decide) G2.out ?_)
  intro v3 w3 o3 _ hb3
  have X3 : Hid (By w3 v3 (S.by f ++ S.by a)) := by rw [hfs.out, has.out]; exact o3.by
  have s3 : Hid (Kn w3 [(w.heap.size + 1 + 1 + 1, bR b), (w.heap.size + 1 + 1, bR a), (w.heap.size + 1, bR f), (w.heap.size, bR A)]) := s1.out.up (H2.out.trans hb3)
  have b3 : Hid (Below w.heap.size w w3) := b1.out.trans ((H2.out.trans hb3).mono G1.out)
  clear YY O2 o3 hb3 b1 G2 G1 H2 s1
  go_wp2_with fail
  refine wp_region_two 0 2 [1, 3, 4] [_, _, _] (.slice (some ⟨w.heap.size + 1, 0, none⟩) 32 32) (.slice (some ⟨w.heap.size + 1 + 1 + 1, 0, none⟩) 32 32) (by kernel_rfl) (by kernel_rfl) (fun _ _ d _ _ h => by cases d <;> exact h) rfl rfl (by kernel_rfl) (by kernel_rfl) rfl rfl (by kernel_rfl) (.inl ⟨rfl, exec_all32 _ rfl _ rfl⟩) (.inl ⟨rfl, exec_all32 _ rfl _ rfl⟩) ?_
  intro w4 hb4 hh4
  clear hh4
  simp only [Act.put, List.setIfInBounds_toArray, List.set_cons_succ, List.set_cons_zero, List.getElem_toArray, List.getElem_cons_zero, List.getElem_cons_succ]
  have s4 : Hid (Kn w4 [(w.heap.size + 1 + 1 + 1, bR b), (w.heap.size + 1 + 1, bR a), (w.heap.size + 1, bR f), (w.heap.size, bR A)]) := s3.out.up hb4.out
  have b4 : Hid (Below w.heap.size w w4) := b3.out.trans (hb4.out.mono b3.out.size)
  have X4 : Hid (By w4 v3 (S.by f ++ S.by a)) := X3.out.up hb4.out (Nat.le_refl _)
  clear s3 b3 hb4 X3
  have YX := Kn.by32 s4.out 2 rfl
  rw [hfs.out] at YX
  go_wp2_with (refine wp_appB rfl _ _ rfl w4.heap.size (.slice none 0 0) _ [] fS w4 rfl (Ob.nil _ _) (Below.refl _ _) rfl YX (by rw [LF.out]; decide) (Nat.le_refl _) ?_)
  intro v5 w5 o5 _ hb5
  have s5 : Hid (Kn w5 [(w.heap.size + 1 + 1 + 1, bR b), (w.heap.size + 1 + 1, bR a), (w.heap.size + 1, bR f), (w.heap.size, bR A)]) := s4.out.up hb5
  have YY := Kn.by32 s5.out 0 rfl
  rw [hbs.out] at YY
  have O5 : Hid (Ob w5 w4.heap.size v5 fS) := o5
  have G5 : Hid (w4.heap.size ≤ w5.heap.size) := hb5.size
  have G4 : Hid (w.heap.size ≤ w4.heap.size) := b4.out.size
  have H5 : Hid (Below w4.heap.size w4 w5) := hb5
  clear YX o5 hb5 s5
  go_wp2_with (refine wp_appB rfl _ _ rfl w4.heap.size v5 _ fS bS w5 rfl O5.out (Below.refl _ _) rfl YY (by rw [LF.out, LB.out]; decide) G5.out ?_)
  intro v6 w6 o6 _ hb6
  have Y6 : Hid (By w6 v6 (S.by f ++ S.by b)) := by rw [hfs.out, hbs.out]; exact o6.by
  have X6 : Hid (By w6 v3 (S.by f ++ S.by a)) := X4.out.up (H5.out.trans hb6) (Nat.le_refl _)
  have s6 : Hid (Kn w6 [(w.heap.size + 1 + 1 + 1, bR b), (w.heap.size + 1 + 1, bR a), (w.heap.size + 1, bR f), (w.heap.size, bR A)]) := s4.out.up (H5.out.trans hb6)
  have b6 : Hid (Below w.heap.size w w6) := b4.out.trans ((H5.out.trans hb6).mono G4.out)
  clear YY O5 o6 hb6 b4 G5 G4 H5 s4 X4 LF LA LB hfs has hbs
  go_wp2_with (first | refine wp_ldW rfl 22 _ rfl (w.heap.size) 0 rfl (bR (A)) _ (Kn.rng s6.out 3 rfl) Tryd.underlying22 rfl (info_bR (A)) ?_)
  refine (VX.out _ _ (HV.out.up b6.out (Nat.le_refl _)) X6.out (HT.out.up b6.out HT.out.pos)).mono ?_
  rintro e w7 ⟨rfl, hb7⟩
  replace X6 : Hid (By w7 v3 (S.by f ++ S.by a)) := By.up (xs := S.by f ++ S.by a) X6.out hb7 (Nat.le_refl _)
  replace Y6 : Hid (By w7 v6 (S.by f ++ S.by b)) := By.up (xs := S.by f ++ S.by b) Y6.out hb7 (Nat.le_refl _)
  have s7 : Hid (Kn w7 [(w.heap.size + 1 + 1 + 1, (bR (b))), (w.heap.size + 1 + 1, (bR (a))), (w.heap.size + 1, (bR (f))), (w.heap.size, (bR (A)))]) := s6.out.up hb7
  have b7 : Hid (Below w.heap.size w w7) := b6.out.trans (hb7.mono b6.out.size)
  have z7 := b7.out.size
  clear hb7 s6 b6
  go_wp2_with (first | refine wp_ldW rfl 22 _ rfl (w.heap.size) 0 rfl (bR (A)) _ (Kn.rng s7.out 3 rfl) Tryd.underlying22 rfl (info_bR (A)) ?_)
  refine (VY.out _ _ (HV.out.up b7.out (Nat.le_refl _)) Y6.out (HT.out.up b7.out HT.out.pos)).mono ?_
  rintro e w8 ⟨rfl, hb8⟩
  replace X6 : Hid (By w8 v3 (S.by f ++ S.by a)) := By.up (xs := S.by f ++ S.by a) X6.out hb8 (Nat.le_refl _)
  replace Y6 : Hid (By w8 v6 (S.by f ++ S.by b)) := By.up (xs := S.by f ++ S.by b) Y6.out hb8 (Nat.le_refl _)
  have s8 : Hid (Kn w8 [(w.heap.size + 1 + 1 + 1, (bR (b))), (w.heap.size + 1 + 1, (bR (a))), (w.heap.size + 1, (bR (f))), (w.heap.size, (bR (A)))]) := s7.out.up hb8
  have b8 : Hid (Below w.heap.size w w8) := b7.out.trans (hb8.mono b7.out.size)
  have z8 := b8.out.size
  clear hb8 s7 b7
  go_wp2_with fail
  go_ret
  exact ⟨rfl, b8.out⟩
set_option maxRecDepth 20000 in
set_option maxHeartbeats 2000000 in
theorem signOnly_3 (A f a b : Nat) (v : Value) (p : List Nat) (eb : ∀ w, (binOp .eql 22 (bV a) (bV b)).run Tryd.prog w = .ok (.bool true) w)
    (VX : Hid (∀ u w, By w v p → By w u (S.by f ++ S.by a) → KTab w → Calls Tryd.prog 9 #[bV A, v, u] w fun e w' => e = .returned (.int .i64 0) ∧ Below w.heap.size w w'))
    (VY : Hid (∀ u w, By w v p → By w u (S.by f ++ S.by b) → KTab w → Calls Tryd.prog 9 #[bV A, v, u] w fun e w' => e = .returned (.int .i64 0) ∧ Below w.heap.size w w'))
    (w : World) (hv : By w v p) (hT : KTab w) :
    Calls Tryd.prog 4 #[bV A, v, bV f, bV a, bV b] w fun e w' => e = .returned (.bool true) ∧ Below w.heap.size w w' := by
  have HV : Hid (By w v p) := hv
  have HT : Hid (KTab w) := hT
  obtain ⟨fS, hfs⟩ : ∃ fS, Hid (S.by f = fS) := ⟨_, rfl⟩
  obtain ⟨aS, has⟩ : ∃ aS, Hid (S.by a = aS) := ⟨_, rfl⟩
  obtain ⟨bS, hbs⟩ : ∃ bS, Hid (S.by b = bS) := ⟨_, rfl⟩
  have LF : Hid (fS.length = 32) := by rw [← hfs.out]; exact S.by_length f
  have LA : Hid (aS.length = 32) := by rw [← has.out]; exact S.by_length a
  have LB : Hid (bS.length = 32) := by rw [← hbs.out]; exact S.by_length b
  clear hv hT
  go_enter Tryd.func4, Tryd.ntmps4
  have s0 : Hid (Kn ((((w.alloc (.cells (bR (A)).toArray 22)).alloc (.cells (bR (f)).toArray 22)).alloc (.cells (bR (a)).toArray 22)).alloc (.cells (bR (b)).toArray 22)) [(w.heap.size + 1 + 1 + 1, (bR (b))), (w.heap.size + 1 + 1, (bR (a))), (w.heap.size + 1, (bR (f))), (w.heap.size, (bR (A)))]) := (((((Kn.nil w).al (bR (A)) 22 rfl).al (bR (f)) 22 (by simp)).al (bR (a)) 22 (by simp)).al (bR (b)) 22 (by simp))
  have b0 : Hid (Below w.heap.size w ((((w.alloc (.cells (bR (A)).toArray 22)).alloc (.cells (bR (f)).toArray 22)).alloc (.cells (bR (a)).toArray 22)).alloc (.cells (bR (b)).toArray 22))) := (((((Below.refl _ _).alloc (Nat.le_refl _) _).alloc (by simp <;> omega) _).alloc (by simp <;> omega) _).alloc (by simp <;> omega) _)
  go_wp2_with fail
  refine wp_region_two 0 2 [1, 3, 4] [_, _, _] (.slice (some ⟨w.heap.size + 1, 0, none⟩) 32 32) (.slice (some ⟨w.heap.size + 1 + 1, 0, none⟩) 32 32) (by kernel_rfl) (by kernel_rfl) (fun _ _ d _ _ h => by cases d <;> exact h) rfl rfl (by kernel_rfl) (by kernel_rfl) rfl rfl (by kernel_rfl) (.inl ⟨rfl, exec_all32 _ rfl _ rfl⟩) (.inl ⟨rfl, exec_all32 _ rfl _ rfl⟩) ?_
  intro w1 hb1 hh1
  clear hh1
  simp only [Act.put, List.setIfInBounds_toArray, List.set_cons_succ, List.set_cons_zero, List.getElem_toArray, List.getElem_cons_zero, List.getElem_cons_succ]
  have s1 : Hid (Kn w1 [(w.heap.size + 1 + 1 + 1, bR b), (w.heap.size + 1 + 1, bR a), (w.heap.size + 1, bR f), (w.heap.size, bR A)]) := s0.out.up hb1.out
  have b1 : Hid (Below w.heap.size w w1) := b0.out.trans (hb1.out.mono b0.out.size)
  clear s0 b0 hb1
  have YX := Kn.by32 s1.out 2 rfl
  rw [hfs.out] at YX
  go_wp2_with (refine wp_appB rfl _ _ rfl w1.heap.size (.slice none 0 0) _ [] fS w1 rfl (Ob.nil _ _) (Below.refl _ _) rfl YX (by rw [LF.out]; decide) (Nat.le_refl _) ?_)
  intro v2 w2 o2 _ hb2
  have s2 : Hid (Kn w2 [(w.heap.size + 1 + 1 + 1, bR b), (w.heap.size + 1 + 1, bR a), (w.heap.size + 1, bR f), (w.heap.size, bR A)]) := s1.out.up hb2
  have YY := Kn.by32 s2.out 1 rfl
  rw [has.out] at YY
  have O2 : Hid (Ob w2 w1.heap.size v2 fS) := o2
  have G2 : Hid (w1.heap.size ≤ w2.heap.size) := hb2.size
  have G1 : Hid (w.heap.size ≤ w1.heap.size) := b1.out.size
  have H2 : Hid (Below w1.heap.size w1 w2) := hb2
  clear YX o2 hb2 s2
  go_wp2_with (refine wp_appB rfl _ _ rfl w1.heap.size v2 _ fS aS w2 rfl O2.out (Below.refl _ _) rfl YY (by rw [LF.out, LA.out]; decide) G2.out ?_)
  intro v3 w3 o3 _ hb3
  have X3 : Hid (By w3 v3 (S.by f ++ S.by a)) := by rw [hfs.out, has.out]; exact o3.by
  have s3 : Hid (Kn w3 [(w.heap.size + 1 + 1 + 1, bR b), (w.heap.size + 1 + 1, bR a), (w.heap.size + 1, bR f), (w.heap.size, bR A)]) := s1.out.up (H2.out.trans hb3)
  have b3 : Hid (Below w.heap.size w w3) := b1.out.trans ((H2.out.trans hb3).mono G1.out)
  clear YY O2 o3 hb3 b1 G2 G1 H2 s1
  go_wp2_with fail
  refine wp_region_two 0 2 [1, 3, 4] [_, _, _] (.slice (some ⟨w.heap.size + 1, 0, none⟩) 32 32) (.slice (some ⟨w.heap.size + 1 + 1 + 1, 0, none⟩) 32 32) (by kernel_rfl) (by kernel_rfl) (fun _ _ d _ _ h => by cases d <;> exact h) rfl rfl (by kernel_rfl) (by kernel_rfl) rfl rfl (by kernel_rfl) (.inl ⟨rfl, exec_all32 _ rfl _ rfl⟩) (.inl ⟨rfl, exec_all32 _ rfl _ rfl⟩) ?_
  intro w4 hb4 hh4
  clear hh4
  simp only [Act.put, List.setIfInBounds_toArray, List.set_cons_succ, List.set_cons_zero, List.getElem_toArray, List.getElem_cons_zero, List.getElem_cons_succ]
  have s4 : Hid (Kn w4 [(w.heap.size + 1 + 1 + 1, bR b), (w.heap.size + 1 + 1, bR a), (w.heap.size + 1, bR f), (w.heap.size, bR A)]) := s3.out.up hb4.out
  have b4 : Hid (Below w.heap.size w w4) := b3.out.trans (hb4.out.mono b3.out.size)
  have X4 : Hid (By w4 v3 (S.by f ++ S.by a)) := X3.out.up hb4.out (Nat.le_refl _)
  clear s3 b3 hb4 X3
  have YX := Kn.by32 s4.out 2 rfl
  rw [hfs.out] at YX
  go_wp2_with (refine wp_appB rfl _ _ rfl w4.heap.size (.slice none 0 0) _ [] fS w4 rfl (Ob.nil _ _) (Below.refl _ _) rfl YX (by rw [LF.out]; decide) (Nat.le_refl _) ?_)
  intro v5 w5 o5 _ hb5
  have s5 : Hid (Kn w5 [(w.heap.size + 1 + 1 + 1, bR b), (w.heap.size + 1 + 1, bR a), (w.heap.size + 1, bR f), (w.heap.size, bR A)]) := s4.out.up hb5
  have YY := Kn.by32 s5.out 0 rfl
  rw [hbs.out] at YY
  have O5 : Hid (Ob w5 w4.heap.size v5 fS) := o5
  have G5 : Hid (w4.heap.size ≤ w5.heap.size) := hb5.size
  have G4 : Hid (w.heap.size ≤ w4.heap.size) := b4.out.size
  have H5 : Hid (Below w4.heap.size w4 w5) := hb5
  clear YX o5 hb5 s5
  go_wp2_with (refine wp_appB rfl _ _ rfl w4.heap.size v5 _ fS bS w5 rfl O5.out (Below.refl _ _) rfl YY (by rw [LF.out, LB.out]; decide) G5.out ?_)
  intro v6 w6 o6 _ hb6
  have Y6 : Hid (By w6 v6 (S.by f ++ S.by b)) := by rw [hfs.out, hbs.out]; exact o6.by
  have X6 : Hid (By w6 v3 (S.by f ++ S.by a)) := X4.out.up (H5.out.trans hb6) (Nat.le_refl _)
  have s6 : Hid (Kn w6 [(w.heap.size + 1 + 1 + 1, bR b), (w.heap.size + 1 + 1, bR a), (w.heap.size + 1, bR f), (w.heap.size, bR A)]) := s4.out.up (H5.out.trans hb6)
  have b6 : Hid (Below w.heap.size w w6) := b4.out.trans ((H5.out.trans hb6).mono G4.out)
  clear YY O5 o6 hb6 b4 G5 G4 H5 s4 X4 LF LA LB hfs has hbs
  go_wp2_with (first | refine wp_ldW rfl 22 _ rfl (w.heap.size) 0 rfl (bR (A)) _ (Kn.rng s6.out 3 rfl) Tryd.underlying22 rfl (info_bR (A)) ?_)
  refine (VX.out _ _ (HV.out.up b6.out (Nat.le_refl _)) X6.out (HT.out.up b6.out HT.out.pos)).mono ?_
  rintro e w7 ⟨rfl, hb7⟩
  replace X6 : Hid (By w7 v3 (S.by f ++ S.by a)) := By.up (xs := S.by f ++ S.by a) X6.out hb7 (Nat.le_refl _)
  replace Y6 : Hid (By w7 v6 (S.by f ++ S.by b)) := By.up (xs := S.by f ++ S.by b) Y6.out hb7 (Nat.le_refl _)
  have s7 : Hid (Kn w7 [(w.heap.size + 1 + 1 + 1, (bR (b))), (w.heap.size + 1 + 1, (bR (a))), (w.heap.size + 1, (bR (f))), (w.heap.size, (bR (A)))]) := s6.out.up hb7
  have b7 : Hid (Below w.heap.size w w7) := b6.out.trans (hb7.mono b6.out.size)
  have z7 := b7.out.size
  clear hb7 s6 b6
  go_wp2_with (first | refine wp_ldW rfl 22 _ rfl (w.heap.size) 0 rfl (bR (A)) _ (Kn.rng s7.out 3 rfl) Tryd.underlying22 rfl (info_bR (A)) ?_)
  refine (VY.out _ _ (HV.out.up b7.out (Nat.le_refl _)) Y6.out (HT.out.up b7.out HT.out.pos)).mono ?_
  rintro e w8 ⟨rfl, hb8⟩
  replace X6 : Hid (By w8 v3 (S.by f ++ S.by a)) := By.up (xs := S.by f ++ S.by a) X6.out hb8 (Nat.le_refl _)
  replace Y6 : Hid (By w8 v6 (S.by f ++ S.by b)) := By.up (xs := S.by f ++ S.by b) Y6.out hb8 (Nat.le_refl _)
  have s8 : Hid (Kn w8 [(w.heap.size + 1 + 1 + 1, (bR (b))), (w.heap.size + 1 + 1, (bR (a))), (w.heap.size + 1, (bR (f))), (w.heap.size, (bR (A)))]) := s7.out.up hb8
  have b8 : Hid (Below w.heap.size w w8) := b7.out.trans (hb8.mono b7.out.size)
  have z8 := b8.out.size
  clear hb8 s7 b7
  go_wp2_with (first | refine wp_ldW rfl 22 _ rfl (w.heap.size + 1 + 1) 0 rfl (bR (a)) _ (Kn.rng s8.out 1 rfl) Tryd.underlying22 rfl (info_bR (a)) ?_ | refine wp_ldW rfl 22 _ rfl (w.heap.size + 1 + 1 + 1) 0 rfl (bR (b)) _ (Kn.rng s8.out 0 rfl) Tryd.underlying22 rfl (info_bR (b)) ?_)
  go_ret
  exact ⟨rfl, b8.out⟩
set_option maxRecDepth 100000 in
theorem sgEq_self (n : Nat) (w : World) : (binOp .eql 22 (bV n) (bV n)).run Tryd.prog w = .ok (.bool true) w := by
  have hg : ∀ j, j < 32 → (bR n).toArray[j]? = some (.int .u8 ((n / 256 ^ j % 256 : Nat) : Int)) := fun j hj => by simp [bR, hj]
  rw [run_eql_ints (P := Tryd.prog) (t := 22) (e := 5) (n := 32) (k := .u8) Tryd.underlying22 rfl Tryd.underlying5 (by kernel_rfl) (by kernel_rfl) (fun j => ((n / 256 ^ j % 256 : Nat) : Int)) (fun j => ((n / 256 ^ j % 256 : Nat) : Int)) _ _ hg hg]
  simp
theorem signOnly_of (VC : SgVerC) (A f a b : Nat) (hA : A < 2 ^ 256) (hf : f < 2 ^ 256) (ha : a < 2 ^ 256) (hb : b < 2 ^ 256) (p : List Nat) (lp : lowP p) (v : Value) (w : World) (hv : By w v p) (hT : KTab w) :
    Calls Tryd.prog 4 #[bV A, v, bV f, bV a, bV b] w fun e w' => e = .returned (.bool true) ∧ Below w.heap.size w w' := by
  have V : ∀ s, s < 2 ^ 256 → ∀ u w, By w v p → By w u (S.by f ++ S.by s) → KTab w → Calls Tryd.prog 9 #[bV A, v, u] w fun e w' => e = .returned (.int .i64 ((Sg.ver chN A p f s : Nat) : Int)) ∧ Below w.heap.size w w' := fun s hs u w hv hu hT => by
    have := VC A hA p _ lp (low_sig f s) v u w hv hu hT
    rwa [vr_two A p hf hs] at this
  have VX := V a ha
  have VY := V b hb
  by_cases h1 : Sg.ver chN A p f a = 0
  · by_cases h2 : Sg.ver chN A p f b = 0
    · obtain rfl := Sg.ver_only h1 h2
      rw [h1] at VX
      exact signOnly_3 A f a a v p (sgEq_self a) VX VX w hv hT
    · rw [h1] at VX
      exact signOnly_2 A f a b _ (by omega) v p VX VY w hv hT
  · exact signOnly_1 A f a b _ (by omega) v p VX w hv hT
end Go.Proofs.YtfknkfninjjgbaaDoor
