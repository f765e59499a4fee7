/- Texts that were joined: COwn, SgC. -/
import Derived.Test.YtfknkfninjjgbabDoorQCvIdToSgM
import Derived.Test.YtfknkfninjjgbabDoorQHLaidToSDig
import Derived.Test.YtfknkfninjjgbabDoorQKnF
import Derived.Test.YtfknkfninjjgbabDoorQEqPToCrvB
import Derived.Test.YtfknkfninjjgbabDoorQShlToCvPk
/- The point that is its own Neg, beside Zero; no multiple of the base packs to 0. Mathematics alone. -/
namespace Go.Proofs.YtfknkfninjjgbabDoor.Cv
open Go.Proofs.YtfknkfninjjgbabDoor
/-- The point that is its own Neg, beside Zero. -/
def own : Pt := (0, F.sub 0 1)
theorem own_on : On own := by
  refine ⟨by decide, by decide, ?_⟩
  show Z _
  unfold Z E own
  decide +kernel
theorem own_sum : add own own = zero := by
  refine (sum_only own_on own_on (R := zero) (by decide) (by decide) ⟨?_, ?_⟩).symm
  · show Z _
    unfold Z own zero
    decide +kernel
  · show Z _
    unfold Z own zero
    decide +kernel
theorem own_2 : Z ((own.2 : Int) + 1) := by
  unfold Z own
  decide +kernel
set_option maxHeartbeats 400000 in
theorem four_flat {P : Pt} (hP : On P) (h : P.2 = 0) : times 4 P = zero := by
  have e2 : own = add P P := by
    have hz : Z (E P.1 P.2) := hP.2.2
    rw [h] at hz
    have ho : Z ((own.2 : Int) + 1) := own_2
    refine sum_only hP hP own_on.1 own_on.2.1 ?_
    rw [h]
    have h1 : (own.1 : Int) = 0 := rfl
    generalize (own.2 : Int) = o at *
    rw [h1]
    generalize (P.1 : Int) = x at *
    unfold E at hz
    generalize (d : Int) = dd at *
    constructor
    · show Z _
      exact Z.zero.of_eq (by grind)
    · show Z _
      exact (ho.add hz).of_eq (by grind)
  have h2 : times 2 P = own := by
    have := times_two hP 1
    rw [times_one hP] at this
    rw [e2]
    exact this
  have h4 := times_two hP 2
  rw [h2, own_sum] at h4
  exact h4
theorem four_mod {r : Nat} (hr : r < ord) (h4 : 4 * r % ord = 0) : r = 0 := by
  obtain ⟨q, hq⟩ := Nat.dvd_of_mod_eq_zero h4
  have ho : ord % 4 = 1 := by decide
  have hq4 : q < 4 := by
    refine Nat.lt_of_mul_lt_mul_left (a := ord) ?_
    rw [← hq, Nat.mul_comm ord 4]
    exact Nat.mul_lt_mul_of_pos_left hr (by decide)
  have hm : ord * q % 4 = 0 := by rw [← hq]; exact Nat.mul_mod_right 4 r
  rw [Nat.mul_mod, ho, Nat.one_mul, Nat.mod_mod, Nat.mod_eq_of_lt hq4] at hm
  rw [hm, Nat.mul_zero] at hq
  omega
theorem pk_no {r : Nat} (h0 : r ≠ 0) (hr : r < ord) : pk (times r base) ≠ 0 := fun e => by
  have hP := times_on base_on r
  have hy : (times r base).2 = 0 := by
    unfold pk at e
    omega
  have h4 := four_flat hP hy
  rw [← times_mul base_on, base_iff] at h4
  exact h0 (four_mod hr h4)
end Go.Proofs.YtfknkfninjjgbabDoor.Cv

/- Pairs of keys and signatures as rows; what package sign must keep. -/
namespace Go.Proofs.YtfknkfninjjgbabDoor
open Go.RowKit
set_option linter.unusedSimpArgs false
/-- A pair: its secret number, its mask, its public one. -/
def prR (x : Nm) (m a : Nat) : List Value := c4 x ++ (bR m ++ bR a)
abbrev prV (x : Nm) (m a : Nat) : Value := .agg (prR x m a).toArray
def pairZ : List Value := zz4 ++ List.replicate 64 (.int .u8 0)
theorem prR_length (x : Nm) (m a : Nat) : (prR x m a).length = 68 := by rw [prR, List.length_append, List.length_append, bR_length, bR_length]; rfl
theorem pairZ_length : pairZ.length = 68 := rfl
theorem prR_one (x : Nm) (m a : Nat) : ∀ v ∈ prR x m a, v.oneCell' = true := fun v hv => by
  unfold prR at hv
  rcases List.mem_append.1 hv with h | h
  · exact c4_one x v h
  · rcases List.mem_append.1 h with h | h
    · exact bR_one m v h
    · exact bR_one a v h
theorem info_pair : (Tryd.prog.info? 28).map (·.size) = some 68 := by kernel_rfl
theorem info_prR (x : Nm) (m a : Nat) : (Tryd.prog.info? 28).map (·.size) = some (prR x m a).length := by rw [prR_length]; exact info_pair
theorem zero_pair (w : World) : (zeroValue 28).run Tryd.prog w = .ok (.agg pairZ.toArray) w := I.zero_of (by kernel_rfl) w
theorem Kn.png0 {w : World} {L : List (Nat × List Value)} (h : Kn w L) (i : Nat) {k : Nat} {x : Nm} {m a : Nat} (hp : L[i]? = some (k, prR x m a)) : w.rangeAt k 0 (c4 x) := (range_app (h.rng i hp)).1
theorem Kn.png1 {w : World} {L : List (Nat × List Value)} (h : Kn w L) (i : Nat) {k : Nat} {x : Nm} {m a : Nat} (hp : L[i]? = some (k, prR x m a)) : w.rangeAt k 4 (bR m) := by
  have := (range_app (range_app (h.rng i hp)).2).1
  exact this
theorem Kn.png2 {w : World} {L : List (Nat × List Value)} (h : Kn w L) (i : Nat) {k : Nat} {x : Nm} {m a : Nat} (hp : L[i]? = some (k, prR x m a)) : w.rangeAt k 36 (bR a) := by
  have := (range_app (range_app (h.rng i hp)).2).2
  rw [bR_length] at this
  exact this
/-- A signature: its front, and the number at its end. -/
def sgR (r s : Nat) : List Value := bR r ++ bR s
abbrev sgV (r s : Nat) : Value := .agg (sgR r s).toArray
def sgZ : List Value := List.replicate 64 (.int .u8 0)
theorem sgR_length (r s : Nat) : (sgR r s).length = 64 := by rw [sgR, List.length_append, bR_length, bR_length]
theorem sgZ_length : sgZ.length = 64 := by simp [sgZ]
theorem sgR_one (r s : Nat) : ∀ v ∈ sgR r s, v.oneCell' = true := fun v hv => by
  unfold sgR at hv
  rcases List.mem_append.1 hv with h | h
  · exact bR_one r v h
  · exact bR_one s v h
theorem info_b64 : (Tryd.prog.info? 46).map (·.size) = some 64 := by kernel_rfl
theorem info_sgR (r s : Nat) : (Tryd.prog.info? 46).map (·.size) = some (sgR r s).length := by rw [sgR_length]; exact info_b64
theorem zero_b64 (w : World) : (zeroValue 46).run Tryd.prog w = .ok (.agg sgZ.toArray) w := I.zero_of (by kernel_rfl) w
theorem u_b64 : Tryd.prog.underlying 46 = some (.array 64 5) := by kernel_rfl
theorem Kn.by64 {w : World} {L : List (Nat × List Value)} (h : Kn w L) (i : Nat) {k r s : Nat} (hp : L[i]? = some (k, sgR r s)) : By w (.slice (some ⟨k, 0, none⟩) 64 64) (S.by r ++ S.by s) := by
  have hb := h.all _ (List.mem_of_getElem? hp)
  have hl : (S.by r ++ S.by s).length = 64 := by rw [List.length_append, S.by_length, S.by_length]
  have := By.of_cells (w := w) (b := k) (o := 0) (c := 64) (xs := S.by r ++ S.by s) (by rw [hl]; decide) fun j hj => by
    rw [Nat.zero_add]
    refine hb.cell j _ ?_
    show (sgR r s)[j]? = _
    rw [sgR, S.by_row, S.by_row, ← List.map_append, List.getElem?_map, List.getElem?_eq_getElem hj, List.getD_eq_getElem?_getD, List.getElem?_eq_getElem hj]
    rfl
  rw [hl] at this
  exact this
theorem quiet_all64 {ops : Array Oper} {C : World → Prop} {Q : Act → Prop} {o : Oper} {rest : List Oper} {a : Act} (hw : Region.wanted o (yielded ops a.tmps) = true) (x : Operand) (ho : o.op = .slice 46 x none none none) (b : Nat) (hx : a.eval x = .pointer (some ⟨b, 0, none⟩))
    (h : wpQuiet Tryd.prog ops C Q rest (a.put o.dst (.slice (some ⟨b, 0, none⟩) 64 64))) : wpQuiet Tryd.prog ops C Q (o :: rest) a := by
  refine BigFrame.wpQuiet_want hw fun K hK => ⟨.slice (some ⟨b, 0, none⟩) 64 64, fun w _ => ?_, hK _ h⟩
  have e1 := slice_all u_b64 u_b32r (by decide) b 0 w
  unfold Oper.quietAt
  have e : (execOp a.eval o).run Tryd.prog w = .ok (.value (.slice (some ⟨b, 0, none⟩) 64 64)) w := by
    unfold execOp
    simp [ho, hx, e1]
  rw [e]
  exact ⟨rfl, rfl⟩
theorem quiet_buildZ {t : TypeId} {cs : Array Value} {ops : Array Oper} {C : World → Prop} {Q : Act → Prop} {o : Oper} {rest : List Oper} {a : Act} (hw : Region.wanted o (yielded ops a.tmps) = true) (ho : o.op = .build t #[]) (hb : Tryd.prog.built t [] = some cs)
    (h : wpQuiet Tryd.prog ops C Q rest (a.put o.dst (.agg cs))) : wpQuiet Tryd.prog ops C Q (o :: rest) a := by
  refine BigFrame.wpQuiet_want hw fun K hK => ⟨.agg cs, fun w _ => ?_, hK _ h⟩
  have e1 : (Instr.build t ((#[] : Array (Nat × Operand)).map fun x => (x.fst, a.eval x.snd))).run Tryd.prog w = .ok (.agg cs) w := run_build w t _ _ (by simpa using hb)
  unfold Oper.quietAt
  have e : (execOp a.eval o).run Tryd.prog w = .ok (.value (.agg cs)) w := by
    simp only [execOp, ho, Sem.run_bind, e1, Result.andThen_ok, Sem.run_pure]
  rw [e]
  exact ⟨rfl, rfl⟩
theorem pub_field (x : Nm) (m a : Nat) (w : World) : (Instr.field 28 (prV x m a) 2).run Tryd.prog w = .ok (bV a) w := by kernel_rfl
theorem quiet_pub {ops : Array Oper} {C : World → Prop} {Q : Act → Prop} {o : Oper} {rest : List Oper} {act : Act} (hw : Region.wanted o (yielded ops act.tmps) = true) (y : Operand) (ho : o.op = .field 28 y 2) (x : Nm) (m a : Nat) (hy : act.eval y = prV x m a)
    (h : wpQuiet Tryd.prog ops C Q rest (act.put o.dst (bV a))) : wpQuiet Tryd.prog ops C Q (o :: rest) act := by
  refine BigFrame.wpQuiet_want hw fun K hK => ⟨bV a, fun w _ => ?_, hK _ h⟩
  unfold Oper.quietAt
  have e : (execOp act.eval o).run Tryd.prog w = .ok (.value (bV a)) w := by
    have e1 := pub_field x m a w
    generalize act.eval = ev at *
    unfold execOp
    simp [ho, hy, e1]
  rw [e]
  exact ⟨rfl, rfl⟩
theorem b64_zero : Tryd.prog.built 46 [] = some (sgR 0 0).toArray := by kernel_rfl
set_option maxRecDepth 100000 in
theorem neSg {r s : Nat} (hr : r < 2 ^ 256) (h0 : r ≠ 0) (w : World) : (binOp .neq 46 (sgV r s) (sgV 0 0)).run Tryd.prog w = .ok (.bool true) w := by
  have hg : ∀ r s j, j < 64 → (sgR r s).toArray[j]? = some (.int .u8 (if j < 32 then ((r / 256 ^ j % 256 : Nat) : Int) else ((s / 256 ^ (j - 32) % 256 : Nat) : Int))) := fun r s j hj => by
    rw [List.getElem?_toArray, sgR]
    by_cases h : j < 32
    · rw [List.getElem?_append_left (by rw [bR_length]; exact h), if_pos h]
      simp [bR, h]
    · rw [List.getElem?_append_right (by rw [bR_length]; omega), bR_length, if_neg h]
      simp [bR, show j - 32 < 32 by omega]
  rw [run_neq_intsN (P := Tryd.prog) (t := 46) (e := 5) (n := 64) (k := .u8) u_b64 rfl Tryd.underlying5 (by kernel_rfl) (by kernel_rfl) _ _ _ _ (hg r s) (hg 0 0)]
  congr 2
  rw [Bool.not_eq_true']
  refine Bool.eq_false_iff.2 fun e => h0 ?_
  have e2 : ∀ j, j < 32 → r / 256 ^ j % 256 = 0 / 256 ^ j % 256 := fun j hj => by
    have h1 := List.all_eq_true.1 e j (List.mem_range.2 (by omega))
    rw [if_pos hj, if_pos hj] at h1
    exact Int.ofNat.inj (eq_of_beq h1)
  have h3 := byte_eq 32 e2
  rw [show (256 : Nat) ^ 32 = 2 ^ 256 by decide, Nat.mod_eq_of_lt hr, Nat.zero_mod] at h3
  exact h3
/-- The numbers and points of keys and signatures. -/
def dgN (l : Nat) (p : List Nat) : Nat := S.le (S.dig l p) % Cv.ord
def nzN (x : Nat) : Nat := if x = 0 then 1 else x
def secN (n : Nat) : Nat := nzN (dgN 1 (S.by n))
def mskN (n : Nat) : Nat := S.le (sumS (2 :: S.by n))
def pubN (n : Nat) : Nat := Cv.pk (Cv.times (secN n) Cv.base)
def rN (n : Nat) (p : List Nat) : Nat := nzN (dgN 3 (S.by (mskN n) ++ p))
def frN (n : Nat) (p : List Nat) : Nat := Cv.pk (Cv.times (rN n p) Cv.base)
def chN (R A : Nat) (p : List Nat) : Nat := dgN 4 (S.by R ++ (S.by A ++ p))
def bkN (n : Nat) (p : List Nat) : Nat := (rN n p + chN (frN n p) (pubN n) p * secN n) % Cv.ord
def vrN (A : Nat) (p sig : List Nat) : Nat := if sig.length = 64 then Sg.ver chN A p (S.le (sig.take 32)) (S.le (sig.drop 32)) else 1
abbrev lowP (p : List Nat) : Prop := (∀ x ∈ p, x < 256) ∧ p.length ≤ 140737488351232
def SgNewC : Prop := ∀ n, n < 2 ^ 256 → ∀ w, KTab w → Calls Tryd.prog 6 #[bV n] w fun e w' => e = .returned (prV (nm (secN n)) (mskN n) (pubN n)) ∧ Below w.heap.size w w'
def SgSignC : Prop := ∀ n, n < 2 ^ 256 → ∀ p, lowP p → ∀ v w, By w v p → KTab w → Calls Tryd.prog 14 #[bV n, v] w fun e w' => e = .returned (sgV (frN n p) (bkN n p)) ∧ Below w.heap.size w w'
def SgVerC : Prop := ∀ A, A < 2 ^ 256 → ∀ p q, lowP p → lowP q → ∀ v u w, By w v p → By w u q → KTab w → Calls Tryd.prog 12 #[bV A, v, u] w fun e w' => e = .returned (.int .i64 (vrN A p q : Nat)) ∧ Below w.heap.size w w'
theorem pub_lt (n : Nat) : pubN n < 2 ^ 256 := Cv.pk_lt (Cv.times_on Cv.base_on _)
theorem fr_lt (n : Nat) (p : List Nat) : frN n p < 2 ^ 256 := Cv.pk_lt (Cv.times_on Cv.base_on _)
theorem bk_lt (n : Nat) (p : List Nat) : bkN n p < 2 ^ 256 := Nat.lt_trans (Nat.mod_lt _ ord_pos) ord_lt
theorem vr_two (A : Nat) (p : List Nat) {r s : Nat} (hr : r < 2 ^ 256) (hs : s < 2 ^ 256) : vrN A p (S.by r ++ S.by s) = Sg.ver chN A p r s := by
  unfold vrN
  rw [if_pos (by rw [List.length_append, S.by_length, S.by_length]), List.take_left' (S.by_length r), List.drop_left' (S.by_length r), S.le_by hr, S.le_by hs]
/-- What was signed is verified. -/
theorem vr_true (n : Nat) (p : List Nat) : vrN (pubN n) p (S.by (frN n p) ++ S.by (bkN n p)) = 0 := by
  rw [vr_two _ _ (fr_lt n p) (bk_lt n p)]
  exact Sg.ver_true chN (secN n) (rN n p) p
theorem sec_pos (n : Nat) : secN n ≠ 0 := by
  unfold secN nzN
  split <;> omega
theorem sec_lt (n : Nat) : secN n < Cv.ord := by
  unfold secN nzN
  split
  · decide
  · exact Nat.mod_lt _ ord_pos
theorem fr_no (n : Nat) (p : List Nat) : frN n p ≠ 0 := by
  have h : ∀ x, nzN (x % Cv.ord) ≠ 0 ∧ nzN (x % Cv.ord) < Cv.ord := fun x => by
    have := Nat.mod_lt x ord_pos
    unfold nzN
    split
    · exact ⟨by decide, by decide⟩
    · exact ⟨by assumption, this⟩
  exact Cv.pk_no (h _).1 (h _).2
theorem low_sig (r s : Nat) : lowP (S.by r ++ S.by s) := ⟨low_app (S.by_low r) (S.by_low s), by rw [List.length_append, S.by_length, S.by_length]; decide⟩
end Go.Proofs.YtfknkfninjjgbabDoor
