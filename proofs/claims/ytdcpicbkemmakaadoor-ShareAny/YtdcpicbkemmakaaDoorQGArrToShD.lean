/- Texts that were joined: GArr, Cpy, ScOf, SNum, Yc, Yo, ShR, Own, ShW, FeL, FeA, FeM, FeN, FeP, ShA, ShAw, ShAt, ShF, ShFt, Made, ShO, ShD. -/
import Derived.Test.YtdcpicbkemmakaaDoorQBKToHB
import Derived.Test.YtdcpicbkemmakaaDoorQUpMToUpS
import Derived.ChangeKeysEq
import Derived.Test.YtdcpicbkemmakaaDoorQHHashToMacM
import Derived.Test.YtdcpicbkemmakaaDoorQBsMkToHRd
import Derived.Laws.IdiomCopy
import Derived.Test.YtdcpicbkemmakaaDoorQScF
import Derived.Test.YtdcpicbkemmakaaDoorQFMathToOfB
import Derived.Test.YtdcpicbkemmakaaDoorQUpAToUp3
import Derived.Test.YtdcpicbkemmakaaDoorQKnToDNum
import Derived.Test.YtdcpicbkemmakaaDoorQDDigPToDrawCB
import Derived.Test.YtdcpicbkemmakaaDoorQDMinusToDNumP
import Derived.Test.YtdcpicbkemmakaaDoorQNumToDTimes
import Derived.Test.YtdcpicbkemmakaaDoorRows
import Derived.Deep.MidRow
import Derived.Test.YtdcpicbkemmakaaDoorQPrimeToAdN
import Derived.ProofKit
import Derived.Test.YtdcpicbkemmakaaDoorQArrToHOpen
import Derived.ChangeSame
import Derived.Deep.Slices
import Derived.Deep.LoopGhost
/- Arrays of bytes as values: an element by its place; arrays that are loaded and stored whole. -/
namespace Go.Proofs.YtdcpicbkemmakaaDoor
open Go.RowKit
set_option linter.unusedSimpArgs false
section
variable {P : Program}
end
section
open Go.BigFrame
variable {ops : Array Oper} {rest : List Oper} {o : Oper} {a : Act} {C : World → Prop} {Q : Act → Prop}
end
end Go.Proofs.YtdcpicbkemmakaaDoor

/- copy of bytes out of a row, and out of a slice, into a range that may be written; an array sliced from a place on. -/
namespace Go.Proofs.YtdcpicbkemmakaaDoor
open Go.RowKit
set_option linter.unusedSimpArgs false
theorem By.range {w : World} {a : Option Addr} {n c : Nat} {xs : List Nat} (h : By w (.slice a n c) xs) (hp : 0 < xs.length) : ∃ g q, a = some ⟨g, q, none⟩ ∧ n = xs.length ∧ w.rangeAt g q (xs.map b8) := by
  obtain ⟨a', c', e, h1, h2, h3⟩ := h
  cases e
  obtain ⟨g, q, e, hc⟩ := h3 hp
  refine ⟨g, q, e, rfl, fun j v hj => ?_⟩
  rw [List.getElem?_map] at hj
  rcases Nat.lt_or_ge j xs.length with h | h
  · rw [hc j h]
    simp [List.getD_eq_getElem?_getD, h] at hj ⊢
    exact hj
  · simp [List.getElem?_eq_none h] at hj
end Go.Proofs.YtdcpicbkemmakaaDoor

/- Package scalar, as it landed: ofHalves, Of. -/
namespace Go.Proofs.YtdcpicbkemmakaaDoor
open Go.RowKit
attribute [local go_sem] World.cell?_alloc_some cell_alloc2 cell_alloc3 cell_alloc4 frozen?_alloc_cells frozen_out
set_option linter.unusedSimpArgs false
/-- The number of bytes, the least first. -/
def S.le : List Nat → Nat
  | [] => 0
  | x :: xs => x + 256 * S.le xs
theorem S.le_append : ∀ xs ys : List Nat, S.le (xs ++ ys) = S.le xs + 256 ^ xs.length * S.le ys
  | [], ys => by simp [S.le]
  | x :: xs, ys => by
    rw [List.cons_append, S.le, S.le, S.le_append xs ys, List.length_cons, Nat.pow_succ, Nat.mul_comm (256 ^ xs.length) 256, Nat.mul_assoc]
    omega
theorem S.le_zeros : ∀ n, S.le (List.replicate n 0) = 0
  | 0 => rfl
  | n + 1 => by rw [List.replicate_succ, S.le, S.le_zeros n]
theorem S.le_lt : ∀ xs : List Nat, (∀ x ∈ xs, x < 256) → S.le xs < 256 ^ xs.length
  | [], _ => by simp [S.le]
  | x :: xs, h => by
    have h1 := S.le_lt xs fun y hy => h y (List.mem_cons_of_mem _ hy)
    have h2 := h x List.mem_cons_self
    rw [S.le, List.length_cons, Nat.pow_succ]
    omega
theorem S.le_at : ∀ (xs : List Nat), (∀ x ∈ xs, x < 256) → ∀ i, S.le xs / 256 ^ i % 256 = xs.getD i 0
  | [], _, i => by simp [S.le]
  | x :: xs, h, 0 => by
    have h2 := h x List.mem_cons_self
    rw [S.le, Nat.pow_zero, Nat.div_one]
    show _ = x
    omega
  | x :: xs, h, i + 1 => by
    have h2 := h x List.mem_cons_self
    rw [S.le, Nat.pow_succ, Nat.mul_comm (256 ^ i) 256, ← Nat.div_div_eq_div_mul, show (x + 256 * S.le xs) / 256 = S.le xs by omega, S.le_at xs (fun y hy => h y (List.mem_cons_of_mem _ hy)) i]
    simp
theorem S.row {xs : List Nat} (hl : xs.length = 32) (h : ∀ x ∈ xs, x < 256) : xs.map b8 = bR (S.le xs) := by
  apply List.ext_getElem?
  intro i
  by_cases hi : i < 32
  · have h1 := S.le_at xs h i
    rw [List.getD_eq_getElem?_getD, List.getElem?_eq_getElem (by omega)] at h1
    rw [List.getElem?_map, List.getElem?_eq_getElem (by omega)]
    simp only [Option.getD_some] at h1
    simp only [bR, List.getElem?_map, List.getElem?_range hi, Option.map_some]
    rw [h1]
  · rw [List.getElem?_eq_none (by simp; omega), List.getElem?_eq_none (by rw [bR_length]; omega)]
theorem S.low {xs : List Nat} (hl : xs.length = 32) (h : ∀ x ∈ xs, x < 256) : S.le xs < 2 ^ 256 := Nat.lt_of_lt_of_le (S.le_lt xs h) (by rw [hl]; decide)
/-- Thirty-two bytes: these, and noughts behind them. -/
def S.pad (xs : List Nat) : List Nat := xs ++ List.replicate (32 - xs.length) 0
theorem S.pad_length {xs : List Nat} (h : xs.length ≤ 32) : (S.pad xs).length = 32 := by simp [S.pad]; omega
theorem S.pad_low {xs : List Nat} (h : ∀ x ∈ xs, x < 256) : ∀ x ∈ S.pad xs, x < 256 := low_app h (low_rep _)
theorem S.pad_le (xs : List Nat) : S.le (S.pad xs) = S.le xs := by rw [S.pad, S.le_append, S.le_zeros, Nat.mul_zero, Nat.add_zero]
theorem S.halves (xs : List Nat) : S.le xs = S.le (S.pad (xs.take 32)) + 2 ^ 256 * S.le (S.pad (xs.drop 32)) := by
  rw [S.pad_le, S.pad_le]
  rcases Nat.lt_or_ge 32 xs.length with h | h
  · conv => lhs; rw [← List.take_append_drop 32 xs]
    rw [S.le_append, List.length_take, Nat.min_eq_left (by omega), show (256 : Nat) ^ 32 = 2 ^ 256 by decide]
  · rw [List.take_of_length_le h, List.drop_of_length_le h, S.le, Nat.mul_zero, Nat.add_zero]
theorem Kn.fill {w : World} {L : List (Nat × List Value)} {k : Nat} {xs : List Nat} (h : Kn w ((k, bZ) :: L)) (hl : xs.length ≤ 32) (lo : ∀ x ∈ xs, x < 256) : Kn (w.setCells k 0 (xs.map b8)) ((k, bR (S.le (S.pad xs))) :: L) := by
  have hb0 := h.all _ List.mem_cons_self
  have ht : w.there k 0 (xs.map b8).length := fun j hj => by
    have hj' : j < 32 := by rw [List.length_map] at hj; omega
    rw [Nat.zero_add]
    refine ⟨?_, hb0.fz _⟩
    rw [hb0.cell j (.int .u8 0) (by show (List.replicate 32 (Value.int .u8 0))[j]? = _; rw [List.getElem?_replicate, if_pos hj'])]
    rfl
  refine ⟨h.nd, fun p hp => ?_⟩
  rcases List.mem_cons.1 hp with rfl | hp
  · refine ⟨by rw [I.size_setCells]; exact hb0.lt, fun j v hv => ?_, fun j => by rw [World.frozen?_setCells]; exact hb0.fz j⟩
    rw [← S.row (S.pad_length hl) (S.pad_low lo), S.pad, List.map_append] at hv
    by_cases hj : j < xs.length
    · have := World.rangeAt_setCells_same w k 0 (xs.map b8) ht j v (by rwa [List.getElem?_append_left (by simpa using hj)] at hv)
      rwa [Nat.zero_add] at this
    · rw [World.cell?_setCells_out k (xs.map b8) 0 w ⟨k, j, none⟩ (fun _ _ => Or.inr (by rw [List.length_map]; show 0 + xs.length ≤ j; omega))]
      rw [List.getElem?_append_right (by simpa using hj)] at hv
      refine hb0.cell j v ?_
      simp only [List.length_map, List.map_replicate, List.getElem?_replicate] at hv
      split at hv
      · rename_i hlt
        simp only [bZ, List.getElem?_replicate, show j < 32 by omega, if_true]
        exact hv
      · cases hv
  · have hb := h.all p (List.mem_cons_of_mem _ hp)
    have hk : p.1 ≠ k := fun e => by
      have := (List.nodup_cons.1 h.nd).1
      exact this (List.mem_map.2 ⟨p, hp, e⟩)
    exact ⟨by rw [I.size_setCells]; exact hb.lt, fun j v hv => by rw [World.cell?_setCells_out k _ 0 w ⟨p.1, j, none⟩ (fun e _ => absurd e hk)]; exact hb.cell j v hv, fun j => by rw [World.frozen?_setCells]; exact hb.fz j⟩
end Go.Proofs.YtdcpicbkemmakaaDoor

/- The document's numbers: how often the base makes nothing; the number of bytes. -/
namespace Go.Proofs.YtdcpicbkemmakaaDoor
open Go.RowKit
set_option linter.unusedSimpArgs false
attribute [local go_sem] YieldsP execOp
attribute [local simp] MP.eq_p MP.sl_p MP.sl2_p
set_option maxRecDepth 20000 in
set_option maxHeartbeats 1000000 in
theorem prime_fun (w : World) : Calls Tryd.prog 29 #[] w fun e w' => (∃ v', e = .returned v' ∧ Sl w' v' (P.dg Cv.ord)) ∧ Below w.heap.size w w' := by
  have T : Hid (∀ W, Calls Tryd.prog 52 #[.int .i64 252] W fun e w' => (∃ v', e = .returned v' ∧ Sl w' v' (P.dg (2 ^ 252))) ∧ Below W.heap.size W w') := fun W => twoTo_n 252 (by decide) W
  have D : Hid (∀ b W, W.cell? ⟨b, 0, none⟩ = some (.int .u64 6346243789798364141) → W.cell? ⟨b, 1, none⟩ = some (.int .u64 1503914060200516822) → Calls Tryd.prog 51 #[.slice (some ⟨b, 0, none⟩) 2 2] W fun e w' => (∃ v', e = .returned v' ∧ Sl w' v' (P.dg 27742317777372353535851937790883648493)) ∧ Below W.heap.size W w') := fun b W h0 h1 => by
    have := digits_fun b [6346243789798364141, 1503914060200516822] (by decide) 2 2 rfl (by decide) W (fun j hj => by
      match j, hj with
      | 0, _ => exact h0
      | 1, _ => exact h1)
    rwa [show wv [6346243789798364141, 1503914060200516822] = 27742317777372353535851937790883648493 by decide] at this
  have M1 : Hid (∀ u v W, Sl W u (P.dg (2 ^ 252)) → Sl W v (P.dg 27742317777372353535851937790883648493) → Calls Tryd.prog 32 #[u, v] W fun e w' => (∃ v', e = .returned v' ∧ Sl w' v' (P.dg Cv.ord)) ∧ Below W.heap.size W w') := fun u v W su sv => by
    have := plus_n (2 ^ 252) 27742317777372353535851937790883648493 (by decide) (by decide) u v W su sv
    rwa [show 2 ^ 252 + 27742317777372353535851937790883648493 = Cv.ord by decide] at this
  obtain ⟨Z, hZ⟩ : ∃ Z : Nat, Hid (27742317777372353535851937790883648493 = Z) := ⟨_, rfl⟩
  rw [hZ.out] at D M1
  obtain ⟨Y, hY⟩ : ∃ Y : Nat, Hid (2 ^ 252 = Y) := ⟨2 ^ 252, show Hid (2 ^ 252 = 2 ^ 252) from Eq.refl (2 ^ 252)⟩
  rw [hY.out] at T M1
  obtain ⟨O, hO⟩ : ∃ O, Hid (O = Cv.ord) := ⟨_, rfl⟩
  rw [← hO.out] at M1 ⊢
  go_enter Tryd.func29, Tryd.ntmps29
  go_wp2_with fail
  refine (T.out w).mono ?_
  rintro e w1 ⟨⟨u, rfl, su⟩, hb⟩
  have SU : Hid (Sl (w1.alloc (.cells #[.int .u64 6346243789798364141, .int .u64 1503914060200516822] 22)) u (P.dg Y)) := Sl.up (xs := P.dg Y) su ((Below.refl _ _).alloc (Nat.le_refl _) _)
  have B1 : Hid (Below w.heap.size w (w1.alloc (.cells #[.int .u64 6346243789798364141, .int .u64 1503914060200516822] 22))) := Below.alloc hb hb.size _
  clear su hb T
  go_wp2_with fail
  refine (D.out w1.heap.size _ (by simp [go_sem]) (by simp [go_sem])).mono ?_
  rintro e w2 ⟨⟨v, rfl, sv⟩, hb⟩
  have SV : Hid (Sl w2 v (P.dg Z)) := sv
  have SU2 : Hid (Sl w2 u (P.dg Y)) := Sl.up (xs := P.dg Y) SU.out hb
  have B2 : Hid (Below w.heap.size w w2) := B1.out.trans (hb.mono B1.out.size)
  clear sv hb D SU B1
  go_wp2_with fail
  refine (M1.out _ _ _ SU2.out SV.out).mono ?_
  rintro e w3 ⟨⟨v3, rfl, sv⟩, hb⟩
  have SV3 : Hid (Sl w3 v3 (P.dg O)) := sv
  have B3 : Hid (Below w.heap.size w w3) := B2.out.trans (hb.mono B2.out.size)
  clear sv hb M1 SU2 SV B2
  go_wp2_with fail
  go_ret
  exact ⟨⟨_, rfl, SV3.out⟩, B3.out⟩
end Go.Proofs.YtdcpicbkemmakaaDoor

/- A call among the operations of a drawn region, its operands told by their values: the frame is not looked at. -/
namespace Go.Proofs.YtdcpicbkemmakaaDoor
open Go.RowKit
set_option linter.unusedSimpArgs false
theorem cf_is {F : Nat} {fn : Func} (h : Tryd.prog.funcs[F]? = some fn) (hn : (fn.name == "runtime.NumGoroutine") = false) (hb : fn.body.isNone = false) (args : Array Value) (W : World) : (callFunc F args).run Tryd.prog W = .ok (.enter F args) W := by
  have hn' : ¬ fn.name = "runtime.NumGoroutine" := by simpa using hn
  have hb' : ¬ fn.body = none := fun h => by rw [h] at hb; cases hb
  simp [callFunc, h, hn', hb']
theorem yields_call0 {o : Oper} {a : Act} {w : World} {φ : Value → World → Prop} {F : Nat} (cf : ∀ (args : Array Value) (W : World), (callFunc F args).run Tryd.prog W = .ok (.enter F args) W) (tys : Array TypeId) (ho : o.op = .call { callee := .value (.func F), args := #[], argTypes := tys })
    (h : Calls Tryd.prog F #[] w fun e w' => ∃ u, e = .returned u ∧ φ u w' ∧ Below w.heap.size w w') : YieldsP Tryd.prog o a w φ := by
  have hF : a.eval (.func F) = .func (.func F) #[] #[] := rfl
  have e : (execOp a.eval o).run Tryd.prog w = .ok (.enter F #[]) w := by
    generalize a.eval = ev at *
    unfold execOp
    simp [ho, hF, go_sem, cf]
  unfold YieldsP
  rw [e]
  exact h
theorem yields_call1 {o : Oper} {a : Act} {w : World} {φ : Value → World → Prop} {F : Nat} (cf : ∀ (args : Array Value) (W : World), (callFunc F args).run Tryd.prog W = .ok (.enter F args) W) (x : Operand) (tys : Array TypeId) (ho : o.op = .call { callee := .value (.func F), args := #[x], argTypes := tys }) (v : Value) (hx : a.eval x = v)
    (h : Calls Tryd.prog F #[v] w fun e w' => ∃ u, e = .returned u ∧ φ u w' ∧ Below w.heap.size w w') : YieldsP Tryd.prog o a w φ := by
  have hF : a.eval (.func F) = .func (.func F) #[] #[] := rfl
  have e : (execOp a.eval o).run Tryd.prog w = .ok (.enter F #[v]) w := by
    generalize a.eval = ev at *
    unfold execOp
    simp [ho, hx, hF, go_sem, cf]
  unfold YieldsP
  rw [e]
  exact h
theorem yields_call2 {o : Oper} {a : Act} {w : World} {φ : Value → World → Prop} {F : Nat} (cf : ∀ (args : Array Value) (W : World), (callFunc F args).run Tryd.prog W = .ok (.enter F args) W) (x y : Operand) (tys : Array TypeId) (ho : o.op = .call { callee := .value (.func F), args := #[x, y], argTypes := tys }) (v u : Value) (hx : a.eval x = v) (hy : a.eval y = u)
    (h : Calls Tryd.prog F #[v, u] w fun e w' => ∃ u, e = .returned u ∧ φ u w' ∧ Below w.heap.size w w') : YieldsP Tryd.prog o a w φ := by
  have hF : a.eval (.func F) = .func (.func F) #[] #[] := rfl
  have e : (execOp a.eval o).run Tryd.prog w = .ok (.enter F #[v, u]) w := by
    generalize a.eval = ev at *
    unfold execOp
    simp [ho, hx, hy, hF, go_sem, cf]
  unfold YieldsP
  rw [e]
  exact h
theorem yields_mv {o : Oper} {a : Act} {w : World} {v : Value} (x : Operand) (ho : o.op = .move x) (hx : a.eval x = v) : YieldsP Tryd.prog o a w (MP.eq v).p := by
  have e : (execOp a.eval o).run Tryd.prog w = .ok (.value v) w := by
    generalize a.eval = ev at *
    unfold execOp
    simp [ho, hx, go_sem]
  unfold YieldsP
  rw [e]
  exact ⟨rfl, Below.refl _ _⟩
end Go.Proofs.YtdcpicbkemmakaaDoor

/- Small operations among those of a drawn region, their operands told by their values: the frame is not looked at. -/
namespace Go.Proofs.YtdcpicbkemmakaaDoor
open Go.RowKit
set_option linter.unusedSimpArgs false
theorem yields_run {o : Oper} {a : Act} {w : World} {v : Value} (e : (execOp a.eval o).run Tryd.prog w = .ok (.value v) w) : YieldsP Tryd.prog o a w (MP.eq v).p := by
  unfold YieldsP
  rw [e]
  exact ⟨rfl, Below.refl _ _⟩
theorem yields_ldR {o : Oper} {a : Act} {w : World} (ty : TypeId) (x : Operand) (ho : o.op = .load ty x) (b f : Nat) (hx : a.eval x = .pointer (some ⟨b, f, none⟩)) (cs : List Value) (d : TypeDesc) (hc : w.rangeAt b f cs) (hu : Tryd.prog.underlying ty = some d) (hd : d.isRow = true) (hi : (Tryd.prog.info? ty).map (·.size) = some cs.length) : YieldsP Tryd.prog o a w (MP.eq (.agg cs.toArray)).p :=
  yields_run (by
    unfold execOp
    simp only [ho, hx, Instr.loadAt, Instr.sureAddr, Sem.run_bind, Sem.run_pure, Result.andThen_ok, run_loadVar_mid w b f ty cs d hc hu hd hi])
theorem yields_as {o : Oper} {a : Act} {w : World} {v : Value} (x : Operand) (ho : o.op = .assign x) (hx : a.eval x = v) : YieldsP Tryd.prog o a w (MP.eq v).p :=
  yields_run (by
    generalize a.eval = ev at *
    unfold execOp
    simp [ho, hx, go_sem])
end Go.Proofs.YtdcpicbkemmakaaDoor

/- Rows of slices of digits; the document's differences modulo the order. -/
namespace Go.Proofs.YtdcpicbkemmakaaDoor
open Go.RowKit
set_option linter.unusedSimpArgs false
/-- A store over a slice leaves all digits as they are. -/
theorem sl_set_slice {w : World} {v : Value} {xs : List Nat} {k u : Nat} {a : Option Addr} {n c : Nat} (h : Sl w v xs) (hc : w.cell? ⟨k, u, none⟩ = some (.slice a n c)) (z : Value) : Sl (w.setCell ⟨k, u, none⟩ z) v xs := by
  rcases h with h | ⟨b, o, c, e, hl, hcell⟩
  · exact .inl h
  · refine .inr ⟨b, o, c, e, hl, fun j hj => ?_⟩
    have h1 := hcell j hj
    have hne : ¬ (b = k ∧ o + j = u) := fun ⟨e1, e2⟩ => by
      rw [e1, e2, hc] at h1
      simp at h1
    rw [← h1]
    refine World.cell?_setCells_out k [z] u w ⟨b, o + j, none⟩ (fun e1 _ => ?_)
    have e1' : b = k := e1
    show o + j < u ∨ u + 1 ≤ o + j
    have : o + j ≠ u := fun e2 => hne ⟨e1', e2⟩
    omega
/-- Block g is a row of n slices, whose digits tell the numbers T; behind it the other blocks that are known. -/
def Rw2 (w : World) (g n : Nat) (T : Nat → Nat) (L : List (Nat × List Value)) : Prop := ∃ vs : List Value, vs.length = n ∧ Kn w ((g, vs) :: L) ∧ ∀ i v, vs[i]? = some v → Sl w v (P.dg (T i))
theorem Rw2.up {W w1 : World} {g n : Nat} {T : Nat → Nat} {L : List (Nat × List Value)} (h : Rw2 W g n T L) (hb : Below W.heap.size W w1) : Rw2 w1 g n T L := by
  obtain ⟨vs, h1, h2, h3⟩ := h
  exact ⟨vs, h1, h2.up hb, fun i v hv => Sl.up (h3 i v hv) hb⟩
theorem Rw2.congr {w : World} {g n : Nat} {T U : Nat → Nat} {L : List (Nat × List Value)} (h : Rw2 w g n T L) (e : ∀ i, i < n → T i = U i) : Rw2 w g n U L := by
  obtain ⟨vs, h1, h2, h3⟩ := h
  refine ⟨vs, h1, h2, fun i v hv => ?_⟩
  have := (List.getElem?_eq_some_iff.1 hv).1
  rw [← e i (by omega)]
  exact h3 i v hv
theorem Rw2.get {w : World} {g n : Nat} {T : Nat → Nat} {L : List (Nat × List Value)} (h : Rw2 w g n T L) (i : Nat) (hi : i < n) : ∃ v, w.cell? ⟨g, i, none⟩ = some v ∧ Sl w v (P.dg (T i)) := by
  obtain ⟨vs, h1, h2, h3⟩ := h
  have hv : vs[i]? = some vs[i] := List.getElem?_eq_getElem (by omega)
  exact ⟨vs[i], h2.get 0 i rfl hv, h3 i _ hv⟩
theorem Rw2.fz {w : World} {g n : Nat} {T : Nat → Nat} {L : List (Nat × List Value)} (h : Rw2 w g n T L) : ∀ j, w.frozen? ⟨g, j, none⟩ = false := by
  obtain ⟨vs, -, h2, -⟩ := h
  exact h2.fz 0 rfl
theorem Rw2.kn {w : World} {g n : Nat} {T : Nat → Nat} {L : List (Nat × List Value)} (h : Rw2 w g n T L) : Kn w L := by
  obtain ⟨vs, -, h2, -⟩ := h
  exact ⟨(List.nodup_cons.1 h2.nd).2, fun p hp => h2.all p (List.mem_cons_of_mem _ hp)⟩
theorem Rw2.set {w : World} {g n : Nat} {T : Nat → Nat} {L : List (Nat × List Value)} (h : Rw2 w g n T L) (i : Nat) (hi : i < n) {v : Value} {x : Nat} (hv : Sl w v (P.dg x)) : Rw2 (w.setCell ⟨g, i, none⟩ v) g n (fun j => if j = i then x else T j) L := by
  obtain ⟨u, hu, su⟩ := h.get i hi
  obtain ⟨a, c, rfl⟩ := su.parts
  obtain ⟨vs, h1, h2, h3⟩ := h
  refine ⟨vs.set i v, by rw [List.length_set]; exact h1, Kn.set h2 i v (by omega), fun j z hz => ?_⟩
  by_cases e : i = j
  · subst e
    rw [List.getElem?_set_self (by omega)] at hz
    cases hz
    show Sl _ _ (P.dg (if i = i then x else T i))
    rw [if_pos rfl]
    exact sl_set_slice hv hu v
  · rw [List.getElem?_set_ne e] at hz
    show Sl _ _ (P.dg (if j = i then x else T j))
    rw [if_neg (Ne.symm e)]
    exact sl_set_slice (h3 j z hz) hu v
/-- All empty as yet. -/
theorem Rw2.zero {w : World} {g n : Nat} {L : List (Nat × List Value)} (h : Kn w ((g, List.replicate n (Value.slice none 0 0)) :: L)) : Rw2 w g n (fun _ => 0) L :=
  ⟨_, List.length_replicate, h, fun i v hv => by
    have := (List.getElem?_eq_some_iff.1 hv).2
    rw [List.getElem_replicate] at this
    subst this
    exact .inl ⟨rfl, P.dg_zero⟩⟩
theorem o2 {n : Nat} (h : n < Cv.ord) : n < 2 ^ 256 := Nat.lt_trans h (by decide)
/-- A slice of one word that was made. -/
def MP.u1 (x : Nat) : MP := ⟨fun v w => ∃ b, v = .slice (some ⟨b, 0, none⟩) 1 1 ∧ w.cell? ⟨b, 0, none⟩ = some (.int .u64 (x : Int)), fun ⟨b, e, h⟩ hb => ⟨b, e, (hb.cell (p := ⟨b, 0, none⟩) (lt_of_cell h)).trans h⟩⟩
end Go.Proofs.YtdcpicbkemmakaaDoor

/- Small closed facts on the loaded program that each row's proof asks for. -/
namespace Go.Proofs.YtdcpicbkemmakaaDoor
theorem Tryd.cellsNum : Tryd.prog.cellsOf 24 = 4 := by kernel_rfl
theorem Tryd.cellsU64 : Tryd.prog.cellsOf 22 = 1 := by kernel_rfl
end Go.Proofs.YtdcpicbkemmakaaDoor

/- Shares in a slice: what it holds, out of its reading; a share's place in memory. -/
namespace Go.Proofs.YtdcpicbkemmakaaDoor
open Go.ChangeShapes Go.WideShapes Go.ChangeAt Go.RowKit Go.Deep
theorem spot5 {w : World} {a : Addr} {v : Value} (h : w.cell? a = some v) : a = ⟨a.block, a.off, none⟩ := by
  obtain ⟨b, o, s⟩ := a
  cases s with
  | none => rfl
  | some s =>
    unfold World.cell? at h
    split at h <;> simp at h
/-- A share. -/
structure Shr where
  x : Int
  y : Nm
def shr0 : Shr := ⟨0, ⟨0, 0, 0, 0⟩⟩
def Shr.ok (s : Shr) : Prop := (-9223372036854775808 ≤ s.x ∧ s.x ≤ 9223372036854775807) ∧ s.y.ok
/-- Its cells. -/
def shC (s : Shr) : List Value := [.int .i64 s.x, .int .u64 s.y.a, .int .u64 s.y.b, .int .u64 s.y.c, .int .u64 s.y.d]
theorem shC_length (s : Shr) : (shC s).length = 5 := rfl
/-- The slice v holds the shares l. -/
def Shs (w : World) (v : Value) (l : List Shr) : Prop := ∃ a c, v = .slice a l.length c ∧ (l.length ≤ c ∧ (a = none → c = 0)) ∧ (0 < l.length → ∃ b o, a = some ⟨b, o, none⟩ ∧ ∀ i s, l[i]? = some s → w.rangeAt b (o + i * 5) (shC s))
theorem Shs.up {W w1 : World} {v : Value} {l : List Shr} (h : Shs W v l) (hb : Below W.heap.size W w1) : Shs w1 v l := by
  obtain ⟨a, c, e, h1, h2⟩ := h
  refine ⟨a, c, e, h1, fun hp => ?_⟩
  obtain ⟨b, o, ea, hc⟩ := h2 hp
  refine ⟨b, o, ea, fun j s hj r v hv => ?_⟩
  have g := hc j s hj r v hv
  have hlt : b < W.heap.size := by
    apply Classical.byContradiction
    intro hn
    have hk : W.heap[b]? = none := Array.getElem?_eq_none (by omega)
    simp [World.cell?, hk] at g
  rw [hb.cell (p := ⟨b, o + j * 5 + r, none⟩) hlt]
  exact g
theorem uShs : Tryd.prog.underlying 26 = some (.slice 38) := by kernel_rfl
theorem cellsShr : Tryd.prog.cellsOf 38 = 5 := by kernel_rfl
theorem list5 {cs : List Value} (h : cs.length = 5) : ∃ c0 c1 c2 c3 c4, cs = [c0, c1, c2, c3, c4] :=
  match cs, h with
  | [c0, c1, c2, c3, c4], _ => ⟨c0, c1, c2, c3, c4, rfl⟩
section
variable {H : Type} {enc : TypeId × Value → H} {w : World} {base : Nat} {spare : Nat → Bool} {held : Bool}
theorem shr_open {fuel : Nat} {cs : List Value} {x : DataW H × List MemPlace} (h : DataW.trod enc Tryd.prog w base spare held fuel 38 cs = some x) : ∃ d : Shr, d.ok ∧ cs = shC d := by
  obtain ⟨y0, y1, n, _, hl, t0, t1⟩ := Go.ChangeShapes.trod_struct2 Tryd.underlying38 h
  rw [cellsShr] at hl
  obtain ⟨z, e2, _, hw⟩ := DataW.trod_int Tryd.underlying3 t0
  obtain ⟨zs, hz, e3, _, hwz⟩ := trod_arr Tryd.underlying24 Tryd.underlying22 Tryd.cellsU64 Tryd.cellsNum t1
  obtain ⟨a, b, c, d, rfl⟩ := list4 zs hz
  obtain ⟨c0, c1, c2, c3, c4, rfl⟩ := list5 hl
  · have q2 : Tryd.prog.cellsOf 3 = 1 := by kernel_rfl
    simp [q2] at e2
    simp [Tryd.cellsNum] at e3
    subst e2
    obtain ⟨rfl, rfl, rfl, rfl⟩ := e3
    refine ⟨⟨z, ⟨a, b, c, d⟩⟩, ⟨int_of_wf hw, ⟨word_of_wf (hwz a (by simp)), word_of_wf (hwz b (by simp)), word_of_wf (hwz c (by simp)), word_of_wf (hwz d (by simp))⟩⟩, rfl⟩
theorem shs_open {fuel : Nat} {u : Value} {x : DataW H × List MemPlace} (h : DataW.trod enc Tryd.prog w base spare held fuel 26 [u] = some x) : ∃ l : List Shr, (∀ d ∈ l, d.ok) ∧ Shs w u l := by
  rcases open_slice uShs h with ⟨hcs, hx⟩ | ⟨a, len, cap, m, n, D, Pl, hcs, _, hl, hm, hmm, hx, hcell⟩
  · obtain rfl : u = .slice none 0 0 := by simpa using hcs
    exact ⟨[], (fun p hp => by cases hp), ⟨none, 0, rfl, ⟨Nat.le_refl _, fun _ => rfl⟩, fun h => absurd h (Nat.lt_irrefl _)⟩⟩
  · obtain rfl : u = .slice (some a) len cap := by simpa using hcs
    have hle : len ≤ m := by
      rw [hmm]
      split <;> omega
    rw [cellsShr] at hcell
    have each : ∀ i, i < len → ∃ d : Shr, d.ok ∧ ∀ r v, (shC d)[r]? = some v → w.cell? (a.add (i * 5 + r)) = some v := by
      intro i hi
      obtain ⟨cs', hc, t⟩ := hcell i (by omega)
      obtain ⟨d, hd, rfl⟩ := shr_open t
      obtain ⟨_, hcl, hcc⟩ := World.cells?_some hc
      refine ⟨d, hd, fun r v hv => ?_⟩
      have hr : r < 5 := (List.getElem?_eq_some_iff.1 hv).1
      have hc1 := hcc r hr
      have ea : (a.add (i * 5)).add r = a.add (i * 5 + r) := Addr.add_add _ _ _
      rw [ea] at hc1
      rw [hc1, hv]
    have hinh : Inhabited Shr := ⟨shr0⟩
    obtain ⟨f, hf⟩ := choose_lt each
    have hfl : ((List.range len).map f).length = len := by simp
    refine ⟨(List.range len).map f, ?_, ⟨some a, cap, by rw [hfl], ⟨by rw [hfl]; exact hl, fun h => by cases h⟩, fun hp => ?_⟩⟩
    · intro p hp
      obtain ⟨i, hi, rfl⟩ := List.mem_map.1 hp
      exact (hf i (List.mem_range.1 hi)).1
    · rw [hfl] at hp
      have c0 := (hf 0 hp).2 0 _ rfl
      rw [Nat.zero_mul, Nat.add_zero, Addr.add_zero'] at c0
      have hs := spot5 c0
      refine ⟨a.block, a.off, congrArg some hs, fun j s hj r v hv => ?_⟩
      have hj' : j < len := by
        have := (List.getElem?_eq_some_iff.1 hj).1
        omega
      rw [List.getElem?_map, List.getElem?_range hj'] at hj
      simp only [Option.map_some, Option.some.injEq] at hj
      subst hj
      have cj := (hf j hj').2 r v hv
      rw [hs, Addr.add_lit] at cj
      rw [show a.off + j * 5 + r = a.off + (j * 5 + r) by omega]
      exact cj
end
end Go.Proofs.YtdcpicbkemmakaaDoor

/- The contract of sealringref.least: digits with carries, brought below the modulus. -/
namespace Go.Proofs.YtdcpicbkemmakaaDoor.I
open Go.RowKit
set_option linter.unusedSimpArgs false
theorem slice_all {t e : TypeId} {n : Nat} (ht : Tryd.prog.underlying t = some (.array n e)) (hz : (Tryd.prog.info? e).map (·.size) = some 1) (hn : 0 < n) (b o : Nat) (w : World) :
    (Instr.sliceAt t (.pointer (some ⟨b, o, none⟩)) none none none).run Tryd.prog w = .ok (.slice (some ⟨b, o, none⟩) n n) w := by
  have ha : Tryd.prog.arrayLen t = n := by simp [Program.arrayLen, ht]
  have he : Tryd.prog.elem t = e := by simp [Program.elem, ht]
  rw [run_sliceAt_array_all w t ⟨b, o, none⟩ (by rw [ha, he]; exact ht), ha, he]
  cases hq : Tryd.prog.info? e with
  | none => simp [hq] at hz
  | some i =>
    have hi : i.size = 1 := by simpa [hq] using hz
    simp [sizeOf, typeInfo, hq, hi, slicedAt, Addr.add_zero', Nat.ne_of_gt hn]
/-- What lies there when j digits of a round are done. -/
def mid (g d : Nat → Nat) (j : Nat) : Nat → Nat := fun i => if i < j then d i else if i = 16 then 0 else g i
theorem Ar.front {w : World} {k n m : Nat} {f : Nat → Nat} (h : Ar w k n f) (hm : m ≤ n) : w.rangeAt k 0 ((row m f).map dI) := fun j v hj => by
  rw [Nat.zero_add]
  refine h.cell j v ?_
  by_cases h1 : j < m
  · have h2 : j < n := by omega
    simp [row, h1, h2] at hj ⊢
    exact hj
  · simp [row, h1] at hj
/-- What lies there when j digits of a difference are done. -/
def less (f : Nat → Nat) (j : Nat) : Nat → Nat := fun i => if i < j then f i else 0
end Go.Proofs.YtdcpicbkemmakaaDoor.I

/- The contracts of sealringref's Fe.Plus and Fe.Less. -/
namespace Go.Proofs.YtdcpicbkemmakaaDoor.I
open Go.RowKit
set_option linter.unusedSimpArgs false
attribute [local go_sem] YieldsP execOp
attribute [local simp] MP.eq_p
end Go.Proofs.YtdcpicbkemmakaaDoor.I

/- The contract of sealringref's Fe.By: the product. -/
namespace Go.Proofs.YtdcpicbkemmakaaDoor.I
open Go.RowKit
set_option linter.unusedSimpArgs false
attribute [local go_sem] YieldsP execOp
attribute [local simp] MP.eq_p
end Go.Proofs.YtdcpicbkemmakaaDoor.I

/- The contracts of sealringref's small, feOf, Modulus, Field and Fe.Num. -/
namespace Go.Proofs.YtdcpicbkemmakaaDoor.I
open Go.RowKit
set_option linter.unusedSimpArgs false
attribute [local go_sem] World.cell?_alloc_some frozen?_alloc_cells frozen_out
/-- A number of one digit. -/
def sf (n : Nat) : Nat → Nat := fun i => if i = 0 then n else 0
theorem Ar.sl {w : World} {k n : Nat} {f : Nat → Nat} (h : Ar w k n f) : Sl w (.slice (some ⟨k, 0, none⟩) n n) (row n f) := by
  refine .inr ⟨k, 0, n, by rw [row_length], by rw [row_length]; exact Nat.le_refl _, fun j hj => ?_⟩
  rw [row_length] at hj
  rw [Nat.zero_add, Ar.at h hj]
  simp [row, hj]
end Go.Proofs.YtdcpicbkemmakaaDoor.I

/- The contracts of sealringref's Fe.To and Fe.Over: powers, one over it. -/
namespace Go.Proofs.YtdcpicbkemmakaaDoor.I
open Go.RowKit
set_option linter.unusedSimpArgs false
attribute [local go_sem] YieldsP execOp
attribute [local simp] MP.eq_p
/-- Ints that are only read: block g. -/
structure Rd (w : World) (g n : Nat) (f : Nat → Nat) : Prop where
  lt : g < w.heap.size
  cell : ∀ j, j < n → w.cell? ⟨g, j, none⟩ = some (dI (f j))
theorem Rd.up {W w1 : World} {g n B : Nat} {f : Nat → Nat} (h : Rd W g n f) (hb : Below B W w1) (hB : g < B) : Rd w1 g n f :=
  ⟨Nat.lt_of_lt_of_le h.lt hb.size, fun j hj => (hb.cell (p := ⟨g, j, none⟩) hB).trans (h.cell j hj)⟩
theorem Rd.apart {w : World} {g n k o : Nat} {f : Nat → Nat} {vs : List Value} (h : Rd w g n f) (hk : g ≠ k) : Rd (w.setCells k o vs) g n f :=
  ⟨by rw [size_setCells]; exact h.lt, fun j hj => by
    rw [World.cell?_setCells_out k vs o w ⟨g, j, none⟩ (fun e _ => absurd e hk)]; exact h.cell j hj⟩
theorem yields_ld {o : Oper} {a : Act} {w : World} {φ : Value → World → Prop} (ty : TypeId) (x : Operand) (ho : o.op = .load ty x) (b f : Nat) (hx : a.eval x = .pointer (some ⟨b, f, none⟩)) (cs : List Value) (d : TypeDesc) (hc : w.rangeAt b f cs) (hu : Tryd.prog.underlying ty = some d) (hd : d.isRow = true) (hi : (Tryd.prog.info? ty).map (·.size) = some cs.length)
    (h : φ (.agg cs.toArray) w) : YieldsP Tryd.prog o a w φ := by
  have e : (execOp a.eval o).run Tryd.prog w = .ok (.value (.agg cs.toArray)) w := by
    unfold execOp
    simp only [ho, hx, Instr.loadAt, Instr.sureAddr, Sem.run_bind, Sem.run_pure, Result.andThen_ok, run_loadVar_mid w b f ty cs d hc hu hd hi]
  unfold YieldsP
  rw [e]
  exact ⟨h, Below.refl _ _⟩
end Go.Proofs.YtdcpicbkemmakaaDoor.I

/- The document's value of the polynomial through shares. -/
namespace Go.Proofs.YtdcpicbkemmakaaDoor
open Go.RowKit
attribute [local go_sem] World.cell?_alloc_some cell_alloc2 cell_alloc3 cell_alloc4 frozen?_alloc_cells frozen_out
attribute [local go_sem] YieldsP execOp
attribute [local simp] MP.eq_p MP.sl_p
set_option linter.unusedSimpArgs false
end Go.Proofs.YtdcpicbkemmakaaDoor

/- The document's value of the polynomial through shares: the walk. -/
namespace Go.Proofs.YtdcpicbkemmakaaDoor
open Go.RowKit
attribute [local go_sem] World.cell?_alloc_some cell_alloc2 cell_alloc3 cell_alloc4 frozen?_alloc_cells frozen_out
attribute [local go_sem] YieldsP execOp
attribute [local simp] MP.eq_p MP.sl_p
set_option linter.unusedSimpArgs false
theorem u_share : Tryd.prog.underlying 38 = some (.struct (match Tryd.prog.underlying 38 with | some (.struct fs) => fs | _ => #[])) := by kernel_rfl
theorem info_share (s : Shr) : (Tryd.prog.info? 38).map (·.size) = some (shC s).length := by rw [shC_length]; kernel_rfl
def shZ : List Value := [.int .i64 0, .int .u64 0, .int .u64 0, .int .u64 0, .int .u64 0]
theorem zero_share (w : World) : (zeroValue 38).run Tryd.prog w = .ok (.agg shZ.toArray) w := I.zero_of (by kernel_rfl) w
end Go.Proofs.YtdcpicbkemmakaaDoor

/- The document's value of the polynomial through shares, by numbers. -/
namespace Go.Proofs.YtdcpicbkemmakaaDoor
open Go.RowKit
set_option linter.unusedSimpArgs false
/-- A share's place and number, as numbers; of a list of shares. -/
def shX (l : List Shr) (i : Nat) : Nat := (l.getD i shr0).x.toNat % 256
def shN (l : List Shr) (i : Nat) : Nm := (l.getD i shr0).y
def shY (l : List Shr) (i : Nat) : Nat := (shN l i).nat % Cv.ord
/-- The value at x of the polynomial through shares. -/
def atN (l : List Shr) (x : Nat) : Nat := So.hn (shX l) (shY l) l.length x l.length
/-- Shares as the document takes them: places from 1 to 255, numbers below the order. -/
def shOk (s : Shr) : Prop := (1 ≤ s.x ∧ s.x ≤ 255) ∧ s.y.nat < Cv.ord
theorem pow_o (a : Nat) : a ^ (Cv.ord - 2) % Cv.ord = So.iv a := rfl
theorem o_pos : 0 < Cv.ord := by decide
end Go.Proofs.YtdcpicbkemmakaaDoor

/- What is wrong with shares, as the document has it. -/
namespace Go.Proofs.YtdcpicbkemmakaaDoor
open Go.RowKit
attribute [local go_sem] World.cell?_alloc_some cell_alloc2 cell_alloc3 cell_alloc4 frozen?_alloc_cells frozen_out
set_option linter.unusedSimpArgs false
end Go.Proofs.YtdcpicbkemmakaaDoor

/- What is wrong with shares, by their numbers. -/
namespace Go.Proofs.YtdcpicbkemmakaaDoor
open Go.RowKit
set_option linter.unusedSimpArgs false
/-- A share is refused: as such, or for one ahead of it. -/
def badAt (l : List Shr) (i : Nat) : Prop := ¬ shOk (l.getD i shr0) ∨ ∃ j, j < i ∧ (l.getD j shr0).x = (l.getD i shr0).x
/-- The same, told by trying. -/
def badB (l : List Shr) (i : Nat) : Bool := !decide ((1 ≤ (l.getD i shr0).x ∧ (l.getD i shr0).x ≤ 255) ∧ (l.getD i shr0).y.nat < Cv.ord) || (List.range i).any fun j => (l.getD j shr0).x == (l.getD i shr0).x
theorem badB_iff (l : List Shr) (i : Nat) : badB l i = true ↔ badAt l i := by
  unfold badB badAt shOk
  rw [Bool.or_eq_true, Bool.not_eq_true', decide_eq_false_iff_not, List.any_eq_true]
  constructor
  · rintro (h | ⟨j, hj, h⟩)
    · exact .inl h
    · exact .inr ⟨j, List.mem_range.1 hj, beq_iff_eq.1 h⟩
  · rintro (h | ⟨j, hj, h⟩)
    · exact .inl h
    · exact .inr ⟨j, List.mem_range.2 hj, beq_iff_eq.2 h⟩
/-- What is wrong with shares that are asked at x: 2 too many, 1 otherwise, 0 nothing. -/
def fltN (l : List Shr) (x : Int) : Nat := if 20 < l.length then 2 else if l.length = 0 ∨ x < 0 ∨ 255 < x then 1 else if (List.range l.length).any (badB l) = true then 1 else 0
theorem any_bad (l : List Shr) : (List.range l.length).any (badB l) = true ↔ ∃ i, i < l.length ∧ badAt l i := by
  rw [List.any_eq_true]
  constructor
  · rintro ⟨i, hi, h⟩
    exact ⟨i, List.mem_range.1 hi, (badB_iff l i).1 h⟩
  · rintro ⟨i, hi, h⟩
    exact ⟨i, List.mem_range.2 hi, (badB_iff l i).2 h⟩
theorem shs_parts {w : World} {v : Value} {l : List Shr} (h : Shs w v l) : ∃ a c, v = .slice a l.length c := by
  obtain ⟨a, c, e, -⟩ := h
  exact ⟨a, c, e⟩
end Go.Proofs.YtdcpicbkemmakaaDoor

/- A variable that is made among the operations of a drawn region. -/
namespace Go.Proofs.YtdcpicbkemmakaaDoor
open Go.RowKit
set_option linter.unusedSimpArgs false
/-- A block that has been made, from B on. -/
def MP.made (B : Nat) (vs : List Value) : MP := ⟨fun v w => ∃ g, v = .pointer (some ⟨g, 0, none⟩) ∧ B ≤ g ∧ KBlk w g vs, fun ⟨g, e, h, hb⟩ hk => ⟨g, e, h, hb.up hk⟩⟩
theorem KBlk.made (w : World) (vs : List Value) (t : TypeId) : KBlk (w.alloc (.cells vs.toArray t)) w.heap.size vs := KBlk.of (t := t) (by show (w.heap.push _)[w.heap.size]? = _; simp)
end Go.Proofs.YtdcpicbkemmakaaDoor

/- Rows of shares that a call makes itself; append of shares; slices.Clone of them. -/
namespace Go.Proofs.YtdcpicbkemmakaaDoor
open Go.RowKit
set_option linter.unusedSimpArgs false
theorem iShare : (Tryd.prog.info? 38).map (fun i => (i.zero, i.size, i.bytes)) = some (some (.agg shZ.toArray), 5, 40) := by kernel_rfl
theorem flat5 : ∀ (l : List Shr) (i r : Nat) (s : Shr), l[i]? = some s → r < 5 → (l.flatMap shC)[i * 5 + r]? = (shC s)[r]?
  | [], i, r, s, h, _ => by simp at h
  | d :: l, 0, r, s, h, hr => by
    simp at h
    subst h
    rw [List.flatMap_cons, Nat.zero_mul, Nat.zero_add, List.getElem?_append_left (by rw [shC_length]; exact hr)]
  | d :: l, i + 1, r, s, h, hr => by
    have := flat5 l i r s (by simpa using h) hr
    rw [List.flatMap_cons, List.getElem?_append_right (by rw [shC_length]; omega), shC_length, show (i + 1) * 5 + r - 5 = i * 5 + r by omega, this]
theorem flat5_length : ∀ l : List Shr, (l.flatMap shC).length = l.length * 5
  | [] => rfl
  | d :: l => by rw [List.flatMap_cons, List.length_append, shC_length, flat5_length l, List.length_cons]; omega
/-- The slice v is an own row of the shares l, in a block from B on. -/
def Oh (w : World) (B : Nat) (v : Value) (l : List Shr) : Prop := w.ownsRow B 38 5 v l.length (l.flatMap shC)
theorem Oh.nil (w : World) (B : Nat) : Oh w B (.slice none 0 0) [] := World.ownsRow_nil _ _ _ _
theorem Oh.up {W w1 : World} {B : Nat} {v : Value} {l : List Shr} (h : Oh W B v l) (hb : Below W.heap.size W w1) : Oh w1 B v l := by
  refine ⟨h.1, ?_⟩
  rcases h.2 with h' | ⟨g, cap, cur, e, hB, hg, rest⟩
  · exact .inl h'
  · exact .inr ⟨g, cap, cur, e, hB, (hb.block g (Array.getElem?_eq_some_iff.1 hg).1).trans hg, rest⟩
theorem Oh.mono {w : World} {A B : Nat} {v : Value} {l : List Shr} (h : Oh w B v l) (hab : A ≤ B) : Oh w A v l := by
  refine ⟨h.1, ?_⟩
  rcases h.2 with h' | ⟨g, cap, cur, e, hB, rest⟩
  · exact .inl h'
  · exact .inr ⟨g, cap, cur, e, Nat.le_trans hab hB, rest⟩
theorem Oh.shs {w : World} {B : Nat} {v : Value} {l : List Shr} (h : Oh w B v l) : Shs w v l := by
  rcases id h.2 with ⟨e, e2⟩ | ⟨g, cap, cur, e, hB, hg, hn, rest⟩
  · exact ⟨none, 0, by rw [e, e2], ⟨by omega, fun _ => rfl⟩, fun hp => by omega⟩
  · refine ⟨some ⟨g, 0, none⟩, cap, e, ⟨hn, fun h => by cases h⟩, fun _ => ⟨g, 0, rfl, fun i s hs r u hu => ?_⟩⟩
    have hi : i < l.length := (List.getElem?_eq_some_iff.1 hs).1
    have hr : r < 5 := by
      have := (List.getElem?_eq_some_iff.1 hu).1
      rwa [shC_length] at this
    have h2 : w.ownsRow B 38 5 (.slice (some ⟨g, 0, none⟩) l.length cap) l.length (l.flatMap shC) := by rw [← e]; exact h
    rw [Nat.zero_add, h2.cellAt (i * 5 + r) (by omega), flat5 l i r s hs hr]
    exact hu
/-- append of shares to an own row. -/
theorem wp_appH {ops : Array Oper} {rest : List Oper} {o : Oper} {a : Act} {Q : Exit → Act → World → Prop} {w : World} (hgd : o.guard = none) (s x : Operand)
    (ho : o.op = .call { callee := .builtin .append, args := #[s, x], argTypes := #[26, 26] })
    (B : Nat) (v u : Value) (l m : List Shr) (hs : a.eval s = v) (hown : Oh w B v l) (hx : a.eval x = u) (hy : Shs w u m) (hl : l.length + m.length ≤ 100000) (hB : B ≤ w.heap.size)
    (h : ∀ v' w', Oh w' B v' (l ++ m) → w.grownBy w' v.ownBlock → wpList Tryd.prog ops Q rest (a.put o.dst v') w') : wpList Tryd.prog ops Q (o :: rest) a w := by
  obtain ⟨i0, hi, hz0, hz1, hz2⟩ := info_parts iShare
  obtain ⟨ad, c, rfl, hyc, hcells⟩ := hy
  cases ad with
  | none =>
    have hc0 := hyc.2 rfl
    have hy0 : m = [] := List.length_eq_zero_iff.1 (by omega)
    subst hc0 hy0
    refine wpList_append_own_none hgd s x 26 ho B 38 i0 5 uShs hi v l.length (l.flatMap shC) hs hown hx ?_
    exact h v w (by rw [List.append_nil]; exact hown) (World.grownBy.refl _ _)
  | some ad =>
    refine wpList_append_own w hgd s x 26 ho B 38 i0 (.agg shZ.toArray) 5 40 uShs hi hz0 hz1 hz2 rfl (by decide) v l.length (l.flatMap shC) hs hown ad m.length c (m.flatMap shC) hx (flat5_length m) ?_ ?_ (by unfold maxLen; omega) (by omega) hB fun v' w' a1 a2 _ => h v' w' ?_ a2
    · intro j u hj
      have hj2 : j < m.length * 5 := by
        have := (List.getElem?_eq_some_iff.1 hj).1
        rwa [flat5_length] at this
      obtain ⟨b, o', e, hc⟩ := hcells (by omega)
      obtain rfl : ad = ⟨b, o', none⟩ := Option.some.inj e
      have hd : j / 5 < m.length := by omega
      have hg : m[j / 5]? = some m[j / 5] := List.getElem?_eq_getElem hd
      have hf := flat5 m (j / 5) (j % 5) _ hg (by omega)
      rw [show j / 5 * 5 + j % 5 = j by omega, hj] at hf
      have := hc (j / 5) _ hg (j % 5) u hf.symm
      rw [Addr.add_lit]
      rwa [show o' + j / 5 * 5 + j % 5 = o' + j by omega] at this
    · intro u hu
      obtain ⟨s, _, hs⟩ := List.mem_flatMap.1 hu
      simp only [shC, List.mem_cons, List.not_mem_nil, or_false] at hs
      rcases hs with rfl | rfl | rfl | rfl | rfl <;> rfl
    · unfold Oh
      rw [List.length_append, List.flatMap_append]
      exact a1
theorem eql_nilH (a : Addr) (l c : Nat) (w : World) : (binOp .eql 26 (.slice (some a) l c) (.slice none 0 0)).run Tryd.prog w = .ok (.bool false) w := by
  have h : ∀ d : Nat, (Op.equalIn (d + 1) 26 (.slice (some a) l c) (.slice none 0 0)).run Tryd.prog w = .ok false w := fun d => by
    simp [Op.equalIn, run_underlying uShs]
  have h2 : (Op.equal 26 (.slice (some a) l c) (.slice none 0 0)).run Tryd.prog w = .ok false w := h 9999
  simp [binOp, h2]
theorem eql_nilH0 (w : World) : (binOp .eql 26 (.slice none 0 0) (.slice none 0 0)).run Tryd.prog w = .ok (.bool true) w := by
  have h : ∀ d : Nat, (Op.equalIn (d + 1) 26 (.slice none 0 0) (.slice none 0 0)).run Tryd.prog w = .ok true w := fun d => by
    simp [Op.equalIn, run_underlying uShs]
  have h2 : (Op.equal 26 (.slice none 0 0) (.slice none 0 0)).run Tryd.prog w = .ok true w := h 9999
  simp [binOp, h2]
set_option maxHeartbeats 1000000 in
theorem cloneH_nil (w : World) : Calls Tryd.prog 16 #[.slice none 0 0] w fun e w' => e = .returned (.slice none 0 0) ∧ Below w.heap.size w w' := by
  have en := eql_nilH0
  go_enter Tryd.func16, Tryd.ntmps16
  go_wp2_with fail
  go_ret
  exact ⟨rfl, Below.refl _ _⟩
set_option maxRecDepth 20000 in
set_option maxHeartbeats 1000000 in
theorem cloneH_some (l : List Shr) (zx : l.length ≤ 1000) (a : Addr) (n c : Nat) (w : World) (hv : Shs w (.slice (some a) n c) l) :
    Calls Tryd.prog 16 #[.slice (some a) n c] w fun e w' => (∃ v', e = .returned v' ∧ Oh w' w.heap.size v' l) ∧ Below w.heap.size w w' := by
  have en := eql_nilH a n c
  have HV : Hid (Shs (w.alloc (.cells #[] 38)) (.slice (some a) n c) l) := hv.up ((Below.refl _ _).alloc (Nat.le_refl _) _)
  have O1 : Hid (Oh (w.alloc (.cells #[] 38)) w.heap.size (.slice (some ⟨w.heap.size, 0, none⟩) 0 0) []) := ⟨by simp, .inr ⟨w.heap.size, 0, #[], rfl, Nat.le_refl _, heap_alloc_new w _, Nat.le_refl _, by unfold maxLen; omega, by simp, by simp⟩⟩
  have Z1 : Hid (Below w.heap.size w (w.alloc (.cells #[] 38))) := (Below.refl _ _).alloc (Nat.le_refl _) _
  have G1 : Hid (w.heap.size ≤ (w.alloc (.cells #[] 38)).heap.size) := Z1.out.size
  have ZX : Hid (l.length ≤ 1000) := zx
  clear hv zx
  go_enter Tryd.func16, Tryd.ntmps16
  go_wp2_with (refine wp_appH rfl _ _ rfl w.heap.size _ _ [] l rfl O1.out rfl HV.out (by have := ZX.out; simp only [List.length_nil]; omega) G1.out ?_)
  intro v2 w2 o2 hb2
  have B2 : Hid (Below w.heap.size w w2) := Below.grown Z1.out hb2 G1.out (fun k hk => by cases hk; exact Nat.le_refl _)
  have O2 : Hid (Oh w2 w.heap.size v2 l) := o2
  clear hb2 o2 HV O1 Z1 G1
  go_wp2_with fail
  go_ret
  exact ⟨⟨v2, rfl, O2.out⟩, B2.out⟩
theorem cloneH_fun (l : List Shr) (zx : l.length ≤ 1000) (v : Value) (w : World) (hv : Shs w v l) :
    Calls Tryd.prog 16 #[v] w fun e w' => (∃ v', e = .returned v' ∧ Oh w' w.heap.size v' l) ∧ Below w.heap.size w w' := by
  obtain ⟨a, c, rfl, h1, h2⟩ := id hv
  cases a with
  | some a => exact cloneH_some l zx a _ c w hv
  | none =>
    have hc := h1.2 rfl
    have hl : l = [] := List.length_eq_zero_iff.1 (by omega)
    subst hc hl
    exact (cloneH_nil w).mono fun e w' ⟨he, hb⟩ => ⟨⟨_, he, Oh.nil w' _⟩, hb⟩
end Go.Proofs.YtdcpicbkemmakaaDoor

/- What the shares of a secret are. -/
namespace Go.Proofs.YtdcpicbkemmakaaDoor
open Go.RowKit
set_option linter.unusedSimpArgs false
theorem Oh.ge {w : World} {B : Nat} {v : Value} {l : List Shr} (h : Oh w B v l) : ∀ g, v.ownBlock = some g → B ≤ g := fun g hg => by
  rcases h.2 with ⟨e, _⟩ | ⟨g', cap, cur, e, hB, _⟩
  · rw [e] at hg; cases hg
  · rw [e] at hg
    obtain rfl : g' = g := Option.some.inj hg
    exact hB
theorem Oh.tag {w : World} {B : Nat} {v : Value} {l : List Shr} (h : Oh w B v l) : ∀ g, v.ownBlock = some g → ∃ cur fz, w.heap[g]? = some (.cells cur 38 fz) := fun g hg => by
  rcases h.2 with ⟨e, _⟩ | ⟨g', cap, cur, e, hB, hh, _⟩
  · rw [e] at hg; cases hg
  · rw [e] at hg
    obtain rfl : g' = g := Option.some.inj hg
    exact ⟨cur, _, hh⟩
/-- So many bits are needed below the order. -/
theorem bl_ord : BL Cv.ord 253 := by
  have h : (2 : Nat) ^ 252 < Cv.ord := by decide
  exact ⟨by decide, fun j hj => Nat.lt_of_le_of_lt (Nat.pow_le_pow_right (n := 2) (by decide) (show j ≤ 252 by omega)) h⟩
/-- Where a drawing begins, which try it is, and what is drawn. -/
def cfStep (seed : List Nat) (p : Nat) : Nat := match belS seed p 253 Cv.ord with
  | some t => (p + 32 * (t + 1)) % 18446744073709551616
  | none => p
def cfP (seed : List Nat) : Nat → Nat
  | 0 => 0
  | m + 1 => cfStep seed (cfP seed m)
def cfT (seed : List Nat) (m : Nat) : Option Nat := belS seed (cfP seed m) 253 Cv.ord
def cfN (seed : List Nat) (m : Nat) : Nat := match cfT seed m with
  | some t => tryS seed (cfP seed m) 253 t
  | none => 0
theorem cfN_lt (seed : List Nat) (m : Nat) : cfN seed m < Cv.ord := by
  unfold cfN
  split
  · rename_i t h
    unfold cfT belS at h
    have := List.find?_some h
    simpa using this
  · decide
/-- The polynomial's numbers, and its value. -/
def cfs (S : Nat) (seed : List Nat) (k : Nat) : List Nat := S :: (List.range (k - 1)).map (cfN seed)
def pvN : List Nat → Nat → Nat
  | [], _ => 0
  | a :: c, x => a + x * pvN c x
theorem pvN_take : ∀ (c : List Nat) (j x : Nat), j < c.length → pvN (c.take (j + 1)) x = pvN (c.take j) x + c.getD j 0 * x ^ j
  | [], j, x, h => by simp at h
  | a :: c, 0, x, _ => by simp [pvN]
  | a :: c, j + 1, x, h => by
    have ih := pvN_take c j x (by simpa using h)
    rw [List.take_succ_cons, pvN, ih, List.take_succ_cons, pvN, List.getD_cons_succ, Nat.pow_succ]
    grind
theorem pvN_lt {x : Nat} (hx : x ≤ 20) : ∀ c : List Nat, (∀ a ∈ c, a < Cv.ord) → pvN c x ≤ Cv.ord * 21 ^ c.length
  | [], _ => Nat.zero_le _
  | a :: c, h => by
    have ih := pvN_lt hx c fun b hb => h b (List.mem_cons_of_mem _ hb)
    have h1 := h a List.mem_cons_self
    have h2 : x * pvN c x ≤ 20 * (Cv.ord * 21 ^ c.length) := Nat.mul_le_mul hx ih
    have h3 : 1 ≤ 21 ^ c.length := Nat.pow_pos (by decide)
    have h4 : Cv.ord * 1 ≤ Cv.ord * 21 ^ c.length := Nat.mul_le_mul_left _ h3
    rw [pvN, List.length_cons, Nat.pow_succ]
    have h5 : Cv.ord * (21 ^ c.length * 21) = 21 * (Cv.ord * 21 ^ c.length) := by rw [← Nat.mul_assoc, Nat.mul_comm]
    omega
theorem pvN_ev : ∀ (c : List Nat) (x : Nat), So.ev (c.map fun (a : Nat) => (a : Int)) x = (pvN c x : Int)
  | [], x => rfl
  | a :: c, x => by
    rw [List.map_cons, So.ev, pvN_ev c x, pvN]
    push_cast
    rfl
/-- What Split answers: a fault, or the shares. -/
def splE (S : Nat) (k n : Int) (seed : List Nat) : Nat := if k < 1 ∨ n < k ∨ 20 < n ∨ Cv.ord ≤ S then 1 else if (List.range (k.toNat - 1)).any (fun m => (cfT seed m).isNone) = true then 6 else 0
def shrAt (cs : List Nat) (i : Nat) : Shr := ⟨((i + 1 : Nat) : Int), nm (pvN cs (i + 1) % Cv.ord)⟩
def splL (S : Nat) (k n : Int) (seed : List Nat) : List Shr := if splE S k n seed = 0 then (List.range n.toNat).map (shrAt (cfs S seed k.toNat)) else []
end Go.Proofs.YtdcpicbkemmakaaDoor
