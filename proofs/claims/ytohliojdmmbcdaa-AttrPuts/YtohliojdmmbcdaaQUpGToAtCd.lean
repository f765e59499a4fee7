/- Texts that were joined: UpG, UpQ, UpW, UpZe, AtCd. -/
import Derived.Test.YtohliojdmmbcdaaQUpToKnO
import Derived.Test.YtohliojdmmbcdaaQUpM
import Derived.OrdersHeld
import Derived.Test.YtohliojdmmbcdaaQNumToKn
import Derived.Test.YtohliojdmmbcdaaQYcToYo
import Derived.Test.YtohliojdmmbcdaaQAtO
/- A drawn region in which some operations may be taken first (they yield their value in every world, and each other one waits for them or is apart from them), and the others then come one by one. Over any program. -/
namespace Go.Proofs.Ytohliojdmmbcdaa
open Go.RowKit
section
variable {P : Program} {ops : Array Oper} {Q : Exit → Act → World → Prop}
end
end Go.Proofs.Ytohliojdmmbcdaa

/- A drawn region: some operations are taken first (they yield their value in every world that keeps a condition), the others come one by one, and each keeps the condition. Over any program. -/
namespace Go.Proofs.Ytohliojdmmbcdaa
open Go.RowKit
section
variable {P : Program} {ops : Array Oper} {Q : Exit → Act → World → Prop} {S : World → Prop}
/-- Another end, of the normal way alone. -/
def upN (Q : Exit → Act → World → Prop) (K : Act → World → Prop) : Exit → Act → World → Prop
  | .normal, a, w => K a w
  | e, a, w => Q e a w
theorem wpOp_of_list {i : Nat} {o : Oper} {a : Act} {w : World} {K : Act → World → Prop} (hi : ops[i]? = some o) (h : wpList P ops (upN Q K) [o] a w) : wpOp P ops Q i K a w := by
  unfold wpOp
  simp only [hi]
  unfold wpList at h
  split
  · rename_i hw
    rw [if_pos hw] at h
    rcases h with h | ⟨h1, h2⟩
    · refine .inl ?_
      unfold Oper.wp at h ⊢
      generalize (execOp a.eval o).run P w = r at *
      cases r with
      | ok n w' =>
        cases n <;> simp only [Oper.upon] at h ⊢
        case value v => exact h
        case skip => exact h
        case defer d => exact h
        case enter f args =>
          refine Calls.mono h fun e w'' he => ?_
          cases e with
          | returned u => exact he
          | panicked c => exact he
          | outgrown => exact he
        case row row args => exact h
      | halt x w' => cases x <;> simp only [Oper.upon] at h ⊢ <;> exact h
    · exact .inr ⟨h1, h2⟩
  · rename_i hw
    rw [if_neg hw] at h
    exact h
end
end Go.Proofs.Ytohliojdmmbcdaa

/- A drawn region walked along its orders: one operation after another, each out of those that may come up. Over any program. -/
namespace Go.Proofs.Ytohliojdmmbcdaa
open Go.RowKit
section
variable {P : Program} {ops : Array Oper} {Q : Exit → Act → World → Prop} {S : World → Prop} {fuel : Nat} {listed : Array Bool} {a : Act} {w : World}
theorem wanted_none {o : Oper} {y : Array Value} (h : o.guard = none) : Region.wanted o (yielded ops y) = true := by simp [Region.wanted, h]
/-- An operation by a walk's law. -/
theorem anyH_l {i : Nat} {o : Oper} (ho : ops[i]? = some o) (h : wpList P ops (upN Q fun a' w' => S w' ∧ wpAnyH P .any ops Q S fuel (listed.setIfInBounds i true) a' w') [o] a w) : wpOp P ops Q i (fun a' w' => S w' ∧ wpAnyH P .any ops Q S fuel (listed.setIfInBounds i true) a' w') a w := wpOp_of_list ho h
theorem anyH_end {K : Act → World → Prop} (h : K a w) : wpList P ops (upN Q K) [] a w := h
theorem anyH_one {i : Nat} (hr : Region.ready .any ops listed = [i]) (h : wpOp P ops Q i (fun a' w' => S w' ∧ wpAnyH P .any ops Q S fuel (listed.setIfInBounds i true) a' w') a w) : wpAnyH P .any ops Q S (fuel + 1) listed a w :=
  wpAnyH_all hr (by simp) fun j hj => by
    obtain rfl : j = i := by simpa using hj
    exact h
end
end Go.Proofs.Ytohliojdmmbcdaa

/- Single operations by their values; a call within a walk along orders. -/
namespace Go.Proofs.Ytohliojdmmbcdaa
open Go.RowKit
set_option linter.unusedSimpArgs false
theorem exec_mvM {o : Oper} {a : Act} {v : Value} (x : Operand) (ho : o.op = .move x) (hx : a.eval x = v) (W : World) : (execOp a.eval o).run Try.prog W = .ok (.value v) W := by
  generalize a.eval = ev at *
  unfold execOp
  simp [ho, hx, go_sem]
end Go.Proofs.Ytohliojdmmbcdaa

/- The document's card of attributes: its cells; CardOf. -/
namespace Go.Proofs.Ytohliojdmmbcdaa
open Go.RowKit
attribute [local go_sem] World.cell?_alloc_some cell_alloc2 cell_alloc3 cell_alloc4 frozen?_alloc_cells frozen_out
set_option linter.unusedSimpArgs false
/-- The cells of a card: which kinds are there, and their values. -/
def crdC (f : Nat → Option (List Nat)) : List Value := ((List.range 19).map fun i => .bool (f i).isSome) ++ ((List.range 19).map fun i => .string (sOf ((f i).getD [])))
theorem crdC_length (f : Nat → Option (List Nat)) : (crdC f).length = 38 := by simp [crdC]
theorem crdC_has (f : Nat → Option (List Nat)) {i : Nat} (hi : i < 19) : (crdC f)[i]? = some (.bool (f i).isSome) := by
  rw [crdC, List.getElem?_append_left (by simpa using hi), List.getElem?_map, List.getElem?_range hi]
  rfl
theorem crdC_val (f : Nat → Option (List Nat)) {i : Nat} (hi : i < 19) : (crdC f)[19 + i]? = some (.string (sOf ((f i).getD []))) := by
  rw [crdC, List.getElem?_append_right (by simp), List.getElem?_map]
  simp [List.getElem?_range hi]
def putF (f : Nat → Option (List Nat)) (i : Nat) (v : List Nat) : Nat → Option (List Nat) := fun k => if k = i then some v else f k
theorem crdC_put (f : Nat → Option (List Nat)) {i : Nat} (hi : i < 19) (v : List Nat) : ((crdC f).set i (.bool true)).set (19 + i) (.string (sOf v)) = crdC (putF f i v) := by
  refine List.ext_getElem (by simp [crdC_length]) fun q h1 h2 => ?_
  rw [crdC_length] at h2
  have e1 : ∀ g : Nat → Option (List Nat), ∀ hq, (crdC g)[q]'hq = if q < 19 then .bool (g q).isSome else .string (sOf ((g (q - 19)).getD [])) := fun g hq => by
    by_cases h : q < 19
    · have := crdC_has g h
      rw [List.getElem?_eq_getElem hq] at this
      rw [if_pos h]
      exact Option.some.inj this
    · have := crdC_val g (show q - 19 < 19 by omega)
      rw [show 19 + (q - 19) = q by omega, List.getElem?_eq_getElem hq] at this
      rw [if_neg h]
      exact Option.some.inj this
  rw [List.getElem_set, List.getElem_set, e1, e1]
  unfold putF
  by_cases h3 : 19 + i = q
  · rw [if_pos h3, if_neg (by omega), if_pos (by omega)]
    rfl
  · rw [if_neg h3]
    by_cases h4 : i = q
    · rw [if_pos h4, if_pos (by omega), if_pos h4.symm]
      rfl
    · rw [if_neg h4]
      by_cases h5 : q < 19
      · rw [if_pos h5, if_pos h5, if_neg (fun e => h4 e.symm)]
      · rw [if_neg h5, if_neg h5, if_neg (by omega)]
theorem u_card : Try.prog.underlying 30 = some (.struct (match Try.prog.underlying 30 with | some (.struct fs) => fs | _ => #[])) := by kernel_rfl
theorem info_card (f : Nat → Option (List Nat)) : (Try.prog.info? 30).map (·.size) = some (crdC f).length := by rw [crdC_length]; kernel_rfl
theorem zero_card (w : World) : (zeroValue 30).run Try.prog w = .ok (.agg (crdC fun _ => none).toArray) w := I.zero_of (by kernel_rfl) w
theorem one_crd (f : Nat → Option (List Nat)) : ∀ v ∈ crdC f, v.oneCell' = true := fun v hv => by
  unfold crdC at hv
  rcases List.mem_append.1 hv with hv | hv
  · obtain ⟨i, _, rfl⟩ := List.mem_map.1 hv
    rfl
  · obtain ⟨i, _, rfl⟩ := List.mem_map.1 hv
    rfl
/-- A list's card. -/
def crdF (l : List Ar) (i : Nat) : Option (List Nat) := if 1 ≤ i ∧ i ≤ 18 then getA l (i : Int) else none
theorem crdF_nil : crdF [] = fun _ => none := by
  funext i
  unfold crdF
  split <;> rfl
theorem crdF_skip {l : List Ar} {x : Ar} (h : ¬ (1 ≤ x.k ∧ x.k ≤ 18 ∧ crdF l x.k.toNat = none)) : crdF (l ++ [x]) = crdF l := by
  funext i
  unfold crdF at *
  by_cases hi : 1 ≤ i ∧ i ≤ 18
  · rw [if_pos hi, if_pos hi, getA_app]
    cases hg : getA l (i : Int) with
    | some v => rfl
    | none =>
      rw [Option.none_or, getA]
      by_cases e : x.k = (i : Int)
      · refine absurd ⟨by omega, by omega, ?_⟩ h
        rw [e, Int.toNat_natCast, if_pos hi]
        exact hg
      · rw [if_neg e]
        rfl
  · rw [if_neg hi, if_neg hi]
theorem crdF_put {l : List Ar} {x : Ar} {i : Nat} (hi : 1 ≤ i ∧ i ≤ 18) (hx : x.k = (i : Int)) (hn : crdF l i = none) : crdF (l ++ [x]) = putF (crdF l) i x.v := by
  funext j
  unfold putF
  by_cases e : j = i
  · rw [if_pos e, e]
    unfold crdF at *
    rw [if_pos hi] at hn ⊢
    rw [getA_app, hn, Option.none_or, getA, if_pos hx]
  · rw [if_neg e]
    unfold crdF
    by_cases hj : 1 ≤ j ∧ j ≤ 18
    · rw [if_pos hj, if_pos hj, getA_app]
      cases getA l (j : Int) with
      | some v => rfl
      | none =>
        rw [Option.none_or, getA, if_neg (by omega)]
        rfl
    · rw [if_neg hj, if_neg hj]
theorem exec_faA {o : Oper} {a : Act} {b q f : Nat} (x : Operand) (ho : o.op = .fieldAddr 50 x f) (hf : f < 2) (hx : a.eval x = .pointer (some ⟨b, q, none⟩)) (w : World) : (execOp a.eval o).run Try.prog w = .ok (.value (.pointer (some ⟨b, q + f, none⟩))) w := by
  generalize a.eval = ev at *
  match f, hf with
  | 0, _ =>
    unfold execOp
    simp [ho, hx, go_sem]
  | 1, _ =>
    unfold execOp
    simp [ho, hx, go_sem]
theorem exec_faC {o : Oper} {a : Act} {b q f : Nat} (x : Operand) (ho : o.op = .fieldAddr 30 x f) (hf : f < 2) (hx : a.eval x = .pointer (some ⟨b, q, none⟩)) (w : World) : (execOp a.eval o).run Try.prog w = .ok (.value (.pointer (some ⟨b, q + f * 19, none⟩))) w := by
  generalize a.eval = ev at *
  match f, hf with
  | 0, _ =>
    unfold execOp
    simp [ho, hx, go_sem]
  | 1, _ =>
    unfold execOp
    simp [ho, hx, go_sem]
theorem exec_ixB {o : Oper} {a : Act} {b q i r : Nat} (x y : Operand) (ho : o.op = .indexAddr 27 x y) (hx : a.eval x = .pointer (some ⟨b, q, none⟩)) (hy : a.eval y = .int .i64 (i : Int)) (hi : i < 19) (hr : q + i = r) (w : World) : (execOp a.eval o).run Try.prog w = .ok (.value (.pointer (some ⟨b, r, none⟩))) w := by
  subst hr
  have i0 : (0 : Int) ≤ (i : Int) := by omega
  have i1 : (i : Int) < 19 := by omega
  generalize a.eval = ev at *
  unfold execOp
  simp [ho, hx, hy, go_sem, i0, i1]
theorem exec_ixS {o : Oper} {a : Act} {b q i r : Nat} (x y : Operand) (ho : o.op = .indexAddr 28 x y) (hx : a.eval x = .pointer (some ⟨b, q, none⟩)) (hy : a.eval y = .int .i64 (i : Int)) (hi : i < 19) (hr : q + i = r) (w : World) : (execOp a.eval o).run Try.prog w = .ok (.value (.pointer (some ⟨b, r, none⟩))) w := by
  subst hr
  have i0 : (0 : Int) ≤ (i : Int) := by omega
  have i1 : (i : Int) < 19 := by omega
  generalize a.eval = ev at *
  unfold execOp
  simp [ho, hx, hy, go_sem, i0, i1]
theorem exec_ldi {o : Oper} {a : Act} {b q : Nat} {i : Int} (x : Operand) (ho : o.op = .load 3 x) (hx : a.eval x = .pointer (some ⟨b, q, none⟩)) (w : World) (hc : w.cell? ⟨b, q, none⟩ = some (.int .i64 i)) : (execOp a.eval o).run Try.prog w = .ok (.value (.int .i64 i)) w := by
  generalize a.eval = ev at *
  unfold execOp
  simp [ho, hx, go_sem, hc]
theorem exec_ldb {o : Oper} {a : Act} {b q : Nat} {d : Option Addr} {n c : Nat} (x : Operand) (ho : o.op = .load 33 x) (hx : a.eval x = .pointer (some ⟨b, q, none⟩)) (w : World) (hc : w.cell? ⟨b, q, none⟩ = some (.slice d n c)) : (execOp a.eval o).run Try.prog w = .ok (.value (.slice d n c)) w := by
  generalize a.eval = ev at *
  unfold execOp
  simp [ho, hx, go_sem, hc]
theorem exec_lds {o : Oper} {a : Act} {b q : Nat} {s : ByteArray} (x : Operand) (ho : o.op = .load 9 x) (hx : a.eval x = .pointer (some ⟨b, q, none⟩)) (w : World) (hc : w.cell? ⟨b, q, none⟩ = some (.string s)) : (execOp a.eval o).run Try.prog w = .ok (.value (.string s)) w := by
  generalize a.eval = ev at *
  unfold execOp
  simp [ho, hx, go_sem, hc]
theorem exec_cvA {o : Oper} {a : Act} (x : Operand) (ho : o.op = .convert 33 9 x) (u : Value) (xs : List Nat) (hx : a.eval x = u) (w : World) (h : By w u xs) : (execOp a.eval o).run Try.prog w = .ok (.value (.string (sOf xs))) w := by
  have e1 := bytes_conv h
  generalize a.eval = ev at *
  unfold execOp
  simp [ho, hx, e1]
end Go.Proofs.Ytohliojdmmbcdaa
