/- Texts that were joined: Yc, Yo, AtS. -/
import Derived.Test.YtepaapiflkkghabQUpM
import Derived.Test.YtepaapiflkkghabQNumToStore
import Derived.Test.YtepaapiflkkghabRows
import Derived.Deep.MidRow
import Derived.Test.YtepaapiflkkghabQAtM
import Derived.Test.YtepaapiflkkghabQKn
import Derived.Test.YtepaapiflkkghabQUpVToKnO
import Derived.Test.YtepaapiflkkghabQUpToUpA
import Derived.Test.YtepaapiflkkghabQAl
import Derived.Test.YtepaapiflkkghabQUpMG
/- A call among the operations of a drawn region, its operands told by their values: the frame is not looked at. -/
namespace Go.Proofs.Ytepaapiflkkghab
open Go.RowKit
set_option linter.unusedSimpArgs false
end Go.Proofs.Ytepaapiflkkghab

/- Small operations among those of a drawn region, their operands told by their values: the frame is not looked at. -/
namespace Go.Proofs.Ytepaapiflkkghab
open Go.RowKit
set_option linter.unusedSimpArgs false
theorem yields_run {o : Oper} {a : Act} {w : World} {v : Value} (e : (execOp a.eval o).run Try.prog w = .ok (.value v) w) : YieldsP Try.prog o a w (MP.eq v).p := by
  unfold YieldsP
  rw [e]
  exact ⟨rfl, Below.refl _ _⟩
theorem yields_ldR {o : Oper} {a : Act} {w : World} (ty : TypeId) (x : Operand) (ho : o.op = .load ty x) (b f : Nat) (hx : a.eval x = .pointer (some ⟨b, f, none⟩)) (cs : List Value) (d : TypeDesc) (hc : w.rangeAt b f cs) (hu : Try.prog.underlying ty = some d) (hd : d.isRow = true) (hi : (Try.prog.info? ty).map (·.size) = some cs.length) : YieldsP Try.prog o a w (MP.eq (.agg cs.toArray)).p :=
  yields_run (by
    unfold execOp
    simp only [ho, hx, Instr.loadAt, Instr.sureAddr, Sem.run_bind, Sem.run_pure, Result.andThen_ok, run_loadVar_mid w b f ty cs d hc hu hd hi])
end Go.Proofs.Ytepaapiflkkghab

/- Attributes: FirstOf, Fits and SameAttrs as the document has them. -/
namespace Go.Proofs.Ytepaapiflkkghab
open Go.RowKit
attribute [local go_sem] World.cell?_alloc_some cell_alloc2 cell_alloc3 cell_alloc4 frozen?_alloc_cells frozen_out
attribute [local go_sem] YieldsP execOp
attribute [local simp] MP.eq_p
set_option linter.unusedSimpArgs false
def atZ : List Value := [.int .i64 0, .slice none 0 0]
theorem u_attr : Try.prog.underlying 38 = some (.struct (match Try.prog.underlying 38 with | some (.struct fs) => fs | _ => #[])) := by kernel_rfl
theorem info_attr (k : Int) (u : Value) : (Try.prog.info? 38).map (·.size) = some ([Value.int .i64 k, u] : List Value).length := by kernel_rfl
theorem zero_attr (w : World) : (zeroValue 38).run Try.prog w = .ok (.agg atZ.toArray) w := I.zero_of (by kernel_rfl) w
/-- An element in memory, as it lies in one world; it stays. -/
def AtE (w : World) (b o : Nat) (x : Ar) (a : Option Addr) (c : Nat) : Prop := w.cell? ⟨b, o, none⟩ = some (.int .i64 x.k) ∧ w.cell? ⟨b, o + 1, none⟩ = some (.slice a x.v.length c) ∧ By w (.slice a x.v.length c) x.v
theorem AtE.up {w w1 : World} {b o : Nat} {x : Ar} {a : Option Addr} {c : Nat} (h : AtE w b o x a c) (hb : Below w.heap.size w w1) : AtE w1 b o x a c :=
  ⟨(hb.cell (p := ⟨b, _, none⟩) (lt_of_cellB h.1)).trans h.1, (hb.cell (p := ⟨b, _, none⟩) (lt_of_cellB h.2.1)).trans h.2.1, h.2.2.up hb (Nat.le_refl _)⟩
theorem AtE.rng {w : World} {b o : Nat} {x : Ar} {a : Option Addr} {c : Nat} (h : AtE w b o x a c) : w.rangeAt b o [.int .i64 x.k, .slice a x.v.length c] := fun j v hv => by
  match j, hv with
  | 0, hv =>
    obtain rfl := Option.some.inj hv
    exact h.1
  | 1, hv =>
    obtain rfl := Option.some.inj hv
    exact h.2.1
theorem Ats.elem {w : World} {b o n c : Nat} {l : List Ar} (h : Ats w (.slice (some ⟨b, o, none⟩) n c) l) {j : Nat} {x : Ar} (hx : l[j]? = some x) : ∃ a d, AtE w b (o + j * 2) x a d := by
  obtain ⟨a', c', e, -, -, h2⟩ := id h
  cases e
  have hj := (List.getElem?_eq_some_iff.1 hx).1
  obtain ⟨b', o', e, h3⟩ := h2 (by omega)
  cases e
  obtain ⟨h1, u, h4, h5⟩ := h3 j x hx
  obtain ⟨a, d, rfl, -⟩ := id h5
  exact ⟨a, d, h1, h4, h5⟩
theorem Ats.addr {w : World} {a : Option Addr} {n c : Nat} {l : List Ar} (h : Ats w (.slice a n c) l) (hn : 0 < n) : ∃ b o, a = some ⟨b, o, none⟩ := by
  obtain ⟨b, o, e, -⟩ := h.rows hn
  exact ⟨b, o, e⟩
theorem getA_take {l : List Ar} {k : Int} {j : Nat} {x : Ar} (no : ∀ (i : Nat) (y : Ar), i < j → l[i]? = some y → y.k ≠ k) (hx : l[j]? = some x) (hk : x.k = k) : getA l k = some x.v := by
  induction l generalizing j with
  | nil => cases hx
  | cons y l ih =>
    rw [getA]
    cases j with
    | zero =>
      obtain rfl : y = x := by simpa using hx
      rw [if_pos hk]
    | succ j =>
      rw [if_neg (no 0 y (Nat.succ_pos _) rfl)]
      exact ih (j := j) (fun i z hi hz => no (i + 1) z (by omega) (by simpa using hz)) (by simpa using hx)
theorem getA_out {l : List Ar} {k : Int} (no : ∀ (i : Nat) (y : Ar), l[i]? = some y → y.k ≠ k) : getA l k = none := by
  cases h : getA l k with
  | none => rfl
  | some v =>
    obtain ⟨x, hx, hk, _⟩ := getA_mem h
    obtain ⟨i, hi, rfl⟩ := List.getElem_of_mem hx
    exact absurd hk (no i _ (List.getElem?_eq_getElem hi))
end Go.Proofs.Ytepaapiflkkghab
