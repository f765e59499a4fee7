/- Texts that were joined: EqP, KnP, CrvB. -/
import Derived.Test.YtfknkfninjjgbabDoorQUpV3ToOfB
import Derived.Laws.StructEq
import Derived.Test.YtfknkfninjjgbabDoorQStoreToKn
import Derived.Test.YtfknkfninjjgbabDoorQMulWToAdN
import Derived.Test.YtfknkfninjjgbabDoorQAl
import Derived.Test.YtfknkfninjjgbabDoorQCvIdToSgM
/- '==' and '!=' of two points. -/
namespace Go.Proofs.YtfknkfninjjgbabDoor
open Go.RowKit
theorem part_num (xs : Array Value) (off : Nat) (w : World) : (part 26 xs off).run Tryd.prog w = .ok (.agg (xs.extract off (off + 4))) w := by
  have hs : (Tryd.prog.info? 26).map (·.size) = some 4 := by kernel_rfl
  cases hq : Tryd.prog.info? 26 with
  | none => simp [hq] at hs
  | some i =>
    have hi : i.size = 4 := by simpa [hq] using hs
    simp [part, isAgg, run_underlying Tryd.underlying26, sizeOf, typeInfo, hq, hi]
set_option maxRecDepth 100000 in
theorem equalIn_num (x y : Nm) (w : World) : (Op.equalIn 9999 26 (N x) (N y)).run Tryd.prog w = .ok (Nm.beq x y) w := by
  have h := run_equalIn_array (P := Tryd.prog) (t := 26) (e := 24) w 9998 #[Value.int .u64 x.a, .int .u64 x.b, .int .u64 x.c, .int .u64 x.d] #[Value.int .u64 y.a, .int .u64 y.b, .int .u64 y.c, .int .u64 y.d] Tryd.underlying26 rfl
  rw [show Tryd.prog.cellsOf 24 = 1 by kernel_rfl, run_eqItems_intsN 9997 (k := .u64) Tryd.underlying24 (by kernel_rfl) x.get y.get _ _ w _ (fun j hj => x.get_N j (List.mem_range.1 hj)) (fun j hj => y.get_N j (List.mem_range.1 hj))] at h
  rw [h]
  simp [List.range_succ, Nm.get, Nm.beq]
theorem point_fields : (Tryd.prog.fieldsOf 34).toList.map (fun f => (f.name, f.type, f.offset)) = [("X", 26, 0), ("Y", 26, 4)] := by kernel_rfl
theorem eqF (x y x' y' : Nm) (w : World) : (Op.equalIn 10000 34 (Wv x y) (Wv x' y')).run Tryd.prog w = .ok (Nm.beq x x' && Nm.beq y y') w := by
  rw [run_equalIn_struct w 9999 34 _ _ (by kernel_rfl) (by kernel_rfl)]
  have hf := point_fields
  generalize (Tryd.prog.fieldsOf 34).toList = fs at hf
  match fs, hf with
  | [], hf => simp at hf
  | [_], hf => simp at hf
  | _ :: _ :: _ :: _, hf => simp at hf
  | [f, g], hf =>
    simp only [List.map_cons, List.map_nil, List.cons.injEq, Prod.mk.injEq, and_true] at hf
    obtain ⟨⟨n1, t1, o1⟩, n2, t2, o2⟩ := hf
    have e1 : (#[Value.int .u64 x.a, .int .u64 x.b, .int .u64 x.c, .int .u64 x.d, .int .u64 y.a, .int .u64 y.b, .int .u64 y.c, .int .u64 y.d] : Array Value).extract 0 (0 + 4) = #[Value.int .u64 x.a, .int .u64 x.b, .int .u64 x.c, .int .u64 x.d] := by simp
    have e2 : (#[Value.int .u64 x'.a, .int .u64 x'.b, .int .u64 x'.c, .int .u64 x'.d, .int .u64 y'.a, .int .u64 y'.b, .int .u64 y'.c, .int .u64 y'.d] : Array Value).extract 0 (0 + 4) = #[Value.int .u64 x'.a, .int .u64 x'.b, .int .u64 x'.c, .int .u64 x'.d] := by simp
    have e3 : (#[Value.int .u64 x.a, .int .u64 x.b, .int .u64 x.c, .int .u64 x.d, .int .u64 y.a, .int .u64 y.b, .int .u64 y.c, .int .u64 y.d] : Array Value).extract 4 (4 + 4) = #[Value.int .u64 y.a, .int .u64 y.b, .int .u64 y.c, .int .u64 y.d] := by simp
    have e4 : (#[Value.int .u64 x'.a, .int .u64 x'.b, .int .u64 x'.c, .int .u64 x'.d, .int .u64 y'.a, .int .u64 y'.b, .int .u64 y'.c, .int .u64 y'.d] : Array Value).extract 4 (4 + 4) = #[Value.int .u64 y'.a, .int .u64 y'.b, .int .u64 y'.c, .int .u64 y'.d] := by simp
    have q1 := equalIn_num x x' w
    have q2 := equalIn_num y y' w
    simp only [Op.eqFields, n1, t1, o1, n2, t2, o2, Sem.run_bind, part_num, Result.andThen_ok, e1, e2, e3, e4, q1, q2, Sem.run_ite, Sem.run_pure]
    cases Nm.beq x x' <;> cases Nm.beq y y' <;> simp
theorem neP (x y x' y' : Nm) (w : World) : (binOp .neq 34 (Wv x y) (Wv x' y')).run Tryd.prog w = .ok (.bool (!(Nm.beq x x' && Nm.beq y y'))) w := by
  rw [run_neq_struct, eqF]
  rfl
end Go.Proofs.YtfknkfninjjgbabDoor

/- What is known of blocks that hold points; package curve's contracts, each as one premise; the verifier's small calls. -/
namespace Go.Proofs.YtfknkfninjjgbabDoor
open Go.RowKit
attribute [local go_sem] World.cell?_alloc_some cell_alloc2 cell_alloc3 cell_alloc4 frozen?_alloc_cells frozen_out
set_option linter.unusedSimpArgs false
abbrev kalP (w : World) (l h : Nm) : World := w.alloc (.cells #[.int .u64 l.a, .int .u64 l.b, .int .u64 l.c, .int .u64 l.d, .int .u64 h.a, .int .u64 h.b, .int .u64 h.c, .int .u64 h.d] 34)
abbrev kzP (w : World) : World := w.alloc (.cells #[.int .u64 0, .int .u64 0, .int .u64 0, .int .u64 0, .int .u64 0, .int .u64 0, .int .u64 0, .int .u64 0] 34)
/-- A point as Go has it. -/
abbrev pv (P : Cv.Pt) : Value := Wv (nm P.1) (nm P.2)
/-- curve.On. -/
def COnC : Prop := (∀ P : Cv.Pt, Cv.On P → ∀ w, Calls Tryd.prog 22 #[pv P] w fun e w' => e = .returned (.bool true) ∧ Below w.heap.size w w') ∧ (∀ x y : Nm, x.ok → y.ok → ¬ Cv.On (x.nat, y.nat) → ∀ w, Calls Tryd.prog 22 #[Wv x y] w fun e w' => e = .returned (.bool false) ∧ Below w.heap.size w w')
def CZeroC : Prop := ∀ w, Calls Tryd.prog 31 #[] w fun e w' => e = .returned (pv Cv.zero) ∧ Below w.heap.size w w'
def CBaseC : Prop := ∀ w, Calls Tryd.prog 9 #[] w fun e w' => e = .returned (pv Cv.base) ∧ Below w.heap.size w w'
def CAddC : Prop := ∀ P Q : Cv.Pt, Cv.On P → Cv.On Q → ∀ w, Calls Tryd.prog 70 #[pv P, pv Q] w fun e w' => e = .returned (.tuple #[pv (Cv.add P Q), .int .i64 0]) ∧ Below w.heap.size w w'
def CTimesC : Prop := ∀ (n : Nm) (P : Cv.Pt), n.ok → Cv.On P → ∀ w, Calls Tryd.prog 24 #[N n, pv P] w fun e w' => e = .returned (.tuple #[pv (Cv.times n.nat P), .int .i64 0]) ∧ Below w.heap.size w w'
end Go.Proofs.YtfknkfninjjgbabDoor

/- Points packed: what package curve must keep of Pack and Unpack; thirty-two bytes and their number. -/
namespace Go.Proofs.YtfknkfninjjgbabDoor
open Go.RowKit
set_option linter.unusedSimpArgs false
abbrev zW' : Value := Wv ⟨0, 0, 0, 0⟩ ⟨0, 0, 0, 0⟩
def CPackC : Prop := ∀ P : Cv.Pt, Cv.On P → ∀ w, Calls Tryd.prog 7 #[pv P] w fun e w' => e = .returned (.tuple #[bV (Cv.pk P), .int .i64 0]) ∧ Below w.heap.size w w'
def CUnpC : Prop := ∀ n, n < 2 ^ 256 → (∀ P, Cv.unp n = some P → ∀ w, Calls Tryd.prog 51 #[bV n] w fun e w' => e = .returned (.tuple #[pv P, .int .i64 0]) ∧ Below w.heap.size w w') ∧ (Cv.unp n = none → ∀ w, Calls Tryd.prog 51 #[bV n] w fun e w' => e = .returned (.tuple #[zW', .int .i64 4]) ∧ Below w.heap.size w w')
end Go.Proofs.YtfknkfninjjgbabDoor
