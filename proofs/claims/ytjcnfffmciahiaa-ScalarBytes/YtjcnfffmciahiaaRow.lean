/- Rows of bytes: a value of thirty-two bytes, where it lies, how it is read and stored whole. -/
import Derived.Test.YtjcnfffmciahiaaEq
import Derived.Deep.MidRow
import Derived.BigQuiet
namespace Go.Proofs.Ytjcnfffmciahiaa
open Go.RowKit

/-- A value of bytes. -/
abbrev Bs (xs : List Int) : Value := .agg (xs.map (Value.int .u8)).toArray
/-- The bytes xs lie in block k. -/
def LiesB (w : World) (k : Nat) (xs : List Int) : Prop := w.rangeAt k 0 (xs.map (Value.int .u8))
theorem LiesB.cell {w : World} {k : Nat} {xs : List Int} (h : LiesB w k xs) {j : Nat} {v : Int} (hj : xs[j]? = some v) : w.cell? ⟨k, j, none⟩ = some (.int .u8 v) := by
  have := h j (.int .u8 v) (by simp [hj])
  simpa using this
theorem LiesB.up {W w1 : World} {k : Nat} {xs : List Int} (h : LiesB W k xs) (hb : Below W.heap.size W w1) : LiesB w1 k xs := by
  intro j v hv
  have := h j v hv
  rw [hb.cell (p := ⟨k, 0 + j, none⟩) (lt_of_cell this)]
  exact this
theorem LiesB.of_block {w : World} {k : Nat} {xs : List Int} {C : Array Value} {t : TypeId} (hb : w.heap[k]? = some (.cells C t)) (hC : C.toList = xs.map (Value.int .u8)) : LiesB w k xs := by
  intro j v hv
  obtain ⟨l⟩ := C
  simp only at hC
  subst hC
  simp only [World.cell?, hb]
  simpa using hv
theorem results_cellN {P : Program} {fn : Func} {tmps : Array Value} {s : Tmp} {t : TypeId} {b : Nat} {cs : List Value} {d : TypeDesc} {W : World} (hr : fn.results = #[.cell s t]) (ht : tmps[s]?.getD undef = .pointer (some ⟨b, 0, none⟩)) (hc : W.rangeAt b 0 cs)
    (hu : P.underlying t = some d) (hd : d.isRow = true) (hi : (P.info? t).map (·.size) = some cs.length) : (results fn tmps).run P W = .ok (.agg cs.toArray) W := by
  have h1 := run_loadVar_mid (P := P) W b 0 t cs d hc hu hd hi
  simp [results, hr, ht, asAddr, h1]
theorem oneCell_bytes (xs : List Int) : (xs.map (Value.int .u8)).toArray.all (·.oneCell') = true := all_oneCell_toArray (fun v hv => by
  obtain ⟨x, _, rfl⟩ := List.mem_map.1 hv
  rfl)
theorem info_b32 : (Try.prog.info? 39).map (·.size) = some 32 := by kernel_rfl
theorem info_len {xs : List Int} (h : xs.length = 32) : (Try.prog.info? 39).map (·.size) = some (xs.map (Value.int .u8)).length := by rw [List.length_map, h]; exact info_b32
theorem info_size {xs : List Int} (h : xs.length = 32) : (Try.prog.info? 39).map (·.size) = some (xs.map (Value.int .u8)).toArray.size := by rw [List.size_toArray]; exact info_len h
set_option maxRecDepth 100000 in
theorem eqB_self (xs : List Int) (hl : xs.length = 32) (w : World) : (binOp .eql 39 (Bs xs) (Bs xs)).run Try.prog w = .ok (.bool true) w := by
  have hg : ∀ j, j < 32 → (xs.map (Value.int .u8)).toArray[j]? = some (.int .u8 (xs.getD j 0)) := fun j hj => by
    have : j < xs.length := by omega
    simp [this]
  rw [run_eql_intsN (P := Try.prog) (t := 39) (e := 5) (n := 32) (k := .u8) Try.underlying39 rfl Try.underlying5 (by kernel_rfl) (by kernel_rfl) (fun j => xs.getD j 0) (fun j => xs.getD j 0) _ _ hg hg]
  simp
theorem below_setCellsN {B k : Nat} {a : World} : ∀ (vs : List Value) (o : Nat) (w : World), Below B a w → B ≤ k → Below B a (w.setCells k o vs)
  | [], _, _, h, _ => h
  | v :: vs, o, _, h, hk => below_setCellsN vs (o + 1) _ (h.setCell hk v) hk
/-- A row of bytes read whole in a quiet walk. -/
theorem quiet_loadN {P : Program} {ops : Array Oper} {C : World → Prop} {Q : Act → Prop} {o : Oper} {rest : List Oper} {a : Act} (hw : Region.wanted o (yielded ops a.tmps) = true) (ty : TypeId) (x : Operand) (ho : o.op = .load ty x)
    (b : Nat) (hx : a.eval x = .pointer (some ⟨b, 0, none⟩)) (cs : List Value) (d : TypeDesc) (hc : ∀ w, C w → w.rangeAt b 0 cs) (hu : P.underlying ty = some d) (hd : d.isRow = true) (hi : (P.info? ty).map (·.size) = some cs.length)
    (h : wpQuiet P ops C Q rest (a.put o.dst (.agg cs.toArray))) : wpQuiet P ops C Q (o :: rest) a := by
  refine BigFrame.wpQuiet_want hw fun K hK => ⟨.agg cs.toArray, fun w hw' => ?_, hK _ h⟩
  unfold Oper.quietAt
  have e : (execOp a.eval o).run P w = .ok (.value (.agg cs.toArray)) w := by
    unfold execOp
    simp only [ho, hx, Instr.loadAt, Instr.sureAddr, Sem.run_bind, Sem.run_pure, Result.andThen_ok, run_loadVar_mid w b 0 ty cs d (hc w hw') hu hd hi]
  rw [e]
  exact ⟨rfl, rfl⟩
end Go.Proofs.Ytjcnfffmciahiaa
