/- Texts that were joined: Row, Bytes. -/
import Derived.Test.YtbninaelmbkboabGrp3
import Derived.Deep.MidRow
import Derived.BigQuiet
import Derived.Test.YtbninaelmbkboabRows
import Derived.Test.YtbninaelmbkboabOct
import Derived.WalkKit
import Derived.WalkSpells
import Derived.WalkLawsBesides
/- Rows of bytes: a value of thirty-two bytes, where it lies, how it is read and stored whole. -/
namespace Go.Proofs.Ytbninaelmbkboab
open Go.RowKit

/-- A value of bytes. -/
abbrev Bs (xs : List Int) : Value := .agg (xs.map (Value.int .u8)).toArray
/-- The bytes xs lie in block k. -/
def LiesB (w : World) (k : Nat) (xs : List Int) : Prop := w.rangeAt k 0 (xs.map (Value.int .u8))
theorem LiesB.cell {w : World} {k : Nat} {xs : List Int} (h : LiesB w k xs) {j : Nat} {v : Int} (hj : xs[j]? = some v) : w.cell? ⟨k, j, none⟩ = some (.int .u8 v) := by
  have := h j (.int .u8 v) (by simp [hj])
  simpa using this
theorem LiesB.up {W w1 : World} {k : Nat} {xs : List Int} (h : LiesB W k xs) (hb : Below W.heap.size W w1) : LiesB w1 k xs := by
  intro j v hv
  have := h j v hv
  rw [hb.cell (p := ⟨k, 0 + j, none⟩) (lt_of_cell this)]
  exact this
theorem LiesB.of_block {w : World} {k : Nat} {xs : List Int} {C : Array Value} {t : TypeId} (hb : w.heap[k]? = some (.cells C t)) (hC : C.toList = xs.map (Value.int .u8)) : LiesB w k xs := by
  intro j v hv
  obtain ⟨l⟩ := C
  simp only at hC
  subst hC
  simp only [World.cell?, hb]
  simpa using hv
theorem results_cell {P : Program} {fn : Func} {tmps : Array Value} {s : Tmp} {t : TypeId} {b : Nat} {cs : List Value} {d : TypeDesc} {W : World} (hr : fn.results = #[.cell s t]) (ht : tmps[s]?.getD undef = .pointer (some ⟨b, 0, none⟩)) (hc : W.rangeAt b 0 cs)
    (hu : P.underlying t = some d) (hd : d.isRow = true) (hi : (P.info? t).map (·.size) = some cs.length) : (results fn tmps).run P W = .ok (.agg cs.toArray) W := by
  have h1 := run_loadVar_mid (P := P) W b 0 t cs d hc hu hd hi
  simp [results, hr, ht, asAddr, h1]
theorem oneCell_bytes (xs : List Int) : (xs.map (Value.int .u8)).toArray.all (·.oneCell') = true := all_oneCell_toArray (fun v hv => by
  obtain ⟨x, _, rfl⟩ := List.mem_map.1 hv
  rfl)
theorem info_b32 : (Try.prog.info? 35).map (·.size) = some 32 := by kernel_rfl
theorem info_len {xs : List Int} (h : xs.length = 32) : (Try.prog.info? 35).map (·.size) = some (xs.map (Value.int .u8)).length := by rw [List.length_map, h]; exact info_b32
theorem info_size {xs : List Int} (h : xs.length = 32) : (Try.prog.info? 35).map (·.size) = some (xs.map (Value.int .u8)).toArray.size := by rw [List.size_toArray]; exact info_len h
set_option maxRecDepth 100000 in
theorem eqB_self (xs : List Int) (hl : xs.length = 32) (w : World) : (binOp .eql 35 (Bs xs) (Bs xs)).run Try.prog w = .ok (.bool true) w := by
  have hg : ∀ j, j < 32 → (xs.map (Value.int .u8)).toArray[j]? = some (.int .u8 (xs.getD j 0)) := fun j hj => by
    have : j < xs.length := by omega
    simp [this]
  rw [run_eql_ints (P := Try.prog) (t := 35) (e := 5) (n := 32) (k := .u8) Try.underlying35 rfl Try.underlying5 (by kernel_rfl) (by kernel_rfl) (fun j => xs.getD j 0) (fun j => xs.getD j 0) _ _ hg hg]
  simp
theorem below_setCells {B k : Nat} {a : World} : ∀ (vs : List Value) (o : Nat) (w : World), Below B a w → B ≤ k → Below B a (w.setCells k o vs)
  | [], _, _, h, _ => h
  | v :: vs, o, _, h, hk => below_setCells vs (o + 1) _ (h.setCell hk v) hk
/-- A row of bytes read whole in a quiet walk. -/
theorem quiet_load {P : Program} {ops : Array Oper} {C : World → Prop} {Q : Act → Prop} {o : Oper} {rest : List Oper} {a : Act} (hw : Region.wanted o (yielded ops a.tmps) = true) (ty : TypeId) (x : Operand) (ho : o.op = .load ty x)
    (b : Nat) (hx : a.eval x = .pointer (some ⟨b, 0, none⟩)) (cs : List Value) (d : TypeDesc) (hc : ∀ w, C w → w.rangeAt b 0 cs) (hu : P.underlying ty = some d) (hd : d.isRow = true) (hi : (P.info? ty).map (·.size) = some cs.length)
    (h : wpQuiet P ops C Q rest (a.put o.dst (.agg cs.toArray))) : wpQuiet P ops C Q (o :: rest) a := by
  refine BigFrame.wpQuiet_want hw fun K hK => ⟨.agg cs.toArray, fun w hw' => ?_, hK _ h⟩
  unfold Oper.quietAt
  have e : (execOp a.eval o).run P w = .ok (.value (.agg cs.toArray)) w := by
    unfold execOp
    simp only [ho, hx, Instr.loadAt, Instr.sureAddr, Sem.run_bind, Sem.run_pure, Result.andThen_ok, run_loadVar_mid w b 0 ty cs d (hc w hw') hu hd hi]
  rw [e]
  exact ⟨rfl, rfl⟩
end Go.Proofs.Ytbninaelmbkboab

/- The contract of limb.Bytes: the bytes of a number, the least first. -/
namespace Go.Proofs.Ytbninaelmbkboab
open Go.RowKit

/-- The first k of thirty-two bytes laid, the others 0. -/
def fillB (f : Nat → Int) (k : Nat) : Array Value := ((List.range 32).map fun j => Value.int .u8 (if j < k then f j else 0)).toArray
theorem fillB_size (f : Nat → Int) (k : Nat) : (fillB f k).size = 32 := by simp [fillB]
theorem fillB_get (f : Nat → Int) (k j : Nat) (h : j < 32) : (fillB f k)[j]? = some (.int .u8 (if j < k then f j else 0)) := by simp [fillB, h]
theorem fillB_set (f : Nat → Int) (k : Nat) (h : k < 32) : (fillB f k).setIfInBounds k (.int .u8 (f k)) = fillB f (k + 1) := by
  apply Array.ext_getElem?
  intro j
  rw [Array.getElem?_setIfInBounds, fillB_size]
  rcases Nat.lt_or_ge j 32 with hj | hj
  · rw [fillB_get f k j hj, fillB_get f (k + 1) j hj]
    by_cases e : k = j
    · subst e; simp [h]
    · rw [if_neg e]
      by_cases l : j < k
      · rw [if_pos l, if_pos (by omega)]
      · rw [if_neg l, if_neg (by omega)]
  · rw [Array.getElem?_eq_none (by rw [fillB_size]; exact hj), Array.getElem?_eq_none (by rw [fillB_size]; exact hj), if_neg (by omega)]
theorem fillB_zero (f : Nat → Int) : fillB f 0 = (List.replicate 32 (Value.int .u8 0)).toArray := by
  unfold fillB
  congr 1

/-- Byte j of a number. -/
def byteAt (x : Nm) (j : Nat) : Int := x.get (j / 8) / 2 ^ (j % 8 * 8) % 256

/-- The bytes of a number. -/
def bytesOf (x : Nm) : List Int := (List.range 32).map (byteAt x)
theorem bytesOf_length (x : Nm) : (bytesOf x).length = 32 := by simp [bytesOf]
theorem fillB_all (x : Nm) : (fillB (byteAt x) 32).toList = (bytesOf x).map (Value.int .u8) := by
  unfold fillB bytesOf
  rw [List.map_map]
  apply List.map_congr_left
  intro j hj
  simp [List.mem_range.1 hj]

set_option maxHeartbeats 1000000 in
theorem bytes_fun (x : Nm) (w : World) :
    Calls Try.prog 41 #[N x] w fun e w' => e = .returned (Bs (bytesOf x)) ∧ Below w.heap.size w w' := by
  go_enter Try.func41, Try.ntmps41
  go_wp2
  go_loopw [5] (fun i w' => ∃ k : Nat, k ≤ 32 ∧ i = .int .i64 k ∧ w' = ((w.alloc (.cells #[.int .u64 x.a, .int .u64 x.b, .int .u64 x.c, .int .u64 x.d] 24)).alloc (.cells (fillB (byteAt x) 0) 35)).alloc (.cells (fillB (byteAt x) k) 35)) (fun i _ => 32 - (intOf i).toNat)
  case atStart => exact ⟨0, by omega, rfl, rfl⟩
  case round =>
    obtain ⟨k, hk, rfl, rfl⟩ := hrel
    by_cases hlt : k < 32
    · have g1 := x.get_N (k / 8) (by omega)
      have g2 : ([Value.int .u64 x.a, .int .u64 x.b, .int .u64 x.c, .int .u64 x.d] : List Value)[k / 8]? = some (.int .u64 (x.get (k / 8))) := by simpa using g1
      have g3 : (fillB (byteAt x) k)[k]? = some (.int .u8 0) := by rw [fillB_get _ _ _ hlt]; simp
      go_wp2
      go_roundw
      case rel => exact ⟨k + 1, by omega, by go_num, by rw [← fillB_set (byteAt x) k hlt]; rfl⟩
      case measure => simp [intOf]; omega
    · have hk32 : k = 32 := by omega
      subst hk32
      clear hlt hk
      have L3 : Hid (LiesB (((w.alloc (.cells #[.int .u64 x.a, .int .u64 x.b, .int .u64 x.c, .int .u64 x.d] 24)).alloc (.cells (fillB (byteAt x) 0) 35)).alloc (.cells (fillB (byteAt x) 32) 35)) (w.heap.size + 1 + 1) (bytesOf x)) :=
        LiesB.of_block (by have := (MapKept.heap_alloc ((w.alloc (.cells #[.int .u64 x.a, .int .u64 x.b, .int .u64 x.c, .int .u64 x.d] 24)).alloc (.cells (fillB (byteAt x) 0) 35)) (.cells (fillB (byteAt x) 32) 35)).1; simpa using this) (fillB_all x)
      have T2 : Hid (World.there (((w.alloc (.cells #[.int .u64 x.a, .int .u64 x.b, .int .u64 x.c, .int .u64 x.d] 24)).alloc (.cells (fillB (byteAt x) 0) 35)).alloc (.cells (fillB (byteAt x) 32) 35)) (w.heap.size + 1) 0 32) := by
        intro j hj
        have := fillB_get (byteAt x) 0 j hj
        simp [go_sem, this]
      have T3 : Hid (World.there (((w.alloc (.cells #[.int .u64 x.a, .int .u64 x.b, .int .u64 x.c, .int .u64 x.d] 24)).alloc (.cells (fillB (byteAt x) 0) 35)).alloc (.cells (fillB (byteAt x) 32) 35)) (w.heap.size + 1) 0 ((bytesOf x).map (Value.int .u8)).toArray.size) := by
        have e : ((bytesOf x).map (Value.int .u8)).toArray.size = 32 := by simp [bytesOf_length]
        rw [e]
        exact T2.out
      have T4 : Hid (World.there (((w.alloc (.cells #[.int .u64 x.a, .int .u64 x.b, .int .u64 x.c, .int .u64 x.d] 24)).alloc (.cells (fillB (byteAt x) 0) 35)).alloc (.cells (fillB (byteAt x) 32) 35)) (w.heap.size + 1) 0 ((bytesOf x).map (Value.int .u8)).length) := by
        have e : ((bytesOf x).map (Value.int .u8)).length = 32 := by simp [bytesOf_length]
        rw [e]
        exact T2.out
      go_wp2_with (first | refine wpList_load_mid rfl 35 (.tmp 3) rfl (w.heap.size + 1 + 1) 0 rfl ((bytesOf x).map (Value.int .u8)) _ L3.out Try.underlying35 rfl (info_len (bytesOf_length x)) ?_ | refine wpList_store_mid rfl 35 (.tmp 2) (.tmp 21) rfl (w.heap.size + 1) 0 ((bytesOf x).map (Value.int .u8)).toArray rfl rfl T3.out (info_size (bytesOf_length x)) (oneCell_bytes _) ?_)
      refine bodyPost_ret (v := Bs (bytesOf x)) ?_ rfl ⟨rfl, ?_⟩
      · exact results_cell (b := w.heap.size + 1) rfl rfl (World.rangeAt_setCells_same _ _ _ _ T4.out) Try.underlying35 rfl (info_len (bytesOf_length x))
      · refine below_setCells _ _ _ ?_ (by omega)
        repeat (first | exact Below.refl _ _ | refine Below.alloc ?_ (by simp <;> omega) _)
end Go.Proofs.Ytbninaelmbkboab
