/- Texts that were joined: Oct, Row, Bytes, ByN, CrvB. -/
import Derived.Test.YtfknkfninjjgbaaGreatDoorQNumToDigO
import Derived.Test.YtfknkfninjjgbaaGreatDoorQCAssToRPt
import Derived.Deep.MidRow
import Derived.BigQuiet
import Derived.Test.YtfknkfninjjgbaaGreatDoorRows
import Derived.WalkKit
import Derived.WalkSpells
import Derived.WalkLawsBesides
import Derived.Test.YtfknkfninjjgbaaGreatDoorQUpVToKnO
import Derived.Test.YtfknkfninjjgbaaGreatDoorQDDigPToFeP
/- Eight bytes as a word, the least first: no program in sight. -/
namespace Go.Proofs.YtfknkfninjjgbaaGreatDoor
open Go.RowKit
structure Oct where
 a : Int
 b : Int
 c : Int
 d : Int
 e : Int
 f : Int
 g : Int
 i : Int
def Byte (x : Int) : Prop := 0 ≤ x ∧ x < 256
structure Oct.ok (p : Oct) : Prop where
 a : Byte p.a
 b : Byte p.b
 c : Byte p.c
 d : Byte p.d
 e : Byte p.e
 f : Byte p.f
 g : Byte p.g
 i : Byte p.i
def Oct.val (p : Oct) : Int := p.a + 256 * p.b + 65536 * p.c + 16777216 * p.d + 4294967296 * p.e + 1099511627776 * p.f + 281474976710656 * p.g + 72057594037927936 * p.i
def Oct.of (n : Int) : Oct := ⟨n % 256, n / 256 % 256, n / 65536 % 256, n / 16777216 % 256, n / 4294967296 % 256, n / 1099511627776 % 256, n / 281474976710656 % 256, n / 72057594037927936 % 256⟩
theorem Oct.of_ok (n : Int) : (Oct.of n).ok := by
 refine ⟨⟨?_, ?_⟩, ⟨?_, ?_⟩, ⟨?_, ?_⟩, ⟨?_, ?_⟩, ⟨?_, ?_⟩, ⟨?_, ?_⟩, ⟨?_, ?_⟩, ⟨?_, ?_⟩⟩ <;> simp only [Oct.of] <;> omega
theorem Oct.of_val {n : Int} (h : Word n) : (Oct.of n).val = n := by
 obtain ⟨h0, h1⟩ := h
 simp only [Oct.of, Oct.val]
 omega
end Go.Proofs.YtfknkfninjjgbaaGreatDoor

/- Rows of bytes: a value of thirty-two bytes, where it lies, how it is read and stored whole. -/
namespace Go.Proofs.YtfknkfninjjgbaaGreatDoor
open Go.RowKit
/-- A value of bytes. -/
abbrev Bs (xs : List Int) : Value := .agg (xs.map (Value.int .u8)).toArray
/-- The bytes xs lie in block k. -/
def LiesB (w : World) (k : Nat) (xs : List Int) : Prop := w.rangeAt k 0 (xs.map (Value.int .u8))
theorem LiesB.cell {w : World} {k : Nat} {xs : List Int} (h : LiesB w k xs) {j : Nat} {v : Int} (hj : xs[j]? = some v) : w.cell? ⟨k, j, none⟩ = some (.int .u8 v) := by
 have := h j (.int .u8 v) (by simp [hj])
 simpa using this
theorem LiesB.up {W w1 : World} {k : Nat} {xs : List Int} (h : LiesB W k xs) (hb : Below W.heap.size W w1) : LiesB w1 k xs := by
 intro j v hv
 have := h j v hv
 rw [hb.cell (p := ⟨k, 0 + j, none⟩) (lt_of_cell this)]
 exact this
theorem LiesB.of_block {w : World} {k : Nat} {xs : List Int} {C : Array Value} {t : TypeId} (hb : w.heap[k]? = some (.cells C t)) (hC : C.toList = xs.map (Value.int .u8)) : LiesB w k xs := by
 intro j v hv
 obtain ⟨l⟩ := C
 simp only at hC
 subst hC
 simp only [World.cell?, hb]
 simpa using hv
theorem results_cellN {P : Program} {fn : Func} {tmps : Array Value} {s : Tmp} {t : TypeId} {b : Nat} {cs : List Value} {d : TypeDesc} {W : World} (hr : fn.results = #[.cell s t]) (ht : tmps[s]?.getD undef = .pointer (some ⟨b, 0, none⟩)) (hc : W.rangeAt b 0 cs)
  (hu : P.underlying t = some d) (hd : d.isRow = true) (hi : (P.info? t).map (·.size) = some cs.length) : (results fn tmps).run P W = .ok (.agg cs.toArray) W := by
 have h1 := run_loadVar_mid (P := P) W b 0 t cs d hc hu hd hi
 simp [results, hr, ht, asAddr, h1]
theorem oneCell_bytes (xs : List Int) : (xs.map (Value.int .u8)).toArray.all (·.oneCell') = true := all_oneCell_toArray (fun v hv => by
 obtain ⟨x, _, rfl⟩ := List.mem_map.1 hv
 rfl)
theorem info_b32 : (Tryz.prog.info? 22).map (·.size) = some 32 := by kernel_rfl
theorem info_len {xs : List Int} (h : xs.length = 32) : (Tryz.prog.info? 22).map (·.size) = some (xs.map (Value.int .u8)).length := by rw [List.length_map, h]; exact info_b32
theorem info_size {xs : List Int} (h : xs.length = 32) : (Tryz.prog.info? 22).map (·.size) = some (xs.map (Value.int .u8)).toArray.size := by rw [List.size_toArray]; exact info_len h
theorem below_setCellsN {B k : Nat} {a : World} : ∀ (vs : List Value) (o : Nat) (w : World), Below B a w → B ≤ k → Below B a (w.setCells k o vs)
 | [], _, _, h, _ => h
 | v :: vs, o, _, h, hk => below_setCellsN vs (o + 1) _ (h.setCell hk v) hk
end Go.Proofs.YtfknkfninjjgbaaGreatDoor

/- The contract of limb.Bytes: the bytes of a number, the least first. -/
namespace Go.Proofs.YtfknkfninjjgbaaGreatDoor
open Go.RowKit
/-- The first k of thirty-two bytes laid, the others 0. -/
def fillB (f : Nat → Int) (k : Nat) : Array Value := ((List.range 32).map fun j => Value.int .u8 (if j < k then f j else 0)).toArray
theorem fillB_size (f : Nat → Int) (k : Nat) : (fillB f k).size = 32 := by simp [fillB]
theorem fillB_get (f : Nat → Int) (k j : Nat) (h : j < 32) : (fillB f k)[j]? = some (.int .u8 (if j < k then f j else 0)) := by simp [fillB, h]
theorem fillB_set (f : Nat → Int) (k : Nat) (h : k < 32) : (fillB f k).setIfInBounds k (.int .u8 (f k)) = fillB f (k + 1) := by
 apply Array.ext_getElem?
 intro j
 rw [Array.getElem?_setIfInBounds, fillB_size]
 rcases Nat.lt_or_ge j 32 with hj | hj
 ·rw [fillB_get f k j hj, fillB_get f (k + 1) j hj]
  by_cases e : k = j
  ·subst e; simp [h]
  ·rw [if_neg e]
   by_cases l : j < k
   ·rw [if_pos l, if_pos (by omega)]
   ·rw [if_neg l, if_neg (by omega)]
 ·rw [Array.getElem?_eq_none (by rw [fillB_size]; exact hj), Array.getElem?_eq_none (by rw [fillB_size]; exact hj), if_neg (by omega)]
/-- Byte j of a number. -/
def byteAt (x : Nm) (j : Nat) : Int := x.get (j / 8) / 2 ^ (j % 8 * 8) % 256
/-- The bytes of a number. -/
def bytesOf (x : Nm) : List Int := (List.range 32).map (byteAt x)
theorem bytesOf_length (x : Nm) : (bytesOf x).length = 32 := by simp [bytesOf]
theorem fillB_all (x : Nm) : (fillB (byteAt x) 32).toList = (bytesOf x).map (Value.int .u8) := by
 unfold fillB bytesOf
 rw [List.map_map]
 apply List.map_congr_left
 intro j hj
 simp [List.mem_range.1 hj]
set_option maxHeartbeats 1000000 in
theorem bytes_fun (x : Nm) (w : World) :
  Calls Tryz.prog 29 #[N x] w fun e w' => e = .returned (Bs (bytesOf x)) ∧ Below w.heap.size w w' := by
 go_enter Tryz.func29, Tryz.ntmps29
 go_wp2
 go_loopw [5] (fun i w' => ∃ k : Nat, k ≤ 32 ∧ i = .int .i64 k ∧ w' = ((w.alloc (.cells #[.int .u64 x.a, .int .u64 x.b, .int .u64 x.c, .int .u64 x.d] 26)).alloc (.cells (fillB (byteAt x) 0) 22)).alloc (.cells (fillB (byteAt x) k) 22)) (fun i _ => 32 - (intOf i).toNat)
 case atStart => exact ⟨0, by omega, rfl, rfl⟩
 case round =>
  obtain ⟨k, hk, rfl, rfl⟩ := hrel
  by_cases hlt : k < 32
  ·have g1 := x.get_N (k / 8) (by omega)
   have g2 : ([Value.int .u64 x.a, .int .u64 x.b, .int .u64 x.c, .int .u64 x.d] : List Value)[k / 8]? = some (.int .u64 (x.get (k / 8))) := by simpa using g1
   have g3 : (fillB (byteAt x) k)[k]? = some (.int .u8 0) := by rw [fillB_get _ _ _ hlt]; simp
   go_wp2
   go_roundw
   case rel => exact ⟨k + 1, by omega, by go_num, by rw [← fillB_set (byteAt x) k hlt]; rfl⟩
   case measure => simp [intOf]; omega
  ·have hk32 : k = 32 := by omega
   subst hk32
   clear hlt hk
   have L3 : Hid (LiesB (((w.alloc (.cells #[.int .u64 x.a, .int .u64 x.b, .int .u64 x.c, .int .u64 x.d] 26)).alloc (.cells (fillB (byteAt x) 0) 22)).alloc (.cells (fillB (byteAt x) 32) 22)) (w.heap.size + 1 + 1) (bytesOf x)) :=
    LiesB.of_block (by have := (MapKept.heap_alloc ((w.alloc (.cells #[.int .u64 x.a, .int .u64 x.b, .int .u64 x.c, .int .u64 x.d] 26)).alloc (.cells (fillB (byteAt x) 0) 22)) (.cells (fillB (byteAt x) 32) 22)).1; simpa using this) (fillB_all x)
   have T2 : Hid (World.there (((w.alloc (.cells #[.int .u64 x.a, .int .u64 x.b, .int .u64 x.c, .int .u64 x.d] 26)).alloc (.cells (fillB (byteAt x) 0) 22)).alloc (.cells (fillB (byteAt x) 32) 22)) (w.heap.size + 1) 0 32) := by
    intro j hj
    have := fillB_get (byteAt x) 0 j hj
    simp [go_sem, this]
   have T3 : Hid (World.there (((w.alloc (.cells #[.int .u64 x.a, .int .u64 x.b, .int .u64 x.c, .int .u64 x.d] 26)).alloc (.cells (fillB (byteAt x) 0) 22)).alloc (.cells (fillB (byteAt x) 32) 22)) (w.heap.size + 1) 0 ((bytesOf x).map (Value.int .u8)).toArray.size) := by
    have e : ((bytesOf x).map (Value.int .u8)).toArray.size = 32 := by simp [bytesOf_length]
    rw [e]
    exact T2.out
   have T4 : Hid (World.there (((w.alloc (.cells #[.int .u64 x.a, .int .u64 x.b, .int .u64 x.c, .int .u64 x.d] 26)).alloc (.cells (fillB (byteAt x) 0) 22)).alloc (.cells (fillB (byteAt x) 32) 22)) (w.heap.size + 1) 0 ((bytesOf x).map (Value.int .u8)).length) := by
    have e : ((bytesOf x).map (Value.int .u8)).length = 32 := by simp [bytesOf_length]
    rw [e]
    exact T2.out
   go_wp2_with (first | refine wpList_load_mid rfl 22 (.tmp 3) rfl (w.heap.size + 1 + 1) 0 rfl ((bytesOf x).map (Value.int .u8)) _ L3.out Tryz.underlying22 rfl (info_len (bytesOf_length x)) ?_ | refine wpList_store_mid rfl 22 (.tmp 2) (.tmp 21) rfl (w.heap.size + 1) 0 ((bytesOf x).map (Value.int .u8)).toArray rfl rfl T3.out (info_size (bytesOf_length x)) (oneCell_bytes _) ?_)
   refine bodyPost_ret (v := Bs (bytesOf x)) ?_ rfl ⟨rfl, ?_⟩
   ·exact results_cellN (b := w.heap.size + 1) rfl rfl (World.rangeAt_setCells_same _ _ _ _ T4.out) Tryz.underlying22 rfl (info_len (bytesOf_length x))
   ·refine below_setCellsN _ _ _ ?_ (by omega)
    repeat (first | exact Below.refl _ _ | refine Below.alloc ?_ (by simp <;> omega) _)
end Go.Proofs.YtfknkfninjjgbaaGreatDoor

/- Thirty-two bytes and their number; limb.Bytes by a number. -/
namespace Go.Proofs.YtfknkfninjjgbaaGreatDoor
open Go.RowKit
set_option linter.unusedSimpArgs false
/-- A number of bytes. -/
theorem num_of : ∀ xs : List Int, (∀ x ∈ xs, 0 ≤ x ∧ x < 256) → ∃ n : Nat, n < 256 ^ xs.length ∧ ∀ i, i < xs.length → xs.getD i 0 = ((n / 256 ^ i % 256 : Nat) : Int)
 | [], _ => ⟨0, by decide, fun i hi => absurd hi (by simp)⟩
 | x :: xs, h => by
  obtain ⟨n, hn, he⟩ := num_of xs fun y hy => h y (List.mem_cons_of_mem _ hy)
  have hx := h x List.mem_cons_self
  refine ⟨x.toNat + 256 * n, ?_, fun i hi => ?_⟩
  ·rw [List.length_cons, Nat.pow_succ]
   omega
  ·cases i with
   | zero =>
    rw [Nat.pow_zero, Nat.div_one]
    show x = _
    omega
   | succ i =>
    rw [Nat.pow_succ, Nat.mul_comm (256 ^ i) 256, ← Nat.div_div_eq_div_mul, show (x.toNat + 256 * n) / 256 = n by omega]
    exact he i (by simpa using hi)
theorem bytes_num (xs : List Int) (hl : xs.length = 32) (hx : ∀ x ∈ xs, 0 ≤ x ∧ x < 256) : ∃ n, n < 2 ^ 256 ∧ xs.map (Value.int .u8) = bR n := by
 obtain ⟨n, hn, he⟩ := num_of xs hx
 rw [hl] at hn he
 refine ⟨n, Nat.lt_of_lt_of_le hn (by decide), ?_⟩
 apply List.ext_getElem?
 intro i
 by_cases hi : i < 32
 ·have h1 := he i hi
  rw [List.getD_eq_getElem?_getD, List.getElem?_eq_getElem (by omega)] at h1
  rw [List.getElem?_map, List.getElem?_eq_getElem (by omega)]
  simp [bR, hi]
  simpa using h1
 ·rw [List.getElem?_eq_none (by simp; omega), List.getElem?_eq_none (by rw [bR_length]; omega)]
theorem get_word {x : Nm} (ox : x.ok) (j : Nat) (hj : j < 4) : x.get j = ((x.nat / 18446744073709551616 ^ j % 18446744073709551616 : Nat) : Int) := by
 have hx := Nm.nat_cast ox
 have hv : x.val = x.a + 18446744073709551616 * (x.b + 18446744073709551616 * (x.c + 18446744073709551616 * x.d)) := rfl
 obtain ⟨⟨a0, a1⟩, ⟨b0, b1⟩, ⟨c0, c1⟩, ⟨d0, d1⟩⟩ := ox
 rw [hv] at hx
 have p1 : (18446744073709551616 : Nat) ^ 1 = 18446744073709551616 := by decide
 have p2 : (18446744073709551616 : Nat) ^ 2 = 340282366920938463463374607431768211456 := by decide
 have p3 : (18446744073709551616 : Nat) ^ 3 = 6277101735386680763835789423207666416102355444464034512896 := by decide
 match j, hj with
 | 0, _ => show x.a = _; rw [Nat.pow_zero]; omega
 | 1, _ => show x.b = _; rw [p1]; omega
 | 2, _ => show x.c = _; rw [p2]; omega
 | 3, _ => show x.d = _; rw [p3]; omega
theorem byte_word {n j : Nat} : n / 18446744073709551616 ^ (j / 8) % 18446744073709551616 / 2 ^ (j % 8 * 8) % 256 = n / 256 ^ j % 256 := by
 have e1 : (18446744073709551616 : Nat) ^ (j / 8) = 256 ^ (j / 8 * 8) := by rw [Nat.mul_comm, Nat.pow_mul]
 have e2 : (2 : Nat) ^ (j % 8 * 8) = 256 ^ (j % 8) := by rw [Nat.mul_comm, Nat.pow_mul]
 have e3 : (18446744073709551616 : Nat) = 256 ^ (j % 8) * (256 * 256 ^ (7 - j % 8)) := by
  rw [← Nat.pow_succ', ← Nat.pow_add, show j % 8 + (7 - j % 8 + 1) = 8 by omega]
 rw [e1, e2]
 conv => lhs; rw [e3]
 rw [Nat.mod_mul_right_div_self, Nat.mod_mul_right_mod, Nat.div_div_eq_div_mul, ← Nat.pow_add]
 congr 3
 omega
theorem bytes_nm (x : Nm) (ox : x.ok) : (bytesOf x).map (Value.int .u8) = bR x.nat := by
 unfold bytesOf bR
 rw [List.map_map]
 apply List.map_congr_left
 intro j hj
 have hj := List.mem_range.1 hj
 show Value.int .u8 (byteAt x j) = _
 unfold byteAt
 rw [get_word ox (j / 8) (by omega)]
 congr 1
 rw [← byte_word]
 generalize x.nat / 18446744073709551616 ^ (j / 8) % 18446744073709551616 = q
 rw [Int.natCast_emod, Int.natCast_ediv, Int.natCast_pow]
 rfl
theorem bytes_n (n : Nat) (hn : n < 2 ^ 256) (w : World) : Calls Tryz.prog 29 #[N (nm n)] w fun e w' => e = .returned (bV n) ∧ Below w.heap.size w w' := by
 have := bytes_fun (nm n) w
 rw [show Bs (bytesOf (nm n)) = bV n by show Value.agg _ = _; rw [bytes_nm _ (nm_ok _), nm_nat hn]] at this
 exact this
end Go.Proofs.YtfknkfninjjgbaaGreatDoor

/- Points packed: what package curve must keep of Pack and Unpack; thirty-two bytes and their number. -/
namespace Go.Proofs.YtfknkfninjjgbaaGreatDoor
open Go.RowKit
set_option linter.unusedSimpArgs false
def CPackC : Prop := ∀ P : Cv.Pt, Cv.On P → ∀ w, Calls Tryz.prog 50 #[pv P] w fun e w' => e = .returned (.tuple #[bV (Cv.pk P), .int .i64 0]) ∧ Below w.heap.size w w'
end Go.Proofs.YtfknkfninjjgbaaGreatDoor
