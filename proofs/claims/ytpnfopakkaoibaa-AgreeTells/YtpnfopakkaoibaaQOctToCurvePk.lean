/- Texts that were joined: Oct, Row, Bytes, ByN, Of, OfB, CFrac, CvFr, CrvB, CvPk, CurvePk. -/
import Derived.Test.YtpnfopakkaoibaaQNumToKn
import Derived.Test.YtpnfopakkaoibaaQEqToEqP
import Derived.Deep.MidRow
import Derived.BigQuiet
import Derived.Test.YtpnfopakkaoibaaRows
import Derived.WalkKit
import Derived.WalkSpells
import Derived.WalkLawsBesides
import Derived.Test.YtpnfopakkaoibaaQUpV3ToKnL
import Derived.Test.YtpnfopakkaoibaaQQMathToAdN
import Derived.Test.YtpnfopakkaoibaaQUp
import Derived.Test.YtpnfopakkaoibaaQPrimeLToAgM
import Derived.Test.YtpnfopakkaoibaaQCvOn
import Derived.Test.YtpnfopakkaoibaaQCAssToLLad
import Derived.Test.YtpnfopakkaoibaaQShlToBit
/- Eight bytes as a word, the least first: no program in sight. -/
namespace Go.Proofs.Ytpnfopakkaoibaa
open Go.RowKit

structure Oct where
  a : Int
  b : Int
  c : Int
  d : Int
  e : Int
  f : Int
  g : Int
  i : Int
def Byte (x : Int) : Prop := 0 ≤ x ∧ x < 256
structure Oct.ok (p : Oct) : Prop where
  a : Byte p.a
  b : Byte p.b
  c : Byte p.c
  d : Byte p.d
  e : Byte p.e
  f : Byte p.f
  g : Byte p.g
  i : Byte p.i
def Oct.val (p : Oct) : Int := p.a + 256 * p.b + 65536 * p.c + 16777216 * p.d + 4294967296 * p.e + 1099511627776 * p.f + 281474976710656 * p.g + 72057594037927936 * p.i
def Oct.of (n : Int) : Oct := ⟨n % 256, n / 256 % 256, n / 65536 % 256, n / 16777216 % 256, n / 4294967296 % 256, n / 1099511627776 % 256, n / 281474976710656 % 256, n / 72057594037927936 % 256⟩
theorem Oct.of_ok (n : Int) : (Oct.of n).ok := by
  refine ⟨⟨?_, ?_⟩, ⟨?_, ?_⟩, ⟨?_, ?_⟩, ⟨?_, ?_⟩, ⟨?_, ?_⟩, ⟨?_, ?_⟩, ⟨?_, ?_⟩, ⟨?_, ?_⟩⟩ <;> simp only [Oct.of] <;> omega
theorem Oct.of_val {n : Int} (h : Word n) : (Oct.of n).val = n := by
  obtain ⟨h0, h1⟩ := h
  simp only [Oct.of, Oct.val]
  omega
end Go.Proofs.Ytpnfopakkaoibaa

/- Rows of bytes: a value of thirty-two bytes, where it lies, how it is read and stored whole. -/
namespace Go.Proofs.Ytpnfopakkaoibaa
open Go.RowKit

/-- A value of bytes. -/
abbrev Bs (xs : List Int) : Value := .agg (xs.map (Value.int .u8)).toArray
/-- The bytes xs lie in block k. -/
def LiesB (w : World) (k : Nat) (xs : List Int) : Prop := w.rangeAt k 0 (xs.map (Value.int .u8))
theorem LiesB.cell {w : World} {k : Nat} {xs : List Int} (h : LiesB w k xs) {j : Nat} {v : Int} (hj : xs[j]? = some v) : w.cell? ⟨k, j, none⟩ = some (.int .u8 v) := by
  have := h j (.int .u8 v) (by simp [hj])
  simpa using this
theorem LiesB.up {W w1 : World} {k : Nat} {xs : List Int} (h : LiesB W k xs) (hb : Below W.heap.size W w1) : LiesB w1 k xs := by
  intro j v hv
  have := h j v hv
  rw [hb.cell (p := ⟨k, 0 + j, none⟩) (lt_of_cell this)]
  exact this
theorem LiesB.of_block {w : World} {k : Nat} {xs : List Int} {C : Array Value} {t : TypeId} (hb : w.heap[k]? = some (.cells C t)) (hC : C.toList = xs.map (Value.int .u8)) : LiesB w k xs := by
  intro j v hv
  obtain ⟨l⟩ := C
  simp only at hC
  subst hC
  simp only [World.cell?, hb]
  simpa using hv
theorem results_cellN {P : Program} {fn : Func} {tmps : Array Value} {s : Tmp} {t : TypeId} {b : Nat} {cs : List Value} {d : TypeDesc} {W : World} (hr : fn.results = #[.cell s t]) (ht : tmps[s]?.getD undef = .pointer (some ⟨b, 0, none⟩)) (hc : W.rangeAt b 0 cs)
    (hu : P.underlying t = some d) (hd : d.isRow = true) (hi : (P.info? t).map (·.size) = some cs.length) : (results fn tmps).run P W = .ok (.agg cs.toArray) W := by
  have h1 := run_loadVar_mid (P := P) W b 0 t cs d hc hu hd hi
  simp [results, hr, ht, asAddr, h1]
theorem oneCell_bytes (xs : List Int) : (xs.map (Value.int .u8)).toArray.all (·.oneCell') = true := all_oneCell_toArray (fun v hv => by
  obtain ⟨x, _, rfl⟩ := List.mem_map.1 hv
  rfl)
theorem info_b32 : (Try.prog.info? 22).map (·.size) = some 32 := by kernel_rfl
theorem info_len {xs : List Int} (h : xs.length = 32) : (Try.prog.info? 22).map (·.size) = some (xs.map (Value.int .u8)).length := by rw [List.length_map, h]; exact info_b32
theorem info_size {xs : List Int} (h : xs.length = 32) : (Try.prog.info? 22).map (·.size) = some (xs.map (Value.int .u8)).toArray.size := by rw [List.size_toArray]; exact info_len h
theorem below_setCellsN {B k : Nat} {a : World} : ∀ (vs : List Value) (o : Nat) (w : World), Below B a w → B ≤ k → Below B a (w.setCells k o vs)
  | [], _, _, h, _ => h
  | v :: vs, o, _, h, hk => below_setCellsN vs (o + 1) _ (h.setCell hk v) hk
end Go.Proofs.Ytpnfopakkaoibaa

/- The contract of limb.Bytes: the bytes of a number, the least first. -/
namespace Go.Proofs.Ytpnfopakkaoibaa
open Go.RowKit

/-- The first k of thirty-two bytes laid, the others 0. -/
def fillB (f : Nat → Int) (k : Nat) : Array Value := ((List.range 32).map fun j => Value.int .u8 (if j < k then f j else 0)).toArray
theorem fillB_size (f : Nat → Int) (k : Nat) : (fillB f k).size = 32 := by simp [fillB]
theorem fillB_get (f : Nat → Int) (k j : Nat) (h : j < 32) : (fillB f k)[j]? = some (.int .u8 (if j < k then f j else 0)) := by simp [fillB, h]
theorem fillB_set (f : Nat → Int) (k : Nat) (h : k < 32) : (fillB f k).setIfInBounds k (.int .u8 (f k)) = fillB f (k + 1) := by
  apply Array.ext_getElem?
  intro j
  rw [Array.getElem?_setIfInBounds, fillB_size]
  rcases Nat.lt_or_ge j 32 with hj | hj
  · rw [fillB_get f k j hj, fillB_get f (k + 1) j hj]
    by_cases e : k = j
    · subst e; simp [h]
    · rw [if_neg e]
      by_cases l : j < k
      · rw [if_pos l, if_pos (by omega)]
      · rw [if_neg l, if_neg (by omega)]
  · rw [Array.getElem?_eq_none (by rw [fillB_size]; exact hj), Array.getElem?_eq_none (by rw [fillB_size]; exact hj), if_neg (by omega)]
/-- Byte j of a number. -/
def byteAt (x : Nm) (j : Nat) : Int := x.get (j / 8) / 2 ^ (j % 8 * 8) % 256

/-- The bytes of a number. -/
def bytesOf (x : Nm) : List Int := (List.range 32).map (byteAt x)
theorem bytesOf_length (x : Nm) : (bytesOf x).length = 32 := by simp [bytesOf]
theorem fillB_all (x : Nm) : (fillB (byteAt x) 32).toList = (bytesOf x).map (Value.int .u8) := by
  unfold fillB bytesOf
  rw [List.map_map]
  apply List.map_congr_left
  intro j hj
  simp [List.mem_range.1 hj]

set_option maxHeartbeats 1000000 in
theorem bytes_fun (x : Nm) (w : World) :
    Calls Try.prog 16 #[N x] w fun e w' => e = .returned (Bs (bytesOf x)) ∧ Below w.heap.size w w' := by
  go_enter Try.func16, Try.ntmps16
  go_wp2
  go_loopw [5] (fun i w' => ∃ k : Nat, k ≤ 32 ∧ i = .int .i64 k ∧ w' = ((w.alloc (.cells #[.int .u64 x.a, .int .u64 x.b, .int .u64 x.c, .int .u64 x.d] 28)).alloc (.cells (fillB (byteAt x) 0) 22)).alloc (.cells (fillB (byteAt x) k) 22)) (fun i _ => 32 - (intOf i).toNat)
  case atStart => exact ⟨0, by omega, rfl, rfl⟩
  case round =>
    obtain ⟨k, hk, rfl, rfl⟩ := hrel
    by_cases hlt : k < 32
    · have g1 := x.get_N (k / 8) (by omega)
      have g2 : ([Value.int .u64 x.a, .int .u64 x.b, .int .u64 x.c, .int .u64 x.d] : List Value)[k / 8]? = some (.int .u64 (x.get (k / 8))) := by simpa using g1
      have g3 : (fillB (byteAt x) k)[k]? = some (.int .u8 0) := by rw [fillB_get _ _ _ hlt]; simp
      go_wp2
      go_roundw
      case rel => exact ⟨k + 1, by omega, by go_num, by rw [← fillB_set (byteAt x) k hlt]; rfl⟩
      case measure => simp [intOf]; omega
    · have hk32 : k = 32 := by omega
      subst hk32
      clear hlt hk
      have L3 : Hid (LiesB (((w.alloc (.cells #[.int .u64 x.a, .int .u64 x.b, .int .u64 x.c, .int .u64 x.d] 28)).alloc (.cells (fillB (byteAt x) 0) 22)).alloc (.cells (fillB (byteAt x) 32) 22)) (w.heap.size + 1 + 1) (bytesOf x)) :=
        LiesB.of_block (by have := (MapKept.heap_alloc ((w.alloc (.cells #[.int .u64 x.a, .int .u64 x.b, .int .u64 x.c, .int .u64 x.d] 28)).alloc (.cells (fillB (byteAt x) 0) 22)) (.cells (fillB (byteAt x) 32) 22)).1; simpa using this) (fillB_all x)
      have T2 : Hid (World.there (((w.alloc (.cells #[.int .u64 x.a, .int .u64 x.b, .int .u64 x.c, .int .u64 x.d] 28)).alloc (.cells (fillB (byteAt x) 0) 22)).alloc (.cells (fillB (byteAt x) 32) 22)) (w.heap.size + 1) 0 32) := by
        intro j hj
        have := fillB_get (byteAt x) 0 j hj
        simp [go_sem, this]
      have T3 : Hid (World.there (((w.alloc (.cells #[.int .u64 x.a, .int .u64 x.b, .int .u64 x.c, .int .u64 x.d] 28)).alloc (.cells (fillB (byteAt x) 0) 22)).alloc (.cells (fillB (byteAt x) 32) 22)) (w.heap.size + 1) 0 ((bytesOf x).map (Value.int .u8)).toArray.size) := by
        have e : ((bytesOf x).map (Value.int .u8)).toArray.size = 32 := by simp [bytesOf_length]
        rw [e]
        exact T2.out
      have T4 : Hid (World.there (((w.alloc (.cells #[.int .u64 x.a, .int .u64 x.b, .int .u64 x.c, .int .u64 x.d] 28)).alloc (.cells (fillB (byteAt x) 0) 22)).alloc (.cells (fillB (byteAt x) 32) 22)) (w.heap.size + 1) 0 ((bytesOf x).map (Value.int .u8)).length) := by
        have e : ((bytesOf x).map (Value.int .u8)).length = 32 := by simp [bytesOf_length]
        rw [e]
        exact T2.out
      go_wp2_with (first | refine wpList_load_mid rfl 22 (.tmp 3) rfl (w.heap.size + 1 + 1) 0 rfl ((bytesOf x).map (Value.int .u8)) _ L3.out Try.underlying22 rfl (info_len (bytesOf_length x)) ?_ | refine wpList_store_mid rfl 22 (.tmp 2) (.tmp 21) rfl (w.heap.size + 1) 0 ((bytesOf x).map (Value.int .u8)).toArray rfl rfl T3.out (info_size (bytesOf_length x)) (oneCell_bytes _) ?_)
      refine bodyPost_ret (v := Bs (bytesOf x)) ?_ rfl ⟨rfl, ?_⟩
      · exact results_cellN (b := w.heap.size + 1) rfl rfl (World.rangeAt_setCells_same _ _ _ _ T4.out) Try.underlying22 rfl (info_len (bytesOf_length x))
      · refine below_setCellsN _ _ _ ?_ (by omega)
        repeat (first | exact Below.refl _ _ | refine Below.alloc ?_ (by simp <;> omega) _)
end Go.Proofs.Ytpnfopakkaoibaa

/- Thirty-two bytes and their number; limb.Bytes by a number. -/
namespace Go.Proofs.Ytpnfopakkaoibaa
open Go.RowKit
set_option linter.unusedSimpArgs false
/-- A number of bytes. -/
theorem num_of : ∀ xs : List Int, (∀ x ∈ xs, 0 ≤ x ∧ x < 256) → ∃ n : Nat, n < 256 ^ xs.length ∧ ∀ i, i < xs.length → xs.getD i 0 = ((n / 256 ^ i % 256 : Nat) : Int)
  | [], _ => ⟨0, by decide, fun i hi => absurd hi (by simp)⟩
  | x :: xs, h => by
    obtain ⟨n, hn, he⟩ := num_of xs fun y hy => h y (List.mem_cons_of_mem _ hy)
    have hx := h x List.mem_cons_self
    refine ⟨x.toNat + 256 * n, ?_, fun i hi => ?_⟩
    · rw [List.length_cons, Nat.pow_succ]
      omega
    · cases i with
      | zero =>
        rw [Nat.pow_zero, Nat.div_one]
        show x = _
        omega
      | succ i =>
        rw [Nat.pow_succ, Nat.mul_comm (256 ^ i) 256, ← Nat.div_div_eq_div_mul, show (x.toNat + 256 * n) / 256 = n by omega]
        exact he i (by simpa using hi)
theorem bytes_num (xs : List Int) (hl : xs.length = 32) (hx : ∀ x ∈ xs, 0 ≤ x ∧ x < 256) : ∃ n, n < 2 ^ 256 ∧ xs.map (Value.int .u8) = bR n := by
  obtain ⟨n, hn, he⟩ := num_of xs hx
  rw [hl] at hn he
  refine ⟨n, Nat.lt_of_lt_of_le hn (by decide), ?_⟩
  apply List.ext_getElem?
  intro i
  by_cases hi : i < 32
  · have h1 := he i hi
    rw [List.getD_eq_getElem?_getD, List.getElem?_eq_getElem (by omega)] at h1
    rw [List.getElem?_map, List.getElem?_eq_getElem (by omega)]
    simp [bR, hi]
    simpa using h1
  · rw [List.getElem?_eq_none (by simp; omega), List.getElem?_eq_none (by rw [bR_length]; omega)]
theorem byte_eq {m n : Nat} : ∀ k, (∀ i, i < k → m / 256 ^ i % 256 = n / 256 ^ i % 256) → m % 256 ^ k = n % 256 ^ k
  | 0, _ => by rw [Nat.pow_zero, Nat.mod_one, Nat.mod_one]
  | k + 1, h => by rw [Nat.pow_succ, Nat.mod_mul, Nat.mod_mul, byte_eq k fun i hi => h i (by omega), h k (by omega)]
set_option maxRecDepth 100000 in
theorem eqB {m n : Nat} (hm : m < 2 ^ 256) (hn : n < 2 ^ 256) (w : World) : (binOp .eql 22 (bV m) (bV n)).run Try.prog w = .ok (.bool (decide (m = n))) w := by
  have hg : ∀ n j, j < 32 → (bR n).toArray[j]? = some (.int .u8 ((n / 256 ^ j % 256 : Nat) : Int)) := fun n j hj => by simp [bR, hj]
  rw [run_eql_intsN (P := Try.prog) (t := 22) (e := 5) (n := 32) (k := .u8) Try.underlying22 rfl Try.underlying5 (by kernel_rfl) (by kernel_rfl) (fun j => ((m / 256 ^ j % 256 : Nat) : Int)) (fun j => ((n / 256 ^ j % 256 : Nat) : Int)) _ _ (hg m) (hg n)]
  congr 2
  by_cases h : m = n
  · subst h
    simp
  · rw [decide_eq_false h]
    refine Bool.eq_false_iff.2 fun e => h ?_
    have e2 : ∀ j, j < 32 → m / 256 ^ j % 256 = n / 256 ^ j % 256 := fun j hj => by
      have h1 := List.all_eq_true.1 e j (List.mem_range.2 hj)
      have h2 : ((m / 256 ^ j % 256 : Nat) : Int) = ((n / 256 ^ j % 256 : Nat) : Int) := eq_of_beq h1
      exact Int.ofNat.inj h2
    have h3 := byte_eq 32 e2
    rw [show (256 : Nat) ^ 32 = 2 ^ 256 by decide, Nat.mod_eq_of_lt hm, Nat.mod_eq_of_lt hn] at h3
    exact h3
theorem get_word {x : Nm} (ox : x.ok) (j : Nat) (hj : j < 4) : x.get j = ((x.nat / 18446744073709551616 ^ j % 18446744073709551616 : Nat) : Int) := by
  have hx := Nm.nat_cast ox
  have hv : x.val = x.a + 18446744073709551616 * (x.b + 18446744073709551616 * (x.c + 18446744073709551616 * x.d)) := rfl
  obtain ⟨⟨a0, a1⟩, ⟨b0, b1⟩, ⟨c0, c1⟩, ⟨d0, d1⟩⟩ := ox
  rw [hv] at hx
  have p1 : (18446744073709551616 : Nat) ^ 1 = 18446744073709551616 := by decide
  have p2 : (18446744073709551616 : Nat) ^ 2 = 340282366920938463463374607431768211456 := by decide
  have p3 : (18446744073709551616 : Nat) ^ 3 = 6277101735386680763835789423207666416102355444464034512896 := by decide
  match j, hj with
  | 0, _ => show x.a = _; rw [Nat.pow_zero]; omega
  | 1, _ => show x.b = _; rw [p1]; omega
  | 2, _ => show x.c = _; rw [p2]; omega
  | 3, _ => show x.d = _; rw [p3]; omega
theorem byte_word {n j : Nat} : n / 18446744073709551616 ^ (j / 8) % 18446744073709551616 / 2 ^ (j % 8 * 8) % 256 = n / 256 ^ j % 256 := by
  have e1 : (18446744073709551616 : Nat) ^ (j / 8) = 256 ^ (j / 8 * 8) := by rw [Nat.mul_comm, Nat.pow_mul]
  have e2 : (2 : Nat) ^ (j % 8 * 8) = 256 ^ (j % 8) := by rw [Nat.mul_comm, Nat.pow_mul]
  have e3 : (18446744073709551616 : Nat) = 256 ^ (j % 8) * (256 * 256 ^ (7 - j % 8)) := by
    rw [← Nat.pow_succ', ← Nat.pow_add, show j % 8 + (7 - j % 8 + 1) = 8 by omega]
  rw [e1, e2]
  conv => lhs; rw [e3]
  rw [Nat.mod_mul_right_div_self, Nat.mod_mul_right_mod, Nat.div_div_eq_div_mul, ← Nat.pow_add]
  congr 3
  omega
theorem bytes_nm (x : Nm) (ox : x.ok) : (bytesOf x).map (Value.int .u8) = bR x.nat := by
  unfold bytesOf bR
  rw [List.map_map]
  apply List.map_congr_left
  intro j hj
  have hj := List.mem_range.1 hj
  show Value.int .u8 (byteAt x j) = _
  unfold byteAt
  rw [get_word ox (j / 8) (by omega)]
  congr 1
  rw [← byte_word]
  generalize x.nat / 18446744073709551616 ^ (j / 8) % 18446744073709551616 = q
  rw [Int.natCast_emod, Int.natCast_ediv, Int.natCast_pow]
  rfl
theorem bytes_n (n : Nat) (hn : n < 2 ^ 256) (w : World) : Calls Try.prog 16 #[N (nm n)] w fun e w' => e = .returned (bV n) ∧ Below w.heap.size w w' := by
  have := bytes_fun (nm n) w
  rw [show Bs (bytesOf (nm n)) = bV n by show Value.agg _ = _; rw [bytes_nm _ (nm_ok _), nm_nat hn]] at this
  exact this
end Go.Proofs.Ytpnfopakkaoibaa

/- The contract of limb.Of: a number of its bytes. -/
namespace Go.Proofs.Ytpnfopakkaoibaa
open Go.RowKit
attribute [local go_sem] setCell_drewN

/-- What word j is behind the first k bytes. -/
def acc (xs : List Int) : Nat → Nat → Int
  | 0, _ => 0
  | k + 1, j => acc xs k j + if k / 8 = j then xs.getD k 0 * 2 ^ (k % 8 * 8) else 0
def accW (xs : List Int) (k : Nat) : Array Value := #[.int .u64 (acc xs k 0), .int .u64 (acc xs k 1), .int .u64 (acc xs k 2), .int .u64 (acc xs k 3)]
theorem accW_size (xs : List Int) (k : Nat) : (accW xs k).size = 4 := rfl
theorem accW_get (xs : List Int) (k j : Nat) (h : j < 4) : (accW xs k)[j]? = some (.int .u64 (acc xs k j)) := by
  match j, h with
  | 0, _ => rfl
  | 1, _ => rfl
  | 2, _ => rfl
  | 3, _ => rfl
theorem accW_set (xs : List Int) (k : Nat) (h : k < 32) : (accW xs k).setIfInBounds (k / 8) (.int .u64 (acc xs k (k / 8) + xs.getD k 0 * 2 ^ (k % 8 * 8))) = accW xs (k + 1) := by
  apply Array.ext_getElem?
  intro j
  rw [Array.getElem?_setIfInBounds, accW_size]
  rcases Nat.lt_or_ge j 4 with hj | hj
  · rw [accW_get xs k j hj, accW_get xs (k + 1) j hj]
    by_cases e : k / 8 = j
    · subst e
      simp [hj, acc]
    · simp [e, acc]
  · rw [Array.getElem?_eq_none (by rw [accW_size]; exact hj), Array.getElem?_eq_none (by rw [accW_size]; exact hj), if_neg (by omega)]

theorem acc_inv (xs : List Int) (hx : ∀ x ∈ xs, 0 ≤ x ∧ x < 256) : ∀ k j, 0 ≤ acc xs k j ∧ (k / 8 < j → acc xs k j = 0) ∧ (k / 8 = j → acc xs k j < 2 ^ (k % 8 * 8)) ∧ (j < k / 8 → acc xs k j < 18446744073709551616)
  | 0, j => by simp [acc]
  | k + 1, j => by
    obtain ⟨h0, h1, h2, h3⟩ := acc_inv xs hx k j
    have hb : 0 ≤ xs.getD k 0 ∧ xs.getD k 0 < 256 := by
      rcases Nat.lt_or_ge k xs.length with h | h
      · have e : xs.getD k 0 = xs[k] := by simp [h]
        rw [e]
        exact hx _ (List.getElem_mem h)
      · have e : xs.getD k 0 = 0 := by simp [h]
        rw [e]
        exact ⟨by decide, by decide⟩
    have hp : (0 : Int) < 2 ^ (k % 8 * 8) := Int.pow_pos (by decide)
    have hm := Int.mul_nonneg hb.1 (Int.le_of_lt hp)
    have hm2 : xs.getD k 0 * 2 ^ (k % 8 * 8) ≤ 255 * 2 ^ (k % 8 * 8) := Int.mul_le_mul_of_nonneg_right (by omega) (Int.le_of_lt hp)
    simp only [acc]
    by_cases e : k / 8 = j
    · rw [if_pos e]
      have h2' := h2 e
      refine ⟨by omega, fun h => by omega, fun h => ?_, fun h => ?_⟩
      · have er : (k + 1) % 8 = k % 8 + 1 := by omega
        rw [er, Nat.add_mul, Int.pow_add]
        have : (2 : Int) ^ (1 * 8) = 256 := rfl
        omega
      · have er : k % 8 = 7 := by omega
        rw [er] at h2' hm2 hp hm ⊢
        have : (2 : Int) ^ (7 * 8) = 72057594037927936 := rfl
        omega
    · rw [if_neg e]
      refine ⟨by omega, fun h => by rw [h1 (by omega)]; rfl, fun h => ?_, fun h => ?_⟩
      · have : (k + 1) % 8 = 0 := by omega
        rw [this, h1 (by omega)]
        decide
      · have := h3 (by omega)
        omega
theorem or_step {a v : Int} {s : Nat} (ha : 0 ≤ a) (ha2 : a < 2 ^ s) (hv : 0 ≤ v ∧ v < 256) (hs : s ≤ 56) : bits .or .u64 a (IntKind.u64.wrap (IntKind.u64.wrap v * 2 ^ s)) = a + v * 2 ^ s := by
  obtain ⟨a, rfl⟩ := Int.eq_ofNat_of_zero_le ha
  obtain ⟨v, rfl⟩ := Int.eq_ofNat_of_zero_le hv.1
  have hp : (2 : Int) ^ s = ((2 ^ s : Nat) : Int) := by simp
  have hle : 2 ^ s ≤ 2 ^ 56 := Nat.pow_le_pow_right (by decide) hs
  have hle2 : v * 2 ^ s ≤ 255 * 2 ^ 56 := Nat.mul_le_mul (by omega) hle
  have w1 : IntKind.u64.wrap (v : Int) = (v : Int) := by rw [IntKind.wrap_u64]; omega
  rw [w1, hp, ← Int.natCast_mul]
  have w2 : IntKind.u64.wrap ((v * 2 ^ s : Nat) : Int) = ((v * 2 ^ s : Nat) : Int) := by rw [IntKind.wrap_u64]; omega
  rw [w2]
  have ha3 : a < 2 ^ s := by rw [hp] at ha2; omega
  rw [bits_or_u64_nat a (v * 2 ^ s) (by omega) (by omega)]
  have e : a ||| v * 2 ^ s = a + v * 2 ^ s := by
    have := Nat.shiftLeft_add_eq_or_of_lt ha3 v
    rw [Nat.shiftLeft_eq] at this
    rw [Nat.or_comm, ← this, Nat.add_comm]
  rw [e]
  simp

set_option maxHeartbeats 1000000 in
theorem of_fun (xs : List Int) (hl : xs.length = 32) (hx : ∀ x ∈ xs, 0 ≤ x ∧ x < 256) (w : World) :
    Calls Try.prog 21 #[Bs xs] w fun e w' => e = .returned (N ⟨acc xs 32 0, acc xs 32 1, acc xs 32 2, acc xs 32 3⟩) ∧ Below w.heap.size w w' := by
  have HX : Hid _ := hx
  clear hx
  go_enter Try.func21, Try.ntmps21
  go_wp2
  go_loopw [5] (fun i w' => ∃ k n : Nat, k ≤ 32 ∧ i = .int .i64 k ∧ w' = (((w.alloc (.cells (xs.map (Value.int .u8)).toArray 22)).alloc (.cells #[.int .u64 0, .int .u64 0, .int .u64 0, .int .u64 0] 28)).alloc (.cells (accW xs k) 28)).drewN n) (fun i _ => 32 - (intOf i).toNat)
  case atStart => exact ⟨0, 0, by omega, rfl, rfl⟩
  case round =>
    obtain ⟨k, n, hk, rfl, rfl⟩ := hrel
    by_cases hlt : k < 32
    · have g1 := accW_get xs k (k / 8) (by omega)
      obtain ⟨v, hv⟩ : ∃ v, xs[k]? = some v := ⟨xs[k], by simp [hl, hlt]⟩
      have g2 : (xs.map (Value.int .u8)).toArray[k]? = some (.int .u8 v) := by simp [hv]
      have g3 : (xs.map (Value.int .u8))[k]? = some (.int .u8 v) := by simp [hv]
      have hvb : Hid (0 ≤ v ∧ v < 256) := HX.out v (List.mem_of_getElem? hv)
      have hset := accW_set xs k hlt
      have hgd : xs.getD k 0 = v := by simp [hv]
      have hst := or_step (v := v) (acc_inv xs HX.out k (k / 8)).1 ((acc_inv xs HX.out k (k / 8)).2.2.1 rfl) hvb.out (by omega)
      rw [hgd, ← hst] at hset
      have HS : Hid _ := hset
      have HV : Hid (∀ h : k < xs.length, xs[k] = v) := fun h => by rw [List.getElem?_eq_getElem h] at hv; simpa using hv
      clear hset hst hgd hv
      go_wp2
      go_region
      go_wp2
      go_roundw
      case rel => exact ⟨k + 1, n + 1, by omega, by go_num, by rw [← HS.out, ← HV.out (by omega)]⟩
      case measure => simp [intOf]; omega
    · have hk32 : k = 32 := by omega
      subst hk32
      clear hlt hk
      rw [show accW xs 32 = #[.int .u64 (acc xs 32 0), .int .u64 (acc xs 32 1), .int .u64 (acc xs 32 2), .int .u64 (acc xs 32 3)] from rfl]
      go_wp2
      refine bodyPost_ret (v := N ⟨acc xs 32 0, acc xs 32 1, acc xs 32 2, acc xs 32 3⟩) (by simp [results, Try.results21, go_sem]) rfl ⟨rfl, ?_⟩
      repeat (first | exact Below.refl _ _ | refine below_drewN ?_ | refine Below.drew ?_ | refine Below.setCell ?_ (by simp <;> omega) _ | refine Below.alloc ?_ (by simp <;> omega) _)
end Go.Proofs.Ytpnfopakkaoibaa

/- limb.Of and limb.Bytes of one number, told by that number. -/
namespace Go.Proofs.Ytpnfopakkaoibaa
open Go.RowKit
set_option linter.unusedSimpArgs false
def octAt (xs : List Int) (j : Nat) : Oct := ⟨xs.getD (8 * j) 0, xs.getD (8 * j + 1) 0, xs.getD (8 * j + 2) 0, xs.getD (8 * j + 3) 0, xs.getD (8 * j + 4) 0, xs.getD (8 * j + 5) 0, xs.getD (8 * j + 6) 0, xs.getD (8 * j + 7) 0⟩
theorem acc_oct (xs : List Int) : acc xs 32 0 = (octAt xs 0).val ∧ acc xs 32 1 = (octAt xs 1).val ∧ acc xs 32 2 = (octAt xs 2).val ∧ acc xs 32 3 = (octAt xs 3).val := by
  refine ⟨?_, ?_, ?_, ?_⟩ <;> (simp [acc, octAt, Oct.val]; omega)
theorem octAt_bytes (x : Nm) : octAt (bytesOf x) 0 = Oct.of x.a ∧ octAt (bytesOf x) 1 = Oct.of x.b ∧ octAt (bytesOf x) 2 = Oct.of x.c ∧ octAt (bytesOf x) 3 = Oct.of x.d := by
  refine ⟨?_, ?_, ?_, ?_⟩ <;> simp [octAt, bytesOf, byteAt, Nm.get, Oct.of]
theorem ofB_bytes {x : Nm} (hx : x.ok) : (⟨acc (bytesOf x) 32 0, acc (bytesOf x) 32 1, acc (bytesOf x) 32 2, acc (bytesOf x) 32 3⟩ : Nm) = x := by
  obtain ⟨h0, h1, h2, h3⟩ := acc_oct (bytesOf x)
  obtain ⟨g0, g1, g2, g3⟩ := octAt_bytes x
  rw [h0, h1, h2, h3, g0, g1, g2, g3, Oct.of_val hx.a, Oct.of_val hx.b, Oct.of_val hx.c, Oct.of_val hx.d]
theorem bytes_ok {x : Nm} : ∀ b ∈ bytesOf x, 0 ≤ b ∧ b < 256 := by
  intro b hb
  obtain ⟨j, _, rfl⟩ := List.mem_map.1 hb
  unfold byteAt
  omega
theorem of_n (n : Nat) (hn : n < 2 ^ 256) (w : World) : Calls Try.prog 21 #[bV n] w fun e w' => e = .returned (N (nm n)) ∧ Below w.heap.size w w' := by
  have := of_fun (bytesOf (nm n)) (bytesOf_length _) bytes_ok w
  rw [ofB_bytes (nm_ok n), show Bs (bytesOf (nm n)) = bV n by show Value.agg _ = _; rw [bytes_nm _ (nm_ok _), nm_nat hn]] at this
  exact this
end Go.Proofs.Ytpnfopakkaoibaa

/- Points as the program's fractions: x/z, y/z and x*y/z besides; their sums without a quotient. Mathematics alone. -/
namespace Go.Proofs.Ytpnfopakkaoibaa.Cv
open Go.Proofs.Ytpnfopakkaoibaa
/-- x/z and y/z are the point P, and v/z is X times Y. -/
structure Fq (x y v z : Int) (P : Pt) : Prop where
  nz : ¬ Z z
  x : K x (P.1 * z)
  y : K y (P.2 * z)
  v : K v (P.1 * P.2 * z)
theorem Fq.sum {x1 y1 v1 z1 x2 y2 v2 z2 : Int} {P Q : Pt} (hP : On P) (hQ : On Q) (h1 : Fq x1 y1 v1 z1 P) (h2 : Fq x2 y2 v2 z2 Q) :
    Fq ((x1 * y2 + y1 * x2) * (z1 * z2 - d * (v1 * v2))) ((y1 * y2 + x1 * x2) * (z1 * z2 + d * (v1 * v2))) ((x1 * y2 + y1 * x2) * (y1 * y2 + x1 * x2)) ((z1 * z2 + d * (v1 * v2)) * (z1 * z2 - d * (v1 * v2))) (add P Q) := by
  have s := add_sum hP hQ
  have n := den hP hQ
  have nT : ¬ Z (z1 * z2) := no_mul h1.nz h2.nz
  have ke : K (d * (v1 * v2)) (z1 * z2 * (d * P.1 * Q.1 * P.2 * Q.2)) := by
    have := (K.refl (d : Int)).mul (h1.v.mul h2.v)
    exact (this : Z _).of_eq (by grind)
  have kf : K (z1 * z2 - d * (v1 * v2)) (z1 * z2 * (1 - d * P.1 * Q.1 * P.2 * Q.2)) := ((K.refl (z1 * z2)).sub ke : Z _).of_eq (by grind)
  have kg : K (z1 * z2 + d * (v1 * v2)) (z1 * z2 * (1 + d * P.1 * Q.1 * P.2 * Q.2)) := ((K.refl (z1 * z2)).add ke : Z _).of_eq (by grind)
  have nf := kf.no (no_mul nT n.2)
  have ng := kg.no (no_mul nT n.1)
  have ks : K (x1 * y2 + y1 * x2) (z1 * z2 * (P.1 * Q.2 + P.2 * Q.1)) := ((h1.x.mul h2.y).add (h1.y.mul h2.x) : Z _).of_eq (by grind)
  have kt : K (y1 * y2 + x1 * x2) (z1 * z2 * (P.2 * Q.2 + P.1 * Q.1)) := ((h1.y.mul h2.y).add (h1.x.mul h2.x) : Z _).of_eq (by grind)
  have kX : K (x1 * y2 + y1 * x2) ((add P Q).1 * (z1 * z2 + d * (v1 * v2))) := by
    refine ks.trans (K.symm ?_)
    refine ((K.refl _).mul kg).trans ?_
    exact (Z.mul (z1 * z2) s.x : Z _).of_eq (by grind)
  have kY : K (y1 * y2 + x1 * x2) ((add P Q).2 * (z1 * z2 - d * (v1 * v2))) := by
    refine kt.trans (K.symm ?_)
    refine ((K.refl _).mul kf).trans ?_
    exact (Z.mul (z1 * z2) s.y : Z _).of_eq (by grind)
  generalize z1 * z2 - d * (v1 * v2) = f at *
  generalize z1 * z2 + d * (v1 * v2) = g at *
  generalize x1 * y2 + y1 * x2 = a at *
  generalize y1 * y2 + x1 * x2 = b at *
  refine ⟨no_mul ng nf, ?_, ?_, ?_⟩
  · exact (kX.mul (K.refl f) : Z _).of_eq (by grind)
  · exact (kY.mul (K.refl g) : Z _).of_eq (by grind)
  · exact (kX.mul kY : Z _).of_eq (by grind)
theorem Fq.congr {x y v z x' y' v' z' : Int} {P : Pt} (h : Fq x y v z P) (hx : K x' x) (hy : K y' y) (hv : K v' v) (hz : K z' z) : Fq x' y' v' z' P :=
  ⟨hz.no h.nz, hx.trans (h.x.trans ((K.refl _).mul hz.symm)), hy.trans (h.y.trans ((K.refl _).mul hz.symm)), hv.trans (h.v.trans ((K.refl _).mul hz.symm))⟩
end Go.Proofs.Ytpnfopakkaoibaa.Cv

/- Package curve, as it landed: fractions: asFraction, sum, pick, divided. -/
namespace Go.Proofs.Ytpnfopakkaoibaa
open Go.RowKit
attribute [local go_sem] World.cell?_alloc_some cell_alloc2 cell_alloc3 cell_alloc4 frozen?_alloc_cells frozen_out
set_option linter.unusedSimpArgs false
end Go.Proofs.Ytpnfopakkaoibaa

/- Points packed: what package curve must keep of Pack and Unpack; thirty-two bytes and their number. -/
namespace Go.Proofs.Ytpnfopakkaoibaa
open Go.RowKit
set_option linter.unusedSimpArgs false
end Go.Proofs.Ytpnfopakkaoibaa

/- Package curve, as it landed: evenX, packed, Pack. -/
namespace Go.Proofs.Ytpnfopakkaoibaa
open Go.RowKit
attribute [local go_sem] World.cell?_alloc_some cell_alloc2 cell_alloc3 cell_alloc4 frozen?_alloc_cells frozen_out
set_option linter.unusedSimpArgs false
/-- The bytes of a number, as limb.Bytes and limb.Of have them. -/
theorem results_row2 {P : Program} {fn : Func} {tmps : Array Value} {s s2 : Tmp} {t : TypeId} {b : Nat} {cs : List Value} {d : TypeDesc} {W : World} {v : Value} (hr : fn.results = #[.cell s t, .tmp s2]) (ht : tmps[s]?.getD undef = .pointer (some ⟨b, 0, none⟩)) (ht2 : tmps[s2]?.getD undef = v) (hc : W.rangeAt b 0 cs)
    (hu : P.underlying t = some d) (hd : d.isRow = true) (hi : (P.info? t).map (·.size) = some cs.length) : (results fn tmps).run P W = .ok (.tuple #[.agg cs.toArray, v]) W := by
  have h1 := run_loadVar_mid (P := P) W b 0 t cs d hc hu hd hi
  simp [results, hr, ht, ht2, asAddr, h1]
theorem wp_buildZ {t : TypeId} {cs : Array Value} {ops : Array Oper} {rest : List Oper} {o : Oper} {a : Act} {Q : Exit → Act → World → Prop} {w : World} (hgd : o.guard = none) (ho : o.op = .build t #[]) (hb : Try.prog.built t [] = some cs)
    (h : wpList Try.prog ops Q rest (a.put o.dst (.agg cs)) w) : wpList Try.prog ops Q (o :: rest) a w := by
  refine wpList_plain hgd fun K hK => ?_
  have e : (Instr.build t ((#[] : Array (Nat × Operand)).map fun x => (x.fst, a.eval x.snd))).run Try.prog w = .ok (.agg cs) w := run_build w t _ _ (by simpa using hb)
  unfold Oper.wp
  simp only [execOp, ho, Sem.run_bind, e, Result.andThen_ok, Sem.run_pure]
  exact hK _ _ h
theorem b32_zero : Try.prog.built 22 [] = some (bR 0).toArray := by kernel_rfl
theorem bR_get (n i : Nat) (h : i < 32) : (bR n)[i]? = some (.int .u8 ((n / 256 ^ i % 256 : Nat) : Int)) := by simp [bR, h]
end Go.Proofs.Ytpnfopakkaoibaa

/- Package curve, as it landed: Unpack. -/
namespace Go.Proofs.Ytpnfopakkaoibaa
open Go.RowKit
attribute [local go_sem] World.cell?_alloc_some cell_alloc2 cell_alloc3 cell_alloc4 frozen?_alloc_cells frozen_out
set_option linter.unusedSimpArgs false
/-- The point that the bytes could tell. -/
def may (n : Nat) : Cv.Pt := (if n / 2 ^ 255 % 2 = 0 then F.root (Cv.xx (n % 2 ^ 255 % F.p)) else F.sub 0 (F.root (Cv.xx (n % 2 ^ 255 % F.p))), n % 2 ^ 255 % F.p)
end Go.Proofs.Ytpnfopakkaoibaa
