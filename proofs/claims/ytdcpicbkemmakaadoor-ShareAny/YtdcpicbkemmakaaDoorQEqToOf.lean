/- Texts that were joined: Eq, Row, Of. -/
import Derived.Test.YtdcpicbkemmakaaDoorQNumToDTimes
import Derived.Test.YtdcpicbkemmakaaDoorRows
import Derived.ChangeKeysEq
import Derived.Deep.MidRow
import Derived.BigQuiet
import Derived.Test.YtdcpicbkemmakaaDoorQUpToHMix
import Derived.WalkKit
import Derived.WalkSpells
import Derived.WalkLawsBesides
/- '==' and '!=' of two arrays of integers: as the rows of numbers are. Over any program. -/
namespace Go.Proofs.YtdcpicbkemmakaaDoor
open Go.RowKit
section
variable {P : Program}

theorem run_equalIn_intN (d : Nat) {e : TypeId} {k : IntKind} (hu : P.underlying e = some (.int k)) (a b : Int) (w : World) : (Op.equalIn (d + 1) e (.int k a) (.int k b)).run P w = .ok (a == b) w := by
  simp [Op.equalIn, run_underlying hu]
theorem run_eqItems_intsN (d : Nat) {e : TypeId} {k : IntKind} (hu : P.underlying e = some (.int k)) (hp : P.plainKey e = true) (f g : Nat → Int) (X Y : Array Value) (w : World) :
    ∀ is : List Nat, (∀ i ∈ is, X[i]? = some (.int k (f i))) → (∀ i ∈ is, Y[i]? = some (.int k (g i))) → (Op.eqItems (d + 1) e 1 X Y is).run P w = .ok (is.all fun i => f i == g i) w
  | [], _, _ => by simp [Op.eqItems]
  | i :: is, hX, hY => by
    have p1 := run_part_plain w hp (hX i (by simp))
    have p2 := run_part_plain w hp (hY i (by simp))
    have ih := run_eqItems_intsN d hu hp f g X Y w is (fun j hj => hX j (by simp [hj])) (fun j hj => hY j (by simp [hj]))
    simp only [Op.eqItems, Sem.run_bind, Nat.mul_one, p1, p2, Result.andThen_ok, run_equalIn_intN d hu]
    cases h : (f i == g i)
    · simp [h]
    · simp [h, ih]
theorem run_eql_intsN {t e : TypeId} {n : Nat} {i : TypeInfo} {k : IntKind} (ht : P.underlying t = some (.array n e)) (hi : P.info? e = some i) (hu : P.underlying e = some (.int k)) (hp : P.plainKey e = true) (hc : P.cellsOf e = 1)
    (f g : Nat → Int) (X Y : Array Value) (hX : ∀ j, j < n → X[j]? = some (.int k (f j))) (hY : ∀ j, j < n → Y[j]? = some (.int k (g j))) (w : World) :
    (binOp .eql t (.agg X) (.agg Y)).run P w = .ok (.bool ((List.range n).all fun j => f j == g j)) w := by
  simp only [binOp]
  have h := run_equalIn_array w 9999 X Y ht hi
  rw [hc, run_eqItems_intsN 9998 hu hp f g X Y w _ (fun j hj => hX j (List.mem_range.1 hj)) (fun j hj => hY j (List.mem_range.1 hj))] at h
  simp [Op.equal, Op.maxDepth, h]
theorem run_neq_intsN {t e : TypeId} {n : Nat} {i : TypeInfo} {k : IntKind} (ht : P.underlying t = some (.array n e)) (hi : P.info? e = some i) (hu : P.underlying e = some (.int k)) (hp : P.plainKey e = true) (hc : P.cellsOf e = 1)
    (f g : Nat → Int) (X Y : Array Value) (hX : ∀ j, j < n → X[j]? = some (.int k (f j))) (hY : ∀ j, j < n → Y[j]? = some (.int k (g j))) (w : World) :
    (binOp .neq t (.agg X) (.agg Y)).run P w = .ok (.bool !((List.range n).all fun j => f j == g j)) w := by
  simp only [binOp]
  have h := run_equalIn_array w 9999 X Y ht hi
  rw [hc, run_eqItems_intsN 9998 hu hp f g X Y w _ (fun j hj => hX j (List.mem_range.1 hj)) (fun j hj => hY j (List.mem_range.1 hj))] at h
  simp [Op.equal, Op.maxDepth, h]
end

/-- Are the two one? -/
def Nm.beq (x y : Nm) : Bool := (x.a == y.a) && ((x.b == y.b) && ((x.c == y.c) && (x.d == y.d)))
theorem Nm.beq_self (x : Nm) : Nm.beq x x = true := by simp [Nm.beq]
theorem Nm.beq_iff {x y : Nm} : Nm.beq x y = true ↔ x = y := by
  obtain ⟨xa, xb, xc, xd⟩ := x; obtain ⟨ya, yb, yc, yd⟩ := y
  simp [Nm.beq]
theorem Nm.beq_ne {x y : Nm} (h : x ≠ y) : Nm.beq x y = false := by
  cases e : Nm.beq x y
  · rfl
  · exact absurd (Nm.beq_iff.1 e) h
def Nm.get (x : Nm) : Nat → Int
  | 0 => x.a
  | 1 => x.b
  | 2 => x.c
  | _ => x.d
theorem Nm.get_N (x : Nm) (j : Nat) (h : j < 4) : (#[Value.int .u64 x.a, .int .u64 x.b, .int .u64 x.c, .int .u64 x.d] : Array Value)[j]? = some (.int .u64 (x.get j)) := by
  match j, h with
  | 0, _ => rfl
  | 1, _ => rfl
  | 2, _ => rfl
  | 3, _ => rfl
set_option maxRecDepth 100000 in
theorem eqN (x y : Nm) (w : World) : (binOp .eql 24 (N x) (N y)).run Tryd.prog w = .ok (.bool (Nm.beq x y)) w := by
  rw [run_eql_intsN (P := Tryd.prog) (t := 24) (e := 22) (n := 4) (k := .u64) Tryd.underlying24 rfl Tryd.underlying22 (by kernel_rfl) (by kernel_rfl) x.get y.get _ _ x.get_N y.get_N]
  simp [List.range_succ, Nm.get, Nm.beq]
set_option maxRecDepth 100000 in
theorem neN (x y : Nm) (w : World) : (binOp .neq 24 (N x) (N y)).run Tryd.prog w = .ok (.bool !(Nm.beq x y)) w := by
  rw [run_neq_intsN (P := Tryd.prog) (t := 24) (e := 22) (n := 4) (k := .u64) Tryd.underlying24 rfl Tryd.underlying22 (by kernel_rfl) (by kernel_rfl) x.get y.get _ _ x.get_N y.get_N]
  simp [List.range_succ, Nm.get, Nm.beq]
end Go.Proofs.YtdcpicbkemmakaaDoor

/- Rows of bytes: a value of thirty-two bytes, where it lies, how it is read and stored whole. -/
namespace Go.Proofs.YtdcpicbkemmakaaDoor
open Go.RowKit

/-- A value of bytes. -/
abbrev Bs (xs : List Int) : Value := .agg (xs.map (Value.int .u8)).toArray
/-- The bytes xs lie in block k. -/
def LiesB (w : World) (k : Nat) (xs : List Int) : Prop := w.rangeAt k 0 (xs.map (Value.int .u8))
theorem LiesB.cell {w : World} {k : Nat} {xs : List Int} (h : LiesB w k xs) {j : Nat} {v : Int} (hj : xs[j]? = some v) : w.cell? ⟨k, j, none⟩ = some (.int .u8 v) := by
  have := h j (.int .u8 v) (by simp [hj])
  simpa using this
theorem LiesB.up {W w1 : World} {k : Nat} {xs : List Int} (h : LiesB W k xs) (hb : Below W.heap.size W w1) : LiesB w1 k xs := by
  intro j v hv
  have := h j v hv
  rw [hb.cell (p := ⟨k, 0 + j, none⟩) (lt_of_cell this)]
  exact this
end Go.Proofs.YtdcpicbkemmakaaDoor

/- The contract of limb.Of: a number of its bytes. -/
namespace Go.Proofs.YtdcpicbkemmakaaDoor
open Go.RowKit
attribute [local go_sem] setCell_drewN

/-- What word j is behind the first k bytes. -/
def acc (xs : List Int) : Nat → Nat → Int
  | 0, _ => 0
  | k + 1, j => acc xs k j + if k / 8 = j then xs.getD k 0 * 2 ^ (k % 8 * 8) else 0
def accW (xs : List Int) (k : Nat) : Array Value := #[.int .u64 (acc xs k 0), .int .u64 (acc xs k 1), .int .u64 (acc xs k 2), .int .u64 (acc xs k 3)]
theorem accW_size (xs : List Int) (k : Nat) : (accW xs k).size = 4 := rfl
theorem accW_get (xs : List Int) (k j : Nat) (h : j < 4) : (accW xs k)[j]? = some (.int .u64 (acc xs k j)) := by
  match j, h with
  | 0, _ => rfl
  | 1, _ => rfl
  | 2, _ => rfl
  | 3, _ => rfl
theorem accW_set (xs : List Int) (k : Nat) (h : k < 32) : (accW xs k).setIfInBounds (k / 8) (.int .u64 (acc xs k (k / 8) + xs.getD k 0 * 2 ^ (k % 8 * 8))) = accW xs (k + 1) := by
  apply Array.ext_getElem?
  intro j
  rw [Array.getElem?_setIfInBounds, accW_size]
  rcases Nat.lt_or_ge j 4 with hj | hj
  · rw [accW_get xs k j hj, accW_get xs (k + 1) j hj]
    by_cases e : k / 8 = j
    · subst e
      simp [hj, acc]
    · simp [e, acc]
  · rw [Array.getElem?_eq_none (by rw [accW_size]; exact hj), Array.getElem?_eq_none (by rw [accW_size]; exact hj), if_neg (by omega)]

theorem acc_inv (xs : List Int) (hx : ∀ x ∈ xs, 0 ≤ x ∧ x < 256) : ∀ k j, 0 ≤ acc xs k j ∧ (k / 8 < j → acc xs k j = 0) ∧ (k / 8 = j → acc xs k j < 2 ^ (k % 8 * 8)) ∧ (j < k / 8 → acc xs k j < 18446744073709551616)
  | 0, j => by simp [acc]
  | k + 1, j => by
    obtain ⟨h0, h1, h2, h3⟩ := acc_inv xs hx k j
    have hb : 0 ≤ xs.getD k 0 ∧ xs.getD k 0 < 256 := by
      rcases Nat.lt_or_ge k xs.length with h | h
      · have e : xs.getD k 0 = xs[k] := by simp [h]
        rw [e]
        exact hx _ (List.getElem_mem h)
      · have e : xs.getD k 0 = 0 := by simp [h]
        rw [e]
        exact ⟨by decide, by decide⟩
    have hp : (0 : Int) < 2 ^ (k % 8 * 8) := Int.pow_pos (by decide)
    have hm := Int.mul_nonneg hb.1 (Int.le_of_lt hp)
    have hm2 : xs.getD k 0 * 2 ^ (k % 8 * 8) ≤ 255 * 2 ^ (k % 8 * 8) := Int.mul_le_mul_of_nonneg_right (by omega) (Int.le_of_lt hp)
    simp only [acc]
    by_cases e : k / 8 = j
    · rw [if_pos e]
      have h2' := h2 e
      refine ⟨by omega, fun h => by omega, fun h => ?_, fun h => ?_⟩
      · have er : (k + 1) % 8 = k % 8 + 1 := by omega
        rw [er, Nat.add_mul, Int.pow_add]
        have : (2 : Int) ^ (1 * 8) = 256 := rfl
        omega
      · have er : k % 8 = 7 := by omega
        rw [er] at h2' hm2 hp hm ⊢
        have : (2 : Int) ^ (7 * 8) = 72057594037927936 := rfl
        omega
    · rw [if_neg e]
      refine ⟨by omega, fun h => by rw [h1 (by omega)]; rfl, fun h => ?_, fun h => ?_⟩
      · have : (k + 1) % 8 = 0 := by omega
        rw [this, h1 (by omega)]
        decide
      · have := h3 (by omega)
        omega
theorem or_step {a v : Int} {s : Nat} (ha : 0 ≤ a) (ha2 : a < 2 ^ s) (hv : 0 ≤ v ∧ v < 256) (hs : s ≤ 56) : bits .or .u64 a (IntKind.u64.wrap (IntKind.u64.wrap v * 2 ^ s)) = a + v * 2 ^ s := by
  obtain ⟨a, rfl⟩ := Int.eq_ofNat_of_zero_le ha
  obtain ⟨v, rfl⟩ := Int.eq_ofNat_of_zero_le hv.1
  have hp : (2 : Int) ^ s = ((2 ^ s : Nat) : Int) := by simp
  have hle : 2 ^ s ≤ 2 ^ 56 := Nat.pow_le_pow_right (by decide) hs
  have hle2 : v * 2 ^ s ≤ 255 * 2 ^ 56 := Nat.mul_le_mul (by omega) hle
  have w1 : IntKind.u64.wrap (v : Int) = (v : Int) := by rw [IntKind.wrap_u64]; omega
  rw [w1, hp, ← Int.natCast_mul]
  have w2 : IntKind.u64.wrap ((v * 2 ^ s : Nat) : Int) = ((v * 2 ^ s : Nat) : Int) := by rw [IntKind.wrap_u64]; omega
  rw [w2]
  have ha3 : a < 2 ^ s := by rw [hp] at ha2; omega
  rw [bits_or_u64_nat a (v * 2 ^ s) (by omega) (by omega)]
  have e : a ||| v * 2 ^ s = a + v * 2 ^ s := by
    have := Nat.shiftLeft_add_eq_or_of_lt ha3 v
    rw [Nat.shiftLeft_eq] at this
    rw [Nat.or_comm, ← this, Nat.add_comm]
  rw [e]
  simp

set_option maxHeartbeats 1000000 in
theorem of_fun (xs : List Int) (hl : xs.length = 32) (hx : ∀ x ∈ xs, 0 ≤ x ∧ x < 256) (w : World) :
    Calls Tryd.prog 71 #[Bs xs] w fun e w' => e = .returned (N ⟨acc xs 32 0, acc xs 32 1, acc xs 32 2, acc xs 32 3⟩) ∧ Below w.heap.size w w' := by
  have HX : Hid _ := hx
  clear hx
  go_enter Tryd.func71, Tryd.ntmps71
  go_wp2
  go_loopw [5] (fun i w' => ∃ k n : Nat, k ≤ 32 ∧ i = .int .i64 k ∧ w' = (((w.alloc (.cells (xs.map (Value.int .u8)).toArray 109)).alloc (.cells #[.int .u64 0, .int .u64 0, .int .u64 0, .int .u64 0] 24)).alloc (.cells (accW xs k) 24)).drewN n) (fun i _ => 32 - (intOf i).toNat)
  case atStart => exact ⟨0, 0, by omega, rfl, rfl⟩
  case round =>
    obtain ⟨k, n, hk, rfl, rfl⟩ := hrel
    by_cases hlt : k < 32
    · have g1 := accW_get xs k (k / 8) (by omega)
      obtain ⟨v, hv⟩ : ∃ v, xs[k]? = some v := ⟨xs[k], by simp [hl, hlt]⟩
      have g2 : (xs.map (Value.int .u8)).toArray[k]? = some (.int .u8 v) := by simp [hv]
      have g3 : (xs.map (Value.int .u8))[k]? = some (.int .u8 v) := by simp [hv]
      have hvb : Hid (0 ≤ v ∧ v < 256) := HX.out v (List.mem_of_getElem? hv)
      have hset := accW_set xs k hlt
      have hgd : xs.getD k 0 = v := by simp [hv]
      have hst := or_step (v := v) (acc_inv xs HX.out k (k / 8)).1 ((acc_inv xs HX.out k (k / 8)).2.2.1 rfl) hvb.out (by omega)
      rw [hgd, ← hst] at hset
      have HS : Hid _ := hset
      have HV : Hid (∀ h : k < xs.length, xs[k] = v) := fun h => by rw [List.getElem?_eq_getElem h] at hv; simpa using hv
      clear hset hst hgd hv
      go_wp2
      go_region
      go_wp2
      go_roundw
      case rel => exact ⟨k + 1, n + 1, by omega, by go_num, by rw [← HS.out, ← HV.out (by omega)]⟩
      case measure => simp [intOf]; omega
    · have hk32 : k = 32 := by omega
      subst hk32
      clear hlt hk
      rw [show accW xs 32 = #[.int .u64 (acc xs 32 0), .int .u64 (acc xs 32 1), .int .u64 (acc xs 32 2), .int .u64 (acc xs 32 3)] from rfl]
      go_wp2
      refine bodyPost_ret (v := N ⟨acc xs 32 0, acc xs 32 1, acc xs 32 2, acc xs 32 3⟩) (by simp [results, Tryd.results71, go_sem]) rfl ⟨rfl, ?_⟩
      repeat (first | exact Below.refl _ _ | refine below_drewN ?_ | refine Below.drew ?_ | refine Below.setCell ?_ (by simp <;> omega) _ | refine Below.alloc ?_ (by simp <;> omega) _)
end Go.Proofs.YtdcpicbkemmakaaDoor
