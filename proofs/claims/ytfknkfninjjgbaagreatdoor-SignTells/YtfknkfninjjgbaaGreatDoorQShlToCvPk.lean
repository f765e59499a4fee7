/- Texts that were joined: Shl, ShMath, Sh, Bit, Of, CvPk. -/
import Derived.Test.YtfknkfninjjgbaaGreatDoorRows
import Derived.Test.YtfknkfninjjgbaaGreatDoorQNumToDigO
import Derived.WalkKit
import Derived.WalkSpells
import Derived.WalkLawsBesides
import Derived.LoopN
import Derived.Laws.Bits64b
import Derived.Deep.RegionHeld
import Derived.Test.YtfknkfninjjgbaaGreatDoorQAdNToFiF
import Derived.Test.YtfknkfninjjgbaaGreatDoorQOctToCrvB
import Derived.Test.YtfknkfninjjgbaaGreatDoorQUpToUpS
import Derived.Test.YtfknkfninjjgbaaGreatDoorQCvFr
/- The walks of limb.shiftLeft and limb.shiftRight, word by word. -/
namespace Go.Proofs.YtfknkfninjjgbaaGreatDoor
open Go.RowKit
end Go.Proofs.YtfknkfninjjgbaaGreatDoor

/- Shifts of numbers of four words, as plain mathematics. -/
namespace Go.Proofs.YtfknkfninjjgbaaGreatDoor
open Go.RowKit
end Go.Proofs.YtfknkfninjjgbaaGreatDoor

/- The contracts of limb.shiftLeft, limb.shiftRight and limb.Shift, by what they are worth. -/
namespace Go.Proofs.YtfknkfninjjgbaaGreatDoor
open Go.RowKit
attribute [local go_sem] World.cell?_alloc_some
theorem zw : Word 0 := ⟨by decide, by decide⟩
end Go.Proofs.YtfknkfninjjgbaaGreatDoor

/- The contract of limb.Bit. -/
namespace Go.Proofs.YtfknkfninjjgbaaGreatDoor
open Go.RowKit
/-- The bit s of a word, with whatever stands above the word. -/
theorem bit_word {v l a g q : Int} {s k n : Nat} (hs : s < 64) (hn : n = k + s) (hq : q = 2 ^ k) (hv : v = l + q * (a + 18446744073709551616 * g)) (l0 : 0 ≤ l) (l1 : l < q) : v / 2 ^ n % 2 = a / 2 ^ s % 2 := by
 have q0 : 0 < q := by omega
 have e1 : v / q = a + 18446744073709551616 * g := by
  rw [hv, Int.add_mul_ediv_left _ _ (by omega), Int.ediv_eq_zero_of_lt l0 l1, Int.zero_add]
 have e2 : v / 2 ^ n = v / q / 2 ^ s := by
  rw [hn, Int.pow_add, ← hq, Int.ediv_ediv_of_nonneg (by omega)]
 have p : (18446744073709551616 : Int) = 2 ^ s * (2 ^ (63 - s) * 2) := by
  rw [← Int.mul_assoc, ← Int.pow_add, show s + (63 - s) = 63 by omega]; rfl
 have ps : (0 : Int) < 2 ^ s := Int.pow_pos (by omega)
 rw [e2, e1, p, Int.mul_assoc, Int.add_mul_ediv_left _ _ (by omega), Int.mul_comm (2 ^ (63 - s)) 2, Int.mul_assoc]
 omega
set_option maxHeartbeats 1000000 in
theorem bit_walk0 (x : Nm) (hx : x.ok) (n s : Nat) (h1 : n / 64 = 0) (h2 : n % 64 = s) (hs : s < 64) (w : World) :
  Calls Tryz.prog 107 #[N x, .int .i64 n] w fun e w' => e = .returned (.int .u64 (x.val / 2 ^ n % 2)) ∧ Below w.heap.size w w' := by
 have h3 : (n : Int) / 64 = 0 := by omega
 have h4 : (n : Int) % 64 = s := by omega
 have h5 : ¬ ((n : Int) < 0) := by omega
 have h6 : ¬ ((n : Int) ≥ 256) := by omega
 obtain ⟨⟨a0, a1⟩, ⟨b0, b1⟩, ⟨c0, c1⟩, ⟨d0, d1⟩⟩ := hx
 have e := bit_word (v := x.val) (l := 0) (a := x.a) (g := x.b + 18446744073709551616 * x.c + 340282366920938463463374607431768211456 * x.d) (q := 1) (s := s) (k := 0) (n := n) hs (by omega) rfl (by simp only [Nm.val] <;> omega) (by omega) (by omega)
 have e' : bits .and .u64 (x.a / 2 ^ s) 1 = x.val / 2 ^ n % 2 := by
  have ps : (0 : Int) < 2 ^ s := Int.pow_pos (by omega)
  have v0 : 0 ≤ x.a / 2 ^ s := Int.ediv_nonneg a0 (by omega)
  have v1 : x.a / 2 ^ s ≤ x.a := Int.ediv_le_self _ a0
  rw [e]
  exact and_one_u64 _ v0 (by omega)
 have E : Hid _ := e'
 clear e e'
 go_enter Tryz.func107, Tryz.ntmps107
 go_wp2_with fail
 go_ret
 exact ⟨by rw [E.out]; rfl, (Below.refl _ _).alloc (by simp) _⟩
set_option maxHeartbeats 1000000 in
theorem bit_walk1 (x : Nm) (hx : x.ok) (n s : Nat) (h1 : n / 64 = 1) (h2 : n % 64 = s) (hs : s < 64) (w : World) :
  Calls Tryz.prog 107 #[N x, .int .i64 n] w fun e w' => e = .returned (.int .u64 (x.val / 2 ^ n % 2)) ∧ Below w.heap.size w w' := by
 have h3 : (n : Int) / 64 = 1 := by omega
 have h4 : (n : Int) % 64 = s := by omega
 have h5 : ¬ ((n : Int) < 0) := by omega
 have h6 : ¬ ((n : Int) ≥ 256) := by omega
 obtain ⟨⟨a0, a1⟩, ⟨b0, b1⟩, ⟨c0, c1⟩, ⟨d0, d1⟩⟩ := hx
 have e := bit_word (v := x.val) (l := x.a) (a := x.b) (g := x.c + 18446744073709551616 * x.d) (q := 18446744073709551616) (s := s) (k := 64) (n := n) hs (by omega) rfl (by simp only [Nm.val] <;> omega) (by omega) (by omega)
 have e' : bits .and .u64 (x.b / 2 ^ s) 1 = x.val / 2 ^ n % 2 := by
  have ps : (0 : Int) < 2 ^ s := Int.pow_pos (by omega)
  have v0 : 0 ≤ x.b / 2 ^ s := Int.ediv_nonneg b0 (by omega)
  have v1 : x.b / 2 ^ s ≤ x.b := Int.ediv_le_self _ b0
  rw [e]
  exact and_one_u64 _ v0 (by omega)
 have E : Hid _ := e'
 clear e e'
 go_enter Tryz.func107, Tryz.ntmps107
 go_wp2_with fail
 go_ret
 exact ⟨by rw [E.out]; rfl, (Below.refl _ _).alloc (by simp) _⟩
set_option maxHeartbeats 1000000 in
theorem bit_walk2 (x : Nm) (hx : x.ok) (n s : Nat) (h1 : n / 64 = 2) (h2 : n % 64 = s) (hs : s < 64) (w : World) :
  Calls Tryz.prog 107 #[N x, .int .i64 n] w fun e w' => e = .returned (.int .u64 (x.val / 2 ^ n % 2)) ∧ Below w.heap.size w w' := by
 have h3 : (n : Int) / 64 = 2 := by omega
 have h4 : (n : Int) % 64 = s := by omega
 have h5 : ¬ ((n : Int) < 0) := by omega
 have h6 : ¬ ((n : Int) ≥ 256) := by omega
 obtain ⟨⟨a0, a1⟩, ⟨b0, b1⟩, ⟨c0, c1⟩, ⟨d0, d1⟩⟩ := hx
 have e := bit_word (v := x.val) (l := x.a + 18446744073709551616 * x.b) (a := x.c) (g := x.d) (q := 340282366920938463463374607431768211456) (s := s) (k := 128) (n := n) hs (by omega) rfl (by simp only [Nm.val] <;> omega) (by omega) (by omega)
 have e' : bits .and .u64 (x.c / 2 ^ s) 1 = x.val / 2 ^ n % 2 := by
  have ps : (0 : Int) < 2 ^ s := Int.pow_pos (by omega)
  have v0 : 0 ≤ x.c / 2 ^ s := Int.ediv_nonneg c0 (by omega)
  have v1 : x.c / 2 ^ s ≤ x.c := Int.ediv_le_self _ c0
  rw [e]
  exact and_one_u64 _ v0 (by omega)
 have E : Hid _ := e'
 clear e e'
 go_enter Tryz.func107, Tryz.ntmps107
 go_wp2_with fail
 go_ret
 exact ⟨by rw [E.out]; rfl, (Below.refl _ _).alloc (by simp) _⟩
set_option maxHeartbeats 1000000 in
theorem bit_walk3 (x : Nm) (hx : x.ok) (n s : Nat) (h1 : n / 64 = 3) (h2 : n % 64 = s) (hs : s < 64) (w : World) :
  Calls Tryz.prog 107 #[N x, .int .i64 n] w fun e w' => e = .returned (.int .u64 (x.val / 2 ^ n % 2)) ∧ Below w.heap.size w w' := by
 have h3 : (n : Int) / 64 = 3 := by omega
 have h4 : (n : Int) % 64 = s := by omega
 have h5 : ¬ ((n : Int) < 0) := by omega
 have h6 : ¬ ((n : Int) ≥ 256) := by omega
 obtain ⟨⟨a0, a1⟩, ⟨b0, b1⟩, ⟨c0, c1⟩, ⟨d0, d1⟩⟩ := hx
 have e := bit_word (v := x.val) (l := x.a + 18446744073709551616 * x.b + 340282366920938463463374607431768211456 * x.c) (a := x.d) (g := 0) (q := 6277101735386680763835789423207666416102355444464034512896) (s := s) (k := 192) (n := n) hs (by omega) rfl (by simp only [Nm.val] <;> omega) (by omega) (by omega)
 have e' : bits .and .u64 (x.d / 2 ^ s) 1 = x.val / 2 ^ n % 2 := by
  have ps : (0 : Int) < 2 ^ s := Int.pow_pos (by omega)
  have v0 : 0 ≤ x.d / 2 ^ s := Int.ediv_nonneg d0 (by omega)
  have v1 : x.d / 2 ^ s ≤ x.d := Int.ediv_le_self _ d0
  rw [e]
  exact and_one_u64 _ v0 (by omega)
 have E : Hid _ := e'
 clear e e'
 go_enter Tryz.func107, Tryz.ntmps107
 go_wp2_with fail
 go_ret
 exact ⟨by rw [E.out]; rfl, (Below.refl _ _).alloc (by simp) _⟩
theorem bit_fun (x : Nm) (hx : x.ok) (n : Nat) (hn : n < 256) (w : World) :
  Calls Tryz.prog 107 #[N x, .int .i64 n] w fun e w' => e = .returned (.int .u64 (x.val / 2 ^ n % 2)) ∧ Below w.heap.size w w' := by
 have hq : n / 64 = 0 ∨ n / 64 = 1 ∨ n / 64 = 2 ∨ n / 64 = 3 := by omega
 rcases hq with h | h | h | h
 ·exact bit_walk0 x hx n _ h rfl (by omega) w
 ·exact bit_walk1 x hx n _ h rfl (by omega) w
 ·exact bit_walk2 x hx n _ h rfl (by omega) w
 ·exact bit_walk3 x hx n _ h rfl (by omega) w
end Go.Proofs.YtfknkfninjjgbaaGreatDoor

/- The contract of limb.Of: a number of its bytes. -/
namespace Go.Proofs.YtfknkfninjjgbaaGreatDoor
open Go.RowKit
attribute [local go_sem] setCell_drewN
/-- What word j is behind the first k bytes. -/
def acc (xs : List Int) : Nat → Nat → Int
 | 0, _ => 0
 | k + 1, j => acc xs k j + if k / 8 = j then xs.getD k 0 * 2 ^ (k % 8 * 8) else 0
def accW (xs : List Int) (k : Nat) : Array Value := #[.int .u64 (acc xs k 0), .int .u64 (acc xs k 1), .int .u64 (acc xs k 2), .int .u64 (acc xs k 3)]
theorem accW_size (xs : List Int) (k : Nat) : (accW xs k).size = 4 := rfl
theorem accW_get (xs : List Int) (k j : Nat) (h : j < 4) : (accW xs k)[j]? = some (.int .u64 (acc xs k j)) := by
 match j, h with
 | 0, _ => rfl
 | 1, _ => rfl
 | 2, _ => rfl
 | 3, _ => rfl
theorem accW_set (xs : List Int) (k : Nat) (h : k < 32) : (accW xs k).setIfInBounds (k / 8) (.int .u64 (acc xs k (k / 8) + xs.getD k 0 * 2 ^ (k % 8 * 8))) = accW xs (k + 1) := by
 apply Array.ext_getElem?
 intro j
 rw [Array.getElem?_setIfInBounds, accW_size]
 rcases Nat.lt_or_ge j 4 with hj | hj
 ·rw [accW_get xs k j hj, accW_get xs (k + 1) j hj]
  by_cases e : k / 8 = j
  ·subst e
   simp [hj, acc]
  ·simp [e, acc]
 ·rw [Array.getElem?_eq_none (by rw [accW_size]; exact hj), Array.getElem?_eq_none (by rw [accW_size]; exact hj), if_neg (by omega)]
theorem acc_inv (xs : List Int) (hx : ∀ x ∈ xs, 0 ≤ x ∧ x < 256) : ∀ k j, 0 ≤ acc xs k j ∧ (k / 8 < j → acc xs k j = 0) ∧ (k / 8 = j → acc xs k j < 2 ^ (k % 8 * 8)) ∧ (j < k / 8 → acc xs k j < 18446744073709551616)
 | 0, j => by simp [acc]
 | k + 1, j => by
  obtain ⟨h0, h1, h2, h3⟩ := acc_inv xs hx k j
  have hb : 0 ≤ xs.getD k 0 ∧ xs.getD k 0 < 256 := by
   rcases Nat.lt_or_ge k xs.length with h | h
   ·have e : xs.getD k 0 = xs[k] := by simp [h]
    rw [e]
    exact hx _ (List.getElem_mem h)
   ·have e : xs.getD k 0 = 0 := by simp [h]
    rw [e]
    exact ⟨by decide, by decide⟩
  have hp : (0 : Int) < 2 ^ (k % 8 * 8) := Int.pow_pos (by decide)
  have hm := Int.mul_nonneg hb.1 (Int.le_of_lt hp)
  have hm2 : xs.getD k 0 * 2 ^ (k % 8 * 8) ≤ 255 * 2 ^ (k % 8 * 8) := Int.mul_le_mul_of_nonneg_right (by omega) (Int.le_of_lt hp)
  simp only [acc]
  by_cases e : k / 8 = j
  ·rw [if_pos e]
   have h2' := h2 e
   refine ⟨by omega, fun h => by omega, fun h => ?_, fun h => ?_⟩
   ·have er : (k + 1) % 8 = k % 8 + 1 := by omega
    rw [er, Nat.add_mul, Int.pow_add]
    have : (2 : Int) ^ (1 * 8) = 256 := rfl
    omega
   ·have er : k % 8 = 7 := by omega
    rw [er] at h2' hm2 hp hm ⊢
    have : (2 : Int) ^ (7 * 8) = 72057594037927936 := rfl
    omega
  ·rw [if_neg e]
   refine ⟨by omega, fun h => by rw [h1 (by omega)]; rfl, fun h => ?_, fun h => ?_⟩
   ·have : (k + 1) % 8 = 0 := by omega
    rw [this, h1 (by omega)]
    decide
   ·have := h3 (by omega)
    omega
theorem or_step {a v : Int} {s : Nat} (ha : 0 ≤ a) (ha2 : a < 2 ^ s) (hv : 0 ≤ v ∧ v < 256) (hs : s ≤ 56) : bits .or .u64 a (IntKind.u64.wrap (IntKind.u64.wrap v * 2 ^ s)) = a + v * 2 ^ s := by
 obtain ⟨a, rfl⟩ := Int.eq_ofNat_of_zero_le ha
 obtain ⟨v, rfl⟩ := Int.eq_ofNat_of_zero_le hv.1
 have hp : (2 : Int) ^ s = ((2 ^ s : Nat) : Int) := by simp
 have hle : 2 ^ s ≤ 2 ^ 56 := Nat.pow_le_pow_right (by decide) hs
 have hle2 : v * 2 ^ s ≤ 255 * 2 ^ 56 := Nat.mul_le_mul (by omega) hle
 have w1 : IntKind.u64.wrap (v : Int) = (v : Int) := by rw [IntKind.wrap_u64]; omega
 rw [w1, hp, ← Int.natCast_mul]
 have w2 : IntKind.u64.wrap ((v * 2 ^ s : Nat) : Int) = ((v * 2 ^ s : Nat) : Int) := by rw [IntKind.wrap_u64]; omega
 rw [w2]
 have ha3 : a < 2 ^ s := by rw [hp] at ha2; omega
 rw [bits_or_u64_nat a (v * 2 ^ s) (by omega) (by omega)]
 have e : a ||| v * 2 ^ s = a + v * 2 ^ s := by
  have := Nat.shiftLeft_add_eq_or_of_lt ha3 v
  rw [Nat.shiftLeft_eq] at this
  rw [Nat.or_comm, ← this, Nat.add_comm]
 rw [e]
 simp
set_option maxHeartbeats 1000000 in
theorem of_fun (xs : List Int) (hl : xs.length = 32) (hx : ∀ x ∈ xs, 0 ≤ x ∧ x < 256) (w : World) :
  Calls Tryz.prog 76 #[Bs xs] w fun e w' => e = .returned (N ⟨acc xs 32 0, acc xs 32 1, acc xs 32 2, acc xs 32 3⟩) ∧ Below w.heap.size w w' := by
 have HX : Hid _ := hx
 clear hx
 go_enter Tryz.func76, Tryz.ntmps76
 go_wp2
 go_loopw [5] (fun i w' => ∃ k n : Nat, k ≤ 32 ∧ i = .int .i64 k ∧ w' = (((w.alloc (.cells (xs.map (Value.int .u8)).toArray 22)).alloc (.cells #[.int .u64 0, .int .u64 0, .int .u64 0, .int .u64 0] 26)).alloc (.cells (accW xs k) 26)).drewN n) (fun i _ => 32 - (intOf i).toNat)
 case atStart => exact ⟨0, 0, by omega, rfl, rfl⟩
 case round =>
  obtain ⟨k, n, hk, rfl, rfl⟩ := hrel
  by_cases hlt : k < 32
  ·have g1 := accW_get xs k (k / 8) (by omega)
   obtain ⟨v, hv⟩ : ∃ v, xs[k]? = some v := ⟨xs[k], by simp [hl, hlt]⟩
   have g2 : (xs.map (Value.int .u8)).toArray[k]? = some (.int .u8 v) := by simp [hv]
   have g3 : (xs.map (Value.int .u8))[k]? = some (.int .u8 v) := by simp [hv]
   have hvb : Hid (0 ≤ v ∧ v < 256) := HX.out v (List.mem_of_getElem? hv)
   have hset := accW_set xs k hlt
   have hgd : xs.getD k 0 = v := by simp [hv]
   have hst := or_step (v := v) (acc_inv xs HX.out k (k / 8)).1 ((acc_inv xs HX.out k (k / 8)).2.2.1 rfl) hvb.out (by omega)
   rw [hgd, ← hst] at hset
   have HS : Hid _ := hset
   have HV : Hid (∀ h : k < xs.length, xs[k] = v) := fun h => by rw [List.getElem?_eq_getElem h] at hv; simpa using hv
   clear hset hst hgd hv
   go_wp2
   go_region
   go_wp2
   go_roundw
   case rel => exact ⟨k + 1, n + 1, by omega, by go_num, by rw [← HS.out, ← HV.out (by omega)]⟩
   case measure => simp [intOf]; omega
  ·have hk32 : k = 32 := by omega
   subst hk32
   clear hlt hk
   rw [show accW xs 32 = #[.int .u64 (acc xs 32 0), .int .u64 (acc xs 32 1), .int .u64 (acc xs 32 2), .int .u64 (acc xs 32 3)] from rfl]
   go_wp2
   refine bodyPost_ret (v := N ⟨acc xs 32 0, acc xs 32 1, acc xs 32 2, acc xs 32 3⟩) (by simp [results, Tryz.results76, go_sem]) rfl ⟨rfl, ?_⟩
   repeat (first | exact Below.refl _ _ | refine below_drewN ?_ | refine Below.drew ?_ | refine Below.setCell ?_ (by simp <;> omega) _ | refine Below.alloc ?_ (by simp <;> omega) _)
end Go.Proofs.YtfknkfninjjgbaaGreatDoor

/- Package curve, as it landed: evenX, packed, Pack. -/
namespace Go.Proofs.YtfknkfninjjgbaaGreatDoor
open Go.RowKit
attribute [local go_sem] World.cell?_alloc_some cell_alloc2 cell_alloc3 cell_alloc4 frozen?_alloc_cells frozen_out
set_option linter.unusedSimpArgs false
/-- The bytes of a number, as limb.Bytes and limb.Of have them. -/
theorem results_row2 {P : Program} {fn : Func} {tmps : Array Value} {s s2 : Tmp} {t : TypeId} {b : Nat} {cs : List Value} {d : TypeDesc} {W : World} {v : Value} (hr : fn.results = #[.cell s t, .tmp s2]) (ht : tmps[s]?.getD undef = .pointer (some ⟨b, 0, none⟩)) (ht2 : tmps[s2]?.getD undef = v) (hc : W.rangeAt b 0 cs)
  (hu : P.underlying t = some d) (hd : d.isRow = true) (hi : (P.info? t).map (·.size) = some cs.length) : (results fn tmps).run P W = .ok (.tuple #[.agg cs.toArray, v]) W := by
 have h1 := run_loadVar_mid (P := P) W b 0 t cs d hc hu hd hi
 simp [results, hr, ht, ht2, asAddr, h1]
set_option maxRecDepth 20000 in
set_option maxHeartbeats 1000000 in
theorem packed_walk (px py : Nm) (n m x y : Nat) (hx : Hid (x = n / 256 ^ 31 % 256)) (hy : Hid (y = m / 256 ^ 31 % 256)) (hxy : bits .or .u8 (x : Int) (bits .and .u64 px.a 1 % 256 * 128 % 256) = (y : Int)) (hr : Hid ((bR n).set 31 (.int .u8 ((m / 256 ^ 31 % 256 : Nat) : Int)) = bR m))
  (B1 : ∀ w, Calls Tryz.prog 29 #[N py] w fun e w' => e = .returned (.agg (bR (n)).toArray) ∧ Below w.heap.size w w')
  (w : World) :
  Calls Tryz.prog 91 #[Wv px py] w fun e w' => e = .returned (bV m) ∧ Below w.heap.size w w' := by
 go_enter Tryz.func91, Tryz.ntmps91
 have s0 : Hid (Kn ((kalP w (px) (py)).alloc (.cells #[Value.int IntKind.u8 0, .int .u8 0, .int .u8 0, .int .u8 0, .int .u8 0, .int .u8 0, .int .u8 0, .int .u8 0, .int .u8 0, .int .u8 0, .int .u8 0, .int .u8 0, .int .u8 0, .int .u8 0, .int .u8 0, .int .u8 0, .int .u8 0, .int .u8 0, .int .u8 0, .int .u8 0, .int .u8 0, .int .u8 0, .int .u8 0, .int .u8 0, .int .u8 0, .int .u8 0, .int .u8 0, .int .u8 0, .int .u8 0, .int .u8 0, .int .u8 0, .int .u8 0] 22)) [(w.heap.size + 1, bZ), (w.heap.size, (c8 (px) (py)))]) := (((Kn.nil w).al (c8 (px) (py)) 59 rfl).al bZ 22 (by simp))
 have b0 : Hid (Below w.heap.size w ((kalP w (px) (py)).alloc (.cells #[Value.int IntKind.u8 0, .int .u8 0, .int .u8 0, .int .u8 0, .int .u8 0, .int .u8 0, .int .u8 0, .int .u8 0, .int .u8 0, .int .u8 0, .int .u8 0, .int .u8 0, .int .u8 0, .int .u8 0, .int .u8 0, .int .u8 0, .int .u8 0, .int .u8 0, .int .u8 0, .int .u8 0, .int .u8 0, .int .u8 0, .int .u8 0, .int .u8 0, .int .u8 0, .int .u8 0, .int .u8 0, .int .u8 0, .int .u8 0, .int .u8 0, .int .u8 0, .int .u8 0] 22))) := (((Below.refl _ _).alloc (Nat.le_refl _) _).alloc (by simp <;> omega) _)
 have up_0 : ((kalP w (px) (py)).alloc (.cells #[Value.int IntKind.u8 0, .int .u8 0, .int .u8 0, .int .u8 0, .int .u8 0, .int .u8 0, .int .u8 0, .int .u8 0, .int .u8 0, .int .u8 0, .int .u8 0, .int .u8 0, .int .u8 0, .int .u8 0, .int .u8 0, .int .u8 0, .int .u8 0, .int .u8 0, .int .u8 0, .int .u8 0, .int .u8 0, .int .u8 0, .int .u8 0, .int .u8 0, .int .u8 0, .int .u8 0, .int .u8 0, .int .u8 0, .int .u8 0, .int .u8 0, .int .u8 0, .int .u8 0] 22)).cell? ⟨w.heap.size, 0, none⟩ = some (.int .u64 (px).a) := Kn.get s0.out 1 0 rfl rfl
 have up_1 : ((kalP w (px) (py)).alloc (.cells #[Value.int IntKind.u8 0, .int .u8 0, .int .u8 0, .int .u8 0, .int .u8 0, .int .u8 0, .int .u8 0, .int .u8 0, .int .u8 0, .int .u8 0, .int .u8 0, .int .u8 0, .int .u8 0, .int .u8 0, .int .u8 0, .int .u8 0, .int .u8 0, .int .u8 0, .int .u8 0, .int .u8 0, .int .u8 0, .int .u8 0, .int .u8 0, .int .u8 0, .int .u8 0, .int .u8 0, .int .u8 0, .int .u8 0, .int .u8 0, .int .u8 0, .int .u8 0, .int .u8 0] 22)).cell? ⟨w.heap.size, 1, none⟩ = some (.int .u64 (px).b) := Kn.get s0.out 1 1 rfl rfl
 have up_2 : ((kalP w (px) (py)).alloc (.cells #[Value.int IntKind.u8 0, .int .u8 0, .int .u8 0, .int .u8 0, .int .u8 0, .int .u8 0, .int .u8 0, .int .u8 0, .int .u8 0, .int .u8 0, .int .u8 0, .int .u8 0, .int .u8 0, .int .u8 0, .int .u8 0, .int .u8 0, .int .u8 0, .int .u8 0, .int .u8 0, .int .u8 0, .int .u8 0, .int .u8 0, .int .u8 0, .int .u8 0, .int .u8 0, .int .u8 0, .int .u8 0, .int .u8 0, .int .u8 0, .int .u8 0, .int .u8 0, .int .u8 0] 22)).cell? ⟨w.heap.size, 2, none⟩ = some (.int .u64 (px).c) := Kn.get s0.out 1 2 rfl rfl
 have up_3 : ((kalP w (px) (py)).alloc (.cells #[Value.int IntKind.u8 0, .int .u8 0, .int .u8 0, .int .u8 0, .int .u8 0, .int .u8 0, .int .u8 0, .int .u8 0, .int .u8 0, .int .u8 0, .int .u8 0, .int .u8 0, .int .u8 0, .int .u8 0, .int .u8 0, .int .u8 0, .int .u8 0, .int .u8 0, .int .u8 0, .int .u8 0, .int .u8 0, .int .u8 0, .int .u8 0, .int .u8 0, .int .u8 0, .int .u8 0, .int .u8 0, .int .u8 0, .int .u8 0, .int .u8 0, .int .u8 0, .int .u8 0] 22)).cell? ⟨w.heap.size, 3, none⟩ = some (.int .u64 (px).d) := Kn.get s0.out 1 3 rfl rfl
 have up_4 : ((kalP w (px) (py)).alloc (.cells #[Value.int IntKind.u8 0, .int .u8 0, .int .u8 0, .int .u8 0, .int .u8 0, .int .u8 0, .int .u8 0, .int .u8 0, .int .u8 0, .int .u8 0, .int .u8 0, .int .u8 0, .int .u8 0, .int .u8 0, .int .u8 0, .int .u8 0, .int .u8 0, .int .u8 0, .int .u8 0, .int .u8 0, .int .u8 0, .int .u8 0, .int .u8 0, .int .u8 0, .int .u8 0, .int .u8 0, .int .u8 0, .int .u8 0, .int .u8 0, .int .u8 0, .int .u8 0, .int .u8 0] 22)).cell? ⟨w.heap.size, 4, none⟩ = some (.int .u64 (py).a) := Kn.get s0.out 1 4 rfl rfl
 have up_5 : ((kalP w (px) (py)).alloc (.cells #[Value.int IntKind.u8 0, .int .u8 0, .int .u8 0, .int .u8 0, .int .u8 0, .int .u8 0, .int .u8 0, .int .u8 0, .int .u8 0, .int .u8 0, .int .u8 0, .int .u8 0, .int .u8 0, .int .u8 0, .int .u8 0, .int .u8 0, .int .u8 0, .int .u8 0, .int .u8 0, .int .u8 0, .int .u8 0, .int .u8 0, .int .u8 0, .int .u8 0, .int .u8 0, .int .u8 0, .int .u8 0, .int .u8 0, .int .u8 0, .int .u8 0, .int .u8 0, .int .u8 0] 22)).cell? ⟨w.heap.size, 5, none⟩ = some (.int .u64 (py).b) := Kn.get s0.out 1 5 rfl rfl
 have up_6 : ((kalP w (px) (py)).alloc (.cells #[Value.int IntKind.u8 0, .int .u8 0, .int .u8 0, .int .u8 0, .int .u8 0, .int .u8 0, .int .u8 0, .int .u8 0, .int .u8 0, .int .u8 0, .int .u8 0, .int .u8 0, .int .u8 0, .int .u8 0, .int .u8 0, .int .u8 0, .int .u8 0, .int .u8 0, .int .u8 0, .int .u8 0, .int .u8 0, .int .u8 0, .int .u8 0, .int .u8 0, .int .u8 0, .int .u8 0, .int .u8 0, .int .u8 0, .int .u8 0, .int .u8 0, .int .u8 0, .int .u8 0] 22)).cell? ⟨w.heap.size, 6, none⟩ = some (.int .u64 (py).c) := Kn.get s0.out 1 6 rfl rfl
 have up_7 : ((kalP w (px) (py)).alloc (.cells #[Value.int IntKind.u8 0, .int .u8 0, .int .u8 0, .int .u8 0, .int .u8 0, .int .u8 0, .int .u8 0, .int .u8 0, .int .u8 0, .int .u8 0, .int .u8 0, .int .u8 0, .int .u8 0, .int .u8 0, .int .u8 0, .int .u8 0, .int .u8 0, .int .u8 0, .int .u8 0, .int .u8 0, .int .u8 0, .int .u8 0, .int .u8 0, .int .u8 0, .int .u8 0, .int .u8 0, .int .u8 0, .int .u8 0, .int .u8 0, .int .u8 0, .int .u8 0, .int .u8 0] 22)).cell? ⟨w.heap.size, 7, none⟩ = some (.int .u64 (py).d) := Kn.get s0.out 1 7 rfl rfl
 go_wp2_with (first | simp only [zero_b32])
 clear up_0 up_1 up_2 up_3 up_4 up_5 up_6 up_7
 refine (B1 _).mono ?_
 rintro e w1 ⟨rfl, hb1⟩
 have s1 : Hid (Kn w1 _) := s0.out.up hb1
 have b1 : Hid (Below w.heap.size w w1) := b0.out.trans (hb1.mono b0.out.size)
 have z1 := b1.out.size
 clear hb1 s0 b0
 have s2x : Hid (Kn (w1.alloc (.cells #[Value.int IntKind.u8 0, .int .u8 0, .int .u8 0, .int .u8 0, .int .u8 0, .int .u8 0, .int .u8 0, .int .u8 0, .int .u8 0, .int .u8 0, .int .u8 0, .int .u8 0, .int .u8 0, .int .u8 0, .int .u8 0, .int .u8 0, .int .u8 0, .int .u8 0, .int .u8 0, .int .u8 0, .int .u8 0, .int .u8 0, .int .u8 0, .int .u8 0, .int .u8 0, .int .u8 0, .int .u8 0, .int .u8 0, .int .u8 0, .int .u8 0, .int .u8 0, .int .u8 0] 22)) [(w1.heap.size, bZ), (w.heap.size + 1, bZ), (w.heap.size, (c8 (px) (py)))]) := s1.out.al bZ 22 rfl
 have b2x : Hid (Below w.heap.size w (w1.alloc (.cells #[Value.int IntKind.u8 0, .int .u8 0, .int .u8 0, .int .u8 0, .int .u8 0, .int .u8 0, .int .u8 0, .int .u8 0, .int .u8 0, .int .u8 0, .int .u8 0, .int .u8 0, .int .u8 0, .int .u8 0, .int .u8 0, .int .u8 0, .int .u8 0, .int .u8 0, .int .u8 0, .int .u8 0, .int .u8 0, .int .u8 0, .int .u8 0, .int .u8 0, .int .u8 0, .int .u8 0, .int .u8 0, .int .u8 0, .int .u8 0, .int .u8 0, .int .u8 0, .int .u8 0] 22))) := b1.out.alloc b1.out.size _
 have g2 : w.heap.size ≤ w1.heap.size := b1.out.size
 have TT2 : Hid ((w1.alloc (.cells #[Value.int IntKind.u8 0, .int .u8 0, .int .u8 0, .int .u8 0, .int .u8 0, .int .u8 0, .int .u8 0, .int .u8 0, .int .u8 0, .int .u8 0, .int .u8 0, .int .u8 0, .int .u8 0, .int .u8 0, .int .u8 0, .int .u8 0, .int .u8 0, .int .u8 0, .int .u8 0, .int .u8 0, .int .u8 0, .int .u8 0, .int .u8 0, .int .u8 0, .int .u8 0, .int .u8 0, .int .u8 0, .int .u8 0, .int .u8 0, .int .u8 0, .int .u8 0, .int .u8 0] 22)).there (w1.heap.size) 0 (bR (n)).length) := Kn.there s2x.out 0 rfl (by rw [(bR_length (n)), bZ_length])
 go_wp2_with (first | simp only [zero_b32] | refine I.wp_store_eq rfl 22 _ _ rfl (w1.heap.size) 0 (bR (n)) rfl rfl TT2.out (info_bR (n)) (bR_one (n)) ?_)
 intro w2 hw2
 try simp only [Act.put, List.setIfInBounds_toArray, List.set_cons_succ, List.set_cons_zero]
 have s2 : Hid (Kn w2 [(w1.heap.size, (bR (n))), (w.heap.size + 1, bZ), (w.heap.size, (c8 (px) (py)))]) := by rw [hw2.out]; exact Kn.put s2x.out (by rw [(bR_length (n)), bZ_length])
 have b2 : Hid (Below w.heap.size w w2) := by rw [hw2.out]; exact I.below_setCells _ _ _ b2x.out g2
 have z2 := b2.out.size
 clear hw2 s2x b2x TT2 s1 b1
 replace s2 : Hid (Kn w2 [(w.heap.size + 1, bZ), (w1.heap.size, (bR (n))), (w.heap.size, (c8 (px) (py)))]) := s2.out.front 1 rfl
 replace s2 : Hid (Kn w2 [(w.heap.size, (c8 (px) (py))), (w.heap.size + 1, bZ), (w1.heap.size, (bR (n)))]) := s2.out.front 2 rfl
 replace s2 : Hid (Kn w2 [(w1.heap.size, (bR (n))), (w.heap.size, (c8 (px) (py))), (w.heap.size + 1, bZ)]) := s2.out.front 2 rfl
 have c31 : w2.cell? ⟨w1.heap.size, 31, none⟩ = some (.int .u8 (x : Int)) := by
  have := Kn.get s2.out 0 31 (v := .int .u8 ((n / 256 ^ 31 % 256 : Nat) : Int)) rfl (by unfold bR; rw [List.getElem?_map, List.getElem?_range (by decide)]; rfl)
  rw [hx.out]
  exact this
 have z31 := Kn.fz s2.out 0 rfl
 have up_0 : w2.cell? ⟨w.heap.size, 0, none⟩ = some (.int .u64 (px).a) := Kn.get s2.out 1 0 rfl rfl
 have up_1 : w2.cell? ⟨w.heap.size, 1, none⟩ = some (.int .u64 (px).b) := Kn.get s2.out 1 1 rfl rfl
 have up_2 : w2.cell? ⟨w.heap.size, 2, none⟩ = some (.int .u64 (px).c) := Kn.get s2.out 1 2 rfl rfl
 have up_3 : w2.cell? ⟨w.heap.size, 3, none⟩ = some (.int .u64 (px).d) := Kn.get s2.out 1 3 rfl rfl
 have up_4 : w2.cell? ⟨w.heap.size, 4, none⟩ = some (.int .u64 (py).a) := Kn.get s2.out 1 4 rfl rfl
 have up_5 : w2.cell? ⟨w.heap.size, 5, none⟩ = some (.int .u64 (py).b) := Kn.get s2.out 1 5 rfl rfl
 have up_6 : w2.cell? ⟨w.heap.size, 6, none⟩ = some (.int .u64 (py).c) := Kn.get s2.out 1 6 rfl rfl
 have up_7 : w2.cell? ⟨w.heap.size, 7, none⟩ = some (.int .u64 (py).d) := Kn.get s2.out 1 7 rfl rfl
 have s3 : Hid (Kn (w2.setCell ⟨w1.heap.size, 31, none⟩ (.int .u8 (y : Int))) [(w1.heap.size, bR (m)), (w.heap.size, c8 px py), (w.heap.size + 1, bZ)]) := by
  have := Kn.set s2.out 31 (.int .u8 (y : Int)) (by rw [bR_length]; decide)
  rw [hy.out, hr.out] at this
  rw [hy.out]
  exact this
 have b3 : Hid (Below w.heap.size w (w2.setCell ⟨w1.heap.size, 31, none⟩ (.int .u8 (y : Int)))) := b2.out.setCell (p := ⟨w1.heap.size, 31, none⟩) (by omega) _
 clear s2 b2
 have s4x : Hid (Kn (w2.setCell ⟨w1.heap.size, 31, none⟩ (.int .u8 (y : Int))) [(w.heap.size + 1, bZ), (w1.heap.size, (bR (m))), (w.heap.size, (c8 (px) (py)))]) := s3.out.front 2 rfl
 have b4x : Hid (Below w.heap.size w (w2.setCell ⟨w1.heap.size, 31, none⟩ (.int .u8 (y : Int)))) := b3.out
 have TT4 : Hid ((w2.setCell ⟨w1.heap.size, 31, none⟩ (.int .u8 (y : Int))).there (w.heap.size + 1) 0 (bR (m)).length) := Kn.there s4x.out 0 rfl (by rw [(bR_length (m)), bZ_length])
 go_wp2_with (first | refine wp_ldW rfl 22 _ rfl (w1.heap.size) 0 rfl (bR (m)) _ (Kn.rng s3.out 0 rfl) Tryz.underlying22 rfl (info_bR (m)) ?_ | refine I.wp_store_eq rfl 22 _ _ rfl (w.heap.size + 1) 0 (bR (m)) rfl rfl TT4.out (info_bR (m)) (bR_one (m)) ?_)
 intro w4 hw4
 try simp only [Act.put, List.setIfInBounds_toArray, List.set_cons_succ, List.set_cons_zero]
 have s4 : Hid (Kn w4 [(w.heap.size + 1, (bR (m))), (w1.heap.size, (bR (m))), (w.heap.size, (c8 (px) (py)))]) := by rw [hw4.out]; exact Kn.put s4x.out (by rw [(bR_length (m)), bZ_length])
 have b4 : Hid (Below w.heap.size w w4) := by rw [hw4.out]; exact I.below_setCells _ _ _ b4x.out (by omega)
 have z4 := b4.out.size
 clear hw4 s4x b4x TT4 s3 b3
 go_wp2_with fail
 exact bodyPost_ret (v := bV m) (I.results_cell (b := w.heap.size + 1) rfl rfl (Kn.rng s4.out 0 rfl) Tryz.underlying22 rfl (info_bR (m))) rfl ⟨rfl, b4.out⟩
theorem and_1 {a : Int} (h : Word a) : bits .and .u64 a 1 = a % 2 := by
 obtain ⟨a, rfl⟩ := Int.eq_ofNat_of_zero_le h.1
 have ha : a < 18446744073709551616 := by have := h.2; omega
 have := bits_and_u64_nat a 1 ha (by decide)
 rw [show ((1 : Nat) : Int) = 1 from rfl] at this
 rw [this, show (1 : Nat) = 2 ^ 1 - 1 from rfl, Nat.and_two_pow_sub_one_eq_mod]
 rfl
theorem or_128 : ∀ (x : Fin 128) (b : Fin 2), bits .or .u8 ((x.val : Nat) : Int) (((b.val : Nat) : Int) % 256 * 128 % 256) = ((x.val + 128 * b.val : Nat) : Int) := by decide +kernel
/-- A bit above all others. -/
theorem top_row {n b : Nat} (hn : n < 2 ^ 255) (hb : b < 2) : (n + 2 ^ 255 * b) / 256 ^ 31 % 256 = n / 256 ^ 31 % 256 + 128 * b ∧ n / 256 ^ 31 % 256 < 128 ∧ (bR n).set 31 (.int .u8 (((n + 2 ^ 255 * b) / 256 ^ 31 % 256 : Nat) : Int)) = bR (n + 2 ^ 255 * b) := by
 have p31 : (256 : Nat) ^ 31 = 452312848583266388373324160190187140051835877600158453279131187530910662656 := by decide
 have p255 : (2 : Nat) ^ 255 = 57896044618658097711785492504343953926634992332820282019728792003956564819968 := by decide
 refine ⟨?_, ?_, ?_⟩
 ·rw [p31, p255] at *
  omega
 ·rw [p31]
  rw [p255] at hn
  omega
 ·apply List.ext_getElem?
  intro i
  by_cases hi : i < 32
  ·by_cases h31 : i = 31
   ·subst h31
    rw [List.getElem?_set_self (by rw [bR_length]; decide)]
    simp [bR]
   ·rw [List.getElem?_set_ne (Ne.symm h31)]
    have e : n / 256 ^ i % 256 = (n + 2 ^ 255 * b) / 256 ^ i % 256 := by
     have hs : (2 : Nat) ^ 255 = 256 ^ i * (256 * 2 ^ (247 - 8 * i)) := by
      rw [show (256 : Nat) = 2 ^ 8 from rfl, ← Nat.pow_mul, ← Nat.pow_add, ← Nat.pow_add]
      congr 1
      omega
     rw [hs, Nat.mul_assoc, Nat.mul_assoc, Nat.add_mul_div_left _ _ (Nat.pow_pos (by decide)), Nat.add_mul_mod_self_left]
    unfold bR
    rw [List.getElem?_map, List.getElem?_map, List.getElem?_range hi]
    simp only [Option.map_some, e]
  ·rw [List.getElem?_eq_none (by rw [List.length_set, bR_length]; omega), List.getElem?_eq_none (by rw [bR_length]; omega)]
theorem nm_a (n : Nat) : (nm n).a % 2 = ((n % 2 : Nat) : Int) := by
 show ((n : Int) % 18446744073709551616) % 2 = _
 omega
theorem packed_fun {P : Cv.Pt} (h2 : P.2 < F.p) (w : World) : Calls Tryz.prog 91 #[pv P] w fun e w' => e = .returned (bV (Cv.pk P)) ∧ Below w.heap.size w w' := by
 have hy : P.2 < 2 ^ 255 := Nat.lt_trans h2 Cv.p_255
 obtain ⟨t1, t2, t3⟩ := top_row hy (Nat.mod_lt P.1 (show 2 > 0 by decide))
 refine packed_walk (nm P.1) (nm P.2) P.2 (Cv.pk P) _ _ rfl rfl ?_ t3 (bytes_n P.2 (Nat.lt_trans h2 F.p_lt)) w
 have := or_128 ⟨_, t2⟩ ⟨P.1 % 2, Nat.mod_lt _ (by decide)⟩
 rw [and_1 (nm_ok P.1).a, nm_a]
 show _ = (((P.2 + 2 ^ 255 * (P.1 % 2)) / 256 ^ 31 % 256 : Nat) : Int)
 rw [t1]
 exact this
set_option maxRecDepth 20000 in
set_option maxHeartbeats 1000000 in
theorem cPack_walk (px py : Nm) (m : Nat)
  (O1 : ∀ w, Calls Tryz.prog 90 #[Wv px py] w fun e w' => e = .returned (.bool true) ∧ Below w.heap.size w w')
  (K1 : ∀ w, Calls Tryz.prog 91 #[Wv px py] w fun e w' => e = .returned (.agg (bR (m)).toArray) ∧ Below w.heap.size w w')
  (w : World) :
  Calls Tryz.prog 50 #[Wv px py] w fun e w' => e = .returned (.tuple #[bV m, .int .i64 0]) ∧ Below w.heap.size w w' := by
 go_enter Tryz.func50, Tryz.ntmps50
 have s0 : Hid (Kn ((kalP w (px) (py)).alloc (.cells #[Value.int IntKind.u8 0, .int .u8 0, .int .u8 0, .int .u8 0, .int .u8 0, .int .u8 0, .int .u8 0, .int .u8 0, .int .u8 0, .int .u8 0, .int .u8 0, .int .u8 0, .int .u8 0, .int .u8 0, .int .u8 0, .int .u8 0, .int .u8 0, .int .u8 0, .int .u8 0, .int .u8 0, .int .u8 0, .int .u8 0, .int .u8 0, .int .u8 0, .int .u8 0, .int .u8 0, .int .u8 0, .int .u8 0, .int .u8 0, .int .u8 0, .int .u8 0, .int .u8 0] 22)) [(w.heap.size + 1, bZ), (w.heap.size, (c8 (px) (py)))]) := (((Kn.nil w).al (c8 (px) (py)) 59 rfl).al bZ 22 (by simp))
 have b0 : Hid (Below w.heap.size w ((kalP w (px) (py)).alloc (.cells #[Value.int IntKind.u8 0, .int .u8 0, .int .u8 0, .int .u8 0, .int .u8 0, .int .u8 0, .int .u8 0, .int .u8 0, .int .u8 0, .int .u8 0, .int .u8 0, .int .u8 0, .int .u8 0, .int .u8 0, .int .u8 0, .int .u8 0, .int .u8 0, .int .u8 0, .int .u8 0, .int .u8 0, .int .u8 0, .int .u8 0, .int .u8 0, .int .u8 0, .int .u8 0, .int .u8 0, .int .u8 0, .int .u8 0, .int .u8 0, .int .u8 0, .int .u8 0, .int .u8 0] 22))) := (((Below.refl _ _).alloc (Nat.le_refl _) _).alloc (by simp <;> omega) _)
 have up_0 : ((kalP w (px) (py)).alloc (.cells #[Value.int IntKind.u8 0, .int .u8 0, .int .u8 0, .int .u8 0, .int .u8 0, .int .u8 0, .int .u8 0, .int .u8 0, .int .u8 0, .int .u8 0, .int .u8 0, .int .u8 0, .int .u8 0, .int .u8 0, .int .u8 0, .int .u8 0, .int .u8 0, .int .u8 0, .int .u8 0, .int .u8 0, .int .u8 0, .int .u8 0, .int .u8 0, .int .u8 0, .int .u8 0, .int .u8 0, .int .u8 0, .int .u8 0, .int .u8 0, .int .u8 0, .int .u8 0, .int .u8 0] 22)).cell? ⟨w.heap.size, 0, none⟩ = some (.int .u64 (px).a) := Kn.get s0.out 1 0 rfl rfl
 have up_1 : ((kalP w (px) (py)).alloc (.cells #[Value.int IntKind.u8 0, .int .u8 0, .int .u8 0, .int .u8 0, .int .u8 0, .int .u8 0, .int .u8 0, .int .u8 0, .int .u8 0, .int .u8 0, .int .u8 0, .int .u8 0, .int .u8 0, .int .u8 0, .int .u8 0, .int .u8 0, .int .u8 0, .int .u8 0, .int .u8 0, .int .u8 0, .int .u8 0, .int .u8 0, .int .u8 0, .int .u8 0, .int .u8 0, .int .u8 0, .int .u8 0, .int .u8 0, .int .u8 0, .int .u8 0, .int .u8 0, .int .u8 0] 22)).cell? ⟨w.heap.size, 1, none⟩ = some (.int .u64 (px).b) := Kn.get s0.out 1 1 rfl rfl
 have up_2 : ((kalP w (px) (py)).alloc (.cells #[Value.int IntKind.u8 0, .int .u8 0, .int .u8 0, .int .u8 0, .int .u8 0, .int .u8 0, .int .u8 0, .int .u8 0, .int .u8 0, .int .u8 0, .int .u8 0, .int .u8 0, .int .u8 0, .int .u8 0, .int .u8 0, .int .u8 0, .int .u8 0, .int .u8 0, .int .u8 0, .int .u8 0, .int .u8 0, .int .u8 0, .int .u8 0, .int .u8 0, .int .u8 0, .int .u8 0, .int .u8 0, .int .u8 0, .int .u8 0, .int .u8 0, .int .u8 0, .int .u8 0] 22)).cell? ⟨w.heap.size, 2, none⟩ = some (.int .u64 (px).c) := Kn.get s0.out 1 2 rfl rfl
 have up_3 : ((kalP w (px) (py)).alloc (.cells #[Value.int IntKind.u8 0, .int .u8 0, .int .u8 0, .int .u8 0, .int .u8 0, .int .u8 0, .int .u8 0, .int .u8 0, .int .u8 0, .int .u8 0, .int .u8 0, .int .u8 0, .int .u8 0, .int .u8 0, .int .u8 0, .int .u8 0, .int .u8 0, .int .u8 0, .int .u8 0, .int .u8 0, .int .u8 0, .int .u8 0, .int .u8 0, .int .u8 0, .int .u8 0, .int .u8 0, .int .u8 0, .int .u8 0, .int .u8 0, .int .u8 0, .int .u8 0, .int .u8 0] 22)).cell? ⟨w.heap.size, 3, none⟩ = some (.int .u64 (px).d) := Kn.get s0.out 1 3 rfl rfl
 have up_4 : ((kalP w (px) (py)).alloc (.cells #[Value.int IntKind.u8 0, .int .u8 0, .int .u8 0, .int .u8 0, .int .u8 0, .int .u8 0, .int .u8 0, .int .u8 0, .int .u8 0, .int .u8 0, .int .u8 0, .int .u8 0, .int .u8 0, .int .u8 0, .int .u8 0, .int .u8 0, .int .u8 0, .int .u8 0, .int .u8 0, .int .u8 0, .int .u8 0, .int .u8 0, .int .u8 0, .int .u8 0, .int .u8 0, .int .u8 0, .int .u8 0, .int .u8 0, .int .u8 0, .int .u8 0, .int .u8 0, .int .u8 0] 22)).cell? ⟨w.heap.size, 4, none⟩ = some (.int .u64 (py).a) := Kn.get s0.out 1 4 rfl rfl
 have up_5 : ((kalP w (px) (py)).alloc (.cells #[Value.int IntKind.u8 0, .int .u8 0, .int .u8 0, .int .u8 0, .int .u8 0, .int .u8 0, .int .u8 0, .int .u8 0, .int .u8 0, .int .u8 0, .int .u8 0, .int .u8 0, .int .u8 0, .int .u8 0, .int .u8 0, .int .u8 0, .int .u8 0, .int .u8 0, .int .u8 0, .int .u8 0, .int .u8 0, .int .u8 0, .int .u8 0, .int .u8 0, .int .u8 0, .int .u8 0, .int .u8 0, .int .u8 0, .int .u8 0, .int .u8 0, .int .u8 0, .int .u8 0] 22)).cell? ⟨w.heap.size, 5, none⟩ = some (.int .u64 (py).b) := Kn.get s0.out 1 5 rfl rfl
 have up_6 : ((kalP w (px) (py)).alloc (.cells #[Value.int IntKind.u8 0, .int .u8 0, .int .u8 0, .int .u8 0, .int .u8 0, .int .u8 0, .int .u8 0, .int .u8 0, .int .u8 0, .int .u8 0, .int .u8 0, .int .u8 0, .int .u8 0, .int .u8 0, .int .u8 0, .int .u8 0, .int .u8 0, .int .u8 0, .int .u8 0, .int .u8 0, .int .u8 0, .int .u8 0, .int .u8 0, .int .u8 0, .int .u8 0, .int .u8 0, .int .u8 0, .int .u8 0, .int .u8 0, .int .u8 0, .int .u8 0, .int .u8 0] 22)).cell? ⟨w.heap.size, 6, none⟩ = some (.int .u64 (py).c) := Kn.get s0.out 1 6 rfl rfl
 have up_7 : ((kalP w (px) (py)).alloc (.cells #[Value.int IntKind.u8 0, .int .u8 0, .int .u8 0, .int .u8 0, .int .u8 0, .int .u8 0, .int .u8 0, .int .u8 0, .int .u8 0, .int .u8 0, .int .u8 0, .int .u8 0, .int .u8 0, .int .u8 0, .int .u8 0, .int .u8 0, .int .u8 0, .int .u8 0, .int .u8 0, .int .u8 0, .int .u8 0, .int .u8 0, .int .u8 0, .int .u8 0, .int .u8 0, .int .u8 0, .int .u8 0, .int .u8 0, .int .u8 0, .int .u8 0, .int .u8 0, .int .u8 0] 22)).cell? ⟨w.heap.size, 7, none⟩ = some (.int .u64 (py).d) := Kn.get s0.out 1 7 rfl rfl
 go_wp2_with (first | simp only [zero_b32])
 clear up_0 up_1 up_2 up_3 up_4 up_5 up_6 up_7
 refine (O1 _).mono ?_
 rintro e w1 ⟨rfl, hb1⟩
 have s1 : Hid (Kn w1 _) := s0.out.up hb1
 have b1 : Hid (Below w.heap.size w w1) := b0.out.trans (hb1.mono b0.out.size)
 have z1 := b1.out.size
 clear hb1 s0 b0
 have up_0 : w1.cell? ⟨w.heap.size, 0, none⟩ = some (.int .u64 (px).a) := Kn.get s1.out 1 0 rfl rfl
 have up_1 : w1.cell? ⟨w.heap.size, 1, none⟩ = some (.int .u64 (px).b) := Kn.get s1.out 1 1 rfl rfl
 have up_2 : w1.cell? ⟨w.heap.size, 2, none⟩ = some (.int .u64 (px).c) := Kn.get s1.out 1 2 rfl rfl
 have up_3 : w1.cell? ⟨w.heap.size, 3, none⟩ = some (.int .u64 (px).d) := Kn.get s1.out 1 3 rfl rfl
 have up_4 : w1.cell? ⟨w.heap.size, 4, none⟩ = some (.int .u64 (py).a) := Kn.get s1.out 1 4 rfl rfl
 have up_5 : w1.cell? ⟨w.heap.size, 5, none⟩ = some (.int .u64 (py).b) := Kn.get s1.out 1 5 rfl rfl
 have up_6 : w1.cell? ⟨w.heap.size, 6, none⟩ = some (.int .u64 (py).c) := Kn.get s1.out 1 6 rfl rfl
 have up_7 : w1.cell? ⟨w.heap.size, 7, none⟩ = some (.int .u64 (py).d) := Kn.get s1.out 1 7 rfl rfl
 go_wp2_with fail
 clear up_0 up_1 up_2 up_3 up_4 up_5 up_6 up_7
 refine (K1 _).mono ?_
 rintro e w2 ⟨rfl, hb2⟩
 have s2 : Hid (Kn w2 _) := s1.out.up hb2
 have b2 : Hid (Below w.heap.size w w2) := b1.out.trans (hb2.mono b1.out.size)
 have z2 := b2.out.size
 clear hb2 s1 b1
 have s3x : Hid (Kn w2 [(w.heap.size + 1, bZ), (w.heap.size, (c8 (px) (py)))]) := s2.out.front 0 rfl
 have b3x : Hid (Below w.heap.size w w2) := b2.out
 have TT3 : Hid (w2.there (w.heap.size + 1) 0 (bR (m)).length) := Kn.there s3x.out 0 rfl (by rw [(bR_length (m)), bZ_length])
 go_wp2_with (first | refine I.wp_store_eq rfl 22 _ _ rfl (w.heap.size + 1) 0 (bR (m)) rfl rfl TT3.out (info_bR (m)) (bR_one (m)) ?_)
 intro w3 hw3
 try simp only [Act.put, List.setIfInBounds_toArray, List.set_cons_succ, List.set_cons_zero]
 have s3 : Hid (Kn w3 [(w.heap.size + 1, (bR (m))), (w.heap.size, (c8 (px) (py)))]) := by rw [hw3.out]; exact Kn.put s3x.out (by rw [(bR_length (m)), bZ_length])
 have b3 : Hid (Below w.heap.size w w3) := by rw [hw3.out]; exact I.below_setCells _ _ _ b3x.out (by omega)
 have z3 := b3.out.size
 clear hw3 s3x b3x TT3 s2 b2
 go_wp2_with fail
 exact bodyPost_ret (v := .tuple #[bV m, .int .i64 0]) (results_row2 (b := w.heap.size + 1) rfl rfl rfl (Kn.rng s3.out 0 rfl) Tryz.underlying22 rfl (info_bR (m))) rfl ⟨rfl, b3.out⟩
theorem cPackC : CPackC := fun P hP w => cPack_walk _ _ _ (cOnC.1 P hP) (packed_fun hP.2.1) w
end Go.Proofs.YtfknkfninjjgbaaGreatDoor
