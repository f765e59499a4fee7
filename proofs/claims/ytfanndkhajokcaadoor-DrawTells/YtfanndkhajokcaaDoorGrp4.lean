import Derived.Test.YtfanndkhajokcaaDoorGrp1
import Derived.Deep.RegionLaw
/- Rows of bytes that a call makes by make: their cells, and a store into one. -/
namespace Go.Proofs.YtfanndkhajokcaaDoor
open Go.RowKit
theorem made_zerosB (n : Nat) : (madeCells (Value.int .u8 0).cells (n * 1)).toList = (List.replicate n 0).map b8 := by
  refine List.ext_getElem (by simp [madeCells]) fun i h1 h2 => ?_
  simp [madeCells, Value.cells, Nat.mod_one]
theorem wp_mkB {ops : Array Oper} {rest : List Oper} {o : Oper} {a : Act} {Q : Exit → Act → World → Prop} {w : World} (hg : o.guard = none) (l c : Operand) (hop : o.op = Op.makeSlice 22 l c)
    (B n : Nat) (L C : Int) (hl : a.eval l = .int .i64 L) (hc : a.eval c = .int .i64 C) (hL : L = (n : Int)) (hC : C = (n : Int)) (hn : n ≤ 281474976710656) (hB : B ≤ w.heap.size)
    (h : ∀ w', Ob w' B (.slice (some ⟨w.heap.size, 0, none⟩) n n) (List.replicate n 0) → Below B w w' → wpList Tryd.prog ops Q rest (a.put o.dst (.slice (some ⟨w.heap.size, 0, none⟩) n n)) w') : wpList Tryd.prog ops Q (o :: rest) a w := by
  obtain ⟨i0, hi, hz0, hz1, hz2⟩ := info_parts Tryd.iU8
  refine wpList_make_full w hg l c 22 hop B 5 i0 (.int .u8 0) 1 Tryd.uBytes hi hz0 hz1 .i64 .i64 L C n hl hc hL hC (by rw [hz2]; omega) (by unfold maxLen; omega) hB ?_
  intro w' r1 r2
  refine h w' ?_ (Below.grown (Below.refl _ _) r2 hB (fun k hk => by cases hk))
  unfold Ob
  rw [← made_zerosB, List.length_replicate]
  exact r1
theorem Ob.cell {w : World} {B g n c : Nat} {xs : List Nat} (h : Ob w B (.slice (some ⟨g, 0, none⟩) n c) xs) (hn : n = xs.length) (j : Nat) (hj : j < xs.length) : w.cell? ⟨g, j, none⟩ = some (.int .u8 ((xs.getD j 0 : Nat) : Int)) ∧ w.frozen? ⟨g, j, none⟩ = false := by
  subst hn
  have h2 : w.ownsRow B 5 1 (.slice (some ⟨g, 0, none⟩) xs.length c) xs.length (xs.map b8) := h
  refine ⟨?_, h2.frozenAt j⟩
  rw [h2.cellAt j (by omega)]
  simp [hj, b8]
theorem Ob.setAt {w : World} {B g n c : Nat} {xs : List Nat} (h : Ob w B (.slice (some ⟨g, 0, none⟩) n c) xs) (hn : n = xs.length) (hg : B ≤ g) (j y : Nat) (z : Int) (hz : z = ((y : Nat) : Int)) : Ob (w.setCell ⟨g, j, none⟩ (.int .u8 z)) B (.slice (some ⟨g, 0, none⟩) n c) (xs.set j y) ∧ Below B w (w.setCell ⟨g, j, none⟩ (.int .u8 z)) := by
  subst hn hz
  have h2 : w.ownsRow B 5 1 (.slice (some ⟨g, 0, none⟩) xs.length c) xs.length (xs.map b8) := h
  refine ⟨?_, (Below.refl _ _).setCell hg _⟩
  have := (h2.stored j (b8 y)).1
  unfold Ob
  rw [List.length_set, List.map_set]
  exact this
/-- Of word j what has come when the digits from k on are in. -/
def wfB (X k j : Nat) : Nat := X / 65536 ^ (max k (4 * j)) % 65536 ^ (4 * j + 4 - max k (4 * j))
end Go.Proofs.YtfanndkhajokcaaDoor

/- The contract of hash.Pad: what stands behind n bytes. -/
namespace Go.Proofs.YtfanndkhajokcaaDoor
open Go.RowKit
set_option linter.unusedSimpArgs false
theorem wp_mkB64 {ops : Array Oper} {rest : List Oper} {o : Oper} {a : Act} {Q : Exit → Act → World → Prop} {w : World} (hg : o.guard = none) (l c : Operand) (hop : o.op = Op.makeSlice 22 l c)
    (B n : Nat) (L C : Int) (hl : a.eval l = .int .u64 L) (hc : a.eval c = .int .u64 C) (hL : L = (n : Int)) (hC : C = (n : Int)) (hn : n ≤ 281474976710656) (hB : B ≤ w.heap.size)
    (h : ∀ w', Ob w' B (.slice (some ⟨w.heap.size, 0, none⟩) n n) (List.replicate n 0) → Below B w w' → wpList Tryd.prog ops Q rest (a.put o.dst (.slice (some ⟨w.heap.size, 0, none⟩) n n)) w') : wpList Tryd.prog ops Q (o :: rest) a w := by
  obtain ⟨i0, hi, hz0, hz1, hz2⟩ := info_parts Tryd.iU8
  refine wpList_make_full w hg l c 22 hop B 5 i0 (.int .u8 0) 1 Tryd.uBytes hi hz0 hz1 .u64 .u64 L C n hl hc hL hC (by rw [hz2]; omega) (by unfold maxLen; omega) hB ?_
  intro w' r1 r2
  refine h w' ?_ (Below.grown (Below.refl _ _) r2 hB (fun k hk => by cases hk))
  unfold Ob
  rw [← made_zerosB, List.length_replicate]
  exact r1
/-- How many bytes 0 are lacking. -/
def padZ (n : Nat) : Nat := (64 - (n + 9) % 64) % 64
/-- A pad with z bytes 0, of whose last eight the last k are in. -/
def padF (X z k : Nat) : List Nat := (List.range (z + 9)).map fun j => if j = 0 then 128 else if z + 9 ≤ j + k then X / 256 ^ (z + 8 - j) % 256 else 0
def padS (n : Nat) : List Nat := padF (8 * n % 18446744073709551616) (padZ n) 8
theorem padF_length (X z k : Nat) : (padF X z k).length = z + 9 := by simp [padF]
theorem padS_length (n : Nat) : (padS n).length = padZ n + 9 := padF_length _ _ _
theorem padZ_lt (n : Nat) : padZ n < 64 := Nat.mod_lt _ (by decide)
theorem padS_fills (n : Nat) : (n + (padS n).length) % 64 = 0 := by
  rw [padS_length]; unfold padZ; omega
theorem padF_get (X z k j : Nat) (h : j < z + 9) : (padF X z k).getD j 0 = if j = 0 then 128 else if z + 9 ≤ j + k then X / 256 ^ (z + 8 - j) % 256 else 0 := by
  simp [padF, List.getD_eq_getElem?_getD, h]
theorem padF_set (X z k : Nat) (hk : k < 8) : (padF X z k).set (z + 8 - k) (X / 256 ^ k % 256) = padF X z (k + 1) := by
  apply List.ext_getElem?
  intro j
  rw [List.getElem?_set]
  simp only [padF_length]
  by_cases hj : j < z + 9
  · have g := fun k => (by simp [padF, hj] : (padF X z k)[j]? = some (if j = 0 then 128 else if z + 9 ≤ j + k then X / 256 ^ (z + 8 - j) % 256 else 0))
    rw [g, g]
    by_cases e : z + 8 - k = j
    · rw [if_pos e, if_pos (by omega), if_neg (by omega), if_pos (by omega), show z + 8 - j = k by omega]
    · rw [if_neg e]
      by_cases h0 : j = 0
      · rw [if_pos h0, if_pos h0]
      · rw [if_neg h0, if_neg h0]
        by_cases h1 : z + 9 ≤ j + k
        · rw [if_pos h1, if_pos (by omega)]
        · rw [if_neg h1, if_neg (by omega)]
  · rw [List.getElem?_eq_none (by rw [padF_length]; omega), List.getElem?_eq_none (by rw [padF_length]; omega)]
    split <;> simp
    omega
theorem padF_zero (X z : Nat) : (List.replicate (z + 9) 0).set 0 128 = padF X z 0 := by
  apply List.ext_getElem?
  intro j
  rw [List.getElem?_set]
  by_cases hj : j < z + 9
  · simp [padF, hj]
    by_cases h0 : j = 0
    · simp [h0]
    · have : ¬ 0 = j := fun e => h0 e.symm
      simp [h0, this]
      intro h; omega
  · rw [List.getElem?_eq_none (l := padF X z 0) (by rw [padF_length]; omega), if_neg (by omega)]
    simp; omega
theorem padS_low (n : Nat) : ∀ x ∈ padS n, x < 256 := by
  intro x hx
  simp only [padS, padF, List.mem_map, List.mem_range] at hx
  obtain ⟨j, _, rfl⟩ := hx
  split
  · omega
  · split
    · exact Nat.mod_lt _ (by decide)
    · omega
theorem padS_head (n : Nat) : (padS n).getD 0 0 = 128 := by rw [padS, padF_get _ _ _ _ (by omega)]; simp
theorem padS_byte (n i : Nat) (hi : i < 8) : (padS n).getD (padZ n + 8 - i) 0 = 8 * n % 18446744073709551616 / 256 ^ i % 256 := by
  rw [padS, padF_get _ _ _ _ (by omega), if_neg (by omega), if_pos (by omega), show padZ n + 8 - (padZ n + 8 - i) = i by omega]
theorem getD_back (l m : List Nat) (i : Nat) : (l ++ m).getD (l.length + i) 0 = m.getD i 0 := by
  simp [List.getD_eq_getElem?_getD, List.getElem?_append_right]
theorem pad_byte (p : List Nat) (n i : Nat) (hi : i < 8) : (p ++ padS n).getD ((p ++ padS n).length - 1 - i) 0 = 8 * n % 18446744073709551616 / 256 ^ i % 256 := by
  rw [List.length_append, padS_length, show p.length + (padZ n + 9) - 1 - i = p.length + (padZ n + 8 - i) by omega, getD_back, padS_byte n i hi]
theorem of_bytes {X Y : Nat} (hX : X < 18446744073709551616) (hY : Y < 18446744073709551616) (h : ∀ i, i < 8 → X / 256 ^ i % 256 = Y / 256 ^ i % 256) : X = Y := by
  have h0 := h 0 (by decide)
  have h1 := h 1 (by decide)
  have h2 := h 2 (by decide)
  have h3 := h 3 (by decide)
  have h4 := h 4 (by decide)
  have h5 := h 5 (by decide)
  have h6 := h 6 (by decide)
  have h7 := h 7 (by decide)
  simp only [Nat.reducePow, Nat.div_one] at *
  omega
theorem pads_one {p q : List Nat} (hp : p.length < 2305843009213693952) (hq : q.length < 2305843009213693952) (h : p ++ padS p.length = q ++ padS q.length) : p = q := by
  have e : 8 * p.length % 18446744073709551616 = 8 * q.length % 18446744073709551616 := of_bytes (Nat.mod_lt _ (by decide)) (Nat.mod_lt _ (by decide)) fun i hi => by
    rw [← pad_byte p _ i hi, h, pad_byte q _ i hi]
  have el : p.length = q.length := by omega
  exact (List.append_inj h el).1
theorem padZ_wrap (n : Nat) : IntKind.u64.wrap (9 + (IntKind.u64.wrap (-(IntKind.u64.wrap ((n : Int) + 9)))).tmod 64) = ((padZ n + 9 : Nat) : Int) := by
  have e : IntKind.u64.wrap (-(IntKind.u64.wrap ((n : Int) + 9))) = (-((n : Int) + 9)) % 18446744073709551616 := by
    simp only [IntKind.wrap, IntKind.bits, IntKind.signed]
    simp
    omega
  rw [e, Int.tmod_eq_emod_of_nonneg (by omega)]
  unfold padZ
  simp only [IntKind.wrap, IntKind.bits, IntKind.signed]
  simp
  omega
theorem bits_wrap (n : Nat) : IntKind.u64.wrap (8 * (n : Int)) = ((8 * n % 18446744073709551616 : Nat) : Int) := by
  simp only [IntKind.wrap, IntKind.bits, IntKind.signed]
  simp
theorem pow8 (k : Nat) : 2 ^ (8 * k) = 256 ^ k := by rw [Nat.pow_mul]
set_option maxRecDepth 20000 in
set_option maxHeartbeats 2000000 in
theorem pad_fun (n : Nat) (w : World) :
    Calls Tryd.prog 55 #[.int .u64 n] w fun e w' => (∃ v, e = .returned v ∧ Ob w' w.heap.size v (padS n)) ∧ Below w.heap.size w w' := by
  have PZ : Hid _ := padZ_wrap n
  have BW : Hid _ := bits_wrap n
  have PS : Hid (padS n = padF (8 * n % 18446744073709551616) (padZ n) 8) := rfl
  have z1 := padZ_lt n
  have X1 : 8 * n % 18446744073709551616 < 18446744073709551616 := Nat.mod_lt _ (by decide)
  generalize padZ n = z at *
  generalize 8 * n % 18446744073709551616 = X at *
  go_enter Tryd.func55, Tryd.ntmps55
  go_wp2_with (refine wp_mkB64 rfl (.tmp 12) (.tmp 12) rfl w.heap.size (z + 9) _ _ rfl rfl PZ.out PZ.out (by omega) (Nat.le_refl _) ?_)
  intro w1 ob1 hb1
  obtain ⟨c0, f0⟩ := ob1.cell (by simp) 0 (by simp)
  have O1 : Hid (Ob w1 _ _ _) := ob1
  have B1 : Hid (Below _ w w1) := hb1
  clear ob1 hb1
  go_wp2_with fail
  have A0 := O1.out.setAt (by simp) (Nat.le_refl _) 0 128 128 rfl
  rw [padF_zero X z] at A0
  rw [BW.out]
  go_loopw [18] (fun i wr => ∃ k : Nat, k ≤ 8 ∧ i = .int .i64 k ∧ Hid (Ob wr w.heap.size (.slice (some ⟨w.heap.size, 0, none⟩) (z + 9) (z + 9)) (padF X z k)) ∧ Hid (Below w.heap.size w wr)) (fun i _ => 8 - (intOf i).toNat)
  case atStart => exact ⟨0, by omega, rfl, A0.1, B1.out.trans A0.2⟩
  case round =>
    clear A0
    obtain ⟨k, hk, rfl, ob, hb⟩ := hrel
    by_cases hlt : k < 8
    · have e1 : ((z + 9 : Nat) : Int) - 1 - (k : Int) = ((z + 8 - k : Nat) : Int) := by omega
      obtain ⟨c1, f1⟩ := ob.out.cell (by rw [padF_length]) (z + 8 - k) (by rw [padF_length]; omega)
      have A1 := ob.out.setAt (by rw [padF_length]) (Nat.le_refl _) (z + 8 - k) (X / 256 ^ k % 256) ((X : Int) / 2 ^ (8 * k) % 256) (by rw [show (2 : Int) ^ (8 * k) = ((256 ^ k : Nat) : Int) by rw [← pow8]; simp]; omega)
      rw [padF_set X z k hlt] at A1
      go_wp2_with fail
      go_roundw
      case rel => exact ⟨k + 1, by omega, by go_num, A1.1, hb.out.trans A1.2⟩
      case measure => simp [intOf]; omega
    · obtain rfl : k = 8 := by omega
      go_wp2_with fail
      go_ret
      exact ⟨⟨_, rfl, by rw [PS.out]; exact ob.out⟩, hb.out⟩
end Go.Proofs.YtfanndkhajokcaaDoor
