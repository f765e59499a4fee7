/- Texts that were joined: BsMk, HPad, HSt, HWrite. -/
import Derived.Test.YtfknkfninjjgbaaGreatDoorQBKToCpy
import Derived.Deep.RegionLaw
import Derived.Test.YtfknkfninjjgbaaGreatDoorQHWToHMix
/- Rows of bytes that a call makes by make: their cells, and a store into one. -/
namespace Go.Proofs.YtfknkfninjjgbaaGreatDoor
open Go.RowKit
theorem made_zerosB (n : Nat) : (madeCells (Value.int .u8 0).cells (n * 1)).toList = (List.replicate n 0).map b8 := by
 refine List.ext_getElem (by simp [madeCells]) fun i h1 h2 => ?_
 simp [madeCells, Value.cells, Nat.mod_one]
theorem Ob.cell {w : World} {B g n c : Nat} {xs : List Nat} (h : Ob w B (.slice (some ⟨g, 0, none⟩) n c) xs) (hn : n = xs.length) (j : Nat) (hj : j < xs.length) : w.cell? ⟨g, j, none⟩ = some (.int .u8 ((xs.getD j 0 : Nat) : Int)) ∧ w.frozen? ⟨g, j, none⟩ = false := by
 subst hn
 have h2 : w.ownsRow B 5 1 (.slice (some ⟨g, 0, none⟩) xs.length c) xs.length (xs.map b8) := h
 refine ⟨?_, h2.frozenAt j⟩
 rw [h2.cellAt j (by omega)]
 simp [hj, b8]
theorem Ob.setAt {w : World} {B g n c : Nat} {xs : List Nat} (h : Ob w B (.slice (some ⟨g, 0, none⟩) n c) xs) (hn : n = xs.length) (hg : B ≤ g) (j y : Nat) (z : Int) (hz : z = ((y : Nat) : Int)) : Ob (w.setCell ⟨g, j, none⟩ (.int .u8 z)) B (.slice (some ⟨g, 0, none⟩) n c) (xs.set j y) ∧ Below B w (w.setCell ⟨g, j, none⟩ (.int .u8 z)) := by
 subst hn hz
 have h2 : w.ownsRow B 5 1 (.slice (some ⟨g, 0, none⟩) xs.length c) xs.length (xs.map b8) := h
 refine ⟨?_, (Below.refl _ _).setCell hg _⟩
 have := (h2.stored j (b8 y)).1
 unfold Ob
 rw [List.length_set, List.map_set]
 exact this
end Go.Proofs.YtfknkfninjjgbaaGreatDoor

/- The contract of hash.Pad: what stands behind n bytes. -/
namespace Go.Proofs.YtfknkfninjjgbaaGreatDoor
open Go.RowKit
set_option linter.unusedSimpArgs false
theorem wp_mkB64 {ops : Array Oper} {rest : List Oper} {o : Oper} {a : Act} {Q : Exit → Act → World → Prop} {w : World} (hg : o.guard = none) (l c : Operand) (hop : o.op = Op.makeSlice 23 l c)
  (B n : Nat) (L C : Int) (hl : a.eval l = .int .u64 L) (hc : a.eval c = .int .u64 C) (hL : L = (n : Int)) (hC : C = (n : Int)) (hn : n ≤ 281474976710656) (hB : B ≤ w.heap.size)
  (h : ∀ w', Ob w' B (.slice (some ⟨w.heap.size, 0, none⟩) n n) (List.replicate n 0) → Below B w w' → wpList Tryz.prog ops Q rest (a.put o.dst (.slice (some ⟨w.heap.size, 0, none⟩) n n)) w') : wpList Tryz.prog ops Q (o :: rest) a w := by
 obtain ⟨i0, hi, hz0, hz1, hz2⟩ := info_parts Tryz.iU8
 refine wpList_make_full w hg l c 23 hop B 5 i0 (.int .u8 0) 1 Tryz.uBytes hi hz0 hz1 .u64 .u64 L C n hl hc hL hC (by rw [hz2]; omega) (by unfold maxLen; omega) hB ?_
 intro w' r1 r2
 refine h w' ?_ (Below.grown (Below.refl _ _) r2 hB (fun k hk => by cases hk))
 unfold Ob
 rw [← made_zerosB, List.length_replicate]
 exact r1
/-- How many bytes 0 are lacking. -/
def padZ (n : Nat) : Nat := (64 - (n + 9) % 64) % 64
/-- A pad with z bytes 0, of whose last eight the last k are in. -/
def padF (X z k : Nat) : List Nat := (List.range (z + 9)).map fun j => if j = 0 then 128 else if z + 9 ≤ j + k then X / 256 ^ (z + 8 - j) % 256 else 0
def padS (n : Nat) : List Nat := padF (8 * n % 18446744073709551616) (padZ n) 8
theorem padF_length (X z k : Nat) : (padF X z k).length = z + 9 := by simp [padF]
theorem padS_length (n : Nat) : (padS n).length = padZ n + 9 := padF_length _ _ _
theorem padZ_lt (n : Nat) : padZ n < 64 := Nat.mod_lt _ (by decide)
theorem padS_fills (n : Nat) : (n + (padS n).length) % 64 = 0 := by
 rw [padS_length]; unfold padZ; omega
theorem padF_set (X z k : Nat) (hk : k < 8) : (padF X z k).set (z + 8 - k) (X / 256 ^ k % 256) = padF X z (k + 1) := by
 apply List.ext_getElem?
 intro j
 rw [List.getElem?_set]
 simp only [padF_length]
 by_cases hj : j < z + 9
 ·have g := fun k => (by simp [padF, hj] : (padF X z k)[j]? = some (if j = 0 then 128 else if z + 9 ≤ j + k then X / 256 ^ (z + 8 - j) % 256 else 0))
  rw [g, g]
  by_cases e : z + 8 - k = j
  ·rw [if_pos e, if_pos (by omega), if_neg (by omega), if_pos (by omega), show z + 8 - j = k by omega]
  ·rw [if_neg e]
   by_cases h0 : j = 0
   ·rw [if_pos h0, if_pos h0]
   ·rw [if_neg h0, if_neg h0]
    by_cases h1 : z + 9 ≤ j + k
    ·rw [if_pos h1, if_pos (by omega)]
    ·rw [if_neg h1, if_neg (by omega)]
 ·rw [List.getElem?_eq_none (by rw [padF_length]; omega), List.getElem?_eq_none (by rw [padF_length]; omega)]
  split <;> simp
  omega
theorem padF_zero (X z : Nat) : (List.replicate (z + 9) 0).set 0 128 = padF X z 0 := by
 apply List.ext_getElem?
 intro j
 rw [List.getElem?_set]
 by_cases hj : j < z + 9
 ·simp [padF, hj]
  by_cases h0 : j = 0
  ·simp [h0]
  ·have : ¬ 0 = j := fun e => h0 e.symm
   simp [h0, this]
   intro h; omega
 ·rw [List.getElem?_eq_none (l := padF X z 0) (by rw [padF_length]; omega), if_neg (by omega)]
  simp; omega
theorem padS_low (n : Nat) : ∀ x ∈ padS n, x < 256 := by
 intro x hx
 simp only [padS, padF, List.mem_map, List.mem_range] at hx
 obtain ⟨j, _, rfl⟩ := hx
 split
 ·omega
 ·split
  ·exact Nat.mod_lt _ (by decide)
  ·omega
theorem padZ_wrap (n : Nat) : IntKind.u64.wrap (9 + (IntKind.u64.wrap (-(IntKind.u64.wrap ((n : Int) + 9)))).tmod 64) = ((padZ n + 9 : Nat) : Int) := by
 have e : IntKind.u64.wrap (-(IntKind.u64.wrap ((n : Int) + 9))) = (-((n : Int) + 9)) % 18446744073709551616 := by
  simp only [IntKind.wrap, IntKind.bits, IntKind.signed]
  simp
  omega
 rw [e, Int.tmod_eq_emod_of_nonneg (by omega)]
 unfold padZ
 simp only [IntKind.wrap, IntKind.bits, IntKind.signed]
 simp
 omega
theorem bits_wrap (n : Nat) : IntKind.u64.wrap (8 * (n : Int)) = ((8 * n % 18446744073709551616 : Nat) : Int) := by
 simp only [IntKind.wrap, IntKind.bits, IntKind.signed]
 simp
theorem pow8 (k : Nat) : 2 ^ (8 * k) = 256 ^ k := by rw [Nat.pow_mul]
set_option maxRecDepth 20000 in
set_option maxHeartbeats 2000000 in
theorem pad_fun (n : Nat) (w : World) :
  Calls Tryz.prog 49 #[.int .u64 n] w fun e w' => (∃ v, e = .returned v ∧ Ob w' w.heap.size v (padS n)) ∧ Below w.heap.size w w' := by
 have PZ : Hid _ := padZ_wrap n
 have BW : Hid _ := bits_wrap n
 have PS : Hid (padS n = padF (8 * n % 18446744073709551616) (padZ n) 8) := rfl
 have z1 := padZ_lt n
 have X1 : 8 * n % 18446744073709551616 < 18446744073709551616 := Nat.mod_lt _ (by decide)
 generalize padZ n = z at *
 generalize 8 * n % 18446744073709551616 = X at *
 go_enter Tryz.func49, Tryz.ntmps49
 go_wp2_with (refine wp_mkB64 rfl (.tmp 12) (.tmp 12) rfl w.heap.size (z + 9) _ _ rfl rfl PZ.out PZ.out (by omega) (Nat.le_refl _) ?_)
 intro w1 ob1 hb1
 obtain ⟨c0, f0⟩ := ob1.cell (by simp) 0 (by simp)
 have O1 : Hid (Ob w1 _ _ _) := ob1
 have B1 : Hid (Below _ w w1) := hb1
 clear ob1 hb1
 go_wp2_with fail
 have A0 := O1.out.setAt (by simp) (Nat.le_refl _) 0 128 128 rfl
 rw [padF_zero X z] at A0
 rw [BW.out]
 go_loopw [18] (fun i wr => ∃ k : Nat, k ≤ 8 ∧ i = .int .i64 k ∧ Hid (Ob wr w.heap.size (.slice (some ⟨w.heap.size, 0, none⟩) (z + 9) (z + 9)) (padF X z k)) ∧ Hid (Below w.heap.size w wr)) (fun i _ => 8 - (intOf i).toNat)
 case atStart => exact ⟨0, by omega, rfl, A0.1, B1.out.trans A0.2⟩
 case round =>
  clear A0
  obtain ⟨k, hk, rfl, ob, hb⟩ := hrel
  by_cases hlt : k < 8
  ·have e1 : ((z + 9 : Nat) : Int) - 1 - (k : Int) = ((z + 8 - k : Nat) : Int) := by omega
   obtain ⟨c1, f1⟩ := ob.out.cell (by rw [padF_length]) (z + 8 - k) (by rw [padF_length]; omega)
   have A1 := ob.out.setAt (by rw [padF_length]) (Nat.le_refl _) (z + 8 - k) (X / 256 ^ k % 256) ((X : Int) / 2 ^ (8 * k) % 256) (by rw [show (2 : Int) ^ (8 * k) = ((256 ^ k : Nat) : Int) by rw [← pow8]; simp]; omega)
   rw [padF_set X z k hlt] at A1
   go_wp2_with fail
   go_roundw
   case rel => exact ⟨k + 1, by omega, by go_num, A1.1, hb.out.trans A1.2⟩
   case measure => simp [intOf]; omega
  ·obtain rfl : k = 8 := by omega
   go_wp2_with fail
   go_ret
   exact ⟨⟨_, rfl, by rw [PS.out]; exact ob.out⟩, hb.out⟩
end Go.Proofs.YtfknkfninjjgbaaGreatDoor

/- States of a digest: what a state of a text is; how a slice is cut, and how bytes are copied into a row. -/
namespace Go.Proofs.YtfknkfninjjgbaaGreatDoor
open Go.RowKit
set_option linter.unusedSimpArgs false
/-- copy of bytes into a range that may be written. -/
theorem wp_copyB {ops : Array Oper} {rest : List Oper} {o : Oper} {act : Act} {Q : Exit → Act → World → Prop} {w : World} (hgd : o.guard = none) (d s : Operand)
  (ho : o.op = .call { callee := .builtin .copy, args := #[d, s], argTypes := #[23, 23] }) (b f dl dc : Nat) (u : Value) (xs : List Nat) (hd : act.eval d = .slice (some ⟨b, f, none⟩) dl dc) (hs : act.eval s = u) (hb : By w u xs) (hp : 0 < xs.length)
  (ht : w.there b f (min xs.length dl))
  (h : ∀ w2, Hid (w2 = w.setCells b f ((xs.take dl).map b8)) → wpList Tryz.prog ops Q rest (act.put o.dst (.int .i64 ((min xs.length dl : Nat) : Int))) w2) : wpList Tryz.prog ops Q (o :: rest) act w := by
 obtain ⟨a, c, rfl, h1, h2, h3⟩ := hb
 obtain ⟨g, q, rfl, hc⟩ := h3 hp
 refine wpList_plain hgd fun K hK => ?_
 have hlen : ((xs.take dl).map b8).length = min xs.length dl := by simp [Nat.min_comm]
 have hrun := run_copy_cells (P := Tryz.prog) w 23 23 o.type 5 b f dl dc ⟨g, q, none⟩ xs.length c ((xs.take dl).map b8) Tryz.uBytes info_u8 hlen
  (fun j v hj => by
   rw [List.getElem?_map, List.getElem?_take] at hj
   split at hj
   ·rcases Nat.lt_or_ge j xs.length with h | h
    ·rw [Addr.add_lit, hc j h]
     simp [List.getD_eq_getElem?_getD, h] at hj ⊢
     exact hj
    ·simp [List.getElem?_eq_none h] at hj
   ·simp at hj)
  (fun j hj => (ht j (by omega)).1) (fun j hj => (ht j (by omega)).2) (one_b8 _)
 rw [hlen] at hrun
 unfold Oper.wp
 simp [execOp, ho, resolve, invoke, builtin, hd, hs, hrun, Result.andThen]
 exact hK _ _ (h _ (by rw [List.map_take]; exact rfl))
/-- The cells of a state. -/
def cS (H : R8) (R : List Nat) (c : Nat) : List Value := H.list.map uw ++ (R.map b8 ++ [.int .u64 (c : Int)])
def vS (H : R8) (R : List Nat) (c : Nat) : Value := .agg (cS H R c).toArray
/-- The bytes behind the last whole block, and then 0. -/
def restS (p : List Nat) : List Nat := p.drop (64 * (p.length / 64)) ++ List.replicate (64 - p.length % 64) 0
def wordsS (H : R8) (p : List Nat) : R8 := absN H (p.length / 64) p
def cntS (n : Nat) (p : List Nat) : Nat := (n + p.length) % 18446744073709551616
/-- The state of a text p behind n bytes whose words are H. -/
def stV (H : R8) (n : Nat) (p : List Nat) : Value := vS (wordsS H p) (restS p) (cntS n p)
theorem restS_length (p : List Nat) : (restS p).length = 64 := by
 unfold restS
 rw [List.length_append, List.length_drop, List.length_replicate]
 omega
theorem cS_length (H : R8) (R : List Nat) (c : Nat) (h : R.length = 64) : (cS H R c).length = 73 := by
 simp [cS, R8.list, h]
theorem cnt_mod (n : Nat) (p : List Nat) (h : n % 64 = 0) : cntS n p % 64 = p.length % 64 := by unfold cntS; omega
/-- The bytes behind the last whole block, and how many bytes 0 stand behind them. -/
theorem restS_eq (p : List Nat) : ∃ t, t.length = p.length % 64 ∧ t = p.drop (64 * (p.length / 64)) ∧ restS p = t ++ List.replicate (64 - p.length % 64) 0 :=
 ⟨_, by rw [List.length_drop]; omega, rfl, rfl⟩
/-- x laid into the rest behind p's own bytes. -/
def laidS (p x : List Nat) : List Nat := p.drop (64 * (p.length / 64)) ++ (x ++ List.replicate (64 - p.length % 64 - x.length) 0)
theorem laidS_length (p x : List Nat) (h : p.length % 64 + x.length ≤ 64) : (laidS p x).length = 64 := by
 unfold laidS
 rw [List.length_append, List.length_append, List.length_drop, List.length_replicate]
 omega
theorem laidS_low {p x : List Nat} (h : ∀ z ∈ p, z < 256) (hx : ∀ z ∈ x, z < 256) : ∀ z ∈ laidS p x, z < 256 := by
 intro z hz
 rcases List.mem_append.1 hz with h1 | h1
 ·exact h z (List.mem_of_mem_drop h1)
 ·rcases List.mem_append.1 h1 with h2 | h2
  ·exact hx z h2
  ·rw [(List.mem_replicate.1 h2).2]; decide
/-- Not yet a whole block. -/
theorem on_rest (p x : List Nat) (h : p.length % 64 + x.length < 64) : restS (p ++ x) = laidS p x := by
 unfold restS laidS
 rw [List.length_append, show (p.length + x.length) / 64 = p.length / 64 by omega, List.drop_append_of_le_length (by omega), show 64 - (p.length + x.length) % 64 = 64 - p.length % 64 - x.length by omega, List.append_assoc]
theorem on_words (H : R8) (p x : List Nat) (h : p.length % 64 + x.length < 64) : wordsS H (p ++ x) = wordsS H p := by
 unfold wordsS
 rw [List.length_append, show (p.length + x.length) / 64 = p.length / 64 by omega, absN_front _ _ _ _ (by omega)]
/-- A whole block. -/
theorem full_rest (p x : List Nat) (h : p.length % 64 + x.length = 64) : restS (p ++ x) = List.replicate 64 0 := by
 unfold restS
 rw [List.drop_eq_nil_of_le (by rw [List.length_append]; omega), List.length_append, show (p.length + x.length) % 64 = 0 by omega]
 rfl
theorem full_words (H : R8) (p x : List Nat) (h : p.length % 64 + x.length = 64) : wordsS H (p ++ x) = mixS (wordsS H p) (laidS p x) := by
 unfold wordsS laidS
 rw [List.length_append, show (p.length + x.length) / 64 = p.length / 64 + 1 by omega, absN_add, absN_front _ _ _ _ (by omega), List.drop_append_of_le_length (by omega), show 64 - p.length % 64 - x.length = 0 by omega]
 simp only [absN, List.replicate_zero, List.append_nil]
 rw [List.take_of_length_le (by rw [List.length_append, List.length_drop]; omega)]
theorem cnt_on (n : Nat) (p x : List Nat) : (cntS n p + x.length) % 18446744073709551616 = cntS n (p ++ x) := by
 unfold cntS
 rw [List.length_append]
 omega
theorem Blk.lay {w : World} {k : Nat} {W : R8} {p x : List Nat} {c : Nat} (h : Blk w k (cS W (restS p) c)) (hx : p.length % 64 + x.length ≤ 64) {o : Nat} (ho : o = 8 + p.length % 64) : Blk (w.setCells k o (x.map b8)) k (cS W (laidS p x) c) := by
 obtain ⟨t, ht, e1, e2⟩ := restS_eq p
 have ea : cS W (restS p) c = (W.list.map uw ++ t.map b8) ++ ((List.replicate x.length 0).map b8 ++ ((List.replicate (64 - p.length % 64 - x.length) 0).map b8 ++ [.int .u64 (c : Int)])) := by
  have er : List.replicate (64 - p.length % 64) 0 = List.replicate x.length 0 ++ List.replicate (64 - p.length % 64 - x.length) 0 := by
   rw [List.replicate_append_replicate]
   congr 1
   omega
  rw [cS, e2, er, List.map_append, List.map_append]
  simp only [List.append_assoc]
 have eb : cS W (laidS p x) c = (W.list.map uw ++ t.map b8) ++ (x.map b8 ++ ((List.replicate (64 - p.length % 64 - x.length) 0).map b8 ++ [.int .u64 (c : Int)])) := by
  rw [cS, laidS, ← e1, List.map_append, List.map_append]
  simp only [List.append_assoc]
 rw [ea] at h
 rw [eb]
 exact h.store (by rw [ho]; simp [R8.list, ht]; omega) (by simp)
theorem Blk.cnt {w : World} {k : Nat} {W : R8} {R : List Nat} {c : Nat} (h : Blk w k (cS W R c)) (hR : R.length = 64) (c' : Nat) {z : Int} (hz : z = (c' : Int)) : Blk (w.setCell ⟨k, 72, none⟩ (.int .u64 z)) k (cS W R c') := by
 subst hz
 have h' : Blk w k ((W.list.map uw ++ R.map b8) ++ ([.int .u64 (c : Int)] ++ [])) := by
  have e : (W.list.map uw ++ R.map b8) ++ ([.int .u64 (c : Int)] ++ []) = cS W R c := by simp [cS]
  rw [e]; exact h
 have := h'.store (o := 72) (b' := [.int .u64 (c' : Int)]) (by simp [R8.list, hR]) rfl
 have e : (W.list.map uw ++ R.map b8) ++ ([.int .u64 (c' : Int)] ++ []) = cS W R c' := by simp [cS]
 rw [e] at this
 exact this
theorem Blk.cntAt {w : World} {k : Nat} {W : R8} {R : List Nat} {c : Nat} (h : Blk w k (cS W R c)) (hR : R.length = 64) : w.cell? ⟨k, 72, none⟩ = some (.int .u64 (c : Int)) :=
 h.cell 72 _ (by rw [cS, ← List.append_assoc, List.getElem?_append_right (by simp [R8.list, hR])]; simp [R8.list, hR])
theorem Blk.words {w : World} {k : Nat} {W : R8} {R : List Nat} {c : Nat} (h : Blk w k (cS W R c)) : w.rangeAt k 0 (W.list.map uw) :=
 Blk.range (a := []) (b := W.list.map uw) (c := R.map b8 ++ [.int .u64 (c : Int)]) h rfl
theorem Blk.rest {w : World} {k : Nat} {W : R8} {R : List Nat} {c : Nat} (h : Blk w k (cS W R c)) : w.rangeAt k 8 (R.map b8) :=
 Blk.range (a := W.list.map uw) (b := R.map b8) (c := [.int .u64 (c : Int)]) h (by simp [R8.list])
theorem Blk.setWords {w : World} {k : Nat} {W : R8} {R : List Nat} {c : Nat} (h : Blk w k (cS W R c)) (W' : R8) : Blk (w.setCells k 0 (W'.list.map uw)) k (cS W' R c) :=
 Blk.store (a := []) (b := W.list.map uw) (c := R.map b8 ++ [.int .u64 (c : Int)]) h rfl (by simp [R8.list])
theorem Blk.setRest {w : World} {k : Nat} {W : R8} {R : List Nat} {c : Nat} (h : Blk w k (cS W R c)) (R' : List Nat) (hl : R'.length = R.length) : Blk (w.setCells k 8 (R'.map b8)) k (cS W R' c) :=
 Blk.store (a := W.list.map uw) (b := R.map b8) (c := [.int .u64 (c : Int)]) h (by simp [R8.list]) (by simpa using hl)
theorem one_cS (W : R8) (R : List Nat) (c : Nat) : ∀ v ∈ cS W R c, v.oneCell' = true := by
 intro v hv
 rcases List.mem_append.1 hv with h | h
 ·exact one_uw _ U v h
 ·rcases List.mem_append.1 h with h | h
  ·exact one_b8 _ v h
  ·rw [List.mem_singleton.1 h]; rfl
def R0 : R8 := ⟨0, 0, 0, 0, 0, 0, 0, 0⟩
/-- The cells of a state of nothing but 0. -/
def zS : List Value := cS R0 (List.replicate 64 0) 0
theorem zS_length : zS.length = 73 := cS_length _ _ _ (by simp)
theorem info_zero : (Tryz.prog.info? 47).map (·.zero) = some (some (.agg zS.toArray)) := by kernel_rfl
theorem zero_state (w : World) : (zeroValue 47).run Tryz.prog w = .ok (.agg zS.toArray) w := by
 have := info_zero
 cases h : Tryz.prog.info? 47 with
 | none => simp [h] at this
 | some d =>
  have hz : d.zero = some (.agg zS.toArray) := by simpa [h] using this
  simp [zeroValue, typeInfo, h, hz]
theorem info_state : (Tryz.prog.info? 47).map (·.size) = some 73 := by kernel_rfl
theorem info_w8 : (Tryz.prog.info? 45).map (·.size) = some 8 := by kernel_rfl
theorem u_w8 : Tryz.prog.underlying 45 = some (.array 8 44) := by kernel_rfl
theorem u_state : (Tryz.prog.underlying 47).map TypeDesc.isRow = some true := by kernel_rfl
theorem u_state' : ∃ d, Tryz.prog.underlying 47 = some d ∧ d.isRow = true := by
 have := u_state
 cases h : Tryz.prog.underlying 47 with
 | none => simp [h] at this
 | some d => exact ⟨d, rfl, by simpa [h] using this⟩
theorem built_blk : Tryz.prog.built 30 [] = some ((List.replicate 64 0).map b8).toArray := by kernel_rfl
/-- A block of bytes 0 that is built. -/
theorem wp_buildz {ops : Array Oper} {rest : List Oper} {o : Oper} {act : Act} {Q : Exit → Act → World → Prop} {w : World} (hgd : o.guard = none) (ho : o.op = .build 30 #[]) (zz : List Nat) (hz : Hid (zz = List.replicate 64 0))
  (h : wpList Tryz.prog ops Q rest (act.put o.dst (vB zz)) w) : wpList Tryz.prog ops Q (o :: rest) act w := by
 have hz := hz.out
 subst hz
 refine wpList_plain hgd fun K hK => ?_
 have e : (Instr.build 30 ((#[] : Array (Nat × Operand)).map fun x => (x.fst, act.eval x.snd))).run Tryz.prog w = .ok (vB (List.replicate 64 0)) w := run_build (P := Tryz.prog) w 30 _ _ (by simpa using built_blk)
 unfold Oper.wp
 simp only [execOp, ho, Sem.run_bind, e, Result.andThen_ok, Sem.run_pure]
 exact hK _ _ h
end Go.Proofs.YtfknkfninjjgbaaGreatDoor

/- The contract of hash.State.Write: a state of a text becomes the state of a longer one. -/
namespace Go.Proofs.YtfknkfninjjgbaaGreatDoor
open Go.RowKit
set_option linter.unusedSimpArgs false
def lenV : Value → Nat
 | .slice _ n _ => n
 | _ => 0
set_option maxRecDepth 20000 in
set_option maxHeartbeats 4000000 in
theorem write_core (H : R8) (n : Nat) (hn : n % 64 = 0) (p q : List Nat) (lp : ∀ x ∈ p, x < 256) (lq : ∀ x ∈ q, x < 256) (hq : q.length ≤ 9223372036854775807) (v : Value) (w : World) (hv : By w v q) (hT : KTab w) :
  Calls Tryz.prog 17 #[.agg (cS (wordsS H p) (restS p) (cntS n p)).toArray, v] w fun e w' => e = .returned (stV H n (p ++ q)) ∧ Below w.heap.size w w' := by
 obtain ⟨a0, c0, rfl⟩ := hv.len
 have HV : Hid (By w _ q) := hv
 have HT : Hid (KTab w) := hT
 have LP : Hid (∀ x ∈ p, x < 256) := lp
 have LQ : Hid (∀ x ∈ q, x < 256) := lq
 have HN : Hid (n % 64 = 0) := hn
 clear hv hT lp lq hn
 generalize hql : q.length = ql at *
 have HQL : Hid (q.length = ql) := hql
 clear hql
 go_enter Tryz.func17, Tryz.ntmps17
 go_wp2_with (simp only [zero_state])
 go_loopw [1] (fun s1 wr => ∃ i, i ≤ ql ∧ Hid (By w s1 (q.drop i)) ∧ Hid (Blk wr w.heap.size (cS (wordsS H (p ++ q.take i)) (restS (p ++ q.take i)) (cntS n (p ++ q.take i)))) ∧ Hid (Blk wr (w.heap.size + 1) zS) ∧ Hid (Below w.heap.size w wr)) (fun s1 _ => lenV s1)
 case atStart =>
  obtain ⟨x0, x1, x2⟩ := al2 w _ _ _ _
  refine ⟨0, by omega, HV.out, ?_, x1, x2⟩
  simp only [List.take_zero, List.append_nil]
  exact x0
 case round =>
  obtain ⟨i, hi, b1, k0, kz, hb⟩ := hrel
  have TR : Hid (KTab wr) := HT.out.up hb.out HT.out.pos
  have RL : (q.drop i).length = ql - i := by rw [List.length_drop, HQL.out]
  have LR : Hid (∀ x ∈ q.drop i, x < 256) := fun x hx => LQ.out x (List.mem_of_mem_drop hx)
  have LD : Hid (∀ x ∈ p ++ q.take i, x < 256) := fun x hx => (List.mem_append.1 hx).elim (LP.out x) (fun h => LQ.out x (List.mem_of_mem_take h))
  have QT : Hid (∀ m, q.take (i + m) = q.take i ++ (q.drop i).take m) := fun m => List.take_add
  have QD : Hid (∀ m, (q.drop i).drop m = q.drop (i + m)) := fun m => by rw [List.drop_drop]
  obtain ⟨ra, rc, rfl⟩ := b1.out.len
  rw [RL] at b1 ⊢
  generalize hpd : p ++ q.take i = pd at *
  have PD : Hid (∀ m, p ++ q.take (i + m) = pd ++ (q.drop i).take m) := fun m => by rw [QT.out, ← List.append_assoc, hpd]
  have PE : Hid (ql ≤ i → pd = p ++ q) := fun h => by rw [← hpd, List.take_of_length_le (by rw [HQL.out]; exact h)]
  clear hpd QT
  have RL' : Hid ((q.drop i).length = ql - i) := RL
  clear RL
  by_cases hlt : i < ql
  ·generalize q.drop i = r at *
   generalize hrl : ql - i = rl at *
   have rl0 : 0 < rl := by omega
   have c72 := k0.out.cntAt (restS_length pd)
   have cm : Hid (cntS n pd % 64 = pd.length % 64) := cnt_mod n pd HN.out
   generalize hcn : cntS n pd = cn at *
   have CN : Hid (∀ x, (cn + x.length) % 18446744073709551616 = cntS n (pd ++ x)) := fun x => by rw [← hcn, cnt_on]
   clear hcn
   obtain ⟨l, hl⟩ : ∃ l, l = pd.length % 64 := ⟨_, rfl⟩
   have l64 : l < 64 := by omega
   have HL : Hid (pd.length % 64 = l) := hl.symm
   have ml : (cn : Int) % 64 = (l : Int) := by have := cm.out; omega
   clear hl
   have BR : Hid (By wr (.slice ra rl rc) r) := b1.out.up hb.out (Nat.le_refl _)
   have sl := slice_arr u_blk info_u8 .u64 ((cn : Int) % 64) w.heap.size 8 l ml l64
   have SL : Hid _ := sl
   have ML : Hid ((cn : Int) % 64 = (l : Int)) := ml
   clear sl cm ml
   have TH : Hid (wr.there w.heap.size (8 + l) (min r.length (64 - l))) := k0.out.there (by rw [cS_length _ _ _ (restS_length pd)]; omega)
   go_wp2_with (first | (simp only [SL.out]) | (refine wp_copyB rfl (.tmp 13) (.tmp 14) rfl w.heap.size (8 + l) (64 - l) (64 - l) (.slice ra rl rc) r rfl rfl BR.out (by rw [RL'.out]; exact rl0) TH.out ?_))
   intro w2 hw2
   have m0 : (r.take (64 - l)).length = min rl (64 - l) := by rw [List.length_take, RL'.out]; omega
   have K2 : Hid (Blk w2 w.heap.size (cS (wordsS H pd) (laidS pd (r.take (64 - l))) cn)) := by
    rw [hw2.out]
    exact k0.out.lay (by rw [HL.out, m0]; omega) (by rw [HL.out])
   have Z2 : Hid (Blk w2 (w.heap.size + 1) zS) := by
    rw [hw2.out]
    exact kz.out.apart (by omega)
   have B2 : Hid (Below w.heap.size w w2) := by
    rw [hw2.out]
    exact below_setCells _ _ _ hb.out (Nat.le_refl _)
   clear hw2 k0 kz hb TR SL TH BR c72
   have LX : Hid (∀ z ∈ laidS pd (r.take (64 - l)), z < 256) := laidS_low LD.out (fun z hz => LR.out z (List.mem_of_mem_take hz))
   have XL : (laidS pd (r.take (64 - l))).length = 64 := laidS_length _ _ (by rw [HL.out, m0]; omega)
   rw [RL'.out]
   have c72 := K2.out.cntAt XL
   have f72 := K2.out.fz 72
   have CX := CN.out (r.take (64 - l))
   rw [m0] at CX
   have XM : Hid ((r.take (64 - l)).length = min rl (64 - l)) := m0
   generalize hm : min rl (64 - l) = m at *
   have mr : m ≤ rl := by omega
   have CX' : IntKind.u64.wrap ((cn : Int) + (m : Int)) = ((cntS n (pd ++ r.take (64 - l)) : Nat) : Int) := by rw [← CX, IntKind.wrap_u64]; omega
   have RT : Hid (r.take (64 - l) = r.take m) := by
    have : r.take (64 - l) = r.take (min r.length (64 - l)) := by rw [Nat.min_comm, List.take_eq_take_iff]; omega
    rw [this, RL'.out, hm]
    exact rfl
   go_wp2_with (refine wp_cutB rfl (.tmp 16) (.tmp 17) rfl ra rl rc m .i64 _ r rfl RL'.out.symm rfl rfl (by rw [RL'.out]; exact mr) w b1.out ?_)
   intro v3 b3
   rw [QD.out] at b3
   have B3 : Hid (By w v3 (q.drop (i + m))) := b3
   have V3 : Hid (lenV v3 < rl) := by
    obtain ⟨_, _, e⟩ := b3.len
    rw [e]
    show (q.drop (i + m)).length < rl
    rw [List.length_drop, HQL.out]
    omega
   clear b3 b1
   have PM := PD.out m
   rw [← RT.out] at PM
   have PX : Hid (p ++ q.take (i + m) = pd ++ r.take (64 - l)) := PM
   have c2m : cntS n (pd ++ r.take (64 - l)) % 64 = (l + m) % 64 := by rw [cnt_mod n _ HN.out, List.length_append, XM.out]; have := HL.out; omega
   generalize r.take (64 - l) = x at *
   clear PM RT PD LR CX
   generalize hc2 : cntS n (pd ++ x) = c2 at *
   have C2 : Hid (cntS n (pd ++ x) = c2) := hc2
   clear hc2
   have K3 : Hid (Blk (w2.setCell ⟨w.heap.size, 72, none⟩ (.int .u64 (c2 : Int))) w.heap.size (cS (wordsS H pd) (laidS pd x) c2)) := K2.out.cnt XL c2 rfl
   have Z3 : Hid (Blk (w2.setCell ⟨w.heap.size, 72, none⟩ (.int .u64 (c2 : Int))) (w.heap.size + 1) zS) := Z2.out.apart1 (by omega)
   have D3 : Hid (Below w.heap.size w (w2.setCell ⟨w.heap.size, 72, none⟩ (.int .u64 (c2 : Int)))) := B2.out.setCell (Nat.le_refl _) _
   clear K2 Z2 B2 CN PE
   by_cases hfull : 64 - l ≤ rl
   ·have lm : l + m = 64 := by omega
    have t1 : (c2 : Int) % 64 = 0 := by omega
    have LI : Hid _ := info_blk.trans (congrArg some (show 64 = ((laidS pd x).map b8).length by rw [List.length_map, XL]))
    have HXL : Hid _ := XL
    have LW : Hid _ := info_w8.trans (congrArg some (show 8 = ((wordsS H pd).list.map uw).length by simp [R8.list]))
    clear c2m XL
    have FR := full_rest pd x (by rw [HL.out, XM.out]; exact lm)
    have FW := full_words H pd x (by rw [HL.out, XM.out]; exact lm)
    rw [← PX.out] at FR FW C2
    have HFR : Hid _ := FR
    have HFW : Hid _ := FW
    clear FR FW
    generalize wordsS H pd = W at *
    generalize laidS pd x = bs at *
    go_wp2_with (first | refine wpList_load_mid rfl 45 (.tmp 29) rfl w.heap.size 0 rfl (W.list.map uw) _ K3.out.words u_w8 rfl LW.out ?_ | refine wpList_load_mid rfl 30 (.tmp 31) rfl w.heap.size 8 rfl (bs.map b8) _ K3.out.rest u_blk rfl LI.out ?_)
    refine (mix_fun W bs HXL.out LX.out _ (HT.out.up D3.out HT.out.pos)).mono ?_
    rintro e w4 ⟨rfl, hb4⟩
    have K4 : Hid (Blk w4 _ _) := K3.out.up hb4 K3.out.lt
    have Z4 : Hid (Blk w4 _ _) := Z3.out.up hb4 Z3.out.lt
    have D4 : Hid (Below w.heap.size w w4) := D3.out.trans (hb4.mono D3.out.size)
    clear hb4 K3 Z3 D3
    generalize mixS W bs = M at *
    have LM : Hid _ := info_w8.trans (congrArg some (show 8 = (M.list.map uw).length by simp [R8.list]))
    have T4 : Hid (w4.there w.heap.size 0 (M.list.map uw).length) := K4.out.there (by rw [cS_length _ _ _ HXL.out]; simp [R8.list])
    go_wp2_with (refine wp_store_eq rfl 45 (.tmp 34) (.tmp 33) rfl w.heap.size 0 (M.list.map uw) rfl rfl T4.out LM.out (one_uw _ U) ?_)
    intro w5 hw5
    have K5 : Hid (Blk w5 w.heap.size (cS M bs c2)) := by rw [hw5.out]; exact K4.out.setWords _
    have Z5 : Hid (Blk w5 (w.heap.size + 1) zS) := by rw [hw5.out]; exact Z4.out.apart (by omega)
    have D5 : Hid (Below w.heap.size w w5) := by rw [hw5.out]; exact below_setCells _ _ _ D4.out (Nat.le_refl _)
    clear hw5 K4 Z4 D4 LM T4
    obtain ⟨zz, hzz⟩ : ∃ zz, zz = List.replicate 64 0 := ⟨_, rfl⟩
    have ZZ : Hid (zz = List.replicate 64 0) := hzz
    have zl : zz.length = 64 := by rw [hzz]; simp
    have LN : Hid _ := info_blk.trans (congrArg some (show 64 = (zz.map b8).length by rw [List.length_map, zl]))
    have T5 : Hid (w5.there w.heap.size 8 (zz.map b8).length) := K5.out.there (by rw [cS_length _ _ _ HXL.out, List.length_map, zl]; omega)
    rw [← hzz] at HFR
    have ZL : Hid (zz.length = 64) := zl
    clear zl hzz
    go_wp2_with (first | refine wp_buildz rfl rfl zz ZZ.out ?_ | refine wp_store_eq rfl 30 (.tmp 36) (.tmp 35) rfl w.heap.size 8 (zz.map b8) rfl rfl T5.out LN.out (one_b8 _) ?_)
    intro w6 hw6
    have K6 : Hid (Blk w6 w.heap.size (cS M zz c2)) := by rw [hw6.out]; exact K5.out.setRest _ (by rw [HXL.out, ZL.out])
    have Z6 : Hid (Blk w6 (w.heap.size + 1) zS) := by rw [hw6.out]; exact Z5.out.apart (by omega)
    have D6 : Hid (Below w.heap.size w w6) := by rw [hw6.out]; exact below_setCells _ _ _ D5.out (Nat.le_refl _)
    clear hw6 K5 Z5 D5 LN T5
    go_wp2_with fail
    go_roundw
    case rel => exact ⟨i + m, by omega, B3, by rw [HFR.out, HFW.out, C2.out]; exact K6, Z6, D6⟩
    case measure => exact V3.out
   ·have t1 : ¬ (c2 : Int) % 64 = 0 := by omega
    have t2 : ((c2 : Int) % 64 == 0) = false := by simpa using t1
    have FR := on_rest pd x (by rw [HL.out, XM.out]; omega)
    have FW := on_words H pd x (by rw [HL.out, XM.out]; omega)
    rw [← PX.out] at FR FW C2
    have HFR : Hid _ := FR
    have HFW : Hid _ := FW
    clear FR FW XL c2m
    go_wp2_with fail
    go_roundw
    case rel => exact ⟨i + m, by omega, B3, by rw [HFR.out, HFW.out, C2.out]; exact K3, Z3, D3⟩
    case measure => exact V3.out
  ·obtain rfl : i = ql := by omega
   clear hlt hi
   have pe := PE.out (Nat.le_refl _)
   subst pe
   have I1 : Hid _ := info_state.trans (congrArg some (cS_length (wordsS H (p ++ q)) (restS (p ++ q)) (cntS n (p ++ q)) (restS_length _)).symm)
   obtain ⟨ds, hu, hr⟩ := u_state'
   have T1 : Hid (wr.there (w.heap.size + 1) 0 (cS (wordsS H (p ++ q)) (restS (p ++ q)) (cntS n (p ++ q))).length) := kz.out.there (by rw [cS_length _ _ _ (restS_length _), zS_length]; omega)
   go_wp2_with (first | refine wpList_load_mid rfl 47 (.tmp 2) rfl w.heap.size 0 rfl (cS (wordsS H (p ++ q)) (restS (p ++ q)) (cntS n (p ++ q))) _ k0.out.all hu hr I1.out ?_ | refine wp_store_eq rfl 47 (.tmp 4) (.tmp 37) rfl (w.heap.size + 1) 0 (cS (wordsS H (p ++ q)) (restS (p ++ q)) (cntS n (p ++ q))) rfl rfl T1.out I1.out (one_cS _ _ _) ?_)
   intro w2 hw2
   go_wp2_with fail
   refine bodyPost_ret (v := stV H n (p ++ q)) ?_ rfl ⟨rfl, ?_⟩
   ·rw [hw2.out]
    exact results_cell (b := w.heap.size + 1) rfl rfl (World.rangeAt_setCells_same _ _ _ _ T1.out) hu hr I1.out
   ·rw [hw2.out]
    exact below_setCells _ _ _ hb.out (by omega)
end Go.Proofs.YtfknkfninjjgbaaGreatDoor
