/- Texts that were joined: BsMk, HPad, HCut, HSt, SGet, HRd. -/
import Derived.Test.YtdcpicbkemmakaaDoorQBKToHB
import Derived.Deep.RegionLaw
import Derived.Test.YtdcpicbkemmakaaDoorQUpToHMix
/- Rows of bytes that a call makes by make: their cells, and a store into one. -/
namespace Go.Proofs.YtdcpicbkemmakaaDoor
open Go.RowKit
theorem made_zerosB (n : Nat) : (madeCells (Value.int .u8 0).cells (n * 1)).toList = (List.replicate n 0).map b8 := by
  refine List.ext_getElem (by simp [madeCells]) fun i h1 h2 => ?_
  simp [madeCells, Value.cells, Nat.mod_one]
theorem Ob.cell {w : World} {B g n c : Nat} {xs : List Nat} (h : Ob w B (.slice (some ⟨g, 0, none⟩) n c) xs) (hn : n = xs.length) (j : Nat) (hj : j < xs.length) : w.cell? ⟨g, j, none⟩ = some (.int .u8 ((xs.getD j 0 : Nat) : Int)) ∧ w.frozen? ⟨g, j, none⟩ = false := by
  subst hn
  have h2 : w.ownsRow B 5 1 (.slice (some ⟨g, 0, none⟩) xs.length c) xs.length (xs.map b8) := h
  refine ⟨?_, h2.frozenAt j⟩
  rw [h2.cellAt j (by omega)]
  simp [hj, b8]
theorem Ob.setAt {w : World} {B g n c : Nat} {xs : List Nat} (h : Ob w B (.slice (some ⟨g, 0, none⟩) n c) xs) (hn : n = xs.length) (hg : B ≤ g) (j y : Nat) (z : Int) (hz : z = ((y : Nat) : Int)) : Ob (w.setCell ⟨g, j, none⟩ (.int .u8 z)) B (.slice (some ⟨g, 0, none⟩) n c) (xs.set j y) ∧ Below B w (w.setCell ⟨g, j, none⟩ (.int .u8 z)) := by
  subst hn hz
  have h2 : w.ownsRow B 5 1 (.slice (some ⟨g, 0, none⟩) xs.length c) xs.length (xs.map b8) := h
  refine ⟨?_, (Below.refl _ _).setCell hg _⟩
  have := (h2.stored j (b8 y)).1
  unfold Ob
  rw [List.length_set, List.map_set]
  exact this
end Go.Proofs.YtdcpicbkemmakaaDoor

/- The contract of hash.Pad: what stands behind n bytes. -/
namespace Go.Proofs.YtdcpicbkemmakaaDoor
open Go.RowKit
set_option linter.unusedSimpArgs false
theorem wp_mkB64 {ops : Array Oper} {rest : List Oper} {o : Oper} {a : Act} {Q : Exit → Act → World → Prop} {w : World} (hg : o.guard = none) (l c : Operand) (hop : o.op = Op.makeSlice 25 l c)
    (B n : Nat) (L C : Int) (hl : a.eval l = .int .u64 L) (hc : a.eval c = .int .u64 C) (hL : L = (n : Int)) (hC : C = (n : Int)) (hn : n ≤ 281474976710656) (hB : B ≤ w.heap.size)
    (h : ∀ w', Ob w' B (.slice (some ⟨w.heap.size, 0, none⟩) n n) (List.replicate n 0) → Below B w w' → wpList Tryd.prog ops Q rest (a.put o.dst (.slice (some ⟨w.heap.size, 0, none⟩) n n)) w') : wpList Tryd.prog ops Q (o :: rest) a w := by
  obtain ⟨i0, hi, hz0, hz1, hz2⟩ := info_parts Tryd.iU8
  refine wpList_make_full w hg l c 25 hop B 5 i0 (.int .u8 0) 1 Tryd.uBytes hi hz0 hz1 .u64 .u64 L C n hl hc hL hC (by rw [hz2]; omega) (by unfold maxLen; omega) hB ?_
  intro w' r1 r2
  refine h w' ?_ (Below.grown (Below.refl _ _) r2 hB (fun k hk => by cases hk))
  unfold Ob
  rw [← made_zerosB, List.length_replicate]
  exact r1
/-- How many bytes 0 are lacking. -/
def padZ (n : Nat) : Nat := (64 - (n + 9) % 64) % 64
/-- A pad with z bytes 0, of whose last eight the last k are in. -/
def padF (X z k : Nat) : List Nat := (List.range (z + 9)).map fun j => if j = 0 then 128 else if z + 9 ≤ j + k then X / 256 ^ (z + 8 - j) % 256 else 0
def padS (n : Nat) : List Nat := padF (8 * n % 18446744073709551616) (padZ n) 8
theorem padF_length (X z k : Nat) : (padF X z k).length = z + 9 := by simp [padF]
theorem padS_length (n : Nat) : (padS n).length = padZ n + 9 := padF_length _ _ _
theorem padZ_lt (n : Nat) : padZ n < 64 := Nat.mod_lt _ (by decide)
theorem padS_fills (n : Nat) : (n + (padS n).length) % 64 = 0 := by
  rw [padS_length]; unfold padZ; omega
theorem padF_set (X z k : Nat) (hk : k < 8) : (padF X z k).set (z + 8 - k) (X / 256 ^ k % 256) = padF X z (k + 1) := by
  apply List.ext_getElem?
  intro j
  rw [List.getElem?_set]
  simp only [padF_length]
  by_cases hj : j < z + 9
  · have g := fun k => (by simp [padF, hj] : (padF X z k)[j]? = some (if j = 0 then 128 else if z + 9 ≤ j + k then X / 256 ^ (z + 8 - j) % 256 else 0))
    rw [g, g]
    by_cases e : z + 8 - k = j
    · rw [if_pos e, if_pos (by omega), if_neg (by omega), if_pos (by omega), show z + 8 - j = k by omega]
    · rw [if_neg e]
      by_cases h0 : j = 0
      · rw [if_pos h0, if_pos h0]
      · rw [if_neg h0, if_neg h0]
        by_cases h1 : z + 9 ≤ j + k
        · rw [if_pos h1, if_pos (by omega)]
        · rw [if_neg h1, if_neg (by omega)]
  · rw [List.getElem?_eq_none (by rw [padF_length]; omega), List.getElem?_eq_none (by rw [padF_length]; omega)]
    split <;> simp
    omega
theorem padF_zero (X z : Nat) : (List.replicate (z + 9) 0).set 0 128 = padF X z 0 := by
  apply List.ext_getElem?
  intro j
  rw [List.getElem?_set]
  by_cases hj : j < z + 9
  · simp [padF, hj]
    by_cases h0 : j = 0
    · simp [h0]
    · have : ¬ 0 = j := fun e => h0 e.symm
      simp [h0, this]
      intro h; omega
  · rw [List.getElem?_eq_none (l := padF X z 0) (by rw [padF_length]; omega), if_neg (by omega)]
    simp; omega
theorem padS_low (n : Nat) : ∀ x ∈ padS n, x < 256 := by
  intro x hx
  simp only [padS, padF, List.mem_map, List.mem_range] at hx
  obtain ⟨j, _, rfl⟩ := hx
  split
  · omega
  · split
    · exact Nat.mod_lt _ (by decide)
    · omega
theorem padZ_wrap (n : Nat) : IntKind.u64.wrap (9 + (IntKind.u64.wrap (-(IntKind.u64.wrap ((n : Int) + 9)))).tmod 64) = ((padZ n + 9 : Nat) : Int) := by
  have e : IntKind.u64.wrap (-(IntKind.u64.wrap ((n : Int) + 9))) = (-((n : Int) + 9)) % 18446744073709551616 := by
    simp only [IntKind.wrap, IntKind.bits, IntKind.signed]
    simp
    omega
  rw [e, Int.tmod_eq_emod_of_nonneg (by omega)]
  unfold padZ
  simp only [IntKind.wrap, IntKind.bits, IntKind.signed]
  simp
  omega
theorem bits_wrap (n : Nat) : IntKind.u64.wrap (8 * (n : Int)) = ((8 * n % 18446744073709551616 : Nat) : Int) := by
  simp only [IntKind.wrap, IntKind.bits, IntKind.signed]
  simp
theorem pow8 (k : Nat) : 2 ^ (8 * k) = 256 ^ k := by rw [Nat.pow_mul]
set_option maxRecDepth 20000 in
set_option maxHeartbeats 2000000 in
theorem pad_fun (n : Nat) (w : World) :
    Calls Tryd.prog 93 #[.int .u64 n] w fun e w' => (∃ v, e = .returned v ∧ Ob w' w.heap.size v (padS n)) ∧ Below w.heap.size w w' := by
  have PZ : Hid _ := padZ_wrap n
  have BW : Hid _ := bits_wrap n
  have PS : Hid (padS n = padF (8 * n % 18446744073709551616) (padZ n) 8) := rfl
  have z1 := padZ_lt n
  have X1 : 8 * n % 18446744073709551616 < 18446744073709551616 := Nat.mod_lt _ (by decide)
  generalize padZ n = z at *
  generalize 8 * n % 18446744073709551616 = X at *
  go_enter Tryd.func93, Tryd.ntmps93
  go_wp2_with (refine wp_mkB64 rfl (.tmp 12) (.tmp 12) rfl w.heap.size (z + 9) _ _ rfl rfl PZ.out PZ.out (by omega) (Nat.le_refl _) ?_)
  intro w1 ob1 hb1
  obtain ⟨c0, f0⟩ := ob1.cell (by simp) 0 (by simp)
  have O1 : Hid (Ob w1 _ _ _) := ob1
  have B1 : Hid (Below _ w w1) := hb1
  clear ob1 hb1
  go_wp2_with fail
  have A0 := O1.out.setAt (by simp) (Nat.le_refl _) 0 128 128 rfl
  rw [padF_zero X z] at A0
  rw [BW.out]
  go_loopw [18] (fun i wr => ∃ k : Nat, k ≤ 8 ∧ i = .int .i64 k ∧ Hid (Ob wr w.heap.size (.slice (some ⟨w.heap.size, 0, none⟩) (z + 9) (z + 9)) (padF X z k)) ∧ Hid (Below w.heap.size w wr)) (fun i _ => 8 - (intOf i).toNat)
  case atStart => exact ⟨0, by omega, rfl, A0.1, B1.out.trans A0.2⟩
  case round =>
    clear A0
    obtain ⟨k, hk, rfl, ob, hb⟩ := hrel
    by_cases hlt : k < 8
    · have e1 : ((z + 9 : Nat) : Int) - 1 - (k : Int) = ((z + 8 - k : Nat) : Int) := by omega
      obtain ⟨c1, f1⟩ := ob.out.cell (by rw [padF_length]) (z + 8 - k) (by rw [padF_length]; omega)
      have A1 := ob.out.setAt (by rw [padF_length]) (Nat.le_refl _) (z + 8 - k) (X / 256 ^ k % 256) ((X : Int) / 2 ^ (8 * k) % 256) (by rw [show (2 : Int) ^ (8 * k) = ((256 ^ k : Nat) : Int) by rw [← pow8]; simp]; omega)
      rw [padF_set X z k hlt] at A1
      go_wp2_with fail
      go_roundw
      case rel => exact ⟨k + 1, by omega, by go_num, A1.1, hb.out.trans A1.2⟩
      case measure => simp [intOf]; omega
    · obtain rfl : k = 8 := by omega
      go_wp2_with fail
      go_ret
      exact ⟨⟨_, rfl, by rw [PS.out]; exact ob.out⟩, hb.out⟩
end Go.Proofs.YtdcpicbkemmakaaDoor

/- How a slice of bytes is cut. -/
namespace Go.Proofs.YtdcpicbkemmakaaDoor
open Go.RowKit
set_option linter.unusedSimpArgs false
theorem cinfo_u8 : (Tryd.prog.info? 5).map (·.size) = some 1 := by kernel_rfl
theorem By.len {w : World} {v : Value} {xs : List Nat} (h : By w v xs) : ∃ a c, v = .slice a xs.length c := by
  obtain ⟨a, c, e, _⟩ := h
  exact ⟨a, c, e⟩
theorem slice_elem : Tryd.prog.underlying 25 = some (.slice (Tryd.prog.elem 25)) := by kernel_rfl
theorem elem_bytes : Tryd.prog.elem 25 = 5 := by kernel_rfl
theorem size_u8 (w : World) : (sizeOf 5).run Tryd.prog w = .ok 1 w := by
  cases hq : Tryd.prog.info? 5 with
  | none => have := cinfo_u8; simp [hq] at this
  | some i =>
    have hi : i.size = 1 := by simpa [hq] using cinfo_u8
    simp [sizeOf, typeInfo, hq, hi]
/-- What is left behind the first n. -/
theorem By.cut {w : World} {a : Option Addr} {c n : Nat} {xs : List Nat} (h : By w (.slice a xs.length c) xs) (hn : n ≤ xs.length) : By w (sliced a n xs.length c 1) (xs.drop n) := by
  obtain ⟨a', c', e, h1, h2, h3⟩ := h
  cases e
  have hl : (xs.drop n).length = xs.length - n := List.length_drop
  refine ⟨if c = n then a else a.map (·.add (n * 1)), c - n, by rw [hl, sliced], by omega, fun h => ?_, fun hp => ?_⟩
  · by_cases hc : c = n
    · omega
    · rw [if_neg hc] at h
      have := h2 (by simpa using h)
      omega
  · obtain ⟨b, o, e, hc⟩ := h3 (by omega)
    subst e
    refine ⟨b, o + n, ?_, fun j hj => ?_⟩
    · rw [if_neg (by omega), Nat.mul_one]
      simp [Addr.add_lit]
    · have := hc (n + j) (by omega)
      rw [Nat.add_assoc, this]
      simp [List.getD_eq_getElem?_getD]
theorem By.front {w : World} {a : Option Addr} {c n : Nat} {xs : List Nat} (h : By w (.slice a xs.length c) xs) (hn : n ≤ xs.length) : By w (sliced a 0 n c 1) (xs.take n) := by
  obtain ⟨a', c', e, h1, h2, h3⟩ := h
  cases e
  have hl : (xs.take n).length = n := by rw [List.length_take]; omega
  refine ⟨a, c, ?_, by omega, h2, fun hp => ?_⟩
  · rw [hl, sliced]
    cases a with
    | none => simp
    | some a => simp [Addr.add_zero']
  · obtain ⟨b, o, e, hc⟩ := h3 (by omega)
    refine ⟨b, o, e, fun j hj => ?_⟩
    rw [hc j (by omega)]
    congr 2
    simp [List.getD_eq_getElem?_getD, List.getElem?_take, show j < n by omega]
theorem wp_cutB {ops : Array Oper} {rest : List Oper} {o : Oper} {act : Act} {Q : Exit → Act → World → Prop} {w : World} (hgd : o.guard = none) (x l : Operand)
    (ho : o.op = .slice 25 x (some l) none none) (a : Option Addr) (m c n : Nat) (k : IntKind) (z : Int) (xs : List Nat) (hx : act.eval x = .slice a m c) (hm : m = xs.length) (hl : act.eval l = .int k z) (hz : z = (n : Int)) (hn : n ≤ xs.length) (W0 : World) (hb : By W0 (.slice a m c) xs)
    (h : ∀ v', By W0 v' (xs.drop n) → wpList Tryd.prog ops Q rest (act.put o.dst v') w) : wpList Tryd.prog ops Q (o :: rest) act w := by
  subst hm hz
  refine wpList_plain hgd fun K hK2 => ?_
  have e : (Instr.sliceAt 25 (.slice a xs.length c) (some (.int k (n : Int))) none none).run Tryd.prog w = .ok (sliced a n xs.length c 1) w := by
    rw [run_sliceAt_slice (h := slice_elem), run_slice_l (ht := slice_elem) (h0 := by omega) (h1 := by omega), elem_bytes, size_u8]
    simp
  unfold Oper.wp
  simp [execOp, ho, hx, hl, e, Result.andThen]
  exact hK2 _ _ (h _ (hb.cut hn))
end Go.Proofs.YtdcpicbkemmakaaDoor

/- States of a digest: what a state of a text is; how a slice is cut, and how bytes are copied into a row. -/
namespace Go.Proofs.YtdcpicbkemmakaaDoor
open Go.RowKit
set_option linter.unusedSimpArgs false
/-- copy of bytes into a range that may be written. -/
theorem wp_copyB {ops : Array Oper} {rest : List Oper} {o : Oper} {act : Act} {Q : Exit → Act → World → Prop} {w : World} (hgd : o.guard = none) (d s : Operand)
    (ho : o.op = .call { callee := .builtin .copy, args := #[d, s], argTypes := #[25, 25] }) (b f dl dc : Nat) (u : Value) (xs : List Nat) (hd : act.eval d = .slice (some ⟨b, f, none⟩) dl dc) (hs : act.eval s = u) (hb : By w u xs) (hp : 0 < xs.length)
    (ht : w.there b f (min xs.length dl))
    (h : ∀ w2, Hid (w2 = w.setCells b f ((xs.take dl).map b8)) → wpList Tryd.prog ops Q rest (act.put o.dst (.int .i64 ((min xs.length dl : Nat) : Int))) w2) : wpList Tryd.prog ops Q (o :: rest) act w := by
  obtain ⟨a, c, rfl, h1, h2, h3⟩ := hb
  obtain ⟨g, q, rfl, hc⟩ := h3 hp
  refine wpList_plain hgd fun K hK => ?_
  have hlen : ((xs.take dl).map b8).length = min xs.length dl := by simp [Nat.min_comm]
  have hrun := run_copy_cells (P := Tryd.prog) w 25 25 o.type 5 b f dl dc ⟨g, q, none⟩ xs.length c ((xs.take dl).map b8) Tryd.uBytes info_u8 hlen
    (fun j v hj => by
      rw [List.getElem?_map, List.getElem?_take] at hj
      split at hj
      · rcases Nat.lt_or_ge j xs.length with h | h
        · rw [Addr.add_lit, hc j h]
          simp [List.getD_eq_getElem?_getD, h] at hj ⊢
          exact hj
        · simp [List.getElem?_eq_none h] at hj
      · simp at hj)
    (fun j hj => (ht j (by omega)).1) (fun j hj => (ht j (by omega)).2) (one_b8 _)
  rw [hlen] at hrun
  unfold Oper.wp
  simp [execOp, ho, resolve, invoke, builtin, hd, hs, hrun, Result.andThen]
  exact hK _ _ (h _ (by rw [List.map_take]; exact rfl))
/-- The cells of a state. -/
def cS (H : R8) (R : List Nat) (c : Nat) : List Value := H.list.map uw ++ (R.map b8 ++ [.int .u64 (c : Int)])
def vS (H : R8) (R : List Nat) (c : Nat) : Value := .agg (cS H R c).toArray
/-- The bytes behind the last whole block, and then 0. -/
def restS (p : List Nat) : List Nat := p.drop (64 * (p.length / 64)) ++ List.replicate (64 - p.length % 64) 0
def wordsS (H : R8) (p : List Nat) : R8 := absN H (p.length / 64) p
def cntS (n : Nat) (p : List Nat) : Nat := (n + p.length) % 18446744073709551616
/-- The state of a text p behind n bytes whose words are H. -/
def stV (H : R8) (n : Nat) (p : List Nat) : Value := vS (wordsS H p) (restS p) (cntS n p)
theorem restS_length (p : List Nat) : (restS p).length = 64 := by
  unfold restS
  rw [List.length_append, List.length_drop, List.length_replicate]
  omega
theorem cS_length (H : R8) (R : List Nat) (c : Nat) (h : R.length = 64) : (cS H R c).length = 73 := by
  simp [cS, R8.list, h]
theorem cnt_mod (n : Nat) (p : List Nat) (h : n % 64 = 0) : cntS n p % 64 = p.length % 64 := by unfold cntS; omega
/-- The bytes behind the last whole block, and how many bytes 0 stand behind them. -/
theorem restS_eq (p : List Nat) : ∃ t, t.length = p.length % 64 ∧ t = p.drop (64 * (p.length / 64)) ∧ restS p = t ++ List.replicate (64 - p.length % 64) 0 :=
  ⟨_, by rw [List.length_drop]; omega, rfl, rfl⟩
/-- x laid into the rest behind p's own bytes. -/
def laidS (p x : List Nat) : List Nat := p.drop (64 * (p.length / 64)) ++ (x ++ List.replicate (64 - p.length % 64 - x.length) 0)
theorem laidS_length (p x : List Nat) (h : p.length % 64 + x.length ≤ 64) : (laidS p x).length = 64 := by
  unfold laidS
  rw [List.length_append, List.length_append, List.length_drop, List.length_replicate]
  omega
theorem laidS_low {p x : List Nat} (h : ∀ z ∈ p, z < 256) (hx : ∀ z ∈ x, z < 256) : ∀ z ∈ laidS p x, z < 256 := by
  intro z hz
  rcases List.mem_append.1 hz with h1 | h1
  · exact h z (List.mem_of_mem_drop h1)
  · rcases List.mem_append.1 h1 with h2 | h2
    · exact hx z h2
    · rw [(List.mem_replicate.1 h2).2]; decide
/-- Not yet a whole block. -/
theorem on_rest (p x : List Nat) (h : p.length % 64 + x.length < 64) : restS (p ++ x) = laidS p x := by
  unfold restS laidS
  rw [List.length_append, show (p.length + x.length) / 64 = p.length / 64 by omega, List.drop_append_of_le_length (by omega), show 64 - (p.length + x.length) % 64 = 64 - p.length % 64 - x.length by omega, List.append_assoc]
theorem on_words (H : R8) (p x : List Nat) (h : p.length % 64 + x.length < 64) : wordsS H (p ++ x) = wordsS H p := by
  unfold wordsS
  rw [List.length_append, show (p.length + x.length) / 64 = p.length / 64 by omega, absN_front _ _ _ _ (by omega)]
/-- A whole block. -/
theorem full_rest (p x : List Nat) (h : p.length % 64 + x.length = 64) : restS (p ++ x) = List.replicate 64 0 := by
  unfold restS
  rw [List.drop_eq_nil_of_le (by rw [List.length_append]; omega), List.length_append, show (p.length + x.length) % 64 = 0 by omega]
  rfl
theorem full_words (H : R8) (p x : List Nat) (h : p.length % 64 + x.length = 64) : wordsS H (p ++ x) = mixS (wordsS H p) (laidS p x) := by
  unfold wordsS laidS
  rw [List.length_append, show (p.length + x.length) / 64 = p.length / 64 + 1 by omega, absN_add, absN_front _ _ _ _ (by omega), List.drop_append_of_le_length (by omega), show 64 - p.length % 64 - x.length = 0 by omega]
  simp only [absN, List.replicate_zero, List.append_nil]
  rw [List.take_of_length_le (by rw [List.length_append, List.length_drop]; omega)]
theorem cnt_on (n : Nat) (p x : List Nat) : (cntS n p + x.length) % 18446744073709551616 = cntS n (p ++ x) := by
  unfold cntS
  rw [List.length_append]
  omega
theorem Blk.lay {w : World} {k : Nat} {W : R8} {p x : List Nat} {c : Nat} (h : Blk w k (cS W (restS p) c)) (hx : p.length % 64 + x.length ≤ 64) {o : Nat} (ho : o = 8 + p.length % 64) : Blk (w.setCells k o (x.map b8)) k (cS W (laidS p x) c) := by
  obtain ⟨t, ht, e1, e2⟩ := restS_eq p
  have ea : cS W (restS p) c = (W.list.map uw ++ t.map b8) ++ ((List.replicate x.length 0).map b8 ++ ((List.replicate (64 - p.length % 64 - x.length) 0).map b8 ++ [.int .u64 (c : Int)])) := by
    have er : List.replicate (64 - p.length % 64) 0 = List.replicate x.length 0 ++ List.replicate (64 - p.length % 64 - x.length) 0 := by
      rw [List.replicate_append_replicate]
      congr 1
      omega
    rw [cS, e2, er, List.map_append, List.map_append]
    simp only [List.append_assoc]
  have eb : cS W (laidS p x) c = (W.list.map uw ++ t.map b8) ++ (x.map b8 ++ ((List.replicate (64 - p.length % 64 - x.length) 0).map b8 ++ [.int .u64 (c : Int)])) := by
    rw [cS, laidS, ← e1, List.map_append, List.map_append]
    simp only [List.append_assoc]
  rw [ea] at h
  rw [eb]
  exact h.store (by rw [ho]; simp [R8.list, ht]; omega) (by simp)
theorem Blk.cnt {w : World} {k : Nat} {W : R8} {R : List Nat} {c : Nat} (h : Blk w k (cS W R c)) (hR : R.length = 64) (c' : Nat) {z : Int} (hz : z = (c' : Int)) : Blk (w.setCell ⟨k, 72, none⟩ (.int .u64 z)) k (cS W R c') := by
  subst hz
  have h' : Blk w k ((W.list.map uw ++ R.map b8) ++ ([.int .u64 (c : Int)] ++ [])) := by
    have e : (W.list.map uw ++ R.map b8) ++ ([.int .u64 (c : Int)] ++ []) = cS W R c := by simp [cS]
    rw [e]; exact h
  have := h'.store (o := 72) (b' := [.int .u64 (c' : Int)]) (by simp [R8.list, hR]) rfl
  have e : (W.list.map uw ++ R.map b8) ++ ([.int .u64 (c' : Int)] ++ []) = cS W R c' := by simp [cS]
  rw [e] at this
  exact this
theorem Blk.cntAt {w : World} {k : Nat} {W : R8} {R : List Nat} {c : Nat} (h : Blk w k (cS W R c)) (hR : R.length = 64) : w.cell? ⟨k, 72, none⟩ = some (.int .u64 (c : Int)) :=
  h.cell 72 _ (by rw [cS, ← List.append_assoc, List.getElem?_append_right (by simp [R8.list, hR])]; simp [R8.list, hR])
theorem Blk.words {w : World} {k : Nat} {W : R8} {R : List Nat} {c : Nat} (h : Blk w k (cS W R c)) : w.rangeAt k 0 (W.list.map uw) :=
  Blk.range (a := []) (b := W.list.map uw) (c := R.map b8 ++ [.int .u64 (c : Int)]) h rfl
theorem Blk.rest {w : World} {k : Nat} {W : R8} {R : List Nat} {c : Nat} (h : Blk w k (cS W R c)) : w.rangeAt k 8 (R.map b8) :=
  Blk.range (a := W.list.map uw) (b := R.map b8) (c := [.int .u64 (c : Int)]) h (by simp [R8.list])
theorem Blk.setWords {w : World} {k : Nat} {W : R8} {R : List Nat} {c : Nat} (h : Blk w k (cS W R c)) (W' : R8) : Blk (w.setCells k 0 (W'.list.map uw)) k (cS W' R c) :=
  Blk.store (a := []) (b := W.list.map uw) (c := R.map b8 ++ [.int .u64 (c : Int)]) h rfl (by simp [R8.list])
theorem Blk.setRest {w : World} {k : Nat} {W : R8} {R : List Nat} {c : Nat} (h : Blk w k (cS W R c)) (R' : List Nat) (hl : R'.length = R.length) : Blk (w.setCells k 8 (R'.map b8)) k (cS W R' c) :=
  Blk.store (a := W.list.map uw) (b := R.map b8) (c := [.int .u64 (c : Int)]) h (by simp [R8.list]) (by simpa using hl)
theorem one_cS (W : R8) (R : List Nat) (c : Nat) : ∀ v ∈ cS W R c, v.oneCell' = true := by
  intro v hv
  rcases List.mem_append.1 hv with h | h
  · exact one_uw _ U v h
  · rcases List.mem_append.1 h with h | h
    · exact one_b8 _ v h
    · rw [List.mem_singleton.1 h]; rfl
def R0 : R8 := ⟨0, 0, 0, 0, 0, 0, 0, 0⟩
/-- The cells of a state of nothing but 0. -/
def zS : List Value := cS R0 (List.replicate 64 0) 0
theorem zS_length : zS.length = 73 := cS_length _ _ _ (by simp)
theorem info_zero : (Tryd.prog.info? 102).map (·.zero) = some (some (.agg zS.toArray)) := by kernel_rfl
theorem zero_state (w : World) : (zeroValue 102).run Tryd.prog w = .ok (.agg zS.toArray) w := by
  have := info_zero
  cases h : Tryd.prog.info? 102 with
  | none => simp [h] at this
  | some d =>
    have hz : d.zero = some (.agg zS.toArray) := by simpa [h] using this
    simp [zeroValue, typeInfo, h, hz]
theorem info_state : (Tryd.prog.info? 102).map (·.size) = some 73 := by kernel_rfl
theorem info_w8 : (Tryd.prog.info? 99).map (·.size) = some 8 := by kernel_rfl
theorem u_w8 : Tryd.prog.underlying 99 = some (.array 8 98) := by kernel_rfl
theorem u_state : (Tryd.prog.underlying 102).map TypeDesc.isRow = some true := by kernel_rfl
theorem u_state' : ∃ d, Tryd.prog.underlying 102 = some d ∧ d.isRow = true := by
  have := u_state
  cases h : Tryd.prog.underlying 102 with
  | none => simp [h] at this
  | some d => exact ⟨d, rfl, by simpa [h] using this⟩
theorem built_blk : Tryd.prog.built 100 [] = some ((List.replicate 64 0).map b8).toArray := by kernel_rfl
/-- A block of bytes 0 that is built. -/
theorem wp_buildz {ops : Array Oper} {rest : List Oper} {o : Oper} {act : Act} {Q : Exit → Act → World → Prop} {w : World} (hgd : o.guard = none) (ho : o.op = .build 100 #[]) (zz : List Nat) (hz : Hid (zz = List.replicate 64 0))
    (h : wpList Tryd.prog ops Q rest (act.put o.dst (vB zz)) w) : wpList Tryd.prog ops Q (o :: rest) act w := by
  have hz := hz.out
  subst hz
  refine wpList_plain hgd fun K hK => ?_
  have e : (Instr.build 100 ((#[] : Array (Nat × Operand)).map fun x => (x.fst, act.eval x.snd))).run Tryd.prog w = .ok (vB (List.replicate 64 0)) w := run_build (P := Tryd.prog) w 100 _ _ (by simpa using built_blk)
  unfold Oper.wp
  simp only [execOp, ho, Sem.run_bind, e, Result.andThen_ok, Sem.run_pure]
  exact hK _ _ h
end Go.Proofs.YtdcpicbkemmakaaDoor

/- The bytes of a text. -/
namespace Go.Proofs.YtdcpicbkemmakaaDoor
theorem sOf_get {b : List Nat} (low : ∀ x ∈ b, x < 256) (j : Nat) (h : j < (sOf b).size) : ((sOf b)[j]'h).toNat = b.getD j 0 := by
  have hj : j < b.length := by rw [sOf_size] at h; exact h
  have e : (sOf b)[j]'h = UInt8.ofNat b[j] := by
    simp [sOf, ByteArray.getElem_eq_getElem_data]
  rw [e, UInt8.toNat_ofNat', Nat.mod_eq_of_lt (low _ (List.getElem_mem hj)), List.getD_eq_getElem?_getD, List.getElem?_eq_getElem hj]
  rfl
end Go.Proofs.YtdcpicbkemmakaaDoor

/- Slices of words of 32 bits: what one holds; rows of such that a call made. -/
namespace Go.Proofs.YtdcpicbkemmakaaDoor
open Go.RowKit
set_option linter.unusedSimpArgs false
theorem uU32s : Tryd.prog.underlying 124 = some (.slice 98) := by kernel_rfl
theorem iU32 : (Tryd.prog.info? 98).map (fun i => (i.zero, i.size, i.bytes)) = some (some (.int .u32 0), 1, 4) := by kernel_rfl
/-- The slice v holds the words ws. -/
def Wy (w : World) (v : Value) (ws : List (BitVec 32)) : Prop :=
  ∃ a c, v = .slice a ws.length c ∧ (0 < ws.length → ∃ b o, a = some ⟨b, o, none⟩ ∧ ∀ j, j < ws.length → w.cell? ⟨b, o + j, none⟩ = some (uw (ws.getD j 0)))
theorem Wy.up {W w1 : World} {v : Value} {xs : List (BitVec 32)} {B : Nat} (h : Wy W v xs) (hb : Below B W w1) (hB : W.heap.size ≤ B) : Wy w1 v xs := by
  obtain ⟨a, c, e, h3⟩ := h
  refine ⟨a, c, e, fun hp => ?_⟩
  obtain ⟨b, o, e2, hc⟩ := h3 hp
  exact ⟨b, o, e2, fun j hj => (hb.cell (p := ⟨b, o + j, none⟩) (Nat.lt_of_lt_of_le (lt_of_cellB (hc j hj)) hB)).trans (hc j hj)⟩
/-- Eight words in a slice: where they lie. -/
theorem Wy.eight {w : World} {v : Value} {H : R8} (h : Wy w v H.list) : ∃ b o c, v = .slice (some ⟨b, o, none⟩) 8 c ∧ w.cell? ⟨b, o, none⟩ = some (uw H.a) ∧ w.cell? ⟨b, o + 1, none⟩ = some (uw H.b) ∧ w.cell? ⟨b, o + 2, none⟩ = some (uw H.c) ∧ w.cell? ⟨b, o + 3, none⟩ = some (uw H.d) ∧ w.cell? ⟨b, o + 4, none⟩ = some (uw H.e) ∧ w.cell? ⟨b, o + 5, none⟩ = some (uw H.f) ∧ w.cell? ⟨b, o + 6, none⟩ = some (uw H.g) ∧ w.cell? ⟨b, o + 7, none⟩ = some (uw H.h) := by
  obtain ⟨a, c, rfl, h3⟩ := h
  obtain ⟨b, o, rfl, hc⟩ := h3 (by simp [R8.list])
  exact ⟨b, o, c, rfl, hc 0 (by simp [R8.list]), hc 1 (by simp [R8.list]), hc 2 (by simp [R8.list]), hc 3 (by simp [R8.list]), hc 4 (by simp [R8.list]), hc 5 (by simp [R8.list]), hc 6 (by simp [R8.list]), hc 7 (by simp [R8.list])⟩
theorem Wy.of_blk {w : World} {k : Nat} {ws : List (BitVec 32)} (h : Blk w k (ws.map uw)) {c : Nat} : Wy w (.slice (some ⟨k, 0, none⟩) ws.length c) ws :=
  ⟨_, c, rfl, fun _ => ⟨k, 0, rfl, fun j hj => h.cell _ _ (by simp [List.getD_eq_getElem?_getD, hj])⟩⟩
/-- The slice v is a row of words that the call made. -/
def Ww (w : World) (B : Nat) (v : Value) (ws : List (BitVec 32)) : Prop := w.ownsRow B 98 1 v ws.length (ws.map uw)
theorem Ww.nil (w : World) (B : Nat) : Ww w B (.slice none 0 0) [] := World.ownsRow_nil _ _ _ _
theorem Ww.up {W w1 : World} {B : Nat} {v : Value} {xs : List (BitVec 32)} (h : Ww W B v xs) (hb : Below W.heap.size W w1) : Ww w1 B v xs := by
  refine ⟨h.1, ?_⟩
  rcases h.2 with h' | ⟨g, cap, cur, e, hB, hg, rest⟩
  · exact .inl h'
  · exact .inr ⟨g, cap, cur, e, hB, (hb.block g (Array.getElem?_eq_some_iff.1 hg).1).trans hg, rest⟩
theorem Ww.form {w : World} {B : Nat} {v : Value} {xs : List (BitVec 32)} (h : Ww w B v xs) (hp : 0 < xs.length) : ∃ g c, v = .slice (some ⟨g, 0, none⟩) xs.length c ∧ B ≤ g ∧ ∀ j, j < xs.length → w.cell? ⟨g, j, none⟩ = some (uw (xs.getD j 0)) := by
  rcases h.2 with ⟨e, e2⟩ | ⟨g, cap, cur, e, hB, hg, hn, rest⟩
  · omega
  · refine ⟨g, cap, e, hB, fun j hj => ?_⟩
    have h2 : w.ownsRow B 98 1 (.slice (some ⟨g, 0, none⟩) xs.length cap) xs.length (xs.map uw) := by rw [← e]; exact h
    rw [h2.cellAt j (by omega)]
    simp [List.getD_eq_getElem?_getD, hj]
theorem Ww.wy {w : World} {B : Nat} {v : Value} {xs : List (BitVec 32)} (h : Ww w B v xs) : Wy w v xs := by
  rcases Nat.eq_zero_or_pos xs.length with h0 | h0
  · rcases h.2 with ⟨e, e2⟩ | ⟨g, cap, cur, e, _⟩
    · exact ⟨none, 0, by rw [e, h0], fun hp => by omega⟩
    · exact ⟨_, cap, e, fun hp => by omega⟩
  · obtain ⟨g, c, e, _, hc⟩ := h.form h0
    exact ⟨_, c, e, fun _ => ⟨g, 0, rfl, fun j hj => by rw [Nat.zero_add]; exact hc j hj⟩⟩
/-- A slice that has room and holds nothing yet. -/
theorem wp_mkW {ops : Array Oper} {rest : List Oper} {o : Oper} {a : Act} {Q : Exit → Act → World → Prop} {w : World} (hg : o.guard = none) (l c : Operand) (hop : o.op = Op.makeSlice 124 l c)
    (hl : a.eval l = .int .i64 0) (hc : a.eval c = .int .i64 64)
    (h : ∀ v w', Ww w' w.heap.size v [] → Below w.heap.size w w' → wpList Tryd.prog ops Q rest (a.put o.dst v) w') : wpList Tryd.prog ops Q (o :: rest) a w := by
  obtain ⟨i0, hi, hz0, hz1, hz2⟩ := info_parts iU32
  obtain ⟨w', e, r1, r2⟩ := run_make_own (P := Tryd.prog) w w.heap.size 124 98 i0 (.int .u32 0) 1 uU32s hi hz0 hz1 .i64 .i64 64 (by rw [hz2]; decide) (by unfold maxLen; decide) (Nat.le_refl _)
  refine wpList_plain hg fun K hK => ?_
  have e' : (Instr.makeSlice 124 (.int .i64 0) (.int .i64 64)).run Tryd.prog w = .ok (.slice (some ⟨w.heap.size, 0, none⟩) 0 64) w' := e
  unfold Oper.wp
  simp only [execOp, hop, hl, hc, Sem.run_bind, e', Result.andThen_ok, Sem.run_pure]
  exact hK _ _ (h _ _ r1 (Below.grown (Below.refl _ _) r2 (Nat.le_refl _) (fun k hk => by cases hk)))
/-- append of one word, built on the spot. -/
theorem wp_appW {ops : Array Oper} {rest : List Oper} {o : Oper} {a : Act} {Q : Exit → Act → World → Prop} {w : World} (hgd : o.guard = none) (s x : Operand)
    (ho : o.op = .call { callee := .builtin .append, args := #[s, x], argTypes := #[124, 124] })
    (B : Nat) (v : Value) (xs : List (BitVec 32)) (W0 : World) (k : Nat) (y : BitVec 32) (hs : a.eval s = v) (hown : Ww W0 B v xs) (hup : Below W0.heap.size W0 w) (hx : a.eval x = .slice (some ⟨k, 0, none⟩) 1 1) (hy : w.cell? ⟨k, 0, none⟩ = some (uw y))
    (hl : xs.length ≤ 64) (hB : B ≤ W0.heap.size) (h : ∀ v' w', Ww w' B v' (xs ++ [y]) → Below B W0 w' → wpList Tryd.prog ops Q rest (a.put o.dst v') w') : wpList Tryd.prog ops Q (o :: rest) a w := by
  obtain ⟨i0, hi, hz0, hz1, hz2⟩ := info_parts iU32
  have hs0 := hup.size
  refine wpList_append_own w hgd s x 124 ho B 98 i0 (.int .u32 0) 1 4 uU32s hi hz0 hz1 hz2 rfl (by decide) v xs.length (xs.map uw) hs (hown.up hup) ⟨k, 0, none⟩ 1 1 [uw y] hx rfl ?_ ?_ ?_ ?_ ?_ ?_
  · intro j u hj
    match j, hj with
    | 0, hj =>
      simp at hj
      subst hj
      rw [Addr.add_lit]
      exact hy
  · intro u hu
    rw [List.mem_singleton.1 hu]; rfl
  · unfold maxLen; omega
  · omega
  · omega
  · intro v' w' hown' hg _
    refine h v' w' ?_ ?_
    · unfold Ww
      rw [List.length_append, List.map_append]
      exact hown'
    · refine Below.grown (hup.mono hB) hg (by omega) fun k hk => ?_
      exact ((hown.up hup).lt k hk).1
end Go.Proofs.YtdcpicbkemmakaaDoor
