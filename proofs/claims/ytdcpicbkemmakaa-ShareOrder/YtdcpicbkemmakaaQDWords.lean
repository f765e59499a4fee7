/- The contracts of sealringref.words, ToNum and ToWide: the words of digits. -/
import Derived.Test.YtdcpicbkemmakaaQDTimes
import Derived.Test.YtdcpicbkemmakaaQMulWToNmN
import Derived.Test.YtdcpicbkemmakaaQStoreToKn
import Derived.Test.YtdcpicbkemmakaaQUpA
import Derived.Deep.RegionHeld
namespace Go.Proofs.Ytdcpicbkemmakaa
open Go.RowKit
attribute [local go_sem] World.cell?_alloc_some frozen?_alloc_cells frozen_out
theorem Try.uU64s : Try.prog.underlying 65 = some (.slice 25) := by kernel_rfl
theorem Try.iU64 : (Try.prog.info? 25).map (fun i => (i.zero, i.size, i.bytes)) = some (some (.int .u64 0), 1, 8) := by kernel_rfl
abbrev uv (x : Nat) : Value := .int .u64 ((x : Nat) : Int)
def OwU (w : World) (B : Nat) (v : Value) (xs : List Nat) : Prop := w.ownsRow B 25 1 v xs.length (xs.map uv)
theorem OwU.up {W w1 : World} {B : Nat} {v : Value} {xs : List Nat} (h : OwU W B v xs) (hb : Below W.heap.size W w1) : OwU w1 B v xs := by
  refine ⟨h.1, ?_⟩
  rcases h.2 with h' | ⟨g, cap, cur, e, hB, hg, rest⟩
  · exact .inl h'
  · exact .inr ⟨g, cap, cur, e, hB, (hb.block g (Array.getElem?_eq_some_iff.1 hg).1).trans hg, rest⟩
theorem made_zerosU (n : Nat) : (madeCells (Value.int .u64 0).cells (n * 1)).toList = (List.replicate n 0).map uv := by
  refine List.ext_getElem (by simp [madeCells]) fun i h1 h2 => ?_
  simp [madeCells, Value.cells, Nat.mod_one]
theorem wp_mkU {ops : Array Oper} {rest : List Oper} {o : Oper} {a : Act} {Q : Exit → Act → World → Prop} {w : World} (hg : o.guard = none) (l c : Operand) (hop : o.op = Op.makeSlice 65 l c)
    (B n : Nat) (L C : Int) (hl : a.eval l = .int .i64 L) (hc : a.eval c = .int .i64 C) (hL : L = (n : Int)) (hC : C = (n : Int)) (hn : n < 1099511627776) (hB : B ≤ w.heap.size)
    (h : ∀ w', OwU w' B (.slice (some ⟨w.heap.size, 0, none⟩) n n) (List.replicate n 0) → Below B w w' → wpList Try.prog ops Q rest (a.put o.dst (.slice (some ⟨w.heap.size, 0, none⟩) n n)) w') : wpList Try.prog ops Q (o :: rest) a w := by
  obtain ⟨i0, hi, hz0, hz1, hz2⟩ := info_parts Try.iU64
  refine wpList_make_full w hg l c 65 hop B 25 i0 (.int .u64 0) 1 Try.uU64s hi hz0 hz1 .i64 .i64 L C n hl hc hL hC (by rw [hz2]; omega) (by unfold maxLen; omega) hB ?_
  intro w' r1 r2
  refine h w' ?_ (Below.grown (Below.refl _ _) r2 hB (fun k hk => by cases hk))
  unfold OwU
  rw [← made_zerosU, List.length_replicate]
  exact r1
theorem OwU.cell {w : World} {B g n c : Nat} {xs : List Nat} (h : OwU w B (.slice (some ⟨g, 0, none⟩) n c) xs) (hn : n = xs.length) (j : Nat) (hj : j < xs.length) : w.cell? ⟨g, j, none⟩ = some (.int .u64 ((xs.getD j 0 : Nat) : Int)) ∧ w.frozen? ⟨g, j, none⟩ = false := by
  subst hn
  have h2 : w.ownsRow B 25 1 (.slice (some ⟨g, 0, none⟩) xs.length c) xs.length (xs.map uv) := h
  refine ⟨?_, h2.frozenAt j⟩
  rw [h2.cellAt j (by omega)]
  simp [hj, uv]
theorem OwU.set {w : World} {B g n c : Nat} {xs : List Nat} (h : OwU w B (.slice (some ⟨g, 0, none⟩) n c) xs) (hn : n = xs.length) (hg : B ≤ g) (j y : Nat) (z : Int) (hz : z = ((y : Nat) : Int)) : OwU (w.setCell ⟨g, j, none⟩ (.int .u64 z)) B (.slice (some ⟨g, 0, none⟩) n c) (xs.set j y) ∧ Below B w (w.setCell ⟨g, j, none⟩ (.int .u64 z)) := by
  subst hn hz
  have h2 : w.ownsRow B 25 1 (.slice (some ⟨g, 0, none⟩) xs.length c) xs.length (xs.map uv) := h
  refine ⟨?_, (Below.refl _ _).setCell hg _⟩
  have := (h2.stored j (uv y)).1
  unfold OwU
  rw [List.length_set, List.map_set]
  exact this
/-- Of word j what has come when the digits from k on are in. -/
def wf (X k j : Nat) : Nat := X / 65536 ^ (max k (4 * j)) % 65536 ^ (4 * j + 4 - max k (4 * j))
theorem wf_other {X k j : Nat} (h : j ≠ k / 4) : wf X k j = wf X (k + 1) j := by
  unfold wf
  rcases Nat.lt_or_gt_of_ne h with h | h
  · rw [show 4 * j + 4 - max k (4 * j) = 0 by omega, show 4 * j + 4 - max (k + 1) (4 * j) = 0 by omega, Nat.pow_zero, Nat.mod_one, Nat.mod_one]
  · rw [show max k (4 * j) = 4 * j by omega, show max (k + 1) (4 * j) = 4 * j by omega]
theorem wf_step (X k : Nat) : wf X k (k / 4) = wf X (k + 1) (k / 4) * 65536 + X / 65536 ^ k % 65536 ∧ wf X (k + 1) (k / 4) < 281474976710656 := by
  unfold wf
  obtain ⟨m, hm⟩ : ∃ m, 4 * (k / 4) + 4 - max (k + 1) (4 * (k / 4)) = m := ⟨_, rfl⟩
  have hm3 : m ≤ 3 := by omega
  rw [show max k (4 * (k / 4)) = k by omega, show max (k + 1) (4 * (k / 4)) = k + 1 by omega] at *
  rw [hm, show 4 * (k / 4) + 4 - k = m + 1 by omega]
  constructor
  · have e : X / 65536 ^ (k + 1) = X / 65536 ^ k / 65536 := by rw [Nat.pow_succ, Nat.div_div_eq_div_mul]
    rw [e, Nat.pow_succ, Nat.mul_comm (65536 ^ m), Nat.mod_mul, Nat.add_comm, Nat.mul_comm]
  · refine Nat.lt_of_lt_of_le (Nat.mod_lt _ (Nat.pow_pos (by decide))) ?_
    exact Nat.le_trans (Nat.pow_le_pow_right (by decide) hm3) (by decide)
set_option maxHeartbeats 2000000 in
theorem words_fun (u : Value) (xs : List Nat) (hx : P.Dg xs) (lx : xs.length < 1048576) (n : Nat) (hn : n < 65536) (w : World) (su : Sl w u xs) :
    Calls Try.prog 42 #[u, .int .i64 ((n : Nat) : Int)] w fun e w' => (∃ ws, e = .returned (.slice (some ⟨w.heap.size, 0, none⟩) n n) ∧ ws.length = n ∧ (∀ j, j < n → ws.getD j 0 = wf (P.dv xs) 0 j) ∧ OwU w' w.heap.size (.slice (some ⟨w.heap.size, 0, none⟩) n n) ws) ∧ Below w.heap.size w w' := by
  obtain ⟨ax, cx, rfl⟩ := su.parts
  have SU : Hid (Sl w (.slice ax xs.length cx) xs) := su
  clear su
  obtain ⟨m, hm⟩ : ∃ m, m = xs.length := ⟨_, rfl⟩
  have HM : Hid _ := hm
  rw [← hm] at SU lx ⊢
  clear hm
  have m1 : (m : Int) < 1048576 := by omega
  have n1 : (n : Int) < 65536 := by omega
  have n0 : (0 : Int) ≤ (n : Int) := by omega
  go_enter Try.func42, Try.ntmps42
  go_wp2_with (at_make; refine wp_mkU rfl _ _ rfl w.heap.size n _ _ rfl rfl rfl rfl (by omega) (Nat.le_refl _) ?_)
  intro w1 o1 hb1
  have s1 : Hid (OwU w1 w.heap.size (.slice (some ⟨w.heap.size, 0, none⟩) n n) (List.replicate n 0)) := o1
  have b1 : Hid (Below w.heap.size w w1) := hb1
  clear o1 hb1
  go_wp2_with fail
  go_loopw [6] (fun i wr => ∃ (k : Nat) (os : List Nat), k ≤ m ∧ i = .int .i64 ((k : Int) - 1) ∧ os.length = n ∧ Hid (∀ j, j < n → os.getD j 0 = wf (P.dv xs) k j) ∧ Hid (OwU wr w.heap.size (.slice (some ⟨w.heap.size, 0, none⟩) n n) os) ∧ Hid (Below w.heap.size w wr)) (fun i _ => (intOf i + 1).toNat)
  case atStart =>
    refine ⟨m, List.replicate n 0, Nat.le_refl _, by go_num, by simp, ?_, s1, b1⟩
    have z : P.dv xs / 65536 ^ m = 0 := by rw [HM.out]; exact Nat.div_eq_of_lt (P.dv_lt xs hx)
    refine (fun j hj => ?_ : ∀ j, j < n → (List.replicate n 0).getD j 0 = wf (P.dv xs) m j)
    rw [List.getD_eq_getElem?_getD, List.getElem?_replicate, if_pos hj]
    unfold wf
    have : P.dv xs / 65536 ^ (max m (4 * j)) = 0 := Nat.div_eq_of_lt (Nat.lt_of_lt_of_le (by rw [HM.out]; exact P.dv_lt xs hx) (Nat.pow_le_pow_right (by decide) (Nat.le_max_left _ _)))
    rw [this, Nat.zero_mod]
    rfl
  case round =>
    clear s1 b1
    obtain ⟨k, os, hk, rfl, hlen, HV, ho, hb⟩ := hrel
    by_cases h0 : 0 < k
    · obtain ⟨k, rfl⟩ : ∃ j, k = j + 1 := ⟨k - 1, by omega⟩
      rw [show ((k + 1 : Nat) : Int) - 1 = k by omega]
      have i0 : (k : Int) ≥ 0 := by omega
      have i1 : (k : Int) < (m : Int) := by omega
      by_cases h1 : k < 4 * n
      · have i2 : (k : Int) < 4 * (n : Int) := by omega
        obtain ⟨bx, ox, hax, hcx⟩ := Sl.some (xs := xs) SU.out (by rw [← HM.out]; omega)
        subst hax
        have c1 : wr.cell? ⟨bx, ox + k, none⟩ = _ := (hb.out.cell (p := ⟨bx, ox + k, none⟩) (lt_of_cell (hcx k (by rw [← HM.out]; omega)))).trans (hcx k (by rw [← HM.out]; omega))
        obtain ⟨q, hq⟩ : ∃ q, q = k / 4 := ⟨_, rfl⟩
        have q1 : q < n := by omega
        obtain ⟨c3, c4⟩ := OwU.cell ho.out hlen.symm q (by omega)
        rw [HV.out q q1] at c3
        have xl := P.dig_lt hx k
        have dx := P.dig hx k
        have WS := wf_step (P.dv xs) k
        rw [← hq, ← dx] at WS
        have WO : Hid (∀ j, j ≠ q → wf (P.dv xs) k j = wf (P.dv xs) (k + 1) j) := (fun j hj => wf_other (by rw [← hq]; exact hj) : ∀ j, j ≠ q → wf (P.dv xs) k j = wf (P.dv xs) (k + 1) j)
        have WE : Hid _ := WS.1
        have zl := WS.2
        have KQ : (k : Int) / 4 = (q : Int) := by omega
        have HQ : Hid _ := hq
        clear hcx dx WS hq
        generalize xs.getD k 0 = x at *
        generalize hz : wf (P.dv xs) (k + 1) q = z at *
        have HZ : Hid _ := hz
        clear hz
        have x0 : (0 : Int) ≤ (x : Int) := by omega
        have x1 : (x : Int) ≤ 65535 := by omega
        have z0 : (0 : Int) ≤ (z : Int) := by omega
        have z1 : (z : Int) < 281474976710656 := by omega
        have q0 : (0 : Int) ≤ (q : Int) := by omega
        have q2 : (q : Int) < (n : Int) := by omega
        go_wp2_with fail
        refine wp_region_up_then 16 (by kernel_rfl) (by kernel_rfl) (by kernel_rfl) (by kernel_rfl) (by decide) (fun _ _ d _ _ h => by cases d <;> exact h) (fun U hU f hf hcl => ?_)
        have C1 : ∀ n', (f n').cell? ⟨bx, ox + k, none⟩ = some (.int .i64 (x : Int)) := fun n' => ((hf n').out.cell (p := ⟨bx, ox + k, none⟩) (lt_of_cell c1)).trans c1
        have C3 : ∀ n', (f n').cell? ⟨w.heap.size, q, none⟩ = some (.int .u64 (z : Int)) := fun n' => ((hf n').out.cell (p := ⟨w.heap.size, q, none⟩) (lt_of_cell c3)).trans c3
        clear c1 c3 c4
        simp only [List.take_succ_cons, List.take_zero, List.drop_succ_cons, List.drop_zero]
        repeat (go_big_quiet_step (fail))
        refine wpQuiet_nil ?_
        intro nx
        have hb1 := (hf nx).out
        clear hf hcl C1 C3
        generalize f nx = w2 at hb1 ⊢
        have o2 : Hid (OwU w2 w.heap.size (.slice (some ⟨w.heap.size, 0, none⟩) n n) os) := OwU.up ho.out hb1
        have b2 : Hid (Below w.heap.size w w2) := hb.out.trans (hb1.mono hb.out.size)
        clear hb1 hb ho
        obtain ⟨d3, d4⟩ := OwU.cell o2.out hlen.symm q (by omega)
        have SS : Hid _ := OwU.set o2.out hlen.symm (Nat.le_refl _) q (z * 65536 + x) ((z : Int) * 65536 + (x : Int)) (by omega)
        go_wp2_with fail
        go_roundw
        case rel =>
          refine ⟨k, os.set q (z * 65536 + x), by omega, by go_num, by rw [List.length_set]; exact hlen, ?_, SS.out.1, b2.out.trans SS.out.2⟩
          refine (fun j hj => ?_ : ∀ j, j < n → (os.set q (z * 65536 + x)).getD j 0 = wf (P.dv xs) k j)
          by_cases e : j = q
          · subst e
            rw [List.getD_eq_getElem?_getD, List.getElem?_set_self (by omega)]
            exact WE.out.symm
          · rw [List.getD_eq_getElem?_getD, List.getElem?_set_ne (Ne.symm e), ← List.getD_eq_getElem?_getD, HV.out j hj, WO.out j e]
        case measure => simp [intOf]
      · have i2 : ¬ (k : Int) < 4 * (n : Int) := by omega
        go_wp2_with fail
        go_roundw
        case rel =>
          refine ⟨k, os, by omega, by go_num, hlen, (fun j hj => ?_ : ∀ j, j < n → os.getD j 0 = wf (P.dv xs) k j), ho, hb⟩
          rw [HV.out j hj]
          exact (wf_other (by omega)).symm
        case measure => simp [intOf]
    · have k0 : k = 0 := by omega
      subst k0
      rw [show ((0 : Nat) : Int) - 1 = -1 by omega]
      go_wp2_with fail
      go_ret
      exact ⟨⟨os, rfl, hlen, HV.out, ho.out⟩, hb.out⟩
theorem wf_num {X : Nat} (j : Nat) : wf X 0 j = X / 18446744073709551616 ^ j % 18446744073709551616 := by
  unfold wf
  rw [show max 0 (4 * j) = 4 * j by omega, show 4 * j + 4 - 4 * j = 4 by omega, Nat.pow_mul]
theorem word_ok (n : Nat) : Word ((n % 18446744073709551616 : Nat) : Int) := ⟨Int.natCast_nonneg _, Int.ofNat_lt.2 (Nat.mod_lt _ (by decide))⟩
theorem num_words (X : Nat) : (⟨((wf X 0 0 : Nat) : Int), ((wf X 0 1 : Nat) : Int), ((wf X 0 2 : Nat) : Int), ((wf X 0 3 : Nat) : Int)⟩ : Nm) = Nm.of ((X % 2 ^ 256 : Nat) : Int) := by
  refine Nm.eq_of ⟨by rw [wf_num]; exact word_ok _, by rw [wf_num]; exact word_ok _, by rw [wf_num]; exact word_ok _, by rw [wf_num]; exact word_ok _⟩ ?_
  unfold Nm.val
  rw [wf_num, wf_num, wf_num, wf_num]
  rw [show (2 : Nat) ^ 256 = 18446744073709551616 * (18446744073709551616 * (18446744073709551616 * 18446744073709551616)) from rfl]
  rw [show X / 18446744073709551616 ^ 0 = X by rw [Nat.pow_zero, Nat.div_one], show X / 18446744073709551616 ^ 1 = X / 18446744073709551616 by rw [Nat.pow_one],
    show X / 18446744073709551616 ^ 2 = X / 18446744073709551616 / 18446744073709551616 by rw [Nat.div_div_eq_div_mul],
    show X / 18446744073709551616 ^ 3 = X / 18446744073709551616 / 18446744073709551616 / 18446744073709551616 by rw [Nat.div_div_eq_div_mul, Nat.div_div_eq_div_mul]]
  rw [Nat.mod_mul, Nat.mod_mul, Nat.mod_mul]
  dsimp only
  omega
set_option maxHeartbeats 1000000 in
theorem toNum_walk (u : Value) (x : Nm) (W0 : Nat → World → Prop)
    (SW : ∀ w, W0 0 w → Calls Try.prog 42 #[u, .int .i64 4] w fun e w' => (e = .returned (.slice (some ⟨w.heap.size, 0, none⟩) 4 4) ∧ w'.cell? ⟨w.heap.size, 0, none⟩ = some (.int .u64 x.a) ∧ w'.cell? ⟨w.heap.size, 1, none⟩ = some (.int .u64 x.b) ∧ w'.cell? ⟨w.heap.size, 2, none⟩ = some (.int .u64 x.c) ∧ w'.cell? ⟨w.heap.size, 3, none⟩ = some (.int .u64 x.d)) ∧ Below w.heap.size w w')
    (w : World) (h0 : W0 0 (kz4 w)) :
    Calls Try.prog 25 #[u] w fun e w' => e = .returned (N x) ∧ Below w.heap.size w w' := by
  have H0 : Hid _ := h0
  clear h0
  go_enter Try.func25, Try.ntmps25
  have s0 : Hid (Kn (kz4 w) [(w.heap.size, zz4)]) := ((Kn.nil w).al zz4 27 rfl)
  have b0 : Hid (Below w.heap.size w (kz4 w)) := ((Below.refl _ _).alloc (Nat.le_refl _) _)
  go_wp2_with fail
  refine (SW _ H0.out).mono ?_
  rintro e w1 ⟨⟨rfl, c0, c1, c2, c3⟩, hb1⟩
  have s1 : Hid (Kn w1 [(w.heap.size, zz4)]) := s0.out.up hb1
  have b1 : Hid (Below w.heap.size w w1) := b0.out.trans (hb1.mono b0.out.size)
  have z1 := b1.out.size
  clear hb1 s0 b0
  go_wp2_with fail
  refine wp_region_up_then 13 (by kernel_rfl) (by kernel_rfl) (by kernel_rfl) (by kernel_rfl) (by decide) (fun _ _ d _ _ h => by cases d <;> exact h) (fun U hU f hf hcl => ?_)
  have C0 : ∀ n', (f n').cell? ⟨w.heap.size + 1, 0, none⟩ = some (.int .u64 x.a) := fun n' => ((hf n').out.cell (p := ⟨w.heap.size + 1, 0, none⟩) (lt_of_cell (by simpa using c0))).trans (by simpa using c0)
  have C1 : ∀ n', (f n').cell? ⟨w.heap.size + 1, 1, none⟩ = some (.int .u64 x.b) := fun n' => ((hf n').out.cell (p := ⟨w.heap.size + 1, 1, none⟩) (lt_of_cell (by simpa using c1))).trans (by simpa using c1)
  have C2 : ∀ n', (f n').cell? ⟨w.heap.size + 1, 2, none⟩ = some (.int .u64 x.c) := fun n' => ((hf n').out.cell (p := ⟨w.heap.size + 1, 2, none⟩) (lt_of_cell (by simpa using c2))).trans (by simpa using c2)
  have C3 : ∀ n', (f n').cell? ⟨w.heap.size + 1, 3, none⟩ = some (.int .u64 x.d) := fun n' => ((hf n').out.cell (p := ⟨w.heap.size + 1, 3, none⟩) (lt_of_cell (by simpa using c3))).trans (by simpa using c3)
  clear c0 c1 c2 c3
  simp only [List.take_succ_cons, List.take_zero, List.drop_succ_cons, List.drop_zero]
  repeat (go_big_quiet_step (fail))
  refine wpQuiet_nil ?_
  intro nx
  have hb2 := (hf nx).out
  clear hf hcl C0 C1 C2 C3
  generalize f nx = w2 at hb2 ⊢
  have s2 : Hid (Kn w2 [(w.heap.size, zz4)]) := s1.out.up hb2
  have b2 : Hid (Below w.heap.size w w2) := b1.out.trans (hb2.mono b1.out.size)
  clear hb2 s1 b1
  have uro_0 : w2.cell? ⟨w.heap.size, 0, none⟩ = some (.int .u64 0) := Kn.get s2.out 0 0 rfl rfl
  have uro_1 : w2.cell? ⟨w.heap.size, 1, none⟩ = some (.int .u64 0) := Kn.get s2.out 0 1 rfl rfl
  have uro_2 : w2.cell? ⟨w.heap.size, 2, none⟩ = some (.int .u64 0) := Kn.get s2.out 0 2 rfl rfl
  have uro_3 : w2.cell? ⟨w.heap.size, 3, none⟩ = some (.int .u64 0) := Kn.get s2.out 0 3 rfl rfl
  have uro_z : ∀ j, w2.frozen? ⟨w.heap.size, j, none⟩ = false := Kn.fz s2.out 0 rfl
  have s3 : Hid (Kn (st4 w2 (w.heap.size) (x)) [(w.heap.size, (c4 (x)))]) := Kn.st4 (L := []) (s2.out.front 0 rfl) (x)
  have b3 : Hid (Below w.heap.size w (st4 w2 (w.heap.size) (x))) := below_st4 b2.out (by omega)
  clear s2 b2
  go_wp2_with fail
  clear uro_0 uro_1 uro_2 uro_3 uro_z
  have urr_0 : (st4 w2 (w.heap.size) (x)).cell? ⟨w.heap.size, 0, none⟩ = some (.int .u64 (x).a) := Kn.get s3.out 0 0 rfl rfl
  have urr_1 : (st4 w2 (w.heap.size) (x)).cell? ⟨w.heap.size, 1, none⟩ = some (.int .u64 (x).b) := Kn.get s3.out 0 1 rfl rfl
  have urr_2 : (st4 w2 (w.heap.size) (x)).cell? ⟨w.heap.size, 2, none⟩ = some (.int .u64 (x).c) := Kn.get s3.out 0 2 rfl rfl
  have urr_3 : (st4 w2 (w.heap.size) (x)).cell? ⟨w.heap.size, 3, none⟩ = some (.int .u64 (x).d) := Kn.get s3.out 0 3 rfl rfl
  refine bodyPost_ret (v := N x) ?_ rfl ⟨rfl, b3.out⟩
  show (results Try.f25 _).run Try.prog (st4 w2 (w.heap.size) (x)) = .ok _ (st4 w2 (w.heap.size) (x))
  clear s3 b3
  generalize (st4 w2 (w.heap.size) (x)) = W9 at *
  simp [results, Try.results25, go_sem, urr_0, urr_1, urr_2, urr_3]
/-- sealringref.ToNum: modulo 2^256. -/
theorem toNum_fun (u : Value) (xs : List Nat) (hx : P.Dg xs) (lx : xs.length < 1048576) (w : World) (su : Sl w u xs) :
    Calls Try.prog 25 #[u] w fun e w' => e = .returned (N (Nm.of ((P.dv xs % 2 ^ 256 : Nat) : Int))) ∧ Below w.heap.size w w' := by
  rw [← num_words]
  refine toNum_walk u _ (fun _ w => Sl w u xs) (fun w h => ?_) w (Sl.up (xs := xs) su ((Below.refl _ _).alloc (Nat.le_refl _) _))
  refine (words_fun u xs hx lx 4 (by decide) w h).mono ?_
  rintro e w' ⟨⟨ws, rfl, hl, hv, ho⟩, hb⟩
  have c := fun j (hj : j < 4) => (OwU.cell ho hl.symm j (by omega)).1
  refine ⟨⟨rfl, ?_, ?_, ?_, ?_⟩, hb⟩
  · rw [c 0 (by decide), hv 0 (by decide)]
  · rw [c 1 (by decide), hv 1 (by decide)]
  · rw [c 2 (by decide), hv 2 (by decide)]
  · rw [c 3 (by decide), hv 3 (by decide)]
end Go.Proofs.Ytdcpicbkemmakaa
