/- Package scalar, as it landed: ofHalves, Of. -/
import Derived.Test.YtjcnfffmciahiaaDoorScF
import Derived.Test.YtjcnfffmciahiaaDoorGrp24
import Derived.Test.YtjcnfffmciahiaaDoorGrp26
import Derived.Test.YtjcnfffmciahiaaDoorUp3
namespace Go.Proofs.YtjcnfffmciahiaaDoor
open Go.RowKit
attribute [local go_sem] World.cell?_alloc_some cell_alloc2 cell_alloc3 cell_alloc4 frozen?_alloc_cells frozen_out
set_option linter.unusedSimpArgs false
/-- The number of bytes, the least first. -/
def S.le : List Nat → Nat
  | [] => 0
  | x :: xs => x + 256 * S.le xs
theorem S.le_append : ∀ xs ys : List Nat, S.le (xs ++ ys) = S.le xs + 256 ^ xs.length * S.le ys
  | [], ys => by simp [S.le]
  | x :: xs, ys => by
    rw [List.cons_append, S.le, S.le, S.le_append xs ys, List.length_cons, Nat.pow_succ, Nat.mul_comm (256 ^ xs.length) 256, Nat.mul_assoc]
    omega
theorem S.le_zeros : ∀ n, S.le (List.replicate n 0) = 0
  | 0 => rfl
  | n + 1 => by rw [List.replicate_succ, S.le, S.le_zeros n]
theorem S.le_lt : ∀ xs : List Nat, (∀ x ∈ xs, x < 256) → S.le xs < 256 ^ xs.length
  | [], _ => by simp [S.le]
  | x :: xs, h => by
    have h1 := S.le_lt xs fun y hy => h y (List.mem_cons_of_mem _ hy)
    have h2 := h x List.mem_cons_self
    rw [S.le, List.length_cons, Nat.pow_succ]
    omega
theorem S.le_at : ∀ (xs : List Nat), (∀ x ∈ xs, x < 256) → ∀ i, S.le xs / 256 ^ i % 256 = xs.getD i 0
  | [], _, i => by simp [S.le]
  | x :: xs, h, 0 => by
    have h2 := h x List.mem_cons_self
    rw [S.le, Nat.pow_zero, Nat.div_one]
    show _ = x
    omega
  | x :: xs, h, i + 1 => by
    have h2 := h x List.mem_cons_self
    rw [S.le, Nat.pow_succ, Nat.mul_comm (256 ^ i) 256, ← Nat.div_div_eq_div_mul, show (x + 256 * S.le xs) / 256 = S.le xs by omega, S.le_at xs (fun y hy => h y (List.mem_cons_of_mem _ hy)) i]
    simp
theorem S.row {xs : List Nat} (hl : xs.length = 32) (h : ∀ x ∈ xs, x < 256) : xs.map b8 = bR (S.le xs) := by
  apply List.ext_getElem?
  intro i
  by_cases hi : i < 32
  · have h1 := S.le_at xs h i
    rw [List.getD_eq_getElem?_getD, List.getElem?_eq_getElem (by omega)] at h1
    rw [List.getElem?_map, List.getElem?_eq_getElem (by omega)]
    simp only [Option.getD_some] at h1
    simp only [bR, List.getElem?_map, List.getElem?_range hi, Option.map_some]
    rw [h1]
  · rw [List.getElem?_eq_none (by simp; omega), List.getElem?_eq_none (by rw [bR_length]; omega)]
theorem S.low {xs : List Nat} (hl : xs.length = 32) (h : ∀ x ∈ xs, x < 256) : S.le xs < 2 ^ 256 := Nat.lt_of_lt_of_le (S.le_lt xs h) (by rw [hl]; decide)
/-- Thirty-two bytes: these, and noughts behind them. -/
def S.pad (xs : List Nat) : List Nat := xs ++ List.replicate (32 - xs.length) 0
theorem S.pad_length {xs : List Nat} (h : xs.length ≤ 32) : (S.pad xs).length = 32 := by simp [S.pad]; omega
theorem S.pad_low {xs : List Nat} (h : ∀ x ∈ xs, x < 256) : ∀ x ∈ S.pad xs, x < 256 := low_app h (low_rep _)
theorem S.pad_le (xs : List Nat) : S.le (S.pad xs) = S.le xs := by rw [S.pad, S.le_append, S.le_zeros, Nat.mul_zero, Nat.add_zero]
theorem S.halves (xs : List Nat) : S.le xs = S.le (S.pad (xs.take 32)) + 2 ^ 256 * S.le (S.pad (xs.drop 32)) := by
  rw [S.pad_le, S.pad_le]
  rcases Nat.lt_or_ge 32 xs.length with h | h
  · conv => lhs; rw [← List.take_append_drop 32 xs]
    rw [S.le_append, List.length_take, Nat.min_eq_left (by omega), show (256 : Nat) ^ 32 = 2 ^ 256 by decide]
  · rw [List.take_of_length_le h, List.drop_of_length_le h, S.le, Nat.mul_zero, Nat.add_zero]
set_option maxHeartbeats 1000000 in
theorem sHalves_walk (a b : Nat) (x y p : Nm)
    (O1 : ∀ w, Calls Tryd.prog 47 #[.agg (bR (a)).toArray] w fun e w' => e = .returned (N x) ∧ Below w.heap.size w w')
    (O2 : ∀ w, Calls Tryd.prog 47 #[.agg (bR (b)).toArray] w fun e w' => e = .returned (N y) ∧ Below w.heap.size w w')
    (SR : ∀ w, Calls Tryd.prog 14 #[Wv x y] w fun e w' => e = .returned (N p) ∧ Below w.heap.size w w')
    (w : World) :
    Calls Tryd.prog 28 #[bV a, bV b] w fun e w' => e = .returned (N p) ∧ Below w.heap.size w w' := by
  go_enter Tryd.func28, Tryd.ntmps28
  have s0 : Hid (Kn (kz4 ((w.alloc (.cells (bR (a)).toArray 51)).alloc (.cells (bR (b)).toArray 51))) [(w.heap.size + 1 + 1, zz4), (w.heap.size + 1, (bR (b))), (w.heap.size, (bR (a)))]) := ((((Kn.nil w).al (bR (a)) 51 rfl).al (bR (b)) 51 (by simp)).al zz4 24 (by simp))
  have b0 : Hid (Below w.heap.size w (kz4 ((w.alloc (.cells (bR (a)).toArray 51)).alloc (.cells (bR (b)).toArray 51)))) := ((((Below.refl _ _).alloc (Nat.le_refl _) _).alloc (by simp <;> omega) _).alloc (by simp <;> omega) _)
  go_wp2_with fail
  refine wp_region_up_then 6 (by kernel_rfl) (by kernel_rfl) (by kernel_rfl) (by kernel_rfl) (by decide) (fun _ _ d _ _ h => by cases d <;> exact h) (fun U hU f hf hcl => ?_)
  have ra_lo_0 := fun nx => (Kn.rng (s0.out.up (hf nx).out) 2 rfl : (f nx).rangeAt (w.heap.size) 0 (bR (a)))
  have ra_hi_0 := fun nx => (Kn.rng (s0.out.up (hf nx).out) 1 rfl : (f nx).rangeAt (w.heap.size + 1) 0 (bR (b)))
  simp only [List.take_succ_cons, List.take_zero, List.drop_succ_cons, List.drop_zero]
  repeat (first | (refine I.quiet_load rfl 51 _ rfl (w.heap.size) 0 rfl (bR (a)) _ (fun W hW => by obtain ⟨nx, rfl⟩ := hW; exact ra_lo_0 nx) Tryd.underlying51 rfl (info_bR (a)) ?_; simp only [Act.put, List.setIfInBounds_toArray, List.set_cons_succ, List.set_cons_zero]) | (refine I.quiet_load rfl 51 _ rfl (w.heap.size + 1) 0 rfl (bR (b)) _ (fun W hW => by obtain ⟨nx, rfl⟩ := hW; exact ra_hi_0 nx) Tryd.underlying51 rfl (info_bR (b)) ?_; simp only [Act.put, List.setIfInBounds_toArray, List.set_cons_succ, List.set_cons_zero]) | go_big_quiet_step (first | (go_at_call_of 47 [Value.agg (bR (a)).toArray]; exact (O1 _).mono fun e w'' ⟨he, hb⟩ => ⟨he, hcl.out _ _ hb⟩) | (go_at_call_of 47 [Value.agg (bR (b)).toArray]; exact (O2 _).mono fun e w'' ⟨he, hb⟩ => ⟨he, hcl.out _ _ hb⟩) | (go_at_call 46; exact (wideOf_fun x y _).mono fun e w'' ⟨he, hb⟩ => ⟨he, hcl.out _ _ hb⟩) | (go_at_call 14; exact (SR _).mono fun e w'' ⟨he, hb⟩ => ⟨he, hcl.out _ _ hb⟩)))
  refine wpQuiet_nil ?_
  intro nx
  have hb1 := (hf nx).out
  clear hf hcl
  generalize f nx = w1 at hb1 ⊢
  have s1 : Hid (Kn w1 [(w.heap.size + 1 + 1, zz4), (w.heap.size + 1, (bR (b))), (w.heap.size, (bR (a)))]) := s0.out.up hb1
  have b1 : Hid (Below w.heap.size w w1) := b0.out.trans (hb1.mono b0.out.size)
  have z1 := b1.out.size
  clear hb1 s0 b0
  have uro_0 : w1.cell? ⟨w.heap.size + 1 + 1, 0, none⟩ = some (.int .u64 0) := Kn.get s1.out 0 0 rfl rfl
  have uro_1 : w1.cell? ⟨w.heap.size + 1 + 1, 1, none⟩ = some (.int .u64 0) := Kn.get s1.out 0 1 rfl rfl
  have uro_2 : w1.cell? ⟨w.heap.size + 1 + 1, 2, none⟩ = some (.int .u64 0) := Kn.get s1.out 0 2 rfl rfl
  have uro_3 : w1.cell? ⟨w.heap.size + 1 + 1, 3, none⟩ = some (.int .u64 0) := Kn.get s1.out 0 3 rfl rfl
  have uro_z : ∀ j, w1.frozen? ⟨w.heap.size + 1 + 1, j, none⟩ = false := Kn.fz s1.out 0 rfl
  have s2 : Hid (Kn (st4 w1 (w.heap.size + 1 + 1) (p)) [(w.heap.size + 1 + 1, (c4 (p))), (w.heap.size + 1, (bR (b))), (w.heap.size, (bR (a)))]) := Kn.st4 (L := [(w.heap.size + 1, (bR (b))), (w.heap.size, (bR (a)))]) (s1.out.front 0 rfl) (p)
  have b2 : Hid (Below w.heap.size w (st4 w1 (w.heap.size + 1 + 1) (p))) := below_st4 b1.out (by omega)
  clear s1 b1
  go_wp2_with fail
  clear uro_0 uro_1 uro_2 uro_3 uro_z
  have urr_0 : (st4 w1 (w.heap.size + 1 + 1) (p)).cell? ⟨w.heap.size + 1 + 1, 0, none⟩ = some (.int .u64 (p).a) := Kn.get s2.out 0 0 rfl rfl
  have urr_1 : (st4 w1 (w.heap.size + 1 + 1) (p)).cell? ⟨w.heap.size + 1 + 1, 1, none⟩ = some (.int .u64 (p).b) := Kn.get s2.out 0 1 rfl rfl
  have urr_2 : (st4 w1 (w.heap.size + 1 + 1) (p)).cell? ⟨w.heap.size + 1 + 1, 2, none⟩ = some (.int .u64 (p).c) := Kn.get s2.out 0 2 rfl rfl
  have urr_3 : (st4 w1 (w.heap.size + 1 + 1) (p)).cell? ⟨w.heap.size + 1 + 1, 3, none⟩ = some (.int .u64 (p).d) := Kn.get s2.out 0 3 rfl rfl
  refine bodyPost_ret (v := N p) ?_ rfl ⟨rfl, b2.out⟩
  show (results Tryd.f28 _).run Tryd.prog (st4 w1 (w.heap.size + 1 + 1) (p)) = .ok _ (st4 w1 (w.heap.size + 1 + 1) (p))
  clear s2 b2
  generalize (st4 w1 (w.heap.size + 1 + 1) (p)) = W9 at *
  simp [results, Tryd.results28, go_sem, urr_0, urr_1, urr_2, urr_3]
theorem sHalves_fun {a b : Nat} (ha : a < 2 ^ 256) (hb : b < 2 ^ 256) (w : World) :
    Calls Tryd.prog 28 #[bV a, bV b] w fun e w' => e = .returned (N (nm ((a + 2 ^ 256 * b) % Cv.ord))) ∧ Below w.heap.size w w' := by
  have SR := sRed_fun (nm a) (nm b) (nm_ok _) (nm_ok _)
  rw [nm_nat ha, nm_nat hb] at SR
  exact sHalves_walk a b _ _ _ (of_n a ha) (of_n b hb) SR w
theorem u_b32r : (Tryd.prog.info? 5).map (·.size) = some 1 := by kernel_rfl
theorem wp_all32 {ops : Array Oper} {rest : List Oper} {o : Oper} {a : Act} {Q : Exit → Act → World → Prop} {w : World} (hgd : o.guard = none) (x : Operand) (ho : o.op = .slice 51 x none none none) (b : Nat) (hx : a.eval x = .pointer (some ⟨b, 0, none⟩))
    (h : wpList Tryd.prog ops Q rest (a.put o.dst (.slice (some ⟨b, 0, none⟩) 32 32)) w) : wpList Tryd.prog ops Q (o :: rest) a w := by
  refine wpList_plain hgd fun K hK => ?_
  have e1 := slice_all u_b32 u_b32r (by decide) b 0 w
  unfold Oper.wp
  simp [execOp, ho, hx, e1, Result.andThen]
  exact hK _ _ h
theorem quiet_all32 {ops : Array Oper} {C : World → Prop} {Q : Act → Prop} {o : Oper} {rest : List Oper} {a : Act} (hw : Region.wanted o (yielded ops a.tmps) = true) (x : Operand) (ho : o.op = .slice 51 x none none none) (b : Nat) (hx : a.eval x = .pointer (some ⟨b, 0, none⟩))
    (h : wpQuiet Tryd.prog ops C Q rest (a.put o.dst (.slice (some ⟨b, 0, none⟩) 32 32))) : wpQuiet Tryd.prog ops C Q (o :: rest) a := by
  refine BigFrame.wpQuiet_want hw fun K hK => ⟨.slice (some ⟨b, 0, none⟩) 32 32, fun w _ => ?_, hK _ h⟩
  have e1 := slice_all u_b32 u_b32r (by decide) b 0 w
  unfold Oper.quietAt
  have e : (execOp a.eval o).run Tryd.prog w = .ok (.value (.slice (some ⟨b, 0, none⟩) 32 32)) w := by
    unfold execOp
    simp [ho, hx, e1]
  rw [e]
  exact ⟨rfl, rfl⟩
theorem quiet_cutB {ops : Array Oper} {C : World → Prop} {Q : Act → Prop} {o : Oper} {rest : List Oper} {act : Act} (hw : Region.wanted o (yielded ops act.tmps) = true) (x l : Operand) (ho : o.op = .slice 27 x (some l) none none) (a : Option Addr) (m c n : Nat) (k : IntKind) (z : Int) (hx : act.eval x = .slice a m c) (hl : act.eval l = .int k z) (hz : z = (n : Int)) (hn : n ≤ m) (sv : Value) (hsv : sliced a n m c 1 = sv)
    (h : wpQuiet Tryd.prog ops C Q rest (act.put o.dst sv)) : wpQuiet Tryd.prog ops C Q (o :: rest) act := by
  subst hsv hz
  refine BigFrame.wpQuiet_want hw fun K hK => ⟨sliced a n m c 1, fun w _ => ?_, hK _ h⟩
  have e1 : (Instr.sliceAt 27 (.slice a m c) (some (.int k (n : Int))) none none).run Tryd.prog w = .ok (sliced a n m c 1) w := by
    rw [run_sliceAt_slice (h := slice_elem), run_slice_l (ht := slice_elem) (h0 := by omega) (h1 := by omega), elem_bytes, size_u8]
    simp
  unfold Oper.quietAt
  have e : (execOp act.eval o).run Tryd.prog w = .ok (.value (sliced a n m c 1)) w := by
    unfold execOp
    simp [ho, hx, hl, e1]
  rw [e]
  exact ⟨rfl, rfl⟩
/-- copy of as many bytes as there is room for; there may be nothing to copy. -/
theorem wp_copyM {ops : Array Oper} {rest : List Oper} {o : Oper} {act : Act} {Q : Exit → Act → World → Prop} {w : World} (hgd : o.guard = none) (d s : Operand)
    (ho : o.op = .call { callee := .builtin .copy, args := #[d, s], argTypes := #[27, 27] }) (b f dl dc : Nat) (u : Value) (xs ys : List Nat) (m : Nat) (hd : act.eval d = .slice (some ⟨b, f, none⟩) dl dc) (hs : act.eval s = u) (hb : By w u xs)
    (hy : xs.take dl = ys) (hm : ys.length = m) (ht : w.there b f m)
    (h : ∀ w2, Hid (w2 = w.setCells b f (ys.map b8)) → wpList Tryd.prog ops Q rest (act.put o.dst (.int .i64 ((m : Nat) : Int))) w2) : wpList Tryd.prog ops Q (o :: rest) act w := by
  subst hy hm
  rcases Nat.eq_zero_or_pos (xs.take dl).length with h0 | h0
  · obtain ⟨a, c, rfl, _⟩ := hb
    refine wpList_plain hgd fun K hK => ?_
    have hm : min xs.length dl = 0 := by rw [List.length_take] at h0; omega
    have hrun := run_copy_none (P := Tryd.prog) w 27 27 o.type 5 (some ⟨b, f, none⟩) a dl dc xs.length c Tryd.uBytes u_b32r hm
    unfold Oper.wp
    simp [execOp, ho, resolve, invoke, builtin, hd, hs, hrun, Result.andThen]
    have e : xs.take dl = [] := List.length_eq_zero_iff.1 h0
    have hw : w = w.setCells b f ((xs.take dl).map b8) := by rw [e]; rfl
    have := h w hw
    rw [h0] at this
    exact hK _ _ this
  · have hx : 0 < xs.length := by rw [List.length_take] at h0; omega
    obtain ⟨a, c, rfl, hh⟩ := hb
    obtain ⟨g, q, rfl, _, hr⟩ := By.range ⟨a, c, rfl, hh⟩ hx
    have hr2 := range_take hr dl
    rw [← List.map_take] at hr2
    exact wp_copyR hgd d s ho b f dl dc g q xs.length c (xs.take dl) hd hs (by rw [List.length_take]; omega) hr2 ht h
theorem Kn.fill {w : World} {L : List (Nat × List Value)} {k : Nat} {xs : List Nat} (h : Kn w ((k, bZ) :: L)) (hl : xs.length ≤ 32) (lo : ∀ x ∈ xs, x < 256) : Kn (w.setCells k 0 (xs.map b8)) ((k, bR (S.le (S.pad xs))) :: L) := by
  have hb0 := h.all _ List.mem_cons_self
  have ht : w.there k 0 (xs.map b8).length := fun j hj => by
    have hj' : j < 32 := by rw [List.length_map] at hj; omega
    rw [Nat.zero_add]
    refine ⟨?_, hb0.fz _⟩
    rw [hb0.cell j (.int .u8 0) (by show (List.replicate 32 (Value.int .u8 0))[j]? = _; rw [List.getElem?_replicate, if_pos hj'])]
    rfl
  refine ⟨h.nd, fun p hp => ?_⟩
  rcases List.mem_cons.1 hp with rfl | hp
  · refine ⟨by rw [I.size_setCells]; exact hb0.lt, fun j v hv => ?_, fun j => by rw [World.frozen?_setCells]; exact hb0.fz j⟩
    rw [← S.row (S.pad_length hl) (S.pad_low lo), S.pad, List.map_append] at hv
    by_cases hj : j < xs.length
    · have := World.rangeAt_setCells_same w k 0 (xs.map b8) ht j v (by rwa [List.getElem?_append_left (by simpa using hj)] at hv)
      rwa [Nat.zero_add] at this
    · rw [World.cell?_setCells_out k (xs.map b8) 0 w ⟨k, j, none⟩ (fun _ _ => Or.inr (by rw [List.length_map]; show 0 + xs.length ≤ j; omega))]
      rw [List.getElem?_append_right (by simpa using hj)] at hv
      refine hb0.cell j v ?_
      simp only [List.length_map, List.map_replicate, List.getElem?_replicate] at hv
      split at hv
      · rename_i hlt
        simp only [bZ, List.getElem?_replicate, show j < 32 by omega, if_true]
        exact hv
      · cases hv
  · have hb := h.all p (List.mem_cons_of_mem _ hp)
    have hk : p.1 ≠ k := fun e => by
      have := (List.nodup_cons.1 h.nd).1
      exact this (List.mem_map.2 ⟨p, hp, e⟩)
    exact ⟨by rw [I.size_setCells]; exact hb.lt, fun j v hv => by rw [World.cell?_setCells_out k _ 0 w ⟨p.1, j, none⟩ (fun e _ => absurd e hk)]; exact hb.cell j v hv, fun j => by rw [World.frozen?_setCells]; exact hb.fz j⟩
theorem sOf_bad (xs : List Nat) (hl : 64 < xs.length) (v : Value) (w : World) (hv : By w v xs) :
    Calls Tryd.prog 9 #[v] w fun e w' => e = .returned (.tuple #[N ⟨0, 0, 0, 0⟩, .int .i64 2]) ∧ Below w.heap.size w w' := by
  obtain ⟨ad, c, rfl, hv'⟩ := hv
  have d1 : ((xs.length : Int) > 64) := by omega
  go_enter Tryd.func9, Tryd.ntmps9
  have s0 : Hid (Kn (kz4 w) [(w.heap.size, zz4)]) := ((Kn.nil w).al zz4 24 rfl)
  have b0 : Hid (Below w.heap.size w (kz4 w)) := ((Below.refl _ _).alloc (Nat.le_refl _) _)
  go_wp2_with fail
  have urr_0 : (kz4 w).cell? ⟨w.heap.size, 0, none⟩ = some (.int .u64 0) := Kn.get s0.out 0 0 rfl rfl
  have urr_1 : (kz4 w).cell? ⟨w.heap.size, 1, none⟩ = some (.int .u64 0) := Kn.get s0.out 0 1 rfl rfl
  have urr_2 : (kz4 w).cell? ⟨w.heap.size, 2, none⟩ = some (.int .u64 0) := Kn.get s0.out 0 2 rfl rfl
  have urr_3 : (kz4 w).cell? ⟨w.heap.size, 3, none⟩ = some (.int .u64 0) := Kn.get s0.out 0 3 rfl rfl
  refine bodyPost_ret (v := .tuple #[N ⟨0, 0, 0, 0⟩, .int .i64 2]) ?_ rfl ⟨rfl, b0.out⟩
  show (results Tryd.f9 _).run Tryd.prog (kz4 w) = .ok _ (kz4 w)
  clear s0 b0
  generalize (kz4 w) = W9 at *
  simp [results, Tryd.results9, go_sem, urr_0, urr_1, urr_2, urr_3]
set_option maxHeartbeats 2000000 in
theorem sOf_walk (xs ys zs : List Nat) (m t : Nat) (p : Nm) (ad : Option Addr) (c : Nat) (hl : xs.length ≤ 64) (hy : xs.take 32 = ys) (hz : xs.drop m = zs) (hm : ys.length = m) (ht : zs.length = t) (l1 : m ≤ 32) (l2 : t ≤ 32) (l3 : m ≤ xs.length) (o1 : ∀ x ∈ ys, x < 256) (o2 : ∀ x ∈ zs, x < 256)
    (T1 : ∀ w, Calls Tryd.prog 28 #[.agg (bR (S.le (S.pad ys))).toArray, .agg (bR (S.le (S.pad zs))).toArray] w fun e w' => e = .returned (N p) ∧ Below w.heap.size w w')
    (w : World) (hv : By w (.slice ad xs.length c) xs) :
    Calls Tryd.prog 9 #[.slice ad xs.length c] w fun e w' => e = .returned (.tuple #[N p, .int .i64 0]) ∧ Below w.heap.size w w' := by
  have HV : Hid (By w (.slice ad xs.length c) xs) := hv
  have d1 : ¬ ((xs.length : Int) > 64) := by omega
  have Hl : Hid _ := hl
  have Hy : Hid _ := hy
  have Hz : Hid _ := hz
  have Hm : Hid _ := hm
  have Ht : Hid _ := ht
  have H1 : Hid _ := l1
  have H2 : Hid _ := l2
  have H3 : Hid _ := l3
  have O1 : Hid _ := o1
  have O2 : Hid _ := o2
  clear hv hl hy hz hm ht l1 l2 l3 o1 o2
  go_enter Tryd.func9, Tryd.ntmps9
  have s0 : Hid (Kn (kz4 w) [(w.heap.size, zz4)]) := ((Kn.nil w).al zz4 24 rfl)
  have b0 : Hid (Below w.heap.size w (kz4 w)) := ((Below.refl _ _).alloc (Nat.le_refl _) _)
  have s1 : Hid (Kn ((kz4 w).alloc (.cells #[Value.int IntKind.u8 0, Value.int IntKind.u8 0, Value.int IntKind.u8 0, Value.int IntKind.u8 0, Value.int IntKind.u8 0, Value.int IntKind.u8 0, Value.int IntKind.u8 0, Value.int IntKind.u8 0, Value.int IntKind.u8 0, Value.int IntKind.u8 0, Value.int IntKind.u8 0, Value.int IntKind.u8 0, Value.int IntKind.u8 0, Value.int IntKind.u8 0, Value.int IntKind.u8 0, Value.int IntKind.u8 0, Value.int IntKind.u8 0, Value.int IntKind.u8 0, Value.int IntKind.u8 0, Value.int IntKind.u8 0, Value.int IntKind.u8 0, Value.int IntKind.u8 0, Value.int IntKind.u8 0, Value.int IntKind.u8 0, Value.int IntKind.u8 0, Value.int IntKind.u8 0, Value.int IntKind.u8 0, Value.int IntKind.u8 0, Value.int IntKind.u8 0, Value.int IntKind.u8 0, Value.int IntKind.u8 0, Value.int IntKind.u8 0] 51)) [(w.heap.size + 1, bZ), (w.heap.size, zz4)]) := s0.out.al bZ 51 (by simp)
  have b1 : Hid (Below w.heap.size w ((kz4 w).alloc (.cells #[Value.int IntKind.u8 0, Value.int IntKind.u8 0, Value.int IntKind.u8 0, Value.int IntKind.u8 0, Value.int IntKind.u8 0, Value.int IntKind.u8 0, Value.int IntKind.u8 0, Value.int IntKind.u8 0, Value.int IntKind.u8 0, Value.int IntKind.u8 0, Value.int IntKind.u8 0, Value.int IntKind.u8 0, Value.int IntKind.u8 0, Value.int IntKind.u8 0, Value.int IntKind.u8 0, Value.int IntKind.u8 0, Value.int IntKind.u8 0, Value.int IntKind.u8 0, Value.int IntKind.u8 0, Value.int IntKind.u8 0, Value.int IntKind.u8 0, Value.int IntKind.u8 0, Value.int IntKind.u8 0, Value.int IntKind.u8 0, Value.int IntKind.u8 0, Value.int IntKind.u8 0, Value.int IntKind.u8 0, Value.int IntKind.u8 0, Value.int IntKind.u8 0, Value.int IntKind.u8 0, Value.int IntKind.u8 0, Value.int IntKind.u8 0] 51))) := b0.out.alloc b0.out.size _
  have z1 := b0.out.size
  clear s0 b0
  have s2 : Hid (Kn (((kz4 w).alloc (.cells #[Value.int IntKind.u8 0, Value.int IntKind.u8 0, Value.int IntKind.u8 0, Value.int IntKind.u8 0, Value.int IntKind.u8 0, Value.int IntKind.u8 0, Value.int IntKind.u8 0, Value.int IntKind.u8 0, Value.int IntKind.u8 0, Value.int IntKind.u8 0, Value.int IntKind.u8 0, Value.int IntKind.u8 0, Value.int IntKind.u8 0, Value.int IntKind.u8 0, Value.int IntKind.u8 0, Value.int IntKind.u8 0, Value.int IntKind.u8 0, Value.int IntKind.u8 0, Value.int IntKind.u8 0, Value.int IntKind.u8 0, Value.int IntKind.u8 0, Value.int IntKind.u8 0, Value.int IntKind.u8 0, Value.int IntKind.u8 0, Value.int IntKind.u8 0, Value.int IntKind.u8 0, Value.int IntKind.u8 0, Value.int IntKind.u8 0, Value.int IntKind.u8 0, Value.int IntKind.u8 0, Value.int IntKind.u8 0, Value.int IntKind.u8 0] 51)).alloc (.cells #[Value.int IntKind.u8 0, Value.int IntKind.u8 0, Value.int IntKind.u8 0, Value.int IntKind.u8 0, Value.int IntKind.u8 0, Value.int IntKind.u8 0, Value.int IntKind.u8 0, Value.int IntKind.u8 0, Value.int IntKind.u8 0, Value.int IntKind.u8 0, Value.int IntKind.u8 0, Value.int IntKind.u8 0, Value.int IntKind.u8 0, Value.int IntKind.u8 0, Value.int IntKind.u8 0, Value.int IntKind.u8 0, Value.int IntKind.u8 0, Value.int IntKind.u8 0, Value.int IntKind.u8 0, Value.int IntKind.u8 0, Value.int IntKind.u8 0, Value.int IntKind.u8 0, Value.int IntKind.u8 0, Value.int IntKind.u8 0, Value.int IntKind.u8 0, Value.int IntKind.u8 0, Value.int IntKind.u8 0, Value.int IntKind.u8 0, Value.int IntKind.u8 0, Value.int IntKind.u8 0, Value.int IntKind.u8 0, Value.int IntKind.u8 0] 51)) [(w.heap.size + 1 + 1, bZ), (w.heap.size + 1, bZ), (w.heap.size, zz4)]) := s1.out.al bZ 51 (by simp)
  have b2 : Hid (Below w.heap.size w (((kz4 w).alloc (.cells #[Value.int IntKind.u8 0, Value.int IntKind.u8 0, Value.int IntKind.u8 0, Value.int IntKind.u8 0, Value.int IntKind.u8 0, Value.int IntKind.u8 0, Value.int IntKind.u8 0, Value.int IntKind.u8 0, Value.int IntKind.u8 0, Value.int IntKind.u8 0, Value.int IntKind.u8 0, Value.int IntKind.u8 0, Value.int IntKind.u8 0, Value.int IntKind.u8 0, Value.int IntKind.u8 0, Value.int IntKind.u8 0, Value.int IntKind.u8 0, Value.int IntKind.u8 0, Value.int IntKind.u8 0, Value.int IntKind.u8 0, Value.int IntKind.u8 0, Value.int IntKind.u8 0, Value.int IntKind.u8 0, Value.int IntKind.u8 0, Value.int IntKind.u8 0, Value.int IntKind.u8 0, Value.int IntKind.u8 0, Value.int IntKind.u8 0, Value.int IntKind.u8 0, Value.int IntKind.u8 0, Value.int IntKind.u8 0, Value.int IntKind.u8 0] 51)).alloc (.cells #[Value.int IntKind.u8 0, Value.int IntKind.u8 0, Value.int IntKind.u8 0, Value.int IntKind.u8 0, Value.int IntKind.u8 0, Value.int IntKind.u8 0, Value.int IntKind.u8 0, Value.int IntKind.u8 0, Value.int IntKind.u8 0, Value.int IntKind.u8 0, Value.int IntKind.u8 0, Value.int IntKind.u8 0, Value.int IntKind.u8 0, Value.int IntKind.u8 0, Value.int IntKind.u8 0, Value.int IntKind.u8 0, Value.int IntKind.u8 0, Value.int IntKind.u8 0, Value.int IntKind.u8 0, Value.int IntKind.u8 0, Value.int IntKind.u8 0, Value.int IntKind.u8 0, Value.int IntKind.u8 0, Value.int IntKind.u8 0, Value.int IntKind.u8 0, Value.int IntKind.u8 0, Value.int IntKind.u8 0, Value.int IntKind.u8 0, Value.int IntKind.u8 0, Value.int IntKind.u8 0, Value.int IntKind.u8 0, Value.int IntKind.u8 0] 51))) := b1.out.alloc b1.out.size _
  have z2 := b1.out.size
  clear s1 b1
  have HB := HV.out.up b2.out (Nat.le_refl _)
  have TT : (((kz4 w).alloc (.cells #[Value.int IntKind.u8 0, Value.int IntKind.u8 0, Value.int IntKind.u8 0, Value.int IntKind.u8 0, Value.int IntKind.u8 0, Value.int IntKind.u8 0, Value.int IntKind.u8 0, Value.int IntKind.u8 0, Value.int IntKind.u8 0, Value.int IntKind.u8 0, Value.int IntKind.u8 0, Value.int IntKind.u8 0, Value.int IntKind.u8 0, Value.int IntKind.u8 0, Value.int IntKind.u8 0, Value.int IntKind.u8 0, Value.int IntKind.u8 0, Value.int IntKind.u8 0, Value.int IntKind.u8 0, Value.int IntKind.u8 0, Value.int IntKind.u8 0, Value.int IntKind.u8 0, Value.int IntKind.u8 0, Value.int IntKind.u8 0, Value.int IntKind.u8 0, Value.int IntKind.u8 0, Value.int IntKind.u8 0, Value.int IntKind.u8 0, Value.int IntKind.u8 0, Value.int IntKind.u8 0, Value.int IntKind.u8 0, Value.int IntKind.u8 0] 51)).alloc (.cells #[Value.int IntKind.u8 0, Value.int IntKind.u8 0, Value.int IntKind.u8 0, Value.int IntKind.u8 0, Value.int IntKind.u8 0, Value.int IntKind.u8 0, Value.int IntKind.u8 0, Value.int IntKind.u8 0, Value.int IntKind.u8 0, Value.int IntKind.u8 0, Value.int IntKind.u8 0, Value.int IntKind.u8 0, Value.int IntKind.u8 0, Value.int IntKind.u8 0, Value.int IntKind.u8 0, Value.int IntKind.u8 0, Value.int IntKind.u8 0, Value.int IntKind.u8 0, Value.int IntKind.u8 0, Value.int IntKind.u8 0, Value.int IntKind.u8 0, Value.int IntKind.u8 0, Value.int IntKind.u8 0, Value.int IntKind.u8 0, Value.int IntKind.u8 0, Value.int IntKind.u8 0, Value.int IntKind.u8 0, Value.int IntKind.u8 0, Value.int IntKind.u8 0, Value.int IntKind.u8 0, Value.int IntKind.u8 0, Value.int IntKind.u8 0] 51)).there (w.heap.size + 1) 0 m := fun j hj => Kn.there s2.out 1 rfl (us := bZ) rfl j (by rw [bZ_length]; exact Nat.lt_of_lt_of_le hj H1.out)
  go_wp2_with (first | simp only [zero_b32] | refine wp_all32 rfl _ rfl (w.heap.size + 1) rfl ?_ | refine wp_copyM rfl _ _ rfl (w.heap.size + 1) 0 32 32 _ xs ys m rfl rfl HB Hy.out Hm.out TT ?_)
  clear HB TT
  intro w3 hw3
  have s3 : Hid (Kn w3 [(w.heap.size + 1, bR (S.le (S.pad ys))), (w.heap.size + 1 + 1, bZ), (w.heap.size, zz4)]) := by
    rw [hw3.out]
    exact Kn.fill (s2.out.front 1 rfl) (by rw [Hm.out]; exact H1.out) O1.out
  have b3 : Hid (Below w.heap.size w w3) := by rw [hw3.out]; exact I.below_setCells _ _ _ b2.out (by omega)
  clear hw3 s2 b2
  obtain ⟨sv, hsv⟩ : ∃ sv, Hid (sliced ad m xs.length c 1 = sv) := ⟨_, rfl⟩
  go_wp2_with fail
  refine wp_region_then3 4 (by kernel_rfl) (by kernel_rfl) (by kernel_rfl) (by kernel_rfl) (by decide) (fun _ _ d _ _ h => by cases d <;> exact h) ?_
  apply Exists.intro
  refine ⟨fun U hU f hf hcl => ?_, fun w4 hb4 => ?_⟩
  · skip
    clear hf
    simp only [List.take_succ_cons, List.take_zero]
    repeat (first | (refine quiet_all32 rfl _ rfl (w.heap.size + 1 + 1) rfl ?_; simp only [Act.put, List.setIfInBounds_toArray, List.set_cons_succ, List.set_cons_zero]) | (refine quiet_cutB rfl _ _ rfl ad xs.length c m .i64 _ rfl rfl rfl H3.out sv hsv.out ?_; simp only [Act.put, List.setIfInBounds_toArray, List.set_cons_succ, List.set_cons_zero]) | go_big_quiet_step (first | fail))
    exact wpQuiet_nil rfl
  simp only [List.drop_succ_cons, List.drop_zero]
  have s4 : Hid (Kn w4 [(w.heap.size + 1, (bR (S.le (S.pad ys)))), (w.heap.size + 1 + 1, bZ), (w.heap.size, zz4)]) := s3.out.up hb4.out
  have b4 : Hid (Below w.heap.size w w4) := b3.out.trans (hb4.out.mono b3.out.size)
  have z4 := b4.out.size
  clear hb4 s3 b3
  have HS4 : By w4 sv zs := by
    rw [← hsv.out, ← Hz.out]
    exact (HV.out.up b4.out (Nat.le_refl _)).cut H3.out
  have TT : w4.there (w.heap.size + 1 + 1) 0 t := fun j hj => Kn.there s4.out 1 rfl (us := bZ) rfl j (by rw [bZ_length]; exact Nat.lt_of_lt_of_le hj H2.out)
  have Hz2 : List.take 32 zs = zs := List.take_of_length_le (by rw [Ht.out]; exact H2.out)
  have Hz3 : Hid _ := Hz2
  clear Hz2
  go_wp2_with (first | refine wp_copyM rfl _ _ rfl (w.heap.size + 1 + 1) 0 32 32 _ zs zs t rfl rfl HS4 Hz3.out Ht.out TT ?_)
  clear HS4 TT
  intro w5 hw5
  have s5 : Hid (Kn w5 [(w.heap.size + 1 + 1, bR (S.le (S.pad zs))), (w.heap.size + 1, bR (S.le (S.pad ys))), (w.heap.size, zz4)]) := by
    rw [hw5.out]
    exact Kn.fill (s4.out.front 1 rfl) (by rw [Ht.out]; exact H2.out) O2.out
  have b5 : Hid (Below w.heap.size w w5) := by rw [hw5.out]; exact I.below_setCells _ _ _ b4.out (by omega)
  clear hw5 s4 b4
  go_wp2_with (first | refine wp_ldW rfl 51 _ rfl (w.heap.size + 1) 0 rfl (bR (S.le (S.pad ys))) _ (Kn.rng s5.out 1 rfl) Tryd.underlying51 rfl (info_bR (S.le (S.pad ys))) ?_ | refine wp_ldW rfl 51 _ rfl (w.heap.size + 1 + 1) 0 rfl (bR (S.le (S.pad zs))) _ (Kn.rng s5.out 0 rfl) Tryd.underlying51 rfl (info_bR (S.le (S.pad zs))) ?_)
  refine (T1 _).mono ?_
  rintro e w6 ⟨rfl, hb6⟩
  have s6 : Hid (Kn w6 [(w.heap.size + 1 + 1, (bR (S.le (S.pad zs)))), (w.heap.size + 1, (bR (S.le (S.pad ys)))), (w.heap.size, zz4)]) := s5.out.up hb6
  have b6 : Hid (Below w.heap.size w w6) := b5.out.trans (hb6.mono b5.out.size)
  have z6 := b6.out.size
  clear hb6 s5 b5
  have uro_0 : w6.cell? ⟨w.heap.size, 0, none⟩ = some (.int .u64 0) := Kn.get s6.out 2 0 rfl rfl
  have uro_1 : w6.cell? ⟨w.heap.size, 1, none⟩ = some (.int .u64 0) := Kn.get s6.out 2 1 rfl rfl
  have uro_2 : w6.cell? ⟨w.heap.size, 2, none⟩ = some (.int .u64 0) := Kn.get s6.out 2 2 rfl rfl
  have uro_3 : w6.cell? ⟨w.heap.size, 3, none⟩ = some (.int .u64 0) := Kn.get s6.out 2 3 rfl rfl
  have uro_z : ∀ j, w6.frozen? ⟨w.heap.size, j, none⟩ = false := Kn.fz s6.out 2 rfl
  have s7 : Hid (Kn (st4 w6 (w.heap.size) (p)) [(w.heap.size, (c4 (p))), (w.heap.size + 1 + 1, (bR (S.le (S.pad zs)))), (w.heap.size + 1, (bR (S.le (S.pad ys))))]) := Kn.st4 (L := [(w.heap.size + 1 + 1, (bR (S.le (S.pad zs)))), (w.heap.size + 1, (bR (S.le (S.pad ys))))]) (s6.out.front 2 rfl) (p)
  have b7 : Hid (Below w.heap.size w (st4 w6 (w.heap.size) (p))) := below_st4 b6.out (by omega)
  clear s6 b6
  go_wp2_with fail
  clear uro_0 uro_1 uro_2 uro_3 uro_z
  have urr_0 : (st4 w6 (w.heap.size) (p)).cell? ⟨w.heap.size, 0, none⟩ = some (.int .u64 (p).a) := Kn.get s7.out 0 0 rfl rfl
  have urr_1 : (st4 w6 (w.heap.size) (p)).cell? ⟨w.heap.size, 1, none⟩ = some (.int .u64 (p).b) := Kn.get s7.out 0 1 rfl rfl
  have urr_2 : (st4 w6 (w.heap.size) (p)).cell? ⟨w.heap.size, 2, none⟩ = some (.int .u64 (p).c) := Kn.get s7.out 0 2 rfl rfl
  have urr_3 : (st4 w6 (w.heap.size) (p)).cell? ⟨w.heap.size, 3, none⟩ = some (.int .u64 (p).d) := Kn.get s7.out 0 3 rfl rfl
  refine bodyPost_ret (v := .tuple #[N p, .int .i64 0]) ?_ rfl ⟨rfl, b7.out⟩
  show (results Tryd.f9 _).run Tryd.prog (st4 w6 (w.heap.size) (p)) = .ok _ (st4 w6 (w.heap.size) (p))
  clear s7 b7
  generalize (st4 w6 (w.heap.size) (p)) = W9 at *
  simp [results, Tryd.results9, go_sem, urr_0, urr_1, urr_2, urr_3]
theorem sOf_fun (xs : List Nat) (hl : xs.length ≤ 64) (lo : ∀ x ∈ xs, x < 256) (v : Value) (w : World) (hv : By w v xs) :
    Calls Tryd.prog 9 #[v] w fun e w' => e = .returned (.tuple #[N (nm (S.le xs % Cv.ord)), .int .i64 0]) ∧ Below w.heap.size w w' := by
  have lt : ∀ x ∈ xs.take 32, x < 256 := fun x hx => lo x (List.mem_of_mem_take hx)
  have ld : ∀ x ∈ xs.drop 32, x < 256 := fun x hx => lo x (List.mem_of_mem_drop hx)
  have l1 : (xs.take 32).length ≤ 32 := by rw [List.length_take]; omega
  have l2 : (xs.drop 32).length ≤ 32 := by rw [List.length_drop]; omega
  have T1 := sHalves_fun (S.low (S.pad_length l1) (S.pad_low lt)) (S.low (S.pad_length l2) (S.pad_low ld))
  rw [← S.halves] at T1
  have hv' := hv
  obtain ⟨ad, c, rfl, _⟩ := hv
  refine sOf_walk xs _ _ _ _ _ ad c hl rfl ?_ rfl rfl l1 l2 (by rw [List.length_take]; omega) lt ld T1 w hv'
  rw [List.length_take]
  rcases Nat.lt_or_ge 32 xs.length with h | h
  · rw [Nat.min_eq_left (by omega)]
  · rw [Nat.min_eq_right h, List.drop_of_length_le (Nat.le_refl _), List.drop_of_length_le h]
end Go.Proofs.YtjcnfffmciahiaaDoor
