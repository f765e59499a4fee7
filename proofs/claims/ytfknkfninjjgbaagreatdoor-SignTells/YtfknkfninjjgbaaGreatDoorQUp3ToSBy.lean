/- Texts that were joined: Up3, ScOf, SNum, SBy. -/
import Derived.Test.YtfknkfninjjgbaaGreatDoorQUpA
import Derived.Test.YtfknkfninjjgbaaGreatDoorQScDToScF
import Derived.Test.YtfknkfninjjgbaaGreatDoorQOfB
import Derived.Test.YtfknkfninjjgbaaGreatDoorQBKToCpy
import Derived.Test.YtfknkfninjjgbaaGreatDoorQKnToDNum
import Derived.Test.YtfknkfninjjgbaaGreatDoorQDDigPToFeP
import Derived.Test.YtfknkfninjjgbaaGreatDoorQDRestToDNumP
/- A region that draws its order of evaluation: readings and calls, then operations that wait for all of these, by whatever chain. Over any program. -/
namespace Go.Proofs.YtfknkfninjjgbaaGreatDoor
open Go.RowKit
theorem wp_region_then3 {P : Program} {id : Nat} {Q : Exit → Act → World → Prop} {a : Act} {w : World} (m : Nat) {l : List Oper} (hm : P.follows .mixedOrders = true) (hB : Region.lexB .any (l.take m).toArray = true) (hS : allocB .any l.toArray m m = true) (hN : Region.noSelect l.toArray = true)
  (hmn : m ≤ l.length) (hQp : ∀ c a d v w, Q (.panic c) (a.put d v) w → Q (.panic c) a w)
  (h : ∃ aF, (∀ (U : Type) (_ : Nonempty U) (f : U → World), (∀ n, Hid (Below w.heap.size w (f n))) → Hid (∀ n w', Below (f n).heap.size (f n) w' → ∃ m, w' = f m) →
   wpQuiet P (l.take m).toArray (fun w' => ∃ n : U, w' = f n) (fun a' => a' = aF) (l.take m) a) ∧
  (∀ w', Hid (Below w.heap.size w w') → wpList P l.toArray Q (l.drop m) aF w')) :
  (Code.region id l.toArray true).wp P Q a w := by
 obtain ⟨aF, h1, h2⟩ := h
 refine wp_region_allocs m m (fun _ => .cells #[] 0) hm hB hS hN (Nat.le_refl _) hmn hQp (fun i o hi hi2 _ => absurd hi2 (by omega)) h1 (fun D w' hw' hn hr hc => ?_)
 have : D = [] := by
  cases D with
  | nil => rfl
  | cons p D => have := hr p (by simp); omega
 subst this
 exact h2 w' hw'.1
end Go.Proofs.YtfknkfninjjgbaaGreatDoor

/- Package scalar, as it landed: ofHalves, Of. -/
namespace Go.Proofs.YtfknkfninjjgbaaGreatDoor
open Go.RowKit
attribute [local go_sem] World.cell?_alloc_some cell_alloc2 cell_alloc3 cell_alloc4 frozen?_alloc_cells frozen_out
set_option linter.unusedSimpArgs false
/-- The number of bytes, the least first. -/
def S.le : List Nat → Nat
 | [] => 0
 | x :: xs => x + 256 * S.le xs
theorem S.le_append : ∀ xs ys : List Nat, S.le (xs ++ ys) = S.le xs + 256 ^ xs.length * S.le ys
 | [], ys => by simp [S.le]
 | x :: xs, ys => by
  rw [List.cons_append, S.le, S.le, S.le_append xs ys, List.length_cons, Nat.pow_succ, Nat.mul_comm (256 ^ xs.length) 256, Nat.mul_assoc]
  omega
theorem S.le_zeros : ∀ n, S.le (List.replicate n 0) = 0
 | 0 => rfl
 | n + 1 => by rw [List.replicate_succ, S.le, S.le_zeros n]
theorem S.le_lt : ∀ xs : List Nat, (∀ x ∈ xs, x < 256) → S.le xs < 256 ^ xs.length
 | [], _ => by simp [S.le]
 | x :: xs, h => by
  have h1 := S.le_lt xs fun y hy => h y (List.mem_cons_of_mem _ hy)
  have h2 := h x List.mem_cons_self
  rw [S.le, List.length_cons, Nat.pow_succ]
  omega
theorem S.le_at : ∀ (xs : List Nat), (∀ x ∈ xs, x < 256) → ∀ i, S.le xs / 256 ^ i % 256 = xs.getD i 0
 | [], _, i => by simp [S.le]
 | x :: xs, h, 0 => by
  have h2 := h x List.mem_cons_self
  rw [S.le, Nat.pow_zero, Nat.div_one]
  show _ = x
  omega
 | x :: xs, h, i + 1 => by
  have h2 := h x List.mem_cons_self
  rw [S.le, Nat.pow_succ, Nat.mul_comm (256 ^ i) 256, ← Nat.div_div_eq_div_mul, show (x + 256 * S.le xs) / 256 = S.le xs by omega, S.le_at xs (fun y hy => h y (List.mem_cons_of_mem _ hy)) i]
  simp
theorem S.row {xs : List Nat} (hl : xs.length = 32) (h : ∀ x ∈ xs, x < 256) : xs.map b8 = bR (S.le xs) := by
 apply List.ext_getElem?
 intro i
 by_cases hi : i < 32
 ·have h1 := S.le_at xs h i
  rw [List.getD_eq_getElem?_getD, List.getElem?_eq_getElem (by omega)] at h1
  rw [List.getElem?_map, List.getElem?_eq_getElem (by omega)]
  simp only [Option.getD_some] at h1
  simp only [bR, List.getElem?_map, List.getElem?_range hi, Option.map_some]
  rw [h1]
 ·rw [List.getElem?_eq_none (by simp; omega), List.getElem?_eq_none (by rw [bR_length]; omega)]
theorem S.low {xs : List Nat} (hl : xs.length = 32) (h : ∀ x ∈ xs, x < 256) : S.le xs < 2 ^ 256 := Nat.lt_of_lt_of_le (S.le_lt xs h) (by rw [hl]; decide)
/-- Thirty-two bytes: these, and noughts behind them. -/
def S.pad (xs : List Nat) : List Nat := xs ++ List.replicate (32 - xs.length) 0
theorem S.pad_le (xs : List Nat) : S.le (S.pad xs) = S.le xs := by rw [S.pad, S.le_append, S.le_zeros, Nat.mul_zero, Nat.add_zero]
theorem S.halves (xs : List Nat) : S.le xs = S.le (S.pad (xs.take 32)) + 2 ^ 256 * S.le (S.pad (xs.drop 32)) := by
 rw [S.pad_le, S.pad_le]
 rcases Nat.lt_or_ge 32 xs.length with h | h
 ·conv => lhs; rw [← List.take_append_drop 32 xs]
  rw [S.le_append, List.length_take, Nat.min_eq_left (by omega), show (256 : Nat) ^ 32 = 2 ^ 256 by decide]
 ·rw [List.take_of_length_le h, List.drop_of_length_le h, S.le, Nat.mul_zero, Nat.add_zero]
set_option maxHeartbeats 1000000 in
theorem sHalves_walk (a b : Nat) (x y p : Nm)
  (O1 : ∀ w, Calls Tryz.prog 76 #[.agg (bR (a)).toArray] w fun e w' => e = .returned (N x) ∧ Below w.heap.size w w')
  (O2 : ∀ w, Calls Tryz.prog 76 #[.agg (bR (b)).toArray] w fun e w' => e = .returned (N y) ∧ Below w.heap.size w w')
  (SR : ∀ w, Calls Tryz.prog 68 #[Wv x y] w fun e w' => e = .returned (N p) ∧ Below w.heap.size w w')
  (w : World) :
  Calls Tryz.prog 46 #[bV a, bV b] w fun e w' => e = .returned (N p) ∧ Below w.heap.size w w' := by
 go_enter Tryz.func46, Tryz.ntmps46
 have s0 : Hid (Kn (kz4 ((w.alloc (.cells (bR (a)).toArray 22)).alloc (.cells (bR (b)).toArray 22))) [(w.heap.size + 1 + 1, zz4), (w.heap.size + 1, (bR (b))), (w.heap.size, (bR (a)))]) := ((((Kn.nil w).al (bR (a)) 22 rfl).al (bR (b)) 22 (by simp)).al zz4 26 (by simp))
 have b0 : Hid (Below w.heap.size w (kz4 ((w.alloc (.cells (bR (a)).toArray 22)).alloc (.cells (bR (b)).toArray 22)))) := ((((Below.refl _ _).alloc (Nat.le_refl _) _).alloc (by simp <;> omega) _).alloc (by simp <;> omega) _)
 go_wp2_with fail
 refine wp_region_up_then 6 (by kernel_rfl) (by kernel_rfl) (by kernel_rfl) (by kernel_rfl) (by decide) (fun _ _ d _ _ h => by cases d <;> exact h) (fun U hU f hf hcl => ?_)
 have ra_lo_0 := fun nx => (Kn.rng (s0.out.up (hf nx).out) 2 rfl : (f nx).rangeAt (w.heap.size) 0 (bR (a)))
 have ra_hi_0 := fun nx => (Kn.rng (s0.out.up (hf nx).out) 1 rfl : (f nx).rangeAt (w.heap.size + 1) 0 (bR (b)))
 simp only [List.take_succ_cons, List.take_zero, List.drop_succ_cons, List.drop_zero]
 repeat (first | (refine I.quiet_load rfl 22 _ rfl (w.heap.size) 0 rfl (bR (a)) _ (fun W hW => by obtain ⟨nx, rfl⟩ := hW; exact ra_lo_0 nx) Tryz.underlying22 rfl (info_bR (a)) ?_; simp only [Act.put, List.setIfInBounds_toArray, List.set_cons_succ, List.set_cons_zero]) | (refine I.quiet_load rfl 22 _ rfl (w.heap.size + 1) 0 rfl (bR (b)) _ (fun W hW => by obtain ⟨nx, rfl⟩ := hW; exact ra_hi_0 nx) Tryz.underlying22 rfl (info_bR (b)) ?_; simp only [Act.put, List.setIfInBounds_toArray, List.set_cons_succ, List.set_cons_zero]) | go_big_quiet_step (first | (go_at_call_of 76 [Value.agg (bR (a)).toArray]; exact (O1 _).mono fun e w'' ⟨he, hb⟩ => ⟨he, hcl.out _ _ hb⟩) | (go_at_call_of 76 [Value.agg (bR (b)).toArray]; exact (O2 _).mono fun e w'' ⟨he, hb⟩ => ⟨he, hcl.out _ _ hb⟩) | (go_at_call 87; exact (wideOf_fun x y _).mono fun e w'' ⟨he, hb⟩ => ⟨he, hcl.out _ _ hb⟩) | (go_at_call 68; exact (SR _).mono fun e w'' ⟨he, hb⟩ => ⟨he, hcl.out _ _ hb⟩)))
 refine wpQuiet_nil ?_
 intro nx
 have hb1 := (hf nx).out
 clear hf hcl
 generalize f nx = w1 at hb1 ⊢
 have s1 : Hid (Kn w1 _) := s0.out.up hb1
 have b1 : Hid (Below w.heap.size w w1) := b0.out.trans (hb1.mono b0.out.size)
 have z1 := b1.out.size
 clear hb1 s0 b0
 have uro_0 : w1.cell? ⟨w.heap.size + 1 + 1, 0, none⟩ = some (.int .u64 0) := Kn.get s1.out 0 0 rfl rfl
 have uro_1 : w1.cell? ⟨w.heap.size + 1 + 1, 1, none⟩ = some (.int .u64 0) := Kn.get s1.out 0 1 rfl rfl
 have uro_2 : w1.cell? ⟨w.heap.size + 1 + 1, 2, none⟩ = some (.int .u64 0) := Kn.get s1.out 0 2 rfl rfl
 have uro_3 : w1.cell? ⟨w.heap.size + 1 + 1, 3, none⟩ = some (.int .u64 0) := Kn.get s1.out 0 3 rfl rfl
 have uro_z : ∀ j, w1.frozen? ⟨w.heap.size + 1 + 1, j, none⟩ = false := Kn.fz s1.out 0 rfl
 have s2 : Hid (Kn (st4 w1 (w.heap.size + 1 + 1) (p)) [(w.heap.size + 1 + 1, (c4 (p))), (w.heap.size + 1, (bR (b))), (w.heap.size, (bR (a)))]) := Kn.st4 (L := [(w.heap.size + 1, (bR (b))), (w.heap.size, (bR (a)))]) (s1.out.front 0 rfl) (p)
 have b2 : Hid (Below w.heap.size w (st4 w1 (w.heap.size + 1 + 1) (p))) := below_st4 b1.out (by omega)
 clear s1 b1
 go_wp2_with fail
 clear uro_0 uro_1 uro_2 uro_3 uro_z
 have urr_0 : (st4 w1 (w.heap.size + 1 + 1) (p)).cell? ⟨w.heap.size + 1 + 1, 0, none⟩ = some (.int .u64 (p).a) := Kn.get s2.out 0 0 rfl rfl
 have urr_1 : (st4 w1 (w.heap.size + 1 + 1) (p)).cell? ⟨w.heap.size + 1 + 1, 1, none⟩ = some (.int .u64 (p).b) := Kn.get s2.out 0 1 rfl rfl
 have urr_2 : (st4 w1 (w.heap.size + 1 + 1) (p)).cell? ⟨w.heap.size + 1 + 1, 2, none⟩ = some (.int .u64 (p).c) := Kn.get s2.out 0 2 rfl rfl
 have urr_3 : (st4 w1 (w.heap.size + 1 + 1) (p)).cell? ⟨w.heap.size + 1 + 1, 3, none⟩ = some (.int .u64 (p).d) := Kn.get s2.out 0 3 rfl rfl
 refine bodyPost_ret (v := N p) ?_ rfl ⟨rfl, b2.out⟩
 show (results Tryz.f46 _).run Tryz.prog (st4 w1 (w.heap.size + 1 + 1) (p)) = .ok _ (st4 w1 (w.heap.size + 1 + 1) (p))
 clear s2 b2
 generalize (st4 w1 (w.heap.size + 1 + 1) (p)) = W9 at *
 simp [results, Tryz.results46, go_sem, urr_0, urr_1, urr_2, urr_3]
theorem sHalves_fun {a b : Nat} (ha : a < 2 ^ 256) (hb : b < 2 ^ 256) (w : World) :
  Calls Tryz.prog 46 #[bV a, bV b] w fun e w' => e = .returned (N (nm ((a + 2 ^ 256 * b) % Cv.ord))) ∧ Below w.heap.size w w' := by
 have SR := sRed_fun (nm a) (nm b) (nm_ok _) (nm_ok _)
 rw [nm_nat ha, nm_nat hb] at SR
 exact sHalves_walk a b _ _ _ (of_n a ha) (of_n b hb) SR w
theorem u_b32r : (Tryz.prog.info? 5).map (·.size) = some 1 := by kernel_rfl
theorem wp_all32 {ops : Array Oper} {rest : List Oper} {o : Oper} {a : Act} {Q : Exit → Act → World → Prop} {w : World} (hgd : o.guard = none) (x : Operand) (ho : o.op = .slice 22 x none none none) (b : Nat) (hx : a.eval x = .pointer (some ⟨b, 0, none⟩))
  (h : wpList Tryz.prog ops Q rest (a.put o.dst (.slice (some ⟨b, 0, none⟩) 32 32)) w) : wpList Tryz.prog ops Q (o :: rest) a w := by
 refine wpList_plain hgd fun K hK => ?_
 have e1 := slice_all u_b32 u_b32r (by decide) b 0 w
 unfold Oper.wp
 simp [execOp, ho, hx, e1, Result.andThen]
 exact hK _ _ h
end Go.Proofs.YtfknkfninjjgbaaGreatDoor

/- The document's numbers: how often the base makes nothing; the number of bytes. -/
namespace Go.Proofs.YtfknkfninjjgbaaGreatDoor
open Go.RowKit
set_option linter.unusedSimpArgs false
attribute [local go_sem] YieldsP execOp
attribute [local simp] MP.eq_p MP.sl_p MP.sl2_p
theorem S.le_drop {xs : List Nat} {i : Nat} (h : i < xs.length) : S.le (xs.drop i) = S.le (xs.drop (i + 1)) * 256 + xs.getD i 0 := by
 rw [List.drop_eq_getElem_cons h, S.le, List.getD_eq_getElem?_getD, List.getElem?_eq_getElem h, Option.getD_some]
 omega
theorem times_c (Z : Nat) (h : Z < 65536 ^ 64) (u v : Value) (w : World) (su : Sl w u (P.dg Z)) (sv : Sl w v [256]) :
  Calls Tryz.prog 35 #[u, v] w fun e w' => (∃ v', e = .returned v' ∧ Sl w' v' (P.dg (Z * 256))) ∧ Below w.heap.size w w' := by
 have := dtimes_fun u v _ _ (P.dg_Dg Z) (P.Dg.one (show 256 < 65536 by decide)) (Nat.lt_trans (dshort h) (by decide)) (by decide) w su sv
 rwa [P.dv_dg, show P.dv [256] = 256 from rfl] at this
theorem plus_c (Z x : Nat) (h : Z < 65536 ^ 64) (hx : x < 256) (u v : Value) (w : World) (su : Sl w u (P.dg Z)) (sv : Sl w v [x]) :
  Calls Tryz.prog 34 #[u, v] w fun e w' => (∃ v', e = .returned v' ∧ Sl w' v' (P.dg (Z + x))) ∧ Below w.heap.size w w' := by
 have := dplus_fun u v _ _ (P.dg_Dg Z) (P.Dg.one (show x < 65536 by omega)) (Nat.lt_trans (dshort h) (by decide)) (by simp) w su sv
 rwa [P.dv_dg, show P.dv [x] = x by simp [P.dv]] at this
set_option maxRecDepth 20000 in
set_option maxHeartbeats 1000000 in
theorem prime_fun (w : World) : Calls Tryz.prog 37 #[] w fun e w' => (∃ v', e = .returned v' ∧ Sl w' v' (P.dg Cv.ord)) ∧ Below w.heap.size w w' := by
 have T : Hid (∀ W, Calls Tryz.prog 74 #[.int .i64 252] W fun e w' => (∃ v', e = .returned v' ∧ Sl w' v' (P.dg (2 ^ 252))) ∧ Below W.heap.size W w') := fun W => twoTo_n 252 (by decide) W
 have D : Hid (∀ b W, W.cell? ⟨b, 0, none⟩ = some (.int .u64 6346243789798364141) → W.cell? ⟨b, 1, none⟩ = some (.int .u64 1503914060200516822) → Calls Tryz.prog 73 #[.slice (some ⟨b, 0, none⟩) 2 2] W fun e w' => (∃ v', e = .returned v' ∧ Sl w' v' (P.dg 27742317777372353535851937790883648493)) ∧ Below W.heap.size W w') := fun b W h0 h1 => by
  have := digits_fun b [6346243789798364141, 1503914060200516822] (by decide) 2 2 rfl (by decide) W (fun j hj => by
   match j, hj with
   | 0, _ => exact h0
   | 1, _ => exact h1)
  rwa [show wv [6346243789798364141, 1503914060200516822] = 27742317777372353535851937790883648493 by decide] at this
 have M1 : Hid (∀ u v W, Sl W u (P.dg (2 ^ 252)) → Sl W v (P.dg 27742317777372353535851937790883648493) → Calls Tryz.prog 34 #[u, v] W fun e w' => (∃ v', e = .returned v' ∧ Sl w' v' (P.dg Cv.ord)) ∧ Below W.heap.size W w') := fun u v W su sv => by
  have := plus_n (2 ^ 252) 27742317777372353535851937790883648493 (by decide) (by decide) u v W su sv
  rwa [show 2 ^ 252 + 27742317777372353535851937790883648493 = Cv.ord by decide] at this
 obtain ⟨Z, hZ⟩ : ∃ Z : Nat, Hid (27742317777372353535851937790883648493 = Z) := ⟨_, rfl⟩
 rw [hZ.out] at D M1
 obtain ⟨Y, hY⟩ : ∃ Y : Nat, Hid (2 ^ 252 = Y) := ⟨2 ^ 252, show Hid (2 ^ 252 = 2 ^ 252) from Eq.refl (2 ^ 252)⟩
 rw [hY.out] at T M1
 obtain ⟨O, hO⟩ : ∃ O, Hid (O = Cv.ord) := ⟨_, rfl⟩
 rw [← hO.out] at M1 ⊢
 go_enter Tryz.func37, Tryz.ntmps37
 go_wp2_with fail
 refine (T.out w).mono ?_
 rintro e w1 ⟨⟨u, rfl, su⟩, hb⟩
 have SU : Hid (Sl (w1.alloc (.cells #[.int .u64 6346243789798364141, .int .u64 1503914060200516822] 24)) u (P.dg Y)) := Sl.up (xs := P.dg Y) su ((Below.refl _ _).alloc (Nat.le_refl _) _)
 have B1 : Hid (Below w.heap.size w (w1.alloc (.cells #[.int .u64 6346243789798364141, .int .u64 1503914060200516822] 24))) := Below.alloc hb hb.size _
 clear su hb T
 go_wp2_with fail
 refine (D.out w1.heap.size _ (by simp [go_sem]) (by simp [go_sem])).mono ?_
 rintro e w2 ⟨⟨v, rfl, sv⟩, hb⟩
 have SV : Hid (Sl w2 v (P.dg Z)) := sv
 have SU2 : Hid (Sl w2 u (P.dg Y)) := Sl.up (xs := P.dg Y) SU.out hb
 have B2 : Hid (Below w.heap.size w w2) := B1.out.trans (hb.mono B1.out.size)
 clear sv hb D SU B1
 go_wp2_with fail
 refine (M1.out _ _ _ SU2.out SV.out).mono ?_
 rintro e w3 ⟨⟨v3, rfl, sv⟩, hb⟩
 have SV3 : Hid (Sl w3 v3 (P.dg O)) := sv
 have B3 : Hid (Below w.heap.size w w3) := B2.out.trans (hb.mono B2.out.size)
 clear sv hb M1 SU2 SV B2
 go_wp2_with fail
 go_ret
 exact ⟨⟨_, rfl, SV3.out⟩, B3.out⟩
theorem By.at_K {w : World} {ad : Option Addr} {n c K : Nat} {bs : List Nat} (hv : By w (.slice ad n c) bs) (hn : bs.length = n) (hK : K < bs.length) : ∃ g q, ad = some ⟨g, q, none⟩ ∧ Hid (∀ W, Below w.heap.size w W → W.cell? ⟨g, q + K, none⟩ = some (b8 (bs.getD K 0))) := by
 have hv' := hv
 obtain ⟨a', c', e, h1, h2, h3⟩ := hv
 cases e
 obtain ⟨g, q, e2, hc⟩ := h3 (by omega)
 refine ⟨g, q, e2, fun W hW => ?_⟩
 obtain ⟨a'', c'', e, _, _, h4⟩ := hv'.up hW (Nat.le_refl _)
 cases e
 obtain ⟨g', q', e3, hc'⟩ := h4 (by omega)
 rw [e2] at e3
 cases e3
 exact hc' K hK
set_option maxRecDepth 20000 in
set_option maxHeartbeats 2000000 in
theorem number_fun (bs : List Nat) (lo : ∀ x ∈ bs, x < 256) (hl : bs.length ≤ 64) (v : Value) (w : World) (hv : By w v bs) :
  Calls Tryz.prog 53 #[v] w fun e w' => (∃ v', e = .returned v' ∧ Sl w' v' (P.dg (S.le bs))) ∧ Below w.heap.size w w' := by
 have HV : Hid (By w v bs) := hv
 have LD : Hid _ := lo
 have HL : Hid _ := hl
 obtain ⟨ad, c, rfl, _⟩ := hv
 obtain ⟨n, hn⟩ : ∃ n, Hid (bs.length = n) := ⟨_, rfl⟩
 rw [hn.out] at HV
 rw [hn.out]
 have n64 : n ≤ 64 := by rw [← hn.out]; exact hl
 have wn : IntKind.i64.wrap ((n : Int) - 1) = (n : Int) - 1 := by rw [IntKind.wrap_i64]; omega
 clear lo hl
 go_enter Tryz.func53, Tryz.ntmps53
 go_wp2_with fail
 go_loopw [3, 4] (fun l i wr => ∃ K : Nat, K ≤ n ∧ i = .int .i64 ((K : Int) - 1) ∧ Hid (Sl wr l (P.dg (S.le (bs.drop K)))) ∧ Hid (Below w.heap.size w wr)) (fun _ i _ => (intOf i + 1).toNat)
 case atStart => exact ⟨n, Nat.le_refl _, by first | rfl | go_num, .inl ⟨rfl, by rw [List.drop_of_length_le (by rw [hn.out]; exact Nat.le_refl _)]; exact P.dg_zero⟩, Below.refl _ _⟩
 case round =>
  obtain ⟨K, hK, rfl, sx, hb⟩ := hrel
  cases K with
  | zero =>
   rw [List.drop_zero] at sx
   have j0 : ¬ ((((0 : Nat) : Int)) - 1 ≥ 0) := by omega
   go_wp2_with fail
   go_ret
   exact ⟨⟨_, rfl, sx.out⟩, hb.out⟩
  | succ K =>
   have e1 : ((K + 1 : Nat) : Int) - 1 = (K : Int) := by omega
   rw [e1]
   have hKl : K < bs.length := by rw [hn.out]; omega
   have HD : Hid (S.le (bs.drop K) = S.le (bs.drop (K + 1)) * 256 + bs.getD K 0) := S.le_drop hKl
   have ZL : Hid (S.le (bs.drop (K + 1)) * 256 < 65536 ^ 64) := by
    have h1 := S.le_lt (bs.drop (K + 1)) (fun x hx => LD.out x (List.mem_of_mem_drop hx))
    have h2 := Nat.pow_le_pow_right (n := 256) (by decide) (show (bs.drop (K + 1)).length ≤ 64 by rw [List.length_drop, hn.out]; omega)
    have h3 : (256 : Nat) ^ 64 * 256 < 65536 ^ 64 := by decide
    exact Nat.lt_of_lt_of_le (Nat.mul_lt_mul_of_pos_right (Nat.lt_of_lt_of_le h1 h2) (by decide)) (Nat.le_of_lt h3)
   have la : bs.getD K 0 < 256 := by
    rw [List.getD_eq_getElem?_getD, List.getElem?_eq_getElem hKl]
    exact LD.out _ (List.getElem_mem hKl)
   obtain ⟨g, q, ea, CA⟩ := By.at_K HV.out hn.out hKl
   subst ea
   generalize S.le (bs.drop (K + 1)) = Z at *
   generalize bs.getD K 0 = x at *
   have x0' : (0 : Int) ≤ (x : Int) := by omega
   have x2' : (x : Int) < 256 := by omega
   have TI : Hid _ := times_c Z (Nat.lt_of_le_of_lt (Nat.le_mul_of_pos_right _ (by decide)) ZL.out)
   have PL : Hid _ := plus_c (Z * 256) x ZL.out la
   have k0 : (0 : Int) ≤ (K : Int) := by omega
   have k1 : (K : Int) < (n : Int) := by omega
   have HK : Hid (K + 1 ≤ n) := hK
   have j0 : (K : Int) ≥ 0 := k0
   have wk : IntKind.i64.wrap ((K : Int) - 1) = (K : Int) - 1 := by rw [IntKind.wrap_i64]; omega
   clear hK e1 hKl la
   go_wp2_with fail
   refine wp_region_monoE [MP.sl (P.dg Z), MP.sl [256], MP.sl (P.dg (Z * 256)), MP.eq (.slice (some ⟨g, q, none⟩) n c), MP.eq (.int .i64 (K : Int)), MP.eq (.pointer (some ⟨g, q + K, none⟩)), MP.eq (.int .u8 (x : Int)), MP.eq (.int .i64 (x : Int)), MP.sl [x], MP.sl (P.dg (Z * 256 + x)), MP.sl (P.dg (Z * 256 + x))] (by kernel_rfl) (by kernel_rfl) rfl ?_
   apply Exists.intro
   refine ⟨fun vals => ?_, ?_, fun vals4 w4 hb4 hF => ?_⟩
   ·simp only [putsV, dstL, List.length_cons, List.length_nil, Nat.zero_add, Nat.reduceAdd, List.getElem?_cons_zero, List.getElem?_cons_succ, Option.bind_some, Act.put, List.setIfInBounds_toArray, List.set_cons_succ, List.set_cons_zero]
    rfl
   ·refine ⟨?_, ?_, ?_, ?_, ?_, ?_, ?_, ?_, ?_, ?_, ?_, trivial⟩
    ·intro vals W hW hw hd
     try simp [Region.binds] at hd
     refine ⟨by first | rfl | simp [Region.wanted, yielded, hd], ?_⟩
     have h9 : vals 10 = u3 := (hw.out 10 (by kernel_rfl)).trans rfl
     simp [go_sem, h9]
     exact ⟨Sl.up (xs := P.dg Z) sx.out hW.out, Below.refl _ _⟩
    ·intro vals W hW hw hd
     try simp [Region.binds] at hd
     refine ⟨by first | rfl | simp [Region.wanted, yielded, hd], ?_⟩
     simp [go_sem]
     exact ⟨Sl.one W 256 _ rfl, (Below.refl _ _).alloc (Nat.le_refl _) _⟩
    ·intro vals W hW hw hd
     try simp [Region.binds] at hd
     refine ⟨by first | rfl | simp [Region.wanted, yielded, hd], ?_⟩
     simp [go_sem]
     exact (TI.out _ _ _ (by simp [hd]) (by simp [hd])).mono fun e w' ⟨⟨v', he, hs⟩, hb⟩ => ⟨v', he, hs, hb⟩
    ·intro vals W hW hw hd
     try simp [Region.binds] at hd
     refine ⟨by first | rfl | simp [Region.wanted, yielded, hd], ?_⟩
     simp [go_sem, hd]
     exact Below.refl _ _
    ·intro vals W hW hw hd
     try simp [Region.binds] at hd
     refine ⟨by first | rfl | simp [Region.wanted, yielded, hd], ?_⟩
     simp [go_sem, hd]
     exact Below.refl _ _
    ·intro vals W hW hw hd
     try simp [Region.binds] at hd
     refine ⟨by first | rfl | simp [Region.wanted, yielded, hd], ?_⟩
     simp [go_sem, hd, k0, k1]
     exact Below.refl _ _
    ·intro vals W hW hw hd
     try simp [Region.binds] at hd
     refine ⟨by first | rfl | simp [Region.wanted, yielded, hd], ?_⟩
     have ca := CA.out W (hb.out.trans (hW.out.mono hb.out.size))
     simp [go_sem, hd, ca, b8]
     exact Below.refl _ _
    ·intro vals W hW hw hd
     try simp [Region.binds] at hd
     refine ⟨by first | rfl | simp [Region.wanted, yielded, hd], ?_⟩
     simp [go_sem, hd]
     exact ⟨by rw [IntKind.wrap_i64]; omega, Below.refl _ _⟩
    ·intro vals W hW hw hd
     try simp [Region.binds] at hd
     refine ⟨by first | rfl | simp [Region.wanted, yielded, hd], ?_⟩
     simp [go_sem, hd]
     exact ⟨Sl.one W x _ rfl, (Below.refl _ _).alloc (Nat.le_refl _) _⟩
    ·intro vals W hW hw hd
     try simp [Region.binds] at hd
     refine ⟨by first | rfl | simp [Region.wanted, yielded, hd], ?_⟩
     simp [go_sem]
     exact (PL.out _ _ _ (by simp [hd]) (by simp [hd])).mono fun e w' ⟨⟨v', he, hs⟩, hb⟩ => ⟨v', he, hs, hb⟩
    ·intro vals W hW hw hd
     try simp [Region.binds] at hd
     refine ⟨by first | rfl | simp [Region.wanted, yielded, hd], ?_⟩
     simp [go_sem]
     exact ⟨by simp [hd], Below.refl _ _⟩
   obtain ⟨f0, f1, f2, f3, f4, f5, f6, f7, f8, f9, f10, _⟩ := hF
   simp only [MP.eq_p] at f3 f4 f5 f6 f7
   simp only [MP.sl_p] at f10
   have S9 : Hid (Sl w4 (vals4 10) (P.dg (Z * 256 + x))) := f10
   rw [← HD.out] at S9
   have b4 : Hid (Below w.heap.size w w4) := hb.out.trans (hb4.out.mono hb.out.size)
   clear f10 hb4 hb TI PL sx HD ZL CA
   go_wp2_with fail
   go_roundw
   case rel =>
    have := HK.out
    exact ⟨K, by omega, by first | rfl | go_num, S9, b4⟩
   case measure => simp [intOf]
end Go.Proofs.YtfknkfninjjgbaaGreatDoor

/- Thirty-two bytes of a number, as a list and as a slice. -/
namespace Go.Proofs.YtfknkfninjjgbaaGreatDoor
open Go.RowKit
set_option linter.unusedSimpArgs false
/-- The bytes of a number, as a list. -/
def S.by (n : Nat) : List Nat := (List.range 32).map fun i => n / 256 ^ i % 256
theorem S.by_length (n : Nat) : (S.by n).length = 32 := by simp [S.by]
theorem S.by_low (n : Nat) : ∀ x ∈ S.by n, x < 256 := fun x hx => by
 obtain ⟨i, _, rfl⟩ := List.mem_map.1 hx
 exact Nat.mod_lt _ (by decide)
theorem S.by_row (n : Nat) : bR n = (S.by n).map b8 := by
 unfold bR S.by
 rw [List.map_map]
 rfl
theorem Kn.by32 {w : World} {L : List (Nat × List Value)} (h : Kn w L) (i : Nat) {k n : Nat} (hp : L[i]? = some (k, bR n)) : By w (.slice (some ⟨k, 0, none⟩) 32 32) (S.by n) := by
 have hb := h.all _ (List.mem_of_getElem? hp)
 have := By.of_cells (w := w) (b := k) (o := 0) (c := 32) (xs := S.by n) (by rw [S.by_length]; decide) fun j hj => by
  rw [S.by_length] at hj
  rw [Nat.zero_add]
  refine hb.cell j _ ?_
  show (bR n)[j]? = _
  rw [S.by_row, List.getElem?_map, List.getElem?_eq_getElem (by rw [S.by_length]; exact hj)]
  simp [List.getD_eq_getElem?_getD, S.by_length, hj]
 rw [S.by_length] at this
 exact this
end Go.Proofs.YtfknkfninjjgbaaGreatDoor
