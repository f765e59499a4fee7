/- Two that agree, as the document has them: Clamped, PublicOf, SharedOf. -/
import Derived.Test.YtpnfopakkaoibaaQAgC
import Derived.Test.YtpnfopakkaoibaaQYcToBtO
import Derived.Test.YtpnfopakkaoibaaQScDToSBy
import Derived.Test.YtpnfopakkaoibaaQDWordsToDNum
import Derived.Test.YtpnfopakkaoibaaQDOfBits
import Derived.Test.YtpnfopakkaoibaaQUpYToRLd
namespace Go.Proofs.Ytpnfopakkaoibaa
open Go.RowKit
attribute [local go_sem] World.cell?_alloc_some cell_alloc2 cell_alloc3 cell_alloc4 frozen?_alloc_cells frozen_out
set_option linter.unusedSimpArgs false
/-- The bits of a clamped number. -/
theorem cl_bit (n j : Nat) (hj : j < 256) : Ag.cl n / 2 ^ j % 2 = if j < 3 then 0 else if j = 254 then 1 else if j = 255 then 0 else n / 2 ^ j % 2 := by
  have hx : n % 2 ^ 254 < 2 ^ 254 := Nat.mod_lt _ (by decide)
  have hle : n % 2 ^ 254 / 8 * 8 ≤ n % 2 ^ 254 := Nat.div_mul_le_self _ _
  by_cases h3 : j < 3
  · rw [if_pos h3]
    have := Ag.cl_mod n
    obtain rfl | rfl | rfl : j = 0 ∨ j = 1 ∨ j = 2 := by omega
    · rw [Nat.pow_zero, Nat.div_one]; omega
    · rw [show (2 : Nat) ^ 1 = 2 from rfl]; omega
    · rw [show (2 : Nat) ^ 2 = 4 from rfl]; omega
  rw [if_neg h3]
  by_cases h4 : j = 254
  · subst h4
    rw [if_pos rfl]
    unfold Ag.cl
    rw [Nat.add_div_left _ (by decide), Nat.div_eq_of_lt (by omega)]
  rw [if_neg h4]
  by_cases h5 : j = 255
  · subst h5
    rw [if_pos rfl, Nat.div_eq_of_lt (Ag.cl_lt n)]
  rw [if_neg h5]
  obtain ⟨i, rfl⟩ : ∃ i, j = i + 3 := ⟨j - 3, by omega⟩
  have e8 : (2 : Nat) ^ (i + 3) = 8 * 2 ^ i := by rw [Nat.pow_add, Nat.mul_comm]
  have es : (2 : Nat) ^ 254 = 2 ^ (i + 3) * (2 * 2 ^ (250 - i)) := by
    rw [← Nat.pow_succ', ← Nat.pow_add]
    congr 1
    omega
  have a1 : ∀ a b : Nat, (2 ^ 254 * a + b) / 2 ^ (i + 3) % 2 = b / 2 ^ (i + 3) % 2 := fun a b => by
    rw [es, Nat.mul_assoc, Nat.mul_add_div (Nat.pow_pos (by decide)), Nat.mul_assoc 2, Nat.mul_add_mod]
  have h1 : Ag.cl n = 2 ^ 254 * 1 + n % 2 ^ 254 / 8 * 8 := by unfold Ag.cl; rw [Nat.mul_one]
  rw [h1, a1]
  conv => rhs; rw [← Nat.div_add_mod n (2 ^ 254), a1]
  rw [e8, ← Nat.div_div_eq_div_mul, ← Nat.div_div_eq_div_mul, Nat.mul_div_cancel _ (by decide)]
/-- The five bits that are laid. -/
abbrev w5 (w : World) (g : Nat) : World := ((((w.setCell ⟨g, 0, none⟩ (.int .i64 0)).setCell ⟨g, 1, none⟩ (.int .i64 0)).setCell ⟨g, 2, none⟩ (.int .i64 0)).setCell ⟨g, 254, none⟩ (.int .i64 1)).setCell ⟨g, 255, none⟩ (.int .i64 0)
def c5 (cur : List Value) : List Value := ((((cur.set 0 (.int .i64 0)).set 1 (.int .i64 0)).set 2 (.int .i64 0)).set 254 (.int .i64 1)).set 255 (.int .i64 0)
theorem c5_at {cur : List Value} {n : Nat} (hl : 256 ≤ cur.length) (h : ∀ j, j < 256 → cur[j]? = some (.int .i64 ((n / 2 ^ j % 2 : Nat) : Int))) (j : Nat) (hj : j < 256) : (c5 cur)[j]? = some (.int .i64 ((Ag.cl n / 2 ^ j % 2 : Nat) : Int)) := by
  rw [cl_bit n j hj]
  unfold c5
  by_cases h255 : j = 255
  · subst h255
    rw [List.getElem?_set_self (by simp only [List.length_set]; omega)]
    rfl
  rw [List.getElem?_set_ne (Ne.symm h255)]
  by_cases h254 : j = 254
  · subst h254
    rw [List.getElem?_set_self (by simp only [List.length_set]; omega)]
    rfl
  rw [List.getElem?_set_ne (Ne.symm h254)]
  by_cases h2 : j = 2
  · subst h2
    rw [List.getElem?_set_self (by simp only [List.length_set]; omega)]
    rfl
  rw [List.getElem?_set_ne (Ne.symm h2)]
  by_cases h1 : j = 1
  · subst h1
    rw [List.getElem?_set_self (by simp only [List.length_set]; omega)]
    rfl
  rw [List.getElem?_set_ne (Ne.symm h1)]
  by_cases h0 : j = 0
  · subst h0
    rw [List.getElem?_set_self (by omega)]
    rfl
  rw [List.getElem?_set_ne (Ne.symm h0), h j hj, if_neg (by omega), if_neg h254, if_neg h255]
theorem w5_kn {w : World} {g : Nat} {cur : List Value} {L : List (Nat × List Value)} (h : Kn w ((g, cur) :: L)) (hl : 256 ≤ cur.length) : Kn (w5 w g) ((g, c5 cur) :: L) := by
  have h0 := Kn.set h 0 (.int .i64 0) (by omega)
  have h1 := Kn.set h0 1 (.int .i64 0) (by simp only [List.length_set]; omega)
  have h2 := Kn.set h1 2 (.int .i64 0) (by simp only [List.length_set]; omega)
  have h3 := Kn.set h2 254 (.int .i64 1) (by simp only [List.length_set]; omega)
  exact Kn.set h3 255 (.int .i64 0) (by simp only [List.length_set]; omega)
theorem w5_below {B : Nat} {v w : World} {g : Nat} (h : Below B v w) (hg : B ≤ g) : Below B v (w5 w g) :=
  ((((h.setCell (p := ⟨g, 0, none⟩) hg _).setCell (p := ⟨g, 1, none⟩) hg _).setCell (p := ⟨g, 2, none⟩) hg _).setCell (p := ⟨g, 254, none⟩) hg _).setCell (p := ⟨g, 255, none⟩) hg _
set_option maxRecDepth 20000 in
set_option maxHeartbeats 2000000 in
theorem rClamp_walk (n K : Nat) (c : Nm)
    (NU : Hid (∀ v W, By W v (S.by n) → Calls Try.prog 25 #[v] W fun e w' => (∃ v', e = .returned v' ∧ Sl w' v' (P.dg n)) ∧ Below W.heap.size W w'))
    (BF : Hid (∀ v W, Sl W v (P.dg n) → Calls Try.prog 31 #[v, .int .i64 256] W fun e w' => (e = .returned (.slice (some ⟨W.heap.size, 0, none⟩) 256 256) ∧ ∃ cur, KBlk w' W.heap.size cur ∧ 256 ≤ cur.length ∧ (∀ j, j < 256 → cur[j]? = some (.int .i64 ((n / 2 ^ j % 2 : Nat) : Int)))) ∧ Below W.heap.size W w'))
    (OB : Hid (∀ B W, (∀ j, j < 256 → W.cell? ⟨B, j, none⟩ = some (.int .i64 ((Ag.cl n / 2 ^ j % 2 : Nat) : Int))) → Calls Try.prog 32 #[.slice (some ⟨B, 0, none⟩) 256 256] W fun e w' => (∃ v', e = .returned v' ∧ Sl w' v' (P.dg K)) ∧ Below W.heap.size W w'))
    (TN : Hid (∀ u W, Sl W u (P.dg K) → Calls Try.prog 28 #[u] W fun e w' => e = .returned (N c) ∧ Below W.heap.size W w'))
    (w : World) :
    Calls Try.prog 11 #[bV n] w fun e w' => e = .returned (N c) ∧ Below w.heap.size w w' := by
  go_enter Try.func11, Try.ntmps11
  have s0 : Hid (Kn (kz4 (w.alloc (.cells (bR (n)).toArray 22))) [(w.heap.size + 1, zz4), (w.heap.size, (bR (n)))]) := (((Kn.nil w).al (bR (n)) 22 rfl).al zz4 28 (by simp))
  have b0 : Hid (Below w.heap.size w (kz4 (w.alloc (.cells (bR (n)).toArray 22)))) := (((Below.refl _ _).alloc (Nat.le_refl _) _).alloc (by simp <;> omega) _)
  go_wp2_with (first | refine wp_all32 rfl _ rfl _ rfl ?_)
  refine (NU.out _ _ (Kn.by32 s0.out 1 rfl)).mono ?_
  rintro e w1 ⟨⟨v1, rfl, h1⟩, hb1⟩
  have s1 : Hid (Kn w1 [(w.heap.size + 1, zz4), (w.heap.size, (bR (n)))]) := s0.out.up hb1
  have b1 : Hid (Below w.heap.size w w1) := b0.out.trans (hb1.mono b0.out.size)
  have z1 := b1.out.size
  clear hb1 s0 b0
  go_wp2_with fail
  refine (BF.out _ _ h1).mono ?_
  rintro e w2 ⟨⟨rfl, cur, hcur, hl, hT⟩, hb2⟩
  have HT : Hid _ := hT
  have HL : Hid _ := hl
  have s2 : Hid (Kn w2 [(w1.heap.size, cur), (w.heap.size + 1, zz4), (w.heap.size, bR n)]) := s1.out.fresh_of hb2 (Nat.le_refl _) hcur
  have b2 : Hid (Below w.heap.size w w2) := b1.out.trans (hb2.mono b1.out.size)
  have gk : w.heap.size ≤ w1.heap.size := b1.out.size
  clear hcur hT hl hb2 s1 b1 h1 NU BF
  generalize w1.heap.size = g at *
  have k0 := Kn.get s2.out 0 0 rfl (HT.out 0 (by decide))
  have k1 := Kn.get s2.out 0 1 rfl (HT.out 1 (by decide))
  have k2 := Kn.get s2.out 0 2 rfl (HT.out 2 (by decide))
  have k3 := Kn.get s2.out 0 254 rfl (HT.out 254 (by decide))
  have k4 := Kn.get s2.out 0 255 rfl (HT.out 255 (by decide))
  have kz := Kn.fz s2.out 0 rfl
  go_wp2_with fail
  clear k0 k1 k2 k3 k4 kz
  have s3 : Hid (Kn (w5 w2 g) [(g, c5 cur), (w.heap.size + 1, zz4), (w.heap.size, bR n)]) := w5_kn s2.out HL.out
  have b3 : Hid (Below w.heap.size w (w5 w2 g)) := w5_below b2.out gk
  clear s2 b2
  refine (OB.out g _ (fun j hj => Kn.get s3.out 0 j rfl (c5_at HL.out HT.out j hj))).mono ?_
  rintro e w4 ⟨⟨v4, rfl, h4⟩, hb4⟩
  have s4 : Hid (Kn w4 [(g, (c5 cur)), (w.heap.size + 1, zz4), (w.heap.size, (bR (n)))]) := s3.out.up hb4
  have b4 : Hid (Below w.heap.size w w4) := b3.out.trans (hb4.mono b3.out.size)
  have z4 := b4.out.size
  clear hb4 s3 b3
  go_wp2_with fail
  refine (TN.out _ _ h4).mono ?_
  rintro e w5 ⟨rfl, hb5⟩
  have s5 : Hid (Kn w5 [(g, (c5 cur)), (w.heap.size + 1, zz4), (w.heap.size, (bR (n)))]) := s4.out.up hb5
  have b5 : Hid (Below w.heap.size w w5) := b4.out.trans (hb5.mono b4.out.size)
  have z5 := b5.out.size
  clear hb5 s4 b4
  have uro_0 : w5.cell? ⟨w.heap.size + 1, 0, none⟩ = some (.int .u64 0) := Kn.get s5.out 1 0 rfl rfl
  have uro_1 : w5.cell? ⟨w.heap.size + 1, 1, none⟩ = some (.int .u64 0) := Kn.get s5.out 1 1 rfl rfl
  have uro_2 : w5.cell? ⟨w.heap.size + 1, 2, none⟩ = some (.int .u64 0) := Kn.get s5.out 1 2 rfl rfl
  have uro_3 : w5.cell? ⟨w.heap.size + 1, 3, none⟩ = some (.int .u64 0) := Kn.get s5.out 1 3 rfl rfl
  have uro_z : ∀ j, w5.frozen? ⟨w.heap.size + 1, j, none⟩ = false := Kn.fz s5.out 1 rfl
  have s6 : Hid (Kn (st4 w5 (w.heap.size + 1) (c)) [(w.heap.size + 1, (c4 (c))), (g, (c5 cur)), (w.heap.size, (bR (n)))]) := Kn.st4 (L := [(g, (c5 cur)), (w.heap.size, (bR (n)))]) (s5.out.front 1 rfl) (c)
  have b6 : Hid (Below w.heap.size w (st4 w5 (w.heap.size + 1) (c))) := below_st4 b5.out (by omega)
  clear s5 b5
  go_wp2_with fail
  clear uro_0 uro_1 uro_2 uro_3 uro_z
  have urr_0 : (st4 w5 (w.heap.size + 1) (c)).cell? ⟨w.heap.size + 1, 0, none⟩ = some (.int .u64 (c).a) := Kn.get s6.out 0 0 rfl rfl
  have urr_1 : (st4 w5 (w.heap.size + 1) (c)).cell? ⟨w.heap.size + 1, 1, none⟩ = some (.int .u64 (c).b) := Kn.get s6.out 0 1 rfl rfl
  have urr_2 : (st4 w5 (w.heap.size + 1) (c)).cell? ⟨w.heap.size + 1, 2, none⟩ = some (.int .u64 (c).c) := Kn.get s6.out 0 2 rfl rfl
  have urr_3 : (st4 w5 (w.heap.size + 1) (c)).cell? ⟨w.heap.size + 1, 3, none⟩ = some (.int .u64 (c).d) := Kn.get s6.out 0 3 rfl rfl
  refine bodyPost_ret (v := N c) ?_ rfl ⟨rfl, b6.out⟩
  show (results Try.f11 _).run Try.prog (st4 w5 (w.heap.size + 1) (c)) = .ok _ (st4 w5 (w.heap.size + 1) (c))
  clear s6 b6
  generalize (st4 w5 (w.heap.size + 1) (c)) = W9 at *
  simp [results, Try.results11, go_sem, urr_0, urr_1, urr_2, urr_3]
theorem rClamp_fun (n : Nat) (hn : n < 2 ^ 256) (w : World) : Calls Try.prog 11 #[bV n] w fun e w' => e = .returned (N (nm (Ag.cl n))) ∧ Below w.heap.size w w' := by
  refine rClamp_walk n (Ag.cl n) _ (fun v W h => ?_) (fun v W h => ?_) (fun B W h => ?_) (fun u W h => toNum_of _ (Ag.cl_lt256 n) u W h) w
  · have := number_fun (S.by n) (S.by_low n) (by rw [S.by_length]; decide) v W h
    rwa [S.le_by hn] at this
  · refine (bits_fun v _ (P.dg_Dg n) 256 (by decide) W h).mono ?_
    rintro e w' ⟨⟨he, bs, lb, hbs, ob⟩, hb⟩
    obtain ⟨cur, h1, h2⟩ := Ow.kblk ob
    have h3 : ∀ j, j < 256 → cur[j]? = some (.int .i64 ((n / 2 ^ j % 2 : Nat) : Int)) := fun j hj => by
      rw [h2 j (by omega), hbs j hj, P.dv_dg]
    refine ⟨⟨he, cur, h1, Nat.le_of_not_lt fun hl => ?_, h3⟩, hb⟩
    have := h3 255 (by decide)
    rw [List.getElem?_eq_none (by omega)] at this
    cases this
  · have hg : ∀ j, j < 256 → ((List.range 256).map fun j => Ag.cl n / 2 ^ j % 2).getD j 0 = Ag.cl n / 2 ^ j % 2 := fun j hj => by simp [hj]
    have := ofBits_fun B ((List.range 256).map fun j => Ag.cl n / 2 ^ j % 2) (fun k => Ag.cl n / 2 ^ k) (Nat.div_eq_of_lt (Ag.cl_lt256 n)) (fun k hk => by
      rw [hg k hk]
      show Ag.cl n / 2 ^ k = Ag.cl n / 2 ^ (k + 1) + Ag.cl n / 2 ^ (k + 1) + Ag.cl n / 2 ^ k % 2
      rw [Nat.pow_succ, ← Nat.div_div_eq_div_mul]
      omega) (fun k hk => by rw [hg k hk]; omega) W (fun j hj => by rw [hg j hj]; exact h j hj)
    rwa [show Ag.cl n / 2 ^ 0 = Ag.cl n by rw [Nat.pow_zero, Nat.div_one]] at this
set_option maxRecDepth 20000 in
set_option maxHeartbeats 1000000 in
theorem rPublic_walk (n m : Nat) (c l : Nm)
    (CL : ∀ w, Calls Try.prog 11 #[.agg (bR (n)).toArray] w fun e w' => e = .returned (N c) ∧ Below w.heap.size w w')
    (LA : ∀ w, Calls Try.prog 27 #[N c, N ⟨9,0,0,0⟩] w fun e w' => e = .returned (N l) ∧ Below w.heap.size w w')
    (BY : ∀ w, Calls Try.prog 30 #[N l] w fun e w' => e = .returned (.agg (bR (m)).toArray) ∧ Below w.heap.size w w')
    (w : World) :
    Calls Try.prog 13 #[bV n] w fun e w' => e = .returned (bV m) ∧ Below w.heap.size w w' := by
  go_enter Try.func13, Try.ntmps13
  have s0 : Hid (Kn ((w.alloc (.cells (bR (n)).toArray 22)).alloc (.cells #[Value.int IntKind.u8 0, Value.int IntKind.u8 0, Value.int IntKind.u8 0, Value.int IntKind.u8 0, Value.int IntKind.u8 0, Value.int IntKind.u8 0, Value.int IntKind.u8 0, Value.int IntKind.u8 0, Value.int IntKind.u8 0, Value.int IntKind.u8 0, Value.int IntKind.u8 0, Value.int IntKind.u8 0, Value.int IntKind.u8 0, Value.int IntKind.u8 0, Value.int IntKind.u8 0, Value.int IntKind.u8 0, Value.int IntKind.u8 0, Value.int IntKind.u8 0, Value.int IntKind.u8 0, Value.int IntKind.u8 0, Value.int IntKind.u8 0, Value.int IntKind.u8 0, Value.int IntKind.u8 0, Value.int IntKind.u8 0, Value.int IntKind.u8 0, Value.int IntKind.u8 0, Value.int IntKind.u8 0, Value.int IntKind.u8 0, Value.int IntKind.u8 0, Value.int IntKind.u8 0, Value.int IntKind.u8 0, Value.int IntKind.u8 0] 22)) [(w.heap.size + 1, bZ), (w.heap.size, (bR (n)))]) := (((Kn.nil w).al (bR (n)) 22 rfl).al bZ 22 (by simp))
  have b0 : Hid (Below w.heap.size w ((w.alloc (.cells (bR (n)).toArray 22)).alloc (.cells #[Value.int IntKind.u8 0, Value.int IntKind.u8 0, Value.int IntKind.u8 0, Value.int IntKind.u8 0, Value.int IntKind.u8 0, Value.int IntKind.u8 0, Value.int IntKind.u8 0, Value.int IntKind.u8 0, Value.int IntKind.u8 0, Value.int IntKind.u8 0, Value.int IntKind.u8 0, Value.int IntKind.u8 0, Value.int IntKind.u8 0, Value.int IntKind.u8 0, Value.int IntKind.u8 0, Value.int IntKind.u8 0, Value.int IntKind.u8 0, Value.int IntKind.u8 0, Value.int IntKind.u8 0, Value.int IntKind.u8 0, Value.int IntKind.u8 0, Value.int IntKind.u8 0, Value.int IntKind.u8 0, Value.int IntKind.u8 0, Value.int IntKind.u8 0, Value.int IntKind.u8 0, Value.int IntKind.u8 0, Value.int IntKind.u8 0, Value.int IntKind.u8 0, Value.int IntKind.u8 0, Value.int IntKind.u8 0, Value.int IntKind.u8 0] 22))) := (((Below.refl _ _).alloc (Nat.le_refl _) _).alloc (by simp <;> omega) _)
  go_wp2_with (first | refine wp_ldW rfl 22 _ rfl (w.heap.size) 0 rfl (bR (n)) _ (Kn.rng s0.out 1 rfl) Try.underlying22 rfl (info_bR (n)) ?_ | simp only [zero_b32])
  refine (CL _).mono ?_
  rintro e w1 ⟨rfl, hb1⟩
  have s1 : Hid (Kn w1 [(w.heap.size + 1, bZ), (w.heap.size, (bR (n)))]) := s0.out.up hb1
  have b1 : Hid (Below w.heap.size w w1) := b0.out.trans (hb1.mono b0.out.size)
  have z1 := b1.out.size
  clear hb1 s0 b0
  go_wp2_with fail
  refine (LA _).mono ?_
  rintro e w2 ⟨rfl, hb2⟩
  have s2 : Hid (Kn w2 [(w.heap.size + 1, bZ), (w.heap.size, (bR (n)))]) := s1.out.up hb2
  have b2 : Hid (Below w.heap.size w w2) := b1.out.trans (hb2.mono b1.out.size)
  have z2 := b2.out.size
  clear hb2 s1 b1
  go_wp2_with fail
  refine (BY _).mono ?_
  rintro e w3 ⟨rfl, hb3⟩
  have s3 : Hid (Kn w3 [(w.heap.size + 1, bZ), (w.heap.size, (bR (n)))]) := s2.out.up hb3
  have b3 : Hid (Below w.heap.size w w3) := b2.out.trans (hb3.mono b2.out.size)
  have z3 := b3.out.size
  clear hb3 s2 b2
  have s4x : Hid (Kn w3 [(w.heap.size + 1, bZ), (w.heap.size, (bR (n)))]) := s3.out.front 0 rfl
  have b4x : Hid (Below w.heap.size w w3) := b3.out
  have TT4 : Hid (w3.there (w.heap.size + 1) 0 (bR (m)).length) := Kn.there s4x.out 0 rfl (by rw [(bR_length (m)), bZ_length])
  go_wp2_with (first | refine I.wp_store_eq rfl 22 _ _ rfl (w.heap.size + 1) 0 (bR (m)) rfl rfl TT4.out (info_bR (m)) (bR_one (m)) ?_)
  intro w4 hw4
  try simp only [Act.put, List.setIfInBounds_toArray, List.set_cons_succ, List.set_cons_zero]
  have s4 : Hid (Kn w4 [(w.heap.size + 1, (bR (m))), (w.heap.size, (bR (n)))]) := by rw [hw4.out]; exact Kn.put s4x.out (by rw [(bR_length (m)), bZ_length])
  have b4 : Hid (Below w.heap.size w w4) := by rw [hw4.out]; exact I.below_setCells _ _ _ b4x.out (by omega)
  have z4 := b4.out.size
  clear hw4 s4x b4x TT4 s3 b3
  go_wp2_with fail
  exact bodyPost_ret (v := bV m) (I.results_cell (b := w.heap.size + 1) rfl rfl (Kn.rng s4.out 0 rfl) Try.underlying22 rfl (info_bR (m))) rfl ⟨rfl, b4.out⟩
theorem rPublic_fun (n : Nat) (hn : n < 2 ^ 256) (w : World) : Calls Try.prog 13 #[bV n] w fun e w' => e = .returned (bV (Ag.pub n)) ∧ Below w.heap.size w w' := by
  have LA := rLad_fun (nm (Ag.cl n)) ⟨9, 0, 0, 0⟩ (nm_ok _) nine_ok
  rw [nm_nat (Ag.cl_lt256 n), show (⟨9, 0, 0, 0⟩ : Nm).nat = 9 from rfl] at LA
  exact rPublic_walk n _ _ _ (rClamp_fun n hn) LA (bytesOf_fun _ (Ag.lt_256 (Ag.pub_lt n))) w
set_option maxRecDepth 20000 in
set_option maxHeartbeats 2000000 in
theorem rShared_no (n m Q U : Nat) (u c v : Nm)
    (NU : Hid (∀ v W, By W v (S.by m) → Calls Try.prog 25 #[v] W fun e w' => (∃ v', e = .returned v' ∧ Sl w' v' (P.dg m)) ∧ Below W.heap.size W w'))
    (TW : Hid (∀ W, Calls Try.prog 26 #[.int .i64 255] W fun e w' => (∃ v', e = .returned v' ∧ Sl w' v' (P.dg Q)) ∧ Below W.heap.size W w'))
    (RE : Hid (∀ x y W, Sl W x (P.dg m) → Sl W y (P.dg Q) → Calls Try.prog 24 #[x, y] W fun e w' => (∃ v', e = .returned v' ∧ Sl w' v' (P.dg U)) ∧ Below W.heap.size W w'))
    (TN : Hid (∀ x W, Sl W x (P.dg U) → Calls Try.prog 28 #[x] W fun e w' => e = .returned (N u) ∧ Below W.heap.size W w'))
    (CL : ∀ w, Calls Try.prog 11 #[.agg (bR (n)).toArray] w fun e w' => e = .returned (N c) ∧ Below w.heap.size w w')
    (LA : ∀ w, Calls Try.prog 27 #[N c, N u] w fun e w' => e = .returned (N v) ∧ Below w.heap.size w w')
    (ON : Hid (∀ W, Calls Try.prog 29 #[N v] W fun e w' => (∃ a k, e = .returned (.slice a 0 k)) ∧ Below W.heap.size W w'))
    (w : World) :
    Calls Try.prog 9 #[bV n, bV m] w fun e w' => e = .returned (.tuple #[bV 0, .int .i64 1]) ∧ Below w.heap.size w w' := by
  go_enter Try.func9, Try.ntmps9
  have s0 : Hid (Kn (((w.alloc (.cells (bR (n)).toArray 22)).alloc (.cells (bR (m)).toArray 22)).alloc (.cells #[Value.int IntKind.u8 0, Value.int IntKind.u8 0, Value.int IntKind.u8 0, Value.int IntKind.u8 0, Value.int IntKind.u8 0, Value.int IntKind.u8 0, Value.int IntKind.u8 0, Value.int IntKind.u8 0, Value.int IntKind.u8 0, Value.int IntKind.u8 0, Value.int IntKind.u8 0, Value.int IntKind.u8 0, Value.int IntKind.u8 0, Value.int IntKind.u8 0, Value.int IntKind.u8 0, Value.int IntKind.u8 0, Value.int IntKind.u8 0, Value.int IntKind.u8 0, Value.int IntKind.u8 0, Value.int IntKind.u8 0, Value.int IntKind.u8 0, Value.int IntKind.u8 0, Value.int IntKind.u8 0, Value.int IntKind.u8 0, Value.int IntKind.u8 0, Value.int IntKind.u8 0, Value.int IntKind.u8 0, Value.int IntKind.u8 0, Value.int IntKind.u8 0, Value.int IntKind.u8 0, Value.int IntKind.u8 0, Value.int IntKind.u8 0] 22)) [(w.heap.size + 1 + 1, bZ), (w.heap.size + 1, (bR (m))), (w.heap.size, (bR (n)))]) := ((((Kn.nil w).al (bR (n)) 22 rfl).al (bR (m)) 22 (by simp)).al bZ 22 (by simp))
  have b0 : Hid (Below w.heap.size w (((w.alloc (.cells (bR (n)).toArray 22)).alloc (.cells (bR (m)).toArray 22)).alloc (.cells #[Value.int IntKind.u8 0, Value.int IntKind.u8 0, Value.int IntKind.u8 0, Value.int IntKind.u8 0, Value.int IntKind.u8 0, Value.int IntKind.u8 0, Value.int IntKind.u8 0, Value.int IntKind.u8 0, Value.int IntKind.u8 0, Value.int IntKind.u8 0, Value.int IntKind.u8 0, Value.int IntKind.u8 0, Value.int IntKind.u8 0, Value.int IntKind.u8 0, Value.int IntKind.u8 0, Value.int IntKind.u8 0, Value.int IntKind.u8 0, Value.int IntKind.u8 0, Value.int IntKind.u8 0, Value.int IntKind.u8 0, Value.int IntKind.u8 0, Value.int IntKind.u8 0, Value.int IntKind.u8 0, Value.int IntKind.u8 0, Value.int IntKind.u8 0, Value.int IntKind.u8 0, Value.int IntKind.u8 0, Value.int IntKind.u8 0, Value.int IntKind.u8 0, Value.int IntKind.u8 0, Value.int IntKind.u8 0, Value.int IntKind.u8 0] 22))) := ((((Below.refl _ _).alloc (Nat.le_refl _) _).alloc (by simp <;> omega) _).alloc (by simp <;> omega) _)
  go_wp2_with (first | simp only [zero_b32] | refine wp_all32 rfl _ rfl _ rfl ?_)
  refine (NU.out _ _ (Kn.by32 s0.out 1 rfl)).mono ?_
  rintro e w1 ⟨⟨v1, rfl, h1⟩, hb1⟩
  have s1 : Hid (Kn w1 [(w.heap.size + 1 + 1, bZ), (w.heap.size + 1, (bR (m))), (w.heap.size, (bR (n)))]) := s0.out.up hb1
  have b1 : Hid (Below w.heap.size w w1) := b0.out.trans (hb1.mono b0.out.size)
  have z1 := b1.out.size
  clear hb1 s0 b0
  have Spn : Hid (Sl w1 v1 (P.dg m)) := h1
  clear h1
  go_wp2_with fail
  refine (TW.out _).mono ?_
  rintro e w2 ⟨⟨v2, rfl, h2⟩, hb2⟩
  replace Spn : Hid (Sl w2 v1 (P.dg m)) := Sl.up (xs := (P.dg m)) Spn.out hb2
  have s2 : Hid (Kn w2 [(w.heap.size + 1 + 1, bZ), (w.heap.size + 1, (bR (m))), (w.heap.size, (bR (n)))]) := s1.out.up hb2
  have b2 : Hid (Below w.heap.size w w2) := b1.out.trans (hb2.mono b1.out.size)
  have z2 := b2.out.size
  clear hb2 s1 b1
  have Stw : Hid (Sl w2 v2 (P.dg Q)) := h2
  clear h2
  go_wp2_with fail
  refine (RE.out _ _ _ Spn.out Stw.out).mono ?_
  rintro e w3 ⟨⟨v3, rfl, h3⟩, hb3⟩
  replace Spn : Hid (Sl w3 v1 (P.dg m)) := Sl.up (xs := (P.dg m)) Spn.out hb3
  replace Stw : Hid (Sl w3 v2 (P.dg Q)) := Sl.up (xs := (P.dg Q)) Stw.out hb3
  have s3 : Hid (Kn w3 [(w.heap.size + 1 + 1, bZ), (w.heap.size + 1, (bR (m))), (w.heap.size, (bR (n)))]) := s2.out.up hb3
  have b3 : Hid (Below w.heap.size w w3) := b2.out.trans (hb3.mono b2.out.size)
  have z3 := b3.out.size
  clear hb3 s2 b2
  have Suu : Hid (Sl w3 v3 (P.dg U)) := h3
  clear h3
  go_wp2_with (first | refine wp_ldW rfl 22 _ rfl (w.heap.size) 0 rfl (bR (n)) _ (Kn.rng s3.out 2 rfl) Try.underlying22 rfl (info_bR (n)) ?_)
  refine (CL _).mono ?_
  rintro e w4 ⟨rfl, hb4⟩
  replace Spn : Hid (Sl w4 v1 (P.dg m)) := Sl.up (xs := (P.dg m)) Spn.out hb4
  replace Stw : Hid (Sl w4 v2 (P.dg Q)) := Sl.up (xs := (P.dg Q)) Stw.out hb4
  replace Suu : Hid (Sl w4 v3 (P.dg U)) := Sl.up (xs := (P.dg U)) Suu.out hb4
  have s4 : Hid (Kn w4 [(w.heap.size + 1 + 1, bZ), (w.heap.size + 1, (bR (m))), (w.heap.size, (bR (n)))]) := s3.out.up hb4
  have b4 : Hid (Below w.heap.size w w4) := b3.out.trans (hb4.mono b3.out.size)
  have z4 := b4.out.size
  clear hb4 s3 b3
  go_wp2_with fail
  refine (TN.out _ _ Suu.out).mono ?_
  rintro e w5 ⟨rfl, hb5⟩
  replace Spn : Hid (Sl w5 v1 (P.dg m)) := Sl.up (xs := (P.dg m)) Spn.out hb5
  replace Stw : Hid (Sl w5 v2 (P.dg Q)) := Sl.up (xs := (P.dg Q)) Stw.out hb5
  replace Suu : Hid (Sl w5 v3 (P.dg U)) := Sl.up (xs := (P.dg U)) Suu.out hb5
  have s5 : Hid (Kn w5 [(w.heap.size + 1 + 1, bZ), (w.heap.size + 1, (bR (m))), (w.heap.size, (bR (n)))]) := s4.out.up hb5
  have b5 : Hid (Below w.heap.size w w5) := b4.out.trans (hb5.mono b4.out.size)
  have z5 := b5.out.size
  clear hb5 s4 b4
  go_wp2_with fail
  refine (LA _).mono ?_
  rintro e w6 ⟨rfl, hb6⟩
  replace Spn : Hid (Sl w6 v1 (P.dg m)) := Sl.up (xs := (P.dg m)) Spn.out hb6
  replace Stw : Hid (Sl w6 v2 (P.dg Q)) := Sl.up (xs := (P.dg Q)) Stw.out hb6
  replace Suu : Hid (Sl w6 v3 (P.dg U)) := Sl.up (xs := (P.dg U)) Suu.out hb6
  have s6 : Hid (Kn w6 [(w.heap.size + 1 + 1, bZ), (w.heap.size + 1, (bR (m))), (w.heap.size, (bR (n)))]) := s5.out.up hb6
  have b6 : Hid (Below w.heap.size w w6) := b5.out.trans (hb6.mono b5.out.size)
  have z6 := b6.out.size
  clear hb6 s5 b5
  have s7 : Hid (Kn (kal4 w6 (v)) [(w6.heap.size, (c4 (v))), (w.heap.size + 1 + 1, bZ), (w.heap.size + 1, (bR (m))), (w.heap.size, (bR (n)))]) := s6.out.al (c4 (v)) 28 rfl
  have b7 : Hid (Below w.heap.size w (kal4 w6 (v))) := b6.out.alloc b6.out.size _
  have z7 := b6.out.size
  replace Spn : Hid (Sl (kal4 w6 (v)) v1 (P.dg m)) := Sl.up (xs := (P.dg m)) Spn.out ((Below.refl _ _).alloc (Nat.le_refl _) _)
  replace Stw : Hid (Sl (kal4 w6 (v)) v2 (P.dg Q)) := Sl.up (xs := (P.dg Q)) Stw.out ((Below.refl _ _).alloc (Nat.le_refl _) _)
  replace Suu : Hid (Sl (kal4 w6 (v)) v3 (P.dg U)) := Sl.up (xs := (P.dg U)) Suu.out ((Below.refl _ _).alloc (Nat.le_refl _) _)
  clear s6 b6
  have uv_0 : (kal4 w6 (v)).cell? ⟨w6.heap.size, 0, none⟩ = some (.int .u64 (v).a) := Kn.get s7.out 0 0 rfl rfl
  have uv_1 : (kal4 w6 (v)).cell? ⟨w6.heap.size, 1, none⟩ = some (.int .u64 (v).b) := Kn.get s7.out 0 1 rfl rfl
  have uv_2 : (kal4 w6 (v)).cell? ⟨w6.heap.size, 2, none⟩ = some (.int .u64 (v).c) := Kn.get s7.out 0 2 rfl rfl
  have uv_3 : (kal4 w6 (v)).cell? ⟨w6.heap.size, 3, none⟩ = some (.int .u64 (v).d) := Kn.get s7.out 0 3 rfl rfl
  go_wp2_with fail
  clear uv_0 uv_1 uv_2 uv_3
  refine (ON.out _).mono ?_
  rintro e w8 ⟨⟨v5, c5', rfl⟩, hb8⟩
  replace Spn : Hid (Sl w8 v1 (P.dg m)) := Sl.up (xs := (P.dg m)) Spn.out hb8
  replace Stw : Hid (Sl w8 v2 (P.dg Q)) := Sl.up (xs := (P.dg Q)) Stw.out hb8
  replace Suu : Hid (Sl w8 v3 (P.dg U)) := Sl.up (xs := (P.dg U)) Suu.out hb8
  have s8 : Hid (Kn w8 [(w6.heap.size, (c4 (v))), (w.heap.size + 1 + 1, bZ), (w.heap.size + 1, (bR (m))), (w.heap.size, (bR (n)))]) := s7.out.up hb8
  have b8 : Hid (Below w.heap.size w w8) := b7.out.trans (hb8.mono b7.out.size)
  have z8 := b8.out.size
  clear hb8 s7 b7
  have s9x : Hid (Kn w8 [(w.heap.size + 1 + 1, bZ), (w6.heap.size, (c4 (v))), (w.heap.size + 1, (bR (m))), (w.heap.size, (bR (n)))]) := s8.out.front 1 rfl
  have b9x : Hid (Below w.heap.size w w8) := b8.out
  have TT9 : Hid (w8.there (w.heap.size + 1 + 1) 0 (bR (0)).length) := Kn.there s9x.out 0 rfl (by rw [(bR_length (0)), bZ_length])
  go_wp2_with (first | refine wp_buildZ rfl rfl b32_zero ?_ | refine I.wp_store_eq rfl 22 _ _ rfl (w.heap.size + 1 + 1) 0 (bR (0)) rfl rfl TT9.out (info_bR (0)) (bR_one (0)) ?_)
  intro w9 hw9
  try simp only [Act.put, List.setIfInBounds_toArray, List.set_cons_succ, List.set_cons_zero]
  have s9 : Hid (Kn w9 [(w.heap.size + 1 + 1, (bR (0))), (w6.heap.size, (c4 (v))), (w.heap.size + 1, (bR (m))), (w.heap.size, (bR (n)))]) := by rw [hw9.out]; exact Kn.put s9x.out (by rw [(bR_length (0)), bZ_length])
  have b9 : Hid (Below w.heap.size w w9) := by rw [hw9.out]; exact I.below_setCells _ _ _ b9x.out (by omega)
  have z9 := b9.out.size
  clear hw9 s9x b9x TT9 s8 b8
  go_wp2_with fail
  exact bodyPost_ret (v := .tuple #[bV 0, .int .i64 1]) (results_row2 (b := w.heap.size + 1 + 1) rfl rfl rfl (Kn.rng s9.out 0 rfl) Try.underlying22 rfl (info_bR (0))) rfl ⟨rfl, b9.out⟩
set_option maxRecDepth 20000 in
set_option maxHeartbeats 2000000 in
theorem rShared_yes (n m Q U k L : Nat) (u c v : Nm) (hL : ¬ (L : Int) = 0)
    (NU : Hid (∀ v W, By W v (S.by m) → Calls Try.prog 25 #[v] W fun e w' => (∃ v', e = .returned v' ∧ Sl w' v' (P.dg m)) ∧ Below W.heap.size W w'))
    (TW : Hid (∀ W, Calls Try.prog 26 #[.int .i64 255] W fun e w' => (∃ v', e = .returned v' ∧ Sl w' v' (P.dg Q)) ∧ Below W.heap.size W w'))
    (RE : Hid (∀ x y W, Sl W x (P.dg m) → Sl W y (P.dg Q) → Calls Try.prog 24 #[x, y] W fun e w' => (∃ v', e = .returned v' ∧ Sl w' v' (P.dg U)) ∧ Below W.heap.size W w'))
    (TN : Hid (∀ x W, Sl W x (P.dg U) → Calls Try.prog 28 #[x] W fun e w' => e = .returned (N u) ∧ Below W.heap.size W w'))
    (CL : ∀ w, Calls Try.prog 11 #[.agg (bR (n)).toArray] w fun e w' => e = .returned (N c) ∧ Below w.heap.size w w')
    (LA : ∀ w, Calls Try.prog 27 #[N c, N u] w fun e w' => e = .returned (N v) ∧ Below w.heap.size w w')
    (ON : Hid (∀ W, Calls Try.prog 29 #[N v] W fun e w' => (∃ a k, e = .returned (.slice a L k)) ∧ Below W.heap.size W w'))
    (BY : ∀ w, Calls Try.prog 30 #[N v] w fun e w' => e = .returned (.agg (bR (k)).toArray) ∧ Below w.heap.size w w')
    (w : World) :
    Calls Try.prog 9 #[bV n, bV m] w fun e w' => e = .returned (.tuple #[bV k, .int .i64 0]) ∧ Below w.heap.size w w' := by
  go_enter Try.func9, Try.ntmps9
  have s0 : Hid (Kn (((w.alloc (.cells (bR (n)).toArray 22)).alloc (.cells (bR (m)).toArray 22)).alloc (.cells #[Value.int IntKind.u8 0, Value.int IntKind.u8 0, Value.int IntKind.u8 0, Value.int IntKind.u8 0, Value.int IntKind.u8 0, Value.int IntKind.u8 0, Value.int IntKind.u8 0, Value.int IntKind.u8 0, Value.int IntKind.u8 0, Value.int IntKind.u8 0, Value.int IntKind.u8 0, Value.int IntKind.u8 0, Value.int IntKind.u8 0, Value.int IntKind.u8 0, Value.int IntKind.u8 0, Value.int IntKind.u8 0, Value.int IntKind.u8 0, Value.int IntKind.u8 0, Value.int IntKind.u8 0, Value.int IntKind.u8 0, Value.int IntKind.u8 0, Value.int IntKind.u8 0, Value.int IntKind.u8 0, Value.int IntKind.u8 0, Value.int IntKind.u8 0, Value.int IntKind.u8 0, Value.int IntKind.u8 0, Value.int IntKind.u8 0, Value.int IntKind.u8 0, Value.int IntKind.u8 0, Value.int IntKind.u8 0, Value.int IntKind.u8 0] 22)) [(w.heap.size + 1 + 1, bZ), (w.heap.size + 1, (bR (m))), (w.heap.size, (bR (n)))]) := ((((Kn.nil w).al (bR (n)) 22 rfl).al (bR (m)) 22 (by simp)).al bZ 22 (by simp))
  have b0 : Hid (Below w.heap.size w (((w.alloc (.cells (bR (n)).toArray 22)).alloc (.cells (bR (m)).toArray 22)).alloc (.cells #[Value.int IntKind.u8 0, Value.int IntKind.u8 0, Value.int IntKind.u8 0, Value.int IntKind.u8 0, Value.int IntKind.u8 0, Value.int IntKind.u8 0, Value.int IntKind.u8 0, Value.int IntKind.u8 0, Value.int IntKind.u8 0, Value.int IntKind.u8 0, Value.int IntKind.u8 0, Value.int IntKind.u8 0, Value.int IntKind.u8 0, Value.int IntKind.u8 0, Value.int IntKind.u8 0, Value.int IntKind.u8 0, Value.int IntKind.u8 0, Value.int IntKind.u8 0, Value.int IntKind.u8 0, Value.int IntKind.u8 0, Value.int IntKind.u8 0, Value.int IntKind.u8 0, Value.int IntKind.u8 0, Value.int IntKind.u8 0, Value.int IntKind.u8 0, Value.int IntKind.u8 0, Value.int IntKind.u8 0, Value.int IntKind.u8 0, Value.int IntKind.u8 0, Value.int IntKind.u8 0, Value.int IntKind.u8 0, Value.int IntKind.u8 0] 22))) := ((((Below.refl _ _).alloc (Nat.le_refl _) _).alloc (by simp <;> omega) _).alloc (by simp <;> omega) _)
  go_wp2_with (first | simp only [zero_b32] | refine wp_all32 rfl _ rfl _ rfl ?_)
  refine (NU.out _ _ (Kn.by32 s0.out 1 rfl)).mono ?_
  rintro e w1 ⟨⟨v1, rfl, h1⟩, hb1⟩
  have s1 : Hid (Kn w1 [(w.heap.size + 1 + 1, bZ), (w.heap.size + 1, (bR (m))), (w.heap.size, (bR (n)))]) := s0.out.up hb1
  have b1 : Hid (Below w.heap.size w w1) := b0.out.trans (hb1.mono b0.out.size)
  have z1 := b1.out.size
  clear hb1 s0 b0
  have Spn : Hid (Sl w1 v1 (P.dg m)) := h1
  clear h1
  go_wp2_with fail
  refine (TW.out _).mono ?_
  rintro e w2 ⟨⟨v2, rfl, h2⟩, hb2⟩
  replace Spn : Hid (Sl w2 v1 (P.dg m)) := Sl.up (xs := (P.dg m)) Spn.out hb2
  have s2 : Hid (Kn w2 [(w.heap.size + 1 + 1, bZ), (w.heap.size + 1, (bR (m))), (w.heap.size, (bR (n)))]) := s1.out.up hb2
  have b2 : Hid (Below w.heap.size w w2) := b1.out.trans (hb2.mono b1.out.size)
  have z2 := b2.out.size
  clear hb2 s1 b1
  have Stw : Hid (Sl w2 v2 (P.dg Q)) := h2
  clear h2
  go_wp2_with fail
  refine (RE.out _ _ _ Spn.out Stw.out).mono ?_
  rintro e w3 ⟨⟨v3, rfl, h3⟩, hb3⟩
  replace Spn : Hid (Sl w3 v1 (P.dg m)) := Sl.up (xs := (P.dg m)) Spn.out hb3
  replace Stw : Hid (Sl w3 v2 (P.dg Q)) := Sl.up (xs := (P.dg Q)) Stw.out hb3
  have s3 : Hid (Kn w3 [(w.heap.size + 1 + 1, bZ), (w.heap.size + 1, (bR (m))), (w.heap.size, (bR (n)))]) := s2.out.up hb3
  have b3 : Hid (Below w.heap.size w w3) := b2.out.trans (hb3.mono b2.out.size)
  have z3 := b3.out.size
  clear hb3 s2 b2
  have Suu : Hid (Sl w3 v3 (P.dg U)) := h3
  clear h3
  go_wp2_with (first | refine wp_ldW rfl 22 _ rfl (w.heap.size) 0 rfl (bR (n)) _ (Kn.rng s3.out 2 rfl) Try.underlying22 rfl (info_bR (n)) ?_)
  refine (CL _).mono ?_
  rintro e w4 ⟨rfl, hb4⟩
  replace Spn : Hid (Sl w4 v1 (P.dg m)) := Sl.up (xs := (P.dg m)) Spn.out hb4
  replace Stw : Hid (Sl w4 v2 (P.dg Q)) := Sl.up (xs := (P.dg Q)) Stw.out hb4
  replace Suu : Hid (Sl w4 v3 (P.dg U)) := Sl.up (xs := (P.dg U)) Suu.out hb4
  have s4 : Hid (Kn w4 [(w.heap.size + 1 + 1, bZ), (w.heap.size + 1, (bR (m))), (w.heap.size, (bR (n)))]) := s3.out.up hb4
  have b4 : Hid (Below w.heap.size w w4) := b3.out.trans (hb4.mono b3.out.size)
  have z4 := b4.out.size
  clear hb4 s3 b3
  go_wp2_with fail
  refine (TN.out _ _ Suu.out).mono ?_
  rintro e w5 ⟨rfl, hb5⟩
  replace Spn : Hid (Sl w5 v1 (P.dg m)) := Sl.up (xs := (P.dg m)) Spn.out hb5
  replace Stw : Hid (Sl w5 v2 (P.dg Q)) := Sl.up (xs := (P.dg Q)) Stw.out hb5
  replace Suu : Hid (Sl w5 v3 (P.dg U)) := Sl.up (xs := (P.dg U)) Suu.out hb5
  have s5 : Hid (Kn w5 [(w.heap.size + 1 + 1, bZ), (w.heap.size + 1, (bR (m))), (w.heap.size, (bR (n)))]) := s4.out.up hb5
  have b5 : Hid (Below w.heap.size w w5) := b4.out.trans (hb5.mono b4.out.size)
  have z5 := b5.out.size
  clear hb5 s4 b4
  go_wp2_with fail
  refine (LA _).mono ?_
  rintro e w6 ⟨rfl, hb6⟩
  replace Spn : Hid (Sl w6 v1 (P.dg m)) := Sl.up (xs := (P.dg m)) Spn.out hb6
  replace Stw : Hid (Sl w6 v2 (P.dg Q)) := Sl.up (xs := (P.dg Q)) Stw.out hb6
  replace Suu : Hid (Sl w6 v3 (P.dg U)) := Sl.up (xs := (P.dg U)) Suu.out hb6
  have s6 : Hid (Kn w6 [(w.heap.size + 1 + 1, bZ), (w.heap.size + 1, (bR (m))), (w.heap.size, (bR (n)))]) := s5.out.up hb6
  have b6 : Hid (Below w.heap.size w w6) := b5.out.trans (hb6.mono b5.out.size)
  have z6 := b6.out.size
  clear hb6 s5 b5
  have s7 : Hid (Kn (kal4 w6 (v)) [(w6.heap.size, (c4 (v))), (w.heap.size + 1 + 1, bZ), (w.heap.size + 1, (bR (m))), (w.heap.size, (bR (n)))]) := s6.out.al (c4 (v)) 28 rfl
  have b7 : Hid (Below w.heap.size w (kal4 w6 (v))) := b6.out.alloc b6.out.size _
  have z7 := b6.out.size
  replace Spn : Hid (Sl (kal4 w6 (v)) v1 (P.dg m)) := Sl.up (xs := (P.dg m)) Spn.out ((Below.refl _ _).alloc (Nat.le_refl _) _)
  replace Stw : Hid (Sl (kal4 w6 (v)) v2 (P.dg Q)) := Sl.up (xs := (P.dg Q)) Stw.out ((Below.refl _ _).alloc (Nat.le_refl _) _)
  replace Suu : Hid (Sl (kal4 w6 (v)) v3 (P.dg U)) := Sl.up (xs := (P.dg U)) Suu.out ((Below.refl _ _).alloc (Nat.le_refl _) _)
  clear s6 b6
  have uv_0 : (kal4 w6 (v)).cell? ⟨w6.heap.size, 0, none⟩ = some (.int .u64 (v).a) := Kn.get s7.out 0 0 rfl rfl
  have uv_1 : (kal4 w6 (v)).cell? ⟨w6.heap.size, 1, none⟩ = some (.int .u64 (v).b) := Kn.get s7.out 0 1 rfl rfl
  have uv_2 : (kal4 w6 (v)).cell? ⟨w6.heap.size, 2, none⟩ = some (.int .u64 (v).c) := Kn.get s7.out 0 2 rfl rfl
  have uv_3 : (kal4 w6 (v)).cell? ⟨w6.heap.size, 3, none⟩ = some (.int .u64 (v).d) := Kn.get s7.out 0 3 rfl rfl
  go_wp2_with fail
  clear uv_0 uv_1 uv_2 uv_3
  refine (ON.out _).mono ?_
  rintro e w8 ⟨⟨v5, c5', rfl⟩, hb8⟩
  replace Spn : Hid (Sl w8 v1 (P.dg m)) := Sl.up (xs := (P.dg m)) Spn.out hb8
  replace Stw : Hid (Sl w8 v2 (P.dg Q)) := Sl.up (xs := (P.dg Q)) Stw.out hb8
  replace Suu : Hid (Sl w8 v3 (P.dg U)) := Sl.up (xs := (P.dg U)) Suu.out hb8
  have s8 : Hid (Kn w8 [(w6.heap.size, (c4 (v))), (w.heap.size + 1 + 1, bZ), (w.heap.size + 1, (bR (m))), (w.heap.size, (bR (n)))]) := s7.out.up hb8
  have b8 : Hid (Below w.heap.size w w8) := b7.out.trans (hb8.mono b7.out.size)
  have z8 := b8.out.size
  clear hb8 s7 b7
  have uv_0 : w8.cell? ⟨w6.heap.size, 0, none⟩ = some (.int .u64 (v).a) := Kn.get s8.out 0 0 rfl rfl
  have uv_1 : w8.cell? ⟨w6.heap.size, 1, none⟩ = some (.int .u64 (v).b) := Kn.get s8.out 0 1 rfl rfl
  have uv_2 : w8.cell? ⟨w6.heap.size, 2, none⟩ = some (.int .u64 (v).c) := Kn.get s8.out 0 2 rfl rfl
  have uv_3 : w8.cell? ⟨w6.heap.size, 3, none⟩ = some (.int .u64 (v).d) := Kn.get s8.out 0 3 rfl rfl
  go_wp2_with fail
  clear uv_0 uv_1 uv_2 uv_3
  refine (BY _).mono ?_
  rintro e w9 ⟨rfl, hb9⟩
  replace Spn : Hid (Sl w9 v1 (P.dg m)) := Sl.up (xs := (P.dg m)) Spn.out hb9
  replace Stw : Hid (Sl w9 v2 (P.dg Q)) := Sl.up (xs := (P.dg Q)) Stw.out hb9
  replace Suu : Hid (Sl w9 v3 (P.dg U)) := Sl.up (xs := (P.dg U)) Suu.out hb9
  have s9 : Hid (Kn w9 [(w6.heap.size, (c4 (v))), (w.heap.size + 1 + 1, bZ), (w.heap.size + 1, (bR (m))), (w.heap.size, (bR (n)))]) := s8.out.up hb9
  have b9 : Hid (Below w.heap.size w w9) := b8.out.trans (hb9.mono b8.out.size)
  have z9 := b9.out.size
  clear hb9 s8 b8
  have s10x : Hid (Kn w9 [(w.heap.size + 1 + 1, bZ), (w6.heap.size, (c4 (v))), (w.heap.size + 1, (bR (m))), (w.heap.size, (bR (n)))]) := s9.out.front 1 rfl
  have b10x : Hid (Below w.heap.size w w9) := b9.out
  have TT10 : Hid (w9.there (w.heap.size + 1 + 1) 0 (bR (k)).length) := Kn.there s10x.out 0 rfl (by rw [(bR_length (k)), bZ_length])
  go_wp2_with (first | refine I.wp_store_eq rfl 22 _ _ rfl (w.heap.size + 1 + 1) 0 (bR (k)) rfl rfl TT10.out (info_bR (k)) (bR_one (k)) ?_)
  intro w10 hw10
  try simp only [Act.put, List.setIfInBounds_toArray, List.set_cons_succ, List.set_cons_zero]
  have s10 : Hid (Kn w10 [(w.heap.size + 1 + 1, (bR (k))), (w6.heap.size, (c4 (v))), (w.heap.size + 1, (bR (m))), (w.heap.size, (bR (n)))]) := by rw [hw10.out]; exact Kn.put s10x.out (by rw [(bR_length (k)), bZ_length])
  have b10 : Hid (Below w.heap.size w w10) := by rw [hw10.out]; exact I.below_setCells _ _ _ b10x.out (by omega)
  have z10 := b10.out.size
  clear hw10 s10x b10x TT10 s9 b9
  go_wp2_with fail
  exact bodyPost_ret (v := .tuple #[bV k, .int .i64 0]) (results_row2 (b := w.heap.size + 1 + 1) rfl rfl rfl (Kn.rng s10.out 0 rfl) Try.underlying22 rfl (info_bR (k))) rfl ⟨rfl, b10.out⟩
end Go.Proofs.Ytpnfopakkaoibaa
