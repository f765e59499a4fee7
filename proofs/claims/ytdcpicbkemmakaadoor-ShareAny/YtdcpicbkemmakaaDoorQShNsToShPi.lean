/- Texts that were joined: ShNs, ShSc, Bit, ScalarIs, ShPi. -/
import Derived.Test.YtdcpicbkemmakaaDoorQGArrToShD
import Derived.Test.YtdcpicbkemmakaaDoorQPrimeToAdN
import Derived.Test.YtdcpicbkemmakaaDoorQShLToShPs
import Derived.Test.YtdcpicbkemmakaaDoorQUpAToUp3
import Derived.Test.YtdcpicbkemmakaaDoorQShlToShift
import Derived.Test.YtdcpicbkemmakaaDoorQPick
import Derived.Test.YtdcpicbkemmakaaDoorQScF
import Derived.Test.YtdcpicbkemmakaaDoorQLenToDBelM
import Derived.LoopN
/- The numbers of the polynomial as they are drawn. -/
namespace Go.Proofs.YtdcpicbkemmakaaDoor
open Go.RowKit
set_option linter.unusedSimpArgs false
/-- The numbers of the polynomial, one by one. -/
def nsF (S : Nat) (seed : List Nat) (j : Nat) : Nat := if j = 0 then S else cfN seed (j - 1)
theorem nsF_zero (S : Nat) (seed : List Nat) : nsF S seed 0 = S := if_pos rfl
theorem nsF_succ (S : Nat) (seed : List Nat) (m : Nat) : nsF S seed (m + 1) = cfN seed m := by
  unfold nsF
  rw [if_neg (Nat.succ_ne_zero m), Nat.add_sub_cancel]
theorem cfs_is (S : Nat) (seed : List Nat) (k : Nat) : cfs S seed k = S :: (List.range (k - 1)).map (cfN seed) := by unfold cfs; with_reducible rfl
theorem range_cons (S : Nat) (G : Nat → Nat) {k : Nat} (hk : 1 ≤ k) : S :: (List.range (k - 1)).map G = (List.range k).map fun j => if j = 0 then S else G (j - 1) := by
  have hk' : k = k - 1 + 1 := by omega
  generalize k - 1 = m at *
  rw [hk', List.range_succ_eq_map, List.map_cons, List.map_map, if_pos rfl]
  congr 1
theorem cfs_range (S : Nat) (seed : List Nat) {k : Nat} (hk : 1 ≤ k) : cfs S seed k = (List.range k).map (nsF S seed) := (cfs_is S seed k).trans (range_cons S (cfN seed) hk)
theorem nsF_lt {S : Nat} (hS : S < Cv.ord) (seed : List Nat) (j : Nat) : nsF S seed j < Cv.ord := by
  unfold nsF
  split
  · exact hS
  · exact cfN_lt seed _
def stF (seed : List Nat) (m : Nat) : Nat := match cfT seed m with
  | some t => 32 * (t + 1)
  | none => 3200
def erF (seed : List Nat) (m : Nat) : Nat := match cfT seed m with
  | some _ => 0
  | none => 6
theorem stF_lt (seed : List Nat) (m : Nat) : stF seed m < 10000 := by
  unfold stF
  split
  · rename_i t h
    unfold cfT belS at h
    have := List.mem_range.1 (List.mem_of_find?_eq_some h)
    omega
  · decide
theorem stepF (seed : List Nat) (m : Nat) (h : erF seed m = 0) : (cfP seed m + stF seed m) % 18446744073709551616 = cfP seed (m + 1) := by
  have e : cfP seed (m + 1) = cfStep seed (cfP seed m) := rfl
  rw [e]
  unfold erF at h
  unfold stF cfStep
  unfold cfT at *
  cases hb : belS seed (cfP seed m) 253 Cv.ord with
  | some t => rfl
  | none => rw [hb] at h; cases h
theorem nm_nought : nm 0 = ⟨0, 0, 0, 0⟩ := by
  unfold nm Nm.of
  simp
theorem any_none (seed : List Nat) (k : Nat) : (List.range (k - 1)).any (fun m => (cfT seed m).isNone) = true ↔ ∃ m, m + 1 < k ∧ erF seed m ≠ 0 := by
  rw [List.any_eq_true]
  constructor
  · rintro ⟨m, hm, h⟩
    have := List.mem_range.1 hm
    refine ⟨m, by omega, ?_⟩
    unfold erF
    cases hc : cfT seed m with
    | some t => rw [hc] at h; cases h
    | none => simp
  · rintro ⟨m, hm, h⟩
    refine ⟨m, List.mem_range.2 (by omega), ?_⟩
    unfold erF at h
    cases hc : cfT seed m with
    | some t => rw [hc] at h; exact absurd rfl h
    | none => rfl
theorem erF_six (seed : List Nat) (m : Nat) (h : erF seed m ≠ 0) : erF seed m = 6 := by
  unfold erF at *
  split
  · rename_i t hc
    rw [hc] at h
    exact absurd rfl h
  · rfl
end Go.Proofs.YtdcpicbkemmakaaDoor

/- What package share must keep of Split; whether it is there. -/
namespace Go.Proofs.YtdcpicbkemmakaaDoor
open Go.RowKit
attribute [local go_sem] World.cell?_alloc_some cell_alloc2 cell_alloc3 cell_alloc4 frozen?_alloc_cells frozen_out
set_option linter.unusedSimpArgs false
/-- Rows of the same shares are the same. -/
theorem Shs.rows {w : World} {a : Option Addr} {n c : Nat} {l : List Shr} (h : Shs w (.slice a n c) l) (hn : 0 < n) : ∃ b o, a = some ⟨b, o, none⟩ ∧ ∀ W, Below w.heap.size w W → ∀ i s, l[i]? = some s → W.rangeAt b (o + i * 5) (shC s) := by
  obtain ⟨a', c', e, -, h2⟩ := id h
  cases e
  obtain ⟨b, o, rfl, -⟩ := h2 hn
  refine ⟨b, o, rfl, fun W hW => ?_⟩
  obtain ⟨a', c', e, -, h2⟩ := h.up hW
  cases e
  obtain ⟨b', o', e, h3⟩ := h2 hn
  cases e
  exact h3
/-- What package share must keep of Split. -/
def SplitC : Prop := ∀ (x : Nm), x.ok → ∀ (k n : Int), (-9223372036854775808 ≤ k ∧ k ≤ 9223372036854775807) → (-9223372036854775808 ≤ n ∧ n ≤ 9223372036854775807) → ∀ seed : List Nat, (∀ y ∈ seed, y < 256) → seed.length ≤ 500000000000000 → ∀ v w, By w v seed → KTab w → Calls Tryd.prog 7 #[N x, .int .i64 k, .int .i64 n, v] w fun e w' => (∃ v', e = .returned (.tuple #[v', .int .i64 ((splE x.nat k n seed : Nat) : Int)]) ∧ Shs w' v' (splL x.nat k n seed)) ∧ Below w.heap.size w w'
theorem splL_20 (S : Nat) (k n : Int) (seed : List Nat) : (splL S k n seed).length ≤ 20 := by
  unfold splL
  split
  · rename_i h
    rw [List.length_map, List.length_range]
    unfold splE at h
    split at h
    · cases h
    · omega
  · exact Nat.zero_le _
theorem splE_five : splE (⟨5, 0, 0, 0⟩ : Nm).nat 1 1 [] = 0 := by
  have e : (⟨5, 0, 0, 0⟩ : Nm).nat = 5 := by decide
  have h : ¬ Cv.ord ≤ 5 := by decide
  rw [e]
  unfold splE
  rw [if_neg (by omega)]
  rfl
theorem splL_len {S : Nat} {k n : Int} {seed : List Nat} (h : splE S k n seed = 0) : (splL S k n seed).length = n.toNat := by
  unfold splL
  rw [if_pos h, List.length_map, List.length_range]
theorem alive_walk (L : List Shr) (hl : L.length = 1) (w : World) (S2 : Hid (Calls Tryd.prog 7 #[N ⟨5, 0, 0, 0⟩, .int .i64 1, .int .i64 1, .slice none 0 0] w fun e w' => (∃ v', e = .returned (.tuple #[v', .int .i64 0]) ∧ Shs w' v' L) ∧ Below w.heap.size w w')) :
    Calls Tryd.prog 12 #[] w fun e w' => e = .returned (.bool true) ∧ Below w.heap.size w w' := by
  go_enter Tryd.func12, Tryd.ntmps12
  go_wp2_with fail
  refine (S2.out).mono ?_
  rintro e w1 ⟨⟨v1, rfl, h1⟩, hb1⟩
  obtain ⟨a1, c1, e1⟩ := shs_parts h1
  rw [hl] at e1
  have B1 : Hid (Below w.heap.size w w1) := hb1
  clear h1 hb1 S2
  subst e1
  go_wp2_with fail
  go_ret
  exact ⟨rfl, B1.out⟩
theorem shares_alive (SP : SplitC) (w : World) (hK : KTab w) : Calls Tryd.prog 12 #[] w fun e w' => e = .returned (.bool true) ∧ Below w.heap.size w w' := by
  have S1 := SP ⟨5, 0, 0, 0⟩ (by refine ⟨?_, ?_, ?_, ?_⟩ <;> exact ⟨by decide, by decide⟩) 1 1 (by decide) (by decide) [] (by simp) (by simp) (.slice none 0 0) w (By.nil w) hK
  rw [splE_five] at S1
  exact alive_walk _ (splL_len splE_five) w S1
end Go.Proofs.YtdcpicbkemmakaaDoor

/- The contract of limb.Bit. -/
namespace Go.Proofs.YtdcpicbkemmakaaDoor
open Go.RowKit

/-- The bit s of a word, with whatever stands above the word. -/
theorem bit_word {v l a g q : Int} {s k n : Nat} (hs : s < 64) (hn : n = k + s) (hq : q = 2 ^ k) (hv : v = l + q * (a + 18446744073709551616 * g)) (l0 : 0 ≤ l) (l1 : l < q) : v / 2 ^ n % 2 = a / 2 ^ s % 2 := by
  have q0 : 0 < q := by omega
  have e1 : v / q = a + 18446744073709551616 * g := by
    rw [hv, Int.add_mul_ediv_left _ _ (by omega), Int.ediv_eq_zero_of_lt l0 l1, Int.zero_add]
  have e2 : v / 2 ^ n = v / q / 2 ^ s := by
    rw [hn, Int.pow_add, ← hq, Int.ediv_ediv_of_nonneg (by omega)]
  have p : (18446744073709551616 : Int) = 2 ^ s * (2 ^ (63 - s) * 2) := by
    rw [← Int.mul_assoc, ← Int.pow_add, show s + (63 - s) = 63 by omega]; rfl
  have ps : (0 : Int) < 2 ^ s := Int.pow_pos (by omega)
  rw [e2, e1, p, Int.mul_assoc, Int.add_mul_ediv_left _ _ (by omega), Int.mul_comm (2 ^ (63 - s)) 2, Int.mul_assoc]
  omega
set_option maxHeartbeats 1000000 in
theorem bit_walk0 (x : Nm) (hx : x.ok) (n s : Nat) (h1 : n / 64 = 0) (h2 : n % 64 = s) (hs : s < 64) (w : World) :
    Calls Tryd.prog 46 #[N x, .int .i64 n] w fun e w' => e = .returned (.int .u64 (x.val / 2 ^ n % 2)) ∧ Below w.heap.size w w' := by
  have h3 : (n : Int) / 64 = 0 := by omega
  have h4 : (n : Int) % 64 = s := by omega
  have h5 : ¬ ((n : Int) < 0) := by omega
  have h6 : ¬ ((n : Int) ≥ 256) := by omega
  obtain ⟨⟨a0, a1⟩, ⟨b0, b1⟩, ⟨c0, c1⟩, ⟨d0, d1⟩⟩ := hx
  have e := bit_word (v := x.val) (l := 0) (a := x.a) (g := x.b + 18446744073709551616 * x.c + 340282366920938463463374607431768211456 * x.d) (q := 1) (s := s) (k := 0) (n := n) hs (by omega) rfl (by simp only [Nm.val] <;> omega) (by omega) (by omega)
  have e' : bits .and .u64 (x.a / 2 ^ s) 1 = x.val / 2 ^ n % 2 := by
    have ps : (0 : Int) < 2 ^ s := Int.pow_pos (by omega)
    have v0 : 0 ≤ x.a / 2 ^ s := Int.ediv_nonneg a0 (by omega)
    have v1 : x.a / 2 ^ s ≤ x.a := Int.ediv_le_self _ a0
    rw [e]
    exact and_one_u64 _ v0 (by omega)
  have E : Hid _ := e'
  clear e e'
  go_enter Tryd.func46, Tryd.ntmps46
  go_wp2_with fail
  go_ret
  exact ⟨by rw [E.out]; rfl, (Below.refl _ _).alloc (by simp) _⟩
set_option maxHeartbeats 1000000 in
theorem bit_walk1 (x : Nm) (hx : x.ok) (n s : Nat) (h1 : n / 64 = 1) (h2 : n % 64 = s) (hs : s < 64) (w : World) :
    Calls Tryd.prog 46 #[N x, .int .i64 n] w fun e w' => e = .returned (.int .u64 (x.val / 2 ^ n % 2)) ∧ Below w.heap.size w w' := by
  have h3 : (n : Int) / 64 = 1 := by omega
  have h4 : (n : Int) % 64 = s := by omega
  have h5 : ¬ ((n : Int) < 0) := by omega
  have h6 : ¬ ((n : Int) ≥ 256) := by omega
  obtain ⟨⟨a0, a1⟩, ⟨b0, b1⟩, ⟨c0, c1⟩, ⟨d0, d1⟩⟩ := hx
  have e := bit_word (v := x.val) (l := x.a) (a := x.b) (g := x.c + 18446744073709551616 * x.d) (q := 18446744073709551616) (s := s) (k := 64) (n := n) hs (by omega) rfl (by simp only [Nm.val] <;> omega) (by omega) (by omega)
  have e' : bits .and .u64 (x.b / 2 ^ s) 1 = x.val / 2 ^ n % 2 := by
    have ps : (0 : Int) < 2 ^ s := Int.pow_pos (by omega)
    have v0 : 0 ≤ x.b / 2 ^ s := Int.ediv_nonneg b0 (by omega)
    have v1 : x.b / 2 ^ s ≤ x.b := Int.ediv_le_self _ b0
    rw [e]
    exact and_one_u64 _ v0 (by omega)
  have E : Hid _ := e'
  clear e e'
  go_enter Tryd.func46, Tryd.ntmps46
  go_wp2_with fail
  go_ret
  exact ⟨by rw [E.out]; rfl, (Below.refl _ _).alloc (by simp) _⟩
set_option maxHeartbeats 1000000 in
theorem bit_walk2 (x : Nm) (hx : x.ok) (n s : Nat) (h1 : n / 64 = 2) (h2 : n % 64 = s) (hs : s < 64) (w : World) :
    Calls Tryd.prog 46 #[N x, .int .i64 n] w fun e w' => e = .returned (.int .u64 (x.val / 2 ^ n % 2)) ∧ Below w.heap.size w w' := by
  have h3 : (n : Int) / 64 = 2 := by omega
  have h4 : (n : Int) % 64 = s := by omega
  have h5 : ¬ ((n : Int) < 0) := by omega
  have h6 : ¬ ((n : Int) ≥ 256) := by omega
  obtain ⟨⟨a0, a1⟩, ⟨b0, b1⟩, ⟨c0, c1⟩, ⟨d0, d1⟩⟩ := hx
  have e := bit_word (v := x.val) (l := x.a + 18446744073709551616 * x.b) (a := x.c) (g := x.d) (q := 340282366920938463463374607431768211456) (s := s) (k := 128) (n := n) hs (by omega) rfl (by simp only [Nm.val] <;> omega) (by omega) (by omega)
  have e' : bits .and .u64 (x.c / 2 ^ s) 1 = x.val / 2 ^ n % 2 := by
    have ps : (0 : Int) < 2 ^ s := Int.pow_pos (by omega)
    have v0 : 0 ≤ x.c / 2 ^ s := Int.ediv_nonneg c0 (by omega)
    have v1 : x.c / 2 ^ s ≤ x.c := Int.ediv_le_self _ c0
    rw [e]
    exact and_one_u64 _ v0 (by omega)
  have E : Hid _ := e'
  clear e e'
  go_enter Tryd.func46, Tryd.ntmps46
  go_wp2_with fail
  go_ret
  exact ⟨by rw [E.out]; rfl, (Below.refl _ _).alloc (by simp) _⟩
set_option maxHeartbeats 1000000 in
theorem bit_walk3 (x : Nm) (hx : x.ok) (n s : Nat) (h1 : n / 64 = 3) (h2 : n % 64 = s) (hs : s < 64) (w : World) :
    Calls Tryd.prog 46 #[N x, .int .i64 n] w fun e w' => e = .returned (.int .u64 (x.val / 2 ^ n % 2)) ∧ Below w.heap.size w w' := by
  have h3 : (n : Int) / 64 = 3 := by omega
  have h4 : (n : Int) % 64 = s := by omega
  have h5 : ¬ ((n : Int) < 0) := by omega
  have h6 : ¬ ((n : Int) ≥ 256) := by omega
  obtain ⟨⟨a0, a1⟩, ⟨b0, b1⟩, ⟨c0, c1⟩, ⟨d0, d1⟩⟩ := hx
  have e := bit_word (v := x.val) (l := x.a + 18446744073709551616 * x.b + 340282366920938463463374607431768211456 * x.c) (a := x.d) (g := 0) (q := 6277101735386680763835789423207666416102355444464034512896) (s := s) (k := 192) (n := n) hs (by omega) rfl (by simp only [Nm.val] <;> omega) (by omega) (by omega)
  have e' : bits .and .u64 (x.d / 2 ^ s) 1 = x.val / 2 ^ n % 2 := by
    have ps : (0 : Int) < 2 ^ s := Int.pow_pos (by omega)
    have v0 : 0 ≤ x.d / 2 ^ s := Int.ediv_nonneg d0 (by omega)
    have v1 : x.d / 2 ^ s ≤ x.d := Int.ediv_le_self _ d0
    rw [e]
    exact and_one_u64 _ v0 (by omega)
  have E : Hid _ := e'
  clear e e'
  go_enter Tryd.func46, Tryd.ntmps46
  go_wp2_with fail
  go_ret
  exact ⟨by rw [E.out]; rfl, (Below.refl _ _).alloc (by simp) _⟩
theorem bit_fun (x : Nm) (hx : x.ok) (n : Nat) (hn : n < 256) (w : World) :
    Calls Tryd.prog 46 #[N x, .int .i64 n] w fun e w' => e = .returned (.int .u64 (x.val / 2 ^ n % 2)) ∧ Below w.heap.size w w' := by
  have hq : n / 64 = 0 ∨ n / 64 = 1 ∨ n / 64 = 2 ∨ n / 64 = 3 := by omega
  rcases hq with h | h | h | h
  · exact bit_walk0 x hx n _ h rfl (by omega) w
  · exact bit_walk1 x hx n _ h rfl (by omega) w
  · exact bit_walk2 x hx n _ h rfl (by omega) w
  · exact bit_walk3 x hx n _ h rfl (by omega) w
end Go.Proofs.YtdcpicbkemmakaaDoor

/- Package scalar, as it landed: Inv. -/
namespace Go.Proofs.YtdcpicbkemmakaaDoor
open Go.RowKit
attribute [local go_sem] World.cell?_alloc_some cell_alloc2 cell_alloc3 cell_alloc4 frozen?_alloc_cells frozen_out
set_option linter.unusedSimpArgs false
set_option maxHeartbeats 2000000 in
theorem sInv_walk (x oN : Nm) (u : Int) (pk sq : Nat → Nm) (bt : Nat → Int)
    (SS : ∀ w, Calls Tryd.prog 44 #[N lN, N ⟨2,0,0,0⟩] w fun e w' => e = .returned (.tuple #[N oN, .int .u64 u]) ∧ Below w.heap.size w w')
    (SN : ∀ w, Calls Tryd.prog 45 #[N oN] w fun e w' => e = .returned (.int .i64 253) ∧ Below w.heap.size w w')
    (S1 : ∀ i, i < 253 → ∀ w, Calls Tryd.prog 19 #[N (pk (i + 1)), N (pk (i + 1))] w fun e w' => e = .returned (N (sq i)) ∧ Below w.heap.size w w')
    (SB : ∀ i : Nat, i < 253 → ∀ w, Calls Tryd.prog 46 #[N oN, .int .i64 i] w fun e w' => e = .returned (.int .u64 (bt i)) ∧ Below w.heap.size w w')
    (S2 : ∀ i, i < 253 → bt i = 1 → ∀ w, Calls Tryd.prog 19 #[N (sq i), N x] w fun e w' => e = .returned (N (pk i)) ∧ Below w.heap.size w w')
    (P0 : ∀ i, i < 253 → bt i ≠ 1 → sq i = pk i) (PL : pk 253 = ⟨1, 0, 0, 0⟩)
    (w : World) :
    Calls Tryd.prog 20 #[N x] w fun e w' => e = .returned (N (pk 0)) ∧ Below w.heap.size w w' := by
  have PL' : Hid _ := PL
  have P0' : Hid _ := P0
  clear PL P0
  go_enter Tryd.func20, Tryd.ntmps20
  have s0 : Hid (Kn (kz4 (kal4 w (x))) [(w.heap.size + 1, zz4), (w.heap.size, (c4 (x)))]) := (((Kn.nil w).al (c4 (x)) 24 rfl).al zz4 24 (by simp))
  have b0 : Hid (Below w.heap.size w (kz4 (kal4 w (x)))) := (((Below.refl _ _).alloc (Nat.le_refl _) _).alloc (by simp <;> omega) _)
  go_wp2_with fail
  refine (sL_walk _).mono ?_
  rintro e w1 ⟨rfl, hb1⟩
  have s1 : Hid (Kn w1 [(w.heap.size + 1, zz4), (w.heap.size, (c4 (x)))]) := s0.out.up hb1
  have b1 : Hid (Below w.heap.size w w1) := b0.out.trans (hb1.mono b0.out.size)
  have z1 := b1.out.size
  clear hb1 s0 b0
  go_wp2_with fail
  refine (SS _).mono ?_
  rintro e w2 ⟨rfl, hb2⟩
  have s2 : Hid (Kn w2 [(w.heap.size + 1, zz4), (w.heap.size, (c4 (x)))]) := s1.out.up hb2
  have b2 : Hid (Below w.heap.size w w2) := b1.out.trans (hb2.mono b1.out.size)
  have z2 := b2.out.size
  clear hb2 s1 b1
  have s3 : Hid (Kn (kal4 w2 (oN)) [(w2.heap.size, (c4 (oN))), (w.heap.size + 1, zz4), (w.heap.size, (c4 (x)))]) := s2.out.al (c4 (oN)) 24 rfl
  have b3 : Hid (Below w.heap.size w (kal4 w2 (oN))) := b2.out.alloc b2.out.size _
  have z3 := b2.out.size
  clear s2 b2
  have s4 : Hid (Kn (kal4 (kal4 w2 (oN)) ((⟨1,0,0,0⟩:Nm))) [(w2.heap.size + 1, (c4 ((⟨1,0,0,0⟩:Nm)))), (w2.heap.size, (c4 (oN))), (w.heap.size + 1, zz4), (w.heap.size, (c4 (x)))]) := s3.out.al (c4 ((⟨1,0,0,0⟩:Nm))) 24 (by simp)
  have b4 : Hid (Below w.heap.size w (kal4 (kal4 w2 (oN)) ((⟨1,0,0,0⟩:Nm)))) := b3.out.alloc b3.out.size _
  have z4 := b3.out.size
  clear s3 b3
  go_wp2_with fail
  refine (SN _).mono ?_
  rintro e w5 ⟨rfl, hb5⟩
  have s5 : Hid (Kn w5 [(w2.heap.size + 1, (c4 ((⟨1,0,0,0⟩:Nm)))), (w2.heap.size, (c4 (oN))), (w.heap.size + 1, zz4), (w.heap.size, (c4 (x)))]) := s4.out.up hb5
  have b5 : Hid (Below w.heap.size w w5) := b4.out.trans (hb5.mono b4.out.size)
  have z5 := b5.out.size
  clear hb5 s4 b4
  go_wp2_with fail
  have g0 : w.heap.size ≤ w2.heap.size := z3
  have s9 : Hid (Kn w5 [(w2.heap.size + 1, c4 (pk 253)), (w2.heap.size, c4 oN), (w.heap.size + 1, zz4), (w.heap.size, c4 x)]) := by rw [PL'.out]; exact s5
  have b9 := b5
  clear s5 b5
  have gj : Hid (w.heap.size ≤ w2.heap.size + 1) := Nat.le_trans g0 (Nat.le_succ _)
  generalize w2.heap.size + 1 = j1 at *
  generalize w2.heap.size = k1 at *
  go_loopw [6] (fun i w' => ∃ q : Nat, q ≤ 253 ∧ i = .int .i64 ((q : Int) - 1) ∧ Hid (Kn w' [(j1, c4 (pk q)), (k1, c4 oN), (w.heap.size + 1, zz4), (w.heap.size, c4 x)]) ∧ Hid (Below w.heap.size w w')) (fun i _ => (intOf i + 1).toNat)
  case atStart => exact ⟨253, Nat.le_refl _, by first | rfl | go_num, s9, b9⟩
  case round =>
    clear s9 b9
    obtain ⟨q, hq, rfl, s1, b1⟩ := hrel
    by_cases h0 : 0 < q
    · obtain ⟨i, rfl⟩ : ∃ i, q = i + 1 := ⟨q - 1, by omega⟩
      rw [show ((i + 1 : Nat) : Int) - 1 = i by omega]
      have i0 : (i : Int) ≥ 0 := by omega
      have i1 : (i : Int) < 256 := by omega
      have gj' := gj.out
      have T1 := S1 i (by omega)
      have TB := SB i (by omega)
      have G2 : Hid _ := S2 i (by omega)
      have Q0 : Hid _ := P0'.out i (by omega)
      clear S1 SB S2 P0' SN SS
      generalize pk (i + 1) = y at *
      generalize sq i = z at *
      generalize bt i = c at *
      have upw_0 : wr.cell? ⟨j1, 0, none⟩ = some (.int .u64 (y).a) := Kn.get s1.out 0 0 rfl rfl
      have upw_1 : wr.cell? ⟨j1, 1, none⟩ = some (.int .u64 (y).b) := Kn.get s1.out 0 1 rfl rfl
      have upw_2 : wr.cell? ⟨j1, 2, none⟩ = some (.int .u64 (y).c) := Kn.get s1.out 0 2 rfl rfl
      have upw_3 : wr.cell? ⟨j1, 3, none⟩ = some (.int .u64 (y).d) := Kn.get s1.out 0 3 rfl rfl
      go_wp2_with fail
      clear upw_0 upw_1 upw_2 upw_3
      refine (T1 _).mono ?_
      rintro e w2 ⟨rfl, hb2⟩
      have s2 : Hid (Kn w2 [(j1, (c4 (y))), (k1, (c4 (oN))), (w.heap.size + 1, zz4), (w.heap.size, (c4 (x)))]) := s1.out.up hb2
      have b2 : Hid (Below w.heap.size w w2) := b1.out.trans (hb2.mono b1.out.size)
      have z2 := b2.out.size
      clear hb2 s1 b1
      have upwo_0 : w2.cell? ⟨j1, 0, none⟩ = some (.int .u64 (y).a) := Kn.get s2.out 0 0 rfl rfl
      have upwo_1 : w2.cell? ⟨j1, 1, none⟩ = some (.int .u64 (y).b) := Kn.get s2.out 0 1 rfl rfl
      have upwo_2 : w2.cell? ⟨j1, 2, none⟩ = some (.int .u64 (y).c) := Kn.get s2.out 0 2 rfl rfl
      have upwo_3 : w2.cell? ⟨j1, 3, none⟩ = some (.int .u64 (y).d) := Kn.get s2.out 0 3 rfl rfl
      have upwo_z : ∀ j, w2.frozen? ⟨j1, j, none⟩ = false := Kn.fz s2.out 0 rfl
      have s3 : Hid (Kn (st4 w2 j1 (z)) [(j1, (c4 (z))), (k1, (c4 (oN))), (w.heap.size + 1, zz4), (w.heap.size, (c4 (x)))]) := Kn.st4 (L := [(k1, (c4 (oN))), (w.heap.size + 1, zz4), (w.heap.size, (c4 (x)))]) (s2.out.front 0 rfl) (z)
      have b3 : Hid (Below w.heap.size w (st4 w2 j1 (z))) := below_st4 b2.out (by omega)
      clear s2 b2
      have un_0 : (st4 w2 j1 (z)).cell? ⟨k1, 0, none⟩ = some (.int .u64 (oN).a) := Kn.get s3.out 1 0 rfl rfl
      have un_1 : (st4 w2 j1 (z)).cell? ⟨k1, 1, none⟩ = some (.int .u64 (oN).b) := Kn.get s3.out 1 1 rfl rfl
      have un_2 : (st4 w2 j1 (z)).cell? ⟨k1, 2, none⟩ = some (.int .u64 (oN).c) := Kn.get s3.out 1 2 rfl rfl
      have un_3 : (st4 w2 j1 (z)).cell? ⟨k1, 3, none⟩ = some (.int .u64 (oN).d) := Kn.get s3.out 1 3 rfl rfl
      go_wp2_with fail
      clear upwo_0 upwo_1 upwo_2 upwo_3 upwo_z un_0 un_1 un_2 un_3
      refine (TB _).mono ?_
      rintro e w4 ⟨rfl, hb4⟩
      have s4 : Hid (Kn w4 [(j1, (c4 (z))), (k1, (c4 (oN))), (w.heap.size + 1, zz4), (w.heap.size, (c4 (x)))]) := s3.out.up hb4
      have b4 : Hid (Below w.heap.size w w4) := b3.out.trans (hb4.mono b3.out.size)
      have z4 := b4.out.size
      clear hb4 s3 b3
      by_cases hc : c = 1
      · have G3 := G2.out hc
        subst hc
        have upw_0 : w4.cell? ⟨j1, 0, none⟩ = some (.int .u64 (z).a) := Kn.get s4.out 0 0 rfl rfl
        have upw_1 : w4.cell? ⟨j1, 1, none⟩ = some (.int .u64 (z).b) := Kn.get s4.out 0 1 rfl rfl
        have upw_2 : w4.cell? ⟨j1, 2, none⟩ = some (.int .u64 (z).c) := Kn.get s4.out 0 2 rfl rfl
        have upw_3 : w4.cell? ⟨j1, 3, none⟩ = some (.int .u64 (z).d) := Kn.get s4.out 0 3 rfl rfl
        have ua_0 : w4.cell? ⟨w.heap.size, 0, none⟩ = some (.int .u64 (x).a) := Kn.get s4.out 3 0 rfl rfl
        have ua_1 : w4.cell? ⟨w.heap.size, 1, none⟩ = some (.int .u64 (x).b) := Kn.get s4.out 3 1 rfl rfl
        have ua_2 : w4.cell? ⟨w.heap.size, 2, none⟩ = some (.int .u64 (x).c) := Kn.get s4.out 3 2 rfl rfl
        have ua_3 : w4.cell? ⟨w.heap.size, 3, none⟩ = some (.int .u64 (x).d) := Kn.get s4.out 3 3 rfl rfl
        go_wp2_with fail
        clear upw_0 upw_1 upw_2 upw_3 ua_0 ua_1 ua_2 ua_3
        refine (G3 _).mono ?_
        rintro e w5 ⟨rfl, hb5⟩
        have s5 : Hid (Kn w5 [(j1, (c4 (z))), (k1, (c4 (oN))), (w.heap.size + 1, zz4), (w.heap.size, (c4 (x)))]) := s4.out.up hb5
        have b5 : Hid (Below w.heap.size w w5) := b4.out.trans (hb5.mono b4.out.size)
        have z5 := b5.out.size
        clear hb5 s4 b4
        have upwo_0 : w5.cell? ⟨j1, 0, none⟩ = some (.int .u64 (z).a) := Kn.get s5.out 0 0 rfl rfl
        have upwo_1 : w5.cell? ⟨j1, 1, none⟩ = some (.int .u64 (z).b) := Kn.get s5.out 0 1 rfl rfl
        have upwo_2 : w5.cell? ⟨j1, 2, none⟩ = some (.int .u64 (z).c) := Kn.get s5.out 0 2 rfl rfl
        have upwo_3 : w5.cell? ⟨j1, 3, none⟩ = some (.int .u64 (z).d) := Kn.get s5.out 0 3 rfl rfl
        have upwo_z : ∀ j, w5.frozen? ⟨j1, j, none⟩ = false := Kn.fz s5.out 0 rfl
        have s6 : Hid (Kn (st4 w5 j1 (pk i)) [(j1, (c4 (pk i))), (k1, (c4 (oN))), (w.heap.size + 1, zz4), (w.heap.size, (c4 (x)))]) := Kn.st4 (L := [(k1, (c4 (oN))), (w.heap.size + 1, zz4), (w.heap.size, (c4 (x)))]) (s5.out.front 0 rfl) (pk i)
        have b6 : Hid (Below w.heap.size w (st4 w5 j1 (pk i))) := below_st4 b5.out (by omega)
        clear s5 b5
        go_wp2_with fail
        clear upwo_0 upwo_1 upwo_2 upwo_3 upwo_z
        go_roundw
        case rel => exact ⟨i, by omega, by go_num, s6, b6⟩
        case measure => simp [intOf]
      · have hc' : (c == 1) = false := beq_eq_false_iff_ne.2 hc
        go_wp2_with fail
        go_roundw
        case rel => exact ⟨i, by omega, by go_num, by rw [← Q0.out hc]; exact s4, b4⟩
        case measure => simp [intOf]
    · have q0 : q = 0 := by omega
      subst q0
      have upw_0 : wr.cell? ⟨j1, 0, none⟩ = some (.int .u64 (pk 0).a) := Kn.get s1.out 0 0 rfl rfl
      have upw_1 : wr.cell? ⟨j1, 1, none⟩ = some (.int .u64 (pk 0).b) := Kn.get s1.out 0 1 rfl rfl
      have upw_2 : wr.cell? ⟨j1, 2, none⟩ = some (.int .u64 (pk 0).c) := Kn.get s1.out 0 2 rfl rfl
      have upw_3 : wr.cell? ⟨j1, 3, none⟩ = some (.int .u64 (pk 0).d) := Kn.get s1.out 0 3 rfl rfl
      have uro_0 : wr.cell? ⟨w.heap.size + 1, 0, none⟩ = some (.int .u64 0) := Kn.get s1.out 2 0 rfl rfl
      have uro_1 : wr.cell? ⟨w.heap.size + 1, 1, none⟩ = some (.int .u64 0) := Kn.get s1.out 2 1 rfl rfl
      have uro_2 : wr.cell? ⟨w.heap.size + 1, 2, none⟩ = some (.int .u64 0) := Kn.get s1.out 2 2 rfl rfl
      have uro_3 : wr.cell? ⟨w.heap.size + 1, 3, none⟩ = some (.int .u64 0) := Kn.get s1.out 2 3 rfl rfl
      have uro_z : ∀ j, wr.frozen? ⟨w.heap.size + 1, j, none⟩ = false := Kn.fz s1.out 2 rfl
      have s2 : Hid (Kn (st4 wr (w.heap.size + 1) (pk 0)) [(w.heap.size + 1, (c4 (pk 0))), (j1, (c4 (pk 0))), (k1, (c4 (oN))), (w.heap.size, (c4 (x)))]) := Kn.st4 (L := [(j1, (c4 (pk 0))), (k1, (c4 (oN))), (w.heap.size, (c4 (x)))]) (s1.out.front 2 rfl) (pk 0)
      have b2 : Hid (Below w.heap.size w (st4 wr (w.heap.size + 1) (pk 0))) := below_st4 b1.out (by omega)
      clear s1 b1
      go_wp2_with fail
      clear upw_0 upw_1 upw_2 upw_3 uro_0 uro_1 uro_2 uro_3 uro_z
      have urr_0 : (st4 wr (w.heap.size + 1) (pk 0)).cell? ⟨w.heap.size + 1, 0, none⟩ = some (.int .u64 (pk 0).a) := Kn.get s2.out 0 0 rfl rfl
      have urr_1 : (st4 wr (w.heap.size + 1) (pk 0)).cell? ⟨w.heap.size + 1, 1, none⟩ = some (.int .u64 (pk 0).b) := Kn.get s2.out 0 1 rfl rfl
      have urr_2 : (st4 wr (w.heap.size + 1) (pk 0)).cell? ⟨w.heap.size + 1, 2, none⟩ = some (.int .u64 (pk 0).c) := Kn.get s2.out 0 2 rfl rfl
      have urr_3 : (st4 wr (w.heap.size + 1) (pk 0)).cell? ⟨w.heap.size + 1, 3, none⟩ = some (.int .u64 (pk 0).d) := Kn.get s2.out 0 3 rfl rfl
      refine bodyPost_ret (v := N (pk 0)) ?_ rfl ⟨rfl, b2.out⟩
      show (results Tryd.f20 _).run Tryd.prog (st4 wr (w.heap.size + 1) (pk 0)) = .ok _ (st4 wr (w.heap.size + 1) (pk 0))
      clear s2 b2
      generalize (st4 wr (w.heap.size + 1) (pk 0)) = W9 at *
      simp [results, Tryd.results20, go_sem, urr_0, urr_1, urr_2, urr_3]
theorem sInvC : SInvC := fun x ox w => by
  -- function 20
  have hL : Cv.ord = 7237005577332262213973186563042994240857116359379907606001950938285454250989 := rfl
  obtain ⟨n, hn⟩ : ∃ n, n = Cv.ord - 2 := ⟨_, rfl⟩
  have ln : n < 2 ^ 253 := by rw [hn]; decide
  have l2 : n < 2 ^ 256 := Nat.lt_trans ln (by decide)
  have SS := sub_nat lN ⟨2, 0, 0, 0⟩ lN_ok (one_ok ⟨by decide, by decide⟩)
  rw [lN_nat, show (⟨2, 0, 0, 0⟩ : Nm).nat = 2 from rfl, show (Cv.ord + 2 ^ 256 - 2) % 2 ^ 256 = n by rw [hn]; decide] at SS
  have SN := len_fun (nm n) (nm_ok _)
  have e : lenN (nm n).val.toNat = 253 := by
    show lenN (nm n).nat = 253
    rw [nm_nat l2]
    refine lenN_eq fun k => ⟨fun h => Nat.lt_of_lt_of_le ln (Nat.pow_le_pow_right (by decide) h), fun h => ?_⟩
    refine Nat.le_of_not_lt fun hk => ?_
    have := Nat.pow_le_pow_right (n := 2) (by decide) (show k ≤ 252 by omega)
    have h3 : 2 ^ 252 ≤ n := by rw [hn]; decide
    omega
  rw [e] at SN
  have bitv : ∀ i : Nat, (nm n).val / 2 ^ i % 2 = ((n / 2 ^ i % 2 : Nat) : Int) := fun i => by
    rw [← Nm.nat_cast (nm_ok n), nm_nat l2, Int.natCast_emod, Int.natCast_ediv, Int.natCast_pow]
    rfl
  have up : ∀ i, n / 2 ^ i = n / 2 ^ (i + 1) + n / 2 ^ (i + 1) + n / 2 ^ i % 2 := fun i => by
    rw [Nat.pow_succ, ← Nat.div_div_eq_div_mul]
    omega
  have h := sInv_walk x (nm n) _ (fun i => nm (x.nat ^ (n / 2 ^ i) % Cv.ord)) (fun i => nm (x.nat ^ (n / 2 ^ (i + 1)) * x.nat ^ (n / 2 ^ (i + 1)) % Cv.ord)) (fun i => (nm n).val / 2 ^ i % 2) SS SN
    (fun i _ => ?_) (fun i hi => bit_fun (nm n) (nm_ok _) i (by omega)) (fun i _ hb => ?_) (fun i _ hb => ?_) ?_ w
  · rw [Nat.pow_zero, Nat.div_one, hn] at h
    exact h
  · have := sMulC (nm (x.nat ^ (n / 2 ^ (i + 1)) % Cv.ord)) (nm (x.nat ^ (n / 2 ^ (i + 1)) % Cv.ord)) (nm_ok _) (nm_ok _)
    rw [s_nat, ← Nat.mul_mod] at this
    exact this
  · have := sMulC (nm (x.nat ^ (n / 2 ^ (i + 1)) * x.nat ^ (n / 2 ^ (i + 1)) % Cv.ord)) x (nm_ok _) ox
    rw [s_nat, Nat.mod_mul_mod] at this
    have b1 : n / 2 ^ i % 2 = 1 := by have := bitv i; omega
    have e := up i
    rw [b1] at e
    rw [show x.nat ^ (n / 2 ^ i) = x.nat ^ (n / 2 ^ (i + 1)) * x.nat ^ (n / 2 ^ (i + 1)) * x.nat by rw [e, Nat.pow_succ, Nat.pow_add]]
    exact this
  · have b0 : n / 2 ^ i % 2 = 0 := by have := bitv i; omega
    have e := up i
    rw [b0, Nat.add_zero] at e
    show nm _ = nm _
    rw [← Nat.pow_add, ← e]
  · show nm _ = _
    have : n / 2 ^ 253 = 0 := Nat.div_eq_of_lt ln
    rw [this, Nat.pow_zero]
    rfl
end Go.Proofs.YtdcpicbkemmakaaDoor

/- Package share, as it landed: what Split answers is what the document has. -/
namespace Go.Proofs.YtdcpicbkemmakaaDoor
open Go.RowKit
set_option linter.unusedSimpArgs false
theorem nm_low {a : Nat} (h : a < Cv.ord) : (nm a).nat = a := nm_nat (Nat.lt_trans h ord_lt)
theorem o_gt0 : 0 < Cv.ord := by decide
/-- The numbers of the polynomial; what the drawings answer. -/
def plN (S : Nat) (seed : List Nat) (j : Nat) : Nm := nm (nsF S seed j)
def erI (seed : List Nat) (m : Nat) : Int := (erF seed m : Int)
/-- From the last one on. -/
def hsN (S : Nat) (seed : List Nat) (k x j : Nat) : Nat := pvN ((cfs S seed k).drop j) x % Cv.ord
theorem hsN_lt (S : Nat) (seed : List Nat) (k x j : Nat) : hsN S seed k x j < Cv.ord := Nat.mod_lt _ o_gt0
theorem hsN_end (S : Nat) (seed : List Nat) {k : Nat} (hk : 1 ≤ k) (x : Nat) : hsN S seed k x k = 0 := by
  unfold hsN
  rw [List.drop_of_length_le (by rw [cfs_range S seed hk, List.length_map, List.length_range]; exact Nat.le_refl _)]
  rfl
theorem hsN_step (S : Nat) (seed : List Nat) {k : Nat} (hk : 1 ≤ k) (x j : Nat) (hj : j < k) : hsN S seed k x j = (hsN S seed k x (j + 1) * x % Cv.ord + nsF S seed j) % Cv.ord := by
  have hl : j < (cfs S seed k).length := by rw [cfs_range S seed hk, List.length_map, List.length_range]; exact hj
  have e : (cfs S seed k).drop j = nsF S seed j :: (cfs S seed k).drop (j + 1) := by
    rw [List.drop_eq_getElem_cons hl]
    congr 1
    simp only [cfs_range S seed hk, List.getElem_map, List.getElem_range]
  unfold hsN
  rw [e, pvN]
  generalize pvN ((cfs S seed k).drop (j + 1)) x = P
  generalize nsF S seed j = c
  rw [Nat.mod_add_mod, Nat.mul_comm x P]
  conv => lhs; rw [Nat.add_comm, Nat.add_mod, Nat.mul_mod]
  conv => rhs; rw [Nat.add_mod, Nat.mul_mod, Nat.mod_mod]
theorem value_fun {S : Nat} (hS : S < Cv.ord) (seed : List Nat) {k : Nat} (k1 : 1 ≤ k) (k20 : k ≤ 20) (g i : Nat) (hi : i < 20) (w : World) (hw : Kn w [(g, plR (plN S seed) k k)]) :
    Calls Tryd.prog 26 #[.slice (some ⟨g, 0, none⟩) k k, .int .i64 ((i : Int) + 1)] w fun e w' => e = .returned (N (nm (pvN (cfs S seed k) (i + 1) % Cv.ord))) ∧ Below w.heap.size w w' := by
  have big : 1000 < Cv.ord := by decide
  have := value_walk k g 0 k k20 ((i : Int) + 1) (smN (i + 1)) (plN S seed) (fun j => nm (hsN S seed k (i + 1) j)) (fun j => nm (hsN S seed k (i + 1) (j + 1) * (i + 1) % Cv.ord))
    (by show nm (hsN S seed k (i + 1) k) = _; rw [hsN_end S seed k1, nm_nought]) w
    (fun W hW j hj => by
      have h2 := hw.all (g, plR (plN S seed) k k) (by simp)
      rw [Nat.zero_add]
      exact plR_rng (hw.up (hW.mono (Nat.le_refl _))) hj (Nat.le_refl _))
    (fun W => by
      have := number_is (i + 1) (by omega) W
      exact this)
    (fun j hj W => by
      have := sMulC (nm (hsN S seed k (i + 1) (j + 1))) (smN (i + 1)) (nm_ok _) (smN_ok (by omega)) W
      rwa [nm_low (hsN_lt _ _ _ _ _), smN_nat] at this)
    (fun j hj W => by
      have := sAddC (nm (hsN S seed k (i + 1) (j + 1) * (i + 1) % Cv.ord)) (plN S seed j) (nm_ok _) (nm_ok _) W
      rw [nm_low (Nat.mod_lt _ o_gt0), show (plN S seed j).nat = nsF S seed j from nm_low (nsF_lt hS seed j), ← hsN_step S seed k1 (i + 1) j hj] at this
      exact this)
  exact this
theorem erF_some {seed : List Nat} {m t : Nat} (h : cfT seed m = some t) : erF seed m = 0 := by unfold erF; rw [h]
theorem erF_none {seed : List Nat} {m : Nat} (h : cfT seed m = none) : erF seed m = 6 := by unfold erF; rw [h]
/-- What the source is behind so many drawings. -/
def StP (seed : List Nat) (src : Nat) (W : World) (m : Nat) : Prop := (∃ F, Src W src F seed (cfP seed m)) ∨ ∃ i, i < m ∧ erI seed i ≠ 0
theorem poly_fun (x : Nm) (ox : x.ok) (seed : List Nat) (k : Nat) (k1 : 1 ≤ k) (k20 : k ≤ 20) (q src : Nat) (w : World) (hq : q < w.heap.size) (hqk : q ≠ src) (hsrc : src < w.heap.size) (hv : w.cell? ⟨q, 0, none⟩ = some (ptr src)) (hs : ∃ F, Src w src F seed 0) (hK : KTab w) (hg : 0 < src) :
    Calls Tryd.prog 23 #[N x, .int .i64 (k : Int), nxV q] w fun e w' => PlPost (plN x.nat seed) (erI seed) k src w e w' := by
  have ex : plN x.nat seed 0 = x := by
    unfold plN
    rw [nsF_zero]
    exact (Nm.eq_nm ox rfl).symm
  have := poly_walk k k1 k20 q src (plN x.nat seed) (erI seed) (StP seed src) w hsrc (.inl hs)
    (fun W W' m h e => by
      rcases h with ⟨F, h⟩ | h
      · exact .inl ⟨F, h.stay e⟩
      · exact .inr h)
    (fun m hm W hF hst no => by
      rcases hst with ⟨F, hs⟩ | ⟨i, hi, hne⟩
      · have hq' : W.cell? ⟨q, 0, none⟩ = some (ptr src) := by
          have e := hF.block q hq (fun e => hqk (Option.some.inj e))
          rw [← hv]
          unfold World.cell?
          simp only [e]
        have hK' : KTab W := hK.up (hF.below (B := 0 + 1) (by omega) (by omega)) (by omega)
        refine (next_fun W (Nat.lt_of_lt_of_le hq hF.size) hqk hq' hs hK' hg).mono ?_
        rintro e w' ⟨he, hS2, hF2⟩
        have hc : belS seed (cfP seed m) 253 Cv.ord = cfT seed m := rfl
        rw [hc] at he hS2
        cases hT : cfT seed m with
        | some t =>
          rw [hT] at he hS2
          have e1 : plN x.nat seed (m + 1) = nm (tryS seed (cfP seed m) 253 t) := by
            unfold plN
            rw [nsF_succ]
            unfold cfN
            rw [hT]
          have e2 : erI seed m = 0 := by unfold erI; rw [erF_some hT]; rfl
          have e3 : cfP seed (m + 1) = (cfP seed m + 32 * (t + 1)) % 18446744073709551616 := by
            show cfStep seed (cfP seed m) = _
            unfold cfStep
            rw [hc, hT]
          refine ⟨?_, .inl ⟨F, ?_⟩, hF2⟩
          · rw [he, e1, e2]
          · rw [e3]
            exact hS2
        | none =>
          rw [hT] at he
          have e1 : plN x.nat seed (m + 1) = ⟨0, 0, 0, 0⟩ := by
            unfold plN
            rw [nsF_succ]
            unfold cfN
            rw [hT]
            exact nm_nought
          have e2 : erI seed m = 6 := by unfold erI; rw [erF_none hT]; rfl
          refine ⟨?_, .inr ⟨m, Nat.lt_succ_self _, by rw [e2]; decide⟩, hF2⟩
          rw [he, e1, e2]
      · exact absurd (no i hi) hne)
  rw [ex] at this
  exact this
/-- What Split answers. -/
theorem splitC : SplitC := fun x ox k n _ _ seed ls zs v w hv hK => by
  by_cases hr : k < 1 ∨ n < k ∨ 20 < n
  · have e : splE x.nat k n seed = 1 := by
      unfold splE
      rw [if_pos (by omega)]
    have e2 : splL x.nat k n seed = [] := by
      unfold splL
      rw [if_neg (by rw [e]; decide)]
    rw [e, e2]
    refine (split_arg x k n v hr w).mono ?_
    rintro e w' ⟨rfl, hb⟩
    exact ⟨⟨_, rfl, ⟨none, 0, rfl, ⟨Nat.le_refl _, fun _ => rfl⟩, fun h => absurd h (Nat.lt_irrefl _)⟩⟩, hb⟩
  by_cases hS : x.nat < Cv.ord
  · obtain ⟨kn, rfl⟩ : ∃ kn : Nat, k = (kn : Int) := ⟨k.toNat, by omega⟩
    obtain ⟨nn, rfl⟩ : ∃ nn : Nat, n = (nn : Int) := ⟨n.toNat, by omega⟩
    have k1 : 1 ≤ kn := by omega
    have kn' : kn ≤ nn := by omega
    have n20 : nn ≤ 20 := by omega
    have LB : ∀ W, Calls Tryd.prog 21 #[N x] W fun e w' => e = .returned (.bool true) ∧ Below W.heap.size W w' := fun W => by
      have := isBelow_is x ox W
      rwa [decide_eq_true hS] at this
    have hgK : 0 < w.heap.size := hK.pos
    refine (split_walk x kn nn k1 kn' n20 v (plN x.nat seed) (fun i => nm (pvN (cfs x.nat seed kn) (i + 1) % Cv.ord)) (erI seed) (fun W src => ∃ F, Src W src F seed 0) w LB ?_ ?_ ?_ ?_).mono ?_
    · intro W hW
      refine (snew_fun seed ls zs v W (hv.up hW (Nat.le_refl _)) (hK.up hW hK.pos)).mono ?_
      rintro e w' ⟨⟨src, F, rfl, h1, -, h3⟩, hb⟩
      exact ⟨⟨src, rfl, h1, h3.blk.lt, F, h3⟩, hb⟩
    · rintro W W' src ⟨F, h⟩ e
      exact ⟨F, h.stay e⟩
    · intro W q src hW hD hs1 hs2 hq hqs hc
      exact poly_fun x ox seed kn k1 (by omega) q src W hq hqs hs2 hc hD (hK.up hW hK.pos) (by omega)
    · intro W g i hi hw
      exact value_fun hS seed k1 (by omega) g i (by omega) W hw
    · rintro e w' ⟨hp, hb⟩
      refine ⟨?_, hb⟩
      have e0 : splE x.nat (kn : Int) (nn : Int) seed = if (List.range (kn - 1)).any (fun m => (cfT seed m).isNone) = true then 6 else 0 := by
        unfold splE
        rw [if_neg (by omega), Int.toNat_natCast]
      rcases hp with ⟨no, v', rfl, hs⟩ | ⟨m, hm, -, hne, rfl⟩
      · have hz : splE x.nat (kn : Int) (nn : Int) seed = 0 := by
          rw [e0, if_neg]
          intro h
          obtain ⟨m, hm, h⟩ := (any_none seed kn).1 h
          have := no m hm
          unfold erI at this
          omega
        have hl : splL x.nat (kn : Int) (nn : Int) seed = (List.range nn).map fun (i : Nat) => ⟨(i : Int) + 1, nm (pvN (cfs x.nat seed kn) (i + 1) % Cv.ord)⟩ := by
          unfold splL
          rw [if_pos hz, Int.toNat_natCast, Int.toNat_natCast]
          refine List.map_congr_left fun i _ => ?_
          unfold shrAt
          congr 1
        rw [hz, hl]
        exact ⟨v', rfl, hs⟩
      · have h6 : erF seed m = 6 := erF_six seed m (by unfold erI at hne; omega)
        have hz : splE x.nat (kn : Int) (nn : Int) seed = 6 := by
          rw [e0, if_pos]
          exact (any_none seed kn).2 ⟨m, hm, by rw [h6]; decide⟩
        have hl : splL x.nat (kn : Int) (nn : Int) seed = [] := by
          unfold splL
          rw [if_neg (by rw [hz]; decide)]
        rw [hz, hl]
        refine ⟨_, ?_, ⟨none, 0, rfl, ⟨Nat.le_refl _, fun _ => rfl⟩, fun h => absurd h (Nat.lt_irrefl _)⟩⟩
        unfold erI
        rw [h6]
        rfl
  · have e : splE x.nat k n seed = 1 := by
      unfold splE
      rw [if_pos (by omega)]
    have e2 : splL x.nat k n seed = [] := by
      unfold splL
      rw [if_neg (by rw [e]; decide)]
    rw [e, e2]
    have LB : ∀ W, Calls Tryd.prog 21 #[N x] W fun e w' => e = .returned (.bool false) ∧ Below W.heap.size W w' := fun W => by
      have := isBelow_is x ox W
      rwa [decide_eq_false hS] at this
    refine (split_large x k n v (by omega) (by omega) (by omega) w LB).mono ?_
    rintro e w' ⟨rfl, hb⟩
    exact ⟨⟨_, rfl, ⟨none, 0, rfl, ⟨Nat.le_refl _, fun _ => rfl⟩, fun h => absurd h (Nat.lt_irrefl _)⟩⟩, hb⟩
end Go.Proofs.YtdcpicbkemmakaaDoor
