/- The contracts of quot's small functions: how many bits a number of eight words needs, its top, one of its bits. -/
import Derived.Test.YtkgfeacednomfaaShift
import Derived.Test.YtkgfeacednomfaaLenW
import Derived.Test.YtkgfeacednomfaaUpA
import Derived.Test.YtkgfeacednomfaaAddSub
import Derived.Test.YtkgfeacednomfaaHalf
import Derived.Test.YtkgfeacednomfaaEq
import Derived.Test.YtkgfeacednomfaaQMath
import Derived.RowKit3
namespace Go.Proofs.Ytkgfeacednomfaa
open Go.RowKit
attribute [local go_sem] World.cell?_alloc_some frozen?_alloc_cells

set_option maxHeartbeats 400000 in
theorem shift_out (x : Nm) (n : Int) (h : n ≤ -256 ∨ n ≥ 256) (w : World) :
    Calls Try.prog 24 #[N x, .int .i64 n] w fun e w' => e = .returned (N ⟨0, 0, 0, 0⟩) ∧ Below w.heap.size w w' := by
  by_cases h' : n ≤ -256
  · go_enter Try.func24, Try.ntmps24
    go_wp2_with fail
    refine bodyPost_ret (v := N ⟨0, 0, 0, 0⟩) (by simp [results, Try.results24, go_sem]) rfl ⟨rfl, ?_⟩
    repeat (first | exact Below.refl _ _ | refine Below.drew ?_ | refine Below.setCell ?_ (by simp <;> omega) _ | refine Below.alloc ?_ (by simp <;> omega) _)
  · have h'' : n ≥ 256 := by omega
    go_enter Try.func24, Try.ntmps24
    go_wp2_with fail
    refine bodyPost_ret (v := N ⟨0, 0, 0, 0⟩) (by simp [results, Try.results24, go_sem]) rfl ⟨rfl, ?_⟩
    repeat (first | exact Below.refl _ _ | refine Below.drew ?_ | refine Below.setCell ?_ (by simp <;> omega) _ | refine Below.alloc ?_ (by simp <;> omega) _)

theorem of_self {x : Nm} (hx : x.ok) {v : Int} (h : v = x.val) : Nm.of v = x := by
  subst h
  exact (Nm.eq_of hx rfl).symm
theorem shift_zero (x : Nm) (hx : x.ok) (w : World) :
    Calls Try.prog 24 #[N x, .int .i64 0] w fun e w' => e = .returned (N x) ∧ Below w.heap.size w w' := by
  have := shift_pos x hx 0 (by omega) w
  rw [of_self hx (by simp; exact Int.emod_eq_of_lt (Nm.val_nonneg hx) (Nm.val_lt hx))] at this
  exact this
theorem shift_dn (x : Nm) (hx : x.ok) (n : Nat) (hn : n < 256) (w : World) :
    Calls Try.prog 24 #[N x, .int .i64 (-(n : Int))] w fun e w' => e = .returned (N (Nm.of (x.val / 2 ^ n))) ∧ Below w.heap.size w w' := by
  by_cases h : n = 0
  · subst h
    have := shift_zero x hx w
    rw [of_self hx (by simp)]
    exact this
  · exact shift_neg x hx n (by omega) hn w

set_option maxHeartbeats 400000 in
theorem wideLen_walk (l h : Nm) (A B : Int) (b : Bool) (hb : Nm.beq h ⟨0, 0, 0, 0⟩ = b) (a1 : 0 ≤ A) (a2 : A ≤ 256)
    (SH : ∀ w, Calls Try.prog 23 #[N h] w fun e w' => e = .returned (.int .i64 A) ∧ Below w.heap.size w w')
    (SL : ∀ w, Calls Try.prog 23 #[N l] w fun e w' => e = .returned (.int .i64 B) ∧ Below w.heap.size w w') (w : World) :
    Calls Try.prog 84 #[Wv l h] w fun e w' => e = .returned (.int .i64 (if b then B else 256 + A)) ∧ Below w.heap.size w w' := by
  have e1 := neN h ⟨0, 0, 0, 0⟩
  rw [hb] at e1
  have HB : Hid _ := hb
  clear hb
  cases b
  · go_enter Try.func84, Try.ntmps84
    go_wp2_with fail
    refine (high_fun l h _).mono ?_
    rintro e w1 ⟨rfl, hb1⟩
    have z1 := hb1.size
    try simp at z1
    obtain ⟨qw_0_1, qw_1_1, qw_2_1, qw_3_1, qw_4_1, qw_5_1, qw_6_1, qw_7_1⟩ := Lies8.up (l := l) (h := h) (k := w.heap.size) (by constructor <;> first | assumption | simp [go_sem]) hb1
    have b1 : Hid (Below w.heap.size w w1) := by
      refine Below.trans ?_ (hb1.mono (by first | omega | (simp <;> omega)))
      repeat (first | exact Below.refl _ _ | refine Below.drew ?_ | refine Below.setCell ?_ (by first | omega | (simp <;> omega)) _ | refine Below.alloc ?_ (by first | omega | (simp <;> omega)) _)
    clear hb1
    go_wp2_with fail
    refine (SH _).mono ?_
    rintro e w2 ⟨rfl, hb2⟩
    have z2 := hb2.size
    try simp at z2
    have b2 : Hid (Below w.heap.size w w2) := by
      refine Below.trans ?_ (hb2.mono (by first | omega | (simp <;> omega)))
      repeat (first | exact b1.out | refine Below.drew ?_ | refine Below.setCell ?_ (by first | omega | (simp <;> omega)) _ | refine Below.alloc ?_ (by first | omega | (simp <;> omega)) _)
    clear hb2 b1 qw_0_1 qw_1_1 qw_2_1 qw_3_1 qw_4_1 qw_5_1 qw_6_1 qw_7_1
    go_wp2_with fail
    go_ret
    refine ⟨rfl, ?_⟩
    repeat (first | exact b2.out | refine Below.drew ?_ | refine Below.setCell ?_ (by first | omega | (simp <;> omega)) _ | refine Below.alloc ?_ (by first | omega | (simp <;> omega)) _)
  · go_enter Try.func84, Try.ntmps84
    go_wp2_with fail
    refine (high_fun l h _).mono ?_
    rintro e w1 ⟨rfl, hb1⟩
    have z1 := hb1.size
    try simp at z1
    obtain ⟨qw_0_1, qw_1_1, qw_2_1, qw_3_1, qw_4_1, qw_5_1, qw_6_1, qw_7_1⟩ := Lies8.up (l := l) (h := h) (k := w.heap.size) (by constructor <;> first | assumption | simp [go_sem]) hb1
    have b1 : Hid (Below w.heap.size w w1) := by
      refine Below.trans ?_ (hb1.mono (by first | omega | (simp <;> omega)))
      repeat (first | exact Below.refl _ _ | refine Below.drew ?_ | refine Below.setCell ?_ (by first | omega | (simp <;> omega)) _ | refine Below.alloc ?_ (by first | omega | (simp <;> omega)) _)
    clear hb1
    go_wp2_with fail
    refine (low_fun l h _).mono ?_
    rintro e w2 ⟨rfl, hb2⟩
    have z2 := hb2.size
    try simp at z2
    have b2 : Hid (Below w.heap.size w w2) := by
      refine Below.trans ?_ (hb2.mono (by first | omega | (simp <;> omega)))
      repeat (first | exact b1.out | refine Below.drew ?_ | refine Below.setCell ?_ (by first | omega | (simp <;> omega)) _ | refine Below.alloc ?_ (by first | omega | (simp <;> omega)) _)
    clear hb2 b1 qw_0_1 qw_1_1 qw_2_1 qw_3_1 qw_4_1 qw_5_1 qw_6_1 qw_7_1
    go_wp2_with fail
    refine (SL _).mono ?_
    rintro e w3 ⟨rfl, hb3⟩
    have z3 := hb3.size
    try simp at z3
    have b3 : Hid (Below w.heap.size w w3) := by
      refine Below.trans ?_ (hb3.mono (by first | omega | (simp <;> omega)))
      repeat (first | exact b2.out | refine Below.drew ?_ | refine Below.setCell ?_ (by first | omega | (simp <;> omega)) _ | refine Below.alloc ?_ (by first | omega | (simp <;> omega)) _)
    clear hb3 b2
    go_wp2_with fail
    go_ret
    refine ⟨rfl, ?_⟩
    repeat (first | exact b3.out | refine Below.drew ?_ | refine Below.setCell ?_ (by first | omega | (simp <;> omega)) _ | refine Below.alloc ?_ (by first | omega | (simp <;> omega)) _)
theorem wideLen_fun (l h : Nm) (ol : l.ok) (oh : h.ok) (w : World) :
    Calls Try.prog 84 #[Wv l h] w fun e w' => e = .returned (.int .i64 (lenN (V l h))) ∧ Below w.heap.size w w' := by
  have a0 := Nm.val_nonneg ol; have a1 := Nm.val_lt ol; have b0 := Nm.val_nonneg oh; have b1 := Nm.val_lt oh
  have hM : M.toNat = 2 ^ 256 := rfl
  have L1 : lenN h.val.toNat ≤ 256 := lenN_le.2 (by omega)
  refine (wideLen_walk l h (lenN h.val.toNat) (lenN l.val.toNat) _ rfl (by omega) (by omega) (len_fun h oh) (len_fun l ol) w).mono ?_
  rintro e w' ⟨rfl, hb⟩
  refine ⟨?_, hb⟩
  by_cases hz : h = ⟨0, 0, 0, 0⟩
  · subst hz
    rw [Nm.beq_self, if_pos rfl, V_zero]
  · rw [Nm.beq_ne hz]
    have hv : h.val ≠ 0 := fun e => hz (Nm.ext_val oh ⟨⟨by decide, by decide⟩, ⟨by decide, by decide⟩, ⟨by decide, by decide⟩, ⟨by decide, by decide⟩⟩ (by rw [e]; rfl))
    have e := len_word (v := ((V l h : Nat) : Int)) (l := l.val) (a := h.val) (s := 256) M rfl (V_cast ol oh) a0 a1 (by omega)
    rw [Int.toNat_natCast] at e
    rw [e]
    simp

set_option maxHeartbeats 400000 in
theorem wideTop_walk (l h x y : Nm) (ox : x.ok) (oy : y.ok) (n : Nat) (hn : n ≤ 512)
    (SL : ∀ w, Calls Try.prog 24 #[N l, .int .i64 (-(n : Int))] w fun e w' => e = .returned (N x) ∧ Below w.heap.size w w')
    (SH : ∀ w, Calls Try.prog 24 #[N h, .int .i64 (256 - (n : Int))] w fun e w' => e = .returned (N y) ∧ Below w.heap.size w w') (w : World) :
    Calls Try.prog 85 #[Wv l h, .int .i64 n] w fun e w' => e = .returned (N (addS x y)) ∧ Below w.heap.size w w' := by
  go_enter Try.func85, Try.ntmps85
  go_wp2_with fail
  refine (low_fun l h _).mono ?_
  rintro e w1 ⟨rfl, hb1⟩
  have z1 := hb1.size
  try simp at z1
  obtain ⟨qw_0_1, qw_1_1, qw_2_1, qw_3_1, qw_4_1, qw_5_1, qw_6_1, qw_7_1⟩ := Lies8.up (l := l) (h := h) (k := w.heap.size) (by constructor <;> first | assumption | simp [go_sem]) hb1
  obtain ⟨qw1_0_1, qw1_1_1, qw1_2_1, qw1_3_1, qw1_z_1⟩ := Cells4.up (W := _) (k := w.heap.size + 1) (a := .int .u64 0) (b := .int .u64 0) (c := .int .u64 0) (d := .int .u64 0) (by constructor <;> first | assumption | simp [go_sem]) hb1
  have b1 : Hid (Below w.heap.size w w1) := by
    refine Below.trans ?_ (hb1.mono (by first | omega | (simp <;> omega)))
    repeat (first | exact Below.refl _ _ | refine Below.drew ?_ | refine Below.setCell ?_ (by first | omega | (simp <;> omega)) _ | refine Below.alloc ?_ (by first | omega | (simp <;> omega)) _)
  clear hb1
  go_wp2_with fail
  refine (SL _).mono ?_
  rintro e w2 ⟨rfl, hb2⟩
  have z2 := hb2.size
  try simp at z2
  obtain ⟨qw_0_2, qw_1_2, qw_2_2, qw_3_2, qw_4_2, qw_5_2, qw_6_2, qw_7_2⟩ := Lies8.up (l := l) (h := h) (k := w.heap.size) (by constructor <;> first | assumption | simp [go_sem, qw_0_1, qw_1_1, qw_2_1, qw_3_1, qw_4_1, qw_5_1, qw_6_1, qw_7_1]) hb2
  obtain ⟨qw1_0_2, qw1_1_2, qw1_2_2, qw1_3_2, qw1_z_2⟩ := Cells4.up (W := _) (k := w.heap.size + 1) (a := .int .u64 0) (b := .int .u64 0) (c := .int .u64 0) (d := .int .u64 0) (by constructor <;> first | assumption | simp [go_sem, qw1_0_1, qw1_1_1, qw1_2_1, qw1_3_1, qw1_z_1]) hb2
  have b2 : Hid (Below w.heap.size w w2) := by
    refine Below.trans ?_ (hb2.mono (by first | omega | (simp <;> omega)))
    repeat (first | exact b1.out | refine Below.drew ?_ | refine Below.setCell ?_ (by first | omega | (simp <;> omega)) _ | refine Below.alloc ?_ (by first | omega | (simp <;> omega)) _)
  clear hb2 b1 qw_0_1 qw_1_1 qw_2_1 qw_3_1 qw_4_1 qw_5_1 qw_6_1 qw_7_1 qw1_0_1 qw1_1_1 qw1_2_1 qw1_3_1 qw1_z_1
  go_wp2_with fail
  refine (high_fun l h _).mono ?_
  rintro e w3 ⟨rfl, hb3⟩
  have z3 := hb3.size
  try simp at z3
  obtain ⟨qw2_0_3, qw2_1_3, qw2_2_3, qw2_3_3⟩ := Lies.up (x := x) (k := w2.heap.size) (by constructor <;> first | assumption | simp [go_sem]) hb3
  obtain ⟨qw1_0_3, qw1_1_3, qw1_2_3, qw1_3_3, qw1_z_3⟩ := Cells4.up (W := _) (k := w.heap.size + 1) (a := .int .u64 0) (b := .int .u64 0) (c := .int .u64 0) (d := .int .u64 0) (by constructor <;> first | assumption | simp [go_sem, qw1_0_2, qw1_1_2, qw1_2_2, qw1_3_2, qw1_z_2]) hb3
  have b3 : Hid (Below w.heap.size w w3) := by
    refine Below.trans ?_ (hb3.mono (by first | omega | (simp <;> omega)))
    repeat (first | exact b2.out | refine Below.drew ?_ | refine Below.setCell ?_ (by first | omega | (simp <;> omega)) _ | refine Below.alloc ?_ (by first | omega | (simp <;> omega)) _)
  clear hb3 b2 qw_0_2 qw_1_2 qw_2_2 qw_3_2 qw_4_2 qw_5_2 qw_6_2 qw_7_2 qw1_0_2 qw1_1_2 qw1_2_2 qw1_3_2 qw1_z_2
  go_wp2_with fail
  refine (SH _).mono ?_
  rintro e w4 ⟨rfl, hb4⟩
  have z4 := hb4.size
  try simp at z4
  obtain ⟨qw2_0_4, qw2_1_4, qw2_2_4, qw2_3_4⟩ := Lies.up (x := x) (k := w2.heap.size) (by constructor <;> first | assumption | simp [go_sem, qw2_0_3, qw2_1_3, qw2_2_3, qw2_3_3]) hb4
  obtain ⟨qw1_0_4, qw1_1_4, qw1_2_4, qw1_3_4, qw1_z_4⟩ := Cells4.up (W := _) (k := w.heap.size + 1) (a := .int .u64 0) (b := .int .u64 0) (c := .int .u64 0) (d := .int .u64 0) (by constructor <;> first | assumption | simp [go_sem, qw1_0_3, qw1_1_3, qw1_2_3, qw1_3_3, qw1_z_3]) hb4
  have b4 : Hid (Below w.heap.size w w4) := by
    refine Below.trans ?_ (hb4.mono (by first | omega | (simp <;> omega)))
    repeat (first | exact b3.out | refine Below.drew ?_ | refine Below.setCell ?_ (by first | omega | (simp <;> omega)) _ | refine Below.alloc ?_ (by first | omega | (simp <;> omega)) _)
  clear hb4 b3 qw2_0_3 qw2_1_3 qw2_2_3 qw2_3_3 qw1_0_3 qw1_1_3 qw1_2_3 qw1_3_3 qw1_z_3
  go_wp2_with fail
  refine (add_fun x y ox oy _).mono ?_
  rintro e w5 ⟨rfl, hb5⟩
  have z5 := hb5.size
  try simp at z5
  obtain ⟨qw1_0_5, qw1_1_5, qw1_2_5, qw1_3_5, qw1_z_5⟩ := Cells4.up (W := _) (k := w.heap.size + 1) (a := .int .u64 0) (b := .int .u64 0) (c := .int .u64 0) (d := .int .u64 0) (by constructor <;> first | assumption | simp [go_sem, qw1_0_4, qw1_1_4, qw1_2_4, qw1_3_4, qw1_z_4]) hb5
  have b5 : Hid (Below w.heap.size w w5) := by
    refine Below.trans ?_ (hb5.mono (by first | omega | (simp <;> omega)))
    repeat (first | exact b4.out | refine Below.drew ?_ | refine Below.setCell ?_ (by first | omega | (simp <;> omega)) _ | refine Below.alloc ?_ (by first | omega | (simp <;> omega)) _)
  clear hb5 b4 qw2_0_4 qw2_1_4 qw2_2_4 qw2_3_4 qw1_0_4 qw1_1_4 qw1_2_4 qw1_3_4 qw1_z_4
  have z : ¬ w5.heap.size = w.heap.size + 1 := by omega
  go_wp2_with fail
  refine bodyPost_ret (v := N (addS x y)) (by simp (maxDischargeDepth := 8) [results, Try.results85, go_sem, qw1_0_5, qw1_1_5, qw1_2_5, qw1_3_5]) rfl ⟨rfl, ?_⟩
  repeat (first | refine Below.setCell ?_ (by first | omega | (simp <;> omega)) _ | refine Below.drew ?_ | refine Below.alloc ?_ (by first | omega | (simp <;> omega)) _ | exact b5.out)
theorem cast_pow2 (n : Nat) : ((2 ^ n : Nat) : Int) = 2 ^ n := by simp
theorem val_toNat {x : Nm} (hx : x.ok) : ((x.val.toNat : Nat) : Int) = x.val := Int.toNat_of_nonneg (Nm.val_nonneg hx)
theorem zero_ok : (⟨0, 0, 0, 0⟩ : Nm).ok := ⟨⟨by decide, by decide⟩, ⟨by decide, by decide⟩, ⟨by decide, by decide⟩, ⟨by decide, by decide⟩⟩
/-- The top of a number of eight words, where what is left fits. -/
theorem wideTop_fun (l h : Nm) (ol : l.ok) (oh : h.ok) (n : Nat) (hn : n ≤ 512) (fit : V l h / 2 ^ n < 2 ^ 256) (w : World) :
    Calls Try.prog 85 #[Wv l h, .int .i64 n] w fun e w' => e = .returned (N (Nm.of ((V l h / 2 ^ n : Nat) : Int))) ∧ Below w.heap.size w w' := by
  have a0 := Nm.val_nonneg ol; have a1 := Nm.val_lt ol; have b0 := Nm.val_nonneg oh; have b1 := Nm.val_lt oh
  obtain ⟨lv, hl⟩ := Int.eq_ofNat_of_zero_le a0
  obtain ⟨hv, hh⟩ := Int.eq_ofNat_of_zero_le b0
  have eV : V l h = lv + 2 ^ 256 * hv := by
    have := V_cast ol oh
    rw [hl, hh, M_cast] at this
    omega
  have lt : lv < 2 ^ 256 := by rw [hl, M_cast] at a1; omega
  have lt2 : hv < 2 ^ 256 := by rw [hh, M_cast] at b1; omega
  have key : ∃ x y : Nm, x.ok ∧ y.ok ∧ addS x y = Nm.of ((V l h / 2 ^ n : Nat) : Int) ∧
      (∀ w, Calls Try.prog 24 #[N l, .int .i64 (-(n : Int))] w fun e w' => e = .returned (N x) ∧ Below w.heap.size w w') ∧
      (∀ w, Calls Try.prog 24 #[N h, .int .i64 (256 - (n : Int))] w fun e w' => e = .returned (N y) ∧ Below w.heap.size w w') := by
    rcases Nat.lt_or_ge n 256 with h1 | h1
    · have p : (2 : Nat) ^ 256 = 2 ^ n * 2 ^ (256 - n) := by rw [← Nat.pow_add]; congr 1; omega
      have e : V l h / 2 ^ n = lv / 2 ^ n + 2 ^ (256 - n) * hv := by
        rw [eV, p, Nat.mul_assoc, Nat.add_mul_div_left _ _ (Nat.two_pow_pos n)]
      have x1 : (Nm.of (l.val / 2 ^ n)).val = ((lv / 2 ^ n : Nat) : Int) := by
        have : l.val / 2 ^ n = ((lv / 2 ^ n : Nat) : Int) := by rw [hl, Int.natCast_ediv, cast_pow2]
        rw [this]
        refine Nm.of_val (Int.natCast_nonneg _) ?_
        have := Nat.div_le_self lv (2 ^ n)
        rw [M_cast]; omega
      by_cases h0 : n = 0
      · subst h0
        have hz : hv = 0 := by
          simp at e
          rw [Nat.pow_zero, Nat.div_one] at fit
          omega
        subst hz
        refine ⟨_, _, Nm.of_ok _, zero_ok, ?_, shift_dn l ol 0 h1, shift_out h _ (by omega)⟩
        unfold addS
        rw [x1, e, show (⟨0, 0, 0, 0⟩ : Nm).val = 0 from rfl, Int.add_zero, Nat.mul_zero, Nat.add_zero, Int.emod_eq_of_lt (Int.natCast_nonneg _) (by simp only [Nat.pow_zero, Nat.div_one]; rw [M_cast]; omega)]
      · have zlt : 2 ^ (256 - n) * hv < 2 ^ 256 := by rw [e] at fit; exact Nat.lt_of_le_of_lt (Nat.le_add_left _ _) fit
        have y0 : h.val * 2 ^ (256 - n) % M = ((2 ^ (256 - n) * hv : Nat) : Int) := by
          have : h.val * 2 ^ (256 - n) = ((2 ^ (256 - n) * hv : Nat) : Int) := by rw [hh, Int.natCast_mul, cast_pow2, Int.mul_comm]
          rw [this, M_cast]
          exact Int.emod_eq_of_lt (Int.natCast_nonneg _) (Int.ofNat_lt.2 zlt)
        have y1 : (Nm.of (h.val * 2 ^ (256 - n) % M)).val = ((2 ^ (256 - n) * hv : Nat) : Int) := by
          rw [y0]
          exact Nm.of_val (Int.natCast_nonneg _) (by rw [M_cast]; exact Int.ofNat_lt.2 zlt)
        have S := shift_pos h oh (256 - n) (by omega)
        rw [show ((256 - n : Nat) : Int) = 256 - (n : Int) by omega] at S
        refine ⟨_, _, Nm.of_ok _, Nm.of_ok _, ?_, shift_dn l ol n h1, S⟩
        unfold addS
        rw [x1, y1, e, ← Int.natCast_add]
        rw [Int.emod_eq_of_lt (Int.natCast_nonneg _) (by rw [M_cast]; omega)]
    · obtain ⟨d, rfl⟩ := Nat.exists_eq_add_of_le h1
      have e : V l h / 2 ^ (256 + d) = hv / 2 ^ d := by
        rw [eV, Nat.pow_add, ← Nat.div_div_eq_div_mul, Nat.add_mul_div_left _ _ (Nat.two_pow_pos 256), Nat.div_eq_of_lt lt, Nat.zero_add]
      have S : ∃ y : Nm, y.ok ∧ y.val = ((hv / 2 ^ d : Nat) : Int) ∧ ∀ w, Calls Try.prog 24 #[N h, .int .i64 (-(d : Int))] w fun e w' => e = .returned (N y) ∧ Below w.heap.size w w' := by
        rcases Nat.lt_or_ge d 256 with h2 | h2
        · refine ⟨_, Nm.of_ok _, ?_, shift_dn h oh d h2⟩
          have : h.val / 2 ^ d = ((hv / 2 ^ d : Nat) : Int) := by rw [hh, Int.natCast_ediv, cast_pow2]
          rw [this]
          refine Nm.of_val (Int.natCast_nonneg _) ?_
          have := Nat.div_le_self hv (2 ^ d)
          rw [M_cast]; omega
        · refine ⟨_, zero_ok, ?_, shift_out h _ (by omega)⟩
          have : 2 ^ 256 ≤ 2 ^ d := Nat.pow_le_pow_right (by omega) h2
          rw [Nat.div_eq_of_lt (by omega)]
          rfl
      obtain ⟨y, oy, yv, SH⟩ := S
      rw [show -(d : Int) = 256 - ((256 + d : Nat) : Int) by omega] at SH
      refine ⟨_, y, zero_ok, oy, ?_, shift_out l _ (by omega), SH⟩
      unfold addS
      rw [yv, e, show (⟨0, 0, 0, 0⟩ : Nm).val = 0 from rfl, Int.zero_add]
      have := Nat.div_le_self hv (2 ^ d)
      rw [Int.emod_eq_of_lt (Int.natCast_nonneg _) (by rw [M_cast]; omega)]
  obtain ⟨x, y, ox, oy, eS, SL, SH⟩ := key
  have := wideTop_walk l h x y ox oy n hn SL SH w
  rw [eS] at this
  exact this
theorem getV_get (l h : Nm) (j : Nat) (hj : j < 8) : (#[Value.int .u64 l.a, .int .u64 l.b, .int .u64 l.c, .int .u64 l.d, .int .u64 h.a, .int .u64 h.b, .int .u64 h.c, .int .u64 h.d] : Array Value)[j]? = some (.int .u64 (getV l h j)) := by
  match j, hj with
  | 0, _ => rfl
  | 1, _ => rfl
  | 2, _ => rfl
  | 3, _ => rfl
  | 4, _ => rfl
  | 5, _ => rfl
  | 6, _ => rfl
  | 7, _ => rfl
set_option maxHeartbeats 400000 in
theorem wideBit_fun (l h : Nm) (ol : l.ok) (oh : h.ok) (n : Nat) (hn : n < 512) (w : World) :
    Calls Try.prog 86 #[Wv l h, .int .i64 n] w fun e w' => e = .returned (.int .u64 ((V l h / 2 ^ n % 2 : Nat) : Int)) ∧ Below w.heap.size w w' := by
  have e := bit_of_word (V l h) n
  have g1 := getV_get l h (n / 64) (by omega)
  have g2 := word_V ol oh (n / 64) (by omega)
  have g3 := word_lt (V l h) (n / 64)
  generalize getV l h (n / 64) = v at *
  generalize word (V l h) (n / 64) = u at *
  obtain ⟨q, hq⟩ : ∃ q, n / 64 = q := ⟨_, rfl⟩
  obtain ⟨s, hs⟩ : ∃ s, n % 64 = s := ⟨_, rfl⟩
  have h3 : (n : Int) / 64 = q := by omega
  have h4 : (n : Int) % 64 = s := by omega
  have h5 : s < 64 := by omega
  have h6 : q < 8 := by omega
  rw [hq] at g1
  rw [hs] at e
  have e' : bits .and .u64 (v / 2 ^ s) 1 = ((V l h / 2 ^ n % 2 : Nat) : Int) := by
    rw [← e, g2]
    have c : ((u : Nat) : Int) / 2 ^ s = ((u / 2 ^ s : Nat) : Int) := by rw [Int.natCast_ediv]; simp
    have c2 := Nat.div_le_self u (2 ^ s)
    generalize u / 2 ^ s = z at *
    rw [c, and_one_u64 _ (by omega) (by omega)]
    omega
  have g4 : ([Value.int .u64 l.a, .int .u64 l.b, .int .u64 l.c, .int .u64 l.d, .int .u64 h.a, .int .u64 h.b, .int .u64 h.c, .int .u64 h.d] : List Value)[q]'(by simpa using h6) = .int .u64 v := by
    have := g1
    simp only [List.getElem?_toArray] at this
    exact (List.getElem?_eq_some_iff.1 this).2
  have E : Hid _ := e'
  clear e e' g2 g3 hq hs
  go_enter Try.func86, Try.ntmps86
  go_wp2_with fail
  go_ret
  exact ⟨by rw [E.out]; rfl, (Below.refl _ _).alloc (by simp) _⟩
end Go.Proofs.Ytkgfeacednomfaa
