/- The contract of math/bits.TrailingZeros64, where its table lies as it was laid; and of quot.twos and quot.odd. -/
import Derived.Test.YtgdekdmdidahdaaDoorDivMod
import Derived.Test.YtgdekdmdidahdaaDoorMulV
import Derived.Shelf.Spec.TrailingZeros
namespace Go.Proofs.YtgdekdmdidahdaaDoor
open Go.RowKit
attribute [local go_sem] World.cell?_alloc_some frozen?_alloc_cells

/-- The table lies where it was laid. -/
def Tab (w : World) : Prop := TabAt 0 Lib.deBruijn64tab w
theorem Tab.up {W w1 : World} (h : Tab W) (hb : Below W.heap.size W w1) : Tab w1 := by
  intro j hj
  have c := h j hj
  exact (hb.cell (p := ⟨0, j, none⟩) (lt_of_cell c)).trans c
theorem Tab.below {B : Nat} {W w1 : World} (h : Tab W) (hB : 0 < B) (hb : Below B W w1) : Tab w1 := by
  intro j hj
  exact (hb.cell (p := ⟨0, j, none⟩) hB).trans (h j hj)
theorem Tab.pos {W : World} (h : Tab W) : 0 < W.heap.size := lt_of_cell (h 0 (by decide))
set_option maxHeartbeats 1000000 in
theorem tz_core (x k idx : Nat) (w : World) (hx0 : ((x : Int) == 0) = false)
    (key : IntKind.u64.wrap (bits BinOp.and IntKind.u64 (x : Int) (IntKind.u64.wrap (-(x : Int))) * 285870213051353865) / 288230376151711744 = (idx : Int))
    (hi : idx < 64) (hk : k < 64) (hcell : w.cell? ⟨0, idx, none⟩ = some (.int .u8 k)) :
    Calls Tryd.prog 35 #[.int .u64 x] w fun e w' => e = .returned (.int .i64 k) ∧ w' = w := by
  go_enter Tryd.func35, Tryd.ntmps35
  go_wp2_with (simp only [key])
  go_ret
  exact ⟨rfl, rfl⟩
theorem tz_fun (x : Nat) (hx : x < 18446744073709551616) (h0 : x ≠ 0) (w : World) (hT : Tab w) :
    Calls Tryd.prog 35 #[.int .u64 x] w fun e w' => e = .returned (.int .i64 (Lib.ctz 64 x)) ∧ w' = w := by
  obtain ⟨hlow, hk⟩ := Lib.lowest_bit 64 x h0 hx
  obtain ⟨hi, htab⟩ := Lib.deBruijn64_at _ hk
  have hcell := hT _ hi
  rw [htab] at hcell
  exact tz_core x _ _ w (by simp; omega) (tz64_key x _ hx h0 hlow) hi hk hcell
/-- How often 2 divides a word that is not 0. -/
theorem tz_int (x : Int) (hx : Word x) (h0 : x ≠ 0) (w : World) (hT : Tab w) :
    Calls Tryd.prog 35 #[.int .u64 x] w fun e w' => e = .returned (.int .i64 (Lib.ctz 64 x.toNat)) ∧ w' = w := by
  obtain ⟨n, rfl⟩ := Int.eq_ofNat_of_zero_le hx.1
  have := hx.2
  exact tz_fun n (by omega) (by omega) w hT
/-- How often 2 divides. -/
def twosN (x : Nm) : Nat := if x.a ≠ 0 then Lib.ctz 64 x.a.toNat else if x.b ≠ 0 then 64 + Lib.ctz 64 x.b.toNat else if x.c ≠ 0 then 128 + Lib.ctz 64 x.c.toNat else if x.d ≠ 0 then 192 + Lib.ctz 64 x.d.toNat else 256
theorem ctz_word {x : Int} (hx : Word x) (h0 : x ≠ 0) : Lib.ctz 64 x.toNat < 64 ∧ ∃ m : Nat, x = 2 ^ Lib.ctz 64 x.toNat * (2 * (m : Int) + 1) := by
  obtain ⟨n, rfl⟩ := Int.eq_ofNat_of_zero_le hx.1
  have h1 := hx.2
  have n0 : n ≠ 0 := by omega
  obtain ⟨m, hm, hk⟩ := Lib.ctzFrom_spec 64 n (by omega) (by omega)
  have e : Lib.ctz 64 (Int.toNat (n : Int)) = Lib.ctzFrom 64 n := by
    rw [Int.toNat_natCast]; unfold Lib.ctz; rw [if_neg n0]
  rw [e]
  refine ⟨hk, m, ?_⟩
  have := congrArg (fun z : Nat => (z : Int)) hm
  simpa using this
theorem twos_split {v : Int} {s k : Nat} {x g q : Int} (hq : q = 2 ^ k) (hv : v = q * (x + 18446744073709551616 * g)) (hs : s < 64) {m : Int} (hx : x = 2 ^ s * (2 * m + 1)) : ∃ u : Int, v = 2 ^ (k + s) * (2 * u + 1) := by
  have p : (18446744073709551616 : Int) = 2 ^ s * (2 ^ (63 - s) * 2) := by
    rw [← Int.mul_assoc, ← Int.pow_add, show s + (63 - s) = 63 by omega]; rfl
  refine ⟨m + 2 ^ (63 - s) * g, ?_⟩
  rw [hv, hx, hq, p, Int.pow_add]
  grind
theorem twos_spec {x : Nm} (hx : x.ok) (h0 : x ≠ ⟨0, 0, 0, 0⟩) : twosN x < 256 ∧ ∃ u : Nat, x.nat = 2 ^ twosN x * (2 * u + 1) := by
  have key : twosN x < 256 ∧ ∃ u : Int, x.val = 2 ^ twosN x * (2 * u + 1) := by
    unfold twosN
    by_cases ha : x.a ≠ 0
    · rw [if_pos ha]
      obtain ⟨hk, m, hm⟩ := ctz_word hx.a ha
      refine ⟨by omega, ?_⟩
      have := twos_split (v := x.val) (k := 0) (q := 1) (g := x.b + 18446744073709551616 * x.c + 340282366920938463463374607431768211456 * x.d) rfl (by simp only [Nm.val]; omega) hk hm
      rw [Nat.zero_add] at this
      exact this
    rw [if_neg ha]
    by_cases hb : x.b ≠ 0
    · rw [if_pos hb]
      obtain ⟨hk, m, hm⟩ := ctz_word hx.b hb
      exact ⟨by omega, twos_split (v := x.val) (k := 64) (q := 18446744073709551616) (g := x.c + 18446744073709551616 * x.d) rfl (by simp only [Nm.val]; omega) hk hm⟩
    rw [if_neg hb]
    by_cases hc : x.c ≠ 0
    · rw [if_pos hc]
      obtain ⟨hk, m, hm⟩ := ctz_word hx.c hc
      exact ⟨by omega, twos_split (v := x.val) (k := 128) (q := 340282366920938463463374607431768211456) (g := x.d) rfl (by simp only [Nm.val]; omega) hk hm⟩
    rw [if_neg hc]
    by_cases hd : x.d ≠ 0
    · rw [if_pos hd]
      obtain ⟨hk, m, hm⟩ := ctz_word hx.d hd
      exact ⟨by omega, twos_split (v := x.val) (k := 192) (q := 6277101735386680763835789423207666416102355444464034512896) (g := 0) rfl (by simp only [Nm.val]; omega) hk hm⟩
    · exact absurd (by obtain ⟨a, b, c, d⟩ := x; simp only [Nm.mk.injEq]; simp only [Decidable.not_not] at *; exact ⟨ha, hb, hc, hd⟩) h0
  obtain ⟨h1, u, hu⟩ := key
  refine ⟨h1, ?_⟩
  have n0 := Nm.val_nonneg hx
  have p : (0 : Int) < 2 ^ twosN x := Int.pow_pos (by omega)
  have u0 : 0 ≤ u := by
    rcases Int.lt_or_le u 0 with h | h
    · have := Int.mul_le_mul_of_nonneg_left (show 2 * u + 1 ≤ -1 by omega) (Int.le_of_lt p)
      omega
    · exact h
  obtain ⟨n, rfl⟩ := Int.eq_ofNat_of_zero_le u0
  refine ⟨n, ?_⟩
  have e := Nm.nat_cast hx
  rw [hu] at e
  have : ((x.nat : Nat) : Int) = ((2 ^ twosN x * (2 * n + 1) : Nat) : Int) := by rw [e]; simp
  exact Int.ofNat.inj this
theorem ret_i2 {k : IntKind} {a b : Int} (h : a = b) : Ending.returned (.int k a) = .returned (.int k b) := by rw [h]

/-- One word of a number that is not in memory. -/
theorem index_0 (a b c d : Int) (w : World) : (Instr.index 26 (.agg #[.int .u64 a, .int .u64 b, .int .u64 c, .int .u64 d]) (.int .i64 0)).run Tryd.prog w = .ok (.int .u64 a) w := by
  have c : Tryd.prog.cellsOf 22 = 1 := by kernel_rfl
  simp [Instr.index, run_underlying Tryd.underlying26, asIntOf, go_sem]
theorem index_1 (a b c d : Int) (w : World) : (Instr.index 26 (.agg #[.int .u64 a, .int .u64 b, .int .u64 c, .int .u64 d]) (.int .i64 1)).run Tryd.prog w = .ok (.int .u64 b) w := by
  have c : Tryd.prog.cellsOf 22 = 1 := by kernel_rfl
  simp [Instr.index, run_underlying Tryd.underlying26, asIntOf, go_sem]
theorem index_2 (a b c d : Int) (w : World) : (Instr.index 26 (.agg #[.int .u64 a, .int .u64 b, .int .u64 c, .int .u64 d]) (.int .i64 2)).run Tryd.prog w = .ok (.int .u64 c) w := by
  have c : Tryd.prog.cellsOf 22 = 1 := by kernel_rfl
  simp [Instr.index, run_underlying Tryd.underlying26, asIntOf, go_sem]
theorem index_3 (a b c d : Int) (w : World) : (Instr.index 26 (.agg #[.int .u64 a, .int .u64 b, .int .u64 c, .int .u64 d]) (.int .i64 3)).run Tryd.prog w = .ok (.int .u64 d) w := by
  have c : Tryd.prog.cellsOf 22 = 1 := by kernel_rfl
  simp [Instr.index, run_underlying Tryd.underlying26, asIntOf, go_sem]
attribute [local go_sem] index_0 index_1 index_2 index_3
set_option maxHeartbeats 2000000 in
theorem twos_fun (x : Nm) (hx : x.ok) (w : World) (hT : Tab w) :
    Calls Tryd.prog 20 #[N x] w fun e w' => e = .returned (.int .i64 (twosN x)) ∧ Below w.heap.size w w' := by
  have T1 : Hid (∀ w1, Below w.heap.size w w1 → Tab w1) := fun w1 hb => hT.below hT.pos hb
  have HX : Hid _ := hx
  clear hT hx
  go_enter Tryd.func20, Tryd.ntmps20
  go_wp2
  refine wp_loop_rounds 5 ?_
  rw [rounds_succ]
  by_cases ha : x.a = 0
  case neg =>
    go_wp2_with fail
    refine (tz_int x.a HX.out.a ha _ (T1.out _ ?_)).mono ?_
    · repeat (first | exact Below.refl _ _ | refine Below.drew ?_ | refine Below.alloc ?_ (by simp <;> omega) _)
    rintro e w' ⟨rfl, rfl⟩
    have L := (ctz_word HX.out.a ha).1
    have hz : twosN x = 0 + Lib.ctz 64 x.a.toNat := by unfold twosN; rw [if_pos ha]; omega
    have HZ : Hid _ := hz
    clear hz
    go_wp2_with fail
    go_ret
    refine ⟨ret_i2 (by rw [HZ.out]; first | rfl | (simp <;> omega) | omega), ?_⟩
    repeat (first | exact Below.refl _ _ | refine Below.drew ?_ | refine Below.alloc ?_ (by simp <;> omega) _)
  go_wp2_with fail
  rw [rounds_succ]
  by_cases hb : x.b = 0
  case neg =>
    go_wp2_with fail
    refine (tz_int x.b HX.out.b hb _ (T1.out _ ?_)).mono ?_
    · repeat (first | exact Below.refl _ _ | refine Below.drew ?_ | refine Below.alloc ?_ (by simp <;> omega) _)
    rintro e w' ⟨rfl, rfl⟩
    have L := (ctz_word HX.out.b hb).1
    have hz : twosN x = 64 + Lib.ctz 64 x.b.toNat := by unfold twosN; rw [if_neg (fun h => h ha)]; rw [if_pos hb]
    have HZ : Hid _ := hz
    clear hz
    go_wp2_with fail
    go_ret
    refine ⟨ret_i2 (by rw [HZ.out]; first | rfl | (simp <;> omega) | omega), ?_⟩
    repeat (first | exact Below.refl _ _ | refine Below.drew ?_ | refine Below.alloc ?_ (by simp <;> omega) _)
  go_wp2_with fail
  rw [rounds_succ]
  by_cases hc : x.c = 0
  case neg =>
    go_wp2_with fail
    refine (tz_int x.c HX.out.c hc _ (T1.out _ ?_)).mono ?_
    · repeat (first | exact Below.refl _ _ | refine Below.drew ?_ | refine Below.alloc ?_ (by simp <;> omega) _)
    rintro e w' ⟨rfl, rfl⟩
    have L := (ctz_word HX.out.c hc).1
    have hz : twosN x = 128 + Lib.ctz 64 x.c.toNat := by unfold twosN; rw [if_neg (fun h => h ha)]; rw [if_neg (fun h => h hb)]; rw [if_pos hc]
    have HZ : Hid _ := hz
    clear hz
    go_wp2_with fail
    go_ret
    refine ⟨ret_i2 (by rw [HZ.out]; first | rfl | (simp <;> omega) | omega), ?_⟩
    repeat (first | exact Below.refl _ _ | refine Below.drew ?_ | refine Below.alloc ?_ (by simp <;> omega) _)
  go_wp2_with fail
  rw [rounds_succ]
  by_cases hd : x.d = 0
  case neg =>
    go_wp2_with fail
    refine (tz_int x.d HX.out.d hd _ (T1.out _ ?_)).mono ?_
    · repeat (first | exact Below.refl _ _ | refine Below.drew ?_ | refine Below.alloc ?_ (by simp <;> omega) _)
    rintro e w' ⟨rfl, rfl⟩
    have L := (ctz_word HX.out.d hd).1
    have hz : twosN x = 192 + Lib.ctz 64 x.d.toNat := by unfold twosN; rw [if_neg (fun h => h ha)]; rw [if_neg (fun h => h hb)]; rw [if_neg (fun h => h hc)]; rw [if_pos hd]
    have HZ : Hid _ := hz
    clear hz
    go_wp2_with fail
    go_ret
    refine ⟨ret_i2 (by rw [HZ.out]; first | rfl | (simp <;> omega) | omega), ?_⟩
    repeat (first | exact Below.refl _ _ | refine Below.drew ?_ | refine Below.alloc ?_ (by simp <;> omega) _)
  go_wp2_with fail
  have hz : twosN x = 256 := by unfold twosN; rw [if_neg (fun h => h ha), if_neg (fun h => h hb), if_neg (fun h => h hc), if_neg (fun h => h hd)]
  have HZ : Hid _ := hz
  clear hz
  rw [rounds_succ]
  go_wp2_with fail
  go_ret
  refine ⟨ret_i2 (by rw [HZ.out]; rfl), ?_⟩
  repeat (first | exact Below.refl _ _ | refine Below.drew ?_ | refine Below.alloc ?_ (by simp <;> omega) _)

/-- The number without its twos. -/
def oddN (x : Nm) : Nm := Nm.of (x.val / 2 ^ twosN x)
set_option maxHeartbeats 400000 in
theorem odd_fun (x : Nm) (hx : x.ok) (h0 : x ≠ ⟨0, 0, 0, 0⟩) (w : World) (hT : Tab w) :
    Calls Tryd.prog 21 #[N x] w fun e w' => e = .returned (N (oddN x)) ∧ Below w.heap.size w w' := by
  have T1 : Hid (∀ w1, Below w.heap.size w w1 → Tab w1) := fun w1 hb => hT.below hT.pos hb
  have l1 := (twos_spec hx h0).1
  have SD := shift_dn x hx (twosN x) l1
  rw [← show oddN x = Nm.of (x.val / 2 ^ twosN x) from rfl] at SD
  have TW : Hid _ := twos_fun x hx
  clear hT hx h0
  generalize twosN x = t at *
  generalize oddN x = o at *
  go_enter Tryd.func21, Tryd.ntmps21
  go_wp2_with fail
  have b0 : Hid (Below w.heap.size w _) := ((Below.refl w.heap.size w).alloc (Nat.le_refl _) (.cells #[.int .u64 x.a, .int .u64 x.b, .int .u64 x.c, .int .u64 x.d] 26)).alloc (by simp) (.cells #[.int .u64 0, .int .u64 0, .int .u64 0, .int .u64 0] 26)
  have C0 : Hid (Cells4 ((w.alloc (.cells #[.int .u64 x.a, .int .u64 x.b, .int .u64 x.c, .int .u64 x.d] 26)).alloc (.cells #[.int .u64 0, .int .u64 0, .int .u64 0, .int .u64 0] 26)) (w.heap.size + 1) (.int .u64 0) (.int .u64 0) (.int .u64 0) (.int .u64 0)) := by constructor <;> simp [go_sem]
  refine wp_region_up_then 5 (by kernel_rfl) (by kernel_rfl) (by kernel_rfl) (by kernel_rfl) (by decide) (fun _ _ d _ _ h => by cases d <;> exact h) (fun U hU f hf hcl => ?_)
  have q := fun n => Lies.up (x := x) (k := w.heap.size) (by constructor <;> simp [go_sem]) (hf n).out
  have q_a := fun n => (q n).a
  have q_b := fun n => (q n).b
  have q_c := fun n => (q n).c
  have q_d := fun n => (q n).d
  clear q
  have TF : ∀ n, Tab (f n) := fun n => T1.out _ (b0.out.trans ((hf n).out.mono b0.out.size))
  simp only [List.take_succ_cons, List.take_zero, List.drop_succ_cons, List.drop_zero]
  repeat (go_big_quiet_step (first | (go_at_call 20; exact (TW.out _ (TF _)).mono fun e w'' ⟨he, hb⟩ => ⟨he, hcl.out _ _ hb⟩) | (go_at_call 22; exact (SD _).mono fun e w'' ⟨he, hb⟩ => ⟨he, hcl.out _ _ hb⟩)))
  refine wpQuiet_nil ?_
  intro n
  have hb1 := (hf n).out
  generalize f n = w1 at hb1 ⊢
  have C1 : Hid _ := C0.out.up hb1
  have b1 : Hid (Below w.heap.size w w1) := b0.out.trans (hb1.mono b0.out.size)
  clear hf hcl hb1 TF b0 C0 q_a q_b q_c q_d
  obtain ⟨c0, c1, c2, c3, cz⟩ := C1.out
  go_wp2_with fail
  refine bodyPost_ret (v := N o) (by simp (maxDischargeDepth := 8) [results, Tryd.results21, go_sem, c0, c1, c2, c3]) rfl ⟨rfl, ?_⟩
  repeat (first | exact b1.out | refine Below.drew ?_ | refine Below.setCell ?_ (by first | omega | (simp <;> omega)) _)
end Go.Proofs.YtgdekdmdidahdaaDoor
