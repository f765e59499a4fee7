/- LimbBits returns true for every number. No condition. -/
import Derived.Test.YtfnpjadfedmjiabShift
import Derived.Test.YtfnpjadfedmjiabLenW
import Derived.Test.YtfnpjadfedmjiabUpA
import Derived.Test.YtfnpjadfedmjiabAddSub
import Derived.Test.YtfnpjadfedmjiabBit
import Derived.Test.YtfnpjadfedmjiabEq
import Derived.Test.YtfnpjadfedmjiabArr
import Derived.Test.YtfnpjadfedmjiabOwn
namespace Go.Proofs.Ytfnpjadfedmjiab
open Go.RowKit
open Go.ChangeShapes Go.WideShapes Go.ChangeAt
attribute [local go_sem] World.cell?_alloc_some

/-- The low k bits of x, and how many bits they need. -/
def lowK (x : Nm) (k : Nat) : Nm := Nm.of (x.val % 2 ^ k)
def lenK (x : Nm) (k : Nat) : Int := lenN (x.val.toNat % 2 ^ k)
theorem lowK_ok (x : Nm) (k : Nat) : (lowK x k).ok := Nm.of_ok _

set_option maxHeartbeats 1000000 in
set_option maxRecDepth 100000 in
theorem bits_walk (x : Nm) (hx : x.ok)
    (SP : ∀ k < 256, ∀ w, Calls Try.prog 11 #[N ⟨1, 0, 0, 0⟩, .int .i64 (k : Nat)] w fun e w' => e = .returned (N (Nm.of (2 ^ k))) ∧ Below w.heap.size w w')
    (B0 : ∀ k < 256, x.val / 2 ^ k % 2 ≠ 1 → lowK x (k + 1) = lowK x k ∧ lenK x (k + 1) = lenK x k)
    (B1 : ∀ k < 256, x.val / 2 ^ k % 2 = 1 → addS (lowK x k) (Nm.of (2 ^ k)) = lowK x (k + 1) ∧ addC (lowK x k) (Nm.of (2 ^ k)) = 0 ∧ lenK x (k + 1) = k + 1)
    (z0 : lowK x 0 = ⟨0, 0, 0, 0⟩) (z1 : lenK x 0 = 0) (z2 : lowK x 256 = x) (z3 : (lenN x.val.toNat : Int) = lenK x 256) (w : World) :
    Calls Try.prog 4 #[N x] w fun e w' => e = .returned (.bool true) ∧ Below w.heap.size w w' := by
  go_enter Try.func4, Try.ntmps4
  go_wp2_with fail
  go_loopw [4, 5] (fun l i w' => ∃ k : Nat, k ≤ 256 ∧ i = .int .i64 k ∧ l = .int .i64 (lenK x k) ∧ Hid (Lies w' w.heap.size x) ∧ Hid (Cells4 w' (w.heap.size + 1) (.int .u64 (lowK x k).a) (.int .u64 (lowK x k).b) (.int .u64 (lowK x k).c) (.int .u64 (lowK x k).d)) ∧ Hid (Below w.heap.size w w') ∧ w.heap.size + 1 < w'.heap.size) (fun _ i _ => 256 - (intOf i).toNat)
  case atStart =>
    refine ⟨0, by omega, rfl, by rw [z1], (show Lies _ _ _ by constructor <;> simp [go_sem]), (show Cells4 _ _ _ _ _ _ from ?_), (show Below _ _ _ from ((Below.refl _ _).alloc (by simp) _).alloc (by simp) _), by simp⟩
    rw [z0]; constructor <;> simp [go_sem]
  case round =>
    obtain ⟨k, hk, rfl, rfl, Lx, Ls, hb, hz⟩ := hrel
    by_cases hlt : k < 256
    · obtain ⟨q0, q1, q2, q3⟩ := Lx.out
      have hi : (k : Int) < 256 := by omega
      go_wp2_with fail
      refine (bit_fun x hx k hlt _).mono ?_
      rintro e w1 ⟨rfl, hb1⟩
      have Lx1 : Hid _ := Lx.out.up hb1
      have Ls1 : Hid _ := Ls.out.up hb1
      have b1 : Hid (Below w.heap.size w _) := hb.out.trans (hb1.mono hb.out.size)
      have hz1 := hb1.size
      clear q0 q1 q2 q3 hb1 Lx Ls hb
      by_cases bit : x.val / 2 ^ k % 2 = 1
      · obtain ⟨r1, r2, r3⟩ := B1 k hlt bit
        have sa := add_fun (lowK x k) (Nm.of (2 ^ k)) (lowK_ok _ _) (Nm.of_ok _)
        rw [r1, r2] at sa
        have SA : Hid _ := sa
        have R3 : Hid _ := r3
        have SK : Hid _ := SP k hlt
        clear r1 r2 r3 sa
        go_wp2_with fail
        refine wp_region_up_then 8 (by kernel_rfl) (by kernel_rfl) (by kernel_rfl) (by kernel_rfl) (by decide) (fun _ _ d _ _ h => by cases d <;> exact h) (fun U hU f hf hcl => ?_)
        have q := fun n => Lies.up (x := lowK x k) (k := w.heap.size + 1) Ls1.out.lies (hf n).out
        have q_a := fun n => (q n).a
        have q_b := fun n => (q n).b
        have q_c := fun n => (q n).c
        have q_d := fun n => (q n).d
        clear q
        simp only [List.take_succ_cons, List.take_zero, List.drop_succ_cons, List.drop_zero]
        repeat (go_big_quiet_step (first | (go_at_call 11; exact (SK.out _).mono fun e w'' ⟨he, hb⟩ => ⟨he, hcl.out _ _ hb⟩) | (go_at_call 9; exact (SA.out _).mono fun e w'' ⟨he, hb⟩ => ⟨he, hcl.out _ _ hb⟩)))
        refine wpQuiet_nil ?_
        intro m
        have hb2 := (hf m).out
        generalize f m = w2 at hb2 ⊢
        clear hf hcl q_a q_b q_c q_d
        have Ls2 : Hid _ := Ls1.out.up hb2
        have Lx2 : Hid (Lies (st4 w2 (w.heap.size + 1) (lowK x (k + 1))) w.heap.size x) := (Lx1.out.up hb2).st4_ne (by omega)
        have Lz2 : Hid (Cells4 (st4 w2 (w.heap.size + 1) (lowK x (k + 1))) (w.heap.size + 1) _ _ _ _) := Ls2.out.st4_self
        have b2 : Hid (Below w.heap.size w (st4 w2 (w.heap.size + 1) (lowK x (k + 1)))) := below_st4 (b1.out.trans (hb2.mono b1.out.size)) (by omega)
        have hz2 : w.heap.size + 1 < (st4 w2 (w.heap.size + 1) (lowK x (k + 1))).heap.size := by rw [size_st4]; have := hb2.size; omega
        obtain ⟨c0, c1, c2, c3, cz⟩ := Ls2.out
        go_wp2_with fail
        go_roundw
        case rel => exact ⟨k + 1, by omega, by go_num, by rw [R3.out], Lx2, Lz2, b2, hz2⟩
        case measure => simp [intOf]; omega
      · have BB : Hid _ := B0 k hlt bit
        go_wp2_with fail
        go_roundw
        case rel => exact ⟨k + 1, by omega, by go_num, by rw [BB.out.2], Lx1, by rw [BB.out.1]; exact Ls1, b1, by omega⟩
        case measure => simp [intOf]; omega
    · have hk256 : k = 256 := by omega
      subst hk256
      clear hlt hk
      rw [z2] at Ls
      have e1 := eqN x x
      simp only [Nm.beq_self] at e1
      have SL := len_fun x hx
      rw [z3] at SL
      obtain ⟨q0, q1, q2, q3⟩ := Lx.out
      obtain ⟨r0, r1, r2, r3, rz⟩ := Ls.out
      go_wp2_with fail
      refine (SL _).mono ?_
      rintro e w1 ⟨rfl, hb1⟩
      have Lx1 : Hid _ := Lx.out.up hb1
      have b1 : Hid (Below w.heap.size w w1) := hb.out.trans (hb1.mono hb.out.size)
      clear q0 q1 q2 q3 r0 r1 r2 r3 rz hb1 Lx Ls hb
      obtain ⟨q0, q1, q2, q3⟩ := Lx1.out
      go_wp2_with fail
      refine (bit_out x (-1) (by omega) _).mono ?_
      rintro e w2 ⟨rfl, hb2⟩
      have Lx2 : Hid _ := Lx1.out.up hb2
      have b2 : Hid (Below w.heap.size w w2) := b1.out.trans (hb2.mono b1.out.size)
      clear q0 q1 q2 q3 hb2 Lx1 b1
      obtain ⟨q0, q1, q2, q3⟩ := Lx2.out
      go_wp2_with fail
      refine (bit_out x 256 (by omega) _).mono ?_
      rintro e w3 ⟨rfl, hb3⟩
      have b3 : Hid (Below w.heap.size w w3) := b2.out.trans (hb3.mono b2.out.size)
      clear q0 q1 q2 q3 hb3 Lx2 b2
      go_wp2_with fail
      go_ret
      exact ⟨rfl, b3.out⟩

theorem cast_pow' (n : Nat) : ((2 ^ n : Nat) : Int) = 2 ^ n := by simp
theorem pow_lt_M {k : Nat} (h : k < 256) : (2 : Int) ^ k < M := by
  have : (2 : Nat) ^ k < 2 ^ 256 := Nat.pow_lt_pow_right (by omega) h
  have e : M = ((2 ^ 256 : Nat) : Int) := rfl
  rw [e, ← cast_pow']
  exact Int.ofNat_lt.2 this
theorem bits_law (x : Nm) (hx : x.ok) (w : World) :
    Calls Try.prog 4 #[N x] w fun e w' => e = .returned (.bool true) ∧ Below w.heap.size w w' := by
  have x0 := Nm.val_nonneg hx
  have x1 := Nm.val_lt hx
  obtain ⟨v, hv⟩ := Int.eq_ofNat_of_zero_le x0
  have vM : v < 2 ^ 256 := by
    have e : M = ((2 ^ 256 : Nat) : Int) := rfl
    rw [hv, e] at x1
    exact Int.ofNat_lt.1 x1
  have hvn : x.val.toNat = v := by rw [hv, Int.toNat_natCast]
  have low : ∀ k, lowK x k = Nm.of ((v % 2 ^ k : Nat) : Int) := by intro k; unfold lowK; rw [hv, ← cast_pow', Int.natCast_emod]
  have len : ∀ k, lenK x k = (lenN (v % 2 ^ k) : Nat) := by intro k; unfold lenK; rw [hvn]
  have onep : (⟨1, 0, 0, 0⟩ : Nm).ok := ⟨⟨by decide, by decide⟩, ⟨by decide, by decide⟩, ⟨by decide, by decide⟩, ⟨by decide, by decide⟩⟩
  have bit : ∀ k : Nat, x.val / 2 ^ k % 2 = ((v / 2 ^ k % 2 : Nat) : Int) := by
    intro k; rw [hv, ← cast_pow', Int.natCast_emod, Int.natCast_ediv]; rfl
  have stp : ∀ k : Nat, v % 2 ^ (k + 1) = v % 2 ^ k + 2 ^ k * (v / 2 ^ k % 2) := fun k => Nat.mod_pow_succ
  have e256 : v % 2 ^ 256 = v := Nat.mod_eq_of_lt vM
  refine bits_walk x hx ?_ ?_ ?_ ?_ ?_ ?_ ?_ w
  · intro k hk w
    have := shift_pos ⟨1, 0, 0, 0⟩ onep k hk w
    rw [show (⟨1, 0, 0, 0⟩ : Nm).val = 1 by simp [Nm.val], Int.one_mul, Int.emod_eq_of_lt (Int.le_of_lt (Int.pow_pos (by omega))) (pow_lt_M hk)] at this
    exact this
  · intro k hk h
    rw [bit] at h
    have h0 : v / 2 ^ k % 2 = 0 := by omega
    have e := stp k
    rw [h0, Nat.mul_zero, Nat.add_zero] at e
    rw [low, low, len, len, e]
    exact ⟨rfl, rfl⟩
  · intro k hk h
    rw [bit] at h
    have h0 : v / 2 ^ k % 2 = 1 := by omega
    have e := stp k
    rw [h0, Nat.mul_one] at e
    have pk : v % 2 ^ k < 2 ^ k := Nat.mod_lt _ (Nat.two_pow_pos k)
    have pM := pow_lt_M hk
    have pk1 : v % 2 ^ (k + 1) < 2 ^ (k + 1) := Nat.mod_lt _ (Nat.two_pow_pos _)
    have lt : v % 2 ^ (k + 1) < 2 ^ 256 := Nat.lt_of_le_of_lt (Nat.mod_le _ _) vM
    have ltM : ((v % 2 ^ (k + 1) : Nat) : Int) < M := by
      have e : M = ((2 ^ 256 : Nat) : Int) := rfl
      rw [e]; exact Int.ofNat_lt.2 lt
    have v1 : (lowK x k).val = ((v % 2 ^ k : Nat) : Int) := by
      rw [low]; exact Nm.of_val (Int.natCast_nonneg _) (by omega)
    have v2 : (Nm.of (2 ^ k)).val = 2 ^ k := Nm.of_val (Int.le_of_lt (Int.pow_pos (by omega))) pM
    have s : ((v % 2 ^ k : Nat) : Int) + 2 ^ k = ((v % 2 ^ (k + 1) : Nat) : Int) := by rw [e, Int.natCast_add, cast_pow']
    refine ⟨?_, ?_, ?_⟩
    · unfold addS
      rw [v1, v2, s, low, Int.emod_eq_of_lt (Int.natCast_nonneg _) ltM]
    · unfold addC
      rw [v1, v2, s]
      exact Int.ediv_eq_zero_of_lt (Int.natCast_nonneg _) ltM
    · rw [len, show lenN (v % 2 ^ (k + 1)) = k + 1 from ?_]
      · rfl
      · have a := lenN_le.2 pk1
        have b := mt (lenN_le (n := v % 2 ^ (k + 1)) (k := k)).1 (by omega)
        omega
  · rw [low]; simp [Nat.mod_one]; rfl
  · rw [len]; simp [Nat.mod_one]; rfl
  · rw [low, e256, ← hv]; exact (Nm.eq_of hx rfl).symm
  · rw [len, e256, hvn]

set_option maxRecDepth 100000 in
theorem limbBits_lifted (os : Os) (started : os.Started) (H : Type) (enc : TypeId × Value → H) :
    ReturnsInHanded {} Try.checked os 4 .any (Rows.limbBitsSpec.pre6 enc Try.prog Try.f4 Rows.limbBitsRow.domain false) (Rows.limbBitsSpec.post enc Try.prog Try.f4 false true false false) := by
  refine returnsInHanded_of_change (C := Try.checked) Try.own started (by kernel_rfl) Try.func4
    (ChangeSpec.witness6 (enc := enc) (C := Try.checked) false ⟨#[], #[.agg #[.int .u64 0, .int .u64 0, .int .u64 0, .int .u64 0]], []⟩ 8 (by kernel_rfl) (by kernel_rfl) (by kernel_rfl) (by kernel_rfl)) ?_
  intro W base args ds gs before hval0 hW hcnd _
  have hval : ∀ (j : Nat) t v, Try.f4.params[j]? = some t → args[j]? = some v → Value.okWide Try.prog W .any base t v := hval0
  have hW' := hW
  obtain ⟨p, q, hA0, hV, rfl, hfz, hnd⟩ := hW
  have hA : DataW.TrodAll enc Try.prog W 0 (fun _ => true) true Try.f4.params.toList args.toList ds p := hA0
  rw [Try.params4] at hA hval
  obtain ⟨v0, d0, rfl, rfl, h0⟩ := trodAll_one hA
  obtain ⟨rfl, rfl⟩ := trodVars_none hV
  obtain ⟨xs0, l0, rfl, rfl, rfl, w0⟩ := open_arr Try.underlying24 Try.underlying22 Try.cellsU64 Try.cellsNum (hval 0 24 v0 rfl rfl) h0
  clear hA0 hval0 hval hA h0
  obtain ⟨a0, b0, c0, d0, rfl⟩ := list4 xs0 l0
  have ok0 : (⟨a0, b0, c0, d0⟩ : Nm).ok := ⟨word_of_wf (w0 _ (by simp)), word_of_wf (w0 _ (by simp)), word_of_wf (w0 _ (by simp)), word_of_wf (w0 _ (by simp))⟩
  simp only [List.append_nil] at hW'
  refine (bits_law ⟨a0, b0, c0, d0⟩ ok0 W).mono fun e W' ⟨he, hg⟩ => ?_
  subst he
  exact ⟨_, rfl, _, _, _, [], [], [], hW', trodAll_mk1 (shut_bool Try.underlying4 _), trodAll_mk1 (shut_arr Try.underlying24 Try.underlying22 Try.cellsU64 Try.cellsNum l0 w0), rfl, hg.frame _, fun h => by cases h⟩

theorem limbBits_holds : Rows.LimbBitsSaid :=
  OpenClaim.holds_of_wide 4 Try.f4 rfl rfl rfl rfl rfl rfl rfl ⟨rfl, rfl, rfl, rfl, rfl⟩ rfl rfl rfl rfl rfl (by kernel_rfl) Try.func4 (by kernel_rfl)
    (of_decide_eq_true (by kernel_rfl)) (by unfold Func.isWrapper; first | (rw [if_pos (by decide +kernel)]; kernel_rfl) | (rw [if_neg (by decide +kernel)]; exact ⟨rfl, rfl⟩))
    (fun os started H enc _ => limbBits_lifted os started H enc)
#print axioms limbBits_holds
end Go.Proofs.Ytfnpjadfedmjiab
