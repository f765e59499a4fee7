/- Texts that were joined: Shl, ShMath, Sh, Bit. -/
import Derived.Test.YtpnfopakkaoibaaRows
import Derived.Test.YtpnfopakkaoibaaQNumToKn
import Derived.WalkKit
import Derived.WalkSpells
import Derived.WalkLawsBesides
import Derived.LoopN
import Derived.Laws.Bits64b
import Derived.Deep.RegionHeld
import Derived.Test.YtpnfopakkaoibaaQPick
/- The walks of limb.shiftLeft and limb.shiftRight, word by word. -/
namespace Go.Proofs.Ytpnfopakkaoibaa
open Go.RowKit

end Go.Proofs.Ytpnfopakkaoibaa

/- Shifts of numbers of four words, as plain mathematics. -/
namespace Go.Proofs.Ytpnfopakkaoibaa
open Go.RowKit

end Go.Proofs.Ytpnfopakkaoibaa

/- The contracts of limb.shiftLeft, limb.shiftRight and limb.Shift, by what they are worth. -/
namespace Go.Proofs.Ytpnfopakkaoibaa
open Go.RowKit
attribute [local go_sem] World.cell?_alloc_some

theorem zw : Word 0 := ⟨by decide, by decide⟩
end Go.Proofs.Ytpnfopakkaoibaa

/- The contract of limb.Bit. -/
namespace Go.Proofs.Ytpnfopakkaoibaa
open Go.RowKit

/-- The bit s of a word, with whatever stands above the word. -/
theorem bit_word {v l a g q : Int} {s k n : Nat} (hs : s < 64) (hn : n = k + s) (hq : q = 2 ^ k) (hv : v = l + q * (a + 18446744073709551616 * g)) (l0 : 0 ≤ l) (l1 : l < q) : v / 2 ^ n % 2 = a / 2 ^ s % 2 := by
  have q0 : 0 < q := by omega
  have e1 : v / q = a + 18446744073709551616 * g := by
    rw [hv, Int.add_mul_ediv_left _ _ (by omega), Int.ediv_eq_zero_of_lt l0 l1, Int.zero_add]
  have e2 : v / 2 ^ n = v / q / 2 ^ s := by
    rw [hn, Int.pow_add, ← hq, Int.ediv_ediv_of_nonneg (by omega)]
  have p : (18446744073709551616 : Int) = 2 ^ s * (2 ^ (63 - s) * 2) := by
    rw [← Int.mul_assoc, ← Int.pow_add, show s + (63 - s) = 63 by omega]; rfl
  have ps : (0 : Int) < 2 ^ s := Int.pow_pos (by omega)
  rw [e2, e1, p, Int.mul_assoc, Int.add_mul_ediv_left _ _ (by omega), Int.mul_comm (2 ^ (63 - s)) 2, Int.mul_assoc]
  omega
set_option maxHeartbeats 1000000 in
theorem bit_walk0 (x : Nm) (hx : x.ok) (n s : Nat) (h1 : n / 64 = 0) (h2 : n % 64 = s) (hs : s < 64) (w : World) :
    Calls Try.prog 43 #[N x, .int .i64 n] w fun e w' => e = .returned (.int .u64 (x.val / 2 ^ n % 2)) ∧ Below w.heap.size w w' := by
  have h3 : (n : Int) / 64 = 0 := by omega
  have h4 : (n : Int) % 64 = s := by omega
  have h5 : ¬ ((n : Int) < 0) := by omega
  have h6 : ¬ ((n : Int) ≥ 256) := by omega
  obtain ⟨⟨a0, a1⟩, ⟨b0, b1⟩, ⟨c0, c1⟩, ⟨d0, d1⟩⟩ := hx
  have e := bit_word (v := x.val) (l := 0) (a := x.a) (g := x.b + 18446744073709551616 * x.c + 340282366920938463463374607431768211456 * x.d) (q := 1) (s := s) (k := 0) (n := n) hs (by omega) rfl (by simp only [Nm.val] <;> omega) (by omega) (by omega)
  have e' : bits .and .u64 (x.a / 2 ^ s) 1 = x.val / 2 ^ n % 2 := by
    have ps : (0 : Int) < 2 ^ s := Int.pow_pos (by omega)
    have v0 : 0 ≤ x.a / 2 ^ s := Int.ediv_nonneg a0 (by omega)
    have v1 : x.a / 2 ^ s ≤ x.a := Int.ediv_le_self _ a0
    rw [e]
    exact and_one_u64 _ v0 (by omega)
  have E : Hid _ := e'
  clear e e'
  go_enter Try.func43, Try.ntmps43
  go_wp2_with fail
  go_ret
  exact ⟨by rw [E.out]; rfl, (Below.refl _ _).alloc (by simp) _⟩
set_option maxHeartbeats 1000000 in
theorem bit_walk1 (x : Nm) (hx : x.ok) (n s : Nat) (h1 : n / 64 = 1) (h2 : n % 64 = s) (hs : s < 64) (w : World) :
    Calls Try.prog 43 #[N x, .int .i64 n] w fun e w' => e = .returned (.int .u64 (x.val / 2 ^ n % 2)) ∧ Below w.heap.size w w' := by
  have h3 : (n : Int) / 64 = 1 := by omega
  have h4 : (n : Int) % 64 = s := by omega
  have h5 : ¬ ((n : Int) < 0) := by omega
  have h6 : ¬ ((n : Int) ≥ 256) := by omega
  obtain ⟨⟨a0, a1⟩, ⟨b0, b1⟩, ⟨c0, c1⟩, ⟨d0, d1⟩⟩ := hx
  have e := bit_word (v := x.val) (l := x.a) (a := x.b) (g := x.c + 18446744073709551616 * x.d) (q := 18446744073709551616) (s := s) (k := 64) (n := n) hs (by omega) rfl (by simp only [Nm.val] <;> omega) (by omega) (by omega)
  have e' : bits .and .u64 (x.b / 2 ^ s) 1 = x.val / 2 ^ n % 2 := by
    have ps : (0 : Int) < 2 ^ s := Int.pow_pos (by omega)
    have v0 : 0 ≤ x.b / 2 ^ s := Int.ediv_nonneg b0 (by omega)
    have v1 : x.b / 2 ^ s ≤ x.b := Int.ediv_le_self _ b0
    rw [e]
    exact and_one_u64 _ v0 (by omega)
  have E : Hid _ := e'
  clear e e'
  go_enter Try.func43, Try.ntmps43
  go_wp2_with fail
  go_ret
  exact ⟨by rw [E.out]; rfl, (Below.refl _ _).alloc (by simp) _⟩
set_option maxHeartbeats 1000000 in
theorem bit_walk2 (x : Nm) (hx : x.ok) (n s : Nat) (h1 : n / 64 = 2) (h2 : n % 64 = s) (hs : s < 64) (w : World) :
    Calls Try.prog 43 #[N x, .int .i64 n] w fun e w' => e = .returned (.int .u64 (x.val / 2 ^ n % 2)) ∧ Below w.heap.size w w' := by
  have h3 : (n : Int) / 64 = 2 := by omega
  have h4 : (n : Int) % 64 = s := by omega
  have h5 : ¬ ((n : Int) < 0) := by omega
  have h6 : ¬ ((n : Int) ≥ 256) := by omega
  obtain ⟨⟨a0, a1⟩, ⟨b0, b1⟩, ⟨c0, c1⟩, ⟨d0, d1⟩⟩ := hx
  have e := bit_word (v := x.val) (l := x.a + 18446744073709551616 * x.b) (a := x.c) (g := x.d) (q := 340282366920938463463374607431768211456) (s := s) (k := 128) (n := n) hs (by omega) rfl (by simp only [Nm.val] <;> omega) (by omega) (by omega)
  have e' : bits .and .u64 (x.c / 2 ^ s) 1 = x.val / 2 ^ n % 2 := by
    have ps : (0 : Int) < 2 ^ s := Int.pow_pos (by omega)
    have v0 : 0 ≤ x.c / 2 ^ s := Int.ediv_nonneg c0 (by omega)
    have v1 : x.c / 2 ^ s ≤ x.c := Int.ediv_le_self _ c0
    rw [e]
    exact and_one_u64 _ v0 (by omega)
  have E : Hid _ := e'
  clear e e'
  go_enter Try.func43, Try.ntmps43
  go_wp2_with fail
  go_ret
  exact ⟨by rw [E.out]; rfl, (Below.refl _ _).alloc (by simp) _⟩
set_option maxHeartbeats 1000000 in
theorem bit_walk3 (x : Nm) (hx : x.ok) (n s : Nat) (h1 : n / 64 = 3) (h2 : n % 64 = s) (hs : s < 64) (w : World) :
    Calls Try.prog 43 #[N x, .int .i64 n] w fun e w' => e = .returned (.int .u64 (x.val / 2 ^ n % 2)) ∧ Below w.heap.size w w' := by
  have h3 : (n : Int) / 64 = 3 := by omega
  have h4 : (n : Int) % 64 = s := by omega
  have h5 : ¬ ((n : Int) < 0) := by omega
  have h6 : ¬ ((n : Int) ≥ 256) := by omega
  obtain ⟨⟨a0, a1⟩, ⟨b0, b1⟩, ⟨c0, c1⟩, ⟨d0, d1⟩⟩ := hx
  have e := bit_word (v := x.val) (l := x.a + 18446744073709551616 * x.b + 340282366920938463463374607431768211456 * x.c) (a := x.d) (g := 0) (q := 6277101735386680763835789423207666416102355444464034512896) (s := s) (k := 192) (n := n) hs (by omega) rfl (by simp only [Nm.val] <;> omega) (by omega) (by omega)
  have e' : bits .and .u64 (x.d / 2 ^ s) 1 = x.val / 2 ^ n % 2 := by
    have ps : (0 : Int) < 2 ^ s := Int.pow_pos (by omega)
    have v0 : 0 ≤ x.d / 2 ^ s := Int.ediv_nonneg d0 (by omega)
    have v1 : x.d / 2 ^ s ≤ x.d := Int.ediv_le_self _ d0
    rw [e]
    exact and_one_u64 _ v0 (by omega)
  have E : Hid _ := e'
  clear e e'
  go_enter Try.func43, Try.ntmps43
  go_wp2_with fail
  go_ret
  exact ⟨by rw [E.out]; rfl, (Below.refl _ _).alloc (by simp) _⟩
theorem bit_fun (x : Nm) (hx : x.ok) (n : Nat) (hn : n < 256) (w : World) :
    Calls Try.prog 43 #[N x, .int .i64 n] w fun e w' => e = .returned (.int .u64 (x.val / 2 ^ n % 2)) ∧ Below w.heap.size w w' := by
  have hq : n / 64 = 0 ∨ n / 64 = 1 ∨ n / 64 = 2 ∨ n / 64 = 3 := by omega
  rcases hq with h | h | h | h
  · exact bit_walk0 x hx n _ h rfl (by omega) w
  · exact bit_walk1 x hx n _ h rfl (by omega) w
  · exact bit_walk2 x hx n _ h rfl (by omega) w
  · exact bit_walk3 x hx n _ h rfl (by omega) w
end Go.Proofs.Ytpnfopakkaoibaa
