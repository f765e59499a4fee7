/- The contract of sealringref.Order: which of two rows of digits is greater, from the last place down. -/
import Derived.Test.YtdcpicbkemmakaaQDMathToDigO
namespace Go.Proofs.Ytdcpicbkemmakaa
open Go.RowKit
/-- Which of two numbers is greater. -/
def cmpN (X Y : Nat) : Int := if X < Y then -1 else if Y < X then 1 else 0
theorem cmpN_step (X Y k : Nat) : cmpN (X % 65536 ^ (k + 1)) (Y % 65536 ^ (k + 1)) = if X / 65536 ^ k % 65536 < Y / 65536 ^ k % 65536 then -1 else if Y / 65536 ^ k % 65536 < X / 65536 ^ k % 65536 then 1 else cmpN (X % 65536 ^ k) (Y % 65536 ^ k) := by
  rw [P.mod_pow_succ' X, P.mod_pow_succ' Y]
  have l1 : X % 65536 ^ k < 65536 ^ k := Nat.mod_lt _ (Nat.pow_pos (by decide))
  have l2 : Y % 65536 ^ k < 65536 ^ k := Nat.mod_lt _ (Nat.pow_pos (by decide))
  generalize X / 65536 ^ k % 65536 = x
  generalize Y / 65536 ^ k % 65536 = y
  generalize X % 65536 ^ k = u at *
  generalize Y % 65536 ^ k = v at *
  generalize 65536 ^ k = B at *
  unfold cmpN
  rcases Nat.lt_trichotomy x y with h | h | h
  · have : u + B * x < v + B * y := by
      have h1 : B * (x + 1) ≤ B * y := Nat.mul_le_mul_left B h
      rw [Nat.mul_add, Nat.mul_one] at h1
      omega
    rw [if_pos this, if_pos h]
  · subst h
    rw [if_neg (Nat.lt_irrefl x)]
    simp only [Nat.lt_irrefl, if_false, Nat.add_lt_add_iff_right]
  · have : v + B * y < u + B * x := by
      have h1 : B * (y + 1) ≤ B * x := Nat.mul_le_mul_left B h
      rw [Nat.mul_add, Nat.mul_one] at h1
      omega
    rw [if_neg (by omega), if_pos this, if_neg (by omega), if_pos h]
theorem ret_o {k : IntKind} {a b : Int} (h : b = a) : Ending.returned (.int k a) = .returned (.int k b) := by rw [h]
set_option maxHeartbeats 1000000 in
theorem order_walk (xs ys : List Nat) (hx : P.Dg xs) (hy : P.Dg ys) (n m : Nat) (ax ay : Option Addr) (cx cy : Nat) (M' : Nat) (hM : M' < 4611686018427387904) (hE : ∀ i : Decidable (n < m), @ite Int (n < m) i (m : Int) (n : Int) = M') (w : World) (su : Sl w (.slice ax n cx) xs) (sv : Sl w (.slice ay m cy) ys) :
    Calls Try.prog 9 #[.slice ax n cx, .slice ay m cy] w fun e w' => e = .returned (.int .i64 (cmpN (P.dv xs % 65536 ^ M') (P.dv ys % 65536 ^ M'))) ∧ Below w.heap.size w w' := by
  have SU : Hid (Sl w (.slice ax n cx) xs) := su
  have SV : Hid (Sl w (.slice ay m cy) ys) := sv
  clear su sv
  go_enter Try.func9, Try.ntmps9
  go_wp2_with fail
  go_loopw [5] (fun i w' => ∃ k : Nat, k ≤ M' ∧ i = .int .i64 ((k : Int) - 1) ∧ Hid (cmpN (P.dv xs % 65536 ^ M') (P.dv ys % 65536 ^ M') = cmpN (P.dv xs % 65536 ^ k) (P.dv ys % 65536 ^ k)) ∧ Hid (Below w.heap.size w w')) (fun i _ => (intOf i + 1).toNat)
  case atStart => exact ⟨M', Nat.le_refl _, by go_num, (rfl : cmpN _ _ = cmpN _ _), Below.refl _ _⟩
  case round =>
    obtain ⟨k, hk, rfl, ho, hb⟩ := hrel
    by_cases h0 : 0 < k
    · obtain ⟨k, rfl⟩ : ∃ j, k = j + 1 := ⟨k - 1, by omega⟩
      rw [show ((k + 1 : Nat) : Int) - 1 = k by omega]
      have i0 : (k : Int) ≥ 0 := by omega
      have st : Hid _ := cmpN_step (P.dv xs) (P.dv ys) k
      have dx := P.dig hx k
      have dy := P.dig hy k
      rw [← dx, ← dy] at st
      clear dx dy
      have DX : Hid _ := fun w' h => digit_fun (.slice ax n cx) xs k w' h
      have DY : Hid _ := fun w' h => digit_fun (.slice ay m cy) ys k w' h
      generalize xs.getD k 0 = x at *
      generalize ys.getD k 0 = y at *
      go_wp2_with fail
      refine (DX.out _ (Sl.up (xs := xs) SU.out hb.out)).mono ?_
      rintro e w1 ⟨rfl, hb1⟩
      have b1 : Hid (Below w.heap.size w w1) := hb.out.trans (hb1.mono hb.out.size)
      clear hb1 hb
      go_wp2_with fail
      refine (DY.out _ (Sl.up (xs := ys) SV.out b1.out)).mono ?_
      rintro e w2 ⟨rfl, hb2⟩
      have b2 : Hid (Below w.heap.size w w2) := b1.out.trans (hb2.mono b1.out.size)
      clear hb2 b1
      by_cases h1 : x < y
      · have h1' : (x : Int) < (y : Int) := by omega
        go_wp2_with fail
        go_ret
        exact ⟨ret_o (by rw [ho.out, st.out, if_pos h1]), b2.out⟩
      · have h1' : ¬ (x : Int) < (y : Int) := by omega
        by_cases h2 : y < x
        · have h3 : (x : Int) > (y : Int) := by omega
          go_wp2_with fail
          go_ret
          exact ⟨ret_o (by rw [ho.out, st.out, if_neg h1, if_pos h2]), b2.out⟩
        · have h3 : ¬ (x : Int) > (y : Int) := by omega
          go_wp2_with fail
          refine ⟨⟨k, by omega, rfl, (by rw [ho.out, st.out, if_neg h1, if_neg h2] : cmpN (P.dv xs % 65536 ^ M') (P.dv ys % 65536 ^ M') = cmpN (P.dv xs % 65536 ^ k) (P.dv ys % 65536 ^ k)), b2⟩, by simp [intOf]⟩
    · have hk0 : k = 0 := by omega
      subst hk0
      go_wp2_with fail
      go_ret
      exact ⟨ret_o (by rw [ho.out]; simp [Nat.mod_one, cmpN]), hb.out⟩
theorem order_fun (u v : Value) (xs ys : List Nat) (hx : P.Dg xs) (hy : P.Dg ys) (lx : xs.length < 1073741824) (ly : ys.length < 1073741824) (w : World) (su : Sl w u xs) (sv : Sl w v ys) :
    Calls Try.prog 9 #[u, v] w fun e w' => e = .returned (.int .i64 (cmpN (P.dv xs) (P.dv ys))) ∧ Below w.heap.size w w' := by
  obtain ⟨ax, cx, rfl⟩ := su.parts
  obtain ⟨ay, cy, rfl⟩ := sv.parts
  have := order_walk xs ys hx hy _ _ ax ay cx cy (max xs.length ys.length) (by omega) (fun i => by split <;> omega) w su sv
  rwa [P.mod_len hx (by omega), P.mod_len hy (by omega)] at this
end Go.Proofs.Ytdcpicbkemmakaa
