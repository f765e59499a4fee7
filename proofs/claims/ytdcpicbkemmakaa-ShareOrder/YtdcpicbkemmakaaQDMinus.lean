/- The contract of sealringref.Minus: the difference, where the second is not greater. -/
import Derived.Test.YtdcpicbkemmakaaQDMathToDigO
import Derived.Test.YtdcpicbkemmakaaQUpA
namespace Go.Proofs.Ytdcpicbkemmakaa
open Go.RowKit
set_option maxHeartbeats 400000 in
theorem dminus_nil (v : Value) (w : World) :
    Calls Try.prog 21 #[.slice none 0 0, v] w fun e w' => e = .returned (.slice none 0 0) ∧ Below w.heap.size w w' := by
  go_enter Try.func21, Try.ntmps21
  go_wp2_with fail
  refine wp_loop_rounds 1 ?_
  rw [rounds_succ]
  go_wp2_with fail
  refine (trim_none _).mono ?_
  rintro e w1 ⟨rfl, hb1⟩
  go_wp2_with fail
  go_ret
  exact ⟨rfl, hb1⟩
theorem diff_step {X Y o k c x y d q : Nat} (h : o + Y % 65536 ^ k = X % 65536 ^ k + 65536 ^ k * c) (hx : x = X / 65536 ^ k % 65536) (hy : y = Y / 65536 ^ k % 65536) (hd : d + y + c = x + 65536 * q) :
    o + 65536 ^ k * d + Y % 65536 ^ (k + 1) = X % 65536 ^ (k + 1) + 65536 ^ (k + 1) * q := by
  rw [P.mod_pow_succ' X, P.mod_pow_succ' Y, ← hx, ← hy, Nat.pow_succ]
  generalize 65536 ^ k = B at *
  generalize X % B = u at *
  generalize Y % B = v at *
  have e : B * d + B * y + B * c = B * x + B * 65536 * q := by rw [Nat.mul_assoc, ← Nat.mul_add, ← Nat.mul_add, ← Nat.mul_add, hd]
  omega
set_option maxHeartbeats 2000000 in
theorem dminus_some (b o cp : Nat) (v : Value) (xs ys : List Nat) (hx : P.Dg xs) (hy : P.Dg ys) (lx : xs.length < 1073741824) (le : P.dv ys ≤ P.dv xs) (w : World)
    (hc : ∀ j, j < xs.length → w.cell? ⟨b, o + j, none⟩ = some (.int .i64 ((xs.getD j 0 : Nat) : Int))) (sv : Sl w v ys) :
    Calls Try.prog 21 #[.slice (some ⟨b, o, none⟩) xs.length cp, v] w fun e w' => (∃ v', e = .returned v' ∧ Sl w' v' (P.dg (P.dv xs - P.dv ys)) ∧ blkGe w.heap.size v') ∧ Below w.heap.size w w' := by
  obtain ⟨ay, cy', rfl⟩ := sv.parts
  have SV : Hid (Sl w (.slice ay ys.length cy') ys) := sv
  have HC : Hid _ := hc
  clear sv hc
  go_enter Try.func21, Try.ntmps21
  go_wp2_with fail
  go_loopw [5, 6, 11] (fun o c i wr => ∃ (k : Nat) (os : List Nat) (cy : Nat), k ≤ xs.length ∧ i = .int .i64 k ∧ c = .int .i64 ((cy : Nat) : Int) ∧ cy ≤ 1 ∧ os.length = k ∧ P.Dg os ∧
      Hid (P.dv os + P.dv ys % 65536 ^ k = P.dv xs % 65536 ^ k + 65536 ^ k * cy) ∧ Hid (Ow wr w.heap.size o os) ∧ Hid (Below w.heap.size w wr)) (fun _ _ i _ => xs.length - (intOf i).toNat)
  case atStart => exact ⟨0, [], 0, by omega, rfl, rfl, by omega, rfl, fun x hx => (by cases hx), (by simp [P.dv, Nat.mod_one] : P.dv [] + P.dv ys % 65536 ^ 0 = P.dv xs % 65536 ^ 0 + 65536 ^ 0 * 0), Ow.nil _ _, Below.refl _ _⟩
  case round =>
    obtain ⟨k, os, c, hk, rfl, rfl, hc1, hlen, hdg, HV, ho, hb⟩ := hrel
    by_cases h1 : k < xs.length
    · have i1 : (k : Int) < (xs.length : Int) := by omega
      have i0 : (0 : Int) ≤ (k : Int) := by omega
      have hcell : wr.cell? ⟨b, o + k, none⟩ = some (.int .i64 ((xs.getD k 0 : Nat) : Int)) := (hb.out.cell (p := ⟨b, o + k, none⟩) (lt_of_cell (HC.out k h1))).trans (HC.out k h1)
      have xl := P.dig_lt hx k
      have yl := P.dig_lt hy k
      have dx := P.dig hx k
      have dy := P.dig hy k
      have DY : Hid _ := fun w' h => digit_fun (.slice ay ys.length cy') ys k w' h
      have ST : Hid _ := fun d q h => diff_step (d := d) (q := q) HV.out dx dy h
      generalize xs.getD k 0 = x at *
      generalize ys.getD k 0 = y at *
      clear dx dy
      have x0 : (0 : Int) ≤ (x : Int) := by omega
      have x1 : (x : Int) ≤ 65535 := by omega
      have y0 : (0 : Int) ≤ (y : Int) := by omega
      have y1 : (y : Int) ≤ 65535 := by omega
      have c0 : (0 : Int) ≤ (c : Int) := by omega
      have c1 : (c : Int) ≤ 1 := by omega
      go_wp2_with fail
      refine wp_region_up (by kernel_rfl) (by kernel_rfl) (fun U hU f hf hcl => ?_)
      have cl : ∀ n, (f n).cell? ⟨b, o + k, none⟩ = some (.int .i64 (x : Int)) := fun n => ((hf n).out.cell (p := ⟨b, o + k, none⟩) (lt_of_cell hcell)).trans hcell
      have sy : ∀ n, Sl (f n) (.slice ay ys.length cy') ys := fun n => Sl.up (xs := ys) SV.out (hb.out.trans ((hf n).out.mono hb.out.size))
      clear hcell
      repeat (go_big_quiet_step (first | (go_at_call 26; exact (DY.out _ (sy _)).mono fun e w'' ⟨he, hb⟩ => ⟨he, hcl.out _ _ hb⟩)))
      refine wpQuiet_nil ?_
      intro nx
      have hb1 := (hf nx).out
      clear hf hcl cl sy
      generalize f nx = w1 at hb1 ⊢
      have o1 : Hid (Ow w1 w.heap.size _ os) := Ow.up ho.out hb1
      have b1 : Hid (Below w.heap.size w w1) := hb.out.trans (hb1.mono hb.out.size)
      clear hb1 hb ho
      by_cases hz : x < y + c
      · have hz' : (x : Int) - (y : Int) - (c : Int) < 0 := by omega
        obtain ⟨d, hd⟩ : ∃ d, d + y + c = x + 65536 := ⟨x + 65536 - y - c, by omega⟩
        have TM : Hid ((x : Int) - (y : Int) - (c : Int) + 65536 = ((d : Nat) : Int)) := (by omega : (x : Int) - (y : Int) - (c : Int) + 65536 = ((d : Nat) : Int))
        have HD : Hid _ := hd
        clear hd
        go_wp2_with (at_builtin; refine wp_app rfl _ _ rfl w.heap.size _ os d _ w1 rfl o1.out ((Below.refl _ _).alloc (Nat.le_refl _) _) ⟨w1.heap.size, 0, none⟩ rfl (by simp) TM.out (by omega) b1.out.size ?_)
        intro v' w3 o3 hb3
        have O3 : Hid _ := o3
        have b3 : Hid (Below w.heap.size w w3) := b1.out.trans hb3
        clear o3 hb3 o1 b1
        go_wp2_with fail
        go_roundw
        case rel =>
          have hd := HD.out
          refine ⟨k + 1, os ++ [d], 1, by omega, by go_num, rfl, by omega, by simp [hlen], hdg.append (P.Dg.one (by omega)), ?_, O3, b3⟩
          show P.dv (os ++ [d]) + P.dv ys % 65536 ^ (k + 1) = P.dv xs % 65536 ^ (k + 1) + 65536 ^ (k + 1) * 1
          rw [P.dv_append, hlen, P.dv, P.dv, Nat.mul_zero, Nat.add_zero]
          exact ST.out d 1 (by omega)
        case measure => simp [intOf]; omega
      · have hz' : ¬ (x : Int) - (y : Int) - (c : Int) < 0 := by omega
        obtain ⟨d, hd⟩ : ∃ d, d + y + c = x := ⟨x - y - c, by omega⟩
        have TM : Hid ((x : Int) - (y : Int) - (c : Int) = ((d : Nat) : Int)) := (by omega : (x : Int) - (y : Int) - (c : Int) = ((d : Nat) : Int))
        have HD : Hid _ := hd
        clear hd
        go_wp2_with (at_builtin; refine wp_app rfl _ _ rfl w.heap.size _ os d _ w1 rfl o1.out ((Below.refl _ _).alloc (Nat.le_refl _) _) ⟨w1.heap.size, 0, none⟩ rfl (by simp) TM.out (by omega) b1.out.size ?_)
        intro v' w3 o3 hb3
        have O3 : Hid _ := o3
        have b3 : Hid (Below w.heap.size w w3) := b1.out.trans hb3
        clear o3 hb3 o1 b1
        go_wp2_with fail
        go_roundw
        case rel =>
          have hd := HD.out
          refine ⟨k + 1, os ++ [d], 0, by omega, by go_num, rfl, by omega, by simp [hlen], hdg.append (P.Dg.one (by omega)), ?_, O3, b3⟩
          show P.dv (os ++ [d]) + P.dv ys % 65536 ^ (k + 1) = P.dv xs % 65536 ^ (k + 1) + 65536 ^ (k + 1) * 0
          rw [P.dv_append, hlen, P.dv, P.dv, Nat.mul_zero, Nat.add_zero]
          exact ST.out d 0 (by omega)
        case measure => simp [intOf]; omega
    · have i1 : ¬ (k : Int) < (xs.length : Int) := by omega
      have e : k = xs.length := by omega
      have V : Hid (P.dv os = P.dv xs - P.dv ys) := by
        have h := HV.out
        have l1 := P.dv_lt xs hx
        have l2 := P.dv_lt os hdg
        rw [hlen, e] at l2
        rw [e, Nat.mod_eq_of_lt l1, Nat.mod_eq_of_lt (Nat.lt_of_le_of_lt le l1)] at h
        show P.dv os = P.dv xs - P.dv ys
        generalize 65536 ^ xs.length = B at *
        rcases Nat.eq_zero_or_pos c with hc | hc
        · rw [hc, Nat.mul_zero] at h; omega
        · have : c = 1 := by omega
          rw [this, Nat.mul_one] at h; omega
      go_wp2_with fail
      refine (trim_fun2 _ os hdg (by omega) _ (Ow.sl ho.out)).mono ?_
      rintro e w1 ⟨⟨v', rfl, hs, hge⟩, hb1⟩
      have GE : Hid _ := hge _ (Ow.ge ho.out)
      clear hge
      have b1 : Hid (Below w.heap.size w w1) := hb.out.trans (hb1.mono hb.out.size)
      have HS : Hid _ := hs
      clear hs hb1 hb ho
      go_wp2_with fail
      go_ret
      exact ⟨⟨v', rfl, by rw [← V.out]; exact HS.out, GE.out⟩, b1.out⟩
theorem dminus_fun2 (u v : Value) (xs ys : List Nat) (hx : P.Dg xs) (hy : P.Dg ys) (lx : xs.length < 1073741824) (le : P.dv ys ≤ P.dv xs) (w : World) (su : Sl w u xs) (sv : Sl w v ys) :
    Calls Try.prog 21 #[u, v] w fun e w' => (∃ v', e = .returned v' ∧ Sl w' v' (P.dg (P.dv xs - P.dv ys)) ∧ blkGe w.heap.size v') ∧ Below w.heap.size w w' := by
  rcases su with ⟨rfl, rfl⟩ | ⟨b, o, c, rfl, _, hc⟩
  · refine (dminus_nil v w).mono ?_
    rintro e w' ⟨rfl, hb⟩
    exact ⟨⟨_, rfl, .inl ⟨rfl, by rw [P.dv, Nat.zero_sub, P.dg_zero]⟩, trivial⟩, hb⟩
  · exact dminus_some b o c v xs ys hx hy lx le w hc sv
theorem dminus_fun (u v : Value) (xs ys : List Nat) (hx : P.Dg xs) (hy : P.Dg ys) (lx : xs.length < 1073741824) (le : P.dv ys ≤ P.dv xs) (w : World) (su : Sl w u xs) (sv : Sl w v ys) :
    Calls Try.prog 21 #[u, v] w fun e w' => (∃ v', e = .returned v' ∧ Sl w' v' (P.dg (P.dv xs - P.dv ys))) ∧ Below w.heap.size w w' :=
  (dminus_fun2 u v xs ys hx hy lx le w su sv).mono fun _ _ ⟨⟨v', he, hsl, _⟩, hb⟩ => ⟨⟨v', he, hsl⟩, hb⟩
end Go.Proofs.Ytdcpicbkemmakaa
