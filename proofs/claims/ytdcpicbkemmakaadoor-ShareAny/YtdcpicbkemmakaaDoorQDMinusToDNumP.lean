/- Texts that were joined: DMinus, Ord, DParts, DRest, DBits, DPow, DPlus, DNumP. -/
import Derived.Test.YtdcpicbkemmakaaDoorQNumToDTimes
import Derived.Test.YtdcpicbkemmakaaDoorQUpAToUp3
import Derived.Laws.AppendOwnNone
import Derived.Laws.Bits64
import Derived.Laws.Bits64b
/- The contract of sealringref.Minus: the difference, where the second is not greater. -/
namespace Go.Proofs.YtdcpicbkemmakaaDoor
open Go.RowKit
set_option maxHeartbeats 400000 in
theorem dminus_nil (v : Value) (w : World) :
    Calls Tryd.prog 73 #[.slice none 0 0, v] w fun e w' => e = .returned (.slice none 0 0) ∧ Below w.heap.size w w' := by
  go_enter Tryd.func73, Tryd.ntmps73
  go_wp2_with fail
  refine wp_loop_rounds 1 ?_
  rw [rounds_succ]
  go_wp2_with fail
  refine (trim_none _).mono ?_
  rintro e w1 ⟨rfl, hb1⟩
  go_wp2_with fail
  go_ret
  exact ⟨rfl, hb1⟩
theorem diff_step {X Y o k c x y d q : Nat} (h : o + Y % 65536 ^ k = X % 65536 ^ k + 65536 ^ k * c) (hx : x = X / 65536 ^ k % 65536) (hy : y = Y / 65536 ^ k % 65536) (hd : d + y + c = x + 65536 * q) :
    o + 65536 ^ k * d + Y % 65536 ^ (k + 1) = X % 65536 ^ (k + 1) + 65536 ^ (k + 1) * q := by
  rw [P.mod_pow_succ' X, P.mod_pow_succ' Y, ← hx, ← hy, Nat.pow_succ]
  generalize 65536 ^ k = B at *
  generalize X % B = u at *
  generalize Y % B = v at *
  have e : B * d + B * y + B * c = B * x + B * 65536 * q := by rw [Nat.mul_assoc, ← Nat.mul_add, ← Nat.mul_add, ← Nat.mul_add, hd]
  omega
set_option maxHeartbeats 2000000 in
theorem dminus_some (b o cp : Nat) (v : Value) (xs ys : List Nat) (hx : P.Dg xs) (hy : P.Dg ys) (lx : xs.length < 1073741824) (le : P.dv ys ≤ P.dv xs) (w : World)
    (hc : ∀ j, j < xs.length → w.cell? ⟨b, o + j, none⟩ = some (.int .i64 ((xs.getD j 0 : Nat) : Int))) (sv : Sl w v ys) :
    Calls Tryd.prog 73 #[.slice (some ⟨b, o, none⟩) xs.length cp, v] w fun e w' => (∃ v', e = .returned v' ∧ Sl w' v' (P.dg (P.dv xs - P.dv ys)) ∧ blkGe w.heap.size v') ∧ Below w.heap.size w w' := by
  obtain ⟨ay, cy', rfl⟩ := sv.parts
  have SV : Hid (Sl w (.slice ay ys.length cy') ys) := sv
  have HC : Hid _ := hc
  clear sv hc
  go_enter Tryd.func73, Tryd.ntmps73
  go_wp2_with fail
  go_loopw [5, 6, 11] (fun o c i wr => ∃ (k : Nat) (os : List Nat) (cy : Nat), k ≤ xs.length ∧ i = .int .i64 k ∧ c = .int .i64 ((cy : Nat) : Int) ∧ cy ≤ 1 ∧ os.length = k ∧ P.Dg os ∧
      Hid (P.dv os + P.dv ys % 65536 ^ k = P.dv xs % 65536 ^ k + 65536 ^ k * cy) ∧ Hid (Ow wr w.heap.size o os) ∧ Hid (Below w.heap.size w wr)) (fun _ _ i _ => xs.length - (intOf i).toNat)
  case atStart => exact ⟨0, [], 0, by omega, rfl, rfl, by omega, rfl, fun x hx => (by cases hx), (by simp [P.dv, Nat.mod_one] : P.dv [] + P.dv ys % 65536 ^ 0 = P.dv xs % 65536 ^ 0 + 65536 ^ 0 * 0), Ow.nil _ _, Below.refl _ _⟩
  case round =>
    obtain ⟨k, os, c, hk, rfl, rfl, hc1, hlen, hdg, HV, ho, hb⟩ := hrel
    by_cases h1 : k < xs.length
    · have i1 : (k : Int) < (xs.length : Int) := by omega
      have i0 : (0 : Int) ≤ (k : Int) := by omega
      have hcell : wr.cell? ⟨b, o + k, none⟩ = some (.int .i64 ((xs.getD k 0 : Nat) : Int)) := (hb.out.cell (p := ⟨b, o + k, none⟩) (lt_of_cell (HC.out k h1))).trans (HC.out k h1)
      have xl := P.dig_lt hx k
      have yl := P.dig_lt hy k
      have dx := P.dig hx k
      have dy := P.dig hy k
      have DY : Hid _ := fun w' h => digit_fun (.slice ay ys.length cy') ys k w' h
      have ST : Hid _ := fun d q h => diff_step (d := d) (q := q) HV.out dx dy h
      generalize xs.getD k 0 = x at *
      generalize ys.getD k 0 = y at *
      clear dx dy
      have x0 : (0 : Int) ≤ (x : Int) := by omega
      have x1 : (x : Int) ≤ 65535 := by omega
      have y0 : (0 : Int) ≤ (y : Int) := by omega
      have y1 : (y : Int) ≤ 65535 := by omega
      have c0 : (0 : Int) ≤ (c : Int) := by omega
      have c1 : (c : Int) ≤ 1 := by omega
      go_wp2_with fail
      refine wp_region_up (by kernel_rfl) (by kernel_rfl) (fun U hU f hf hcl => ?_)
      have cl : ∀ n, (f n).cell? ⟨b, o + k, none⟩ = some (.int .i64 (x : Int)) := fun n => ((hf n).out.cell (p := ⟨b, o + k, none⟩) (lt_of_cell hcell)).trans hcell
      have sy : ∀ n, Sl (f n) (.slice ay ys.length cy') ys := fun n => Sl.up (xs := ys) SV.out (hb.out.trans ((hf n).out.mono hb.out.size))
      clear hcell
      repeat (go_big_quiet_step (first | (go_at_call 50; exact (DY.out _ (sy _)).mono fun e w'' ⟨he, hb⟩ => ⟨he, hcl.out _ _ hb⟩)))
      refine wpQuiet_nil ?_
      intro nx
      have hb1 := (hf nx).out
      clear hf hcl cl sy
      generalize f nx = w1 at hb1 ⊢
      have o1 : Hid (Ow w1 w.heap.size _ os) := Ow.up ho.out hb1
      have b1 : Hid (Below w.heap.size w w1) := hb.out.trans (hb1.mono hb.out.size)
      clear hb1 hb ho
      by_cases hz : x < y + c
      · have hz' : (x : Int) - (y : Int) - (c : Int) < 0 := by omega
        obtain ⟨d, hd⟩ : ∃ d, d + y + c = x + 65536 := ⟨x + 65536 - y - c, by omega⟩
        have TM : Hid ((x : Int) - (y : Int) - (c : Int) + 65536 = ((d : Nat) : Int)) := (by omega : (x : Int) - (y : Int) - (c : Int) + 65536 = ((d : Nat) : Int))
        have HD : Hid _ := hd
        clear hd
        go_wp2_with (at_builtin; refine wp_app rfl _ _ rfl w.heap.size _ os d _ w1 rfl o1.out ((Below.refl _ _).alloc (Nat.le_refl _) _) ⟨w1.heap.size, 0, none⟩ rfl (by simp) TM.out (by omega) b1.out.size ?_)
        intro v' w3 o3 hb3
        have O3 : Hid _ := o3
        have b3 : Hid (Below w.heap.size w w3) := b1.out.trans hb3
        clear o3 hb3 o1 b1
        go_wp2_with fail
        go_roundw
        case rel =>
          have hd := HD.out
          refine ⟨k + 1, os ++ [d], 1, by omega, by go_num, rfl, by omega, by simp [hlen], hdg.append (P.Dg.one (by omega)), ?_, O3, b3⟩
          show P.dv (os ++ [d]) + P.dv ys % 65536 ^ (k + 1) = P.dv xs % 65536 ^ (k + 1) + 65536 ^ (k + 1) * 1
          rw [P.dv_append, hlen, P.dv, P.dv, Nat.mul_zero, Nat.add_zero]
          exact ST.out d 1 (by omega)
        case measure => simp [intOf]; omega
      · have hz' : ¬ (x : Int) - (y : Int) - (c : Int) < 0 := by omega
        obtain ⟨d, hd⟩ : ∃ d, d + y + c = x := ⟨x - y - c, by omega⟩
        have TM : Hid ((x : Int) - (y : Int) - (c : Int) = ((d : Nat) : Int)) := (by omega : (x : Int) - (y : Int) - (c : Int) = ((d : Nat) : Int))
        have HD : Hid _ := hd
        clear hd
        go_wp2_with (at_builtin; refine wp_app rfl _ _ rfl w.heap.size _ os d _ w1 rfl o1.out ((Below.refl _ _).alloc (Nat.le_refl _) _) ⟨w1.heap.size, 0, none⟩ rfl (by simp) TM.out (by omega) b1.out.size ?_)
        intro v' w3 o3 hb3
        have O3 : Hid _ := o3
        have b3 : Hid (Below w.heap.size w w3) := b1.out.trans hb3
        clear o3 hb3 o1 b1
        go_wp2_with fail
        go_roundw
        case rel =>
          have hd := HD.out
          refine ⟨k + 1, os ++ [d], 0, by omega, by go_num, rfl, by omega, by simp [hlen], hdg.append (P.Dg.one (by omega)), ?_, O3, b3⟩
          show P.dv (os ++ [d]) + P.dv ys % 65536 ^ (k + 1) = P.dv xs % 65536 ^ (k + 1) + 65536 ^ (k + 1) * 0
          rw [P.dv_append, hlen, P.dv, P.dv, Nat.mul_zero, Nat.add_zero]
          exact ST.out d 0 (by omega)
        case measure => simp [intOf]; omega
    · have i1 : ¬ (k : Int) < (xs.length : Int) := by omega
      have e : k = xs.length := by omega
      have V : Hid (P.dv os = P.dv xs - P.dv ys) := by
        have h := HV.out
        have l1 := P.dv_lt xs hx
        have l2 := P.dv_lt os hdg
        rw [hlen, e] at l2
        rw [e, Nat.mod_eq_of_lt l1, Nat.mod_eq_of_lt (Nat.lt_of_le_of_lt le l1)] at h
        show P.dv os = P.dv xs - P.dv ys
        generalize 65536 ^ xs.length = B at *
        rcases Nat.eq_zero_or_pos c with hc | hc
        · rw [hc, Nat.mul_zero] at h; omega
        · have : c = 1 := by omega
          rw [this, Nat.mul_one] at h; omega
      go_wp2_with fail
      refine (trim_fun2 _ os hdg (by omega) _ (Ow.sl ho.out)).mono ?_
      rintro e w1 ⟨⟨v', rfl, hs, hge⟩, hb1⟩
      have GE : Hid _ := hge _ (Ow.ge ho.out)
      clear hge
      have b1 : Hid (Below w.heap.size w w1) := hb.out.trans (hb1.mono hb.out.size)
      have HS : Hid _ := hs
      clear hs hb1 hb ho
      go_wp2_with fail
      go_ret
      exact ⟨⟨v', rfl, by rw [← V.out]; exact HS.out, GE.out⟩, b1.out⟩
theorem dminus_fun2 (u v : Value) (xs ys : List Nat) (hx : P.Dg xs) (hy : P.Dg ys) (lx : xs.length < 1073741824) (le : P.dv ys ≤ P.dv xs) (w : World) (su : Sl w u xs) (sv : Sl w v ys) :
    Calls Tryd.prog 73 #[u, v] w fun e w' => (∃ v', e = .returned v' ∧ Sl w' v' (P.dg (P.dv xs - P.dv ys)) ∧ blkGe w.heap.size v') ∧ Below w.heap.size w w' := by
  rcases su with ⟨rfl, rfl⟩ | ⟨b, o, c, rfl, _, hc⟩
  · refine (dminus_nil v w).mono ?_
    rintro e w' ⟨rfl, hb⟩
    exact ⟨⟨_, rfl, .inl ⟨rfl, by rw [P.dv, Nat.zero_sub, P.dg_zero]⟩, trivial⟩, hb⟩
  · exact dminus_some b o c v xs ys hx hy lx le w hc sv
end Go.Proofs.YtdcpicbkemmakaaDoor

/- The contract of sealringref.Order: which of two rows of digits is greater, from the last place down. -/
namespace Go.Proofs.YtdcpicbkemmakaaDoor
open Go.RowKit
/-- Which of two numbers is greater. -/
def cmpN (X Y : Nat) : Int := if X < Y then -1 else if Y < X then 1 else 0
theorem cmpN_step (X Y k : Nat) : cmpN (X % 65536 ^ (k + 1)) (Y % 65536 ^ (k + 1)) = if X / 65536 ^ k % 65536 < Y / 65536 ^ k % 65536 then -1 else if Y / 65536 ^ k % 65536 < X / 65536 ^ k % 65536 then 1 else cmpN (X % 65536 ^ k) (Y % 65536 ^ k) := by
  rw [P.mod_pow_succ' X, P.mod_pow_succ' Y]
  have l1 : X % 65536 ^ k < 65536 ^ k := Nat.mod_lt _ (Nat.pow_pos (by decide))
  have l2 : Y % 65536 ^ k < 65536 ^ k := Nat.mod_lt _ (Nat.pow_pos (by decide))
  generalize X / 65536 ^ k % 65536 = x
  generalize Y / 65536 ^ k % 65536 = y
  generalize X % 65536 ^ k = u at *
  generalize Y % 65536 ^ k = v at *
  generalize 65536 ^ k = B at *
  unfold cmpN
  rcases Nat.lt_trichotomy x y with h | h | h
  · have : u + B * x < v + B * y := by
      have h1 : B * (x + 1) ≤ B * y := Nat.mul_le_mul_left B h
      rw [Nat.mul_add, Nat.mul_one] at h1
      omega
    rw [if_pos this, if_pos h]
  · subst h
    rw [if_neg (Nat.lt_irrefl x)]
    simp only [Nat.lt_irrefl, if_false, Nat.add_lt_add_iff_right]
  · have : v + B * y < u + B * x := by
      have h1 : B * (y + 1) ≤ B * x := Nat.mul_le_mul_left B h
      rw [Nat.mul_add, Nat.mul_one] at h1
      omega
    rw [if_neg (by omega), if_pos this, if_neg (by omega), if_pos h]
theorem ret_o {k : IntKind} {a b : Int} (h : b = a) : Ending.returned (.int k a) = .returned (.int k b) := by rw [h]
set_option maxHeartbeats 1000000 in
theorem order_walk (xs ys : List Nat) (hx : P.Dg xs) (hy : P.Dg ys) (n m : Nat) (ax ay : Option Addr) (cx cy : Nat) (M' : Nat) (hM : M' < 4611686018427387904) (hE : ∀ i : Decidable (n < m), @ite Int (n < m) i (m : Int) (n : Int) = M') (w : World) (su : Sl w (.slice ax n cx) xs) (sv : Sl w (.slice ay m cy) ys) :
    Calls Tryd.prog 27 #[.slice ax n cx, .slice ay m cy] w fun e w' => e = .returned (.int .i64 (cmpN (P.dv xs % 65536 ^ M') (P.dv ys % 65536 ^ M'))) ∧ Below w.heap.size w w' := by
  have SU : Hid (Sl w (.slice ax n cx) xs) := su
  have SV : Hid (Sl w (.slice ay m cy) ys) := sv
  clear su sv
  go_enter Tryd.func27, Tryd.ntmps27
  go_wp2_with fail
  go_loopw [5] (fun i w' => ∃ k : Nat, k ≤ M' ∧ i = .int .i64 ((k : Int) - 1) ∧ Hid (cmpN (P.dv xs % 65536 ^ M') (P.dv ys % 65536 ^ M') = cmpN (P.dv xs % 65536 ^ k) (P.dv ys % 65536 ^ k)) ∧ Hid (Below w.heap.size w w')) (fun i _ => (intOf i + 1).toNat)
  case atStart => exact ⟨M', Nat.le_refl _, by go_num, (rfl : cmpN _ _ = cmpN _ _), Below.refl _ _⟩
  case round =>
    obtain ⟨k, hk, rfl, ho, hb⟩ := hrel
    by_cases h0 : 0 < k
    · obtain ⟨k, rfl⟩ : ∃ j, k = j + 1 := ⟨k - 1, by omega⟩
      rw [show ((k + 1 : Nat) : Int) - 1 = k by omega]
      have i0 : (k : Int) ≥ 0 := by omega
      have st : Hid _ := cmpN_step (P.dv xs) (P.dv ys) k
      have dx := P.dig hx k
      have dy := P.dig hy k
      rw [← dx, ← dy] at st
      clear dx dy
      have DX : Hid _ := fun w' h => digit_fun (.slice ax n cx) xs k w' h
      have DY : Hid _ := fun w' h => digit_fun (.slice ay m cy) ys k w' h
      generalize xs.getD k 0 = x at *
      generalize ys.getD k 0 = y at *
      go_wp2_with fail
      refine (DX.out _ (Sl.up (xs := xs) SU.out hb.out)).mono ?_
      rintro e w1 ⟨rfl, hb1⟩
      have b1 : Hid (Below w.heap.size w w1) := hb.out.trans (hb1.mono hb.out.size)
      clear hb1 hb
      go_wp2_with fail
      refine (DY.out _ (Sl.up (xs := ys) SV.out b1.out)).mono ?_
      rintro e w2 ⟨rfl, hb2⟩
      have b2 : Hid (Below w.heap.size w w2) := b1.out.trans (hb2.mono b1.out.size)
      clear hb2 b1
      by_cases h1 : x < y
      · have h1' : (x : Int) < (y : Int) := by omega
        go_wp2_with fail
        go_ret
        exact ⟨ret_o (by rw [ho.out, st.out, if_pos h1]), b2.out⟩
      · have h1' : ¬ (x : Int) < (y : Int) := by omega
        by_cases h2 : y < x
        · have h3 : (x : Int) > (y : Int) := by omega
          go_wp2_with fail
          go_ret
          exact ⟨ret_o (by rw [ho.out, st.out, if_neg h1, if_pos h2]), b2.out⟩
        · have h3 : ¬ (x : Int) > (y : Int) := by omega
          go_wp2_with fail
          refine ⟨⟨k, by omega, rfl, (by rw [ho.out, st.out, if_neg h1, if_neg h2] : cmpN (P.dv xs % 65536 ^ M') (P.dv ys % 65536 ^ M') = cmpN (P.dv xs % 65536 ^ k) (P.dv ys % 65536 ^ k)), b2⟩, by simp [intOf]⟩
    · have hk0 : k = 0 := by omega
      subst hk0
      go_wp2_with fail
      go_ret
      exact ⟨ret_o (by rw [ho.out]; simp [Nat.mod_one, cmpN]), hb.out⟩
theorem order_fun (u v : Value) (xs ys : List Nat) (hx : P.Dg xs) (hy : P.Dg ys) (lx : xs.length < 1073741824) (ly : ys.length < 1073741824) (w : World) (su : Sl w u xs) (sv : Sl w v ys) :
    Calls Tryd.prog 27 #[u, v] w fun e w' => e = .returned (.int .i64 (cmpN (P.dv xs) (P.dv ys))) ∧ Below w.heap.size w w' := by
  obtain ⟨ax, cx, rfl⟩ := su.parts
  obtain ⟨ay, cy, rfl⟩ := sv.parts
  have := order_walk xs ys hx hy _ _ ax ay cx cy (max xs.length ys.length) (by omega) (fun i => by split <;> omega) w su sv
  rwa [P.mod_len hx (by omega), P.mod_len hy (by omega)] at this
end Go.Proofs.YtdcpicbkemmakaaDoor

/- The contract of sealringref.Parts: how often, and what is left. -/
namespace Go.Proofs.YtdcpicbkemmakaaDoor
open Go.RowKit
theorem wp_app2 {ops : Array Oper} {rest : List Oper} {o : Oper} {a : Act} {Q : Exit → Act → World → Prop} {w : World} (hgd : o.guard = none) (s x : Operand)
    (ho : o.op = .call { callee := .builtin .append, args := #[s, x], argTypes := #[33, 33] })
    (B : Nat) (v u : Value) (xs ys : List Nat) (hs : a.eval s = v) (hown : Ow w B v xs) (hx : a.eval x = u) (hsl : Sl w u ys)
    (hl : xs.length < 1099511627776) (hm : ys.length < 1099511627776) (hB : B ≤ w.heap.size) (h : ∀ v' w', Ow w' B v' (xs ++ ys) → Below B w w' → wpList Tryd.prog ops Q rest (a.put o.dst v') w') : wpList Tryd.prog ops Q (o :: rest) a w := by
  obtain ⟨i0, hi, hz0, hz1, hz2⟩ := info_parts Tryd.iInt
  rcases hsl with ⟨rfl, rfl⟩ | ⟨b, of, c, rfl, _, hc⟩
  · refine wpList_append_own_none hgd s x 33 ho B 3 i0 1 Tryd.uInts hi v xs.length (xs.map iv) hs hown hx ?_
    exact h v w (by rw [List.append_nil]; exact hown) (Below.refl _ _)
  · refine wpList_append_own w hgd s x 33 ho B 3 i0 (.int .i64 0) 1 8 Tryd.uInts hi hz0 hz1 hz2 rfl (by decide) v xs.length (xs.map iv) hs hown ⟨b, of, none⟩ ys.length c (ys.map iv) hx (by simp) ?_ ?_ ?_ ?_ hB ?_
    · intro j y hj
      rw [List.getElem?_map] at hj
      rcases Nat.lt_or_ge j ys.length with hlt | hge
      · rw [List.getElem?_eq_getElem hlt] at hj
        simp only [Option.map_some, Option.some.injEq] at hj
        subst hj
        have := hc j hlt
        rw [List.getD_eq_getElem?_getD, List.getElem?_eq_getElem hlt] at this
        by_cases h0 : j = 0
        · subst h0; simpa [Addr.add] using this
        · simpa [Addr.add, h0] using this
      · rw [List.getElem?_eq_none hge] at hj
        cases hj
    · intro y hy
      obtain ⟨z, _, rfl⟩ := List.mem_map.1 hy
      rfl
    · unfold maxLen; omega
    · omega
    · intro v' w' hown' hg _
      refine h v' w' ?_ ?_
      · unfold Ow
        rw [List.map_append, List.length_append]
        exact hown'
      · exact Below.grown (Below.refl _ _) hg hB fun k hk => (hown.lt k hk).1
theorem Ow.one (w : World) (B y : Nat) (z : Int) (hz : z = ((y : Nat) : Int)) (hB : B ≤ w.heap.size) : Ow (w.alloc (.cells #[.int .i64 z] 3)) B (.slice (some ⟨w.heap.size, 0, none⟩) 1 1) [y] := by
  subst hz
  refine ⟨rfl, .inr ⟨w.heap.size, 1, #[iv y], rfl, hB, heap_alloc_new w _, by simp, by unfold maxLen; decide, by simp, by simp⟩⟩
theorem Sl.one (w : World) (y : Nat) (z : Int) (hz : z = ((y : Nat) : Int)) : Sl (w.alloc (.cells #[.int .i64 z] 3)) (.slice (.some ⟨w.heap.size, 0, none⟩) 1 1) [y] := (Ow.one w 0 y z hz (Nat.zero_le _)).sl
theorem quot_step {X M R x k lo : Nat} (hM : 0 < M) (hR : R = X / 65536 ^ (k + 1) % M) (hx : x = X / 65536 ^ k % 65536) (hlo : lo = (x + 65536 * R) / M) :
    X / 65536 ^ k / M = X / 65536 ^ (k + 1) / M * 65536 + lo ∧ X / 65536 ^ k % M = (x + 65536 * R) - M * lo := by
  have e : X / 65536 ^ k = (x + 65536 * R) + M * (X / 65536 ^ (k + 1) / M * 65536) := by
    have h1 : X / 65536 ^ (k + 1) = X / 65536 ^ k / 65536 := by rw [Nat.pow_succ, Nat.div_div_eq_div_mul]
    have h2 := Nat.div_add_mod (X / 65536 ^ (k + 1)) M
    rw [← hR] at h2
    generalize X / 65536 ^ (k + 1) / M = Q at *
    rw [h1] at h2
    generalize X / 65536 ^ k = Z at *
    have h3 : M * (Q * 65536) = 65536 * (M * Q) := by rw [Nat.mul_comm Q, ← Nat.mul_assoc, Nat.mul_comm M, Nat.mul_assoc]
    rw [h3]
    omega
  rw [e]
  constructor
  · rw [Nat.add_mul_div_left _ _ hM, ← hlo, Nat.add_comm]
  · rw [Nat.add_mul_mod_self_left, hlo]
    have := Nat.div_add_mod (x + 65536 * R) M
    omega
theorem dg_len_le {n : Nat} {xs : List Nat} (hx : P.Dg xs) (h : n < P.dv xs) : (P.dg n).length ≤ xs.length := P.dg_len _ (Nat.lt_trans h (P.dv_lt xs hx))
set_option maxRecDepth 20000 in
set_option maxHeartbeats 4000000 in
theorem dparts_fun (u v : Value) (xs ys : List Nat) (hx : P.Dg xs) (hy : P.Dg ys) (hM : 0 < P.dv ys) (lx : xs.length < 1048576) (ly : ys.length < 1048576) (w : World) (su : Sl w u xs) (sv : Sl w v ys) :
    Calls Tryd.prog 56 #[u, v] w fun e w' => (∃ v1 v2, e = .returned (.tuple #[v1, v2]) ∧ Sl w' v1 (P.dg (P.dv xs / P.dv ys)) ∧ Sl w' v2 (P.dg (P.dv xs % P.dv ys))) ∧ Below w.heap.size w w' := by
  obtain ⟨ax, cx, rfl⟩ := su.parts
  have SU : Hid (Sl w (.slice ax xs.length cx) xs) := su
  have SV : Hid (Sl w v ys) := sv
  clear su sv
  obtain ⟨n, hn⟩ : ∃ n, n = xs.length := ⟨_, rfl⟩
  have HN : Hid _ := hn
  rw [← hn] at SU lx ⊢
  clear hn
  have n1 : (n : Int) < 1048576 := by omega
  have TT := fun (mid : Nat) (hm : mid < 65536) (u : Value) w' h h' => dtimes_fun v u ys [mid] hy (P.Dg.one hm) (by omega) (by simp) w' h h'
  go_enter Tryd.func56, Tryd.ntmps56
  go_wp2_with (at_make; refine wp_mk rfl _ _ rfl w.heap.size n _ _ rfl rfl rfl rfl (by omega) (Nat.le_refl _) ?_)
  intro w1 o1 hb1
  have s1 : Hid (Ow w1 w.heap.size (.slice (some ⟨w.heap.size, 0, none⟩) n n) (List.replicate n 0)) := o1
  have b1 : Hid (Below w.heap.size w w1) := hb1
  clear o1 hb1
  go_wp2_with fail
  go_loopw [7, 8] (fun r i wr => ∃ (k : Nat) (os : List Nat), k ≤ n ∧ i = .int .i64 ((k : Int) - 1) ∧ os.length = n ∧ P.Dg os ∧ Hid (∀ j, j < k → os.getD j 0 = 0) ∧ Hid (P.dv os = 65536 ^ k * (P.dv xs / 65536 ^ k / P.dv ys)) ∧
      Hid (Sl wr r (P.dg (P.dv xs / 65536 ^ k % P.dv ys)) ∧ blkGe (w.heap.size + 1) r) ∧ Hid (Ow wr w.heap.size (.slice (some ⟨w.heap.size, 0, none⟩) n n) os) ∧ Hid (Below w.heap.size w wr)) (fun _ i _ => (intOf i + 1).toNat)
  case atStart =>
    have z : P.dv xs / 65536 ^ n = 0 := by rw [HN.out]; exact Nat.div_eq_of_lt (P.dv_lt xs hx)
    refine ⟨n, List.replicate n 0, Nat.le_refl _, by go_num, by simp, fun x hx => ?_, ?_, ?_, ?_, s1, b1⟩
    · rw [List.eq_of_mem_replicate hx]; decide
    · exact (fun j _ => by simp [List.getD_eq_getElem?_getD, List.getElem?_replicate]; split <;> rfl : ∀ j, j < n → (List.replicate n 0).getD j 0 = 0)
    · exact (by rw [P.dv_zeros, z, Nat.zero_div, Nat.mul_zero] : P.dv (List.replicate n 0) = 65536 ^ n * (P.dv xs / 65536 ^ n / P.dv ys))
    · exact (⟨.inl ⟨rfl, by rw [z, Nat.zero_mod, P.dg_zero]⟩, trivial⟩ : Sl w1 (.slice none 0 0) (P.dg (P.dv xs / 65536 ^ n % P.dv ys)) ∧ blkGe (w.heap.size + 1) (.slice none 0 0))
  case round =>
    clear s1 b1
    obtain ⟨k, os, hk, rfl, hlen, hdg, HZ, HV, hr, ho, hb⟩ := hrel
    by_cases h0 : 0 < k
    · obtain ⟨k, rfl⟩ : ∃ j, k = j + 1 := ⟨k - 1, by omega⟩
      rw [show ((k + 1 : Nat) : Int) - 1 = k by omega]
      have i0 : (k : Int) ≥ 0 := by omega
      have i1 : (k : Int) < (n : Int) := by omega
      obtain ⟨bx, ox, hax, hcx⟩ := Sl.some (xs := xs) SU.out (by rw [← HN.out]; omega)
      subst hax
      have c1 : wr.cell? ⟨bx, ox + k, none⟩ = _ := (hb.out.cell (p := ⟨bx, ox + k, none⟩) (lt_of_cell (hcx k (by rw [← HN.out]; omega)))).trans (hcx k (by rw [← HN.out]; omega))
      have xl := P.dig_lt hx k
      have dx := P.dig hx k
      have RL : Hid _ := Nat.mod_lt (P.dv xs / 65536 ^ (k + 1)) hM
      have QS : Hid _ := fun (lo : Nat) (h : lo = _) => quot_step (lo := lo) hM rfl dx h
      clear hcx dx
      generalize xs.getD k 0 = x at *
      generalize P.dv xs / 65536 ^ (k + 1) % P.dv ys = R at *
      have rl : (P.dg R).length ≤ ys.length := dg_len_le hy RL.out
      have WS : w.heap.size < wr.heap.size := Ow.size ho.out
      go_wp2_with (at_builtin; refine wp_app2 rfl _ _ rfl wr.heap.size _ _ [x] (P.dg R) rfl (Ow.one wr wr.heap.size x _ rfl (Nat.le_refl _)) rfl (Sl.up (xs := P.dg R) hr.out.1 ((Below.refl _ _).alloc (Nat.le_refl _) _)) (by simp) (by omega) (by simp) ?_)
      intro v1 w1 o1 hb1
      have O1 : Hid (Sl w1 v1 ([x] ++ P.dg R) ∧ blkGe wr.heap.size v1) := ⟨Ow.sl o1, Ow.ge o1⟩
      have B1 : Hid (Below wr.heap.size wr w1) := ((Below.refl _ _).alloc (Nat.le_refl _) _).trans hb1
      have o1' : Hid (Ow w1 w.heap.size (.slice (some ⟨w.heap.size, 0, none⟩) n n) os) := Ow.up ho.out B1.out
      have b1 : Hid (Below w.heap.size w w1) := hb.out.trans (B1.out.mono hb.out.size)
      have z1 := B1.out.size
      clear o1 hb1 B1 ho hb hr c1
      go_wp2_with fail
      refine (trim_fun2 _ ([x] ++ P.dg R) ((P.Dg.one xl).append (P.dg_Dg R)) (by simp; omega) _ O1.out.1).mono ?_
      rintro e w2 ⟨⟨v2, rfl, hs2, hge⟩, hb2⟩
      have GE : Hid (blkGe (w.heap.size + 1) v2) := (hge _ O1.out.2).mono (by omega)
      have er : P.dv ([x] ++ P.dg R) = x + 65536 * R := by rw [List.cons_append, List.nil_append, P.dv, P.dv_dg]
      rw [er] at hs2
      have HS : Hid (Sl w2 v2 (P.dg (x + 65536 * R))) := hs2
      have o2 : Hid (Ow w2 w.heap.size (.slice (some ⟨w.heap.size, 0, none⟩) n n) os) := Ow.up o1'.out hb2
      have b2 : Hid (Below w.heap.size w w2) := b1.out.trans (hb2.mono b1.out.size)
      have z2 := b2.out.size
      have RB : Hid (x + 65536 * R < P.dv ys * 65536) := (by have := RL.out; omega : x + 65536 * R < P.dv ys * 65536)
      generalize er' : x + 65536 * R = r at *
      clear hs2 hge hb2 O1 o1' b1 er er'
      have yp : P.dv ys < 65536 ^ ys.length := P.dv_lt ys hy
      have LB : Hid (∀ t, t ≤ P.dv ys * 65536 → (P.dg t).length ≤ ys.length + 1) := (fun t ht => P.dg_len _ (Nat.lt_of_le_of_lt ht (by rw [Nat.pow_succ]; omega)) : ∀ t, t ≤ P.dv ys * 65536 → (P.dg t).length ≤ ys.length + 1)
      go_wp2_with fail
      go_loopw [9, 10] (fun lo hi wr' => ∃ (l h : Nat), lo = .int .i64 ((l : Nat) : Int) ∧ hi = .int .i64 ((h : Nat) : Int) ∧ l < h ∧ h ≤ 65536 ∧ Hid (P.dv ys * l ≤ r ∧ r < P.dv ys * h) ∧ Hid (Below w2.heap.size w2 wr')) (fun lo hi _ => (intOf hi - intOf lo).toNat)
      case atStart => exact ⟨0, 65536, rfl, rfl, by omega, by omega, (⟨Nat.zero_le _, RB.out⟩ : P.dv ys * 0 ≤ r ∧ r < P.dv ys * 65536), Below.refl _ _⟩
      case round =>
        obtain ⟨l, h, rfl, rfl, hlh, hh, HI, hb⟩ := hrel
        have l0 : (0 : Int) ≤ (l : Int) := by omega
        have l1 : (l : Int) < (h : Int) := by omega
        have l2 : (h : Int) ≤ 65536 := by omega
        by_cases h1 : h - l > 1
        · have g1 : (h : Int) - (l : Int) > 1 := by omega
          obtain ⟨mid, hmid⟩ : ∃ mid, mid = (l + h) / 2 := ⟨_, rfl⟩
          have md : ((l : Int) + (h : Int)) / 2 = ((mid : Nat) : Int) := by omega
          have m1 : l < mid := by omega
          have m2 : mid < h := by omega
          have HMI : Hid _ := hmid
          clear hmid
          have T1 := TT mid (by omega)
          have d1 : P.dv [mid] = mid := by simp [P.dv]
          rw [d1] at T1
          have bm : P.dv ys * mid ≤ P.dv ys * 65536 := Nat.mul_le_mul_left _ (by omega)
          have lm := LB.out _ bm
          have lr := LB.out r (Nat.le_of_lt RB.out)
          have OF : Hid (∀ (v3 : Value) w', Sl w' v3 (P.dg (P.dv ys * mid)) → Sl w' v2 (P.dg r) → Calls Tryd.prog 27 #[v3, v2] w' fun e w'' => e = .returned (.int .i64 (cmpN (P.dv ys * mid) r)) ∧ Below w'.heap.size w' w'') := by
            intro v3 w' h h'
            have := order_fun v3 v2 (P.dg (P.dv ys * mid)) (P.dg r) (P.dg_Dg _) (P.dg_Dg _) (by omega) (by omega) w' h h'
            rwa [P.dv_dg, P.dv_dg] at this
          clear d1 bm lm lr
          have sv : Sl (wr.alloc (.cells #[.int .i64 ((mid : Nat) : Int)] 3)) v ys := Sl.up (xs := ys) SV.out (((b2.out.trans (hb.out.mono z2)).alloc (by have := hb.out.size; omega) _))
          have SY : Hid _ := sv
          clear sv
          go_wp2_with fail
          refine (T1 _ _ SY.out (Sl.one wr mid _ rfl)).mono ?_
          rintro e w3 ⟨⟨v3, rfl, hs3⟩, hb3⟩
          have S3 : Hid (Sl w3 v3 (P.dg (P.dv ys * mid))) := hs3
          have b3 : Hid (Below w2.heap.size w2 w3) := ((hb.out.alloc hb.out.size _).trans (hb3.mono (by simp; have := hb.out.size; omega)))
          clear hs3 hb3 hb SY
          go_wp2_with fail
          refine (OF.out v3 _ S3.out (Sl.up (xs := P.dg r) HS.out b3.out)).mono ?_
          rintro e w4 ⟨rfl, hb4⟩
          have b4 : Hid (Below w2.heap.size w2 w4) := b3.out.trans (hb4.mono b3.out.size)
          clear hb4 b3 S3
          by_cases hle : P.dv ys * mid ≤ r
          · have hc : cmpN (P.dv ys * mid) r ≤ 0 := by unfold cmpN; split <;> (try split) <;> omega
            have HLE : Hid _ := hle
            generalize cmpN (P.dv ys * mid) r = c at *
            clear hle
            go_wp2_with fail
            go_roundw
            case rel => exact ⟨mid, h, by go_num, rfl, m2, hh, (⟨HLE.out, HI.out.2⟩ : P.dv ys * mid ≤ r ∧ r < P.dv ys * h), b4⟩
            case measure => simp [intOf]; omega
          · have hc : cmpN (P.dv ys * mid) r = 1 := by unfold cmpN; rw [if_neg (by omega), if_pos (by omega)]
            have HLE : Hid _ := hle
            generalize cmpN (P.dv ys * mid) r = c at *
            subst hc
            clear hle OF T1
            go_wp2_with fail
            go_roundw
            case rel => exact ⟨l, mid, rfl, by go_num, m1, by omega, (⟨HI.out.1, Nat.lt_of_not_le HLE.out⟩ : P.dv ys * l ≤ r ∧ r < P.dv ys * mid), b4⟩
            case measure => simp [intOf]; omega
        · have g1 : ¬ (h : Int) - (l : Int) > 1 := by omega
          have hl1 : h = l + 1 := by omega
          have HL1 : Hid _ := hl1
          have l3 : (l : Int) ≤ 65535 := by omega
          have HL : Hid (l = r / P.dv ys) := by
            have := HI.out
            rw [HL1.out] at this
            exact ((Nat.div_eq_of_lt_le (by rw [Nat.mul_comm]; exact this.1) (by rw [Nat.mul_comm]; exact this.2)).symm : l = r / P.dv ys)
          have Q2 : Hid _ := QS.out l HL.out
          have VN : Hid (P.dv (os.set k l) = 65536 ^ k * (P.dv xs / 65536 ^ k / P.dv ys)) := by
            have h2 := P.dv_set (xs := os) (i := k) (v := l) (by omega)
            rw [HZ.out k (by omega), Nat.mul_zero, Nat.add_zero, HV.out, Nat.pow_succ] at h2
            show P.dv (os.set k l) = 65536 ^ k * (P.dv xs / 65536 ^ k / P.dv ys)
            rw [h2, Q2.out.1, Nat.mul_add, Nat.mul_assoc, Nat.mul_comm 65536, ← Nat.pow_succ]
          have ZN : Hid (∀ j, j < k → (os.set k l).getD j 0 = 0) := (fun j hj => by rw [List.getD_eq_getElem?_getD, List.getElem?_set_ne (by omega), ← List.getD_eq_getElem?_getD]; exact HZ.out j (by omega) : ∀ j, j < k → (os.set k l).getD j 0 = 0)
          have LT : Hid (l < 65536) := (by omega : l < 65536)
          clear hl1
          by_cases hl0 : 0 < l
          · have g2 : (l : Int) > 0 := by omega
            have T1 := TT l (by omega)
            have d1 : P.dv [l] = l := by simp [P.dv]
            rw [d1] at T1
            have lr := LB.out r (Nat.le_of_lt RB.out)
            have MF : Hid (∀ (v3 : Value) w', Sl w' v2 (P.dg r) → Sl w' v3 (P.dg (P.dv ys * l)) → Calls Tryd.prog 73 #[v2, v3] w' fun e w'' => (∃ v', e = .returned v' ∧ Sl w'' v' (P.dg (P.dv xs / 65536 ^ k % P.dv ys)) ∧ blkGe w'.heap.size v') ∧ Below w'.heap.size w' w'') := by
              intro v3 w' h h'
              have := dminus_fun2 v2 v3 (P.dg r) (P.dg (P.dv ys * l)) (P.dg_Dg _) (P.dg_Dg _) (by omega) (by rw [P.dv_dg, P.dv_dg]; exact HI.out.1) w' h h'
              rw [P.dv_dg, P.dv_dg, ← Q2.out.2] at this
              exact this
            clear d1 lr
            have sv : Sl (wr.alloc (.cells #[.int .i64 ((l : Nat) : Int)] 3)) v ys := Sl.up (xs := ys) SV.out (((b2.out.trans (hb.out.mono z2)).alloc (by have := hb.out.size; omega) _))
            have SY : Hid _ := sv
            clear sv
            have T2 : Hid _ := T1
            clear T1 TT l1 l2 hlh hh
            go_wp2_with fail
            refine (T2.out _ _ SY.out (Sl.one wr l _ rfl)).mono ?_
            rintro e w3 ⟨⟨v3, rfl, hs3⟩, hb3⟩
            have S3 : Hid (Sl w3 v3 (P.dg (P.dv ys * l))) := hs3
            have b3 : Hid (Below w2.heap.size w2 w3) := ((hb.out.alloc hb.out.size _).trans (hb3.mono (by simp; have := hb.out.size; omega)))
            clear hs3 hb3 hb SY
            go_wp2_with fail
            refine (MF.out v3 _ (Sl.up (xs := P.dg r) HS.out b3.out) S3.out).mono ?_
            rintro e w4 ⟨⟨v4, rfl, hs4, hg4⟩, hb4⟩
            have b4 : Hid (Below w2.heap.size w2 w4) := b3.out.trans (hb4.mono b3.out.size)
            have G4 : Hid (blkGe (w.heap.size + 1) v4) := hg4.mono (by have := Ow.size o2.out; have := b3.out.size; omega)
            have S4 : Hid _ := hs4
            have o4 : Hid (Ow w4 w.heap.size (.slice (some ⟨w.heap.size, 0, none⟩) n n) os) := Ow.up o2.out b4.out
            obtain ⟨c3, c4⟩ := Ow.cell o4.out hlen.symm k (by omega)
            have SN : Hid _ := Ow.set o4.out hlen.symm (Nat.le_refl _) k l (l : Int) rfl
            have b5 : Hid (Below w.heap.size w w4) := b2.out.trans (b4.out.mono z2)
            clear hs4 hg4 hb4 b3 S3 b4
            go_wp2_with fail
            go_roundw
            case rel => exact ⟨k, os.set k l, by omega, by go_num, by rw [List.length_set]; exact hlen, hdg.set LT.out, ZN, VN, (⟨Sl.set_ne S4.out G4.out, G4.out⟩ : Sl _ v4 (P.dg (P.dv xs / 65536 ^ k % P.dv ys)) ∧ blkGe (w.heap.size + 1) v4), SN.out.1, b5.out.trans SN.out.2⟩
            case measure => simp [intOf]
          · have l0 : l = 0 := by omega
            subst l0
            have h1' : h = 1 := HL1.out
            subst h1'
            have S4 : Hid (Sl wr v2 (P.dg (P.dv xs / 65536 ^ k % P.dv ys))) := by
              rw [Q2.out.2, Nat.mul_zero, Nat.sub_zero]
              exact Sl.up (xs := P.dg r) HS.out hb.out
            have o4 : Hid (Ow wr w.heap.size (.slice (some ⟨w.heap.size, 0, none⟩) n n) os) := Ow.up o2.out hb.out
            obtain ⟨c3, c4⟩ := Ow.cell o4.out hlen.symm k (by omega)
            have SN : Hid _ := Ow.set o4.out hlen.symm (Nat.le_refl _) k 0 0 rfl
            have b5 : Hid (Below w.heap.size w wr) := b2.out.trans (hb.out.mono z2)
            clear hb
            go_wp2_with fail
            go_roundw
            case rel => exact ⟨k, os.set k 0, by omega, by go_num, by rw [List.length_set]; exact hlen, hdg.set (by decide), ZN, VN, (⟨Sl.set_ne S4.out GE.out, GE.out⟩ : Sl _ v2 (P.dg (P.dv xs / 65536 ^ k % P.dv ys)) ∧ blkGe (w.heap.size + 1) v2), SN.out.1, b5.out.trans SN.out.2⟩
            case measure => simp [intOf]
    · have k0 : k = 0 := by omega
      subst k0
      rw [show ((0 : Nat) : Int) - 1 = -1 by omega]
      have VV : Hid (P.dv os = P.dv xs / P.dv ys) := by
        have h := HV.out
        rw [Nat.pow_zero, Nat.one_mul, Nat.div_one] at h
        exact h
      have RR : Hid (Sl wr u7 (P.dg (P.dv xs % P.dv ys))) := by
        have h := hr.out.1
        rw [Nat.pow_zero, Nat.div_one] at h
        exact h
      go_wp2_with fail
      refine (trim_fun _ os hdg (by omega) _ (Ow.sl ho.out)).mono ?_
      rintro e w1 ⟨⟨v', rfl, hs⟩, hb1⟩
      have b1 : Hid (Below w.heap.size w w1) := hb.out.trans (hb1.mono hb.out.size)
      have HS : Hid _ := hs
      have R1 : Hid (Sl w1 u7 (P.dg (P.dv xs % P.dv ys))) := Sl.up (xs := P.dg (P.dv xs % P.dv ys)) RR.out hb1
      clear hs hb1 hb ho RR hr
      go_wp2_with fail
      refine bodyPost_ret (v := .tuple #[v', u7]) (by simp [results, Tryd.results56, go_sem]) rfl ⟨⟨v', u7, rfl, by rw [← VV.out]; exact HS.out, R1.out⟩, b1.out⟩
end Go.Proofs.YtdcpicbkemmakaaDoor

/- The contract of sealringref.Rest. -/
namespace Go.Proofs.YtdcpicbkemmakaaDoor
open Go.RowKit
set_option maxHeartbeats 400000 in
theorem drest_fun (u v : Value) (xs ys : List Nat) (hx : P.Dg xs) (hy : P.Dg ys) (hM : 0 < P.dv ys) (lx : xs.length < 1048576) (ly : ys.length < 1048576) (w : World) (su : Sl w u xs) (sv : Sl w v ys) :
    Calls Tryd.prog 34 #[u, v] w fun e w' => (∃ v', e = .returned v' ∧ Sl w' v' (P.dg (P.dv xs % P.dv ys))) ∧ Below w.heap.size w w' := by
  have D : Hid _ := dparts_fun u v xs ys hx hy hM lx ly w su sv
  clear su sv
  go_enter Tryd.func34, Tryd.ntmps34
  go_wp2_with fail
  refine Calls.mono D.out ?_
  rintro e w1 ⟨⟨v1, v2, rfl, h1, h2⟩, hb1⟩
  have H2 : Hid _ := h2
  have B1 : Hid _ := hb1
  clear h1 h2 hb1
  go_wp2_with fail
  go_ret
  exact ⟨⟨v2, rfl, H2.out⟩, B1.out⟩
end Go.Proofs.YtdcpicbkemmakaaDoor

/- The contracts of sealringref.TwoTo (at 256) and Bits. -/
namespace Go.Proofs.YtdcpicbkemmakaaDoor
open Go.RowKit
end Go.Proofs.YtdcpicbkemmakaaDoor

/- The contract of sealringref.Power. -/
namespace Go.Proofs.YtdcpicbkemmakaaDoor
open Go.RowKit
set_option linter.unusedSimpArgs false
theorem dshort {n : Nat} (h : n < 65536 ^ 64) : (P.dg n).length < 1048576 := Nat.lt_of_le_of_lt (P.dg_len 64 h) (by decide)
theorem rest_n (X M : Nat) (hX : X < 65536 ^ 64) (hM : 0 < M) (hM2 : M < 65536 ^ 64) (u v : Value) (w : World) (su : Sl w u (P.dg X)) (sv : Sl w v (P.dg M)) :
    Calls Tryd.prog 34 #[u, v] w fun e w' => (∃ v', e = .returned v' ∧ Sl w' v' (P.dg (X % M))) ∧ Below w.heap.size w w' := by
  have := drest_fun u v _ _ (P.dg_Dg X) (P.dg_Dg M) (by rw [P.dv_dg]; exact hM) (dshort hX) (dshort hM2) w su sv
  rwa [P.dv_dg, P.dv_dg] at this
theorem times_n (X Y : Nat) (hX : X < 65536 ^ 64) (hY : Y < 65536 ^ 64) (u v : Value) (w : World) (su : Sl w u (P.dg X)) (sv : Sl w v (P.dg Y)) :
    Calls Tryd.prog 33 #[u, v] w fun e w' => (∃ v', e = .returned v' ∧ Sl w' v' (P.dg (X * Y))) ∧ Below w.heap.size w w' := by
  have := dtimes_fun u v _ _ (P.dg_Dg X) (P.dg_Dg Y) (Nat.lt_trans (dshort hX) (by decide)) (Nat.lt_trans (dshort hY) (by decide)) w su sv
  rwa [P.dv_dg, P.dv_dg] at this
end Go.Proofs.YtdcpicbkemmakaaDoor

/- The contract of sealringref.Plus: the sum. -/
namespace Go.Proofs.YtdcpicbkemmakaaDoor
open Go.RowKit
theorem sum_step {X Y o k cy x y : Nat} (h : o + 65536 ^ k * cy = X % 65536 ^ k + Y % 65536 ^ k) (hx : x = X / 65536 ^ k % 65536) (hy : y = Y / 65536 ^ k % 65536) :
    o + 65536 ^ k * ((cy + (x + y)) % 65536) + 65536 ^ (k + 1) * ((cy + (x + y)) / 65536) = X % 65536 ^ (k + 1) + Y % 65536 ^ (k + 1) := by
  rw [P.mod_pow_succ' X, P.mod_pow_succ' Y, ← hx, ← hy, Nat.pow_succ]
  have := Nat.div_add_mod (cy + (x + y)) 65536
  generalize (cy + (x + y)) / 65536 = q at *
  generalize (cy + (x + y)) % 65536 = r at *
  generalize 65536 ^ k = B at *
  generalize X % B = u at *
  generalize Y % B = v at *
  have e : B * 65536 * q + B * r = B * cy + B * x + B * y := by rw [Nat.mul_assoc, ← Nat.mul_add, this]; grind
  omega
set_option maxHeartbeats 2000000 in
theorem dplus_fun (u v : Value) (xs ys : List Nat) (hx : P.Dg xs) (hy : P.Dg ys) (lx : xs.length < 1073741824) (ly : ys.length < 1073741824) (w : World) (su : Sl w u xs) (sv : Sl w v ys) :
    Calls Tryd.prog 32 #[u, v] w fun e w' => (∃ v', e = .returned v' ∧ Sl w' v' (P.dg (P.dv xs + P.dv ys))) ∧ Below w.heap.size w w' := by
  obtain ⟨ax, cx, rfl⟩ := su.parts
  obtain ⟨ay, cy', rfl⟩ := sv.parts
  have SU : Hid (Sl w (.slice ax xs.length cx) xs) := su
  have SV : Hid (Sl w (.slice ay ys.length cy') ys) := sv
  clear su sv
  obtain ⟨mx, hmx⟩ : ∃ mx, mx = max xs.length ys.length := ⟨_, rfl⟩
  have m1 : xs.length ≤ mx := by omega
  have m2 : ys.length ≤ mx := by omega
  have m3 : mx < 1073741824 := by omega
  clear hmx
  go_enter Tryd.func32, Tryd.ntmps32
  go_wp2_with fail
  go_loopw [5, 6, 7] (fun o c i wr => ∃ (k : Nat) (os : List Nat) (cy : Nat), k ≤ mx + 1 ∧ i = .int .i64 k ∧ c = .int .i64 ((cy : Nat) : Int) ∧ cy ≤ 1 ∧ (mx < k → cy = 0) ∧ os.length = k ∧ P.Dg os ∧
      Hid (P.dv os + 65536 ^ k * cy = P.dv xs % 65536 ^ k + P.dv ys % 65536 ^ k) ∧ Hid (Ow wr w.heap.size o os) ∧ Hid (Below w.heap.size w wr)) (fun _ _ i _ => mx + 1 - (intOf i).toNat)
  case atStart => exact ⟨0, [], 0, by omega, rfl, rfl, by omega, by omega, rfl, fun x hx => (by cases hx), (by simp [P.dv, Nat.mod_one] : P.dv [] + 65536 ^ 0 * 0 = P.dv xs % 65536 ^ 0 + P.dv ys % 65536 ^ 0), Ow.nil _ _, Below.refl _ _⟩
  case round =>
    obtain ⟨k, os, c, hk, rfl, rfl, hc1, hc0, hlen, hdg, HV, ho, hb⟩ := hrel
    by_cases h1 : k < xs.length
    · have i1 : (k : Int) < (xs.length : Int) := by omega
      have xl := P.dig_lt hx k
      have yl := P.dig_lt hy k
      have zx : xs.length ≤ k → xs.getD k 0 = 0 := fun h => by simp [h]
      have zy : ys.length ≤ k → ys.getD k 0 = 0 := fun h => by simp [h]
      have ZX : Hid _ := And.intro zx zy
      clear zx zy
      have dx := P.dig hx k
      have dy := P.dig hy k
      have DX : Hid _ := fun w' h => digit_fun (.slice ax xs.length cx) xs k w' h
      have DY : Hid _ := fun w' h => digit_fun (.slice ay ys.length cy') ys k w' h
      have ST : Hid _ := sum_step HV.out dx dy
      generalize xs.getD k 0 = x at *
      generalize ys.getD k 0 = y at *
      clear dx dy
      have x0 : (0 : Int) ≤ (x : Int) := by omega
      have x1 : (x : Int) ≤ 65535 := by omega
      have y0 : (0 : Int) ≤ (y : Int) := by omega
      have y1 : (y : Int) ≤ 65535 := by omega
      go_wp2_with fail
      refine (DX.out _ (Sl.up (xs := xs) SU.out hb.out)).mono ?_
      rintro e w1 ⟨rfl, hb1⟩
      have o1 : Hid (Ow w1 w.heap.size _ os) := Ow.up ho.out hb1
      have b1 : Hid (Below w.heap.size w w1) := hb.out.trans (hb1.mono hb.out.size)
      clear hb1 hb ho
      go_wp2_with fail
      refine (DY.out _ (Sl.up (xs := ys) SV.out b1.out)).mono ?_
      rintro e w2 ⟨rfl, hb2⟩
      have o2 : Hid (Ow w2 w.heap.size _ os) := Ow.up o1.out hb2
      have b2 : Hid (Below w.heap.size w w2) := b1.out.trans (hb2.mono b1.out.size)
      clear hb2 b1 o1
      have tm : ((c : Int) + ((x : Int) + (y : Int))) % 65536 = (((c + (x + y)) % 65536 : Nat) : Int) := by omega
      have TM : Hid _ := tm
      clear tm
      go_wp2_with (at_builtin; refine wp_app rfl _ _ rfl w.heap.size _ os ((c + (x + y)) % 65536) _ w2 rfl o2.out ((Below.refl _ _).alloc (Nat.le_refl _) _) ⟨w2.heap.size, 0, none⟩ rfl (by simp) TM.out (by omega) b2.out.size ?_)
      intro v' w3 o3 hb3
      have O3 : Hid _ := o3
      have b3 : Hid (Below w.heap.size w w3) := b2.out.trans hb3
      clear o3 hb3 o2 b2
      go_wp2_with fail
      go_roundw
      case rel =>
        obtain ⟨zx, zy⟩ := ZX.out
        refine ⟨k + 1, os ++ [(c + (x + y)) % 65536], (c + (x + y)) / 65536, by omega, by go_num, congrArg (Value.int .i64) (by omega), by omega, by omega, by simp [hlen], hdg.append (P.Dg.one (Nat.mod_lt _ (by decide))), ?_, O3, b3⟩
        show P.dv (os ++ [(c + (x + y)) % 65536]) + 65536 ^ (k + 1) * ((c + (x + y)) / 65536) = _
        rw [P.dv_append, hlen, P.dv, P.dv, Nat.mul_zero, Nat.add_zero]
        exact ST.out
      case measure => simp [intOf]; omega
    · have i1 : ¬ (k : Int) < (xs.length : Int) := by omega
      by_cases h2 : k < ys.length
      · have i2 : (k : Int) < (ys.length : Int) := by omega
        have xl := P.dig_lt hx k
        have yl := P.dig_lt hy k
        have zx : xs.length ≤ k → xs.getD k 0 = 0 := fun h => by simp [h]
        have zy : ys.length ≤ k → ys.getD k 0 = 0 := fun h => by simp [h]
        have ZX : Hid _ := And.intro zx zy
        clear zx zy
        have dx := P.dig hx k
        have dy := P.dig hy k
        have DX : Hid _ := fun w' h => digit_fun (.slice ax xs.length cx) xs k w' h
        have DY : Hid _ := fun w' h => digit_fun (.slice ay ys.length cy') ys k w' h
        have ST : Hid _ := sum_step HV.out dx dy
        generalize xs.getD k 0 = x at *
        generalize ys.getD k 0 = y at *
        clear dx dy
        have x0 : (0 : Int) ≤ (x : Int) := by omega
        have x1 : (x : Int) ≤ 65535 := by omega
        have y0 : (0 : Int) ≤ (y : Int) := by omega
        have y1 : (y : Int) ≤ 65535 := by omega
        go_wp2_with fail
        refine (DX.out _ (Sl.up (xs := xs) SU.out hb.out)).mono ?_
        rintro e w1 ⟨rfl, hb1⟩
        have o1 : Hid (Ow w1 w.heap.size _ os) := Ow.up ho.out hb1
        have b1 : Hid (Below w.heap.size w w1) := hb.out.trans (hb1.mono hb.out.size)
        clear hb1 hb ho
        go_wp2_with fail
        refine (DY.out _ (Sl.up (xs := ys) SV.out b1.out)).mono ?_
        rintro e w2 ⟨rfl, hb2⟩
        have o2 : Hid (Ow w2 w.heap.size _ os) := Ow.up o1.out hb2
        have b2 : Hid (Below w.heap.size w w2) := b1.out.trans (hb2.mono b1.out.size)
        clear hb2 b1 o1
        have tm : ((c : Int) + ((x : Int) + (y : Int))) % 65536 = (((c + (x + y)) % 65536 : Nat) : Int) := by omega
        have TM : Hid _ := tm
        clear tm
        go_wp2_with (at_builtin; refine wp_app rfl _ _ rfl w.heap.size _ os ((c + (x + y)) % 65536) _ w2 rfl o2.out ((Below.refl _ _).alloc (Nat.le_refl _) _) ⟨w2.heap.size, 0, none⟩ rfl (by simp) TM.out (by omega) b2.out.size ?_)
        intro v' w3 o3 hb3
        have O3 : Hid _ := o3
        have b3 : Hid (Below w.heap.size w w3) := b2.out.trans hb3
        clear o3 hb3 o2 b2
        go_wp2_with fail
        go_roundw
        case rel =>
          obtain ⟨zx, zy⟩ := ZX.out
          refine ⟨k + 1, os ++ [(c + (x + y)) % 65536], (c + (x + y)) / 65536, by omega, by go_num, congrArg (Value.int .i64) (by omega), by omega, by omega, by simp [hlen], hdg.append (P.Dg.one (Nat.mod_lt _ (by decide))), ?_, O3, b3⟩
          show P.dv (os ++ [(c + (x + y)) % 65536]) + 65536 ^ (k + 1) * ((c + (x + y)) / 65536) = _
          rw [P.dv_append, hlen, P.dv, P.dv, Nat.mul_zero, Nat.add_zero]
          exact ST.out
        case measure => simp [intOf]; omega
      · have i2 : ¬ (k : Int) < (ys.length : Int) := by omega
        by_cases h3 : 0 < c
        · have i3 : (c : Int) > 0 := by omega
          have xl := P.dig_lt hx k
          have yl := P.dig_lt hy k
          have zx : xs.length ≤ k → xs.getD k 0 = 0 := fun h => by simp [h]
          have zy : ys.length ≤ k → ys.getD k 0 = 0 := fun h => by simp [h]
          have ZX : Hid _ := And.intro zx zy
          clear zx zy
          have dx := P.dig hx k
          have dy := P.dig hy k
          have DX : Hid _ := fun w' h => digit_fun (.slice ax xs.length cx) xs k w' h
          have DY : Hid _ := fun w' h => digit_fun (.slice ay ys.length cy') ys k w' h
          have ST : Hid _ := sum_step HV.out dx dy
          generalize xs.getD k 0 = x at *
          generalize ys.getD k 0 = y at *
          clear dx dy
          have x0 : (0 : Int) ≤ (x : Int) := by omega
          have x1 : (x : Int) ≤ 65535 := by omega
          have y0 : (0 : Int) ≤ (y : Int) := by omega
          have y1 : (y : Int) ≤ 65535 := by omega
          go_wp2_with fail
          refine (DX.out _ (Sl.up (xs := xs) SU.out hb.out)).mono ?_
          rintro e w1 ⟨rfl, hb1⟩
          have o1 : Hid (Ow w1 w.heap.size _ os) := Ow.up ho.out hb1
          have b1 : Hid (Below w.heap.size w w1) := hb.out.trans (hb1.mono hb.out.size)
          clear hb1 hb ho
          go_wp2_with fail
          refine (DY.out _ (Sl.up (xs := ys) SV.out b1.out)).mono ?_
          rintro e w2 ⟨rfl, hb2⟩
          have o2 : Hid (Ow w2 w.heap.size _ os) := Ow.up o1.out hb2
          have b2 : Hid (Below w.heap.size w w2) := b1.out.trans (hb2.mono b1.out.size)
          clear hb2 b1 o1
          have tm : ((c : Int) + ((x : Int) + (y : Int))) % 65536 = (((c + (x + y)) % 65536 : Nat) : Int) := by omega
          have TM : Hid _ := tm
          clear tm
          go_wp2_with (at_builtin; refine wp_app rfl _ _ rfl w.heap.size _ os ((c + (x + y)) % 65536) _ w2 rfl o2.out ((Below.refl _ _).alloc (Nat.le_refl _) _) ⟨w2.heap.size, 0, none⟩ rfl (by simp) TM.out (by omega) b2.out.size ?_)
          intro v' w3 o3 hb3
          have O3 : Hid _ := o3
          have b3 : Hid (Below w.heap.size w w3) := b2.out.trans hb3
          clear o3 hb3 o2 b2
          go_wp2_with fail
          go_roundw
          case rel =>
            obtain ⟨zx, zy⟩ := ZX.out
            refine ⟨k + 1, os ++ [(c + (x + y)) % 65536], (c + (x + y)) / 65536, by omega, by go_num, congrArg (Value.int .i64) (by omega), by omega, by omega, by simp [hlen], hdg.append (P.Dg.one (Nat.mod_lt _ (by decide))), ?_, O3, b3⟩
            show P.dv (os ++ [(c + (x + y)) % 65536]) + 65536 ^ (k + 1) * ((c + (x + y)) / 65536) = _
            rw [P.dv_append, hlen, P.dv, P.dv, Nat.mul_zero, Nat.add_zero]
            exact ST.out
          case measure => simp [intOf]; omega
        · have i3 : ¬ (c : Int) > 0 := by omega
          have c0 : c = 0 := by omega
          subst c0
          have V : Hid (P.dv os = P.dv xs + P.dv ys) := by
            have := HV.out
            rw [Nat.mul_zero, Nat.add_zero, P.mod_len hx (by omega), P.mod_len hy (by omega)] at this
            exact this
          go_wp2_with fail
          refine (trim_fun _ os hdg (by omega) _ (Ow.sl ho.out)).mono ?_
          rintro e w1 ⟨⟨v', rfl, hs⟩, hb1⟩
          have b1 : Hid (Below w.heap.size w w1) := hb.out.trans (hb1.mono hb.out.size)
          have HS : Hid _ := hs
          clear hs hb1 hb ho
          go_wp2_with fail
          go_ret
          exact ⟨⟨v', rfl, by rw [← V.out]; exact HS.out⟩, b1.out⟩
end Go.Proofs.YtdcpicbkemmakaaDoor

/- The contracts of sealringref's numbers, told by numbers; TwoTo at whatever place. -/
namespace Go.Proofs.YtdcpicbkemmakaaDoor
open Go.RowKit
set_option linter.unusedSimpArgs false
theorem plus_n (X Y : Nat) (hX : X < 65536 ^ 64) (hY : Y < 65536 ^ 64) (u v : Value) (w : World) (su : Sl w u (P.dg X)) (sv : Sl w v (P.dg Y)) :
    Calls Tryd.prog 32 #[u, v] w fun e w' => (∃ v', e = .returned v' ∧ Sl w' v' (P.dg (X + Y))) ∧ Below w.heap.size w w' := by
  have := dplus_fun u v _ _ (P.dg_Dg X) (P.dg_Dg Y) (Nat.lt_trans (dshort hX) (by decide)) (Nat.lt_trans (dshort hY) (by decide)) w su sv
  rwa [P.dv_dg, P.dv_dg] at this
theorem order_n (X Y : Nat) (hX : X < 65536 ^ 64) (hY : Y < 65536 ^ 64) (u v : Value) (w : World) (su : Sl w u (P.dg X)) (sv : Sl w v (P.dg Y)) :
    Calls Tryd.prog 27 #[u, v] w fun e w' => e = .returned (.int .i64 (cmpN X Y)) ∧ Below w.heap.size w w' := by
  have := order_fun u v _ _ (P.dg_Dg X) (P.dg_Dg Y) (Nat.lt_trans (dshort hX) (by decide)) (Nat.lt_trans (dshort hY) (by decide)) w su sv
  rwa [P.dv_dg, P.dv_dg] at this
theorem dg_twoTo (n : Nat) : (List.replicate (n / 16 + 1) 0).set (n / 16) (2 ^ (n % 16)) = P.dg (2 ^ n) := by
  have e : (List.replicate (n / 16 + 1) 0).set (n / 16) (2 ^ (n % 16)) = List.replicate (n / 16) 0 ++ [2 ^ (n % 16)] := by
    rw [List.replicate_succ', List.set_append_right _ _ (by simp)]
    simp
  have lt : 2 ^ (n % 16) < 65536 := Nat.pow_lt_pow_right (a := 2) (n := 16) (by decide) (Nat.mod_lt _ (by decide))
  have hv : P.dv (List.replicate (n / 16) 0 ++ [2 ^ (n % 16)]) = 2 ^ n := by
    rw [P.dv_append, P.dv_zeros, Nat.zero_add, List.length_replicate]
    show 65536 ^ (n / 16) * (2 ^ (n % 16) + 65536 * 0) = _
    rw [Nat.mul_zero, Nat.add_zero, show (65536 : Nat) = 2 ^ 16 from rfl, ← Nat.pow_mul, ← Nat.pow_add, Nat.div_add_mod]
  rw [e, ← hv]
  refine P.eq_dg _ (fun x hx => ?_) (.inr ?_)
  · rcases List.mem_append.1 hx with h | h
    · rw [(List.mem_replicate.1 h).2]; decide
    · rw [List.mem_singleton.1 h]; exact lt
  · have : 0 < 2 ^ (n % 16) := Nat.two_pow_pos _
    simp [List.getD_eq_getElem?_getD]
set_option maxHeartbeats 1000000 in
theorem twoTo_n (n : Nat) (hn : n ≤ 100000) (w : World) :
    Calls Tryd.prog 52 #[.int .i64 (n : Int)] w fun e w' => (∃ v', e = .returned v' ∧ Sl w' v' (P.dg (2 ^ n))) ∧ Below w.heap.size w w' := by
  have HD : Hid _ := dg_twoTo n
  obtain ⟨q, hq⟩ : ∃ q, q = n / 16 := ⟨_, rfl⟩
  obtain ⟨r, hr⟩ : ∃ r, r = n % 16 := ⟨_, rfl⟩
  rw [← hq, ← hr] at HD
  have wq : (n : Int).tdiv 16 = (q : Int) := by rw [Int.tdiv_eq_ediv_of_nonneg (by omega)]; omega
  have wq' : (n : Int) / 16 = (q : Int) := by omega
  have wr : (n : Int).tmod 16 = (r : Int) := by rw [Int.tmod_eq_emod_of_nonneg (by omega)]; omega
  have wr' : (n : Int) % 16 = (r : Int) := by omega
  have wz : IntKind.i64.wrap (q : Int) = (q : Int) := by rw [IntKind.wrap_i64]; omega
  have r16 : r < 16 := by omega
  have q1 : q ≤ 6250 := by omega
  have hw : wrap64 ((2 : Int) ^ r) = ((2 ^ r : Nat) : Int) := by
    have := Nat.pow_le_pow_right (n := 2) (by decide) (show r ≤ 16 by omega)
    rw [show ((2 : Int) ^ r) = ((2 ^ r : Nat) : Int) by simp]
    generalize 2 ^ r = z at *
    unfold wrap64
    omega
  clear hq hr
  go_enter Tryd.func52, Tryd.ntmps52
  go_wp2_with (at_make; refine wp_mk rfl _ _ rfl w.heap.size (q + 1) _ _ rfl rfl (by omega) (by omega) (by omega) (Nat.le_refl _) ?_)
  intro w1 o1 hb1
  have s1 : Hid (Ow w1 w.heap.size (.slice (some ⟨w.heap.size, 0, none⟩) (q + 1) (q + 1)) (List.replicate (q + 1) 0)) := o1
  have b1 : Hid (Below w.heap.size w w1) := hb1
  clear o1 hb1
  obtain ⟨c3, c4⟩ := Ow.cell s1.out (by simp) q (by simp)
  have SS : Hid _ := Ow.set s1.out (by simp) (Nat.le_refl _) q (2 ^ r) ((2 ^ r : Nat) : Int) rfl
  have i1 : (q : Int) < (q : Int) + 1 := by omega
  generalize hz : 2 ^ r = z at *
  go_wp2_with fail
  go_ret
  refine ⟨⟨_, rfl, ?_⟩, b1.out.trans SS.out.2⟩
  rw [← HD.out]
  exact Ow.sl SS.out.1
end Go.Proofs.YtdcpicbkemmakaaDoor
