/- Texts that were joined: DRest, DBits, DPow, DPlus, DNumP. -/
import Derived.Test.YtdcpicbkemmakaaDoorQDMinusToDParts
import Derived.Test.YtdcpicbkemmakaaDoorQNumToDTimes
import Derived.Laws.Bits64
import Derived.Laws.Bits64b
/- The contract of sealringref.Rest. -/
namespace Go.Proofs.YtdcpicbkemmakaaDoor
open Go.RowKit
set_option maxHeartbeats 400000 in
theorem drest_fun (u v : Value) (xs ys : List Nat) (hx : P.Dg xs) (hy : P.Dg ys) (hM : 0 < P.dv ys) (lx : xs.length < 1048576) (ly : ys.length < 1048576) (w : World) (su : Sl w u xs) (sv : Sl w v ys) :
    Calls Tryd.prog 34 #[u, v] w fun e w' => (∃ v', e = .returned v' ∧ Sl w' v' (P.dg (P.dv xs % P.dv ys))) ∧ Below w.heap.size w w' := by
  have D : Hid _ := dparts_fun u v xs ys hx hy hM lx ly w su sv
  clear su sv
  go_enter Tryd.func34, Tryd.ntmps34
  go_wp2_with fail
  refine Calls.mono D.out ?_
  rintro e w1 ⟨⟨v1, v2, rfl, h1, h2⟩, hb1⟩
  have H2 : Hid _ := h2
  have B1 : Hid _ := hb1
  clear h1 h2 hb1
  go_wp2_with fail
  go_ret
  exact ⟨⟨v2, rfl, H2.out⟩, B1.out⟩
end Go.Proofs.YtdcpicbkemmakaaDoor

/- The contracts of sealringref.TwoTo (at 256) and Bits. -/
namespace Go.Proofs.YtdcpicbkemmakaaDoor
open Go.RowKit
end Go.Proofs.YtdcpicbkemmakaaDoor

/- The contract of sealringref.Power. -/
namespace Go.Proofs.YtdcpicbkemmakaaDoor
open Go.RowKit
set_option linter.unusedSimpArgs false
theorem dshort {n : Nat} (h : n < 65536 ^ 64) : (P.dg n).length < 1048576 := Nat.lt_of_le_of_lt (P.dg_len 64 h) (by decide)
theorem rest_n (X M : Nat) (hX : X < 65536 ^ 64) (hM : 0 < M) (hM2 : M < 65536 ^ 64) (u v : Value) (w : World) (su : Sl w u (P.dg X)) (sv : Sl w v (P.dg M)) :
    Calls Tryd.prog 34 #[u, v] w fun e w' => (∃ v', e = .returned v' ∧ Sl w' v' (P.dg (X % M))) ∧ Below w.heap.size w w' := by
  have := drest_fun u v _ _ (P.dg_Dg X) (P.dg_Dg M) (by rw [P.dv_dg]; exact hM) (dshort hX) (dshort hM2) w su sv
  rwa [P.dv_dg, P.dv_dg] at this
theorem times_n (X Y : Nat) (hX : X < 65536 ^ 64) (hY : Y < 65536 ^ 64) (u v : Value) (w : World) (su : Sl w u (P.dg X)) (sv : Sl w v (P.dg Y)) :
    Calls Tryd.prog 33 #[u, v] w fun e w' => (∃ v', e = .returned v' ∧ Sl w' v' (P.dg (X * Y))) ∧ Below w.heap.size w w' := by
  have := dtimes_fun u v _ _ (P.dg_Dg X) (P.dg_Dg Y) (Nat.lt_trans (dshort hX) (by decide)) (Nat.lt_trans (dshort hY) (by decide)) w su sv
  rwa [P.dv_dg, P.dv_dg] at this
end Go.Proofs.YtdcpicbkemmakaaDoor

/- The contract of sealringref.Plus: the sum. -/
namespace Go.Proofs.YtdcpicbkemmakaaDoor
open Go.RowKit
theorem sum_step {X Y o k cy x y : Nat} (h : o + 65536 ^ k * cy = X % 65536 ^ k + Y % 65536 ^ k) (hx : x = X / 65536 ^ k % 65536) (hy : y = Y / 65536 ^ k % 65536) :
    o + 65536 ^ k * ((cy + (x + y)) % 65536) + 65536 ^ (k + 1) * ((cy + (x + y)) / 65536) = X % 65536 ^ (k + 1) + Y % 65536 ^ (k + 1) := by
  rw [P.mod_pow_succ' X, P.mod_pow_succ' Y, ← hx, ← hy, Nat.pow_succ]
  have := Nat.div_add_mod (cy + (x + y)) 65536
  generalize (cy + (x + y)) / 65536 = q at *
  generalize (cy + (x + y)) % 65536 = r at *
  generalize 65536 ^ k = B at *
  generalize X % B = u at *
  generalize Y % B = v at *
  have e : B * 65536 * q + B * r = B * cy + B * x + B * y := by rw [Nat.mul_assoc, ← Nat.mul_add, this]; grind
  omega
set_option maxHeartbeats 2000000 in
theorem dplus_fun (u v : Value) (xs ys : List Nat) (hx : P.Dg xs) (hy : P.Dg ys) (lx : xs.length < 1073741824) (ly : ys.length < 1073741824) (w : World) (su : Sl w u xs) (sv : Sl w v ys) :
    Calls Tryd.prog 32 #[u, v] w fun e w' => (∃ v', e = .returned v' ∧ Sl w' v' (P.dg (P.dv xs + P.dv ys))) ∧ Below w.heap.size w w' := by
  obtain ⟨ax, cx, rfl⟩ := su.parts
  obtain ⟨ay, cy', rfl⟩ := sv.parts
  have SU : Hid (Sl w (.slice ax xs.length cx) xs) := su
  have SV : Hid (Sl w (.slice ay ys.length cy') ys) := sv
  clear su sv
  obtain ⟨mx, hmx⟩ : ∃ mx, mx = max xs.length ys.length := ⟨_, rfl⟩
  have m1 : xs.length ≤ mx := by omega
  have m2 : ys.length ≤ mx := by omega
  have m3 : mx < 1073741824 := by omega
  clear hmx
  go_enter Tryd.func32, Tryd.ntmps32
  go_wp2_with fail
  go_loopw [5, 6, 7] (fun o c i wr => ∃ (k : Nat) (os : List Nat) (cy : Nat), k ≤ mx + 1 ∧ i = .int .i64 k ∧ c = .int .i64 ((cy : Nat) : Int) ∧ cy ≤ 1 ∧ (mx < k → cy = 0) ∧ os.length = k ∧ P.Dg os ∧
      Hid (P.dv os + 65536 ^ k * cy = P.dv xs % 65536 ^ k + P.dv ys % 65536 ^ k) ∧ Hid (Ow wr w.heap.size o os) ∧ Hid (Below w.heap.size w wr)) (fun _ _ i _ => mx + 1 - (intOf i).toNat)
  case atStart => exact ⟨0, [], 0, by omega, rfl, rfl, by omega, by omega, rfl, fun x hx => (by cases hx), (by simp [P.dv, Nat.mod_one] : P.dv [] + 65536 ^ 0 * 0 = P.dv xs % 65536 ^ 0 + P.dv ys % 65536 ^ 0), Ow.nil _ _, Below.refl _ _⟩
  case round =>
    obtain ⟨k, os, c, hk, rfl, rfl, hc1, hc0, hlen, hdg, HV, ho, hb⟩ := hrel
    by_cases h1 : k < xs.length
    · have i1 : (k : Int) < (xs.length : Int) := by omega
      have xl := P.dig_lt hx k
      have yl := P.dig_lt hy k
      have zx : xs.length ≤ k → xs.getD k 0 = 0 := fun h => by simp [h]
      have zy : ys.length ≤ k → ys.getD k 0 = 0 := fun h => by simp [h]
      have ZX : Hid _ := And.intro zx zy
      clear zx zy
      have dx := P.dig hx k
      have dy := P.dig hy k
      have DX : Hid _ := fun w' h => digit_fun (.slice ax xs.length cx) xs k w' h
      have DY : Hid _ := fun w' h => digit_fun (.slice ay ys.length cy') ys k w' h
      have ST : Hid _ := sum_step HV.out dx dy
      generalize xs.getD k 0 = x at *
      generalize ys.getD k 0 = y at *
      clear dx dy
      have x0 : (0 : Int) ≤ (x : Int) := by omega
      have x1 : (x : Int) ≤ 65535 := by omega
      have y0 : (0 : Int) ≤ (y : Int) := by omega
      have y1 : (y : Int) ≤ 65535 := by omega
      go_wp2_with fail
      refine (DX.out _ (Sl.up (xs := xs) SU.out hb.out)).mono ?_
      rintro e w1 ⟨rfl, hb1⟩
      have o1 : Hid (Ow w1 w.heap.size _ os) := Ow.up ho.out hb1
      have b1 : Hid (Below w.heap.size w w1) := hb.out.trans (hb1.mono hb.out.size)
      clear hb1 hb ho
      go_wp2_with fail
      refine (DY.out _ (Sl.up (xs := ys) SV.out b1.out)).mono ?_
      rintro e w2 ⟨rfl, hb2⟩
      have o2 : Hid (Ow w2 w.heap.size _ os) := Ow.up o1.out hb2
      have b2 : Hid (Below w.heap.size w w2) := b1.out.trans (hb2.mono b1.out.size)
      clear hb2 b1 o1
      have tm : ((c : Int) + ((x : Int) + (y : Int))) % 65536 = (((c + (x + y)) % 65536 : Nat) : Int) := by omega
      have TM : Hid _ := tm
      clear tm
      go_wp2_with (at_builtin; refine wp_app rfl _ _ rfl w.heap.size _ os ((c + (x + y)) % 65536) _ w2 rfl o2.out ((Below.refl _ _).alloc (Nat.le_refl _) _) ⟨w2.heap.size, 0, none⟩ rfl (by simp) TM.out (by omega) b2.out.size ?_)
      intro v' w3 o3 hb3
      have O3 : Hid _ := o3
      have b3 : Hid (Below w.heap.size w w3) := b2.out.trans hb3
      clear o3 hb3 o2 b2
      go_wp2_with fail
      go_roundw
      case rel =>
        obtain ⟨zx, zy⟩ := ZX.out
        refine ⟨k + 1, os ++ [(c + (x + y)) % 65536], (c + (x + y)) / 65536, by omega, by go_num, congrArg (Value.int .i64) (by omega), by omega, by omega, by simp [hlen], hdg.append (P.Dg.one (Nat.mod_lt _ (by decide))), ?_, O3, b3⟩
        show P.dv (os ++ [(c + (x + y)) % 65536]) + 65536 ^ (k + 1) * ((c + (x + y)) / 65536) = _
        rw [P.dv_append, hlen, P.dv, P.dv, Nat.mul_zero, Nat.add_zero]
        exact ST.out
      case measure => simp [intOf]; omega
    · have i1 : ¬ (k : Int) < (xs.length : Int) := by omega
      by_cases h2 : k < ys.length
      · have i2 : (k : Int) < (ys.length : Int) := by omega
        have xl := P.dig_lt hx k
        have yl := P.dig_lt hy k
        have zx : xs.length ≤ k → xs.getD k 0 = 0 := fun h => by simp [h]
        have zy : ys.length ≤ k → ys.getD k 0 = 0 := fun h => by simp [h]
        have ZX : Hid _ := And.intro zx zy
        clear zx zy
        have dx := P.dig hx k
        have dy := P.dig hy k
        have DX : Hid _ := fun w' h => digit_fun (.slice ax xs.length cx) xs k w' h
        have DY : Hid _ := fun w' h => digit_fun (.slice ay ys.length cy') ys k w' h
        have ST : Hid _ := sum_step HV.out dx dy
        generalize xs.getD k 0 = x at *
        generalize ys.getD k 0 = y at *
        clear dx dy
        have x0 : (0 : Int) ≤ (x : Int) := by omega
        have x1 : (x : Int) ≤ 65535 := by omega
        have y0 : (0 : Int) ≤ (y : Int) := by omega
        have y1 : (y : Int) ≤ 65535 := by omega
        go_wp2_with fail
        refine (DX.out _ (Sl.up (xs := xs) SU.out hb.out)).mono ?_
        rintro e w1 ⟨rfl, hb1⟩
        have o1 : Hid (Ow w1 w.heap.size _ os) := Ow.up ho.out hb1
        have b1 : Hid (Below w.heap.size w w1) := hb.out.trans (hb1.mono hb.out.size)
        clear hb1 hb ho
        go_wp2_with fail
        refine (DY.out _ (Sl.up (xs := ys) SV.out b1.out)).mono ?_
        rintro e w2 ⟨rfl, hb2⟩
        have o2 : Hid (Ow w2 w.heap.size _ os) := Ow.up o1.out hb2
        have b2 : Hid (Below w.heap.size w w2) := b1.out.trans (hb2.mono b1.out.size)
        clear hb2 b1 o1
        have tm : ((c : Int) + ((x : Int) + (y : Int))) % 65536 = (((c + (x + y)) % 65536 : Nat) : Int) := by omega
        have TM : Hid _ := tm
        clear tm
        go_wp2_with (at_builtin; refine wp_app rfl _ _ rfl w.heap.size _ os ((c + (x + y)) % 65536) _ w2 rfl o2.out ((Below.refl _ _).alloc (Nat.le_refl _) _) ⟨w2.heap.size, 0, none⟩ rfl (by simp) TM.out (by omega) b2.out.size ?_)
        intro v' w3 o3 hb3
        have O3 : Hid _ := o3
        have b3 : Hid (Below w.heap.size w w3) := b2.out.trans hb3
        clear o3 hb3 o2 b2
        go_wp2_with fail
        go_roundw
        case rel =>
          obtain ⟨zx, zy⟩ := ZX.out
          refine ⟨k + 1, os ++ [(c + (x + y)) % 65536], (c + (x + y)) / 65536, by omega, by go_num, congrArg (Value.int .i64) (by omega), by omega, by omega, by simp [hlen], hdg.append (P.Dg.one (Nat.mod_lt _ (by decide))), ?_, O3, b3⟩
          show P.dv (os ++ [(c + (x + y)) % 65536]) + 65536 ^ (k + 1) * ((c + (x + y)) / 65536) = _
          rw [P.dv_append, hlen, P.dv, P.dv, Nat.mul_zero, Nat.add_zero]
          exact ST.out
        case measure => simp [intOf]; omega
      · have i2 : ¬ (k : Int) < (ys.length : Int) := by omega
        by_cases h3 : 0 < c
        · have i3 : (c : Int) > 0 := by omega
          have xl := P.dig_lt hx k
          have yl := P.dig_lt hy k
          have zx : xs.length ≤ k → xs.getD k 0 = 0 := fun h => by simp [h]
          have zy : ys.length ≤ k → ys.getD k 0 = 0 := fun h => by simp [h]
          have ZX : Hid _ := And.intro zx zy
          clear zx zy
          have dx := P.dig hx k
          have dy := P.dig hy k
          have DX : Hid _ := fun w' h => digit_fun (.slice ax xs.length cx) xs k w' h
          have DY : Hid _ := fun w' h => digit_fun (.slice ay ys.length cy') ys k w' h
          have ST : Hid _ := sum_step HV.out dx dy
          generalize xs.getD k 0 = x at *
          generalize ys.getD k 0 = y at *
          clear dx dy
          have x0 : (0 : Int) ≤ (x : Int) := by omega
          have x1 : (x : Int) ≤ 65535 := by omega
          have y0 : (0 : Int) ≤ (y : Int) := by omega
          have y1 : (y : Int) ≤ 65535 := by omega
          go_wp2_with fail
          refine (DX.out _ (Sl.up (xs := xs) SU.out hb.out)).mono ?_
          rintro e w1 ⟨rfl, hb1⟩
          have o1 : Hid (Ow w1 w.heap.size _ os) := Ow.up ho.out hb1
          have b1 : Hid (Below w.heap.size w w1) := hb.out.trans (hb1.mono hb.out.size)
          clear hb1 hb ho
          go_wp2_with fail
          refine (DY.out _ (Sl.up (xs := ys) SV.out b1.out)).mono ?_
          rintro e w2 ⟨rfl, hb2⟩
          have o2 : Hid (Ow w2 w.heap.size _ os) := Ow.up o1.out hb2
          have b2 : Hid (Below w.heap.size w w2) := b1.out.trans (hb2.mono b1.out.size)
          clear hb2 b1 o1
          have tm : ((c : Int) + ((x : Int) + (y : Int))) % 65536 = (((c + (x + y)) % 65536 : Nat) : Int) := by omega
          have TM : Hid _ := tm
          clear tm
          go_wp2_with (at_builtin; refine wp_app rfl _ _ rfl w.heap.size _ os ((c + (x + y)) % 65536) _ w2 rfl o2.out ((Below.refl _ _).alloc (Nat.le_refl _) _) ⟨w2.heap.size, 0, none⟩ rfl (by simp) TM.out (by omega) b2.out.size ?_)
          intro v' w3 o3 hb3
          have O3 : Hid _ := o3
          have b3 : Hid (Below w.heap.size w w3) := b2.out.trans hb3
          clear o3 hb3 o2 b2
          go_wp2_with fail
          go_roundw
          case rel =>
            obtain ⟨zx, zy⟩ := ZX.out
            refine ⟨k + 1, os ++ [(c + (x + y)) % 65536], (c + (x + y)) / 65536, by omega, by go_num, congrArg (Value.int .i64) (by omega), by omega, by omega, by simp [hlen], hdg.append (P.Dg.one (Nat.mod_lt _ (by decide))), ?_, O3, b3⟩
            show P.dv (os ++ [(c + (x + y)) % 65536]) + 65536 ^ (k + 1) * ((c + (x + y)) / 65536) = _
            rw [P.dv_append, hlen, P.dv, P.dv, Nat.mul_zero, Nat.add_zero]
            exact ST.out
          case measure => simp [intOf]; omega
        · have i3 : ¬ (c : Int) > 0 := by omega
          have c0 : c = 0 := by omega
          subst c0
          have V : Hid (P.dv os = P.dv xs + P.dv ys) := by
            have := HV.out
            rw [Nat.mul_zero, Nat.add_zero, P.mod_len hx (by omega), P.mod_len hy (by omega)] at this
            exact this
          go_wp2_with fail
          refine (trim_fun _ os hdg (by omega) _ (Ow.sl ho.out)).mono ?_
          rintro e w1 ⟨⟨v', rfl, hs⟩, hb1⟩
          have b1 : Hid (Below w.heap.size w w1) := hb.out.trans (hb1.mono hb.out.size)
          have HS : Hid _ := hs
          clear hs hb1 hb ho
          go_wp2_with fail
          go_ret
          exact ⟨⟨v', rfl, by rw [← V.out]; exact HS.out⟩, b1.out⟩
end Go.Proofs.YtdcpicbkemmakaaDoor

/- The contracts of sealringref's numbers, told by numbers; TwoTo at whatever place. -/
namespace Go.Proofs.YtdcpicbkemmakaaDoor
open Go.RowKit
set_option linter.unusedSimpArgs false
theorem plus_n (X Y : Nat) (hX : X < 65536 ^ 64) (hY : Y < 65536 ^ 64) (u v : Value) (w : World) (su : Sl w u (P.dg X)) (sv : Sl w v (P.dg Y)) :
    Calls Tryd.prog 32 #[u, v] w fun e w' => (∃ v', e = .returned v' ∧ Sl w' v' (P.dg (X + Y))) ∧ Below w.heap.size w w' := by
  have := dplus_fun u v _ _ (P.dg_Dg X) (P.dg_Dg Y) (Nat.lt_trans (dshort hX) (by decide)) (Nat.lt_trans (dshort hY) (by decide)) w su sv
  rwa [P.dv_dg, P.dv_dg] at this
theorem order_n (X Y : Nat) (hX : X < 65536 ^ 64) (hY : Y < 65536 ^ 64) (u v : Value) (w : World) (su : Sl w u (P.dg X)) (sv : Sl w v (P.dg Y)) :
    Calls Tryd.prog 27 #[u, v] w fun e w' => e = .returned (.int .i64 (cmpN X Y)) ∧ Below w.heap.size w w' := by
  have := order_fun u v _ _ (P.dg_Dg X) (P.dg_Dg Y) (Nat.lt_trans (dshort hX) (by decide)) (Nat.lt_trans (dshort hY) (by decide)) w su sv
  rwa [P.dv_dg, P.dv_dg] at this
theorem dg_twoTo (n : Nat) : (List.replicate (n / 16 + 1) 0).set (n / 16) (2 ^ (n % 16)) = P.dg (2 ^ n) := by
  have e : (List.replicate (n / 16 + 1) 0).set (n / 16) (2 ^ (n % 16)) = List.replicate (n / 16) 0 ++ [2 ^ (n % 16)] := by
    rw [List.replicate_succ', List.set_append_right _ _ (by simp)]
    simp
  have lt : 2 ^ (n % 16) < 65536 := Nat.pow_lt_pow_right (a := 2) (n := 16) (by decide) (Nat.mod_lt _ (by decide))
  have hv : P.dv (List.replicate (n / 16) 0 ++ [2 ^ (n % 16)]) = 2 ^ n := by
    rw [P.dv_append, P.dv_zeros, Nat.zero_add, List.length_replicate]
    show 65536 ^ (n / 16) * (2 ^ (n % 16) + 65536 * 0) = _
    rw [Nat.mul_zero, Nat.add_zero, show (65536 : Nat) = 2 ^ 16 from rfl, ← Nat.pow_mul, ← Nat.pow_add, Nat.div_add_mod]
  rw [e, ← hv]
  refine P.eq_dg _ (fun x hx => ?_) (.inr ?_)
  · rcases List.mem_append.1 hx with h | h
    · rw [(List.mem_replicate.1 h).2]; decide
    · rw [List.mem_singleton.1 h]; exact lt
  · have : 0 < 2 ^ (n % 16) := Nat.two_pow_pos _
    simp [List.getD_eq_getElem?_getD]
set_option maxHeartbeats 1000000 in
theorem twoTo_n (n : Nat) (hn : n ≤ 100000) (w : World) :
    Calls Tryd.prog 52 #[.int .i64 (n : Int)] w fun e w' => (∃ v', e = .returned v' ∧ Sl w' v' (P.dg (2 ^ n))) ∧ Below w.heap.size w w' := by
  have HD : Hid _ := dg_twoTo n
  obtain ⟨q, hq⟩ : ∃ q, q = n / 16 := ⟨_, rfl⟩
  obtain ⟨r, hr⟩ : ∃ r, r = n % 16 := ⟨_, rfl⟩
  rw [← hq, ← hr] at HD
  have wq : (n : Int).tdiv 16 = (q : Int) := by rw [Int.tdiv_eq_ediv_of_nonneg (by omega)]; omega
  have wq' : (n : Int) / 16 = (q : Int) := by omega
  have wr : (n : Int).tmod 16 = (r : Int) := by rw [Int.tmod_eq_emod_of_nonneg (by omega)]; omega
  have wr' : (n : Int) % 16 = (r : Int) := by omega
  have wz : IntKind.i64.wrap (q : Int) = (q : Int) := by rw [IntKind.wrap_i64]; omega
  have r16 : r < 16 := by omega
  have q1 : q ≤ 6250 := by omega
  have hw : wrap64 ((2 : Int) ^ r) = ((2 ^ r : Nat) : Int) := by
    have := Nat.pow_le_pow_right (n := 2) (by decide) (show r ≤ 16 by omega)
    rw [show ((2 : Int) ^ r) = ((2 ^ r : Nat) : Int) by simp]
    generalize 2 ^ r = z at *
    unfold wrap64
    omega
  clear hq hr
  go_enter Tryd.func52, Tryd.ntmps52
  go_wp2_with (at_make; refine wp_mk rfl _ _ rfl w.heap.size (q + 1) _ _ rfl rfl (by omega) (by omega) (by omega) (Nat.le_refl _) ?_)
  intro w1 o1 hb1
  have s1 : Hid (Ow w1 w.heap.size (.slice (some ⟨w.heap.size, 0, none⟩) (q + 1) (q + 1)) (List.replicate (q + 1) 0)) := o1
  have b1 : Hid (Below w.heap.size w w1) := hb1
  clear o1 hb1
  obtain ⟨c3, c4⟩ := Ow.cell s1.out (by simp) q (by simp)
  have SS : Hid _ := Ow.set s1.out (by simp) (Nat.le_refl _) q (2 ^ r) ((2 ^ r : Nat) : Int) rfl
  have i1 : (q : Int) < (q : Int) + 1 := by omega
  generalize hz : 2 ^ r = z at *
  go_wp2_with fail
  go_ret
  refine ⟨⟨_, rfl, ?_⟩, b1.out.trans SS.out.2⟩
  rw [← HD.out]
  exact Ow.sl SS.out.1
end Go.Proofs.YtdcpicbkemmakaaDoor
