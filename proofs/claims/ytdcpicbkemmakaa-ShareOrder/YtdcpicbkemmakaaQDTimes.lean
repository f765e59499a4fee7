/- The contract of sealringref.Times: the product. -/
import Derived.Test.YtdcpicbkemmakaaQDMathToDigO
import Derived.Test.YtdcpicbkemmakaaQUpA
import Derived.Laws.MakeOwn
namespace Go.Proofs.Ytdcpicbkemmakaa
open Go.RowKit
theorem made_zeros (n : Nat) : (madeCells (Value.int .i64 0).cells (n * 1)).toList = (List.replicate n 0).map iv := by
  refine List.ext_getElem (by simp [madeCells]) fun i h1 h2 => ?_
  simp [madeCells, Value.cells, Nat.mod_one]
theorem wp_mk {ops : Array Oper} {rest : List Oper} {o : Oper} {a : Act} {Q : Exit → Act → World → Prop} {w : World} (hg : o.guard = none) (l c : Operand) (hop : o.op = Op.makeSlice 37 l c)
    (B n : Nat) (L C : Int) (hl : a.eval l = .int .i64 L) (hc : a.eval c = .int .i64 C) (hL : L = (n : Int)) (hC : C = (n : Int)) (hn : n < 1099511627776) (hB : B ≤ w.heap.size)
    (h : ∀ w', Ow w' B (.slice (some ⟨w.heap.size, 0, none⟩) n n) (List.replicate n 0) → Below B w w' → wpList Try.prog ops Q rest (a.put o.dst (.slice (some ⟨w.heap.size, 0, none⟩) n n)) w') : wpList Try.prog ops Q (o :: rest) a w := by
  obtain ⟨i0, hi, hz0, hz1, hz2⟩ := info_parts Try.iInt
  refine wpList_make_full w hg l c 37 hop B 3 i0 (.int .i64 0) 1 Try.uInts hi hz0 hz1 .i64 .i64 L C n hl hc hL hC (by rw [hz2]; omega) (by unfold maxLen; omega) hB ?_
  intro w' r1 r2
  refine h w' ?_ (Below.grown (Below.refl _ _) r2 hB (fun k hk => by cases hk))
  unfold Ow
  rw [← made_zeros, List.length_replicate]
  exact r1
theorem Ow.cell {w : World} {B g n c : Nat} {xs : List Nat} (h : Ow w B (.slice (some ⟨g, 0, none⟩) n c) xs) (hn : n = xs.length) (j : Nat) (hj : j < xs.length) : w.cell? ⟨g, j, none⟩ = some (.int .i64 ((xs.getD j 0 : Nat) : Int)) ∧ w.frozen? ⟨g, j, none⟩ = false := by
  subst hn
  have h2 : w.ownsRow B 3 1 (.slice (some ⟨g, 0, none⟩) xs.length c) xs.length (xs.map iv) := h
  refine ⟨?_, h2.frozenAt j⟩
  rw [h2.cellAt j (by omega)]
  simp [hj, iv]
theorem Ow.set {w : World} {B g n c : Nat} {xs : List Nat} (h : Ow w B (.slice (some ⟨g, 0, none⟩) n c) xs) (hn : n = xs.length) (hg : B ≤ g) (j y : Nat) (z : Int) (hz : z = ((y : Nat) : Int)) : Ow (w.setCell ⟨g, j, none⟩ (.int .i64 z)) B (.slice (some ⟨g, 0, none⟩) n c) (xs.set j y) ∧ Below B w (w.setCell ⟨g, j, none⟩ (.int .i64 z)) := by
  subst hn hz
  have h2 : w.ownsRow B 3 1 (.slice (some ⟨g, 0, none⟩) xs.length c) xs.length (xs.map iv) := h
  refine ⟨?_, (Below.refl _ _).setCell hg _⟩
  have := (h2.stored j (iv y)).1
  unfold Ow
  rw [List.length_set, List.map_set]
  exact this
theorem Sl.some {w : World} {a : Option Addr} {n c : Nat} {xs : List Nat} (h : Sl w (.slice a n c) xs) (hl : 0 < xs.length) : ∃ b o, a = .some ⟨b, o, none⟩ ∧ ∀ j, j < xs.length → w.cell? ⟨b, o + j, none⟩ = .some (.int .i64 ((xs.getD j 0 : Nat) : Int)) := by
  rcases h with ⟨_, rfl⟩ | ⟨b, o, c', e, _, hc⟩
  · simp at hl
  · simp only [Value.slice.injEq] at e
    exact ⟨b, o, e.1, hc⟩
theorem mul_step {X Y D O k q cy o x y : Nat} (h : D + 65536 ^ (k + q) * cy = X % 65536 ^ k * Y + 65536 ^ k * x * (Y % 65536 ^ q)) (hy : y = Y / 65536 ^ q % 65536) (hO : O + 65536 ^ (k + q) * o = D + 65536 ^ (k + q) * ((cy + (o + x * y)) % 65536)) :
    O + 65536 ^ (k + (q + 1)) * ((cy + (o + x * y)) / 65536) = X % 65536 ^ k * Y + 65536 ^ k * x * (Y % 65536 ^ (q + 1)) := by
  rw [P.mod_pow_succ' Y, ← hy, ← Nat.add_assoc, Nat.pow_succ, Nat.mul_add]
  have t := Nat.div_add_mod (cy + (o + x * y)) 65536
  rw [show 65536 ^ k * x * (65536 ^ q * y) = 65536 ^ (k + q) * (x * y) by rw [Nat.pow_add]; grind]
  generalize 65536 ^ (k + q) = B at *
  generalize 65536 ^ k * x * (Y % 65536 ^ q) = R at *
  generalize X % 65536 ^ k * Y = S at *
  generalize x * y = p at *
  generalize (cy + (o + p)) / 65536 = u at *
  generalize (cy + (o + p)) % 65536 = v at *
  have e : B * 65536 * u + B * v = B * cy + B * o + B * p := by rw [Nat.mul_assoc, ← Nat.mul_add, t]; grind
  omega
theorem prod_bound {x y : Nat} (hx : x < 65536) (hy : y < 65536) : x * y ≤ 4294836225 := Nat.mul_le_mul (Nat.le_of_lt_succ hx) (Nat.le_of_lt_succ hy)
set_option maxHeartbeats 4000000 in
theorem dtimes_fun (u v : Value) (xs ys : List Nat) (hx : P.Dg xs) (hy : P.Dg ys) (lx : xs.length < 1073741824) (ly : ys.length < 1073741824) (w : World) (su : Sl w u xs) (sv : Sl w v ys) :
    Calls Try.prog 23 #[u, v] w fun e w' => (∃ v', e = .returned v' ∧ Sl w' v' (P.dg (P.dv xs * P.dv ys))) ∧ Below w.heap.size w w' := by
  obtain ⟨ax, cx, rfl⟩ := su.parts
  obtain ⟨ay, cy', rfl⟩ := sv.parts
  have SU : Hid (Sl w (.slice ax xs.length cx) xs) := su
  have SV : Hid (Sl w (.slice ay ys.length cy') ys) := sv
  clear su sv
  obtain ⟨n, hn⟩ : ∃ n, n = xs.length := ⟨_, rfl⟩
  obtain ⟨m, hm⟩ : ∃ m, m = ys.length := ⟨_, rfl⟩
  have HN : Hid _ := hn
  have HM : Hid _ := hm
  rw [← hn] at SU lx ⊢
  rw [← hm] at SV ly ⊢
  clear hn hm
  have n1 : (n : Int) < 1073741824 := by omega
  have m1 : (m : Int) < 1073741824 := by omega
  go_enter Try.func23, Try.ntmps23
  go_wp2_with (at_make; refine wp_mk rfl _ _ rfl w.heap.size (n + m) _ _ rfl rfl (by omega) (by omega) (by omega) (Nat.le_refl _) ?_)
  intro w1 o1 hb1
  have s1 : Hid (Ow w1 w.heap.size (.slice (some ⟨w.heap.size, 0, none⟩) (n + m) (n + m)) (List.replicate (n + m) 0)) := o1
  have b1 : Hid (Below w.heap.size w w1) := hb1
  clear o1 hb1
  go_wp2_with fail
  go_loopw [17] (fun i wr => ∃ (k : Nat) (os : List Nat), k ≤ n ∧ i = .int .i64 k ∧ os.length = n + m ∧ P.Dg os ∧ Hid (∀ j, k + m ≤ j → os.getD j 0 = 0) ∧ Hid (P.dv os = P.dv xs % 65536 ^ k * P.dv ys) ∧
      Hid (Ow wr w.heap.size (.slice (some ⟨w.heap.size, 0, none⟩) (n + m) (n + m)) os) ∧ Hid (Below w.heap.size w wr)) (fun i _ => n - (intOf i).toNat)
  case atStart =>
    refine ⟨0, List.replicate (n + m) 0, by omega, rfl, by simp, fun x hx => ?_, ?_, ?_, s1, b1⟩
    · rw [List.eq_of_mem_replicate hx]; decide
    · exact (fun j _ => by simp [List.getD_eq_getElem?_getD, List.getElem?_replicate]; split <;> rfl : ∀ j, 0 + m ≤ j → (List.replicate (n + m) 0).getD j 0 = 0)
    · exact (by rw [P.dv_zeros, Nat.pow_zero, Nat.mod_one, Nat.zero_mul] : P.dv (List.replicate (n + m) 0) = P.dv xs % 65536 ^ 0 * P.dv ys)
  case round =>
    clear s1 b1
    obtain ⟨k, os, hk, rfl, hlen, hdg, HZ, HV, ho, hb⟩ := hrel
    by_cases h1 : k < n
    · have i1 : (k : Int) < (n : Int) := by omega
      have i0 : (0 : Int) ≤ (k : Int) := by omega
      go_wp2_with fail
      go_loopw [7, 22] (fun c i wr' => ∃ (q cy : Nat) (os' : List Nat), q ≤ m ∧ i = .int .i64 q ∧ c = .int .i64 ((cy : Nat) : Int) ∧ cy < 65536 ∧ os'.length = n + m ∧ P.Dg os' ∧ Hid (∀ j, k + m ≤ j → os'.getD j 0 = 0) ∧
          Hid (P.dv os' + 65536 ^ (k + q) * cy = P.dv xs % 65536 ^ k * P.dv ys + 65536 ^ k * xs.getD k 0 * (P.dv ys % 65536 ^ q)) ∧
          Hid (Ow wr' w.heap.size (.slice (some ⟨w.heap.size, 0, none⟩) (n + m) (n + m)) os') ∧ Hid (Below w.heap.size w wr')) (fun _ i _ => m - (intOf i).toNat)
      case atStart => exact ⟨0, 0, os, by omega, rfl, rfl, by omega, hlen, hdg, HZ, (by rw [HV.out, Nat.pow_zero, Nat.mod_one, Nat.mul_zero, Nat.mul_zero] : P.dv os + 65536 ^ (k + 0) * 0 = P.dv xs % 65536 ^ k * P.dv ys + 65536 ^ k * xs.getD k 0 * (P.dv ys % 65536 ^ 0)), ho, hb⟩
      case round =>
        clear ho hb HV hdg hlen HZ
        obtain ⟨q, cy, os, hq, rfl, rfl, hcy, hlen, hdg, HZ, HV, ho, hb⟩ := hrel
        by_cases h2 : q < m
        · have j1 : (q : Int) < (m : Int) := by omega
          have j0 : (0 : Int) ≤ (q : Int) := by omega
          obtain ⟨bx, ox, hax, hcx⟩ := Sl.some (xs := xs) SU.out (by rw [← HN.out]; omega)
          obtain ⟨by', oy, hay, hcy'⟩ := Sl.some (xs := ys) SV.out (by rw [← HM.out]; omega)
          subst hax hay
          have c1 : wr.cell? ⟨bx, ox + k, none⟩ = _ := (hb.out.cell (p := ⟨bx, ox + k, none⟩) (lt_of_cell (hcx k (by rw [← HN.out]; exact h1)))).trans (hcx k (by rw [← HN.out]; exact h1))
          have c2 : wr.cell? ⟨by', oy + q, none⟩ = _ := (hb.out.cell (p := ⟨by', oy + q, none⟩) (lt_of_cell (hcy' q (by rw [← HM.out]; exact h2)))).trans (hcy' q (by rw [← HM.out]; exact h2))
          obtain ⟨c3, c4⟩ := Ow.cell ho.out hlen.symm (k + q) (by omega)
          have xl := P.dig_lt hx k
          have yl := P.dig_lt hy q
          have ol := P.dig_lt hdg (k + q)
          have dy := P.dig hy q
          have DS : Hid _ := fun (z : Nat) => P.dv_set (xs := os) (i := k + q) (v := z) (by omega)
          have ST : Hid _ := fun O h => mul_step (O := O) (o := os.getD (k + q) 0) HV.out dy h
          clear hcx hcy' dy
          generalize xs.getD k 0 = x at *
          generalize ys.getD q 0 = y at *
          generalize os.getD (k + q) 0 = z at *
          have pl := prod_bound xl yl
          have p1 : ((x * y : Nat) : Int) ≤ 4294836225 := by omega
          have p0 : (0 : Int) ≤ ((x * y : Nat) : Int) := by omega
          rw [Int.natCast_mul] at p0 p1
          have x0 : (0 : Int) ≤ (x : Int) := by omega
          have x1 : (x : Int) ≤ 65535 := by omega
          have y0 : (0 : Int) ≤ (y : Int) := by omega
          have y1 : (y : Int) ≤ 65535 := by omega
          have z0 : (0 : Int) ≤ (z : Int) := by omega
          have z1 : (z : Int) ≤ 65535 := by omega
          have k0 : (0 : Int) ≤ (cy : Int) := by omega
          have k1 : (cy : Int) ≤ 65535 := by omega
          go_wp2_with fail
          have kq : ((k : Int) + (q : Int)).toNat = k + q := by omega
          have kq1 : (k : Int) + (q : Int) < (n : Int) + (m : Int) := by omega
          refine wp_region_up (by kernel_rfl) (by kernel_rfl) (fun U hU f hf hcl => ?_)
          have C1 : ∀ n', (f n').cell? ⟨bx, ox + k, none⟩ = some (.int .i64 (x : Int)) := fun n' => ((hf n').out.cell (p := ⟨bx, ox + k, none⟩) (lt_of_cell c1)).trans c1
          have C2 : ∀ n', (f n').cell? ⟨by', oy + q, none⟩ = some (.int .i64 (y : Int)) := fun n' => ((hf n').out.cell (p := ⟨by', oy + q, none⟩) (lt_of_cell c2)).trans c2
          have C3 : ∀ n', (f n').cell? ⟨w.heap.size, k + q, none⟩ = some (.int .i64 (z : Int)) := fun n' => ((hf n').out.cell (p := ⟨w.heap.size, k + q, none⟩) (lt_of_cell c3)).trans c3
          clear c1 c2 c3 c4
          repeat (go_big_quiet_step (fail))
          refine wpQuiet_nil ?_
          intro nx
          have hb1 := (hf nx).out
          clear hf hcl C1 C2 C3
          generalize f nx = w2 at hb1 ⊢
          have o2 : Hid (Ow w2 w.heap.size (.slice (some ⟨w.heap.size, 0, none⟩) (n + m) (n + m)) os) := Ow.up ho.out hb1
          have b2 : Hid (Below w.heap.size w w2) := hb.out.trans (hb1.mono hb.out.size)
          clear hb1 hb ho
          obtain ⟨d3, d4⟩ := Ow.cell o2.out hlen.symm (k + q) (by omega)
          have TE : Hid (((cy : Int) + ((z : Int) + (x : Int) * (y : Int))) = ((cy + (z + x * y) : Nat) : Int)) := (by rw [Int.natCast_add, Int.natCast_add, Int.natCast_mul] : ((cy : Int) + ((z : Int) + (x : Int) * (y : Int))) = ((cy + (z + x * y) : Nat) : Int))
          have SS : Hid _ := fun (tz : Int) (h : tz = (((cy + (z + x * y)) % 65536 : Nat) : Int)) => Ow.set o2.out hlen.symm (Nat.le_refl _) (k + q) ((cy + (z + x * y)) % 65536) tz h
          have KD : Hid (((cy + (z + x * y)) % 65536 : Nat) < 65536 ∧ (cy + (z + x * y)) / 65536 < 65536) := (⟨Nat.mod_lt _ (by decide), by omega⟩ : ((cy + (z + x * y)) % 65536 : Nat) < 65536 ∧ (cy + (z + x * y)) / 65536 < 65536)
          go_wp2_with fail
          go_roundw
          case rel =>
            have te := TE.out
            obtain ⟨S1, S2⟩ := SS.out ((↑cy + (↑z + ↑x * ↑y)) % 65536) (by rw [te]; omega)
            refine ⟨q + 1, (cy + (z + x * y)) / 65536, os.set (k + q) ((cy + (z + x * y)) % 65536), by omega, by go_num, congrArg (Value.int .i64) (by rw [te]; omega), KD.out.2, by rw [List.length_set]; exact hlen, hdg.set KD.out.1, ?_, ?_, S1, b2.out.trans S2⟩
            · exact (fun j hj => by rw [List.getD_eq_getElem?_getD, List.getElem?_set_ne (by omega), ← List.getD_eq_getElem?_getD]; exact HZ.out j hj : ∀ j, k + m ≤ j → (os.set (k + q) ((cy + (z + x * y)) % 65536)).getD j 0 = 0)
            · exact ST.out _ (DS.out _)
          case measure => simp [intOf]; omega
        · have j1 : ¬ (q : Int) < (m : Int) := by omega
          have q1 : q = m := by omega
          subst q1
          obtain ⟨c3, c4⟩ := Ow.cell ho.out hlen.symm (k + q) (by omega)
          rw [HZ.out (k + q) (Nat.le_refl _)] at c3
          have kq : ((k : Int) + (q : Int)).toNat = k + q := by omega
          have kq1 : (k : Int) + (q : Int) < (n : Int) + (q : Int) := by omega
          have kq0 : (0 : Int) ≤ (k : Int) + (q : Int) := by omega
          have k0 : (0 : Int) ≤ (cy : Int) := by omega
          have k1 : (cy : Int) ≤ 65535 := by omega
          have S : Hid _ := Ow.set ho.out hlen.symm (Nat.le_refl _) (k + q) cy (cy : Int) rfl
          have VV : Hid (P.dv (os.set (k + q) cy) = P.dv xs % 65536 ^ (k + 1) * P.dv ys) := by
            have h := HV.out
            have h2 := P.dv_set (xs := os) (i := k + q) (v := cy) (by omega)
            rw [HZ.out (k + q) (Nat.le_refl _), Nat.mul_zero, Nat.add_zero] at h2
            show P.dv (os.set (k + q) cy) = P.dv xs % 65536 ^ (k + 1) * P.dv ys
            rw [h2, h, P.mod_pow_succ' (P.dv xs), ← P.dig hx k, Nat.add_mul, P.mod_len hy (by rw [← HM.out]; exact Nat.le_refl _)]
          go_wp2_with fail
          go_roundw
          case rel =>
            refine ⟨k + 1, os.set (k + q) cy, by omega, by go_num, by rw [List.length_set]; exact hlen, hdg.set hcy, ?_, VV, S.out.1, hb.out.trans S.out.2⟩
            exact (fun j hj => by rw [List.getD_eq_getElem?_getD, List.getElem?_set_ne (by omega), ← List.getD_eq_getElem?_getD]; exact HZ.out j (by omega) : ∀ j, k + 1 + q ≤ j → (os.set (k + q) cy).getD j 0 = 0)
          case measure => simp [intOf]; omega
    · have i1 : ¬ (k : Int) < (n : Int) := by omega
      have V : Hid (P.dv os = P.dv xs * P.dv ys) := by
        have h := HV.out
        rw [P.mod_len hx (by have := HN.out; omega)] at h
        exact h
      go_wp2_with fail
      refine (trim_fun _ os hdg (by omega) _ (Ow.sl ho.out)).mono ?_
      rintro e w1 ⟨⟨v', rfl, hs⟩, hb1⟩
      have b1 : Hid (Below w.heap.size w w1) := hb.out.trans (hb1.mono hb.out.size)
      have HS : Hid _ := hs
      clear hs hb1 hb ho
      go_wp2_with fail
      go_ret
      exact ⟨⟨v', rfl, by rw [← V.out]; exact HS.out⟩, b1.out⟩
end Go.Proofs.Ytdcpicbkemmakaa
