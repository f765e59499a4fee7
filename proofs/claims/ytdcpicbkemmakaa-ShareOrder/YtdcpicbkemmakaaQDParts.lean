/- The contract of sealringref.Parts: how often, and what is left. -/
import Derived.Test.YtdcpicbkemmakaaQDTimes
import Derived.Test.YtdcpicbkemmakaaQDMinus
import Derived.Test.YtdcpicbkemmakaaQOrd
import Derived.Laws.AppendOwnNone
namespace Go.Proofs.Ytdcpicbkemmakaa
open Go.RowKit
theorem wp_app2 {ops : Array Oper} {rest : List Oper} {o : Oper} {a : Act} {Q : Exit → Act → World → Prop} {w : World} (hgd : o.guard = none) (s x : Operand)
    (ho : o.op = .call { callee := .builtin .append, args := #[s, x], argTypes := #[37, 37] })
    (B : Nat) (v u : Value) (xs ys : List Nat) (hs : a.eval s = v) (hown : Ow w B v xs) (hx : a.eval x = u) (hsl : Sl w u ys)
    (hl : xs.length < 1099511627776) (hm : ys.length < 1099511627776) (hB : B ≤ w.heap.size) (h : ∀ v' w', Ow w' B v' (xs ++ ys) → Below B w w' → wpList Try.prog ops Q rest (a.put o.dst v') w') : wpList Try.prog ops Q (o :: rest) a w := by
  obtain ⟨i0, hi, hz0, hz1, hz2⟩ := info_parts Try.iInt
  rcases hsl with ⟨rfl, rfl⟩ | ⟨b, of, c, rfl, _, hc⟩
  · refine wpList_append_own_none hgd s x 37 ho B 3 i0 1 Try.uInts hi v xs.length (xs.map iv) hs hown hx ?_
    exact h v w (by rw [List.append_nil]; exact hown) (Below.refl _ _)
  · refine wpList_append_own w hgd s x 37 ho B 3 i0 (.int .i64 0) 1 8 Try.uInts hi hz0 hz1 hz2 rfl (by decide) v xs.length (xs.map iv) hs hown ⟨b, of, none⟩ ys.length c (ys.map iv) hx (by simp) ?_ ?_ ?_ ?_ hB ?_
    · intro j y hj
      rw [List.getElem?_map] at hj
      rcases Nat.lt_or_ge j ys.length with hlt | hge
      · rw [List.getElem?_eq_getElem hlt] at hj
        simp only [Option.map_some, Option.some.injEq] at hj
        subst hj
        have := hc j hlt
        rw [List.getD_eq_getElem?_getD, List.getElem?_eq_getElem hlt] at this
        by_cases h0 : j = 0
        · subst h0; simpa [Addr.add] using this
        · simpa [Addr.add, h0] using this
      · rw [List.getElem?_eq_none hge] at hj
        cases hj
    · intro y hy
      obtain ⟨z, _, rfl⟩ := List.mem_map.1 hy
      rfl
    · unfold maxLen; omega
    · omega
    · intro v' w' hown' hg _
      refine h v' w' ?_ ?_
      · unfold Ow
        rw [List.map_append, List.length_append]
        exact hown'
      · exact Below.grown (Below.refl _ _) hg hB fun k hk => (hown.lt k hk).1
theorem Ow.one (w : World) (B y : Nat) (z : Int) (hz : z = ((y : Nat) : Int)) (hB : B ≤ w.heap.size) : Ow (w.alloc (.cells #[.int .i64 z] 3)) B (.slice (some ⟨w.heap.size, 0, none⟩) 1 1) [y] := by
  subst hz
  refine ⟨rfl, .inr ⟨w.heap.size, 1, #[iv y], rfl, hB, heap_alloc_new w _, by simp, by unfold maxLen; decide, by simp, by simp⟩⟩
theorem Sl.one (w : World) (y : Nat) (z : Int) (hz : z = ((y : Nat) : Int)) : Sl (w.alloc (.cells #[.int .i64 z] 3)) (.slice (.some ⟨w.heap.size, 0, none⟩) 1 1) [y] := (Ow.one w 0 y z hz (Nat.zero_le _)).sl
theorem quot_step {X M R x k lo : Nat} (hM : 0 < M) (hR : R = X / 65536 ^ (k + 1) % M) (hx : x = X / 65536 ^ k % 65536) (hlo : lo = (x + 65536 * R) / M) :
    X / 65536 ^ k / M = X / 65536 ^ (k + 1) / M * 65536 + lo ∧ X / 65536 ^ k % M = (x + 65536 * R) - M * lo := by
  have e : X / 65536 ^ k = (x + 65536 * R) + M * (X / 65536 ^ (k + 1) / M * 65536) := by
    have h1 : X / 65536 ^ (k + 1) = X / 65536 ^ k / 65536 := by rw [Nat.pow_succ, Nat.div_div_eq_div_mul]
    have h2 := Nat.div_add_mod (X / 65536 ^ (k + 1)) M
    rw [← hR] at h2
    generalize X / 65536 ^ (k + 1) / M = Q at *
    rw [h1] at h2
    generalize X / 65536 ^ k = Z at *
    have h3 : M * (Q * 65536) = 65536 * (M * Q) := by rw [Nat.mul_comm Q, ← Nat.mul_assoc, Nat.mul_comm M, Nat.mul_assoc]
    rw [h3]
    omega
  rw [e]
  constructor
  · rw [Nat.add_mul_div_left _ _ hM, ← hlo, Nat.add_comm]
  · rw [Nat.add_mul_mod_self_left, hlo]
    have := Nat.div_add_mod (x + 65536 * R) M
    omega
theorem dg_len_le {n : Nat} {xs : List Nat} (hx : P.Dg xs) (h : n < P.dv xs) : (P.dg n).length ≤ xs.length := P.dg_len _ (Nat.lt_trans h (P.dv_lt xs hx))
set_option maxRecDepth 20000 in
set_option maxHeartbeats 4000000 in
theorem dparts_fun (u v : Value) (xs ys : List Nat) (hx : P.Dg xs) (hy : P.Dg ys) (hM : 0 < P.dv ys) (lx : xs.length < 1048576) (ly : ys.length < 1048576) (w : World) (su : Sl w u xs) (sv : Sl w v ys) :
    Calls Try.prog 41 #[u, v] w fun e w' => (∃ v1 v2, e = .returned (.tuple #[v1, v2]) ∧ Sl w' v1 (P.dg (P.dv xs / P.dv ys)) ∧ Sl w' v2 (P.dg (P.dv xs % P.dv ys))) ∧ Below w.heap.size w w' := by
  obtain ⟨ax, cx, rfl⟩ := su.parts
  have SU : Hid (Sl w (.slice ax xs.length cx) xs) := su
  have SV : Hid (Sl w v ys) := sv
  clear su sv
  obtain ⟨n, hn⟩ : ∃ n, n = xs.length := ⟨_, rfl⟩
  have HN : Hid _ := hn
  rw [← hn] at SU lx ⊢
  clear hn
  have n1 : (n : Int) < 1048576 := by omega
  have TT := fun (mid : Nat) (hm : mid < 65536) (u : Value) w' h h' => dtimes_fun v u ys [mid] hy (P.Dg.one hm) (by omega) (by simp) w' h h'
  go_enter Try.func41, Try.ntmps41
  go_wp2_with (at_make; refine wp_mk rfl _ _ rfl w.heap.size n _ _ rfl rfl rfl rfl (by omega) (Nat.le_refl _) ?_)
  intro w1 o1 hb1
  have s1 : Hid (Ow w1 w.heap.size (.slice (some ⟨w.heap.size, 0, none⟩) n n) (List.replicate n 0)) := o1
  have b1 : Hid (Below w.heap.size w w1) := hb1
  clear o1 hb1
  go_wp2_with fail
  go_loopw [7, 8] (fun r i wr => ∃ (k : Nat) (os : List Nat), k ≤ n ∧ i = .int .i64 ((k : Int) - 1) ∧ os.length = n ∧ P.Dg os ∧ Hid (∀ j, j < k → os.getD j 0 = 0) ∧ Hid (P.dv os = 65536 ^ k * (P.dv xs / 65536 ^ k / P.dv ys)) ∧
      Hid (Sl wr r (P.dg (P.dv xs / 65536 ^ k % P.dv ys)) ∧ blkGe (w.heap.size + 1) r) ∧ Hid (Ow wr w.heap.size (.slice (some ⟨w.heap.size, 0, none⟩) n n) os) ∧ Hid (Below w.heap.size w wr)) (fun _ i _ => (intOf i + 1).toNat)
  case atStart =>
    have z : P.dv xs / 65536 ^ n = 0 := by rw [HN.out]; exact Nat.div_eq_of_lt (P.dv_lt xs hx)
    refine ⟨n, List.replicate n 0, Nat.le_refl _, by go_num, by simp, fun x hx => ?_, ?_, ?_, ?_, s1, b1⟩
    · rw [List.eq_of_mem_replicate hx]; decide
    · exact (fun j _ => by simp [List.getD_eq_getElem?_getD, List.getElem?_replicate]; split <;> rfl : ∀ j, j < n → (List.replicate n 0).getD j 0 = 0)
    · exact (by rw [P.dv_zeros, z, Nat.zero_div, Nat.mul_zero] : P.dv (List.replicate n 0) = 65536 ^ n * (P.dv xs / 65536 ^ n / P.dv ys))
    · exact (⟨.inl ⟨rfl, by rw [z, Nat.zero_mod, P.dg_zero]⟩, trivial⟩ : Sl w1 (.slice none 0 0) (P.dg (P.dv xs / 65536 ^ n % P.dv ys)) ∧ blkGe (w.heap.size + 1) (.slice none 0 0))
  case round =>
    clear s1 b1
    obtain ⟨k, os, hk, rfl, hlen, hdg, HZ, HV, hr, ho, hb⟩ := hrel
    by_cases h0 : 0 < k
    · obtain ⟨k, rfl⟩ : ∃ j, k = j + 1 := ⟨k - 1, by omega⟩
      rw [show ((k + 1 : Nat) : Int) - 1 = k by omega]
      have i0 : (k : Int) ≥ 0 := by omega
      have i1 : (k : Int) < (n : Int) := by omega
      obtain ⟨bx, ox, hax, hcx⟩ := Sl.some (xs := xs) SU.out (by rw [← HN.out]; omega)
      subst hax
      have c1 : wr.cell? ⟨bx, ox + k, none⟩ = _ := (hb.out.cell (p := ⟨bx, ox + k, none⟩) (lt_of_cell (hcx k (by rw [← HN.out]; omega)))).trans (hcx k (by rw [← HN.out]; omega))
      have xl := P.dig_lt hx k
      have dx := P.dig hx k
      have RL : Hid _ := Nat.mod_lt (P.dv xs / 65536 ^ (k + 1)) hM
      have QS : Hid _ := fun (lo : Nat) (h : lo = _) => quot_step (lo := lo) hM rfl dx h
      clear hcx dx
      generalize xs.getD k 0 = x at *
      generalize P.dv xs / 65536 ^ (k + 1) % P.dv ys = R at *
      have rl : (P.dg R).length ≤ ys.length := dg_len_le hy RL.out
      have WS : w.heap.size < wr.heap.size := Ow.size ho.out
      go_wp2_with (at_builtin; refine wp_app2 rfl _ _ rfl wr.heap.size _ _ [x] (P.dg R) rfl (Ow.one wr wr.heap.size x _ rfl (Nat.le_refl _)) rfl (Sl.up (xs := P.dg R) hr.out.1 ((Below.refl _ _).alloc (Nat.le_refl _) _)) (by simp) (by omega) (by simp) ?_)
      intro v1 w1 o1 hb1
      have O1 : Hid (Sl w1 v1 ([x] ++ P.dg R) ∧ blkGe wr.heap.size v1) := ⟨Ow.sl o1, Ow.ge o1⟩
      have B1 : Hid (Below wr.heap.size wr w1) := ((Below.refl _ _).alloc (Nat.le_refl _) _).trans hb1
      have o1' : Hid (Ow w1 w.heap.size (.slice (some ⟨w.heap.size, 0, none⟩) n n) os) := Ow.up ho.out B1.out
      have b1 : Hid (Below w.heap.size w w1) := hb.out.trans (B1.out.mono hb.out.size)
      have z1 := B1.out.size
      clear o1 hb1 B1 ho hb hr c1
      go_wp2_with fail
      refine (trim_fun2 _ ([x] ++ P.dg R) ((P.Dg.one xl).append (P.dg_Dg R)) (by simp; omega) _ O1.out.1).mono ?_
      rintro e w2 ⟨⟨v2, rfl, hs2, hge⟩, hb2⟩
      have GE : Hid (blkGe (w.heap.size + 1) v2) := (hge _ O1.out.2).mono (by omega)
      have er : P.dv ([x] ++ P.dg R) = x + 65536 * R := by rw [List.cons_append, List.nil_append, P.dv, P.dv_dg]
      rw [er] at hs2
      have HS : Hid (Sl w2 v2 (P.dg (x + 65536 * R))) := hs2
      have o2 : Hid (Ow w2 w.heap.size (.slice (some ⟨w.heap.size, 0, none⟩) n n) os) := Ow.up o1'.out hb2
      have b2 : Hid (Below w.heap.size w w2) := b1.out.trans (hb2.mono b1.out.size)
      have z2 := b2.out.size
      have RB : Hid (x + 65536 * R < P.dv ys * 65536) := (by have := RL.out; omega : x + 65536 * R < P.dv ys * 65536)
      generalize er' : x + 65536 * R = r at *
      clear hs2 hge hb2 O1 o1' b1 er er'
      have yp : P.dv ys < 65536 ^ ys.length := P.dv_lt ys hy
      have LB : Hid (∀ t, t ≤ P.dv ys * 65536 → (P.dg t).length ≤ ys.length + 1) := (fun t ht => P.dg_len _ (Nat.lt_of_le_of_lt ht (by rw [Nat.pow_succ]; omega)) : ∀ t, t ≤ P.dv ys * 65536 → (P.dg t).length ≤ ys.length + 1)
      go_wp2_with fail
      go_loopw [9, 10] (fun lo hi wr' => ∃ (l h : Nat), lo = .int .i64 ((l : Nat) : Int) ∧ hi = .int .i64 ((h : Nat) : Int) ∧ l < h ∧ h ≤ 65536 ∧ Hid (P.dv ys * l ≤ r ∧ r < P.dv ys * h) ∧ Hid (Below w2.heap.size w2 wr')) (fun lo hi _ => (intOf hi - intOf lo).toNat)
      case atStart => exact ⟨0, 65536, rfl, rfl, by omega, by omega, (⟨Nat.zero_le _, RB.out⟩ : P.dv ys * 0 ≤ r ∧ r < P.dv ys * 65536), Below.refl _ _⟩
      case round =>
        obtain ⟨l, h, rfl, rfl, hlh, hh, HI, hb⟩ := hrel
        have l0 : (0 : Int) ≤ (l : Int) := by omega
        have l1 : (l : Int) < (h : Int) := by omega
        have l2 : (h : Int) ≤ 65536 := by omega
        by_cases h1 : h - l > 1
        · have g1 : (h : Int) - (l : Int) > 1 := by omega
          obtain ⟨mid, hmid⟩ : ∃ mid, mid = (l + h) / 2 := ⟨_, rfl⟩
          have md : ((l : Int) + (h : Int)) / 2 = ((mid : Nat) : Int) := by omega
          have m1 : l < mid := by omega
          have m2 : mid < h := by omega
          have HMI : Hid _ := hmid
          clear hmid
          have T1 := TT mid (by omega)
          have d1 : P.dv [mid] = mid := by simp [P.dv]
          rw [d1] at T1
          have bm : P.dv ys * mid ≤ P.dv ys * 65536 := Nat.mul_le_mul_left _ (by omega)
          have lm := LB.out _ bm
          have lr := LB.out r (Nat.le_of_lt RB.out)
          have OF : Hid (∀ (v3 : Value) w', Sl w' v3 (P.dg (P.dv ys * mid)) → Sl w' v2 (P.dg r) → Calls Try.prog 9 #[v3, v2] w' fun e w'' => e = .returned (.int .i64 (cmpN (P.dv ys * mid) r)) ∧ Below w'.heap.size w' w'') := by
            intro v3 w' h h'
            have := order_fun v3 v2 (P.dg (P.dv ys * mid)) (P.dg r) (P.dg_Dg _) (P.dg_Dg _) (by omega) (by omega) w' h h'
            rwa [P.dv_dg, P.dv_dg] at this
          clear d1 bm lm lr
          have sv : Sl (wr.alloc (.cells #[.int .i64 ((mid : Nat) : Int)] 3)) v ys := Sl.up (xs := ys) SV.out (((b2.out.trans (hb.out.mono z2)).alloc (by have := hb.out.size; omega) _))
          have SY : Hid _ := sv
          clear sv
          go_wp2_with fail
          refine (T1 _ _ SY.out (Sl.one wr mid _ rfl)).mono ?_
          rintro e w3 ⟨⟨v3, rfl, hs3⟩, hb3⟩
          have S3 : Hid (Sl w3 v3 (P.dg (P.dv ys * mid))) := hs3
          have b3 : Hid (Below w2.heap.size w2 w3) := ((hb.out.alloc hb.out.size _).trans (hb3.mono (by simp; have := hb.out.size; omega)))
          clear hs3 hb3 hb SY
          go_wp2_with fail
          refine (OF.out v3 _ S3.out (Sl.up (xs := P.dg r) HS.out b3.out)).mono ?_
          rintro e w4 ⟨rfl, hb4⟩
          have b4 : Hid (Below w2.heap.size w2 w4) := b3.out.trans (hb4.mono b3.out.size)
          clear hb4 b3 S3
          by_cases hle : P.dv ys * mid ≤ r
          · have hc : cmpN (P.dv ys * mid) r ≤ 0 := by unfold cmpN; split <;> (try split) <;> omega
            have HLE : Hid _ := hle
            generalize cmpN (P.dv ys * mid) r = c at *
            clear hle
            go_wp2_with fail
            go_roundw
            case rel => exact ⟨mid, h, by go_num, rfl, m2, hh, (⟨HLE.out, HI.out.2⟩ : P.dv ys * mid ≤ r ∧ r < P.dv ys * h), b4⟩
            case measure => simp [intOf]; omega
          · have hc : cmpN (P.dv ys * mid) r = 1 := by unfold cmpN; rw [if_neg (by omega), if_pos (by omega)]
            have HLE : Hid _ := hle
            generalize cmpN (P.dv ys * mid) r = c at *
            subst hc
            clear hle OF T1
            go_wp2_with fail
            go_roundw
            case rel => exact ⟨l, mid, rfl, by go_num, m1, by omega, (⟨HI.out.1, Nat.lt_of_not_le HLE.out⟩ : P.dv ys * l ≤ r ∧ r < P.dv ys * mid), b4⟩
            case measure => simp [intOf]; omega
        · have g1 : ¬ (h : Int) - (l : Int) > 1 := by omega
          have hl1 : h = l + 1 := by omega
          have HL1 : Hid _ := hl1
          have l3 : (l : Int) ≤ 65535 := by omega
          have HL : Hid (l = r / P.dv ys) := by
            have := HI.out
            rw [HL1.out] at this
            exact ((Nat.div_eq_of_lt_le (by rw [Nat.mul_comm]; exact this.1) (by rw [Nat.mul_comm]; exact this.2)).symm : l = r / P.dv ys)
          have Q2 : Hid _ := QS.out l HL.out
          have VN : Hid (P.dv (os.set k l) = 65536 ^ k * (P.dv xs / 65536 ^ k / P.dv ys)) := by
            have h2 := P.dv_set (xs := os) (i := k) (v := l) (by omega)
            rw [HZ.out k (by omega), Nat.mul_zero, Nat.add_zero, HV.out, Nat.pow_succ] at h2
            show P.dv (os.set k l) = 65536 ^ k * (P.dv xs / 65536 ^ k / P.dv ys)
            rw [h2, Q2.out.1, Nat.mul_add, Nat.mul_assoc, Nat.mul_comm 65536, ← Nat.pow_succ]
          have ZN : Hid (∀ j, j < k → (os.set k l).getD j 0 = 0) := (fun j hj => by rw [List.getD_eq_getElem?_getD, List.getElem?_set_ne (by omega), ← List.getD_eq_getElem?_getD]; exact HZ.out j (by omega) : ∀ j, j < k → (os.set k l).getD j 0 = 0)
          have LT : Hid (l < 65536) := (by omega : l < 65536)
          clear hl1
          by_cases hl0 : 0 < l
          · have g2 : (l : Int) > 0 := by omega
            have T1 := TT l (by omega)
            have d1 : P.dv [l] = l := by simp [P.dv]
            rw [d1] at T1
            have lr := LB.out r (Nat.le_of_lt RB.out)
            have MF : Hid (∀ (v3 : Value) w', Sl w' v2 (P.dg r) → Sl w' v3 (P.dg (P.dv ys * l)) → Calls Try.prog 21 #[v2, v3] w' fun e w'' => (∃ v', e = .returned v' ∧ Sl w'' v' (P.dg (P.dv xs / 65536 ^ k % P.dv ys)) ∧ blkGe w'.heap.size v') ∧ Below w'.heap.size w' w'') := by
              intro v3 w' h h'
              have := dminus_fun2 v2 v3 (P.dg r) (P.dg (P.dv ys * l)) (P.dg_Dg _) (P.dg_Dg _) (by omega) (by rw [P.dv_dg, P.dv_dg]; exact HI.out.1) w' h h'
              rw [P.dv_dg, P.dv_dg, ← Q2.out.2] at this
              exact this
            clear d1 lr
            have sv : Sl (wr.alloc (.cells #[.int .i64 ((l : Nat) : Int)] 3)) v ys := Sl.up (xs := ys) SV.out (((b2.out.trans (hb.out.mono z2)).alloc (by have := hb.out.size; omega) _))
            have SY : Hid _ := sv
            clear sv
            have T2 : Hid _ := T1
            clear T1 TT l1 l2 hlh hh
            go_wp2_with fail
            refine (T2.out _ _ SY.out (Sl.one wr l _ rfl)).mono ?_
            rintro e w3 ⟨⟨v3, rfl, hs3⟩, hb3⟩
            have S3 : Hid (Sl w3 v3 (P.dg (P.dv ys * l))) := hs3
            have b3 : Hid (Below w2.heap.size w2 w3) := ((hb.out.alloc hb.out.size _).trans (hb3.mono (by simp; have := hb.out.size; omega)))
            clear hs3 hb3 hb SY
            go_wp2_with fail
            refine (MF.out v3 _ (Sl.up (xs := P.dg r) HS.out b3.out) S3.out).mono ?_
            rintro e w4 ⟨⟨v4, rfl, hs4, hg4⟩, hb4⟩
            have b4 : Hid (Below w2.heap.size w2 w4) := b3.out.trans (hb4.mono b3.out.size)
            have G4 : Hid (blkGe (w.heap.size + 1) v4) := hg4.mono (by have := Ow.size o2.out; have := b3.out.size; omega)
            have S4 : Hid _ := hs4
            have o4 : Hid (Ow w4 w.heap.size (.slice (some ⟨w.heap.size, 0, none⟩) n n) os) := Ow.up o2.out b4.out
            obtain ⟨c3, c4⟩ := Ow.cell o4.out hlen.symm k (by omega)
            have SN : Hid _ := Ow.set o4.out hlen.symm (Nat.le_refl _) k l (l : Int) rfl
            have b5 : Hid (Below w.heap.size w w4) := b2.out.trans (b4.out.mono z2)
            clear hs4 hg4 hb4 b3 S3 b4
            go_wp2_with fail
            go_roundw
            case rel => exact ⟨k, os.set k l, by omega, by go_num, by rw [List.length_set]; exact hlen, hdg.set LT.out, ZN, VN, (⟨Sl.set_ne S4.out G4.out, G4.out⟩ : Sl _ v4 (P.dg (P.dv xs / 65536 ^ k % P.dv ys)) ∧ blkGe (w.heap.size + 1) v4), SN.out.1, b5.out.trans SN.out.2⟩
            case measure => simp [intOf]
          · have l0 : l = 0 := by omega
            subst l0
            have h1' : h = 1 := HL1.out
            subst h1'
            have S4 : Hid (Sl wr v2 (P.dg (P.dv xs / 65536 ^ k % P.dv ys))) := by
              rw [Q2.out.2, Nat.mul_zero, Nat.sub_zero]
              exact Sl.up (xs := P.dg r) HS.out hb.out
            have o4 : Hid (Ow wr w.heap.size (.slice (some ⟨w.heap.size, 0, none⟩) n n) os) := Ow.up o2.out hb.out
            obtain ⟨c3, c4⟩ := Ow.cell o4.out hlen.symm k (by omega)
            have SN : Hid _ := Ow.set o4.out hlen.symm (Nat.le_refl _) k 0 0 rfl
            have b5 : Hid (Below w.heap.size w wr) := b2.out.trans (hb.out.mono z2)
            clear hb
            go_wp2_with fail
            go_roundw
            case rel => exact ⟨k, os.set k 0, by omega, by go_num, by rw [List.length_set]; exact hlen, hdg.set (by decide), ZN, VN, (⟨Sl.set_ne S4.out GE.out, GE.out⟩ : Sl _ v2 (P.dg (P.dv xs / 65536 ^ k % P.dv ys)) ∧ blkGe (w.heap.size + 1) v2), SN.out.1, b5.out.trans SN.out.2⟩
            case measure => simp [intOf]
    · have k0 : k = 0 := by omega
      subst k0
      rw [show ((0 : Nat) : Int) - 1 = -1 by omega]
      have VV : Hid (P.dv os = P.dv xs / P.dv ys) := by
        have h := HV.out
        rw [Nat.pow_zero, Nat.one_mul, Nat.div_one] at h
        exact h
      have RR : Hid (Sl wr u7 (P.dg (P.dv xs % P.dv ys))) := by
        have h := hr.out.1
        rw [Nat.pow_zero, Nat.div_one] at h
        exact h
      go_wp2_with fail
      refine (trim_fun _ os hdg (by omega) _ (Ow.sl ho.out)).mono ?_
      rintro e w1 ⟨⟨v', rfl, hs⟩, hb1⟩
      have b1 : Hid (Below w.heap.size w w1) := hb.out.trans (hb1.mono hb.out.size)
      have HS : Hid _ := hs
      have R1 : Hid (Sl w1 u7 (P.dg (P.dv xs % P.dv ys))) := Sl.up (xs := P.dg (P.dv xs % P.dv ys)) RR.out hb1
      clear hs hb1 hb ho RR hr
      go_wp2_with fail
      refine bodyPost_ret (v := .tuple #[v', u7]) (by simp [results, Try.results41, go_sem]) rfl ⟨⟨v', u7, rfl, by rw [← VV.out]; exact HS.out, R1.out⟩, b1.out⟩
end Go.Proofs.Ytdcpicbkemmakaa
