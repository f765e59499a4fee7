/- The contract of sealringref.NumberText. -/
import Derived.Test.YtkgfeacednomfaaNumR
import Derived.Test.YtkgfeacednomfaaSGet
import Derived.Test.YtkgfeacednomfaaDParts
import Derived.Test.YtkgfeacednomfaaDDig
namespace Go.Proofs.Ytkgfeacednomfaa
open Go.RowKit
set_option linter.unusedSimpArgs false
attribute [local go_sem] sOf_size ByteArray.size_append
/-- The text of a number: its bytes, and a nought ahead of them where the first is none or a great one. -/
theorem numT_plain {X i : Nat} (hi : 0 < i) (h32 : i ≤ 32) (h0 : X / 256 ^ i = 0) (h1 : X / 256 ^ (i - 1) ≠ 0) (h2 : X / 256 ^ (i - 1) < 128) : numT X = dT X i := by
  have hlt : X < 256 ^ i := by
    rcases Nat.div_eq_zero_iff.1 h0 with h | h
    · exact absurd h (Nat.ne_of_gt (Nat.pow_pos (by decide)))
    · exact h
  have g : (dT X i).getD 0 0 = X / 256 ^ (i - 1) := by
    rw [dT_get _ _ _ hi, Nat.sub_zero]
    exact Nat.mod_eq_of_lt (by omega)
  refine (readNum_one (dT_low X i) ?_).1
  unfold readNumS
  rw [dT_len, g, if_neg (by omega), if_neg (by omega), if_neg h1, if_neg (by omega), beN_dT, Nat.mod_eq_of_lt hlt]
theorem numT_nought {X i : Nat} (hi : 0 < i) (h32 : i ≤ 32) (h0 : X / 256 ^ i = 0) (h2 : 128 ≤ X / 256 ^ (i - 1)) : numT X = 0 :: dT X i := by
  have hlt : X < 256 ^ i := by
    rcases Nat.div_eq_zero_iff.1 h0 with h | h
    · exact absurd h (Nat.ne_of_gt (Nat.pow_pos (by decide)))
    · exact h
  have hh : X / 256 ^ (i - 1) < 256 := by
    apply Nat.div_lt_of_lt_mul
    rw [← Nat.pow_succ, show (i - 1).succ = i by omega]
    exact hlt
  have g : (0 :: dT X i).getD 1 0 = X / 256 ^ (i - 1) := by
    show (dT X i).getD 0 0 = _
    rw [dT_get _ _ _ hi, Nat.sub_zero]
    exact Nat.mod_eq_of_lt hh
  refine (readNum_one (s := 0 :: dT X i) (fun x hx => ?_) ?_).1
  · rcases List.mem_cons.1 hx with h | h
    · rw [h]; decide
    · exact dT_low X i x h
  · unfold readNumS
    have l : (0 :: dT X i).length = i + 1 := by rw [List.length_cons, dT_len]
    have g0 : (0 :: dT X i).getD 0 0 = 0 := rfl
    rw [l, g, g0, if_neg (by omega), if_neg (by omega), if_pos rfl, if_neg (by omega), beN_cons, Nat.zero_mul, Nat.zero_add, beN_dT, Nat.mod_eq_of_lt hlt]
theorem numT_none : numT 0 = [0] := (readNum_one (s := [0]) (by simp) (by decide)).1
theorem ba_some {t : ByteArray} (h : 0 < t.size) : ¬ t.toList = [] ∧ t.toList.isEmpty = false := by
  have l : t.toList.length = t.size := by rw [ByteArray.toList_eq]; rfl
  have ne : ¬ t.toList = [] := by
    intro e
    rw [e] at l
    have : (0 : Nat) = t.size := l
    omega
  exact ⟨ne, by simpa using ne⟩
def szOf : Value → Nat
  | .string t => t.size
  | _ => 0
theorem dg_first (Y : Nat) (h : Y < 65536) : (P.dg Y).getD 0 0 = Y := by
  rw [P.dig (P.dg_Dg Y), P.dv_dg, Nat.pow_zero, Nat.div_one, Nat.mod_eq_of_lt h]
set_option maxRecDepth 20000 in
set_option maxHeartbeats 2000000 in
theorem numberText_fun (x : Nm) (hx : x.ok) (w : World) :
    Calls Try.prog 52 #[N x] w fun e w' => e = .returned (.string (sOf (numT x.nat))) ∧ Below w.heap.size w w' := by
  have OF : Hid _ := ofNum_fun x hx
  have LX := Nm.nat_lt hx
  generalize x.nat = X at *
  have XL : Hid (X < 2 ^ 256) := LX
  clear LX
  have ln : ∀ n, n < 2 ^ 256 → (P.dg n).length < 1048576 := fun n h => Nat.lt_of_le_of_lt (P.dg_len 16 (Nat.lt_of_lt_of_le h (by decide))) (by decide)
  have DP : Hid (∀ i u v w, Sl w u (P.dg (X / 256 ^ i)) → Sl w v [256] → Calls Try.prog 68 #[u, v] w fun e w' => (∃ v1 v2, e = .returned (.tuple #[v1, v2]) ∧ Sl w' v1 (P.dg (X / 256 ^ (i + 1))) ∧ Sl w' v2 (P.dg (X / 256 ^ i % 256))) ∧ Below w.heap.size w w') := by
    refine (fun i u v w su sv => ?_ : ∀ i u v w, Sl w u (P.dg (X / 256 ^ i)) → Sl w v [256] → Calls Try.prog 68 #[u, v] w fun e w' => (∃ v1 v2, e = .returned (.tuple #[v1, v2]) ∧ Sl w' v1 (P.dg (X / 256 ^ (i + 1))) ∧ Sl w' v2 (P.dg (X / 256 ^ i % 256))) ∧ Below w.heap.size w w')
    have := dparts_fun u v _ _ (P.dg_Dg (X / 256 ^ i)) (P.Dg.one (show 256 < 65536 by decide)) (by decide) (ln _ (Nat.lt_of_le_of_lt (Nat.div_le_self _ _) XL.out)) (by decide) w su sv
    rwa [P.dv_dg, show P.dv [256] = 256 from rfl, Nat.div_div_eq_div_mul, ← Nat.pow_succ] at this
  clear ln
  go_enter Try.func52, Try.ntmps52
  go_wp2_with fail
  refine (OF.out _).mono ?_
  rintro e w1 ⟨⟨l0, rfl, s0⟩, hb0⟩
  have S0 : Hid (Sl w1 l0 (P.dg X)) := s0
  have B0 : Hid (Below w.heap.size w w1) := ((Below.refl _ _).alloc (Nat.le_refl _) _).trans (hb0.mono (by simp))
  clear s0 hb0 OF
  go_wp2_with fail
  go_loopw [3, 4] (fun s l wr => ∃ (i : Nat), i ≤ 32 ∧ s = .string (sOf (dT X i)) ∧ Hid (0 < i → X / 256 ^ (i - 1) ≠ 0) ∧ Hid (Sl wr l (P.dg (X / 256 ^ i))) ∧ Hid (Below w.heap.size w wr)) (fun s _ _ => 33 - szOf s)
  case atStart => exact ⟨0, by omega, rfl, (fun h => absurd h (by omega) : 0 < 0 → X / 256 ^ (0 - 1) ≠ 0), by rw [Nat.pow_zero, Nat.div_one]; exact S0, B0⟩
  case round =>
    clear S0 B0
    obtain ⟨i, hi, rfl, hp, sl, hb⟩ := hrel
    obtain ⟨a, c, rfl⟩ := sl.out.parts
    have SD : Hid ((sOf (dT X i)).size = i) := (by rw [sOf_size, dT_len] : (sOf (dT X i)).size = i)
    by_cases h0 : X / 256 ^ i = 0
    · have L0 : (P.dg (X / 256 ^ i)).length = 0 := by rw [h0, P.dg_zero]; rfl
      rw [L0]
      by_cases i0 : i = 0
      · subst i0
        have X0 : X = 0 := by simpa using h0
        have R : Hid (numT X = [0]) := by rw [X0]; exact numT_none
        rw [show sOf (dT X 0) = ⟨#[]⟩ from rfl]
        clear L0 h0
        go_wp2_with fail
        go_ret
        exact ⟨by rw [R.out]; rfl, hb.out⟩
      · have g := sOf_get (dT_low X i) 0
        have e0 : (dT X i).getD 0 0 = X / 256 ^ (i - 1) := by
          rw [dT_get _ _ _ (by omega), Nat.sub_zero]
          apply Nat.mod_eq_of_lt
          apply Nat.div_lt_of_lt_mul
          rw [← Nat.pow_succ, show (i - 1).succ = i by omega]
          rcases Nat.div_eq_zero_iff.1 h0 with h | h
          · exact absurd h (Nat.ne_of_gt (Nat.pow_pos (by decide)))
          · exact h
        rw [e0] at g
        have l1 : X / 256 ^ (i - 1) < 256 := by rw [← e0]; exact dT_low X i _ (by rw [List.getD_eq_getElem?_getD, List.getElem?_eq_getElem (by rw [dT_len]; omega)]; exact List.getElem_mem _)
        have sz : 0 < (sOf (dT X i)).size := by rw [SD.out]; omega
        have sz1 : (0 : Int) < ((sOf (dT X i)).size : Int) := by omega
        have sz2 : ((sOf (dT X i)).size : Int) ≤ 32 := by rw [SD.out]; omega
        obtain ⟨ne1, ne2⟩ := ba_some sz
        have T1 : Hid (X / 256 ^ (i - 1) < 128 → sOf (numT X) = sOf (dT X i)) := (fun h => by rw [numT_plain (by omega) hi h0 (hp.out (by omega)) h] : X / 256 ^ (i - 1) < 128 → sOf (numT X) = sOf (dT X i))
        have T2 : Hid (128 ≤ X / 256 ^ (i - 1) → sOf (numT X) = sOf [0] ++ sOf (dT X i)) := (fun h => by rw [numT_nought (by omega) hi h0 h, sOf_append]; rfl : 128 ≤ X / 256 ^ (i - 1) → sOf (numT X) = sOf [0] ++ sOf (dT X i))
        have T3 : Hid (sOf [0] = ⟨#[0]⟩) := (rfl : sOf [0] = ⟨#[0]⟩)
        generalize X / 256 ^ (i - 1) = y at *
        clear e0 L0 h0
        by_cases hy : y < 128
        · generalize sOf (dT X i) = tx at *
          have y1 : ¬ (y : Int) ≥ 128 := by omega
          go_wp2_with fail
          go_ret
          exact ⟨by rw [T1.out hy]; rfl, hb.out⟩
        · generalize sOf (dT X i) = tx at *
          have y1 : (y : Int) ≥ 128 := by omega
          go_wp2_with fail
          go_ret
          exact ⟨by rw [T2.out (by omega), T3.out]; rfl, hb.out⟩
    · have L0 : 0 < (P.dg (X / 256 ^ i)).length := by rw [P.dg_pos h0]; simp
      have L1 : ((P.dg (X / 256 ^ i)).length : Int) > 0 := by omega
      have i32 : i < 32 := by
        rcases Nat.lt_or_ge i 32 with h | h
        · exact h
        · refine absurd (Nat.div_eq_of_lt (Nat.lt_of_lt_of_le XL.out ?_)) h0
          rw [pow256]
          exact Nat.pow_le_pow_right (by decide) (by omega)
      have H0 : Hid (X / 256 ^ i ≠ 0) := h0
      have DI : Hid _ := DP.out i
      have HT : Hid (sOf (dT X (i + 1)) = sOf [X / 256 ^ i % 256] ++ sOf (dT X i)) := (by rw [dT_succ, sOf_append]; rfl : sOf (dT X (i + 1)) = sOf [X / 256 ^ i % 256] ++ sOf (dT X i))
      have m1 : X / 256 ^ i % 256 < 256 := Nat.mod_lt _ (by decide)
      have DF : Hid ((P.dg (X / 256 ^ i % 256)).getD 0 0 = X / 256 ^ i % 256) := dg_first _ (by omega)
      have tz : ((sOf (dT X i)).size : Int) ≤ 32 := by rw [SD.out]; omega
      generalize hn : (P.dg (X / 256 ^ i)).length = n at *
      have HS : Hid (Sl wr (.slice a n c) (P.dg (X / 256 ^ i))) := sl
      generalize sOf (dT X i) = tx at *
      clear sl hn h0
      go_wp2_with fail
      refine (DI.out _ _ _ (Sl.up (xs := P.dg (X / 256 ^ i)) HS.out ((Below.refl _ _).alloc (Nat.le_refl _) _)) (Sl.one wr 256 256 rfl)).mono ?_
      rintro e w2 ⟨⟨v1, v2, rfl, s1, s2⟩, hb2⟩
      have S1 : Hid (Sl w2 v1 (P.dg (X / 256 ^ (i + 1)))) := s1
      have S2 : Hid (Sl w2 v2 (P.dg (X / 256 ^ i % 256))) := s2
      have B2 : Hid (Below w.heap.size w w2) := (hb.out.alloc hb.out.size _).trans (hb2.mono (by simp; have := hb.out.size; omega))
      clear s1 s2 hb2 HS hb DI
      go_wp2_with fail
      refine (digit_fun v2 _ 0 w2 S2.out).mono ?_
      rintro e w3 ⟨rfl, hb3⟩
      rw [DF.out]
      have S3 : Hid (Sl w3 v1 (P.dg (X / 256 ^ (i + 1)))) := Sl.up (xs := P.dg (X / 256 ^ (i + 1))) S1.out hb3
      have B3 : Hid (Below w.heap.size w w3) := B2.out.trans (hb3.mono B2.out.size)
      clear hb3 S1 S2 B2 DF
      generalize X / 256 ^ i % 256 = y at *
      have y0 : (0 : Int) ≤ (y : Int) := by omega
      have y1 : (y : Int) < 256 := by omega
      go_wp2_with (refine wp_conv rfl (.tmp 20) rfl _ [y] rfl (By.one ((cell_top (by simp)).trans (by simp [b8]))) ?_)
      go_roundw
      case rel => exact ⟨i + 1, by omega, by rw [HT.out], (fun _ => H0.out : 0 < i + 1 → X / 256 ^ (i + 1 - 1) ≠ 0), Sl.up (xs := P.dg (X / 256 ^ (i + 1))) S3.out ((Below.refl _ _).alloc (Nat.le_refl _) _), B3.out.alloc B3.out.size _⟩
      case measure =>
        simp [szOf, SD.out, sOf_size, ByteArray.size_append]
        omega
end Go.Proofs.Ytkgfeacednomfaa
