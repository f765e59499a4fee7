/- The contract of sealringref.Digits: a row of words' digits. -/
import Derived.Test.YtmfbdacalenfdaaGrp36
import Derived.Deep.RegionHeld
namespace Go.Proofs.Ytmfbdacalenfdaa
open Go.RowKit
attribute [local go_sem] World.cell?_alloc_some
/-- The number of a row of words. -/
def wv : List Nat → Nat
  | [] => 0
  | x :: xs => x + 18446744073709551616 * wv xs
theorem wv_take_succ (ws : List Nat) (j : Nat) (hj : j < ws.length) : wv (ws.take (j + 1)) = wv (ws.take j) + 65536 ^ (4 * j) * ws.getD j 0 := by
  induction ws generalizing j with
  | nil => simp at hj
  | cons x xs ih =>
    cases j with
    | zero => simp [wv]
    | succ j =>
      rw [List.take_succ_cons, wv, ih j (by simpa using hj), List.take_succ_cons, wv, List.getD_cons_succ, show 4 * (j + 1) = 4 * j + 4 by omega, Nat.pow_add]
      generalize 65536 ^ (4 * j) = B
      grind
set_option maxHeartbeats 2000000 in
theorem digits_fun (b : Nat) (ws : List Nat) (hw : ∀ x ∈ ws, x < 18446744073709551616) (n cp : Nat) (hn : n = ws.length) (ln : n < 65536) (w : World) (hc : ∀ j, j < n → w.cell? ⟨b, j, none⟩ = some (.int .u64 ((ws.getD j 0 : Nat) : Int))) :
    Calls Try.prog 29 #[.slice (some ⟨b, 0, none⟩) n cp] w fun e w' => (∃ v', e = .returned v' ∧ Sl w' v' (P.dg (wv ws))) ∧ Below w.heap.size w w' := by
  have HC : Hid _ := hc
  have HN : Hid _ := hn
  have HW : Hid _ := hw
  clear hc hn hw
  go_enter Try.func29, Try.ntmps29
  go_wp2_with fail
  go_loopw [3, 8] (fun o i wr => ∃ (j : Nat) (os : List Nat), j ≤ n ∧ i = .int .i64 j ∧ os.length = 4 * j ∧ P.Dg os ∧ Hid (P.dv os = wv (ws.take j)) ∧ Hid (Ow wr w.heap.size o os) ∧ Hid (Below w.heap.size w wr)) (fun _ i _ => n - (intOf i).toNat)
  case atStart => exact ⟨0, [], by omega, rfl, rfl, fun x hx => (by cases hx), (by simp [P.dv, wv] : P.dv [] = wv (ws.take 0)), Ow.nil _ _, Below.refl _ _⟩
  case round =>
    obtain ⟨j, os, hj, rfl, hlen, hdg, HV, ho, hb⟩ := hrel
    by_cases h1 : j < n
    · have i1 : (j : Int) < (n : Int) := by omega
      have i0 : (0 : Int) ≤ (j : Int) := by omega
      have hcell : wr.cell? ⟨b, j, none⟩ = some (.int .u64 ((ws.getD j 0 : Nat) : Int)) := (hb.out.cell (p := ⟨b, j, none⟩) (lt_of_cell (HC.out j h1))).trans (HC.out j h1)
      have NX : Hid _ := wv_take_succ ws j (by rw [← HN.out]; exact h1)
      have xl : ws.getD j 0 < 18446744073709551616 := by
        rw [List.getD_eq_getElem?_getD, List.getElem?_eq_getElem (by rw [← HN.out]; exact h1)]
        exact HW.out _ (List.getElem_mem _)
      generalize ws.getD j 0 = x at *
      have x0 : (0 : Int) ≤ (x : Int) := by omega
      have x1 : (x : Int) < 18446744073709551616 := by omega
      go_wp2_with fail
      go_loopw [3, 5, 12] (fun o c i wr' => ∃ (r : Nat) (os' : List Nat), r ≤ 4 ∧ i = .int .i64 r ∧ c = .int .u64 ((x / 65536 ^ r : Nat) : Int) ∧ os'.length = 4 * j + r ∧ P.Dg os' ∧ Hid (P.dv os' = wv (ws.take j) + 65536 ^ (4 * j) * (x % 65536 ^ r)) ∧ Hid (Ow wr' w.heap.size o os') ∧ Hid (Below w.heap.size w wr')) (fun _ _ i _ => 4 - (intOf i).toNat)
      case atStart => exact ⟨0, os, by omega, rfl, by simp, by omega, hdg, (by simp [HV.out, Nat.mod_one] : P.dv os = wv (ws.take j) + 65536 ^ (4 * j) * (x % 65536 ^ 0)), ho, hb⟩
      case round =>
        clear ho hb HV hdg hlen hcell
        obtain ⟨r, os, hr, rfl, rfl, hlen, hdg, HV, ho, hb⟩ := hrel
        by_cases h4 : r < 4
        · have i4 : (r : Int) < 4 := by omega
          have yl : x / 65536 ^ r < 18446744073709551616 := Nat.lt_of_le_of_lt (Nat.div_le_self _ _) xl
          have MS : Hid _ := P.mod_pow_succ' x r
          have DS : Hid (x / 65536 ^ (r + 1) = x / 65536 ^ r / 65536) := by rw [Nat.pow_succ, Nat.div_div_eq_div_mul]; exact (rfl : x / (65536 ^ r * 65536) = _)
          generalize x / 65536 ^ r = y at *
          have y0 : (0 : Int) ≤ (y : Int) := by omega
          have y1 : (y : Int) < 18446744073709551616 := by omega
          have TM : Hid ((y : Int) % 65536 = ((y % 65536 : Nat) : Int)) := (by omega : (y : Int) % 65536 = ((y % 65536 : Nat) : Int))
          go_wp2_with (at_builtin; refine wp_app rfl _ _ rfl w.heap.size _ os (y % 65536) _ wr rfl ho.out ((Below.refl _ _).alloc (Nat.le_refl _) _) ⟨wr.heap.size, 0, none⟩ rfl (by simp) TM.out (by omega) hb.out.size ?_)
          intro v' w3 o3 hb3
          have O3 : Hid _ := o3
          have b3 : Hid (Below w.heap.size w w3) := hb.out.trans hb3
          clear o3 hb3 ho hb
          go_wp2_with fail
          go_roundw
          case rel =>
            refine ⟨r + 1, os ++ [y % 65536], by omega, by go_num, ?_, by simp; omega, hdg.append (P.Dg.one (Nat.mod_lt _ (by decide))), ?_, O3, b3⟩
            · rw [DS.out]; exact congrArg (Value.int .u64) (by omega)
            · show P.dv (os ++ [y % 65536]) = _
              rw [P.dv_append, hlen, P.dv, P.dv, Nat.mul_zero, Nat.add_zero, HV.out, MS.out, Nat.mul_add, Nat.pow_add, Nat.mul_assoc, Nat.add_assoc]
          case measure => simp [intOf]; omega
        · have i4 : ¬ (r : Int) < 4 := by omega
          have r4 : r = 4 := by omega
          subst r4
          have VV : Hid (P.dv os = wv (ws.take (j + 1))) := by
            have h := HV.out
            rw [Nat.mod_eq_of_lt (show x < 65536 ^ 4 by omega)] at h
            show P.dv os = wv (ws.take (j + 1))
            rw [NX.out, h]
          go_wp2_with fail
          go_roundw
          case rel => exact ⟨j + 1, os, by omega, by go_num, by omega, hdg, VV, ho, hb⟩
          case measure => simp [intOf]; omega
    · have i1 : ¬ (j : Int) < (n : Int) := by omega
      have V : Hid (P.dv os = wv ws) := by
        have h := HV.out
        rw [List.take_of_length_le (by have := HN.out; omega)] at h
        exact h
      go_wp2_with fail
      refine (trim_fun _ os hdg (by omega) _ (Ow.sl ho.out)).mono ?_
      rintro e w1 ⟨⟨v', rfl, hs⟩, hb1⟩
      have b1 : Hid (Below w.heap.size w w1) := hb.out.trans (hb1.mono hb.out.size)
      have HS : Hid _ := hs
      clear hs hb1 hb ho
      go_wp2_with fail
      go_ret
      exact ⟨⟨v', rfl, by rw [← V.out]; exact HS.out⟩, b1.out⟩
end Go.Proofs.Ytmfbdacalenfdaa
