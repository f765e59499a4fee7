/- Texts that were joined: DDigP, DDig. -/
import Derived.Test.YtbninaelmbkboaaGrp36
import Derived.Deep.RegionHeld
import Derived.Test.YtbninaelmbkboaaStore
import Derived.Test.YtbninaelmbkboaaGrp7
/- The contract of sealringref.Digits: a row of words' digits. -/
namespace Go.Proofs.Ytbninaelmbkboaa
open Go.RowKit
attribute [local go_sem] World.cell?_alloc_some
/-- The number of a row of words. -/
def wv : List Nat → Nat
  | [] => 0
  | x :: xs => x + 18446744073709551616 * wv xs
theorem wv_take_succ (ws : List Nat) (j : Nat) (hj : j < ws.length) : wv (ws.take (j + 1)) = wv (ws.take j) + 65536 ^ (4 * j) * ws.getD j 0 := by
  induction ws generalizing j with
  | nil => simp at hj
  | cons x xs ih =>
    cases j with
    | zero => simp [wv]
    | succ j =>
      rw [List.take_succ_cons, wv, ih j (by simpa using hj), List.take_succ_cons, wv, List.getD_cons_succ, show 4 * (j + 1) = 4 * j + 4 by omega, Nat.pow_add]
      generalize 65536 ^ (4 * j) = B
      grind
set_option maxHeartbeats 2000000 in
theorem digits_fun (b : Nat) (ws : List Nat) (hw : ∀ x ∈ ws, x < 18446744073709551616) (n cp : Nat) (hn : n = ws.length) (ln : n < 65536) (w : World) (hc : ∀ j, j < n → w.cell? ⟨b, j, none⟩ = some (.int .u64 ((ws.getD j 0 : Nat) : Int))) :
    Calls Try.prog 56 #[.slice (some ⟨b, 0, none⟩) n cp] w fun e w' => (∃ v', e = .returned v' ∧ Sl w' v' (P.dg (wv ws))) ∧ Below w.heap.size w w' := by
  have HC : Hid _ := hc
  have HN : Hid _ := hn
  have HW : Hid _ := hw
  clear hc hn hw
  go_enter Try.func56, Try.ntmps56
  go_wp2_with fail
  go_loopw [3, 8] (fun o i wr => ∃ (j : Nat) (os : List Nat), j ≤ n ∧ i = .int .i64 j ∧ os.length = 4 * j ∧ P.Dg os ∧ Hid (P.dv os = wv (ws.take j)) ∧ Hid (Ow wr w.heap.size o os) ∧ Hid (Below w.heap.size w wr)) (fun _ i _ => n - (intOf i).toNat)
  case atStart => exact ⟨0, [], by omega, rfl, rfl, fun x hx => (by cases hx), (by simp [P.dv, wv] : P.dv [] = wv (ws.take 0)), Ow.nil _ _, Below.refl _ _⟩
  case round =>
    obtain ⟨j, os, hj, rfl, hlen, hdg, HV, ho, hb⟩ := hrel
    by_cases h1 : j < n
    · have i1 : (j : Int) < (n : Int) := by omega
      have i0 : (0 : Int) ≤ (j : Int) := by omega
      have hcell : wr.cell? ⟨b, j, none⟩ = some (.int .u64 ((ws.getD j 0 : Nat) : Int)) := (hb.out.cell (p := ⟨b, j, none⟩) (lt_of_cell (HC.out j h1))).trans (HC.out j h1)
      have NX : Hid _ := wv_take_succ ws j (by rw [← HN.out]; exact h1)
      have xl : ws.getD j 0 < 18446744073709551616 := by
        rw [List.getD_eq_getElem?_getD, List.getElem?_eq_getElem (by rw [← HN.out]; exact h1)]
        exact HW.out _ (List.getElem_mem _)
      generalize ws.getD j 0 = x at *
      have x0 : (0 : Int) ≤ (x : Int) := by omega
      have x1 : (x : Int) < 18446744073709551616 := by omega
      go_wp2_with fail
      go_loopw [3, 5, 12] (fun o c i wr' => ∃ (r : Nat) (os' : List Nat), r ≤ 4 ∧ i = .int .i64 r ∧ c = .int .u64 ((x / 65536 ^ r : Nat) : Int) ∧ os'.length = 4 * j + r ∧ P.Dg os' ∧ Hid (P.dv os' = wv (ws.take j) + 65536 ^ (4 * j) * (x % 65536 ^ r)) ∧ Hid (Ow wr' w.heap.size o os') ∧ Hid (Below w.heap.size w wr')) (fun _ _ i _ => 4 - (intOf i).toNat)
      case atStart => exact ⟨0, os, by omega, rfl, by simp, by omega, hdg, (by simp [HV.out, Nat.mod_one] : P.dv os = wv (ws.take j) + 65536 ^ (4 * j) * (x % 65536 ^ 0)), ho, hb⟩
      case round =>
        clear ho hb HV hdg hlen hcell
        obtain ⟨r, os, hr, rfl, rfl, hlen, hdg, HV, ho, hb⟩ := hrel
        by_cases h4 : r < 4
        · have i4 : (r : Int) < 4 := by omega
          have yl : x / 65536 ^ r < 18446744073709551616 := Nat.lt_of_le_of_lt (Nat.div_le_self _ _) xl
          have MS : Hid _ := P.mod_pow_succ' x r
          have DS : Hid (x / 65536 ^ (r + 1) = x / 65536 ^ r / 65536) := by rw [Nat.pow_succ, Nat.div_div_eq_div_mul]; exact (rfl : x / (65536 ^ r * 65536) = _)
          generalize x / 65536 ^ r = y at *
          have y0 : (0 : Int) ≤ (y : Int) := by omega
          have y1 : (y : Int) < 18446744073709551616 := by omega
          have TM : Hid ((y : Int) % 65536 = ((y % 65536 : Nat) : Int)) := (by omega : (y : Int) % 65536 = ((y % 65536 : Nat) : Int))
          go_wp2_with (at_builtin; refine wp_app rfl _ _ rfl w.heap.size _ os (y % 65536) _ wr rfl ho.out ((Below.refl _ _).alloc (Nat.le_refl _) _) ⟨wr.heap.size, 0, none⟩ rfl (by simp) TM.out (by omega) hb.out.size ?_)
          intro v' w3 o3 hb3
          have O3 : Hid _ := o3
          have b3 : Hid (Below w.heap.size w w3) := hb.out.trans hb3
          clear o3 hb3 ho hb
          go_wp2_with fail
          go_roundw
          case rel =>
            refine ⟨r + 1, os ++ [y % 65536], by omega, by go_num, ?_, by simp; omega, hdg.append (P.Dg.one (Nat.mod_lt _ (by decide))), ?_, O3, b3⟩
            · rw [DS.out]; exact congrArg (Value.int .u64) (by omega)
            · show P.dv (os ++ [y % 65536]) = _
              rw [P.dv_append, hlen, P.dv, P.dv, Nat.mul_zero, Nat.add_zero, HV.out, MS.out, Nat.mul_add, Nat.pow_add, Nat.mul_assoc, Nat.add_assoc]
          case measure => simp [intOf]; omega
        · have i4 : ¬ (r : Int) < 4 := by omega
          have r4 : r = 4 := by omega
          subst r4
          have VV : Hid (P.dv os = wv (ws.take (j + 1))) := by
            have h := HV.out
            rw [Nat.mod_eq_of_lt (show x < 65536 ^ 4 by omega)] at h
            show P.dv os = wv (ws.take (j + 1))
            rw [NX.out, h]
          go_wp2_with fail
          go_roundw
          case rel => exact ⟨j + 1, os, by omega, by go_num, by omega, hdg, VV, ho, hb⟩
          case measure => simp [intOf]; omega
    · have i1 : ¬ (j : Int) < (n : Int) := by omega
      have V : Hid (P.dv os = wv ws) := by
        have h := HV.out
        rw [List.take_of_length_le (by have := HN.out; omega)] at h
        exact h
      go_wp2_with fail
      refine (trim_fun _ os hdg (by omega) _ (Ow.sl ho.out)).mono ?_
      rintro e w1 ⟨⟨v', rfl, hs⟩, hb1⟩
      have b1 : Hid (Below w.heap.size w w1) := hb.out.trans (hb1.mono hb.out.size)
      have HS : Hid _ := hs
      clear hs hb1 hb ho
      go_wp2_with fail
      go_ret
      exact ⟨⟨v', rfl, by rw [← V.out]; exact HS.out⟩, b1.out⟩
end Go.Proofs.Ytbninaelmbkboaa

/- The contract of sealringref.OfNum and OfWide. -/
namespace Go.Proofs.Ytbninaelmbkboaa
open Go.RowKit
attribute [local go_sem] World.cell?_alloc_some
theorem toNat_word {x : Int} (h : Word x) : ((x.toNat : Nat) : Int) = x ∧ x.toNat < 18446744073709551616 := ⟨Int.toNat_of_nonneg h.1, by have := h.1; have := h.2; omega⟩
theorem wv_num {x : Nm} (h : x.ok) : wv [x.a.toNat, x.b.toNat, x.c.toNat, x.d.toNat] = x.nat := by
  have h1 := Nm.nat_cast h
  unfold Nm.val at h1
  have a1 := (toNat_word h.a).1; have b1 := (toNat_word h.b).1; have c1 := (toNat_word h.c).1; have d1 := (toNat_word h.d).1
  simp only [wv]
  omega
set_option maxHeartbeats 1000000 in
theorem ofNum_fun (x : Nm) (hx : x.ok) (w : World) :
    Calls Try.prog 24 #[N x] w fun e w' => (∃ v', e = .returned v' ∧ Sl w' v' (P.dg x.nat)) ∧ Below w.heap.size w w' := by
  have D : Hid (∀ (b : Nat) (w : World), (∀ j, j < 4 → w.cell? ⟨b, j, none⟩ = some (.int .u64 (([x.a.toNat, x.b.toNat, x.c.toNat, x.d.toNat].getD j 0 : Nat) : Int))) → Calls Try.prog 56 #[.slice (some ⟨b, 0, none⟩) 4 4] w fun e w' => (∃ v', e = .returned v' ∧ Sl w' v' (P.dg x.nat)) ∧ Below w.heap.size w w') := by
    intro b w h
    rw [← wv_num hx]
    refine digits_fun b _ ?_ 4 4 rfl (by decide) w h
    intro y hy
    simp only [List.mem_cons, List.not_mem_nil, or_false] at hy
    rcases hy with rfl | rfl | rfl | rfl
    · exact (toNat_word hx.a).2
    · exact (toNat_word hx.b).2
    · exact (toNat_word hx.c).2
    · exact (toNat_word hx.d).2
  have CE : Hid _ := And.intro (toNat_word hx.a).1 (And.intro (toNat_word hx.b).1 (And.intro (toNat_word hx.c).1 (toNat_word hx.d).1))
  go_enter Try.func24, Try.ntmps24
  go_wp2_with fail
  refine (D.out _ _ ?_).mono ?_
  · obtain ⟨ea, eb, ec, ed⟩ := CE.out
    intro j hj
    match j, hj with
    | 0, _ => simp [ea]
    | 1, _ => simp [eb]
    | 2, _ => simp [ec]
    | 3, _ => simp [ed]
  rintro e w1 ⟨⟨v', rfl, hs⟩, hb1⟩
  have HS : Hid _ := hs
  have b1 : Hid (Below w.heap.size w w1) := Below.trans (((Below.refl _ _).alloc (by simp) _).alloc (by simp) _) (hb1.mono (by simp <;> omega))
  clear hs hb1
  go_wp2_with fail
  go_ret
  exact ⟨⟨v', rfl, HS.out⟩, b1.out⟩
theorem wv_wide {l h : Nm} (ol : l.ok) (oh : h.ok) : wv [l.a.toNat, l.b.toNat, l.c.toNat, l.d.toNat, h.a.toNat, h.b.toNat, h.c.toNat, h.d.toNat] = V l h := by
  rw [V_nat ol oh, ← wv_num ol, ← wv_num oh]
  simp only [wv]
  omega
end Go.Proofs.Ytbninaelmbkboaa
