/- The contract of der.ReadHex. -/
import Derived.Test.YtkgfeacednomfaaHex
import Derived.Test.YtkgfeacednomfaaSGet
namespace Go.Proofs.Ytkgfeacednomfaa
open Go.RowKit
set_option linter.unusedSimpArgs false
theorem or16 : ∀ p q : Fin 16, bits .or .i64 ((p.val : Int) * 16) (q.val : Int) = ((p.val * 16 + q.val : Nat) : Int) := by decide +kernel
/-- What ReadHex answers. -/
def RHx (cs : List Nat) (e : Ending) (w' : World) : Prop :=
  ((∃ u bs, e = .returned (.tuple #[u, .int .i64 0]) ∧ By w' u bs ∧ (∀ y ∈ bs, y < 256) ∧ hexS bs = cs) ∨ ((∃ i, i < cs.length ∧ hexV (cs.getD i 0) < 0) ∧ e = .returned (.tuple #[.slice none 0 0, .int .i64 4])))
set_option maxRecDepth 20000 in
set_option maxHeartbeats 2000000 in
theorem readHex_even (cs : List Nat) (low : ∀ x ∈ cs, x < 256) (n : Nat) (hn : cs.length = 2 * n) (hl : n ≤ 140737488351232) (w : World) :
    Calls Try.prog 49 #[.string (sOf cs)] w fun e w' => RHx cs e w' ∧ Below w.heap.size w w' := by
  have ss : (sOf cs).size = 2 * n := by rw [sOf_size]; exact hn
  have SG : Hid (∀ j h, ((sOf cs)[j]'h).toNat = cs.getD j 0) := sOf_get low
  have LO : Hid (∀ j, cs.getD j 0 < 256) := by
    refine (fun j => ?_ : ∀ j, cs.getD j 0 < 256)
    by_cases hj : j < cs.length
    · rw [List.getD_eq_getElem?_getD, List.getElem?_eq_getElem hj]
      exact low _ (List.getElem_mem hj)
    · simp [List.getD_eq_getElem?_getD, List.getElem?_eq_none (Nat.le_of_not_lt hj)]
  have HN : Hid (cs.length = 2 * n) := hn
  generalize sOf cs = s at *
  clear hn low
  have z1 : (s.size : Int) % 2 = 0 := by omega
  have z2 : (s.size : Int) / 2 = (n : Int) := by omega
  have n0 : (0 : Int) ≤ (n : Int) := by omega
  have n1 : (n : Int) ≤ 140737488351232 := by omega
  go_enter Try.func49, Try.ntmps49
  go_wp2_with (at_make; refine wp_mkB rfl _ _ rfl w.heap.size n _ _ rfl rfl (by omega) (by omega) (by omega) (Nat.le_refl _) ?_)
  intro w1 o1 hb1
  have O1 : Hid (Ob w1 w.heap.size (.slice (some ⟨w.heap.size, 0, none⟩) n n) (List.replicate n 0)) := o1
  have B1 : Hid (Below w.heap.size w w1) := hb1
  clear o1 hb1
  go_wp2_with fail
  go_loopw [18] (fun i wr => ∃ (k : Nat) (os : List Nat), k ≤ n ∧ i = .int .i64 k ∧ os.length = n ∧ Hid (∀ y ∈ os, y < 256) ∧ Hid (∀ j, j < k → hexd (os.getD j 0 / 16) = cs.getD (2 * j) 0 ∧ hexd (os.getD j 0 % 16) = cs.getD (2 * j + 1) 0) ∧ Hid (Ob wr w.heap.size (.slice (some ⟨w.heap.size, 0, none⟩) n n) os) ∧ Hid (Below w.heap.size w wr)) (fun i _ => n - (intOf i).toNat)
  case atStart => exact ⟨0, List.replicate n 0, by omega, rfl, by simp, (fun y hy => by rw [(List.mem_replicate.1 hy).2]; decide : ∀ y ∈ List.replicate n 0, y < 256), (fun j hj => absurd hj (by omega) : ∀ j, j < 0 → hexd ((List.replicate n 0).getD j 0 / 16) = cs.getD (2 * j) 0 ∧ hexd ((List.replicate n 0).getD j 0 % 16) = cs.getD (2 * j + 1) 0), O1, B1⟩
  case round =>
    clear O1 B1
    obtain ⟨k, os, hk, rfl, hlen, hlo, hv, ho, hb⟩ := hrel
    by_cases h1 : k < n
    · have i1 : (k : Int) < (n : Int) := by omega
      have k0 : (0 : Int) ≤ (k : Int) := by omega
      obtain ⟨m, hm⟩ : ∃ m, m = 2 * k := ⟨_, rfl⟩
      obtain ⟨m1, hm1⟩ : ∃ m1, m1 = 2 * k + 1 := ⟨_, rfl⟩
      have g1 := SG.out m
      have g2 := SG.out m1
      have l1 := LO.out m
      have l2 := LO.out m1
      have y1 : m < s.size := by omega
      have y2 : m1 < s.size := by omega
      obtain ⟨c1, hc1⟩ : ∃ c1, c1 = cs.getD m 0 := ⟨_, rfl⟩
      obtain ⟨c2, hc2⟩ : ∃ c2, c2 = cs.getD m1 0 := ⟨_, rfl⟩
      rw [← hc1] at g1 l1
      rw [← hc2] at g2 l2
      have HC1 : Hid (c1 = cs.getD (2 * k) 0) := by rw [← hm]; exact hc1
      have HC2 : Hid (c2 = cs.getD (2 * k + 1) 0) := by rw [← hm1]; exact hc2
      have e2 : (2 : Int) * (k : Int) = (m : Int) := by omega
      have e3 : (m : Int) + 1 = (m1 : Int) := by omega
      have HM : Hid (m = 2 * k ∧ m1 = 2 * k + 1) := ⟨hm, hm1⟩
      clear hm hm1
      clear hc1 hc2
      go_wp2_with fail
      refine (index_fun c1 l1 wr).mono ?_
      rintro e w2 ⟨rfl, hw⟩
      have hw2 := hw.symm
      subst hw2
      clear hw
      go_wp2_with fail
      refine (index_fun c2 l2 wr).mono ?_
      rintro e w2 ⟨rfl, hw⟩
      have hw2 := hw.symm
      subst hw2
      clear hw
      by_cases v1 : 0 ≤ hexV c1
      · by_cases v2 : 0 ≤ hexV c2
        · obtain ⟨p, hp, p16, hp2⟩ := hexd_hexV v1
          obtain ⟨q, hq, q16, hq2⟩ := hexd_hexV v2
          rw [hp, hq]
          have oq := or16 ⟨p, p16⟩ ⟨q, q16⟩
          simp only at oq
          obtain ⟨r, hr⟩ : ∃ r, r = p * 16 + q := ⟨_, rfl⟩
          rw [← hr] at oq
          have p0 : (0 : Int) ≤ (p : Int) := by omega
          have q0 : (0 : Int) ≤ (q : Int) := by omega
          have p1 : (p : Int) < 16 := by omega
          have q1 : (q : Int) < 16 := by omega
          have r0 : (0 : Int) ≤ (r : Int) := by omega
          have r1 : (r : Int) < 256 := by omega
          have HR : Hid (r / 16 = p ∧ r % 16 = q ∧ r < 256) := (⟨by omega, by omega, by omega⟩ : r / 16 = p ∧ r % 16 = q ∧ r < 256)
          have HP : Hid (hexd p = c1 ∧ hexd q = c2) := ⟨hp2, hq2⟩
          obtain ⟨d3, d4⟩ := Ob.cell ho.out hlen.symm k (by omega)
          clear v1 v2 hp hq hr hp2 hq2 g1 g2
          go_wp2_with fail
          go_roundw
          case rel =>
            have SS := Ob.setAt ho.out hlen.symm (Nat.le_refl _) k r _ rfl
            refine ⟨k + 1, os.set k r, by omega, by go_num, by rw [List.length_set]; exact hlen, ?_, ?_, SS.1, hb.out.trans SS.2⟩
            · refine (fun y hy => ?_ : ∀ y ∈ os.set k r, y < 256)
              rcases List.mem_or_eq_of_mem_set hy with h | h
              · exact hlo.out y h
              · rw [h]; exact HR.out.2.2
            · refine (fun j hj => ?_ : ∀ j, j < k + 1 → hexd ((os.set k r).getD j 0 / 16) = cs.getD (2 * j) 0 ∧ hexd ((os.set k r).getD j 0 % 16) = cs.getD (2 * j + 1) 0)
              by_cases e : j = k
              · subst e
                rw [List.getD_eq_getElem?_getD, List.getElem?_set_self (by omega), Option.getD_some, HR.out.1, HR.out.2.1, HP.out.1, HP.out.2, ← HC1.out, ← HC2.out]
                exact ⟨rfl, rfl⟩
              · rw [List.getD_eq_getElem?_getD, List.getElem?_set_ne (Ne.symm e), ← List.getD_eq_getElem?_getD]
                exact hv.out j (by omega)
          case measure => simp [intOf]; omega
        · have v3 := hexV_le c2
          have v4 := hexV_le c1
          have NG : Hid (∃ i, i < cs.length ∧ hexV (cs.getD i 0) < 0) := (⟨2 * k + 1, by have := HN.out; omega, by rw [← HC2.out]; omega⟩ : ∃ i, i < cs.length ∧ hexV (cs.getD i 0) < 0)
          generalize hexV c2 = q at *
          generalize hexV c1 = p at *
          have v5 : q < 0 := by omega
          have v6 : ¬ p < 0 := by omega
          clear v1 v2
          go_wp2_with fail
          go_ret2
          exact ⟨.inr ⟨NG.out, rfl⟩, hb.out⟩
      · have v3 := hexV_le c2
        have v4 := hexV_le c1
        have NG : Hid (∃ i, i < cs.length ∧ hexV (cs.getD i 0) < 0) := (⟨2 * k, by have := HN.out; omega, by rw [← HC1.out]; omega⟩ : ∃ i, i < cs.length ∧ hexV (cs.getD i 0) < 0)
        generalize hexV c2 = q at *
        generalize hexV c1 = p at *
        have v6 : p < 0 := by omega
        clear v1
        go_wp2_with fail
        all_goals go_ret2
        all_goals exact ⟨.inr ⟨NG.out, rfl⟩, hb.out⟩
    · have i1 : ¬ (k : Int) < (n : Int) := by omega
      have e : k = n := by omega
      subst e
      have E : Hid (hexS os = cs) := hexS_of (by rw [HN.out, hlen]) (fun j hj => hv.out j (by omega))
      go_wp2_with fail
      go_ret2
      exact ⟨.inl ⟨_, os, rfl, ho.out.by, hlo.out, E.out⟩, hb.out⟩
set_option maxHeartbeats 1000000 in
theorem readHex_odd (s : ByteArray) (h : s.size % 2 = 1) (w : World) :
    Calls Try.prog 49 #[.string s] w fun e w' => e = .returned (.tuple #[.slice none 0 0, .int .i64 4]) ∧ Below w.heap.size w w' := by
  have z1 : (s.size : Int) % 2 = 1 := by omega
  go_enter Try.func49, Try.ntmps49
  go_wp2_with fail
  go_ret2
  exact ⟨rfl, Below.refl _ _⟩
/-- der.ReadHex: the bytes of which the text is; or none. -/
theorem readHex_fun (cs : List Nat) (low : ∀ x ∈ cs, x < 256) (hl : cs.length ≤ 281474976702464) (w : World) :
    Calls Try.prog 49 #[.string (sOf cs)] w fun e w' => ((∃ u bs, e = .returned (.tuple #[u, .int .i64 0]) ∧ By w' u bs ∧ (∀ y ∈ bs, y < 256) ∧ hexS bs = cs) ∨ ((¬ ∃ bs, (∀ y ∈ bs, y < 256) ∧ hexS bs = cs) ∧ e = .returned (.tuple #[.slice none 0 0, .int .i64 4]))) ∧ Below w.heap.size w w' := by
  rcases Nat.mod_two_eq_zero_or_one cs.length with h | h
  · refine (readHex_even cs low (cs.length / 2) (by omega) (by omega) w).mono ?_
    rintro e w' ⟨h1, h2⟩
    refine ⟨?_, h2⟩
    rcases h1 with h1 | ⟨⟨i, hi, hv⟩, rfl⟩
    · exact .inl h1
    · refine .inr ⟨?_, rfl⟩
      rintro ⟨bs, hlo, rfl⟩
      rw [hexS_len] at hi
      have hj : i / 2 < bs.length := by omega
      have e := hexS_get bs (i / 2) _ (List.getElem?_eq_getElem hj)
      have lx := hlo _ (List.getElem_mem hj)
      rcases Nat.mod_two_eq_zero_or_one i with hm | hm
      · rw [show 2 * (i / 2) = i by omega] at e
        rw [List.getD_eq_getElem?_getD, e.1, Option.getD_some, hexV_hexd (by omega)] at hv
        omega
      · rw [show 2 * (i / 2) + 1 = i by omega] at e
        rw [List.getD_eq_getElem?_getD, e.2, Option.getD_some, hexV_hexd (by omega)] at hv
        omega
  · refine (readHex_odd (sOf cs) (by rw [sOf_size]; exact h) w).mono ?_
    rintro e w' ⟨rfl, h2⟩
    refine ⟨.inr ⟨?_, rfl⟩, h2⟩
    rintro ⟨bs, _, rfl⟩
    rw [hexS_len] at h
    omega
end Go.Proofs.Ytkgfeacednomfaa
