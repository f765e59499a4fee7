/- The contracts of der.readLength and der.First. -/
import Derived.Test.YtohliojdmmbcdabQDerM
namespace Go.Proofs.Ytohliojdmmbcdab
open Go.RowKit
/-- What readLength answers: of how many bytes it tells, how many it has; or what is wrong. -/
def lenS (b : List Nat) : Nat × Nat × Nat :=
  if b.length < 1 then (0, 0, 3)
  else if b.getD 0 0 < 128 then (b.getD 0 0, 1, 0)
  else if b.getD 0 0 = 129 then if b.length < 2 then (0, 0, 3) else if b.getD 1 0 < 128 then (0, 0, 4) else (b.getD 1 0, 2, 0)
  else if b.getD 0 0 = 130 then if b.length < 3 then (0, 0, 3) else if b.getD 1 0 * 256 + b.getD 2 0 < 256 then (0, 0, 4) else (b.getD 1 0 * 256 + b.getD 2 0, 3, 0)
  else (0, 0, 4)
abbrev i64 (n : Nat) : Value := .int .i64 ((n : Nat) : Int)
abbrev lenV3 (r : Nat × Nat × Nat) : Value := .tuple #[i64 r.1, i64 r.2.1, i64 r.2.2]
set_option linter.unusedSimpArgs false
set_option maxRecDepth 20000 in
set_option maxHeartbeats 2000000 in
theorem readLength_fun (v : Value) (b : List Nat) (low : ∀ x ∈ b, x < 256) (w : World) (h : By w v b) :
    Calls Try.prog 17 #[v] w fun e w' => e = .returned (lenV3 (lenS b)) ∧ w' = w := by
  obtain ⟨a, c, rfl, hc, _, h3⟩ := h
  have lw : ∀ j, b.getD j 0 < 256 := fun j => by
    by_cases hj : j < b.length
    · rw [List.getD_eq_getElem?_getD, List.getElem?_eq_getElem hj]
      exact low _ (List.getElem_mem hj)
    · simp [List.getD_eq_getElem?_getD, List.getElem?_eq_none (Nat.le_of_not_lt hj)]
  have l0 := lw 0
  have l1 := lw 1
  have l2 := lw 2
  clear lw low
  by_cases p0 : b.length < 1
  · have i0 : b.length = 0 := by omega
    have e : lenS b = (0, 0, 3) := by simp [lenS, p0]
    rw [e, i0]
    clear h3
    go_enter Try.func17, Try.ntmps17
    go_wp2_with fail
    go_ret3
    exact ⟨rfl, rfl⟩
  · obtain ⟨bk, o, rfl, hcell⟩ := h3 (by omega)
    have c0 := hcell 0 (by omega)
    rw [Nat.add_zero] at c0
    have HC : Hid _ := hcell
    have n0 : ¬ (b.length : Int) = 0 := by omega
    have n1 : (0 : Int) < (b.length : Int) := by omega
    clear hcell h3
    by_cases p1 : b.getD 0 0 < 128
    · have e : lenS b = (b.getD 0 0, 1, 0) := by unfold lenS; rw [if_neg p0, if_pos p1]
      rw [e]
      generalize b.getD 0 0 = d at *
      have d1 : (d : Int) < 128 := by omega
      have d0 : (0 : Int) ≤ (d : Int) := by omega
      clear e
      go_enter Try.func17, Try.ntmps17
      go_wp2_with fail
      go_ret3
      exact ⟨rfl, rfl⟩
    · by_cases p2 : b.getD 0 0 = 129
      · by_cases p3 : b.length < 2
        · have e : lenS b = (0, 0, 3) := by unfold lenS; rw [if_neg p0, if_neg p1, if_pos p2, if_pos p3]
          rw [e]
          rw [p2] at c0
          have b1 : b.length = 1 := by omega
          clear e p1 p2 l0 l1 l2
          rw [b1]
          go_enter Try.func17, Try.ntmps17
          go_wp2_with fail
          go_ret3
          exact ⟨rfl, rfl⟩
        · have c1 := HC.out 1 (by omega)
          rw [p2] at c0
          have hc1 : ¬ c = 1 := by omega
          have hc2 : 2 ≤ c := by omega
          have m1 : ¬ (b.length : Int) < 2 := by omega
          by_cases p4 : b.getD 1 0 < 128
          · have e : lenS b = (0, 0, 4) := by unfold lenS; rw [if_neg p0, if_neg p1, if_pos p2, if_neg p3, if_pos p4]
            rw [e]
            generalize b.getD 1 0 = d at *
            have E : Hid ((lenB d).length = 1) := (by simp [lenB, p4] : (lenB d).length = 1)
            clear p4
            have d0 : (0 : Int) ≤ (d : Int) := by omega
            have d1 : (d : Int) < 256 := by omega
            clear e p1 p2 l0 l1 l2
            go_enter Try.func17, Try.ntmps17
            go_wp2_with fail
            refine wp_loop_rounds 2 ?_
            rw [rounds_succ]
            go_wp2_with fail
            rw [rounds_succ]
            go_wp2_with fail
            refine (lengthSize_fun d w).mono ?_
            rintro e w' ⟨rfl, hw'⟩
            have hw2 := hw'.symm
            subst hw2
            clear hw'
            rw [E.out]
            go_wp2_with fail
            go_ret3
            exact ⟨rfl, rfl⟩
          · have e : lenS b = (b.getD 1 0, 2, 0) := by unfold lenS; rw [if_neg p0, if_neg p1, if_pos p2, if_neg p3, if_neg p4]
            rw [e]
            generalize b.getD 1 0 = d at *
            have E : Hid ((lenB d).length = 2) := (by simp [lenB, p4, l1] : (lenB d).length = 2)
            clear p4
            have d0 : (0 : Int) ≤ (d : Int) := by omega
            have d1 : (d : Int) < 256 := by omega
            clear e p1 p2 l0 l1 l2
            go_enter Try.func17, Try.ntmps17
            go_wp2_with fail
            refine wp_loop_rounds 2 ?_
            rw [rounds_succ]
            go_wp2_with fail
            rw [rounds_succ]
            go_wp2_with fail
            refine (lengthSize_fun d w).mono ?_
            rintro e w' ⟨rfl, hw'⟩
            have hw2 := hw'.symm
            subst hw2
            clear hw'
            rw [E.out]
            go_wp2_with fail
            go_ret3
            exact ⟨rfl, rfl⟩
      · by_cases p5 : b.getD 0 0 = 130
        · by_cases p3 : b.length < 3
          · have e : lenS b = (0, 0, 3) := by unfold lenS; rw [if_neg p0, if_neg p1, if_neg p2, if_pos p5, if_pos p3]
            rw [e]
            rw [p5] at c0
            have m1 : (b.length : Int) < 3 := by omega
            clear e p1 p2 l0 l1 l2
            go_enter Try.func17, Try.ntmps17
            go_wp2_with fail
            go_ret3
            exact ⟨rfl, rfl⟩
          · have c1 := HC.out 1 (by omega)
            have c2 := HC.out 2 (by omega)
            rw [p5] at c0
            have hc1 : ¬ c = 1 := by omega
            have hc2 : 3 ≤ c := by omega
            have m1 : ¬ (b.length : Int) < 3 := by omega
            by_cases p4 : b.getD 1 0 * 256 + b.getD 2 0 < 256
            · have e : lenS b = (0, 0, 4) := by unfold lenS; rw [if_neg p0, if_neg p1, if_neg p2, if_pos p5, if_neg p3, if_pos p4]
              rw [e]
              have E : Hid ((lenB (b.getD 1 0 * 256 + b.getD 2 0)).length < 3) := by
                have : (lenB (b.getD 1 0 * 256 + b.getD 2 0)).length < 3 := by
                  unfold lenB
                  by_cases h1 : b.getD 1 0 * 256 + b.getD 2 0 < 128
                  · rw [if_pos h1]; simp
                  · rw [if_neg h1, if_pos p4]; simp
                exact this
              generalize b.getD 1 0 = d at *
              generalize b.getD 2 0 = d' at *
              have d0 : (0 : Int) ≤ (d : Int) := by omega
              have d1 : (d : Int) < 256 := by omega
              have d2 : (0 : Int) ≤ (d' : Int) := by omega
              have d3 : (d' : Int) < 256 := by omega
              clear e p1 p2 l0 l1 l2 p4
              go_enter Try.func17, Try.ntmps17
              go_wp2_with fail
              refine wp_loop_rounds 3 ?_
              rw [rounds_succ]
              go_wp2_with fail
              rw [rounds_succ]
              go_wp2_with fail
              rw [rounds_succ]
              go_wp2_with fail
              refine (lengthSize_fun (d * 256 + d') w).mono ?_
              rintro e w' ⟨rfl, hw'⟩
              have hw2 := hw'.symm
              subst hw2
              clear hw'
              obtain ⟨q, hq⟩ : ∃ q, q = (lenB (d * 256 + d')).length := ⟨_, rfl⟩
              rw [← hq] at E ⊢
              have q1 : (q : Int) < 3 := by have := E.out; omega
              go_wp2_with fail
              go_ret3
              exact ⟨rfl, rfl⟩
            · have e : lenS b = (b.getD 1 0 * 256 + b.getD 2 0, 3, 0) := by unfold lenS; rw [if_neg p0, if_neg p1, if_neg p2, if_pos p5, if_neg p3, if_neg p4]
              rw [e]
              have E : Hid ((lenB (b.getD 1 0 * 256 + b.getD 2 0)).length = 3) := by
                have : (lenB (b.getD 1 0 * 256 + b.getD 2 0)).length = 3 := by
                  unfold lenB
                  rw [if_neg (by omega), if_neg p4]
                  simp
                exact this
              generalize b.getD 1 0 = d at *
              generalize b.getD 2 0 = d' at *
              have d0 : (0 : Int) ≤ (d : Int) := by omega
              have d1 : (d : Int) < 256 := by omega
              have d2 : (0 : Int) ≤ (d' : Int) := by omega
              have d3 : (d' : Int) < 256 := by omega
              clear e p1 p2 l0 l1 l2 p4
              go_enter Try.func17, Try.ntmps17
              go_wp2_with fail
              refine wp_loop_rounds 3 ?_
              rw [rounds_succ]
              go_wp2_with fail
              rw [rounds_succ]
              go_wp2_with fail
              rw [rounds_succ]
              go_wp2_with fail
              refine (lengthSize_fun (d * 256 + d') w).mono ?_
              rintro e w' ⟨rfl, hw'⟩
              have hw2 := hw'.symm
              subst hw2
              clear hw'
              rw [E.out]
              go_wp2_with fail
              go_ret3
              exact ⟨by go_num, rfl⟩
        · have e : lenS b = (0, 0, 4) := by unfold lenS; rw [if_neg p0, if_neg p1, if_neg p2, if_neg p5]
          rw [e]
          generalize b.getD 0 0 = d at *
          have d0 : ¬ (d : Int) < 128 := by omega
          have d1 : ¬ (d : Int) = 129 := by omega
          have d2 : ¬ (d : Int) = 130 := by omega
          have d3 : ((d : Int) != 129) = true := by simp [d1]
          have d4 : ((d : Int) != 130) = true := by simp [d2]
          clear d1 d2
          clear e
          go_enter Try.func17, Try.ntmps17
          go_wp2_with fail
          go_ret3
          exact ⟨rfl, rfl⟩
/-- What First answers, by what readLength does. -/
def fromL (b : List Nat) (r : Nat × Nat × Nat) : Sum Nat (It × Nat) := match r.2.2 with
  | 0 => finS b r.1 (1 + r.2.1)
  | e + 1 => .inl (e + 1)
theorem lenS_first {b : List Nat} (h : 1 ≤ b.length) : firstS b = fromL b (lenS b.tail) := by
  match b, h with
  | t :: r, _ =>
    simp only [List.tail_cons]
    unfold firstS lenS
    simp only [List.getD_cons_succ, List.getD_cons_zero, List.length_cons]
    by_cases p0 : r.length < 1
    · rw [if_pos (by omega), if_pos p0]; rfl
    · rw [if_neg (by omega), if_neg p0]
      by_cases p1 : r.getD 0 0 < 128
      · rw [if_pos p1, if_pos p1]; rfl
      · rw [if_neg p1, if_neg p1]
        by_cases p2 : r.getD 0 0 = 129
        · rw [if_pos p2, if_pos p2]
          by_cases p3 : r.length < 2
          · rw [if_pos (by omega), if_pos p3]; rfl
          · rw [if_neg (by omega), if_neg p3]
            by_cases p4 : r.getD 1 0 < 128
            · rw [if_pos p4, if_pos p4]; rfl
            · rw [if_neg p4, if_neg p4]; rfl
        · rw [if_neg p2, if_neg p2]
          by_cases p5 : r.getD 0 0 = 130
          · rw [if_pos p5, if_pos p5]
            by_cases p3 : r.length < 3
            · rw [if_pos (by omega), if_pos p3]; rfl
            · rw [if_neg (by omega), if_neg p3]
              by_cases p4 : r.getD 1 0 * 256 + r.getD 2 0 < 256
              · rw [if_pos p4, if_pos p4]; rfl
              · rw [if_neg p4, if_neg p4]; rfl
          · rw [if_neg p5, if_neg p5]; rfl
theorem lenS_bound {b : List Nat} (low : ∀ x ∈ b, x < 256) : (lenS b).1 ≤ 65535 ∧ (lenS b).2.1 ≤ 3 ∧ (lenS b).2.2 ≤ 4 ∧ ((lenS b).2.2 = 0 → (lenS b).2.1 ≤ b.length) := by
  have lw : ∀ j, b.getD j 0 < 256 := fun j => by
    by_cases hj : j < b.length
    · rw [List.getD_eq_getElem?_getD, List.getElem?_eq_getElem hj]
      exact low _ (List.getElem_mem hj)
    · simp [List.getD_eq_getElem?_getD, List.getElem?_eq_none (Nat.le_of_not_lt hj)]
  have l0 := lw 0
  have l1 := lw 1
  have l2 := lw 2
  unfold lenS
  by_cases p0 : b.length < 1
  · rw [if_pos p0]; simp
  · rw [if_neg p0]
    by_cases p1 : b.getD 0 0 < 128
    · rw [if_pos p1]; simp only; omega
    · rw [if_neg p1]
      by_cases p2 : b.getD 0 0 = 129
      · rw [if_pos p2]
        by_cases p3 : b.length < 2
        · rw [if_pos p3]; simp
        · rw [if_neg p3]
          by_cases p4 : b.getD 1 0 < 128
          · rw [if_pos p4]; simp
          · rw [if_neg p4]; simp only; omega
      · rw [if_neg p2]
        by_cases p5 : b.getD 0 0 = 130
        · rw [if_pos p5]
          by_cases p3 : b.length < 3
          · rw [if_pos p3]; simp
          · rw [if_neg p3]
            by_cases p4 : b.getD 1 0 * 256 + b.getD 2 0 < 256
            · rw [if_pos p4]; simp
            · rw [if_neg p4]; simp only; omega
        · rw [if_neg p5]; simp
end Go.Proofs.Ytohliojdmmbcdab
