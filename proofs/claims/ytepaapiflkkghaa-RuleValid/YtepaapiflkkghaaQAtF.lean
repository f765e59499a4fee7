/- What is wrong with attributes, as the document has it. -/
import Derived.Test.YtepaapiflkkghaaQAtCw
import Derived.Test.YtepaapiflkkghaaQAtFl
import Derived.Deep.CutRange
namespace Go.Proofs.Ytepaapiflkkghaa
open Go.RowKit
attribute [local go_sem] World.cell?_alloc_some cell_alloc2 cell_alloc3 cell_alloc4 frozen?_alloc_cells frozen_out
set_option linter.unusedSimpArgs false
set_option maxRecDepth 20000 in
set_option maxHeartbeats 8000000 in
theorem attrsFault_walk (l : List Ar) (n : Nat) (hn : l.length = n) (n24 : n ≤ 24) (b o c : Nat) (w : World) (HA : Hid (Ats w (.slice (some ⟨b, o, none⟩) n c) l)) :
    Calls Try.prog 41 #[.slice (some ⟨b, o, none⟩) n c] w fun e w' => e = .returned (.int .i64 ((fltL [] l : Nat) : Int)) ∧ Below w.heap.size w w' := by
  have g24 : ¬ (n : Int) > 24 := by omega
  have HN : Hid (l.length = n ∧ n ≤ 24 ∧ n ≤ c) := ⟨hn, n24, by
    obtain ⟨a', c', e, h, -⟩ := HA.out
    cases e
    omega⟩
  clear hn n24
  go_enter Try.func41, Try.ntmps41
  go_wp2_with fail
  clear g24
  go_loopw [15] (fun i wr => ∃ j : Nat, j ≤ n ∧ i = .int .i64 (j : Int) ∧ Hid (fltL [] l = fltL (l.take j) (l.drop j)) ∧ Hid (Below w.heap.size w wr)) (fun i _ => n - (intOf i).toNat)
  case atStart => exact ⟨0, Nat.zero_le _, rfl, rfl, Below.refl _ _⟩
  case round =>
    obtain ⟨j, hj, rfl, no, bk⟩ := hrel
    by_cases hlt : j < n
    · have i1 : (j : Int) < (n : Int) := by omega
      have i0 : (0 : Int) ≤ (j : Int) := by omega
      have j20 : (j : Int) < 24 := by have := HN.out; omega
      have HJ : Hid (j < n) := hlt
      obtain ⟨x, hx⟩ : ∃ x, Hid (l[j]? = some x) := ⟨l[j]'(by have := HN.out; omega), List.getElem?_eq_getElem _⟩
      obtain ⟨xa, xc, ex⟩ := HA.out.elem hx.out
      have E1 : Hid (AtE wr b (o + j * 2) x xa xc) := ex.up bk.out
      have E2 : Hid (∀ (C : Array Value) t, AtE (wr.alloc (.cells C t)) b (o + j * 2) x xa xc) := fun C t => ex.up (bk.out.alloc bk.out.size _)
      have s2 : Hid (Kn (wr.alloc (.cells #[.int .i64 x.k, .slice xa x.v.length xc] 64)) [(wr.heap.size, [.int .i64 x.k, .slice xa x.v.length xc])]) := (Kn.nil wr).al [.int .i64 x.k, .slice xa x.v.length xc] 64 rfl
      have b2 : Hid (Below w.heap.size w (wr.alloc (.cells #[.int .i64 x.k, .slice xa x.v.length xc] 64))) := bk.out.alloc bk.out.size _
      have ed : l.drop j = x :: l.drop (j + 1) := by
        have hl : j < l.length := (List.getElem?_eq_some_iff.1 hx.out).1
        rw [List.drop_eq_getElem_cons hl]
        congr 1
        exact (List.getElem?_eq_some_iff.1 hx.out).2
      rw [ed] at no
      have u0 := Kn.get s2.out 0 0 rfl rfl
      have u1 := Kn.get s2.out 0 1 rfl rfl
      clear hlt hj ex bk ed
      by_cases k1 : x.k < 1
      · have e1 := no.out.trans (fltL_bad (bad_kind (.inl k1)) (by decide))
        clear s2 no
        go_wp2_with (first | simp only [zero_attr] | refine wp_ldW rfl 64 _ rfl b (o + j * 2) rfl [.int .i64 x.k, .slice xa x.v.length xc] _ (by first | exact E1.out.rng | exact (E2.out _ _).rng) u_attr rfl (info_attr _ _) ?_)
        go_ret
        exact ⟨by first | rfl | (rw [e1]; rfl), b2.out⟩
      by_cases k2 : x.k > 18
      · have e1 := no.out.trans (fltL_bad (bad_kind (.inr k2)) (by decide))
        clear s2 no
        go_wp2_with (first | simp only [zero_attr] | refine wp_ldW rfl 64 _ rfl b (o + j * 2) rfl [.int .i64 x.k, .slice xa x.v.length xc] _ (by first | exact E1.out.rng | exact (E2.out _ _).rng) u_attr rfl (info_attr _ _) ?_)
        go_ret
        exact ⟨by first | rfl | (rw [e1]; rfl), b2.out⟩
      have hg : ¬ (x.k < 1 ∨ 18 < x.k) := by omega
      by_cases k3 : x.k = 2 ∨ x.k = 3
      · have q4 : (x.k == 4) = false := beq_eq_false_iff_ne.2 (by omega)
        have q1 : (x.k == 1) = false := beq_eq_false_iff_ne.2 (by omega)
        have q5 : ¬ x.k > 4 := by omega
        have q23 : (x.k == 2) = true ∨ ((x.k == 2) = false ∧ (x.k == 3) = true) := by
          rcases k3 with k | k
          · exact .inl (beq_iff_eq.2 k)
          · exact .inr ⟨beq_eq_false_iff_ne.2 (by omega), beq_iff_eq.2 k⟩
        have n0 : ¬ (x.v.length : Int) < 0 := by omega
        by_cases g : x.v.length ≤ 32
        · have g1 : ¬ (x.v.length : Int) > 32 := by omega
          have hfit : fitA x.k x.v = true := by unfold fitA; rw [if_pos k3]; exact decide_eq_true g
          clear k3 g hg
          rcases q23 with q2 | ⟨q2, q3⟩
          · have gk : Hid (¬ (x.k < 1 ∨ 18 < x.k)) := fun h => by omega
            have gf : Hid (fitA x.k x.v = true) := hfit
            have hjc : j ≤ c := Nat.le_trans (Nat.le_of_lt HJ.out) HN.out.2.2
            clear hfit
            go_upto_region 15 with (first | simp only [zero_attr] | refine wp_ldW rfl 64 _ rfl b (o + j * 2) rfl [.int .i64 x.k, .slice xa x.v.length xc] _ (by first | exact E1.out.rng | exact (E2.out _ _).rng) u_attr rfl (info_attr _ _) ?_)
            clear E1 E2
            go_wp2_with fail
            clear u0 u1
            generalize hk : wr.heap.size = h at s2 ⊢
            clear hk
            go_loopw [83] (fun i wr => ∃ m : Nat, m ≤ j ∧ i = .int .i64 (m : Int) ∧ Hid (∀ (i : Nat) (y : Ar), i < m → l[i]? = some y → y.k ≠ x.k) ∧ Hid (Kn wr [(h, [.int .i64 x.k, .slice xa x.v.length xc])]) ∧ Hid (Below w.heap.size w wr)) (fun i _ => j - (intOf i).toNat)
            case atStart => exact ⟨0, Nat.zero_le _, rfl, fun i y hi => absurd hi (Nat.not_lt_zero _), s2, b2⟩
            case round =>
              clear s2 b2
              obtain ⟨m, hm, rfl, nm, sm, bm⟩ := hrel
              by_cases hl2 : m < j
              · have m1 : (m : Int) < (j : Int) := by omega
                have m0 : (0 : Int) ≤ (m : Int) := by omega
                have HM : Hid (m < j) := hl2
                obtain ⟨y, hy⟩ : ∃ y, Hid (l[m]? = some y) := ⟨l[m]'(by have := HN.out; have := HJ.out; omega), List.getElem?_eq_getElem _⟩
                obtain ⟨ya, yc, ey⟩ := HA.out.elem hy.out
                have F1 : Hid (AtE wr b (o + m * 2) y ya yc) := ey.up bm.out
                have F2 : Hid (∀ (C : Array Value) t, AtE (wr.alloc (.cells C t)) b (o + m * 2) y ya yc) := fun C t => ey.up (bm.out.alloc bm.out.size _)
                have s3 : Hid (Kn (wr.alloc (.cells #[.int .i64 y.k, .slice ya y.v.length yc] 64)) [(wr.heap.size, [.int .i64 y.k, .slice ya y.v.length yc]), (h, [.int .i64 x.k, .slice xa x.v.length xc])]) := sm.out.al [.int .i64 y.k, .slice ya y.v.length yc] 64 rfl
                have b3 : Hid (Below w.heap.size w (wr.alloc (.cells #[.int .i64 y.k, .slice ya y.v.length yc] 64))) := bm.out.alloc bm.out.size _
                have v0 := Kn.get s3.out 0 0 rfl rfl
                have v1 := Kn.get s3.out 1 0 rfl rfl
                clear hl2 hm sm bm ey
                by_cases he : y.k = x.k
                · have he' : (y.k == x.k) = true := beq_iff_eq.2 he
                  have e1 : fltL [] l = 1 := by
                    rw [no.out]
                    refine fltL_bad (bad_twice gk.out gf.out (y := y) ?_ he) (by decide)
                    exact List.mem_of_getElem? (by rw [List.getElem?_take, if_pos HM.out]; exact hy.out)
                  clear he no s3
                  go_upto_region 20 with (first | simp only [zero_attr] | refine wp_ldW rfl 64 _ rfl b (o + m * 2) rfl [.int .i64 y.k, .slice ya y.v.length yc] _ (by first | exact F1.out.rng | exact (F2.out _ _).rng) u_attr rfl (info_attr _ _) ?_)
                  go_wp2_with fail
                  go_ret
                  exact ⟨by first | rfl | (rw [e1]; rfl), b3.out⟩
                · have he' : (y.k == x.k) = false := beq_eq_false_iff_ne.2 he
                  have nm' : Hid (∀ (i : Nat) (z : Ar), i < m + 1 → l[i]? = some z → z.k ≠ x.k) := fun i z hi hz => by
                    by_cases e : i = m
                    · rw [e, hy.out] at hz
                      obtain rfl := Option.some.inj hz
                      exact he
                    · exact nm.out i z (by omega) hz
                  have s4 : Hid (Kn (wr.alloc (.cells #[.int .i64 y.k, .slice ya y.v.length yc] 64)) [(h, [.int .i64 x.k, .slice xa x.v.length xc])]) := s3.out.drop 0
                  clear he nm s3
                  go_upto_region 20 with (first | simp only [zero_attr] | refine wp_ldW rfl 64 _ rfl b (o + m * 2) rfl [.int .i64 y.k, .slice ya y.v.length yc] _ (by first | exact F1.out.rng | exact (F2.out _ _).rng) u_attr rfl (info_attr _ _) ?_)
                  go_wp2_with fail
                  clear v0 v1 he'
                  go_roundw
                  case rel => exact ⟨m + 1, HM.out, by go_num, nm', s4, b3⟩
                  case measure => simp [intOf]; have := HM.out; omega
              · have m1 : ¬ (m : Int) < (j : Int) := by omega
                have no' : Hid (fltL [] l = fltL (l.take (j + 1)) (l.drop (j + 1))) := by
                  show _ = _
                  rw [no.out, fltL_next (bad_none gk.out gf.out fun y hy => ?_), List.take_add_one, hx.out]
                  · rfl
                  · obtain ⟨i, hi, rfl⟩ := List.getElem_of_mem hy
                    rw [List.length_take] at hi
                    rw [List.getElem_take]
                    exact nm.out i _ (by omega) (List.getElem?_eq_getElem (by omega))
                clear hl2 hm nm no sm
                go_wp2_with fail
                go_roundw
                case rel => exact ⟨j + 1, HJ.out, by go_num, no', bm⟩
                case measure => simp [intOf]; have := HJ.out; omega
          · have gk : Hid (¬ (x.k < 1 ∨ 18 < x.k)) := fun h => by omega
            have gf : Hid (fitA x.k x.v = true) := hfit
            have hjc : j ≤ c := Nat.le_trans (Nat.le_of_lt HJ.out) HN.out.2.2
            clear hfit
            go_upto_region 15 with (first | simp only [zero_attr] | refine wp_ldW rfl 64 _ rfl b (o + j * 2) rfl [.int .i64 x.k, .slice xa x.v.length xc] _ (by first | exact E1.out.rng | exact (E2.out _ _).rng) u_attr rfl (info_attr _ _) ?_)
            clear E1 E2
            go_wp2_with fail
            clear u0 u1
            generalize hk : wr.heap.size = h at s2 ⊢
            clear hk
            go_loopw [83] (fun i wr => ∃ m : Nat, m ≤ j ∧ i = .int .i64 (m : Int) ∧ Hid (∀ (i : Nat) (y : Ar), i < m → l[i]? = some y → y.k ≠ x.k) ∧ Hid (Kn wr [(h, [.int .i64 x.k, .slice xa x.v.length xc])]) ∧ Hid (Below w.heap.size w wr)) (fun i _ => j - (intOf i).toNat)
            case atStart => exact ⟨0, Nat.zero_le _, rfl, fun i y hi => absurd hi (Nat.not_lt_zero _), s2, b2⟩
            case round =>
              clear s2 b2
              obtain ⟨m, hm, rfl, nm, sm, bm⟩ := hrel
              by_cases hl2 : m < j
              · have m1 : (m : Int) < (j : Int) := by omega
                have m0 : (0 : Int) ≤ (m : Int) := by omega
                have HM : Hid (m < j) := hl2
                obtain ⟨y, hy⟩ : ∃ y, Hid (l[m]? = some y) := ⟨l[m]'(by have := HN.out; have := HJ.out; omega), List.getElem?_eq_getElem _⟩
                obtain ⟨ya, yc, ey⟩ := HA.out.elem hy.out
                have F1 : Hid (AtE wr b (o + m * 2) y ya yc) := ey.up bm.out
                have F2 : Hid (∀ (C : Array Value) t, AtE (wr.alloc (.cells C t)) b (o + m * 2) y ya yc) := fun C t => ey.up (bm.out.alloc bm.out.size _)
                have s3 : Hid (Kn (wr.alloc (.cells #[.int .i64 y.k, .slice ya y.v.length yc] 64)) [(wr.heap.size, [.int .i64 y.k, .slice ya y.v.length yc]), (h, [.int .i64 x.k, .slice xa x.v.length xc])]) := sm.out.al [.int .i64 y.k, .slice ya y.v.length yc] 64 rfl
                have b3 : Hid (Below w.heap.size w (wr.alloc (.cells #[.int .i64 y.k, .slice ya y.v.length yc] 64))) := bm.out.alloc bm.out.size _
                have v0 := Kn.get s3.out 0 0 rfl rfl
                have v1 := Kn.get s3.out 1 0 rfl rfl
                clear hl2 hm sm bm ey
                by_cases he : y.k = x.k
                · have he' : (y.k == x.k) = true := beq_iff_eq.2 he
                  have e1 : fltL [] l = 1 := by
                    rw [no.out]
                    refine fltL_bad (bad_twice gk.out gf.out (y := y) ?_ he) (by decide)
                    exact List.mem_of_getElem? (by rw [List.getElem?_take, if_pos HM.out]; exact hy.out)
                  clear he no s3
                  go_upto_region 20 with (first | simp only [zero_attr] | refine wp_ldW rfl 64 _ rfl b (o + m * 2) rfl [.int .i64 y.k, .slice ya y.v.length yc] _ (by first | exact F1.out.rng | exact (F2.out _ _).rng) u_attr rfl (info_attr _ _) ?_)
                  go_wp2_with fail
                  go_ret
                  exact ⟨by first | rfl | (rw [e1]; rfl), b3.out⟩
                · have he' : (y.k == x.k) = false := beq_eq_false_iff_ne.2 he
                  have nm' : Hid (∀ (i : Nat) (z : Ar), i < m + 1 → l[i]? = some z → z.k ≠ x.k) := fun i z hi hz => by
                    by_cases e : i = m
                    · rw [e, hy.out] at hz
                      obtain rfl := Option.some.inj hz
                      exact he
                    · exact nm.out i z (by omega) hz
                  have s4 : Hid (Kn (wr.alloc (.cells #[.int .i64 y.k, .slice ya y.v.length yc] 64)) [(h, [.int .i64 x.k, .slice xa x.v.length xc])]) := s3.out.drop 0
                  clear he nm s3
                  go_upto_region 20 with (first | simp only [zero_attr] | refine wp_ldW rfl 64 _ rfl b (o + m * 2) rfl [.int .i64 y.k, .slice ya y.v.length yc] _ (by first | exact F1.out.rng | exact (F2.out _ _).rng) u_attr rfl (info_attr _ _) ?_)
                  go_wp2_with fail
                  clear v0 v1 he'
                  go_roundw
                  case rel => exact ⟨m + 1, HM.out, by go_num, nm', s4, b3⟩
                  case measure => simp [intOf]; have := HM.out; omega
              · have m1 : ¬ (m : Int) < (j : Int) := by omega
                have no' : Hid (fltL [] l = fltL (l.take (j + 1)) (l.drop (j + 1))) := by
                  show _ = _
                  rw [no.out, fltL_next (bad_none gk.out gf.out fun y hy => ?_), List.take_add_one, hx.out]
                  · rfl
                  · obtain ⟨i, hi, rfl⟩ := List.getElem_of_mem hy
                    rw [List.length_take] at hi
                    rw [List.getElem_take]
                    exact nm.out i _ (by omega) (List.getElem?_eq_getElem (by omega))
                clear hl2 hm nm no sm
                go_wp2_with fail
                go_roundw
                case rel => exact ⟨j + 1, HJ.out, by go_num, no', bm⟩
                case measure => simp [intOf]; have := HJ.out; omega
        · have g1 : (x.v.length : Int) > 32 := by omega
          have e1 := no.out.trans (fltL_bad (bad_form hg (by unfold fitA; rw [if_pos k3]; exact decide_eq_false g)) (by decide))
          clear k3 g hg
          rcases q23 with q2 | ⟨q2, q3⟩
          · clear s2 no
            go_wp2_with (first | simp only [zero_attr] | refine wp_ldW rfl 64 _ rfl b (o + j * 2) rfl [.int .i64 x.k, .slice xa x.v.length xc] _ (by first | exact E1.out.rng | exact (E2.out _ _).rng) u_attr rfl (info_attr _ _) ?_)
            go_ret
            exact ⟨by first | rfl | (rw [e1]; rfl), b2.out⟩
          · clear s2 no
            go_wp2_with (first | simp only [zero_attr] | refine wp_ldW rfl 64 _ rfl b (o + j * 2) rfl [.int .i64 x.k, .slice xa x.v.length xc] _ (by first | exact E1.out.rng | exact (E2.out _ _).rng) u_attr rfl (info_attr _ _) ?_)
            go_ret
            exact ⟨by first | rfl | (rw [e1]; rfl), b2.out⟩
      have q2 : (x.k == 2) = false := beq_eq_false_iff_ne.2 (by omega)
      have q3 : (x.k == 3) = false := beq_eq_false_iff_ne.2 (by omega)
      by_cases k4 : x.k = 4
      · have q4 : (x.k == 4) = true := beq_iff_eq.2 k4
        have q1 : (x.k == 1) = false := beq_eq_false_iff_ne.2 (by omega)
        have q5 : ¬ x.k > 4 := by omega
        have n0 : ¬ (x.v.length : Int) < 0 := by omega
        by_cases g : x.v.length ≤ 64
        · have g1 : ¬ (x.v.length : Int) > 64 := by omega
          have hfit : fitA x.k x.v = true := by unfold fitA; rw [if_neg k3, if_pos k4]; exact decide_eq_true g
          clear k3 k4 g hg
          have gk : Hid (¬ (x.k < 1 ∨ 18 < x.k)) := fun h => by omega
          have gf : Hid (fitA x.k x.v = true) := hfit
          have hjc : j ≤ c := Nat.le_trans (Nat.le_of_lt HJ.out) HN.out.2.2
          clear hfit
          go_upto_region 15 with (first | simp only [zero_attr] | refine wp_ldW rfl 64 _ rfl b (o + j * 2) rfl [.int .i64 x.k, .slice xa x.v.length xc] _ (by first | exact E1.out.rng | exact (E2.out _ _).rng) u_attr rfl (info_attr _ _) ?_)
          clear E1 E2
          go_wp2_with fail
          clear u0 u1
          generalize hk : wr.heap.size = h at s2 ⊢
          clear hk
          go_loopw [83] (fun i wr => ∃ m : Nat, m ≤ j ∧ i = .int .i64 (m : Int) ∧ Hid (∀ (i : Nat) (y : Ar), i < m → l[i]? = some y → y.k ≠ x.k) ∧ Hid (Kn wr [(h, [.int .i64 x.k, .slice xa x.v.length xc])]) ∧ Hid (Below w.heap.size w wr)) (fun i _ => j - (intOf i).toNat)
          case atStart => exact ⟨0, Nat.zero_le _, rfl, fun i y hi => absurd hi (Nat.not_lt_zero _), s2, b2⟩
          case round =>
            clear s2 b2
            obtain ⟨m, hm, rfl, nm, sm, bm⟩ := hrel
            by_cases hl2 : m < j
            · have m1 : (m : Int) < (j : Int) := by omega
              have m0 : (0 : Int) ≤ (m : Int) := by omega
              have HM : Hid (m < j) := hl2
              obtain ⟨y, hy⟩ : ∃ y, Hid (l[m]? = some y) := ⟨l[m]'(by have := HN.out; have := HJ.out; omega), List.getElem?_eq_getElem _⟩
              obtain ⟨ya, yc, ey⟩ := HA.out.elem hy.out
              have F1 : Hid (AtE wr b (o + m * 2) y ya yc) := ey.up bm.out
              have F2 : Hid (∀ (C : Array Value) t, AtE (wr.alloc (.cells C t)) b (o + m * 2) y ya yc) := fun C t => ey.up (bm.out.alloc bm.out.size _)
              have s3 : Hid (Kn (wr.alloc (.cells #[.int .i64 y.k, .slice ya y.v.length yc] 64)) [(wr.heap.size, [.int .i64 y.k, .slice ya y.v.length yc]), (h, [.int .i64 x.k, .slice xa x.v.length xc])]) := sm.out.al [.int .i64 y.k, .slice ya y.v.length yc] 64 rfl
              have b3 : Hid (Below w.heap.size w (wr.alloc (.cells #[.int .i64 y.k, .slice ya y.v.length yc] 64))) := bm.out.alloc bm.out.size _
              have v0 := Kn.get s3.out 0 0 rfl rfl
              have v1 := Kn.get s3.out 1 0 rfl rfl
              clear hl2 hm sm bm ey
              by_cases he : y.k = x.k
              · have he' : (y.k == x.k) = true := beq_iff_eq.2 he
                have e1 : fltL [] l = 1 := by
                  rw [no.out]
                  refine fltL_bad (bad_twice gk.out gf.out (y := y) ?_ he) (by decide)
                  exact List.mem_of_getElem? (by rw [List.getElem?_take, if_pos HM.out]; exact hy.out)
                clear he no s3
                go_upto_region 20 with (first | simp only [zero_attr] | refine wp_ldW rfl 64 _ rfl b (o + m * 2) rfl [.int .i64 y.k, .slice ya y.v.length yc] _ (by first | exact F1.out.rng | exact (F2.out _ _).rng) u_attr rfl (info_attr _ _) ?_)
                go_wp2_with fail
                go_ret
                exact ⟨by first | rfl | (rw [e1]; rfl), b3.out⟩
              · have he' : (y.k == x.k) = false := beq_eq_false_iff_ne.2 he
                have nm' : Hid (∀ (i : Nat) (z : Ar), i < m + 1 → l[i]? = some z → z.k ≠ x.k) := fun i z hi hz => by
                  by_cases e : i = m
                  · rw [e, hy.out] at hz
                    obtain rfl := Option.some.inj hz
                    exact he
                  · exact nm.out i z (by omega) hz
                have s4 : Hid (Kn (wr.alloc (.cells #[.int .i64 y.k, .slice ya y.v.length yc] 64)) [(h, [.int .i64 x.k, .slice xa x.v.length xc])]) := s3.out.drop 0
                clear he nm s3
                go_upto_region 20 with (first | simp only [zero_attr] | refine wp_ldW rfl 64 _ rfl b (o + m * 2) rfl [.int .i64 y.k, .slice ya y.v.length yc] _ (by first | exact F1.out.rng | exact (F2.out _ _).rng) u_attr rfl (info_attr _ _) ?_)
                go_wp2_with fail
                clear v0 v1 he'
                go_roundw
                case rel => exact ⟨m + 1, HM.out, by go_num, nm', s4, b3⟩
                case measure => simp [intOf]; have := HM.out; omega
            · have m1 : ¬ (m : Int) < (j : Int) := by omega
              have no' : Hid (fltL [] l = fltL (l.take (j + 1)) (l.drop (j + 1))) := by
                show _ = _
                rw [no.out, fltL_next (bad_none gk.out gf.out fun y hy => ?_), List.take_add_one, hx.out]
                · rfl
                · obtain ⟨i, hi, rfl⟩ := List.getElem_of_mem hy
                  rw [List.length_take] at hi
                  rw [List.getElem_take]
                  exact nm.out i _ (by omega) (List.getElem?_eq_getElem (by omega))
              clear hl2 hm nm no sm
              go_wp2_with fail
              go_roundw
              case rel => exact ⟨j + 1, HJ.out, by go_num, no', bm⟩
              case measure => simp [intOf]; have := HJ.out; omega
        · have g1 : (x.v.length : Int) > 64 := by omega
          have e1 := no.out.trans (fltL_bad (bad_form hg (by unfold fitA; rw [if_neg k3, if_pos k4]; exact decide_eq_false g)) (by decide))
          clear k3 k4 g hg
          clear s2 no
          go_wp2_with (first | simp only [zero_attr] | refine wp_ldW rfl 64 _ rfl b (o + j * 2) rfl [.int .i64 x.k, .slice xa x.v.length xc] _ (by first | exact E1.out.rng | exact (E2.out _ _).rng) u_attr rfl (info_attr _ _) ?_)
          go_ret
          exact ⟨by first | rfl | (rw [e1]; rfl), b2.out⟩
      have q4 : (x.k == 4) = false := beq_eq_false_iff_ne.2 k4
      by_cases g : x.v.length = 1
      · have n0 : ¬ (x.v.length : Int) < 1 := by omega
        have g1 : ¬ (x.v.length : Int) > 1 := by omega
        obtain ⟨y, hy⟩ : ∃ y, x.v.getD 0 0 = y := ⟨_, rfl⟩
        obtain ⟨va, vo, rfl, uc⟩ : ∃ va vo, xa = some ⟨va, vo, none⟩ ∧ (wr.alloc (.cells #[.int .i64 x.k, .slice xa x.v.length xc] 64)).cell? ⟨va, vo, none⟩ = some (.int .u8 (y : Int)) := by
          obtain ⟨-, -, a', c', e, -, -, h3⟩ := E2.out #[.int .i64 x.k, .slice xa x.v.length xc] 64
          cases e
          obtain ⟨va, vo, rfl, h4⟩ := h3 (by omega)
          exact ⟨va, vo, rfl, by have := h4 0 (by omega); rw [hy] at this; exact this⟩
        have z0 : (0 : Int) < (x.v.length : Int) := by omega
        by_cases k5 : x.k = 1
        · have q1 : (x.k == 1) = true := beq_iff_eq.2 k5
          have q5 : ¬ x.k > 4 := by omega
          by_cases y1 : y < 1
          · have r1 : (y : Int) < 1 := by omega
            have e1 := no.out.trans (fltL_bad (bad_form hg (by unfold fitA; rw [if_neg k3, if_neg k4, if_pos g, if_pos k5, hy]; exact decide_eq_false (by omega))) (by decide))
            clear k3 k4 k5 g hg hy y1
            clear s2 no
            go_upto_region 15 with (first | simp only [zero_attr] | refine wp_ldW rfl 64 _ rfl b (o + j * 2) rfl [.int .i64 x.k, .slice (some ⟨va, vo, none⟩) x.v.length xc] _ (by first | exact E1.out.rng | exact (E2.out _ _).rng) u_attr rfl (info_attr _ _) ?_)
            clear E1 E2
            go_wp2_with fail
            go_ret
            exact ⟨by first | rfl | (rw [e1]; rfl), b2.out⟩
          have r1 : ¬ (y : Int) < 1 := by omega
          by_cases y4 : y > 4
          · have r4 : (y : Int) > 4 := by omega
            have e1 := no.out.trans (fltL_bad (bad_form hg (by unfold fitA; rw [if_neg k3, if_neg k4, if_pos g, if_pos k5, hy]; exact decide_eq_false (by omega))) (by decide))
            clear k3 k4 k5 g hg hy y1 y4
            clear s2 no
            go_upto_region 15 with (first | simp only [zero_attr] | refine wp_ldW rfl 64 _ rfl b (o + j * 2) rfl [.int .i64 x.k, .slice (some ⟨va, vo, none⟩) x.v.length xc] _ (by first | exact E1.out.rng | exact (E2.out _ _).rng) u_attr rfl (info_attr _ _) ?_)
            clear E1 E2
            go_wp2_with fail
            go_ret
            exact ⟨by first | rfl | (rw [e1]; rfl), b2.out⟩
          have r4 : ¬ (y : Int) > 4 := by omega
          have hfit : fitA x.k x.v = true := by unfold fitA; rw [if_neg k3, if_neg k4, if_pos g, if_pos k5, hy]; exact decide_eq_true (by omega)
          clear k3 k4 k5 g hg hy y1 y4
          have gk : Hid (¬ (x.k < 1 ∨ 18 < x.k)) := fun h => by omega
          have gf : Hid (fitA x.k x.v = true) := hfit
          have hjc : j ≤ c := Nat.le_trans (Nat.le_of_lt HJ.out) HN.out.2.2
          clear hfit
          go_upto_region 15 with (first | simp only [zero_attr] | refine wp_ldW rfl 64 _ rfl b (o + j * 2) rfl [.int .i64 x.k, .slice (some ⟨va, vo, none⟩) x.v.length xc] _ (by first | exact E1.out.rng | exact (E2.out _ _).rng) u_attr rfl (info_attr _ _) ?_)
          clear E1 E2
          go_wp2_with fail
          clear u0 u1
          generalize hk : wr.heap.size = h at s2 ⊢
          clear hk
          go_loopw [83] (fun i wr => ∃ m : Nat, m ≤ j ∧ i = .int .i64 (m : Int) ∧ Hid (∀ (i : Nat) (y : Ar), i < m → l[i]? = some y → y.k ≠ x.k) ∧ Hid (Kn wr [(h, [.int .i64 x.k, .slice (some ⟨va, vo, none⟩) x.v.length xc])]) ∧ Hid (Below w.heap.size w wr)) (fun i _ => j - (intOf i).toNat)
          case atStart => exact ⟨0, Nat.zero_le _, rfl, fun i y hi => absurd hi (Nat.not_lt_zero _), s2, b2⟩
          case round =>
            clear s2 b2
            obtain ⟨m, hm, rfl, nm, sm, bm⟩ := hrel
            by_cases hl2 : m < j
            · have m1 : (m : Int) < (j : Int) := by omega
              have m0 : (0 : Int) ≤ (m : Int) := by omega
              have HM : Hid (m < j) := hl2
              obtain ⟨y, hy⟩ : ∃ y, Hid (l[m]? = some y) := ⟨l[m]'(by have := HN.out; have := HJ.out; omega), List.getElem?_eq_getElem _⟩
              obtain ⟨ya, yc, ey⟩ := HA.out.elem hy.out
              have F1 : Hid (AtE wr b (o + m * 2) y ya yc) := ey.up bm.out
              have F2 : Hid (∀ (C : Array Value) t, AtE (wr.alloc (.cells C t)) b (o + m * 2) y ya yc) := fun C t => ey.up (bm.out.alloc bm.out.size _)
              have s3 : Hid (Kn (wr.alloc (.cells #[.int .i64 y.k, .slice ya y.v.length yc] 64)) [(wr.heap.size, [.int .i64 y.k, .slice ya y.v.length yc]), (h, [.int .i64 x.k, .slice (some ⟨va, vo, none⟩) x.v.length xc])]) := sm.out.al [.int .i64 y.k, .slice ya y.v.length yc] 64 rfl
              have b3 : Hid (Below w.heap.size w (wr.alloc (.cells #[.int .i64 y.k, .slice ya y.v.length yc] 64))) := bm.out.alloc bm.out.size _
              have v0 := Kn.get s3.out 0 0 rfl rfl
              have v1 := Kn.get s3.out 1 0 rfl rfl
              clear hl2 hm sm bm ey
              by_cases he : y.k = x.k
              · have he' : (y.k == x.k) = true := beq_iff_eq.2 he
                have e1 : fltL [] l = 1 := by
                  rw [no.out]
                  refine fltL_bad (bad_twice gk.out gf.out (y := y) ?_ he) (by decide)
                  exact List.mem_of_getElem? (by rw [List.getElem?_take, if_pos HM.out]; exact hy.out)
                clear he no s3
                go_upto_region 20 with (first | simp only [zero_attr] | refine wp_ldW rfl 64 _ rfl b (o + m * 2) rfl [.int .i64 y.k, .slice ya y.v.length yc] _ (by first | exact F1.out.rng | exact (F2.out _ _).rng) u_attr rfl (info_attr _ _) ?_)
                go_wp2_with fail
                go_ret
                exact ⟨by first | rfl | (rw [e1]; rfl), b3.out⟩
              · have he' : (y.k == x.k) = false := beq_eq_false_iff_ne.2 he
                have nm' : Hid (∀ (i : Nat) (z : Ar), i < m + 1 → l[i]? = some z → z.k ≠ x.k) := fun i z hi hz => by
                  by_cases e : i = m
                  · rw [e, hy.out] at hz
                    obtain rfl := Option.some.inj hz
                    exact he
                  · exact nm.out i z (by omega) hz
                have s4 : Hid (Kn (wr.alloc (.cells #[.int .i64 y.k, .slice ya y.v.length yc] 64)) [(h, [.int .i64 x.k, .slice (some ⟨va, vo, none⟩) x.v.length xc])]) := s3.out.drop 0
                clear he nm s3
                go_upto_region 20 with (first | simp only [zero_attr] | refine wp_ldW rfl 64 _ rfl b (o + m * 2) rfl [.int .i64 y.k, .slice ya y.v.length yc] _ (by first | exact F1.out.rng | exact (F2.out _ _).rng) u_attr rfl (info_attr _ _) ?_)
                go_wp2_with fail
                clear v0 v1 he'
                go_roundw
                case rel => exact ⟨m + 1, HM.out, by go_num, nm', s4, b3⟩
                case measure => simp [intOf]; have := HM.out; omega
            · have m1 : ¬ (m : Int) < (j : Int) := by omega
              have no' : Hid (fltL [] l = fltL (l.take (j + 1)) (l.drop (j + 1))) := by
                show _ = _
                rw [no.out, fltL_next (bad_none gk.out gf.out fun y hy => ?_), List.take_add_one, hx.out]
                · rfl
                · obtain ⟨i, hi, rfl⟩ := List.getElem_of_mem hy
                  rw [List.length_take] at hi
                  rw [List.getElem_take]
                  exact nm.out i _ (by omega) (List.getElem?_eq_getElem (by omega))
              clear hl2 hm nm no sm
              go_wp2_with fail
              go_roundw
              case rel => exact ⟨j + 1, HJ.out, by go_num, no', bm⟩
              case measure => simp [intOf]; have := HJ.out; omega
        · have q1 : (x.k == 1) = false := beq_eq_false_iff_ne.2 k5
          have q5 : x.k > 4 := by omega
          by_cases y1 : y > 1
          · have r1 : (y : Int) > 1 := by omega
            have e1 := no.out.trans (fltL_bad (bad_form hg (by unfold fitA; rw [if_neg k3, if_neg k4, if_pos g, if_neg k5, hy]; exact decide_eq_false (by omega))) (by decide))
            clear k3 k4 k5 g hg hy y1
            clear s2 no
            go_upto_region 15 with (first | simp only [zero_attr] | refine wp_ldW rfl 64 _ rfl b (o + j * 2) rfl [.int .i64 x.k, .slice (some ⟨va, vo, none⟩) x.v.length xc] _ (by first | exact E1.out.rng | exact (E2.out _ _).rng) u_attr rfl (info_attr _ _) ?_)
            clear E1 E2
            go_wp2_with fail
            go_ret
            exact ⟨by first | rfl | (rw [e1]; rfl), b2.out⟩
          have r1 : ¬ (y : Int) > 1 := by omega
          have hfit : fitA x.k x.v = true := by unfold fitA; rw [if_neg k3, if_neg k4, if_pos g, if_neg k5, hy]; exact decide_eq_true (by omega)
          clear k3 k4 k5 g hg hy y1
          have gk : Hid (¬ (x.k < 1 ∨ 18 < x.k)) := fun h => by omega
          have gf : Hid (fitA x.k x.v = true) := hfit
          have hjc : j ≤ c := Nat.le_trans (Nat.le_of_lt HJ.out) HN.out.2.2
          clear hfit
          go_upto_region 15 with (first | simp only [zero_attr] | refine wp_ldW rfl 64 _ rfl b (o + j * 2) rfl [.int .i64 x.k, .slice (some ⟨va, vo, none⟩) x.v.length xc] _ (by first | exact E1.out.rng | exact (E2.out _ _).rng) u_attr rfl (info_attr _ _) ?_)
          clear E1 E2
          go_wp2_with fail
          clear u0 u1
          generalize hk : wr.heap.size = h at s2 ⊢
          clear hk
          go_loopw [83] (fun i wr => ∃ m : Nat, m ≤ j ∧ i = .int .i64 (m : Int) ∧ Hid (∀ (i : Nat) (y : Ar), i < m → l[i]? = some y → y.k ≠ x.k) ∧ Hid (Kn wr [(h, [.int .i64 x.k, .slice (some ⟨va, vo, none⟩) x.v.length xc])]) ∧ Hid (Below w.heap.size w wr)) (fun i _ => j - (intOf i).toNat)
          case atStart => exact ⟨0, Nat.zero_le _, rfl, fun i y hi => absurd hi (Nat.not_lt_zero _), s2, b2⟩
          case round =>
            clear s2 b2
            obtain ⟨m, hm, rfl, nm, sm, bm⟩ := hrel
            by_cases hl2 : m < j
            · have m1 : (m : Int) < (j : Int) := by omega
              have m0 : (0 : Int) ≤ (m : Int) := by omega
              have HM : Hid (m < j) := hl2
              obtain ⟨y, hy⟩ : ∃ y, Hid (l[m]? = some y) := ⟨l[m]'(by have := HN.out; have := HJ.out; omega), List.getElem?_eq_getElem _⟩
              obtain ⟨ya, yc, ey⟩ := HA.out.elem hy.out
              have F1 : Hid (AtE wr b (o + m * 2) y ya yc) := ey.up bm.out
              have F2 : Hid (∀ (C : Array Value) t, AtE (wr.alloc (.cells C t)) b (o + m * 2) y ya yc) := fun C t => ey.up (bm.out.alloc bm.out.size _)
              have s3 : Hid (Kn (wr.alloc (.cells #[.int .i64 y.k, .slice ya y.v.length yc] 64)) [(wr.heap.size, [.int .i64 y.k, .slice ya y.v.length yc]), (h, [.int .i64 x.k, .slice (some ⟨va, vo, none⟩) x.v.length xc])]) := sm.out.al [.int .i64 y.k, .slice ya y.v.length yc] 64 rfl
              have b3 : Hid (Below w.heap.size w (wr.alloc (.cells #[.int .i64 y.k, .slice ya y.v.length yc] 64))) := bm.out.alloc bm.out.size _
              have v0 := Kn.get s3.out 0 0 rfl rfl
              have v1 := Kn.get s3.out 1 0 rfl rfl
              clear hl2 hm sm bm ey
              by_cases he : y.k = x.k
              · have he' : (y.k == x.k) = true := beq_iff_eq.2 he
                have e1 : fltL [] l = 1 := by
                  rw [no.out]
                  refine fltL_bad (bad_twice gk.out gf.out (y := y) ?_ he) (by decide)
                  exact List.mem_of_getElem? (by rw [List.getElem?_take, if_pos HM.out]; exact hy.out)
                clear he no s3
                go_upto_region 20 with (first | simp only [zero_attr] | refine wp_ldW rfl 64 _ rfl b (o + m * 2) rfl [.int .i64 y.k, .slice ya y.v.length yc] _ (by first | exact F1.out.rng | exact (F2.out _ _).rng) u_attr rfl (info_attr _ _) ?_)
                go_wp2_with fail
                go_ret
                exact ⟨by first | rfl | (rw [e1]; rfl), b3.out⟩
              · have he' : (y.k == x.k) = false := beq_eq_false_iff_ne.2 he
                have nm' : Hid (∀ (i : Nat) (z : Ar), i < m + 1 → l[i]? = some z → z.k ≠ x.k) := fun i z hi hz => by
                  by_cases e : i = m
                  · rw [e, hy.out] at hz
                    obtain rfl := Option.some.inj hz
                    exact he
                  · exact nm.out i z (by omega) hz
                have s4 : Hid (Kn (wr.alloc (.cells #[.int .i64 y.k, .slice ya y.v.length yc] 64)) [(h, [.int .i64 x.k, .slice (some ⟨va, vo, none⟩) x.v.length xc])]) := s3.out.drop 0
                clear he nm s3
                go_upto_region 20 with (first | simp only [zero_attr] | refine wp_ldW rfl 64 _ rfl b (o + m * 2) rfl [.int .i64 y.k, .slice ya y.v.length yc] _ (by first | exact F1.out.rng | exact (F2.out _ _).rng) u_attr rfl (info_attr _ _) ?_)
                go_wp2_with fail
                clear v0 v1 he'
                go_roundw
                case rel => exact ⟨m + 1, HM.out, by go_num, nm', s4, b3⟩
                case measure => simp [intOf]; have := HM.out; omega
            · have m1 : ¬ (m : Int) < (j : Int) := by omega
              have no' : Hid (fltL [] l = fltL (l.take (j + 1)) (l.drop (j + 1))) := by
                show _ = _
                rw [no.out, fltL_next (bad_none gk.out gf.out fun y hy => ?_), List.take_add_one, hx.out]
                · rfl
                · obtain ⟨i, hi, rfl⟩ := List.getElem_of_mem hy
                  rw [List.length_take] at hi
                  rw [List.getElem_take]
                  exact nm.out i _ (by omega) (List.getElem?_eq_getElem (by omega))
              clear hl2 hm nm no sm
              go_wp2_with fail
              go_roundw
              case rel => exact ⟨j + 1, HJ.out, by go_num, no', bm⟩
              case measure => simp [intOf]; have := HJ.out; omega
      · have e1 := no.out.trans (fltL_bad (bad_form hg (by unfold fitA; rw [if_neg k3, if_neg k4, if_neg g])) (by decide))
        by_cases g0 : x.v.length = 0
        · have n0 : (x.v.length : Int) < 1 := by omega
          clear k3 k4 g g0 hg
          clear s2 no
          go_wp2_with (first | simp only [zero_attr] | refine wp_ldW rfl 64 _ rfl b (o + j * 2) rfl [.int .i64 x.k, .slice xa x.v.length xc] _ (by first | exact E1.out.rng | exact (E2.out _ _).rng) u_attr rfl (info_attr _ _) ?_)
          go_ret
          exact ⟨by first | rfl | (rw [e1]; rfl), b2.out⟩
        · have n0 : ¬ (x.v.length : Int) < 1 := by omega
          have g1 : (x.v.length : Int) > 1 := by omega
          clear k3 k4 g g0 hg
          clear s2 no
          go_wp2_with (first | simp only [zero_attr] | refine wp_ldW rfl 64 _ rfl b (o + j * 2) rfl [.int .i64 x.k, .slice xa x.v.length xc] _ (by first | exact E1.out.rng | exact (E2.out _ _).rng) u_attr rfl (info_attr _ _) ?_)
          go_ret
          exact ⟨by first | rfl | (rw [e1]; rfl), b2.out⟩
    · have i1 : ¬ (j : Int) < (n : Int) := by omega
      have e1 : fltL [] l = 0 := by
        rw [no.out, List.drop_of_length_le (by have := HN.out; omega)]
        rfl
      clear hlt hj
      go_wp2_with fail
      go_ret
      exact ⟨by first | rfl | (rw [e1]; rfl), bk.out⟩
end Go.Proofs.Ytepaapiflkkghaa
