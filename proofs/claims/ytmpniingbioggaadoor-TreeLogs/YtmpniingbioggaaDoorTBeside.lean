/- The contracts of tree.beside and tree.Path. -/
import Derived.Test.YtmpniingbioggaaDoorTRoot
namespace Go.Proofs.YtmpniingbioggaaDoor
open Go.RowKit
set_option linter.unusedSimpArgs false
attribute [local go_sem] YieldsP execOp
attribute [local simp] MP.eq_p
theorem Od.mono {w : World} {B B' : Nat} {v : Value} {ds : List (List Nat)} (h : Od w B v ds) (hB : B' ≤ B) : Od w B' v ds := by
  refine ⟨h.1, h.2.1, ?_⟩
  rcases h.2.2 with h' | ⟨g, cap, cur, e, hg, rest⟩
  · exact .inl h'
  · exact .inr ⟨g, cap, cur, e, by omega, rest⟩
def MP.od (B : Nat) (ds : List (List Nat)) : MP := ⟨fun v w => Od w B v ds, fun h hb => h.up hb⟩
theorem pathS_one (p : List Nat) : pathS [p] 0 = [] := rfl
theorem pathS_left {ls : List (List Nat)} {j i : Nat} (h1 : 2 ^ j < ls.length) (h2 : ls.length ≤ 2 ^ (j + 1)) (hi : i < 2 ^ j) : pathS (ls.take (2 ^ j)) i ++ [rootS (ls.drop (2 ^ j))] = pathS ls i := by
  have e2 : 2 ^ (j + 1) = 2 ^ j * 2 := Nat.pow_succ ..
  have lt : ((ls.take (2 ^ j)).map leafS).length = 2 ^ j := by rw [List.length_map, List.length_take]; omega
  have ld : ((ls.drop (2 ^ j)).map leafS).length = ls.length - 2 ^ j := by rw [List.length_map, List.length_drop]
  have := T.path_left nodeS (sumS []) (j := j) (l := (ls.take (2 ^ j)).map leafS) (m := (ls.drop (2 ^ j)).map leafS) (i := i) lt (by omega) (by omega) (by omega)
  rw [← List.map_append, List.take_append_drop, T.path_eq nodeS (by rw [List.length_map]; exact h2) (by rw [List.length_map]; omega), T.path_eq nodeS (by omega) (by omega)] at this
  exact this.symm
theorem pathS_right {ls : List (List Nat)} {j i : Nat} (h1 : 2 ^ j < ls.length) (h2 : ls.length ≤ 2 ^ (j + 1)) (hi : 2 ^ j ≤ i) (hn : i < ls.length) : pathS (ls.drop (2 ^ j)) (i - 2 ^ j) ++ [rootS (ls.take (2 ^ j))] = pathS ls i := by
  have e2 : 2 ^ (j + 1) = 2 ^ j * 2 := Nat.pow_succ ..
  have lt : ((ls.take (2 ^ j)).map leafS).length = 2 ^ j := by rw [List.length_map, List.length_take]; omega
  have ld : ((ls.drop (2 ^ j)).map leafS).length = ls.length - 2 ^ j := by rw [List.length_map, List.length_drop]
  have := T.path_right nodeS (sumS []) (j := j) (l := (ls.take (2 ^ j)).map leafS) (m := (ls.drop (2 ^ j)).map leafS) (i := i - 2 ^ j) lt (by omega) (by omega)
  rw [← List.map_append, List.take_append_drop, lt, show 2 ^ j + (i - 2 ^ j) = i by omega, T.path_eq nodeS (by rw [List.length_map]; exact h2) (by rw [List.length_map]; omega), T.path_eq nodeS (by omega) (by omega)] at this
  exact this.symm
theorem pathS_short {ls : List (List Nat)} {i : Nat} (hi : i < ls.length) (h : ls.length ≤ 1000000) : (pathS ls i).length ≤ 20 :=
  T.path_short nodeS (k := 20) (by rw [List.length_map]; omega) (by rw [List.length_map]; exact hi)
set_option maxRecDepth 20000 in
set_option maxHeartbeats 4000000 in
theorem beside_fun : ∀ (K : Nat) (ls : List (List Nat)) (_ : ls.length ≤ K) (_ : lowL ls) (_ : ls.length ≤ 1000000) (i : Nat) (_ : i < ls.length) (v : Value) (w : World) (_ : Sb w v ls) (_ : KTab w),
    Calls Tryd.prog 27 #[v, .int .i64 (i : Int)] w fun e w' => (∃ v', e = .returned v' ∧ Od w' w.heap.size v' (pathS ls i)) ∧ Below w.heap.size w w' := by
  intro K
  induction K with
  | zero => intro ls hK low zl i hi; omega
  | succ K ih =>
    intro ls hK low zl i hi v w hv hT
    rcases Nat.lt_or_ge 1 ls.length with hz | hz
    · obtain ⟨j, h1, h2⟩ := T.cut_ex hz
      have CF : Hid _ := cut_fun ls.length j h1 h2 (by omega)
      have lt1 : (ls.take (2 ^ j)).length = 2 ^ j := by rw [List.length_take]; omega
      have ld1 : (ls.drop (2 ^ j)).length = ls.length - 2 ^ j := List.length_drop
      have p0 : 0 < 2 ^ j := Nat.two_pow_pos j
      obtain ⟨av, cv, rfl, hc, h3⟩ := id hv
      have HV : Hid (Sb w _ ls) := hv
      have HT : Hid (KTab w) := hT
      have HP : Hid (2 ^ j ≤ ls.length) := (by omega : 2 ^ j ≤ ls.length)
      have m1 : ¬ (ls.length : Int) = 1 := by omega
      by_cases hij : i < 2 ^ j
      · have SP : Hid _ := pathS_left h1 h2 hij
        have B1 : Hid _ := ih (ls.take (2 ^ j)) (by omega) (low.take _) (by omega) i (by omega)
        have R1 : Hid _ := troot_fun K (ls.drop (2 ^ j)) (by omega) (low.drop _) (by omega)
        have RL : Hid ((rootS (ls.drop (2 ^ j))).length = 32) := rootS_length _
        have PL : Hid ((pathS (ls.take (2 ^ j)) i).length + 1 ≤ 4398046511103) := by
          have : (pathS (ls.take (2 ^ j)) i).length + 1 ≤ 4398046511103 := by have := pathS_short (ls := ls.take (2 ^ j)) (i := i) (by omega) (by omega); omega
          exact this
        have ij : (i : Int) < ((2 ^ j : Nat) : Int) := by omega
        clear hv hT low zl h3 hK ih hc h1 h2 lt1 ld1 hi p0 hij
        generalize pathS ls i = target at *
        generalize pathS (ls.take (2 ^ j)) i = px at *
        generalize rootS (ls.drop (2 ^ j)) = rx at *
        generalize 2 ^ j = P at *
        generalize hm : ls.length = m at *
        have HM : Hid (m = ls.length) := hm.symm
        clear hm hz
        go_enter Tryd.func27, Tryd.ntmps27
        go_wp2_with fail
        refine (CF.out w).mono ?_
        rintro e w1' ⟨rfl, hw1⟩
        have hw1 := hw1.symm
        subst hw1
        go_wp2_with fail
        have KU : Hid (∀ W, Below w.heap.size w W → KTab W) := fun W hW => HT.out.up hW HT.out.pos
        have SU : Hid (∀ W, Below w.heap.size w W → Sb W (.slice av m cv) ls) := fun W hW => HV.out.up hW (Nat.le_refl _)
        refine wp_region_monoSE 10 [MP.eq (.slice av m cv), MP.eq (.int .i64 (P : Int)), MP.sb (ls.take P), MP.eq (.int .i64 (i : Int)), MP.od w.heap.size px, MP.eq (.slice av m cv), MP.eq (.int .i64 (P : Int)), MP.sb (ls.drop P), MP.eq (vB rx), MP.d1 rx] (by kernel_rfl) (by kernel_rfl) rfl (by decide) (by kernel_rfl) ?_
        apply Exists.intro
        refine ⟨fun vals => ?_, ?_, fun vals4 w4 hb4 hF hO => ?_⟩
        · simp only [putsV, dstL, List.length_cons, List.length_nil, Nat.zero_add, Nat.reduceAdd, List.getElem?_cons_zero, List.getElem?_cons_succ, Option.bind_some, Act.put, List.setIfInBounds_toArray, List.set_cons_succ, List.set_cons_zero]
          rfl
        · refine ⟨?_, ?_, ?_, ?_, ?_, ?_, ?_, ?_, ?_, ?_, trivial⟩
          · intro vals W hW hw hd
            try simp [Region.binds] at hd
            refine ⟨by first | rfl | simp [Region.wanted, yielded, hd], ?_⟩
            simp [go_sem, hd]
            exact Below.refl _ _
          · intro vals W hW hw hd
            try simp [Region.binds] at hd
            refine ⟨by first | rfl | simp [Region.wanted, yielded, hd], ?_⟩
            simp [go_sem, hd]
            exact Below.refl _ _
          · intro vals W hW hw hd
            try simp [Region.binds] at hd
            refine ⟨by first | rfl | simp [Region.wanted, yielded, hd], ?_⟩
            exact yields_frontS (.tmp 15) (.tmp 16) rfl av m cv P .i64 P ls hd.1 hd.2 HM.out rfl (by rw [← HM.out]; exact HP.out) (SU.out W hW.out)
          · intro vals W hW hw hd
            try simp [Region.binds] at hd
            refine ⟨by first | rfl | simp [Region.wanted, yielded, hd], ?_⟩
            simp [go_sem, hd]
            exact Below.refl _ _
          · intro vals W hW hw hd
            try simp [Region.binds] at hd
            refine ⟨by first | rfl | simp [Region.wanted, yielded, hd], ?_⟩
            simp [go_sem, hd]
            exact (B1.out _ W hd.1 (KU.out W hW.out)).mono fun e w' ⟨⟨v', he, ho⟩, hb⟩ => ⟨v', he, ho.mono hW.out.size, hb⟩
          · intro vals W hW hw hd
            try simp [Region.binds] at hd
            refine ⟨by first | rfl | simp [Region.wanted, yielded, hd], ?_⟩
            simp [go_sem, hd]
            exact Below.refl _ _
          · intro vals W hW hw hd
            try simp [Region.binds] at hd
            refine ⟨by first | rfl | simp [Region.wanted, yielded, hd], ?_⟩
            simp [go_sem, hd]
            exact Below.refl _ _
          · intro vals W hW hw hd
            try simp [Region.binds] at hd
            refine ⟨by first | rfl | simp [Region.wanted, yielded, hd], ?_⟩
            exact yields_cutS (.tmp 20) (.tmp 21) rfl av m cv P .i64 P ls hd.1 hd.2 HM.out rfl (by rw [← HM.out]; exact HP.out) (SU.out W hW.out)
          · intro vals W hW hw hd
            try simp [Region.binds] at hd
            refine ⟨by first | rfl | simp [Region.wanted, yielded, hd], ?_⟩
            simp [go_sem, hd]
            exact (R1.out _ W hd.1 (KU.out W hW.out)).mono fun e w' ⟨he, hb⟩ => ⟨_, he, rfl, hb⟩
          · intro vals W hW hw hd
            try simp [Region.binds] at hd
            refine ⟨by first | rfl | simp [Region.wanted, yielded, hd], ?_⟩
            exact yields_d1 RL.out rfl hd
        obtain ⟨f0, f1, f2, f3, f4, f5, f6, f7, f8, f9, _⟩ := hF
        simp only [MP.eq_p] at f0 f1 f3 f5 f6 f8
        have XB : Hid (Below w.heap.size w w4) := hb4.out
        obtain ⟨g, e9, hr9⟩ := f9
        have O4 : Hid (Od w4 w.heap.size _ px) := f4
        have R9 : Hid (w4.rangeAt g 0 (rx.map b8)) := hr9
        rw [f0, f1, f3, f5, f6, f8]
        rw [e9]
        simp only [List.drop_succ_cons, List.drop_zero]
        clear hO hr9 hb4
        go_wp2_with (refine wp_appD rfl (.tmp 19) (.tmp 24) rfl w.heap.size _ px w4 g rx rfl O4.out (Below.refl _ _) rfl R9.out RL.out PL.out XB.out.size ?_)
        intro v8 w8 o8 hb8 _
        have O8 : Hid (Od w8 w.heap.size v8 (px ++ [rx])) := o8
        have D8 : Hid (Below w.heap.size w w8) := XB.out.trans hb8
        clear o8 hb8
        go_wp2_with fail
        go_ret
        exact ⟨⟨_, rfl, by rw [← SP.out]; exact O8.out⟩, D8.out⟩
      · have SP : Hid _ := pathS_right h1 h2 (by omega) hi
        obtain ⟨q, hq⟩ : ∃ q, q = i - 2 ^ j := ⟨_, rfl⟩
        rw [← hq] at SP
        have B1 : Hid _ := ih (ls.drop (2 ^ j)) (by omega) (low.drop _) (by omega) q (by omega)
        have R1 : Hid _ := troot_fun K (ls.take (2 ^ j)) (by omega) (low.take _) (by omega)
        have RL : Hid ((rootS (ls.take (2 ^ j))).length = 32) := rootS_length _
        have PL : Hid ((pathS (ls.drop (2 ^ j)) q).length + 1 ≤ 4398046511103) := by
          have : (pathS (ls.drop (2 ^ j)) q).length + 1 ≤ 4398046511103 := by have := pathS_short (ls := ls.drop (2 ^ j)) (i := q) (by omega) (by omega); omega
          exact this
        have ij : ¬ (i : Int) < ((2 ^ j : Nat) : Int) := by omega
        have wq : IntKind.i64.wrap ((i : Int) - ((2 ^ j : Nat) : Int)) = (q : Int) := by rw [IntKind.wrap_i64]; omega
        clear hv hT low zl h3 hK ih hc h1 h2 lt1 ld1 hi p0 hij hq
        generalize pathS ls i = target at *
        generalize pathS (ls.drop (2 ^ j)) q = px at *
        generalize rootS (ls.take (2 ^ j)) = rx at *
        generalize 2 ^ j = P at *
        generalize hm : ls.length = m at *
        have HM : Hid (m = ls.length) := hm.symm
        clear hm hz
        go_enter Tryd.func27, Tryd.ntmps27
        go_wp2_with fail
        refine (CF.out w).mono ?_
        rintro e w1' ⟨rfl, hw1⟩
        have hw1 := hw1.symm
        subst hw1
        go_wp2_with fail
        have KU : Hid (∀ W, Below w.heap.size w W → KTab W) := fun W hW => HT.out.up hW HT.out.pos
        have SU : Hid (∀ W, Below w.heap.size w W → Sb W (.slice av m cv) ls) := fun W hW => HV.out.up hW (Nat.le_refl _)
        refine wp_region_monoSE 12 [MP.eq (.slice av m cv), MP.eq (.int .i64 (P : Int)), MP.sb (ls.drop P), MP.eq (.int .i64 (i : Int)), MP.eq (.int .i64 (P : Int)), MP.eq (.int .i64 (q : Int)), MP.od w.heap.size px, MP.eq (.slice av m cv), MP.eq (.int .i64 (P : Int)), MP.sb (ls.take P), MP.eq (vB rx), MP.d1 rx] (by kernel_rfl) (by kernel_rfl) rfl (by decide) (by kernel_rfl) ?_
        apply Exists.intro
        refine ⟨fun vals => ?_, ?_, fun vals4 w4 hb4 hF hO => ?_⟩
        · simp only [putsV, dstL, List.length_cons, List.length_nil, Nat.zero_add, Nat.reduceAdd, List.getElem?_cons_zero, List.getElem?_cons_succ, Option.bind_some, Act.put, List.setIfInBounds_toArray, List.set_cons_succ, List.set_cons_zero]
          rfl
        · refine ⟨?_, ?_, ?_, ?_, ?_, ?_, ?_, ?_, ?_, ?_, ?_, ?_, trivial⟩
          · intro vals W hW hw hd
            try simp [Region.binds] at hd
            refine ⟨by first | rfl | simp [Region.wanted, yielded, hd], ?_⟩
            simp [go_sem, hd]
            exact Below.refl _ _
          · intro vals W hW hw hd
            try simp [Region.binds] at hd
            refine ⟨by first | rfl | simp [Region.wanted, yielded, hd], ?_⟩
            simp [go_sem, hd]
            exact Below.refl _ _
          · intro vals W hW hw hd
            try simp [Region.binds] at hd
            refine ⟨by first | rfl | simp [Region.wanted, yielded, hd], ?_⟩
            exact yields_cutS (.tmp 26) (.tmp 27) rfl av m cv P .i64 P ls hd.1 hd.2 HM.out rfl (by rw [← HM.out]; exact HP.out) (SU.out W hW.out)
          · intro vals W hW hw hd
            try simp [Region.binds] at hd
            refine ⟨by first | rfl | simp [Region.wanted, yielded, hd], ?_⟩
            simp [go_sem, hd]
            exact Below.refl _ _
          · intro vals W hW hw hd
            try simp [Region.binds] at hd
            refine ⟨by first | rfl | simp [Region.wanted, yielded, hd], ?_⟩
            simp [go_sem, hd]
            exact Below.refl _ _
          · intro vals W hW hw hd
            try simp [Region.binds] at hd
            refine ⟨by first | rfl | simp [Region.wanted, yielded, hd], ?_⟩
            simp [go_sem, hd, wq]
            exact Below.refl _ _
          · intro vals W hW hw hd
            try simp [Region.binds] at hd
            refine ⟨by first | rfl | simp [Region.wanted, yielded, hd], ?_⟩
            simp [go_sem, hd]
            exact (B1.out _ W hd.1 (KU.out W hW.out)).mono fun e w' ⟨⟨v', he, ho⟩, hb⟩ => ⟨v', he, ho.mono hW.out.size, hb⟩
          · intro vals W hW hw hd
            try simp [Region.binds] at hd
            refine ⟨by first | rfl | simp [Region.wanted, yielded, hd], ?_⟩
            simp [go_sem, hd]
            exact Below.refl _ _
          · intro vals W hW hw hd
            try simp [Region.binds] at hd
            refine ⟨by first | rfl | simp [Region.wanted, yielded, hd], ?_⟩
            simp [go_sem, hd]
            exact Below.refl _ _
          · intro vals W hW hw hd
            try simp [Region.binds] at hd
            refine ⟨by first | rfl | simp [Region.wanted, yielded, hd], ?_⟩
            exact yields_frontS (.tmp 33) (.tmp 34) rfl av m cv P .i64 P ls hd.1 hd.2 HM.out rfl (by rw [← HM.out]; exact HP.out) (SU.out W hW.out)
          · intro vals W hW hw hd
            try simp [Region.binds] at hd
            refine ⟨by first | rfl | simp [Region.wanted, yielded, hd], ?_⟩
            simp [go_sem, hd]
            exact (R1.out _ W hd.1 (KU.out W hW.out)).mono fun e w' ⟨he, hb⟩ => ⟨_, he, rfl, hb⟩
          · intro vals W hW hw hd
            try simp [Region.binds] at hd
            refine ⟨by first | rfl | simp [Region.wanted, yielded, hd], ?_⟩
            exact yields_d1 RL.out rfl hd
        obtain ⟨f0, f1, f2, f3, f4, f5, f6, f7, f8, f9, f10, f11, _⟩ := hF
        simp only [MP.eq_p] at f0 f1 f3 f4 f5 f7 f8 f10
        have XB : Hid (Below w.heap.size w w4) := hb4.out
        obtain ⟨g, e9, hr9⟩ := f11
        have O4 : Hid (Od w4 w.heap.size _ px) := f6
        have R9 : Hid (w4.rangeAt g 0 (rx.map b8)) := hr9
        rw [f0, f1, f3, f4, f5, f7, f8, f10]
        rw [e9]
        simp only [List.drop_succ_cons, List.drop_zero]
        clear hO hr9 hb4
        go_wp2_with (refine wp_appD rfl (.tmp 32) (.tmp 37) rfl w.heap.size _ px w4 g rx rfl O4.out (Below.refl _ _) rfl R9.out RL.out PL.out XB.out.size ?_)
        intro v8 w8 o8 hb8 _
        have O8 : Hid (Od w8 w.heap.size v8 (px ++ [rx])) := o8
        have D8 : Hid (Below w.heap.size w w8) := XB.out.trans hb8
        clear o8 hb8
        go_wp2_with fail
        go_ret
        exact ⟨⟨_, rfl, by rw [← SP.out]; exact O8.out⟩, D8.out⟩
    · have hz1 : ls.length = 1 := by omega
      obtain ⟨p, rfl⟩ := List.length_eq_one_iff.1 hz1
      obtain rfl : i = 0 := by simpa using hi
      obtain ⟨av, cv, rfl, hc, h3⟩ := id hv
      clear hv hT low zl h3 hK ih hc hi hz hz1
      simp only [List.length_singleton]
      go_enter Tryd.func27, Tryd.ntmps27
      go_wp2_with fail
      go_ret
      exact ⟨⟨_, rfl, by rw [pathS_one]; exact Od.nil _ _⟩, Below.refl _ _⟩
set_option maxRecDepth 20000 in
set_option maxHeartbeats 4000000 in
theorem tpath_fun (ls : List (List Nat)) (low : lowL ls) (zl : ls.length ≤ 1000000) (i : Nat) (hi : i < ls.length) (v : Value) (w : World) (hv : Sb w v ls) (hT : KTab w) :
    Calls Tryd.prog 9 #[v, .int .i64 (i : Int)] w fun e w' => (∃ v', e = .returned (.tuple #[v', .int .i64 0]) ∧ Od w' w.heap.size v' (pathS ls i)) ∧ Below w.heap.size w w' := by
  have B1 : Hid _ := beside_fun ls.length ls (Nat.le_refl _) low zl i hi v w hv hT
  obtain ⟨av, cv, rfl, hc, h3⟩ := id hv
  have j0 : ¬ (i : Int) < 0 := by omega
  have j1 : ¬ (ls.length : Int) ≤ (i : Int) := by omega
  clear hv hT low zl h3 hc hi
  go_enter Tryd.func9, Tryd.ntmps9
  go_wp2_with fail
  refine Calls.mono B1.out ?_
  rintro e w2 ⟨⟨v2, rfl, od2⟩, hb2⟩
  have D2 : Hid (Below w.heap.size w w2) := hb2
  have O2 : Hid _ := od2
  clear hb2 od2 B1
  go_wp2_with fail
  go_ret2
  exact ⟨⟨_, rfl, O2.out⟩, D2.out⟩
set_option maxHeartbeats 4000000 in
theorem tpath_bad (ls : List (List Nat)) (i : Int) (h : i < 0 ∨ (ls.length : Int) ≤ i) (v : Value) (w : World) (hv : Sb w v ls) :
    Calls Tryd.prog 9 #[v, .int .i64 i] w fun e w' => e = .returned (.tuple #[.slice none 0 0, .int .i64 1]) ∧ Below w.heap.size w w' := by
  obtain ⟨av, cv, rfl, hc, h3⟩ := id hv
  clear hv h3 hc
  go_enter Tryd.func9, Tryd.ntmps9
  by_cases h1 : i < 0
  · clear h
    go_wp2_with fail
    go_ret2
    exact ⟨rfl, Below.refl _ _⟩
  · have h2 : (ls.length : Int) ≤ i := by omega
    clear h
    go_wp2_with fail
    go_ret2
    exact ⟨rfl, Below.refl _ _⟩
end Go.Proofs.YtmpniingbioggaaDoor
