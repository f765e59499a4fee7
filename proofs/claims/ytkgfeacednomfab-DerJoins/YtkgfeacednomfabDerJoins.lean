/- DerJoins returns true for every two slices of items: their texts stand one behind the other. -/
import Derived.Test.YtkgfeacednomfabDers
import Derived.Test.YtkgfeacednomfabSame
import Derived.Test.YtkgfeacednomfabDerM
import Derived.Test.YtkgfeacednomfabOpenI
namespace Go.Proofs.Ytkgfeacednomfab
open Go.RowKit
open Go.ChangeShapes Go.WideShapes Go.ChangeAt
set_option linter.unusedSimpArgs false
theorem texts_append (l m : List It) : texts (l ++ m) = texts l ++ texts m := by simp [texts]
set_option maxRecDepth 20000 in
set_option maxHeartbeats 4000000 in
theorem derJoins_law (v1 : Value) (l : List It) (lo1 : lowI l) (v2 : Value) (m : List It) (lo2 : lowI m) (w : World) (h1 : Its w v1 l) (h2 : Its w v2 m) :
    Calls Try.prog 4 #[v1, v2] w fun e w' => e = .returned (.bool true) ∧ Below w.heap.size w w' := by
  obtain ⟨a1, c1, rfl, _⟩ := id h1
  obtain ⟨a2, c2, rfl, _⟩ := id h2
  have H1 : Hid (Its w _ l) := h1
  have H2 : Hid (Its w _ m) := h2
  clear h1 h2
  go_enter Try.func4, Try.ntmps4
  go_wp2_with fail
  refine (ders_fun w).mono ?_
  rintro e w1 ⟨rfl, hb⟩
  have B1 : Hid (Below w.heap.size w w1) := hb
  clear hb
  go_wp2_with fail
  refine (write_any _ l w1 (H1.out.up B1.out (Nat.le_refl _))).mono ?_
  rintro e w2 ⟨⟨u1, n1, rfl, he1⟩, hb⟩
  have B2 : Hid (Below w.heap.size w w2) := B1.out.trans (hb.mono B1.out.size)
  have HE1 : Hid _ := he1
  clear hb B1 he1
  go_wp2_with fail
  refine (write_any _ m w2 (H2.out.up B2.out (Nat.le_refl _))).mono ?_
  rintro e w3 ⟨⟨u2, n2, rfl, he2⟩, hb⟩
  have B3 : Hid (Below w.heap.size w w3) := B2.out.trans (hb.mono B2.out.size)
  rcases HE1.out with ⟨rfl, ok1, hT1⟩ | ⟨rfl, _, rfl⟩
  · rcases he2 with ⟨rfl, ok2, hT2⟩ | ⟨rfl, _, rfl⟩
    · have T1 : Hid (By w3 u1 (texts l)) := hT1.up hb (Nat.le_refl _)
      have T2 : Hid (By w3 u2 (texts m)) := hT2
      have L1 : Hid (∀ y ∈ texts (l ++ m), y < 256) := by
        refine (texts_low (fun x hx => ?_) (fun x hx => ?_) : ∀ y ∈ texts (l ++ m), y < 256)
        · rcases List.mem_append.1 hx with hx | hx
          · exact ok1.2 x hx
          · exact ok2.2 x hx
        · rcases List.mem_append.1 hx with hx | hx
          · exact lo1 x hx
          · exact lo2 x hx
      have Z1 : Hid ((texts l).length ≤ 820000) := by
        have := texts_len l ok1.2
        have := ok1.1
        exact (by omega : (texts l).length ≤ 820000)
      have Z2 : Hid ((texts m).length ≤ 820000) := by
        have := texts_len m ok2.2
        have := ok2.1
        exact (by omega : (texts m).length ≤ 820000)
      clear hb hT1 hT2 HE1 B2 lo1 lo2
      by_cases p1 : l.length ≤ 100
      · by_cases p2 : m.length ≤ 100
        · have q1 : ¬ (l.length : Int) > 100 := by omega
          have q2 : ¬ (m.length : Int) > 100 := by omega
          have H1' : Hid (Its w3 _ l) := H1.out.up B3.out (Nat.le_refl _)
          have H2' : Hid (Its w3 _ m) := H2.out.up B3.out (Nat.le_refl _)
          have OK : Hid (okIts (l ++ m)) := by
            refine (⟨by simp; omega, fun x hx => ?_⟩ : okIts (l ++ m))
            rcases List.mem_append.1 hx with hx | hx
            · exact ok1.2 x hx
            · exact ok2.2 x hx
          clear H1 H2 ok1 ok2
          go_wp2_with (first | (at_builtin; refine wp_appL rfl (.tmp 40) (.tmp 41) rfl _ _ [] l rfl (Oa.nil _ w3) rfl H1'.out (Below.refl _ _) (by simp; omega) ?_; intro va wa oa ba) | (at_builtin; refine wp_appL rfl (.tmp 42) (.tmp 43) rfl _ _ l m rfl oa rfl H2'.out ba (by omega) ?_; intro vb wb ob bb))
          have IB : Hid (Its wb vb (l ++ m)) := ob.its bb
          have BB : Hid (Below w3.heap.size w3 wb) := bb
          clear oa ba ob bb H1' H2'
          refine (write_any vb (l ++ m) wb IB.out).mono ?_
          rintro e w4 ⟨⟨u3, n3, rfl, he3⟩, hb⟩
          rcases he3 with ⟨rfl, _, hT3⟩ | ⟨_, hno, _⟩
          · have b34 : Hid (Below w3.heap.size w3 w4) := BB.out.trans (hb.mono BB.out.size)
            have T3 : Hid (By w4 u3 (texts (l ++ m))) := hT3
            have T1' : Hid (By w4 u1 (texts l)) := T1.out.up b34.out (Nat.le_refl _)
            have T2' : Hid (By w4 u2 (texts m)) := T2.out.up b34.out (Nat.le_refl _)
            have B4 : Hid (Below w.heap.size w w4) := B3.out.trans (b34.out.mono B3.out.size)
            clear hb hT3 BB IB OK T1 T2 B3 b34 p1 p2 q1 q2
            go_wp2_with (first | (at_builtin; refine wp_appBg rfl (.const (.slice none 0 0)) (.tmp 54) rfl w4.heap.size _ _ [] (texts l) rfl (Ob.nil _ _) rfl T1'.out (by have := Z1.out; simp; omega) (Nat.le_refl _) ?_; intro va wa oa ba) | (at_builtin; refine wp_appBg rfl (.tmp 55) (.tmp 56) rfl w4.heap.size _ _ (texts l) (texts m) rfl oa rfl (T2'.out.up ba (Nat.le_refl _)) (by have := Z1.out; have := Z2.out; omega) ba.size ?_; intro vb wb ob bb))
            have bw : Below w4.heap.size w4 wb := ba.trans bb
            have T4 : Hid (By wb vb (texts (l ++ m))) := by rw [texts_append]; exact ob.by
            have B5 : Hid (Below w.heap.size w wb) := B4.out.trans (bw.mono B4.out.size)
            refine (equal_fun u3 vb (texts (l ++ m)) (texts (l ++ m)) L1.out L1.out wb (T3.out.up bw (Nat.le_refl _)) T4.out).mono ?_
            rintro e w5 ⟨rfl, hb⟩
            rw [show decide (texts (l ++ m) = texts (l ++ m)) = true by simp]
            have B6 : Hid (Below w.heap.size w w5) := B5.out.trans (hb.mono B5.out.size)
            clear hb bw oa ba ob bb
            go_wp2_with fail
            go_ret
            exact ⟨rfl, B6.out⟩
          · exact absurd OK.out hno
        · have q2 : (m.length : Int) > 100 := by omega
          go_wp2_with fail
          all_goals go_ret
          all_goals exact ⟨rfl, B3.out⟩
      · have q1 : (l.length : Int) > 100 := by omega
        go_wp2_with fail
        all_goals go_ret
        all_goals exact ⟨rfl, B3.out⟩
    · clear hb HE1
      go_wp2_with fail
      go_ret
      exact ⟨rfl, B3.out⟩
  · clear hb HE1
    go_wp2_with fail
    go_ret
    exact ⟨rfl, B3.out⟩
set_option maxRecDepth 100000 in
theorem derJoins_lifted (os : Os) (started : os.Started) (H : Type) (enc : TypeId × Value → H) :
    ReturnsInHanded {} Try.checked os 4 .any (Rows.derJoinsSpec.pre6 enc Try.prog Try.f4 Rows.derJoinsRow.domain false) (Rows.derJoinsSpec.post enc Try.prog Try.f4 false true false false) := by
  refine returnsInHanded_of_change (C := Try.checked) Try.own started (by kernel_rfl) Try.func4
    (ChangeSpec.witness6 (enc := enc) (C := Try.checked) false ⟨#[], #[.slice none 0 0, .slice none 0 0], []⟩ 8 (by kernel_rfl) (by kernel_rfl) (by kernel_rfl) (by kernel_rfl)) ?_
  intro W base args ds gs before hval0 hW hcnd _
  have hval : ∀ (j : Nat) t v, Try.f4.params[j]? = some t → args[j]? = some v → Value.okWide Try.prog W .any base t v := hval0
  have hW' := hW
  obtain ⟨p, q, hA0, hV, rfl, hfz, hnd⟩ := hW
  have hA : DataW.TrodAll enc Try.prog W 0 (fun _ => true) true Try.f4.params.toList args.toList ds p := hA0
  rw [Try.params4] at hA hval
  obtain ⟨v0, v1, d0, d1, p0, p1, rfl, rfl, rfl, h0, h1⟩ := trodAll_two hA
  obtain ⟨rfl, rfl⟩ := trodVars_none hV
  simp only [List.append_nil] at hW'
  have hlt : ∀ x ∈ p0 ++ p1, x.block < W.heap.size := fun x hx => by simpa using hW'.lt x (by simpa using hx)
  have hk0 : ∀ W' : World, Below W.heap.size W W' → DataW.Trod enc Try.prog W' 0 (fun b => decide (b < W.heap.size)) true 23 v0 d0 p0 := fun W' hn => Below.trod Try.laidOut (by kernel_rfl) (of_decide_eq_true (by kernel_rfl)) h0 hn (fun x hx => hlt x (by simp [hx]))
  obtain ⟨a0, n0, c0, rfl⟩ := okWide_slice Try.uItems (hval 0 23 v0 rfl rfl)
  obtain ⟨fuel0, hf0⟩ := h0
  obtain ⟨l0, low0, hI0⟩ := its_of_trod (v := .slice a0 n0 c0) (by simpa [Value.cells] using hf0)
  have hk1 : ∀ W' : World, Below W.heap.size W W' → DataW.Trod enc Try.prog W' 0 (fun b => decide (b < W.heap.size)) true 23 v1 d1 p1 := fun W' hn => Below.trod Try.laidOut (by kernel_rfl) (of_decide_eq_true (by kernel_rfl)) h1 hn (fun x hx => hlt x (by simp [hx]))
  obtain ⟨a1, n1, c1, rfl⟩ := okWide_slice Try.uItems (hval 1 23 v1 rfl rfl)
  obtain ⟨fuel1, hf1⟩ := h1
  obtain ⟨l1, low1, hI1⟩ := its_of_trod (v := .slice a1 n1 c1) (by simpa [Value.cells] using hf1)
  refine (derJoins_law _ l0 low0 _ l1 low1 W hI0 hI1).mono fun e W' ⟨he, hg⟩ => ?_
  subst he
  exact ⟨_, rfl, _, _, _, [], _, [], hW', trodAll_mk1 (shut_bool Try.underlying4 _), trodAll_mk2 (hk0 _ hg) (hk1 _ hg), rfl, hg.frame _, fun h => by cases h⟩

theorem derJoins_holds : Rows.DerJoinsSaid :=
  OpenClaim.holds_of_wide 4 Try.f4 rfl rfl rfl rfl rfl rfl rfl ⟨rfl, rfl, rfl, rfl, rfl⟩ rfl rfl rfl rfl rfl (by kernel_rfl) Try.func4 (by kernel_rfl)
    (of_decide_eq_true (by kernel_rfl)) (by unfold Func.isWrapper; first | (rw [if_pos (by decide +kernel)]; kernel_rfl) | (rw [if_neg (by decide +kernel)]; exact ⟨rfl, rfl⟩))
    (fun os started H enc _ => derJoins_lifted os started H enc)
#print axioms derJoins_holds
end Go.Proofs.Ytkgfeacednomfab
