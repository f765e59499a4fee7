/- DerBack returns true for every slice of items: what was written is read as it was. -/
import Derived.Test.YtkgfeacednomfaaDerRead
import Derived.Test.YtkgfeacednomfaaSame
import Derived.Test.YtkgfeacednomfaaOpenI
namespace Go.Proofs.Ytkgfeacednomfaa
open Go.RowKit
open Go.ChangeShapes Go.WideShapes Go.ChangeAt
set_option linter.unusedSimpArgs false
set_option maxRecDepth 20000 in
set_option maxHeartbeats 2000000 in
theorem derBack_law (v : Value) (l : List It) (lo : lowI l) (w : World) (h : Its w v l) :
    Calls Try.prog 8 #[v] w fun e w' => e = .returned (.bool true) ∧ Below w.heap.size w w' := by
  have H : Hid (Its w v l) := h
  clear h
  go_enter Try.func8, Try.ntmps8
  go_wp2_with fail
  refine (write_any v l w H.out).mono ?_
  rintro e w1 ⟨⟨u, n, rfl, he⟩, hb⟩
  have B1 : Hid (Below w.heap.size w w1) := hb
  have H1 : Hid (Its w1 v l) := H.out.up hb (Nat.le_refl _)
  clear hb H
  rcases he with ⟨rfl, hok, hu⟩ | ⟨rfl, _, rfl⟩
  · obtain ⟨au, cu, rfl⟩ := hu.len
    have LT : Hid (∀ y ∈ texts l, y < 256) := texts_low hok.2 lo
    have RS : Hid (readS 200 (texts l) = .inr l) := readS_back l 200 hok.1 hok.2
    have h200 : l.length ≤ 200 := hok.1
    have HU : Hid (By w1 _ (texts l)) := hu
    have LB : Hid (∀ x ∈ l, ∀ y ∈ x.body, y < 256) := fun x hx => (lo x hx).2
    clear hu lo hok
    by_cases h1 : (texts l).length ≤ 65536
    · have i1 : ¬ ((texts l).length : Int) > 65536 := by omega
      go_wp2_with fail
      refine (read_fun _ _ LT.out w1 HU.out).mono ?_
      rintro e w2 ⟨he, hb⟩
      rcases he with ⟨_, hr⟩ | ⟨h2, _⟩
      · rcases hr with ⟨n, _, hn, _⟩ | ⟨m, u2, hm, rfl, ho⟩
        · rw [RS.out] at hn
          cases hn
        · rw [RS.out] at hm
          obtain rfl : l = m := Sum.inr.inj hm
          have B2 : Hid (Below w.heap.size w w2) := B1.out.trans (hb.mono B1.out.size)
          have H2 : Hid (Its w2 v l) := H1.out.up hb (Nat.le_refl _)
          have I2 : Hid (Its w2 u2 l) := ho.its
          clear hb ho hm B1 H1 HU RS LT
          go_wp2_with fail
          refine (same_fun _ _ l LB.out (by omega) w2 H2.out I2.out).mono ?_
          rintro e w3 ⟨rfl, hb⟩
          have B3 : Hid (Below w.heap.size w w3) := B2.out.trans (hb.mono B2.out.size)
          clear hb
          go_wp2_with fail
          go_ret
          exact ⟨rfl, B3.out⟩
      · omega
    · have i1 : ((texts l).length : Int) > 65536 := by omega
      go_wp2_with fail
      go_ret
      exact ⟨rfl, B1.out⟩
  · go_wp2_with fail
    go_ret
    exact ⟨rfl, B1.out⟩
set_option maxRecDepth 100000 in
theorem derBack_lifted (os : Os) (started : os.Started) (H : Type) (enc : TypeId × Value → H) :
    ReturnsInHanded {} Try.checked os 8 .any (Rows.derBackSpec.pre6 enc Try.prog Try.f8 Rows.derBackRow.domain false) (Rows.derBackSpec.post enc Try.prog Try.f8 false true false false) := by
  refine returnsInHanded_of_change (C := Try.checked) Try.own started (by kernel_rfl) Try.func8
    (ChangeSpec.witness6 (enc := enc) (C := Try.checked) false ⟨#[], #[.slice none 0 0], []⟩ 8 (by kernel_rfl) (by kernel_rfl) (by kernel_rfl) (by kernel_rfl)) ?_
  intro W base args ds gs before hval0 hW hcnd _
  have hval : ∀ (j : Nat) t v, Try.f8.params[j]? = some t → args[j]? = some v → Value.okWide Try.prog W .any base t v := hval0
  have hW' := hW
  obtain ⟨p, q, hA0, hV, rfl, hfz, hnd⟩ := hW
  have hA : DataW.TrodAll enc Try.prog W 0 (fun _ => true) true Try.f8.params.toList args.toList ds p := hA0
  rw [Try.params8] at hA hval
  obtain ⟨v0, d0, rfl, rfl, h0⟩ := trodAll_one hA
  obtain ⟨rfl, rfl⟩ := trodVars_none hV
  simp only [List.append_nil] at hW'
  have hlt : ∀ x ∈ p, x.block < W.heap.size := fun x hx => by simpa using hW'.lt x (by simpa using hx)
  have hk0 : ∀ W' : World, Below W.heap.size W W' → DataW.Trod enc Try.prog W' 0 (fun b => decide (b < W.heap.size)) true 56 v0 d0 p := fun W' hn => Below.trod Try.laidOut (by kernel_rfl) (of_decide_eq_true (by kernel_rfl)) h0 hn (fun x hx => hlt x (by simp [hx]))
  obtain ⟨a0, n0, c0, rfl⟩ := okWide_slice Try.uItems (hval 0 56 v0 rfl rfl)
  obtain ⟨fuel0, hf0⟩ := h0
  obtain ⟨l0, low0, hI0⟩ := its_of_trod (v := .slice a0 n0 c0) (by simpa [Value.cells] using hf0)
  refine (derBack_law _ l0 low0 W hI0).mono fun e W' ⟨he, hg⟩ => ?_
  subst he
  exact ⟨_, rfl, _, _, _, [], _, [], hW', trodAll_mk1 (shut_bool Try.underlying4 _), trodAll_mk1 (hk0 _ hg), rfl, hg.frame _, fun h => by cases h⟩

theorem derBack_holds : Rows.DerBackSaid :=
  OpenClaim.holds_of_wide 8 Try.f8 rfl rfl rfl rfl rfl rfl rfl ⟨rfl, rfl, rfl, rfl, rfl⟩ rfl rfl rfl rfl rfl (by kernel_rfl) Try.func8 (by kernel_rfl)
    (of_decide_eq_true (by kernel_rfl)) (by unfold Func.isWrapper; first | (rw [if_pos (by decide +kernel)]; kernel_rfl) | (rw [if_neg (by decide +kernel)]; exact ⟨rfl, rfl⟩))
    (fun os started H enc _ => derBack_lifted os started H enc)
#print axioms derBack_holds
end Go.Proofs.Ytkgfeacednomfaa
