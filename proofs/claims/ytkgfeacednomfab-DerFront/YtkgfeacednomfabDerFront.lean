/- DerFront returns true for every two items. -/
import Derived.Test.YtkgfeacednomfabDerM
import Derived.Test.YtkgfeacednomfabSame
import Derived.Test.YtkgfeacednomfabOpenI
namespace Go.Proofs.Ytkgfeacednomfab
open Go.RowKit
open Go.ChangeShapes Go.WideShapes Go.ChangeAt
attribute [local go_sem] cell_al
set_option linter.unusedSimpArgs false
theorem heap3a (w : World) (o1 o2 o3 : Obj) : (((w.alloc o1).alloc o2).alloc o3).heap[w.heap.size]? = some o1 := by
  rw [(World.grownBy_alloc ((w.alloc o1).alloc o2) o3 none).block _ (by simp; omega) (by simp)]
  exact heap_new2 w o1 o2
theorem heap3b (w : World) (o1 o2 o3 : Obj) : (((w.alloc o1).alloc o2).alloc o3).heap[w.heap.size + 1]? = some o2 := by
  have := heap_new2 (w.alloc o1) o2 o3
  simpa using this
theorem below3 {w : World} (o1 o2 o3 : Obj) : Below w.heap.size w (((w.alloc o1).alloc o2).alloc o3) :=
  (((Below.refl _ _).alloc (Nat.le_refl _) _).alloc (by simp) _).alloc (by simp; omega) _
set_option maxRecDepth 20000 in
set_option maxHeartbeats 2000000 in
theorem derFront_law (v1 : Value) (x : It) (lx : x.tag < 256 ∧ lowB x.body) (v2 : Value) (y : It) (ly : y.tag < 256 ∧ lowB y.body) (w : World) (h1 : ItV w v1 x) (h2 : ItV w v2 y) :
    Calls Try.prog 5 #[v1, v2] w fun e w' => e = .returned (.bool true) ∧ Below w.heap.size w w' := by
  obtain ⟨u1, rfl, hu1⟩ := h1
  obtain ⟨u2, rfl, hu2⟩ := h2
  obtain ⟨a1, c1, rfl⟩ := hu1.len
  obtain ⟨a2, c2, rfl⟩ := hu2.len
  have HX : Hid (By w _ x.body) := hu1
  have HY : Hid (By w _ y.body) := hu2
  clear hu1 hu2
  go_enter Try.func5, Try.ntmps5
  go_wp2_with fail
  refine (write_any _ [x] _ (Its.one ((cell_top (by simp)).trans (by simp)) ((cell_top (by simp)).trans (by simp)) (HX.out.up (below3 _ _ _) (Nat.le_refl _)))).mono ?_
  rintro e w1 ⟨⟨t1, n1, rfl, he1⟩, hb1⟩
  have XB1 : Hid (w1.heap[w.heap.size]? = _) := (hb1.block _ (by simp; omega)).trans (heap3a w _ _ _)
  have YB1 : Hid (w1.heap[w.heap.size + 1]? = _) := (hb1.block _ (by simp)).trans (heap3b w _ _ _)
  obtain ⟨f0, f1⟩ := item_cells XB1.out
  obtain ⟨f2, f3⟩ := item_cells YB1.out
  have B1 : Hid (Below w.heap.size w w1) := (below3 _ _ _).trans (hb1.mono (by simp; omega))
  have s1 := hb1.size
  have HE1 : Hid _ := he1
  clear hb1 he1
  go_wp2_with fail
  refine (write_any _ [y] _ (Its.one ((cell_top rfl).trans (by simp)) ((cell_top rfl).trans (by simp)) ((HY.out.up B1.out (Nat.le_refl _)).up ((Below.refl _ _).alloc (Nat.le_refl _) _) (Nat.le_refl _)))).mono ?_
  rintro e w2 ⟨⟨t2, n2, rfl, he2⟩, hb2⟩
  have b12 : Below w1.heap.size w1 w2 := ((Below.refl _ _).alloc (Nat.le_refl _) _).trans (hb2.mono (by simp))
  have XB2 : Hid (w2.heap[w.heap.size]? = _) := (b12.block _ (Array.getElem?_eq_some_iff.1 XB1.out).1).trans XB1.out
  have YB2 : Hid (w2.heap[w.heap.size + 1]? = _) := (b12.block _ (Array.getElem?_eq_some_iff.1 YB1.out).1).trans YB1.out
  have B2 : Hid (Below w.heap.size w w2) := B1.out.trans (b12.mono B1.out.size)
  have ex : texts [x] = x.text := by simp [texts]
  have ey : texts [y] = y.text := by simp [texts]
  rw [ey] at he2
  rcases HE1.out with ⟨rfl, ok1, hT1⟩ | ⟨rfl, _, rfl⟩
  · rcases he2 with ⟨rfl, ok2, hT2⟩ | ⟨rfl, _, rfl⟩
    · rw [ex] at hT1
      have bx : x.body.length ≤ 4096 := ok1.2 x (by simp)
      have by_ : y.body.length ≤ 4096 := ok2.2 y (by simp)
      have T1 : Hid (By w2 t1 x.text) := hT1.up b12 (Nat.le_refl _)
      have T2 : Hid (By w2 t2 y.text) := hT2
      have LX : Hid (∀ z ∈ x.text, z < 256) := text_low bx lx.1 lx.2
      have LY : Hid (∀ z ∈ y.text, z < 256) := text_low by_ ly.1 ly.2
      have LB : Hid (lowB x.body) := lx.2
      by_cases hp : x.text.take y.text.length = y.text
      · have exy : x = y := text_front bx by_ hp
        subst exy
        have HP : Hid (decide (x.text.take x.text.length = x.text) = true) := by
          have : decide (x.text.take x.text.length = x.text) = true := by simp
          exact this
        obtain ⟨f4, f5⟩ := item_cells XB2.out
        obtain ⟨f6, f7⟩ := item_cells YB2.out
        clear hb2 hT1 hT2 HE1 ok1 ok2 b12 ex ey f0 f1 f2 f3 XB1 YB1 B1 s1 hp lx ly bx by_
        go_wp2_with fail
        refine (hasPrefix_fun t1 t2 x.text x.text LX.out LY.out w2 T1.out T2.out).mono ?_
        rintro e w3 ⟨rfl, hb3⟩
        rw [HP.out]
        have B3 : Hid (Below w2.heap.size w2 w3) := hb3
        clear hb3
        go_wp2_with fail
        refine (equal_fun t1 t2 x.text x.text LX.out LY.out w3 (T1.out.up B3.out (Nat.le_refl _)) (T2.out.up B3.out (Nat.le_refl _))).mono ?_
        rintro e w4 ⟨rfl, hb4⟩
        rw [show decide (x.text = x.text) = true by simp]
        have B4 : Hid (Below w2.heap.size w2 w4) := B3.out.trans (hb4.mono B3.out.size)
        have XB4 : Hid (w4.heap[w.heap.size]? = _) := (B4.out.block _ (Array.getElem?_eq_some_iff.1 XB2.out).1).trans XB2.out
        have YB4 : Hid (w4.heap[w.heap.size + 1]? = _) := (B4.out.block _ (Array.getElem?_eq_some_iff.1 YB2.out).1).trans YB2.out
        obtain ⟨g4, g5⟩ := item_cells XB4.out
        obtain ⟨g6, g7⟩ := item_cells YB4.out
        have B5 : Hid (Below w.heap.size w w4) := B2.out.trans (B4.out.mono B2.out.size)
        clear hb4 B3 B4 f4 f5 f6 f7 XB2 YB2 B2 T1 T2 LX LY HP
        go_wp2_with fail
        refine (same_fun _ _ [x] ?_ (by simp) _ (Its.one (x := x) ?_ ?_ ((HX.out.up B5.out (Nat.le_refl _)).up ?_ (Nat.le_refl _))) (Its.one (x := x) ?_ ?_ ((HY.out.up B5.out (Nat.le_refl _)).up ?_ (Nat.le_refl _)))).mono ?_
        · intro z hz
          obtain rfl : z = x := by simpa using hz
          exact LB.out
        · exact cell_al ((cell_top rfl).trans (by simp))
        · exact cell_al ((cell_top rfl).trans (by simp))
        · exact ((Below.refl _ _).alloc (Nat.le_refl _) _).alloc (by simp) _
        · exact (cell_top (by simp)).trans (by simp)
        · exact (cell_top (by simp)).trans (by simp)
        · exact ((Below.refl _ _).alloc (Nat.le_refl _) _).alloc (by simp) _
        rintro e w5 ⟨rfl, hb5⟩
        have B6 : Hid (Below w.heap.size w w5) := ((B5.out.alloc B5.out.size _).alloc (by have := B5.out.size; simp; omega) _).trans (hb5.mono (by have := B5.out.size; simp; omega))
        clear hb5
        go_wp2_with fail
        go_ret
        exact ⟨rfl, B6.out⟩
      · have HP : Hid (decide (x.text.take y.text.length = y.text) = false) := by
          have : decide (x.text.take y.text.length = y.text) = false := by simpa using hp
          exact this
        clear hb2 hT1 hT2 HE1 ok1 ok2 b12 ex ey f0 f1 f2 f3 XB1 YB1 B1 s1 hp lx ly bx by_ XB2 YB2
        go_wp2_with fail
        refine (hasPrefix_fun t1 t2 x.text y.text LX.out LY.out w2 T1.out T2.out).mono ?_
        rintro e w3 ⟨rfl, hb3⟩
        rw [HP.out]
        have B3 : Hid (Below w.heap.size w w3) := B2.out.trans (hb3.mono B2.out.size)
        clear hb3
        go_wp2_with fail
        go_ret
        exact ⟨rfl, B3.out⟩
    · clear hb2 HE1 ex ey hT1 ok1
      go_wp2_with fail
      go_ret
      exact ⟨rfl, B2.out⟩
  · clear hb2 HE1 ex ey
    go_wp2_with fail
    go_ret
    exact ⟨rfl, B2.out⟩
set_option maxRecDepth 100000 in
theorem derFront_lifted (os : Os) (started : os.Started) (H : Type) (enc : TypeId × Value → H) :
    ReturnsInHanded {} Try.checked os 5 .any (Rows.derFrontSpec.pre6 enc Try.prog Try.f5 Rows.derFrontRow.domain false) (Rows.derFrontSpec.post enc Try.prog Try.f5 false true false false) := by
  refine returnsInHanded_of_change (C := Try.checked) Try.own started (by kernel_rfl) Try.func5
    (ChangeSpec.witness6 (enc := enc) (C := Try.checked) false ⟨#[], #[.agg #[.int .u8 0, .slice none 0 0], .agg #[.int .u8 0, .slice none 0 0]], []⟩ 8 (by kernel_rfl) (by kernel_rfl) (by kernel_rfl) (by kernel_rfl)) ?_
  intro W base args ds gs before hval0 hW hcnd _
  have hval : ∀ (j : Nat) t v, Try.f5.params[j]? = some t → args[j]? = some v → Value.okWide Try.prog W .any base t v := hval0
  have hW' := hW
  obtain ⟨p, q, hA0, hV, rfl, hfz, hnd⟩ := hW
  have hA : DataW.TrodAll enc Try.prog W 0 (fun _ => true) true Try.f5.params.toList args.toList ds p := hA0
  rw [Try.params5] at hA hval
  obtain ⟨v0, v1, d0, d1, p0, p1, rfl, rfl, rfl, h0, h1⟩ := trodAll_two hA
  obtain ⟨rfl, rfl⟩ := trodVars_none hV
  simp only [List.append_nil] at hW'
  have hlt : ∀ x ∈ p0 ++ p1, x.block < W.heap.size := fun x hx => by simpa using hW'.lt x (by simpa using hx)
  have hk0 : ∀ W' : World, Below W.heap.size W W' → DataW.Trod enc Try.prog W' 0 (fun b => decide (b < W.heap.size)) true 34 v0 d0 p0 := fun W' hn => Below.trod Try.laidOut (by kernel_rfl) (of_decide_eq_true (by kernel_rfl)) h0 hn (fun x hx => hlt x (by simp [hx]))
  obtain ⟨x0, low0, hI0⟩ := item_of_trod (hval 0 34 v0 rfl rfl) h0
  have hk1 : ∀ W' : World, Below W.heap.size W W' → DataW.Trod enc Try.prog W' 0 (fun b => decide (b < W.heap.size)) true 34 v1 d1 p1 := fun W' hn => Below.trod Try.laidOut (by kernel_rfl) (of_decide_eq_true (by kernel_rfl)) h1 hn (fun x hx => hlt x (by simp [hx]))
  obtain ⟨x1, low1, hI1⟩ := item_of_trod (hval 1 34 v1 rfl rfl) h1
  refine (derFront_law _ x0 low0 _ x1 low1 W hI0 hI1).mono fun e W' ⟨he, hg⟩ => ?_
  subst he
  exact ⟨_, rfl, _, _, _, [], _, [], hW', trodAll_mk1 (shut_bool Try.underlying4 _), trodAll_mk2 (hk0 _ hg) (hk1 _ hg), rfl, hg.frame _, fun h => by cases h⟩

theorem derFront_holds : Rows.DerFrontSaid :=
  OpenClaim.holds_of_wide 5 Try.f5 rfl rfl rfl rfl rfl rfl rfl ⟨rfl, rfl, rfl, rfl, rfl⟩ rfl rfl rfl rfl rfl (by kernel_rfl) Try.func5 (by kernel_rfl)
    (of_decide_eq_true (by kernel_rfl)) (by unfold Func.isWrapper; first | (rw [if_pos (by decide +kernel)]; kernel_rfl) | (rw [if_neg (by decide +kernel)]; exact ⟨rfl, rfl⟩))
    (fun os started H enc _ => derFront_lifted os started H enc)
#print axioms derFront_holds
end Go.Proofs.Ytkgfeacednomfab
