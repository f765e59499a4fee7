/- DerReads returns true for every slice of bytes: der.Read and der.First answer what the document says. -/
import Derived.Test.YtkgfeacednomfaaDerRR
import Derived.Test.YtkgfeacednomfaaOpenI
namespace Go.Proofs.Ytkgfeacednomfaa
open Go.RowKit
open Go.ChangeShapes Go.WideShapes Go.ChangeAt
set_option linter.unusedSimpArgs false
attribute [local go_sem] cell_al
theorem readR_len {b : List Nat} (low : ∀ x ∈ b, x < 256) : (readR b).2.length ≤ 4611686018427387904 := by
  unfold readR
  by_cases h : 65536 < b.length
  · rw [if_pos h]; simp
  · rw [if_neg h]
    cases e : readS 200 b with
    | inl n => simp
    | inr l =>
      have := (readS_one 200 b l low e).2.1
      simp only
      omega
set_option maxRecDepth 20000 in
set_option maxHeartbeats 4000000 in
theorem derReads_law (v : Value) (b : List Nat) (lo : lowB b) (w : World) (h : By w v b) :
    Calls Try.prog 6 #[v] w fun e w' => e = .returned (.bool true) ∧ Below w.heap.size w w' := by
  have H : Hid (By w v b) := h
  have LO : Hid (∀ x ∈ b, x < 256) := lo
  clear h lo
  go_enter Try.func6, Try.ntmps6
  go_wp2_with fail
  refine (read_any v b LO.out w H.out).mono ?_
  rintro e w1 ⟨⟨u1, rfl, hi1⟩, hb⟩
  have B1 : Hid (Below w.heap.size w w1) := hb
  have H1 : Hid (By w1 v b) := H.out.up hb (Nat.le_refl _)
  have I1 : Hid (Its w1 u1 (readR b).2) := hi1
  clear hb hi1
  go_wp2_with (refine wp_conv rfl (.tmp 19) rfl _ b rfl H1.out ?_)
  refine (readItems_any b LO.out w1).mono ?_
  rintro e w2 ⟨⟨u2, rfl, hi2⟩, hb⟩
  have B2 : Hid (Below w.heap.size w w2) := B1.out.trans (hb.mono B1.out.size)
  have H2 : Hid (By w2 v b) := H1.out.up hb (Nat.le_refl _)
  replace I1 : Hid (Its w2 u1 (readR b).2) := I1.out.up hb (Nat.le_refl _)
  have I2 : Hid (Its w2 u2 (readR b).2) := hi2
  clear hb hi2 H1 B1
  go_wp2_with fail
  refine (first_fun v b LO.out w2 H2.out).mono ?_
  rintro e w3 ⟨hf, hb⟩
  obtain ⟨u3, rfl, hu3⟩ := firstIs_any hf
  obtain ⟨x, n, k, hx⟩ : ∃ x n k, firstR b = (x, n, k) := ⟨_, _, _, rfl⟩
  rw [hx] at hu3 ⊢
  obtain ⟨a3, c3, rfl⟩ := hu3.len
  have B3 : Hid (Below w.heap.size w w3) := B2.out.trans (hb.mono B2.out.size)
  have H3 : Hid (By w3 v b) := H2.out.up hb (Nat.le_refl _)
  replace I1 : Hid (Its w3 u1 (readR b).2) := I1.out.up hb (Nat.le_refl _)
  replace I2 : Hid (Its w3 u2 (readR b).2) := I2.out.up hb (Nat.le_refl _)
  have U3 : Hid (By w3 _ x.body) := hu3
  have HX : Hid (firstR b = (x, n, k)) := hx
  clear hb hf hu3 H2 B2 hx
  go_wp2_with (refine wp_conv rfl (.tmp 31) rfl _ b rfl (H3.out.up ((Below.refl _ _).alloc (Nat.le_refl _) _) (Nat.le_refl _)) ?_)
  refine (firstItem_fun b LO.out _).mono ?_
  rintro e w4 ⟨hf, hb⟩
  obtain ⟨u4, rfl, hu4⟩ := firstIs_any hf
  rw [HX.out] at hu4 ⊢
  obtain ⟨a4, c4, rfl⟩ := hu4.len
  have b34 : Below w3.heap.size w3 w4 := ((Below.refl _ _).alloc (Nat.le_refl _) _).trans (hb.mono (by simp))
  have XB : Hid (w4.heap[w3.heap.size]? = _) := (hb.block _ (by simp)).trans (heap_alloc_new w3 _)
  obtain ⟨f0, f1⟩ := item_cells XB.out
  have B4 : Hid (Below w.heap.size w w4) := B3.out.trans (b34.mono B3.out.size)
  replace I1 : Hid (Its w4 u1 (readR b).2) := I1.out.up b34 (Nat.le_refl _)
  replace I2 : Hid (Its w4 u2 (readR b).2) := I2.out.up b34 (Nat.le_refl _)
  replace U3 : Hid (By w4 _ x.body) := U3.out.up b34 (Nat.le_refl _)
  have U4 : Hid (By w4 _ x.body) := hu4
  clear hb hf hu4 b34 H3 B3 HX
  go_wp2_with fail
  refine (sameR_fun u1 u2 (readR b).2 (readR_len LO.out) _ (I1.out.up ((Below.refl _ _).alloc (Nat.le_refl _) _) (Nat.le_refl _)) (I2.out.up ((Below.refl _ _).alloc (Nat.le_refl _) _) (Nat.le_refl _))).mono ?_
  rintro e w5 ⟨rfl, hb⟩
  have b45 : Below w4.heap.size w4 w5 := ((Below.refl _ _).alloc (Nat.le_refl _) _).trans (hb.mono (by simp))
  have XB5 : Hid (w5.heap[w3.heap.size]? = _) := (b45.block _ (Array.getElem?_eq_some_iff.1 XB.out).1).trans XB.out
  have YB5 : Hid (w5.heap[w4.heap.size]? = _) := (hb.block _ (by simp)).trans (heap_alloc_new w4 _)
  obtain ⟨g0, g1⟩ := item_cells XB5.out
  obtain ⟨g2, g3⟩ := item_cells YB5.out
  have B5 : Hid (Below w.heap.size w w5) := B4.out.trans (b45.mono B4.out.size)
  replace U3 : Hid (By w5 _ x.body) := U3.out.up b45 (Nat.le_refl _)
  replace U4 : Hid (By w5 _ x.body) := U4.out.up b45 (Nat.le_refl _)
  clear hb b45 B4 I1 I2 XB f0 f1 XB5 YB5 H LO
  go_wp2_with fail
  refine (sameR_fun _ _ [x] (by simp) _ (Its.one (x := x) ?_ ?_ (U3.out.up ?_ (Nat.le_refl _))) (Its.one (x := x) ?_ ?_ (U4.out.up ?_ (Nat.le_refl _)))).mono ?_
  · exact cell_al ((cell_top rfl).trans (by simp))
  · exact cell_al ((cell_top rfl).trans (by simp))
  · exact ((Below.refl _ _).alloc (Nat.le_refl _) _).alloc (by simp) _
  · exact (cell_top (by simp)).trans (by simp)
  · exact (cell_top (by simp)).trans (by simp)
  · exact ((Below.refl _ _).alloc (Nat.le_refl _) _).alloc (by simp) _
  rintro e w6 ⟨rfl, hb⟩
  have B6 : Hid (Below w.heap.size w w6) := ((B5.out.alloc B5.out.size _).alloc (by have := B5.out.size; simp; omega) _).trans (hb.mono (by have := B5.out.size; simp; omega))
  clear hb
  go_wp2_with fail
  go_ret
  exact ⟨rfl, B6.out⟩
set_option maxRecDepth 100000 in
theorem derReads_lifted (os : Os) (started : os.Started) (H : Type) (enc : TypeId × Value → H) :
    ReturnsInHanded {} Try.checked os 6 .any (Rows.derReadsSpec.pre6 enc Try.prog Try.f6 Rows.derReadsRow.domain false) (Rows.derReadsSpec.post enc Try.prog Try.f6 false true false false) := by
  refine returnsInHanded_of_change (C := Try.checked) Try.own started (by kernel_rfl) Try.func6
    (ChangeSpec.witness6 (enc := enc) (C := Try.checked) false ⟨#[], #[.slice none 0 0], []⟩ 8 (by kernel_rfl) (by kernel_rfl) (by kernel_rfl) (by kernel_rfl)) ?_
  intro W base args ds gs before hval0 hW hcnd _
  have hval : ∀ (j : Nat) t v, Try.f6.params[j]? = some t → args[j]? = some v → Value.okWide Try.prog W .any base t v := hval0
  have hW' := hW
  obtain ⟨p, q, hA0, hV, rfl, hfz, hnd⟩ := hW
  have hA : DataW.TrodAll enc Try.prog W 0 (fun _ => true) true Try.f6.params.toList args.toList ds p := hA0
  rw [Try.params6] at hA hval
  obtain ⟨v0, d0, rfl, rfl, h0⟩ := trodAll_one hA
  obtain ⟨rfl, rfl⟩ := trodVars_none hV
  simp only [List.append_nil] at hW'
  have hlt : ∀ x ∈ p, x.block < W.heap.size := fun x hx => by simpa using hW'.lt x (by simpa using hx)
  have hk0 : ∀ W' : World, Below W.heap.size W W' → DataW.Trod enc Try.prog W' 0 (fun b => decide (b < W.heap.size)) true 57 v0 d0 p := fun W' hn => Below.trod Try.laidOut (by kernel_rfl) (of_decide_eq_true (by kernel_rfl)) h0 hn (fun x hx => hlt x (by simp [hx]))
  obtain ⟨a0, n0, c0, rfl⟩ := okWide_slice Try.uBytes (hval 0 57 v0 rfl rfl)
  obtain ⟨fuel0, hf0⟩ := h0
  obtain ⟨l0, low0, hI0, len0⟩ := by_of_trod (u := .slice a0 n0 c0) (by simpa [Value.cells] using hf0)
  refine (derReads_law _ l0 low0 W hI0).mono fun e W' ⟨he, hg⟩ => ?_
  subst he
  exact ⟨_, rfl, _, _, _, [], _, [], hW', trodAll_mk1 (shut_bool Try.underlying4 _), trodAll_mk1 (hk0 _ hg), rfl, hg.frame _, fun h => by cases h⟩

theorem derReads_holds : Rows.DerReadsSaid :=
  OpenClaim.holds_of_wide 6 Try.f6 rfl rfl rfl rfl rfl rfl rfl ⟨rfl, rfl, rfl, rfl, rfl⟩ rfl rfl rfl rfl rfl (by kernel_rfl) Try.func6 (by kernel_rfl)
    (of_decide_eq_true (by kernel_rfl)) (by unfold Func.isWrapper; first | (rw [if_pos (by decide +kernel)]; kernel_rfl) | (rw [if_neg (by decide +kernel)]; exact ⟨rfl, rfl⟩))
    (fun os started H enc _ => derReads_lifted os started H enc)
#print axioms derReads_holds
end Go.Proofs.Ytkgfeacednomfaa
