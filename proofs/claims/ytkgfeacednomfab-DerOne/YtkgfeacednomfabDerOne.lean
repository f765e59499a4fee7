/- DerOne returns true for every slice of bytes: what is read is written as just those bytes. -/
import Derived.Test.YtkgfeacednomfabDerRead
import Derived.Test.YtkgfeacednomfabSame
import Derived.Test.YtkgfeacednomfabOpenI
namespace Go.Proofs.Ytkgfeacednomfab
open Go.RowKit
open Go.ChangeShapes Go.WideShapes Go.ChangeAt
set_option linter.unusedSimpArgs false
set_option maxRecDepth 20000 in
set_option maxHeartbeats 2000000 in
theorem derOne_law (v : Value) (b : List Nat) (lo : lowB b) (w : World) (h : By w v b) :
    Calls Try.prog 3 #[v] w fun e w' => e = .returned (.bool true) ∧ Below w.heap.size w w' := by
  have H : Hid (By w v b) := h
  have LO : Hid (∀ x ∈ b, x < 256) := lo
  clear h lo
  go_enter Try.func3, Try.ntmps3
  go_wp2_with fail
  refine (read_fun v b LO.out w H.out).mono ?_
  rintro e w1 ⟨he, hb⟩
  have B1 : Hid (Below w.heap.size w w1) := hb
  have H1 : Hid (By w1 v b) := H.out.up hb (Nat.le_refl _)
  clear hb H
  rcases he with ⟨_, ⟨n, hn, _, rfl⟩ | ⟨l, u, hr, rfl, ho⟩⟩ | ⟨_, rfl⟩
  · have nz : ¬ (n : Int) = 0 := by omega
    go_wp2_with fail
    go_ret
    exact ⟨rfl, B1.out⟩
  · obtain ⟨e1, e2, e3⟩ := readS_one 200 b l LO.out hr
    have I1 : Hid (Its w1 u l) := ho.its
    have OK : Hid (okIts l) := (⟨e2, fun x hx => (e3 x hx).1⟩ : okIts l)
    have E1 : Hid (texts l = b) := e1
    clear ho hr e1 e2 e3
    go_wp2_with fail
    refine (write_any u l w1 I1.out).mono ?_
    rintro e w2 ⟨⟨u2, n, rfl, he⟩, hb⟩
    rcases he with ⟨rfl, _, hu⟩ | ⟨_, hno, _⟩
    · have B2 : Hid (Below w.heap.size w w2) := B1.out.trans (hb.mono B1.out.size)
      have H2 : Hid (By w2 v b) := H1.out.up hb (Nat.le_refl _)
      rw [E1.out] at hu
      have U2 : Hid (By w2 u2 b) := hu
      clear hb hu B1 H1 I1 OK
      go_wp2_with fail
      refine (equal_fun v u2 b b LO.out LO.out w2 H2.out U2.out).mono ?_
      rintro e w3 ⟨rfl, hb⟩
      rw [show decide (b = b) = true by simp]
      have B3 : Hid (Below w.heap.size w w3) := B2.out.trans (hb.mono B2.out.size)
      clear hb
      go_wp2_with fail
      go_ret
      exact ⟨rfl, B3.out⟩
    · exact absurd OK.out hno
  · go_wp2_with fail
    go_ret
    exact ⟨rfl, B1.out⟩
set_option maxRecDepth 100000 in
theorem derOne_lifted (os : Os) (started : os.Started) (H : Type) (enc : TypeId × Value → H) :
    ReturnsInHanded {} Try.checked os 3 .any (Rows.derOneSpec.pre6 enc Try.prog Try.f3 Rows.derOneRow.domain false) (Rows.derOneSpec.post enc Try.prog Try.f3 false true false false) := by
  refine returnsInHanded_of_change (C := Try.checked) Try.own started (by kernel_rfl) Try.func3
    (ChangeSpec.witness6 (enc := enc) (C := Try.checked) false ⟨#[], #[.slice none 0 0], []⟩ 8 (by kernel_rfl) (by kernel_rfl) (by kernel_rfl) (by kernel_rfl)) ?_
  intro W base args ds gs before hval0 hW hcnd _
  have hval : ∀ (j : Nat) t v, Try.f3.params[j]? = some t → args[j]? = some v → Value.okWide Try.prog W .any base t v := hval0
  have hW' := hW
  obtain ⟨p, q, hA0, hV, rfl, hfz, hnd⟩ := hW
  have hA : DataW.TrodAll enc Try.prog W 0 (fun _ => true) true Try.f3.params.toList args.toList ds p := hA0
  rw [Try.params3] at hA hval
  obtain ⟨v0, d0, rfl, rfl, h0⟩ := trodAll_one hA
  obtain ⟨rfl, rfl⟩ := trodVars_none hV
  simp only [List.append_nil] at hW'
  have hlt : ∀ x ∈ p, x.block < W.heap.size := fun x hx => by simpa using hW'.lt x (by simpa using hx)
  have hk0 : ∀ W' : World, Below W.heap.size W W' → DataW.Trod enc Try.prog W' 0 (fun b => decide (b < W.heap.size)) true 22 v0 d0 p := fun W' hn => Below.trod Try.laidOut (by kernel_rfl) (of_decide_eq_true (by kernel_rfl)) h0 hn (fun x hx => hlt x (by simp [hx]))
  obtain ⟨a0, n0, c0, rfl⟩ := okWide_slice Try.uBytes (hval 0 22 v0 rfl rfl)
  obtain ⟨fuel0, hf0⟩ := h0
  obtain ⟨l0, low0, hI0, len0⟩ := by_of_trod (u := .slice a0 n0 c0) (by simpa [Value.cells] using hf0)
  refine (derOne_law _ l0 low0 W hI0).mono fun e W' ⟨he, hg⟩ => ?_
  subst he
  exact ⟨_, rfl, _, _, _, [], _, [], hW', trodAll_mk1 (shut_bool Try.underlying4 _), trodAll_mk1 (hk0 _ hg), rfl, hg.frame _, fun h => by cases h⟩

theorem derOne_holds : Rows.DerOneSaid :=
  OpenClaim.holds_of_wide 3 Try.f3 rfl rfl rfl rfl rfl rfl rfl ⟨rfl, rfl, rfl, rfl, rfl⟩ rfl rfl rfl rfl rfl (by kernel_rfl) Try.func3 (by kernel_rfl)
    (of_decide_eq_true (by kernel_rfl)) (by unfold Func.isWrapper; first | (rw [if_pos (by decide +kernel)]; kernel_rfl) | (rw [if_neg (by decide +kernel)]; exact ⟨rfl, rfl⟩))
    (fun os started H enc _ => derOne_lifted os started H enc)
#print axioms derOne_holds
end Go.Proofs.Ytkgfeacednomfab
