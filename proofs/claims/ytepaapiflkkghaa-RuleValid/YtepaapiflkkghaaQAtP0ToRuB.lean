/- Texts that were joined: AtP0, SGet, RuB. -/
import Derived.Test.YtepaapiflkkghaaQAtU
import Derived.Test.YtepaapiflkkghaaQDerWToAtA
import Derived.Test.YtepaapiflkkghaaQSameToAtK0
import Derived.Test.YtepaapiflkkghaaQBKToAtD
import Derived.Test.YtepaapiflkkghaaQAtMToRuM
import Derived.Test.YtepaapiflkkghaaQUpToKnO
import Derived.BigQuiet
/- CardOf of whatever list; a card's Attrs. -/
namespace Go.Proofs.Ytepaapiflkkghaa
open Go.RowKit
attribute [local go_sem] World.cell?_alloc_some cell_alloc2 cell_alloc3 cell_alloc4 frozen?_alloc_cells frozen_out
set_option linter.unusedSimpArgs false
set_option maxHeartbeats 2000000 in
theorem cardOf_nil (a : Option Addr) (c : Nat) (w : World) : Calls Try.prog 42 #[.slice a 0 c] w fun e w' => e = .returned (.agg (crdC (crdF [])).toArray) ∧ Below w.heap.size w w' := by
  rw [crdF_nil]
  have sk : Hid (Kn ((w.alloc (.cells (crdC fun _ => none).toArray 31)).alloc (.cells (crdC fun _ => none).toArray 31)) [(w.heap.size + 1, crdC fun _ => none), (w.heap.size, crdC fun _ => none)]) := ((Kn.nil w).al (crdC fun _ => none) 31 rfl).al (crdC fun _ => none) 31 (by simp)
  have bk : Hid (Below w.heap.size w ((w.alloc (.cells (crdC fun _ => none).toArray 31)).alloc (.cells (crdC fun _ => none).toArray 31))) := ((Below.refl _ _).alloc (Nat.le_refl _) _).alloc (by simp) _
  go_enter Try.func42, Try.ntmps42
  go_wp2_with (simp only [zero_card])
  go_loopw [8] (fun i wr => i = .int .i64 0 ∧ Hid (Kn wr [(w.heap.size + 1, crdC fun _ => none), (w.heap.size, crdC fun _ => none)]) ∧ Hid (Below w.heap.size w wr)) (fun _ _ => 0)
  case atStart => exact ⟨rfl, sk, bk⟩
  clear sk bk
  obtain ⟨rfl, sk, bk⟩ := hrel
  have TT : Hid (wr.there w.heap.size 0 (crdC fun _ => none).length) := Kn.there sk.out 1 rfl (by rw [crdC_length])
  go_wp2_with (first | refine wp_ldW rfl 31 _ rfl (w.heap.size + 1) 0 rfl (crdC fun _ => none) _ (Kn.rng sk.out 0 rfl) u_card rfl (info_card _) ?_ | refine I.wp_store_eq rfl 31 _ _ rfl w.heap.size 0 (crdC fun _ => none) rfl rfl TT.out (info_card _) (one_crd _) ?_)
  intro w9 hw9
  have s9 : Hid (Kn w9 [(w.heap.size, crdC fun _ => none), (w.heap.size + 1, crdC fun _ => none)]) := by
    rw [hw9.out]
    exact Kn.put (sk.out.front 1 rfl) (by rw [crdC_length])
  have b9 : Hid (Below w.heap.size w w9) := by
    rw [hw9.out]
    exact I.below_setCells _ _ _ bk.out (Nat.le_refl _)
  clear hw9 sk bk TT
  go_wp2_with fail
  exact bodyPost_ret (v := .agg (crdC fun _ => none).toArray) (I.results_cell (b := w.heap.size) rfl rfl (Kn.rng s9.out 0 rfl) u_card rfl (info_card _)) rfl ⟨rfl, b9.out⟩
theorem cardOf_fun (l : List Ar) (hs : l.length ≤ 4611686018427387904) (v : Value) (w : World) (hv : Ats w v l) : Calls Try.prog 42 #[v] w fun e w' => e = .returned (.agg (crdC (crdF l)).toArray) ∧ Below w.heap.size w w' := by
  obtain ⟨a, c, rfl⟩ := ats_parts hv
  by_cases h0 : l.length = 0
  · have el := List.length_eq_zero_iff.1 h0
    subst el
    exact cardOf_nil a c w
  · obtain ⟨b, o, rfl⟩ := hv.addr (by omega)
    exact cardOf_walk l _ rfl hs b o c w hv
/-- The attributes of a list's card are the rising ones. -/
theorem attrs_fun (l : List Ar) (lo : ∀ x ∈ l, lowB x.v) (w : World) : Calls Try.prog 19 #[.agg (crdC (crdF l)).toArray] w fun e w' => (∃ v, e = .returned v ∧ Ats w' v (risA l)) ∧ Below w.heap.size w w' := by
  refine (attrs_walk (crdF l) (fun i v h => ?_) w).mono fun e w' ⟨⟨v, he, ho⟩, hb⟩ => ⟨⟨v, he, ?_⟩, hb⟩
  · unfold crdF at h
    split at h
    · obtain ⟨x, hx, _, rfl⟩ := getA_mem h
      exact lo x hx
    · cases h
  · have := ho.ats
    rw [atsF_ris l 18 (Nat.le_refl _)] at this
    exact this
end Go.Proofs.Ytepaapiflkkghaa

/- The bytes of a text. -/
namespace Go.Proofs.Ytepaapiflkkghaa
theorem sOf_get {b : List Nat} (low : ∀ x ∈ b, x < 256) (j : Nat) (h : j < (sOf b).size) : ((sOf b)[j]'h).toNat = b.getD j 0 := by
  have hj : j < b.length := by rw [sOf_size] at h; exact h
  have e : (sOf b)[j]'h = UInt8.ofNat b[j] := by
    simp [sOf, ByteArray.getElem_eq_getElem_data]
  rw [e, UInt8.toNat_ofNat', Nat.mod_eq_of_lt (low _ (List.getElem_mem hj)), List.getD_eq_getElem?_getD, List.getElem?_eq_getElem hj]
  rfl
end Go.Proofs.Ytepaapiflkkghaa

/- The document's questions about a card: Belongs, Class, Sized, One, flag. -/
namespace Go.Proofs.Ytepaapiflkkghaa
open Go.RowKit
attribute [local go_sem] World.cell?_alloc_some cell_alloc2 cell_alloc3 cell_alloc4 frozen?_alloc_cells frozen_out
set_option linter.unusedSimpArgs false
set_option maxHeartbeats 4000000 in
theorem belongs_fun (c k : Nat) (hk : 1 ≤ k) (w : World) : Calls Try.prog 9 #[.int .i64 (c : Int), .int .i64 (k : Int)] w fun e w' => e = .returned (.bool (belB c k)) ∧ Below w.heap.size w w' := by
  have k1 : (k : Int) ≥ 1 := by omega
  by_cases c1 : c = 1
  · subst c1
    rw [show belB 1 k = decide ((k : Int) ≤ 7) from by show decide (k ≤ 7) = _; exact decide_eq_decide.2 (by omega)]
    go_enter Try.func9, Try.ntmps9
    go_wp2_with fail
    go_ret
    exact ⟨rfl, Below.refl _ _⟩
  have q1 : ((c : Int) == 1) = false := beq_eq_false_iff_ne.2 (by omega)
  by_cases c2 : c = 2
  · subst c2
    rw [show belB 2 k = decide ((k : Int) ≤ 17) from by show decide (k ≤ 17) = _; exact decide_eq_decide.2 (by omega)]
    go_enter Try.func9, Try.ntmps9
    go_wp2_with fail
    go_ret
    exact ⟨rfl, Below.refl _ _⟩
  have q2 : ((c : Int) == 2) = false := beq_eq_false_iff_ne.2 (by omega)
  by_cases c3 : c = 3
  · subst c3
    by_cases k7 : k ≤ 7
    · rw [show belB 3 k = true from decide_eq_true (.inl k7)]
      have k7' : (k : Int) ≤ 7 := by omega
      go_enter Try.func9, Try.ntmps9
      go_wp2_with fail
      go_ret
      exact ⟨rfl, Below.refl _ _⟩
    · have k7' : ¬ (k : Int) ≤ 7 := by omega
      by_cases k14 : k = 14
      · rw [show belB 3 k = true from decide_eq_true (.inr k14)]
        have q14 : ((k : Int) == 14) = true := beq_iff_eq.2 (by omega)
        clear k14
        go_enter Try.func9, Try.ntmps9
        go_wp2_with fail
        go_ret
        exact ⟨rfl, Below.refl _ _⟩
      · rw [show belB 3 k = false from decide_eq_false (fun h => h.elim k7 k14)]
        have q14 : ((k : Int) == 14) = false := beq_eq_false_iff_ne.2 (by omega)
        clear k14
        go_enter Try.func9, Try.ntmps9
        go_wp2_with fail
        go_ret
        exact ⟨rfl, Below.refl _ _⟩
  have q3 : ((c : Int) == 3) = false := beq_eq_false_iff_ne.2 (by omega)
  by_cases c4 : c = 4
  · subst c4
    by_cases k13 : k ≤ 13
    · rw [show belB 4 k = true from decide_eq_true (.inl k13)]
      have k13' : (k : Int) ≤ 13 := by omega
      go_enter Try.func9, Try.ntmps9
      go_wp2_with fail
      go_ret
      exact ⟨rfl, Below.refl _ _⟩
    · have k13' : ¬ (k : Int) ≤ 13 := by omega
      by_cases k18 : k = 18
      · rw [show belB 4 k = true from decide_eq_true (.inr k18)]
        have q18 : ((k : Int) == 18) = true := beq_iff_eq.2 (by omega)
        clear k18
        go_enter Try.func9, Try.ntmps9
        go_wp2_with fail
        go_ret
        exact ⟨rfl, Below.refl _ _⟩
      · rw [show belB 4 k = false from decide_eq_false (fun h => h.elim k13 k18)]
        have q18 : ((k : Int) == 18) = false := beq_eq_false_iff_ne.2 (by omega)
        clear k18
        go_enter Try.func9, Try.ntmps9
        go_wp2_with fail
        go_ret
        exact ⟨rfl, Below.refl _ _⟩
  have q4 : ((c : Int) == 4) = false := beq_eq_false_iff_ne.2 (by omega)
  rw [show belB c k = false by unfold belB; rw [if_neg c1, if_neg c2, if_neg c3, if_neg c4]]
  clear c1 c2 c3 c4
  go_enter Try.func9, Try.ntmps9
  go_wp2_with fail
  go_ret
  exact ⟨rfl, Below.refl _ _⟩
set_option maxHeartbeats 4000000 in
theorem sized_fun (c n : Nat) (w : World) : Calls Try.prog 44 #[.int .i64 (c : Int), .int .i64 (n : Int)] w fun e w' => e = .returned (.bool (sizB c n)) ∧ Below w.heap.size w w' := by
  by_cases c1 : c = 1
  · subst c1
    rw [show sizB 1 n = true from decide_eq_true (.inl rfl)]
    go_enter Try.func44, Try.ntmps44
    go_wp2_with fail
    go_ret
    exact ⟨rfl, Below.refl _ _⟩
  have q1 : ((c : Int) == 1) = false := beq_eq_false_iff_ne.2 (by omega)
  by_cases n32 : n = 32
  · subst n32
    rw [show sizB c 32 = true from decide_eq_true (.inr (.inl rfl))]
    clear c1
    go_enter Try.func44, Try.ntmps44
    go_wp2_with fail
    go_ret
    exact ⟨rfl, Below.refl _ _⟩
  have q32 : ((n : Int) == 32) = false := beq_eq_false_iff_ne.2 (by omega)
  by_cases c2 : c = 2
  · subst c2
    by_cases n16 : n = 16
    · subst n16
      rw [show sizB 2 16 = true from rfl]
      clear c1 n32
      go_enter Try.func44, Try.ntmps44
      go_wp2_with fail
      go_ret
      exact ⟨rfl, Below.refl _ _⟩
    have q16 : ((n : Int) == 16) = false := beq_eq_false_iff_ne.2 (by omega)
    by_cases n24 : n = 24
    · subst n24
      rw [show sizB 2 24 = true from rfl]
      clear c1 n32 n16
      go_enter Try.func44, Try.ntmps44
      go_wp2_with fail
      go_ret
      exact ⟨rfl, Below.refl _ _⟩
    have q24 : ((n : Int) == 24) = false := beq_eq_false_iff_ne.2 (by omega)
    rw [show sizB 2 n = false from decide_eq_false (by omega)]
    clear c1 n32 n16 n24
    go_enter Try.func44, Try.ntmps44
    go_wp2_with fail
    go_ret
    exact ⟨rfl, Below.refl _ _⟩
  have q2 : ((c : Int) == 2) = false := beq_eq_false_iff_ne.2 (by omega)
  rw [show sizB c n = false from decide_eq_false (by omega)]
  clear c1 c2 n32
  go_enter Try.func44, Try.ntmps44
  go_wp2_with fail
  go_ret
  exact ⟨rfl, Below.refl _ _⟩
set_option maxHeartbeats 1000000 in
theorem flag_fun (b : Bool) (w : World) : Calls Try.prog 45 #[.bool b] w fun e w' => e = .returned (.string (sOf (flgV b))) ∧ Below w.heap.size w w' := by
  cases b with
  | true =>
    rw [show sOf (flgV true) = ⟨#[1]⟩ from rfl]
    go_enter Try.func45, Try.ntmps45
    go_wp2_with fail
    go_ret
    exact ⟨rfl, Below.refl _ _⟩
  | false =>
    rw [show sOf (flgV false) = ⟨#[0]⟩ from rfl]
    go_enter Try.func45, Try.ntmps45
    go_wp2_with fail
    go_ret
    exact ⟨rfl, Below.refl _ _⟩
set_option maxHeartbeats 2000000 in
theorem one_fun_ (f : Crd) (low : lowF f) (k : Nat) (hk : k < 19) (w : World) : Calls Try.prog 47 #[.agg (crdC f).toArray, .int .i64 (k : Int)] w fun e w' => e = .returned (.bool (oneF f k)) ∧ Below w.heap.size w w' := by
  have s1 : Hid (Kn (w.alloc (.cells (crdC f).toArray 31)) [(w.heap.size, crdC f)]) := (Kn.nil w).al (crdC f) 31 rfl
  have b1 : Hid (Below w.heap.size w (w.alloc (.cells (crdC f).toArray 31))) := (Below.refl _ _).alloc (Nat.le_refl _) _
  have k0 : (0 : Int) ≤ (k : Int) := by omega
  have k1 : (k : Int) < 19 := by omega
  have u0 := Kn.get s1.out 0 (19 + k) rfl (crdC_val f hk)
  have hb : ((sOf ((f k).getD [])).toList == (sOf [1]).toList) = oneF f k := sOf_beq (low.get k) (fun y hy => by obtain rfl := List.mem_singleton.1 hy; decide)
  rw [show (sOf [1]).toList = [1] from by simp [sOf]] at hb
  clear hk low
  go_enter Try.func47, Try.ntmps47
  go_wp2_with fail
  go_ret
  exact ⟨rfl, b1.out⟩
set_option maxHeartbeats 2000000 in
theorem class_fun (f : Crd) (low : lowF f) (w : World) : Calls Try.prog 43 #[.agg (crdC f).toArray] w fun e w' => e = .returned (.int .i64 (clsF f : Int)) ∧ Below w.heap.size w w' := by
  have s1 : Hid (Kn (w.alloc (.cells (crdC f).toArray 31)) [(w.heap.size, crdC f)]) := (Kn.nil w).al (crdC f) 31 rfl
  have b1 : Hid (Below w.heap.size w (w.alloc (.cells (crdC f).toArray 31))) := (Below.refl _ _).alloc (Nat.le_refl _) _
  have u0 := Kn.get s1.out 0 (19 + 1) rfl (crdC_val f (by decide))
  have LX := low.get 1
  unfold clsF
  generalize (f 1).getD [] = xs at *
  by_cases h : xs.length = 1
  · rw [if_pos h]
    match xs, h with
    | [x], _ =>
      have wt : IntKind.i64.wrap (x : Int) = (x : Int) := by
        have := LX x List.mem_cons_self
        rw [IntKind.wrap_i64]
        omega
      have e0 : (sOf [x]).size = 1 := rfl
      have g0 := sOf_get LX 0 (by rw [e0]; decide)
      rw [show ([x] : List Nat).getD 0 0 = x from rfl] at g0 ⊢
      generalize sOf [x] = s at *
      clear LX
      go_enter Try.func43, Try.ntmps43
      go_wp2_with fail
      go_ret
      exact ⟨rfl, b1.out⟩
  · rw [if_neg h]
    have hs : (sOf xs).size = xs.length := sOf_size xs
    have hn : (((sOf xs).size : Int) != 1) = true := bne_iff_ne.2 (by rw [hs]; omega)
    generalize sOf xs = s at *
    clear LX h hs
    go_enter Try.func43, Try.ntmps43
    go_wp2_with fail
    go_ret
    exact ⟨rfl, b1.out⟩
end Go.Proofs.Ytepaapiflkkghaa
