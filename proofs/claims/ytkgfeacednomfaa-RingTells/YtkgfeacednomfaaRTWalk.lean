/- RingTells' walk where the ring is made. -/
import Derived.Test.YtkgfeacednomfaaRingN
import Derived.Test.YtkgfeacednomfaaRingP
import Derived.Test.YtkgfeacednomfaaRingS
import Derived.Test.YtkgfeacednomfaaRTLow
import Derived.Test.YtkgfeacednomfaaUpMVS
import Derived.Test.YtkgfeacednomfaaDPlus
import Derived.Test.YtkgfeacednomfaaDMinus
import Derived.Test.YtkgfeacednomfaaOrd
import Derived.Test.YtkgfeacednomfaaDDig
import Derived.Test.YtkgfeacednomfaaAl
import Derived.Test.YtkgfeacednomfaaArr
namespace Go.Proofs.Ytkgfeacednomfaa
open Go.RowKit
open Go.ChangeShapes Go.WideShapes Go.ChangeAt
attribute [local go_sem] World.cell?_alloc_some cell_alloc2 cell_alloc3 cell_alloc4 frozen?_alloc_cells frozen_out YieldsP execOp
attribute [local simp] MP.eq_p MP.sl_p MP.sl2_p MP.any_p
set_option linter.unusedSimpArgs false
/-- What the law's own function answers of digits. -/
abbrev LowIs (X M : Nat) (r : Nm) : Prop := ∀ u k g w, Sl w u (P.dg X) → w.cell? ⟨g, 0, none⟩ = some k → Sl w k (P.dg M) → Calls Try.prog 28 #[u, .pointer (some ⟨g, 0, none⟩)] w fun e w' => e = .returned (N r) ∧ Below w.heap.size w w'
set_option maxRecDepth 20000 in
set_option maxHeartbeats 8000000 in
theorem ringTells_good (m iv on tw a b n l h s d p i1 pw o z : Nm) (A B M NN TT C E F G H I J O T U : Nat) (om : m.a % 2 = 1) (m0 : 0 ≤ m.a) (m1 : m ≠ ⟨1, 0, 0, 0⟩) (lt : Int) (hlt : lt < 0)
    (SN : ∀ w, Calls Try.prog 27 #[N m] w fun e w' => (∃ k, w.heap.size ≤ k ∧ e = .returned (.tuple #[rp k, .int .i64 0]) ∧ Blk w' k (c16 m iv on tw)) ∧ Below w.heap.size w w')
    (MO : ∀ k w, RingAt w k m iv on tw → Calls Try.prog 30 #[rp k] w fun e w' => e = .returned (N m) ∧ Below w.heap.size w w')
    (AD : ∀ k w, RingAt w k m iv on tw → Calls Try.prog 31 #[rp k, N a, N b] w fun e w' => e = .returned (N s) ∧ Below w.heap.size w w')
    (SB : ∀ k w, RingAt w k m iv on tw → Calls Try.prog 32 #[rp k, N a, N b] w fun e w' => e = .returned (N d) ∧ Below w.heap.size w w')
    (MU : ∀ k w, RingAt w k m iv on tw → Calls Try.prog 33 #[rp k, N a, N b] w fun e w' => e = .returned (N p) ∧ Below w.heap.size w w')
    (OU : ∀ k w, RingAt w k m iv on tw → Calls Try.prog 34 #[rp k, Wv l h] w fun e w' => e = .returned (N o) ∧ Below w.heap.size w w')
    (PO : ∀ k w, RingAt w k m iv on tw → Calls Try.prog 35 #[rp k, N a, N n] w fun e w' => e = .returned (N pw) ∧ Below w.heap.size w w')
    (IN : ∀ k w, RingAt w k m iv on tw → Calls Try.prog 37 #[rp k, N a] w fun e w' => e = .returned (N i1) ∧ Below w.heap.size w w')
    (OM : Hid (∀ w, Calls Try.prog 9 #[N m] w fun e w' => (∃ v', e = .returned v' ∧ Sl w' v' (P.dg M)) ∧ Below w.heap.size w w'))
    (OA : Hid (∀ w, Calls Try.prog 9 #[N a] w fun e w' => (∃ v', e = .returned v' ∧ Sl w' v' (P.dg A)) ∧ Below w.heap.size w w'))
    (OB : Hid (∀ w, Calls Try.prog 9 #[N b] w fun e w' => (∃ v', e = .returned v' ∧ Sl w' v' (P.dg B)) ∧ Below w.heap.size w w'))
    (ON : Hid (∀ w, Calls Try.prog 9 #[N n] w fun e w' => (∃ v', e = .returned v' ∧ Sl w' v' (P.dg NN)) ∧ Below w.heap.size w w'))
    (OO : Hid (∀ w, Calls Try.prog 9 #[N o] w fun e w' => (∃ v', e = .returned v' ∧ Sl w' v' (P.dg O)) ∧ Below w.heap.size w w'))
    (OW : Hid (∀ w, Calls Try.prog 38 #[Wv l h] w fun e w' => (∃ v', e = .returned v' ∧ Sl w' v' (P.dg T)) ∧ Below w.heap.size w w'))
    (TW : Hid (∀ w, Calls Try.prog 12 #[.int .i64 256] w fun e w' => (∃ v', e = .returned v' ∧ Sl w' v' (P.dg TT)) ∧ Below w.heap.size w w'))
    (P1 : Hid (∀ u v w, Sl w u (P.dg A) → Sl w v (P.dg B) → Calls Try.prog 10 #[u, v] w fun e w' => (∃ v', e = .returned v' ∧ Sl w' v' (P.dg C)) ∧ Below w.heap.size w w'))
    (R1 : Hid (∀ u v w, Sl w u (P.dg B) → Sl w v (P.dg M) → Calls Try.prog 29 #[u, v] w fun e w' => (∃ v', e = .returned v' ∧ Sl w' v' (P.dg E)) ∧ Below w.heap.size w w'))
    (M1 : Hid (∀ u v w, Sl w u (P.dg M) → Sl w v (P.dg E) → Calls Try.prog 16 #[u, v] w fun e w' => (∃ v', e = .returned v' ∧ Sl w' v' (P.dg F)) ∧ Below w.heap.size w w'))
    (P2 : Hid (∀ u v w, Sl w u (P.dg A) → Sl w v (P.dg F) → Calls Try.prog 10 #[u, v] w fun e w' => (∃ v', e = .returned v' ∧ Sl w' v' (P.dg G)) ∧ Below w.heap.size w w'))
    (T1 : Hid (∀ u v w, Sl w u (P.dg A) → Sl w v (P.dg B) → Calls Try.prog 19 #[u, v] w fun e w' => (∃ v', e = .returned v' ∧ Sl w' v' (P.dg H)) ∧ Below w.heap.size w w'))
    (PW : Hid (∀ u v t w, Sl w u (P.dg A) → Sl w v (P.dg NN) → Sl w t (P.dg M) → Calls Try.prog 36 #[u, v, t] w fun e w' => (∃ v', e = .returned v' ∧ Sl w' v' (P.dg I)) ∧ Below w.heap.size w w'))
    (TN : Hid (∀ u w, Sl w u (P.dg I) → Calls Try.prog 15 #[u] w fun e w' => e = .returned (N pw) ∧ Below w.heap.size w w'))
    (T2 : Hid (∀ u v w, Sl w u (P.dg A) → Sl w v (P.dg TT) → Calls Try.prog 19 #[u, v] w fun e w' => (∃ v', e = .returned v' ∧ Sl w' v' (P.dg J)) ∧ Below w.heap.size w w'))
    (T3 : Hid (∀ u v w, Sl w u (P.dg O) → Sl w v (P.dg TT) → Calls Try.prog 19 #[u, v] w fun e w' => (∃ v', e = .returned v' ∧ Sl w' v' (P.dg U)) ∧ Below w.heap.size w w'))
    (OR : Hid (∀ u v w, Sl w u (P.dg O) → Sl w v (P.dg M) → Calls Try.prog 11 #[u, v] w fun e w' => e = .returned (.int .i64 lt) ∧ Below w.heap.size w w'))
    (L1 : Hid (LowIs C M s)) (L2 : Hid (LowIs G M d)) (L3 : Hid (LowIs H M p)) (L4 : Hid (LowIs J M i1)) (L5 : Hid (LowIs U M z)) (L6 : Hid (LowIs T M z))
    (w : World) :
    Calls Try.prog 4 #[N m, N a, N b, N n, Wv l h] w fun e w' => e = .returned (.bool true) ∧ Below w.heap.size w w' := by
  have q : m.a.tmod 2 = 1 := by rw [Int.tmod_eq_emod_of_nonneg m0]; exact om
  have q0 : ¬ m.a % 2 = 0 := by omega
  have e0 := eqN m ⟨1, 0, 0, 0⟩
  rw [Nm.beq_ne m1] at e0
  have em := neN m m
  have es := neN s s
  have ed := neN d d
  have ep := neN p p
  have ew := eqN pw pw
  have ei := eqN i1 i1
  have ez := eqN z z
  rw [Nm.beq_self] at em es ed ep ew ei ez
  go_enter Try.func4, Try.ntmps4
  have s0 : Hid (Kn (kal8 (kal4 (kal4 (kal4 (kal4 w (m)) (a)) (b)) (n)) (l) (h)) [(w.heap.size + 1 + 1 + 1 + 1, (c8 (l) (h))), (w.heap.size + 1 + 1 + 1, (c4 (n))), (w.heap.size + 1 + 1, (c4 (b))), (w.heap.size + 1, (c4 (a))), (w.heap.size, (c4 (m)))]) := ((((((Kn.nil w).al (c4 (m)) 24 rfl).al (c4 (a)) 24 (by simp)).al (c4 (b)) 24 (by simp)).al (c4 (n)) 24 (by simp)).al (c8 (l) (h)) 34 (by simp))
  have b0 : Hid (Below w.heap.size w (kal8 (kal4 (kal4 (kal4 (kal4 w (m)) (a)) (b)) (n)) (l) (h))) := ((((((Below.refl _ _).alloc (Nat.le_refl _) _).alloc (by simp <;> omega) _).alloc (by simp <;> omega) _).alloc (by simp <;> omega) _).alloc (by simp <;> omega) _)
  go_wp2_with fail
  refine (SN _).mono ?_
  rintro e w1 ⟨⟨kr, hkr, rfl, hBr⟩, hb1⟩
  have s1 : Hid (Kn w1 [(kr, (c16 m iv on tw)), (w.heap.size + 1 + 1 + 1 + 1, (c8 (l) (h))), (w.heap.size + 1 + 1 + 1, (c4 (n))), (w.heap.size + 1 + 1, (c4 (b))), (w.heap.size + 1, (c4 (a))), (w.heap.size, (c4 (m)))]) := s0.out.fresh_of hb1 hkr hBr
  have b1 : Hid (Below w.heap.size w w1) := b0.out.trans (hb1.mono b0.out.size)
  have z1 := b1.out.size
  clear hb1 s0 b0 hBr hkr
  have um_0 : w1.cell? ⟨w.heap.size, 0, none⟩ = some (.int .u64 (m).a) := Kn.get s1.out 5 0 rfl rfl
  have um_1 : w1.cell? ⟨w.heap.size, 1, none⟩ = some (.int .u64 (m).b) := Kn.get s1.out 5 1 rfl rfl
  have um_2 : w1.cell? ⟨w.heap.size, 2, none⟩ = some (.int .u64 (m).c) := Kn.get s1.out 5 2 rfl rfl
  have um_3 : w1.cell? ⟨w.heap.size, 3, none⟩ = some (.int .u64 (m).d) := Kn.get s1.out 5 3 rfl rfl
  go_wp2_with fail
  clear um_0 um_1 um_2 um_3
  refine wp_region_monoVE [MP.eq (N (m)), MP.sl (P.dg M), MP.eq (N (a)), MP.sl (P.dg A), MP.eq (N (b)), MP.sl (P.dg B), MP.any, MP.any, MP.sl (P.dg A), MP.sl (P.dg B)] 6 1 25 (.slice none 0 0) (by intro _ _ h; cases h) (by kernel_rfl) (by kernel_rfl) (by kernel_rfl) rfl rfl rfl ⟨MP.eq_stays _ _, MP.sl_stays _ _, MP.eq_stays _ _, MP.sl_stays _ _, MP.eq_stays _ _, MP.sl_stays _ _, MP.any_stays _, MP.any_stays _, MP.sl_stays _ _, MP.sl_stays _ _, trivial⟩ ?_
  apply Exists.intro
  refine ⟨fun vals => ?_, ?_, ?_, ?_, fun vals2 w2 hb2 hV2 hF => ?_⟩
  · simp only [putsV, dstL, List.length_cons, List.length_nil, Nat.zero_add, Nat.reduceAdd, List.getElem?_cons_zero, List.getElem?_cons_succ, Option.bind_some, Act.put, List.setIfInBounds_toArray, List.set_cons_succ, List.set_cons_zero]
    rfl
  · refine ⟨?_, ?_, ?_, ?_, ?_, ?_, ?_, ?_, ?_, ?_, trivial⟩
    · refine .inr (.inr ?_)
      intro vals W hW hw hd
      simp [Region.binds] at hd
      have u0 := Kn.get (s1.out.up hW.out) 5 0 rfl rfl
      have u1 := Kn.get (s1.out.up hW.out) 5 1 rfl rfl
      have u2 := Kn.get (s1.out.up hW.out) 5 2 rfl rfl
      have u3 := Kn.get (s1.out.up hW.out) 5 3 rfl rfl
      refine ⟨by first | rfl | simp [Region.wanted, yielded, hd], ?_⟩
      simp [go_sem, u0, u1, u2, u3]
      exact Below.refl _ _
    · refine .inr (.inr ?_)
      intro vals W hW hw hd
      simp [Region.binds] at hd
      refine ⟨by first | rfl | simp [Region.wanted, yielded, hd], ?_⟩
      simp [go_sem, hd]
      exact (OM.out _).mono fun e w' ⟨⟨v', he, hs⟩, hb⟩ => ⟨v', he, hs, hb⟩
    · refine .inr (.inr ?_)
      intro vals W hW hw hd
      simp [Region.binds] at hd
      have u0 := Kn.get (s1.out.up hW.out) 4 0 rfl rfl
      have u1 := Kn.get (s1.out.up hW.out) 4 1 rfl rfl
      have u2 := Kn.get (s1.out.up hW.out) 4 2 rfl rfl
      have u3 := Kn.get (s1.out.up hW.out) 4 3 rfl rfl
      refine ⟨by first | rfl | simp [Region.wanted, yielded, hd], ?_⟩
      simp [go_sem, u0, u1, u2, u3]
      exact Below.refl _ _
    · refine .inr (.inr ?_)
      intro vals W hW hw hd
      simp [Region.binds] at hd
      refine ⟨by first | rfl | simp [Region.wanted, yielded, hd], ?_⟩
      simp [go_sem, hd]
      exact (OA.out _).mono fun e w' ⟨⟨v', he, hs⟩, hb⟩ => ⟨v', he, hs, hb⟩
    · refine .inr (.inr ?_)
      intro vals W hW hw hd
      simp [Region.binds] at hd
      have u0 := Kn.get (s1.out.up hW.out) 3 0 rfl rfl
      have u1 := Kn.get (s1.out.up hW.out) 3 1 rfl rfl
      have u2 := Kn.get (s1.out.up hW.out) 3 2 rfl rfl
      have u3 := Kn.get (s1.out.up hW.out) 3 3 rfl rfl
      refine ⟨by first | rfl | simp [Region.wanted, yielded, hd], ?_⟩
      simp [go_sem, u0, u1, u2, u3]
      exact Below.refl _ _
    · refine .inr (.inr ?_)
      intro vals W hW hw hd
      simp [Region.binds] at hd
      refine ⟨by first | rfl | simp [Region.wanted, yielded, hd], ?_⟩
      simp [go_sem, hd]
      exact (OB.out _).mono fun e w' ⟨⟨v', he, hs⟩, hb⟩ => ⟨v', he, hs, hb⟩
    · first | exact .inl rfl | exact .inr (.inl rfl)
    · first | exact .inl rfl | exact .inr (.inl rfl)
    · refine .inr (.inr ?_)
      intro vals W hW hw hd
      simp [Region.binds] at hd
      refine ⟨by first | rfl | simp [Region.wanted, yielded, hd], ?_⟩
      simp [go_sem]
      exact ⟨by simp [hd], Below.refl _ _⟩
    · refine .inr (.inr ?_)
      intro vals W hW hw hd
      simp [Region.binds] at hd
      refine ⟨by first | rfl | simp [Region.wanted, yielded, hd], ?_⟩
      simp [go_sem]
      exact ⟨by simp [hd], Below.refl _ _⟩
  · intro o ho vals W
    cases ho
    exact ⟨by first | rfl | simp [Region.wanted, yielded], by simp [go_sem]⟩
  · intro o ho vals W g hg1 hg2 hg3
    cases ho
    obtain ⟨a1, c1, e1⟩ := Sl.parts (show Sl W (vals 1) _ from hg3)
    have hc := cell1 hg2
    have hf : W.frozen? ⟨g, 0, none⟩ = false := by simp [World.frozen?, hg2]
    exact ⟨by first | rfl | simp [Region.wanted, yielded], by simp [go_sem, hg1, e1, hc, hf]⟩
  obtain ⟨f0, f1, f2, f3, f4, f5, f6, f7, f8, f9, _⟩ := hF
  obtain ⟨g, hg1, hg2, hg3⟩ := hV2.out
  rw [hg1]
  have s2 : Hid (Kn w2 [(g, [vals2 1]), (kr, (c16 m iv on tw)), (w.heap.size + 1 + 1 + 1 + 1, (c8 (l) (h))), (w.heap.size + 1 + 1 + 1, (c4 (n))), (w.heap.size + 1 + 1, (c4 (b))), (w.heap.size + 1, (c4 (a))), (w.heap.size, (c4 (m)))]) := s1.out.fresh hb2.out hg2 hg3
  clear hV2 hg1 hg2 hg3
  have b2 : Hid (Below w.heap.size w w2) := b1.out.trans (hb2.out.mono b1.out.size)
  have z2 := b2.out.size
  clear hb2 s1 b1
  have Sk : Hid (Sl w2 (vals2 1) (P.dg M)) := f1
  have Sx : Hid (Sl w2 (vals2 8) (P.dg A)) := f8
  have Sy : Hid (Sl w2 (vals2 9) (P.dg B)) := f9
  clear f0 f1 f2 f3 f4 f5 f6 f7 f8 f9
  go_wp2_with fail
  refine wp_region_monoE [MP.eq (rp kr), MP.eq (N m), MP.eq (N (m)), MP.eq (.bool false), MP.eq (.bool false), MP.eq (rp kr), MP.eq (N (a)), MP.eq (N (b)), MP.eq (N s), MP.eq (.func (.func 28) #[] #[.pointer (some ⟨g, 0, none⟩)]), MP.sl (P.dg A), MP.sl (P.dg B), MP.sl (P.dg C), MP.eq (N s), MP.eq (.bool false), MP.eq (.bool false), MP.eq (.bool false), MP.eq (rp kr), MP.eq (N (a)), MP.eq (N (b)), MP.eq (N d), MP.eq (.func (.func 28) #[] #[.pointer (some ⟨g, 0, none⟩)]), MP.sl (P.dg A), MP.sl (P.dg M), MP.sl (P.dg B), MP.sl (P.dg M), MP.sl (P.dg E), MP.sl (P.dg F), MP.sl (P.dg G), MP.eq (N d), MP.eq (.bool false), MP.eq (.bool false), MP.eq (.bool false), MP.eq (rp kr), MP.eq (N (a)), MP.eq (N (b)), MP.eq (N p), MP.eq (.func (.func 28) #[] #[.pointer (some ⟨g, 0, none⟩)]), MP.sl (P.dg A), MP.sl (P.dg B), MP.sl (P.dg H), MP.eq (N p), MP.eq (.bool false), MP.eq (.bool false)] (by kernel_rfl) (by kernel_rfl) rfl ?_
  apply Exists.intro
  refine ⟨fun vals => ?_, ?_, fun vals3 w3 hb3 hF => ?_⟩
  · simp only [putsV, dstL, List.length_cons, List.length_nil, Nat.zero_add, Nat.reduceAdd, List.getElem?_cons_zero, List.getElem?_cons_succ, Option.bind_some, Act.put, List.setIfInBounds_toArray, List.set_cons_succ, List.set_cons_zero]
    rfl
  · refine ⟨?_, ?_, ?_, ?_, ?_, ?_, ?_, ?_, ?_, ?_, ?_, ?_, ?_, ?_, ?_, ?_, ?_, ?_, ?_, ?_, ?_, ?_, ?_, ?_, ?_, ?_, ?_, ?_, ?_, ?_, ?_, ?_, ?_, ?_, ?_, ?_, ?_, ?_, ?_, ?_, ?_, ?_, ?_, ?_, trivial⟩
    · intro vals W hW hw hd
      simp [Region.binds] at hd
      refine ⟨by first | rfl | simp [Region.wanted, yielded, hd], ?_⟩
      simp [go_sem]
      exact Below.refl _ _
    · intro vals W hW hw hd
      simp [Region.binds] at hd
      refine ⟨by first | rfl | simp [Region.wanted, yielded, hd], ?_⟩
      simp [go_sem, hd]
      exact (MO _ _ (RingAt.ofKn (s2.out.up hW.out) 1 rfl)).mono fun e w' ⟨he, hb⟩ => ⟨_, he, rfl, hb⟩
    · intro vals W hW hw hd
      simp [Region.binds] at hd
      have u0 := Kn.get (s2.out.up hW.out) 6 0 rfl rfl
      have u1 := Kn.get (s2.out.up hW.out) 6 1 rfl rfl
      have u2 := Kn.get (s2.out.up hW.out) 6 2 rfl rfl
      have u3 := Kn.get (s2.out.up hW.out) 6 3 rfl rfl
      refine ⟨by first | rfl | simp [Region.wanted, yielded, hd], ?_⟩
      simp [go_sem, u0, u1, u2, u3]
      exact Below.refl _ _
    · intro vals W hW hw hd
      simp [Region.binds] at hd
      refine ⟨by first | rfl | simp [Region.wanted, yielded, hd], ?_⟩
      simp [go_sem, hd, em]
      exact Below.refl _ _
    · intro vals W hW hw hd
      simp [Region.binds] at hd
      refine ⟨by first | rfl | simp [Region.wanted, yielded, hd], ?_⟩
      simp [go_sem, hd]
      exact Below.refl _ _
    · intro vals W hW hw hd
      simp [Region.binds] at hd
      refine ⟨by first | rfl | simp [Region.wanted, yielded, hd], ?_⟩
      simp [go_sem]
      exact Below.refl _ _
    · intro vals W hW hw hd
      simp [Region.binds] at hd
      have u0 := Kn.get (s2.out.up hW.out) 5 0 rfl rfl
      have u1 := Kn.get (s2.out.up hW.out) 5 1 rfl rfl
      have u2 := Kn.get (s2.out.up hW.out) 5 2 rfl rfl
      have u3 := Kn.get (s2.out.up hW.out) 5 3 rfl rfl
      refine ⟨by first | rfl | simp [Region.wanted, yielded, hd], ?_⟩
      simp [go_sem, u0, u1, u2, u3]
      exact Below.refl _ _
    · intro vals W hW hw hd
      simp [Region.binds] at hd
      have u0 := Kn.get (s2.out.up hW.out) 4 0 rfl rfl
      have u1 := Kn.get (s2.out.up hW.out) 4 1 rfl rfl
      have u2 := Kn.get (s2.out.up hW.out) 4 2 rfl rfl
      have u3 := Kn.get (s2.out.up hW.out) 4 3 rfl rfl
      refine ⟨by first | rfl | simp [Region.wanted, yielded, hd], ?_⟩
      simp [go_sem, u0, u1, u2, u3]
      exact Below.refl _ _
    · intro vals W hW hw hd
      simp [Region.binds] at hd
      refine ⟨by first | rfl | simp [Region.wanted, yielded, hd], ?_⟩
      simp [go_sem, hd]
      exact (AD _ _ (RingAt.ofKn (s2.out.up hW.out) 1 rfl)).mono fun e w' ⟨he, hb⟩ => ⟨_, he, rfl, hb⟩
    · intro vals W hW hw hd
      simp [Region.binds] at hd
      refine ⟨by first | rfl | simp [Region.wanted, yielded, hd], ?_⟩
      simp [go_sem]
      exact Below.refl _ _
    · intro vals W hW hw hd
      simp [Region.binds] at hd
      refine ⟨by first | rfl | simp [Region.wanted, yielded, hd], ?_⟩
      simp [go_sem]
      exact ⟨Sl.up (xs := (P.dg A)) Sx.out hW.out, Below.refl _ _⟩
    · intro vals W hW hw hd
      simp [Region.binds] at hd
      refine ⟨by first | rfl | simp [Region.wanted, yielded, hd], ?_⟩
      simp [go_sem]
      exact ⟨Sl.up (xs := (P.dg B)) Sy.out hW.out, Below.refl _ _⟩
    · intro vals W hW hw hd
      simp [Region.binds] at hd
      refine ⟨by first | rfl | simp [Region.wanted, yielded, hd], ?_⟩
      simp [go_sem]
      exact (P1.out _ _ _ (by simp [hd]) (by simp [hd])).mono fun e w' ⟨⟨v', he, hs⟩, hb⟩ => ⟨v', he, hs, hb⟩
    · intro vals W hW hw hd
      simp [Region.binds] at hd
      refine ⟨by first | rfl | simp [Region.wanted, yielded, hd], ?_⟩
      have kv := Kn.get (s2.out.up hW.out) 0 0 rfl rfl
      simp [go_sem, hd]
      exact (L1.out _ _ g W (by simp [hd]) kv (Sl.up (xs := P.dg M) Sk.out hW.out)).mono fun e w' ⟨he, hb⟩ => ⟨_, he, rfl, hb⟩
    · intro vals W hW hw hd
      simp [Region.binds] at hd
      refine ⟨by first | rfl | simp [Region.wanted, yielded, hd], ?_⟩
      simp [go_sem, hd, es]
      exact Below.refl _ _
    · intro vals W hW hw hd
      simp [Region.binds] at hd
      refine ⟨by first | rfl | simp [Region.wanted, yielded, hd], ?_⟩
      simp [go_sem, hd]
      exact Below.refl _ _
    · intro vals W hW hw hd
      simp [Region.binds] at hd
      refine ⟨by first | rfl | simp [Region.wanted, yielded, hd], ?_⟩
      simp [go_sem, hd]
      exact Below.refl _ _
    · intro vals W hW hw hd
      simp [Region.binds] at hd
      refine ⟨by first | rfl | simp [Region.wanted, yielded, hd], ?_⟩
      simp [go_sem]
      exact Below.refl _ _
    · intro vals W hW hw hd
      simp [Region.binds] at hd
      have u0 := Kn.get (s2.out.up hW.out) 5 0 rfl rfl
      have u1 := Kn.get (s2.out.up hW.out) 5 1 rfl rfl
      have u2 := Kn.get (s2.out.up hW.out) 5 2 rfl rfl
      have u3 := Kn.get (s2.out.up hW.out) 5 3 rfl rfl
      refine ⟨by first | rfl | simp [Region.wanted, yielded, hd], ?_⟩
      simp [go_sem, u0, u1, u2, u3]
      exact Below.refl _ _
    · intro vals W hW hw hd
      simp [Region.binds] at hd
      have u0 := Kn.get (s2.out.up hW.out) 4 0 rfl rfl
      have u1 := Kn.get (s2.out.up hW.out) 4 1 rfl rfl
      have u2 := Kn.get (s2.out.up hW.out) 4 2 rfl rfl
      have u3 := Kn.get (s2.out.up hW.out) 4 3 rfl rfl
      refine ⟨by first | rfl | simp [Region.wanted, yielded, hd], ?_⟩
      simp [go_sem, u0, u1, u2, u3]
      exact Below.refl _ _
    · intro vals W hW hw hd
      simp [Region.binds] at hd
      refine ⟨by first | rfl | simp [Region.wanted, yielded, hd], ?_⟩
      simp [go_sem, hd]
      exact (SB _ _ (RingAt.ofKn (s2.out.up hW.out) 1 rfl)).mono fun e w' ⟨he, hb⟩ => ⟨_, he, rfl, hb⟩
    · intro vals W hW hw hd
      simp [Region.binds] at hd
      refine ⟨by first | rfl | simp [Region.wanted, yielded, hd], ?_⟩
      simp [go_sem]
      exact Below.refl _ _
    · intro vals W hW hw hd
      simp [Region.binds] at hd
      refine ⟨by first | rfl | simp [Region.wanted, yielded, hd], ?_⟩
      simp [go_sem]
      exact ⟨Sl.up (xs := (P.dg A)) Sx.out hW.out, Below.refl _ _⟩
    · intro vals W hW hw hd
      simp [Region.binds] at hd
      refine ⟨by first | rfl | simp [Region.wanted, yielded, hd], ?_⟩
      have kv := Kn.get (s2.out.up hW.out) 0 0 rfl rfl
      simp [go_sem, kv]
      exact ⟨Sl.up (xs := P.dg M) Sk.out hW.out, Below.refl _ _⟩
    · intro vals W hW hw hd
      simp [Region.binds] at hd
      refine ⟨by first | rfl | simp [Region.wanted, yielded, hd], ?_⟩
      simp [go_sem]
      exact ⟨Sl.up (xs := (P.dg B)) Sy.out hW.out, Below.refl _ _⟩
    · intro vals W hW hw hd
      simp [Region.binds] at hd
      refine ⟨by first | rfl | simp [Region.wanted, yielded, hd], ?_⟩
      have kv := Kn.get (s2.out.up hW.out) 0 0 rfl rfl
      simp [go_sem, kv]
      exact ⟨Sl.up (xs := P.dg M) Sk.out hW.out, Below.refl _ _⟩
    · intro vals W hW hw hd
      simp [Region.binds] at hd
      refine ⟨by first | rfl | simp [Region.wanted, yielded, hd], ?_⟩
      simp [go_sem]
      exact (R1.out _ _ _ (by simp [hd]) (by simp [hd])).mono fun e w' ⟨⟨v', he, hs⟩, hb⟩ => ⟨v', he, hs, hb⟩
    · intro vals W hW hw hd
      simp [Region.binds] at hd
      refine ⟨by first | rfl | simp [Region.wanted, yielded, hd], ?_⟩
      simp [go_sem]
      exact (M1.out _ _ _ (by simp [hd]) (by simp [hd])).mono fun e w' ⟨⟨v', he, hs⟩, hb⟩ => ⟨v', he, hs, hb⟩
    · intro vals W hW hw hd
      simp [Region.binds] at hd
      refine ⟨by first | rfl | simp [Region.wanted, yielded, hd], ?_⟩
      simp [go_sem]
      exact (P2.out _ _ _ (by simp [hd]) (by simp [hd])).mono fun e w' ⟨⟨v', he, hs⟩, hb⟩ => ⟨v', he, hs, hb⟩
    · intro vals W hW hw hd
      simp [Region.binds] at hd
      refine ⟨by first | rfl | simp [Region.wanted, yielded, hd], ?_⟩
      have kv := Kn.get (s2.out.up hW.out) 0 0 rfl rfl
      simp [go_sem, hd]
      exact (L2.out _ _ g W (by simp [hd]) kv (Sl.up (xs := P.dg M) Sk.out hW.out)).mono fun e w' ⟨he, hb⟩ => ⟨_, he, rfl, hb⟩
    · intro vals W hW hw hd
      simp [Region.binds] at hd
      refine ⟨by first | rfl | simp [Region.wanted, yielded, hd], ?_⟩
      simp [go_sem, hd, ed]
      exact Below.refl _ _
    · intro vals W hW hw hd
      simp [Region.binds] at hd
      refine ⟨by first | rfl | simp [Region.wanted, yielded, hd], ?_⟩
      simp [go_sem, hd]
      exact Below.refl _ _
    · intro vals W hW hw hd
      simp [Region.binds] at hd
      refine ⟨by first | rfl | simp [Region.wanted, yielded, hd], ?_⟩
      simp [go_sem, hd]
      exact Below.refl _ _
    · intro vals W hW hw hd
      simp [Region.binds] at hd
      refine ⟨by first | rfl | simp [Region.wanted, yielded, hd], ?_⟩
      simp [go_sem]
      exact Below.refl _ _
    · intro vals W hW hw hd
      simp [Region.binds] at hd
      have u0 := Kn.get (s2.out.up hW.out) 5 0 rfl rfl
      have u1 := Kn.get (s2.out.up hW.out) 5 1 rfl rfl
      have u2 := Kn.get (s2.out.up hW.out) 5 2 rfl rfl
      have u3 := Kn.get (s2.out.up hW.out) 5 3 rfl rfl
      refine ⟨by first | rfl | simp [Region.wanted, yielded, hd], ?_⟩
      simp [go_sem, u0, u1, u2, u3]
      exact Below.refl _ _
    · intro vals W hW hw hd
      simp [Region.binds] at hd
      have u0 := Kn.get (s2.out.up hW.out) 4 0 rfl rfl
      have u1 := Kn.get (s2.out.up hW.out) 4 1 rfl rfl
      have u2 := Kn.get (s2.out.up hW.out) 4 2 rfl rfl
      have u3 := Kn.get (s2.out.up hW.out) 4 3 rfl rfl
      refine ⟨by first | rfl | simp [Region.wanted, yielded, hd], ?_⟩
      simp [go_sem, u0, u1, u2, u3]
      exact Below.refl _ _
    · intro vals W hW hw hd
      simp [Region.binds] at hd
      refine ⟨by first | rfl | simp [Region.wanted, yielded, hd], ?_⟩
      simp [go_sem, hd]
      exact (MU _ _ (RingAt.ofKn (s2.out.up hW.out) 1 rfl)).mono fun e w' ⟨he, hb⟩ => ⟨_, he, rfl, hb⟩
    · intro vals W hW hw hd
      simp [Region.binds] at hd
      refine ⟨by first | rfl | simp [Region.wanted, yielded, hd], ?_⟩
      simp [go_sem]
      exact Below.refl _ _
    · intro vals W hW hw hd
      simp [Region.binds] at hd
      refine ⟨by first | rfl | simp [Region.wanted, yielded, hd], ?_⟩
      simp [go_sem]
      exact ⟨Sl.up (xs := (P.dg A)) Sx.out hW.out, Below.refl _ _⟩
    · intro vals W hW hw hd
      simp [Region.binds] at hd
      refine ⟨by first | rfl | simp [Region.wanted, yielded, hd], ?_⟩
      simp [go_sem]
      exact ⟨Sl.up (xs := (P.dg B)) Sy.out hW.out, Below.refl _ _⟩
    · intro vals W hW hw hd
      simp [Region.binds] at hd
      refine ⟨by first | rfl | simp [Region.wanted, yielded, hd], ?_⟩
      simp [go_sem]
      exact (T1.out _ _ _ (by simp [hd]) (by simp [hd])).mono fun e w' ⟨⟨v', he, hs⟩, hb⟩ => ⟨v', he, hs, hb⟩
    · intro vals W hW hw hd
      simp [Region.binds] at hd
      refine ⟨by first | rfl | simp [Region.wanted, yielded, hd], ?_⟩
      have kv := Kn.get (s2.out.up hW.out) 0 0 rfl rfl
      simp [go_sem, hd]
      exact (L3.out _ _ g W (by simp [hd]) kv (Sl.up (xs := P.dg M) Sk.out hW.out)).mono fun e w' ⟨he, hb⟩ => ⟨_, he, rfl, hb⟩
    · intro vals W hW hw hd
      simp [Region.binds] at hd
      refine ⟨by first | rfl | simp [Region.wanted, yielded, hd], ?_⟩
      simp [go_sem, hd, ep]
      exact Below.refl _ _
    · intro vals W hW hw hd
      simp [Region.binds] at hd
      refine ⟨by first | rfl | simp [Region.wanted, yielded, hd], ?_⟩
      simp [go_sem, hd]
      exact Below.refl _ _
  obtain ⟨f0, f1, f2, f3, f4, f5, f6, f7, f8, f9, f10, f11, f12, f13, f14, f15, f16, f17, f18, f19, f20, f21, f22, f23, f24, f25, f26, f27, f28, f29, f30, f31, f32, f33, f34, f35, f36, f37, f38, f39, f40, f41, f42, f43, _⟩ := hF
  have s3 : Hid (Kn w3 [(g, [vals2 1]), (kr, (c16 m iv on tw)), (w.heap.size + 1 + 1 + 1 + 1, (c8 (l) (h))), (w.heap.size + 1 + 1 + 1, (c4 (n))), (w.heap.size + 1 + 1, (c4 (b))), (w.heap.size + 1, (c4 (a))), (w.heap.size, (c4 (m)))]) := s2.out.up hb3.out
  have b3 : Hid (Below w.heap.size w w3) := b2.out.trans (hb3.out.mono b2.out.size)
  have z3 := b3.out.size
  replace Sk : Hid (Sl w3 (vals2 1) (P.dg M)) := Sl.up (xs := (P.dg M)) Sk.out hb3.out
  replace Sx : Hid (Sl w3 (vals2 8) (P.dg A)) := Sl.up (xs := (P.dg A)) Sx.out hb3.out
  replace Sy : Hid (Sl w3 (vals2 9) (P.dg B)) := Sl.up (xs := (P.dg B)) Sy.out hb3.out
  clear hb3 s2 b2
  have e43 := f43
  simp only [MP.eq_p] at e43
  clear f0 f1 f2 f3 f4 f5 f6 f7 f8 f9 f10 f11 f12 f13 f14 f15 f16 f17 f18 f19 f20 f21 f22 f23 f24 f25 f26 f27 f28 f29 f30 f31 f32 f33 f34 f35 f36 f37 f38 f39 f40 f41 f42 f43
  rw [e43]
  clear e43
  have ut_0 : w3.cell? ⟨w.heap.size + 1 + 1 + 1 + 1, 0, none⟩ = some (.int .u64 (l).a) := Kn.get s3.out 2 0 rfl rfl
  have ut_1 : w3.cell? ⟨w.heap.size + 1 + 1 + 1 + 1, 1, none⟩ = some (.int .u64 (l).b) := Kn.get s3.out 2 1 rfl rfl
  have ut_2 : w3.cell? ⟨w.heap.size + 1 + 1 + 1 + 1, 2, none⟩ = some (.int .u64 (l).c) := Kn.get s3.out 2 2 rfl rfl
  have ut_3 : w3.cell? ⟨w.heap.size + 1 + 1 + 1 + 1, 3, none⟩ = some (.int .u64 (l).d) := Kn.get s3.out 2 3 rfl rfl
  have ut_4 : w3.cell? ⟨w.heap.size + 1 + 1 + 1 + 1, 4, none⟩ = some (.int .u64 (h).a) := Kn.get s3.out 2 4 rfl rfl
  have ut_5 : w3.cell? ⟨w.heap.size + 1 + 1 + 1 + 1, 5, none⟩ = some (.int .u64 (h).b) := Kn.get s3.out 2 5 rfl rfl
  have ut_6 : w3.cell? ⟨w.heap.size + 1 + 1 + 1 + 1, 6, none⟩ = some (.int .u64 (h).c) := Kn.get s3.out 2 6 rfl rfl
  have ut_7 : w3.cell? ⟨w.heap.size + 1 + 1 + 1 + 1, 7, none⟩ = some (.int .u64 (h).d) := Kn.get s3.out 2 7 rfl rfl
  go_wp2_with fail
  clear ut_0 ut_1 ut_2 ut_3 ut_4 ut_5 ut_6 ut_7
  have RK : RingAt w3 kr m iv on tw := RingAt.ofKn s3.out 1 rfl
  refine (OU _ _ RK).mono ?_
  rintro e w4 ⟨rfl, hb4⟩
  clear RK
  replace Sk : Hid (Sl w4 (vals2 1) (P.dg M)) := Sl.up (xs := (P.dg M)) Sk.out hb4
  replace Sx : Hid (Sl w4 (vals2 8) (P.dg A)) := Sl.up (xs := (P.dg A)) Sx.out hb4
  replace Sy : Hid (Sl w4 (vals2 9) (P.dg B)) := Sl.up (xs := (P.dg B)) Sy.out hb4
  have s4 : Hid (Kn w4 [(g, [vals2 1]), (kr, (c16 m iv on tw)), (w.heap.size + 1 + 1 + 1 + 1, (c8 (l) (h))), (w.heap.size + 1 + 1 + 1, (c4 (n))), (w.heap.size + 1 + 1, (c4 (b))), (w.heap.size + 1, (c4 (a))), (w.heap.size, (c4 (m)))]) := s3.out.up hb4
  have b4 : Hid (Below w.heap.size w w4) := b3.out.trans (hb4.mono b3.out.size)
  have z4 := b4.out.size
  clear hb4 s3 b3
  have s5 : Hid (Kn (kal4 w4 (o)) [(w4.heap.size, (c4 (o))), (g, [vals2 1]), (kr, (c16 m iv on tw)), (w.heap.size + 1 + 1 + 1 + 1, (c8 (l) (h))), (w.heap.size + 1 + 1 + 1, (c4 (n))), (w.heap.size + 1 + 1, (c4 (b))), (w.heap.size + 1, (c4 (a))), (w.heap.size, (c4 (m)))]) := s4.out.al (c4 (o)) 24 rfl
  have b5 : Hid (Below w.heap.size w (kal4 w4 (o))) := b4.out.alloc b4.out.size _
  have z5 := b4.out.size
  replace Sk : Hid (Sl (kal4 w4 (o)) (vals2 1) (P.dg M)) := Sl.up (xs := (P.dg M)) Sk.out ((Below.refl _ _).alloc (Nat.le_refl _) _)
  replace Sx : Hid (Sl (kal4 w4 (o)) (vals2 8) (P.dg A)) := Sl.up (xs := (P.dg A)) Sx.out ((Below.refl _ _).alloc (Nat.le_refl _) _)
  replace Sy : Hid (Sl (kal4 w4 (o)) (vals2 9) (P.dg B)) := Sl.up (xs := (P.dg B)) Sy.out ((Below.refl _ _).alloc (Nat.le_refl _) _)
  clear s4 b4
  go_wp2_with fail
  refine wp_region_monoE [MP.eq (rp kr), MP.eq (N (a)), MP.eq (N (n)), MP.eq (N pw), MP.sl (P.dg A), MP.eq (N (n)), MP.sl (P.dg NN), MP.sl (P.dg M), MP.sl (P.dg I), MP.eq (N pw), MP.eq (.bool true), MP.eq (.bool true), MP.eq (rp kr), MP.eq (N (a)), MP.eq (N i1), MP.eq (.func (.func 28) #[] #[.pointer (some ⟨g, 0, none⟩)]), MP.sl (P.dg A), MP.sl (P.dg TT), MP.sl (P.dg J), MP.eq (N i1), MP.eq (.bool true), MP.eq (.bool true), MP.eq (.bool true), MP.eq (N (o)), MP.sl (P.dg O), MP.sl (P.dg M), MP.eq (.int .i64 lt), MP.eq (.bool true), MP.eq (.bool true), MP.eq (.bool true), MP.eq (.func (.func 28) #[] #[.pointer (some ⟨g, 0, none⟩)]), MP.eq (N (o)), MP.sl (P.dg O), MP.sl (P.dg TT), MP.sl (P.dg U), MP.eq (N z), MP.eq (.func (.func 28) #[] #[.pointer (some ⟨g, 0, none⟩)]), MP.eq (Wv (l) (h)), MP.sl (P.dg T), MP.eq (N z), MP.eq (.bool true), MP.eq (.bool true), MP.eq (.bool true)] (by kernel_rfl) (by kernel_rfl) rfl ?_
  apply Exists.intro
  refine ⟨fun vals => ?_, ?_, fun vals6 w6 hb6 hF => ?_⟩
  · simp only [putsV, dstL, List.length_cons, List.length_nil, Nat.zero_add, Nat.reduceAdd, List.getElem?_cons_zero, List.getElem?_cons_succ, Option.bind_some, Act.put, List.setIfInBounds_toArray, List.set_cons_succ, List.set_cons_zero]
    rfl
  · refine ⟨?_, ?_, ?_, ?_, ?_, ?_, ?_, ?_, ?_, ?_, ?_, ?_, ?_, ?_, ?_, ?_, ?_, ?_, ?_, ?_, ?_, ?_, ?_, ?_, ?_, ?_, ?_, ?_, ?_, ?_, ?_, ?_, ?_, ?_, ?_, ?_, ?_, ?_, ?_, ?_, ?_, ?_, ?_, trivial⟩
    · intro vals W hW hw hd
      simp [Region.binds] at hd
      refine ⟨by first | rfl | simp [Region.wanted, yielded, hd], ?_⟩
      simp [go_sem]
      exact Below.refl _ _
    · intro vals W hW hw hd
      simp [Region.binds] at hd
      have u0 := Kn.get (s5.out.up hW.out) 6 0 rfl rfl
      have u1 := Kn.get (s5.out.up hW.out) 6 1 rfl rfl
      have u2 := Kn.get (s5.out.up hW.out) 6 2 rfl rfl
      have u3 := Kn.get (s5.out.up hW.out) 6 3 rfl rfl
      refine ⟨by first | rfl | simp [Region.wanted, yielded, hd], ?_⟩
      simp [go_sem, u0, u1, u2, u3]
      exact Below.refl _ _
    · intro vals W hW hw hd
      simp [Region.binds] at hd
      have u0 := Kn.get (s5.out.up hW.out) 4 0 rfl rfl
      have u1 := Kn.get (s5.out.up hW.out) 4 1 rfl rfl
      have u2 := Kn.get (s5.out.up hW.out) 4 2 rfl rfl
      have u3 := Kn.get (s5.out.up hW.out) 4 3 rfl rfl
      refine ⟨by first | rfl | simp [Region.wanted, yielded, hd], ?_⟩
      simp [go_sem, u0, u1, u2, u3]
      exact Below.refl _ _
    · intro vals W hW hw hd
      simp [Region.binds] at hd
      refine ⟨by first | rfl | simp [Region.wanted, yielded, hd], ?_⟩
      simp [go_sem, hd]
      exact (PO _ _ (RingAt.ofKn (s5.out.up hW.out) 2 rfl)).mono fun e w' ⟨he, hb⟩ => ⟨_, he, rfl, hb⟩
    · intro vals W hW hw hd
      simp [Region.binds] at hd
      refine ⟨by first | rfl | simp [Region.wanted, yielded, hd], ?_⟩
      simp [go_sem]
      exact ⟨Sl.up (xs := (P.dg A)) Sx.out hW.out, Below.refl _ _⟩
    · intro vals W hW hw hd
      simp [Region.binds] at hd
      have u0 := Kn.get (s5.out.up hW.out) 4 0 rfl rfl
      have u1 := Kn.get (s5.out.up hW.out) 4 1 rfl rfl
      have u2 := Kn.get (s5.out.up hW.out) 4 2 rfl rfl
      have u3 := Kn.get (s5.out.up hW.out) 4 3 rfl rfl
      refine ⟨by first | rfl | simp [Region.wanted, yielded, hd], ?_⟩
      simp [go_sem, u0, u1, u2, u3]
      exact Below.refl _ _
    · intro vals W hW hw hd
      simp [Region.binds] at hd
      refine ⟨by first | rfl | simp [Region.wanted, yielded, hd], ?_⟩
      simp [go_sem, hd]
      exact (ON.out _).mono fun e w' ⟨⟨v', he, hs⟩, hb⟩ => ⟨v', he, hs, hb⟩
    · intro vals W hW hw hd
      simp [Region.binds] at hd
      refine ⟨by first | rfl | simp [Region.wanted, yielded, hd], ?_⟩
      have kv := Kn.get (s5.out.up hW.out) 1 0 rfl rfl
      simp [go_sem, kv]
      exact ⟨Sl.up (xs := P.dg M) Sk.out hW.out, Below.refl _ _⟩
    · intro vals W hW hw hd
      simp [Region.binds] at hd
      refine ⟨by first | rfl | simp [Region.wanted, yielded, hd], ?_⟩
      simp [go_sem]
      exact (PW.out _ _ _ _ (by simp [hd]) (by simp [hd]) (by simp [hd])).mono fun e w' ⟨⟨v', he, hs⟩, hb⟩ => ⟨v', he, hs, hb⟩
    · intro vals W hW hw hd
      simp [Region.binds] at hd
      refine ⟨by first | rfl | simp [Region.wanted, yielded, hd], ?_⟩
      simp [go_sem]
      exact (TN.out _ _ (by simp [hd])).mono fun e w' ⟨he, hb⟩ => ⟨_, he, rfl, hb⟩
    · intro vals W hW hw hd
      simp [Region.binds] at hd
      refine ⟨by first | rfl | simp [Region.wanted, yielded, hd], ?_⟩
      simp [go_sem, hd, ew]
      exact Below.refl _ _
    · intro vals W hW hw hd
      simp [Region.binds] at hd
      refine ⟨by first | rfl | simp [Region.wanted, yielded, hd], ?_⟩
      simp [go_sem, hd]
      exact Below.refl _ _
    · intro vals W hW hw hd
      simp [Region.binds] at hd
      refine ⟨by first | rfl | simp [Region.wanted, yielded, hd], ?_⟩
      simp [go_sem]
      exact Below.refl _ _
    · intro vals W hW hw hd
      simp [Region.binds] at hd
      have u0 := Kn.get (s5.out.up hW.out) 6 0 rfl rfl
      have u1 := Kn.get (s5.out.up hW.out) 6 1 rfl rfl
      have u2 := Kn.get (s5.out.up hW.out) 6 2 rfl rfl
      have u3 := Kn.get (s5.out.up hW.out) 6 3 rfl rfl
      refine ⟨by first | rfl | simp [Region.wanted, yielded, hd], ?_⟩
      simp [go_sem, u0, u1, u2, u3]
      exact Below.refl _ _
    · intro vals W hW hw hd
      simp [Region.binds] at hd
      refine ⟨by first | rfl | simp [Region.wanted, yielded, hd], ?_⟩
      simp [go_sem, hd]
      exact (IN _ _ (RingAt.ofKn (s5.out.up hW.out) 2 rfl)).mono fun e w' ⟨he, hb⟩ => ⟨_, he, rfl, hb⟩
    · intro vals W hW hw hd
      simp [Region.binds] at hd
      refine ⟨by first | rfl | simp [Region.wanted, yielded, hd], ?_⟩
      simp [go_sem]
      exact Below.refl _ _
    · intro vals W hW hw hd
      simp [Region.binds] at hd
      refine ⟨by first | rfl | simp [Region.wanted, yielded, hd], ?_⟩
      simp [go_sem]
      exact ⟨Sl.up (xs := (P.dg A)) Sx.out hW.out, Below.refl _ _⟩
    · intro vals W hW hw hd
      simp [Region.binds] at hd
      refine ⟨by first | rfl | simp [Region.wanted, yielded, hd], ?_⟩
      simp [go_sem, hd]
      exact (TW.out _).mono fun e w' ⟨⟨v', he, hs⟩, hb⟩ => ⟨v', he, hs, hb⟩
    · intro vals W hW hw hd
      simp [Region.binds] at hd
      refine ⟨by first | rfl | simp [Region.wanted, yielded, hd], ?_⟩
      simp [go_sem]
      exact (T2.out _ _ _ (by simp [hd]) (by simp [hd])).mono fun e w' ⟨⟨v', he, hs⟩, hb⟩ => ⟨v', he, hs, hb⟩
    · intro vals W hW hw hd
      simp [Region.binds] at hd
      refine ⟨by first | rfl | simp [Region.wanted, yielded, hd], ?_⟩
      have kv := Kn.get (s5.out.up hW.out) 1 0 rfl rfl
      simp [go_sem, hd]
      exact (L4.out _ _ g W (by simp [hd]) kv (Sl.up (xs := P.dg M) Sk.out hW.out)).mono fun e w' ⟨he, hb⟩ => ⟨_, he, rfl, hb⟩
    · intro vals W hW hw hd
      simp [Region.binds] at hd
      refine ⟨by first | rfl | simp [Region.wanted, yielded, hd], ?_⟩
      simp [go_sem, hd, ei]
      exact Below.refl _ _
    · intro vals W hW hw hd
      simp [Region.binds] at hd
      refine ⟨by first | rfl | simp [Region.wanted, yielded, hd], ?_⟩
      simp [go_sem, hd]
      exact Below.refl _ _
    · intro vals W hW hw hd
      simp [Region.binds] at hd
      refine ⟨by first | rfl | simp [Region.wanted, yielded, hd], ?_⟩
      simp [go_sem, hd]
      exact Below.refl _ _
    · intro vals W hW hw hd
      simp [Region.binds] at hd
      have u0 := Kn.get (s5.out.up hW.out) 0 0 rfl rfl
      have u1 := Kn.get (s5.out.up hW.out) 0 1 rfl rfl
      have u2 := Kn.get (s5.out.up hW.out) 0 2 rfl rfl
      have u3 := Kn.get (s5.out.up hW.out) 0 3 rfl rfl
      refine ⟨by first | rfl | simp [Region.wanted, yielded, hd], ?_⟩
      simp [go_sem, u0, u1, u2, u3]
      exact Below.refl _ _
    · intro vals W hW hw hd
      simp [Region.binds] at hd
      refine ⟨by first | rfl | simp [Region.wanted, yielded, hd], ?_⟩
      simp [go_sem, hd]
      exact (OO.out _).mono fun e w' ⟨⟨v', he, hs⟩, hb⟩ => ⟨v', he, hs, hb⟩
    · intro vals W hW hw hd
      simp [Region.binds] at hd
      refine ⟨by first | rfl | simp [Region.wanted, yielded, hd], ?_⟩
      have kv := Kn.get (s5.out.up hW.out) 1 0 rfl rfl
      simp [go_sem, kv]
      exact ⟨Sl.up (xs := P.dg M) Sk.out hW.out, Below.refl _ _⟩
    · intro vals W hW hw hd
      simp [Region.binds] at hd
      refine ⟨by first | rfl | simp [Region.wanted, yielded, hd], ?_⟩
      simp [go_sem]
      exact (OR.out _ _ _ (by simp [hd]) (by simp [hd])).mono fun e w' ⟨he, hb⟩ => ⟨_, he, rfl, hb⟩
    · intro vals W hW hw hd
      simp [Region.binds] at hd
      refine ⟨by first | rfl | simp [Region.wanted, yielded, hd], ?_⟩
      simp [go_sem, hd, hlt]
      exact Below.refl _ _
    · intro vals W hW hw hd
      simp [Region.binds] at hd
      refine ⟨by first | rfl | simp [Region.wanted, yielded, hd], ?_⟩
      simp [go_sem, hd]
      exact Below.refl _ _
    · intro vals W hW hw hd
      simp [Region.binds] at hd
      refine ⟨by first | rfl | simp [Region.wanted, yielded, hd], ?_⟩
      simp [go_sem, hd]
      exact Below.refl _ _
    · intro vals W hW hw hd
      simp [Region.binds] at hd
      refine ⟨by first | rfl | simp [Region.wanted, yielded, hd], ?_⟩
      simp [go_sem]
      exact Below.refl _ _
    · intro vals W hW hw hd
      simp [Region.binds] at hd
      have u0 := Kn.get (s5.out.up hW.out) 0 0 rfl rfl
      have u1 := Kn.get (s5.out.up hW.out) 0 1 rfl rfl
      have u2 := Kn.get (s5.out.up hW.out) 0 2 rfl rfl
      have u3 := Kn.get (s5.out.up hW.out) 0 3 rfl rfl
      refine ⟨by first | rfl | simp [Region.wanted, yielded, hd], ?_⟩
      simp [go_sem, u0, u1, u2, u3]
      exact Below.refl _ _
    · intro vals W hW hw hd
      simp [Region.binds] at hd
      refine ⟨by first | rfl | simp [Region.wanted, yielded, hd], ?_⟩
      simp [go_sem, hd]
      exact (OO.out _).mono fun e w' ⟨⟨v', he, hs⟩, hb⟩ => ⟨v', he, hs, hb⟩
    · intro vals W hW hw hd
      simp [Region.binds] at hd
      refine ⟨by first | rfl | simp [Region.wanted, yielded, hd], ?_⟩
      simp [go_sem, hd]
      exact (TW.out _).mono fun e w' ⟨⟨v', he, hs⟩, hb⟩ => ⟨v', he, hs, hb⟩
    · intro vals W hW hw hd
      simp [Region.binds] at hd
      refine ⟨by first | rfl | simp [Region.wanted, yielded, hd], ?_⟩
      simp [go_sem]
      exact (T3.out _ _ _ (by simp [hd]) (by simp [hd])).mono fun e w' ⟨⟨v', he, hs⟩, hb⟩ => ⟨v', he, hs, hb⟩
    · intro vals W hW hw hd
      simp [Region.binds] at hd
      refine ⟨by first | rfl | simp [Region.wanted, yielded, hd], ?_⟩
      have kv := Kn.get (s5.out.up hW.out) 1 0 rfl rfl
      simp [go_sem, hd]
      exact (L5.out _ _ g W (by simp [hd]) kv (Sl.up (xs := P.dg M) Sk.out hW.out)).mono fun e w' ⟨he, hb⟩ => ⟨_, he, rfl, hb⟩
    · intro vals W hW hw hd
      simp [Region.binds] at hd
      refine ⟨by first | rfl | simp [Region.wanted, yielded, hd], ?_⟩
      simp [go_sem]
      exact Below.refl _ _
    · intro vals W hW hw hd
      simp [Region.binds] at hd
      have u0 := Kn.get (s5.out.up hW.out) 3 0 rfl rfl
      have u1 := Kn.get (s5.out.up hW.out) 3 1 rfl rfl
      have u2 := Kn.get (s5.out.up hW.out) 3 2 rfl rfl
      have u3 := Kn.get (s5.out.up hW.out) 3 3 rfl rfl
      have u4 := Kn.get (s5.out.up hW.out) 3 4 rfl rfl
      have u5 := Kn.get (s5.out.up hW.out) 3 5 rfl rfl
      have u6 := Kn.get (s5.out.up hW.out) 3 6 rfl rfl
      have u7 := Kn.get (s5.out.up hW.out) 3 7 rfl rfl
      refine ⟨by first | rfl | simp [Region.wanted, yielded, hd], ?_⟩
      simp [go_sem, u0, u1, u2, u3, u4, u5, u6, u7]
      exact Below.refl _ _
    · intro vals W hW hw hd
      simp [Region.binds] at hd
      refine ⟨by first | rfl | simp [Region.wanted, yielded, hd], ?_⟩
      simp [go_sem, hd]
      exact (OW.out _).mono fun e w' ⟨⟨v', he, hs⟩, hb⟩ => ⟨v', he, hs, hb⟩
    · intro vals W hW hw hd
      simp [Region.binds] at hd
      refine ⟨by first | rfl | simp [Region.wanted, yielded, hd], ?_⟩
      have kv := Kn.get (s5.out.up hW.out) 1 0 rfl rfl
      simp [go_sem, hd]
      exact (L6.out _ _ g W (by simp [hd]) kv (Sl.up (xs := P.dg M) Sk.out hW.out)).mono fun e w' ⟨he, hb⟩ => ⟨_, he, rfl, hb⟩
    · intro vals W hW hw hd
      simp [Region.binds] at hd
      refine ⟨by first | rfl | simp [Region.wanted, yielded, hd], ?_⟩
      simp [go_sem, hd, ez]
      exact Below.refl _ _
    · intro vals W hW hw hd
      simp [Region.binds] at hd
      refine ⟨by first | rfl | simp [Region.wanted, yielded, hd], ?_⟩
      simp [go_sem, hd]
      exact Below.refl _ _
    · intro vals W hW hw hd
      simp [Region.binds] at hd
      refine ⟨by first | rfl | simp [Region.wanted, yielded, hd], ?_⟩
      simp [go_sem, hd]
      exact Below.refl _ _
  obtain ⟨f0, f1, f2, f3, f4, f5, f6, f7, f8, f9, f10, f11, f12, f13, f14, f15, f16, f17, f18, f19, f20, f21, f22, f23, f24, f25, f26, f27, f28, f29, f30, f31, f32, f33, f34, f35, f36, f37, f38, f39, f40, f41, f42, _⟩ := hF
  have s6 : Hid (Kn w6 [(w4.heap.size, (c4 (o))), (g, [vals2 1]), (kr, (c16 m iv on tw)), (w.heap.size + 1 + 1 + 1 + 1, (c8 (l) (h))), (w.heap.size + 1 + 1 + 1, (c4 (n))), (w.heap.size + 1 + 1, (c4 (b))), (w.heap.size + 1, (c4 (a))), (w.heap.size, (c4 (m)))]) := s5.out.up hb6.out
  have b6 : Hid (Below w.heap.size w w6) := b5.out.trans (hb6.out.mono b5.out.size)
  have z6 := b6.out.size
  replace Sk : Hid (Sl w6 (vals2 1) (P.dg M)) := Sl.up (xs := (P.dg M)) Sk.out hb6.out
  replace Sx : Hid (Sl w6 (vals2 8) (P.dg A)) := Sl.up (xs := (P.dg A)) Sx.out hb6.out
  replace Sy : Hid (Sl w6 (vals2 9) (P.dg B)) := Sl.up (xs := (P.dg B)) Sy.out hb6.out
  clear hb6 s5 b5
  have e42 := f42
  simp only [MP.eq_p] at e42
  clear f0 f1 f2 f3 f4 f5 f6 f7 f8 f9 f10 f11 f12 f13 f14 f15 f16 f17 f18 f19 f20 f21 f22 f23 f24 f25 f26 f27 f28 f29 f30 f31 f32 f33 f34 f35 f36 f37 f38 f39 f40 f41 f42
  go_wp2_with fail
  go_ret
  exact ⟨by rw [e42]; rfl, b6.out⟩
end Go.Proofs.Ytkgfeacednomfaa
