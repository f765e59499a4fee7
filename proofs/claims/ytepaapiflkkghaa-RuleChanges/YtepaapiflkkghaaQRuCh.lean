/- RuleChanges, out of what package rule must keep. -/
import Derived.Test.YtepaapiflkkghaaQRuT
import Derived.Test.YtepaapiflkkghaaQRuSeToRuMk
import Derived.Test.YtepaapiflkkghaaQRlK
namespace Go.Proofs.Ytepaapiflkkghaa
open Go.RowKit
attribute [local go_sem] World.cell?_alloc_some cell_alloc2 cell_alloc3 cell_alloc4 frozen?_alloc_cells frozen_out
set_option linter.unusedSimpArgs false
theorem trnA_fun (l t : List Ar) (cp : Bool) (lo : lowA l) (lt : lowA t) (w : World) : Calls Try.prog 19 #[.agg (crdC (trnF l t cp)).toArray] w fun e w' => (∃ v, e = .returned v ∧ Ats w' v (trnL l t cp)) ∧ Below w.heap.size w w' := by
  unfold trnF trnL
  split
  · refine attrs_fun (t ++ l) (fun x hx => ?_) w
    rcases List.mem_append.1 hx with hx | hx
    · exact (lt x hx).2
    · exact (lo x hx).2
  · have h : nonF = crdF [] := crdF_nil.symm
    rw [h]
    exact attrs_fun [] (fun x hx => absurd hx List.not_mem_nil) w
set_option maxRecDepth 20000 in
set_option maxHeartbeats 4000000 in
theorem changes_walk (v u : Value) (l t A1 A2 : List Ar) (E1 E2 : Int) (D1 D2 : Crd) (w : World) (HV : Hid (Ats w v l)) (HU : Hid (Ats w u t))
    (M1 : ∀ W, Ats W v l → Ats W u t → Calls Try.prog 20 #[v, u] W fun e w' => (∃ r, e = .returned (.tuple #[r, .int .i64 E1]) ∧ Ats w' r A1) ∧ Below W.heap.size W w')
    (T1 : ∀ W, Ats W v l → Ats W u t → Calls Try.prog 21 #[v, u, .bool false] W fun e w' => e = .returned (.tuple #[.agg (crdC D1).toArray, .int .i64 E1]) ∧ Below W.heap.size W w')
    (M2 : ∀ W, Ats W v l → Ats W u t → Calls Try.prog 22 #[v, u] W fun e w' => (∃ r, e = .returned (.tuple #[r, .int .i64 E2]) ∧ Ats w' r A2) ∧ Below W.heap.size W w')
    (T2 : ∀ W, Ats W v l → Ats W u t → Calls Try.prog 21 #[v, u, .bool true] W fun e w' => e = .returned (.tuple #[.agg (crdC D2).toArray, .int .i64 E2]) ∧ Below W.heap.size W w')
    (N1 : Hid (∀ W, Calls Try.prog 19 #[.agg (crdC D1).toArray] W fun e w' => (∃ r, e = .returned r ∧ Ats w' r A1) ∧ Below W.heap.size W w'))
    (N2 : Hid (∀ W, Calls Try.prog 19 #[.agg (crdC D2).toArray] W fun e w' => (∃ r, e = .returned r ∧ Ats w' r A2) ∧ Below W.heap.size W w'))
    (S1 : Hid (∀ p q W, Ats W p A1 → Ats W q A1 → Calls Try.prog 18 #[p, q] W fun e w' => e = .returned (.bool true) ∧ Below W.heap.size W w'))
    (S2 : Hid (∀ p q W, Ats W p A2 → Ats W q A2 → Calls Try.prog 18 #[p, q] W fun e w' => e = .returned (.bool true) ∧ Below W.heap.size W w')) :
    Calls Try.prog 4 #[v, u] w fun e w' => e = .returned (.bool true) ∧ Below w.heap.size w w' := by
  have G1 := M1 w HV.out HU.out
  clear M1
  go_enter Try.func4, Try.ntmps4
  go_wp2_with fail
  refine G1.mono ?_
  rintro e w1 ⟨⟨r1, rfl, h1⟩, hb⟩
  have b1 : Hid (Below w.heap.size w w1) := hb
  have R1 : Hid (Ats w1 r1 A1) := h1
  have G2 := T1 w1 (HV.out.up b1.out (Nat.le_refl _)) (HU.out.up b1.out (Nat.le_refl _))
  clear hb h1 G1 T1
  go_wp2_with fail
  refine G2.mono ?_
  rintro e w2 ⟨rfl, hb⟩
  have b2 : Hid (Below w.heap.size w w2) := b1.out.trans (hb.mono b1.out.size)
  have R2 : Hid (Ats w2 r1 A1) := R1.out.up hb (Nat.le_refl _)
  have s2 : Hid (Kn w2 []) := Kn.nil w2
  clear hb b1 R1 G2
  have bs : Hid (Below w.heap.size w (w2.alloc (.cells (crdC fun _ => none).toArray 31))) := b2.out.alloc b2.out.size _
  have ss : Hid (Kn (w2.alloc (.cells (crdC fun _ => none).toArray 31)) ((w2.heap.size, crdC fun _ => none) :: ([]))) := s2.out.al (crdC fun _ => none) 31 rfl
  have TT : Hid ((w2.alloc (.cells (crdC fun _ => none).toArray 31)).there w2.heap.size 0 (crdC D1).length) := Kn.there ss.out 0 rfl (by simp [crdC_length])
  have zz : Hid (w.heap.size ≤ w2.heap.size) := b2.out.size
  clear b2 s2
  go_wp2_with (first | simp only [zero_card] | refine I.wp_store_eq rfl 31 _ _ rfl w2.heap.size 0 (crdC D1) rfl rfl TT.out (info_card _) (one_crd _) ?_)
  intro w3 hw
  have s3 : Hid (Kn w3 ((w2.heap.size, crdC D1) :: ([]))) := by
    rw [hw.out]
    exact Kn.put ss.out (by simp [crdC_length])
  have b3 : Hid (Below w.heap.size w w3) := by
    rw [hw.out]
    exact I.below_setCells _ _ _ bs.out zz.out
  have c3 : Hid (Below w2.heap.size w2 w3) := by
    rw [hw.out]
    exact I.below_setCells _ _ _ ((Below.refl _ _).alloc (Nat.le_refl _) _) (Nat.le_refl _)
  clear hw bs ss TT zz
  have R3 : Hid (Ats w3 r1 A1) := R2.out.up c3.out (Nat.le_refl _)
  have G3 := M2 w3 (HV.out.up b3.out (Nat.le_refl _)) (HU.out.up b3.out (Nat.le_refl _))
  generalize w2.heap.size = h1 at s3 ⊢
  clear c3 R2 M2
  go_wp2_with fail
  refine G3.mono ?_
  rintro e w4 ⟨⟨r2, rfl, h2⟩, hb⟩
  have b4 : Hid (Below w.heap.size w w4) := b3.out.trans (hb.mono b3.out.size)
  have R4 : Hid (Ats w4 r1 A1) := R3.out.up hb (Nat.le_refl _)
  have Q4 : Hid (Ats w4 r2 A2) := h2
  have s4 : Hid (Kn w4 [(h1, crdC D1)]) := s3.out.up hb
  have G4 := T2 w4 (HV.out.up b4.out (Nat.le_refl _)) (HU.out.up b4.out (Nat.le_refl _))
  clear hb b3 R3 s3 G3 h2 T2
  go_wp2_with fail
  refine G4.mono ?_
  rintro e w5 ⟨rfl, hb⟩
  have b5 : Hid (Below w.heap.size w w5) := b4.out.trans (hb.mono b4.out.size)
  have R5 : Hid (Ats w5 r1 A1) := R4.out.up hb (Nat.le_refl _)
  have Q5 : Hid (Ats w5 r2 A2) := Q4.out.up hb (Nat.le_refl _)
  have s5 : Hid (Kn w5 [(h1, crdC D1)]) := s4.out.up hb
  clear hb b4 R4 Q4 s4 G4
  have bs : Hid (Below w.heap.size w (w5.alloc (.cells (crdC fun _ => none).toArray 31))) := b5.out.alloc b5.out.size _
  have ss : Hid (Kn (w5.alloc (.cells (crdC fun _ => none).toArray 31)) ((w5.heap.size, crdC fun _ => none) :: ([(h1, crdC D1)]))) := s5.out.al (crdC fun _ => none) 31 rfl
  have TT : Hid ((w5.alloc (.cells (crdC fun _ => none).toArray 31)).there w5.heap.size 0 (crdC D2).length) := Kn.there ss.out 0 rfl (by simp [crdC_length])
  have zz : Hid (w.heap.size ≤ w5.heap.size) := b5.out.size
  clear b5 s5
  go_wp2_with (first | simp only [zero_card] | refine I.wp_store_eq rfl 31 _ _ rfl w5.heap.size 0 (crdC D2) rfl rfl TT.out (info_card _) (one_crd _) ?_)
  intro w6 hw
  have s6 : Hid (Kn w6 ((w5.heap.size, crdC D2) :: ([(h1, crdC D1)]))) := by
    rw [hw.out]
    exact Kn.put ss.out (by simp [crdC_length])
  have b6 : Hid (Below w.heap.size w w6) := by
    rw [hw.out]
    exact I.below_setCells _ _ _ bs.out zz.out
  have c6 : Hid (Below w5.heap.size w5 w6) := by
    rw [hw.out]
    exact I.below_setCells _ _ _ ((Below.refl _ _).alloc (Nat.le_refl _) _) (Nat.le_refl _)
  clear hw bs ss TT zz
  have R6 : Hid (Ats w6 r1 A1) := R5.out.up c6.out (Nat.le_refl _)
  have Q6 : Hid (Ats w6 r2 A2) := Q5.out.up c6.out (Nat.le_refl _)
  generalize w5.heap.size = h2 at s6 ⊢
  clear c6 R5 Q5
  go_wp2_with (first | refine wp_ldW rfl 31 _ rfl h1 0 rfl (crdC D1) _ (Kn.rng s6.out 1 rfl) u_card rfl (info_card _) ?_ | fail)
  refine (N1.out _).mono ?_
  rintro e w7 ⟨⟨p1, rfl, hp⟩, hb⟩
  have b7 : Hid (Below w.heap.size w w7) := b6.out.trans (hb.mono b6.out.size)
  have Q7 : Hid (Ats w7 r2 A2) := Q6.out.up hb (Nat.le_refl _)
  have s7 : Hid (Kn w7 [(h2, crdC D2), (h1, crdC D1)]) := s6.out.up hb
  have S7 := S1.out r1 p1 w7 (R6.out.up hb (Nat.le_refl _)) hp
  clear hb b6 R6 Q6 s6 hp N1 S1
  go_wp2_with fail
  refine S7.mono ?_
  rintro e w8 ⟨rfl, hb⟩
  have b8 : Hid (Below w.heap.size w w8) := b7.out.trans (hb.mono b7.out.size)
  have Q8 : Hid (Ats w8 r2 A2) := Q7.out.up hb (Nat.le_refl _)
  have s8 : Hid (Kn w8 [(h2, crdC D2), (h1, crdC D1)]) := s7.out.up hb
  clear hb b7 Q7 s7 S7
  go_wp2_with (first | refine wp_ldW rfl 31 _ rfl h2 0 rfl (crdC D2) _ (Kn.rng s8.out 0 rfl) u_card rfl (info_card _) ?_ | fail)
  refine (N2.out _).mono ?_
  rintro e w9 ⟨⟨p2, rfl, hp⟩, hb⟩
  have b9 : Hid (Below w.heap.size w w9) := b8.out.trans (hb.mono b8.out.size)
  have S9 := S2.out r2 p2 w9 (Q8.out.up hb (Nat.le_refl _)) hp
  clear hb b8 Q8 s8 hp N2 S2
  go_wp2_with fail
  refine S9.mono ?_
  rintro e wa ⟨rfl, hb⟩
  have ba : Hid (Below w.heap.size w wa) := b9.out.trans (hb.mono b9.out.size)
  clear hb b9 S9
  go_wp2_with fail
  go_ret
  exact ⟨rfl, ba.out⟩
/-- RuleChanges. -/
theorem ruleChanges_of (CC : RlChangeC) (PC : RlCopyC) (l : List Ar) (ll : lowA l) (hl : l.length ≤ 140737488351232) (zl : zedA l) (t : List Ar) (lt : lowA t) (ht : t.length ≤ 140737488351232) (zt : zedA t) (w : World) {v u : Value} (h1 : Ats w v l) (h2 : Ats w u t) :
    Calls Try.prog 4 #[v, u] w fun e w' => e = .returned (.bool true) ∧ Below w.heap.size w w' := by
  have lo : ∀ x ∈ l, lowB x.v := fun x hx => (ll x hx).2
  have to_ : ∀ x ∈ t, lowB x.v := fun x hx => (lt x hx).2
  have sm : ∀ cp p q W, Ats W p (trnL l t cp) → Ats W q (trnL l t cp) → Calls Try.prog 18 #[p, q] W fun e w' => e = .returned (.bool true) ∧ Below W.heap.size W w' := fun cp p q W hp hq => by
    have low : ∀ x ∈ trnL l t cp, lowB x.v := fun x hx => (trnL_low ll lt x hx).2
    exact (sameR_fun _ _ (by have := trnL_len l t cp; omega) low low p q W hp hq).mono fun e w' ⟨⟨s, he, hs⟩, hb⟩ => ⟨by rw [he, hs.2 rfl], hb⟩
  exact changes_walk v u l t (trnL l t false) (trnL l t true) _ _ (trnF l t false) (trnF l t true) w h1 h2
    (fun W p q => CC v u l t W ll lt (by omega) zl (by omega) zt p q) (fun W p q => turned_fun l t false (by omega) lo to_ v u W p q)
    (fun W p q => PC v u l t W ll lt (by omega) zl (by omega) zt p q) (fun W p q => turned_fun l t true (by omega) lo to_ v u W p q)
    (fun W => trnA_fun l t false ll lt W) (fun W => trnA_fun l t true ll lt W) (sm false) (sm true)
end Go.Proofs.Ytepaapiflkkghaa
