/- AttrMatch, out of what package attr must keep. -/
import Derived.Test.YtohliojdmmbcdaaQAtK
namespace Go.Proofs.Ytohliojdmmbcdaa
open Go.RowKit
set_option linter.unusedSimpArgs false
set_option maxRecDepth 20000 in
set_option maxHeartbeats 2000000 in
theorem attrMatch_walk (v u z : Value) (l a b : List Ar) (p q r : Bool) (w : World) (H : Hid (Ats w v l)) (I : Hid (Ats w u a)) (J : Hid (Ats w z b)) (ha : a.length ≤ 1048576) (hb : b.length ≤ 1048576) (hr : p = true → r = true → q = true)
    (M0 : ∀ W, Ats W v l → Calls Try.prog 18 #[v, .slice none 0 0] W fun e w' => e = .returned (.bool true) ∧ Below W.heap.size W w')
    (M1 : ∀ s W, Ats W v l → Ats W s (a ++ b) → Calls Try.prog 18 #[v, s] W fun e w' => e = .returned (.bool (p && q)) ∧ Below W.heap.size W w')
    (M2 : ∀ W, Ats W v l → Ats W u a → Calls Try.prog 18 #[v, u] W fun e w' => e = .returned (.bool p) ∧ Below W.heap.size W w')
    (M3 : ∀ W, Ats W v l → Ats W z b → Calls Try.prog 18 #[v, z] W fun e w' => e = .returned (.bool q) ∧ Below W.heap.size W w')
    (M4 : ∀ W, Ats W u a → Ats W z b → Calls Try.prog 18 #[u, z] W fun e w' => e = .returned (.bool r) ∧ Below W.heap.size W w') :
    Calls Try.prog 6 #[v, u, z] w fun e w' => e = .returned (.bool true) ∧ Below w.heap.size w w' := by
  have O0 : Hid (Oa w w.heap.size (.slice none 0 0) []) := Oa.nil _ _
  have A0 : Hid (As w w.heap.size u a) := I.out.as
  have B0 : Hid (As w w.heap.size z b) := J.out.as
  have HL : Hid (a.length ≤ 1048576 ∧ b.length ≤ 1048576) := ⟨ha, hb⟩
  clear ha hb
  go_enter Try.func6, Try.ntmps6
  go_wp2_with (refine wp_appA rfl _ _ rfl w.heap.size _ _ [] a rfl O0.out rfl A0.out (by have := HL.out; simp only [List.length_nil]; omega) (Nat.le_refl _) ?_)
  intro v1 w1 o1 g1
  have b1 : Hid (Below w.heap.size w w1) := Below.grown (Below.refl _ _) g1 (Nat.le_refl _) (fun k hk => by cases hk)
  have O1 : Hid (Oa w1 w.heap.size v1 a) := o1
  have B1 : Hid (As w1 w.heap.size z b) := B0.out.up b1.out
  clear o1 g1 O0 A0 B0
  go_wp2_with (refine wp_appA rfl _ _ rfl w.heap.size _ _ a b rfl O1.out rfl B1.out (by have := HL.out; omega) b1.out.size ?_)
  intro v2 w2 o2 g2
  have b2 : Hid (Below w.heap.size w w2) := Below.grown b1.out g2 b1.out.size (fun k hk => O1.out.ge k hk)
  have V2 : Hid (Ats w2 v2 (a ++ b)) := o2.ats
  clear o2 g2 O1 B1 b1
  go_wp2_with fail
  refine (M0 w2 (H.out.up b2.out (Nat.le_refl _))).mono ?_
  rintro e w3 ⟨rfl, hb⟩
  have b3 : Hid (Below w.heap.size w w3) := b2.out.trans (hb.mono b2.out.size)
  have V3 : Hid (Ats w3 v2 (a ++ b)) := V2.out.up hb (Nat.le_refl _)
  clear hb M0 b2 V2
  go_wp2_with fail
  refine (M1 v2 w3 (H.out.up b3.out (Nat.le_refl _)) V3.out).mono ?_
  rintro e w4 ⟨rfl, hb⟩
  have b4 : Hid (Below w.heap.size w w4) := b3.out.trans (hb.mono b3.out.size)
  clear hb M1 b3 V3
  go_wp2_with fail
  refine (M2 w4 (H.out.up b4.out (Nat.le_refl _)) (I.out.up b4.out (Nat.le_refl _))).mono ?_
  rintro e w5 ⟨rfl, hb⟩
  have b5 : Hid (Below w.heap.size w w5) := b4.out.trans (hb.mono b4.out.size)
  clear hb b4
  cases p with
  | false =>
    clear hr M3 M4
    go_wp2_with fail
    refine (M2 w5 (H.out.up b5.out (Nat.le_refl _)) (I.out.up b5.out (Nat.le_refl _))).mono ?_
    rintro e w6 ⟨rfl, hb⟩
    have b6 : Hid (Below w.heap.size w w6) := b5.out.trans (hb.mono b5.out.size)
    clear hb b5
    go_wp2_with fail
    go_ret
    exact ⟨rfl, b6.out⟩
  | true =>
    replace hr := hr rfl
    go_wp2_with fail
    refine (M3 w5 (H.out.up b5.out (Nat.le_refl _)) (J.out.up b5.out (Nat.le_refl _))).mono ?_
    rintro e w6 ⟨rfl, hb⟩
    have b6 : Hid (Below w.heap.size w w6) := b5.out.trans (hb.mono b5.out.size)
    clear hb b5
    go_wp2_with fail
    refine (M2 w6 (H.out.up b6.out (Nat.le_refl _)) (I.out.up b6.out (Nat.le_refl _))).mono ?_
    rintro e w7 ⟨rfl, hb⟩
    have b7 : Hid (Below w.heap.size w w7) := b6.out.trans (hb.mono b6.out.size)
    clear hb b6
    go_wp2_with fail
    refine (M4 w7 (I.out.up b7.out (Nat.le_refl _)) (J.out.up b7.out (Nat.le_refl _))).mono ?_
    rintro e w8 ⟨rfl, hb⟩
    have b8 : Hid (Below w.heap.size w w8) := b7.out.trans (hb.mono b7.out.size)
    clear hb b7
    cases r with
    | false =>
      clear hr
      go_wp2_with fail
      go_ret
      exact ⟨rfl, b8.out⟩
    | true =>
      obtain rfl := hr rfl
      go_wp2_with fail
      refine (M3 w8 (H.out.up b8.out (Nat.le_refl _)) (J.out.up b8.out (Nat.le_refl _))).mono ?_
      rintro e w9 ⟨rfl, hb⟩
      have b9 : Hid (Below w.heap.size w w9) := b8.out.trans (hb.mono b8.out.size)
      clear hb b8
      go_wp2_with fail
      go_ret
      exact ⟨rfl, b9.out⟩
theorem attrMatch_of (MC : AtMatchC) (v u z : Value) (l a b : List Ar) (ll : lowA l) (la : lowA a) (lb : lowA b) (hl : l.length ≤ 1048576) (ha : a.length ≤ 1048576) (hb : b.length ≤ 1048576) (w : World) (h1 : Ats w v l) (h2 : Ats w u a) (h3 : Ats w z b) :
    Calls Try.prog 6 #[v, u, z] w fun e w' => e = .returned (.bool true) ∧ Below w.heap.size w w' := by
  refine attrMatch_walk v u z l a b (matA l a) (matA l b) (matA a b) w h1 h2 h3 ha hb (fun e1 e2 => matA_trans e1 e2) (fun W h => ?_) (fun s W h hs => ?_) (fun W h hs => MC v u l a W ll la (by omega) (by omega) h hs) (fun W h hs => MC v z l b W ll lb (by omega) (by omega) h hs) (fun W h hs => MC u z a b W la lb (by omega) (by omega) h hs)
  · exact MC v _ l [] W ll (fun x hx => absurd hx List.not_mem_nil) (by omega) (by simp) h (Ats.nil W)
  · rw [← matA_app]
    refine MC v s l (a ++ b) W ll (fun x hx => ?_) (by omega) (by rw [List.length_append]; omega) h hs
    rcases List.mem_append.1 hx with hx | hx
    · exact la x hx
    · exact lb x hx
end Go.Proofs.Ytohliojdmmbcdaa
