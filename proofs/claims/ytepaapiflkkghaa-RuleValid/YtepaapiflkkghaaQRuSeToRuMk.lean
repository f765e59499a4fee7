/- Texts that were joined: RuSe, RuMk. -/
import Derived.Test.YtepaapiflkkghaaQAtFfToRuC
import Derived.Test.YtepaapiflkkghaaQRlK
import Derived.Test.YtepaapiflkkghaaQAtFt
import Derived.Test.YtepaapiflkkghaaQRuGToRuI
/- RuleSees, out of what package rule must keep. -/
namespace Go.Proofs.Ytepaapiflkkghaa
open Go.RowKit
attribute [local go_sem] World.cell?_alloc_some cell_alloc2 cell_alloc3 cell_alloc4 frozen?_alloc_cells frozen_out
set_option linter.unusedSimpArgs false
set_option maxRecDepth 20000 in
set_option maxHeartbeats 4000000 in
theorem sees_walk (l : List Ar) (v : Value) (k : Int) (s : ByteArray) (ok hid one : Bool) (E m : Int) (X : List Nat) (w : World) (V3 : Hid (Ats w v l))
    (h1 : Hid ((s.toList == [1]) = one)) (hX : Hid (X = [] ∧ E ≠ 0 ∨ sOf X = s ∧ E = 0)) (e0 : ok = false → E = 13 ∧ m = 13) (e1 : ok = true → E = if k = 4 ∧ hid = true then 12 else 0) (m1 : ok = true → m = if k < 13 ∨ 18 < k then 13 else if one = true then 0 else 12)
    (S1 : Calls Try.prog 23 #[v, .int .i64 k] w fun e w' => (∃ u, e = .returned (.tuple #[u, .int .i64 E]) ∧ By w' u X) ∧ Below w.heap.size w w')
    (F1 : ∀ W, Ats W v l → Calls Try.prog 24 #[v, .int .i64 k] W fun e w' => e = .returned (.tuple #[.string s, .bool ok]) ∧ Below W.heap.size W w')
    (H1 : ∀ W, Ats W v l → Calls Try.prog 17 #[v] W fun e w' => e = .returned (.bool hid) ∧ Below W.heap.size W w')
    (M1 : ∀ W, Ats W v l → Calls Try.prog 25 #[v, .int .i64 k] W fun e w' => e = .returned (.int .i64 m) ∧ Below W.heap.size W w') :
    Calls Try.prog 5 #[v, .int .i64 k] w fun e w' => e = .returned (.bool true) ∧ Below w.heap.size w w' := by
  go_enter Try.func5, Try.ntmps5
  go_wp2_with fail
  refine S1.mono ?_
  rintro e w1 ⟨⟨u, rfl, hu⟩, hb⟩
  have b1 : Hid (Below w.heap.size w w1) := hb
  have U1 : Hid (By w1 u X) := hu
  have F2 := F1 w1 (V3.out.up hb (Nat.le_refl _))
  clear hb hu S1 F1
  go_wp2_with fail
  refine F2.mono ?_
  rintro e w2 ⟨rfl, hb⟩
  have b3 : Hid (Below w.heap.size w w2) := b1.out.trans (hb.mono b1.out.size)
  have U3 : Hid (By w2 u X) := U1.out.up hb (Nat.le_refl _)
  clear hb b1 U1 F2
  cases ok with
  | false =>
    obtain ⟨rfl, rfl⟩ := e0 rfl
    obtain rfl : X = [] := by
      rcases hX.out with ⟨h, _⟩ | ⟨_, h⟩
      · exact h
      · exact absurd h (by decide)
    have hq : ((sOf []).toList == []) = true := by simp [sOf]
    clear e1 m1 e0 H1 h1 hX
    go_wp2_with (first | refine wp_convG rfl _ rfl _ [] rfl U3.out ?_ | fail)
    refine (M1 _ (V3.out.up b3.out (Nat.le_refl _))).mono ?_
    rintro e w4 ⟨rfl, hb⟩
    have b4 : Hid (Below w.heap.size w w4) := b3.out.trans (hb.mono b3.out.size)
    clear hb b3
    go_wp2_with fail
    go_ret
    exact ⟨rfl, b4.out⟩
  | true =>
    have e2 := e1 rfl
    have m2 := m1 rfl
    clear e0 e1 m1
    by_cases k4 : k = 4
    · subst k4
      rw [if_pos (.inl (by decide))] at m2
      subst m2
      clear h1
      cases hid with
      | true =>
        rw [if_pos ⟨rfl, rfl⟩] at e2
        subst e2
        obtain rfl : X = [] := by
          rcases hX.out with ⟨h, _⟩ | ⟨_, h⟩
          · exact h
          · exact absurd h (by decide)
        have hq : ((sOf []).toList == []) = true := by simp [sOf]
        clear hX
        go_wp2_with fail
        refine (H1 _ (V3.out.up b3.out (Nat.le_refl _))).mono ?_
        rintro e wy ⟨rfl, hb⟩
        have b4 : Hid (Below w.heap.size w wy) := b3.out.trans (hb.mono b3.out.size)
        have U4 : Hid (By wy u []) := U3.out.up hb (Nat.le_refl _)
        clear hb b3 U3 H1
        have b3 := b4
        have U3 := U4
        clear b4 U4
        go_wp2_with (first | refine wp_convG rfl _ rfl _ [] rfl U3.out ?_ | fail)
        refine (M1 _ (V3.out.up b3.out (Nat.le_refl _))).mono ?_
        rintro e w4 ⟨rfl, hb⟩
        have b4 : Hid (Below w.heap.size w w4) := b3.out.trans (hb.mono b3.out.size)
        clear hb b3
        go_wp2_with fail
        go_ret
        exact ⟨rfl, b4.out⟩
      | false =>
        rw [if_neg (fun h => by cases h.2)] at e2
        subst e2
        have hs : sOf X = s := by
          rcases hX.out with ⟨_, h⟩ | ⟨h, _⟩
          · exact absurd rfl h
          · exact h
        have hq : ((sOf X).toList == s.toList) = true := by rw [hs]; exact beq_self_eq_true _
        clear hX hs
        go_wp2_with fail
        refine (H1 _ (V3.out.up b3.out (Nat.le_refl _))).mono ?_
        rintro e wy ⟨rfl, hb⟩
        have b4 : Hid (Below w.heap.size w wy) := b3.out.trans (hb.mono b3.out.size)
        have U4 : Hid (By wy u X) := U3.out.up hb (Nat.le_refl _)
        clear hb b3 U3 H1
        have b3 := b4
        have U3 := U4
        clear b4 U4
        go_wp2_with (first | refine wp_convG rfl _ rfl _ X rfl U3.out ?_ | fail)
        refine (M1 _ (V3.out.up b3.out (Nat.le_refl _))).mono ?_
        rintro e w4 ⟨rfl, hb⟩
        have b4 : Hid (Below w.heap.size w w4) := b3.out.trans (hb.mono b3.out.size)
        clear hb b3
        go_wp2_with fail
        go_ret
        exact ⟨rfl, b4.out⟩
    have q4 : (k == 4) = false := beq_eq_false_iff_ne.2 k4
    rw [if_neg (fun h => k4 h.1)] at e2
    subst e2
    have hs : sOf X = s := by
      rcases hX.out with ⟨_, h⟩ | ⟨h, _⟩
      · exact absurd rfl h
      · exact h
    have hq : ((sOf X).toList == s.toList) = true := by rw [hs]; exact beq_self_eq_true _
    clear hX hs k4 H1
    by_cases k1 : k < 13
    · rw [if_pos (.inl k1)] at m2
      subst m2
      clear h1
      go_wp2_with (first | refine wp_convG rfl _ rfl _ X rfl U3.out ?_ | fail)
      refine (M1 _ (V3.out.up b3.out (Nat.le_refl _))).mono ?_
      rintro e w4 ⟨rfl, hb⟩
      have b4 : Hid (Below w.heap.size w w4) := b3.out.trans (hb.mono b3.out.size)
      clear hb b3
      go_wp2_with fail
      go_ret
      exact ⟨rfl, b4.out⟩
    by_cases k2 : k > 18
    · rw [if_pos (.inr k2)] at m2
      subst m2
      clear h1
      go_wp2_with (first | refine wp_convG rfl _ rfl _ X rfl U3.out ?_ | fail)
      refine (M1 _ (V3.out.up b3.out (Nat.le_refl _))).mono ?_
      rintro e w4 ⟨rfl, hb⟩
      have b4 : Hid (Below w.heap.size w w4) := b3.out.trans (hb.mono b3.out.size)
      clear hb b3
      go_wp2_with fail
      go_ret
      exact ⟨rfl, b4.out⟩
    rw [if_neg (fun h => h.elim k1 k2)] at m2
    have h2 := h1.out
    clear h1
    cases one with
    | true =>
      rw [if_pos rfl] at m2
      subst m2
      have h3 : (s.toList != [1]) = false := by rw [bne, h2]; rfl
      go_wp2_with (first | refine wp_convG rfl _ rfl _ X rfl U3.out ?_ | fail)
      refine (M1 _ (V3.out.up b3.out (Nat.le_refl _))).mono ?_
      rintro e w4 ⟨rfl, hb⟩
      have b4 : Hid (Below w.heap.size w w4) := b3.out.trans (hb.mono b3.out.size)
      clear hb b3
      go_wp2_with fail
      go_ret
      exact ⟨rfl, b4.out⟩
    | false =>
      rw [if_neg (by decide)] at m2
      subst m2
      have h3 : (s.toList != [1]) = true := by rw [bne, h2]; rfl
      go_wp2_with (first | refine wp_convG rfl _ rfl _ X rfl U3.out ?_ | fail)
      refine (M1 _ (V3.out.up b3.out (Nat.le_refl _))).mono ?_
      rintro e w4 ⟨rfl, hb⟩
      have b4 : Hid (Below w.heap.size w w4) := b3.out.trans (hb.mono b3.out.size)
      clear hb b3
      go_wp2_with fail
      go_ret
      exact ⟨rfl, b4.out⟩
/-- RuleSees. -/
theorem ruleSees_of (SC : RlSeeC) (MC : RlMayC) (l : List Ar) (ll : ∀ x ∈ l, x.ok) (hl : l.length ≤ 140737488351232) (zl : zedA l) (k : Int) (hk : -9223372036854775808 ≤ k ∧ k ≤ 9223372036854775807) (w : World) {v : Value} (h : Ats w v l) :
    Calls Try.prog 5 #[v, .int .i64 k] w fun e w' => e = .returned (.bool true) ∧ Below w.heap.size w w' := by
  have lo : ∀ x ∈ l, lowB x.v := fun x hx => (ll x hx).2
  have low : lowB ((getA l k).getD []) := by
    cases hg : getA l k with
    | none => exact fun y hy => absurd hy List.not_mem_nil
    | some t =>
      obtain ⟨x, hx, _, rfl⟩ := getA_mem hg
      exact lo x hx
  have one : lowB [1] := fun y hy => by
    obtain rfl := List.mem_singleton.1 hy
    decide
  have h1 := sOf_beq low one
  rw [show (sOf [1]).toList = [1] from by simp [sOf]] at h1
  refine sees_walk l v k _ (getA l k).isSome (hidA l) _ ((seeE l k : Nat) : Int) ((mayE l k : Nat) : Int) (if seeE l k = 0 then (getA l k).getD [] else []) w h h1 ?_ (fun hn => ?_) (fun hn => ?_) (fun hn => ?_) (SC v l k w ll (by omega) zl hk.1 hk.2 h) (fun W hW => firstOf_fun l (by omega) k v W hW) (fun W hW => veiledR_fun l (by omega) lo v W hW) (fun W hW => MC v l k W ll (by omega) zl hk.1 hk.2 hW)
  · by_cases h0 : seeE l k = 0
    · rw [if_pos h0, h0]
      exact .inr ⟨rfl, rfl⟩
    · rw [if_neg h0]
      exact .inl ⟨rfl, by omega⟩
  · have hg : getA l k = none := by cases hg : getA l k with | none => rfl | some y => rw [hg] at hn; cases hn
    unfold seeE mayE
    rw [if_pos hg, if_pos hg]
    exact ⟨rfl, rfl⟩
  · have hg : ¬ getA l k = none := fun e => by rw [e] at hn; cases hn
    unfold seeE
    rw [if_neg hg]
    split <;> rfl
  · have hg : ¬ getA l k = none := fun e => by rw [e] at hn; cases hn
    unfold mayE
    rw [if_neg hg]
    by_cases hk : k < 13 ∨ 18 < k
    · rw [if_pos hk, if_pos hk]
      rfl
    · rw [if_neg hk, if_neg hk]
      by_cases h1 : (getA l k).getD [] = [1]
      · rw [if_pos h1, if_pos (decide_eq_true h1)]
        rfl
      · rw [if_neg h1, if_neg (fun h => h1 (of_decide_eq_true h))]
        rfl
end Go.Proofs.Ytepaapiflkkghaa

/- RuleMakes, out of what package rule must keep. -/
namespace Go.Proofs.Ytepaapiflkkghaa
open Go.RowKit
attribute [local go_sem] World.cell?_alloc_some cell_alloc2 cell_alloc3 cell_alloc4 frozen?_alloc_cells frozen_out
set_option linter.unusedSimpArgs false
def RlKindsC : Prop := ∀ (c : Nat) (w : World), c < 256 → Calls Try.prog 13 #[.int .u8 (c : Int)] w fun e w' => (∃ u, e = .returned u ∧ Ki w' u (kndN c 18)) ∧ Below w.heap.size w w'
theorem madA_fun (t : List Ar) (b : Bool) (lo : ∀ x ∈ t, lowB x.v) (w : World) : Calls Try.prog 19 #[.agg (crdC (madF t b)).toArray] w fun e w' => (∃ v, e = .returned v ∧ Ats w' v (madL t b)) ∧ Below w.heap.size w w' :=
  (attrs_walk (madF t b) (madF_low lo) w).mono fun _ _ ⟨⟨v, he, ho⟩, hb⟩ => ⟨⟨v, he, ho.ats⟩, hb⟩
set_option maxRecDepth 20000 in
set_option maxHeartbeats 4000000 in
theorem makes_walk (c : Nat) (hc : c < 256) (v : Value) (l A : List Ar) (lb va hi : Bool) (E : Int) (D : Crd) (w : World) (HV : Hid (Ats w v l))
    (K1 : ∀ W, Calls Try.prog 13 #[.int .u8 (c : Int)] W fun e w' => (∃ u, e = .returned u ∧ Ki w' u (kndN c 18)) ∧ Below W.heap.size W w')
    (M1 : ∀ W, Ats W v l → Calls Try.prog 10 #[v, .bool lb] W fun e w' => (∃ r, e = .returned (.tuple #[r, .int .i64 E]) ∧ Ats w' r A) ∧ Below W.heap.size W w')
    (M2 : ∀ W, Ats W v l → Calls Try.prog 11 #[v, .bool lb] W fun e w' => e = .returned (.tuple #[.agg (crdC D).toArray, .int .i64 E]) ∧ Below W.heap.size W w')
    (V1 : ∀ W, Ats W v l → Calls Try.prog 14 #[v] W fun e w' => e = .returned (.bool va) ∧ Below W.heap.size W w')
    (V2 : ∀ W, Ats W v l → Calls Try.prog 15 #[v] W fun e w' => e = .returned (.bool va) ∧ Below W.heap.size W w')
    (H1 : ∀ W, Ats W v l → Calls Try.prog 16 #[v] W fun e w' => e = .returned (.bool hi) ∧ Below W.heap.size W w')
    (H2 : ∀ W, Ats W v l → Calls Try.prog 17 #[v] W fun e w' => e = .returned (.bool hi) ∧ Below W.heap.size W w')
    (N1 : ∀ W, Calls Try.prog 19 #[.agg (crdC D).toArray] W fun e w' => (∃ r, e = .returned r ∧ Ats w' r A) ∧ Below W.heap.size W w')
    (S1 : ∀ p q W, Ats W p A → Ats W q A → Calls Try.prog 18 #[p, q] W fun e w' => e = .returned (.bool true) ∧ Below W.heap.size W w') :
    Calls Try.prog 3 #[.int .u8 (c : Int), v, .bool lb] w fun e w' => e = .returned (.bool true) ∧ Below w.heap.size w w' := by
  have HC : Hid (c < 256) := hc
  have wc : IntKind.i64.wrap (c : Int) = (c : Int) := by rw [IntKind.wrap_i64]; omega
  have o0 : Hid (Ko w w.heap.size (.slice none 0 0) (kndN c 0)) := Ko.nil _ _
  clear hc
  go_enter Try.func3, Try.ntmps3
  go_wp2_with fail
  go_loopw [7, 8] (fun u i wr => ∃ j : Nat, j ≤ 18 ∧ i = .int .i64 ((j : Int) + 1) ∧ Hid (Ko wr w.heap.size u (kndN c j)) ∧ Hid (Below w.heap.size w wr)) (fun _ i _ => 20 - (intOf i).toNat)
  case atStart => exact ⟨0, Nat.zero_le _, rfl, o0, Below.refl _ _⟩
  case round =>
    clear o0
    obtain ⟨j, hj, rfl, ok, bk⟩ := hrel
    by_cases hlt : j < 18
    · have i1 : (j : Int) + 1 ≤ 18 := by omega
      have HJ : Hid (j < 18) := hlt
      have ec : ((j + 1 : Nat) : Int) = (j : Int) + 1 := rfl
      obtain ⟨bz, hbz⟩ : ∃ b, Hid (belB c (j + 1) = b) := ⟨_, rfl⟩
      have BE := fun W => belongs_fun c (j + 1) (by omega) W
      rw [hbz.out, ec] at BE
      clear hlt hj
      go_wp2_with fail
      refine (BE _).mono ?_
      rintro e w6 ⟨rfl, hb⟩
      have b6 : Hid (Below w.heap.size w w6) := bk.out.trans (hb.mono bk.out.size)
      have o6 : Hid (Ko w6 w.heap.size u7 (kndN c j)) := ok.out.up hb
      clear hb bk ok BE
      cases bz with
      | false =>
        have o7 : Hid (Ko w6 w.heap.size u7 (kndN c (j + 1))) := by
          show Ko _ _ _ _
          rw [kndN, hbz.out, if_neg (by decide), List.append_nil]
          exact o6.out
        clear o6 hbz ec
        go_wp2_with fail
        go_roundw
        case rel => exact ⟨j + 1, HJ.out, by first | rfl | go_num, o7, b6⟩
        case measure => simp [intOf]; have := HJ.out; omega
      | true =>
        have ek : Hid (kndN c (j + 1) = kndN c j ++ [j + 1]) := by
          show _ = _
          rw [kndN, hbz.out, if_pos rfl]
        have ba : Below w6.heap.size w6 (w6.alloc (.cells #[.int .i64 ((j : Int) + 1)] 3)) := (Below.refl _ _).alloc (Nat.le_refl _) _
        have oa : Hid (Ko (w6.alloc (.cells #[.int .i64 ((j : Int) + 1)] 3)) w.heap.size u7 (kndN c j)) := o6.out.up ba
        have bb : Hid (Below w.heap.size w (w6.alloc (.cells #[.int .i64 ((j : Int) + 1)] 3))) := b6.out.trans (ba.mono b6.out.size)
        have cy : Hid ((w6.alloc (.cells #[.int .i64 ((j : Int) + 1)] 3)).cell? ⟨w6.heap.size, 0, none⟩ = some (dK (j + 1))) := Kn.get ((Kn.nil w6).al [.int .i64 ((j : Int) + 1)] 3 rfl) 0 0 rfl rfl
        clear o6 b6 ba hbz ec
        go_wp2_with (refine wp_appK rfl _ _ rfl w.heap.size _ (kndN c j) w6.heap.size (j + 1) rfl oa.out rfl cy.out (by have := kndN_len c j; have := HJ.out; omega) bb.out.size ?_)
        intro v7 w7 ho hg
        have b7 : Hid (Below w.heap.size w w7) := Below.grown bb.out hg bb.out.size fun g hg => (World.ownsRow.lt oa.out g hg).1
        have o7 : Hid (Ko w7 w.heap.size v7 (kndN c (j + 1))) := by
          show Ko _ _ _ _
          rw [ek.out]
          exact ho
        clear ho hg oa bb cy ek
        go_wp2_with fail
        go_roundw
        case rel => exact ⟨j + 1, HJ.out, by first | rfl | go_num, o7, b7⟩
        case measure => simp [intOf]; have := HJ.out; omega
    · have i1 : ¬ (j : Int) + 1 ≤ 18 := by omega
      obtain rfl : j = 18 := by omega
      have G1 := M1 wr (HV.out.up bk.out (Nat.le_refl _))
      have KI : Hid (Ki wr u7 (kndN c 18)) := ok.out.ki
      clear hlt hj M1 ok wc
      go_wp2_with fail
      refine G1.mono ?_
      rintro e w1 ⟨⟨r1, rfl, h1⟩, hb⟩
      have b1 : Hid (Below w.heap.size w w1) := bk.out.trans (hb.mono bk.out.size)
      have R1 : Hid (Ats w1 r1 A) := h1
      have K2 : Hid (Ki w1 u7 (kndN c 18)) := KI.out.up hb
      have G2 := M2 w1 (HV.out.up b1.out (Nat.le_refl _))
      clear hb h1 G1 M2 bk KI
      go_wp2_with fail
      refine G2.mono ?_
      rintro e w2 ⟨rfl, hb⟩
      have b2 : Hid (Below w.heap.size w w2) := b1.out.trans (hb.mono b1.out.size)
      have R2 : Hid (Ats w2 r1 A) := R1.out.up hb (Nat.le_refl _)
      have K3 : Hid (Ki w2 u7 (kndN c 18)) := K2.out.up hb
      have s2 : Hid (Kn w2 []) := Kn.nil w2
      clear hb b1 R1 G2 K2
      have bs : Hid (Below w.heap.size w (w2.alloc (.cells (crdC fun _ => none).toArray 31))) := b2.out.alloc b2.out.size _
      have ss : Hid (Kn (w2.alloc (.cells (crdC fun _ => none).toArray 31)) ((w2.heap.size, crdC fun _ => none) :: ([]))) := s2.out.al (crdC fun _ => none) 31 rfl
      have TT : Hid ((w2.alloc (.cells (crdC fun _ => none).toArray 31)).there w2.heap.size 0 (crdC D).length) := Kn.there ss.out 0 rfl (by simp [crdC_length])
      have zz : Hid (w.heap.size ≤ w2.heap.size) := b2.out.size
      clear b2 s2
      go_wp2_with (first | simp only [zero_card] | refine I.wp_store_eq rfl 31 _ _ rfl w2.heap.size 0 (crdC D) rfl rfl TT.out (info_card _) (one_crd _) ?_)
      intro w3 hw
      have s3 : Hid (Kn w3 ((w2.heap.size, crdC D) :: ([]))) := by
        rw [hw.out]
        exact Kn.put ss.out (by simp [crdC_length])
      have b3 : Hid (Below w.heap.size w w3) := by
        rw [hw.out]
        exact I.below_setCells _ _ _ bs.out zz.out
      have c3 : Hid (Below w2.heap.size w2 w3) := by
        rw [hw.out]
        exact I.below_setCells _ _ _ ((Below.refl _ _).alloc (Nat.le_refl _) _) (Nat.le_refl _)
      clear hw bs ss TT zz
      have R3 : Hid (Ats w3 r1 A) := R2.out.up c3.out (Nat.le_refl _)
      have K4 : Hid (Ki w3 u7 (kndN c 18)) := K3.out.up c3.out
      generalize w2.heap.size = h1 at s3 ⊢
      clear c3 R2 K3
      go_wp2_with fail
      refine (K1 w3).mono ?_
      rintro e w4 ⟨⟨k4, rfl, hk⟩, hb⟩
      have b4 : Hid (Below w.heap.size w w4) := b3.out.trans (hb.mono b3.out.size)
      have R4 : Hid (Ats w4 r1 A) := R3.out.up hb (Nat.le_refl _)
      have s4 : Hid (Kn w4 [(h1, crdC D)]) := s3.out.up hb
      have Q4 := equalK_fun (kndN c 18) (by have := kndN_len c 18; omega) k4 u7 w4 hk (K4.out.up hb)
      clear hb b3 R3 s3 hk K4 K1
      go_wp2_with fail
      refine Q4.mono ?_
      rintro e w5 ⟨rfl, hb⟩
      have bk : Hid (Below w.heap.size w w5) := b4.out.trans (hb.mono b4.out.size)
      have rk : Hid (Ats w5 r1 A) := R4.out.up hb (Nat.le_refl _)
      have sk : Hid (Kn w5 [(h1, crdC D)]) := s4.out.up hb
      clear hb b4 R4 s4 Q4
      go_wp2_with fail
      refine (V1 _ (HV.out.up bk.out (Nat.le_refl _))).mono ?_
      rintro e wa ⟨rfl, hb⟩
      have bn : Hid (Below w.heap.size w wa) := bk.out.trans (hb.mono bk.out.size)
      have rn : Hid (Ats wa r1 A) := rk.out.up hb (Nat.le_refl _)
      have sn : Hid (Kn wa [(h1, crdC D)]) := sk.out.up hb
      clear hb bk rk sk V1
      have bk := bn
      have rk := rn
      have sk := sn
      clear bn rn sn
      go_wp2_with fail
      refine (V2 _ (HV.out.up bk.out (Nat.le_refl _))).mono ?_
      rintro e wb ⟨rfl, hb⟩
      have bn : Hid (Below w.heap.size w wb) := bk.out.trans (hb.mono bk.out.size)
      have rn : Hid (Ats wb r1 A) := rk.out.up hb (Nat.le_refl _)
      have sn : Hid (Kn wb [(h1, crdC D)]) := sk.out.up hb
      clear hb bk rk sk V2
      have bk := bn
      have rk := rn
      have sk := sn
      clear bn rn sn
      have ee : (va == va) = true := beq_self_eq_true va
      go_wp2_with fail
      refine (H1 _ (HV.out.up bk.out (Nat.le_refl _))).mono ?_
      rintro e wc ⟨rfl, hb⟩
      have bn : Hid (Below w.heap.size w wc) := bk.out.trans (hb.mono bk.out.size)
      have rn : Hid (Ats wc r1 A) := rk.out.up hb (Nat.le_refl _)
      have sn : Hid (Kn wc [(h1, crdC D)]) := sk.out.up hb
      clear hb bk rk sk H1
      have bk := bn
      have rk := rn
      have sk := sn
      clear bn rn sn
      go_wp2_with fail
      refine (H2 _ (HV.out.up bk.out (Nat.le_refl _))).mono ?_
      rintro e wd ⟨rfl, hb⟩
      have bn : Hid (Below w.heap.size w wd) := bk.out.trans (hb.mono bk.out.size)
      have rn : Hid (Ats wd r1 A) := rk.out.up hb (Nat.le_refl _)
      have sn : Hid (Kn wd [(h1, crdC D)]) := sk.out.up hb
      clear hb bk rk sk H2
      have bk := bn
      have rk := rn
      have sk := sn
      clear bn rn sn
      have ef : (hi == hi) = true := beq_self_eq_true hi
      go_wp2_with (first | refine wp_ldW rfl 31 _ rfl h1 0 rfl (crdC D) _ (Kn.rng sk.out 0 rfl) u_card rfl (info_card _) ?_ | fail)
      refine (N1 _).mono ?_
      rintro e w9 ⟨⟨p, rfl, hp⟩, hb⟩
      have b9 : Hid (Below w.heap.size w w9) := bk.out.trans (hb.mono bk.out.size)
      have S9 := S1 r1 p w9 (rk.out.up hb (Nat.le_refl _)) hp
      clear hb bk rk sk hp N1 S1
      go_wp2_with fail
      refine S9.mono ?_
      rintro e wz ⟨rfl, hb⟩
      have bz : Hid (Below w.heap.size w wz) := b9.out.trans (hb.mono b9.out.size)
      clear hb b9 S9
      go_wp2_with fail
      go_ret
      exact ⟨rfl, bz.out⟩
/-- RuleMakes. -/
theorem ruleMakes_of (KC : RlKindsC) (VC : RlValidC) (HC : RlHiddenC) (MC : RlMakeC) (c : Nat) (hc : c < 256) (l : List Ar) (ll : lowA l) (hl : l.length ≤ 140737488351232) (zl : zedA l) (b : Bool) (w : World) {v : Value} (h : Ats w v l) :
    Calls Try.prog 3 #[.int .u8 (c : Int), v, .bool b] w fun e w' => e = .returned (.bool true) ∧ Below w.heap.size w w' := by
  have lo : ∀ x ∈ l, lowB x.v := fun x hx => (ll x hx).2
  have hs : l.length ≤ 4611686018427387904 := by omega
  have low : ∀ x ∈ madL l b, lowB x.v := atsF_low (madF_low lo) 19
  exact makes_walk c hc v l (madL l b) b (valA l) (hidA l) _ (madF l b) w h (fun W => KC c W hc) (fun W hW => MC v l b W ll hs zl hW) (fun W hW => made_fun l b hs lo v W hW)
    (fun W hW => VC v l W ll hs zl hW) (fun W hW => validR_fun l hs lo v W hW) (fun W hW => HC v l W ll hs zl hW) (fun W hW => veiledR_fun l hs lo v W hW) (fun W => madA_fun l b lo W)
    (fun p q W hp hq => (sameR_fun _ _ (by have := atsF_len (madF l b) 19; unfold madL; omega) low low p q W hp hq).mono fun e w' ⟨⟨s, he, hs⟩, hb⟩ => ⟨by rw [he, hs.2 rfl], hb⟩)
end Go.Proofs.Ytepaapiflkkghaa
