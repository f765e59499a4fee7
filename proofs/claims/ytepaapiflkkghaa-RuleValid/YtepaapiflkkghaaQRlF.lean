/- Package rule, as it landed: what a kind is unasked; whole: a template and what it lacks. -/
import Derived.Test.YtepaapiflkkghaaQRlE
import Derived.Test.YtepaapiflkkghaaQRlN
import Derived.Test.YtepaapiflkkghaaQAtRs
namespace Go.Proofs.Ytepaapiflkkghaa
open Go.RowKit
attribute [local go_sem] World.cell?_alloc_some cell_alloc2 cell_alloc3 cell_alloc4 frozen?_alloc_cells frozen_out
set_option linter.unusedSimpArgs false
theorem Bk.nil (w : World) : Bk w (.slice none 0 0) [] := ⟨By.nil _, fun g hg => by cases hg⟩
set_option maxRecDepth 20000 in
set_option maxHeartbeats 4000000 in
/-- usual: what a kind is unasked. -/
theorem usual_fun (l : List Ar) (lo : Hid (lowA l)) (hs : Hid (l.length ≤ 4611686018427387904)) (k c : Nat) (c1 : 1 ≤ c) (c4 : c ≤ 4) (b : Bool) (v : Value) (w : World) (h : Ats w v l) :
    Calls Try.prog 60 #[v, .int .i64 (k : Int), .int .u8 (c : Int), .bool b] w fun e w' => (∃ u, e = .returned u ∧ Bk w' u (uslV l k c b)) ∧ Below w.heap.size w w' := by
  by_cases k2 : k = 2
  · subst k2
    rw [show uslV l 2 c b = [] from rfl]
    clear c1 c4
    have K1 := asks_fun v l w h
    clear h
    go_enter Try.func60, Try.ntmps60
    go_wp2_with fail
    refine K1.mono ?_
    rintro e w1 ⟨rfl, ha, hb⟩
    have a1 : Hid (AskAt w1 w.heap.size l) := ha
    have b1 : Hid (Below w.heap.size w w1) := hb
    clear ha hb K1
    go_wp2_with fail
    go_ret
    exact ⟨⟨_, rfl, Bk.nil _⟩, b1.out⟩
  by_cases k3 : k = 3
  · subst k3
    rw [show uslV l 3 c b = [] from rfl]
    clear c1 c4 k2
    have K1 := asks_fun v l w h
    clear h
    go_enter Try.func60, Try.ntmps60
    go_wp2_with fail
    refine K1.mono ?_
    rintro e w1 ⟨rfl, ha, hb⟩
    have a1 : Hid (AskAt w1 w.heap.size l) := ha
    have b1 : Hid (Below w.heap.size w w1) := hb
    clear ha hb K1
    go_wp2_with fail
    go_ret
    exact ⟨⟨_, rfl, Bk.nil _⟩, b1.out⟩
  by_cases k6 : k = 6
  · subst k6
    rw [show uslV l 6 c b = flgV (decide (c = 2 ∨ c = 4)) from rfl]
    clear k2 k3
    have hc : c = 1 ∨ c = 2 ∨ c = 3 ∨ c = 4 := by omega
    rcases hc with rfl | rfl | rfl | rfl
    · rw [show flgV (decide (1 = 2 ∨ 1 = 4)) = flgV false from rfl]
      clear c1 c4
      have K1 := asks_fun v l w h
      clear h
      go_enter Try.func60, Try.ntmps60
      go_wp2_with fail
      refine K1.mono ?_
      rintro e w1 ⟨rfl, ha, hb⟩
      have a1 : Hid (AskAt w1 w.heap.size l) := ha
      have b1 : Hid (Below w.heap.size w w1) := hb
      clear ha hb K1
      go_wp2_with fail
      refine (bit_fun _ _).mono ?_
      rintro e w9 ⟨⟨u, rfl, hu⟩, hb⟩
      have U9 : Hid (Bk w9 u _) := hu
      have b9 : Hid (Below w.heap.size w w9) := b1.out.trans (hb.mono b1.out.size)
      clear hu hb
      go_wp2_with fail
      go_ret
      exact ⟨⟨_, rfl, U9.out⟩, b9.out⟩
    · rw [show flgV (decide (2 = 2 ∨ 2 = 4)) = flgV true from rfl]
      clear c1 c4
      have K1 := asks_fun v l w h
      clear h
      go_enter Try.func60, Try.ntmps60
      go_wp2_with fail
      refine K1.mono ?_
      rintro e w1 ⟨rfl, ha, hb⟩
      have a1 : Hid (AskAt w1 w.heap.size l) := ha
      have b1 : Hid (Below w.heap.size w w1) := hb
      clear ha hb K1
      go_wp2_with fail
      refine (bit_fun _ _).mono ?_
      rintro e w9 ⟨⟨u, rfl, hu⟩, hb⟩
      have U9 : Hid (Bk w9 u _) := hu
      have b9 : Hid (Below w.heap.size w w9) := b1.out.trans (hb.mono b1.out.size)
      clear hu hb
      go_wp2_with fail
      go_ret
      exact ⟨⟨_, rfl, U9.out⟩, b9.out⟩
    · rw [show flgV (decide (3 = 2 ∨ 3 = 4)) = flgV false from rfl]
      clear c1 c4
      have K1 := asks_fun v l w h
      clear h
      go_enter Try.func60, Try.ntmps60
      go_wp2_with fail
      refine K1.mono ?_
      rintro e w1 ⟨rfl, ha, hb⟩
      have a1 : Hid (AskAt w1 w.heap.size l) := ha
      have b1 : Hid (Below w.heap.size w w1) := hb
      clear ha hb K1
      go_wp2_with fail
      refine (bit_fun _ _).mono ?_
      rintro e w9 ⟨⟨u, rfl, hu⟩, hb⟩
      have U9 : Hid (Bk w9 u _) := hu
      have b9 : Hid (Below w.heap.size w w9) := b1.out.trans (hb.mono b1.out.size)
      clear hu hb
      go_wp2_with fail
      go_ret
      exact ⟨⟨_, rfl, U9.out⟩, b9.out⟩
    · rw [show flgV (decide (4 = 2 ∨ 4 = 4)) = flgV true from rfl]
      clear c1 c4
      have K1 := asks_fun v l w h
      clear h
      go_enter Try.func60, Try.ntmps60
      go_wp2_with fail
      refine K1.mono ?_
      rintro e w1 ⟨rfl, ha, hb⟩
      have a1 : Hid (AskAt w1 w.heap.size l) := ha
      have b1 : Hid (Below w.heap.size w w1) := hb
      clear ha hb K1
      go_wp2_with fail
      refine (bit_fun _ _).mono ?_
      rintro e w9 ⟨⟨u, rfl, hu⟩, hb⟩
      have U9 : Hid (Bk w9 u _) := hu
      have b9 : Hid (Below w.heap.size w w9) := b1.out.trans (hb.mono b1.out.size)
      clear hu hb
      go_wp2_with fail
      go_ret
      exact ⟨⟨_, rfl, U9.out⟩, b9.out⟩
  by_cases k7 : k = 7
  · subst k7
    rw [show uslV l 7 c b = flgV true from rfl]
    clear c1 c4 k2 k3 k6
    have K1 := asks_fun v l w h
    clear h
    go_enter Try.func60, Try.ntmps60
    go_wp2_with fail
    refine K1.mono ?_
    rintro e w1 ⟨rfl, ha, hb⟩
    have a1 : Hid (AskAt w1 w.heap.size l) := ha
    have b1 : Hid (Below w.heap.size w w1) := hb
    clear ha hb K1
    go_wp2_with fail
    refine (bit_fun _ _).mono ?_
    rintro e w9 ⟨⟨u, rfl, hu⟩, hb⟩
    have U9 : Hid (Bk w9 u _) := hu
    have b9 : Hid (Below w.heap.size w w9) := b1.out.trans (hb.mono b1.out.size)
    clear hu hb
    go_wp2_with fail
    go_ret
    exact ⟨⟨_, rfl, U9.out⟩, b9.out⟩
  by_cases k9 : k = 9
  · subst k9
    rw [show uslV l 9 c b = flgV true from rfl]
    clear c1 c4 k2 k3 k6 k7
    have K1 := asks_fun v l w h
    clear h
    go_enter Try.func60, Try.ntmps60
    go_wp2_with fail
    refine K1.mono ?_
    rintro e w1 ⟨rfl, ha, hb⟩
    have a1 : Hid (AskAt w1 w.heap.size l) := ha
    have b1 : Hid (Below w.heap.size w w1) := hb
    clear ha hb K1
    go_wp2_with fail
    refine (bit_fun _ _).mono ?_
    rintro e w9 ⟨⟨u, rfl, hu⟩, hb⟩
    have U9 : Hid (Bk w9 u _) := hu
    have b9 : Hid (Below w.heap.size w w9) := b1.out.trans (hb.mono b1.out.size)
    clear hu hb
    go_wp2_with fail
    go_ret
    exact ⟨⟨_, rfl, U9.out⟩, b9.out⟩
  by_cases k10 : k = 10
  · subst k10
    obtain ⟨x, hx⟩ : ∃ x, Hid (anyA l [8] = x) := ⟨_, rfl⟩
    rw [show uslV l 10 c b = flgV (b && anyA l [8]) by rw [any_one]; rfl, hx.out]
    clear c1 c4 k2 k3 k6 k7 k9
    cases b with
    | false =>
      rw [show flgV (false && x) = flgV false from rfl]
      have K1 := asks_fun v l w h
      clear h
      go_enter Try.func60, Try.ntmps60
      go_wp2_with fail
      refine K1.mono ?_
      rintro e w1 ⟨rfl, ha, hb⟩
      have a1 : Hid (AskAt w1 w.heap.size l) := ha
      have b1 : Hid (Below w.heap.size w w1) := hb
      clear ha hb K1
      go_wp2_with fail
      refine (bit_fun _ _).mono ?_
      rintro e w9 ⟨⟨u, rfl, hu⟩, hb⟩
      have U9 : Hid (Bk w9 u _) := hu
      have b9 : Hid (Below w.heap.size w w9) := b1.out.trans (hb.mono b1.out.size)
      clear hu hb
      go_wp2_with fail
      go_ret
      exact ⟨⟨_, rfl, U9.out⟩, b9.out⟩
    | true =>
      have K1 := asks_fun v l w h
      clear h
      go_enter Try.func60, Try.ntmps60
      go_wp2_with fail
      refine K1.mono ?_
      rintro e w1 ⟨rfl, ha, hb⟩
      have a1 : Hid (AskAt w1 w.heap.size l) := ha
      have b1 : Hid (Below w.heap.size w w1) := hb
      clear ha hb K1
      go_wp2_with fail
      refine (ask_on lo.out hs.out [8] _ hx (by decide) (by decide) a1 b1).mono ?_
      rintro e w2 ⟨rfl, a2, b2⟩
      clear a1 b1
      go_wp2_with fail
      cases x with
      | false =>
        refine (bit_fun _ _).mono ?_
        rintro e w9 ⟨⟨u, rfl, hu⟩, hb⟩
        have U9 : Hid (Bk w9 u _) := hu
        have b9 : Hid (Below w.heap.size w w9) := b2.out.trans (hb.mono b2.out.size)
        clear hu hb
        go_wp2_with fail
        go_ret
        exact ⟨⟨_, rfl, U9.out⟩, b9.out⟩
      | true =>
        refine (bit_fun _ _).mono ?_
        rintro e w9 ⟨⟨u, rfl, hu⟩, hb⟩
        have U9 : Hid (Bk w9 u _) := hu
        have b9 : Hid (Below w.heap.size w w9) := b2.out.trans (hb.mono b2.out.size)
        clear hu hb
        go_wp2_with fail
        go_ret
        exact ⟨⟨_, rfl, U9.out⟩, b9.out⟩
  by_cases k11 : k = 11
  · subst k11
    obtain ⟨x, hx⟩ : ∃ x, Hid (anyA l [9] = x) := ⟨_, rfl⟩
    rw [show uslV l 11 c b = flgV (b && !anyA l [9]) by rw [any_one]; rfl, hx.out]
    clear c1 c4 k2 k3 k6 k7 k9 k10
    cases b with
    | false =>
      rw [show flgV (false && !x) = flgV false from rfl]
      have K1 := asks_fun v l w h
      clear h
      go_enter Try.func60, Try.ntmps60
      go_wp2_with fail
      refine K1.mono ?_
      rintro e w1 ⟨rfl, ha, hb⟩
      have a1 : Hid (AskAt w1 w.heap.size l) := ha
      have b1 : Hid (Below w.heap.size w w1) := hb
      clear ha hb K1
      go_wp2_with fail
      refine (bit_fun _ _).mono ?_
      rintro e w9 ⟨⟨u, rfl, hu⟩, hb⟩
      have U9 : Hid (Bk w9 u _) := hu
      have b9 : Hid (Below w.heap.size w w9) := b1.out.trans (hb.mono b1.out.size)
      clear hu hb
      go_wp2_with fail
      go_ret
      exact ⟨⟨_, rfl, U9.out⟩, b9.out⟩
    | true =>
      have K1 := asks_fun v l w h
      clear h
      go_enter Try.func60, Try.ntmps60
      go_wp2_with fail
      refine K1.mono ?_
      rintro e w1 ⟨rfl, ha, hb⟩
      have a1 : Hid (AskAt w1 w.heap.size l) := ha
      have b1 : Hid (Below w.heap.size w w1) := hb
      clear ha hb K1
      go_wp2_with fail
      refine (ask_on lo.out hs.out [9] _ hx (by decide) (by decide) a1 b1).mono ?_
      rintro e w2 ⟨rfl, a2, b2⟩
      clear a1 b1
      cases x with
      | false =>
        go_wp2_with fail
        refine (bit_fun _ _).mono ?_
        rintro e w9 ⟨⟨u, rfl, hu⟩, hb⟩
        have U9 : Hid (Bk w9 u _) := hu
        have b9 : Hid (Below w.heap.size w w9) := b2.out.trans (hb.mono b2.out.size)
        clear hu hb
        go_wp2_with fail
        go_ret
        exact ⟨⟨_, rfl, U9.out⟩, b9.out⟩
      | true =>
        go_wp2_with fail
        refine (bit_fun _ _).mono ?_
        rintro e w9 ⟨⟨u, rfl, hu⟩, hb⟩
        have U9 : Hid (Bk w9 u _) := hu
        have b9 : Hid (Below w.heap.size w w9) := b2.out.trans (hb.mono b2.out.size)
        clear hu hb
        go_wp2_with fail
        go_ret
        exact ⟨⟨_, rfl, U9.out⟩, b9.out⟩
  by_cases k12 : k = 12
  · subst k12
    rw [show uslV l 12 c b = flgV b from rfl]
    clear c1 c4 k2 k3 k6 k7 k9 k10 k11
    have K1 := asks_fun v l w h
    clear h
    go_enter Try.func60, Try.ntmps60
    go_wp2_with fail
    refine K1.mono ?_
    rintro e w1 ⟨rfl, ha, hb⟩
    have a1 : Hid (AskAt w1 w.heap.size l) := ha
    have b1 : Hid (Below w.heap.size w w1) := hb
    clear ha hb K1
    go_wp2_with fail
    refine (bit_fun _ _).mono ?_
    rintro e w9 ⟨⟨u, rfl, hu⟩, hb⟩
    have U9 : Hid (Bk w9 u _) := hu
    have b9 : Hid (Below w.heap.size w w9) := b1.out.trans (hb.mono b1.out.size)
    clear hu hb
    go_wp2_with fail
    go_ret
    exact ⟨⟨_, rfl, U9.out⟩, b9.out⟩
  · rw [show uslV l k c b = flgV false by unfold uslV; rw [if_neg (by omega), if_neg k6, if_neg (by omega), if_neg k10, if_neg k11, if_neg k12]]
    have e2 : ((k : Int) == 2) = false := beq_eq_false_iff_ne.2 (by omega)
    have e3 : ((k : Int) == 3) = false := beq_eq_false_iff_ne.2 (by omega)
    have e6 : ((k : Int) == 6) = false := beq_eq_false_iff_ne.2 (by omega)
    have e7 : ((k : Int) == 7) = false := beq_eq_false_iff_ne.2 (by omega)
    have e9 : ((k : Int) == 9) = false := beq_eq_false_iff_ne.2 (by omega)
    have e10 : ((k : Int) == 10) = false := beq_eq_false_iff_ne.2 (by omega)
    have e11 : ((k : Int) == 11) = false := beq_eq_false_iff_ne.2 (by omega)
    have e12 : ((k : Int) == 12) = false := beq_eq_false_iff_ne.2 (by omega)
    clear c1 c4 k2 k3 k6 k7 k9 k10 k11 k12
    have K1 := asks_fun v l w h
    clear h
    go_enter Try.func60, Try.ntmps60
    go_wp2_with fail
    refine K1.mono ?_
    rintro e w1 ⟨rfl, ha, hb⟩
    have a1 : Hid (AskAt w1 w.heap.size l) := ha
    have b1 : Hid (Below w.heap.size w w1) := hb
    clear ha hb K1
    go_wp2_with fail
    refine (bit_fun _ _).mono ?_
    rintro e w9 ⟨⟨u, rfl, hu⟩, hb⟩
    have U9 : Hid (Bk w9 u _) := hu
    have b9 : Hid (Below w.heap.size w w9) := b1.out.trans (hb.mono b1.out.size)
    clear hu hb
    go_wp2_with fail
    go_ret
    exact ⟨⟨_, rfl, U9.out⟩, b9.out⟩
theorem whL_low {f : Crd} (hf : lowF f) {ks : List Nat} (hk : ∀ k ∈ ks, k ≤ 18) : lowA (whL f ks) := fun x hx => by
  obtain ⟨k, hm, rfl⟩ := List.mem_map.1 hx
  have := hk k hm
  exact ⟨⟨by show _ ≤ (k : Int); omega, by show (k : Int) ≤ _; omega⟩, hf.get k⟩
theorem whL_len (f : Crd) (ks : List Nat) : (whL f ks).length = ks.length := List.length_map _
set_option maxRecDepth 20000 in
set_option maxHeartbeats 4000000 in
theorem whole_walk (t : List Ar) (f : Crd) (hf : Hid (lowF f)) (c n : Nat) (hc : Hid (1 ≤ c ∧ c ≤ 4)) (hn : (kndN c 18).length = n) (n1 : 0 < n) (b : Bool) (v : Value) (w : World) (HV : Hid (Ats w v t))
    (VAL : Hid (∀ (j k : Nat), (kndN c 18)[j]? = some k → (getA t (k : Int)).getD (uslV (whL f ((kndN c 18).take j)) k c b) = (f k).getD []))
    (G1 : Hid (∀ (k : Nat) W, k ≤ 18 → Ats W v t → Calls Try.prog 29 #[v, .int .i64 (k : Int)] W fun e w' => (∃ u, e = .returned (.tuple #[u, .bool (getA t (k : Int)).isSome]) ∧ Bk w' u ((getA t (k : Int)).getD [])) ∧ Below W.heap.size W w')) :
    Calls Try.prog 40 #[v, .int .u8 (c : Int), .bool b] w fun e w' => (∃ u, e = .returned u ∧ Ats w' u (whL f (kndN c 18))) ∧ Below w.heap.size w w' := by
  have HK : Hid ((kndN c 18).length = n ∧ n ≤ 18) := ⟨hn, by have := kndN_len c 18; omega⟩
  have k1 := rlKindsC c w (by have := hc.out; omega)
  have o0 : ∀ W, Hid (Oa W W.heap.size (.slice none 0 0) (whL f ((kndN c 18).take 0))) := fun W => Oa.nil _ _
  clear hn
  go_enter Try.func40, Try.ntmps40
  go_wp2_with fail
  refine k1.mono ?_
  rintro e ws ⟨⟨u, rfl, hu⟩, hb⟩
  have b1 : Hid (Below w.heap.size w ws) := hb
  have HW : Hid (Ats ws v t) := HV.out.up hb (Nat.le_refl _)
  obtain ⟨ka, kc, rfl⟩ := ki_parts hu
  rw [HK.out.1] at hu ⊢
  obtain ⟨d, q, rfl⟩ := hu.addr (by rw [HK.out.1]; exact n1)
  have KI : Hid (Ki ws (.slice (some ⟨d, q, none⟩) n kc) (kndN c 18)) := hu
  have ow := o0 ws
  have BZ : Hid (Below w.heap.size w ws) := b1.out
  clear hb hu k1 o0 n1 b1
  go_wp2_with fail
  go_loopw [7, 15] (fun u i wr => ∃ j : Nat, j ≤ n ∧ i = .int .i64 (j : Int) ∧ Hid (Oa wr ws.heap.size u (whL f ((kndN c 18).take j))) ∧ Hid (Below ws.heap.size ws wr)) (fun _ i _ => n - (intOf i).toNat)
  case atStart => exact ⟨0, Nat.zero_le _, rfl, ow, Below.refl _ _⟩
  case round =>
    clear ow
    obtain ⟨j, hj, rfl, ok, bk⟩ := hrel
    by_cases hlt : j < n
    · have i1 : (j : Int) < (n : Int) := by omega
      have i0 : (0 : Int) ≤ (j : Int) := by omega
      have jn : (n : Int) ≤ 18 := by have := HK.out.2; omega
      have HJ : Hid (j < n) := hlt
      obtain ⟨k, hk⟩ : ∃ k, Hid ((kndN c 18)[j]? = some k) := ⟨(kndN c 18)[j]'(by have := HK.out; omega), List.getElem?_eq_getElem _⟩
      have k18 : Hid (k ≤ 18) := (kndN_mem.1 (List.mem_of_getElem? hk.out)).2.1
      have u0 : wr.cell? ⟨d, q + j, none⟩ = some (.int .i64 (k : Int)) := (KI.out.up bk.out).cell hk.out
      have G2 := G1.out k wr k18.out (HW.out.up bk.out (Nat.le_refl _))
      have V2 := VAL.out j k hk.out
      clear hlt hj
      cases hg : getA t (k : Int) with
      | some x =>
        rw [hg] at G2 V2
        have ex : x = (f k).getD [] := V2
        clear V2 hg
        go_wp2_with fail
        refine G2.mono ?_
        rintro e w1 ⟨⟨z, rfl, hz⟩, hb⟩
        have U1 : Hid (Bk w1 z ((f k).getD [])) := by show Bk _ _ _; rw [← ex]; exact hz
        have ok1 : Hid (Oa w1 ws.heap.size u7 (whL f ((kndN c 18).take j))) := ok.out.up hb
        have b1 : Hid (Below ws.heap.size ws w1) := bk.out.trans (hb.mono bk.out.size)
        clear hz hb ok bk G2 ex u0
        obtain ⟨za, zc, rfl⟩ := U1.out.1.len
        generalize hX : ((f k).getD []).length = m at *
        have ba : Below w1.heap.size w1 (w1.alloc (.cells #[.int .i64 (k : Int), .slice za m zc] 64)) := (Below.refl _ _).alloc (Nat.le_refl _) _
        have ok2 : Hid (Oa (w1.alloc (.cells #[.int .i64 (k : Int), .slice za m zc] 64)) ws.heap.size u7 (whL f ((kndN c 18).take j))) := ok1.out.up ba
        have b2 : Hid (Below ws.heap.size ws (w1.alloc (.cells #[.int .i64 (k : Int), .slice za m zc] 64))) := b1.out.trans (ba.mono b1.out.size)
        have U2 : Bk (w1.alloc (.cells #[.int .i64 (k : Int), .slice za m zc] 64)) (.slice za m zc) ((f k).getD []) := U1.out.up ba
        have one : Hid (As (w1.alloc (.cells #[.int .i64 (k : Int), .slice za m zc] 64)) ws.heap.size (.slice (some ⟨w1.heap.size, 0, none⟩) 1 1) [⟨(k : Int), (f k).getD []⟩]) := As.one ⟨(k : Int), (f k).getD []⟩ _ U2.vk w1.heap.size (cell_top rfl) (cell_top rfl)
        have W3 : Hid (ws.heap.size ≤ (w1.alloc (.cells #[.int .i64 (k : Int), .slice za m zc] 64)).heap.size) := Nat.le_trans b1.out.size ba.size
        clear ok1 b1 ba U1 U2 hX
        go_wp2_with (first | refine wp_buildAt rfl _ _ rfl (k : Int) _ _ _ rfl rfl ?_ | refine wp_bsA rfl _ rfl (k : Int) _ _ _ rfl ?_ | refine wp_appA rfl _ _ rfl ws.heap.size _ _ (whL f ((kndN c 18).take j)) [⟨(k : Int), (f k).getD []⟩] rfl ok2.out rfl one.out (by have := HK.out; rw [whL_len, List.length_take]; simp only [List.length_cons, List.length_nil]; omega) W3.out ?_)
        intro v4 w4 o4 hg4
        have ok4 : Hid (Oa w4 ws.heap.size v4 (whL f ((kndN c 18).take (j + 1)))) := by show Oa _ _ _ _; rw [whL_next hk.out]; exact o4
        have b4 : Hid (Below ws.heap.size ws w4) := Below.grown b2.out hg4 b2.out.size fun g hg => ok2.out.ge g hg
        clear o4 hg4 ok2 b2 one W3
        go_wp2_with fail
        go_roundw
        case rel => exact ⟨j + 1, HJ.out, by go_num, ok4, b4⟩
        case measure => simp [intOf]; have := HJ.out; omega
      | none =>
        rw [hg] at G2 V2
        have ex : uslV (whL f ((kndN c 18).take j)) k c b = (f k).getD [] := V2
        clear V2 hg
        go_wp2_with fail
        refine G2.mono ?_
        rintro e w3 ⟨⟨z, rfl, -⟩, hb⟩
        have ok3 : Hid (Oa w3 ws.heap.size u7 (whL f ((kndN c 18).take j))) := ok.out.up hb
        have b3 : Hid (Below ws.heap.size ws w3) := bk.out.trans (hb.mono bk.out.size)
        clear hb ok bk G2 u0
        go_wp2_with fail
        have LW : Hid (lowA (whL f ((kndN c 18).take j))) := whL_low hf.out fun i hi => (kndN_mem.1 (List.mem_of_mem_take hi)).2.1
        have LN : Hid ((whL f ((kndN c 18).take j)).length ≤ 4611686018427387904) := by
          show _ ≤ _
          rw [whL_len, List.length_take]
          have := HK.out
          omega
        refine (usual_fun (whL f ((kndN c 18).take j)) LW LN k c hc.out.1 hc.out.2 b _ _ ok3.out.ats).mono ?_
        rintro e w1 ⟨⟨z2, rfl, hz⟩, hb⟩
        have U1 : Hid (Bk w1 z2 ((f k).getD [])) := by show Bk _ _ _; rw [← ex]; exact hz
        have ok1 : Hid (Oa w1 ws.heap.size u7 (whL f ((kndN c 18).take j))) := ok3.out.up hb
        have b1 : Hid (Below ws.heap.size ws w1) := b3.out.trans (hb.mono b3.out.size)
        clear hz hb ok3 b3 ex LW LN
        obtain ⟨za, zc, rfl⟩ := U1.out.1.len
        generalize hX : ((f k).getD []).length = m at *
        have ba : Below w1.heap.size w1 (w1.alloc (.cells #[.int .i64 (k : Int), .slice za m zc] 64)) := (Below.refl _ _).alloc (Nat.le_refl _) _
        have ok2 : Hid (Oa (w1.alloc (.cells #[.int .i64 (k : Int), .slice za m zc] 64)) ws.heap.size u7 (whL f ((kndN c 18).take j))) := ok1.out.up ba
        have b2 : Hid (Below ws.heap.size ws (w1.alloc (.cells #[.int .i64 (k : Int), .slice za m zc] 64))) := b1.out.trans (ba.mono b1.out.size)
        have U2 : Bk (w1.alloc (.cells #[.int .i64 (k : Int), .slice za m zc] 64)) (.slice za m zc) ((f k).getD []) := U1.out.up ba
        have one : Hid (As (w1.alloc (.cells #[.int .i64 (k : Int), .slice za m zc] 64)) ws.heap.size (.slice (some ⟨w1.heap.size, 0, none⟩) 1 1) [⟨(k : Int), (f k).getD []⟩]) := As.one ⟨(k : Int), (f k).getD []⟩ _ U2.vk w1.heap.size (cell_top rfl) (cell_top rfl)
        have W3 : Hid (ws.heap.size ≤ (w1.alloc (.cells #[.int .i64 (k : Int), .slice za m zc] 64)).heap.size) := Nat.le_trans b1.out.size ba.size
        clear ok1 b1 ba U1 U2 hX
        go_wp2_with (first | refine wp_buildAt rfl _ _ rfl (k : Int) _ _ _ rfl rfl ?_ | refine wp_bsA rfl _ rfl (k : Int) _ _ _ rfl ?_ | refine wp_appA rfl _ _ rfl ws.heap.size _ _ (whL f ((kndN c 18).take j)) [⟨(k : Int), (f k).getD []⟩] rfl ok2.out rfl one.out (by have := HK.out; rw [whL_len, List.length_take]; simp only [List.length_cons, List.length_nil]; omega) W3.out ?_)
        intro v4 w4 o4 hg4
        have ok4 : Hid (Oa w4 ws.heap.size v4 (whL f ((kndN c 18).take (j + 1)))) := by show Oa _ _ _ _; rw [whL_next hk.out]; exact o4
        have b4 : Hid (Below ws.heap.size ws w4) := Below.grown b2.out hg4 b2.out.size fun g hg => ok2.out.ge g hg
        clear o4 hg4 ok2 b2 one W3
        go_wp2_with fail
        go_roundw
        case rel => exact ⟨j + 1, HJ.out, by go_num, ok4, b4⟩
        case measure => simp [intOf]; have := HJ.out; omega
    · have i1 : ¬ (j : Int) < (n : Int) := by omega
      have oe : Hid (Ats wr u7 (whL f (kndN c 18))) := by
        have := ok.out.ats
        rw [List.take_of_length_le (by have := HK.out; omega)] at this
        exact this
      clear hlt hj ok
      go_wp2_with fail
      go_ret
      exact ⟨⟨_, rfl, oe.out⟩, BZ.out.trans (bk.out.mono BZ.out.size)⟩
end Go.Proofs.Ytepaapiflkkghaa
