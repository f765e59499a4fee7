/- Package rule, as it landed: EqualFunc over kinds; what asks answers; sound, Hidden, See, May. -/
import Derived.Test.YtepaapiflkkghaaQRlB
namespace Go.Proofs.Ytepaapiflkkghaa
open Go.RowKit
attribute [local go_sem] World.cell?_alloc_some cell_alloc2 cell_alloc3 cell_alloc4 frozen?_alloc_cells frozen_out
set_option linter.unusedSimpArgs false
theorem eqf_len {l : List Ar} {ks : List Nat} (h : l.length ≠ ks.length) : eqfA l ks = false := decide_eq_false fun e => h (by have := congrArg List.length e; rwa [List.length_map, List.length_map] at this)
set_option maxHeartbeats 1000000 in
theorem eqF_len (a d : Option Addr) (n m c e : Nat) (f : Value) (h : n ≠ m) (w : World) : Calls Try.prog 51 #[.slice a n c, .slice d m e, f] w fun e w' => e = .returned (.bool false) ∧ Below w.heap.size w w' := by
  have e1 : ((n : Int) == (m : Int)) = false := beq_eq_false_iff_ne.2 (by omega)
  clear h
  go_enter Try.func51, Try.ntmps51
  go_wp2_with fail
  go_ret
  exact ⟨rfl, Below.refl _ _⟩
set_option maxHeartbeats 1000000 in
theorem eqF_nil (a d : Option Addr) (c e : Nat) (f : Value) (w : World) : Calls Try.prog 51 #[.slice a 0 c, .slice d 0 e, f] w fun e w' => e = .returned (.bool true) ∧ Below w.heap.size w w' := by
  go_enter Try.func51, Try.ntmps51
  go_wp2_with fail
  refine wp_loop_rounds 1 ?_
  rw [rounds_succ]
  go_wp2_with fail
  go_ret
  exact ⟨rfl, Below.refl _ _⟩
set_option maxRecDepth 20000 in
set_option maxHeartbeats 2000000 in
theorem eqF_walk (l : List Ar) (ks : List Nat) (n : Nat) (hl : l.length = n) (hk : ks.length = n) (hs : n ≤ 1000) (b o c d q e : Nat) (w : World) (HA : Hid (Ats w (.slice (some ⟨b, o, none⟩) n c) l)) (HB : Hid (Ki w (.slice (some ⟨d, q, none⟩) n e) ks)) :
    Calls Try.prog 51 #[.slice (some ⟨b, o, none⟩) n c, .slice (some ⟨d, q, none⟩) n e, .func (.func 50) #[] #[]] w fun e w' => e = .returned (.bool (eqfA l ks)) ∧ Below w.heap.size w w' := by
  have HN : Hid (l.length = n ∧ ks.length = n ∧ (n : Int) ≤ 1000) := ⟨hl, hk, by omega⟩
  clear hl hk hs
  go_enter Try.func51, Try.ntmps51
  go_wp2_with fail
  go_loopw [17] (fun i wr => ∃ j : Nat, j ≤ n ∧ i = .int .i64 (j : Int) ∧ Hid (∀ (i : Nat) (x : Ar) (y : Nat), i < j → l[i]? = some x → ks[i]? = some y → x.k = (y : Int)) ∧ Hid (Below w.heap.size w wr)) (fun i _ => n - (intOf i).toNat)
  case atStart => exact ⟨0, Nat.zero_le _, rfl, fun i x y hi => absurd hi (Nat.not_lt_zero _), Below.refl _ _⟩
  case round =>
    obtain ⟨j, hj, rfl, no, bk⟩ := hrel
    by_cases hlt : j < n
    · have i1 : (j : Int) < (n : Int) := by omega
      have i0 : (0 : Int) ≤ (j : Int) := by omega
      have jn : (n : Int) ≤ 1000 := HN.out.2.2
      have HJ : Hid (j < n) := hlt
      obtain ⟨x, hx⟩ : ∃ x, Hid (l[j]? = some x) := ⟨l[j]'(by have := HN.out; omega), List.getElem?_eq_getElem _⟩
      obtain ⟨y, hy⟩ : ∃ y, Hid (ks[j]? = some y) := ⟨ks[j]'(by have := HN.out; omega), List.getElem?_eq_getElem _⟩
      obtain ⟨xa, xc, ex⟩ := (HA.out.up bk.out (Nat.le_refl _)).elem hx.out
      have EX : Hid (AtE wr b (o + j * 2) x xa xc) := ex
      have E1 : Hid (∀ (C : Array Value) t, AtE (wr.alloc (.cells C t)) b (o + j * 2) x xa xc) := fun C t => EX.out.up ((Below.refl _ _).alloc (Nat.le_refl _) _)
      have s2 : Hid (Kn (wr.alloc (.cells #[.int .i64 x.k, .slice xa x.v.length xc] 64)) [(wr.heap.size, [.int .i64 x.k, .slice xa x.v.length xc])]) := (Kn.nil wr).al [.int .i64 x.k, .slice xa x.v.length xc] 64 rfl
      have b2 : Hid (Below w.heap.size w (wr.alloc (.cells #[.int .i64 x.k, .slice xa x.v.length xc] 64))) := bk.out.alloc bk.out.size _
      have u0 : (wr.alloc (.cells #[.int .i64 x.k, .slice xa x.v.length xc] 64)).cell? ⟨d, q + j, none⟩ = some (.int .i64 (y : Int)) := (HB.out.up b2.out).cell hy.out
      have F1 := same1_fun x.k (y : Int) (.slice xa x.v.length xc) (wr.alloc (.cells #[.int .i64 x.k, .slice xa x.v.length xc] 64))
      clear hlt hj ex bk
      go_wp2_with (first | simp only [zero_attr] | refine wp_ldW rfl 64 _ rfl b (o + j * 2) rfl [.int .i64 x.k, .slice xa x.v.length xc] _ (by first | exact EX.out.rng | exact (E1.out _ _).rng) u_attr rfl (info_attr _ _) ?_ | refine wp_ldW rfl 64 _ rfl wr.heap.size 0 rfl [.int .i64 x.k, .slice xa x.v.length xc] _ (Kn.rng s2.out 0 rfl) u_attr rfl (info_attr _ _) ?_)
      refine F1.mono ?_
      rintro e w3 ⟨rfl, hb⟩
      have b3 : Hid (Below w.heap.size w w3) := b2.out.trans (hb.mono b2.out.size)
      clear hb b2 s2 E1 EX F1 u0
      by_cases hz : x.k = (y : Int)
      · have e1 : (x.k == (y : Int)) = true := beq_iff_eq.2 hz
        have no' : Hid (∀ (i : Nat) (x : Ar) (y : Nat), i < j + 1 → l[i]? = some x → ks[i]? = some y → x.k = (y : Int)) := fun i x1 y1 hi h1 h2 => by
          by_cases e : i = j
          · rw [e, hx.out] at h1
            rw [e, hy.out] at h2
            obtain rfl := Option.some.inj h1
            obtain rfl := Option.some.inj h2
            exact hz
          · exact no.out i x1 y1 (by omega) h1 h2
        clear hz no
        go_wp2_with fail
        go_roundw
        case rel => exact ⟨j + 1, HJ.out, by go_num, no', b3⟩
        case measure => simp [intOf]; have := HJ.out; omega
      · have e1 : (x.k == (y : Int)) = false := beq_eq_false_iff_ne.2 hz
        have er : eqfA l ks = false := decide_eq_false fun e => hz (by
          have := congrArg (fun m => m[j]?) e
          simp only [List.getElem?_map, hx.out, hy.out, Option.map_some] at this
          exact Option.some.inj this)
        clear hz no
        go_wp2_with fail
        go_ret
        exact ⟨by first | rfl | (rw [er]; rfl), b3.out⟩
    · have i1 : ¬ (j : Int) < (n : Int) := by omega
      have er : eqfA l ks = true := decide_eq_true (by
        refine List.ext_getElem (by rw [List.length_map, List.length_map, HN.out.1, HN.out.2.1]) fun i h1 h2 => ?_
        rw [List.getElem_map, List.getElem_map]
        rw [List.length_map] at h1 h2
        exact no.out i l[i] ks[i] (by have := HN.out; omega) (List.getElem?_eq_getElem h1) (List.getElem?_eq_getElem h2))
      clear hlt hj
      go_wp2_with fail
      go_ret
      exact ⟨by first | rfl | (rw [er]; rfl), bk.out⟩
/-- slices.EqualFunc over kinds. -/
theorem eqF_fun (l : List Ar) (ks : List Nat) (hs : ks.length ≤ 1000) (v u : Value) (w : World) (hv : Ats w v l) (hu : Ki w u ks) :
    Calls Try.prog 51 #[v, u, .func (.func 50) #[] #[]] w fun e w' => e = .returned (.bool (eqfA l ks)) ∧ Below w.heap.size w w' := by
  obtain ⟨a, c, rfl⟩ := ats_parts hv
  obtain ⟨d, e, rfl⟩ := ki_parts hu
  by_cases hl : l.length = ks.length
  · by_cases h0 : ks.length = 0
    · have e1 := List.length_eq_zero_iff.1 h0
      have e2 : l = [] := List.length_eq_zero_iff.1 (by omega)
      subst e1 e2
      exact eqF_nil a d c e _ w
    · obtain ⟨b, o, rfl⟩ := hv.addr (by omega)
      obtain ⟨b', o', rfl⟩ := hu.addr (by omega)
      rw [hl] at hv ⊢
      exact eqF_walk l ks ks.length hl rfl hs b o c b' o' e w hv hu
  · rw [eqf_len hl]
    exact eqF_len a d _ _ c e _ hl w
theorem ki_made (w : World) (ks : List Nat) : Ki (w.alloc (.cells (ks.map dK).toArray 3)) (.slice (some ⟨w.heap.size, 0, none⟩) ks.length ks.length) ks :=
  ⟨_, _, rfl, Nat.le_refl _, fun _ => ⟨w.heap.size, 0, rfl, fun j x hx => by
    rw [Nat.zero_add]
    exact Kn.get ((Kn.nil w).al (ks.map dK) 3 rfl) 0 j rfl (by rw [List.getElem?_map, hx]; rfl)⟩⟩
/-- What asks' function answers of kinds in a row that was made for it. -/
theorem ask_on {w : World} {l : List Ar} (lo : lowA l) (hs : l.length ≤ 4611686018427387904) (ks : List Nat) (r : Bool) (hr : Hid (anyA l ks = r)) (kl : ks.length ≤ 1000) (kb : ∀ x ∈ ks, x ≤ 1000) {p : Nat} {W : World} (h : Hid (AskAt W p l)) (b : Hid (Below w.heap.size w W)) :
    Calls Try.prog 61 #[.slice (some ⟨W.heap.size, 0, none⟩) ks.length ks.length, .pointer (some ⟨p, 0, none⟩)] (W.alloc (.cells (ks.map dK).toArray 3)) fun e w' => e = .returned (.bool r) ∧ Hid (AskAt w' p l) ∧ Hid (Below w.heap.size w w') := by
  have ba : Below W.heap.size W (W.alloc (.cells (ks.map dK).toArray 3)) := (Below.refl _ _).alloc (Nat.le_refl _) _
  refine (ask_fun l lo hs ks kl kb _ p _ (h.out.up ba) (ki_made W ks)).mono ?_
  rintro e w' ⟨rfl, hb⟩
  have b1 := b.out.trans (ba.mono b.out.size)
  exact ⟨by rw [hr.out], (h.out.up ba).up hb, b1.trans (hb.mono b1.size)⟩
theorem any_one (l : List Ar) (k : Nat) : anyA l [k] = isA l (k : Int) := by
  unfold anyA
  rw [List.any_cons, List.any_nil, Bool.or_false]
def souF (x10 x8 x11 x9 y z : Bool) : Bool := !((x10 && !x8) || (x11 && x9)) && (!y || !z)
set_option maxRecDepth 20000 in
set_option maxHeartbeats 4000000 in
theorem sound_walk (l : List Ar) (lo : Hid (lowA l)) (hs : Hid (l.length ≤ 4611686018427387904)) (v : Value) (x10 x8 x11 x9 y z : Bool) (h10 : Hid (anyA l [10] = x10)) (h8 : Hid (anyA l [8] = x8)) (h11 : Hid (anyA l [11] = x11)) (h9 : Hid (anyA l [9] = x9)) (hy : Hid (anyA l [16, 17] = y)) (hz : Hid (anyA l [13, 14, 15] = z)) (w : World) (h : Ats w v l) :
    Calls Try.prog 52 #[v] w fun e w' => e = .returned (.bool (souF x10 x8 x11 x9 y z)) ∧ Below w.heap.size w w' := by
  have K1 := asks_fun v l w h
  clear h
  go_enter Try.func52, Try.ntmps52
  go_wp2_with fail
  refine K1.mono ?_
  rintro e w1 ⟨rfl, ha, hb⟩
  have a1 : Hid (AskAt w1 w.heap.size l) := ha
  have b1 : Hid (Below w.heap.size w w1) := hb
  clear ha hb K1
  go_wp2_with fail
  refine (ask_on lo.out hs.out [10] _ h10 (by decide) (by decide) a1 b1).mono ?_
  rintro e w2 ⟨rfl, a2, b2⟩
  clear a1 b1
  cases x10 with
  | false =>
    go_wp2_with fail
    refine (ask_on lo.out hs.out [11] _ h11 (by decide) (by decide) a2 b2).mono ?_
    rintro e w5 ⟨rfl, a5, b5⟩
    clear a2 b2
    cases x11 with
    | false =>
      go_wp2_with fail
      refine (ask_on lo.out hs.out [16, 17] _ hy (by decide) (by decide) a5 b5).mono ?_
      rintro e w7 ⟨rfl, a7, b7⟩
      clear a5 b5
      cases y with
      | false =>
        go_wp2_with fail
        go_ret
        exact ⟨rfl, b7.out⟩
      | true =>
        go_wp2_with fail
        refine (ask_on lo.out hs.out [13, 14, 15] _ hz (by decide) (by decide) a7 b7).mono ?_
        rintro e w8 ⟨rfl, a8, b8⟩
        clear a7 b7
        cases z with
        | false =>
          go_wp2_with fail
          go_ret
          exact ⟨rfl, b8.out⟩
        | true =>
          go_wp2_with fail
          go_ret
          exact ⟨rfl, b8.out⟩
    | true =>
      go_wp2_with fail
      refine (ask_on lo.out hs.out [9] _ h9 (by decide) (by decide) a5 b5).mono ?_
      rintro e w6 ⟨rfl, a6, b6⟩
      clear a5 b5
      cases x9 with
      | false =>
        go_wp2_with fail
        refine (ask_on lo.out hs.out [16, 17] _ hy (by decide) (by decide) a6 b6).mono ?_
        rintro e w7 ⟨rfl, a7, b7⟩
        clear a6 b6
        cases y with
        | false =>
          go_wp2_with fail
          go_ret
          exact ⟨rfl, b7.out⟩
        | true =>
          go_wp2_with fail
          refine (ask_on lo.out hs.out [13, 14, 15] _ hz (by decide) (by decide) a7 b7).mono ?_
          rintro e w8 ⟨rfl, a8, b8⟩
          clear a7 b7
          cases z with
          | false =>
            go_wp2_with fail
            go_ret
            exact ⟨rfl, b8.out⟩
          | true =>
            go_wp2_with fail
            go_ret
            exact ⟨rfl, b8.out⟩
      | true =>
        go_wp2_with fail
        go_ret
        exact ⟨rfl, b6.out⟩
  | true =>
    go_wp2_with fail
    refine (ask_on lo.out hs.out [8] _ h8 (by decide) (by decide) a2 b2).mono ?_
    rintro e w3 ⟨rfl, a3, b3⟩
    clear a2 b2
    cases x8 with
    | false =>
      go_wp2_with fail
      go_ret
      exact ⟨rfl, b3.out⟩
    | true =>
      go_wp2_with fail
      refine (ask_on lo.out hs.out [11] _ h11 (by decide) (by decide) a3 b3).mono ?_
      rintro e w5 ⟨rfl, a5, b5⟩
      clear a3 b3
      cases x11 with
      | false =>
        go_wp2_with fail
        refine (ask_on lo.out hs.out [16, 17] _ hy (by decide) (by decide) a5 b5).mono ?_
        rintro e w7 ⟨rfl, a7, b7⟩
        clear a5 b5
        cases y with
        | false =>
          go_wp2_with fail
          go_ret
          exact ⟨rfl, b7.out⟩
        | true =>
          go_wp2_with fail
          refine (ask_on lo.out hs.out [13, 14, 15] _ hz (by decide) (by decide) a7 b7).mono ?_
          rintro e w8 ⟨rfl, a8, b8⟩
          clear a7 b7
          cases z with
          | false =>
            go_wp2_with fail
            go_ret
            exact ⟨rfl, b8.out⟩
          | true =>
            go_wp2_with fail
            go_ret
            exact ⟨rfl, b8.out⟩
      | true =>
        go_wp2_with fail
        refine (ask_on lo.out hs.out [9] _ h9 (by decide) (by decide) a5 b5).mono ?_
        rintro e w6 ⟨rfl, a6, b6⟩
        clear a5 b5
        cases x9 with
        | false =>
          go_wp2_with fail
          refine (ask_on lo.out hs.out [16, 17] _ hy (by decide) (by decide) a6 b6).mono ?_
          rintro e w7 ⟨rfl, a7, b7⟩
          clear a6 b6
          cases y with
          | false =>
            go_wp2_with fail
            go_ret
            exact ⟨rfl, b7.out⟩
          | true =>
            go_wp2_with fail
            refine (ask_on lo.out hs.out [13, 14, 15] _ hz (by decide) (by decide) a7 b7).mono ?_
            rintro e w8 ⟨rfl, a8, b8⟩
            clear a7 b7
            cases z with
            | false =>
              go_wp2_with fail
              go_ret
              exact ⟨rfl, b8.out⟩
            | true =>
              go_wp2_with fail
              go_ret
              exact ⟨rfl, b8.out⟩
        | true =>
          go_wp2_with fail
          go_ret
          exact ⟨rfl, b6.out⟩
/-- sound. -/
theorem sound_fun (l : List Ar) (lo : lowA l) (hs : l.length ≤ 4611686018427387904) (v : Value) (w : World) (h : Ats w v l) :
    Calls Try.prog 52 #[v] w fun e w' => e = .returned (.bool (souB l)) ∧ Below w.heap.size w w' := by
  refine (sound_walk l lo hs v _ _ _ _ _ _ rfl rfl rfl rfl rfl rfl w h).mono ?_
  rintro e w' ⟨rfl, hb⟩
  refine ⟨?_, hb⟩
  rw [any_one, any_one, any_one, any_one]
  rfl
set_option maxRecDepth 20000 in
set_option maxHeartbeats 4000000 in
theorem hid_walk (l : List Ar) (lo : Hid (lowA l)) (hs : Hid (l.length ≤ 4611686018427387904)) (v : Value) (xs : List Nat) (t x8 x9 : Bool) (h8 : Hid (anyA l [8] = x8)) (h9 : Hid (anyA l [9] = x9)) (w : World) (h : Ats w v l)
    (G1 : Hid (∀ W, Below w.heap.size w W → Calls Try.prog 29 #[v, .int .i64 9] W fun e w' => (∃ u, e = .returned (.tuple #[u, .bool t]) ∧ By w' u xs) ∧ Below W.heap.size W w')) :
    Calls Try.prog 16 #[v] w fun e w' => e = .returned (.bool (x8 || (t && !x9))) ∧ Below w.heap.size w w' := by
  have K1 := asks_fun v l w h
  clear h
  go_enter Try.func16, Try.ntmps16
  go_wp2_with fail
  refine K1.mono ?_
  rintro e w1 ⟨rfl, ha, hb⟩
  have a1 : Hid (AskAt w1 w.heap.size l) := ha
  have b1 : Hid (Below w.heap.size w w1) := hb
  have G2 := G1.out w1 hb
  clear ha hb K1 G1
  go_wp2_with fail
  refine G2.mono ?_
  rintro e w2 ⟨⟨u, rfl, -⟩, hb⟩
  have a2 : Hid (AskAt w2 w.heap.size l) := a1.out.up hb
  have b2 : Hid (Below w.heap.size w w2) := b1.out.trans (hb.mono b1.out.size)
  clear hb G2 a1 b1
  go_wp2_with fail
  refine (ask_on lo.out hs.out [8] _ h8 (by decide) (by decide) a2 b2).mono ?_
  rintro e w3 ⟨rfl, a3, b3⟩
  clear a2 b2
  cases x8 with
  | true =>
    go_wp2_with fail
    go_ret
    exact ⟨rfl, b3.out⟩
  | false =>
    cases t with
    | false =>
      go_wp2_with fail
      go_ret
      exact ⟨rfl, b3.out⟩
    | true =>
      go_wp2_with fail
      refine (ask_on lo.out hs.out [9] _ h9 (by decide) (by decide) a3 b3).mono ?_
      rintro e w4 ⟨rfl, a4, b4⟩
      clear a3 b3
      cases x9 with
      | false =>
        go_wp2_with fail
        go_ret
        exact ⟨rfl, b4.out⟩
      | true =>
        go_wp2_with fail
        go_ret
        exact ⟨rfl, b4.out⟩
/-- Hidden. -/
theorem rlHiddenC : RlHiddenC := fun v l w lo hs hz h => by -- function 16
  refine (hid_walk l lo hs v _ _ _ _ rfl rfl w h fun W hW => atGetC v l 9 W lo hs hz (by decide) (by decide) (h.up hW (Nat.le_refl _))).mono ?_
  rintro e w' ⟨rfl, hb⟩
  refine ⟨?_, hb⟩
  rw [any_one, any_one]
  rfl
set_option maxHeartbeats 2000000 in
theorem see_walk (v : Value) (k : Int) (t d : Bool) (xs : List Nat) (w : World)
    (G1 : Calls Try.prog 29 #[v, .int .i64 k] w fun e w' => (∃ u, e = .returned (.tuple #[u, .bool t]) ∧ By w' u xs) ∧ Below w.heap.size w w')
    (H1 : Hid (∀ W, Below w.heap.size w W → Calls Try.prog 16 #[v] W fun e w' => e = .returned (.bool d) ∧ Below W.heap.size W w')) :
    Calls Try.prog 23 #[v, .int .i64 k] w fun e w' => (∃ u, e = .returned (.tuple #[u, .int .i64 (((if t = false then 13 else if k = 4 ∧ d = true then 12 else 0) : Nat) : Int)]) ∧ By w' u (if t = false then [] else if k = 4 ∧ d = true then [] else xs)) ∧ Below w.heap.size w w' := by
  cases t with
  | false =>
    clear H1
    rw [if_pos rfl, if_pos rfl]
    go_enter Try.func23, Try.ntmps23
    go_wp2_with fail
    refine G1.mono ?_
    rintro e w1 ⟨⟨u, rfl, hu⟩, hb⟩
    have b1 : Hid (Below w.heap.size w w1) := hb
    have U1 : Hid (By w1 u xs) := hu
    clear hb hu G1
    go_wp2_with fail
    go_ret2
    exact ⟨⟨_, rfl, By.nil _⟩, b1.out⟩
  | true =>
    rw [if_neg (show ¬ true = false by decide), if_neg (show ¬ true = false by decide)]
    by_cases h4 : k = 4
    · have e4 : (k == 4) = true := beq_iff_eq.2 h4
      cases d with
      | false =>
        rw [if_neg (show ¬ (k = 4 ∧ false = true) by simp), if_neg (show ¬ (k = 4 ∧ false = true) by simp)]
        clear h4
        go_enter Try.func23, Try.ntmps23
        go_wp2_with fail
        refine G1.mono ?_
        rintro e w1 ⟨⟨u, rfl, hu⟩, hb⟩
        have b1 : Hid (Below w.heap.size w w1) := hb
        have U1 : Hid (By w1 u xs) := hu
        clear hb hu G1
        go_wp2_with fail
        refine (H1.out _ b1.out).mono ?_
        rintro e w2 ⟨rfl, hb⟩
        have b2 : Hid (Below w.heap.size w w2) := b1.out.trans (hb.mono b1.out.size)
        have U2 : Hid (By w2 u xs) := U1.out.up hb (Nat.le_refl _)
        clear hb H1 b1 U1
        go_wp2_with fail
        go_ret2
        exact ⟨⟨_, rfl, U2.out⟩, b2.out⟩
      | true =>
        rw [if_pos (show k = 4 ∧ true = true from ⟨h4, rfl⟩), if_pos (show k = 4 ∧ true = true from ⟨h4, rfl⟩)]
        clear h4
        go_enter Try.func23, Try.ntmps23
        go_wp2_with fail
        refine G1.mono ?_
        rintro e w1 ⟨⟨u, rfl, hu⟩, hb⟩
        have b1 : Hid (Below w.heap.size w w1) := hb
        have U1 : Hid (By w1 u xs) := hu
        clear hb hu G1
        go_wp2_with fail
        refine (H1.out _ b1.out).mono ?_
        rintro e w2 ⟨rfl, hb⟩
        have b2 : Hid (Below w.heap.size w w2) := b1.out.trans (hb.mono b1.out.size)
        clear hb H1 b1 U1
        go_wp2_with fail
        go_ret2
        exact ⟨⟨_, rfl, By.nil _⟩, b2.out⟩
    · have e4 : (k == 4) = false := beq_eq_false_iff_ne.2 h4
      rw [if_neg (show ¬ (k = 4 ∧ d = true) from fun h => h4 h.1), if_neg (show ¬ (k = 4 ∧ d = true) from fun h => h4 h.1)]
      clear h4 H1
      go_enter Try.func23, Try.ntmps23
      go_wp2_with fail
      refine G1.mono ?_
      rintro e w1 ⟨⟨u, rfl, hu⟩, hb⟩
      have b1 : Hid (Below w.heap.size w w1) := hb
      have U1 : Hid (By w1 u xs) := hu
      clear hb hu G1
      go_wp2_with fail
      go_ret2
      exact ⟨⟨_, rfl, U1.out⟩, b1.out⟩
/-- See. -/
theorem rlSeeC : RlSeeC := fun v l k w lo hs hz k1 k2 h => by -- function 23
  refine (see_walk v k _ (hidA l) _ w (atGetC v l k w lo hs hz k1 k2 h) fun W hW => rlHiddenC v l W lo hs hz (h.up hW (Nat.le_refl _))).mono ?_
  rintro e w' ⟨⟨u, rfl, hu⟩, hb⟩
  refine ⟨⟨u, ?_, ?_⟩, hb⟩
  · unfold seeE
    cases getA l k <;> rfl
  · unfold seeE
    cases e : getA l k with
    | none =>
      rw [e] at hu
      exact hu
    | some x =>
      rw [e] at hu
      rw [if_neg (show ¬ some x = none from fun h => by cases h)]
      have hu' : By w' u (if k = 4 ∧ hidA l = true then [] else x) := hu
      by_cases hh : k = 4 ∧ hidA l = true
      · rw [if_pos hh] at hu' ⊢
        exact hu'
      · rw [if_neg hh] at hu' ⊢
        exact hu'
set_option maxHeartbeats 2000000 in
theorem may_walk (v : Value) (k : Int) (t d : Bool) (xs : List Nat) (w : World)
    (G1 : Calls Try.prog 29 #[v, .int .i64 k] w fun e w' => (∃ u, e = .returned (.tuple #[u, .bool t]) ∧ By w' u xs) ∧ Below w.heap.size w w')
    (H1 : Hid (∀ W, Below w.heap.size w W → Calls Try.prog 28 #[v, .int .i64 k] W fun e w' => e = .returned (.bool d) ∧ Below W.heap.size W w')) :
    Calls Try.prog 25 #[v, .int .i64 k] w fun e w' => e = .returned (.int .i64 (((if k < 13 ∨ 18 < k then 13 else if t = false then 13 else if d = true then 0 else 12) : Nat) : Int)) ∧ Below w.heap.size w w' := by
  by_cases k1 : k < 13
  · rw [if_pos (.inl k1)]
    clear G1 H1
    go_enter Try.func25, Try.ntmps25
    go_wp2_with fail
    go_ret
    exact ⟨rfl, Below.refl _ _⟩
  by_cases k2 : k > 18
  · rw [if_pos (.inr k2)]
    clear G1 H1
    go_enter Try.func25, Try.ntmps25
    go_wp2_with fail
    go_ret
    exact ⟨rfl, Below.refl _ _⟩
  rw [if_neg (by omega)]
  go_enter Try.func25, Try.ntmps25
  go_wp2_with fail
  refine G1.mono ?_
  rintro e w1 ⟨⟨u, rfl, -⟩, hb⟩
  have b1 : Hid (Below w.heap.size w w1) := hb
  have H2 := H1.out w1 hb
  clear hb G1 H1 k1 k2
  cases t with
  | false =>
    clear H2
    go_wp2_with fail
    go_ret
    exact ⟨rfl, b1.out⟩
  | true =>
    go_wp2_with fail
    refine H2.mono ?_
    rintro e w2 ⟨rfl, hb⟩
    have b2 : Hid (Below w.heap.size w w2) := b1.out.trans (hb.mono b1.out.size)
    clear hb H2 b1
    cases d with
    | false =>
      go_wp2_with fail
      go_ret
      exact ⟨rfl, b2.out⟩
    | true =>
      go_wp2_with fail
      go_ret
      exact ⟨rfl, b2.out⟩
/-- May. -/
theorem rlMayC : RlMayC := fun v l k w lo hs hz k1 k2 h => by -- function 25
  refine (may_walk v k _ _ _ w (atGetC v l k w lo hs hz k1 k2 h) fun W hW => atIsC v l k W lo hs k1 k2 (h.up hW (Nat.le_refl _))).mono ?_
  rintro e w' ⟨rfl, hb⟩
  refine ⟨?_, hb⟩
  unfold mayE
  cases e : getA l k with
  | none => by_cases hh : k < 13 ∨ 18 < k <;> simp [hh]
  | some x =>
    rw [if_neg (show ¬ some x = none from fun h => by cases h)]
    by_cases hh : k < 13 ∨ 18 < k
    · rw [if_pos hh, if_pos hh]
    · rw [if_neg hh, if_neg hh, if_neg (show ¬ (some x).isSome = false from fun h => by cases h)]
      by_cases hx : (some x).getD [] = [1]
      · rw [if_pos hx, if_pos (decide_eq_true hx)]
      · rw [if_neg hx, if_neg (by rw [decide_eq_false hx]; decide)]
end Go.Proofs.Ytepaapiflkkghaa
