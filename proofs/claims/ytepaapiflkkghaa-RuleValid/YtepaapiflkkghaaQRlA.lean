/- Package rule, as it landed: its functions' values: asks (is one of these kinds 1?), among (is a kind one of these?). -/
import Derived.Test.YtepaapiflkkghaaQRuGToRuI
import Derived.Test.YtepaapiflkkghaaQRlK
import Derived.Test.YtepaapiflkkghaaQRlM
import Derived.Test.YtepaapiflkkghaaQAtL
namespace Go.Proofs.Ytepaapiflkkghaa
open Go.RowKit
attribute [local go_sem] World.cell?_alloc_some cell_alloc2 cell_alloc3 cell_alloc4 frozen?_alloc_cells frozen_out
set_option linter.unusedSimpArgs false
/-- A function that asks whether one of these kinds is 1. -/
abbrev askV (p : Nat) : Value := .func (.func 61) #[] #[.pointer (some ⟨p, 0, none⟩)]
abbrev ask1V (p : Nat) : Value := .func (.func 62) #[] #[.pointer (some ⟨p, 0, none⟩)]
/-- A function that asks whether a kind is one of these. -/
abbrev amoV (p : Nat) : Value := .func (.func 58) #[] #[.pointer (some ⟨p, 0, none⟩)]
set_option maxHeartbeats 1000000 in
theorem is1_fun (l : List Ar) (lo : lowA l) (hs : l.length ≤ 4611686018427387904) (v : Value) (k : Int) (k1 : -9223372036854775808 ≤ k) (k2 : k ≤ 9223372036854775807) (p : Nat) (w : World) (HK : Hid (Kn w [(p, [v])])) (HA : Ats w v l) :
    Calls Try.prog 62 #[.int .i64 k, .pointer (some ⟨p, 0, none⟩)] w fun e w' => e = .returned (.bool (isA l k)) ∧ Below w.heap.size w w' := by
  have u0 := Kn.get HK.out 0 0 rfl rfl
  have I1 := atIsC v l k w lo hs k1 k2 HA
  change Calls _ _ _ _ fun e w' => e = .returned (.bool (isA l k)) ∧ _ at I1
  generalize isA l k = r at *
  clear k1 k2 HA lo hs
  go_enter Try.func62, Try.ntmps62
  go_wp2_with fail
  refine I1.mono ?_
  rintro e w1 ⟨rfl, hb⟩
  have b1 : Hid (Below w.heap.size w w1) := hb
  clear hb I1
  go_wp2_with fail
  go_ret
  exact ⟨rfl, b1.out⟩
set_option maxHeartbeats 1000000 in
theorem idxF_nil (a : Option Addr) (c : Nat) (f : Value) (w : World) : Calls Try.prog 71 #[.slice a 0 c, f] w fun e w' => e = .returned (.int .i64 (-1)) ∧ Below w.heap.size w w' := by
  go_enter Try.func71, Try.ntmps71
  go_wp2_with fail
  refine wp_loop_rounds 1 ?_
  rw [rounds_succ]
  go_wp2_with fail
  go_ret
  exact ⟨rfl, Below.refl _ _⟩
set_option maxRecDepth 20000 in
set_option maxHeartbeats 2000000 in
theorem idxF_walk (g : Nat → Bool) (p : Nat) (ks : List Nat) (n : Nat) (hn : ks.length = n) (hs : n ≤ 1000) (b o c : Nat) (w : World) (HA : Hid (Ki w (.slice (some ⟨b, o, none⟩) n c) ks))
    (F1 : Hid (∀ W x, Below w.heap.size w W → x ∈ ks → Calls Try.prog 62 #[.int .i64 (x : Int), .pointer (some ⟨p, 0, none⟩)] W fun e w' => e = .returned (.bool (g x)) ∧ Below W.heap.size W w')) :
    Calls Try.prog 71 #[.slice (some ⟨b, o, none⟩) n c, ask1V p] w fun e w' => (∃ q : Int, e = .returned (.int .i64 q) ∧ (q ≥ 0 ↔ ∃ x ∈ ks, g x = true)) ∧ Below w.heap.size w w' := by
  have HN : Hid (ks.length = n ∧ (n : Int) ≤ 1000) := ⟨hn, by omega⟩
  clear hn hs
  go_enter Try.func71, Try.ntmps71
  go_wp2_with fail
  go_loopw [8] (fun i wr => ∃ j : Nat, j ≤ n ∧ i = .int .i64 (j : Int) ∧ Hid (∀ (i y : Nat), i < j → ks[i]? = some y → g y = false) ∧ Hid (Below w.heap.size w wr)) (fun i _ => n - (intOf i).toNat)
  case atStart => exact ⟨0, Nat.zero_le _, rfl, fun i y hi => absurd hi (Nat.not_lt_zero _), Below.refl _ _⟩
  case round =>
    obtain ⟨j, hj, rfl, no, bk⟩ := hrel
    by_cases hlt : j < n
    · have i1 : (j : Int) < (n : Int) := by omega
      have i0 : (0 : Int) ≤ (j : Int) := by omega
      have jn : (n : Int) ≤ 1000 := HN.out.2
      have HJ : Hid (j < n) := hlt
      obtain ⟨x, hx⟩ : ∃ x, Hid (ks[j]? = some x) := ⟨ks[j]'(by have := HN.out; omega), List.getElem?_eq_getElem _⟩
      have u0 : wr.cell? ⟨b, o + j, none⟩ = some (.int .i64 (x : Int)) := (HA.out.up bk.out).cell hx.out
      have C1 := F1.out wr x bk.out (List.mem_of_getElem? hx.out)
      obtain ⟨z, hz⟩ : ∃ z, Hid (g x = z) := ⟨_, rfl⟩
      rw [hz.out] at C1
      clear hlt hj
      go_wp2_with fail
      refine C1.mono ?_
      rintro e w2 ⟨rfl, hb⟩
      have b2 : Hid (Below w.heap.size w w2) := bk.out.trans (hb.mono bk.out.size)
      clear hb C1 bk u0
      cases z with
      | true =>
        have HE : Hid ((j : Int) ≥ 0 ↔ ∃ x ∈ ks, g x = true) := ⟨fun _ => ⟨x, List.mem_of_getElem? hx.out, hz.out⟩, fun _ => by omega⟩
        go_wp2_with fail
        go_ret
        exact ⟨⟨_, rfl, HE.out⟩, b2.out⟩
      | false =>
        have no' : Hid (∀ (i y : Nat), i < j + 1 → ks[i]? = some y → g y = false) := fun i y hi hy => by
          by_cases e : i = j
          · rw [e, hx.out] at hy
            obtain rfl := Option.some.inj hy
            exact hz.out
          · exact no.out i y (by omega) hy
        go_wp2_with fail
        go_roundw
        case rel => exact ⟨j + 1, HJ.out, by go_num, no', b2⟩
        case measure => simp [intOf]; have := HJ.out; omega
    · have i1 : ¬ (j : Int) < (n : Int) := by omega
      have HE : Hid ((-1 : Int) ≥ 0 ↔ ∃ x ∈ ks, g x = true) := ⟨fun h => absurd h (by decide), fun ⟨x, hm, he⟩ => by
        obtain ⟨i, hi, rfl⟩ := List.getElem_of_mem hm
        have := no.out i ks[i] (by have := HN.out; omega) (List.getElem?_eq_getElem hi)
        rw [this] at he
        cases he⟩
      clear hlt hj
      go_wp2_with fail
      go_ret
      exact ⟨⟨_, rfl, HE.out⟩, bk.out⟩
set_option maxHeartbeats 1000000 in
theorem conF_walk (f : Value) (r : Bool) (s : Value) (w : World) (IX : Calls Try.prog 71 #[s, f] w fun e w' => (∃ q : Int, e = .returned (.int .i64 q) ∧ (q ≥ 0 ↔ r = true)) ∧ Below w.heap.size w w') :
    Calls Try.prog 63 #[s, f] w fun e w' => e = .returned (.bool r) ∧ Below w.heap.size w w' := by
  go_enter Try.func63, Try.ntmps63
  go_wp2_with fail
  refine IX.mono ?_
  rintro e w1 ⟨⟨q, rfl, hq⟩, hb1⟩
  have b1 : Hid (Below w.heap.size w w1) := hb1
  have er : Hid (decide (q ≥ 0) = r) := by
    show _ = _
    cases r with
    | true => exact decide_eq_true (hq.2 rfl)
    | false => exact decide_eq_false fun h => by cases hq.1 h
  clear hb1 IX hq
  go_wp2_with fail
  go_ret
  have := er.out
  first | (rw [this]; exact ⟨rfl, b1.out⟩) | (simp at this ⊢; rw [this]; exact b1.out)
/-- asks(l): the function that it answers. -/
theorem asked1_walk (r : Bool) (s : Value) (p : Nat) (w : World) (C1 : Calls Try.prog 63 #[s, ask1V p] w fun e w' => e = .returned (.bool r) ∧ Below w.heap.size w w') :
    Calls Try.prog 61 #[s, .pointer (some ⟨p, 0, none⟩)] w fun e w' => e = .returned (.bool r) ∧ Below w.heap.size w w' := by
  go_enter Try.func61, Try.ntmps61
  go_wp2_with fail
  refine C1.mono ?_
  rintro e w1 ⟨rfl, hb1⟩
  have b1 : Hid (Below w.heap.size w w1) := hb1
  clear hb1 C1
  go_wp2_with fail
  go_ret
  exact ⟨rfl, b1.out⟩
/-- In block p lies a list, for a function that asks for its kinds. -/
def AskAt (w : World) (p : Nat) (l : List Ar) : Prop := ∃ v, Kn w [(p, [v])] ∧ Ats w v l
theorem AskAt.up {W w1 : World} {p : Nat} {l : List Ar} (h : AskAt W p l) (hb : Below W.heap.size W w1) : AskAt w1 p l := by
  obtain ⟨v, h1, h2⟩ := h
  exact ⟨v, h1.up hb, h2.up hb (Nat.le_refl _)⟩
theorem ask_fun (l : List Ar) (lo : lowA l) (hs : l.length ≤ 4611686018427387904) (ks : List Nat) (kl : ks.length ≤ 1000) (kb : ∀ x ∈ ks, x ≤ 1000) (s : Value) (p : Nat) (w : World) (h : AskAt w p l) (hk : Ki w s ks) :
    Calls Try.prog 61 #[s, .pointer (some ⟨p, 0, none⟩)] w fun e w' => e = .returned (.bool (anyA l ks)) ∧ Below w.heap.size w w' := by
  obtain ⟨v, h1, h2⟩ := h
  refine asked1_walk _ s p w (conF_walk _ _ s w ?_)
  obtain ⟨a, c, rfl⟩ := ki_parts hk
  by_cases h0 : ks.length = 0
  · rw [h0]
    refine (idxF_nil a c _ w).mono ?_
    rintro e w' ⟨rfl, hb⟩
    have : ks = [] := List.length_eq_zero_iff.1 h0
    subst this
    exact ⟨⟨-1, rfl, fun h => absurd h (by decide), fun h => by cases h⟩, hb⟩
  · obtain ⟨b, o, rfl⟩ := hk.addr (by omega)
    refine (idxF_walk (fun k => isA l (k : Int)) p ks _ rfl kl b o c w hk fun W x hW hx => is1_fun l lo hs v x (by omega) (by have := kb x hx; omega) p W (h1.up hW) (h2.up hW (Nat.le_refl _))).mono ?_
    rintro e w' ⟨⟨q, he, hq⟩, hb⟩
    exact ⟨⟨q, he, hq.trans List.any_eq_true.symm⟩, hb⟩
set_option maxHeartbeats 1000000 in
theorem asks_fun (v : Value) (l : List Ar) (w : World) (h : Ats w v l) : Calls Try.prog 53 #[v] w fun e w' => e = .returned (askV w.heap.size) ∧ AskAt w' w.heap.size l ∧ Below w.heap.size w w' := by
  obtain ⟨a, c, rfl⟩ := ats_parts h
  obtain ⟨v, hv⟩ : ∃ v, Hid (v = Value.slice a l.length c) := ⟨_, rfl⟩
  rw [← hv.out] at h
  have s1 : Hid (AskAt (w.alloc (.cells #[v] 22)) w.heap.size l) := ⟨v, (Kn.nil w).al [v] 22 rfl, h.up ((Below.refl _ _).alloc (Nat.le_refl _) _) (Nat.le_refl _)⟩
  have b1 : Hid (Below w.heap.size w (w.alloc (.cells #[v] 22))) := (Below.refl _ _).alloc (Nat.le_refl _) _
  rw [hv.out] at s1 b1
  clear h hv
  go_enter Try.func53, Try.ntmps53
  go_wp2_with fail
  go_ret
  exact ⟨rfl, s1.out, b1.out⟩
set_option maxHeartbeats 1000000 in
theorem idxK_nil (a : Option Addr) (c : Nat) (k : Int) (w : World) : Calls Try.prog 69 #[.slice a 0 c, .int .i64 k] w fun e w' => e = .returned (.int .i64 (-1)) ∧ Below w.heap.size w w' := by
  go_enter Try.func69, Try.ntmps69
  go_wp2_with fail
  refine wp_loop_rounds 1 ?_
  rw [rounds_succ]
  go_wp2_with fail
  go_ret
  exact ⟨rfl, Below.refl _ _⟩
set_option maxRecDepth 20000 in
set_option maxHeartbeats 2000000 in
theorem idxK_walk (k : Int) (ks : List Nat) (n : Nat) (hn : ks.length = n) (hs : n ≤ 1000) (b o c : Nat) (w : World) (HA : Hid (Ki w (.slice (some ⟨b, o, none⟩) n c) ks)) :
    Calls Try.prog 69 #[.slice (some ⟨b, o, none⟩) n c, .int .i64 k] w fun e w' => (∃ q : Int, e = .returned (.int .i64 q) ∧ (q ≥ 0 ↔ ∃ x ∈ ks, k = (x : Int))) ∧ Below w.heap.size w w' := by
  have HN : Hid (ks.length = n ∧ (n : Int) ≤ 1000) := ⟨hn, by omega⟩
  clear hn hs
  go_enter Try.func69, Try.ntmps69
  go_wp2_with fail
  go_loopw [8] (fun i wr => ∃ j : Nat, j ≤ n ∧ i = .int .i64 (j : Int) ∧ Hid (∀ (i y : Nat), i < j → ks[i]? = some y → k ≠ (y : Int)) ∧ Hid (Below w.heap.size w wr)) (fun i _ => n - (intOf i).toNat)
  case atStart => exact ⟨0, Nat.zero_le _, rfl, fun i y hi => absurd hi (Nat.not_lt_zero _), Below.refl _ _⟩
  case round =>
    obtain ⟨j, hj, rfl, no, bk⟩ := hrel
    by_cases hlt : j < n
    · have i1 : (j : Int) < (n : Int) := by omega
      have i0 : (0 : Int) ≤ (j : Int) := by omega
      have jn : (n : Int) ≤ 1000 := HN.out.2
      have HJ : Hid (j < n) := hlt
      obtain ⟨x, hx⟩ : ∃ x, Hid (ks[j]? = some x) := ⟨ks[j]'(by have := HN.out; omega), List.getElem?_eq_getElem _⟩
      have u0 : wr.cell? ⟨b, o + j, none⟩ = some (.int .i64 (x : Int)) := (HA.out.up bk.out).cell hx.out
      clear hlt hj
      by_cases hz : k = (x : Int)
      · have HE : Hid ((j : Int) ≥ 0 ↔ ∃ x ∈ ks, k = (x : Int)) := ⟨fun _ => ⟨x, List.mem_of_getElem? hx.out, hz⟩, fun _ => by omega⟩
        have e1 : (k == (x : Int)) = true := beq_iff_eq.2 hz
        clear hz
        go_wp2_with fail
        go_ret
        exact ⟨⟨_, rfl, HE.out⟩, bk.out⟩
      · have no' : Hid (∀ (i y : Nat), i < j + 1 → ks[i]? = some y → k ≠ (y : Int)) := fun i y hi hy => by
          by_cases e : i = j
          · rw [e, hx.out] at hy
            obtain rfl := Option.some.inj hy
            exact hz
          · exact no.out i y (by omega) hy
        have e1 : (k == (x : Int)) = false := beq_eq_false_iff_ne.2 hz
        clear hz
        go_wp2_with fail
        go_roundw
        case rel => exact ⟨j + 1, HJ.out, by go_num, no', bk⟩
        case measure => simp [intOf]; have := HJ.out; omega
    · have i1 : ¬ (j : Int) < (n : Int) := by omega
      have HE : Hid ((-1 : Int) ≥ 0 ↔ ∃ x ∈ ks, k = (x : Int)) := ⟨fun h => absurd h (by decide), fun ⟨x, hm, he⟩ => by
        obtain ⟨i, hi, rfl⟩ := List.getElem_of_mem hm
        exact absurd he (no.out i ks[i] (by have := HN.out; omega) (List.getElem?_eq_getElem hi))⟩
      clear hlt hj
      go_wp2_with fail
      go_ret
      exact ⟨⟨_, rfl, HE.out⟩, bk.out⟩
set_option maxHeartbeats 1000000 in
theorem conK_walk (k : Int) (r : Bool) (s : Value) (w : World) (IX : Calls Try.prog 69 #[s, .int .i64 k] w fun e w' => (∃ q : Int, e = .returned (.int .i64 q) ∧ (q ≥ 0 ↔ r = true)) ∧ Below w.heap.size w w') :
    Calls Try.prog 59 #[s, .int .i64 k] w fun e w' => e = .returned (.bool r) ∧ Below w.heap.size w w' := by
  go_enter Try.func59, Try.ntmps59
  go_wp2_with fail
  refine IX.mono ?_
  rintro e w1 ⟨⟨q, rfl, hq⟩, hb1⟩
  have b1 : Hid (Below w.heap.size w w1) := hb1
  have er : Hid (decide (q ≥ 0) = r) := by
    show _ = _
    cases r with
    | true => exact decide_eq_true (hq.2 rfl)
    | false => exact decide_eq_false fun h => by cases hq.1 h
  clear hb1 IX hq
  go_wp2_with fail
  go_ret
  have := er.out
  first | (rw [this]; exact ⟨rfl, b1.out⟩) | (simp at this ⊢; rw [this]; exact b1.out)
/-- In block p lies a row of kinds, for a function that asks whether a kind is among them. -/
def AmoAt (w : World) (p : Nat) (ks : List Nat) : Prop := ∃ v, Kn w [(p, [v])] ∧ Ki w v ks
theorem AmoAt.up {W w1 : World} {p : Nat} {ks : List Nat} (h : AmoAt W p ks) (hb : Below W.heap.size W w1) : AmoAt w1 p ks := by
  obtain ⟨v, h1, h2⟩ := h
  exact ⟨v, h1.up hb, h2.up hb⟩
set_option maxHeartbeats 1000000 in
theorem amo_walk (v : Value) (k : Int) (r : Bool) (p : Nat) (w : World) (HK : Hid (Kn w [(p, [v])])) (C1 : Calls Try.prog 59 #[v, .int .i64 k] w fun e w' => e = .returned (.bool r) ∧ Below w.heap.size w w') :
    Calls Try.prog 58 #[.int .i64 k, .pointer (some ⟨p, 0, none⟩)] w fun e w' => e = .returned (.bool r) ∧ Below w.heap.size w w' := by
  have u0 := Kn.get HK.out 0 0 rfl rfl
  go_enter Try.func58, Try.ntmps58
  go_wp2_with fail
  refine C1.mono ?_
  rintro e w1 ⟨rfl, hb1⟩
  have b1 : Hid (Below w.heap.size w w1) := hb1
  clear hb1 C1
  go_wp2_with fail
  go_ret
  exact ⟨rfl, b1.out⟩
theorem amo_fun (ks : List Nat) (kl : ks.length ≤ 1000) (k : Int) (p : Nat) (w : World) (h : AmoAt w p ks) :
    Calls Try.prog 58 #[.int .i64 k, .pointer (some ⟨p, 0, none⟩)] w fun e w' => e = .returned (.bool (amoA ks k)) ∧ Below w.heap.size w w' := by
  obtain ⟨v, h1, hk⟩ := h
  refine amo_walk v k _ p w h1 (conK_walk k _ v w ?_)
  obtain ⟨a, c, rfl⟩ := ki_parts hk
  by_cases h0 : ks.length = 0
  · rw [h0]
    refine (idxK_nil a c k w).mono ?_
    rintro e w' ⟨rfl, hb⟩
    have : ks = [] := List.length_eq_zero_iff.1 h0
    subst this
    exact ⟨⟨-1, rfl, fun h => absurd h (by decide), fun h => by cases h⟩, hb⟩
  · obtain ⟨b, o, rfl⟩ := hk.addr (by omega)
    refine (idxK_walk k ks _ rfl kl b o c w hk).mono ?_
    rintro e w' ⟨⟨q, he, hq⟩, hb⟩
    refine ⟨⟨q, he, hq.trans ?_⟩, hb⟩
    unfold amoA
    rw [List.any_eq_true]
    exact ⟨fun ⟨x, hx, e⟩ => ⟨x, hx, beq_iff_eq.2 e⟩, fun ⟨x, hx, e⟩ => ⟨x, hx, beq_iff_eq.1 e⟩⟩
set_option maxHeartbeats 1000000 in
theorem among_fun (v : Value) (ks : List Nat) (w : World) (h : Ki w v ks) : Calls Try.prog 35 #[v] w fun e w' => e = .returned (amoV w.heap.size) ∧ AmoAt w' w.heap.size ks ∧ Below w.heap.size w w' := by
  obtain ⟨a, c, rfl⟩ := ki_parts h
  obtain ⟨v, hv⟩ : ∃ v, Hid (v = Value.slice a ks.length c) := ⟨_, rfl⟩
  rw [← hv.out] at h
  have s1 : Hid (AmoAt (w.alloc (.cells #[v] 23)) w.heap.size ks) := ⟨v, (Kn.nil w).al [v] 23 rfl, h.up ((Below.refl _ _).alloc (Nat.le_refl _) _)⟩
  have b1 : Hid (Below w.heap.size w (w.alloc (.cells #[v] 23))) := (Below.refl _ _).alloc (Nat.le_refl _) _
  rw [hv.out] at s1 b1
  clear h hv
  go_enter Try.func35, Try.ntmps35
  go_wp2_with fail
  go_ret
  exact ⟨rfl, s1.out, b1.out⟩
end Go.Proofs.Ytepaapiflkkghaa
