/- Package rule, as it landed: kinds of a class; a class's size; one byte as a flag; EqualFunc over kinds. -/
import Derived.Test.YtepaapiflkkghaaQRlA
import Derived.Test.YtepaapiflkkghaaQRuSeToRuMk
import Derived.Test.YtepaapiflkkghaaQDerWToAtA
namespace Go.Proofs.Ytepaapiflkkghaa
open Go.RowKit
attribute [local go_sem] World.cell?_alloc_some cell_alloc2 cell_alloc3 cell_alloc4 frozen?_alloc_cells frozen_out
set_option linter.unusedSimpArgs false
theorem wp_appK0 {ops : Array Oper} {rest : List Oper} {o : Oper} {a : Act} {Q : Exit → Act → World → Prop} {w : World} (hgd : o.guard = none) (s x : Operand)
    (ho : o.op = .call { callee := .builtin .append, args := #[s, x], argTypes := #[23, 23] })
    (B : Nat) (v : Value) (l : List Nat) (hs : a.eval s = v) (hown : Ko w B v l) (hx : a.eval x = .slice none 0 0)
    (h : wpList Try.prog ops Q rest (a.put o.dst v) w) : wpList Try.prog ops Q (o :: rest) a w := by
  obtain ⟨i0, hi, hz0, hz1, hz2⟩ := info_parts iIntK
  exact wpList_append_own_none hgd s x 23 ho B 3 i0 1 uIntsK hi v l.length (l.map dK) hs hown hx h
/-- One to n. -/
def upL (n : Nat) : List Nat := (List.range n).map fun i => i + 1
theorem upL_succ (n : Nat) : upL (n + 1) = upL n ++ [n + 1] := by
  unfold upL
  rw [List.range_succ, List.map_append]
  rfl
theorem upL_len (n : Nat) : (upL n).length = n := by
  unfold upL
  rw [List.length_map, List.length_range]
set_option maxRecDepth 20000 in
set_option maxHeartbeats 2000000 in
theorem upTo_0 (m : Nat) (hm : m ≤ 17) (w : World) : Calls Try.prog 49 #[.int .i64 (m : Int), .slice none 0 0] w fun e w' => (∃ u, e = .returned u ∧ Ki w' u (upL m)) ∧ Below w.heap.size w w' := by
  have HM : Hid ((m : Int) ≤ 17) := by show _ ≤ _; omega
  have o0 : Hid (Ko w w.heap.size (.slice none 0 0) (upL 0)) := Ko.nil _ _
  clear hm
  go_enter Try.func49, Try.ntmps49
  go_wp2_with fail
  go_loopw [5, 6] (fun u i wr => ∃ j : Nat, j ≤ m ∧ i = .int .i64 ((j : Int) + 1) ∧ Hid (Ko wr w.heap.size u (upL j)) ∧ Hid (Below w.heap.size w wr)) (fun _ i _ => m + 2 - (intOf i).toNat)
  case atStart => exact ⟨0, Nat.zero_le _, rfl, o0, Below.refl _ _⟩
  case round =>
    clear o0
    obtain ⟨j, hj, rfl, ok, bk⟩ := hrel
    by_cases hlt : j < m
    · have i1 : (j : Int) + 1 ≤ (m : Int) := by omega
      have m17 := HM.out
      have HJ : Hid (j < m) := hlt
      have ba : Below wr.heap.size wr (wr.alloc (.cells #[.int .i64 ((j : Int) + 1)] 3)) := (Below.refl _ _).alloc (Nat.le_refl _) _
      have oa : Hid (Ko (wr.alloc (.cells #[.int .i64 ((j : Int) + 1)] 3)) w.heap.size u5 (upL j)) := ok.out.up ba
      have bb : Hid (Below w.heap.size w (wr.alloc (.cells #[.int .i64 ((j : Int) + 1)] 3))) := bk.out.trans (ba.mono bk.out.size)
      have cy : Hid ((wr.alloc (.cells #[.int .i64 ((j : Int) + 1)] 3)).cell? ⟨wr.heap.size, 0, none⟩ = some (dK (j + 1))) := Kn.get ((Kn.nil wr).al [.int .i64 ((j : Int) + 1)] 3 rfl) 0 0 rfl rfl
      clear ok bk ba hlt hj
      go_wp2_with (refine wp_appK rfl _ _ rfl w.heap.size _ (upL j) wr.heap.size (j + 1) rfl oa.out rfl cy.out (by rw [upL_len]; have := HJ.out; have := HM.out; omega) bb.out.size ?_)
      intro v7 w7 ho hg
      have b7 : Hid (Below w.heap.size w w7) := Below.grown bb.out hg bb.out.size fun g hg => (World.ownsRow.lt oa.out g hg).1
      have o7 : Hid (Ko w7 w.heap.size v7 (upL (j + 1))) := by
        show Ko _ _ _ _
        rw [upL_succ]
        exact ho
      clear ho hg oa bb cy
      go_wp2_with fail
      go_roundw
      case rel => exact ⟨j + 1, HJ.out, by first | rfl | go_num, o7, b7⟩
      case measure => simp [intOf]; have := HJ.out; omega
    · have i1 : ¬ (j : Int) + 1 ≤ (m : Int) := by omega
      obtain rfl : j = m := by omega
      clear hlt hj
      go_wp2_with (refine wp_appK0 rfl _ _ rfl w.heap.size _ (upL j) rfl ok.out rfl ?_)
      go_wp2_with fail
      go_ret
      exact ⟨⟨_, rfl, ok.out.ki⟩, bk.out⟩
set_option maxRecDepth 20000 in
set_option maxHeartbeats 2000000 in
theorem upTo_1 (m : Nat) (hm : m ≤ 17) (b y : Nat) (w : World) (hy : Hid (w.cell? ⟨b, 0, none⟩ = some (dK y))) : Calls Try.prog 49 #[.int .i64 (m : Int), .slice (some ⟨b, 0, none⟩) 1 1] w fun e w' => (∃ u, e = .returned u ∧ Ki w' u (upL m ++ [y])) ∧ Below w.heap.size w w' := by
  have HM : Hid ((m : Int) ≤ 17) := by show _ ≤ _; omega
  have o0 : Hid (Ko w w.heap.size (.slice none 0 0) (upL 0)) := Ko.nil _ _
  clear hm
  go_enter Try.func49, Try.ntmps49
  go_wp2_with fail
  go_loopw [5, 6] (fun u i wr => ∃ j : Nat, j ≤ m ∧ i = .int .i64 ((j : Int) + 1) ∧ Hid (Ko wr w.heap.size u (upL j)) ∧ Hid (Below w.heap.size w wr)) (fun _ i _ => m + 2 - (intOf i).toNat)
  case atStart => exact ⟨0, Nat.zero_le _, rfl, o0, Below.refl _ _⟩
  case round =>
    clear o0
    obtain ⟨j, hj, rfl, ok, bk⟩ := hrel
    by_cases hlt : j < m
    · have i1 : (j : Int) + 1 ≤ (m : Int) := by omega
      have m17 := HM.out
      have HJ : Hid (j < m) := hlt
      have ba : Below wr.heap.size wr (wr.alloc (.cells #[.int .i64 ((j : Int) + 1)] 3)) := (Below.refl _ _).alloc (Nat.le_refl _) _
      have oa : Hid (Ko (wr.alloc (.cells #[.int .i64 ((j : Int) + 1)] 3)) w.heap.size u5 (upL j)) := ok.out.up ba
      have bb : Hid (Below w.heap.size w (wr.alloc (.cells #[.int .i64 ((j : Int) + 1)] 3))) := bk.out.trans (ba.mono bk.out.size)
      have cy : Hid ((wr.alloc (.cells #[.int .i64 ((j : Int) + 1)] 3)).cell? ⟨wr.heap.size, 0, none⟩ = some (dK (j + 1))) := Kn.get ((Kn.nil wr).al [.int .i64 ((j : Int) + 1)] 3 rfl) 0 0 rfl rfl
      clear ok bk ba hlt hj
      go_wp2_with (refine wp_appK rfl _ _ rfl w.heap.size _ (upL j) wr.heap.size (j + 1) rfl oa.out rfl cy.out (by rw [upL_len]; have := HJ.out; have := HM.out; omega) bb.out.size ?_)
      intro v7 w7 ho hg
      have b7 : Hid (Below w.heap.size w w7) := Below.grown bb.out hg bb.out.size fun g hg => (World.ownsRow.lt oa.out g hg).1
      have o7 : Hid (Ko w7 w.heap.size v7 (upL (j + 1))) := by
        show Ko _ _ _ _
        rw [upL_succ]
        exact ho
      clear ho hg oa bb cy
      go_wp2_with fail
      go_roundw
      case rel => exact ⟨j + 1, HJ.out, by first | rfl | go_num, o7, b7⟩
      case measure => simp [intOf]; have := HJ.out; omega
    · have i1 : ¬ (j : Int) + 1 ≤ (m : Int) := by omega
      obtain rfl : j = m := by omega
      clear hlt hj
      have cy : Hid (wr.cell? ⟨b, 0, none⟩ = some (dK y)) := (bk.out.cell (p := ⟨b, 0, none⟩) (lt_of_cellB hy.out)).trans hy.out
      go_wp2_with (refine wp_appK rfl _ _ rfl w.heap.size _ (upL j) b y rfl ok.out rfl cy.out (by rw [upL_len]; have := HM.out; omega) bk.out.size ?_)
      intro v7 w7 ho hg
      have b7 : Hid (Below w.heap.size w w7) := Below.grown bk.out hg bk.out.size fun g hg => (World.ownsRow.lt ok.out g hg).1
      have o7 : Hid (Ki w7 v7 (upL j ++ [y])) := Ko.ki ho
      clear ho hg ok bk cy
      go_wp2_with fail
      go_ret
      exact ⟨⟨_, rfl, o7.out⟩, b7.out⟩
set_option maxRecDepth 20000 in
set_option maxHeartbeats 2000000 in
/-- Kinds. -/
theorem rlKindsC : RlKindsC := fun c w hc => by -- function 13
  have HC : Hid (c < 256) := hc
  clear hc
  by_cases c1 : c = 1
  · subst c1
    have U1 := upTo_0 7 (by decide) w
    clear HC
    go_enter Try.func13, Try.ntmps13
    go_wp2_with fail
    refine U1.mono ?_
    rintro e w1 ⟨⟨u, rfl, hu⟩, hb⟩
    have U2 : Hid (Ki w1 u (kndN 1 18)) := hu
    have b1 : Hid (Below w.heap.size w w1) := hb
    clear hu hb U1
    go_wp2_with fail
    go_ret
    exact ⟨⟨_, rfl, U2.out⟩, b1.out⟩
  by_cases c2 : c = 2
  · subst c2
    clear c1
    have U1 := upTo_0 17 (by decide) w
    clear HC
    go_enter Try.func13, Try.ntmps13
    go_wp2_with fail
    refine U1.mono ?_
    rintro e w1 ⟨⟨u, rfl, hu⟩, hb⟩
    have U2 : Hid (Ki w1 u (kndN 2 18)) := hu
    have b1 : Hid (Below w.heap.size w w1) := hb
    clear hu hb U1
    go_wp2_with fail
    go_ret
    exact ⟨⟨_, rfl, U2.out⟩, b1.out⟩
  by_cases c3 : c = 3
  · subst c3
    clear c1 c2
    have U1 := upTo_1 7 (by decide) w.heap.size 14 (w.alloc (.cells #[.int .i64 14] 3)) (Kn.get ((Kn.nil w).al [.int .i64 14] 3 rfl) 0 0 rfl rfl)
    have b0 : Hid (Below w.heap.size w (w.alloc (.cells #[.int .i64 14] 3))) := (Below.refl _ _).alloc (Nat.le_refl _) _
    clear HC
    go_enter Try.func13, Try.ntmps13
    go_wp2_with fail
    refine U1.mono ?_
    rintro e w1 ⟨⟨u, rfl, hu⟩, hb⟩
    have U2 : Hid (Ki w1 u (kndN 3 18)) := hu
    have b1 : Hid (Below w.heap.size w w1) := b0.out.trans (hb.mono b0.out.size)
    clear hu hb U1 b0
    go_wp2_with fail
    go_ret
    exact ⟨⟨_, rfl, U2.out⟩, b1.out⟩
  by_cases c4 : c = 4
  · subst c4
    clear c1 c2 c3
    have U1 := upTo_1 13 (by decide) w.heap.size 18 (w.alloc (.cells #[.int .i64 18] 3)) (Kn.get ((Kn.nil w).al [.int .i64 18] 3 rfl) 0 0 rfl rfl)
    have b0 : Hid (Below w.heap.size w (w.alloc (.cells #[.int .i64 18] 3))) := (Below.refl _ _).alloc (Nat.le_refl _) _
    clear HC
    go_enter Try.func13, Try.ntmps13
    go_wp2_with fail
    refine U1.mono ?_
    rintro e w1 ⟨⟨u, rfl, hu⟩, hb⟩
    have U2 : Hid (Ki w1 u (kndN 4 18)) := hu
    have b1 : Hid (Below w.heap.size w w1) := b0.out.trans (hb.mono b0.out.size)
    clear hu hb U1 b0
    go_wp2_with fail
    go_ret
    exact ⟨⟨_, rfl, U2.out⟩, b1.out⟩
  · have K0 : Hid (Ki w (.slice none 0 0) (kndN c 18)) := by
      show Ki _ _ _
      rw [kndN_no (by omega)]
      exact (Ko.nil w 0).ki
    have e1 : ((c : Int) == 1) = false := beq_eq_false_iff_ne.2 (by omega)
    have e2 : ((c : Int) == 2) = false := beq_eq_false_iff_ne.2 (by omega)
    have e3 : ((c : Int) == 3) = false := beq_eq_false_iff_ne.2 (by omega)
    have e4 : ((c : Int) == 4) = false := beq_eq_false_iff_ne.2 (by omega)
    clear c1 c2 c3 c4 HC
    go_enter Try.func13, Try.ntmps13
    go_wp2_with fail
    go_ret
    exact ⟨⟨_, rfl, K0.out⟩, Below.refl _ _⟩
/-- A flag as a value. -/
theorem bit_fun (b : Bool) (w : World) : Calls Try.prog 70 #[.bool b] w fun e w' => (∃ u, e = .returned u ∧ Bk w' u (flgV b)) ∧ Below w.heap.size w w' := by
  have b1 : ∀ y : Nat, Hid (Below w.heap.size w (w.alloc (.cells #[.int .u8 (y : Int)] 5))) := fun y => (Below.refl _ _).alloc (Nat.le_refl _) _
  have k1 : ∀ y : Nat, Hid (Bk (w.alloc (.cells #[.int .u8 (y : Int)] 5)) (.slice (some ⟨w.heap.size, 0, none⟩) 1 1) [y]) := fun y => ⟨by_one w y, fun g hg => by
    cases hg
    exact ⟨_, _, heap_alloc_new w _⟩⟩
  cases b with
  | true =>
    have b2 := b1 1
    have k2 := k1 1
    clear b1 k1
    go_enter Try.func70, Try.ntmps70
    go_wp2_with (refine wp_bs1 rfl _ rfl 1 rfl ?_)
    go_wp2_with fail
    go_ret
    exact ⟨⟨_, rfl, k2.out⟩, b2.out⟩
  | false =>
    have b2 := b1 0
    have k2 := k1 0
    clear b1 k1
    go_enter Try.func70, Try.ntmps70
    go_wp2_with (refine wp_bs1 rfl _ rfl 0 rfl ?_)
    go_wp2_with fail
    go_ret
    exact ⟨⟨_, rfl, k2.out⟩, b2.out⟩
set_option maxHeartbeats 2000000 in
/-- Has a value of a class that size? -/
theorem size_fun (c n : Nat) (c1 : 1 ≤ c) (c4 : c ≤ 4) (w : World) : Calls Try.prog 38 #[.int .u8 (c : Int), .int .i64 (n : Int)] w fun e w' => e = .returned (.bool (sizB c n)) ∧ Below w.heap.size w w' := by
  have hc : c = 1 ∨ c = 2 ∨ c = 3 ∨ c = 4 := by omega
  rcases hc with rfl | rfl | rfl | rfl
  · rw [show sizB 1 n = true from decide_eq_true (.inl rfl)]
    clear c1 c4
    go_enter Try.func38, Try.ntmps38
    go_wp2_with fail
    go_ret
    exact ⟨rfl, Below.refl _ _⟩
  · clear c1 c4
    by_cases n1 : n = 16
    · subst n1
      rw [show sizB 2 16 = true from rfl]
      go_enter Try.func38, Try.ntmps38
      go_wp2_with fail
      go_ret
      exact ⟨rfl, Below.refl _ _⟩
    by_cases n2 : n = 24
    · subst n2
      rw [show sizB 2 24 = true from rfl]
      clear n1
      go_enter Try.func38, Try.ntmps38
      go_wp2_with fail
      go_ret
      exact ⟨rfl, Below.refl _ _⟩
    by_cases n3 : n = 32
    · subst n3
      rw [show sizB 2 32 = true from rfl]
      clear n1 n2
      go_enter Try.func38, Try.ntmps38
      go_wp2_with fail
      go_ret
      exact ⟨rfl, Below.refl _ _⟩
    · rw [show sizB 2 n = false from decide_eq_false (by omega)]
      have e1 : ((n : Int) == 16) = false := beq_eq_false_iff_ne.2 (by omega)
      have e2 : ((n : Int) == 24) = false := beq_eq_false_iff_ne.2 (by omega)
      have e3 : ((n : Int) == 32) = false := beq_eq_false_iff_ne.2 (by omega)
      clear n1 n2 n3
      go_enter Try.func38, Try.ntmps38
      go_wp2_with fail
      go_ret
      exact ⟨rfl, Below.refl _ _⟩
  · clear c1 c4
    by_cases n1 : n = 32
    · subst n1
      rw [show sizB 3 32 = true from rfl]
      go_enter Try.func38, Try.ntmps38
      go_wp2_with fail
      go_ret
      exact ⟨rfl, Below.refl _ _⟩
    · rw [show sizB 3 n = false from decide_eq_false (by omega)]
      have e1 : ((n : Int) == 32) = false := beq_eq_false_iff_ne.2 (by omega)
      clear n1
      go_enter Try.func38, Try.ntmps38
      go_wp2_with fail
      go_ret
      exact ⟨rfl, Below.refl _ _⟩
  · clear c1 c4
    by_cases n1 : n = 32
    · subst n1
      rw [show sizB 4 32 = true from rfl]
      go_enter Try.func38, Try.ntmps38
      go_wp2_with fail
      go_ret
      exact ⟨rfl, Below.refl _ _⟩
    · rw [show sizB 4 n = false from decide_eq_false (by omega)]
      have e1 : ((n : Int) == 32) = false := beq_eq_false_iff_ne.2 (by omega)
      clear n1
      go_enter Try.func38, Try.ntmps38
      go_wp2_with fail
      go_ret
      exact ⟨rfl, Below.refl _ _⟩
set_option maxHeartbeats 1000000 in
theorem clsO_walk (v : Value) (t : Bool) (xs : List Nat) (w : World) (hx : t = true → 0 < xs.length)
    (G1 : Calls Try.prog 29 #[v, .int .i64 1] w fun e w' => (∃ u, e = .returned (.tuple #[u, .bool t]) ∧ By w' u xs) ∧ Below w.heap.size w w') :
    Calls Try.prog 34 #[v] w fun e w' => e = .returned (.tuple #[.int .u8 (((if t then xs.getD 0 0 else 0) : Nat) : Int), .bool t]) ∧ Below w.heap.size w w' := by
  have HX : Hid _ := hx
  clear hx
  go_enter Try.func34, Try.ntmps34
  go_wp2_with fail
  refine G1.mono ?_
  rintro e w1 ⟨⟨u, rfl, hu⟩, hb⟩
  have b1 : Hid (Below w.heap.size w w1) := hb
  have U1 : Hid (By w1 u xs) := hu
  clear hb hu G1
  cases t with
  | false =>
    go_wp2_with fail
    go_ret2
    exact ⟨rfl, b1.out⟩
  | true =>
    have h0 := HX.out rfl
    obtain ⟨a, c, rfl, -, -, h3⟩ := id U1.out
    obtain ⟨b, o, rfl, h4⟩ := h3 h0
    have u0 : w1.cell? ⟨b, o, none⟩ = some (.int .u8 ((xs.getD 0 0 : Nat) : Int)) := h4 0 h0
    have i1 : (0 : Int) < (xs.length : Int) := by omega
    generalize xs.length = n at *
    clear h3 h4 U1 h0 HX
    go_wp2_with fail
    go_ret2
    exact ⟨rfl, b1.out⟩
/-- A list's class, if it has one. -/
theorem clsO_fun (l : List Ar) (lo : lowA l) (hs : l.length ≤ 4611686018427387904) (hz : zedA l) (v : Value) (w : World) (h : Ats w v l) (hx : ∀ x, getA l 1 = some x → 0 < x.length) :
    Calls Try.prog 34 #[v] w fun e w' => e = .returned (.tuple #[.int .u8 ((((getA l 1).getD []).getD 0 0 : Nat) : Int), .bool (getA l 1).isSome]) ∧ Below w.heap.size w w' := by
  refine (clsO_walk v _ _ w (fun ht => ?_) (atGetC v l 1 w lo hs hz (by decide) (by decide) h)).mono ?_
  · cases e : getA l 1 with
    | none => rw [e] at ht; cases ht
    | some x => exact hx x e
  · rintro e w' ⟨rfl, hb⟩
    refine ⟨?_, hb⟩
    cases getA l 1 <;> rfl
set_option maxHeartbeats 1000000 in
theorem same1_fun (k q : Int) (u : Value) (w : World) : Calls Try.prog 50 #[.agg #[.int .i64 k, u], .int .i64 q] w fun e w' => e = .returned (.bool (k == q)) ∧ Below w.heap.size w w' := by
  have s1 : Hid (Kn (w.alloc (.cells #[.int .i64 k, u] 64)) [(w.heap.size, [.int .i64 k, u])]) := (Kn.nil w).al [.int .i64 k, u] 64 rfl
  have b1 : Hid (Below w.heap.size w (w.alloc (.cells #[.int .i64 k, u] 64))) := (Below.refl _ _).alloc (Nat.le_refl _) _
  have u0 := Kn.get s1.out 0 0 rfl rfl
  go_enter Try.func50, Try.ntmps50
  go_wp2_with fail
  go_ret
  exact ⟨rfl, b1.out⟩
end Go.Proofs.Ytepaapiflkkghaa
