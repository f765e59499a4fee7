/- AttrOver, out of what package attr must keep. -/
import Derived.Test.YtohliojdmmbcdaaQAtBk
namespace Go.Proofs.Ytohliojdmmbcdaa
open Go.RowKit
attribute [local go_sem] World.cell?_alloc_some cell_alloc2 cell_alloc3 cell_alloc4 frozen?_alloc_cells frozen_out
set_option linter.unusedSimpArgs false
set_option maxHeartbeats 2000000 in
theorem attrOver_bad (v u z : Value) (l m n : List Ar) (f g h : Nat) (w : World) (H : Hid (Ats w v l)) (I : Hid (Ats w u m)) (J : Hid (Ats w z n)) (hfg : ¬ (f = 0 ∧ g = 0 ∧ h = 0))
    (C1 : ∀ W, Ats W v l → Calls Try.prog 15 #[v] W fun e w' => e = .returned (.int .i64 (f : Int)) ∧ Below W.heap.size W w')
    (C2 : ∀ W, Ats W u m → Calls Try.prog 15 #[u] W fun e w' => e = .returned (.int .i64 (g : Int)) ∧ Below W.heap.size W w')
    (C3 : ∀ W, Ats W z n → Calls Try.prog 15 #[z] W fun e w' => e = .returned (.int .i64 (h : Int)) ∧ Below W.heap.size W w') :
    Calls Try.prog 7 #[v, u, z] w fun e w' => e = .returned (.bool true) ∧ Below w.heap.size w w' := by
  by_cases hf : f = 0
  · subst hf
    by_cases hg : g = 0
    · subst hg
      have f1 : ((h : Int) != 0) = true := bne_iff_ne.2 (by omega)
      clear hfg
      go_enter Try.func7, Try.ntmps7
      go_wp2_with fail
      refine (C1 w H.out).mono ?_
      rintro e w1 ⟨rfl, hb⟩
      have b1 : Hid (Below w.heap.size w w1) := hb
      have H1 : Hid (Ats w1 u m) := I.out.up hb (Nat.le_refl _)
      have J1 : Hid (Ats w1 z n) := J.out.up hb (Nat.le_refl _)
      clear hb H I J C1
      go_wp2_with fail
      refine (C2 w1 H1.out).mono ?_
      rintro e w2 ⟨rfl, hb⟩
      have b2 : Hid (Below w.heap.size w w2) := b1.out.trans (hb.mono b1.out.size)
      have J2 : Hid (Ats w2 z n) := J1.out.up hb (Nat.le_refl _)
      clear hb H1 J1 C2 b1
      go_wp2_with fail
      refine (C3 w2 J2.out).mono ?_
      rintro e w3 ⟨rfl, hb⟩
      have b3 : Hid (Below w.heap.size w w3) := b2.out.trans (hb.mono b2.out.size)
      clear hb J2 C3 b2
      go_wp2_with fail
      go_ret
      exact ⟨rfl, b3.out⟩
    · have f1 : ((g : Int) != 0) = true := bne_iff_ne.2 (by omega)
      clear hfg hg C3
      go_enter Try.func7, Try.ntmps7
      go_wp2_with fail
      refine (C1 w H.out).mono ?_
      rintro e w1 ⟨rfl, hb⟩
      have b1 : Hid (Below w.heap.size w w1) := hb
      have H1 : Hid (Ats w1 u m) := I.out.up hb (Nat.le_refl _)
      have J1 : Hid (Ats w1 z n) := J.out.up hb (Nat.le_refl _)
      clear hb H I J C1
      go_wp2_with fail
      refine (C2 w1 H1.out).mono ?_
      rintro e w2 ⟨rfl, hb⟩
      have b2 : Hid (Below w.heap.size w w2) := b1.out.trans (hb.mono b1.out.size)
      have J2 : Hid (Ats w2 z n) := J1.out.up hb (Nat.le_refl _)
      clear hb H1 J1 C2 b1
      go_wp2_with fail
      go_ret
      exact ⟨rfl, b2.out⟩
  · have f1 : ((f : Int) != 0) = true := bne_iff_ne.2 (by omega)
    clear hfg hf C2 C3
    go_enter Try.func7, Try.ntmps7
    go_wp2_with fail
    refine (C1 w H.out).mono ?_
    rintro e w1 ⟨rfl, hb⟩
    have b1 : Hid (Below w.heap.size w w1) := hb
    have H1 : Hid (Ats w1 u m) := I.out.up hb (Nat.le_refl _)
    have J1 : Hid (Ats w1 z n) := J.out.up hb (Nat.le_refl _)
    clear hb H I J C1
    go_wp2_with fail
    go_ret
    exact ⟨rfl, b1.out⟩
set_option maxRecDepth 20000 in
set_option maxHeartbeats 4000000 in
theorem attrOver_good (v u z : Value) (l m n A B C R : List Ar) (w : World) (H : Hid (Ats w v l)) (I : Hid (Ats w u m)) (J : Hid (Ats w z n)) (hl : l.length ≤ 24)
    (C1 : ∀ W, Ats W v l → Calls Try.prog 15 #[v] W fun e w' => e = .returned (.int .i64 0) ∧ Below W.heap.size W w')
    (C2 : ∀ W, Ats W u m → Calls Try.prog 15 #[u] W fun e w' => e = .returned (.int .i64 0) ∧ Below W.heap.size W w')
    (C3 : ∀ W, Ats W z n → Calls Try.prog 15 #[z] W fun e w' => e = .returned (.int .i64 0) ∧ Below W.heap.size W w')
    (O1 : ∀ W, Ats W v l → Ats W u m → Calls Try.prog 20 #[v, u] W fun e w' => (∃ r, e = .returned (.tuple #[r, .int .i64 0]) ∧ Ats w' r A) ∧ Below W.heap.size W w')
    (O2 : ∀ r W, Ats W r A → Ats W z n → Calls Try.prog 20 #[r, z] W fun e w' => (∃ r, e = .returned (.tuple #[r, .int .i64 0]) ∧ Ats w' r B) ∧ Below W.heap.size W w')
    (O3 : ∀ W, Ats W u m → Ats W z n → Calls Try.prog 20 #[u, z] W fun e w' => (∃ r, e = .returned (.tuple #[r, .int .i64 0]) ∧ Ats w' r C) ∧ Below W.heap.size W w')
    (O4 : ∀ r W, Ats W v l → Ats W r C → Calls Try.prog 20 #[v, r] W fun e w' => (∃ r, e = .returned (.tuple #[r, .int .i64 0]) ∧ Ats w' r B) ∧ Below W.heap.size W w')
    (O5 : ∀ W, Ats W v l → Calls Try.prog 20 #[v, v] W fun e w' => (∃ r, e = .returned (.tuple #[r, .int .i64 0]) ∧ Ats w' r R) ∧ Below W.heap.size W w')
    (N1 : ∀ W, Ats W v l → Calls Try.prog 10 #[v] W fun e w' => (∃ r, e = .returned (.tuple #[r, .int .i64 0]) ∧ Ats w' r R) ∧ Below W.heap.size W w')
    (SB : ∀ r s W, Ats W r B → Ats W s B → Calls Try.prog 26 #[r, s] W fun e w' => e = .returned (.bool true) ∧ Below W.heap.size W w')
    (SR : ∀ r s W, Ats W r R → Ats W s R → Calls Try.prog 26 #[r, s] W fun e w' => e = .returned (.bool true) ∧ Below W.heap.size W w')
    (M1 : ∀ r W, Ats W r A → Ats W u m → Calls Try.prog 18 #[r, u] W fun e w' => e = .returned (.bool true) ∧ Below W.heap.size W w')
    (G1 : ∀ x W, x ∈ l → Ats W u m → Calls Try.prog 13 #[u, .int .i64 x.k] W fun e w' => (∃ r, e = .returned (.tuple #[r, .bool (getA m x.k).isSome])) ∧ Below W.heap.size W w')
    (M2 : ∀ x r s W, x ∈ l → (getA m x.k).isSome = false → Ats W r A → Ats W s [x] → Calls Try.prog 18 #[r, s] W fun e w' => e = .returned (.bool true) ∧ Below W.heap.size W w') :
    Calls Try.prog 7 #[v, u, z] w fun e w' => e = .returned (.bool true) ∧ Below w.heap.size w w' := by
  have HM : Hid _ := M2
  have HG : Hid _ := G1
  clear M2 G1
  obtain ⟨va, vc, rfl⟩ := ats_parts H.out
  generalize hn : l.length = N at *
  have HN : Hid (l.length = N ∧ N ≤ 24) := ⟨hn, hl⟩
  clear hn hl
  go_enter Try.func7, Try.ntmps7
  go_wp2_with fail
  refine (C1 w H.out).mono ?_
  rintro e w1 ⟨rfl, hb⟩
  have b1 : Hid (Below w.heap.size w w1) := hb
  have I1 : Hid (Ats w1 u m) := I.out.up hb (Nat.le_refl _)
  clear hb C1
  go_wp2_with fail
  refine (C2 w1 I1.out).mono ?_
  rintro e w2 ⟨rfl, hb⟩
  have b2 : Hid (Below w.heap.size w w2) := b1.out.trans (hb.mono b1.out.size)
  have J2 : Hid (Ats w2 z n) := J.out.up b2.out (Nat.le_refl _)
  clear hb C2 b1 I1
  go_wp2_with fail
  refine (C3 w2 J2.out).mono ?_
  rintro e w3 ⟨rfl, hb⟩
  have b3 : Hid (Below w.heap.size w w3) := b2.out.trans (hb.mono b2.out.size)
  have H3 : Hid (Ats w3 _ l) := H.out.up b3.out (Nat.le_refl _)
  have I3 : Hid (Ats w3 u m) := I.out.up b3.out (Nat.le_refl _)
  have J3 : Hid (Ats w3 z n) := J.out.up b3.out (Nat.le_refl _)
  clear hb C3 b2 J2 H I J
  go_wp2_with fail
  refine (O1 w3 H3.out I3.out).mono ?_
  rintro e w4 ⟨⟨a, rfl, ha⟩, hb⟩
  have b4 : Hid (Below w.heap.size w w4) := b3.out.trans (hb.mono b3.out.size)
  have c4 : Hid (Below w3.heap.size w3 w4) := hb
  have A4 : Hid (Ats w4 a A) := ha
  have J4 : Hid (Ats w4 z n) := J3.out.up hb (Nat.le_refl _)
  clear ha hb O1
  go_wp2_with fail
  refine (O2 a w4 A4.out J4.out).mono ?_
  rintro e w5 ⟨⟨p, rfl, ha⟩, hb⟩
  have b5 : Hid (Below w.heap.size w w5) := b4.out.trans (hb.mono b4.out.size)
  have c5 : Hid (Below w3.heap.size w3 w5) := c4.out.trans (hb.mono c4.out.size)
  have A5 : Hid (Ats w5 a A) := A4.out.up hb (Nat.le_refl _)
  have B5 : Hid (Ats w5 p B) := ha
  have I5 : Hid (Ats w5 u m) := I3.out.up c5.out (Nat.le_refl _)
  have J5 : Hid (Ats w5 z n) := J3.out.up c5.out (Nat.le_refl _)
  clear ha hb O2 b4 c4 A4 J4
  go_wp2_with fail
  refine (O3 w5 I5.out J5.out).mono ?_
  rintro e w6 ⟨⟨q, rfl, ha⟩, hb⟩
  have b6 : Hid (Below w.heap.size w w6) := b5.out.trans (hb.mono b5.out.size)
  have c6 : Hid (Below w3.heap.size w3 w6) := c5.out.trans (hb.mono c5.out.size)
  have A6 : Hid (Ats w6 a A) := A5.out.up hb (Nat.le_refl _)
  have B6 : Hid (Ats w6 p B) := B5.out.up hb (Nat.le_refl _)
  have C6 : Hid (Ats w6 q C) := ha
  have H6 : Hid (Ats w6 _ l) := H3.out.up c6.out (Nat.le_refl _)
  clear ha hb O3 b5 c5 A5 B5 I5 J5
  go_wp2_with fail
  refine (O4 q w6 H6.out C6.out).mono ?_
  rintro e w7 ⟨⟨d, rfl, ha⟩, hb⟩
  have b7 : Hid (Below w.heap.size w w7) := b6.out.trans (hb.mono b6.out.size)
  have c7 : Hid (Below w3.heap.size w3 w7) := c6.out.trans (hb.mono c6.out.size)
  have A7 : Hid (Ats w7 a A) := A6.out.up hb (Nat.le_refl _)
  have B7 : Hid (Ats w7 p B) := B6.out.up hb (Nat.le_refl _)
  have D7 : Hid (Ats w7 d B) := ha
  have H7 : Hid (Ats w7 _ l) := H3.out.up c7.out (Nat.le_refl _)
  clear ha hb O4 b6 c6 A6 B6 C6 H6
  go_wp2_with fail
  refine (O5 w7 H7.out).mono ?_
  rintro e w8 ⟨⟨o, rfl, ha⟩, hb⟩
  have b8 : Hid (Below w.heap.size w w8) := b7.out.trans (hb.mono b7.out.size)
  have c8 : Hid (Below w3.heap.size w3 w8) := c7.out.trans (hb.mono c7.out.size)
  have d8 : Hid (Below w7.heap.size w7 w8) := hb
  have O8 : Hid (Ats w8 o R) := ha
  have H8 : Hid (Ats w8 _ l) := H3.out.up c8.out (Nat.le_refl _)
  clear ha hb O5 b7 c7 H7
  go_wp2_with fail
  refine (N1 w8 H8.out).mono ?_
  rintro e w9 ⟨⟨r, rfl, ha⟩, hb⟩
  have b9 : Hid (Below w.heap.size w w9) := b8.out.trans (hb.mono b8.out.size)
  have c9 : Hid (Below w3.heap.size w3 w9) := c8.out.trans (hb.mono c8.out.size)
  have d9 : Hid (Below w7.heap.size w7 w9) := d8.out.trans (hb.mono d8.out.size)
  have O9 : Hid (Ats w9 o R) := O8.out.up hb (Nat.le_refl _)
  have R9 : Hid (Ats w9 r R) := ha
  have A9 : Hid (Ats w9 a A) := A7.out.up d9.out (Nat.le_refl _)
  have B9 : Hid (Ats w9 p B) := B7.out.up d9.out (Nat.le_refl _)
  have D9 : Hid (Ats w9 d B) := D7.out.up d9.out (Nat.le_refl _)
  have H9 : Hid (Ats w9 _ l) := H3.out.up c9.out (Nat.le_refl _)
  have I9 : Hid (Ats w9 u m) := I3.out.up c9.out (Nat.le_refl _)
  clear ha hb N1 b8 c8 d8 O8 H8 H3 I3 J3 A7 B7 D7 c9 d9 b3
  go_wp2_with fail
  refine (SB p d w9 B9.out D9.out).mono ?_
  rintro e w10 ⟨rfl, hb⟩
  have b10 : Hid (Below w.heap.size w w10) := b9.out.trans (hb.mono b9.out.size)
  have O10 : Hid (Ats w10 o R) := O9.out.up hb (Nat.le_refl _)
  have R10 : Hid (Ats w10 r R) := R9.out.up hb (Nat.le_refl _)
  have A10 : Hid (Ats w10 a A) := A9.out.up hb (Nat.le_refl _)
  have H10 : Hid (Ats w10 _ l) := H9.out.up hb (Nat.le_refl _)
  have I10 : Hid (Ats w10 u m) := I9.out.up hb (Nat.le_refl _)
  clear hb SB b9 O9 R9 A9 B9 D9 H9 I9
  go_wp2_with fail
  refine (SR o r w10 O10.out R10.out).mono ?_
  rintro e w11 ⟨rfl, hb⟩
  have b11 : Hid (Below w.heap.size w w11) := b10.out.trans (hb.mono b10.out.size)
  have A11 : Hid (Ats w11 a A) := A10.out.up hb (Nat.le_refl _)
  have H11 : Hid (Ats w11 _ l) := H10.out.up hb (Nat.le_refl _)
  have I11 : Hid (Ats w11 u m) := I10.out.up hb (Nat.le_refl _)
  clear hb SR b10 O10 R10 A10 H10 I10
  go_wp2_with fail
  refine (M1 a w11 A11.out I11.out).mono ?_
  rintro e w12 ⟨rfl, hb⟩
  have b12 : Hid (Below w.heap.size w w12) := b11.out.trans (hb.mono b11.out.size)
  have A12 : Hid (Ats w12 a A) := A11.out.up hb (Nat.le_refl _)
  have H12 : Hid (Ats w12 _ l) := H11.out.up hb (Nat.le_refl _)
  have I12 : Hid (Ats w12 u m) := I11.out.up hb (Nat.le_refl _)
  clear hb M1 b11 A11 H11 I11
  go_wp2_with fail
  go_loopw [111] (fun i wr => ∃ j : Nat, j ≤ N ∧ i = .int .i64 (j : Int) ∧ Hid (Below w12.heap.size w12 wr)) (fun i _ => N - (intOf i).toNat)
  case atStart => exact ⟨0, Nat.zero_le _, rfl, Below.refl _ _⟩
  case round =>
    obtain ⟨j, hj, rfl, bk⟩ := hrel
    by_cases hlt : j < N
    · have i1 : (j : Int) < (N : Int) := by omega
      have i0 : (0 : Int) ≤ (j : Int) := by omega
      have jn : (N : Int) ≤ 24 := by have := HN.out.2; omega
      have HJ : Hid (j < N) := hlt
      obtain ⟨b, o, rfl⟩ := H12.out.addr (by omega)
      obtain ⟨x, hx⟩ : ∃ x, Hid (l[j]? = some x) := ⟨l[j]'(by have := HN.out; omega), List.getElem?_eq_getElem _⟩
      have MX : Hid (x ∈ l) := List.mem_of_getElem? hx.out
      obtain ⟨xa, xc, ex⟩ := (H12.out.up bk.out (Nat.le_refl _)).elem hx.out
      have EX : Hid (AtE wr b (o + j * 2) x xa xc) := ex
      have E1 : Hid (∀ (C : Array Value) t, AtE (wr.alloc (.cells C t)) b (o + j * 2) x xa xc) := fun C t => EX.out.up ((Below.refl _ _).alloc (Nat.le_refl _) _)
      have s2 : Hid (Kn (wr.alloc (.cells #[.int .i64 x.k, .slice xa x.v.length xc] 50)) [(wr.heap.size, [.int .i64 x.k, .slice xa x.v.length xc])]) := (Kn.nil wr).al [.int .i64 x.k, .slice xa x.v.length xc] 50 rfl
      have b2 : Hid (Below w12.heap.size w12 (wr.alloc (.cells #[.int .i64 x.k, .slice xa x.v.length xc] 50))) := bk.out.alloc bk.out.size _
      have u0 := Kn.get s2.out 0 0 rfl rfl
      have u1 := Kn.get s2.out 0 1 rfl rfl
      have V2 : Hid (By (wr.alloc (.cells #[.int .i64 x.k, .slice xa x.v.length xc] 50)) (.slice xa x.v.length xc) x.v) := (E1.out _ _).2.2
      clear hlt hj ex bk
      go_wp2_with (first | simp only [zero_attr] | refine wp_ldW rfl 50 _ rfl b (o + j * 2) rfl [.int .i64 x.k, .slice xa x.v.length xc] _ (by first | exact EX.out.rng | exact (E1.out _ _).rng) u_attr rfl (info_attr _ _) ?_)
      generalize hk : wr.heap.size = k at *
      generalize (wr.alloc (.cells #[.int .i64 x.k, .slice xa x.v.length xc] 50)) = W at *
      clear u0 u1 EX E1 hk
      refine (HG.out x W MX.out (I12.out.up b2.out (Nat.le_refl _))).mono ?_
      rintro e w14 ⟨⟨y, rfl⟩, hb⟩
      have b14 : Hid (Below w12.heap.size w12 w14) := b2.out.trans (hb.mono b2.out.size)
      have s14 : Hid (Kn w14 [(k, [.int .i64 x.k, .slice xa x.v.length xc])]) := s2.out.up hb
      have V14 : Hid (By w14 (.slice xa x.v.length xc) x.v) := V2.out.up hb (Nat.le_refl _)
      clear hb s2 V2 b2
      cases hs : (getA m x.k).isSome with
      | true =>
        go_wp2_with fail
        go_roundw
        case rel => exact ⟨j + 1, HJ.out, by go_num, b14⟩
        case measure => simp [intOf]; have := HJ.out; omega
      | false =>
        have HS : Hid ((getA m x.k).isSome = false) := hs
        clear hs
        have k15 : Hid (Kn (w14.alloc (.cells #[.int .i64 x.k, .slice xa x.v.length xc] 50)) [(w14.heap.size, [.int .i64 x.k, .slice xa x.v.length xc])]) := (Kn.nil w14).al [.int .i64 x.k, .slice xa x.v.length xc] 50 rfl
        have S15 : Hid (Ats (w14.alloc (.cells #[.int .i64 x.k, .slice xa x.v.length xc] 50)) (.slice (some ⟨w14.heap.size, 0, none⟩) 1 1) [x]) := ats_one (Kn.get k15.out 0 0 rfl rfl) (Kn.get k15.out 0 1 rfl rfl) (V14.out.up ((Below.refl _ _).alloc (Nat.le_refl _) _) (Nat.le_refl _))
        have b15 : Hid (Below w12.heap.size w12 (w14.alloc (.cells #[.int .i64 x.k, .slice xa x.v.length xc] 50))) := b14.out.alloc b14.out.size _
        have g15 := HM.out x a _ _ MX.out HS.out (A12.out.up b15.out (Nat.le_refl _)) S15.out
        have u0 := Kn.get s14.out 0 0 rfl rfl
        have u1 := Kn.get s14.out 0 1 rfl rfl
        clear k15 S15 V14
        go_wp2_with fail
        refine g15.mono ?_
        rintro e w16 ⟨rfl, hb⟩
        have b16 : Hid (Below w12.heap.size w12 w16) := b15.out.trans (hb.mono b15.out.size)
        clear hb b15 s14 b14
        go_wp2_with fail
        go_roundw
        case rel => exact ⟨j + 1, HJ.out, by go_num, b16⟩
        case measure => simp [intOf]; have := HJ.out; omega
    · have i1 : ¬ (j : Int) < (N : Int) := by omega
      clear hlt hj
      go_wp2_with fail
      go_ret
      exact ⟨rfl, (b12.out.trans (bk.out.mono b12.out.size))⟩
theorem attrOver_of (NC : AtNormC) (CC : AtCheckC) (MC : AtMatchC) (GC : AtGetC) (OC : AtOverC) (v u z : Value) (l m n : List Ar) (ll : lowA l) (lm : lowA m) (ln : lowA n) (w : World) (h1 : Ats w v l) (h2 : Ats w u m) (h3 : Ats w z n) :
    Calls Try.prog 7 #[v, u, z] w fun e w' => e = .returned (.bool true) ∧ Below w.heap.size w w' := by
  by_cases hf : fltA l = 0 ∧ fltA m = 0 ∧ fltA n = 0
  · obtain ⟨f1, f2, f3⟩ := hf
    have G1 := (fltA_zero l).1 f1
    have G2 := (fltA_zero m).1 f2
    have G3 := (fltA_zero n).1 f3
    have ck : ∀ {q : Value} {p : List Ar}, lowA p → fltA p = 0 → ∀ W, Ats W q p → Calls Try.prog 15 #[q] W fun e w' => e = .returned (.int .i64 0) ∧ Below W.heap.size W w' := fun {q p} lp fp W h => by
      have := CC q p W lp h
      rw [fp] at this
      exact this
    have ov : ∀ {q s : Value} {p t r : List Ar}, lowA p → lowA t → fltA p = 0 → fltA t = 0 → ovrA p t = r → ∀ W, Ats W q p → Ats W s t → Calls Try.prog 20 #[q, s] W fun e w' => (∃ x, e = .returned (.tuple #[x, .int .i64 0]) ∧ Ats w' x r) ∧ Below W.heap.size W w' := fun {q s p t r} lp lt fp ft er W h1 h2 => by
      have := OC q s p t W lp lt h1 h2
      have e0 : fltO p t = 0 := by unfold fltO; rw [if_pos fp, ft]
      rw [e0, if_pos rfl, er] at this
      exact this
    have la := ovrA_lowA ll lm
    have lc := ovrA_lowA lm ln
    have fa := ovrA_good G1.2.1 G2.2.1
    have fc := ovrA_good G2.2.1 G3.2.1
    have lb := ovrA_lowA la ln
    have small : ∀ p : List Ar, (risA p).length ≤ 4611686018427387904 := fun p => Nat.le_trans (risA_len p) (by omega)
    exact attrOver_good v u z l m n (ovrA l m) (ovrA (ovrA l m) n) (ovrA m n) (risA l) w h1 h2 h3 G1.1 (ck ll f1) (ck lm f2) (ck ln f3)
      (ov ll lm f1 f2 rfl) (fun r W => ov la ln fa f3 rfl W) (ov lm ln f2 f3 rfl) (fun r W => ov ll lc f1 fc (ovrA_assoc l m n).symm W)
      (fun W h => ov ll ll f1 f1 (ovrA_self l) W h h)
      (fun W h => by
        have := NC v l W ll h
        rw [f1, if_pos rfl] at this
        exact this)
      (fun r s W p q => sameK_fun _ (small _) lb r s W p q) (fun r s W p q => sameK_fun _ (small _) (risA_low ll) r s W p q)
      (fun r W p q => by
        have := MC r u (ovrA l m) m W la lm (small _) (by omega) p q
        rw [ovrA_top G2.2] at this
        exact this)
      (fun x W hx h => (GC u m x.k W lm (by omega) (fun y hy => Nat.le_trans (fit_len (G2.2.1 y hy).2.2) (by decide)) (ll x hx).1.1 (ll x hx).1.2 h).mono fun e w' ⟨⟨r, he, _⟩, hb⟩ => ⟨⟨r, he⟩, hb⟩)
      (fun x r s W hx hn p q => by
        have hx' : lowA [x] := fun y hy => by
          obtain rfl := List.mem_singleton.1 hy
          exact ll y hx
        have := MC r s (ovrA l m) [x] W la hx' (small _) (by simp only [List.length_cons, List.length_nil]; omega) p q
        rw [ovrA_low G1.2 hx (by cases hg : getA m x.k with | none => rfl | some y => rw [hg] at hn; cases hn)] at this
        exact this)
  · exact attrOver_bad v u z l m n (fltA l) (fltA m) (fltA n) w h1 h2 h3 hf (fun W h => CC v l W ll h) (fun W h => CC u m W lm h) (fun W h => CC z n W ln h)
end Go.Proofs.Ytohliojdmmbcdaa
