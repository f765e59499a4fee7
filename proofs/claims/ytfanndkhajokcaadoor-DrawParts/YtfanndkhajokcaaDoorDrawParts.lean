/- DrawParts returns true for every seed and every two numbers. -/
import Derived.Test.YtfanndkhajokcaaDoorDrawC
import Derived.Test.YtfanndkhajokcaaDoorHEq
import Derived.Test.YtfanndkhajokcaaDoorHLaid
namespace Go.Proofs.YtfanndkhajokcaaDoor
open Go.RowKit
open Go.ChangeShapes Go.WideShapes Go.ChangeAt
set_option linter.unusedSimpArgs false
theorem wp_appBG {ops : Array Oper} {rest : List Oper} {o : Oper} {a : Act} {Q : Exit → Act → World → Prop} {w : World} (hgd : Region.wanted o (yielded ops a.tmps) = true) (s x : Operand)
    (ho : o.op = .call { callee := .builtin .append, args := #[s, x], argTypes := #[22, 22] })
    (B : Nat) (v u : Value) (xs ys : List Nat) (hs : a.eval s = v) (hown : Ob w B v xs) (hx : a.eval x = u) (hy : By w u ys)
    (hl : xs.length + ys.length ≤ 140737488355328) (hB : B ≤ w.heap.size) (h : ∀ v' w', Ob w' B v' (xs ++ ys) → Below B w w' → w.grownBy w' v.ownBlock → wpList Tryd.prog ops Q rest (a.put o.dst v') w') : wpList Tryd.prog ops Q (o :: rest) a w := by
  obtain ⟨i0, hi, hz0, hz1, hz2⟩ := info_parts Tryd.iU8
  obtain ⟨ad, c, rfl, hyc, hn, hcells⟩ := hy
  refine wpList_wanted hgd fun K hK => ?_
  cases ad with
  | none =>
    have hc0 := hn rfl
    have hy0 : ys = [] := List.length_eq_zero_iff.1 (by omega)
    subst hc0 hy0
    have hrun := run_append_owned_none (P := Tryd.prog) (w := w) B 22 o.type 5 i0 1 Tryd.uBytes hi v xs.length (xs.map b8) hown
    have hx' : a.eval x = .slice none 0 0 := hx
    unfold Oper.wp
    simp [execOp, ho, resolve, invoke, builtin, hs, hx', hrun, Result.andThen]
    exact hK _ _ (h v w (by rw [List.append_nil]; exact hown) (Below.refl _ _) ⟨rfl, rfl, rfl, Nat.le_refl _, fun _ _ _ => rfl⟩)
  | some ad =>
    refine wp_append_own w s x 22 ho B 5 i0 (.int .u8 0) 1 1 Tryd.uBytes hi hz0 hz1 hz2 rfl (by decide) v xs.length (xs.map b8) hs hown ad ys.length c (ys.map b8) hx (by simp) ?_ ?_ ?_ ?_ ?_ ?_
    · intro j u hj
      have hj2 : j < ys.length := by
        have := (List.getElem?_eq_some_iff.1 hj).1
        simpa using this
      obtain ⟨b, o', e, hc⟩ := hcells (by omega)
      obtain rfl : ad = ⟨b, o', none⟩ := Option.some.inj e
      have := hc j hj2
      rw [List.getElem?_map, List.getElem?_eq_getElem hj2] at hj
      simp at hj
      simp only [List.getD_eq_getElem?_getD, List.getElem?_eq_getElem hj2, Option.getD_some] at this
      subst hj
      rw [Addr.add_lit]
      exact this
    · intro u hu
      simp at hu
      obtain ⟨y, _, rfl⟩ := hu
      rfl
    · unfold maxLen; omega
    · omega
    · omega
    · intro v' w' hown' hg _
      refine hK _ _ (h v' w' ?_ ?_ hg)
      · unfold Ob
        rw [List.map_append, List.length_append]
        exact hown'
      · exact Below.grown (Below.refl _ _) hg hB fun k hk => (hown.lt k hk).1
theorem Ob.kept {w w' : World} {B : Nat} {v : Value} {xs : List Nat} {row : Option Nat} (h : Ob w B v xs) (hg : w.grownBy w' row) (hr : ∀ j, row = some j → j < B) : Ob w' B v xs := by
  refine World.ownsRow.kept h hg ?_
  cases e : v.ownBlock with
  | none => exact .inl rfl
  | some g =>
    right
    intro e2
    have h1 := hr g e2.symm
    have h2 := (World.ownsRow.lt h g e).1
    omega
set_option maxRecDepth 20000 in
set_option maxHeartbeats 8000000 in
theorem drawParts_of {Src : World → Nat → (Nat → Prop) → List Nat → Nat → Prop} (C : SrcC Src) (v0 : Value) (seed : List Nat) (ls : lowB seed) (zs : seed.length ≤ 140737488351232) (i j : Int) (w : World) (h0 : By w v0 seed) (hK : KTab w) :
    Calls Tryd.prog 4 #[v0, .int .i64 i, .int .i64 j] w fun e w' => e = .returned (.bool true) ∧ Below w.heap.size w w' := by
  by_cases c1 : i < 0
  · have c1b := decide_eq_true c1
    clear h0 hK ls zs C
    go_enter Tryd.func4, Tryd.ntmps4
    go_wp2_with fail
    go_ret
    exact ⟨rfl, Below.refl _ _⟩
  · have c1b := decide_eq_false c1
    by_cases c2 : j < 0
    · have c2b := decide_eq_true c2
      clear h0 hK ls zs C
      go_enter Tryd.func4, Tryd.ntmps4
      go_wp2_with fail
      go_ret
      exact ⟨rfl, Below.refl _ _⟩
    · have c2b := decide_eq_false c2
      by_cases c3 : 2000 < i
      · have c3b := decide_eq_true c3
        clear h0 hK ls zs C
        go_enter Tryd.func4, Tryd.ntmps4
        go_wp2_with fail
        go_ret
        exact ⟨rfl, Below.refl _ _⟩
      · have c3b := decide_eq_false c3
        by_cases c4 : 2000 < j
        · have c4b := decide_eq_true c4
          clear h0 hK ls zs C
          go_enter Tryd.func4, Tryd.ntmps4
          go_wp2_with fail
          go_ret
          exact ⟨rfl, Below.refl _ _⟩
        · have c4b := decide_eq_false c4
          obtain ⟨n, rfl⟩ := Int.eq_ofNat_of_zero_le (show 0 ≤ i by omega)
          obtain ⟨m, rfl⟩ := Int.eq_ofNat_of_zero_le (show 0 ≤ j by omega)
          have SC : Hid (SrcC Src) := C
          have NW : Hid _ := C.new seed ls (by omega) v0
          have KU : Hid (∀ w', Below w.heap.size w w' → KTab w') := fun w' hb => hK.up hb hK.pos
          have K0 : Hid (0 < w.heap.size) := hK.pos
          have H0 : Hid (By w v0 seed) := h0
          have n2 : n ≤ 2000 := by omega
          have m2 : m ≤ 2000 := by omega
          have NM : Hid (n ≤ 2000 ∧ m ≤ 2000) := ⟨n2, m2⟩
          have e1 : (0 + n) % 18446744073709551616 = n := by omega
          have e2 : (n + m) % 18446744073709551616 = n + m := by omega
          have e3 : (0 + (n + m)) % 18446744073709551616 = n + m := by omega
          have DA : Hid (drawS seed 0 (n + m) = drawS seed 0 n ++ drawS seed n m) := by
            rw [drawS_add, e1]
            exact rfl
          have E1 : Hid _ := e1
          have E2 : Hid _ := e2
          have E3 : Hid _ := e3
          have L1 : Hid _ := drawS_length seed 0 n
          have L2 : Hid _ := drawS_length seed n m
          have EQ1 : Hid _ := fun u v => equal_fun u v (drawS seed 0 (n + m)) (drawS seed 0 (n + m)) (drawS_low _ _ _) (drawS_low _ _ _)
          have EQ2 : Hid _ := fun u v => equal_fun u v (drawS seed n m) (drawS seed n m) (drawS_low _ _ _) (drawS_low _ _ _)
          have wnm : IntKind.i64.wrap ((n : Int) + (m : Int)) = ((n + m : Nat) : Int) := by rw [IntKind.wrap_i64]; omega
          have wnm2 : IntKind.u64.wrap (((n + m : Nat) : Int)) = ((n + m : Nat) : Int) := by rw [IntKind.wrap_u64]; omega
          clear h0 hK ls zs C e1 e2 e3 n2 m2
          go_enter Tryd.func4, Tryd.ntmps4
          go_wp2_with fail
          refine (NW.out w H0.out (KU.out _ (Below.refl _ _))).mono ?_
          rintro e w1 ⟨⟨k1, F1, rfl, hk1, hf1, s1⟩, hb1⟩
          have S1 : Hid (Src w1 k1 F1 seed 0) := s1
          have A1 : Hid (w.heap.size ≤ k1 ∧ k1 < w1.heap.size ∧ ∀ g, F1 g → g < w1.heap.size) := ⟨hk1, SC.out.lt s1 k1 (SC.out.self s1), SC.out.lt s1⟩
          have D1 : Hid (Below w.heap.size w w1) := hb1
          clear hk1 hf1 s1 hb1
          go_wp2_with fail
          refine (NW.out w1 (H0.out.up D1.out (Nat.le_refl _)) (KU.out _ D1.out)).mono ?_
          rintro e w2 ⟨⟨k2, F2, rfl, hk2, hf2, s2⟩, hb2⟩
          have T1 : Hid (Src w2 k1 F1 seed 0) := SC.out.up S1.out hb2
          have S2 : Hid (Src w2 k2 F2 seed 0) := s2
          have A2 : Hid (w1.heap.size ≤ k2 ∧ k2 < w2.heap.size ∧ ∀ g, F2 g → w1.heap.size ≤ g ∧ g < w2.heap.size) := ⟨hk2, SC.out.lt s2 k2 (SC.out.self s2), fun g h => ⟨hf2 g h, SC.out.lt s2 g h⟩⟩
          have D2 : Hid (Below w.heap.size w w2) := D1.out.trans (hb2.mono D1.out.size)
          have Z12 : Hid (w.heap.size ≤ w1.heap.size) := D1.out.size
          clear hk2 hf2 s2 hb2 S1 D1
          go_wp2_with fail
          refine (NW.out w2 (H0.out.up D2.out (Nat.le_refl _)) (KU.out _ D2.out)).mono ?_
          rintro e w3 ⟨⟨k3, F3, rfl, hk3, hf3, s3⟩, hb3⟩
          have T1' : Hid (Src w3 k1 F1 seed 0) := SC.out.up T1.out hb3
          have T2 : Hid (Src w3 k2 F2 seed 0) := SC.out.up S2.out hb3
          have S3 : Hid (Src w3 k3 F3 seed 0) := s3
          have A3 : Hid (w2.heap.size ≤ k3 ∧ k3 < w3.heap.size ∧ ∀ g, F3 g → w2.heap.size ≤ g ∧ g < w3.heap.size) := ⟨hk3, SC.out.lt s3 k3 (SC.out.self s3), fun g h => ⟨hf3 g h, SC.out.lt s3 g h⟩⟩
          have D3 : Hid (Below w.heap.size w w3) := D2.out.trans (hb3.mono D2.out.size)
          have Z3 : Hid (w1.heap.size ≤ w2.heap.size ∧ w2.heap.size ≤ w3.heap.size) := ⟨Nat.le_trans A2.out.1 (Nat.le_of_lt A2.out.2.1), hb3.size⟩
          clear hk3 hf3 s3 hb3 T1 S2 D2 NW
          have N12 : Hid (¬ F2 k1 ∧ ¬ F3 k1 ∧ ¬ F1 k2 ∧ ¬ F3 k2 ∧ ¬ F1 k3 ∧ ¬ F2 k3) := by
            have a1 := A1.out; have a2 := A2.out; have a3 := A3.out; have z := Z3.out
            refine ⟨fun h => ?_, fun h => ?_, fun h => ?_, fun h => ?_, fun h => ?_, fun h => ?_⟩
            · have := a2.2.2 _ h; omega
            · have := a3.2.2 _ h; omega
            · have := a1.2.2 _ h; omega
            · have := a3.2.2 _ h; omega
            · have := a1.2.2 _ h; omega
            · have := a2.2.2 _ h; omega
          have NF : Hid (∀ g, w3.heap.size ≤ g → ¬ F1 g ∧ ¬ F2 g ∧ ¬ F3 g) := fun g hg => by
            have a1 := A1.out; have a2 := A2.out; have a3 := A3.out; have z := Z3.out
            refine ⟨fun h => ?_, fun h => ?_, fun h => ?_⟩
            · have := a1.2.2 _ h; omega
            · have := a2.2.2 _ h; omega
            · have := a3.2.2 _ h; omega
          have KK : Hid ((0 < k1 ∧ w.heap.size ≤ k1 ∧ k1 < w3.heap.size) ∧ (0 < k2 ∧ w.heap.size ≤ k2 ∧ k2 < w3.heap.size) ∧ (0 < k3 ∧ w.heap.size ≤ k3 ∧ k3 < w3.heap.size)) := by
            have a1 := A1.out; have a2 := A2.out; have a3 := A3.out; have z := Z3.out; have z0 := K0.out; have z1 := Z12.out
            refine ⟨⟨?_, ?_, ?_⟩, ⟨?_, ?_, ?_⟩, ⟨?_, ?_, ?_⟩⟩ <;> omega
          clear A1 A2 A3 Z3 Z12
          have Z0 : Hid (w.heap.size ≤ w3.heap.size) := D3.out.size
          obtain ⟨B, hB⟩ : ∃ B, B = w3.heap.size := ⟨_, rfl⟩
          have HB : Hid (B = w3.heap.size) := hB
          rw [← hB] at NF KK Z0
          clear hB
          have BA : Hid _ := SC.out.bytes n (by have := NM.out; omega) w3 T1'.out (KU.out _ D3.out) KK.out.1.1
          rw [E1.out] at BA
          go_wp2_with fail
          refine Calls.mono BA.out ?_
          rintro e w4 ⟨⟨v4, rfl, ob4⟩, s4, fr4⟩
          rw [← HB.out] at ob4
          have P4 : Hid (Ob w4 B v4 (drawS seed 0 n)) := ob4
          have G4 : Hid (∀ g, v4.ownBlock = some g → B ≤ g ∧ g < w4.heap.size) := fun g hg => World.ownsRow.lt ob4 g hg
          have Q1 : Hid (Src w4 k1 F1 seed n) := s4
          have Q2 : Hid (Src w4 k2 F2 seed 0) := SC.out.kept T2.out fr4 (fun g e => by cases e; exact N12.out.1)
          have Q3 : Hid (Src w4 k3 F3 seed 0) := SC.out.kept S3.out fr4 (fun g e => by cases e; exact N12.out.2.1)
          have D4 : Hid (Below w.heap.size w w4) := D3.out.trans (fr4.below D3.out.size KK.out.1.2.1)
          have Z4 : Hid (B ≤ w4.heap.size) := by rw [HB.out]; exact fr4.size
          clear ob4 s4 fr4 BA T1' T2 S3 D3
          have BB : Hid _ := SC.out.bytes m (by have := NM.out; omega) w4 Q1.out (KU.out _ D4.out) KK.out.1.1
          rw [E2.out] at BB
          go_wp2_with fail
          refine Calls.mono BB.out ?_
          rintro e w5 ⟨⟨v5, rfl, ob5⟩, s5, fr5⟩
          have P5 : Hid (Ob w5 w4.heap.size v5 (drawS seed n m)) := ob5
          have P4' : Hid (Ob w5 B v4 (drawS seed 0 n)) := P4.out.kept fr5 (fun g e => by cases e; exact KK.out.1.2.2)
          have O1 : Hid (Src w5 k1 F1 seed (n + m)) := s5
          have O2 : Hid (Src w5 k2 F2 seed 0) := SC.out.kept Q2.out fr5 (fun g e => by cases e; exact N12.out.1)
          have O3 : Hid (Src w5 k3 F3 seed 0) := SC.out.kept Q3.out fr5 (fun g e => by cases e; exact N12.out.2.1)
          have D5 : Hid (Below w.heap.size w w5) := D4.out.trans (fr5.below D4.out.size KK.out.1.2.1)
          have Z5 : Hid (w4.heap.size ≤ w5.heap.size) := fr5.size
          clear ob5 s5 fr5 BB Q1 Q2 Q3 D4 P4
          have BC : Hid _ := SC.out.bytes (n + m) (by have := NM.out; omega) w5 O2.out (KU.out _ D5.out) KK.out.2.1.1
          rw [E3.out] at BC
          have cnm : ((n + m : Nat) : Int) = (n : Int) + (m : Int) := Int.natCast_add n m
          rw [cnm] at BC
          go_wp2_with fail
          refine Calls.mono BC.out ?_
          rintro e w6 ⟨⟨v6, rfl, ob6⟩, s6, fr6⟩
          have P6 : Hid (Ob w6 w5.heap.size v6 (drawS seed 0 (n + m))) := ob6
          have P5' : Hid (Ob w6 w4.heap.size v5 (drawS seed n m)) := P5.out.kept fr6 (fun g e => by cases e; exact Nat.lt_of_lt_of_le KK.out.2.1.2.2 Z4.out)
          have P4 : Hid (Ob w6 B v4 (drawS seed 0 n)) := P4'.out.kept fr6 (fun g e => by cases e; exact KK.out.2.1.2.2)
          have Q1 : Hid (Src w6 k1 F1 seed (n + m)) := SC.out.kept O1.out fr6 (fun g e => by cases e; exact N12.out.2.2.1)
          have Q2 : Hid (Src w6 k2 F2 seed (n + m)) := s6
          have Q3 : Hid (Src w6 k3 F3 seed 0) := SC.out.kept O3.out fr6 (fun g e => by cases e; exact N12.out.2.2.2.1)
          have D6 : Hid (Below w.heap.size w w6) := D5.out.trans (fr6.below D5.out.size KK.out.2.1.2.1)
          have Z6 : Hid (w5.heap.size ≤ w6.heap.size) := fr6.size
          clear ob6 s6 fr6 BC O1 O2 O3 D5 P4' P5
          have BS : Hid _ := SC.out.skip n (by have := NM.out; omega) w6 Q3.out KK.out.2.2.1
          rw [E1.out] at BS
          go_wp2_with fail
          refine Calls.mono BS.out ?_
          rintro e w7 ⟨rfl, s7, fr7⟩
          have O6 : Hid (Ob w7 w5.heap.size v6 (drawS seed 0 (n + m))) := P6.out.kept fr7 (fun g e => by cases e; exact Nat.lt_of_lt_of_le KK.out.2.2.2.2 (Nat.le_trans Z4.out Z5.out))
          have O5 : Hid (Ob w7 w4.heap.size v5 (drawS seed n m)) := P5'.out.kept fr7 (fun g e => by cases e; exact Nat.lt_of_lt_of_le KK.out.2.2.2.2 Z4.out)
          have O4 : Hid (Ob w7 B v4 (drawS seed 0 n)) := P4.out.kept fr7 (fun g e => by cases e; exact KK.out.2.2.2.2)
          have O1 : Hid (Src w7 k1 F1 seed (n + m)) := SC.out.kept Q1.out fr7 (fun g e => by cases e; exact N12.out.2.2.2.2.1)
          have O2 : Hid (Src w7 k2 F2 seed (n + m)) := SC.out.kept Q2.out fr7 (fun g e => by cases e; exact N12.out.2.2.2.2.2)
          have O3 : Hid (Src w7 k3 F3 seed n) := s7
          have D7 : Hid (Below w.heap.size w w7) := D6.out.trans (fr7.below D6.out.size KK.out.2.2.2.1)
          have Z7 : Hid (w6.heap.size ≤ w7.heap.size) := fr7.size
          clear s7 fr7 BS Q1 Q2 Q3 D6 P4 P5' P6
          have BD : Hid _ := SC.out.bytes m (by have := NM.out; omega) w7 O3.out (KU.out _ D7.out) KK.out.2.2.1
          rw [E2.out] at BD
          go_wp2_with fail
          refine Calls.mono BD.out ?_
          rintro e w8 ⟨⟨v8, rfl, ob8⟩, s8, fr8⟩
          have P8 : Hid (Ob w8 w7.heap.size v8 (drawS seed n m)) := ob8
          have P6 : Hid (Ob w8 w5.heap.size v6 (drawS seed 0 (n + m))) := O6.out.kept fr8 (fun g e => by cases e; exact Nat.lt_of_lt_of_le KK.out.2.2.2.2 (Nat.le_trans Z4.out Z5.out))
          have P5 : Hid (Ob w8 w4.heap.size v5 (drawS seed n m)) := O5.out.kept fr8 (fun g e => by cases e; exact Nat.lt_of_lt_of_le KK.out.2.2.2.2 Z4.out)
          have P4 : Hid (Ob w8 B v4 (drawS seed 0 n)) := O4.out.kept fr8 (fun g e => by cases e; exact KK.out.2.2.2.2)
          have Q1 : Hid (Src w8 k1 F1 seed (n + m)) := SC.out.kept O1.out fr8 (fun g e => by cases e; exact N12.out.2.2.2.2.1)
          have Q2 : Hid (Src w8 k2 F2 seed (n + m)) := SC.out.kept O2.out fr8 (fun g e => by cases e; exact N12.out.2.2.2.2.2)
          have Q3 : Hid (Src w8 k3 F3 seed (n + m)) := s8
          have D8 : Hid (Below w.heap.size w w8) := D7.out.trans (fr8.below D7.out.size KK.out.2.2.2.1)
          have Z8 : Hid (B ≤ w8.heap.size) := Nat.le_trans Z4.out (Nat.le_trans Z5.out (Nat.le_trans Z6.out (Nat.le_trans Z7.out fr8.size)))
          clear ob8 s8 fr8 BD O1 O2 O3 O4 O5 O6 D7
          go_wp2_with (refine wp_appBG rfl (.tmp 87) (.tmp 88) rfl B v4 v5 (drawS seed 0 n) (drawS seed n m) rfl P4.out rfl P5.out.by (by rw [L1.out, L2.out]; have := NM.out; omega) Z8.out ?_)
          intro v9 w9 ob9 hb9 fr9
          rw [← DA.out] at ob9
          have B9 : Hid (By w9 v9 (drawS seed 0 (n + m))) := ob9.by
          have B6 : Hid (By w9 v6 (drawS seed 0 (n + m))) := (P6.out.kept fr9 (fun g e => Nat.lt_of_lt_of_le (G4.out g e).2 Z5.out)).by
          have B5 : Hid (By w9 v5 (drawS seed n m)) := (P5.out.kept fr9 (fun g e => (G4.out g e).2)).by
          have B8 : Hid (By w9 v8 (drawS seed n m)) := (P8.out.kept fr9 (fun g e => Nat.lt_of_lt_of_le (G4.out g e).2 (Nat.le_trans Z5.out (Nat.le_trans Z6.out Z7.out)))).by
          have R1w9 : Hid (Src w9 k1 F1 seed (n + m)) := SC.out.kept Q1.out fr9 (fun g e => (NF.out g (G4.out g e).1).1)
          have R2w9 : Hid (Src w9 k2 F2 seed (n + m)) := SC.out.kept Q2.out fr9 (fun g e => (NF.out g (G4.out g e).1).2.1)
          have R3w9 : Hid (Src w9 k3 F3 seed (n + m)) := SC.out.kept Q3.out fr9 (fun g e => (NF.out g (G4.out g e).1).2.2)
          have Dw9 : Hid (Below w.heap.size w w9) := D8.out.trans (hb9.mono Z0.out)
          clear ob9 hb9 fr9 P4 P5 P6 P8 Q1 Q2 Q3 D8
          go_wp2_with fail
          refine (EQ1.out _ _ w9 B9.out B6.out).mono ?_
          rintro e wa ⟨rfl, hb⟩
          have Dwa : Hid (Below w.heap.size w wa) := Dw9.out.trans (hb.mono Dw9.out.size)
          have R1wa : Hid (Src wa k1 F1 seed (n + m)) := SC.out.up R1w9.out hb
          have R2wa : Hid (Src wa k2 F2 seed (n + m)) := SC.out.up R2w9.out hb
          have R3wa : Hid (Src wa k3 F3 seed (n + m)) := SC.out.up R3w9.out hb
          have B5' : Hid (By wa v5 (drawS seed n m)) := B5.out.up hb (Nat.le_refl _)
          have B8' : Hid (By wa v8 (drawS seed n m)) := B8.out.up hb (Nat.le_refl _)
          clear hb EQ1 Dw9 R1w9 R2w9 R3w9 B5 B6 B8 B9
          simp only [decide_true]
          go_wp2_with fail
          refine (EQ2.out _ _ wa B5'.out B8'.out).mono ?_
          rintro e wb ⟨rfl, hb⟩
          have Dwb : Hid (Below w.heap.size w wb) := Dwa.out.trans (hb.mono Dwa.out.size)
          have R1wb : Hid (Src wb k1 F1 seed (n + m)) := SC.out.up R1wa.out hb
          have R2wb : Hid (Src wb k2 F2 seed (n + m)) := SC.out.up R2wa.out hb
          have R3wb : Hid (Src wb k3 F3 seed (n + m)) := SC.out.up R3wa.out hb
          clear hb EQ2 Dwa R1wa R2wa R3wa B5' B8'
          simp only [decide_true]
          have PL0 : Hid _ := SC.out.place wb R1wb.out
          go_wp2_with fail
          refine Calls.mono PL0.out ?_
          rintro e wc0 ⟨rfl, hb⟩
          have Dwc0 : Hid (Below w.heap.size w wc0) := Dwb.out.trans (hb.mono Dwb.out.size)
          have R1wc0 : Hid (Src wc0 k1 F1 seed (n + m)) := SC.out.up R1wb.out hb
          have R2wc0 : Hid (Src wc0 k2 F2 seed (n + m)) := SC.out.up R2wb.out hb
          have R3wc0 : Hid (Src wc0 k3 F3 seed (n + m)) := SC.out.up R3wb.out hb
          clear hb PL0 Dwb R1wb R2wb R3wb
          have PL1 : Hid _ := SC.out.place wc0 R2wc0.out
          go_wp2_with fail
          refine Calls.mono PL1.out ?_
          rintro e wc1 ⟨rfl, hb⟩
          have Dwc1 : Hid (Below w.heap.size w wc1) := Dwc0.out.trans (hb.mono Dwc0.out.size)
          have R1wc1 : Hid (Src wc1 k1 F1 seed (n + m)) := SC.out.up R1wc0.out hb
          have R2wc1 : Hid (Src wc1 k2 F2 seed (n + m)) := SC.out.up R2wc0.out hb
          have R3wc1 : Hid (Src wc1 k3 F3 seed (n + m)) := SC.out.up R3wc0.out hb
          clear hb PL1 Dwc0 R1wc0 R2wc0 R3wc0
          have PL2 : Hid _ := SC.out.place wc1 R1wc1.out
          go_wp2_with fail
          refine Calls.mono PL2.out ?_
          rintro e wc2 ⟨rfl, hb⟩
          have Dwc2 : Hid (Below w.heap.size w wc2) := Dwc1.out.trans (hb.mono Dwc1.out.size)
          have R1wc2 : Hid (Src wc2 k1 F1 seed (n + m)) := SC.out.up R1wc1.out hb
          have R2wc2 : Hid (Src wc2 k2 F2 seed (n + m)) := SC.out.up R2wc1.out hb
          have R3wc2 : Hid (Src wc2 k3 F3 seed (n + m)) := SC.out.up R3wc1.out hb
          clear hb PL2 Dwc1 R1wc1 R2wc1 R3wc1
          have PL3 : Hid _ := SC.out.place wc2 R3wc2.out
          go_wp2_with fail
          refine Calls.mono PL3.out ?_
          rintro e wc3 ⟨rfl, hb⟩
          have Dwc3 : Hid (Below w.heap.size w wc3) := Dwc2.out.trans (hb.mono Dwc2.out.size)
          have R1wc3 : Hid (Src wc3 k1 F1 seed (n + m)) := SC.out.up R1wc2.out hb
          have R2wc3 : Hid (Src wc3 k2 F2 seed (n + m)) := SC.out.up R2wc2.out hb
          have R3wc3 : Hid (Src wc3 k3 F3 seed (n + m)) := SC.out.up R3wc2.out hb
          clear hb PL3 Dwc2 R1wc2 R2wc2 R3wc2
          have PL4 : Hid _ := SC.out.place wc3 R1wc3.out
          go_wp2_with fail
          refine Calls.mono PL4.out ?_
          rintro e wc4 ⟨rfl, hb⟩
          have Dwc4 : Hid (Below w.heap.size w wc4) := Dwc3.out.trans (hb.mono Dwc3.out.size)
          have R1wc4 : Hid (Src wc4 k1 F1 seed (n + m)) := SC.out.up R1wc3.out hb
          have R2wc4 : Hid (Src wc4 k2 F2 seed (n + m)) := SC.out.up R2wc3.out hb
          have R3wc4 : Hid (Src wc4 k3 F3 seed (n + m)) := SC.out.up R3wc3.out hb
          clear hb PL4 Dwc3 R1wc3 R2wc3 R3wc3
          go_wp2_with fail
          go_ret
          exact ⟨rfl, Dwc4.out⟩
end Go.Proofs.YtfanndkhajokcaaDoor
