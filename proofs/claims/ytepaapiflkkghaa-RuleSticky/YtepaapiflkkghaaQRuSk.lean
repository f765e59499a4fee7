/- RuleSticky, out of what package rule must keep. -/
import Derived.Test.YtepaapiflkkghaaQRuUToRuKp
namespace Go.Proofs.Ytepaapiflkkghaa
open Go.RowKit
attribute [local go_sem] World.cell?_alloc_some cell_alloc2 cell_alloc3 cell_alloc4 frozen?_alloc_cells frozen_out
set_option linter.unusedSimpArgs false
set_option maxRecDepth 20000 in
set_option maxHeartbeats 8000000 in
theorem sticky_walk (v : Value) (t O : List Ar) (E : Nat) (b : Bool) (l : List Tu) (a : Option Addr) (n c : Nat) (st : Nat → List Ar) (f : Nat → Int → Bool) (g : Nat → Bool) (w : World) (HV : Hid (Ats w v t)) (HL : Hid (Tus w (.slice a n c) l)) (HN : Hid (l.length = n)) (HO : Hid (E ≠ 0 → O = []))
    (k8 : Hid (∀ j, f j 8 = true → f (j + 1) 8 = true)) (k9 : Hid (∀ j, f j 9 = false → f (j + 1) 9 = false)) (kh : Hid (∀ j, g j = true → g (j + 1) = true)) (k6 : Hid (∀ j, f j 6 = true → f (j + 1) 6 = true))
    (RA : Calls Try.prog 26 #[] w fun e w' => e = .returned (.bool true) ∧ Below w.heap.size w w')
    (M1 : ∀ W, Ats W v t → Calls Try.prog 10 #[v, .bool b] W fun e w' => (∃ r, e = .returned (.tuple #[r, .int .i64 (E : Int)]) ∧ Ats w' r O) ∧ Below W.heap.size W w')
    (S0 : Hid (st 0 = O))
    (TT : Hid (E = 0 → ∀ j x, l[j]? = some x → ∀ v u W, Ats W v (st j) → Ats W u x.l → Calls Try.prog 27 #[v, .agg #[.bool x.c, u]] W fun e w' => (∃ r, e = .returned r ∧ Ats w' r (st (j + 1))) ∧ Below W.heap.size W w'))
    (IC : Hid (E = 0 → ∀ (k : Int) j v W, 1 ≤ k ∧ k ≤ 18 → Ats W v (st j) → Calls Try.prog 28 #[v, .int .i64 k] W fun e w' => e = .returned (.bool (f j k)) ∧ Below W.heap.size W w'))
    (HC : Hid (E = 0 → ∀ j v W, Ats W v (st j) → Calls Try.prog 16 #[v] W fun e w' => e = .returned (.bool (g j)) ∧ Below W.heap.size W w')) :
    Calls Try.prog 6 #[v, .bool b, .slice a n c] w fun e w' => e = .returned (.bool true) ∧ Below w.heap.size w w' := by
  go_enter Try.func6, Try.ntmps6
  go_wp2_with fail
  refine RA.mono ?_
  rintro e w0 ⟨rfl, hb⟩
  have b0 : Hid (Below w.heap.size w w0) := hb
  have G1 := M1 w0 (HV.out.up hb (Nat.le_refl _))
  clear hb RA M1
  go_wp2_with fail
  refine G1.mono ?_
  rintro e w1 ⟨⟨r, rfl, hr⟩, hb⟩
  have b1 : Hid (Below w.heap.size w w1) := b0.out.trans (hb.mono b0.out.size)
  have R1 : Hid (Ats w1 r O) := hr
  clear hb hr G1 HV b0
  by_cases hE : E = 0
  · subst hE
    have T2 : Hid _ := TT.out rfl
    have I2 : Hid _ := IC.out rfl
    have H2 : Hid _ := HC.out rfl
    clear HO TT IC HC
    by_cases h40 : (n : Int) > 40
    · clear R1
      go_wp2_with fail
      go_ret
      exact ⟨rfl, b1.out⟩
    have N40 : Hid (n ≤ 40) := by
      show _ ≤ _
      omega
    go_wp2_with fail
    clear h40
    go_loopw [7, 36] (fun s i wr => ∃ j : Nat, j ≤ n ∧ i = .int .i64 (j : Int) ∧ Hid (Ats wr s (st j)) ∧ Hid (Below w.heap.size w wr)) (fun _ i _ => n - (intOf i).toNat)
    case atStart => exact ⟨0, Nat.zero_le _, rfl, by rw [S0.out]; exact R1, b1⟩
    case round =>
      clear R1 b1
      obtain ⟨j, hj, rfl, sk, bk⟩ := hrel
      by_cases hlt : j < n
      · have i1 : (j : Int) < (n : Int) := by omega
        have i0 : (0 : Int) ≤ (j : Int) := by omega
        have HJ : Hid (j < n) := hlt
        obtain ⟨p, o, rfl⟩ := HL.out.addr (by have := HN.out; omega)
        obtain ⟨x, hx⟩ : ∃ x, Hid (l[j]? = some x) := ⟨l[j]'(by have := HN.out; omega), List.getElem?_eq_getElem _⟩
        obtain ⟨xa, xc, ex⟩ := (HL.out.up bk.out).elem hx.out
        have EX : Hid (TuE wr p (o + j * 2) x xa xc) := ex
        have E1 : Hid (∀ (C : Array Value) t, TuE (wr.alloc (.cells C t)) p (o + j * 2) x xa xc) := fun C t => EX.out.up ((Below.refl _ _).alloc (Nat.le_refl _) _)
        have s2 : Hid (Kn (wr.alloc (.cells #[.bool x.c, .slice xa x.l.length xc] 52)) [(wr.heap.size, [.bool x.c, .slice xa x.l.length xc])]) := (Kn.nil wr).al [.bool x.c, .slice xa x.l.length xc] 52 rfl
        have ba : Hid (Below wr.heap.size wr (wr.alloc (.cells #[.bool x.c, .slice xa x.l.length xc] 52))) := (Below.refl _ _).alloc (Nat.le_refl _) _
        have b2 : Hid (Below w.heap.size w (wr.alloc (.cells #[.bool x.c, .slice xa x.l.length xc] 52))) := bk.out.trans (ba.out.mono bk.out.size)
        have o2 : Hid (Ats (wr.alloc (.cells #[.bool x.c, .slice xa x.l.length xc] 52)) u7 (st j)) := sk.out.up ba.out (Nat.le_refl _)
        have G := T2.out j x hx.out _ _ _ o2.out (E1.out _ _).2.2
        clear hlt hj ex bk sk ba
        go_wp2_with (first | simp only [zero_turn] | refine wp_ldW rfl 52 _ rfl p (o + j * 2) rfl [.bool x.c, .slice xa x.l.length xc] _ (by first | exact EX.out.rng | exact (E1.out _ _).rng) u_turn rfl (info_turn _ _) ?_ | refine wp_ldW rfl 52 _ rfl wr.heap.size 0 rfl [.bool x.c, .slice xa x.l.length xc] _ (Kn.rng s2.out 0 rfl) u_turn rfl (info_turn _ _) ?_)
        refine G.mono ?_
        rintro e w3 ⟨⟨q, rfl, hq⟩, hb⟩
        have P : Hid (Ats w3 u7 (st j) ∧ Ats w3 q (st (j + 1)) ∧ Below w.heap.size w w3) := ⟨o2.out.up hb (Nat.le_refl _), hq, b2.out.trans (hb.mono b2.out.size)⟩
        clear hb hq b2 s2 EX E1 G o2 T2 S0 HL HN hx
        cases h8 : f j 8 with
        | false =>
          have G := I2.out 8 j u7 _ (by decide) P.out.1
          rw [h8] at G
          go_wp2_with fail
          refine G.mono ?_
          rintro e W ⟨rfl, hb⟩
          have PN : Hid (Ats W u7 (st j) ∧ Ats W q (st (j + 1)) ∧ Below w.heap.size w W) := ⟨P.out.1.up hb (Nat.le_refl _), P.out.2.1.up hb (Nat.le_refl _), P.out.2.2.trans (hb.mono P.out.2.2.size)⟩
          clear hb P G
          have P := PN
          clear PN
          cases h9 : f j 9 with
          | true =>
            have G := I2.out 9 j u7 _ (by decide) P.out.1
            rw [h9] at G
            go_wp2_with fail
            refine G.mono ?_
            rintro e W ⟨rfl, hb⟩
            have PN : Hid (Ats W u7 (st j) ∧ Ats W q (st (j + 1)) ∧ Below w.heap.size w W) := ⟨P.out.1.up hb (Nat.le_refl _), P.out.2.1.up hb (Nat.le_refl _), P.out.2.2.trans (hb.mono P.out.2.2.size)⟩
            clear hb P G
            have P := PN
            clear PN
            cases hh : g j with
            | false =>
              have G := H2.out j u7 _ P.out.1
              rw [hh] at G
              go_wp2_with fail
              refine G.mono ?_
              rintro e W ⟨rfl, hb⟩
              have PN : Hid (Ats W u7 (st j) ∧ Ats W q (st (j + 1)) ∧ Below w.heap.size w W) := ⟨P.out.1.up hb (Nat.le_refl _), P.out.2.1.up hb (Nat.le_refl _), P.out.2.2.trans (hb.mono P.out.2.2.size)⟩
              clear hb P G
              have P := PN
              clear PN
              cases h6 : f j 6 with
              | false =>
                have G := I2.out 6 j u7 _ (by decide) P.out.1
                rw [h6] at G
                go_wp2_with fail
                refine G.mono ?_
                rintro e W ⟨rfl, hb⟩
                have PN : Hid (Ats W u7 (st j) ∧ Ats W q (st (j + 1)) ∧ Below w.heap.size w W) := ⟨P.out.1.up hb (Nat.le_refl _), P.out.2.1.up hb (Nat.le_refl _), P.out.2.2.trans (hb.mono P.out.2.2.size)⟩
                clear hb P G
                have P := PN
                clear PN
                clear I2 H2 k6 k8 k9 kh
                have jn := N40.out
                go_wp2_with fail
                go_roundw
                case rel => exact ⟨j + 1, HJ.out, by go_num, P.out.2.1, P.out.2.2⟩
                case measure => simp [intOf]; have := HJ.out; omega
              | true =>
                have n6 := k6.out j h6
                have G := I2.out 6 j u7 _ (by decide) P.out.1
                rw [h6] at G
                go_wp2_with fail
                refine G.mono ?_
                rintro e W ⟨rfl, hb⟩
                have PN : Hid (Ats W u7 (st j) ∧ Ats W q (st (j + 1)) ∧ Below w.heap.size w W) := ⟨P.out.1.up hb (Nat.le_refl _), P.out.2.1.up hb (Nat.le_refl _), P.out.2.2.trans (hb.mono P.out.2.2.size)⟩
                clear hb P G
                have P := PN
                clear PN
                have G := I2.out 6 (j + 1) q _ (by decide) P.out.2.1
                rw [n6] at G
                go_wp2_with fail
                refine G.mono ?_
                rintro e W ⟨rfl, hb⟩
                have PN : Hid (Ats W u7 (st j) ∧ Ats W q (st (j + 1)) ∧ Below w.heap.size w W) := ⟨P.out.1.up hb (Nat.le_refl _), P.out.2.1.up hb (Nat.le_refl _), P.out.2.2.trans (hb.mono P.out.2.2.size)⟩
                clear hb P G
                have P := PN
                clear PN
                clear I2 H2 k6 k8 k9 kh
                have jn := N40.out
                go_wp2_with fail
                go_roundw
                case rel => exact ⟨j + 1, HJ.out, by go_num, P.out.2.1, P.out.2.2⟩
                case measure => simp [intOf]; have := HJ.out; omega
            | true =>
              have nh := kh.out j hh
              have G := H2.out j u7 _ P.out.1
              rw [hh] at G
              go_wp2_with fail
              refine G.mono ?_
              rintro e W ⟨rfl, hb⟩
              have PN : Hid (Ats W u7 (st j) ∧ Ats W q (st (j + 1)) ∧ Below w.heap.size w W) := ⟨P.out.1.up hb (Nat.le_refl _), P.out.2.1.up hb (Nat.le_refl _), P.out.2.2.trans (hb.mono P.out.2.2.size)⟩
              clear hb P G
              have P := PN
              clear PN
              have G := H2.out (j + 1) q _ P.out.2.1
              rw [nh] at G
              go_wp2_with fail
              refine G.mono ?_
              rintro e W ⟨rfl, hb⟩
              have PN : Hid (Ats W u7 (st j) ∧ Ats W q (st (j + 1)) ∧ Below w.heap.size w W) := ⟨P.out.1.up hb (Nat.le_refl _), P.out.2.1.up hb (Nat.le_refl _), P.out.2.2.trans (hb.mono P.out.2.2.size)⟩
              clear hb P G
              have P := PN
              clear PN
              cases h6 : f j 6 with
              | false =>
                have G := I2.out 6 j u7 _ (by decide) P.out.1
                rw [h6] at G
                go_wp2_with fail
                refine G.mono ?_
                rintro e W ⟨rfl, hb⟩
                have PN : Hid (Ats W u7 (st j) ∧ Ats W q (st (j + 1)) ∧ Below w.heap.size w W) := ⟨P.out.1.up hb (Nat.le_refl _), P.out.2.1.up hb (Nat.le_refl _), P.out.2.2.trans (hb.mono P.out.2.2.size)⟩
                clear hb P G
                have P := PN
                clear PN
                clear I2 H2 k6 k8 k9 kh
                have jn := N40.out
                go_wp2_with fail
                go_roundw
                case rel => exact ⟨j + 1, HJ.out, by go_num, P.out.2.1, P.out.2.2⟩
                case measure => simp [intOf]; have := HJ.out; omega
              | true =>
                have n6 := k6.out j h6
                have G := I2.out 6 j u7 _ (by decide) P.out.1
                rw [h6] at G
                go_wp2_with fail
                refine G.mono ?_
                rintro e W ⟨rfl, hb⟩
                have PN : Hid (Ats W u7 (st j) ∧ Ats W q (st (j + 1)) ∧ Below w.heap.size w W) := ⟨P.out.1.up hb (Nat.le_refl _), P.out.2.1.up hb (Nat.le_refl _), P.out.2.2.trans (hb.mono P.out.2.2.size)⟩
                clear hb P G
                have P := PN
                clear PN
                have G := I2.out 6 (j + 1) q _ (by decide) P.out.2.1
                rw [n6] at G
                go_wp2_with fail
                refine G.mono ?_
                rintro e W ⟨rfl, hb⟩
                have PN : Hid (Ats W u7 (st j) ∧ Ats W q (st (j + 1)) ∧ Below w.heap.size w W) := ⟨P.out.1.up hb (Nat.le_refl _), P.out.2.1.up hb (Nat.le_refl _), P.out.2.2.trans (hb.mono P.out.2.2.size)⟩
                clear hb P G
                have P := PN
                clear PN
                clear I2 H2 k6 k8 k9 kh
                have jn := N40.out
                go_wp2_with fail
                go_roundw
                case rel => exact ⟨j + 1, HJ.out, by go_num, P.out.2.1, P.out.2.2⟩
                case measure => simp [intOf]; have := HJ.out; omega
          | false =>
            have n9 := k9.out j h9
            have G := I2.out 9 j u7 _ (by decide) P.out.1
            rw [h9] at G
            go_wp2_with fail
            refine G.mono ?_
            rintro e W ⟨rfl, hb⟩
            have PN : Hid (Ats W u7 (st j) ∧ Ats W q (st (j + 1)) ∧ Below w.heap.size w W) := ⟨P.out.1.up hb (Nat.le_refl _), P.out.2.1.up hb (Nat.le_refl _), P.out.2.2.trans (hb.mono P.out.2.2.size)⟩
            clear hb P G
            have P := PN
            clear PN
            have G := I2.out 9 (j + 1) q _ (by decide) P.out.2.1
            rw [n9] at G
            go_wp2_with fail
            refine G.mono ?_
            rintro e W ⟨rfl, hb⟩
            have PN : Hid (Ats W u7 (st j) ∧ Ats W q (st (j + 1)) ∧ Below w.heap.size w W) := ⟨P.out.1.up hb (Nat.le_refl _), P.out.2.1.up hb (Nat.le_refl _), P.out.2.2.trans (hb.mono P.out.2.2.size)⟩
            clear hb P G
            have P := PN
            clear PN
            cases hh : g j with
            | false =>
              have G := H2.out j u7 _ P.out.1
              rw [hh] at G
              go_wp2_with fail
              refine G.mono ?_
              rintro e W ⟨rfl, hb⟩
              have PN : Hid (Ats W u7 (st j) ∧ Ats W q (st (j + 1)) ∧ Below w.heap.size w W) := ⟨P.out.1.up hb (Nat.le_refl _), P.out.2.1.up hb (Nat.le_refl _), P.out.2.2.trans (hb.mono P.out.2.2.size)⟩
              clear hb P G
              have P := PN
              clear PN
              cases h6 : f j 6 with
              | false =>
                have G := I2.out 6 j u7 _ (by decide) P.out.1
                rw [h6] at G
                go_wp2_with fail
                refine G.mono ?_
                rintro e W ⟨rfl, hb⟩
                have PN : Hid (Ats W u7 (st j) ∧ Ats W q (st (j + 1)) ∧ Below w.heap.size w W) := ⟨P.out.1.up hb (Nat.le_refl _), P.out.2.1.up hb (Nat.le_refl _), P.out.2.2.trans (hb.mono P.out.2.2.size)⟩
                clear hb P G
                have P := PN
                clear PN
                clear I2 H2 k6 k8 k9 kh
                have jn := N40.out
                go_wp2_with fail
                go_roundw
                case rel => exact ⟨j + 1, HJ.out, by go_num, P.out.2.1, P.out.2.2⟩
                case measure => simp [intOf]; have := HJ.out; omega
              | true =>
                have n6 := k6.out j h6
                have G := I2.out 6 j u7 _ (by decide) P.out.1
                rw [h6] at G
                go_wp2_with fail
                refine G.mono ?_
                rintro e W ⟨rfl, hb⟩
                have PN : Hid (Ats W u7 (st j) ∧ Ats W q (st (j + 1)) ∧ Below w.heap.size w W) := ⟨P.out.1.up hb (Nat.le_refl _), P.out.2.1.up hb (Nat.le_refl _), P.out.2.2.trans (hb.mono P.out.2.2.size)⟩
                clear hb P G
                have P := PN
                clear PN
                have G := I2.out 6 (j + 1) q _ (by decide) P.out.2.1
                rw [n6] at G
                go_wp2_with fail
                refine G.mono ?_
                rintro e W ⟨rfl, hb⟩
                have PN : Hid (Ats W u7 (st j) ∧ Ats W q (st (j + 1)) ∧ Below w.heap.size w W) := ⟨P.out.1.up hb (Nat.le_refl _), P.out.2.1.up hb (Nat.le_refl _), P.out.2.2.trans (hb.mono P.out.2.2.size)⟩
                clear hb P G
                have P := PN
                clear PN
                clear I2 H2 k6 k8 k9 kh
                have jn := N40.out
                go_wp2_with fail
                go_roundw
                case rel => exact ⟨j + 1, HJ.out, by go_num, P.out.2.1, P.out.2.2⟩
                case measure => simp [intOf]; have := HJ.out; omega
            | true =>
              have nh := kh.out j hh
              have G := H2.out j u7 _ P.out.1
              rw [hh] at G
              go_wp2_with fail
              refine G.mono ?_
              rintro e W ⟨rfl, hb⟩
              have PN : Hid (Ats W u7 (st j) ∧ Ats W q (st (j + 1)) ∧ Below w.heap.size w W) := ⟨P.out.1.up hb (Nat.le_refl _), P.out.2.1.up hb (Nat.le_refl _), P.out.2.2.trans (hb.mono P.out.2.2.size)⟩
              clear hb P G
              have P := PN
              clear PN
              have G := H2.out (j + 1) q _ P.out.2.1
              rw [nh] at G
              go_wp2_with fail
              refine G.mono ?_
              rintro e W ⟨rfl, hb⟩
              have PN : Hid (Ats W u7 (st j) ∧ Ats W q (st (j + 1)) ∧ Below w.heap.size w W) := ⟨P.out.1.up hb (Nat.le_refl _), P.out.2.1.up hb (Nat.le_refl _), P.out.2.2.trans (hb.mono P.out.2.2.size)⟩
              clear hb P G
              have P := PN
              clear PN
              cases h6 : f j 6 with
              | false =>
                have G := I2.out 6 j u7 _ (by decide) P.out.1
                rw [h6] at G
                go_wp2_with fail
                refine G.mono ?_
                rintro e W ⟨rfl, hb⟩
                have PN : Hid (Ats W u7 (st j) ∧ Ats W q (st (j + 1)) ∧ Below w.heap.size w W) := ⟨P.out.1.up hb (Nat.le_refl _), P.out.2.1.up hb (Nat.le_refl _), P.out.2.2.trans (hb.mono P.out.2.2.size)⟩
                clear hb P G
                have P := PN
                clear PN
                clear I2 H2 k6 k8 k9 kh
                have jn := N40.out
                go_wp2_with fail
                go_roundw
                case rel => exact ⟨j + 1, HJ.out, by go_num, P.out.2.1, P.out.2.2⟩
                case measure => simp [intOf]; have := HJ.out; omega
              | true =>
                have n6 := k6.out j h6
                have G := I2.out 6 j u7 _ (by decide) P.out.1
                rw [h6] at G
                go_wp2_with fail
                refine G.mono ?_
                rintro e W ⟨rfl, hb⟩
                have PN : Hid (Ats W u7 (st j) ∧ Ats W q (st (j + 1)) ∧ Below w.heap.size w W) := ⟨P.out.1.up hb (Nat.le_refl _), P.out.2.1.up hb (Nat.le_refl _), P.out.2.2.trans (hb.mono P.out.2.2.size)⟩
                clear hb P G
                have P := PN
                clear PN
                have G := I2.out 6 (j + 1) q _ (by decide) P.out.2.1
                rw [n6] at G
                go_wp2_with fail
                refine G.mono ?_
                rintro e W ⟨rfl, hb⟩
                have PN : Hid (Ats W u7 (st j) ∧ Ats W q (st (j + 1)) ∧ Below w.heap.size w W) := ⟨P.out.1.up hb (Nat.le_refl _), P.out.2.1.up hb (Nat.le_refl _), P.out.2.2.trans (hb.mono P.out.2.2.size)⟩
                clear hb P G
                have P := PN
                clear PN
                clear I2 H2 k6 k8 k9 kh
                have jn := N40.out
                go_wp2_with fail
                go_roundw
                case rel => exact ⟨j + 1, HJ.out, by go_num, P.out.2.1, P.out.2.2⟩
                case measure => simp [intOf]; have := HJ.out; omega
        | true =>
          have n8 := k8.out j h8
          have G := I2.out 8 j u7 _ (by decide) P.out.1
          rw [h8] at G
          go_wp2_with fail
          refine G.mono ?_
          rintro e W ⟨rfl, hb⟩
          have PN : Hid (Ats W u7 (st j) ∧ Ats W q (st (j + 1)) ∧ Below w.heap.size w W) := ⟨P.out.1.up hb (Nat.le_refl _), P.out.2.1.up hb (Nat.le_refl _), P.out.2.2.trans (hb.mono P.out.2.2.size)⟩
          clear hb P G
          have P := PN
          clear PN
          have G := I2.out 8 (j + 1) q _ (by decide) P.out.2.1
          rw [n8] at G
          go_wp2_with fail
          refine G.mono ?_
          rintro e W ⟨rfl, hb⟩
          have PN : Hid (Ats W u7 (st j) ∧ Ats W q (st (j + 1)) ∧ Below w.heap.size w W) := ⟨P.out.1.up hb (Nat.le_refl _), P.out.2.1.up hb (Nat.le_refl _), P.out.2.2.trans (hb.mono P.out.2.2.size)⟩
          clear hb P G
          have P := PN
          clear PN
          cases h9 : f j 9 with
          | true =>
            have G := I2.out 9 j u7 _ (by decide) P.out.1
            rw [h9] at G
            go_wp2_with fail
            refine G.mono ?_
            rintro e W ⟨rfl, hb⟩
            have PN : Hid (Ats W u7 (st j) ∧ Ats W q (st (j + 1)) ∧ Below w.heap.size w W) := ⟨P.out.1.up hb (Nat.le_refl _), P.out.2.1.up hb (Nat.le_refl _), P.out.2.2.trans (hb.mono P.out.2.2.size)⟩
            clear hb P G
            have P := PN
            clear PN
            cases hh : g j with
            | false =>
              have G := H2.out j u7 _ P.out.1
              rw [hh] at G
              go_wp2_with fail
              refine G.mono ?_
              rintro e W ⟨rfl, hb⟩
              have PN : Hid (Ats W u7 (st j) ∧ Ats W q (st (j + 1)) ∧ Below w.heap.size w W) := ⟨P.out.1.up hb (Nat.le_refl _), P.out.2.1.up hb (Nat.le_refl _), P.out.2.2.trans (hb.mono P.out.2.2.size)⟩
              clear hb P G
              have P := PN
              clear PN
              cases h6 : f j 6 with
              | false =>
                have G := I2.out 6 j u7 _ (by decide) P.out.1
                rw [h6] at G
                go_wp2_with fail
                refine G.mono ?_
                rintro e W ⟨rfl, hb⟩
                have PN : Hid (Ats W u7 (st j) ∧ Ats W q (st (j + 1)) ∧ Below w.heap.size w W) := ⟨P.out.1.up hb (Nat.le_refl _), P.out.2.1.up hb (Nat.le_refl _), P.out.2.2.trans (hb.mono P.out.2.2.size)⟩
                clear hb P G
                have P := PN
                clear PN
                clear I2 H2 k6 k8 k9 kh
                have jn := N40.out
                go_wp2_with fail
                go_roundw
                case rel => exact ⟨j + 1, HJ.out, by go_num, P.out.2.1, P.out.2.2⟩
                case measure => simp [intOf]; have := HJ.out; omega
              | true =>
                have n6 := k6.out j h6
                have G := I2.out 6 j u7 _ (by decide) P.out.1
                rw [h6] at G
                go_wp2_with fail
                refine G.mono ?_
                rintro e W ⟨rfl, hb⟩
                have PN : Hid (Ats W u7 (st j) ∧ Ats W q (st (j + 1)) ∧ Below w.heap.size w W) := ⟨P.out.1.up hb (Nat.le_refl _), P.out.2.1.up hb (Nat.le_refl _), P.out.2.2.trans (hb.mono P.out.2.2.size)⟩
                clear hb P G
                have P := PN
                clear PN
                have G := I2.out 6 (j + 1) q _ (by decide) P.out.2.1
                rw [n6] at G
                go_wp2_with fail
                refine G.mono ?_
                rintro e W ⟨rfl, hb⟩
                have PN : Hid (Ats W u7 (st j) ∧ Ats W q (st (j + 1)) ∧ Below w.heap.size w W) := ⟨P.out.1.up hb (Nat.le_refl _), P.out.2.1.up hb (Nat.le_refl _), P.out.2.2.trans (hb.mono P.out.2.2.size)⟩
                clear hb P G
                have P := PN
                clear PN
                clear I2 H2 k6 k8 k9 kh
                have jn := N40.out
                go_wp2_with fail
                go_roundw
                case rel => exact ⟨j + 1, HJ.out, by go_num, P.out.2.1, P.out.2.2⟩
                case measure => simp [intOf]; have := HJ.out; omega
            | true =>
              have nh := kh.out j hh
              have G := H2.out j u7 _ P.out.1
              rw [hh] at G
              go_wp2_with fail
              refine G.mono ?_
              rintro e W ⟨rfl, hb⟩
              have PN : Hid (Ats W u7 (st j) ∧ Ats W q (st (j + 1)) ∧ Below w.heap.size w W) := ⟨P.out.1.up hb (Nat.le_refl _), P.out.2.1.up hb (Nat.le_refl _), P.out.2.2.trans (hb.mono P.out.2.2.size)⟩
              clear hb P G
              have P := PN
              clear PN
              have G := H2.out (j + 1) q _ P.out.2.1
              rw [nh] at G
              go_wp2_with fail
              refine G.mono ?_
              rintro e W ⟨rfl, hb⟩
              have PN : Hid (Ats W u7 (st j) ∧ Ats W q (st (j + 1)) ∧ Below w.heap.size w W) := ⟨P.out.1.up hb (Nat.le_refl _), P.out.2.1.up hb (Nat.le_refl _), P.out.2.2.trans (hb.mono P.out.2.2.size)⟩
              clear hb P G
              have P := PN
              clear PN
              cases h6 : f j 6 with
              | false =>
                have G := I2.out 6 j u7 _ (by decide) P.out.1
                rw [h6] at G
                go_wp2_with fail
                refine G.mono ?_
                rintro e W ⟨rfl, hb⟩
                have PN : Hid (Ats W u7 (st j) ∧ Ats W q (st (j + 1)) ∧ Below w.heap.size w W) := ⟨P.out.1.up hb (Nat.le_refl _), P.out.2.1.up hb (Nat.le_refl _), P.out.2.2.trans (hb.mono P.out.2.2.size)⟩
                clear hb P G
                have P := PN
                clear PN
                clear I2 H2 k6 k8 k9 kh
                have jn := N40.out
                go_wp2_with fail
                go_roundw
                case rel => exact ⟨j + 1, HJ.out, by go_num, P.out.2.1, P.out.2.2⟩
                case measure => simp [intOf]; have := HJ.out; omega
              | true =>
                have n6 := k6.out j h6
                have G := I2.out 6 j u7 _ (by decide) P.out.1
                rw [h6] at G
                go_wp2_with fail
                refine G.mono ?_
                rintro e W ⟨rfl, hb⟩
                have PN : Hid (Ats W u7 (st j) ∧ Ats W q (st (j + 1)) ∧ Below w.heap.size w W) := ⟨P.out.1.up hb (Nat.le_refl _), P.out.2.1.up hb (Nat.le_refl _), P.out.2.2.trans (hb.mono P.out.2.2.size)⟩
                clear hb P G
                have P := PN
                clear PN
                have G := I2.out 6 (j + 1) q _ (by decide) P.out.2.1
                rw [n6] at G
                go_wp2_with fail
                refine G.mono ?_
                rintro e W ⟨rfl, hb⟩
                have PN : Hid (Ats W u7 (st j) ∧ Ats W q (st (j + 1)) ∧ Below w.heap.size w W) := ⟨P.out.1.up hb (Nat.le_refl _), P.out.2.1.up hb (Nat.le_refl _), P.out.2.2.trans (hb.mono P.out.2.2.size)⟩
                clear hb P G
                have P := PN
                clear PN
                clear I2 H2 k6 k8 k9 kh
                have jn := N40.out
                go_wp2_with fail
                go_roundw
                case rel => exact ⟨j + 1, HJ.out, by go_num, P.out.2.1, P.out.2.2⟩
                case measure => simp [intOf]; have := HJ.out; omega
          | false =>
            have n9 := k9.out j h9
            have G := I2.out 9 j u7 _ (by decide) P.out.1
            rw [h9] at G
            go_wp2_with fail
            refine G.mono ?_
            rintro e W ⟨rfl, hb⟩
            have PN : Hid (Ats W u7 (st j) ∧ Ats W q (st (j + 1)) ∧ Below w.heap.size w W) := ⟨P.out.1.up hb (Nat.le_refl _), P.out.2.1.up hb (Nat.le_refl _), P.out.2.2.trans (hb.mono P.out.2.2.size)⟩
            clear hb P G
            have P := PN
            clear PN
            have G := I2.out 9 (j + 1) q _ (by decide) P.out.2.1
            rw [n9] at G
            go_wp2_with fail
            refine G.mono ?_
            rintro e W ⟨rfl, hb⟩
            have PN : Hid (Ats W u7 (st j) ∧ Ats W q (st (j + 1)) ∧ Below w.heap.size w W) := ⟨P.out.1.up hb (Nat.le_refl _), P.out.2.1.up hb (Nat.le_refl _), P.out.2.2.trans (hb.mono P.out.2.2.size)⟩
            clear hb P G
            have P := PN
            clear PN
            cases hh : g j with
            | false =>
              have G := H2.out j u7 _ P.out.1
              rw [hh] at G
              go_wp2_with fail
              refine G.mono ?_
              rintro e W ⟨rfl, hb⟩
              have PN : Hid (Ats W u7 (st j) ∧ Ats W q (st (j + 1)) ∧ Below w.heap.size w W) := ⟨P.out.1.up hb (Nat.le_refl _), P.out.2.1.up hb (Nat.le_refl _), P.out.2.2.trans (hb.mono P.out.2.2.size)⟩
              clear hb P G
              have P := PN
              clear PN
              cases h6 : f j 6 with
              | false =>
                have G := I2.out 6 j u7 _ (by decide) P.out.1
                rw [h6] at G
                go_wp2_with fail
                refine G.mono ?_
                rintro e W ⟨rfl, hb⟩
                have PN : Hid (Ats W u7 (st j) ∧ Ats W q (st (j + 1)) ∧ Below w.heap.size w W) := ⟨P.out.1.up hb (Nat.le_refl _), P.out.2.1.up hb (Nat.le_refl _), P.out.2.2.trans (hb.mono P.out.2.2.size)⟩
                clear hb P G
                have P := PN
                clear PN
                clear I2 H2 k6 k8 k9 kh
                have jn := N40.out
                go_wp2_with fail
                go_roundw
                case rel => exact ⟨j + 1, HJ.out, by go_num, P.out.2.1, P.out.2.2⟩
                case measure => simp [intOf]; have := HJ.out; omega
              | true =>
                have n6 := k6.out j h6
                have G := I2.out 6 j u7 _ (by decide) P.out.1
                rw [h6] at G
                go_wp2_with fail
                refine G.mono ?_
                rintro e W ⟨rfl, hb⟩
                have PN : Hid (Ats W u7 (st j) ∧ Ats W q (st (j + 1)) ∧ Below w.heap.size w W) := ⟨P.out.1.up hb (Nat.le_refl _), P.out.2.1.up hb (Nat.le_refl _), P.out.2.2.trans (hb.mono P.out.2.2.size)⟩
                clear hb P G
                have P := PN
                clear PN
                have G := I2.out 6 (j + 1) q _ (by decide) P.out.2.1
                rw [n6] at G
                go_wp2_with fail
                refine G.mono ?_
                rintro e W ⟨rfl, hb⟩
                have PN : Hid (Ats W u7 (st j) ∧ Ats W q (st (j + 1)) ∧ Below w.heap.size w W) := ⟨P.out.1.up hb (Nat.le_refl _), P.out.2.1.up hb (Nat.le_refl _), P.out.2.2.trans (hb.mono P.out.2.2.size)⟩
                clear hb P G
                have P := PN
                clear PN
                clear I2 H2 k6 k8 k9 kh
                have jn := N40.out
                go_wp2_with fail
                go_roundw
                case rel => exact ⟨j + 1, HJ.out, by go_num, P.out.2.1, P.out.2.2⟩
                case measure => simp [intOf]; have := HJ.out; omega
            | true =>
              have nh := kh.out j hh
              have G := H2.out j u7 _ P.out.1
              rw [hh] at G
              go_wp2_with fail
              refine G.mono ?_
              rintro e W ⟨rfl, hb⟩
              have PN : Hid (Ats W u7 (st j) ∧ Ats W q (st (j + 1)) ∧ Below w.heap.size w W) := ⟨P.out.1.up hb (Nat.le_refl _), P.out.2.1.up hb (Nat.le_refl _), P.out.2.2.trans (hb.mono P.out.2.2.size)⟩
              clear hb P G
              have P := PN
              clear PN
              have G := H2.out (j + 1) q _ P.out.2.1
              rw [nh] at G
              go_wp2_with fail
              refine G.mono ?_
              rintro e W ⟨rfl, hb⟩
              have PN : Hid (Ats W u7 (st j) ∧ Ats W q (st (j + 1)) ∧ Below w.heap.size w W) := ⟨P.out.1.up hb (Nat.le_refl _), P.out.2.1.up hb (Nat.le_refl _), P.out.2.2.trans (hb.mono P.out.2.2.size)⟩
              clear hb P G
              have P := PN
              clear PN
              cases h6 : f j 6 with
              | false =>
                have G := I2.out 6 j u7 _ (by decide) P.out.1
                rw [h6] at G
                go_wp2_with fail
                refine G.mono ?_
                rintro e W ⟨rfl, hb⟩
                have PN : Hid (Ats W u7 (st j) ∧ Ats W q (st (j + 1)) ∧ Below w.heap.size w W) := ⟨P.out.1.up hb (Nat.le_refl _), P.out.2.1.up hb (Nat.le_refl _), P.out.2.2.trans (hb.mono P.out.2.2.size)⟩
                clear hb P G
                have P := PN
                clear PN
                clear I2 H2 k6 k8 k9 kh
                have jn := N40.out
                go_wp2_with fail
                go_roundw
                case rel => exact ⟨j + 1, HJ.out, by go_num, P.out.2.1, P.out.2.2⟩
                case measure => simp [intOf]; have := HJ.out; omega
              | true =>
                have n6 := k6.out j h6
                have G := I2.out 6 j u7 _ (by decide) P.out.1
                rw [h6] at G
                go_wp2_with fail
                refine G.mono ?_
                rintro e W ⟨rfl, hb⟩
                have PN : Hid (Ats W u7 (st j) ∧ Ats W q (st (j + 1)) ∧ Below w.heap.size w W) := ⟨P.out.1.up hb (Nat.le_refl _), P.out.2.1.up hb (Nat.le_refl _), P.out.2.2.trans (hb.mono P.out.2.2.size)⟩
                clear hb P G
                have P := PN
                clear PN
                have G := I2.out 6 (j + 1) q _ (by decide) P.out.2.1
                rw [n6] at G
                go_wp2_with fail
                refine G.mono ?_
                rintro e W ⟨rfl, hb⟩
                have PN : Hid (Ats W u7 (st j) ∧ Ats W q (st (j + 1)) ∧ Below w.heap.size w W) := ⟨P.out.1.up hb (Nat.le_refl _), P.out.2.1.up hb (Nat.le_refl _), P.out.2.2.trans (hb.mono P.out.2.2.size)⟩
                clear hb P G
                have P := PN
                clear PN
                clear I2 H2 k6 k8 k9 kh
                have jn := N40.out
                go_wp2_with fail
                go_roundw
                case rel => exact ⟨j + 1, HJ.out, by go_num, P.out.2.1, P.out.2.2⟩
                case measure => simp [intOf]; have := HJ.out; omega
      · have i1 : ¬ (j : Int) < (n : Int) := by omega
        clear hlt hj T2 S0 HL HN N40 sk I2 H2 k6 k8 k9 kh
        go_wp2_with fail
        go_ret
        exact ⟨rfl, bk.out⟩
  · have e1 : ((E : Int) != 0) = true := bne_iff_ne.2 (by omega)
    have e2 : ((E : Int) == 0) = false := beq_eq_false_iff_ne.2 (by omega)
    obtain rfl := HO.out hE
    obtain ⟨ra, rc, rfl⟩ := ats_parts R1.out
    rw [show ([] : List Ar).length = 0 from rfl]
    clear R1 HO hE S0 TT IC HC k6 k8 k9 kh
    go_wp2_with fail
    go_ret
    exact ⟨rfl, b1.out⟩
/-- RuleSticky. -/
theorem ruleSticky_of (KC : RlMakeC) (CC : RlChangeC) (PC : RlCopyC) (HC : RlHiddenC) (IC : AtIsC) (t : List Ar) (lt : lowA t) (hl : t.length ≤ 140737488351232) (zt : zedA t) (b : Bool) (l : List Tu) (lu : ∀ x ∈ l, x.ok) (w : World) {v u : Value} (h : Ats w v t) (hu : Tus w u l) :
    Calls Try.prog 6 #[v, .bool b, u] w fun e w' => e = .returned (.bool true) ∧ Below w.heap.size w w' := by
  have lo := madL_low (b := b) lt
  obtain ⟨a, c, rfl⟩ := tus_parts hu
  have hv : madE t b = 0 → valA (madL t b) = true := fun h => mad_val h
  have lw := trnS_low lu lo
  have zd (h : madE t b = 0) (j : Nat) : zedA (trnS l (madL t b) j) := val_zed (trnS_val (hv h) j)
  have ln (h : madE t b = 0) (j : Nat) : (trnS l (madL t b) j).length ≤ 4611686018427387904 := by
    have := val_len (trnS_val (l := l) (hv h) j)
    omega
  have nx (j : Nat) : trnS l (madL t b) (j + 1) = trnS l (madL t b) j ∨ ∃ x, trnS l (madL t b) (j + 1) = trnT (trnS l (madL t b) j) x := by
    cases hx : l[j]? with
    | none =>
      refine .inl ?_
      unfold trnS
      rw [List.take_add_one, hx, Option.toList_none, List.append_nil]
    | some x => exact .inr ⟨x, trnS_succ hx⟩
  refine sticky_walk v t (madL t b) (madE t b) b l a l.length c (trnS l (madL t b)) (fun j k => isB (trnS l (madL t b) j) k) (fun j => hidA (trnS l (madL t b) j)) w h hu rfl mad_nil (fun j hj => ?_) (fun j hj => ?_) (fun j hj => ?_) (fun j hj => ?_) (rules_alive KC w)
    (fun W hW => KC v t b W lt (by omega) zt hW) (trnS_zero _ _) (fun h j x hx v u W h1 h2 => ?_) (fun h k j v W hk hW => IC v _ k W (lw _) (ln h _) (by omega) (by omega) hW) (fun h j v W hW => HC v _ W (lw _) (ln h _) (zd h _) hW)
  · rcases nx j with e | ⟨x, e⟩
    · simp only [e]; exact hj
    · simp only [e]; exact keep8 _ x hj
  · rcases nx j with e | ⟨x, e⟩
    · simp only [e]; exact hj
    · simp only [e]; exact keep9 _ x hj
  · rcases nx j with e | ⟨x, e⟩
    · simp only [e]; exact hj
    · simp only [e]; exact keepH _ x hj
  · rcases nx j with e | ⟨x, e⟩
    · simp only [e]; exact hj
    · simp only [e]; exact keep6 _ x hj
  · rw [trnS_succ hx]
    exact turnedK_fun CC PC _ (lw j) (ln h j) (zd h j) x (lu x (List.mem_of_getElem? hx)) v u W h1 h2
end Go.Proofs.Ytepaapiflkkghaa
