/- RuleSides, out of what package rule must keep. -/
import Derived.Test.YtepaapiflkkghabQRuTuToRuTw
namespace Go.Proofs.Ytepaapiflkkghab
open Go.RowKit
attribute [local go_sem] World.cell?_alloc_some cell_alloc2 cell_alloc3 cell_alloc4 frozen?_alloc_cells frozen_out
set_option linter.unusedSimpArgs false
set_option maxRecDepth 20000 in
set_option maxHeartbeats 4000000 in
theorem sides_walk (v : Value) (t O : List Ar) (E : Nat) (b : Bool) (l : List Tu) (a : Option Addr) (n c : Nat) (st : Nat → List Ar) (m : Int → Int) (w : World) (HV : Hid (Ats w v t)) (HL : Hid (Tus w (.slice a n c) l)) (HN : Hid (l.length = n)) (HO : Hid (E ≠ 0 → O = []))
    (NO : Hid (E = 0 → (m 16 = 0 ∨ m 17 = 0) → (m 13 = 0 ∨ m 14 = 0 ∨ m 15 = 0) → False))
    (M1 : ∀ W, Ats W v t → Calls Try.prog 5 #[v, .bool b] W fun e w' => (∃ r, e = .returned (.tuple #[r, .int .i64 (E : Int)]) ∧ Ats w' r O) ∧ Below W.heap.size W w')
    (S0 : Hid (st 0 = O))
    (TT : Hid (E = 0 → ∀ j x, l[j]? = some x → ∀ v u W, Ats W v (st j) → Ats W u x.l → Calls Try.prog 6 #[v, .agg #[.bool x.c, u]] W fun e w' => (∃ r, e = .returned r ∧ Ats w' r (st (j + 1))) ∧ Below W.heap.size W w'))
    (MC : Hid (E = 0 → ∀ (k : Int) v W, 13 ≤ k ∧ k ≤ 17 → Ats W v (st n) → Calls Try.prog 7 #[v, .int .i64 k] W fun e w' => e = .returned (.int .i64 (m k)) ∧ Below W.heap.size W w')) :
    Calls Try.prog 3 #[v, .bool b, .slice a n c] w fun e w' => e = .returned (.bool true) ∧ Below w.heap.size w w' := by
  have G1 := M1 w HV.out
  clear M1
  go_enter Try.func3, Try.ntmps3
  go_wp2_with fail
  refine G1.mono ?_
  rintro e w1 ⟨⟨r, rfl, hr⟩, hb⟩
  have b1 : Hid (Below w.heap.size w w1) := hb
  have R1 : Hid (Ats w1 r O) := hr
  clear hb hr G1 HV
  by_cases hE : E = 0
  · subst hE
    have T2 : Hid _ := TT.out rfl
    have M2 : Hid _ := MC.out rfl
    have N2 : Hid _ := NO.out rfl
    clear HO TT MC NO
    by_cases h40 : (n : Int) > 40
    · clear R1
      go_wp2_with fail
      go_ret
      exact ⟨rfl, b1.out⟩
    have N40 : Hid (n ≤ 40) := by
      show _ ≤ _
      omega
    go_wp2_with fail
    clear h40
    go_loopw [7, 35] (fun s i wr => ∃ j : Nat, j ≤ n ∧ i = .int .i64 (j : Int) ∧ Hid (Ats wr s (st j)) ∧ Hid (Below w.heap.size w wr)) (fun _ i _ => n - (intOf i).toNat)
    case atStart => exact ⟨0, Nat.zero_le _, rfl, by rw [S0.out]; exact R1, b1⟩
    case round =>
      clear R1 b1
      obtain ⟨j, hj, rfl, sk, bk⟩ := hrel
      by_cases hlt : j < n
      · have i1 : (j : Int) < (n : Int) := by omega
        have i0 : (0 : Int) ≤ (j : Int) := by omega
        have HJ : Hid (j < n) := hlt
        obtain ⟨p, o, rfl⟩ := HL.out.addr (by have := HN.out; omega)
        obtain ⟨x, hx⟩ : ∃ x, Hid (l[j]? = some x) := ⟨l[j]'(by have := HN.out; omega), List.getElem?_eq_getElem _⟩
        obtain ⟨xa, xc, ex⟩ := (HL.out.up bk.out).elem hx.out
        have EX : Hid (TuE wr p (o + j * 2) x xa xc) := ex
        have E1 : Hid (∀ (C : Array Value) t, TuE (wr.alloc (.cells C t)) p (o + j * 2) x xa xc) := fun C t => EX.out.up ((Below.refl _ _).alloc (Nat.le_refl _) _)
        have s2 : Hid (Kn (wr.alloc (.cells #[.bool x.c, .slice xa x.l.length xc] 28)) [(wr.heap.size, [.bool x.c, .slice xa x.l.length xc])]) := (Kn.nil wr).al [.bool x.c, .slice xa x.l.length xc] 28 rfl
        have ba : Hid (Below wr.heap.size wr (wr.alloc (.cells #[.bool x.c, .slice xa x.l.length xc] 28))) := (Below.refl _ _).alloc (Nat.le_refl _) _
        have b2 : Hid (Below w.heap.size w (wr.alloc (.cells #[.bool x.c, .slice xa x.l.length xc] 28))) := bk.out.trans (ba.out.mono bk.out.size)
        have G := T2.out j x hx.out _ _ _ (sk.out.up ba.out (Nat.le_refl _)) (E1.out _ _).2.2
        clear hlt hj ex bk sk ba
        go_wp2_with (first | simp only [zero_turn] | refine wp_ldW rfl 28 _ rfl p (o + j * 2) rfl [.bool x.c, .slice xa x.l.length xc] _ (by first | exact EX.out.rng | exact (E1.out _ _).rng) u_turn rfl (info_turn _ _) ?_ | refine wp_ldW rfl 28 _ rfl wr.heap.size 0 rfl [.bool x.c, .slice xa x.l.length xc] _ (Kn.rng s2.out 0 rfl) u_turn rfl (info_turn _ _) ?_)
        refine G.mono ?_
        rintro e w3 ⟨⟨q, rfl, hq⟩, hb⟩
        have b3 : Hid (Below w.heap.size w w3) := b2.out.trans (hb.mono b2.out.size)
        have s3 : Hid (Ats w3 q (st (j + 1))) := hq
        clear hb hq b2 s2 EX E1 G
        go_wp2_with fail
        go_roundw
        case rel => exact ⟨j + 1, HJ.out, by go_num, s3, b3⟩
        case measure => simp [intOf]; have := HJ.out; omega
      · have i1 : ¬ (j : Int) < (n : Int) := by omega
        obtain rfl : j = n := by omega
        clear hlt hj T2 S0 HL HN N40
        by_cases d6 : m 16 = 0
        · have q6 : (m 16 == 0) = true := beq_iff_eq.2 d6
          have d0 : m 16 = 0 ∨ m 17 = 0 := .inl d6
          clear d6
          have G := M2.out 16 u7 _ (by decide) sk.out
          go_wp2_with fail
          refine G.mono ?_
          rintro e x1 ⟨rfl, hb⟩
          have c6 : Hid (Below w.heap.size w x1) := bk.out.trans (hb.mono bk.out.size)
          have e6 : Hid (Ats x1 u7 (st j)) := sk.out.up hb (Nat.le_refl _)
          clear hb sk bk G
          by_cases d3 : m 13 = 0
          · have nk := N2.out d0 (.inl d3)
            cases nk
          have q3 : (m 13 == 0) = false := beq_eq_false_iff_ne.2 d3
          clear d3
          by_cases d4 : m 14 = 0
          · have nk := N2.out d0 (.inr (.inl d4))
            cases nk
          have q4 : (m 14 == 0) = false := beq_eq_false_iff_ne.2 d4
          clear d4
          by_cases d5 : m 15 = 0
          · have nk := N2.out d0 (.inr (.inr d5))
            cases nk
          have q5 : (m 15 == 0) = false := beq_eq_false_iff_ne.2 d5
          clear d5 N2 d0
          have G := M2.out 13 u7 _ (by decide) e6.out
          go_wp2_with fail
          refine G.mono ?_
          rintro e y1 ⟨rfl, hb⟩
          have c1 : Hid (Below w.heap.size w y1) := c6.out.trans (hb.mono c6.out.size)
          have e1 : Hid (Ats y1 u7 (st j)) := e6.out.up hb (Nat.le_refl _)
          clear hb e6 c6 G
          have G := M2.out 14 u7 _ (by decide) e1.out
          go_wp2_with fail
          refine G.mono ?_
          rintro e y2 ⟨rfl, hb⟩
          have c2 : Hid (Below w.heap.size w y2) := c1.out.trans (hb.mono c1.out.size)
          have e2 : Hid (Ats y2 u7 (st j)) := e1.out.up hb (Nat.le_refl _)
          clear hb e1 c1 G
          have G := M2.out 15 u7 _ (by decide) e2.out
          go_wp2_with fail
          refine G.mono ?_
          rintro e y3 ⟨rfl, hb⟩
          have c3 : Hid (Below w.heap.size w y3) := c2.out.trans (hb.mono c2.out.size)
          have e3 : Hid (Ats y3 u7 (st j)) := e2.out.up hb (Nat.le_refl _)
          clear hb e2 c2 G
          clear e3 M2
          go_wp2_with fail
          go_ret
          exact ⟨rfl, c3.out⟩
        have q6 : (m 16 == 0) = false := beq_eq_false_iff_ne.2 d6
        by_cases d7 : m 17 = 0
        · have q7 : (m 17 == 0) = true := beq_iff_eq.2 d7
          have d0 : m 16 = 0 ∨ m 17 = 0 := .inr d7
          clear d6 d7
          have G := M2.out 16 u7 _ (by decide) sk.out
          go_wp2_with fail
          refine G.mono ?_
          rintro e x1 ⟨rfl, hb⟩
          have c6 : Hid (Below w.heap.size w x1) := bk.out.trans (hb.mono bk.out.size)
          have e6 : Hid (Ats x1 u7 (st j)) := sk.out.up hb (Nat.le_refl _)
          clear hb sk bk G
          have G := M2.out 17 u7 _ (by decide) e6.out
          go_wp2_with fail
          refine G.mono ?_
          rintro e x2 ⟨rfl, hb⟩
          have c7 : Hid (Below w.heap.size w x2) := c6.out.trans (hb.mono c6.out.size)
          have e7 : Hid (Ats x2 u7 (st j)) := e6.out.up hb (Nat.le_refl _)
          clear hb e6 c6 G
          by_cases d3 : m 13 = 0
          · have nk := N2.out d0 (.inl d3)
            cases nk
          have q3 : (m 13 == 0) = false := beq_eq_false_iff_ne.2 d3
          clear d3
          by_cases d4 : m 14 = 0
          · have nk := N2.out d0 (.inr (.inl d4))
            cases nk
          have q4 : (m 14 == 0) = false := beq_eq_false_iff_ne.2 d4
          clear d4
          by_cases d5 : m 15 = 0
          · have nk := N2.out d0 (.inr (.inr d5))
            cases nk
          have q5 : (m 15 == 0) = false := beq_eq_false_iff_ne.2 d5
          clear d5 N2 d0
          have G := M2.out 13 u7 _ (by decide) e7.out
          go_wp2_with fail
          refine G.mono ?_
          rintro e y1 ⟨rfl, hb⟩
          have c1 : Hid (Below w.heap.size w y1) := c7.out.trans (hb.mono c7.out.size)
          have e1 : Hid (Ats y1 u7 (st j)) := e7.out.up hb (Nat.le_refl _)
          clear hb e7 c7 G
          have G := M2.out 14 u7 _ (by decide) e1.out
          go_wp2_with fail
          refine G.mono ?_
          rintro e y2 ⟨rfl, hb⟩
          have c2 : Hid (Below w.heap.size w y2) := c1.out.trans (hb.mono c1.out.size)
          have e2 : Hid (Ats y2 u7 (st j)) := e1.out.up hb (Nat.le_refl _)
          clear hb e1 c1 G
          have G := M2.out 15 u7 _ (by decide) e2.out
          go_wp2_with fail
          refine G.mono ?_
          rintro e y3 ⟨rfl, hb⟩
          have c3 : Hid (Below w.heap.size w y3) := c2.out.trans (hb.mono c2.out.size)
          have e3 : Hid (Ats y3 u7 (st j)) := e2.out.up hb (Nat.le_refl _)
          clear hb e2 c2 G
          clear e3 M2
          go_wp2_with fail
          go_ret
          exact ⟨rfl, c3.out⟩
        have q7 : (m 17 == 0) = false := beq_eq_false_iff_ne.2 d7
        clear d6 d7 N2
        have G := M2.out 16 u7 _ (by decide) sk.out
        go_wp2_with fail
        refine G.mono ?_
        rintro e x1 ⟨rfl, hb⟩
        have c6 : Hid (Below w.heap.size w x1) := bk.out.trans (hb.mono bk.out.size)
        have e6 : Hid (Ats x1 u7 (st j)) := sk.out.up hb (Nat.le_refl _)
        clear hb sk bk G
        have G := M2.out 17 u7 _ (by decide) e6.out
        go_wp2_with fail
        refine G.mono ?_
        rintro e x2 ⟨rfl, hb⟩
        have c7 : Hid (Below w.heap.size w x2) := c6.out.trans (hb.mono c6.out.size)
        have e7 : Hid (Ats x2 u7 (st j)) := e6.out.up hb (Nat.le_refl _)
        clear hb e6 c6 G
        by_cases d3 : m 13 = 0
        · have q3 : (m 13 == 0) = true := beq_iff_eq.2 d3
          clear d3
          have G := M2.out 13 u7 _ (by decide) e7.out
          go_wp2_with fail
          refine G.mono ?_
          rintro e y1 ⟨rfl, hb⟩
          have c1 : Hid (Below w.heap.size w y1) := c7.out.trans (hb.mono c7.out.size)
          have e1 : Hid (Ats y1 u7 (st j)) := e7.out.up hb (Nat.le_refl _)
          clear hb e7 c7 G
          clear e1 M2
          go_wp2_with fail
          go_ret
          exact ⟨rfl, c1.out⟩
        have q3 : (m 13 == 0) = false := beq_eq_false_iff_ne.2 d3
        clear d3
        by_cases d4 : m 14 = 0
        · have q4 : (m 14 == 0) = true := beq_iff_eq.2 d4
          clear d4
          have G := M2.out 13 u7 _ (by decide) e7.out
          go_wp2_with fail
          refine G.mono ?_
          rintro e y1 ⟨rfl, hb⟩
          have c1 : Hid (Below w.heap.size w y1) := c7.out.trans (hb.mono c7.out.size)
          have e1 : Hid (Ats y1 u7 (st j)) := e7.out.up hb (Nat.le_refl _)
          clear hb e7 c7 G
          have G := M2.out 14 u7 _ (by decide) e1.out
          go_wp2_with fail
          refine G.mono ?_
          rintro e y2 ⟨rfl, hb⟩
          have c2 : Hid (Below w.heap.size w y2) := c1.out.trans (hb.mono c1.out.size)
          have e2 : Hid (Ats y2 u7 (st j)) := e1.out.up hb (Nat.le_refl _)
          clear hb e1 c1 G
          clear e2 M2
          go_wp2_with fail
          go_ret
          exact ⟨rfl, c2.out⟩
        have q4 : (m 14 == 0) = false := beq_eq_false_iff_ne.2 d4
        clear d4
        obtain ⟨q5, hq5⟩ : ∃ q, (m 15 == 0) = q := ⟨_, rfl⟩
        have G := M2.out 13 u7 _ (by decide) e7.out
        go_wp2_with fail
        refine G.mono ?_
        rintro e y1 ⟨rfl, hb⟩
        have c1 : Hid (Below w.heap.size w y1) := c7.out.trans (hb.mono c7.out.size)
        have e1 : Hid (Ats y1 u7 (st j)) := e7.out.up hb (Nat.le_refl _)
        clear hb e7 c7 G
        have G := M2.out 14 u7 _ (by decide) e1.out
        go_wp2_with fail
        refine G.mono ?_
        rintro e y2 ⟨rfl, hb⟩
        have c2 : Hid (Below w.heap.size w y2) := c1.out.trans (hb.mono c1.out.size)
        have e2 : Hid (Ats y2 u7 (st j)) := e1.out.up hb (Nat.le_refl _)
        clear hb e1 c1 G
        have G := M2.out 15 u7 _ (by decide) e2.out
        go_wp2_with fail
        refine G.mono ?_
        rintro e y3 ⟨rfl, hb⟩
        have c3 : Hid (Below w.heap.size w y3) := c2.out.trans (hb.mono c2.out.size)
        have e3 : Hid (Ats y3 u7 (st j)) := e2.out.up hb (Nat.le_refl _)
        clear hb e2 c2 G
        clear e3 M2
        go_wp2_with fail
        go_ret
        exact ⟨rfl, c3.out⟩
  · have e1 : ((E : Int) != 0) = true := bne_iff_ne.2 (by omega)
    have e2 : ((E : Int) == 0) = false := beq_eq_false_iff_ne.2 (by omega)
    obtain rfl := HO.out hE
    obtain ⟨ra, rc, rfl⟩ := ats_parts R1.out
    rw [show ([] : List Ar).length = 0 from rfl]
    clear R1 HO hE NO S0 TT MC
    go_wp2_with fail
    go_ret
    exact ⟨rfl, b1.out⟩
theorem sides_no {l : List Ar} (h : valA l = true) : ((mayE l 16 : Int) = 0 ∨ (mayE l 17 : Int) = 0) → ((mayE l 13 : Int) = 0 ∨ (mayE l 14 : Int) = 0 ∨ (mayE l 15 : Int) = 0) → False := fun h1 h2 => by
  have ho := (val_parts h).2.2
  have a (k : Nat) (hk : 13 ≤ k ∧ k ≤ 18) (e : (mayE l (k : Int) : Int) = 0) : oneF (crdF l) k = true := (may_one hk).1 (by omega)
  have k1 : keyF (crdF l) = true := by
    unfold keyF
    rcases h1 with h1 | h1
    · rw [a 16 (by decide) h1, Bool.true_or]
    · rw [a 17 (by decide) h1, Bool.or_true]
  have k2 : datF (crdF l) = true := by
    unfold datF
    rcases h2 with h2 | h2 | h2
    · rw [a 13 (by decide) h2, Bool.true_or, Bool.true_or]
    · rw [a 14 (by decide) h2, Bool.or_true, Bool.true_or]
    · rw [a 15 (by decide) h2, Bool.or_true]
  unfold objF at ho
  rw [k1, k2] at ho
  simp at ho
/-- RuleSides. -/
theorem ruleSides_of (KC : RlMakeC) (CC : RlChangeC) (PC : RlCopyC) (MC : RlMayC) (t : List Ar) (lt : lowA t) (hl : t.length ≤ 140737488351232) (zt : zedA t) (b : Bool) (l : List Tu) (lu : ∀ x ∈ l, x.ok) (w : World) {v u : Value} (h : Ats w v t) (hu : Tus w u l) :
    Calls Try.prog 3 #[v, .bool b, u] w fun e w' => e = .returned (.bool true) ∧ Below w.heap.size w w' := by
  have lo := madL_low (b := b) lt
  obtain ⟨a, c, rfl⟩ := tus_parts hu
  have hv : madE t b = 0 → valA (madL t b) = true := fun h => mad_val h
  have lw := trnS_low lu lo
  have zd (h : madE t b = 0) (j : Nat) : zedA (trnS l (madL t b) j) := val_zed (trnS_val (hv h) j)
  have ln (h : madE t b = 0) (j : Nat) : (trnS l (madL t b) j).length ≤ 4611686018427387904 := by
    have := val_len (trnS_val (l := l) (hv h) j)
    omega
  refine sides_walk v t (madL t b) (madE t b) b l a l.length c (trnS l (madL t b)) (fun k => ((mayE (trnS l (madL t b) l.length) k : Nat) : Int)) w h hu rfl mad_nil (fun h => sides_no (trnS_val (hv h) _)) (fun W hW => KC v t b W lt (by omega) zt hW) (trnS_zero _ _) (fun h j x hx v u W h1 h2 => ?_) (fun h k v W hk hW => MC v _ k W (lw _) (ln h _) (zd h _) (by omega) (by omega) hW)
  rw [trnS_succ hx]
  exact turnedK_fun CC PC _ (lw j) (ln h j) (zd h j) x (lu x (List.mem_of_getElem? hx)) v u W h1 h2
end Go.Proofs.Ytepaapiflkkghab
