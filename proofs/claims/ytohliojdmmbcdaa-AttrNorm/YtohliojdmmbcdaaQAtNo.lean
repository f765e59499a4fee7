/- AttrNorm, out of what package attr must keep. -/
import Derived.Test.YtohliojdmmbcdaaQAtK
namespace Go.Proofs.Ytohliojdmmbcdaa
open Go.RowKit
attribute [local go_sem] World.cell?_alloc_some cell_alloc2 cell_alloc3 cell_alloc4 frozen?_alloc_cells frozen_out
attribute [local go_sem] YieldsP execOp
attribute [local simp] MP.eq_p
set_option linter.unusedSimpArgs false
set_option maxRecDepth 20000 in
set_option maxHeartbeats 2000000 in
theorem attrNorm_tail (NC : AtNormC) (CC : AtCheckC) (MC : AtMatchC) (v : Value) (l : List Ar) (lo : lowA l) (hf : fltA l = 0) (w : World) (H : Hid (Ats w v l)) :
    Calls Try.prog 5 #[v] w fun e w' => e = .returned (.bool true) ∧ Below w.heap.size w w' := by
  have G := (fltA_zero l).1 hf
  have LM : Hid (lowA (risA l)) := risA_low lo
  have LO : Hid (lowA l) := lo
  have N1 : ∀ W, Ats W v l → Calls Try.prog 10 #[v] W fun e w' => (∃ u, e = .returned (.tuple #[u, .int .i64 0]) ∧ Ats w' u (risA l)) ∧ Below W.heap.size W w' := fun W h => by
    have := NC v l W lo h
    rw [hf, if_pos rfl] at this
    exact this
  have N2 : ∀ u W, Ats W u (risA l) → Calls Try.prog 10 #[u] W fun e w' => (∃ u, e = .returned (.tuple #[u, .int .i64 0]) ∧ Ats w' u (risA l)) ∧ Below W.heap.size W w' := fun u W h => by
    have := NC u (risA l) W LM.out h
    rw [risA_good G.2.1, if_pos rfl, risA_ris] at this
    exact this
  have C1 : ∀ W, Ats W v l → Calls Try.prog 15 #[v] W fun e w' => e = .returned (.int .i64 0) ∧ Below W.heap.size W w' := fun W h => by
    have := CC v l W lo h
    rw [hf] at this
    exact this
  have RL := risA_len l
  have RP := risA_perm G.2
  have M1 : ∀ u W, Ats W u (risA l) → Ats W v l → Calls Try.prog 18 #[u, v] W fun e w' => e = .returned (.bool true) ∧ Below W.heap.size W w' := fun u W h1 h2 => by
    have := MC u v (risA l) l W LM.out lo (by omega) (by omega) h1 h2
    rw [ris_mat_l G.2] at this
    exact this
  have M2 : ∀ u W, Ats W u (risA l) → Ats W v l → Calls Try.prog 18 #[v, u] W fun e w' => e = .returned (.bool true) ∧ Below W.heap.size W w' := fun u W h1 h2 => by
    have := MC v u l (risA l) W lo LM.out (by omega) (by omega) h2 h1
    rw [ris_mat_r] at this
    exact this
  obtain ⟨va, vc, hv⟩ := ats_parts H.out
  have RR : Hid _ := risA_rise l
  generalize hm : risA l = m at *
  obtain ⟨n, hn⟩ : ∃ n, m.length = n := ⟨_, rfl⟩
  rw [← RP, hn] at hv
  rw [hn] at RL
  have HN : Hid (m.length = n ∧ n ≤ 18) := ⟨hn, RL⟩
  clear hm hn RL RP G hf NC CC MC lo
  subst hv
  go_enter Try.func5, Try.ntmps5
  go_wp2_with fail
  refine (N1 w H.out).mono ?_
  rintro e w1 ⟨⟨u, rfl, hu⟩, hb⟩
  have b1 : Hid (Below w.heap.size w w1) := hb
  have U1 : Hid (Ats w1 u m) := hu
  clear hb hu N1
  obtain ⟨ua, uc, hv⟩ := ats_parts U1.out
  rw [HN.out.1] at hv
  subst hv
  go_wp2_with fail
  go_loopw [5] (fun i wr => ∃ t : Nat, (t = 0 ∨ t < n) ∧ i = .int .i64 ((t : Int) + 1) ∧ Hid (Below w1.heap.size w1 wr)) (fun i _ => n + 1 - (intOf i).toNat)
  case atStart => exact ⟨0, .inl rfl, rfl, Below.refl _ _⟩
  case round =>
    obtain ⟨t, ht, rfl, bk⟩ := hrel
    by_cases hlt : t + 1 < n
    · have i1 : (t : Int) + 1 < (n : Int) := by omega
      have i0 : (0 : Int) ≤ (t : Int) := by omega
      have j1 : (t : Int) < (n : Int) := by omega
      have j0 : (0 : Int) ≤ (t : Int) + 1 := by omega
      have jn : (n : Int) ≤ 18 := by have := HN.out.2; omega
      have wt : IntKind.i64.wrap (t : Int) = (t : Int) := by rw [IntKind.wrap_i64]; omega
      have HJ : Hid (t + 1 < n) := hlt
      obtain ⟨q, o, rfl⟩ := U1.out.addr (by omega)
      obtain ⟨x, hx⟩ : ∃ x, Hid (m[t]? = some x) := ⟨m[t]'(by have := HN.out; omega), List.getElem?_eq_getElem _⟩
      obtain ⟨y, hy⟩ : ∃ y, Hid (m[t + 1]? = some y) := ⟨m[t + 1]'(by have := HN.out; omega), List.getElem?_eq_getElem _⟩
      obtain ⟨xa, xc, ex⟩ := (U1.out.up bk.out (Nat.le_refl _)).elem hx.out
      obtain ⟨ya, yc, ey⟩ := (U1.out.up bk.out (Nat.le_refl _)).elem hy.out
      have EX : Hid (AtE wr q (o + t * 2) x xa xc) := ex
      have EY : Hid (AtE wr q (o + (t + 1) * 2) y ya yc) := ey
      have hk : ¬ x.k ≥ y.k := by
        have h1 := List.getElem?_eq_some_iff.1 hx.out
        have h2 := List.getElem?_eq_some_iff.1 hy.out
        obtain ⟨p1, e1⟩ := h1
        obtain ⟨p2, e2⟩ := h2
        have := List.pairwise_iff_getElem.1 RR.out t (t + 1) p1 p2 (by omega)
        rw [e1, e2] at this
        omega
      clear hlt ht ex ey
      go_wp2_with fail
      refine wp_region_monoE [MP.eq (.slice (some ⟨q, o, none⟩) n uc), MP.eq (.int .i64 ((t : Int) + 1)), MP.eq (.int .i64 (t : Int)), MP.eq (.pointer (some ⟨q, o + t * 2, none⟩)), MP.eq (.pointer (some ⟨q, o + t * 2, none⟩)), MP.eq (.int .i64 x.k), MP.eq (.slice (some ⟨q, o, none⟩) n uc), MP.eq (.int .i64 ((t : Int) + 1)), MP.eq (.pointer (some ⟨q, o + (t + 1) * 2, none⟩)), MP.eq (.pointer (some ⟨q, o + (t + 1) * 2, none⟩)), MP.eq (.int .i64 y.k), MP.eq (.bool false)] (by kernel_rfl) (by kernel_rfl) rfl ?_
      apply Exists.intro
      refine ⟨fun vals => ?_, ?_, fun vals2 w2 hb2 hF => ?_⟩
      · simp only [putsV, dstL, List.length_cons, List.length_nil, Nat.zero_add, Nat.reduceAdd, List.getElem?_cons_zero, List.getElem?_cons_succ, Option.bind_some, Act.put, List.setIfInBounds_toArray, List.set_cons_succ, List.set_cons_zero]
        rfl
      · refine ⟨?_, ?_, ?_, ?_, ?_, ?_, ?_, ?_, ?_, ?_, ?_, ?_, trivial⟩
        · intro vals W hW hw hd
          try simp [Region.binds] at hd
          refine ⟨by first | rfl | simp [Region.wanted, yielded, hd], ?_⟩
          simp [go_sem, hd]
          exact Below.refl _ _
        · intro vals W hW hw hd
          try simp [Region.binds] at hd
          refine ⟨by first | rfl | simp [Region.wanted, yielded, hd], ?_⟩
          simp [go_sem, hd]
          exact Below.refl _ _
        · intro vals W hW hw hd
          try simp [Region.binds] at hd
          refine ⟨by first | rfl | simp [Region.wanted, yielded, hd], ?_⟩
          simp [go_sem, hd, wt]
          exact Below.refl _ _
        · intro vals W hW hw hd
          try simp [Region.binds] at hd
          refine ⟨by first | rfl | simp [Region.wanted, yielded, hd], ?_⟩
          simp [go_sem, hd, i0, j1]
          exact Below.refl _ _
        · intro vals W hW hw hd
          try simp [Region.binds] at hd
          refine ⟨by first | rfl | simp [Region.wanted, yielded, hd], ?_⟩
          simp [go_sem, hd]
          exact Below.refl _ _
        · intro vals W hW hw hd
          try simp [Region.binds] at hd
          refine ⟨by first | rfl | simp [Region.wanted, yielded, hd], ?_⟩
          have u0 := (EX.out.up hW.out).1
          simp [go_sem, hd, u0]
          exact Below.refl _ _
        · intro vals W hW hw hd
          try simp [Region.binds] at hd
          refine ⟨by first | rfl | simp [Region.wanted, yielded, hd], ?_⟩
          simp [go_sem, hd]
          exact Below.refl _ _
        · intro vals W hW hw hd
          try simp [Region.binds] at hd
          refine ⟨by first | rfl | simp [Region.wanted, yielded, hd], ?_⟩
          simp [go_sem, hd]
          exact Below.refl _ _
        · intro vals W hW hw hd
          try simp [Region.binds] at hd
          refine ⟨by first | rfl | simp [Region.wanted, yielded, hd], ?_⟩
          simp [go_sem, hd, j0, i1]
          exact Below.refl _ _
        · intro vals W hW hw hd
          try simp [Region.binds] at hd
          refine ⟨by first | rfl | simp [Region.wanted, yielded, hd], ?_⟩
          simp [go_sem, hd]
          exact Below.refl _ _
        · intro vals W hW hw hd
          try simp [Region.binds] at hd
          refine ⟨by first | rfl | simp [Region.wanted, yielded, hd], ?_⟩
          have u0 := (EY.out.up hW.out).1
          simp [go_sem, hd, u0]
          exact Below.refl _ _
        · intro vals W hW hw hd
          try simp [Region.binds] at hd
          refine ⟨by first | rfl | simp [Region.wanted, yielded, hd], ?_⟩
          simp [go_sem, hd, hk]
          exact Below.refl _ _
      obtain ⟨f0, f1, f2, f3, f4, f5, f6, f7, f8, f9, f10, f11, _⟩ := hF
      simp only [MP.eq_p] at f0 f1 f2 f3 f4 f5 f6 f7 f8 f9 f10 f11
      have b2 : Hid (Below w1.heap.size w1 w2) := bk.out.trans (hb2.out.mono bk.out.size)
      rw [f11]
      clear f0 f1 f2 f3 f4 f5 f6 f7 f8 f9 f10 f11 hb2 EX EY bk
      go_wp2_with fail
      go_roundw
      case rel => exact ⟨t + 1, .inr HJ.out, by go_num, b2⟩
      case measure => simp [intOf]; have := HJ.out; omega
    · have i1 : ¬ (t : Int) + 1 < (n : Int) := by omega
      have b2 : Hid (Below w.heap.size w wr) := b1.out.trans (bk.out.mono b1.out.size)
      have H2 : Hid (Ats wr _ l) := H.out.up b2.out (Nat.le_refl _)
      have U2 : Hid (Ats wr _ m) := U1.out.up bk.out (Nat.le_refl _)
      clear hlt ht bk b1 H U1
      go_wp2_with fail
      refine (N2 _ wr U2.out).mono ?_
      rintro e w3 ⟨⟨p, rfl, hp⟩, hb⟩
      have b3 : Hid (Below w.heap.size w w3) := b2.out.trans (hb.mono b2.out.size)
      have H3 : Hid (Ats w3 _ l) := H2.out.up hb (Nat.le_refl _)
      have U3 : Hid (Ats w3 _ m) := U2.out.up hb (Nat.le_refl _)
      have P3 : Hid (Ats w3 p m) := hp
      clear hp hb b2 H2 U2 N2
      go_wp2_with fail
      refine (sameK_fun m (by have := HN.out; omega) LM.out _ p w3 U3.out P3.out).mono ?_
      rintro e w4 ⟨rfl, hb⟩
      have b4 : Hid (Below w.heap.size w w4) := b3.out.trans (hb.mono b3.out.size)
      have H4 : Hid (Ats w4 _ l) := H3.out.up hb (Nat.le_refl _)
      have U4 : Hid (Ats w4 _ m) := U3.out.up hb (Nat.le_refl _)
      clear hb b3 H3 U3 P3
      go_wp2_with fail
      refine (M1 _ w4 U4.out H4.out).mono ?_
      rintro e w5 ⟨rfl, hb⟩
      have b5 : Hid (Below w.heap.size w w5) := b4.out.trans (hb.mono b4.out.size)
      have H5 : Hid (Ats w5 _ l) := H4.out.up hb (Nat.le_refl _)
      have U5 : Hid (Ats w5 _ m) := U4.out.up hb (Nat.le_refl _)
      clear hb b4 H4 U4 M1
      go_wp2_with fail
      refine (M2 _ w5 U5.out H5.out).mono ?_
      rintro e w6 ⟨rfl, hb⟩
      have b6 : Hid (Below w.heap.size w w6) := b5.out.trans (hb.mono b5.out.size)
      have H6 : Hid (Ats w6 _ l) := H5.out.up hb (Nat.le_refl _)
      clear hb b5 H5 U5 M2
      go_wp2_with fail
      refine (C1 w6 H6.out).mono ?_
      rintro e w7 ⟨rfl, hb⟩
      have b7 : Hid (Below w.heap.size w w7) := b6.out.trans (hb.mono b6.out.size)
      clear hb b6 H6 C1
      go_wp2_with fail
      go_ret
      exact ⟨rfl, b7.out⟩
set_option maxHeartbeats 1000000 in
theorem attrNorm_of (NC : AtNormC) (CC : AtCheckC) (MC : AtMatchC) (v : Value) (l : List Ar) (lo : lowA l) (w : World) (h : Ats w v l) :
    Calls Try.prog 5 #[v] w fun e w' => e = .returned (.bool true) ∧ Below w.heap.size w w' := by
  have H : Hid (Ats w v l) := h
  clear h
  by_cases hf : fltA l = 0
  · exact attrNorm_tail NC CC MC v l lo hf w H
  · have N1 := fun W h => NC v l W lo h
    have C1 := fun W h => CC v l W lo h
    simp only [if_neg hf] at N1
    generalize ef : fltA l = f at *
    have f1 : ((f : Int) != 0) = true := bne_iff_ne.2 (by omega)
    clear ef hf NC CC MC lo
    go_enter Try.func5, Try.ntmps5
    go_wp2_with fail
    refine (N1 w H.out).mono ?_
    rintro e w1 ⟨⟨u, rfl, hu⟩, hb⟩
    have b1 : Hid (Below w.heap.size w w1) := hb
    have H1 : Hid (Ats w1 v l) := H.out.up hb (Nat.le_refl _)
    obtain ⟨ua, uc, rfl⟩ := ats_parts hu
    clear hb hu N1 H
    go_wp2_with fail
    refine (C1 w1 H1.out).mono ?_
    rintro e w2 ⟨rfl, hb⟩
    have b2 : Hid (Below w.heap.size w w2) := b1.out.trans (hb.mono b1.out.size)
    clear hb b1 H1 C1
    go_wp2_with fail
    go_ret
    exact ⟨rfl, b2.out⟩
end Go.Proofs.Ytohliojdmmbcdaa
