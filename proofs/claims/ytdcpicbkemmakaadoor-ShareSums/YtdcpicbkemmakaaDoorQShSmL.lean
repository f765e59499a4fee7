/- ShareSums, out of what package share and scalar must keep. -/
import Derived.Test.YtdcpicbkemmakaaDoorQShLgToShSm
import Derived.Test.YtdcpicbkemmakaaDoorQShSfToShSpl
import Derived.Test.YtdcpicbkemmakaaDoorQKnToDNum
namespace Go.Proofs.YtdcpicbkemmakaaDoor
open Go.RowKit
attribute [local go_sem] World.cell?_alloc_some cell_alloc2 cell_alloc3 cell_alloc4 frozen?_alloc_cells frozen_out
attribute [local go_sem] YieldsP execOp
attribute [local simp] MP.eq_p
set_option linter.unusedSimpArgs false
theorem cfAd (args : Array Value) (W : World) : (callFunc 17 args).run Tryd.prog W = .ok (.enter 17 args) W := cf_is (fn := Tryd.f17) (by kernel_rfl) (by decide) (by kernel_rfl) args W
set_option maxRecDepth 20000 in
set_option maxHeartbeats 2000000 in
theorem sums_walk (k n : Nat) (k1 : 1 ≤ k) (kn : k ≤ n) (n20 : n ≤ 20) (k6 : k ≤ 6) (p q y : Nm) (P Q T : Nat → Nm) (L M : List Shr) (hl : L.length = n) (hm : M.length = n) (sv tv : Value) (w : World)
    (hL : Hid (∀ i, i < n → L[i]? = some ⟨((i + 1 : Nat) : Int), P i⟩)) (hM : Hid (∀ i, i < n → M[i]? = some ⟨((i + 1 : Nat) : Int), Q i⟩))
    (ey : ∀ w, (binOp .eql 24 (N y) (N y)).run Tryd.prog w = .ok (.bool true) w)
    (S1 : Hid (∀ W, Below w.heap.size w W → Calls Tryd.prog 7 #[N p, .int .i64 (k : Int), .int .i64 (n : Int), sv] W fun e w' => (∃ v', e = .returned (.tuple #[v', .int .i64 0]) ∧ Shs w' v' L) ∧ Below W.heap.size W w'))
    (S2 : Hid (∀ W, Below w.heap.size w W → Calls Tryd.prog 7 #[N q, .int .i64 (k : Int), .int .i64 (n : Int), tv] W fun e w' => (∃ v', e = .returned (.tuple #[v', .int .i64 0]) ∧ Shs w' v' M) ∧ Below W.heap.size W w'))
    (AD : Hid (∀ i, i < k → ∀ W, Calls Tryd.prog 17 #[N (P i), N (Q i)] W fun e w' => e = .returned (N (T i)) ∧ Below W.heap.size W w'))
    (AB : Hid (∀ W, Calls Tryd.prog 17 #[N p, N q] W fun e w' => e = .returned (N y) ∧ Below W.heap.size W w'))
    (AT : Hid (∀ W v, Shs W v (smL T k) → Calls Tryd.prog 11 #[v, .int .i64 0] W fun e w' => e = .returned (.tuple #[N y, .int .i64 0]) ∧ Below W.heap.size W w')) :
    Calls Tryd.prog 6 #[N p, N q, .int .i64 (k : Int), .int .i64 (n : Int), sv, tv] w fun e w' => e = .returned (.bool true) ∧ Below w.heap.size w w' := by
  have HB : Hid (1 ≤ k ∧ k ≤ n ∧ n ≤ 20 ∧ k ≤ 6) := ⟨k1, kn, n20, k6⟩
  have g6 : ¬ (k : Int) > 6 := by omega
  clear k1 kn n20 k6
  go_enter Tryd.func6, Tryd.ntmps6
  have s0 : Hid (Kn (kal4 (kal4 w (p)) (q)) [(w.heap.size + 1, (c4 (q))), (w.heap.size, (c4 (p)))]) := (((Kn.nil w).al (c4 (p)) 24 rfl).al (c4 (q)) 24 (by simp))
  have b0 : Hid (Below w.heap.size w (kal4 (kal4 w (p)) (q))) := (((Below.refl _ _).alloc (Nat.le_refl _) _).alloc (by simp <;> omega) _)
  have ua_0 : (kal4 (kal4 w (p)) (q)).cell? ⟨w.heap.size, 0, none⟩ = some (.int .u64 (p).a) := Kn.get s0.out 1 0 rfl rfl
  have ua_1 : (kal4 (kal4 w (p)) (q)).cell? ⟨w.heap.size, 1, none⟩ = some (.int .u64 (p).b) := Kn.get s0.out 1 1 rfl rfl
  have ua_2 : (kal4 (kal4 w (p)) (q)).cell? ⟨w.heap.size, 2, none⟩ = some (.int .u64 (p).c) := Kn.get s0.out 1 2 rfl rfl
  have ua_3 : (kal4 (kal4 w (p)) (q)).cell? ⟨w.heap.size, 3, none⟩ = some (.int .u64 (p).d) := Kn.get s0.out 1 3 rfl rfl
  go_wp2_with fail
  clear ua_0 ua_1 ua_2 ua_3
  refine (S1.out _ b0.out).mono ?_
  rintro e w1 ⟨⟨v1, rfl, h1⟩, hb1⟩
  have s1 : Hid (Kn w1 [(w.heap.size + 1, c4 q), (w.heap.size, c4 p)]) := s0.out.up hb1
  have b1 : Hid (Below w.heap.size w w1) := b0.out.trans (hb1.mono b0.out.size)
  have V1 : Hid (Shs w1 v1 L) := h1
  clear h1 hb1 s0 b0 S1
  obtain ⟨a1, c1, e1⟩ := shs_parts V1.out
  rw [hl] at e1
  subst e1
  have ub_0 : w1.cell? ⟨w.heap.size + 1, 0, none⟩ = some (.int .u64 (q).a) := Kn.get s1.out 0 0 rfl rfl
  have ub_1 : w1.cell? ⟨w.heap.size + 1, 1, none⟩ = some (.int .u64 (q).b) := Kn.get s1.out 0 1 rfl rfl
  have ub_2 : w1.cell? ⟨w.heap.size + 1, 2, none⟩ = some (.int .u64 (q).c) := Kn.get s1.out 0 2 rfl rfl
  have ub_3 : w1.cell? ⟨w.heap.size + 1, 3, none⟩ = some (.int .u64 (q).d) := Kn.get s1.out 0 3 rfl rfl
  go_wp2_with fail
  clear ub_0 ub_1 ub_2 ub_3
  refine (S2.out _ b1.out).mono ?_
  rintro e w2 ⟨⟨v2, rfl, h2⟩, hb2⟩
  have s2 : Hid (Kn w2 [(w.heap.size + 1, c4 q), (w.heap.size, c4 p)]) := s1.out.up hb2
  have b2 : Hid (Below w.heap.size w w2) := b1.out.trans (hb2.mono b1.out.size)
  have V2 : Hid (Shs w2 (.slice a1 n c1) L) := V1.out.up hb2
  have U2 : Hid (Shs w2 v2 M) := h2
  clear h2 hb2 s1 b1 S2 V1
  obtain ⟨a2, c2, e2⟩ := shs_parts U2.out
  rw [hm] at e2
  subst e2
  obtain ⟨B1, O1, rfl, R1⟩ := V2.out.rows (by have := HB.out; omega)
  obtain ⟨B2, O2, rfl, R2⟩ := U2.out.rows (by have := HB.out; omega)
  have R1 : Hid _ := R1
  have R2 : Hid _ := R2
  clear V2 U2
  have nn : ((n : Int) != (n : Int)) = false := by simp
  have o0 : Hid (Oh w2 w2.heap.size (.slice none 0 0) (smL T 0)) := Oh.nil _ _
  go_wp2_with fail
  clear nn g6
  go_loopw [17, 18] (fun c i wr => ∃ J : Nat, J ≤ k ∧ i = .int .i64 (J : Int) ∧ Hid (Oh wr w2.heap.size c (smL T J)) ∧ Hid (Below w2.heap.size w2 wr)) (fun _ i _ => k - (intOf i).toNat)
  case atStart => exact ⟨0, Nat.zero_le _, rfl, o0, Below.refl _ _⟩
  case round =>
    clear o0
    obtain ⟨J, hJ, rfl, ok, bk⟩ := hrel
    by_cases hlt : J < k
    · have i1 : (J : Int) < (k : Int) := by omega
      have HJ : Hid (J < k) := hlt
      have jn : J < n := by have := HB.out; omega
      have G1 : Hid (∀ W, Below wr.heap.size wr W → W.rangeAt B1 (O1 + J * 5) (shC ⟨((J + 1 : Nat) : Int), P J⟩)) := fun W hW => R1.out W (bk.out.trans (hW.mono bk.out.size)) J _ (hL.out J jn)
      have G2 : Hid (∀ W, Below wr.heap.size wr W → W.rangeAt B2 (O2 + J * 5) (shC ⟨((J + 1 : Nat) : Int), Q J⟩)) := fun W hW => R2.out W (bk.out.trans (hW.mono bk.out.size)) J _ (hM.out J jn)
      have JN : Hid (J < n) := jn
      clear hlt hJ jn
      go_wp2_with fail
      refine wp_region_monoSE 19 [MP.eq u17, MP.eq (.slice (some ⟨B1, O1, none⟩) n c1), MP.eq (.int .i64 (J : Int)), MP.eq (.pointer (some ⟨B1, O1 + J * 5, none⟩)), MP.eq (.pointer (some ⟨B1, O1 + J * 5, none⟩)), MP.eq (.int .i64 ((J + 1 : Nat) : Int)), MP.eq (.slice (some ⟨B1, O1, none⟩) n c1), MP.eq (.int .i64 (J : Int)), MP.eq (.pointer (some ⟨B1, O1 + J * 5, none⟩)), MP.eq (.pointer (some ⟨B1, O1 + J * 5 + 1, none⟩)), MP.eq (N (P J)), MP.eq (.slice (some ⟨B2, O2, none⟩) n c2), MP.eq (.int .i64 (J : Int)), MP.eq (.pointer (some ⟨B2, O2 + J * 5, none⟩)), MP.eq (.pointer (some ⟨B2, O2 + J * 5 + 1, none⟩)), MP.eq (N (Q J)), MP.eq (N (T J)), MP.eq (.agg #[.int .i64 ((J + 1 : Nat) : Int), .int .u64 (T J).a, .int .u64 (T J).b, .int .u64 (T J).c, .int .u64 (T J).d]), MP.hs [⟨((J + 1 : Nat) : Int), T J⟩]] (by kernel_rfl) (by kernel_rfl) rfl (by decide) (by kernel_rfl) ?_
      apply Exists.intro
      refine ⟨fun vals => ?_, ?_, fun vals9 w9 hb9 hF hO => ?_⟩
      · simp only [putsV, dstL, List.length_cons, List.length_nil, Nat.zero_add, Nat.reduceAdd, List.getElem?_cons_zero, List.getElem?_cons_succ, Option.bind_some, Act.put, List.setIfInBounds_toArray, List.set_cons_succ, List.set_cons_zero]
        rfl
      · refine ⟨?_, ?_, ?_, ?_, ?_, ?_, ?_, ?_, ?_, ?_, ?_, ?_, ?_, ?_, ?_, ?_, ?_, ?_, ?_, trivial⟩
        · intro vals W hW hw hd
          try simp [Region.binds] at hd
          refine ⟨by first | rfl | simp [Region.wanted, yielded, hd], ?_⟩
          exact yields_mv (.tmp 17) rfl ((hw.out 20 (by first | rfl | kernel_rfl | decide)).trans rfl)
        · intro vals W hW hw hd
          try simp [Region.binds] at hd
          refine ⟨by first | rfl | simp [Region.wanted, yielded, hd], ?_⟩
          exact yields_mv (.tmp 13) rfl rfl
        · intro vals W hW hw hd
          try simp [Region.binds] at hd
          refine ⟨by first | rfl | simp [Region.wanted, yielded, hd], ?_⟩
          exact yields_mv (.tmp 18) rfl rfl
        · intro vals W hW hw hd
          try simp [Region.binds] at hd
          refine ⟨by first | rfl | simp [Region.wanted, yielded, hd], ?_⟩
          exact yields_ixH (.tmp 75) (.tmp 76) rfl (by first | exact hd | exact hd.1 | exact hd.2 | exact hd.2.1 | exact hd.2.2 | exact hd.2.2.1 | exact hd.2.2.2 | exact hd.2.2.2.1 | exact hd.2.2.2.2) (by first | exact hd | exact hd.1 | exact hd.2 | exact hd.2.1 | exact hd.2.2 | exact hd.2.2.1 | exact hd.2.2.2 | exact hd.2.2.2.1 | exact hd.2.2.2.2) JN.out
        · intro vals W hW hw hd
          try simp [Region.binds] at hd
          refine ⟨by first | rfl | simp [Region.wanted, yielded, hd], ?_⟩
          exact yields_fa0 (.tmp 77) rfl B1 _ (by first | exact hd | exact hd.1 | exact hd.2 | exact hd.2.1 | exact hd.2.2 | exact hd.2.2.1 | exact hd.2.2.2 | exact hd.2.2.2.1 | exact hd.2.2.2.2)
        · intro vals W hW hw hd
          try simp [Region.binds] at hd
          refine ⟨by first | rfl | simp [Region.wanted, yielded, hd], ?_⟩
          exact yields_ldI (.tmp 78) rfl B1 _ (by first | exact hd | exact hd.1 | exact hd.2 | exact hd.2.1 | exact hd.2.2 | exact hd.2.2.1 | exact hd.2.2.2 | exact hd.2.2.2.1 | exact hd.2.2.2.2) _ (G1.out W hW.out 0 _ rfl)
        · intro vals W hW hw hd
          try simp [Region.binds] at hd
          refine ⟨by first | rfl | simp [Region.wanted, yielded, hd], ?_⟩
          exact yields_mv (.tmp 13) rfl rfl
        · intro vals W hW hw hd
          try simp [Region.binds] at hd
          refine ⟨by first | rfl | simp [Region.wanted, yielded, hd], ?_⟩
          exact yields_mv (.tmp 18) rfl rfl
        · intro vals W hW hw hd
          try simp [Region.binds] at hd
          refine ⟨by first | rfl | simp [Region.wanted, yielded, hd], ?_⟩
          exact yields_ixH (.tmp 80) (.tmp 81) rfl (by first | exact hd | exact hd.1 | exact hd.2 | exact hd.2.1 | exact hd.2.2 | exact hd.2.2.1 | exact hd.2.2.2 | exact hd.2.2.2.1 | exact hd.2.2.2.2) (by first | exact hd | exact hd.1 | exact hd.2 | exact hd.2.1 | exact hd.2.2 | exact hd.2.2.1 | exact hd.2.2.2 | exact hd.2.2.2.1 | exact hd.2.2.2.2) JN.out
        · intro vals W hW hw hd
          try simp [Region.binds] at hd
          refine ⟨by first | rfl | simp [Region.wanted, yielded, hd], ?_⟩
          exact yields_fa1 (.tmp 82) rfl B1 _ (by first | exact hd | exact hd.1 | exact hd.2 | exact hd.2.1 | exact hd.2.2 | exact hd.2.2.1 | exact hd.2.2.2 | exact hd.2.2.2.1 | exact hd.2.2.2.2)
        · intro vals W hW hw hd
          try simp [Region.binds] at hd
          refine ⟨by first | rfl | simp [Region.wanted, yielded, hd], ?_⟩
          exact yields_ldR 24 (.tmp 83) rfl B1 (O1 + J * 5 + 1) (by first | exact hd | exact hd.1 | exact hd.2 | exact hd.2.1 | exact hd.2.2 | exact hd.2.2.1 | exact hd.2.2.2 | exact hd.2.2.2.1 | exact hd.2.2.2.2) (c4 (P J)) _ (rng_y (G1.out W hW.out)) Tryd.underlying24 rfl (info_c4' (P J))
        · intro vals W hW hw hd
          try simp [Region.binds] at hd
          refine ⟨by first | rfl | simp [Region.wanted, yielded, hd], ?_⟩
          exact yields_mv (.tmp 15) rfl rfl
        · intro vals W hW hw hd
          try simp [Region.binds] at hd
          refine ⟨by first | rfl | simp [Region.wanted, yielded, hd], ?_⟩
          exact yields_mv (.tmp 18) rfl rfl
        · intro vals W hW hw hd
          try simp [Region.binds] at hd
          refine ⟨by first | rfl | simp [Region.wanted, yielded, hd], ?_⟩
          exact yields_ixH (.tmp 85) (.tmp 86) rfl (by first | exact hd | exact hd.1 | exact hd.2 | exact hd.2.1 | exact hd.2.2 | exact hd.2.2.1 | exact hd.2.2.2 | exact hd.2.2.2.1 | exact hd.2.2.2.2) (by first | exact hd | exact hd.1 | exact hd.2 | exact hd.2.1 | exact hd.2.2 | exact hd.2.2.1 | exact hd.2.2.2 | exact hd.2.2.2.1 | exact hd.2.2.2.2) JN.out
        · intro vals W hW hw hd
          try simp [Region.binds] at hd
          refine ⟨by first | rfl | simp [Region.wanted, yielded, hd], ?_⟩
          exact yields_fa1 (.tmp 87) rfl B2 _ (by first | exact hd | exact hd.1 | exact hd.2 | exact hd.2.1 | exact hd.2.2 | exact hd.2.2.1 | exact hd.2.2.2 | exact hd.2.2.2.1 | exact hd.2.2.2.2)
        · intro vals W hW hw hd
          try simp [Region.binds] at hd
          refine ⟨by first | rfl | simp [Region.wanted, yielded, hd], ?_⟩
          exact yields_ldR 24 (.tmp 88) rfl B2 (O2 + J * 5 + 1) (by first | exact hd | exact hd.1 | exact hd.2 | exact hd.2.1 | exact hd.2.2 | exact hd.2.2.1 | exact hd.2.2.2 | exact hd.2.2.2.1 | exact hd.2.2.2.2) (c4 (Q J)) _ (rng_y (G2.out W hW.out)) Tryd.underlying24 rfl (info_c4' (Q J))
        · intro vals W hW hw hd
          try simp [Region.binds] at hd
          refine ⟨by first | rfl | simp [Region.wanted, yielded, hd], ?_⟩
          exact yields_call2 cfAd (.tmp 84) (.tmp 89) _ rfl _ _ (by first | exact hd | exact hd.1 | exact hd.2 | exact hd.2.1 | exact hd.2.2 | exact hd.2.2.1 | exact hd.2.2.2 | exact hd.2.2.2.1 | exact hd.2.2.2.2) (by first | exact hd | exact hd.1 | exact hd.2 | exact hd.2.1 | exact hd.2.2 | exact hd.2.2.1 | exact hd.2.2.2 | exact hd.2.2.2.1 | exact hd.2.2.2.2) ((AD.out J HJ.out W).mono fun e w' ⟨he, hb⟩ => ⟨_, he, rfl, hb⟩)
        · intro vals W hW hw hd
          try simp [Region.binds] at hd
          refine ⟨by first | rfl | simp [Region.wanted, yielded, hd], ?_⟩
          exact yields_buildS (.tmp 79) (.tmp 90) rfl _ _ (by first | exact hd | exact hd.1 | exact hd.2 | exact hd.2.1 | exact hd.2.2 | exact hd.2.2.1 | exact hd.2.2.2 | exact hd.2.2.2.1 | exact hd.2.2.2.2) (by first | exact hd | exact hd.1 | exact hd.2 | exact hd.2.1 | exact hd.2.2 | exact hd.2.2.1 | exact hd.2.2.2 | exact hd.2.2.2.1 | exact hd.2.2.2.2)
        · intro vals W hW hw hd
          try simp [Region.binds] at hd
          refine ⟨by first | rfl | simp [Region.wanted, yielded, hd], ?_⟩
          exact yields_bs1 (.tmp 91) rfl ⟨_, T J⟩ (by first | exact hd | exact hd.1 | exact hd.2 | exact hd.2.1 | exact hd.2.2 | exact hd.2.2.1 | exact hd.2.2.2 | exact hd.2.2.2.1 | exact hd.2.2.2.2)
      obtain ⟨f0, f1, f2, f3, f4, f5, f6, f7, f8, f9, f10, f11, f12, f13, f14, f15, f16, f17, f18, _⟩ := hF
      simp only [MP.eq_p] at f0 f1 f2 f3 f4 f5 f6 f7 f8 f9 f10 f11 f12 f13 f14 f15 f16 f17
      rw [f0]
      simp only [List.drop_succ_cons, List.drop_zero]
      have one : Hid (Shs w9 (vals9 18) [⟨((J + 1 : Nat) : Int), T J⟩]) := f18
      have ok9 : Hid (Oh w9 w2.heap.size u17 (smL T J)) := ok.out.up hb9.out
      have b9 : Hid (Below w2.heap.size w2 w9) := bk.out.trans (hb9.out.mono bk.out.size)
      have g9 := b9.out.size
      clear f0 f1 f2 f3 f4 f5 f6 f7 f8 f9 f10 f11 f12 f13 f14 f15 f16 f17 f18 hO hb9 ok bk G1 G2
      generalize vals9 18 = v9 at *
      go_wp2_with (refine wp_appH rfl _ _ rfl w2.heap.size _ _ (smL T J) [⟨((J + 1 : Nat) : Int), T J⟩] rfl ok9.out rfl one.out (by have := HB.out; have := HJ.out; rw [smL_length]; simp only [List.length_cons, List.length_nil]; omega) g9 ?_)
      intro v4 w4 o4 hb4
      have ok4 : Hid (Oh w4 w2.heap.size v4 (smL T (J + 1))) := by rw [smL_succ]; exact o4
      have b4 : Hid (Below w2.heap.size w2 w4) := Below.grown b9.out hb4 g9 ok9.out.ge
      clear o4 hb4 ok9 b9 one g9
      go_wp2_with fail
      go_roundw
      case rel => exact ⟨J + 1, HJ.out, by go_num, ok4, b4⟩
      case measure => simp [intOf]; have := HJ.out; omega
    · have i1 : ¬ (J : Int) < (k : Int) := by omega
      have ej : J = k := by omega
      rw [ej] at ok
      clear hlt hJ ej
      have V3 : Hid (Shs wr u17 (smL T k)) := ok.out.shs
      have s3 : Hid (Kn wr [(w.heap.size + 1, c4 q), (w.heap.size, c4 p)]) := s2.out.up bk.out
      have b3 : Hid (Below w.heap.size w wr) := b2.out.trans (bk.out.mono b2.out.size)
      clear ok bk s2 b2 R1 R2
      go_wp2_with fail
      refine (AT.out _ _ V3.out).mono ?_
      rintro e w4 ⟨rfl, hb4⟩
      have s4 : Hid (Kn w4 [(w.heap.size + 1, c4 q), (w.heap.size, c4 p)]) := s3.out.up hb4
      have b4 : Hid (Below w.heap.size w w4) := b3.out.trans (hb4.mono b3.out.size)
      clear hb4 s3 b3 V3
      have s5 : Hid (Kn (kal4 w4 (y)) [(w4.heap.size, (c4 (y))), (w.heap.size + 1, (c4 (q))), (w.heap.size, (c4 (p)))]) := s4.out.al (c4 (y)) 24 rfl
      have b5 : Hid (Below w.heap.size w (kal4 w4 (y))) := b4.out.alloc b4.out.size _
      have z5 := b4.out.size
      clear s4 b4
      go_wp2_with fail
      refine wp_region_up (by kernel_rfl) (by kernel_rfl) (fun U hU f hf hcl => ?_)
      have ux_0 := fun nx => (Kn.get (s5.out.up (hf nx).out) 0 0 rfl rfl : (f nx).cell? ⟨w4.heap.size, 0, none⟩ = some (.int .u64 (y).a))
      have ux_1 := fun nx => (Kn.get (s5.out.up (hf nx).out) 0 1 rfl rfl : (f nx).cell? ⟨w4.heap.size, 1, none⟩ = some (.int .u64 (y).b))
      have ux_2 := fun nx => (Kn.get (s5.out.up (hf nx).out) 0 2 rfl rfl : (f nx).cell? ⟨w4.heap.size, 2, none⟩ = some (.int .u64 (y).c))
      have ux_3 := fun nx => (Kn.get (s5.out.up (hf nx).out) 0 3 rfl rfl : (f nx).cell? ⟨w4.heap.size, 3, none⟩ = some (.int .u64 (y).d))
      have ua_0 := fun nx => (Kn.get (s5.out.up (hf nx).out) 2 0 rfl rfl : (f nx).cell? ⟨w.heap.size, 0, none⟩ = some (.int .u64 (p).a))
      have ua_1 := fun nx => (Kn.get (s5.out.up (hf nx).out) 2 1 rfl rfl : (f nx).cell? ⟨w.heap.size, 1, none⟩ = some (.int .u64 (p).b))
      have ua_2 := fun nx => (Kn.get (s5.out.up (hf nx).out) 2 2 rfl rfl : (f nx).cell? ⟨w.heap.size, 2, none⟩ = some (.int .u64 (p).c))
      have ua_3 := fun nx => (Kn.get (s5.out.up (hf nx).out) 2 3 rfl rfl : (f nx).cell? ⟨w.heap.size, 3, none⟩ = some (.int .u64 (p).d))
      have ub_0 := fun nx => (Kn.get (s5.out.up (hf nx).out) 1 0 rfl rfl : (f nx).cell? ⟨w.heap.size + 1, 0, none⟩ = some (.int .u64 (q).a))
      have ub_1 := fun nx => (Kn.get (s5.out.up (hf nx).out) 1 1 rfl rfl : (f nx).cell? ⟨w.heap.size + 1, 1, none⟩ = some (.int .u64 (q).b))
      have ub_2 := fun nx => (Kn.get (s5.out.up (hf nx).out) 1 2 rfl rfl : (f nx).cell? ⟨w.heap.size + 1, 2, none⟩ = some (.int .u64 (q).c))
      have ub_3 := fun nx => (Kn.get (s5.out.up (hf nx).out) 1 3 rfl rfl : (f nx).cell? ⟨w.heap.size + 1, 3, none⟩ = some (.int .u64 (q).d))
      try simp only [List.append_eq, List.cons_append, List.nil_append]
      repeat (go_big_quiet_step (first | (go_at_call 17; exact (AB.out _).mono fun e w'' ⟨he, hb⟩ => ⟨he, hcl.out _ _ hb⟩)))
      refine wpQuiet_nil ?_
      intro nx
      have hb6 := (hf nx).out
      clear hf hcl ux_0 ux_1 ux_2 ux_3 ua_0 ua_1 ua_2 ua_3 ub_0 ub_1 ub_2 ub_3
      generalize f nx = w6 at hb6 ⊢
      have s6 : Hid (Kn w6 [(w4.heap.size, (c4 (y))), (w.heap.size + 1, (c4 (q))), (w.heap.size, (c4 (p)))]) := s5.out.up hb6
      have b6 : Hid (Below w.heap.size w w6) := b5.out.trans (hb6.mono b5.out.size)
      have z6 := b6.out.size
      clear hb6 s5 b5
      go_wp2_with fail
      go_ret
      exact ⟨rfl, b6.out⟩
set_option maxHeartbeats 1000000 in
theorem sums_one (p q : Nm) (k n E F : Int) (hE : (E != 0) = true) (L M : List Shr) (sv tv : Value) (w : World)
    (S1 : Hid (∀ W, Below w.heap.size w W → Calls Tryd.prog 7 #[N p, .int .i64 k, .int .i64 n, sv] W fun e w' => (∃ v', e = .returned (.tuple #[v', .int .i64 E]) ∧ Shs w' v' L) ∧ Below W.heap.size W w'))
    (S2 : Hid (∀ W, Below w.heap.size w W → Calls Tryd.prog 7 #[N q, .int .i64 k, .int .i64 n, tv] W fun e w' => (∃ v', e = .returned (.tuple #[v', .int .i64 F]) ∧ Shs w' v' M) ∧ Below W.heap.size W w')) :
    Calls Tryd.prog 6 #[N p, N q, .int .i64 k, .int .i64 n, sv, tv] w fun e w' => e = .returned (.bool true) ∧ Below w.heap.size w w' := by
  go_enter Tryd.func6, Tryd.ntmps6
  have s0 : Hid (Kn (kal4 (kal4 w (p)) (q)) [(w.heap.size + 1, (c4 (q))), (w.heap.size, (c4 (p)))]) := (((Kn.nil w).al (c4 (p)) 24 rfl).al (c4 (q)) 24 (by simp))
  have b0 : Hid (Below w.heap.size w (kal4 (kal4 w (p)) (q))) := (((Below.refl _ _).alloc (Nat.le_refl _) _).alloc (by simp <;> omega) _)
  have ua_0 : (kal4 (kal4 w (p)) (q)).cell? ⟨w.heap.size, 0, none⟩ = some (.int .u64 (p).a) := Kn.get s0.out 1 0 rfl rfl
  have ua_1 : (kal4 (kal4 w (p)) (q)).cell? ⟨w.heap.size, 1, none⟩ = some (.int .u64 (p).b) := Kn.get s0.out 1 1 rfl rfl
  have ua_2 : (kal4 (kal4 w (p)) (q)).cell? ⟨w.heap.size, 2, none⟩ = some (.int .u64 (p).c) := Kn.get s0.out 1 2 rfl rfl
  have ua_3 : (kal4 (kal4 w (p)) (q)).cell? ⟨w.heap.size, 3, none⟩ = some (.int .u64 (p).d) := Kn.get s0.out 1 3 rfl rfl
  go_wp2_with fail
  clear ua_0 ua_1 ua_2 ua_3
  refine (S1.out _ b0.out).mono ?_
  rintro e w1 ⟨⟨v1, rfl, h1⟩, hb1⟩
  have s1 : Hid (Kn w1 [(w.heap.size + 1, c4 q), (w.heap.size, c4 p)]) := s0.out.up hb1
  have b1 : Hid (Below w.heap.size w w1) := b0.out.trans (hb1.mono b0.out.size)
  obtain ⟨a1, c1, e1⟩ := shs_parts h1
  clear h1 hb1 s0 b0 S1
  subst e1
  have ub_0 : w1.cell? ⟨w.heap.size + 1, 0, none⟩ = some (.int .u64 (q).a) := Kn.get s1.out 0 0 rfl rfl
  have ub_1 : w1.cell? ⟨w.heap.size + 1, 1, none⟩ = some (.int .u64 (q).b) := Kn.get s1.out 0 1 rfl rfl
  have ub_2 : w1.cell? ⟨w.heap.size + 1, 2, none⟩ = some (.int .u64 (q).c) := Kn.get s1.out 0 2 rfl rfl
  have ub_3 : w1.cell? ⟨w.heap.size + 1, 3, none⟩ = some (.int .u64 (q).d) := Kn.get s1.out 0 3 rfl rfl
  go_wp2_with fail
  clear ub_0 ub_1 ub_2 ub_3
  refine (S2.out _ b1.out).mono ?_
  rintro e w2 ⟨⟨v2, rfl, h2⟩, hb2⟩
  have b2 : Hid (Below w.heap.size w w2) := b1.out.trans (hb2.mono b1.out.size)
  obtain ⟨a2, c2, e2⟩ := shs_parts h2
  clear h2 hb2 s1 b1 S2
  subst e2
  go_wp2_with fail
  go_ret
  exact ⟨rfl, b2.out⟩
set_option maxHeartbeats 1000000 in
theorem sums_two (p q : Nm) (k n E F : Int) (hE : (E != 0) = false) (hF : (F != 0) = true) (L M : List Shr) (sv tv : Value) (w : World)
    (S1 : Hid (∀ W, Below w.heap.size w W → Calls Tryd.prog 7 #[N p, .int .i64 k, .int .i64 n, sv] W fun e w' => (∃ v', e = .returned (.tuple #[v', .int .i64 E]) ∧ Shs w' v' L) ∧ Below W.heap.size W w'))
    (S2 : Hid (∀ W, Below w.heap.size w W → Calls Tryd.prog 7 #[N q, .int .i64 k, .int .i64 n, tv] W fun e w' => (∃ v', e = .returned (.tuple #[v', .int .i64 F]) ∧ Shs w' v' M) ∧ Below W.heap.size W w')) :
    Calls Tryd.prog 6 #[N p, N q, .int .i64 k, .int .i64 n, sv, tv] w fun e w' => e = .returned (.bool true) ∧ Below w.heap.size w w' := by
  go_enter Tryd.func6, Tryd.ntmps6
  have s0 : Hid (Kn (kal4 (kal4 w (p)) (q)) [(w.heap.size + 1, (c4 (q))), (w.heap.size, (c4 (p)))]) := (((Kn.nil w).al (c4 (p)) 24 rfl).al (c4 (q)) 24 (by simp))
  have b0 : Hid (Below w.heap.size w (kal4 (kal4 w (p)) (q))) := (((Below.refl _ _).alloc (Nat.le_refl _) _).alloc (by simp <;> omega) _)
  have ua_0 : (kal4 (kal4 w (p)) (q)).cell? ⟨w.heap.size, 0, none⟩ = some (.int .u64 (p).a) := Kn.get s0.out 1 0 rfl rfl
  have ua_1 : (kal4 (kal4 w (p)) (q)).cell? ⟨w.heap.size, 1, none⟩ = some (.int .u64 (p).b) := Kn.get s0.out 1 1 rfl rfl
  have ua_2 : (kal4 (kal4 w (p)) (q)).cell? ⟨w.heap.size, 2, none⟩ = some (.int .u64 (p).c) := Kn.get s0.out 1 2 rfl rfl
  have ua_3 : (kal4 (kal4 w (p)) (q)).cell? ⟨w.heap.size, 3, none⟩ = some (.int .u64 (p).d) := Kn.get s0.out 1 3 rfl rfl
  go_wp2_with fail
  clear ua_0 ua_1 ua_2 ua_3
  refine (S1.out _ b0.out).mono ?_
  rintro e w1 ⟨⟨v1, rfl, h1⟩, hb1⟩
  have s1 : Hid (Kn w1 [(w.heap.size + 1, c4 q), (w.heap.size, c4 p)]) := s0.out.up hb1
  have b1 : Hid (Below w.heap.size w w1) := b0.out.trans (hb1.mono b0.out.size)
  obtain ⟨a1, c1, e1⟩ := shs_parts h1
  clear h1 hb1 s0 b0 S1
  subst e1
  have ub_0 : w1.cell? ⟨w.heap.size + 1, 0, none⟩ = some (.int .u64 (q).a) := Kn.get s1.out 0 0 rfl rfl
  have ub_1 : w1.cell? ⟨w.heap.size + 1, 1, none⟩ = some (.int .u64 (q).b) := Kn.get s1.out 0 1 rfl rfl
  have ub_2 : w1.cell? ⟨w.heap.size + 1, 2, none⟩ = some (.int .u64 (q).c) := Kn.get s1.out 0 2 rfl rfl
  have ub_3 : w1.cell? ⟨w.heap.size + 1, 3, none⟩ = some (.int .u64 (q).d) := Kn.get s1.out 0 3 rfl rfl
  go_wp2_with fail
  clear ub_0 ub_1 ub_2 ub_3
  refine (S2.out _ b1.out).mono ?_
  rintro e w2 ⟨⟨v2, rfl, h2⟩, hb2⟩
  have b2 : Hid (Below w.heap.size w w2) := b1.out.trans (hb2.mono b1.out.size)
  obtain ⟨a2, c2, e2⟩ := shs_parts h2
  clear h2 hb2 s1 b1 S2
  subst e2
  go_wp2_with fail
  go_ret
  exact ⟨rfl, b2.out⟩
set_option maxHeartbeats 1000000 in
theorem sums_many (p q : Nm) (k n E F : Int) (hE : (E != 0) = false) (hF : (F != 0) = false) (hk : k > 6) (L M : List Shr) (sv tv : Value) (w : World)
    (S1 : Hid (∀ W, Below w.heap.size w W → Calls Tryd.prog 7 #[N p, .int .i64 k, .int .i64 n, sv] W fun e w' => (∃ v', e = .returned (.tuple #[v', .int .i64 E]) ∧ Shs w' v' L) ∧ Below W.heap.size W w'))
    (S2 : Hid (∀ W, Below w.heap.size w W → Calls Tryd.prog 7 #[N q, .int .i64 k, .int .i64 n, tv] W fun e w' => (∃ v', e = .returned (.tuple #[v', .int .i64 F]) ∧ Shs w' v' M) ∧ Below W.heap.size W w')) :
    Calls Tryd.prog 6 #[N p, N q, .int .i64 k, .int .i64 n, sv, tv] w fun e w' => e = .returned (.bool true) ∧ Below w.heap.size w w' := by
  go_enter Tryd.func6, Tryd.ntmps6
  have s0 : Hid (Kn (kal4 (kal4 w (p)) (q)) [(w.heap.size + 1, (c4 (q))), (w.heap.size, (c4 (p)))]) := (((Kn.nil w).al (c4 (p)) 24 rfl).al (c4 (q)) 24 (by simp))
  have b0 : Hid (Below w.heap.size w (kal4 (kal4 w (p)) (q))) := (((Below.refl _ _).alloc (Nat.le_refl _) _).alloc (by simp <;> omega) _)
  have ua_0 : (kal4 (kal4 w (p)) (q)).cell? ⟨w.heap.size, 0, none⟩ = some (.int .u64 (p).a) := Kn.get s0.out 1 0 rfl rfl
  have ua_1 : (kal4 (kal4 w (p)) (q)).cell? ⟨w.heap.size, 1, none⟩ = some (.int .u64 (p).b) := Kn.get s0.out 1 1 rfl rfl
  have ua_2 : (kal4 (kal4 w (p)) (q)).cell? ⟨w.heap.size, 2, none⟩ = some (.int .u64 (p).c) := Kn.get s0.out 1 2 rfl rfl
  have ua_3 : (kal4 (kal4 w (p)) (q)).cell? ⟨w.heap.size, 3, none⟩ = some (.int .u64 (p).d) := Kn.get s0.out 1 3 rfl rfl
  go_wp2_with fail
  clear ua_0 ua_1 ua_2 ua_3
  refine (S1.out _ b0.out).mono ?_
  rintro e w1 ⟨⟨v1, rfl, h1⟩, hb1⟩
  have s1 : Hid (Kn w1 [(w.heap.size + 1, c4 q), (w.heap.size, c4 p)]) := s0.out.up hb1
  have b1 : Hid (Below w.heap.size w w1) := b0.out.trans (hb1.mono b0.out.size)
  obtain ⟨a1, c1, e1⟩ := shs_parts h1
  clear h1 hb1 s0 b0 S1
  subst e1
  have ub_0 : w1.cell? ⟨w.heap.size + 1, 0, none⟩ = some (.int .u64 (q).a) := Kn.get s1.out 0 0 rfl rfl
  have ub_1 : w1.cell? ⟨w.heap.size + 1, 1, none⟩ = some (.int .u64 (q).b) := Kn.get s1.out 0 1 rfl rfl
  have ub_2 : w1.cell? ⟨w.heap.size + 1, 2, none⟩ = some (.int .u64 (q).c) := Kn.get s1.out 0 2 rfl rfl
  have ub_3 : w1.cell? ⟨w.heap.size + 1, 3, none⟩ = some (.int .u64 (q).d) := Kn.get s1.out 0 3 rfl rfl
  go_wp2_with fail
  clear ub_0 ub_1 ub_2 ub_3
  refine (S2.out _ b1.out).mono ?_
  rintro e w2 ⟨⟨v2, rfl, h2⟩, hb2⟩
  have b2 : Hid (Below w.heap.size w w2) := b1.out.trans (hb2.mono b1.out.size)
  obtain ⟨a2, c2, e2⟩ := shs_parts h2
  clear h2 hb2 s1 b1 S2
  subst e2
  go_wp2_with fail
  go_ret
  exact ⟨rfl, b2.out⟩
theorem splE_zero {S : Nat} {k n : Int} {seed : List Nat} (h : splE S k n seed = 0) : 1 ≤ k ∧ k ≤ n ∧ n ≤ 20 ∧ S < Cv.ord := by
  unfold splE at h
  split at h
  · cases h
  · rename_i h1
    refine ⟨?_, ?_, ?_, ?_⟩ <;> omega
theorem splL_get {S : Nat} {k n : Int} {seed : List Nat} (h : splE S k n seed = 0) (i : Nat) (hi : i < n.toNat) : (splL S k n seed)[i]? = some ⟨((i + 1 : Nat) : Int), nm (pvN (cfs S seed k.toNat) (i + 1) % Cv.ord)⟩ := by
  unfold splL
  rw [if_pos h, List.getElem?_map, List.getElem?_range hi]
  rfl
theorem shareSums_of (SP : SplitC) (AT : AtC) (AD : SAddC) (p q : Nm) (op : p.ok) (oq : q.ok) (k n : Int) (hk : -9223372036854775808 ≤ k ∧ k ≤ 9223372036854775807) (hn : -9223372036854775808 ≤ n ∧ n ≤ 9223372036854775807)
    (s t : List Nat) (ls : ∀ y ∈ s, y < 256) (zs : s.length ≤ 500000000000000) (lt : ∀ y ∈ t, y < 256) (zt : t.length ≤ 500000000000000) (sv tv : Value) (w : World) (hs : By w sv s) (ht : By w tv t) (hK : KTab w) :
    Calls Tryd.prog 6 #[N p, N q, .int .i64 k, .int .i64 n, sv, tv] w fun e w' => e = .returned (.bool true) ∧ Below w.heap.size w w' := by
  have S1 : ∀ W, Below w.heap.size w W → _ := fun W hW => SP p op k n hk hn s ls zs sv W (hs.up hW (Nat.le_refl _)) (hK.up hW hK.pos)
  have S2 : ∀ W, Below w.heap.size w W → _ := fun W hW => SP q oq k n hk hn t lt zt tv W (ht.up hW (Nat.le_refl _)) (hK.up hW hK.pos)
  by_cases h1 : splE p.nat k n s = 0
  · by_cases h2 : splE q.nat k n t = 0
    · by_cases h6 : k > 6
      · exact sums_many p q k n _ _ (by rw [h1]; rfl) (by rw [h2]; rfl) h6 _ _ sv tv w S1 S2
      · have g1 := splE_zero h1
        have g2 := splE_zero h2
        obtain ⟨K, rfl⟩ : ∃ K : Nat, k = (K : Int) := ⟨k.toNat, by omega⟩
        obtain ⟨M, rfl⟩ : ∃ M : Nat, n = (M : Int) := ⟨n.toNat, by omega⟩
        have L1 := splL_len h1
        have L2 := splL_len h2
        have G1 := fun i hi => splL_get h1 i hi
        have G2 := fun i hi => splL_get h2 i hi
        rw [Int.toNat_natCast] at L1 L2
        rw [h1] at S1
        rw [h2] at S2
        rw [Int.toNat_natCast, Int.toNat_natCast] at G1 G2
        have C1 : (cfs p.nat s K).length ≤ K := by
          have := g1.1
          simp [cfs]
          omega
        have C2 : (cfs q.nat t K).length ≤ K := by
          have := g1.1
          simp [cfs]
          omega
        have ha := smL_at (cfs p.nat s K) (cfs q.nat t K) K C1 C2 (by omega) (by omega)
        have hg := smL_good (cfs p.nat s K) (cfs q.nat t K) K (by omega)
        have hok : ∀ u ∈ smL (smT (cfs p.nat s K) (cfs q.nat t K)) K, u.ok := fun u hu => by
          have hx := (hg.1 u hu).1
          obtain ⟨i, hi, rfl⟩ := List.mem_map.1 hu
          exact ⟨⟨by omega, by omega⟩, nm_ok _⟩
        refine sums_walk K M (by omega) (by omega) (by omega) (by omega) p q (nm ((p.nat + q.nat) % Cv.ord)) (fun i => nm (pvN (cfs p.nat s K) (i + 1) % Cv.ord)) (fun i => nm (pvN (cfs q.nat t K) (i + 1) % Cv.ord)) (smT (cfs p.nat s K) (cfs q.nat t K)) _ _ L1 L2 sv tv w G1 G2 (fun w => by rw [eqN, Nm.beq_self]) S1 S2 ?_ (fun W => AD p q op oq W) ?_
        · intro i hi W
          have := AD (nm (pvN (cfs p.nat s K) (i + 1) % Cv.ord)) (nm (pvN (cfs q.nat t K) (i + 1) % Cv.ord)) (nm_ok _) (nm_ok _) W
          rwa [s_nat, s_nat] at this
        · intro W v hv
          have := AT _ hok 0 (by decide) v W hv
          rw [ha.1, ha.2] at this
          exact this
    · exact sums_two p q k n _ _ (by rw [h1]; rfl) (by rw [bne_iff_ne]; omega) _ _ sv tv w S1 S2
  · exact sums_one p q k n _ _ (by rw [bne_iff_ne]; omega) _ _ sv tv w S1 S2
end Go.Proofs.YtdcpicbkemmakaaDoor
