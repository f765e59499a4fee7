/- ScalarTells' walk, of few bytes. -/
import Derived.Test.YtjcnfffmciahiaaDoorGrp50
namespace Go.Proofs.YtjcnfffmciahiaaDoor
open Go.RowKit
attribute [local go_sem] World.cell?_alloc_some cell_alloc2 cell_alloc3 cell_alloc4 frozen?_alloc_cells frozen_out YieldsP execOp
attribute [local simp] MP.eq_p MP.sl_p MP.sl2_p MP.any_p
set_option linter.unusedSimpArgs false
set_option maxRecDepth 20000 in
set_option maxHeartbeats 16000000 in
theorem scTells_good (a b l h lm lo rd sm ng ml iv dd nv : Nm) (lb n c : Nat) (ad : Option Addr) (bs : List Nat) (us : ByteArray) (A B O T C E F H G I J : Nat)
    (SL : ∀ w, Calls Tryd.prog 12 #[] w fun e w' => e = .returned (N lm) ∧ Below w.heap.size w w')
    (LW : ∀ w, Calls Tryd.prog 13 #[N a] w fun e w' => e = .returned (N lo) ∧ Below w.heap.size w w')
    (RD : ∀ w, Calls Tryd.prog 14 #[Wv l h] w fun e w' => e = .returned (N rd) ∧ Below w.heap.size w w')
    (AD : ∀ w, Calls Tryd.prog 16 #[N a, N b] w fun e w' => e = .returned (N sm) ∧ Below w.heap.size w w')
    (NG : ∀ w, Calls Tryd.prog 17 #[N a] w fun e w' => e = .returned (N ng) ∧ Below w.heap.size w w')
    (MU : ∀ w, Calls Tryd.prog 19 #[N a, N b] w fun e w' => e = .returned (N ml) ∧ Below w.heap.size w w')
    (IV : ∀ w, Calls Tryd.prog 20 #[N a] w fun e w' => e = .returned (N iv) ∧ Below w.heap.size w w')
    (PR : Hid (∀ w, Calls Tryd.prog 4 #[] w fun e w' => (∃ v', e = .returned v' ∧ Sl w' v' (P.dg O)) ∧ Below w.heap.size w w'))
    (OA : Hid (∀ w, Calls Tryd.prog 5 #[N a] w fun e w' => (∃ v', e = .returned v' ∧ Sl w' v' (P.dg A)) ∧ Below w.heap.size w w'))
    (OB : Hid (∀ w, Calls Tryd.prog 5 #[N b] w fun e w' => (∃ v', e = .returned v' ∧ Sl w' v' (P.dg B)) ∧ Below w.heap.size w w'))
    (OW : Hid (∀ w, Calls Tryd.prog 15 #[Wv l h] w fun e w' => (∃ v', e = .returned v' ∧ Sl w' v' (P.dg T)) ∧ Below w.heap.size w w'))
    (TO : Hid (∀ u w, Sl w u (P.dg O) → Calls Tryd.prog 7 #[u] w fun e w' => e = .returned (N lm) ∧ Below w.heap.size w w'))
    (TI : Hid (∀ u w, Sl w u (P.dg I) → Calls Tryd.prog 7 #[u] w fun e w' => e = .returned (N iv) ∧ Below w.heap.size w w'))
    (TD : Hid (∀ u w, Sl w u (P.dg J) → Calls Tryd.prog 7 #[u] w fun e w' => e = .returned (N dd) ∧ Below w.heap.size w w'))
    (P1 : Hid (∀ u v w, Sl w u (P.dg A) → Sl w v (P.dg B) → Calls Tryd.prog 10 #[u, v] w fun e w' => (∃ v', e = .returned v' ∧ Sl w' v' (P.dg C)) ∧ Below w.heap.size w w'))
    (R1 : Hid (∀ u v w, Sl w u (P.dg A) → Sl w v (P.dg O) → Calls Tryd.prog 8 #[u, v] w fun e w' => (∃ v', e = .returned v' ∧ Sl w' v' (P.dg E)) ∧ Below w.heap.size w w'))
    (M1 : Hid (∀ u v w, Sl w u (P.dg O) → Sl w v (P.dg E) → Calls Tryd.prog 18 #[u, v] w fun e w' => (∃ v', e = .returned v' ∧ Sl w' v' (P.dg F)) ∧ Below w.heap.size w w'))
    (T1 : Hid (∀ u v w, Sl w u (P.dg A) → Sl w v (P.dg B) → Calls Tryd.prog 11 #[u, v] w fun e w' => (∃ v', e = .returned v' ∧ Sl w' v' (P.dg H)) ∧ Below w.heap.size w w'))
    (M2 : Hid (∀ u v w, Sl w u (P.dg O) → Sl w v [2] → Calls Tryd.prog 18 #[u, v] w fun e w' => (∃ v', e = .returned v' ∧ Sl w' v' (P.dg G)) ∧ Below w.heap.size w w'))
    (PW : Hid (∀ u v t w, Sl w u (P.dg A) → Sl w v (P.dg G) → Sl w t (P.dg O) → Calls Tryd.prog 21 #[u, v, t] w fun e w' => (∃ v', e = .returned v' ∧ Sl w' v' (P.dg I)) ∧ Below w.heap.size w w'))
    (DG : Hid (∀ w, By w (.slice ad n c) bs → KTab w → Calls Tryd.prog 22 #[.int .u8 (lb : Int), .slice ad n c] w fun e w' => e = .returned (N dd) ∧ Below w.heap.size w w'))
    (RG : Hid (∀ w, RTab w → Calls Tryd.prog 23 #[.int .u8 (lb : Int), .string us] w fun e w' => (∃ v', e = .returned v' ∧ Sl w' v' (P.dg J)) ∧ Below w.heap.size w w'))
    (L1 : Hid (LowIs A O lo)) (L2 : Hid (LowIs T O rd)) (L3 : Hid (LowIs C O sm)) (L4 : Hid (LowIs F O ng)) (L5 : Hid (LowIs H O ml))
    (SO : Hid (∀ w, By w (.slice ad n c) bs → Calls Tryd.prog 9 #[.slice ad n c] w fun e w' => e = .returned (.tuple #[N nv, .int .i64 0]) ∧ Below w.heap.size w w'))
    (LB : Hid (LowIs (S.le bs) O nv)) (hlo : ∀ x ∈ bs, x < 256) (hln : bs.length = n)
    (hn : n ≤ 64)
    (w : World) (hv : By w (.slice ad n c) bs) (hK : KTab w) (hR : RTab w) (hu : sOf bs = us) :
    Calls Tryd.prog 3 #[N a, N b, Wv l h, .int .u8 (lb : Int), .slice ad n c] w fun e w' => e = .returned (.bool true) ∧ Below w.heap.size w w' := by
  have HV : Hid (By w (.slice ad n c) bs) := hv
  have HK : Hid (KTab w) := hK
  have HR : Hid (RTab w) := hR
  have HU : Hid (sOf bs = us) := hu
  clear hv hK hR hu
  have em := eqN lm lm
  have elo := eqN lo lo
  have erd := eqN rd rd
  have esm := eqN sm sm
  have eng := eqN ng ng
  have eml := eqN ml ml
  have eiv := eqN iv iv
  have edd := eqN dd dd
  have env_ := neN nv nv
  rw [Nm.beq_self] at em elo erd esm eng eml eiv edd env_
  go_enter Tryd.func3, Tryd.ntmps3
  have s0 : Hid (Kn (kal8 (kal4 (kal4 w (a)) (b)) (l) (h)) [(w.heap.size + 1 + 1, (c8 (l) (h))), (w.heap.size + 1, (c4 (b))), (w.heap.size, (c4 (a)))]) := ((((Kn.nil w).al (c4 (a)) 24 rfl).al (c4 (b)) 24 (by simp)).al (c8 (l) (h)) 26 (by simp))
  have b0 : Hid (Below w.heap.size w (kal8 (kal4 (kal4 w (a)) (b)) (l) (h))) := ((((Below.refl _ _).alloc (Nat.le_refl _) _).alloc (by simp <;> omega) _).alloc (by simp <;> omega) _)
  go_wp2_with fail
  refine wp_region_monoVE [MP.sl (P.dg O), MP.eq (N (a)), MP.sl (P.dg A), MP.eq (N (b)), MP.sl (P.dg B), MP.any, MP.any, MP.sl (P.dg A), MP.sl (P.dg B)] 5 0 28 (.slice none 0 0) (by intro _ _ h; cases h) (by kernel_rfl) (by kernel_rfl) (by kernel_rfl) rfl rfl rfl ⟨MP.sl_stays _ _, MP.eq_stays _ _, MP.sl_stays _ _, MP.eq_stays _ _, MP.sl_stays _ _, MP.any_stays _, MP.any_stays _, MP.sl_stays _ _, MP.sl_stays _ _, trivial⟩ ?_
  apply Exists.intro
  refine ⟨fun vals => ?_, ?_, ?_, ?_, fun vals1 w1 hb1 hV1 hF => ?_⟩
  · simp only [putsV, dstL, List.length_cons, List.length_nil, Nat.zero_add, Nat.reduceAdd, List.getElem?_cons_zero, List.getElem?_cons_succ, Option.bind_some, Act.put, List.setIfInBounds_toArray, List.set_cons_succ, List.set_cons_zero]
    rfl
  · refine ⟨?_, ?_, ?_, ?_, ?_, ?_, ?_, ?_, ?_, trivial⟩
    · refine .inr (.inr ?_)
      intro vals W hW hw hd
      simp [Region.binds] at hd
      refine ⟨by first | rfl | simp [Region.wanted, yielded, hd], ?_⟩
      simp [go_sem]
      exact (PR.out _).mono fun e w' ⟨⟨v', he, hs⟩, hb⟩ => ⟨v', he, hs, hb⟩
    · refine .inr (.inr ?_)
      intro vals W hW hw hd
      simp [Region.binds] at hd
      have u0 := Kn.get (s0.out.up hW.out) 2 0 rfl rfl
      have u1 := Kn.get (s0.out.up hW.out) 2 1 rfl rfl
      have u2 := Kn.get (s0.out.up hW.out) 2 2 rfl rfl
      have u3 := Kn.get (s0.out.up hW.out) 2 3 rfl rfl
      refine ⟨by first | rfl | simp [Region.wanted, yielded, hd], ?_⟩
      simp [go_sem, u0, u1, u2, u3]
      exact Below.refl _ _
    · refine .inr (.inr ?_)
      intro vals W hW hw hd
      simp [Region.binds] at hd
      refine ⟨by first | rfl | simp [Region.wanted, yielded, hd], ?_⟩
      simp [go_sem, hd]
      exact (OA.out _).mono fun e w' ⟨⟨v', he, hs⟩, hb⟩ => ⟨v', he, hs, hb⟩
    · refine .inr (.inr ?_)
      intro vals W hW hw hd
      simp [Region.binds] at hd
      have u0 := Kn.get (s0.out.up hW.out) 1 0 rfl rfl
      have u1 := Kn.get (s0.out.up hW.out) 1 1 rfl rfl
      have u2 := Kn.get (s0.out.up hW.out) 1 2 rfl rfl
      have u3 := Kn.get (s0.out.up hW.out) 1 3 rfl rfl
      refine ⟨by first | rfl | simp [Region.wanted, yielded, hd], ?_⟩
      simp [go_sem, u0, u1, u2, u3]
      exact Below.refl _ _
    · refine .inr (.inr ?_)
      intro vals W hW hw hd
      simp [Region.binds] at hd
      refine ⟨by first | rfl | simp [Region.wanted, yielded, hd], ?_⟩
      simp [go_sem, hd]
      exact (OB.out _).mono fun e w' ⟨⟨v', he, hs⟩, hb⟩ => ⟨v', he, hs, hb⟩
    · first | exact .inl rfl | exact .inr (.inl rfl)
    · first | exact .inl rfl | exact .inr (.inl rfl)
    · refine .inr (.inr ?_)
      intro vals W hW hw hd
      simp [Region.binds] at hd
      refine ⟨by first | rfl | simp [Region.wanted, yielded, hd], ?_⟩
      simp [go_sem]
      exact ⟨by simp [hd], Below.refl _ _⟩
    · refine .inr (.inr ?_)
      intro vals W hW hw hd
      simp [Region.binds] at hd
      refine ⟨by first | rfl | simp [Region.wanted, yielded, hd], ?_⟩
      simp [go_sem]
      exact ⟨by simp [hd], Below.refl _ _⟩
  · intro o ho vals W
    cases ho
    exact ⟨by first | rfl | simp [Region.wanted, yielded], by simp [go_sem]⟩
  · intro o ho vals W g hg1 hg2 hg3
    cases ho
    obtain ⟨a1, c1, e1⟩ := Sl.parts (show Sl W (vals 0) _ from hg3)
    have hc := cell1 hg2
    have hf : W.frozen? ⟨g, 0, none⟩ = false := by simp [World.frozen?, hg2]
    exact ⟨by first | rfl | simp [Region.wanted, yielded], by simp [go_sem, hg1, e1, hc, hf]⟩
  obtain ⟨f0, f1, f2, f3, f4, f5, f6, f7, f8, _⟩ := hF
  obtain ⟨g, hg1, hg2, hg3⟩ := hV1.out
  rw [hg1]
  have s1 : Hid (Kn w1 [(g, [vals1 0]), (w.heap.size + 1 + 1, (c8 (l) (h))), (w.heap.size + 1, (c4 (b))), (w.heap.size, (c4 (a)))]) := s0.out.fresh hb1.out hg2 hg3
  clear hV1 hg1 hg2 hg3
  have b1 : Hid (Below w.heap.size w w1) := b0.out.trans (hb1.out.mono b0.out.size)
  have z1 := b1.out.size
  clear hb1 s0 b0
  have Sk : Hid (Sl w1 (vals1 0) (P.dg O)) := f0
  have Sx : Hid (Sl w1 (vals1 7) (P.dg A)) := f7
  have Sy : Hid (Sl w1 (vals1 8) (P.dg B)) := f8
  clear f0 f1 f2 f3 f4 f5 f6 f7 f8
  go_wp2_with fail
  refine (SO.out _ (HV.out.up b1.out (Nat.le_refl _))).mono ?_
  rintro e w2 ⟨rfl, hb2⟩
  replace Sk : Hid (Sl w2 (vals1 0) (P.dg O)) := Sl.up (xs := (P.dg O)) Sk.out hb2
  replace Sx : Hid (Sl w2 (vals1 7) (P.dg A)) := Sl.up (xs := (P.dg A)) Sx.out hb2
  replace Sy : Hid (Sl w2 (vals1 8) (P.dg B)) := Sl.up (xs := (P.dg B)) Sy.out hb2
  have s2 : Hid (Kn w2 [(g, [vals1 0]), (w.heap.size + 1 + 1, (c8 (l) (h))), (w.heap.size + 1, (c4 (b))), (w.heap.size, (c4 (a)))]) := s1.out.up hb2
  have b2 : Hid (Below w.heap.size w w2) := b1.out.trans (hb2.mono b1.out.size)
  have z2 := b2.out.size
  clear hb2 s1 b1
  have s3 : Hid (Kn (kal4 w2 (nv)) [(w2.heap.size, (c4 (nv))), (g, [vals1 0]), (w.heap.size + 1 + 1, (c8 (l) (h))), (w.heap.size + 1, (c4 (b))), (w.heap.size, (c4 (a)))]) := s2.out.al (c4 (nv)) 24 rfl
  have b3 : Hid (Below w.heap.size w (kal4 w2 (nv))) := b2.out.alloc b2.out.size _
  have z3 := b2.out.size
  replace Sk : Hid (Sl (kal4 w2 (nv)) (vals1 0) (P.dg O)) := Sl.up (xs := (P.dg O)) Sk.out ((Below.refl _ _).alloc (Nat.le_refl _) _)
  replace Sx : Hid (Sl (kal4 w2 (nv)) (vals1 7) (P.dg A)) := Sl.up (xs := (P.dg A)) Sx.out ((Below.refl _ _).alloc (Nat.le_refl _) _)
  replace Sy : Hid (Sl (kal4 w2 (nv)) (vals1 8) (P.dg B)) := Sl.up (xs := (P.dg B)) Sy.out ((Below.refl _ _).alloc (Nat.le_refl _) _)
  clear s2 b2
  have s4 : Hid (Kn (kal4 (kal4 w2 (nv)) ((⟨0,0,0,0⟩:Nm))) [(w2.heap.size + 1, (c4 ((⟨0,0,0,0⟩:Nm)))), (w2.heap.size, (c4 (nv))), (g, [vals1 0]), (w.heap.size + 1 + 1, (c8 (l) (h))), (w.heap.size + 1, (c4 (b))), (w.heap.size, (c4 (a)))]) := s3.out.al (c4 ((⟨0,0,0,0⟩:Nm))) 24 (by simp)
  have b4 : Hid (Below w.heap.size w (kal4 (kal4 w2 (nv)) ((⟨0,0,0,0⟩:Nm)))) := b3.out.alloc b3.out.size _
  have z4 := b3.out.size
  replace Sk : Hid (Sl (kal4 (kal4 w2 (nv)) ((⟨0,0,0,0⟩:Nm))) (vals1 0) (P.dg O)) := Sl.up (xs := (P.dg O)) Sk.out ((Below.refl _ _).alloc (Nat.le_refl _) _)
  replace Sx : Hid (Sl (kal4 (kal4 w2 (nv)) ((⟨0,0,0,0⟩:Nm))) (vals1 7) (P.dg A)) := Sl.up (xs := (P.dg A)) Sx.out ((Below.refl _ _).alloc (Nat.le_refl _) _)
  replace Sy : Hid (Sl (kal4 (kal4 w2 (nv)) ((⟨0,0,0,0⟩:Nm))) (vals1 8) (P.dg B)) := Sl.up (xs := (P.dg B)) Sy.out ((Below.refl _ _).alloc (Nat.le_refl _) _)
  clear s3 b3
  have d1 : (n : Int) ≤ 64 := by omega
  have wn : IntKind.i64.wrap ((n : Int) - 1) = (n : Int) - 1 := by rw [IntKind.wrap_i64]; omega
  have LD : Hid _ := hlo
  have HN : Hid _ := hln
  clear hlo hln
  go_wp2_with fail
  have GG : Hid (w.heap.size ≤ w2.heap.size) := z3
  have GW : Hid (w.heap.size ≤ w2.heap.size + 1) := Nat.le_trans z3 (Nat.le_succ _)
  generalize vals1 0 = kO at *
  generalize vals1 7 = kX at *
  generalize vals1 8 = kY at *
  generalize w2.heap.size + 1 = kw at *
  generalize w2.heap.size = kn at *
  go_loopw [18, 19] (fun t i wr => ∃ K : Nat, K ≤ n ∧ i = .int .i64 ((K : Int) - 1) ∧ Hid (Sl wr t (P.dg (S.le (bs.drop K)))) ∧ Hid (Kn wr [(kw, c4 (⟨0, 0, 0, 0⟩ : Nm)), (kn, c4 nv), (g, [kO]), (w.heap.size + 1 + 1, c8 l h), (w.heap.size + 1, c4 b), (w.heap.size, c4 a)]) ∧ Hid (Sl wr kO (P.dg O)) ∧ Hid (Sl wr kX (P.dg A)) ∧ Hid (Sl wr kY (P.dg B)) ∧ Hid (Below w.heap.size w wr)) (fun _ i _ => (intOf i + 1).toNat)
  case atStart => exact ⟨n, Nat.le_refl _, by first | rfl | go_num, .inl ⟨rfl, by rw [List.drop_of_length_le (by rw [HN.out]; exact Nat.le_refl _)]; exact P.dg_zero⟩, s4, Sk, Sx, Sy, b4⟩
  case round =>
    clear s4 Sk Sx Sy b4
    obtain ⟨K, hK, rfl, sx, s1, Tk, Tx, Ty, b1⟩ := hrel
    cases K with
    | zero =>
      rw [List.drop_zero] at sx
      have j0 : ¬ ((((0 : Nat) : Int)) - 1 ≥ 0) := by omega
      have gw := GW.out
      have Sk : Hid (Sl wr kO (P.dg O)) := Tk
      clear Tk
      have Sx : Hid (Sl wr kX (P.dg A)) := Tx
      clear Tx
      have Sy : Hid (Sl wr kY (P.dg B)) := Ty
      clear Ty
      go_wp2_with fail
      have kv := Kn.get s1.out 2 0 rfl rfl
      refine (LB.out _ _ g _ sx.out kv Sk.out).mono ?_
      rintro e w2 ⟨rfl, hb2⟩
      replace Sk : Hid (Sl w2 kO (P.dg O)) := Sl.up (xs := (P.dg O)) Sk.out hb2
      replace Sx : Hid (Sl w2 kX (P.dg A)) := Sl.up (xs := (P.dg A)) Sx.out hb2
      replace Sy : Hid (Sl w2 kY (P.dg B)) := Sl.up (xs := (P.dg B)) Sy.out hb2
      have s2 : Hid (Kn w2 [(kw, (c4 ((⟨0,0,0,0⟩:Nm)))), (kn, (c4 (nv))), (g, [kO]), (w.heap.size + 1 + 1, (c8 (l) (h))), (w.heap.size + 1, (c4 (b))), (w.heap.size, (c4 (a)))]) := s1.out.up hb2
      have b2 : Hid (Below w.heap.size w w2) := b1.out.trans (hb2.mono b1.out.size)
      have z2 := b2.out.size
      clear hb2 s1 b1
      clear kv sx
      have q0 := Kn.get s2.out 0 0 rfl rfl
      have q1 := Kn.get s2.out 0 1 rfl rfl
      have q2 := Kn.get s2.out 0 2 rfl rfl
      have q3 := Kn.get s2.out 0 3 rfl rfl
      replace Sk : Hid (Sl (st4 w2 kw nv) kO (P.dg O)) := sl_st4 (xs := P.dg O) (y := ⟨0, 0, 0, 0⟩) nv Sk.out q0 q1 q2 q3
      replace Sx : Hid (Sl (st4 w2 kw nv) kX (P.dg A)) := sl_st4 (xs := P.dg A) (y := ⟨0, 0, 0, 0⟩) nv Sx.out q0 q1 q2 q3
      replace Sy : Hid (Sl (st4 w2 kw nv) kY (P.dg B)) := sl_st4 (xs := P.dg B) (y := ⟨0, 0, 0, 0⟩) nv Sy.out q0 q1 q2 q3
      clear q0 q1 q2 q3
      have uwanto_0 : w2.cell? ⟨kw, 0, none⟩ = some (.int .u64 ((⟨0,0,0,0⟩:Nm)).a) := Kn.get s2.out 0 0 rfl rfl
      have uwanto_1 : w2.cell? ⟨kw, 1, none⟩ = some (.int .u64 ((⟨0,0,0,0⟩:Nm)).b) := Kn.get s2.out 0 1 rfl rfl
      have uwanto_2 : w2.cell? ⟨kw, 2, none⟩ = some (.int .u64 ((⟨0,0,0,0⟩:Nm)).c) := Kn.get s2.out 0 2 rfl rfl
      have uwanto_3 : w2.cell? ⟨kw, 3, none⟩ = some (.int .u64 ((⟨0,0,0,0⟩:Nm)).d) := Kn.get s2.out 0 3 rfl rfl
      have uwanto_z : ∀ j, w2.frozen? ⟨kw, j, none⟩ = false := Kn.fz s2.out 0 rfl
      have s3 : Hid (Kn (st4 w2 kw (nv)) [(kw, (c4 (nv))), (kn, (c4 (nv))), (g, [kO]), (w.heap.size + 1 + 1, (c8 (l) (h))), (w.heap.size + 1, (c4 (b))), (w.heap.size, (c4 (a)))]) := Kn.st4 (L := [(kn, (c4 (nv))), (g, [kO]), (w.heap.size + 1 + 1, (c8 (l) (h))), (w.heap.size + 1, (c4 (b))), (w.heap.size, (c4 (a)))]) (s2.out.front 0 rfl) (nv)
      have b3 : Hid (Below w.heap.size w (st4 w2 kw (nv))) := below_st4 b2.out (by omega)
      clear s2 b2
      have unn_0 : (st4 w2 kw (nv)).cell? ⟨kn, 0, none⟩ = some (.int .u64 (nv).a) := Kn.get s3.out 1 0 rfl rfl
      have unn_1 : (st4 w2 kw (nv)).cell? ⟨kn, 1, none⟩ = some (.int .u64 (nv).b) := Kn.get s3.out 1 1 rfl rfl
      have unn_2 : (st4 w2 kw (nv)).cell? ⟨kn, 2, none⟩ = some (.int .u64 (nv).c) := Kn.get s3.out 1 2 rfl rfl
      have unn_3 : (st4 w2 kw (nv)).cell? ⟨kn, 3, none⟩ = some (.int .u64 (nv).d) := Kn.get s3.out 1 3 rfl rfl
      go_wp2_with fail
      clear uwanto_0 uwanto_1 uwanto_2 uwanto_3 uwanto_z unn_0 unn_1 unn_2 unn_3
      simp only [List.append_eq, List.cons_append, List.nil_append]
      refine wp_region_monoE (MP.eq (N lm) :: MP.sl (P.dg O) :: MP.eq (N lm) :: MP.eq (.bool true) :: MP.eq (.bool true) :: MP.eq (N (a)) :: MP.eq (N lo) :: MP.eq (.func (.func 6) #[] #[.pointer (some ⟨g, 0, none⟩)]) :: MP.sl (P.dg A) :: MP.eq (N lo) :: MP.eq (.bool true) :: MP.eq (.bool true) :: MP.eq (.bool true) :: MP.eq (Wv (l) (h)) :: MP.eq (N rd) :: MP.eq (.func (.func 6) #[] #[.pointer (some ⟨g, 0, none⟩)]) :: MP.eq (Wv (l) (h)) :: MP.sl (P.dg T) :: MP.eq (N rd) :: MP.eq (.bool true) :: MP.eq (.bool true) :: MP.eq (.bool true) :: MP.eq (N (a)) :: MP.eq (N (b)) :: MP.eq (N sm) :: MP.eq (.func (.func 6) #[] #[.pointer (some ⟨g, 0, none⟩)]) :: MP.sl (P.dg A) :: MP.sl (P.dg B) :: MP.sl (P.dg C) :: MP.eq (N sm) :: MP.eq (.bool true) :: MP.eq (.bool true) :: MP.eq (.bool true) :: MP.eq (N (a)) :: MP.eq (N ng) :: MP.eq (.func (.func 6) #[] #[.pointer (some ⟨g, 0, none⟩)]) :: MP.sl (P.dg O) :: MP.sl (P.dg A) :: MP.sl (P.dg O) :: MP.sl (P.dg E) :: MP.sl (P.dg F) :: MP.eq (N ng) :: MP.eq (.bool true) :: MP.eq (.bool true) :: MP.eq (.bool true) :: MP.eq (N (a)) :: MP.eq (N (b)) :: MP.eq (N ml) :: MP.eq (.func (.func 6) #[] #[.pointer (some ⟨g, 0, none⟩)]) :: MP.sl (P.dg A) :: MP.sl (P.dg B) :: MP.sl (P.dg H) :: MP.eq (N ml) :: MP.eq (.bool true) :: MP.eq (.bool true) :: MP.eq (.bool true) :: MP.eq (N (a)) :: MP.eq (N iv) :: MP.sl (P.dg A) :: MP.sl (P.dg O) :: MP.sl [2] :: MP.sl (P.dg G) :: MP.sl (P.dg O) :: MP.sl (P.dg I) :: MP.eq (N iv) :: MP.eq (.bool true) :: MP.eq (.bool true) :: MP.eq (.bool true) :: MP.eq (.int .u8 (lb : Int)) :: MP.eq (.slice ad n c) :: MP.eq (N dd) :: MP.eq (.int .u8 (lb : Int)) :: MP.eq (.slice ad n c) :: MP.eq (.string us) :: MP.sl (P.dg J) :: MP.eq (N dd) :: MP.eq (.bool true) :: MP.eq (.bool true) :: MP.eq (.bool true) :: []) (by kernel_rfl) (by kernel_rfl) (by kernel_rfl) ?_
      apply Exists.intro
      refine ⟨fun vals => ?_, ?_, fun vals4 w4 hb4 hF => ?_⟩
      · simp only [putsV, dstL, List.length_cons, List.length_nil, Nat.zero_add, Nat.reduceAdd, List.getElem?_cons_zero, List.getElem?_cons_succ, Option.bind_some, Act.put, List.setIfInBounds_toArray, List.set_cons_succ, List.set_cons_zero]
        rfl
      · refine ⟨?_, ?_, ?_, ?_, ?_, ?_, ?_, ?_, ?_, ?_, ?_, ?_, ?_, ?_, ?_, ?_, ?_, ?_, ?_, ?_, ?_, ?_, ?_, ?_, ?_, ?_, ?_, ?_, ?_, ?_, ?_, ?_, ?_, ?_, ?_, ?_, ?_, ?_, ?_, ?_, ?_, ?_, ?_, ?_, ?_, ?_, ?_, ?_, ?_, ?_, ?_, ?_, ?_, ?_, ?_, ?_, ?_, ?_, ?_, ?_, ?_, ?_, ?_, ?_, ?_, ?_, ?_, ?_, ?_, ?_, ?_, ?_, ?_, ?_, ?_, ?_, ?_, ?_, ?_, trivial⟩
        · intro vals W hW hw hd
          simp [Region.binds] at hd
          refine ⟨by first | rfl | simp [Region.wanted, yielded, hd], ?_⟩
          simp [go_sem]
          exact (SL _).mono fun e w' ⟨he, hb⟩ => ⟨_, he, rfl, hb⟩
        · intro vals W hW hw hd
          simp [Region.binds] at hd
          refine ⟨by first | rfl | simp [Region.wanted, yielded, hd], ?_⟩
          have kv := Kn.get (s3.out.up hW.out) 2 0 rfl rfl
          simp [go_sem, kv]
          exact ⟨Sl.up (xs := P.dg O) Sk.out hW.out, Below.refl _ _⟩
        · intro vals W hW hw hd
          simp [Region.binds] at hd
          refine ⟨by first | rfl | simp [Region.wanted, yielded, hd], ?_⟩
          simp [go_sem]
          exact (TO.out _ _ (by simp [hd])).mono fun e w' ⟨he, hb⟩ => ⟨_, he, rfl, hb⟩
        · intro vals W hW hw hd
          simp [Region.binds] at hd
          refine ⟨by first | rfl | simp [Region.wanted, yielded, hd], ?_⟩
          simp [go_sem, hd, em]
          exact Below.refl _ _
        · intro vals W hW hw hd
          simp [Region.binds] at hd
          refine ⟨by first | rfl | simp [Region.wanted, yielded, hd], ?_⟩
          simp [go_sem, hd]
          exact Below.refl _ _
        · intro vals W hW hw hd
          simp [Region.binds] at hd
          have u0 := Kn.get (s3.out.up hW.out) 5 0 rfl rfl
          have u1 := Kn.get (s3.out.up hW.out) 5 1 rfl rfl
          have u2 := Kn.get (s3.out.up hW.out) 5 2 rfl rfl
          have u3 := Kn.get (s3.out.up hW.out) 5 3 rfl rfl
          refine ⟨by first | rfl | simp [Region.wanted, yielded, hd], ?_⟩
          simp [go_sem, u0, u1, u2, u3]
          exact Below.refl _ _
        · intro vals W hW hw hd
          simp [Region.binds] at hd
          refine ⟨by first | rfl | simp [Region.wanted, yielded, hd], ?_⟩
          simp [go_sem, hd]
          exact (LW _).mono fun e w' ⟨he, hb⟩ => ⟨_, he, rfl, hb⟩
        · intro vals W hW hw hd
          simp [Region.binds] at hd
          refine ⟨by first | rfl | simp [Region.wanted, yielded, hd], ?_⟩
          simp [go_sem]
          exact Below.refl _ _
        · intro vals W hW hw hd
          simp [Region.binds] at hd
          refine ⟨by first | rfl | simp [Region.wanted, yielded, hd], ?_⟩
          simp [go_sem]
          exact ⟨Sl.up (xs := (P.dg A)) Sx.out hW.out, Below.refl _ _⟩
        · intro vals W hW hw hd
          simp [Region.binds] at hd
          refine ⟨by first | rfl | simp [Region.wanted, yielded, hd], ?_⟩
          have kv := Kn.get (s3.out.up hW.out) 2 0 rfl rfl
          simp [go_sem, hd]
          exact (L1.out _ _ g W (by simp [hd]) kv (Sl.up (xs := P.dg O) Sk.out hW.out)).mono fun e w' ⟨he, hb⟩ => ⟨_, he, rfl, hb⟩
        · intro vals W hW hw hd
          simp [Region.binds] at hd
          refine ⟨by first | rfl | simp [Region.wanted, yielded, hd], ?_⟩
          simp [go_sem, hd, elo]
          exact Below.refl _ _
        · intro vals W hW hw hd
          simp [Region.binds] at hd
          refine ⟨by first | rfl | simp [Region.wanted, yielded, hd], ?_⟩
          simp [go_sem, hd]
          exact Below.refl _ _
        · intro vals W hW hw hd
          simp [Region.binds] at hd
          refine ⟨by first | rfl | simp [Region.wanted, yielded, hd], ?_⟩
          simp [go_sem, hd]
          exact Below.refl _ _
        · intro vals W hW hw hd
          simp [Region.binds] at hd
          have u0 := Kn.get (s3.out.up hW.out) 3 0 rfl rfl
          have u1 := Kn.get (s3.out.up hW.out) 3 1 rfl rfl
          have u2 := Kn.get (s3.out.up hW.out) 3 2 rfl rfl
          have u3 := Kn.get (s3.out.up hW.out) 3 3 rfl rfl
          have u4 := Kn.get (s3.out.up hW.out) 3 4 rfl rfl
          have u5 := Kn.get (s3.out.up hW.out) 3 5 rfl rfl
          have u6 := Kn.get (s3.out.up hW.out) 3 6 rfl rfl
          have u7 := Kn.get (s3.out.up hW.out) 3 7 rfl rfl
          refine ⟨by first | rfl | simp [Region.wanted, yielded, hd], ?_⟩
          simp [go_sem, u0, u1, u2, u3, u4, u5, u6, u7]
          exact Below.refl _ _
        · intro vals W hW hw hd
          simp [Region.binds] at hd
          refine ⟨by first | rfl | simp [Region.wanted, yielded, hd], ?_⟩
          simp [go_sem, hd]
          exact (RD _).mono fun e w' ⟨he, hb⟩ => ⟨_, he, rfl, hb⟩
        · intro vals W hW hw hd
          simp [Region.binds] at hd
          refine ⟨by first | rfl | simp [Region.wanted, yielded, hd], ?_⟩
          simp [go_sem]
          exact Below.refl _ _
        · intro vals W hW hw hd
          simp [Region.binds] at hd
          have u0 := Kn.get (s3.out.up hW.out) 3 0 rfl rfl
          have u1 := Kn.get (s3.out.up hW.out) 3 1 rfl rfl
          have u2 := Kn.get (s3.out.up hW.out) 3 2 rfl rfl
          have u3 := Kn.get (s3.out.up hW.out) 3 3 rfl rfl
          have u4 := Kn.get (s3.out.up hW.out) 3 4 rfl rfl
          have u5 := Kn.get (s3.out.up hW.out) 3 5 rfl rfl
          have u6 := Kn.get (s3.out.up hW.out) 3 6 rfl rfl
          have u7 := Kn.get (s3.out.up hW.out) 3 7 rfl rfl
          refine ⟨by first | rfl | simp [Region.wanted, yielded, hd], ?_⟩
          simp [go_sem, u0, u1, u2, u3, u4, u5, u6, u7]
          exact Below.refl _ _
        · intro vals W hW hw hd
          simp [Region.binds] at hd
          refine ⟨by first | rfl | simp [Region.wanted, yielded, hd], ?_⟩
          simp [go_sem, hd]
          exact (OW.out _).mono fun e w' ⟨⟨v', he, hs⟩, hb⟩ => ⟨v', he, hs, hb⟩
        · intro vals W hW hw hd
          simp [Region.binds] at hd
          refine ⟨by first | rfl | simp [Region.wanted, yielded, hd], ?_⟩
          have kv := Kn.get (s3.out.up hW.out) 2 0 rfl rfl
          simp [go_sem, hd]
          exact (L2.out _ _ g W (by simp [hd]) kv (Sl.up (xs := P.dg O) Sk.out hW.out)).mono fun e w' ⟨he, hb⟩ => ⟨_, he, rfl, hb⟩
        · intro vals W hW hw hd
          simp [Region.binds] at hd
          refine ⟨by first | rfl | simp [Region.wanted, yielded, hd], ?_⟩
          simp [go_sem, hd, erd]
          exact Below.refl _ _
        · intro vals W hW hw hd
          simp [Region.binds] at hd
          refine ⟨by first | rfl | simp [Region.wanted, yielded, hd], ?_⟩
          simp [go_sem, hd]
          exact Below.refl _ _
        · intro vals W hW hw hd
          simp [Region.binds] at hd
          refine ⟨by first | rfl | simp [Region.wanted, yielded, hd], ?_⟩
          simp [go_sem, hd]
          exact Below.refl _ _
        · intro vals W hW hw hd
          simp [Region.binds] at hd
          have u0 := Kn.get (s3.out.up hW.out) 5 0 rfl rfl
          have u1 := Kn.get (s3.out.up hW.out) 5 1 rfl rfl
          have u2 := Kn.get (s3.out.up hW.out) 5 2 rfl rfl
          have u3 := Kn.get (s3.out.up hW.out) 5 3 rfl rfl
          refine ⟨by first | rfl | simp [Region.wanted, yielded, hd], ?_⟩
          simp [go_sem, u0, u1, u2, u3]
          exact Below.refl _ _
        · intro vals W hW hw hd
          simp [Region.binds] at hd
          have u0 := Kn.get (s3.out.up hW.out) 4 0 rfl rfl
          have u1 := Kn.get (s3.out.up hW.out) 4 1 rfl rfl
          have u2 := Kn.get (s3.out.up hW.out) 4 2 rfl rfl
          have u3 := Kn.get (s3.out.up hW.out) 4 3 rfl rfl
          refine ⟨by first | rfl | simp [Region.wanted, yielded, hd], ?_⟩
          simp [go_sem, u0, u1, u2, u3]
          exact Below.refl _ _
        · intro vals W hW hw hd
          simp [Region.binds] at hd
          refine ⟨by first | rfl | simp [Region.wanted, yielded, hd], ?_⟩
          simp [go_sem, hd]
          exact (AD _).mono fun e w' ⟨he, hb⟩ => ⟨_, he, rfl, hb⟩
        · intro vals W hW hw hd
          simp [Region.binds] at hd
          refine ⟨by first | rfl | simp [Region.wanted, yielded, hd], ?_⟩
          simp [go_sem]
          exact Below.refl _ _
        · intro vals W hW hw hd
          simp [Region.binds] at hd
          refine ⟨by first | rfl | simp [Region.wanted, yielded, hd], ?_⟩
          simp [go_sem]
          exact ⟨Sl.up (xs := (P.dg A)) Sx.out hW.out, Below.refl _ _⟩
        · intro vals W hW hw hd
          simp [Region.binds] at hd
          refine ⟨by first | rfl | simp [Region.wanted, yielded, hd], ?_⟩
          simp [go_sem]
          exact ⟨Sl.up (xs := (P.dg B)) Sy.out hW.out, Below.refl _ _⟩
        · intro vals W hW hw hd
          simp [Region.binds] at hd
          refine ⟨by first | rfl | simp [Region.wanted, yielded, hd], ?_⟩
          simp [go_sem]
          exact (P1.out _ _ _ (by simp [hd]) (by simp [hd])).mono fun e w' ⟨⟨v', he, hs⟩, hb⟩ => ⟨v', he, hs, hb⟩
        · intro vals W hW hw hd
          simp [Region.binds] at hd
          refine ⟨by first | rfl | simp [Region.wanted, yielded, hd], ?_⟩
          have kv := Kn.get (s3.out.up hW.out) 2 0 rfl rfl
          simp [go_sem, hd]
          exact (L3.out _ _ g W (by simp [hd]) kv (Sl.up (xs := P.dg O) Sk.out hW.out)).mono fun e w' ⟨he, hb⟩ => ⟨_, he, rfl, hb⟩
        · intro vals W hW hw hd
          simp [Region.binds] at hd
          refine ⟨by first | rfl | simp [Region.wanted, yielded, hd], ?_⟩
          simp [go_sem, hd, esm]
          exact Below.refl _ _
        · intro vals W hW hw hd
          simp [Region.binds] at hd
          refine ⟨by first | rfl | simp [Region.wanted, yielded, hd], ?_⟩
          simp [go_sem, hd]
          exact Below.refl _ _
        · intro vals W hW hw hd
          simp [Region.binds] at hd
          refine ⟨by first | rfl | simp [Region.wanted, yielded, hd], ?_⟩
          simp [go_sem, hd]
          exact Below.refl _ _
        · intro vals W hW hw hd
          simp [Region.binds] at hd
          have u0 := Kn.get (s3.out.up hW.out) 5 0 rfl rfl
          have u1 := Kn.get (s3.out.up hW.out) 5 1 rfl rfl
          have u2 := Kn.get (s3.out.up hW.out) 5 2 rfl rfl
          have u3 := Kn.get (s3.out.up hW.out) 5 3 rfl rfl
          refine ⟨by first | rfl | simp [Region.wanted, yielded, hd], ?_⟩
          simp [go_sem, u0, u1, u2, u3]
          exact Below.refl _ _
        · intro vals W hW hw hd
          simp [Region.binds] at hd
          refine ⟨by first | rfl | simp [Region.wanted, yielded, hd], ?_⟩
          simp [go_sem, hd]
          exact (NG _).mono fun e w' ⟨he, hb⟩ => ⟨_, he, rfl, hb⟩
        · intro vals W hW hw hd
          simp [Region.binds] at hd
          refine ⟨by first | rfl | simp [Region.wanted, yielded, hd], ?_⟩
          simp [go_sem]
          exact Below.refl _ _
        · intro vals W hW hw hd
          simp [Region.binds] at hd
          refine ⟨by first | rfl | simp [Region.wanted, yielded, hd], ?_⟩
          have kv := Kn.get (s3.out.up hW.out) 2 0 rfl rfl
          simp [go_sem, kv]
          exact ⟨Sl.up (xs := P.dg O) Sk.out hW.out, Below.refl _ _⟩
        · intro vals W hW hw hd
          simp [Region.binds] at hd
          refine ⟨by first | rfl | simp [Region.wanted, yielded, hd], ?_⟩
          simp [go_sem]
          exact ⟨Sl.up (xs := (P.dg A)) Sx.out hW.out, Below.refl _ _⟩
        · intro vals W hW hw hd
          simp [Region.binds] at hd
          refine ⟨by first | rfl | simp [Region.wanted, yielded, hd], ?_⟩
          have kv := Kn.get (s3.out.up hW.out) 2 0 rfl rfl
          simp [go_sem, kv]
          exact ⟨Sl.up (xs := P.dg O) Sk.out hW.out, Below.refl _ _⟩
        · intro vals W hW hw hd
          simp [Region.binds] at hd
          refine ⟨by first | rfl | simp [Region.wanted, yielded, hd], ?_⟩
          simp [go_sem]
          exact (R1.out _ _ _ (by simp [hd]) (by simp [hd])).mono fun e w' ⟨⟨v', he, hs⟩, hb⟩ => ⟨v', he, hs, hb⟩
        · intro vals W hW hw hd
          simp [Region.binds] at hd
          refine ⟨by first | rfl | simp [Region.wanted, yielded, hd], ?_⟩
          simp [go_sem]
          exact (M1.out _ _ _ (by simp [hd]) (by simp [hd])).mono fun e w' ⟨⟨v', he, hs⟩, hb⟩ => ⟨v', he, hs, hb⟩
        · intro vals W hW hw hd
          simp [Region.binds] at hd
          refine ⟨by first | rfl | simp [Region.wanted, yielded, hd], ?_⟩
          have kv := Kn.get (s3.out.up hW.out) 2 0 rfl rfl
          simp [go_sem, hd]
          exact (L4.out _ _ g W (by simp [hd]) kv (Sl.up (xs := P.dg O) Sk.out hW.out)).mono fun e w' ⟨he, hb⟩ => ⟨_, he, rfl, hb⟩
        · intro vals W hW hw hd
          simp [Region.binds] at hd
          refine ⟨by first | rfl | simp [Region.wanted, yielded, hd], ?_⟩
          simp [go_sem, hd, eng]
          exact Below.refl _ _
        · intro vals W hW hw hd
          simp [Region.binds] at hd
          refine ⟨by first | rfl | simp [Region.wanted, yielded, hd], ?_⟩
          simp [go_sem, hd]
          exact Below.refl _ _
        · intro vals W hW hw hd
          simp [Region.binds] at hd
          refine ⟨by first | rfl | simp [Region.wanted, yielded, hd], ?_⟩
          simp [go_sem, hd]
          exact Below.refl _ _
        · intro vals W hW hw hd
          simp [Region.binds] at hd
          have u0 := Kn.get (s3.out.up hW.out) 5 0 rfl rfl
          have u1 := Kn.get (s3.out.up hW.out) 5 1 rfl rfl
          have u2 := Kn.get (s3.out.up hW.out) 5 2 rfl rfl
          have u3 := Kn.get (s3.out.up hW.out) 5 3 rfl rfl
          refine ⟨by first | rfl | simp [Region.wanted, yielded, hd], ?_⟩
          simp [go_sem, u0, u1, u2, u3]
          exact Below.refl _ _
        · intro vals W hW hw hd
          simp [Region.binds] at hd
          have u0 := Kn.get (s3.out.up hW.out) 4 0 rfl rfl
          have u1 := Kn.get (s3.out.up hW.out) 4 1 rfl rfl
          have u2 := Kn.get (s3.out.up hW.out) 4 2 rfl rfl
          have u3 := Kn.get (s3.out.up hW.out) 4 3 rfl rfl
          refine ⟨by first | rfl | simp [Region.wanted, yielded, hd], ?_⟩
          simp [go_sem, u0, u1, u2, u3]
          exact Below.refl _ _
        · intro vals W hW hw hd
          simp [Region.binds] at hd
          refine ⟨by first | rfl | simp [Region.wanted, yielded, hd], ?_⟩
          simp [go_sem, hd]
          exact (MU _).mono fun e w' ⟨he, hb⟩ => ⟨_, he, rfl, hb⟩
        · intro vals W hW hw hd
          simp [Region.binds] at hd
          refine ⟨by first | rfl | simp [Region.wanted, yielded, hd], ?_⟩
          simp [go_sem]
          exact Below.refl _ _
        · intro vals W hW hw hd
          simp [Region.binds] at hd
          refine ⟨by first | rfl | simp [Region.wanted, yielded, hd], ?_⟩
          simp [go_sem]
          exact ⟨Sl.up (xs := (P.dg A)) Sx.out hW.out, Below.refl _ _⟩
        · intro vals W hW hw hd
          simp [Region.binds] at hd
          refine ⟨by first | rfl | simp [Region.wanted, yielded, hd], ?_⟩
          simp [go_sem]
          exact ⟨Sl.up (xs := (P.dg B)) Sy.out hW.out, Below.refl _ _⟩
        · intro vals W hW hw hd
          simp [Region.binds] at hd
          refine ⟨by first | rfl | simp [Region.wanted, yielded, hd], ?_⟩
          simp [go_sem]
          exact (T1.out _ _ _ (by simp [hd]) (by simp [hd])).mono fun e w' ⟨⟨v', he, hs⟩, hb⟩ => ⟨v', he, hs, hb⟩
        · intro vals W hW hw hd
          simp [Region.binds] at hd
          refine ⟨by first | rfl | simp [Region.wanted, yielded, hd], ?_⟩
          have kv := Kn.get (s3.out.up hW.out) 2 0 rfl rfl
          simp [go_sem, hd]
          exact (L5.out _ _ g W (by simp [hd]) kv (Sl.up (xs := P.dg O) Sk.out hW.out)).mono fun e w' ⟨he, hb⟩ => ⟨_, he, rfl, hb⟩
        · intro vals W hW hw hd
          simp [Region.binds] at hd
          refine ⟨by first | rfl | simp [Region.wanted, yielded, hd], ?_⟩
          simp [go_sem, hd, eml]
          exact Below.refl _ _
        · intro vals W hW hw hd
          simp [Region.binds] at hd
          refine ⟨by first | rfl | simp [Region.wanted, yielded, hd], ?_⟩
          simp [go_sem, hd]
          exact Below.refl _ _
        · intro vals W hW hw hd
          simp [Region.binds] at hd
          refine ⟨by first | rfl | simp [Region.wanted, yielded, hd], ?_⟩
          simp [go_sem, hd]
          exact Below.refl _ _
        · intro vals W hW hw hd
          simp [Region.binds] at hd
          have u0 := Kn.get (s3.out.up hW.out) 5 0 rfl rfl
          have u1 := Kn.get (s3.out.up hW.out) 5 1 rfl rfl
          have u2 := Kn.get (s3.out.up hW.out) 5 2 rfl rfl
          have u3 := Kn.get (s3.out.up hW.out) 5 3 rfl rfl
          refine ⟨by first | rfl | simp [Region.wanted, yielded, hd], ?_⟩
          simp [go_sem, u0, u1, u2, u3]
          exact Below.refl _ _
        · intro vals W hW hw hd
          simp [Region.binds] at hd
          refine ⟨by first | rfl | simp [Region.wanted, yielded, hd], ?_⟩
          simp [go_sem, hd]
          exact (IV _).mono fun e w' ⟨he, hb⟩ => ⟨_, he, rfl, hb⟩
        · intro vals W hW hw hd
          simp [Region.binds] at hd
          refine ⟨by first | rfl | simp [Region.wanted, yielded, hd], ?_⟩
          simp [go_sem]
          exact ⟨Sl.up (xs := (P.dg A)) Sx.out hW.out, Below.refl _ _⟩
        · intro vals W hW hw hd
          simp [Region.binds] at hd
          refine ⟨by first | rfl | simp [Region.wanted, yielded, hd], ?_⟩
          have kv := Kn.get (s3.out.up hW.out) 2 0 rfl rfl
          simp [go_sem, kv]
          exact ⟨Sl.up (xs := P.dg O) Sk.out hW.out, Below.refl _ _⟩
        · intro vals W hW hw hd
          simp [Region.binds] at hd
          refine ⟨by first | rfl | simp [Region.wanted, yielded, hd], ?_⟩
          simp [go_sem]
          exact ⟨Sl.one W 2 _ rfl, (Below.refl _ _).alloc (Nat.le_refl _) _⟩
        · intro vals W hW hw hd
          simp [Region.binds] at hd
          refine ⟨by first | rfl | simp [Region.wanted, yielded, hd], ?_⟩
          simp [go_sem]
          exact (M2.out _ _ _ (by simp [hd]) (by simp [hd])).mono fun e w' ⟨⟨v', he, hs⟩, hb⟩ => ⟨v', he, hs, hb⟩
        · intro vals W hW hw hd
          simp [Region.binds] at hd
          refine ⟨by first | rfl | simp [Region.wanted, yielded, hd], ?_⟩
          have kv := Kn.get (s3.out.up hW.out) 2 0 rfl rfl
          simp [go_sem, kv]
          exact ⟨Sl.up (xs := P.dg O) Sk.out hW.out, Below.refl _ _⟩
        · intro vals W hW hw hd
          simp [Region.binds] at hd
          refine ⟨by first | rfl | simp [Region.wanted, yielded, hd], ?_⟩
          simp [go_sem]
          exact (PW.out _ _ _ _ (by simp [hd]) (by simp [hd]) (by simp [hd])).mono fun e w' ⟨⟨v', he, hs⟩, hb⟩ => ⟨v', he, hs, hb⟩
        · intro vals W hW hw hd
          simp [Region.binds] at hd
          refine ⟨by first | rfl | simp [Region.wanted, yielded, hd], ?_⟩
          simp [go_sem]
          exact (TI.out _ _ (by simp [hd])).mono fun e w' ⟨he, hb⟩ => ⟨_, he, rfl, hb⟩
        · intro vals W hW hw hd
          simp [Region.binds] at hd
          refine ⟨by first | rfl | simp [Region.wanted, yielded, hd], ?_⟩
          simp [go_sem, hd, eiv]
          exact Below.refl _ _
        · intro vals W hW hw hd
          simp [Region.binds] at hd
          refine ⟨by first | rfl | simp [Region.wanted, yielded, hd], ?_⟩
          simp [go_sem, hd]
          exact Below.refl _ _
        · intro vals W hW hw hd
          simp [Region.binds] at hd
          refine ⟨by first | rfl | simp [Region.wanted, yielded, hd], ?_⟩
          simp [go_sem, hd]
          exact Below.refl _ _
        · intro vals W hW hw hd
          simp [Region.binds] at hd
          refine ⟨by first | rfl | simp [Region.wanted, yielded, hd], ?_⟩
          simp [go_sem]
          exact Below.refl _ _
        · intro vals W hW hw hd
          simp [Region.binds] at hd
          refine ⟨by first | rfl | simp [Region.wanted, yielded, hd], ?_⟩
          simp [go_sem]
          exact Below.refl _ _
        · intro vals W hW hw hd
          simp [Region.binds] at hd
          refine ⟨by first | rfl | simp [Region.wanted, yielded, hd], ?_⟩
          simp [go_sem, hd]
          exact (DG.out W (HV.out.up (b3.out.trans (hW.out.mono b3.out.size)) (Nat.le_refl _)) (HK.out.up (b3.out.trans (hW.out.mono b3.out.size)) HK.out.pos)).mono fun e w' ⟨he, hb⟩ => ⟨_, he, rfl, hb⟩
        · intro vals W hW hw hd
          simp [Region.binds] at hd
          refine ⟨by first | rfl | simp [Region.wanted, yielded, hd], ?_⟩
          simp [go_sem]
          exact Below.refl _ _
        · intro vals W hW hw hd
          simp [Region.binds] at hd
          refine ⟨by first | rfl | simp [Region.wanted, yielded, hd], ?_⟩
          simp [go_sem]
          exact Below.refl _ _
        · intro vals W hW hw hd
          simp [Region.binds] at hd
          refine ⟨by first | rfl | simp [Region.wanted, yielded, hd], ?_⟩
          have cv := bytes_conv (HV.out.up (b3.out.trans (hW.out.mono b3.out.size)) (Nat.le_refl _))
          rw [HU.out] at cv
          simp [go_sem, hd, cv]
          exact Below.refl _ _
        · intro vals W hW hw hd
          simp [Region.binds] at hd
          refine ⟨by first | rfl | simp [Region.wanted, yielded, hd], ?_⟩
          simp [go_sem, hd]
          exact (RG.out W (HR.out.up (b3.out.trans (hW.out.mono b3.out.size)) HR.out.pos)).mono fun e w' ⟨⟨v', he, hs⟩, hb⟩ => ⟨v', he, hs, hb⟩
        · intro vals W hW hw hd
          simp [Region.binds] at hd
          refine ⟨by first | rfl | simp [Region.wanted, yielded, hd], ?_⟩
          simp [go_sem]
          exact (TD.out _ _ (by simp [hd])).mono fun e w' ⟨he, hb⟩ => ⟨_, he, rfl, hb⟩
        · intro vals W hW hw hd
          simp [Region.binds] at hd
          refine ⟨by first | rfl | simp [Region.wanted, yielded, hd], ?_⟩
          simp [go_sem, hd, edd]
          exact Below.refl _ _
        · intro vals W hW hw hd
          simp [Region.binds] at hd
          refine ⟨by first | rfl | simp [Region.wanted, yielded, hd], ?_⟩
          simp [go_sem, hd]
          exact Below.refl _ _
        · intro vals W hW hw hd
          simp [Region.binds] at hd
          refine ⟨by first | rfl | simp [Region.wanted, yielded, hd], ?_⟩
          simp [go_sem, hd]
          exact Below.refl _ _
      obtain ⟨f0, f1, f2, f3, f4, f5, f6, f7, f8, f9, f10, f11, f12, f13, f14, f15, f16, f17, f18, f19, f20, f21, f22, f23, f24, f25, f26, f27, f28, f29, f30, f31, f32, f33, f34, f35, f36, f37, f38, f39, f40, f41, f42, f43, f44, f45, f46, f47, f48, f49, f50, f51, f52, f53, f54, f55, f56, f57, f58, f59, f60, f61, f62, f63, f64, f65, f66, f67, f68, f69, f70, f71, f72, f73, f74, f75, f76, f77, f78, _⟩ := hF
      have s4 : Hid (Kn w4 [(kw, (c4 (nv))), (kn, (c4 (nv))), (g, [kO]), (w.heap.size + 1 + 1, (c8 (l) (h))), (w.heap.size + 1, (c4 (b))), (w.heap.size, (c4 (a)))]) := s3.out.up hb4.out
      have b4 : Hid (Below w.heap.size w w4) := b3.out.trans (hb4.out.mono b3.out.size)
      have z4 := b4.out.size
      replace Sk : Hid (Sl w4 kO (P.dg O)) := Sl.up (xs := (P.dg O)) Sk.out hb4.out
      replace Sx : Hid (Sl w4 kX (P.dg A)) := Sl.up (xs := (P.dg A)) Sx.out hb4.out
      replace Sy : Hid (Sl w4 kY (P.dg B)) := Sl.up (xs := (P.dg B)) Sy.out hb4.out
      clear hb4 s3 b3
      have e78 := f78
      simp only [MP.eq_p] at e78
      clear f0 f1 f2 f3 f4 f5 f6 f7 f8 f9 f10 f11 f12 f13 f14 f15 f16 f17 f18 f19 f20 f21 f22 f23 f24 f25 f26 f27 f28 f29 f30 f31 f32 f33 f34 f35 f36 f37 f38 f39 f40 f41 f42 f43 f44 f45 f46 f47 f48 f49 f50 f51 f52 f53 f54 f55 f56 f57 f58 f59 f60 f61 f62 f63 f64 f65 f66 f67 f68 f69 f70 f71 f72 f73 f74 f75 f76 f77 f78
      go_wp2_with fail
      go_ret
      exact ⟨by rw [e78]; rfl, b4.out⟩
    | succ K =>
      have e1 : ((K + 1 : Nat) : Int) - 1 = (K : Int) := by omega
      rw [e1]
      have hKl : K < bs.length := by rw [HN.out]; omega
      have HD : Hid (S.le (bs.drop K) = S.le (bs.drop (K + 1)) * 256 + bs.getD K 0) := S.le_drop hKl
      have ZL : Hid (S.le (bs.drop (K + 1)) * 256 < 65536 ^ 64) := by
        have h1 := S.le_lt (bs.drop (K + 1)) (fun x hx => LD.out x (List.mem_of_mem_drop hx))
        have h2 := Nat.pow_le_pow_right (n := 256) (by decide) (show (bs.drop (K + 1)).length ≤ 64 by rw [List.length_drop, HN.out]; omega)
        have h3 : (256 : Nat) ^ 64 * 256 < 65536 ^ 64 := by decide
        exact Nat.lt_of_lt_of_le (Nat.mul_lt_mul_of_pos_right (Nat.lt_of_lt_of_le h1 h2) (by decide)) (Nat.le_of_lt h3)
      have la : bs.getD K 0 < 256 := by
        rw [List.getD_eq_getElem?_getD, List.getElem?_eq_getElem hKl]
        exact LD.out _ (List.getElem_mem hKl)
      obtain ⟨ga, qa, ea, CA⟩ : ∃ ga qa, ad = some ⟨ga, qa, none⟩ ∧ Hid (∀ W, Below w.heap.size w W → W.cell? ⟨ga, qa + K, none⟩ = some (b8 (bs.getD K 0))) := By.at_K HV.out HN.out hKl
      subst ea
      generalize S.le (bs.drop (K + 1)) = Z at *
      generalize bs.getD K 0 = x at *
      have x0' : (0 : Int) ≤ (x : Int) := by omega
      have x2' : (x : Int) < 256 := by omega
      have QI : Hid _ := times_c Z (Nat.lt_of_le_of_lt (Nat.le_mul_of_pos_right _ (by decide)) ZL.out)
      have QL : Hid _ := plus_c (Z * 256) x ZL.out la
      have k0 : (0 : Int) ≤ (K : Int) := by omega
      have k1 : (K : Int) < (n : Int) := by omega
      have HKn : Hid (K + 1 ≤ n) := hK
      have j0 : (K : Int) ≥ 0 := k0
      have wk : IntKind.i64.wrap ((K : Int) - 1) = (K : Int) - 1 := by rw [IntKind.wrap_i64]; omega
      clear hK e1 hKl la
      go_wp2_with fail
      refine wp_region_monoE [MP.sl (P.dg Z), MP.sl [256], MP.sl (P.dg (Z * 256)), MP.eq (.slice (some ⟨ga, qa, none⟩) n c), MP.eq (.int .i64 (K : Int)), MP.eq (.pointer (some ⟨ga, qa + K, none⟩)), MP.eq (.int .u8 (x : Int)), MP.eq (.int .i64 (x : Int)), MP.sl [x], MP.sl (P.dg (Z * 256 + x)), MP.sl (P.dg (Z * 256 + x))] (by kernel_rfl) (by kernel_rfl) rfl ?_
      apply Exists.intro
      refine ⟨fun vals => ?_, ?_, fun vals6 w6 hb6 hF => ?_⟩
      · simp only [putsV, dstL, List.length_cons, List.length_nil, Nat.zero_add, Nat.reduceAdd, List.getElem?_cons_zero, List.getElem?_cons_succ, Option.bind_some, Act.put, List.setIfInBounds_toArray, List.set_cons_succ, List.set_cons_zero]
        rfl
      · refine ⟨?_, ?_, ?_, ?_, ?_, ?_, ?_, ?_, ?_, ?_, ?_, trivial⟩
        · intro vals W hW hw hd
          try simp [Region.binds] at hd
          refine ⟨by first | rfl | simp [Region.wanted, yielded, hd], ?_⟩
          have h9 : vals 10 = u18 := (hw.out 10 (by kernel_rfl)).trans rfl
          simp [go_sem, h9]
          exact ⟨Sl.up (xs := P.dg Z) sx.out hW.out, Below.refl _ _⟩
        · intro vals W hW hw hd
          try simp [Region.binds] at hd
          refine ⟨by first | rfl | simp [Region.wanted, yielded, hd], ?_⟩
          simp [go_sem]
          exact ⟨Sl.one W 256 _ rfl, (Below.refl _ _).alloc (Nat.le_refl _) _⟩
        · intro vals W hW hw hd
          try simp [Region.binds] at hd
          refine ⟨by first | rfl | simp [Region.wanted, yielded, hd], ?_⟩
          simp [go_sem]
          exact (QI.out _ _ _ (by simp [hd]) (by simp [hd])).mono fun e w' ⟨⟨v', he, hs⟩, hb⟩ => ⟨v', he, hs, hb⟩
        · intro vals W hW hw hd
          try simp [Region.binds] at hd
          refine ⟨by first | rfl | simp [Region.wanted, yielded, hd], ?_⟩
          simp [go_sem, hd]
          exact Below.refl _ _
        · intro vals W hW hw hd
          try simp [Region.binds] at hd
          refine ⟨by first | rfl | simp [Region.wanted, yielded, hd], ?_⟩
          simp [go_sem, hd]
          exact Below.refl _ _
        · intro vals W hW hw hd
          try simp [Region.binds] at hd
          refine ⟨by first | rfl | simp [Region.wanted, yielded, hd], ?_⟩
          simp [go_sem, hd, k0, k1]
          exact Below.refl _ _
        · intro vals W hW hw hd
          try simp [Region.binds] at hd
          refine ⟨by first | rfl | simp [Region.wanted, yielded, hd], ?_⟩
          have ca := CA.out W (b1.out.trans (hW.out.mono b1.out.size))
          simp [go_sem, hd, ca, b8]
          exact Below.refl _ _
        · intro vals W hW hw hd
          try simp [Region.binds] at hd
          refine ⟨by first | rfl | simp [Region.wanted, yielded, hd], ?_⟩
          simp [go_sem, hd]
          exact ⟨by rw [IntKind.wrap_i64]; omega, Below.refl _ _⟩
        · intro vals W hW hw hd
          try simp [Region.binds] at hd
          refine ⟨by first | rfl | simp [Region.wanted, yielded, hd], ?_⟩
          simp [go_sem, hd]
          exact ⟨Sl.one W x _ rfl, (Below.refl _ _).alloc (Nat.le_refl _) _⟩
        · intro vals W hW hw hd
          try simp [Region.binds] at hd
          refine ⟨by first | rfl | simp [Region.wanted, yielded, hd], ?_⟩
          simp [go_sem]
          exact (QL.out _ _ _ (by simp [hd]) (by simp [hd])).mono fun e w' ⟨⟨v', he, hs⟩, hb⟩ => ⟨v', he, hs, hb⟩
        · intro vals W hW hw hd
          try simp [Region.binds] at hd
          refine ⟨by first | rfl | simp [Region.wanted, yielded, hd], ?_⟩
          simp [go_sem]
          exact ⟨by simp [hd], Below.refl _ _⟩
      obtain ⟨f0, f1, f2, f3, f4, f5, f6, f7, f8, f9, f10, _⟩ := hF
      simp only [MP.eq_p] at f3 f4 f5 f6 f7
      simp only [MP.sl_p] at f10
      have S9 : Hid (Sl w6 (vals6 10) (P.dg (Z * 256 + x))) := f10
      rw [← HD.out] at S9
      have b6 : Hid (Below w.heap.size w w6) := b1.out.trans (hb6.out.mono b1.out.size)
      have s6 : Hid (Kn w6 [(kw, c4 (⟨0, 0, 0, 0⟩ : Nm)), (kn, c4 nv), (g, [kO]), (w.heap.size + 1 + 1, c8 l h), (w.heap.size + 1, c4 b), (w.heap.size, c4 a)]) := s1.out.up hb6.out
      have Tk6 : Hid (Sl w6 kO (P.dg O)) := Sl.up (xs := P.dg O) Tk.out hb6.out
      have Tx6 : Hid (Sl w6 kX (P.dg A)) := Sl.up (xs := P.dg A) Tx.out hb6.out
      have Ty6 : Hid (Sl w6 kY (P.dg B)) := Sl.up (xs := P.dg B) Ty.out hb6.out
      clear f10 hb6 b1 QI QL sx HD ZL CA s1 Tk Tx Ty
      go_wp2_with fail
      go_roundw
      case rel =>
        have := HKn.out
        exact ⟨K, by omega, by first | rfl | go_num, S9, s6, Tk6, Tx6, Ty6, b6⟩
      case measure => simp [intOf]
end Go.Proofs.YtjcnfffmciahiaaDoor
