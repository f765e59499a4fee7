/- AttrPuts, out of what package attr must keep and the document's side. -/
import Derived.Test.YtohliojdmmbcdaaQAtUn
import Derived.Test.YtohliojdmmbcdaaQAtTl
namespace Go.Proofs.Ytohliojdmmbcdaa
open Go.RowKit
attribute [local go_sem] YieldsP execOp
attribute [local simp] MP.eq_p
set_option linter.unusedSimpArgs false
section
variable (l t O U : List Ar) (P b : List Nat) (v u z : Value) (f g i : Nat) (w : World)
set_option maxRecDepth 20000 in
set_option maxHeartbeats 4000000 in
theorem attrPuts_good (HV : Hid (Ats w v l)) (HU : Hid (Ats w u t)) (HZ : Hid (By w z b))
    (F1 : ∀ W, Ats W v l → Calls Try.prog 9 #[v] W fun e w' => e = .returned (.int .i64 0) ∧ Below W.heap.size W w')
    (F2 : ∀ W, Ats W u t → Calls Try.prog 9 #[u] W fun e w' => e = .returned (.int .i64 0) ∧ Below W.heap.size W w')
    (OV : ∀ W, Ats W v l → Ats W u t → Calls Try.prog 20 #[v, u] W fun e w' => (∃ r, e = .returned (.tuple #[r, .int .i64 0]) ∧ Ats w' r O) ∧ Below W.heap.size W w')
    (PK : ∀ W, Ats W v l → Calls Try.prog 21 #[v] W fun e w' => (∃ p, e = .returned (.tuple #[p, .int .i64 0]) ∧ By w' p P) ∧ Below W.heap.size W w')
    (UN : ∀ W, By W z b → Calls Try.prog 22 #[z] W fun e w' => (∃ q, e = .returned (.tuple #[q, .int .i64 (i : Int)]) ∧ Ats w' q U) ∧ Below W.heap.size W w')
    (UR : ∀ W, Calls Try.prog 23 #[.string (sOf b)] W fun e w' => (∃ q, e = .returned (.tuple #[q, .int .i64 (i : Int)]) ∧ Ats w' q U) ∧ Below W.heap.size W w')
    (SU : ∀ p q W, Ats W p U → Ats W q U → Calls Try.prog 16 #[p, q] W fun e w' => e = .returned (.bool true) ∧ Below W.heap.size W w')
    (PA : ∀ W, Ats W v l → Calls Try.prog 24 #[v] W fun e w' => e = .returned (.string (sOf P)) ∧ Below W.heap.size W w')
    (C1 : ∀ W, Ats W v l → Calls Try.prog 11 #[v] W fun e w' => e = .returned (.agg (crdC (crdF l)).toArray) ∧ Below W.heap.size W w')
    (C2 : ∀ W, Ats W u t → Calls Try.prog 11 #[u] W fun e w' => e = .returned (.agg (crdC (crdF t)).toArray) ∧ Below W.heap.size W w')
    (UP : ∀ W, Calls Try.prog 25 #[.agg (crdC (crdF l)).toArray, .agg (crdC (crdF t)).toArray] W fun e w' => e = .returned (.agg (crdC (crdF (t ++ l))).toArray) ∧ Below W.heap.size W w')
    (AT : ∀ W, Calls Try.prog 12 #[.agg (crdC (crdF (t ++ l))).toArray] W fun e w' => (∃ q, e = .returned q ∧ Ats w' q O) ∧ Below W.heap.size W w')
    (SO : ∀ p q W, Ats W p O → Ats W q O → Calls Try.prog 16 #[p, q] W fun e w' => e = .returned (.bool true) ∧ Below W.heap.size W w') :
    Calls Try.prog 4 #[v, u, z] w fun e w' => e = .returned (.bool true) ∧ Below w.heap.size w w' := by
  go_enter Try.func4, Try.ntmps4
  go_wp2_with fail
  refine (F1 w HV.out).mono ?_
  rintro e w1 ⟨rfl, hb⟩
  have b1 : Hid (Below w.heap.size w w1) := hb
  clear hb F1
  go_wp2_with fail
  refine (F2 w1 (HU.out.up b1.out (Nat.le_refl _))).mono ?_
  rintro e w2 ⟨rfl, hb⟩
  have b2 : Hid (Below w.heap.size w w2) := b1.out.trans (hb.mono b1.out.size)
  clear hb F2 b1
  go_wp2_with fail
  refine (OV w2 (HV.out.up b2.out (Nat.le_refl _)) (HU.out.up b2.out (Nat.le_refl _))).mono ?_
  rintro e w3 ⟨⟨r, rfl, hr⟩, hb⟩
  have b3 : Hid (Below w.heap.size w w3) := b2.out.trans (hb.mono b2.out.size)
  have O3 : Hid (Ats w3 r O) := hr
  clear hb hr OV b2
  go_wp2_with fail
  refine (PK w3 (HV.out.up b3.out (Nat.le_refl _))).mono ?_
  rintro e w4 ⟨⟨p, rfl, hp⟩, hb⟩
  have b4 : Hid (Below w.heap.size w w4) := b3.out.trans (hb.mono b3.out.size)
  have O4 : Hid (Ats w4 r O) := O3.out.up hb (Nat.le_refl _)
  have P4 : Hid (By w4 p P) := hp
  clear hb hp PK b3 O3
  go_wp2_with fail
  refine (UN w4 (HZ.out.up b4.out (Nat.le_refl _))).mono ?_
  rintro e w5 ⟨⟨q, rfl, hq⟩, hb⟩
  have b5 : Hid (Below w.heap.size w w5) := b4.out.trans (hb.mono b4.out.size)
  have O5 : Hid (Ats w5 r O) := O4.out.up hb (Nat.le_refl _)
  have P5 : Hid (By w5 p P) := P4.out.up hb (Nat.le_refl _)
  have Q5 : Hid (Ats w5 q U) := hq
  have Z5 : Hid (By w5 z b) := HZ.out.up b5.out (Nat.le_refl _)
  clear hb hq UN b4 O4 P4
  go_wp2_with (refine wp_conv rfl (.tmp 38) rfl _ b rfl Z5.out ?_)
  refine (UR w5).mono ?_
  rintro e w6 ⟨⟨s, rfl, hs⟩, hb⟩
  have b6 : Hid (Below w.heap.size w w6) := b5.out.trans (hb.mono b5.out.size)
  have O6 : Hid (Ats w6 r O) := O5.out.up hb (Nat.le_refl _)
  have P6 : Hid (By w6 p P) := P5.out.up hb (Nat.le_refl _)
  have Q6 : Hid (Ats w6 q U) := Q5.out.up hb (Nat.le_refl _)
  have S6 : Hid (Ats w6 s U) := hs
  clear hb hs UR b5 O5 P5 Q5 Z5
  go_wp2_with fail
  refine (SU q s w6 Q6.out S6.out).mono ?_
  rintro e w7 ⟨rfl, hb⟩
  have b7 : Hid (Below w.heap.size w w7) := b6.out.trans (hb.mono b6.out.size)
  have O7 : Hid (Ats w7 r O) := O6.out.up hb (Nat.le_refl _)
  have P7 : Hid (By w7 p P) := P6.out.up hb (Nat.le_refl _)
  clear hb b6 O6 P6 Q6 S6 SU
  obtain ⟨pa, pc, rfl⟩ := P7.out.len
  generalize hN : P.length = N at *
  clear hN
  have V7 : Hid (∀ W, Below w7.heap.size w7 W → Ats W v l) := fun W hW => HV.out.up (b7.out.trans (hW.mono b7.out.size)) (Nat.le_refl _)
  go_wp2_with fail
  refine wp_region_monoGE [MP.eq (.int .i64 0), MP.eq (.bool true), MP.eq (.bool true), MP.eq (.slice pa N pc), MP.eq (.string (sOf P)), MP.eq (v), MP.eq (.string (sOf P)), MP.eq (.bool false), MP.eq (.bool false), MP.eq (.bool false), MP.eq (.int .i64 0), MP.eq (.bool false), MP.eq (.bool false), MP.eq undef, MP.eq undef, MP.eq undef, MP.eq (.bool false), MP.eq (.bool false)] (by kernel_rfl) (by kernel_rfl) rfl ?_
  apply Exists.intro
  refine ⟨fun vals => ?_, ?_, fun vals8 w8 hb8 hF => ?_⟩
  · simp only [putsV, dstL, List.length_cons, List.length_nil, Nat.zero_add, Nat.reduceAdd, List.getElem?_cons_zero, List.getElem?_cons_succ, Option.bind_some, Act.put, List.setIfInBounds_toArray, List.set_cons_succ, List.set_cons_zero]
    rfl
  · refine ⟨?_, ?_, ?_, ?_, ?_, ?_, ?_, ?_, ?_, ?_, ?_, ?_, ?_, ?_, ?_, ?_, ?_, ?_, trivial⟩
    · intro vals W hW hw hd
      try simp [Region.binds] at hd
      refine .inl ⟨by first | rfl | simp [Region.wanted, yielded, hd], ?_⟩
      simp [go_sem, hd]
      exact Below.refl _ _
    · intro vals W hW hw hd
      try simp [Region.binds] at hd
      refine .inl ⟨by first | rfl | simp [Region.wanted, yielded, hd], ?_⟩
      simp [go_sem, hd]
      exact Below.refl _ _
    · intro vals W hW hw hd
      try simp [Region.binds] at hd
      refine .inl ⟨by first | rfl | simp [Region.wanted, yielded, hd], ?_⟩
      simp [go_sem, hd]
      exact Below.refl _ _
    · intro vals W hW hw hd
      try simp [Region.binds] at hd
      refine .inl ⟨by first | rfl | simp [Region.wanted, yielded, hd], ?_⟩
      simp [go_sem, hd]
      exact Below.refl _ _
    · intro vals W hW hw hd
      try simp [Region.binds] at hd
      refine .inl ⟨by first | rfl | simp [Region.wanted, yielded, hd], ?_⟩
      exact yields_cvA _ rfl _ P (by first | exact hd | exact hd.1 | exact hd.2 | exact hd.2.1 | exact hd.2.2 | exact hd.2.2.1 | exact hd.2.2.2 | exact hd.2.2.2.1 | exact hd.2.2.2.2) (P7.out.up hW.out (Nat.le_refl _))
    · intro vals W hW hw hd
      try simp [Region.binds] at hd
      refine .inl ⟨by first | rfl | simp [Region.wanted, yielded, hd], ?_⟩
      simp [go_sem, hd]
      exact Below.refl _ _
    · intro vals W hW hw hd
      try simp [Region.binds] at hd
      refine .inl ⟨by first | rfl | simp [Region.wanted, yielded, hd], ?_⟩
      simp [go_sem, hd]
      exact (PA W (V7.out W hW.out)).mono fun e w' ⟨he, hb⟩ => ⟨_, he, rfl, hb⟩
    · intro vals W hW hw hd
      try simp [Region.binds] at hd
      refine .inl ⟨by first | rfl | simp [Region.wanted, yielded, hd], ?_⟩
      simp [go_sem, hd]
      exact Below.refl _ _
    · intro vals W hW hw hd
      try simp [Region.binds] at hd
      refine .inl ⟨by first | rfl | simp [Region.wanted, yielded, hd], ?_⟩
      simp [go_sem, hd]
      exact Below.refl _ _
    · intro vals W hW hw hd
      try simp [Region.binds] at hd
      refine .inl ⟨by first | rfl | simp [Region.wanted, yielded, hd], ?_⟩
      simp [go_sem, hd]
      exact Below.refl _ _
    · intro vals W hW hw hd
      try simp [Region.binds] at hd
      refine .inl ⟨by first | rfl | simp [Region.wanted, yielded, hd], ?_⟩
      simp [go_sem, hd]
      exact Below.refl _ _
    · intro vals W hW hw hd
      try simp [Region.binds] at hd
      refine .inl ⟨by first | rfl | simp [Region.wanted, yielded, hd], ?_⟩
      simp [go_sem, hd]
      exact Below.refl _ _
    · intro vals W hW hw hd
      try simp [Region.binds] at hd
      refine .inl ⟨by first | rfl | simp [Region.wanted, yielded, hd], ?_⟩
      simp [go_sem, hd]
      exact Below.refl _ _
    · intro vals W hW hw hd
      try simp [Region.binds] at hd
      exact .inr ⟨by simp [Region.wanted, yielded, hd], rfl⟩
    · intro vals W hW hw hd
      try simp [Region.binds] at hd
      exact .inr ⟨by simp [Region.wanted, yielded, hd], rfl⟩
    · intro vals W hW hw hd
      try simp [Region.binds] at hd
      exact .inr ⟨by simp [Region.wanted, yielded, hd], rfl⟩
    · intro vals W hW hw hd
      try simp [Region.binds] at hd
      refine .inl ⟨by first | rfl | simp [Region.wanted, yielded, hd], ?_⟩
      simp [go_sem, hd]
      exact Below.refl _ _
    · intro vals W hW hw hd
      try simp [Region.binds] at hd
      refine .inl ⟨by first | rfl | simp [Region.wanted, yielded, hd], ?_⟩
      simp [go_sem, hd]
      exact Below.refl _ _
  obtain ⟨f0, f1, f2, f3, f4, f5, f6, f7, f8, f9, f10, f11, f12, f13, f14, f15, f16, f17, _⟩ := hF
  simp only [MP.eq_p] at f0 f1 f2 f3 f4 f5 f6 f7 f8 f9 f10 f11 f12 f13 f14 f15 f16 f17
  have b8 : Hid (Below w.heap.size w w8) := b7.out.trans (hb8.out.mono b7.out.size)
  have O8 : Hid (Ats w8 r O) := O7.out.up hb8.out (Nat.le_refl _)
  rw [f17]
  clear f0 f1 f2 f3 f4 f5 f6 f7 f8 f9 f10 f11 f12 f13 f14 f15 f16 f17 hb8 b7 O7 P7 V7 PA
  go_wp2_with fail
  refine (C1 w8 (HV.out.up b8.out (Nat.le_refl _))).mono ?_
  rintro e w9 ⟨rfl, hb⟩
  have b9 : Hid (Below w.heap.size w w9) := b8.out.trans (hb.mono b8.out.size)
  have O9 : Hid (Ats w9 r O) := O8.out.up hb (Nat.le_refl _)
  clear hb C1 b8 O8
  generalize (crdC (crdF l)).toArray = cl at *
  go_wp2_with fail
  refine (C2 w9 (HU.out.up b9.out (Nat.le_refl _))).mono ?_
  rintro e w10 ⟨rfl, hb⟩
  have b10 : Hid (Below w.heap.size w w10) := b9.out.trans (hb.mono b9.out.size)
  have O10 : Hid (Ats w10 r O) := O9.out.up hb (Nat.le_refl _)
  clear hb C2 b9 O9
  generalize (crdC (crdF t)).toArray = ct at *
  go_wp2_with fail
  refine (UP w10).mono ?_
  rintro e w11 ⟨rfl, hb⟩
  have b11 : Hid (Below w.heap.size w w11) := b10.out.trans (hb.mono b10.out.size)
  have O11 : Hid (Ats w11 r O) := O10.out.up hb (Nat.le_refl _)
  clear hb UP b10 O10
  generalize (crdC (crdF (t ++ l))).toArray = cc at *
  go_wp2_with fail
  refine (AT w11).mono ?_
  rintro e w12 ⟨⟨q', rfl, hq⟩, hb⟩
  have b12 : Hid (Below w.heap.size w w12) := b11.out.trans (hb.mono b11.out.size)
  have O12 : Hid (Ats w12 r O) := O11.out.up hb (Nat.le_refl _)
  have Q12 : Hid (Ats w12 q' O) := hq
  clear hb hq AT b11 O11
  go_wp2_with fail
  refine (SO r q' w12 O12.out Q12.out).mono ?_
  rintro e w13 ⟨rfl, hb⟩
  have b13 : Hid (Below w.heap.size w w13) := b12.out.trans (hb.mono b12.out.size)
  clear hb SO b12 O12 Q12
  go_wp2_with fail
  go_ret
  exact ⟨rfl, b13.out⟩
set_option maxRecDepth 20000 in
set_option maxHeartbeats 4000000 in
theorem attrPuts_top (hO : O = []) (hg : g ≠ 0) (HV : Hid (Ats w v l)) (HU : Hid (Ats w u t)) (HZ : Hid (By w z b))
    (F1 : ∀ W, Ats W v l → Calls Try.prog 9 #[v] W fun e w' => e = .returned (.int .i64 0) ∧ Below W.heap.size W w')
    (F2 : ∀ W, Ats W u t → Calls Try.prog 9 #[u] W fun e w' => e = .returned (.int .i64 (g : Int)) ∧ Below W.heap.size W w')
    (OV : ∀ W, Ats W v l → Ats W u t → Calls Try.prog 20 #[v, u] W fun e w' => (∃ r, e = .returned (.tuple #[r, .int .i64 (g : Int)]) ∧ Ats w' r O) ∧ Below W.heap.size W w')
    (PK : ∀ W, Ats W v l → Calls Try.prog 21 #[v] W fun e w' => (∃ p, e = .returned (.tuple #[p, .int .i64 0]) ∧ By w' p P) ∧ Below W.heap.size W w')
    (UN : ∀ W, By W z b → Calls Try.prog 22 #[z] W fun e w' => (∃ q, e = .returned (.tuple #[q, .int .i64 (i : Int)]) ∧ Ats w' q U) ∧ Below W.heap.size W w')
    (UR : ∀ W, Calls Try.prog 23 #[.string (sOf b)] W fun e w' => (∃ q, e = .returned (.tuple #[q, .int .i64 (i : Int)]) ∧ Ats w' q U) ∧ Below W.heap.size W w')
    (SU : ∀ p q W, Ats W p U → Ats W q U → Calls Try.prog 16 #[p, q] W fun e w' => e = .returned (.bool true) ∧ Below W.heap.size W w')
    (PA : ∀ W, Ats W v l → Calls Try.prog 24 #[v] W fun e w' => e = .returned (.string (sOf P)) ∧ Below W.heap.size W w') :
    Calls Try.prog 4 #[v, u, z] w fun e w' => e = .returned (.bool true) ∧ Below w.heap.size w w' := by
  have fg : ((g : Int) != 0) = true := bne_iff_ne.2 (by omega)
  clear hg
  go_enter Try.func4, Try.ntmps4
  go_wp2_with fail
  refine (F1 w HV.out).mono ?_
  rintro e w1 ⟨rfl, hb⟩
  have b1 : Hid (Below w.heap.size w w1) := hb
  clear hb F1
  go_wp2_with fail
  refine (F2 w1 (HU.out.up b1.out (Nat.le_refl _))).mono ?_
  rintro e w2 ⟨rfl, hb⟩
  have b2 : Hid (Below w.heap.size w w2) := b1.out.trans (hb.mono b1.out.size)
  clear hb F2 b1
  go_wp2_with fail
  refine (OV w2 (HV.out.up b2.out (Nat.le_refl _)) (HU.out.up b2.out (Nat.le_refl _))).mono ?_
  rintro e w3 ⟨⟨r, rfl, hr⟩, hb⟩
  have b3 : Hid (Below w.heap.size w w3) := b2.out.trans (hb.mono b2.out.size)
  have O3 : Hid (Ats w3 r O) := hr
  clear hb hr OV b2
  go_wp2_with fail
  refine (PK w3 (HV.out.up b3.out (Nat.le_refl _))).mono ?_
  rintro e w4 ⟨⟨p, rfl, hp⟩, hb⟩
  have b4 : Hid (Below w.heap.size w w4) := b3.out.trans (hb.mono b3.out.size)
  have O4 : Hid (Ats w4 r O) := O3.out.up hb (Nat.le_refl _)
  have P4 : Hid (By w4 p P) := hp
  clear hb hp PK b3 O3
  go_wp2_with fail
  refine (UN w4 (HZ.out.up b4.out (Nat.le_refl _))).mono ?_
  rintro e w5 ⟨⟨q, rfl, hq⟩, hb⟩
  have b5 : Hid (Below w.heap.size w w5) := b4.out.trans (hb.mono b4.out.size)
  have O5 : Hid (Ats w5 r O) := O4.out.up hb (Nat.le_refl _)
  have P5 : Hid (By w5 p P) := P4.out.up hb (Nat.le_refl _)
  have Q5 : Hid (Ats w5 q U) := hq
  have Z5 : Hid (By w5 z b) := HZ.out.up b5.out (Nat.le_refl _)
  clear hb hq UN b4 O4 P4
  go_wp2_with (refine wp_conv rfl (.tmp 38) rfl _ b rfl Z5.out ?_)
  refine (UR w5).mono ?_
  rintro e w6 ⟨⟨s, rfl, hs⟩, hb⟩
  have b6 : Hid (Below w.heap.size w w6) := b5.out.trans (hb.mono b5.out.size)
  have O6 : Hid (Ats w6 r O) := O5.out.up hb (Nat.le_refl _)
  have P6 : Hid (By w6 p P) := P5.out.up hb (Nat.le_refl _)
  have Q6 : Hid (Ats w6 q U) := Q5.out.up hb (Nat.le_refl _)
  have S6 : Hid (Ats w6 s U) := hs
  clear hb hs UR b5 O5 P5 Q5 Z5
  go_wp2_with fail
  refine (SU q s w6 Q6.out S6.out).mono ?_
  rintro e w7 ⟨rfl, hb⟩
  have b7 : Hid (Below w.heap.size w w7) := b6.out.trans (hb.mono b6.out.size)
  have O7 : Hid (Ats w7 r O) := O6.out.up hb (Nat.le_refl _)
  have P7 : Hid (By w7 p P) := P6.out.up hb (Nat.le_refl _)
  clear hb b6 O6 P6 Q6 S6 SU
  obtain ⟨pa, pc, rfl⟩ := P7.out.len
  generalize hN : P.length = N at *
  clear hN
  have V7 : Hid (∀ W, Below w7.heap.size w7 W → Ats W v l) := fun W hW => HV.out.up (b7.out.trans (hW.mono b7.out.size)) (Nat.le_refl _)
  go_wp2_with fail
  refine wp_region_monoGE [MP.eq (.int .i64 0), MP.eq (.bool true), MP.eq (.bool true), MP.eq (.slice pa N pc), MP.eq (.string (sOf P)), MP.eq (v), MP.eq (.string (sOf P)), MP.eq (.bool false), MP.eq (.bool false), MP.eq (.bool false), MP.eq (.int .i64 0), MP.eq (.bool false), MP.eq (.bool false), MP.eq undef, MP.eq undef, MP.eq undef, MP.eq (.bool false), MP.eq (.bool false)] (by kernel_rfl) (by kernel_rfl) rfl ?_
  apply Exists.intro
  refine ⟨fun vals => ?_, ?_, fun vals8 w8 hb8 hF => ?_⟩
  · simp only [putsV, dstL, List.length_cons, List.length_nil, Nat.zero_add, Nat.reduceAdd, List.getElem?_cons_zero, List.getElem?_cons_succ, Option.bind_some, Act.put, List.setIfInBounds_toArray, List.set_cons_succ, List.set_cons_zero]
    rfl
  · refine ⟨?_, ?_, ?_, ?_, ?_, ?_, ?_, ?_, ?_, ?_, ?_, ?_, ?_, ?_, ?_, ?_, ?_, ?_, trivial⟩
    · intro vals W hW hw hd
      try simp [Region.binds] at hd
      refine .inl ⟨by first | rfl | simp [Region.wanted, yielded, hd], ?_⟩
      simp [go_sem, hd]
      exact Below.refl _ _
    · intro vals W hW hw hd
      try simp [Region.binds] at hd
      refine .inl ⟨by first | rfl | simp [Region.wanted, yielded, hd], ?_⟩
      simp [go_sem, hd]
      exact Below.refl _ _
    · intro vals W hW hw hd
      try simp [Region.binds] at hd
      refine .inl ⟨by first | rfl | simp [Region.wanted, yielded, hd], ?_⟩
      simp [go_sem, hd]
      exact Below.refl _ _
    · intro vals W hW hw hd
      try simp [Region.binds] at hd
      refine .inl ⟨by first | rfl | simp [Region.wanted, yielded, hd], ?_⟩
      simp [go_sem, hd]
      exact Below.refl _ _
    · intro vals W hW hw hd
      try simp [Region.binds] at hd
      refine .inl ⟨by first | rfl | simp [Region.wanted, yielded, hd], ?_⟩
      exact yields_cvA _ rfl _ P (by first | exact hd | exact hd.1 | exact hd.2 | exact hd.2.1 | exact hd.2.2 | exact hd.2.2.1 | exact hd.2.2.2 | exact hd.2.2.2.1 | exact hd.2.2.2.2) (P7.out.up hW.out (Nat.le_refl _))
    · intro vals W hW hw hd
      try simp [Region.binds] at hd
      refine .inl ⟨by first | rfl | simp [Region.wanted, yielded, hd], ?_⟩
      simp [go_sem, hd]
      exact Below.refl _ _
    · intro vals W hW hw hd
      try simp [Region.binds] at hd
      refine .inl ⟨by first | rfl | simp [Region.wanted, yielded, hd], ?_⟩
      simp [go_sem, hd]
      exact (PA W (V7.out W hW.out)).mono fun e w' ⟨he, hb⟩ => ⟨_, he, rfl, hb⟩
    · intro vals W hW hw hd
      try simp [Region.binds] at hd
      refine .inl ⟨by first | rfl | simp [Region.wanted, yielded, hd], ?_⟩
      simp [go_sem, hd]
      exact Below.refl _ _
    · intro vals W hW hw hd
      try simp [Region.binds] at hd
      refine .inl ⟨by first | rfl | simp [Region.wanted, yielded, hd], ?_⟩
      simp [go_sem, hd]
      exact Below.refl _ _
    · intro vals W hW hw hd
      try simp [Region.binds] at hd
      refine .inl ⟨by first | rfl | simp [Region.wanted, yielded, hd], ?_⟩
      simp [go_sem, hd]
      exact Below.refl _ _
    · intro vals W hW hw hd
      try simp [Region.binds] at hd
      refine .inl ⟨by first | rfl | simp [Region.wanted, yielded, hd], ?_⟩
      simp [go_sem, hd]
      exact Below.refl _ _
    · intro vals W hW hw hd
      try simp [Region.binds] at hd
      refine .inl ⟨by first | rfl | simp [Region.wanted, yielded, hd], ?_⟩
      simp [go_sem, hd]
      exact Below.refl _ _
    · intro vals W hW hw hd
      try simp [Region.binds] at hd
      refine .inl ⟨by first | rfl | simp [Region.wanted, yielded, hd], ?_⟩
      simp [go_sem, hd]
      exact Below.refl _ _
    · intro vals W hW hw hd
      try simp [Region.binds] at hd
      exact .inr ⟨by simp [Region.wanted, yielded, hd], rfl⟩
    · intro vals W hW hw hd
      try simp [Region.binds] at hd
      exact .inr ⟨by simp [Region.wanted, yielded, hd], rfl⟩
    · intro vals W hW hw hd
      try simp [Region.binds] at hd
      exact .inr ⟨by simp [Region.wanted, yielded, hd], rfl⟩
    · intro vals W hW hw hd
      try simp [Region.binds] at hd
      refine .inl ⟨by first | rfl | simp [Region.wanted, yielded, hd], ?_⟩
      simp [go_sem, hd]
      exact Below.refl _ _
    · intro vals W hW hw hd
      try simp [Region.binds] at hd
      refine .inl ⟨by first | rfl | simp [Region.wanted, yielded, hd], ?_⟩
      simp [go_sem, hd]
      exact Below.refl _ _
  obtain ⟨f0, f1, f2, f3, f4, f5, f6, f7, f8, f9, f10, f11, f12, f13, f14, f15, f16, f17, _⟩ := hF
  simp only [MP.eq_p] at f0 f1 f2 f3 f4 f5 f6 f7 f8 f9 f10 f11 f12 f13 f14 f15 f16 f17
  have b8 : Hid (Below w.heap.size w w8) := b7.out.trans (hb8.out.mono b7.out.size)
  have O8 : Hid (Ats w8 r O) := O7.out.up hb8.out (Nat.le_refl _)
  rw [f17]
  clear f0 f1 f2 f3 f4 f5 f6 f7 f8 f9 f10 f11 f12 f13 f14 f15 f16 f17 hb8 b7 O7 P7 V7 PA
  rw [hO] at O8
  obtain ⟨ra, rc, rfl⟩ := ats_parts O8.out
  clear hO O8
  go_wp2_with fail
  go_ret
  exact ⟨by first | rfl | simp, b8.out⟩
set_option maxRecDepth 20000 in
set_option maxHeartbeats 4000000 in
theorem attrPuts_low (hO : O = []) (hP : P = []) (hf : f ≠ 0) (HV : Hid (Ats w v l)) (HU : Hid (Ats w u t)) (HZ : Hid (By w z b))
    (F1 : ∀ W, Ats W v l → Calls Try.prog 9 #[v] W fun e w' => e = .returned (.int .i64 (f : Int)) ∧ Below W.heap.size W w')
    (F2 : ∀ W, Ats W u t → Calls Try.prog 9 #[u] W fun e w' => e = .returned (.int .i64 (g : Int)) ∧ Below W.heap.size W w')
    (OV : ∀ W, Ats W v l → Ats W u t → Calls Try.prog 20 #[v, u] W fun e w' => (∃ r, e = .returned (.tuple #[r, .int .i64 (f : Int)]) ∧ Ats w' r O) ∧ Below W.heap.size W w')
    (PK : ∀ W, Ats W v l → Calls Try.prog 21 #[v] W fun e w' => (∃ p, e = .returned (.tuple #[p, .int .i64 (f : Int)]) ∧ By w' p P) ∧ Below W.heap.size W w')
    (UN : ∀ W, By W z b → Calls Try.prog 22 #[z] W fun e w' => (∃ q, e = .returned (.tuple #[q, .int .i64 (i : Int)]) ∧ Ats w' q U) ∧ Below W.heap.size W w')
    (UR : ∀ W, Calls Try.prog 23 #[.string (sOf b)] W fun e w' => (∃ q, e = .returned (.tuple #[q, .int .i64 (i : Int)]) ∧ Ats w' q U) ∧ Below W.heap.size W w')
    (SU : ∀ p q W, Ats W p U → Ats W q U → Calls Try.prog 16 #[p, q] W fun e w' => e = .returned (.bool true) ∧ Below W.heap.size W w') :
    Calls Try.prog 4 #[v, u, z] w fun e w' => e = .returned (.bool true) ∧ Below w.heap.size w w' := by
  have fg : ((f : Int) != 0) = true := bne_iff_ne.2 (by omega)
  have fe : ((f : Int) == 0) = false := beq_eq_false_iff_ne.2 (by omega)
  clear hf
  go_enter Try.func4, Try.ntmps4
  go_wp2_with fail
  refine (F1 w HV.out).mono ?_
  rintro e w1 ⟨rfl, hb⟩
  have b1 : Hid (Below w.heap.size w w1) := hb
  clear hb F1
  go_wp2_with fail
  refine (F2 w1 (HU.out.up b1.out (Nat.le_refl _))).mono ?_
  rintro e w2 ⟨rfl, hb⟩
  have b2 : Hid (Below w.heap.size w w2) := b1.out.trans (hb.mono b1.out.size)
  clear hb F2 b1
  go_wp2_with fail
  refine (OV w2 (HV.out.up b2.out (Nat.le_refl _)) (HU.out.up b2.out (Nat.le_refl _))).mono ?_
  rintro e w3 ⟨⟨r, rfl, hr⟩, hb⟩
  have b3 : Hid (Below w.heap.size w w3) := b2.out.trans (hb.mono b2.out.size)
  have O3 : Hid (Ats w3 r O) := hr
  clear hb hr OV b2
  go_wp2_with fail
  refine (PK w3 (HV.out.up b3.out (Nat.le_refl _))).mono ?_
  rintro e w4 ⟨⟨p, rfl, hp⟩, hb⟩
  have b4 : Hid (Below w.heap.size w w4) := b3.out.trans (hb.mono b3.out.size)
  have O4 : Hid (Ats w4 r O) := O3.out.up hb (Nat.le_refl _)
  have P4 : Hid (By w4 p P) := hp
  clear hb hp PK b3 O3
  go_wp2_with fail
  refine (UN w4 (HZ.out.up b4.out (Nat.le_refl _))).mono ?_
  rintro e w5 ⟨⟨q, rfl, hq⟩, hb⟩
  have b5 : Hid (Below w.heap.size w w5) := b4.out.trans (hb.mono b4.out.size)
  have O5 : Hid (Ats w5 r O) := O4.out.up hb (Nat.le_refl _)
  have P5 : Hid (By w5 p P) := P4.out.up hb (Nat.le_refl _)
  have Q5 : Hid (Ats w5 q U) := hq
  have Z5 : Hid (By w5 z b) := HZ.out.up b5.out (Nat.le_refl _)
  clear hb hq UN b4 O4 P4
  go_wp2_with (refine wp_conv rfl (.tmp 38) rfl _ b rfl Z5.out ?_)
  refine (UR w5).mono ?_
  rintro e w6 ⟨⟨s, rfl, hs⟩, hb⟩
  have b6 : Hid (Below w.heap.size w w6) := b5.out.trans (hb.mono b5.out.size)
  have O6 : Hid (Ats w6 r O) := O5.out.up hb (Nat.le_refl _)
  have P6 : Hid (By w6 p P) := P5.out.up hb (Nat.le_refl _)
  have Q6 : Hid (Ats w6 q U) := Q5.out.up hb (Nat.le_refl _)
  have S6 : Hid (Ats w6 s U) := hs
  clear hb hs UR b5 O5 P5 Q5 Z5
  go_wp2_with fail
  refine (SU q s w6 Q6.out S6.out).mono ?_
  rintro e w7 ⟨rfl, hb⟩
  have b7 : Hid (Below w.heap.size w w7) := b6.out.trans (hb.mono b6.out.size)
  have O7 : Hid (Ats w7 r O) := O6.out.up hb (Nat.le_refl _)
  have P7 : Hid (By w7 p P) := P6.out.up hb (Nat.le_refl _)
  clear hb b6 O6 P6 Q6 S6 SU
  rw [hP] at P7
  obtain ⟨pa, pc, rfl⟩ := P7.out.len
  clear hP P7
  go_wp2_with fail
  refine wp_region_monoGE [MP.eq (.int .i64 (f : Int)), MP.eq (.bool false), MP.eq (.bool false), MP.eq undef, MP.eq undef, MP.eq undef, MP.eq undef, MP.eq undef, MP.eq (.bool false), MP.eq (.bool false), MP.eq (.int .i64 (f : Int)), MP.eq (.bool true), MP.eq (.bool true), MP.eq (.slice pa 0 pc), MP.eq (.int .i64 0), MP.eq (.bool false), MP.eq (.bool false), MP.eq (.bool false)] (by kernel_rfl) (by kernel_rfl) rfl ?_
  apply Exists.intro
  refine ⟨fun vals => ?_, ?_, fun vals8 w8 hb8 hF => ?_⟩
  · simp only [putsV, dstL, List.length_cons, List.length_nil, Nat.zero_add, Nat.reduceAdd, List.getElem?_cons_zero, List.getElem?_cons_succ, Option.bind_some, Act.put, List.setIfInBounds_toArray, List.set_cons_succ, List.set_cons_zero]
    rfl
  · refine ⟨?_, ?_, ?_, ?_, ?_, ?_, ?_, ?_, ?_, ?_, ?_, ?_, ?_, ?_, ?_, ?_, ?_, ?_, trivial⟩
    · intro vals W hW hw hd
      try simp [Region.binds] at hd
      refine .inl ⟨by first | rfl | simp [Region.wanted, yielded, hd], ?_⟩
      simp [go_sem, hd]
      exact Below.refl _ _
    · intro vals W hW hw hd
      try simp [Region.binds] at hd
      refine .inl ⟨by first | rfl | simp [Region.wanted, yielded, hd], ?_⟩
      simp [go_sem, hd, fe]
      exact Below.refl _ _
    · intro vals W hW hw hd
      try simp [Region.binds] at hd
      refine .inl ⟨by first | rfl | simp [Region.wanted, yielded, hd], ?_⟩
      simp [go_sem, hd]
      exact Below.refl _ _
    · intro vals W hW hw hd
      try simp [Region.binds] at hd
      exact .inr ⟨by simp [Region.wanted, yielded, hd], rfl⟩
    · intro vals W hW hw hd
      try simp [Region.binds] at hd
      exact .inr ⟨by simp [Region.wanted, yielded, hd], rfl⟩
    · intro vals W hW hw hd
      try simp [Region.binds] at hd
      exact .inr ⟨by simp [Region.wanted, yielded, hd], rfl⟩
    · intro vals W hW hw hd
      try simp [Region.binds] at hd
      exact .inr ⟨by simp [Region.wanted, yielded, hd], rfl⟩
    · intro vals W hW hw hd
      try simp [Region.binds] at hd
      exact .inr ⟨by simp [Region.wanted, yielded, hd], rfl⟩
    · intro vals W hW hw hd
      try simp [Region.binds] at hd
      refine .inl ⟨by first | rfl | simp [Region.wanted, yielded, hd], ?_⟩
      simp [go_sem, hd]
      exact Below.refl _ _
    · intro vals W hW hw hd
      try simp [Region.binds] at hd
      refine .inl ⟨by first | rfl | simp [Region.wanted, yielded, hd], ?_⟩
      simp [go_sem, hd]
      exact Below.refl _ _
    · intro vals W hW hw hd
      try simp [Region.binds] at hd
      refine .inl ⟨by first | rfl | simp [Region.wanted, yielded, hd], ?_⟩
      simp [go_sem, hd]
      exact Below.refl _ _
    · intro vals W hW hw hd
      try simp [Region.binds] at hd
      refine .inl ⟨by first | rfl | simp [Region.wanted, yielded, hd], ?_⟩
      simp [go_sem, hd, fg]
      exact Below.refl _ _
    · intro vals W hW hw hd
      try simp [Region.binds] at hd
      refine .inl ⟨by first | rfl | simp [Region.wanted, yielded, hd], ?_⟩
      simp [go_sem, hd]
      exact Below.refl _ _
    · intro vals W hW hw hd
      try simp [Region.binds] at hd
      refine .inl ⟨by first | rfl | simp [Region.wanted, yielded, hd], ?_⟩
      simp [go_sem, hd]
      exact Below.refl _ _
    · intro vals W hW hw hd
      try simp [Region.binds] at hd
      refine .inl ⟨by first | rfl | simp [Region.wanted, yielded, hd], ?_⟩
      simp [go_sem, hd]
      exact Below.refl _ _
    · intro vals W hW hw hd
      try simp [Region.binds] at hd
      refine .inl ⟨by first | rfl | simp [Region.wanted, yielded, hd], ?_⟩
      simp [go_sem, hd]
      exact Below.refl _ _
    · intro vals W hW hw hd
      try simp [Region.binds] at hd
      refine .inl ⟨by first | rfl | simp [Region.wanted, yielded, hd], ?_⟩
      simp [go_sem, hd]
      exact Below.refl _ _
    · intro vals W hW hw hd
      try simp [Region.binds] at hd
      refine .inl ⟨by first | rfl | simp [Region.wanted, yielded, hd], ?_⟩
      simp [go_sem, hd]
      exact Below.refl _ _
  obtain ⟨f0, f1, f2, f3, f4, f5, f6, f7, f8, f9, f10, f11, f12, f13, f14, f15, f16, f17, _⟩ := hF
  simp only [MP.eq_p] at f0 f1 f2 f3 f4 f5 f6 f7 f8 f9 f10 f11 f12 f13 f14 f15 f16 f17
  have b8 : Hid (Below w.heap.size w w8) := b7.out.trans (hb8.out.mono b7.out.size)
  rw [f17]
  clear f0 f1 f2 f3 f4 f5 f6 f7 f8 f9 f10 f11 f12 f13 f14 f15 f16 f17 hb8 b7
  rw [hO] at O7
  obtain ⟨ra, rc, rfl⟩ := ats_parts O7.out
  clear hO O7
  go_wp2_with fail
  go_ret
  exact ⟨by first | rfl | simp, b8.out⟩
end
theorem unpA_small (b : List Nat) (low : ∀ x ∈ b, x < 256) : (unpA b).2.length ≤ 200 ∧ ∀ x ∈ (unpA b).2, lowB x.v := by
  have sm := readR_small b low
  rw [unpA_read]
  split
  · have lo : ∀ x ∈ (readR b).2.map arI, lowB x.v := fun x hx => by
      obtain ⟨y, hy, rfl⟩ := List.mem_map.1 hx
      exact (sm.2 y hy).2
    have ll : ((readR b).2.map arI).length ≤ 200 := by rw [List.length_map]; exact sm.1
    unfold unL
    split
    · split
      · exact ⟨ll, lo⟩
      · exact ⟨Nat.zero_le _, fun x hx => absurd hx List.not_mem_nil⟩
    · exact ⟨Nat.zero_le _, fun x hx => absurd hx List.not_mem_nil⟩
  · exact ⟨Nat.zero_le _, fun x hx => absurd hx List.not_mem_nil⟩
theorem attrPuts_of (OC : AtOverC) (PC : AtPackC) (UC : AtUnpC) (l : List Ar) (ll : lowA l) (t : List Ar) (lt : lowA t) (z : Value) (b : List Nat) (low : lowB b) (w : World) {v u : Value} (h1 : Ats w v l) (h2 : Ats w u t) (h3 : By w z b) :
    Calls Try.prog 4 #[v, u, z] w fun e w' => e = .returned (.bool true) ∧ Below w.heap.size w w' := by
  have F1 := fun W h => attrsFault_fun v l W h
  have F2 := fun W h => attrsFault_fun u t W h
  have OV := fun W h h' => OC v u l t W ll lt h h'
  have PK := fun W h => PC v l W ll h
  have UN := fun W h => UC z b W low h
  have UR := fun W => unpacked_fun b low W
  have us := unpA_small b low
  have lo : ∀ x ∈ l, lowB x.v := fun x hx => (ll x hx).2
  have tlo : ∀ x ∈ t, lowB x.v := fun x hx => (lt x hx).2
  have same : ∀ (M : List Ar), M.length ≤ 200 → (∀ x ∈ M, lowB x.v) → ∀ p q W, Ats W p M → Ats W q M → Calls Try.prog 16 #[p, q] W fun e w' => e = .returned (.bool true) ∧ Below W.heap.size W w' := fun M hM hl p q W hp hq =>
    (sameR_fun M M (by omega) hl hl p q W hp hq).mono fun e w' ⟨⟨t, he, ht⟩, hb⟩ => ⟨by rw [he, ht.2 rfl], hb⟩
  have SU := same _ us.1 us.2
  by_cases hf : fltA l = 0
  · have G := (fltA_zero l).1 hf
    have PA := fun W h => packed_fun l G.1 G.2 lo v W h
    unfold fltO at OV
    rw [hf] at F1 PK OV
    simp only [if_pos] at OV PK
    by_cases hg : fltA t = 0
    · have G2 := (fltA_zero t).1 hg
      rw [hg] at F2 OV
      simp only [if_pos] at OV
      have hol := risA_len (t ++ l)
      refine attrPuts_good l t (ovrA l t) (unpA b).2 (packA l) b v u z (unpA b).1 w h1 h2 h3 F1 F2 OV PK UN UR SU PA (fun W h => cardOf_fun l (by omega) v W h) (fun W h => cardOf_fun t (by omega) u W h) (fun W => ?_) (fun W => ?_) (same _ (by show (risA (t ++ l)).length ≤ 200; omega) fun x hx => (ovrA_lowA ll lt x hx).2)
      · have := upon_walk (crdF l) (crdF t) W
        rw [ovF_crd] at this
        exact this
      · exact attrs_fun (t ++ l) (fun x hx => by
          rcases List.mem_append.1 hx with hx | hx
          · exact tlo x hx
          · exact lo x hx) W
    · simp only [if_neg hg] at OV
      exact attrPuts_top l t [] (unpA b).2 (packA l) b v u z (fltA t) (unpA b).1 w rfl hg h1 h2 h3 F1 F2 OV PK UN UR SU PA
  · unfold fltO at OV
    simp only [if_neg hf] at OV PK
    exact attrPuts_low l t [] (unpA b).2 [] b v u z (fltA l) (fltA t) (unpA b).1 w rfl rfl hf h1 h2 h3 F1 F2 OV PK UN UR SU
end Go.Proofs.Ytohliojdmmbcdaa
