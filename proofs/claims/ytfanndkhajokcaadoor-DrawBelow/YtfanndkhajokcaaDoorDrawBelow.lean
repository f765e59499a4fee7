import Derived.Test.YtfanndkhajokcaaDoorGrp40
import Derived.Test.YtfanndkhajokcaaDoorHLaid
import Derived.Deep.LoopGhost
/- DrawBelow returns true for every seed, every number and every place. -/
namespace Go.Proofs.YtfanndkhajokcaaDoor
open Go.RowKit
open Go.ChangeShapes Go.WideShapes Go.ChangeAt
set_option linter.unusedSimpArgs false
set_option maxRecDepth 20000 in
set_option maxHeartbeats 8000000 in
theorem drawBelow_zero {Src : World → Nat → (Nat → Prop) → List Nat → Nat → Prop} (C : SrcC Src) (B : SrcB Src) (v0 : Value) (seed : List Nat) (ls : lowB seed) (zs : seed.length ≤ 140737488351232) (x : Nm) (hz : x = ⟨0, 0, 0, 0⟩) (n : Nat) (c1 : ¬ (n : Int) < 0) (c2 : ¬ 4096 < (n : Int)) (w : World) (h0 : By w v0 seed) (hK : KTab w) :
    Calls Tryd.prog 5 #[v0, N x, .int .i64 (n : Int)] w fun e w' => e = .returned (.bool true) ∧ Below w.heap.size w w' := by
  have c1b := decide_eq_false c1
  have c2b := decide_eq_false c2
  have HZ : Hid (x = ⟨0, 0, 0, 0⟩) := hz
  clear hz
  have n4 : n ≤ 4096 := by omega
  obtain ⟨x0, x1⟩ := al1 w #[Value.int IntKind.u64 x.a, Value.int IntKind.u64 x.b, Value.int IntKind.u64 x.c, Value.int IntKind.u64 x.d] 28
  have X0 : Hid (Blk _ w.heap.size (nC x)) := x0
  have X1 : Hid (Below w.heap.size w _) := x1
  have SC : Hid (SrcC Src) := C
  have SB : Hid (SrcB Src) := B
  have NW : Hid (∀ W, Below w.heap.size w W → _) := fun W hb => C.new seed ls (by omega) v0 W (h0.up hb (Nat.le_refl _)) (hK.up hb hK.pos)
  have KU : Hid (∀ w', Below w.heap.size w w' → KTab w') := fun w' hb => hK.up hb hK.pos
  have K0 : Hid (0 < w.heap.size) := hK.pos
  have N4 : Hid (n ≤ 4096) := n4
  have e0 : (0 + n) % 18446744073709551616 = n := by omega
  have E0 : Hid _ := e0
  clear h0 hK ls zs C B n4 x0 x1 e0
  go_enter Tryd.func5, Tryd.ntmps5
  go_wp2_with fail
  generalize w.alloc (Obj.cells #[Value.int IntKind.u64 x.a, Value.int IntKind.u64 x.b, Value.int IntKind.u64 x.c, Value.int IntKind.u64 x.d] 28) = w1 at *
  refine (NW.out w1 X1.out).mono ?_
  rintro e w2 ⟨⟨g, F, rfl, hg, hF, s2⟩, hb2⟩
  have S2 : Hid (Src w2 g F seed 0) := s2
  have D2 : Hid (Below w1.heap.size w1 w2) := hb2
  have A2 : Hid (w1.heap.size ≤ g ∧ g < w2.heap.size ∧ ∀ j, F j → j < w2.heap.size) := ⟨hg, SC.out.lt s2 g (SC.out.self s2), SC.out.lt s2⟩
  clear hg hF s2 hb2
  go_wp2_with fail
  refine (NW.out w2 (X1.out.trans (D2.out.mono X1.out.size))).mono ?_
  rintro e w3 ⟨⟨g', F', rfl, hg, hF, s3⟩, hb3⟩
  have S3 : Hid (Src w3 g F seed 0) := SC.out.up S2.out hb3
  have T3 : Hid (Src w3 g' F' seed 0) := s3
  have D3 : Hid (Below w1.heap.size w1 w3) := D2.out.trans (hb3.mono D2.out.size)
  have A3 : Hid (w1.heap.size ≤ g' ∧ g' < w3.heap.size ∧ ¬ F' g ∧ ¬ F g' ∧ g < w3.heap.size) := ⟨Nat.le_trans D2.out.size hg, SC.out.lt s3 g' (SC.out.self s3), fun h => absurd (hF g h) (Nat.not_le.2 A2.out.2.1), fun h => absurd (A2.out.2.2 g' h) (Nat.not_lt.2 hg), Nat.lt_of_lt_of_le A2.out.2.1 hb3.size⟩
  have SK : Hid _ := SC.out.skip n N4.out w3 S3.out (Nat.lt_of_lt_of_le K0.out (Nat.le_trans X1.out.size A2.out.1))
  have W1 : Hid (w.heap.size < w1.heap.size) := X0.out.lt
  clear hg hF s3 hb3 S2 D2
  go_wp2_with fail
  refine Calls.mono SK.out ?_
  rintro e w4 ⟨rfl, s4, fr4⟩
  rw [E0.out] at s4
  have S4 : Hid (Src w4 g F seed n) := s4
  have T4 : Hid (Src w4 g' F' seed 0) := SC.out.kept T3.out fr4 (fun j e => by cases e; exact A3.out.2.2.1)
  have D4 : Hid (Below w1.heap.size w1 w4) := D3.out.trans (fr4.below D3.out.size A2.out.1)
  have SK' : Hid _ := SC.out.skip n N4.out w4 T4.out (Nat.lt_of_lt_of_le K0.out (Nat.le_trans X1.out.size A3.out.1))
  have Z4 : Hid (w3.heap.size ≤ w4.heap.size) := fr4.size
  clear s4 fr4 SK S3 T3 D3
  go_wp2_with fail
  refine Calls.mono SK'.out ?_
  rintro e w5 ⟨rfl, s5, fr5⟩
  rw [E0.out] at s5
  have S5 : Hid (Src w5 g F seed n) := SC.out.kept S4.out fr5 (fun j e => by cases e; exact A3.out.2.2.2.1)
  have T5 : Hid (Src w5 g' F' seed n) := s5
  have D5 : Hid (Below w1.heap.size w1 w5) := D4.out.trans (fr5.below D4.out.size A3.out.1)
  have Z5 : Hid (w3.heap.size ≤ w5.heap.size) := Nat.le_trans Z4.out fr5.size
  have K5 : Hid (KTab w5) := KU.out _ (X1.out.trans (D5.out.mono X1.out.size))
  clear s5 fr5 SK' S4 T4 D4 E0 Z4
  have BE : Hid _ := SB.out.belowZero w5 S5.out
  rw [← HZ.out] at BE
  have XB5 : Hid (Blk w5 w.heap.size (nC x)) := X0.out.up D5.out W1.out
  go_wp2_with (refine wp_ldN (by kernel_rfl) (.tmp 4) rfl w.heap.size rfl x XB5.out ?_)
  refine Calls.mono BE.out ?_
  rintro e w6 ⟨rfl, hb6⟩
  have D6 : Hid (Below w5.heap.size w5 w6) := hb6
  clear hb6 BE
  have T6 : Hid (∀ C t, C.size = 4 → World.there (w6.alloc (.cells C t)) w6.heap.size 0 4) := fun C t hC => (al1 w6 C t).1.there (by rw [Array.length_toList, hC]; omega)
  go_wp2_with (refine wp_stN rfl (.tmp 9) (.tmp 42) rfl w6.heap.size rfl x rfl (T6.out _ _ rfl) ?_)
  intro w7 hw7
  obtain ⟨b7, h7⟩ : Blk w7 w6.heap.size (nC x) ∧ Below w6.heap.size w6 w7 := by
    rw [hw7.out]
    exact alst w6 _ _ _ rfl
  have E7 : Hid (Below w5.heap.size w5 w7) := D6.out.trans (h7.mono D6.out.size)
  clear hw7 b7 h7 T6 D6
  generalize w6.heap.size = kx at *
  have XB7 : Hid (Blk w7 w.heap.size (nC x)) := XB5.out.up E7.out XB5.out.lt
  have QZ : Hid (Nm.beq x ⟨0, 0, 0, 0⟩ = true) := Nm.beq_iff.2 HZ.out
  have PS : Hid (∀ W, Below w5.heap.size w5 W → _) := fun W hb => SC.out.place W (SC.out.up S5.out hb)
  have PT : Hid (∀ W, Below w5.heap.size w5 W → _) := fun W hb => SC.out.place W (SC.out.up T5.out hb)
  have FIN : Hid (∀ W, Below w5.heap.size w5 W → Below w.heap.size w W) := fun W hb => X1.out.trans ((D5.out.trans (hb.mono D5.out.size)).mono X1.out.size)
  go_wp2_with (first | refine wp_ldN (by kernel_rfl) (.tmp 4) rfl w.heap.size rfl x XB7.out ?_ | refine wp_eqN (by kernel_rfl) (.tmp 44) (.tmp 45) _ rfl x ⟨0, 0, 0, 0⟩ rfl rfl true QZ.out ?_)
  refine (PS.out w7 E7.out).mono ?_
  rintro e w8 ⟨rfl, hb8⟩
  have E8 : Hid (Below w5.heap.size w5 w8) := E7.out.trans (hb8.mono E7.out.size)
  clear hb8
  go_wp2_with fail
  refine (PT.out w8 E8.out).mono ?_
  rintro e w9 ⟨rfl, hb9⟩
  have E9 : Hid (Below w5.heap.size w5 w9) := E8.out.trans (hb9.mono E8.out.size)
  clear hb9
  go_wp2_with fail
  go_ret
  exact ⟨by simp, FIN.out _ E9.out⟩
set_option maxRecDepth 20000 in
set_option maxHeartbeats 8000000 in
theorem drawBelow_pos {Src : World → Nat → (Nat → Prop) → List Nat → Nat → Prop} (C : SrcC Src) (B : SrcB Src) (v0 : Value) (seed : List Nat) (ls : lowB seed) (zs : seed.length ≤ 140737488351232) (x : Nm) (hx : x.ok) (M k : Nat) (hM : x.nat = M) (h0M : 0 < M) (hk : BL M k) (n : Nat) (c1 : ¬ (n : Int) < 0) (c2 : ¬ 4096 < (n : Int)) (w : World) (h0 : By w v0 seed) (hK : KTab w) :
    Calls Tryd.prog 5 #[v0, N x, .int .i64 (n : Int)] w fun e w' => e = .returned (.bool true) ∧ Below w.heap.size w w' := by
  have c1b := decide_eq_false c1
  have c2b := decide_eq_false c2
  have hz : x ≠ ⟨0, 0, 0, 0⟩ := fun e => by
    subst e
    have e2 : (⟨0, 0, 0, 0⟩ : Nm).nat = 0 := rfl
    omega
  have QZ : Hid (Nm.beq x ⟨0, 0, 0, 0⟩ = false) := Nm.beq_ne hz
  have k256 : k ≤ 256 := hk.le (Nat.le_of_lt (by rw [← hM]; exact Nm.nat_lt hx))
  have K256 : Hid (k ≤ 256) := k256
  have SU : Hid _ := sub_one x hx M hM h0M
  have LE : Hid _ := len_num x hx M k hM h0M hk
  have CM : Hid _ := fun Y hY => cmp_num Y M x hx hM hY
  have BT : Hid _ := fun W F g p => B.told (seed := seed) (F := F) (k := g) (p := p) x hx M k hM h0M hk W
  clear hz k256 hx hk hM
  have n4 : n ≤ 4096 := by omega
  obtain ⟨x0, x1⟩ := al1 w #[Value.int IntKind.u64 x.a, Value.int IntKind.u64 x.b, Value.int IntKind.u64 x.c, Value.int IntKind.u64 x.d] 28
  have X0 : Hid (Blk _ w.heap.size (nC x)) := x0
  have X1 : Hid (Below w.heap.size w _) := x1
  have SC : Hid (SrcC Src) := C
  have SB : Hid (SrcB Src) := B
  have NW : Hid (∀ W, Below w.heap.size w W → _) := fun W hb => C.new seed ls (by omega) v0 W (h0.up hb (Nat.le_refl _)) (hK.up hb hK.pos)
  have KU : Hid (∀ w', Below w.heap.size w w' → KTab w') := fun w' hb => hK.up hb hK.pos
  have K0 : Hid (0 < w.heap.size) := hK.pos
  have N4 : Hid (n ≤ 4096) := n4
  have e0 : (0 + n) % 18446744073709551616 = n := by omega
  have E0 : Hid _ := e0
  clear h0 hK ls zs C B n4 x0 x1 e0
  go_enter Tryd.func5, Tryd.ntmps5
  go_wp2_with fail
  generalize w.alloc (Obj.cells #[Value.int IntKind.u64 x.a, Value.int IntKind.u64 x.b, Value.int IntKind.u64 x.c, Value.int IntKind.u64 x.d] 28) = w1 at *
  refine (NW.out w1 X1.out).mono ?_
  rintro e w2 ⟨⟨g, F, rfl, hg, hF, s2⟩, hb2⟩
  have S2 : Hid (Src w2 g F seed 0) := s2
  have D2 : Hid (Below w1.heap.size w1 w2) := hb2
  have A2 : Hid (w1.heap.size ≤ g ∧ g < w2.heap.size ∧ ∀ j, F j → j < w2.heap.size) := ⟨hg, SC.out.lt s2 g (SC.out.self s2), SC.out.lt s2⟩
  clear hg hF s2 hb2
  go_wp2_with fail
  refine (NW.out w2 (X1.out.trans (D2.out.mono X1.out.size))).mono ?_
  rintro e w3 ⟨⟨g', F', rfl, hg, hF, s3⟩, hb3⟩
  have S3 : Hid (Src w3 g F seed 0) := SC.out.up S2.out hb3
  have T3 : Hid (Src w3 g' F' seed 0) := s3
  have D3 : Hid (Below w1.heap.size w1 w3) := D2.out.trans (hb3.mono D2.out.size)
  have A3 : Hid (w1.heap.size ≤ g' ∧ g' < w3.heap.size ∧ ¬ F' g ∧ ¬ F g' ∧ g < w3.heap.size) := ⟨Nat.le_trans D2.out.size hg, SC.out.lt s3 g' (SC.out.self s3), fun h => absurd (hF g h) (Nat.not_le.2 A2.out.2.1), fun h => absurd (A2.out.2.2 g' h) (Nat.not_lt.2 hg), Nat.lt_of_lt_of_le A2.out.2.1 hb3.size⟩
  have SK : Hid _ := SC.out.skip n N4.out w3 S3.out (Nat.lt_of_lt_of_le K0.out (Nat.le_trans X1.out.size A2.out.1))
  have W1 : Hid (w.heap.size < w1.heap.size) := X0.out.lt
  clear hg hF s3 hb3 S2 D2
  go_wp2_with fail
  refine Calls.mono SK.out ?_
  rintro e w4 ⟨rfl, s4, fr4⟩
  rw [E0.out] at s4
  have S4 : Hid (Src w4 g F seed n) := s4
  have T4 : Hid (Src w4 g' F' seed 0) := SC.out.kept T3.out fr4 (fun j e => by cases e; exact A3.out.2.2.1)
  have D4 : Hid (Below w1.heap.size w1 w4) := D3.out.trans (fr4.below D3.out.size A2.out.1)
  have SK' : Hid _ := SC.out.skip n N4.out w4 T4.out (Nat.lt_of_lt_of_le K0.out (Nat.le_trans X1.out.size A3.out.1))
  have Z4 : Hid (w3.heap.size ≤ w4.heap.size) := fr4.size
  clear s4 fr4 SK S3 T3 D3
  go_wp2_with fail
  refine Calls.mono SK'.out ?_
  rintro e w5 ⟨rfl, s5, fr5⟩
  rw [E0.out] at s5
  have S5 : Hid (Src w5 g F seed n) := SC.out.kept S4.out fr5 (fun j e => by cases e; exact A3.out.2.2.2.1)
  have T5 : Hid (Src w5 g' F' seed n) := s5
  have D5 : Hid (Below w1.heap.size w1 w5) := D4.out.trans (fr5.below D4.out.size A3.out.1)
  have Z5 : Hid (w3.heap.size ≤ w5.heap.size) := Nat.le_trans Z4.out fr5.size
  have K5 : Hid (KTab w5) := KU.out _ (X1.out.trans (D5.out.mono X1.out.size))
  clear s5 fr5 SK' S4 T4 D4 E0 Z4
  obtain ⟨X, ec, TT, ht, hc, cb⟩ := BT.out w5 F g n S5.out K5.out (Nat.lt_of_lt_of_le K0.out (Nat.le_trans X1.out.size A2.out.1))
  have BE : Hid _ := cb
  obtain ⟨T, hT⟩ : ∃ T : Nat → Nat, ∀ j, T j = tryS seed n k j := ⟨_, fun _ => rfl⟩
  simp only [← hT] at hc
  have TD : Hid (∀ j, T j = leN (drawS seed ((n + 32 * j) % 18446744073709551616) 32) % 2 ^ k) := fun j => hT j
  clear hT
  have CA : Hid _ := hc
  have HT : Hid (TT ≤ 100) := ht
  have XB5 : Hid (Blk w5 w.heap.size (nC x)) := X0.out.up D5.out W1.out
  have e1 : (n + 32 * TT) % 18446744073709551616 = n + 32 * TT := by have := N4.out; omega
  rw [e1] at BE
  clear BT hc ht cb e1
  go_wp2_with (refine wp_ldN (by kernel_rfl) (.tmp 4) rfl w.heap.size rfl x XB5.out ?_)
  refine Calls.mono BE.out ?_
  rintro e w6 ⟨rfl, s6, fr6⟩
  have S6 : Hid (Src w6 g F seed (n + 32 * TT)) := s6
  have T6 : Hid (Src w6 g' F' seed n) := SC.out.kept T5.out fr6 (fun j e => by cases e; exact A3.out.2.2.1)
  have D6 : Hid (Below w1.heap.size w1 w6) := D5.out.trans (fr6.below D5.out.size A2.out.1)
  have Z6 : Hid (w3.heap.size ≤ w6.heap.size) := Nat.le_trans Z5.out fr6.size
  clear s6 fr6 BE S5 T5 D5 Z5 K5 XB5
  have TH6 : Hid (∀ C t, C.size = 4 → World.there (w6.alloc (.cells C t)) w6.heap.size 0 4) := fun C t hC => (al1 w6 C t).1.there (by rw [Array.length_toList, hC]; omega)
  go_wp2_with (refine wp_stN rfl (.tmp 9) (.tmp 42) rfl w6.heap.size rfl X rfl (TH6.out _ _ rfl) ?_)
  intro w7 hw7
  obtain ⟨b7, h7⟩ : Blk w7 w6.heap.size (nC X) ∧ Below w6.heap.size w6 w7 := by
    rw [hw7.out]
    exact alst w6 _ _ _ rfl
  have KX : Hid (g' ≠ w6.heap.size ∧ w.heap.size < w6.heap.size) := ⟨Nat.ne_of_lt (Nat.lt_of_lt_of_le A3.out.2.1 Z6.out), Nat.lt_of_lt_of_le W1.out D6.out.size⟩
  have U7 : Hid (∀ W, Below w7.heap.size w7 W → Src W g F seed (n + 32 * TT) ∧ Src W g' F' seed n ∧ Blk W w6.heap.size (nC X) ∧ Below w1.heap.size w1 W) := fun W hb =>
    ⟨SC.out.up (SC.out.up S6.out h7) hb, SC.out.up (SC.out.up T6.out h7) hb, b7.up hb b7.lt, (D6.out.trans (h7.mono D6.out.size)).trans (hb.mono (D6.out.trans (h7.mono D6.out.size)).size)⟩
  clear hw7 b7 h7 TH6 D6 S6 T6 Z6
  generalize w6.heap.size = kx at *
  have XB : Hid (∀ W, Below w1.heap.size w1 W → Blk W w.heap.size (nC x)) := fun W hb => X0.out.up hb W1.out
  have XB7 : Hid _ := XB.out w7 (U7.out w7 (Below.refl _ _)).2.2.2
  go_wp2_with (first | refine wp_ldN (by kernel_rfl) (.tmp 4) rfl w.heap.size rfl x XB7.out ?_ | refine wp_eqN (by kernel_rfl) (.tmp 44) (.tmp 45) _ rfl x ⟨0, 0, 0, 0⟩ rfl rfl false QZ.out ?_)
  refine (SU.out w7).mono ?_
  rintro e w8 ⟨⟨cy, rfl⟩, hb8⟩
  have E8 : Hid (Below w7.heap.size w7 w8) := hb8
  clear hb8
  have TH8 : Hid (∀ C t, C.size = 4 → World.there (w8.alloc (.cells C t)) w8.heap.size 0 4) := fun C t hC => (al1 w8 C t).1.there (by rw [Array.length_toList, hC]; omega)
  generalize Nm.of ((M - 1 : Nat) : Int) = top at *
  go_wp2_with (refine wp_stN rfl (.tmp 11) (.tmp 60) rfl w8.heap.size rfl top rfl (TH8.out _ _ rfl) ?_)
  intro w9 hw9
  obtain ⟨b9, h9⟩ : Blk w9 w8.heap.size (nC top) ∧ Below w8.heap.size w8 w9 := by
    rw [hw9.out]
    exact alst w8 _ _ _ rfl
  have E9 : Hid (Below w7.heap.size w7 w9) := E8.out.trans (h9.mono E8.out.size)
  have TB : Hid _ := b9
  clear hw9 b9 h9 TH8 E8
  generalize w8.heap.size = kt at *
  go_wp2_with (refine wp_ldN (by kernel_rfl) (.tmp 11) rfl kt rfl top TB.out ?_)
  refine (LE.out w9).mono ?_
  rintro e wa ⟨rfl, hba⟩
  have EA : Hid (Below w7.heap.size w7 wa) := E9.out.trans (hba.mono E9.out.size)
  clear hba E9 TB LE SU
  have UA : Hid (Src wa g F seed (n + 32 * TT) ∧ Src wa g' F' seed n ∧ Blk wa kx (nC X)) := ⟨(U7.out wa EA.out).1, (U7.out wa EA.out).2.1, (U7.out wa EA.out).2.2.1⟩
  have DA : Hid (Below w1.heap.size w1 wa) := (U7.out wa EA.out).2.2.2
  clear U7 EA
  have EC0 : Hid (ec = 0 → 0 < TT) := fun h => by
    rcases CA.out with ⟨_, t, rfl, _⟩ | ⟨_, _, rfl, _⟩ <;> omega
  have FIN : Hid (∀ W, Below w1.heap.size w1 W → Below w.heap.size w W) := fun W hb => X1.out.trans (hb.mono X1.out.size)
  go_wp2_with fail
  go_loopg [] TT (fun gk wr => ∃ j, gk + j = TT ∧ (ec = 0 → j < TT) ∧ Hid (Src wr g F seed (n + 32 * TT)) ∧ Hid (Src wr g' F' seed (n + 32 * j)) ∧ Hid (Blk wr kx (nC X)) ∧ Hid (Below w1.heap.size w1 wr))
  case atStart =>
    obtain ⟨q1, q2, q3⟩ := UA.out
    exact ⟨0, by omega, fun h => EC0.out h, q1, q2, q3, DA.out⟩
  case round =>
    clear UA DA
    obtain ⟨j, hj, ej, sr, tr, xr, dr⟩ := hrel
    obtain ⟨pS, hpS⟩ : ∃ p, p = n + 32 * TT := ⟨_, rfl⟩
    obtain ⟨pT, hpT⟩ : ∃ p, p = n + 32 * j := ⟨_, rfl⟩
    rw [← hpS] at sr
    rw [← hpT] at tr
    have HH : Hid (pS = n + 32 * TT ∧ pT = n + 32 * j ∧ gk + j = TT ∧ (ec = 0 → j < TT)) := ⟨hpS, hpT, hj, ej⟩
    clear hpS hpT hj ej
    have UR : Hid (∀ W, Below wr.heap.size wr W → Src W g F seed pS ∧ Src W g' F' seed pT ∧ Blk W kx (nC X) ∧ Below w1.heap.size w1 W) := fun W hb => ⟨SC.out.up sr.out hb, SC.out.up tr.out hb, xr.out.up hb xr.out.lt, dr.out.trans (hb.mono dr.out.size)⟩
    have PS : Hid (∀ W, Below wr.heap.size wr W → _) := fun W hb => SC.out.place W (UR.out W hb).1
    have PT : Hid (∀ W, Below wr.heap.size wr W → _) := fun W hb => SC.out.place W (UR.out W hb).2.1
    clear sr tr xr dr
    go_wp2_with fail
    refine (PT.out wr (Below.refl _ _)).mono ?_
    rintro e w10 ⟨rfl, hb10⟩
    have E10 : Hid (Below wr.heap.size wr w10) := hb10
    clear hb10 PT
    go_wp2_with fail
    refine (PS.out w10 E10.out).mono ?_
    rintro e w11 ⟨rfl, hb11⟩
    have E11 : Hid (Below wr.heap.size wr w11) := E10.out.trans (hb11.mono E10.out.size)
    clear hb11 E10
    by_cases hjT : j = TT
    · subst hjT
      obtain ⟨hpS, hpT, hj, ej⟩ := HH.out
      rcases CA.out with ⟨h, _⟩ | ⟨rfl, hX, hT, hno⟩
      · exact absurd (ej h) (Nat.lt_irrefl _)
      have QX : Hid (Nm.beq X ⟨0, 0, 0, 0⟩ = true) := Nm.beq_iff.2 hX
      have XK : Hid _ := (UR.out w11 E11.out).2.2.1
      have wA : IntKind.i64.wrap ((n : Int) + 3200) = (n : Int) + 3200 := by have := N4.out; rw [IntKind.wrap_i64]; omega
      have wB : IntKind.u64.wrap ((n : Int) + 3200) = (n : Int) + 3200 := by have := N4.out; rw [IntKind.wrap_u64]; omega
      have HS : Hid ((pS : Int) = (n : Int) + 3200) := show (pS : Int) = (n : Int) + 3200 by omega
      have eT : pT = pS := by omega
      subst eT
      clear hX hT hj ej CM hpT hpS hno HH CA EC0
      go_wp2_with (first | refine wp_ldN (by kernel_rfl) (.tmp 9) rfl kx rfl X XK.out ?_ | refine wp_eqN (by kernel_rfl) (.tmp 119) (.tmp 120) _ rfl X ⟨0, 0, 0, 0⟩ rfl rfl true QX.out ?_)
      refine (PS.out w11 E11.out).mono ?_
      rintro e w12 ⟨rfl, hb12⟩
      have E12 : Hid (Below wr.heap.size wr w12) := E11.out.trans (hb12.mono E11.out.size)
      clear hb12
      have hS := HS.out
      go_wp2_with fail
      go_ret
      exact ⟨by simp, FIN.out _ (UR.out _ E12.out).2.2.2⟩
    · obtain ⟨hpS, hpT, hj, ej⟩ := HH.out
      have ne : ¬ (pT : Int) = (pS : Int) := by omega
      have neb : ((pT : Int) == (pS : Int)) = false := by simpa using ne
      have KT : Hid (KTab w11) := KU.out _ (FIN.out _ (UR.out _ E11.out).2.2.2)
      have BY : Hid _ := SC.out.bytes 32 (by decide) w11 (UR.out _ E11.out).2.1 KT.out (Nat.lt_of_lt_of_le K0.out (Nat.le_trans X1.out.size A3.out.1))
      obtain ⟨pU, hpU⟩ : ∃ p, p = n + 32 * (j + 1) := ⟨_, rfl⟩
      have eU : (pT + 32) % 18446744073709551616 = pU := by have := N4.out; have := HT.out; omega
      rw [eU] at BY
      have TR : Hid (T j = leN (drawS seed pT 32) % 2 ^ k) := by
        have h := TD.out j
        rw [show (n + 32 * j) % 18446744073709551616 = pT by have := N4.out; have := HT.out; omega] at h
        exact h
      have LD : Hid _ := drawS_low seed pT 32
      have LL : Hid _ := drawS_length seed pT 32
      have HP : Hid (pS = n + 32 * TT ∧ pT = n + 32 * j ∧ pU = n + 32 * (j + 1) ∧ j < TT ∧ gk + j = TT) := ⟨hpS, hpT, hpU, by omega, hj⟩
      have gtU : ¬ (pS : Int) < (pU : Int) := by omega
      generalize drawS seed pT 32 = bs at *
      clear hj ej hpT hpS hpU eU hjT KT HH
      go_wp2_with fail
      refine Calls.mono BY.out ?_
      rintro e w12 ⟨⟨v12, rfl, ob12⟩, t12, fr12⟩
      have B12 : Hid (By w12 v12 bs) := ob12.by
      have U12 : Hid (∀ W, Below w12.heap.size w12 W → Src W g F seed pS ∧ Src W g' F' seed pU ∧ Blk W kx (nC X) ∧ Below w1.heap.size w1 W) := fun W hb => by
        obtain ⟨q1, q2, q3, q4⟩ := UR.out _ E11.out
        have d := q4.trans (fr12.below q4.size A3.out.1)
        have x12 := q3.fr fr12 (Ne.symm KX.out.1)
        exact ⟨SC.out.up (SC.out.kept q1 fr12 (fun j e => by cases e; exact A3.out.2.2.2.1)) hb, SC.out.up t12 hb, x12.up hb x12.lt, d.trans (hb.mono d.size)⟩
      have PS2 : Hid (∀ W, Below w12.heap.size w12 W → _) := fun W hb => SC.out.place W (U12.out W hb).1
      have PT2 : Hid (∀ W, Below w12.heap.size w12 W → _) := fun W hb => SC.out.place W (U12.out W hb).2.1
      clear ob12 t12 fr12 BY UR PS E11 ne neb
      go_wp2_with fail
      refine (PT2.out w12 (Below.refl _ _)).mono ?_
      rintro e w13 ⟨rfl, hb13⟩
      have E13 : Hid (Below w12.heap.size w12 w13) := hb13
      clear hb13
      go_wp2_with fail
      refine (PS2.out w13 E13.out).mono ?_
      rintro e w14 ⟨rfl, hb14⟩
      have E14 : Hid (Below w12.heap.size w12 w14) := E13.out.trans (hb14.mono E13.out.size)
      clear hb14 E13
      have BA : Hid (∀ C t, By (w14.alloc (.cells C t)) v12 bs) := fun C t => B12.out.up (E14.out.trans ((al1 w14 C t).2.mono E14.out.size)) (Nat.le_refl _)
      have LP : Hid (0 < bs.length) := show 0 < bs.length by rw [LL.out]; decide
      have TA : Hid (∀ C t, C.size = 32 → World.there (w14.alloc (.cells C t)) w14.heap.size 0 (min bs.length 32)) := fun C t hC => (al1 w14 C t).1.there (by rw [LL.out, Array.length_toList, hC]; decide)
      go_wp2_with (refine wp_copyB rfl (.tmp 83) (.tmp 84) rfl w14.heap.size 0 32 32 v12 bs rfl rfl (BA.out _ _) LP.out (TA.out _ _ rfl) ?_)
      intro w15 hw15
      obtain ⟨b15, h15⟩ : Blk w15 w14.heap.size (bs.map b8) ∧ Below w14.heap.size w14 w15 := by
        have e1 : bs.take 32 = bs := List.take_of_length_le (by rw [LL.out]; exact Nat.le_refl _)
        have e2 : (bs.map b8).take 32 = bs.map b8 := List.take_of_length_le (by rw [List.length_map, LL.out]; exact Nat.le_refl _)
        rw [hw15.out]
        first | rw [e1] | rw [e2]
        exact alst w14 _ _ _ (by rw [List.length_map, LL.out]; rfl)
      have B15 : Hid _ := b15
      have E15 : Hid (Below w12.heap.size w12 w15) := E14.out.trans (h15.mono E14.out.size)
      clear hw15 b15 h15 E14 BA TA B12
      generalize w14.heap.size = kd at *
      have ID : Hid _ := info_d32.trans (congrArg some (show 32 = (bs.map b8).length by rw [List.length_map, LL.out]))
      have ON : Hid _ := of_num bs LL.out LD.out
      have XL : Hid (leN bs < 2 ^ 256) := Nat.lt_of_lt_of_le (leN_lt bs LD.out) (by rw [LL.out]; decide)
      go_wp2_with (refine wpList_load_mid rfl 47 (.tmp 16) rfl kd 0 rfl (bs.map b8) _ B15.out.all u_d32 rfl ID.out ?_)
      refine (ON.out w15).mono ?_
      rintro e w16 ⟨rfl, hb16⟩
      have E16 : Hid (Below w12.heap.size w12 w16) := E15.out.trans (hb16.mono E15.out.size)
      clear hb16 E15 B15 ON ID LD LL LP
      generalize leN bs = L at *
      have TH : Hid (∀ C t, C.size = 4 → World.there (w16.alloc (.cells C t)) w16.heap.size 0 4) := fun C t hC => (al1 w16 C t).1.there (by rw [Array.length_toList, hC]; omega)
      go_wp2_with (refine wp_stN rfl (.tmp 17) (.tmp 87) rfl w16.heap.size rfl (Nm.of (L : Int)) rfl (TH.out _ _ rfl) ?_)
      intro w17 hw17
      obtain ⟨b17, h17⟩ : Blk w17 w16.heap.size (nC (Nm.of (L : Int))) ∧ Below w16.heap.size w16 w17 := by
        rw [hw17.out]
        exact alst w16 _ _ _ rfl
      have Y17 : Hid _ := b17
      have KY : Hid (w12.heap.size ≤ w16.heap.size) := E16.out.size
      have E17 : Hid (Below w12.heap.size w12 w17) := E16.out.trans (h17.mono E16.out.size)
      clear hw17 b17 h17 E16 TH
      generalize w16.heap.size = ky at *
      by_cases hk0 : k = 0
      · subst hk0
        have ZT : Hid (T j = 0) := show T j = 0 by rw [TR.out, Nat.pow_zero, Nat.mod_one]
        have T17 : Hid (w17.there ky 0 4) := Y17.out.there (by simp [nC])
        go_wp2_with (refine wp_stN rfl (.tmp 17) (.tmp 90) rfl ky rfl (Nm.of ((0 : Nat) : Int)) rfl T17.out ?_)
        intro w20 hw20
        have Y20 : Hid (Blk w20 ky (nC (Nm.of ((0 : Nat) : Int)))) := by rw [hw20.out]; exact Y17.out.num _
        have E20 : Hid (Below w12.heap.size w12 w20) := by rw [hw20.out]; exact below_setCells _ _ _ E17.out KY.out
        rw [← ZT.out] at Y20
        have ZL : Hid (T j < 2 ^ 256) := show T j < 2 ^ 256 by rw [ZT.out]; decide
        clear hw20 T17 Y17 E17 TR ZT
        have CZ : Hid _ := CM.out (T j) ZL.out w20
        have XB20 : Hid _ := XB.out w20 (U12.out _ E20.out).2.2.2
        obtain ⟨Y, hY⟩ : ∃ Y, Y = Nm.of ((T j : Nat) : Int) := ⟨_, rfl⟩
        rw [← hY] at Y20 CZ
        have HY : Hid (Y = Nm.of ((T j : Nat) : Int)) := hY
        clear hY
        go_wp2_with (first | refine wp_ldN (by kernel_rfl) (.tmp 17) rfl ky rfl Y Y20.out ?_ | refine wp_ldN (by kernel_rfl) (.tmp 4) rfl w.heap.size rfl x XB20.out ?_)
        refine Calls.mono CZ.out ?_
        rintro e w21 ⟨rfl, hb21⟩
        have E21 : Hid (Below w12.heap.size w12 w21) := E20.out.trans (hb21.mono E20.out.size)
        have Y21 : Hid (Blk w21 ky (nC Y)) := Y20.out.up hb21 Y20.out.lt
        clear hb21 E20 Y20 CZ XB20 XB
        by_cases hlt : T j < M
        · have c0 : cmpN (T j) M < 0 := cmpN_lt.2 hlt
          have hh := HP.out
          obtain ⟨rfl, eX, eS⟩ : ec = 0 ∧ X = Y ∧ pS = pU := by
            rcases CA.out with ⟨h1, t, h2, h3, h4, h5⟩ | ⟨_, _, h2, h3⟩
            · have : j = t := by
                rcases Nat.lt_trichotomy j t with h | h | h
                · exact absurd hlt (h5 j h)
                · exact h
                · omega
              subst this
              exact ⟨h1, h3.trans HY.out.symm, by omega⟩
            · exact absurd hlt (h3 j (by omega))
          subst eS
          have X21 : Hid (Blk w21 kx (nC X)) := (U12.out _ E21.out).2.2.1
          have QX : Hid (Nm.beq X Y = true) := Nm.beq_iff.2 eX
          generalize cmpN (T j) M = cc at *
          clear hh eX hlt HY HP CA
          go_wp2_with (first | refine wp_ldN (by kernel_rfl) (.tmp 9) rfl kx rfl X X21.out ?_ | refine wp_ldN (by kernel_rfl) (.tmp 17) rfl ky rfl Y Y21.out ?_ | refine wp_eqN (by kernel_rfl) (.tmp 105) (.tmp 106) _ rfl X Y rfl rfl true QX.out ?_)
          refine (PT2.out w21 E21.out).mono ?_
          rintro e w22 ⟨rfl, hb22⟩
          have E22 : Hid (Below w12.heap.size w12 w22) := E21.out.trans (hb22.mono E21.out.size)
          clear hb22
          go_wp2_with fail
          refine (PS2.out w22 E22.out).mono ?_
          rintro e w23 ⟨rfl, hb23⟩
          have E23 : Hid (Below w12.heap.size w12 w23) := E22.out.trans (hb23.mono E22.out.size)
          clear hb23
          go_wp2_with fail
          go_ret
          exact ⟨by simp, FIN.out _ (U12.out _ E23.out).2.2.2⟩
        · have c0 : ¬ cmpN (T j) M < 0 := fun h => hlt (cmpN_lt.1 h)
          have NX : Hid (ec = 0 → j + 1 < TT) := fun h => by
            have hh := HP.out
            rcases CA.out with ⟨h1, t, h2, h3, h4, h5⟩ | ⟨h1, _⟩
            · have : j ≠ t := fun e => hlt (by rw [e]; exact h4)
              omega
            · omega
          generalize cmpN (T j) M = cc at *
          clear HY hlt
          go_wp2_with fail
          go_roundg (gk - 1)
          case measure =>
            have hh := HP.out
            omega
          case rel =>
            have hh := HP.out
            obtain ⟨q1, q2, q3, q4⟩ := U12.out _ E21.out
            exact ⟨j + 1, by omega, NX.out, by rw [← hh.1]; exact q1, by rw [← hh.2.2.1]; exact q2, q3, q4⟩
      · have k0 : ¬ (k : Int) = 0 := by omega
        have k0b : ((k : Int) == 0) = false := by simpa using k0
        have k1 := K256.out
        have wk : IntKind.i64.wrap (256 - (k : Int)) = 256 - (k : Int) := by rw [IntKind.wrap_i64]; omega
        have wk' : IntKind.i64.wrap ((k : Int) - 256) = (k : Int) - 256 := by rw [IntKind.wrap_i64]; omega
        have SU : Hid _ := shift_up L k XL.out (by omega) k1
        have SD : Hid _ := shift_dn L k (by omega) k1
        clear k1 hk0
        generalize Nm.of ((L % 2 ^ k * 2 ^ (256 - k) : Nat) : Int) = Y1 at *
        have ZL : Hid (L % 2 ^ k < 2 ^ 256) := Nat.lt_of_lt_of_le (Nat.mod_lt _ (Nat.two_pow_pos k)) (Nat.pow_le_pow_right (by decide) K256.out)
        rw [← TR.out] at SD ZL
        go_wp2_with (refine wp_ldN (by kernel_rfl) (.tmp 17) rfl ky rfl (Nm.of (L : Int)) Y17.out ?_)
        refine (SU.out w17).mono ?_
        rintro e w18 ⟨rfl, hb18⟩
        have E18 : Hid (Below w12.heap.size w12 w18) := E17.out.trans (hb18.mono E17.out.size)
        have Y18 : Hid (Blk w18 ky (nC (Nm.of (L : Int)))) := Y17.out.up hb18 Y17.out.lt
        clear hb18 E17 Y17 SU
        go_wp2_with fail
        refine (SD.out w18).mono ?_
        rintro e w19 ⟨rfl, hb19⟩
        have E19 : Hid (Below w12.heap.size w12 w19) := E18.out.trans (hb19.mono E18.out.size)
        have Y19 : Hid (Blk w19 ky (nC (Nm.of (L : Int)))) := Y18.out.up hb19 Y18.out.lt
        have T19 : Hid (w19.there ky 0 4) := Y19.out.there (by simp [nC])
        clear hb19 E18 Y18 SD
        go_wp2_with (refine wp_stN rfl (.tmp 17) (.tmp 97) rfl ky rfl (Nm.of ((T j : Nat) : Int)) rfl T19.out ?_)
        intro w20 hw20
        have Y20 : Hid (Blk w20 ky (nC (Nm.of ((T j : Nat) : Int)))) := by rw [hw20.out]; exact Y19.out.num _
        have E20 : Hid (Below w12.heap.size w12 w20) := by rw [hw20.out]; exact below_setCells _ _ _ E19.out KY.out
        clear hw20 T19 Y19 E19 TR
        have CZ : Hid _ := CM.out (T j) ZL.out w20
        have XB20 : Hid _ := XB.out w20 (U12.out _ E20.out).2.2.2
        obtain ⟨Y, hY⟩ : ∃ Y, Y = Nm.of ((T j : Nat) : Int) := ⟨_, rfl⟩
        rw [← hY] at Y20 CZ
        have HY : Hid (Y = Nm.of ((T j : Nat) : Int)) := hY
        clear hY
        go_wp2_with (first | refine wp_ldN (by kernel_rfl) (.tmp 17) rfl ky rfl Y Y20.out ?_ | refine wp_ldN (by kernel_rfl) (.tmp 4) rfl w.heap.size rfl x XB20.out ?_)
        refine Calls.mono CZ.out ?_
        rintro e w21 ⟨rfl, hb21⟩
        have E21 : Hid (Below w12.heap.size w12 w21) := E20.out.trans (hb21.mono E20.out.size)
        have Y21 : Hid (Blk w21 ky (nC Y)) := Y20.out.up hb21 Y20.out.lt
        clear hb21 E20 Y20 CZ XB20 XB
        by_cases hlt : T j < M
        · have c0 : cmpN (T j) M < 0 := cmpN_lt.2 hlt
          have hh := HP.out
          obtain ⟨rfl, eX, eS⟩ : ec = 0 ∧ X = Y ∧ pS = pU := by
            rcases CA.out with ⟨h1, t, h2, h3, h4, h5⟩ | ⟨_, _, h2, h3⟩
            · have : j = t := by
                rcases Nat.lt_trichotomy j t with h | h | h
                · exact absurd hlt (h5 j h)
                · exact h
                · omega
              subst this
              exact ⟨h1, h3.trans HY.out.symm, by omega⟩
            · exact absurd hlt (h3 j (by omega))
          subst eS
          have X21 : Hid (Blk w21 kx (nC X)) := (U12.out _ E21.out).2.2.1
          have QX : Hid (Nm.beq X Y = true) := Nm.beq_iff.2 eX
          generalize cmpN (T j) M = cc at *
          clear hh eX hlt HY HP CA
          go_wp2_with (first | refine wp_ldN (by kernel_rfl) (.tmp 9) rfl kx rfl X X21.out ?_ | refine wp_ldN (by kernel_rfl) (.tmp 17) rfl ky rfl Y Y21.out ?_ | refine wp_eqN (by kernel_rfl) (.tmp 105) (.tmp 106) _ rfl X Y rfl rfl true QX.out ?_)
          refine (PT2.out w21 E21.out).mono ?_
          rintro e w22 ⟨rfl, hb22⟩
          have E22 : Hid (Below w12.heap.size w12 w22) := E21.out.trans (hb22.mono E21.out.size)
          clear hb22
          go_wp2_with fail
          refine (PS2.out w22 E22.out).mono ?_
          rintro e w23 ⟨rfl, hb23⟩
          have E23 : Hid (Below w12.heap.size w12 w23) := E22.out.trans (hb23.mono E22.out.size)
          clear hb23
          go_wp2_with fail
          go_ret
          exact ⟨by simp, FIN.out _ (U12.out _ E23.out).2.2.2⟩
        · have c0 : ¬ cmpN (T j) M < 0 := fun h => hlt (cmpN_lt.1 h)
          have NX : Hid (ec = 0 → j + 1 < TT) := fun h => by
            have hh := HP.out
            rcases CA.out with ⟨h1, t, h2, h3, h4, h5⟩ | ⟨h1, _⟩
            · have : j ≠ t := fun e => hlt (by rw [e]; exact h4)
              omega
            · omega
          generalize cmpN (T j) M = cc at *
          clear HY hlt
          go_wp2_with fail
          go_roundg (gk - 1)
          case measure =>
            have hh := HP.out
            omega
          case rel =>
            have hh := HP.out
            obtain ⟨q1, q2, q3, q4⟩ := U12.out _ E21.out
            exact ⟨j + 1, by omega, NX.out, by rw [← hh.1]; exact q1, by rw [← hh.2.2.1]; exact q2, q3, q4⟩
theorem drawBelow_of {Src : World → Nat → (Nat → Prop) → List Nat → Nat → Prop} (C : SrcC Src) (B : SrcB Src) (v0 : Value) (seed : List Nat) (ls : lowB seed) (zs : seed.length ≤ 140737488351232) (x : Nm) (hx : x.ok) (i : Int) (w : World) (h0 : By w v0 seed) (hK : KTab w) :
    Calls Tryd.prog 5 #[v0, N x, .int .i64 i] w fun e w' => e = .returned (.bool true) ∧ Below w.heap.size w w' := by
  by_cases c1 : i < 0
  · have c1b := decide_eq_true c1
    have X1 : Hid (Below w.heap.size w _) := (al1 w #[Value.int IntKind.u64 x.a, Value.int IntKind.u64 x.b, Value.int IntKind.u64 x.c, Value.int IntKind.u64 x.d] 28).2
    clear h0 hK ls zs C B hx
    go_enter Tryd.func5, Tryd.ntmps5
    go_wp2_with fail
    go_ret
    exact ⟨rfl, X1.out⟩
  · by_cases c2 : 4096 < i
    · have c1b := decide_eq_false c1
      have c2b := decide_eq_true c2
      have X1 : Hid (Below w.heap.size w _) := (al1 w #[Value.int IntKind.u64 x.a, Value.int IntKind.u64 x.b, Value.int IntKind.u64 x.c, Value.int IntKind.u64 x.d] 28).2
      clear h0 hK ls zs C B hx
      go_enter Tryd.func5, Tryd.ntmps5
      go_wp2_with fail
      go_ret
      exact ⟨rfl, X1.out⟩
    · obtain ⟨n, rfl⟩ := Int.eq_ofNat_of_zero_le (show 0 ≤ i by omega)
      rcases Nat.eq_zero_or_pos x.nat with h | h
      · refine drawBelow_zero C B v0 seed ls zs x (Nm.ext_nat hx ?_ h) n c1 c2 w h0 hK
        constructor <;> simp [Word]
      · exact drawBelow_pos C B v0 seed ls zs x hx x.nat _ rfl h (len_bl h) n c1 c2 w h0 hK
end Go.Proofs.YtfanndkhajokcaaDoor
